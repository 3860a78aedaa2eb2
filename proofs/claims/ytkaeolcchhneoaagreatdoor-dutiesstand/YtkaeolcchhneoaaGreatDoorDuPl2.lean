/-
  Duties, plain: the next day on which something becomes another; a state found day by day. No program.
-/
import Derived.Test.YtkaeolcchhneoaaGreatDoorDuPl
namespace Go.Proofs.YtkaeolcchhneoaaGreatDoor

/-! The next day. -/
def nxtD (on : Int) : List Du → Int → Int
  | [], m => m
  | d :: l, m => nxtD on l (if on < d.frm then min m d.frm else m)
def nxtS : List St → Int → Int
  | [], m => m
  | s :: l, m => nxtS l (if s.st = 0 then min m (s.d.til + 1) else m)
theorem nxtD_spec (on : Int) : ∀ (l : List Du) (m : Int), nxtD on l m ≤ m ∧ (∀ d, d ∈ l → on < d.frm → nxtD on l m ≤ d.frm) ∧ (nxtD on l m = m ∨ ∃ d, d ∈ l ∧ on < d.frm ∧ nxtD on l m = d.frm)
  | [], m => ⟨Int.le_refl _, fun d h => (nomatch h), .inl rfl⟩
  | x :: l, m => by
    obtain ⟨h1, h2, h3⟩ := nxtD_spec on l (if on < x.frm then min m x.frm else m)
    rw [nxtD]
    generalize nxtD on l (if on < x.frm then min m x.frm else m) = z at *
    by_cases hc : on < x.frm
    · rw [if_pos hc] at h1 h3
      refine ⟨by omega, fun d hd hf => ?_, ?_⟩
      · rcases List.mem_cons.1 hd with rfl | hd
        · omega
        · exact h2 d hd hf
      · rcases h3 with h3 | ⟨d, hd, h3⟩
        · by_cases hm : m ≤ x.frm
          · left; omega
          · right; exact ⟨x, by simp, hc, by omega⟩
        · exact .inr ⟨d, List.mem_cons_of_mem _ hd, h3⟩
    · rw [if_neg hc] at h1 h3
      refine ⟨h1, fun d hd hf => ?_, ?_⟩
      · rcases List.mem_cons.1 hd with rfl | hd
        · exact absurd hf hc
        · exact h2 d hd hf
      · rcases h3 with h3 | ⟨d, hd, h3⟩
        · exact .inl h3
        · exact .inr ⟨d, List.mem_cons_of_mem _ hd, h3⟩
theorem nxtS_spec : ∀ (l : List St) (m : Int), nxtS l m ≤ m ∧ (∀ s, s ∈ l → s.st = 0 → nxtS l m ≤ s.d.til + 1) ∧ (nxtS l m = m ∨ ∃ s, s ∈ l ∧ s.st = 0 ∧ nxtS l m = s.d.til + 1)
  | [], m => ⟨Int.le_refl _, fun d h => (nomatch h), .inl rfl⟩
  | x :: l, m => by
    obtain ⟨h1, h2, h3⟩ := nxtS_spec l (if x.st = 0 then min m (x.d.til + 1) else m)
    rw [nxtS]
    generalize nxtS l (if x.st = 0 then min m (x.d.til + 1) else m) = z at *
    by_cases hc : x.st = 0
    · rw [if_pos hc] at h1 h3
      refine ⟨by omega, fun d hd hf => ?_, ?_⟩
      · rcases List.mem_cons.1 hd with rfl | hd
        · omega
        · exact h2 d hd hf
      · rcases h3 with h3 | ⟨d, hd, h3⟩
        · by_cases hm : m ≤ x.d.til + 1
          · left; omega
          · right; exact ⟨x, by simp, hc, by omega⟩
        · exact .inr ⟨d, List.mem_cons_of_mem _ hd, h3⟩
    · rw [if_neg hc] at h1 h3
      refine ⟨h1, fun d hd hf => ?_, ?_⟩
      · rcases List.mem_cons.1 hd with rfl | hd
        · exact absurd hf hc
        · exact h2 d hd hf
      · rcases h3 with h3 | ⟨d, hd, h3⟩
        · exact .inl h3
        · exact .inr ⟨d, List.mem_cons_of_mem _ hd, h3⟩
def nextL (ins : Du → Du) (ev : List Ev) (on : Int) (l : List Du) : Int := nxtS (statesL ins ev on l) (nxtD on l 3652060)
theorem upE_up {ev : List Ev} {on x : Int} (h : on ≤ x) : upE (upE ev on) x = upE ev on := by
  unfold upE
  rw [List.filter_filter]
  congr 1
  funext e
  by_cases h1 : e.day ≤ on
  · simp [h1, show e.day ≤ x by omega]
  · simp [h1]
theorem stP_due {ev : List Ev} {on : Int} {d : Du} {of : Int} (h : (stP ev on d of).st = 0) : on ≤ d.til := by
  unfold stP stOf at h
  (repeat' split at h) <;> simp only at h <;> omega
theorem stP_on {ev : List Ev} {on x : Int} {d : Du} {of : Int} (hx : on ≤ x) (h : (stP ev on d of).st = 0 → x ≤ d.til) : stP (upE ev on) x d of = stP ev on d of := by
  have h0 := stP_due (ev := ev) (on := on) (d := d) (of := of)
  unfold stP at *
  rw [upE_up hx]
  generalize fst0 d false (upE ev on) = a at *
  generalize fst0 d true (upE ev on) = b at *
  unfold stOf at *
  by_cases h1 : b.2 = true ∧ (a.2 = false ∨ b.1 ≤ a.1)
  · rw [if_pos h1, if_pos h1]
  · rw [if_neg h1] at *
    rw [if_neg h1] at *
    by_cases h2 : a.2 = true ∧ a.1 ≤ d.til
    · rw [if_pos h2, if_pos h2]
    · rw [if_neg h2] at *
      rw [if_neg h2] at *
      by_cases h3 : a.2 = true
      · rw [if_pos h3, if_pos h3]
      · rw [if_neg h3] at *
        rw [if_neg h3] at *
        by_cases h4 : d.til < on
        · rw [if_pos h4, if_pos (by omega)]
        · rw [if_neg h4] at *
          have := h rfl
          rw [if_neg (by omega)]
theorem othL_on {ins : Du → Du} {ev : List Ev} {on x : Int} (hx : on ≤ x) : ∀ (l : List St) (k : Nat), (∀ s, s ∈ othL ins ev on l k → s.st = 0 → x ≤ s.d.til) → othL ins (upE ev on) x l k = othL ins ev on l k
  | [], k, _ => rfl
  | s :: l, k, h => by
    rw [othL, othL]
    rw [othL] at h
    by_cases hb : isBad s = true
    · rw [if_pos hb] at h
      rw [if_pos hb, if_pos hb]
      rw [othL_on hx l (k + 1) (fun t ht => h t (List.mem_cons_of_mem _ ht)), stP_on hx (fun h0 => by
        have := h _ (List.mem_cons_self ..) h0
        rwa [(stP_d ..).1] at this)]
    · rw [if_neg hb] at h
      rw [if_neg hb, if_neg hb]
      exact othL_on hx l (k + 1) h
/-- NOTHING BECOMES ANOTHER ahead of that day. -/
theorem next_still {ins : Du → Du} {ev : List Ev} {on x : Int} {l : List Du} (hx : on ≤ x) (h : x < nextL ins ev on l) : statesL ins (upE ev on) x l = statesL ins ev on l := by
  have h1 := nxtD_spec on l 3652060
  have h2 := nxtS_spec (statesL ins ev on l) (nxtD on l 3652060)
  unfold nextL at h
  have hown : ownL (upE ev on) x l = ownL ev on l := by
    unfold ownL
    have hf : (l.filter fun d => decide (d.frm ≤ x)) = l.filter fun d => decide (d.frm ≤ on) := by
      refine List.filter_congr fun d hd => ?_
      have := h1.2.1 d hd
      by_cases hc : d.frm ≤ on
      · simp [hc, show d.frm ≤ x by omega]
      · have := this (by omega)
        simp [hc, show ¬ d.frm ≤ x by omega]
    rw [hf]
    refine List.map_congr_left fun d hd => stP_on hx fun h0 => ?_
    obtain ⟨hd1, hd2⟩ := List.mem_filter.1 hd
    have := h2.2.1 _ (own_mem (ins := ins) (ev := ev) (on := on) hd1 (by simpa using hd2)) h0
    rw [(stP_d ..).1] at this
    omega
  unfold statesL
  rw [hown, othL_on hx _ _ (fun s hs h0 => by
    have := h2.2.1 s (List.mem_append_right _ hs) h0
    omega)]
/-- SOMETHING DOES on that day. -/
theorem next_moved {ins : Du → Du} {ev : List Ev} {on : Int} {l : List Du} (h : nextL ins ev on l ≤ 3652059) : on < nextL ins ev on l ∧ statesL ins (upE ev on) (nextL ins ev on l) l ≠ statesL ins ev on l := by
  have h1 := nxtD_spec on l 3652060
  have h2 := nxtS_spec (statesL ins ev on l) (nxtD on l 3652060)
  have hN : nextL ins ev on l = nxtS (statesL ins ev on l) (nxtD on l 3652060) := rfl
  rw [← hN] at h2
  generalize nextL ins ev on l = x at *
  rcases h2.2.2 with e | ⟨s, hs, h0, e⟩
  · rcases h1.2.2 with e' | ⟨d, hd, hf, e'⟩
    · omega
    · have ex : x = d.frm := by omega
      refine ⟨by omega, fun heq => ?_⟩
      have hm := own_mem (ins := ins) (ev := upE ev on) (on := x) hd (by omega)
      rw [heq] at hm
      obtain ⟨d', hd', hf', he⟩ := mem_statesL_own hm (by rw [(stP_d ..).2]; omega)
      have := congrArg St.d he
      rw [(stP_d ..).1, (stP_d ..).1] at this
      rw [← this] at hf'
      omega
  · have hdue : on ≤ s.d.til := by
      rcases List.mem_append.1 hs with hs | hs
      · obtain ⟨d, _, _, rfl⟩ := mem_ownL.1 hs
        rw [(stP_d ..).1]
        exact stP_due h0
      · obtain ⟨t, _, j, rfl⟩ := mem_othL hs
        rw [(stP_d ..).1]
        exact stP_due h0
    refine ⟨by omega, fun heq => ?_⟩
    rw [← heq] at hs
    have : x ≤ s.d.til := by
      rcases List.mem_append.1 hs with hs | hs
      · obtain ⟨d, _, _, rfl⟩ := mem_ownL.1 hs
        rw [(stP_d ..).1]
        exact stP_due h0
      · obtain ⟨t, _, j, rfl⟩ := mem_othL hs
        rw [(stP_d ..).1]
        exact stP_due h0
    omega

/-! A state, day by day. -/
/-- No event counts ahead of a day. -/
def Non (d : Du) (ev : List Ev) (x : Int) : Prop := ∀ wv e, e ∈ ev → mtB d wv e = true → x ≤ e.day
/-- Was it done, let off on a day? -/
def atB (d : Du) (wv : Bool) (x : Int) (e : Ev) : Bool := decide (e.day = x) && decide (e.nm = d.nm) && decide (e.who = d.who) && (e.wv == wv)
def anyB (d : Du) (wv : Bool) (x : Int) (ev : List Ev) : Bool := ev.any (atB d wv x)
theorem non_from (d : Du) (ev : List Ev) : Non d ev d.frm := fun _ _ _ h => (mtB_iff.1 h).2.2.2
theorem atB_mt {d : Du} {wv : Bool} {x : Int} {e : Ev} (hx : d.frm ≤ x) : atB d wv x e = true ↔ mtB d wv e = true ∧ e.day = x := by
  rw [mtB_iff]
  unfold atB
  simp only [Bool.and_eq_true, beq_iff_eq, decide_eq_true_eq]
  constructor
  · rintro ⟨⟨⟨h1, h2⟩, h3⟩, h4⟩
    exact ⟨⟨h4, h2, h3, by omega⟩, h1⟩
  · rintro ⟨⟨h1, h2, h3, _⟩, h4⟩
    exact ⟨⟨⟨h4, h2⟩, h3⟩, h1⟩
theorem any_fst {d : Du} {wv : Bool} {x on : Int} {ev : List Ev} (hx : d.frm ≤ x) (ho : x ≤ on) (hn : Non d ev x) :
    (anyB d wv x ev = true → fst0 d wv (upE ev on) = (x, true)) ∧ (anyB d wv x ev = false → (fst0 d wv (upE ev on)).2 = true → x < (fst0 d wv (upE ev on)).1) := by
  constructor
  · intro h
    obtain ⟨e, he, hm⟩ := List.any_eq_true.1 h
    obtain ⟨h1, h2⟩ := (atB_mt hx).1 hm
    exact fstIs_uniq (fst0_spec ..) ⟨fun hf => (nomatch hf), fun _ => ⟨⟨e, mem_upE.2 ⟨he, by omega⟩, h1, h2⟩, fun y hy hm' => hn wv y (mem_upE.1 hy).1 hm'⟩⟩
  · intro h ht
    have hs := fst0_spec d wv (upE ev on)
    obtain ⟨e, he, hm, hd⟩ := (hs.yes ht).1
    obtain ⟨he1, _⟩ := mem_upE.1 he
    have h1 := hn wv e he1 hm
    rcases Int.lt_or_eq_of_le h1 with h2 | h2
    · omega
    · have : anyB d wv x ev = true := List.any_eq_true.2 ⟨e, he1, (atB_mt hx).2 ⟨hm, h2.symm⟩⟩
      rw [h] at this; cases this
theorem day_off {d : Du} {x on of : Int} {ev : List Ev} (hx : d.frm ≤ x) (ho : x ≤ on) (hn : Non d ev x) (h : anyB d true x ev = true) : stP ev on d of = ⟨d, 4, x, of⟩ := by
  have h1 := (any_fst hx ho hn).1 h
  have h2 := fst0_spec d false (upE ev on)
  unfold stP stOf
  rw [h1]
  rw [if_pos]
  refine ⟨rfl, ?_⟩
  cases hb : (fst0 d false (upE ev on)).2 with
  | false => exact .inl rfl
  | true =>
    obtain ⟨e, he, hm, hd⟩ := (h2.yes hb).1
    have := hn false e (mem_upE.1 he).1 hm
    right
    show x ≤ _
    omega
theorem day_done {d : Du} {x on of : Int} {ev : List Ev} (hx : d.frm ≤ x) (ho : x ≤ on) (hn : Non d ev x) (h0 : anyB d true x ev = false) (h : anyB d false x ev = true) : stP ev on d of = if x ≤ d.til then ⟨d, 1, x, of⟩ else ⟨d, 2, x, of⟩ := by
  have h1 := (any_fst hx ho hn).1 h
  have h2 := (any_fst hx ho hn).2 h0
  unfold stP stOf
  rw [h1]
  rw [if_neg]
  · simp
  · rintro ⟨hb, hc | hc⟩
    · cases hc
    · have := h2 hb
      have hc : (fst0 d true (upE ev on)).1 ≤ x := hc
      omega
theorem day_next {d : Du} {x : Int} {ev : List Ev} (hx : d.frm ≤ x) (hn : Non d ev x) (h0 : anyB d true x ev = false) (h : anyB d false x ev = false) : Non d ev (x + 1) := by
  intro wv e he hm
  have h1 := hn wv e he hm
  rcases Int.lt_or_eq_of_le h1 with h2 | h2
  · omega
  · have : anyB d wv x ev = true := List.any_eq_true.2 ⟨e, he, (atB_mt hx).2 ⟨hm, h2.symm⟩⟩
    cases wv
    · rw [h] at this; cases this
    · rw [h0] at this; cases this
theorem day_end {d : Du} {x on of : Int} {ev : List Ev} (ho : on < x) (hn : Non d ev x) : stP ev on d of = if d.til < on then ⟨d, 3, d.til + 1, of⟩ else ⟨d, 0, d.frm, of⟩ := by
  have h : ∀ wv, (fst0 d wv (upE ev on)).2 = false := fun wv => by
    have hs := fst0_spec d wv (upE ev on)
    cases hb : (fst0 d wv (upE ev on)).2 with
    | false => rfl
    | true =>
      obtain ⟨e, he, hm, _⟩ := (hs.yes hb).1
      obtain ⟨he1, he2⟩ := mem_upE.1 he
      have := hn wv e he1 hm
      omega
  unfold stP stOf
  rw [h true, h false]
  simp
/-- What is broken or late was to be done ahead. -/
theorem bad_til {ev : List Ev} {on of : Int} {d : Du} (h : (stP ev on d of).st = 3 ∨ (stP ev on d of).st = 2) : d.til < on := by
  have hs := fst0_spec d false (upE ev on)
  unfold stP stOf at h
  by_cases h1 : (fst0 d true (upE ev on)).2 = true ∧ ((fst0 d false (upE ev on)).2 = false ∨ (fst0 d true (upE ev on)).1 ≤ (fst0 d false (upE ev on)).1)
  · rw [if_pos h1] at h; simp at h
  · rw [if_neg h1] at h
    by_cases h2 : (fst0 d false (upE ev on)).2 = true ∧ (fst0 d false (upE ev on)).1 ≤ d.til
    · rw [if_pos h2] at h; simp at h
    · rw [if_neg h2] at h
      by_cases h3 : (fst0 d false (upE ev on)).2 = true
      · obtain ⟨e, he, _, hd⟩ := (hs.yes h3).1
        obtain ⟨_, he2⟩ := mem_upE.1 he
        have : ¬ (fst0 d false (upE ev on)).1 ≤ d.til := fun h4 => h2 ⟨h3, h4⟩
        omega
      · rw [if_neg h3] at h
        by_cases h4 : d.til < on
        · exact h4
        · rw [if_neg h4] at h; simp at h
end Go.Proofs.YtkaeolcchhneoaaGreatDoor
