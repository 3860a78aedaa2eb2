/-
  Duties, plain: what is told of them on a day, by what is done up to it. No program.
-/
import Derived.RowKit
namespace Go.Proofs.YtkaeolcchhneoaaDoor

/-- A duty; an event; a state. -/
structure Du where
  nm : ByteArray
  who : ByteArray
  frm : Int
  til : Int
  els : ByteArray
  n : Int
  u : Int
  r : Int
  deriving DecidableEq
structure Ev where
  day : Int
  nm : ByteArray
  who : ByteArray
  wv : Bool
  deriving DecidableEq
structure St where
  d : Du
  st : Int
  day : Int
  of : Int
  deriving DecidableEq

/-- Does an event count for a duty? -/
def mtB (d : Du) (wv : Bool) (e : Ev) : Bool := (e.wv == wv) && decide (e.nm = d.nm) && decide (e.who = d.who) && decide (d.frm ≤ e.day)
theorem mtB_iff {d : Du} {wv : Bool} {e : Ev} : mtB d wv e = true ↔ e.wv = wv ∧ e.nm = d.nm ∧ e.who = d.who ∧ d.frm ≤ e.day := by
  unfold mtB
  simp only [Bool.and_eq_true, beq_iff_eq, decide_eq_true_eq, and_assoc]
/-- The first day, as the program finds it. -/
def fstF (d : Du) (wv : Bool) : List Ev → Int × Bool → Int × Bool
  | [], a => a
  | e :: l, a => fstF d wv l (if mtB d wv e = true ∧ (a.2 = false ∨ e.day < a.1) then (e.day, true) else a)
theorem fstF_cons (d : Du) (wv : Bool) (e : Ev) (l : List Ev) (a : Int × Bool) : fstF d wv (e :: l) a = fstF d wv l (if mtB d wv e = true ∧ (a.2 = false ∨ e.day < a.1) then (e.day, true) else a) := rfl
/-- What the first day is. -/
structure FstIs (d : Du) (wv : Bool) (l : List Ev) (a : Int × Bool) : Prop where
  no : a.2 = false → a.1 = 0 ∧ ∀ e, e ∈ l → mtB d wv e = false
  yes : a.2 = true → (∃ e, e ∈ l ∧ mtB d wv e = true ∧ e.day = a.1) ∧ ∀ e, e ∈ l → mtB d wv e = true → a.1 ≤ e.day
theorem fstIs_step {d : Du} {wv : Bool} {l : List Ev} {a : Int × Bool} (h : FstIs d wv l a) (e : Ev) : FstIs d wv (l ++ [e]) (if mtB d wv e = true ∧ (a.2 = false ∨ e.day < a.1) then (e.day, true) else a) := by
  split
  · rename_i hc
    refine ⟨fun hf => (nomatch hf), fun _ => ⟨⟨e, by simp, hc.1, rfl⟩, fun x hx hm => ?_⟩⟩
    rcases List.mem_append.1 hx with hx | hx
    · rcases hc.2 with hf | hf
      · rw [(h.no hf).2 x hx] at hm; cases hm
      · cases ha : a.2 with
        | false => rw [(h.no ha).2 x hx] at hm; cases hm
        | true =>
          have := (h.yes ha).2 x hx hm
          show e.day ≤ x.day
          omega
    · obtain rfl : x = e := by simpa using hx
      exact Int.le_refl _
  · rename_i hc
    refine ⟨fun hf => ⟨(h.no hf).1, fun x hx => ?_⟩, fun ht => ⟨?_, fun x hx hm => ?_⟩⟩
    · rcases List.mem_append.1 hx with hx | hx
      · exact (h.no hf).2 x hx
      · obtain rfl : x = e := by simpa using hx
        cases hm : mtB d wv x with
        | false => rfl
        | true => exact absurd ⟨hm, .inl hf⟩ hc
    · obtain ⟨x, hx, hm, hd⟩ := (h.yes ht).1
      exact ⟨x, List.mem_append_left _ hx, hm, hd⟩
    · rcases List.mem_append.1 hx with hx | hx
      · exact (h.yes ht).2 x hx hm
      · obtain rfl : x = e := by simpa using hx
        rcases Int.lt_or_le x.day a.1 with hlt | hle
        · exact absurd ⟨hm, .inr hlt⟩ hc
        · exact hle
theorem fstF_spec (d : Du) (wv : Bool) : ∀ (l l0 : List Ev) (a : Int × Bool), FstIs d wv l0 a → FstIs d wv (l0 ++ l) (fstF d wv l a)
  | [], l0, a, h => by simpa [fstF] using h
  | e :: l, l0, a, h => by
    rw [fstF_cons]
    have := fstF_spec d wv l (l0 ++ [e]) _ (fstIs_step h e)
    rwa [List.append_assoc] at this
def fst0 (d : Du) (wv : Bool) (l : List Ev) : Int × Bool := fstF d wv l (0, false)
theorem fst0_spec (d : Du) (wv : Bool) (l : List Ev) : FstIs d wv l (fst0 d wv l) := by
  have := fstF_spec d wv l [] (0, false) ⟨fun _ => ⟨rfl, fun e h => (nomatch h)⟩, fun h => (nomatch h)⟩
  unfold fst0
  simpa using this
theorem fstIs_uniq {d : Du} {wv : Bool} {l : List Ev} {a b : Int × Bool} (h : FstIs d wv l a) (k : FstIs d wv l b) : a = b := by
  obtain ⟨a1, a2⟩ := a
  obtain ⟨b1, b2⟩ := b
  cases a2 with
  | false =>
    cases b2 with
    | false =>
      have h1 : a1 = 0 := (h.no rfl).1
      have h2 : b1 = 0 := (k.no rfl).1
      rw [h1, h2]
    | true =>
      obtain ⟨e, he, hm, _⟩ := (k.yes rfl).1
      rw [(h.no rfl).2 e he] at hm; cases hm
  | true =>
    cases b2 with
    | false =>
      obtain ⟨e, he, hm, _⟩ := (h.yes rfl).1
      rw [(k.no rfl).2 e he] at hm; cases hm
    | true =>
      obtain ⟨e, he, hm, hd⟩ := (h.yes rfl).1
      obtain ⟨f, hf, hn, hg⟩ := (k.yes rfl).1
      have h1 := (h.yes rfl).2 f hf hn
      have h2 := (k.yes rfl).2 e he hm
      simp only at hd hg h1 h2
      have : a1 = b1 := by omega
      rw [this]

/-- What is known of what was done and let off: the state. -/
def stOf (d : Du) (of on : Int) (a b : Int × Bool) : St :=
  if b.2 = true ∧ (a.2 = false ∨ b.1 ≤ a.1) then ⟨d, 4, b.1, of⟩
  else if a.2 = true ∧ a.1 ≤ d.til then ⟨d, 1, a.1, of⟩
  else if a.2 = true then ⟨d, 2, a.1, of⟩
  else if d.til < on then ⟨d, 3, d.til + 1, of⟩
  else ⟨d, 0, d.frm, of⟩
theorem stOf_d (d : Du) (of on : Int) (a b : Int × Bool) : (stOf d of on a b).d = d ∧ (stOf d of on a b).of = of := by
  unfold stOf
  (repeat' split) <;> exact ⟨rfl, rfl⟩
/-- The events up to a day. -/
def upE (ev : List Ev) (on : Int) : List Ev := ev.filter fun e => decide (e.day ≤ on)
theorem mem_upE {ev : List Ev} {on : Int} {e : Ev} : e ∈ upE ev on ↔ e ∈ ev ∧ e.day ≤ on := by
  unfold upE; rw [List.mem_filter, decide_eq_true_eq]
def stP (ev : List Ev) (on : Int) (d : Du) (of : Int) : St := stOf d of on (fst0 d false (upE ev on)) (fst0 d true (upE ev on))
theorem stP_d (ev : List Ev) (on : Int) (d : Du) (of : Int) : (stP ev on d of).d = d ∧ (stP ev on d of).of = of := stOf_d ..
def isBad (s : St) : Bool := decide (s.d.els ≠ ByteArray.empty) && (decide (s.st = 3) || decide (s.st = 2))
/-- What is to be done instead; behind each state. -/
def othL (ins : Du → Du) (ev : List Ev) (on : Int) : List St → Nat → List St
  | [], _ => []
  | s :: l, k => if isBad s = true then stP ev on (ins s.d) k :: othL ins ev on l (k + 1) else othL ins ev on l (k + 1)
def ownL (ev : List Ev) (on : Int) (l : List Du) : List St := (l.filter fun d => decide (d.frm ≤ on)).map fun d => stP ev on d (-1)
/-- THE STATES. -/
def statesL (ins : Du → Du) (ev : List Ev) (on : Int) (l : List Du) : List St := ownL ev on l ++ othL ins ev on (ownL ev on l) 0
theorem mem_ownL {ev : List Ev} {on : Int} {l : List Du} {s : St} : s ∈ ownL ev on l ↔ ∃ d, d ∈ l ∧ d.frm ≤ on ∧ s = stP ev on d (-1) := by
  unfold ownL
  rw [List.mem_map]
  constructor
  · rintro ⟨d, hd, rfl⟩
    obtain ⟨h1, h2⟩ := List.mem_filter.1 hd
    exact ⟨d, h1, by simpa using h2, rfl⟩
  · rintro ⟨d, h1, h2, rfl⟩
    exact ⟨d, List.mem_filter.2 ⟨h1, by simpa using h2⟩, rfl⟩
theorem mem_othL {ins : Du → Du} {ev : List Ev} {on : Int} : ∀ {l : List St} {k : Nat} {s : St}, s ∈ othL ins ev on l k → ∃ t, t ∈ l ∧ ∃ j : Nat, s = stP ev on (ins t.d) j
  | [], _, s, h => by cases h
  | t :: l, k, s, h => by
    rw [othL] at h
    split at h
    · rcases List.mem_cons.1 h with rfl | h
      · exact ⟨t, by simp, k, rfl⟩
      · obtain ⟨t', h1, h2⟩ := mem_othL h
        exact ⟨t', List.mem_cons_of_mem _ h1, h2⟩
    · obtain ⟨t', h1, h2⟩ := mem_othL h
      exact ⟨t', List.mem_cons_of_mem _ h1, h2⟩
theorem mem_statesL_own {ins : Du → Du} {ev : List Ev} {on : Int} {l : List Du} {s : St} (h : s ∈ statesL ins ev on l) (ho : s.of < 0) : ∃ d, d ∈ l ∧ d.frm ≤ on ∧ s = stP ev on d (-1) := by
  rcases List.mem_append.1 h with h | h
  · exact mem_ownL.1 h
  · obtain ⟨t, _, j, rfl⟩ := mem_othL h
    rw [(stP_d ..).2] at ho
    omega
theorem own_mem {ins : Du → Du} {ev : List Ev} {on : Int} {l : List Du} {d : Du} (hd : d ∈ l) (hf : d.frm ≤ on) : stP ev on d (-1) ∈ statesL ins ev on l :=
  List.mem_append_left _ (mem_ownL.2 ⟨d, hd, hf, rfl⟩)

/-! What is done is done. -/
theorem fst_later {d : Du} {wv : Bool} {ev : List Ev} {on later : Int} (hl : on ≤ later) :
    ((fst0 d wv (upE ev on)).2 = true → fst0 d wv (upE ev later) = fst0 d wv (upE ev on) ∧ (fst0 d wv (upE ev on)).1 ≤ on) ∧
    ((fst0 d wv (upE ev on)).2 = false → (fst0 d wv (upE ev later)).2 = true → on < (fst0 d wv (upE ev later)).1) := by
  have h1 := fst0_spec d wv (upE ev on)
  have h2 := fst0_spec d wv (upE ev later)
  generalize fst0 d wv (upE ev on) = a at *
  generalize fst0 d wv (upE ev later) = b at *
  constructor
  · intro ha
    obtain ⟨e, he, hm, hd⟩ := (h1.yes ha).1
    obtain ⟨he1, he2⟩ := mem_upE.1 he
    refine ⟨fstIs_uniq h2 ⟨fun hf => (by rw [ha] at hf; cases hf), fun _ => ⟨⟨e, mem_upE.2 ⟨he1, by omega⟩, hm, hd⟩, fun x hx hn => ?_⟩⟩, by omega⟩
    obtain ⟨hx1, hx2⟩ := mem_upE.1 hx
    rcases Int.lt_or_le on x.day with h | h
    · omega
    · exact (h1.yes ha).2 x (mem_upE.2 ⟨hx1, h⟩) hn
  · intro ha hb
    obtain ⟨e, he, hm, hd⟩ := (h2.yes hb).1
    obtain ⟨he1, he2⟩ := mem_upE.1 he
    rcases Int.lt_or_le on e.day with h | h
    · omega
    · rw [(h1.no ha).2 e (mem_upE.2 ⟨he1, h⟩)] at hm; cases hm
theorem st_later {d : Du} {of : Int} {ev : List Ev} {on later : Int} (hl : on ≤ later) (h0 : (stP ev on d of).st ≠ 0) (h3 : (stP ev on d of).st ≠ 3) : stP ev later d of = stP ev on d of := by
  have ha := fst_later (d := d) (wv := false) (ev := ev) hl
  have hb := fst_later (d := d) (wv := true) (ev := ev) hl
  unfold stP at *
  generalize fst0 d false (upE ev on) = a at *
  generalize fst0 d true (upE ev on) = b at *
  generalize fst0 d false (upE ev later) = a' at *
  generalize fst0 d true (upE ev later) = b' at *
  obtain ⟨a1, a2⟩ := a
  obtain ⟨b1, b2⟩ := b
  obtain ⟨a1', a2'⟩ := a'
  obtain ⟨b1', b2'⟩ := b'
  simp only at ha hb
  unfold stOf at *
  simp only at *
  cases a2 <;> cases b2
  · simp at h0 h3
    by_cases hc : d.til < on
    · simp [hc] at h3
    · simp [hc] at h0
  · obtain ⟨e, _⟩ := hb.1 rfl
    injection e with e1 e2
    rw [e1, e2]
    have hq : b1 ≤ on := (hb.1 rfl).2
    cases a2'
    · simp
    · have := ha.2 rfl rfl
      simp [show b1 ≤ a1' by omega]
  · obtain ⟨e, _⟩ := ha.1 rfl
    injection e with e1 e2
    rw [e1, e2]
    have hq : a1 ≤ on := (ha.1 rfl).2
    cases b2'
    · simp
    · have := hb.2 rfl rfl
      simp [show ¬ b1' ≤ a1 by omega]
  · obtain ⟨e, _⟩ := ha.1 rfl
    injection e with e1 e2
    obtain ⟨e', _⟩ := hb.1 rfl
    injection e' with e3 e4
    rw [e1, e2, e3, e4]
    simp
/-- WHAT IS DONE IS DONE. -/
theorem done_firm {ins : Du → Du} {ev : List Ev} {on later : Int} {l : List Du} {s : St} (hl : on ≤ later) (h : s ∈ statesL ins ev on l) (h0 : s.st ≠ 0) (h3 : s.st ≠ 3) (ho : s.of < 0) : s ∈ statesL ins ev later l := by
  obtain ⟨d, hd, hf, rfl⟩ := mem_statesL_own h ho
  rw [← st_later hl h0 h3]
  exact own_mem hd (by omega)
end Go.Proofs.YtkaeolcchhneoaaDoor
