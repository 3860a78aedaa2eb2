/-
  Duties, plain: what is told of them on a day, by what is done up to it. No program.
-/
import Derived.RowKit
import Derived.Test.YtkaeolcchhneoaaGreatDoorProg
import Derived.WalkKit
import Derived.Below
import Derived.Outline
import Derived.Laws.OwnMore
import Derived.OneCell
import Derived.Deep.OwnRows
import Derived.Deep.MidRow
import Derived.Maps.AppendAt
import Derived.Deep.QuietTactic
import Derived.BigQuiet
import Derived.Deep.RegionLaw
import Derived.Deep.RegionWith
import Derived.Deep.DeepCutAuto
namespace Go.Proofs.YtkaeolcchhneoaaGreatDoor

/-- A duty; an event; a state. -/
structure Du where
  nm : ByteArray
  who : ByteArray
  frm : Int
  til : Int
  els : ByteArray
  n : Int
  u : Int
  r : Int
  deriving DecidableEq
structure Ev where
  day : Int
  nm : ByteArray
  who : ByteArray
  wv : Bool
  deriving DecidableEq
structure St where
  d : Du
  st : Int
  day : Int
  of : Int
  deriving DecidableEq

/-- Does an event count for a duty? -/
def mtB (d : Du) (wv : Bool) (e : Ev) : Bool := (e.wv == wv) && decide (e.nm = d.nm) && decide (e.who = d.who) && decide (d.frm ≤ e.day)
theorem mtB_iff {d : Du} {wv : Bool} {e : Ev} : mtB d wv e = true ↔ e.wv = wv ∧ e.nm = d.nm ∧ e.who = d.who ∧ d.frm ≤ e.day := by
  unfold mtB
  simp only [Bool.and_eq_true, beq_iff_eq, decide_eq_true_eq, and_assoc]
/-- The first day, as the program finds it. -/
def fstF (d : Du) (wv : Bool) : List Ev → Int × Bool → Int × Bool
  | [], a => a
  | e :: l, a => fstF d wv l (if mtB d wv e = true ∧ (a.2 = false ∨ e.day < a.1) then (e.day, true) else a)
theorem fstF_cons (d : Du) (wv : Bool) (e : Ev) (l : List Ev) (a : Int × Bool) : fstF d wv (e :: l) a = fstF d wv l (if mtB d wv e = true ∧ (a.2 = false ∨ e.day < a.1) then (e.day, true) else a) := rfl
/-- What the first day is. -/
structure FstIs (d : Du) (wv : Bool) (l : List Ev) (a : Int × Bool) : Prop where
  no : a.2 = false → a.1 = 0 ∧ ∀ e, e ∈ l → mtB d wv e = false
  yes : a.2 = true → (∃ e, e ∈ l ∧ mtB d wv e = true ∧ e.day = a.1) ∧ ∀ e, e ∈ l → mtB d wv e = true → a.1 ≤ e.day
theorem fstIs_step {d : Du} {wv : Bool} {l : List Ev} {a : Int × Bool} (h : FstIs d wv l a) (e : Ev) : FstIs d wv (l ++ [e]) (if mtB d wv e = true ∧ (a.2 = false ∨ e.day < a.1) then (e.day, true) else a) := by
  split
  · rename_i hc
    refine ⟨fun hf => (nomatch hf), fun _ => ⟨⟨e, by simp, hc.1, rfl⟩, fun x hx hm => ?_⟩⟩
    rcases List.mem_append.1 hx with hx | hx
    · rcases hc.2 with hf | hf
      · rw [(h.no hf).2 x hx] at hm; cases hm
      · cases ha : a.2 with
        | false => rw [(h.no ha).2 x hx] at hm; cases hm
        | true =>
          have := (h.yes ha).2 x hx hm
          show e.day ≤ x.day
          omega
    · obtain rfl : x = e := by simpa using hx
      exact Int.le_refl _
  · rename_i hc
    refine ⟨fun hf => ⟨(h.no hf).1, fun x hx => ?_⟩, fun ht => ⟨?_, fun x hx hm => ?_⟩⟩
    · rcases List.mem_append.1 hx with hx | hx
      · exact (h.no hf).2 x hx
      · obtain rfl : x = e := by simpa using hx
        cases hm : mtB d wv x with
        | false => rfl
        | true => exact absurd ⟨hm, .inl hf⟩ hc
    · obtain ⟨x, hx, hm, hd⟩ := (h.yes ht).1
      exact ⟨x, List.mem_append_left _ hx, hm, hd⟩
    · rcases List.mem_append.1 hx with hx | hx
      · exact (h.yes ht).2 x hx hm
      · obtain rfl : x = e := by simpa using hx
        rcases Int.lt_or_le x.day a.1 with hlt | hle
        · exact absurd ⟨hm, .inr hlt⟩ hc
        · exact hle
theorem fstF_spec (d : Du) (wv : Bool) : ∀ (l l0 : List Ev) (a : Int × Bool), FstIs d wv l0 a → FstIs d wv (l0 ++ l) (fstF d wv l a)
  | [], l0, a, h => by simpa [fstF] using h
  | e :: l, l0, a, h => by
    rw [fstF_cons]
    have := fstF_spec d wv l (l0 ++ [e]) _ (fstIs_step h e)
    rwa [List.append_assoc] at this
def fst0 (d : Du) (wv : Bool) (l : List Ev) : Int × Bool := fstF d wv l (0, false)
theorem fst0_spec (d : Du) (wv : Bool) (l : List Ev) : FstIs d wv l (fst0 d wv l) := by
  have := fstF_spec d wv l [] (0, false) ⟨fun _ => ⟨rfl, fun e h => (nomatch h)⟩, fun h => (nomatch h)⟩
  unfold fst0
  simpa using this
theorem fstIs_uniq {d : Du} {wv : Bool} {l : List Ev} {a b : Int × Bool} (h : FstIs d wv l a) (k : FstIs d wv l b) : a = b := by
  obtain ⟨a1, a2⟩ := a
  obtain ⟨b1, b2⟩ := b
  cases a2 with
  | false =>
    cases b2 with
    | false =>
      have h1 : a1 = 0 := (h.no rfl).1
      have h2 : b1 = 0 := (k.no rfl).1
      rw [h1, h2]
    | true =>
      obtain ⟨e, he, hm, _⟩ := (k.yes rfl).1
      rw [(h.no rfl).2 e he] at hm; cases hm
  | true =>
    cases b2 with
    | false =>
      obtain ⟨e, he, hm, _⟩ := (h.yes rfl).1
      rw [(k.no rfl).2 e he] at hm; cases hm
    | true =>
      obtain ⟨e, he, hm, hd⟩ := (h.yes rfl).1
      obtain ⟨f, hf, hn, hg⟩ := (k.yes rfl).1
      have h1 := (h.yes rfl).2 f hf hn
      have h2 := (k.yes rfl).2 e he hm
      simp only at hd hg h1 h2
      have : a1 = b1 := by omega
      rw [this]

/-- What is known of what was done and let off: the state. -/
def stOf (d : Du) (of on : Int) (a b : Int × Bool) : St :=
  if b.2 = true ∧ (a.2 = false ∨ b.1 ≤ a.1) then ⟨d, 4, b.1, of⟩
  else if a.2 = true ∧ a.1 ≤ d.til then ⟨d, 1, a.1, of⟩
  else if a.2 = true then ⟨d, 2, a.1, of⟩
  else if d.til < on then ⟨d, 3, d.til + 1, of⟩
  else ⟨d, 0, d.frm, of⟩
theorem stOf_d (d : Du) (of on : Int) (a b : Int × Bool) : (stOf d of on a b).d = d ∧ (stOf d of on a b).of = of := by
  unfold stOf
  (repeat' split) <;> exact ⟨rfl, rfl⟩
/-- The events up to a day. -/
def upE (ev : List Ev) (on : Int) : List Ev := ev.filter fun e => decide (e.day ≤ on)
theorem mem_upE {ev : List Ev} {on : Int} {e : Ev} : e ∈ upE ev on ↔ e ∈ ev ∧ e.day ≤ on := by
  unfold upE; rw [List.mem_filter, decide_eq_true_eq]
def stP (ev : List Ev) (on : Int) (d : Du) (of : Int) : St := stOf d of on (fst0 d false (upE ev on)) (fst0 d true (upE ev on))
theorem stP_d (ev : List Ev) (on : Int) (d : Du) (of : Int) : (stP ev on d of).d = d ∧ (stP ev on d of).of = of := stOf_d ..
def isBad (s : St) : Bool := decide (s.d.els ≠ ByteArray.empty) && (decide (s.st = 3) || decide (s.st = 2))
/-- What is to be done instead; behind each state. -/
def othL (ins : Du → Du) (ev : List Ev) (on : Int) : List St → Nat → List St
  | [], _ => []
  | s :: l, k => if isBad s = true then stP ev on (ins s.d) k :: othL ins ev on l (k + 1) else othL ins ev on l (k + 1)
def ownL (ev : List Ev) (on : Int) (l : List Du) : List St := (l.filter fun d => decide (d.frm ≤ on)).map fun d => stP ev on d (-1)
/-- THE STATES. -/
def statesL (ins : Du → Du) (ev : List Ev) (on : Int) (l : List Du) : List St := ownL ev on l ++ othL ins ev on (ownL ev on l) 0
theorem mem_ownL {ev : List Ev} {on : Int} {l : List Du} {s : St} : s ∈ ownL ev on l ↔ ∃ d, d ∈ l ∧ d.frm ≤ on ∧ s = stP ev on d (-1) := by
  unfold ownL
  rw [List.mem_map]
  constructor
  · rintro ⟨d, hd, rfl⟩
    obtain ⟨h1, h2⟩ := List.mem_filter.1 hd
    exact ⟨d, h1, by simpa using h2, rfl⟩
  · rintro ⟨d, h1, h2, rfl⟩
    exact ⟨d, List.mem_filter.2 ⟨h1, by simpa using h2⟩, rfl⟩
theorem mem_othL {ins : Du → Du} {ev : List Ev} {on : Int} : ∀ {l : List St} {k : Nat} {s : St}, s ∈ othL ins ev on l k → ∃ t, t ∈ l ∧ ∃ j : Nat, s = stP ev on (ins t.d) j
  | [], _, s, h => by cases h
  | t :: l, k, s, h => by
    rw [othL] at h
    split at h
    · rcases List.mem_cons.1 h with rfl | h
      · exact ⟨t, by simp, k, rfl⟩
      · obtain ⟨t', h1, h2⟩ := mem_othL h
        exact ⟨t', List.mem_cons_of_mem _ h1, h2⟩
    · obtain ⟨t', h1, h2⟩ := mem_othL h
      exact ⟨t', List.mem_cons_of_mem _ h1, h2⟩
theorem mem_statesL_own {ins : Du → Du} {ev : List Ev} {on : Int} {l : List Du} {s : St} (h : s ∈ statesL ins ev on l) (ho : s.of < 0) : ∃ d, d ∈ l ∧ d.frm ≤ on ∧ s = stP ev on d (-1) := by
  rcases List.mem_append.1 h with h | h
  · exact mem_ownL.1 h
  · obtain ⟨t, _, j, rfl⟩ := mem_othL h
    rw [(stP_d ..).2] at ho
    omega
theorem own_mem {ins : Du → Du} {ev : List Ev} {on : Int} {l : List Du} {d : Du} (hd : d ∈ l) (hf : d.frm ≤ on) : stP ev on d (-1) ∈ statesL ins ev on l :=
  List.mem_append_left _ (mem_ownL.2 ⟨d, hd, hf, rfl⟩)

/-! What is done is done. -/
theorem fst_later {d : Du} {wv : Bool} {ev : List Ev} {on later : Int} (hl : on ≤ later) :
    ((fst0 d wv (upE ev on)).2 = true → fst0 d wv (upE ev later) = fst0 d wv (upE ev on) ∧ (fst0 d wv (upE ev on)).1 ≤ on) ∧
    ((fst0 d wv (upE ev on)).2 = false → (fst0 d wv (upE ev later)).2 = true → on < (fst0 d wv (upE ev later)).1) := by
  have h1 := fst0_spec d wv (upE ev on)
  have h2 := fst0_spec d wv (upE ev later)
  generalize fst0 d wv (upE ev on) = a at *
  generalize fst0 d wv (upE ev later) = b at *
  constructor
  · intro ha
    obtain ⟨e, he, hm, hd⟩ := (h1.yes ha).1
    obtain ⟨he1, he2⟩ := mem_upE.1 he
    refine ⟨fstIs_uniq h2 ⟨fun hf => (by rw [ha] at hf; cases hf), fun _ => ⟨⟨e, mem_upE.2 ⟨he1, by omega⟩, hm, hd⟩, fun x hx hn => ?_⟩⟩, by omega⟩
    obtain ⟨hx1, hx2⟩ := mem_upE.1 hx
    rcases Int.lt_or_le on x.day with h | h
    · omega
    · exact (h1.yes ha).2 x (mem_upE.2 ⟨hx1, h⟩) hn
  · intro ha hb
    obtain ⟨e, he, hm, hd⟩ := (h2.yes hb).1
    obtain ⟨he1, he2⟩ := mem_upE.1 he
    rcases Int.lt_or_le on e.day with h | h
    · omega
    · rw [(h1.no ha).2 e (mem_upE.2 ⟨he1, h⟩)] at hm; cases hm
theorem st_later {d : Du} {of : Int} {ev : List Ev} {on later : Int} (hl : on ≤ later) (h0 : (stP ev on d of).st ≠ 0) (h3 : (stP ev on d of).st ≠ 3) : stP ev later d of = stP ev on d of := by
  have ha := fst_later (d := d) (wv := false) (ev := ev) hl
  have hb := fst_later (d := d) (wv := true) (ev := ev) hl
  unfold stP at *
  generalize fst0 d false (upE ev on) = a at *
  generalize fst0 d true (upE ev on) = b at *
  generalize fst0 d false (upE ev later) = a' at *
  generalize fst0 d true (upE ev later) = b' at *
  obtain ⟨a1, a2⟩ := a
  obtain ⟨b1, b2⟩ := b
  obtain ⟨a1', a2'⟩ := a'
  obtain ⟨b1', b2'⟩ := b'
  simp only at ha hb
  unfold stOf at *
  simp only at *
  cases a2 <;> cases b2
  · simp at h0 h3
    by_cases hc : d.til < on
    · simp [hc] at h3
    · simp [hc] at h0
  · obtain ⟨e, _⟩ := hb.1 rfl
    injection e with e1 e2
    rw [e1, e2]
    have hq : b1 ≤ on := (hb.1 rfl).2
    cases a2'
    · simp
    · have := ha.2 rfl rfl
      simp [show b1 ≤ a1' by omega]
  · obtain ⟨e, _⟩ := ha.1 rfl
    injection e with e1 e2
    rw [e1, e2]
    have hq : a1 ≤ on := (ha.1 rfl).2
    cases b2'
    · simp
    · have := hb.2 rfl rfl
      simp [show ¬ b1' ≤ a1 by omega]
  · obtain ⟨e, _⟩ := ha.1 rfl
    injection e with e1 e2
    obtain ⟨e', _⟩ := hb.1 rfl
    injection e' with e3 e4
    rw [e1, e2, e3, e4]
    simp
/-- WHAT IS DONE IS DONE. -/
theorem done_firm {ins : Du → Du} {ev : List Ev} {on later : Int} {l : List Du} {s : St} (hl : on ≤ later) (h : s ∈ statesL ins ev on l) (h0 : s.st ≠ 0) (h3 : s.st ≠ 3) (ho : s.of < 0) : s ∈ statesL ins ev later l := by
  obtain ⟨d, hd, hf, rfl⟩ := mem_statesL_own h ho
  rw [← st_later hl h0 h3]
  exact own_mem hd (by omega)
end Go.Proofs.YtkaeolcchhneoaaGreatDoor
namespace Go.Proofs.YtkaeolcchhneoaaGreatDoor

/-! The next day. -/
def nxtD (on : Int) : List Du → Int → Int
  | [], m => m
  | d :: l, m => nxtD on l (if on < d.frm then min m d.frm else m)
def nxtS : List St → Int → Int
  | [], m => m
  | s :: l, m => nxtS l (if s.st = 0 then min m (s.d.til + 1) else m)
theorem nxtD_spec (on : Int) : ∀ (l : List Du) (m : Int), nxtD on l m ≤ m ∧ (∀ d, d ∈ l → on < d.frm → nxtD on l m ≤ d.frm) ∧ (nxtD on l m = m ∨ ∃ d, d ∈ l ∧ on < d.frm ∧ nxtD on l m = d.frm)
  | [], m => ⟨Int.le_refl _, fun d h => (nomatch h), .inl rfl⟩
  | x :: l, m => by
    obtain ⟨h1, h2, h3⟩ := nxtD_spec on l (if on < x.frm then min m x.frm else m)
    rw [nxtD]
    generalize nxtD on l (if on < x.frm then min m x.frm else m) = z at *
    by_cases hc : on < x.frm
    · rw [if_pos hc] at h1 h3
      refine ⟨by omega, fun d hd hf => ?_, ?_⟩
      · rcases List.mem_cons.1 hd with rfl | hd
        · omega
        · exact h2 d hd hf
      · rcases h3 with h3 | ⟨d, hd, h3⟩
        · by_cases hm : m ≤ x.frm
          · left; omega
          · right; exact ⟨x, by simp, hc, by omega⟩
        · exact .inr ⟨d, List.mem_cons_of_mem _ hd, h3⟩
    · rw [if_neg hc] at h1 h3
      refine ⟨h1, fun d hd hf => ?_, ?_⟩
      · rcases List.mem_cons.1 hd with rfl | hd
        · exact absurd hf hc
        · exact h2 d hd hf
      · rcases h3 with h3 | ⟨d, hd, h3⟩
        · exact .inl h3
        · exact .inr ⟨d, List.mem_cons_of_mem _ hd, h3⟩
theorem nxtS_spec : ∀ (l : List St) (m : Int), nxtS l m ≤ m ∧ (∀ s, s ∈ l → s.st = 0 → nxtS l m ≤ s.d.til + 1) ∧ (nxtS l m = m ∨ ∃ s, s ∈ l ∧ s.st = 0 ∧ nxtS l m = s.d.til + 1)
  | [], m => ⟨Int.le_refl _, fun d h => (nomatch h), .inl rfl⟩
  | x :: l, m => by
    obtain ⟨h1, h2, h3⟩ := nxtS_spec l (if x.st = 0 then min m (x.d.til + 1) else m)
    rw [nxtS]
    generalize nxtS l (if x.st = 0 then min m (x.d.til + 1) else m) = z at *
    by_cases hc : x.st = 0
    · rw [if_pos hc] at h1 h3
      refine ⟨by omega, fun d hd hf => ?_, ?_⟩
      · rcases List.mem_cons.1 hd with rfl | hd
        · omega
        · exact h2 d hd hf
      · rcases h3 with h3 | ⟨d, hd, h3⟩
        · by_cases hm : m ≤ x.d.til + 1
          · left; omega
          · right; exact ⟨x, by simp, hc, by omega⟩
        · exact .inr ⟨d, List.mem_cons_of_mem _ hd, h3⟩
    · rw [if_neg hc] at h1 h3
      refine ⟨h1, fun d hd hf => ?_, ?_⟩
      · rcases List.mem_cons.1 hd with rfl | hd
        · exact absurd hf hc
        · exact h2 d hd hf
      · rcases h3 with h3 | ⟨d, hd, h3⟩
        · exact .inl h3
        · exact .inr ⟨d, List.mem_cons_of_mem _ hd, h3⟩
def nextL (ins : Du → Du) (ev : List Ev) (on : Int) (l : List Du) : Int := nxtS (statesL ins ev on l) (nxtD on l 3652060)
theorem upE_up {ev : List Ev} {on x : Int} (h : on ≤ x) : upE (upE ev on) x = upE ev on := by
  unfold upE
  rw [List.filter_filter]
  congr 1
  funext e
  by_cases h1 : e.day ≤ on
  · simp [h1, show e.day ≤ x by omega]
  · simp [h1]
theorem stP_due {ev : List Ev} {on : Int} {d : Du} {of : Int} (h : (stP ev on d of).st = 0) : on ≤ d.til := by
  unfold stP stOf at h
  (repeat' split at h) <;> simp only at h <;> omega
theorem stP_on {ev : List Ev} {on x : Int} {d : Du} {of : Int} (hx : on ≤ x) (h : (stP ev on d of).st = 0 → x ≤ d.til) : stP (upE ev on) x d of = stP ev on d of := by
  have h0 := stP_due (ev := ev) (on := on) (d := d) (of := of)
  unfold stP at *
  rw [upE_up hx]
  generalize fst0 d false (upE ev on) = a at *
  generalize fst0 d true (upE ev on) = b at *
  unfold stOf at *
  by_cases h1 : b.2 = true ∧ (a.2 = false ∨ b.1 ≤ a.1)
  · rw [if_pos h1, if_pos h1]
  · rw [if_neg h1] at *
    rw [if_neg h1] at *
    by_cases h2 : a.2 = true ∧ a.1 ≤ d.til
    · rw [if_pos h2, if_pos h2]
    · rw [if_neg h2] at *
      rw [if_neg h2] at *
      by_cases h3 : a.2 = true
      · rw [if_pos h3, if_pos h3]
      · rw [if_neg h3] at *
        rw [if_neg h3] at *
        by_cases h4 : d.til < on
        · rw [if_pos h4, if_pos (by omega)]
        · rw [if_neg h4] at *
          have := h rfl
          rw [if_neg (by omega)]
theorem othL_on {ins : Du → Du} {ev : List Ev} {on x : Int} (hx : on ≤ x) : ∀ (l : List St) (k : Nat), (∀ s, s ∈ othL ins ev on l k → s.st = 0 → x ≤ s.d.til) → othL ins (upE ev on) x l k = othL ins ev on l k
  | [], k, _ => rfl
  | s :: l, k, h => by
    rw [othL, othL]
    rw [othL] at h
    by_cases hb : isBad s = true
    · rw [if_pos hb] at h
      rw [if_pos hb, if_pos hb]
      rw [othL_on hx l (k + 1) (fun t ht => h t (List.mem_cons_of_mem _ ht)), stP_on hx (fun h0 => by
        have := h _ (List.mem_cons_self ..) h0
        rwa [(stP_d ..).1] at this)]
    · rw [if_neg hb] at h
      rw [if_neg hb, if_neg hb]
      exact othL_on hx l (k + 1) h
/-- NOTHING BECOMES ANOTHER ahead of that day. -/
theorem next_still {ins : Du → Du} {ev : List Ev} {on x : Int} {l : List Du} (hx : on ≤ x) (h : x < nextL ins ev on l) : statesL ins (upE ev on) x l = statesL ins ev on l := by
  have h1 := nxtD_spec on l 3652060
  have h2 := nxtS_spec (statesL ins ev on l) (nxtD on l 3652060)
  unfold nextL at h
  have hown : ownL (upE ev on) x l = ownL ev on l := by
    unfold ownL
    have hf : (l.filter fun d => decide (d.frm ≤ x)) = l.filter fun d => decide (d.frm ≤ on) := by
      refine List.filter_congr fun d hd => ?_
      have := h1.2.1 d hd
      by_cases hc : d.frm ≤ on
      · simp [hc, show d.frm ≤ x by omega]
      · have := this (by omega)
        simp [hc, show ¬ d.frm ≤ x by omega]
    rw [hf]
    refine List.map_congr_left fun d hd => stP_on hx fun h0 => ?_
    obtain ⟨hd1, hd2⟩ := List.mem_filter.1 hd
    have := h2.2.1 _ (own_mem (ins := ins) (ev := ev) (on := on) hd1 (by simpa using hd2)) h0
    rw [(stP_d ..).1] at this
    omega
  unfold statesL
  rw [hown, othL_on hx _ _ (fun s hs h0 => by
    have := h2.2.1 s (List.mem_append_right _ hs) h0
    omega)]
/-- SOMETHING DOES on that day. -/
theorem next_moved {ins : Du → Du} {ev : List Ev} {on : Int} {l : List Du} (h : nextL ins ev on l ≤ 3652059) : on < nextL ins ev on l ∧ statesL ins (upE ev on) (nextL ins ev on l) l ≠ statesL ins ev on l := by
  have h1 := nxtD_spec on l 3652060
  have h2 := nxtS_spec (statesL ins ev on l) (nxtD on l 3652060)
  have hN : nextL ins ev on l = nxtS (statesL ins ev on l) (nxtD on l 3652060) := rfl
  rw [← hN] at h2
  generalize nextL ins ev on l = x at *
  rcases h2.2.2 with e | ⟨s, hs, h0, e⟩
  · rcases h1.2.2 with e' | ⟨d, hd, hf, e'⟩
    · omega
    · have ex : x = d.frm := by omega
      refine ⟨by omega, fun heq => ?_⟩
      have hm := own_mem (ins := ins) (ev := upE ev on) (on := x) hd (by omega)
      rw [heq] at hm
      obtain ⟨d', hd', hf', he⟩ := mem_statesL_own hm (by rw [(stP_d ..).2]; omega)
      have := congrArg St.d he
      rw [(stP_d ..).1, (stP_d ..).1] at this
      rw [← this] at hf'
      omega
  · have hdue : on ≤ s.d.til := by
      rcases List.mem_append.1 hs with hs | hs
      · obtain ⟨d, _, _, rfl⟩ := mem_ownL.1 hs
        rw [(stP_d ..).1]
        exact stP_due h0
      · obtain ⟨t, _, j, rfl⟩ := mem_othL hs
        rw [(stP_d ..).1]
        exact stP_due h0
    refine ⟨by omega, fun heq => ?_⟩
    rw [← heq] at hs
    have : x ≤ s.d.til := by
      rcases List.mem_append.1 hs with hs | hs
      · obtain ⟨d, _, _, rfl⟩ := mem_ownL.1 hs
        rw [(stP_d ..).1]
        exact stP_due h0
      · obtain ⟨t, _, j, rfl⟩ := mem_othL hs
        rw [(stP_d ..).1]
        exact stP_due h0
    omega

/-! A state, day by day. -/
/-- No event counts ahead of a day. -/
def Non (d : Du) (ev : List Ev) (x : Int) : Prop := ∀ wv e, e ∈ ev → mtB d wv e = true → x ≤ e.day
/-- Was it done, let off on a day? -/
def atB (d : Du) (wv : Bool) (x : Int) (e : Ev) : Bool := decide (e.day = x) && decide (e.nm = d.nm) && decide (e.who = d.who) && (e.wv == wv)
def anyB (d : Du) (wv : Bool) (x : Int) (ev : List Ev) : Bool := ev.any (atB d wv x)
theorem non_from (d : Du) (ev : List Ev) : Non d ev d.frm := fun _ _ _ h => (mtB_iff.1 h).2.2.2
theorem atB_mt {d : Du} {wv : Bool} {x : Int} {e : Ev} (hx : d.frm ≤ x) : atB d wv x e = true ↔ mtB d wv e = true ∧ e.day = x := by
  rw [mtB_iff]
  unfold atB
  simp only [Bool.and_eq_true, beq_iff_eq, decide_eq_true_eq]
  constructor
  · rintro ⟨⟨⟨h1, h2⟩, h3⟩, h4⟩
    exact ⟨⟨h4, h2, h3, by omega⟩, h1⟩
  · rintro ⟨⟨h1, h2, h3, _⟩, h4⟩
    exact ⟨⟨⟨h4, h2⟩, h3⟩, h1⟩
theorem any_fst {d : Du} {wv : Bool} {x on : Int} {ev : List Ev} (hx : d.frm ≤ x) (ho : x ≤ on) (hn : Non d ev x) :
    (anyB d wv x ev = true → fst0 d wv (upE ev on) = (x, true)) ∧ (anyB d wv x ev = false → (fst0 d wv (upE ev on)).2 = true → x < (fst0 d wv (upE ev on)).1) := by
  constructor
  · intro h
    obtain ⟨e, he, hm⟩ := List.any_eq_true.1 h
    obtain ⟨h1, h2⟩ := (atB_mt hx).1 hm
    exact fstIs_uniq (fst0_spec ..) ⟨fun hf => (nomatch hf), fun _ => ⟨⟨e, mem_upE.2 ⟨he, by omega⟩, h1, h2⟩, fun y hy hm' => hn wv y (mem_upE.1 hy).1 hm'⟩⟩
  · intro h ht
    have hs := fst0_spec d wv (upE ev on)
    obtain ⟨e, he, hm, hd⟩ := (hs.yes ht).1
    obtain ⟨he1, _⟩ := mem_upE.1 he
    have h1 := hn wv e he1 hm
    rcases Int.lt_or_eq_of_le h1 with h2 | h2
    · omega
    · have : anyB d wv x ev = true := List.any_eq_true.2 ⟨e, he1, (atB_mt hx).2 ⟨hm, h2.symm⟩⟩
      rw [h] at this; cases this
theorem day_off {d : Du} {x on of : Int} {ev : List Ev} (hx : d.frm ≤ x) (ho : x ≤ on) (hn : Non d ev x) (h : anyB d true x ev = true) : stP ev on d of = ⟨d, 4, x, of⟩ := by
  have h1 := (any_fst hx ho hn).1 h
  have h2 := fst0_spec d false (upE ev on)
  unfold stP stOf
  rw [h1]
  rw [if_pos]
  refine ⟨rfl, ?_⟩
  cases hb : (fst0 d false (upE ev on)).2 with
  | false => exact .inl rfl
  | true =>
    obtain ⟨e, he, hm, hd⟩ := (h2.yes hb).1
    have := hn false e (mem_upE.1 he).1 hm
    right
    show x ≤ _
    omega
theorem day_done {d : Du} {x on of : Int} {ev : List Ev} (hx : d.frm ≤ x) (ho : x ≤ on) (hn : Non d ev x) (h0 : anyB d true x ev = false) (h : anyB d false x ev = true) : stP ev on d of = if x ≤ d.til then ⟨d, 1, x, of⟩ else ⟨d, 2, x, of⟩ := by
  have h1 := (any_fst hx ho hn).1 h
  have h2 := (any_fst hx ho hn).2 h0
  unfold stP stOf
  rw [h1]
  rw [if_neg]
  · simp
  · rintro ⟨hb, hc | hc⟩
    · cases hc
    · have := h2 hb
      have hc : (fst0 d true (upE ev on)).1 ≤ x := hc
      omega
theorem day_next {d : Du} {x : Int} {ev : List Ev} (hx : d.frm ≤ x) (hn : Non d ev x) (h0 : anyB d true x ev = false) (h : anyB d false x ev = false) : Non d ev (x + 1) := by
  intro wv e he hm
  have h1 := hn wv e he hm
  rcases Int.lt_or_eq_of_le h1 with h2 | h2
  · omega
  · have : anyB d wv x ev = true := List.any_eq_true.2 ⟨e, he, (atB_mt hx).2 ⟨hm, h2.symm⟩⟩
    cases wv
    · rw [h] at this; cases this
    · rw [h0] at this; cases this
theorem day_end {d : Du} {x on of : Int} {ev : List Ev} (ho : on < x) (hn : Non d ev x) : stP ev on d of = if d.til < on then ⟨d, 3, d.til + 1, of⟩ else ⟨d, 0, d.frm, of⟩ := by
  have h : ∀ wv, (fst0 d wv (upE ev on)).2 = false := fun wv => by
    have hs := fst0_spec d wv (upE ev on)
    cases hb : (fst0 d wv (upE ev on)).2 with
    | false => rfl
    | true =>
      obtain ⟨e, he, hm, _⟩ := (hs.yes hb).1
      obtain ⟨he1, he2⟩ := mem_upE.1 he
      have := hn wv e he1 hm
      omega
  unfold stP stOf
  rw [h true, h false]
  simp
/-- What is broken or late was to be done ahead. -/
theorem bad_til {ev : List Ev} {on of : Int} {d : Du} (h : (stP ev on d of).st = 3 ∨ (stP ev on d of).st = 2) : d.til < on := by
  have hs := fst0_spec d false (upE ev on)
  unfold stP stOf at h
  by_cases h1 : (fst0 d true (upE ev on)).2 = true ∧ ((fst0 d false (upE ev on)).2 = false ∨ (fst0 d true (upE ev on)).1 ≤ (fst0 d false (upE ev on)).1)
  · rw [if_pos h1] at h; simp at h
  · rw [if_neg h1] at h
    by_cases h2 : (fst0 d false (upE ev on)).2 = true ∧ (fst0 d false (upE ev on)).1 ≤ d.til
    · rw [if_pos h2] at h; simp at h
    · rw [if_neg h2] at h
      by_cases h3 : (fst0 d false (upE ev on)).2 = true
      · obtain ⟨e, he, _, hd⟩ := (hs.yes h3).1
        obtain ⟨_, he2⟩ := mem_upE.1 he
        have : ¬ (fst0 d false (upE ev on)).1 ≤ d.til := fun h4 => h2 ⟨h3, h4⟩
        omega
      · rw [if_neg h3] at h
        by_cases h4 : d.til < on
        · exact h4
        · rw [if_neg h4] at h; simp at h
end Go.Proofs.YtkaeolcchhneoaaGreatDoor
namespace Go.Proofs.YtkaeolcchhneoaaGreatDoor
open Go.RowKit

theorem cell_lt {w : World} {b i : Nat} {v : Value} (h : w.cell? ⟨b, i, none⟩ = some v) : b < w.heap.size := World.block_lt_of_cell? w ⟨b, i, none⟩ h
theorem addz (b j : Nat) : (⟨b, 0, none⟩ : Addr).add j = ⟨b, j, none⟩ := by cases j <;> simp [Addr.add]
theorem addo (b o j : Nat) : (⟨b, o, none⟩ : Addr).add j = ⟨b, o + j, none⟩ := by cases j <;> simp [Addr.add]
theorem range_on {w w' : World} {b o : Nat} {cs : List Value} (h : w.rangeAt b o cs) (hb : w'.heap[b]? = w.heap[b]?) : w'.rangeAt b o cs := fun j v hv => (World.cell?_of_block (a := ⟨b, o + j, none⟩) hb).trans (h j v hv)
theorem alloc_range (W : World) (cs : List Value) (T : Nat) : (W.alloc (.cells cs.toArray T)).rangeAt W.heap.size 0 cs := fun j u h => by
  rw [Nat.zero_add, cell_of_row _ _ j cs.toArray T (0, 0) (Go.Deep.blk_alloc_new W _)]
  simpa using h

/-- How a thing lies in cells. -/
structure Enc (α : Type) where
  f : α → List Value
  k : Nat
  pos : 0 < k
  len : ∀ x, (f x).length = k
  one : ∀ x u, u ∈ f x → u.oneCell' = true
section
variable {α : Type} (E : Enc α)
def Enc.all (l : List α) : List Value := l.flatMap E.f
theorem Enc.all_nil : E.all [] = [] := rfl
theorem Enc.all_cons (x : α) (l : List α) : E.all (x :: l) = E.f x ++ E.all l := rfl
theorem Enc.all_app (a b : List α) : E.all (a ++ b) = E.all a ++ E.all b := by unfold Enc.all; rw [List.flatMap_append]
theorem Enc.all_len : ∀ l : List α, (E.all l).length = l.length * E.k
  | [] => by simp [Enc.all]
  | x :: l => by rw [E.all_cons, List.length_append, E.len, Enc.all_len l, List.length_cons, Nat.succ_mul]; omega
theorem Enc.all_get : ∀ (l : List α) (i : Nat) (x : α), l[i]? = some x → ∀ c u, (E.f x)[c]? = some u → (E.all l)[i * E.k + c]? = some u
  | y :: l, 0, x, h, c, u, hu => by
    obtain rfl : y = x := by simpa using h
    have hc := (List.getElem?_eq_some_iff.1 hu).1
    rw [Nat.zero_mul, Nat.zero_add, E.all_cons, List.getElem?_append_left hc]
    exact hu
  | y :: l, i + 1, x, h, c, u, hu => by
    have h1 := Enc.all_get l i x (by simpa using h) c u hu
    rw [E.all_cons, List.getElem?_append_right (by rw [E.len, Nat.succ_mul]; omega), E.len, show (i + 1) * E.k + c - E.k = i * E.k + c by rw [Nat.succ_mul]; omega]
    exact h1
theorem Enc.all_one (l : List α) (u : Value) (h : u ∈ E.all l) : u.oneCell' = true := by
  obtain ⟨x, _, hx⟩ := List.mem_flatMap.1 h
  exact E.one x u hx
end
/-- Things in a row of the call's own. -/
structure RowG {α : Type} (E : Enc α) (T : Nat) (w : World) (B : Nat) (v : Value) (l : List α) : Prop where
  row : w.ownsRow B T E.k v l.length (E.all l)
  len : l.length ≤ 100000000
/-- Things that can be read at a slice, in blocks below B. -/
def RdG {α : Type} (E : Enc α) (w : World) (B : Nat) (v : Value) (l : List α) : Prop :=
  ∃ a c, v = .slice a l.length c ∧ l.length ≤ 17592186044416 ∧ ∀ j x, l[j]? = some x → ∃ g o, a = some ⟨g, o, none⟩ ∧ g < B ∧ w.rangeAt g (o + j * E.k) (E.f x)
section
variable {α : Type} {E : Enc α} {T : Nat}
theorem RowG.nil (w : World) (B : Nat) : RowG E T w B (.slice none 0 0) [] := ⟨World.ownsRow_nil w B _ _, by simp⟩
theorem RowG.any {w : World} {B : Nat} {v : Value} {l : List α} (h : RowG E T w B v l) : ∃ a c, v = .slice a l.length c := by
  rcases h.row.2 with ⟨rfl, e⟩ | ⟨g, cap, cur, rfl, _⟩
  · exact ⟨_, _, by rw [e]⟩
  · exact ⟨_, _, rfl⟩
theorem RowG.any3 {w : World} {B : Nat} {v : Value} {l : List α} (h : RowG E T w B v l) : ∃ a m c, v = .slice a m c ∧ m = l.length := by
  obtain ⟨a, c, e⟩ := h.any
  exact ⟨a, _, c, e, rfl⟩
theorem RowG.blk {w : World} {B : Nat} {v : Value} {l : List α} (h : RowG E T w B v l) {g : Nat} (hg : v.ownBlock = some g) : B ≤ g ∧ g < w.heap.size := by
  rcases h.row.2 with ⟨rfl, e⟩ | ⟨g', cap, cur, rfl, hb, hgg, _⟩
  · cases hg
  · injection hg with hg
    subst hg
    exact ⟨hb, (Array.getElem?_eq_some_iff.1 hgg).1⟩
theorem RowG.on {w w' : World} {B : Nat} {v : Value} {l : List α} (h : RowG E T w B v l) (hk : ∀ g, v.ownBlock = some g → B ≤ g → g < w.heap.size → w'.heap[g]? = w.heap[g]?) : RowG E T w' B v l := by
  refine ⟨⟨h.row.1, ?_⟩, h.len⟩
  rcases h.row.2 with hn | ⟨g, cap, cur, rfl, hb, hgg, rest⟩
  · exact .inl hn
  · exact .inr ⟨g, cap, cur, rfl, hb, (hk g rfl hb (Array.getElem?_eq_some_iff.1 hgg).1).trans hgg, rest⟩
theorem RowG.below {w w' : World} {B : Nat} {v : Value} {l : List α} (h : RowG E T w B v l) (hb : Below w.heap.size w w') : RowG E T w' B v l := h.on fun g _ _ hl => hb.block g hl
theorem RowG.mono {w : World} {B B' : Nat} {v : Value} {l : List α} (h : RowG E T w B v l) (hB : B' ≤ B) : RowG E T w B' v l := by
  refine ⟨⟨h.row.1, ?_⟩, h.len⟩
  rcases h.row.2 with hn | ⟨g, cap, cur, rfl, hb, rest⟩
  · exact .inl hn
  · exact .inr ⟨g, cap, cur, rfl, by omega, rest⟩
theorem RdG.on {w w' : World} {B : Nat} {v : Value} {l : List α} (h : RdG E w B v l) (hb : ∀ k, k < B → w'.heap[k]? = w.heap[k]?) : RdG E w' B v l := by
  obtain ⟨a, c, e, hl, hx⟩ := h
  refine ⟨a, c, e, hl, fun j x hj => ?_⟩
  obtain ⟨g, o, h1, h2, h3⟩ := hx j x hj
  exact ⟨g, o, h1, h2, range_on h3 (hb g h2)⟩
theorem RdG.below {w w' : World} {B : Nat} {v : Value} {l : List α} (h : RdG E w B v l) (hb : Below B w w') : RdG E w' B v l := h.on hb.block
theorem RdG.mono {w : World} {B B' : Nat} {v : Value} {l : List α} (h : RdG E w B v l) (hB : B ≤ B') : RdG E w B' v l := by
  obtain ⟨a, c, e, hl, hx⟩ := h
  refine ⟨a, c, e, hl, fun j x hj => ?_⟩
  obtain ⟨g, o, h1, h2, h3⟩ := hx j x hj
  exact ⟨g, o, h1, by omega, h3⟩
theorem RdG.nil0 (w : World) (B c : Nat) (a : Option Addr) : RdG E w B (.slice a 0 c) [] := ⟨a, c, rfl, by simp, fun j x h => by simp at h⟩
theorem RdG.at {w : World} {B n c : Nat} {a : Option Addr} {l : List α} (h : RdG E w B (.slice a n c) l) {j : Nat} {x : α} (hj : l[j]? = some x) : ∃ g o, a = some ⟨g, o, none⟩ ∧ g < B ∧ w.rangeAt g (o + j * E.k) (E.f x) := by
  obtain ⟨a', c', e, _, hx⟩ := h
  injection e with e1 _ _
  subst e1
  exact hx j x hj
theorem RdG.len {w : World} {B n c : Nat} {a : Option Addr} {l : List α} (h : RdG E w B (.slice a n c) l) : n = l.length ∧ n ≤ 17592186044416 := by
  obtain ⟨a', c', e, hl, hx⟩ := h
  injection e with _ e2 _
  exact ⟨e2, by omega⟩
theorem RowG.cells {w : World} {B : Nat} {v : Value} {l : List α} (h : RowG E T w B v l) {g n cap : Nat} (hv : v = .slice (some ⟨g, 0, none⟩) n cap) : ∀ j u, (E.all l)[j]? = some u → w.cell? ⟨g, j, none⟩ = some u := fun j u hu => by
  have h0 := h.row
  obtain ⟨a, c, e⟩ := h.any
  rw [hv] at e
  injection e with e1 e2 e3
  subst e2 hv
  have := World.ownsRow.cells h0 (g := g) rfl j u hu
  rwa [addz] at this
theorem RowG.rd {w : World} {B : Nat} {v : Value} {l : List α} (h : RowG E T w B v l) : RdG E w w.heap.size v l := by
  have hlen := h.len
  rcases h.row.2 with ⟨rfl, e⟩ | ⟨g, cap, cur, hv, _, hgg, _⟩
  · exact ⟨.none, 0, by rw [e], by omega, fun j x hx => by rw [List.eq_nil_of_length_eq_zero e] at hx; simp at hx⟩
  · refine ⟨some ⟨g, 0, .none⟩, cap, hv, by omega, fun j x hx => ⟨g, 0, rfl, (Array.getElem?_eq_some_iff.1 hgg).1, fun c u hu => ?_⟩⟩
    rw [Nat.zero_add]
    exact h.cells hv _ _ (E.all_get l j x hx c u hu)
/-- One more, which has just been laid. -/
theorem wpList_push_g {S bytes : Nat} (hI : ∃ i z, Tryz.prog.info? T = some i ∧ i.zero = some z ∧ i.size = E.k ∧ i.bytes = bytes ∧ z.cells.size = E.k) (hby : bytes ≤ 200) (hU : Tryz.prog.underlying S = some (.slice T)) {W : World} {ops : Array Oper} {rest : List Oper} {o : Oper} {a : Act} {Q : Exit → Act → World → Prop} (hgd : o.guard = .none) (s x : Operand)
    (ho : o.op = .call { callee := .builtin .append, args := #[s, x], argTypes := #[S, S] }) (B : Nat) (v : Value) (l : List α) (y : α) (cs : Array Value) (hcs : cs = (E.f y).toArray) (hs : a.eval s = v) (hown : RowG E T W B v l)
    (hx : a.eval x = .slice (some ⟨W.heap.size, 0, .none⟩) 1 1) (hB : B ≤ W.heap.size) (hl : l.length + 1 ≤ 1000000)
    (h : ∀ v' w', RowG E T w' B v' (l ++ [y]) → Below B W w' → (∀ k, v.ownBlock ≠ some k → k < W.heap.size → w'.heap[k]? = W.heap[k]?) → (∀ k, v'.ownBlock = some k → v.ownBlock = some k ∨ W.heap.size ≤ k) → wpList Tryz.prog ops Q rest (a.put o.dst v') w') : wpList Tryz.prog ops Q (o :: rest) a (W.alloc (.cells cs T)) := by
  obtain ⟨i0, z, h1, h2, h3, h4, h5⟩ := hI
  subst hcs
  have hn : ∀ (j : Nat) (u : Value), (E.f y)[j]? = some u → (W.alloc (.cells (E.f y).toArray T)).cell? ((⟨W.heap.size, 0, .none⟩ : Addr).add j) = some u := fun j u hj => by
    have := alloc_range W (E.f y) T j u hj
    rw [addo]
    exact this
  have hal := (hown.below ((Below.refl _ _).alloc (Nat.le_refl _) (.cells (E.f y).toArray T)))
  refine wpList_append_own_at _ hgd s x S ho B T i0 z E.k bytes hU h1 h2 h3 h4 h5 E.pos v l.length (E.all l) hs hal.row ⟨W.heap.size, 0, .none⟩ 1 1 (E.f y) hx (by rw [E.len, Nat.one_mul]) hn (E.one y) (by unfold maxLen; omega) (by have h6 : (l.length + 1) * bytes ≤ 1000000 * 200 := Nat.mul_le_mul hl hby; omega) (by simp; omega) ?_
  intro v' w' hown' hgrow _ hblk
  refine h v' w' ⟨?_, by rw [List.length_append]; simp only [List.length_cons, List.length_nil]; omega⟩ (((Below.refl B W).alloc hB _).grown hgrow (by simp; omega) (fun k hk => (hown.row.lt k hk).1)) (fun k hk hlt => ?_) (fun k hk => ?_)
  · rw [List.length_append, E.all_app, show E.all [y] = E.f y by rw [E.all_cons, E.all_nil, List.append_nil]]
    exact hown'
  · rw [hgrow.block k (by simp; omega) (fun e => hk e.symm), Go.Deep.blk_alloc_lt _ _ _ hlt]
  · rcases hblk with e | e
    · exact .inl (e ▸ hk)
    · rw [hk] at e
      injection e with e
      exact .inr (by simp at e; omega)
end
def duE : Enc Du := ⟨fun d => [.string d.nm, .string d.who, .int .i64 d.frm, .int .i64 d.til, .string d.els, .int .i64 d.n, .int .i64 d.u, .int .i64 d.r], 8, by decide, fun _ => rfl, fun _ u h => by
  simp only [List.mem_cons, List.not_mem_nil, or_false] at h
  rcases h with rfl | rfl | rfl | rfl | rfl | rfl | rfl | rfl <;> rfl⟩
def evE : Enc Ev := ⟨fun e => [.int .i64 e.day, .string e.nm, .string e.who, .bool e.wv], 4, by decide, fun _ => rfl, fun _ u h => by
  simp only [List.mem_cons, List.not_mem_nil, or_false] at h
  rcases h with rfl | rfl | rfl | rfl <;> rfl⟩
def stE : Enc St := ⟨fun s => [.string s.d.nm, .string s.d.who, .int .i64 s.d.frm, .int .i64 s.d.til, .string s.d.els, .int .i64 s.d.n, .int .i64 s.d.u, .int .i64 s.d.r, .int .i64 s.st, .int .i64 s.day, .int .i64 s.of], 11, by decide, fun _ => rfl, fun _ u h => by
  simp only [List.mem_cons, List.not_mem_nil, or_false] at h
  rcases h with rfl | rfl | rfl | rfl | rfl | rfl | rfl | rfl | rfl | rfl | rfl <;> rfl⟩
/-- The cells of a duty that lies somewhere. -/
theorem du_cells {w : World} {g b : Nat} {d : Du} (h : w.rangeAt g b (duE.f d)) : w.cell? ⟨g, b, none⟩ = some (.string d.nm) ∧ w.cell? ⟨g, b + 1, none⟩ = some (.string d.who) ∧ w.cell? ⟨g, b + 2, none⟩ = some (.int .i64 d.frm) ∧ w.cell? ⟨g, b + 3, none⟩ = some (.int .i64 d.til) ∧ w.cell? ⟨g, b + 4, none⟩ = some (.string d.els) ∧ w.cell? ⟨g, b + 5, none⟩ = some (.int .i64 d.n) ∧ w.cell? ⟨g, b + 6, none⟩ = some (.int .i64 d.u) ∧ w.cell? ⟨g, b + 7, none⟩ = some (.int .i64 d.r) :=
  ⟨h 0 _ rfl, h 1 _ rfl, h 2 _ rfl, h 3 _ rfl, h 4 _ rfl, h 5 _ rfl, h 6 _ rfl, h 7 _ rfl⟩
theorem du_cells0 {w : World} {g : Nat} {d : Du} (h : w.rangeAt g 0 (duE.f d)) : w.cell? ⟨g, 0, none⟩ = some (.string d.nm) ∧ w.cell? ⟨g, 1, none⟩ = some (.string d.who) ∧ w.cell? ⟨g, 2, none⟩ = some (.int .i64 d.frm) ∧ w.cell? ⟨g, 3, none⟩ = some (.int .i64 d.til) ∧ w.cell? ⟨g, 4, none⟩ = some (.string d.els) ∧ w.cell? ⟨g, 5, none⟩ = some (.int .i64 d.n) ∧ w.cell? ⟨g, 6, none⟩ = some (.int .i64 d.u) ∧ w.cell? ⟨g, 7, none⟩ = some (.int .i64 d.r) :=
  ⟨h 0 _ rfl, h 1 _ rfl, h 2 _ rfl, h 3 _ rfl, h 4 _ rfl, h 5 _ rfl, h 6 _ rfl, h 7 _ rfl⟩
theorem ev_cells {w : World} {g b : Nat} {e : Ev} (h : w.rangeAt g b (evE.f e)) : w.cell? ⟨g, b, none⟩ = some (.int .i64 e.day) ∧ w.cell? ⟨g, b + 1, none⟩ = some (.string e.nm) ∧ w.cell? ⟨g, b + 2, none⟩ = some (.string e.who) ∧ w.cell? ⟨g, b + 3, none⟩ = some (.bool e.wv) :=
  ⟨h 0 _ rfl, h 1 _ rfl, h 2 _ rfl, h 3 _ rfl⟩
theorem st_cells {w : World} {g b : Nat} {s : St} (h : w.rangeAt g b (stE.f s)) : w.rangeAt g b (duE.f s.d) ∧ w.cell? ⟨g, b + 8, none⟩ = some (.int .i64 s.st) ∧ w.cell? ⟨g, b + 9, none⟩ = some (.int .i64 s.day) ∧ w.cell? ⟨g, b + 10, none⟩ = some (.int .i64 s.of) := by
  refine ⟨fun j v hv => ?_, h 8 _ rfl, h 9 _ rfl, h 10 _ rfl⟩
  refine h j v ?_
  have hj : j < 8 := (List.getElem?_eq_some_iff.1 hv).1
  match j, hj, hv with
  | 0, _, hv => exact hv
  | 1, _, hv => exact hv
  | 2, _, hv => exact hv
  | 3, _, hv => exact hv
  | 4, _, hv => exact hv
  | 5, _, hv => exact hv
  | 6, _, hv => exact hv
  | 7, _, hv => exact hv
end Go.Proofs.YtkaeolcchhneoaaGreatDoor
