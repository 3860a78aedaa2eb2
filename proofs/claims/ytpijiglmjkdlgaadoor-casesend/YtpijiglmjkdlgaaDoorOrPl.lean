/-
  Rules laid aside one by one, plain: all can be just where none is above itself. No walk.
-/
import Derived.Test.YtpijiglmjkdlgaaDoorOrMem
namespace Go.Proofs.YtpijiglmjkdlgaaDoor

def prs (T : Thy) : List (Nat × Nat) := T.over.map (fun x => (x.1.toNat, x.2.toNat))
def blwL (T : Thy) (a : Nat) : List Nat := ((prs T).filter (fun x => x.1 == a)).map (·.2)
/-- How many are above b and not among those done. -/
def cntA (T : Thy) (d : List Nat) (b : Nat) : Nat := (prs T).countP (fun x => x.2 == b && !d.contains x.1)
structure Asd (T : Thy) (sd : List Nat) (lf : Nat → Int) : Prop where
  nd : sd.Nodup
  lt : ∀ r, r ∈ sd → r < T.rules.length
  z : ∀ b, b < T.rules.length → (b ∈ sd ↔ lf b = 0)
  ahead : ∀ (j b : Nat), sd[j]? = some b → ∀ a, (a, b) ∈ prs T → ∃ i, i < j ∧ sd[i]? = some a
theorem countP_split {α : Type} (p q : α → Bool) : ∀ l : List α, l.countP p = l.countP (fun x => p x && q x) + l.countP (fun x => p x && !q x)
  | [] => rfl
  | x :: l => by
    have ih := countP_split p q l
    simp only [List.countP_cons]
    cases p x <;> cases q x <;> simp <;> omega
theorem cnt_blw (T : Thy) (a b : Nat) : (blwL T a).count b = (prs T).countP (fun x => x.2 == b && x.1 == a) := by
  unfold blwL
  rw [List.count_eq_countP, List.countP_map, List.countP_filter]
  rfl
theorem cntA_next (T : Thy) (d : List Nat) (a b : Nat) (ha : a ∉ d) : cntA T d b = cntA T (d ++ [a]) b + (blwL T a).count b := by
  rw [cnt_blw]
  unfold cntA
  have := countP_split (fun x : Nat × Nat => x.2 == b && !d.contains x.1) (fun x => x.1 == a) (prs T)
  rw [this, Nat.add_comm]
  congr 1
  · apply List.countP_congr
    intro x _
    simp only [Bool.and_eq_true, Bool.not_eq_true', beq_iff_eq, List.contains_append, Bool.or_eq_false_iff]
    constructor
    · rintro ⟨⟨h1, h2⟩, h3⟩
      exact ⟨h1, h2, by simpa using h3⟩
    · rintro ⟨h1, h2, h3⟩
      exact ⟨⟨h1, h2⟩, by simpa using h3⟩
  · apply List.countP_congr
    intro x _
    simp only [Bool.and_eq_true, Bool.not_eq_true', beq_iff_eq]
    constructor
    · rintro ⟨⟨h1, _⟩, h3⟩
      exact ⟨h1, h3⟩
    · rintro ⟨h1, h3⟩
      exact ⟨⟨h1, by rw [h3]; simpa using ha⟩, h3⟩
theorem nodup_len : ∀ (n : Nat) (l : List Nat), l.Nodup → (∀ r, r ∈ l → r < n) → l.length ≤ n
  | 0, l, _, h => by
    cases l with
    | nil => simp
    | cons a l => exact absurd (h a (List.mem_cons_self ..)) (by omega)
  | n + 1, l, hn, h => by
    by_cases hm : n ∈ l
    · have h1 := nodup_len n (l.erase n) (hn.erase n) (fun r hr => by
        rw [hn.mem_erase_iff] at hr
        have := h r hr.2
        have := hr.1
        omega)
      rw [List.length_erase_of_mem hm] at h1
      omega
    · have := nodup_len n l hn (fun r hr => by
        have := h r hr
        have : r ≠ n := fun e => hm (e ▸ hr)
        omega)
      omega
theorem full (n : Nat) (l : List Nat) (hn : l.Nodup) (h : ∀ r, r ∈ l → r < n) (hl : l.length = n) (r : Nat) (hr : r < n) : r ∈ l := by
  apply Classical.byContradiction
  intro hm
  have := nodup_len n (r :: l) (List.nodup_cons.2 ⟨hm, hn⟩) (fun x hx => by
    rcases List.mem_cons.1 hx with e | e
    · rw [e]; exact hr
    · exact h x e)
  simp at this
  omega
section
variable {T : Thy}
theorem mem_prs (hT : Okt T) {a b : Nat} : (a, b) ∈ prs T ↔ Ovr T a b := by
  unfold prs Ovr
  rw [List.mem_map]
  constructor
  · rintro ⟨x, hx, e⟩
    obtain ⟨h1, _, h3, _⟩ := hT.over x.1 x.2 hx
    injection e with e1 e2
    rw [← e1, ← e2, show ((x.1.toNat : Nat) : Int) = x.1 by omega, show ((x.2.toNat : Nat) : Int) = x.2 by omega]
    exact hx
  · intro h
    exact ⟨_, h, by simp⟩
/-- All aside just where there is a rank. -/
theorem ordered_iff (hT : Okt T) {sd : List Nat} {lf : Nat → Int} (h : Asd T sd lf) (hc : ∀ b, b < T.rules.length → lf b = cntA T sd b) : sd.length = T.rules.length ↔ Ranked T := by
  constructor
  · intro hl
    refine ⟨fun r => sd.idxOf r, fun a b hab => ?_⟩
    have ho := hT.over _ _ hab
    have hb := full _ sd h.nd h.lt hl b (by omega)
    obtain ⟨i, hi, e⟩ := h.ahead (sd.idxOf b) b (by rw [List.getElem?_eq_getElem (List.idxOf_lt_length_of_mem hb), List.getElem_idxOf]) a ((mem_prs hT).2 hab)
    have h2 : sd.idxOf a ≤ i := by
      obtain ⟨hi2, e2⟩ := List.getElem?_eq_some_iff.1 e
      have := h.nd.idxOf_getElem i hi2
      rw [e2] at this
      omega
    exact Nat.lt_of_le_of_lt h2 hi
  · rintro ⟨f, hf⟩
    apply Classical.byContradiction
    intro hl
    have hlt : sd.length < T.rules.length := by
      have := nodup_len _ sd h.nd h.lt
      omega
    have hex : ∃ r, r < T.rules.length ∧ r ∉ sd := by
      apply Classical.byContradiction
      intro hn
      have h9 := nodup_len sd.length (List.range T.rules.length) List.nodup_range
      have hsub : ∀ r, r < T.rules.length → r ∈ sd := fun r hr => Classical.byContradiction fun e => hn ⟨r, hr, e⟩
      -- the range is laid into it
      have key : ∀ (l : List Nat), l.Nodup → ∀ (m : List Nat), (∀ x, x ∈ l → x ∈ m) → l.length ≤ m.length := by
        intro l
        induction l with
        | nil => intro _ m _; simp
        | cons x l ih =>
          intro hnd m hm
          obtain ⟨h1, h2⟩ := List.nodup_cons.1 hnd
          have h3 := ih h2 (m.erase x) (fun y hy => (List.mem_erase_of_ne (show y ≠ x from fun e => h1 (by rw [← e]; exact hy))).2 (hm y (List.mem_cons_of_mem _ hy)))
          rw [List.length_erase_of_mem (hm x (List.mem_cons_self ..))] at h3
          have := List.length_pos_of_mem (hm x (List.mem_cons_self ..))
          simp only [List.length_cons]
          omega
      have := key (List.range T.rules.length) List.nodup_range sd (fun x hx => hsub x (List.mem_range.1 hx))
      rw [List.length_range] at this
      omega
    obtain ⟨r, hr, hra⟩ := hex
    refine chain hf (P := fun k => k < T.rules.length ∧ k ∉ sd) (fun k hk => ?_) (f r) r (Nat.le_refl _) ⟨hr, hra⟩
    have h1 : lf k ≠ 0 := fun e => hk.2 ((h.z k hk.1).2 e)
    rw [hc k hk.1] at h1
    have h2 : 0 < cntA T sd k := by omega
    unfold cntA at h2
    rw [List.countP_pos_iff] at h2
    obtain ⟨⟨a, b⟩, hm, hp⟩ := h2
    simp only [Bool.and_eq_true, beq_iff_eq, Bool.not_eq_true'] at hp
    obtain ⟨rfl, hp⟩ := hp
    have ho := (mem_prs hT).1 hm
    have h3 := hT.over _ _ ho
    exact ⟨a, ⟨by omega, by simpa using hp⟩, ho⟩
/-- One more aside, or none. -/
def layA (sd : List Nat) (lf : Nat → Int) (r : Nat) : List Nat := if lf r = 0 then sd ++ [r] else sd
/-- At the first pass: those with none above. -/
structure Pass1 (T : Thy) (i : Nat) (sd : List Nat) (lf : Nat → Int) : Prop where
  mem : ∀ b, b ∈ sd ↔ b < i ∧ lf b = 0
  nd : sd.Nodup
theorem Pass1.next {i : Nat} {sd : List Nat} {lf : Nat → Int} (h : Pass1 T i sd lf) : Pass1 T (i + 1) (layA sd lf i) lf := by
  unfold layA
  split
  · rename_i h0
    refine ⟨fun b => ?_, List.nodup_append.2 ⟨h.nd, by simp, fun x hx y hy e => ?_⟩⟩
    · rw [List.mem_append, h.mem b, List.mem_singleton]
      constructor
      · rintro (⟨h1, h2⟩ | rfl)
        · exact ⟨by omega, h2⟩
        · exact ⟨by omega, h0⟩
      · rintro ⟨h1, h2⟩
        by_cases e : b = i
        · exact .inr e
        · exact .inl ⟨by omega, h2⟩
    · have := ((h.mem x).1 hx).1
      rw [List.mem_singleton] at hy
      omega
  · rename_i h0
    refine ⟨fun b => ?_, h.nd⟩
    rw [h.mem b]
    constructor
    · rintro ⟨h1, h2⟩
      exact ⟨by omega, h2⟩
    · rintro ⟨h1, h2⟩
      refine ⟨?_, h2⟩
      rcases Nat.lt_or_ge b i with c | c
      · exact c
      · obtain rfl : b = i := by omega
        exact absurd h2 h0
theorem Pass1.end {sd : List Nat} {lf : Nat → Int} (h : Pass1 T T.rules.length sd lf) (hc : ∀ b, b < T.rules.length → lf b = cntA T [] b) : Asd T sd lf := by
  refine ⟨h.nd, fun r hr => ((h.mem r).1 hr).1, fun b hb => ⟨fun hm => ((h.mem b).1 hm).2, fun e => (h.mem b).2 ⟨hb, e⟩⟩, fun j b hj a hab => ?_⟩
  have hm := (h.mem b).1 (List.mem_of_getElem? hj)
  rw [hc b hm.1] at hm
  exfalso
  have h2 : 0 < cntA T [] b := by
    unfold cntA
    rw [List.countP_pos_iff]
    exact ⟨_, hab, by simp⟩
  omega
/-- One pair's lower rule, m of those below a = sd[next]. -/
structure In3 (T : Thy) (next m a : Nat) (sd : List Nat) (lf : Nat → Int) : Prop where
  asd : Asd T sd lf
  at_ : sd[next]? = some a
  cnt : ∀ b, b < T.rules.length → lf b = ((cntA T (sd.take (next + 1)) b + ((blwL T a).drop m).count b : Nat) : Int)
theorem blw_lt (hT : Okt T) {a b : Nat} (h : b ∈ blwL T a) : b < T.rules.length := by
  unfold blwL at h
  rw [List.mem_map] at h
  obtain ⟨⟨x, y⟩, h1, rfl⟩ := h
  have h2 := (mem_prs hT).1 ((List.mem_filter.1 h1).1)
  have := hT.over _ _ h2
  show y < _
  omega
theorem In3.next (hT : Okt T) {next m a r : Nat} {sd : List Nat} {lf lf' : Nat → Int} (h : In3 T next m a sd lf) (hr : (blwL T a)[m]? = some r) (hl : ∀ j, lf' j = if j = r then lf r - 1 else lf j) : In3 T next (m + 1) a (layA sd lf' r) lf' ∧ 1 ≤ lf r := by
  obtain ⟨hm, hre⟩ := List.getElem?_eq_some_iff.1 hr
  have hrR : r < T.rules.length := blw_lt hT (List.mem_of_getElem? hr)
  have hd : (blwL T a).drop m = r :: (blwL T a).drop (m + 1) := by rw [List.drop_eq_getElem_cons hm, hre]
  have h1 : 1 ≤ lf r := by
    rw [h.cnt r hrR, hd, List.count_cons_self]
    omega
  have hn : next < sd.length := (List.getElem?_eq_some_iff.1 h.at_).1
  have hra : r ∉ sd := fun e => by
    have := (h.asd.z r hrR).1 e
    omega
  have hcnt : ∀ (sd' : List Nat), sd'.take (next + 1) = sd.take (next + 1) → ∀ b, b < T.rules.length → lf' b = ((cntA T (sd'.take (next + 1)) b + ((blwL T a).drop (m + 1)).count b : Nat) : Int) := fun sd' e b hb => by
    rw [e, hl b]
    have h2 := h.cnt b hb
    rw [hd, List.count_cons] at h2
    by_cases e2 : b = r
    · subst e2
      rw [if_pos rfl]
      simp at h2
      omega
    · rw [if_neg e2]
      rw [if_neg (by simp; exact fun e => e2 e.symm)] at h2
      omega
  refine ⟨?_, h1⟩
  unfold layA
  split
  · rename_i h0
    have htk : (sd ++ [r]).take (next + 1) = sd.take (next + 1) := List.take_append_of_le_length (by omega)
    refine ⟨⟨List.nodup_append.2 ⟨h.asd.nd, by simp, fun x hx y hy e => ?_⟩, fun x hx => ?_, fun b hb => ?_, fun j b hj a' hab => ?_⟩, ?_, hcnt _ htk⟩
    · rw [List.mem_singleton] at hy
      exact hra (hy ▸ e ▸ hx)
    · rcases List.mem_append.1 hx with e | e
      · exact h.asd.lt x e
      · rw [List.mem_singleton.1 e]; exact hrR
    · rw [List.mem_append, List.mem_singleton]
      by_cases e : b = r
      · subst e
        exact ⟨fun _ => h0, fun _ => .inr rfl⟩
      · rw [hl b, if_neg e, ← h.asd.z b hb]
        constructor
        · rintro (c | c)
          · exact c
          · exact absurd c e
        · exact .inl
    · rcases Nat.lt_or_ge j sd.length with c | c
      · rw [List.getElem?_append_left c] at hj
        obtain ⟨i, hi, e⟩ := h.asd.ahead j b hj a' hab
        exact ⟨i, hi, by rw [List.getElem?_append_left (by omega)]; exact e⟩
      · rw [List.getElem?_append_right c] at hj
        have hj0 : j - sd.length = 0 := by
          have := (List.getElem?_eq_some_iff.1 hj).1
          simpa using this
        rw [hj0] at hj
        simp only [List.getElem?_cons_zero, Option.some.injEq] at hj
        subst hj
        have h5 := hcnt sd rfl r hrR
        rw [h0] at h5
        have h6 : cntA T (sd.take (next + 1)) r = 0 := by omega
        unfold cntA at h6
        rw [List.countP_eq_zero] at h6
        have h7 := h6 _ hab
        simp only [beq_self_eq_true, Bool.true_and, Bool.not_eq_true', Bool.not_eq_false] at h7
        have h8 : a' ∈ sd.take (next + 1) := by simpa using h7
        obtain ⟨i, hi⟩ := List.getElem?_of_mem h8
        have hil := (List.getElem?_eq_some_iff.1 hi).1
        rw [List.length_take] at hil
        rw [List.getElem?_take, if_pos (by omega)] at hi
        exact ⟨i, by omega, by rw [List.getElem?_append_left (by omega)]; exact hi⟩
    · rw [List.getElem?_append_left hn]; exact h.at_
  · rename_i h0
    refine ⟨⟨h.asd.nd, h.asd.lt, fun b hb => ?_, h.asd.ahead⟩, h.at_, hcnt sd rfl⟩
    by_cases e : b = r
    · subst e
      exact ⟨fun c => absurd c hra, fun c => absurd c h0⟩
    · rw [hl b, if_neg e]
      exact h.asd.z b hb
theorem In3.start {next a : Nat} {sd : List Nat} {lf : Nat → Int} (h : Asd T sd lf) (ha : sd[next]? = some a) (hc : ∀ b, b < T.rules.length → lf b = cntA T (sd.take next) b) : In3 T next 0 a sd lf := by
  obtain ⟨hn, e⟩ := List.getElem?_eq_some_iff.1 ha
  refine ⟨h, ha, fun b hb => ?_⟩
  rw [hc b hb, List.drop_zero, cntA_next T (sd.take next) a b, ← e, ← List.take_succ_eq_append_getElem hn]
  rw [← e]
  intro hm
  obtain ⟨i, hi⟩ := List.getElem?_of_mem hm
  have hil := (List.getElem?_eq_some_iff.1 hi).1
  rw [List.length_take] at hil
  rw [List.getElem?_take, if_pos (by omega), List.getElem?_eq_getElem (by omega)] at hi
  injection hi with hi
  have := (List.pairwise_iff_getElem.1 h.nd) i next (by omega) hn (by omega)
  exact this hi
theorem In3.end {next a : Nat} {sd : List Nat} {lf : Nat → Int} (h : In3 T next (blwL T a).length a sd lf) : Asd T sd lf ∧ ∀ b, b < T.rules.length → lf b = cntA T (sd.take (next + 1)) b := by
  refine ⟨h.asd, fun b hb => ?_⟩
  rw [h.cnt b hb, List.drop_length]
  simp
end
end Go.Proofs.YtpijiglmjkdlgaaDoor
