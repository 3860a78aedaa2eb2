/-
  The stable sort of places, walked: the comparison, the blocks, the whole.
-/
import Derived.Test.YtlpkaelgeeecoaaDoorMerges2
namespace Go.Proofs.YtlpkaelgeeecoaaDoor
open Go.RowKit Go.Sort Go.Shelf

def Tryd.laysF20_ren : Go.Shelf.Ren := ⟨fun | 20 => 100 | n => n, fun | 22 => 47 | 24 => 3 | 25 => 91 | n => n, fun | n => n⟩
theorem Tryd.laysF20 : Go.Proofs.SlLaysF.n20 Tryd.prog Tryd.laysF20_ren := {
  mixed := by kernel_rfl
  f20 := ⟨"slices.insertionSortCmpFunc[int]", by kernel_rfl, Tryd.func100.trans (congrArg some (by kernel_rfl))⟩
  t0 := Tryd.underlying0
  a0 := Tryd.isAgg0
  z0 := Tryd.sizeOf0
  v0 := Tryd.zeroValue0
  t3 := Tryd.underlying3
  a3 := Tryd.isAgg3
  z3 := Tryd.sizeOf3
  v3 := Tryd.zeroValue3
  t4 := Tryd.underlying4
  a4 := Tryd.isAgg4
  z4 := Tryd.sizeOf4
  v4 := Tryd.zeroValue4
  t22 := Tryd.underlying47
  a22 := Tryd.isAgg47
  z22 := Tryd.sizeOf47
  v22 := Tryd.zeroValue47
  a24 := Tryd.isAgg3
  z24 := Tryd.sizeOf3
  t25 := Tryd.underlying91
  a25 := Tryd.isAgg91
  z25 := Tryd.sizeOf91
  v25 := Tryd.zeroValue91 }

/-! Insertion: with either order the same, where the later ones are greater places. -/
theorem ins_inner {N : Nat} {l1 l2 : Fin (N + 1) → Fin (N + 1) → Bool} (hag : ∀ x y, y.val < x.val → l1 x y = l2 x y) (a : Nat) : ∀ (j : Nat) (d : Array (Fin (N + 1))), a ≤ j → j < d.size → (∀ k, a ≤ k → k < j → d[k]!.val < d[j]!.val) → insInner l1 a j d = insInner l2 a j d
  | 0, d, _, _, _ => rfl
  | j + 1, d, h1, h2, h => by
    unfold insInner
    by_cases hj : a ≤ j
    · rw [hag d[j + 1]! d[j]! (h j hj (by omega))]
      split
      · refine ins_inner hag a j _ hj (by rw [size_swp]; omega) (fun k x y => ?_)
        rw [swp_other _ _ _ _ (by omega) (by omega), swp_right _ _ _ (by omega)]
        exact h k x (by omega)
      · rfl
    · have e : decide (j + 1 > a) = false := by simp; omega
      rw [e, Bool.false_and, Bool.false_and]
      rfl

theorem inner_keeps {N : Nat} {l : Fin (N + 1) → Fin (N + 1) → Bool} (a b : Nat) : ∀ (j : Nat) (d : Array (Fin (N + 1))), a ≤ j → j < b → b ≤ d.size → PermIn a b d (insInner l a j d)
  | 0, d, _, _, _ => permIn_refl _ _ _
  | j + 1, d, h1, h2, h3 => by
    unfold insInner
    split
    · rename_i hc
      have hj : a ≤ j := by
        have := (Bool.and_eq_true_iff.1 hc).1
        simp at this; omega
      exact permIn_trans _ _ _ _ _ (swp_permIn _ _ _ _ _ (by omega) h2 hj (by omega) h3) (inner_keeps a b j _ hj (by omega) (by rw [size_swp]; exact h3))
    · exact permIn_refl _ _ _

theorem ins_outer {N : Nat} {l1 l2 : Fin (N + 1) → Fin (N + 1) → Bool} (hag : ∀ x y, y.val < x.val → l1 x y = l2 x y) (a b : Nat) : ∀ (n i : Nat) (d : Array (Fin (N + 1))), b - i = n → a ≤ i → b ≤ d.size →
    (∀ k, a ≤ k → k < i → ∀ j, i ≤ j → j < b → d[k]!.val < d[j]!.val) → (∀ k j, i ≤ k → k < j → j < b → d[k]!.val < d[j]!.val) → insOuter l1 a b i d = insOuter l2 a b i d
  | 0, i, d, hn, _, _, _, _ => by
    rw [insOuter.eq_def l1, insOuter.eq_def l2, if_neg (by omega), if_neg (by omega)]
  | n + 1, i, d, hn, hi, hb, h1, h2 => by
    have e := ins_inner hag a i d hi (by omega) (fun k x y => h1 k x y i (Nat.le_refl _) (by omega))
    have p : PermIn a (i + 1) d (insInner l2 a i d) := inner_keeps a (i + 1) i d hi (by omega) (by omega)
    rw [insOuter, insOuter.eq_def l2, if_pos (by omega), if_pos (by omega), e]
    refine ins_outer hag a b n (i + 1) _ (by omega) (by omega) (by rw [p.1]; exact hb) ?_ ?_
    · intro k x y j u v
      rw [p.2.1 j (.inr u)]
      refine permIn_all _ _ _ _ (fun z => z.val < d[j]!.val) (by omega) p (fun k' x' y' => ?_) k x y
      rcases Nat.lt_or_ge k' i with c | c
      · exact h1 k' x' c j (by omega) v
      · exact h2 k' j c (by omega) v
    · intro k j u v z
      rw [p.2.1 k (.inr u), p.2.1 j (.inr (by omega))]
      exact h2 k j (by omega) v z

/-! The comparison. -/
def cmpI (a b : Int) : Int := if a < b then -1 else if b < a then 1 else 0
theorem isNaN_any (a : Int) (w : World) : Calls Tryd.prog 93 #[.int .i64 a] w fun e w' => e = .returned (.bool false) ∧ w' = w := by
  go_enter Tryd.func93, Tryd.ntmps93
  go_wp2
  go_ret
  exact ⟨rfl, rfl⟩
theorem compare_any (a b : Int) (w : World) : Calls Tryd.prog 81 #[.int .i64 a, .int .i64 b] w fun e w' => e = .returned (.int .i64 (cmpI a b)) ∧ w' = w := by
  rcases Int.lt_trichotomy a b with h | h | h
  · have HE : Hid (cmpI a b = -1) := by show _ = _; rw [cmpI, if_pos h]
    have c1 : decide (a < b) = true := by simpa using h
    clear h
    go_enter Tryd.func81, Tryd.ntmps81
    go_wp2_with (go_at_call 93; refine (isNaN_any _ _).mono ?_; rintro e w' ⟨rfl, rfl⟩)
    go_ret
    exact ⟨by rw [HE.out]; rfl, rfl⟩
  · subst h
    have HE : Hid (cmpI a a = 0) := by show _ = _; simp [cmpI]
    go_enter Tryd.func81, Tryd.ntmps81
    go_wp2_with (go_at_call 93; refine (isNaN_any _ _).mono ?_; rintro e w' ⟨rfl, rfl⟩)
    go_ret
    exact ⟨by rw [HE.out]; rfl, rfl⟩
  · have HE : Hid (cmpI a b = 1) := by show _ = _; rw [cmpI, if_neg (by omega), if_pos h]
    have c1 : decide (a < b) = false := by simp; omega
    have c2 : decide (b < a) = true := by simpa using h
    clear h
    go_enter Tryd.func81, Tryd.ntmps81
    go_wp2_with (go_at_call 93; refine (isNaN_any _ _).mono ?_; rintro e w' ⟨rfl, rfl⟩)
    go_ret
    exact ⟨by rw [HE.out]; rfl, rfl⟩

theorem cmp_any (W : World) (bx tb n cap : Nat) (hbx : W.cell? ⟨bx, 0, none⟩ = some (.slice (some ⟨tb, 0, none⟩) n cap)) (x y : Nat) (hx : x < n) (hy : y < n) (u v : Int)
    (cx : W.cell? ⟨tb, x, none⟩ = some (.int .i64 u)) (cy : W.cell? ⟨tb, y, none⟩ = some (.int .i64 v)) :
    Calls Tryd.prog 80 #[.int .i64 x, .int .i64 y, .pointer (some ⟨bx, 0, none⟩)] W fun e w' => e = .returned (.int .i64 (cmpI v u)) ∧ ∃ q, w' = W.drewN q := by
  have hxz : (x : Int) < n := by omega
  have hyz : (y : Int) < n := by omega
  have HC := hidIt (fun w => compare_any v u w)
  go_enter Tryd.func80, Tryd.ntmps80
  go_wp2_with fail
  go_quiet ((go_at_call 81; exact Calls.quiet_of_same (HC.out _)))
  go_wp2
  go_ret
  exact ⟨rfl, _, rfl⟩

/-! The order of places: the greater number ahead, of equal ones the earlier. -/
section
variable {N : Nat} (tk : Fin (N + 1) → Int)
def cfT (x y : Fin (N + 1)) : Int := cmpI (tk y) (tk x)
def ltT (x y : Fin (N + 1)) : Bool := decide (tk y < tk x) || (decide (tk x = tk y) && decide (x.val < y.val))
theorem ltT_iff (x y : Fin (N + 1)) : ltT tk x y = true ↔ tk y < tk x ∨ (tk x = tk y ∧ x.val < y.val) := by simp [ltT]
theorem ltT_not (x y : Fin (N + 1)) : ltT tk x y = false ↔ tk x < tk y ∨ (tk x = tk y ∧ y.val ≤ x.val) := by
  rw [← Bool.not_eq_true, ltT_iff]; omega
theorem ltT_swo : SWO (ltT tk) := by
  refine ⟨fun x => ?_, fun x y z h1 h2 => ?_, fun x y z h1 h2 => ?_⟩
  · rw [ltT_not]; omega
  · rw [ltT_iff] at *; omega
  · rw [ltT_not] at *; omega
theorem cfT_agree (x y : Fin (N + 1)) (h : y.val < x.val) : decide (cfT tk x y < 0) = ltT tk x y := by
  rw [Bool.eq_iff_iff, ltT_iff, decide_eq_true_iff, cfT, cmpI]
  split
  · constructor
    · intro _; omega
    · intro _; omega
  · split
    · constructor
      · intro k; omega
      · intro k; omega
    · constructor
      · intro k; omega
      · intro k; omega

/-- The box and the numbers, where a sort of another block does not come. -/
structure Seen (w : World) (bx tb blk cap : Nat) : Prop where
  box : w.cell? ⟨bx, 0, none⟩ = some (.slice (some ⟨tb, 0, none⟩) (N + 1) cap)
  nums : ∀ i : Fin (N + 1), w.cell? ⟨tb, i.val, none⟩ = some (.int .i64 (tk i))
  nb : bx ≠ blk
  nt : tb ≠ blk
theorem Seen.cmps {w : World} {bx tb blk cap off n : Nat} (h : Seen tk w bx tb blk cap) : Cmps (cfT tk) bx blk off n w := fun X q x y _ => by
  refine cmp_any _ bx tb (N + 1) cap ?_ x.val y.val x.isLt y.isLt (tk x) (tk y) ?_ ?_
  · exact (cell?_putRow_other ev w blk off X ⟨bx, 0, none⟩ (.inl h.nb)).trans h.box
  · exact (cell?_putRow_other ev w blk off X ⟨tb, x.val, none⟩ (.inl h.nt)).trans (h.nums x)
  · exact (cell?_putRow_other ev w blk off X ⟨tb, y.val, none⟩ (.inl h.nt)).trans (h.nums y)
theorem grow_cell {w : World} {a : Addr} {v : Value} (os : Array Obj) (h : w.cell? a = some v) : (grow w os).cell? a = some v := by
  have hlt : a.block < w.heap.size := by
    rcases Nat.lt_or_ge a.block w.heap.size with k | k
    · exact k
    · have : w.heap[a.block]? = none := by simp [k]
      simp [World.cell?, this] at h
  rw [cell?_grow w os a hlt]; exact h
theorem Seen.reads {w : World} {bx tb blk cap off n : Nat} (h : Seen tk w bx tb blk cap) : CmpReads Tryd.prog 80 #[.pointer (some ⟨bx, 0, none⟩)] ev (cfT tk) blk off n w := fun m os X _ x y => by
  refine cmp_any (sortWorld ev w blk off m X os) bx tb (N + 1) cap ?_ x.val y.val x.isLt y.isLt (tk x) (tk y) ?_ ?_
  · exact grow_cell os ((cell?_putRow_other ev (Sort.ahead w m) blk off X ⟨bx, 0, none⟩ (.inl h.nb)).trans h.box)
  · exact grow_cell os ((cell?_putRow_other ev (Sort.ahead w m) blk off X ⟨tb, x.val, none⟩ (.inl h.nt)).trans (h.nums x))
  · exact grow_cell os ((cell?_putRow_other ev (Sort.ahead w m) blk off X ⟨tb, y.val, none⟩ (.inl h.nt)).trans (h.nums y))
theorem Seen.row {w : World} {bx tb blk cap off q : Nat} (h : Seen tk w bx tb blk cap) (X : Array (Fin (N + 1))) : Seen tk ((putRow ev w blk off X).drewN q) bx tb blk cap :=
  ⟨(cell?_putRow_other ev w blk off X ⟨bx, 0, none⟩ (.inl h.nb)).trans h.box, fun i => (cell?_putRow_other ev w blk off X ⟨tb, i.val, none⟩ (.inl h.nt)).trans (h.nums i), h.nb, h.nt⟩

theorem ev_one : OneCell (ev (N := N)) := fun _ => rfl
theorem en34 : ∀ args w, (callFunc 80 args).run Tryd.prog w = .ok (.enter 80 args) w := Go.Proofs.enters_of Tryd.func80 (by kernel_rfl) rfl

/-- A block put in order, in the midst of the sort. -/
theorem ins_at (bx tb blk off cap cap' : Nat) (d0 d : Array (Fin (N + 1))) (w : World) (q a b : Nat) (hH : Holds ev w blk off d0) (hS : Seen tk w bx tb blk cap') (hz : d.size = d0.size) (hsz : d0.size ≤ 1000) (hab : a ≤ b) (hb : b ≤ d0.size)
    (hI : ∀ i j, a ≤ i → i < j → j < b → d[i]!.val < d[j]!.val) :
    Calls Tryd.prog 100 #[.slice (some ⟨blk, off, none⟩) d0.size cap, .int .i64 a, .int .i64 b, .func (.func 80) #[] #[.pointer (some ⟨bx, 0, none⟩)]] ((putRow ev w blk off d).drewN q) fun e w' =>
      e = .returned (.tuple #[]) ∧ ∃ d1 q', SortedIn (ltT tk) a b d1 ∧ PermIn a b d d1 ∧ w' = (putRow ev w blk off d1).drewN q' := by
  have h := Any.insertionSortCmpFunc_one Tryd.laysF20 ev ev_one (cfT tk) 80 #[.pointer (some ⟨bx, 0, none⟩)] blk off cap a b d ((putRow ev w blk off d).drewN q) en34 (Seen.reads tk (Seen.row tk (q := q) hS d)) (row_holds hH hz) hab (by omega) (by omega)
  have e : Sort.insertionSort (ltOf (cfT tk)) d a b = Sort.insertionSort (ltT tk) d a b := by
    unfold Sort.insertionSort
    refine ins_outer (fun x y k => cfT_agree tk x y k) a b _ (a + 1) d rfl (by omega) (by omega) (fun k x y j u v => ?_) (fun k j x y z => hI k j (by omega) y z)
    obtain rfl : k = a := by omega
    exact hI k j (Nat.le_refl _) (by omega) v
  obtain ⟨p1, p2⟩ := insertionSort_holds (lt := ltT tk) (ltT_swo tk) d a b hab (by omega)
  rw [e] at h
  rw [hz] at h
  exact h.mono fun e w' ⟨he, n, hw⟩ => ⟨he, _, q + n, p2, p1, by rw [hw, row_row _ _ _ _ _ _ _ p1.1]⟩
end
end Go.Proofs.YtlpkaelgeeecoaaDoor
