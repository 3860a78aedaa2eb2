/-
  Package script: ahead, by contracts.
-/
import Derived.Test.YtgfaeeacndpniaaDoorLabP1
namespace Go.Proofs.YtgfaeeacndpniaaDoor
open Go.RowKit Go.Extern.Stop Go.Stop Go.Extern

/-- A label's cells. -/
structure L3 (W : World) (b : Nat) (l : Bool) (s c : ByteArray) : Prop where
  c0 : W.cell? ⟨b, 0, none⟩ = some (.bool l)
  c1 : W.cell? ⟨b, 0 + 1, none⟩ = some (.string s)
  c2 : W.cell? ⟨b, 0 + 2, none⟩ = some (.string c)
  lt : b < W.heap.size
theorem L3.on {W W' : World} {b : Nat} {l : Bool} {s c : ByteArray} (h : L3 W b l s c) (hb : Below W.heap.size W W') : L3 W' b l s c :=
  ⟨(hb.cell (p := ⟨b, 0, none⟩) h.lt).trans h.c0, (hb.cell (p := ⟨b, 0 + 1, none⟩) h.lt).trans h.c1, (hb.cell (p := ⟨b, 0 + 2, none⟩) h.lt).trans h.c2, Nat.lt_of_lt_of_le h.lt hb.size⟩
theorem L3.mk' (W : World) (l : Bool) (s c : ByteArray) (t : TypeId) : L3 (W.alloc (.cells #[.bool l, .string s, .string c] t)) W.heap.size l s c :=
  ⟨by simp, by simp, by simp, by simp⟩
theorem bel2 (w : World) (o o' : Obj) : Below w.heap.size w ((w.alloc o).alloc o') := (belA w o).alloc (by simp) _
theorem sf_in (w : World) (a b : ByteArray) (W : World) (hb : Below w.heap.size w W) : Calls Tryd.prog 35 #[.string a, .string b] W fun e w' => e = .returned (.int .i64 (sf a b)) ∧ Below w.heap.size w w' :=
  (shorterFirst_any a b W).mono fun _ _ ⟨he, hb2⟩ => ⟨he, hb.trans (hb2.mono hb.size)⟩
theorem or_in (w : World) (x y : Int) (t : TypeId) (W : World) (hb : Below w.heap.size w W) : Calls Tryd.prog 34 #[.slice (some ⟨W.heap.size, 0, none⟩) 2 2] (W.alloc (.cells #[.int .i64 x, .int .i64 y] t)) fun e w' => e = .returned (.int .i64 (orI x y)) ∧ Below w.heap.size w w' :=
  (or_two W.heap.size x y _ (by simp) (by simp)).mono fun _ _ ⟨he, hb2⟩ => ⟨he, by rw [hb2]; exact hb.alloc hb.size _⟩

set_option maxHeartbeats 1000000 in
theorem ahead_diff (l l' : Bool) (s1 c1 s2 c2 : ByteArray) (w : World) (h : l ≠ l') :
    Calls Tryd.prog 14 #[.agg #[.bool l, .string s1, .string c1], .agg #[.bool l', .string s2, .string c2]] w fun e w' => e = .returned (.bool l') ∧ Below w.heap.size w w' := by
  cases l <;> cases l'
  · exact absurd rfl h
  · clear h
    go_enter Tryd.func14, Tryd.ntmps14
    go_wp2
    go_ret
    exact ⟨rfl, bel2 _ _ _⟩
  · clear h
    go_enter Tryd.func14, Tryd.ntmps14
    go_wp2
    go_ret
    exact ⟨rfl, bel2 _ _ _⟩
  · exact absurd rfl h
set_option maxHeartbeats 0 in
set_option maxRecDepth 10000 in
theorem ahead_same (l : Bool) (s1 c1 s2 c2 : ByteArray) (w : World) :
    Calls Tryd.prog 14 #[.agg #[.bool l, .string s1, .string c1], .agg #[.bool l, .string s2, .string c2]] w fun e w' => e = .returned (.bool (decide (orI (sf s1 s2) (sf c1 c2) < 0))) ∧ Below w.heap.size w w' := by
  go_enter Tryd.func14, Tryd.ntmps14
  go_wp2_with fail
  obtain ⟨w0, hw0⟩ : ∃ w0, w0 = (w.alloc (.cells #[.bool l, .string s1, .string c1] 43)).alloc (.cells #[.bool l, .string s2, .string c2] 43) := ⟨_, rfl⟩
  rw [← hw0]
  have HX : Hid (L3 w0 w.heap.size l s1 c1) := by show L3 _ _ _ _ _; rw [hw0]; exact (L3.mk' w l s1 c1 _).on (belA _ _)
  have HY : Hid (L3 w0 (w.heap.size + 1) l s2 c2) := by
    show L3 _ _ _ _ _
    rw [hw0]
    have := L3.mk' (w.alloc (.cells #[.bool l, .string s1, .string c1] 43)) l s2 c2 43
    simpa using this
  have HB : Hid (Below w.heap.size w w0) := by show Below _ _ _; rw [hw0]; exact bel2 _ _ _
  clear hw0
  have HS := hidL (sf_in w0)
  have HO := hidL (or_in w0)
  have x1 := HX.out.c1
  have x2 := HX.out.c2
  have y1 := HY.out.c1
  have y2 := HY.out.c2
  have hB := Below.refl w0.heap.size w0
  go_region_with (first | (go_at_call 35; refine (HS.out _ _ _ ?_).mono ?_; (· first | assumption | exact Below.drew (by assumption)); rintro e w2 ⟨rfl, hb2⟩; have x1' := (HX.out.on hb2).c1; have x2' := (HX.out.on hb2).c2; have y1' := (HY.out.on hb2).c1; have y2' := (HY.out.on hb2).c2) | (go_at_call 34; refine (HO.out _ _ _ _ ?_).mono ?_; (· first | assumption | exact Below.drew (by assumption)); rintro e w2 ⟨rfl, hb2⟩))
  all_goals
    go_wp2
    go_ret
    exact ⟨rfl, HB.out.trans (Below.mono (by assumption) HB.out.size)⟩
end Go.Proofs.YtgfaeeacndpniaaDoor
