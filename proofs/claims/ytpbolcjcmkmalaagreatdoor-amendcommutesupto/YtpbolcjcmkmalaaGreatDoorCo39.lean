/-
  Package amend: what a change touches.
-/
import Derived.Test.YtpbolcjcmkmalaaGreatDoorCo38
import Derived.Test.YtpbolcjcmkmalaaGreatDoorCo34
import Derived.Deep.RegionHeld3
namespace Go.Proofs.YtpbolcjcmkmalaaGreatDoor
open Go.RowKit Go.Extern.Stop Go.Stop Go.Extern

/-- What telling what is touched answers. -/
def TchR (w : World) (l : List Thg) (e : Ending) (w' : World) : Prop := (∃ v, e = .returned v ∧ TRd w' v l) ∧ Below w.heap.size w w'
theorem TRd.drew {w : World} {v : Value} {l : List Thg} (h : TRd w v l) : TRd w.drew v l := h
theorem TRd.below {w w' : World} {v : Value} {l : List Thg} (h : TRd w v l) (hb : Below w.heap.size w w') : TRd w' v l := by
  obtain ⟨a, c, e, h1, h2⟩ := h
  refine ⟨a, c, e, h1, fun b hab j u hj => ?_⟩
  have hc := h2 b hab j u hj
  exact (hb.cell (p := b.add j) (World.block_lt_of_cell? w _ hc)).trans hc
set_option maxHeartbeats 2000000 in
set_option maxRecDepth 20000 in
theorem touched_1 {op : OpW} (hk : op.kind = 1) (hok : OpOk op) (_hlb : op.item.label.size ≤ 1000000) {iv : Nat → Value} {la ka : Option Addr} {ln lc kn kc : Nat} (f0 : iv 0 = .string op.item.label) (f1 : iv 1 = .string op.item.head) (f2 : iv 2 = .slice la ln lc) (f3 : iv 3 = .slice ka kn kc) (w : World) :
    Calls Tryz.prog 49 #[.agg (opV op iv)] w (TchR w (tgB op)) := by
  have HT : Hid (tgB op = [(0, op.path)]) := by show _ = _; unfold tgB; rw [if_pos hk]
  have HS := hidLL (fun w => split_w op.path (by have := hok.path; omega) w)
  obtain ⟨WB, hWB⟩ : ∃ WB, WB = w.alloc (.cells (opV op iv) 46) := ⟨_, rfl⟩
  have hb1 : Below w.heap.size w WB := by rw [hWB]; exact (Below.refl _ _).alloc (Nat.le_refl _) _
  have hx : WB.heap[w.heap.size]? = some (.cells (opV op iv) 46 (0, 0)) := by rw [hWB]; exact heap_alloc_new _ _
  unfold opV at hWB hx ⊢
  rw [f0, f1, f2, f3, hk] at hWB hx
  rw [f0, f1, f2, f3, hk]
  rw [HT.out]
  have HW := hidLL hWB
  have HX := hidLL (And.intro hb1 hx)
  obtain ⟨x0, x1, x2, x3, x4, x5, x6, x7, x8, x9⟩ := ten hx
  clear hWB hb1 hx f0 f1 f2 f3 HT hk hok _hlb
  generalize outB op.path = ou at *
  generalize labB op.path = lo at *
  generalize op.path = pt at *
  generalize op.item.label = lb at *
  generalize op.item.head = hd at *
  generalize op.at' = oat at *
  generalize op.text = otx at *
  generalize op.new = onw at *
  generalize op.line = oli at *
  go_enter Tryz.func49, Tryz.ntmps49
  go_upto_region 1 with fail
  rw [← HW.out]
  go_wp2_with fail
  refine (HS.out WB).mono ?_
  rintro e w2 ⟨rfl, hb2⟩
  have hg := (hb2.block w.heap.size (Array.getElem?_eq_some_iff.1 HX.out.2).1).trans HX.out.2
  have HB2 := hidLL (HX.out.1.trans (hb2.mono HX.out.1.size))
  clear x0 x1 x2 x3 x4 x5 x6 x7 x8 x9
  obtain ⟨x0, x1, x2, x3, x4, x5, x6, x7, x8, x9⟩ := ten hg
  clear hb2 hg
  go_wp2
  go_ret
  exact ⟨⟨_, rfl, TRd.lit w2 [(0, pt)] _⟩, HB2.out.alloc HB2.out.size _⟩
set_option maxHeartbeats 2000000 in
set_option maxRecDepth 20000 in
theorem touched_2 {op : OpW} (hk : op.kind = 2) (hok : OpOk op) (_hlb : op.item.label.size ≤ 1000000) {iv : Nat → Value} {la ka : Option Addr} {ln lc kn kc : Nat} (f0 : iv 0 = .string op.item.label) (f1 : iv 1 = .string op.item.head) (f2 : iv 2 = .slice la ln lc) (f3 : iv 3 = .slice ka kn kc) (w : World) :
    Calls Tryz.prog 49 #[.agg (opV op iv)] w (TchR w (tgB op)) := by
  have HT : Hid (tgB op = [(1, op.path)]) := by show _ = _; unfold tgB; rw [if_neg (by omega), if_pos (by omega)]
  have HS := hidLL (fun w => split_w op.path (by have := hok.path; omega) w)
  obtain ⟨WB, hWB⟩ : ∃ WB, WB = w.alloc (.cells (opV op iv) 46) := ⟨_, rfl⟩
  have hb1 : Below w.heap.size w WB := by rw [hWB]; exact (Below.refl _ _).alloc (Nat.le_refl _) _
  have hx : WB.heap[w.heap.size]? = some (.cells (opV op iv) 46 (0, 0)) := by rw [hWB]; exact heap_alloc_new _ _
  unfold opV at hWB hx ⊢
  rw [f0, f1, f2, f3, hk] at hWB hx
  rw [f0, f1, f2, f3, hk]
  rw [HT.out]
  have HW := hidLL hWB
  have HX := hidLL (And.intro hb1 hx)
  obtain ⟨x0, x1, x2, x3, x4, x5, x6, x7, x8, x9⟩ := ten hx
  clear hWB hb1 hx f0 f1 f2 f3 HT hk hok _hlb
  generalize outB op.path = ou at *
  generalize labB op.path = lo at *
  generalize op.path = pt at *
  generalize op.item.label = lb at *
  generalize op.item.head = hd at *
  generalize op.at' = oat at *
  generalize op.text = otx at *
  generalize op.new = onw at *
  generalize op.line = oli at *
  go_enter Tryz.func49, Tryz.ntmps49
  go_upto_region 1 with fail
  rw [← HW.out]
  go_wp2_with fail
  refine (HS.out WB).mono ?_
  rintro e w2 ⟨rfl, hb2⟩
  have hg := (hb2.block w.heap.size (Array.getElem?_eq_some_iff.1 HX.out.2).1).trans HX.out.2
  have HB2 := hidLL (HX.out.1.trans (hb2.mono HX.out.1.size))
  clear x0 x1 x2 x3 x4 x5 x6 x7 x8 x9
  obtain ⟨x0, x1, x2, x3, x4, x5, x6, x7, x8, x9⟩ := ten hg
  clear hb2 hg
  go_wp2
  go_ret
  exact ⟨⟨_, rfl, TRd.lit w2 [(1, pt)] _⟩, HB2.out.alloc HB2.out.size _⟩
set_option maxHeartbeats 2000000 in
set_option maxRecDepth 20000 in
theorem touched_3 {op : OpW} (hk : op.kind = 3) (hok : OpOk op) (_hlb : op.item.label.size ≤ 1000000) {iv : Nat → Value} {la ka : Option Addr} {ln lc kn kc : Nat} (f0 : iv 0 = .string op.item.label) (f1 : iv 1 = .string op.item.head) (f2 : iv 2 = .slice la ln lc) (f3 : iv 3 = .slice ka kn kc) (w : World) :
    Calls Tryz.prog 49 #[.agg (opV op iv)] w (TchR w (tgB op)) := by
  have HT : Hid (tgB op = [(1, op.path)]) := by show _ = _; unfold tgB; rw [if_neg (by omega), if_pos (by omega)]
  have HS := hidLL (fun w => split_w op.path (by have := hok.path; omega) w)
  obtain ⟨WB, hWB⟩ : ∃ WB, WB = w.alloc (.cells (opV op iv) 46) := ⟨_, rfl⟩
  have hb1 : Below w.heap.size w WB := by rw [hWB]; exact (Below.refl _ _).alloc (Nat.le_refl _) _
  have hx : WB.heap[w.heap.size]? = some (.cells (opV op iv) 46 (0, 0)) := by rw [hWB]; exact heap_alloc_new _ _
  unfold opV at hWB hx ⊢
  rw [f0, f1, f2, f3, hk] at hWB hx
  rw [f0, f1, f2, f3, hk]
  rw [HT.out]
  have HW := hidLL hWB
  have HX := hidLL (And.intro hb1 hx)
  obtain ⟨x0, x1, x2, x3, x4, x5, x6, x7, x8, x9⟩ := ten hx
  clear hWB hb1 hx f0 f1 f2 f3 HT hk hok _hlb
  generalize outB op.path = ou at *
  generalize labB op.path = lo at *
  generalize op.path = pt at *
  generalize op.item.label = lb at *
  generalize op.item.head = hd at *
  generalize op.at' = oat at *
  generalize op.text = otx at *
  generalize op.new = onw at *
  generalize op.line = oli at *
  go_enter Tryz.func49, Tryz.ntmps49
  go_upto_region 1 with fail
  rw [← HW.out]
  go_wp2_with fail
  refine (HS.out WB).mono ?_
  rintro e w2 ⟨rfl, hb2⟩
  have hg := (hb2.block w.heap.size (Array.getElem?_eq_some_iff.1 HX.out.2).1).trans HX.out.2
  have HB2 := hidLL (HX.out.1.trans (hb2.mono HX.out.1.size))
  clear x0 x1 x2 x3 x4 x5 x6 x7 x8 x9
  obtain ⟨x0, x1, x2, x3, x4, x5, x6, x7, x8, x9⟩ := ten hg
  clear hb2 hg
  go_wp2
  go_ret
  exact ⟨⟨_, rfl, TRd.lit w2 [(1, pt)] _⟩, HB2.out.alloc HB2.out.size _⟩
set_option maxHeartbeats 2000000 in
set_option maxRecDepth 20000 in
theorem touched_4 {op : OpW} (hk : op.kind = 4) (hok : OpOk op) (_hlb : op.item.label.size ≤ 1000000) {iv : Nat → Value} {la ka : Option Addr} {ln lc kn kc : Nat} (f0 : iv 0 = .string op.item.label) (f1 : iv 1 = .string op.item.head) (f2 : iv 2 = .slice la ln lc) (f3 : iv 3 = .slice ka kn kc) (w : World) :
    Calls Tryz.prog 49 #[.agg (opV op iv)] w (TchR w (tgB op)) := by
  have HT : Hid (tgB op = [(1, op.path)]) := by show _ = _; unfold tgB; rw [if_neg (by omega), if_pos (by omega)]
  have HS := hidLL (fun w => split_w op.path (by have := hok.path; omega) w)
  obtain ⟨WB, hWB⟩ : ∃ WB, WB = w.alloc (.cells (opV op iv) 46) := ⟨_, rfl⟩
  have hb1 : Below w.heap.size w WB := by rw [hWB]; exact (Below.refl _ _).alloc (Nat.le_refl _) _
  have hx : WB.heap[w.heap.size]? = some (.cells (opV op iv) 46 (0, 0)) := by rw [hWB]; exact heap_alloc_new _ _
  unfold opV at hWB hx ⊢
  rw [f0, f1, f2, f3, hk] at hWB hx
  rw [f0, f1, f2, f3, hk]
  rw [HT.out]
  have HW := hidLL hWB
  have HX := hidLL (And.intro hb1 hx)
  obtain ⟨x0, x1, x2, x3, x4, x5, x6, x7, x8, x9⟩ := ten hx
  clear hWB hb1 hx f0 f1 f2 f3 HT hk hok _hlb
  generalize outB op.path = ou at *
  generalize labB op.path = lo at *
  generalize op.path = pt at *
  generalize op.item.label = lb at *
  generalize op.item.head = hd at *
  generalize op.at' = oat at *
  generalize op.text = otx at *
  generalize op.new = onw at *
  generalize op.line = oli at *
  go_enter Tryz.func49, Tryz.ntmps49
  go_upto_region 1 with fail
  rw [← HW.out]
  go_wp2_with fail
  refine (HS.out WB).mono ?_
  rintro e w2 ⟨rfl, hb2⟩
  have hg := (hb2.block w.heap.size (Array.getElem?_eq_some_iff.1 HX.out.2).1).trans HX.out.2
  have HB2 := hidLL (HX.out.1.trans (hb2.mono HX.out.1.size))
  clear x0 x1 x2 x3 x4 x5 x6 x7 x8 x9
  obtain ⟨x0, x1, x2, x3, x4, x5, x6, x7, x8, x9⟩ := ten hg
  clear hb2 hg
  go_wp2
  go_ret
  exact ⟨⟨_, rfl, TRd.lit w2 [(1, pt)] _⟩, HB2.out.alloc HB2.out.size _⟩
set_option maxHeartbeats 2000000 in
set_option maxRecDepth 20000 in
theorem touched_5 {op : OpW} (hk : op.kind = 5) (hok : OpOk op) (_hlb : op.item.label.size ≤ 1000000) {iv : Nat → Value} {la ka : Option Addr} {ln lc kn kc : Nat} (f0 : iv 0 = .string op.item.label) (f1 : iv 1 = .string op.item.head) (f2 : iv 2 = .slice la ln lc) (f3 : iv 3 = .slice ka kn kc) (w : World) :
    Calls Tryz.prog 49 #[.agg (opV op iv)] w (TchR w (tgB op)) := by
  have HT : Hid (tgB op = [(1, op.path)]) := by show _ = _; unfold tgB; rw [if_neg (by omega), if_pos (by omega)]
  have HS := hidLL (fun w => split_w op.path (by have := hok.path; omega) w)
  obtain ⟨WB, hWB⟩ : ∃ WB, WB = w.alloc (.cells (opV op iv) 46) := ⟨_, rfl⟩
  have hb1 : Below w.heap.size w WB := by rw [hWB]; exact (Below.refl _ _).alloc (Nat.le_refl _) _
  have hx : WB.heap[w.heap.size]? = some (.cells (opV op iv) 46 (0, 0)) := by rw [hWB]; exact heap_alloc_new _ _
  unfold opV at hWB hx ⊢
  rw [f0, f1, f2, f3, hk] at hWB hx
  rw [f0, f1, f2, f3, hk]
  rw [HT.out]
  have HW := hidLL hWB
  have HX := hidLL (And.intro hb1 hx)
  obtain ⟨x0, x1, x2, x3, x4, x5, x6, x7, x8, x9⟩ := ten hx
  clear hWB hb1 hx f0 f1 f2 f3 HT hk hok _hlb
  generalize outB op.path = ou at *
  generalize labB op.path = lo at *
  generalize op.path = pt at *
  generalize op.item.label = lb at *
  generalize op.item.head = hd at *
  generalize op.at' = oat at *
  generalize op.text = otx at *
  generalize op.new = onw at *
  generalize op.line = oli at *
  go_enter Tryz.func49, Tryz.ntmps49
  go_upto_region 1 with fail
  rw [← HW.out]
  go_wp2_with fail
  refine (HS.out WB).mono ?_
  rintro e w2 ⟨rfl, hb2⟩
  have hg := (hb2.block w.heap.size (Array.getElem?_eq_some_iff.1 HX.out.2).1).trans HX.out.2
  have HB2 := hidLL (HX.out.1.trans (hb2.mono HX.out.1.size))
  clear x0 x1 x2 x3 x4 x5 x6 x7 x8 x9
  obtain ⟨x0, x1, x2, x3, x4, x5, x6, x7, x8, x9⟩ := ten hg
  clear hb2 hg
  go_wp2
  go_ret
  exact ⟨⟨_, rfl, TRd.lit w2 [(1, pt)] _⟩, HB2.out.alloc HB2.out.size _⟩
set_option maxHeartbeats 2000000 in
set_option maxRecDepth 20000 in
theorem touched_6 {op : OpW} (hk : op.kind = 6) (hok : OpOk op) (hlb : op.item.label.size ≤ 1000000) {iv : Nat → Value} {la ka : Option Addr} {ln lc kn kc : Nat} (f0 : iv 0 = .string op.item.label) (f1 : iv 1 = .string op.item.head) (f2 : iv 2 = .slice la ln lc) (f3 : iv 3 = .slice ka kn kc) (w : World) :
    Calls Tryz.prog 49 #[.agg (opV op iv)] w (TchR w (tgB op)) := by
  have HT : Hid (tgB op = [(2, op.path), (3, joinP op.path op.item.label)]) := by show _ = _; unfold tgB; rw [if_neg (by omega), if_neg (by omega), if_pos hk]
  have HJ := hidLL (fun w => join_w op.path op.item.label (by have := out_size op.path; have := hok.path; have := hok.text; have := hok.new; omega) (by have := out_size op.path; have := hok.path; have := hok.text; have := hok.new; omega) w)
  have HS := hidLL (fun w => split_w op.path (by have := hok.path; omega) w)
  obtain ⟨WB, hWB⟩ : ∃ WB, WB = w.alloc (.cells (opV op iv) 46) := ⟨_, rfl⟩
  have hb1 : Below w.heap.size w WB := by rw [hWB]; exact (Below.refl _ _).alloc (Nat.le_refl _) _
  have hx : WB.heap[w.heap.size]? = some (.cells (opV op iv) 46 (0, 0)) := by rw [hWB]; exact heap_alloc_new _ _
  unfold opV at hWB hx ⊢
  rw [f0, f1, f2, f3, hk] at hWB hx
  rw [f0, f1, f2, f3, hk]
  rw [HT.out]
  have HW := hidLL hWB
  have HX := hidLL (And.intro hb1 hx)
  obtain ⟨x0, x1, x2, x3, x4, x5, x6, x7, x8, x9⟩ := ten hx
  clear hWB hb1 hx f0 f1 f2 f3 HT hk hok hlb
  generalize outB op.path = ou at *
  generalize labB op.path = lo at *
  generalize op.path = pt at *
  generalize op.item.label = lb at *
  generalize op.item.head = hd at *
  generalize op.at' = oat at *
  generalize op.text = otx at *
  generalize op.new = onw at *
  generalize op.line = oli at *
  go_enter Tryz.func49, Tryz.ntmps49
  go_upto_region 1 with fail
  rw [← HW.out]
  go_wp2_with fail
  refine (HS.out WB).mono ?_
  rintro e w2 ⟨rfl, hb2⟩
  have hg := (hb2.block w.heap.size (Array.getElem?_eq_some_iff.1 HX.out.2).1).trans HX.out.2
  have HB2 := hidLL (HX.out.1.trans (hb2.mono HX.out.1.size))
  clear x0 x1 x2 x3 x4 x5 x6 x7 x8 x9
  obtain ⟨x0, x1, x2, x3, x4, x5, x6, x7, x8, x9⟩ := ten hg
  clear hb2 hg
  go_wp2_with fail
  go_region_held3 (fun V => V.cell? ⟨w.heap.size, 1, none⟩ = some (.string pt) ∧ V.cell? ⟨w.heap.size, 3, none⟩ = some (.string otx) ∧ V.cell? ⟨w.heap.size, 4, none⟩ = some (.string onw) ∧ V.cell? ⟨w.heap.size, 6, none⟩ = some (.string lb)) (first | exact ⟨x1, x3, x4, x6⟩ | go_keep) (first | (go_simp; go_at_call 92; refine (HJ.out _).mono ?_; rintro e w3 ⟨rfl, rfl⟩))
  go_wp2
  go_ret
  exact ⟨⟨_, rfl, TRd.drew (TRd.lit w2 [(2, pt), (3, joinP pt lb)] _)⟩, (HB2.out.alloc HB2.out.size _).drew⟩
set_option maxHeartbeats 2000000 in
set_option maxRecDepth 20000 in
theorem touched_7 {op : OpW} (hk : op.kind = 7) (hok : OpOk op) (_hlb : op.item.label.size ≤ 1000000) {iv : Nat → Value} {la ka : Option Addr} {ln lc kn kc : Nat} (f0 : iv 0 = .string op.item.label) (f1 : iv 1 = .string op.item.head) (f2 : iv 2 = .slice la ln lc) (f3 : iv 3 = .slice ka kn kc) (w : World) :
    Calls Tryz.prog 49 #[.agg (opV op iv)] w (TchR w (tgB op)) := by
  have HT : Hid (tgB op = [(2, outB op.path), (3, op.path)]) := by show _ = _; unfold tgB; rw [if_neg (by omega), if_neg (by omega), if_neg (by omega), if_pos hk]
  have HS := hidLL (fun w => split_w op.path (by have := hok.path; omega) w)
  obtain ⟨WB, hWB⟩ : ∃ WB, WB = w.alloc (.cells (opV op iv) 46) := ⟨_, rfl⟩
  have hb1 : Below w.heap.size w WB := by rw [hWB]; exact (Below.refl _ _).alloc (Nat.le_refl _) _
  have hx : WB.heap[w.heap.size]? = some (.cells (opV op iv) 46 (0, 0)) := by rw [hWB]; exact heap_alloc_new _ _
  unfold opV at hWB hx ⊢
  rw [f0, f1, f2, f3, hk] at hWB hx
  rw [f0, f1, f2, f3, hk]
  rw [HT.out]
  have HW := hidLL hWB
  have HX := hidLL (And.intro hb1 hx)
  obtain ⟨x0, x1, x2, x3, x4, x5, x6, x7, x8, x9⟩ := ten hx
  clear hWB hb1 hx f0 f1 f2 f3 HT hk hok _hlb
  generalize outB op.path = ou at *
  generalize labB op.path = lo at *
  generalize op.path = pt at *
  generalize op.item.label = lb at *
  generalize op.item.head = hd at *
  generalize op.at' = oat at *
  generalize op.text = otx at *
  generalize op.new = onw at *
  generalize op.line = oli at *
  go_enter Tryz.func49, Tryz.ntmps49
  go_upto_region 1 with fail
  rw [← HW.out]
  go_wp2_with fail
  refine (HS.out WB).mono ?_
  rintro e w2 ⟨rfl, hb2⟩
  have hg := (hb2.block w.heap.size (Array.getElem?_eq_some_iff.1 HX.out.2).1).trans HX.out.2
  have HB2 := hidLL (HX.out.1.trans (hb2.mono HX.out.1.size))
  clear x0 x1 x2 x3 x4 x5 x6 x7 x8 x9
  obtain ⟨x0, x1, x2, x3, x4, x5, x6, x7, x8, x9⟩ := ten hg
  clear hb2 hg
  go_wp2
  go_ret
  exact ⟨⟨_, rfl, TRd.lit w2 [(2, ou), (3, pt)] _⟩, HB2.out.alloc HB2.out.size _⟩
set_option maxHeartbeats 2000000 in
set_option maxRecDepth 20000 in
theorem touched_8 {op : OpW} (hk : op.kind = 8) (hok : OpOk op) (_hlb : op.item.label.size ≤ 1000000) {iv : Nat → Value} {la ka : Option Addr} {ln lc kn kc : Nat} (f0 : iv 0 = .string op.item.label) (f1 : iv 1 = .string op.item.head) (f2 : iv 2 = .slice la ln lc) (f3 : iv 3 = .slice ka kn kc) (w : World) :
    Calls Tryz.prog 49 #[.agg (opV op iv)] w (TchR w (tgB op)) := by
  have HT : Hid (tgB op = [(2, outB op.path), (3, op.path), (3, joinP (outB op.path) op.text)]) := by show _ = _; unfold tgB; rw [if_neg (by omega), if_neg (by omega), if_neg (by omega), if_neg (by omega), if_pos hk]
  have HJ := hidLL (fun w => join_w (outB op.path) op.text (by have := out_size op.path; have := hok.path; have := hok.text; have := hok.new; omega) (by have := out_size op.path; have := hok.path; have := hok.text; have := hok.new; omega) w)
  have HS := hidLL (fun w => split_w op.path (by have := hok.path; omega) w)
  obtain ⟨WB, hWB⟩ : ∃ WB, WB = w.alloc (.cells (opV op iv) 46) := ⟨_, rfl⟩
  have hb1 : Below w.heap.size w WB := by rw [hWB]; exact (Below.refl _ _).alloc (Nat.le_refl _) _
  have hx : WB.heap[w.heap.size]? = some (.cells (opV op iv) 46 (0, 0)) := by rw [hWB]; exact heap_alloc_new _ _
  unfold opV at hWB hx ⊢
  rw [f0, f1, f2, f3, hk] at hWB hx
  rw [f0, f1, f2, f3, hk]
  rw [HT.out]
  have HW := hidLL hWB
  have HX := hidLL (And.intro hb1 hx)
  obtain ⟨x0, x1, x2, x3, x4, x5, x6, x7, x8, x9⟩ := ten hx
  clear hWB hb1 hx f0 f1 f2 f3 HT hk hok _hlb
  generalize outB op.path = ou at *
  generalize labB op.path = lo at *
  generalize op.path = pt at *
  generalize op.item.label = lb at *
  generalize op.item.head = hd at *
  generalize op.at' = oat at *
  generalize op.text = otx at *
  generalize op.new = onw at *
  generalize op.line = oli at *
  go_enter Tryz.func49, Tryz.ntmps49
  go_upto_region 1 with fail
  rw [← HW.out]
  go_wp2_with fail
  refine (HS.out WB).mono ?_
  rintro e w2 ⟨rfl, hb2⟩
  have hg := (hb2.block w.heap.size (Array.getElem?_eq_some_iff.1 HX.out.2).1).trans HX.out.2
  have HB2 := hidLL (HX.out.1.trans (hb2.mono HX.out.1.size))
  clear x0 x1 x2 x3 x4 x5 x6 x7 x8 x9
  obtain ⟨x0, x1, x2, x3, x4, x5, x6, x7, x8, x9⟩ := ten hg
  clear hb2 hg
  go_wp2_with fail
  go_region_held3 (fun V => V.cell? ⟨w.heap.size, 1, none⟩ = some (.string pt) ∧ V.cell? ⟨w.heap.size, 3, none⟩ = some (.string otx) ∧ V.cell? ⟨w.heap.size, 4, none⟩ = some (.string onw) ∧ V.cell? ⟨w.heap.size, 6, none⟩ = some (.string lb)) (first | exact ⟨x1, x3, x4, x6⟩ | go_keep) (first | (go_simp; go_at_call 92; refine (HJ.out _).mono ?_; rintro e w3 ⟨rfl, rfl⟩))
  go_wp2
  go_ret
  exact ⟨⟨_, rfl, TRd.drew (TRd.lit w2 [(2, ou), (3, pt), (3, joinP ou otx)] _)⟩, (HB2.out.alloc HB2.out.size _).drew⟩
set_option maxHeartbeats 2000000 in
set_option maxRecDepth 20000 in
theorem touched_9 {op : OpW} (hk : op.kind = 9) (hok : OpOk op) (_hlb : op.item.label.size ≤ 1000000) {iv : Nat → Value} {la ka : Option Addr} {ln lc kn kc : Nat} (f0 : iv 0 = .string op.item.label) (f1 : iv 1 = .string op.item.head) (f2 : iv 2 = .slice la ln lc) (f3 : iv 3 = .slice ka kn kc) (w : World) :
    Calls Tryz.prog 49 #[.agg (opV op iv)] w (TchR w (tgB op)) := by
  have HT : Hid (tgB op = [(2, outB op.path), (3, op.path), (2, op.new), (3, joinP op.new (labB op.path))]) := by show _ = _; unfold tgB; rw [if_neg (by omega), if_neg (by omega), if_neg (by omega), if_neg (by omega), if_neg (by omega), if_pos hk]
  have HJ := hidLL (fun w => join_w op.new (labB op.path) (by have := out_size op.path; have := hok.path; have := hok.text; have := hok.new; omega) (by have := out_size op.path; have := hok.path; have := hok.text; have := hok.new; omega) w)
  have HS := hidLL (fun w => split_w op.path (by have := hok.path; omega) w)
  obtain ⟨WB, hWB⟩ : ∃ WB, WB = w.alloc (.cells (opV op iv) 46) := ⟨_, rfl⟩
  have hb1 : Below w.heap.size w WB := by rw [hWB]; exact (Below.refl _ _).alloc (Nat.le_refl _) _
  have hx : WB.heap[w.heap.size]? = some (.cells (opV op iv) 46 (0, 0)) := by rw [hWB]; exact heap_alloc_new _ _
  unfold opV at hWB hx ⊢
  rw [f0, f1, f2, f3, hk] at hWB hx
  rw [f0, f1, f2, f3, hk]
  rw [HT.out]
  have HW := hidLL hWB
  have HX := hidLL (And.intro hb1 hx)
  obtain ⟨x0, x1, x2, x3, x4, x5, x6, x7, x8, x9⟩ := ten hx
  clear hWB hb1 hx f0 f1 f2 f3 HT hk hok _hlb
  generalize outB op.path = ou at *
  generalize labB op.path = lo at *
  generalize op.path = pt at *
  generalize op.item.label = lb at *
  generalize op.item.head = hd at *
  generalize op.at' = oat at *
  generalize op.text = otx at *
  generalize op.new = onw at *
  generalize op.line = oli at *
  go_enter Tryz.func49, Tryz.ntmps49
  go_upto_region 1 with fail
  rw [← HW.out]
  go_wp2_with fail
  refine (HS.out WB).mono ?_
  rintro e w2 ⟨rfl, hb2⟩
  have hg := (hb2.block w.heap.size (Array.getElem?_eq_some_iff.1 HX.out.2).1).trans HX.out.2
  have HB2 := hidLL (HX.out.1.trans (hb2.mono HX.out.1.size))
  clear x0 x1 x2 x3 x4 x5 x6 x7 x8 x9
  obtain ⟨x0, x1, x2, x3, x4, x5, x6, x7, x8, x9⟩ := ten hg
  clear hb2 hg
  go_wp2_with fail
  go_region_held3 (fun V => V.cell? ⟨w.heap.size, 1, none⟩ = some (.string pt) ∧ V.cell? ⟨w.heap.size, 3, none⟩ = some (.string otx) ∧ V.cell? ⟨w.heap.size, 4, none⟩ = some (.string onw) ∧ V.cell? ⟨w.heap.size, 6, none⟩ = some (.string lb)) (first | exact ⟨x1, x3, x4, x6⟩ | go_keep) (first | (go_simp; go_at_call 92; refine (HJ.out _).mono ?_; rintro e w3 ⟨rfl, rfl⟩))
  go_wp2
  go_ret
  exact ⟨⟨_, rfl, TRd.drew (TRd.lit w2 [(2, ou), (3, pt), (2, onw), (3, joinP onw lo)] _)⟩, (HB2.out.alloc HB2.out.size _).drew⟩
set_option maxHeartbeats 2000000 in
set_option maxRecDepth 20000 in
theorem touched_0 {op : OpW} (hk : op.kind < 1 ∨ 9 < op.kind) (hok : OpOk op) (_hlb : op.item.label.size ≤ 1000000) {iv : Nat → Value} {la ka : Option Addr} {ln lc kn kc : Nat} (f0 : iv 0 = .string op.item.label) (f1 : iv 1 = .string op.item.head) (f2 : iv 2 = .slice la ln lc) (f3 : iv 3 = .slice ka kn kc) (w : World) :
    Calls Tryz.prog 49 #[.agg (opV op iv)] w (TchR w (tgB op)) := by
  have HT : Hid (tgB op = []) := by show _ = _; unfold tgB; rw [if_neg (by omega), if_neg (by omega), if_neg (by omega), if_neg (by omega), if_neg (by omega), if_neg (by omega)]
  have HS := hidLL (fun w => split_w op.path (by have := hok.path; omega) w)
  obtain ⟨WB, hWB⟩ : ∃ WB, WB = w.alloc (.cells (opV op iv) 46) := ⟨_, rfl⟩
  have hb1 : Below w.heap.size w WB := by rw [hWB]; exact (Below.refl _ _).alloc (Nat.le_refl _) _
  have hx : WB.heap[w.heap.size]? = some (.cells (opV op iv) 46 (0, 0)) := by rw [hWB]; exact heap_alloc_new _ _
  unfold opV at hWB hx ⊢
  rw [f0, f1, f2, f3] at hWB hx
  rw [f0, f1, f2, f3]
  have hk1 : ¬ op.kind = 1 := by omega
  have hk2 : ¬ op.kind = 2 := by omega
  have hk3 : ¬ op.kind = 3 := by omega
  have hk4 : ¬ op.kind = 4 := by omega
  have hk5 : ¬ op.kind = 5 := by omega
  have hk6 : ¬ op.kind = 6 := by omega
  have hk7 : ¬ op.kind = 7 := by omega
  have hk8 : ¬ op.kind = 8 := by omega
  have hk9 : ¬ op.kind = 9 := by omega
  rw [HT.out]
  have HW := hidLL hWB
  have HX := hidLL (And.intro hb1 hx)
  obtain ⟨x0, x1, x2, x3, x4, x5, x6, x7, x8, x9⟩ := ten hx
  clear hWB hb1 hx f0 f1 f2 f3 HT hk hok _hlb
  generalize outB op.path = ou at *
  generalize labB op.path = lo at *
  generalize op.path = pt at *
  generalize op.item.label = lb at *
  generalize op.item.head = hd at *
  generalize op.at' = oat at *
  generalize op.text = otx at *
  generalize op.new = onw at *
  generalize op.line = oli at *
  generalize op.kind = okd at *
  go_enter Tryz.func49, Tryz.ntmps49
  go_upto_region 1 with fail
  rw [← HW.out]
  go_wp2_with fail
  refine (HS.out WB).mono ?_
  rintro e w2 ⟨rfl, hb2⟩
  have hg := (hb2.block w.heap.size (Array.getElem?_eq_some_iff.1 HX.out.2).1).trans HX.out.2
  have HB2 := hidLL (HX.out.1.trans (hb2.mono HX.out.1.size))
  clear x0 x1 x2 x3 x4 x5 x6 x7 x8 x9
  obtain ⟨x0, x1, x2, x3, x4, x5, x6, x7, x8, x9⟩ := ten hg
  clear hb2 hg
  go_wp2
  go_ret
  exact ⟨⟨_, rfl, TRd.nil _⟩, HB2.out⟩
theorem touched_w {op : OpW} (hok : OpOk op) (hlb : op.item.label.size ≤ 1000000) {iv : Nat → Value} {la ka : Option Addr} {ln lc kn kc : Nat} (f0 : iv 0 = .string op.item.label) (f1 : iv 1 = .string op.item.head) (f2 : iv 2 = .slice la ln lc) (f3 : iv 3 = .slice ka kn kc) (w : World) :
    Calls Tryz.prog 49 #[.agg (opV op iv)] w (TchR w (tgB op)) := by
  rcases (by omega : (op.kind < 1 ∨ 9 < op.kind) ∨ op.kind = 1 ∨ op.kind = 2 ∨ op.kind = 3 ∨ op.kind = 4 ∨ op.kind = 5 ∨ op.kind = 6 ∨ op.kind = 7 ∨ op.kind = 8 ∨ op.kind = 9) with h | h | h | h | h | h | h | h | h | h
  · exact touched_0 h hok hlb f0 f1 f2 f3 w
  · exact touched_1 h hok hlb f0 f1 f2 f3 w
  · exact touched_2 h hok hlb f0 f1 f2 f3 w
  · exact touched_3 h hok hlb f0 f1 f2 f3 w
  · exact touched_4 h hok hlb f0 f1 f2 f3 w
  · exact touched_5 h hok hlb f0 f1 f2 f3 w
  · exact touched_6 h hok hlb f0 f1 f2 f3 w
  · exact touched_7 h hok hlb f0 f1 f2 f3 w
  · exact touched_8 h hok hlb f0 f1 f2 f3 w
  · exact touched_9 h hok hlb f0 f1 f2 f3 w
end Go.Proofs.YtpbolcjcmkmalaaGreatDoor
