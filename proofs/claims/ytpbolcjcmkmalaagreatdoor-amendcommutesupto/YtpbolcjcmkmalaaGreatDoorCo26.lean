/-
  Package script: Valid.
-/
import Derived.Test.YtpbolcjcmkmalaaGreatDoorCo25
import Derived.Test.YtpbolcjcmkmalaaGreatDoorCo24
namespace Go.Proofs.YtpbolcjcmkmalaaGreatDoor
open Go.RowKit Go.Extern.Stop Go.Stop Go.Extern

/-- What Valid tells. -/
def VTold (p : Nat → Addr) (e : Ending) : VOut → Prop
  | .bad c => ∃ k, c = k + 1 ∧ k < 11 ∧ e = .returned (errI (p k))
  | .ok _ => e = .returned .nilIface
set_option maxHeartbeats 2000000 in
theorem valid_any (t : It) (hF : FewIt t) (p : Nat → Addr) (m : Int) (w : World) (hE : Env w p m) (P : Nat → Prop) (v : Nat → Value) (hL : Lies w P v t) :
    Calls Tryz.prog 16 #[.agg #[v 0, v 1, v 2, v 3]] w fun e w' => VTold p e (vIt 0 0 [] t) ∧ Below w.heap.size w w' := by
  obtain ⟨f0, f1, ⟨la, lc, f2⟩, ⟨ka, kc, f3⟩⟩ := hL.forms
  obtain ⟨W2, hW2⟩ : ∃ W2, W2 = (w.alloc (.cells #[.string t.label, .string t.head, .slice la t.lines.length lc, .slice ka t.kids.length kc] 25)).alloc (.cells #[.int .i64 0] 69) := ⟨_, rfl⟩
  have ha := alloc_two w (.cells #[.string t.label, .string t.head, .slice la t.lines.length lc, .slice ka t.kids.length kc] 25) (.cells #[.int .i64 0] 69)
  have hb : Below w.heap.size w W2 := by rw [hW2]; exact ((Below.refl _ _).alloc (Nat.le_refl _) _).alloc (by simp) _
  have hs2 : W2.heap.size = w.heap.size + 2 := by rw [hW2]; simp
  rw [← hW2] at ha
  have hI := item_any (w.heap.size + 1) p m w hE (by omega) _ t (Nat.le_refl _) hF 0 0 v W2 none 0 [] (fun _ _ => .nilIface) (hL.step fun b hb' _ => ⟨hb.block b hb', by show b ≠ w.heap.size + 1; omega⟩) ⟨fun i hi => absurd hi (Nat.not_lt_zero _), fun i k e => by cases e⟩ ha.2 hb (by omega) (by omega) (by simp)
  rw [f0, f1, f2, f3] at hI
  rw [f0, f1, f2, f3]
  have HI := hidLL hI
  have HB := hidLL hb
  have HX := hidLL hW2
  have HS2 := hidLL hs2
  obtain ⟨x0, x1, x2, x3, xf⟩ := four ha.1
  clear hI hb hW2 ha hL f0 f1 f2 f3 hF hs2
  generalize vIt 0 0 [] t = O at *
  go_enter Tryz.func16, Tryz.ntmps16
  go_upto_region 2 with fail
  rw [← HX.out]
  go_wp2_with fail
  go_at_call 26
  refine HI.out.mono ?_
  rintro e w3 ⟨hS, hb3⟩
  have HB3 : Hid (Below w.heap.size w w3) := HB.out.trans (hb3.down (by have := HS2.out; omega) (by omega))
  clear hb3
  cases O with
  | bad c =>
    obtain ⟨k, hc, hk, rfl⟩ := hS
    have HC := hidLL hc
    clear hc
    unfold errI
    go_wp2
    go_ret
    exact ⟨⟨k, HC.out, hk, rfl⟩, HB3.out⟩
  | ok n =>
    obtain ⟨rfl, _⟩ := hS
    go_wp2
    go_ret
    exact ⟨rfl, HB3.out⟩
end Go.Proofs.YtpbolcjcmkmalaaGreatDoor
namespace Go.Proofs.YtpbolcjcmkmalaaGreatDoor
open Go.RowKit Go.Extern.Stop Go.Stop Go.Extern

theorem NodeAt.set {w : World} {b o c : Nat} {v : Nat → Value} (h : NodeAt w b o v) (hc : c < 4) (u : Value) : NodeAt (w.setCell ⟨b, o + c, none⟩ u) b o (updV v c u) := by
  obtain ⟨cur, e, hcs⟩ := h
  refine ⟨_, setCell_row u e, fun d hd => ?_⟩
  rw [Array.getElem?_setIfInBounds]
  by_cases hdc : d = c
  · subst hdc
    rw [if_pos rfl, if_pos ((Array.getElem?_eq_some_iff.1 (hcs d hd)).1), updV_same]
  · rw [if_neg (by omega), updV_ne v u hdc]
    exact hcs d hd
theorem NodeAt.on {w w' : World} {b o : Nat} {v : Nat → Value} (h : NodeAt w b o v) (hb : w'.heap[b]? = w.heap[b]?) : NodeAt w' b o v := by
  obtain ⟨cur, e, hcs⟩ := h
  exact ⟨cur, hb.trans e, hcs⟩
theorem KidF.trans {B : Nat} {a b c : World} {g i : Nat} (h : KidF B a b g i) (k : KidF B b c g i) : KidF B a c g i := by
  refine ⟨k.os.trans h.os, k.tape.trans h.tape, k.output.trans h.output, Nat.le_trans h.size k.size, fun q hq hg hp => ?_, fun cur e => ?_⟩
  · have h1 := h.block q hq hg hp
    exact (k.block q (Nat.lt_of_lt_of_le hq h.size) hg (fun hB c => by rw [h1]; exact hp hB c)).trans h1
  · obtain ⟨c1, e1, e2, e3⟩ := h.here cur e
    obtain ⟨c2, g1, g2, g3⟩ := k.here c1 e1
    exact ⟨c2, g1, g2.trans e2, fun q hq => (g3 q hq).trans (e3 q hq)⟩
theorem KidF.new {B : Nat} {w w' : World} {g i : Nat} (hb : Below w.heap.size w w') (hg : g < w.heap.size) : KidF B w w' g i :=
  ⟨hb.os, hb.tape, hb.output, hb.size, fun q hq _ _ => hb.block q hq, fun cur e => ⟨cur, (hb.block g hg).trans e, rfl, fun _ _ => rfl⟩⟩
theorem KidF.cell {B : Nat} (w : World) (g i : Nat) {c : Nat} (hc : c < 4) (u : Value) : KidF B w (w.setCell ⟨g, i * 4 + c, none⟩ u) g i :=
  ⟨rfl, rfl, rfl, by simp, fun q _ hg _ => Below.heap_setCell _ _ _ _ hg, fun cur e => ⟨_, setCell_row u e, by simp, fun q hq => by rw [Array.getElem?_setIfInBounds, if_neg (by omega)]⟩⟩
theorem KidF.q {B : Nat} {w w' : World} {g i : Nat} (h : QFr B w w') : KidF B w w' g i := by
  refine ⟨h.os, h.tape, h.output, h.size, fun q hq _ hp => h.block q hq hp, fun cur e => ⟨cur, ?_, rfl, fun _ _ => rfl⟩⟩
  rw [h.block g (Array.getElem?_eq_some_iff.1 e).1 (fun _ c e2 => by
    rw [e] at e2
    injection e2 with e2
    injection e2 with _ e2 _
    exact item_ne_ptr e2), e]
section
variable {N g j n : Nat} {wx w1 : World} {K : Nat → Value} {k : It} {u2 : Value} (hn : NodeAt wx g (j * 4) K) (h0 : K 0 = .string k.label) (h1 : K 1 = .string k.head) (hb : Below wx.heap.size wx w1) (hu : w1.ownsRow wx.heap.size stT 1 u2 k.lines.length (k.lines.map Value.string))
include hn hb
theorem kid_w1 : NodeAt w1 g (j * 4) K := hn.on (hb.block g hn.lt)
theorem kid_y : KidF N wx (w1.setCell ⟨g, j * 4 + 2, none⟩ u2) g j ∧ NodeAt (w1.setCell ⟨g, j * 4 + 2, none⟩ u2) g (j * 4) (updV K 2 u2) := ⟨(KidF.new hb hn.lt).trans (KidF.cell _ _ _ (by omega) _), (kid_w1 hn hb).set (by omega) u2⟩
include h0 h1 hu
theorem kid_push {w6 : World} (hk : k.kids ≠ []) (hq : QFr N (w1.setCell ⟨g, j * 4 + 2, none⟩ u2) w6) : KidF N wx w6 g j ∧ KidD w6 wx.heap.size g j k (K 3) (fun q => wx.heap.size ≤ q ∧ q < w6.heap.size) (updV K 2 u2) := by
  obtain ⟨hf, hy⟩ := kid_y (N := N) (u2 := u2) hn hb
  have hy1 := kid_w1 hn hb
  obtain ⟨c1, e1, _⟩ := hy1
  have hy' := hy
  obtain ⟨cy, ey, _⟩ := hy
  have hfq : KidF N (w1.setCell ⟨g, j * 4 + 2, none⟩ u2) w6 g j := .q hq
  have hsz : w1.heap.size ≤ w6.heap.size := by have := hq.size; simpa using this
  refine ⟨hf.trans hfq, ⟨?_, (updV_ne K u2 (by omega)).trans h0, (updV_ne K u2 (by omega)).trans h1, ?_, fun q hq' => ?_, fun _ => updV_ne K u2 (by omega), fun e => absurd e hk⟩⟩
  · refine hy'.on (hq.block g (by simpa using (kid_w1 hn hb).lt) (fun _ c e2 => ?_))
    rw [ey] at e2
    injection e2 with e2
    injection e2 with _ e2 _
    exact item_ne_ptr e2
  · rw [updV_same]
    exact hfq.rowS ⟨cy, ey⟩ ((KidF.cell (B := N) w1 g j (c := 2) (by omega) u2).rowS ⟨c1, e1⟩ hu)
  · rw [updV_same] at hq'
    have := hu.lt q hq'
    omega
theorem kid_empty {w7 : World} {u3 : Value} (hk : k.kids = []) (hb7 : Below (w1.setCell ⟨g, j * 4 + 2, none⟩ u2).heap.size (w1.setCell ⟨g, j * 4 + 2, none⟩ u2) w7) (hu3 : w7.ownsRow (w1.setCell ⟨g, j * 4 + 2, none⟩ u2).heap.size itT 4 u3 0 []) : KidF N wx (w7.setCell ⟨g, j * 4 + 3, none⟩ u3) g j ∧ KidD (w7.setCell ⟨g, j * 4 + 3, none⟩ u3) wx.heap.size g j k (K 3) (fun q => wx.heap.size ≤ q ∧ q < (w7.setCell ⟨g, j * 4 + 3, none⟩ u3).heap.size) (updV (updV K 2 u2) 3 u3) := by
  obtain ⟨hf, hy⟩ := kid_y (N := N) (u2 := u2) hn hb
  obtain ⟨c1, e1, _⟩ := kid_w1 hn hb
  have hy7 := hy.on (hb7.block g hy.lt)
  obtain ⟨cy, ey, _⟩ := hy
  have hf7 : KidF N (w1.setCell ⟨g, j * 4 + 2, none⟩ u2) (w7.setCell ⟨g, j * 4 + 3, none⟩ u3) g j := (KidF.new hb7 (by simpa using (kid_w1 hn hb).lt)).trans (KidF.cell _ _ _ (by omega) _)
  have hs7 : w1.heap.size ≤ w7.heap.size := by have := hb7.size; simpa using this
  have hsx : wx.heap.size ≤ w1.heap.size := hb.size
  have hs8 : (w7.setCell ⟨g, j * 4 + 3, none⟩ u3).heap.size = w7.heap.size := by simp
  have hsy : (w1.setCell ⟨g, j * 4 + 2, none⟩ u2).heap.size = w1.heap.size := by simp
  refine ⟨hf.trans hf7, ⟨hy7.set (by omega) u3, ?_, ?_, ?_, fun q hq => ?_, fun e => absurd hk e, fun _ => ⟨?_, fun q hq => ?_⟩⟩⟩
  · rw [updV_ne _ u3 (by omega), updV_ne K u2 (by omega)]; exact h0
  · rw [updV_ne _ u3 (by omega), updV_ne K u2 (by omega)]; exact h1
  · rw [updV_ne _ u3 (by omega), updV_same]
    exact hf7.rowS ⟨cy, ey⟩ ((KidF.cell (B := N) w1 g j (c := 2) (by omega) u2).rowS ⟨c1, e1⟩ hu)
  · rw [updV_ne _ u3 (by omega), updV_same] at hq
    have := hu.lt q hq
    omega
  · rw [updV_same]
    obtain ⟨c7, e7, _⟩ := hy7
    exact ((KidF.cell (B := N) w7 g j (c := 3) (by omega) u3).rowI (.of hu3)).mono (by omega)
  · rw [updV_same] at hq
    have := hu3.lt q hq
    omega
end
end Go.Proofs.YtpbolcjcmkmalaaGreatDoor
