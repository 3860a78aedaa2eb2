/-
  Package script: Write.
-/
import Derived.Test.YtgfaeeacndpniaaDoorPageCont
import Derived.Test.YtgfaeeacndpniaaDoorValidP3
import Derived.BigQuiet
namespace Go.Proofs.YtgfaeeacndpniaaDoor
open Go.RowKit Go.Extern.Stop Go.Stop Go.Extern

/-- What Write tells: an error's number, or 0. -/
noncomputable def writeC (t : It) : Nat := match vIt 0 0 [] t with | .bad c => c | .ok _ => if 30000 < (formL t).length then 2 else 0
def WTold (p : Nat → Addr) (e : Ending) (c : Nat) (s : List UInt8) : Prop := (c = 0 ∧ e = .returned (.tuple #[.string ⟨s.toArray⟩, .nilIface])) ∨ (∃ k, c = k + 1 ∧ k < 11 ∧ e = .returned (.tuple #[.string ⟨#[]⟩, errI (p k)]))
theorem page_new {B b : Nat} {w : World} (hB : B ≤ b) (hw : B ≤ w.heap.size) (h : w.heap[b]? = some (.cells #[.pointer none, .slice none 0 0] 56 (0, 0))) : Pg B b [] w :=
  ⟨.inl ⟨hB, .slice none 0 0, h, ⟨rfl, .inl ⟨rfl, rfl⟩⟩, fun e => by cases e⟩, hw⟩
set_option maxHeartbeats 4000000 in
theorem write_any (t : It) (hF : FewIt t) (hsz : sizeIt t ≤ 1048576) (p : Nat → Addr) (m : Int) (w : World) (hE : Env w p m) (P : Nat → Prop) (v : Nat → Value) (hL : Lies w P v t) :
    Calls Tryd.prog 10 #[.agg #[v 0, v 1, v 2, v 3]] w fun e w' => WTold p e (writeC t) (formL t) ∧ Below w.heap.size w w' := by
  obtain ⟨f0, f1, ⟨la, lc, f2⟩, ⟨ka, kc, f3⟩⟩ := hL.forms
  have hLB : Lies w (fun k => k < w.heap.size) v t := hL.step fun b hb _ => ⟨rfl, hb⟩
  have HV := hidLL (fun W (hb : Below w.heap.size w W) => valid_any t hF p m W (hE.on hb) (fun k => k < w.heap.size) v (hLB.step fun b hb' hp => ⟨hb.block b hb', hp⟩))
  have hc := cont_bd hsz
  have hr := rowL_len 0 lawL (bl t.head)
  rw [bl_len, show lawL.length = 3 from rfl] at hr
  have hh := sizeIt_eq t
  have HFl : Hid ((formL t).length = (rowL 0 lawL (bl t.head)).length + (contL 0 t).length) := by show _ = _; unfold formL; rw [List.length_append]
  have HRw := hidLL (fun b W (h : Pg w.heap.size b [] W) => pageRow_any w.heap.size b 0 ⟨#[108, 97, 119]⟩ t.head [] W h (by omega) (by
    rw [show bl ⟨#[108, 97, 119]⟩ = lawL from rfl]; simp only [List.length_nil]; omega))
  have HCt := hidLL (fun b W (h : Pg w.heap.size b (rowL 0 lawL (bl t.head)) W) (hb : Below w.heap.size w W) => content_any w.heap.size b _ t (Nat.le_refl _) (by omega) 0 v W _ (hLB.step fun q _ hq => ⟨hb.block q hq, hq⟩) h (by omega) (by omega))
  have HC : Hid (writeC t = match vIt 0 0 [] t with | .bad c => c | .ok _ => if 30000 < (formL t).length then 2 else 0) := rfl
  have HFm : Hid (formL t = rowL 0 lawL (bl t.head) ++ contL 0 t) := rfl
  have HNe : Hid (formL t ≠ []) := by
    show _ ≠ _
    intro e
    have := congrArg List.length e
    rw [HFl.out] at this
    unfold rowL at this
    simp [lawL] at this
  rw [f0, f1, f2, f3] at HV HCt
  rw [f0, f1, f2, f3]
  have HE := hidLL hE
  obtain ⟨W1, hW1⟩ : ∃ W1, W1 = w.alloc (.cells #[.string t.label, .string t.head, .slice la t.lines.length lc, .slice ka t.kids.length kc] 31) := ⟨_, rfl⟩
  have hb1 : Below w.heap.size w W1 := by rw [hW1]; exact (Below.refl _ _).alloc (Nat.le_refl _) _
  have hx1 : W1.heap[w.heap.size]? = some (.cells #[.string t.label, .string t.head, .slice la t.lines.length lc, .slice ka t.kids.length kc] 31 (0, 0)) := by rw [hW1]; exact heap_alloc_new _ _
  have hfb : (formL t).length ≤ 100000000000000 := by have := HFl.out; omega
  have HR3 : Hid (rowL 0 (bl ⟨#[108, 97, 119]⟩) (bl t.head) = rowL 0 lawL (bl t.head)) := rfl
  have HB1 := hidLL hb1
  have HX1 := hidLL hx1
  have HW1 := hidLL hW1
  obtain ⟨x0, x1, x2, x3, xf⟩ := four hx1
  clear hF hsz hE hL hLB f0 f1 f2 f3 hc hr hh hb1 hx1 HFl hW1
  generalize vIt 0 0 [] t = O at *
  generalize writeC t = C at *
  generalize formL t = F at *
  generalize rowL 0 lawL (bl t.head) = RL at *
  generalize contL 0 t = CL at *
  generalize t.label = l0 at *
  generalize t.head = l1 at *
  generalize t.lines.length = l2 at *
  generalize t.kids.length = l3 at *
  go_enter Tryd.func10, Tryd.ntmps10
  go_upto_region 1 with fail
  rw [← HW1.out]
  go_wp2_with fail
  go_at_call 20
  refine (HV.out W1 HB1.out).mono ?_
  rintro e w2 ⟨hO, hb2⟩
  have hs1 := lt_of_block HX1.out
  have hb02 : Below w.heap.size w w2 := HB1.out.trans (hb2.mono (by omega))
  have HB2 := hidLL hb02
  have HX2 : Hid (w2.heap[w.heap.size]? = _) := (hb2.block w.heap.size hs1).trans HX1.out
  clear hb2 hb02 x0 x1 x2 x3 xf
  cases O with
  | bad c =>
    obtain ⟨k, hc, hk, rfl⟩ := hO
    have HK := hidLL (show C = k + 1 from HC.out.trans hc)
    unfold errI
    clear hc
    go_wp2
    go_ret2
    exact ⟨.inr ⟨k, HK.out, hk, rfl⟩, HB2.out⟩
  | ok n =>
    obtain rfl : e = .returned .nilIface := hO
    obtain ⟨x0, x1, x2, x3, xf⟩ := four HX2.out
    obtain ⟨W3, hW3⟩ : ∃ W3, W3 = w2.alloc (.cells #[.pointer none, .slice none 0 0] 56) := ⟨_, rfl⟩
    have hb3 : Below w2.heap.size w2 W3 := by rw [hW3]; exact (Below.refl _ _).alloc (Nat.le_refl _) _
    have hp3 : W3.heap[w2.heap.size]? = some (.cells #[.pointer none, .slice none 0 0] 56 (0, 0)) := by rw [hW3]; exact heap_alloc_new _ _
    have hs2 := lt_of_block HX2.out
    have hx3 := (hb3.block w.heap.size hs2).trans HX2.out
    have hsw := HB2.out.size
    have HPg := hidLL (page_new (B := w.heap.size) (b := w2.heap.size) hsw (Nat.le_trans hsw hb3.size) hp3)
    have HB3 := hidLL (HB2.out.trans (hb3.mono hsw))
    have HX3 := hidLL hx3
    go_upto_region 5 with fail
    rw [← hW3]
    clear hW3 hb3 hp3 x0 x1 x2 x3 xf
    obtain ⟨x0, x1, x2, x3, xf⟩ := four hx3
    clear hx3
    have hnb : w.heap.size ≠ w2.heap.size := by omega
    go_wp2_with fail
    go_at_call 21
    refine (HRw.out w2.heap.size W3 HPg.out).mono ?_
    rintro e w4 ⟨rfl, hP4, hS4⟩
    rw [HR3.out, List.nil_append] at hP4
    have hx4 := (hS4.kp _ _ _ _ hnb HX3.out (by decide)).trans HX3.out
    have HP4 := hidLL hP4
    have HB4 := hidLL (HB3.out.trans hS4.bel)
    have HX4 := hidLL hx4
    clear hP4 hS4 x0 x1 x2 x3 xf
    obtain ⟨x0, x1, x2, x3, xf⟩ := four hx4
    clear hx4
    go_wp2_with fail
    go_at_call 22
    refine (HCt.out w2.heap.size w4 HP4.out HB4.out).mono ?_
    rintro e w5 ⟨rfl, hP5, hS5⟩
    rw [← HFm.out] at hP5
    have HP5 := hidLL hP5
    have HB5 := hidLL (HB4.out.trans hS5.bel)
    clear hP5 hS5 x0 x1 x2 x3 xf
    have HLen := hidLL (len_any w.heap.size w2.heap.size F w5 HP5.out)
    by_cases hbig : 30000 < F.length
    · have hbz : (30000 : Int) < (F.length : Int) := by omega
      have HK := hidLL (show C = 1 + 1 from HC.out.trans (if_pos hbig))
      have e1 : w5.cell? ⟨0, 0, none⟩ = some (.iface 129 (.pointer (some (p 1)))) := (HE.out.on HB5.out).L.cell 1 (by omega)
      clear hbig
      go_wp2_with fail
      go_at_call 23
      refine HLen.out.mono ?_
      rintro e w6 ⟨rfl, ew⟩
      subst w6
      go_wp2_with fail
      go_quiet (fail)
      go_wp2
      go_ret2
      exact ⟨.inr ⟨1, HK.out, by omega, rfl⟩, bdrewN HB5.out _⟩
    · have hbz : ¬ (30000 : Int) < (F.length : Int) := by omega
      have HK := hidLL (show C = 0 from HC.out.trans (if_neg hbig))
      have HStr := hidLL (string_any w.heap.size w2.heap.size F w5 HP5.out HNe.out)
      clear hbig
      go_wp2_with fail
      go_at_call 23
      refine HLen.out.mono ?_
      rintro e w6 ⟨rfl, ew⟩
      subst w6
      go_wp2_with fail
      go_at_call 24
      refine HStr.out.mono ?_
      rintro e w7 ⟨rfl, hb7⟩
      have HB7 := hidLL (HB5.out.trans hb7)
      clear hb7
      go_wp2
      go_ret2
      exact ⟨.inl ⟨HK.out, rfl⟩, HB7.out⟩
end Go.Proofs.YtgfaeeacndpniaaDoor
