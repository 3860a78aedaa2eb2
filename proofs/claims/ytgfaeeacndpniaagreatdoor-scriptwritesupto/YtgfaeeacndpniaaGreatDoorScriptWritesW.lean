/-
  The walk of ScriptWrites.
-/
import Derived.Test.YtgfaeeacndpniaaGreatDoorWriteR
import Derived.Test.YtgfaeeacndpniaaGreatDoorLiveP
import Derived.Test.YtgfaeeacndpniaaGreatDoorCodeAll
namespace Go.Proofs.YtgfaeeacndpniaaGreatDoor
open Go.RowKit Go.Extern.Stop Go.Stop Go.Extern

set_option maxHeartbeats 8000000 in
set_option maxRecDepth 10000 in
theorem scriptWrites_walk (t : It) (hsz : sizeIt t ≤ 1048576) (p : Nat → Addr) (m : Int) (w : World) (hE : Env w p m) (P : Nat → Prop) (v : Nat → Value) (hL : Lies w P v t) :
    Calls Tryz.prog 4 #[.agg #[v 0, v 1, v 2, v 3]] w fun e w' => e = .returned (.bool true) ∧ Below w.heap.size w w' := by
  obtain ⟨f0, f1, ⟨la, lc, f2⟩, ⟨ka, kc, f3⟩⟩ := hL.forms
  have hLB : ∀ W, Below w.heap.size w W → Lies W (fun k => k < w.heap.size) v t := fun W hb => hL.step fun b hb' _ => ⟨hb.block b hb', hb'⟩
  have HLv := hidLL (fun W (hb : Below w.heap.size w W) => live_any p m W (hE.on hb))
  have HFw := hidLL (fun W (hb : Below w.heap.size w W) => few_any t (by omega) v W _ (hLB W hb))
  have HWr := hidLL (fun (hF : FewIt t) W (hb : Below w.heap.size w W) => write_any t hF hsz p m W (hE.on hb) _ v (hLB W hb))
  have HWl := hidLL (fun (hF : FewIt t) W (hb : Below w.heap.size w W) => writeLaw_any t hF hsz W _ v (hLB W hb))
  have HVa := hidLL (fun (hF : FewIt t) W (hb : Below w.heap.size w W) => valid_any t hF p m W (hE.on hb) _ v (hLB W hb))
  have HVl := hidLL (fun (hF : FewIt t) W (hb : Below w.heap.size w W) => validLaw_any t hF hsz W _ v (hLB W hb))
  have HFi := hidLL (fun (h : smallN 0 t ≤ 400) => few_it _ t (Nat.le_refl _) 0 h)
  rw [f0, f1, f2, f3] at HFw HWr HWl HVa HVl
  rw [f0, f1, f2, f3]
  have HE := hidLL hE
  obtain ⟨W1, hW1⟩ : ∃ W1, W1 = w.alloc (.cells #[.string t.label, .string t.head, .slice la t.lines.length lc, .slice ka t.kids.length kc] 26) := ⟨_, rfl⟩
  have hb1 : Below w.heap.size w W1 := by rw [hW1]; exact (Below.refl _ _).alloc (Nat.le_refl _) _
  have hx1 : W1.heap[w.heap.size]? = some (.cells #[.string t.label, .string t.head, .slice la t.lines.length lc, .slice ka t.kids.length kc] 26 (0, 0)) := by rw [hW1]; exact heap_alloc_new _ _
  have HB1 := hidLL hb1
  have HX1 := hidLL hx1
  have HW1 := hidLL hW1
  have hs1 := lt_of_block hx1
  clear hsz hE hL hLB f0 f1 f2 f3 hb1 hx1 hW1
  generalize vIt 0 0 [] t = O at *
  generalize writeC t = C at *
  generalize formL t = F at *
  generalize hsn : smallN 0 t = sn at *
  generalize t.label = l0 at *
  generalize t.head = l1 at *
  generalize t.lines.length = l2 at *
  generalize t.kids.length = l3 at *
  go_enter Tryz.func4, Tryz.ntmps4
  go_upto_region 1 with fail
  rw [← HW1.out]
  go_wp2_with fail
  go_at_call 7
  refine (HLv.out W1 HB1.out).mono ?_
  rintro e w2 ⟨rfl, hb2⟩
  have HB2 := hidLL (HB1.out.trans (hb2.mono (by omega)))
  have hx2 := (hb2.block w.heap.size hs1).trans HX1.out
  have HX2 := hidLL hx2
  have hs2 := lt_of_block hx2
  obtain ⟨x0, x1, x2, x3, xf⟩ := four hx2
  clear hb2 hx2
  go_wp2_with fail
  go_at_call 12
  refine (HFw.out w2 HB2.out).mono ?_
  rintro e w3 ⟨rfl, hb3⟩
  have HB3 := hidLL (HB2.out.trans (hb3.mono (by omega)))
  have hx3 := (hb3.block w.heap.size hs2).trans HX2.out
  have HX3 := hidLL hx3
  have hs3 := lt_of_block hx3
  clear hb3 x0 x1 x2 x3 xf
  obtain ⟨x0, x1, x2, x3, xf⟩ := four hx3
  clear hx3
  by_cases hfew : sn ≤ 400
  · have hfd : decide (sn ≤ 400) = true := decide_eq_true hfew
    have HF := hidLL (HFi.out hfew)
    rw [hfd]
    clear hfd hfew
    go_wp2_with fail
    go_at_call 13
    refine (HWr.out HF.out w3 HB3.out).mono ?_
    rintro e w4 ⟨hO4, hb4⟩
    have HB4 := hidLL (HB3.out.trans (hb4.mono (by omega)))
    have hx4 := (hb4.block w.heap.size hs3).trans HX3.out
    have HX4 := hidLL hx4
    have hs4 := lt_of_block hx4
    clear hb4 x0 x1 x2 x3 xf
    obtain ⟨x0, x1, x2, x3, xf⟩ := four hx4
    clear hx4
    have hF : FewIt t := HF.out
    rcases hO4 with ⟨hc, rfl⟩ | ⟨k, hc, hk, rfl⟩
    · have HWl4 := hidLL (HWl.out HF.out w4 HB4.out)
      rw [hc, if_pos rfl] at HWl4
      rw [show (⟨F.toArray⟩ : ByteArray) = ofL F from rfl]
      clear hc hF
      generalize ofL F = oF at *
      go_wp2_with fail
      go_at_call 14
      refine HWl4.out.mono ?_
      rintro e w5 ⟨rfl, hb5⟩
      have HB5 := hidLL (HB4.out.trans (hb5.mono (by omega)))
      have hx5 := (hb5.block w.heap.size hs4).trans HX4.out
      have HX5 := hidLL hx5
      have hs5 := lt_of_block hx5
      clear hb5 x0 x1 x2 x3 xf
      obtain ⟨x0, x1, x2, x3, xf⟩ := four hx5
      clear hx5
      have HCd := hidLL (coded_nil ((0 : Nat) : Int) w5)
      go_wp2_with fail
      go_at_call 15
      refine HCd.out.mono ?_
      rintro e W6 ⟨rfl, ew⟩
      subst W6
      clear HCd
      have HB6 := HB5
      have HX6 := HX5
      have hs6 := hs5
      go_wp2_with fail
      go_at_call 16
      refine (HVa.out HF.out w5 HB6.out).mono ?_
      rintro e w7 ⟨hO7, hb7⟩
      have HB7 := hidLL (HB6.out.trans (hb7.mono (by omega)))
      have hx7 := (hb7.block w.heap.size hs6).trans HX6.out
      have HX7 := hidLL hx7
      have hs7 := lt_of_block hx7
      clear hb7 x0 x1 x2 x3 xf
      obtain ⟨x0, x1, x2, x3, xf⟩ := four hx7
      clear hx7
      have HVl7 := hidLL (HVl.out HF.out w7 HB7.out)
      cases O with
      | bad c =>
        obtain ⟨q, hc, hq, rfl⟩ := hO7
        have hvc : vcode (.bad c) = q + 1 := hc
        rw [hvc] at HVl7
        unfold errI
        clear hc hvc
        go_wp2_with fail
        go_at_call 17
        refine HVl7.out.mono ?_
        rintro e w8 ⟨rfl, hb8⟩
        have HB8 := hidLL (HB7.out.trans (hb8.mono (by omega)))
        clear hb8 x0 x1 x2 x3 xf
        have HCd := hidLL (coded_sent q hq ((q + 1 : Nat) : Int) p w8 (HE.out.on HB8.out).L)
        rw [show (((q : Int) + 1) == ((q + 1 : Nat) : Int)) = true by rw [beq_iff_eq]; omega] at HCd
        go_wp2_with fail
        go_at_call 15
        refine HCd.out.mono ?_
        rintro e w9 ⟨rfl, hb9⟩
        have HB9 := hidLL (HB8.out.trans (hb9.mono HB8.out.size))
        clear hb9
        go_wp2
        go_ret
        exact ⟨rfl, HB9.out⟩
      | ok n =>
        obtain rfl : e = .returned .nilIface := hO7
        have hvc : vcode (.ok n) = 0 := rfl
        rw [hvc] at HVl7
        clear hvc
        go_wp2_with fail
        go_at_call 17
        refine HVl7.out.mono ?_
        rintro e w8 ⟨rfl, hb8⟩
        have HB8 := hidLL (HB7.out.trans (hb8.mono (by omega)))
        clear hb8 x0 x1 x2 x3 xf
        have HCd := hidLL (coded_nil ((0 : Nat) : Int) w8)
        go_wp2_with fail
        go_at_call 15
        refine HCd.out.mono ?_
        rintro e w9 ⟨rfl, ew⟩
        subst w9
        go_wp2
        go_ret
        exact ⟨rfl, HB8.out⟩
    · have HWl4 := hidLL (HWl.out HF.out w4 HB4.out)
      rw [hc, if_neg (by omega)] at HWl4
      unfold errI
      clear hc hF
      go_wp2_with fail
      go_at_call 14
      refine HWl4.out.mono ?_
      rintro e w5 ⟨rfl, hb5⟩
      have HB5 := hidLL (HB4.out.trans (hb5.mono (by omega)))
      have hx5 := (hb5.block w.heap.size hs4).trans HX4.out
      have HX5 := hidLL hx5
      have hs5 := lt_of_block hx5
      clear hb5 x0 x1 x2 x3 xf
      obtain ⟨x0, x1, x2, x3, xf⟩ := four hx5
      clear hx5
      have HCd := hidLL (coded_sent k hk ((k + 1 : Nat) : Int) p w5 (HE.out.on HB5.out).L)
      rw [show (((k : Int) + 1) == ((k + 1 : Nat) : Int)) = true by rw [beq_iff_eq]; omega] at HCd
      go_wp2_with fail
      go_at_call 15
      refine HCd.out.mono ?_
      rintro e W6 ⟨rfl, hb6⟩
      have HB6 := hidLL (HB5.out.trans (hb6.mono (by omega)))
      have hx6 := (hb6.block w.heap.size hs5).trans HX5.out
      have HX6 := hidLL hx6
      have hs6 := lt_of_block hx6
      clear hb6 x0 x1 x2 x3 xf HCd
      obtain ⟨x0, x1, x2, x3, xf⟩ := four hx6
      clear hx6
      go_wp2_with fail
      go_at_call 16
      refine (HVa.out HF.out W6 HB6.out).mono ?_
      rintro e w7 ⟨hO7, hb7⟩
      have HB7 := hidLL (HB6.out.trans (hb7.mono (by omega)))
      have hx7 := (hb7.block w.heap.size hs6).trans HX6.out
      have HX7 := hidLL hx7
      have hs7 := lt_of_block hx7
      clear hb7 x0 x1 x2 x3 xf
      obtain ⟨x0, x1, x2, x3, xf⟩ := four hx7
      clear hx7
      have HVl7 := hidLL (HVl.out HF.out w7 HB7.out)
      cases O with
      | bad c =>
        obtain ⟨q, hc, hq, rfl⟩ := hO7
        have hvc : vcode (.bad c) = q + 1 := hc
        rw [hvc] at HVl7
        unfold errI
        clear hc hvc
        go_wp2_with fail
        go_at_call 17
        refine HVl7.out.mono ?_
        rintro e w8 ⟨rfl, hb8⟩
        have HB8 := hidLL (HB7.out.trans (hb8.mono (by omega)))
        clear hb8 x0 x1 x2 x3 xf
        have HCd := hidLL (coded_sent q hq ((q + 1 : Nat) : Int) p w8 (HE.out.on HB8.out).L)
        rw [show (((q : Int) + 1) == ((q + 1 : Nat) : Int)) = true by rw [beq_iff_eq]; omega] at HCd
        go_wp2_with fail
        go_at_call 15
        refine HCd.out.mono ?_
        rintro e w9 ⟨rfl, hb9⟩
        have HB9 := hidLL (HB8.out.trans (hb9.mono HB8.out.size))
        clear hb9
        go_wp2
        go_ret
        exact ⟨rfl, HB9.out⟩
      | ok n =>
        obtain rfl : e = .returned .nilIface := hO7
        have hvc : vcode (.ok n) = 0 := rfl
        rw [hvc] at HVl7
        clear hvc
        go_wp2_with fail
        go_at_call 17
        refine HVl7.out.mono ?_
        rintro e w8 ⟨rfl, hb8⟩
        have HB8 := hidLL (HB7.out.trans (hb8.mono (by omega)))
        clear hb8 x0 x1 x2 x3 xf
        have HCd := hidLL (coded_nil ((0 : Nat) : Int) w8)
        go_wp2_with fail
        go_at_call 15
        refine HCd.out.mono ?_
        rintro e w9 ⟨rfl, ew⟩
        subst w9
        go_wp2
        go_ret
        exact ⟨rfl, HB8.out⟩
  · have hfd : decide (sn ≤ 400) = false := decide_eq_false hfew
    rw [hfd]
    clear hfd hfew
    go_wp2
    go_ret
    exact ⟨rfl, HB3.out⟩
end Go.Proofs.YtgfaeeacndpniaaGreatDoor
