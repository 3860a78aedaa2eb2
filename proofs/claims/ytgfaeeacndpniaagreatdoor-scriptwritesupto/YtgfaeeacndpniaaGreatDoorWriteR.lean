/-
  The reference's WriteLaw.
-/
import Derived.Test.YtgfaeeacndpniaaGreatDoorFormR
import Derived.Test.YtgfaeeacndpniaaGreatDoorValidR
import Derived.Test.YtgfaeeacndpniaaGreatDoorWriteP
import Derived.Deep.RegionWith
namespace Go.Proofs.YtgfaeeacndpniaaGreatDoor
open Go.RowKit Go.Extern.Stop Go.Stop Go.Extern

theorem scan_code : ∀ (l : List FRow) (i c : Nat), scanF i l = .bad c → 0 < c ∧ c ≤ 7
  | [], i, c, h => by rw [scanF] at h; cases h
  | r :: l, i, c, h => by
    rw [scanF] at h
    split at h
    · exact scan_code l (i + 1) c h
    · rename_i hn
      injection h with h
      subst h
      revert hn
      unfold rowE
      split
      · intro _; omega
      · split
        · intro _; omega
        · split
          · intro _; omega
          · intro h; exact absurd rfl h
theorem vIt_code {t : It} {c : Nat} (h : vIt 0 0 [] t = .bad c) : 0 < c ∧ c ≤ 7 := by
  have := scan_law t
  rw [h] at this
  exact scan_code _ _ _ this
set_option maxHeartbeats 4000000 in
theorem writeLaw_any (t : It) (hF : FewIt t) (hsz : sizeIt t ≤ 1048576) (w : World) (P : Nat → Prop) (v : Nat → Value) (hL : Lies w P v t) :
    Calls Tryz.prog 14 #[.agg #[v 0, v 1, v 2, v 3]] w fun e w' => e = .returned (.tuple #[.string (if writeC t = 0 then ofL (formL t) else ⟨#[]⟩), .int .i64 (writeC t)]) ∧ Below w.heap.size w w' := by
  obtain ⟨f0, f1, ⟨la, lc, f2⟩, ⟨ka, kc, f3⟩⟩ := hL.forms
  have hLB : Lies w (fun k => k < w.heap.size) v t := hL.step fun b hb _ => ⟨rfl, hb⟩
  have HV := hidLL (fun W (hb : Below w.heap.size w W) => validLaw_any t hF hsz W (fun k => k < w.heap.size) v (hLB.step fun b hb' hp => ⟨hb.block b hb', hp⟩))
  have HFo := hidLL (fun W (hb : Below w.heap.size w W) => form_any t hF hsz W (fun k => k < w.heap.size) v (hLB.step fun b hb' hp => ⟨hb.block b hb', hp⟩))
  have hh := sizeIt_eq t
  have HRt := hidLL (fun W => rowText_any 0 (by omega) ⟨#[108, 97, 119]⟩ t.head (by decide) (by omega) W)
  have HC : Hid (writeC t = match vIt 0 0 [] t with | .bad c => c | .ok _ => if 30000 < (formL t).length then 2 else 0) := rfl
  have HVc := hidLL (fun c (h : vIt 0 0 [] t = .bad c) => vIt_code h)
  have hsl : ofL (rowL 0 (bl ⟨#[108, 97, 119]⟩) (bl t.head)) ++ ofL (contL 0 t) = ofL (formL t) := by rw [ofL_app]; rfl
  have hFs : (ofL (formL t)).size = (formL t).length := ofL_size _
  have hRs : (ofL (rowL 0 (bl ⟨#[108, 97, 119]⟩) (bl t.head))).size ≤ 2000000 := by
    rw [ofL_size]
    have := rowL_len 0 (bl ⟨#[108, 97, 119]⟩) (bl t.head)
    rw [bl_len, bl_len] at this
    have h3 : (⟨#[108, 97, 119]⟩ : ByteArray).size = 3 := rfl
    omega
  have hCs : (ofL (contL 0 t)).size ≤ 2199027449856 := by rw [ofL_size]; exact cont_bd hsz
  rw [f0, f1, f2, f3] at HV HFo
  rw [f0, f1, f2, f3]
  obtain ⟨W1, hW1⟩ : ∃ W1, W1 = w.alloc (.cells #[.string t.label, .string t.head, .slice la t.lines.length lc, .slice ka t.kids.length kc] 26) := ⟨_, rfl⟩
  have hb1 : Below w.heap.size w W1 := by rw [hW1]; exact (Below.refl _ _).alloc (Nat.le_refl _) _
  have hx1 : W1.heap[w.heap.size]? = some (.cells #[.string t.label, .string t.head, .slice la t.lines.length lc, .slice ka t.kids.length kc] 26 (0, 0)) := by rw [hW1]; exact heap_alloc_new _ _
  have HB1 := hidLL hb1
  have HX1 := hidLL hx1
  have HW1 := hidLL hW1
  obtain ⟨x0, x1, x2, x3, xf⟩ := four hx1
  clear hF hsz hL hLB f0 f1 f2 f3 hh hb1 hx1 hW1
  obtain ⟨S, hS⟩ : ∃ S, S = (if writeC t = 0 then ofL (formL t) else ⟨#[]⟩ : ByteArray) := ⟨_, rfl⟩
  have HS0 : Hid (writeC t = 0 → S = ofL (formL t)) := fun h => by rw [hS, if_pos h]
  have HS1 : Hid (writeC t ≠ 0 → S = ⟨#[]⟩) := fun h => by rw [hS, if_neg h]
  rw [← hS]
  clear hS
  generalize vIt 0 0 [] t = O at *
  generalize writeC t = C at *
  generalize formL t = F at *
  generalize ofL (rowL 0 (bl ⟨#[108, 97, 119]⟩) (bl t.head)) = RL at *
  generalize ofL (contL 0 t) = CL at *
  generalize ofL F = oF at *
  generalize t.label = l0 at *
  generalize t.head = l1 at *
  generalize t.lines.length = l2 at *
  generalize t.kids.length = l3 at *
  have hadd : (RL.size : Int) + (CL.size : Int) ≤ 9223372036854775807 := by omega
  go_enter Tryz.func14, Tryz.ntmps14
  go_upto_region 1 with fail
  rw [← HW1.out]
  go_wp2_with fail
  go_at_call 17
  refine (HV.out W1 HB1.out).mono ?_
  rintro e w2 ⟨rfl, hb2⟩
  have hs1 := lt_of_block HX1.out
  have hb02 : Below w.heap.size w w2 := HB1.out.trans (hb2.mono (by omega))
  have HB2 := hidLL hb02
  have HX2 : Hid (w2.heap[w.heap.size]? = _) := (hb2.block w.heap.size hs1).trans HX1.out
  have hs2 := lt_of_block HX2.out
  clear hb2 hb02 x0 x1 x2 x3 xf
  cases O with
  | bad c =>
    have hc := (HVc.out c rfl).1
    have hcz : (0 : Int) < ((vcode (.bad c) : Nat) : Int) := by show (0 : Int) < ((c : Nat) : Int); omega
    have HK := hidLL (show C = vcode (.bad c) from HC.out)
    have HKn := hidLL (show C ≠ 0 from fun e => by have : C = c := HC.out; omega)
    generalize vcode (.bad c) = vc at *
    go_wp2
    go_ret2
    exact ⟨by rw [HS1.out HKn.out, HK.out]; rfl, HB2.out⟩
  | ok n =>
    obtain ⟨vc, hvc⟩ : ∃ vc, vc = vcode (.ok n) := ⟨_, rfl⟩
    have hv0 : vc = 0 := hvc
    rw [← hvc]
    clear hvc
    subst hv0
    obtain ⟨x0, x1, x2, x3, xf⟩ := four HX2.out
    go_wp2_with fail
    go_region_with
      (first
        | (go_at_call 38
           refine (HRt.out _).mono ?_
           rintro e w4 ⟨rfl, ew⟩
           subst w4)
        | (go_at_call 39
           refine (HFo.out _ ?_).mono ?_
           · first
               | exact HB2.out
               | exact Below.drew HB2.out
           rintro e w5 ⟨rfl, hb5⟩
           have hx5 : w5.heap[w.heap.size]? = _ := (hb5.block w.heap.size hs2).trans HX2.out
           have HB5 := hidLL (HB2.out.drew.trans (hb5.mono HB2.out.size))
           obtain ⟨y0, y1, y2, y3, yf⟩ := four hx5
           clear hb5 hx5))
    all_goals
      try rw [hsl]
      by_cases hbig : 30000 < F.length
      · have hbz : (30000 : Int) < (oF.size : Int) := by omega
        have HK := hidLL (show C = 2 from HC.out.trans (if_pos hbig))
        clear hbig
        go_wp2
        go_ret2
        exact ⟨by rw [HS1.out (by rw [HK.out]; decide), HK.out]; rfl, HB5.out⟩
      · have hbz : ¬ (30000 : Int) < (oF.size : Int) := by omega
        have HK := hidLL (show C = 0 from HC.out.trans (if_neg hbig))
        clear hbig
        go_wp2
        go_ret2
        exact ⟨by rw [HS0.out HK.out, HK.out]; rfl, HB5.out⟩
end Go.Proofs.YtgfaeeacndpniaaGreatDoor
