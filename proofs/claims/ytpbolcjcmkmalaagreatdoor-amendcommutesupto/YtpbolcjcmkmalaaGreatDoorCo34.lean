/-
  Package amend: change.
-/
import Derived.Test.YtpbolcjcmkmalaaGreatDoorCo30
import Derived.Test.YtpbolcjcmkmalaaGreatDoorCo31
import Derived.Test.YtpbolcjcmkmalaaGreatDoorCo32
import Derived.Test.YtpbolcjcmkmalaaGreatDoorCo33
namespace Go.Proofs.YtpbolcjcmkmalaaGreatDoor
open Go.RowKit Go.Extern.Stop Go.Stop Go.Extern

def COut.up (ps : List ByteArray) (t : It) : COut → COut
  | .bad c => .bad c
  | .ok y => .ok (setW (fun _ => y) ps t)
/-- What is done to a text of a provision is done to the law. -/
theorem Foc.textDone {w w1 w2 : World} {B b o : Nat} {t : It} {S : Nat → Prop} {v : Nat → Value} {ps : List ByteArray} {b' o' : Nat} {x : It} {S' : Nat → Prop} {v' : Nat → Value} {p : Nat → Addr} {r : COut} {e : Ending} (h0 : ItAt w B b o t S v) (hB : B ≤ w.heap.size) (hb : Below w.heap.size w w1) (hf : Foc w1 B b o t S ps b' o' x S' v') (h : ChO w1 B b' o' S' p r e w2) :
    ChO w B b o S p (r.up ps t) e w2 := by
  cases r with
  | bad c => exact ⟨h.1, h.2.1, (hb.mono hB).trans h.2.2⟩
  | ok y =>
    obtain ⟨rfl, S2, v2, q1, q2, q3⟩ := h
    exact hf.done h0 hb q3 q1 q2
theorem ChO.ret {w w' : World} {B b o : Nat} {S : Nat → Prop} {p : Nat → Addr} {r : COut} {e : Ending} (h : ChO w B b o S p r e w') : ∃ v, e = .returned v := by
  cases r with
  | ok y => exact ⟨_, h.1⟩
  | bad c =>
    obtain ⟨h1, h2, _⟩ := h
    unfold EO at h2
    rw [if_neg h1] at h2
    obtain ⟨k, _, _, h3⟩ := h2
    exact ⟨_, h3⟩
section
variable {t : It} {o : OpW}
theorem one_no (h : 1 ≤ o.kind ∧ o.kind ≤ 5) (h2 : findW t (partsB o.path) = none) : oneC t o = .bad 5 := by unfold oneC; rw [if_pos h, h2]
theorem one_text {x : It} (h : 1 ≤ o.kind ∧ o.kind ≤ 5) (h2 : findW t (partsB o.path) = some x) : oneC t o = (textC x o).up (partsB o.path) t := by
  unfold oneC
  rw [if_pos h, h2]
  show (match textC x o with | .bad c => COut.bad c | .ok y => .ok (setW (fun _ => y) (partsB o.path) t)) = _
  cases textC x o <;> rfl
theorem one_put (h : o.kind = 6) : oneC t o = putC t o := by unfold oneC; rw [if_neg (by omega), if_pos h]
theorem one_repeal (h : o.kind = 7) : oneC t o = repealC t o := by unfold oneC; rw [if_neg (by omega), if_neg (by omega), if_pos h]
theorem one_label (h : o.kind = 8) : oneC t o = labelC t o := by unfold oneC; rw [if_neg (by omega), if_neg (by omega), if_neg (by omega), if_pos h]
theorem one_move (h : o.kind = 9) : oneC t o = moveC t o := by unfold oneC; rw [if_neg (by omega), if_neg (by omega), if_neg (by omega), if_neg (by omega), if_pos h]
theorem one_bad (h : o.kind < 1 ∨ 9 < o.kind) : oneC t o = .bad 9 := by unfold oneC; rw [if_neg (by omega), if_neg (by omega), if_neg (by omega), if_neg (by omega), if_neg (by omega)]
end
set_option maxHeartbeats 8000000 in
set_option maxRecDepth 20000 in
theorem change_a {w : World} {B b o : Nat} {t : It} {S : Nat → Prop} {v : Nat → Value} (h : ItAt w B b o t S v) (hL : Law t) (hB : B ≤ w.heap.size) (hBb : B ≤ b) {p : Nat → Addr} {m : Int} (hE : ∀ w', Below B w w' → Env w' p m) (op : OpW) (hok : OpOk op) (iv : Nat → Value) {ex : Prop} (hi : SrcT w B ex iv op.item) (hz : wtI op.item ≤ 400000) (hx : ex ∨ wtI op.item ≤ 600) (hFi : FewIt op.item) :
    Calls Tryz.prog 18 #[.pointer (some ⟨b, o, none⟩), .agg (opV op iv)] w (ChO w B b o S p (oneC t op)) := by
  obtain ⟨f0, f1, ⟨la, lc, f2⟩, ka2, kc2, f3⟩ := hi.lies.forms
  obtain ⟨WB, hWB⟩ : ∃ WB, WB = w.alloc (.cells (opV op iv) 46) := ⟨_, rfl⟩
  have hb0 : Below w.heap.size w WB := by rw [hWB]; exact (Below.refl _ _).alloc (Nat.le_refl _) _
  have hbx : WB.heap[w.heap.size]? = some (.cells (opV op iv) 46 (0, 0)) := by rw [hWB]; exact heap_alloc_new _ _
  have h1 := h.on hb0
  have hB1 := Nat.le_trans hB hb0.size
  have hE1 : ∀ w', Below B WB w' → Env w' p m := fun w' hw => hE w' ((hb0.mono hB).trans hw)
  have E1 := hE1 WB (Below.refl _ _)
  have hi1 : SrcT WB B ex iv op.item := hi.on fun k hk => hb0.block k (by omega)
  have KP := put_a h1 hL hB1 hBb hE1 op hok iv hi1 hz hx hFi
  have KR := repeal_a h1 (law_few hL) hB1 E1 op hok iv
  have KL := relabel_a h1 (law_few hL) hB1 E1 op hok iv
  have KM := move_a h1 hL hB1 E1 op hok iv
  have KB := labelsOf_a op.path (by have := hok.path; omega) m WB E1.M
  have HT := hidLL (fun (w2 : World) (hb2 : Below w.heap.size w w2) (x : It) (b' o' : Nat) (S' : Nat → Prop) (v' : Nat → Value) (hf : Foc w2 B b o t S (partsB op.path) b' o' x S' v') => by
    have hr := find_rgt (partsB op.path) 0 t x hL.1 hf.fnd
    obtain ⟨g1, _, g3⟩ := texts_iff.1 ⟨hr.is.1.2.1, hr.is.1.2.2.2⟩
    exact changeTexts_a hf.at' (Nat.le_trans hB hb2.size) g1 g3 (hE w2 (hb2.mono hB)) op hok iv (fun c hc => by
      match c, hc with
      | 0, _ => rw [f0]; rfl
      | 1, _ => rw [f1]; rfl
      | 2, _ => rw [f2]; rfl
      | 3, _ => rw [f3]; rfl))
  have T1 := one_no (t := t) (o := op)
  have T2 := fun x => one_text (t := t) (o := op) (x := x)
  have T6 := one_put (t := t) (o := op)
  have T7 := one_repeal (t := t) (o := op)
  have T8 := one_label (t := t) (o := op)
  have T9 := one_move (t := t) (o := op)
  have T0 := one_bad (t := t) (o := op)
  have HAf := hidLL (fun (r : COut) (e : Ending) (w' : World) (hh : ChO WB B b o S p r e w') => hh.after hb0 h.lt hB)
  have HPl : Hid ((partsB op.path).length ≤ 100000) := by show _ ≤ _; have := parts_len op.path; have := hok.path; omega
  have HBx := hbx
  unfold opV at KP KR KL KM hbx hWB HT
  show Calls Tryz.prog 18 #[.pointer (some ⟨b, o, none⟩), .agg #[.int .i64 op.kind, .string op.path, .string op.at', .string op.text, .string op.new, .int .i64 op.line, iv 0, iv 1, iv 2, iv 3]] w (ChO w B b o S p (oneC t op))
  rw [f0, f1, f2, f3] at KP KR KL KM hbx hWB HT
  rw [f0, f1, f2, f3]
  obtain ⟨y0, y1, y2, y3, y4, y5, y6, y7, y8, y9⟩ := ten hbx
  have HX := hidLL hWB
  have H0 := hidLL h
  have HF := hidLL (law_few hL)
  have HB0 := hidLL hb0
  have HEn := hidLL hE
  have HKP := hidLL KP
  have HKR := hidLL KR
  have HKL := hidLL KL
  have HKM := hidLL KM
  have HLb := hidLL KB
  have HO := hidLL (And.intro T1 (And.intro T2 (And.intro T6 (And.intro T7 (And.intro T8 (And.intro T9 T0))))))
  clear hWB h hL hE hbx hb0 h1 hB1 hE1 E1 hi1 KP KR KL KM KB T1 T2 T6 T7 T8 T9 T0 HBx hi hz hx hFi f0 f1 f2 f3 hok
  have hcases : (1 ≤ op.kind ∧ op.kind ≤ 5) ∨ op.kind = 6 ∨ op.kind = 7 ∨ op.kind = 8 ∨ op.kind = 9 ∨ (op.kind < 1 ∨ 9 < op.kind) := by omega
  generalize hr : oneC t op = r at *
  generalize hpc : putC t op = rp at *
  generalize hrc : repealC t op = rr at *
  generalize hlc : labelC t op = rl at *
  generalize hmc : moveC t op = rm at *
  clear hr hpc hrc hlc hmc
  rcases hcases with hk | hk | hk | hk | hk | hk
  · have HR1 := hidLL (HO.out.1 hk)
    have HR2 := hidLL (fun x => HO.out.2.1 x hk)
    clear HO HKP HKR HKL HKM HAf
    rcases (by omega : op.kind = 1 ∨ op.kind = 2 ∨ op.kind = 3 ∨ op.kind = 4 ∨ op.kind = 5) with hk1 | hk1 | hk1 | hk1 | hk1
    all_goals
      clear hk
      rw [hk1] at HT HX y0
      rw [hk1]
      clear hk1
      have HY := hidLL (And.intro y0 (And.intro y1 (And.intro y2 (And.intro y3 (And.intro y4 (And.intro y5 (And.intro y6 (And.intro y7 (And.intro y8 y9)))))))))
      clear y2 y3 y4 y5 y6 y7 y8 y9
      go_enter Tryz.func18, Tryz.ntmps18
      go_upto_region 1 with fail
      rw [← HX.out]
      go_wp2_with fail
      refine HLb.out.mono ?_
      rintro e w1 ⟨⟨pa, pc, rfl, hst, hpc⟩, hb1⟩
      have hbw1 := HB0.out.trans (hb1.mono HB0.out.size)
      have HFd := hidLL (find_a (pc := pc) (H0.out.on hbw1) HF.out hst HPl.out)
      have HB1 := hidLL hbw1
      have HYb := hidLL hb1
      clear hst hpc hb1 hbw1 y0 y1
      go_wp2_with fail
      refine HFd.out.mono ?_
      rintro e w2 ⟨hfi, hb2⟩
      have HB2 := hidLL (HB1.out.trans (hb2.mono HB1.out.size))
      have hbW : Below WB.heap.size WB w2 := HYb.out.trans (hb2.mono HYb.out.size)
      have c4 : ∀ q c u, WB.cell? ⟨q, c, none⟩ = some u → w2.cell? ⟨q, c, none⟩ = some u := fun q c u hc => (hbW.cell (p := ⟨q, c, none⟩) (cell_lt hc)).trans hc
      obtain ⟨q0, q1, q2, q3, q4, q5, q6, q7, q8, q9⟩ := HY.out
      have z0 := c4 _ _ _ q0
      have z1 := c4 _ _ _ q1
      have z2 := c4 _ _ _ q2
      have z3 := c4 _ _ _ q3
      have z4 := c4 _ _ _ q4
      have z5 := c4 _ _ _ q5
      have z6 := c4 _ _ _ q6
      have z7 := c4 _ _ _ q7
      have z8 := c4 _ _ _ q8
      have z9 := c4 _ _ _ q9
      clear hbW c4 HFd HYb HY q0 q1 q2 q3 q4 q5 q6 q7 q8 q9
      unfold FindO at hfi
      cases hq : findW t (partsB op.path) with
      | none =>
        rw [hq] at hfi
        have hfi : e = _ := hfi
        subst hfi
        have HO := hidLL (HR1.out hq)
        clear hq hb2 z0 z1 z2 z3 z4 z5 z6 z7 z8 z9
        have e1 : w2.cell? ⟨4, 0, none⟩ = some (.iface 214 (.pointer (some (p 4)))) := (HEn.out _ (HB2.out.mono hB)).L.cell 4 (by omega)
        go_wp2
        go_ret
        rw [HO.out]
        exact ⟨by omega, EO.err 4 (by omega), HB2.out.mono hB⟩
      | some x =>
        rw [hq] at hfi
        obtain ⟨b1, o1, S1, v1, rfl, hf⟩ := hfi
        have hf := hf.on (by have := H0.out.lt; have := HB1.out.size; omega) hb2
        have HF1 := hidLL hf
        have HQ := hidLL (HR2.out x hq)
        have HTx := hidLL (HT.out w2 HB2.out x b1 o1 S1 v1 hf)
        clear hq hb2 hf HR1 HR2 HT HLb
        go_wp2_with fail
        refine HTx.out.mono ?_
        rintro e w3 hch
        obtain ⟨v3, rfl⟩ := hch.ret
        have HC := hidLL hch
        clear hch z0 z1 z2 z3 z4 z5 z6 z7 z8 z9
        go_wp2
        go_ret
        rw [HQ.out]
        exact HF1.out.textDone H0.out hB HB2.out HC.out
  · have HR := hidLL (HO.out.2.2.1 hk)
    rw [hk] at HKP HX y0
    clear HO HKR HKL HKM HLb
    rw [hk]
    clear hk
    go_enter Tryz.func18, Tryz.ntmps18
    go_upto_region 1 with fail
    rw [← HX.out]
    go_wp2_with fail
    refine HKP.out.mono ?_
    rintro e w2 hch
    obtain ⟨v2, rfl⟩ := hch.ret
    have HC := hidLL hch
    clear hch
    go_wp2
    go_ret
    rw [HR.out]
    exact HAf.out _ _ _ HC.out
  · have HR := hidLL (HO.out.2.2.2.1 hk)
    rw [hk] at HKR HX y0
    clear HO HKP HKL HKM HLb
    rw [hk]
    clear hk
    go_enter Tryz.func18, Tryz.ntmps18
    go_upto_region 1 with fail
    rw [← HX.out]
    go_wp2_with fail
    refine HKR.out.mono ?_
    rintro e w2 hch
    obtain ⟨v2, rfl⟩ := hch.ret
    have HC := hidLL hch
    clear hch
    go_wp2
    go_ret
    rw [HR.out]
    exact HAf.out _ _ _ HC.out
  · have HR := hidLL (HO.out.2.2.2.2.1 hk)
    rw [hk] at HKL HX y0
    clear HO HKP HKR HKM HLb
    rw [hk]
    clear hk
    go_enter Tryz.func18, Tryz.ntmps18
    go_upto_region 1 with fail
    rw [← HX.out]
    go_wp2_with fail
    refine HKL.out.mono ?_
    rintro e w2 hch
    obtain ⟨v2, rfl⟩ := hch.ret
    have HC := hidLL hch
    clear hch
    go_wp2
    go_ret
    rw [HR.out]
    exact HAf.out _ _ _ HC.out
  · have HR := hidLL (HO.out.2.2.2.2.2.1 hk)
    rw [hk] at HKM HX y0
    clear HO HKP HKR HKL HLb
    rw [hk]
    clear hk
    go_enter Tryz.func18, Tryz.ntmps18
    go_upto_region 1 with fail
    rw [← HX.out]
    go_wp2_with fail
    refine HKM.out.mono ?_
    rintro e w2 hch
    obtain ⟨v2, rfl⟩ := hch.ret
    have HC := hidLL hch
    clear hch
    go_wp2
    go_ret
    rw [HR.out]
    exact HAf.out _ _ _ HC.out
  · have HR := hidLL (HO.out.2.2.2.2.2.2 hk)
    have k1 : ¬ op.kind = 1 := by omega
    have k2 : ¬ op.kind = 2 := by omega
    have k3 : ¬ op.kind = 3 := by omega
    have k4 : ¬ op.kind = 4 := by omega
    have k5 : ¬ op.kind = 5 := by omega
    have k6 : ¬ op.kind = 6 := by omega
    have k7 : ¬ op.kind = 7 := by omega
    have k8 : ¬ op.kind = 8 := by omega
    have k9 : ¬ op.kind = 9 := by omega
    have e1 : WB.cell? ⟨8, 0, none⟩ = some (.iface 214 (.pointer (some (p 8)))) := (HEn.out _ (HB0.out.mono hB)).L.cell 8 (by omega)
    clear HO HKP HKR HKL HKM HLb hk
    generalize op.kind = kind at *
    go_enter Tryz.func18, Tryz.ntmps18
    go_upto_region 1 with fail
    rw [← HX.out]
    go_wp2
    go_ret
    rw [HR.out]
    exact ⟨by omega, EO.err 8 (by omega), HB0.out.mono hB⟩
end Go.Proofs.YtpbolcjcmkmalaaGreatDoor
