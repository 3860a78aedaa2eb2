/-
  Package amend: put.
-/
import Derived.Test.YtpbolcjcmkmalaaGreatDoorCo24
import Derived.Test.YtpbolcjcmkmalaaGreatDoorCo26
import Derived.Test.YtpbolcjcmkmalaaGreatDoorCo29
import Derived.Deep.DeepCutAuto
import Derived.Deep.RegionHeld3
import Derived.Test.YtpbolcjcmkmalaaGreatDoorCo16
namespace Go.Proofs.YtpbolcjcmkmalaaGreatDoor
open Go.RowKit Go.Extern.Stop Go.Stop Go.Extern

theorem set_few : ∀ (p : List ByteArray) (t x y : It), FewIt t → findW t p = some x → FewIt y → FewIt (setW (fun _ => y) p t)
  | [], t, x, y, _, _, h => by rw [setW]; exact h
  | q :: r, t, x, y, ht, e, h => by
    obtain ⟨i, z, hi, hz, e⟩ := find_step e
    obtain ⟨h1, h2, h3, h4, h5, h6⟩ := ht.get
    rw [setW_cons hi hz]
    have h7 := set_few r z x y (h6 z (List.mem_of_getElem? hz)) e h
    refine .mk _ h1 ?_ h3 h4 h5 fun k hk => ?_
    · show (t.kids.set i _).length ≤ 1000
      rw [List.length_set]; exact h2
    · have hk : k ∈ t.kids.set i (setW (fun _ => y) r z) := hk
      rcases List.mem_or_eq_of_mem_set hk with hk | rfl
      · exact h6 k hk
      · exact h7
theorem ins_few {x k : It} (hx : FewIt x) (hk : FewIt k) (hl : x.kids.length ≤ 999) (j : Nat) : FewIt (x.setKids (x.kids.insertIdx j k)) := by
  obtain ⟨h1, h2, h3, h4, h5, h6⟩ := hx.get
  refine .mk _ h1 ?_ h3 h4 h5 fun k' hk' => ?_
  · show (x.kids.insertIdx j k).length ≤ 1000
    rw [List.length_insertIdx]; split <;> omega
  · have hk' : k' ∈ x.kids.insertIdx j k := hk'
    by_cases hj : j ≤ x.kids.length
    · rw [ins_take x.kids j k hj] at hk'
      rcases List.mem_append.1 hk' with h | h
      · exact h6 k' (List.mem_of_mem_take h)
      · rcases List.mem_cons.1 h with h | h
        · exact h ▸ hk
        · exact h6 k' (List.mem_of_mem_drop h)
    · rw [List.insertIdx_of_length_lt (by omega)] at hk'
      exact h6 k' hk'
theorem find_kids {t x : It} {p : List ByteArray} (h : Law t) (hx : findW t p = some x) : x.kids.length ≤ 300 := by
  have h1 := set_cnt p t x (x.setKids []) hx
  have h0 : cntIt (x.setKids []) = 0 := by rw [cntIt_eq]; rfl
  have h2 := h.2
  have h3 := cntIt_eq x
  have h4 := kids_cnt x.kids
  omega
section
variable {t x : It} {o : OpW} {i : Nat}
theorem pc_no1 (h : findW t (partsB o.path) = none) : putC t o = .bad 5 := by unfold putC; rw [h]
theorem pc_no2 (h : findW t (partsB o.path) = some x) (h2 : behIx x.kids o.at' = none) : putC t o = .bad 5 := by
  unfold putC; rw [h]; simp only [h2]
theorem pc_name (h : findW t (partsB o.path) = some x) (h2 : behIx x.kids o.at' = some i) (h3 : (kidIx x.kids o.item.label).isSome) : putC t o = .bad 7 := by
  unfold putC; rw [h]; simp only [h2]; rw [if_pos h3]
theorem pc_bad (h : findW t (partsB o.path) = some x) (h2 : behIx x.kids o.at' = some i) (h3 : ¬ (kidIx x.kids o.item.label).isSome) {c : Nat} (h4 : vIt 0 0 [] (setW (fun _ => x.setKids (x.kids.insertIdx i o.item)) (partsB o.path) t) = .bad c) : putC t o = .bad c := by
  unfold putC; rw [h]; simp only [h2]; rw [if_neg h3, h4]
theorem pc_ok (h : findW t (partsB o.path) = some x) (h2 : behIx x.kids o.at' = some i) (h3 : ¬ (kidIx x.kids o.item.label).isSome) {m : Nat} (h4 : vIt 0 0 [] (setW (fun _ => x.setKids (x.kids.insertIdx i o.item)) (partsB o.path) t) = .ok m) : putC t o = .ok (setW (fun _ => x.setKids (x.kids.insertIdx i o.item)) (partsB o.path) t) := by
  unfold putC; rw [h]; simp only [h2]; rw [if_neg h3, h4]
end
set_option maxHeartbeats 8000000 in
set_option maxRecDepth 20000 in
theorem put_a {w : World} {B b o : Nat} {t : It} {S : Nat → Prop} {v : Nat → Value} (h : ItAt w B b o t S v) (hL : Law t) (hB : B ≤ w.heap.size) (hBb : B ≤ b) {p : Nat → Addr} {m : Int} (hE : ∀ w', Below B w w' → Env w' p m) (op : OpW) (hok : OpOk op) (iv : Nat → Value) {ex : Prop} (hi : SrcT w B ex iv op.item) (hz : wtI op.item ≤ 400000) (hx : ex ∨ wtI op.item ≤ 600) (hFi : FewIt op.item) :
    Calls Tryz.prog 32 #[.pointer (some ⟨b, o, none⟩), .agg (opV op iv)] w (ChO w B b o S p (putC t op)) := by
  have ht := hok.path
  clear hok
  have R1 := pc_no1 (t := t) (o := op)
  have R2 := fun x => pc_no2 (t := t) (x := x) (o := op)
  have R3 := fun x i => pc_name (t := t) (x := x) (i := i) (o := op)
  have R4 := fun x i c h h2 h3 => pc_bad (t := t) (x := x) (i := i) (o := op) h h2 h3 (c := c)
  have R5 := fun x i m h h2 h3 => pc_ok (t := t) (x := x) (i := i) (o := op) h h2 h3 (m := m)
  generalize putC t op = r at *
  cases op with
  | mk kind path at' text new line item =>
    have ht : path.size ≤ 6000 := ht
    have hi : SrcT w B ex iv item := hi
    have hz : wtI item ≤ 400000 := hz
    have hx : ex ∨ wtI item ≤ 600 := hx
    have hFi : FewIt item := hFi
    obtain ⟨f0, f1, ⟨la, lc, f2⟩, ka2, kc2, f3⟩ := hi.lies.forms
    show Calls Tryz.prog 32 #[.pointer (some ⟨b, o, none⟩), .agg #[.int .i64 kind, .string path, .string at', .string text, .string new, .int .i64 line, iv 0, iv 1, iv 2, iv 3]] w (ChO w B b o S p r)
    rw [f0, f1, f2, f3]
    have HFm := hidLL (And.intro f0 (And.intro f1 (And.intro f2 f3)))
    obtain ⟨WB, hWB⟩ : ∃ WB, WB = w.alloc (.cells #[.int .i64 kind, .string path, .string at', .string text, .string new, .int .i64 line, .string item.label, .string item.head, .slice la item.lines.length lc, .slice ka2 item.kids.length kc2] 46) := ⟨_, rfl⟩
    have hb0 : Below w.heap.size w WB := by rw [hWB]; exact (Below.refl _ _).alloc (Nat.le_refl _) _
    have hbx : WB.heap[w.heap.size]? = some (.cells #[.int .i64 kind, .string path, .string at', .string text, .string new, .int .i64 line, .string item.label, .string item.head, .slice la item.lines.length lc, .slice ka2 item.kids.length kc2] 46 (0, 0)) := by rw [hWB]; exact heap_alloc_new _ _
    obtain ⟨y0, y1, y2, y3, y4, y5, y6, y7, y8, y9⟩ := ten hbx
    have HLb := hidLL (labelsOf_a path (by omega) m WB (hE _ (hb0.mono hB)).M)
    have HX := hidLL hWB
    have H0 := hidLL h
    have HLaw := hidLL hL
    have HF := hidLL (law_few hL)
    have HB0 := hidLL hb0
    have HEn := hidLL hE
    have HI := hidLL (And.intro hi (And.intro hz (And.intro hx hFi)))
    have HY := hidLL (And.intro y2 (And.intro y6 (And.intro y7 (And.intro y8 y9))))
    have HR1 : Hid (findW t (partsB path) = none → r = .bad 5) := R1
    have HR2 : Hid (∀ x, findW t (partsB path) = some x → behIx x.kids at' = none → r = .bad 5) := R2
    have HR3 : Hid (∀ x i, findW t (partsB path) = some x → behIx x.kids at' = some i → (kidIx x.kids item.label).isSome → r = .bad 7) := R3
    have HR4 : Hid (∀ x i c, findW t (partsB path) = some x → behIx x.kids at' = some i → ¬ (kidIx x.kids item.label).isSome → vIt 0 0 [] (setW (fun _ => x.setKids (x.kids.insertIdx i item)) (partsB path) t) = .bad c → r = .bad c) := R4
    have HR5 : Hid (∀ x i m, findW t (partsB path) = some x → behIx x.kids at' = some i → ¬ (kidIx x.kids item.label).isSome → vIt 0 0 [] (setW (fun _ => x.setKids (x.kids.insertIdx i item)) (partsB path) t) = .ok m → r = .ok (setW (fun _ => x.setKids (x.kids.insertIdx i item)) (partsB path) t)) := R5
    have HPl : Hid ((partsB path).length ≤ 100000) := by show _ ≤ _; have := parts_len path; omega
    clear hWB h hL hE y0 y2 y3 y4 y5 y6 y7 y8 y9 hbx hb0 hi hz hx hFi R1 R2 R3 R4 R5 f0 f1 f2 f3
    generalize partsB path = ps at *
    go_enter Tryz.func32, Tryz.ntmps32
    go_upto_region 1 with fail
    rw [← HX.out]
    go_wp2_with fail
    refine HLb.out.mono ?_
    rintro e w1 ⟨⟨pa, pc, rfl, hst, hpc⟩, hb1⟩
    have hbw1 := HB0.out.trans (hb1.mono HB0.out.size)
    have HFd := hidLL (find_a (pc := pc) (H0.out.on hbw1) HF.out hst HPl.out)
    have HB1 := hidLL hbw1
    have HYb := hidLL hb1
    clear hst hpc hb1 hbw1 y1
    go_wp2_with fail
    refine HFd.out.mono ?_
    rintro e w2 ⟨hfi, hb2⟩
    have HB2 := hidLL (HB1.out.trans (hb2.mono HB1.out.size))
    have hbW : Below WB.heap.size WB w2 := HYb.out.trans (hb2.mono HYb.out.size)
    have c4 : ∀ q c u, WB.cell? ⟨q, c, none⟩ = some u → w2.cell? ⟨q, c, none⟩ = some u := fun q c u hc => (hbW.cell (p := ⟨q, c, none⟩) (cell_lt hc)).trans hc
    have HY2 := hidLL (And.intro (c4 _ _ _ HY.out.1) (And.intro (c4 _ _ _ HY.out.2.1) (And.intro (c4 _ _ _ HY.out.2.2.1) (And.intro (c4 _ _ _ HY.out.2.2.2.1) (c4 _ _ _ HY.out.2.2.2.2)))))
    clear hbW c4 HFd HYb
    unfold FindO at hfi
    cases hq : findW t ps with
    | none =>
      rw [hq] at hfi
      have hfi : e = _ := hfi
      subst hfi
      have HO := hidLL (HR1.out hq)
      clear hq hb2
      have e1 : w2.cell? ⟨4, 0, none⟩ = some (.iface 214 (.pointer (some (p 4)))) := (HEn.out _ (HB2.out.mono hB)).L.cell 4 (by omega)
      go_wp2
      go_ret
      rw [HO.out]
      exact ⟨by omega, EO.err 4 (by omega), HB2.out.mono hB⟩
    | some x =>
      rw [hq] at hfi
      obtain ⟨b1, o1, S1, v1, rfl, hf⟩ := hfi
      have hf := hf.on (by have := H0.out.lt; have := HB1.out.size; omega) hb2
      have HF1 := hidLL hf
      have HQ := hidLL hq
      obtain ⟨ka, kc, hv3, hc3⟩ := hf.at'.kidsV
      have hkl := find_kids HLaw.out hq
      have HV3 := hidLL hv3
      have HC3 := hidLL hc3
      have HBe : Hid (∀ W, Below w2.heap.size w2 W → Calls Tryz.prog 76 #[.slice ka x.kids.length kc, .string at'] W fun e w' => e = .returned (.int .i64 (ixI (behIx x.kids at'))) ∧ Below w2.heap.size w2 w') := fun W hW => (behind_lies (hf.at'.on hW).own.lies hv3 (by omega) at').mono fun e w' h => ⟨h.1, hW.trans (h.2.mono hW.size)⟩
      have HLd : Hid (∀ W, Below w2.heap.size w2 W → Calls Tryz.prog 69 #[.slice ka x.kids.length kc, .string item.label] W fun e w' => e = .returned (.int .i64 (ixI (kidIx x.kids item.label))) ∧ Below w2.heap.size w2 w') := fun W hW => (amLab_lies (hf.at'.on hW).own.lies hv3 (by omega) item.label).mono fun e w' h => ⟨h.1, hW.trans (h.2.mono hW.size)⟩
      have HCl : Hid (∀ W, Below w2.heap.size w2 W → W.cell? ⟨b1, o1 + 3, none⟩ = some (.slice ka x.kids.length kc) ∧ W.cell? ⟨w.heap.size, 2, none⟩ = some (.string at') ∧ W.cell? ⟨w.heap.size, 6, none⟩ = some (.string item.label) ∧ W.cell? ⟨w.heap.size, 7, none⟩ = some (.string item.head) ∧ W.cell? ⟨w.heap.size, 8, none⟩ = some (.slice la item.lines.length lc) ∧ W.cell? ⟨w.heap.size, 9, none⟩ = some (.slice ka2 item.kids.length kc2)) := fun W hW => by
        have c4 : ∀ q c u, w2.cell? ⟨q, c, none⟩ = some u → W.cell? ⟨q, c, none⟩ = some u := fun q c u hc => (hW.cell (p := ⟨q, c, none⟩) (cell_lt hc)).trans hc
        exact ⟨c4 _ _ _ HC3.out, c4 _ _ _ HY2.out.1, c4 _ _ _ HY2.out.2.1, c4 _ _ _ HY2.out.2.2.1, c4 _ _ _ HY2.out.2.2.2.1, c4 _ _ _ HY2.out.2.2.2.2⟩
      clear hq hb2 hf hv3 hc3
      generalize hxn : x.kids.length = xn at *
      have HXn := hidLL hxn
      clear hxn
      go_upto_region 4 with fail
      go_cut [6] (fun c wx => c = .int .i64 (ixI (behIx x.kids at')) ∧ Below w2.heap.size w2 wx)
      case first =>
        refine wp_region_quiet_C (C := fun W => Below w2.heap.size w2 W) (by kernel_rfl) (by kernel_rfl) (Below.refl _ _).drew ?_
        refine quiet_MA 16 7 ?_
        refine puA_go (b1 := b1) (o1 := o1) (g0 := w.heap.size) rfl rfl rfl rfl (fun W hW => (HCl.out W hW).1) (fun W hW => (HCl.out W hW).2.1) HBe.out ?_
        rintro m hm W7 hW7
        obtain ⟨u0, u1, u2, u3, u4, u5, u6, rfl⟩ := seven7 hm
        clear hm
        simp only [MA, List.take_succ_cons, List.take_zero, List.drop_succ_cons, List.drop_zero, List.cons_append, List.nil_append, List.set_cons_zero, List.set_cons_succ]
        go_wp2_with fail
        go_meet
        exact ⟨rfl, hW7⟩
      case rest =>
        obtain ⟨rfl, hb3⟩ := hcut
        obtain ⟨w3, e3, hb3⟩ : ∃ w3, w3 = _ ∧ Below w2.heap.size w2 w3 := ⟨_, rfl, hb3⟩
        subst e3
        have HB3 := hidLL hb3
        have HBw3 := hidLL (HB2.out.trans (hb3.mono HB2.out.size))
        clear hb3 HBe
        cases hj : behIx x.kids at' with
        | none =>
          obtain ⟨n1, hn1⟩ : ∃ n1 : Int, ixI (none : Option Nat) = n1 := ⟨_, rfl⟩
          have hn0 : n1 < 0 := by rw [← hn1]; decide
          have HO := hidLL (HR2.out x HQ.out hj)
          rw [hn1]
          clear hj hn1
          have e1 : w3.cell? ⟨4, 0, none⟩ = some (.iface 214 (.pointer (some (p 4)))) := (HEn.out _ (HBw3.out.mono hB)).L.cell 4 (by omega)
          go_wp2
          go_ret
          rw [HO.out]
          exact ⟨by omega, EO.err 4 (by omega), HBw3.out.mono hB⟩
        | some j =>
          rw [show ixI (some j) = (j : Int) from rfl]
          have hj0 : ¬ ((j : Int) < 0) := by omega
          have HJ := hidLL hj
          have hjl : j ≤ xn := by
            rw [behIx_beh] at hj
            have := behB_le hj
            unfold labs at this
            rw [List.length_map, HXn.out] at this
            exact this
          have HJl := hidLL hjl
          obtain ⟨has, hhas⟩ : ∃ has : Bool, has = (kidIx x.kids item.label).isSome := ⟨_, rfl⟩
          have HHas := hidLL hhas
          clear hj hjl hhas
          go_upto_region 7 with fail
          go_cut [34] (fun c wx => c = .bool has ∧ Below w2.heap.size w2 wx)
          case first =>
            have hs9 : decide (0 ≤ ixI (kidIx x.kids item.label)) = has := by
              rw [HHas.out]
              cases kidIx x.kids item.label with
              | none => rfl
              | some z => exact decide_eq_true (Int.natCast_nonneg z)
            refine wp_region_quiet_C (C := fun W => Below w2.heap.size w2 W) (by kernel_rfl) (by kernel_rfl) HB3.out.drew ?_
            refine quiet_MA 26 9 ?_
            refine puB_go (b1 := b1) (o1 := o1) (g0 := w.heap.size) rfl rfl rfl rfl (fun W hW => (HCl.out W hW).1) (fun W hW => (HCl.out W hW).2.2.1) HLd.out hs9 ?_
            rintro m hm hl W7 hW7
            obtain ⟨u0, u1, u2, u3, u4, u5, u6, u7, u8, rfl⟩ := nine9 hm
            obtain rfl : u8 = .bool has := by injection hl
            clear hm hl hs9
            simp only [MA, List.take_succ_cons, List.take_zero, List.drop_succ_cons, List.drop_zero, List.cons_append, List.nil_append]
            go_wp2_with fail
            go_meet
            exact ⟨rfl, hW7⟩
          case rest =>
            obtain ⟨rfl, hb4⟩ := hcut
            obtain ⟨w4, e4, hb4⟩ : ∃ w4, w4 = _ ∧ Below w2.heap.size w2 w4 := ⟨_, rfl, hb4⟩
            subst e4
            have HB4 := hidLL hb4
            have HBw4 := hidLL (HB2.out.trans (hb4.mono HB2.out.size))
            clear hb4 HB3 HBw3 HLd
            cases has
            · have HHn : Hid (¬ (kidIx x.kids item.label).isSome = true) := fun e => by rw [← HHas.out] at e; cases e
              have hf4 := HF1.out.on (by have := H0.out.lt; have := HB2.out.size; omega) HB4.out
              have HF4 := hidLL hf4
              have hbS : ∀ q, S1 q → B ≤ q := fun q hq => (H0.out.own.in q (HF1.out.sub q hq)).1
              have hb1B : B ≤ b1 := by
                by_cases h0 : ps = []
                · rw [(HF1.out.root h0).1]; exact hBb
                · exact (H0.out.own.in b1 (HF1.out.inn h0)).1
              have HS1 := hidLL (And.intro hbS hb1B)
              have hBw : B ≤ w4.heap.size := Nat.le_trans hB HBw4.out.size
              have hS1w : ∀ q, S1 q → q < w.heap.size := fun q hq => (H0.out.own.in q (HF1.out.sub q hq)).2
              have HS2 := hidLL hS1w
              clear hf4 hbS hb1B HF1 hS1w
              go_upto_region 9 with fail
              refine wp_region_noPanic ?_
              refine wp_region_last (S := fun V => Below w4.heap.size w4 V) (L := [9, 10, 11, 12]) (by kernel_rfl) ?_
              refine last_MA 36 12 ?_
              refine puC_go (W0 := w4) (b1 := b1) (o1 := o1) (g0 := w.heap.size) (zn := xn) (kc := kc) (ka := ka) (ln := item.lines.length) (lc := lc) (kn := item.kids.length) (kc2 := kc2) (la := la) (ka2 := ka2) (lab := item.label) (hd := item.head) (j := j) (R := fun w5 => ∃ g c, PutH w4 B b1 o1 j x item S1 w5 g c) rfl rfl (fun _ _ _ _ _ h => h) rfl rfl rfl ?_ ?_ ?_ (Below.refl _ _).drew
              · intro V hV
                obtain ⟨q1, q2, q3, q4, q5, q6⟩ := HCl.out V (HB4.out.trans (hV.mono HB4.out.size))
                exact ⟨q1, q3, q4, q5, q6⟩
              · intro V vb hV hvk hvb
                have hatV := HF4.out.at'.on hV
                have hiV : Lies V (· < B) iv item := HI.out.1.lies.step fun q hq hqB => ⟨(HBw4.out.trans (hV.mono HBw4.out.size)).block q hq, hqB⟩
                have e5 : v1 3 = .slice ka x.kids.length kc := by rw [HXn.out]; exact HV3.out
                have hpf := putF_c (d := j) (vb := vb) (iv := iv) hatV (Nat.le_trans hBw hV.size) HS1.out.2 (by rw [HXn.out]; exact HJl.out) (by rw [HXn.out]; omega) e5 hiV (by rw [HFm.out.1, HFm.out.2.1, HFm.out.2.2.1, HFm.out.2.2.2]; exact hvk) (fun e => by have := HS2.out vb e; have := HBw4.out.size; omega)
                rw [HXn.out] at hpf
                refine hpf.mono ?_
                rintro e w' ⟨a, n, c, he, hst⟩
                refine ⟨a, n, c, he, hst.cell, hst.frz, fun w'' h1 h2 h3 h4 => ?_⟩
                obtain ⟨g, c', hp⟩ := hst.fin w'' h1 h2 h3 h4
                exact ⟨g, c', hp.after hV HF4.out.at'.lt⟩
              · intro m w5 hm hR
                obtain ⟨u0, u1, u2, u3, u4, u5, u6, u7, u8, u9, u10, u11, rfl⟩ := twelve12 hm
                obtain ⟨g, gc, hp⟩ := hR
                clear hm
                refine NoPanic.normal ?_
                have hbl := HF4.out.backL w5 _ hp.upd hp.lies
                obtain ⟨v5, hc5, hl5⟩ := hbl.1
                obtain ⟨l0, l1, ⟨za, zc, l2⟩, zk, zkc, l3⟩ := hl5.forms
                have z0 := hc5 0 (by omega)
                have z1 := hc5 1 (by omega)
                have z2 := hc5 2 (by omega)
                have z3 := hc5 3 (by omega)
                rw [Nat.add_zero] at z0
                rw [l0] at z0
                rw [l1] at z1
                rw [l2] at z2
                rw [l3] at z3
                have hbB : Below B w4 w5 := hp.upd.below HS1.out.2 HS1.out.1 hBw
                have hbB5 : Below B w w5 := (HBw4.out.mono hB).trans hbB
                have hfx := find_few ps t x HF.out HQ.out
                have hV := valid_any _ (set_few ps t x _ HF.out HQ.out (ins_few hfx HI.out.2.2.2 (by rw [HXn.out]; omega) j)) p m w5 (HEn.out w5 hbB5) _ v5 hl5
                rw [l0, l1, l2, l3] at hV
                have HV := hidLL hV
                have HPH := hidLL hp
                have HBB := hidLL hbB5
                clear hbl hc5 hl5 l0 l1 l2 l3 hbB hV hp hbB5 hfx
                simp only [MA, List.take_succ_cons, List.take_zero, List.drop_succ_cons, List.drop_zero, List.cons_append, List.nil_append]
                generalize hlab : (setW (fun _ => x.setKids (x.kids.insertIdx j item)) ps t).label = tl at *
                generalize hhd : (setW (fun _ => x.setKids (x.kids.insertIdx j item)) ps t).head = th at *
                generalize hln : (setW (fun _ => x.setKids (x.kids.insertIdx j item)) ps t).lines.length = tn at *
                generalize hkn : (setW (fun _ => x.setKids (x.kids.insertIdx j item)) ps t).kids.length = tk at *
                clear hlab hhd hln hkn
                go_wp2_with fail
                refine HV.out.mono ?_
                rintro e w6 ⟨hvt, hb6⟩
                have HB6 := hidLL hb6
                have HBB6 := hidLL (HBB.out.trans (hb6.mono (Nat.le_trans hB HBB.out.size)))
                clear hb6 z0 z1 z2 z3
                cases hvi : vIt 0 0 [] (setW (fun _ => x.setKids (x.kids.insertIdx j item)) ps t) with
                | bad cc =>
                  rw [hvi] at hvt
                  obtain ⟨kk, hcc, hkk, rfl⟩ := hvt
                  have HO := hidLL (HR4.out x j cc HQ.out HJ.out HHn.out hvi)
                  clear hvi
                  subst hcc
                  unfold errI
                  go_wp2
                  go_ret
                  rw [HO.out]
                  exact ⟨by omega, EO.err kk hkk, HBB6.out⟩
                | ok mm =>
                  rw [hvi] at hvt
                  have hvt : e = _ := hvt
                  subst hvt
                  have HO := hidLL (HR5.out x j mm HQ.out HJ.out HHn.out hvi)
                  clear hvi
                  go_upto_region 13 with fail
                  refine wp_region_noPanic ?_
                  refine wp_region_last (S := fun V => Below w6.heap.size w6 V) (L := [9]) (by kernel_rfl) ?_
                  refine last_MA 55 9 ?_
                  refine puD_go (W0 := w6) (b1 := b1) (o1 := o1) (g0 := w.heap.size) (g := g) (zn := xn + 1) (kc := gc) (ln := item.lines.length) (lc := lc) (kn := item.kids.length) (kc2 := kc2) (la := la) (ka2 := ka2) (lab := item.label) (hd := item.head) (j := j) (k := item) rfl rfl (fun _ _ _ _ _ h => h) rfl rfl rfl ?_ (by have := HJl.out; omega) ?_ ?_ ?_ ?_ (Below.refl _ _).drew
                  · intro V hV
                    have h5V : Below w5.heap.size w5 V := HB6.out.trans (hV.mono HB6.out.size)
                    have hcl := HPH.out.cell
                    rw [HXn.out] at hcl
                    obtain ⟨q1, q2, q3, q4, q5, q6⟩ := HCl.out w4 HB4.out
                    have hwb : w.heap.size ≠ b1 := fun e => by
                      by_cases h0 : ps = []
                      · have := (HF4.out.root h0).1; have := H0.out.lt; omega
                      · have := (H0.out.own.in b1 (HF4.out.inn h0)).2; omega
                    have c4 : ∀ c u, w4.cell? ⟨w.heap.size, c, none⟩ = some u → V.cell? ⟨w.heap.size, c, none⟩ = some u := fun c u hc => by
                      have h1 : w5.cell? ⟨w.heap.size, c, none⟩ = some u := (World.cell?_of_block (a := ⟨w.heap.size, c, none⟩) (HPH.out.upd.block w.heap.size (cell_lt hc) (fun e => by have := HS2.out _ e; omega) hwb)).trans hc
                      exact (h5V.cell (p := ⟨w.heap.size, c, none⟩) (cell_lt h1)).trans h1
                    exact ⟨(h5V.cell (p := ⟨b1, o1 + 3, none⟩) (cell_lt hcl)).trans hcl, c4 _ _ q3, c4 _ _ q4, c4 _ _ q5, c4 _ _ q6⟩
                  · intro V hV
                    have hBV : Below B w V := HBB6.out.trans (hV.mono (Nat.le_trans hB HBB6.out.size))
                    have hs := HI.out.1.on fun k hk => hBV.block k hk
                    have hcp := copy_a hs (Nat.le_trans hB hBV.size) HI.out.2.1 HI.out.2.2.1
                    rw [HFm.out.1, HFm.out.2.1, HFm.out.2.2.1, HFm.out.2.2.2] at hcp
                    refine hcp.mono ?_
                    rintro e w' ⟨v', S', h1, h2, h3⟩
                    exact ⟨v', S', h1, h2, h3⟩
                  · intro V hV
                    have h5V : Below w5.heap.size w5 V := HB6.out.trans (hV.mono HB6.out.size)
                    have hp4 : ∀ c, c < 4 → ∃ u, V.cell? ⟨g, j * 4 + c, none⟩ = some u := fun c hc => by
                      obtain ⟨u, hu⟩ := HPH.out.place c hc
                      exact ⟨u, (h5V.cell (p := ⟨g, j * 4 + c, none⟩) (cell_lt hu)).trans hu⟩
                    exact ⟨hp4 0 (by omega), hp4 1 (by omega), hp4 2 (by omega), hp4 3 (by omega)⟩
                  · intro V hV i
                    have h5V : Below w5.heap.size w5 V := HB6.out.trans (hV.mono HB6.out.size)
                    exact (World.frozen?_of_block (a := ⟨g, i, none⟩) (h5V.block g HPH.out.lt)).trans (HPH.out.frz i)
                  · intro m w'' V1 y Ty hm hV1 hy hp4 hTy
                    obtain ⟨u0, u1, u2, u3, u4, u5, u6, u7, u8, rfl⟩ := nine9b hm
                    clear hm
                    refine NoPanic.normal ?_
                    simp only [MA, List.take_succ_cons, List.take_zero, List.drop_succ_cons, List.drop_zero, List.cons_append, List.nil_append]
                    go_wp2_with fail
                    go_ret
                    have h5V : Below w5.heap.size w5 V1 := HB6.out.trans (hV1.mono HB6.out.size)
                    obtain ⟨S', v', q1, q2, q3⟩ := HPH.out.fin V1 w'' y Ty h5V hp4 (hy.bel (Nat.le_trans hB HBB6.out.size)) (fun q hq => Nat.le_trans HB6.out.size (hTy q hq))
                    rw [HO.out]
                    exact HF4.out.done H0.out HBw4.out q3 q1 q2
            · have HO := hidLL (HR3.out x j HQ.out HJ.out HHas.out.symm)
              have e1 : w4.cell? ⟨6, 0, none⟩ = some (.iface 214 (.pointer (some (p 6)))) := (HEn.out _ (HBw4.out.mono hB)).L.cell 6 (by omega)
              go_wp2
              go_ret
              rw [HO.out]
              exact ⟨by omega, EO.err 6 (by omega), HBw4.out.mono hB⟩
end Go.Proofs.YtpbolcjcmkmalaaGreatDoor
namespace Go.Proofs.YtpbolcjcmkmalaaGreatDoor
open Go.RowKit Go.Extern.Stop Go.Stop Go.Extern

theorem lev_snoc : ∀ (l : List It) (k : It), levKs (l ++ [k]) = max (levKs l) (levIt k)
  | [], k => by rw [List.nil_append, levKs, levKs, levKs]; omega
  | a :: r, k => by rw [List.cons_append, levKs, levKs, lev_snoc r k]; omega
theorem lev_take {l : List It} {i : Nat} {k : It} (h : l[i]? = some k) : levKs (l.take (i + 1)) = max (levKs (l.take i)) (levIt k) := by
  obtain ⟨hi, e⟩ := List.getElem?_eq_some_iff.1 h
  rw [List.take_succ_eq_append_getElem hi, e, lev_snoc]
set_option maxHeartbeats 2000000 in
set_option maxRecDepth 20000 in
theorem levels_a : ∀ (N : Nat) (t : It), sizeIt t ≤ N → FewIt t → levIt t ≤ 1000 → ∀ (v : Nat → Value) (w : World) (P : Nat → Prop), Lies w P v t →
    Calls Tryz.prog 82 #[.agg #[v 0, v 1, v 2, v 3]] w fun e w' => e = .returned (.int .i64 (levIt t)) ∧ Below w.heap.size w w'
  | 0, t, h, _, _, _, _, _, _ => by have := sizeIt_eq t; omega
  | N + 1, t, h, hF, hlv, v, w, P, hL => by
    obtain ⟨f0, f1, ⟨la, lc, f2⟩, ⟨ka, kc, f3⟩⟩ := hL.forms
    obtain ⟨_, VK, hkk, hkr⟩ := hL.kidsAt f3
    have hkl := hF.get.2.1
    have HIH := hidLL (fun k (hk : k ∈ t.kids) => levels_a N k (by have := kid_size hk; omega) (hF.get.2.2.2.2.2 k hk) (by have := lev_mem t.kids k hk; rw [levIt_eq] at hlv; omega))
    have HLv := hidLL (levIt_eq t)
    have hlk : levKs t.kids ≤ 1000 := by rw [levIt_eq] at hlv; omega
    have HLe : Hid (∀ i, levKs (t.kids.take i) ≤ 1000) := fun i => Nat.le_trans (levKs_le fun k hk => lev_mem t.kids k (List.mem_of_mem_take hk)) hlk
    rw [f0, f1, f2, f3]
    obtain ⟨WB, hWB⟩ : ∃ WB, WB = w.alloc (.cells #[.string t.label, .string t.head, .slice la t.lines.length lc, .slice ka t.kids.length kc] 25) := ⟨_, rfl⟩
    have hb0 : Below w.heap.size w WB := by rw [hWB]; exact (Below.refl _ _).alloc (Nat.le_refl _) _
    have hbx : WB.heap[w.heap.size]? = some (.cells #[.string t.label, .string t.head, .slice la t.lines.length lc, .slice ka t.kids.length kc] 25 (0, 0)) := by rw [hWB]; exact heap_alloc_new _ _
    obtain ⟨x0, x1, x2, x3, xf⟩ := four hbx
    have HX := hidLL hWB
    have HB0 := hidLL hb0
    have HK := hidLL (And.intro hkk hkr)
    clear hWB hb0 hbx hL f0 f1 f2 f3 hF hkk hkr x0 x1 x2 xf hlk hlv
    generalize levIt t = lv at *
    generalize hkn : t.kids.length = kn at *
    have HKn := hidLL hkn
    clear hkn
    go_enter Tryz.func82, Tryz.ntmps82
    go_upto_region 1 with fail
    rw [← HX.out]
    go_wp2_with fail
    go_loopw [3, 9] (fun mo i wr => ∃ j : Nat, j ≤ kn ∧ i = .int .i64 j ∧ mo = .int .i64 (levKs (t.kids.take j) : Nat) ∧ Below w.heap.size w wr) (fun _ i _ => (kn - RowKit.intOf i).toNat)
    case atStart => exact ⟨0, by omega, rfl, rfl, HB0.out⟩
    case round =>
      obtain ⟨j, hj, rfl, rfl, hb⟩ := hrel
      have HB := hidLL hb
      clear hb
      have hle := HLe.out j
      by_cases hjn : j < kn
      · have hjz : (j : Int) < kn := by omega
        obtain ⟨k, hk⟩ : ∃ k, t.kids[j]? = some k := ⟨_, List.getElem?_eq_getElem (by have := HKn.out; omega)⟩
        obtain ⟨b, o, rfl, _, hc⟩ := HK.out.1 j (by have := HKn.out; omega)
        have hkL := (HK.out.2 j k hk)
        obtain ⟨g0, g1, ⟨la2, lc2, g2⟩, ka2, kc2, g3⟩ := hkL.forms
        have c0 := (HB.out.cell (p := ⟨b, o + j * 4, none⟩) (cell_lt (hc 0 (by omega)))).trans (hc 0 (by omega))
        have c1 := (HB.out.cell (p := ⟨b, o + j * 4 + 1, none⟩) (cell_lt (hc 1 (by omega)))).trans (hc 1 (by omega))
        have c2 := (HB.out.cell (p := ⟨b, o + j * 4 + 2, none⟩) (cell_lt (hc 2 (by omega)))).trans (hc 2 (by omega))
        have c3 := (HB.out.cell (p := ⟨b, o + j * 4 + 3, none⟩) (cell_lt (hc 3 (by omega)))).trans (hc 3 (by omega))
        rw [g0] at c0
        rw [g1] at c1
        rw [g2] at c2
        rw [g3] at c3
        obtain ⟨W2, hW2⟩ : ∃ W2, W2 = wr.alloc (.cells #[.string k.label, .string k.head, .slice la2 k.lines.length lc2, .slice ka2 k.kids.length kc2] 25) := ⟨_, rfl⟩
        have hb2 : Below w.heap.size w W2 := by rw [hW2]; exact HB.out.alloc HB.out.size _
        obtain ⟨z0, z1, z2, z3, zf⟩ := four (W := W2) (g := wr.heap.size) (by rw [hW2]; exact heap_alloc_new _ _)
        have hC := HIH.out k (List.mem_of_getElem? hk) (VK j) W2 P (hkL.bel hb2)
        rw [g0, g1, g2, g3] at hC
        have HC := hidLL hC
        have HB2 := hidLL hb2
        have HT := hidLL (lev_take hk)
        have hle2 := HLe.out (j + 1)
        rw [HT.out] at hle2
        have HW2 := hidLL hW2
        clear hC hb2 hc hkL g0 g1 g2 g3 hW2 hk
        generalize levIt k = lk at *
        have hlk2 : lk ≤ 1000 := by omega
        generalize levKs (t.kids.take j) = lj at *
        go_upto_region 5 with fail
        rw [← HW2.out]
        go_wp2_with fail
        refine HC.out.mono ?_
        rintro e w3 ⟨rfl, hb3⟩
        have H3 := hidLL hb3
        clear hb3
        go_wp2
        go_roundw
        case rel =>
          refine ⟨j + 1, by omega, by go_num, ?_, HB2.out.trans (H3.out.mono HB2.out.size)⟩
          rw [HT.out]
          first | rfl | (congr 1; omega) | simp
        case measure => simp [RowKit.intOf]; omega
      · obtain rfl : j = kn := by omega
        have HE : Hid (lv = levKs (t.kids.take j) + 1) := by show _ = _; rw [HLv.out, ← HKn.out, List.take_length]
        generalize levKs (t.kids.take j) = lj at *
        have hw : IntKind.i64.wrap ((lj : Int) + 1) = (lj : Int) + 1 := by rw [IntKind.wrap_i64]; omega
        go_wp2
        go_ret
        rw [HE.out]
        exact ⟨rfl, HB.out⟩
end Go.Proofs.YtpbolcjcmkmalaaGreatDoor
