/-
  Package amend: changeTexts (written by tools/genamtexts.py).
-/
import Derived.Test.YtpbolcjcmkmalaaGreatDoorFo23
import Derived.Test.YtpbolcjcmkmalaaGreatDoorFo32
import Derived.Test.YtpbolcjcmkmalaaGreatDoorFo24
import Derived.Test.YtpbolcjcmkmalaaGreatDoorFo31
namespace Go.Proofs.YtpbolcjcmkmalaaGreatDoor
open Go.RowKit Go.Extern.Stop Go.Stop Go.Extern

theorem textC_2 {x : It} {o : OpW} (h : o.kind = 2) : textC x o = lineC x o.line o.text := by unfold textC lineC; rw [if_pos h]
theorem textC_3 {x : It} {o : OpW} (h : o.kind = 3) : textC x o = addC x o.line o.text := by unfold textC addC; rw [if_neg (by omega), if_pos h]
theorem textC_4 {x : It} {o : OpW} (h : o.kind = 4) : textC x o = dropC x o.line := by unfold textC dropC; rw [if_neg (by omega), if_neg (by omega), if_pos h]
theorem textC_5 {x : It} {o : OpW} (h : o.kind = 5) : textC x o = wordsC x o := by unfold textC; rw [if_neg (by omega), if_neg (by omega), if_neg (by omega), if_pos h]
theorem textC_1 {x : It} {o : OpW} (h2 : ¬ o.kind = 2) (h3 : ¬ o.kind = 3) (h4 : ¬ o.kind = 4) (h5 : ¬ o.kind = 5) : textC x o = if chkB o.text = 0 then .ok (x.setHead o.text) else .bad (chkB o.text) := by unfold textC; rw [if_neg h2, if_neg h3, if_neg h4, if_neg h5]
set_option maxHeartbeats 4000000 in
set_option maxRecDepth 20000 in
theorem changeTexts_a {w : World} {B b o : Nat} {x : It} {S : Nat → Prop} {v : Nat → Value} (h : ItAt w B b o x S v) (hB : B ≤ w.heap.size) (hn : x.lines.length ≤ 40) (hfi : ∀ s, s ∈ x.lines → Fine s) {p : Nat → Addr} {m : Int} (hE : Env w p m) (op : OpW) (hok : OpOk op) (iv : Nat → Value) (hiv : ∀ c, c < 4 → (iv c).oneCell' = true) :
    Calls Tryz.prog 31 #[.pointer (some ⟨b, o, none⟩), .agg (opV op iv)] w (ChO w B b o S p (textC x op)) := by
  obtain ⟨WB, hWB⟩ : ∃ WB, WB = w.alloc (.cells (opV op iv) 46) := ⟨_, rfl⟩
  have hb0 : Below w.heap.size w WB := by rw [hWB]; exact (Below.refl _ _).alloc (Nat.le_refl _) _
  have hbx : WB.heap[w.heap.size]? = some (.cells (opV op iv) 46 (0, 0)) := by rw [hWB]; exact heap_alloc_new _ _
  have h1 := h.on hb0
  have hB1 := Nat.le_trans hB hb0.size
  have E1 := hE.on hb0
  have K2 := changeLine_a h1 hB1 E1 op hok iv
  have K3 := addLine_a h1 hB1 (by omega) E1 op hok iv
  have K4 := dropLine_a h1 hB1 (by omega) E1 op iv
  have K5 := changeWords_a h1 hB1 hn hfi E1 op hok iv
  have KC := checkLine_a op.text (by have := hok.text; omega) WB (hE := E1)
  have T2 := textC_2 (x := x) (o := op)
  have T3 := textC_3 (x := x) (o := op)
  have T4 := textC_4 (x := x) (o := op)
  have T5 := textC_5 (x := x) (o := op)
  have T1 := textC_1 (x := x) (o := op)
  have HAf := hidLL (fun (r : COut) (e : Ending) (w' : World) (hh : ChO WB B b o S p r e w') => hh.after hb0 h.lt hB)
  unfold opV at K2 K3 K4 K5 hbx hWB
  show Calls Tryz.prog 31 #[.pointer (some ⟨b, o, none⟩), .agg #[.int .i64 op.kind, .string op.path, .string op.at', .string op.text, .string op.new, .int .i64 op.line, iv 0, iv 1, iv 2, iv 3]] w (ChO w B b o S p (textC x op))
  have c0 := hiv 0 (by omega)
  have c1 := hiv 1 (by omega)
  have c2 := hiv 2 (by omega)
  have c3 := hiv 3 (by omega)
  generalize lineC x op.line op.text = r2 at *
  generalize addC x op.line op.text = r3 at *
  generalize dropC x op.line = r4 at *
  generalize wordsC x op = r5 at *
  generalize textC x op = r at *
  generalize op.kind = kind at *
  generalize op.path = path at *
  generalize op.at' = at' at *
  generalize op.text = text at *
  generalize op.new = new at *
  generalize op.line = line at *
  generalize iv 0 = i0 at *
  generalize iv 1 = i1 at *
  generalize iv 2 = i2 at *
  generalize iv 3 = i3 at *
  obtain ⟨y0, y1, y2, y3, y4, y5, y6, y7, y8, y9⟩ := ten hbx
  have HX := hidLL hWB
  have H0 := hidLL h
  have HB0 := hidLL hb0
  have HK2 := hidLL K2
  have HK3 := hidLL K3
  have HK4 := hidLL K4
  have HK5 := hidLL K5
  have HKC := hidLL KC
  have HT2 := hidLL T2
  have HT3 := hidLL T3
  have HT4 := hidLL T4
  have HT5 := hidLL T5
  have HT1 := hidLL T1
  clear hWB h hb0 hbx h1 hB1 hE E1 K2 K3 K4 K5 KC T1 T2 T3 T4 T5 hok hfi hiv
  by_cases k2 : kind = 2
  · have HO := hidLL (HT2.out k2)
    subst k2
    go_enter Tryz.func31, Tryz.ntmps31
    go_upto_region 1 with fail
    rw [← HX.out]
    go_wp2_with fail
    refine HK2.out.mono ?_
    rintro e w1 hch
    have HCh := hidLL (HAf.out _ _ _ hch)
    rw [← HO.out] at HCh
    have he : ∃ u, e = .returned u := by
      cases r2 with
      | bad c => obtain ⟨_, h2, _⟩ := hch; unfold EO at h2; split at h2; exact ⟨_, h2⟩; obtain ⟨k, _, _, h3⟩ := h2; exact ⟨_, h3⟩
      | ok y => exact ⟨_, hch.1⟩
    obtain ⟨u, rfl⟩ := he
    clear hch
    go_wp2
    go_ret
    exact HCh.out
  · have m2 : (kind == 2) = false := by rw [beq_eq_false_iff_ne]; exact k2
    by_cases k3 : kind = 3
    · have HO := hidLL (HT3.out k3)
      subst k3
      go_enter Tryz.func31, Tryz.ntmps31
      go_upto_region 1 with fail
      rw [← HX.out]
      go_wp2_with fail
      refine HK3.out.mono ?_
      rintro e w1 hch
      have HCh := hidLL (HAf.out _ _ _ hch)
      rw [← HO.out] at HCh
      have he : ∃ u, e = .returned u := by
        cases r3 with
        | bad c => obtain ⟨_, h2, _⟩ := hch; unfold EO at h2; split at h2; exact ⟨_, h2⟩; obtain ⟨k, _, _, h3⟩ := h2; exact ⟨_, h3⟩
        | ok y => exact ⟨_, hch.1⟩
      obtain ⟨u, rfl⟩ := he
      clear hch
      go_wp2
      go_ret
      exact HCh.out
    · have m3 : (kind == 3) = false := by rw [beq_eq_false_iff_ne]; exact k3
      by_cases k4 : kind = 4
      · have HO := hidLL (HT4.out k4)
        subst k4
        go_enter Tryz.func31, Tryz.ntmps31
        go_upto_region 1 with fail
        rw [← HX.out]
        go_wp2_with fail
        refine HK4.out.mono ?_
        rintro e w1 hch
        have HCh := hidLL (HAf.out _ _ _ hch)
        rw [← HO.out] at HCh
        have he : ∃ u, e = .returned u := by
          cases r4 with
          | bad c => obtain ⟨_, h2, _⟩ := hch; unfold EO at h2; split at h2; exact ⟨_, h2⟩; obtain ⟨k, _, _, h3⟩ := h2; exact ⟨_, h3⟩
          | ok y => exact ⟨_, hch.1⟩
        obtain ⟨u, rfl⟩ := he
        clear hch
        go_wp2
        go_ret
        exact HCh.out
      · have m4 : (kind == 4) = false := by rw [beq_eq_false_iff_ne]; exact k4
        by_cases k5 : kind = 5
        · have HO := hidLL (HT5.out k5)
          subst k5
          go_enter Tryz.func31, Tryz.ntmps31
          go_upto_region 1 with fail
          rw [← HX.out]
          go_wp2_with fail
          refine HK5.out.mono ?_
          rintro e w1 hch
          have HCh := hidLL (HAf.out _ _ _ hch)
          rw [← HO.out] at HCh
          have he : ∃ u, e = .returned u := by
            cases r5 with
            | bad c => obtain ⟨_, h2, _⟩ := hch; unfold EO at h2; split at h2; exact ⟨_, h2⟩; obtain ⟨k, _, _, h3⟩ := h2; exact ⟨_, h3⟩
            | ok y => exact ⟨_, hch.1⟩
          obtain ⟨u, rfl⟩ := he
          clear hch
          go_wp2
          go_ret
          exact HCh.out
        · have m5 : (kind == 5) = false := by rw [beq_eq_false_iff_ne]; exact k5
          have HO := hidLL (HT1.out k2 k3 k4 k5)
          clear HK2 HK3 HK4 HK5 HT1 HT2 HT3 HT4 HT5
          by_cases hc : chkB text = 0
          · rw [hc] at HKC
            rw [if_pos hc] at HO
            clear hc
            go_enter Tryz.func31, Tryz.ntmps31
            go_upto_region 1 with fail
            rw [← HX.out]
            go_wp2_with fail
            refine HKC.out.mono ?_
            rintro e w1 ⟨he, hb1⟩
            unfold EO at he
            rw [if_pos rfl] at he
            subst he
            have hbw := HB0.out.trans (hb1.mono HB0.out.size)
            have z3 := (hb1.cell (p := ⟨w.heap.size, 3, none⟩) (cell_lt y3)).trans y3
            have z1 := (H0.out.on hbw).cell (c := 1) (by omega)
            have zf := (H0.out.on hbw).frozen (o + 1)
            have HBw := hidLL hbw
            clear hb1 hbw y3
            generalize v 1 = old at *
            go_wp2
            go_ret
            rw [HO.out]
            obtain ⟨q1, q2⟩ := (H0.out.on HBw.out).setHead text (Fr.setCell (X := (· = b)) (Fr.refl _ w1) (p := ⟨b, o + 1, none⟩) (.inl rfl) (.string text)) rfl
            exact ChO.after HBw.out H0.out.lt hB ⟨rfl, S, _, q1, fun q hq => .inl hq, q2⟩
          · rw [if_neg hc] at HO
            have HC := hidLL hc
            clear hc
            generalize chkB text = cu at *
            go_enter Tryz.func31, Tryz.ntmps31
            go_upto_region 1 with fail
            rw [← HX.out]
            go_wp2_with fail
            refine HKC.out.mono ?_
            rintro e w1 ⟨he, hb1⟩
            unfold EO at he
            rw [if_neg HC.out] at he
            obtain ⟨k, hk1, hk2, rfl⟩ := he
            have H1 := hidLL (HB0.out.trans (hb1.mono HB0.out.size))
            have HK := hidLL hk1
            clear hb1 hk1
            unfold errI
            go_wp2
            go_ret
            rw [HO.out, HK.out]
            exact ⟨by omega, EO.err k hk2, H1.out.mono hB⟩
end Go.Proofs.YtpbolcjcmkmalaaGreatDoor
namespace Go.Proofs.YtpbolcjcmkmalaaGreatDoor
open Go.RowKit Go.Extern.Stop Go.Stop Go.Extern

/-- Another label. -/
theorem ItAt.setLab {w w' : World} {B b o : Nat} {x : It} {S : Nat → Prop} {v : Nat → Value} (h : ItAt w B b o x S v) (s : ByteArray) (hf : Fr (· = b) w w') (hb : w'.heap[b]? = (w.setCell ⟨b, o + 0, none⟩ (.string s)).heap[b]?) :
    ItAt w' B b o (x.setLabel s) S (updV v 0 (.string s)) ∧ Upd w w' b o S := by
  obtain ⟨h1, h2⟩ := here_set (u := .string s) h.here (c := 0) (by omega) hb
  obtain ⟨K, T, hk⟩ := h.own.parts
  have hn : ∀ q, S q → q ≠ b := fun q hq e => h.out (e ▸ hq)
  refine ⟨⟨h1, ?_, h.out⟩, ⟨hf.os, hf.tape, hf.output, hf.size, fun k hk _ hne => hf.block k hk hne, h2⟩⟩
  refine .mk _ _ K T S (updV_same _ _ _) ((updV_ne v _ (by omega)).trans hk.h1) ?_ ?_ (fun g hg => hk.sl g (by rw [updV_ne v _ (by omega)] at hg; exact hg)) (fun g hg => hk.sk g (by rw [updV_ne v _ (by omega)] at hg; exact hg)) (fun i k e => own_step2 (t := x) hk hf (fun i q hi hq => hn q (hk.hT i q hi hq).1) i k e) (fun i q hi hq => by rw [updV_ne v _ (by omega), updV_ne v _ (by omega)]; exact hk.hT i q hi hq) hk.hd (fun g hg => ⟨(hk.hS g hg).1, Nat.lt_of_lt_of_le (hk.hS g hg).2 hf.size⟩)
  · rw [updV_ne v _ (by omega)]
    exact row_step hk.ln fun g hg hl => hf.block g hl (hn g (hk.sl g hg))
  · rw [updV_ne v _ (by omega)]
    exact row_step hk.kd fun g hg hl => hf.block g hl (hn g (hk.sk g hg))
set_option maxHeartbeats 4000000 in
set_option maxRecDepth 20000 in
theorem relabel_a {w : World} {B b o : Nat} {t : It} {S : Nat → Prop} {v : Nat → Value} (h : ItAt w B b o t S v) (hF : FewIt t) (hB : B ≤ w.heap.size) {p : Nat → Addr} {m : Int} (hE : Env w p m) (op : OpW) (hok : OpOk op) (iv : Nat → Value) :
    Calls Tryz.prog 34 #[.pointer (some ⟨b, o, none⟩), .agg (opV op iv)] w (ChO w B b o S p (labelC t op)) := by
  have ht := hok.path
  have htx := hok.text
  clear hok
  cases op with
  | mk kind path at' text new line item =>
    have ht : path.size ≤ 6000 := ht
    have htx : text.size ≤ 6000 := htx
    show Calls Tryz.prog 34 #[.pointer (some ⟨b, o, none⟩), .agg #[.int .i64 kind, .string path, .string at', .string text, .string new, .int .i64 line, iv 0, iv 1, iv 2, iv 3]] w (ChO w B b o S p (labelC t ⟨kind, path, at', text, new, line, item⟩))
    generalize iv 0 = i0, iv 1 = i1, iv 2 = i2, iv 3 = i3
    obtain ⟨WB, hWB⟩ : ∃ WB, WB = w.alloc (.cells #[.int .i64 kind, .string path, .string at', .string text, .string new, .int .i64 line, i0, i1, i2, i3] 46) := ⟨_, rfl⟩
    have hb0 : Below w.heap.size w WB := by rw [hWB]; exact (Below.refl _ _).alloc (Nat.le_refl _) _
    have hbx : WB.heap[w.heap.size]? = some (.cells #[.int .i64 kind, .string path, .string at', .string text, .string new, .int .i64 line, i0, i1, i2, i3] 46 (0, 0)) := by rw [hWB]; exact heap_alloc_new _ _
    obtain ⟨y0, y1, y2, y3, y4, y5, y6, y7, y8, y9⟩ := ten hbx
    have HLb := hidLL (labelsOf_a path (by omega) m WB (hE.on hb0).M)
    have HX := hidLL hWB
    have H0 := hidLL h
    have HF := hidLL hF
    have HB0 := hidLL hb0
    have HEn := hidLL (fun w' (hb : Below w.heap.size w w') => hE.on hb)
    have HR : Hid (∀ r, arW t (partsB path) = r → labelC t ⟨kind, path, at', text, new, line, item⟩ = match r with | none => .bad 5 | some (x, i) => if isLab text = false ∨ (∃ j, kidIx x.kids text = some j ∧ j ≠ i) then .bad 7 else .ok (setW (fun _ => x.setKid i ((x.kids[i]?.getD It.none).setLabel text)) (partsB path).dropLast t)) := fun r hr => by
      unfold labelC
      show (match arW t (partsB path) with | none => COut.bad 5 | some (x, i) => if isLab text = false ∨ (∃ j, kidIx x.kids text = some j ∧ j ≠ i) then .bad 7 else .ok (setW (fun _ => x.setKid i ((x.kids[i]?.getD It.none).setLabel text)) (partsB path).dropLast t)) = _
      rw [hr]
    have HPl : Hid ((partsB path).length ≤ 100000) := by show _ ≤ _; have := parts_len path; omega
    have HIL := hidLL (fun W (hW : Below w.heap.size w W) => isLabel_any text (by omega) W (hE.on hW).T)
    clear hWB h hF hE y0 y2 y4 y5 y6 y7 y8 y9 hbx hb0
    generalize labelC t ⟨kind, path, at', text, new, line, item⟩ = r at *
    generalize partsB path = ps at *
    go_enter Tryz.func34, Tryz.ntmps34
    go_upto_region 1 with fail
    rw [← HX.out]
    go_wp2_with fail
    refine HLb.out.mono ?_
    rintro e w1 ⟨⟨pa, pc, rfl, hst, hpc⟩, hb1⟩
    have hbw1 := HB0.out.trans (hb1.mono HB0.out.size)
    have HAr := hidLL (around_a (H0.out.on hbw1) HF.out hst HPl.out hpc)
    have z3 := (hb1.cell (p := ⟨w.heap.size, 3, none⟩) (cell_lt y3)).trans y3
    have HB1 := hidLL hbw1
    clear hst hpc hb1 hbw1 y3
    go_wp2_with fail
    refine HAr.out.mono ?_
    rintro e w2 ⟨har, hb2⟩
    unfold ArO at har
    have x3 := (hb2.cell (p := ⟨w.heap.size, 3, none⟩) (cell_lt z3)).trans z3
    clear z3
    cases hq : arW t ps with
    | none =>
      rw [hq] at har
      have har : e = _ := har
      subst har
      have HO := hidLL (HR.out _ hq)
      have hbw2 := HB1.out.trans (hb2.mono HB1.out.size)
      have e1 : w2.cell? ⟨4, 0, none⟩ = some (.iface 214 (.pointer (some (p 4)))) := (HEn.out _ hbw2).L.cell 4 (by omega)
      have HB2 := hidLL hbw2
      clear hq hb2 hbw2
      go_wp2
      go_ret
      rw [HO.out]
      exact ⟨by omega, EO.err 4 (by omega), HB2.out.mono hB⟩
    | some xi =>
      obtain ⟨x, i⟩ := xi
      rw [hq] at har
      obtain ⟨b', o', S', v', rfl, hf1⟩ := har
      have HO := hidLL (HR.out _ hq)
      have hbw2 := HB1.out.trans (hb2.mono HB1.out.size)
      have hf := hf1.on (by have := H0.out.lt; have := HB1.out.size; omega) hb2
      obtain ⟨p0, l, k, hp, h1, h2, h3, h4⟩ := ar_some hq
      have hx := find_few _ t x HF.out h1
      obtain ⟨ka, kc, hv3, hc3⟩ := hf.at'.kidsV
      have hdl := (List.getElem?_eq_some_iff.1 h3).1
      have hkl := hx.get.2.1
      have HLd : Hid (∀ W, Below w2.heap.size w2 W → Calls Tryz.prog 69 #[.slice ka x.kids.length kc, .string text] W fun e w' => e = .returned (.int .i64 (ixI (kidIx x.kids text))) ∧ Below w2.heap.size w2 w') := fun W hW => (amLab_lies (hf.at'.on hW).own.lies hv3 (by omega) text).mono fun e w' h => ⟨h.1, hW.trans (h.2.mono hW.size)⟩
      have HFo := hidLL hf
      have HB2 := hidLL hbw2
      have HP := hidLL (And.intro hp (And.intro h2 (And.intro h3 hv3)))
      clear hq hb2 hbw2 hf1 hf h1 h2 h3 h4 hp hx hv3
      --REST
      have HG0 : ∃ g, ka = some ⟨g, 0, none⟩ := by
        obtain ⟨g, cap, K, T, e9, _, _⟩ := HFo.out.at'.kid HP.out.2.2.1
        have e8 := HP.out.2.2.2
        rw [e9] at e8
        injection e8 with e8 _ _
        exact ⟨g, e8.symm⟩
      obtain ⟨g, hka⟩ := HG0
      have HG := hidLL hka
      have hc3' : w2.cell? ⟨b', o' + 3, none⟩ = some (.slice (some ⟨g, 0, none⟩) x.kids.length kc) := by rw [← hka]; exact hc3
      rw [hka] at HLd
      have hiz : (i : Int) < (x.kids.length : Int) := by omega
      clear hc3 hka
      cases hl : isLab text
      · have HO2 : Hid (r = .bad 7) := by show _ = _; rw [HO.out]; exact if_pos (.inl hl)
        rw [hl] at HIL
        clear hl
        generalize kidIx x.kids text = ix at *
        generalize x.kids.length = kn at *
        go_wp2
        go_region_with (go_at_call 69; refine (HLd.out _ ?_).mono ?_; (· first | exact Below.refl _ _ | exact (Below.refl _ _).drew | exact bdrewN (Below.refl _ _) _); rintro e w3 ⟨rfl, hb3⟩; have q3 := (hb3.cell (p := ⟨w.heap.size, 3, none⟩) (cell_lt x3)).trans x3; have H3 := hidLL hb3; clear hb3)
        all_goals go_wp2_with fail
        all_goals refine (HIL.out _ (HB2.out.trans (H3.out.mono HB2.out.size))).mono ?_
        all_goals (rintro e w4 ⟨rfl, hb4⟩; have hb5 := (HB2.out.trans (H3.out.mono HB2.out.size)).trans (hb4.mono (by have := HB2.out.size; have := H3.out.size; omega)); have e1 : w4.cell? ⟨6, 0, none⟩ = some (.iface 214 (.pointer (some (p 6)))) := (HEn.out _ hb5).L.cell 6 (by omega); have H5 := hidLL hb5; clear hb4 hb5; go_wp2; go_ret; rw [HO2.out]; exact ⟨by omega, EO.err 6 (by omega), H5.out.mono hB⟩)
      · rw [hl] at HIL
        cases hr : kidIx x.kids text with
        | none =>
          have HO2 : Hid (r = .ok (setW (fun _ => x.setKid i ((x.kids[i]?.getD It.none).setLabel text)) ps.dropLast t)) := by
            show _ = _
            rw [HO.out]
            exact if_neg (fun e => by rcases e with e | ⟨j, e, _⟩; rw [hl] at e; cases e; rw [hr] at e; cases e)
          rw [hr] at HLd
          clear hl hr
          unfold ixI at HLd
          have HSet : Hid (setW (fun _ => x.setKid i ((x.kids[i]?.getD It.none).setLabel text)) ps.dropLast t = setW (fun _ => k.setLabel text) ps t) := by
            show _ = _
            obtain ⟨e1, e2, e3, _⟩ := HP.out
            have e4 : ps.dropLast = p0 := by rw [e1, List.dropLast_concat]
            have e5 : (x.kids[i]?).getD It.none = k := by rw [e3]; rfl
            have e6 := HFo.out.fnd
            rw [e4] at e6
            rw [e4, e5, e1]
            exact (setW_snoc p0 t x k l i (k.setLabel text) e6 e2 e3).symm
          rw [HSet.out] at HO2
          have HPd : Hid (ps.dropLast ++ [l] = ps) := by show _ = _; rw [HP.out.1, List.dropLast_concat]
          generalize x.kids.length = kn at *
          go_wp2
          go_region_with (go_at_call 69; refine (HLd.out _ ?_).mono ?_; (· first | exact Below.refl _ _ | exact (Below.refl _ _).drew | exact bdrewN (Below.refl _ _) _); rintro e w3 ⟨rfl, hb3⟩; have q3 := (hb3.cell (p := ⟨w.heap.size, 3, none⟩) (cell_lt x3)).trans x3; have H3 := hidLL hb3; clear hb3)
          all_goals go_wp2_with fail
          all_goals refine (HIL.out _ (HB2.out.trans (H3.out.mono HB2.out.size))).mono ?_
          all_goals (rintro e w4 ⟨rfl, hb4⟩; have hb34 := H3.out.trans (hb4.mono H3.out.size); have hf4 := HFo.out.on (by have := H0.out.lt; have := HB2.out.size; omega) hb34; have c3 := (hf4.at'.cell (c := 3) (by omega)); rw [HP.out.2.2.2, HG.out] at c3; have r3 := (hb4.cell (p := ⟨w.heap.size, 3, none⟩) (cell_lt q3)).trans q3; obtain ⟨g2, cap2, T2, V2, hg2, hfk⟩ := hf4.kid HP.out.2.1 HP.out.2.2.1; have hgg : g2 = g := (by have e9 := hg2.symm.trans (HP.out.2.2.2.trans (by rw [HG.out])); injection e9 with e9; injection e9 with e9; injection e9); subst hgg; have ck := hfk.at'.cell (c := 0) (by omega); have fk := hfk.at'.frozen (i * 4 + 0); rw [Nat.add_zero] at ck fk; have HK := hidLL (And.intro hfk hb34); clear hb4 hb34 hf4 hg2 hfk q3; generalize V2 0 = old at *; go_wp2; go_region; all_goals go_wp2; all_goals go_ret; all_goals rw [HO2.out]; all_goals (obtain ⟨r1, r2⟩ := HK.out.1.at'.setLab text (Fr.setCell (X := (· = g2)) (Fr.refl _ w4) (p := ⟨g2, i * 4, none⟩) (.inl rfl) (.string text)) rfl; have hd := HK.out.1.done H0.out (HB2.out.trans (HK.out.2.mono HB2.out.size)) (p := p) r2 r1 (fun q hq => .inl hq); rw [HPd.out] at hd; first | exact hd | exact hd.drew))
        | some j =>
          obtain ⟨kj, hkj, _⟩ := kidIx_some hr
          have hjl := (List.getElem?_eq_some_iff.1 hkj).1
          have hj0 : (0 : Int) ≤ (j : Int) := by omega
          by_cases hji : j = i
          · subst hji
            have HO2 : Hid (r = .ok (setW (fun _ => x.setKid j ((x.kids[j]?.getD It.none).setLabel text)) ps.dropLast t)) := by
              show _ = _
              rw [HO.out]
              exact if_neg (fun e => by rcases e with e | ⟨j', e, e2⟩; rw [hl] at e; cases e; rw [hr] at e; injection e with e; exact e2 e.symm)
            rw [hr] at HLd
            clear hl hr hkj
            unfold ixI at HLd
            have HSet : Hid (setW (fun _ => x.setKid j ((x.kids[j]?.getD It.none).setLabel text)) ps.dropLast t = setW (fun _ => k.setLabel text) ps t) := by
              show _ = _
              obtain ⟨e1, e2, e3, _⟩ := HP.out
              have e4 : ps.dropLast = p0 := by rw [e1, List.dropLast_concat]
              have e5 : (x.kids[j]?).getD It.none = k := by rw [e3]; rfl
              have e6 := HFo.out.fnd
              rw [e4] at e6
              rw [e4, e5, e1]
              exact (setW_snoc p0 t x k l j (k.setLabel text) e6 e2 e3).symm
            rw [HSet.out] at HO2
            have HPd : Hid (ps.dropLast ++ [l] = ps) := by show _ = _; rw [HP.out.1, List.dropLast_concat]
            generalize x.kids.length = kn at *
            go_wp2
            go_region_with (go_at_call 69; refine (HLd.out _ ?_).mono ?_; (· first | exact Below.refl _ _ | exact (Below.refl _ _).drew | exact bdrewN (Below.refl _ _) _); rintro e w3 ⟨rfl, hb3⟩; have q3 := (hb3.cell (p := ⟨w.heap.size, 3, none⟩) (cell_lt x3)).trans x3; have H3 := hidLL hb3; clear hb3)
            all_goals go_wp2_with fail
            all_goals refine (HIL.out _ (HB2.out.trans (H3.out.mono HB2.out.size))).mono ?_
            all_goals (rintro e w4 ⟨rfl, hb4⟩; have hb34 := H3.out.trans (hb4.mono H3.out.size); have hf4 := HFo.out.on (by have := H0.out.lt; have := HB2.out.size; omega) hb34; have c3 := (hf4.at'.cell (c := 3) (by omega)); rw [HP.out.2.2.2, HG.out] at c3; have r3 := (hb4.cell (p := ⟨w.heap.size, 3, none⟩) (cell_lt q3)).trans q3; obtain ⟨g2, cap2, T2, V2, hg2, hfk⟩ := hf4.kid HP.out.2.1 HP.out.2.2.1; have hgg : g2 = g := (by have e9 := hg2.symm.trans (HP.out.2.2.2.trans (by rw [HG.out])); injection e9 with e9; injection e9 with e9; injection e9); subst hgg; have ck := hfk.at'.cell (c := 0) (by omega); have fk := hfk.at'.frozen (j * 4 + 0); rw [Nat.add_zero] at ck fk; have HK := hidLL (And.intro hfk hb34); clear hb4 hb34 hf4 hg2 hfk q3; generalize V2 0 = old at *; go_wp2; go_region; all_goals go_wp2; all_goals go_ret; all_goals rw [HO2.out]; all_goals (obtain ⟨r1, r2⟩ := HK.out.1.at'.setLab text (Fr.setCell (X := (· = g2)) (Fr.refl _ w4) (p := ⟨g2, j * 4, none⟩) (.inl rfl) (.string text)) rfl; have hd := HK.out.1.done H0.out (HB2.out.trans (HK.out.2.mono HB2.out.size)) (p := p) r2 r1 (fun q hq => .inl hq); rw [HPd.out] at hd; first | exact hd | exact hd.drew))
          · have HO2 : Hid (r = .bad 7) := by show _ = _; rw [HO.out]; exact if_pos (.inr ⟨j, hr, hji⟩)
            have n1 : ((j : Int) == (i : Int)) = false := by rw [beq_eq_false_iff_ne]; omega
            have n2 : ((j : Int) != (i : Int)) = true := by rw [bne_iff_ne]; omega
            have n3 : ¬ ((j : Int) = (i : Int)) := by omega
            rw [hr] at HLd
            clear hl hr hkj
            unfold ixI at HLd
            generalize x.kids.length = kn at *
            go_wp2
            go_region_with (go_at_call 69; refine (HLd.out _ ?_).mono ?_; (· first | exact Below.refl _ _ | exact (Below.refl _ _).drew | exact bdrewN (Below.refl _ _) _); rintro e w3 ⟨rfl, hb3⟩; have q3 := (hb3.cell (p := ⟨w.heap.size, 3, none⟩) (cell_lt x3)).trans x3; have H3 := hidLL hb3; clear hb3)
            all_goals go_wp2_with fail
            all_goals refine (HIL.out _ (HB2.out.trans (H3.out.mono HB2.out.size))).mono ?_
            all_goals (rintro e w4 ⟨rfl, hb4⟩; have hb5 := (HB2.out.trans (H3.out.mono HB2.out.size)).trans (hb4.mono (by have := HB2.out.size; have := H3.out.size; omega)); have e1 : w4.cell? ⟨6, 0, none⟩ = some (.iface 214 (.pointer (some (p 6)))) := (HEn.out _ hb5).L.cell 6 (by omega); have H5 := hidLL hb5; clear hb4 hb5; go_wp2; go_ret; rw [HO2.out]; exact ⟨by omega, EO.err 6 (by omega), H5.out.mono hB⟩)
end Go.Proofs.YtpbolcjcmkmalaaGreatDoor
namespace Go.Proofs.YtpbolcjcmkmalaaGreatDoor
open Go.RowKit Go.Extern.Stop Go.Stop Go.Extern

def COut.up (ps : List ByteArray) (t : It) : COut → COut
  | .bad c => .bad c
  | .ok y => .ok (setW (fun _ => y) ps t)
/-- What is done to a text of a provision is done to the law. -/
theorem Foc.textDone {w w1 w2 : World} {B b o : Nat} {t : It} {S : Nat → Prop} {v : Nat → Value} {ps : List ByteArray} {b' o' : Nat} {x : It} {S' : Nat → Prop} {v' : Nat → Value} {p : Nat → Addr} {r : COut} {e : Ending} (h0 : ItAt w B b o t S v) (hB : B ≤ w.heap.size) (hb : Below w.heap.size w w1) (hf : Foc w1 B b o t S ps b' o' x S' v') (h : ChO w1 B b' o' S' p r e w2) :
    ChO w B b o S p (r.up ps t) e w2 := by
  cases r with
  | bad c => exact ⟨h.1, h.2.1, (hb.mono hB).trans h.2.2⟩
  | ok y =>
    obtain ⟨rfl, S2, v2, q1, q2, q3⟩ := h
    exact hf.done h0 hb q3 q1 q2
theorem ChO.ret {w w' : World} {B b o : Nat} {S : Nat → Prop} {p : Nat → Addr} {r : COut} {e : Ending} (h : ChO w B b o S p r e w') : ∃ v, e = .returned v := by
  cases r with
  | ok y => exact ⟨_, h.1⟩
  | bad c =>
    obtain ⟨h1, h2, _⟩ := h
    unfold EO at h2
    rw [if_neg h1] at h2
    obtain ⟨k, _, _, h3⟩ := h2
    exact ⟨_, h3⟩
section
variable {t : It} {o : OpW}
theorem one_no (h : 1 ≤ o.kind ∧ o.kind ≤ 5) (h2 : findW t (partsB o.path) = none) : oneC t o = .bad 5 := by unfold oneC; rw [if_pos h, h2]
theorem one_text {x : It} (h : 1 ≤ o.kind ∧ o.kind ≤ 5) (h2 : findW t (partsB o.path) = some x) : oneC t o = (textC x o).up (partsB o.path) t := by
  unfold oneC
  rw [if_pos h, h2]
  show (match textC x o with | .bad c => COut.bad c | .ok y => .ok (setW (fun _ => y) (partsB o.path) t)) = _
  cases textC x o <;> rfl
theorem one_put (h : o.kind = 6) : oneC t o = putC t o := by unfold oneC; rw [if_neg (by omega), if_pos h]
theorem one_repeal (h : o.kind = 7) : oneC t o = repealC t o := by unfold oneC; rw [if_neg (by omega), if_neg (by omega), if_pos h]
theorem one_label (h : o.kind = 8) : oneC t o = labelC t o := by unfold oneC; rw [if_neg (by omega), if_neg (by omega), if_neg (by omega), if_pos h]
theorem one_move (h : o.kind = 9) : oneC t o = moveC t o := by unfold oneC; rw [if_neg (by omega), if_neg (by omega), if_neg (by omega), if_neg (by omega), if_pos h]
theorem one_bad (h : o.kind < 1 ∨ 9 < o.kind) : oneC t o = .bad 9 := by unfold oneC; rw [if_neg (by omega), if_neg (by omega), if_neg (by omega), if_neg (by omega), if_neg (by omega)]
end
set_option maxHeartbeats 8000000 in
set_option maxRecDepth 20000 in
theorem change_a {w : World} {B b o : Nat} {t : It} {S : Nat → Prop} {v : Nat → Value} (h : ItAt w B b o t S v) (hL : Law t) (hB : B ≤ w.heap.size) (hBb : B ≤ b) {p : Nat → Addr} {m : Int} (hE : ∀ w', Below B w w' → Env w' p m) (op : OpW) (hok : OpOk op) (iv : Nat → Value) {ex : Prop} (hi : SrcT w B ex iv op.item) (hz : wtI op.item ≤ 400000) (hx : ex ∨ wtI op.item ≤ 600) (hFi : FewIt op.item) :
    Calls Tryz.prog 18 #[.pointer (some ⟨b, o, none⟩), .agg (opV op iv)] w (ChO w B b o S p (oneC t op)) := by
  obtain ⟨f0, f1, ⟨la, lc, f2⟩, ka2, kc2, f3⟩ := hi.lies.forms
  obtain ⟨WB, hWB⟩ : ∃ WB, WB = w.alloc (.cells (opV op iv) 46) := ⟨_, rfl⟩
  have hb0 : Below w.heap.size w WB := by rw [hWB]; exact (Below.refl _ _).alloc (Nat.le_refl _) _
  have hbx : WB.heap[w.heap.size]? = some (.cells (opV op iv) 46 (0, 0)) := by rw [hWB]; exact heap_alloc_new _ _
  have h1 := h.on hb0
  have hB1 := Nat.le_trans hB hb0.size
  have hE1 : ∀ w', Below B WB w' → Env w' p m := fun w' hw => hE w' ((hb0.mono hB).trans hw)
  have E1 := hE1 WB (Below.refl _ _)
  have hi1 : SrcT WB B ex iv op.item := hi.on fun k hk => hb0.block k (by omega)
  have KP := put_a h1 hL hB1 hBb hE1 op hok iv hi1 hz hx hFi
  have KR := repeal_a h1 (law_few hL) hB1 E1 op hok iv
  have KL := relabel_a h1 (law_few hL) hB1 E1 op hok iv
  have KM := move_a h1 hL hB1 E1 op hok iv
  have KB := labelsOf_a op.path (by have := hok.path; omega) m WB E1.M
  have HT := hidLL (fun (w2 : World) (hb2 : Below w.heap.size w w2) (x : It) (b' o' : Nat) (S' : Nat → Prop) (v' : Nat → Value) (hf : Foc w2 B b o t S (partsB op.path) b' o' x S' v') => by
    have hr := find_rgt (partsB op.path) 0 t x hL.1 hf.fnd
    obtain ⟨g1, _, g3⟩ := texts_iff.1 ⟨hr.is.1.2.1, hr.is.1.2.2.2⟩
    exact changeTexts_a hf.at' (Nat.le_trans hB hb2.size) g1 g3 (hE w2 (hb2.mono hB)) op hok iv (fun c hc => by
      match c, hc with
      | 0, _ => rw [f0]; rfl
      | 1, _ => rw [f1]; rfl
      | 2, _ => rw [f2]; rfl
      | 3, _ => rw [f3]; rfl))
  have T1 := one_no (t := t) (o := op)
  have T2 := fun x => one_text (t := t) (o := op) (x := x)
  have T6 := one_put (t := t) (o := op)
  have T7 := one_repeal (t := t) (o := op)
  have T8 := one_label (t := t) (o := op)
  have T9 := one_move (t := t) (o := op)
  have T0 := one_bad (t := t) (o := op)
  have HAf := hidLL (fun (r : COut) (e : Ending) (w' : World) (hh : ChO WB B b o S p r e w') => hh.after hb0 h.lt hB)
  have HPl : Hid ((partsB op.path).length ≤ 100000) := by show _ ≤ _; have := parts_len op.path; have := hok.path; omega
  have HBx := hbx
  unfold opV at KP KR KL KM hbx hWB HT
  show Calls Tryz.prog 18 #[.pointer (some ⟨b, o, none⟩), .agg #[.int .i64 op.kind, .string op.path, .string op.at', .string op.text, .string op.new, .int .i64 op.line, iv 0, iv 1, iv 2, iv 3]] w (ChO w B b o S p (oneC t op))
  rw [f0, f1, f2, f3] at KP KR KL KM hbx hWB HT
  rw [f0, f1, f2, f3]
  obtain ⟨y0, y1, y2, y3, y4, y5, y6, y7, y8, y9⟩ := ten hbx
  have HX := hidLL hWB
  have H0 := hidLL h
  have HF := hidLL (law_few hL)
  have HB0 := hidLL hb0
  have HEn := hidLL hE
  have HKP := hidLL KP
  have HKR := hidLL KR
  have HKL := hidLL KL
  have HKM := hidLL KM
  have HLb := hidLL KB
  have HO := hidLL (And.intro T1 (And.intro T2 (And.intro T6 (And.intro T7 (And.intro T8 (And.intro T9 T0))))))
  clear hWB h hL hE hbx hb0 h1 hB1 hE1 E1 hi1 KP KR KL KM KB T1 T2 T6 T7 T8 T9 T0 HBx hi hz hx hFi f0 f1 f2 f3 hok
  have hcases : (1 ≤ op.kind ∧ op.kind ≤ 5) ∨ op.kind = 6 ∨ op.kind = 7 ∨ op.kind = 8 ∨ op.kind = 9 ∨ (op.kind < 1 ∨ 9 < op.kind) := by omega
  generalize hr : oneC t op = r at *
  generalize hpc : putC t op = rp at *
  generalize hrc : repealC t op = rr at *
  generalize hlc : labelC t op = rl at *
  generalize hmc : moveC t op = rm at *
  clear hr hpc hrc hlc hmc
  rcases hcases with hk | hk | hk | hk | hk | hk
  · have HR1 := hidLL (HO.out.1 hk)
    have HR2 := hidLL (fun x => HO.out.2.1 x hk)
    clear HO HKP HKR HKL HKM HAf
    rcases (by omega : op.kind = 1 ∨ op.kind = 2 ∨ op.kind = 3 ∨ op.kind = 4 ∨ op.kind = 5) with hk1 | hk1 | hk1 | hk1 | hk1
    all_goals
      clear hk
      rw [hk1] at HT HX y0
      rw [hk1]
      clear hk1
      have HY := hidLL (And.intro y0 (And.intro y1 (And.intro y2 (And.intro y3 (And.intro y4 (And.intro y5 (And.intro y6 (And.intro y7 (And.intro y8 y9)))))))))
      clear y2 y3 y4 y5 y6 y7 y8 y9
      go_enter Tryz.func18, Tryz.ntmps18
      go_upto_region 1 with fail
      rw [← HX.out]
      go_wp2_with fail
      refine HLb.out.mono ?_
      rintro e w1 ⟨⟨pa, pc, rfl, hst, hpc⟩, hb1⟩
      have hbw1 := HB0.out.trans (hb1.mono HB0.out.size)
      have HFd := hidLL (find_a (pc := pc) (H0.out.on hbw1) HF.out hst HPl.out)
      have HB1 := hidLL hbw1
      have HYb := hidLL hb1
      clear hst hpc hb1 hbw1 y0 y1
      go_wp2_with fail
      refine HFd.out.mono ?_
      rintro e w2 ⟨hfi, hb2⟩
      have HB2 := hidLL (HB1.out.trans (hb2.mono HB1.out.size))
      have hbW : Below WB.heap.size WB w2 := HYb.out.trans (hb2.mono HYb.out.size)
      have c4 : ∀ q c u, WB.cell? ⟨q, c, none⟩ = some u → w2.cell? ⟨q, c, none⟩ = some u := fun q c u hc => (hbW.cell (p := ⟨q, c, none⟩) (cell_lt hc)).trans hc
      obtain ⟨q0, q1, q2, q3, q4, q5, q6, q7, q8, q9⟩ := HY.out
      have z0 := c4 _ _ _ q0
      have z1 := c4 _ _ _ q1
      have z2 := c4 _ _ _ q2
      have z3 := c4 _ _ _ q3
      have z4 := c4 _ _ _ q4
      have z5 := c4 _ _ _ q5
      have z6 := c4 _ _ _ q6
      have z7 := c4 _ _ _ q7
      have z8 := c4 _ _ _ q8
      have z9 := c4 _ _ _ q9
      clear hbW c4 HFd HYb HY q0 q1 q2 q3 q4 q5 q6 q7 q8 q9
      unfold FindO at hfi
      cases hq : findW t (partsB op.path) with
      | none =>
        rw [hq] at hfi
        have hfi : e = _ := hfi
        subst hfi
        have HO := hidLL (HR1.out hq)
        clear hq hb2 z0 z1 z2 z3 z4 z5 z6 z7 z8 z9
        have e1 : w2.cell? ⟨4, 0, none⟩ = some (.iface 214 (.pointer (some (p 4)))) := (HEn.out _ (HB2.out.mono hB)).L.cell 4 (by omega)
        go_wp2
        go_ret
        rw [HO.out]
        exact ⟨by omega, EO.err 4 (by omega), HB2.out.mono hB⟩
      | some x =>
        rw [hq] at hfi
        obtain ⟨b1, o1, S1, v1, rfl, hf⟩ := hfi
        have hf := hf.on (by have := H0.out.lt; have := HB1.out.size; omega) hb2
        have HF1 := hidLL hf
        have HQ := hidLL (HR2.out x hq)
        have HTx := hidLL (HT.out w2 HB2.out x b1 o1 S1 v1 hf)
        clear hq hb2 hf HR1 HR2 HT HLb
        go_wp2_with fail
        refine HTx.out.mono ?_
        rintro e w3 hch
        obtain ⟨v3, rfl⟩ := hch.ret
        have HC := hidLL hch
        clear hch z0 z1 z2 z3 z4 z5 z6 z7 z8 z9
        go_wp2
        go_ret
        rw [HQ.out]
        exact HF1.out.textDone H0.out hB HB2.out HC.out
  · have HR := hidLL (HO.out.2.2.1 hk)
    rw [hk] at HKP HX y0
    clear HO HKR HKL HKM HLb
    rw [hk]
    clear hk
    go_enter Tryz.func18, Tryz.ntmps18
    go_upto_region 1 with fail
    rw [← HX.out]
    go_wp2_with fail
    refine HKP.out.mono ?_
    rintro e w2 hch
    obtain ⟨v2, rfl⟩ := hch.ret
    have HC := hidLL hch
    clear hch
    go_wp2
    go_ret
    rw [HR.out]
    exact HAf.out _ _ _ HC.out
  · have HR := hidLL (HO.out.2.2.2.1 hk)
    rw [hk] at HKR HX y0
    clear HO HKP HKL HKM HLb
    rw [hk]
    clear hk
    go_enter Tryz.func18, Tryz.ntmps18
    go_upto_region 1 with fail
    rw [← HX.out]
    go_wp2_with fail
    refine HKR.out.mono ?_
    rintro e w2 hch
    obtain ⟨v2, rfl⟩ := hch.ret
    have HC := hidLL hch
    clear hch
    go_wp2
    go_ret
    rw [HR.out]
    exact HAf.out _ _ _ HC.out
  · have HR := hidLL (HO.out.2.2.2.2.1 hk)
    rw [hk] at HKL HX y0
    clear HO HKP HKR HKM HLb
    rw [hk]
    clear hk
    go_enter Tryz.func18, Tryz.ntmps18
    go_upto_region 1 with fail
    rw [← HX.out]
    go_wp2_with fail
    refine HKL.out.mono ?_
    rintro e w2 hch
    obtain ⟨v2, rfl⟩ := hch.ret
    have HC := hidLL hch
    clear hch
    go_wp2
    go_ret
    rw [HR.out]
    exact HAf.out _ _ _ HC.out
  · have HR := hidLL (HO.out.2.2.2.2.2.1 hk)
    rw [hk] at HKM HX y0
    clear HO HKP HKR HKL HLb
    rw [hk]
    clear hk
    go_enter Tryz.func18, Tryz.ntmps18
    go_upto_region 1 with fail
    rw [← HX.out]
    go_wp2_with fail
    refine HKM.out.mono ?_
    rintro e w2 hch
    obtain ⟨v2, rfl⟩ := hch.ret
    have HC := hidLL hch
    clear hch
    go_wp2
    go_ret
    rw [HR.out]
    exact HAf.out _ _ _ HC.out
  · have HR := hidLL (HO.out.2.2.2.2.2.2 hk)
    have k1 : ¬ op.kind = 1 := by omega
    have k2 : ¬ op.kind = 2 := by omega
    have k3 : ¬ op.kind = 3 := by omega
    have k4 : ¬ op.kind = 4 := by omega
    have k5 : ¬ op.kind = 5 := by omega
    have k6 : ¬ op.kind = 6 := by omega
    have k7 : ¬ op.kind = 7 := by omega
    have k8 : ¬ op.kind = 8 := by omega
    have k9 : ¬ op.kind = 9 := by omega
    have e1 : WB.cell? ⟨8, 0, none⟩ = some (.iface 214 (.pointer (some (p 8)))) := (HEn.out _ (HB0.out.mono hB)).L.cell 8 (by omega)
    clear HO HKP HKR HKL HKM HLb hk
    generalize op.kind = kind at *
    go_enter Tryz.func18, Tryz.ntmps18
    go_upto_region 1 with fail
    rw [← HX.out]
    go_wp2
    go_ret
    rw [HR.out]
    exact ⟨by omega, EO.err 8 (by omega), HB0.out.mono hB⟩
end Go.Proofs.YtpbolcjcmkmalaaGreatDoor
