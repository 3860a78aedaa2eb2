/-
  The reference's each (written by tools/genfr.py).
-/
import Derived.Test.YtcfeflkhmncmjaaGreatDoorFrT2
import Derived.Test.YtcfeflkhmncmjaaGreatDoorFrA
import Derived.Deep.RegionHeld3
namespace Go.Proofs.YtcfeflkhmncmjaaGreatDoor
open Go.RowKit

/-- A look at another one. -/
theorem RLk.new {w : World} {bf : Nat} {o on known : Int} : RLk (w.alloc (.cells #[.pointer (some ⟨bf, 0, none⟩), .int .i64 o, .int .i64 on, .int .i64 known, .slice none 0 0, .slice none 0 0, .slice none 0 0, .int .i64 4] 37)) w.heap.size bf o on known := by
  have hbk := Go.Deep.blk_alloc_new w (.cells #[.pointer (some ⟨bf, 0, none⟩), .int .i64 o, .int .i64 on, .int .i64 known, .slice none 0 0, .slice none 0 0, .slice none 0 0, .int .i64 4] 37)
  refine ⟨?_, ?_, ?_, ?_, ?_, ?_, ?_, ?_⟩
  · rw [cell_of_row _ _ 0 _ _ _ hbk]; rfl
  · rw [cell_of_row _ _ 1 _ _ _ hbk]; rfl
  · rw [cell_of_row _ _ 2 _ _ _ hbk]; rfl
  · rw [cell_of_row _ _ 3 _ _ _ hbk]; rfl
  · rw [cell_of_row _ _ 4 _ _ _ hbk]; rfl
  · rw [cell_of_row _ _ 5 _ _ _ hbk]; rfl
  · rw [cell_of_row _ _ 6 _ _ _ hbk]; rfl
  · rw [cell_of_row _ _ 7 _ _ _ hbk]; rfl
set_option maxHeartbeats 2000000 in
set_option maxRecDepth 20000 in
theorem each_r {L : List Fct} {on known : Int} {t : Tr} (hk : t.kd = .some ∨ t.kd = .every) (h1 : t.kids.length = 1) (hw : isWordB t.word = true) (hl5 : L.length ≤ 500) (ih : ∀ (i : Nat) (u : Tr), t.kids[i]? = some u → TruthIs L on known 10 u) : TruthIs L on known 25 t := by
  intro w bk bf who ka kc hf hl hn
  obtain ⟨W, hW⟩ : ∃ W, W = w.alloc (.cells #[.string t.kind, .string t.word, .int .i64 t.num, .slice ka t.kids.length kc] 25) := ⟨_, rfl⟩
  obtain ⟨ab, hab⟩ : ∃ ab, ab = w.heap.size := ⟨_, rfl⟩
  have HS : Hid (RS w W ab bk bf L who on known t ka kc) := by rw [hab]; exact RS.mk0 hf hl hn hW
  have n0 := HS.out.n0
  have n1 := HS.out.n1
  have n3 := HS.out.n3
  have l0 := HS.out.lk.l0
  have l1 := HS.out.lk.l1
  have l2 := HS.out.lk.l2
  have l3 := HS.out.lk.l3
  have HW := hidLL (And.intro hW hab)
  have q0 := kq_every t.kind
  have hkd : t.kd = kdOf t.kind := rfl
  have hlen := hn.lens.1
  clear hf hl hn hW hab
  obtain ⟨a, hab⟩ := one_len h1
  have ha : t.kids[0]? = some a := by rw [hab]; rfl
  obtain ⟨g, o, ka0, kc0, rfl, a0, a1, a2, a3, har⟩ := HS.out.nr.kid ha
  simp only [Nat.zero_mul, Nat.add_zero] at a0 a1 a2 a3
  rw [h1] at n3
  have HL1 := hidLL h1
  have HR := hidLL har
  have HAB := hidLL ha
  have HI := hidLL ih
  rw [ev_each hk hab hw]
  have HO : Hid (∀ V, Below W.heap.size W V → _) := fun V h => (HS.out.step h).others hl5 who t.word
  have ho4 := others_len L who t.word on known
  rw [show (envOf L on known).oth who t.word = othersL L who t.word on known from rfl]
  generalize othersL L who t.word on known = OS at *
  obtain ⟨RL, hRL⟩ : ∃ RL, RL = OS.map fun o => ev (envOf L on known) a o false := ⟨_, rfl⟩
  rw [← hRL]
  have HRL := hidLL hRL
  have HK := hidLL hk
  clear ih har hab h1 ha hlen hk hw hRL
  go_enter Tryz.func25, Tryz.ntmps25
  go_upto_region 1 with fail
  rw [← HW.out.1, ← HW.out.2]
  go_cut [6] (fun x wx => ∃ sa sn sc, x = .slice sa sn sc ∧ sn = OS.length ∧ RS w wx ab bk bf L who on known t (some ⟨g, o, none⟩) kc ∧ IRead wx (.slice sa sn sc) OS ∧ Below W.heap.size W wx)
  case first =>
    go_region_held3 (fun V => V.cell? ⟨bk, 0, none⟩ = some (.pointer (some ⟨bf, 0, none⟩)) ∧ V.cell? ⟨bk, 1, none⟩ = some (.int .i64 who) ∧ V.cell? ⟨bk, 2, none⟩ = some (.int .i64 on) ∧ V.cell? ⟨bk, 3, none⟩ = some (.int .i64 known) ∧ V.cell? ⟨ab, 1, none⟩ = some (.string t.word)) (first | go_keep | exact ⟨z0, z1, z2, z3, z4⟩) ((go_simp; go_at_call 31; refine (HO.out _ ?_).mono ?_; (· first | exact (Below.refl _ W).drew | exact (bdrewN (Below.refl _ W) _).drew | exact bdrewN (Below.refl _ W) _); rintro e W3 ⟨sa, sn, sc, rfl, hsn, _, hrd, hb3, hs3⟩; (have HSn := hidLL hsn); (have HS3 := hidLL hs3); (have HS4 := hidLL (And.intro hrd ((Below.refl _ W).drew.trans hb3))); (have z0 := HS3.out.lk.l0); (have z1 := HS3.out.lk.l1); (have z2 := HS3.out.lk.l2); (have z3 := HS3.out.lk.l3); (have z4 := HS3.out.n1); clear hs3 hsn hrd hb3))
    all_goals (go_wp2_with fail; go_meet; exact ⟨sa, sn, sc, rfl, HSn.out, HS3.out, HS4.out⟩)
  case rest =>
    obtain ⟨sa, sn, sc, rfl, hsn, hs3, hr3, hb3⟩ := hcut
    have HS3 := hidLL (And.intro hs3 (And.intro hr3 hb3))
    have HSn := hidLL hsn
    have hs4 : sn ≤ 40 := by omega
    have HA4 := hidLL (And.intro a0 (And.intro a1 (And.intro a2 a3)))
    clear hsn ho4 HO hs3 hr3 hb3 n0 n1 n3 l0 l1 l2 l3 a0 a1 a2 a3
    go_wp2_with fail
    go_loopw [7, 8] (fun s i wr => ∃ (j m : Nat), j ≤ sn ∧ m ≤ j ∧ i = .int .i64 j ∧ s = .int .i64 m ∧ firstE (RL.take j) = none ∧ m = ones (RL.take j) ∧ RS w wr ab bk bf L who on known t (some ⟨g, o, none⟩) kc ∧ IRead wr (.slice sa sn sc) OS ∧ Below W.heap.size W wr) (fun _ i _ => sn - (RowKit.intOf i).toNat)
    case atStart => exact ⟨0, 0, by omega, by omega, rfl, rfl, rfl, rfl, HS3.out⟩
    case round =>
      obtain ⟨j, m, hj, hmj, rfl, rfl, hf, hm, hs5, hr5, hb5⟩ := hrel
      have HF := hidLL (And.intro hf hm)
      have HT5 := hidLL (And.intro hs5 (And.intro hr5 hb5))
      clear hf hm hs5 hr5 hb5
      by_cases hlt : j < sn
      · have hjz : (j : Int) < sn := by omega
        obtain ⟨x, hx⟩ : ∃ x, OS[j]? = some x := ⟨_, List.getElem?_eq_getElem (by have := HSn.out; omega)⟩
        obtain ⟨g2, rfl, p0⟩ := HT5.out.2.1.at hx
        have HX : Hid (RL[j]? = some (ev (envOf L on known) a x false)) := by
          show _ = _
          rw [HRL.out, List.getElem?_map, hx]
          rfl
        obtain ⟨W5, hW5⟩ : ∃ W5, W5 = (wr.alloc (.cells #[.pointer (some ⟨bf, 0, none⟩), .int .i64 x, .int .i64 on, .int .i64 known, .slice none 0 0, .slice none 0 0, .slice none 0 0, .int .i64 4] 37)).drew := ⟨_, rfl⟩
        have hbw : Below wr.heap.size wr W5 := by rw [hW5]; exact ((Below.refl _ _).alloc (Nat.le_refl _) _).drew
        have HS5 := hidLL (HT5.out.1.step hbw)
        have HKp : Hid (W5.cell? ⟨bk, 0, none⟩ = some (.pointer (some ⟨bf, 0, none⟩)) ∧ W5.cell? ⟨bk, 2, none⟩ = some (.int .i64 on) ∧ W5.cell? ⟨bk, 3, none⟩ = some (.int .i64 known) ∧ W5.cell? ⟨bk, 4, none⟩ = some (.slice none 0 0) ∧ W5.cell? ⟨bk, 5, none⟩ = some (.slice none 0 0) ∧ W5.cell? ⟨bk, 6, none⟩ = some (.slice none 0 0) ∧ W5.cell? ⟨bk, 7, none⟩ = some (.int .i64 4) ∧ W5.cell? ⟨g2, j, none⟩ = some (.int .i64 x)) := ⟨HS5.out.lk.l0, HS5.out.lk.l2, HS5.out.lk.l3, HS5.out.lk.l4, HS5.out.lk.l5, HS5.out.lk.l6, HS5.out.lk.l7, (hbw.cell (p := ⟨g2, j, none⟩) (cell_lt p0)).trans p0⟩
        rw [hW5] at HKp
        have hbA : Below W.heap.size W W5 := HT5.out.2.2.trans (hbw.mono HT5.out.2.2.size)
        have x0 := (hbA.cell (p := ⟨g, o, none⟩) (cell_lt HA4.out.1)).trans HA4.out.1
        have x1 := (hbA.cell (p := ⟨g, o + 1, none⟩) (cell_lt HA4.out.1)).trans HA4.out.2.1
        have x2 := (hbA.cell (p := ⟨g, o + 2, none⟩) (cell_lt HA4.out.1)).trans HA4.out.2.2.1
        have x3 := (hbA.cell (p := ⟨g, o + 3, none⟩) (cell_lt HA4.out.1)).trans HA4.out.2.2.2
        have y3 := HS5.out.n3
        rw [HL1.out] at y3
        have HNl : Hid (RLk W5 wr.heap.size bf x on known) := by rw [hW5]; exact RLk.new.step (Below.refl _ _).drew
        have HRW := hidLL (HR.out.step hbA)
        have HC2 : Hid (∀ w2, Below W5.heap.size W5 w2 → RS w w2 ab bk bf L who on known t (some ⟨g, o, none⟩) kc ∧ IRead w2 (.slice (some ⟨g2, 0, none⟩) sn sc) OS ∧ Below W.heap.size W w2) := fun w2 h => ⟨HS5.out.step h, HT5.out.2.1.bel (hbw.trans (h.mono hbw.size)), hbA.trans (h.mono hbA.size)⟩
        have l0 := HT5.out.1.lk.l0
        have l2 := HT5.out.1.lk.l2
        have l3 := HT5.out.1.lk.l3
        have l4 := HT5.out.1.lk.l4
        have l5 := HT5.out.1.lk.l5
        have l6 := HT5.out.1.lk.l6
        have l7 := HT5.out.1.lk.l7
        have HW5 := hidLL hW5
        clear hx hW5 hbw hbA
        cases hea : ev (envOf L on known) a x false with
        | err c =>
          have HA := hidLL ((HI.out 0 a HAB.out).err HS5.out.fl HNl.out HRW.out hea)
          have hcz := ev_errz hea
          rw [hea] at HX
          clear hea
          go_wp2_with fail
          go_region_held3 (fun V => V.cell? ⟨bk, 0, none⟩ = some (.pointer (some ⟨bf, 0, none⟩)) ∧ V.cell? ⟨bk, 2, none⟩ = some (.int .i64 on) ∧ V.cell? ⟨bk, 3, none⟩ = some (.int .i64 known) ∧ V.cell? ⟨bk, 4, none⟩ = some (.slice none 0 0) ∧ V.cell? ⟨bk, 5, none⟩ = some (.slice none 0 0) ∧ V.cell? ⟨bk, 6, none⟩ = some (.slice none 0 0) ∧ V.cell? ⟨bk, 7, none⟩ = some (.int .i64 4) ∧ V.cell? ⟨g2, j, none⟩ = some (.int .i64 x)) (first | go_keep | exact HKp.out) (fail)
          rw [← HW5.out]
          go_wp2_with (go_at_call 10; refine HA.out.mono ?_; rintro e w2 ⟨rfl, hb2⟩; (have HS2 := hidLL (HC2.out w2 hb2)); clear hb2)
          go_ret2
          exact ⟨by unfold eachR; rw [firstE_at RL j c HF.out.1 HX.out]; rfl, HS2.out.1.bel⟩
        | ok v =>
          obtain ⟨bx, rfl⟩ := bit_b (ev_bit' hea)
          have HA := hidLL ((HI.out 0 a HAB.out).ok HS5.out.fl HNl.out HRW.out hea)
          rw [hea] at HX
          have HF2 : Hid (firstE (RL.take (j + 1)) = none ∧ ones (RL.take (j + 1)) = m + if bx then 1 else 0) := by
            show _ ∧ _
            rw [List.take_add_one, HX.out]
            refine ⟨firstE_snoc _ _ HF.out.1, ?_⟩
            show ones (RL.take j ++ [.ok (trI bx)]) = _
            rw [ones_snoc, ← HF.out.2]
            cases bx <;> rfl
          clear hea
          cases bx with
          | false =>
            go_wp2_with fail
            go_region_held3 (fun V => V.cell? ⟨bk, 0, none⟩ = some (.pointer (some ⟨bf, 0, none⟩)) ∧ V.cell? ⟨bk, 2, none⟩ = some (.int .i64 on) ∧ V.cell? ⟨bk, 3, none⟩ = some (.int .i64 known) ∧ V.cell? ⟨bk, 4, none⟩ = some (.slice none 0 0) ∧ V.cell? ⟨bk, 5, none⟩ = some (.slice none 0 0) ∧ V.cell? ⟨bk, 6, none⟩ = some (.slice none 0 0) ∧ V.cell? ⟨bk, 7, none⟩ = some (.int .i64 4) ∧ V.cell? ⟨g2, j, none⟩ = some (.int .i64 x)) (first | go_keep | exact HKp.out) (fail)
            rw [← HW5.out]
            go_wp2_with (go_at_call 10; refine HA.out.mono ?_; rintro e w2 ⟨rfl, hb2⟩; (have HS2 := hidLL (HC2.out w2 hb2)); clear hb2)
            go_roundw
            case rel => exact ⟨j + 1, m, by omega, by omega, by simp, rfl, HF2.out.1, by rw [HF2.out.2]; rfl, HS2.out⟩
            case measure => simp [RowKit.intOf]; omega
          | true =>
            go_wp2_with fail
            go_region_held3 (fun V => V.cell? ⟨bk, 0, none⟩ = some (.pointer (some ⟨bf, 0, none⟩)) ∧ V.cell? ⟨bk, 2, none⟩ = some (.int .i64 on) ∧ V.cell? ⟨bk, 3, none⟩ = some (.int .i64 known) ∧ V.cell? ⟨bk, 4, none⟩ = some (.slice none 0 0) ∧ V.cell? ⟨bk, 5, none⟩ = some (.slice none 0 0) ∧ V.cell? ⟨bk, 6, none⟩ = some (.slice none 0 0) ∧ V.cell? ⟨bk, 7, none⟩ = some (.int .i64 4) ∧ V.cell? ⟨g2, j, none⟩ = some (.int .i64 x)) (first | go_keep | exact HKp.out) (fail)
            rw [← HW5.out]
            go_wp2_with (go_at_call 10; refine HA.out.mono ?_; rintro e w2 ⟨rfl, hb2⟩; (have HS2 := hidLL (HC2.out w2 hb2)); clear hb2)
            go_roundw
            case rel => exact ⟨j + 1, m + 1, by omega, by omega, by simp, by simp, HF2.out.1, by rw [HF2.out.2]; rfl, HS2.out⟩
            case measure => simp [RowKit.intOf]; omega
      · have hjz : ¬ (j : Int) < sn := by omega
        have HFin : Hid (firstE RL = none ∧ m = ones RL ∧ sn = RL.length) := by
          have h9 : RL.length = sn := by rw [HRL.out, List.length_map]; exact HSn.out.symm
          have := HF.out
          rw [List.take_of_length_le (by omega)] at this
          exact ⟨this.1, this.2, h9.symm⟩
        have HB5 := hidLL HT5.out.1.bel
        have n0 := HT5.out.1.n0
        rcases HK.out with hk | hk
        · rw [← hkd, hk] at q0
          simp only [reduceCtorEq, decide_false] at q0
          have HE : Hid (resT (eachR t.kd RL) = .tuple #[.bool (decide (0 < m)), .int .i64 0]) := by
            show _ = _
            unfold eachR
            rw [HFin.out.1, hk, ← HFin.out.2.1]
            by_cases h : 0 < m <;> simp [h, resT, trI]
          clear hk hkd hlt
          by_cases h0 : 0 < m
          · have hz : (0 : Int) < m := by omega
            rw [decide_eq_true h0] at HE
            go_wp2
            go_ret2
            exact ⟨by rw [HE.out]; rfl, HB5.out⟩
          · obtain rfl : m = 0 := by omega
            go_wp2
            go_ret2
            exact ⟨by rw [HE.out]; rfl, HB5.out⟩
        · rw [← hkd, hk] at q0
          simp only [decide_true] at q0
          have HE : Hid (resT (eachR t.kd RL) = .tuple #[.bool (decide (m = sn)), .int .i64 0]) := by
            show _ = _
            unfold eachR
            rw [HFin.out.1, hk, ← HFin.out.2.1, ← HFin.out.2.2]
            by_cases h : m = sn <;> simp [h, resT, trI]
          clear hk hkd hlt
          by_cases h0 : m = sn
          · have hz : ((m : Int) == (sn : Int)) = true := by rw [h0]; simp
            rw [decide_eq_true h0] at HE
            clear h0
            go_wp2
            go_ret2
            exact ⟨by rw [HE.out]; first | rfl | simp [hz], HB5.out⟩
          · have hz : ((m : Int) == (sn : Int)) = false := by rw [beq_eq_false_iff_ne]; omega
            rw [decide_eq_false h0] at HE
            clear h0
            go_wp2
            go_ret2
            exact ⟨by rw [HE.out]; first | rfl | simp [hz], HB5.out⟩
end Go.Proofs.YtcfeflkhmncmjaaGreatDoor
