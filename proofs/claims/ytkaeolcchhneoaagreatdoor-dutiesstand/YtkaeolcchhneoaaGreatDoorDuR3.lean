/-
  Duties, the reference: StatesOf (written by tools/gendur3.py).
-/
import Derived.Test.YtkaeolcchhneoaaGreatDoorDuR1
import Derived.Test.YtkaeolcchhneoaaGreatDoorDuP7
import Derived.Test.YtkaeolcchhneoaaGreatDoorAgrG
namespace Go.Proofs.YtkaeolcchhneoaaGreatDoor
open Go.RowKit Go.Sort Go.Lib

theorem Tryz.infoRS : ∃ i z, Tryz.prog.info? 81 = some i ∧ i.zero = some z ∧ i.size = 11 ∧ i.bytes = 112 ∧ z.cells.size = 11 := by
  have h : (Tryz.prog.info? 81).map (fun i => (i.zero, i.size, i.bytes)) = some (some (.agg #[.string ⟨#[]⟩, .string ⟨#[]⟩, .int .i64 0, .int .i64 0, .string ⟨#[]⟩, .int .i64 0, .int .i64 0, .int .i64 0, .int .i64 0, .int .i64 0, .int .i64 0]), 11, 112) := by kernel_rfl
  obtain ⟨i, h1, h2⟩ := Option.map_eq_some_iff.1 h
  simp only [Prod.mk.injEq] at h2
  exact ⟨i, _, h1, h2.1, h2.2.1, h2.2.2, rfl⟩
theorem stP_of {ev : List Ev} {on : Int} {d : Du} {st dy : Int} (of : Int) (h : stP ev on d (-1) = ⟨d, st, dy, -1⟩) : stP ev on d of = ⟨d, st, dy, of⟩ := by
  unfold stP stOf at *
  (repeat' split at h) <;> (repeat' split) <;> first
    | (injection h with h1 h2 h3 h4; subst h2 h3; rfl)
    | contradiction
theorem oth_take {ins : Du → Du} {ev : List Ev} {on : Int} {A : List St} {i : Nat} {s : St} (h : A[i]? = some s) : othL ins ev on (A.take (i + 1)) 0 = othL ins ev on (A.take i) 0 ++ (if isBad s = true then [stP ev on (ins s.d) (i : Int)] else []) := by
  have hi : i < A.length := (List.getElem?_eq_some_iff.1 h).1
  rw [List.take_add_one, h]
  show othL ins ev on (A.take i ++ [s]) 0 = _
  rw [oth_app, Nat.zero_add, List.length_take, Nat.min_eq_left (by omega)]
/-- Of what is valid each term comes to a day. -/
theorem insK_all {F : Du → DR} : ∀ {l : List Du}, insK F l = none → ∀ d, d ∈ l → ¬ d.els = ByteArray.empty → ∃ x, F d = .ok x
  | [], _, d, hd, _ => (nomatch hd)
  | e :: l, h, d, hd, hn => by
    rw [insK] at h
    split at h
    · rename_i he
      rcases List.mem_cons.1 hd with rfl | hd
      · exact absurd he hn
      · exact insK_all h d hd hn
    · cases hF : F e with
      | ok x =>
        rw [hF] at h
        rcases List.mem_cons.1 hd with rfl | hd
        · exact ⟨x, hF⟩
        · exact insK_all h d hd hn
      | er k => rw [hF] at h; cases h
set_option maxHeartbeats 8000000 in
set_option maxRecDepth 10000 in
theorem rStates_p {B n c m cc bb : Nat} {a aa : Option Addr} {vv : Value} {l : List Du} {ev : List Ev} {on : Int} {F : Du → DR} {off : Int → Bool} {xs : List Int} {w : World} (h : RdG duE w B (.slice a n c) l) (he : RdG evE w B (.slice aa m cc) ev) (hB : B ≤ w.heap.size) (hC : Cal w bb off xs vv) (hF : ∀ d, RDue off xs (d.til + 1) d.n d.u d.r (F d)) (hx : ∀ d x, F d = .ok x → 1 ≤ x) (hn2 : n ≤ 200) (hon : on ≤ 3652059) (hd : ∀ d, d ∈ l → 1 ≤ d.frm ∧ 1 ≤ d.til ∧ d.til ≤ 3652059) (hK : insK F l = none) :
    Calls Tryz.prog 13 #[.slice a n c, .slice aa m cc, .pointer (some ⟨bb, 0, none⟩), .int .i64 on] w fun e w' => (∃ a' n' c', e = .returned (.slice a' n' c') ∧ RdG stE w' w'.heap.size (.slice a' n' c') (statesL (insD F) ev on l)) ∧ Below w.heap.size w w' := by
  obtain ⟨hn, hnb⟩ := h.len
  have HR := hidIt (And.intro h hn)
  have HD := hidIt hd
  have HS : Hid (∀ (d : Du) W, Below w.heap.size w W → -1000000000 ≤ d.frm → -1000000000 ≤ d.til → Calls Tryz.prog 25 #[.agg (duE.f d).toArray, .slice aa m cc, .int .i64 on] W fun e w' => e = .returned (.agg (stE.f (stP ev on d (-1))).toArray) ∧ Below W.heap.size W w') := fun d W hW h1 h2 => rState_p d on (he.below (hW.mono hB)) (Nat.le_trans hB hW.size) (by omega) h1 h2
  have HDue : Hid (∀ d W, Below w.heap.size w W → Calls Tryz.prog 23 #[.pointer (some ⟨bb, 0, none⟩), .int .i64 (d.til + 1), .agg #[.int .i64 d.n, .int .i64 d.u, .int .i64 d.r]] W fun e w' => e = .returned ((F d).ref) ∧ Below W.heap.size W w') := fun d W hW => hF d bb vv W (hC.below hW)
  have HK := hidIt (insK_all hK)
  have HXx := hidIt hx
  clear h hn hd he hC hF hx hK
  go_enter Tryz.func13, Tryz.ntmps13
  go_wp2_with fail
  go_loopw [9, 10] (fun t9 t10 wr => ∃ i : Nat, i ≤ n ∧ t10 = .int .i64 i ∧ RowG stE 81 wr w.heap.size t9 (ownL ev on (l.take i)) ∧ Below w.heap.size w wr) (fun _ t10 _ => n - (RowKit.intOf t10).toNat)
  case atStart => exact ⟨0, by omega, rfl, RowG.nil _ _, Below.refl _ _⟩
  case round =>
    obtain ⟨i, hi, rfl, hrow, hb⟩ := hrel
    obtain ⟨sa, sn0, sc, rfl, hsn⟩ := hrow.any3
    have hl7 := own_len ev on (l.take i)
    rw [List.length_take] at hl7
    have hl2 : (ownL ev on (l.take i)).length ≤ 200 := by omega
    have HRow := hidIt hrow
    have HB := hidIt hb
    have HSn := hidIt hsn
    have hsz := hb.size
    clear hrow hb hsn hl7
    by_cases hlt : i < n
    · have c0 : decide ((i : Int) < n) = true := by simp; omega
      obtain ⟨d, he, _⟩ := get_in (l := l) (i := i) (by have := HR.out.2; omega)
      obtain ⟨ga, o, rfl, hg, hrg⟩ := HR.out.1.at he
      obtain ⟨e0, e1, e2, e3, e4, e5, e6, e7⟩ := du_cells (range_bel hrg (HB.out.mono hB) hg)
      have hk : duE.k = 8 := rfl
      rw [hk] at e0 e1 e2 e3 e4 e5 e6 e7
      have hiz : (i : Int) < n := by omega
      have HTk := hidIt (own_take (ev := ev) (on := on) he)
      have hdd := HD.out d (List.mem_of_getElem? he)
      obtain ⟨st1, dy1, hS⟩ := stP_form ev on d (-1)
      have HS1 := hidIt (fun W hW => HS.out d W hW (by omega) (by omega))
      rw [hS] at HS1 HTk
      obtain ⟨dn, dw, df, dt, de, dN, dU, dR⟩ := d
      simp only at e0 e1 e2 e3 e4 e5 e6 e7
      have HS2 : Hid (∀ W, Below w.heap.size w W → Calls Tryz.prog 25 #[.agg #[.string dn, .string dw, .int .i64 df, .int .i64 dt, .string de, .int .i64 dN, .int .i64 dU, .int .i64 dR], .slice aa m cc, .int .i64 on] W fun e w' => e = .returned (.agg #[.string dn, .string dw, .int .i64 df, .int .i64 dt, .string de, .int .i64 dN, .int .i64 dU, .int .i64 dR, .int .i64 st1, .int .i64 dy1, .int .i64 (-1)]) ∧ Below W.heap.size W w') := HS1.out
      clear hrg he hg hk hdd hS HS1
      by_cases hd : df ≤ on
      · go_wp2_with fail
        refine (HS2.out _ HB.out).mono ?_
        rintro e w2 ⟨rfl, hb2⟩
        have HB2 := hidIt hb2
        have hsz2 := hb2.size
        clear hb2
        go_wp2_with (at_builtin; refine wpList_push_g (E := stE) Tryz.infoRS (by decide) Tryz.underlying47 rfl (.tmp 31) (.tmp 39) rfl w.heap.size (.slice sa sn0 sc) (ownL ev on (l.take i)) ⟨⟨dn, dw, df, dt, de, dN, dU, dR⟩, st1, dy1, -1⟩ _ rfl rfl (HRow.out.below HB2.out) (by first | (simp [Act.eval]; done) | simp [Act.eval, Act.put]) (by omega) (by omega) ?_; intro v' w5 hr5 hb5 _ _; obtain ⟨pa5, pn5, pc5, rfl, hp5⟩ := hr5.any3; have HR5 := hidIt hr5; have HP5 := hidIt hp5; have HB5 := hidIt ((HB.out.trans (HB2.out.mono HB.out.size)).trans (hb5.mono (Nat.le_refl _))); clear hr5 hb5 hp5)
        refine ⟨⟨i + 1, by omega, by go_num, ?_, HB5.out⟩, by simp [RowKit.intOf]; omega⟩
        rw [HTk.out, if_pos hd]
        exact HR5.out
      · go_wp2
        refine ⟨⟨i + 1, by omega, by go_num, ?_, HB.out⟩, by simp [RowKit.intOf]; omega⟩
        rw [HTk.out, if_neg hd]
        exact HRow.out
    · have c0 : decide ((i : Int) < n) = false := by simp; omega
      have hT : l.take i = l := List.take_of_length_le (by have := HR.out.2; omega)
      rw [hT] at HRow HSn hl2
      have HMem : Hid (∀ s, s ∈ ownL ev on l → ∃ d, d ∈ l ∧ s = stP ev on d (-1)) := fun s hs => by
        obtain ⟨d, h1, _, h2⟩ := mem_ownL.1 hs
        exact ⟨d, h1, h2⟩
      have HST : Hid (statesL (insD F) ev on l = ownL ev on l ++ othL (insD F) ev on (ownL ev on l) 0) := rfl
      clear hT
      generalize ownL ev on l = A at *
      go_wp2_with fail
      go_loopw [9, 12] (fun t9 t12 wr => ∃ i : Nat, i ≤ sn0 ∧ t12 = .int .i64 i ∧ RowG stE 81 wr w.heap.size t9 (A ++ othL (insD F) ev on (A.take i) 0) ∧ Below w.heap.size w wr) (fun _ t12 _ => sn0 - (RowKit.intOf t12).toNat)
      case atStart => exact ⟨0, by omega, rfl, by rw [show A.take 0 = [] from rfl, othL, List.append_nil]; exact HRow.out, HB.out⟩
      case round =>
        obtain ⟨i, hi, rfl, hrow, hb⟩ := hrel
        have hlo := oth_len (insD F) ev on (A.take i) 0
        rw [List.length_take] at hlo
        have hla : (A ++ othL (insD F) ev on (A.take i) 0).length ≤ 400 := by rw [List.length_append]; omega
        obtain ⟨ta, tn, tc, rfl, htn⟩ := hrow.any3
        have htn2 : sn0 ≤ tn := by rw [htn, List.length_append]; have := HSn.out; omega
        have htn3 : tn ≤ 400 := by omega
        have HRow2 := hidIt hrow
        have HB2 := hidIt hb
        have HTn := hidIt htn
        have hsz := hb.size
        clear hrow hb htn hlo
        by_cases hlt : i < sn0
        · have c0 : decide ((i : Int) < sn0) = true := by simp; omega
          obtain ⟨s, hs, _⟩ := get_in (l := A) (i := i) (by have := HSn.out; omega)
          have hs2 : (A ++ othL (insD F) ev on (A.take i) 0)[i]? = some s := by rw [List.getElem?_append_left (by have := HSn.out; omega)]; exact hs
          obtain ⟨gs, os, rfl, _, hrg⟩ := HRow2.out.rd.at hs2
          obtain ⟨hsd, s8, s9, s10⟩ := st_cells hrg
          obtain ⟨d0, d1, d2, d3, d4, d5, d6, d7⟩ := du_cells hsd
          have hk : stE.k = 11 := rfl
          rw [hk] at s8 s9 s10 d0 d1 d2 d3 d4 d5 d6 d7
          have hiz : (i : Int) < sn0 := by omega
          have hizt : (i : Int) < tn := by omega
          have HOt := hidIt (oth_take (ins := insD F) (ev := ev) (on := on) hs)
          obtain ⟨d, hdl, hsp⟩ := HMem.out s (List.mem_of_getElem? hs)
          have hdd := HD.out d hdl
          have hsd2 : s.d = d := by rw [hsp]; exact (stP_d ..).1
          have HBt : Hid (isBad s = true → d.til < on) := fun hb => by
            rw [hsp] at hb
            have hb2 : ¬ (stP ev on d (-1)).d.els = ByteArray.empty ∧ ((stP ev on d (-1)).st = 3 ∨ (stP ev on d (-1)).st = 2) := by simpa [isBad] using hb
            exact bad_til hb2.2
          have HFd := hidIt (fun hn => HK.out d hdl hn)
          have HDd := hidIt (HDue.out d)
          rw [← hsd2] at HBt HFd HDd hdd
          clear hsp hdl hsd2 d hrg hsd hs hs2 hk
          obtain ⟨⟨sn, sw, sf, st, se, sN, sU, sR⟩, sst, sdy, sof⟩ := s
          simp only at s8 s9 s10 d0 d1 d2 d3 d4 d5 d6 d7 hdd
          obtain ⟨hd1, hd2, hd3⟩ := hdd
          by_cases hbad : isBad ⟨⟨sn, sw, sf, st, se, sN, sU, sR⟩, sst, sdy, sof⟩ = true
          · have hb' : ¬ se = ByteArray.empty ∧ (sst = 3 ∨ sst = 2) := by simpa [isBad] using hbad
            obtain ⟨hde, hst⟩ := hb'
            obtain ⟨n1, n2⟩ := els_ne hde
            obtain ⟨x, hFx⟩ := HFd.out hde
            have hx1 := HXx.out _ x hFx
            have htil : ¬ on ≤ st := by have : st < on := HBt.out hbad; omega
            have HJ := hidIt (insD_ok hFx)
            rw [if_pos hbad] at HOt
            have HOt2 : Hid (othL (insD F) ev on (A.take (i + 1)) 0 = othL (insD F) ev on (A.take i) 0 ++ [stP ev on (insD F ⟨sn, sw, sf, st, se, sN, sU, sR⟩) (i : Int)]) := HOt.out
            rw [HJ.out] at HOt2
            have HDd2 : Hid (∀ W, Below w.heap.size w W → Calls Tryz.prog 23 #[.pointer (some ⟨bb, 0, none⟩), .int .i64 (st + 1), .agg #[.int .i64 sN, .int .i64 sU, .int .i64 sR]] W fun e w' => e = .returned (.tuple #[.int .i64 x, .int .i64 0]) ∧ Below W.heap.size W w') := fun W hW => by
              have := HDd.out W hW
              rw [hFx] at this
              exact this
            have HSj := hidIt (fun W hW => HS.out ⟨se, sw, st + 1, x, ByteArray.empty, 0, 0, 0⟩ W hW (by show _ ≤ st + 1; omega) (by show _ ≤ x; omega))
            obtain ⟨st1, dy1, hS⟩ := stP_form ev on ⟨se, sw, st + 1, x, ByteArray.empty, 0, 0, 0⟩ (-1)
            rw [hS] at HSj
            have HSj2 : Hid (∀ W, Below w.heap.size w W → Calls Tryz.prog 25 #[.agg #[.string se, .string sw, .int .i64 (st + 1), .int .i64 x, .string ⟨#[]⟩, .int .i64 0, .int .i64 0, .int .i64 0], .slice aa m cc, .int .i64 on] W fun e w' => e = .returned (.agg #[.string se, .string sw, .int .i64 (st + 1), .int .i64 x, .string ⟨#[]⟩, .int .i64 0, .int .i64 0, .int .i64 0, .int .i64 st1, .int .i64 dy1, .int .i64 (-1)]) ∧ Below W.heap.size W w') := HSj.out
            have HOt3 : Hid (othL (insD F) ev on (A.take (i + 1)) 0 = othL (insD F) ev on (A.take i) 0 ++ [⟨⟨se, sw, st + 1, x, ⟨#[]⟩, 0, 0, 0⟩, st1, dy1, (i : Int)⟩]) := by
              have := HOt2.out
              rw [stP_of (i : Int) hS] at this
              exact this
            clear hFx hbad HOt HOt2 HJ hS HSj HDd
            have hb0 : ∀ ob : Obj, (wr.alloc ob).rangeAt wr.heap.size 0 [] := fun ob j u hu => by simp at hu
            clear hb0
            have HCell : Hid (∀ (T : Nat) (W : World), Below (wr.alloc (.cells #[.string sn, .string sw, .int .i64 sf, .int .i64 st, .string se, .int .i64 sN, .int .i64 sU, .int .i64 sR] T)).heap.size (wr.alloc (.cells #[.string sn, .string sw, .int .i64 sf, .int .i64 st, .string se, .int .i64 sN, .int .i64 sU, .int .i64 sR] T)) W → W.rangeAt wr.heap.size 0 (duE.f ⟨sn, sw, sf, st, se, sN, sU, sR⟩)) := fun T W hW => range_bel (alloc_range wr (duE.f ⟨sn, sw, sf, st, se, sN, sU, sR⟩) T) hW (by simp)
            have HRw : Hid (∀ W, Below wr.heap.size wr W → W.cell? ⟨gs, os + i * 11 + 8, none⟩ = some (.int .i64 sst)) := fun W hW => (hW.cell (p := ⟨gs, os + i * 11 + 8, none⟩) (cell_lt s8)).trans s8
            have z8 : ∀ ob : Obj, (wr.alloc ob).cell? ⟨gs, os + i * 11 + 8, none⟩ = some (.int .i64 sst) := fun ob => HRw.out _ (bel1 wr ob)
            rcases hst with rfl | rfl
            all_goals
              go_wp2_with fail
              refine (HDd2.out _ (HB2.out.trans ((bel1 _ _).mono HB2.out.size))).mono ?_
              rintro e w3 ⟨rfl, hb3⟩
              have HB3 := hidIt ((bel1 wr _).trans (hb3.mono (bel1 wr _).size))
              obtain ⟨y0, y1, y2, y3, y4, y5, y6, y7⟩ := du_cells0 (HCell.out _ _ hb3)
              simp only at y0 y1 y2 y3 y4 y5 y6 y7
              clear hb3
              go_wp2_with fail
              refine (HSj2.out _ (HB2.out.trans (HB3.out.mono HB2.out.size))).mono ?_
              rintro e w4 ⟨rfl, hb4⟩
              have HB4 := hidIt (HB3.out.trans (hb4.mono HB3.out.size))
              have hs4 := HB4.out.size
              clear hb4
              go_wp2_with (at_builtin; refine wpList_push_g (E := stE) Tryz.infoRS (by decide) Tryz.underlying47 rfl (.tmp 104) (.tmp 106) rfl w.heap.size (.slice (some ⟨gs, os, none⟩) tn tc) (A ++ othL (insD F) ev on (A.take i) 0) ⟨⟨se, sw, st + 1, x, ⟨#[]⟩, 0, 0, 0⟩, st1, dy1, (i : Int)⟩ _ rfl rfl ((HRow2.out.below HB4.out).below (bel1 _ _)) (by first | (simp [Act.eval]; done) | simp [Act.eval, Act.put]) (by first | omega | (simp; omega)) (by omega) ?_; intro v' w5 hr5 hb5 _ _; obtain ⟨pa5, pn5, pc5, rfl, hp5⟩ := hr5.any3; have HR5 := hidIt hr5; have HP5 := hidIt hp5; have HB5 := hidIt ((HB2.out.trans (HB4.out.mono HB2.out.size)).trans (((bel1 w4 _).mono (by omega)).trans (hb5.mono (Nat.le_refl _)))); clear hr5 hb5 hp5)
              refine ⟨⟨i + 1, by omega, by go_num, ?_, HB5.out⟩, by simp [RowKit.intOf]; omega⟩
              rw [HOt3.out, ← List.append_assoc]
              exact HR5.out
          · have HOt2 : Hid (othL (insD F) ev on (A.take (i + 1)) 0 = othL (insD F) ev on (A.take i) 0) := by
              have := HOt.out
              rw [if_neg hbad, List.append_nil] at this
              exact this
            have HRw : Hid (∀ W, Below wr.heap.size wr W → W.cell? ⟨gs, os + i * 11 + 8, none⟩ = some (.int .i64 sst)) := fun W hW => (hW.cell (p := ⟨gs, os + i * 11 + 8, none⟩) (cell_lt s8)).trans s8
            have z8 : ∀ ob : Obj, (wr.alloc ob).cell? ⟨gs, os + i * 11 + 8, none⟩ = some (.int .i64 sst) := fun ob => HRw.out _ (bel1 wr ob)
            have HEnd : Hid (∀ ob, RowG stE 81 (wr.alloc ob) w.heap.size (.slice (some ⟨gs, os, none⟩) tn tc) (A ++ othL (insD F) ev on (A.take (i + 1)) 0) ∧ Below w.heap.size w (wr.alloc ob)) := fun ob => by
              rw [HOt2.out]
              exact ⟨HRow2.out.below (bel1 wr ob), HB2.out.trans ((bel1 _ _).mono HB2.out.size)⟩
            clear HRw
            by_cases hst : sst = 3 ∨ sst = 2
            · have hde : se = ByteArray.empty := Classical.byContradiction fun hne => hbad (by rcases hst with rfl | rfl <;> simp [isBad, hne])
              subst hde
              clear hbad
              rcases hst with rfl | rfl
              all_goals
                go_wp2
                exact ⟨⟨i + 1, by omega, by go_num, (HEnd.out _).1, (HEnd.out _).2⟩, by simp [RowKit.intOf]; omega⟩
            · have b3 : (sst == 3) = false := by simp; omega
              have b2 : (sst == 2) = false := by simp; omega
              clear hbad hst
              go_wp2
              exact ⟨⟨i + 1, by omega, by go_num, (HEnd.out _).1, (HEnd.out _).2⟩, by simp [RowKit.intOf]; omega⟩
        · have c0 : decide ((i : Int) < sn0) = false := by simp; omega
          have HTA : Hid (A.take i = A) := List.take_of_length_le (by have := HSn.out; omega)
          rw [HTA.out] at HRow2
          go_wp2
          go_ret
          refine ⟨⟨ta, tn, tc, rfl, ?_⟩, HB2.out⟩
          rw [HST.out]
          exact HRow2.out.rd
end Go.Proofs.YtkaeolcchhneoaaGreatDoor
