/-
  Duties: Next (the program); SameStates (the reference).
-/
import Derived.Test.YtkaeolcchhneoaaGreatDoorDuP7
import Derived.Test.YtkaeolcchhneoaaGreatDoorDuG3
namespace Go.Proofs.YtkaeolcchhneoaaGreatDoor
open Go.RowKit Go.Sort Go.Lib

theorem nxtD_cons (on : Int) (d : Du) (l : List Du) (m : Int) : nxtD on (d :: l) m = nxtD on l (if on < d.frm then min m d.frm else m) := rfl
theorem nxtS_cons (s : St) (l : List St) (m : Int) : nxtS (s :: l) m = nxtS l (if s.st = 0 then min m (s.d.til + 1) else m) := rfl
def NxtR (p : Nat → Addr) (F : Du → DR) (l : List Du) (ev : List Ev) (on : Int) (e : Ending) : Prop :=
  match statesK F l ev on with
  | some k => e = .returned (.tuple #[.int .i64 0, .iface 173 (.pointer (some (p k)))])
  | none => e = .returned (.tuple #[.int .i64 (if nextL (insD F) ev on l ≤ 3652059 then nextL (insD F) ev on l else 0), .nilIface])
set_option maxHeartbeats 4000000 in
theorem next_p {B n c m cc : Nat} {a aa ca : Option Addr} {l : List Du} {ev : List Ev} {F : Du → DR} {p : Nat → Addr} {on : Int} {w : World} (h : RdG duE w B (.slice a n c) l) (hB : B ≤ w.heap.size) (hl : ∀ d, d ∈ l → -1000000000 ≤ d.frm ∧ d.frm ≤ 1000000000 ∨ statesK F l ev on ≠ none) (hon : statesK F l ev on = none → 1 ≤ on)
    (hT : ∀ s, s ∈ statesL (insD F) ev on l → -1000000000 ≤ s.d.til ∧ s.d.til ≤ 1000000000 ∨ statesK F l ev on ≠ none)
    (hS : Calls Tryz.prog 7 #[.slice a n c, .slice aa m cc, .pointer ca, .int .i64 on] w fun e w' => StsR p F l ev on e w' ∧ Below w.heap.size w w') :
    Calls Tryz.prog 10 #[.slice a n c, .slice aa m cc, .pointer ca, .int .i64 on] w fun e w' => NxtR p F l ev on e ∧ Below w.heap.size w w' := by
  have HS := hidIt hS
  clear hS
  unfold StsR at HS
  unfold NxtR
  cases hk : statesK F l ev on with
  | some k =>
    rw [hk] at HS
    clear h hl hT hon hk
    go_enter Tryz.func10, Tryz.ntmps10
    go_wp2_with fail
    refine HS.out.mono ?_
    rintro e w1 ⟨he, hb⟩
    have he : e = _ := he
    subst he
    have HB := hidIt hb
    clear hb
    go_wp2
    go_ret2
    exact ⟨rfl, HB.out⟩
  | none =>
    rw [hk] at HS hl hT
    have hon1 := hon hk
    obtain ⟨hn, hnb⟩ := h.len
    have HR := hidIt (And.intro h hn)
    have HL := hidIt (fun d hd => (hl d hd).resolve_right (fun h => h rfl))
    have HT := hidIt (fun s hs => (hT s hs).resolve_right (fun h => h rfl))
    obtain ⟨A, hA⟩ : ∃ A, A = statesL (insD F) ev on l := ⟨_, rfl⟩
    obtain ⟨R, hR⟩ : ∃ R, R = nextL (insD F) ev on l := ⟨_, rfl⟩
    have HN : Hid (nxtS A (nxtD on l 3652060) = R) := by show _ = _; rw [hR, hA]; rfl
    have HB0 : Hid (R ≤ 3652060 ∧ 1 ≤ R) := by
      have h1 := nxtD_spec on l 3652060
      have h2 := nxtS_spec A (nxtD on l 3652060)
      rw [HN.out] at h2
      refine ⟨by omega, ?_⟩
      by_cases hle : R ≤ 3652059
      · have := (next_moved (ins := insD F) (ev := ev) (on := on) (l := l) (by rw [← hR]; exact hle)).1
        rw [← hR] at this
        omega
      · omega
    rw [← hA] at HS HT
    rw [← hR]
    obtain ⟨Z, hZ⟩ : ∃ Z, Z = (if R ≤ 3652059 then R else 0) := ⟨_, rfl⟩
    rw [← hZ]
    have HZ := hidIt hZ
    clear h hn hl hT hk hA hR hon hZ
    have HDy := hidIt (fun n w => isDay_any n w)
    go_enter Tryz.func10, Tryz.ntmps10
    go_wp2_with fail
    refine HS.out.mono ?_
    rintro e w1 ⟨⟨ra, rn, rc, he, hr⟩, hb⟩
    subst he
    obtain ⟨hrn, hrb⟩ := hr.len
    have HRA := hidIt (And.intro hr hrn)
    have HB := hidIt hb
    clear hb hr hrn
    go_wp2_with fail
    go_loopw [12, 30] (fun t12 t30 wr => ∃ (i : Nat) (x : Int), i ≤ n ∧ t12 = .int .i64 x ∧ t30 = .int .i64 i ∧ nxtD on (l.drop i) x = nxtD on l 3652060 ∧ -1000000000 ≤ x ∧ x ≤ 1000000000 ∧ Below w1.heap.size w1 wr) (fun _ t30 _ => n - (RowKit.intOf t30).toNat)
    case atStart => exact ⟨0, 3652060, by omega, rfl, rfl, rfl, by omega, by omega, Below.refl _ _⟩
    case round =>
      obtain ⟨i, x, hi, rfl, rfl, hN, hx1, hx2, hb⟩ := hrel
      have HN1 := hidIt hN
      have HB1 := hidIt hb
      clear hN hb
      by_cases hlt : i < n
      · have c0 : decide ((i : Int) < n) = true := by simp; omega
        obtain ⟨d, he, hdr⟩ := get_in (l := l) (i := i) (by have := HR.out.2; omega)
        obtain ⟨ga, o, rfl, hg, hrg⟩ := HR.out.1.at he
        obtain ⟨e0, e1, e2, e3, e4, e5, e6, e7⟩ := du_cells (range_bel hrg ((HB.out.trans (HB1.out.mono HB.out.size)).mono hB) hg)
        have hk : duE.k = 8 := rfl
        rw [hk] at e0 e1 e2 e3 e4 e5 e6 e7
        have hiz : (i : Int) < n := by omega
        obtain ⟨t1, t2⟩ := HL.out d (List.mem_of_getElem? he)
        rw [hdr, nxtD_cons] at HN1
        obtain ⟨dn, dw, df, dt, de, dN, dU, dR⟩ := d
        simp only at e0 e1 e2 e3 e4 e5 e6 e7 t1 t2
        have HBe : Hid (∀ ob, Below w1.heap.size w1 (wr.alloc ob)) := fun ob => HB1.out.trans ((bel1 _ _).mono HB1.out.size)
        clear hrg he hg hk hdr
        by_cases hc : on < df
        · have HN2 : Hid (nxtD on (l.drop (i + 1)) (min x df) = nxtD on l 3652060) := by
            have := HN1.out
            rw [if_pos hc] at this
            exact this
          by_cases hmin : x ≤ df
          · rw [Int.min_eq_left hmin] at HN2
            go_wp2
            all_goals exact ⟨⟨i + 1, x, by omega, by first | rfl | (rw [Int.min_eq_left hmin]), by go_num, HN2.out, hx1, hx2, HBe.out _⟩, by simp [RowKit.intOf]; omega⟩
          · rw [Int.min_eq_right (by omega)] at HN2
            go_wp2
            all_goals exact ⟨⟨i + 1, df, by omega, by first | rfl | (rw [Int.min_eq_right (by omega)]), by go_num, HN2.out, t1, t2, HBe.out _⟩, by simp [RowKit.intOf]; omega⟩
        · have HN2 : Hid (nxtD on (l.drop (i + 1)) x = nxtD on l 3652060) := by
            have := HN1.out
            rw [if_neg hc] at this
            exact this
          go_wp2
          exact ⟨⟨i + 1, x, by omega, rfl, by go_num, HN2.out, hx1, hx2, HBe.out _⟩, by simp [RowKit.intOf]; omega⟩
      · have c0 : decide ((i : Int) < n) = false := by simp; omega
        have hxx : x = nxtD on l 3652060 := by
          have := HN1.out
          rw [List.drop_eq_nil_of_le (by have := HR.out.2; omega)] at this
          exact this
        rw [← hxx] at HN
        clear hxx
        go_wp2_with fail
        go_loopw [12, 45] (fun t12 t45 wr => ∃ (i : Nat) (x : Int), i ≤ rn ∧ t12 = .int .i64 x ∧ t45 = .int .i64 i ∧ nxtS (A.drop i) x = R ∧ -1000000000 ≤ x ∧ x ≤ 1000000001 ∧ Below w1.heap.size w1 wr) (fun _ t45 _ => rn - (RowKit.intOf t45).toNat)
        case atStart => exact ⟨0, x, by omega, rfl, rfl, HN.out, by omega, by omega, HB1.out⟩
        case round =>
          obtain ⟨i, x, hi, rfl, rfl, hN, hx1, hx2, hb⟩ := hrel
          have HN1 := hidIt hN
          have HB1 := hidIt hb
          clear hN hb
          by_cases hlt : i < rn
          · have c0 : decide ((i : Int) < rn) = true := by simp; omega
            obtain ⟨s, he, hdr⟩ := get_in (l := A) (i := i) (by have := HRA.out.2; omega)
            obtain ⟨gs, os, rfl, hg, hrg⟩ := HRA.out.1.at he
            have hrg2 := range_bel hrg HB1.out hg
            obtain ⟨hsd, s8, s9, s10⟩ := st_cells hrg2
            obtain ⟨d0, d1, d2, d3, d4, d5, d6, d7⟩ := du_cells hsd
            have hk : stE.k = 11 := rfl
            rw [hk] at s8 s9 s10 d0 d1 d2 d3 d4 d5 d6 d7
            have hiz : (i : Int) < rn := by omega
            obtain ⟨t1, t2⟩ := HT.out s (List.mem_of_getElem? he)
            rw [hdr, nxtS_cons] at HN1
            obtain ⟨⟨sn, sw, sf, st, se, sN, sU, sR⟩, sst, sdy, sof⟩ := s
            simp only at s8 s9 s10 d0 d1 d2 d3 d4 d5 d6 d7 t1 t2
            have HBe : Hid (∀ ob, Below w1.heap.size w1 (wr.alloc ob)) := fun ob => HB1.out.trans ((bel1 _ _).mono HB1.out.size)
            clear hrg hrg2 he hg hk hdr hsd
            by_cases hc : sst = 0
            · subst hc
              have HN2 : Hid (nxtS (A.drop (i + 1)) (min x (st + 1)) = R) := HN1.out
              by_cases hmin : x ≤ st + 1
              · rw [Int.min_eq_left hmin] at HN2
                go_wp2
                all_goals exact ⟨⟨i + 1, x, by omega, by first | rfl | (rw [Int.min_eq_left hmin]), by go_num, HN2.out, hx1, hx2, HBe.out _⟩, by simp [RowKit.intOf]; omega⟩
              · rw [Int.min_eq_right (by omega)] at HN2
                go_wp2
                all_goals exact ⟨⟨i + 1, st + 1, by omega, by first | rfl | (rw [Int.min_eq_right (by omega)]), by go_num, HN2.out, by omega, by omega, HBe.out _⟩, by simp [RowKit.intOf]; omega⟩
            · have hc2 : (sst == 0) = false := by simp [hc]
              have HN2 : Hid (nxtS (A.drop (i + 1)) x = R) := by
                have := HN1.out
                rw [if_neg hc] at this
                exact this
              go_wp2
              exact ⟨⟨i + 1, x, by omega, rfl, by go_num, HN2.out, hx1, hx2, HBe.out _⟩, by simp [RowKit.intOf]; omega⟩
          · have c0 : decide ((i : Int) < rn) = false := by simp; omega
            have hxx : x = R := by
              have := HN1.out
              rw [List.drop_eq_nil_of_le (by have := HRA.out.2; omega)] at this
              exact this
            subst hxx
            have HDx := hidIt (fun w => HDy.out x w)
            have HBz := hidIt (HB.out.trans (HB1.out.mono HB.out.size))
            obtain ⟨b1, b2⟩ := HB0.out
            by_cases hle : x ≤ 3652059
            · have hd : isDayB x = true := isDayB_iff.2 ⟨b2, hle⟩
              rw [hd] at HDx
              have HZ2 : Hid (Z = x) := HZ.out.trans (if_pos hle)
              clear hd
              go_wp2_with fail
              refine (HDx.out _).mono ?_
              rintro e w9 ⟨rfl, ew⟩
              subst w9
              go_wp2
              go_ret2
              exact ⟨by rw [HZ2.out]; rfl, HBz.out⟩
            · have hd : isDayB x = false := by
                cases hb : isDayB x with
                | false => rfl
                | true => exact absurd (isDayB_iff.1 hb).2 hle
              rw [hd] at HDx
              have HZ2 : Hid (Z = 0) := HZ.out.trans (if_neg hle)
              clear hd
              go_wp2_with fail
              refine (HDx.out _).mono ?_
              rintro e w9 ⟨rfl, ew⟩
              subst w9
              go_wp2
              go_ret2
              exact ⟨by rw [HZ2.out]; rfl, HBz.out⟩
set_option maxHeartbeats 4000000 in
theorem sameR_p {B1 B2 n1 c1 n2 c2 : Nat} {a1 a2 : Option Addr} {A C : List St} {w : World} (h1 : RdG stE w B1 (.slice a1 n1 c1) A) (h2 : RdG stE w B2 (.slice a2 n2 c2) C) :
    Calls Tryz.prog 15 #[.slice a1 n1 c1, .slice a2 n2 c2] w fun e w' => e = .returned (.bool (decide (A = C))) ∧ ∃ q, w' = w.drewN q := by
  obtain ⟨hn1, hb1⟩ := h1.len
  obtain ⟨hn2, hb2⟩ := h2.len
  have H1 := hidIt (And.intro h1 hn1)
  have H2 := hidIt (And.intro h2 hn2)
  clear h1 h2
  by_cases hne : n1 = n2
  · subst hne
    have hnn : ((n1 : Int) != (n1 : Int)) = false := by simp
    have hlen : A.length = C.length := by omega
    clear hn1 hn2
    go_enter Tryz.func15, Tryz.ntmps15
    go_wp2_with fail
    go_loopw [5] (fun t wr => ∃ i q : Nat, i ≤ n1 ∧ t = .int .i64 i ∧ A.take i = C.take i ∧ wr = w.drewN q) (fun t _ => n1 - (RowKit.intOf t).toNat)
    case atStart => exact ⟨0, 0, by omega, rfl, rfl, rfl⟩
    case round =>
      obtain ⟨i, q, hi, rfl, hT, rfl⟩ := hrel
      have HT := hidIt hT
      clear hT
      by_cases hlt : i < n1
      · have c0 : decide ((i : Int) < n1) = true := by simp; omega
        obtain ⟨s, hs, _⟩ := get_in (l := A) (i := i) (by have := H1.out.2; omega)
        obtain ⟨t, ht, _⟩ := get_in (l := C) (i := i) (by have := H2.out.2; omega)
        obtain ⟨gs, os, rfl, _, hrs⟩ := H1.out.1.at hs
        obtain ⟨gt, ot, rfl, _, hrt⟩ := H2.out.1.at ht
        obtain ⟨hsd, s8, s9, s10⟩ := st_cells hrs
        obtain ⟨d0, d1, d2, d3, d4, d5, d6, d7⟩ := du_cells hsd
        obtain ⟨htd, t8, t9, t10⟩ := st_cells hrt
        obtain ⟨x0, x1, x2, x3, x4, x5, x6, x7⟩ := du_cells htd
        have hk : stE.k = 11 := rfl
        rw [hk] at s8 s9 s10 d0 d1 d2 d3 d4 d5 d6 d7 t8 t9 t10 x0 x1 x2 x3 x4 x5 x6 x7
        have hiz : (i : Int) < n1 := by omega
        have HA : Hid (A.take (i + 1) = A.take i ++ [s]) := by show _ = _; rw [List.take_add_one, hs]; rfl
        have HCt : Hid (C.take (i + 1) = C.take i ++ [t]) := by show _ = _; rw [List.take_add_one, ht]; rfl
        have HNe : Hid (s ≠ t → A ≠ C) := fun h e => h (by rw [e] at hs; rw [hs] at ht; exact Option.some.inj ht)
        have hEq := fun W => req_state s t W
        obtain ⟨⟨sn, sw, sf, st, se, sN, sU, sR⟩, sst, sdy, sof⟩ := s
        obtain ⟨⟨tn, tw, tf, tt, te, tN, tU, tR⟩, tst, tdy, tof⟩ := t
        simp only at s8 s9 s10 d0 d1 d2 d3 d4 d5 d6 d7 t8 t9 t10 x0 x1 x2 x3 x4 x5 x6 x7
        have hEq2 : ∀ W : World, (Op.equalIn 10000 81 (.agg #[.string sn, .string sw, .int .i64 sf, .int .i64 st, .string se, .int .i64 sN, .int .i64 sU, .int .i64 sR, .int .i64 sst, .int .i64 sdy, .int .i64 sof]) (.agg #[.string tn, .string tw, .int .i64 tf, .int .i64 tt, .string te, .int .i64 tN, .int .i64 tU, .int .i64 tR, .int .i64 tst, .int .i64 tdy, .int .i64 tof])).run Tryz.prog W = .ok (decide ((⟨⟨sn, sw, sf, st, se, sN, sU, sR⟩, sst, sdy, sof⟩ : St) = ⟨⟨tn, tw, tf, tt, te, tN, tU, tR⟩, tst, tdy, tof⟩)) W := hEq
        clear hEq hrs hrt hsd htd hs ht hk
        by_cases he : (⟨⟨sn, sw, sf, st, se, sN, sU, sR⟩, sst, sdy, sof⟩ : St) = ⟨⟨tn, tw, tf, tt, te, tN, tU, tR⟩, tst, tdy, tof⟩
        · rw [decide_eq_true he] at hEq2
          have HT2 : Hid (A.take (i + 1) = C.take (i + 1)) := by show _ = _; rw [HA.out, HCt.out, HT.out, he]
          clear he
          go_wp2_with fail
          go_quiet (fail)
          go_wp2
          exact ⟨⟨i + 1, _, by omega, by go_num, HT2.out, rfl⟩, by simp [RowKit.intOf]; omega⟩
        · rw [decide_eq_false he] at hEq2
          have HF : Hid (decide (A = C) = false) := decide_eq_false (HNe.out he)
          clear he
          go_wp2_with fail
          go_quiet (fail)
          go_wp2
          go_ret
          exact ⟨retB HF.out.symm, _, World.drewN_drewN ..⟩
      · have c0 : decide ((i : Int) < n1) = false := by simp; omega
        have HE : Hid (decide (A = C) = true) := by
          refine decide_eq_true ?_
          have := HT.out
          rwa [List.take_of_length_le (by have := H1.out.2; omega), List.take_of_length_le (by have := H2.out.2; omega)] at this
        go_wp2
        go_ret
        exact ⟨retB HE.out.symm, _, rfl⟩
  · have HF : Hid (decide (A = C) = false) := decide_eq_false fun e => hne (by rw [hn1, hn2, e])
    have hnn : ((n1 : Int) != (n2 : Int)) = true := by simp; omega
    clear hn1 hn2
    go_enter Tryz.func15, Tryz.ntmps15
    go_wp2
    go_ret
    exact ⟨retB HF.out.symm, 0, rfl⟩
end Go.Proofs.YtkaeolcchhneoaaGreatDoor
