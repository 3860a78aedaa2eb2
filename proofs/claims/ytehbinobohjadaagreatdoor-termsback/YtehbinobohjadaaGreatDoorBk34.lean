/-
  The program's writer: tokens joined to a line (written by tools/genwrj.py).
-/
import Derived.Test.YtehbinobohjadaaGreatDoorBk33
namespace Go.Proofs.YtehbinobohjadaaGreatDoor
open Go.RowKit Go.Sort Go.Extern.Stop Go.Stop Go.Extern

/-- Tokens behind one another, with a blank where it is asked. -/
def joinB (ap : ByteArray → ByteArray → Bool) : ByteArray → List ByteArray → List UInt8
  | _, [] => []
  | p, x :: l => (if p.size = 0 then [] else if ap p x = true then [32] else []) ++ (x.data.toList ++ joinB ap x l)
theorem join_step {ap : ByteArray → ByteArray → Bool} {l : List ByteArray} {j : Nat} {x : ByteArray} (h : l[j]? = some x) (p : ByteArray) : joinB ap p (l.drop j) = (if p.size = 0 then [] else if ap p x = true then [32] else []) ++ (x.data.toList ++ joinB ap x (l.drop (j + 1))) := by
  obtain ⟨hlt, he⟩ := List.getElem?_eq_some_iff.1 h
  rw [List.drop_eq_getElem_cons hlt, he]
  rfl
theorem RdG.st {w : World} {B : Nat} {a : Option Addr} {n c : Nat} {l : List ByteArray} (h : RdG stE w B (.slice a n c) l) {j : Nat} {s : ByteArray} (hj : l[j]? = some s) : ∃ g o, a = some ⟨g, o, none⟩ ∧ g < B ∧ w.cell? ⟨g, o + j, none⟩ = some (.string s) := by
  obtain ⟨g, o, e, hg, hr⟩ := h.at hj
  refine ⟨g, o, e, hg, ?_⟩
  have := hr 0 _ rfl
  simpa [stE] using this
set_option maxHeartbeats 4000000 in
theorem joinE_q {w : World} {wp : Nat} {s : WS} (h : WR w wp s) (hne : ∀ x, x ∈ s.ts → 0 < x.size) (h1 : s.ts ≠ []) (hz : (joinB apE ⟨#[]⟩ s.ts).length ≤ 1000000) :
    Calls Tryz.prog 54 #[.pointer (some ⟨wp, 0, none⟩), .func (.func 51) #[] #[]] w fun e w' => e = .returned (.string ⟨(joinB apE ⟨#[]⟩ s.ts).toArray⟩) ∧ Below w.heap.size w w' := by
  obtain ⟨a, m, c, c0, _, _, _, hrow, _⟩ := h.cells
  have hrd := hrow.rd
  obtain ⟨hm, hm48⟩ := hrd.len
  have hb0 : Below w.heap.size w (w.alloc (.cells #[.pointer none, .slice none 0 0] 130)) := (Below.refl _ _).alloc (Nat.le_refl _) _
  have hpg : Pg w.heap.size w.heap.size [] (w.alloc (.cells #[.pointer none, .slice none 0 0] 130)) := bld_new (Nat.le_refl _) hb0.size (heap_alloc_new _ _)
  have c0' := (hb0.cell (p := ⟨wp, 0, none⟩) h.in).trans c0
  obtain ⟨W0, hW0⟩ : ∃ W0, W0 = w.alloc (.cells #[.pointer none, .slice none 0 0] 130) := ⟨_, rfl⟩
  rw [← hW0] at hb0 hpg c0'
  have HW := hidLL hW0
  have HB0 := hidLL hb0
  have HP0 := hidLL hpg
  have HRd := hidLL hrd
  have HM := hidLL hm
  have HNe := hidLL hne
  have hT0 : joinB apE ⟨#[]⟩ s.ts ≠ [] := by
    match hs : s.ts with
    | [] => exact absurd hs h1
    | x :: l =>
      have := hne x (by rw [hs]; simp)
      intro e
      have e2 := congrArg List.length e
      simp only [joinB, List.length_append, List.length_nil, bl_len] at e2
      omega
  obtain ⟨T, hT⟩ : ∃ T, T = joinB apE ⟨#[]⟩ s.ts := ⟨_, rfl⟩
  rw [← hT] at hz hT0 ⊢
  have HT := hidLL hT
  have HT0 := hidLL hT0
  have HZ := hidLL hz
  obtain ⟨bb, hbb⟩ : ∃ bb, bb = w.heap.size := ⟨_, rfl⟩
  have HBB := hidLL hbb
  clear hT hW0 hb0 hpg hrd hm hne hT0 hz h h1 hrow c0
  go_enter Tryz.func54, Tryz.ntmps54
  go_upto_region 2 with fail
  rw [← HW.out, ← hbb]
  rw [← hbb] at HP0
  clear hbb
  go_wp2_with fail
  go_loopw [6, 14] (fun pv iv wr => ∃ (j : Nat) (p : ByteArray) (bs : List UInt8), j ≤ m ∧ iv = .int .i64 j ∧ pv = .string p ∧ T = bs ++ joinB apE p (s.ts.drop j) ∧ Pg w.heap.size bb bs wr ∧ Below w.heap.size w wr) (fun _ iv _ => (m - RowKit.intOf iv).toNat)
  case atStart => exact ⟨0, ⟨#[]⟩, [], by omega, rfl, rfl, HT.out, by rw [HBB.out] at HP0 ⊢; exact HP0.out, HB0.out⟩
  case round =>
    obtain ⟨j, p, bs, hj, rfl, rfl, ht, hp, hb⟩ := hrel
    have HJ := hidLL ht
    have HP := hidLL hp
    have HB := hidLL hb
    have HL : Hid (bs.length ≤ 1000000) := by
      have e := congrArg List.length ht
      have := HZ.out
      show _ ≤ _
      simp only [List.length_append] at e
      omega
    clear ht hp hb
    by_cases hin : j < m
    · have hjz : (j : Int) < m := by omega
      obtain ⟨x, hx⟩ : ∃ x, s.ts[j]? = some x := ⟨_, List.getElem?_eq_getElem (by have := HM.out; omega)⟩
      have hx0 := HNe.out x (List.mem_of_getElem? hx)
      obtain ⟨g, o, hoa, hg, cx⟩ := (HRd.out.below HB.out).st hx
      have HK := hidLL (HJ.out.trans (congrArg (bs ++ ·) (join_step hx p)))
      have HZx : Hid (bs.length + (1 + x.size) ≤ 3000000) := by
        have e := congrArg List.length HK.out
        have := HZ.out
        have := HL.out
        show _ ≤ _
        simp only [List.length_append, bl_len] at e
        omega
      subst hoa
      clear HJ hx
      by_cases hp0 : p.size = 0
      · have he : p.toList.isEmpty = true := by rw [Lib.toList_data, List.isEmpty_iff]; exact List.eq_nil_of_length_eq_zero (by rw [bl_len]; exact hp0)
        have HK2 : Hid (T = (bs ++ x.data.toList) ++ joinB apE x (s.ts.drop (j + 1))) := by show _ = _; rw [HK.out, if_pos hp0]; simp
        clear HK hp0
        go_wp2_with (go_at_call 100; refine (ws_any _ _ _ _ _ HP.out (by have := HZx.out; omega)).mono ?_; rintro e W2 ⟨rfl, hp2, hs2⟩; (have HP2 := hidLL hp2); (have HS2 := hidLL hs2.bel); clear hp2 hs2)
        go_roundw
        case rel => exact ⟨j + 1, x, _, by omega, by go_num, rfl, HK2.out, HP2.out, HB.out.trans HS2.out⟩
        case measure => simp [RowKit.intOf]; omega
      · have he : p.toList.isEmpty = false := by
          rw [Lib.toList_data]
          match hd : p.data.toList with
          | [] => exact absurd (by rw [← bl_len, hd]; rfl) hp0
          | _ :: _ => rfl
        have HA := hidLL (fun w => isEasierApart_q p x w)
        rw [if_neg hp0] at HK
        cases hap : apE p x
        · rw [hap] at HA HK
          have HK2 : Hid (T = (bs ++ x.data.toList) ++ joinB apE x (s.ts.drop (j + 1))) := by show _ = _; rw [HK.out]; simp
          clear HK hp0 hap
          go_wp2_with (first | (go_at_call 51; refine (HA.out _).mono ?_; rintro e w' ⟨rfl, h9⟩; subst w') | (go_at_call 100; refine (ws_any _ _ _ _ _ HP.out (by have := HZx.out; omega)).mono ?_; rintro e W2 ⟨rfl, hp2, hs2⟩; (have HP2 := hidLL hp2); (have HS2 := hidLL hs2.bel); clear hp2 hs2))
          go_roundw
          case rel => exact ⟨j + 1, x, _, by omega, by go_num, rfl, HK2.out, HP2.out, HB.out.trans HS2.out⟩
          case measure => simp [RowKit.intOf]; omega
        · rw [hap] at HA HK
          have HK2 : Hid (T = ((bs ++ [32]) ++ x.data.toList) ++ joinB apE x (s.ts.drop (j + 1))) := by show _ = _; rw [HK.out]; simp
          clear HK hp0 hap
          go_wp2_with (first | (go_at_call 51; refine (HA.out _).mono ?_; rintro e w' ⟨rfl, h9⟩; subst w') | (go_at_call 100; revert HP2; intro HP2; refine (ws_any _ _ _ _ _ HP2.out (by have := HZx.out; simp only [List.length_append, List.length_cons, List.length_nil]; omega)).mono ?_; rintro e W3 ⟨rfl, hp2, hs2⟩; (have HP3 := hidLL hp2); (have HS3 := hidLL hs2.bel); clear hp2 hs2) | (go_at_call 100; refine (ws_any _ _ _ (⟨#[32]⟩ : ByteArray) _ HP.out (by have := HZx.out; show _ + 1 ≤ _; omega)).mono ?_; rintro e W2 ⟨rfl, hp2, hs2⟩; (have HP2 := hidLL hp2); (have HS2 := hidLL hs2.bel); clear hp2 hs2))
          go_roundw
          case rel => exact ⟨j + 1, x, _, by omega, by go_num, rfl, HK2.out, HP3.out, (HB.out.trans HS2.out).trans HS3.out⟩
          case measure => simp [RowKit.intOf]; omega
    · obtain rfl : j = m := by omega
      have hjz : ¬ (j : Int) < j := by omega
      have HE : Hid (T = bs) := by
        have := HJ.out
        rw [List.drop_eq_nil_of_le (Nat.le_of_eq HM.out.symm)] at this
        show _ = _
        rw [this]
        simp [joinB]
      clear HJ
      obtain rfl : T = bs := HE.out
      go_wp2_with (go_at_call 101; refine (string_any _ _ _ _ HP.out HT0.out).mono ?_; rintro e W2 ⟨rfl, hb2⟩; (have HB2 := hidLL hb2); clear hb2)
      go_ret
      exact ⟨rfl, HB.out.trans HB2.out⟩
set_option maxHeartbeats 4000000 in
theorem joinI_q {w : World} {wp : Nat} {s : WS} (h : WR w wp s) (hne : ∀ x, x ∈ s.ts → 0 < x.size) (h1 : s.ts ≠ []) (hz : (joinB apI ⟨#[]⟩ s.ts).length ≤ 1000000) :
    Calls Tryz.prog 54 #[.pointer (some ⟨wp, 0, none⟩), .func (.func 52) #[] #[]] w fun e w' => e = .returned (.string ⟨(joinB apI ⟨#[]⟩ s.ts).toArray⟩) ∧ Below w.heap.size w w' := by
  obtain ⟨a, m, c, c0, _, _, _, hrow, _⟩ := h.cells
  have hrd := hrow.rd
  obtain ⟨hm, hm48⟩ := hrd.len
  have hb0 : Below w.heap.size w (w.alloc (.cells #[.pointer none, .slice none 0 0] 130)) := (Below.refl _ _).alloc (Nat.le_refl _) _
  have hpg : Pg w.heap.size w.heap.size [] (w.alloc (.cells #[.pointer none, .slice none 0 0] 130)) := bld_new (Nat.le_refl _) hb0.size (heap_alloc_new _ _)
  have c0' := (hb0.cell (p := ⟨wp, 0, none⟩) h.in).trans c0
  obtain ⟨W0, hW0⟩ : ∃ W0, W0 = w.alloc (.cells #[.pointer none, .slice none 0 0] 130) := ⟨_, rfl⟩
  rw [← hW0] at hb0 hpg c0'
  have HW := hidLL hW0
  have HB0 := hidLL hb0
  have HP0 := hidLL hpg
  have HRd := hidLL hrd
  have HM := hidLL hm
  have HNe := hidLL hne
  have hT0 : joinB apI ⟨#[]⟩ s.ts ≠ [] := by
    match hs : s.ts with
    | [] => exact absurd hs h1
    | x :: l =>
      have := hne x (by rw [hs]; simp)
      intro e
      have e2 := congrArg List.length e
      simp only [joinB, List.length_append, List.length_nil, bl_len] at e2
      omega
  obtain ⟨T, hT⟩ : ∃ T, T = joinB apI ⟨#[]⟩ s.ts := ⟨_, rfl⟩
  rw [← hT] at hz hT0 ⊢
  have HT := hidLL hT
  have HT0 := hidLL hT0
  have HZ := hidLL hz
  obtain ⟨bb, hbb⟩ : ∃ bb, bb = w.heap.size := ⟨_, rfl⟩
  have HBB := hidLL hbb
  clear hT hW0 hb0 hpg hrd hm hne hT0 hz h h1 hrow c0
  go_enter Tryz.func54, Tryz.ntmps54
  go_upto_region 2 with fail
  rw [← HW.out, ← hbb]
  rw [← hbb] at HP0
  clear hbb
  go_wp2_with fail
  go_loopw [6, 14] (fun pv iv wr => ∃ (j : Nat) (p : ByteArray) (bs : List UInt8), j ≤ m ∧ iv = .int .i64 j ∧ pv = .string p ∧ T = bs ++ joinB apI p (s.ts.drop j) ∧ Pg w.heap.size bb bs wr ∧ Below w.heap.size w wr) (fun _ iv _ => (m - RowKit.intOf iv).toNat)
  case atStart => exact ⟨0, ⟨#[]⟩, [], by omega, rfl, rfl, HT.out, by rw [HBB.out] at HP0 ⊢; exact HP0.out, HB0.out⟩
  case round =>
    obtain ⟨j, p, bs, hj, rfl, rfl, ht, hp, hb⟩ := hrel
    have HJ := hidLL ht
    have HP := hidLL hp
    have HB := hidLL hb
    have HL : Hid (bs.length ≤ 1000000) := by
      have e := congrArg List.length ht
      have := HZ.out
      show _ ≤ _
      simp only [List.length_append] at e
      omega
    clear ht hp hb
    by_cases hin : j < m
    · have hjz : (j : Int) < m := by omega
      obtain ⟨x, hx⟩ : ∃ x, s.ts[j]? = some x := ⟨_, List.getElem?_eq_getElem (by have := HM.out; omega)⟩
      have hx0 := HNe.out x (List.mem_of_getElem? hx)
      obtain ⟨g, o, hoa, hg, cx⟩ := (HRd.out.below HB.out).st hx
      have HK := hidLL (HJ.out.trans (congrArg (bs ++ ·) (join_step hx p)))
      have HZx : Hid (bs.length + (1 + x.size) ≤ 3000000) := by
        have e := congrArg List.length HK.out
        have := HZ.out
        have := HL.out
        show _ ≤ _
        simp only [List.length_append, bl_len] at e
        omega
      subst hoa
      clear HJ hx
      by_cases hp0 : p.size = 0
      · have he : p.toList.isEmpty = true := by rw [Lib.toList_data, List.isEmpty_iff]; exact List.eq_nil_of_length_eq_zero (by rw [bl_len]; exact hp0)
        have HK2 : Hid (T = (bs ++ x.data.toList) ++ joinB apI x (s.ts.drop (j + 1))) := by show _ = _; rw [HK.out, if_pos hp0]; simp
        clear HK hp0
        go_wp2_with (go_at_call 100; refine (ws_any _ _ _ _ _ HP.out (by have := HZx.out; omega)).mono ?_; rintro e W2 ⟨rfl, hp2, hs2⟩; (have HP2 := hidLL hp2); (have HS2 := hidLL hs2.bel); clear hp2 hs2)
        go_roundw
        case rel => exact ⟨j + 1, x, _, by omega, by go_num, rfl, HK2.out, HP2.out, HB.out.trans HS2.out⟩
        case measure => simp [RowKit.intOf]; omega
      · have he : p.toList.isEmpty = false := by
          rw [Lib.toList_data]
          match hd : p.data.toList with
          | [] => exact absurd (by rw [← bl_len, hd]; rfl) hp0
          | _ :: _ => rfl
        have HA := hidLL (fun w => areBothInner_q (Nat.pos_of_ne_zero hp0) hx0 w)
        rw [if_neg hp0] at HK
        cases hap : apI p x
        · rw [hap] at HA HK
          have HK2 : Hid (T = (bs ++ x.data.toList) ++ joinB apI x (s.ts.drop (j + 1))) := by show _ = _; rw [HK.out]; simp
          clear HK hp0 hap
          go_wp2_with (first | (go_at_call 52; refine (HA.out _).mono ?_; rintro e w' ⟨rfl, h9⟩; subst w') | (go_at_call 100; refine (ws_any _ _ _ _ _ HP.out (by have := HZx.out; omega)).mono ?_; rintro e W2 ⟨rfl, hp2, hs2⟩; (have HP2 := hidLL hp2); (have HS2 := hidLL hs2.bel); clear hp2 hs2))
          go_roundw
          case rel => exact ⟨j + 1, x, _, by omega, by go_num, rfl, HK2.out, HP2.out, HB.out.trans HS2.out⟩
          case measure => simp [RowKit.intOf]; omega
        · rw [hap] at HA HK
          have HK2 : Hid (T = ((bs ++ [32]) ++ x.data.toList) ++ joinB apI x (s.ts.drop (j + 1))) := by show _ = _; rw [HK.out]; simp
          clear HK hp0 hap
          go_wp2_with (first | (go_at_call 52; refine (HA.out _).mono ?_; rintro e w' ⟨rfl, h9⟩; subst w') | (go_at_call 100; revert HP2; intro HP2; refine (ws_any _ _ _ _ _ HP2.out (by have := HZx.out; simp only [List.length_append, List.length_cons, List.length_nil]; omega)).mono ?_; rintro e W3 ⟨rfl, hp2, hs2⟩; (have HP3 := hidLL hp2); (have HS3 := hidLL hs2.bel); clear hp2 hs2) | (go_at_call 100; refine (ws_any _ _ _ (⟨#[32]⟩ : ByteArray) _ HP.out (by have := HZx.out; show _ + 1 ≤ _; omega)).mono ?_; rintro e W2 ⟨rfl, hp2, hs2⟩; (have HP2 := hidLL hp2); (have HS2 := hidLL hs2.bel); clear hp2 hs2))
          go_roundw
          case rel => exact ⟨j + 1, x, _, by omega, by go_num, rfl, HK2.out, HP3.out, (HB.out.trans HS2.out).trans HS3.out⟩
          case measure => simp [RowKit.intOf]; omega
    · obtain rfl : j = m := by omega
      have hjz : ¬ (j : Int) < j := by omega
      have HE : Hid (T = bs) := by
        have := HJ.out
        rw [List.drop_eq_nil_of_le (Nat.le_of_eq HM.out.symm)] at this
        show _ = _
        rw [this]
        simp [joinB]
      clear HJ
      obtain rfl : T = bs := HE.out
      go_wp2_with (go_at_call 101; refine (string_any _ _ _ _ HP.out HT0.out).mono ?_; rintro e W2 ⟨rfl, hb2⟩; (have HB2 := hidLL hb2); clear hb2)
      go_ret
      exact ⟨rfl, HB.out.trans HB2.out⟩
set_option maxHeartbeats 4000000 in
theorem joinW_q {w : World} {wp : Nat} {s : WS} (h : WR w wp s) (hne : ∀ x, x ∈ s.ts → 0 < x.size) (h1 : s.ts ≠ []) (hz : (joinB apW ⟨#[]⟩ s.ts).length ≤ 1000000) :
    Calls Tryz.prog 54 #[.pointer (some ⟨wp, 0, none⟩), .func (.func 53) #[] #[]] w fun e w' => e = .returned (.string ⟨(joinB apW ⟨#[]⟩ s.ts).toArray⟩) ∧ Below w.heap.size w w' := by
  obtain ⟨a, m, c, c0, _, _, _, hrow, _⟩ := h.cells
  have hrd := hrow.rd
  obtain ⟨hm, hm48⟩ := hrd.len
  have hb0 : Below w.heap.size w (w.alloc (.cells #[.pointer none, .slice none 0 0] 130)) := (Below.refl _ _).alloc (Nat.le_refl _) _
  have hpg : Pg w.heap.size w.heap.size [] (w.alloc (.cells #[.pointer none, .slice none 0 0] 130)) := bld_new (Nat.le_refl _) hb0.size (heap_alloc_new _ _)
  have c0' := (hb0.cell (p := ⟨wp, 0, none⟩) h.in).trans c0
  obtain ⟨W0, hW0⟩ : ∃ W0, W0 = w.alloc (.cells #[.pointer none, .slice none 0 0] 130) := ⟨_, rfl⟩
  rw [← hW0] at hb0 hpg c0'
  have HW := hidLL hW0
  have HB0 := hidLL hb0
  have HP0 := hidLL hpg
  have HRd := hidLL hrd
  have HM := hidLL hm
  have HNe := hidLL hne
  have hT0 : joinB apW ⟨#[]⟩ s.ts ≠ [] := by
    match hs : s.ts with
    | [] => exact absurd hs h1
    | x :: l =>
      have := hne x (by rw [hs]; simp)
      intro e
      have e2 := congrArg List.length e
      simp only [joinB, List.length_append, List.length_nil, bl_len] at e2
      omega
  obtain ⟨T, hT⟩ : ∃ T, T = joinB apW ⟨#[]⟩ s.ts := ⟨_, rfl⟩
  rw [← hT] at hz hT0 ⊢
  have HT := hidLL hT
  have HT0 := hidLL hT0
  have HZ := hidLL hz
  obtain ⟨bb, hbb⟩ : ∃ bb, bb = w.heap.size := ⟨_, rfl⟩
  have HBB := hidLL hbb
  clear hT hW0 hb0 hpg hrd hm hne hT0 hz h h1 hrow c0
  go_enter Tryz.func54, Tryz.ntmps54
  go_upto_region 2 with fail
  rw [← HW.out, ← hbb]
  rw [← hbb] at HP0
  clear hbb
  go_wp2_with fail
  go_loopw [6, 14] (fun pv iv wr => ∃ (j : Nat) (p : ByteArray) (bs : List UInt8), j ≤ m ∧ iv = .int .i64 j ∧ pv = .string p ∧ T = bs ++ joinB apW p (s.ts.drop j) ∧ Pg w.heap.size bb bs wr ∧ Below w.heap.size w wr) (fun _ iv _ => (m - RowKit.intOf iv).toNat)
  case atStart => exact ⟨0, ⟨#[]⟩, [], by omega, rfl, rfl, HT.out, by rw [HBB.out] at HP0 ⊢; exact HP0.out, HB0.out⟩
  case round =>
    obtain ⟨j, p, bs, hj, rfl, rfl, ht, hp, hb⟩ := hrel
    have HJ := hidLL ht
    have HP := hidLL hp
    have HB := hidLL hb
    have HL : Hid (bs.length ≤ 1000000) := by
      have e := congrArg List.length ht
      have := HZ.out
      show _ ≤ _
      simp only [List.length_append] at e
      omega
    clear ht hp hb
    by_cases hin : j < m
    · have hjz : (j : Int) < m := by omega
      obtain ⟨x, hx⟩ : ∃ x, s.ts[j]? = some x := ⟨_, List.getElem?_eq_getElem (by have := HM.out; omega)⟩
      have hx0 := HNe.out x (List.mem_of_getElem? hx)
      obtain ⟨g, o, hoa, hg, cx⟩ := (HRd.out.below HB.out).st hx
      have HK := hidLL (HJ.out.trans (congrArg (bs ++ ·) (join_step hx p)))
      have HZx : Hid (bs.length + (1 + x.size) ≤ 3000000) := by
        have e := congrArg List.length HK.out
        have := HZ.out
        have := HL.out
        show _ ≤ _
        simp only [List.length_append, bl_len] at e
        omega
      subst hoa
      clear HJ hx
      by_cases hp0 : p.size = 0
      · have he : p.toList.isEmpty = true := by rw [Lib.toList_data, List.isEmpty_iff]; exact List.eq_nil_of_length_eq_zero (by rw [bl_len]; exact hp0)
        have HK2 : Hid (T = (bs ++ x.data.toList) ++ joinB apW x (s.ts.drop (j + 1))) := by show _ = _; rw [HK.out, if_pos hp0]; simp
        clear HK hp0
        go_wp2_with (go_at_call 100; refine (ws_any _ _ _ _ _ HP.out (by have := HZx.out; omega)).mono ?_; rintro e W2 ⟨rfl, hp2, hs2⟩; (have HP2 := hidLL hp2); (have HS2 := hidLL hs2.bel); clear hp2 hs2)
        go_roundw
        case rel => exact ⟨j + 1, x, _, by omega, by go_num, rfl, HK2.out, HP2.out, HB.out.trans HS2.out⟩
        case measure => simp [RowKit.intOf]; omega
      · have he : p.toList.isEmpty = false := by
          rw [Lib.toList_data]
          match hd : p.data.toList with
          | [] => exact absurd (by rw [← bl_len, hd]; rfl) hp0
          | _ :: _ => rfl
        have HA := hidLL (fun w => wouldBeOne_q (Nat.pos_of_ne_zero hp0) hx0 w)
        rw [if_neg hp0] at HK
        cases hap : apW p x
        · rw [hap] at HA HK
          have HK2 : Hid (T = (bs ++ x.data.toList) ++ joinB apW x (s.ts.drop (j + 1))) := by show _ = _; rw [HK.out]; simp
          clear HK hp0 hap
          go_wp2_with (first | (go_at_call 53; refine (HA.out _).mono ?_; rintro e w' ⟨rfl, h9⟩; subst w') | (go_at_call 100; refine (ws_any _ _ _ _ _ HP.out (by have := HZx.out; omega)).mono ?_; rintro e W2 ⟨rfl, hp2, hs2⟩; (have HP2 := hidLL hp2); (have HS2 := hidLL hs2.bel); clear hp2 hs2))
          go_roundw
          case rel => exact ⟨j + 1, x, _, by omega, by go_num, rfl, HK2.out, HP2.out, HB.out.trans HS2.out⟩
          case measure => simp [RowKit.intOf]; omega
        · rw [hap] at HA HK
          have HK2 : Hid (T = ((bs ++ [32]) ++ x.data.toList) ++ joinB apW x (s.ts.drop (j + 1))) := by show _ = _; rw [HK.out]; simp
          clear HK hp0 hap
          go_wp2_with (first | (go_at_call 53; refine (HA.out _).mono ?_; rintro e w' ⟨rfl, h9⟩; subst w') | (go_at_call 100; revert HP2; intro HP2; refine (ws_any _ _ _ _ _ HP2.out (by have := HZx.out; simp only [List.length_append, List.length_cons, List.length_nil]; omega)).mono ?_; rintro e W3 ⟨rfl, hp2, hs2⟩; (have HP3 := hidLL hp2); (have HS3 := hidLL hs2.bel); clear hp2 hs2) | (go_at_call 100; refine (ws_any _ _ _ (⟨#[32]⟩ : ByteArray) _ HP.out (by have := HZx.out; show _ + 1 ≤ _; omega)).mono ?_; rintro e W2 ⟨rfl, hp2, hs2⟩; (have HP2 := hidLL hp2); (have HS2 := hidLL hs2.bel); clear hp2 hs2))
          go_roundw
          case rel => exact ⟨j + 1, x, _, by omega, by go_num, rfl, HK2.out, HP3.out, (HB.out.trans HS2.out).trans HS3.out⟩
          case measure => simp [RowKit.intOf]; omega
    · obtain rfl : j = m := by omega
      have hjz : ¬ (j : Int) < j := by omega
      have HE : Hid (T = bs) := by
        have := HJ.out
        rw [List.drop_eq_nil_of_le (Nat.le_of_eq HM.out.symm)] at this
        show _ = _
        rw [this]
        simp [joinB]
      clear HJ
      obtain rfl : T = bs := HE.out
      go_wp2_with (go_at_call 101; refine (string_any _ _ _ _ HP.out HT0.out).mono ?_; rintro e W2 ⟨rfl, hb2⟩; (have HB2 := hidLL hb2); clear hb2)
      go_ret
      exact ⟨rfl, HB.out.trans HB2.out⟩
end Go.Proofs.YtehbinobohjadaaGreatDoor
