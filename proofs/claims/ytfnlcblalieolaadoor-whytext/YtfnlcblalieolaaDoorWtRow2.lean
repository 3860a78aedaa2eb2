/-
  Package why: readStep, walked.
-/
import Derived.Test.YtfnlcblalieolaaDoorWtRow
import Derived.Maps.Own
namespace Go.Proofs.YtfnlcblalieolaaDoor
open Go.RowKit Go.Maps

def kindsV : Value := .agg #[.bool true, .bool true, .int .i64 0, .bool true, .bool false, .int .i64 0, .bool false, .bool true, .int .i64 0, .bool false, .bool false, .int .i64 0]
theorem idx0 (w : World) : (Instr.index 72 kindsV (.int .i64 0)).run Tryd.prog w = .ok (.agg #[.bool true, .bool true, .int .i64 0]) w := by kernel_rfl
theorem idx1 (w : World) : (Instr.index 72 kindsV (.int .i64 1)).run Tryd.prog w = .ok (.agg #[.bool true, .bool false, .int .i64 0]) w := by kernel_rfl
theorem idx2 (w : World) : (Instr.index 72 kindsV (.int .i64 2)).run Tryd.prog w = .ok (.agg #[.bool false, .bool true, .int .i64 0]) w := by kernel_rfl
theorem idx3 (w : World) : (Instr.index 72 kindsV (.int .i64 3)).run Tryd.prog w = .ok (.agg #[.bool false, .bool false, .int .i64 0]) w := by kernel_rfl
set_option maxHeartbeats 8000000 in
set_option maxRecDepth 100000 in
theorem readStep_p {w : World} {p : Nat → Addr} (hE : SentW w p) {b m : Nat} {D : DataW Unit} {nm : List ByteArray} (hown : w.ownsMap Tryd.prog 9 (plainElem Tryd.prog 3) b m D) (hL : LMap D nm) (hnm : nm.length ≤ 1000) (s : ByteArray) (hs : s.size ≤ 1000000) :
    Calls Tryd.prog 19 #[.string s, .map (some b)] w fun e w' => RowA p (rowR nm (bl s) 4 0) e ∧ Below w.heap.size w w' := by
  obtain ⟨W0, hW0⟩ : ∃ W0 : World, W0 = w.alloc (.cells #[.bool false, .bool false, .int .i64 0] 26) := ⟨_, rfl⟩
  obtain ⟨rb, hrb⟩ : ∃ rb, rb = w.heap.size := ⟨_, rfl⟩
  have hb0 : Below w.heap.size w W0 := by rw [hW0]; exact (Below.refl _ _).alloc (Nat.le_refl _) _
  have hk0 : W0.heap[rb]? = some (.cells #[.bool false, .bool false, .int .i64 0] 26 (0, 0)) := by rw [hW0, hrb]; exact blk_new _ _
  have hbl := hown.lt
  have HX : Hid (∀ W, Below w.heap.size w W → SentW W p ∧ W.ownsMap Tryd.prog 9 (plainElem Tryd.prog 3) b m D) := fun W hW => by
    obtain ⟨es, ck, hh, hrest⟩ := hown
    exact ⟨hE.bel hW, es, ck, (hW.block b hbl).trans hh, hrest⟩
  have HL := hidLL hL
  have HW := hidLL (And.intro hW0 hrb)
  have H0 := hidLL (And.intro hb0 hk0)
  have hrw : w.heap.size ≤ rb := by omega
  have hg1 : 1 < w.heap.size := cell_lt hE.t
  have hg6 : 6 < w.heap.size := cell_lt hE.n
  have n1 : rb ≠ 1 := by omega
  have n2 : 1 ≠ rb := by omega
  have n3 : rb ≠ 6 := by omega
  have n4 : 6 ≠ rb := by omega
  clear hE hown hL hW0 hrb hb0 hk0
  go_enter Tryd.func19, Tryd.ntmps19
  go_upto_region 1 with fail
  rw [← HW.out.1, ← HW.out.2]
  go_wp2_with fail
  go_loopw [17] (fun t wr => ∃ i : Nat, i ≤ 4 ∧ t = .int .i64 i ∧ rowR nm (bl s) 4 0 = rowR nm (bl s) (4 - i) i ∧ Below w.heap.size w wr ∧ wr.heap[rb]? = some (.cells #[.bool false, .bool false, .int .i64 0] 26 (0, 0))) (fun t _ => 4 - (RowKit.intOf t).toNat)
  case atStart => exact ⟨0, by omega, rfl, rfl, H0.out.1, H0.out.2⟩
  case round =>
    obtain ⟨i, hi, rfl, hR, hbel, hk⟩ := hrel
    obtain ⟨w3, hw3⟩ : ∃ w3 : World, w3 = wr := ⟨_, rfl⟩
    subst hw3
    have r0 : w3.cell? ⟨rb, 0, none⟩ = some (.bool false) := by simp [World.cell?, hk]
    have r1 : w3.cell? ⟨rb, 1, none⟩ = some (.bool false) := by simp [World.cell?, hk]
    have r2 : w3.cell? ⟨rb, 2, none⟩ = some (.int .i64 0) := by simp [World.cell?, hk]
    have rf : ∀ q, w3.frozen? ⟨rb, q, none⟩ = false := fun q => by simp [World.frozen?, hk]
    have rl : rb < w3.heap.size := lt_of_block hk
    have hcase : i = 0 ∨ i = 1 ∨ i = 2 ∨ i = 3 ∨ i = 4 := by omega
    rcases hcase with rfl | rfl | rfl | rfl | rfl
    · obtain ⟨W4, hW4⟩ : ∃ W4 : World, W4 = w3.alloc (.cells #[.bool true, .bool true, .int .i64 0] 26) := ⟨_, rfl⟩
      obtain ⟨sb, hsb⟩ : ∃ sb, sb = w3.heap.size := ⟨_, rfl⟩
      have hb4 : Below w3.heap.size w3 W4 := by rw [hW4]; exact (Below.refl _ _).alloc (Nat.le_refl _) _
      have hk4 : W4.heap[sb]? = some (.cells #[.bool true, .bool true, .int .i64 0] 26 (0, 0)) := by rw [hW4, hsb]; exact blk_new _ _
      have c0 : W4.cell? ⟨sb, 0, none⟩ = some (.bool true) := by simp [World.cell?, hk4]
      have c1 : W4.cell? ⟨sb, 1, none⟩ = some (.bool true) := by simp [World.cell?, hk4]
      have c2 : W4.cell? ⟨sb, 2, none⟩ = some (.int .i64 0) := by simp [World.cell?, hk4]
      have HWd := hidLL (words_p true true 0 W4)
      have HW4 := hidLL (And.intro hW4 hsb)
      have hrs : rb ≠ sb := by omega
      have hws3 : w.heap.size ≤ w3.heap.size := hbel.size
      have H4 := hidLL (And.intro (hbel.trans (hb4.mono hbel.size)) (And.intro hk4 (And.intro ((hb4.block rb rl).trans hk) hR)))
      clear hW4 hsb hb4 hk4 hbel hk hR r0 r1 r2 rf rl
      have hix := idx0 w3
      unfold kindsV at hix
      go_upto_region 4 with fail
      rw [← HW4.out.1, ← HW4.out.2]
      clear hix
      go_wp2_with fail
      refine HWd.out.mono ?_
      rintro e w5 ⟨rfl, hb5⟩
      have HCp := hidLL (Tryd.strings_CutPrefix s (wordB true true) w5)
      have hk5 := (hb5.block sb (lt_of_block H4.out.2.1)).trans H4.out.2.1
      have hkr5 := (hb5.block rb (lt_of_block H4.out.2.2.1)).trans H4.out.2.2.1
      have H5 := hidLL (And.intro (H4.out.1.trans (hb5.mono H4.out.1.size)) (And.intro hk5 hkr5))
      clear hb5 hk5 hkr5 c0 c1 c2
      go_wp2_with fail
      refine HCp.out.mono ?_
      rintro e w6 ⟨rfl, ew⟩
      subst ew
      by_cases hp : Lib.hasPrefix (bl s) (bl (wordB true true)) = true
      · have hpt : Lib.hasPrefix s.data.toList (wordB true true).data.toList = true := hp
        obtain ⟨rr, hrr⟩ : ∃ rr, rr = Lib.trimPrefix s.data.toList (wordB true true).data.toList := ⟨_, rfl⟩
        have HRow : Hid (rowR nm (bl s) 4 0 = nameR nm true true rr) := by
          show _ = _
          try rw [H4.out.2.2.2]
          show (if Lib.hasPrefix (bl s) (bl (wordB true true)) = true then _ else _) = _
          rw [if_pos hp, hrr]
          rfl
        have hrl : rr.length ≤ 1000000 := by
          rw [hrr]
          unfold Lib.trimPrefix
          have h9 : s.data.toList.length = s.size := size_bl s
          rw [if_pos hpt, List.length_drop]
          omega
        rw [hpt, ← hrr]
        have HCn := hidLL (Tryd.strings_CutPrefix ⟨rr.toArray⟩ ⟨#[110, 111, 116, 32]⟩ w6)
        have etl : (⟨rr.toArray⟩ : ByteArray).data.toList = rr := by simp
        rw [etl] at HCn
        obtain ⟨tt, htt⟩ : ∃ tt, tt = Lib.trimPrefix rr (⟨#[110, 111, 116, 32]⟩ : ByteArray).data.toList := ⟨_, rfl⟩
        obtain ⟨ng, hng⟩ : ∃ ng, ng = Lib.hasPrefix rr (⟨#[110, 111, 116, 32]⟩ : ByteArray).data.toList := ⟨_, rfl⟩
        have htl : tt.length ≤ 1000000 := by
          rw [htt]
          unfold Lib.trimPrefix
          split
          · rw [List.length_drop]; omega
          · omega
        rw [← htt, ← hng] at HCn
        obtain ⟨kl, hkl⟩ := keyStr ⟨tt.toArray⟩ (by show tt.toArray.size ≤ _; simp; omega)
        have hat0 := HL.out.at' _ kl hkl
        obtain ⟨qq, hqq⟩ : ∃ qq, qq = numOf nm ⟨tt.toArray⟩ := ⟨_, rfl⟩
        have hql : qq ≤ 1000 := by rw [hqq]; exact Nat.le_trans (numOf_le _ _) hnm
        have HNR : Hid (nameR nm true true rr = if qq = 0 then .inl 6 else .inr (true, true, if ng then -(qq : Int) else (qq : Int))) := by
          show _ = _
          unfold nameR
          rw [hqq, htt, hng]
          rfl
        rw [← hqq] at hat0
        obtain ⟨hE6, hown6⟩ := HX.out w6 H5.out.1
        have e6 := hE6.n
        have d0 : w6.cell? ⟨sb, 0, none⟩ = some (.bool true) := by simp [World.cell?, H5.out.2.1]
        have d1 : w6.cell? ⟨sb, 1, none⟩ = some (.bool true) := by simp [World.cell?, H5.out.2.1]
        have d2 : w6.cell? ⟨sb, 2, none⟩ = some (.int .i64 0) := by simp [World.cell?, H5.out.2.1]
        have df : ∀ q, w6.frozen? ⟨sb, q, none⟩ = false := fun q => by simp [World.frozen?, H5.out.2.1]
        have g0 : w6.cell? ⟨rb, 0, none⟩ = some (.bool false) := by simp [World.cell?, H5.out.2.2]
        have g1 : w6.cell? ⟨rb, 1, none⟩ = some (.bool false) := by simp [World.cell?, H5.out.2.2]
        have g2 : w6.cell? ⟨rb, 2, none⟩ = some (.int .i64 0) := by simp [World.cell?, H5.out.2.2]
        have gf : ∀ q, w6.frozen? ⟨rb, q, none⟩ = false := fun q => by simp [World.frozen?, H5.out.2.2]
        have hsl := lt_of_block H5.out.2.1
        have hgl := lt_of_block H5.out.2.2
        have hsr : sb ≠ rb := fun e => hrs e.symm
        have hwsb : w.heap.size ≤ sb := by have := HW4.out.2; omega
        have m1 : sb ≠ 6 := by omega
        have m2 : 6 ≠ sb := by omega
        have hqn : IntKind.i64.wrap (-(qq : Int)) = -(qq : Int) := by rw [IntKind.wrap_i64]; omega
        clear hp hpt hrr etl htt hng hqq hE6
        go_wp2_with fail
        refine HCn.out.mono ?_
        rintro e w7 ⟨rfl, ew⟩
        subst ew
        by_cases hq0 : qq = 0
        · subst hq0
          have HF : Hid (rowR nm (bl s) 4 0 = .inl 6) := by
            show _ = _
            rw [HRow.out, HNR.out, if_pos rfl]
          go_wp2_with (first
            | (at_lookup; refine wpList_lookup_own_int _ rfl _ _ 53 rfl 9 3 .i64 lawStr Tryd.underlying53 Tryd.underlying3 (zeroIntW _) b m D rfl hown6 (.string ⟨tt.toArray⟩) kl rfl hkl ?_; intro c hat hwc; (obtain rfl : c = 0 := (by rw [hat0] at hat; injection hat with hat; injection hat with _ hat; exact hat.symm)); clear hat hwc)
            | go_in)
          go_region
          all_goals
            go_wp2
            refine bodyPost_ret (v := .tuple #[.agg #[.bool false, .bool false, .int .i64 0], .iface 107 (.pointer (some (p 6)))]) (by simp [results, Tryd.results19, go_sem, g0, g1, g2]) rfl ?_
            refine ⟨?_, ?_⟩
            · rw [HF.out]
              exact rfl
            · exact (((((H5.out.1.setCell (p := ⟨sb, 2, none⟩) hwsb _).setCell (p := ⟨rb, 0, none⟩) hrw _).setCell (p := ⟨rb, 1, none⟩) hrw _).setCell (p := ⟨rb, 2, none⟩) hrw _)).drew
        · have hqz : ¬ (qq : Int) = 0 := by omega
          have HF : Hid (rowR nm (bl s) 4 0 = .inr (true, true, if ng then -(qq : Int) else (qq : Int))) := by
            show _ = _
            rw [HRow.out, HNR.out, if_neg hq0]
          cases ng with
          | false =>
            go_wp2_with (first
              | (at_lookup; refine wpList_lookup_own_int _ rfl _ _ 53 rfl 9 3 .i64 lawStr Tryd.underlying53 Tryd.underlying3 (zeroIntW _) b m D rfl hown6 (.string ⟨tt.toArray⟩) kl rfl hkl ?_; intro c hat hwc; (obtain rfl : c = (qq : Int) := (by rw [hat0] at hat; injection hat with hat; injection hat with _ hat; exact hat.symm)); clear hat hwc)
              | go_in)
            refine bodyPost_ret (v := .tuple #[.agg #[.bool true, .bool true, .int .i64 (qq : Int)], .nilIface]) (by simp [results, Tryd.results19, go_sem, g0, g1, g2]) rfl ?_
            refine ⟨?_, ?_⟩
            · rw [HF.out]
              exact rfl
            · exact ((((H5.out.1.setCell (p := ⟨sb, 2, none⟩) hwsb _).setCell (p := ⟨rb, 0, none⟩) hrw _).setCell (p := ⟨rb, 1, none⟩) hrw _).setCell (p := ⟨rb, 2, none⟩) hrw _)
          | true =>
            go_wp2_with (first
              | (at_lookup; refine wpList_lookup_own_int _ rfl _ _ 53 rfl 9 3 .i64 lawStr Tryd.underlying53 Tryd.underlying3 (zeroIntW _) b m D rfl hown6 (.string ⟨tt.toArray⟩) kl rfl hkl ?_; intro c hat hwc; (obtain rfl : c = (qq : Int) := (by rw [hat0] at hat; injection hat with hat; injection hat with _ hat; exact hat.symm)); clear hat hwc)
              | go_in)
            refine bodyPost_ret (v := .tuple #[.agg #[.bool true, .bool true, .int .i64 (-(qq : Int))], .nilIface]) (by simp [results, Tryd.results19, go_sem, g0, g1, g2]) rfl ?_
            refine ⟨?_, ?_⟩
            · rw [HF.out]
              exact rfl
            · exact (((((H5.out.1.setCell (p := ⟨sb, 2, none⟩) hwsb _).setCell (p := ⟨sb, 2, none⟩) hwsb _).setCell (p := ⟨rb, 0, none⟩) hrw _).setCell (p := ⟨rb, 1, none⟩) hrw _).setCell (p := ⟨rb, 2, none⟩) hrw _)
      · have hpf : Lib.hasPrefix s.data.toList (wordB true true).data.toList = false := by simpa using hp
        have HR : Hid (rowR nm (bl s) 4 0 = rowR nm (bl s) (4 - 1) 1) := by
          show _ = _
          try rw [H4.out.2.2.2]
          show (if Lib.hasPrefix (bl s) (bl (wordB true true)) = true then _ else _) = _
          rw [if_neg hp]
        rw [hpf]
        clear hp
        go_wp2
        go_roundw
        case rel => exact ⟨1, by omega, by go_num, HR.out, H5.out.1, H5.out.2.2⟩
        case measure => simp [RowKit.intOf]
    · obtain ⟨W4, hW4⟩ : ∃ W4 : World, W4 = w3.alloc (.cells #[.bool true, .bool false, .int .i64 0] 26) := ⟨_, rfl⟩
      obtain ⟨sb, hsb⟩ : ∃ sb, sb = w3.heap.size := ⟨_, rfl⟩
      have hb4 : Below w3.heap.size w3 W4 := by rw [hW4]; exact (Below.refl _ _).alloc (Nat.le_refl _) _
      have hk4 : W4.heap[sb]? = some (.cells #[.bool true, .bool false, .int .i64 0] 26 (0, 0)) := by rw [hW4, hsb]; exact blk_new _ _
      have c0 : W4.cell? ⟨sb, 0, none⟩ = some (.bool true) := by simp [World.cell?, hk4]
      have c1 : W4.cell? ⟨sb, 1, none⟩ = some (.bool false) := by simp [World.cell?, hk4]
      have c2 : W4.cell? ⟨sb, 2, none⟩ = some (.int .i64 0) := by simp [World.cell?, hk4]
      have HWd := hidLL (words_p true false 0 W4)
      have HW4 := hidLL (And.intro hW4 hsb)
      have hrs : rb ≠ sb := by omega
      have hws3 : w.heap.size ≤ w3.heap.size := hbel.size
      have H4 := hidLL (And.intro (hbel.trans (hb4.mono hbel.size)) (And.intro hk4 (And.intro ((hb4.block rb rl).trans hk) hR)))
      clear hW4 hsb hb4 hk4 hbel hk hR r0 r1 r2 rf rl
      have hix := idx1 w3
      unfold kindsV at hix
      go_upto_region 4 with fail
      rw [← HW4.out.1, ← HW4.out.2]
      clear hix
      go_wp2_with fail
      refine HWd.out.mono ?_
      rintro e w5 ⟨rfl, hb5⟩
      have HCp := hidLL (Tryd.strings_CutPrefix s (wordB true false) w5)
      have hk5 := (hb5.block sb (lt_of_block H4.out.2.1)).trans H4.out.2.1
      have hkr5 := (hb5.block rb (lt_of_block H4.out.2.2.1)).trans H4.out.2.2.1
      have H5 := hidLL (And.intro (H4.out.1.trans (hb5.mono H4.out.1.size)) (And.intro hk5 hkr5))
      clear hb5 hk5 hkr5 c0 c1 c2
      go_wp2_with fail
      refine HCp.out.mono ?_
      rintro e w6 ⟨rfl, ew⟩
      subst ew
      by_cases hp : Lib.hasPrefix (bl s) (bl (wordB true false)) = true
      · have hpt : Lib.hasPrefix s.data.toList (wordB true false).data.toList = true := hp
        obtain ⟨rr, hrr⟩ : ∃ rr, rr = Lib.trimPrefix s.data.toList (wordB true false).data.toList := ⟨_, rfl⟩
        have HRow : Hid (rowR nm (bl s) 4 0 = nameR nm true false rr) := by
          show _ = _
          try rw [H4.out.2.2.2]
          show (if Lib.hasPrefix (bl s) (bl (wordB true false)) = true then _ else _) = _
          rw [if_pos hp, hrr]
          rfl
        have hrl : rr.length ≤ 1000000 := by
          rw [hrr]
          unfold Lib.trimPrefix
          have h9 : s.data.toList.length = s.size := size_bl s
          rw [if_pos hpt, List.length_drop]
          omega
        rw [hpt, ← hrr]
        have HCn := hidLL (Tryd.strings_CutPrefix ⟨rr.toArray⟩ ⟨#[110, 111, 116, 32]⟩ w6)
        have etl : (⟨rr.toArray⟩ : ByteArray).data.toList = rr := by simp
        rw [etl] at HCn
        obtain ⟨tt, htt⟩ : ∃ tt, tt = Lib.trimPrefix rr (⟨#[110, 111, 116, 32]⟩ : ByteArray).data.toList := ⟨_, rfl⟩
        obtain ⟨ng, hng⟩ : ∃ ng, ng = Lib.hasPrefix rr (⟨#[110, 111, 116, 32]⟩ : ByteArray).data.toList := ⟨_, rfl⟩
        have htl : tt.length ≤ 1000000 := by
          rw [htt]
          unfold Lib.trimPrefix
          split
          · rw [List.length_drop]; omega
          · omega
        rw [← htt, ← hng] at HCn
        obtain ⟨kl, hkl⟩ := keyStr ⟨tt.toArray⟩ (by show tt.toArray.size ≤ _; simp; omega)
        have hat0 := HL.out.at' _ kl hkl
        obtain ⟨qq, hqq⟩ : ∃ qq, qq = numOf nm ⟨tt.toArray⟩ := ⟨_, rfl⟩
        have hql : qq ≤ 1000 := by rw [hqq]; exact Nat.le_trans (numOf_le _ _) hnm
        have HNR : Hid (nameR nm true false rr = if qq = 0 then .inl 6 else .inr (true, false, if ng then -(qq : Int) else (qq : Int))) := by
          show _ = _
          unfold nameR
          rw [hqq, htt, hng]
          rfl
        rw [← hqq] at hat0
        obtain ⟨hE6, hown6⟩ := HX.out w6 H5.out.1
        have e6 := hE6.n
        have d0 : w6.cell? ⟨sb, 0, none⟩ = some (.bool true) := by simp [World.cell?, H5.out.2.1]
        have d1 : w6.cell? ⟨sb, 1, none⟩ = some (.bool false) := by simp [World.cell?, H5.out.2.1]
        have d2 : w6.cell? ⟨sb, 2, none⟩ = some (.int .i64 0) := by simp [World.cell?, H5.out.2.1]
        have df : ∀ q, w6.frozen? ⟨sb, q, none⟩ = false := fun q => by simp [World.frozen?, H5.out.2.1]
        have g0 : w6.cell? ⟨rb, 0, none⟩ = some (.bool false) := by simp [World.cell?, H5.out.2.2]
        have g1 : w6.cell? ⟨rb, 1, none⟩ = some (.bool false) := by simp [World.cell?, H5.out.2.2]
        have g2 : w6.cell? ⟨rb, 2, none⟩ = some (.int .i64 0) := by simp [World.cell?, H5.out.2.2]
        have gf : ∀ q, w6.frozen? ⟨rb, q, none⟩ = false := fun q => by simp [World.frozen?, H5.out.2.2]
        have hsl := lt_of_block H5.out.2.1
        have hgl := lt_of_block H5.out.2.2
        have hsr : sb ≠ rb := fun e => hrs e.symm
        have hwsb : w.heap.size ≤ sb := by have := HW4.out.2; omega
        have m1 : sb ≠ 6 := by omega
        have m2 : 6 ≠ sb := by omega
        have hqn : IntKind.i64.wrap (-(qq : Int)) = -(qq : Int) := by rw [IntKind.wrap_i64]; omega
        clear hp hpt hrr etl htt hng hqq hE6
        go_wp2_with fail
        refine HCn.out.mono ?_
        rintro e w7 ⟨rfl, ew⟩
        subst ew
        by_cases hq0 : qq = 0
        · subst hq0
          have HF : Hid (rowR nm (bl s) 4 0 = .inl 6) := by
            show _ = _
            rw [HRow.out, HNR.out, if_pos rfl]
          go_wp2_with (first
            | (at_lookup; refine wpList_lookup_own_int _ rfl _ _ 53 rfl 9 3 .i64 lawStr Tryd.underlying53 Tryd.underlying3 (zeroIntW _) b m D rfl hown6 (.string ⟨tt.toArray⟩) kl rfl hkl ?_; intro c hat hwc; (obtain rfl : c = 0 := (by rw [hat0] at hat; injection hat with hat; injection hat with _ hat; exact hat.symm)); clear hat hwc)
            | go_in)
          go_region
          all_goals
            go_wp2
            refine bodyPost_ret (v := .tuple #[.agg #[.bool false, .bool false, .int .i64 0], .iface 107 (.pointer (some (p 6)))]) (by simp [results, Tryd.results19, go_sem, g0, g1, g2]) rfl ?_
            refine ⟨?_, ?_⟩
            · rw [HF.out]
              exact rfl
            · exact (((((H5.out.1.setCell (p := ⟨sb, 2, none⟩) hwsb _).setCell (p := ⟨rb, 0, none⟩) hrw _).setCell (p := ⟨rb, 1, none⟩) hrw _).setCell (p := ⟨rb, 2, none⟩) hrw _)).drew
        · have hqz : ¬ (qq : Int) = 0 := by omega
          have HF : Hid (rowR nm (bl s) 4 0 = .inr (true, false, if ng then -(qq : Int) else (qq : Int))) := by
            show _ = _
            rw [HRow.out, HNR.out, if_neg hq0]
          cases ng with
          | false =>
            go_wp2_with (first
              | (at_lookup; refine wpList_lookup_own_int _ rfl _ _ 53 rfl 9 3 .i64 lawStr Tryd.underlying53 Tryd.underlying3 (zeroIntW _) b m D rfl hown6 (.string ⟨tt.toArray⟩) kl rfl hkl ?_; intro c hat hwc; (obtain rfl : c = (qq : Int) := (by rw [hat0] at hat; injection hat with hat; injection hat with _ hat; exact hat.symm)); clear hat hwc)
              | go_in)
            refine bodyPost_ret (v := .tuple #[.agg #[.bool true, .bool false, .int .i64 (qq : Int)], .nilIface]) (by simp [results, Tryd.results19, go_sem, g0, g1, g2]) rfl ?_
            refine ⟨?_, ?_⟩
            · rw [HF.out]
              exact rfl
            · exact ((((H5.out.1.setCell (p := ⟨sb, 2, none⟩) hwsb _).setCell (p := ⟨rb, 0, none⟩) hrw _).setCell (p := ⟨rb, 1, none⟩) hrw _).setCell (p := ⟨rb, 2, none⟩) hrw _)
          | true =>
            go_wp2_with (first
              | (at_lookup; refine wpList_lookup_own_int _ rfl _ _ 53 rfl 9 3 .i64 lawStr Tryd.underlying53 Tryd.underlying3 (zeroIntW _) b m D rfl hown6 (.string ⟨tt.toArray⟩) kl rfl hkl ?_; intro c hat hwc; (obtain rfl : c = (qq : Int) := (by rw [hat0] at hat; injection hat with hat; injection hat with _ hat; exact hat.symm)); clear hat hwc)
              | go_in)
            refine bodyPost_ret (v := .tuple #[.agg #[.bool true, .bool false, .int .i64 (-(qq : Int))], .nilIface]) (by simp [results, Tryd.results19, go_sem, g0, g1, g2]) rfl ?_
            refine ⟨?_, ?_⟩
            · rw [HF.out]
              exact rfl
            · exact (((((H5.out.1.setCell (p := ⟨sb, 2, none⟩) hwsb _).setCell (p := ⟨sb, 2, none⟩) hwsb _).setCell (p := ⟨rb, 0, none⟩) hrw _).setCell (p := ⟨rb, 1, none⟩) hrw _).setCell (p := ⟨rb, 2, none⟩) hrw _)
      · have hpf : Lib.hasPrefix s.data.toList (wordB true false).data.toList = false := by simpa using hp
        have HR : Hid (rowR nm (bl s) 4 0 = rowR nm (bl s) (4 - 2) 2) := by
          show _ = _
          try rw [H4.out.2.2.2]
          show (if Lib.hasPrefix (bl s) (bl (wordB true false)) = true then _ else _) = _
          rw [if_neg hp]
        rw [hpf]
        clear hp
        go_wp2
        go_roundw
        case rel => exact ⟨2, by omega, by go_num, HR.out, H5.out.1, H5.out.2.2⟩
        case measure => simp [RowKit.intOf]
    · obtain ⟨W4, hW4⟩ : ∃ W4 : World, W4 = w3.alloc (.cells #[.bool false, .bool true, .int .i64 0] 26) := ⟨_, rfl⟩
      obtain ⟨sb, hsb⟩ : ∃ sb, sb = w3.heap.size := ⟨_, rfl⟩
      have hb4 : Below w3.heap.size w3 W4 := by rw [hW4]; exact (Below.refl _ _).alloc (Nat.le_refl _) _
      have hk4 : W4.heap[sb]? = some (.cells #[.bool false, .bool true, .int .i64 0] 26 (0, 0)) := by rw [hW4, hsb]; exact blk_new _ _
      have c0 : W4.cell? ⟨sb, 0, none⟩ = some (.bool false) := by simp [World.cell?, hk4]
      have c1 : W4.cell? ⟨sb, 1, none⟩ = some (.bool true) := by simp [World.cell?, hk4]
      have c2 : W4.cell? ⟨sb, 2, none⟩ = some (.int .i64 0) := by simp [World.cell?, hk4]
      have HWd := hidLL (words_p false true 0 W4)
      have HW4 := hidLL (And.intro hW4 hsb)
      have hrs : rb ≠ sb := by omega
      have hws3 : w.heap.size ≤ w3.heap.size := hbel.size
      have H4 := hidLL (And.intro (hbel.trans (hb4.mono hbel.size)) (And.intro hk4 (And.intro ((hb4.block rb rl).trans hk) hR)))
      clear hW4 hsb hb4 hk4 hbel hk hR r0 r1 r2 rf rl
      have hix := idx2 w3
      unfold kindsV at hix
      go_upto_region 4 with fail
      rw [← HW4.out.1, ← HW4.out.2]
      clear hix
      go_wp2_with fail
      refine HWd.out.mono ?_
      rintro e w5 ⟨rfl, hb5⟩
      have HCp := hidLL (Tryd.strings_CutPrefix s (wordB false true) w5)
      have hk5 := (hb5.block sb (lt_of_block H4.out.2.1)).trans H4.out.2.1
      have hkr5 := (hb5.block rb (lt_of_block H4.out.2.2.1)).trans H4.out.2.2.1
      have H5 := hidLL (And.intro (H4.out.1.trans (hb5.mono H4.out.1.size)) (And.intro hk5 hkr5))
      clear hb5 hk5 hkr5 c0 c1 c2
      go_wp2_with fail
      refine HCp.out.mono ?_
      rintro e w6 ⟨rfl, ew⟩
      subst ew
      by_cases hp : Lib.hasPrefix (bl s) (bl (wordB false true)) = true
      · have hpt : Lib.hasPrefix s.data.toList (wordB false true).data.toList = true := hp
        obtain ⟨rr, hrr⟩ : ∃ rr, rr = Lib.trimPrefix s.data.toList (wordB false true).data.toList := ⟨_, rfl⟩
        have HRow : Hid (rowR nm (bl s) 4 0 = nameR nm false true rr) := by
          show _ = _
          try rw [H4.out.2.2.2]
          show (if Lib.hasPrefix (bl s) (bl (wordB false true)) = true then _ else _) = _
          rw [if_pos hp, hrr]
          rfl
        have hrl : rr.length ≤ 1000000 := by
          rw [hrr]
          unfold Lib.trimPrefix
          have h9 : s.data.toList.length = s.size := size_bl s
          rw [if_pos hpt, List.length_drop]
          omega
        rw [hpt, ← hrr]
        have HCn := hidLL (Tryd.strings_CutPrefix ⟨rr.toArray⟩ ⟨#[110, 111, 116, 32]⟩ w6)
        have etl : (⟨rr.toArray⟩ : ByteArray).data.toList = rr := by simp
        rw [etl] at HCn
        obtain ⟨tt, htt⟩ : ∃ tt, tt = Lib.trimPrefix rr (⟨#[110, 111, 116, 32]⟩ : ByteArray).data.toList := ⟨_, rfl⟩
        obtain ⟨ng, hng⟩ : ∃ ng, ng = Lib.hasPrefix rr (⟨#[110, 111, 116, 32]⟩ : ByteArray).data.toList := ⟨_, rfl⟩
        have htl : tt.length ≤ 1000000 := by
          rw [htt]
          unfold Lib.trimPrefix
          split
          · rw [List.length_drop]; omega
          · omega
        rw [← htt, ← hng] at HCn
        obtain ⟨kl, hkl⟩ := keyStr ⟨tt.toArray⟩ (by show tt.toArray.size ≤ _; simp; omega)
        have hat0 := HL.out.at' _ kl hkl
        obtain ⟨qq, hqq⟩ : ∃ qq, qq = numOf nm ⟨tt.toArray⟩ := ⟨_, rfl⟩
        have hql : qq ≤ 1000 := by rw [hqq]; exact Nat.le_trans (numOf_le _ _) hnm
        have HNR : Hid (nameR nm false true rr = if qq = 0 then .inl 6 else .inr (false, true, if ng then -(qq : Int) else (qq : Int))) := by
          show _ = _
          unfold nameR
          rw [hqq, htt, hng]
          rfl
        rw [← hqq] at hat0
        obtain ⟨hE6, hown6⟩ := HX.out w6 H5.out.1
        have e6 := hE6.n
        have d0 : w6.cell? ⟨sb, 0, none⟩ = some (.bool false) := by simp [World.cell?, H5.out.2.1]
        have d1 : w6.cell? ⟨sb, 1, none⟩ = some (.bool true) := by simp [World.cell?, H5.out.2.1]
        have d2 : w6.cell? ⟨sb, 2, none⟩ = some (.int .i64 0) := by simp [World.cell?, H5.out.2.1]
        have df : ∀ q, w6.frozen? ⟨sb, q, none⟩ = false := fun q => by simp [World.frozen?, H5.out.2.1]
        have g0 : w6.cell? ⟨rb, 0, none⟩ = some (.bool false) := by simp [World.cell?, H5.out.2.2]
        have g1 : w6.cell? ⟨rb, 1, none⟩ = some (.bool false) := by simp [World.cell?, H5.out.2.2]
        have g2 : w6.cell? ⟨rb, 2, none⟩ = some (.int .i64 0) := by simp [World.cell?, H5.out.2.2]
        have gf : ∀ q, w6.frozen? ⟨rb, q, none⟩ = false := fun q => by simp [World.frozen?, H5.out.2.2]
        have hsl := lt_of_block H5.out.2.1
        have hgl := lt_of_block H5.out.2.2
        have hsr : sb ≠ rb := fun e => hrs e.symm
        have hwsb : w.heap.size ≤ sb := by have := HW4.out.2; omega
        have m1 : sb ≠ 6 := by omega
        have m2 : 6 ≠ sb := by omega
        have hqn : IntKind.i64.wrap (-(qq : Int)) = -(qq : Int) := by rw [IntKind.wrap_i64]; omega
        clear hp hpt hrr etl htt hng hqq hE6
        go_wp2_with fail
        refine HCn.out.mono ?_
        rintro e w7 ⟨rfl, ew⟩
        subst ew
        by_cases hq0 : qq = 0
        · subst hq0
          have HF : Hid (rowR nm (bl s) 4 0 = .inl 6) := by
            show _ = _
            rw [HRow.out, HNR.out, if_pos rfl]
          go_wp2_with (first
            | (at_lookup; refine wpList_lookup_own_int _ rfl _ _ 53 rfl 9 3 .i64 lawStr Tryd.underlying53 Tryd.underlying3 (zeroIntW _) b m D rfl hown6 (.string ⟨tt.toArray⟩) kl rfl hkl ?_; intro c hat hwc; (obtain rfl : c = 0 := (by rw [hat0] at hat; injection hat with hat; injection hat with _ hat; exact hat.symm)); clear hat hwc)
            | go_in)
          go_region
          all_goals
            go_wp2
            refine bodyPost_ret (v := .tuple #[.agg #[.bool false, .bool false, .int .i64 0], .iface 107 (.pointer (some (p 6)))]) (by simp [results, Tryd.results19, go_sem, g0, g1, g2]) rfl ?_
            refine ⟨?_, ?_⟩
            · rw [HF.out]
              exact rfl
            · exact (((((H5.out.1.setCell (p := ⟨sb, 2, none⟩) hwsb _).setCell (p := ⟨rb, 0, none⟩) hrw _).setCell (p := ⟨rb, 1, none⟩) hrw _).setCell (p := ⟨rb, 2, none⟩) hrw _)).drew
        · have hqz : ¬ (qq : Int) = 0 := by omega
          have HF : Hid (rowR nm (bl s) 4 0 = .inr (false, true, if ng then -(qq : Int) else (qq : Int))) := by
            show _ = _
            rw [HRow.out, HNR.out, if_neg hq0]
          cases ng with
          | false =>
            go_wp2_with (first
              | (at_lookup; refine wpList_lookup_own_int _ rfl _ _ 53 rfl 9 3 .i64 lawStr Tryd.underlying53 Tryd.underlying3 (zeroIntW _) b m D rfl hown6 (.string ⟨tt.toArray⟩) kl rfl hkl ?_; intro c hat hwc; (obtain rfl : c = (qq : Int) := (by rw [hat0] at hat; injection hat with hat; injection hat with _ hat; exact hat.symm)); clear hat hwc)
              | go_in)
            refine bodyPost_ret (v := .tuple #[.agg #[.bool false, .bool true, .int .i64 (qq : Int)], .nilIface]) (by simp [results, Tryd.results19, go_sem, g0, g1, g2]) rfl ?_
            refine ⟨?_, ?_⟩
            · rw [HF.out]
              exact rfl
            · exact ((((H5.out.1.setCell (p := ⟨sb, 2, none⟩) hwsb _).setCell (p := ⟨rb, 0, none⟩) hrw _).setCell (p := ⟨rb, 1, none⟩) hrw _).setCell (p := ⟨rb, 2, none⟩) hrw _)
          | true =>
            go_wp2_with (first
              | (at_lookup; refine wpList_lookup_own_int _ rfl _ _ 53 rfl 9 3 .i64 lawStr Tryd.underlying53 Tryd.underlying3 (zeroIntW _) b m D rfl hown6 (.string ⟨tt.toArray⟩) kl rfl hkl ?_; intro c hat hwc; (obtain rfl : c = (qq : Int) := (by rw [hat0] at hat; injection hat with hat; injection hat with _ hat; exact hat.symm)); clear hat hwc)
              | go_in)
            refine bodyPost_ret (v := .tuple #[.agg #[.bool false, .bool true, .int .i64 (-(qq : Int))], .nilIface]) (by simp [results, Tryd.results19, go_sem, g0, g1, g2]) rfl ?_
            refine ⟨?_, ?_⟩
            · rw [HF.out]
              exact rfl
            · exact (((((H5.out.1.setCell (p := ⟨sb, 2, none⟩) hwsb _).setCell (p := ⟨sb, 2, none⟩) hwsb _).setCell (p := ⟨rb, 0, none⟩) hrw _).setCell (p := ⟨rb, 1, none⟩) hrw _).setCell (p := ⟨rb, 2, none⟩) hrw _)
      · have hpf : Lib.hasPrefix s.data.toList (wordB false true).data.toList = false := by simpa using hp
        have HR : Hid (rowR nm (bl s) 4 0 = rowR nm (bl s) (4 - 3) 3) := by
          show _ = _
          try rw [H4.out.2.2.2]
          show (if Lib.hasPrefix (bl s) (bl (wordB false true)) = true then _ else _) = _
          rw [if_neg hp]
        rw [hpf]
        clear hp
        go_wp2
        go_roundw
        case rel => exact ⟨3, by omega, by go_num, HR.out, H5.out.1, H5.out.2.2⟩
        case measure => simp [RowKit.intOf]
    · obtain ⟨W4, hW4⟩ : ∃ W4 : World, W4 = w3.alloc (.cells #[.bool false, .bool false, .int .i64 0] 26) := ⟨_, rfl⟩
      obtain ⟨sb, hsb⟩ : ∃ sb, sb = w3.heap.size := ⟨_, rfl⟩
      have hb4 : Below w3.heap.size w3 W4 := by rw [hW4]; exact (Below.refl _ _).alloc (Nat.le_refl _) _
      have hk4 : W4.heap[sb]? = some (.cells #[.bool false, .bool false, .int .i64 0] 26 (0, 0)) := by rw [hW4, hsb]; exact blk_new _ _
      have c0 : W4.cell? ⟨sb, 0, none⟩ = some (.bool false) := by simp [World.cell?, hk4]
      have c1 : W4.cell? ⟨sb, 1, none⟩ = some (.bool false) := by simp [World.cell?, hk4]
      have c2 : W4.cell? ⟨sb, 2, none⟩ = some (.int .i64 0) := by simp [World.cell?, hk4]
      have HWd := hidLL (words_p false false 0 W4)
      have HW4 := hidLL (And.intro hW4 hsb)
      have hrs : rb ≠ sb := by omega
      have hws3 : w.heap.size ≤ w3.heap.size := hbel.size
      have H4 := hidLL (And.intro (hbel.trans (hb4.mono hbel.size)) (And.intro hk4 (And.intro ((hb4.block rb rl).trans hk) hR)))
      clear hW4 hsb hb4 hk4 hbel hk hR r0 r1 r2 rf rl
      have hix := idx3 w3
      unfold kindsV at hix
      go_upto_region 4 with fail
      rw [← HW4.out.1, ← HW4.out.2]
      clear hix
      go_wp2_with fail
      refine HWd.out.mono ?_
      rintro e w5 ⟨rfl, hb5⟩
      have HCp := hidLL (Tryd.strings_CutPrefix s (wordB false false) w5)
      have hk5 := (hb5.block sb (lt_of_block H4.out.2.1)).trans H4.out.2.1
      have hkr5 := (hb5.block rb (lt_of_block H4.out.2.2.1)).trans H4.out.2.2.1
      have H5 := hidLL (And.intro (H4.out.1.trans (hb5.mono H4.out.1.size)) (And.intro hk5 hkr5))
      clear hb5 hk5 hkr5 c0 c1 c2
      go_wp2_with fail
      refine HCp.out.mono ?_
      rintro e w6 ⟨rfl, ew⟩
      subst ew
      by_cases hp : Lib.hasPrefix (bl s) (bl (wordB false false)) = true
      · have hpt : Lib.hasPrefix s.data.toList (wordB false false).data.toList = true := hp
        obtain ⟨rr, hrr⟩ : ∃ rr, rr = Lib.trimPrefix s.data.toList (wordB false false).data.toList := ⟨_, rfl⟩
        have HRow : Hid (rowR nm (bl s) 4 0 = nameR nm false false rr) := by
          show _ = _
          try rw [H4.out.2.2.2]
          show (if Lib.hasPrefix (bl s) (bl (wordB false false)) = true then _ else _) = _
          rw [if_pos hp, hrr]
          rfl
        have hrl : rr.length ≤ 1000000 := by
          rw [hrr]
          unfold Lib.trimPrefix
          have h9 : s.data.toList.length = s.size := size_bl s
          rw [if_pos hpt, List.length_drop]
          omega
        rw [hpt, ← hrr]
        have HCn := hidLL (Tryd.strings_CutPrefix ⟨rr.toArray⟩ ⟨#[110, 111, 116, 32]⟩ w6)
        have etl : (⟨rr.toArray⟩ : ByteArray).data.toList = rr := by simp
        rw [etl] at HCn
        obtain ⟨tt, htt⟩ : ∃ tt, tt = Lib.trimPrefix rr (⟨#[110, 111, 116, 32]⟩ : ByteArray).data.toList := ⟨_, rfl⟩
        obtain ⟨ng, hng⟩ : ∃ ng, ng = Lib.hasPrefix rr (⟨#[110, 111, 116, 32]⟩ : ByteArray).data.toList := ⟨_, rfl⟩
        have htl : tt.length ≤ 1000000 := by
          rw [htt]
          unfold Lib.trimPrefix
          split
          · rw [List.length_drop]; omega
          · omega
        rw [← htt, ← hng] at HCn
        obtain ⟨kl, hkl⟩ := keyStr ⟨tt.toArray⟩ (by show tt.toArray.size ≤ _; simp; omega)
        have hat0 := HL.out.at' _ kl hkl
        obtain ⟨qq, hqq⟩ : ∃ qq, qq = numOf nm ⟨tt.toArray⟩ := ⟨_, rfl⟩
        have hql : qq ≤ 1000 := by rw [hqq]; exact Nat.le_trans (numOf_le _ _) hnm
        have HNR : Hid (nameR nm false false rr = if qq = 0 then .inl 6 else .inr (false, false, if ng then -(qq : Int) else (qq : Int))) := by
          show _ = _
          unfold nameR
          rw [hqq, htt, hng]
          rfl
        rw [← hqq] at hat0
        obtain ⟨hE6, hown6⟩ := HX.out w6 H5.out.1
        have e6 := hE6.n
        have d0 : w6.cell? ⟨sb, 0, none⟩ = some (.bool false) := by simp [World.cell?, H5.out.2.1]
        have d1 : w6.cell? ⟨sb, 1, none⟩ = some (.bool false) := by simp [World.cell?, H5.out.2.1]
        have d2 : w6.cell? ⟨sb, 2, none⟩ = some (.int .i64 0) := by simp [World.cell?, H5.out.2.1]
        have df : ∀ q, w6.frozen? ⟨sb, q, none⟩ = false := fun q => by simp [World.frozen?, H5.out.2.1]
        have g0 : w6.cell? ⟨rb, 0, none⟩ = some (.bool false) := by simp [World.cell?, H5.out.2.2]
        have g1 : w6.cell? ⟨rb, 1, none⟩ = some (.bool false) := by simp [World.cell?, H5.out.2.2]
        have g2 : w6.cell? ⟨rb, 2, none⟩ = some (.int .i64 0) := by simp [World.cell?, H5.out.2.2]
        have gf : ∀ q, w6.frozen? ⟨rb, q, none⟩ = false := fun q => by simp [World.frozen?, H5.out.2.2]
        have hsl := lt_of_block H5.out.2.1
        have hgl := lt_of_block H5.out.2.2
        have hsr : sb ≠ rb := fun e => hrs e.symm
        have hwsb : w.heap.size ≤ sb := by have := HW4.out.2; omega
        have m1 : sb ≠ 6 := by omega
        have m2 : 6 ≠ sb := by omega
        have hqn : IntKind.i64.wrap (-(qq : Int)) = -(qq : Int) := by rw [IntKind.wrap_i64]; omega
        clear hp hpt hrr etl htt hng hqq hE6
        go_wp2_with fail
        refine HCn.out.mono ?_
        rintro e w7 ⟨rfl, ew⟩
        subst ew
        by_cases hq0 : qq = 0
        · subst hq0
          have HF : Hid (rowR nm (bl s) 4 0 = .inl 6) := by
            show _ = _
            rw [HRow.out, HNR.out, if_pos rfl]
          go_wp2_with (first
            | (at_lookup; refine wpList_lookup_own_int _ rfl _ _ 53 rfl 9 3 .i64 lawStr Tryd.underlying53 Tryd.underlying3 (zeroIntW _) b m D rfl hown6 (.string ⟨tt.toArray⟩) kl rfl hkl ?_; intro c hat hwc; (obtain rfl : c = 0 := (by rw [hat0] at hat; injection hat with hat; injection hat with _ hat; exact hat.symm)); clear hat hwc)
            | go_in)
          go_region
          all_goals
            go_wp2
            refine bodyPost_ret (v := .tuple #[.agg #[.bool false, .bool false, .int .i64 0], .iface 107 (.pointer (some (p 6)))]) (by simp [results, Tryd.results19, go_sem, g0, g1, g2]) rfl ?_
            refine ⟨?_, ?_⟩
            · rw [HF.out]
              exact rfl
            · exact (((((H5.out.1.setCell (p := ⟨sb, 2, none⟩) hwsb _).setCell (p := ⟨rb, 0, none⟩) hrw _).setCell (p := ⟨rb, 1, none⟩) hrw _).setCell (p := ⟨rb, 2, none⟩) hrw _)).drew
        · have hqz : ¬ (qq : Int) = 0 := by omega
          have HF : Hid (rowR nm (bl s) 4 0 = .inr (false, false, if ng then -(qq : Int) else (qq : Int))) := by
            show _ = _
            rw [HRow.out, HNR.out, if_neg hq0]
          cases ng with
          | false =>
            go_wp2_with (first
              | (at_lookup; refine wpList_lookup_own_int _ rfl _ _ 53 rfl 9 3 .i64 lawStr Tryd.underlying53 Tryd.underlying3 (zeroIntW _) b m D rfl hown6 (.string ⟨tt.toArray⟩) kl rfl hkl ?_; intro c hat hwc; (obtain rfl : c = (qq : Int) := (by rw [hat0] at hat; injection hat with hat; injection hat with _ hat; exact hat.symm)); clear hat hwc)
              | go_in)
            refine bodyPost_ret (v := .tuple #[.agg #[.bool false, .bool false, .int .i64 (qq : Int)], .nilIface]) (by simp [results, Tryd.results19, go_sem, g0, g1, g2]) rfl ?_
            refine ⟨?_, ?_⟩
            · rw [HF.out]
              exact rfl
            · exact ((((H5.out.1.setCell (p := ⟨sb, 2, none⟩) hwsb _).setCell (p := ⟨rb, 0, none⟩) hrw _).setCell (p := ⟨rb, 1, none⟩) hrw _).setCell (p := ⟨rb, 2, none⟩) hrw _)
          | true =>
            go_wp2_with (first
              | (at_lookup; refine wpList_lookup_own_int _ rfl _ _ 53 rfl 9 3 .i64 lawStr Tryd.underlying53 Tryd.underlying3 (zeroIntW _) b m D rfl hown6 (.string ⟨tt.toArray⟩) kl rfl hkl ?_; intro c hat hwc; (obtain rfl : c = (qq : Int) := (by rw [hat0] at hat; injection hat with hat; injection hat with _ hat; exact hat.symm)); clear hat hwc)
              | go_in)
            refine bodyPost_ret (v := .tuple #[.agg #[.bool false, .bool false, .int .i64 (-(qq : Int))], .nilIface]) (by simp [results, Tryd.results19, go_sem, g0, g1, g2]) rfl ?_
            refine ⟨?_, ?_⟩
            · rw [HF.out]
              exact rfl
            · exact (((((H5.out.1.setCell (p := ⟨sb, 2, none⟩) hwsb _).setCell (p := ⟨sb, 2, none⟩) hwsb _).setCell (p := ⟨rb, 0, none⟩) hrw _).setCell (p := ⟨rb, 1, none⟩) hrw _).setCell (p := ⟨rb, 2, none⟩) hrw _)
      · have hpf : Lib.hasPrefix s.data.toList (wordB false false).data.toList = false := by simpa using hp
        have HR : Hid (rowR nm (bl s) 4 0 = rowR nm (bl s) (4 - 4) 4) := by
          show _ = _
          try rw [H4.out.2.2.2]
          show (if Lib.hasPrefix (bl s) (bl (wordB false false)) = true then _ else _) = _
          rw [if_neg hp]
        rw [hpf]
        clear hp
        go_wp2
        go_roundw
        case rel => exact ⟨4, by omega, by go_num, HR.out, H5.out.1, H5.out.2.2⟩
        case measure => simp [RowKit.intOf]
    · have t0 := (HX.out w3 hbel).1.t
      have HQ := hidLL (And.intro hR hbel)
      clear hR hbel hk
      go_wp2_with fail
      go_region
      all_goals
        go_wp2
        refine bodyPost_ret (v := .tuple #[.agg #[.bool false, .bool false, .int .i64 0], .iface 107 (.pointer (some (p 0)))]) (by simp [results, Tryd.results19, go_sem, r0, r1, r2]) rfl ?_
        refine ⟨?_, ?_⟩
        · rw [HQ.out.1]
          rfl
        · exact ((((HQ.out.2.setCell (p := ⟨rb, 0, none⟩) hrw _).setCell (p := ⟨rb, 1, none⟩) hrw _).setCell (p := ⟨rb, 2, none⟩) hrw _)).drew
end Go.Proofs.YtfnlcblalieolaaDoor
