/-
  Plans: hasRing, the program.
-/
import Derived.Test.YtpijiglmjkdlgaaDoorSA
import Derived.Test.YtpijiglmjkdlgaaDoorOr3
namespace Go.Proofs.YtpijiglmjkdlgaaDoor
open Go.RowKit Go.Maps

def prE : Enc (Int × Int) := ⟨fun x => [.int .i64 x.1, .int .i64 x.2], 2, by decide, fun _ => rfl, fun m u h => by
  simp only [List.mem_cons, List.not_mem_nil, or_false] at h
  rcases h with rfl | rfl <;> rfl⟩
theorem Tryd.infoPr : ∃ i z, Tryd.prog.info? 89 = some i ∧ i.zero = some z ∧ i.size = prE.k ∧ i.bytes = 16 ∧ z.cells.size = prE.k := by
  have h : (Tryd.prog.info? 89).map (fun i => (i.zero, i.size, i.bytes)) = some (some (.agg #[.int .i64 0, .int .i64 0]), 2, 16) := by kernel_rfl
  obtain ⟨i, h1, h2⟩ := Option.map_eq_some_iff.1 h
  simp only [Prod.mk.injEq] at h2
  exact ⟨i, _, h1, h2.1, h2.2.1, h2.2.2, rfl⟩
/-- The pairs so far. -/
noncomputable def Pn.freeT (p : Pn) (j : Nat) : List (Int × Int) := ((p.mvs.take j).filter fun m => decide (m.most = 0)).map fun m => ((ixS p.stL m.fr : Int), (ixS p.stL m.tt : Int))
theorem freeT_0 (p : Pn) : p.freeT 0 = [] := by simp [Pn.freeT]
theorem freeT_yes {p : Pn} {j : Nat} {m : Mv} (h : p.mvs[j]? = some m) (h0 : m.most = 0) : p.freeT (j + 1) = p.freeT j ++ [((ixS p.stL m.fr : Int), (ixS p.stL m.tt : Int))] := by
  unfold Pn.freeT
  rw [List.take_add_one, h]
  simp [List.filter_append, h0]
theorem freeT_no {p : Pn} {j : Nat} {m : Mv} (h : p.mvs[j]? = some m) (h0 : ¬ m.most = 0) : p.freeT (j + 1) = p.freeT j := by
  unfold Pn.freeT
  rw [List.take_add_one, h]
  simp [List.filter_append, h0]
theorem freeT_all (p : Pn) {j : Nat} (h : p.mvs.length ≤ j) : p.freeT j = p.free := by
  unfold Pn.freeT Pn.free
  rw [List.take_of_length_le h]
theorem freeT_len (p : Pn) (j : Nat) : (p.freeT j).length ≤ p.mvs.length := by
  unfold Pn.freeT
  rw [List.length_map]
  refine Nat.le_trans (List.length_filter_le _ _) ?_
  rw [List.length_take]
  omega
theorem thy_mem {p : Pn} {w : World} {B : Nat} {v : Value} (h : RdG prE w B v p.free) (h1 : p.stL.length ≤ 120) (hL : p.free.length ≤ 1000000) : TM w B p.thy (.slice none p.stL.length 0) v := by
  refine ⟨⟨none, 0, by rw [thy_len], by rw [thy_len]; omega, trivial⟩, ?_⟩
  obtain ⟨a, c, e, hl, hx⟩ := h
  refine ⟨a, c, e, ?_, fun i x hi => ?_⟩
  · show p.free.length ≤ _
    have : p.free.length ≤ 1000000 := hL
    omega
  · obtain ⟨g, o, h1, h2, h3⟩ := hx i x hi
    exact ⟨g, o, h1, h2, h3 0 _ rfl, h3 1 _ rfl⟩
section
variable {w : World} {S : Nat → Prop} {p : Pn} {pf pm : SlV}
def RgR (w : World) (p : Pn) (e : Ending) (w' : World) : Prop := ∃ b : Bool, e = .returned (.bool b) ∧ (b = false ↔ Ranked p.thy) ∧ Below w.heap.size w w'
set_option maxHeartbeats 4000000 in
set_option maxRecDepth 20000 in
theorem ring_p (h : PnAt w S p pf pm) (hsz : ∀ s, s ∈ p.names → s.size ≤ maxLen) (hst : p.stL.length ≤ 120) (hmv : p.mvs.length ≤ 120) : Calls Tryd.prog 30 #[.agg #[.string p.start, .slice pf.a pf.n pf.c, .slice pm.a pm.n pm.c]] w (RgR w p) := by
  obtain ⟨W, hW⟩ : ∃ W, W = w.alloc (.cells #[.string p.start, .slice pf.a pf.n pf.c, .slice pm.a pm.n pm.c] 33) := ⟨_, rfl⟩
  obtain ⟨ab, hab⟩ : ∃ ab, ab = w.heap.size := ⟨_, rfl⟩
  have H : Hid (PBx w W ab S p pf pm) := by rw [hab]; exact PBx.mk0 h hW
  have HW := hidLL (And.intro hW hab)
  obtain ⟨hpn, hbig⟩ := h.mvs.len
  have HN := hidLL hpn
  have HZ := hidLL hsz
  have HLn := hidLL (And.intro hst hmv)
  obtain ⟨c0, c1, c2⟩ := H.out.cells
  have HC := hidLL (stages_p H.out.pn hsz)
  clear h hW hab hpn hsz hst hmv
  go_enter Tryd.func30, Tryd.ntmps30
  go_upto_region 1 with fail
  rw [← HW.out.1, ← HW.out.2]
  go_wp2_with fail
  refine HC.out.mono ?_
  rintro e V1 ⟨mb, rfl, hge, hst, hb1⟩
  have HP1 := hidLL (H.out.step hb1)
  have HS1 := hidLL hst
  obtain ⟨_, _, x2⟩ := HP1.out.cells
  clear hge hst hb1 HC c0 c1 c2 H HW
  obtain ⟨mn, hmn⟩ : ∃ mn, mn = pm.n := ⟨_, rfl⟩
  rw [← hmn] at x2 hbig
  have HMn := hidLL hmn
  clear hmn
  obtain ⟨B, hB⟩ : ∃ B, B = V1.heap.size := ⟨_, rfl⟩
  have HBB := hidLL hB
  go_wp2_with fail
  go_loopw [14, 4] (fun i sv wr => ∃ (j : Nat) (a : Option Addr) (n c : Nat), j ≤ mn ∧ i = .int .i64 j ∧ sv = .slice a n c ∧ RowG prE 89 wr B (.slice a n c) (p.freeT j) ∧ Below B V1 wr) (fun i _ _ => mn - (RowKit.intOf i).toNat)
  case atStart => exact ⟨0, _, _, _, by omega, rfl, rfl, by rw [freeT_0]; exact RowG.nil _ _, Below.refl _ _⟩
  case round =>
    obtain ⟨j, va, vn, vc, hj, rfl, rfl, hrow, hbel⟩ := hrel
    have HB : Hid (PBx w wr ab S p pf pm ∧ StAt wr mb p.stL) := by
      rw [HBB.out] at hbel
      exact ⟨HP1.out.step hbel, HS1.out.on (hbel.block _ HS1.out.lt)⟩
    have HR := hidLL (And.intro hrow hbel)
    have hBw : B ≤ wr.heap.size := by rw [HBB.out]; exact hbel.size
    have hmbB : mb < B := by rw [HBB.out]; exact HS1.out.lt
    clear hrow hbel x2 hB
    by_cases hlt : j < mn
    · have hjz : (j : Int) < mn := by omega
      obtain ⟨m, hm⟩ : ∃ m, p.mvs[j]? = some m := ⟨_, List.getElem?_eq_getElem (by have := HN.out; have := HMn.out; omega)⟩
      obtain ⟨g, o, hga, hg, hrg⟩ := HB.out.1.pn.mvs.at hm
      rw [show mvE.k = 8 from rfl] at hrg
      obtain ⟨y0, y1, y2, y3, y4, y5, y6, y7⟩ := mv_cells hrg
      obtain ⟨W3, hW3⟩ : ∃ W3, W3 = wr.alloc (.cells #[.string m.nm, .string m.fr, .string m.tt, .string m.wh, .int .i64 m.n, .int .i64 m.u, .int .i64 m.r, .int .i64 m.most] 57) := ⟨_, rfl⟩
      obtain ⟨xb, hxb⟩ : ∃ xb, xb = wr.heap.size := ⟨_, rfl⟩
      have hb3 : Below wr.heap.size wr W3 := by rw [hW3]; exact (Below.refl _ _).alloc (Nat.le_refl _) _
      have hbk : W3.heap[xb]? = some (.cells #[.string m.nm, .string m.fr, .string m.tt, .string m.wh, .int .i64 m.n, .int .i64 m.u, .int .i64 m.r, .int .i64 m.most] 57 (0, 0)) := by rw [hW3, hxb]; exact Go.Deep.blk_alloc_new wr _
      have n1 : W3.cell? ⟨xb, 1, none⟩ = some (.string m.fr) := by rw [cell_of_row _ xb 1 _ _ _ hbk]; rfl
      have n2 : W3.cell? ⟨xb, 2, none⟩ = some (.string m.tt) := by rw [cell_of_row _ xb 2 _ _ _ hbk]; rfl
      have n7 : W3.cell? ⟨xb, 7, none⟩ = some (.int .i64 m.most) := by rw [cell_of_row _ xb 7 _ _ _ hbk]; rfl
      obtain ⟨D, hMD, hID⟩ := HB.out.2.on (hb3.block mb HB.out.2.lt)
      have HM := hidLL hMD
      have hmem := fr_in hm
      have hnm := hmem
      rw [mem_stL, mem_stL] at hnm
      have HK1 := hidLL (keyA (HZ.out m.fr hnm.1))
      have HK2 := hidLL (keyA (HZ.out m.tt hnm.2))
      have HA1 := hidLL (hID.at' _ hmem.1)
      have HA2 := hidLL (hID.at' _ hmem.2)
      have HR3 : Hid (RowG prE 89 W3 B (.slice va vn vc) (p.freeT j) ∧ Below B V1 W3) := ⟨HR.out.1.below hb3, HR.out.2.trans (hb3.mono hBw)⟩
      have hB3 : B ≤ W3.heap.size := Nat.le_trans hBw hb3.size
      have hl0 : (p.freeT j).length + 1 ≤ 1000000 := by have := freeT_len p j; have := HLn.out.2; omega
      have HW3 := hidLL (And.intro hW3 hxb)
      have HY := hidLL (fun h0 => freeT_yes (p := p) hm h0)
      have HNo := hidLL (fun h0 => freeT_no (p := p) hm h0)
      rw [hga]
      clear hm hrg hg hga hW3 hxb hb3 hbk hmem hnm hMD hID HR HB
      generalize ixS p.stL m.fr = i1 at *
      generalize ixS p.stL m.tt = i2 at *
      by_cases h0 : m.most = 0
      · have H0 := hidLL h0
        clear h0
        go_upto_region 6 with fail
        rw [← HW3.out.1, ← HW3.out.2]
        clear y0 y1 y2 y3 y4 y5 y6 y7
        rw [H0.out] at n7
        go_wp2_with (first
          | (at_lookup; refine wpList_lookup_own_int _ rfl _ _ 68 rfl 9 3 .i64 lawStr Tryd.underlying68 Tryd.underlying3 (zeroIntW _) mb p.stL.length D rfl HM.out (.string m.fr) (kA m.fr) rfl HK1.out ?_; intro cc hcc hwc; (obtain rfl : cc = (i1 : Int) := (by rw [HA1.out] at hcc; injection hcc with hcc; injection hcc with _ hcc; exact hcc.symm)); clear hcc hwc)
          | (at_lookup; refine wpList_lookup_own_int _ rfl _ _ 68 rfl 9 3 .i64 lawStr Tryd.underlying68 Tryd.underlying3 (zeroIntW _) mb p.stL.length D rfl HM.out (.string m.tt) (kA m.tt) rfl HK2.out ?_; intro cc hcc hwc; (obtain rfl : cc = (i2 : Int) := (by rw [HA2.out] at hcc; injection hcc with hcc; injection hcc with _ hcc; exact hcc.symm)); clear hcc hwc)
          | (at_builtin; refine wpList_push_g (E := prE) Tryd.infoPr (by decide) Tryd.underlying88 rfl (.tmp 21) (.tmp 31) rfl B (.slice va vn vc) (p.freeT j) ((i1 : Int), (i2 : Int)) _ rfl rfl HR3.out.1 (by first | (simp [Act.eval]; done) | simp [Act.eval, Act.put]) hB3 hl0 ?_; intro v' w5 hr5 hb5 hk5 hv5; obtain ⟨pa5, pn5, pc5, rfl, hp5⟩ := hr5.any3; have H5 := hidLL (And.intro hr5 hb5); clear hr5 hb5 hk5 hv5 hp5))
        go_roundw
        case rel =>
          refine ⟨j + 1, pa5, pn5, pc5, by omega, by go_num, rfl, ?_, HR3.out.2.trans H5.out.2⟩
          rw [HY.out H0.out]
          exact H5.out.1
        case measure => simp [RowKit.intOf]; omega
      · have hb0 : (m.most == (0 : Int)) = false := by simpa using h0
        go_upto_region 6 with fail
        rw [← HW3.out.1, ← HW3.out.2]
        clear y0 y1 y2 y3 y4 y5 y6 y7
        go_wp2
        go_roundw
        case rel =>
          refine ⟨j + 1, va, vn, vc, by omega, by go_num, rfl, ?_, HR3.out.2⟩
          rw [HNo.out h0]
          exact HR3.out.1
        case measure => simp [RowKit.intOf]; omega
    · have hjz : ¬ (j : Int) < mn := by omega
      obtain ⟨D, hMD, hID⟩ := HB.out.2
      have HM := hidLL hMD
      have hsz := hID.size
      have HT : Hid (TM wr wr.heap.size p.thy (.slice none p.stL.length 0) (.slice va vn vc)) := by
        have h9 := HR.out.1.rd
        rw [freeT_all p (by have := HN.out; have := HMn.out; omega)] at h9
        exact thy_mem h9 HLn.out.1 (by have := free_len p; have := HLn.out.2; omega)
      have HO := hidLL (of_p (thy_ok HLn.out.1 HLn.out.2) HT.out (Nat.le_refl _))
      rw [thy_len] at HO
      clear hMD hID
      go_wp2_with (at_len; refine wpList_len_own _ rfl _ 68 rfl 9 3 Tryd.underlying68 _ mb p.stL.length D rfl HM.out ?_; rw [hsz])
      refine HO.out.mono ?_
      rintro e w6 ⟨v6, b6, rfl, hb6, hbl6⟩
      have H6 : Hid ((b6 = true ↔ Ranked p.thy) ∧ Below w.heap.size w w6) := ⟨hb6, HB.out.1.bel.trans (hbl6.mono HB.out.1.bel.size)⟩
      clear hb6 hbl6
      go_wp2
      go_ret
      refine ⟨!b6, rfl, ?_, H6.out.2⟩
      rw [← H6.out.1]
      cases b6 <;> simp
end
end Go.Proofs.YtpijiglmjkdlgaaDoor
