/-
  Ledgers, the program: Sheet.
-/
import Derived.Test.YtdeccdmplmclmaaGreatDoorLkEnt
namespace Go.Proofs.YtdeccdmplmclmaaGreatDoor
open Go.RowKit Go.Extern.Stop Go.Stop Go.Extern

theorem wordB_size {a : ByteArray} (h : isWordB a = true) : a.size ≤ 24 := by
  unfold isWordB at h
  rw [Bool.and_eq_true, Bool.and_eq_true] at h
  have := h.1.2
  simpa using this
theorem name_size {a : ByteArray} {L : List En} (hL : Good L) (h : hasL a L = true) : a.size ≤ 24 := by
  obtain ⟨e, he, x, hx, rfl⟩ := hasL_iff.1 h
  exact wordB_size ((hL.each e he).2.2.2.2.2 x hx)
/-- The lines of a sheet. -/
def sheetL (L : List En) (N : List ByteArray) : List Ln := N.map fun a => ⟨a, balE a L⟩
theorem sheetL_snoc (L : List En) (N : List ByteArray) (a : ByteArray) : sheetL L (N ++ [a]) = sheetL L N ++ [⟨a, balE a L⟩] := by unfold sheetL; rw [List.map_append]; rfl
/-- What Sheet answers. -/
def ShR (w : World) (L : List En) (e : Ending) (w' : World) : Prop := (∃ a m c N, e = .returned (.tuple #[.slice a m c, .nilIface]) ∧ RowG lnE 49 w' w.heap.size (.slice a m c) (sheetL L N) ∧ NamesOf N L ∧ N.length ≤ 16000) ∧ Below w.heap.size w w'
set_option maxHeartbeats 4000000 in
set_option maxRecDepth 20000 in
theorem sheet_p {n c : Nat} {a : Option Addr} {L : List En} {p : Nat → Addr} {w : World} (hR : NRd enN w (· < w.heap.size) (.slice a n c) L) (hL : Good L) (hT : ∀ x, x ∈ L → x.text.size ≤ 1000) (hs : SentL w p) : Calls Tryz.prog 13 #[.slice a n c] w (ShR w L) := by
  have hn : n = L.length := hR.len.1
  have hn4 : n ≤ 400 := by have := hL.len; omega
  have HR := hidLL (And.intro hR hn)
  have HL := hidLL hL
  have HT := hidLL hT
  have HS := hidLL hs
  have HN := hidLL (new_p (w := w))
  clear hR hL hT hs hn
  go_enter Tryz.func13, Tryz.ntmps13
  go_wp2_with fail
  refine HN.out.mono ?_
  rintro e w1 ⟨rfl, ew⟩
  have HG0 : Hid (LG w1 w.heap.size w.heap.size (.slice none 0 0) (.map none) [] ∧ Below w.heap.size w w1) := by rw [ew]; exact ⟨LG.new w, bel1 _ _⟩
  clear ew HN
  go_wp2_with fail
  go_loopw [14] (fun t wr => ∃ (i : Nat), i ≤ n ∧ t = .int .i64 i ∧ (∃ v mv, LG wr w.heap.size w.heap.size v mv (L.take i)) ∧ Below w.heap.size w wr) (fun t _ => n - (RowKit.intOf t).toNat)
  case atStart => exact ⟨0, by omega, rfl, ⟨_, _, HG0.out.1⟩, HG0.out.2⟩
  case round =>
    clear HG0
    obtain ⟨i, hi, rfl, ⟨v, mv, hG⟩, hb⟩ := hrel
    have HB := hidLL hb
    have HG := hidLL hG
    have hws := hb.size
    clear hb hG
    by_cases hlt : i < n
    · have c0 : decide ((i : Int) < n) = true := by simp; omega
      have hiz : (i : Int) < n := by omega
      obtain ⟨x, hx, _⟩ := get_in (l := L) (i := i) (by have := HR.out.2; omega)
      obtain ⟨g, o, sa, sn, sc, rfl, hg, q0, q1, q2, hln⟩ := en_at (HR.out.1.below HB.out) hx
      have HX := hidLL (And.intro hln (And.intro (HL.out.at i x hx).none (HT.out x (List.mem_of_getElem? hx))))
      have HTk := hidLL (take_succ' hx)
      obtain ⟨dy, tx, ls⟩ := x
      simp only at q0 q1
      obtain ⟨W, hW⟩ : ∃ W, W = wr.alloc (.cells #[.int .i64 dy, .string tx, .slice sa sn sc] 36) := ⟨_, rfl⟩
      have hbW : Below wr.heap.size wr W := by rw [hW]; exact bel1 _ _
      have hWs : wr.heap.size < W.heap.size := by rw [hW]; simp
      have hbk : W.heap[wr.heap.size]? = some (.cells #[.int .i64 dy, .string tx, .slice sa sn sc] 36 (0, 0)) := by rw [hW]; exact Go.Deep.blk_alloc_new wr _
      have z0 : W.cell? ⟨wr.heap.size, 0, none⟩ = some (.int .i64 dy) := by rw [cell_of_row _ _ 0 _ _ _ hbk]; rfl
      have z1 : W.cell? ⟨wr.heap.size, 1, none⟩ = some (.string tx) := by rw [cell_of_row _ _ 1 _ _ _ hbk]; rfl
      have z2 : W.cell? ⟨wr.heap.size, 2, none⟩ = some (.slice sa sn sc) := by rw [cell_of_row _ _ 2 _ _ _ hbk]; rfl
      have HBW : Hid (Below w.heap.size w W) := HB.out.trans (hbW.mono hws)
      have HP := hidLL (post_p (dy := dy) (tx := tx) (ls := ls) (p := p) (HG.out.below hbW) (HL.out.take i) (show RdS lnE W (· < W.heap.size) (.slice sa sn sc) ls from HX.out.1.on fun k hk => ⟨show k < W.heap.size by have : k < w.heap.size := hk; omega, hbW.block k (by have : k < w.heap.size := hk; omega)⟩) (HS.out.below (HBW.out)) (by have := HX.out.2.2; show tx.size ≤ _; have h3 : tx.size ≤ 1000 := this; omega) (by omega))
      clear hx hln hbk hbW
      go_upto_region 5 with fail
      rw [← hW]
      clear hW
      go_wp2_with fail
      refine HP.out.mono ?_
      clear HP
      rintro e w2 hP
      unfold PostR at hP
      rw [HX.out.2.1] at hP
      obtain ⟨rfl, ⟨v2, mv2, hG2⟩, hF⟩ := hP
      rw [← HTk.out] at hG2
      have H2 := hidLL (And.intro hG2 (HBW.out.trans hF.below))
      clear hG2 hF z0 z1 z2 q0 q1 q2
      go_wp2
      go_roundw
      case rel => exact ⟨i + 1, hlt, by go_num, ⟨_, _, H2.out.1⟩, H2.out.2⟩
      case measure => simp [RowKit.intOf]; omega
    · have c0 : decide ((i : Int) < n) = false := by simp; omega
      have hfull : L.take i = L := List.take_of_length_le (by have := HR.out.2; omega)
      have hG2 := HG.out
      rw [hfull] at hG2
      have HG2 := hidLL hG2
      have HA := hidLL (accounts_p hG2 HL.out)
      have e1 := hG2.c1
      have hgl := hG2.lt
      clear HG hG2 hfull
      go_wp2_with fail
      refine HA.out.mono ?_
      clear HA
      rintro e w2 ⟨⟨na, nm, nc, N, rfl, hr2, hN, hN16⟩, hb2⟩
      have HB2 := hidLL hb2
      have HNm := hidLL (And.intro hN hN16)
      have HRd := hidLL hr2.rd
      have hnm : nm = N.length := hr2.rd.len.1
      have e2 : w2.cell? ⟨w.heap.size, 1, none⟩ = some mv := (hb2.cell (p := ⟨w.heap.size, 1, none⟩) hgl).trans e1
      have HM2 := hidLL (HG2.out.map.below hb2)
      have hgl2 : w.heap.size < w2.heap.size := by have := hb2.size; omega
      have hb02 : Hid (Below w.heap.size w w2) := HB.out.trans (hb2.mono hws)
      clear hb2 hr2 hN e1 HG2
      go_wp2_with fail
      go_loopw [8, 33] (fun s t wq => ∃ (k : Nat) (ra : Option Addr) (rn rc : Nat), k ≤ nm ∧ s = .slice ra rn rc ∧ t = .int .i64 k ∧ RowG lnE 49 wq w2.heap.size (.slice ra rn rc) (sheetL L (N.take k)) ∧ Below w2.heap.size w2 wq) (fun _ t _ => nm - (RowKit.intOf t).toNat)
      case atStart => exact ⟨0, _, _, _, by omega, rfl, rfl, RowG.nil _ _, Below.refl _ _⟩
      case round =>
        obtain ⟨k, ra, rn, rc, hk, rfl, rfl, hrow, hbq⟩ := hrel
        have HRow := hidLL hrow
        have HBq := hidLL hbq
        have hqs := hbq.size
        clear hrow hbq
        by_cases hkl : k < nm
        · have c1 : decide ((k : Int) < nm) = true := by simp; omega
          have hkz : (k : Int) < nm := by omega
          obtain ⟨y, hy, _⟩ := get_in (l := N) (i := k) (by omega)
          obtain ⟨g, o, rfl, hg, hrg⟩ := HRd.out.at hy
          have p0 : wr.cell? ⟨g, o + k, none⟩ = some (.string y) := by
            have h1 := hrg 0 (.string y) rfl
            have hk1 : strE.k = 1 := rfl
            rw [hk1, Nat.mul_one, Nat.add_zero] at h1
            exact (HBq.out.cell (p := ⟨g, o + k, none⟩) hg).trans h1
          have e3 : wr.cell? ⟨w.heap.size, 1, none⟩ = some mv := (HBq.out.cell (p := ⟨w.heap.size, 1, none⟩) hgl2).trans e2
          have hys : y.size ≤ 24 := name_size HL.out ((HNm.out.1.mem y).1 (List.mem_of_getElem? hy))
          have l1 := look_bal (HM2.out.below HBq.out) (a := y) (by omega)
          have HTk : Hid (sheetL L (N.take (k + 1)) = sheetL L (N.take k) ++ [⟨y, balE y L⟩]) := by show _ = _; rw [take_succ' hy, sheetL_snoc]
          have hlen : (sheetL L (N.take k)).length + 1 ≤ 1000000 := by have := HNm.out.2; unfold sheetL; rw [List.length_map, List.length_take]; omega
          generalize balE y L = by' at *
          clear hrg hy
          go_wp2_with (at_builtin; refine wpList_push_g (E := lnE) Tryz.infoLn (by decide) Tryz.underlying34 rfl (.tmp 37) (.tmp 46) rfl w2.heap.size (.slice ra rn rc) (sheetL L (N.take k)) ⟨y, by'⟩ _ rfl rfl HRow.out (by first | (simp [Act.eval]; done) | simp [Act.eval, Act.put]) (by omega) hlen ?_; intro v' w5 hr5 hb5 _ _; obtain ⟨pa5, pn5, pc5, rfl, hp5⟩ := hr5.any3; have HR5 := hidLL hr5; have HB5 := hidLL (HBq.out.trans hb5); clear hr5 hb5 hp5)
          go_roundw
          case rel => exact ⟨k + 1, _, _, _, hkl, rfl, by go_num, by rw [HTk.out]; exact HR5.out, HB5.out⟩
          case measure => simp [RowKit.intOf]; omega
        · have c1 : decide ((k : Int) < nm) = false := by simp; omega
          have HF : Hid (RowG lnE 49 wr w.heap.size (.slice ra rn rc) (sheetL L N)) := by
            have h1 := HRow.out
            rw [show N.take k = N from List.take_of_length_le (by omega)] at h1
            exact h1.mono (by omega)
          go_wp2
          go_ret2
          exact ⟨⟨_, _, _, N, rfl, HF.out, HNm.out.1, HNm.out.2⟩, hb02.out.trans (HBq.out.mono (by omega))⟩
end Go.Proofs.YtdeccdmplmclmaaGreatDoor
