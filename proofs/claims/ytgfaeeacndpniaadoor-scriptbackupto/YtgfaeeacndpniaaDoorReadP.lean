/-
  Package script: Read.
-/
import Derived.Test.YtgfaeeacndpniaaDoorRowsOfP
import Derived.Test.YtgfaeeacndpniaaDoorMemBase
import Derived.BigRegion
import Derived.Deep.RegionWith
namespace Go.Proofs.YtgfaeeacndpniaaDoor
open Go.RowKit Go.Extern.Stop Go.Stop Go.Extern

def zAgg : Value := .agg #[.string ⟨#[]⟩, .string ⟨#[]⟩, .slice none 0 0, .slice none 0 0]
/-- What Read answers. -/
def ReadOut (p : Nat → Addr) (e : Ending) (w' : World) : Out → Prop
  | .bad c i => ∃ k blk, c = k + 1 ∧ k < 11 ∧ e = .returned (.tuple #[.agg #[.string ⟨#[]⟩, .string ⟨#[]⟩, .slice none 0 0, .slice none 0 0], .iface 61 (.pointer (some ⟨blk, 0, none⟩))]) ∧ w'.cell? ⟨blk, 0, none⟩ = some (.int .i64 i) ∧ w'.cell? ⟨blk, 0 + 1, none⟩ = some (.iface 129 (.pointer (some (p k))))
  | .good t => ∃ v : Nat → Value, e = .returned (.tuple #[.agg #[v 0, v 1, v 2, v 3], .nilIface]) ∧ Lies w' (fun _ => True) v t
/-- The reader, as far as it has come. -/
inductive RdAt (B br : Nat) (w2 : World) (rows : List ByteArray) (O : Out) (t : Value) (wr : World) : Prop
  | mk (i : Nat) (z : List It) (n : Nat) (h1 : i ≤ rows.length) (h2 : t = .int .i64 i) (h3 : Rd B br wr z n) (h4 : OkZ z n) (h5 : BelX B br w2 wr) (h6 : goR z n i (rows.drop i) = O)
theorem Rd.bel {B br : Nat} {w w' : World} {z : List It} {n : Nat} (h : Rd B br w z n) (hb : Below w.heap.size w w') : Rd B br w' z n := by
  obtain ⟨own, vo, V, K, hR⟩ := h
  exact ⟨own, vo, V, K, hR.below hb⟩
theorem Rd.start {w : World} {B br : Nat} (hB : B ≤ w.heap.size) (h : w.heap[br]? = some (.cells #[.slice none 0 0, .int .i64 0] 65 (0, 0))) : Rd B br w [] 0 := by
  refine ⟨fun _ => 0, .slice none 0 0, fun _ _ => .nilIface, fun _ _ _ => .nilIface, ⟨⟨hB, fun _ _ => rfl⟩, h, World.ownsRow_nil _ _ _ _, fun g e => ?_, rfl, fun j t e => ?_⟩⟩
  · cases e
  · cases e
theorem box2 (W : World) (a b : Value) (t : TypeId) (g : Nat) (hg : g = W.heap.size) : (W.alloc (.cells #[a, b] t)).cell? ⟨g, 0, none⟩ = some a ∧ (W.alloc (.cells #[a, b] t)).cell? ⟨g, 0 + 1, none⟩ = some b := by
  subst hg
  exact ⟨by simp, by simp⟩
theorem drew_bel {w w1 : World} (h : w1 = w ∨ w1 = w.drew) : Below w.heap.size w w1 := by
  rcases h with rfl | rfl
  · exact Below.refl _ _
  · exact (Below.refl _ _).drew
set_option maxHeartbeats 4000000 in
set_option maxRecDepth 10000 in
theorem read_long (s : ByteArray) (hs : 30000 < s.size) (p : Nat → Addr) (w : World) (hE : Laid w p) :
    Calls Tryd.prog 11 #[.string s] w fun e w' => ReadOut p e w' (readB s) ∧ Below w.heap.size w w' := by
  have HO : Hid (readB s = .bad 2 0) := by show _ = _; unfold readB; rw [if_pos hs]
  have c1 : w.cell? ⟨0, 0, none⟩ = some (.iface 129 (.pointer (some (p 1)))) := hE.cell 1 (by omega)
  have hlt := World.block_lt_of_cell? w ⟨0, 0, none⟩ c1
  have hlt2 : 0 ≠ w.heap.size := fun e => by rw [← e] at hlt; exact Nat.lt_irrefl _ hlt
  have hz : (30000 : Int) < s.size := by omega
  clear hE hs
  go_enter Tryd.func11, Tryd.ntmps11
  go_wp2_with fail
  go_region
  go_wp2
  refine bodyPost_ret (v := .tuple #[.agg #[.string ⟨#[]⟩, .string ⟨#[]⟩, .slice none 0 0, .slice none 0 0], .iface 61 (.pointer (some ⟨w.heap.size + 1, 0, none⟩))]) (by simp [results, Tryd.results11, go_sem]) rfl ?_
  refine ⟨by rw [HO.out]; exact ⟨1, w.heap.size + 1, rfl, by omega, rfl, by simp, by simp⟩, ?_⟩
  exact (((Below.refl _ _).alloc (Nat.le_refl _) _).alloc (by simp) _).drew
theorem Lies_of_open {B : Nat} {w : World} {own : Nat → Nat} {j : Nat} {v : Nat → Value} {t : It} {K : Nat → Nat → Value} (h : OpenAt B w own j v t K) : Lies w (fun _ => True) v t := h.lies.all
theorem goR_end0 {n i : Nat} {rows : List ByteArray} (h : rows.length ≤ i) : goR [] n i (rows.drop i) = .bad 1 i := by rw [goR_nil h, if_pos (show ([] : List It).length = 0 from rfl)]
theorem goR_end1 {z : List It} {n i : Nat} {rows : List ByteArray} (h : rows.length ≤ i) (hz : z.length ≠ 0) : goR z n i (rows.drop i) = .good (closeAll z) := by rw [goR_nil h, if_neg hz]
set_option maxHeartbeats 8000000 in
set_option maxRecDepth 10000 in
theorem read_short (s : ByteArray) (hs : s.size ≤ 30000) (p : Nat → Addr) (m : Int) (w : World) (hE : Env w p m) :
    Calls Tryd.prog 11 #[.string s] w fun e w' => ReadOut p e w' (readB s) ∧ Below w.heap.size w w' := by
  have HO : Hid (goR [] 0 0 (rowsB s) = readB s) := by show _ = _; unfold readB; rw [if_neg (by omega)]
  have HRo := hidLL (fun w hm => rowsOf_any s hs m w hm)
  have HE := hidLL hE
  have hz : (s.size : Int) ≤ 30000 := by omega
  have HRS := hidLL (fun x hx => rowsB_size s x hx)
  have hrl := rowsB_len s
  clear hE
  generalize readB s = O at *
  generalize rowsB s = rows at *
  go_enter Tryd.func11, Tryd.ntmps11
  go_wp2_with fail
  obtain ⟨w1, hw1⟩ : ∃ w1, w1 = (w.alloc (.cells #[.string ⟨#[]⟩, .string ⟨#[]⟩, .slice none 0 0, .slice none 0 0] 31)).alloc (.cells #[.slice none 0 0, .int .i64 0] 65) := ⟨_, rfl⟩
  have ha := alloc_two w (.cells #[.string ⟨#[]⟩, .string ⟨#[]⟩, .slice none 0 0, .slice none 0 0] 31) (.cells #[.slice none 0 0, .int .i64 0] 65)
  have hb1 : Below w.heap.size w ((w.alloc (.cells #[.string ⟨#[]⟩, .string ⟨#[]⟩, .slice none 0 0, .slice none 0 0] 31)).alloc (.cells #[.slice none 0 0, .int .i64 0] 65)) := ((Below.refl _ _).alloc (Nat.le_refl _) _).alloc (by simp) _
  have hs1 : ((w.alloc (.cells #[.string ⟨#[]⟩, .string ⟨#[]⟩, .slice none 0 0, .slice none 0 0] 31)).alloc (.cells #[.slice none 0 0, .int .i64 0] 65)).heap.size = w.heap.size + 2 := by simp
  rw [← hw1] at ha hb1 hs1
  rw [← hw1]
  clear hw1
  refine (HRo.out _ (HE.out.on hb1).M).mono ?_
  rintro e w2 ⟨⟨ra, rc, rfl, hT⟩, hb2⟩
  have hs2 := hb2.size
  have HT := hidLL hT
  have h0 : w2.heap[w.heap.size]? = _ := (hb2.block w.heap.size (by omega)).trans ha.1
  have h1 : w2.heap[w.heap.size + 1]? = _ := (hb2.block (w.heap.size + 1) (by omega)).trans ha.2
  have HB2 := hidLL (hb1.trans (hb2.mono (by omega)))
  have HR0 : Hid (Rd w2.heap.size (w.heap.size + 1) w2 [] 0) := Rd.start (Nat.le_refl _) h1
  have HH0 := hidLL h0
  have hlow : w.heap.size + 2 ≤ w2.heap.size := by omega
  rw [hs1] at HT
  clear ha hb1 hb2 h0 h1 hT hs1 hs2
  obtain ⟨rl, hrlen⟩ : ∃ rl, rl = rows.length := ⟨_, rfl⟩
  rw [← hrlen] at hrl
  rw [← hrlen]
  have HRL := hidLL hrlen
  clear hrlen
  go_wp2_with fail
  go_loopw [21] (fun t wr => RdAt w2.heap.size (w.heap.size + 1) w2 rows O t wr) (fun t _ => (rl - RowKit.intOf t).toNat)
  case atStart => exact ⟨0, [], 0, by omega, rfl, HR0.out, OkZ.start, BelX.refl _ _ _, by rw [List.drop_zero]; exact HO.out⟩
  case round =>
    obtain ⟨i, z, n, hi, rfl, hR, hOk, hbx, hgo⟩ := hrel
    have HR := hidLL hR
    have HOk := hidLL hOk
    have HX := hidLL hbx
    have HG := hidLL hgo
    have hsr := hbx.size
    have hrs : wr.heap[w.heap.size]? = _ := (hbx.block w.heap.size (by omega) (by omega)).trans HH0.out
    obtain ⟨q0, q1, q2, q3, qf⟩ := four hrs
    have HQ := hidLL hrs
    have hdeep := hOk.deep
    rw [← HRL.out] at hi
    clear hR hOk hbx hgo hrs
    by_cases hin : i < rl
    · have hiz : (i : Int) < rl := by omega
      obtain ⟨x, hx⟩ : ∃ x, rows[i]? = some x := ⟨_, List.getElem?_eq_getElem (by rw [← HRL.out]; exact hin)⟩
      have hxs := HRS.out x (List.mem_of_getElem? hx)
      obtain ⟨b, o, rfl, hbo, cx⟩ := HT.out i x hx
      have dx := (HX.out.cell (p := ⟨b, o + i, none⟩) (cell_lt cx) (by show b ≠ _; omega)).trans cx
      have HXx := hidLL hx
      have HTr := hidLL (fun W => Go.Proofs.Tryd.strings_Trim_one x 32 (by decide) W (by omega))
      have hbk := trim_blank x
      generalize (⟨(Lib.trimB x.data.toList 32).toArray⟩ : ByteArray) = tx at *
      clear cx hx
      cases hbl : blankB x
      · rw [hbl] at hbk
        have HBl := hidLL hbl
        have HTk := hidLL (fun W hR hW hBw => take_any w2.heap.size (w.heap.size + 1) n z x p m w W hR HE.out ⟨by omega, by omega⟩ hW hBw (by omega) HOk.out)
        clear hbl q0 q1 q2 q3 qf
        go_wp2_with fail
        refine (HTr.out _).mono ?_
        rintro e w3 ⟨rfl, hw3⟩
        have hb3 := drew_bel hw3
        have HX3 := hidLL (HX.out.trans (Below.x hb3 (w.heap.size + 1) (by omega)))
        have HR3 := hidLL (HR.out.bel hb3)
        have hs3 := hb3.size
        clear hw3 hb3 dx
        go_wp2_with fail
        refine (HTk.out _ HR3.out (HB2.out.trans (HX3.out.down (by omega) (by omega))) (by omega)).mono ?_
        rintro e w4 ⟨hS, hx4⟩
        have HX4 := hidLL (HX3.out.trans hx4)
        have hs4 := hx4.size
        have hrs : w4.heap[w.heap.size]? = _ := (HX4.out.block w.heap.size (by omega) (by omega)).trans HH0.out
        obtain ⟨q0, q1, q2, q3, qf⟩ := four hrs
        clear hx4 hrs
        cases hst : takeS z n x with
        | bad c =>
          rw [hst] at hS
          obtain ⟨k, hck, hk, rfl⟩ := hS
          have HOut := hidLL (HG.out.symm.trans (goR_bad HXx.out HBl.out hst))
          have HCK := hidLL hck
          have hwl : w.heap.size < w4.heap.size := by omega
          have hwl2 : w.heap.size ≠ w4.heap.size := by omega
          clear hst hck
          unfold errI
          go_wp2
          refine bodyPost_ret (v := .tuple #[.agg #[.string ⟨#[]⟩, .string ⟨#[]⟩, .slice none 0 0, .slice none 0 0], .iface 61 (.pointer (some ⟨w4.heap.size, 0, none⟩))]) (by simp [results, Tryd.results11, go_sem, q0, q1, q2, q3, hwl]) rfl ?_
          have hbl : Below w.heap.size w w4 := HB2.out.trans (HX4.out.down (by omega) (by omega))
          have hbs := ((((hbl.setCell (p := ⟨w.heap.size, 0, none⟩) (Nat.le_refl _) (.string ⟨#[]⟩)).setCell (p := ⟨w.heap.size, 1, none⟩) (Nat.le_refl _) (.string ⟨#[]⟩)).setCell (p := ⟨w.heap.size, 2, none⟩) (Nat.le_refl _) (.slice none 0 0)).setCell (p := ⟨w.heap.size, 3, none⟩) (Nat.le_refl _) (.slice none 0 0))
          refine ⟨?_, hbs.alloc (by simp; omega) _⟩
          rw [HOut.out]
          have hx := box2 ((((w4.setCell ⟨w.heap.size, 0, none⟩ (.string ⟨#[]⟩)).setCell ⟨w.heap.size, 1, none⟩ (.string ⟨#[]⟩)).setCell ⟨w.heap.size, 2, none⟩ (.slice none 0 0)).setCell ⟨w.heap.size, 3, none⟩ (.slice none 0 0)) (.int .i64 i) (.iface 129 (.pointer (some (p k)))) 63 w4.heap.size (by simp)
          exact ⟨k, w4.heap.size, HCK.out, hk, rfl, hx.1, hx.2⟩
        | good z' n' =>
          rw [hst] at hS
          obtain ⟨rfl, hR'⟩ := hS
          have HR' := hidLL hR'
          have HOut := hidLL ((goR_good HXx.out HBl.out hst).symm.trans HG.out)
          have HOk' := hidLL (HOk.out.take hst)
          clear hst hR'
          go_wp2
          go_roundw
          case rel => exact ⟨i + 1, z', n', by rw [← HRL.out]; omega, by go_num, HR'.out, HOk'.out, HX4.out, HOut.out⟩
          case measure => simp [RowKit.intOf]; omega
      · rw [hbl] at hbk
        have HOut := hidLL ((goR_blank (z := z) (n := n) HXx.out hbl).symm.trans HG.out)
        clear hbl q0 q1 q2 q3 qf
        go_wp2_with fail
        refine (HTr.out _).mono ?_
        rintro e w3 ⟨rfl, hw3⟩
        have hb3 := drew_bel hw3
        have HX3 := hidLL (HX.out.trans (Below.x hb3 (w.heap.size + 1) (by omega)))
        have HR3 := hidLL (HR.out.bel hb3)
        clear hw3 hb3 dx
        go_wp2
        go_roundw
        case rel => exact ⟨i + 1, z, n, by rw [← HRL.out]; omega, by go_num, HR3.out, HOk.out, HX3.out, HOut.out⟩
        case measure => simp [RowKit.intOf]; omega
    · obtain rfl : i = rl := by omega
      obtain ⟨own, vo, V, K, hRS⟩ := HR.out
      obtain ⟨sa, sc, hvo⟩ := row_any hRS.row
      have cb := hRS.c0
      rw [hvo] at cb
      by_cases hz0 : z.length = 0
      · obtain rfl : z = [] := List.eq_nil_of_length_eq_zero hz0
        have HOut := hidLL (HG.out.symm.trans (goR_end0 (by rw [← HRL.out]; omega)))
        have cb : wr.cell? ⟨w.heap.size + 1, 0, none⟩ = some (.slice sa 0 sc) := cb
        have c0 : wr.cell? ⟨1, 0, none⟩ = some (.iface 129 (.pointer (some (p 0)))) := (HE.out.on (HB2.out.trans (HX.out.down (by omega) (by omega)))).L.cell 0 (by omega)
        have hgl := World.block_lt_of_cell? w ⟨1, 0, none⟩ (HE.out.L.cell 0 (by omega))
        have hgl2 : 1 ≠ w.heap.size := fun e => by rw [← e] at hgl; exact Nat.lt_irrefl _ hgl
        have hwl : w.heap.size < wr.heap.size := by omega
        have hwl2 : w.heap.size ≠ wr.heap.size := by omega
        clear hRS hvo hz0
        go_wp2_with fail
        go_region
        go_wp2
        refine bodyPost_ret (v := .tuple #[.agg #[.string ⟨#[]⟩, .string ⟨#[]⟩, .slice none 0 0, .slice none 0 0], .iface 61 (.pointer (some ⟨wr.heap.size, 0, none⟩))]) (by simp [results, Tryd.results11, go_sem, q0, q1, q2, q3, hwl]) rfl ?_
        have hbl : Below w.heap.size w wr := HB2.out.trans (HX.out.down (by omega) (by omega))
        have hbs := ((((hbl.setCell (p := ⟨w.heap.size, 0, none⟩) (Nat.le_refl _) (.string ⟨#[]⟩)).setCell (p := ⟨w.heap.size, 1, none⟩) (Nat.le_refl _) (.string ⟨#[]⟩)).setCell (p := ⟨w.heap.size, 2, none⟩) (Nat.le_refl _) (.slice none 0 0)).setCell (p := ⟨w.heap.size, 3, none⟩) (Nat.le_refl _) (.slice none 0 0))
        refine ⟨?_, (hbs.alloc (by simp; omega) _).drew⟩
        rw [HOut.out]
        have hx := box2 ((((wr.setCell ⟨w.heap.size, 0, none⟩ (.string ⟨#[]⟩)).setCell ⟨w.heap.size, 1, none⟩ (.string ⟨#[]⟩)).setCell ⟨w.heap.size, 2, none⟩ (.slice none 0 0)).setCell ⟨w.heap.size, 3, none⟩ (.slice none 0 0)) (.int .i64 i) (.iface 129 (.pointer (some (p 0)))) 63 wr.heap.size (by simp)
        exact ⟨0, wr.heap.size, rfl, by omega, rfl, hx.1, hx.2⟩
      · have hz0' : ((z.length : Int) == 0) = false := by rw [beq_eq_false_iff_ne]; omega
        have HOut := hidLL (HG.out.symm.trans (goR_end1 (by rw [← HRL.out]; omega) hz0))
        have HSh := hidLL (shut_any w2.heap.size (w.heap.size + 1) z n 0 wr (fun t ht => by have := HOk.out.kid ht; omega) (by omega) (by omega) HR.out (by omega))
        have HZ1 : Hid (shutB 0 z = [closeAll z]) := by show _ = _; unfold shutB; simp
        have hzz : (0 : Int) < (z.length : Int) := by omega
        clear hRS hvo
        go_wp2_with fail
        refine HSh.out.mono ?_
        rintro e w4 ⟨rfl, hR4, hx4⟩
        rw [HZ1.out] at hR4
        obtain ⟨own4, vo4, V4, K4, hRS4⟩ := hR4
        obtain ⟨g, cap, hvo4, hgl4, _⟩ := row_form hRS4.row (by simp)
        have cb4 := hRS4.c0
        rw [hvo4] at cb4
        have cb4 : w4.cell? ⟨w.heap.size + 1, 0, none⟩ = some (.slice (some ⟨g, 0, none⟩) 1 cap) := cb4
        have hO4 := hRS4.it 0 (closeAll z) rfl
        have HL := hidLL hO4.lies
        have ho4 := hRS4.hB.2 w.heap.size (by omega)
        obtain ⟨f0, f1, ⟨la, lc, f2⟩, ⟨ka, kc, f3⟩⟩ := hO4.lies.forms
        have i0 : w4.cell? ⟨g, 0, none⟩ = some (V4 0 0) := hRS4.item hvo4 (by simp : 0 < [closeAll z].length) 0 (by omega)
        have i1 : w4.cell? ⟨g, 1, none⟩ = some (V4 0 1) := hRS4.item hvo4 (by simp : 0 < [closeAll z].length) 1 (by omega)
        have i2 : w4.cell? ⟨g, 2, none⟩ = some (V4 0 2) := hRS4.item hvo4 (by simp : 0 < [closeAll z].length) 2 (by omega)
        have i3 : w4.cell? ⟨g, 3, none⟩ = some (V4 0 3) := hRS4.item hvo4 (by simp : 0 < [closeAll z].length) 3 (by omega)
        rw [f0] at i0
        rw [f1] at i1
        rw [f2] at i2
        rw [f3] at i3
        have HF := hidLL (And.intro f0 (And.intro f1 (And.intro f2 f3)))
        have HX4 := hidLL (HX.out.trans hx4)
        have hs4 := hx4.size
        have hrs : w4.heap[w.heap.size]? = _ := (HX4.out.block w.heap.size (by omega) (by omega)).trans HH0.out
        clear q0 q1 q2 q3 qf cb
        obtain ⟨q0, q1, q2, q3, qf⟩ := four hrs
        clear hRS4 hvo4 hO4 f0 f1 f2 f3 hx4 hrs
        generalize (closeAll z).label = l0 at *
        generalize (closeAll z).head = l1 at *
        generalize (closeAll z).lines.length = l2 at *
        generalize (closeAll z).kids.length = l3 at *
        go_wp2
        refine bodyPost_ret (v := .tuple #[.agg #[.string l0, .string l1, .slice la l2 lc, .slice ka l3 kc], .nilIface]) (by simp [results, Tryd.results11, go_sem, q0, q1, q2, q3]) rfl ?_
        have hbl : Below w.heap.size w w4 := HB2.out.trans (HX4.out.down (by omega) (by omega))
        refine ⟨?_, (((hbl.setCell (Nat.le_refl _) _).setCell (Nat.le_refl _) _).setCell (Nat.le_refl _) _).setCell (Nat.le_refl _) _⟩
        rw [HOut.out]
        refine ⟨V4 0, by rw [HF.out.1, HF.out.2.1, HF.out.2.2.1, HF.out.2.2.2], HL.out.step fun b _ hp => ⟨?_, trivial⟩⟩
        have hne : b ≠ w.heap.size := fun e => by rw [e] at hp; omega
        rw [Below.heap_setCell _ _ _ _ hne, Below.heap_setCell _ _ _ _ hne, Below.heap_setCell _ _ _ _ hne, Below.heap_setCell _ _ _ _ hne]
theorem read_any (s : ByteArray) (hs : s.size ≤ 30000 ∨ 30000 < s.size) (p : Nat → Addr) (m : Int) (w : World) (hE : Env w p m) :
    Calls Tryd.prog 11 #[.string s] w fun e w' => ReadOut p e w' (readB s) ∧ Below w.heap.size w w' := by
  rcases hs with hs | hs
  · exact read_short s hs p m w hE
  · exact read_long s hs p w hE.L
end Go.Proofs.YtgfaeeacndpniaaDoor
