/-
  Package amend: find: what stands at a path.
-/
import Derived.Test.YtpbolcjcmkmalaaGreatDoorFo14
import Derived.Test.YtpbolcjcmkmalaaGreatDoorFo16
import Derived.LaidEqlPtr
import Derived.Deep.Quiet
namespace Go.Proofs.YtpbolcjcmkmalaaGreatDoor
open Go.RowKit Go.Extern.Stop Go.Stop Go.Extern

theorem ItAt.on {w w' : World} {B b o : Nat} {t : It} {S : Nat → Prop} {v : Nat → Value} (h : ItAt w B b o t S v) (hb : Below w.heap.size w w') : ItAt w' B b o t S v := by
  obtain ⟨cur, ty, e, hc⟩ := h.here
  exact ⟨⟨cur, ty, (hb.block b h.lt).trans e, hc⟩, h.own.step (fun g hg => hb.block g (h.own.in g hg).2) hb.size, h.out⟩
/-- New blocks alone: the same provision. -/
theorem Foc.on {w w' : World} {B b o : Nat} {t : It} {S : Nat → Prop} {p : List ByteArray} {b' o' : Nat} {x : It} {S' : Nat → Prop} {v' : Nat → Value} (h : Foc w B b o t S p b' o' x S' v') (hbl : b < w.heap.size) (hb : Below w.heap.size w w') : Foc w' B b o t S p b' o' x S' v' := by
  have key : ∀ w'', Upd w' w'' b' o' S' → Upd w w'' b' o' S' := fun w'' hu => by
    refine ⟨hu.os.trans hb.os, hu.tape.trans hb.tape, hu.output.trans hb.output, Nat.le_trans hb.size hu.size, fun k hk hn hne => (hu.block k (Nat.lt_of_lt_of_le hk hb.size) hn hne).trans (hb.block k hk), fun cur ty e => ?_⟩
    exact hu.here cur ty ((hb.block b' h.at'.lt).trans e)
  have key2 : ∀ w'', Upd w' w'' b' o' S' → Upd w w'' b o S → Upd w' w'' b o S := fun w'' hu hu2 => by
    refine ⟨hu.os, hu.tape, hu.output, hu.size, fun k hk hn hne => hu.block k hk (fun e => hn (h.sub k e)) (fun e => ?_), fun cur ty e => hu2.here cur ty ((hb.block b hbl).symm.trans e)⟩
    by_cases hp : p = []
    · exact hne (e.trans (h.root hp).1)
    · exact hn (e ▸ h.inn hp)
  refine ⟨h.fnd, h.at'.on hb, h.sub, h.root, h.inn, fun w'' y S'' v'' Xr A hu hy hX hA hAb hS => ?_, fun w'' y hu hy => ?_, plc_on hb _ _ _ _ h.pl⟩
  · obtain ⟨S3, v3, h1, h2, h3⟩ := h.back w'' y S'' v'' Xr A (key w'' hu) hy hX hA hAb hS
    exact ⟨S3, v3, h1, h2, key2 w'' hu h3⟩
  · obtain ⟨h1, h3⟩ := h.backL w'' y (key w'' hu) hy
    exact ⟨h1, key2 w'' hu h3⟩
theorem lab_size {s : ByteArray} (h : isLab s = true) : s.size ≤ 6 := by
  unfold isLab at h
  obtain ⟨k, l, h⟩ := @of_decide_eq_true _ (Classical.propDecidable _) h
  have h1 := h.k4
  have h2 := h.kc
  omega
theorem kids_cnt (l : List It) : l.length ≤ cntKs l := by
  induction l with
  | nil => simp
  | cons a r ih => rw [cntKs, List.length_cons]; omega
theorem cnt_mem : ∀ (l : List It) (k : It), k ∈ l → cntIt k ≤ cntKs l
  | a :: r, k, h => by
    rw [cntKs]
    rcases List.mem_cons.1 h with rfl | h
    · omega
    · have := cnt_mem r k h; omega
/-- A law that is right is few. -/
theorem rgt_few {d : Nat} {t : It} (h : Rgt d t) : cntIt t ≤ 300 → FewIt t := by
  induction h with
  | mk d t h hd hk ih =>
    intro hc
    rw [cntIt_eq] at hc
    obtain ⟨h1, h2, h3⟩ := texts_iff.1 ⟨h.2.1, h.2.2.2⟩
    refine .mk t (by omega) (by have := kids_cnt t.kids; omega) (fun s hs => by have := (h3 s hs).1; omega) (by have := h2.1; omega) ?_ (fun k hkm => ih k hkm (by have := cnt_mem t.kids k hkm; omega))
    have h4 := h.2.2.1
    split at h4
    · have := of_decide_eq_true h4; omega
    · have := lab_size h4; omega
theorem law_few {t : It} (h : Law t) : FewIt t := rgt_few h.1 h.2
theorem find_few : ∀ (p : List ByteArray) (t x : It), FewIt t → findW t p = some x → FewIt x
  | [], t, x, h, e => by rw [findW] at e; injection e with e; exact e ▸ h
  | q :: r, t, x, h, e => by
    obtain ⟨i, y, _, hy, e⟩ := find_step e
    exact find_few r y x (h.get.2.2.2.2.2 y (List.mem_of_getElem? hy)) e
/-- Labels that can be read. -/
def StrsAt (w : World) (a : Option Addr) (ps : List ByteArray) : Prop := ∀ i s, ps[i]? = some s → ∃ b o, a = some ⟨b, o, none⟩ ∧ w.cell? ⟨b, o + i, none⟩ = some (.string s)
theorem StrsAt.on {w w' : World} {a : Option Addr} {ps : List ByteArray} (h : StrsAt w a ps) (hb : Below w.heap.size w w') : StrsAt w' a ps := fun i s hs => by
  obtain ⟨b, o, e, hc⟩ := h i s hs
  exact ⟨b, o, e, (hb.cell (p := ⟨b, o + i, none⟩) (cell_lt hc)).trans hc⟩
/-- What find answers. -/
def FindO (w : World) (B b o : Nat) (t : It) (S : Nat → Prop) (ps : List ByteArray) (e : Ending) : Prop := match findW t ps with
  | none => e = .returned (.pointer none)
  | some x => ∃ b' o' S' v', e = .returned (.pointer (some ⟨b', o', none⟩)) ∧ Foc w B b o t S ps b' o' x S' v'
set_option maxHeartbeats 2000000 in
theorem find_a {w : World} {B b o : Nat} {t : It} {S : Nat → Prop} {v : Nat → Value} (h : ItAt w B b o t S v) (hF : FewIt t) {ps : List ByteArray} {pa : Option Addr} {pc : Nat} (hp : StrsAt w pa ps) (hn : ps.length ≤ 100000) :
    Calls Tryz.prog 29 #[.pointer (some ⟨b, o, none⟩), .slice pa ps.length pc] w fun e w' => FindO w B b o t S ps e ∧ Below w.heap.size w w' := by
  have H0 := hidLL h
  have HF := hidLL hF
  have HP := hidLL hp
  obtain ⟨n, hnn⟩ : ∃ n, n = ps.length := ⟨_, rfl⟩
  have HN := hidLL hnn
  rw [← hnn] at hn ⊢
  clear h hF hp hnn
  go_enter Tryz.func29, Tryz.ntmps29
  go_wp2_with fail
  go_loopw [0, 10] (fun l t' wr => ∃ (j b' o' : Nat) (x : It) (S' : Nat → Prop) (v' : Nat → Value), j ≤ n ∧ t' = .int .i64 j ∧ l = .pointer (some ⟨b', o', none⟩) ∧ Below w.heap.size w wr ∧ Foc w B b o t S (ps.take j) b' o' x S' v') (fun _ t' _ => (n - RowKit.intOf t').toNat)
  case atStart => exact ⟨0, b, o, t, S, v, by omega, rfl, rfl, Below.refl _ _, Foc.nil H0.out⟩
  case round =>
    obtain ⟨j, b', o', x, S', v', hj, rfl, rfl, hb, hf⟩ := hrel
    have HB := hidLL hb
    have HFo := hidLL hf
    clear hb hf
    by_cases hjn : j < n
    · have hjz : (j : Int) < n := by omega
      obtain ⟨s, hs⟩ : ∃ s, ps[j]? = some s := ⟨_, List.getElem?_eq_getElem (by have := HN.out; omega)⟩
      obtain ⟨pb, po, rfl, hcs⟩ := HP.out j s hs
      have hcs' := (HB.out.cell (p := ⟨pb, po + j, none⟩) (cell_lt hcs)).trans hcs
      have HTk : Hid (ps.take (j + 1) = ps.take j ++ [s]) := by
        obtain ⟨hl, e⟩ := List.getElem?_eq_some_iff.1 hs
        show _ = _
        rw [List.take_succ_eq_append_getElem hl, e]
      have hx := find_few _ t x HF.out HFo.out.fnd
      have hfw := HFo.out.on H0.out.lt HB.out
      obtain ⟨_, _, _, ka, kc, hk3⟩ := hfw.at'.own.lies.forms
      have hc3 := hfw.at'.cell (c := 3) (by omega)
      rw [hk3] at hc3
      have HC := hidLL (amLab_lies hfw.at'.own.lies hk3 (by have := hx.get.2.1; omega) s)
      have HFw := hidLL hfw
      have hkl := hx.get.2.1
      have HX := hidLL hx
      have HSs := hidLL hs
      have HK3 := hidLL hk3
      clear hcs hx hfw hs hk3
      cases hq : kidIx x.kids s with
      | none =>
        rw [hq] at HC
        have HQ := hidLL hq
        clear hq
        go_wp2_with fail
        refine HC.out.mono ?_
        rintro e w1 ⟨rfl, hb1⟩
        have H1 := hidLL hb1
        clear hb1
        unfold ixI
        go_wp2
        go_ret
        refine ⟨?_, HB.out.trans (H1.out.mono HB.out.size)⟩
        unfold FindO
        have e1 : findW t (ps.take (j + 1)) = none := by
          rw [HTk.out, findW_snoc _ t x s HFo.out.fnd]
          exact findW_no HQ.out
        have e2 : findW t ps = none := by
          have := findW_none _ t (ps.drop (j + 1)) e1
          rwa [List.take_append_drop] at this
        rw [e2]
        rfl
      | some i =>
        rw [hq] at HC
        obtain ⟨k, hk, _⟩ := kidIx_some hq
        obtain ⟨g, cap, T, V, hv3, hfk⟩ := HFo.out.kid hq hk
        have hil := (List.getElem?_eq_some_iff.1 hk).1
        have hi0 : ¬ ((i : Int) < 0) := by omega
        have hiz : (i : Int) < (x.kids.length : Int) := by omega
        have hka : ka = some ⟨g, 0, none⟩ := by
          have e := HK3.out
          rw [hv3] at e
          injection e with e _ _
          exact e.symm
        subst hka
        have HFk := hidLL hfk
        clear hq hk hfk hv3
        generalize x.kids.length = kl at *
        go_wp2_with fail
        refine HC.out.mono ?_
        rintro e w1 ⟨rfl, hb1⟩
        have hc3' := (hb1.cell (p := ⟨b', o' + 3, none⟩) (cell_lt hc3)).trans hc3
        have H1 := hidLL hb1
        clear hb1
        unfold ixI
        go_wp2
        go_roundw
        case rel =>
          refine ⟨j + 1, g, i * 4, k, T, V, by omega, by go_num, ?_, HB.out.trans (H1.out.mono HB.out.size), ?_⟩
          · first | rfl | simp
          · rw [HTk.out]; exact HFk.out
        case measure => simp [RowKit.intOf]; omega
    · obtain rfl : j = n := by omega
      go_wp2
      go_ret
      refine ⟨?_, HB.out⟩
      unfold FindO
      have e : ps.take j = ps := by rw [HN.out]; exact List.take_length
      have hf := HFo.out
      rw [e] at hf
      rw [hf.fnd]
      exact ⟨b', o', S', v', rfl, hf⟩
end Go.Proofs.YtpbolcjcmkmalaaGreatDoor
namespace Go.Proofs.YtpbolcjcmkmalaaGreatDoor
open Go.RowKit Go.Extern.Stop Go.Stop Go.Extern

set_option maxRecDepth 100000 in
theorem item_ptr : Tryz.prog.underlying 51 = some (.pointer 25) := by rfl
set_option maxRecDepth 100000 in
theorem item_info : ∃ j, Tryz.prog.info? 25 = some j ∧ j.size ≠ 0 := ⟨_, rfl, by decide⟩
theorem ptr_same (a : Addr) (w : World) : (binOp .eql 51 (.pointer (some a)) (.pointer (some a))).run Tryz.prog w = .ok (.bool true) w := by
  obtain ⟨j, h, _⟩ := item_info
  exact run_eql_ptr_same w a item_ptr h
theorem ptr_other {w : World} {B b o b' o' : Nat} {x x' : It} {S S' : Nat → Prop} {v v' : Nat → Value} (h : ItAt w B b o x S v) (h' : ItAt w B b' o' x' S' v') (hn : ¬ (b = b' ∧ o = o')) : (binOp .eql 51 (.pointer (some ⟨b, o, none⟩)) (.pointer (some ⟨b', o', none⟩))).run Tryz.prog w = .ok (.bool false) w := by
  obtain ⟨j, hj, hz⟩ := item_info
  obtain ⟨cur, ty, e, _⟩ := h.here
  obtain ⟨cur', ty', e', _⟩ := h'.here
  exact run_eql_ptr_other w item_ptr hj hz (fun e => hn (by injection e with e1 e2; exact ⟨e1, e2⟩)) e e'
theorem ptr_nsame (a : Addr) (w : World) : (binOp .neq 51 (.pointer (some a)) (.pointer (some a))).run Tryz.prog w = .ok (.bool false) w := by
  have h := ptr_same a w
  simp only [binOp] at h ⊢
  simp only [Sem.run_bind] at h ⊢
  revert h
  cases (Op.equal 51 (.pointer (some a)) (.pointer (some a))).run Tryz.prog w <;> simp
theorem ptr_nother {w : World} {B b o b' o' : Nat} {x x' : It} {S S' : Nat → Prop} {v v' : Nat → Value} (h : ItAt w B b o x S v) (h' : ItAt w B b' o' x' S' v') (hn : ¬ (b = b' ∧ o = o')) : (binOp .neq 51 (.pointer (some ⟨b, o, none⟩)) (.pointer (some ⟨b', o', none⟩))).run Tryz.prog w = .ok (.bool true) w := by
  have h := ptr_other h h' hn
  simp only [binOp] at h ⊢
  simp only [Sem.run_bind] at h ⊢
  revert h
  cases (Op.equal 51 (.pointer (some ⟨b, o, none⟩)) (.pointer (some ⟨b', o', none⟩))).run Tryz.prog w <;> simp
end Go.Proofs.YtpbolcjcmkmalaaGreatDoor
namespace Go.Proofs.YtpbolcjcmkmalaaGreatDoor
open Go.RowKit

section
variable {P : Program} {ops : Array Oper} {C : World → Prop} {Q : Act → Prop} {o : Oper} {rest : List Oper} {a : Act}
theorem quiet_val (v : Value) (hw : Region.wanted o (yielded ops a.tmps) = true) (h : ∀ w, C w → (execOp a.eval o).run P w = .ok (.value v) w) (hk : wpQuiet P ops C Q rest (a.put o.dst v)) : wpQuiet P ops C Q (o :: rest) a := by
  unfold wpQuiet
  rw [if_pos hw]
  refine ⟨v, fun w hC => ?_, hk⟩
  unfold Oper.quietAt
  rw [h w hC]
  exact ⟨rfl, rfl⟩
theorem quiet_call (f : FuncId) (args : Array Value) (v : Value) (hw : Region.wanted o (yielded ops a.tmps) = true) (h : ∀ w, C w → (execOp a.eval o).run P w = .ok (.enter f args) w) (hc : ∀ w, C w → Calls P f args w fun e w' => e = .returned v ∧ C w') (hk : wpQuiet P ops C Q rest (a.put o.dst v)) : wpQuiet P ops C Q (o :: rest) a := by
  unfold wpQuiet
  rw [if_pos hw]
  refine ⟨v, fun w hC => ?_, hk⟩
  unfold Oper.quietAt
  rw [h w hC]
  exact ⟨rfl, hc w hC⟩
theorem quiet_off (hw : Region.wanted o (yielded ops a.tmps) = false) (hk : wpQuiet P ops C Q rest (a.put o.dst undef)) : wpQuiet P ops C Q (o :: rest) a := by
  unfold wpQuiet
  rw [if_neg (by rw [hw]; simp)]
  exact hk
end
theorem wp_region_quiet_C {P : Program} {C : World → Prop} {id : Nat} {Q : Exit → Act → World → Prop} {a : Act} {w : World} {l : List Oper} (hm : P.follows .mixedOrders = true) (hB : Region.lexB .any l.toArray = true) (hC : C { w with drawn := w.drawn + 1 })
    (h : wpQuiet P l.toArray C (fun a' => ∀ w', C w' → Q .normal a' w') l a) : (Code.region id l.toArray true).wp P Q a w := wp_region_quiet (C := C) hm hB hC (by simpa using h)
end Go.Proofs.YtpbolcjcmkmalaaGreatDoor
