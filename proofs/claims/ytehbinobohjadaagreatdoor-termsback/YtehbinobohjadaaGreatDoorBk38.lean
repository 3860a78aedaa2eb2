/-
  The program's Write, where a line is written: it is read again, and held against the sentence.
-/
import Derived.Test.YtehbinobohjadaaGreatDoorBk37
namespace Go.Proofs.YtehbinobohjadaaGreatDoor
open Go.RowKit Go.Sort Go.Extern.Stop Go.Stop Go.Extern

def ReadS (y : SentT) (V : World) (e : Ending) (V' : World) : Prop := Below V.heap.size V V' ∧ ∃ ds is ca sa cc sc oa oc, e = .returned (.tuple #[.agg ds, .bool is, .nilIface]) ∧ STc V' (· < V'.heap.size) y ca sa cc sc oa oc ds
def ReadN (V : World) (e : Ending) (V' : World) : Prop := Below V.heap.size V V' ∧ ∃ a, e = .returned (.tuple #[.agg zS, .bool true, .iface 55 (.pointer (some a))])
theorem STc.one {w : World} {P : Nat → Prop} {x : SentT} {ca sa : Option Addr} {cc sc : Nat} {oa : Option Addr} {oc : Nat} {cs : Array Value} (h : STc w P x ca sa cc sc oa oc cs) : cs.size = 19 ∧ cs.all (·.oneCell') = true := by
  rw [h.eq]
  exact ⟨rfl, by simp [Value.oneCell']⟩
def WOut (b : Bool) (L : ByteArray) (w : World) (e : Ending) (w' : World) : Prop := Below w.heap.size w w' ∧ (if b = true then e = .returned (.tuple #[.string L, .nilIface]) else WErr e)
theorem WBx.drew {w : World} {bl be : Nat} {s : ByteArray} {ev : Value} (h : WBx w bl be s ev) : WBx w.drew bl be s ev := ⟨h.l, h.e⟩
/-- A whole row is loaded, behind a guard that is met. -/
theorem wpList_load_row_w {P : Program} {ops : Array Oper} {rest : List Oper} {o : Oper} {a : Act} {w : World} {Q : Exit → Act → World → Prop} (hw : Region.wanted o (yielded ops a.tmps) = true) (ty : TypeId) (x : Operand) (ho : o.op = .load ty x)
    (g : Nat) (hx : a.eval x = .pointer (some ⟨g, 0, none⟩)) (t : TypeId) (cs : Array Value) (fr : Nat × Nat) (d : TypeDesc) (hg : w.heap[g]? = some (.cells cs t fr))
    (hu : P.underlying ty = some d) (hd : (match d with | .struct _ | .array _ _ => true | _ => false) = true) (hi : (P.info? ty).map (·.size) = some cs.size)
    (h : wpList P ops Q rest (a.put o.dst (.agg cs)) w) : wpList P ops Q (o :: rest) a w := by
  rw [wpList, if_pos hw]
  exact .inl (wp_load_row ty x ho g hx t cs fr d hg hu hd hi h)
theorem wpList_val {P : Program} {ops : Array Oper} {rest : List Oper} {o : Oper} {a : Act} {w : World} {Q : Exit → Act → World → Prop} (hw : Region.wanted o (yielded ops a.tmps) = true) {v : Value} (he : (execOp a.eval o).run P w = .ok (.value v) w) (h : wpList P ops Q rest (a.put o.dst v) w) : wpList P ops Q (o :: rest) a w := by
  rw [wpList, if_pos hw]
  refine .inl ?_
  unfold Oper.wp
  rw [he]
  exact h
set_option maxRecDepth 20000 in
set_option maxHeartbeats 4000000 in
theorem write_same {x y : SentT} (hO : SOk x) {w : World} {ca sa : Option Addr} {cc sc : Nat} {oa : Option Addr} {oc : Nat} {cs : Array Value} (hT : STc w (· < w.heap.size) x ca sa cc sc oa oc cs) (hg : GlobQ w) (ht : TabW w) {s : WS} (hn : sentR x = some s)
    (hrd : ∀ V, Below w.heap.size w V → Calls Tryz.prog 6 #[.string (lineB s.ts)] V (ReadS y V)) :
    Calls Tryz.prog 7 #[.agg cs] w (WOut (eqS x y) (lineB s.ts) w) := by
  have hmf : ∀ (fn : Fn) (first cap : Array Value) (w : World), (Instr.makeFunc fn first cap).run Tryz.prog w = .ok (.func fn first cap) w := fun _ _ _ _ => rfl
  obtain ⟨V, hV⟩ : ∃ V, V = wB4 w cs := ⟨_, rfl⟩
  have hz := hT.one.1
  have hat := wB4_at w cs
  have hsw := wB4_sw hg ht cs
  have hbw := wB4_below w cs
  have hsz := wB4_size w cs
  rw [← hV] at hat hsw hbw hsz
  have HS := hidLL (wsentence_q hO V (w.heap.size + 1 + 1 + 1) ⟨[], 0, 0⟩ ca sa cc sc oa oc cs hsw (hT.step fun k hk => ⟨hbw.block k hk, by omega⟩))
  have e0 : sentG x ⟨[], 0, 0⟩ = sentR x := rfl
  rw [e0, hn] at HS
  have HLn : Hid (∀ U, WR U (w.heap.size + 1 + 1 + 1) s → Calls Tryz.prog 21 #[.pointer (some ⟨w.heap.size + 1 + 1 + 1, 0, none⟩)] U fun e w' => e = .returned (.string (lineB s.ts)) ∧ Below U.heap.size U w') := fun U hU => by
    obtain ⟨f1, f2, f3, _⟩ := line_few hn hU.z
    exact line_q hU f1 f2 (f3 _) (f3 _) (f3 _)
  have HRd := hidLL hrd
  have HSm : Hid (∀ U ds da ta dc tc pa pc, Below w.heap.size w U → STc U (· < U.heap.size) y da ta dc tc pa pc ds → Calls Tryz.prog 22 #[.agg cs, .agg ds] U fun e w' => e = .returned (.bool (eqS x y)) ∧ Below U.heap.size U w') := fun U ds da ta dc tc pa pc hU hy => isSame_q (hT.grow hU) hy
  obtain ⟨p, hp⟩ := hg.t
  have HG : Hid (∀ U, Below w.heap.size w U → U.cell? ⟨1, 0, none⟩ = some (.iface 189 (.pointer (some p)))) := fun U hU => (hU.cell (p := ⟨1, 0, none⟩) hg.lt.1).trans hp
  have HV : Hid (V = (((w.alloc (.cells cs 30)).alloc (.cells #[.string ⟨#[]⟩] 9)).alloc (.cells #[.nilIface] 32)).alloc (.cells #[.slice none 0 0, .int .i64 0, .int .i64 0] 65)) := hV
  have HA : Hid (WrAt w V cs ⟨#[]⟩) := ⟨hbw, hat.1, hat.2.1⟩
  have HZ := hidLL hz
  have HX := hidLL hT.eq
  have HGl := hidLL hg.lt.1
  obtain ⟨L, hL⟩ : ∃ L, L = lineB s.ts := ⟨_, rfl⟩
  rw [← hL] at HLn HRd ⊢
  clear hV hat hsw hbw hz hT hg ht e0 hn hrd hp hL
  go_enter_defers Tryz.func7, Tryz.ntmps7
  go_upto_region 3 with fail
  rw [← HV.out]
  clear HV
  go_upto_region 4 with (first | (refine wpList_load_row rfl 30 (.tmp 1) rfl w.heap.size (by first | (simp [Act.eval]; done) | simp [Act.eval, Act.put]) 30 cs (0, 0) _ HA.out.b1 Tryz.underlying30 rfl (infoSent.trans (by rw [HZ.out])) ?_) | (go_at_call 20; refine HS.out.mono ?_; rintro e V2 hE; (obtain ⟨hf2, rfl, hw2⟩ := hE); (have HA2 : Hid (WrAt w V2 cs ⟨#[]⟩) := ⟨HA.out.bel.trans (hf2.below.mono (by omega)), (hf2.low _ (by omega)).trans HA.out.b1, HA.out.bx.wf hf2 (by omega) (by omega)⟩); (have HW2 := hidLL hw2); clear hf2 hw2))
  clear HS HA hsz
  go_upto_region 5 with (go_at_call 21; refine (HLn.out _ HW2.out).mono ?_; rintro e V3 ⟨rfl, hb3⟩; (have HA3 := hidLL (HA2.out.below hb3)); (obtain ⟨cl, fl, ce, fe⟩ := HA3.out.bx.cells); clear hb3)
  have HA4 := hidLL (HA3.out.setL L)
  clear cl fl ce fe
  generalize V3.setCell ⟨w.heap.size + 1, 0, none⟩ (.string L) = V4 at *
  clear HA3 HA2 HW2 HLn
  obtain ⟨cl, fl, ce, fe⟩ := HA4.out.bx.cells
  go_upto_region 6 with (first | (go_at_call 6; refine (HRd.out _ HA4.out.bel).mono ?_; rintro e V5 ⟨hb5, ds, is, da, ta, dc, tc, pa, pc, rfl, hy5⟩; (have HA5 := hidLL (HA4.out.below hb5)); (have HY5 := hidLL hy5); clear hb5 hy5) | (refine wpList_store_row rfl 30 (.tmp 5) (.tmp 15) rfl V5.heap.size ds (by simp [Act.eval]) (by simp [Act.eval]) 30 zS (heap_alloc_new V5 (.cells zS 30)) (infoSent.trans (by rw [HY5.out.one.1])) (by rw [zS_size, HY5.out.one.1]) HY5.out.one.2 ?_))
  rw [World.setRow_alloc_new]
  have hb6 : Below V5.heap.size V5 (V5.alloc (.cells ds 30)) := (Below.refl _ _).alloc (Nat.le_refl _) _
  have HA6 := hidLL (HA5.out.below hb6)
  have HY6 := hidLL (HY5.out.grow hb6)
  have HL2 : Hid ((V5.alloc (.cells ds 30)).heap[V5.heap.size]? = some (.cells ds 30 (0, 0)) ∧ ds.size = 19) := ⟨heap_alloc_new V5 (.cells ds 30), HY5.out.one.1⟩
  have HI := hidLL (HSm.out _ ds da ta dc tc pa pc HA6.out.bel HY6.out)
  clear hb6 cl fl ce fe HSm HRd HY6 HY5 HA5
  generalize V5.alloc (.cells ds 30) = V6 at *
  generalize eqS x y = E at *
  refine wp_region_list ?_
  refine wpList_val (v := .nilIface) rfl rfl ?_
  refine wpList_val (v := .bool false) rfl (by simp [execOp, Act.eval, Act.put, go_sem]) ?_
  refine wpList_val (v := .bool false) rfl rfl ?_
  refine wpList_load_row_w rfl 30 (.tmp 1) rfl w.heap.size rfl 30 cs (0, 0) _ HA6.out.b1 Tryz.underlying30 rfl (infoSent.trans (by rw [HZ.out])) ?_
  refine wpList_load_row_w rfl 30 (.tmp 5) rfl V5.heap.size rfl 30 ds (0, 0) _ HL2.out.1 Tryz.underlying30 rfl (infoSent.trans (by rw [HL2.out.2])) ?_
  go_simp
  have hne1 : ¬ w.heap.size + 1 = w.heap.size + 1 + 1 := by omega
  have hne2 : ¬ w.heap.size + 1 + 1 = w.heap.size + 1 := by omega
  cases E
  · go_upto_region 7 with (go_at_call 22; refine HI.out.mono ?_; rintro e V7 ⟨rfl, hb7⟩; (have HA7 := hidLL (HA6.out.below hb7)); clear hb7)
    obtain ⟨cl, fl, ce, fe⟩ := HA7.out.bx.cells
    obtain ⟨cl2, fl2, ce2, fe2⟩ := (HA7.out.setL ⟨#[]⟩).bx.cells
    have hgc := HG.out _ HA7.out.bel
    have hgl := HGl.out
    have hgn : ¬ 1 = w.heap.size + 1 := by omega
    have hgn2 : ¬ w.heap.size + 1 = 1 := by omega
    go_region
    go_wp2
    refine leaves_cons (f := 19) (args := #[.pointer (some ⟨w.heap.size + 1, 0, none⟩), .pointer (some ⟨w.heap.size + 1 + 1, 0, none⟩)]) (by simp) (by simp [go_sem]) ?_
    refine (wcatch_i _ _ _).mono ?_
    rintro e u' w9 ⟨rfl, rfl, rfl⟩
    refine ⟨_, results_two ((HA7.out.setL ⟨#[]⟩).bx.setE (by omega) (.iface 189 (.pointer (some p)))).drew _ rfl rfl, ?_⟩
    exact ⟨((HA7.out.setL ⟨#[]⟩).bel.setCell (by show w.heap.size ≤ w.heap.size + 1 + 1; omega) _).drew, ⟨_, rfl⟩⟩
  · go_upto_region 8 with (go_at_call 22; refine HI.out.mono ?_; rintro e V7 ⟨rfl, hb7⟩; (have HA7 := hidLL (HA6.out.below hb7)); clear hb7)
    obtain ⟨cl, fl, ce, fe⟩ := HA7.out.bx.cells
    obtain ⟨cl2, fl2, ce2, fe2⟩ := (HA7.out.setL L).bx.cells
    go_wp2
    refine leaves_cons (f := 19) (args := #[.pointer (some ⟨w.heap.size + 1, 0, none⟩), .pointer (some ⟨w.heap.size + 1 + 1, 0, none⟩)]) (by simp) (by simp [go_sem]) ?_
    refine (wcatch_i _ _ _).mono ?_
    rintro e u' w9 ⟨rfl, rfl, rfl⟩
    refine ⟨_, results_two ((HA7.out.setL L).bx.setE (by omega) .nilIface) _ rfl rfl, ?_⟩
    exact ⟨(HA7.out.setL L).bel.setCell (by show w.heap.size ≤ w.heap.size + 1 + 1; omega) _, rfl⟩
end Go.Proofs.YtehbinobohjadaaGreatDoor
namespace Go.Proofs.YtehbinobohjadaaGreatDoor
open Go.RowKit Go.Sort Go.Extern.Stop Go.Stop Go.Extern

set_option maxRecDepth 20000 in
set_option maxHeartbeats 4000000 in
theorem write_bad {x : SentT} (hO : SOk x) {w : World} {ca sa : Option Addr} {cc sc : Nat} {oa : Option Addr} {oc : Nat} {cs : Array Value} (hT : STc w (· < w.heap.size) x ca sa cc sc oa oc cs) (hg : GlobQ w) (ht : TabW w) {s : WS} (hn : sentR x = some s)
    (hrd : ∀ V, Below w.heap.size w V → Calls Tryz.prog 6 #[.string (lineB s.ts)] V (ReadN V)) :
    Calls Tryz.prog 7 #[.agg cs] w fun e w' => WOut false (lineB s.ts) w e w' := by
  have hmf : ∀ (fn : Fn) (first cap : Array Value) (w : World), (Instr.makeFunc fn first cap).run Tryz.prog w = .ok (.func fn first cap) w := fun _ _ _ _ => rfl
  obtain ⟨V, hV⟩ : ∃ V, V = wB4 w cs := ⟨_, rfl⟩
  have hz := hT.one.1
  have hat := wB4_at w cs
  have hsw := wB4_sw hg ht cs
  have hbw := wB4_below w cs
  have hsz := wB4_size w cs
  rw [← hV] at hat hsw hbw hsz
  have HS := hidLL (wsentence_q hO V (w.heap.size + 1 + 1 + 1) ⟨[], 0, 0⟩ ca sa cc sc oa oc cs hsw (hT.step fun k hk => ⟨hbw.block k hk, by omega⟩))
  have e0 : sentG x ⟨[], 0, 0⟩ = sentR x := rfl
  rw [e0, hn] at HS
  have HLn : Hid (∀ U, WR U (w.heap.size + 1 + 1 + 1) s → Calls Tryz.prog 21 #[.pointer (some ⟨w.heap.size + 1 + 1 + 1, 0, none⟩)] U fun e w' => e = .returned (.string (lineB s.ts)) ∧ Below U.heap.size U w') := fun U hU => by
    obtain ⟨f1, f2, f3, _⟩ := line_few hn hU.z
    exact line_q hU f1 f2 (f3 _) (f3 _) (f3 _)
  have HRd := hidLL hrd
  obtain ⟨p, hp⟩ := hg.t
  have HG : Hid (∀ U, Below w.heap.size w U → U.cell? ⟨1, 0, none⟩ = some (.iface 189 (.pointer (some p)))) := fun U hU => (hU.cell (p := ⟨1, 0, none⟩) hg.lt.1).trans hp
  have HV : Hid (V = (((w.alloc (.cells cs 30)).alloc (.cells #[.string ⟨#[]⟩] 9)).alloc (.cells #[.nilIface] 32)).alloc (.cells #[.slice none 0 0, .int .i64 0, .int .i64 0] 65)) := hV
  have HA : Hid (WrAt w V cs ⟨#[]⟩) := ⟨hbw, hat.1, hat.2.1⟩
  have HZ := hidLL hz
  have HGl := hidLL hg.lt.1
  obtain ⟨L, hL⟩ : ∃ L, L = lineB s.ts := ⟨_, rfl⟩
  rw [← hL] at HLn HRd ⊢
  clear hV hat hsw hbw hz hT hg ht e0 hn hrd hp hL
  go_enter_defers Tryz.func7, Tryz.ntmps7
  go_upto_region 3 with fail
  rw [← HV.out]
  clear HV
  go_upto_region 4 with (first | (refine wpList_load_row rfl 30 (.tmp 1) rfl w.heap.size (by first | (simp [Act.eval]; done) | simp [Act.eval, Act.put]) 30 cs (0, 0) _ HA.out.b1 Tryz.underlying30 rfl (infoSent.trans (by rw [HZ.out])) ?_) | (go_at_call 20; refine HS.out.mono ?_; rintro e V2 hE; (obtain ⟨hf2, rfl, hw2⟩ := hE); (have HA2 : Hid (WrAt w V2 cs ⟨#[]⟩) := ⟨HA.out.bel.trans (hf2.below.mono (by omega)), (hf2.low _ (by omega)).trans HA.out.b1, HA.out.bx.wf hf2 (by omega) (by omega)⟩); (have HW2 := hidLL hw2); clear hf2 hw2))
  clear HS HA hsz
  go_upto_region 5 with (go_at_call 21; refine (HLn.out _ HW2.out).mono ?_; rintro e V3 ⟨rfl, hb3⟩; (have HA3 := hidLL (HA2.out.below hb3)); (obtain ⟨cl, fl, ce, fe⟩ := HA3.out.bx.cells); clear hb3)
  have HA4 := hidLL (HA3.out.setL L)
  clear cl fl ce fe
  generalize V3.setCell ⟨w.heap.size + 1, 0, none⟩ (.string L) = V4 at *
  clear HA3 HA2 HW2 HLn
  obtain ⟨cl, fl, ce, fe⟩ := HA4.out.bx.cells
  go_upto_region 6 with (first | (go_at_call 6; refine (HRd.out _ HA4.out.bel).mono ?_; rintro e V5 ⟨hb5, fa, rfl⟩; (have HA5 := hidLL (HA4.out.below hb5)); clear hb5) | (refine wpList_store_row rfl 30 (.tmp 5) (.tmp 15) rfl V5.heap.size zS (by simp [Act.eval]) (by simp [Act.eval]) 30 zS (heap_alloc_new V5 (.cells zS 30)) (infoSent.trans (by rw [zS_size])) rfl zS_one ?_))
  rw [World.setRow_alloc_new]
  have hb6 : Below V5.heap.size V5 (V5.alloc (.cells zS 30)) := (Below.refl _ _).alloc (Nat.le_refl _) _
  have HA7 := hidLL (HA5.out.below hb6)
  clear hb6 cl fl ce fe HRd HA5
  generalize V5.alloc (.cells zS 30) = V7 at *
  have hne1 : ¬ w.heap.size + 1 = w.heap.size + 1 + 1 := by omega
  have hne2 : ¬ w.heap.size + 1 + 1 = w.heap.size + 1 := by omega
  · go_upto_region 7 with fail
    obtain ⟨cl, fl, ce, fe⟩ := HA7.out.bx.cells
    obtain ⟨cl2, fl2, ce2, fe2⟩ := (HA7.out.setL ⟨#[]⟩).bx.cells
    have hgc := HG.out _ HA7.out.bel
    have hgl := HGl.out
    have hgn : ¬ 1 = w.heap.size + 1 := by omega
    have hgn2 : ¬ w.heap.size + 1 = 1 := by omega
    go_region
    go_wp2
    refine leaves_cons (f := 19) (args := #[.pointer (some ⟨w.heap.size + 1, 0, none⟩), .pointer (some ⟨w.heap.size + 1 + 1, 0, none⟩)]) (by simp) (by simp [go_sem]) ?_
    refine (wcatch_i _ _ _).mono ?_
    rintro e u' w9 ⟨rfl, rfl, rfl⟩
    refine ⟨_, results_two ((HA7.out.setL ⟨#[]⟩).bx.setE (by omega) (.iface 189 (.pointer (some p)))).drew _ rfl rfl, ?_⟩
    exact ⟨((HA7.out.setL ⟨#[]⟩).bel.setCell (by show w.heap.size ≤ w.heap.size + 1 + 1; omega) _).drew, ⟨_, rfl⟩⟩
end Go.Proofs.YtehbinobohjadaaGreatDoor
namespace Go.Proofs.YtehbinobohjadaaGreatDoor
open Go.RowKit Go.Sort Go.Extern.Stop Go.Stop Go.Extern

theorem cm_len : ∀ (l : List ByteArray), (cmW l).length = 2 * l.length
  | [] => rfl
  | x :: l => by
    show (cmW l).length + 1 + 1 = _
    rw [cm_len l, List.length_cons]
    omega
theorem SentO.over_few {x : SentW} {P : List ByteArray} (h : SentO x P) (hc : costL P ≤ 300) : x.over.length ≤ 100000000 := by
  have hl := len_tot h.pz.pos
  have ht := totB_cost P
  cases h with
  | define name hn hc hm => show 0 ≤ _; omega
  | amount name way hn hw hs hm hc => show 0 ≤ _; omega
  | duty name head els pos tn tu tr hn hh h1 h2 h3 he => show 0 ≤ _; omega
  | rule name head st pos ov hn hh hs ho hc2 =>
    show ov.length ≤ _
    have : ov.length ≤ (ovW ov).length := by
      cases ov with
      | nil => exact Nat.le_refl _
      | cons x l =>
        show l.length + 1 ≤ (cmW l).length + 1 + 1 + 1
        rw [cm_len]
        omega
    simp only [List.length_cons, List.length_append] at hl
    omega
/-- No sentence that is written has no kind. -/
theorem eqS_zero {x : SentT} (h : 0 < x.kind.size) : eqS x zT = false := by
  have : (x.kind.toList == zT.kind.toList) = false := by
    cases e : (x.kind.toList == zT.kind.toList)
    · rfl
    · have e2 := list_inj9 (beq_iff_eq.1 e)
      rw [e2] at h
      exact absurd h (by decide)
  rw [eqS_is, this]
  rfl
/-- terms.Write, whole. -/
theorem write_q {x : SentT} (hO : SOk x) {w : World} {ca sa : Option Addr} {cc sc : Nat} {oa : Option Addr} {oc : Nat} {cs : Array Value} (hT : STc w (· < w.heap.size) x ca sa cc sc oa oc cs) (hg : GlobQ w) (ht : TabW w) {f : Nat}
    (hf : ∀ s, sentR x = some s → isSentB (lineB s.ts) = true → (lineB s.ts).size ≤ 300 → sentQ (qtoks (lineB s.ts)) f 0 0 ≠ .out) : Calls Tryz.prog 7 #[.agg cs] w (WriteR x f w) := by
  cases hn : sentR x with
  | none =>
    refine (write_none hO hT hg ht hn).mono ?_
    rintro e w' ⟨he, hb⟩
    refine ⟨hb, ?_⟩
    rw [outW, hn]
    exact he
  | some s =>
    obtain ⟨f1, f2, r, f3⟩ := sentR_ts hn
    have hz : s.z ≤ 300 := sentR_z hn
    have hsz := (line_few hn hz).2.2.2
    have hrd : ∀ V, Below w.heap.size w V → Calls Tryz.prog 6 #[.string (lineB s.ts)] V (ReadR (lineB s.ts) f V) := fun V hV => read_q hsz (hg.step hV) (hf s hn)
    have hk : 0 < x.kind.size := f1 _ (by rw [f3]; simp)
    cases hr : readQ (lineB s.ts) f with
    | none =>
      refine (write_same (y := zT) hO hT hg ht hn fun V hV => (hrd V hV).mono ?_).mono ?_
      · rintro e V' ⟨hb, he⟩
        rw [hr] at he
        exact ⟨hb, zS, false, none, none, 0, 0, none, 0, he, zS_st _ _⟩
      · rintro e w' ⟨hb, he⟩
        refine ⟨hb, ?_⟩
        rw [outW, hn]
        simp only [hr]
        rw [eqS_zero hk] at he
        simpa using he
    | bad =>
      refine (write_bad hO hT hg ht hn fun V hV => (hrd V hV).mono ?_).mono ?_
      · rintro e V' ⟨hb, he⟩
        rw [hr] at he
        exact ⟨hb, he⟩
      · rintro e w' ⟨hb, he⟩
        refine ⟨hb, ?_⟩
        rw [outW, hn]
        simp only [hr]
        simpa using he
    | ok y =>
      obtain ⟨P, hP⟩ := back_of hr
      refine (write_same (y := toS y) hO hT hg ht hn fun V hV => (hrd V hV).mono ?_).mono ?_
      · rintro e V' ⟨hb, he⟩
        rw [hr] at he
        obtain ⟨ds, e1, hC⟩ := he
        obtain ⟨ca, sa, cc, sc, oa, oc, hst, _⟩ := hC.st hP.o.small.1 hP.o.small.2 (hP.o.over_few hP.c)
        exact ⟨hb, ds, true, ca, sa, cc, sc, oa, oc, e1, hst⟩
      · rintro e w' ⟨hb, he⟩
        refine ⟨hb, ?_⟩
        rw [outW, hn]
        simp only [hr]
        cases hE : eqS x (toS y)
        · rw [hE] at he; simpa using he
        · rw [hE] at he; simpa using he
end Go.Proofs.YtehbinobohjadaaGreatDoor
