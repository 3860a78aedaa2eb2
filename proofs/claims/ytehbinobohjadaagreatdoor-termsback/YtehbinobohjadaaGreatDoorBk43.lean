/-
  The law's live: a sentence is read.
-/
import Derived.Test.YtehbinobohjadaaGreatDoorBk42
import Derived.Deep.RegionLaw
import Derived.Test.YtehbinobohjadaaGreatDoorRows
import Derived.LaidLaws
import Derived.LaidHandle
import Derived.Stop.LaidErr
import Derived.Lib.LaidTab
import Derived.Lib.ItoaNum
import Derived.Lib.ItoaMem
import Derived.MakeChecks
import Derived.LaidMore
import Derived.HandedShaped
import Derived.Shelf.Vars
import Derived.Test.YtehbinobohjadaaGreatDoorProg
import Derived.ProofKit
import Derived.OpenShut
import Derived.Stop.Joined
namespace Go.Proofs.YtehbinobohjadaaGreatDoor
open Go.RowKit Go.Sort Go.Extern.Stop Go.Stop Go.Extern

theorem SentO.back {x : SentW} {P : List ByteArray} (hP : SentO x P) (hcost : costL P ≤ 300) : Back x P := by
  obtain ⟨t1, t2, t3, t4, t5⟩ := line_toks hP.pz hcost
  have hre := hP.re (f := 8 * P.length + 10) t1 t3 t2 (Nat.le_refl _)
  refine ⟨hP, hcost, hP.wr (Nat.le_trans (totB_cost P) hcost), ?_, (by rw [hre]; intro e; cases e), t5⟩
  unfold readQ
  rw [hP.line hcost, if_pos rfl, if_neg (by omega), hre]
def sA : ByteArray := ⟨#[97]⟩
def sB : ByteArray := ⟨#[98]⟩
def sCc : ByteArray := ⟨#[99]⟩
theorem nm1 {c : UInt8} (h : lowC c = true) : NameOk ⟨#[c]⟩ := by
  refine ⟨h, fun d hd => ?_, fun hm => ?_, by show 1 ≤ 24; omega⟩
  · have hd : d ∈ [c] := hd
    rw [List.mem_singleton.1 hd]
    exact low_word h
  · have hs : ∀ t, t ∈ gramW → t.size ≠ 1 := by decide
    exact hs _ hm rfl
def liveX : SentW := { kind := wRule, name := sA, strength := 1, positive := true, head := sB, cond := .mk wName sCc 0 [], over := [] }
def liveP : List ByteArray := [wRule, sA, sg 58, sB, wIf, sCc]
theorem live_o : SentO liveX liveP := SentO.rule sA sB 1 true [] (nm1 (by decide)) (nm1 (by decide)) (by omega) (fun x h => by cases h) (IfO.some (CondO.name sCc (nm1 (by decide))) (by omega))
theorem live_b : Back liveX liveP := live_o.back (by decide)
theorem apE_is (a b : ByteArray) : apE a b = (if ((b.data.toList == [58]) || (b.data.toList == [44]) || (b.data.toList == [59]) || (b.data.toList == [41]) || (b.data.toList == [93]) || (b.data.toList == [37])) = true then false
  else if (b.data.toList == [40]) = true then !(a.data.toList == [109, 97, 120]) && !(a.data.toList == [109, 105, 110]) && !(a.data.toList == [40])
  else !(a.data.toList == [40]) && !(a.data.toList == [91])) := by
  unfold apE
  simp only [Lib.toList_data]
theorem live_line : lineB liveP = ⟨#[114, 117, 108, 101, 32, 97, 58, 32, 98, 32, 105, 102, 32, 99]⟩ := by
  have h1 : joinB apE ⟨#[]⟩ liveP = [114, 117, 108, 101, 32, 97, 58, 32, 98, 32, 105, 102, 32, 99] := by
    unfold liveP
    simp only [joinB, apE_is]
    decide
  have h2 : jB apE liveP = ⟨#[114, 117, 108, 101, 32, 97, 58, 32, 98, 32, 105, 102, 32, 99]⟩ := by
    unfold jB
    rw [h1]
  have e0 : lineB liveP = if (jB apE liveP).size ≤ 300 then jB apE liveP else if (jB apI liveP).size ≤ 300 then jB apI liveP else jB apW liveP := rfl
  rw [e0, h2, if_pos (by decide)]
theorem live_read {w : World} (hg : GlobQ w) : Calls Tryz.prog 6 #[.string ⟨#[114, 117, 108, 101, 32, 97, 58, 32, 98, 32, 105, 102, 32, 99]⟩] w fun e w' => Below w.heap.size w w' ∧ ∃ cs, e = .returned (.tuple #[.agg cs, .bool true, .nilIface]) ∧ cs.size = 19 ∧ cs.all (·.oneCell') = true ∧ cs[4]? = some (.string sB) ∧ cs[6]? = some (.string sCc) := by
  have hb := live_b
  have hr := hb.rd
  have hn := hb.no
  rw [live_line] at hr hn
  refine (read_q (f := 8 * liveP.length + 10) (by decide) hg fun _ _ => hn).mono ?_
  rintro e w' ⟨h1, h2⟩
  rw [hr] at h2
  obtain ⟨cs, e1, hC⟩ := h2
  obtain ⟨ca, sa, cc, sc, oa, oc, hst, _⟩ := hC.st live_o.small.1 live_o.small.2 (by show 0 ≤ _; omega)
  refine ⟨h1, cs, e1, hst.one.1, hst.one.2, ?_, ?_⟩
  · rw [hst.eq]; rfl
  · rw [hst.eq]; rfl
set_option maxHeartbeats 2000000 in
set_option maxRecDepth 20000 in
theorem live_l {w : World} (hg : GlobQ w) : Calls Tryz.prog 5 #[] w fun e w' => e = .returned (.bool true) ∧ Below w.heap.size w w' := by
  have HL := hidLL (live_read hg)
  clear hg
  go_enter Tryz.func5, Tryz.ntmps5
  go_upto_region 2 with (first | (go_at_call 6; refine HL.out.mono ?_; rintro e V ⟨hb, cs, rfl, hz, ho, h4, h6⟩; (have HB := hidLL hb); (have HZ := hidLL (And.intro hz (And.intro ho (And.intro h4 h6)))); clear hb hz ho h4 h6) | (refine wpList_store_row rfl 30 (.tmp 1) (.tmp 6) rfl V.heap.size cs (by simp [Act.eval]) (by simp [Act.eval]) 30 zS (heap_alloc_new V (.cells zS 30)) (infoSent.trans (by rw [HZ.out.1])) (by rw [zS_size, HZ.out.1]) HZ.out.2.1 ?_))
  rw [World.setRow_alloc_new]
  have hb6 : Below V.heap.size V (V.alloc (.cells cs 30)) := (Below.refl _ _).alloc (Nat.le_refl _) _
  have HB6 := hidLL (HB.out.trans (hb6.mono HB.out.size))
  have x4 := cell_of9 (heap_alloc_new V (.cells cs 30)) HZ.out.2.2.1
  have x6 := cell_of9 (heap_alloc_new V (.cells cs 30)) HZ.out.2.2.2
  clear hb6
  generalize V.alloc (.cells cs 30) = V6 at *
  unfold sB at x4
  unfold sCc at x6
  go_wp2
  go_ret
  exact ⟨rfl, HB6.out⟩
end Go.Proofs.YtehbinobohjadaaGreatDoor
namespace Go.Proofs.YtehbinobohjadaaGreatDoor
open Go.RowKit Go.Sort Go.Extern.Stop Go.Stop Go.Extern

theorem tnok {k w : ByteArray} {n : Nat} {l : List Nd} (hk : k.size ≤ 1000) (hw : w.size ≤ 1000) (hn : n ≤ 1000000000000) (hl : ∀ (i : Nat) (x : Nd), l[i]? = some x → TnOk (toT x)) : TnOk (toT (.mk k w n l)) := by
  refine .mk _ ?_ ?_ ?_ ?_ ?_
  · rw [toT_kind]; show k.size ≤ _; omega
  · rw [toT_word]; show w.size ≤ _; omega
  · rw [toT_num]; show _ ≤ ((n : Nat) : Int); omega
  · rw [toT_num]; show ((n : Nat) : Int) ≤ _; omega
  · intro i u hu
    rw [toT_kids, toTs_get] at hu
    obtain ⟨y, e1, e2⟩ := Option.map_eq_some_iff.1 hu
    rw [← e2]
    exact hl i y e1
theorem nok0 : ∀ (i : Nat) (x : Nd), ([] : List Nd)[i]? = some x → TnOk (toT x) := fun i x h => by cases h
theorem nok1 {a : Nd} (h : TnOk (toT a)) : ∀ (i : Nat) (x : Nd), [a][i]? = some x → TnOk (toT x) := fun i x h2 => by
  match i, h2 with
  | 0, h2 => injection h2 with h2; rw [← h2]; exact h
  | i + 1, h2 => cases h2
theorem nok2 {a b : Nd} (h : TnOk (toT a)) (h' : TnOk (toT b)) : ∀ (i : Nat) (x : Nd), [a, b][i]? = some x → TnOk (toT x) := fun i x h2 => by
  match i, h2 with
  | 0, h2 => injection h2 with h2; rw [← h2]; exact h
  | 1, h2 => injection h2 with h2; rw [← h2]; exact h'
  | i + 2, h2 => cases h2
theorem z0 : (⟨#[]⟩ : ByteArray).size ≤ 1000 := by show 0 ≤ 1000; omega
theorem gram_sz : ∀ t, t ∈ gramW → t.size ≤ 1000 := by decide
theorem ord_sz : ∀ t, t ∈ ordersW → t.size ≤ 1000 := by decide
theorem NameOk.sz2 {w : ByteArray} (h : NameOk w) : w.size ≤ 1000 := Nat.le_trans h.sz (by omega)
theorem SumO.tok {x : Nd} {P : List ByteArray} {m : Nat} (h : SumO x P m) : TnOk (toT x) := by
  induction h with
  | num v h => exact tnok (by decide) z0 h nok0
  | name w h => exact tnok (by decide) h.sz2 (by omega) nok0
  | count w h => exact tnok (by decide) h.sz2 (by omega) nok0
  | total w o h h2 => exact tnok (by decide) h.sz2 (by omega) (nok1 (tnok (by decide) h2.sz2 (by omega) nok0))
  | great k hk ha hb iha ihb => exact tnok (gram_sz _ (by rcases hk with rfl | rfl <;> simp [gramW])) z0 (by omega) (nok2 iha ihb)
  | mul r hr ha iha => exact tnok (by decide) z0 (by omega) (nok1 iha)
  | add k hk ha hb iha ihb => exact tnok (by rcases hk with rfl | rfl <;> decide) z0 (by omega) (nok2 iha ihb)
theorem CondO.tok {x : Nd} {P : List ByteArray} {m : Nat} (h : CondO x P m) : TnOk (toT x) := by
  induction h with
  | name w h => exact tnok (by decide) h.sz2 (by omega) nok0
  | cmp k hk ha hb => exact tnok (ord_sz _ hk) z0 (by omega) (nok2 ha.tok hb.tok)
  | of k w hk h ha iha => exact tnok (gram_sz _ (by rcases hk with rfl | rfl <;> simp [gramW])) h.sz2 (by omega) (nok1 iha)
  | not ha iha => exact tnok (by decide) z0 (by omega) (nok1 iha)
  | and ha hb iha ihb => exact tnok (by decide) z0 (by omega) (nok2 iha ihb)
  | or ha hb iha ihb => exact tnok (by decide) z0 (by omega) (nok2 iha ihb)
theorem tok_zero : TnOk (toT Nd.zero) := tnok z0 z0 (by omega) nok0
theorem IfO.tok {c : Nd} {I : List ByteArray} (h : IfO c I) : TnOk (toT c) := by
  cases h with
  | none => exact tok_zero
  | some h hm => exact h.tok
theorem SentO.sok {x : SentW} {P : List ByteArray} (h : SentO x P) : SOk (toS x) := by
  have e0 : (⟨#[]⟩ : ByteArray).size ≤ 281474976710656 := by show 0 ≤ _; omega
  have nm : ∀ {w : ByteArray}, NameOk w → w.size ≤ 281474976710656 := fun h => Nat.le_trans h.sz (by omega)
  have nil : ∀ y, y ∈ ([] : List ByteArray) → y.size ≤ 281474976710656 := fun y hy => by cases hy
  cases h with
  | define name hn hc hm => exact ⟨by show wDefine.size ≤ _; decide, nm hn, e0, e0, nil, hc.tok, tok_zero, by show _ ≤ (((0 : Nat)) : Int); omega, by show (((0 : Nat)) : Int) ≤ _; omega⟩
  | rule name head st pos ov hn hh hs ho hc => exact ⟨by show wRule.size ≤ _; decide, nm hn, nm hh, e0, fun y hy => nm (ho y hy), hc.tok, tok_zero, by show _ ≤ (((0 : Nat)) : Int); omega, by show (((0 : Nat)) : Int) ≤ _; omega⟩
  | amount name way hn hw hs hm hc => exact ⟨by show wAmount.size ≤ _; decide, nm hn, e0, e0, nil, hc.tok, hs.tok, by show _ ≤ (((0 : Nat)) : Int); omega, by show (((0 : Nat)) : Int) ≤ _; omega⟩
  | duty name head els pos tn tu tr hn hh h1 h2 h3 he => exact ⟨by show wDuty.size ≤ _; decide, nm hn, nm hh, by rcases he with rfl | he; exact e0; exact nm he, nil, tok_zero, tok_zero, by show _ ≤ ((tn : Nat) : Int); omega, by show ((tn : Nat) : Int) ≤ _; omega⟩
mutual
theorem eqT_refl : ∀ (t : Tn), eqT t t = true
  | .mk a b c d => by
    rw [eqT, eqTs_refl d, eqB_yes, eqB_yes]
    simp
theorem eqTs_refl : ∀ (l : List Tn), eqTs l l = true
  | [] => by rw [eqTs]
  | x :: l => by
    rw [eqTs, eqT_refl x, eqTs_refl l]
    rfl
end
theorem eqBs_refl : ∀ (l : List ByteArray), eqBs l l = true
  | [] => rfl
  | x :: l => by
    rw [eqBs, eqBs_refl l]
    simp
theorem eqS_refl (x : SentT) : eqS x x = true := by
  rw [eqS_is, eqT_refl, eqT_refl, eqBs_refl]
  simp
/-- What is written of what was read. -/
theorem Back.out {x : SentW} {P : List ByteArray} (h : Back x P) : outW (toS x) (8 * P.length + 10) = some (lineB P) := by
  have e : (adv wZ P).ts = P := rfl
  unfold outW
  rw [h.wr]
  show (match readQ (lineB P) (8 * P.length + 10) with
    | .ok y => if eqS (toS x) (toS y) = true then some (lineB P) else none
    | _ => none) = _
  rw [h.rd]
  show (if eqS (toS x) (toS x) = true then some (lineB P) else none) = _
  rw [eqS_refl, if_pos rfl]
end Go.Proofs.YtehbinobohjadaaGreatDoor
namespace Go.Proofs.YtehbinobohjadaaGreatDoor
open Go.RowKit Go.Sort Go.Extern.Stop Go.Stop Go.Extern

theorem step_load_row {P : Program} {ops : Array Oper} {o : Oper} {a : Act} {w : World} {K : Act → World → Prop} {Q : Exit → Act → World → Prop} {F : Prop} (hw : Region.wanted o (yielded ops a.tmps) = true) (ty : TypeId) (x : Operand) (ho : o.op = .load ty x)
    (g : Nat) (hx : a.eval x = .pointer (some ⟨g, 0, none⟩)) (t : TypeId) (cs : Array Value) (fr : Nat × Nat) (d : TypeDesc) (hg : w.heap[g]? = some (.cells cs t fr))
    (hu : P.underlying ty = some d) (hd : (match d with | .struct _ | .array _ _ => true | _ => false) = true) (hi : (P.info? ty).map (·.size) = some cs.size)
    (h : K (a.put o.dst (.agg cs)) w) : if Region.wanted o (yielded ops a.tmps) = true then Oper.wp P o a w K Q else F := by
  rw [if_pos hw]
  exact wp_load_row ty x ho g hx t cs fr d hg hu hd hi h
/-- What the law asks of the world. -/
structure LawW (w : World) : Prop where
  g : GlobQ w
  t : TabW w
theorem LawW.step {w V : World} (h : LawW w) (hb : Below w.heap.size w V) : LawW V := ⟨h.g.step hb, h.t.below hb h.t.lt⟩
def TrueR (w : World) (e : Ending) (w' : World) : Prop := e = .returned (.bool true) ∧ Below w.heap.size w w'
set_option maxHeartbeats 2000000 in
theorem back_long {s : ByteArray} {w : World} (hl : LawW w) (hs : 3000 < s.size) : Calls Tryz.prog 3 #[.string s] w (TrueR w) := by
  have HL := hidLL (live_l hl.g)
  have h3 : (3000 : Int) < s.size := by omega
  clear hl
  go_enter Tryz.func3, Tryz.ntmps3
  go_wp2_with (go_at_call 5; refine HL.out.mono ?_; rintro e V ⟨rfl, hb⟩; (have HB := hidLL hb); clear hb)
  go_ret
  exact ⟨rfl, HB.out⟩
set_option maxHeartbeats 2000000 in
set_option maxRecDepth 20000 in
theorem back_none {s : ByteArray} {w : World} (hl : LawW w) (hs : s.size ≤ 3000) (hrd : ∀ V, Below w.heap.size w V → Calls Tryz.prog 6 #[.string s] V fun e V' => Below V.heap.size V V' ∧ e = .returned (.tuple #[.agg zS, .bool false, .nilIface])) : Calls Tryz.prog 3 #[.string s] w (TrueR w) := by
  have HL := hidLL (live_l hl.g)
  have HR := hidLL hrd
  have h3 : ¬ (3000 : Int) < s.size := by omega
  clear hl hrd
  go_enter Tryz.func3, Tryz.ntmps3
  go_wp2_with (first | (go_at_call 5; refine HL.out.mono ?_; rintro e V ⟨rfl, hb⟩; (have HB := hidLL hb); clear hb) | (go_at_call 6; refine (HR.out _ HB.out).mono ?_; rintro e V5 ⟨hb5, rfl⟩; (have HB5 := hidLL (HB.out.trans (hb5.mono HB.out.size))); clear hb5) | (refine wpList_store_row rfl 30 (.tmp 4) (.tmp 21) rfl V5.heap.size zS (by simp [Act.eval]) (by simp [Act.eval]) 30 zS (heap_alloc_new V5 (.cells zS 30)) (infoSent.trans (by rw [zS_size])) rfl zS_one ?_; rw [World.setRow_alloc_new]))
  go_ret
  exact ⟨rfl, HB5.out.trans (((Below.refl _ V5).alloc (Nat.le_refl _) _).mono HB5.out.size)⟩
set_option maxHeartbeats 2000000 in
set_option maxRecDepth 20000 in
theorem back_bad {s : ByteArray} {w : World} (hl : LawW w) (hs : s.size ≤ 3000) (hrd : ∀ V, Below w.heap.size w V → Calls Tryz.prog 6 #[.string s] V (ReadN V)) : Calls Tryz.prog 3 #[.string s] w (TrueR w) := by
  have HL := hidLL (live_l hl.g)
  have HR := hidLL hrd
  have h3 : ¬ (3000 : Int) < s.size := by omega
  clear hl hrd
  go_enter Tryz.func3, Tryz.ntmps3
  go_wp2_with (first | (go_at_call 5; refine HL.out.mono ?_; rintro e V ⟨rfl, hb⟩; (have HB := hidLL hb); clear hb) | (go_at_call 6; refine (HR.out _ HB.out).mono ?_; rintro e V5 ⟨hb5, fa, rfl⟩; (have HB5 := hidLL (HB.out.trans (hb5.mono HB.out.size))); clear hb5) | (refine wpList_store_row rfl 30 (.tmp 4) (.tmp 21) rfl V5.heap.size zS (by simp [Act.eval]) (by simp [Act.eval]) 30 zS (heap_alloc_new V5 (.cells zS 30)) (infoSent.trans (by rw [zS_size])) rfl zS_one ?_; rw [World.setRow_alloc_new]))
  go_ret
  exact ⟨rfl, HB5.out.trans (((Below.refl _ V5).alloc (Nat.le_refl _) _).mono HB5.out.size)⟩
end Go.Proofs.YtehbinobohjadaaGreatDoor
namespace Go.Proofs.YtehbinobohjadaaGreatDoor
open Go.RowKit Go.ChangeShapes Go.Lib Go.Proofs

def sentD (t : List UInt8) : DataW Unit := .iface "*errors.errorString" (.ptr (.agg [.lit (.string t)]))

theorem Tryz.star : "*" ++ "errors.errorString" = "*errors.errorString" := by decide
theorem Tryz.rowES (u : TypeId) (h : Tryz.prog.typeName? 3 u = some "*errors.errorString") : u = 189 :=
  typeName_ptr_named (nm := "errors.errorString") (by rw [Tryz.star]; kernel_rfl) (by kernel_rfl) (by decide) u (by rw [Tryz.star]; exact h)
theorem Tryz.cellsES : Tryz.prog.cellsOf 207 = 1 := by kernel_rfl
theorem Tryz.cells9 : Tryz.prog.cellsOf 9 = 1 := by kernel_rfl

theorem sents_of {P : Program} {tp te ts ti : TypeId} {ms : Array (String × TypeId)} {f : Field} (hi : P.underlying ti = some (.interface ms)) (hrow : ∀ u, P.typeName? 3 u = some "*errors.errorString" → u = tp)
    (hp : P.underlying tp = some (.pointer te)) (he : P.underlying te = some (.struct #[f])) (hft : f.type = ts) (hfo : f.offset = 0) (hs : P.underlying ts = some .string) (hc : P.cellsOf te = 1) (hcs : P.cellsOf ts = 1) (W : World) : ∀ (xs : List (String × Nat × List UInt8)) (rest : List (String × DataW Unit)) (ps : List MemPlace),
    (∀ x, x ∈ xs → P.globalNamed x.1 = some x.2.1 ∧ (P.globals[x.2.1]?).map (·.type) = some ti) →
    DataW.LaidVars P W (xs.map (fun x => (x.1, sentD x.2.2)) ++ rest) ps → ps.Nodup →
    (∀ b off, MemPlace.cell b off ∈ ps → (∃ c t, W.heap[b]? = some (.cells c t (0, 0))) ∧ ∀ u v, W.cell? ⟨b, off, none⟩ = some (.iface u v) → Value.okWide P W .any 0 u v) →
    ∃ al : List Addr, al.length = xs.length ∧ (∀ a, a ∈ al → MemPlace.cell a.block a.off ∈ ps) ∧ al.Nodup ∧
      ∀ (i : Nat) (x : String × Nat × List UInt8) (a : Addr), xs[i]? = some x → al[i]? = some a → W.cell? ⟨x.2.1, 0, none⟩ = some (.iface tp (.pointer (some a)))
  | [], _, _, _, _, _, _ => ⟨[], rfl, (by intro a h; cases h), List.nodup_nil, (by intro i x a h; simp at h)⟩
  | x :: xs, rest, ps, hx, hl, hnd, hrows => by
    obtain ⟨n, gn, t⟩ := x
    obtain ⟨g0, t0, cs0, f0, p0, q0, hg0, ht0, hv0, hd0, hq, e0⟩ := hl
    obtain ⟨hg, ht⟩ := hx (n, gn, t) (List.mem_cons_self ..)
    obtain rfl := Option.some.inj (hg.symm.trans hg0)
    obtain rfl := Option.some.inj (ht.symm.trans ht0)
    subst e0
    obtain ⟨l0⟩ := cs0
    have ok0 : ∀ u v, l0 = [.iface u v] → Value.okWide P W .any 0 u v := fun u v e => by
      subst e
      exact (hrows gn 0 (by simp [MemPlace.row])).2 u v (by simpa using World.var?_cell hg0 hv0 0)
    obtain ⟨a0, s0, rfl, hc0, hs0, hz0, rfl⟩ := errorString_of_trod hi hrow hp he hft hfo hs hc hcs hd0 ok0
    have hnd' := (List.nodup_append.1 hnd)
    obtain ⟨al, hlen, hmem, hn, hcell⟩ := sents_of hi hrow hp he hft hfo hs hc hcs W xs rest q0 (fun x h => hx x (List.mem_cons_of_mem _ h)) hq hnd'.2.1 (fun b off h => hrows b off (List.mem_append_right _ h))
    refine ⟨a0 :: al, by simp [hlen], ?_, ?_, ?_⟩
    · intro a ha
      rcases List.mem_cons.1 ha with rfl | h
      · simp [MemPlace.row]
      · exact List.mem_append_right _ (hmem a h)
    · refine List.nodup_cons.2 ⟨fun h => ?_, hn⟩
      exact hnd'.2.2 _ (by simp [MemPlace.row] : MemPlace.cell a0.block a0.off ∈ _) _ (hmem a0 h) rfl
    · intro i x a h1 h2
      cases i with
      | zero =>
        simp only [List.getElem?_cons_zero, Option.some.injEq] at h1 h2
        subst h1 h2
        simpa using World.var?_cell hg0 hv0 0
      | succ i =>
        simp only [List.getElem?_cons_succ] at h1 h2
        exact hcell i x a h1 h2

def sentList : List (String × Nat × List UInt8) := [("statute/api.ErrText", 1, [115, 116, 97, 116, 117, 116, 101, 58, 32, 116, 101, 120, 116]), ("statute/api.ErrBound", 0, [115, 116, 97, 116, 117, 116, 101, 58, 32, 98, 111, 117, 110, 100])]

theorem sentList_at : ∀ x, x ∈ sentList → Tryz.prog.globalNamed x.1 = some x.2.1 ∧ (Tryz.prog.globals[x.2.1]?).map (·.type) = some 32 := by
  have h1 : (sentList.map fun x => Tryz.prog.globalNamed x.1) = sentList.map fun x => some x.2.1 := by kernel_rfl
  have h2 : (sentList.map fun x => (Tryz.prog.globals[x.2.1]?).map (·.type)) = sentList.map fun _ => some 32 := by kernel_rfl
  intro x hx
  exact ⟨List.map_inj_left.1 h1 x hx, List.map_inj_left.1 h2 x hx⟩
theorem maxLen_of {W : World} (h : W.ShapedOpen Tryz.prog) : ∃ m, W.cell? ⟨12, 0, none⟩ = some (.int .i64 m) :=
  cell_of_shapedOpen_int (g := 12) (t := 3) (zero := #[.int .i64 0]) h (of_decide_eq_true (by kernel_rfl)) (by kernel_rfl) rfl (by kernel_rfl) (by kernel_rfl) Tryz.underlying3
theorem sent2 {W : World} (hs : W.ShapedOpen Tryz.prog) (h : laidMet Tryz.prog (sentList.map (fun x => (x.1, sentD x.2.2)) ++ []) W) : GlobQ W := by
  obtain ⟨ps, hl, hnd, hrows⟩ := h
  obtain ⟨al, hlen, _, _, hcell⟩ := sents_of Tryz.underlying32 Tryz.rowES Tryz.underlying189 Tryz.underlying207 rfl rfl Tryz.underlying9 Tryz.cellsES Tryz.cells9 W sentList [] ps sentList_at hl hnd hrows
  have hlen' : al.length = 2 := hlen
  obtain ⟨a0, a1, rfl⟩ : ∃ a0 a1, al = [a0, a1] := by
    match al, hlen' with
    | [a, b], _ => exact ⟨a, b, rfl⟩
  exact ⟨⟨a0, hcell 0 _ _ rfl rfl⟩, ⟨a1, hcell 1 _ _ rfl rfl⟩, maxLen_of hs⟩
theorem back_env {W : World} (h : laidMetH Tryz.prog Rows.termsBackRow.laid W) (hs : W.ShapedOpen Tryz.prog) : LawW W := by
  rw [Go.MakeChecks.laidMetH_plain _ _ _ (by kernel_rfl)] at h
  have e : Rows.termsBackRow.laid = ("math/bits.deBruijn32tab", Rows.laid_math_bits_deBruijn32tab) :: ("math/bits.deBruijn64tab", Rows.laid_math_bits_deBruijn64tab) :: ("internal/strconv.uint64pow10", Rows.laid_internal_strconv_uint64pow10) :: (sentList.map (fun x => (x.1, sentD x.2.2)) ++ []) := by kernel_rfl
  rw [e] at h
  have h3 := h.tail.tail
  refine ⟨sent2 hs h3.tail, ?_⟩
  have e : (Rows.laid_internal_strconv_uint64pow10 : DataW Unit) = Lib.tabData .u64 Lib.pow10Tab := by kernel_rfl
  rw [e] at h3
  exact Lib.tabIs_of_head (P := Tryz.prog) (g := 13) (t := 182) (e := 176) (n := 20) (by kernel_rfl) (by kernel_rfl) (by kernel_rfl) Tryz.underlying176 (by kernel_rfl) (by kernel_rfl) h3
end Go.Proofs.YtehbinobohjadaaGreatDoor
namespace Go.Proofs.YtehbinobohjadaaGreatDoor
open Go.ChangeShapes Go.WideShapes Go.ChangeAt Go.WideMaps Go.WideElems Go.RowKit

theorem returns_and_shaped {H : Type} {enc : TypeId × Value → H} {a : Assume} {C : Checked} {os : Os} {f : FuncId} {fn : Func} {s : ChangeSpec} {conds : List PathCond} {apart fresh handsOn again : Bool} {X : World → Array Value → Prop}
    (hX : ∀ (w w' : World) (args : Array Value), w.heap = w'.heap → X w args → X w' args)
    (own : ownKnob C.prog.godebug = none) (started : os.Started) (noInit : C.prog.inits.idxOf? f = none) (hfn : C.prog.funcs[f]? = some fn)
    (witness : ∃ (w : World) (tape : Tape) (i : Input), w.os = os ∧ (w.forCall tape i).Shaped C.prog ∧ i.vars = [] ∧ Input.okWide C.prog (w.forCall tape i) .any w.heap.size f i ∧
      ((s.pre enc C.prog fn conds apart (w.forCall tape i).memory i.args ∧ X (w.forCall tape i).memory i.args) ∧ sizedMet enc C.prog fn (OpenSpec.ofChange s) apart (w.forCall tape i).memory i.args) ∧ a.holds C.prog (lone (Frame.enter C.prog f i.args .normal) [] (w.forCall tape i)))
    (contract : ∀ (W : World) (base : Nat) (args : Array Value) (ds gs : List (DataW H)) (before : List MemPlace),
      (∀ (j : Nat) t v, fn.params[j]? = some t → args[j]? = some v → Value.okWide C.prog W .any base t v) →
      DataW.Whole enc C.prog fn.params.toList s.vars apart W args.toList ds gs before →
      X W args → W.ShapedOpen C.prog →
      Calls C.prog f args W fun e W' => ∃ v, e = .returned v ∧ s.post enc C.prog fn apart fresh handsOn again W args v W') :
    ReturnsInHanded a C os f .any (fun w args => (s.pre enc C.prog fn conds apart w args ∧ X w args) ∧ sizedMet enc C.prog fn (OpenSpec.ofChange s) apart w args) (s.post enc C.prog fn apart fresh handsOn again) := by
  refine returnsInHanded_of_calls own started noInit witness ?_
  intro w tape i _ hsh _ hok hpre _
  obtain ⟨_, _, _, fn', hfn', _, _, _, _, hval⟩ := hok
  obtain rfl : fn' = fn := Option.some.inj (hfn'.symm.trans hfn)
  obtain ⟨⟨⟨ds, gs, before, hw, _⟩, hx⟩, _⟩ := hpre
  refine (contract (w.forCall tape i) w.heap.size i.args ds gs before hval (DataW.Whole.of_heap (w' := w.forCall tape i) (by rfl) hw) (hX _ _ _ (by rfl) hx) hsh).mono fun e W' ⟨v, he, hp⟩ => ?_
  subst he
  exact ChangeSpec.post_blind hp
end Go.Proofs.YtehbinobohjadaaGreatDoor
namespace Go.Proofs.YtehbinobohjadaaGreatDoor
open Go.RowKit Go.Sort Go.Extern.Stop Go.Stop Go.Extern

def opsB : Array Oper := #[{ dst := some 43, op := Op.move (Operand.tmp 6), type := 32, pos := "terms.go:90", after := #[], guard := none },
  { dst := some 44, op := Op.binOp BinOp.eql 32 (Operand.tmp 43) (Operand.const Value.nilIface) 32, type := 4, pos := "terms.go:90", after := #[{ on := 0, ground := Ground.data }], guard := none },
  { dst := some 45, op := Op.move (Operand.tmp 44), type := 4, pos := "terms.go:90", after := #[{ on := 1, ground := Ground.data }], guard := none },
  { dst := some 46, op := Op.move (Operand.tmp 5), type := 4, pos := "terms.go:90", after := #[{ on := 2, ground := Ground.guard }], guard := some (2, true) },
  { dst := some 47, op := Op.pick (Operand.tmp 45) (Operand.tmp 46) (Operand.const (Value.bool false)), type := 4, pos := "terms.go:90", after := #[{ on := 2, ground := Ground.data }, { on := 3, ground := Ground.data }], guard := none },
  { dst := some 48, op := Op.move (Operand.tmp 47), type := 4, pos := "terms.go:90", after := #[{ on := 4, ground := Ground.data }, { on := 2, ground := Ground.chain }], guard := none },
  { dst := some 49, op := Op.load 30 (Operand.tmp 4), type := 30, pos := "terms.go:90", after := #[{ on := 5, ground := Ground.guard }], guard := some (5, true) },
  { dst := some 50, op := Op.call { callee := Callee.value (Operand.func 9), args := #[Operand.tmp 49], argTypes := #[30] }, type := 38, pos := "terms.go:90", after := #[{ on := 6, ground := Ground.data }, { on := 5, ground := Ground.chain }, { on := 5, ground := Ground.guard }], guard := some (5, true) },
  { dst := some 51, op := Op.load 30 (Operand.tmp 8), type := 30, pos := "terms.go:90", after := #[{ on := 5, ground := Ground.guard }], guard := some (5, true) },
  { dst := some 52, op := Op.call { callee := Callee.value (Operand.func 9), args := #[Operand.tmp 51], argTypes := #[30] }, type := 38, pos := "terms.go:90", after := #[{ on := 8, ground := Ground.data }, { on := 7, ground := Ground.chain }, { on := 5, ground := Ground.guard }], guard := some (5, true) },
  { dst := some 53, op := Op.call { callee := Callee.value (Operand.func 8), args := #[Operand.tmp 50, Operand.tmp 52], argTypes := #[38, 38] }, type := 4, pos := "terms.go:90", after := #[{ on := 7, ground := Ground.data }, { on := 9, ground := Ground.data }, { on := 9, ground := Ground.chain }, { on := 5, ground := Ground.guard }], guard := some (5, true) },
  { dst := some 54, op := Op.pick (Operand.tmp 48) (Operand.tmp 53) (Operand.const (Value.bool false)), type := 4, pos := "terms.go:90", after := #[{ on := 5, ground := Ground.data }, { on := 10, ground := Ground.data }], guard := none },
  { dst := some 2, op := Op.assign (Operand.tmp 54), type := 4, pos := "terms.go:90", after := #[{ on := 11, ground := Ground.data }, { on := 10, ground := Ground.chain }, { on := 0, ground := Ground.phase }, { on := 1, ground := Ground.phase }, { on := 2, ground := Ground.phase }, { on := 3, ground := Ground.phase }, { on := 4, ground := Ground.phase }, { on := 5, ground := Ground.phase }, { on := 6, ground := Ground.phase }, { on := 7, ground := Ground.phase }, { on := 8, ground := Ground.phase }, { on := 9, ground := Ground.phase }, { on := 10, ground := Ground.phase }, { on := 11, ground := Ground.phase }], guard := none }]
/-- An act whose slots are known where it matters. -/
def At55 (a : Act) (l : List (Nat × Value)) : Prop := a.tmps.size = 55 ∧ a.defers = [] ∧ ∀ k v, (k, v) ∈ l → a.tmps[k]? = some v
theorem At55.put {a : Act} {l : List (Nat × Value)} (h : At55 a l) (k : Nat) (v : Value) (hk : k < 55) (hn : ∀ j u, (j, u) ∈ l → j ≠ k) : At55 (a.put (some k) v) ((k, v) :: l) := by
  refine ⟨by show (a.tmps.setIfInBounds k v).size = 55; rw [Array.size_setIfInBounds]; exact h.1, h.2.1, fun j u hj => ?_⟩
  show (a.tmps.setIfInBounds k v)[j]? = some u
  rcases List.mem_cons.1 hj with e | hj
  · injection e with e1 e2
    subst e1 e2
    rw [Array.getElem?_setIfInBounds_self_of_lt (by rw [h.1]; exact hk)]
  · rw [Array.getElem?_setIfInBounds_ne (fun e => hn j u hj e.symm)]
    exact h.2.2 j u hj
theorem At55.eval {a : Act} {l : List (Nat × Value)} (h : At55 a l) {k : Nat} {v : Value} (hk : (k, v) ∈ l) : a.eval (.tmp k) = v := by
  have := h.2.2 k v hk
  simp [Act.eval, this]
theorem At55.less {a : Act} {l m : List (Nat × Value)} (h : At55 a l) (hm : ∀ p, p ∈ m → p ∈ l) : At55 a m := ⟨h.1, h.2.1, fun k v hk => h.2.2 k v (hm _ hk)⟩
theorem step_val9 {P : Program} {ops : Array Oper} {o : Oper} {a : Act} {w : World} {K : Act → World → Prop} {Q : Exit → Act → World → Prop} {F : Prop} (hw : Region.wanted o (yielded ops a.tmps) = true) {v : Value} (he : (execOp a.eval o).run P w = .ok (.value v) w) (h : K (a.put o.dst v) w) : if Region.wanted o (yielded ops a.tmps) = true then Oper.wp P o a w K Q else F := by
  rw [if_pos hw]
  unfold Oper.wp
  rw [he]
  exact h
theorem step_call9 {P : Program} {ops : Array Oper} {o : Oper} {a : Act} {w : World} {K : Act → World → Prop} {Q : Exit → Act → World → Prop} {F : Prop} (hw : Region.wanted o (yielded ops a.tmps) = true) {f : FuncId} {args : Array Value} (he : (execOp a.eval o).run P w = .ok (.enter f args) w) {R : Ending → World → Prop} (hc : Calls P f args w R) (h : ∀ e w', R e w' → ∃ v, e = .returned v ∧ K (a.put o.dst v) w') : if Region.wanted o (yielded ops a.tmps) = true then Oper.wp P o a w K Q else F := by
  rw [if_pos hw]
  unfold Oper.wp
  rw [he]
  refine hc.mono ?_
  intro e w' hr
  obtain ⟨v, rfl, hk⟩ := h e w' hr
  exact hk
theorem want5 {a : Act} (h : a.tmps[48]? = some (.bool true)) (d : Option Tmp) (op : Op) (ty : TypeId) (pos : String) (af : Array Edge) : Region.wanted { dst := d, op := op, type := ty, pos := pos, after := af, guard := some (5, true) } (yielded opsB a.tmps) = true := by
  have : yielded opsB a.tmps 5 = some true := by
    show (match a.tmps[48]? with
      | some (.bool b) => some b
      | _ => none) = _
    rw [h]
  simp [Region.wanted, this]
theorem want2 {a : Act} (h : a.tmps[45]? = some (.bool true)) (d : Option Tmp) (op : Op) (ty : TypeId) (pos : String) (af : Array Edge) : Region.wanted { dst := d, op := op, type := ty, pos := pos, after := af, guard := some (2, true) } (yielded opsB a.tmps) = true := by
  have : yielded opsB a.tmps 2 = some true := by
    show (match a.tmps[45]? with
      | some (.bool b) => some b
      | _ => none) = _
    rw [h]
  simp [Region.wanted, this]
end Go.Proofs.YtehbinobohjadaaGreatDoor
