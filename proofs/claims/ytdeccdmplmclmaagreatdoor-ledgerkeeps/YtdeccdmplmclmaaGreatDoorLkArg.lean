/-
  Entries that a law is handed, out of their reading.
-/
import Derived.Test.YtdeccdmplmclmaaGreatDoorArgBase
import Derived.Test.YtdeccdmplmclmaaGreatDoorLeMem
namespace Go.Proofs.YtdeccdmplmclmaaGreatDoor
open Go.ChangeShapes Go.WideShapes Go.ChangeAt Go.WideMaps Go.WideElems Go.RowKit

theorem Tryz.c_ln : Tryz.prog.cellsOf 58 = 2 := by kernel_rfl
theorem Tryz.c_lns : Tryz.prog.cellsOf 28 = 1 := by kernel_rfl
theorem Tryz.c_en : Tryz.prog.cellsOf 30 = 3 := by kernel_rfl
theorem Tryz.b_ln : Tryz.prog.bytesOf 58 = 24 := by kernel_rfl
theorem Tryz.b_en : Tryz.prog.bytesOf 30 = 48 := by kernel_rfl
theorem Tryz.c_st : Tryz.prog.cellsOf 9 = 1 := by kernel_rfl
section
variable {H : Type} {enc : TypeId × Value → H} {W : World}
set_option maxRecDepth 100000 in
theorem lines_read {fuel : Nat} {v : Value} {x : DataW H × List MemPlace} (h : DataW.trod enc Tryz.prog W 0 (fun _ => true) true fuel 28 [v] = some x) (hw : ∀ y ∈ x.1.weights Tryz.prog 28, y ≤ reachBytes) : ∃ l, RdS lnE W (· < W.heap.size) v l := by
  obtain ⟨_, a, c, l, e, _, hb, hx⟩ := slice_read (α := Ln) (by decide) Tryz.underlying28 Tryz.c_ln h hw (fun r cs => cs = lnE.f r) (fun n cs y hy _ => by
    obtain ⟨xs, m, _, hy1, hl, hlen, hf⟩ := DataW.trod_struct Tryz.underlying58 hy
    rw [Tryz.c_ln] at hl
    have hlen : xs.length = 2 := hlen
    match cs, hl, xs, hlen with
    | [u0, u1], _, [y0, y1], _ =>
      have f0 := hf 0 _ rfl
      have f1 := hf 1 _ rfl
      change DataW.trod enc Tryz.prog W 0 (fun _ => true) true m 9 ((List.drop 0 [u0, u1]).take (Tryz.prog.cellsOf 9)) = some y0 at f0
      rw [Tryz.c_st] at f0
      obtain ⟨m0, e0, _⟩ := DataW.trod_string Tryz.underlying9 f0
      have e0 : [u0] = [Value.string m0] := e0
      injection e0 with e0
      change DataW.trod enc Tryz.prog W 0 (fun _ => true) true m 3 ((List.drop 1 [u0, u1]).take (Tryz.prog.cellsOf 3)) = some y1 at f1
      rw [Tryz.c_int] at f1
      obtain ⟨m1, e1, _⟩ := DataW.trod_int Tryz.underlying3 f1
      have e1 : [u1] = [Value.int .i64 m1] := e1
      injection e1 with e1
      exact ⟨⟨m0, m1⟩, by rw [e0, e1]; rfl⟩)
  rw [Tryz.b_ln] at hb
  unfold reachBytes at hb
  refine ⟨l, a, c, e, by omega, fun j r hr => ?_⟩
  obtain ⟨g, o, cs, e1, hg, e2, hc⟩ := hx j r hr
  subst e2
  exact ⟨g, o, e1, hg, fun i u hu => (hc i (List.getElem?_eq_some_iff.1 hu).1).trans hu⟩
set_option maxRecDepth 100000 in
theorem entries_arg {base : Nat} {v : Value} {d : DataW H} {ps : List MemPlace}
    (hval : Value.okWide Tryz.prog W .any base 22 v) (hd : DataW.Trod enc Tryz.prog W 0 (fun _ => true) true 22 v d ps) (hw : ∀ z ∈ d.weights Tryz.prog 22, z ≤ reachBytes) :
    ∃ a n c l, v = .slice a n c ∧ NRd enN W (· < W.heap.size) (.slice a n c) l := by
  obtain ⟨fuel, hf⟩ := hd
  have hv : ∃ a n c, v = .slice a n c := okWide_slice Tryz.underlying22 hval
  obtain ⟨a0, n0, c0, rfl⟩ := hv
  obtain ⟨_, a, c, l, e, _, hb, hx⟩ := slice_read (α := En × SlV) (by decide) Tryz.underlying22 Tryz.c_en hf hw (fun r cs => cs = enE.f r ∧ RdS lnE W (· < W.heap.size) r.2.v r.1.lines) (fun n cs y hy hwy => by
    obtain ⟨xs, m, _, hy1, hl, hlen, hf⟩ := DataW.trod_struct Tryz.underlying30 hy
    rw [Tryz.c_en] at hl
    have hlen : xs.length = 3 := hlen
    match cs, hl, xs, hlen with
    | [u0, u1, u2], _, [y0, y1, y2], _ =>
      have f0 := hf 0 _ rfl
      have f1 := hf 1 _ rfl
      have f2 := hf 2 _ rfl
      change DataW.trod enc Tryz.prog W 0 (fun _ => true) true m 3 ((List.drop 0 [u0, u1, u2]).take (Tryz.prog.cellsOf 3)) = some y0 at f0
      rw [Tryz.c_int] at f0
      obtain ⟨m0, e0, _⟩ := DataW.trod_int Tryz.underlying3 f0
      have e8 : [u0] = [Value.int .i64 m0] := e0
      injection e8 with e9 _
      change DataW.trod enc Tryz.prog W 0 (fun _ => true) true m 9 ((List.drop 1 [u0, u1, u2]).take (Tryz.prog.cellsOf 9)) = some y1 at f1
      rw [Tryz.c_st] at f1
      obtain ⟨m1, e1, _⟩ := DataW.trod_string Tryz.underlying9 f1
      have e6 : [u1] = [Value.string m1] := e1
      injection e6 with e7 _
      change DataW.trod enc Tryz.prog W 0 (fun _ => true) true m 28 ((List.drop 2 [u0, u1, u2]).take (Tryz.prog.cellsOf 28)) = some y2 at f2
      rw [Tryz.c_lns] at f2
      obtain ⟨pl, hpl⟩ := lines_read (v := u2) f2 (fun z hz => hwy z (by
        rw [hy1]
        simp only [DataW.weights, Tryz.underlying30]
        change z ∈ y0.1.weights Tryz.prog 3 ++ (y1.1.weights Tryz.prog 9 ++ (y2.1.weights Tryz.prog 28 ++ _))
        exact List.mem_append_right _ (List.mem_append_right _ (List.mem_append_left _ hz))))
      obtain ⟨pa, pn, pc, rfl, _⟩ := hpl.form
      exact ⟨(⟨m0, m1, pl⟩, ⟨pa, pn, pc⟩), by rw [e9, e7]; rfl, hpl⟩)
  rw [Tryz.b_en] at hb
  unfold reachBytes at hb
  refine ⟨a, l.length, c, l.map (·.1), e, l.map (·.2), by simp, ?_, fun i s x hs hx' => ?_⟩
  · have hz : (l.map (·.1)).zip (l.map (·.2)) = l := by
      rw [List.zip_map']
      simp
    rw [hz]
    refine ⟨a, c, rfl, by omega, fun j r hr => ?_⟩
    obtain ⟨g, o, cs, e1, hg, ⟨e2, _⟩, hc⟩ := hx j r hr
    subst e2
    exact ⟨g, o, e1, hg, fun i u hu => (hc i (List.getElem?_eq_some_iff.1 hu).1).trans hu⟩
  · rw [List.getElem?_map, Option.map_eq_some_iff] at hs hx'
    obtain ⟨r, hr, rfl⟩ := hs
    obtain ⟨r', hr', rfl⟩ := hx'
    rw [hr] at hr'
    obtain rfl := Option.some.inj hr'
    obtain ⟨_, _, _, _, _, ⟨_, h2⟩, _⟩ := hx i r hr
    exact h2
end
end Go.Proofs.YtdeccdmplmclmaaGreatDoor
