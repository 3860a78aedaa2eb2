/-
  Claims that a law is handed, out of their reading.
-/
import Derived.Test.YtkphonojpnhefaaDoorArgBase
import Derived.Test.YtkphonojpnhefaaDoorLeMem
namespace Go.Proofs.YtkphonojpnhefaaDoor
open Go.ChangeShapes Go.WideShapes Go.ChangeAt Go.WideMaps Go.WideElems Go.RowKit

theorem Tryd.c_pay : Tryd.prog.cellsOf 62 = 3 := by kernel_rfl
theorem Tryd.c_pays : Tryd.prog.cellsOf 48 = 1 := by kernel_rfl
theorem Tryd.c_clm : Tryd.prog.cellsOf 50 = 2 := by kernel_rfl
theorem Tryd.b_pay : Tryd.prog.bytesOf 62 = 24 := by kernel_rfl
theorem Tryd.b_clm : Tryd.prog.bytesOf 50 = 32 := by kernel_rfl
section
variable {H : Type} {enc : TypeId × Value → H} {W : World}
set_option maxRecDepth 100000 in
theorem pays_read {fuel : Nat} {v : Value} {x : DataW H × List MemPlace} (h : DataW.trod enc Tryd.prog W 0 (fun _ => true) true fuel 48 [v] = some x) (hw : ∀ y ∈ x.1.weights Tryd.prog 48, y ≤ reachBytes) : ∃ l, RdS pyE W (· < W.heap.size) v l := by
  obtain ⟨_, a, c, l, e, _, hb, hx⟩ := slice_read (α := Py) (by decide) Tryd.underlying48 Tryd.c_pay h hw (fun r cs => cs = pyE.f r) (fun n cs y hy _ => by
    obtain ⟨xs, m, _, hy1, hl, hlen, hf⟩ := DataW.trod_struct Tryd.underlying62 hy
    rw [Tryd.c_pay] at hl
    have hlen : xs.length = 3 := hlen
    match cs, hl, xs, hlen with
    | [u0, u1, u2], _, [y0, y1, y2], _ =>
      have f0 := hf 0 _ rfl
      have f1 := hf 1 _ rfl
      have f2 := hf 2 _ rfl
      change DataW.trod enc Tryd.prog W 0 (fun _ => true) true m 3 ((List.drop 0 [u0, u1, u2]).take (Tryd.prog.cellsOf 3)) = some y0 at f0
      rw [Tryd.c_int] at f0
      obtain ⟨m0, e0, _⟩ := DataW.trod_int Tryd.underlying3 f0
      have e0 : [u0] = [Value.int .i64 m0] := e0
      injection e0 with e0
      change DataW.trod enc Tryd.prog W 0 (fun _ => true) true m 3 ((List.drop 1 [u0, u1, u2]).take (Tryd.prog.cellsOf 3)) = some y1 at f1
      rw [Tryd.c_int] at f1
      obtain ⟨m1, e1, _⟩ := DataW.trod_int Tryd.underlying3 f1
      have e1 : [u1] = [Value.int .i64 m1] := e1
      injection e1 with e1
      change DataW.trod enc Tryd.prog W 0 (fun _ => true) true m 3 ((List.drop 2 [u0, u1, u2]).take (Tryd.prog.cellsOf 3)) = some y2 at f2
      rw [Tryd.c_int] at f2
      obtain ⟨m2, e2, _⟩ := DataW.trod_int Tryd.underlying3 f2
      have e2 : [u2] = [Value.int .i64 m2] := e2
      injection e2 with e2
      exact ⟨⟨m0, m1, m2⟩, by rw [e0, e1, e2]; rfl⟩)
  rw [Tryd.b_pay] at hb
  unfold reachBytes at hb
  refine ⟨l, a, c, e, by omega, fun j r hr => ?_⟩
  obtain ⟨g, o, cs, e1, hg, e2, hc⟩ := hx j r hr
  subst e2
  exact ⟨g, o, e1, hg, fun i u hu => (hc i (List.getElem?_eq_some_iff.1 hu).1).trans hu⟩
set_option maxRecDepth 100000 in
theorem claims_arg {base : Nat} {v : Value} {d : DataW H} {ps : List MemPlace}
    (hval : Value.okWide Tryd.prog W .any base 22 v) (hd : DataW.Trod enc Tryd.prog W 0 (fun _ => true) true 22 v d ps) (hw : ∀ z ∈ d.weights Tryd.prog 22, z ≤ reachBytes) :
    ∃ a n c l, v = .slice a n c ∧ NRd clN W (· < W.heap.size) (.slice a n c) l := by
  obtain ⟨fuel, hf⟩ := hd
  have hv : ∃ a n c, v = .slice a n c := okWide_slice Tryd.underlying22 hval
  obtain ⟨a0, n0, c0, rfl⟩ := hv
  obtain ⟨_, a, c, l, e, _, hb, hx⟩ := slice_read (α := Cl × SlV) (by decide) Tryd.underlying22 Tryd.c_clm hf hw (fun r cs => cs = clE.f r ∧ RdS pyE W (· < W.heap.size) r.2.v r.1.due) (fun n cs y hy hwy => by
    obtain ⟨xs, m, _, hy1, hl, hlen, hf⟩ := DataW.trod_struct Tryd.underlying50 hy
    rw [Tryd.c_clm] at hl
    have hlen : xs.length = 2 := hlen
    match cs, hl, xs, hlen with
    | [u0, u1], _, [y0, y1], _ =>
      have f0 := hf 0 _ rfl
      have f1 := hf 1 _ rfl
      change DataW.trod enc Tryd.prog W 0 (fun _ => true) true m 3 ((List.drop 0 [u0, u1]).take (Tryd.prog.cellsOf 3)) = some y0 at f0
      rw [Tryd.c_int] at f0
      obtain ⟨m0, e0, _⟩ := DataW.trod_int Tryd.underlying3 f0
      have e8 : [u0] = [Value.int .i64 m0] := e0
      injection e8 with e9 _
      change DataW.trod enc Tryd.prog W 0 (fun _ => true) true m 48 ((List.drop 1 [u0, u1]).take (Tryd.prog.cellsOf 48)) = some y1 at f1
      rw [Tryd.c_pays] at f1
      obtain ⟨pl, hpl⟩ := pays_read (v := u1) f1 (fun z hz => hwy z (by
        rw [hy1]
        simp only [DataW.weights, Tryd.underlying50]
        change z ∈ y0.1.weights Tryd.prog 3 ++ (y1.1.weights Tryd.prog 48 ++ _)
        exact List.mem_append_right _ (List.mem_append_left _ hz)))
      obtain ⟨pa, pn, pc, rfl, _⟩ := hpl.form
      exact ⟨(⟨m0, pl⟩, ⟨pa, pn, pc⟩), by rw [e9]; rfl, hpl⟩)
  rw [Tryd.b_clm] at hb
  unfold reachBytes at hb
  refine ⟨a, l.length, c, l.map (·.1), e, l.map (·.2), by simp, ?_, fun i s x hs hx' => ?_⟩
  · have hz : (l.map (·.1)).zip (l.map (·.2)) = l := by
      rw [List.zip_map']
      simp
    rw [hz]
    refine ⟨a, c, rfl, by omega, fun j r hr => ?_⟩
    obtain ⟨g, o, cs, e1, hg, ⟨e2, _⟩, hc⟩ := hx j r hr
    subst e2
    exact ⟨g, o, e1, hg, fun i u hu => (hc i (List.getElem?_eq_some_iff.1 hu).1).trans hu⟩
  · rw [List.getElem?_map, Option.map_eq_some_iff] at hs hx'
    obtain ⟨r, hr, rfl⟩ := hs
    obtain ⟨r', hr', rfl⟩ := hx'
    rw [hr] at hr'
    obtain rfl := Option.some.inj hr'
    obtain ⟨_, _, _, _, _, ⟨_, h2⟩, _⟩ := hx i r hr
    exact h2
end
end Go.Proofs.YtkphonojpnhefaaDoor
