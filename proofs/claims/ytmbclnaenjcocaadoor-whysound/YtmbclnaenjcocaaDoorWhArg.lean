/-
  Steps that a law is handed, out of their reading.
-/
import Derived.Test.YtmbclnaenjcocaaDoorRsArg
import Derived.Test.YtmbclnaenjcocaaDoorWhPl
namespace Go.Proofs.YtmbclnaenjcocaaDoor
open Go.ChangeShapes Go.WideShapes Go.ChangeAt Go.WideMaps Go.WideElems Go.RowKit

theorem Tryd.c_bool : Tryd.prog.cellsOf 4 = 1 := by kernel_rfl
theorem Tryd.c_stp : Tryd.prog.cellsOf 57 = 3 := by kernel_rfl
theorem Tryd.b_stp : Tryd.prog.bytesOf 57 = 16 := by kernel_rfl
section
variable {H : Type} {enc : TypeId × Value → H} {W : World}
set_option maxRecDepth 100000 in
theorem steps_read {fuel : Nat} {v : Value} {x : DataW H × List MemPlace} (h : DataW.trod enc Tryd.prog W 0 (fun _ => true) true fuel 49 [v] = some x) (hw : ∀ y ∈ x.1.weights Tryd.prog 49, y ≤ reachBytes) : ∃ a n c l, v = .slice a n c ∧ n = l.length ∧ SRd W W.heap.size (.slice a n c) l := by
  obtain ⟨_, a, c, l, e, hb, hx⟩ := slice_read (α := Clm) (by decide) Tryd.underlying49 Tryd.c_stp h hw (fun r cs => cs = [.bool r.1, .bool r.2.1, .int .i64 r.2.2]) (fun n cs y hy _ => by
    obtain ⟨xs, m, _, hy1, hl, hlen, hf⟩ := DataW.trod_struct Tryd.underlying57 hy
    rw [Tryd.c_stp] at hl
    have hlen : xs.length = 3 := hlen
    match cs, hl, xs, hlen with
    | [u0, u1, u2], _, [y0, y1, y2], _ =>
      have f0 := hf 0 _ rfl
      have f1 := hf 1 _ rfl
      have f2 := hf 2 _ rfl
      change DataW.trod enc Tryd.prog W 0 (fun _ => true) true m 4 ((List.drop 0 [u0, u1, u2]).take (Tryd.prog.cellsOf 4)) = some y0 at f0
      change DataW.trod enc Tryd.prog W 0 (fun _ => true) true m 4 ((List.drop 1 [u0, u1, u2]).take (Tryd.prog.cellsOf 4)) = some y1 at f1
      change DataW.trod enc Tryd.prog W 0 (fun _ => true) true m 3 ((List.drop 2 [u0, u1, u2]).take (Tryd.prog.cellsOf 3)) = some y2 at f2
      rw [Tryd.c_bool] at f0 f1
      rw [Tryd.c_int] at f2
      obtain ⟨m0, e0, _⟩ := DataW.trod_bool Tryd.underlying4 f0
      obtain ⟨m1, e1, _⟩ := DataW.trod_bool Tryd.underlying4 f1
      obtain ⟨m2, e2, _⟩ := DataW.trod_int Tryd.underlying3 f2
      have e0 : [u0] = [Value.bool m0] := e0
      have e1 : [u1] = [Value.bool m1] := e1
      have e2 : [u2] = [Value.int .i64 m2] := e2
      injection e0 with e0
      injection e1 with e1
      injection e2 with e2
      exact ⟨(m0, m1, m2), by rw [e0, e1, e2]⟩)
  rw [Tryd.b_stp] at hb
  unfold reachBytes at hb
  refine ⟨a, l.length, c, l, e, rfl, a, c, rfl, by omega, fun j r hr => ?_⟩
  obtain ⟨g, o, cs, e1, hg, e2, hc⟩ := hx j r hr
  subst e2
  exact ⟨g, o, e1, hg, hc 0 (by decide), hc 1 (by decide), hc 2 (by decide)⟩
set_option maxRecDepth 100000 in
theorem steps_arg {base : Nat} {v : Value} {d : DataW H} {ps : List MemPlace}
    (hval : Value.okWide Tryd.prog W .any base 49 v) (hd : DataW.Trod enc Tryd.prog W 0 (fun _ => true) true 49 v d ps) (hw : ∀ z ∈ d.weights Tryd.prog 49, z ≤ reachBytes) :
    ∃ a n c l, v = .slice a n c ∧ n = l.length ∧ SRd W W.heap.size (.slice a n c) l := by
  obtain ⟨fuel, hf⟩ := hd
  have hv : ∃ a n c, v = .slice a n c := okWide_slice Tryd.underlying49 hval
  obtain ⟨a, n, c, rfl⟩ := hv
  exact steps_read hf hw
end
end Go.Proofs.YtmbclnaenjcocaaDoor
