/-
  A term that a law is handed, out of its reading.
-/
import Derived.Test.YtlebpojohaplnaaDoorCalCard
import Derived.Deep.Strs
namespace Go.Proofs.YtlebpojohaplnaaDoor
open Go.ChangeShapes Go.WideShapes Go.ChangeAt Go.WideMaps Go.WideElems Go.RowKit

set_option maxRecDepth 100000 in
theorem term_arg {H : Type} {enc : TypeId × Value → H} {W : World} {base : Nat} {v : Value} {d : DataW H} {ps : List MemPlace}
    (hval : Value.okWide Tryd.prog W .any base 45 v) (hd : DataW.Trod enc Tryd.prog W 0 (fun _ => true) true 45 v d ps) :
    ∃ a b c, v = .agg #[.int .i64 a, .int .i64 b, .int .i64 c] ∧ (Lit.int .i64 a).wf = true ∧ (Lit.int .i64 b).wf = true ∧ (Lit.int .i64 c).wf = true := by
  obtain ⟨cs, rfl, hsz⟩ := okWide_struct Tryd.underlying45 hval
  have hsz' : cs.size = 3 := hsz.trans (by kernel_rfl)
  obtain ⟨c0, c1, c2, rfl⟩ : ∃ c0 c1 c2, cs = #[c0, c1, c2] := by
    rcases cs with ⟨l⟩
    match l, hsz' with
    | [a, b, c], _ => exact ⟨a, b, c, rfl⟩
  obtain ⟨fuel, hf⟩ := hd
  obtain ⟨y0, y1, y2, k, _, _, t0, t1, t2⟩ := Go.Deep.trod_struct3 Tryd.underlying45 hf
  have hc : Tryd.prog.cellsOf 3 = 1 := by kernel_rfl
  change DataW.trod enc Tryd.prog W 0 (fun _ => true) true k 3 ((List.drop 0 [c0, c1, c2]).take (Tryd.prog.cellsOf 3)) = some y0 at t0
  change DataW.trod enc Tryd.prog W 0 (fun _ => true) true k 3 ((List.drop 1 [c0, c1, c2]).take (Tryd.prog.cellsOf 3)) = some y1 at t1
  change DataW.trod enc Tryd.prog W 0 (fun _ => true) true k 3 ((List.drop 2 [c0, c1, c2]).take (Tryd.prog.cellsOf 3)) = some y2 at t2
  rw [hc] at t0 t1 t2
  obtain ⟨a, ea, _, wa⟩ := DataW.trod_int Tryd.underlying3 t0
  obtain ⟨b, eb, _, wb⟩ := DataW.trod_int Tryd.underlying3 t1
  obtain ⟨c, ec, _, wc⟩ := DataW.trod_int Tryd.underlying3 t2
  simp only [List.drop, List.take, List.cons.injEq, and_true] at ea eb ec
  subst ea eb ec
  exact ⟨a, b, c, rfl, wa, wb, wc⟩
end Go.Proofs.YtlebpojohaplnaaDoor
