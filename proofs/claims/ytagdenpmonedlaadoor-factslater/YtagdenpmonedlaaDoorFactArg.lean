/-
  Facts that a law is handed, out of their reading.
-/
import Derived.Test.YtagdenpmonedlaaDoorRows
import Derived.Test.YtagdenpmonedlaaDoorFMem
import Derived.ProofKit
import Derived.LaidMore
import Derived.OpenShut
import Derived.Stop.Joined
import Derived.SevenTiedAt
import Derived.WideLaws
import Derived.ChangeSlices
import Derived.ChangeSame
import Derived.Carry
namespace Go.Proofs.YtagdenpmonedlaaDoor
open Go.ChangeShapes Go.WideShapes Go.ChangeAt Go.WideMaps Go.WideElems Go.RowKit

theorem Tryd.ownAll : ownKnob Tryd.prog.godebug = none := by kernel_rfl
theorem Tryd.laidOutAll : laidOutB Tryd.prog = true := by kernel_rfl
section
variable {H : Type} {enc : TypeId × Value → H} {W : World}
theorem spot_none {a : Addr} {u : Value} (h : W.cell? a = some u) : ∃ b o, a = ⟨b, o, none⟩ := by
  obtain ⟨b, o, sp⟩ := a
  have hs := World.cell?_spot h
  have hs' : sp = none := hs
  subst hs'
  exact ⟨b, o, rfl⟩
theorem addr_plus (b o j : Nat) : (⟨b, o, none⟩ : Addr).add j = ⟨b, o + j, none⟩ := by cases j <;> simp [Addr.add]
theorem cells_at {a : Addr} {n : Nat} {cs : List Value} (h : W.cells? 0 a n = some cs) : cs.length = n ∧ ∀ i, i < n → W.cell? (a.add i) = cs[i]? := by
  unfold World.cells? at h
  rw [if_pos (Nat.zero_le _)] at h
  have hl := mapM_some_length h
  rw [List.length_range] at hl
  exact ⟨hl, fun i hi => mapM_some_get h i i (by rw [List.getElem?_range hi])⟩
set_option maxRecDepth 100000 in
/-- A fact's reading. -/
theorem fact_trod {fuel : Nat} {cs : List Value} {x : DataW H × List MemPlace} (h : DataW.trod enc Tryd.prog W 0 (fun _ => true) true fuel 36 cs = some x) : ∃ y : Fct, cs = [fctV y 0, fctV y 1, fctV y 2, fctV y 3, fctV y 4, fctV y 5, fctV y 6] := by
  obtain ⟨xs, n, hfu, rfl, hl, hlen, hf⟩ := DataW.trod_struct Tryd.underlying36 h
  have h7 : Tryd.prog.cellsOf 36 = 7 := by kernel_rfl
  have hci : Tryd.prog.cellsOf 3 = 1 := by kernel_rfl
  have hcs : Tryd.prog.cellsOf 9 = 1 := by kernel_rfl
  rw [h7] at hl
  obtain ⟨c0, c1, c2, c3, c4, c5, c6, rfl⟩ : ∃ c0 c1 c2 c3 c4 c5 c6, cs = [c0, c1, c2, c3, c4, c5, c6] := by
    match cs, hl with
    | [a, b, c, d, e, f, g], _ => exact ⟨a, b, c, d, e, f, g, rfl⟩
  obtain ⟨y0, y1, y2, y3, y4, y5, y6, rfl⟩ : ∃ y0 y1 y2 y3 y4 y5 y6, xs = [y0, y1, y2, y3, y4, y5, y6] := by
    have hlen : xs.length = 7 := hlen
    match xs, hlen with
    | [a, b, c, d, e, f, g], _ => exact ⟨a, b, c, d, e, f, g, rfl⟩
  have t0 := hf 0 _ rfl
  have t1 := hf 1 _ rfl
  have t2 := hf 2 _ rfl
  have t3 := hf 3 _ rfl
  have t4 := hf 4 _ rfl
  have t5 := hf 5 _ rfl
  have t6 := hf 6 _ rfl
  change DataW.trod enc Tryd.prog W 0 (fun _ => true) true n 3 ((List.drop 0 [c0, c1, c2, c3, c4, c5, c6]).take (Tryd.prog.cellsOf 3)) = some y0 at t0
  change DataW.trod enc Tryd.prog W 0 (fun _ => true) true n 9 ((List.drop 1 [c0, c1, c2, c3, c4, c5, c6]).take (Tryd.prog.cellsOf 9)) = some y1 at t1
  change DataW.trod enc Tryd.prog W 0 (fun _ => true) true n 3 ((List.drop 2 [c0, c1, c2, c3, c4, c5, c6]).take (Tryd.prog.cellsOf 3)) = some y2 at t2
  change DataW.trod enc Tryd.prog W 0 (fun _ => true) true n 3 ((List.drop 3 [c0, c1, c2, c3, c4, c5, c6]).take (Tryd.prog.cellsOf 3)) = some y3 at t3
  change DataW.trod enc Tryd.prog W 0 (fun _ => true) true n 3 ((List.drop 4 [c0, c1, c2, c3, c4, c5, c6]).take (Tryd.prog.cellsOf 3)) = some y4 at t4
  change DataW.trod enc Tryd.prog W 0 (fun _ => true) true n 3 ((List.drop 5 [c0, c1, c2, c3, c4, c5, c6]).take (Tryd.prog.cellsOf 3)) = some y5 at t5
  change DataW.trod enc Tryd.prog W 0 (fun _ => true) true n 3 ((List.drop 6 [c0, c1, c2, c3, c4, c5, c6]).take (Tryd.prog.cellsOf 3)) = some y6 at t6
  rw [hci] at t0 t2 t3 t4 t5 t6
  rw [hcs] at t1
  obtain ⟨n0, e0, _⟩ := DataW.trod_int Tryd.underlying3 t0
  obtain ⟨s1, e1, _⟩ := DataW.trod_string Tryd.underlying9 t1
  obtain ⟨n2, e2, _⟩ := DataW.trod_int Tryd.underlying3 t2
  obtain ⟨n3, e3, _⟩ := DataW.trod_int Tryd.underlying3 t3
  obtain ⟨n4, e4, _⟩ := DataW.trod_int Tryd.underlying3 t4
  obtain ⟨n5, e5, _⟩ := DataW.trod_int Tryd.underlying3 t5
  obtain ⟨n6, e6, _⟩ := DataW.trod_int Tryd.underlying3 t6
  have f0 : c0 = .int .i64 n0 := by injection e0
  have f1 : c1 = .string s1 := by injection e1
  have f2 : c2 = .int .i64 n2 := by injection e2
  have f3 : c3 = .int .i64 n3 := by injection e3
  have f4 : c4 = .int .i64 n4 := by injection e4
  have f5 : c5 = .int .i64 n5 := by injection e5
  have f6 : c6 = .int .i64 n6 := by injection e6
  subst f0 f1 f2 f3 f4 f5 f6
  exact ⟨⟨n0, s1, n2, n3, n4, n5, n6⟩, rfl⟩
set_option maxRecDepth 100000 in
/-- The facts. -/
theorem facts_arg {base : Nat} {v : Value} {d : DataW H} {ps : List MemPlace}
    (hval : Value.okWide Tryd.prog W .any base 22 v) (hd : DataW.Trod enc Tryd.prog W 0 (fun _ => true) true 22 v d ps) :
    ∃ a c l, v = .slice a (List.length l) c ∧ FRead W a l ∧ l.length ≤ 9223372036854775807 := by
  obtain ⟨o, n, cap, rfl⟩ := okWide_slice Tryd.underlying22 hval
  obtain ⟨fuel, hf⟩ := hd
  have hcs : (Value.slice o n cap).cells.toList = [.slice o n cap] := rfl
  rw [hcs] at hf
  rcases DataW.trod_slice Tryd.underlying22 hf with ⟨h1, _⟩ | ⟨a, len, cap', elems, rest, m, hnm, h1, _, _, hlc, hcm, helen, hel, _⟩
  · injection h1 with h1 _
    injection h1 with h1 h2 h3
    subst h1 h2 h3
    exact ⟨none, 0, [], rfl, fun i x hx => by simp at hx, by simp⟩
  · injection h1 with h1 _
    injection h1 with h1 h2 h3
    subst h1 h2 h3
    have h7 : Tryd.prog.cellsOf 36 = 7 := by kernel_rfl
    rw [h7] at hel
    have hone : ∀ i, i < n → ∃ y : Fct, ∀ c, c < 7 → W.cell? ((a.add (i * 7)).add c) = some (fctV y c) := fun i hi => by
      have h2 := hel i hi
      obtain ⟨y, hy⟩ : ∃ y, elems[i]? = some y := ⟨_, List.getElem?_eq_getElem (by omega)⟩
      rw [hy, Option.bind_eq_some_iff] at h2
      obtain ⟨cs1, h3, h5⟩ := h2
      obtain ⟨t, rfl⟩ := fact_trod h5
      refine ⟨t, fun c hc => ?_⟩
      rw [(cells_at h3).2 c hc]
      match c, hc with
      | 0, _ => rfl
      | 1, _ => rfl
      | 2, _ => rfl
      | 3, _ => rfl
      | 4, _ => rfl
      | 5, _ => rfl
      | 6, _ => rfl
    let T : Nat → Fct := fun i => if hi : i < n then Classical.choose (hone i hi) else ⟨0, ⟨#[]⟩, 0, 0, 0, 0, 0⟩
    have hT : ∀ i (hi : i < n), ∀ c, c < 7 → W.cell? ((a.add (i * 7)).add c) = some (fctV (T i) c) := fun i hi => by
      have e : T i = Classical.choose (hone i hi) := by simp only [T]; rw [dif_pos hi]
      rw [e]
      exact Classical.choose_spec (hone i hi)
    refine ⟨some a, cap, (List.range n).map T, by simp, fun i x hx => ?_, by simp; unfold maxLen at hcm; omega⟩
    have hi : i < n := by
      have := (List.getElem?_eq_some_iff.1 hx).1
      simpa using this
    rw [List.getElem?_map, List.getElem?_range hi] at hx
    injection hx with hx
    have h0 := hT 0 (by omega) 0 (by omega)
    rw [show (a.add (0 * 7)).add 0 = a by simp [Addr.add]] at h0
    obtain ⟨b, o', ha⟩ := spot_none h0
    subst ha
    refine ⟨b, o', rfl, fun c hc => ?_⟩
    have h1 := hT i hi c hc
    rw [addr_plus, addr_plus, hx] at h1
    exact h1
end
end Go.Proofs.YtagdenpmonedlaaDoor
