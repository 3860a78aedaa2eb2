/-
  A calendar that a law is handed, out of its reading.
-/
import Derived.Test.YtlebpojohaplnaaDoorBothAny
import Derived.ProofKit
import Derived.LaidMore
import Derived.OpenShut
import Derived.Stop.Joined
import Derived.SevenTiedAt
import Derived.WideLaws
import Derived.ChangeSlices
import Derived.ChangeSame
import Derived.Deep.Grids
import Derived.Carry
namespace Go.Proofs.YtlebpojohaplnaaDoor
open Go.ChangeShapes Go.WideShapes Go.ChangeAt Go.WideMaps Go.WideElems Go.RowKit

theorem Tryd.ownAll : ownKnob Tryd.prog.godebug = none := by kernel_rfl
theorem Tryd.laidOutAll : laidOutB Tryd.prog = true := by kernel_rfl
theorem lt_of_cell' {W : World} {a : Addr} {v : Value} (h : W.cell? a = some v) : a.block < W.heap.size := by
  rcases Nat.lt_or_ge a.block W.heap.size with k | k
  · exact k
  · have : W.heap[a.block]? = none := by simp [k]
    simp [World.cell?, this] at h
set_option maxRecDepth 100000 in
theorem cal_arg {H : Type} {enc : TypeId × Value → H} {W : World} {base : Nat} {v : Value} {d : DataW H} {ps : List MemPlace}
    (hval : Value.okWide Tryd.prog W .any base 25 v) (hd : DataW.Trod enc Tryd.prog W 0 (fun _ => true) true 25 v d ps) :
    ∃ oa ha n cap m c2 B xs, v = .agg #[.slice oa n cap, .slice ha m c2] ∧ CalArg W B n oa ha m c2 xs := by
  obtain ⟨cs, rfl, hsz⟩ := okWide_struct Tryd.underlying25 hval
  have hsz' : cs.size = 2 := hsz.trans (by kernel_rfl)
  obtain ⟨c0, c1, rfl⟩ : ∃ c0 c1, cs = #[c0, c1] := by
    rcases cs with ⟨l⟩
    match l, hsz' with
    | [a, b], _ => exact ⟨a, b, rfl⟩
  obtain ⟨fuel, hf⟩ := hd
  obtain ⟨y0, y1, k, _, _, t0, t1⟩ := trod_struct2 Tryd.underlying25 hf
  have hc0 : Tryd.prog.cellsOf 22 = 1 := by kernel_rfl
  have hc1 : Tryd.prog.cellsOf 23 = 1 := by kernel_rfl
  change DataW.trod enc Tryd.prog W 0 (fun _ => true) true k 22 ((List.drop 0 [c0, c1]).take (Tryd.prog.cellsOf 22)) = some y0 at t0
  change DataW.trod enc Tryd.prog W 0 (fun _ => true) true k 23 ((List.drop 1 [c0, c1]).take (Tryd.prog.cellsOf 23)) = some y1 at t1
  rw [hc0] at t0
  rw [hc1] at t1
  change DataW.trod enc Tryd.prog W 0 (fun _ => true) true k 22 [c0] = some y0 at t0
  change DataW.trod enc Tryd.prog W 0 (fun _ => true) true k 23 [c1] = some y1 at t1
  have hO : ∃ (oa : Option Addr) (n cap : Nat) (B : Nat → Bool), c0 = .slice oa n cap ∧ n ≤ 9223372036854775807 ∧ ∀ i : Nat, i < n → ∃ ob oo, oa = some ⟨ob, oo, none⟩ ∧ ob < W.heap.size ∧ W.cell? ⟨ob, oo + i, none⟩ = some (.bool (B i)) := by
    rcases Go.Deep.open_bools Tryd.underlying22 Tryd.underlying4 (by kernel_rfl) t0 with ⟨h, _⟩ | ⟨a, len, cap, B, h, _, hl, hm, _, hx⟩
    · injection h with h1 _
      exact ⟨none, 0, 0, fun _ => false, h1, by omega, fun i hi => by omega⟩
    · injection h with h1 _
      refine ⟨some a, len, cap, B, h1, by unfold maxLen at hm; omega, fun i hi => ?_⟩
      have c := hx i (by omega)
      obtain ⟨b, off, sp⟩ := a
      have c0' := hx 0 (by omega)
      have hs := World.cell?_spot (show W.cell? ⟨b, off, sp⟩ = some (.bool (B 0)) by simpa [Addr.add] using c0')
      have hs' : sp = none := hs
      subst hs'
      rw [WideShapes.add_plain] at c
      exact ⟨b, off, rfl, lt_of_cell' c, c⟩
  have hH : ∃ (ha : Option Addr) (m c2 : Nat) (xs : List Int), c1 = .slice ha m c2 ∧ m ≤ 9223372036854775807 ∧ m = List.length xs ∧ ((ha = none ∧ m = 0 ∧ c2 = 0) ∨ ∃ ad : Addr, ha = some ad ∧ ∀ (j : Nat) (x : Int), xs[j]? = some x → (ad.add j).block < W.heap.size ∧ W.cell? (ad.add j) = some (.int .i64 x)) := by
    rcases open_ints Tryd.underlying23 Tryd.underlying3 (by kernel_rfl) t1 with ⟨h, _⟩ | ⟨a, len, cap, zs, h, _, hl, hm, hz, _, hx, _⟩
    · injection h with h1 _
      exact ⟨none, 0, 0, [], h1, by omega, rfl, .inl ⟨rfl, rfl, rfl⟩⟩
    · injection h with h1 _
      have hzc : zs.length = cap := by simpa using hz
      refine ⟨some a, len, cap, zs.take len, h1, by unfold maxLen at hm; omega, by simp; omega, .inr ⟨a, rfl, fun j x hj => ?_⟩⟩
      have hj' : j < len := by
        have := (List.getElem?_eq_some_iff.1 hj).1
        simp at this
        omega
      have c := hx j (by omega)
      have e : zs.getD j 0 = x := by
        rw [List.getElem?_take, if_pos hj'] at hj
        simp [List.getD, hj]
      rw [e] at c
      exact ⟨lt_of_cell' c, c⟩
  obtain ⟨oa, n, cap, B, rfl, n1, ho⟩ := hO
  obtain ⟨ha, m, c2, xs, rfl, m1, hm, hh⟩ := hH
  exact ⟨oa, ha, n, cap, m, c2, B, xs, rfl, n1, m1, hm, ho, hh⟩
end Go.Proofs.YtlebpojohaplnaaDoor
