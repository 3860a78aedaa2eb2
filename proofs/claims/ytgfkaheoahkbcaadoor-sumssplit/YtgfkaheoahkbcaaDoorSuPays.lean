/-
  The laws of months: 'pays': the package is alive.
-/
import Derived.Test.YtgfkaheoahkbcaaDoorSuP2
namespace Go.Proofs.YtgfkaheoahkbcaaDoor
open Go.RowKit Go.Extern.Stop Go.Stop Go.Extern

theorem PRd.below {w w' : World} {B : Nat} {v : Value} {l : List Py} (h : PRd w B v l) (hb : Below B w w') : PRd w' B v l := h.on hb.block
theorem PRd.none (w : World) (B c : Nat) (a : Option Addr) : PRd w B (.slice a 0 c) [] := ⟨a, c, rfl, by simp, fun j x h => by simp at h⟩
theorem PRd.mono {w : World} {B B' : Nat} {v : Value} {l : List Py} (h : PRd w B v l) (hB : B ≤ B') : PRd w B' v l := by
  obtain ⟨a, c, e, hl, hx⟩ := h
  refine ⟨a, c, e, hl, fun j x hj => ?_⟩
  obtain ⟨g, h1, h2, h3⟩ := hx j x hj
  exact ⟨g, h1, by omega, h3⟩
theorem mo_pays : MoR 4 1 [310, 310] [(1, 3, 20)] := by
  have h : MoR 4 (1 + ((2 : Nat) : Int)) (([310, 310] : List Int).drop 2) [] := .nil _
  exact MoR.cons (f := 1) (y := 1) (m := 1) (d := 1) (c := 2) (by simp) ⟨by decide, by decide, by decide, by decide, by decide, by decide⟩ (by decide) (by decide) h
theorem ird_pays (w : World) : IRd (w.alloc (.cells #[.int .i64 310, .int .i64 310] 3)) (w.heap.size + 1) (.slice (some ⟨w.heap.size, 0, none⟩) 2 2) [310, 310] := by
  refine ⟨_, _, rfl, by decide, by decide, (fun e => nomatch e), fun j x hj => ⟨_, _, rfl, by omega, ?_⟩⟩
  match j, hj with
  | 0, hj =>
    obtain rfl : 310 = x := by simpa using hj
    simp
  | 1, hj =>
    obtain rfl : 310 = x := by simpa using hj
    simp
set_option maxHeartbeats 1000000 in
theorem pays_w (w : World) : Calls Tryd.prog 5 #[] w fun e w' => e = .returned (.bool true) ∧ Below w.heap.size w w' := by
  have HM := hidIt (months_ok (f := 1) (way := 4) (ird_pays w) rfl (by simp) (by decide) mo_pays)
  go_enter Tryd.func5, Tryd.ntmps5
  go_wp2_with fail
  refine HM.out.mono ?_
  rintro e w1 ⟨ad, m, cc, rfl, hm, hb, hr⟩
  obtain ⟨g, rfl, hg, _, _, c2⟩ := hr.rd.at (j := 0) rfl
  obtain rfl : m = 1 := hm
  have HB : Hid (Below w.heap.size w w1) := ((Below.refl _ _).alloc (Nat.le_refl _) _).trans (hb.mono (by simp))
  have c2 : w1.cell? ⟨g, 2, .none⟩ = some (.int .i64 20) := c2
  clear hr hb hg
  go_wp2
  go_ret
  exact ⟨rfl, HB.out⟩
end Go.Proofs.YtgfkaheoahkbcaaDoor
