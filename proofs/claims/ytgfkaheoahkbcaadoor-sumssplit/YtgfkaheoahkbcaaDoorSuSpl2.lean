/-
  SumsSplit: the law.
-/
import Derived.Test.YtgfkaheoahkbcaaDoorSuSpl
namespace Go.Proofs.YtgfkaheoahkbcaaDoor
open Go.RowKit Go.Extern.Stop Go.Stop Go.Extern

/-- The law. -/
theorem sumsSplit_walk {n c : Nat} {a : Option Addr} {l : List Int} {am y m : Int} {p : Nat → Addr} {w : World} (h : IRd w w.heap.size (.slice a n c) l) (hn : n = l.length) (hs : Sent w p) :
    Calls Tryd.prog 4 #[.int .i64 am, .slice a n c, .int .i64 y, .int .i64 m] w fun e w' => e = .returned (.bool true) ∧ Below w.heap.size w w' := by
  by_cases hD : Date y m 1
  · have hF := hD.isDay
    by_cases hl : m < 12 ∨ y < 9999
    · obtain ⟨y', m', hD', _, _, hd'⟩ := dof_next hD hl
      have hN := hD'.isDay
      rw [hd'] at hN
      have hO : ∀ W, Calls Tryd.prog 11 #[.int .i64 y, .int .i64 m, .int .i64 1] W fun e w' => e = .returned (.tuple #[.int .i64 (dof y m 1), .nilIface]) ∧ w' = W := fun W => of_ok y m 1 W hD
      have hM : ∀ W, Calls Tryd.prog 12 #[.int .i64 (dof y m 1), .int .i64 1] W fun e w' => e = .returned (.tuple #[.int .i64 (dof y m 1 + mlen y m), .nilIface]) ∧ w' = W := fun W => months_next W hD hl
      have hb := mlen_bd y m
      by_cases hE : szB am 1000000000000 = true ∧ n ≤ 200 ∧ mlen y m ≤ n
      · exact split_main (L := (mlen y m).toNat) h hn hs hD rfl (by omega) (by omega) hN.2 hO hM hE.1 hE.2.1 (by omega)
      · refine split_early (q := ⟨0, 0, none⟩) (F := dof y m 1) (N := dof y m 1 + mlen y m) ⟨by omega, hF.2⟩ ⟨by omega, hN.2⟩ (fun W _ => (hO W).mono fun e w' hh => ⟨hh.1, 0, hh.2⟩) (fun W _ => (hM W).mono fun e w' hh => ⟨hh.1, 0, hh.2⟩) ?_
        cases hz : szB am 1000000000000
        · exact .inl rfl
        · rcases Nat.lt_or_ge 200 n with q | q
          · exact .inr (.inr (.inr (.inl ⟨rfl, rfl, rfl, q⟩)))
          · exact .inr (.inr (.inr (.inr ⟨rfl, rfl, rfl, q, by
              rcases ltge (n : Int) (mlen y m) with q2 | q2
              · omega
              · exact absurd ⟨hz, q, q2⟩ hE⟩)))
    · refine split_early (q := p 3) (F := dof y m 1) (N := 0) ⟨by omega, hF.2⟩ ⟨by omega, by omega⟩ (fun W _ => (of_ok y m 1 W hD).mono fun e w' hh => ⟨hh.1, 0, hh.2⟩) (fun W hW => months_last (p 3) W (hs.below hW).day hD hl) ?_
      cases hz : szB am 1000000000000
      · exact .inl rfl
      · exact .inr (.inr (.inl ⟨rfl, rfl, rfl⟩))
  · refine split_early (q := p 3) (F := 0) (N := 0) ⟨by omega, by omega⟩ ⟨by omega, by omega⟩ (fun W hW => of_bad y m 1 (p 3) W (hs.below hW).day hD) (fun W hW => months_out 0 1 (p 3) W (hs.below hW).day (.inl (by decide))) ?_
    cases hz : szB am 1000000000000
    · exact .inl rfl
    · exact .inr (.inl ⟨rfl, rfl⟩)
end Go.Proofs.YtgfkaheoahkbcaaDoor
