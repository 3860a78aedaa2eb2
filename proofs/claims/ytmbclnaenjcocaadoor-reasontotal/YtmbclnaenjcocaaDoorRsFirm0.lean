/-
  What is firm, at places. Plain.
-/
import Derived.Test.YtmbclnaenjcocaaDoorRsSol
namespace Go.Proofs.YtmbclnaenjcocaaDoor
open Go.RowKit

def litP (p : Nat) : Int := if p % 2 = 0 then (p / 2 : Nat) + 1 else -((p / 2 : Nat) + 1)
theorem pl_litP (p : Nat) : pl (litP p) = p := by
  unfold litP pl
  split <;> split <;> omega
theorem litP_opp (p : Nat) : litP (opp p) = - litP p := by
  unfold litP opp
  split <;> split <;> first | omega | (split <;> omega)
theorem litP_is {T : Thy} (hT : Okt T) {p : Nat} (h : p < 2 * (shOf T).N) : IsLit T (litP p) := by
  have h : p < 2 * T.names.toNat := h
  have := hT.n0
  unfold litP IsLit
  split <;> omega
theorem opp_is (p : Nat) : ((opp p : Nat) : Int) = (p : Int) + 1 - (p : Int) % 2 * 2 := by
  unfold opp
  split <;> omega
theorem opp_lt2 {p N : Nat} (h : p < 2 * N) : opp p < 2 * N := by
  unfold opp
  split <;> omega
theorem firm_at {T : Thy} {s : St} (hT : Okt T) (hF : Fine T s) (hQ : AllQ T s) (hr : Ranked T) {p : Nat} (hp : p < 2 * (shOf T).N) :
    (s.ho p = 1 → s.ho (opp p) = 1 → s.su p = 1 ∧ s.su (opp p) = 1) ∧ (s.su p = 1 → s.ho p = 1) ∧ (s.ho p = 2 → s.su p = 2) := by
  have hC := closed_of hT hF hQ
  have h1 := litP_is hT hp
  have h2 := litP_is hT (opp_lt2 hp)
  refine ⟨fun a b => ?_, fun a => ?_, fun a => ?_⟩
  · have := hF.2.firm hr (q := litP p) ⟨h1, by show s.ho (pl (litP p)) = 1; rw [pl_litP]; exact a⟩ ⟨by rw [← litP_opp]; exact h2, by show s.ho (pl (-litP p)) = 1; rw [← litP_opp, pl_litP]; exact b⟩
    obtain ⟨⟨_, x⟩, ⟨_, y⟩⟩ := this
    have x : s.su (pl (litP p)) = 1 := x
    have y : s.su (pl (-litP p)) = 1 := y
    rw [← litP_opp, pl_litP] at y
    rw [pl_litP] at x
    exact ⟨x, y⟩
  · have := hF.2.sure_holds hC (q := litP p) ⟨h1, by show s.su (pl (litP p)) = 1; rw [pl_litP]; exact a⟩
    have x : s.ho (pl (litP p)) = 1 := this.2
    rw [pl_litP] at x
    exact x
  · have := hF.2.fails_not (q := litP p) ⟨h1, by show s.ho (pl (litP p)) = 2; rw [pl_litP]; exact a⟩
    have x : s.su (pl (litP p)) = 2 := this.2
    rw [pl_litP] at x
    exact x
theorem total_at {T : Thy} {s : St} (hT : Okt T) (hF : Fine T s) (hQ : AllQ T s) (hl : ∀ i r, T.rl i r → ∀ b, b ∈ r.body → b.natAbs < r.head.natAbs) {p : Nat} (hp : p < 2 * (shOf T).N) : s.su p ≠ 0 ∧ s.ho p ≠ 0 := by
  have hC := closed_of hT hF hQ
  have h1 := litP_is hT hp
  obtain ⟨a, b⟩ := total hC (fun i r hr => hT.lit i r hr) hl _ (litP p) h1 (Nat.le_refl _)
  refine ⟨?_, ?_⟩
  · rcases a with ⟨_, a⟩ | ⟨_, a⟩
    · have a : s.su (pl (litP p)) = 1 := a
      rw [pl_litP] at a
      rw [a]; decide
    · have a : s.su (pl (litP p)) = 2 := a
      rw [pl_litP] at a
      rw [a]; decide
  · rcases b with ⟨_, a⟩ | ⟨_, a⟩
    · have a : s.ho (pl (litP p)) = 1 := a
      rw [pl_litP] at a
      rw [a]; decide
    · have a : s.ho (pl (litP p)) = 2 := a
      rw [pl_litP] at a
      rw [a]; decide
end Go.Proofs.YtmbclnaenjcocaaDoor
