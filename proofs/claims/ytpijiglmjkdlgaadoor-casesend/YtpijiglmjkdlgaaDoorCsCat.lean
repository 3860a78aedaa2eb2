/-
  Rows of structs: many more at once.
-/
import Derived.Test.YtpijiglmjkdlgaaDoorLA
namespace Go.Proofs.YtpijiglmjkdlgaaDoor
open Go.RowKit

section
variable {α : Type} {E : Enc α} {T S bytes : Nat}
theorem run_cat (hI : ∃ i z, Tryd.prog.info? T = some i ∧ i.zero = some z ∧ i.size = E.k ∧ i.bytes = bytes ∧ z.cells.size = E.k) (hby : bytes ≤ 200) (hU : Tryd.prog.underlying S = some (.slice T)) {W : World} {B : Nat} {v : Value} {l : List α} (hown : RowG E T W B v l)
    {Z : Nat → Prop} {a : Option Addr} {n c : Nat} {ys : List α} (hx : RdS E W Z (.slice a n c) ys) (hc : a = none → c = 0) (hB : B ≤ W.heap.size) (hl : l.length + ys.length ≤ 1000000) (ty : TypeId) :
    ∃ v' w', (Builtin.append_ #[S, S] ty #[v, .slice a n c]).run Tryd.prog W = .ok v' w' ∧ RowG E T w' B v' (l ++ ys) ∧ Below B W w' ∧ ∀ k, v.ownBlock ≠ some k → k < W.heap.size → w'.heap[k]? = W.heap[k]? := by
  obtain ⟨i0, z, h1, h2, h3, h4, h5⟩ := hI
  obtain ⟨hn, _⟩ := hx.len
  cases a with
  | none =>
    have hy : ys = [] := by
      cases ys with
      | nil => rfl
      | cons x ls =>
        obtain ⟨_, _, e, _⟩ := hx.at (j := 0) rfl
        cases e
    subst hy
    obtain rfl : n = 0 := hn
    obtain rfl : c = 0 := hc rfl
    exact ⟨v, W, run_append_owned_none W B S ty T i0 E.k hU h1 v l.length (E.all l) hown.row, by rw [List.append_nil]; exact hown, Below.refl _ _, fun _ _ _ => rfl⟩
  | some ad =>
    obtain ⟨v', w', hr, hown', hgrow, _, _⟩ := run_append_own_at (P := Tryd.prog) W B S ty T i0 z E.k bytes hU h1 h2 h3 h4 h5 E.pos v l.length (E.all l) hown.row ad n c (E.all ys) (by rw [E.all_len, hn]) hx.cells (E.all_one ys) (by unfold maxLen; omega) (by
      have h6 : (l.length + n) * bytes ≤ 1000000 * 200 := Nat.mul_le_mul (by omega) hby
      omega) hB
    refine ⟨v', w', hr, ⟨?_, by rw [List.length_append]; omega⟩, (Below.refl B W).grown hgrow hB (fun k hk => (hown.row.lt k hk).1), fun k hk hlt => hgrow.block k hlt fun e => hk e.symm⟩
    rw [List.length_append, E.all_app, ← hn]
    exact hown'
theorem wpList_cat (hI : ∃ i z, Tryd.prog.info? T = some i ∧ i.zero = some z ∧ i.size = E.k ∧ i.bytes = bytes ∧ z.cells.size = E.k) (hby : bytes ≤ 200) (hU : Tryd.prog.underlying S = some (.slice T)) {W : World} {ops : Array Oper} {rest : List Oper} {o : Oper} {at' : Act} {Q : Exit → Act → World → Prop} (hgd : o.guard = none) (s x : Operand)
    (ho : o.op = .call { callee := .builtin .append, args := #[s, x], argTypes := #[S, S] }) (B : Nat) (v : Value) (l : List α) (ys : List α) {Z : Nat → Prop} {a : Option Addr} {n c : Nat} (hs : at'.eval s = v) (hown : RowG E T W B v l)
    (hxe : at'.eval x = .slice a n c) (hx : RdS E W Z (.slice a n c) ys) (hc : a = none → c = 0) (hB : B ≤ W.heap.size) (hl : l.length + ys.length ≤ 1000000)
    (h : ∀ v' w', RowG E T w' B v' (l ++ ys) → Below B W w' → (∀ k, v.ownBlock ≠ some k → k < W.heap.size → w'.heap[k]? = W.heap[k]?) → wpList Tryd.prog ops Q rest (at'.put o.dst v') w') : wpList Tryd.prog ops Q (o :: rest) at' W := by
  refine wpList_plain hgd fun K hK => ?_
  obtain ⟨v', w', hr, h1, h2, h3⟩ := run_cat hI hby hU hown hx hc hB hl o.type
  unfold Oper.wp
  simp [execOp, ho, resolve, invoke, builtin, hs, hxe, hr, Result.andThen]
  exact hK _ _ (h v' w' h1 h2 h3)
theorem step_cat (hI : ∃ i z, Tryd.prog.info? T = some i ∧ i.zero = some z ∧ i.size = E.k ∧ i.bytes = bytes ∧ z.cells.size = E.k) (hby : bytes ≤ 200) (hU : Tryd.prog.underlying S = some (.slice T)) {W : World} {ops : Array Oper} {o : Oper} {at' : Act} {K : Act → World → Prop} {Q : Exit → Act → World → Prop} {F : Prop} (hgd : o.guard = none) (s x : Operand)
    (ho : o.op = .call { callee := .builtin .append, args := #[s, x], argTypes := #[S, S] }) (B : Nat) (v : Value) (l : List α) (ys : List α) {Z : Nat → Prop} {a : Option Addr} {n c : Nat} (hs : at'.eval s = v) (hown : RowG E T W B v l)
    (hxe : at'.eval x = .slice a n c) (hx : RdS E W Z (.slice a n c) ys) (hc : a = none → c = 0) (hB : B ≤ W.heap.size) (hl : l.length + ys.length ≤ 1000000)
    (h : ∀ v' w', RowG E T w' B v' (l ++ ys) → Below B W w' → (∀ k, v.ownBlock ≠ some k → k < W.heap.size → w'.heap[k]? = W.heap[k]?) → K (at'.put o.dst v') w') : if Region.wanted o (yielded ops at'.tmps) = true then Oper.wp Tryd.prog o at' W K Q else F := by
  have hw : Region.wanted o (yielded ops at'.tmps) = true := by simp [Region.wanted, hgd]
  rw [if_pos hw]
  obtain ⟨v', w', hr, h1, h2, h3⟩ := run_cat hI hby hU hown hx hc hB hl o.type
  unfold Oper.wp
  simp [execOp, ho, resolve, invoke, builtin, hs, hxe, hr, Result.andThen]
  exact h v' w' h1 h2 h3
end
/-- What has just been laid can be read. -/
theorem laid_rd {α : Type} (E : Enc α) (T : Nat) (W : World) (ys : List α) {n : Nat} (hn : n = ys.length) (hl : ys.length ≤ 1000000) : RdS E (W.alloc (.cells (E.all ys).toArray T)) (fun k => k = W.heap.size) (.slice (some ⟨W.heap.size, 0, none⟩) n n) ys := by
  subst hn
  refine ⟨_, _, rfl, by omega, fun j x hj => ⟨W.heap.size, 0, rfl, rfl, fun c u hu => ?_⟩⟩
  have h1 := E.all_get ys j x hj c u hu
  have h2 := alloc_range W (E.all ys) T _ u h1
  rw [Nat.zero_add] at h2 ⊢
  exact h2
theorem laid_rd_d {α : Type} (E : Enc α) (T : Nat) (W : World) (ys : List α) {n : Nat} (hn : n = ys.length) (hl : ys.length ≤ 1000000) : RdS E (W.alloc (.cells (E.all ys).toArray T)).drew (fun k => k = W.heap.size) (.slice (some ⟨W.heap.size, 0, none⟩) n n) ys :=
  (laid_rd E T W ys hn hl).on fun _ hk => ⟨hk, rfl⟩
end Go.Proofs.YtpijiglmjkdlgaaDoor
