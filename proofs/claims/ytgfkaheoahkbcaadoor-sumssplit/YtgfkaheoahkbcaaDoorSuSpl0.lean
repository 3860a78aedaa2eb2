/-
  SumsSplit: the plain part, rows of the same number.
-/
import Derived.Test.YtgfkaheoahkbcaaDoorSuPays
import Derived.Test.YtgfkaheoahkbcaaDoorMonthsP
namespace Go.Proofs.YtgfkaheoahkbcaaDoor
open Go.RowKit

/-- The first month is whole. -/
theorem MoR.first {way F y m : Int} {l : List Int} {ps : List Py} {L : Nat} (h : MoR way F l ps) (hD : Date y m 1) (hF : dof y m 1 = F) (hL : (L : Int) = mlen y m) (hl : L ≤ l.length) :
    ∃ qs, ps = (F, F + L, rnd (l.take L).sum L way) :: qs ∧ MoR way (F + L) (l.drop L) qs := by
  have hb := mlen_bd y m
  have hne : l ≠ [] := fun e => by rw [e] at hl; simp at hl; omega
  obtain ⟨y', m', d', c, qs, hD', hF', hc, _, _, rfl, h2⟩ := h.inv hne
  obtain ⟨rfl, rfl, rfl⟩ := hD.uniq hD' (hF.trans hF'.symm)
  obtain rfl : c = L := by omega
  rw [← hL]
  exact ⟨qs, rfl, h2⟩
/-- A month alone. -/
theorem MoR.one {way F y m : Int} {l : List Int} {L : Nat} (hD : Date y m 1) (hF : dof y m 1 = F) (hL : (L : Int) = mlen y m) (hl : l.length = L) : MoR way F l [(F, F + L, rnd l.sum L way)] := by
  have hb := mlen_bd y m
  have hne : l ≠ [] := fun e => by rw [e] at hl; simp at hl; omega
  have h : MoR way (F + L) (l.drop L) [] := by rw [List.drop_of_length_le (by omega)]; exact .nil _
  have := MoR.cons (way := way) (c := L) hne hD hF (by rw [hl]; omega) h
  rw [List.take_of_length_le (by omega), ← hL] at this
  exact this
theorem sum_rep (a : Int) : ∀ n : Nat, (List.replicate n a).sum = n * a
  | 0 => by simp
  | n + 1 => by rw [List.replicate_succ, List.sum_cons, sum_rep a n, Int.natCast_add, Int.add_mul]; simp; omega
theorem rnd_same (a way : Int) (L : Nat) (hL : 0 < L) : rnd (List.replicate L a).sum L way = a := by
  rw [sum_rep]
  have h : ((L : Int) * a) % L = 0 := Int.mul_emod_right _ _
  rw [rnd_zero _ _ _ h, Int.mul_ediv_cancel_left _ (by omega)]
theorem errM_ok {l : List Int} {f way : Int} (hw : wyB way = true) (h4 : l.length ≤ 4000) (hd : l.length = 0 ∨ 1 ≤ f ∧ f + l.length - 1 ≤ 3652059) (hb : badA l = false) : errM l f way = none := by
  unfold errM
  rw [if_neg (by rw [hw]; decide), if_neg (by omega), if_neg (fun q => q hd), if_neg (by rw [hb]; decide)]
theorem badA_of {l : List Int} (h : ∀ x, x ∈ l → szB x 1000000000000 = true) : badA l = false := by
  unfold badA
  rw [List.any_eq_false]
  intro x hx
  rw [h x hx]
  decide
theorem badA_sub {l k : List Int} (h : badA l = false) (hs : ∀ x, x ∈ k → x ∈ l) : badA k = false := badA_of fun x hx => szB_iff.2 (badA_f h x (hs x hx))
/-! A row of numbers of the call's own. -/
def IRow (B : Nat) (w : World) (v : Value) (zs : List Int) : Prop := w.ownsRow B 3 1 v zs.length (zs.map (Value.int .i64))
theorem IRow.nil (B : Nat) (w : World) : IRow B w (.slice none 0 0) [] := World.ownsRow_nil w B _ _
theorem IRow.below {B : Nat} {w w' : World} {v : Value} {zs : List Int} (h : IRow B w v zs) (hb : Below w.heap.size w w') : IRow B w' v zs := by
  refine ⟨h.1, ?_⟩
  rcases h.2 with hn | ⟨g, cap, cur, rfl, hB, hgg, rest⟩
  · exact .inl hn
  · exact .inr ⟨g, cap, cur, rfl, hB, (hb.block g (Array.getElem?_eq_some_iff.1 hgg).1).trans hgg, rest⟩
theorem IRow.any3 {B : Nat} {w : World} {v : Value} {zs : List Int} (h : IRow B w v zs) : ∃ a m c, v = .slice a m c ∧ m = zs.length := by
  rcases h.2 with ⟨rfl, e⟩ | ⟨g, cap, cur, rfl, _⟩
  · exact ⟨_, _, _, rfl, e.symm⟩
  · exact ⟨_, _, _, rfl, rfl⟩
theorem IRow.rd {B : Nat} {w : World} {v : Value} {zs : List Int} (h : IRow B w v zs) (hl : zs.length ≤ 17592186044416) : IRd w w.heap.size v zs := by
  have h0 := h
  rcases h.2 with ⟨rfl, e⟩ | ⟨g, cap, cur, rfl, _, hgg, hr⟩
  · exact ⟨none, 0, by rw [e], hl, by omega, fun _ => ⟨List.eq_nil_of_length_eq_zero e, rfl⟩, fun j x hx => by rw [List.eq_nil_of_length_eq_zero e] at hx; simp at hx⟩
  · refine ⟨_, _, rfl, hl, ?_, (fun e => nomatch e), fun j x hx => ⟨g, 0, rfl, (Array.getElem?_eq_some_iff.1 hgg).1, ?_⟩⟩
    · have := hr.1
      omega
    · have hc := World.ownsRow.cells h0 (g := g) rfl j (.int .i64 x) (by rw [List.getElem?_map, hx]; rfl)
      rw [addz] at hc
      rw [Nat.zero_add]
      exact hc
theorem Tryd.infoIn : ∃ i z, Tryd.prog.info? 3 = some i ∧ i.zero = some z ∧ i.size = 1 ∧ i.bytes = 8 ∧ z.cells.size = 1 := by
  have h : (Tryd.prog.info? 3).map (fun i => (i.zero, i.size, i.bytes)) = some (some (.int .i64 0), 1, 8) := by kernel_rfl
  obtain ⟨i, h1, h2⟩ := Option.map_eq_some_iff.1 h
  simp only [Prod.mk.injEq] at h2
  exact ⟨i, _, h1, h2.1, h2.2.1, h2.2.2, rfl⟩
theorem wpList_push_int {W : World} {ops : Array Oper} {rest : List Oper} {o : Oper} {a : Act} {Q : Exit → Act → World → Prop} (hgd : o.guard = none) (s x : Operand)
    (ho : o.op = .call { callee := .builtin .append, args := #[s, x], argTypes := #[22, 22] }) (B : Nat) (v : Value) (zs : List Int) (n : Int) (hs : a.eval s = v) (hown : IRow B W v zs)
    (hx : a.eval x = .slice (some ⟨W.heap.size, 0, none⟩) 1 1) (hB : B ≤ W.heap.size) (hl : zs.length ≤ 100000)
    (h : ∀ v' w', IRow B w' v' (zs ++ [n]) → Below B W w' → wpList Tryd.prog ops Q rest (a.put o.dst v') w') : wpList Tryd.prog ops Q (o :: rest) a (W.alloc (.cells #[.int .i64 n] 3)) := by
  obtain ⟨i0, z, h1, h2, h3, h4, h5⟩ := Tryd.infoIn
  have hn : ∀ (j : Nat) (u : Value), [Value.int .i64 n][j]? = some u → (W.alloc (.cells #[.int .i64 n] 3)).cell? ((⟨W.heap.size, 0, none⟩ : Addr).add j) = some u := fun j u hj => alloc_cellC W [.int .i64 n] 3 j u hj
  have hone : ∀ u ∈ [Value.int .i64 n], u.oneCell' = true := by intro u hu; simp at hu; subst hu; rfl
  refine wpList_append_own _ hgd s x 22 ho B 3 i0 z 1 8 Tryd.underlying22 h1 h2 h3 h4 h5 (by decide) v zs.length (zs.map (Value.int .i64)) hs (hown.below ((Below.refl _ _).alloc (Nat.le_refl _) _)) ⟨W.heap.size, 0, none⟩ 1 1 [.int .i64 n] hx rfl hn hone (by unfold maxLen; omega) (by omega) (by simp; omega) ?_
  intro v' w' hown' hgrow _
  refine h v' w' ?_ (((Below.refl B W).alloc hB _).grown hgrow (by simp; omega) (fun k hk => (World.ownsRow.lt hown k hk).1))
  unfold IRow
  rw [List.length_append, List.map_append]
  exact hown'
end Go.Proofs.YtgfkaheoahkbcaaDoor
