/-
  Claims in memory; from which claims one follows. No walk.
-/
import Derived.Test.YtmbclnaenjcocaaGreatDoorRsP1
import Derived.Deep.RegionWith
import Derived.Deep.RegionLaw
import Derived.Deep.Cut
import Derived.Deep.DeepCutAuto
namespace Go.Proofs.YtmbclnaenjcocaaGreatDoor
open Go.RowKit

theorem opp_lt {p n : Nat} (h : p < 2 * n) : opp p < 2 * n := by unfold opp; split <;> omega
abbrev Clm := Bool × Bool × Int
def clmC : List Clm → List Value
  | [] => []
  | x :: l => .bool x.1 :: .bool x.2.1 :: .int .i64 x.2.2 :: clmC l
theorem clmC_len : ∀ l : List Clm, (clmC l).length = l.length * 3
  | [] => rfl
  | x :: l => by rw [clmC, List.length_cons, List.length_cons, List.length_cons, clmC_len l, List.length_cons]; omega
theorem clmC_app : ∀ (a b : List Clm), clmC (a ++ b) = clmC a ++ clmC b
  | [], b => rfl
  | x :: a, b => by rw [List.cons_append, clmC, clmC, clmC_app a b]; rfl
theorem clmC_get : ∀ (l : List Clm) (i : Nat) (x : Clm), l[i]? = some x → (clmC l)[i * 3]? = some (.bool x.1) ∧ (clmC l)[i * 3 + 1]? = some (.bool x.2.1) ∧ (clmC l)[i * 3 + 2]? = some (.int .i64 x.2.2)
  | a :: l, 0, x, h => by
    obtain rfl : a = x := by simpa using h
    exact ⟨rfl, rfl, rfl⟩
  | a :: l, i + 1, x, h => by
    have := clmC_get l i x (by simpa using h)
    rw [clmC, show (i + 1) * 3 = i * 3 + 1 + 1 + 1 by omega]
    simpa using this
theorem clmC_one : ∀ (l : List Clm) (u : Value), u ∈ clmC l → u.oneCell' = true
  | [], u, h => by cases h
  | x :: l, u, h => by
    rw [clmC, List.mem_cons, List.mem_cons, List.mem_cons] at h
    rcases h with rfl | rfl | rfl | h
    · rfl
    · rfl
    · rfl
    · exact clmC_one l u h
theorem alloc_cellC (W : World) (cs : List Value) (T j : Nat) (u : Value) (h : cs[j]? = some u) : (W.alloc (.cells cs.toArray T)).cell? ((⟨W.heap.size, 0, none⟩ : Addr).add j) = some u := by
  have h6 : (⟨W.heap.size, 0, none⟩ : Addr).add j = ⟨W.heap.size, j, none⟩ := by
    unfold Addr.add
    split
    · rename_i h0
      rw [h0]
    · simp
  rw [h6, cell_of_row _ _ j cs.toArray T (0, 0) (Go.Deep.blk_alloc_new W _)]
  simpa using h
/-- Claims in a row of the call's own. -/
structure CRow (w : World) (B : Nat) (v : Value) (l : List Clm) : Prop where
  row : w.ownsRow B 65 3 v l.length (clmC l)
  len : l.length ≤ 100000000
theorem CRow.nil (w : World) (B : Nat) : CRow w B (.slice none 0 0) [] := ⟨World.ownsRow_nil w B _ _, by simp⟩
theorem CRow.any {w : World} {B : Nat} {v : Value} {l : List Clm} (h : CRow w B v l) : ∃ a c, v = .slice a l.length c := by
  rcases h.row.2 with ⟨rfl, e⟩ | ⟨g, cap, cur, rfl, _⟩
  · exact ⟨_, _, by rw [e]⟩
  · exact ⟨_, _, rfl⟩
theorem CRow.on {w w' : World} {B : Nat} {v : Value} {l : List Clm} (h : CRow w B v l) (hk : ∀ g, v.ownBlock = some g → B ≤ g → g < w.heap.size → w'.heap[g]? = w.heap[g]?) : CRow w' B v l := by
  refine ⟨⟨h.row.1, ?_⟩, h.len⟩
  rcases h.row.2 with hn | ⟨g, cap, cur, rfl, hb, hgg, rest⟩
  · exact .inl hn
  · exact .inr ⟨g, cap, cur, rfl, hb, (hk g rfl hb (Array.getElem?_eq_some_iff.1 hgg).1).trans hgg, rest⟩
theorem CRow.below {w w' : World} {B : Nat} {v : Value} {l : List Clm} (h : CRow w B v l) (hb : Below w.heap.size w w') : CRow w' B v l := h.on fun g _ _ hl => hb.block g hl
theorem CRow.mono {w : World} {B B' : Nat} {v : Value} {l : List Clm} (h : CRow w B v l) (hB : B' ≤ B) : CRow w B' v l := by
  refine ⟨⟨h.row.1, ?_⟩, h.len⟩
  rcases h.row.2 with hn | ⟨g, cap, cur, rfl, hb, rest⟩
  · exact .inl hn
  · exact .inr ⟨g, cap, cur, rfl, by omega, rest⟩
theorem Tryz.infoClm : ∃ i z, Tryz.prog.info? 65 = some i ∧ i.zero = some z ∧ i.size = 3 ∧ i.bytes = 16 ∧ z.cells.size = 3 := by
  have h : (Tryz.prog.info? 65).map (fun i => (i.zero, i.size, i.bytes)) = some (some (.agg #[.bool false, .bool false, .int .i64 0]), 3, 16) := by kernel_rfl
  obtain ⟨i, h1, h2⟩ := Option.map_eq_some_iff.1 h
  simp only [Prod.mk.injEq] at h2
  exact ⟨i, _, h1, h2.1, h2.2.1, h2.2.2, rfl⟩
/-- A slice whose claims can be read, wherever it lies. -/
def CRd (w : World) (v : Value) (l : List Clm) : Prop := ∃ a c, v = .slice a l.length c ∧ (a = none → l = [] ∧ c = 0) ∧ ∀ b, a = some b → ∀ j u, (clmC l)[j]? = some u → w.cell? (b.add j) = some u
theorem CRow.rd {w : World} {B : Nat} {v : Value} {l : List Clm} (h : CRow w B v l) : CRd w v l := by
  have h0 := h.row
  rcases h.row.2 with ⟨rfl, e⟩ | ⟨g, cap, cur, rfl, _⟩
  · exact ⟨none, 0, by rw [e], fun _ => ⟨List.eq_nil_of_length_eq_zero e, rfl⟩, fun b e => by cases e⟩
  · refine ⟨_, _, rfl, (fun e => nomatch e), fun b e => ?_⟩
    injection e with e
    subst e
    exact World.ownsRow.cells h0 (g := g) rfl
/-- What appending claims answers. -/
theorem run_append_clm (w : World) (B : Nat) (ty : TypeId) {v x : Value} {l m : List Clm} (h : CRow w B v l) (hm : CRd w x m) (hl : l.length + m.length ≤ 100000000) (hB : B ≤ w.heap.size) :
    ∃ v' w', (Builtin.append_ #[66, 66] ty #[v, x]).run Tryz.prog w = .ok v' w' ∧ CRow w' B v' (l ++ m) ∧ w.grownBy w' v.ownBlock := by
  obtain ⟨i, z, h1, h2, h3, h4, h5⟩ := Tryz.infoClm
  obtain ⟨a, c, rfl, hc, hx⟩ := hm
  cases a with
  | none =>
    obtain ⟨hm0, hc0⟩ := hc rfl
    subst hm0 hc0
    have hr := run_append_owned_none (P := Tryz.prog) (w := w) B 66 ty 65 i 3 Tryz.underlying66 h1 v l.length _ h.row
    exact ⟨v, w, hr, by rw [List.append_nil]; exact h, ⟨rfl, rfl, rfl, Nat.le_refl _, fun _ _ _ => rfl⟩⟩
  | some b =>
    obtain ⟨v', w', hr, q2, q3, q4⟩ := run_append_own (P := Tryz.prog) w B 66 ty 65 i z 3 16 Tryz.underlying66 h1 h2 h3 h4 h5 (by omega) v l.length (clmC l) h.row b m.length c (clmC m) (clmC_len m) (hx b rfl) (clmC_one m) (by simp only [maxLen]; omega) (by omega) hB
    refine ⟨v', w', hr, ⟨?_, by rw [List.length_append]; exact hl⟩, q3⟩
    rw [List.length_append, clmC_app]
    exact q2
/-- One claim more, which has just been laid. -/
theorem wpList_push_clm {W : World} {ops : Array Oper} {rest : List Oper} {o : Oper} {a : Act} {Q : Exit → Act → World → Prop} (hgd : o.guard = none) (s x : Operand)
    (ho : o.op = .call { callee := .builtin .append, args := #[s, x], argTypes := #[66, 66] }) (B : Nat) (v : Value) (l : List Clm) (c1 c2 : Bool) (c3 : Int) (hs : a.eval s = v) (hown : CRow W B v l)
    (hx : a.eval x = .slice (some ⟨W.heap.size, 0, none⟩) 1 1) (hB : B ≤ W.heap.size) (hl : l.length + 1 ≤ 100000000)
    (h : ∀ v' w', CRow w' B v' (l ++ [(c1, c2, c3)]) → Below B W w' → wpList Tryz.prog ops Q rest (a.put o.dst v') w') : wpList Tryz.prog ops Q (o :: rest) a (W.alloc (.cells #[.bool c1, .bool c2, .int .i64 c3] 65)) := by
  obtain ⟨i0, z, h1, h2, h3, h4, h5⟩ := Tryz.infoClm
  have hn : ∀ (j : Nat) (u : Value), (clmC [(c1, c2, c3)])[j]? = some u → (W.alloc (.cells #[.bool c1, .bool c2, .int .i64 c3] 65)).cell? ((⟨W.heap.size, 0, none⟩ : Addr).add j) = some u := fun j u hj => alloc_cellC W (clmC [(c1, c2, c3)]) 65 j u hj
  have hal := (hown.below ((Below.refl _ _).alloc (Nat.le_refl _) (.cells #[.bool c1, .bool c2, .int .i64 c3] 65)))
  refine wpList_append_own _ hgd s x 66 ho B 65 i0 z 3 16 Tryz.underlying66 h1 h2 h3 h4 h5 (by decide) v l.length (clmC l) hs hal.row ⟨W.heap.size, 0, none⟩ 1 1 (clmC [(c1, c2, c3)]) hx rfl hn (clmC_one _) (by unfold maxLen; omega) (by omega) (by simp; omega) ?_
  intro v' w' hown' hgrow _
  refine h v' w' ⟨?_, by rw [List.length_append]; exact hl⟩ (((Below.refl B W).alloc hB _).grown hgrow (by simp; omega) (fun k hk => (hown.row.lt k hk).1))
  rw [List.length_append, clmC_app]
  exact hown'
/-- Claims of another row, behind the others. -/
theorem wpList_app_clm {W : World} {ops : Array Oper} {rest : List Oper} {o : Oper} {a : Act} {Q : Exit → Act → World → Prop} (hgd : o.guard = none) (s x : Operand)
    (ho : o.op = .call { callee := .builtin .append, args := #[s, x], argTypes := #[66, 66] }) (B : Nat) (v u : Value) (l m : List Clm) (hs : a.eval s = v) (hown : CRow W B v l)
    (hx : a.eval x = u) (hm : CRd W u m) (hB : B ≤ W.heap.size) (hl : l.length + m.length ≤ 100000000)
    (h : ∀ v' w', CRow w' B v' (l ++ m) → Below B W w' → wpList Tryz.prog ops Q rest (a.put o.dst v') w') : wpList Tryz.prog ops Q (o :: rest) a W := by
  obtain ⟨v', w', hr, h2, h3⟩ := run_append_clm W B o.type hown hm hl hB
  refine wpList_plain hgd fun _ hK => ?_
  unfold Oper.wp execOp
  simp only [ho, resolve, invoke, builtin, Sem.run_bind, Sem.run_pure, Result.andThen_ok, List.map_toArray, List.map_cons, List.map_nil, hs, hx, hr]
  exact hK _ _ (h v' w' h2 ((Below.refl B W).grown h3 hB (fun k hk => (hown.row.lt k hk).1)))
/-! From which claims one follows. -/
def allC (H : Sh) (i : Nat) (a : Bool) : List Clm := (H.bd i).map (fun q => (a, true, q))
def gNot (H : Sh) (s : St) (i : Nat) : List Clm := if H.kd i = 0 then [(true, false, s.ns i)] else []
def gMay (H : Sh) (s : St) (i : Nat) : List Clm := if H.kd i = 2 then [] else [(false, false, s.fa i)]
def gWay (H : Sh) (s : St) (i : Nat) : List Clm := if s.fa i = 0 then (match (H.ab i).find? (bCar H s) with
  | some k => allC H k false
  | none => []) else [(false, false, s.fa i)]
def holdC (H : Sh) (s : St) (p : Nat) : List Clm := if s.su p = 1 then [(true, true, litOf p)] else match (H.ru p).find? (bCar H s) with
  | some i => (allC H i false ++ [(true, false, -litOf p)]) ++ (H.ru (opp p)).flatMap (gWay H s)
  | none => []
def failC (H : Sh) (s : St) (p : Nat) : List Clm := if s.su (opp p) = 1 then [(true, false, litOf p), (true, true, -litOf p)] else if (H.ru p).any (bMay H s) then (match (H.ru (opp p)).find? (bStop H s) with
  | some k => (true, false, litOf p) :: (allC H k false ++ (H.ab k).flatMap (gMay H s))
  | none => []) else (true, false, litOf p) :: (H.ru p).flatMap (gMay H s)
def sureC (H : Sh) (s : St) (p : Nat) : List Clm := match (H.ru p).find? (bSure H s) with
  | some i => allC H i true
  | none => []
def fromC (H : Sh) (s : St) (p : Nat) (a b : Bool) : List Clm := if a then (if b then sureC H s p else (H.ru p).flatMap (gNot H s)) else (if b then holdC H s p else failC H s p)
/-- What telling from which claims one follows answers. -/
def FrR (w : World) (ok : Bool) (l : List Clm) (e : Ending) (w' : World) : Prop := ∃ ad n c, e = .returned (.tuple #[.slice ad n c, .bool ok]) ∧ Below w.heap.size w w' ∧ (ok = true → CRow w' w.heap.size (.slice ad n c) l)
theorem flat_bd {f : Nat → List Clm} {m : Nat} (hf : ∀ i, (f i).length ≤ m) : ∀ l : List Nat, (l.flatMap f).length ≤ l.length * m
  | [] => by simp
  | x :: l => by
    rw [List.flatMap_cons, List.length_append, List.length_cons, Nat.add_mul]
    have := flat_bd hf l
    have := hf x
    omega
theorem flat_snoc {f : Nat → List Clm} {l : List Nat} {j i : Nat} (h : l[j]? = some i) : (l.take (j + 1)).flatMap f = (l.take j).flatMap f ++ f i := by
  obtain ⟨hj, e⟩ := List.getElem?_eq_some_iff.1 h
  rw [List.take_succ_eq_append_getElem hj, List.flatMap_append, e]
  simp
theorem flat_take_bd {f : Nat → List Clm} {m : Nat} (hf : ∀ i, (f i).length ≤ m) (l : List Nat) (j : Nat) (hl : l.length ≤ 100000) (hm : m ≤ 130) : ((l.take j).flatMap f).length ≤ 13000000 := by
  have h1 := flat_bd hf (l.take j)
  have h2 : (l.take j).length ≤ 100000 := by rw [List.length_take]; omega
  have h3 : (l.take j).length * m ≤ 100000 * 130 := Nat.mul_le_mul h2 hm
  omega
end Go.Proofs.YtmbclnaenjcocaaGreatDoor
