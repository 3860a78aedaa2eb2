/-
  Facts: the program's map of the facts that count.
-/
import Derived.Test.YtagdenpmonedlaaDoorFAll
import Derived.Maps.OwnSet
import Derived.Maps.RangeWalk
import Derived.Maps.Ext
namespace Go.Proofs.YtagdenpmonedlaaDoor
open Go.RowKit Go.Maps

/-- How an element reads: a fact. -/
noncomputable def RF (v : Value) : Option (DataW Fct × List MemPlace) := by
  classical exact if h : ∃ x, v = fctA x then some (.held h.choose, []) else none
theorem RF_mk (x : Fct) : RF (fctA x) = some (.held x, []) := by
  have h : ∃ y, fctA x = fctA y := ⟨x, rfl⟩
  unfold RF
  rw [dif_pos h, ← fctA_inj h.choose_spec]
theorem RF_inv {v : Value} {y : DataW Fct × List MemPlace} (h : RF v = some y) : ∃ x, v = fctA x ∧ y = (.held x, []) := by
  unfold RF at h
  split at h
  · rename_i hx
    injection h with h
    exact ⟨hx.choose, hx.choose_spec, h.symm⟩
  · cases h
def fct0 : Fct := ⟨0, ⟨#[]⟩, 0, 0, 0, 0, 0⟩
theorem zeroFct (w : World) : (zeroValue 32).run Tryd.prog w = .ok (fctA fct0) w := by
  have h : (Tryd.prog.info? 32).map (fun i => (i.zero, i.size)) = some (some (fctA fct0), 7) := by kernel_rfl
  exact (zero_of_info h).1 w
theorem lawInt : Keyed Tryd.prog 3 := int_keyed Tryd.underlying3
/-- 'v, ok := m[k]' where it is known what stands there. -/
theorem wpList_lookup_fct {P : Program} (w : World) {ops : Array Oper} {rest : List Oper} {o : Oper} {a : Act} {Q : Exit → Act → World → Prop} (hg : o.guard = none) (m x : Operand) (t : TypeId) (hop : o.op = Op.lookup t m x true)
    (k e : TypeId) (K : Keyed P k) (ht : P.underlying t = some (.map k e)) (z : Fct) (hz : (zeroValue e).run P w = .ok (fctA z) w) (b n : Nat) (D : DataW Fct)
    (hm : a.eval m = .map (some b)) (hown : w.ownsMap P k RF b n D) (key : Value) (kl : Lit) (hx : a.eval x = key) (hkey : keyOf P k key = some kl) (y : Fct) (hy : D.atKey kl (.held z) = .held y) (bb : Bool) (hb : Maps.has D kl = bb)
    (hK : wpList P ops Q rest (a.put o.dst (.tuple #[.agg #[.int .i64 y.who, .string y.nm, .int .i64 y.oth, .int .i64 y.val, .int .i64 y.frm, .int .i64 y.til, .int .i64 y.lrn], .bool bb])) w) :
    wpList P ops Q (o :: rest) a w :=
  wpList_lookup_own_ok w hg m x t hop k e K ht RF hz (.held z) [] (RF_mk z) b n D hm hown key kl hx hkey (fun v ps hv => by
    obtain ⟨y', rfl, e1⟩ := RF_inv hv
    have e2 := congrArg Prod.fst e1
    simp only [hy] at e2
    injection e2 with e2
    subst e2
    rw [hb]
    exact hK)
/-- The map holds, under each number, the fact that f tells. -/
structure MapIs (D : DataW Fct) (f : Int → Option Fct) : Prop where
  is : IsMap D
  has : ∀ o, Maps.has D (.int .i64 o) = (f o).isSome
  here : ∀ o x, f o = some x → ∀ zd, D.atKey (.int .i64 o) zd = .held x
theorem MapIs.start : MapIs (.map []) (fun _ => none) := ⟨isMap_empty, fun _ => rfl, fun _ _ h => by cases h⟩
theorem MapIs.put {D : DataW Fct} {f : Int → Option Fct} (h : MapIs D f) (o0 : Int) (x : Fct) : MapIs (D.put (.int .i64 o0) (.held x)) (fun o => if o = o0 then some x else f o) := by
  refine ⟨h.is.put _ _, fun o => ?_, fun o y hy zd => ?_⟩
  · by_cases e : o = o0
    · subst e; rw [has_put_same (k := .int .i64 o) h.is trivial]; simp
    · rw [has_put_other (by intro k; injection k with _ k; exact e k), h.has]; simp [e]
  · by_cases e : o = o0
    · subst e; rw [atKey_put_same (k := .int .i64 o) h.is trivial]; simp at hy; rw [hy]
    · rw [atKey_put_other (by intro k; injection k with _ k; exact e k)]
      simp [e] at hy
      exact h.here o y hy zd
theorem MapIs.congr {D : DataW Fct} {f g : Int → Option Fct} (h : MapIs D f) (e : ∀ o, g o = f o) : MapIs D g := by
  rw [show g = f from funext e]
  exact h
theorem MapIs.none {D : DataW Fct} {f : Int → Option Fct} (h : MapIs D f) {o : Int} (e : f o = none) (zd : DataW Fct) : Maps.has D (.int .i64 o) = false ∧ D.atKey (.int .i64 o) zd = zd := by
  have h1 : Maps.has D (.int .i64 o) = false := by rw [h.has, e]; rfl
  exact ⟨h1, atKey_of_not_has h1 zd⟩
theorem wf64 {n : Int} (h1 : -9223372036854775808 ≤ n) (h2 : n ≤ 9223372036854775807) : (Lit.int .i64 n).wf = true := by
  have e1 : IntKind.i64.min = -9223372036854775808 := by rfl
  have e2 : IntKind.i64.max = 9223372036854775807 := by rfl
  show (decide (IntKind.i64.min ≤ n) && decide (n ≤ IntKind.i64.max)) = true
  rw [e1, e2]
  simp [h1, h2]
theorem keyInt {n : Int} (h1 : -1 ≤ n) (h2 : n < 40) : keyOf Tryd.prog 3 (.int .i64 n) = some (.int .i64 n) := keyOf_int_mk Tryd.underlying3 (wf64 (by omega) (by omega))
end Go.Proofs.YtagdenpmonedlaaDoor
