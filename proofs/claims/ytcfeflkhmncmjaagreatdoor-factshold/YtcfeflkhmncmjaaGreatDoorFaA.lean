/-
  Facts in memory: rows of seven cells, files. No walk.
-/
import Derived.Test.YtcfeflkhmncmjaaGreatDoorFTok
import Derived.Deep.WholeRow
import Derived.Maps.OwnSet
import Derived.Maps.RangeWalk
import Derived.Maps.Ext
namespace Go.Proofs.YtcfeflkhmncmjaaGreatDoor
open Go.RowKit Go.Extern.Stop Go.Stop Go.Extern

theorem Tryz.infoFP : ∃ i z, Tryz.prog.info? 61 = some i ∧ i.zero = some z ∧ i.size = 7 ∧ i.bytes = 64 ∧ z.cells.size = 7 := by
  have h : (Tryz.prog.info? 61).map (fun i => (i.zero.map (fun z => z.cells.size), i.size, i.bytes)) = some (some 7, 7, 64) := by kernel_rfl
  obtain ⟨i, hi, e⟩ := Option.map_eq_some_iff.1 h
  injection e with e1 e2
  injection e2 with e2 e3
  obtain ⟨z, hz, e4⟩ := Option.map_eq_some_iff.1 e1
  exact ⟨i, z, hi, hz, e2, e3, e4⟩
theorem Tryz.infoFR : ∃ i z, Tryz.prog.info? 55 = some i ∧ i.zero = some z ∧ i.size = 7 ∧ i.bytes = 64 ∧ z.cells.size = 7 := by
  have h : (Tryz.prog.info? 55).map (fun i => (i.zero.map (fun z => z.cells.size), i.size, i.bytes)) = some (some 7, 7, 64) := by kernel_rfl
  obtain ⟨i, hi, e⟩ := Option.map_eq_some_iff.1 h
  injection e with e1 e2
  injection e2 with e2 e3
  obtain ⟨z, hz, e4⟩ := Option.map_eq_some_iff.1 e1
  exact ⟨i, z, hi, hz, e2, e3, e4⟩
def fctA (x : Fct) : Value := .agg #[.int .i64 x.who, .string x.nm, .int .i64 x.oth, .int .i64 x.val, .int .i64 x.frm, .int .i64 x.til, .int .i64 x.lrn]
def fctC (x : Fct) : List Value := [.int .i64 x.who, .string x.nm, .int .i64 x.oth, .int .i64 x.val, .int .i64 x.frm, .int .i64 x.til, .int .i64 x.lrn]
def fctV (x : Fct) : Nat → Value
  | 0 => .int .i64 x.who
  | 1 => .string x.nm
  | 2 => .int .i64 x.oth
  | 3 => .int .i64 x.val
  | 4 => .int .i64 x.frm
  | 5 => .int .i64 x.til
  | _ => .int .i64 x.lrn
theorem fctA_inj {x y : Fct} (h : fctA x = fctA y) : x = y := by
  unfold fctA at h
  injection h with h
  injection h with h
  injection h with h0 h
  injection h with h1 h
  injection h with h2 h
  injection h with h3 h
  injection h with h4 h
  injection h with h5 h
  injection h with h6 h
  injection h0 with _ h0
  injection h1 with h1
  injection h2 with _ h2
  injection h3 with _ h3
  injection h4 with _ h4
  injection h5 with _ h5
  injection h6 with _ h6
  cases x; cases y
  simp only at h0 h1 h2 h3 h4 h5 h6
  subst h0 h1 h2 h3 h4 h5 h6
  rfl
def fcells : List Fct → List Value
  | [] => []
  | x :: r => fctV x 0 :: fctV x 1 :: fctV x 2 :: fctV x 3 :: fctV x 4 :: fctV x 5 :: fctV x 6 :: fcells r
theorem fcells_app : ∀ (a b : List Fct), fcells (a ++ b) = fcells a ++ fcells b
  | [], b => rfl
  | x :: r, b => by rw [List.cons_append, fcells, fcells, fcells_app r b]; rfl
theorem fcells_get : ∀ (l : List Fct) (i c : Nat) (x : Fct), l[i]? = some x → c < 7 → (fcells l)[i * 7 + c]? = some (fctV x c)
  | a :: r, 0, c, x, h, hc => by
    obtain rfl : a = x := by simpa using h
    rw [fcells]
    match c, hc with
    | 0, _ => rfl
    | 1, _ => rfl
    | 2, _ => rfl
    | 3, _ => rfl
    | 4, _ => rfl
    | 5, _ => rfl
    | 6, _ => rfl
  | a :: r, i + 1, c, x, h, hc => by
    have := fcells_get r i c x (by simpa using h) hc
    rw [fcells, show (i + 1) * 7 + c = (i * 7 + c) + 1 + 1 + 1 + 1 + 1 + 1 + 1 by omega]
    simpa using this
/-- Facts one behind another, in memory of the call's own; T: the facts' type. -/
def FAt (T B : Nat) (w : World) (sv : Value) (L : List Fct) : Prop := w.ownsRow B T 7 sv L.length (fcells L)
/-- Facts that can be read at a place. -/
def FRead (w : World) (a : Option Addr) (L : List Fct) : Prop := ∀ i x, L[i]? = some x → ∃ g o, a = some ⟨g, o, none⟩ ∧ ∀ c, c < 7 → w.cell? ⟨g, o + i * 7 + c, none⟩ = some (fctV x c)
theorem FRead.cells {w : World} {a : Option Addr} {L : List Fct} (h : FRead w a L) {i : Nat} {x : Fct} (hx : L[i]? = some x) : ∃ g o, a = some ⟨g, o, none⟩ ∧ g < w.heap.size ∧ w.cell? ⟨g, o + i * 7, none⟩ = some (.int .i64 x.who) ∧ w.cell? ⟨g, o + i * 7 + 1, none⟩ = some (.string x.nm) ∧ w.cell? ⟨g, o + i * 7 + 2, none⟩ = some (.int .i64 x.oth)
    ∧ w.cell? ⟨g, o + i * 7 + 3, none⟩ = some (.int .i64 x.val) ∧ w.cell? ⟨g, o + i * 7 + 4, none⟩ = some (.int .i64 x.frm) ∧ w.cell? ⟨g, o + i * 7 + 5, none⟩ = some (.int .i64 x.til) ∧ w.cell? ⟨g, o + i * 7 + 6, none⟩ = some (.int .i64 x.lrn) := by
  obtain ⟨g, o, e, hc⟩ := h i x hx
  exact ⟨g, o, e, cell_lt (hc 0 (by omega)), hc 0 (by omega), hc 1 (by omega), hc 2 (by omega), hc 3 (by omega), hc 4 (by omega), hc 5 (by omega), hc 6 (by omega)⟩
theorem FRead.on {w w' : World} {a : Option Addr} {L : List Fct} (h : FRead w a L) (hb : ∀ g o, a = some ⟨g, o, none⟩ → g < w.heap.size → w'.heap[g]? = w.heap[g]?) : FRead w' a L := by
  intro i x hx
  obtain ⟨g, o, e, hc⟩ := h i x hx
  exact ⟨g, o, e, fun c k => (World.cell?_of_block (a := ⟨g, o + i * 7 + c, none⟩) (hb g o e (cell_lt (hc 0 (by omega))))).trans (hc c k)⟩
theorem FRead.bel {w w' : World} {a : Option Addr} {L : List Fct} (h : FRead w a L) (hb : Below w.heap.size w w') : FRead w' a L := h.on fun g _ _ hg => hb.block g hg
theorem FAt.slice {T B : Nat} {w : World} {sv : Value} {L : List Fct} (h : FAt T B w sv L) : ∃ a c, sv = .slice a L.length c ∧ FRead w a L ∧ L.length ≤ c ∧ (∀ g o, a = some ⟨g, o, none⟩ → sv.ownBlock = some g) := by
  obtain ⟨a, c, e⟩ := row_any h
  subst e
  refine ⟨a, c, rfl, fun i x hx => ?_, row_cap h, ?_⟩
  · have hl : i < L.length := (List.getElem?_eq_some_iff.1 hx).1
    obtain ⟨g, cap, e, _, _⟩ := row_form h (by omega)
    injection e with e1 e2 e3
    refine ⟨g, 0, e1, fun c hc => ?_⟩
    subst e1
    have h5 := World.ownsRow.cells h (g := g) rfl (i * 7 + c) _ (fcells_get L i c x hx hc)
    have h6 : (⟨g, 0, none⟩ : Addr).add (i * 7 + c) = ⟨g, i * 7 + c, none⟩ := by
      unfold Addr.add
      split
      · rename_i h0
        rw [h0]
      · simp
    rw [h6] at h5
    rw [Nat.zero_add]
    exact h5
  · intro g o e
    rw [e]
    rfl
theorem alloc_cell (W : World) (cs : List Value) (T j : Nat) (u : Value) (h : cs[j]? = some u) : (W.alloc (.cells cs.toArray T)).cell? ((⟨W.heap.size, 0, none⟩ : Addr).add j) = some u := by
  have h6 : (⟨W.heap.size, 0, none⟩ : Addr).add j = ⟨W.heap.size, j, none⟩ := by
    unfold Addr.add
    split
    · rename_i h0
      rw [h0]
    · simp
  rw [h6, cell_of_row _ _ j cs.toArray T (0, 0) (heap_alloc_last W _)]
  simpa using h
theorem fctNews (W : World) (x : Fct) (T : Nat) (j : Nat) (u : Value) (h : (fctC x)[j]? = some u) : (W.drew.alloc (.cells #[.int .i64 x.who, .string x.nm, .int .i64 x.oth, .int .i64 x.val, .int .i64 x.frm, .int .i64 x.til, .int .i64 x.lrn] T)).cell? ((⟨W.heap.size, 0, none⟩ : Addr).add j) = some u :=
  alloc_cell W.drew (fctC x) T j u h
theorem fctOne (x : Fct) : ∀ u ∈ fctC x, u.oneCell' = true := fun u hu => by
  simp only [fctC, List.mem_cons, List.not_mem_nil, or_false] at hu
  rcases hu with rfl | rfl | rfl | rfl | rfl | rfl | rfl <;> rfl
/-- A file of facts: one cell that holds the slice. -/
structure FFile (T B : Nat) (w : World) (b : Nat) (L : List Fct) (sv : Value) : Prop where
  lt : b < B
  inH : b < w.heap.size
  cell : w.cell? ⟨b, 0, none⟩ = some sv
  frz : w.frozen? ⟨b, 0, none⟩ = false
  row : FAt T B w sv L
/-- What adding a fact leaves as it was: all below B but the file's cell, and all that is no row of facts. -/
structure FStep (T B b : Nat) (w w' : World) : Prop where
  os : w'.os = w.os
  tape : w'.tape = w.tape
  output : w'.output = w.output
  size : w.heap.size ≤ w'.heap.size
  block : ∀ k, k < w.heap.size → k ≠ b → (k < B ∨ ∀ cs fr, w.heap[k]? ≠ some (.cells cs T fr)) → w'.heap[k]? = w.heap[k]?
theorem Below.fstep {T B b : Nat} {w w' : World} (h : Below w.heap.size w w') : FStep T B b w w' := ⟨h.os, h.tape, h.output, h.size, fun k hk _ _ => h.block k hk⟩
theorem FAt.block {T B : Nat} {w : World} {sv : Value} {L : List Fct} (h : FAt T B w sv L) {g : Nat} (hg : sv.ownBlock = some g) : B ≤ g ∧ ∃ cs, w.heap[g]? = some (.cells cs T (0, 0)) := by
  rcases h.2 with ⟨e, _⟩ | ⟨g', cap, cur, e, hb, hh, _⟩
  · subst e; cases hg
  · subst e
    injection hg with hg
    subst hg
    exact ⟨hb, cur, hh⟩
/-- A file of another kind stays. -/
theorem FFile.other {T T' B b b' : Nat} {w w' : World} {L : List Fct} {sv : Value} (h : FFile T B w b L sv) (hs : FStep T' B b' w w') (hT : T ≠ T') (hb : b ≠ b') (hb' : b' < B) : FFile T B w' b L sv := by
  have e := hs.block b h.inH hb (.inl h.lt)
  refine ⟨h.lt, Nat.lt_of_lt_of_le h.inH hs.size, (World.cell?_of_block (a := ⟨b, 0, none⟩) e).trans h.cell, (World.frozen?_of_block (a := ⟨b, 0, none⟩) e).trans h.frz, row_step h.row fun g hg hl => ?_⟩
  obtain ⟨h1, cs, h2⟩ := h.row.block hg
  refine hs.block g hl ?_ (.inr fun cs' fr e => ?_)
  · omega
  · rw [h2] at e
    injection e with e
    injection e with _ e _
    exact hT e
theorem FFile.bel {T B b : Nat} {w w' : World} {L : List Fct} {sv : Value} (h : FFile T B w b L sv) (hb : Below w.heap.size w w') : FFile T B w' b L sv := by
  have e := hb.block b h.inH
  exact ⟨h.lt, Nat.lt_of_lt_of_le h.inH hb.size, (World.cell?_of_block (a := ⟨b, 0, none⟩) e).trans h.cell, (World.frozen?_of_block (a := ⟨b, 0, none⟩) e).trans h.frz, row_step h.row fun g _ hl => hb.block g hl⟩
end Go.Proofs.YtcfeflkhmncmjaaGreatDoor
namespace Go.Proofs.YtcfeflkhmncmjaaGreatDoor
open Go.RowKit Go.Extern.Stop Go.Stop Go.Extern

theorem all_f {B b : Nat} {w : World} {L : List Fct} {sv : Value} (h : FFile 61 B w b L sv) :
    Calls Tryz.prog 89 #[.pointer (some ⟨b, 0, none⟩)] w fun e w' => e = .returned sv ∧ w' = w := by
  obtain ⟨a, c, rfl, _⟩ := h.row.slice
  have hc := h.cell
  clear h
  go_enter Tryz.func89, Tryz.ntmps89
  go_wp2
  go_ret
  exact ⟨rfl, rfl⟩
def isSoB (x : Fct) (on known : Int) : Bool := decide (x.lrn ≤ known) && decide (x.frm ≤ on) && (decide (x.til = 0) || decide (on < x.til))
theorem soB_eq (x : Fct) (who : Int) (nm : ByteArray) (on known : Int) : soB x who nm on known = (decide (x.who = who) && decide (x.nm = nm) && isSoB x on known) := by
  unfold soB isSoB
  simp [Bool.and_assoc]
theorem isSo_f (x : Fct) (on known : Int) (w : World) :
    Calls Tryz.prog 90 #[.agg #[.int .i64 x.who, .string x.nm, .int .i64 x.oth, .int .i64 x.val, .int .i64 x.frm, .int .i64 x.til, .int .i64 x.lrn], .int .i64 on, .int .i64 known] w fun e w' => e = .returned (.bool (isSoB x on known)) ∧ w' = w.alloc (.cells #[.int .i64 x.who, .string x.nm, .int .i64 x.oth, .int .i64 x.val, .int .i64 x.frm, .int .i64 x.til, .int .i64 x.lrn] 61) := by
  obtain ⟨xw, xn, xo, xv, xf, xt, xl⟩ := x
  have hO : Hid (isSoB ⟨xw, xn, xo, xv, xf, xt, xl⟩ on known = (decide (xl ≤ known) && decide (xf ≤ on) && (decide (xt = 0) || decide (on < xt)))) := rfl
  generalize isSoB ⟨xw, xn, xo, xv, xf, xt, xl⟩ on known = O at *
  by_cases h1 : xl ≤ known
  · by_cases h2 : xf ≤ on
    · by_cases h3 : xt = 0
      · subst h3
        go_enter Tryz.func90, Tryz.ntmps90
        go_wp2
        go_ret
        exact ⟨retB (by rw [hO.out, Bool.eq_iff_iff]; simp [h1, h2]), rfl⟩
      · go_enter Tryz.func90, Tryz.ntmps90
        go_wp2
        go_ret
        exact ⟨retB (by rw [hO.out, Bool.eq_iff_iff]; simp [h1, h2, h3]), rfl⟩
    · go_enter Tryz.func90, Tryz.ntmps90
      go_wp2
      go_ret
      exact ⟨retB (by rw [hO.out, decide_eq_false (by omega : ¬ xf ≤ on)]; simp), rfl⟩
  · go_enter Tryz.func90, Tryz.ntmps90
    go_wp2
    go_ret
    exact ⟨retB (by rw [hO.out, decide_eq_false (by omega : ¬ xl ≤ known)]; simp), rfl⟩
end Go.Proofs.YtcfeflkhmncmjaaGreatDoor
namespace Go.Proofs.YtcfeflkhmncmjaaGreatDoor
open Go.RowKit Go.Maps

/-- How an element reads: a fact. -/
noncomputable def RF (v : Value) : Option (DataW Fct × List MemPlace) := by
  classical exact if h : ∃ x, v = fctA x then some (.held h.choose, []) else none
theorem RF_mk (x : Fct) : RF (fctA x) = some (.held x, []) := by
  have h : ∃ y, fctA x = fctA y := ⟨x, rfl⟩
  unfold RF
  rw [dif_pos h, ← fctA_inj h.choose_spec]
theorem RF_inv {v : Value} {y : DataW Fct × List MemPlace} (h : RF v = some y) : ∃ x, v = fctA x ∧ y = (.held x, []) := by
  unfold RF at h
  split at h
  · rename_i hx
    injection h with h
    exact ⟨hx.choose, hx.choose_spec, h.symm⟩
  · cases h
def fct0 : Fct := ⟨0, ⟨#[]⟩, 0, 0, 0, 0, 0⟩
theorem zeroFct (w : World) : (zeroValue 61).run Tryz.prog w = .ok (fctA fct0) w := by
  have h : (Tryz.prog.info? 61).map (fun i => (i.zero, i.size)) = some (some (fctA fct0), 7) := by kernel_rfl
  exact (zero_of_info h).1 w
theorem lawInt : Keyed Tryz.prog 3 := int_keyed Tryz.underlying3
/-- 'v, ok := m[k]' where it is known what stands there. -/
theorem wpList_lookup_fct {P : Program} (w : World) {ops : Array Oper} {rest : List Oper} {o : Oper} {a : Act} {Q : Exit → Act → World → Prop} (hg : o.guard = none) (m x : Operand) (t : TypeId) (hop : o.op = Op.lookup t m x true)
    (k e : TypeId) (K : Keyed P k) (ht : P.underlying t = some (.map k e)) (z : Fct) (hz : (zeroValue e).run P w = .ok (fctA z) w) (b n : Nat) (D : DataW Fct)
    (hm : a.eval m = .map (some b)) (hown : w.ownsMap P k RF b n D) (key : Value) (kl : Lit) (hx : a.eval x = key) (hkey : keyOf P k key = some kl) (y : Fct) (hy : D.atKey kl (.held z) = .held y) (bb : Bool) (hb : Maps.has D kl = bb)
    (hK : wpList P ops Q rest (a.put o.dst (.tuple #[.agg #[.int .i64 y.who, .string y.nm, .int .i64 y.oth, .int .i64 y.val, .int .i64 y.frm, .int .i64 y.til, .int .i64 y.lrn], .bool bb])) w) :
    wpList P ops Q (o :: rest) a w :=
  wpList_lookup_own_ok w hg m x t hop k e K ht RF hz (.held z) [] (RF_mk z) b n D hm hown key kl hx hkey (fun v ps hv => by
    obtain ⟨y', rfl, e1⟩ := RF_inv hv
    have e2 := congrArg Prod.fst e1
    simp only [hy] at e2
    injection e2 with e2
    subst e2
    rw [hb]
    exact hK)
/-- The map holds, under each number, the fact that f tells. -/
structure MapIs (D : DataW Fct) (f : Int → Option Fct) : Prop where
  is : IsMap D
  has : ∀ o, Maps.has D (.int .i64 o) = (f o).isSome
  here : ∀ o x, f o = some x → ∀ zd, D.atKey (.int .i64 o) zd = .held x
theorem MapIs.start : MapIs (.map []) (fun _ => none) := ⟨isMap_empty, fun _ => rfl, fun _ _ h => by cases h⟩
theorem MapIs.put {D : DataW Fct} {f : Int → Option Fct} (h : MapIs D f) (o0 : Int) (x : Fct) : MapIs (D.put (.int .i64 o0) (.held x)) (fun o => if o = o0 then some x else f o) := by
  refine ⟨h.is.put _ _, fun o => ?_, fun o y hy zd => ?_⟩
  · by_cases e : o = o0
    · subst e; rw [has_put_same (k := .int .i64 o) h.is trivial]; simp
    · rw [has_put_other (by intro k; injection k with _ k; exact e k), h.has]; simp [e]
  · by_cases e : o = o0
    · subst e; rw [atKey_put_same (k := .int .i64 o) h.is trivial]; simp at hy; rw [hy]
    · rw [atKey_put_other (by intro k; injection k with _ k; exact e k)]
      simp [e] at hy
      exact h.here o y hy zd
theorem MapIs.congr {D : DataW Fct} {f g : Int → Option Fct} (h : MapIs D f) (e : ∀ o, g o = f o) : MapIs D g := by
  rw [show g = f from funext e]
  exact h
theorem MapIs.none {D : DataW Fct} {f : Int → Option Fct} (h : MapIs D f) {o : Int} (e : f o = none) (zd : DataW Fct) : Maps.has D (.int .i64 o) = false ∧ D.atKey (.int .i64 o) zd = zd := by
  have h1 : Maps.has D (.int .i64 o) = false := by rw [h.has, e]; rfl
  exact ⟨h1, atKey_of_not_has h1 zd⟩
theorem wf64 {n : Int} (h1 : -9223372036854775808 ≤ n) (h2 : n ≤ 9223372036854775807) : (Lit.int .i64 n).wf = true := by
  have e1 : IntKind.i64.min = -9223372036854775808 := by rfl
  have e2 : IntKind.i64.max = 9223372036854775807 := by rfl
  show (decide (IntKind.i64.min ≤ n) && decide (n ≤ IntKind.i64.max)) = true
  rw [e1, e2]
  simp [h1, h2]
theorem keyInt {n : Int} (h1 : -1 ≤ n) (h2 : n < 40) : keyOf Tryz.prog 3 (.int .i64 n) = some (.int .i64 n) := keyOf_int_mk Tryz.underlying3 (wf64 (by omega) (by omega))
end Go.Proofs.YtcfeflkhmncmjaaGreatDoor
namespace Go.Proofs.YtcfeflkhmncmjaaGreatDoor
open Go.RowKit Go.Maps

theorem toList_ne {a b : ByteArray} (h : ¬ a = b) : ¬ a.toList = b.toList := fun e => h (by
  rw [Lib.toList_data, Lib.toList_data] at e
  exact ByteArray.ext (Array.toList_inj.1 e))
theorem step_no {L : List Fct} {i : Nat} {x : Fct} (hx : L[i]? = some x) {who : Int} {nm : ByteArray} {on known : Int} (h : soB x who nm on known = false) (o : Int) :
    latestL (L.take (i + 1)) who nm o on known = latestL (L.take i) who nm o on known := by
  rw [latest_snoc L i x hx]
  unfold stepL
  rw [if_neg (by rw [h]; simp)]
theorem step_put {L : List Fct} {i : Nat} {x : Fct} (hx : L[i]? = some x) {who : Int} {nm : ByteArray} {on known : Int} (h : soB x who nm on known = true) (hp : pick (latestL (L.take i) who nm x.oth on known) x = some x) (o : Int) :
    latestL (L.take (i + 1)) who nm o on known = if o = x.oth then some x else latestL (L.take i) who nm o on known := by
  rw [latest_snoc L i x hx]
  unfold stepL
  by_cases e : o = x.oth
  · subst e; rw [if_pos ⟨h, rfl⟩, if_pos rfl, hp]
  · rw [if_neg (fun k => e k.2.symm), if_neg e]
theorem step_old {L : List Fct} {i : Nat} {x y : Fct} (hx : L[i]? = some x) {who : Int} {nm : ByteArray} {on known : Int} (hy : latestL (L.take i) who nm x.oth on known = some y) (hl : ¬ y.lrn ≤ x.lrn) (o : Int) :
    latestL (L.take (i + 1)) who nm o on known = latestL (L.take i) who nm o on known := by
  rw [latest_snoc L i x hx]
  unfold stepL
  split
  · rename_i h
    rw [← h.2, hy]
    unfold pick
    simp only
    rw [if_neg hl]
  · rfl
set_option maxHeartbeats 4000000 in
set_option maxRecDepth 100000 in
theorem counting_f {B b : Nat} {w : World} {L : List Fct} {sv : Value} (h : FFile 61 B w b L sv) (hG : ∀ x ∈ L, Good x) (hl : L.length ≤ 500) (who : Int) (nm : ByteArray) (on known : Int) :
    Calls Tryz.prog 83 #[.pointer (some ⟨b, 0, none⟩), .int .i64 who, .string nm, .int .i64 on, .int .i64 known] w fun e w' => e = .returned (.map (some w.heap.size)) ∧ (∃ D, w'.ownsMap Tryz.prog 3 RF w.heap.size 500 D ∧ MapIs D (fun o => latestL L who nm o on known)) ∧ Below w.heap.size w w' := by
  have hmm := @run_makeMap Tryz.prog
  have HAl : Hid (∀ o : Obj, Calls Tryz.prog 89 #[.pointer (some ⟨b, 0, none⟩)] (w.alloc o) fun e w' => e = .returned sv ∧ w' = w.alloc o) := fun o => all_f (h.bel ((Below.refl _ _).alloc (Nat.le_refl _) o))
  obtain ⟨a, c, rfl, hr, hc, _⟩ := h.row.slice
  have HR := hidLL hr
  have HG := hidLL hG
  clear h hr hG
  obtain ⟨n, hn⟩ : ∃ n, n = L.length := ⟨_, rfl⟩
  rw [← hn] at hl hc HAl
  have HN := hidLL hn
  clear hn
  go_enter Tryz.func83, Tryz.ntmps83
  go_wp2_with (go_at_call 89; refine (HAl.out _).mono ?_; rintro e w1 ⟨rfl, ew⟩; subst w1)
  go_loopw [20] (fun t wr => ∃ (i : Nat) (D : DataW Fct), i ≤ n ∧ t = .int .i64 i ∧ wr.ownsMap Tryz.prog 3 RF w.heap.size i D ∧ MapIs D (fun o => latestL (L.take i) who nm o on known) ∧ Below w.heap.size w wr)
    (fun t _ => (n - RowKit.intOf t).toNat)
  case atStart => exact ⟨0, .map [], Nat.zero_le _, rfl, World.ownsMap_made _ _ _ _, MapIs.start, (Below.refl _ _).alloc (Nat.le_refl _) _⟩
  case round =>
    obtain ⟨i, D, hi, rfl, hown, hmap, hbel⟩ := hrel
    have HO := hidLL hown
    have HM := hidLL hmap
    have HB := hidLL hbel
    clear hown hmap hbel
    by_cases hin : i < n
    · have hiz : (i : Int) < n := by omega
      obtain ⟨x, hx⟩ : ∃ x, L[i]? = some x := ⟨_, List.getElem?_eq_getElem (by have := HN.out; omega)⟩
      have hgx : Good x := HG.out x (List.mem_of_getElem? hx)
      obtain ⟨g, o, rfl, hg, x0, x1, x2, x3, x4, x5, x6⟩ := HR.out.cells hx
      rw [← HB.out.cell (p := ⟨g, o + i * 7, none⟩) hg] at x0
      rw [← HB.out.cell (p := ⟨g, o + i * 7 + 1, none⟩) hg] at x1
      rw [← HB.out.cell (p := ⟨g, o + i * 7 + 2, none⟩) hg] at x2
      rw [← HB.out.cell (p := ⟨g, o + i * 7 + 3, none⟩) hg] at x3
      rw [← HB.out.cell (p := ⟨g, o + i * 7 + 4, none⟩) hg] at x4
      rw [← HB.out.cell (p := ⟨g, o + i * 7 + 5, none⟩) hg] at x5
      rw [← HB.out.cell (p := ⟨g, o + i * 7 + 6, none⟩) hg] at x6
      have hgr : g < wr.heap.size := Nat.lt_of_lt_of_le hg HB.out.size
      have HSo := hidLL (isSo_f x on known)
      have HE := hidLL (soB_eq x who nm on known)
      have HX := hidLL hx
      have HK : Hid (keyOf Tryz.prog 3 (.int .i64 x.oth) = some (.int .i64 x.oth)) := by
        have := hgx.oth
        exact keyInt (by omega) (by omega)
      clear hx hgx
      cases hso : soB x who nm on known
      · have HNo := hidLL (fun o => step_no HX.out hso o)
        rw [hso] at HE
        clear hso
        generalize hS : isSoB x on known = so at *
        clear hS
        obtain ⟨xw, xn, xo, xv, xf, xt, xl⟩ := x
        simp only at x0 x1 x2 x3 x4 x5 x6 HSo HE HNo
        by_cases h1 : xw = who
        · subst h1
          by_cases h2 : xn = nm
          · subst h2
            have hs0 : so = false := by have := HE.out; simpa using this.symm
            subst hs0
            go_wp2_with (go_at_call 90; refine (HSo.out _).mono ?_; rintro e w1 ⟨rfl, ew⟩; subst w1)
            go_roundw
            case rel => exact ⟨i + 1, D, by omega, by go_num, (((HO.out.alloc _).alloc _).mono (by omega)), HM.out.congr HNo.out, (HB.out.alloc HB.out.size _).alloc (by have := HB.out.size; simp; omega) _⟩
            case measure => simp [RowKit.intOf]; omega
          · have h3 := toList_ne h2
            go_wp2_with fail
            go_roundw
            case rel => exact ⟨i + 1, D, by omega, by go_num, ((HO.out.alloc _).mono (by omega)), HM.out.congr HNo.out, HB.out.alloc HB.out.size _⟩
            case measure => simp [RowKit.intOf]; omega
        · go_wp2_with fail
          go_roundw
          case rel => exact ⟨i + 1, D, by omega, by go_num, ((HO.out.alloc _).mono (by omega)), HM.out.congr HNo.out, HB.out.alloc HB.out.size _⟩
          case measure => simp [RowKit.intOf]; omega
      · rw [hso] at HE
        have he := HE.out
        simp at he
        obtain ⟨⟨e1, e2⟩, e3⟩ := he
        subst e1
        subst e2
        rw [e3] at HSo
        have HSB := hidLL hso
        clear hso e3 HE
        cases hla : latestL (L.take i) x.who x.nm x.oth on known with
        | none =>
          have HNo := hidLL (fun o => step_put HX.out HSB.out (by rw [hla]; rfl) o)
          have HL := hidLL (HM.out.none hla (.held fct0))
          have HV := hidLL (RF_mk x)
          unfold fctA at HV
          obtain ⟨xw, xn, xo, xv, xf, xt, xl⟩ := x
          simp only at x0 x1 x2 x3 x4 x5 x6 HSo HNo HL HK HV
          clear hla
          have HB3 : Hid (∀ o1 o2 o3 : Obj, Below w.heap.size w (((wr.alloc o1).alloc o2).alloc o3) ∧ w.heap.size ≤ (((wr.alloc o1).alloc o2).alloc o3).heap.size) := fun o1 o2 o3 => by
            have h0 := HB.out.size
            exact ⟨((HB.out.alloc h0 _).alloc (by simp; omega) _).alloc (by simp; omega) _, by simp; omega⟩
          go_wp2_with (first
            | (go_at_call 90; refine (HSo.out _).mono ?_; rintro e w1 ⟨rfl, ew⟩; subst w1)
            | (at_lookup; refine wpList_lookup_fct _ rfl _ _ 160 rfl 3 61 lawInt Tryz.underlying160 fct0 (zeroFct _) w.heap.size i D rfl ((HO.out.alloc _).alloc _) _ _ rfl HK.out fct0 HL.out.2 false HL.out.1 ?_)
            | (at_mapUpdate; refine wpList_mapUpdate_own _ rfl _ _ _ 160 rfl 3 61 lawInt Tryz.underlying160 _ w.heap.size i D rfl (((HO.out.alloc _).alloc _).alloc _) (by unfold maxLen; omega) _ _ _ rfl rfl HK.out _ [] HV.out ?_; intro w1 hown1 hgrow1)
            | go_in)
          go_roundw
          case rel => exact ⟨i + 1, _, by omega, by go_num, hown1, (HM.out.put xo _).congr HNo.out, (HB3.out _ _ _).1.grown hgrow1 (HB3.out _ _ _).2 (fun j hj => by cases hj; exact Nat.le_refl _)⟩
          case measure => simp [RowKit.intOf]; omega
        | some y =>
          have hh : Maps.has D (.int .i64 x.oth) = true := by rw [HM.out.has, hla]; rfl
          have HL := hidLL (And.intro hh (HM.out.here x.oth y hla (.held fct0)))
          have HB3 : Hid (∀ o1 o2 o3 : Obj, Below w.heap.size w (((wr.alloc o1).alloc o2).alloc o3) ∧ w.heap.size ≤ (((wr.alloc o1).alloc o2).alloc o3).heap.size) := fun o1 o2 o3 => by
            have h0 := HB.out.size
            exact ⟨((HB.out.alloc h0 _).alloc (by simp; omega) _).alloc (by simp; omega) _, by simp; omega⟩
          have HV := hidLL (RF_mk x)
          unfold fctA at HV
          by_cases hyl : y.lrn ≤ x.lrn
          · have HNo := hidLL (fun o => step_put HX.out HSB.out (by rw [hla]; unfold pick; simp only; rw [if_pos hyl]) o)
            obtain ⟨xw, xn, xo, xv, xf, xt, xl⟩ := x
            obtain ⟨yw, yn, yo, yv, yf, yt, yl⟩ := y
            simp only at x0 x1 x2 x3 x4 x5 x6 HSo HNo HL HK HV hyl
            clear hla hh
            go_wp2_with (first
              | (go_at_call 90; refine (HSo.out _).mono ?_; rintro e w1 ⟨rfl, ew⟩; subst w1)
              | (at_lookup; refine wpList_lookup_fct _ rfl _ _ 160 rfl 3 61 lawInt Tryz.underlying160 fct0 (zeroFct _) w.heap.size i D rfl ((HO.out.alloc _).alloc _) _ _ rfl HK.out ⟨yw, yn, yo, yv, yf, yt, yl⟩ HL.out.2 true HL.out.1 ?_)
              | (at_mapUpdate; refine wpList_mapUpdate_own _ rfl _ _ _ 160 rfl 3 61 lawInt Tryz.underlying160 _ w.heap.size i D rfl (((HO.out.alloc _).alloc _).alloc _) (by unfold maxLen; omega) _ _ _ rfl rfl HK.out _ [] HV.out ?_; intro w1 hown1 hgrow1)
              | go_in)
            go_roundw
            case rel => exact ⟨i + 1, _, by omega, by go_num, hown1, (HM.out.put xo _).congr HNo.out, (HB3.out _ _ _).1.grown hgrow1 (HB3.out _ _ _).2 (fun j hj => by cases hj; exact Nat.le_refl _)⟩
            case measure => simp [RowKit.intOf]; omega
          · have HNo := hidLL (fun o => step_old HX.out hla hyl o)
            obtain ⟨xw, xn, xo, xv, xf, xt, xl⟩ := x
            obtain ⟨yw, yn, yo, yv, yf, yt, yl⟩ := y
            simp only at x0 x1 x2 x3 x4 x5 x6 HSo HNo HL HK hyl
            clear hla hh HV
            have hyl2 : xl < yl := by omega
            go_wp2_with (first
              | (go_at_call 90; refine (HSo.out _).mono ?_; rintro e w1 ⟨rfl, ew⟩; subst w1)
              | (at_lookup; refine wpList_lookup_fct _ rfl _ _ 160 rfl 3 61 lawInt Tryz.underlying160 fct0 (zeroFct _) w.heap.size i D rfl ((HO.out.alloc _).alloc _) _ _ rfl HK.out ⟨yw, yn, yo, yv, yf, yt, yl⟩ HL.out.2 true HL.out.1 ?_)
              | go_in)
            go_roundw
            case rel => exact ⟨i + 1, D, by omega, by go_num, ((((HO.out.alloc _).alloc _).alloc _).mono (by omega)), HM.out.congr HNo.out, (HB3.out _ _ _).1⟩
            case measure => simp [RowKit.intOf]; omega
    · obtain rfl : i = n := by omega
      have HT : Hid (L.take i = L) := List.take_of_length_le (by rw [HN.out]; exact Nat.le_refl _)
      go_wp2
      go_ret
      refine ⟨rfl, ⟨D, HO.out.mono (by omega), ?_⟩, HB.out⟩
      have := HM.out
      rw [HT.out] at this
      exact this
end Go.Proofs.YtcfeflkhmncmjaaGreatDoor
