/-
  Literals and rules' standings in memory. No walk.
-/
import Derived.Test.YtmbclnaenjcocaaGreatDoorRsPlain
import Derived.Test.YtmbclnaenjcocaaGreatDoorProg
import Derived.WalkKit
import Derived.Below
import Derived.Outline
import Derived.Laws.OwnMore
import Derived.OneCell
import Derived.Deep.OwnRows
import Derived.Deep.QuietTactic
import Derived.BigQuiet
namespace Go.Proofs.YtmbclnaenjcocaaGreatDoor
open Go.RowKit

theorem hidLL {p : Prop} (h : p) : Hid p := h
theorem retB {a b : Bool} (h : a = b) : Ending.returned (.bool a) = .returned (.bool b) := by rw [h]
theorem retI {k : IntKind} {a b : Int} (h : a = b) : Ending.returned (.int k a) = .returned (.int k b) := by rw [h]
theorem bdrewN {B : Nat} {a w : World} (h : Below B a w) : ∀ n, Below B a (w.drewN n) := fun _ => ⟨h.os, h.tape, h.output, h.size, h.block⟩
theorem cell_lt {w : World} {b i : Nat} {v : Value} (h : w.cell? ⟨b, i, none⟩ = some v) : b < w.heap.size := World.block_lt_of_cell? w ⟨b, i, none⟩ h
/-- Only some blocks have changed, and there may be new ones. -/
structure Chg (X : List Nat) (w w' : World) : Prop where
  os : w'.os = w.os
  tape : w'.tape = w.tape
  output : w'.output = w.output
  size : w.heap.size ≤ w'.heap.size
  block : ∀ k, k < w.heap.size → k ∉ X → w'.heap[k]? = w.heap[k]?
theorem Chg.refl (X : List Nat) (w : World) : Chg X w w := ⟨rfl, rfl, rfl, Nat.le_refl _, fun _ _ _ => rfl⟩
theorem Chg.trans {X : List Nat} {a b c : World} (h : Chg X a b) (k : Chg X b c) : Chg X a c :=
  ⟨k.os.trans h.os, k.tape.trans h.tape, k.output.trans h.output, Nat.le_trans h.size k.size, fun i hi hx => (k.block i (Nat.lt_of_lt_of_le hi h.size) hx).trans (h.block i hi hx)⟩
theorem Chg.mono {X Y : List Nat} {a b : World} (h : Chg X a b) (hs : ∀ k, k ∈ X → k ∈ Y) : Chg Y a b := ⟨h.os, h.tape, h.output, h.size, fun i hi hx => h.block i hi fun e => hx (hs i e)⟩
theorem Chg.drewN {X : List Nat} {a b : World} (h : Chg X a b) (n : Nat) : Chg X a (b.drewN n) := ⟨h.os, h.tape, h.output, h.size, h.block⟩
theorem Chg.drew {X : List Nat} {a b : World} (h : Chg X a b) : Chg X a b.drew := ⟨h.os, h.tape, h.output, h.size, h.block⟩
theorem Chg.of_below {X : List Nat} {a b : World} (h : Below a.heap.size a b) : Chg X a b := ⟨h.os, h.tape, h.output, h.size, fun i hi _ => h.block i hi⟩
theorem Chg.alloc {X : List Nat} {a b : World} (h : Chg X a b) (o : Obj) : Chg X a (b.alloc o) := h.trans (Chg.of_below ((Below.refl _ _).alloc (Nat.le_refl _) o))
theorem Chg.setCell {X : List Nat} {a b : World} (h : Chg X a b) {p : Addr} (hp : p.block ∈ X) (u : Value) : Chg X a (b.setCell p u) :=
  h.trans ⟨rfl, rfl, rfl, by simp, fun k _ hx => Below.heap_setCell _ _ _ _ (fun e => hx (e ▸ hp))⟩
theorem Chg.below {X : List Nat} {B : Nat} {a b : World} (h : Chg X a b) (hB : B ≤ a.heap.size) (hx : ∀ k, k ∈ X → B ≤ k) : Below B a b := ⟨h.os, h.tape, h.output, h.size, fun k hk => h.block k (by omega) fun e => by have := hx k e; omega⟩
theorem Chg.cell {X : List Nat} {a b : World} (h : Chg X a b) {p : Addr} (h1 : p.block < a.heap.size) (h2 : p.block ∉ X) : b.cell? p = a.cell? p := World.cell?_of_block (h.block _ h1 h2)
theorem Chg.frozen {X : List Nat} {a b : World} (h : Chg X a b) {p : Addr} (h1 : p.block < a.heap.size) (h2 : p.block ∉ X) : b.frozen? p = a.frozen? p := World.frozen?_of_block (h.block _ h1 h2)

/-- The place of a literal, and of its opposite. -/
def pl (q : Int) : Nat := if q < 0 then 2 * (q.natAbs - 1) + 1 else 2 * (q.natAbs - 1)
def opp (p : Nat) : Nat := if p % 2 = 0 then p + 1 else p - 1
/-- What stays: names, rules, which are for a literal, in whose bodies it is, which are above. -/
structure Sh where
  N : Nat
  R : Nat
  kd : Nat → Int
  bd : Nat → List Int
  ru : Nat → List Nat
  wi : Nat → List Nat
  ab : Nat → List Nat
/-- What has been shown so far. -/
structure St where
  su : Nat → Int
  ho : Nat → Int
  us : Nat → Int
  uh : Nat → Int
  ns : Nat → Int
  fa : Nat → Int
/-- The slices as they lie in the cells. -/
structure Vs where
  r : Nat → Value
  w : Nat → Value
  a : Nat → Value
  b : Nat → Value
  B : Nat
/-- The literal of a place. -/
def litOf (p : Nat) : Int := if p % 2 = 0 then ((p / 2 + 1 : Nat) : Int) else -((p / 2 + 1 : Nat) : Int)
theorem litOf_pl {q : Int} (h : q ≠ 0) : litOf (pl q) = q := by
  unfold litOf pl
  split <;> split <;> omega
/-- Numbers that can be read at a slice, in blocks below B. -/
def IRd (w : World) (B : Nat) (v : Value) (l : List Int) : Prop :=
  ∃ a c, v = .slice a l.length c ∧ l.length ≤ 17592186044416 ∧ ∀ j x, l[j]? = some x → ∃ g o, a = some ⟨g, o, none⟩ ∧ g < B ∧ w.cell? ⟨g, o + j, none⟩ = some (.int .i64 x)
theorem IRd.on {w w' : World} {B : Nat} {v : Value} {l : List Int} (h : IRd w B v l) (hb : ∀ k, k < B → w'.heap[k]? = w.heap[k]?) : IRd w' B v l := by
  obtain ⟨a, c, e, hl, hx⟩ := h
  refine ⟨a, c, e, hl, fun j x hj => ?_⟩
  obtain ⟨g, o, h1, h2, h3⟩ := hx j x hj
  exact ⟨g, o, h1, h2, (World.cell?_of_block (a := ⟨g, o + j, none⟩) (hb g h2)).trans h3⟩
theorem IRd.mono {w : World} {B B' : Nat} {v : Value} {l : List Int} (h : IRd w B v l) (hB : B ≤ B') : IRd w B' v l := by
  obtain ⟨a, c, e, hl, hx⟩ := h
  refine ⟨a, c, e, hl, fun j x hj => ?_⟩
  obtain ⟨g, o, h1, h2, h3⟩ := hx j x hj
  exact ⟨g, o, h1, by omega, h3⟩
theorem IRd.at {w : World} {B n c : Nat} {a : Option Addr} {l : List Int} (h : IRd w B (.slice a n c) l) {j : Nat} {x : Int} (hj : l[j]? = some x) : ∃ g o, a = some ⟨g, o, none⟩ ∧ g < B ∧ w.cell? ⟨g, o + j, none⟩ = some (.int .i64 x) := by
  obtain ⟨a', c', e, _, hx⟩ := h
  injection e with e1 _ _
  subst e1
  exact hx j x hj
def litF (bL : Nat) (V : Vs) (s : St) (x : Nat) : Value :=
  match x % 6 with
  | 0 => .int .i64 (litOf (x / 6))
  | 1 => .pointer (some ⟨bL, opp (x / 6) * 6, none⟩)
  | 2 => V.r (x / 6)
  | 3 => V.w (x / 6)
  | 4 => .int .i64 (s.su (x / 6))
  | _ => .int .i64 (s.ho (x / 6))
def stF (H : Sh) (V : Vs) (s : St) (x : Nat) : Value :=
  match x % 7 with
  | 0 => .int .i64 (H.kd (x / 7))
  | 1 => V.b (x / 7)
  | 2 => V.a (x / 7)
  | 3 => .int .i64 (s.us (x / 7))
  | 4 => .int .i64 (s.uh (x / 7))
  | 5 => .int .i64 (s.ns (x / 7))
  | _ => .int .i64 (s.fa (x / 7))
/-- A row of pointers to standings. -/
def PRow (w : World) (bR hi R : Nat) (v : Value) (l : List Nat) : Prop :=
  ∃ a c, v = .slice a l.length c ∧ l.length ≤ 100000 ∧ ∀ j i, l[j]? = some i → i < R ∧ ∃ g, a = some ⟨g, 0, none⟩ ∧ bR < g ∧ g < hi ∧ w.cell? ⟨g, j, none⟩ = some (.pointer (some ⟨bR, i * 7, none⟩))
structure Net (w : World) (bL bR hi : Nat) (H : Sh) (V : Vs) (s : St) : Prop where
  lt : bL < bR
  lt2 : bR < hi
  lt3 : hi ≤ w.heap.size
  rowL : w.rowIs bL 97 (2 * H.N * 6) (litF bL V s)
  rowR : w.rowIs bR 124 (H.R * 7) (stF H V s)
  ru : ∀ p, p < 2 * H.N → PRow w bR hi H.R (V.r p) (H.ru p)
  wi : ∀ p, p < 2 * H.N → PRow w bR hi H.R (V.w p) (H.wi p)
  ab : ∀ i, i < H.R → PRow w bR hi H.R (V.a i) (H.ab i)
  bd : ∀ i, i < H.R → IRd w V.B (V.b i) (H.bd i) ∧ (H.bd i).length ≤ 120
  lt0 : V.B ≤ bL
theorem PRow.on {w w' : World} {bR hi R : Nat} {v : Value} {l : List Nat} (h : PRow w bR hi R v l) (hb : ∀ k, bR < k → k < hi → w'.heap[k]? = w.heap[k]?) : PRow w' bR hi R v l := by
  obtain ⟨a, c, e, hl, hx⟩ := h
  refine ⟨a, c, e, hl, fun j i hj => ?_⟩
  obtain ⟨h1, g, h2, h3, h4, h5⟩ := hx j i hj
  exact ⟨h1, g, h2, h3, h4, (World.cell?_of_block (a := ⟨g, j, none⟩) (hb g h3 h4)).trans h5⟩
theorem Net.on {w w' : World} {bL bR hi : Nat} {H : Sh} {V : Vs} {s : St} (h : Net w bL bR hi H V s) (hs : w.heap.size ≤ w'.heap.size) (hb0 : ∀ k, k < V.B → w'.heap[k]? = w.heap[k]?) (hb : ∀ k, bL ≤ k → k < hi → w'.heap[k]? = w.heap[k]?) : Net w' bL bR hi H V s := by
  have h1 := h.lt
  have h2 := h.lt2
  have hb' : ∀ k, bR < k → k < hi → w'.heap[k]? = w.heap[k]? := fun k a b => hb k (by omega) b
  exact ⟨h.lt, h.lt2, Nat.le_trans h.lt3 hs, h.rowL.of_block (hb bL (by omega) (by omega)), h.rowR.of_block (hb bR (by omega) (by omega)), fun p hp => (h.ru p hp).on hb', fun p hp => (h.wi p hp).on hb', fun p hp => (h.ab p hp).on hb', fun i hi => ⟨(h.bd i hi).1.on hb0, (h.bd i hi).2⟩, h.lt0⟩
theorem Net.chg {w w' : World} {bL bR hi : Nat} {H : Sh} {V : Vs} {s : St} {X : List Nat} (h : Net w bL bR hi H V s) (hc : Chg X w w') (hx : ∀ k, k ∈ X → V.B ≤ k ∧ (k < bL ∨ hi ≤ k)) : Net w' bL bR hi H V s := by
  have h0 := h.lt0
  have h1 := h.lt
  have h2 := h.lt2
  have h3 := h.lt3
  exact h.on hc.size (fun k hk => hc.block k (by omega) fun e => by have := hx k e; omega) fun k a b => hc.block k (by omega) fun e => by have := hx k e; omega
theorem Net.grown {w w' : World} {bL bR hi : Nat} {H : Sh} {V : Vs} {s : St} (h : Net w bL bR hi H V s) (hc : Below w.heap.size w w') : Net w' bL bR hi H V s :=
  h.on hc.size (fun k h2 => hc.block k (by have := h.lt3; have := h.lt2; have := h.lt; have := h.lt0; omega)) fun k _ h2 => hc.block k (by have := h.lt3; omega)
theorem Net.alloc {w : World} {bL bR hi : Nat} {H : Sh} {V : Vs} {s : St} (h : Net w bL bR hi H V s) (o : Obj) : Net (w.alloc o) bL bR hi H V s := h.grown ((Below.refl _ _).alloc (Nat.le_refl _) o)
theorem Net.drewN {w : World} {bL bR hi : Nat} {H : Sh} {V : Vs} {s : St} (h : Net w bL bR hi H V s) (n : Nat) : Net (w.drewN n) bL bR hi H V s := h.on (Nat.le_refl _) (fun _ _ => rfl) fun _ _ _ => rfl
/-- A literal's cells. -/
theorem Net.lit {w : World} {bL bR hi : Nat} {H : Sh} {V : Vs} {s : St} (h : Net w bL bR hi H V s) {p : Nat} (hp : p < 2 * H.N) :
    w.cell? ⟨bL, p * 6, none⟩ = some (.int .i64 (litOf p)) ∧ w.cell? ⟨bL, p * 6 + 1, none⟩ = some (.pointer (some ⟨bL, opp p * 6, none⟩)) ∧ w.cell? ⟨bL, p * 6 + 2, none⟩ = some (V.r p) ∧ w.cell? ⟨bL, p * 6 + 3, none⟩ = some (V.w p) ∧ w.cell? ⟨bL, p * 6 + 4, none⟩ = some (.int .i64 (s.su p)) ∧ w.cell? ⟨bL, p * 6 + 5, none⟩ = some (.int .i64 (s.ho p)) ∧ (∀ c, w.frozen? ⟨bL, c, none⟩ = false) := by
  have hq := h.rowL
  refine ⟨?_, ?_, ?_, ?_, ?_, ?_, fun c => hq.frozen c⟩
  · rw [hq.cell (by omega)]; unfold litF; rw [show p * 6 % 6 = 0 by omega, show p * 6 / 6 = p by omega]; try rfl
  · rw [hq.cell (by omega)]; unfold litF; rw [show (p * 6 + 1) % 6 = 1 by omega, show (p * 6 + 1) / 6 = p by omega]; try rfl
  · rw [hq.cell (by omega)]; unfold litF; rw [show (p * 6 + 2) % 6 = 2 by omega, show (p * 6 + 2) / 6 = p by omega]; try rfl
  · rw [hq.cell (by omega)]; unfold litF; rw [show (p * 6 + 3) % 6 = 3 by omega, show (p * 6 + 3) / 6 = p by omega]; try rfl
  · rw [hq.cell (by omega)]; unfold litF; rw [show (p * 6 + 4) % 6 = 4 by omega, show (p * 6 + 4) / 6 = p by omega]; try rfl
  · rw [hq.cell (by omega)]; unfold litF; rw [show (p * 6 + 5) % 6 = 5 by omega, show (p * 6 + 5) / 6 = p by omega]; try rfl
/-- A standing's cells. -/
theorem Net.std {w : World} {bL bR hi : Nat} {H : Sh} {V : Vs} {s : St} (h : Net w bL bR hi H V s) {i : Nat} (hp : i < H.R) :
    w.cell? ⟨bR, i * 7, none⟩ = some (.int .i64 (H.kd i)) ∧ w.cell? ⟨bR, i * 7 + 1, none⟩ = some (V.b i) ∧ w.cell? ⟨bR, i * 7 + 2, none⟩ = some (V.a i) ∧ w.cell? ⟨bR, i * 7 + 3, none⟩ = some (.int .i64 (s.us i)) ∧ w.cell? ⟨bR, i * 7 + 4, none⟩ = some (.int .i64 (s.uh i)) ∧ w.cell? ⟨bR, i * 7 + 5, none⟩ = some (.int .i64 (s.ns i)) ∧ w.cell? ⟨bR, i * 7 + 6, none⟩ = some (.int .i64 (s.fa i)) ∧ (∀ c, w.frozen? ⟨bR, c, none⟩ = false) := by
  have hq := h.rowR
  refine ⟨?_, ?_, ?_, ?_, ?_, ?_, ?_, fun c => hq.frozen c⟩
  · rw [hq.cell (by omega)]; unfold stF; rw [show i * 7 % 7 = 0 by omega, show i * 7 / 7 = i by omega]; try rfl
  · rw [hq.cell (by omega)]; unfold stF; rw [show (i * 7 + 1) % 7 = 1 by omega, show (i * 7 + 1) / 7 = i by omega]; try rfl
  · rw [hq.cell (by omega)]; unfold stF; rw [show (i * 7 + 2) % 7 = 2 by omega, show (i * 7 + 2) / 7 = i by omega]; try rfl
  · rw [hq.cell (by omega)]; unfold stF; rw [show (i * 7 + 3) % 7 = 3 by omega, show (i * 7 + 3) / 7 = i by omega]; try rfl
  · rw [hq.cell (by omega)]; unfold stF; rw [show (i * 7 + 4) % 7 = 4 by omega, show (i * 7 + 4) / 7 = i by omega]; try rfl
  · rw [hq.cell (by omega)]; unfold stF; rw [show (i * 7 + 5) % 7 = 5 by omega, show (i * 7 + 5) / 7 = i by omega]; try rfl
  · rw [hq.cell (by omega)]; unfold stF; rw [show (i * 7 + 6) % 7 = 6 by omega, show (i * 7 + 6) / 7 = i by omega]; try rfl
def upd {α : Type} (f : Nat → α) (i : Nat) (v : α) : Nat → α := fun j => if j = i then v else f j
theorem Net.setL {w : World} {bL bR hi : Nat} {H : Sh} {V : Vs} {s s' : St} (h : Net w bL bR hi H V s) (o : Nat) (v : Value) (he : ∀ x, x < 2 * H.N * 6 → (if x = o then v else litF bL V s x) = litF bL V s' x) (hR : ∀ x, stF H V s x = stF H V s' x) : Net (w.setCell ⟨bL, o, none⟩ v) bL bR hi H V s' := by
  have h1 := h.lt
  have h2 := h.lt2
  have hb : ∀ k, bR < k → k < hi → (w.setCell ⟨bL, o, none⟩ v).heap[k]? = w.heap[k]? := fun k a b => Below.heap_setCell _ _ _ _ (by show k ≠ bL; omega)
  exact ⟨h.lt, h.lt2, by have := h.lt3; simp; exact this, (h.rowL.set o v).congr he, (h.rowR.setOther (by show bR ≠ bL; omega) v).congr fun x _ => hR x, fun p hp => (h.ru p hp).on hb, fun p hp => (h.wi p hp).on hb, fun p hp => (h.ab p hp).on hb, fun i hi => ⟨(h.bd i hi).1.on fun k hk => Below.heap_setCell _ _ _ _ (by show k ≠ bL; have := h.lt0; omega), (h.bd i hi).2⟩, h.lt0⟩
theorem Net.setR {w : World} {bL bR hi : Nat} {H : Sh} {V : Vs} {s s' : St} (h : Net w bL bR hi H V s) (o : Nat) (v : Value) (he : ∀ x, x < H.R * 7 → (if x = o then v else stF H V s x) = stF H V s' x) (hR : ∀ x, litF bL V s x = litF bL V s' x) : Net (w.setCell ⟨bR, o, none⟩ v) bL bR hi H V s' := by
  have h1 := h.lt
  have h2 := h.lt2
  have hb : ∀ k, bR < k → k < hi → (w.setCell ⟨bR, o, none⟩ v).heap[k]? = w.heap[k]? := fun k a b => Below.heap_setCell _ _ _ _ (by show k ≠ bR; omega)
  exact ⟨h.lt, h.lt2, by have := h.lt3; simp; exact this, (h.rowL.setOther (by show bL ≠ bR; omega) v).congr fun x _ => hR x, (h.rowR.set o v).congr he, fun p hp => (h.ru p hp).on hb, fun p hp => (h.wi p hp).on hb, fun p hp => (h.ab p hp).on hb, fun i hi => ⟨(h.bd i hi).1.on fun k hk => Below.heap_setCell _ _ _ _ (by show k ≠ bR; have := h.lt0; omega), (h.bd i hi).2⟩, h.lt0⟩
theorem litF_su (bL : Nat) (V : Vs) (s : St) (p : Nat) (v : Int) (x : Nat) : (if x = p * 6 + 4 then .int .i64 v else litF bL V s x) = litF bL V { s with su := upd s.su p v } x := by
  unfold litF upd
  by_cases e : x = p * 6 + 4
  · subst e
    rw [if_pos rfl, show (p * 6 + 4) % 6 = 4 by omega, show (p * 6 + 4) / 6 = p by omega]
    simp
  · rw [if_neg e]
    have h5 : x % 6 < 6 := Nat.mod_lt _ (by omega)
    match hm : x % 6, h5 with
    | 0, _ => rfl
    | 1, _ => rfl
    | 2, _ => rfl
    | 3, _ => rfl
    | 4, _ => simp only; rw [if_neg (by omega)]
    | 5, _ => rfl
theorem litF_ho (bL : Nat) (V : Vs) (s : St) (p : Nat) (v : Int) (x : Nat) : (if x = p * 6 + 5 then .int .i64 v else litF bL V s x) = litF bL V { s with ho := upd s.ho p v } x := by
  unfold litF upd
  by_cases e : x = p * 6 + 5
  · subst e
    rw [if_pos rfl, show (p * 6 + 5) % 6 = 5 by omega, show (p * 6 + 5) / 6 = p by omega]
    simp
  · rw [if_neg e]
    have h5 : x % 6 < 6 := Nat.mod_lt _ (by omega)
    match hm : x % 6, h5 with
    | 0, _ => rfl
    | 1, _ => rfl
    | 2, _ => rfl
    | 3, _ => rfl
    | 4, _ => rfl
    | 5, _ => simp only; rw [if_neg (by omega)]
theorem stF_us (H : Sh) (V : Vs) (s : St) (i : Nat) (v : Int) (x : Nat) : (if x = i * 7 + 3 then .int .i64 v else stF H V s x) = stF H V { s with us := upd s.us i v } x := by
  unfold stF upd
  by_cases e : x = i * 7 + 3
  · subst e
    rw [if_pos rfl, show (i * 7 + 3) % 7 = 3 by omega, show (i * 7 + 3) / 7 = i by omega]
    simp
  · rw [if_neg e]
    have h5 : x % 7 < 7 := Nat.mod_lt _ (by omega)
    match hm : x % 7, h5 with
    | 0, _ => rfl
    | 1, _ => rfl
    | 2, _ => rfl
    | 3, _ => simp only; rw [if_neg (by omega)]
    | 4, _ => rfl
    | 5, _ => rfl
    | 6, _ => rfl
theorem stF_uh (H : Sh) (V : Vs) (s : St) (i : Nat) (v : Int) (x : Nat) : (if x = i * 7 + 4 then .int .i64 v else stF H V s x) = stF H V { s with uh := upd s.uh i v } x := by
  unfold stF upd
  by_cases e : x = i * 7 + 4
  · subst e
    rw [if_pos rfl, show (i * 7 + 4) % 7 = 4 by omega, show (i * 7 + 4) / 7 = i by omega]
    simp
  · rw [if_neg e]
    have h5 : x % 7 < 7 := Nat.mod_lt _ (by omega)
    match hm : x % 7, h5 with
    | 0, _ => rfl
    | 1, _ => rfl
    | 2, _ => rfl
    | 3, _ => rfl
    | 4, _ => simp only; rw [if_neg (by omega)]
    | 5, _ => rfl
    | 6, _ => rfl
theorem stF_ns (H : Sh) (V : Vs) (s : St) (i : Nat) (v : Int) (x : Nat) : (if x = i * 7 + 5 then .int .i64 v else stF H V s x) = stF H V { s with ns := upd s.ns i v } x := by
  unfold stF upd
  by_cases e : x = i * 7 + 5
  · subst e
    rw [if_pos rfl, show (i * 7 + 5) % 7 = 5 by omega, show (i * 7 + 5) / 7 = i by omega]
    simp
  · rw [if_neg e]
    have h5 : x % 7 < 7 := Nat.mod_lt _ (by omega)
    match hm : x % 7, h5 with
    | 0, _ => rfl
    | 1, _ => rfl
    | 2, _ => rfl
    | 3, _ => rfl
    | 4, _ => rfl
    | 5, _ => simp only; rw [if_neg (by omega)]
    | 6, _ => rfl
theorem stF_fa (H : Sh) (V : Vs) (s : St) (i : Nat) (v : Int) (x : Nat) : (if x = i * 7 + 6 then .int .i64 v else stF H V s x) = stF H V { s with fa := upd s.fa i v } x := by
  unfold stF upd
  by_cases e : x = i * 7 + 6
  · subst e
    rw [if_pos rfl, show (i * 7 + 6) % 7 = 6 by omega, show (i * 7 + 6) / 7 = i by omega]
    simp
  · rw [if_neg e]
    have h5 : x % 7 < 7 := Nat.mod_lt _ (by omega)
    match hm : x % 7, h5 with
    | 0, _ => rfl
    | 1, _ => rfl
    | 2, _ => rfl
    | 3, _ => rfl
    | 4, _ => rfl
    | 5, _ => rfl
    | 6, _ => simp only; rw [if_neg (by omega)]
end Go.Proofs.YtmbclnaenjcocaaGreatDoor
