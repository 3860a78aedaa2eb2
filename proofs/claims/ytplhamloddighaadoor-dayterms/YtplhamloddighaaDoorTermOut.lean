/-
  What the text of a term says, plain; the memory of day.ReadTerm.
-/
import Derived.Test.YtplhamloddighaaDoorTermP3
import Derived.Deep.RegionWith
namespace Go.Proofs.YtplhamloddighaaDoor
open Go.RowKit Go.Extern.Stop Go.Stop Go.Extern

noncomputable def unitOf (l : List UInt8) : Int := (unit_ex l).choose
theorem unitOf_spec (l : List UInt8) : -1 ≤ unitOf l ∧ unitOf l ≤ 4 ∧ IsUnit l (unitOf l) := (unit_ex l).choose_spec
noncomputable def rollOf (l : List UInt8) : Int := (roll_ex l).choose
theorem rollOf_spec (l : List UInt8) : (rollOf l = -1 ∨ rollOf l = 1 ∨ rollOf l = 2) ∧ IsRoll l (rollOf l) := (roll_ex l).choose_spec
structure TOut where
  n : Int
  u : Int
  r : Int
  c : Int
  a : Int
noncomputable def uOf (s : ByteArray) : Int := unitOf (bl (s.extract (len0 s + 1) s.size))
noncomputable def eAt (s : ByteArray) : Nat := len0 s + 1 + (wdS (uOf s).toNat).size
noncomputable def rOf (s : ByteArray) : Int := rollOf (bl (s.extract (eAt s + 2) s.size))
noncomputable def fAt (s : ByteArray) : Nat := eAt s + 2 + (rwS (rOf s).toNat).size
noncomputable def tend (s : ByteArray) (r : Int) : TOut := if 100000 < num s then ⟨0, 0, 0, 2, 0⟩ else ⟨num s, uOf s, r, 0, -1⟩
noncomputable def tout (s : ByteArray) : TOut :=
  if len0 s = 0 ∨ atIs s (len0 s) 32 = false then ⟨0, 0, 0, 1, len0 s⟩
  else if uOf s < 0 then ⟨0, 0, 0, 1, (len0 s + 1 : Nat)⟩
  else if eAt s < s.size then
    if atIs s (eAt s) 44 = false then ⟨0, 0, 0, 1, eAt s⟩
    else if atIs s (eAt s + 1) 32 = false then ⟨0, 0, 0, 1, (eAt s + 1 : Nat)⟩
    else if rOf s < 0 then ⟨0, 0, 0, 1, (eAt s + 2 : Nat)⟩
    else if fAt s < s.size then ⟨0, 0, 0, 1, fAt s⟩
    else tend s (rOf s)
  else tend s 0
theorem tout_1 {s : ByteArray} (h : len0 s = 0 ∨ atIs s (len0 s) 32 = false) : tout s = ⟨0, 0, 0, 1, len0 s⟩ := by unfold tout; rw [if_pos h]
theorem tout_2 {s : ByteArray} (h : ¬ (len0 s = 0 ∨ atIs s (len0 s) 32 = false)) (h2 : uOf s < 0) : tout s = ⟨0, 0, 0, 1, (len0 s + 1 : Nat)⟩ := by unfold tout; rw [if_neg h, if_pos h2]
theorem tout_3 {s : ByteArray} (h : ¬ (len0 s = 0 ∨ atIs s (len0 s) 32 = false)) (h2 : 0 ≤ uOf s) (h3 : eAt s < s.size) (h4 : atIs s (eAt s) 44 = false) : tout s = ⟨0, 0, 0, 1, eAt s⟩ := by
  unfold tout; rw [if_neg h, if_neg (by omega), if_pos h3, if_pos h4]
theorem tout_4 {s : ByteArray} (h : ¬ (len0 s = 0 ∨ atIs s (len0 s) 32 = false)) (h2 : 0 ≤ uOf s) (h3 : eAt s < s.size) (h4 : atIs s (eAt s) 44 = true) (h5 : atIs s (eAt s + 1) 32 = false) : tout s = ⟨0, 0, 0, 1, (eAt s + 1 : Nat)⟩ := by
  unfold tout; rw [if_neg h, if_neg (by omega), if_pos h3, if_neg (by rw [h4]; decide), if_pos h5]
theorem tout_5 {s : ByteArray} (h : ¬ (len0 s = 0 ∨ atIs s (len0 s) 32 = false)) (h2 : 0 ≤ uOf s) (h3 : eAt s < s.size) (h4 : atIs s (eAt s) 44 = true) (h5 : atIs s (eAt s + 1) 32 = true) (h6 : rOf s < 0) : tout s = ⟨0, 0, 0, 1, (eAt s + 2 : Nat)⟩ := by
  unfold tout; rw [if_neg h, if_neg (by omega), if_pos h3, if_neg (by rw [h4]; decide), if_neg (by rw [h5]; decide), if_pos h6]
theorem tout_6 {s : ByteArray} (h : ¬ (len0 s = 0 ∨ atIs s (len0 s) 32 = false)) (h2 : 0 ≤ uOf s) (h3 : eAt s < s.size) (h4 : atIs s (eAt s) 44 = true) (h5 : atIs s (eAt s + 1) 32 = true) (h6 : 0 ≤ rOf s) (h7 : fAt s < s.size) : tout s = ⟨0, 0, 0, 1, fAt s⟩ := by
  unfold tout; rw [if_neg h, if_neg (by omega), if_pos h3, if_neg (by rw [h4]; decide), if_neg (by rw [h5]; decide), if_neg (by omega), if_pos h7]
theorem tout_7 {s : ByteArray} (h : ¬ (len0 s = 0 ∨ atIs s (len0 s) 32 = false)) (h2 : 0 ≤ uOf s) (h3 : eAt s < s.size) (h4 : atIs s (eAt s) 44 = true) (h5 : atIs s (eAt s + 1) 32 = true) (h6 : 0 ≤ rOf s) (h7 : s.size ≤ fAt s) : tout s = tend s (rOf s) := by
  unfold tout; rw [if_neg h, if_neg (by omega), if_pos h3, if_neg (by rw [h4]; decide), if_neg (by rw [h5]; decide), if_neg (by omega), if_neg (by omega)]
theorem tout_8 {s : ByteArray} (h : ¬ (len0 s = 0 ∨ atIs s (len0 s) 32 = false)) (h2 : 0 ≤ uOf s) (h3 : s.size ≤ eAt s) : tout s = tend s 0 := by
  unfold tout; rw [if_neg h, if_neg (by omega), if_neg (by omega)]
theorem tend_far {s : ByteArray} (r : Int) (h : 100000 < num s) : tend s r = ⟨0, 0, 0, 2, 0⟩ := by unfold tend; rw [if_pos h]
theorem tend_ok {s : ByteArray} (r : Int) (h : ¬ 100000 < num s) : tend s r = ⟨num s, uOf s, r, 0, -1⟩ := by unfold tend; rw [if_neg h]
theorem wdS_size (u : Nat) : (wdS u).size ≤ 12 := by
  match u with
  | 0 => decide
  | 1 => decide
  | 2 => decide
  | 3 => decide
  | (n + 4) => exact (show (5 : Nat) ≤ 12 by omega)
theorem rwS_size (r : Nat) : (rwS r).size ≤ 6 := by
  match r with
  | 0 => decide
  | 1 => decide
  | (n + 2) => exact (show (6 : Nat) ≤ 6 by omega)
/-- A word that stands there ends no later than the text. -/
theorem pre_le {l w : List UInt8} (h : Lib.hasPrefix l w = true) : w.length ≤ l.length := by
  unfold Lib.hasPrefix at h
  exact (List.isPrefixOf_iff_prefix.1 h).length_le
theorem ext_len (s : ByteArray) (a : Nat) : (bl (s.extract a s.size)).length = s.size - a := by rw [size_bl]; simp [ByteArray.size_extract]
theorem eAt_le {s : ByteArray} (h : 0 ≤ uOf s) (hl : len0 s + 1 ≤ s.size) : eAt s ≤ s.size := by
  obtain ⟨_, h2, h3⟩ := unitOf_spec (bl (s.extract (len0 s + 1) s.size))
  have e : uOf s = unitOf (bl (s.extract (len0 s + 1) s.size)) := rfl
  rw [← e] at h2 h3
  have := h3 (uOf s).toNat (by omega)
  rw [show decide (((uOf s).toNat : Int) = uOf s) = true by simp; omega] at this
  have hp := pre_le this
  rw [ext_len, ← bl_wdS] at hp
  have e2 : (wdS (uOf s).toNat).data.toList.length = (wdS (uOf s).toNat).size := by simp
  unfold eAt
  omega
theorem fAt_le {s : ByteArray} (h : 0 ≤ rOf s) (hl : eAt s + 2 ≤ s.size) : fAt s ≤ s.size := by
  obtain ⟨h2, h3⟩ := rollOf_spec (bl (s.extract (eAt s + 2) s.size))
  have e : rOf s = rollOf (bl (s.extract (eAt s + 2) s.size)) := rfl
  rw [← e] at h2 h3
  have hp : Lib.hasPrefix (bl (s.extract (eAt s + 2) s.size)) (rwL (rOf s).toNat) = true := by
    rcases h2 with k | k | k
    · omega
    · rw [k] at h3 ⊢; exact h3.1
    · rw [k] at h3 ⊢; exact h3.2
  have hp := pre_le hp
  rw [ext_len, ← bl_rwS] at hp
  have e2 : (rwS (rOf s).toNat).data.toList.length = (rwS (rOf s).toNat).size := by simp
  unfold fAt
  omega

/-- The answer's cells, and those of the term that is read. -/
structure TS (w wr : World) (N U R : Int) : Prop where
  r0 : wr.cell? ⟨w.heap.size, 0, none⟩ = some (.int .i64 0)
  r1 : wr.cell? ⟨w.heap.size, 0 + 1, none⟩ = some (.int .i64 0)
  r2 : wr.cell? ⟨w.heap.size, 0 + 2, none⟩ = some (.int .i64 0)
  g0 : wr.frozen? ⟨w.heap.size, 0, none⟩ = false
  g1 : wr.frozen? ⟨w.heap.size, 0 + 1, none⟩ = false
  g2 : wr.frozen? ⟨w.heap.size, 0 + 2, none⟩ = false
  c0 : wr.cell? ⟨w.heap.size + 1, 0, none⟩ = some (.int .i64 N)
  c1 : wr.cell? ⟨w.heap.size + 1, 0 + 1, none⟩ = some (.int .i64 U)
  c2 : wr.cell? ⟨w.heap.size + 1, 0 + 2, none⟩ = some (.int .i64 R)
  f0 : wr.frozen? ⟨w.heap.size + 1, 0, none⟩ = false
  f1 : wr.frozen? ⟨w.heap.size + 1, 0 + 1, none⟩ = false
  f2 : wr.frozen? ⟨w.heap.size + 1, 0 + 2, none⟩ = false
  bel : Below w.heap.size w wr
  lt : w.heap.size + 1 < wr.heap.size
theorem TS.start (w : World) (t u : TypeId) : TS w ((w.alloc (.cells #[.int .i64 0, .int .i64 0, .int .i64 0] t)).alloc (.cells #[.int .i64 0, .int .i64 0, .int .i64 0] u)) 0 0 0 := by
  refine ⟨?_, ?_, ?_, ?_, ?_, ?_, ?_, ?_, ?_, ?_, ?_, ?_, ((Below.refl _ _).alloc (Nat.le_refl _) _).alloc (by simp) _, by simp⟩
  all_goals simp
theorem TS.setU {w wr : World} {N U R : Int} (h : TS w wr N U R) (x : Int) : TS w (wr.setCell ⟨w.heap.size + 1, 0 + 1, none⟩ (.int .i64 x)) N x R := by
  have hne : w.heap.size ≠ w.heap.size + 1 := by omega
  refine ⟨?_, ?_, ?_, by simpa using h.g0, by simpa using h.g1, by simpa using h.g2, ?_, World.cell?_setCell_same _ _ _ h.c1, ?_, by simpa using h.f0, by simpa using h.f1, by simpa using h.f2, h.bel.setCell (Nat.le_succ _) _, by simpa using h.lt⟩
  · rw [World.cell?_setCell_other _ _ _ _ (by intro e; simp at e)]; exact h.r0
  · rw [World.cell?_setCell_other _ _ _ _ (by intro e; simp at e)]; exact h.r1
  · rw [World.cell?_setCell_other _ _ _ _ (by intro e; simp at e)]; exact h.r2
  · rw [World.cell?_setCell_other _ _ _ _ (by intro e; simp at e)]; exact h.c0
  · rw [World.cell?_setCell_other _ _ _ _ (by intro e; simp at e)]; exact h.c2
theorem TS.setN {w wr : World} {N U R : Int} (h : TS w wr N U R) (x : Int) : TS w (wr.setCell ⟨w.heap.size + 1, 0, none⟩ (.int .i64 x)) x U R := by
  have hne : w.heap.size ≠ w.heap.size + 1 := by omega
  refine ⟨?_, ?_, ?_, by simpa using h.g0, by simpa using h.g1, by simpa using h.g2, World.cell?_setCell_same _ _ _ h.c0, ?_, ?_, by simpa using h.f0, by simpa using h.f1, by simpa using h.f2, h.bel.setCell (Nat.le_succ _) _, by simpa using h.lt⟩
  · rw [World.cell?_setCell_other _ _ _ _ (by intro e; simp at e)]; exact h.r0
  · rw [World.cell?_setCell_other _ _ _ _ (by intro e; simp at e)]; exact h.r1
  · rw [World.cell?_setCell_other _ _ _ _ (by intro e; simp at e)]; exact h.r2
  · rw [World.cell?_setCell_other _ _ _ _ (by intro e; simp at e)]; exact h.c1
  · rw [World.cell?_setCell_other _ _ _ _ (by intro e; simp at e)]; exact h.c2
theorem TS.setR {w wr : World} {N U R : Int} (h : TS w wr N U R) (x : Int) : TS w (wr.setCell ⟨w.heap.size + 1, 0 + 2, none⟩ (.int .i64 x)) N U x := by
  have hne : w.heap.size ≠ w.heap.size + 1 := by omega
  refine ⟨?_, ?_, ?_, by simpa using h.g0, by simpa using h.g1, by simpa using h.g2, ?_, ?_, World.cell?_setCell_same _ _ _ h.c2, by simpa using h.f0, by simpa using h.f1, by simpa using h.f2, h.bel.setCell (Nat.le_succ _) _, by simpa using h.lt⟩
  · rw [World.cell?_setCell_other _ _ _ _ (by intro e; simp at e)]; exact h.r0
  · rw [World.cell?_setCell_other _ _ _ _ (by intro e; simp at e)]; exact h.r1
  · rw [World.cell?_setCell_other _ _ _ _ (by intro e; simp at e)]; exact h.r2
  · rw [World.cell?_setCell_other _ _ _ _ (by intro e; simp at e)]; exact h.c0
  · rw [World.cell?_setCell_other _ _ _ _ (by intro e; simp at e)]; exact h.c1
theorem TS.on {w wr wr' : World} {N U R : Int} (h : TS w wr N U R) (hb : Below wr.heap.size wr wr') (hf : ∀ a : Addr, a.block < wr.heap.size → wr'.frozen? a = wr.frozen? a) : TS w wr' N U R := by
  have hl := h.lt
  have l0 : w.heap.size < wr.heap.size := by omega
  refine ⟨(hb.cell (p := ⟨w.heap.size, 0, none⟩) l0).trans h.r0, (hb.cell (p := ⟨w.heap.size, 0 + 1, none⟩) l0).trans h.r1, (hb.cell (p := ⟨w.heap.size, 0 + 2, none⟩) l0).trans h.r2, (hf _ l0).trans h.g0, (hf _ l0).trans h.g1, (hf _ l0).trans h.g2,
    (hb.cell (p := ⟨w.heap.size + 1, 0, none⟩) hl).trans h.c0, (hb.cell (p := ⟨w.heap.size + 1, 0 + 1, none⟩) hl).trans h.c1, (hb.cell (p := ⟨w.heap.size + 1, 0 + 2, none⟩) hl).trans h.c2, (hf _ hl).trans h.f0, (hf _ hl).trans h.f1, (hf _ hl).trans h.f2, h.bel.trans (hb.mono h.bel.size), Nat.lt_of_lt_of_le hl hb.size⟩
theorem rs0 {w : World} {b : Nat} {u : Value} (h : w.cell? ⟨b, 0, none⟩ = some u) (x y z : Value) : (((w.setCell ⟨b, 0, none⟩ x).setCell ⟨b, 1, none⟩ y).setCell ⟨b, 2, none⟩ z).cell? ⟨b, 0, none⟩ = some x := by
  rw [World.cell?_setCell_other _ _ _ _ (by intro e; cases e), World.cell?_setCell_other _ _ _ _ (by intro e; cases e)]
  exact World.cell?_setCell_same _ _ _ h
theorem rs1 {w : World} {b : Nat} {u : Value} (h : w.cell? ⟨b, 0 + 1, none⟩ = some u) (x y z : Value) : (((w.setCell ⟨b, 0, none⟩ x).setCell ⟨b, 1, none⟩ y).setCell ⟨b, 2, none⟩ z).cell? ⟨b, 1, none⟩ = some y := by
  rw [World.cell?_setCell_other _ _ _ _ (by intro e; cases e)]
  exact World.cell?_setCell_same _ _ _ (by rw [World.cell?_setCell_other _ _ _ _ (by intro e; cases e)]; exact h)
theorem rs2 {w : World} {b : Nat} {u : Value} (h : w.cell? ⟨b, 0 + 2, none⟩ = some u) (x y z : Value) : (((w.setCell ⟨b, 0, none⟩ x).setCell ⟨b, 1, none⟩ y).setCell ⟨b, 2, none⟩ z).cell? ⟨b, 2, none⟩ = some z :=
  World.cell?_setCell_same _ _ _ (by rw [World.cell?_setCell_other _ _ _ _ (by intro e; cases e), World.cell?_setCell_other _ _ _ _ (by intro e; cases e)]; exact h)

/-- What a fault that was made anew looks like. -/
def IsTFault (w w' : World) (e : Ending) (pos : Int) (a : Addr) : Prop :=
  ∃ blk : Nat, e = .returned (.tuple #[.agg #[.int .i64 0, .int .i64 0, .int .i64 0], .iface 75 (.pointer (some ⟨blk, 0, none⟩))]) ∧ Below w.heap.size w w' ∧ w.heap.size ≤ blk ∧
    w'.cell? ⟨blk, 0, none⟩ = some (.int .i64 pos) ∧ w'.cell? ⟨blk, 0 + 1, none⟩ = some (.iface 159 (.pointer (some a)))
theorem tfault_mk {w W : World} {N U R pos : Int} {a : Addr} {blk : Nat} (hT : TS w W N U R) (hb : w.heap.size + 2 ≤ blk) (h0 : W.cell? ⟨blk, 0, none⟩ = some (.int .i64 pos)) (h1 : W.cell? ⟨blk, 0 + 1, none⟩ = some (.iface 159 (.pointer (some a)))) (x y z : Value) :
    IsTFault w (((W.setCell ⟨w.heap.size, 0, none⟩ x).setCell ⟨w.heap.size, 1, none⟩ y).setCell ⟨w.heap.size, 2, none⟩ z) (.returned (.tuple #[.agg #[.int .i64 0, .int .i64 0, .int .i64 0], .iface 75 (.pointer (some ⟨blk, 0, none⟩))])) pos a := by
  have hne : w.heap.size ≠ blk := by omega
  refine ⟨blk, rfl, ((hT.bel.setCell (Nat.le_refl _) _).setCell (Nat.le_refl _) _).setCell (Nat.le_refl _) _, by omega, ?_, ?_⟩
  · rw [World.cell?_setCell_other _ _ _ _ (by intro e; injection e with e1; exact hne e1), World.cell?_setCell_other _ _ _ _ (by intro e; injection e with e1; exact hne e1), World.cell?_setCell_other _ _ _ _ (by intro e; injection e with e1; exact hne e1)]; exact h0
  · rw [World.cell?_setCell_other _ _ _ _ (by intro e; injection e with e1; exact hne e1), World.cell?_setCell_other _ _ _ _ (by intro e; injection e with e1; exact hne e1), World.cell?_setCell_other _ _ _ _ (by intro e; injection e with e1; exact hne e1)]; exact h1
/-- What day.ReadTerm answers. -/
def POut (w w' : World) (e : Ending) (o : TOut) (p : Nat → Addr) : Prop :=
  (o.c = 0 ∧ e = .returned (.tuple #[.agg #[.int .i64 o.n, .int .i64 o.u, .int .i64 o.r], .nilIface]) ∧ Below w.heap.size w w') ∨ (∃ k : Nat, k < 11 ∧ o.c = k + 1 ∧ o.n = 0 ∧ o.u = 0 ∧ o.r = 0 ∧ IsTFault w w' e o.a (p k))
theorem pout_text {w w' : World} {e : Ending} {s : ByteArray} {pos : Int} {p : Nat → Addr} (h : tout s = ⟨0, 0, 0, 1, pos⟩) (hf : IsTFault w w' e pos (p 0)) : POut w w' e (tout s) p := by
  rw [h]; exact .inr ⟨0, by omega, rfl, rfl, rfl, rfl, hf⟩
theorem pout_far {w w' : World} {e : Ending} {s : ByteArray} {p : Nat → Addr} (h : tout s = ⟨0, 0, 0, 2, 0⟩) (hf : IsTFault w w' e 0 (p 1)) : POut w w' e (tout s) p := by
  rw [h]; exact .inr ⟨1, by omega, rfl, rfl, rfl, rfl, hf⟩
theorem pout_ok {w w' : World} {e : Ending} {s : ByteArray} {n u r : Int} {p : Nat → Addr} (h : tout s = ⟨n, u, r, 0, -1⟩) (he : e = .returned (.tuple #[.agg #[.int .i64 n, .int .i64 u, .int .i64 r], .nilIface])) (hb : Below w.heap.size w w') : POut w w' e (tout s) p := by
  rw [h]; exact .inl ⟨rfl, he, hb⟩
end Go.Proofs.YtplhamloddighaaDoor
