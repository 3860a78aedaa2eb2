/-
  Theories in memory, as both sides have them. No walk.
-/
import Derived.Test.YtmbclnaenjcocaaGreatDoorRsPl4
namespace Go.Proofs.YtmbclnaenjcocaaGreatDoor
open Go.RowKit

def RRd (w : World) (B : Nat) (v : Value) (l : List Rl) : Prop :=
  ∃ a c, v = .slice a l.length c ∧ l.length ≤ 3518437208883 ∧ ∀ i r, l[i]? = some r → ∃ g o bv, a = some ⟨g, o, none⟩ ∧ g < B ∧ w.cell? ⟨g, o + i * 3, none⟩ = some (.int .i64 r.kind) ∧ w.cell? ⟨g, o + i * 3 + 1, none⟩ = some (.int .i64 r.head) ∧ w.cell? ⟨g, o + i * 3 + 2, none⟩ = some bv ∧ IRd w B bv r.body
def ORd (w : World) (B : Nat) (v : Value) (l : List (Int × Int)) : Prop :=
  ∃ a c, v = .slice a l.length c ∧ l.length ≤ 8796093022208 ∧ ∀ i x, l[i]? = some x → ∃ g o, a = some ⟨g, o, none⟩ ∧ g < B ∧ w.cell? ⟨g, o + i * 2, none⟩ = some (.int .i64 x.1) ∧ w.cell? ⟨g, o + i * 2 + 1, none⟩ = some (.int .i64 x.2)
structure TM (w : World) (B : Nat) (T : Thy) (rv ov : Value) : Prop where
  r : RRd w B rv T.rules
  o : ORd w B ov T.over
  n1 : -9223372036854775808 ≤ T.names
  n2 : T.names ≤ 9223372036854775807
theorem RRd.on {w w' : World} {B : Nat} {v : Value} {l : List Rl} (h : RRd w B v l) (hb : ∀ k, k < B → w'.heap[k]? = w.heap[k]?) : RRd w' B v l := by
  obtain ⟨a, c, e, hl, hx⟩ := h
  refine ⟨a, c, e, hl, fun j x hj => ?_⟩
  obtain ⟨g, o, bv, h1, h2, h3, h4, h5, h6⟩ := hx j x hj
  exact ⟨g, o, bv, h1, h2, (World.cell?_of_block (a := ⟨g, o + j * 3, none⟩) (hb g h2)).trans h3, (World.cell?_of_block (a := ⟨g, o + j * 3 + 1, none⟩) (hb g h2)).trans h4, (World.cell?_of_block (a := ⟨g, o + j * 3 + 2, none⟩) (hb g h2)).trans h5, h6.on hb⟩
theorem ORd.on {w w' : World} {B : Nat} {v : Value} {l : List (Int × Int)} (h : ORd w B v l) (hb : ∀ k, k < B → w'.heap[k]? = w.heap[k]?) : ORd w' B v l := by
  obtain ⟨a, c, e, hl, hx⟩ := h
  refine ⟨a, c, e, hl, fun j x hj => ?_⟩
  obtain ⟨g, o, h1, h2, h3, h4⟩ := hx j x hj
  exact ⟨g, o, h1, h2, (World.cell?_of_block (a := ⟨g, o + j * 2, none⟩) (hb g h2)).trans h3, (World.cell?_of_block (a := ⟨g, o + j * 2 + 1, none⟩) (hb g h2)).trans h4⟩
theorem TM.on {w w' : World} {B : Nat} {T : Thy} {rv ov : Value} (h : TM w B T rv ov) (hb : ∀ k, k < B → w'.heap[k]? = w.heap[k]?) : TM w' B T rv ov := ⟨h.r.on hb, h.o.on hb, h.n1, h.n2⟩
theorem TM.below {w w' : World} {B n : Nat} {T : Thy} {rv ov : Value} (h : TM w B T rv ov) (hb : Below n w w') (hn : B ≤ n) : TM w' B T rv ov := h.on fun k hk => hb.block k (by omega)
theorem TM.chg {w w' : World} {B : Nat} {X : List Nat} {T : Thy} {rv ov : Value} (h : TM w B T rv ov) (hc : Chg X w w') (hB : B ≤ w.heap.size) (hX : ∀ k, k ∈ X → B ≤ k) : TM w' B T rv ov := h.on fun k hk => hc.block k (by omega) fun e => by have := hX k e; omega
theorem RRd.at {w : World} {B n c : Nat} {a : Option Addr} {l : List Rl} (h : RRd w B (.slice a n c) l) {i : Nat} {r : Rl} (hi : l[i]? = some r) : ∃ g o bv, a = some ⟨g, o, none⟩ ∧ g < B ∧ w.cell? ⟨g, o + i * 3, none⟩ = some (.int .i64 r.kind) ∧ w.cell? ⟨g, o + i * 3 + 1, none⟩ = some (.int .i64 r.head) ∧ w.cell? ⟨g, o + i * 3 + 2, none⟩ = some bv ∧ IRd w B bv r.body := by
  obtain ⟨a', c', e, _, hx⟩ := h
  injection e with e1 _ _
  subst e1
  exact hx i r hi
theorem ORd.at {w : World} {B n c : Nat} {a : Option Addr} {l : List (Int × Int)} (h : ORd w B (.slice a n c) l) {i : Nat} {x : Int × Int} (hi : l[i]? = some x) : ∃ g o, a = some ⟨g, o, none⟩ ∧ g < B ∧ w.cell? ⟨g, o + i * 2, none⟩ = some (.int .i64 x.1) ∧ w.cell? ⟨g, o + i * 2 + 1, none⟩ = some (.int .i64 x.2) := by
  obtain ⟨a', c', e, _, hx⟩ := h
  injection e with e1 _ _
  subst e1
  exact hx i x hi
/-- What only some blocks' change leaves of an older world. -/
theorem Chg.narrow {X Y : List Nat} {w W w' : World} (h : Chg X W w') (hb : Below w.heap.size w W) (hx : ∀ k, k ∈ X → k ∈ Y ∨ w.heap.size ≤ k) : Chg Y w w' :=
  ⟨h.os.trans hb.os, h.tape.trans hb.tape, h.output.trans hb.output, Nat.le_trans hb.size h.size, fun k hk hy => by
    rw [h.block k (Nat.lt_of_lt_of_le hk hb.size) (fun e => by rcases hx k e with c | c; exact hy c; omega)]
    exact hb.block k hk⟩
end Go.Proofs.YtmbclnaenjcocaaGreatDoor
