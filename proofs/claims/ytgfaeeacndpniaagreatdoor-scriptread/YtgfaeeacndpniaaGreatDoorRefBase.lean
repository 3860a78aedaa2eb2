/-
  The reference's law in memory: the way inwards. No walk.
-/
import Derived.Test.YtgfaeeacndpniaaGreatDoorMemBase
namespace Go.Proofs.YtgfaeeacndpniaaGreatDoor
open Go.RowKit Go.Extern.Stop Go.Stop Go.Extern

/-- An item on the way: its rows are its own; of its kids those that are shut. -/
structure OnWay (B : Nat) (w : World) (own : Nat → Nat) (j : Nat) (v : Nat → Value) (t : It) (K : Nat → Nat → Value) (m : Nat) : Prop where
  l0 : v 0 = .string t.label
  l1 : v 1 = .string t.head
  ln : w.ownsRow B 9 1 (v 2) t.lines.length (t.lines.map Value.string)
  lo : ∀ g, (v 2).ownBlock = some g → own g = 3 * j + 2
  kd : w.ownsRow B 26 4 (v 3) m (flat4 K m)
  ko : ∀ g, (v 3).ownBlock = some g → own g = 3 * j + 1
  kl : ∀ i k, t.kids[i]? = some k → Lies w (fun b => own b = 3 * j + 3) (K i) k
theorem OnWay.step {B : Nat} {w w' : World} {own own' : Nat → Nat} {j : Nat} {v : Nat → Value} {t : It} {K : Nat → Nat → Value} {m : Nat} (h : OnWay B w own j v t K m)
    (hk : ∀ k, k < w.heap.size → 3 * j + 1 ≤ own k → own k ≤ 3 * j + 3 → w'.heap[k]? = w.heap[k]? ∧ own' k = own k) : OnWay B w' own' j v t K m where
  l0 := h.l0
  l1 := h.l1
  ln := row_step h.ln fun g hg hl => (hk g hl (by rw [h.lo g hg]; omega) (by rw [h.lo g hg]; omega)).1
  lo := fun g hg => by have e := h.lo g hg; rw [(hk g (h.ln.lt g hg).2 (by omega) (by omega)).2, e]
  kd := row_step h.kd fun g hg hl => (hk g hl (by rw [h.ko g hg]; omega) (by rw [h.ko g hg]; omega)).1
  ko := fun g hg => by have e := h.ko g hg; rw [(hk g (h.kd.lt g hg).2 (by omega) (by omega)).2, e]
  kl := fun i k e => (h.kl i k e).step fun b hb hp => ⟨(hk b hb (by omega) (by omega)).1, by rw [(hk b hb (by omega) (by omega)).2, hp]⟩
/-- The law with the way inwards. -/
inductive Path (B : Nat) (w : World) (own : Nat → Nat) : Nat → List It → (Nat → Value) → Prop
  | one (j : Nat) (a : It) (v : Nat → Value) (K : Nat → Nat → Value) (h : OnWay B w own j v a K a.kids.length) : Path B w own j [a] v
  | more (j : Nat) (a b : It) (r : List It) (v : Nat → Value) (K : Nat → Nat → Value) (h : OnWay B w own j v a K (a.kids.length + 1)) (hp : Path B w own (j + 1) (b :: r) (K a.kids.length)) : Path B w own j (a :: b :: r) v
theorem Path.step {B : Nat} {w w' : World} {own own' : Nat → Nat} {j : Nat} {z : List It} {v : Nat → Value} (h : Path B w own j z v) :
    (∀ k, k < w.heap.size → 3 * j + 1 ≤ own k → w'.heap[k]? = w.heap[k]? ∧ own' k = own k) → Path B w' own' j z v := by
  induction h with
  | one j a v K h => intro hk; exact .one j a v K (h.step fun k h1 h2 _ => hk k h1 h2)
  | more j a b r v K h hp ih => intro hk; exact .more j a b r v K (h.step fun k h1 h2 _ => hk k h1 h2) (ih fun k h1 h2 => hk k h1 (by omega))
theorem Path.bel {B : Nat} {w w' : World} {own : Nat → Nat} {j : Nat} {z : List It} {v : Nat → Value} (h : Path B w own j z v) (hb : Below w.heap.size w w') : Path B w' own j z v := h.step fun k h1 _ => ⟨hb.block k h1, rfl⟩
theorem onWay_lies {B : Nat} {w : World} {own : Nat → Nat} {j : Nat} {v : Nat → Value} {a t : It} {K : Nat → Nat → Value} {m : Nat} (h : OnWay B w own j v a K m) (e0 : t.label = a.label) (e1 : t.head = a.head) (e2 : t.lines = a.lines) (hm : t.kids.length = m)
    (hr : ∀ i k, t.kids[i]? = some k → Lies w (fun b => 3 * j + 1 ≤ own b) (K i) k) : Lies w (fun b => 3 * j + 1 ≤ own b) v t := by
  obtain ⟨la, lc, el⟩ := row_any h.ln
  obtain ⟨ka, kc, ek⟩ := row_any h.kd
  refine .mk v t la ka lc kc K (by rw [e0]; exact h.l0) (by rw [e1]; exact h.l1) (by rw [e2]; exact el) (by rw [hm]; exact ek) (fun i s hs => ?_) (fun i hi => ?_) hr (by have h9 := h.ln; rw [el] at h9; rw [e2]; exact row_cap h9) (by have h9 := h.kd; rw [ek] at h9; rw [hm]; exact row_cap h9)
  · rw [e2] at hs
    obtain ⟨hi, _⟩ := List.getElem?_eq_some_iff.1 hs
    obtain ⟨g, cap, e, hg, hb⟩ := row_form h.ln (by omega)
    rw [el] at e
    injection e with e1 e2 e3
    have ho := h.lo g (by rw [el, e1]; rfl)
    refine ⟨g, 0, e1, by omega, ?_⟩
    have hln := h.ln
    rw [el, e1] at hln
    have := hln.cellAt i (by omega)
    simpa [hs] using this
  · obtain ⟨g, cap, e, hg, hb⟩ := row_form h.kd (by omega)
    rw [ek] at e
    injection e with e1 e2 e3
    have ho := h.ko g (by rw [ek, e1]; rfl)
    refine ⟨g, 0, e1, by omega, fun c hc => ?_⟩
    have hkd := h.kd
    rw [ek, e1] at hkd
    have := hkd.cellAt (i * 4 + c) (by omega)
    rw [flat4_get _ _ _ _ (by omega) hc] at this
    simpa using this
theorem Path.lies {B : Nat} {w : World} {own : Nat → Nat} {j : Nat} {z : List It} {v : Nat → Value} (h : Path B w own j z v) : Lies w (fun b => 3 * j + 1 ≤ own b) v (closeAll z) := by
  induction h with
  | one j a v K h => rw [closeAll_one]; exact onWay_lies h rfl rfl rfl rfl fun i k e => (h.kl i k e).step fun b _ hp => ⟨rfl, by omega⟩
  | more j a b r v K h hp ih =>
    rw [closeAll_two]
    refine onWay_lies h rfl rfl rfl (by show (a.kids ++ [_]).length = _; simp) fun i k e => ?_
    have e : (a.kids ++ [closeAll (b :: r)])[i]? = some k := e
    rcases Nat.lt_or_ge i a.kids.length with hq | hq
    · rw [List.getElem?_append_left hq] at e
      exact (h.kl i k e).step fun b _ hp => ⟨rfl, by omega⟩
    · have hq2 : i = a.kids.length := by
        obtain ⟨hi, _⟩ := List.getElem?_eq_some_iff.1 e
        simp at hi; omega
      subst hq2
      rw [List.getElem?_append_right (Nat.le_refl _)] at e
      simp at e
      subst e
      exact ih.step fun b _ hp => ⟨rfl, by omega⟩
/-- Owners, if what is further in than the k-th is shut. -/
def shutOwn (own : Nat → Nat) (k : Nat) : Nat → Nat := fun b => if 3 * k + 3 ≤ own b then 3 * k + 3 else own b
theorem Path.shut {B : Nat} {w : World} {own : Nat → Nat} {j : Nat} {z : List It} {v : Nat → Value} (h : Path B w own j z v) : ∀ k, k < z.length → Path B w (shutOwn own (j + k)) j (shutB k z) v := by
  induction h with
  | one j a v K h =>
    intro k hk
    have : k = 0 := by simp at hk; exact hk
    subst this
    rw [shutB_last (by rfl)]
    exact .one j a v K (h.step fun b hb h1 h2 => ⟨rfl, by unfold shutOwn; split <;> omega⟩)
  | more j a b r v K h hp ih =>
    intro k hk
    cases k with
    | zero =>
      have e : shutB 0 (a :: b :: r) = [a.addKid (closeAll (b :: r))] := by unfold shutB; simp [closeAll_two]
      rw [e]
      have e2 : (a.addKid (closeAll (b :: r))).kids.length = a.kids.length + 1 := by show (a.kids ++ [_]).length = _; simp
      refine .one j _ v K ⟨h.l0, h.l1, h.ln, fun g hg => ?_, ?_, fun g hg => ?_, fun i k e => ?_⟩
      · have := h.lo g hg; unfold shutOwn; rw [if_neg (by omega)]; exact this
      · rw [e2]; exact h.kd
      · have := h.ko g hg; unfold shutOwn; rw [if_neg (by omega)]; exact this
      · have e : (a.kids ++ [closeAll (b :: r)])[i]? = some k := e
        rcases Nat.lt_or_ge i a.kids.length with hq | hq
        · rw [List.getElem?_append_left hq] at e
          exact (h.kl i k e).step fun c _ hp => ⟨rfl, by unfold shutOwn; rw [if_pos (by omega)]; omega⟩
        · have hq2 : i = a.kids.length := by
            obtain ⟨hi, _⟩ := List.getElem?_eq_some_iff.1 e
            simp at hi; omega
          subst hq2
          rw [List.getElem?_append_right (Nat.le_refl _)] at e
          simp at e
          subst e
          exact hp.lies.step fun c _ hp => ⟨rfl, by unfold shutOwn; rw [if_pos (by omega)]; omega⟩
    | succ k =>
      have hk' : k < (b :: r).length := by simp at hk ⊢; omega
      have e : shutB (k + 1) (a :: b :: r) = a :: shutB k (b :: r) := by unfold shutB; simp
      obtain ⟨c, q, hcq⟩ : ∃ c q, shutB k (b :: r) = c :: q := by
        cases hs : shutB k (b :: r) with
        | nil => have := shutB_len hk'; rw [hs] at this; simp at this
        | cons c q => exact ⟨c, q, rfl⟩
      have := ih k hk'
      rw [hcq] at this
      rw [e, hcq]
      refine .more j a c q v K (h.step fun b hb h1 h2 => ⟨rfl, by unfold shutOwn; split <;> omega⟩) ?_
      rw [show j + (k + 1) = j + 1 + k by omega]
      exact this
/-- The way inwards. -/
def wayOf : List It → List Nat
  | a :: b :: r => a.kids.length :: wayOf (b :: r)
  | _ => []
theorem wayOf_len : ∀ z : List It, (wayOf z).length = z.length - 1
  | [] => rfl
  | [_] => rfl
  | a :: b :: r => by
    have := wayOf_len (b :: r)
    rw [wayOf]
    simp only [List.length_cons] at this ⊢
    omega
theorem wayOf_shut : ∀ (z : List It) (k : Nat), k < z.length → wayOf (shutB k z) = (wayOf z).take k
  | [], k, h => by simp at h
  | [a], k, h => by
    have : k = 0 := by simp at h; exact h
    subst this
    rw [shutB_last (by rfl)]; rfl
  | a :: b :: r, 0, h => by
    have e : shutB 0 (a :: b :: r) = [a.addKid (closeAll (b :: r))] := by unfold shutB; simp [closeAll_two]
    rw [e]; rfl
  | a :: b :: r, k + 1, h => by
    have hk' : k < (b :: r).length := by simp at h ⊢; omega
    have e : shutB (k + 1) (a :: b :: r) = a :: shutB k (b :: r) := by unfold shutB; simp
    have ih := wayOf_shut (b :: r) k hk'
    obtain ⟨c, q, hcq⟩ : ∃ c q, shutB k (b :: r) = c :: q := by
      cases hs : shutB k (b :: r) with
      | nil => have := shutB_len hk'; rw [hs] at this; simp at this
      | cons c q => exact ⟨c, q, rfl⟩
    rw [hcq] at ih
    rw [e, hcq, wayOf, ih, wayOf]; rfl
theorem wayOf_push : ∀ (z : List It) (t : It), 0 < z.length → wayOf (z ++ [t]) = wayOf z ++ [(closeAll (z.drop (z.length - 1))).kids.length]
  | [], t, h => by simp at h
  | [a], t, h => by simp [wayOf, closeAll_one]
  | a :: b :: r, t, h => by
    have ih := wayOf_push (b :: r) t (by simp)
    have e : (a :: b :: r) ++ [t] = a :: b :: (r ++ [t]) := rfl
    rw [e, wayOf, wayOf]
    have e2 : b :: (r ++ [t]) = (b :: r) ++ [t] := rfl
    rw [e2, ih]
    simp
theorem wayOf_set : ∀ (z : List It) (s : ByteArray) (t : It), z[z.length - 1]? = some t → wayOf (z.set (z.length - 1) (t.addLine s)) = wayOf z
  | [], s, t, h => rfl
  | [a], s, t, h => rfl
  | [a, b], s, t, h => rfl
  | a :: b :: c :: r, s, t, h => by
    have ih := wayOf_set (b :: c :: r) s t (by simpa using h)
    have e : (a :: b :: c :: r).set ((a :: b :: c :: r).length - 1) (t.addLine s) = a :: b :: ((c :: r).set ((c :: r).length - 1) (t.addLine s)) := by simp
    have e2 : (b :: c :: r).set ((b :: c :: r).length - 1) (t.addLine s) = b :: ((c :: r).set ((c :: r).length - 1) (t.addLine s)) := by simp
    rw [e2] at ih
    rw [e, wayOf, ih]
    exact (wayOf.eq_1 a b (c :: r)).symm
end Go.Proofs.YtgfaeeacndpniaaGreatDoor
namespace Go.Proofs.YtgfaeeacndpniaaGreatDoor
open Go.RowKit Go.Extern.Stop Go.Stop Go.Extern

/-- What is owned further out than the j-th is as it was. -/
structure Kept (j : Nat) (w : World) (own : Nat → Nat) (w' : World) (own' : Nat → Nat) : Prop where
  blk : ∀ k, k < w.heap.size → own k < 3 * j + 1 → w'.heap[k]? = w.heap[k]?
  own : ∀ k, k < w.heap.size → own k < 3 * j + 1 → own' k = own k
  size : w.heap.size ≤ w'.heap.size
/-- Owners: a new block; what else is new belongs to nobody. -/
def newOwn (own : Nat → Nat) (n b c : Nat) : Nat → Nat := fun k => if k = b then c else if k < n then own k else 0
theorem newOwn_at (own : Nat → Nat) (n b c : Nat) : newOwn own n b c b = c := by unfold newOwn; rw [if_pos rfl]
theorem newOwn_lt (own : Nat → Nat) {n b c k : Nat} (h : k < n) (hb : n ≤ b) : newOwn own n b c k = own k := by unfold newOwn; rw [if_neg (by omega), if_pos h]
theorem newOwn_ge (own : Nat → Nat) {n b c k : Nat} (h : n ≤ k) (hb : k ≠ b) : newOwn own n b c k = 0 := by unfold newOwn; rw [if_neg hb, if_neg (by omega)]
/-- A value with another third or fourth cell. -/
def putC (v : Nat → Value) (c : Nat) (u : Value) : Nat → Value := fun i => if i = c then u else v i
theorem putC_at (v : Nat → Value) (c : Nat) (u : Value) : putC v c u c = u := by unfold putC; rw [if_pos rfl]
theorem putC_ne (v : Nat → Value) {c i : Nat} (u : Value) (h : i ≠ c) : putC v c u i = v i := by unfold putC; rw [if_neg h]
theorem Path.off {B : Nat} {w : World} {own : Nat → Nat} {j : Nat} {z : List It} {v : Nat → Value} (h : Path B w own j z v) (a : Addr) (u : Value) (ha : own a.block = 0) : Path B (w.setCell a u) own j z v :=
  h.step fun k _ h1 => ⟨Below.heap_setCell _ _ _ _ (by rintro rfl; omega), rfl⟩
theorem Kept.off {j : Nat} {w w' : World} {own own' : Nat → Nat} (h : Kept j w own w' own') (a : Addr) (u : Value) (ha : w.heap.size ≤ a.block) : Kept j w own (w'.setCell a u) own' :=
  ⟨fun k h1 h2 => by rw [Below.heap_setCell _ _ _ _ (by omega)]; exact h.blk k h1 h2, h.own, by have := h.size; simp; exact this⟩
theorem Kept.bel {j : Nat} {w w' w2 : World} {own own' : Nat → Nat} (h : Kept j w own w' own') (hb : Below w'.heap.size w' w2) : Kept j w own w2 own' :=
  ⟨fun k h1 h2 => by rw [hb.block k (by have := h.size; omega)]; exact h.blk k h1 h2, h.own, by have := h.size; have := hb.size; omega⟩
section
variable {B : Nat} {w W1 W2 : World} {own : Nat → Nat} {j : Nat} {v : Nat → Value} {a : It} {K : Nat → Nat → Value}
theorem kept_new {m b : Nat} {row : Option Nat} {c : Nat} (hA : Below w.heap.size w W1) (hg : W1.grownBy W2 row) (hr : ∀ k, row = some k → own k = c) (hc : 3 * j + 1 ≤ c) (hb : b = W1.heap.size) (hm : m = w.heap.size) : Kept j w own W2 (newOwn own m b c) := by
  subst hb hm
  have := hA.size
  refine ⟨fun k h1 h2 => ?_, fun k h1 h2 => newOwn_lt own h1 (by omega), Nat.le_trans hA.size hg.size⟩
  rw [hg.block k (by omega) (fun e => by have := hr k e.symm; omega), hA.block k h1]
theorem Path.lineOne (h : OnWay B w own j v a K a.kids.length) (hA : Below w.heap.size w W1) {vl : Value} {s : ByteArray} (ho : W2.ownsRow B 9 1 vl (a.lines.length + 1) (a.lines.map Value.string ++ [.string s])) (hg : W1.grownBy W2 (v 2).ownBlock) (hw : vl.ownBlock = (v 2).ownBlock ∨ vl.ownBlock = some W1.heap.size) :
    Path B W2 (newOwn own w.heap.size W1.heap.size (3 * j + 2)) j [a.addLine s] (putC v 2 vl) ∧ Kept j w own W2 (newOwn own w.heap.size W1.heap.size (3 * j + 2)) := by
  have hsz := hA.size
  have keep : ∀ k, k < w.heap.size → own k ≠ 3 * j + 2 → W2.heap[k]? = w.heap[k]? := fun k hk h1 => by
    rw [hg.block k (by omega) (fun e => h1 (h.lo k e.symm)), hA.block k hk]
  refine ⟨.one j _ _ K ?_, kept_new hA hg h.lo (by omega) rfl rfl⟩
  refine ⟨by rw [putC_ne _ _ (by omega)]; exact h.l0, by rw [putC_ne _ _ (by omega)]; exact h.l1, ?_, ?_, ?_, ?_, ?_⟩
  · rw [putC_at]
    show W2.ownsRow B 9 1 vl (a.lines ++ [s]).length ((a.lines ++ [s]).map Value.string)
    rw [List.length_append, List.length_singleton, List.map_append]
    exact ho
  · rw [putC_at]
    intro g hg2
    rcases hw with hw | hw
    · rw [hw] at hg2; rw [newOwn_lt own (h.ln.lt g hg2).2 (by omega)]; exact h.lo g hg2
    · rw [hw] at hg2; injection hg2 with hg2; rw [← hg2, newOwn_at]
  · rw [putC_ne _ _ (by omega)]
    exact row_step h.kd fun g hg2 hl => keep g hl (by rw [h.ko g hg2]; omega)
  · rw [putC_ne _ _ (by omega)]
    intro g hg2
    rw [newOwn_lt own (h.kd.lt g hg2).2 (by omega)]; exact h.ko g hg2
  · intro i k e
    exact (h.kl i k e).step fun b hb hp => ⟨keep b hb (by omega), by rw [newOwn_lt own hb (by omega)]; exact hp⟩
theorem Path.kidOne (h : OnWay B w own j v a K a.kids.length) (hA : Below w.heap.size w W1) {vk : Value} {x : Nat → Value} {lab hd : ByteArray} (x0 : x 0 = .string lab) (x1 : x 1 = .string hd) (x2 : x 2 = .slice none 0 0) (x3 : x 3 = .slice none 0 0)
    (ho : W2.ownsRow B 26 4 vk (a.kids.length + 1) (flat4 K a.kids.length ++ [x 0, x 1, x 2, x 3])) (hg : W1.grownBy W2 (v 3).ownBlock) (hw : vk.ownBlock = (v 3).ownBlock ∨ vk.ownBlock = some W1.heap.size) :
    Path B W2 (newOwn own w.heap.size W1.heap.size (3 * j + 1)) j [a, It.mk lab hd [] []] (putC v 3 vk) ∧ Kept j w own W2 (newOwn own w.heap.size W1.heap.size (3 * j + 1)) := by
  have hsz := hA.size
  have keep : ∀ k, k < w.heap.size → own k ≠ 3 * j + 1 → W2.heap[k]? = w.heap[k]? := fun k hk h1 => by
    rw [hg.block k (by omega) (fun e => h1 (h.ko k e.symm)), hA.block k hk]
  refine ⟨.more j a _ [] _ (snocV K a.kids.length x) ?_ ?_, kept_new hA hg h.ko (by omega) rfl rfl⟩
  · refine ⟨by rw [putC_ne _ _ (by omega)]; exact h.l0, by rw [putC_ne _ _ (by omega)]; exact h.l1, ?_, ?_, ?_, ?_, ?_⟩
    · rw [putC_ne _ _ (by omega)]
      exact row_step h.ln fun g hg2 hl => keep g hl (by rw [h.lo g hg2]; omega)
    · rw [putC_ne _ _ (by omega)]
      intro g hg2
      rw [newOwn_lt own (h.ln.lt g hg2).2 (by omega)]; exact h.lo g hg2
    · rw [putC_at, ← flat4_snoc]; exact ho
    · rw [putC_at]
      intro g hg2
      rcases hw with hw | hw
      · rw [hw] at hg2; rw [newOwn_lt own (h.kd.lt g hg2).2 (by omega)]; exact h.ko g hg2
      · rw [hw] at hg2; injection hg2 with hg2; rw [← hg2, newOwn_at]
    · intro i k e
      have hi : i < a.kids.length := (List.getElem?_eq_some_iff.1 e).1
      have hS : snocV K a.kids.length x i = K i := by unfold snocV; rw [if_neg (by omega)]
      rw [hS]
      exact (h.kl i k e).step fun b hb hp => ⟨keep b hb (by omega), by rw [newOwn_lt own hb (by omega)]; exact hp⟩
  · have hS : snocV K a.kids.length x a.kids.length = x := by unfold snocV; rw [if_pos rfl]
    rw [hS]
    refine .one _ _ _ (fun _ _ => .nilIface) ⟨x0, x1, ?_, ?_, ?_, ?_, ?_⟩
    · rw [x2]; exact World.ownsRow_nil _ _ _ _
    · rw [x2]; intro g hg2; cases hg2
    · rw [x3]; exact World.ownsRow_nil _ _ _ _
    · rw [x3]; intro g hg2; cases hg2
    · intro i k e; cases e
theorem flat4_last (V : Nat → Nat → Value) (n : Nat) : flat4 V (n + 1) = flat4 V n ++ [V n 0, V n 1, V n 2, V n 3] := by
  rw [flat4_snoc V n (V n)]
  refine flat4_congr fun j c _ _ => ?_
  unfold snocV
  split
  · rename_i h; rw [h]
  · rfl
/-- The kids' new row stands; what is further in has been changed and is stored there. -/
theorem Path.wrap {W w2 : World} {own2 : Nat → Nat} {n g' cap' : Nat} (h : OnWay B w own j v a K (n + 1)) (hn : n = a.kids.length) (hA : Below w.heap.size w W) (hg : w.heap.size ≤ g') (hrow : W.ownsRow B 26 4 (.slice (some ⟨g', 0, none⟩) (n + 1) cap') (n + 1) (flat4 K (n + 1)))
    {c : It} {q : List It} {v' : Nat → Value} (hp : Path B w2 own2 (j + 1) (c :: q) v') (hK : Kept (j + 1) W (newOwn own w.heap.size g' (3 * j + 1)) w2 own2) :
    Path B (set4 w2 g' (n * 4) v') own2 j (a :: c :: q) (putC v 3 (.slice (some ⟨g', 0, none⟩) (n + 1) cap')) ∧ Kept j w own (set4 w2 g' (n * 4) v') own2 := by
  have hsz := hA.size
  have hgl := (hrow.lt g' rfl).2
  have hog := hK.own g' hgl (by rw [newOwn_at]; omega)
  rw [newOwn_at] at hog
  have hk2 : ∀ k, k < w.heap.size → own k < 3 * j + 4 → (set4 w2 g' (n * 4) v').heap[k]? = w.heap[k]? := fun k hk h1 => by
    have h2 : newOwn own w.heap.size g' (3 * j + 1) k = own k := newOwn_lt own hk hg
    have h3 := hK.blk k (by omega) (by rw [h2]; omega)
    unfold set4
    rw [Below.heap_setCell _ _ _ _ (by show k ≠ g'; omega), Below.heap_setCell _ _ _ _ (by show k ≠ g'; omega), Below.heap_setCell _ _ _ _ (by show k ≠ g'; omega), Below.heap_setCell _ _ _ _ (by show k ≠ g'; omega), h3, hA.block k hk]
  have hk3 : ∀ k, k < w.heap.size → own k < 3 * j + 4 → own2 k = own k := fun k hk h1 => by
    have h2 : newOwn own w.heap.size g' (3 * j + 1) k = own k := newOwn_lt own hk hg
    rw [hK.own k (by omega) (by rw [h2]; omega), h2]
  refine ⟨.more j a c q _ (snocV K n v') ?_ ?_, ⟨fun k h1 h2 => hk2 k h1 (by omega), fun k h1 h2 => hk3 k h1 (by omega), ?_⟩⟩
  · refine ⟨by rw [putC_ne _ _ (by omega)]; exact h.l0, by rw [putC_ne _ _ (by omega)]; exact h.l1, ?_, ?_, ?_, ?_, ?_⟩
    · rw [putC_ne _ _ (by omega)]
      exact row_step h.ln fun g hg2 hl => hk2 g hl (by rw [h.lo g hg2]; omega)
    · rw [putC_ne _ _ (by omega)]
      intro g hg2
      have := h.lo g hg2
      rw [hk3 g (h.ln.lt g hg2).2 (by omega)]; exact this
    · rw [putC_at, ← hn, ← flat4_snoc]
      have hr2 : w2.ownsRow B 26 4 (.slice (some ⟨g', 0, none⟩) (n + 1) cap') (n + 1) (flat4 K n ++ [K n 0, K n 1, K n 2, K n 3]) := by
        rw [← flat4_last]
        refine row_step hrow fun k hk hl => ?_
        have : g' = k := by injection hk
        subst this
        exact hK.blk g' hl (by rw [newOwn_at]; omega)
      have h1 := hr2.stored (n * 4) (v' 0)
      have h2 := h1.1.stored (n * 4 + 1) (v' 1)
      have h3 := h2.1.stored (n * 4 + 2) (v' 2)
      have h4 := h3.1.stored (n * 4 + 3) (v' 3)
      rw [set4_flat] at h4
      exact h4.1
    · rw [putC_at]
      intro g hg2
      have : g' = g := by injection hg2
      rw [← this]; exact hog
    · intro i k e
      have hi : i < a.kids.length := (List.getElem?_eq_some_iff.1 e).1
      have hS : snocV K n v' i = K i := by unfold snocV; rw [if_neg (by omega)]
      rw [hS]
      exact (h.kl i k e).step fun b hb hp => ⟨hk2 b hb (by omega), by rw [hk3 b hb (by omega)]; exact hp⟩
  · have hS : snocV K n v' a.kids.length = v' := by unfold snocV; rw [if_pos hn.symm]
    rw [hS]
    refine hp.step fun k hk h1 => ⟨?_, rfl⟩
    unfold set4
    rw [Below.heap_setCell _ _ _ _ (by show k ≠ g'; rintro rfl; omega), Below.heap_setCell _ _ _ _ (by show k ≠ g'; rintro rfl; omega), Below.heap_setCell _ _ _ _ (by show k ≠ g'; rintro rfl; omega), Below.heap_setCell _ _ _ _ (by show k ≠ g'; rintro rfl; omega)]
  · have := hK.size
    unfold set4
    simp
    omega
end
/-- What put makes of the way. -/
def putZ (line : Bool) (text lab hd : ByteArray) : List It → List It
  | [] => []
  | [a] => if line then [a.addLine text] else [a, It.mk lab hd [] []]
  | a :: b :: r => a :: putZ line text lab hd (b :: r)
theorem putZ_cons (line : Bool) (text lab hd : ByteArray) : ∀ (b : It) (r : List It), ∃ c q, putZ line text lab hd (b :: r) = c :: q
  | b, [] => by
    cases line
    · exact ⟨_, _, rfl⟩
    · exact ⟨_, _, rfl⟩
  | b, c :: r => ⟨_, _, rfl⟩
theorem putZ_kid (text lab hd : ByteArray) : ∀ (b : It) (r : List It), putZ false text lab hd (b :: r) = (b :: r) ++ [It.mk lab hd [] []]
  | b, [] => rfl
  | b, c :: r => by rw [putZ, putZ_kid text lab hd c r]; rfl
theorem putZ_line (text lab hd : ByteArray) : ∀ (b : It) (r : List It) (t : It), (b :: r)[r.length]? = some t → putZ true text lab hd (b :: r) = (b :: r).set r.length (t.addLine text)
  | b, [], t, h => by
    have : b = t := by simpa using h
    subst this; rfl
  | b, c :: r, t, h => by
    have := putZ_line text lab hd c r t (by simpa using h)
    rw [putZ, this]
    simp
/-- The numbers of the way, in memory. -/
def WayAt (w : World) (own : Nat → Nat) (wa : Option Addr) (ws : List Nat) : Prop := ∀ i x, ws[i]? = some x → ∃ b o, wa = some ⟨b, o, none⟩ ∧ own b = 0 ∧ w.cell? ⟨b, o + i, none⟩ = some (.int .i64 (x : Nat))
theorem WayAt.step {w w' : World} {own own' : Nat → Nat} {wa : Option Addr} {ws : List Nat} (h : WayAt w own wa ws) (hk : ∀ k, k < w.heap.size → own k = 0 → w'.heap[k]? = w.heap[k]? ∧ own' k = 0) : WayAt w' own' wa ws := by
  intro i x e
  obtain ⟨b, o, h1, h2, h3⟩ := h i x e
  have := hk b (cell_lt h3) h2
  exact ⟨b, o, h1, this.2, (World.cell?_of_block (a := ⟨b, o + i, none⟩) this.1).trans h3⟩
theorem WayAt.tail {w : World} {own : Nat → Nat} {b o x : Nat} {ws : List Nat} (h : WayAt w own (some ⟨b, o, none⟩) (x :: ws)) : WayAt w own (some ⟨b, o + 1, none⟩) ws := by
  intro i y e
  obtain ⟨b', o', h1, h2, h3⟩ := h (i + 1) y (by simpa using e)
  injection h1 with h1
  injection h1 with h4 h5
  subst h4 h5
  exact ⟨b, o + 1, rfl, h2, by rw [show o + 1 + i = o + (i + 1) by omega]; exact h3⟩
theorem WayAt.take {w : World} {own : Nat → Nat} {wa : Option Addr} {ws : List Nat} (h : WayAt w own wa ws) (k : Nat) : WayAt w own wa (ws.take k) := by
  intro i x e
  rw [List.getElem?_take] at e
  split at e
  · exact h i x e
  · cases e
end Go.Proofs.YtgfaeeacndpniaaGreatDoor
namespace Go.Proofs.YtgfaeeacndpniaaGreatDoor
open Go.RowKit Go.Extern.Stop Go.Stop Go.Extern

theorem Path.inner {B : Nat} {w : World} {own : Nat → Nat} {j : Nat} {a b : It} {r : List It} {v : Nat → Value} (h : Path B w own j (a :: b :: r) v) : ∃ g cap u, v 3 = .slice (some ⟨g, 0, none⟩) (a.kids.length + 1) cap ∧ own g = 3 * j + 1 ∧ (∀ c, c < 4 → w.cell? ⟨g, a.kids.length * 4 + c, none⟩ = some (u c)) ∧ Path B w own (j + 1) (b :: r) u := by
  cases h with
  | more _ _ _ _ _ K h hp =>
    obtain ⟨g, cap, e, _, _⟩ := row_form h.kd (by omega)
    refine ⟨g, cap, K a.kids.length, e, h.ko g (by rw [e]; rfl), fun c hc => ?_, hp⟩
    have hkd := h.kd
    rw [e] at hkd
    have := hkd.cellAt (a.kids.length * 4 + c) (by omega)
    rw [flat4_get _ _ _ _ (by omega) hc] at this
    exact this
theorem Path.pos {B : Nat} {w : World} {own : Nat → Nat} {j : Nat} {z : List It} {v : Nat → Value} (h : Path B w own j z v) : 0 < z.length := by
  cases h <;> simp
/-- The builder's state. -/
structure BS (B bb : Nat) (w : World) (z : List It) (n : Nat) (own : Nat → Nat) (v : Nat → Value) (wa : Option Addr) (wc : Nat) : Prop where
  hB : B ≤ bb
  st : w.heap[bb]? = some (.cells #[v 0, v 1, v 2, v 3, .slice wa (z.length - 1) wc, .int .i64 n] 67 (0, 0))
  ob : own bb = 0
  pt : Path B w own 0 z v
  wy : WayAt w own wa (wayOf z)
  cp : z.length - 1 ≤ wc
  nb : ∀ b o, wa = some ⟨b, o, none⟩ → b ≠ bb
  lw : ∀ k, k < B → own k = 0
def Bd (B bb : Nat) (w : World) (z : List It) (n : Nat) : Prop := ∃ own v wa wc, BS B bb w z n own v wa wc
section
variable {B bb : Nat} {w w' : World} {z : List It} {n : Nat} {own : Nat → Nat} {v : Nat → Value} {wa : Option Addr} {wc : Nat}
theorem BS.lt (h : BS B bb w z n own v wa wc) : bb < w.heap.size := lt_of_block h.st
theorem BS.below (h : BS B bb w z n own v wa wc) (hb : Below w.heap.size w w') : BS B bb w' z n own v wa wc where
  hB := h.hB
  st := (hb.block bb h.lt).trans h.st
  ob := h.ob
  pt := h.pt.bel hb
  wy := h.wy.step fun k hk h0 => ⟨hb.block k hk, h0⟩
  cp := h.cp
  nb := h.nb
  lw := h.lw
theorem BS.c (h : BS B bb w z n own v wa wc) : w.cell? ⟨bb, 0, none⟩ = some (v 0) ∧ w.cell? ⟨bb, 1, none⟩ = some (v 1) ∧ w.cell? ⟨bb, 2, none⟩ = some (v 2) ∧ w.cell? ⟨bb, 3, none⟩ = some (v 3) ∧ w.cell? ⟨bb, 4, none⟩ = some (.slice wa (z.length - 1) wc) ∧ w.cell? ⟨bb, 5, none⟩ = some (.int .i64 n) := by
  simp [World.cell?, h.st]
theorem BS.heap6 {x : Nat → Value} {y0 y1 y2 y3 y4 y5 : Value} {t : TypeId} {W : World} (h : W.heap[bb]? = some (.cells #[y0, y1, y2, y3, y4, y5] t (0, 0))) : (set4 W bb 0 x).heap[bb]? = some (.cells #[x 0, x 1, x 2, x 3, y4, y5] t (0, 0)) := by
  unfold set4
  have h1 := heap_setCell_same W bb 0 _ _ (x 0) h
  have h2 := heap_setCell_same _ bb (0 + 1) _ _ (x 1) h1
  have h3 := heap_setCell_same _ bb (0 + 2) _ _ (x 2) h2
  have h4 := heap_setCell_same _ bb (0 + 3) _ _ (x 3) h3
  rw [h4]; rfl
theorem heap_set4 (W : World) (g o : Nat) (x : Nat → Value) (k : Nat) (hk : k ≠ g) : (set4 W g o x).heap[k]? = W.heap[k]? := by
  unfold set4
  rw [Below.heap_setCell _ _ _ _ hk, Below.heap_setCell _ _ _ _ hk, Below.heap_setCell _ _ _ _ hk, Below.heap_setCell _ _ _ _ hk]
/-- The law is changed and stored; the way stays. -/
theorem BS.stored {own0 own' : Nat → Nat} {v' : Nat → Value} {z' : List It} {W wx : World} (h : BS B bb W z n own v wa wc) (h0 : ∀ k, own k = 0 → own0 k = 0) (hp : Path B w' own' 0 z' v') (hk : Kept 0 W own0 w' own') (hl : LikeW wx (set4 w' bb 0 v')) :
    wx.heap[bb]? = some (.cells #[v' 0, v' 1, v' 2, v' 3, .slice wa (z.length - 1) wc, .int .i64 n] 67 (0, 0)) ∧ own' bb = 0 ∧ Path B wx own' 0 z' v' ∧ WayAt wx own' wa (wayOf z) ∧ ∀ k, k < B → own' k = 0 := by
  have hob := h0 bb h.ob
  have hob' : own' bb = 0 := by rw [hk.own bb h.lt (by omega)]; exact hob
  have hst : w'.heap[bb]? = _ := (hk.blk bb h.lt (by omega)).trans h.st
  refine ⟨by rw [hl.heap]; exact BS.heap6 hst, hob', ?_, ?_, fun k hkB => by rw [hk.own k (by have := h.lt; have := h.hB; omega) (by rw [h0 k (h.lw k hkB)]; omega)]; exact h0 k (h.lw k hkB)⟩
  · refine Path.bel ?_ (hl.bel _)
    unfold set4
    exact (((hp.off ⟨bb, 0, none⟩ _ hob').off ⟨bb, 0 + 1, none⟩ _ hob').off ⟨bb, 0 + 2, none⟩ _ hob').off ⟨bb, 0 + 3, none⟩ _ hob'
  · intro i x e
    obtain ⟨b, o, h1, h2, h3⟩ := h.wy i x e
    have hlt := cell_lt h3
    have h4 := h0 b h2
    refine ⟨b, o, h1, by rw [hk.own b hlt (by omega)]; exact h4, ?_⟩
    refine (World.cell?_of_block (a := ⟨b, o + i, none⟩) ?_).trans h3
    rw [hl.heap]
    exact (heap_set4 _ _ _ _ _ (h.nb b o h1)).trans (hk.blk b hlt (by omega))
theorem BS.f (h : BS B bb w z n own v wa wc) (i : Nat) : w.frozen? ⟨bb, i, none⟩ = false := by simp [World.frozen?, h.st]
end
theorem Path.forms {B : Nat} {w : World} {own : Nat → Nat} {j : Nat} {z : List It} {v : Nat → Value} (h : Path B w own j z v) : v 0 = .string (closeAll z).label ∧ v 1 = .string (closeAll z).head ∧ (∃ la lc, v 2 = .slice la (closeAll z).lines.length lc) ∧ ∃ ka kc, v 3 = .slice ka (closeAll z).kids.length kc := h.lies.forms
end Go.Proofs.YtgfaeeacndpniaaGreatDoor
