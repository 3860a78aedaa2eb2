/-
  Laws in memory: items, rows of items, who owns which block; the reader's state. No walk.
-/
import Derived.Test.YtgfaeeacndpniaaDoorPlains2
import Derived.Laws.OwnMore
import Derived.OneCell
import Derived.Deep.RegionLaw
import Derived.Deep.DeepCutAuto
import Derived.Test.YtgfaeeacndpniaaDoorProg
import Derived.WalkKit
namespace Go.Proofs.YtgfaeeacndpniaaDoor
open Go.RowKit Go.Extern.Stop Go.Stop Go.Extern

theorem hidLL {p : Prop} (h : p) : Hid p := h
/-- All blocks below B are as they were, but for one. -/
structure BelX (B x : Nat) (a w : World) : Prop where
  os : w.os = a.os
  tape : w.tape = a.tape
  output : w.output = a.output
  size : a.heap.size ≤ w.heap.size
  block : ∀ k, k < B → k ≠ x → w.heap[k]? = a.heap[k]?
theorem Below.x {n B : Nat} {a w : World} (h : Below n a w) (x : Nat) (hB : B ≤ n) : BelX B x a w := ⟨h.os, h.tape, h.output, h.size, fun k hk _ => h.block k (by omega)⟩
theorem BelX.refl (B x : Nat) (a : World) : BelX B x a a := ⟨rfl, rfl, rfl, Nat.le_refl _, fun _ _ _ => rfl⟩
theorem BelX.trans {B x : Nat} {a b c : World} (h : BelX B x a b) (h' : BelX B x b c) : BelX B x a c := ⟨h'.os.trans h.os, h'.tape.trans h.tape, h'.output.trans h.output, Nat.le_trans h.size h'.size, fun k hk hx => (h'.block k hk hx).trans (h.block k hk hx)⟩
theorem BelX.setCell {B x : Nat} {a w : World} (h : BelX B x a w) {p : Addr} (hp : B ≤ p.block ∨ p.block = x) (u : Value) : BelX B x a (w.setCell p u) :=
  ⟨h.os, h.tape, h.output, by have := h.size; simp; exact this, fun k hk hx => by rw [Below.heap_setCell _ _ _ _ (by rcases hp with hp | hp; omega; rw [hp]; exact hx)]; exact h.block k hk hx⟩
theorem BelX.grown {B x : Nat} {a w w' : World} {row : Option Nat} (h : BelX B x a w) (hg : w.grownBy w' row) (hB : B ≤ w.heap.size) (hr : ∀ k, row = some k → B ≤ k) : BelX B x a w' :=
  ⟨hg.os.trans h.os, hg.tape.trans h.tape, hg.output.trans h.output, Nat.le_trans h.size hg.size, fun k hk hx => by
    rw [hg.block k (by omega) (fun e => by have := hr k e.symm; omega)]; exact h.block k hk hx⟩
theorem BelX.down {B x n : Nat} {a w : World} (h : BelX B x a w) (h1 : n ≤ B) (h2 : n ≤ x) : Below n a w := ⟨h.os, h.tape, h.output, h.size, fun k hk => h.block k (by omega) (by omega)⟩
theorem BelX.cell {B x : Nat} {a w : World} (h : BelX B x a w) {p : Addr} (h1 : p.block < B) (h2 : p.block ≠ x) : w.cell? p = a.cell? p := World.cell?_of_block (h.block _ h1 h2)
/-- An item lies in memory, all its rows in blocks of a kind. -/
inductive Lies (w : World) (P : Nat → Prop) : (Nat → Value) → It → Prop
  | mk (v : Nat → Value) (t : It) (la ka : Option Addr) (lc kc : Nat) (V : Nat → Nat → Value)
    (h0 : v 0 = .string t.label) (h1 : v 1 = .string t.head) (h2 : v 2 = .slice la t.lines.length lc) (h3 : v 3 = .slice ka t.kids.length kc)
    (hl : ∀ i s, t.lines[i]? = some s → ∃ b o, la = some ⟨b, o, none⟩ ∧ P b ∧ w.cell? ⟨b, o + i, none⟩ = some (.string s))
    (hk : ∀ i, i < t.kids.length → ∃ b o, ka = some ⟨b, o, none⟩ ∧ P b ∧ ∀ c, c < 4 → w.cell? ⟨b, o + i * 4 + c, none⟩ = some (V i c))
    (hr : ∀ i k, t.kids[i]? = some k → Lies w P (V i) k) (hlc : t.lines.length ≤ lc) (hkc : t.kids.length ≤ kc) : Lies w P v t
theorem row_cap {w : World} {B e s : Nat} {a : Option Addr} {n c : Nat} {xs : List Value} (h : w.ownsRow B e s (.slice a n c) n xs) : n ≤ c := by
  rcases h.2 with ⟨_, h0⟩ | ⟨g, cap, cur, e1, hb, hgg, h1, _⟩
  · omega
  · injection e1 with _ _ e3
    omega
theorem cell_lt {w : World} {b i : Nat} {v : Value} (h : w.cell? ⟨b, i, none⟩ = some v) : b < w.heap.size := World.block_lt_of_cell? w ⟨b, i, none⟩ h
theorem Lies.step {w w' : World} {P P' : Nat → Prop} {v : Nat → Value} {t : It} (h : Lies w P v t) : (∀ b, b < w.heap.size → P b → w'.heap[b]? = w.heap[b]? ∧ P' b) → Lies w' P' v t := by
  induction h with
  | mk v t la ka lc kc V h0 h1 h2 h3 hl hk hr hlc hkc ih =>
    intro hh
    refine .mk v t la ka lc kc V h0 h1 h2 h3 (fun i s hs => ?_) (fun i hi => ?_) (fun i k e => ih i k e hh) hlc hkc
    · obtain ⟨b, o, e, p, c⟩ := hl i s hs
      have := hh b (cell_lt c) p
      exact ⟨b, o, e, this.2, (World.cell?_of_block (a := ⟨b, o + i, none⟩) this.1).trans c⟩
    · obtain ⟨b, o, e, p, c⟩ := hk i hi
      have := hh b (cell_lt (c 0 (by omega))) p
      exact ⟨b, o, e, this.2, fun q hq => (World.cell?_of_block (a := ⟨b, o + i * 4 + q, none⟩) this.1).trans (c q hq)⟩
theorem Lies.bel {w w' : World} {P : Nat → Prop} {v : Nat → Value} {t : It} (h : Lies w P v t) (hb : Below w.heap.size w w') : Lies w' P v t := h.step fun b hb' p => ⟨hb.block b hb', p⟩
theorem Lies.all {w : World} {P : Nat → Prop} {v : Nat → Value} {t : It} (h : Lies w P v t) : Lies w (fun _ => True) v t := h.step fun _ _ _ => ⟨rfl, trivial⟩

/-- A row of items as cells. -/
def flat4 (V : Nat → Nat → Value) (n : Nat) : List Value := (List.range (n * 4)).map fun q => V (q / 4) (q % 4)
theorem flat4_len (V : Nat → Nat → Value) (n : Nat) : (flat4 V n).length = n * 4 := by unfold flat4; simp
theorem flat4_get (V : Nat → Nat → Value) (n j c : Nat) (hj : j < n) (hc : c < 4) : (flat4 V n)[j * 4 + c]? = some (V j c) := by
  unfold flat4
  rw [List.getElem?_map, List.getElem?_range (by omega)]
  simp only [Option.map_some, Option.some.injEq]
  rw [show (j * 4 + c) / 4 = j by omega, show (j * 4 + c) % 4 = c by omega]
theorem flat4_congr {V V' : Nat → Nat → Value} {n : Nat} (h : ∀ j c, j < n → c < 4 → V j c = V' j c) : flat4 V n = flat4 V' n := by
  unfold flat4
  refine List.map_congr_left fun q hq => ?_
  rw [List.mem_range] at hq
  exact h _ _ (by omega) (by omega)
def snocV (V : Nat → Nat → Value) (n : Nat) (x : Nat → Value) : Nat → Nat → Value := fun j => if j = n then x else V j
theorem flat4_snoc (V : Nat → Nat → Value) (n : Nat) (x : Nat → Value) : flat4 V n ++ [x 0, x 1, x 2, x 3] = flat4 (snocV V n x) (n + 1) := by
  apply List.ext_getElem?
  intro q
  rcases Nat.lt_or_ge q (n * 4) with h | h
  · rw [List.getElem?_append_left (by rw [flat4_len]; exact h)]
    have e : q = q / 4 * 4 + q % 4 := by omega
    rw [e, flat4_get _ _ _ _ (by omega) (by omega), flat4_get _ _ _ _ (by omega) (by omega)]
    unfold snocV
    rw [if_neg (by omega)]
  · rw [List.getElem?_append_right (by rw [flat4_len]; exact h), flat4_len]
    rcases Nat.lt_or_ge q ((n + 1) * 4) with h2 | h2
    · have e : q = n * 4 + (q - n * 4) := by omega
      obtain ⟨c, hc⟩ : ∃ c, c = q - n * 4 := ⟨_, rfl⟩
      rw [e, flat4_get _ _ _ _ (by omega) (by omega), ← hc]
      unfold snocV
      rw [if_pos rfl]
      rw [show n * 4 + c - n * 4 = c by omega]
      have : c < 4 := by omega
      match c, this with
      | 0, _ => rfl
      | 1, _ => rfl
      | 2, _ => rfl
      | 3, _ => rfl
    · rw [List.getElem?_eq_none (by simp; omega), List.getElem?_eq_none (by rw [flat4_len]; exact h2)]
def putV (V : Nat → Nat → Value) (j c : Nat) (u : Value) : Nat → Nat → Value := fun a b => if a = j ∧ b = c then u else V a b
theorem flat4_set (V : Nat → Nat → Value) (n j c : Nat) (u : Value) (hj : j < n) (hc : c < 4) : (flat4 V n).set (j * 4 + c) u = flat4 (putV V j c u) n := by
  apply List.ext_getElem?
  intro q
  rcases Nat.lt_or_ge q (n * 4) with h | h
  · have e : q = q / 4 * 4 + q % 4 := by omega
    by_cases hq : q = j * 4 + c
    · rw [hq, List.getElem?_set_self (by rw [flat4_len]; omega), flat4_get _ _ _ _ hj hc]
      unfold putV
      rw [if_pos ⟨rfl, rfl⟩]
    · rw [List.getElem?_set_ne (by omega), e, flat4_get _ _ _ _ (by omega) (by omega), flat4_get _ _ _ _ (by omega) (by omega)]
      unfold putV
      rw [if_neg (by omega)]
  · rw [List.getElem?_eq_none (by simp [flat4_len]; omega), List.getElem?_eq_none (by rw [flat4_len]; omega)]
theorem flat4_take (V : Nat → Nat → Value) (n m : Nat) (h : m ≤ n) : (flat4 V n).take (m * 4) = flat4 V m := by
  apply List.ext_getElem?
  intro q
  rw [List.getElem?_take]
  split
  · have e : q = q / 4 * 4 + q % 4 := by omega
    rw [e, flat4_get _ _ _ _ (by omega) (by omega), flat4_get _ _ _ _ (by omega) (by omega)]
  · rw [List.getElem?_eq_none (by rw [flat4_len]; omega)]

theorem row_step {w w' : World} {B e s : Nat} {v : Value} {n : Nat} {xs : List Value} (h : w.ownsRow B e s v n xs) (hk : ∀ g, v.ownBlock = some g → g < w.heap.size → w'.heap[g]? = w.heap[g]?) : w'.ownsRow B e s v n xs := by
  refine ⟨h.1, ?_⟩
  rcases h.2 with hn | ⟨g, cap, cur, rfl, hb, hgg, rest⟩
  · exact .inl hn
  · exact .inr ⟨g, cap, cur, rfl, hb, (hk g rfl (Array.getElem?_eq_some_iff.1 hgg).1).trans hgg, rest⟩
theorem row_take {w : World} {B e s : Nat} {a : Option Addr} {c n : Nat} {xs : List Value} (h : w.ownsRow B e s (.slice a n c) n xs) (m : Nat) (hm : m ≤ n) : w.ownsRow B e s (.slice a m c) m (xs.take (m * s)) := by
  have hle : m * s ≤ n * s := Nat.mul_le_mul_right _ hm
  refine ⟨by rw [List.length_take, h.1]; omega, ?_⟩
  rcases h.2 with ⟨hn, h0⟩ | ⟨g, cap, cur, e1, hb, hgg, h1, h2, h3, h4⟩
  · injection hn with h5 h6 h7
    subst h5 h7 h0
    obtain rfl : m = 0 := by omega
    exact .inl ⟨rfl, rfl⟩
  · injection e1 with h5 h6 h7
    subst h5 h7
    refine .inr ⟨g, c, cur, rfl, hb, hgg, by omega, h2, h3, ?_⟩
    rw [← h4, List.take_take, Nat.min_eq_left hle]
/-- The value of a row that is not empty. -/
theorem row_form {w : World} {B e s : Nat} {v : Value} {n : Nat} {xs : List Value} (h : w.ownsRow B e s v n xs) (hn : 0 < n) : ∃ g cap, v = .slice (some ⟨g, 0, none⟩) n cap ∧ g < w.heap.size ∧ B ≤ g := by
  rcases h.2 with ⟨_, h0⟩ | ⟨g, cap, cur, rfl, hb, hgg, _⟩
  · omega
  · exact ⟨g, cap, rfl, (Array.getElem?_eq_some_iff.1 hgg).1, hb⟩
theorem row_any {w : World} {B e s : Nat} {v : Value} {n : Nat} {xs : List Value} (h : w.ownsRow B e s v n xs) : ∃ a cap, v = .slice a n cap := by
  rcases h.2 with ⟨rfl, rfl⟩ | ⟨g, cap, cur, rfl, _⟩
  · exact ⟨_, _, rfl⟩
  · exact ⟨_, _, rfl⟩

/-- An open item: its own rows are its own; its kids lie in blocks of its kids. -/
structure OpenAt (B : Nat) (w : World) (own : Nat → Nat) (j : Nat) (v : Nat → Value) (t : It) (K : Nat → Nat → Value) : Prop where
  l0 : v 0 = .string t.label
  l1 : v 1 = .string t.head
  ln : w.ownsRow B 9 1 (v 2) t.lines.length (t.lines.map Value.string)
  lo : ∀ g, (v 2).ownBlock = some g → own g = 3 * j + 2
  kd : w.ownsRow B 31 4 (v 3) t.kids.length (flat4 K t.kids.length)
  ko : ∀ g, (v 3).ownBlock = some g → own g = 3 * j + 1
  kl : ∀ i k, t.kids[i]? = some k → Lies w (fun b => own b = 3 * j + 3) (K i) k
theorem OpenAt.step {B : Nat} {w w' : World} {own own' : Nat → Nat} {j : Nat} {v : Nat → Value} {t : It} {K : Nat → Nat → Value} (h : OpenAt B w own j v t K)
    (hk : ∀ k, k < w.heap.size → 3 * j + 1 ≤ own k → own k ≤ 3 * j + 3 → w'.heap[k]? = w.heap[k]? ∧ own' k = own k) : OpenAt B w' own' j v t K where
  l0 := h.l0
  l1 := h.l1
  ln := row_step h.ln fun g hg hl => (hk g hl (by rw [h.lo g hg]; omega) (by rw [h.lo g hg]; omega)).1
  lo := fun g hg => by have e := h.lo g hg; rw [(hk g (h.ln.lt g hg).2 (by omega) (by omega)).2, e]
  kd := row_step h.kd fun g hg hl => (hk g hl (by rw [h.ko g hg]; omega) (by rw [h.ko g hg]; omega)).1
  ko := fun g hg => by have e := h.ko g hg; rw [(hk g (h.kd.lt g hg).2 (by omega) (by omega)).2, e]
  kl := fun i k e => (h.kl i k e).step fun b hb hp => ⟨(hk b hb (by omega) (by omega)).1, by rw [(hk b hb (by omega) (by omega)).2, hp]⟩
theorem OpenAt.lies {B : Nat} {w : World} {own : Nat → Nat} {j : Nat} {v : Nat → Value} {t : It} {K : Nat → Nat → Value} (h : OpenAt B w own j v t K) : Lies w (fun b => 3 * j + 1 ≤ own b ∧ own b ≤ 3 * j + 3) v t := by
  obtain ⟨la, lc, el⟩ := row_any h.ln
  obtain ⟨ka, kc, ek⟩ := row_any h.kd
  refine .mk v t la ka lc kc K h.l0 h.l1 el ek (fun i s hs => ?_) (fun i hi => ?_) (fun i k e => (h.kl i k e).step fun b _ hp => ⟨rfl, by omega, by omega⟩) (by have h9 := h.ln; rw [el] at h9; exact row_cap h9) (by have h9 := h.kd; rw [ek] at h9; exact row_cap h9)
  · obtain ⟨hi, _⟩ := List.getElem?_eq_some_iff.1 hs
    obtain ⟨g, cap, e, hg, hb⟩ := row_form h.ln (by omega)
    rw [el] at e
    injection e with e1 e2 e3
    have ho := h.lo g (by rw [el, e1]; rfl)
    refine ⟨g, 0, e1, by omega, ?_⟩
    have hln := h.ln
    rw [el, e1] at hln
    have := hln.cellAt i (by omega)
    simpa [hs] using this
  · obtain ⟨g, cap, e, hg, hb⟩ := row_form h.kd (by omega)
    rw [ek] at e
    injection e with e1 e2 e3
    have ho := h.ko g (by rw [ek, e1]; rfl)
    refine ⟨g, 0, e1, by omega, fun c hc => ?_⟩
    have hkd := h.kd
    rw [ek, e1] at hkd
    have := hkd.cellAt (i * 4 + c) (by omega)
    rw [flat4_get _ _ _ _ hi hc] at this
    simpa using this

/-- The reader's state: the open items, the count. -/
structure RS (B br : Nat) (w : World) (z : List It) (n : Nat) (own : Nat → Nat) (vo : Value) (V : Nat → Nat → Value) (K : Nat → Nat → Nat → Value) : Prop where
  hB : B ≤ w.heap.size ∧ ∀ k, k < B → own k = 0
  st : w.heap[br]? = some (.cells #[vo, .int .i64 n] 65 (0, 0))
  row : w.ownsRow B 31 4 vo z.length (flat4 V z.length)
  oo : ∀ g, vo.ownBlock = some g → own g = 0
  ob : own br = 0
  it : ∀ j t, z[j]? = some t → OpenAt B w own j (V j) t (K j)
def Rd (B br : Nat) (w : World) (z : List It) (n : Nat) : Prop := ∃ own vo V K, RS B br w z n own vo V K
theorem RS.lt {B br : Nat} {w : World} {z : List It} {n : Nat} {own : Nat → Nat} {vo : Value} {V : Nat → Nat → Value} {K : Nat → Nat → Nat → Value} (h : RS B br w z n own vo V K) : br < w.heap.size := lt_of_block h.st
theorem RS.below {B br : Nat} {w w' : World} {z : List It} {n : Nat} {own : Nat → Nat} {vo : Value} {V : Nat → Nat → Value} {K : Nat → Nat → Nat → Value} (h : RS B br w z n own vo V K) (hb : Below w.heap.size w w') : RS B br w' z n own vo V K where
  hB := ⟨Nat.le_trans h.hB.1 hb.size, h.hB.2⟩
  st := (hb.block br h.lt).trans h.st
  row := row_step h.row fun g _ hl => hb.block g hl
  oo := h.oo
  ob := h.ob
  it := fun j t e => (h.it j t e).step fun k hk _ _ => ⟨hb.block k hk, rfl⟩
theorem RS.c0 {B br : Nat} {w : World} {z : List It} {n : Nat} {own : Nat → Nat} {vo : Value} {V : Nat → Nat → Value} {K : Nat → Nat → Nat → Value} (h : RS B br w z n own vo V K) : w.cell? ⟨br, 0, none⟩ = some vo := by simp [World.cell?, h.st]
theorem RS.c1 {B br : Nat} {w : World} {z : List It} {n : Nat} {own : Nat → Nat} {vo : Value} {V : Nat → Nat → Value} {K : Nat → Nat → Nat → Value} (h : RS B br w z n own vo V K) : w.cell? ⟨br, 0 + 1, none⟩ = some (.int .i64 n) := by simp [World.cell?, h.st]
theorem RS.f {B br : Nat} {w : World} {z : List It} {n : Nat} {own : Nat → Nat} {vo : Value} {V : Nat → Nat → Value} {K : Nat → Nat → Nat → Value} (h : RS B br w z n own vo V K) (i : Nat) : w.frozen? ⟨br, i, none⟩ = false := by simp [World.frozen?, h.st]
/-- The row of open items is another block than the reader's own. -/
theorem RS.ne {B br : Nat} {w : World} {z : List It} {n : Nat} {own : Nat → Nat} {vo : Value} {V : Nat → Nat → Value} {K : Nat → Nat → Nat → Value} (h : RS B br w z n own vo V K) (g : Nat) (hg : vo.ownBlock = some g) : g ≠ br := by
  rcases h.row.2 with ⟨hn, _⟩ | ⟨g', cap, cur, e, hb, hgg, _⟩
  · rw [hn] at hg; cases hg
  · rw [e] at hg
    injection hg with hg
    subst hg
    intro e2
    have e2' : g' = br := e2
    rw [e2', h.st] at hgg
    injection hgg with hgg
    injection hgg with _ h2
    revert h2
    decide
/-- 'append' tells in which block the new row lies: in the old one's, or in a new one. -/
theorem append_where {P : Program} (w : World) (B : Nat) (t ty e : TypeId) (i : TypeInfo) (zv : Value) (size bytes : Nat) (ht : P.underlying t = some (.slice e)) (hi : P.info? e = some i) (hz : i.zero = some zv)
    (hsize : i.size = size) (hby : i.bytes = bytes) (v : Value) (n : Nat) (xs : List Value) (hown : w.ownsRow B e size v n xs)
    (a : Addr) (m c : Nat) (news : List Value) (hl : news.length = m * size) (hnews : ∀ j u, news[j]? = some u → w.cell? (a.add j) = some u) (h1 : ∀ u ∈ news, u.oneCell' = true) (hm : 0 < m)
    (h63 : n + m ≤ maxLen) (hbytes : (n + m) * bytes ≤ 140737488355328) (v' : Value) (w' : World) (hr : (Builtin.append_ #[t, t] ty #[v, .slice (some a) m c]).run P w = .ok v' w') :
    v'.ownBlock = v.ownBlock ∨ v'.ownBlock = some w.heap.size := by
  subst hsize
  subst hby
  have hsmall : n + m ≤ 9223372036854775807 := by simp only [maxLen] at h63; omega
  rcases hown.2 with ⟨rfl, rfl⟩ | ⟨g, cap, cur, rfl, hbg, hg, hnc, hcm, hcs, htake⟩
  · have hr2 := run_append_nil (P := P) w t ty e i zv ht hi hz a m c news hl hnews (by omega) (by omega) (by have hb := hbytes; simp only [Nat.zero_add] at hb; omega)
    rw [hr2] at hr
    injection hr with e1 e2
    subst e1
    exact .inr rfl
  · by_cases hroom : n + m ≤ cap
    · have hfit : n * i.size + news.length ≤ cur.size := by rw [hl, hcs, ← Nat.add_mul]; exact Nat.mul_le_mul_right _ hroom
      have hr2 := run_append_room (P := P) w t ty e i ht hi g n cap cur hg a m c news hl hnews h1 hroom hfit
      rw [hr2] at hr
      injection hr with e1 e2
      subst e1
      exact .inl rfl
    · have hr2 := run_append_grow (P := P) w t ty e i zv ht hi hz ⟨g, 0, none⟩ n cap xs hown.1 (hown.cells (g := g) rfl) a m c news hl hnews (by omega) (by omega) (growslice_fits (by omega) hbytes)
      rw [hr2] at hr
      injection hr with e1 e2
      subst e1
      exact .inr rfl
theorem wpList_append_where {P : Program} (w : World) {ops : Array Oper} {rest : List Oper} {o : Oper} {a : Act} {Q : Exit → Act → World → Prop} (hgd : o.guard = none) (s x : Operand) (t : TypeId)
    (ho : o.op = .call { callee := .builtin .append, args := #[s, x], argTypes := #[t, t] })
    (B : Nat) (e : TypeId) (i : TypeInfo) (z : Value) (size bytes : Nat) (ht : P.underlying t = some (.slice e)) (hi : P.info? e = some i) (hz : i.zero = some z)
    (hsize : i.size = size) (hby : i.bytes = bytes) (hzs : z.cells.size = size) (hsz : 0 < size)
    (v : Value) (n : Nat) (xs : List Value) (hs : a.eval s = v) (hown : w.ownsRow B e size v n xs)
    (ad : Addr) (m c : Nat) (news : List Value) (hx : a.eval x = .slice (some ad) m c) (hl : news.length = m * size) (hnews : ∀ j u, news[j]? = some u → w.cell? (ad.add j) = some u) (h1 : ∀ u ∈ news, u.oneCell' = true) (hm : 0 < m)
    (h63 : n + m ≤ maxLen) (hbytes : (n + m) * bytes ≤ 140737488355328) (hbase : B ≤ w.heap.size)
    (h : ∀ v' w', w'.ownsRow B e size v' (n + m) (xs ++ news) → w.grownBy w' v.ownBlock → (v'.ownBlock = v.ownBlock ∨ v'.ownBlock = some w.heap.size) → wpList P ops Q rest (a.put o.dst v') w') : wpList P ops Q (o :: rest) a w := by
  refine wpList_plain hgd fun K hK => ?_
  obtain ⟨v', w', hr, h2, h3, h4⟩ := run_append_own (P := P) w B t o.type e i z size bytes ht hi hz hsize hby hzs hsz v n xs hown ad m c news hl hnews h1 h63 hbytes hbase
  have h5 := append_where (P := P) w B t o.type e i z size bytes ht hi hz hsize hby v n xs hown ad m c news hl hnews h1 hm h63 hbytes v' w' hr
  unfold Oper.wp execOp
  simp only [ho, resolve, invoke, builtin, Sem.run_bind, Sem.run_pure, Result.andThen_ok, List.map_toArray, List.map_cons, List.map_nil, hs, hx, hr]
  exact hK _ _ (h v' w' h2 h3 h5)

section
variable {B br : Nat} {w W1 W2 : World} {z : List It} {n : Nat} {own : Nat → Nat} {vo : Value} {V : Nat → Nat → Value} {K : Nat → Nat → Nat → Value}
/-- What was there ahead of the two steps is there behind them. -/
theorem kept2 (hA : Below w.heap.size w W1) {row : Option Nat} (hg : W1.grownBy W2 row) (a : Addr) (u : Value) (k : Nat) (hk : k < w.heap.size) (h1 : some k ≠ row) (h2 : k ≠ a.block) : (W2.setCell a u).heap[k]? = w.heap[k]? := by
  have := hA.size
  rw [Below.heap_setCell _ _ _ _ h2, hg.block k (by omega) h1, hA.block k hk]
theorem RS.count (h : RS B br w z n own vo V K) (n' : Nat) : RS B br (w.setCell ⟨br, 0 + 1, none⟩ (.int .i64 n')) z n' own vo V K where
  hB := ⟨by have := h.hB.1; simp; exact this, h.hB.2⟩
  st := by rw [heap_setCell_same w br (0 + 1) _ _ _ h.st]; rfl
  row := row_step h.row fun g hg hl => Below.heap_setCell _ _ _ _ (h.ne g hg)
  oo := h.oo
  ob := h.ob
  it := fun j t e => (h.it j t e).step fun k hk h1 _ => ⟨Below.heap_setCell _ _ _ _ (by rintro rfl; have := h.ob; (try simp at h1); omega), rfl⟩
theorem RS.push (h : RS B br w z n own vo V K) (hA : Below w.heap.size w W1) {vo' : Value} {x : Nat → Value} {lab hd : ByteArray} (x0 : x 0 = .string lab) (x1 : x 1 = .string hd) (x2 : x 2 = .slice none 0 0) (x3 : x 3 = .slice none 0 0)
    (ho : W2.ownsRow B 31 4 vo' (z.length + 1) (flat4 V z.length ++ [x 0, x 1, x 2, x 3])) (hg : W1.grownBy W2 vo.ownBlock) (hw : vo'.ownBlock = vo.ownBlock ∨ vo'.ownBlock = some W1.heap.size) :
    RS B br (W2.setCell ⟨br, 0, none⟩ vo') (z ++ [It.mk lab hd [] []]) n (fun g => if g = W1.heap.size then 0 else own g) vo' (snocV V z.length x) K := by
  have hbr := h.lt
  have hsz := hA.size
  have hbn : some br ≠ vo.ownBlock := fun e => h.ne br e.symm rfl
  have hst : W2.heap[br]? = some (.cells #[vo, .int .i64 n] 65 (0, 0)) := by rw [hg.block br (by omega) hbn, hA.block br hbr, h.st]
  refine ⟨⟨by have := h.hB.1; have := hg.size; simp; omega, fun k hk => by have := h.hB.1; show (if k = W1.heap.size then 0 else own k) = 0; rw [if_neg (by omega)]; exact h.hB.2 k hk⟩, ?_, ?_, ?_, ?_, ?_⟩
  · rw [heap_setCell_same W2 br 0 _ _ _ hst]; rfl
  · rw [List.length_append, List.length_singleton, ← flat4_snoc]
    refine row_step ho fun g hg2 _ => Below.heap_setCell _ _ _ _ ?_
    rcases hw with hw | hw
    · rw [hw] at hg2; exact h.ne g hg2
    · rw [hw] at hg2; injection hg2 with hg2; show g ≠ br; omega
  · intro g hg2
    show (if g = W1.heap.size then 0 else own g) = 0
    split
    · rfl
    · rcases hw with hw | hw
      · rw [hw] at hg2; exact h.oo g hg2
      · rw [hw] at hg2; injection hg2 with hg2; omega
  · show (if br = W1.heap.size then 0 else own br) = 0
    split
    · rfl
    · exact h.ob
  · intro j t e
    rcases Nat.lt_or_ge j z.length with hj | hj
    · rw [List.getElem?_append_left hj] at e
      have hV : snocV V z.length x j = V j := by unfold snocV; rw [if_neg (by omega)]
      rw [hV]
      refine (h.it j t e).step fun k hk h1 _ => ⟨kept2 hA hg _ _ k hk ?_ ?_, ?_⟩
      · intro e2; have := h.oo k e2.symm; omega
      · rintro rfl; have := h.ob; (try simp at h1); omega
      · show (if k = W1.heap.size then 0 else own k) = own k
        rw [if_neg (by omega)]
    · have hj2 : j = z.length := by
        obtain ⟨hi, _⟩ := List.getElem?_eq_some_iff.1 e
        simp at hi; omega
      subst hj2
      rw [List.getElem?_append_right (Nat.le_refl _)] at e
      simp at e
      subst e
      have hV : snocV V z.length x z.length = x := by unfold snocV; rw [if_pos rfl]
      rw [hV]
      refine ⟨x0, x1, ?_, ?_, ?_, ?_, ?_⟩
      · rw [x2]; exact World.ownsRow_nil _ _ _ _
      · rw [x2]; intro g hg2; cases hg2
      · rw [x3]; exact World.ownsRow_nil _ _ _ _
      · rw [x3]; intro g hg2; cases hg2
      · intro i k e; cases e
theorem RS.addLine (h : RS B br w z n own vo V K) (hA : Below w.heap.size w W1) {g cap j : Nat} (hvo : vo = .slice (some ⟨g, 0, none⟩) z.length cap) {t : It} (ht : z[j]? = some t) {vl : Value} {s : ByteArray}
    (ho : W2.ownsRow B 9 1 vl (t.lines.length + 1) (t.lines.map Value.string ++ [.string s])) (hg : W1.grownBy W2 (V j 2).ownBlock) (hw : vl.ownBlock = (V j 2).ownBlock ∨ vl.ownBlock = some W1.heap.size) :
    RS B br (W2.setCell ⟨g, j * 4 + 2, none⟩ vl) (z.set j (t.addLine s)) n (fun k => if k = W1.heap.size then 3 * j + 2 else own k) vo (putV V j 2 vl) K := by
  have hbr := h.lt
  have hsz := hA.size
  have hgo : vo.ownBlock = some g := by rw [hvo]; rfl
  have hg0 := h.oo g hgo
  have hgb := h.ne g hgo
  have hgl := (h.row.lt g hgo).2
  have hOt := h.it j t ht
  obtain ⟨hj, _⟩ := List.getElem?_eq_some_iff.1 ht
  have hlo : ∀ k, (V j 2).ownBlock = some k → own k = 3 * j + 2 := hOt.lo
  refine ⟨⟨by have := h.hB.1; have := hg.size; simp; omega, fun k hk => by have := h.hB.1; show (if k = W1.heap.size then 3 * j + 2 else own k) = 0; rw [if_neg (by omega)]; exact h.hB.2 k hk⟩, ?_, ?_, ?_, ?_, ?_⟩
  · rw [kept2 hA hg ⟨g, j * 4 + 2, none⟩ vl br hbr (fun e => by have := hlo br e.symm; have := h.ob; omega) (fun e => hgb e.symm)]
    exact h.st
  · have hr : W2.ownsRow B 31 4 vo z.length (flat4 V z.length) := row_step h.row fun k hk hl => by
      rw [hgo] at hk; injection hk with hk; subst hk
      rw [hg.block g (by omega) (fun e => by have := hlo g e.symm; omega), hA.block g hl]
    rw [hvo] at hr ⊢
    rw [List.length_set, ← flat4_set V z.length j 2 vl hj (by omega)]
    exact (hr.stored (j * 4 + 2) vl).1
  · intro k hk
    show (if k = W1.heap.size then 3 * j + 2 else own k) = 0
    rw [hgo] at hk; injection hk with hk; subst hk
    rw [if_neg (by omega)]; exact hg0
  · show (if br = W1.heap.size then 3 * j + 2 else own br) = 0
    rw [if_neg (by omega)]; exact h.ob
  · intro i t' e
    by_cases hij : i = j
    · subst hij
      rw [List.getElem?_set_self hj] at e
      injection e with e
      subst e
      refine ⟨?_, ?_, ?_, ?_, ?_, ?_, ?_⟩
      · show putV V i 2 vl i 0 = _; unfold putV; rw [if_neg (by omega)]; exact hOt.l0
      · show putV V i 2 vl i 1 = _; unfold putV; rw [if_neg (by omega)]; exact hOt.l1
      · have e2 : putV V i 2 vl i 2 = vl := by unfold putV; rw [if_pos ⟨rfl, rfl⟩]
        rw [e2]
        show (W2.setCell _ _).ownsRow B 9 1 vl (t.lines ++ [s]).length ((t.lines ++ [s]).map Value.string)
        rw [List.length_append, List.length_singleton, List.map_append]
        refine row_step ho fun k hk _ => Below.heap_setCell _ _ _ _ ?_
        rcases hw with hw | hw
        · rw [hw] at hk; have := hlo k hk; rintro rfl; (try simp at this); omega
        · rw [hw] at hk; injection hk with hk; show k ≠ g; omega
      · have e2 : putV V i 2 vl i 2 = vl := by unfold putV; rw [if_pos ⟨rfl, rfl⟩]
        rw [e2]
        intro k hk
        show (if k = W1.heap.size then 3 * i + 2 else own k) = 3 * i + 2
        split
        · rfl
        · rcases hw with hw | hw
          · rw [hw] at hk; exact hlo k hk
          · rw [hw] at hk; injection hk with hk; omega
      · have e3 : putV V i 2 vl i 3 = V i 3 := by unfold putV; rw [if_neg (by omega)]
        rw [e3]
        refine row_step hOt.kd fun k hk hl => kept2 hA hg _ _ k hl ?_ ?_
        · intro e; have := hlo k e.symm; have := hOt.ko k hk; omega
        · rintro rfl; have := hOt.ko _ hk; (try simp at this); omega
      · have e3 : putV V i 2 vl i 3 = V i 3 := by unfold putV; rw [if_neg (by omega)]
        rw [e3]
        intro k hk
        have := (hOt.kd.lt k hk).2
        show (if k = W1.heap.size then 3 * i + 2 else own k) = 3 * i + 1
        rw [if_neg (by omega)]
        exact hOt.ko k hk
      · intro q k e
        refine (hOt.kl q k e).step fun b hb hp => ⟨kept2 hA hg _ _ b hb ?_ ?_, ?_⟩
        · intro e; have := hlo b e.symm; omega
        · rintro rfl; (try simp at hp); omega
        · show (if b = W1.heap.size then 3 * i + 2 else own b) = 3 * i + 3
          rw [if_neg (by omega)]; exact hp
    · rw [List.getElem?_set_ne (fun e => hij e.symm)] at e
      have hV : putV V j 2 vl i = V i := by funext c; unfold putV; rw [if_neg (by omega)]
      rw [hV]
      refine (h.it i t' e).step fun k hk h1 h2 => ⟨kept2 hA hg _ _ k hk ?_ ?_, ?_⟩
      · intro e; have := hlo k e.symm; omega
      · rintro rfl; (try simp at h1); omega
      · show (if k = W1.heap.size then 3 * j + 2 else own k) = own k
        rw [if_neg (by omega)]
theorem RS.addKid (h : RS B br w z n own vo V K) (hA : Below w.heap.size w W1) {g cap j : Nat} (hvo : vo = .slice (some ⟨g, 0, none⟩) z.length cap) (hl : z.length = j + 2) {t b : It} (ht : z[j]? = some t) (hb : z[j + 1]? = some b) {vk : Value}
    (ho : W2.ownsRow B 31 4 vk (t.kids.length + 1) (flat4 (K j) t.kids.length ++ [V (j + 1) 0, V (j + 1) 1, V (j + 1) 2, V (j + 1) 3])) (hg : W1.grownBy W2 (V j 3).ownBlock) (hw : vk.ownBlock = (V j 3).ownBlock ∨ vk.ownBlock = some W1.heap.size) :
    RS B br ((W2.setCell ⟨g, j * 4 + 3, none⟩ vk).setCell ⟨br, 0, none⟩ (.slice (some ⟨g, 0, none⟩) (j + 1) cap)) (z.take j ++ [t.addKid b]) n
      (fun k => if k = W1.heap.size then 3 * j + 1 else if 3 * j + 4 ≤ own k ∧ own k ≤ 3 * j + 6 then 3 * j + 3 else own k) (.slice (some ⟨g, 0, none⟩) (j + 1) cap) (putV V j 3 vk) (fun i => if i = j then snocV (K j) t.kids.length (V (j + 1)) else K i) := by
  have hbr := h.lt
  have hsz := hA.size
  have hgo : vo.ownBlock = some g := by rw [hvo]; rfl
  have hg0 := h.oo g hgo
  have hgb := h.ne g hgo
  have hgl := (h.row.lt g hgo).2
  have hOt := h.it j t ht
  have hOb := h.it (j + 1) b hb
  have hko : ∀ k, (V j 3).ownBlock = some k → own k = 3 * j + 1 := hOt.ko
  have keep : ∀ k, k < w.heap.size → own k ≠ 0 → own k ≠ 3 * j + 1 → ((W2.setCell ⟨g, j * 4 + 3, none⟩ vk).setCell ⟨br, 0, none⟩ (.slice (some ⟨g, 0, none⟩) (j + 1) cap)).heap[k]? = w.heap[k]? := by
    intro k hk h0 h1
    rw [Below.heap_setCell _ _ _ _ (by rintro rfl; exact h0 h.ob)]
    exact kept2 hA hg _ _ k hk (fun e => h1 (hko k e.symm)) (by rintro rfl; exact h0 hg0)
  have hst : (W2.setCell ⟨g, j * 4 + 3, none⟩ vk).heap[br]? = some (.cells #[vo, .int .i64 n] 65 (0, 0)) := by
    rw [kept2 hA hg ⟨g, j * 4 + 3, none⟩ vk br hbr (fun e => by have := hko br e.symm; have := h.ob; omega) (fun e => hgb e.symm)]
    exact h.st
  have hlen : (z.take j ++ [t.addKid b]).length = j + 1 := by simp; omega
  refine ⟨⟨by have := h.hB.1; have := hg.size; simp; omega, fun k hk => by have := h.hB.1; have h0 := h.hB.2 k hk; show (if k = W1.heap.size then 3 * j + 1 else if 3 * j + 4 ≤ own k ∧ own k ≤ 3 * j + 6 then 3 * j + 3 else own k) = 0; rw [if_neg (by omega), if_neg (by omega)]; exact h0⟩, ?_, ?_, ?_, ?_, ?_⟩
  · rw [heap_setCell_same _ br 0 _ _ _ hst]; rfl
  · have hr : W2.ownsRow B 31 4 vo z.length (flat4 V z.length) := row_step h.row fun k hk hl => by
      rw [hgo] at hk; injection hk with hk; subst hk
      rw [hg.block g (by omega) (fun e => by have := hko g e.symm; omega), hA.block g hl]
    rw [hvo] at hr
    have hr2 := (hr.stored (j * 4 + 3) vk).1
    rw [flat4_set V z.length j 3 vk (by omega) (by omega)] at hr2
    have hr3 := row_take hr2 (j + 1) (by omega)
    rw [flat4_take _ _ _ (by omega)] at hr3
    rw [hlen]
    exact row_step hr3 fun k hk _ => Below.heap_setCell _ _ _ _ (by injection hk with hk; subst hk; exact hgb)
  · intro k hk
    have hk' : g = k := by injection hk
    subst hk'
    show (if g = W1.heap.size then 3 * j + 1 else if 3 * j + 4 ≤ own g ∧ own g ≤ 3 * j + 6 then 3 * j + 3 else own g) = 0
    rw [if_neg (by omega), if_neg (by omega)]; exact hg0
  · have := h.ob
    show (if br = W1.heap.size then 3 * j + 1 else if 3 * j + 4 ≤ own br ∧ own br ≤ 3 * j + 6 then 3 * j + 3 else own br) = 0
    rw [if_neg (by omega), if_neg (by omega)]; exact this
  · intro i t' e
    rcases Nat.lt_or_ge i j with hij | hij
    · rw [List.getElem?_append_left (by simp; omega), List.getElem?_take, if_pos hij] at e
      have hV : putV V j 3 vk i = V i := by funext c; unfold putV; rw [if_neg (by omega)]
      rw [hV]
      simp only [if_neg (show ¬ i = j by omega)]
      refine (h.it i t' e).step fun k hk h1 h2 => ⟨keep k hk (by omega) (by omega), ?_⟩
      show (if k = W1.heap.size then 3 * j + 1 else if 3 * j + 4 ≤ own k ∧ own k ≤ 3 * j + 6 then 3 * j + 3 else own k) = own k
      rw [if_neg (by omega), if_neg (by omega)]
    · have hij2 : i = j := by
        obtain ⟨hi, _⟩ := List.getElem?_eq_some_iff.1 e
        rw [hlen] at hi; omega
      subst hij2
      rw [List.getElem?_append_right (by simp; omega)] at e
      have e1 : t' = t.addKid b := by
        rw [List.length_take, show i - min i z.length = 0 by omega] at e
        injection e with e; exact e.symm
      subst e1
      simp only [↓reduceIte]
      have e0 : putV V i 3 vk i 0 = V i 0 := by unfold putV; rw [if_neg (by omega)]
      have e1 : putV V i 3 vk i 1 = V i 1 := by unfold putV; rw [if_neg (by omega)]
      have e2 : putV V i 3 vk i 2 = V i 2 := by unfold putV; rw [if_neg (by omega)]
      have e3 : putV V i 3 vk i 3 = vk := by unfold putV; rw [if_pos ⟨rfl, rfl⟩]
      refine ⟨e0.trans hOt.l0, e1.trans hOt.l1, ?_, ?_, ?_, ?_, ?_⟩
      · rw [e2]
        exact row_step hOt.ln fun k hk hl => keep k hl (by rw [hOt.lo k hk]; omega) (by rw [hOt.lo k hk]; omega)
      · rw [e2]
        intro k hk
        have := hOt.lo k hk
        have := (hOt.ln.lt k hk).2
        show (if k = W1.heap.size then 3 * i + 1 else if 3 * i + 4 ≤ own k ∧ own k ≤ 3 * i + 6 then 3 * i + 3 else own k) = _
        rw [if_neg (by omega), if_neg (by omega)]; exact hOt.lo k hk
      · rw [e3]
        show World.ownsRow _ B 31 4 vk (t.kids ++ [b]).length (flat4 _ (t.kids ++ [b]).length)
        rw [List.length_append, List.length_singleton, ← flat4_snoc]
        refine row_step ho fun k hk _ => ?_
        have hkg : own k = 3 * i + 1 ∨ k = W1.heap.size := by
          rcases hw with hw | hw
          · rw [hw] at hk; exact .inl (hko k hk)
          · rw [hw] at hk; injection hk with hk; exact .inr hk.symm
        rw [Below.heap_setCell _ _ _ _ (by rintro rfl; have := h.ob; (try simp at hkg); omega), Below.heap_setCell _ _ _ _ (by rintro rfl; (try simp at hkg); omega)]
      · rw [e3]
        intro k hk
        show (if k = W1.heap.size then 3 * i + 1 else if 3 * i + 4 ≤ own k ∧ own k ≤ 3 * i + 6 then 3 * i + 3 else own k) = _
        split
        · rfl
        · rcases hw with hw | hw
          · rw [hw] at hk; have := hko k hk; rw [if_neg (by omega)]; exact this
          · rw [hw] at hk; injection hk with hk; omega
      · intro q k e
        have e : (t.kids ++ [b])[q]? = some k := e
        rcases Nat.lt_or_ge q t.kids.length with hq | hq
        · rw [List.getElem?_append_left hq] at e
          have hS : snocV (K i) t.kids.length (V (i + 1)) q = K i q := by unfold snocV; rw [if_neg (by omega)]
          rw [hS]
          refine (hOt.kl q k e).step fun c hc hp => ⟨keep c hc (by omega) (by omega), ?_⟩
          show (if c = W1.heap.size then 3 * i + 1 else if 3 * i + 4 ≤ own c ∧ own c ≤ 3 * i + 6 then 3 * i + 3 else own c) = _
          rw [if_neg (by omega), if_neg (by omega)]; exact hp
        · have hq2 : q = t.kids.length := by
            obtain ⟨hi, _⟩ := List.getElem?_eq_some_iff.1 e
            simp at hi; omega
          subst hq2
          rw [List.getElem?_append_right (Nat.le_refl _)] at e
          simp at e
          subst e
          have hS : snocV (K i) t.kids.length (V (i + 1)) t.kids.length = V (i + 1) := by unfold snocV; rw [if_pos rfl]
          rw [hS]
          refine hOb.lies.step fun c hc hp => ⟨keep c hc (by omega) (by omega), ?_⟩
          show (if c = W1.heap.size then 3 * i + 1 else if 3 * i + 4 ≤ own c ∧ own c ≤ 3 * i + 6 then 3 * i + 3 else own c) = _
          rw [if_neg (by omega), if_pos (by omega)]
end
end Go.Proofs.YtgfaeeacndpniaaDoor
namespace Go.Proofs.YtgfaeeacndpniaaDoor
open Go.RowKit Go.Extern.Stop Go.Stop Go.Extern

theorem step_append_where {P : Program} {ops : Array Oper} {o : Oper} {a : Act} {w : World} {K : Act → World → Prop} {Q : Exit → Act → World → Prop} {E : Prop}
    (hgd : o.guard = none) (s x : Operand) (t : TypeId) (ho : o.op = Op.call { callee := Callee.builtin Builtin.append, args := #[s, x], argTypes := #[t, t] })
    (B : Nat) (e : TypeId) (i : TypeInfo) (z : Value) (size bytes : Nat) (ht : P.underlying t = some (.slice e)) (hi : P.info? e = some i) (hz : i.zero = some z) (hsize : i.size = size) (hby : i.bytes = bytes) (hzs : z.cells.size = size) (hsz : 0 < size)
    (v : Value) (n : Nat) (xs : List Value) (hs : a.eval s = v) (hown : w.ownsRow B e size v n xs)
    (ad : Addr) (m c : Nat) (news : List Value) (hx : a.eval x = .slice (some ad) m c) (hl : news.length = m * size) (hnews : ∀ j u, news[j]? = some u → w.cell? (ad.add j) = some u) (h1 : ∀ u ∈ news, u.oneCell' = true) (hm : 0 < m)
    (h63 : n + m ≤ maxLen) (hbytes : (n + m) * bytes ≤ 140737488355328) (hbase : B ≤ w.heap.size)
    (hK : ∀ v' w', w'.ownsRow B e size v' (n + m) (xs ++ news) → w.grownBy w' v.ownBlock → (v'.ownBlock = v.ownBlock ∨ v'.ownBlock = some w.heap.size) → K (a.put o.dst v') w') :
    if Region.wanted o (yielded ops a.tmps) = true then Oper.wp P o a w K Q else E := by
  have hw : Region.wanted o (yielded ops a.tmps) = true := by simp [Region.wanted, hgd]
  rw [if_pos hw]
  obtain ⟨v', w', hr, h2, h3, h4⟩ := run_append_own (P := P) w B t o.type e i z size bytes ht hi hz hsize hby hzs hsz v n xs hown ad m c news hl hnews h1 h63 hbytes hbase
  have h5 := append_where (P := P) w B t o.type e i z size bytes ht hi hz hsize hby v n xs hown ad m c news hl hnews h1 hm h63 hbytes v' w' hr
  unfold Oper.wp
  simp [execOp, ho, resolve, invoke, builtin, hs, hx, hr, Result.andThen]
  exact hK v' w' h2 h3 h5
/-- Four cells, one behind the other. -/
def set4 (w : World) (g o : Nat) (x : Nat → Value) : World := (((w.setCell ⟨g, o, none⟩ (x 0)).setCell ⟨g, o + 1, none⟩ (x 1)).setCell ⟨g, o + 2, none⟩ (x 2)).setCell ⟨g, o + 3, none⟩ (x 3)
theorem set4_flat (V : Nat → Nat → Value) (n : Nat) (a0 a1 a2 a3 : Value) (x : Nat → Value) : ((((flat4 V n ++ [a0, a1, a2, a3]).set (n * 4) (x 0)).set (n * 4 + 1) (x 1)).set (n * 4 + 2) (x 2)).set (n * 4 + 3) (x 3) = flat4 V n ++ [x 0, x 1, x 2, x 3] := by
  have h : ∀ k, k = n * 4 → ∀ l : List Value, l.length = k → (((((l ++ [a0, a1, a2, a3]).set k (x 0)).set (k + 1) (x 1)).set (k + 2) (x 2)).set (k + 3) (x 3)) = l ++ [x 0, x 1, x 2, x 3] := by
    intro k _ l hl
    subst hl
    simp
  exact h (n * 4) rfl (flat4 V n) (flat4_len V n)
theorem fill4 {W1 W2 : World} {B e g n cap : Nat} {V : Nat → Nat → Value} {a0 a1 a2 a3 : Value} {row : Option Nat} (ho : W2.ownsRow B e 4 (.slice (some ⟨g, 0, none⟩) (n + 1) cap) (n + 1) (flat4 V n ++ [a0, a1, a2, a3])) (hg : W1.grownBy W2 row) (hw : some g = row ∨ W1.heap.size ≤ g) (x : Nat → Value) :
    (set4 W2 g (n * 4) x).ownsRow B e 4 (.slice (some ⟨g, 0, none⟩) (n + 1) cap) (n + 1) (flat4 V n ++ [x 0, x 1, x 2, x 3]) ∧ W1.grownBy (set4 W2 g (n * 4) x) row := by
  have h1 := ho.stored (n * 4) (x 0)
  have h2 := h1.1.stored (n * 4 + 1) (x 1)
  have h3 := h2.1.stored (n * 4 + 2) (x 2)
  have h4 := h3.1.stored (n * 4 + 3) (x 3)
  rw [set4_flat] at h4
  refine ⟨h4.1, ?_⟩
  have hs : ∀ {A C : World}, W1.grownBy A row → A.grownBy C (some g) → W1.grownBy C row := fun ha hc => by
    refine ⟨hc.os.trans ha.os, hc.tape.trans ha.tape, hc.output.trans ha.output, Nat.le_trans ha.size hc.size, fun k hk hr => ?_⟩
    rw [hc.block k (Nat.lt_of_lt_of_le hk ha.size) ?_, ha.block k hk hr]
    intro e
    injection e with e
    rcases hw with hw | hw
    · exact hr (by rw [e]; exact hw)
    · omega
  exact hs (hs (hs (hs hg h1.2) h2.2) h3.2) h4.2
theorem fill4_cell {W2 : World} {B e g n cap : Nat} {xs : List Value} (ho : W2.ownsRow B e 4 (.slice (some ⟨g, 0, none⟩) (n + 1) cap) (n + 1) xs) (j : Nat) (hj : j < (n + 1) * 4) : ∃ u, W2.cell? ⟨g, j, none⟩ = some u := by
  rw [ho.cellAt j hj]
  exact ⟨_, List.getElem?_eq_getElem (by rw [ho.1]; exact hj)⟩
theorem setCell_comm (w : World) (a b : Addr) (u v : Value) (h : a.block ≠ b.block) : (w.setCell a u).setCell b v = (w.setCell b v).setCell a u := by
  unfold World.setCell
  simp only [World.mk.injEq, and_true]
  apply Array.ext_getElem?
  intro k
  simp only [Array.getElem?_modify]
  by_cases h1 : a.block = k
  · by_cases h2 : b.block = k
    · exact absurd (h1.trans h2.symm) h
    · simp [h1, h2]
  · by_cases h2 : b.block = k
    · simp [h1, h2]
    · simp [h1, h2]
theorem set4_comm (w : World) (g o : Nat) (x : Nat → Value) (a : Addr) (u : Value) (h : a.block ≠ g) : set4 (w.setCell a u) g o x = (set4 w g o x).setCell a u := by
  unfold set4
  rw [setCell_comm _ a _ _ _ h, setCell_comm _ a _ _ _ h, setCell_comm _ a _ _ _ h, setCell_comm _ a _ _ _ h]
/-- The same memory. -/
structure LikeW (w' w : World) : Prop where
  os : w'.os = w.os
  tape : w'.tape = w.tape
  output : w'.output = w.output
  heap : w'.heap = w.heap
theorem LikeW.refl (w : World) : LikeW w w := ⟨rfl, rfl, rfl, rfl⟩
theorem LikeW.bel {w' w : World} (h : LikeW w' w) (B : Nat) : Below B w w' := ⟨h.os, h.tape, h.output, by rw [h.heap]; exact Nat.le_refl _, fun k _ => by rw [h.heap]⟩
theorem LikeW.set {w' w : World} (h : LikeW w' w) (a : Addr) (u : Value) : LikeW (w'.setCell a u) (w.setCell a u) := ⟨h.os, h.tape, h.output, by unfold World.setCell; simp only [h.heap]⟩
theorem LikeW.cell {w' w : World} (h : LikeW w' w) (a : Addr) : w'.cell? a = w.cell? a := World.cell?_of_block (by rw [h.heap])
theorem LikeW.frz {w' w : World} (h : LikeW w' w) (a : Addr) : w'.frozen? a = w.frozen? a := World.frozen?_of_block (by rw [h.heap])
def vec4 (a b c d : Value) : Nat → Value
  | 0 => a
  | 1 => b
  | 2 => c
  | _ => d
theorem set4_other (w : World) (g o : Nat) (x : Nat → Value) (a : Addr) (h : a.block ≠ g) : (set4 w g o x).cell? a = w.cell? a ∧ (set4 w g o x).frozen? a = w.frozen? a := by
  have hb : (set4 w g o x).heap[a.block]? = w.heap[a.block]? := by
    unfold set4
    rw [Below.heap_setCell _ _ _ _ h, Below.heap_setCell _ _ _ _ h, Below.heap_setCell _ _ _ _ h, Below.heap_setCell _ _ _ _ h]
  exact ⟨World.cell?_of_block hb, World.frozen?_of_block hb⟩
theorem set_other (w : World) (b a : Addr) (u : Value) (h : a.block ≠ b.block) : (w.setCell b u).cell? a = w.cell? a ∧ (w.setCell b u).frozen? a = w.frozen? a :=
  ⟨World.cell?_of_block (Below.heap_setCell _ _ _ _ h), World.frozen?_of_block (Below.heap_setCell _ _ _ _ h)⟩
/-- Behind an 'append' of an empty item: the new row, its last item's cells. -/
theorem app_facts {w' : World} {B kn : Nat} {K : Nat → Nat → Value} {v' : Value} (ho : w'.ownsRow B 31 4 v' (kn + 1) (flat4 K kn ++ [.string ⟨#[]⟩, .string ⟨#[]⟩, .slice none 0 0, .slice none 0 0])) : ∃ g cap, v' = .slice (some ⟨g, 0, none⟩) (kn + 1) cap ∧ g < w'.heap.size ∧ B ≤ g ∧
    w'.cell? ⟨g, kn * 4, none⟩ = some (.string ⟨#[]⟩) ∧ w'.cell? ⟨g, kn * 4 + 1, none⟩ = some (.string ⟨#[]⟩) ∧ w'.cell? ⟨g, kn * 4 + 2, none⟩ = some (.slice none 0 0) ∧ w'.cell? ⟨g, kn * 4 + 3, none⟩ = some (.slice none 0 0) ∧ ∀ i, w'.frozen? ⟨g, i, none⟩ = false := by
  obtain ⟨g, cap, rfl, h1, h2⟩ := row_form ho (by omega)
  have hl := flat4_len K kn
  refine ⟨g, cap, rfl, h1, h2, ?_, ?_, ?_, ?_, fun i => ho.frozenAt i⟩
  · rw [ho.cellAt (kn * 4) (by omega), List.getElem?_append_right (by omega), hl, Nat.sub_self]; rfl
  · rw [ho.cellAt (kn * 4 + 1) (by omega), List.getElem?_append_right (by omega), hl, Nat.add_sub_cancel_left]; rfl
  · rw [ho.cellAt (kn * 4 + 2) (by omega), List.getElem?_append_right (by omega), hl, Nat.add_sub_cancel_left]; rfl
  · rw [ho.cellAt (kn * 4 + 3) (by omega), List.getElem?_append_right (by omega), hl, Nat.add_sub_cancel_left]; rfl
/-- A block that is not the row's own is as it was. -/
theorem grown_cell {w W w' : World} {row : Option Nat} (hA : Below w.heap.size w W) (hg : W.grownBy w' row) {a : Addr} (hl : a.block < w.heap.size) (hne : some a.block ≠ row) : w'.cell? a = w.cell? a ∧ w'.frozen? a = w.frozen? a := by
  have h1 : w'.heap[a.block]? = w.heap[a.block]? := by rw [hg.block a.block (Nat.lt_of_lt_of_le hl hA.size) hne, hA.block a.block hl]
  exact ⟨World.cell?_of_block h1, World.frozen?_of_block h1⟩
theorem own_ne {W : World} {v v' : Value} {w : World} (hA : Below w.heap.size w W) (hw : v'.ownBlock = v.ownBlock ∨ v'.ownBlock = some W.heap.size) {k : Nat} (hk : k < w.heap.size) (hne : some k ≠ v.ownBlock) : v'.ownBlock ≠ some k := by
  intro e
  rcases hw with h | h
  · exact hne (by rw [← h, e])
  · rw [h] at e; injection e with e; have := hA.size; omega
end Go.Proofs.YtgfaeeacndpniaaDoor
namespace Go.Proofs.YtgfaeeacndpniaaDoor
open Go.RowKit

theorem Tryd.infoItem : ∃ i z, Tryd.prog.info? 31 = some i ∧ i.zero = some z ∧ i.size = 4 ∧ i.bytes = 80 ∧ z.cells.size = 4 := by
  have h : (Tryd.prog.info? 31).map (fun i => (i.zero, i.size, i.bytes)) = some (some (.agg #[.string ⟨#[]⟩, .string ⟨#[]⟩, .slice none 0 0, .slice none 0 0]), 4, 80) := by kernel_rfl
  obtain ⟨i, h1, h2⟩ := Option.map_eq_some_iff.1 h
  simp only [Prod.mk.injEq] at h2
  exact ⟨i, _, h1, h2.1, h2.2.1, h2.2.2, rfl⟩
theorem Tryd.infoStr : ∃ i z, Tryd.prog.info? 9 = some i ∧ i.zero = some z ∧ i.size = 1 ∧ i.bytes = 16 ∧ z.cells.size = 1 := by
  have h : (Tryd.prog.info? 9).map (fun i => (i.zero, i.size, i.bytes)) = some (some (.string ⟨#[]⟩), 1, 16) := by kernel_rfl
  obtain ⟨i, h1, h2⟩ := Option.map_eq_some_iff.1 h
  simp only [Prod.mk.injEq] at h2
  exact ⟨i, _, h1, h2.1, h2.2.1, h2.2.2, rfl⟩
end Go.Proofs.YtgfaeeacndpniaaDoor
namespace Go.Proofs.YtgfaeeacndpniaaDoor
open Go.RowKit Go.Extern.Stop Go.Stop Go.Extern

def sliceA : Value → Option Addr | .slice a _ _ => a | _ => none
def sliceN : Value → Nat | .slice _ n _ => n | _ => 0
def sliceC : Value → Nat | .slice _ _ c => c | _ => 0
def strOf : Value → ByteArray | .string s => s | _ => ⟨#[]⟩
theorem Lies.forms {w : World} {P : Nat → Prop} {v : Nat → Value} {t : It} (h : Lies w P v t) : v 0 = .string t.label ∧ v 1 = .string t.head ∧ (∃ la lc, v 2 = .slice la t.lines.length lc) ∧ ∃ ka kc, v 3 = .slice ka t.kids.length kc := by
  cases h with
  | mk v t la ka lc kc V h0 h1 h2 h3 hl hk hr hlc hkc => exact ⟨h0, h1, ⟨la, lc, h2⟩, ⟨ka, kc, h3⟩⟩
theorem Lies.caps {w : World} {P : Nat → Prop} {v : Nat → Value} {t : It} (h : Lies w P v t) {la ka : Option Addr} {n m lc kc : Nat} (e : v 2 = .slice la n lc) (e' : v 3 = .slice ka m kc) : t.lines.length ≤ lc ∧ t.kids.length ≤ kc := by
  cases h with
  | mk v t la' ka' lc' kc' V h0 h1 h2 h3 hl hk hr hlc hkc =>
    rw [h2] at e
    rw [h3] at e'
    injection e with _ _ e3
    injection e' with _ _ e4
    exact ⟨by omega, by omega⟩
theorem Lies.kidsAt {w : World} {P : Nat → Prop} {v : Nat → Value} {t : It} (h : Lies w P v t) {ka : Option Addr} {n kc : Nat} (e : v 3 = .slice ka n kc) : n = t.kids.length ∧ ∃ V : Nat → Nat → Value, (∀ i, i < t.kids.length → ∃ b o, ka = some ⟨b, o, none⟩ ∧ P b ∧ ∀ c, c < 4 → w.cell? ⟨b, o + i * 4 + c, none⟩ = some (V i c)) ∧ ∀ i k, t.kids[i]? = some k → Lies w P (V i) k := by
  cases h with
  | mk v t la ka' lc kc' V h0 h1 h2 h3 hl hk hr hlc hkc =>
    rw [h3] at e
    injection e with e1 e2 e3
    subst e1 e2 e3
    exact ⟨rfl, V, hk, hr⟩
theorem kids_cells {w : World} {P : Nat → Prop} {kids : List It} {ka : Option Addr} {V : Nat → Nat → Value} (hk : ∀ i, i < kids.length → ∃ b o, ka = some ⟨b, o, none⟩ ∧ P b ∧ ∀ c, c < 4 → w.cell? ⟨b, o + i * 4 + c, none⟩ = some (V i c)) (hr : ∀ i k, kids[i]? = some k → Lies w P (V i) k) :
    ∀ i, i < kids.length → ∃ b o, ka = some ⟨b, o, none⟩ ∧ w.cell? ⟨b, o + i * 4, none⟩ = some (.string (strOf (V i 0))) ∧ w.cell? ⟨b, o + i * 4 + 1, none⟩ = some (.string (strOf (V i 1))) ∧ w.cell? ⟨b, o + i * 4 + 2, none⟩ = some (.slice (sliceA (V i 2)) (sliceN (V i 2)) (sliceC (V i 2))) ∧ w.cell? ⟨b, o + i * 4 + 3, none⟩ = some (.slice (sliceA (V i 3)) (sliceN (V i 3)) (sliceC (V i 3))) := by
  intro i hi
  obtain ⟨b, o, e, _, hc⟩ := hk i hi
  obtain ⟨f0, f1, ⟨la, lc, f2⟩, ⟨kb, kc, f3⟩⟩ := (hr i _ (List.getElem?_eq_getElem hi)).forms
  refine ⟨b, o, e, ?_, ?_, ?_, ?_⟩
  · have := hc 0 (by omega); rw [f0] at this ⊢; exact this
  · have := hc 1 (by omega); rw [f1] at this ⊢; exact this
  · have := hc 2 (by omega); rw [f2] at this ⊢; exact this
  · have := hc 3 (by omega); rw [f3] at this ⊢; exact this
end Go.Proofs.YtgfaeeacndpniaaDoor
namespace Go.Proofs.YtgfaeeacndpniaaDoor
open Go.RowKit Go.Extern.Stop Go.Stop Go.Extern

theorem alloc_two (w : World) (a b : Obj) : ((w.alloc a).alloc b).heap[w.heap.size]? = some a ∧ ((w.alloc a).alloc b).heap[w.heap.size + 1]? = some b := by
  refine ⟨?_, ?_⟩
  · have h1 := Below.heap_alloc (w.alloc a) b w.heap.size (by simp)
    rw [h1]; exact heap_alloc_new w a
  · have h1 := heap_alloc_new (w.alloc a) b
    have h2 : (w.alloc a).heap.size = w.heap.size + 1 := by simp
    rw [h2] at h1; exact h1
/-- The cells of a block of four. -/
theorem four {W : World} {g : Nat} {a b c d : Value} {t : TypeId} (h : W.heap[g]? = some (.cells #[a, b, c, d] t (0, 0))) : W.cell? ⟨g, 0, none⟩ = some a ∧ W.cell? ⟨g, 1, none⟩ = some b ∧ W.cell? ⟨g, 2, none⟩ = some c ∧ W.cell? ⟨g, 3, none⟩ = some d ∧ ∀ i, W.frozen? ⟨g, i, none⟩ = false := by
  simp [World.cell?, World.frozen?, h]
end Go.Proofs.YtgfaeeacndpniaaDoor
namespace Go.Proofs.YtgfaeeacndpniaaDoor
open Go.RowKit

theorem oneNews (w : World) (s : ByteArray) : ∀ (j : Nat) (u : Value), [Value.string s][j]? = some u → (w.alloc (.cells #[Value.string s] 9)).cell? ((⟨w.heap.size, 0, none⟩ : Addr).add j) = some u := by
  intro j u hj
  match j, hj with
  | 0, hj => simp at hj; subst hj; simp [Addr.add]
end Go.Proofs.YtgfaeeacndpniaaDoor
