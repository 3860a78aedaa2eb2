/-
  'coded' by its contracts.
-/
import Derived.Test.YtpbolcjcmkmalaaGreatDoorCo02
import Derived.Deep.QuietTactic
import Derived.BigQuiet
import Derived.Test.YtpbolcjcmkmalaaGreatDoorCo08
import Derived.Laws.OwnMore
import Derived.OneCell
import Derived.Test.YtpbolcjcmkmalaaGreatDoorShelfR
namespace Go.Proofs.YtpbolcjcmkmalaaGreatDoor
open Go.RowKit Go.Extern.Stop Go.Stop Go.Extern

theorem bdrewN {B : Nat} {a w : World} (h : Below B a w) : ∀ n, Below B a (w.drewN n) := fun _ => ⟨h.os, h.tape, h.output, h.size, h.block⟩

end Go.Proofs.YtpbolcjcmkmalaaGreatDoor
namespace Go.Proofs.YtpbolcjcmkmalaaGreatDoor
open Go.RowKit Go.Extern.Stop Go.Stop Go.Extern

theorem hidLL {p : Prop} (h : p) : Hid p := h
/-- All blocks below B are as they were, but for one. -/
structure BelX (B x : Nat) (a w : World) : Prop where
  os : w.os = a.os
  tape : w.tape = a.tape
  output : w.output = a.output
  size : a.heap.size ≤ w.heap.size
  block : ∀ k, k < B → k ≠ x → w.heap[k]? = a.heap[k]?
theorem Below.x {n B : Nat} {a w : World} (h : Below n a w) (x : Nat) (hB : B ≤ n) : BelX B x a w := ⟨h.os, h.tape, h.output, h.size, fun k hk _ => h.block k (by omega)⟩
theorem BelX.refl (B x : Nat) (a : World) : BelX B x a a := ⟨rfl, rfl, rfl, Nat.le_refl _, fun _ _ _ => rfl⟩
theorem BelX.trans {B x : Nat} {a b c : World} (h : BelX B x a b) (h' : BelX B x b c) : BelX B x a c := ⟨h'.os.trans h.os, h'.tape.trans h.tape, h'.output.trans h.output, Nat.le_trans h.size h'.size, fun k hk hx => (h'.block k hk hx).trans (h.block k hk hx)⟩
theorem BelX.setCell {B x : Nat} {a w : World} (h : BelX B x a w) {p : Addr} (hp : B ≤ p.block ∨ p.block = x) (u : Value) : BelX B x a (w.setCell p u) :=
  ⟨h.os, h.tape, h.output, by have := h.size; simp; exact this, fun k hk hx => by rw [Below.heap_setCell _ _ _ _ (by rcases hp with hp | hp; omega; rw [hp]; exact hx)]; exact h.block k hk hx⟩
theorem BelX.grown {B x : Nat} {a w w' : World} {row : Option Nat} (h : BelX B x a w) (hg : w.grownBy w' row) (hB : B ≤ w.heap.size) (hr : ∀ k, row = some k → B ≤ k) : BelX B x a w' :=
  ⟨hg.os.trans h.os, hg.tape.trans h.tape, hg.output.trans h.output, Nat.le_trans h.size hg.size, fun k hk hx => by
    rw [hg.block k (by omega) (fun e => by have := hr k e.symm; omega)]; exact h.block k hk hx⟩
theorem BelX.down {B x n : Nat} {a w : World} (h : BelX B x a w) (h1 : n ≤ B) (h2 : n ≤ x) : Below n a w := ⟨h.os, h.tape, h.output, h.size, fun k hk => h.block k (by omega) (by omega)⟩
theorem BelX.cell {B x : Nat} {a w : World} (h : BelX B x a w) {p : Addr} (h1 : p.block < B) (h2 : p.block ≠ x) : w.cell? p = a.cell? p := World.cell?_of_block (h.block _ h1 h2)
/-- An item lies in memory, all its rows in blocks of a kind. -/
inductive Lies (w : World) (P : Nat → Prop) : (Nat → Value) → It → Prop
  | mk (v : Nat → Value) (t : It) (la ka : Option Addr) (lc kc : Nat) (V : Nat → Nat → Value)
    (h0 : v 0 = .string t.label) (h1 : v 1 = .string t.head) (h2 : v 2 = .slice la t.lines.length lc) (h3 : v 3 = .slice ka t.kids.length kc)
    (hl : ∀ i s, t.lines[i]? = some s → ∃ b o, la = some ⟨b, o, none⟩ ∧ P b ∧ w.cell? ⟨b, o + i, none⟩ = some (.string s))
    (hk : ∀ i, i < t.kids.length → ∃ b o, ka = some ⟨b, o, none⟩ ∧ P b ∧ ∀ c, c < 4 → w.cell? ⟨b, o + i * 4 + c, none⟩ = some (V i c))
    (hr : ∀ i k, t.kids[i]? = some k → Lies w P (V i) k) (hlc : t.lines.length ≤ lc) (hkc : t.kids.length ≤ kc) : Lies w P v t
theorem row_cap {w : World} {B e s : Nat} {a : Option Addr} {n c : Nat} {xs : List Value} (h : w.ownsRow B e s (.slice a n c) n xs) : n ≤ c := by
  rcases h.2 with ⟨_, h0⟩ | ⟨g, cap, cur, e1, hb, hgg, h1, _⟩
  · omega
  · injection e1 with _ _ e3
    omega
theorem cell_lt {w : World} {b i : Nat} {v : Value} (h : w.cell? ⟨b, i, none⟩ = some v) : b < w.heap.size := World.block_lt_of_cell? w ⟨b, i, none⟩ h
theorem Lies.step {w w' : World} {P P' : Nat → Prop} {v : Nat → Value} {t : It} (h : Lies w P v t) : (∀ b, b < w.heap.size → P b → w'.heap[b]? = w.heap[b]? ∧ P' b) → Lies w' P' v t := by
  induction h with
  | mk v t la ka lc kc V h0 h1 h2 h3 hl hk hr hlc hkc ih =>
    intro hh
    refine .mk v t la ka lc kc V h0 h1 h2 h3 (fun i s hs => ?_) (fun i hi => ?_) (fun i k e => ih i k e hh) hlc hkc
    · obtain ⟨b, o, e, p, c⟩ := hl i s hs
      have := hh b (cell_lt c) p
      exact ⟨b, o, e, this.2, (World.cell?_of_block (a := ⟨b, o + i, none⟩) this.1).trans c⟩
    · obtain ⟨b, o, e, p, c⟩ := hk i hi
      have := hh b (cell_lt (c 0 (by omega))) p
      exact ⟨b, o, e, this.2, fun q hq => (World.cell?_of_block (a := ⟨b, o + i * 4 + q, none⟩) this.1).trans (c q hq)⟩
theorem Lies.bel {w w' : World} {P : Nat → Prop} {v : Nat → Value} {t : It} (h : Lies w P v t) (hb : Below w.heap.size w w') : Lies w' P v t := h.step fun b hb' p => ⟨hb.block b hb', p⟩
theorem Lies.all {w : World} {P : Nat → Prop} {v : Nat → Value} {t : It} (h : Lies w P v t) : Lies w (fun _ => True) v t := h.step fun _ _ _ => ⟨rfl, trivial⟩

/-- A row of items as cells. -/
def flat4 (V : Nat → Nat → Value) (n : Nat) : List Value := (List.range (n * 4)).map fun q => V (q / 4) (q % 4)
theorem flat4_len (V : Nat → Nat → Value) (n : Nat) : (flat4 V n).length = n * 4 := by unfold flat4; simp
theorem flat4_get (V : Nat → Nat → Value) (n j c : Nat) (hj : j < n) (hc : c < 4) : (flat4 V n)[j * 4 + c]? = some (V j c) := by
  unfold flat4
  rw [List.getElem?_map, List.getElem?_range (by omega)]
  simp only [Option.map_some, Option.some.injEq]
  rw [show (j * 4 + c) / 4 = j by omega, show (j * 4 + c) % 4 = c by omega]
theorem flat4_congr {V V' : Nat → Nat → Value} {n : Nat} (h : ∀ j c, j < n → c < 4 → V j c = V' j c) : flat4 V n = flat4 V' n := by
  unfold flat4
  refine List.map_congr_left fun q hq => ?_
  rw [List.mem_range] at hq
  exact h _ _ (by omega) (by omega)
def snocV (V : Nat → Nat → Value) (n : Nat) (x : Nat → Value) : Nat → Nat → Value := fun j => if j = n then x else V j
theorem flat4_snoc (V : Nat → Nat → Value) (n : Nat) (x : Nat → Value) : flat4 V n ++ [x 0, x 1, x 2, x 3] = flat4 (snocV V n x) (n + 1) := by
  apply List.ext_getElem?
  intro q
  rcases Nat.lt_or_ge q (n * 4) with h | h
  · rw [List.getElem?_append_left (by rw [flat4_len]; exact h)]
    have e : q = q / 4 * 4 + q % 4 := by omega
    rw [e, flat4_get _ _ _ _ (by omega) (by omega), flat4_get _ _ _ _ (by omega) (by omega)]
    unfold snocV
    rw [if_neg (by omega)]
  · rw [List.getElem?_append_right (by rw [flat4_len]; exact h), flat4_len]
    rcases Nat.lt_or_ge q ((n + 1) * 4) with h2 | h2
    · have e : q = n * 4 + (q - n * 4) := by omega
      obtain ⟨c, hc⟩ : ∃ c, c = q - n * 4 := ⟨_, rfl⟩
      rw [e, flat4_get _ _ _ _ (by omega) (by omega), ← hc]
      unfold snocV
      rw [if_pos rfl]
      rw [show n * 4 + c - n * 4 = c by omega]
      have : c < 4 := by omega
      match c, this with
      | 0, _ => rfl
      | 1, _ => rfl
      | 2, _ => rfl
      | 3, _ => rfl
    · rw [List.getElem?_eq_none (by simp; omega), List.getElem?_eq_none (by rw [flat4_len]; exact h2)]
def putV (V : Nat → Nat → Value) (j c : Nat) (u : Value) : Nat → Nat → Value := fun a b => if a = j ∧ b = c then u else V a b
theorem flat4_set (V : Nat → Nat → Value) (n j c : Nat) (u : Value) (hj : j < n) (hc : c < 4) : (flat4 V n).set (j * 4 + c) u = flat4 (putV V j c u) n := by
  apply List.ext_getElem?
  intro q
  rcases Nat.lt_or_ge q (n * 4) with h | h
  · have e : q = q / 4 * 4 + q % 4 := by omega
    by_cases hq : q = j * 4 + c
    · rw [hq, List.getElem?_set_self (by rw [flat4_len]; omega), flat4_get _ _ _ _ hj hc]
      unfold putV
      rw [if_pos ⟨rfl, rfl⟩]
    · rw [List.getElem?_set_ne (by omega), e, flat4_get _ _ _ _ (by omega) (by omega), flat4_get _ _ _ _ (by omega) (by omega)]
      unfold putV
      rw [if_neg (by omega)]
  · rw [List.getElem?_eq_none (by simp [flat4_len]; omega), List.getElem?_eq_none (by rw [flat4_len]; omega)]
theorem flat4_take (V : Nat → Nat → Value) (n m : Nat) (h : m ≤ n) : (flat4 V n).take (m * 4) = flat4 V m := by
  apply List.ext_getElem?
  intro q
  rw [List.getElem?_take]
  split
  · have e : q = q / 4 * 4 + q % 4 := by omega
    rw [e, flat4_get _ _ _ _ (by omega) (by omega), flat4_get _ _ _ _ (by omega) (by omega)]
  · rw [List.getElem?_eq_none (by rw [flat4_len]; omega)]

theorem row_step {w w' : World} {B e s : Nat} {v : Value} {n : Nat} {xs : List Value} (h : w.ownsRow B e s v n xs) (hk : ∀ g, v.ownBlock = some g → g < w.heap.size → w'.heap[g]? = w.heap[g]?) : w'.ownsRow B e s v n xs := by
  refine ⟨h.1, ?_⟩
  rcases h.2 with hn | ⟨g, cap, cur, rfl, hb, hgg, rest⟩
  · exact .inl hn
  · exact .inr ⟨g, cap, cur, rfl, hb, (hk g rfl (Array.getElem?_eq_some_iff.1 hgg).1).trans hgg, rest⟩
theorem row_take {w : World} {B e s : Nat} {a : Option Addr} {c n : Nat} {xs : List Value} (h : w.ownsRow B e s (.slice a n c) n xs) (m : Nat) (hm : m ≤ n) : w.ownsRow B e s (.slice a m c) m (xs.take (m * s)) := by
  have hle : m * s ≤ n * s := Nat.mul_le_mul_right _ hm
  refine ⟨by rw [List.length_take, h.1]; omega, ?_⟩
  rcases h.2 with ⟨hn, h0⟩ | ⟨g, cap, cur, e1, hb, hgg, h1, h2, h3, h4⟩
  · injection hn with h5 h6 h7
    subst h5 h7 h0
    obtain rfl : m = 0 := by omega
    exact .inl ⟨rfl, rfl⟩
  · injection e1 with h5 h6 h7
    subst h5 h7
    refine .inr ⟨g, c, cur, rfl, hb, hgg, by omega, h2, h3, ?_⟩
    rw [← h4, List.take_take, Nat.min_eq_left hle]
/-- The value of a row that is not empty. -/
theorem row_form {w : World} {B e s : Nat} {v : Value} {n : Nat} {xs : List Value} (h : w.ownsRow B e s v n xs) (hn : 0 < n) : ∃ g cap, v = .slice (some ⟨g, 0, none⟩) n cap ∧ g < w.heap.size ∧ B ≤ g := by
  rcases h.2 with ⟨_, h0⟩ | ⟨g, cap, cur, rfl, hb, hgg, _⟩
  · omega
  · exact ⟨g, cap, rfl, (Array.getElem?_eq_some_iff.1 hgg).1, hb⟩
theorem row_any {w : World} {B e s : Nat} {v : Value} {n : Nat} {xs : List Value} (h : w.ownsRow B e s v n xs) : ∃ a cap, v = .slice a n cap := by
  rcases h.2 with ⟨rfl, rfl⟩ | ⟨g, cap, cur, rfl, _⟩
  · exact ⟨_, _, rfl⟩
  · exact ⟨_, _, rfl⟩

/-- 'append' tells in which block the new row lies: in the old one's, or in a new one. -/
theorem append_where {P : Program} (w : World) (B : Nat) (t ty e : TypeId) (i : TypeInfo) (zv : Value) (size bytes : Nat) (ht : P.underlying t = some (.slice e)) (hi : P.info? e = some i) (hz : i.zero = some zv)
    (hsize : i.size = size) (hby : i.bytes = bytes) (v : Value) (n : Nat) (xs : List Value) (hown : w.ownsRow B e size v n xs)
    (a : Addr) (m c : Nat) (news : List Value) (hl : news.length = m * size) (hnews : ∀ j u, news[j]? = some u → w.cell? (a.add j) = some u) (h1 : ∀ u ∈ news, u.oneCell' = true) (hm : 0 < m)
    (h63 : n + m ≤ maxLen) (hbytes : (n + m) * bytes ≤ 140737488355328) (v' : Value) (w' : World) (hr : (Builtin.append_ #[t, t] ty #[v, .slice (some a) m c]).run P w = .ok v' w') :
    v'.ownBlock = v.ownBlock ∨ v'.ownBlock = some w.heap.size := by
  subst hsize
  subst hby
  have hsmall : n + m ≤ 9223372036854775807 := by simp only [maxLen] at h63; omega
  rcases hown.2 with ⟨rfl, rfl⟩ | ⟨g, cap, cur, rfl, hbg, hg, hnc, hcm, hcs, htake⟩
  · have hr2 := run_append_nil (P := P) w t ty e i zv ht hi hz a m c news hl hnews (by omega) (by omega) (by have hb := hbytes; simp only [Nat.zero_add] at hb; omega)
    rw [hr2] at hr
    injection hr with e1 e2
    subst e1
    exact .inr rfl
  · by_cases hroom : n + m ≤ cap
    · have hfit : n * i.size + news.length ≤ cur.size := by rw [hl, hcs, ← Nat.add_mul]; exact Nat.mul_le_mul_right _ hroom
      have hr2 := run_append_room (P := P) w t ty e i ht hi g n cap cur hg a m c news hl hnews h1 hroom hfit
      rw [hr2] at hr
      injection hr with e1 e2
      subst e1
      exact .inl rfl
    · have hr2 := run_append_grow (P := P) w t ty e i zv ht hi hz ⟨g, 0, none⟩ n cap xs hown.1 (hown.cells (g := g) rfl) a m c news hl hnews (by omega) (by omega) (growslice_fits (by omega) hbytes)
      rw [hr2] at hr
      injection hr with e1 e2
      subst e1
      exact .inr rfl
theorem wpList_append_where {P : Program} (w : World) {ops : Array Oper} {rest : List Oper} {o : Oper} {a : Act} {Q : Exit → Act → World → Prop} (hgd : o.guard = none) (s x : Operand) (t : TypeId)
    (ho : o.op = .call { callee := .builtin .append, args := #[s, x], argTypes := #[t, t] })
    (B : Nat) (e : TypeId) (i : TypeInfo) (z : Value) (size bytes : Nat) (ht : P.underlying t = some (.slice e)) (hi : P.info? e = some i) (hz : i.zero = some z)
    (hsize : i.size = size) (hby : i.bytes = bytes) (hzs : z.cells.size = size) (hsz : 0 < size)
    (v : Value) (n : Nat) (xs : List Value) (hs : a.eval s = v) (hown : w.ownsRow B e size v n xs)
    (ad : Addr) (m c : Nat) (news : List Value) (hx : a.eval x = .slice (some ad) m c) (hl : news.length = m * size) (hnews : ∀ j u, news[j]? = some u → w.cell? (ad.add j) = some u) (h1 : ∀ u ∈ news, u.oneCell' = true) (hm : 0 < m)
    (h63 : n + m ≤ maxLen) (hbytes : (n + m) * bytes ≤ 140737488355328) (hbase : B ≤ w.heap.size)
    (h : ∀ v' w', w'.ownsRow B e size v' (n + m) (xs ++ news) → w.grownBy w' v.ownBlock → (v'.ownBlock = v.ownBlock ∨ v'.ownBlock = some w.heap.size) → wpList P ops Q rest (a.put o.dst v') w') : wpList P ops Q (o :: rest) a w := by
  refine wpList_plain hgd fun K hK => ?_
  obtain ⟨v', w', hr, h2, h3, h4⟩ := run_append_own (P := P) w B t o.type e i z size bytes ht hi hz hsize hby hzs hsz v n xs hown ad m c news hl hnews h1 h63 hbytes hbase
  have h5 := append_where (P := P) w B t o.type e i z size bytes ht hi hz hsize hby v n xs hown ad m c news hl hnews h1 hm h63 hbytes v' w' hr
  unfold Oper.wp execOp
  simp only [ho, resolve, invoke, builtin, Sem.run_bind, Sem.run_pure, Result.andThen_ok, List.map_toArray, List.map_cons, List.map_nil, hs, hx, hr]
  exact hK _ _ (h v' w' h2 h3 h5)

end Go.Proofs.YtpbolcjcmkmalaaGreatDoor
namespace Go.Proofs.YtpbolcjcmkmalaaGreatDoor
open Go.RowKit Go.Extern.Stop Go.Stop Go.Extern

def errI (a : Addr) : Value := .iface 214 (.pointer (some a))
/-- What stands behind the mark of a blank. -/
noncomputable def tx (r : ByteArray) : ByteArray := if startsAt r 32 = true then r.extract 1 r.size else r
theorem startsAt_get {r : ByteArray} (h : r.size ≠ 0) (c : Nat) : startsAt r c = (r[0].toNat == c) := by unfold startsAt; rw [dif_pos (by omega)]
theorem rt_nil {r : ByteArray} (h : r.size = 0) : rt r = (0, ⟨#[]⟩) := by unfold rt; rw [dif_pos h]
theorem rt_long {r : ByteArray} (h : r.size ≠ 0) (h2 : 300 < (tx r).size) : rt r = (2, ⟨#[]⟩) := by
  unfold rt tx at *
  rw [startsAt_get h] at h2
  rw [dif_neg h]
  by_cases h1 : r[0].toNat = 32
  · rw [if_pos (by simpa using h1)] at h2; rw [if_pos h1, if_pos h2]
  · rw [if_neg (by simpa using h1)] at h2; rw [if_neg h1, if_pos h2]
theorem rt_bad {r : ByteArray} (h : r.size ≠ 0) (h2 : (tx r).size ≤ 300) (h3 : startsAt r 32 = false ∨ (tx r).size = 0 ∨ lineB (tx r) = false) : rt r = (1, ⟨#[]⟩) := by
  unfold rt tx at *
  rw [startsAt_get h] at h2 h3
  rw [dif_neg h]
  by_cases h1 : r[0].toNat = 32
  · have h1' : (r[0].toNat == 32) = true := by simpa using h1
    rw [if_pos h1'] at h2 h3; rw [if_pos h1, if_neg (by omega), if_pos (by rcases h3 with h3 | h3; rw [h1'] at h3; cases h3; exact h3)]
  · rw [if_neg (by simpa using h1)] at h2; rw [if_neg h1, if_neg (by omega)]
theorem rt_good {r : ByteArray} (h : r.size ≠ 0) (h1 : startsAt r 32 = true) (h2 : (tx r).size ≤ 300) (h3 : (tx r).size ≠ 0) (h4 : lineB (tx r) = true) : rt r = (0, tx r) := by
  unfold rt tx at *
  rw [if_pos h1] at h2 h3 h4 ⊢
  rw [startsAt_get h] at h1
  have h1' : r[0].toNat = 32 := by simpa using h1
  rw [dif_neg h, if_pos h1', if_neg (by omega), if_neg (by rw [h4]; simpa using h3)]
theorem tx_cut (r : ByteArray) : (⟨(Lib.trimPrefix r.data.toList [32]).toArray⟩ : ByteArray) = tx r := by
  unfold tx
  have e : Lib.hasPrefix r.data.toList [32] = startsAt r 32 := starts_pre r 32
  cases hb : startsAt r 32
  · rw [if_neg (by decide)]; exact cutP_no r [32] (by rw [e, hb])
  · rw [if_pos rfl]; exact cutP_yes r [32] (by rw [e, hb])
theorem tx_le (r : ByteArray) : (tx r).size ≤ r.size := by
  unfold tx
  split
  · rw [ByteArray.size_extract]; omega
  · omega
theorem empty_str (r : ByteArray) : (r.toList == (⟨#[]⟩ : ByteArray).toList) = decide (r.size = 0) := by
  rw [Bool.eq_iff_iff, beq_iff_eq, decide_eq_true_eq, Lib.toList_data, Lib.toList_data]
  constructor
  · intro h; rw [← size_bl]; show r.data.toList.length = 0; rw [h]; rfl
  · intro h; exact List.eq_nil_of_length_eq_zero (by rw [← size_bl] at h; exact h)
theorem empty_is (r : ByteArray) : r.toList.isEmpty = decide (r.size = 0) := by
  rw [Bool.eq_iff_iff, List.isEmpty_iff, decide_eq_true_eq, Lib.toList_data]
  constructor
  · intro h; rw [← size_bl]; show r.data.toList.length = 0; rw [h]; rfl
  · intro h; exact List.eq_nil_of_length_eq_zero (by rw [← size_bl] at h; exact h)
end Go.Proofs.YtpbolcjcmkmalaaGreatDoor
