/-
  Package reason: literals and standings while they are built. No walk.
-/
import Derived.Test.YtmbclnaenjcocaaGreatDoorRsP7
import Derived.Deep.RegionLaw
import Derived.Deep.DeepCutAuto
namespace Go.Proofs.YtmbclnaenjcocaaGreatDoor
open Go.RowKit

theorem row_step {w w' : World} {B e s : Nat} {v : Value} {n : Nat} {xs : List Value} (h : w.ownsRow B e s v n xs) (hk : ∀ g, v.ownBlock = some g → g < w.heap.size → w'.heap[g]? = w.heap[g]?) : w'.ownsRow B e s v n xs := by
  refine ⟨h.1, ?_⟩
  rcases h.2 with hn | ⟨g, cap, cur, rfl, hb, hgg, rest⟩
  · exact .inl hn
  · exact .inr ⟨g, cap, cur, rfl, hb, (hk g rfl (Array.getElem?_eq_some_iff.1 hgg).1).trans hgg, rest⟩
theorem row_any {w : World} {B e s : Nat} {v : Value} {n : Nat} {xs : List Value} (h : w.ownsRow B e s v n xs) : ∃ a cap, v = .slice a n cap := by
  rcases h.2 with ⟨rfl, rfl⟩ | ⟨g, cap, cur, rfl, _⟩
  · exact ⟨_, _, rfl⟩
  · exact ⟨_, _, rfl⟩
theorem row_blk {w : World} {B e s : Nat} {v : Value} {n : Nat} {xs : List Value} (h : w.ownsRow B e s v n xs) {g : Nat} (hg : v.ownBlock = some g) : B ≤ g ∧ g < w.heap.size := by
  rcases h.2 with ⟨rfl, rfl⟩ | ⟨g', cap, cur, rfl, hb, hgg, _⟩
  · cases hg
  · injection hg with hg
    subst hg
    exact ⟨hb, (Array.getElem?_eq_some_iff.1 hgg).1⟩
/-- 'append' tells in which block the new row lies: in the old one's, or in a new one. -/
theorem append_where {P : Program} (w : World) (B : Nat) (t ty e : TypeId) (i : TypeInfo) (zv : Value) (size bytes : Nat) (ht : P.underlying t = some (.slice e)) (hi : P.info? e = some i) (hz : i.zero = some zv)
    (hsize : i.size = size) (hby : i.bytes = bytes) (v : Value) (n : Nat) (xs : List Value) (hown : w.ownsRow B e size v n xs)
    (a : Addr) (m c : Nat) (news : List Value) (hl : news.length = m * size) (hnews : ∀ j u, news[j]? = some u → w.cell? (a.add j) = some u) (h1 : ∀ u ∈ news, u.oneCell' = true) (hm : 0 < m)
    (h63 : n + m ≤ maxLen) (hbytes : (n + m) * bytes ≤ 140737488355328) (v' : Value) (w' : World) (hr : (Builtin.append_ #[t, t] ty #[v, .slice (some a) m c]).run P w = .ok v' w') :
    v'.ownBlock = v.ownBlock ∨ v'.ownBlock = some w.heap.size := by
  subst hsize
  subst hby
  have hsmall : n + m ≤ 9223372036854775807 := by simp only [maxLen] at h63; omega
  rcases hown.2 with ⟨rfl, rfl⟩ | ⟨g, cap, cur, rfl, hbg, hg, hnc, hcm, hcs, htake⟩
  · have hr2 := run_append_nil (P := P) w t ty e i zv ht hi hz a m c news hl hnews (by omega) (by omega) (by have hb := hbytes; simp only [Nat.zero_add] at hb; omega)
    rw [hr2] at hr
    injection hr with e1 e2
    subst e1
    exact .inr rfl
  · by_cases hroom : n + m ≤ cap
    · have hfit : n * i.size + news.length ≤ cur.size := by rw [hl, hcs, ← Nat.add_mul]; exact Nat.mul_le_mul_right _ hroom
      have hr2 := run_append_room (P := P) w t ty e i ht hi g n cap cur hg a m c news hl hnews h1 hroom hfit
      rw [hr2] at hr
      injection hr with e1 e2
      subst e1
      exact .inl rfl
    · have hr2 := run_append_grow (P := P) w t ty e i zv ht hi hz ⟨g, 0, none⟩ n cap xs hown.1 (hown.cells (g := g) rfl) a m c news hl hnews (by omega) (by omega) (growslice_fits (by omega) hbytes)
      rw [hr2] at hr
      injection hr with e1 e2
      subst e1
      exact .inr rfl
theorem step_append_where {P : Program} {ops : Array Oper} {o : Oper} {a : Act} {w : World} {K : Act → World → Prop} {Q : Exit → Act → World → Prop} {E : Prop}
    (hgd : o.guard = none) (s x : Operand) (t : TypeId) (ho : o.op = Op.call { callee := Callee.builtin Builtin.append, args := #[s, x], argTypes := #[t, t] })
    (B : Nat) (e : TypeId) (i : TypeInfo) (z : Value) (size bytes : Nat) (ht : P.underlying t = some (.slice e)) (hi : P.info? e = some i) (hz : i.zero = some z) (hsize : i.size = size) (hby : i.bytes = bytes) (hzs : z.cells.size = size) (hsz : 0 < size)
    (v : Value) (n : Nat) (xs : List Value) (hs : a.eval s = v) (hown : w.ownsRow B e size v n xs)
    (ad : Addr) (m c : Nat) (news : List Value) (hx : a.eval x = .slice (some ad) m c) (hl : news.length = m * size) (hnews : ∀ j u, news[j]? = some u → w.cell? (ad.add j) = some u) (h1 : ∀ u ∈ news, u.oneCell' = true) (hm : 0 < m)
    (h63 : n + m ≤ maxLen) (hbytes : (n + m) * bytes ≤ 140737488355328) (hbase : B ≤ w.heap.size)
    (hK : ∀ v' w', w'.ownsRow B e size v' (n + m) (xs ++ news) → w.grownBy w' v.ownBlock → (v'.ownBlock = v.ownBlock ∨ v'.ownBlock = some w.heap.size) → K (a.put o.dst v') w') :
    if Region.wanted o (yielded ops a.tmps) = true then Oper.wp P o a w K Q else E := by
  have hw : Region.wanted o (yielded ops a.tmps) = true := by simp [Region.wanted, hgd]
  rw [if_pos hw]
  obtain ⟨v', w', hr, h2, h3, h4⟩ := run_append_own (P := P) w B t o.type e i z size bytes ht hi hz hsize hby hzs hsz v n xs hown ad m c news hl hnews h1 h63 hbytes hbase
  have h5 := append_where (P := P) w B t o.type e i z size bytes ht hi hz hsize hby v n xs hown ad m c news hl hnews h1 hm h63 hbytes v' w' hr
  unfold Oper.wp
  simp [execOp, ho, resolve, invoke, builtin, hs, hx, hr, Result.andThen]
  exact hK v' w' h2 h3 h5
theorem alloc_cell (W : World) (cs : List Value) (T j : Nat) (u : Value) (h : cs[j]? = some u) : (W.alloc (.cells cs.toArray T)).cell? ((⟨W.heap.size, 0, none⟩ : Addr).add j) = some u := by
  have h6 : (⟨W.heap.size, 0, none⟩ : Addr).add j = ⟨W.heap.size, j, none⟩ := by
    unfold Addr.add
    split
    · rename_i h0
      rw [h0]
    · simp
  rw [h6, cell_of_row _ _ j cs.toArray T (0, 0) (blk_new W _)]
  simpa using h
def ptrs (bR : Nat) (l : List Nat) : List Value := l.map (fun i => .pointer (some ⟨bR, i * 7, none⟩))
theorem ptrs_app (bR : Nat) (a b : List Nat) : ptrs bR (a ++ b) = ptrs bR a ++ ptrs bR b := by unfold ptrs; rw [List.map_append]
def s00 : St := ⟨fun _ => 0, fun _ => 0, fun _ => 0, fun _ => 0, fun _ => 0, fun _ => 0⟩
def vsOf (N : Nat) (v : Nat → Value) (bv : Nat → Value) (B : Nat) : Vs := ⟨v, fun p => v (2 * N + p), fun i => v (4 * N + i), bv, B⟩
/-- Being built: rows' values v, what is in them l, kinds and counts so far. -/
structure Bld (w0 : World) (bL bR N R : Nat) (w : World) (v : Nat → Value) (l : Nat → List Nat) (kd us : Nat → Int) (bv : Nat → Value) (B : Nat) : Prop where
  rowL : w.rowIs bL 97 (2 * N * 6) (litF bL (vsOf N v bv B) s00)
  rowR : w.rowIs bR 124 (R * 7) (stF ⟨N, R, kd, fun _ => [], fun _ => [], fun _ => [], fun _ => []⟩ (vsOf N v bv B) ⟨fun _ => 0, fun _ => 0, us, us, fun _ => 0, fun _ => 0⟩)
  row : ∀ k, k < 4 * N + R → w.ownsRow (bR + 1) 125 1 (v k) (l k).length (ptrs bR (l k))
  ne : ∀ j k, j < 4 * N + R → k < 4 * N + R → j ≠ k → ∀ g, (v j).ownBlock = some g → (v k).ownBlock ≠ some g
  o : bL < bR
  o1 : w0.heap.size ≤ bL
  bel : Below w0.heap.size w0 w
theorem Bld.lt {w0 : World} {bL bR N R : Nat} {w : World} {v : Nat → Value} {l : Nat → List Nat} {kd us : Nat → Int} {bv : Nat → Value} {B : Nat} (h : Bld w0 bL bR N R w v l kd us bv B) : bR < w.heap.size := h.rowR.lt
theorem Bld.on {w0 : World} {bL bR N R : Nat} {w w' : World} {v : Nat → Value} {l : Nat → List Nat} {kd us : Nat → Int} {bv : Nat → Value} {B : Nat} (h : Bld w0 bL bR N R w v l kd us bv B) (hb : Below w.heap.size w w') : Bld w0 bL bR N R w' v l kd us bv B := by
  have h1 := h.lt
  have h2 := h.o
  have h3 := h.o1
  exact ⟨h.rowL.of_block (hb.block _ (by omega)), h.rowR.of_block (hb.block _ h1), fun k hk => row_step (h.row k hk) fun g _ hl => hb.block g hl, h.ne, h.o, h.o1, h.bel.trans (hb.mono (by omega))⟩
theorem Bld.same {w0 : World} {bL bR N R : Nat} {w : World} {v : Nat → Value} {l l' : Nat → List Nat} {kd us : Nat → Int} {bv : Nat → Value} {B : Nat} (h : Bld w0 bL bR N R w v l kd us bv B) (e : ∀ k, k < 4 * N + R → l k = l' k) : Bld w0 bL bR N R w v l' kd us bv B :=
  ⟨h.rowL, h.rowR, fun k hk => by rw [← e k hk]; exact h.row k hk, h.ne, h.o, h.o1, h.bel⟩
/-- Where the value of a row lies. -/
def cellAt (bL bR N k : Nat) : Addr := if k < 2 * N then ⟨bL, k * 6 + 2, none⟩ else if k < 4 * N then ⟨bL, (k - 2 * N) * 6 + 3, none⟩ else ⟨bR, (k - 4 * N) * 7 + 2, none⟩
/-- One pointer more at the end of row k: its block has grown, or there is a new one; the cell holds the new value. -/
theorem Bld.push {w0 : World} {bL bR N R : Nat} {w W w' : World} {v : Nat → Value} {l : Nat → List Nat} {kd us : Nat → Int} {bv : Nat → Value} {B : Nat} (h : Bld w0 bL bR N R w v l kd us bv B) {k i : Nat} (hk : k < 4 * N + R) {v' : Value} (hW : Below w.heap.size w W)
    (ho : w'.ownsRow (bR + 1) 125 1 v' ((l k).length + 1) (ptrs bR (l k) ++ [.pointer (some ⟨bR, i * 7, none⟩)])) (hg : W.grownBy w' (v k).ownBlock) (hw : v'.ownBlock = (v k).ownBlock ∨ v'.ownBlock = some W.heap.size) :
    Bld w0 bL bR N R (w'.setCell (cellAt bL bR N k) v') (upd v k v') (upd l k (l k ++ [i])) kd us bv B := by
  have h1 := h.lt
  have h2 := h.o
  have h3 := h.o1
  have hWs := hW.size
  have hnk : ∀ g, (v k).ownBlock = some g → bR + 1 ≤ g ∧ g < w.heap.size := fun g e => row_blk (h.row k hk) e
  -- blocks of w but k's own are as they were
  have hkeep : ∀ b, b < w.heap.size → (v k).ownBlock ≠ some b → w'.heap[b]? = w.heap[b]? := fun b hb hne => by
    rw [hg.block b (by omega) (fun e => hne e.symm)]
    exact hW.block b hb
  have hcb : (cellAt bL bR N k).block = bL ∨ (cellAt bL bR N k).block = bR := by unfold cellAt; split; exact .inl rfl; split; exact .inl rfl; exact .inr rfl
  have hL' : w'.heap[bL]? = w.heap[bL]? := hkeep bL (by omega) fun e => by have := hnk _ e; omega
  have hR' : w'.heap[bR]? = w.heap[bR]? := hkeep bR h1 fun e => by have := hnk _ e; omega
  have hset : ∀ b, b ≠ bL → b ≠ bR → (w'.setCell (cellAt bL bR N k) v').heap[b]? = w'.heap[b]? := fun b e1 e2 => Below.heap_setCell _ _ _ _ (by rcases hcb with e | e <;> rw [e] <;> assumption)
  refine ⟨?_, ?_, ?_, ?_, h.o, h.o1, ?_⟩
  · have hl0 := h.rowL.of_block hL'
    unfold cellAt
    split
    · rename_i hc
      refine (hl0.set (k * 6 + 2) v').congr fun x hx => ?_
      by_cases e : x = k * 6 + 2
      · rw [if_pos e, e]
        unfold litF
        rw [show (k * 6 + 2) % 6 = 2 by omega, show (k * 6 + 2) / 6 = k by omega]
        show v' = upd v k v' k
        unfold upd; rw [if_pos rfl]
      · rw [if_neg e]
        unfold litF
        have h5 : x % 6 < 6 := Nat.mod_lt _ (by omega)
        match hm : x % 6, h5 with
        | 0, _ => rfl
        | 1, _ => rfl
        | 2, _ =>
          show v (x / 6) = upd v k v' (x / 6)
          unfold upd; rw [if_neg (by omega)]
        | 3, _ =>
          show v (2 * N + x / 6) = upd v k v' (2 * N + x / 6)
          unfold upd; rw [if_neg (by omega)]
        | 4, _ => rfl
        | 5, _ => rfl
    · split
      · rename_i hc hc2
        refine (hl0.set ((k - 2 * N) * 6 + 3) v').congr fun x hx => ?_
        by_cases e : x = (k - 2 * N) * 6 + 3
        · rw [if_pos e, e]
          unfold litF
          rw [show ((k - 2 * N) * 6 + 3) % 6 = 3 by omega, show ((k - 2 * N) * 6 + 3) / 6 = k - 2 * N by omega]
          show v' = upd v k v' (2 * N + (k - 2 * N))
          unfold upd; rw [if_pos (by omega)]
        · rw [if_neg e]
          unfold litF
          have h5 : x % 6 < 6 := Nat.mod_lt _ (by omega)
          match hm : x % 6, h5 with
          | 0, _ => rfl
          | 1, _ => rfl
          | 2, _ =>
            show v (x / 6) = upd v k v' (x / 6)
            unfold upd; rw [if_neg (by omega)]
          | 3, _ =>
            show v (2 * N + x / 6) = upd v k v' (2 * N + x / 6)
            unfold upd; rw [if_neg (by omega)]
          | 4, _ => rfl
          | 5, _ => rfl
      · rename_i hc hc2
        refine (hl0.setOther (by show bL ≠ bR; omega) v').congr fun x hx => ?_
        unfold litF
        have h5 : x % 6 < 6 := Nat.mod_lt _ (by omega)
        match hm : x % 6, h5 with
        | 0, _ => rfl
        | 1, _ => rfl
        | 2, _ =>
          show v (x / 6) = upd v k v' (x / 6)
          unfold upd; rw [if_neg (by omega)]
        | 3, _ =>
          show v (2 * N + x / 6) = upd v k v' (2 * N + x / 6)
          unfold upd; rw [if_neg (by omega)]
        | 4, _ => rfl
        | 5, _ => rfl
  · have hr0 := h.rowR.of_block hR'
    have oth : ∀ x, x < R * 7 → k < 4 * N → stF ⟨N, R, kd, fun _ => [], fun _ => [], fun _ => [], fun _ => []⟩ (vsOf N v bv B) ⟨fun _ => 0, fun _ => 0, us, us, fun _ => 0, fun _ => 0⟩ x = stF ⟨N, R, kd, fun _ => [], fun _ => [], fun _ => [], fun _ => []⟩ (vsOf N (upd v k v') bv B) ⟨fun _ => 0, fun _ => 0, us, us, fun _ => 0, fun _ => 0⟩ x := fun x hx hc => by
      unfold stF
      have h5 : x % 7 < 7 := Nat.mod_lt _ (by omega)
      match hm : x % 7, h5 with
      | 0, _ => rfl
      | 1, _ => rfl
      | 2, _ =>
        show v (4 * N + x / 7) = upd v k v' (4 * N + x / 7)
        unfold upd; rw [if_neg (by omega)]
      | 3, _ => rfl
      | 4, _ => rfl
      | 5, _ => rfl
      | 6, _ => rfl
    unfold cellAt
    split
    · rename_i hc
      exact (hr0.setOther (by show bR ≠ bL; omega) v').congr fun x hx => oth x hx (by omega)
    · split
      · rename_i hc hc2
        exact (hr0.setOther (by show bR ≠ bL; omega) v').congr fun x hx => oth x hx (by omega)
      · rename_i hc hc2
        refine (hr0.set ((k - 4 * N) * 7 + 2) v').congr fun x hx => ?_
        by_cases e : x = (k - 4 * N) * 7 + 2
        · rw [if_pos e, e]
          unfold stF
          rw [show ((k - 4 * N) * 7 + 2) % 7 = 2 by omega, show ((k - 4 * N) * 7 + 2) / 7 = k - 4 * N by omega]
          show v' = upd v k v' (4 * N + (k - 4 * N))
          unfold upd; rw [if_pos (by omega)]
        · rw [if_neg e]
          unfold stF
          have h5 : x % 7 < 7 := Nat.mod_lt _ (by omega)
          match hm : x % 7, h5 with
          | 0, _ => rfl
          | 1, _ => rfl
          | 2, _ =>
            show v (4 * N + x / 7) = upd v k v' (4 * N + x / 7)
            unfold upd; rw [if_neg (by omega)]
          | 3, _ => rfl
          | 4, _ => rfl
          | 5, _ => rfl
          | 6, _ => rfl
  · intro j hj
    have hv'b := fun g (e : v'.ownBlock = some g) => row_blk ho e
    by_cases e : j = k
    · subst e
      have e1 : upd v j v' j = v' := by unfold upd; rw [if_pos rfl]
      have e2 : upd l j (l j ++ [i]) j = l j ++ [i] := by unfold upd; rw [if_pos rfl]
      rw [e1, e2, ptrs_app, List.length_append]
      refine row_step ho fun g hg' _ => hset g ?_ ?_
      · have := (hv'b g hg').1; omega
      · have := (hv'b g hg').1; omega
    · have e1 : upd v k v' j = v j := by unfold upd; rw [if_neg e]
      have e2 : upd l k (l k ++ [i]) j = l j := by unfold upd; rw [if_neg e]
      rw [e1, e2]
      refine row_step (h.row j hj) fun g hg' hl => ?_
      have hb := row_blk (h.row j hj) hg'
      rw [hset g (by omega) (by omega)]
      exact hkeep g hl fun e3 => h.ne j k hj hk e g hg' e3
  · intro a b ha hb hab g hga hgb
    have far : ∀ j, j < 4 * N + R → j ≠ k → ∀ g, (v j).ownBlock = some g → v'.ownBlock ≠ some g := fun j hj hjk g e1 e2 => by
      have hb := row_blk (h.row j hj) e1
      rcases hw with e3 | e3
      · rw [e3] at e2
        exact h.ne j k hj hk hjk g e1 e2
      · rw [e3] at e2
        injection e2 with e2
        omega
    unfold upd at hga hgb
    by_cases e1 : a = k
    · rw [if_pos e1] at hga
      rw [if_neg (fun e => hab (e1.trans e.symm))] at hgb
      exact far b hb (fun e => hab (e1.trans e.symm)) g hgb hga
    · rw [if_neg e1] at hga
      by_cases e2 : b = k
      · rw [if_pos e2] at hgb
        exact far a ha e1 g hga hgb
      · rw [if_neg e2] at hgb
        exact h.ne a b ha hb hab g hga hgb
  · have hb2 : Below w0.heap.size w0 w' := by
      refine ⟨hg.os.trans (hW.os.trans h.bel.os), hg.tape.trans (hW.tape.trans h.bel.tape), hg.output.trans (hW.output.trans h.bel.output), Nat.le_trans h.bel.size (Nat.le_trans hWs hg.size), fun b hb => ?_⟩
      rw [hkeep b (by have := h.bel.size; omega) fun e => by have := hnk _ e; omega]
      exact h.bel.block b hb
    exact hb2.setCell (by rcases hcb with e | e <;> rw [e] <;> omega) v'
end Go.Proofs.YtmbclnaenjcocaaGreatDoor
