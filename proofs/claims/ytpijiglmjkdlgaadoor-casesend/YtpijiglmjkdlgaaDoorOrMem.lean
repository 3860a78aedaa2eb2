/-
  Things that stand ahead of others, in memory (written by tools/genor.py).
-/
import Derived.Test.YtpijiglmjkdlgaaDoorProg
import Derived.Below
import Derived.BigQuiet
import Derived.Deep.Cut
import Derived.Deep.DeepCutAuto
import Derived.Deep.LoopGhost
import Derived.Deep.OwnRows
import Derived.Deep.QuietTactic
import Derived.Deep.RegionLaw
import Derived.Deep.RegionWith
import Derived.Laws.EntriesVeiled
import Derived.Laws.OwnMore
import Derived.Lib.AppendZerosOnto
import Derived.Lib.SliceRun
import Derived.Lib.Walk
import Derived.OneCell
import Derived.Outline
import Derived.RowKit
import Derived.WalkKit
namespace Go.Proofs.YtpijiglmjkdlgaaDoor
open Go.RowKit

theorem hidLLO {p : Prop} (h : p) : Hid p := h
structure Thy where
  rules : List Unit
  over : List (Int × Int)
def Ovr (T : Thy) (a b : Nat) : Prop := ((a : Int), (b : Int)) ∈ T.over
def Ranked (T : Thy) : Prop := ∃ f : Nat → Nat, ∀ a b, Ovr T a b → f a < f b
structure Okt (T : Thy) : Prop where
  r : T.rules.length ≤ 120
  o : T.over.length ≤ 1200
  over : ∀ a b, (a, b) ∈ T.over → 0 ≤ a ∧ a < T.rules.length ∧ 0 ≤ b ∧ b < T.rules.length
def RRd (_w : World) (_B : Nat) (v : Value) (l : List Unit) : Prop := ∃ a c, v = .slice a l.length c ∧ l.length ≤ 3518437208883 ∧ True
def ORd (w : World) (B : Nat) (v : Value) (l : List (Int × Int)) : Prop :=
  ∃ a c, v = .slice a l.length c ∧ l.length ≤ 8796093022208 ∧ ∀ i x, l[i]? = some x → ∃ g o, a = some ⟨g, o, none⟩ ∧ g < B ∧ w.cell? ⟨g, o + i * 2, none⟩ = some (.int .i64 x.1) ∧ w.cell? ⟨g, o + i * 2 + 1, none⟩ = some (.int .i64 x.2)
structure TM (w : World) (B : Nat) (T : Thy) (rv ov : Value) : Prop where
  r : RRd w B rv T.rules
  o : ORd w B ov T.over
theorem ORd.on {w w' : World} {B : Nat} {v : Value} {l : List (Int × Int)} (h : ORd w B v l) (hb : ∀ k, k < B → w'.heap[k]? = w.heap[k]?) : ORd w' B v l := by
  obtain ⟨a, c, e, hl, hx⟩ := h
  refine ⟨a, c, e, hl, fun j x hj => ?_⟩
  obtain ⟨g, o, h1, h2, h3, h4⟩ := hx j x hj
  exact ⟨g, o, h1, h2, (World.cell?_of_block (a := ⟨g, o + j * 2, none⟩) (hb g h2)).trans h3, (World.cell?_of_block (a := ⟨g, o + j * 2 + 1, none⟩) (hb g h2)).trans h4⟩
theorem TM.on {w w' : World} {B : Nat} {T : Thy} {rv ov : Value} (h : TM w B T rv ov) (hb : ∀ k, k < B → w'.heap[k]? = w.heap[k]?) : TM w' B T rv ov := ⟨h.r, h.o.on hb⟩
theorem TM.below {w w' : World} {B n : Nat} {T : Thy} {rv ov : Value} (h : TM w B T rv ov) (hb : Below n w w') (hn : B ≤ n) : TM w' B T rv ov := h.on fun k hk => hb.block k (by omega)
theorem ORd.at {w : World} {B n c : Nat} {a : Option Addr} {l : List (Int × Int)} (h : ORd w B (.slice a n c) l) {i : Nat} {x : Int × Int} (hi : l[i]? = some x) : ∃ g o, a = some ⟨g, o, none⟩ ∧ g < B ∧ w.cell? ⟨g, o + i * 2, none⟩ = some (.int .i64 x.1) ∧ w.cell? ⟨g, o + i * 2 + 1, none⟩ = some (.int .i64 x.2) := by
  obtain ⟨a', c', e, _, hx⟩ := h
  injection e with e1 _ _
  subst e1
  exact hx i x hi
theorem cell_ltO {w : World} {b i : Nat} {v : Value} (h : w.cell? ⟨b, i, none⟩ = some v) : b < w.heap.size := World.block_lt_of_cell? w ⟨b, i, none⟩ h
theorem chain {T : Thy} {f : Nat → Nat} (hf : ∀ a b, Ovr T a b → f a < f b) {P : Nat → Prop} (hs : ∀ k, P k → ∃ i, P i ∧ Ovr T i k) : ∀ n k, f k ≤ n → P k → False
  | n, k, hn, hp => by
    obtain ⟨i, h1, h2⟩ := hs k hp
    have := hf i k h2
    match n, hn with
    | 0, hn => omega
    | n + 1, hn => exact chain hf hs n i (by omega) h1
def updO {α : Type} (f : Nat → α) (i : Nat) (v : α) : Nat → α := fun j => if j = i then v else f j
theorem blk_newO (w : World) (o : Obj) : (w.alloc o).heap[w.heap.size]? = some o := Go.Deep.blk_alloc_new _ _
theorem alloc_cellO (W : World) (cs : List Value) (T j : Nat) (u : Value) (h : cs[j]? = some u) : (W.alloc (.cells cs.toArray T)).cell? ((⟨W.heap.size, 0, none⟩ : Addr).add j) = some u := by
  have h6 : (⟨W.heap.size, 0, none⟩ : Addr).add j = ⟨W.heap.size, j, none⟩ := by
    unfold Addr.add
    split
    · rename_i h0
      rw [h0]
    · simp
  rw [h6, cell_of_row _ _ j cs.toArray T (0, 0) (blk_newO W _)]
  simpa using h
theorem row_stepO {w w' : World} {B e s : Nat} {v : Value} {n : Nat} {xs : List Value} (h : w.ownsRow B e s v n xs) (hk : ∀ g, v.ownBlock = some g → g < w.heap.size → w'.heap[g]? = w.heap[g]?) : w'.ownsRow B e s v n xs := by
  refine ⟨h.1, ?_⟩
  rcases h.2 with hn | ⟨g, cap, cur, rfl, hb, hgg, rest⟩
  · exact .inl hn
  · exact .inr ⟨g, cap, cur, rfl, hb, (hk g rfl (Array.getElem?_eq_some_iff.1 hgg).1).trans hgg, rest⟩
theorem row_anyO {w : World} {B e s : Nat} {v : Value} {n : Nat} {xs : List Value} (h : w.ownsRow B e s v n xs) : ∃ a cap, v = .slice a n cap := by
  rcases h.2 with ⟨rfl, rfl⟩ | ⟨g, cap, cur, rfl, _⟩
  · exact ⟨_, _, rfl⟩
  · exact ⟨_, _, rfl⟩
theorem blk_ltO {w : World} {k : Nat} {o : Obj} (hb : w.heap[k]? = some o) : k < w.heap.size := by
  rcases Nat.lt_or_ge k w.heap.size with h1 | h1
  · exact h1
  · rw [Array.getElem?_eq_none h1] at hb; cases hb
theorem row_blkO {w : World} {B e s : Nat} {v : Value} {n : Nat} {xs : List Value} (h : w.ownsRow B e s v n xs) {g : Nat} (hg : v.ownBlock = some g) : B ≤ g ∧ g < w.heap.size := by
  rcases h.2 with ⟨rfl, rfl⟩ | ⟨g', cap, cur, rfl, hb, hgg, _⟩
  · cases hg
  · injection hg with hg
    subst hg
    exact ⟨hb, (Array.getElem?_eq_some_iff.1 hgg).1⟩
theorem rowIs_notO {w : World} {b n : Nat} {t t' : TypeId} {f : Nat → Value} (h : w.rowIs b t n f) (ht : t ≠ t') (cur : Array Value) : w.heap[b]? ≠ some (.cells cur t' (0, 0)) := by
  obtain ⟨c, e, _⟩ := h
  rw [e]
  intro e2
  injection e2 with e2
  injection e2 with _ e2 _
  exact ht e2
theorem append_whereO {P : Program} (w : World) (B : Nat) (t ty e : TypeId) (i : TypeInfo) (zv : Value) (size bytes : Nat) (ht : P.underlying t = some (.slice e)) (hi : P.info? e = some i) (hz : i.zero = some zv)
    (hsize : i.size = size) (hby : i.bytes = bytes) (v : Value) (n : Nat) (xs : List Value) (hown : w.ownsRow B e size v n xs)
    (a : Addr) (m c : Nat) (news : List Value) (hl : news.length = m * size) (hnews : ∀ j u, news[j]? = some u → w.cell? (a.add j) = some u) (h1 : ∀ u ∈ news, u.oneCell' = true) (hm : 0 < m)
    (h63 : n + m ≤ maxLen) (hbytes : (n + m) * bytes ≤ 140737488355328) (v' : Value) (w' : World) (hr : (Builtin.append_ #[t, t] ty #[v, .slice (some a) m c]).run P w = .ok v' w') :
    v'.ownBlock = v.ownBlock ∨ v'.ownBlock = some w.heap.size := by
  subst hsize
  subst hby
  have hsmall : n + m ≤ 9223372036854775807 := by simp only [maxLen] at h63; omega
  rcases hown.2 with ⟨rfl, rfl⟩ | ⟨g, cap, cur, rfl, hbg, hg, hnc, hcm, hcs, htake⟩
  · have hr2 := run_append_nil (P := P) w t ty e i zv ht hi hz a m c news hl hnews (by omega) (by omega) (by have hb := hbytes; simp only [Nat.zero_add] at hb; omega)
    rw [hr2] at hr
    injection hr with e1 e2
    subst e1
    exact .inr rfl
  · by_cases hroom : n + m ≤ cap
    · have hfit : n * i.size + news.length ≤ cur.size := by rw [hl, hcs, ← Nat.add_mul]; exact Nat.mul_le_mul_right _ hroom
      have hr2 := run_append_room (P := P) w t ty e i ht hi g n cap cur hg a m c news hl hnews h1 hroom hfit
      rw [hr2] at hr
      injection hr with e1 e2
      subst e1
      exact .inl rfl
    · have hr2 := run_append_grow (P := P) w t ty e i zv ht hi hz ⟨g, 0, none⟩ n cap xs hown.1 (hown.cells (g := g) rfl) a m c news hl hnews (by omega) (by omega) (growslice_fits (by omega) hbytes)
      rw [hr2] at hr
      injection hr with e1 e2
      subst e1
      exact .inr rfl
theorem step_append_whereO {P : Program} {ops : Array Oper} {o : Oper} {a : Act} {w : World} {K : Act → World → Prop} {Q : Exit → Act → World → Prop} {E : Prop}
    (hgd : o.guard = none) (s x : Operand) (t : TypeId) (ho : o.op = Op.call { callee := Callee.builtin Builtin.append, args := #[s, x], argTypes := #[t, t] })
    (B : Nat) (e : TypeId) (i : TypeInfo) (z : Value) (size bytes : Nat) (ht : P.underlying t = some (.slice e)) (hi : P.info? e = some i) (hz : i.zero = some z) (hsize : i.size = size) (hby : i.bytes = bytes) (hzs : z.cells.size = size) (hsz : 0 < size)
    (v : Value) (n : Nat) (xs : List Value) (hs : a.eval s = v) (hown : w.ownsRow B e size v n xs)
    (ad : Addr) (m c : Nat) (news : List Value) (hx : a.eval x = .slice (some ad) m c) (hl : news.length = m * size) (hnews : ∀ j u, news[j]? = some u → w.cell? (ad.add j) = some u) (h1 : ∀ u ∈ news, u.oneCell' = true) (hm : 0 < m)
    (h63 : n + m ≤ maxLen) (hbytes : (n + m) * bytes ≤ 140737488355328) (hbase : B ≤ w.heap.size)
    (hK : ∀ v' w', w'.ownsRow B e size v' (n + m) (xs ++ news) → w.grownBy w' v.ownBlock → (v'.ownBlock = v.ownBlock ∨ v'.ownBlock = some w.heap.size) → K (a.put o.dst v') w') :
    if Region.wanted o (yielded ops a.tmps) = true then Oper.wp P o a w K Q else E := by
  have hw : Region.wanted o (yielded ops a.tmps) = true := by simp [Region.wanted, hgd]
  rw [if_pos hw]
  obtain ⟨v', w', hr, h2, h3, h4⟩ := run_append_own (P := P) w B t o.type e i z size bytes ht hi hz hsize hby hzs hsz v n xs hown ad m c news hl hnews h1 h63 hbytes hbase
  have h5 := append_whereO (P := P) w B t o.type e i z size bytes ht hi hz hsize hby v n xs hown ad m c news hl hnews h1 hm h63 hbytes v' w' hr
  unfold Oper.wp
  simp [execOp, ho, resolve, invoke, builtin, hs, hx, hr, Result.andThen]
  exact hK v' w' h2 h3 h5
end Go.Proofs.YtpijiglmjkdlgaaDoor
