/-
  Package slices: Backward, of what has been heard: its contract as an iterator.
-/
import Derived.RangeFuncNested
import Derived.RangeFuncBound
import Derived.RangeFuncCalls
import Derived.RangeFuncLeaves
import Derived.Shelf.Abstract
import Derived.Shelf.RegionOpen
import Derived.WalkKit
import Derived.OwnWalkIn
import Derived.TacticsInMore
import Derived.LoopNIn
import Derived.LoopIn
import Derived.Maps.OwnIn
import Derived.Maps.AppendAt
import Derived.Test.YtmbclnaenjcocaaGreatDoorWeG1
import Derived.Deep.WholeRow
namespace Go.Proofs.YtmbclnaenjcocaaGreatDoor
open Go.RowKit Go.Shelf

attribute [local go_sem] Oper.semAt_some

def hrdV (x : Hrd) : Value := .agg #[.bool x.1.1, .bool x.1.2.1, .int .i64 x.1.2.2, .slice x.2.1 x.2.2.1 x.2.2.2]
/-- The places of a list, the last one first. -/
def bwd (n : Nat) : List (Fin n) := (List.finRange n).reverse
theorem bwd_len (n : Nat) : (bwd n).length = n := by unfold bwd; simp
theorem bwd_get {n k : Nat} (h : k < n) : (bwd n)[k]? = some ⟨n - 1 - k, by omega⟩ := by
  unfold bwd
  rw [List.getElem?_reverse (by simp; exact h), List.getElem?_eq_getElem (by simp; omega)]
  simp
theorem bwd_take {n k : Nat} (h : k < n) : (bwd n).take (k + 1) = (bwd n).take k ++ [⟨n - 1 - k, by omega⟩] := by
  rw [List.take_add_one, bwd_get h]
  rfl
/-- What has been heard, wherever it lies below a bound. -/
def HRd (w : World) (B : Nat) (v : Value) (l : List Hrd) : Prop :=
  (v = .slice none 0 0 ∧ l = []) ∨ ∃ g cap, v = .slice (some ⟨g, 0, none⟩) l.length cap ∧ g < B ∧ ∀ j (h : j < l.length), w.cell? ⟨g, j * 4, none⟩ = some (.bool l[j].1.1) ∧ w.cell? ⟨g, j * 4 + 1, none⟩ = some (.bool l[j].1.2.1) ∧ w.cell? ⟨g, j * 4 + 2, none⟩ = some (.int .i64 l[j].1.2.2) ∧ w.cell? ⟨g, j * 4 + 3, none⟩ = some (.slice l[j].2.1 l[j].2.2.1 l[j].2.2.2)
theorem HRd.below {w w' : World} {B : Nat} {v : Value} {l : List Hrd} (h : HRd w B v l) (hb : Below B w w') : HRd w' B v l := by
  rcases h with h | ⟨g, cap, e, hg, hc⟩
  · exact .inl h
  · exact .inr ⟨g, cap, e, hg, fun j hj => ⟨(hb.cell (p := ⟨g, j * 4, none⟩) hg).trans (hc j hj).1, (hb.cell (p := ⟨g, j * 4 + 1, none⟩) hg).trans (hc j hj).2.1, (hb.cell (p := ⟨g, j * 4 + 2, none⟩) hg).trans (hc j hj).2.2.1, (hb.cell (p := ⟨g, j * 4 + 3, none⟩) hg).trans (hc j hj).2.2.2⟩⟩
theorem addr_add (g j : Nat) : (⟨g, 0, none⟩ : Addr).add j = ⟨g, j, none⟩ := by
  unfold Addr.add
  split
  · rename_i h0
    rw [h0]
  · simp
theorem HRow.rd {w : World} {B : Nat} {v : Value} {l : List Hrd} (h : HRow w B v l) : HRd w w.heap.size v l := by
  have h0 := h.row
  rcases h.row.2 with ⟨rfl, e⟩ | ⟨g, cap, cur, rfl, _, hgg, _⟩
  · exact .inl ⟨rfl, List.eq_nil_of_length_eq_zero e⟩
  · refine .inr ⟨g, cap, rfl, (Array.getElem?_eq_some_iff.1 hgg).1, fun j hj => ?_⟩
    obtain ⟨h1, h2, h3, h4⟩ := hrdC_get l j _ (List.getElem?_eq_getElem hj)
    have hc := World.ownsRow.cells h0 (g := g) rfl
    have c1 := hc _ _ h1
    have c2 := hc _ _ h2
    have c3 := hc _ _ h3
    have c4 := hc _ _ h4
    rw [addr_add] at c1 c2 c3 c4
    exact ⟨c1, c2, c3, c4⟩
/-- What a round must keep: what lies below, and the box of what is gone through. -/
def KpB (n₀ Bs : Nat) (W W' : World) : Prop := Below n₀ W W' ∧ W'.heap[Bs]? = W.heap[Bs]?
theorem KpB.refl (n₀ Bs : Nat) (W : World) : KpB n₀ Bs W W := ⟨Below.refl _ _, rfl⟩
theorem KpB.trans {n₀ Bs : Nat} {A B C : World} (h : KpB n₀ Bs A B) (k : KpB n₀ Bs B C) : KpB n₀ Bs A C := ⟨h.1.trans k.1, k.2.trans h.2⟩
theorem KpB.put {n₀ Bs : Nat} {w : World} (hn : n₀ ≤ w.heap.size) (hb : Bs < w.heap.size) (W : World) (l : Nat) (o o' : Obj) (hl : w.heap.size ≤ l) (h : W.heap[l]? = some o) (h1 : o.isCells = false) (h2 : o.isWalk = false) : KpB n₀ Bs W (W.putObj l o') :=
  ⟨belowK_b hn W l o o' hl h h1 h2, World.putObj_heap_other (by omega)⟩
set_option maxRecDepth 100000 in
set_option maxHeartbeats 4000000 in
theorem back1_in (F : Fence) (n : Nat) (hf : F.fn 52) (hro : F.round = none) (hn : 1 ≤ n) (l Bs n₀ g cap : Nat) (hl : List Hrd) (hreach : hl.length ≤ 1000000) (J Jx : List (Fin hl.length) → World → Prop)
    (hY : ∀ pre (x : Fin hl.length) W, J pre W → pre.length < hl.length → YieldAt F (n - 1) Tryz.prog l #[.int .i64 ((x.1 : Nat) : Int), hrdV hl[x.1]] W fun e W' =>
      (e = .returned (.bool true) ∧ J (pre ++ [x]) W' ∧ KpB n₀ Bs W W') ∨ (e = .returned (.bool false) ∧ Jx (pre ++ [x]) W'))
    (W : World) (hBs : W.cell? ⟨Bs, 0, none⟩ = some (.slice (some ⟨g, 0, none⟩) hl.length cap)) (hc : HRd W n₀ (.slice (some ⟨g, 0, none⟩) hl.length cap) hl) (h0 : J [] W) :
    CallsIn F n Tryz.prog 52 #[.func (.yield l) #[] #[], .pointer (some ⟨Bs, 0, none⟩)] W fun e W' => (∃ v, e = .returned v) ∧
      ((∃ ys, ys = bwd hl.length ∧ J ys W') ∨ (∃ pre, True ∧ Jx pre W')) := by
  refine callsIn_of_wp Tryz.func52 rfl hf ?_ hro
  simp only [Tryz.ntmps52, List.size_toArray, List.length_cons, List.length_nil, Nat.reduceAdd, Nat.reduceSub, Array.replicate_succ, Array.replicate_zero, List.push_toArray, List.append_toArray, List.nil_append, List.cons_append]
  obtain ⟨N, hN⟩ : ∃ N, N = hl.length := ⟨_, rfl⟩
  rw [← hN] at hBs hreach
  have HN := hidLL hN
  have HC := hidLL hc
  have HY := hidLL hY
  have H0 := hidLL h0
  clear hN hc hY h0
  gi_wp2
  gi_loopw [3] (fun i wr => ∃ k : Nat, k ≤ N ∧ i = .int .i64 ((N : Int) - 1 - k) ∧ J ((bwd hl.length).take k) wr ∧ KpB n₀ Bs W wr)
    (fun i _ => (intOf i + 1).toNat)
  case atStart => exact ⟨0, Nat.zero_le _, by first | (go_num; done) | (congr 1; omega), H0.out, KpB.refl _ _ _⟩
  case round =>
    obtain ⟨k, hk, rfl, hJs, hnx⟩ := hrel
    have hBs' : wr.cell? ⟨Bs, 0, none⟩ = some (.slice (some ⟨g, 0, none⟩) N cap) := (World.cell?_of_block (a := ⟨Bs, 0, none⟩) hnx.2).trans hBs
    by_cases hlt : k < N
    · obtain ⟨i, hi⟩ : ∃ i : Nat, i = N - 1 - k := ⟨_, rfl⟩
      have hiz : (N : Int) - 1 - k = (i : Int) := by omega
      have hil : i < hl.length := by have := HN.out; omega
      have hge : (0 : Int) ≤ (i : Int) := by omega
      have hiN : (i : Int) < N := by omega
      obtain ⟨fn, tmps, assign, body, hy, hR⟩ := HY.out _ (⟨i, hil⟩ : Fin hl.length) wr hJs (by rw [List.length_take, bwd_len]; have := HN.out; omega)
      have hrd := HC.out.below hnx.1
      obtain ⟨c1, c2, c3, c4⟩ : wr.cell? ⟨g, i * 4, none⟩ = some (.bool hl[i].1.1) ∧ wr.cell? ⟨g, i * 4 + 1, none⟩ = some (.bool hl[i].1.2.1) ∧ wr.cell? ⟨g, i * 4 + 2, none⟩ = some (.int .i64 hl[i].1.2.2) ∧ wr.cell? ⟨g, i * 4 + 3, none⟩ = some (.slice hl[i].2.1 hl[i].2.2.1 hl[i].2.2.2) := by
        rcases hrd with ⟨e, _⟩ | ⟨g', cap', e, _, hcc⟩
        · cases e
        · injection e with e _ _
          injection e with e
          injection e with e _ _
          subst e
          exact hcc i hil
      have htk : (bwd hl.length).take (k + 1) = (bwd hl.length).take k ++ [⟨i, hil⟩] := by
        have h9 := bwd_take (n := hl.length) (k := k) (by have := HN.out; omega)
        rw [h9]
        congr 3
        have := HN.out
        omega
      unfold hrdV at hy
      dsimp only at hy
      rw [hiz]
      have HT := hidLL (And.intro htk (And.intro hi hiz))
      clear htk hi hiz hrd hJs
      generalize hl[i].1.1 = u1 at *
      generalize hl[i].1.2.1 = u2 at *
      generalize hl[i].1.2.2 = u3 at *
      generalize hl[i].2.1 = u4 at *
      generalize hl[i].2.2.1 = u5 at *
      generalize hl[i].2.2.2 = u6 at *
      gi_wp2
      refine hR.mono ?_
      rintro e W3 (⟨rfl, hJ3, hk3⟩ | ⟨rfl, hJx3⟩)
      · gi_wp2
        go_roundw
        case rel => exact ⟨k + 1, by omega, by have := HT.out.2.2; first | (congr 1; omega) | (go_num; done), by rw [HT.out.1]; exact hJ3, hnx.trans hk3⟩
        case measure => have := HT.out.2.2; simp [intOf] <;> omega
      · gi_wp2
        refine bodyPost_ret (results_none rfl _ _ _) rfl ?_
        exact ⟨⟨_, rfl⟩, .inr ⟨_, trivial, hJx3⟩⟩
    · obtain rfl : k = N := by omega
      have hneg : ¬ (0 : Int) ≤ (k : Int) - 1 - k := by omega
      have HJ : Hid (J (bwd hl.length) wr) := by
        have h9 := hJs
        rw [HN.out, List.take_of_length_le (by rw [bwd_len]; exact Nat.le_refl _)] at h9
        exact h9
      clear hJs
      gi_wp2
      go_end0
      first
        | exact ⟨⟨_, rfl⟩, .inl HJ.out⟩
        | exact ⟨⟨_, rfl⟩, .inl ⟨_, rfl, HJ.out⟩⟩
set_option maxRecDepth 100000 in
set_option maxHeartbeats 1000000 in
theorem back1_nil_in (F : Fence) (n : Nat) (hf : F.fn 52) (hro : F.round = none) (l Bs : Nat) {α : Type} (J : List α → World → Prop) (W : World) (hBs : W.cell? ⟨Bs, 0, none⟩ = some (.slice none 0 0)) (h0 : J [] W) :
    CallsIn F n Tryz.prog 52 #[.func (.yield l) #[] #[], .pointer (some ⟨Bs, 0, none⟩)] W fun e W' => (∃ v, e = .returned v) ∧ J [] W' := by
  refine callsIn_of_wp Tryz.func52 rfl hf ?_ hro
  simp only [Tryz.ntmps52, List.size_toArray, List.length_cons, List.length_nil, Nat.reduceAdd, Nat.reduceSub, Array.replicate_succ, Array.replicate_zero, List.push_toArray, List.append_toArray, List.nil_append, List.cons_append]
  gi_wp2
  gi_loopw [3] (fun i wr => i = .int .i64 (-1) ∧ J [] wr) (fun _ _ => 0)
  case atStart => exact ⟨rfl, h0⟩
  case round =>
    obtain ⟨rfl, hJs⟩ := hrel
    gi_wp2
    go_end0
    exact ⟨⟨_, rfl⟩, hJs⟩
set_option maxHeartbeats 1000000 in
/-- slices.Backward(s): the slice is boxed; the function value captures the box. -/
theorem backward_in (F : Fence) (n : Nat) (hf : F.fn 30) (hro : F.round = none) (a : Option Addr) (len cap : Nat) (w : World) :
    CallsIn F n Tryz.prog 30 #[.slice a len cap] w fun e w' => e = .returned (.func (.func 52) #[] #[.pointer (some ⟨w.heap.size, 0, none⟩)]) ∧ w' = w.alloc (.cells #[.slice a len cap] 63) := by
  refine callsIn_of_wp Tryz.func30 rfl hf ?_ hro
  simp only [Tryz.ntmps30, List.size_toArray, List.length_cons, List.length_nil, Nat.reduceAdd, Nat.reduceSub, Array.replicate_succ, Array.replicate_zero, List.push_toArray, List.append_toArray, List.nil_append, List.cons_append]
  gi_wp2
  go_ret
  exact ⟨rfl, rfl⟩
/-- What Backward hands back goes through the list from its end on. -/
theorem back_stops (F : Fence) (n : Nat) (hf : F.fn 52) (hro : F.round = none) (hn : 1 ≤ n) (Bs n₀ : Nat) (sv : Value) (hl : List Hrd) (hreach : hl.length ≤ 1000000) (w : World) (hBs : Bs < w.heap.size) (hn₀ : n₀ ≤ w.heap.size)
    (hc : w.cell? ⟨Bs, 0, none⟩ = some sv) (hI : HRd w n₀ sv hl) :
    SeqStopsK F n Tryz.prog 52 #[.pointer (some ⟨Bs, 0, none⟩)] (fun x : Fin hl.length => #[Value.int .i64 ((x.1 : Nat) : Int), hrdV hl[x.1]]) (KpB n₀ Bs) (fun ys => ys = bwd hl.length) (fun _ => True) hl.length w := fun l J Jx W hW _ _ hY h0 => by
  have hc' := (hW.cell (p := ⟨Bs, 0, none⟩) hBs).trans hc
  have hI' := hI.below (hW.mono hn₀)
  rcases hI with ⟨rfl, rfl⟩ | ⟨g, cap, rfl, _, _⟩
  · exact (back1_nil_in F n hf hro l Bs J W hc' h0).mono fun e W' ⟨he, hj⟩ => ⟨he, .inl ⟨_, rfl, hj⟩⟩
  · exact back1_in F n hf hro hn l Bs n₀ g cap hl hreach J Jx hY W hc' hI' h0
end Go.Proofs.YtmbclnaenjcocaaGreatDoor
namespace Go.Proofs.YtmbclnaenjcocaaGreatDoor
open Go.RowKit

/-- Which claims are needed when these have been met. -/
def need (N : Clm → Bool) : List (Clm × List Clm) → Clm → Bool
  | [] => N
  | x :: l => need (if N x.1 then (fun c => N c || x.2.contains c) else N) l
theorem pick_snoc : ∀ (l : List (Clm × List Clm)) (N : Clm → Bool) (x : Clm × List Clm), pick N (l ++ [x]) = pick N l ++ (if need N l x.1 then [x.1] else [])
  | [], N, x => by
    show pick N [x] = pick N [] ++ (if N x.1 then [x.1] else [])
    unfold pick
    by_cases e : N x.1 = true
    · rw [if_pos e, if_pos e]; rfl
    · rw [if_neg e, if_neg e]; rfl
  | y :: l, N, x => by
    rw [List.cons_append]
    unfold pick need
    by_cases e : N y.1 = true
    · rw [if_pos e, if_pos e, if_pos e, pick_snoc l]; rfl
    · rw [if_neg e, if_neg e, if_neg e, pick_snoc l]
theorem need_snoc : ∀ (l : List (Clm × List Clm)) (N : Clm → Bool) (x : Clm × List Clm), need N (l ++ [x]) = if need N l x.1 then (fun c => need N l c || x.2.contains c) else need N l
  | [], N, x => rfl
  | y :: l, N, x => by
    rw [List.cons_append]
    unfold need
    exact need_snoc l _ x
theorem bwd_map {α : Type} (l : List α) : (bwd l.reverse.length).map (fun i => l.reverse[i.1]) = l := by
  apply List.ext_getElem?
  intro k
  rw [List.getElem?_map]
  by_cases h : k < l.length
  · rw [bwd_get (by rw [List.length_reverse]; exact h)]
    simp only [Option.map_some]
    rw [List.getElem?_eq_getElem h, List.getElem_reverse]
    congr 2
    simp
    omega
  · rw [List.getElem?_eq_none (by rw [bwd_len, List.length_reverse]; omega), List.getElem?_eq_none (by omega)]
    rfl
theorem own_c3 {w : World} {B g t n cap : Nat} {l : List Clm} (h : w.ownsRow B t 3 (.slice (some ⟨g, 0, none⟩) n cap) n (clmC l)) (hn : n = l.length) : ∃ M R, w.rowIs g t M (c3 (fun j => (l[j]?).getD (false, false, 0)) n R) ∧ n * 3 ≤ M := by
  rcases h.2 with ⟨e, _⟩ | ⟨g', cap', cur, e, _, hg, hn2, _, hs, ht⟩
  · cases e
  · injection e with e _ e2
    injection e with e
    injection e with e _ _
    subst e e2
    refine ⟨cur.size, fun i => (cur[i]?).getD undef, ⟨cur, hg, rfl, fun i hi => ?_⟩, by rw [hs]; exact Nat.mul_le_mul_right 3 hn2⟩
    have hi2 : cur[i]? = some cur[i] := Array.getElem?_eq_getElem hi
    unfold c3
    by_cases h3 : i < n * 3
    · rw [if_pos h3]
      have e1 : cur[i]? = (clmC l)[i]? := by
        rw [← ht, List.getElem?_take, if_pos h3]
        simp
      obtain ⟨x, hx⟩ : ∃ x, l[i / 3]? = some x := ⟨_, List.getElem?_eq_getElem (by omega)⟩
      obtain ⟨p1, p2, p3⟩ := clmC_get l (i / 3) x hx
      have hx2 : (l[i / 3]?).getD (false, false, 0) = x := by rw [hx]; rfl
      simp only [hx2]
      rw [e1]
      by_cases m0 : i % 3 = 0
      · rw [if_pos m0]
        rw [show i / 3 * 3 = i by omega] at p1
        exact p1
      · rw [if_neg m0]
        by_cases m1 : i % 3 = 1
        · rw [if_pos m1]
          rw [show i / 3 * 3 + 1 = i by omega] at p2
          exact p2
        · rw [if_neg m1]
          rw [show i / 3 * 3 + 2 = i by omega] at p3
          exact p3
    · rw [if_neg h3]
      simp only [hi2, Option.getD_some]
theorem c3_srd {w : World} {g t M n cap : Nat} {l : List Clm} {R : Nat → Value} (h : w.rowIs g t M (c3 (fun j => (l[n - 1 - j]?).getD (false, false, 0)) n R)) (hM : n * 3 ≤ M) (hn : n = l.length) (hl : n ≤ 1000000) : SRd w (g + 1) (.slice (some ⟨g, 0, none⟩) n cap) l.reverse := by
  refine ⟨_, _, by rw [List.length_reverse, hn], by rw [List.length_reverse, ← hn]; omega, fun j x hj => ⟨g, 0, rfl, by omega, ?_⟩⟩
  have hjl := (List.getElem?_eq_some_iff.1 hj).1
  rw [List.length_reverse, ← hn] at hjl
  obtain ⟨a0, a1, a2⟩ := c3_at (fun j => (l[n - 1 - j]?).getD (false, false, 0)) R hjl
  have e : (l[n - 1 - j]?).getD (false, false, 0) = x := by
    rw [List.getElem?_reverse (by omega)] at hj
    rw [hn, hj]
    rfl
  have h0 := h.cell (i := j * 3) (by omega)
  have h1 := h.cell (i := j * 3 + 1) (by omega)
  have h2 := h.cell (i := j * 3 + 2) (by omega)
  rw [a0] at h0
  rw [a1] at h1
  rw [a2] at h2
  simp only [e] at h0 h1 h2
  rw [Nat.zero_add]
  exact ⟨h0, h1, h2⟩
section
variable {F : Fence} {nF : Nat}
theorem wpListIn_insert_own {H : Type} {P : Program} (w : World) {ops : Array Oper} {rest : List Oper} {o : Oper} {a : Act} {Q : Exit → Act → World → Prop}
    (hg : o.guard = none) (m x v : Operand) (t : TypeId) (hop : o.op = Op.insert t m x v)
    (k e : TypeId) (K : Go.Maps.Keyed P k) (ht : P.underlying t = some (.map k e)) (R : Value → Option (DataW H × List MemPlace)) (b n : Nat) (D : DataW H)
    (hm : a.eval m = .map (some b)) (hown : w.ownsMap P k R b n D) (hn : n < maxLen) (key val : Value) (kl : Lit) (hx : a.eval x = key) (hv : a.eval v = val) (hkey : keyOf P k key = some kl)
    (d : DataW H) (ps : List MemPlace) (hval : R val = some (d, ps))
    (hK : ∀ w', w'.ownsMap P k R b (n + 1) (D.put kl d) → w.grownBy w' (some b) → wpListIn F nF P ops Q rest (a.put o.dst undef) w') :
    wpListIn F nF P ops Q (o :: rest) a w := by
  refine wpListIn_plain hg fun K' hK' => ?_
  obtain ⟨w', hrun, r1, r2⟩ := hown.update K ht hn hkey hval
  unfold Oper.wpIn
  refine ⟨by simp [Oper.about, hop], ?_⟩
  rw [Oper.semAt_plain F _ _ (by rw [hop]; intro c hc'; cases hc')]
  simp [execOp, hop, hm, hx, hv, hrun, Result.andThen]
  exact hK' _ _ (hK w' r1 r2)
end
end Go.Proofs.YtmbclnaenjcocaaGreatDoor
namespace Go.Proofs.YtmbclnaenjcocaaGreatDoor
open Go.RowKit Go.Shelf Go.Maps

attribute [local go_sem] Oper.semAt_some

/-- While what has been heard is gone through: the claims that are needed, the steps so far. -/
structure Ste (w : World) (bM bP bS bA : Nat) (vA : Value) (N : Clm → Bool) (l : List Clm) (M : Nat) (W : World) : Prop where
  box : Boxed W bP 79 (.map (some bM))
  map : ∃ m D, m ≤ M ∧ NMap (H := Unit) D N ∧ W.ownsMap Tryz.prog 65 (plainElem Tryz.prog 3) bM m D
  steps : ∃ v, Boxed W bS 27 v ∧ W.ownsRow w.heap.size 37 3 v l.length (clmC l) ∧ True
  arg : Boxed W bA 63 vA
  bel : Below w.heap.size w W
section
variable {w : World} {bM bP bS bA : Nat} {vA : Value} {N : Clm → Bool} {l : List Clm} {M : Nat} {W W' : World}
theorem boxed_keep {row : Option Nat} {B t : Nat} {v : Value} (h : Boxed W B t v) (hg : W.grownBy W' row) (hr : ∀ r, row = some r → ∃ o : Obj, W.heap[r]? = some o ∧ o.isCells = false) : Boxed W' B t v := h.kept hg fun e => by
  obtain ⟨o, ho, hc⟩ := hr _ e.symm
  rw [show W.heap[B]? = _ from h] at ho
  cases ho
  cases hc
theorem Ste.keep {row : Option Nat} (h : Ste w bM bP bS bA vA N l M W) (hg : W.grownBy W' row) (hr : ∀ r, row = some r → bM ≠ r ∧ w.heap.size ≤ r ∧ ∃ o : Obj, W.heap[r]? = some o ∧ o.isCells = false) : Ste w bM bP bS bA vA N l M W' := by
  obtain ⟨m, D, hm, hN, hown⟩ := h.map
  exact ⟨boxed_keep h.box hg fun r e => (hr r e).2.2, ⟨m, D, hm, hN, hown.kept hg fun e => (hr _ e.symm).1 rfl⟩, holdsRow_own w.heap.size bS 27 37 3 (fun (_ : Unit) => l.length) (fun _ => clmC l) (fun _ _ => True) () W W' row h.steps hg (fun r e => (hr r e).2.2), boxed_keep h.arg hg fun r e => (hr r e).2.2, h.bel.grown hg h.bel.size (fun k e => (hr k e).2.1)⟩
theorem Ste.alloc (h : Ste w bM bP bS bA vA N l M W) (o : Obj) : Ste w bM bP bS bA vA N l M (W.alloc o) := h.keep (World.grownBy_alloc W o none) fun r e => by cases e
theorem Ste.own (B : Nat) {β : Type} (f : β → Clm → Bool) (g : β → List Clm) (k : β → Nat) (h1 : bM < B) (h2 : w.heap.size ≤ B) : OwnFrom B (fun (s : β) W => Ste w bM bP bS bA vA (f s) (g s) (k s) W) :=
  fun _ _ _ _ hs hg hr => hs.keep hg fun r e => ⟨by have := (hr r e).1; omega, by have := (hr r e).1; omega, (hr r e).2⟩
theorem KpB.grown {n₀ Bs : Nat} {row : Option Nat} (hg : W.grownBy W' row) (hn : n₀ ≤ W.heap.size) (hb : Bs < W.heap.size) (hr : ∀ r, row = some r → n₀ ≤ r ∧ r ≠ Bs) : KpB n₀ Bs W W' :=
  ⟨(Below.refl n₀ W).grown hg hn fun k e => (hr k e).1, hg.block Bs hb fun e => (hr _ e.symm).2 rfl⟩
theorem Ste.mono (h : Ste w bM bP bS bA vA N l M W) {M' : Nat} (hM : M ≤ M') : Ste w bM bP bS bA vA N l M' W := by
  obtain ⟨m, D, hm, hN, hown⟩ := h.map
  exact ⟨h.box, ⟨m, D, by omega, hN, hown⟩, h.steps, h.arg, h.bel⟩
theorem Ste.congr (h : Ste w bM bP bS bA vA N l M W) {N' : Clm → Bool} (e : ∀ c, N' c = N c) : Ste w bM bP bS bA vA N' l M W := by
  obtain ⟨m, D, hm, hN, hown⟩ := h.map
  exact ⟨h.box, ⟨m, D, hm, hN.congr e, hown⟩, h.steps, h.arg, h.bel⟩
/-- One claim more is needed. -/
theorem Ste.put (h : Ste w bM bP bS bA vA N l M W) {m : Nat} {D : DataW Unit} (hm : m ≤ M) (hN : NMap D N) (hown : W.ownsMap Tryz.prog 65 (plainElem Tryz.prog 3) bM m D) {c : Clm} {kl : Lit} (hk : keyOf Tryz.prog 65 (clmV c) = some kl)
    (hown1 : W'.ownsMap Tryz.prog 65 (plainElem Tryz.prog 3) bM (m + 1) (D.put kl (.lit (.int .i64 1)))) (hg : W.grownBy W' (some bM)) (hb : w.heap.size ≤ bM) (B : Nat) (hB : bM < B) :
    Ste w bM bP bS bA vA (fun x => N x || x == c) l (M + 1) W' ∧ KeepsFrom B W W' ∧ KpB w.heap.size bA W W' := by
  obtain ⟨es, ck, hh, _⟩ := hown
  have hr : ∀ r, some bM = some r → ∃ o : Obj, W.heap[r]? = some o ∧ o.isCells = false := fun r e => by
    injection e with e
    subst e
    exact ⟨_, hh, rfl⟩
  refine ⟨⟨boxed_keep h.box hg hr, ⟨m + 1, _, by omega, hN.put hk, hown1⟩, holdsRow_own w.heap.size bS 27 37 3 (fun (_ : Unit) => l.length) (fun _ => clmC l) (fun _ _ => True) () W W' (some bM) h.steps hg hr, boxed_keep h.arg hg hr, h.bel.grown hg h.bel.size (fun k e => by injection e with e; omega)⟩, KeepsFrom.of_grownBy hg (fun j e => by injection e with e; omega), KpB.grown hg h.bel.size h.arg.lt fun r e => ?_⟩
  injection e with e
  subst e
  refine ⟨hb, fun e2 => ?_⟩
  rw [e2, show W.heap[bA]? = _ from h.arg] at hh
  cases hh
/-- One step more. -/
theorem Ste.push (h : Ste w bM bP bS bA vA N l M W) {v v' : Value} {c : Clm} {tmp : Obj} {w1 : World} (hv : Boxed W bS 27 v) (hrow : W.ownsRow w.heap.size 37 3 v l.length (clmC l)) (hb : w.heap.size ≤ bS)
    (hown' : w1.ownsRow w.heap.size 37 3 v' (l.length + 1) (clmC l ++ clmC [c])) (hgrow : (W.alloc tmp).grownBy w1 v.ownBlock) (B : Nat) :
    Ste w bM bP bS bA vA N (l ++ [c]) M (w1.setCell ⟨bS, 0, none⟩ v') ∧ KeepsFrom B W (w1.setCell ⟨bS, 0, none⟩ v') ∧ KpB w.heap.size bA W (w1.setCell ⟨bS, 0, none⟩ v') ∧ w1.cell? ⟨bS, 0, none⟩ = some v ∧ w1.frozen? ⟨bS, 0, none⟩ = false := by
  obtain ⟨hv1, hv2, hr2, hk2, hb2⟩ := hv.appended (by decide) hrow h.bel.size hb hown' hgrow
  have other : ∀ (B t : Nat) (u : Value), Boxed W B t u → t ≠ 37 → t ≠ 27 → Boxed (w1.setCell ⟨bS, 0, none⟩ v') B t u := fun B t u hB h1 h2 => by
    have h3 : Boxed w1 B t u := (hB.alloc tmp).kept hgrow (hB.not_row h1 hrow)
    refine h3.other (fun e => ?_) _
    have h5 := hB
    rw [e] at h5
    have h4 := (show W.heap[bS]? = _ from h5).symm.trans hv
    simp at h4
    exact h2 h4.2
  obtain ⟨m, D, hm, hN, es, ck, hh, hrest⟩ := h.map
  have hA := other _ _ _ h.arg (by decide) (by decide)
  refine ⟨⟨other _ _ _ h.box (by decide) (by decide), ⟨m, D, hm, hN, es, ck, hk2.same _ _ hh rfl, hrest⟩, ⟨v', hv2, by rw [List.length_append, clmC_app]; exact hr2, trivial⟩, hA, h.bel.trans hb2⟩, hk2.from _, ⟨hb2, ?_⟩, hv1.cell, hv1.frozen⟩
  exact (show _ = _ from hA).trans (show W.heap[bA]? = _ from h.arg).symm
end
theorem zeroInt (w : World) : (zeroValue 3).run Tryz.prog w = .ok (.int .i64 0) w := by
  have h : (Tryz.prog.info? 3).map (fun i => (i.zero, i.size)) = some (some (.int .i64 0), 1) := by kernel_rfl
  exact (zero_of_info h).1 w
theorem Tryz.infoSt2 : ∃ i z, Tryz.prog.info? 37 = some i ∧ i.zero = some z ∧ i.size = 3 ∧ i.bytes = 16 ∧ z.cells.size = 3 := by
  have h : (Tryz.prog.info? 37).map (fun i => (i.zero, i.size, i.bytes)) = some (some (.agg #[.bool false, .bool false, .int .i64 0]), 3, 16) := by kernel_rfl
  obtain ⟨i, h1, h2⟩ := Option.map_eq_some_iff.1 h
  simp only [Prod.mk.injEq] at h2
  exact ⟨i, _, h1, h2.1, h2.2.1, h2.2.2, rfl⟩
end Go.Proofs.YtmbclnaenjcocaaGreatDoor
namespace Go.Proofs.YtmbclnaenjcocaaGreatDoor
open Go.RowKit Go.Shelf Go.Maps

attribute [local go_sem] Oper.semAt_some

def bx4 (W : World) (B : Nat) (x : Hrd) : Prop := W.heap[B]? = some (.cells #[.bool x.1.1, .bool x.1.2.1, .int .i64 x.1.2.2, .slice x.2.1 x.2.2.1 x.2.2.2] 68 (0, 0))
theorem bx4_own (B B0 : Nat) (x : Hrd) : OwnFrom B0 (fun (_ : Unit) W => bx4 W B x) := fun _ X Y row hs hg hr => by
  have hs : X.heap[B]? = _ := hs
  refine (hg.block B (Array.getElem?_eq_some_iff.1 hs).1 fun e => ?_).trans hs
  obtain ⟨_, o, ho, hc⟩ := hr _ e.symm
  rw [hs] at ho
  cases ho
  cases hc
theorem bx4_push {W w1 : World} {n₀ Bx bS k : Nat} {v v' : Value} {x : Hrd} {tmp : Obj} {xs : List Value} (hB : bx4 W Bx x) (hv : Boxed W bS 27 v) (hrow : W.ownsRow n₀ 37 3 v k xs) (hgrow : (W.alloc tmp).grownBy w1 v.ownBlock) : bx4 w1 Bx x ∧ bx4 (w1.setCell ⟨bS, 0, none⟩ v') Bx x ∧ Bx ≠ bS := by
  have hB : W.heap[Bx]? = _ := hB
  have hlt : Bx < W.heap.size := (Array.getElem?_eq_some_iff.1 hB).1
  have hne : Bx ≠ bS := fun e => by
    rw [e, show W.heap[bS]? = _ from hv] at hB
    injection hB with hB
    injection hB with _ hB _
    exact absurd hB (by decide)
  have h1 : w1.heap[Bx]? = _ := (hgrow.block Bx (by simp; omega) (fun e => by
    rcases hrow.2 with ⟨rfl, _⟩ | ⟨g, cap, cur, rfl, _, hgb, _⟩
    · cases e
    · injection e with e
      have e : Bx = g := e
      subst e
      rw [hgb] at hB
      injection hB with hB
      injection hB with _ hB _
      exact absurd hB (by decide))).trans ((Below.heap_alloc W tmp Bx hlt).trans hB)
  exact ⟨h1, (Below.heap_setCell w1 _ _ _ hne).trans h1, hne⟩
theorem take_contains (fr : List Clm) {j : Nat} {d : Clm} (h : fr[j]? = some d) (x : Clm) : (fr.take (j + 1)).contains x = ((fr.take j).contains x || x == d) := by
  rw [List.take_add_one, h]
  apply Bool.eq_iff_iff.2
  simp
set_option maxRecDepth 100000 in
set_option maxHeartbeats 8000000 in
theorem stepsTo_p {w : World} {va : Option Addr} {vc n : Nat} {hl : List Hrd} (e : Fin hl.length → Clm × List Clm) (a b : Bool) (q : Int) (hq : ClmWf (a, b, q)) (hn : n = hl.length) (hv : HRd w w.heap.size (.slice va n vc) hl) (hlen : n ≤ 1000000)
    (he : ∀ i : Fin hl.length, hl[i.1].1 = (e i).1 ∧ ClmWf (e i).1 ∧ SRd w w.heap.size (.slice hl[i.1].2.1 hl[i.1].2.2.1 hl[i.1].2.2.2) (e i).2 ∧ (e i).2.length ≤ 100000000 ∧ ∀ c, c ∈ (e i).2 → ClmWf c) :
    Calls Tryz.prog 20 #[.agg #[.bool a, .bool b, .int .i64 q], .slice va n vc] w fun e' w' => ∃ u, e' = .returned u ∧ SRd w' w'.heap.size u (pick (fun c => c == (a, b, q)) ((bwd hl.length).map e)).reverse ∧ Below w.heap.size w w' := by
  refine (callsIn_wide (n := 5)).1 ?_
  obtain ⟨kl, hkl⟩ := keyClm (a, b, q) hq
  have hmm := @run_makeMap Tryz.prog
  have hm0 := World.ownsMap_made (w.alloc (.cells #[.bool a, .bool b, .int .i64 q] 65)) Tryz.prog 65 (plainElem (H := Unit) Tryz.prog 3)
  rw [World.size_alloc] at hm0
  have HV := hidLL (And.intro hv (And.intro he hn))
  clear hv he
  refine callsIn_of_wp_marks Tryz.func20 rfl trivial ?_ rfl
  simp only [Tryz.ntmps20, List.size_toArray, List.length_cons, List.length_nil, Nat.reduceAdd, Nat.reduceSub, Array.replicate_succ, Array.replicate_zero, List.push_toArray, List.append_toArray, List.nil_append, List.cons_append]
  have HN := hidLL hn
  clear hn
  gi_wp2_with (first
    | (refine wpListIn_insert_own _ rfl _ _ _ 79 rfl 65 3 lawClm Tryz.underlying79 (plainElem (H := Unit) Tryz.prog 3) (w.heap.size + 1) 0 (.map []) rfl hm0 (by decide) (clmV (a, b, q)) (.int .i64 1) kl rfl rfl hkl _ [] (plainElem_int Tryz.underlying3 (by decide)) ?_; intro w3 hown3 hgrow3)
    | (refine ⟨trivial, ?_⟩; gi_at_call 30; refine (backward_in Fence.wide _ trivial rfl _ _ _ _).mono ?_; rintro e w' ⟨rfl, rfl⟩))
  have hsz3 := hgrow3.size
  simp only [World.size_alloc] at hsz3
  have hB3 : Below w.heap.size w w3 := (((Below.refl _ w).alloc (Nat.le_refl _) (.cells #[.bool a, .bool b, .int .i64 q] 65)).alloc (by simp) (.map #[] 0)).grown hgrow3 (by simp; omega) (fun k e => by cases e; omega)
  have bP := ((Boxed.new w3 79 (.map (some (w.heap.size + 1)))).alloc (.cells #[.slice none 0 0] 27)).alloc (.cells #[.slice va n vc] 63)
  have bS := (Boxed.new (w3.alloc (.cells #[.map (some (w.heap.size + 1))] 79)) 27 (.slice none 0 0)).alloc (.cells #[.slice va n vc] 63)
  have bA := Boxed.new ((w3.alloc (.cells #[.map (some (w.heap.size + 1))] 79)).alloc (.cells #[.slice none 0 0] 27)) 63 (.slice va n vc)
  simp only [World.size_alloc] at bS bA
  have hm4 := ((hown3.alloc (.cells #[.map (some (w.heap.size + 1))] 79)).alloc (.cells #[.slice none 0 0] 27)).alloc (.cells #[.slice va n vc] 63)
  have hB0 : Below w.heap.size w (((w3.alloc (.cells #[.map (some (w.heap.size + 1))] 79)).alloc (.cells #[.slice none 0 0] 27)).alloc (.cells #[.slice va n vc] 63)) := ((hB3.alloc (by omega) _).alloc (by simp; omega) _).alloc (by simp; omega) _
  have hsz : (((w3.alloc (.cells #[.map (some (w.heap.size + 1))] 79)).alloc (.cells #[.slice none 0 0] 27)).alloc (.cells #[.slice va n vc] 63)).heap.size = w3.heap.size + 3 := by simp
  obtain ⟨W0, hW0⟩ : ∃ W0, ((w3.alloc (.cells #[.map (some (w.heap.size + 1))] 79)).alloc (.cells #[.slice none 0 0] 27)).alloc (.cells #[.slice va n vc] 63) = W0 := ⟨_, rfl⟩
  rw [hW0] at bP bS bA hm4 hB0 hsz ⊢
  have hSt0 : Ste w (w.heap.size + 1) w3.heap.size (w3.heap.size + 1) (w3.heap.size + 1 + 1) (.slice va n vc) (fun c => c == (a, b, q)) [] 1 W0 :=
    ⟨bP, ⟨1, _, Nat.le_refl _, (NMap.start.put hkl).congr fun c => by simp, hm4⟩, ⟨_, bS, World.ownsRow_nil _ _ _ _, trivial⟩, bA, hB0⟩
  obtain ⟨p3, hp3⟩ : ∃ p3, p3 = w3.heap.size := ⟨_, rfl⟩
  rw [← hp3] at hSt0 hsz hsz3 ⊢
  clear hW0 bP bS bA hm4 hB0 hB3 hown3 hgrow3 hp3 hm0 hmm
  refine wpIn_rangeFunc_ownH rfl (by decide) (gf := 52) (lb := #[.pointer (some ⟨p3 + 1 + 1, 0, none⟩)]) rfl trivial (enters_of Tryz.func52 (by kernel_rfl) rfl)
    (back_stops Fence.wide _ trivial rfl (by decide) (p3 + 1 + 1) w.heap.size (.slice va n vc) hl (by rw [← HN.out]; exact hlen) W0 (by omega) (by omega) hSt0.arg.cell (HV.out.1.below hSt0.bel)) KpB.trans (KpB.put (by omega) (by omega)) (Below.refl _ _) (fun _ => rfl)
    (fun (pre : List (Fin hl.length)) W => Ste w (w.heap.size + 1) p3 (p3 + 1) (p3 + 1 + 1) (.slice va n vc) (need (fun c => c == (a, b, q)) (pre.map e)) (pick (fun c => c == (a, b, q)) (pre.map e)) (1 + pre.length * 100000000) W)
    (fun _ _ _ => False)
    (Ste.own (w := w) (bM := w.heap.size + 1) W0.heap.size (fun (pre : List (Fin hl.length)) => need (fun c => c == (a, b, q)) (pre.map e)) (fun (pre : List (Fin hl.length)) => pick (fun c => c == (a, b, q)) (pre.map e)) (fun (pre : List (Fin hl.length)) => 1 + pre.length * 100000000) (by omega) (by omega))
    (fun _ _ _ _ _ hs _ _ => hs)
    (hSt0.mono (Nat.le_add_right _ _))
    (fun x a' W => ∃ Bx, bx4 W Bx hl[x.1] ∧ a' = { tmps := #[.agg #[.bool a, .bool b, .int .i64 q], .slice va n vc, .pointer (some ⟨w.heap.size, 0, none⟩), undef, .slice none 0 0, .pointer (some ⟨p3, 0, none⟩), .pointer (some ⟨p3 + 1, 0, none⟩), undef, .pointer (some ⟨Bx, 0, none⟩), undef, undef, .map (some (w.heap.size + 1)), .agg #[.bool a, .bool b, .int .i64 q], .map (some (w.heap.size + 1)), .slice va n vc, .func (.func 52) #[] #[.pointer (some ⟨p3 + 1 + 1, 0, none⟩)], .int .i64 ((x.1 : Nat) : Int), hrdV hl[x.1], undef, undef, undef, undef, undef, undef, undef, undef, undef, undef, undef, undef, undef, undef, undef, undef, undef, undef, undef, undef, undef, undef, undef], defers := [] })
    (fun x a' _ X Y row hs hg hr => by obtain ⟨Bx, h2, h3⟩ := hs; exact ⟨Bx, bx4_own Bx _ _ () X Y row h2 hg hr, h3⟩)
    ?assign ?body ?done ?stop
  case assign =>
    rintro l pre x W K hst hK
    have hxv : hrdV hl[x.1] = .agg #[.bool hl[x.1].1.1, .bool hl[x.1].1.2.1, .int .i64 hl[x.1].1.2.2, .slice hl[x.1].2.1 hl[x.1].2.2.1 hl[x.1].2.2.2] := rfl
    have HK := hidLL hK
    have HS := hidLL hst
    clear hK hst
    dsimp only
    rw [hxv]
    gi_wp2
    exact HK.out _ _ ((KeepsOthers.alloc _ _).from _) ⟨(Below.refl _ W).alloc HS.out.bel.size _, Below.heap_alloc W _ _ HS.out.arg.lt⟩ (HS.out.alloc _) ⟨W.heap.size, World.alloc_heap_new W _, rfl⟩
  case body =>
    rintro l pre x a' W hl2 ⟨r, hr⟩ hst ⟨Bx, hBx, rfl⟩ hlt
    obtain ⟨hx1, hx2, hx3, hx4, hx5⟩ := HV.out.2.1 x
    have hBx : W.heap[Bx]? = some (.cells #[.bool hl[x.1].1.1, .bool hl[x.1].1.2.1, .int .i64 hl[x.1].1.2.2, .slice hl[x.1].2.1 hl[x.1].2.2.1 hl[x.1].2.2.2] 68 (0, 0)) := hBx
    rw [hx1] at hBx
    obtain ⟨u4, u5, u6, hu⟩ : ∃ u4 u5 u6, hl[x.1].2 = (u4, u5, u6) := ⟨_, _, _, rfl⟩
    rw [hu] at hBx hx3
    dsimp only at hBx hx3
    obtain ⟨fr, hfr⟩ : ∃ fr, fr = (e x).2 := ⟨_, rfl⟩
    obtain ⟨cl, hcl⟩ : ∃ cl, cl = (e x).1 := ⟨_, rfl⟩
    have hsn : ∀ N0, need N0 ((pre ++ [x]).map e) = if need N0 (pre.map e) cl then (fun c => need N0 (pre.map e) c || fr.contains c) else need N0 (pre.map e) := fun N0 => by
      rw [List.map_append, hcl, hfr]; exact need_snoc _ _ _
    have hsp : ∀ N0, pick N0 ((pre ++ [x]).map e) = pick N0 (pre.map e) ++ (if need N0 (pre.map e) cl then [cl] else []) := fun N0 => by
      rw [List.map_append, hcl]; exact pick_snoc _ _ _
    rw [← hfr] at hx3 hx4 hx5
    rw [← hcl] at hBx hx2
    have hple : (pick (fun c => c == (a, b, q)) (pre.map e)).length ≤ pre.length := by
      have := (pick_sub (pre.map e) (fun c => c == (a, b, q))).length_le
      simpa using this
    have hprl : pre.length ≤ 1000000 := by have := HN.out; omega
    have hlp : (pre ++ [x]).length = pre.length + 1 := by simp
    have HSN := hidLL (And.intro (hsn (fun c => c == (a, b, q))) (And.intro (hsp (fun c => c == (a, b, q))) hlp))
    clear hsn hsp hfr hcl hu hx1 hlp
    obtain ⟨N, hN⟩ : ∃ N, N = need (fun c => c == (a, b, q)) (pre.map e) := ⟨_, rfl⟩
    obtain ⟨pk, hpk⟩ : ∃ pk, pk = pick (fun c => c == (a, b, q)) (pre.map e) := ⟨_, rfl⟩
    rw [← hN, ← hpk] at HSN
    rw [← hN, ← hpk] at hst
    rw [← hpk] at hple
    clear hN hpk
    obtain ⟨c1, c2, c3'⟩ := cl
    have x0 : W.cell? ⟨Bx, 0, none⟩ = some (.bool c1) := by simp [World.cell?, hBx]
    have x1 : W.cell? ⟨Bx, 1, none⟩ = some (.bool c2) := by simp [World.cell?, hBx]
    have x2 : W.cell? ⟨Bx, 2, none⟩ = some (.int .i64 c3') := by simp [World.cell?, hBx]
    have x3 : W.cell? ⟨Bx, 3, none⟩ = some (.slice u4 u5 u6) := by simp [World.cell?, hBx]
    have HX3 := hidLL hx3
    obtain ⟨_, _, efr, _, _⟩ := hx3
    have hu5 : u5 = fr.length := by injection efr
    clear efr
    have y0 := hst.box.cell
    obtain ⟨m, D, hm, hNM, hown⟩ := hst.map
    obtain ⟨kc, hkc⟩ := keyClm (c1, c2, c3') hx2
    have hat0 := hNM.at' (c1, c2, c3') kc hx2 hkc
    have HST := hidLL hst
    have HBx := hidLL hBx
    have h1' : 1 ≤ 5 - 1 - 1 := by decide
    by_cases hneed : N (c1, c2, c3') = true
    · rw [if_pos hneed] at hat0
      have HSN2 : Hid (Ste w (w.heap.size + 1) p3 (p3 + 1) (p3 + 1 + 1) (.slice va n vc) (fun c => N c || fr.contains c) (pk ++ [(c1, c2, c3')]) (1 + (pre.length + 1) * 100000000) = Ste w (w.heap.size + 1) p3 (p3 + 1) (p3 + 1 + 1) (.slice va n vc) (need (fun c => c == (a, b, q)) ((pre ++ [x]).map e)) (pick (fun c => c == (a, b, q)) ((pre ++ [x]).map e)) (1 + (pre ++ [x]).length * 100000000)) := by
        rw [HSN.out.1, HSN.out.2.1, HSN.out.2.2, if_pos hneed, if_pos hneed]
        exact rfl
      obtain ⟨v, hv, hrow, _⟩ := hst.steps
      obtain ⟨sa, sc, hsv⟩ := row_any hrow
      subst hsv
      obtain ⟨i0, z0, hi, hz0, hz1, hz2, hz3⟩ := Tryz.infoSt2
      have hbsz := hst.bel.size
      have z1 := hv.cell
      have HAC : Hid (∀ (j : Nat) (u : Value), (clmC [((c1, c2, c3') : Clm)])[j]? = some u → (W.alloc (.cells #[.bool c1, .bool c2, .int .i64 c3'] 37)).cell? ((⟨W.heap.size, 0, none⟩ : Addr).add j) = some u) := fun j u h => alloc_cellC W (clmC [(c1, c2, c3')]) 37 j u h
      have hBX4 : bx4 W Bx ((c1, c2, c3'), u4, u5, u6) := hBx
      have HB4 := hidLL hBX4
      have HR := hidLL (And.intro hv hrow)
      have hplen : pk.length ≤ 1000000 := by have := HN.out; omega
      clear hst hBx hlt hneed hBX4 hv hrow
      gi_wp2_with (first
        | (gi_at_lookup; refine wpListIn_lookup_own_int _ rfl _ _ 79 rfl 65 3 .i64 lawClm Tryz.underlying79 Tryz.underlying3 (zeroInt _) (w.heap.size + 1) m D rfl hown (clmV (c1, c2, c3')) kc rfl hkc ?_; intro c hat hwc; (obtain rfl : c = 1 := (by rw [hat0] at hat; injection hat with hat; injection hat with _ hat; exact hat.symm)); clear hat hwc)
        | (gi_at_builtin; refine wpListIn_append_own _ rfl _ _ 27 rfl w.heap.size 37 i0 z0 3 16 Tryz.underlying27 hi hz0 hz1 hz2 hz3 (by decide) _ _ _ rfl (HR.out.2.alloc _) ⟨W.heap.size, 0, none⟩ 1 1 (clmC [(c1, c2, c3')]) rfl rfl HAC.out (clmC_one _) (by unfold maxLen; omega) (by omega) (by simp; omega) ?_; intro v' w1 hown' hgrow _; obtain ⟨g', cap', rfl⟩ := ownsRow_succ hown'; obtain ⟨S1, S2, S3, S4, S5⟩ := HST.out.push HR.out.1 HR.out.2 (by omega) hown' hgrow W0.heap.size; obtain ⟨b1, b2, hneB⟩ := bx4_push (v' := .slice (some ⟨g', 0, none⟩) (pk.length + 1) cap') HB4.out HR.out.1 HR.out.2 hgrow; have b3 : w1.cell? ⟨Bx, 3, none⟩ = some (.slice u4 u5 u6) := (by have b1 : w1.heap[Bx]? = _ := b1; simp [World.cell?, b1]); have HS1 := hidLL (And.intro S1 (And.intro S2 S3)); clear S1 S2 S3 hown' hgrow b1 b2))
      obtain ⟨W5, hW5⟩ : ∃ W5 : World, W5 = w1.setCell ⟨p3 + 1, 0, none⟩ (.slice (some ⟨g', 0, none⟩) (pk.length + 1) cap') := ⟨_, rfl⟩
      have HS5 : Hid (Ste w (w.heap.size + 1) p3 (p3 + 1) (p3 + 1 + 1) (.slice va n vc) N (pk ++ [(c1, c2, c3')]) (1 + pre.length * 100000000) W5 ∧ KeepsFrom W0.heap.size W W5 ∧ KpB w.heap.size (p3 + 1 + 1) W W5) := by rw [hW5]; exact HS1.out
      rw [← hW5]
      clear hW5 HS1 S4 S5 b3 HB4 HR HAC hown hat0 hm hNM y0 z1 x0 x1 x2 x3 hi hz0 hz1 hz2 hz3
      gi_loopw [31] (fun t wr => ∃ j : Nat, j ≤ u5 ∧ t = .int .i64 j ∧ Ste w (w.heap.size + 1) p3 (p3 + 1) (p3 + 1 + 1) (.slice va n vc) (fun c => N c || (fr.take j).contains c) (pk ++ [(c1, c2, c3')]) (1 + pre.length * 100000000 + j) wr ∧ KeepsFrom W0.heap.size W wr ∧ KpB w.heap.size (p3 + 1 + 1) W wr) (fun t _ => u5 - (intOf t).toNat)
      case atStart => exact ⟨0, by omega, rfl, (HS5.out.1.congr fun c => by simp).mono (by omega), HS5.out.2.1, HS5.out.2.2⟩
      case round =>
        obtain ⟨j, hj, rfl, hSj, hKj, hPj⟩ := hrel
        obtain ⟨w6, hw6⟩ : ∃ w6 : World, w6 = wr := ⟨_, rfl⟩
        subst hw6
        by_cases hjl : j < u5
        · have hjz : (j : Int) < u5 := by omega
          obtain ⟨d, hd⟩ : ∃ d, fr[j]? = some d := ⟨_, List.getElem?_eq_getElem (by omega)⟩
          obtain ⟨kd, hkd⟩ := keyClm d (hx5 d (List.mem_of_getElem? hd))
          obtain ⟨gf, of, e4, hgf, r0, r1, r2⟩ := HX3.out.at hd
          subst e4
          have s0 := (hSj.bel.cell (p := ⟨gf, of + j * 3, none⟩) hgf).trans r0
          have s1 := (hSj.bel.cell (p := ⟨gf, of + j * 3 + 1, none⟩) hgf).trans r1
          have s2 := (hSj.bel.cell (p := ⟨gf, of + j * 3 + 2, none⟩) hgf).trans r2
          have htc := take_contains fr hd
          obtain ⟨d1, d2, d3⟩ := d
          have hS' := hSj.alloc (.cells #[.bool d1, .bool d2, .int .i64 d3] 65)
          have hK' : KeepsFrom W0.heap.size w6 (w6.alloc (.cells #[.bool d1, .bool d2, .int .i64 d3] 65)) := (KeepsOthers.alloc _ _).from _
          have hP' : KpB w.heap.size (p3 + 1 + 1) w6 (w6.alloc (.cells #[.bool d1, .bool d2, .int .i64 d3] 65)) := ⟨(Below.refl _ _).alloc hSj.bel.size _, Below.heap_alloc w6 _ _ hSj.arg.lt⟩
          obtain ⟨m', D', hm', hNM', hown'⟩ := hS'.map
          have y0' := hS'.box.cell
          have hmx : m' < maxLen := by unfold maxLen; have := HN.out; omega
          have HS' := hidLL (And.intro hS' (And.intro (hKj.trans hK') (And.intro (hPj.trans hP') (And.intro hm' hNM'))))
          have HTC := hidLL htc
          clear hSj hKj hPj hS' hK' hP' hm' hNM' htc hd r0 r1 r2
          gi_wp2_with (gi_at_mapUpdate; refine wpListIn_mapUpdate_own _ rfl _ _ _ 79 rfl 65 3 lawClm Tryz.underlying79 (plainElem (H := Unit) Tryz.prog 3) (w.heap.size + 1) m' D' rfl hown' hmx (clmV (d1, d2, d3)) (.int .i64 1) kd rfl rfl hkd _ [] (plainElem_int Tryz.underlying3 (by decide)) ?_; intro w9 hown9 hgrow9)
          go_roundw
          case rel =>
            obtain ⟨q1, q2, q3⟩ := HS'.out.1.put HS'.out.2.2.2.1 HS'.out.2.2.2.2 hown' hkd hown9 hgrow9 (by omega) W0.heap.size (by omega)
            exact ⟨j + 1, by omega, by go_num, (q1.congr fun c => by rw [HTC.out c, Bool.or_assoc]).mono (by omega), HS'.out.2.1.trans q2, HS'.out.2.2.1.trans q3⟩
          case measure => simp [intOf]; omega
        · have hje : j = fr.length := by omega
          have hjn : ¬ (j : Int) < u5 := by omega
          have HE : Hid (Ste w (w.heap.size + 1) p3 (p3 + 1) (p3 + 1 + 1) (.slice va n vc) (fun c => N c || fr.contains c) (pk ++ [(c1, c2, c3')]) (1 + (pre.length + 1) * 100000000) w6 ∧ KeepsFrom W0.heap.size W w6 ∧ KpB w.heap.size (p3 + 1 + 1) W w6) := by
            refine ⟨(hSj.mono (by omega)).congr fun c => ?_, hKj, hPj⟩
            rw [hje, List.take_of_length_le (Nat.le_refl _)]
          clear hSj hKj hPj
          gi_wp2
          have hkf := HE.out.2.1
          rw [hsz] at hkf
          exact ⟨hkf, HE.out.2.2, by dsimp only; rw [← HSN2.out]; exact HE.out.1⟩
    · rw [if_neg hneed] at hat0
      have HSN2 : Hid (Ste w (w.heap.size + 1) p3 (p3 + 1) (p3 + 1 + 1) (.slice va n vc) N pk (1 + (pre.length + 1) * 100000000) = Ste w (w.heap.size + 1) p3 (p3 + 1) (p3 + 1 + 1) (.slice va n vc) (need (fun c => c == (a, b, q)) ((pre ++ [x]).map e)) (pick (fun c => c == (a, b, q)) ((pre ++ [x]).map e)) (1 + (pre ++ [x]).length * 100000000)) := by
        rw [HSN.out.1, HSN.out.2.1, HSN.out.2.2, if_neg hneed, if_neg hneed, List.append_nil]
        exact rfl
      clear hst hBx hlt hneed
      gi_wp2_with (first
        | (gi_at_lookup; refine wpListIn_lookup_own_int _ rfl _ _ 79 rfl 65 3 .i64 lawClm Tryz.underlying79 Tryz.underlying3 (zeroInt _) (w.heap.size + 1) m D rfl hown (clmV (c1, c2, c3')) kc rfl hkc ?_; intro c hat hwc; (obtain rfl : c = 0 := (by rw [hat0] at hat; injection hat with hat; injection hat with _ hat; exact hat.symm)); clear hat hwc))
      exact ⟨KeepsFrom.refl _ _, KpB.refl _ _ _, by dsimp only; rw [← HSN2.out]; exact HST.out.mono (by omega)⟩
  case done =>
    rintro D ys W hD rfl hst hK
    obtain ⟨L, hL⟩ : ∃ L, L = pick (fun c => c == (a, b, q)) ((bwd hl.length).map e) := ⟨_, rfl⟩
    have hLn : L.length ≤ 1000000 := by
      have h9 := (pick_sub ((bwd hl.length).map e) (fun c => c == (a, b, q))).length_le
      rw [← hL] at h9
      simp only [List.length_map, bwd_len] at h9
      have := HN.out
      omega
    rw [← hL] at hst
    have HL := hidLL hL
    obtain ⟨v, hv, hrow, _⟩ := hst.steps
    have z1 := hv.cell
    have hDW : D < W.heap.size := (Array.getElem?_eq_some_iff.1 hK).1
    rcases hrow.2 with ⟨ev, h0⟩ | ⟨g, cap, cur, ev, hgb, hgg, _⟩
    · subst ev
      have hL0 : L = [] := List.eq_nil_of_length_eq_zero h0
      have HC := hidLL (reverse_nil W)
      have HE := hidLL (And.intro hst.bel (And.intro hK hL0))
      clear hst hrow hv hL hK hL0 h0
      gi_wp2_with (refine ⟨trivial, ?_⟩; gi_at_call 31; refine (callsIn_wide.2 HC.out).mono ?_; rintro e w' ⟨rfl, rfl⟩)
      refine ⟨by simp, .inl ⟨_, _, rfl, run_takeDeferred HE.out.2.1, ?_⟩⟩
      refine ⟨_, results_tmp rfl _ _ _, _, rfl, ?_, ?_⟩
      · rw [← HL.out, HE.out.2.2]
        exact ⟨_, _, rfl, by simp, fun j x hj => by simp at hj⟩
      · exact HE.out.1.trans (belowK_b (w := w) (Nat.le_refl _) _ D _ _ (by omega) HE.out.2.1 rfl rfl)
    · obtain ⟨n5, hn5⟩ : ∃ n5, n5 = L.length := ⟨_, rfl⟩
      rw [← hn5] at ev hrow hLn
      subst ev
      obtain ⟨M, R, hc3, hM⟩ := own_c3 hrow hn5
      have hgS : g ≠ p3 + 1 := fun e => by
        rw [e, show W.heap[p3 + 1]? = _ from hv] at hgg
        injection hgg with hgg
        injection hgg with _ hgg _
        exact absurd hgg (by decide)
      have hgD : g ≠ D := fun e => by
        rw [e, hK] at hgg
        cases hgg
      have HC := hidLL (reverse_p (cap := cap) hc3 hM (by omega))
      have hlS := hv.lt
      have HE := hidLL (And.intro hst.bel (And.intro hK (And.intro hM hn5)))
      have HEg := hidLL hgb
      clear hst hrow hL hK hc3 hM hn5 hgg hgb hv
      gi_wp2_with (refine ⟨trivial, ?_⟩; gi_at_call 31; refine (callsIn_wide.2 HC.out).mono ?_; rintro e w5 ⟨rfl, hrw, hch⟩; have z5 : w5.cell? ⟨p3 + 1, 0, none⟩ = some (.slice (some ⟨g, 0, none⟩) n5 cap) := (hch.cell (p := ⟨p3 + 1, 0, none⟩) hlS (by simp; omega)).trans z1; have HF := hidLL (And.intro hrw hch); clear hrw hch)
      have hK5 : w5.heap[D]? = some (.deferred (some [])) := (HF.out.2.block D hDW (by simp; omega)).trans HE.out.2.1
      refine ⟨by simp, .inl ⟨_, _, rfl, run_takeDeferred hK5, ?_⟩⟩
      refine ⟨_, results_tmp rfl _ _ _, _, rfl, ?_, ?_⟩
      · rw [← HL.out]
        have hrow6 := HF.out.1.of_block (World.putObj_heap_other (w := w5) (o := .deferred none) (fun e => hgD e))
        have h7 := c3_srd (cap := cap) hrow6 HE.out.2.2.1 HE.out.2.2.2 (by omega)
        have hg8 : g < w5.heap.size := HF.out.1.lt
        obtain ⟨aa, cc, e1, e2, e3⟩ := h7
        refine ⟨aa, cc, e1, e2, fun j x hj => ?_⟩
        obtain ⟨g9, o9, f1, f2, f3⟩ := e3 j x hj
        exact ⟨g9, o9, f1, by simp; omega, f3⟩
      · exact (HE.out.1.trans (HF.out.2.below HE.out.1.size (fun k hk => by simp at hk; rw [hk]; exact HEg.out))).trans (belowK_b (w := w) (Nat.le_refl _) _ D _ _ (by omega) hK5 rfl rfl)
  case stop =>
    rintro D c pre W _ _ h _
    exact h.elim
end Go.Proofs.YtmbclnaenjcocaaGreatDoor
