/-
  Package strings: Lines: its contract as an iterator that keeps what is left in a cell.
-/
import Derived.RangeFuncNested
import Derived.RangeFuncBound
import Derived.RangeFuncCalls
import Derived.RangeFuncLeaves
import Derived.Shelf.Abstract
import Derived.Shelf.RegionOpen
import Derived.WalkKit
import Derived.OwnWalkIn
import Derived.TacticsInMore
import Derived.LoopNIn
import Derived.LoopIn
import Derived.Test.YtfnlcblalieolaaDoorWtSeq
import Derived.Test.YtfnlcblalieolaaDoorWtMem
import Derived.Test.YtfnlcblalieolaaDoorShelfN
namespace Go.Proofs.YtfnlcblalieolaaDoor
open Go.RowKit Go.Shelf

attribute [local go_sem] Oper.semAt_some

/-- The first line, with its end, and what is behind it. -/
def cutL : List UInt8 → List UInt8 × List UInt8
  | [] => ([], [])
  | c :: r => if c == 10 then ([c], r) else (c :: (cutL r).1, (cutL r).2)
theorem cutL_le : ∀ s : List UInt8, (cutL s).2.length ≤ s.length - 1
  | [] => Nat.le_refl _
  | c :: r => by
    unfold cutL
    by_cases h : (c == 10) = true
    · rw [if_pos h]; simp
    · rw [if_neg h]
      have := cutL_le r
      simp
      omega
theorem cutL_ix : ∀ s : List UInt8, (Lib.indexByte s 10 = -1 ∧ cutL s = (s, [])) ∨ ∃ i : Nat, i < s.length ∧ Lib.indexByte s 10 = (i : Int) ∧ cutL s = (s.take (i + 1), s.drop (i + 1))
  | [] => .inl ⟨rfl, rfl⟩
  | c :: r => by
    unfold cutL Lib.indexByte
    by_cases h : (c == 10) = true
    · rw [if_pos h, if_pos h]
      exact .inr ⟨0, by simp, rfl, by simp⟩
    · rw [if_neg h, if_neg h]
      rcases cutL_ix r with ⟨h1, h2⟩ | ⟨i, hi, h1, h2⟩
      · rw [h1, h2]
        exact .inl ⟨by simp, rfl⟩
      · rw [h1, h2]
        refine .inr ⟨i + 1, by simp <;> omega, ?_, by simp⟩
        have : ((i : Int) == -1) = false := by simp <;> omega
        rw [this]
        simp
/-- The lines of a text, each with its end. -/
def linesF : Nat → List UInt8 → List ByteArray
  | 0, _ => []
  | f + 1, s => if s.length = 0 then [] else ⟨(cutL s).1.toArray⟩ :: linesF f (cutL s).2
theorem linesF_more : ∀ (f g : Nat) (s : List UInt8), s.length ≤ f → s.length ≤ g → linesF f s = linesF g s
  | 0, g, s, h, _ => by
    have h0 : s.length = 0 := by omega
    cases g with
    | zero => rfl
    | succ g => unfold linesF; rw [if_pos h0]
  | f + 1, 0, s, _, h => by
    have h0 : s.length = 0 := by omega
    unfold linesF; rw [if_pos h0]
  | f + 1, g + 1, s, h1, h2 => by
    unfold linesF
    by_cases h0 : s.length = 0
    · rw [if_pos h0, if_pos h0]
    · rw [if_neg h0, if_neg h0]
      have := cutL_le s
      rw [linesF_more f g _ (by omega) (by omega)]
def linesB (s : List UInt8) : List ByteArray := linesF s.length s
theorem linesB_nil : linesB [] = [] := rfl
theorem linesB_cons {s : List UInt8} (h : s.length ≠ 0) : linesB s = ⟨(cutL s).1.toArray⟩ :: linesB (cutL s).2 := by
  unfold linesB
  obtain ⟨n, hn⟩ : ∃ n, s.length = n + 1 := ⟨s.length - 1, by omega⟩
  rw [hn]
  show (if s.length = 0 then [] else _) = _
  rw [if_neg h]
  have := cutL_le s
  rw [linesF_more n (cutL s).2.length _ (by omega) (Nat.le_refl _)]
theorem linesB_len : ∀ (f : Nat) (s : List UInt8), s.length ≤ f → (linesB s).length ≤ s.length
  | 0, s, h => by
    have h0 : s = [] := List.eq_nil_of_length_eq_zero (by omega)
    rw [h0]; exact Nat.le_refl _
  | f + 1, s, h => by
    by_cases h0 : s.length = 0
    · rw [List.eq_nil_of_length_eq_zero h0]; exact Nat.le_refl _
    · rw [linesB_cons h0, List.length_cons]
      have h1 := cutL_le s
      have h2 := linesB_len f (cutL s).2 (by omega)
      omega
/-- What a round must keep: what lies below, and the cell of what is left. -/
def KpL (n₀ Bs : Nat) (W W' : World) : Prop := Below n₀ W W' ∧ W'.heap[Bs]? = W.heap[Bs]?
theorem KpL.refl (n₀ Bs : Nat) (W : World) : KpL n₀ Bs W W := ⟨Below.refl _ _, rfl⟩
theorem KpL.trans {n₀ Bs : Nat} {A B C : World} (h : KpL n₀ Bs A B) (k : KpL n₀ Bs B C) : KpL n₀ Bs A C := ⟨h.1.trans k.1, k.2.trans h.2⟩
theorem KpL.put {n₀ Bs : Nat} {w : World} (hn : n₀ ≤ w.heap.size) (hb : Bs < w.heap.size) (W : World) (l : Nat) (o o' : Obj) (hl : w.heap.size ≤ l) (h : W.heap[l]? = some o) (h1 : o.isCells = false) (h2 : o.isWalk = false) : KpL n₀ Bs W (W.putObj l o') :=
  ⟨belowK_b hn W l o o' hl h h1 h2, World.putObj_heap_other (by omega)⟩
/-- How much is left, read off the world. -/
def leftS (Bs : Nat) (W : World) : Nat := match W.cell? ⟨Bs, 0, none⟩ with
  | some (.string s) => s.size
  | _ => 0
theorem leftS_eq {Bs : Nat} {W : World} {s : ByteArray} (h : W.cell? ⟨Bs, 0, none⟩ = some (.string s)) : leftS Bs W = s.size := by unfold leftS; rw [h]
theorem box_set {W : World} {Bs t : Nat} {v : Value} (h : W.heap[Bs]? = some (.cells #[v] t (0, 0))) (u : Value) : (W.setCell ⟨Bs, 0, none⟩ u).heap[Bs]? = some (.cells #[u] t (0, 0)) := (show Boxed W Bs t v from h).set u
set_option maxRecDepth 100000 in
set_option maxHeartbeats 4000000 in
theorem lines1_in (n : Nat) (hn : 1 ≤ n) (l Bs n₀ : Nat) (s0 : List UInt8) (hsz : s0.length ≤ 1000000) (J Jx : List ByteArray → World → Prop) (hJc : ∀ pre W v, J pre W → J pre (W.setCell ⟨Bs, 0, none⟩ v)) (hJg : ∀ pre W W', J pre W → W.grownBy W' none → J pre W')
    (hY : ∀ pre (x : ByteArray) W, J pre W → pre.length < (linesB s0).length → x.size ≤ 1000000 → YieldAt Fence.wide (n - 1) Tryd.prog l #[.string x] W fun e W' =>
      (e = .returned (.bool true) ∧ J (pre ++ [x]) W' ∧ KpL n₀ Bs W W') ∨ (e = .returned (.bool false) ∧ Jx (pre ++ [x]) W'))
    (W : World) (hBs : W.heap[Bs]? = some (.cells #[.string ⟨s0.toArray⟩] 9 (0, 0))) (h0 : J [] W) :
    CallsIn Fence.wide n Tryd.prog 25 #[.func (.yield l) #[] #[], .pointer (some ⟨Bs, 0, none⟩)] W fun e W' => (∃ v, e = .returned v) ∧
      ((∃ ys, ys = linesB s0 ∧ J ys W') ∨ (∃ pre, (∃ q, pre ++ q = linesB s0) ∧ Jx pre W')) := by
  refine callsIn_of_wp Tryd.func25 rfl trivial ?_ rfl
  simp only [Tryd.ntmps25, List.size_toArray, List.length_cons, List.length_nil, Nat.reduceAdd, Nat.reduceSub, Array.replicate_succ, Array.replicate_zero, List.push_toArray, List.append_toArray, List.nil_append, List.cons_append]
  have HY := hidLL hY
  have HJg := hidLL hJg
  have HJ := hidLL (And.intro hJc (And.intro h0 hBs))
  clear hY hJc hJg h0 hBs
  gi_wp2
  gi_loopw [3] (fun _ wr => ∃ (pre : List ByteArray) (rest : List UInt8), wr.heap[Bs]? = some (.cells #[.string ⟨rest.toArray⟩] 9 (0, 0)) ∧ linesB s0 = pre ++ linesB rest ∧ rest.length ≤ 1000000 ∧ J pre wr)
    (fun _ wr => leftS Bs wr)
  case atStart => exact ⟨[], s0, HJ.out.2.2, rfl, hsz, HJ.out.2.1⟩
  case round =>
    obtain ⟨pre, rest, hB, hL, hr, hJs⟩ := hrel
    obtain ⟨w3, hw3⟩ : ∃ w3 : World, w3 = wr := ⟨_, rfl⟩
    subst hw3
    have c0 : w3.cell? ⟨Bs, 0, none⟩ = some (.string ⟨rest.toArray⟩) := by simp [World.cell?, hB]
    have f0 : w3.frozen? ⟨Bs, 0, none⟩ = false := by simp [World.frozen?, hB]
    have hs3 : (⟨rest.toArray⟩ : ByteArray).size = rest.length := by show rest.toArray.size = _; simp
    by_cases hz : rest.length = 0
    · have hrn : rest = [] := List.eq_nil_of_length_eq_zero hz
      subst hrn
      have HE : Hid (J (linesB s0) w3) := by rw [hL, linesB_nil, List.append_nil]; exact hJs
      clear hJs hL hB hr
      gi_wp2
      go_end0
      first
        | exact ⟨⟨_, rfl⟩, .inl HE.out⟩
        | exact ⟨⟨_, rfl⟩, .inl ⟨_, rfl, HE.out⟩⟩
    · have hlc := linesB_cons hz
      have hmore : pre.length < (linesB s0).length := by rw [hL, List.length_append, hlc, List.length_cons]; omega
      have hgt : (0 : Int) < (rest.length : Int) := by omega
      have HIx := hidLL (Tryd.strings_IndexByte ⟨rest.toArray⟩ 10 w3)
      have hcut := cutL_le rest
      have e10 : (10 : Int).toNat.toUInt8 = (10 : UInt8) := rfl
      have etl : (⟨rest.toArray⟩ : ByteArray).data.toList = rest := by simp
      rw [e10, etl] at HIx
      rcases cutL_ix rest with ⟨hi, hc⟩ | ⟨i, hil, hi, hc⟩
      · rw [hi] at HIx
        have hJ4 := HJ.out.1 pre w3 (.string ⟨#[]⟩) hJs
        have hB4 := box_set hB (.string ⟨#[]⟩)
        obtain ⟨fn, tmps, assign, body, hy, hR⟩ := HY.out pre ⟨rest.toArray⟩ _ hJ4 hmore (by rw [hs3]; exact hr)
        have HA : Hid (linesB s0 = (pre ++ [⟨rest.toArray⟩]) ++ linesB []) := by
          show _ = _
          rw [hL, hlc, hc, List.append_assoc]
          rfl
        have HB4 := hidLL hB4
        have hlB := lt_of_block hB
        clear hJ4 hB4 hJs hL hlc hc hi hB etl e10
        gi_wp2_with (refine ⟨trivial, ?_⟩; gi_at_call 26; refine (callsIn_wide.2 HIx.out).mono ?_; rintro e w' ⟨rfl, rfl⟩)
        refine hR.mono ?_
        rintro e W3 (⟨rfl, hJ3, hk3⟩ | ⟨rfl, hJx3⟩)
        · have HK3 := hidLL (And.intro hJ3 hk3)
          clear hJ3 hk3
          gi_wp2
          go_roundw
          case rel => exact ⟨pre ++ [⟨rest.toArray⟩], [], HK3.out.2.2.trans HB4.out, HA.out, by simp, HK3.out.1⟩
          case measure =>
            have h8 := HK3.out.2.2.trans HB4.out
            have h9 : W3.cell? ⟨Bs, 0, none⟩ = some (.string ⟨#[]⟩) := by simp [World.cell?, h8]
            rw [leftS_eq h9, leftS_eq c0, hs3]
            show (0 : Nat) < rest.length
            omega
        · gi_wp2
          refine bodyPost_ret (results_none rfl _ _ _) rfl ?_
          exact ⟨⟨_, rfl⟩, .inr ⟨_, ⟨_, HA.out.symm⟩, hJx3⟩⟩
      · rw [hi] at HIx
        have hgd : (w3.setCell ⟨Bs, 0, none⟩ (.string ⟨(rest.drop (i + 1)).toArray⟩)).grownBy (w3.setCell ⟨Bs, 0, none⟩ (.string ⟨(rest.drop (i + 1)).toArray⟩)).drew none := ⟨rfl, rfl, rfl, Nat.le_refl _, fun _ _ _ => rfl⟩
        have hJ4 := HJg.out pre _ _ (HJ.out.1 pre w3 (.string ⟨(rest.drop (i + 1)).toArray⟩) hJs) hgd
        have hB4 : (w3.setCell ⟨Bs, 0, none⟩ (.string ⟨(rest.drop (i + 1)).toArray⟩)).drew.heap[Bs]? = some (.cells #[.string ⟨(rest.drop (i + 1)).toArray⟩] 9 (0, 0)) := box_set hB (.string ⟨(rest.drop (i + 1)).toArray⟩)
        obtain ⟨fn, tmps, assign, body, hy, hR⟩ := HY.out pre ⟨(rest.take (i + 1)).toArray⟩ _ hJ4 hmore (by show (rest.take (i + 1)).toArray.size ≤ _; simp; omega)
        have HA : Hid (linesB s0 = (pre ++ [⟨(rest.take (i + 1)).toArray⟩]) ++ linesB (rest.drop (i + 1))) := by
          show _ = _
          rw [hL, hlc, hc, List.append_assoc]
          rfl
        have HB4 := hidLL hB4
        have hlB := lt_of_block hB
        have x1 : (⟨rest.toArray⟩ : ByteArray).extract 0 (i + 1) = ⟨(rest.take (i + 1)).toArray⟩ := by
          apply ByteArray.ext
          simp
        have x2 : (⟨rest.toArray⟩ : ByteArray).extract (i + 1) rest.length = ⟨(rest.drop (i + 1)).toArray⟩ := by
          apply ByteArray.ext
          simp
          exact List.take_of_length_le (by simp)
        have k1 : (i : Int) + 1 ≤ (rest.length : Int) := by omega
        have k2 : (0 : Int) ≤ (i : Int) := by omega
        have k3 : i + 1 ≤ rest.length := by omega
        clear hJ4 hB4 hJs hL hlc hc hi hB etl e10 hgd
        gi_wp2_with (refine ⟨trivial, ?_⟩; gi_at_call 26; refine (callsIn_wide.2 HIx.out).mono ?_; rintro e w' ⟨rfl, rfl⟩)
        gi_region
        all_goals
          gi_wp2
          refine hR.mono ?_
          rintro e W3 (⟨rfl, hJ3, hk3⟩ | ⟨rfl, hJx3⟩)
          · have HK3 := hidLL (And.intro hJ3 hk3)
            clear hJ3 hk3
            gi_wp2
            go_roundw
            case rel => exact ⟨pre ++ [⟨(rest.take (i + 1)).toArray⟩], rest.drop (i + 1), HK3.out.2.2.trans HB4.out, HA.out, by rw [List.length_drop]; omega, HK3.out.1⟩
            case measure =>
              have h8 := HK3.out.2.2.trans HB4.out
              have h9 : W3.cell? ⟨Bs, 0, none⟩ = some (.string ⟨(rest.drop (i + 1)).toArray⟩) := by simp [World.cell?, h8]
              rw [leftS_eq h9, leftS_eq c0, hs3]
              show (rest.drop (i + 1)).toArray.size < rest.length
              simp
              omega
          · gi_wp2
            refine bodyPost_ret (results_none rfl _ _ _) rfl ?_
            exact ⟨⟨_, rfl⟩, .inr ⟨_, ⟨_, HA.out.symm⟩, hJx3⟩⟩
set_option maxHeartbeats 1000000 in
/-- strings.Lines(s): the text is boxed; the function value captures the box. -/
theorem lines_in (n : Nat) (s : ByteArray) (w : World) :
    CallsIn Fence.wide n Tryd.prog 18 #[.string s] w fun e w' => e = .returned (.func (.func 25) #[] #[.pointer (some ⟨w.heap.size, 0, none⟩)]) ∧ w' = w.alloc (.cells #[.string s] 9) := by
  refine callsIn_of_wp Tryd.func18 rfl trivial ?_ rfl
  simp only [Tryd.ntmps18, List.size_toArray, List.length_cons, List.length_nil, Nat.reduceAdd, Nat.reduceSub, Array.replicate_succ, Array.replicate_zero, List.push_toArray, List.append_toArray, List.nil_append, List.cons_append]
  gi_wp2
  go_ret
  exact ⟨rfl, rfl⟩
/-- What Lines hands back goes through the lines, and turns its own cell alone. -/
theorem lines_seq (n : Nat) (hn : 1 ≤ n) (Bs n₀ : Nat) (s0 : List UInt8) (hsz : s0.length ≤ 1000000) (w : World) (hlt : Bs < w.heap.size) (hBs : w.heap[Bs]? = some (.cells #[.string ⟨s0.toArray⟩] 9 (0, 0))) :
    SeqCell Fence.wide n Tryd.prog 25 #[.pointer (some ⟨Bs, 0, none⟩)] (fun x : ByteArray => #[Value.string x]) (KpL n₀ Bs) (fun ys => ys = linesB s0) (fun pre => ∃ q, pre ++ q = linesB s0) (linesB s0).length Bs (fun x => x.size ≤ 1000000) w := fun l J Jx W hW hJc hJg hY h0 =>
  lines1_in n hn l Bs n₀ s0 hsz J Jx hJc hJg hY W ((hW.block Bs hlt).trans hBs) h0
end Go.Proofs.YtfnlcblalieolaaDoor
