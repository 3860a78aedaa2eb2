/-
  The program's tokens: the token at a place.
-/
import Derived.Test.YtehbinobohjadaaGreatDoorBk13
import Derived.Test.YtehbinobohjadaaGreatDoorBk00
import Derived.Test.YtehbinobohjadaaGreatDoorProg
import Derived.WalkKit
import Derived.Below
import Derived.Outline
import Derived.Laws.OwnMore
import Derived.OneCell
import Derived.Deep.OwnRows
import Derived.Deep.MidRow
import Derived.Maps.AppendAt
import Derived.Deep.QuietTactic
import Derived.BigQuiet
import Derived.Deep.RegionLaw
import Derived.Deep.RegionWith
import Derived.Deep.DeepCutAuto
import Derived.Deep.RegionLawGrows
namespace Go.Proofs.YtehbinobohjadaaGreatDoor
open Go.RowKit Go.Extern.Stop Go.Stop Go.Extern

/-- The token with which a text begins: its kind, how long it is. -/
def qtokOf : List UInt8 → TK × Nat
  | [] => (.b, 1)
  | c :: r => if lowC c = true then (.w, ((c :: r).takeWhile wordC).length) else if numC c = true then (.n, numEnd (c :: r)) else if signN (c :: r) = 0 then (.b, 1) else (.s, signN (c :: r))
theorem qtok_cons (c : UInt8) (r : List UInt8) : qtokOf (c :: r) = if lowC c = true then (.w, ((c :: r).takeWhile wordC).length) else if numC c = true then (.n, numEnd (c :: r)) else if signN (c :: r) = 0 then (.b, 1) else (.s, signN (c :: r)) := rfl
theorem numEnd_le (l : List UInt8) : numEnd l ≤ l.length := by
  have h1 := (List.takeWhile_sublist numC (l := l)).length_le
  unfold numEnd
  split
  · rename_i hp
    have h3 : 3 ≤ (l.drop (l.takeWhile numC).length).length := by
      match l.drop (l.takeWhile numC).length, hp with
      | a :: b :: c :: l, _ => simp
    rw [List.length_drop] at h3
    omega
  · exact h1
theorem signN_le (l : List UInt8) : signN l ≤ l.length := by
  unfold signN
  split
  · rename_i h
    match l, h with
    | a :: b :: r, _ => simp
  · match l with
    | [] => simp
    | c :: r => simp only [List.length_cons]; split <;> omega
theorem qtok_le {l : List UInt8} (h : 1 ≤ l.length) : (qtokOf l).2 ≤ l.length := by
  match l, h with
  | c :: r, h =>
    rw [qtok_cons]
    split
    · exact (List.takeWhile_sublist wordC).length_le
    · split
      · exact numEnd_le _
      · split
        · simp
        · exact signN_le _
theorem qtok_pos (l : List UInt8) : 1 ≤ (qtokOf l).2 := by
  match l with
  | [] => exact Nat.le_refl 1
  | c :: r =>
    rw [qtok_cons]
    split
    · rename_i h
      rw [List.takeWhile_cons_of_pos (by unfold wordC; rw [h]; rfl)]
      simp
    · split
      · rename_i h
        have h1 : 1 ≤ ((c :: r).takeWhile numC).length := by rw [List.takeWhile_cons_of_pos h]; simp
        unfold numEnd
        split <;> omega
      · split
        · exact Nat.le_refl 1
        · dsimp only
          omega
def TokE (k : TK) (s : ByteArray) (p : Nat) (w : World) (e : Ending) (w' : World) : Prop := e = .returned (.agg #[.int .i64 (kN k), .string s, .int .i64 p]) ∧ Below w.heap.size w w'
set_option maxHeartbeats 2000000 in
theorem tokenAt_q (s : ByteArray) (hs : s.size ≤ 100000) (p : Nat) (hp : p < s.size) (w : World) :
    Calls Tryz.prog 34 #[.string s, .int .i64 p] w (TokE (qtokOf (s.data.toList.drop p)).1 ((s.extract p s.size).extract 0 (qtokOf (s.data.toList.drop p)).2) p w) := by
  have hpz : (p : Int) ≤ s.size := by omega
  have hr1 : 1 ≤ (s.extract p s.size).size := by simp only [ByteArray.size_extract]; omega
  have hr2 : (s.extract p s.size).size ≤ 100000 := by simp only [ByteArray.size_extract]; omega
  have hq : Hid (s.data.toList.drop p = (s.extract p s.size).data.toList) := (ext_drop s p).symm
  rw [hq.out]
  clear hq
  have hrs : (s.extract p s.size).size = s.size - p := ext_size s p
  obtain ⟨r, hr⟩ : ∃ r, r = s.extract p s.size := ⟨_, rfl⟩
  rw [← hr] at hr1 hr2 hrs ⊢
  have hr0 : 0 < r.size := by omega
  have hrz : (0 : Int) < r.size := by omega
  have HQ : Hid (r.data.toList = r[0] :: r.data.toList.drop 1) := by
    have := drop_get r 0 hr0
    rw [List.drop_zero] at this
    exact this
  have HA := hidLL (isLetter_q r[0])
  have HD := hidLL (isDigit_q r[0])
  have HT : Hid (qtokOf r.data.toList = if lowC r[0] = true then (.w, (r.data.toList.takeWhile wordC).length) else if numC r[0] = true then (.n, numEnd r.data.toList) else if signN r.data.toList = 0 then (.b, 1) else (.s, signN r.data.toList)) := by
    show _ = _
    conv => lhs; rw [HQ.out]
    rw [qtok_cons, ← HQ.out]
  have HL := hidLL (qtok_le (l := r.data.toList) (by rw [bl_len]; exact hr1))
  clear HQ
  generalize hX : qtokOf r.data.toList = X at *
  clear hX
  cases ha : lowC r[0]
  · rw [ha] at HA HT
    clear ha
    cases hd : numC r[0]
    · rw [hd] at HD HT
      clear hd
      have HS := hidLL (signSize_q r hr2 hr1)
      by_cases h0 : signN r.data.toList = 0
      · rw [h0] at HS
        have HX : Hid (X = (.b, 1)) := by show _ = _; rw [HT.out]; simp [h0]
        clear HT h0
        rw [HX.out]
        clear HX HL
        subst hr
        go_enter Tryz.func34, Tryz.ntmps34
        go_wp2_with (first | (go_at_call 72; refine (HA.out _).mono ?_; rintro e w' ⟨rfl, h9⟩; subst w') | (go_at_call 75; refine (HD.out _).mono ?_; rintro e w' ⟨rfl, h9⟩; subst w') | (go_at_call 77; refine (HS.out _).mono ?_; rintro e w' ⟨rfl, h9⟩; subst w'))
        refine bodyPost_ret (v := .agg #[.int .i64 0, .string ((s.extract p s.size).extract 0 1), .int .i64 p]) (by simp [results, Tryz.results34, go_sem]) rfl ?_
        exact ⟨rfl, (Below.refl _ _).alloc (Nat.le_refl _) _⟩
      · have HX : Hid (X = (.s, signN r.data.toList)) := by show _ = _; rw [HT.out]; simp [h0]
        rw [HX.out] at HL
        have h0p : 0 < signN r.data.toList := by omega
        clear HT h0
        rw [HX.out]
        clear HX
        have hl : signN r.data.toList ≤ r.size := by have := HL.out; rw [bl_len] at this; exact this
        clear HL
        generalize signN r.data.toList = z at *
        have hzp : (0 : Int) < z := by omega
        have hlz : (z : Int) ≤ r.size := by omega
        have hl2 : z ≤ s.size - p := by omega
        have hl3 : (z : Int) ≤ (s.size - p : Nat) := by omega
        subst hr
        go_enter Tryz.func34, Tryz.ntmps34
        go_wp2_with (first | (go_at_call 72; refine (HA.out _).mono ?_; rintro e w' ⟨rfl, h9⟩; subst w') | (go_at_call 75; refine (HD.out _).mono ?_; rintro e w' ⟨rfl, h9⟩; subst w') | (go_at_call 77; refine (HS.out _).mono ?_; rintro e w' ⟨rfl, h9⟩; subst w'))
        refine bodyPost_ret (v := .agg #[.int .i64 3, .string ((s.extract p s.size).extract 0 z), .int .i64 p]) (by simp [results, Tryz.results34, go_sem]) rfl ?_
        exact ⟨rfl, (Below.refl _ _).alloc (Nat.le_refl _) _⟩
    · rw [hd] at HD HT
      clear hd
      have HX : Hid (X = (.n, numEnd r.data.toList)) := by show _ = _; rw [HT.out]; simp
      rw [HX.out] at HL
      have HN := hidLL (numberEnd_q r hr2)
      clear HT
      rw [HX.out]
      clear HX
      have hl : numEnd r.data.toList ≤ r.size := by have := HL.out; rw [bl_len] at this; exact this
      clear HL
      generalize numEnd r.data.toList = z at *
      have hlz : (z : Int) ≤ r.size := by omega
      have hl2 : z ≤ s.size - p := by omega
      have hl3 : (z : Int) ≤ (s.size - p : Nat) := by omega
      subst hr
      go_enter Tryz.func34, Tryz.ntmps34
      go_wp2_with (first | (go_at_call 72; refine (HA.out _).mono ?_; rintro e w' ⟨rfl, h9⟩; subst w') | (go_at_call 75; refine (HD.out _).mono ?_; rintro e w' ⟨rfl, h9⟩; subst w') | (go_at_call 76; refine (HN.out _).mono ?_; rintro e w' ⟨rfl, h9⟩; subst w'))
      refine bodyPost_ret (v := .agg #[.int .i64 2, .string ((s.extract p s.size).extract 0 z), .int .i64 p]) (by simp [results, Tryz.results34, go_sem]) rfl ?_
      exact ⟨rfl, (Below.refl _ _).alloc (Nat.le_refl _) _⟩
  · rw [ha] at HA HT
    clear ha
    have HX : Hid (X = (.w, (r.data.toList.takeWhile wordC).length)) := by show _ = _; rw [HT.out]; simp
    rw [HX.out] at HL
    have HN := hidLL (countInner_q r hr2)
    clear HT
    rw [HX.out]
    clear HX
    have hl : (r.data.toList.takeWhile wordC).length ≤ r.size := by have := HL.out; rw [bl_len] at this; exact this
    clear HL
    generalize (r.data.toList.takeWhile wordC).length = z at *
    have hlz : (z : Int) ≤ r.size := by omega
    have hl2 : z ≤ s.size - p := by omega
    have hl3 : (z : Int) ≤ (s.size - p : Nat) := by omega
    subst hr
    go_enter Tryz.func34, Tryz.ntmps34
    go_wp2_with (first | (go_at_call 72; refine (HA.out _).mono ?_; rintro e w' ⟨rfl, h9⟩; subst w') | (go_at_call 73; refine (HN.out _).mono ?_; rintro e w' ⟨rfl, h9⟩; subst w'))
    refine bodyPost_ret (v := .agg #[.int .i64 1, .string ((s.extract p s.size).extract 0 z), .int .i64 p]) (by simp [results, Tryz.results34, go_sem]) rfl ?_
    exact ⟨rfl, (Below.refl _ _).alloc (Nat.le_refl _) _⟩
end Go.Proofs.YtehbinobohjadaaGreatDoor
namespace Go.Proofs.YtehbinobohjadaaGreatDoor
open Go.RowKit

theorem addz (b j : Nat) : (⟨b, 0, none⟩ : Addr).add j = ⟨b, j, none⟩ := by cases j <;> simp [Addr.add]
theorem addo (b o j : Nat) : (⟨b, o, none⟩ : Addr).add j = ⟨b, o + j, none⟩ := by cases j <;> simp [Addr.add]
theorem range_on {w w' : World} {b o : Nat} {cs : List Value} (h : w.rangeAt b o cs) (hb : w'.heap[b]? = w.heap[b]?) : w'.rangeAt b o cs := fun j v hv => (World.cell?_of_block (a := ⟨b, o + j, none⟩) hb).trans (h j v hv)
theorem alloc_range (W : World) (cs : List Value) (T : Nat) : (W.alloc (.cells cs.toArray T)).rangeAt W.heap.size 0 cs := fun j u h => by
  rw [Nat.zero_add, cell_of_row _ _ j cs.toArray T (0, 0) (Go.Deep.blk_alloc_new W _)]
  simpa using h

/-- How a thing lies in cells. -/
structure Enc (α : Type) where
  f : α → List Value
  k : Nat
  pos : 0 < k
  len : ∀ x, (f x).length = k
  one : ∀ x u, u ∈ f x → u.oneCell' = true
section
variable {α : Type} (E : Enc α)
def Enc.all (l : List α) : List Value := l.flatMap E.f
theorem Enc.all_nil : E.all [] = [] := rfl
theorem Enc.all_cons (x : α) (l : List α) : E.all (x :: l) = E.f x ++ E.all l := rfl
theorem Enc.all_app (a b : List α) : E.all (a ++ b) = E.all a ++ E.all b := by unfold Enc.all; rw [List.flatMap_append]
theorem Enc.all_len : ∀ l : List α, (E.all l).length = l.length * E.k
  | [] => by simp [Enc.all]
  | x :: l => by rw [E.all_cons, List.length_append, E.len, Enc.all_len l, List.length_cons, Nat.succ_mul]; omega
theorem Enc.all_get : ∀ (l : List α) (i : Nat) (x : α), l[i]? = some x → ∀ c u, (E.f x)[c]? = some u → (E.all l)[i * E.k + c]? = some u
  | y :: l, 0, x, h, c, u, hu => by
    obtain rfl : y = x := by simpa using h
    have hc := (List.getElem?_eq_some_iff.1 hu).1
    rw [Nat.zero_mul, Nat.zero_add, E.all_cons, List.getElem?_append_left hc]
    exact hu
  | y :: l, i + 1, x, h, c, u, hu => by
    have h1 := Enc.all_get l i x (by simpa using h) c u hu
    rw [E.all_cons, List.getElem?_append_right (by rw [E.len, Nat.succ_mul]; omega), E.len, show (i + 1) * E.k + c - E.k = i * E.k + c by rw [Nat.succ_mul]; omega]
    exact h1
theorem Enc.all_one (l : List α) (u : Value) (h : u ∈ E.all l) : u.oneCell' = true := by
  obtain ⟨x, _, hx⟩ := List.mem_flatMap.1 h
  exact E.one x u hx
end
/-- Things in a row of the call's own. -/
structure RowG {α : Type} (E : Enc α) (T : Nat) (w : World) (B : Nat) (v : Value) (l : List α) : Prop where
  row : w.ownsRow B T E.k v l.length (E.all l)
  len : l.length ≤ 100000000
/-- Things that can be read at a slice, in blocks below B. -/
def RdG {α : Type} (E : Enc α) (w : World) (B : Nat) (v : Value) (l : List α) : Prop :=
  ∃ a c, v = .slice a l.length c ∧ l.length ≤ 17592186044416 ∧ ∀ j x, l[j]? = some x → ∃ g o, a = some ⟨g, o, none⟩ ∧ g < B ∧ w.rangeAt g (o + j * E.k) (E.f x)
section
variable {α : Type} {E : Enc α} {T : Nat}
theorem RowG.nil (w : World) (B : Nat) : RowG E T w B (.slice none 0 0) [] := ⟨World.ownsRow_nil w B _ _, by simp⟩
theorem RowG.any {w : World} {B : Nat} {v : Value} {l : List α} (h : RowG E T w B v l) : ∃ a c, v = .slice a l.length c := by
  rcases h.row.2 with ⟨rfl, e⟩ | ⟨g, cap, cur, rfl, _⟩
  · exact ⟨_, _, by rw [e]⟩
  · exact ⟨_, _, rfl⟩
theorem RowG.any3 {w : World} {B : Nat} {v : Value} {l : List α} (h : RowG E T w B v l) : ∃ a m c, v = .slice a m c ∧ m = l.length := by
  obtain ⟨a, c, e⟩ := h.any
  exact ⟨a, _, c, e, rfl⟩
theorem RowG.blk {w : World} {B : Nat} {v : Value} {l : List α} (h : RowG E T w B v l) {g : Nat} (hg : v.ownBlock = some g) : B ≤ g ∧ g < w.heap.size := by
  rcases h.row.2 with ⟨rfl, e⟩ | ⟨g', cap, cur, rfl, hb, hgg, _⟩
  · cases hg
  · injection hg with hg
    subst hg
    exact ⟨hb, (Array.getElem?_eq_some_iff.1 hgg).1⟩
theorem RowG.on {w w' : World} {B : Nat} {v : Value} {l : List α} (h : RowG E T w B v l) (hk : ∀ g, v.ownBlock = some g → B ≤ g → g < w.heap.size → w'.heap[g]? = w.heap[g]?) : RowG E T w' B v l := by
  refine ⟨⟨h.row.1, ?_⟩, h.len⟩
  rcases h.row.2 with hn | ⟨g, cap, cur, rfl, hb, hgg, rest⟩
  · exact .inl hn
  · exact .inr ⟨g, cap, cur, rfl, hb, (hk g rfl hb (Array.getElem?_eq_some_iff.1 hgg).1).trans hgg, rest⟩
theorem RowG.below {w w' : World} {B : Nat} {v : Value} {l : List α} (h : RowG E T w B v l) (hb : Below w.heap.size w w') : RowG E T w' B v l := h.on fun g _ _ hl => hb.block g hl
theorem RowG.mono {w : World} {B B' : Nat} {v : Value} {l : List α} (h : RowG E T w B v l) (hB : B' ≤ B) : RowG E T w B' v l := by
  refine ⟨⟨h.row.1, ?_⟩, h.len⟩
  rcases h.row.2 with hn | ⟨g, cap, cur, rfl, hb, rest⟩
  · exact .inl hn
  · exact .inr ⟨g, cap, cur, rfl, by omega, rest⟩
theorem RdG.on {w w' : World} {B : Nat} {v : Value} {l : List α} (h : RdG E w B v l) (hb : ∀ k, k < B → w'.heap[k]? = w.heap[k]?) : RdG E w' B v l := by
  obtain ⟨a, c, e, hl, hx⟩ := h
  refine ⟨a, c, e, hl, fun j x hj => ?_⟩
  obtain ⟨g, o, h1, h2, h3⟩ := hx j x hj
  exact ⟨g, o, h1, h2, range_on h3 (hb g h2)⟩
theorem RdG.below {w w' : World} {B : Nat} {v : Value} {l : List α} (h : RdG E w B v l) (hb : Below B w w') : RdG E w' B v l := h.on hb.block
theorem RdG.mono {w : World} {B B' : Nat} {v : Value} {l : List α} (h : RdG E w B v l) (hB : B ≤ B') : RdG E w B' v l := by
  obtain ⟨a, c, e, hl, hx⟩ := h
  refine ⟨a, c, e, hl, fun j x hj => ?_⟩
  obtain ⟨g, o, h1, h2, h3⟩ := hx j x hj
  exact ⟨g, o, h1, by omega, h3⟩
theorem RdG.nil0 (w : World) (B c : Nat) (a : Option Addr) : RdG E w B (.slice a 0 c) [] := ⟨a, c, rfl, by simp, fun j x h => by simp at h⟩
theorem RdG.at {w : World} {B n c : Nat} {a : Option Addr} {l : List α} (h : RdG E w B (.slice a n c) l) {j : Nat} {x : α} (hj : l[j]? = some x) : ∃ g o, a = some ⟨g, o, none⟩ ∧ g < B ∧ w.rangeAt g (o + j * E.k) (E.f x) := by
  obtain ⟨a', c', e, _, hx⟩ := h
  injection e with e1 _ _
  subst e1
  exact hx j x hj
theorem RdG.len {w : World} {B n c : Nat} {a : Option Addr} {l : List α} (h : RdG E w B (.slice a n c) l) : n = l.length ∧ n ≤ 17592186044416 := by
  obtain ⟨a', c', e, hl, hx⟩ := h
  injection e with _ e2 _
  exact ⟨e2, by omega⟩
theorem RowG.cells {w : World} {B : Nat} {v : Value} {l : List α} (h : RowG E T w B v l) {g n cap : Nat} (hv : v = .slice (some ⟨g, 0, none⟩) n cap) : ∀ j u, (E.all l)[j]? = some u → w.cell? ⟨g, j, none⟩ = some u := fun j u hu => by
  have h0 := h.row
  obtain ⟨a, c, e⟩ := h.any
  rw [hv] at e
  injection e with e1 e2 e3
  subst e2 hv
  have := World.ownsRow.cells h0 (g := g) rfl j u hu
  rwa [addz] at this
theorem RowG.rd {w : World} {B : Nat} {v : Value} {l : List α} (h : RowG E T w B v l) : RdG E w w.heap.size v l := by
  have hlen := h.len
  rcases h.row.2 with ⟨rfl, e⟩ | ⟨g, cap, cur, hv, _, hgg, _⟩
  · exact ⟨.none, 0, by rw [e], by omega, fun j x hx => by rw [List.eq_nil_of_length_eq_zero e] at hx; simp at hx⟩
  · refine ⟨some ⟨g, 0, .none⟩, cap, hv, by omega, fun j x hx => ⟨g, 0, rfl, (Array.getElem?_eq_some_iff.1 hgg).1, fun c u hu => ?_⟩⟩
    rw [Nat.zero_add]
    exact h.cells hv _ _ (E.all_get l j x hx c u hu)
/-- One more, which has just been laid. -/
theorem wpList_push_g {S bytes : Nat} (hI : ∃ i z, Tryz.prog.info? T = some i ∧ i.zero = some z ∧ i.size = E.k ∧ i.bytes = bytes ∧ z.cells.size = E.k) (hby : bytes ≤ 200) (hU : Tryz.prog.underlying S = some (.slice T)) {W : World} {ops : Array Oper} {rest : List Oper} {o : Oper} {a : Act} {Q : Exit → Act → World → Prop} (hgd : o.guard = .none) (s x : Operand)
    (ho : o.op = .call { callee := .builtin .append, args := #[s, x], argTypes := #[S, S] }) (B : Nat) (v : Value) (l : List α) (y : α) (cs : Array Value) (hcs : cs = (E.f y).toArray) (hs : a.eval s = v) (hown : RowG E T W B v l)
    (hx : a.eval x = .slice (some ⟨W.heap.size, 0, .none⟩) 1 1) (hB : B ≤ W.heap.size) (hl : l.length + 1 ≤ 1000000)
    (h : ∀ v' w', RowG E T w' B v' (l ++ [y]) → Below B W w' → (∀ k, v.ownBlock ≠ some k → k < W.heap.size → w'.heap[k]? = W.heap[k]?) → (∀ k, v'.ownBlock = some k → v.ownBlock = some k ∨ W.heap.size ≤ k) → wpList Tryz.prog ops Q rest (a.put o.dst v') w') : wpList Tryz.prog ops Q (o :: rest) a (W.alloc (.cells cs T)) := by
  obtain ⟨i0, z, h1, h2, h3, h4, h5⟩ := hI
  subst hcs
  have hn : ∀ (j : Nat) (u : Value), (E.f y)[j]? = some u → (W.alloc (.cells (E.f y).toArray T)).cell? ((⟨W.heap.size, 0, .none⟩ : Addr).add j) = some u := fun j u hj => by
    have := alloc_range W (E.f y) T j u hj
    rw [addo]
    exact this
  have hal := (hown.below ((Below.refl _ _).alloc (Nat.le_refl _) (.cells (E.f y).toArray T)))
  refine wpList_append_own_at _ hgd s x S ho B T i0 z E.k bytes hU h1 h2 h3 h4 h5 E.pos v l.length (E.all l) hs hal.row ⟨W.heap.size, 0, .none⟩ 1 1 (E.f y) hx (by rw [E.len, Nat.one_mul]) hn (E.one y) (by unfold maxLen; omega) (by have h6 : (l.length + 1) * bytes ≤ 1000000 * 200 := Nat.mul_le_mul hl hby; omega) (by simp; omega) ?_
  intro v' w' hown' hgrow _ hblk
  refine h v' w' ⟨?_, by rw [List.length_append]; simp only [List.length_cons, List.length_nil]; omega⟩ (((Below.refl B W).alloc hB _).grown hgrow (by simp; omega) (fun k hk => (hown.row.lt k hk).1)) (fun k hk hlt => ?_) (fun k hk => ?_)
  · rw [List.length_append, E.all_app, show E.all [y] = E.f y by rw [E.all_cons, E.all_nil, List.append_nil]]
    exact hown'
  · rw [hgrow.block k (by simp; omega) (fun e => hk e.symm), Go.Deep.blk_alloc_lt _ _ _ hlt]
  · rcases hblk with e | e
    · exact .inl (e ▸ hk)
    · rw [hk] at e
      injection e with e
      exact .inr (by simp at e; omega)
end
/-! Things that can be read at a slice, in blocks of a kind. -/
def RdS {α : Type} (E : Enc α) (w : World) (S : Nat → Prop) (v : Value) (l : List α) : Prop :=
  ∃ a c, v = .slice a l.length c ∧ l.length ≤ 17592186044416 ∧ ∀ j x, l[j]? = some x → ∃ g o, a = some ⟨g, o, none⟩ ∧ S g ∧ w.rangeAt g (o + j * E.k) (E.f x)
section
variable {α : Type} {E : Enc α} {T : Nat}
theorem RdS.on {w w' : World} {S S' : Nat → Prop} {v : Value} {l : List α} (h : RdS E w S v l) (hb : ∀ k, S k → S' k ∧ w'.heap[k]? = w.heap[k]?) : RdS E w' S' v l := by
  obtain ⟨a, c, e, hl, hx⟩ := h
  refine ⟨a, c, e, hl, fun j x hj => ?_⟩
  obtain ⟨g, o, h1, h2, h3⟩ := hx j x hj
  exact ⟨g, o, h1, (hb g h2).1, range_on h3 (hb g h2).2⟩
theorem RdS.below {w w' : World} {B : Nat} {v : Value} {l : List α} (h : RdS E w (· < B) v l) (hb : Below B w w') : RdS E w' (· < B) v l := h.on fun k hk => ⟨hk, hb.block k hk⟩
theorem RdS.mono {w : World} {S S' : Nat → Prop} {v : Value} {l : List α} (h : RdS E w S v l) (hS : ∀ k, S k → S' k) : RdS E w S' v l := h.on fun k hk => ⟨hS k hk, rfl⟩
theorem RdS.nil0 (w : World) (S : Nat → Prop) (c : Nat) (a : Option Addr) : RdS E w S (.slice a 0 c) [] := ⟨a, c, rfl, by simp, fun j x h => by simp at h⟩
theorem RdS.at {w : World} {S : Nat → Prop} {n c : Nat} {a : Option Addr} {l : List α} (h : RdS E w S (.slice a n c) l) {j : Nat} {x : α} (hj : l[j]? = some x) : ∃ g o, a = some ⟨g, o, none⟩ ∧ S g ∧ w.rangeAt g (o + j * E.k) (E.f x) := by
  obtain ⟨a', c', e, _, hx⟩ := h
  injection e with e1 _ _
  subst e1
  exact hx j x hj
theorem RdS.len {w : World} {S : Nat → Prop} {n c : Nat} {a : Option Addr} {l : List α} (h : RdS E w S (.slice a n c) l) : n = l.length ∧ n ≤ 17592186044416 := by
  obtain ⟨a', c', e, hl, hx⟩ := h
  injection e with _ e2 _
  exact ⟨e2, by omega⟩
theorem RdS.form {w : World} {S : Nat → Prop} {v : Value} {l : List α} (h : RdS E w S v l) : ∃ a n c, v = .slice a n c ∧ n = l.length := by
  obtain ⟨a, c, e, _⟩ := h
  exact ⟨a, _, c, e, rfl⟩
theorem RowG.rdS {w : World} {B : Nat} {v : Value} {l : List α} (h : RowG E T w B v l) : RdS E w (fun k => B ≤ k ∧ k < w.heap.size ∧ v.ownBlock = some k) v l := by
  obtain ⟨a, c, e, hl, hx⟩ := h.rd
  refine ⟨a, c, e, hl, fun j x hj => ?_⟩
  obtain ⟨g, o, h1, h2, h3⟩ := hx j x hj
  have ho : v.ownBlock = some g := by
    rw [e, h1]
    rfl
  exact ⟨g, o, h1, ⟨(h.blk ho).1, h2, ho⟩, h3⟩
end
/-! Things with a slice in them. -/
structure SlV where
  a : Option Addr
  n : Nat
  c : Nat
def SlV.v (s : SlV) : Value := .slice s.a s.n s.c
/-- How a thing lies whose last part is a slice of others. -/
structure Nest (X Y : Type) where
  E : Enc (X × SlV)
  F : Enc Y
  sub : X → List Y
def NRd {X Y : Type} (N : Nest X Y) (w : World) (S : Nat → Prop) (v : Value) (l : List X) : Prop :=
  ∃ vs : List SlV, vs.length = l.length ∧ RdS N.E w S v (l.zip vs) ∧ ∀ (i : Nat) s x, vs[i]? = some s → l[i]? = some x → RdS N.F w S s.v (N.sub x)
/-- A row of the call's own, with others in it. -/
def NRow {X Y : Type} (N : Nest X Y) (T : Nat) (K : Nat → Prop) (w : World) (B : Nat) (v : Value) (l : List X) : Prop :=
  ∃ vs : List SlV, vs.length = l.length ∧ RowG N.E T w B v (l.zip vs) ∧ ∀ (i : Nat) s x, vs[i]? = some s → l[i]? = some x → RdS N.F w (fun k => k < w.heap.size ∧ v.ownBlock ≠ some k ∧ K k) s.v (N.sub x)
section
variable {X Y : Type} {N : Nest X Y} {T : Nat} {K : Nat → Prop}
theorem zip_len {l : List X} {vs : List SlV} (h : vs.length = l.length) : (l.zip vs).length = l.length := by rw [List.length_zip]; omega
theorem zip_get {l : List X} {vs : List SlV} (h : vs.length = l.length) {i : Nat} {x : X} (hx : l[i]? = some x) : ∃ s, vs[i]? = some s ∧ (l.zip vs)[i]? = some (x, s) := by
  have hi := (List.getElem?_eq_some_iff.1 hx).1
  obtain ⟨s, hs⟩ : ∃ s, vs[i]? = some s := ⟨_, List.getElem?_eq_getElem (by omega)⟩
  refine ⟨s, hs, ?_⟩
  rw [List.getElem?_zip_eq_some]
  exact ⟨hx, hs⟩
theorem NRd.len {w : World} {S : Nat → Prop} {n c : Nat} {a : Option Addr} {l : List X} (h : NRd N w S (.slice a n c) l) : n = l.length ∧ n ≤ 17592186044416 := by
  obtain ⟨vs, h1, h2, _⟩ := h
  have := h2.len
  rw [zip_len h1] at this
  exact this
theorem NRd.form {w : World} {S : Nat → Prop} {v : Value} {l : List X} (h : NRd N w S v l) : ∃ a n c, v = .slice a n c ∧ n = l.length := by
  obtain ⟨vs, h1, h2, _⟩ := h
  have := h2.form
  rw [zip_len h1] at this
  exact this
theorem NRd.at {w : World} {S : Nat → Prop} {n c : Nat} {a : Option Addr} {l : List X} (h : NRd N w S (.slice a n c) l) {j : Nat} {x : X} (hj : l[j]? = some x) :
    ∃ g o sa sn sc, a = some ⟨g, o, none⟩ ∧ S g ∧ w.rangeAt g (o + j * N.E.k) (N.E.f (x, ⟨sa, sn, sc⟩)) ∧ RdS N.F w S (.slice sa sn sc) (N.sub x) := by
  obtain ⟨vs, h1, h2, h3⟩ := h
  obtain ⟨⟨sa, sn, sc⟩, hs, hz⟩ := zip_get h1 hj
  obtain ⟨g, o, e, hS, hr⟩ := h2.at hz
  exact ⟨g, o, sa, sn, sc, e, hS, hr, h3 j _ x hs hj⟩
theorem NRd.on {w w' : World} {S S' : Nat → Prop} {v : Value} {l : List X} (h : NRd N w S v l) (hb : ∀ k, S k → S' k ∧ w'.heap[k]? = w.heap[k]?) : NRd N w' S' v l := by
  obtain ⟨vs, h1, h2, h3⟩ := h
  exact ⟨vs, h1, h2.on hb, fun i s x hs hx => (h3 i s x hs hx).on hb⟩
theorem NRd.below {w w' : World} {B : Nat} {v : Value} {l : List X} (h : NRd N w (· < B) v l) (hb : Below B w w') : NRd N w' (· < B) v l := h.on fun k hk => ⟨hk, hb.block k hk⟩
theorem NRd.nil0 (w : World) (S : Nat → Prop) (c : Nat) (a : Option Addr) : NRd N w S (.slice a 0 c) [] := ⟨[], rfl, RdS.nil0 _ _ _ _, fun i s x h => by simp at h⟩
theorem NRow.nil (w : World) (B : Nat) : NRow N T K w B (.slice none 0 0) [] := ⟨[], rfl, RowG.nil _ _, fun i s x h => by simp at h⟩
theorem NRow.any3 {w : World} {B : Nat} {v : Value} {l : List X} (h : NRow N T K w B v l) : ∃ a m c, v = .slice a m c ∧ m = l.length := by
  obtain ⟨vs, h1, h2, _⟩ := h
  have := h2.any3
  rw [zip_len h1] at this
  exact this
theorem NRow.rd {w : World} {B : Nat} {v : Value} {l : List X} (h : NRow N T K w B v l) : NRd N w (· < w.heap.size) v l := by
  obtain ⟨vs, h1, h2, h3⟩ := h
  exact ⟨vs, h1, h2.rdS.mono fun k hk => hk.2.1, fun i s x hs hx => (h3 i s x hs hx).mono fun k hk => hk.1⟩
theorem NRow.below {w w' : World} {B : Nat} {v : Value} {l : List X} (h : NRow N T K w B v l) (hb : Below w.heap.size w w') : NRow N T K w' B v l := by
  obtain ⟨vs, h1, h2, h3⟩ := h
  exact ⟨vs, h1, h2.below hb, fun i s x hs hx => (h3 i s x hs hx).on fun k hk => ⟨⟨Nat.lt_of_lt_of_le hk.1 hb.size, hk.2⟩, hb.block k hk.1⟩⟩
/-- All blocks but one stay. -/
structure Frm (x : Nat) (w w' : World) : Prop where
  os : w'.os = w.os
  tape : w'.tape = w.tape
  output : w'.output = w.output
  size : w.heap.size ≤ w'.heap.size
  block : ∀ k, k < w.heap.size → k ≠ x → w'.heap[k]? = w.heap[k]?
theorem Frm.refl (x : Nat) (w : World) : Frm x w w := ⟨rfl, rfl, rfl, Nat.le_refl _, fun _ _ _ => rfl⟩
theorem Frm.trans {x : Nat} {a b c : World} (h : Frm x a b) (k : Frm x b c) : Frm x a c := ⟨k.os.trans h.os, k.tape.trans h.tape, k.output.trans h.output, Nat.le_trans h.size k.size, fun i hi hx => (k.block i (Nat.lt_of_lt_of_le hi h.size) hx).trans (h.block i hi hx)⟩
theorem Frm.of {x : Nat} {w w' : World} (h : Below w.heap.size w w') : Frm x w w' := ⟨h.os, h.tape, h.output, h.size, fun k hk _ => h.block k hk⟩
theorem Frm.below {x B : Nat} {w w' : World} (h : Frm x w w') (hx : B ≤ x) (hB : B ≤ w.heap.size) : Below B w w' := ⟨h.os, h.tape, h.output, h.size, fun k hk => h.block k (by omega) (by omega)⟩
theorem Frm.new {x : Nat} {a w w' : World} (h : Frm x w w') (ha : Below a.heap.size a w) (hx : a.heap.size ≤ x) : Below a.heap.size a w' := ha.trans (h.below hx ha.size)
theorem Frm.setCell {x : Nat} {w w' : World} (h : Frm x w w') {p : Addr} (hp : p.block = x) (u : Value) : Frm x w (w'.setCell p u) :=
  ⟨h.os, h.tape, h.output, by have := h.size; simp; exact this, fun k hk hx => by rw [Below.heap_setCell _ _ _ _ (by rw [hp]; exact hx)]; exact h.block k hk hx⟩
theorem Frm.drewN {x : Nat} {w w' : World} (h : Frm x w w') (n : Nat) : Frm x w (w'.drewN n) := ⟨h.os, h.tape, h.output, h.size, h.block⟩
theorem NRow.lt {w : World} {B : Nat} {v : Value} {l : List X} (h : NRow N T K w B v l) {g : Nat} (hg : v.ownBlock = some g) : B ≤ g ∧ g < w.heap.size := by
  obtain ⟨vs, h1, h2, h3⟩ := h
  exact h2.blk hg
end
end Go.Proofs.YtehbinobohjadaaGreatDoor
namespace Go.Proofs.YtehbinobohjadaaGreatDoor
open Go.RowKit

/-- One more, in a region that draws. -/
theorem step_push_g {α : Type} {E : Enc α} {T S bytes : Nat} (hI : ∃ i z, Tryz.prog.info? T = some i ∧ i.zero = some z ∧ i.size = E.k ∧ i.bytes = bytes ∧ z.cells.size = E.k) (hby : bytes ≤ 200) (hU : Tryz.prog.underlying S = some (.slice T)) {W : World} {ops : Array Oper} {o : Oper} {a : Act} {K : Act → World → Prop} {Q : Exit → Act → World → Prop} {F : Prop} (hgd : o.guard = none) (s x : Operand)
    (ho : o.op = .call { callee := .builtin .append, args := #[s, x], argTypes := #[S, S] }) (B : Nat) (v : Value) (l : List α) (y : α) (cs : Array Value) (hcs : cs = (E.f y).toArray) (hs : a.eval s = v) (hown : RowG E T W B v l)
    (hx : a.eval x = .slice (some ⟨W.heap.size, 0, none⟩) 1 1) (hB : B ≤ W.heap.size) (hl : l.length + 1 ≤ 1000000)
    (h : ∀ v' w', RowG E T w' B v' (l ++ [y]) → Below B W w' → (∀ k, v.ownBlock ≠ some k → k < W.heap.size → w'.heap[k]? = W.heap[k]?) → (∀ k, v'.ownBlock = some k → v.ownBlock = some k ∨ W.heap.size ≤ k) → K (a.put o.dst v') w') :
    if Region.wanted o (yielded ops a.tmps) = true then Oper.wp Tryz.prog o a (W.alloc (.cells cs T)) K Q else F := by
  have hw : Region.wanted o (yielded ops a.tmps) = true := by simp [Region.wanted, hgd]
  rw [if_pos hw]
  obtain ⟨i0, z, h1, h2, h3, h4, h5⟩ := hI
  subst hcs
  have hn : ∀ (j : Nat) (u : Value), (E.f y)[j]? = some u → (W.alloc (.cells (E.f y).toArray T)).cell? ((⟨W.heap.size, 0, none⟩ : Addr).add j) = some u := fun j u hj => by
    have := alloc_range W (E.f y) T j u hj
    rw [addo]
    exact this
  have hal := (hown.below ((Below.refl _ _).alloc (Nat.le_refl _) (.cells (E.f y).toArray T)))
  obtain ⟨v', w', hr, hown', hgrow, _, hblk⟩ := run_append_own_at (P := Tryz.prog) (W.alloc (.cells (E.f y).toArray T)) B S o.type T i0 z E.k bytes hU h1 h2 h3 h4 h5 E.pos v l.length (E.all l) hal.row ⟨W.heap.size, 0, none⟩ 1 1 (E.f y) (by rw [E.len, Nat.one_mul]) hn (E.one y) (by unfold maxLen; omega) (by have h6 : (l.length + 1) * bytes ≤ 1000000 * 200 := Nat.mul_le_mul hl hby; omega) (by simp; omega)
  unfold Oper.wp
  simp [execOp, ho, resolve, invoke, builtin, hs, hx, hr, Result.andThen]
  refine h v' w' ⟨?_, by rw [List.length_append]; simp only [List.length_cons, List.length_nil]; omega⟩ (((Below.refl B W).alloc hB _).grown hgrow (by simp; omega) (fun k hk => (hown.row.lt k hk).1)) (fun k hk hlt => ?_) (fun k hk => ?_)
  · rw [List.length_append, E.all_app, show E.all [y] = E.f y by rw [E.all_cons, E.all_nil, List.append_nil]]
    exact hown'
  · rw [hgrow.block k (by simp; omega) (fun e => hk e.symm), Go.Deep.blk_alloc_lt _ _ _ hlt]
  · rcases hblk with e | e
    · exact .inl (e ▸ hk)
    · rw [hk] at e
      injection e with e
      exact .inr (by simp at e; omega)
end Go.Proofs.YtehbinobohjadaaGreatDoor
