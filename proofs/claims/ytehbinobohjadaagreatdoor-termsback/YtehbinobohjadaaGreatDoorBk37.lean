/-
  Sentences as they are printed: what a row of tokens costs; the printed form of nodes. Plain.
-/
import Derived.Test.YtehbinobohjadaaGreatDoorBk35
import Derived.Test.YtehbinobohjadaaGreatDoorBk23
import Derived.Test.YtehbinobohjadaaGreatDoorBk36
namespace Go.Proofs.YtehbinobohjadaaGreatDoor
open Go.RowKit Go.Extern.Stop Go.Stop Go.Extern

theorem eqB_iff (a b : ByteArray) : eqB a b = true ↔ a = b := by
  unfold eqB
  rw [beq_iff_eq, Lib.toList_data, Lib.toList_data, Array.toList_inj]
  exact ⟨fun h => ByteArray.ext h, fun h => by rw [h]⟩
theorem eqB_no {a b : ByteArray} (h : a ≠ b) : eqB a b = false := by
  cases h2 : eqB a b
  · rfl
  · exact absurd ((eqB_iff _ _).1 h2) h
theorem isQ_iff {L : List Tok} {s : ByteArray} {k : Nat} : isQ L s k = true ↔ (tokAt L k).text = s := eqB_iff _ _
theorem place_mem {l : List ByteArray} {s : ByteArray} : (placeIn l s).isSome = true ↔ s ∈ l := by
  unfold placeIn
  induction l with
  | nil => simp
  | cons y l ih =>
    rw [List.findIdx?_cons]
    cases h : eqB y s
    · have hn : s ≠ y := fun e => by rw [e, (eqB_iff _ _).2 rfl] at h; cases h
      simp only [Bool.false_eq_true, if_false, Option.isSome_map, ih, List.mem_cons, hn, false_or]
    · simp [(eqB_iff _ _).1 h]
theorem place_none {l : List ByteArray} {s : ByteArray} : (placeIn l s).isNone = true ↔ s ∉ l := by
  rw [← place_mem]
  cases placeIn l s <;> simp
/-- What tokens cost in a line: their bytes, and a blank where two would be one. -/
def gapN (a : ByteArray) : List ByteArray → Nat
  | [] => 0
  | b :: _ => if apW a b = true then 1 else 0
def costL : List ByteArray → Nat
  | [] => 0
  | a :: l => a.size + gapN a l + costL l
/-- Does it begin with an inner byte; is its last token a word? -/
def fB (P : List ByteArray) : Nat := match P.head? with
  | some a => if wordC (hd0 a) = true then 1 else 0
  | none => 0
def lB (P : List ByteArray) : Nat := match P.getLast? with
  | some a => if lowC (hd0 a) = true then 1 else 0
  | none => 0
theorem fB_le (P : List ByteArray) : fB P ≤ 1 := by
  unfold fB
  split
  · split <;> omega
  · omega
theorem lB_le (P : List ByteArray) : lB P ≤ 1 := by
  unfold lB
  split
  · split <;> omega
  · omega
theorem fB_app {P Q : List ByteArray} (h : P ≠ []) : fB (P ++ Q) = fB P := by
  match P, h with
  | a :: P, _ => rfl
theorem lB_app {P Q : List ByteArray} (h : Q ≠ []) : lB (P ++ Q) = lB Q := by
  unfold lB
  rw [List.getLast?_append]
  cases hq : Q.getLast? with
  | none => exact absurd (List.getLast?_eq_none_iff.1 hq) h
  | some a => rfl
theorem gap_min (a b : ByteArray) (l : List ByteArray) : gapN a (b :: l) = min (lB [a]) (fB (b :: l)) := by
  unfold gapN lB fB apW
  simp only [List.getLast?_singleton, List.head?_cons]
  cases lowC (hd0 a) <;> cases wordC (hd0 b) <;> simp
theorem costL_app : ∀ (P Q : List ByteArray), P ≠ [] → Q ≠ [] → costL (P ++ Q) = costL P + costL Q + min (lB P) (fB Q)
  | [], Q, h, _ => absurd rfl h
  | [a], q :: Q, _, _ => by
    show a.size + gapN a (q :: Q) + costL (q :: Q) = (a.size + gapN a [] + costL []) + costL (q :: Q) + _
    rw [gap_min]
    show _ = a.size + 0 + 0 + _ + _
    omega
  | [a], [], _, h => absurd rfl h
  | a :: b :: P, Q, _, h => by
    show a.size + gapN a (b :: (P ++ Q)) + costL ((b :: P) ++ Q) = (a.size + gapN a (b :: P) + costL (b :: P)) + costL Q + _
    rw [costL_app (b :: P) Q (by simp) h]
    have : lB (a :: b :: P) = lB (b :: P) := lB_app (P := [a]) (by simp)
    rw [this]
    show a.size + gapN a (b :: P) + _ = _
    omega
/-- The first costs no more, whatever stands around it. -/
structure Le (P Q : List ByteArray) : Prop where
  p : P ≠ []
  q : Q ≠ []
  a : costL P ≤ costL Q
  b : costL P + fB P ≤ costL Q + fB Q
  c : costL P + lB P ≤ costL Q + lB Q
  d : costL P + fB P + lB P ≤ costL Q + fB Q + lB Q
theorem Le.refl {P : List ByteArray} (h : P ≠ []) : Le P P := ⟨h, h, Nat.le_refl _, Nat.le_refl _, Nat.le_refl _, Nat.le_refl _⟩
theorem Le.trans {P Q R : List ByteArray} (h : Le P Q) (k : Le Q R) : Le P R := ⟨h.p, k.q, Nat.le_trans h.a k.a, Nat.le_trans h.b k.b, Nat.le_trans h.c k.c, Nat.le_trans h.d k.d⟩
theorem Le.app {P Q R S : List ByteArray} (h : Le P Q) (k : Le R S) : Le (P ++ R) (Q ++ S) := by
  have e1 := costL_app P R h.p k.p
  have e2 := costL_app Q S h.q k.q
  have f1 := fB_app (Q := R) h.p
  have f2 := fB_app (Q := S) h.q
  have l1 := lB_app (P := P) k.p
  have l2 := lB_app (P := Q) k.q
  have := fB_le P
  have := fB_le Q
  have := fB_le R
  have := fB_le S
  have := lB_le P
  have := lB_le Q
  have := lB_le R
  have := lB_le S
  obtain ⟨hp, hq, ha, hb, hc, hd⟩ := h
  obtain ⟨kp, kq, ka, kb, kc, kd⟩ := k
  exact ⟨by simp [hp], by simp [hq], by omega, by omega, by omega, by omega⟩
theorem fB_sg {c : UInt8} (h : wordC c = false) (P : List ByteArray) : fB (sg c :: P) = 0 := by
  unfold fB
  simp [sg, hd0, h]
theorem lB_sg {c : UInt8} (h : lowC c = false) : lB [sg c] = 0 := by
  unfold lB
  simp [sg, hd0, h]
/-- In brackets, or not. -/
def brk (b : Bool) (l r : UInt8) (P : List ByteArray) : List ByteArray := if b = true then sg l :: (P ++ [sg r]) else P
theorem Le.drop {P Q : List ByteArray} (h : Le P Q) {l r : UInt8} (hl : wordC l = false) (hl2 : lowC l = false) (hr : lowC r = false) (hr2 : wordC r = false) : Le P (sg l :: (Q ++ [sg r])) := by
  have e1 := costL_app [sg l] (Q ++ [sg r]) (by simp) (by simp)
  have e2 := costL_app Q [sg r] h.q (by simp)
  rw [lB_sg hl2] at e1
  rw [fB_sg hr2] at e2
  have c1 : costL [sg l] = 1 := rfl
  have c2 : costL [sg r] = 1 := rfl
  have f1 : fB (sg l :: (Q ++ [sg r])) = 0 := fB_sg hl _
  have l1 : lB (sg l :: (Q ++ [sg r])) = 0 := by
    rw [show sg l :: (Q ++ [sg r]) = (sg l :: Q) ++ [sg r] from rfl, lB_app (by simp), lB_sg hr]
  have := fB_le P
  have := lB_le P
  have := fB_le Q
  have := lB_le Q
  have e3 : costL (sg l :: (Q ++ [sg r])) = costL ([sg l] ++ (Q ++ [sg r])) := rfl
  obtain ⟨hp, hq, ha, hb, hc, hd⟩ := h
  exact ⟨hp, by simp, by omega, by omega, by omega, by omega⟩
theorem Le.around {P Q : List ByteArray} (h : Le P Q) (l r : UInt8) : Le (sg l :: (P ++ [sg r])) (sg l :: (Q ++ [sg r])) := (Le.refl (P := [sg l]) (by simp)).app (h.app (Le.refl (by simp)))
theorem Le.brk {P Q : List ByteArray} (h : Le P Q) (b : Bool) {l r : UInt8} (hl : wordC l = false) (hl2 : lowC l = false) (hr : lowC r = false) (hr2 : wordC r = false) : Le (brk b l r P) (sg l :: (Q ++ [sg r])) := by
  cases b
  · exact h.drop hl hl2 hr hr2
  · exact h.around l r
/-- With brackets it costs no less. -/
theorem Le.less {P Q : List ByteArray} {b b' : Bool} {l r : UInt8} (h : Le (Go.Proofs.YtehbinobohjadaaGreatDoor.brk b l r P) Q) (hb : b' = true → b = true) (hp : P ≠ []) (hl : wordC l = false) (hl2 : lowC l = false) (hr : lowC r = false) (hr2 : wordC r = false) : Le (Go.Proofs.YtehbinobohjadaaGreatDoor.brk b' l r P) Q := by
  cases b'
  · cases b
    · exact h
    · exact ((Le.refl hp).drop hl hl2 hr hr2).trans h
  · rw [hb rfl] at h
    exact h
/-- A name. -/
structure NameOk (w : ByteArray) : Prop where
  lo : lowC (hd0 w) = true
  all : ∀ c, c ∈ w.data.toList → wordC c = true
  no : w ∉ gramW
  sz : w.size ≤ 24
def bN (b : Bool) : Nat := if b = true then 1 else 0
def lowS (x : Nd) (lv : Nat) : Bool := decide (lvS x.kind < lv)
def lowK (x : Nd) (lv : Nat) : Bool := decide (lvC x.kind < lv)
/-- A sum as it is printed, and how deep its brackets are. -/
inductive SumO : Nd → List ByteArray → Nat → Prop
  | num (n : Nat) (h : n ≤ 1000000000000) : SumO (.mk wNumber ⟨#[]⟩ n []) [numT n] 0
  | name (w : ByteArray) (h : NameOk w) : SumO (.mk wName w 0 []) [w] 0
  | count (w : ByteArray) (h : NameOk w) : SumO (.mk wCount w 0 []) [wCount, w] 0
  | total (w o : ByteArray) (h : NameOk w) (h2 : NameOk o) : SumO (.mk wTotal w 0 [.mk wName o 0 []]) [wTotal, w, wOf, o] 0
  | great (k : ByteArray) (hk : k = wMax ∨ k = wMin) {a b : Nd} {A B : List ByteArray} {ma mb : Nat} (ha : SumO a A ma) (hb : SumO b B mb) : SumO (.mk k ⟨#[]⟩ 0 [a, b]) ([k, sg 40] ++ (A ++ (sg 44 :: (B ++ [sg 41])))) (max ma mb + 1)
  | mul (r : Nat) (hr : r ≤ 1000000) {a : Nd} {A : List ByteArray} {ma : Nat} (ha : SumO a A ma) : SumO (.mk (sg 42) ⟨#[]⟩ r [a]) (brk (lowS a 1) 91 93 A ++ [sg 42, numT r, sg 37]) (ma + bN (lowS a 1))
  | add (k : ByteArray) (hk : k = sg 43 ∨ k = sg 45) {a b : Nd} {A B : List ByteArray} {ma mb : Nat} (ha : SumO a A ma) (hb : SumO b B mb) : SumO (.mk k ⟨#[]⟩ 0 [a, b]) (A ++ (k :: brk (lowS b 1) 91 93 B)) (max ma (mb + bN (lowS b 1)))
/-- A condition as it is printed. -/
inductive CondO : Nd → List ByteArray → Nat → Prop
  | name (w : ByteArray) (h : NameOk w) : CondO (.mk wName w 0 []) [w] 0
  | cmp (k : ByteArray) (hk : k ∈ ordersW) {a b : Nd} {A B : List ByteArray} {ma mb : Nat} (ha : SumO a A ma) (hb : SumO b B mb) : CondO (.mk k ⟨#[]⟩ 0 [a, b]) (A ++ (k :: B)) (max ma mb)
  | of (k w : ByteArray) (hk : k = wSome ∨ k = wEvery) (h : NameOk w) {a : Nd} {A : List ByteArray} {ma : Nat} (ha : CondO a A ma) : CondO (.mk k w 0 [a]) ([k, w, sg 40] ++ (A ++ [sg 41])) (ma + 1)
  | not {a : Nd} {A : List ByteArray} {ma : Nat} (ha : CondO a A ma) : CondO (.mk wNot ⟨#[]⟩ 0 [a]) (wNot :: brk (lowK a 2) 40 41 A) (ma + bN (lowK a 2) + 1)
  | and {a b : Nd} {A B : List ByteArray} {ma mb : Nat} (ha : CondO a A ma) (hb : CondO b B mb) : CondO (.mk wAnd ⟨#[]⟩ 0 [a, b]) (brk (lowK a 1) 40 41 A ++ (wAnd :: brk (lowK b 2) 40 41 B)) (max (ma + bN (lowK a 1)) (mb + bN (lowK b 2)))
  | or {a b : Nd} {A B : List ByteArray} {ma mb : Nat} (ha : CondO a A ma) (hb : CondO b B mb) : CondO (.mk wOr ⟨#[]⟩ 0 [a, b]) (A ++ (wOr :: brk (lowK b 1) 40 41 B)) (max ma (mb + bN (lowK b 1)))
theorem SumO.ne {x : Nd} {P : List ByteArray} {m : Nat} (h : SumO x P m) : P ≠ [] := by
  cases h <;> simp
theorem CondO.ne {x : Nd} {P : List ByteArray} {m : Nat} (h : CondO x P m) : P ≠ [] := by
  cases h <;> simp
end Go.Proofs.YtehbinobohjadaaGreatDoor
namespace Go.Proofs.YtehbinobohjadaaGreatDoor
open Go.RowKit Go.Extern.Stop Go.Stop Go.Extern

/-- Which kind a token's text is of. -/
def kdOf (t : ByteArray) : TK := if lowC (hd0 t) = true then .w else if numC (hd0 t) = true then .n else .s
theorem digit_ok (u : Nat) (h : u < 10) : numC (UInt8.ofNat (48 + u)) = true ∧ (UInt8.ofNat (48 + u)).toNat - 48 = u ∧ UInt8.ofNat (48 + u) ≠ 46 := by
  have e : (UInt8.ofNat (48 + u)).toNat = 48 + u := by
    rw [UInt8.toNat_ofNat']
    omega
  refine ⟨?_, by omega, fun h2 => ?_⟩
  · unfold numC
    rw [e]
    simp
    omega
  · have := congrArg UInt8.toNat h2
    rw [e] at this
    have e2 : (46 : UInt8).toNat = 46 := rfl
    omega
theorem dec_all : ∀ (u : Nat) (c : UInt8), c ∈ Lib.decDigits u → numC c = true
  | u, c, h => by
    rw [Lib.decDigits] at h
    split at h
    · rename_i hu
      simp only [List.mem_singleton] at h
      rw [h]
      exact (digit_ok u hu).1
    · rw [List.mem_append] at h
      rcases h with h | h
      · exact dec_all (u / 10) c h
      · simp only [List.mem_singleton] at h
        rw [h]
        exact (digit_ok (u % 10) (by omega)).1
termination_by u => u
decreasing_by omega
theorem dec_ne (u : Nat) : Lib.decDigits u ≠ [] := by
  rw [Lib.decDigits]
  split <;> simp
theorem hun_app : ∀ (l r : List UInt8) (n : Nat) (p : Bool), hunGo (l ++ r) n p = hunGo r (hunGo l n p).1 (hunGo l n p).2
  | [], r, n, p => rfl
  | c :: l, r, n, p => by
    show hunGo (c :: (l ++ r)) n p = _
    rw [hunGo, hunGo]
    split
    · exact hun_app l r n true
    · exact hun_app l r _ p
theorem dvL_app (l r : List UInt8) (n : Nat) : dvL (l ++ r) n = dvL r (dvL l n) := by unfold dvL; rw [List.foldl_append]
theorem hun_digits : ∀ (l : List UInt8) (n : Nat) (p : Bool), (∀ c, c ∈ l → numC c = true) → hunGo l n p = (dvL l n, p)
  | [], n, p, _ => rfl
  | c :: l, n, p, h => by
    have hc : c ≠ 46 := fun e => by
      have := h c (by simp)
      rw [e] at this
      exact absurd this (by decide)
    rw [hunGo, if_neg hc, hun_digits l _ p fun d hd => h d (by simp [hd])]
    rfl
theorem dv_one (u n : Nat) (h : u < 10) : dvL [UInt8.ofNat (48 + u)] n = n * 10 + u := by
  show n * 10 + ((UInt8.ofNat (48 + u)).toNat - 48) = _
  rw [(digit_ok u h).2.1]
theorem dv_dec : ∀ (u : Nat), dvL (Lib.decDigits u) 0 = u
  | u => by
    rw [Lib.decDigits]
    split
    · rename_i hu
      rw [dv_one u 0 hu]
      omega
    · rw [dvL_app, dv_dec (u / 10), dv_one _ _ (by omega)]
      omega
termination_by u => u
decreasing_by omega
theorem itoa_nat (u : Nat) : Lib.itoa (u : Int) = Lib.decDigits u := by
  unfold Lib.itoa
  rw [if_neg (by omega)]
  rfl
/-- A number's text: its digits, and perhaps two behind a point. -/
structure NumO (t : ByteArray) (ds tl : List UInt8) : Prop where
  eq : t.data.toList = ds ++ tl
  ne : ds ≠ []
  all : ∀ c, c ∈ ds → numC c = true
  tl : tl = [] ∨ ∃ a b, tl = [46, a, b] ∧ numC a = true ∧ numC b = true
theorem itoaB_list (u : Nat) : (itoaB (u : Int)).data.toList = Lib.decDigits u := by
  unfold itoaB
  rw [itoa_nat]
theorem numT_form (n : Nat) : NumO (numT n) (Lib.decDigits (n / 100)) (if n % 100 = 0 then [] else [46, UInt8.ofNat (48 + n % 100 / 10), UInt8.ofNat (48 + n % 10)]) := by
  have d1 : (n : Int).tmod 100 = ((n % 100 : Nat) : Int) := by rw [Int.tmod_eq_emod_of_nonneg (by omega)]; omega
  have d2 : (n : Int).tdiv 100 = ((n / 100 : Nat) : Int) := by rw [Int.tdiv_eq_ediv_of_nonneg (by omega)]; omega
  have d3 : (((n % 100 : Nat) : Int)).tdiv 10 = ((n % 100 / 10 : Nat) : Int) := by rw [Int.tdiv_eq_ediv_of_nonneg (by omega)]; omega
  have d4 : (n : Int).tmod 10 = ((n % 10 : Nat) : Int) := by rw [Int.tmod_eq_emod_of_nonneg (by omega)]; omega
  have s1 : Lib.decDigits (n % 100 / 10) = [UInt8.ofNat (48 + n % 100 / 10)] := by rw [Lib.decDigits, dif_pos (by omega)]
  have s2 : Lib.decDigits (n % 10) = [UInt8.ofNat (48 + n % 10)] := by rw [Lib.decDigits, dif_pos (by omega)]
  refine ⟨?_, dec_ne _, dec_all _, ?_⟩
  · unfold numT
    rw [d1, d2, d3, d4]
    by_cases h : n % 100 = 0
    · rw [if_pos (by omega), if_pos h, itoaB_list, List.append_nil]
    · rw [if_neg (by omega), if_neg h]
      simp only [ByteArray.data_append, Array.toList_append, itoaB_list, s1, s2]
      simp
  · split
    · exact .inl rfl
    · exact .inr ⟨_, _, rfl, (digit_ok _ (by omega)).1, (digit_ok _ (by omega)).1⟩
theorem num_not_low {c : UInt8} (h : numC c = true) : lowC c = false := by
  unfold numC at h
  unfold lowC
  simp only [Bool.and_eq_true, decide_eq_true_eq] at h
  simp
  omega
theorem num_word {c : UInt8} (h : numC c = true) : wordC c = true := by unfold wordC; rw [h]; simp
theorem NumO.hd {t : ByteArray} {ds tl : List UInt8} (h : NumO t ds tl) : numC (hd0 t) = true := by
  unfold hd0
  rw [h.eq]
  have ha := h.all
  match ds, h.ne with
  | c :: r, _ => exact ha c (by simp)
theorem NumO.kd {t : ByteArray} {ds tl : List UInt8} (h : NumO t ds tl) : kdOf t = .n := by
  unfold kdOf
  rw [num_not_low h.hd, h.hd]
  rfl
theorem numT_kd (n : Nat) : kdOf (numT n) = .n := (numT_form n).kd
theorem numT_hun (n : Nat) : hunB (numT n) = n := by
  have h := numT_form n
  unfold hunB
  rw [h.eq, hun_app, hun_digits _ _ _ h.all, dv_dec]
  by_cases h0 : n % 100 = 0
  · simp only [if_pos h0, hunGo]
    simp
    omega
  · have e1 := digit_ok (n % 100 / 10) (by omega)
    have e2 := digit_ok (n % 10) (by omega)
    simp only [if_neg h0, hunGo, if_pos, if_neg e1.2.2, if_neg e2.2.2, e1.2.1, e2.2.1]
    omega
theorem whole_of {t : ByteArray} {ds tl : List UInt8} (h : NumO t ds tl) : wholeN t = ds.length := by
  unfold wholeN
  rw [h.eq, List.takeWhile_append_of_pos fun c hc => by
    have := h.all c hc
    simp only [bne_iff_ne, ne_eq]
    intro e
    rw [e] at this
    exact absurd this (by decide)]
  rcases h.tl with e | ⟨a, b, e, _, _⟩ <;> rw [e] <;> simp [List.takeWhile]
theorem dec_len : ∀ (k u : Nat), u < 10 ^ k → 1 ≤ k → (Lib.decDigits u).length ≤ k
  | 0, u, _, h => by omega
  | k + 1, u, h, _ => by
    rw [Lib.decDigits]
    split
    · simp
    · rename_i hu
      have hk : 1 ≤ k := by
        match k, h with
        | 0, h => exact absurd h (by simpa using hu)
        | k + 1, _ => omega
      have := dec_len k (u / 10) (by rw [Nat.pow_succ] at h; omega) hk
      simp only [List.length_append, List.length_singleton]
      omega
theorem numT_whole {n : Nat} (h : n ≤ 1000000000000) : wholeN (numT n) ≤ 12 := by
  rw [whole_of (numT_form n)]
  exact dec_len 12 _ (by omega) (by omega)
/-- A number's digits make at least so great a text. -/
theorem dv_bound : ∀ (l : List UInt8) (n : Nat), (∀ c, c ∈ l → numC c = true) → dvL l n < (n + 1) * 10 ^ l.length
  | [], n, _ => by
    show n < (n + 1) * 10 ^ 0
    omega
  | c :: l, n, h => by
    have hc := h c (by simp)
    unfold numC at hc
    simp only [Bool.and_eq_true, decide_eq_true_eq] at hc
    have ih := dv_bound l (n * 10 + (c.toNat - 48)) fun d hd => h d (by simp [hd])
    show dvL l (n * 10 + (c.toNat - 48)) < _
    refine Nat.lt_of_lt_of_le ih ?_
    rw [List.length_cons, Nat.pow_succ, Nat.mul_comm (10 ^ l.length) 10, ← Nat.mul_assoc]
    exact Nat.mul_le_mul_right _ (by omega)
theorem dec_short {l : List UInt8} (hl : l ≠ []) (h : ∀ c, c ∈ l → numC c = true) : (Lib.decDigits (dvL l 0)).length ≤ l.length := by
  refine dec_len _ _ ?_ ?_
  · have := dv_bound l 0 h
    omega
  · cases l with
    | nil => exact absurd rfl hl
    | cons a r => simp
/-- A number is printed no longer than it was. -/
theorem numT_short {t : ByteArray} {ds tl : List UInt8} (h : NumO t ds tl) : (numT (hunB t)).size ≤ t.size := by
  have e1 : (numT (hunB t)).data.toList.length = (numT (hunB t)).size := bl_len _
  have e2 : t.data.toList.length = t.size := bl_len _
  rw [← e1, ← e2, (numT_form _).eq, h.eq]
  have hs := dec_short h.ne h.all
  have hh : hunB t = if tl = [] then dvL ds 0 * 100 else dvL (tl.drop 1) (dvL ds 0) := by
    unfold hunB
    rw [h.eq, hun_app, hun_digits _ _ _ h.all]
    rcases h.tl with e | ⟨a, b, e, ha, hb⟩
    · rw [e]
      simp [hunGo]
    · have na : a ≠ 46 := fun e => by rw [e] at ha; exact absurd ha (by decide)
      have nb : b ≠ 46 := fun e => by rw [e] at hb; exact absurd hb (by decide)
      rw [e]
      simp [hunGo, na, nb, dvL]
  rw [hh]
  rcases h.tl with e | ⟨a, b, e, ha, hb⟩
  · rw [e]
    simp only [if_true, List.length_append, List.length_nil, Nat.mul_mod_left, if_true, Nat.mul_div_cancel _ (show 0 < 100 by omega)]
    omega
  · unfold numC at ha hb
    simp only [Bool.and_eq_true, decide_eq_true_eq] at ha hb
    have e3 : dvL (tl.drop 1) (dvL ds 0) = dvL ds 0 * 100 + ((a.toNat - 48) * 10 + (b.toNat - 48)) := by
      rw [e]
      show (dvL ds 0 * 10 + (a.toNat - 48)) * 10 + (b.toNat - 48) = _
      omega
    have e4 : (dvL ds 0 * 100 + ((a.toNat - 48) * 10 + (b.toNat - 48))) / 100 = dvL ds 0 := by omega
    rw [if_neg (by rw [e]; simp), e3, e4, List.length_append, List.length_append]
    have : tl.length = 3 := by rw [e]; rfl
    split <;> simp <;> omega
end Go.Proofs.YtehbinobohjadaaGreatDoor
namespace Go.Proofs.YtehbinobohjadaaGreatDoor
open Go.RowKit Go.Extern.Stop Go.Stop Go.Extern

/-- These tokens stand there. -/
def At (L : List Tok) (k : Nat) (P : List ByteArray) : Prop := ∀ (i : Nat) (t : ByteArray), P[i]? = some t → (tokAt L (k + i)).text = t ∧ (tokAt L (k + i)).kind = kdOf t
theorem At.hd {L : List Tok} {k : Nat} {t : ByteArray} {P : List ByteArray} (h : At L k (t :: P)) : (tokAt L k).text = t ∧ (tokAt L k).kind = kdOf t := h 0 t rfl
theorem At.tl {L : List Tok} {k : Nat} {t : ByteArray} {P : List ByteArray} (h : At L k (t :: P)) : At L (k + 1) P := fun i u hu => by
  have := h (i + 1) u (by simpa using hu)
  rwa [show k + (i + 1) = k + 1 + i by omega] at this
theorem At.left {L : List Tok} {k : Nat} {P Q : List ByteArray} (h : At L k (P ++ Q)) : At L k P := fun i u hu => h i u (by
  have hi := (List.getElem?_eq_some_iff.1 hu).1
  rw [List.getElem?_append_left hi]; exact hu)
theorem At.right {L : List Tok} {k : Nat} {P Q : List ByteArray} (h : At L k (P ++ Q)) : At L (k + P.length) Q := fun i u hu => by
  have := h (P.length + i) u (by rw [List.getElem?_append_right (by omega), Nat.add_sub_cancel_left]; exact hu)
  rwa [show k + (P.length + i) = k + P.length + i by omega] at this
theorem isQ_at {L : List Tok} {k : Nat} {t : ByteArray} (h : (tokAt L k).text = t) (s : ByteArray) : isQ L s k = eqB t s := by unfold isQ; rw [h]
theorem isQ_yes {L : List Tok} {k : Nat} {t : ByteArray} (h : (tokAt L k).text = t) : isQ L t k = true := by rw [isQ_at h]; exact (eqB_iff _ _).2 rfl
theorem isQ_no {L : List Tok} {k : Nat} {t s : ByteArray} (h : (tokAt L k).text = t) (hn : t ≠ s) : isQ L s k = false := by rw [isQ_at h]; exact eqB_no hn
theorem needQ_yes {L : List Tok} {k n : Nat} {t : ByteArray} (h : (tokAt L k).text = t) : needQ L t k n = .ok () (k + 1) n := by
  unfold needQ
  rw [isQ_yes h, if_pos rfl]
theorem enterQ_yes {L : List Tok} {k n : Nat} {t : ByteArray} (h : (tokAt L k).text = t) (hn : n < 40) : enterQ L k n = .ok t (k + 1) (n + 1) := by
  unfold enterQ
  rw [if_neg (by omega), h]
theorem leaveQ_yes {L : List Tok} {k n : Nat} {t : ByteArray} (h : (tokAt L k).text = t) : leaveQ L t k (n + 1) = .ok () (k + 1) n := by
  unfold leaveQ
  rw [needQ_yes h]
  rfl
theorem lo_ne {w c : ByteArray} (h : lowC (hd0 w) = true) (hc : lowC (hd0 c) = false) : w ≠ c := fun e => by rw [e, hc] at h; cases h
theorem NameOk.ne {w c : ByteArray} (h : NameOk w) (hc : c ∈ gramW) : w ≠ c := fun e => h.no (by rw [e]; exact hc)
theorem NameOk.kd {w : ByteArray} (h : NameOk w) : kdOf w = .w := by unfold kdOf; rw [h.lo, if_pos rfl]
theorem NameOk.tok {L : List Tok} {k : Nat} {w : ByteArray} (h : NameOk w) (ha : (tokAt L k).text = w ∧ (tokAt L k).kind = kdOf w) : nameTok L k = true := by
  unfold nameTok
  rw [ha.1, ha.2, h.kd, place_none.2 h.no]
  rfl
theorem nameQ_yes {L : List Tok} {k n : Nat} {w : ByteArray} (h : NameOk w) (ha : (tokAt L k).text = w ∧ (tokAt L k).kind = kdOf w) : nameQ L k n = .ok w (k + 1) n := by
  unfold nameQ
  rw [if_pos ⟨h.tok ha, by rw [ha.1]; exact h.sz⟩, ha.1]
theorem numberQ_yes {L : List Tok} {k n : Nat} {v : Nat} (h : v ≤ 1000000000000) (ha : (tokAt L k).text = numT v ∧ (tokAt L k).kind = kdOf (numT v)) : numberQ L k n = .ok v (k + 1) n := by
  unfold numberQ
  rw [ha.1, ha.2, numT_hun, if_pos ⟨numT_kd v, numT_whole h, h⟩]
theorem rateQ_yes {L : List Tok} {k n : Nat} {v : Nat} (h : v ≤ 1000000) (ha : (tokAt L k).text = numT v ∧ (tokAt L k).kind = kdOf (numT v)) (hp : (tokAt L (k + 1)).text = sg 37) : rateQ L k n = .ok v (k + 2) n := by
  unfold rateQ
  rw [numberQ_yes (by omega) ha, PR.bind_ok, needQ_yes hp, PR.bind_ok, if_pos h]
theorem lvS_eq (k : ByteArray) : lvS k = if k = sg 43 ∨ k = sg 45 then 0 else if k = sg 42 then 1 else 2 := by
  unfold lvS
  simp only [eqB_iff]
theorem lvC_eq (k : ByteArray) : lvC k = if k = wOr then 0 else if k = wAnd then 1 else if k = wNot then 2 else 3 := by
  unfold lvC
  simp only [eqB_iff]
theorem lvS_two {k : ByteArray} (h0 : k ≠ sg 43) (h1 : k ≠ sg 45) (h2 : k ≠ sg 42) : lvS k = 2 := by
  rw [lvS_eq, if_neg (by rintro (h | h); exact h0 h; exact h1 h), if_neg h2]
/-- A printed sum is read. -/
structure SumR (L : List Tok) (x : Nd) (P : List ByteArray) (m : Nat) : Prop where
  fac : lvS x.kind = 2 → ∀ k n f, At L k P → n + m ≤ 40 → 5 * P.length ≤ f → factorQ L f k n = .ok x (k + P.length) n
  par : 1 ≤ lvS x.kind → ∀ k n f, At L k P → n + m ≤ 40 → 5 * P.length + 1 ≤ f → ∃ g, f ≤ g + P.length + 1 ∧ partQ L f k n = partLoopQ L g x (k + P.length) n
  sum : ∀ k n f, At L k P → n + m ≤ 40 → 5 * P.length + 2 ≤ f → (tokAt L (k + P.length)).text ≠ sg 42 → ∃ g, f ≤ g + P.length + 1 ∧ sumQ L f k n = sumLoopQ L g x (k + P.length) n
theorem pl_pos {P : List ByteArray} (h : P ≠ []) : 1 ≤ P.length := by
  cases P with
  | nil => exact absurd rfl h
  | cons a l => simp
theorem partLoop_end {L : List Tok} {g : Nat} {x : Nd} {k n : Nat} (h : (tokAt L k).text ≠ sg 42) (hg : 1 ≤ g) : partLoopQ L g x k n = .ok x k n := by
  obtain ⟨g, rfl⟩ : ∃ g', g = g' + 1 := ⟨g - 1, by omega⟩
  rw [partLoopQ, isQ_no rfl h]
  rfl
theorem sumLoop_end {L : List Tok} {g : Nat} {x : Nd} {k n : Nat} (h : (tokAt L k).text ≠ sg 43) (h2 : (tokAt L k).text ≠ sg 45) (hg : 1 ≤ g) : sumLoopQ L g x k n = .ok x k n := by
  obtain ⟨g, rfl⟩ : ∃ g', g = g' + 1 := ⟨g - 1, by omega⟩
  rw [sumLoopQ, isQ_no rfl h, isQ_no rfl h2]
  rfl
theorem SumR.of_sum {L : List Tok} {x : Nd} {P : List ByteArray} {m : Nat} (h0 : lvS x.kind = 0) (h : ∀ k n f, At L k P → n + m ≤ 40 → 5 * P.length + 2 ≤ f → (tokAt L (k + P.length)).text ≠ sg 42 → ∃ g, f ≤ g + P.length + 1 ∧ sumQ L f k n = sumLoopQ L g x (k + P.length) n) : SumR L x P m :=
  ⟨fun e => by omega, fun e => by omega, h⟩
theorem SumR.of_par {L : List Tok} {x : Nd} {P : List ByteArray} {m : Nat} (hp : P ≠ []) (h0 : lvS x.kind = 1) (h : ∀ k n f, At L k P → n + m ≤ 40 → 5 * P.length + 1 ≤ f → ∃ g, f ≤ g + P.length + 1 ∧ partQ L f k n = partLoopQ L g x (k + P.length) n) : SumR L x P m := by
  have hl := pl_pos hp
  refine ⟨fun e => by omega, fun _ => h, fun k n f hA hn hf hx => ?_⟩
  obtain ⟨f, rfl⟩ : ∃ f', f = f' + 1 := ⟨f - 1, by omega⟩
  obtain ⟨g, hg, e⟩ := h k n f hA hn (by omega)
  refine ⟨f, by omega, ?_⟩
  rw [sumQ, e, partLoop_end hx (by omega), PR.bind_ok]
theorem SumR.of_fac {L : List Tok} {x : Nd} {P : List ByteArray} {m : Nat} (hp : P ≠ []) (_ : lvS x.kind = 2) (h : ∀ k n f, At L k P → n + m ≤ 40 → 5 * P.length ≤ f → factorQ L f k n = .ok x (k + P.length) n) : SumR L x P m := by
  have hl := pl_pos hp
  have par : ∀ k n f, At L k P → n + m ≤ 40 → 5 * P.length + 1 ≤ f → ∃ g, f = g + 1 ∧ partQ L f k n = partLoopQ L g x (k + P.length) n := fun k n f hA hn hf => by
    obtain ⟨f, rfl⟩ : ∃ f', f = f' + 1 := ⟨f - 1, by omega⟩
    refine ⟨f, rfl, ?_⟩
    rw [partQ, h k n f hA hn (by omega), PR.bind_ok]
  refine ⟨fun _ => h, fun _ k n f hA hn hf => ?_, fun k n f hA hn hf hx => ?_⟩
  · obtain ⟨g, hg, e⟩ := par k n f hA hn hf
    exact ⟨g, by omega, e⟩
  · obtain ⟨f, rfl⟩ : ∃ f', f = f' + 1 := ⟨f - 1, by omega⟩
    obtain ⟨g, hg, e⟩ := par k n f hA hn (by omega)
    refine ⟨f, by omega, ?_⟩
    rw [sumQ, e, partLoop_end hx (by omega), PR.bind_ok]
/-- The whole of a sum. -/
theorem SumR.all {L : List Tok} {x : Nd} {P : List ByteArray} {m : Nat} (h : SumR L x P m) {k n f : Nat} (hA : At L k P) (hn : n + m ≤ 40) (hf : 5 * P.length + 2 ≤ f) (h0 : (tokAt L (k + P.length)).text ≠ sg 42) (h1 : (tokAt L (k + P.length)).text ≠ sg 43) (h2 : (tokAt L (k + P.length)).text ≠ sg 45) : sumQ L f k n = .ok x (k + P.length) n := by
  obtain ⟨g, hg, e⟩ := h.sum k n f hA hn hf h0
  rw [e, sumLoop_end h1 h2 (by omega)]
theorem sg_no {c d : UInt8} (h : c ≠ d) : sg c ≠ sg d := fun e => by
  unfold sg at e
  injection e with e
  injection e with e
  injection e with e
  exact h e
/-- In brackets it is a factor. -/
theorem SumR.br {L : List Tok} {x : Nd} {P : List ByteArray} {m : Nat} (h : SumR L x P m) {k n f : Nat} (hA : At L k (sg 91 :: (P ++ [sg 93]))) (hn : n + m + 1 ≤ 40) (hf : 5 * P.length + 10 ≤ f) : factorQ L f k n = .ok x (k + (P.length + 2)) n := by
  obtain ⟨f, rfl⟩ : ∃ f', f = f' + 1 := ⟨f - 1, by omega⟩
  have a0 := hA.hd
  have a1 := hA.tl.left
  have a2 := hA.tl.right.hd
  have e := h.all (k := k + 1) (n := n + 1) (f := f) a1 (by omega) (by omega) (by rw [a2.1]; exact sg_no (by decide)) (by rw [a2.1]; exact sg_no (by decide)) (by rw [a2.1]; exact sg_no (by decide))
  rw [factorQ, if_neg (by rw [a0.2]; decide), isQ_no a0.1 (by decide), if_neg (by simp), isQ_no a0.1 (by decide), if_neg (by simp), isQ_no a0.1 (by decide), isQ_no a0.1 (by decide), if_neg (by simp), isQ_yes a0.1, if_pos rfl, enterQ_yes a0.1 (by omega), PR.bind_ok, e, PR.bind_ok, leaveQ_yes a2.1, PR.bind_ok]
  rw [show k + 1 + P.length + 1 = k + (P.length + 2) by omega]
theorem brk_len (b : Bool) (l r : UInt8) (P : List ByteArray) : (brk b l r P).length = P.length + 2 * bN b := by
  cases b <;> simp [brk, bN]
/-- Where a part is asked. -/
theorem SumR.parB {L : List Tok} {x : Nd} {P : List ByteArray} {m : Nat} (h : SumR L x P m) (k n f : Nat) (hA : At L k (brk (lowS x 1) 91 93 P)) (hn : n + (m + bN (lowS x 1)) ≤ 40) (hf : 5 * (brk (lowS x 1) 91 93 P).length + 1 ≤ f) : ∃ g, f ≤ g + (brk (lowS x 1) 91 93 P).length + 1 ∧ partQ L f k n = partLoopQ L g x (k + (brk (lowS x 1) 91 93 P).length) n := by
  cases hb : lowS x 1
  · rw [hb] at hA hn hf
    refine h.par ?_ k n f hA hn hf
    unfold lowS at hb
    simp at hb
    omega
  · rw [hb] at hA hn hf
    rw [brk_len] at hf ⊢
    simp only [bN, if_true] at hn hf ⊢
    obtain ⟨f, rfl⟩ : ∃ f', f = f' + 1 := ⟨f - 1, by omega⟩
    refine ⟨f, by omega, ?_⟩
    rw [partQ, h.br hA (by omega) (by omega), PR.bind_ok]
/-- A printed sum is read as it is. -/
theorem SumO.re {x : Nd} {P : List ByteArray} {m : Nat} (h : SumO x P m) (L : List Tok) : SumR L x P m := by
  induction h with
  | num v h =>
    refine SumR.of_fac (by simp) (show lvS wNumber = 2 from lvS_two (by decide) (by decide) (by decide)) fun k n f hA hn hf => ?_
    simp only [List.length_singleton] at hf ⊢
    obtain ⟨f, rfl⟩ : ∃ f', f = f' + 1 := ⟨f - 1, by omega⟩
    rw [factorQ, if_pos (by rw [hA.hd.2]; exact numT_kd v), numberQ_yes h hA.hd, PR.bind_ok]
  | name w h =>
    refine SumR.of_fac (by simp) (show lvS wName = 2 from lvS_two (by decide) (by decide) (by decide)) fun k n f hA hn hf => ?_
    simp only [List.length_singleton] at hf ⊢
    obtain ⟨f, rfl⟩ : ∃ f', f = f' + 1 := ⟨f - 1, by omega⟩
    have a := hA.hd
    rw [factorQ, if_neg (by rw [a.2, h.kd]; decide), isQ_no a.1 (h.ne (by simp [gramW])), if_neg (by simp), isQ_no a.1 (h.ne (by simp [gramW])), if_neg (by simp), isQ_no a.1 (h.ne (by simp [gramW])), isQ_no a.1 (h.ne (by simp [gramW])), if_neg (by simp), isQ_no a.1 (lo_ne h.lo (by decide)), if_neg (by simp), nameQ_yes h a, PR.bind_ok]
  | count w h =>
    refine SumR.of_fac (by simp) (show lvS wCount = 2 from lvS_two (by decide) (by decide) (by decide)) fun k n f hA hn hf => ?_
    simp only [List.length_cons, List.length_nil] at hf ⊢
    obtain ⟨f, rfl⟩ : ∃ f', f = f' + 1 := ⟨f - 1, by omega⟩
    have a := hA.hd
    rw [factorQ, if_neg (by rw [a.2]; decide), isQ_yes a.1, if_pos rfl, nameQ_yes h hA.tl.hd, PR.bind_ok]
  | total w o h h2 =>
    refine SumR.of_fac (by simp) (show lvS wTotal = 2 from lvS_two (by decide) (by decide) (by decide)) fun k n f hA hn hf => ?_
    simp only [List.length_cons, List.length_nil] at hf ⊢
    obtain ⟨f, rfl⟩ : ∃ f', f = f' + 1 := ⟨f - 1, by omega⟩
    have a := hA.hd
    rw [factorQ, if_neg (by rw [a.2]; decide), isQ_no a.1 (by decide), if_neg (by simp), isQ_yes a.1, if_pos rfl]
    unfold totalQ
    rw [nameQ_yes h hA.tl.hd, PR.bind_ok, needQ_yes hA.tl.tl.hd.1, PR.bind_ok, nameQ_yes h2 hA.tl.tl.tl.hd, PR.bind_ok]
  | @great t hk a b A B ma mb ha hb iha ihb =>
    have hlv : lvS t = 2 := by rcases hk with rfl | rfl <;> exact lvS_two (by decide) (by decide) (by decide)
    refine SumR.of_fac (by simp) hlv fun k n f hA hn hf => ?_
    simp only [List.length_cons, List.length_nil, List.length_append] at hf ⊢
    obtain ⟨f, rfl⟩ : ∃ f', f = f' + 1 + 1 := ⟨f - 2, by omega⟩
    have a0 := hA.hd
    have a1 := hA.tl.hd
    have a2 : At L (k + 1 + 1) (A ++ (sg 44 :: (B ++ [sg 41]))) := hA.tl.tl
    have a3 := a2.right.hd
    have a4 := a2.right.tl
    have a5 := a4.right.hd
    have e1 := iha.all (k := k + 1 + 1) (n := n + 1) (f := f) a2.left (by omega) (by omega) (by rw [a3.1]; exact sg_no (by decide)) (by rw [a3.1]; exact sg_no (by decide)) (by rw [a3.1]; exact sg_no (by decide))
    have e2 := ihb.all (n := n + 1) (f := f) a4.left (by omega) (by omega) (by rw [a5.1]; exact sg_no (by decide)) (by rw [a5.1]; exact sg_no (by decide)) (by rw [a5.1]; exact sg_no (by decide))
    have hn1 : t ≠ wCount := by rcases hk with rfl | rfl <;> decide
    have hn2 : t ≠ wTotal := by rcases hk with rfl | rfl <;> decide
    have hkd : ¬ kdOf t = .n := by rcases hk with rfl | rfl <;> decide
    have hq : isQ L wMax k = true ∨ isQ L wMin k = true := by
      rcases hk with rfl | rfl
      · exact .inl (isQ_yes a0.1)
      · exact .inr (isQ_yes a0.1)
    rw [factorQ, if_neg (by rw [a0.2]; exact hkd), isQ_no a0.1 hn1, if_neg (by simp), isQ_no a0.1 hn2, if_neg (by simp), if_pos hq, greatQ, enterQ_yes a0.1 (by omega), PR.bind_ok, needQ_yes a1.1, PR.bind_ok, e1, PR.bind_ok, needQ_yes a3.1, PR.bind_ok, e2, PR.bind_ok, leaveQ_yes a5.1, PR.bind_ok]
    congr 1
    omega
  | @mul r hr a A ma ha iha =>
    refine SumR.of_par (by simp) (by show lvS (sg 42) = 1; rw [lvS_eq, if_neg (by rintro (h | h) <;> exact absurd h (by decide)), if_pos rfl]) fun k n f hA hn hf => ?_
    simp only [List.length_cons, List.length_nil, List.length_append] at hf ⊢
    obtain ⟨g, hg, e⟩ := iha.parB k n f hA.left hn (by omega)
    obtain ⟨g, rfl⟩ : ∃ g', g = g' + 1 := ⟨g - 1, by omega⟩
    have a1 := hA.right
    refine ⟨g, by omega, ?_⟩
    rw [e, partLoopQ, isQ_yes a1.hd.1, if_pos rfl, rateQ_yes hr a1.tl.hd a1.tl.tl.hd.1, PR.bind_ok]
    congr 1
  | @add t hk a b A B ma mb ha hb iha ihb =>
    have hlv : lvS t = 0 := by rw [lvS_eq, if_pos hk]
    refine SumR.of_sum hlv fun k n f hA hn hf hx => ?_
    simp only [List.length_cons, List.length_append] at hf hx ⊢
    have a1 := hA.right
    obtain ⟨g, hg, e⟩ := iha.sum k n f hA.left (by omega) (by omega) (by rw [a1.hd.1]; rcases hk with rfl | rfl <;> exact sg_no (by decide))
    obtain ⟨g, rfl⟩ : ∃ g', g = g' + 1 := ⟨g - 1, by omega⟩
    obtain ⟨g2, hg2, e2⟩ := ihb.parB (k + A.length + 1) n g a1.tl (by omega) (by omega)
    have hq : isQ L (sg 43) (k + A.length) = true ∨ isQ L (sg 45) (k + A.length) = true := by
      rcases hk with rfl | rfl
      · exact .inl (isQ_yes a1.hd.1)
      · exact .inr (isQ_yes a1.hd.1)
    have ek : k + A.length + 1 + (brk (lowS b 1) 91 93 B).length = k + (A.length + ((brk (lowS b 1) 91 93 B).length + 1)) := by omega
    refine ⟨g, by omega, ?_⟩
    rw [e, sumLoopQ, if_pos hq, e2, ek, partLoop_end hx (by omega), PR.bind_ok, a1.hd.1]
end Go.Proofs.YtehbinobohjadaaGreatDoor
namespace Go.Proofs.YtehbinobohjadaaGreatDoor
open Go.RowKit Go.Extern.Stop Go.Stop Go.Extern

/-- With which token a sum begins. -/
def SumF (t : ByteArray) : Prop := kdOf t = .n ∨ NameOk t ∨ t = wCount ∨ t = wTotal ∨ t = wMax ∨ t = wMin ∨ t = sg 91
structure SumHd (P : List ByteArray) (t : ByteArray) (r : List ByteArray) : Prop where
  eq : P = t :: r
  f : SumF t
  nm : NameOk t → r = [] ∨ ∃ u r', r = u :: r' ∧ u ∈ sumsW
theorem SumF.not {t s : ByteArray} (h : SumF t) (hs : s = wNot ∨ s = wSome ∨ s = wEvery ∨ s = sg 40) : t ≠ s := by
  rintro rfl
  rcases h with h | h | h | h | h | h | h
  · rcases hs with rfl | rfl | rfl | rfl <;> exact absurd h (by decide)
  · rcases hs with rfl | rfl | rfl | rfl
    · exact h.no (by simp [gramW])
    · exact h.no (by simp [gramW])
    · exact h.no (by simp [gramW])
    · exact absurd h.lo (by decide)
  all_goals (subst h; rcases hs with h | h | h | h <;> exact absurd h (by decide))
theorem not_name {t : ByteArray} (h : t ∈ gramW) : ¬ NameOk t := fun h2 => h2.no h
theorem kd_name {t : ByteArray} (h : kdOf t ≠ .w) : ¬ NameOk t := fun h2 => h h2.kd
theorem SumO.hd {x : Nd} {P : List ByteArray} {m : Nat} (h : SumO x P m) : ∃ t r, SumHd P t r := by
  have br : ∀ (b : Bool) (A Q : List ByteArray) (u : ByteArray), u ∈ sumsW → (∃ t r, SumHd A t r) → ∃ t r, SumHd (brk b 91 93 A ++ (u :: Q)) t r := by
    rintro b A Q u hu ⟨t, r, ht⟩
    cases b
    · refine ⟨t, r ++ u :: Q, by rw [show brk false 91 93 A = A from rfl, ht.eq]; rfl, ht.f, fun hn => .inr ?_⟩
      rcases ht.nm hn with e | ⟨v, r', e, hv⟩
      · exact ⟨u, Q, by rw [e]; rfl, hu⟩
      · exact ⟨v, r' ++ u :: Q, by rw [e]; rfl, hv⟩
    · exact ⟨sg 91, _, rfl, .inr (.inr (.inr (.inr (.inr (.inr rfl))))), fun hn => absurd hn (kd_name (by decide))⟩
  induction h with
  | num v h => exact ⟨_, _, rfl, .inl (numT_kd v), fun hn => .inl rfl⟩
  | name w h => exact ⟨_, _, rfl, .inr (.inl h), fun hn => .inl rfl⟩
  | count w h => exact ⟨_, _, rfl, .inr (.inr (.inl rfl)), fun hn => absurd hn (not_name (by simp [gramW]))⟩
  | total w o h h2 => exact ⟨_, _, rfl, .inr (.inr (.inr (.inl rfl))), fun hn => absurd hn (not_name (by simp [gramW]))⟩
  | @great t hk a b A B ma mb ha hb iha ihb =>
    rcases hk with rfl | rfl
    · exact ⟨_, _, rfl, .inr (.inr (.inr (.inr (.inl rfl)))), fun hn => absurd hn (not_name (by simp [gramW]))⟩
    · exact ⟨_, _, rfl, .inr (.inr (.inr (.inr (.inr (.inl rfl))))), fun hn => absurd hn (not_name (by simp [gramW]))⟩
  | @mul r hr a A ma ha iha => exact br _ _ _ _ (by simp [sumsW]) iha
  | @add t hk a b A B ma mb ha hb iha ihb => exact br false A _ t (by rcases hk with rfl | rfl <;> simp [sumsW]) iha
/-- What may stand behind a condition. -/
structure Fol (L : List Tok) (k : Nat) : Prop where
  o : (tokAt L k).text ∉ ordersW
  s : (tokAt L k).text ∉ sumsW
theorem Fol.of {L : List Tok} {k : Nat} {t : ByteArray} (h : (tokAt L k).text = t) (h1 : t ∉ ordersW) (h2 : t ∉ sumsW) : Fol L k := ⟨by rw [h]; exact h1, by rw [h]; exact h2⟩
/-- A printed condition is read. -/
structure CondR (L : List Tok) (x : Nd) (P : List ByteArray) (m : Nat) : Prop where
  tst : lvC x.kind = 3 → ∀ k n f, At L k P → n + m ≤ 40 → 8 * P.length ≤ f → Fol L (k + P.length) → testQ L f k n = .ok x (k + P.length) n
  unl : 2 ≤ lvC x.kind → ∀ k n f, At L k P → n + m ≤ 40 → 8 * P.length + 1 ≤ f → Fol L (k + P.length) → unlessQ L f k n = .ok x (k + P.length) n
  bot : 1 ≤ lvC x.kind → ∀ k n f, At L k P → n + m ≤ 40 → 8 * P.length + 2 ≤ f → Fol L (k + P.length) → ∃ g, f ≤ g + P.length + 1 ∧ bothQ L f k n = andLoopQ L g x (k + P.length) n
  eit : ∀ k n f, At L k P → n + m ≤ 40 → 8 * P.length + 3 ≤ f → Fol L (k + P.length) → (tokAt L (k + P.length)).text ≠ wAnd → ∃ g, f ≤ g + P.length + 1 ∧ eitherQ L f k n = orLoopQ L g x (k + P.length) n
theorem andLoop_end {L : List Tok} {g : Nat} {x : Nd} {k n : Nat} (h : (tokAt L k).text ≠ wAnd) (hg : 1 ≤ g) : andLoopQ L g x k n = .ok x k n := by
  obtain ⟨g, rfl⟩ : ∃ g', g = g' + 1 := ⟨g - 1, by omega⟩
  rw [andLoopQ, isQ_no rfl h]
  rfl
theorem orLoop_end {L : List Tok} {g : Nat} {x : Nd} {k n : Nat} (h : (tokAt L k).text ≠ wOr) (hg : 1 ≤ g) : orLoopQ L g x k n = .ok x k n := by
  obtain ⟨g, rfl⟩ : ∃ g', g = g' + 1 := ⟨g - 1, by omega⟩
  rw [orLoopQ, isQ_no rfl h]
  rfl
theorem CondR.of_eit {L : List Tok} {x : Nd} {P : List ByteArray} {m : Nat} (h0 : lvC x.kind = 0) (h : ∀ k n f, At L k P → n + m ≤ 40 → 8 * P.length + 3 ≤ f → Fol L (k + P.length) → (tokAt L (k + P.length)).text ≠ wAnd → ∃ g, f ≤ g + P.length + 1 ∧ eitherQ L f k n = orLoopQ L g x (k + P.length) n) : CondR L x P m :=
  ⟨fun e => by omega, fun e => by omega, fun e => by omega, h⟩
theorem CondR.of_bot {L : List Tok} {x : Nd} {P : List ByteArray} {m : Nat} (hp : P ≠ []) (h0 : lvC x.kind = 1) (h : ∀ k n f, At L k P → n + m ≤ 40 → 8 * P.length + 2 ≤ f → Fol L (k + P.length) → ∃ g, f ≤ g + P.length + 1 ∧ bothQ L f k n = andLoopQ L g x (k + P.length) n) : CondR L x P m := by
  have hl := pl_pos hp
  refine ⟨fun e => by omega, fun e => by omega, fun _ => h, fun k n f hA hn hf hx hy => ?_⟩
  obtain ⟨f, rfl⟩ : ∃ f', f = f' + 1 := ⟨f - 1, by omega⟩
  obtain ⟨g, hg, e⟩ := h k n f hA hn (by omega) hx
  refine ⟨f, by omega, ?_⟩
  rw [eitherQ, e, andLoop_end hy (by omega), PR.bind_ok]
theorem bot_of_unl {L : List Tok} {x : Nd} {P : List ByteArray} {m : Nat} (h : ∀ k n f, At L k P → n + m ≤ 40 → 8 * P.length + 1 ≤ f → Fol L (k + P.length) → unlessQ L f k n = .ok x (k + P.length) n) : ∀ k n f, At L k P → n + m ≤ 40 → 8 * P.length + 2 ≤ f → Fol L (k + P.length) → ∃ g, f = g + 1 ∧ bothQ L f k n = andLoopQ L g x (k + P.length) n := fun k n f hA hn hf hx => by
  obtain ⟨f, rfl⟩ : ∃ f', f = f' + 1 := ⟨f - 1, by omega⟩
  refine ⟨f, rfl, ?_⟩
  rw [bothQ, h k n f hA hn (by omega) hx, PR.bind_ok]
theorem CondR.of_unl {L : List Tok} {x : Nd} {P : List ByteArray} {m : Nat} (hp : P ≠ []) (ht : lvC x.kind = 3 → ∀ k n f, At L k P → n + m ≤ 40 → 8 * P.length ≤ f → Fol L (k + P.length) → testQ L f k n = .ok x (k + P.length) n) (h : ∀ k n f, At L k P → n + m ≤ 40 → 8 * P.length + 1 ≤ f → Fol L (k + P.length) → unlessQ L f k n = .ok x (k + P.length) n) : CondR L x P m := by
  have hl := pl_pos hp
  have hb := bot_of_unl h
  refine ⟨ht, fun _ => h, fun _ k n f hA hn hf hx => ?_, fun k n f hA hn hf hx hy => ?_⟩
  · obtain ⟨g, hg, e⟩ := hb k n f hA hn hf hx
    exact ⟨g, by omega, e⟩
  · obtain ⟨f, rfl⟩ : ∃ f', f = f' + 1 := ⟨f - 1, by omega⟩
    obtain ⟨g, hg, e⟩ := hb k n f hA hn (by omega) hx
    refine ⟨f, by omega, ?_⟩
    rw [eitherQ, e, andLoop_end hy (by omega), PR.bind_ok]
theorem CondR.of_tst {L : List Tok} {x : Nd} {P : List ByteArray} {m : Nat} {t : ByteArray} {r : List ByteArray} (hp : P = t :: r) (hn : t ≠ wNot) (ht : ∀ k n f, At L k P → n + m ≤ 40 → 8 * P.length ≤ f → Fol L (k + P.length) → testQ L f k n = .ok x (k + P.length) n) : CondR L x P m := by
  refine CondR.of_unl (by rw [hp]; simp) (fun _ => ht) fun k n f hA hm hf hx => ?_
  obtain ⟨f, rfl⟩ : ∃ f', f = f' + 1 := ⟨f - 1, by omega⟩
  have ha : (tokAt L k).text = t := by rw [hp] at hA; exact hA.hd.1
  rw [unlessQ, isQ_no ha hn, if_neg (by simp), ht k n f hA hm (by omega) hx]
/-- The whole of a condition. -/
theorem CondR.all {L : List Tok} {x : Nd} {P : List ByteArray} {m : Nat} (h : CondR L x P m) {k n f : Nat} (hA : At L k P) (hn : n + m ≤ 40) (hf : 8 * P.length + 3 ≤ f) (hx : Fol L (k + P.length)) (h1 : (tokAt L (k + P.length)).text ≠ wAnd) (h2 : (tokAt L (k + P.length)).text ≠ wOr) : eitherQ L f k n = .ok x (k + P.length) n := by
  obtain ⟨g, hg, e⟩ := h.eit k n f hA hn hf hx h1
  rw [e, orLoop_end h2 (by omega)]
theorem sg_fol {c : UInt8} (h : c ≠ 60) (h2 : c ≠ 61) (h3 : c ≠ 62) (h4 : c ≠ 43) (h5 : c ≠ 45) (h6 : c ≠ 42) : sg c ∉ ordersW ∧ sg c ∉ sumsW := by
  have n2 : ∀ a b, sg c ≠ sg2 a b := fun a b e => by
    have := congrArg ByteArray.size e
    exact absurd this (by show ¬ (1 : Nat) = 2; omega)
  constructor
  · simp only [ordersW, List.mem_cons, List.not_mem_nil, or_false, not_or]
    exact ⟨sg_no h, n2 _ _, sg_no h2, n2 _ _, n2 _ _, sg_no h3⟩
  · simp only [sumsW, List.mem_cons, List.not_mem_nil, or_false, not_or]
    exact ⟨sg_no h4, sg_no h5, sg_no h6⟩
theorem orders_sg {k : ByteArray} (h : k ∈ ordersW) : lowC (hd0 k) = false ∧ numC (hd0 k) = false ∧ hd0 k ≠ 42 ∧ hd0 k ≠ 43 ∧ hd0 k ≠ 45 ∧ 1 ≤ k.size := by
  simp only [ordersW, List.mem_cons, List.not_mem_nil, or_false] at h
  rcases h with rfl | rfl | rfl | rfl | rfl | rfl <;> decide
theorem sums_sg {k : ByteArray} (h : k ∈ sumsW) : lowC (hd0 k) = false ∧ numC (hd0 k) = false := by
  simp only [sumsW, List.mem_cons, List.not_mem_nil, or_false] at h
  rcases h with rfl | rfl | rfl <;> decide
theorem low_fol {t : ByteArray} (h : lowC (hd0 t) = true) : t ∉ ordersW ∧ t ∉ sumsW := ⟨fun h2 => (by rw [(orders_sg h2).1] at h; cases h), fun h2 => (by rw [(sums_sg h2).1] at h; cases h)⟩
/-- In brackets it is a test. -/
theorem CondR.br {L : List Tok} {x : Nd} {P : List ByteArray} {m : Nat} (h : CondR L x P m) {k n f : Nat} (hA : At L k (sg 40 :: (P ++ [sg 41]))) (hn : n + m + 1 ≤ 40) (hf : 8 * P.length + 8 ≤ f) : testQ L f k n = .ok x (k + (P.length + 2)) n := by
  obtain ⟨f, rfl⟩ : ∃ f', f = f' + 1 := ⟨f - 1, by omega⟩
  have a0 := hA.hd
  have a2 := hA.tl.right.hd
  have e := h.all (k := k + 1) (n := n + 1) (f := f) hA.tl.left (by omega) (by omega) (Fol.of a2.1 (sg_fol (by decide) (by decide) (by decide) (by decide) (by decide) (by decide)).1 (sg_fol (by decide) (by decide) (by decide) (by decide) (by decide) (by decide)).2) (by rw [a2.1]; decide) (by rw [a2.1]; decide)
  rw [testQ, isQ_yes a0.1, if_pos rfl, enterQ_yes a0.1 (by omega), PR.bind_ok, e, PR.bind_ok, leaveQ_yes a2.1, PR.bind_ok]
  rw [show k + 1 + P.length + 1 = k + (P.length + 2) by omega]
/-- Where a condition of a level is asked. -/
theorem CondR.unlB {L : List Tok} {x : Nd} {P : List ByteArray} {m : Nat} (h : CondR L x P m) (k n f : Nat) (hA : At L k (brk (lowK x 2) 40 41 P)) (hn : n + (m + bN (lowK x 2)) ≤ 40) (hf : 8 * (brk (lowK x 2) 40 41 P).length + 1 ≤ f) (hx : Fol L (k + (brk (lowK x 2) 40 41 P).length)) : unlessQ L f k n = .ok x (k + (brk (lowK x 2) 40 41 P).length) n := by
  cases hb : lowK x 2
  · rw [hb] at hA hn hf hx
    refine h.unl ?_ k n f hA hn hf hx
    unfold lowK at hb
    simp at hb
    omega
  · rw [hb] at hA hn hf hx
    rw [brk_len] at hf hx ⊢
    simp only [bN, if_true] at hn hf ⊢
    obtain ⟨f, rfl⟩ : ∃ f', f = f' + 1 := ⟨f - 1, by omega⟩
    have a0 := hA.hd
    rw [unlessQ, isQ_no a0.1 (by decide), if_neg (by simp), h.br hA (by omega) (by omega)]
theorem CondR.botB {L : List Tok} {x : Nd} {P : List ByteArray} {m : Nat} (h : CondR L x P m) (k n f : Nat) (hA : At L k (brk (lowK x 1) 40 41 P)) (hn : n + (m + bN (lowK x 1)) ≤ 40) (hf : 8 * (brk (lowK x 1) 40 41 P).length + 2 ≤ f) (hx : Fol L (k + (brk (lowK x 1) 40 41 P).length)) : ∃ g, f ≤ g + (brk (lowK x 1) 40 41 P).length + 1 ∧ bothQ L f k n = andLoopQ L g x (k + (brk (lowK x 1) 40 41 P).length) n := by
  cases hb : lowK x 1
  · rw [hb] at hA hn hf hx
    refine h.bot ?_ k n f hA hn hf hx
    unfold lowK at hb
    simp at hb
    omega
  · rw [hb] at hA hn hf hx
    rw [brk_len] at hf hx ⊢
    simp only [bN, if_true] at hn hf ⊢
    obtain ⟨f, rfl⟩ : ∃ f', f = f' + 1 + 1 := ⟨f - 2, by omega⟩
    have a0 := hA.hd
    refine ⟨f + 1, by omega, ?_⟩
    rw [bothQ, unlessQ, isQ_no a0.1 (by decide), if_neg (by simp), h.br hA (by omega) (by omega), PR.bind_ok]
theorem orders_ne {k : ByteArray} (h : k ∈ ordersW) (c : UInt8) (hc : c ≠ 60 ∧ c ≠ 61 ∧ c ≠ 62) : k ≠ sg c := by
  simp only [ordersW, List.mem_cons, List.not_mem_nil, or_false] at h
  have n2 : ∀ a b, sg2 a b ≠ sg c := fun a b e => by
    have := congrArg ByteArray.size e
    exact absurd this (by show ¬ (2 : Nat) = 1; omega)
  rcases h with rfl | rfl | rfl | rfl | rfl | rfl
  · exact sg_no (Ne.symm hc.1)
  · exact n2 _ _
  · exact sg_no (Ne.symm hc.2.1)
  · exact n2 _ _
  · exact n2 _ _
  · exact sg_no (Ne.symm hc.2.2)
theorem Fol.ne {L : List Tok} {k : Nat} (h : Fol L k) : (tokAt L k).text ≠ sg 42 ∧ (tokAt L k).text ≠ sg 43 ∧ (tokAt L k).text ≠ sg 45 :=
  ⟨fun e => h.s (by rw [e]; simp [sumsW]), fun e => h.s (by rw [e]; simp [sumsW]), fun e => h.s (by rw [e]; simp [sumsW])⟩
theorem gram_not {t : ByteArray} (h : t ∈ gramW) : (placeIn gramW t).isNone = false := by rw [← Option.not_isSome, place_mem.2 h]; rfl
/-- A printed condition is read as it is. -/
theorem CondO.re {x : Nd} {P : List ByteArray} {m : Nat} (h : CondO x P m) (L : List Tok) : CondR L x P m := by
  induction h with
  | name w h =>
    refine CondR.of_tst rfl (h.ne (by simp [gramW])) fun k n f hA hn hf hx => ?_
    simp only [List.length_singleton] at hf hx ⊢
    obtain ⟨f, rfl⟩ : ∃ f', f = f' + 1 := ⟨f - 1, by omega⟩
    have a := hA.hd
    have hal : aloneQ L k = true := by
      unfold aloneQ
      rw [h.tok a, place_none.2 hx.o, place_none.2 hx.s]
      rfl
    rw [testQ, isQ_no a.1 (lo_ne h.lo (by decide)), if_neg (by simp), isQ_no a.1 (h.ne (by simp [gramW])), isQ_no a.1 (h.ne (by simp [gramW])), if_neg (by simp), if_pos hal, nameQ_yes h a, PR.bind_ok]
  | @cmp t hk a b A B ma mb ha hb =>
    obtain ⟨u, r, hu⟩ := ha.hd
    have he : A ++ t :: B = u :: (r ++ t :: B) := by rw [hu.eq]; rfl
    refine CondR.of_tst he (hu.f.not (.inl rfl)) fun k n f hA hn hf hx => ?_
    have a1 := hA.right
    have a0 : (tokAt L k).text = u ∧ (tokAt L k).kind = kdOf u := by rw [he] at hA; exact hA.hd
    have hal : aloneQ L k = false := by
      unfold aloneQ
      by_cases hnm : NameOk u
      · rcases hu.nm hnm with e | ⟨v, r', e, hv⟩
        · have hA2 := hA
          rw [he, e] at hA2
          rw [hA2.tl.hd.1]
          rw [show (placeIn ordersW t).isNone = false by rw [← Option.not_isSome, place_mem.2 hk]; rfl]
          simp
        · have hA2 := hA
          rw [he, e] at hA2
          rw [hA2.tl.hd.1]
          rw [show (placeIn sumsW v).isNone = false by rw [← Option.not_isSome, place_mem.2 hv]; rfl]
          simp
      · have : nameTok L k = false := by
          unfold nameTok
          rw [a0.1, a0.2]
          rcases hu.f with h | h | h | h | h | h | h
          · rw [h]; rfl
          · exact absurd h hnm
          · rw [h, gram_not (by simp [gramW])]; simp
          · rw [h, gram_not (by simp [gramW])]; simp
          · rw [h, gram_not (by simp [gramW])]; simp
          · rw [h, gram_not (by simp [gramW])]; simp
          · rw [h]; rfl
        rw [this]
        rfl
    simp only [List.length_append, List.length_cons] at hf hx ⊢
    obtain ⟨f, rfl⟩ : ∃ f', f = f' + 1 + 1 := ⟨f - 2, by omega⟩
    have e1 := (ha.re L).all (k := k) (n := n) (f := f) hA.left (by omega) (by omega) (by rw [a1.hd.1]; exact orders_ne hk _ (by decide)) (by rw [a1.hd.1]; exact orders_ne hk _ (by decide)) (by rw [a1.hd.1]; exact orders_ne hk _ (by decide))
    have ek : k + A.length + 1 + B.length = k + (A.length + (B.length + 1)) := by omega
    have hx' := hx.ne
    rw [← ek] at hx'
    have e2 := (hb.re L).all (k := k + A.length + 1) (n := n) (f := f) a1.tl (by omega) (by omega) hx'.1 hx'.2.1 hx'.2.2
    rw [testQ, isQ_no a0.1 (hu.f.not (.inr (.inr (.inr rfl)))), if_neg (by simp), isQ_no a0.1 (hu.f.not (.inr (.inl rfl))), isQ_no a0.1 (hu.f.not (.inr (.inr (.inl rfl)))), if_neg (by simp), hal, if_neg (by simp), compQ, e1, PR.bind_ok, if_pos (by rw [a1.hd.1]; exact place_mem.2 hk), e2, PR.bind_ok, a1.hd.1, ek]
  | @of t w hk h a A ma ha iha =>
    have hn0 : t ≠ wNot := by rcases hk with rfl | rfl <;> decide
    refine CondR.of_tst rfl hn0 fun k n f hA hn hf hx => ?_
    simp only [List.length_cons, List.length_nil, List.length_append] at hf hx ⊢
    obtain ⟨f, rfl⟩ : ∃ f', f = f' + 1 + 1 := ⟨f - 2, by omega⟩
    have a0 := hA.hd
    have a1 := hA.tl.hd
    have a2 := hA.tl.tl.hd
    have a3 : At L (k + 1 + 1 + 1) (A ++ [sg 41]) := hA.tl.tl.tl
    have a4 := a3.right.hd
    have hf41 := sg_fol (c := 41) (by decide) (by decide) (by decide) (by decide) (by decide) (by decide)
    have e := iha.all (n := n + 1) (f := f) a3.left (by omega) (by omega) (Fol.of a4.1 hf41.1 hf41.2) (by rw [a4.1]; decide) (by rw [a4.1]; decide)
    have hq : isQ L wSome k = true ∨ isQ L wEvery k = true := by
      rcases hk with rfl | rfl
      · exact .inl (isQ_yes a0.1)
      · exact .inr (isQ_yes a0.1)
    have hn1 : t ≠ sg 40 := by rcases hk with rfl | rfl <;> decide
    rw [testQ, isQ_no a0.1 hn1, if_neg (by simp), if_pos hq, othersQ, enterQ_yes a0.1 (by omega), PR.bind_ok, nameQ_yes h a1, PR.bind_ok, needQ_yes a2.1, PR.bind_ok, e, PR.bind_ok, leaveQ_yes a4.1, PR.bind_ok]
    congr 1
    omega
  | @not a A ma ha iha =>
    have hlv : lvC wNot = 2 := by rw [lvC_eq, if_neg (by decide), if_neg (by decide), if_pos rfl]
    refine CondR.of_unl (by simp) (fun h3 => absurd (hlv.symm.trans h3) (by decide)) fun k n f hA hn hf hx => ?_
    simp only [List.length_cons] at hf hx ⊢
    obtain ⟨f, rfl⟩ : ∃ f', f = f' + 1 := ⟨f - 1, by omega⟩
    have a0 := hA.hd
    have ek : k + 1 + (brk (lowK a 2) 40 41 A).length = k + ((brk (lowK a 2) 40 41 A).length + 1) := by omega
    have e := iha.unlB (k + 1) (n + 1) f hA.tl (by omega) (by omega) (by rw [ek]; exact hx)
    rw [unlessQ, isQ_yes a0.1, if_pos rfl, enterQ_yes a0.1 (by omega), PR.bind_ok, e, PR.bind_ok, ek]
    rfl
  | @and a b A B ma mb ha hb iha ihb =>
    have hlv : lvC wAnd = 1 := by rw [lvC_eq, if_neg (by decide), if_pos rfl]
    refine CondR.of_bot (by simp) hlv fun k n f hA hn hf hx => ?_
    simp only [List.length_append, List.length_cons] at hf hx ⊢
    have a1 := hA.right
    have hf1 := low_fol (t := wAnd) (by decide)
    obtain ⟨g, hg, e⟩ := iha.botB k n f hA.left (by omega) (by omega) (Fol.of a1.hd.1 hf1.1 hf1.2)
    obtain ⟨g, rfl⟩ : ∃ g', g = g' + 1 := ⟨g - 1, by omega⟩
    have ek : k + (brk (lowK a 1) 40 41 A).length + 1 + (brk (lowK b 2) 40 41 B).length = k + ((brk (lowK a 1) 40 41 A).length + ((brk (lowK b 2) 40 41 B).length + 1)) := by omega
    have e2 := ihb.unlB (k + (brk (lowK a 1) 40 41 A).length + 1) n g a1.tl (by omega) (by omega) (by rw [ek]; exact hx)
    refine ⟨g, by omega, ?_⟩
    rw [e, andLoopQ, isQ_yes a1.hd.1, if_pos rfl, e2, PR.bind_ok, ek]
  | @or a b A B ma mb ha hb iha ihb =>
    have hlv : lvC wOr = 0 := by rw [lvC_eq, if_pos rfl]
    refine CondR.of_eit hlv fun k n f hA hn hf hx hy => ?_
    simp only [List.length_append, List.length_cons] at hf hx hy ⊢
    have a1 := hA.right
    have hf1 := low_fol (t := wOr) (by decide)
    obtain ⟨g, hg, e⟩ := iha.eit k n f hA.left (by omega) (by omega) (Fol.of a1.hd.1 hf1.1 hf1.2) (by rw [a1.hd.1]; decide)
    obtain ⟨g, rfl⟩ : ∃ g', g = g' + 1 := ⟨g - 1, by omega⟩
    have ek : k + A.length + 1 + (brk (lowK b 1) 40 41 B).length = k + (A.length + ((brk (lowK b 1) 40 41 B).length + 1)) := by omega
    obtain ⟨g2, hg2, e2⟩ := ihb.botB (k + A.length + 1) n g a1.tl (by omega) (by omega) (by rw [ek]; exact hx)
    refine ⟨g, by omega, ?_⟩
    rw [e, orLoopQ, isQ_yes a1.hd.1, if_pos rfl, e2, ek, andLoop_end hy (by omega), PR.bind_ok]
end Go.Proofs.YtehbinobohjadaaGreatDoor
namespace Go.Proofs.YtehbinobohjadaaGreatDoor
open Go.RowKit Go.Extern.Stop Go.Stop Go.Extern

/-- Tokens from a place up to another. -/
def seg (L : List Tok) (k k' : Nat) : List ByteArray := (List.range' k (k' - k)).map fun i => (tokAt L i).text
theorem seg_cons {L : List Tok} {k k' : Nat} (h : k < k') : seg L k k' = (tokAt L k).text :: seg L (k + 1) k' := by
  unfold seg
  obtain ⟨d, hd⟩ : ∃ d, k' - k = d + 1 := ⟨k' - k - 1, by omega⟩
  rw [hd, List.range'_succ, show k' - (k + 1) = d by omega]
  rfl
theorem seg_self (L : List Tok) (k : Nat) : seg L k k = [] := by
  unfold seg
  rw [Nat.sub_self]
  rfl
theorem seg_one (L : List Tok) (k : Nat) : seg L k (k + 1) = [(tokAt L k).text] := by rw [seg_cons (by omega), seg_self]
theorem seg_app {L : List Tok} {k k1 k2 : Nat} (h : k ≤ k1) (h2 : k1 ≤ k2) : seg L k k2 = seg L k k1 ++ seg L k1 k2 := by
  unfold seg
  rw [← List.map_append]
  congr 1
  rw [show k2 - k = (k1 - k) + (k2 - k1) by omega, ← List.range'_append]
  rw [show k + 1 * (k1 - k) = k1 by omega]
/-- What is asked of the tokens. -/
structure TkOk (L : List Tok) : Prop where
  w : ∀ k, (tokAt L k).kind = .w → lowC (hd0 (tokAt L k).text) = true ∧ ∀ c, c ∈ (tokAt L k).text.data.toList → wordC c = true
  n : ∀ k, (tokAt L k).kind = .n → ∃ ds tl, NumO (tokAt L k).text ds tl
theorem nameQ_ok {L : List Tok} (hL : TkOk L) {k n k' n' : Nat} {x : ByteArray} (h : nameQ L k n = .ok x k' n') : x = (tokAt L k).text ∧ k' = k + 1 ∧ n' = n ∧ NameOk x := by
  unfold nameQ at h
  split at h
  · rename_i hc
    injection h with h1 h2 h3
    have ht := hc.1
    unfold nameTok at ht
    rw [Bool.and_eq_true, decide_eq_true_eq] at ht
    obtain ⟨h4, h5⟩ := hL.w k ht.1
    exact ⟨h1.symm, h2.symm, h3.symm, by rw [← h1]; exact ⟨h4, h5, place_none.1 ht.2, hc.2⟩⟩
  · cases h
theorem needQ_ok {L : List Tok} {s : ByteArray} {k n k' n' : Nat} {x : Unit} (h : needQ L s k n = .ok x k' n') : (tokAt L k).text = s ∧ k' = k + 1 ∧ n' = n := by
  unfold needQ at h
  split at h
  · rename_i hc
    injection h with h1 h2 h3
    exact ⟨isQ_iff.1 hc, h2.symm, h3.symm⟩
  · cases h
theorem enterQ_ok {L : List Tok} {k n k' n' : Nat} {x : ByteArray} (h : enterQ L k n = .ok x k' n') : x = (tokAt L k).text ∧ k' = k + 1 ∧ n' = n + 1 ∧ n ≠ 40 := by
  unfold enterQ at h
  split at h
  · cases h
  · rename_i hc
    injection h with h1 h2 h3
    exact ⟨h1.symm, h2.symm, h3.symm, hc⟩
theorem leaveQ_ok {L : List Tok} {s : ByteArray} {k n k' n' : Nat} {x : Unit} (h : leaveQ L s k n = .ok x k' n') : (tokAt L k).text = s ∧ k' = k + 1 ∧ n' = n - 1 := by
  unfold leaveQ at h
  obtain ⟨_, k1, n1, e1, hh⟩ := PR.bind_okE h; clear h; have h := hh; clear hh
  obtain ⟨h1, rfl, rfl⟩ := needQ_ok e1
  injection h with _ h2 h3
  exact ⟨h1, h2.symm, h3.symm⟩
theorem Le.one {a b : ByteArray} (hs : a.size ≤ b.size) (hf : wordC (hd0 a) = wordC (hd0 b)) (hl : lowC (hd0 a) = lowC (hd0 b)) : Le [a] [b] := by
  have c1 : costL [a] = a.size := rfl
  have c2 : costL [b] = b.size := rfl
  have f1 : fB [a] = fB [b] := by unfold fB; simp only [List.head?_cons, hf]
  have l1 : lB [a] = lB [b] := by unfold lB; simp only [List.getLast?_singleton, hl]
  exact ⟨by simp, by simp, by omega, by omega, by omega, by omega⟩
theorem NumO.le {t : ByteArray} {ds tl : List UInt8} (h : NumO t ds tl) : Le [numT (hunB t)] [t] :=
  Le.one (numT_short h) (by rw [num_word h.hd, num_word (numT_form _).hd]) (by rw [num_not_low h.hd, num_not_low (numT_form _).hd])
theorem numberQ_ok {L : List Tok} (hL : TkOk L) {k n k' n' x : Nat} (h : numberQ L k n = .ok x k' n') : k' = k + 1 ∧ n' = n ∧ x ≤ 1000000000000 ∧ Le [numT x] [(tokAt L k).text] := by
  unfold numberQ at h
  split at h
  · rename_i hc
    injection h with h1 h2 h3
    obtain ⟨ds, tl, hn⟩ := hL.n k hc.1
    refine ⟨h2.symm, h3.symm, by rw [← h1]; exact hc.2.2, ?_⟩
    rw [← h1]
    exact hn.le
  · cases h
theorem rateQ_ok {L : List Tok} (hL : TkOk L) {k n k' n' x : Nat} (h : rateQ L k n = .ok x k' n') : k' = k + 2 ∧ n' = n ∧ x ≤ 1000000 ∧ Le [numT x, sg 37] (seg L k (k + 2)) := by
  unfold rateQ at h
  obtain ⟨y, k1, n1, e1, hh⟩ := PR.bind_okE h; clear h; have h := hh; clear hh
  obtain ⟨rfl, rfl, _, hl⟩ := numberQ_ok hL e1
  obtain ⟨_, k2, n2, e2, hh⟩ := PR.bind_okE h; clear h; have h := hh; clear hh
  obtain ⟨ht, rfl, rfl⟩ := needQ_ok e2
  split at h
  · rename_i hb
    injection h with h1 h2 h3
    subst h1
    refine ⟨h2.symm, h3.symm, hb, ?_⟩
    rw [seg_cons (by omega), seg_one, ht]
    exact hl.app (Le.refl (P := [sg 37]) (by simp))
  · cases h
/-- A sum that was read, where one of a level may stand. -/
def SGo (L : List Tok) (lv k0 k n : Nat) (x : Nd) : Prop := k0 < k ∧ ∃ P m, SumO x P m ∧ n + (m + bN (lowS x lv)) ≤ 40 ∧ Le (brk (lowS x lv) 91 93 P) (seg L k0 k)
def CGo (L : List Tok) (lv k0 k n : Nat) (x : Nd) : Prop := k0 < k ∧ ∃ P m, CondO x P m ∧ n + (m + bN (lowK x lv)) ≤ 40 ∧ Le (brk (lowK x lv) 40 41 P) (seg L k0 k)
theorem lowS_mono {x : Nd} {lv lv' : Nat} (h : lv' ≤ lv) : lowS x lv' = true → lowS x lv = true := by unfold lowS; simp; omega
theorem lowK_mono {x : Nd} {lv lv' : Nat} (h : lv' ≤ lv) : lowK x lv' = true → lowK x lv = true := by unfold lowK; simp; omega
theorem bN_mono {a b : Bool} (h : a = true → b = true) : bN a ≤ bN b := by
  cases a <;> cases b <;> simp [bN] at h ⊢
theorem SGo.less {L : List Tok} {lv lv' k0 k n : Nat} {x : Nd} (h : SGo L lv k0 k n x) (hl : lv' ≤ lv) : SGo L lv' k0 k n x := by
  obtain ⟨hk, P, m, hp, hn, hle⟩ := h
  have := bN_mono (lowS_mono (x := x) hl)
  exact ⟨hk, P, m, hp, by omega, hle.less (lowS_mono hl) hp.ne (by decide) (by decide) (by decide) (by decide)⟩
theorem CGo.less {L : List Tok} {lv lv' k0 k n : Nat} {x : Nd} (h : CGo L lv k0 k n x) (hl : lv' ≤ lv) : CGo L lv' k0 k n x := by
  obtain ⟨hk, P, m, hp, hn, hle⟩ := h
  have := bN_mono (lowK_mono (x := x) hl)
  exact ⟨hk, P, m, hp, by omega, hle.less (lowK_mono hl) hp.ne (by decide) (by decide) (by decide) (by decide)⟩
theorem lowS_no {x : Nd} {lv : Nat} (h : lv ≤ lvS x.kind) : lowS x lv = false := by unfold lowS; simp; omega
theorem lowK_no {x : Nd} {lv : Nat} (h : lv ≤ lvC x.kind) : lowK x lv = false := by unfold lowK; simp; omega
theorem SGo.own {L : List Tok} {lv k0 k n m : Nat} {x : Nd} {P : List ByteArray} (hk : k0 < k) (hp : SumO x P m) (hl : lv ≤ lvS x.kind) (hn : n + m ≤ 40) (hle : Le P (seg L k0 k)) : SGo L lv k0 k n x := by
  refine ⟨hk, P, m, hp, ?_, ?_⟩
  · rw [lowS_no hl]; exact hn
  · rw [lowS_no hl]; exact hle
theorem CGo.own {L : List Tok} {lv k0 k n m : Nat} {x : Nd} {P : List ByteArray} (hk : k0 < k) (hp : CondO x P m) (hl : lv ≤ lvC x.kind) (hn : n + m ≤ 40) (hle : Le P (seg L k0 k)) : CGo L lv k0 k n x := by
  refine ⟨hk, P, m, hp, ?_, ?_⟩
  · rw [lowK_no hl]; exact hn
  · rw [lowK_no hl]; exact hle
theorem SGo.all {L : List Tok} {k0 k n : Nat} {x : Nd} (h : SGo L 0 k0 k n x) : ∃ P m, SumO x P m ∧ n + m ≤ 40 ∧ Le P (seg L k0 k) := by
  obtain ⟨hk, P, m, hp, hn, hle⟩ := h
  rw [lowS_no (Nat.zero_le _)] at hn hle
  exact ⟨P, m, hp, hn, hle⟩
theorem CGo.all {L : List Tok} {k0 k n : Nat} {x : Nd} (h : CGo L 0 k0 k n x) : ∃ P m, CondO x P m ∧ n + m ≤ 40 ∧ Le P (seg L k0 k) := by
  obtain ⟨hk, P, m, hp, hn, hle⟩ := h
  rw [lowK_no (Nat.zero_le _)] at hn hle
  exact ⟨P, m, hp, hn, hle⟩
theorem SGo.br {L : List Tok} {k k' n : Nat} {x : Nd} (h : SGo L 0 (k + 1) k' (n + 1) x) (h1 : (tokAt L k).text = sg 91) (h2 : (tokAt L k').text = sg 93) (lv : Nat) : SGo L lv k (k' + 1) n x := by
  obtain ⟨P, m, hp, hn, hle⟩ := h.all
  have hk := h.1
  refine ⟨by omega, P, m, hp, ?_, ?_⟩
  · cases lowS x lv <;> simp [bN] <;> omega
  · rw [seg_cons (by omega), seg_app (show k + 1 ≤ k' by omega) (by omega), seg_one, h1, h2]
    exact hle.brk _ (by decide) (by decide) (by decide) (by decide)
theorem CGo.br {L : List Tok} {k k' n : Nat} {x : Nd} (h : CGo L 0 (k + 1) k' (n + 1) x) (h1 : (tokAt L k).text = sg 40) (h2 : (tokAt L k').text = sg 41) (lv : Nat) : CGo L lv k (k' + 1) n x := by
  obtain ⟨P, m, hp, hn, hle⟩ := h.all
  have hk := h.1
  refine ⟨by omega, P, m, hp, ?_, ?_⟩
  · cases lowK x lv <;> simp [bN] <;> omega
  · rw [seg_cons (by omega), seg_app (show k + 1 ≤ k' by omega) (by omega), seg_one, h1, h2]
    exact hle.brk _ (by decide) (by decide) (by decide) (by decide)
theorem le_mid {P Q R S : List ByteArray} {t : ByteArray} (h : Le P Q) (k : Le R S) : Le (P ++ (t :: R)) (Q ++ (t :: S)) := h.app ((Le.refl (P := [t]) (by simp)).app k)
/-- What the rules read. -/
structure Prd (L : List Tok) (f : Nat) : Prop where
  ei : ∀ k n x k' n', n ≤ 40 → eitherQ L f k n = .ok x k' n' → n' = n ∧ CGo L 0 k k' n x
  orl : ∀ k0 x k n y k' n', n ≤ 40 → CGo L 0 k0 k n x → orLoopQ L f x k n = .ok y k' n' → n' = n ∧ CGo L 0 k0 k' n y
  bo : ∀ k n x k' n', n ≤ 40 → bothQ L f k n = .ok x k' n' → n' = n ∧ CGo L 1 k k' n x
  anl : ∀ k0 x k n y k' n', n ≤ 40 → CGo L 1 k0 k n x → andLoopQ L f x k n = .ok y k' n' → n' = n ∧ CGo L 1 k0 k' n y
  un : ∀ k n x k' n', n ≤ 40 → unlessQ L f k n = .ok x k' n' → n' = n ∧ CGo L 2 k k' n x
  te : ∀ k n x k' n', n ≤ 40 → testQ L f k n = .ok x k' n' → n' = n ∧ CGo L 3 k k' n x
  ot : ∀ k n x k' n', n ≤ 40 → ((tokAt L k).text = wSome ∨ (tokAt L k).text = wEvery) → othersQ L f k n = .ok x k' n' → n' = n ∧ CGo L 3 k k' n x
  co : ∀ k n x k' n', n ≤ 40 → compQ L f k n = .ok x k' n' → n' = n ∧ CGo L 3 k k' n x
  su : ∀ k n x k' n', n ≤ 40 → sumQ L f k n = .ok x k' n' → n' = n ∧ SGo L 0 k k' n x
  sul : ∀ k0 x k n y k' n', n ≤ 40 → SGo L 0 k0 k n x → sumLoopQ L f x k n = .ok y k' n' → n' = n ∧ SGo L 0 k0 k' n y
  pa : ∀ k n x k' n', n ≤ 40 → partQ L f k n = .ok x k' n' → n' = n ∧ SGo L 1 k k' n x
  pal : ∀ k0 x k n y k' n', n ≤ 40 → SGo L 1 k0 k n x → partLoopQ L f x k n = .ok y k' n' → n' = n ∧ SGo L 1 k0 k' n y
  fa : ∀ k n x k' n', n ≤ 40 → factorQ L f k n = .ok x k' n' → n' = n ∧ SGo L 2 k k' n x
  gr : ∀ k n x k' n', n ≤ 40 → ((tokAt L k).text = wMax ∨ (tokAt L k).text = wMin) → greatQ L f k n = .ok x k' n' → n' = n ∧ SGo L 2 k k' n x
theorem prd_zero (L : List Tok) : Prd L 0 := by
  constructor
  all_goals (intros; rename_i h; first | (rw [eitherQ] at h; cases h; done) | (rw [orLoopQ] at h; cases h; done) | (rw [bothQ] at h; cases h; done) | (rw [andLoopQ] at h; cases h; done) | (rw [unlessQ] at h; cases h; done) | (rw [testQ] at h; cases h; done) | (rw [othersQ] at h; cases h; done) | (rw [compQ] at h; cases h; done) | (rw [sumQ] at h; cases h; done) | (rw [sumLoopQ] at h; cases h; done) | (rw [partQ] at h; cases h; done) | (rw [partLoopQ] at h; cases h; done) | (rw [factorQ] at h; cases h; done) | (rw [greatQ] at h; cases h; done))
theorem order_mem2 {L : List Tok} {k : Nat} (h : (placeIn ordersW (tokAt L k).text).isSome = true) : (tokAt L k).text ∈ ordersW := place_mem.1 h
theorem lvC_three {k : ByteArray} (h0 : k ≠ wOr) (h1 : k ≠ wAnd) (h2 : k ≠ wNot) : lvC k = 3 := by rw [lvC_eq, if_neg h0, if_neg h1, if_neg h2]
theorem orders_lv {k : ByteArray} (h : k ∈ ordersW) : lvC k = 3 := lvC_three (fun e => (low_fol (t := wOr) (by decide)).1 (by rw [← e]; exact h)) (fun e => (low_fol (t := wAnd) (by decide)).1 (by rw [← e]; exact h)) (fun e => (low_fol (t := wNot) (by decide)).1 (by rw [← e]; exact h))
theorem prd_step {L : List Tok} (hL : TkOk L) {f : Nat} (ih : Prd L f) : Prd L (f + 1) := by
  constructor
  · intro k n x k' n' hn h
    rw [eitherQ] at h
    obtain ⟨y, k1, n1, e1, hh⟩ := PR.bind_okE h; clear h; have h := hh; clear hh
    obtain ⟨rfl, h1⟩ := ih.bo _ _ _ _ _ hn e1
    exact ih.orl _ _ _ _ _ _ _ hn (h1.less (by omega)) h
  · intro k0 x k n y k' n' hn hx h
    rw [orLoopQ] at h
    split at h
    · rename_i hi
      obtain ⟨z, k1, n1, e1, hh⟩ := PR.bind_okE h; clear h; have h := hh; clear hh
      obtain ⟨rfl, h1⟩ := ih.bo _ _ _ _ _ hn e1
      obtain ⟨P, m, hp, hm, hle⟩ := hx.all
      obtain ⟨hk1, Q, mq, hq, hmq, hleq⟩ := h1
      have hk := hx.1
      refine ih.orl k0 _ _ _ _ _ _ hn ?_ h
      refine CGo.own (by omega) (CondO.or hp hq) (Nat.zero_le _) (by omega) ?_
      rw [seg_app (show k0 ≤ k by omega) (show k ≤ k1 by omega), seg_cons (show k < k1 by omega), isQ_iff.1 hi]
      exact le_mid hle hleq
    · injection h with h1 h2 h3
      subst h1; subst h2; subst h3
      exact ⟨rfl, hx⟩
  · intro k n x k' n' hn h
    rw [bothQ] at h
    obtain ⟨y, k1, n1, e1, hh⟩ := PR.bind_okE h; clear h; have h := hh; clear hh
    obtain ⟨rfl, h1⟩ := ih.un _ _ _ _ _ hn e1
    exact ih.anl _ _ _ _ _ _ _ hn (h1.less (by omega)) h
  · intro k0 x k n y k' n' hn hx h
    rw [andLoopQ] at h
    split at h
    · rename_i hi
      obtain ⟨z, k1, n1, e1, hh⟩ := PR.bind_okE h; clear h; have h := hh; clear hh
      obtain ⟨rfl, h1⟩ := ih.un _ _ _ _ _ hn e1
      obtain ⟨hk, P, m, hp, hm, hle⟩ := hx
      obtain ⟨hk1, Q, mq, hq, hmq, hleq⟩ := h1
      refine ih.anl k0 _ _ _ _ _ _ hn ?_ h
      refine CGo.own (by omega) (CondO.and hp hq) (by show 1 ≤ lvC wAnd; rw [lvC_eq, if_neg (by decide), if_pos rfl]; omega) (by omega) ?_
      rw [seg_app (show k0 ≤ k by omega) (show k ≤ k1 by omega), seg_cons (show k < k1 by omega), isQ_iff.1 hi]
      exact le_mid hle hleq
    · injection h with h1 h2 h3
      subst h1; subst h2; subst h3
      exact ⟨rfl, hx⟩
  · intro k n x k' n' hn h
    rw [unlessQ] at h
    split at h
    · rename_i hi
      obtain ⟨_, k1, n1, e1, hh⟩ := PR.bind_okE h; clear h; have h := hh; clear hh
      obtain ⟨_, rfl, rfl, h40⟩ := enterQ_ok e1
      obtain ⟨z, k2, n2, e2, hh⟩ := PR.bind_okE h; clear h; have h := hh; clear hh
      obtain ⟨rfl, hk1, Q, mq, hq, hmq, hleq⟩ := ih.un _ _ _ _ _ (by omega) e2
      injection h with h1 h2 h3
      subst h1; subst h2
      refine ⟨by omega, ?_⟩
      refine CGo.own (by omega) (CondO.not hq) (by show 2 ≤ lvC wNot; rw [lvC_eq, if_neg (by decide), if_neg (by decide), if_pos rfl]; omega) (by omega) ?_
      rw [seg_cons (show k < k2 by omega), isQ_iff.1 hi]
      exact (Le.refl (P := [wNot]) (by simp)).app hleq
    · obtain ⟨e, h1⟩ := ih.te _ _ _ _ _ hn h
      exact ⟨e, h1.less (by omega)⟩
  · intro k n x k' n' hn h
    rw [testQ] at h
    split at h
    · rename_i hi
      obtain ⟨_, k1, n1, e1, hh⟩ := PR.bind_okE h; clear h; have h := hh; clear hh
      obtain ⟨_, rfl, rfl, h40⟩ := enterQ_ok e1
      obtain ⟨z, k2, n2, e2, hh⟩ := PR.bind_okE h; clear h; have h := hh; clear hh
      obtain ⟨rfl, h2⟩ := ih.ei _ _ _ _ _ (by omega) e2
      obtain ⟨_, k3, n3, e3, hh⟩ := PR.bind_okE h; clear h; have h := hh; clear hh
      obtain ⟨ht, rfl, rfl⟩ := leaveQ_ok e3
      injection h with h1 h2 h3
      subst h1; subst h2
      exact ⟨by omega, CGo.br h2 (isQ_iff.1 hi) ht 3⟩
    · split at h
      · rename_i hi
        exact ih.ot _ _ _ _ _ hn (hi.imp isQ_iff.1 isQ_iff.1) h
      · split at h
        · obtain ⟨w, k1, n1, e1, hh⟩ := PR.bind_okE h; clear h; have h := hh; clear hh
          obtain ⟨hw, rfl, rfl, ho⟩ := nameQ_ok hL e1
          injection h with h1 h2 h3
          subst h1; subst h2; subst h3
          refine ⟨rfl, CGo.own (by omega) (CondO.name w ho) (by show 3 ≤ lvC wName; rw [lvC_three (by decide) (by decide) (by decide)]; omega) (by omega) ?_⟩
          rw [seg_one, ← hw]
          exact Le.refl (by simp)
        · exact ih.co _ _ _ _ _ hn h
  · intro k n x k' n' hn ht h
    rw [othersQ] at h
    obtain ⟨d, k1, n1, e1, hh⟩ := PR.bind_okE h; clear h; have h := hh; clear hh
    obtain ⟨hd, rfl, rfl, h40⟩ := enterQ_ok e1
    obtain ⟨w, k2, n2, e2, hh⟩ := PR.bind_okE h; clear h; have h := hh; clear hh
    obtain ⟨hw, rfl, rfl, ho⟩ := nameQ_ok hL e2
    obtain ⟨_, k3, n3, e3, hh⟩ := PR.bind_okE h; clear h; have h := hh; clear hh
    obtain ⟨h40t, rfl, rfl⟩ := needQ_ok e3
    obtain ⟨z, k4, n4, e4, hh⟩ := PR.bind_okE h; clear h; have h := hh; clear hh
    obtain ⟨rfl, hz⟩ := ih.ei _ _ _ _ _ (by omega) e4
    obtain ⟨_, k5, n5, e5, hh⟩ := PR.bind_okE h; clear h; have h := hh; clear hh
    obtain ⟨h41t, rfl, rfl⟩ := leaveQ_ok e5
    injection h with h1 h2 h3
    subst h1; subst h2
    obtain ⟨P, m, hp, hm, hle⟩ := hz.all
    have hk := hz.1
    rw [← hd] at ht
    refine ⟨by omega, CGo.own (by omega) (CondO.of d w ht ho hp) (by show 3 ≤ lvC d; rcases ht with e | e <;> (rw [e, lvC_three (by decide) (by decide) (by decide)]; omega)) (by omega) ?_⟩
    rw [seg_cons (show k < k4 + 1 by omega), seg_cons (show k + 1 < k4 + 1 by omega), seg_cons (show k + 1 + 1 < k4 + 1 by omega), seg_app (show k + 1 + 1 + 1 ≤ k4 by omega) (by omega), seg_one, ← hd, ← hw, h40t, h41t]
    exact (Le.refl (P := [d, w, sg 40]) (by simp)).app (hle.app (Le.refl (by simp)))
  · intro k n x k' n' hn h
    rw [compQ] at h
    obtain ⟨a, k1, n1, e1, hh⟩ := PR.bind_okE h; clear h; have h := hh; clear hh
    obtain ⟨rfl, ha⟩ := ih.su _ _ _ _ _ hn e1
    split at h
    · rename_i ho
      obtain ⟨b, k2, n2, e2, hh⟩ := PR.bind_okE h; clear h; have h := hh; clear hh
      obtain ⟨rfl, hb⟩ := ih.su _ _ _ _ _ hn e2
      injection h with h1 h2 h3
      subst h1; subst h2; subst h3
      obtain ⟨P, m, hp, hm, hle⟩ := ha.all
      obtain ⟨Q, mq, hq, hmq, hleq⟩ := hb.all
      have hk := ha.1
      have hk2 := hb.1
      refine ⟨rfl, CGo.own (by omega) (CondO.cmp _ (order_mem2 ho) hp hq) (by show 3 ≤ lvC (tokAt L k1).text; rw [orders_lv (order_mem2 ho)]; omega) (by omega) ?_⟩
      rw [seg_app (show k ≤ k1 by omega) (show k1 ≤ k2 by omega), seg_cons (show k1 < k2 by omega)]
      exact le_mid hle hleq
    · cases h
  · intro k n x k' n' hn h
    rw [sumQ] at h
    obtain ⟨y, k1, n1, e1, hh⟩ := PR.bind_okE h; clear h; have h := hh; clear hh
    obtain ⟨rfl, h1⟩ := ih.pa _ _ _ _ _ hn e1
    exact ih.sul _ _ _ _ _ _ _ hn (h1.less (by omega)) h
  · intro k0 x k n y k' n' hn hx h
    rw [sumLoopQ] at h
    split at h
    · rename_i hi
      obtain ⟨z, k1, n1, e1, hh⟩ := PR.bind_okE h; clear h; have h := hh; clear hh
      obtain ⟨rfl, h1⟩ := ih.pa _ _ _ _ _ hn e1
      obtain ⟨P, m, hp, hm, hle⟩ := hx.all
      obtain ⟨hk1, Q, mq, hq, hmq, hleq⟩ := h1
      have hk := hx.1
      refine ih.sul k0 _ _ _ _ _ _ hn ?_ h
      refine SGo.own (by omega) (SumO.add _ (hi.imp isQ_iff.1 isQ_iff.1) hp hq) (Nat.zero_le _) (by omega) ?_
      rw [seg_app (show k0 ≤ k by omega) (show k ≤ k1 by omega), seg_cons (show k < k1 by omega)]
      exact le_mid hle hleq
    · injection h with h1 h2 h3
      subst h1; subst h2; subst h3
      exact ⟨rfl, hx⟩
  · intro k n x k' n' hn h
    rw [partQ] at h
    obtain ⟨y, k1, n1, e1, hh⟩ := PR.bind_okE h; clear h; have h := hh; clear hh
    obtain ⟨rfl, h1⟩ := ih.fa _ _ _ _ _ hn e1
    exact ih.pal _ _ _ _ _ _ _ hn (h1.less (by omega)) h
  · intro k0 x k n y k' n' hn hx h
    rw [partLoopQ] at h
    split at h
    · rename_i hi
      obtain ⟨r, k1, n1, e1, hh⟩ := PR.bind_okE h; clear h; have h := hh; clear hh
      obtain ⟨rfl, rfl, hr, hler⟩ := rateQ_ok hL e1
      obtain ⟨hk, P, m, hp, hm, hle⟩ := hx
      refine ih.pal k0 _ _ _ _ _ _ hn ?_ h
      refine SGo.own (by omega) (SumO.mul r hr hp) (by show 1 ≤ lvS (sg 42); rw [lvS_eq, if_neg (by rintro (h | h) <;> exact absurd h (by decide)), if_pos rfl]; omega) (by omega) ?_
      rw [seg_app (show k0 ≤ k by omega) (show k ≤ k + 1 + 2 by omega), seg_cons (show k < k + 1 + 2 by omega), isQ_iff.1 hi]
      exact le_mid hle hler
    · injection h with h1 h2 h3
      subst h1; subst h2; subst h3
      exact ⟨rfl, hx⟩
  · intro k n x k' n' hn h
    rw [factorQ] at h
    split at h
    · obtain ⟨v, k1, n1, e1, hh⟩ := PR.bind_okE h; clear h; have h := hh; clear hh
      obtain ⟨rfl, rfl, hv, hle⟩ := numberQ_ok hL e1
      injection h with h1 h2 h3
      subst h1; subst h2; subst h3
      refine ⟨rfl, SGo.own (by omega) (SumO.num v hv) (by show 2 ≤ lvS wNumber; rw [lvS_two (by decide) (by decide) (by decide)]; omega) (by omega) ?_⟩
      rw [seg_one]
      exact hle
    · split at h
      · rename_i hi
        obtain ⟨w, k1, n1, e1, hh⟩ := PR.bind_okE h; clear h; have h := hh; clear hh
        obtain ⟨hw, rfl, rfl, ho⟩ := nameQ_ok hL e1
        injection h with h1 h2 h3
        subst h1; subst h2; subst h3
        refine ⟨rfl, SGo.own (by omega) (SumO.count w ho) (by show 2 ≤ lvS wCount; rw [lvS_two (by decide) (by decide) (by decide)]; omega) (by omega) ?_⟩
        rw [seg_cons (by omega), seg_one, ← hw, isQ_iff.1 hi]
        exact Le.refl (by simp)
      · split at h
        · rename_i hi
          unfold totalQ at h
          obtain ⟨w, k1, n1, e1, hh⟩ := PR.bind_okE h; clear h; have h := hh; clear hh
          obtain ⟨hw, rfl, rfl, ho⟩ := nameQ_ok hL e1
          obtain ⟨_, k2, n2, e2, hh⟩ := PR.bind_okE h; clear h; have h := hh; clear hh
          obtain ⟨hof, rfl, rfl⟩ := needQ_ok e2
          obtain ⟨o, k3, n3, e3, hh⟩ := PR.bind_okE h; clear h; have h := hh; clear hh
          obtain ⟨hw2, rfl, rfl, ho2⟩ := nameQ_ok hL e3
          injection h with h1 h2 h3
          subst h1; subst h2; subst h3
          refine ⟨rfl, SGo.own (by omega) (SumO.total w o ho ho2) (by show 2 ≤ lvS wTotal; rw [lvS_two (by decide) (by decide) (by decide)]; omega) (by omega) ?_⟩
          rw [seg_cons (by omega), seg_cons (by omega), seg_cons (by omega), seg_one, ← hw, ← hw2, hof, isQ_iff.1 hi]
          exact Le.refl (by simp)
        · split at h
          · rename_i hi
            exact ih.gr _ _ _ _ _ hn (hi.imp isQ_iff.1 isQ_iff.1) h
          · split at h
            · rename_i hi
              obtain ⟨_, k1, n1, e1, hh⟩ := PR.bind_okE h; clear h; have h := hh; clear hh
              obtain ⟨_, rfl, rfl, h40⟩ := enterQ_ok e1
              obtain ⟨z, k2, n2, e2, hh⟩ := PR.bind_okE h; clear h; have h := hh; clear hh
              obtain ⟨rfl, h2⟩ := ih.su _ _ _ _ _ (by omega) e2
              obtain ⟨_, k3, n3, e3, hh⟩ := PR.bind_okE h; clear h; have h := hh; clear hh
              obtain ⟨ht, rfl, rfl⟩ := leaveQ_ok e3
              injection h with h1 h2 h3
              subst h1; subst h2
              exact ⟨by omega, SGo.br h2 (isQ_iff.1 hi) ht 2⟩
            · obtain ⟨w, k1, n1, e1, hh⟩ := PR.bind_okE h; clear h; have h := hh; clear hh
              obtain ⟨hw, rfl, rfl, ho⟩ := nameQ_ok hL e1
              injection h with h1 h2 h3
              subst h1; subst h2; subst h3
              refine ⟨rfl, SGo.own (by omega) (SumO.name w ho) (by show 2 ≤ lvS wName; rw [lvS_two (by decide) (by decide) (by decide)]; omega) (by omega) ?_⟩
              rw [seg_one, ← hw]
              exact Le.refl (by simp)
  · intro k n x k' n' hn ht h
    rw [greatQ] at h
    obtain ⟨d, k1, n1, e1, hh⟩ := PR.bind_okE h; clear h; have h := hh; clear hh
    obtain ⟨hd, rfl, rfl, h40⟩ := enterQ_ok e1
    obtain ⟨_, k2, n2, e2, hh⟩ := PR.bind_okE h; clear h; have h := hh; clear hh
    obtain ⟨h40t, rfl, rfl⟩ := needQ_ok e2
    obtain ⟨a, k3, n3, e3, hh⟩ := PR.bind_okE h; clear h; have h := hh; clear hh
    obtain ⟨rfl, ha⟩ := ih.su _ _ _ _ _ (by omega) e3
    obtain ⟨_, k4, n4, e4, hh⟩ := PR.bind_okE h; clear h; have h := hh; clear hh
    obtain ⟨h44t, rfl, rfl⟩ := needQ_ok e4
    obtain ⟨b, k5, n5, e5, hh⟩ := PR.bind_okE h; clear h; have h := hh; clear hh
    obtain ⟨rfl, hb⟩ := ih.su _ _ _ _ _ (by omega) e5
    obtain ⟨_, k6, n6, e6, hh⟩ := PR.bind_okE h; clear h; have h := hh; clear hh
    obtain ⟨h41t, rfl, rfl⟩ := leaveQ_ok e6
    injection h with h1 h2 h3
    subst h1; subst h2
    obtain ⟨P, m, hp, hm, hle⟩ := ha.all
    obtain ⟨Q, mq, hq, hmq, hleq⟩ := hb.all
    have hk := ha.1
    have hk2 := hb.1
    rw [← hd] at ht
    refine ⟨by omega, SGo.own (by omega) (SumO.great d ht hp hq) (by show 2 ≤ lvS d; rcases ht with e | e <;> (rw [e, lvS_two (by decide) (by decide) (by decide)]; omega)) (by omega) ?_⟩
    rw [seg_cons (show k < k5 + 1 by omega), seg_cons (show k + 1 < k5 + 1 by omega), seg_app (show k + 1 + 1 ≤ k3 by omega) (show k3 ≤ k5 + 1 by omega), seg_cons (show k3 < k5 + 1 by omega), seg_app (show k3 + 1 ≤ k5 by omega) (by omega), seg_one, ← hd, h40t, h44t, h41t]
    exact (Le.refl (P := [d, sg 40]) (by simp)).app (le_mid hle (hleq.app (Le.refl (by simp))))
theorem prd {L : List Tok} (hL : TkOk L) : ∀ f, Prd L f
  | 0 => prd_zero L
  | f + 1 => prd_step hL (prd hL f)
end Go.Proofs.YtehbinobohjadaaGreatDoor
namespace Go.Proofs.YtehbinobohjadaaGreatDoor
open Go.RowKit Go.Extern.Stop Go.Stop Go.Extern

mutual
/-- A node as the writer has it. -/
def toT : Nd → Tn
  | .mk k w n ks => .mk k w n (toTs ks)
def toTs : List Nd → List Tn
  | [] => []
  | x :: l => toT x :: toTs l
end
def totB : List ByteArray → Nat
  | [] => 0
  | a :: l => a.size + totB l
theorem totB_app : ∀ (P Q : List ByteArray), totB (P ++ Q) = totB P + totB Q
  | [], Q => by show totB Q = 0 + _; omega
  | a :: P, Q => by
    show a.size + totB (P ++ Q) = a.size + totB P + totB Q
    rw [totB_app P Q]
    omega
theorem totB_cost : ∀ (P : List ByteArray), totB P ≤ costL P
  | [] => Nat.le_refl _
  | a :: P => by
    have := totB_cost P
    show a.size + totB P ≤ a.size + gapN a P + costL P
    omega
theorem len_tot : ∀ {P : List ByteArray}, (∀ t, t ∈ P → 0 < t.size) → P.length ≤ totB P
  | [], _ => Nat.le_refl _
  | a :: P, h => by
    have h1 := h a (by simp)
    have h2 := len_tot (P := P) fun t ht => h t (by simp [ht])
    show P.length + 1 ≤ a.size + totB P
    omega
/-- So much more is written. -/
def adv (s : WS) (P : List ByteArray) : WS := ⟨s.ts ++ P, s.z + totB P, s.d⟩
theorem adv_adv (s : WS) (P Q : List ByteArray) : adv (adv s P) Q = adv s (P ++ Q) := by
  unfold adv
  simp only [List.append_assoc, totB_app, Nat.add_assoc]
theorem putR_yes {s : WS} {x : ByteArray} (h : 0 < x.size) (hz : s.z + x.size ≤ 300) : putR s x = some (adv s [x]) := by
  unfold putR
  rw [if_neg (by omega)]
  rfl
theorem putR_sg {s : WS} (c : UInt8) (hz : s.z + 1 ≤ 300) : putR s (sg c) = some (adv s [sg c]) := putR_yes (show 0 < 1 by omega) hz
theorem facG_mk (k w : ByteArray) (n : Int) (ks : List Tn) (s : WS) : facG (.mk k w n ks) s =
  if eqB k wNumber = true then putR s (numT n)
  else if eqB k wName = true then putR s w
  else if eqB k wCount = true then putsR s [wCount, w]
  else if eqB k wTotal = true then (match ks with
    | a :: _ => putsR s [wTotal, w, wOf, a.word]
    | _ => none)
  else if eqB k wMax = true ∨ eqB k wMin = true then (match ks with
    | a :: b :: _ => (putsR s [k, sg 40]).bind fun s => (sumR a 0 s).bind fun s => (putR s (sg 44)).bind fun s => (sumR b 0 s).bind fun s => putR s (sg 41)
    | _ => none)
  else none := rfl
theorem cmpG_mk (k w : ByteArray) (n : Int) (ks : List Tn) (s : WS) : cmpG (.mk k w n ks) s = if (placeIn ordersW k).isSome = true then (match ks with
    | a :: b :: _ => (sumR a 0 s).bind fun s => (putR s k).bind fun s => sumR b 0 s
    | _ => none) else none := rfl
theorem putsR_yes : ∀ {P : List ByteArray} {s : WS}, (∀ t, t ∈ P → 0 < t.size) → s.z + totB P ≤ 300 → putsR s P = some (adv s P)
  | [], s, _, _ => by
    show some s = _
    unfold adv
    simp [totB]
  | x :: P, s, h, hz => by
    have hz2 : s.z + (x.size + totB P) ≤ 300 := hz
    rw [putsR, putR_yes (h x (by simp)) (by omega)]
    show putsR (adv s [x]) P = _
    have e : (adv s [x]).z = s.z + (x.size + 0) := rfl
    rw [putsR_yes (fun t ht => h t (by simp [ht])) (by omega), adv_adv]
    rfl
/-- A token's text. -/
inductive TxOk : ByteArray → Prop
  | w (t : ByteArray) (h : lowC (hd0 t) = true) (ha : ∀ c, c ∈ t.data.toList → wordC c = true) : TxOk t
  | n (t : ByteArray) (ds tl : List UInt8) (h : NumO t ds tl) : TxOk t
  | s (c : UInt8) (h : c ∈ signsL) : TxOk (sg c)
  | o (t : ByteArray) (h : t = sg2 60 61 ∨ t = sg2 60 62 ∨ t = sg2 62 61) : TxOk t
def isOrd (t : ByteArray) : Prop := hd0 t = 60 ∨ hd0 t = 61 ∨ hd0 t = 62
/-- These may stand beside one another. -/
def pairOk (a b : ByteArray) : Prop := ¬ (kdOf a = .n ∧ kdOf b = .n) ∧ ¬ (isOrd a ∧ isOrd b)
def Adj : List ByteArray → Prop
  | [] => True
  | a :: l => (∀ b, l.head? = some b → pairOk a b) ∧ Adj l
theorem Adj.app : ∀ {A B : List ByteArray}, Adj A → Adj B → (∀ a b, A.getLast? = some a → B.head? = some b → pairOk a b) → Adj (A ++ B)
  | [], B, _, hb, _ => hb
  | a :: A, B, ha, hb, h => by
    refine ⟨?_, Adj.app ha.2 hb fun x y hx hy => h x y ?_ hy⟩
    · cases A with
      | nil => exact fun b hb2 => h a b rfl hb2
      | cons c A => exact ha.1
    · cases A with
      | nil => cases hx
      | cons c A => rw [List.getLast?_cons_cons]; exact hx
theorem hd_pos {t : ByteArray} (h : hd0 t ≠ 0) : 0 < t.size := by
  rw [← bl_len]
  unfold hd0 at h
  cases e : t.data.toList with
  | nil => rw [e] at h; exact absurd rfl h
  | cons a l => simp
theorem low_pos {t : ByteArray} (h : lowC (hd0 t) = true) : 0 < t.size := hd_pos fun e => by rw [e] at h; exact absurd h (by decide)
theorem num_pos {t : ByteArray} (h : numC (hd0 t) = true) : 0 < t.size := hd_pos fun e => by rw [e] at h; exact absurd h (by decide)
theorem TxOk.pos {t : ByteArray} (h : TxOk t) : 0 < t.size := by
  cases h with
  | w _ h _ => exact low_pos h
  | n _ ds tl h => exact num_pos h.hd
  | s c h => show 0 < 1; omega
  | o _ h => rcases h with rfl | rfl | rfl <;> (show 0 < 2; omega)
/-- A printed piece: its tokens are such, stand beside one another so; it begins and ends with no order. -/
structure Pz (P : List ByteArray) : Prop where
  tx : ∀ t, t ∈ P → TxOk t
  adj : Adj P
  hd : ∀ t, P.head? = some t → ¬ isOrd t
  la : ∀ t, P.getLast? = some t → ¬ isOrd t
/-- What may stand beside anything. -/
structure Mid (t : ByteArray) : Prop where
  n : kdOf t ≠ .n
  o : ¬ isOrd t
  tx : TxOk t
theorem Pz.nil : Pz [] := ⟨fun t h => (by cases h), True.intro, fun t h => (by cases h), fun t h => (by cases h)⟩
theorem Pz.one {t : ByteArray} (h : TxOk t) (ho : ¬ isOrd t) : Pz [t] := by
  refine ⟨fun u hu => ?_, ⟨fun b hb => (by cases hb), True.intro⟩, fun u hu => ?_, fun u hu => ?_⟩
  · rw [List.mem_singleton.1 hu]; exact h
  · injection hu with hu; rw [← hu]; exact ho
  · injection hu with hu; rw [← hu]; exact ho
theorem Pz.cons {t : ByteArray} {A : List ByteArray} (h : Mid t) (ha : Pz A) : Pz (t :: A) := by
  refine ⟨fun u hu => ?_, ⟨fun b hb => ⟨fun e => h.n e.1, fun e => h.o e.1⟩, ha.adj⟩, fun u hu => ?_, fun u hu => ?_⟩
  · rcases List.mem_cons.1 hu with rfl | hu
    · exact h.tx
    · exact ha.tx _ hu
  · injection hu with hu; rw [← hu]; exact h.o
  · cases A with
    | nil => injection hu with hu; rw [← hu]; exact h.o
    | cons c A => rw [List.getLast?_cons_cons] at hu; exact ha.la u hu
theorem Pz.mid {t : ByteArray} {A B : List ByteArray} (ha : Pz A) (h : Mid t) (hb : Pz B) : Pz (A ++ t :: B) := by
  have hc := Pz.cons h hb
  refine ⟨fun u hu => ?_, Adj.app ha.adj hc.adj fun a b _ hb2 => ?_, fun u hu => ?_, fun u hu => ?_⟩
  · rcases List.mem_append.1 hu with hu | hu
    · exact ha.tx _ hu
    · exact hc.tx _ hu
  · injection hb2 with hb2
    rw [← hb2]
    exact ⟨fun e => h.n e.2, fun e => h.o e.2⟩
  · cases A with
    | nil => exact hc.hd u hu
    | cons c A => exact ha.hd u hu
  · rw [List.getLast?_append] at hu
    cases e : (t :: B).getLast? with
    | none => exact absurd (List.getLast?_eq_none_iff.1 e) (by simp)
    | some v => rw [e] at hu; injection hu with hu; rw [← hu]; exact hc.la v e
theorem Pz.ord {t : ByteArray} {A B : List ByteArray} (ha : Pz A) (h : TxOk t) (hk : kdOf t ≠ .n) (hb : Pz B) (hae : A ≠ []) (hbe : B ≠ []) : Pz (A ++ t :: B) := by
  refine ⟨fun u hu => ?_, Adj.app ha.adj ⟨fun b hb2 => ?_, hb.adj⟩ fun a b ha2 hb2 => ?_, fun u hu => ?_, fun u hu => ?_⟩
  · rcases List.mem_append.1 hu with hu | hu
    · exact ha.tx _ hu
    · rcases List.mem_cons.1 hu with rfl | hu
      · exact h
      · exact hb.tx _ hu
  · exact ⟨fun e => hk e.1, fun e => hb.hd b hb2 e.2⟩
  · injection hb2 with hb2
    rw [← hb2]
    exact ⟨fun e => hk e.2, fun e => ha.la a ha2 e.1⟩
  · cases A with
    | nil => exact absurd rfl hae
    | cons c A => exact ha.hd u hu
  · cases B with
    | nil => exact absurd rfl hbe
    | cons c B =>
      rw [List.getLast?_append, List.getLast?_cons_cons] at hu
      cases e : (c :: B).getLast? with
      | none => exact absurd (List.getLast?_eq_none_iff.1 e) (by simp)
      | some v => rw [e] at hu; injection hu with hu; rw [← hu]; exact hb.la v e
theorem Pz.snoc {t : ByteArray} {A : List ByteArray} (ha : Pz A) (h : Mid t) : Pz (A ++ [t]) := ha.mid h Pz.nil
theorem low_ord {t : ByteArray} (h : lowC (hd0 t) = true) : ¬ isOrd t := by
  rintro (e | e | e) <;> (rw [e] at h; exact absurd h (by decide))
theorem num_ord {t : ByteArray} (h : numC (hd0 t) = true) : ¬ isOrd t := by
  rintro (e | e | e) <;> (rw [e] at h; exact absurd h (by decide))
theorem low_kd {t : ByteArray} (h : lowC (hd0 t) = true) : kdOf t = .w := by unfold kdOf; rw [h, if_pos rfl]
theorem mid_word {t : ByteArray} (h : lowC (hd0 t) = true) (ha : ∀ c, c ∈ t.data.toList → wordC c = true) : Mid t := ⟨by rw [low_kd h]; decide, low_ord h, .w t h ha⟩
theorem NameOk.mid {w : ByteArray} (h : NameOk w) : Mid w := mid_word h.lo h.all
theorem mid_gram {w : ByteArray} (h : w ∈ gramW) : Mid w := by
  simp only [gramW, List.mem_cons, List.not_mem_nil, or_false] at h
  rcases h with rfl | rfl | rfl | rfl | rfl | rfl | rfl | rfl | rfl | rfl | rfl | rfl | rfl | rfl | rfl | rfl | rfl | rfl | rfl | rfl | rfl | rfl | rfl | rfl | rfl | rfl | rfl | rfl | rfl | rfl | rfl | rfl | rfl | rfl <;> exact mid_word (by decide) (by decide)
theorem mid_sg {c : UInt8} (h : c ∈ signsL) (h0 : c ≠ 60) (h1 : c ≠ 61) (h2 : c ≠ 62) (hn : numC c = false) : Mid (sg c) := by
  have e : hd0 (sg c) = c := rfl
  refine ⟨?_, ?_, .s c h⟩
  · unfold kdOf
    rw [e, hn]
    split <;> decide
  · rintro (h | h | h)
    · exact h0 h
    · exact h1 h
    · exact h2 h
theorem pz_num (n : Nat) : Pz [numT n] := Pz.one (.n _ _ _ (numT_form n)) (num_ord (numT_form n).hd)
theorem Pz.brk {A : List ByteArray} (h : Pz A) (b : Bool) {l r : UInt8} (hl : Mid (sg l)) (hr : Mid (sg r)) : Pz (brk b l r A) := by
  cases b
  · exact h
  · exact Pz.cons hl (h.snoc hr)
theorem m40 : Mid (sg 40) := mid_sg (by decide) (by decide) (by decide) (by decide) (by decide)
theorem m41 : Mid (sg 41) := mid_sg (by decide) (by decide) (by decide) (by decide) (by decide)
theorem m91 : Mid (sg 91) := mid_sg (by decide) (by decide) (by decide) (by decide) (by decide)
theorem m93 : Mid (sg 93) := mid_sg (by decide) (by decide) (by decide) (by decide) (by decide)
theorem m44 : Mid (sg 44) := mid_sg (by decide) (by decide) (by decide) (by decide) (by decide)
theorem m58 : Mid (sg 58) := mid_sg (by decide) (by decide) (by decide) (by decide) (by decide)
theorem m59 : Mid (sg 59) := mid_sg (by decide) (by decide) (by decide) (by decide) (by decide)
theorem m37 : Mid (sg 37) := mid_sg (by decide) (by decide) (by decide) (by decide) (by decide)
theorem m42 : Mid (sg 42) := mid_sg (by decide) (by decide) (by decide) (by decide) (by decide)
theorem m43 : Mid (sg 43) := mid_sg (by decide) (by decide) (by decide) (by decide) (by decide)
theorem m45 : Mid (sg 45) := mid_sg (by decide) (by decide) (by decide) (by decide) (by decide)
theorem SumO.pz {x : Nd} {P : List ByteArray} {m : Nat} (h : SumO x P m) : Pz P := by
  induction h with
  | num v h => exact pz_num v
  | name w h => exact Pz.cons h.mid Pz.nil
  | count w h => exact Pz.cons (mid_gram (by simp [gramW])) (Pz.cons h.mid Pz.nil)
  | total w o h h2 => exact Pz.cons (mid_gram (by simp [gramW])) (Pz.cons h.mid (Pz.cons (mid_gram (by simp [gramW])) (Pz.cons h2.mid Pz.nil)))
  | @great t hk a b A B ma mb ha hb iha ihb =>
    have : Mid t := by rcases hk with rfl | rfl <;> exact mid_gram (by simp [gramW])
    exact Pz.cons this (Pz.cons m40 (iha.mid m44 (ihb.snoc m41)))
  | @mul r hr a A ma ha iha => exact (iha.brk _ m91 m93).mid m42 ((pz_num r).snoc m37)
  | @add t hk a b A B ma mb ha hb iha ihb =>
    have : Mid t := by
      rcases hk with rfl | rfl
      · exact m43
      · exact m45
    exact iha.mid this (ihb.brk _ m91 m93)
theorem orders_tx {k : ByteArray} (h : k ∈ ordersW) : TxOk k := by
  simp only [ordersW, List.mem_cons, List.not_mem_nil, or_false] at h
  rcases h with rfl | rfl | rfl | rfl | rfl | rfl
  · exact .s _ (by decide)
  · exact .o _ (.inl rfl)
  · exact .s _ (by decide)
  · exact .o _ (.inr (.inl rfl))
  · exact .o _ (.inr (.inr rfl))
  · exact .s _ (by decide)
theorem CondO.pz {x : Nd} {P : List ByteArray} {m : Nat} (h : CondO x P m) : Pz P := by
  induction h with
  | name w h => exact Pz.cons h.mid Pz.nil
  | @cmp t hk a b A B ma mb ha hb =>
    have hs := orders_sg hk
    exact ha.pz.ord (orders_tx hk) (by unfold kdOf; rw [hs.1, hs.2.1]; decide) hb.pz ha.ne hb.ne
  | @of t w hk h a A ma ha iha =>
    have : Mid t := by rcases hk with rfl | rfl <;> exact mid_gram (by simp [gramW])
    exact Pz.cons this (Pz.cons h.mid (Pz.cons m40 (iha.snoc m41)))
  | @not a A ma ha iha => exact Pz.cons (mid_gram (by simp [gramW])) (iha.brk _ m40 m41)
  | @and a b A B ma mb ha hb iha ihb => exact (iha.brk _ m40 m41).mid (mid_gram (by simp [gramW])) (ihb.brk _ m40 m41)
  | @or a b A B ma mb ha hb iha ihb => exact iha.mid (mid_gram (by simp [gramW])) (ihb.brk _ m40 m41)
theorem Pz.pos {P : List ByteArray} (h : Pz P) : ∀ t, t ∈ P → 0 < t.size := fun t ht => (h.tx t ht).pos
theorem wrap_yes {s : WS} {f : WS → Option WS} {P : List ByteArray} (hd : s.d + 1 ≤ 300) (h : f ⟨s.ts, s.z, s.d + 1⟩ = some (adv ⟨s.ts, s.z, s.d + 1⟩ P)) : ((enterR s).bind fun s => Option.map leaveR (f s)) = some (adv s P) := by
  unfold enterR
  rw [if_neg (by omega)]
  show Option.map leaveR (f ⟨s.ts, s.z, s.d + 1⟩) = _
  rw [h]
  rfl
theorem brS_yes {k : ByteArray} {lv : Nat} {go : WS → Option WS} {s : WS} {P : List ByteArray} (hg : ∀ s', s'.d = s.d → s'.z + totB P ≤ 300 → go s' = some (adv s' P)) (hz : s.z + totB (brk (decide (lvS k < lv)) 91 93 P) ≤ 300) : brS k lv go s = some (adv s (brk (decide (lvS k < lv)) 91 93 P)) := by
  unfold brS
  by_cases h : lvS k < lv
  · rw [if_pos h]
    rw [decide_eq_true h] at hz ⊢
    have hz2 : s.z + (1 + totB (P ++ [sg 93])) ≤ 300 := hz
    rw [totB_app] at hz2
    have e1 : totB [sg 93] = 1 := rfl
    have e0 : (adv s [sg 91]).z = s.z + 1 := rfl
    rw [putR_sg _ (by omega)]
    show (go (adv s [sg 91])).bind _ = _
    rw [hg (adv s [sg 91]) rfl (by omega)]
    show putR (adv (adv s [sg 91]) P) (sg 93) = _
    have e2 : (adv (adv s [sg 91]) P).z = s.z + 1 + totB P := rfl
    rw [putR_sg _ (by omega), adv_adv, adv_adv]
    rfl
  · rw [if_neg h]
    rw [decide_eq_false h] at hz ⊢
    exact hg s rfl hz
theorem brC_yes {k : ByteArray} {lv : Nat} {go : WS → Option WS} {s : WS} {P : List ByteArray} (hg : ∀ s', s'.d = s.d → s'.z + totB P ≤ 300 → go s' = some (adv s' P)) (hz : s.z + totB (brk (decide (lvC k < lv)) 40 41 P) ≤ 300) : brC k lv go s = some (adv s (brk (decide (lvC k < lv)) 40 41 P)) := by
  unfold brC
  by_cases h : lvC k < lv
  · rw [if_pos h]
    rw [decide_eq_true h] at hz ⊢
    have hz2 : s.z + (1 + totB (P ++ [sg 41])) ≤ 300 := hz
    rw [totB_app] at hz2
    have e1 : totB [sg 41] = 1 := rfl
    have e0 : (adv s [sg 40]).z = s.z + 1 := rfl
    rw [putR_sg _ (by omega)]
    show (go (adv s [sg 40])).bind _ = _
    rw [hg (adv s [sg 40]) rfl (by omega)]
    show putR (adv (adv s [sg 40]) P) (sg 41) = _
    have e2 : (adv (adv s [sg 40]) P).z = s.z + 1 + totB P := rfl
    rw [putR_sg _ (by omega), adv_adv, adv_adv]
    rfl
  · rw [if_neg h]
    rw [decide_eq_false h] at hz ⊢
    exact hg s rfl hz
theorem toT_kind (x : Nd) : (toT x).kind = x.kind := by cases x; rfl
theorem toT_word (x : Nd) : (toT x).word = x.word := by cases x; rfl
theorem eqB_not {a b : ByteArray} (h : a ≠ b) : ¬ eqB a b = true := fun e => h ((eqB_iff _ _).1 e)
theorem eqB_yes (a : ByteArray) : eqB a a = true := (eqB_iff _ _).2 rfl
theorem or_not {a b : Prop} (h : ¬ a) (h2 : ¬ b) : ¬ (a ∨ b) := fun e => e.elim h h2
theorem SumO.wrR {x : Nd} {P : List ByteArray} (h : ∀ s, s.d + P.length ≤ 300 → s.z + totB P ≤ 300 → sumG (toT x) s = some (adv s P)) (lv : Nat) (s : WS) (hd : s.d + P.length ≤ 300) (hz : s.z + totB (brk (lowS x lv) 91 93 P) ≤ 300) : sumR (toT x) lv s = some (adv s (brk (lowS x lv) 91 93 P)) := by
  unfold sumR
  rw [toT_kind]
  exact brS_yes (fun s' h1 h2 => h s' (by omega) h2) hz
/-- A printed sum is what is written of it. -/
theorem SumO.wr {x : Nd} {P : List ByteArray} {m : Nat} (h : SumO x P m) : ∀ s, s.d + P.length ≤ 300 → s.z + totB P ≤ 300 → sumG (toT x) s = some (adv s P) := by
  induction h with
  | num v h =>
    intro s hd hz
    show sumG (.mk wNumber ⟨#[]⟩ v []) s = _
    simp only [List.length_singleton] at hd
    rw [sumG_fac (or_not (eqB_not (by show wNumber ≠ _; decide)) (eqB_not (by show wNumber ≠ _; decide))) (eqB_not (by show wNumber ≠ _; decide))]
    refine wrap_yes hd ?_
    rw [facG_mk]
    rw [if_pos (eqB_yes _)]
    exact putR_yes (num_pos (numT_form v).hd) hz
  | name w h =>
    intro s hd hz
    show sumG (.mk wName w 0 []) s = _
    simp only [List.length_singleton] at hd
    rw [sumG_fac (or_not (eqB_not (by show wName ≠ _; decide)) (eqB_not (by show wName ≠ _; decide))) (eqB_not (by show wName ≠ _; decide))]
    refine wrap_yes hd ?_
    rw [facG_mk]
    rw [if_neg (eqB_not (by show wName ≠ _; decide)), if_pos (eqB_yes _)]
    exact putR_yes (low_pos h.lo) hz
  | count w h =>
    intro s hd hz
    show sumG (.mk wCount w 0 []) s = _
    simp only [List.length_cons, List.length_nil] at hd
    rw [sumG_fac (or_not (eqB_not (by show wCount ≠ _; decide)) (eqB_not (by show wCount ≠ _; decide))) (eqB_not (by show wCount ≠ _; decide))]
    refine wrap_yes (by omega) ?_
    rw [facG_mk]
    rw [if_neg (eqB_not (by show wCount ≠ _; decide)), if_neg (eqB_not (by show wCount ≠ _; decide)), if_pos (eqB_yes _)]
    exact putsR_yes (Pz.pos (SumO.count w h).pz) hz
  | total w o h h2 =>
    intro s hd hz
    show sumG (.mk wTotal w 0 [.mk wName o 0 []]) s = _
    simp only [List.length_cons, List.length_nil] at hd
    rw [sumG_fac (or_not (eqB_not (by show wTotal ≠ _; decide)) (eqB_not (by show wTotal ≠ _; decide))) (eqB_not (by show wTotal ≠ _; decide))]
    refine wrap_yes (by omega) ?_
    rw [facG_mk]
    rw [if_neg (eqB_not (by show wTotal ≠ _; decide)), if_neg (eqB_not (by show wTotal ≠ _; decide)), if_neg (eqB_not (by show wTotal ≠ _; decide)), if_pos (eqB_yes _)]
    exact putsR_yes (Pz.pos (SumO.total w o h h2).pz) hz
  | @great t hk a b A B ma mb ha hb iha ihb =>
    intro s hd hz
    show sumG (.mk t ⟨#[]⟩ 0 [toT a, toT b]) s = _
    simp only [List.length_cons, List.length_nil, List.length_append] at hd
    have nt : ∀ c, c ≠ wMax → c ≠ wMin → t ≠ c := fun c h1 h2 e => by rcases hk with e2 | e2 <;> (rw [e] at e2; first | exact h1 e2 | exact h2 e2)
    have tk : eqB t wMax = true ∨ eqB t wMin = true := hk.imp (eqB_iff _ _).2 (eqB_iff _ _).2
    have tp : 0 < t.size := (mid_gram (show t ∈ gramW by rcases hk with rfl | rfl <;> simp [gramW])).tx.pos
    rw [sumG_fac (t := .mk t ⟨#[]⟩ 0 [toT a, toT b]) (or_not (eqB_not (nt _ (by decide) (by decide))) (eqB_not (nt _ (by decide) (by decide)))) (eqB_not (nt _ (by decide) (by decide)))]
    refine wrap_yes (by omega) ?_
    rw [facG_mk]
    rw [if_neg (eqB_not (nt _ (by decide) (by decide))), if_neg (eqB_not (nt _ (by decide) (by decide))), if_neg (eqB_not (nt _ (by decide) (by decide))), if_neg (eqB_not (nt _ (by decide) (by decide))), if_pos tk]
    obtain ⟨S, hS⟩ : ∃ S : WS, S = ⟨s.ts, s.z, s.d + 1⟩ := ⟨_, rfl⟩
    rw [← hS]
    have sd : S.d = s.d + 1 := by rw [hS]
    have sz : S.z = s.z := by rw [hS]
    simp only [totB_app] at hz
    have z1 : totB [t, sg 40] = t.size + 1 := rfl
    have z2 : totB (sg 44 :: (B ++ [sg 41])) = 1 + (totB B + 1) := by show 1 + totB (B ++ [sg 41]) = _; rw [totB_app]; rfl
    show ((putsR S [t, sg 40]).bind fun s => (sumR (toT a) 0 s).bind fun s => (putR s (sg 44)).bind fun s => (sumR (toT b) 0 s).bind fun s => putR s (sg 41)) = _
    rw [putsR_yes (P := [t, sg 40]) (fun u hu => by
      rcases List.mem_cons.1 hu with rfl | hu
      · exact tp
      · rw [List.mem_singleton.1 hu]; show 0 < 1; omega) (by omega)]
    show (sumR (toT a) 0 (adv S [t, sg 40])).bind _ = _
    have e1 : (adv S [t, sg 40]).z = S.z + (t.size + 1) := rfl
    have e1d : (adv S [t, sg 40]).d = S.d := rfl
    rw [SumO.wrR iha 0 _ (by omega) (by rw [lowS_no (Nat.zero_le _)]; show _ + totB A ≤ _; omega), lowS_no (Nat.zero_le _)]
    show (putR (adv (adv S [t, sg 40]) A) (sg 44)).bind _ = _
    have e2 : (adv (adv S [t, sg 40]) A).z = S.z + (t.size + 1) + totB A := rfl
    rw [putR_sg _ (by omega)]
    show (sumR (toT b) 0 (adv (adv (adv S [t, sg 40]) A) [sg 44])).bind _ = _
    have e3 : (adv (adv (adv S [t, sg 40]) A) [sg 44]).z = S.z + (t.size + 1) + totB A + 1 := rfl
    have e3d : (adv (adv (adv S [t, sg 40]) A) [sg 44]).d = S.d := rfl
    rw [SumO.wrR ihb 0 _ (by omega) (by rw [lowS_no (Nat.zero_le _)]; show _ + totB B ≤ _; omega), lowS_no (Nat.zero_le _)]
    show putR (adv (adv (adv (adv S [t, sg 40]) A) [sg 44]) B) (sg 41) = _
    have e4 : (adv (adv (adv (adv S [t, sg 40]) A) [sg 44]) B).z = S.z + (t.size + 1) + totB A + 1 + totB B := rfl
    rw [putR_sg _ (by omega), adv_adv, adv_adv, adv_adv, adv_adv]
    simp
  | @mul r hr a A ma ha iha =>
    intro s hd hz
    show sumG (.mk (sg 42) ⟨#[]⟩ r [toT a]) s = _
    simp only [List.length_cons, List.length_nil, List.length_append, brk_len] at hd
    rw [sumG_mul (t := .mk (sg 42) ⟨#[]⟩ r [toT a]) (or_not (eqB_not (by show sg 42 ≠ _; decide)) (eqB_not (by show sg 42 ≠ _; decide))) (eqB_yes _)]
    refine wrap_yes (by omega) ?_
    obtain ⟨S, hS⟩ : ∃ S : WS, S = ⟨s.ts, s.z, s.d + 1⟩ := ⟨_, rfl⟩
    rw [← hS]
    have sd : S.d = s.d + 1 := by rw [hS]
    have sz : S.z = s.z := by rw [hS]
    rw [totB_app] at hz
    show ((sumR (toT a) 1 S).bind fun s => putsR s [sg 42, numT r, sg 37]) = _
    rw [SumO.wrR iha 1 _ (by omega) (by omega)]
    show putsR (adv S (brk (lowS a 1) 91 93 A)) [sg 42, numT r, sg 37] = _
    have e1 : (adv S (brk (lowS a 1) 91 93 A)).z = S.z + totB (brk (lowS a 1) 91 93 A) := rfl
    rw [putsR_yes (P := [sg 42, numT r, sg 37]) (Pz.pos (Pz.cons m42 ((pz_num r).snoc m37))) (by omega), adv_adv]
  | @add t hk a b A B ma mb ha hb iha ihb =>
    intro s hd hz
    show sumG (.mk t ⟨#[]⟩ 0 [toT a, toT b]) s = _
    simp only [List.length_cons, List.length_append, brk_len] at hd
    have hk2 : eqB t (sg 43) = true ∨ eqB t (sg 45) = true := hk.imp (eqB_iff _ _).2 (eqB_iff _ _).2
    have tp : t.size = 1 := by rcases hk with rfl | rfl <;> rfl
    have hbp := pl_pos hb.ne
    rw [sumG_add (t := .mk t ⟨#[]⟩ 0 [toT a, toT b]) hk2]
    refine wrap_yes (by omega) ?_
    obtain ⟨S, hS⟩ : ∃ S : WS, S = ⟨s.ts, s.z, s.d + 1⟩ := ⟨_, rfl⟩
    rw [← hS]
    have sd : S.d = s.d + 1 := by rw [hS]
    have sz : S.z = s.z := by rw [hS]
    rw [totB_app] at hz
    have z1 : totB (t :: brk (lowS b 1) 91 93 B) = t.size + totB (brk (lowS b 1) 91 93 B) := rfl
    show ((sumR (toT a) 0 S).bind fun s => (putR s t).bind fun s => sumR (toT b) 1 s) = _
    rw [SumO.wrR iha 0 _ (by omega) (by rw [lowS_no (Nat.zero_le _)]; show _ + totB A ≤ _; omega), lowS_no (Nat.zero_le _)]
    show (putR (adv S A) t).bind _ = _
    have e1 : (adv S A).z = S.z + totB A := rfl
    rw [putR_yes (by omega) (by omega)]
    show sumR (toT b) 1 (adv (adv S A) [t]) = _
    have e2 : (adv (adv S A) [t]).z = S.z + totB A + (t.size + 0) := rfl
    have e2d : (adv (adv S A) [t]).d = S.d := rfl
    rw [SumO.wrR ihb 1 _ (by omega) (by omega), adv_adv, adv_adv]
    simp
theorem CondO.wrR {x : Nd} {P : List ByteArray} (h : ∀ s, s.d + P.length ≤ 300 → s.z + totB P ≤ 300 → condG (toT x) s = some (adv s P)) (lv : Nat) (s : WS) (hd : s.d + P.length ≤ 300) (hz : s.z + totB (brk (lowK x lv) 40 41 P) ≤ 300) : condR (toT x) lv s = some (adv s (brk (lowK x lv) 40 41 P)) := by
  unfold condR
  rw [toT_kind]
  exact brC_yes (fun s' h1 h2 => h s' (by omega) h2) hz
/-- A printed condition is what is written of it. -/
theorem CondO.wr {x : Nd} {P : List ByteArray} {m : Nat} (h : CondO x P m) : ∀ s, s.d + P.length ≤ 300 → s.z + totB P ≤ 300 → condG (toT x) s = some (adv s P) := by
  induction h with
  | name w h =>
    intro s hd hz
    show condG (.mk wName w 0 []) s = _
    simp only [List.length_singleton] at hd
    rw [condG_name (or_not (eqB_not (by show wName ≠ _; decide)) (eqB_not (by show wName ≠ _; decide))) (eqB_not (by show wName ≠ _; decide)) (or_not (eqB_not (by show wName ≠ _; decide)) (eqB_not (by show wName ≠ _; decide))) (eqB_yes _)]
    exact wrap_yes hd (putR_yes (low_pos h.lo) hz)
  | @cmp t hk a b A B ma mb ha hb =>
    intro s hd hz
    show condG (.mk t ⟨#[]⟩ 0 [toT a, toT b]) s = _
    simp only [List.length_cons, List.length_append] at hd
    have lo := (orders_sg hk).1
    have nt : ∀ c, lowC (hd0 c) = true → t ≠ c := fun c h1 e => by rw [e, h1] at lo; cases lo
    have tp : 0 < t.size := (orders_tx hk).pos
    have hbp := pl_pos hb.ne
    rw [condG_cmp (t := .mk t ⟨#[]⟩ 0 [toT a, toT b]) (or_not (eqB_not (nt _ (by decide))) (eqB_not (nt _ (by decide)))) (eqB_not (nt _ (by decide))) (or_not (eqB_not (nt _ (by decide))) (eqB_not (nt _ (by decide)))) (eqB_not (nt _ (by decide)))]
    refine wrap_yes (by omega) ?_
    rw [cmpG_mk]
    rw [if_pos (place_mem.2 hk)]
    obtain ⟨S, hS⟩ : ∃ S : WS, S = ⟨s.ts, s.z, s.d + 1⟩ := ⟨_, rfl⟩
    rw [← hS]
    have sd : S.d = s.d + 1 := by rw [hS]
    have sz : S.z = s.z := by rw [hS]
    rw [totB_app] at hz
    have z1 : totB (t :: B) = t.size + totB B := rfl
    show ((sumR (toT a) 0 S).bind fun s => (putR s t).bind fun s => sumR (toT b) 0 s) = _
    rw [SumO.wrR ha.wr 0 _ (by omega) (by rw [lowS_no (Nat.zero_le _)]; show _ + totB A ≤ _; omega), lowS_no (Nat.zero_le _)]
    show (putR (adv S A) t).bind _ = _
    have e1 : (adv S A).z = S.z + totB A := rfl
    rw [putR_yes (by omega) (by omega)]
    show sumR (toT b) 0 (adv (adv S A) [t]) = _
    have e2 : (adv (adv S A) [t]).z = S.z + totB A + (t.size + 0) := rfl
    have e2d : (adv (adv S A) [t]).d = S.d := rfl
    rw [SumO.wrR hb.wr 0 _ (by omega) (by rw [lowS_no (Nat.zero_le _)]; show _ + totB B ≤ _; omega), lowS_no (Nat.zero_le _), show brk false 91 93 B = B from rfl, adv_adv, adv_adv]
    simp
  | @of t w hk h a A ma ha iha =>
    intro s hd hz
    show condG (.mk t w 0 [toT a]) s = _
    simp only [List.length_cons, List.length_nil, List.length_append] at hd
    have nt : ∀ c, c ≠ wSome → c ≠ wEvery → t ≠ c := fun c h1 h2 e => by rcases hk with e2 | e2 <;> (rw [e] at e2; first | exact h1 e2 | exact h2 e2)
    have mt : Mid t := mid_gram (show t ∈ gramW by rcases hk with rfl | rfl <;> simp [gramW])
    rw [condG_of (t := .mk t w 0 [toT a]) (or_not (eqB_not (nt _ (by decide) (by decide))) (eqB_not (nt _ (by decide) (by decide)))) (eqB_not (nt _ (by decide) (by decide))) (hk.imp (eqB_iff _ _).2 (eqB_iff _ _).2)]
    refine wrap_yes (by omega) ?_
    obtain ⟨S, hS⟩ : ∃ S : WS, S = ⟨s.ts, s.z, s.d + 1⟩ := ⟨_, rfl⟩
    rw [← hS]
    have sd : S.d = s.d + 1 := by rw [hS]
    have sz : S.z = s.z := by rw [hS]
    rw [totB_app, totB_app] at hz
    have z1 : totB [sg 41] = 1 := rfl
    show ((putsR S [t, w, sg 40]).bind fun s => (condR (toT a) 0 s).bind fun s => putR s (sg 41)) = _
    rw [putsR_yes (Pz.pos (Pz.cons mt (Pz.cons h.mid (Pz.cons m40 Pz.nil)))) (by omega)]
    show (condR (toT a) 0 (adv S [t, w, sg 40])).bind _ = _
    have e1 : (adv S [t, w, sg 40]).z = S.z + totB [t, w, sg 40] := rfl
    have e1d : (adv S [t, w, sg 40]).d = S.d := rfl
    rw [CondO.wrR iha 0 _ (by omega) (by rw [lowK_no (Nat.zero_le _)]; show _ + totB A ≤ _; omega), lowK_no (Nat.zero_le _)]
    show putR (adv (adv S [t, w, sg 40]) A) (sg 41) = _
    have e2 : (adv (adv S [t, w, sg 40]) A).z = S.z + totB [t, w, sg 40] + totB A := rfl
    rw [putR_sg _ (by omega), adv_adv, adv_adv]
  | @not a A ma ha iha =>
    intro s hd hz
    show condG (.mk wNot ⟨#[]⟩ 0 [toT a]) s = _
    simp only [List.length_cons, brk_len] at hd
    rw [condG_not (t := .mk wNot ⟨#[]⟩ 0 [toT a]) (or_not (eqB_not (by show wNot ≠ _; decide)) (eqB_not (by show wNot ≠ _; decide))) (eqB_yes _)]
    refine wrap_yes (by omega) ?_
    obtain ⟨S, hS⟩ : ∃ S : WS, S = ⟨s.ts, s.z, s.d + 1⟩ := ⟨_, rfl⟩
    rw [← hS]
    have sd : S.d = s.d + 1 := by rw [hS]
    have sz : S.z = s.z := by rw [hS]
    have hz2 : s.z + (3 + totB (brk (lowK a 2) 40 41 A)) ≤ 300 := hz
    show ((putR S wNot).bind fun s => condR (toT a) 2 s) = _
    rw [putR_yes (x := wNot) (show 0 < 3 by omega) (show _ + 3 ≤ _ by omega)]
    show condR (toT a) 2 (adv S [wNot]) = _
    have e1 : (adv S [wNot]).z = S.z + 3 := rfl
    have e1d : (adv S [wNot]).d = S.d := rfl
    rw [CondO.wrR iha 2 _ (by omega) (by omega), adv_adv]
    rfl
  | @and a b A B ma mb ha hb iha ihb =>
    intro s hd hz
    show condG (.mk wAnd ⟨#[]⟩ 0 [toT a, toT b]) s = _
    simp only [List.length_cons, List.length_append, brk_len] at hd
    have hap := pl_pos ha.ne
    have hbp := pl_pos hb.ne
    have hl : lvC wAnd = 1 := by rw [lvC_eq, if_neg (by decide), if_pos rfl]
    rw [condG_bin (t := .mk wAnd ⟨#[]⟩ 0 [toT a, toT b]) (.inr (eqB_yes wAnd))]
    refine wrap_yes (by omega) ?_
    obtain ⟨S, hS⟩ : ∃ S : WS, S = ⟨s.ts, s.z, s.d + 1⟩ := ⟨_, rfl⟩
    rw [← hS]
    have sd : S.d = s.d + 1 := by rw [hS]
    have sz : S.z = s.z := by rw [hS]
    rw [totB_app] at hz
    have z1 : totB (wAnd :: brk (lowK b 2) 40 41 B) = 3 + totB (brk (lowK b 2) 40 41 B) := rfl
    show ((condR (toT a) (lvC wAnd) S).bind fun s => (putR s wAnd).bind fun s => condR (toT b) (lvC wAnd + 1) s) = _
    rw [hl, CondO.wrR iha 1 _ (by omega) (by omega)]
    show (putR (adv S (brk (lowK a 1) 40 41 A)) wAnd).bind _ = _
    have e1 : (adv S (brk (lowK a 1) 40 41 A)).z = S.z + totB (brk (lowK a 1) 40 41 A) := rfl
    rw [putR_yes (x := wAnd) (show 0 < 3 by omega) (show _ + 3 ≤ _ by omega)]
    show condR (toT b) 2 (adv (adv S (brk (lowK a 1) 40 41 A)) [wAnd]) = _
    have e2 : (adv (adv S (brk (lowK a 1) 40 41 A)) [wAnd]).z = S.z + totB (brk (lowK a 1) 40 41 A) + 3 := rfl
    have e2d : (adv (adv S (brk (lowK a 1) 40 41 A)) [wAnd]).d = S.d := rfl
    rw [CondO.wrR ihb 2 _ (by omega) (by omega), adv_adv, adv_adv]
    simp
  | @or a b A B ma mb ha hb iha ihb =>
    intro s hd hz
    show condG (.mk wOr ⟨#[]⟩ 0 [toT a, toT b]) s = _
    simp only [List.length_cons, List.length_append, brk_len] at hd
    have hap := pl_pos ha.ne
    have hbp := pl_pos hb.ne
    have hl : lvC wOr = 0 := by rw [lvC_eq, if_pos rfl]
    rw [condG_bin (t := .mk wOr ⟨#[]⟩ 0 [toT a, toT b]) (.inl (eqB_yes wOr))]
    refine wrap_yes (by omega) ?_
    obtain ⟨S, hS⟩ : ∃ S : WS, S = ⟨s.ts, s.z, s.d + 1⟩ := ⟨_, rfl⟩
    rw [← hS]
    have sd : S.d = s.d + 1 := by rw [hS]
    have sz : S.z = s.z := by rw [hS]
    rw [totB_app] at hz
    have z1 : totB (wOr :: brk (lowK b 1) 40 41 B) = 2 + totB (brk (lowK b 1) 40 41 B) := rfl
    show ((condR (toT a) (lvC wOr) S).bind fun s => (putR s wOr).bind fun s => condR (toT b) (lvC wOr + 1) s) = _
    rw [hl, CondO.wrR iha 0 _ (by omega) (by rw [lowK_no (Nat.zero_le _)]; show _ + totB A ≤ _; omega), lowK_no (Nat.zero_le _)]
    show (putR (adv S A) wOr).bind _ = _
    have e1 : (adv S A).z = S.z + totB A := rfl
    rw [putR_yes (x := wOr) (show 0 < 2 by omega) (show _ + 2 ≤ _ by omega)]
    show condR (toT b) 1 (adv (adv S A) [wOr]) = _
    have e2 : (adv (adv S A) [wOr]).z = S.z + totB A + 2 := rfl
    have e2d : (adv (adv S A) [wOr]).d = S.d := rfl
    rw [CondO.wrR ihb 1 _ (by omega) (by omega), adv_adv, adv_adv]
    simp
end Go.Proofs.YtehbinobohjadaaGreatDoor
namespace Go.Proofs.YtehbinobohjadaaGreatDoor
open Go.RowKit Go.Extern.Stop Go.Stop Go.Extern

/-- Some tokens more. -/
def WG (s s' : WS) : Prop := (s.z ≤ 300 → s'.z ≤ 300) ∧ ∃ P, s'.ts = s.ts ++ P ∧ s'.z = s.z + totB P ∧ ∀ t, t ∈ P → 0 < t.size
theorem WG.refl (s : WS) : WG s s := ⟨id, [], by simp, rfl, fun t h => (by cases h)⟩
theorem WG.trans {a b c : WS} (h : WG a b) (k : WG b c) : WG a c := by
  obtain ⟨h0, P, h1, h2, h3⟩ := h
  obtain ⟨k0, Q, k1, k2, k3⟩ := k
  refine ⟨fun h => k0 (h0 h), P ++ Q, by rw [k1, h1, List.append_assoc], by rw [k2, h2, totB_app]; omega, fun t ht => ?_⟩
  rcases List.mem_append.1 ht with ht | ht
  · exact h3 t ht
  · exact k3 t ht
theorem putR_g {s s' : WS} {x : ByteArray} (h : putR s x = some s') : WG s s' := by
  unfold putR at h
  split at h
  · cases h
  · rename_i hc
    injection h with h
    rw [← h]
    refine ⟨fun _ => by show s.z + x.size ≤ 300; omega, [x], rfl, rfl, fun t ht => ?_⟩
    rw [List.mem_singleton.1 ht]
    omega
theorem putsR_g : ∀ {l : List ByteArray} {s s' : WS}, putsR s l = some s' → WG s s'
  | [], s, s', h => by injection h with h; rw [← h]; exact WG.refl _
  | x :: l, s, s', h => by
    rw [putsR, Option.bind_eq_some_iff] at h
    obtain ⟨s1, h1, h2⟩ := h
    exact (putR_g h1).trans (putsR_g h2)
theorem bind_g {s s' : WS} {r : Option WS} {f : WS → Option WS} (hr : ∀ s1, r = some s1 → WG s s1) (hf : ∀ s1 s', f s1 = some s' → WG s1 s') (h : r.bind f = some s') : WG s s' := by
  rw [Option.bind_eq_some_iff] at h
  obtain ⟨s1, h1, h⟩ := h
  exact (hr _ h1).trans (hf _ _ h)
theorem brS_g {k : ByteArray} {lv : Nat} {go : WS → Option WS} (hg : ∀ s s', go s = some s' → WG s s') {s s' : WS} (h : brS k lv go s = some s') : WG s s' := by
  unfold brS at h
  split at h
  · exact bind_g (fun _ h => putR_g h) (fun _ _ h => bind_g (fun _ h => hg _ _ h) (fun _ _ h => putR_g h) h) h
  · exact hg _ _ h
theorem brC_g {k : ByteArray} {lv : Nat} {go : WS → Option WS} (hg : ∀ s s', go s = some s' → WG s s') {s s' : WS} (h : brC k lv go s = some s') : WG s s' := by
  unfold brC at h
  split at h
  · exact bind_g (fun _ h => putR_g h) (fun _ _ h => bind_g (fun _ h => hg _ _ h) (fun _ _ h => putR_g h) h) h
  · exact hg _ _ h
theorem wrap_g {s s' : WS} {f : WS → Option WS} (hf : ∀ s s', f s = some s' → WG s s') (h : ((enterR s).bind fun s => Option.map leaveR (f s)) = some s') : WG s s' := by
  rw [Option.bind_eq_some_iff] at h
  obtain ⟨s1, h1, h⟩ := h
  rw [Option.map_eq_some_iff] at h
  obtain ⟨s2, h2, rfl⟩ := h
  obtain ⟨k0, P, k1, k2, k3⟩ := hf _ _ h2
  unfold enterR at h1
  split at h1
  · cases h1
  · injection h1 with h1
    subst h1
    exact ⟨k0, P, k1, k2, k3⟩
theorem sumG_g : ∀ (n : Nat) (t : Tn), SizeOf.sizeOf t = n → ∀ s s', sumG t s = some s' → WG s s' := by
  intro n
  induction n using Nat.strongRecOn with
  | _ n ih =>
    intro t ht s s' h
    have ihk : ∀ (i : Nat) (a : Tn) (lv : Nat), t.kids[i]? = some a → ∀ s s', sumR a lv s = some s' → WG s s' := fun i a lv ha s s' h => brS_g (ih _ (by have := kids_lt ha; omega) a rfl) h
    by_cases h1 : eqB t.kind (sg 43) = true ∨ eqB t.kind (sg 45) = true
    · rw [sumG_add h1] at h
      refine wrap_g (fun s s' h => ?_) h
      split at h
      · rename_i a b r e
        exact bind_g (fun _ h => ihk 0 a _ (by rw [e]; rfl) _ _ h) (fun _ _ h => bind_g (fun _ h => putR_g h) (fun _ _ h => ihk 1 b _ (by rw [e]; rfl) _ _ h) h) h
      · cases h
    · by_cases h2 : eqB t.kind (sg 42) = true
      · rw [sumG_mul h1 h2] at h
        refine wrap_g (fun s s' h => ?_) h
        split at h
        · rename_i a r e
          exact bind_g (fun _ h => ihk 0 a _ (by rw [e]; rfl) _ _ h) (fun _ _ h => putsR_g h) h
        · cases h
      · rw [sumG_fac h1 h2] at h
        refine wrap_g (fun s s' h => ?_) h
        unfold facG at h
        split at h
        · exact putR_g h
        · split at h
          · exact putR_g h
          · split at h
            · exact putsR_g h
            · split at h
              · split at h
                · exact putsR_g h
                · cases h
              · split at h
                · split at h
                  · rename_i a b r e
                    exact bind_g (fun _ h => putsR_g h) (fun _ _ h => bind_g (fun _ h => ihk 0 a _ (by rw [e]; rfl) _ _ h) (fun _ _ h => bind_g (fun _ h => putR_g h) (fun _ _ h => bind_g (fun _ h => ihk 1 b _ (by rw [e]; rfl) _ _ h) (fun _ _ h => putR_g h) h) h) h) h
                  · cases h
                · cases h
theorem sumR_g {t : Tn} {lv : Nat} {s s' : WS} (h : sumR t lv s = some s') : WG s s' := brS_g (sumG_g _ t rfl) h
theorem condG_g : ∀ (n : Nat) (t : Tn), SizeOf.sizeOf t = n → ∀ s s', condG t s = some s' → WG s s' := by
  intro n
  induction n using Nat.strongRecOn with
  | _ n ih =>
    intro t ht s s' h
    have ihk : ∀ (i : Nat) (a : Tn) (lv : Nat), t.kids[i]? = some a → ∀ s s', condR a lv s = some s' → WG s s' := fun i a lv ha s s' h => brC_g (ih _ (by have := kids_lt ha; omega) a rfl) h
    by_cases h1 : eqB t.kind wOr = true ∨ eqB t.kind wAnd = true
    · rw [condG_bin h1] at h
      refine wrap_g (fun s s' h => ?_) h
      split at h
      · rename_i a b r e
        exact bind_g (fun _ h => ihk 0 a _ (by rw [e]; rfl) _ _ h) (fun _ _ h => bind_g (fun _ h => putR_g h) (fun _ _ h => ihk 1 b _ (by rw [e]; rfl) _ _ h) h) h
      · cases h
    · by_cases h2 : eqB t.kind wNot = true
      · rw [condG_not h1 h2] at h
        refine wrap_g (fun s s' h => ?_) h
        split at h
        · rename_i a r e
          exact bind_g (fun _ h => putR_g h) (fun _ _ h => ihk 0 a _ (by rw [e]; rfl) _ _ h) h
        · cases h
      · by_cases h3 : eqB t.kind wSome = true ∨ eqB t.kind wEvery = true
        · rw [condG_of h1 h2 h3] at h
          refine wrap_g (fun s s' h => ?_) h
          split at h
          · rename_i a r e
            exact bind_g (fun _ h => putsR_g h) (fun _ _ h => bind_g (fun _ h => ihk 0 a _ (by rw [e]; rfl) _ _ h) (fun _ _ h => putR_g h) h) h
          · cases h
        · rw [condG_rest h1 h2 h3] at h
          refine wrap_g (fun s s' h => ?_) h
          split at h
          · exact putR_g h
          · unfold cmpG at h
            split at h
            · split at h
              · exact bind_g (fun _ h => sumR_g h) (fun _ _ h => bind_g (fun _ h => putR_g h) (fun _ _ h => sumR_g h) h) h
              · cases h
            · cases h
theorem condR_g {t : Tn} {lv : Nat} {s s' : WS} (h : condR t lv s = some s') : WG s s' := brC_g (condG_g _ t rfl) h
theorem optR_g {s s' : WS} {c : Prop} [Decidable c] {r : Option WS} (h : (if c then some s else r) = some s') (hr : r = some s' → WG s s') : WG s s' := by
  split at h
  · injection h with h; rw [← h]; exact WG.refl _
  · exact hr h
theorem litR_g {x : SentT} {s s' : WS} (h : litR x s = some s') : WG s s' := by
  unfold litR at h
  exact bind_g (fun _ h => optR_g h fun h => putR_g h) (fun _ _ h => putR_g h) h
theorem ifR_g {t : Tn} {s s' : WS} (h : ifR t s = some s') : WG s s' := by
  unfold ifR at h
  exact optR_g h fun h => bind_g (fun _ h => putR_g h) (fun _ _ h => condR_g h) h
theorem overR_g : ∀ {b : Bool} {l : List ByteArray} {s s' : WS}, overR b l s = some s' → WG s s'
  | _, [], s, s', h => by
    rw [overR] at h
    injection h with h; rw [← h]; exact WG.refl _
  | true, x :: l, s, s', h => by
    rw [overR] at h
    exact bind_g (fun _ h => putsR_g h) (fun _ _ h => overR_g h) h
  | false, x :: l, s, s', h => by
    rw [overR] at h
    exact bind_g (fun _ h => putsR_g h) (fun _ _ h => overR_g h) h
theorem sentR_g {x : SentT} {s' : WS} (h : sentR x = some s') : WG ⟨[], 0, 0⟩ s' := by
  unfold sentR at h
  refine bind_g (fun _ h => putsR_g h) (fun s s' h => ?_) h
  split at h
  · exact bind_g (fun _ h => putR_g h) (fun _ _ h => condR_g h) h
  · split at h
    · unfold ruleR at h
      refine bind_g (fun _ h => optR_g h fun h => ?_) (fun _ _ h => bind_g (fun _ h => putR_g h) (fun _ _ h => bind_g (fun _ h => litR_g h) (fun _ _ h => bind_g (fun _ h => ifR_g h) (fun _ _ h => overR_g h) h) h) h) h
      rw [Option.bind_eq_some_iff] at h
      obtain ⟨t, _, h⟩ := h
      exact putR_g h
    · split at h
      · unfold amountR at h
        refine bind_g (fun _ h => putR_g h) (fun _ _ h => bind_g (fun _ h => sumR_g h) (fun _ _ h => bind_g (fun _ h => ifR_g h) (fun _ _ h => optR_g h fun h => ?_) h) h) h
        rw [Option.bind_eq_some_iff] at h
        obtain ⟨t, _, h⟩ := h
        exact putsR_g h
      · split at h
        · unfold dutyR at h
          refine bind_g (fun _ h => putR_g h) (fun _ _ h => bind_g (fun _ h => litR_g h) (fun s1 s2 h => ?_) h) h
          rw [Option.bind_eq_some_iff] at h
          obtain ⟨u, _, h⟩ := h
          refine bind_g (fun _ h => putsR_g h) (fun _ _ h => bind_g (fun _ h => optR_g h fun h => ?_) (fun _ _ h => optR_g h fun h => putsR_g h) h) h
          rw [Option.bind_eq_some_iff] at h
          obtain ⟨t, _, h⟩ := h
          exact putsR_g h
        · cases h
theorem sentR_z {x : SentT} {s' : WS} (h : sentR x = some s') : s'.z ≤ 300 := (sentR_g h).1 (by show 0 ≤ 300; omega)
/-- What stands to be joined. -/
theorem sentR_ts {x : SentT} {s : WS} (h : sentR x = some s) : (∀ t, t ∈ s.ts → 0 < t.size) ∧ s.z = totB s.ts ∧ ∃ r, s.ts = x.kind :: x.name :: r := by
  obtain ⟨_, P, h1, h2, h3⟩ := sentR_g h
  have h1 : s.ts = P := h1
  rw [← h1] at h2 h3
  refine ⟨h3, by rw [h2]; show 0 + _ = _; omega, ?_⟩
  unfold sentR at h
  rw [Option.bind_eq_some_iff] at h
  obtain ⟨s1, e1, h⟩ := h
  have e2 : s1.ts = [x.kind, x.name] := by
    rw [putsR, Option.bind_eq_some_iff] at e1
    obtain ⟨s0, e0, e1⟩ := e1
    rw [putsR, Option.bind_eq_some_iff] at e1
    obtain ⟨s9, e9, e1⟩ := e1
    injection e1 with e1
    subst e1
    unfold putR at e0 e9
    split at e0
    · cases e0
    · injection e0 with e0
      split at e9
      · cases e9
      · injection e9 with e9
        rw [← e9, ← e0]
        rfl
  have e3 : WG s1 s := by
    split at h
    · exact bind_g (fun _ h => putR_g h) (fun _ _ h => condR_g h) h
    · split at h
      · unfold ruleR at h
        refine bind_g (fun _ h => optR_g h fun h => ?_) (fun _ _ h => bind_g (fun _ h => putR_g h) (fun _ _ h => bind_g (fun _ h => litR_g h) (fun _ _ h => bind_g (fun _ h => ifR_g h) (fun _ _ h => overR_g h) h) h) h) h
        rw [Option.bind_eq_some_iff] at h
        obtain ⟨t, _, h⟩ := h
        exact putR_g h
      · split at h
        · unfold amountR at h
          refine bind_g (fun _ h => putR_g h) (fun _ _ h => bind_g (fun _ h => sumR_g h) (fun _ _ h => bind_g (fun _ h => ifR_g h) (fun _ _ h => optR_g h fun h => ?_) h) h) h
          rw [Option.bind_eq_some_iff] at h
          obtain ⟨t, _, h⟩ := h
          exact putsR_g h
        · split at h
          · unfold dutyR at h
            refine bind_g (fun _ h => putR_g h) (fun _ _ h => bind_g (fun _ h => litR_g h) (fun s1 s2 h => ?_) h) h
            rw [Option.bind_eq_some_iff] at h
            obtain ⟨u, _, h⟩ := h
            refine bind_g (fun _ h => putsR_g h) (fun _ _ h => bind_g (fun _ h => optR_g h fun h => ?_) (fun _ _ h => optR_g h fun h => putsR_g h) h) h
            rw [Option.bind_eq_some_iff] at h
            obtain ⟨t, _, h⟩ := h
            exact putsR_g h
          · cases h
  obtain ⟨_, Q, q1, _, _⟩ := e3
  exact ⟨Q, by rw [q1, e2]; rfl⟩
end Go.Proofs.YtehbinobohjadaaGreatDoor
namespace Go.Proofs.YtehbinobohjadaaGreatDoor
open Go.RowKit Go.Sort Go.Extern.Stop Go.Stop Go.Extern

/-- The boxes of what Write answers. -/
structure WBx (w : World) (bl be : Nat) (s : ByteArray) (ev : Value) : Prop where
  l : w.heap[bl]? = some (.cells #[.string s] 9 (0, 0))
  e : w.heap[be]? = some (.cells #[ev] 32 (0, 0))
theorem WBx.cells {w : World} {bl be : Nat} {s : ByteArray} {ev : Value} (h : WBx w bl be s ev) : w.cell? ⟨bl, 0, none⟩ = some (.string s) ∧ w.frozen? ⟨bl, 0, none⟩ = false ∧ w.cell? ⟨be, 0, none⟩ = some ev ∧ w.frozen? ⟨be, 0, none⟩ = false := by
  refine ⟨?_, ?_, ?_, ?_⟩ <;> simp [World.cell?, World.frozen?, h.l, h.e]
theorem WBx.setL {w : World} {bl be : Nat} {s : ByteArray} {ev : Value} (h : WBx w bl be s ev) (hne : bl ≠ be) (s' : ByteArray) : WBx (w.setCell ⟨bl, 0, none⟩ (.string s')) bl be s' ev :=
  ⟨heap_set h.l _, (Below.heap_setCell _ _ _ _ (fun e => hne e.symm)).trans h.e⟩
theorem WBx.setE {w : World} {bl be : Nat} {s : ByteArray} {ev : Value} (h : WBx w bl be s ev) (hne : bl ≠ be) (ev' : Value) : WBx (w.setCell ⟨be, 0, none⟩ ev') bl be s ev' :=
  ⟨(Below.heap_setCell _ _ _ _ hne).trans h.l, heap_set h.e _⟩
theorem WBx.on {w w' : World} {bl be : Nat} {s : ByteArray} {ev : Value} (h : WBx w bl be s ev) (h1 : w'.heap[bl]? = w.heap[bl]?) (h2 : w'.heap[be]? = w.heap[be]?) : WBx w' bl be s ev := ⟨h1.trans h.l, h2.trans h.e⟩
/-- All stays but these two. -/
structure Fr2 (bl be : Nat) (w w' : World) : Prop where
  os : w'.os = w.os
  tape : w'.tape = w.tape
  output : w'.output = w.output
  size : w.heap.size ≤ w'.heap.size
  block : ∀ k, k < w.heap.size → k ≠ bl → k ≠ be → w'.heap[k]? = w.heap[k]?
theorem Fr2.of {bl be : Nat} {w w' : World} (h : Below w.heap.size w w') : Fr2 bl be w w' := ⟨h.os, h.tape, h.output, h.size, fun k hk _ _ => h.block k hk⟩
theorem Fr2.trans {bl be : Nat} {a b c : World} (h : Fr2 bl be a b) (k : Fr2 bl be b c) : Fr2 bl be a c := ⟨k.os.trans h.os, k.tape.trans h.tape, k.output.trans h.output, Nat.le_trans h.size k.size, fun i hi h1 h2 => (k.block i (Nat.lt_of_lt_of_le hi h.size) h1 h2).trans (h.block i hi h1 h2)⟩
theorem Fr2.set {bl be : Nat} {w w' : World} (h : Fr2 bl be w w') {b : Nat} (hb : b = bl ∨ b = be) (v : Value) : Fr2 bl be w (w'.setCell ⟨b, 0, none⟩ v) := ⟨h.os, h.tape, h.output, by simpa using h.size, fun k hk h1 h2 => (Below.heap_setCell _ _ _ _ (by show k ≠ b; rcases hb with rfl | rfl <;> assumption)).trans (h.block k hk h1 h2)⟩
theorem Fr2.below {bl be : Nat} {w w' : World} {B : Nat} (h : Fr2 bl be w w') (hB : B ≤ w.heap.size) (h1 : B ≤ bl) (h2 : B ≤ be) : Below B w w' := ⟨h.os, h.tape, h.output, h.size, fun k hk => h.block k (by omega) (by omega) (by omega)⟩
theorem WBx.fr {w w' : World} {bl be : Nat} {s : ByteArray} {ev : Value} (h : WBx w bl be s ev) (hb : Below w.heap.size w w') : WBx w' bl be s ev := h.on (hb.block bl (Array.getElem?_eq_some_iff.1 h.l).1) (hb.block be (Array.getElem?_eq_some_iff.1 h.e).1)
def CatW (bl be : Nat) (t : TypeId) (p : Value) (older : List PanicEntry) (w : World) (e : Ending) (u' : FrameMode) (w' : World) : Prop :=
  e = .returned (.tuple #[]) ∧ u' = .panicking (isThrown t p true :: older) ∧ WBx w' bl be ⟨#[]⟩ (.iface t p) ∧ Fr2 bl be w w'
set_option maxHeartbeats 1000000 in
theorem wcatch_p {bl be : Nat} {s : ByteArray} {ev : Value} {w : World} (h : WBx w bl be s ev) (h1 : bl ≠ be) (t : TypeId) (p : Value) (older : List PanicEntry) :
    CallsD Tryz.prog 19 #[.pointer (some ⟨bl, 0, none⟩), .pointer (some ⟨be, 0, none⟩)] (.panicking (isThrown t p false :: older)) w (CatW bl be t p older w) := by
  refine callsD_of_wpS Tryz.func19 rfl fun c₀ fs hu => ?_
  apply wpS_seq
  apply wpS_region
  simp [wpOpsS, go_sem, recoverD, hu, isThrown, Tryz.ntmps19, Exit.thenS]
  apply wpS_seq
  apply wpS_region
  simp [wpOpsS, go_sem, Exit.thenS]
  refine wpS_cond (t := true) (by simp [Act.eval, Array.replicate]) ?_
  simp only [if_true]
  refine wpS_of_wp ?_
  have HC := hidLL (fun W => caught_q t p W)
  have HF : Hid (∀ W, Below w.heap.size w W → WBx W bl be s ev) := fun W hb => h.fr hb
  go_wp2_with (go_at_call 16; refine (HC.out _).mono ?_; rintro e w1 ⟨rfl, hb1⟩; (have HB := hidLL hb1); (have HX := hidLL (HF.out w1 hb1)); (obtain ⟨cl, fl, ce, fe⟩ := HX.out.cells); (obtain ⟨cl2, fl2, ce2, fe2⟩ := (HX.out.setL h1 ⟨#[]⟩).cells); clear hb1)
  have hR : CatW bl be t p older w (.returned (.tuple #[])) (.panicking (isThrown t p true :: older)) ((w1.setCell ⟨bl, 0, none⟩ (.string ⟨#[]⟩)).setCell ⟨be, 0, none⟩ (.iface t p)) :=
    ⟨rfl, rfl, (HX.out.setL h1 ⟨#[]⟩).setE h1 _, ((Fr2.of HB.out).set (.inl rfl) _).set (.inr rfl) _⟩
  simp [bodyPostS, results, Tryz.results19]
  exact hR
theorem wcatch_i (bl be : Nat) (w : World) :
    CallsD Tryz.prog 19 #[.pointer (some ⟨bl, 0, none⟩), .pointer (some ⟨be, 0, none⟩)] .returning w fun e u' w' => e = .returned (.tuple #[]) ∧ u' = .returning ∧ w' = w := by
  refine callsD_of_wpS Tryz.func19 rfl fun c₀ fs hu => ?_
  apply wpS_seq
  apply wpS_region
  simp [wpOpsS, go_sem, recoverD, hu, Tryz.ntmps19, Exit.thenS]
  apply wpS_seq
  apply wpS_region
  simp [wpOpsS, go_sem, Exit.thenS]
  refine wpS_cond (t := false) (by simp [Act.eval, Array.replicate]) ?_
  simp only [Bool.false_eq_true, if_false]
  refine wpS_of_wp (wp_skip ?_)
  cases c₀
  simp_all [bodyPostS, results, Tryz.results19]
theorem results_two {w : World} {bl be : Nat} {s : ByteArray} {ev : Value} (h : WBx w bl be s ev) (tmps : Array Value) (h2 : tmps[2]?.getD undef = .pointer (some ⟨bl, 0, none⟩)) (h3 : tmps[3]?.getD undef = .pointer (some ⟨be, 0, none⟩)) :
    (results Tryz.f7 tmps).run Tryz.prog w = .ok (.tuple #[.string s, ev]) w := by
  obtain ⟨c1, _, c2, _⟩ := h.cells
  have d1 : (loadVar 9 ⟨bl, 0, none⟩).run Tryz.prog w = .ok (.string s) w := by simp [go_sem, c1]
  have d2 : (loadVar 32 ⟨be, 0, none⟩).run Tryz.prog w = .ok ev w := by simp [go_sem, c2]
  simp [results, Tryz.results7, h2, h3, asAddr, d1, d2]
end Go.Proofs.YtehbinobohjadaaGreatDoor
namespace Go.Proofs.YtehbinobohjadaaGreatDoor
open Go.RowKit Go.Extern.Stop Go.Stop Go.Extern

theorem tw_allT (q : UInt8 → Bool) : ∀ (l : List UInt8) (c : UInt8), c ∈ l.takeWhile q → q c = true
  | [], c, h => by cases h
  | a :: l, c, h => by
    rw [List.takeWhile_cons] at h
    split at h
    · rename_i ha
      rcases List.mem_cons.1 h with rfl | h
      · exact ha
      · exact tw_allT q l c h
    · cases h
theorem take_tw (q : UInt8 → Bool) : ∀ (l : List UInt8), l.take (l.takeWhile q).length = l.takeWhile q
  | [] => rfl
  | a :: l => by
    rw [List.takeWhile_cons]
    split
    · rw [List.length_cons, List.take_succ_cons, take_tw q l]
    · rfl
theorem drop_tw (q : UInt8 → Bool) : ∀ (l : List UInt8) (c : UInt8) (r : List UInt8), l.drop (l.takeWhile q).length = c :: r → q c = false
  | [], c, r, h => by cases h
  | a :: l, c, r, h => by
    rw [List.takeWhile_cons] at h
    split at h
    · rw [List.length_cons, List.drop_succ_cons] at h
      exact drop_tw q l c r h
    · rename_i ha
      injection h with h1 h2
      rw [← h1]
      exact Bool.eq_false_iff.2 ha
theorem ba_list (l : List UInt8) : (⟨l.toArray⟩ : ByteArray).data.toList = l := rfl
theorem ba_size (l : List UInt8) : (⟨l.toArray⟩ : ByteArray).size = l.length := by rw [← bl_len]
theorem low_word {c : UInt8} (h : lowC c = true) : wordC c = true := by unfold wordC; rw [h]; simp
/-- The token that stands at a place: what it is. -/
structure QT (l : List UInt8) (t : Tok) (z : Nat) : Prop where
  z0 : 1 ≤ z
  z1 : z ≤ l.length
  tx : t.text = ⟨(l.take z).toArray⟩
  w : t.kind = .w → lowC (hd0 t.text) = true ∧ ∀ c, c ∈ t.text.data.toList → wordC c = true
  n : t.kind = .n → ∃ ds tl, NumO t.text ds tl
  e : t.kind ≠ .e
  hd : hd0 t.text = l.headD 0
  mx : lowC (hd0 t.text) = true → ∀ c r, l.drop z = c :: r → wordC c = false
theorem numEnd_form (c : UInt8) (r : List UInt8) (hc : numC c = true) : ∃ ds tl, NumO ⟨((c :: r).take (numEnd (c :: r))).toArray⟩ ds tl := by
  obtain ⟨l, hl⟩ : ∃ l, l = c :: r := ⟨_, rfl⟩
  rw [← hl]
  have hne : l.takeWhile numC ≠ [] := by rw [hl, List.takeWhile_cons, if_pos hc]; simp
  unfold numEnd
  split
  · rename_i hp
    generalize hd : l.drop (l.takeWhile numC).length = d at hp
    match d, hp with
    | a :: b :: e :: d, hp =>
      rw [pointL] at hp
      simp only [Bool.and_eq_true, decide_eq_true_eq] at hp
      have ha : a = 46 := UInt8.toNat_inj.1 hp.1.1
      refine ⟨l.takeWhile numC, [46, b, e], ?_, hne, tw_allT _ _, .inr ⟨b, e, rfl, hp.1.2, hp.2⟩⟩
      rw [ba_list, List.take_add, take_tw, hd, ha]
      rfl
  · exact ⟨l.takeWhile numC, [], by rw [ba_list, take_tw, List.append_nil], hne, tw_allT _ _, .inl rfl⟩
theorem numEnd_le2 (l : List UInt8) : numEnd l ≤ l.length := by
  have h1 := (List.takeWhile_sublist numC (l := l)).length_le
  unfold numEnd
  split
  · rename_i hp
    generalize hd : l.drop (l.takeWhile numC).length = d at hp
    match d, hp with
    | a :: b :: c :: r, hp =>
      have := congrArg List.length hd
      simp only [List.length_drop, List.length_cons] at this
      omega
  · exact h1
theorem signN_le2 (l : List UInt8) : signN l ≤ l.length := by
  unfold signN
  split
  · rename_i h
    match l, h with
    | a :: b :: r, _ => simp
  · split
    · split <;> simp
    · simp
theorem hd_take {l : List UInt8} {z : Nat} (h : 1 ≤ z) : hd0 ⟨(l.take z).toArray⟩ = l.headD 0 := by
  unfold hd0
  rw [ba_list]
  match l, z, h with
  | [], _, _ => simp
  | a :: l, z + 1, _ => rfl
theorem qtok_is (c : UInt8) (r : List UInt8) (p : Nat) : QT (c :: r) (qtokAt (c :: r) p) (qtokOf (c :: r)).2 := by
  by_cases h1 : lowC c = true
  · have e : qtokOf (c :: r) = (.w, ((c :: r).takeWhile wordC).length) := by show (if _ then _ else _) = _; rw [if_pos h1]
    have hz : 1 ≤ ((c :: r).takeWhile wordC).length := by rw [List.takeWhile_cons, if_pos (low_word h1)]; simp
    have hh : hd0 (qtokAt (c :: r) p).text = c := by
      show hd0 ⟨((c :: r).take (qtokOf (c :: r)).2).toArray⟩ = c
      rw [e, hd_take hz]; rfl
    refine ⟨by rw [e]; exact hz, by rw [e]; exact (List.takeWhile_sublist _).length_le, rfl, fun _ => ⟨by rw [hh]; exact h1, fun d hd => ?_⟩, fun h => ?_, ?_, by rw [hh]; rfl, fun _ d s hd => ?_⟩
    · have hd : d ∈ ((c :: r).take (qtokOf (c :: r)).2) := hd
      rw [e, take_tw] at hd
      exact tw_allT _ _ _ hd
    · have : (qtokOf (c :: r)).1 = .n := h
      rw [e] at this; cases this
    · show (qtokOf (c :: r)).1 ≠ .e
      rw [e]; show TK.w ≠ TK.e; decide
    · rw [e] at hd
      exact drop_tw _ _ _ _ hd
  · have hlo : ∀ z, 1 ≤ z → ¬ lowC (hd0 ⟨((c :: r).take z).toArray⟩) = true := fun z hz => by rw [hd_take hz]; exact h1
    by_cases h2 : numC c = true
    · have e : qtokOf (c :: r) = (.n, numEnd (c :: r)) := by show (if _ then _ else _) = _; rw [if_neg h1, if_pos h2]
      have hz : 1 ≤ numEnd (c :: r) := by
        have : 1 ≤ ((c :: r).takeWhile numC).length := by rw [List.takeWhile_cons, if_pos h2]; simp
        unfold numEnd
        split <;> omega
      refine ⟨by rw [e]; exact hz, by rw [e]; exact numEnd_le2 _, rfl, fun h => ?_, fun _ => ?_, ?_, ?_, fun h => ?_⟩
      · have : (qtokOf (c :: r)).1 = .w := h
        rw [e] at this; cases this
      · show ∃ ds tl, NumO ⟨((c :: r).take (qtokOf (c :: r)).2).toArray⟩ ds tl
        rw [e]
        exact numEnd_form c r h2
      · show (qtokOf (c :: r)).1 ≠ .e
        rw [e]; show TK.n ≠ TK.e; decide
      · show hd0 ⟨((c :: r).take (qtokOf (c :: r)).2).toArray⟩ = _
        rw [e]; exact hd_take hz
      · have h : lowC (hd0 ⟨((c :: r).take (qtokOf (c :: r)).2).toArray⟩) = true := h
        rw [e] at h
        exact absurd h (hlo _ hz)
    · have e : qtokOf (c :: r) = if signN (c :: r) = 0 then (.b, 1) else (.s, signN (c :: r)) := by show (if _ then _ else _) = _; rw [if_neg h1, if_neg h2]
      have hz : 1 ≤ (qtokOf (c :: r)).2 := by
        rw [e]
        split
        · exact Nat.le_refl _
        · show 1 ≤ signN (c :: r); omega
      have hk : (qtokOf (c :: r)).1 = .b ∨ (qtokOf (c :: r)).1 = .s := by
        rw [e]
        split
        · exact .inl rfl
        · exact .inr rfl
      refine ⟨hz, ?_, rfl, fun h => ?_, fun h => ?_, ?_, hd_take hz, fun h => absurd h (hlo _ hz)⟩
      · rw [e]
        split
        · simp
        · exact signN_le2 _
      · have h : (qtokOf (c :: r)).1 = .w := h
        rw [h] at hk; rcases hk with hk | hk <;> cases hk
      · have h : (qtokOf (c :: r)).1 = .n := h
        rw [h] at hk; rcases hk with hk | hk <;> cases hk
      · show (qtokOf (c :: r)).1 ≠ .e
        rcases hk with hk | hk <;> (rw [hk]; decide)
/-- A line's tokens. -/
structure QTs (l : List UInt8) (ts : List Tok) : Prop where
  ok : ∀ t, t ∈ ts → (t.kind = .w → lowC (hd0 t.text) = true ∧ ∀ c, c ∈ t.text.data.toList → wordC c = true) ∧ (t.kind = .n → ∃ ds tl, NumO t.text ds tl) ∧ t.kind ≠ .e
  c : costL (ts.map (·.text)) ≤ l.length
  f : (∀ c r, l = c :: r → wordC c = false) → costL (ts.map (·.text)) + fB (ts.map (·.text)) ≤ l.length
theorem fB_hd (a : ByteArray) (l : List ByteArray) : fB (a :: l) = if wordC (hd0 a) = true then 1 else 0 := rfl
theorem qtoks_cost : ∀ (f : Nat) (l : List UInt8) (p : Nat), l.length < f → ∃ ts, qtoksGo f l p = ts ++ [⟨.e, ⟨#[]⟩, p + l.length, 0⟩] ∧ QTs l ts
  | 0, l, p, h => by omega
  | f + 1, [], p, h => ⟨[], rfl, fun t ht => (by cases ht), Nat.le_refl _, fun _ => Nat.le_refl _⟩
  | f + 1, c :: r, p, h => by
    rw [qtoksGo]
    simp only [List.length_cons] at h
    by_cases hc : c = 32
    · rw [if_pos hc]
      obtain ⟨ts, e, ok, hco, hf⟩ := qtoks_cost f r (p + 1) (by omega)
      refine ⟨ts, by rw [e]; simp only [List.length_cons]; rw [show p + 1 + r.length = p + (r.length + 1) by omega], ok, by simp only [List.length_cons]; omega, fun _ => ?_⟩
      have := fB_le (ts.map (·.text))
      simp only [List.length_cons]
      omega
    · rw [if_neg hc]
      have q := qtok_is c r p
      obtain ⟨z, hz⟩ : ∃ z, z = (qtokOf (c :: r)).2 := ⟨_, rfl⟩
      obtain ⟨t, ht⟩ : ∃ t, t = qtokAt (c :: r) p := ⟨_, rfl⟩
      rw [← hz, ← ht] at q ⊢
      have z0 := q.z0
      have z1 := q.z1
      simp only [List.length_cons] at z1
      have dl : ((c :: r).drop z).length = r.length + 1 - z := by rw [List.length_drop]; rfl
      obtain ⟨ts, e, ok, hco, hf⟩ := qtoks_cost f ((c :: r).drop z) (p + z) (by omega)
      have tz : t.text.size = z := by rw [q.tx, ba_size, List.length_take]; simp only [List.length_cons]; omega
      have hcost : costL (t.text :: ts.map (·.text)) ≤ r.length + 1 := by
        show t.text.size + gapN t.text (ts.map (·.text)) + costL (ts.map (·.text)) ≤ _
        cases hm : ts.map (·.text) with
        | nil => rw [hm] at hco; show t.text.size + 0 + 0 ≤ _; omega
        | cons u us =>
          rw [hm] at hco hf
          rw [gap_min]
          by_cases hlo : lowC (hd0 t.text) = true
          · have := hf (q.mx hlo)
            omega
          · have : lB [t.text] = 0 := by unfold lB; simp only [List.getLast?_singleton]; rw [if_neg hlo]
            omega
      refine ⟨t :: ts, by rw [e, dl, show p + z + (r.length + 1 - z) = p + (c :: r).length by simp only [List.length_cons]; omega]; rfl, ?_, by simpa using hcost, fun hw => ?_⟩
      · intro u hu
        rcases List.mem_cons.1 hu with rfl | hu
        · exact ⟨q.w, q.n, q.e⟩
        · exact ok u hu
      · have e0 : hd0 t.text = c := q.hd
        have : fB (t.text :: ts.map (·.text)) = 0 := by rw [fB_hd, e0, hw c r rfl]; rfl
        simp only [List.map_cons, List.length_cons]
        omega
/-- What is asked of the tokens, of any line. -/
theorem qtoks_all (s : ByteArray) : ∃ ts, qtoks s = ts ++ [⟨.e, ⟨#[]⟩, s.size, 0⟩] ∧ TkOk (qtoks s) ∧ costL (ts.map (·.text)) ≤ s.size ∧ ∀ k, (tokAt (qtoks s) k).kind = .e ↔ ts.length ≤ k := by
  obtain ⟨ts, e, ok, hc, _⟩ := qtoks_cost (s.size + 1) s.data.toList 0 (by rw [bl_len]; omega)
  rw [bl_len, Nat.zero_add] at e
  have e : qtoks s = ts ++ [⟨.e, ⟨#[]⟩, s.size, 0⟩] := e
  rw [bl_len] at hc
  have cas : ∀ k, (∃ t, t ∈ ts ∧ tokAt (qtoks s) k = t ∧ k < ts.length) ∨ (ts.length ≤ k ∧ (tokAt (qtoks s) k).kind = .e) := fun k => by
    unfold tokAt
    rw [e]
    by_cases h : k < ts.length
    · refine .inl ⟨ts[k], List.getElem_mem h, ?_, h⟩
      rw [List.getElem?_append_left h, List.getElem?_eq_getElem h]
      rfl
    · refine .inr ⟨by omega, ?_⟩
      rw [List.getElem?_append_right (by omega)]
      by_cases h0 : k - ts.length = 0
      · rw [h0]; rfl
      · rw [List.getElem?_eq_none (by simp only [List.length_singleton]; omega)]; rfl
  refine ⟨ts, e, ⟨fun k hk => ?_, fun k hk => ?_⟩, hc, fun k => ?_⟩
  · rcases cas k with ⟨t, ht, h2, _⟩ | ⟨_, h⟩
    · rw [h2] at hk ⊢
      exact (ok t ht).1 hk
    · rw [h] at hk; cases hk
  · rcases cas k with ⟨t, ht, h2, _⟩ | ⟨_, h⟩
    · rw [h2] at hk ⊢
      exact (ok t ht).2.1 hk
    · rw [h] at hk; cases hk
  · rcases cas k with ⟨t, ht, h2, h3⟩ | ⟨h1, h⟩
    · rw [h2]
      exact ⟨fun e => absurd e (ok t ht).2.2, fun h => by omega⟩
    · exact ⟨fun _ => h1, fun _ => h⟩
/-- What may follow a token at once. -/
def SepC (t : ByteArray) (c : UInt8) : Prop := (kdOf t = .w → wordC c = false) ∧ (kdOf t = .n → numC c = false ∧ c ≠ 46) ∧ (isOrd t → c ≠ 61 ∧ c ≠ 62)
def Sep (t : ByteArray) (r : List UInt8) : Prop := ∀ c s, r = c :: s → SepC t c
theorem sep_blank (t : ByteArray) : SepC t 32 := ⟨fun _ => by decide, fun _ => by decide, fun _ => by decide⟩
theorem tw_app {q : UInt8 → Bool} {l r : List UInt8} (h : ∀ c, c ∈ l → q c = true) (hr : ∀ c s, r = c :: s → q c = false) : (l ++ r).takeWhile q = l := by
  rw [List.takeWhile_append_of_pos h]
  cases r with
  | nil => simp
  | cons c s => rw [List.takeWhile_cons, hr c s rfl]; simp
theorem sg_tok {c : UInt8} {r : List UInt8} (hc : c ∈ signsL) (h : isOrd (sg c) → ∀ d s, r = d :: s → d ≠ 61 ∧ d ≠ 62) : signN (c :: r) = 1 := by
  have ht : twoL (c :: r) = false := by
    cases r with
    | nil => rfl
    | cons d s =>
      rw [twoL, decide_eq_false_iff_not]
      rintro (⟨h1, h2⟩ | ⟨h1, h2⟩ | ⟨h1, h2⟩)
      · exact (h (.inl h1) d s rfl).1 h2
      · exact (h (.inl h1) d s rfl).2 h2
      · exact (h (.inr (.inr h1)) d s rfl).1 h2
  unfold signN
  rw [ht]
  simp only [Bool.false_eq_true, if_false]
  rw [if_pos (List.contains_iff_mem.2 hc)]
/-- A token in front of what may follow it is found again. -/
theorem tok_at {t : ByteArray} {r : List UInt8} (h : TxOk t) (hs : Sep t r) : qtokOf (t.data.toList ++ r) = (kdOf t, t.size) := by
  cases h with
  | w _ h ha =>
    have hk := low_kd h
    have hp := low_pos h
    unfold hd0 at h
    rw [hk]
    have e : (t.data.toList ++ r).takeWhile wordC = t.data.toList := tw_app ha fun c s e => (hs c s e).1 hk
    cases hl : t.data.toList with
    | nil => rw [← bl_len, hl] at hp; exact absurd hp (by simp)
    | cons c l =>
      rw [hl] at h e
      have h : lowC c = true := h
      show (if lowC c = true then _ else _) = _
      rw [if_pos h]
      show (TK.w, (((c :: l) ++ r).takeWhile wordC).length) = _
      rw [e, ← hl, bl_len]
  | n _ ds tl h =>
    have hk := h.kd
    rw [hk]
    have he := h.eq
    have hne := h.ne
    have hall := h.all
    have hz : t.size = ds.length + tl.length := by rw [← bl_len, he, List.length_append]
    have e1 : (ds ++ (tl ++ r)).takeWhile numC = ds := tw_app hall fun c s e => by
      rcases h.tl with e2 | ⟨a, b, e2, _, _⟩
      · rw [e2] at e
        exact ((hs c s e).2.1 hk).1
      · rw [e2] at e
        injection e with e _
        rw [← e]; decide
    have e2 : (ds ++ (tl ++ r)).drop ds.length = tl ++ r := by rw [List.drop_append_of_le_length (Nat.le_refl _), List.drop_length]; rfl
    have e3 : numEnd (ds ++ (tl ++ r)) = t.size := by
      unfold numEnd
      rw [e1, e2, hz]
      rcases h.tl with e3 | ⟨a, b, e3, ha, hb⟩
      · rw [e3]
        have : pointL ([] ++ r) = false := by
          match r, hs with
          | [], _ => rfl
          | [a], _ => rfl
          | [a, b], _ => rfl
          | a :: b :: c :: r, hs =>
            have := ((hs a (b :: c :: r) rfl).2.1 hk).2
            have h46 : ¬ a.toNat = 46 := fun e => this (UInt8.toNat_inj.1 e)
            simp [pointL, h46]
        rw [this]
        simp
      · rw [e3]
        have : pointL ([46, a, b] ++ r) = true := by simp [pointL, ha, hb]
        rw [this]
        simp
    cases hl : ds with
    | nil => exact absurd hl hne
    | cons c l =>
      have hc := hall c (by rw [hl]; simp)
      rw [he, List.append_assoc, hl]
      show (if lowC c = true then _ else if numC c = true then (TK.n, numEnd (c :: (l ++ (tl ++ r)))) else _) = _
      rw [num_not_low hc, if_neg (by simp), if_pos hc]
      rw [hl] at e3
      rw [show numEnd (c :: (l ++ (tl ++ r))) = t.size from e3]
  | s c h =>
    have e1 : signN (c :: r) = 1 := sg_tok h fun ho d s e => (hs d s e).2.2 ho
    have hlo : lowC c = false ∧ numC c = false := by
      simp only [signsL, List.mem_cons, List.not_mem_nil, or_false] at h
      rcases h with rfl | rfl | rfl | rfl | rfl | rfl | rfl | rfl | rfl | rfl | rfl | rfl | rfl | rfl <;> decide
    have hk : kdOf (sg c) = .s := by unfold kdOf; rw [show hd0 (sg c) = c from rfl, hlo.1, hlo.2]; rfl
    rw [hk]
    show (if lowC c = true then _ else if numC c = true then _ else if signN (c :: r) = 0 then (TK.b, 1) else (TK.s, signN (c :: r))) = _
    rw [hlo.1, hlo.2, e1]
    rfl
  | o _ h =>
    rcases h with rfl | rfl | rfl <;> rfl
theorem tx_hd {t : ByteArray} (h : TxOk t) : hd0 t ≠ 32 ∧ ∃ c l, t.data.toList = c :: l ∧ c = hd0 t := by
  have hp := h.pos
  constructor
  · intro e
    cases h with
    | w _ h _ => rw [e] at h; exact absurd h (by decide)
    | n _ ds tl h => have := h.hd; rw [e] at this; exact absurd this (by decide)
    | s c h =>
      have e : c = 32 := e
      rw [e] at h
      exact absurd h (by decide)
    | o _ h => rcases h with rfl | rfl | rfl <;> exact absurd e (by decide)
  · unfold hd0
    cases hl : t.data.toList with
    | nil => rw [← bl_len, hl] at hp; exact absurd hp (by simp)
    | cons c l => exact ⟨c, l, rfl, rfl⟩
/-- Where no blank is written nothing is joined that was two. -/
def Parts (ap : ByteArray → ByteArray → Bool) : Prop := ∀ a b, TxOk a → TxOk b → pairOk a b → ap a b = false → SepC a (hd0 b)
theorem join_toks {ap : ByteArray → ByteArray → Bool} (hap : Parts ap) : ∀ (P : List ByteArray) (p : ByteArray) (f pos : Nat), (∀ t, t ∈ P → TxOk t) → Adj P → (joinB ap p P).length < f → ∃ ts q, qtoksGo f (joinB ap p P) pos = ts ++ [⟨.e, ⟨#[]⟩, q, 0⟩] ∧ ts.map (·.text) = P ∧ ∀ t, t ∈ ts → t.kind = kdOf t.text
  | [], p, f, pos, _, _, hf => by
    obtain ⟨f, rfl⟩ : ∃ g, f = g + 1 := ⟨f - 1, by omega⟩
    exact ⟨[], pos, rfl, rfl, fun t ht => by cases ht⟩
  | x :: P, p, f, pos, htx, hadj, hf => by
    have hx := htx x (by simp)
    have hxp := hx.pos
    obtain ⟨h32, c, l, hl, hc⟩ := tx_hd hx
    have hsep : Sep x (joinB ap x P) := fun d s e => by
      cases P with
      | nil => cases e
      | cons y P =>
        have hy := htx y (by simp)
        obtain ⟨_, cy, ly, hly, hcy⟩ := tx_hd hy
        rw [joinB, if_neg (by omega)] at e
        cases ha : ap x y
        · rw [ha, hly] at e
          injection e with e _
          rw [← e, hcy]
          exact hap x y hx hy (hadj.1 y rfl) ha
        · rw [ha] at e
          injection e with e _
          rw [← e]
          exact sep_blank x
    have go : ∀ g q, (x.data.toList ++ joinB ap x P).length < g → ∃ ts r, qtoksGo g (x.data.toList ++ joinB ap x P) q = ts ++ [⟨.e, ⟨#[]⟩, r, 0⟩] ∧ ts.map (·.text) = x :: P ∧ ∀ t, t ∈ ts → t.kind = kdOf t.text := fun g q hg => by
      obtain ⟨g, rfl⟩ : ∃ g', g = g' + 1 := ⟨g - 1, by omega⟩
      have ht := tok_at hx hsep
      have hd : (x.data.toList ++ joinB ap x P).drop x.size = joinB ap x P := by rw [← bl_len, List.drop_append_of_le_length (Nat.le_refl _), List.drop_length]; rfl
      have hk : (x.data.toList ++ joinB ap x P).take x.size = x.data.toList := by rw [← bl_len, List.take_append_of_le_length (Nat.le_refl _), List.take_length]
      obtain ⟨ts, r, e, e2, e3⟩ := join_toks hap P x g (q + x.size) (fun t ht => htx t (by simp [ht])) hadj.2 (by
        rw [List.length_append, bl_len] at hg
        omega)
      have eq : qtokAt (x.data.toList ++ joinB ap x P) q = ⟨kdOf x, x, q, 0⟩ := by
        unfold qtokAt
        rw [ht]
        simp only [hk]
      refine ⟨⟨kdOf x, x, q, 0⟩ :: ts, r, ?_, by rw [List.map_cons, e2], fun t ht => ?_⟩
      · have e4 : x.data.toList ++ joinB ap x P = c :: (l ++ joinB ap x P) := by rw [hl]; rfl
        rw [e4] at ht hd eq ⊢
        rw [qtoksGo, if_neg (by rw [hc]; exact h32), ht, eq, hd, e]
        rfl
      · rcases List.mem_cons.1 ht with rfl | ht
        · rfl
        · exact e3 t ht
    rw [joinB] at hf ⊢
    by_cases hb : (if p.size = 0 then [] else if ap p x = true then [32] else []) = ([] : List UInt8)
    · rw [hb, List.nil_append] at hf ⊢
      exact go f pos hf
    · have hb2 : (if p.size = 0 then [] else if ap p x = true then [32] else []) = ([32] : List UInt8) := by
        split at hb
        · exact absurd rfl hb
        · split at hb
          · rename_i h1 h2; rw [if_neg h1, if_pos h2]
          · exact absurd rfl hb
      rw [hb2] at hf ⊢
      obtain ⟨f, rfl⟩ : ∃ g, f = g + 1 := ⟨f - 1, by omega⟩
      show ∃ ts q, qtoksGo (f + 1) (32 :: (x.data.toList ++ joinB ap x P)) pos = _ ∧ _
      rw [qtoksGo, if_pos rfl]
      refine go f (pos + 1) ?_
      have : ([32] ++ (x.data.toList ++ joinB ap x P) : List UInt8).length = (x.data.toList ++ joinB ap x P).length + 1 := rfl
      omega
end Go.Proofs.YtehbinobohjadaaGreatDoor
namespace Go.Proofs.YtehbinobohjadaaGreatDoor
open Go.RowKit Go.Extern.Stop Go.Stop Go.Extern

theorem parts_of {ap : ByteArray → ByteArray → Bool} (h : ∀ a b, apW a b = true → ap a b = true) : Parts ap := by
  intro a b ha hb hp hf
  have hw : apW a b = false := by
    cases e : apW a b
    · rfl
    · rw [h a b e] at hf; cases hf
  refine ⟨fun hk => ?_, fun hk => ⟨?_, ?_⟩, fun ho => ⟨fun e => hp.2 ⟨ho, .inr (.inl e)⟩, fun e => hp.2 ⟨ho, .inr (.inr e)⟩⟩⟩
  · have hl : lowC (hd0 a) = true := by
      unfold kdOf at hk
      split at hk
      · assumption
      · split at hk <;> cases hk
    unfold apW at hw
    rw [hl] at hw
    simpa using hw
  · cases e : numC (hd0 b)
    · rfl
    · exact absurd ⟨hk, by unfold kdOf; rw [num_not_low e, e]; rfl⟩ hp.1
  · intro e
    cases hb with
    | w _ h _ => rw [e] at h; exact absurd h (by decide)
    | n _ ds tl h => have := h.hd; rw [e] at this; exact absurd this (by decide)
    | s c h =>
      have e : c = 46 := e
      rw [e] at h
      exact absurd h (by decide)
    | o _ h => rcases h with rfl | rfl | rfl <;> exact absurd e (by decide)
theorem apW_both {a b : ByteArray} (h : apW a b = true) : lowC (hd0 a) = true ∧ wordC (hd0 b) = true := by
  unfold apW at h
  simpa using h
theorem parts_W : Parts apW := parts_of fun _ _ h => h
theorem apI_of {a b : ByteArray} (h : apW a b = true) : apI a b = true := by
  unfold apI
  rw [low_word (apW_both h).1, (apW_both h).2]
  rfl
theorem hd_list {b : ByteArray} {c : UInt8} (h : (b.toList == [c]) = true) : hd0 b = c := by
  rw [beq_iff_eq, Lib.toList_data] at h
  unfold hd0
  rw [h]
  rfl
theorem hd_list_no {b : ByteArray} (h : wordC (hd0 b) = true) (c : UInt8) (hc : wordC c = false) : (b.toList == [c]) = false := by
  cases e : (b.toList == [c])
  · rfl
  · rw [hd_list e, hc] at h; cases h
theorem apE_of {a b : ByteArray} (h : apW a b = true) : apE a b = true := by
  obtain ⟨h1, h2⟩ := apW_both h
  have h1 := low_word h1
  unfold apE
  rw [hd_list_no h2 58 (by decide), hd_list_no h2 44 (by decide), hd_list_no h2 59 (by decide), hd_list_no h2 41 (by decide), hd_list_no h2 93 (by decide), hd_list_no h2 37 (by decide), hd_list_no h2 40 (by decide), hd_list_no h1 40 (by decide), hd_list_no h1 91 (by decide)]
  rfl
theorem parts_I : Parts apI := parts_of fun _ _ h => apI_of h
theorem parts_E : Parts apE := parts_of fun _ _ h => apE_of h
theorem joinW_len : ∀ (P : List ByteArray) (p : ByteArray), (∀ t, t ∈ P → 0 < t.size) → (joinB apW p P).length = (if p.size = 0 then 0 else gapN p P) + costL P
  | [], p, _ => by
    show 0 = (if p.size = 0 then 0 else 0) + 0
    split <;> rfl
  | x :: P, p, h => by
    have hx := h x (by simp)
    rw [joinB, List.length_append, List.length_append, joinW_len P x fun t ht => h t (by simp [ht]), bl_len, if_neg (show ¬ x.size = 0 by omega)]
    show _ = _ + (x.size + gapN x P + costL P)
    have : (if p.size = 0 then [] else if apW p x = true then [32] else [] : List UInt8).length = if p.size = 0 then 0 else gapN p (x :: P) := by
      split
      · rfl
      · show _ = if apW p x = true then 1 else 0
        split <;> rfl
    rw [this]
    omega
theorem join_len {ap : ByteArray → ByteArray → Bool} : ∀ (P : List ByteArray) (p : ByteArray), (joinB ap p P).length ≤ totB P + P.length
  | [], p => Nat.le_refl _
  | x :: P, p => by
    rw [joinB, List.length_append, List.length_append, bl_len]
    have := join_len (ap := ap) P x
    have h1 : (if p.size = 0 then [] else if ap p x = true then [32] else [] : List UInt8).length ≤ 1 := by
      split
      · simp
      · split <;> simp
    show _ ≤ x.size + totB P + (P.length + 1)
    omega
/-- The line is joined in one of three ways, and has its room. -/
theorem line_is {P : List ByteArray} (h : ∀ t, t ∈ P → 0 < t.size) (hc : costL P ≤ 300) : ∃ ap, Parts ap ∧ (∀ a b, apW a b = true → ap a b = true) ∧ lineB P = jB ap P ∧ (jB ap P).size ≤ 300 := by
  have e0 : lineB P = if (jB apE P).size ≤ 300 then jB apE P else if (jB apI P).size ≤ 300 then jB apI P else jB apW P := rfl
  rw [e0]
  split
  · rename_i h1
    exact ⟨apE, parts_E, fun _ _ h => apE_of h, rfl, h1⟩
  · split
    · rename_i h1
      exact ⟨apI, parts_I, fun _ _ h => apI_of h, rfl, h1⟩
    · refine ⟨apW, parts_W, fun _ _ h => h, rfl, ?_⟩
      have := joinW_len P ⟨#[]⟩ h
      rw [if_pos (by rfl)] at this
      show (⟨(joinB apW ⟨#[]⟩ P).toArray⟩ : ByteArray).size ≤ 300
      rw [ba_size]
      omega
theorem at_of {L ts : List Tok} {q : Nat} {P : List ByteArray} (e : L = ts ++ [⟨.e, ⟨#[]⟩, q, 0⟩]) (ht : ts.map (·.text) = P) (hk : ∀ t, t ∈ ts → t.kind = kdOf t.text) : At L 0 P ∧ (tokAt L P.length).kind = .e ∧ (tokAt L P.length).text = ⟨#[]⟩ ∧ P.length + 1 = L.length := by
  have hl : ts.length = P.length := by rw [← ht, List.length_map]
  refine ⟨fun i t hi => ?_, ?_, ?_, by rw [e, List.length_append]; simp [hl]⟩
  · rw [← ht, List.getElem?_map] at hi
    obtain ⟨u, hu, hu2⟩ := Option.map_eq_some_iff.1 hi
    have hlt := (List.getElem?_eq_some_iff.1 hu).1
    have : tokAt L (0 + i) = u := by
      unfold tokAt
      rw [e, Nat.zero_add, List.getElem?_append_left hlt, hu]
      rfl
    rw [this]
    exact ⟨hu2, by rw [← hu2]; exact hk u (List.mem_of_getElem? hu)⟩
  · unfold tokAt
    rw [e, ← hl, List.getElem?_append_right (Nat.le_refl _), Nat.sub_self]
    rfl
  · unfold tokAt
    rw [e, ← hl, List.getElem?_append_right (Nat.le_refl _), Nat.sub_self]
    rfl
/-- A printed piece's line has its tokens. -/
theorem line_toks {P : List ByteArray} (h : Pz P) (hc : costL P ≤ 300) : At (qtoks (lineB P)) 0 P ∧ (tokAt (qtoks (lineB P)) P.length).kind = .e ∧ (tokAt (qtoks (lineB P)) P.length).text = ⟨#[]⟩ ∧ P.length + 1 = (qtoks (lineB P)).length ∧ (lineB P).size ≤ 300 := by
  obtain ⟨ap, hp, _, e, hz⟩ := line_is h.pos hc
  rw [e]
  have hj := join_toks hp P ⟨#[]⟩ ((jB ap P).size + 1) 0 h.tx h.adj (by
    have : (jB ap P).size = (joinB ap ⟨#[]⟩ P).length := ba_size _
    omega)
  obtain ⟨ts, q, e1, e2, e3⟩ := hj
  obtain ⟨a, b, c, d⟩ := at_of (L := qtoks (jB ap P)) e1 e2 e3
  exact ⟨a, b, c, d, hz⟩
/-! ### Sentences -/
def litW (pos : Bool) (head : ByteArray) : List ByteArray := if pos = true then [head] else [wNot, head]
def stW (st : Nat) : List ByteArray := if st = 1 then [] else if st = 0 then [wStrict] else [wDefeater]
inductive IfO : Nd → List ByteArray → Prop
  | none : IfO Nd.zero []
  | some {c : Nd} {C : List ByteArray} {m : Nat} (h : CondO c C m) (hm : m ≤ 40) : IfO c (wIf :: C)
def cmW : List ByteArray → List ByteArray
  | [] => []
  | x :: l => sg 44 :: x :: cmW l
def ovW : List ByteArray → List ByteArray
  | [] => []
  | x :: l => sg 59 :: wOver :: x :: cmW l
theorem cmW_app : ∀ (a b : List ByteArray), cmW (a ++ b) = cmW a ++ cmW b
  | [], b => rfl
  | x :: a, b => by
    show sg 44 :: x :: cmW (a ++ b) = _
    rw [cmW_app a b]
    rfl
def wayW (w : Nat) : List ByteArray := if w = 4 then [] else [sg 59, wRound, (waysW[w]?).getD ⟨#[]⟩]
def rollW (r : Nat) : List ByteArray := if r = 0 then [] else [sg 44, (rollsQ[r]?).getD ⟨#[]⟩]
def elsW (e : ByteArray) : List ByteArray := if e.size = 0 then [] else [wElse, e]
/-- A sentence as it is printed. -/
inductive SentO : SentW → List ByteArray → Prop
  | define (name : ByteArray) (hn : NameOk name) {c : Nd} {C : List ByteArray} {m : Nat} (hc : CondO c C m) (hm : m ≤ 40) : SentO { kind := wDefine, name := name, strength := 0, cond := c } (wDefine :: name :: sg 58 :: C)
  | rule (name head : ByteArray) (st : Nat) (pos : Bool) (ov : List ByteArray) (hn : NameOk name) (hh : NameOk head) (hs : st ≤ 2) (ho : ∀ x, x ∈ ov → NameOk x) {c : Nd} {I : List ByteArray} (hc : IfO c I) : SentO { kind := wRule, name := name, strength := st, positive := pos, head := head, cond := c, over := ov } (wRule :: name :: (stW st ++ (sg 58 :: (litW pos head ++ (I ++ ovW ov)))))
  | amount (name : ByteArray) (way : Nat) (hn : NameOk name) (hw : way < 6) {c s : Nd} {I S : List ByteArray} {m : Nat} (hs : SumO s S m) (hm : m ≤ 40) (hc : IfO c I) : SentO { kind := wAmount, name := name, strength := 0, sum := s, cond := c, way := way } (wAmount :: name :: sg 58 :: (S ++ (I ++ wayW way)))
  | duty (name head els : ByteArray) (pos : Bool) (tn tu tr : Nat) (hn : NameOk name) (hh : NameOk head) (h1 : tn ≤ 100000) (h2 : tu < 5) (h3 : tr ≤ 2) (he : els = ⟨#[]⟩ ∨ NameOk els) : SentO { kind := wDuty, name := name, strength := 0, positive := pos, head := head, tn := tn, tu := tu, tr := tr, els := els } (wDuty :: name :: sg 58 :: (litW pos head ++ (wWithin :: itoaB tn :: (unitsW[tu]?).getD ⟨#[]⟩ :: (rollW tr ++ elsW els))))
/-- It costs no more, or there is nothing of both. -/
def LeE (P Q : List ByteArray) : Prop := (P = [] ∧ Q = []) ∨ Le P Q
theorem Le.appE {A B P Q : List ByteArray} (h : Le A B) (k : LeE P Q) : Le (A ++ P) (B ++ Q) := by
  rcases k with ⟨rfl, rfl⟩ | k
  · rw [List.append_nil, List.append_nil]; exact h
  · exact h.app k
theorem LeE.app {A B P Q : List ByteArray} (h : LeE A B) (k : LeE P Q) : LeE (A ++ P) (B ++ Q) := by
  rcases h with ⟨rfl, rfl⟩ | h
  · exact k
  · exact .inr (h.appE k)
theorem Le.more {A B Q : List ByteArray} (h : Le A B) (hq : Q ≠ []) (hc : 1 ≤ costL Q) : Le A (B ++ Q) := by
  have e := costL_app B Q h.q hq
  have f := fB_app (Q := Q) h.q
  have := lB_le A
  have := fB_le A
  have := fB_le B
  obtain ⟨p, q, a, b, c, d⟩ := h
  exact ⟨p, by simp [q], by omega, by omega, by omega, by omega⟩
theorem Le.cons {P Q : List ByteArray} (h : Le P Q) (t : ByteArray) : Le (t :: P) (t :: Q) := (Le.refl (P := [t]) (by simp)).app h
theorem place_get {l : List ByteArray} {s : ByteArray} {i : Nat} (h : placeIn l s = some i) : l[i]? = some s := by
  unfold placeIn at h
  rw [List.findIdx?_eq_some_iff_getElem] at h
  obtain ⟨hi, h1, _⟩ := h
  rw [List.getElem?_eq_getElem hi, (eqB_iff _ _).1 h1]
theorem litQ_ok {L : List Tok} (hL : TkOk L) {k n k' n' : Nat} {x : Bool × ByteArray} (h : litQ L k n = .ok x k' n') : n' = n ∧ k < k' ∧ NameOk x.2 ∧ Le (litW x.1 x.2) (seg L k k') := by
  unfold litQ at h
  obtain ⟨w, k1, n1, e1, hh⟩ := PR.bind_okE h; clear h; have h := hh; clear hh
  obtain ⟨hw, hk, rfl, ho⟩ := nameQ_ok hL e1
  injection h with h1 h2 h3
  subst h1; subst h2; subst h3
  by_cases hi : isQ L wNot k = true
  · rw [if_pos hi] at hk hw
    rw [hk]
    refine ⟨rfl, by omega, ho, ?_⟩
    rw [seg_cons (by omega), seg_one, isQ_iff.1 hi, ← hw, hi]
    exact Le.refl (P := [wNot, w]) (by simp)
  · rw [if_neg hi] at hk hw
    rw [hk]
    refine ⟨rfl, by omega, ho, ?_⟩
    rw [seg_one, ← hw, Bool.eq_false_iff.2 hi]
    exact Le.refl (P := [w]) (by simp)
theorem condQ_ok {L : List Tok} (hL : TkOk L) {f k n k' n' : Nat} {x : Nd} (hn : n = 0) (h : condQ L f k n = .ok x k' n') : n' = 0 ∧ k ≤ k' ∧ ∃ I, IfO x I ∧ LeE I (seg L k k') := by
  subst hn
  unfold condQ at h
  split at h
  · rename_i hi
    obtain ⟨rfl, hc⟩ := (prd hL f).ei _ _ _ _ _ (by omega) h
    obtain ⟨P, m, hp, hm, hle⟩ := hc.all
    have hk := hc.1
    refine ⟨rfl, by omega, _, IfO.some hp (by omega), .inr ?_⟩
    rw [seg_cons (by omega), isQ_iff.1 hi]
    exact hle.cons _
  · injection h with h1 h2 h3
    subst h1; subst h2; subst h3
    exact ⟨rfl, Nat.le_refl _, [], IfO.none, .inl ⟨rfl, seg_self _ _⟩⟩
theorem commaQ_ok {L : List Tok} (hL : TkOk L) : ∀ (f : Nat) (l : List ByteArray) (k n : Nat) (x : List ByteArray) (k' n' : Nat), commaQ L f l k n = .ok x k' n' → n' = n ∧ k ≤ k' ∧ ∃ a, x = l ++ a ∧ (∀ y, y ∈ a → NameOk y) ∧ LeE (cmW a) (seg L k k')
  | 0, l, k, n, x, k', n', h => by cases h
  | f + 1, l, k, n, x, k', n', h => by
    rw [commaQ] at h
    split at h
    · rename_i hi
      obtain ⟨w, k1, n1, e1, hh⟩ := PR.bind_okE h; clear h; have h := hh; clear hh
      obtain ⟨hw, rfl, rfl, ho⟩ := nameQ_ok hL e1
      obtain ⟨rfl, hk, a, rfl, ha, hle⟩ := commaQ_ok hL f _ _ _ _ _ _ h
      refine ⟨rfl, by omega, w :: a, by rw [List.append_assoc]; rfl, fun y hy => ?_, .inr ?_⟩
      · rcases List.mem_cons.1 hy with rfl | hy
        · exact ho
        · exact ha y hy
      · rw [seg_cons (show k < k' by omega), seg_cons (show k + 1 < k' by omega), isQ_iff.1 hi, ← hw]
        exact (Le.refl (P := [sg 44, w]) (by simp)).appE hle
    · injection h with h1 h2 h3
      subst h1; subst h2; subst h3
      exact ⟨rfl, Nat.le_refl _, [], by simp, fun y hy => (by cases hy), .inl ⟨rfl, seg_self _ _⟩⟩
theorem le_over : Le [sg 44] [sg 59, wOver] := ⟨by simp, by simp, by decide, by decide, by decide, by decide⟩
theorem overQ_ok {L : List Tok} (hL : TkOk L) : ∀ (f : Nat) (l : List ByteArray) (k n : Nat) (x : List ByteArray) (k' n' : Nat), overQ L f l k n = .ok x k' n' → n' = n ∧ k ≤ k' ∧ ∃ a, x = l ++ a ∧ (∀ y, y ∈ a → NameOk y) ∧ LeE (if l = [] then ovW a else cmW a) (seg L k k')
  | 0, l, k, n, x, k', n', h => by cases h
  | f + 1, l, k, n, x, k', n', h => by
    rw [overQ] at h
    split at h
    · rename_i hi
      obtain ⟨_, k0, n0, e0, hh⟩ := PR.bind_okE h; clear h; have h := hh; clear hh
      obtain ⟨hov, rfl, rfl⟩ := needQ_ok e0
      obtain ⟨w, k1, n1, e1, hh⟩ := PR.bind_okE h; clear h; have h := hh; clear hh
      obtain ⟨hw, rfl, rfl, ho⟩ := nameQ_ok hL e1
      obtain ⟨y, k2, n2, e2, hh⟩ := PR.bind_okE h; clear h; have h := hh; clear hh
      obtain ⟨rfl, hk, a, rfl, ha, hle⟩ := commaQ_ok hL f _ _ _ _ _ _ e2
      obtain ⟨rfl, hk2, b, rfl, hb, hle2⟩ := overQ_ok hL f _ _ _ _ _ _ h
      rw [if_neg (by simp)] at hle2
      refine ⟨rfl, by omega, w :: (a ++ b), by simp, fun y hy => ?_, .inr ?_⟩
      · rcases List.mem_cons.1 hy with rfl | hy
        · exact ho
        · rcases List.mem_append.1 hy with hy | hy
          · exact ha y hy
          · exact hb y hy
      · have hs : seg L k k' = [sg 59, wOver] ++ ([w] ++ (seg L (k + 1 + 1 + 1) k2 ++ seg L k2 k')) := by
          rw [seg_cons (show k < k' by omega), seg_cons (show k + 1 < k' by omega), seg_cons (show k + 1 + 1 < k' by omega), seg_app hk hk2, isQ_iff.1 hi, hov, ← hw]
          rfl
        have hx : Le ([w] ++ cmW (a ++ b)) ([w] ++ (seg L (k + 1 + 1 + 1) k2 ++ seg L k2 k')) := by
          rw [cmW_app]
          exact (Le.refl (P := [w]) (by simp)).appE (hle.app hle2)
        rw [hs]
        split
        · exact (Le.refl (P := [sg 59, wOver]) (by simp)).app hx
        · exact le_over.app hx
    · injection h with h1 h2 h3
      subst h1; subst h2; subst h3
      exact ⟨rfl, Nat.le_refl _, [], by simp, fun y hy => (by cases hy), .inl ⟨by split <;> rfl, seg_self _ _⟩⟩
theorem oneOfQ_ok {L : List Tok} (hL : TkOk L) {ls : List ByteArray} {k n k' n' x : Nat} (h : oneOfQ L ls k n = .ok x k' n') : k' = k + 1 ∧ n' = n ∧ ls[x]? = some (tokAt L k).text ∧ lowC (hd0 (tokAt L k).text) = true := by
  unfold oneOfQ at h
  split at h
  · rename_i hk
    split at h
    · cases h
    · rename_i i hi
      injection h with h1 h2 h3
      subst h1
      exact ⟨h2.symm, h3.symm, place_get hi, (hL.w k hk).1⟩
  · cases h
theorem NumO.nop {t : ByteArray} {ds tl : List UInt8} (h : NumO t ds tl) (hp : pointB t = false) : tl = [] := by
  rcases h.tl with e | ⟨a, b, e, _, _⟩
  · exact e
  · unfold pointB at hp
    rw [h.eq, e] at hp
    simp at hp
theorem lengthQ_ok {L : List Tok} (hL : TkOk L) {k n k' n' x : Nat} (h : lengthQ L k n = .ok x k' n') : k' = k + 1 ∧ n' = n ∧ x ≤ 100000 ∧ Le [itoaB x] [(tokAt L k).text] := by
  unfold lengthQ at h
  split at h
  · rename_i hc
    injection h with h1 h2 h3
    obtain ⟨ds, tl, hn⟩ := hL.n k hc.1
    have htl := hn.nop hc.2.1
    subst htl
    have he : (tokAt L k).text.data.toList = ds := by rw [hn.eq, List.append_nil]
    subst h1
    refine ⟨h2.symm, h3.symm, hc.2.2.2, ?_⟩
    have hs := dec_short hn.ne hn.all
    rw [← he] at hs
    have hh : numC (hd0 (itoaB (dvL (tokAt L k).text.data.toList 0))) = true := by
      unfold hd0
      rw [itoaB_list]
      have h1 := dec_all (dvL (tokAt L k).text.data.toList 0)
      cases hd : Lib.decDigits (dvL (tokAt L k).text.data.toList 0) with
      | nil => exact absurd hd (dec_ne _)
      | cons c l => rw [hd] at h1; exact h1 c (by simp)
    refine Le.one ?_ (by rw [num_word hh, num_word hn.hd]) (by rw [num_not_low hh, num_not_low hn.hd])
    rw [← bl_len, ← bl_len, itoaB_list]
    exact hs
  · cases h
theorem strong_ok {L : List Tok} (hL : TkOk L) (k : Nat) : k ≤ (strongQ L wRule k).2 ∧ (strongQ L wRule k).1.toNat ≤ 2 ∧ LeE (stW (strongQ L wRule k).1.toNat) (seg L k (strongQ L wRule k).2) := by
  have e0 : strongQ L wRule k = perhapsQ L strengthsQ 1 k := by unfold strongQ; rw [if_pos (eqB_yes _)]
  rw [e0]
  unfold perhapsQ
  split
  · rename_i hk
    split
    · exact ⟨Nat.le_refl _, (by decide : (1 : Int).toNat ≤ 2), .inl ⟨rfl, seg_self _ _⟩⟩
    · rename_i i hi
      have hg := place_get hi
      have hlo := (hL.w k hk).1
      show k ≤ k + 1 ∧ (i : Int).toNat ≤ 2 ∧ LeE (stW (i : Int).toNat) (seg L k (k + 1))
      rw [Int.toNat_natCast, seg_one]
      refine ⟨by omega, ?_, .inr ?_⟩
      · have := (List.getElem?_eq_some_iff.1 hg).1
        simp only [strengthsQ, List.length_cons, List.length_nil] at this
        omega
      · match i, hg with
        | 0, hg => injection hg with hg; rw [← hg]; exact Le.refl (P := [wStrict]) (by simp)
        | 1, hg => injection hg with hg; rw [← hg] at hlo; exact absurd hlo (by decide)
        | 2, hg => injection hg with hg; rw [← hg]; exact Le.refl (P := [wDefeater]) (by simp)
        | i + 3, hg => simp [strengthsQ] at hg
  · exact ⟨Nat.le_refl _, (by decide : (1 : Int).toNat ≤ 2), .inl ⟨rfl, seg_self _ _⟩⟩
theorem rollQ_ok {L : List Tok} (hL : TkOk L) {k n k' n' x : Nat} (h : rollQ L k n = .ok x k' n') : k ≤ k' ∧ n' = n ∧ x ≤ 2 ∧ LeE (rollW x) (seg L k k') := by
  unfold rollQ at h
  split at h
  · rename_i hi
    obtain ⟨rfl, rfl, hg, hlo⟩ := oneOfQ_ok hL h
    have hx : x = 1 ∨ x = 2 := by
      match x, hg with
      | 0, hg => injection hg with hg; rw [← hg] at hlo; exact absurd hlo (by decide)
      | 1, _ => exact .inl rfl
      | 2, _ => exact .inr rfl
      | i + 3, hg => simp [rollsQ] at hg
    refine ⟨by omega, rfl, by omega, .inr ?_⟩
    unfold rollW
    rw [if_neg (by omega), seg_cons (by omega), seg_one, isQ_iff.1 hi, hg]
    exact Le.refl (by simp)
  · injection h with h1 h2 h3
    subst h1; subst h2; subst h3
    exact ⟨Nat.le_refl _, rfl, by omega, .inl ⟨rfl, seg_self _ _⟩⟩
theorem tailQ_ok {L : List Tok} (hL : TkOk L) {k n k' n' : Nat} {x : ByteArray} (h : tailQ L k n = .ok x k' n') : k ≤ k' ∧ n' = n ∧ (x = ⟨#[]⟩ ∨ NameOk x) ∧ LeE (elsW x) (seg L k k') := by
  unfold tailQ at h
  split at h
  · rename_i hi
    obtain ⟨hw, rfl, rfl, ho⟩ := nameQ_ok hL h
    refine ⟨by omega, rfl, .inr ho, .inr ?_⟩
    unfold elsW
    have := low_pos ho.lo
    rw [if_neg (by omega), seg_cons (by omega), seg_one, isQ_iff.1 hi, ← hw]
    exact Le.refl (by simp)
  · injection h with h1 h2 h3
    subst h1; subst h2; subst h3
    exact ⟨Nat.le_refl _, rfl, .inl rfl, .inl ⟨rfl, seg_self _ _⟩⟩
/-- A sentence that was read is printed in no more room. -/
theorem sent_ok {L : List Tok} (hL : TkOk L) {f k' n' : Nat} {x : SentW} (hK : (tokAt L 0).text = wDefine ∨ (tokAt L 0).text = wRule ∨ (tokAt L 0).text = wAmount ∨ (tokAt L 0).text = wDuty) (h : sentQ L f 0 0 = .ok x k' n') : (tokAt L k').kind = .e ∧ ∃ P, SentO x P ∧ Le P (seg L 0 k') := by
  unfold sentQ at h
  obtain ⟨name, k1, n1, e1, hh⟩ := PR.bind_okE h; clear h; have h := hh; clear hh
  obtain ⟨hw, rfl, rfl, ho⟩ := nameQ_ok hL e1
  obtain ⟨_, k2, n2, e2, hh⟩ := PR.bind_okE h; clear h; have h := hh; clear hh
  obtain ⟨hcol, rfl, rfl⟩ := needQ_ok e2
  obtain ⟨y, k3, n3, e3, hh⟩ := PR.bind_okE h; clear h; have h := hh; clear hh
  split at h
  · rename_i hend
    injection h with h1 h2 h3
    subst h1; subst h2; subst h3
    refine ⟨hend, ?_⟩
    have hw : name = (tokAt L 1).text := hw
    have hcol : (tokAt L (strongQ L (tokAt L 0).text 2).2).text = sg 58 := hcol
    unfold bodyQ at e3
    by_cases hd : (tokAt L 0).text = wDefine
    · have hq : strongQ L (tokAt L 0).text (0 + 1 + 1) = (0, 2) := by unfold strongQ; rw [hd, if_neg (eqB_not (by decide))]
      rw [if_pos (by rw [hd]; exact eqB_yes _), hq, hd] at e3
      have hq2 : strongQ L (tokAt L 0).text 2 = (0, 2) := hq
      rw [hq2] at hcol
      obtain ⟨c, k4, n4, e4, hh⟩ := PR.bind_okE e3; clear e3; have e3 := hh; clear hh
      obtain ⟨rfl, hc⟩ := (prd hL f).ei _ _ _ _ _ (by omega) e4
      injection e3 with h1 h2 h3
      subst h1; subst h2
      obtain ⟨P, m, hp, hm, hle⟩ := hc.all
      have hk := hc.1
      refine ⟨_, SentO.define name ho hp (by omega), ?_⟩
      have hk : 3 < k4 := hk
      rw [seg_cons (show 0 < k4 by omega), seg_cons (show 0 + 1 < k4 by omega), seg_cons (show 0 + 1 + 1 < k4 by omega), hd]
      show Le _ (wDefine :: (tokAt L 1).text :: (tokAt L 2).text :: seg L 3 k4)
      rw [← hw, hcol]
      exact ((hle.cons _).cons _).cons _
    · rw [if_neg (fun e => hd ((eqB_iff _ _).1 e))] at e3
      by_cases hr : (tokAt L 0).text = wRule
      · rw [hr] at e3 hcol
        rw [if_pos (eqB_yes _)] at e3
        obtain ⟨hs1, hs2, hs3⟩ := strong_ok hL 2
        obtain ⟨sq, hsq⟩ : ∃ sq, sq = strongQ L wRule 2 := ⟨_, rfl⟩
        have hsq' : strongQ L wRule (0 + 1 + 1) = sq := hsq.symm
        rw [hsq'] at e3
        rw [← hsq] at hs1 hs2 hs3 hcol
        obtain ⟨r, k4, n4, e4, hh⟩ := PR.bind_okE e3; clear e3; have e3 := hh; clear hh
        injection e3 with h1 h2 h3
        subst h1; subst h2
        unfold ruleQ at e4
        obtain ⟨l, k5, n5, e5, hh⟩ := PR.bind_okE e4; clear e4; have e4 := hh; clear hh
        obtain ⟨rfl, hk5, hhd, hle5⟩ := litQ_ok hL e5
        obtain ⟨c, k6, n6, e6, hh⟩ := PR.bind_okE e4; clear e4; have e4 := hh; clear hh
        obtain ⟨rfl, hk6, I, hI, hle6⟩ := condQ_ok hL rfl e6
        obtain ⟨o, k7, n7, e7, hh⟩ := PR.bind_okE e4; clear e4; have e4 := hh; clear hh
        obtain ⟨rfl, hk7, a, ha, hao, hle7⟩ := overQ_ok hL _ _ _ _ _ _ _ e7
        injection e4 with h1 h2 h3
        subst h1; subst h2
        rw [List.nil_append] at ha
        subst ha
        rw [if_pos rfl] at hle7
        refine ⟨_, SentO.rule name l.2 sq.1.toNat l.1 o ho hhd hs2 hao hI, ?_⟩
        rw [seg_cons (show 0 < k7 by omega), seg_cons (show 0 + 1 < k7 by omega), seg_app (show 0 + 1 + 1 ≤ sq.2 from hs1) (show sq.2 ≤ k7 by omega), seg_cons (show sq.2 < k7 by omega), seg_app (show sq.2 + 1 ≤ k5 by omega) (show k5 ≤ k7 by omega), seg_app hk6 hk7, hr]
        show Le _ (wRule :: (tokAt L 1).text :: (seg L 2 sq.2 ++ _))
        rw [← hw, hcol]
        refine (Le.cons ?_ _).cons _
        have hx := (hle5.appE (hle6.app hle7)).cons (sg 58)
        rcases hs3 with ⟨ea, eb⟩ | hs3
        · rw [ea, eb]; exact hx
        · exact hs3.app hx
      · rw [if_neg (fun e => hr ((eqB_iff _ _).1 e))] at e3
        have hq : strongQ L (tokAt L 0).text (0 + 1 + 1) = (0, 2) := by unfold strongQ; rw [if_neg (fun e => hr ((eqB_iff _ _).1 e))]
        have hq2 : strongQ L (tokAt L 0).text 2 = (0, 2) := hq
        rw [hq2] at hcol
        by_cases hm : (tokAt L 0).text = wAmount
        · rw [if_pos (by rw [hm]; exact eqB_yes _), hq, hm] at e3
          obtain ⟨r, k4, n4, e4, hh⟩ := PR.bind_okE e3; clear e3; have e3 := hh; clear hh
          injection e3 with h1 h2 h3
          subst h1; subst h2
          unfold amountQ at e4
          obtain ⟨s, k5, n5, e5, hh⟩ := PR.bind_okE e4; clear e4; have e4 := hh; clear hh
          obtain ⟨rfl, hs⟩ := (prd hL f).su _ _ _ _ _ (by omega) e5
          obtain ⟨S, m, hp, hm40, hle⟩ := hs.all
          have hk5 : 3 < k5 := hs.1
          obtain ⟨c, k6, n6, e6, hh⟩ := PR.bind_okE e4; clear e4; have e4 := hh; clear hh
          obtain ⟨rfl, hk6, I, hI, hle6⟩ := condQ_ok hL rfl e6
          have base : seg L 0 k6 = wAmount :: name :: sg 58 :: (seg L 3 k5 ++ seg L k5 k6) := by
            rw [seg_cons (show 0 < k6 by omega), seg_cons (show 0 + 1 < k6 by omega), seg_cons (show 0 + 1 + 1 < k6 by omega), hm]
            show wAmount :: (tokAt L 1).text :: (tokAt L 2).text :: seg L 3 k6 = _
            rw [← hw, hcol, seg_app (show 3 ≤ k5 by omega) hk6]
          have hle : Le S (seg L 3 k5) := hle
          split at e4
          · rename_i hi
            obtain ⟨_, k7, n7, e7, hh⟩ := PR.bind_okE e4; clear e4; have e4 := hh; clear hh
            obtain ⟨hrd, rfl, rfl⟩ := needQ_ok e7
            obtain ⟨w, k8, n8, e8, hh⟩ := PR.bind_okE e4; clear e4; have e4 := hh; clear hh
            obtain ⟨rfl, rfl, hg, hlo⟩ := oneOfQ_ok hL e8
            injection e4 with h1 h2 h3
            subst h1; subst h2
            have hw6 : w < 6 := (List.getElem?_eq_some_iff.1 hg).1
            refine ⟨_, SentO.amount name w ho hw6 hp (by omega) hI, ?_⟩
            have hsg : seg L 0 (k6 + 1 + 1 + 1) = (wAmount :: name :: sg 58 :: (seg L 3 k5 ++ seg L k5 k6)) ++ [sg 59, wRound, (tokAt L (k6 + 1 + 1)).text] := by
              rw [seg_app (show 0 ≤ k6 by omega) (show k6 ≤ k6 + 1 + 1 + 1 by omega), base, seg_cons (show k6 < k6 + 1 + 1 + 1 by omega), seg_cons (show k6 + 1 < k6 + 1 + 1 + 1 by omega), seg_one, isQ_iff.1 hi, hrd]
            rw [hsg]
            have hx := (((hle.appE hle6).cons (sg 58)).cons name).cons wAmount
            by_cases h4 : w = 4
            · show Le (wAmount :: name :: sg 58 :: (S ++ (I ++ wayW w))) _
              rw [show wayW w = [] by unfold wayW; rw [if_pos h4], List.append_nil]
              exact hx.more (by simp) (by show 1 ≤ 1 + _ + _; omega)
            · show Le (wAmount :: name :: sg 58 :: (S ++ (I ++ wayW w))) _
              rw [show wayW w = [sg 59, wRound, (tokAt L (k6 + 1 + 1)).text] by unfold wayW; rw [if_neg h4, hg]; rfl]
              have hy := hx.app (Le.refl (P := [sg 59, wRound, (tokAt L (k6 + 1 + 1)).text]) (by simp))
              have ee : (wAmount :: name :: sg 58 :: (S ++ I)) ++ [sg 59, wRound, (tokAt L (k6 + 1 + 1)).text] = wAmount :: name :: sg 58 :: (S ++ (I ++ [sg 59, wRound, (tokAt L (k6 + 1 + 1)).text])) := by simp
              rw [ee] at hy
              exact hy
          · injection e4 with h1 h2 h3
            subst h1; subst h2
            refine ⟨_, SentO.amount name 4 ho (by omega) hp (by omega) hI, ?_⟩
            rw [base, show wayW 4 = [] from rfl, List.append_nil]
            exact (((hle.appE hle6).cons (sg 58)).cons name).cons wAmount
        · have hdu : (tokAt L 0).text = wDuty := by
            rcases hK with e | e | e | e
            · exact absurd e hd
            · exact absurd e hr
            · exact absurd e hm
            · exact e
          rw [if_neg (fun e => hm ((eqB_iff _ _).1 e)), if_pos (by rw [hdu]; exact eqB_yes _), hq, hdu] at e3
          obtain ⟨r, k4, n4, e4, hh⟩ := PR.bind_okE e3; clear e3; have e3 := hh; clear hh
          injection e3 with h1 h2 h3
          subst h1; subst h2
          unfold dutyQ at e4
          obtain ⟨l, k5, n5, e5, hh⟩ := PR.bind_okE e4; clear e4; have e4 := hh; clear hh
          obtain ⟨rfl, hk5, hhd, hle5⟩ := litQ_ok hL e5
          obtain ⟨_, k6, n6, e6, hh⟩ := PR.bind_okE e4; clear e4; have e4 := hh; clear hh
          obtain ⟨hwi, rfl, rfl⟩ := needQ_ok e6
          obtain ⟨t, k7, n7, e7, hh⟩ := PR.bind_okE e4; clear e4; have e4 := hh; clear hh
          obtain ⟨rfl, rfl, ht, hle7⟩ := lengthQ_ok hL e7
          obtain ⟨u, k8, n8, e8, hh⟩ := PR.bind_okE e4; clear e4; have e4 := hh; clear hh
          obtain ⟨rfl, rfl, hg8, hlo8⟩ := oneOfQ_ok hL e8
          obtain ⟨ro, k9, n9, e9, hh⟩ := PR.bind_okE e4; clear e4; have e4 := hh; clear hh
          obtain ⟨hk9, rfl, hro, hle9⟩ := rollQ_ok hL e9
          obtain ⟨el, k10, n10, e10, hh⟩ := PR.bind_okE e4; clear e4; have e4 := hh; clear hh
          obtain ⟨hk10, rfl, hel, hle10⟩ := tailQ_ok hL e10
          injection e4 with h1 h2 h3
          subst h1; subst h2
          have hu5 : u < 5 := (List.getElem?_eq_some_iff.1 hg8).1
          refine ⟨_, SentO.duty name l.2 el l.1 t u ro ho hhd ht hu5 hro hel, ?_⟩
          have hk5 : 3 < k5 := hk5
          have hle5 : Le (litW l.1 l.2) (seg L 3 k5) := hle5
          rw [seg_cons (show 0 < k10 by omega), seg_cons (show 0 + 1 < k10 by omega), seg_cons (show 0 + 1 + 1 < k10 by omega), hdu]
          show Le _ (wDuty :: (tokAt L 1).text :: (tokAt L 2).text :: seg L 3 k10)
          rw [← hw, hcol, seg_app (show 3 ≤ k5 by omega) (show k5 ≤ k10 by omega), seg_cons (show k5 < k10 by omega), seg_cons (show k5 + 1 < k10 by omega), seg_cons (show k5 + 1 + 1 < k10 by omega), seg_app hk9 hk10, hwi, hg8]
          refine ((Le.cons ?_ _).cons _).cons _
          refine hle5.app (Le.cons ?_ _)
          exact hle7.app ((Le.refl (P := [(tokAt L (k5 + 1 + 1)).text]) (by simp)).appE (hle9.app hle10))
  · cases h
end Go.Proofs.YtehbinobohjadaaGreatDoor
namespace Go.Proofs.YtehbinobohjadaaGreatDoor
open Go.RowKit Go.Extern.Stop Go.Stop Go.Extern

/-- A sentence as the writer has it. -/
def toS (x : SentW) : SentT := ⟨x.kind, x.name, x.strength, x.positive, x.head, toT x.cond, toT x.sum, x.way, x.over, x.tn, x.tu, x.tr, x.els⟩
theorem CondO.kind_pos {x : Nd} {P : List ByteArray} {m : Nat} (h : CondO x P m) : 0 < x.kind.size := by
  cases h with
  | name w h => show 0 < 4; omega
  | cmp k hk ha hb => exact (orders_tx hk).pos
  | of k w hk h ha =>
    rcases hk with rfl | rfl
    · show 0 < 4; omega
    · show 0 < 5; omega
  | not ha => show 0 < 3; omega
  | and ha hb => show 0 < 3; omega
  | or ha hb => show 0 < 2; omega
theorem itoa_num (n : Nat) : NumO (itoaB n) (Lib.decDigits n) [] := ⟨by rw [itoaB_list, List.append_nil], dec_ne _, dec_all _, .inl rfl⟩
/-! ### Printed pieces -/
theorem pz_lit {pos : Bool} {head : ByteArray} (h : NameOk head) : Pz (litW pos head) := by
  cases pos
  · exact Pz.cons (mid_gram (by simp [gramW])) (Pz.cons h.mid Pz.nil)
  · exact Pz.cons h.mid Pz.nil
theorem IfO.pz {c : Nd} {I : List ByteArray} (h : IfO c I) : Pz I := by
  cases h with
  | none => exact Pz.nil
  | some h hm => exact Pz.cons (mid_gram (by simp [gramW])) h.pz
theorem pz_cm : ∀ {l : List ByteArray}, (∀ x, x ∈ l → NameOk x) → Pz (cmW l)
  | [], _ => Pz.nil
  | x :: l, h => Pz.cons m44 (Pz.cons (h x (by simp)).mid (pz_cm fun y hy => h y (by simp [hy])))
theorem pz_ov {l : List ByteArray} (h : ∀ x, x ∈ l → NameOk x) : Pz (ovW l) := by
  cases l with
  | nil => exact Pz.nil
  | cons x l => exact Pz.cons m59 (Pz.cons (mid_gram (by simp [gramW])) (Pz.cons (h x (by simp)).mid (pz_cm fun y hy => h y (by simp [hy]))))
theorem ways_mem {w : Nat} (h : w < 6) : ∃ t, waysW[w]? = some t ∧ t ∈ gramW := by
  match w, h with
  | 0, _ => exact ⟨_, rfl, by simp [gramW]⟩
  | 1, _ => exact ⟨_, rfl, by simp [gramW]⟩
  | 2, _ => exact ⟨_, rfl, by simp [gramW]⟩
  | 3, _ => exact ⟨_, rfl, by simp [gramW]⟩
  | 4, _ => exact ⟨_, rfl, by simp [gramW]⟩
  | 5, _ => exact ⟨_, rfl, by simp [gramW]⟩
theorem units_mem {w : Nat} (h : w < 5) : ∃ t, unitsW[w]? = some t ∧ t ∈ gramW := by
  match w, h with
  | 0, _ => exact ⟨_, rfl, by simp [gramW]⟩
  | 1, _ => exact ⟨_, rfl, by simp [gramW]⟩
  | 2, _ => exact ⟨_, rfl, by simp [gramW]⟩
  | 3, _ => exact ⟨_, rfl, by simp [gramW]⟩
  | 4, _ => exact ⟨_, rfl, by simp [gramW]⟩
theorem rolls_mem {w : Nat} (h : w ≤ 2) (h0 : w ≠ 0) : ∃ t, rollsQ[w]? = some t ∧ t ∈ gramW := by
  match w, h, h0 with
  | 1, _, _ => exact ⟨_, rfl, by simp [gramW]⟩
  | 2, _, _ => exact ⟨_, rfl, by simp [gramW]⟩
theorem pz_way {w : Nat} (h : w < 6) : Pz (wayW w) := by
  unfold wayW
  split
  · exact Pz.nil
  · obtain ⟨t, e, ht⟩ := ways_mem h
    rw [e]
    exact Pz.cons m59 (Pz.cons (mid_gram (by simp [gramW])) (Pz.cons (mid_gram ht) Pz.nil))
theorem pz_roll {w : Nat} (h : w ≤ 2) : Pz (rollW w) := by
  unfold rollW
  split
  · exact Pz.nil
  · rename_i h0
    obtain ⟨t, e, ht⟩ := rolls_mem h h0
    rw [e]
    exact Pz.cons m44 (Pz.cons (mid_gram ht) Pz.nil)
theorem pz_els {e : ByteArray} (h : e = ⟨#[]⟩ ∨ NameOk e) : Pz (elsW e) := by
  unfold elsW
  split
  · exact Pz.nil
  · rename_i h0
    rcases h with rfl | h
    · exact absurd rfl h0
    · exact Pz.cons (mid_gram (by simp [gramW])) (Pz.cons h.mid Pz.nil)
/-- Pieces of which the second begins with what may stand beside anything. -/
def MidE (P : List ByteArray) : Prop := P = [] ∨ ∃ t r, P = t :: r ∧ Mid t
theorem Pz.appE {A B : List ByteArray} (ha : Pz A) (hb : Pz B) (hm : MidE B) : Pz (A ++ B) := by
  rcases hm with rfl | ⟨t, r, rfl, ht⟩
  · rw [List.append_nil]; exact ha
  · refine ⟨fun u hu => ?_, Adj.app ha.adj hb.adj fun a b _ hb2 => ?_, fun u hu => ?_, fun u hu => ?_⟩
    · rcases List.mem_append.1 hu with hu | hu
      · exact ha.tx _ hu
      · exact hb.tx _ hu
    · injection hb2 with hb2
      rw [← hb2]
      exact ⟨fun e => ht.n e.2, fun e => ht.o e.2⟩
    · cases A with
      | nil => exact hb.hd u hu
      | cons c A => exact ha.hd u hu
    · rw [List.getLast?_append] at hu
      cases e : (t :: r).getLast? with
      | none => exact absurd (List.getLast?_eq_none_iff.1 e) (by simp)
      | some v => rw [e] at hu; injection hu with hu; rw [← hu]; exact hb.la v e
theorem me_if {c : Nd} {I : List ByteArray} (h : IfO c I) : MidE I := by
  cases h with
  | none => exact .inl rfl
  | some h hm => exact .inr ⟨_, _, rfl, mid_gram (by simp [gramW])⟩
theorem me_ov (l : List ByteArray) : MidE (ovW l) := by
  cases l with
  | nil => exact .inl rfl
  | cons x l => exact .inr ⟨_, _, rfl, m59⟩
theorem me_way (w : Nat) : MidE (wayW w) := by
  unfold wayW
  split
  · exact .inl rfl
  · exact .inr ⟨_, _, rfl, m59⟩
theorem me_els (e : ByteArray) : MidE (elsW e) := by
  unfold elsW
  split
  · exact .inl rfl
  · exact .inr ⟨_, _, rfl, mid_gram (by simp [gramW])⟩
theorem MidE.app {A B : List ByteArray} (ha : MidE A) (hb : MidE B) : MidE (A ++ B) := by
  rcases ha with rfl | ⟨t, r, rfl, ht⟩
  · exact hb
  · exact .inr ⟨t, r ++ B, rfl, ht⟩
theorem pz_st {st : Nat} : Pz (stW st) := by
  unfold stW
  split
  · exact Pz.nil
  · split
    · exact Pz.cons (mid_gram (by simp [gramW])) Pz.nil
    · exact Pz.cons (mid_gram (by simp [gramW])) Pz.nil
/-- A printed sentence: its tokens. -/
theorem SentO.pz {x : SentW} {P : List ByteArray} (h : SentO x P) : Pz P := by
  cases h with
  | define name hn hc hm => exact Pz.cons (mid_gram (by simp [gramW])) (Pz.cons hn.mid (Pz.cons m58 hc.pz))
  | rule name head st pos ov hn hh hs ho hc =>
    exact Pz.cons (mid_gram (by simp [gramW])) (Pz.cons hn.mid (pz_st.mid m58 ((pz_lit hh).appE (hc.pz.appE (pz_ov ho) (me_ov _)) ((me_if hc).app (me_ov _)))))
  | amount name way hn hw hs hm hc =>
    exact Pz.cons (mid_gram (by simp [gramW])) (Pz.cons hn.mid (Pz.cons m58 (hs.pz.appE (hc.pz.appE (pz_way hw) (me_way _)) ((me_if hc).app (me_way _)))))
  | duty name head els pos tn tu tr hn hh h1 h2 h3 he =>
    obtain ⟨t, e, ht⟩ := units_mem h2
    rw [e]
    exact Pz.cons (mid_gram (by simp [gramW])) (Pz.cons hn.mid (Pz.cons m58 ((pz_lit hh).mid (mid_gram (by simp [gramW])) ((Pz.one (.n _ _ _ (itoa_num tn)) (num_ord (itoa_num tn).hd)).mid (mid_gram ht) ((pz_roll h3).appE (pz_els he) (me_els _))))))
/-! ### What is written -/
theorem ifR_yes {c : Nd} {I : List ByteArray} (h : IfO c I) {s : WS} (hd : s.d + I.length ≤ 300) (hz : s.z + totB I ≤ 300) : ifR (toT c) s = some (adv s I) := by
  cases h with
  | none =>
    show some s = _
    unfold adv
    simp [totB]
  | @some c C m h hm =>
    have hz2 : s.z + (2 + totB C) ≤ 300 := hz
    simp only [List.length_cons] at hd
    unfold ifR
    have := h.kind_pos
    rw [if_neg (by rw [toT_kind]; omega), putR_yes (x := wIf) (show 0 < 2 by omega) (show _ + 2 ≤ _ by omega)]
    show condR (toT c) 0 (adv s [wIf]) = _
    have e1 : (adv s [wIf]).z = s.z + 2 := rfl
    have e2 : (adv s [wIf]).d = s.d := rfl
    rw [CondO.wrR h.wr 0 _ (by omega) (by rw [lowK_no (Nat.zero_le _)]; show _ + totB C ≤ _; omega), lowK_no (Nat.zero_le _), adv_adv]
    rfl
theorem litR_yes {x : SentT} (hh : NameOk x.head) {s : WS} (hz : s.z + totB (litW x.positive x.head) ≤ 300) : litR x s = some (adv s (litW x.positive x.head)) := by
  have hp := low_pos hh.lo
  unfold litR
  cases hx : x.positive
  · rw [hx] at hz
    have hz2 : s.z + (3 + (x.head.size + 0)) ≤ 300 := hz
    rw [if_neg (by simp), putR_yes (x := wNot) (show 0 < 3 by omega) (show _ + 3 ≤ _ by omega)]
    show putR (adv s [wNot]) x.head = _
    have e1 : (adv s [wNot]).z = s.z + 3 := rfl
    rw [putR_yes hp (by omega), adv_adv]
    rfl
  · rw [hx] at hz
    have hz2 : s.z + (x.head.size + 0) ≤ 300 := hz
    rw [if_pos rfl]
    show putR s x.head = _
    rw [putR_yes hp (by omega)]
    rfl
theorem overR_no : ∀ {l : List ByteArray} {s : WS}, (∀ x, x ∈ l → NameOk x) → s.z + totB (cmW l) ≤ 300 → overR false l s = some (adv s (cmW l))
  | [], s, _, _ => by
    show some s = _
    unfold adv
    simp [totB, cmW]
  | x :: l, s, h, hz => by
    have hz2 : s.z + (1 + (x.size + totB (cmW l))) ≤ 300 := hz
    rw [overR, putsR_yes (Pz.pos (Pz.cons m44 (Pz.cons (h x (by simp)).mid Pz.nil))) (show _ + (1 + (x.size + 0)) ≤ _ by omega)]
    show overR false l (adv s [sg 44, x]) = _
    have e1 : (adv s [sg 44, x]).z = s.z + (1 + (x.size + 0)) := rfl
    rw [overR_no (fun y hy => h y (by simp [hy])) (by omega), adv_adv]
    rfl
theorem overR_yes {l : List ByteArray} {s : WS} (h : ∀ x, x ∈ l → NameOk x) (hz : s.z + totB (ovW l) ≤ 300) : overR true l s = some (adv s (ovW l)) := by
  cases l with
  | nil =>
    show some s = _
    unfold adv
    simp [totB, ovW]
  | cons x l =>
    have hz2 : s.z + (1 + (4 + (x.size + totB (cmW l)))) ≤ 300 := hz
    rw [overR, putsR_yes (Pz.pos (Pz.cons m59 (Pz.cons (mid_gram (by simp [gramW])) (Pz.cons (h x (by simp)).mid Pz.nil)))) (show _ + (1 + (4 + (x.size + 0))) ≤ _ by omega)]
    show overR false l (adv s [sg 59, wOver, x]) = _
    have e1 : (adv s [sg 59, wOver, x]).z = s.z + (1 + (4 + (x.size + 0))) := rfl
    rw [overR_no (fun y hy => h y (by simp [hy])) (by omega), adv_adv]
    rfl
theorem adv_nil (s : WS) : adv s [] = s := by unfold adv; simp [totB]
theorem wordR_nat (l : List ByteArray) (n : Nat) : wordR l (n : Int) = l[n]? := by unfold wordR; rw [if_neg (by omega)]; rfl
def wZ : WS := ⟨[], 0, 0⟩
theorem sentR_hd {x : SentT} (hk : Mid x.kind) (hn : NameOk x.name) (hz : x.kind.size + x.name.size ≤ 300) : sentR x =
  (if eqB x.kind wDefine = true then (putR (adv wZ [x.kind, x.name]) (sg 58)).bind fun s => condR x.cond 0 s
  else if eqB x.kind wRule = true then ruleR x (adv wZ [x.kind, x.name])
  else if eqB x.kind wAmount = true then amountR x (adv wZ [x.kind, x.name])
  else if eqB x.kind wDuty = true then dutyR x (adv wZ [x.kind, x.name])
  else none) := by
  unfold sentR
  rw [show (⟨[], 0, 0⟩ : WS) = wZ from rfl, putsR_yes (P := [x.kind, x.name]) (Pz.pos (Pz.cons hk (Pz.cons hn.mid Pz.nil))) (show 0 + (x.kind.size + (x.name.size + 0)) ≤ 300 by omega)]
  rfl
theorem SentO.km {x : SentW} {P : List ByteArray} (h : SentO x P) : Mid x.kind ∧ NameOk x.name ∧ ∃ r, P = x.kind :: x.name :: r := by
  cases h with
  | define name hn hc hm => exact ⟨mid_gram (by simp [gramW]), hn, _, rfl⟩
  | rule name head st pos ov hn hh hs ho hc => exact ⟨mid_gram (by simp [gramW]), hn, _, rfl⟩
  | amount name way hn hw hs hm hc => exact ⟨mid_gram (by simp [gramW]), hn, _, rfl⟩
  | duty name head els pos tn tu tr hn hh h1 h2 h3 he => exact ⟨mid_gram (by simp [gramW]), hn, _, rfl⟩
/-- A printed sentence is what is written of it. -/
theorem SentO.wr {x : SentW} {P : List ByteArray} (h : SentO x P) (hz : totB P ≤ 300) : sentR (toS x) = some (adv wZ P) := by
  have hpz := h.pz
  have hl := len_tot hpz.pos
  have z0 : wZ.z = 0 := rfl
  have d0 : wZ.d = 0 := rfl
  obtain ⟨k1, k2, r, k3⟩ := h.km
  have k4 : totB P = x.kind.size + (x.name.size + totB r) := by rw [k3]; rfl
  rw [sentR_hd (x := toS x) k1 k2 (show x.kind.size + x.name.size ≤ 300 by omega)]
  clear k1 k2 k3 k4
  cases h with
  | @define name hn c C m hc hm =>
    have hz2 : 6 + (name.size + (1 + totB C)) ≤ 300 := hz
    simp only [List.length_cons] at hl
    show (if eqB wDefine wDefine = true then (putR (adv wZ [wDefine, name]) (sg 58)).bind fun s => condR (toT c) 0 s else _) = _
    have e1 : (adv wZ [wDefine, name]).z = 0 + (6 + (name.size + 0)) := rfl
    rw [if_pos (eqB_yes _), putR_sg _ (by omega)]
    show condR (toT c) 0 (adv (adv wZ [wDefine, name]) [sg 58]) = _
    have e2 : (adv (adv wZ [wDefine, name]) [sg 58]).z = 0 + (6 + (name.size + 0)) + (1 + 0) := rfl
    have e3 : (adv (adv wZ [wDefine, name]) [sg 58]).d = 0 := rfl
    rw [CondO.wrR hc.wr 0 _ (by omega) (by rw [lowK_no (Nat.zero_le _)]; show _ + totB C ≤ _; omega), lowK_no (Nat.zero_le _), adv_adv, adv_adv]
    rfl
  | @rule name head st pos ov hn hh hs ho c I hc =>
    have hz2 : 4 + (name.size + totB (stW st ++ (sg 58 :: (litW pos head ++ (I ++ ovW ov))))) ≤ 300 := hz
    have hz3 : totB (sg 58 :: (litW pos head ++ (I ++ ovW ov))) = 1 + totB (litW pos head ++ (I ++ ovW ov)) := rfl
    simp only [totB_app, hz3] at hz2
    have hIl := len_tot hc.pz.pos
    show (if eqB wRule wDefine = true then _ else if eqB wRule wRule = true then ruleR (toS { kind := wRule, name := name, strength := st, positive := pos, head := head, cond := c, over := ov }) (adv wZ [wRule, name]) else _) = _
    rw [if_neg (eqB_not (by decide)), if_pos (eqB_yes _)]
    unfold ruleR
    have e1 : (adv wZ [wRule, name]).z = 0 + (4 + (name.size + 0)) := rfl
    have e1d : (adv wZ [wRule, name]).d = 0 := rfl
    obtain ⟨S, hS⟩ : ∃ S, S = adv wZ [wRule, name] := ⟨_, rfl⟩
    rw [← hS] at e1 e1d ⊢
    have est : (if (toS { kind := wRule, name := name, strength := st, positive := pos, head := head, cond := c, over := ov }).strength = 1 then some S else (wordR [wStrict, ⟨#[]⟩, wDefeater] (toS { kind := wRule, name := name, strength := st, positive := pos, head := head, cond := c, over := ov }).strength).bind fun t => putR S t) = some (adv S (stW st)) := by
      show (if ((st : Nat) : Int) = 1 then some S else (wordR [wStrict, ⟨#[]⟩, wDefeater] (st : Int)).bind fun t => putR S t) = _
      rw [wordR_nat]
      match st, hs with
      | 0, _ =>
        rw [if_neg (by omega)]
        exact putR_yes (x := wStrict) (by decide) (by have : totB (stW 0) = 6 := rfl; show _ + 6 ≤ _; omega)
      | 1, _ =>
        rw [if_pos (by omega)]
        exact congrArg some (adv_nil S).symm
      | 2, _ =>
        rw [if_neg (by omega)]
        exact putR_yes (x := wDefeater) (by decide) (by have : totB (stW 2) = 8 := rfl; show _ + 8 ≤ _; omega)
    rw [est]
    show ((putR (adv S (stW st)) (sg 58)).bind fun s => (litR _ s).bind fun s => (ifR (toT c) s).bind fun s => overR true ov s) = _
    have e2 : (adv S (stW st)).z = S.z + totB (stW st) := rfl
    rw [putR_sg _ (by omega)]
    show ((litR _ (adv (adv S (stW st)) [sg 58])).bind fun s => (ifR (toT c) s).bind fun s => overR true ov s) = _
    have e3 : (adv (adv S (stW st)) [sg 58]).z = S.z + totB (stW st) + (1 + 0) := rfl
    rw [litR_yes (x := toS { kind := wRule, name := name, strength := st, positive := pos, head := head, cond := c, over := ov }) hh (show _ + totB (litW pos head) ≤ _ by omega)]
    show ((ifR (toT c) (adv (adv (adv S (stW st)) [sg 58]) (litW pos head))).bind fun s => overR true ov s) = _
    have e4 : (adv (adv (adv S (stW st)) [sg 58]) (litW pos head)).z = S.z + totB (stW st) + (1 + 0) + totB (litW pos head) := rfl
    have e4d : (adv (adv (adv S (stW st)) [sg 58]) (litW pos head)).d = S.d := rfl
    rw [ifR_yes hc (by omega) (by omega)]
    show overR true ov (adv (adv (adv (adv S (stW st)) [sg 58]) (litW pos head)) I) = _
    have e5 : (adv (adv (adv (adv S (stW st)) [sg 58]) (litW pos head)) I).z = S.z + totB (stW st) + (1 + 0) + totB (litW pos head) + totB I := rfl
    rw [overR_yes ho (by omega), hS, adv_adv, adv_adv, adv_adv, adv_adv, adv_adv]
    simp
  | @amount name way hn hw c s I S m hs hm hc =>
    have hz2 : 6 + (name.size + (1 + totB (S ++ (I ++ wayW way)))) ≤ 300 := hz
    simp only [totB_app] at hz2
    have hIl := len_tot hc.pz.pos
    have hSl := len_tot hs.pz.pos
    show (if eqB wAmount wDefine = true then _ else if eqB wAmount wRule = true then _ else if eqB wAmount wAmount = true then amountR (toS { kind := wAmount, name := name, strength := 0, sum := s, cond := c, way := way }) (adv wZ [wAmount, name]) else _) = _
    rw [if_neg (eqB_not (by decide)), if_neg (eqB_not (by decide)), if_pos (eqB_yes _)]
    unfold amountR
    have e1 : (adv wZ [wAmount, name]).z = 0 + (6 + (name.size + 0)) := rfl
    have e1d : (adv wZ [wAmount, name]).d = 0 := rfl
    obtain ⟨T, hT⟩ : ∃ T, T = adv wZ [wAmount, name] := ⟨_, rfl⟩
    rw [← hT] at e1 e1d ⊢
    rw [putR_sg _ (by omega)]
    show ((sumR (toT s) 0 (adv T [sg 58])).bind fun s => (ifR (toT c) s).bind fun s => if ((way : Nat) : Int) = 4 then some s else (wordR waysW (way : Int)).bind fun t => putsR s [sg 59, wRound, t]) = _
    have e2 : (adv T [sg 58]).z = T.z + (1 + 0) := rfl
    have e2d : (adv T [sg 58]).d = T.d := rfl
    rw [SumO.wrR hs.wr 0 _ (by omega) (by rw [lowS_no (Nat.zero_le _)]; show _ + totB S ≤ _; omega), lowS_no (Nat.zero_le _), wordR_nat]
    show ((ifR (toT c) (adv (adv T [sg 58]) S)).bind fun s => if ((way : Nat) : Int) = 4 then some s else (waysW[way]?).bind fun t => putsR s [sg 59, wRound, t]) = _
    have e3 : (adv (adv T [sg 58]) S).z = T.z + (1 + 0) + totB S := rfl
    have e3d : (adv (adv T [sg 58]) S).d = T.d := rfl
    rw [ifR_yes hc (by omega) (by omega)]
    show (if ((way : Nat) : Int) = 4 then some (adv (adv (adv T [sg 58]) S) I) else (waysW[way]?).bind fun t => putsR (adv (adv (adv T [sg 58]) S) I) [sg 59, wRound, t]) = _
    have e4 : (adv (adv (adv T [sg 58]) S) I).z = T.z + (1 + 0) + totB S + totB I := rfl
    by_cases h4 : way = 4
    · rw [if_pos (by omega), show wayW way = [] by unfold wayW; rw [if_pos h4], hT, adv_adv, adv_adv, adv_adv]
      simp
    · obtain ⟨t, e, ht⟩ := ways_mem hw
      have ew : wayW way = [sg 59, wRound, t] := by unfold wayW; rw [if_neg h4, e]; rfl
      rw [ew] at hz2 ⊢
      rw [if_neg (by omega), e]
      show putsR (adv (adv (adv T [sg 58]) S) I) [sg 59, wRound, t] = _
      rw [putsR_yes (Pz.pos (Pz.cons m59 (Pz.cons (mid_gram (by simp [gramW])) (Pz.cons (mid_gram ht) Pz.nil)))) (by omega), hT, adv_adv, adv_adv, adv_adv, adv_adv]
      simp
  | @duty name head els pos tn tu tr hn hh h1 h2 h3 he =>
    obtain ⟨u, eu, hu⟩ := units_mem h2
    rw [eu] at hz ⊢
    rw [Option.getD_some] at hz ⊢
    have hz2 : 4 + (name.size + (1 + totB (litW pos head ++ (wWithin :: itoaB tn :: u :: (rollW tr ++ elsW els))))) ≤ 300 := hz
    have hz3 : totB (wWithin :: itoaB tn :: u :: (rollW tr ++ elsW els)) = 6 + ((itoaB tn).size + (u.size + totB (rollW tr ++ elsW els))) := rfl
    simp only [totB_app, hz3] at hz2
    show (if eqB wDuty wDefine = true then _ else if eqB wDuty wRule = true then _ else if eqB wDuty wAmount = true then _ else if eqB wDuty wDuty = true then dutyR (toS { kind := wDuty, name := name, strength := 0, positive := pos, head := head, tn := tn, tu := tu, tr := tr, els := els }) (adv wZ [wDuty, name]) else _) = _
    rw [if_neg (eqB_not (by decide)), if_neg (eqB_not (by decide)), if_neg (eqB_not (by decide)), if_pos (eqB_yes _)]
    unfold dutyR
    have e1 : (adv wZ [wDuty, name]).z = 0 + (4 + (name.size + 0)) := rfl
    obtain ⟨T, hT⟩ : ∃ T, T = adv wZ [wDuty, name] := ⟨_, rfl⟩
    rw [← hT] at e1 ⊢
    rw [putR_sg _ (by omega)]
    have e2 : (adv T [sg 58]).z = T.z + (1 + 0) := rfl
    show ((litR _ (adv T [sg 58])).bind fun s => (wordR unitsW (tu : Int)).bind fun u => (putsR s [wWithin, itoaB tn, u]).bind fun s => (if ((tr : Nat) : Int) = 0 then some s else (wordR [⟨#[]⟩, wNext, wBefore] (tr : Int)).bind fun t => putsR s [sg 44, t]).bind fun s => if els.size = 0 then some s else putsR s [wElse, els]) = _
    rw [litR_yes (x := toS { kind := wDuty, name := name, strength := 0, positive := pos, head := head, tn := tn, tu := tu, tr := tr, els := els }) hh (show _ + totB (litW pos head) ≤ _ by omega), wordR_nat, wordR_nat, eu]
    show ((putsR (adv (adv T [sg 58]) (litW pos head)) [wWithin, itoaB tn, u]).bind fun s => (if ((tr : Nat) : Int) = 0 then some s else (rollsQ[tr]?).bind fun t => putsR s [sg 44, t]).bind fun s => if els.size = 0 then some s else putsR s [wElse, els]) = _
    have e3 : (adv (adv T [sg 58]) (litW pos head)).z = T.z + (1 + 0) + totB (litW pos head) := rfl
    rw [putsR_yes (P := [wWithin, itoaB tn, u]) (Pz.pos (Pz.cons (mid_gram (by simp [gramW])) ((Pz.one (.n _ _ _ (itoa_num tn)) (num_ord (itoa_num tn).hd)).mid (mid_gram hu) Pz.nil))) (show _ + (6 + ((itoaB tn).size + (u.size + 0))) ≤ _ by omega)]
    obtain ⟨S, hS⟩ : ∃ S, S = adv (adv (adv T [sg 58]) (litW pos head)) [wWithin, itoaB tn, u] := ⟨_, rfl⟩
    have e4 : S.z = T.z + (1 + 0) + totB (litW pos head) + (6 + ((itoaB tn).size + (u.size + 0))) := by rw [hS]; rfl
    rw [← hS]
    show ((if ((tr : Nat) : Int) = 0 then some S else (rollsQ[tr]?).bind fun t => putsR S [sg 44, t]).bind fun s => if els.size = 0 then some s else putsR s [wElse, els]) = _
    have er : (if ((tr : Nat) : Int) = 0 then some S else (rollsQ[tr]?).bind fun t => putsR S [sg 44, t]) = some (adv S (rollW tr)) := by
      by_cases h0 : tr = 0
      · rw [if_pos (by omega), show rollW tr = [] by unfold rollW; rw [if_pos h0], adv_nil]
      · obtain ⟨t, e, ht⟩ := rolls_mem h3 h0
        have ew : rollW tr = [sg 44, t] := by unfold rollW; rw [if_neg h0, e]; rfl
        rw [ew] at hz2 ⊢
        rw [if_neg (by omega), e]
        exact putsR_yes (Pz.pos (Pz.cons m44 (Pz.cons (mid_gram ht) Pz.nil))) (by omega)
    rw [er]
    show (if els.size = 0 then some (adv S (rollW tr)) else putsR (adv S (rollW tr)) [wElse, els]) = _
    have e5 : (adv S (rollW tr)).z = S.z + totB (rollW tr) := rfl
    have ee : (if els.size = 0 then some (adv S (rollW tr)) else putsR (adv S (rollW tr)) [wElse, els]) = some (adv (adv S (rollW tr)) (elsW els)) := by
      by_cases h0 : els.size = 0
      · rw [if_pos h0, show elsW els = [] by unfold elsW; rw [if_pos h0], adv_nil]
      · have ew : elsW els = [wElse, els] := by unfold elsW; rw [if_neg h0]
        rw [ew] at hz2 ⊢
        rw [if_neg h0]
        exact putsR_yes (by rw [← ew]; exact (pz_els he).pos) (by omega)
    rw [ee, hS, hT, adv_adv, adv_adv, adv_adv, adv_adv, adv_adv]
    simp
end Go.Proofs.YtehbinobohjadaaGreatDoor
namespace Go.Proofs.YtehbinobohjadaaGreatDoor
open Go.RowKit Go.Extern.Stop Go.Stop Go.Extern

/-- What stands behind a piece. -/
theorem At.next {L : List Tok} {k : Nat} {A B : List ByteArray} (h : At L k (A ++ B)) (he : (tokAt L (k + (A ++ B).length)).text = ⟨#[]⟩) : (tokAt L (k + A.length)).text = B.headD ⟨#[]⟩ := by
  cases B with
  | nil => rw [List.append_nil] at he; exact he
  | cons b B => exact h.right.hd.1
theorem litQ_yes {L : List Tok} {k n : Nat} {pos : Bool} {head : ByteArray} (h : NameOk head) (hA : At L k (litW pos head)) : litQ L k n = .ok (pos, head) (k + (litW pos head).length) n := by
  unfold litQ
  cases pos
  · have hA : At L k [wNot, head] := hA
    rw [isQ_yes hA.hd.1, if_pos rfl, nameQ_yes h hA.tl.hd]
    rfl
  · have hA : At L k [head] := hA
    rw [isQ_no hA.hd.1 (h.ne (by simp [gramW])), if_neg (by simp), nameQ_yes h hA.hd]
    rfl
/-- What may stand behind a sentence's condition, or behind a sum that has none. -/
structure Stop (t : ByteArray) : Prop where
  o : t ∉ ordersW
  s : t ∉ sumsW
  a : t ≠ wAnd
  r : t ≠ wOr
  i : t ≠ wIf
theorem stop_semi : Stop (sg 59) := ⟨(sg_fol (by decide) (by decide) (by decide) (by decide) (by decide) (by decide)).1, (sg_fol (by decide) (by decide) (by decide) (by decide) (by decide) (by decide)).2, by decide, by decide, by decide⟩
theorem stop_end : Stop ⟨#[]⟩ := by
  refine ⟨?_, ?_, by decide, by decide, by decide⟩
  · intro h
    have := (orders_sg h).2.2.2.2.2
    exact absurd this (by decide)
  · intro h
    simp only [sumsW, List.mem_cons, List.not_mem_nil, or_false] at h
    rcases h with h | h | h <;> exact absurd h (by decide)
theorem condQ_yes {L : List Tok} {f k : Nat} {c : Nd} {I : List ByteArray} (h : IfO c I) (hA : At L k I) (hx : Stop (tokAt L (k + I.length)).text) (hf : 8 * I.length + 3 ≤ f) : condQ L f k 0 = .ok c (k + I.length) 0 := by
  unfold condQ
  cases h with
  | none =>
    have hx : Stop (tokAt L k).text := hx
    rw [isQ_no rfl hx.i, if_neg (by simp)]
    rfl
  | @some c C m h hm =>
    simp only [List.length_cons] at hf hx ⊢
    have ek : k + 1 + C.length = k + (C.length + 1) := by omega
    rw [← ek] at hx ⊢
    rw [isQ_yes hA.hd.1, if_pos rfl]
    exact (h.re L).all hA.tl (by omega) (by omega) ⟨hx.o, hx.s⟩ hx.a hx.r
theorem commaQ_yes {L : List Tok} : ∀ (a l : List ByteArray) (k n f : Nat), At L k (cmW a) → (∀ x, x ∈ a → NameOk x) → (tokAt L (k + (cmW a).length)).text ≠ sg 44 → (cmW a).length < f → commaQ L f l k n = .ok (l ++ a) (k + (cmW a).length) n
  | [], l, k, n, f, _, _, hx, hf => by
    obtain ⟨f, rfl⟩ : ∃ g, f = g + 1 := ⟨f - 1, by omega⟩
    have hx : (tokAt L k).text ≠ sg 44 := hx
    rw [commaQ, show (⟨#[44]⟩ : ByteArray) = sg 44 from rfl, isQ_no rfl hx, if_neg (by simp), List.append_nil]
    rfl
  | x :: a, l, k, n, f, hA, ha, hx, hf => by
    obtain ⟨f, rfl⟩ : ∃ g, f = g + 1 := ⟨f - 1, by omega⟩
    have hA : At L k (sg 44 :: x :: cmW a) := hA
    have el : (cmW (x :: a)).length = (cmW a).length + 2 := rfl
    have ek : k + (cmW (x :: a)).length = k + 1 + 1 + (cmW a).length := by rw [el]; omega
    rw [ek] at hx ⊢
    rw [commaQ, show (⟨#[44]⟩ : ByteArray) = sg 44 from rfl, isQ_yes hA.hd.1, if_pos rfl, nameQ_yes (ha x (by simp)) hA.tl.hd, PR.bind_ok, commaQ_yes a _ _ _ _ hA.tl.tl (fun y hy => ha y (by simp [hy])) hx (by omega)]
    simp
theorem overQ_yes {L : List Tok} {ov : List ByteArray} {k n f : Nat} (hA : At L k (ovW ov)) (ho : ∀ x, x ∈ ov → NameOk x) (hx : (tokAt L (k + (ovW ov).length)).text = ⟨#[]⟩) (hf : (ovW ov).length + 2 < f) : overQ L f [] k n = .ok ov (k + (ovW ov).length) n := by
  obtain ⟨f, rfl⟩ : ∃ g, f = g + 1 := ⟨f - 1, by omega⟩
  cases ov with
  | nil =>
    have hx : (tokAt L k).text = ⟨#[]⟩ := hx
    rw [overQ, show (⟨#[59]⟩ : ByteArray) = sg 59 from rfl, isQ_no hx (by decide), if_neg (by simp)]
    rfl
  | cons x a =>
    have hA : At L k (sg 59 :: wOver :: x :: cmW a) := hA
    have el : (ovW (x :: a)).length = (cmW a).length + 3 := rfl
    have ek : k + (ovW (x :: a)).length = k + 1 + 1 + 1 + (cmW a).length := by rw [el]; omega
    rw [ek] at hx ⊢
    obtain ⟨f, rfl⟩ : ∃ g, f = g + 1 := ⟨f - 1, by omega⟩
    rw [overQ, show (⟨#[59]⟩ : ByteArray) = sg 59 from rfl, isQ_yes hA.hd.1, if_pos rfl, show (⟨#[111, 118, 101, 114]⟩ : ByteArray) = wOver from rfl, needQ_yes hA.tl.hd.1, PR.bind_ok, nameQ_yes (ho x (by simp)) hA.tl.tl.hd, PR.bind_ok, commaQ_yes a _ _ _ _ hA.tl.tl.tl (fun y hy => ho y (by simp [hy])) (by rw [hx]; decide) (by omega), PR.bind_ok, overQ, show (⟨#[59]⟩ : ByteArray) = sg 59 from rfl, isQ_no hx (by decide), if_neg (by simp)]
    rfl
theorem place_put {l : List ByteArray} {t : ByteArray} {i : Nat} (h : l[i]? = some t) (hn : ∀ j, j < i → l[j]? ≠ some t) : placeIn l t = some i := by
  unfold placeIn
  rw [List.findIdx?_eq_some_iff_getElem]
  obtain ⟨hi, e⟩ := List.getElem?_eq_some_iff.1 h
  refine ⟨hi, by rw [e]; exact eqB_yes _, fun j hj => ?_⟩
  intro e2
  exact hn j hj (by rw [List.getElem?_eq_getElem (by omega), (eqB_iff _ _).1 e2])
theorem oneOfQ_yes {L : List Tok} {ls : List ByteArray} {k n i : Nat} {t : ByteArray} (h : ls[i]? = some t) (hn : ∀ j, j < i → ls[j]? ≠ some t) (hk : kdOf t = .w) (ha : (tokAt L k).text = t ∧ (tokAt L k).kind = kdOf t) : oneOfQ L ls k n = .ok i (k + 1) n := by
  unfold oneOfQ
  rw [if_pos (by rw [ha.2, hk]), ha.1, place_put h hn]
theorem ways_first : ∀ i, i < 6 → ∀ j, j < i → waysW[j]? ≠ waysW[i]? := by decide
theorem units_first : ∀ i, i < 5 → ∀ j, j < i → unitsW[j]? ≠ unitsW[i]? := by decide
theorem rolls_first : ∀ i, i < 3 → ∀ j, j < i → rollsQ[j]? ≠ rollsQ[i]? := by decide
theorem gram_kd {t : ByteArray} (h : t ∈ gramW) : kdOf t = .w := by
  simp only [gramW, List.mem_cons, List.not_mem_nil, or_false] at h
  rcases h with rfl | rfl | rfl | rfl | rfl | rfl | rfl | rfl | rfl | rfl | rfl | rfl | rfl | rfl | rfl | rfl | rfl | rfl | rfl | rfl | rfl | rfl | rfl | rfl | rfl | rfl | rfl | rfl | rfl | rfl | rfl | rfl | rfl | rfl <;> decide
theorem lengthQ_yes {L : List Tok} {k n v : Nat} (h : v ≤ 100000) (ha : (tokAt L k).text = itoaB v ∧ (tokAt L k).kind = kdOf (itoaB v)) : lengthQ L k n = .ok v (k + 1) n := by
  have hn := itoa_num v
  have hp : pointB (itoaB v) = false := by
    unfold pointB
    rw [itoaB_list, List.any_eq_false]
    intro c hc e
    rw [beq_iff_eq] at e
    have := dec_all v c hc
    rw [e] at this
    exact absurd this (by decide)
  unfold lengthQ
  rw [ha.1, ha.2, itoaB_list, dv_dec, if_pos ⟨hn.kd, hp, by rw [whole_of hn]; exact dec_len 12 v (by omega) (by omega), h⟩]
theorem rollQ_yes {L : List Tok} {k n r : Nat} (h : r ≤ 2) (hA : At L k (rollW r)) (hx : r = 0 → (tokAt L k).text ≠ sg 44) : rollQ L k n = .ok r (k + (rollW r).length) n := by
  unfold rollQ
  by_cases h0 : r = 0
  · subst h0
    rw [isQ_no rfl (hx rfl), if_neg (by simp)]
    rfl
  · obtain ⟨t, e, ht⟩ := rolls_mem h h0
    have ew : rollW r = [sg 44, t] := by unfold rollW; rw [if_neg h0, e]; rfl
    rw [ew] at hA ⊢
    rw [isQ_yes hA.hd.1, if_pos rfl, oneOfQ_yes e (fun j hj => by rw [← e]; exact rolls_first r (by omega) j hj) (gram_kd ht) hA.tl.hd]
    rfl
theorem tailQ_yes {L : List Tok} {k n : Nat} {e : ByteArray} (h : e = ⟨#[]⟩ ∨ NameOk e) (hA : At L k (elsW e)) (hx : (tokAt L (k + (elsW e).length)).text = ⟨#[]⟩) : tailQ L k n = .ok e (k + (elsW e).length) n := by
  unfold tailQ
  rcases h with rfl | h
  · have hx : (tokAt L k).text = ⟨#[]⟩ := hx
    rw [isQ_no hx (by decide), if_neg (by simp)]
    rfl
  · have hp := low_pos h.lo
    have ew : elsW e = [wElse, e] := by unfold elsW; rw [if_neg (by omega)]
    rw [ew] at hA ⊢
    rw [isQ_yes hA.hd.1, if_pos rfl, nameQ_yes h hA.tl.hd]
    rfl
theorem els_stop (e : ByteArray) (t : ByteArray) (h : t = (elsW e).headD ⟨#[]⟩) : t ≠ sg 44 := by
  unfold elsW at h
  split at h
  · rw [h]; decide
  · rw [h]; show wElse ≠ sg 44; decide
theorem ov_stop (l : List ByteArray) : Stop ((ovW l).headD ⟨#[]⟩) := by
  cases l with
  | nil => exact stop_end
  | cons x l => exact stop_semi
theorem way_stop (w : Nat) : Stop ((wayW w).headD ⟨#[]⟩) := by
  unfold wayW
  split
  · exact stop_end
  · exact stop_semi
/-- What may stand behind a sum. -/
theorem if_stop {c : Nd} {I : List ByteArray} (h : IfO c I) {B : List ByteArray} (hb : Stop (B.headD ⟨#[]⟩)) : (I ++ B).headD ⟨#[]⟩ ∉ sumsW := by
  cases h with
  | none => exact hb.s
  | some h hm => exact (low_fol (t := wIf) (by decide)).2
/-- A printed sentence is read as it is. -/
theorem SentO.re {x : SentW} {P : List ByteArray} (h : SentO x P) {L : List Tok} {f : Nat} (hA : At L 0 P) (he : (tokAt L P.length).text = ⟨#[]⟩) (hk : (tokAt L P.length).kind = .e) (hf : 8 * P.length + 10 ≤ f) : sentQ L f 0 0 = .ok x P.length 0 := by
  unfold sentQ
  cases h with
  | @define name hn c C m hc hm =>
    have a0 := hA.hd
    have a1 := hA.tl.hd
    have a2 := hA.tl.tl.hd
    simp only [List.length_cons] at he hk hf ⊢
    have hq : strongQ L wDefine (0 + 1 + 1) = (0, 2) := by unfold strongQ; rw [if_neg (eqB_not (by decide))]
    have e3 : 0 + 1 + 1 + 1 + C.length = C.length + 1 + 1 + 1 := by omega
    rw [← e3] at he hk ⊢
    have ec := (hc.re L).all (n := 0) (f := f) hA.tl.tl.tl (by omega) (by omega) ⟨by rw [he]; exact stop_end.o, by rw [he]; exact stop_end.s⟩ (by rw [he]; decide) (by rw [he]; decide)
    rw [nameQ_yes hn a1, PR.bind_ok, a0.1, hq, show (⟨#[58]⟩ : ByteArray) = sg 58 from rfl, needQ_yes a2.1, PR.bind_ok]
    unfold bodyQ
    rw [if_pos (eqB_yes _)]
    show ((eitherQ L f (0 + 1 + 1 + 1) 0).bind _).bind _ = _
    rw [ec, PR.bind_ok, PR.bind_ok, if_pos hk]
    rfl
  | @rule name head st pos ov hn hh hs ho c I hc =>
    have a0 := hA.hd
    have a1 := hA.tl.hd
    have a2 : At L 2 (stW st ++ (sg 58 :: (litW pos head ++ (I ++ ovW ov)))) := hA.tl.tl
    have a3 := a2.right
    have a4 := a3.tl
    have a5 := a4.right
    have a6 := a5.right
    simp only [List.length_cons, List.length_append] at he hk hf ⊢
    have hq : strongQ L wRule (0 + 1 + 1) = ((st : Int), 2 + (stW st).length) := by
      unfold strongQ
      rw [if_pos (eqB_yes _)]
      show perhapsQ L strengthsQ 1 2 = _
      unfold perhapsQ
      match st, hs with
      | 0, _ =>
        have b : At L 2 (wStrict :: (sg 58 :: (litW pos head ++ (I ++ ovW ov)))) := a2
        rw [if_pos (by rw [b.hd.2]; decide), b.hd.1, place_put (l := strengthsQ) (i := 0) rfl (fun j hj => by omega)]
        rfl
      | 1, _ =>
        have b : At L 2 (sg 58 :: (litW pos head ++ (I ++ ovW ov))) := a2
        rw [if_neg (by rw [b.hd.2]; decide)]
        rfl
      | 2, _ =>
        have b : At L 2 (wDefeater :: (sg 58 :: (litW pos head ++ (I ++ ovW ov)))) := a2
        rw [if_pos (by rw [b.hd.2]; decide), b.hd.1, place_put (l := strengthsQ) (i := 2) rfl (by decide)]
        rfl
    have eN : 2 + (stW st).length + 1 + (litW pos head).length + I.length + (ovW ov).length = (stW st).length + ((litW pos head).length + (I.length + (ovW ov).length) + 1) + 1 + 1 := by omega
    rw [← eN] at he hk ⊢
    have hx1 : (tokAt L (2 + (stW st).length + 1 + (litW pos head).length + I.length)).text = (ovW ov).headD ⟨#[]⟩ := a5.next (by rw [List.length_append, ← Nat.add_assoc]; exact he)
    have ec := condQ_yes (f := f) hc a5.left (by rw [hx1]; exact ov_stop ov) (by omega)
    have eo := overQ_yes (n := 0) (f := f) a6 ho he (by omega)
    rw [nameQ_yes hn a1, PR.bind_ok, a0.1, hq, show (⟨#[58]⟩ : ByteArray) = sg 58 from rfl, needQ_yes a3.hd.1, PR.bind_ok]
    unfold bodyQ
    rw [if_neg (eqB_not (show wRule ≠ _ by decide)), if_pos (eqB_yes _)]
    unfold ruleQ
    rw [litQ_yes hh a4.left, PR.bind_ok, ec, PR.bind_ok, eo, PR.bind_ok, PR.bind_ok, PR.bind_ok, if_pos hk]
    rfl
  | @amount name way hn hw c s I S m hs hm hc =>
    have a0 := hA.hd
    have a1 := hA.tl.hd
    have a2 := hA.tl.tl.hd
    have a3 : At L 3 (S ++ (I ++ wayW way)) := hA.tl.tl.tl
    have a4 := a3.right
    have a5 := a4.right
    simp only [List.length_cons, List.length_append] at he hk hf ⊢
    have hq : strongQ L wAmount (0 + 1 + 1) = (0, 2) := by unfold strongQ; rw [if_neg (eqB_not (by decide))]
    have eN : 3 + S.length + I.length + (wayW way).length = S.length + (I.length + (wayW way).length) + 1 + 1 + 1 := by omega
    rw [← eN] at he hk ⊢
    have hx0 : (tokAt L (3 + S.length)).text = (I ++ wayW way).headD ⟨#[]⟩ := a3.next (by rw [List.length_append, List.length_append, ← Nat.add_assoc, ← Nat.add_assoc]; exact he)
    have hx1 : (tokAt L (3 + S.length + I.length)).text = (wayW way).headD ⟨#[]⟩ := a4.next (by rw [List.length_append, ← Nat.add_assoc]; exact he)
    have hns := if_stop hc (way_stop way)
    rw [← hx0] at hns
    have es := (hs.re L).all (n := 0) (f := f) a3.left (by omega) (by omega) (fun e => hns (by rw [e]; simp [sumsW])) (fun e => hns (by rw [e]; simp [sumsW])) (fun e => hns (by rw [e]; simp [sumsW]))
    have ec := condQ_yes (f := f) hc a4.left (by rw [hx1]; exact way_stop way) (by omega)
    rw [nameQ_yes hn a1, PR.bind_ok, a0.1, hq, show (⟨#[58]⟩ : ByteArray) = sg 58 from rfl, needQ_yes a2.1, PR.bind_ok]
    unfold bodyQ
    rw [if_neg (eqB_not (show wAmount ≠ _ by decide)), if_neg (eqB_not (show wAmount ≠ _ by decide)), if_pos (eqB_yes _)]
    unfold amountQ
    show (((sumQ L f 3 0).bind _).bind _).bind _ = _
    rw [es, PR.bind_ok, ec, PR.bind_ok]
    by_cases h4 : way = 4
    · subst h4
      have hx1 : (tokAt L (3 + S.length + I.length)).text = ⟨#[]⟩ := hx1
      have hk : (tokAt L (3 + S.length + I.length)).kind = .e := hk
      rw [isQ_no hx1 (by decide), if_neg (by simp), PR.bind_ok, PR.bind_ok, if_pos hk]
      rfl
    · obtain ⟨t, e, ht⟩ := ways_mem hw
      have ew : wayW way = [sg 59, wRound, t] := by unfold wayW; rw [if_neg h4, e]; rfl
      rw [ew] at a5 hk ⊢
      rw [isQ_yes a5.hd.1, if_pos rfl, needQ_yes a5.tl.hd.1, PR.bind_ok, oneOfQ_yes e (fun j hj => by rw [← e]; exact ways_first way hw j hj) (gram_kd ht) a5.tl.tl.hd, PR.bind_ok, PR.bind_ok, PR.bind_ok]
      have hk : (tokAt L (3 + S.length + I.length + 1 + 1 + 1)).kind = .e := hk
      rw [if_pos hk]
      rfl
  | @duty name head els pos tn tu tr hn hh h1 h2 h3 hel =>
    obtain ⟨u, eu, hu⟩ := units_mem h2
    rw [eu, Option.getD_some] at hA he hk hf ⊢
    have a0 := hA.hd
    have a1 := hA.tl.hd
    have a2 := hA.tl.tl.hd
    have a3 : At L 3 (litW pos head ++ (wWithin :: itoaB tn :: u :: (rollW tr ++ elsW els))) := hA.tl.tl.tl
    have a4 := a3.right
    have a5 := a4.tl.tl.tl
    have a6 := a5.right
    simp only [List.length_cons, List.length_append] at he hk hf ⊢
    have hq : strongQ L wDuty (0 + 1 + 1) = (0, 2) := by unfold strongQ; rw [if_neg (eqB_not (by decide))]
    have eN : 3 + (litW pos head).length + 1 + 1 + 1 + (rollW tr).length + (elsW els).length = (litW pos head).length + ((rollW tr).length + (elsW els).length + 1 + 1 + 1) + 1 + 1 + 1 := by omega
    rw [← eN] at he hk ⊢
    have hx1 : (tokAt L (3 + (litW pos head).length + 1 + 1 + 1 + (rollW tr).length)).text = (elsW els).headD ⟨#[]⟩ := a5.next (by rw [List.length_append, ← Nat.add_assoc]; exact he)
    have er := rollQ_yes (n := 0) h3 a5.left (fun h0 => by
      subst h0
      exact els_stop els _ hx1)
    have ee := tailQ_yes (n := 0) hel a6 he
    rw [nameQ_yes hn a1, PR.bind_ok, a0.1, hq, show (⟨#[58]⟩ : ByteArray) = sg 58 from rfl, needQ_yes a2.1, PR.bind_ok]
    unfold bodyQ
    rw [if_neg (eqB_not (show wDuty ≠ _ by decide)), if_neg (eqB_not (show wDuty ≠ _ by decide)), if_neg (eqB_not (show wDuty ≠ _ by decide)), if_pos (eqB_yes _)]
    unfold dutyQ
    show (((litQ L 3 0).bind _).bind _).bind _ = _
    rw [litQ_yes hh a3.left, PR.bind_ok, needQ_yes a4.hd.1, PR.bind_ok, lengthQ_yes h1 a4.tl.hd, PR.bind_ok, oneOfQ_yes eu (fun j hj => by rw [← eu]; exact units_first tu h2 j hj) (gram_kd hu) a4.tl.tl.hd, PR.bind_ok, er, PR.bind_ok, ee, PR.bind_ok, PR.bind_ok, PR.bind_ok, if_pos hk]
    rfl
theorem costL_none : ∀ {Q : List ByteArray}, (∀ t, t ∈ Q → t = ⟨#[]⟩) → costL Q = 0 ∧ fB Q = 0
  | [], _ => ⟨rfl, rfl⟩
  | a :: Q, h => by
    have ha := h a (by simp)
    have ih := costL_none (Q := Q) fun t ht => h t (by simp [ht])
    subst ha
    refine ⟨?_, rfl⟩
    show 0 + gapN ⟨#[]⟩ Q + costL Q = 0
    rw [ih.1]
    cases Q with
    | nil => rfl
    | cons b Q => rfl
/-- All tokens of a line cost no more than the line. -/
theorem seg_cost {L ts : List Tok} {q k : Nat} (e : L = ts ++ [⟨.e, ⟨#[]⟩, q, 0⟩]) (hk : ts.length ≤ k) : costL (seg L 0 k) = costL (ts.map (·.text)) := by
  have e1 : seg L 0 ts.length = ts.map (·.text) := by
    unfold seg
    apply List.ext_getElem
    · rw [List.length_map, List.length_range', List.length_map, Nat.sub_zero]
    · intro i h1 h2
      rw [List.getElem_map, List.getElem_map, List.getElem_range']
      rw [List.length_map] at h2
      unfold tokAt
      rw [e, show 0 + 1 * i = i by omega, List.getElem?_append_left h2, List.getElem?_eq_getElem h2]
      rfl
  have e2 : ∀ t, t ∈ seg L ts.length k → t = ⟨#[]⟩ := fun t ht => by
    unfold seg at ht
    obtain ⟨i, hi, rfl⟩ := List.mem_map.1 ht
    have hi : ts.length ≤ i := by
      rw [List.mem_range'] at hi
      obtain ⟨j, hj, rfl⟩ := hi
      omega
    unfold tokAt
    rw [e, List.getElem?_append_right hi]
    by_cases h0 : i - ts.length = 0
    · rw [h0]; rfl
    · rw [List.getElem?_eq_none (by simp only [List.length_singleton]; omega)]; rfl
  obtain ⟨z1, z2⟩ := costL_none e2
  rw [seg_app (Nat.zero_le _) hk, e1]
  by_cases h1 : ts.map (·.text) = []
  · rw [h1, List.nil_append, z1]; rfl
  · by_cases h2 : seg L ts.length k = []
    · rw [h2, List.append_nil]
    · rw [costL_app _ _ h1 h2, z1, z2]
      omega
end Go.Proofs.YtehbinobohjadaaGreatDoor
namespace Go.Proofs.YtehbinobohjadaaGreatDoor
open Go.RowKit Go.Sort Go.Extern.Stop Go.Stop Go.Extern

theorem index_at : ∀ (K r : List UInt8) (c : UInt8), c ∉ K → Lib.indexByte (K ++ c :: r) c = K.length
  | [], r, c, _ => by
    show (if (c == c) = true then (0 : Int) else _) = _
    rw [if_pos (by simp)]
    rfl
  | b :: K, r, c, h => by
    have hb : ¬ (b == c) = true := fun e => h (by rw [beq_iff_eq.1 e]; simp)
    have ih := index_at K r c fun e => h (by simp [e])
    show (if (b == c) = true then (0 : Int) else if (Lib.indexByte (K ++ c :: r) c == -1) = true then -1 else Lib.indexByte (K ++ c :: r) c + 1) = _
    rw [if_neg hb, ih, if_neg (by simp)]
    simp
theorem isSent_of {s K : ByteArray} {r : List UInt8} (hs : s.data.toList = K.data.toList ++ 32 :: r) (hK : K = wDefine ∨ K = wRule ∨ K = wAmount ∨ K = wDuty) : isSentB s = true := by
  have h32 : (32 : UInt8) ∉ K.data.toList := by rcases hK with rfl | rfl | rfl | rfl <;> decide
  have hi : Lib.index s.data.toList [32] = (K.data.toList.length : Int) := by rw [Lib.index_one, hs, index_at _ _ _ h32]
  have hc : Lib.cut s.data.toList [32] = (K.data.toList, r, true) := by
    unfold Lib.cut
    rw [hi, if_pos (by omega)]
    simp only [Int.toNat_natCast, hs, List.length_singleton]
    rw [List.take_append_of_le_length (Nat.le_refl _), List.take_length, List.drop_append, List.drop_of_length_le (by omega), show K.data.toList.length + 1 - K.data.toList.length = 1 by omega]
    rfl
  have hl : cutL s = K := by
    unfold cutL
    rw [hc]
  unfold isSentB
  rw [hc, hl]
  have : (placeIn kindsW K).isSome = true := place_mem.2 (by rcases hK with rfl | rfl | rfl | rfl <;> simp [kindsW])
  rw [this]
  rfl
theorem SentO.kinds {x : SentW} {P : List ByteArray} (h : SentO x P) : x.kind = wDefine ∨ x.kind = wRule ∨ x.kind = wAmount ∨ x.kind = wDuty := by
  cases h with
  | define name hn hc hm => exact .inl rfl
  | rule name head st pos ov hn hh hs ho hc => exact .inr (.inl rfl)
  | amount name way hn hw hs hm hc => exact .inr (.inr (.inl rfl))
  | duty name head els pos tn tu tr hn hh h1 h2 h3 he => exact .inr (.inr (.inr rfl))
theorem SentO.line {x : SentW} {P : List ByteArray} (h : SentO x P) (hc : costL P ≤ 300) : isSentB (lineB P) = true := by
  obtain ⟨k1, k2, r, k3⟩ := h.km
  obtain ⟨ap, _, hap, e, _⟩ := line_is h.pz.pos hc
  have hw : apW x.kind x.name = true := by
    unfold apW
    have h1 : lowC (hd0 x.kind) = true := by rcases h.kinds with e | e | e | e <;> (rw [e]; decide)
    rw [h1, low_word k2.lo]
    rfl
  have hp := k1.tx.pos
  refine isSent_of (K := x.kind) (r := x.name.data.toList ++ joinB ap x.name r) ?_ h.kinds
  rw [e]
  show joinB ap ⟨#[]⟩ P = _
  rw [k3, joinB, joinB, if_pos (by rfl), if_neg (by omega), if_pos (hap _ _ hw)]
  rfl
/-- What was read of a line is written in a line of which it is read. -/
structure Back (x : SentW) (P : List ByteArray) : Prop where
  o : SentO x P
  c : costL P ≤ 300
  wr : sentR (toS x) = some (adv wZ P)
  rd : readQ (lineB P) (8 * P.length + 10) = .ok x
  no : sentQ (qtoks (lineB P)) (8 * P.length + 10) 0 0 ≠ .out
  sz : (lineB P).size ≤ 300
theorem read_ok {s : ByteArray} {f : Nat} {x : SentW} (h : readQ s f = .ok x) : isSentB s = true ∧ s.size ≤ 300 ∧ ∃ k n, sentQ (qtoks s) f 0 0 = .ok x k n := by
  unfold readQ at h
  split at h
  · rename_i h1
    split at h
    · cases h
    · rename_i h2
      rcases hq : sentQ (qtoks s) f 0 0 with _ | ⟨c, a⟩ | ⟨y, k, n⟩
      · rw [hq] at h; cases h
      · rw [hq] at h; cases h
      · rw [hq] at h
        injection h with h
        exact ⟨h1, by omega, k, n, by rw [h]⟩
  · cases h
theorem back_of {s : ByteArray} {f : Nat} {x : SentW} (h : readQ s f = .ok x) : ∃ P, Back x P := by
  obtain ⟨h1, h2, k, n, h3⟩ := read_ok h
  obtain ⟨K, ts0, e0, hK⟩ := sent_first h1
  obtain ⟨ts, e, hL, hc, he⟩ := qtoks_all s
  have ht0 : (tokAt (qtoks s) 0).text = K := by rw [e0]; rfl
  obtain ⟨hend, P, hP, hle⟩ := sent_ok hL (by rw [ht0]; exact hK) h3
  have hcost : costL P ≤ 300 := by
    have := hle.a
    rw [seg_cost e ((he k).1 hend)] at this
    omega
  obtain ⟨t1, t2, t3, t4, t5⟩ := line_toks hP.pz hcost
  have hre := hP.re (f := 8 * P.length + 10) t1 t3 t2 (Nat.le_refl _)
  refine ⟨P, hP, hcost, hP.wr (Nat.le_trans (totB_cost P) hcost), ?_, (by rw [hre]; intro e; cases e), t5⟩
  unfold readQ
  rw [hP.line hcost, if_pos rfl, if_neg (by omega), hre]
/-! ### Nodes that were read, as the writer has them -/
inductive SmallN : Nd → Prop
  | mk (t : Nd) (h : t.kids.length ≤ 2) (hk : ∀ (i : Nat) (k : Nd), t.kids[i]? = some k → SmallN k) : SmallN t
theorem small0 (k w : ByteArray) (n : Nat) : SmallN (.mk k w n []) := .mk _ (by show 0 ≤ 2; omega) fun i k h => by cases h
theorem small1 {a : Nd} (h : SmallN a) (k w : ByteArray) (n : Nat) : SmallN (.mk k w n [a]) := .mk _ (by show 1 ≤ 2; omega) fun i k h2 => by
  match i, h2 with
  | 0, h2 => injection h2 with h2; rw [← h2]; exact h
  | i + 1, h2 => cases h2
theorem small2 {a b : Nd} (h : SmallN a) (h' : SmallN b) (k w : ByteArray) (n : Nat) : SmallN (.mk k w n [a, b]) := .mk _ (by show 2 ≤ 2; omega) fun i k h2 => by
  match i, h2 with
  | 0, h2 => injection h2 with h2; rw [← h2]; exact h
  | 1, h2 => injection h2 with h2; rw [← h2]; exact h'
  | i + 2, h2 => cases h2
theorem SumO.small {x : Nd} {P : List ByteArray} {m : Nat} (h : SumO x P m) : SmallN x := by
  induction h with
  | num v h => exact small0 _ _ _
  | name w h => exact small0 _ _ _
  | count w h => exact small0 _ _ _
  | total w o h h2 => exact small1 (small0 _ _ _) _ _ _
  | great k hk ha hb iha ihb => exact small2 iha ihb _ _ _
  | mul r hr ha iha => exact small1 iha _ _ _
  | add k hk ha hb iha ihb => exact small2 iha ihb _ _ _
theorem CondO.small {x : Nd} {P : List ByteArray} {m : Nat} (h : CondO x P m) : SmallN x := by
  induction h with
  | name w h => exact small0 _ _ _
  | cmp k hk ha hb => exact small2 ha.small hb.small _ _ _
  | of k w hk h ha iha => exact small1 iha _ _ _
  | not ha iha => exact small1 iha _ _ _
  | and ha hb iha ihb => exact small2 iha ihb _ _ _
  | or ha hb iha ihb => exact small2 iha ihb _ _ _
theorem small_zero : SmallN Nd.zero := small0 _ _ _
theorem IfO.small {c : Nd} {I : List ByteArray} (h : IfO c I) : SmallN c := by
  cases h with
  | none => exact small_zero
  | some h hm => exact h.small
theorem SentO.small {x : SentW} {P : List ByteArray} (h : SentO x P) : SmallN x.cond ∧ SmallN x.sum := by
  cases h with
  | define name hn hc hm => exact ⟨hc.small, small_zero⟩
  | rule name head st pos ov hn hh hs ho hc => exact ⟨hc.small, small_zero⟩
  | amount name way hn hw hs hm hc => exact ⟨hc.small, hs.small⟩
  | duty name head els pos tn tu tr hn hh h1 h2 h3 he => exact ⟨small_zero, small_zero⟩
theorem toTs_get : ∀ (l : List Nd) (i : Nat), (toTs l)[i]? = (l[i]?).map toT
  | [], i => by rw [toTs]; rfl
  | x :: l, 0 => by rw [toTs]; rfl
  | x :: l, i + 1 => by rw [toTs]; simpa using toTs_get l i
theorem toTs_len : ∀ (l : List Nd), (toTs l).length = l.length
  | [] => by rw [toTs]; rfl
  | x :: l => by rw [toTs, List.length_cons, toTs_len l]; rfl
theorem toT_kids (x : Nd) : (toT x).kids = toTs x.kids := by cases x; rw [toT]; rfl
theorem toT_num (x : Nd) : (toT x).num = x.num := by cases x; rw [toT]; rfl
theorem NL.nt {w : World} {P : Nat → Prop} {v : Nat → Value} {t : Nd} (h : NL w P v t) : SmallN t → ∃ ka kc, v 0 = .string (toT t).kind ∧ v 1 = .string (toT t).word ∧ v 2 = .int .i64 (toT t).num ∧ v 3 = .slice ka (toT t).kids.length kc ∧ NT w P ka kc (toT t) := by
  induction h with
  | mk v t ka kc V h0 h1 h2 h3 hk hr hc ih =>
    intro hs
    obtain ⟨_, hl, hsk⟩ := hs
    have hlen : (toT t).kids.length = t.kids.length := by rw [toT_kids, toTs_len]
    refine ⟨ka, kc, by rw [toT_kind]; exact h0, by rw [toT_word]; exact h1, by rw [toT_num]; exact h2, by rw [hlen]; exact h3, ?_⟩
    have all : ∀ i, ∃ a c, ∀ k, t.kids[i]? = some k → V i 0 = .string (toT k).kind ∧ V i 1 = .string (toT k).word ∧ V i 2 = .int .i64 (toT k).num ∧ V i 3 = .slice a (toT k).kids.length c ∧ NT w P a c (toT k) := fun i => by
      cases e : t.kids[i]? with
      | none => exact ⟨.none, 0, fun k h => by cases h⟩
      | some k =>
        obtain ⟨a, c, q⟩ := ih i k e (hsk i k e)
        exact ⟨a, c, fun k' h => by injection h with h; rw [← h]; exact q⟩
    let A : Nat → Option Addr := fun i => (all i).choose
    let C : Nat → Nat := fun i => (all i).choose_spec.choose
    have hAC : ∀ i k, t.kids[i]? = some k → V i 0 = .string (toT k).kind ∧ V i 1 = .string (toT k).word ∧ V i 2 = .int .i64 (toT k).num ∧ V i 3 = .slice (A i) (toT k).kids.length (C i) ∧ NT w P (A i) (C i) (toT k) := fun i k e => (all i).choose_spec.choose_spec k e
    have get : ∀ i u, (toT t).kids[i]? = some u → ∃ k, t.kids[i]? = some k ∧ u = toT k := fun i u e => by
      rw [toT_kids, toTs_get] at e
      obtain ⟨k, e1, e2⟩ := Option.map_eq_some_iff.1 e
      exact ⟨k, e1, e2.symm⟩
    refine .mk _ ka kc A C (fun i u e => ?_) (fun i u e => ?_) (by omega) (by omega)
    · obtain ⟨k, e1, rfl⟩ := get i u e
      obtain ⟨q0, q1, q2, q3, _⟩ := hAC i k e1
      obtain ⟨b, o, e2, hp, hcl⟩ := hk i (List.getElem?_eq_some_iff.1 e1).1
      refine ⟨b, o, e2, hp, fun j x hj => ?_⟩
      match j, hj with
      | 0, hj => injection hj with hj; rw [← hj, ← q0]; exact hcl 0 (by omega)
      | 1, hj => injection hj with hj; rw [← hj, ← q1]; exact hcl 1 (by omega)
      | 2, hj => injection hj with hj; rw [← hj, ← q2]; exact hcl 2 (by omega)
      | 3, hj => injection hj with hj; rw [← hj, ← q3]; exact hcl 3 (by omega)
      | j + 4, hj => cases hj
    · obtain ⟨k, e1, rfl⟩ := get i u e
      exact (hAC i k e1).2.2.2.2
theorem stE_all : ∀ (l : List ByteArray), stE.all l = l.map Value.string
  | [] => rfl
  | x :: l => by
    rw [Enc.all_cons, stE_all l]
    rfl
/-- A sentence that was read, as the writer has it. -/
theorem SentC.st {B : Nat} {s : SentW} {cs : Array Value} {w : World} (h : SentC B s cs w) (hc : SmallN s.cond) (hs : SmallN s.sum) (ho : s.over.length ≤ 100000000) : ∃ ca sa cc sc oa oc, STc w (· < w.heap.size) (toS s) ca sa cc sc oa oc cs ∧ (oa = none → oc = 0) := by
  obtain ⟨v, hv, hn⟩ := h.nc
  obtain ⟨u, hu, hm⟩ := h.ns
  obtain ⟨ov, B2, e14, hB, hrow⟩ := h.ov
  have P1 : ∀ b, b < w.heap.size → (fun b => B ≤ b) b → w.heap[b]? = w.heap[b]? ∧ (fun b => b < w.heap.size) b := fun b hb _ => ⟨rfl, hb⟩
  obtain ⟨ca, cc, v0, v1, v2, v3, hnt⟩ := (hn.step P1).nt hc
  obtain ⟨sa, sc, u0, u1, u2, u3, hmt⟩ := (hm.step P1).nt hs
  have hrg : RowG stE 9 w B2 ov s.over := ⟨by rw [stE_all]; exact hrow, ho⟩
  obtain ⟨oa, oc, eov⟩ := hrg.any
  have hrd := hrg.rdS
  rw [eov] at hrd e14
  have hno : oa = none → oc = 0 := fun e => by
    rcases hrg.row.2 with ⟨e1, _⟩ | ⟨g, cap, cur, e1, _⟩
    · rw [eov] at e1
      injection e1 with _ _ e3
    · rw [eov, e] at e1
      injection e1 with e2 _ _
      cases e2
  refine ⟨ca, sa, cc, sc, oa, oc, ⟨?_, hnt, hmt, hrd.mono fun k hk => hk.2.1⟩, hno⟩
  apply Array.ext_getElem?
  intro i
  have hz := h.size
  by_cases hi : i < 19
  · have c5 := hv 0 (by omega)
    have c6 := hv 1 (by omega)
    have c7 := hv 2 (by omega)
    have c8 := hv 3 (by omega)
    have c9 := hu 0 (by omega)
    have c10 := hu 1 (by omega)
    have c11 := hu 2 (by omega)
    have c12 := hu 3 (by omega)
    rw [v0] at c5
    rw [v1] at c6
    rw [v2] at c7
    rw [v3] at c8
    rw [u0] at c9
    rw [u1] at c10
    rw [u2] at c11
    rw [u3] at c12
    match i, hi with
    | i + 19, hi => exact absurd hi (by omega)
    | 0, _ => exact h.c0
    | 1, _ => exact h.c1
    | 2, _ => exact h.c2
    | 3, _ => exact h.c3
    | 4, _ => exact h.c4
    | 5, _ => exact c5
    | 6, _ => exact c6
    | 7, _ => exact c7
    | 8, _ => exact c8
    | 9, _ => exact c9
    | 10, _ => exact c10
    | 11, _ => exact c11
    | 12, _ => exact c12
    | 13, _ => exact h.c13
    | 14, _ => exact e14
    | 15, _ => exact h.c15
    | 16, _ => exact h.c16
    | 17, _ => exact h.c17
    | 18, _ => exact h.c18
  · rw [Array.getElem?_eq_none (by omega), Array.getElem?_eq_none (by show 19 ≤ i; omega)]
end Go.Proofs.YtehbinobohjadaaGreatDoor
namespace Go.Proofs.YtehbinobohjadaaGreatDoor
open Go.RowKit Go.Sort Go.Extern.Stop Go.Stop Go.Extern

def WErr (e : Ending) : Prop := ∃ p, e = .returned (.tuple #[.string ⟨#[]⟩, .iface 189 (.pointer (some p))])
def zT : SentT := ⟨⟨#[]⟩, ⟨#[]⟩, 0, false, ⟨#[]⟩, .mk ⟨#[]⟩ ⟨#[]⟩ 0 [], .mk ⟨#[]⟩ ⟨#[]⟩ 0 [], 0, [], 0, 0, 0, ⟨#[]⟩⟩
/-- What Write answers. -/
def outW (x : SentT) (f : Nat) : Option ByteArray := match sentR x with
  | none => none
  | some s => match readQ (lineB s.ts) f with
    | .ok y => if eqS x (toS y) = true then some (lineB s.ts) else none
    | _ => none
def WriteR (x : SentT) (f : Nat) (w : World) (e : Ending) (w' : World) : Prop :=
  Below w.heap.size w w' ∧ match outW x f with
    | none => WErr e
    | some L => e = .returned (.tuple #[.string L, .nilIface])
/-- The boxes that Write makes. -/
def wB (w : World) (cs : Array Value) : World := ((w.alloc (.cells cs 30)).alloc (.cells #[.string ⟨#[]⟩] 9)).alloc (.cells #[.nilIface] 32)
def wB4 (w : World) (cs : Array Value) : World := (wB w cs).alloc (.cells #[.slice none 0 0, .int .i64 0, .int .i64 0] 65)
theorem wB_size (w : World) (cs : Array Value) : (wB w cs).heap.size = w.heap.size + 1 + 1 + 1 := by simp [wB]
theorem wB4_size (w : World) (cs : Array Value) : (wB4 w cs).heap.size = w.heap.size + 1 + 1 + 1 + 1 := by simp [wB4, wB]
theorem wB_below (w : World) (cs : Array Value) : Below w.heap.size w (wB w cs) := (((Below.refl _ _).alloc (Nat.le_refl _) _).alloc (by simp) _).alloc (by simp; omega) _
theorem wB4_below (w : World) (cs : Array Value) : Below w.heap.size w (wB4 w cs) := (wB_below w cs).alloc (by rw [wB_size]; omega) _
theorem wB4_at (w : World) (cs : Array Value) : (wB4 w cs).heap[w.heap.size]? = some (.cells cs 30 (0, 0)) ∧ WBx (wB4 w cs) (w.heap.size + 1) (w.heap.size + 1 + 1) ⟨#[]⟩ .nilIface ∧ (wB4 w cs).heap[w.heap.size + 1 + 1 + 1]? = some (.cells #[.slice none 0 0, .int .i64 0, .int .i64 0] 65 (0, 0)) := by
  unfold wB4 wB
  refine ⟨?_, ⟨?_, ?_⟩, ?_⟩
  · rw [Go.Deep.blk_alloc_lt _ _ _ (by first | (simp; done) | (simp; omega)), Go.Deep.blk_alloc_lt _ _ _ (by first | (simp; done) | (simp; omega)), Go.Deep.blk_alloc_lt _ _ _ (by simp)]
    exact heap_alloc_new _ _
  · rw [Go.Deep.blk_alloc_lt _ _ _ (by first | (simp; done) | (simp; omega)), Go.Deep.blk_alloc_lt _ _ _ (by simp)]
    have := heap_alloc_new (w.alloc (.cells cs 30)) (.cells #[.string ⟨#[]⟩] 9)
    simpa using this
  · rw [Go.Deep.blk_alloc_lt _ _ _ (by simp)]
    have := heap_alloc_new ((w.alloc (.cells cs 30)).alloc (.cells #[.string ⟨#[]⟩] 9)) (.cells #[.nilIface] 32)
    simpa using this
  · have := heap_alloc_new (((w.alloc (.cells cs 30)).alloc (.cells #[.string ⟨#[]⟩] 9)).alloc (.cells #[.nilIface] 32)) (.cells #[.slice none 0 0, .int .i64 0, .int .i64 0] 65)
    simpa using this
theorem wB4_sw {w : World} (hg : GlobQ w) (ht : TabW w) (cs : Array Value) : SW (wB4 w cs) (wB4 w cs) (w.heap.size + 1 + 1 + 1) ⟨[], 0, 0⟩ := by
  have hb := wB4_below w cs
  obtain ⟨p, h1⟩ := hg.t
  have hlt := hg.lt
  have htl := ht.lt
  refine ⟨⟨⟨none, 0, 0, (wB4_at w cs).2.2, RowG.nil _ _⟩, by show 0 ≤ 300; omega, by show 0 ≤ 300; omega, Nat.le_refl _, ⟨p, (hb.cell (p := ⟨1, 0, none⟩) hlt.1).trans h1⟩, by omega⟩, WFr.refl _ _, ht.below hb htl, by omega⟩
end Go.Proofs.YtehbinobohjadaaGreatDoor
namespace Go.Proofs.YtehbinobohjadaaGreatDoor
open Go.RowKit Go.Sort Go.Extern.Stop Go.Stop Go.Extern

theorem WBx.wf {w w' : World} {wp bl be : Nat} {s : ByteArray} {ev : Value} (h : WBx w bl be s ev) (hf : WFr wp w w') (h1 : bl < wp) (h2 : be < wp) : WBx w' bl be s ev := h.on (hf.low bl h1) (hf.low be h2)
theorem line_few {x : SentT} {s : WS} (h : sentR x = some s) (hz : s.z ≤ 300) : (∀ t, t ∈ s.ts → 0 < t.size) ∧ s.ts ≠ [] ∧ (∀ ap, (joinB ap ⟨#[]⟩ s.ts).length ≤ 1000000) ∧ (lineB s.ts).size ≤ 100000 := by
  obtain ⟨h1, h2, r, h3⟩ := sentR_ts h
  have hl := len_tot h1
  have hj : ∀ ap, (joinB ap ⟨#[]⟩ s.ts).length ≤ 600 := fun ap => Nat.le_trans (join_len _ _) (by omega)
  refine ⟨h1, by rw [h3]; simp, fun ap => Nat.le_trans (hj ap) (by omega), ?_⟩
  have e0 : lineB s.ts = if (jB apE s.ts).size ≤ 300 then jB apE s.ts else if (jB apI s.ts).size ≤ 300 then jB apI s.ts else jB apW s.ts := rfl
  have hw : (jB apW s.ts).size ≤ 600 := by
    show (⟨(joinB apW ⟨#[]⟩ s.ts).toArray⟩ : ByteArray).size ≤ 600
    rw [ba_size]
    exact hj _
  rw [e0]
  split
  · omega
  · split <;> omega
set_option maxHeartbeats 2000000 in
theorem write_none {x : SentT} (hO : SOk x) {w : World} {ca sa : Option Addr} {cc sc : Nat} {oa : Option Addr} {oc : Nat} {cs : Array Value} (hT : STc w (· < w.heap.size) x ca sa cc sc oa oc cs) (hg : GlobQ w) (ht : TabW w) (hn : sentR x = none) :
    Calls Tryz.prog 7 #[.agg cs] w fun e w' => WErr e ∧ Below w.heap.size w w' := by
  have hmf : ∀ (fn : Fn) (first cap : Array Value) (w : World), (Instr.makeFunc fn first cap).run Tryz.prog w = .ok (.func fn first cap) w := fun _ _ _ _ => rfl
  obtain ⟨V, hV⟩ : ∃ V, V = wB4 w cs := ⟨_, rfl⟩
  have hz : cs.size = 19 := by rw [hT.eq]; rfl
  have hat := wB4_at w cs
  have hsw := wB4_sw hg ht cs
  have hbw := wB4_below w cs
  have hsz := wB4_size w cs
  rw [← hV] at hat hsw hbw hsz
  have HS := hidLL (wsentence_q hO V (w.heap.size + 1 + 1 + 1) ⟨[], 0, 0⟩ ca sa cc sc oa oc cs hsw (hT.step fun k hk => ⟨hbw.block k hk, by omega⟩))
  have e0 : sentG x ⟨[], 0, 0⟩ = sentR x := rfl
  rw [e0, hn] at HS
  have HV : Hid (V = (((w.alloc (.cells cs 30)).alloc (.cells #[.string ⟨#[]⟩] 9)).alloc (.cells #[.nilIface] 32)).alloc (.cells #[.slice none 0 0, .int .i64 0, .int .i64 0] 65)) := hV
  have HA := hidLL hat
  have HB := hidLL hbw
  have HZ := hidLL hz
  clear hV hat hsw hbw hz hT hg ht e0 hn
  obtain ⟨b1, hb1⟩ : ∃ b1, b1 = w.heap.size := ⟨_, rfl⟩
  have HB1 := hidLL hb1
  go_enter_defers Tryz.func7, Tryz.ntmps7
  go_upto_region 3 with fail
  rw [← HV.out]
  clear HV
  go_wp2_with (first | (refine wpList_load_row rfl 30 (.tmp 1) rfl w.heap.size (by first | (simp [Act.eval]; done) | simp [Act.eval, Act.put]) 30 cs (0, 0) _ HA.out.1 Tryz.underlying30 rfl (infoSent.trans (by rw [HZ.out])) ?_) | (go_at_call 20; refine HS.out.mono ?_; rintro e V2 hE; (obtain ⟨hf2, p, rfl⟩ := hE); refine leaves_cons (f := 19) (args := #[.pointer (some ⟨w.heap.size + 1, 0, none⟩), .pointer (some ⟨w.heap.size + 1 + 1, 0, none⟩)]) (by simp) (by simp [go_sem]) ?_; refine (wcatch_p (HA.out.2.1.wf hf2 (by omega) (by omega)) (by omega) _ _ []).mono ?_; rintro e u' w9 ⟨rfl, rfl, hx9, hf9⟩; exact ⟨_, results_two hx9 _ rfl rfl, ⟨_, rfl⟩, (HB.out.trans (hf2.below.mono (by omega))).trans (hf9.below (by have := hf2.size; omega) (by omega) (by omega))⟩))
end Go.Proofs.YtehbinobohjadaaGreatDoor
namespace Go.Proofs.YtehbinobohjadaaGreatDoor
open Go.RowKit Go.Sort Go.Extern.Stop Go.Stop Go.Extern

theorem zS_st (w : World) (P : Nat → Prop) : STc w P zT none none 0 0 none 0 zS :=
  ⟨rfl, .mk _ _ _ (fun _ => none) (fun _ => 0) (fun i k h => by cases h) (fun i k h => by cases h) (Nat.le_refl _) (by show 0 ≤ _; omega), .mk _ _ _ (fun _ => none) (fun _ => 0) (fun i k h => by cases h) (fun i k h => by cases h) (Nat.le_refl _) (by show 0 ≤ _; omega), RdS.nil0 _ _ _ _⟩
/-- What Read told, as isSame takes it. -/
inductive RdT : RO → Option SentT → Prop
  | none : RdT .none (some zT)
  | bad : RdT .bad none
  | ok (y : SentW) : RdT (.ok y) (some (toS y))
/-- The world as it is when the line is written. -/
structure WrAt (w V : World) (cs : Array Value) (L : ByteArray) : Prop where
  bel : Below w.heap.size w V
  b1 : V.heap[w.heap.size]? = some (.cells cs 30 (0, 0))
  bx : WBx V (w.heap.size + 1) (w.heap.size + 1 + 1) L .nilIface
theorem WrAt.below {w V V' : World} {cs : Array Value} {L : ByteArray} (h : WrAt w V cs L) (hb : Below V.heap.size V V') : WrAt w V' cs L :=
  ⟨h.bel.trans (hb.mono h.bel.size), (hb.block _ (Array.getElem?_eq_some_iff.1 h.b1).1).trans h.b1, h.bx.fr hb⟩
theorem WrAt.setL {w V : World} {cs : Array Value} {L : ByteArray} (h : WrAt w V cs L) (L' : ByteArray) : WrAt w (V.setCell ⟨w.heap.size + 1, 0, none⟩ (.string L')) cs L' :=
  ⟨h.bel.setCell (by show w.heap.size ≤ w.heap.size + 1; omega) _, (Below.heap_setCell _ _ _ _ (by show w.heap.size ≠ w.heap.size + 1; omega)).trans h.b1, h.bx.setL (by omega) L'⟩
end Go.Proofs.YtehbinobohjadaaGreatDoor
