/-
  Sentences: there is fuel enough. Plain.
-/
import Derived.Test.YtehbinobohjadaaGreatDoorBk08
import Derived.Test.YtehbinobohjadaaGreatDoorBk12
namespace Go.Proofs.YtehbinobohjadaaGreatDoor
open Go.RowKit Go.Extern.Stop Go.Stop Go.Extern

/-- No rule runs out of fuel from a token on. -/
structure Fine (L : List Tok) (k : Nat) : Prop where
  fa : ∀ f n, 20 * (L.length - k) + 1 ≤ f → factorP L f k n ≠ .out
  pl : ∀ f y n, 20 * (L.length - k) + 1 ≤ f → partLoop L f y k n ≠ .out
  pa : ∀ f n, 20 * (L.length - k) + 3 ≤ f → partP L f k n ≠ .out
  sl : ∀ f y n, 20 * (L.length - k) + 1 ≤ f → sumLoop L f y k n ≠ .out
  su : ∀ f n, 20 * (L.length - k) + 5 ≤ f → sumP L f k n ≠ .out
  te : ∀ f n, 20 * (L.length - k) + 7 ≤ f → testP L f k n ≠ .out
  un : ∀ f n, 20 * (L.length - k) + 9 ≤ f → unlessP L f k n ≠ .out
  al : ∀ f y n, 20 * (L.length - k) + 1 ≤ f → andLoop L f y k n ≠ .out
  bo : ∀ f n, 20 * (L.length - k) + 11 ≤ f → bothP L f k n ≠ .out
  ol : ∀ f y n, 20 * (L.length - k) + 1 ≤ f → orLoop L f y k n ≠ .out
  ei : ∀ f n, 20 * (L.length - k) + 13 ≤ f → eitherP L f k n ≠ .out
end Go.Proofs.YtehbinobohjadaaGreatDoor
namespace Go.Proofs.YtehbinobohjadaaGreatDoor
open Go.RowKit Go.Extern.Stop Go.Stop Go.Extern

theorem tokOf_len (c : UInt8) (r : List UInt8) : 1 ≤ (tokOf c r).2.2 := by
  unfold tokOf
  split
  · dsimp only; split <;> (dsimp only; omega)
  · split
    · dsimp only
      split <;> (dsimp only; split <;> omega)
    · split
      · dsimp only; omega
      · split <;> (dsimp only; omega)
end Go.Proofs.YtehbinobohjadaaGreatDoor
namespace Go.Proofs.YtehbinobohjadaaGreatDoor
open Go.RowKit Go.Extern.Stop Go.Stop Go.Extern

end Go.Proofs.YtehbinobohjadaaGreatDoor
namespace Go.Proofs.YtehbinobohjadaaGreatDoor
open Go.RowKit Go.Extern.Stop Go.Stop Go.Extern

/-- How many bytes of a kind stand from a place on. -/
def runAt (q : UInt8 → Bool) (s : ByteArray) (i : Nat) : Nat := ((s.data.toList.drop i).takeWhile q).length
theorem bl_len (s : ByteArray) : s.data.toList.length = s.size := by
  rw [Array.length_toList]; rfl
theorem tokOf_le (c : UInt8) (r : List UInt8) : (tokOf c r).2.2 ≤ r.length + 1 := by
  unfold tokOf
  split
  · have h1 := (List.takeWhile_sublist wordC (l := r)).length_le
    dsimp only
    split <;> (dsimp only; omega)
  · split
    · have h1 := (List.takeWhile_sublist numC (l := r)).length_le
      dsimp only
      have h2 : (if pointL (r.drop (1 + (r.takeWhile numC).length - 1)) = true then 1 + (r.takeWhile numC).length + 3 else 1 + (r.takeWhile numC).length) ≤ r.length + 1 := by
        split
        · rename_i hp
          have h3 : 3 ≤ (r.drop (1 + (r.takeWhile numC).length - 1)).length := by
            match r.drop (1 + (r.takeWhile numC).length - 1), hp with
            | a :: b :: c :: l, _ => simp
          rw [List.length_drop] at h3
          omega
        · omega
      split <;> exact h2
    · split
      · rename_i ht
        match r, ht with
        | b :: r, _ => simp
      · split <;> (dsimp only; omega)
/-- The loop over a line: these tokens are made, the rest stands from here on. -/
structure TokInv (s : ByteArray) (p : Nat) (ts : List Tok) (i : Nat) : Prop where
  le : i ≤ s.size
  few : ts.length ≤ i
  eq : ∃ f, s.size - i < f ∧ toksB s p = ts ++ toksGo f (s.data.toList.drop i) i
theorem TokInv.start (s : ByteArray) (p : Nat) (h : p ≤ s.size) : TokInv s p [] p := ⟨h, Nat.zero_le _, s.size + 1, by omega, rfl⟩
def isBl (c : UInt8) : Bool := c == 32
theorem TokInv.last {s : ByteArray} {p i : Nat} {ts : List Tok} (h : TokInv s p ts i) (he : i + runAt isBl s i = s.size) : toksB s p = ts ++ [⟨.e, ⟨#[]⟩, s.size, 0⟩] := by
  obtain ⟨f, hf, e⟩ := h.eq
  obtain ⟨f, rfl⟩ : ∃ g, f = g + 1 := ⟨f - 1, by omega⟩
  rw [e, toksGo]
  have h1 : ((s.data.toList.drop i).takeWhile (· == 32)).length = runAt isBl s i := rfl
  rw [h1, List.drop_drop, he, List.drop_of_length_le (by rw [bl_len]; exact Nat.le_refl _)]
/-- The token at a place. -/
def tokHere (s : ByteArray) (j : Nat) (h : j < s.size) : Tok := ⟨(tokOf s[j] (s.data.toList.drop (j + 1))).1, ⟨((s.data.toList.drop j).take (tokOf s[j] (s.data.toList.drop (j + 1))).2.2).toArray⟩, j, (tokOf s[j] (s.data.toList.drop (j + 1))).2.1⟩
theorem TokInv.next {s : ByteArray} {p i : Nat} {ts : List Tok} (h : TokInv s p ts i) (hj : i + runAt isBl s i < s.size) :
    TokInv s p (ts ++ [tokHere s (i + runAt isBl s i) hj]) (i + runAt isBl s i + (tokOf s[i + runAt isBl s i] (s.data.toList.drop (i + runAt isBl s i + 1))).2.2) := by
  obtain ⟨f, hf, e⟩ := h.eq
  obtain ⟨f, rfl⟩ : ∃ g, f = g + 1 := ⟨f - 1, by omega⟩
  have h0 := h.few
  rw [toksGo] at e
  have h1 : ((s.data.toList.drop i).takeWhile (· == 32)).length = runAt isBl s i := rfl
  rw [h1, List.drop_drop] at e
  unfold tokHere
  have hij : i ≤ i + runAt isBl s i := Nat.le_add_right _ _
  generalize i + runAt isBl s i = j at *
  rw [drop_get s j hj] at e ⊢
  have h2 := tokOf_len s[j] (s.data.toList.drop (j + 1))
  have h3 := tokOf_le s[j] (s.data.toList.drop (j + 1))
  rw [List.length_drop, bl_len] at h3
  refine ⟨by omega, ?_, f, ?_, ?_⟩
  · simp only [List.length_append, List.length_singleton]
    omega
  · omega
  · rw [e, List.append_assoc]
    dsimp only
    rw [← drop_get s j hj, List.drop_drop]
    rfl
end Go.Proofs.YtehbinobohjadaaGreatDoor
namespace Go.Proofs.YtehbinobohjadaaGreatDoor
open Go.RowKit Go.Extern.Stop Go.Stop Go.Extern

/-- Where the number with which a text begins is over. -/
def numEnd (l : List UInt8) : Nat := if pointL (l.drop (l.takeWhile numC).length) = true then (l.takeWhile numC).length + 3 else (l.takeWhile numC).length
theorem ext_list (s : ByteArray) (a b : Nat) : (s.extract a b).data.toList = (s.data.toList.take b).drop a := by
  rw [ByteArray.data_extract, Array.toList_extract, List.extract_eq_take_drop, List.drop_take]
theorem ext_drop (s : ByteArray) (a : Nat) : (s.extract a s.size).data.toList = s.data.toList.drop a := by
  rw [ext_list, List.take_of_length_le (by rw [bl_len]; exact Nat.le_refl _)]
theorem ext_take (s : ByteArray) (b : Nat) : (s.extract 0 b).data.toList = s.data.toList.take b := by
  rw [ext_list, List.drop_zero]
theorem ext_size (s : ByteArray) (n : Nat) : (s.extract n s.size).size = s.size - n := by simp only [ByteArray.size_extract]; omega
theorem tw_le (q : UInt8 → Bool) (s : ByteArray) : (s.data.toList.takeWhile q).length ≤ s.size := by
  have h := (List.takeWhile_sublist q (l := s.data.toList)).length_le
  rw [bl_len] at h
  exact h
theorem point_is (l : List UInt8) : pointL l = (Lib.hasPrefix l [46] && decide (2 ≤ ((l.drop 1).takeWhile numC).length)) := by
  match l with
  | [] => rfl
  | [a] => simp [pointL]
  | [a, b] =>
    simp only [pointL, List.drop_succ_cons, List.drop_zero]
    cases h : numC b <;> simp [List.takeWhile, h]
  | a :: b :: c :: r =>
    simp only [pointL, List.drop_succ_cons, List.drop_zero]
    have e : Lib.hasPrefix (a :: b :: c :: r) [46] = decide (a.toNat = 46) := by
      rw [Bool.eq_iff_iff, decide_eq_true_eq]
      simp only [Lib.hasPrefix, List.isPrefixOf, Bool.and_true, beq_iff_eq]
      constructor
      · rintro rfl; rfl
      · intro h; exact (UInt8.toNat_inj.1 h).symm
    rw [e]
    cases h : numC b <;> cases h2 : numC c <;> simp [List.takeWhile, h, h2]
set_option maxHeartbeats 1000000 in
theorem numberEnd_q (s : ByteArray) (hs : s.size ≤ 100000) (w : World) :
    Calls Tryz.prog 76 #[.string s] w fun e w' => e = .returned (.int .i64 (numEnd s.data.toList)) ∧ w' = w := by
  have H1 := hidLL (countDigit_q s hs w)
  have hn := tw_le numC s
  have HP := hidLL (point_is (s.data.toList.drop (s.data.toList.takeWhile numC).length))
  have HE : Hid (numEnd s.data.toList = if pointL (s.data.toList.drop (s.data.toList.takeWhile numC).length) = true then (s.data.toList.takeWhile numC).length + 3 else (s.data.toList.takeWhile numC).length) := rfl
  generalize (s.data.toList.takeWhile numC).length = n at *
  generalize numEnd s.data.toList = O at *
  have H2 := hidLL (Go.Proofs.Tryz.strings_HasPrefix (s.extract n s.size) ⟨#[46]⟩ w)
  have H3 := hidLL (countDigit_q ((s.extract n s.size).extract 1 (s.extract n s.size).size) (by simp only [ByteArray.size_extract]; omega) w)
  rw [ext_drop] at H2
  rw [ext_drop, ext_drop, ext_size] at H3
  have hx : Hid (Lib.hasPrefix (s.data.toList.drop n) [46] = true → 1 ≤ (s.extract n s.size).size) := by
    show _ → _
    intro h
    rw [← ext_drop] at h
    rcases Nat.eq_zero_or_pos (s.extract n s.size).size with h0 | h0
    · have e0 : (s.extract n s.size).data.toList = [] := by
        apply List.eq_nil_of_length_eq_zero
        rw [bl_len]; exact h0
      rw [e0] at h
      cases h
    · exact h0
  have hcz : (s.extract n s.size).size ≤ 100000 := by simp only [ByteArray.size_extract]; omega
  have H2 : Hid (Calls Tryz.prog 116 #[.string (s.extract n s.size), .string ⟨#[46]⟩] w fun e w' => e = .returned (.bool (Lib.hasPrefix (s.data.toList.drop n) [46])) ∧ w' = w) := H2
  generalize pointL (s.data.toList.drop n) = pb at *
  cases hp : Lib.hasPrefix (s.data.toList.drop n) [46]
  · rw [hp] at H2 HP
    have hpb : pb = false := by have := HP.out; simpa using this
    subst hpb
    have HO : Hid (O = n) := HE.out
    clear HP hp hx H3 HE
    go_enter Tryz.func76, Tryz.ntmps76
    go_wp2_with (first | (go_at_call 73; refine H1.out.mono ?_; rintro e w' ⟨rfl, h9⟩; subst w') | (go_at_call 116; refine H2.out.mono ?_; rintro e w' ⟨rfl, h9⟩; subst w'))
    go_ret
    exact ⟨retIQ (by rw [HO.out]), rfl⟩
  · have hc1 := hx.out hp
    have hc1z : (1 : Int) ≤ (s.extract n s.size).size := by omega
    rw [hp] at H2 HP
    clear hp hx
    have HM : Hid (((List.drop 1 (s.data.toList.drop n)).takeWhile numC).length ≤ 100000) := by
      have h1 := (List.takeWhile_sublist numC (l := List.drop 1 (s.data.toList.drop n))).length_le
      rw [List.length_drop, List.length_drop, bl_len] at h1
      show _ ≤ _
      omega
    generalize ((List.drop 1 (s.data.toList.drop n)).takeWhile numC).length = m at *
    have hm5 : m ≤ 100000 := HM.out
    clear HM
    by_cases h2 : 2 ≤ m
    · have h2z : (2 : Int) ≤ m := by omega
      have hpb : pb = true := by have := HP.out; simpa [h2] using this
      subst hpb
      have HO : Hid (O = n + 3) := HE.out
      clear HP HE
      go_enter Tryz.func76, Tryz.ntmps76
      go_upto_region 3 with (go_at_call 73; refine H1.out.mono ?_; rintro e w' ⟨rfl, h9⟩; subst w')
      go_wp2_with (first | (go_at_call 73; refine H3.out.mono ?_; rintro e w' ⟨rfl, h9⟩; subst w') | (go_at_call 116; refine H2.out.mono ?_; rintro e w' ⟨rfl, h9⟩; subst w'))
      go_ret
      exact ⟨retIQ (by rw [HO.out]; go_num), rfl⟩
    · have h2z : ¬ (2 : Int) ≤ m := by omega
      have hpb : pb = false := by have := HP.out; simpa [h2] using this
      subst hpb
      have HO : Hid (O = n) := HE.out
      clear HP HE
      go_enter Tryz.func76, Tryz.ntmps76
      go_upto_region 3 with (go_at_call 73; refine H1.out.mono ?_; rintro e w' ⟨rfl, h9⟩; subst w')
      go_wp2_with (first | (go_at_call 73; refine H3.out.mono ?_; rintro e w' ⟨rfl, h9⟩; subst w') | (go_at_call 116; refine H2.out.mono ?_; rintro e w' ⟨rfl, h9⟩; subst w'))
      go_ret
      exact ⟨retIQ (by rw [HO.out]), rfl⟩
end Go.Proofs.YtehbinobohjadaaGreatDoor
namespace Go.Proofs.YtehbinobohjadaaGreatDoor
open Go.RowKit Go.Extern.Stop Go.Stop Go.Extern

/-- How long the sign is with which a text begins; 0: none. -/
def signN (l : List UInt8) : Nat := if twoL l = true then 2 else match l with
  | c :: _ => if signsL.contains c = true then 1 else 0
  | [] => 0
theorem two_of {l : List UInt8} {a b : UInt8} (h : (l.take 2 == [a, b]) = true) (hab : twoL [a, b] = true) : twoL l = true := by
  match l, h with
  | [], h => simp at h
  | [x], h => simp at h
  | x :: y :: r, h =>
    simp only [List.take_succ_cons, List.take_zero, beq_iff_eq, List.cons.injEq, and_true] at h
    obtain ⟨rfl, rfl⟩ := h
    exact hab
theorem two_not {l : List UInt8} (h0 : (l.take 2 == [60, 61]) = false) (h1 : (l.take 2 == [60, 62]) = false) (h2 : (l.take 2 == [62, 61]) = false) : twoL l = false := by
  match l with
  | [] => rfl
  | [x] => rfl
  | x :: y :: r =>
    simp only [List.take_succ_cons, List.take_zero, beq_eq_false_iff_ne, ne_eq, List.cons.injEq, and_true] at h0 h1 h2
    rw [twoL, decide_eq_false_iff_not]
    rintro (h | h | h)
    · exact h0 h
    · exact h1 h
    · exact h2 h
theorem sign_hit {l : List UInt8} {a : UInt8} (ht : twoL l = false) (h : (l.take 1 == [a]) = true) (ha : signsL.contains a = true) : signN l = 1 := by
  match l, h with
  | [], h => simp at h
  | x :: r, h =>
    simp only [List.take_succ_cons, List.take_zero, beq_iff_eq, List.cons.injEq, and_true] at h
    subst h
    unfold signN
    rw [ht]
    simp only [Bool.false_eq_true, if_false]
    rw [if_pos ha]
theorem sign_miss {l : List UInt8} (ht : twoL l = false) (h : ∀ a, a ∈ signsL → (l.take 1 == [a]) = false) : signN l = 0 := by
  unfold signN
  rw [ht]
  simp only [Bool.false_eq_true, if_false]
  match l with
  | [] => rfl
  | x :: r =>
    show (if signsL.contains x = true then 1 else 0) = 0
    rw [if_neg]
    intro hc
    have := h x (by simpa using hc)
    simp at this
theorem take1 {s : ByteArray} : (s.extract 0 1).toList = s.data.toList.take 1 := by rw [Lib.toList_data, ext_take]
theorem take2 {s : ByteArray} : (s.extract 0 2).toList = s.data.toList.take 2 := by rw [Lib.toList_data, ext_take]
set_option maxHeartbeats 2000000 in
theorem signSize_two (s : ByteArray) (hs : s.size ≤ 100000) (h1 : 1 < s.size) (w : World) :
    Calls Tryz.prog 77 #[.string s] w fun e w' => e = .returned (.int .i64 (signN s.data.toList)) ∧ w' = w := by
  obtain ⟨O, hO⟩ : ∃ O, O = signN s.data.toList := ⟨_, rfl⟩
  rw [← hO]
  have HO := hidLL hO
  clear hO
  have hz : (1 : Int) < s.size := by omega
  cases t0 : ((s.extract 0 2).toList == [60, 61])
  rotate_left
  · have HR : Hid (signN s.data.toList = 2) := by show _ = _; unfold signN; rw [two_of (by rw [← take2]; exact t0) (by decide), if_pos rfl]
    go_enter Tryz.func77, Tryz.ntmps77
    go_wp2
    go_ret
    exact ⟨retIQ (by rw [HO.out, HR.out]; rfl), rfl⟩
  cases t1 : ((s.extract 0 2).toList == [60, 62])
  rotate_left
  · have HR : Hid (signN s.data.toList = 2) := by show _ = _; unfold signN; rw [two_of (by rw [← take2]; exact t1) (by decide), if_pos rfl]
    go_enter Tryz.func77, Tryz.ntmps77
    go_wp2
    go_ret
    exact ⟨retIQ (by rw [HO.out, HR.out]; rfl), rfl⟩
  cases t2 : ((s.extract 0 2).toList == [62, 61])
  rotate_left
  · have HR : Hid (signN s.data.toList = 2) := by show _ = _; unfold signN; rw [two_of (by rw [← take2]; exact t2) (by decide), if_pos rfl]
    go_enter Tryz.func77, Tryz.ntmps77
    go_wp2
    go_ret
    exact ⟨retIQ (by rw [HO.out, HR.out]; rfl), rfl⟩
  have HT : Hid (twoL s.data.toList = false) := two_not (by rw [← take2]; exact t0) (by rw [← take2]; exact t1) (by rw [← take2]; exact t2)
  cases k0 : ((s.extract 0 1).toList == [58])
  rotate_left
  · have HR : Hid (signN s.data.toList = 1) := sign_hit HT.out (by rw [← take1]; exact k0) (by decide)
    clear HT
    go_enter Tryz.func77, Tryz.ntmps77
    go_wp2
    go_ret
    exact ⟨retIQ (by rw [HO.out, HR.out]; rfl), rfl⟩
  cases k1 : ((s.extract 0 1).toList == [44])
  rotate_left
  · have HR : Hid (signN s.data.toList = 1) := sign_hit HT.out (by rw [← take1]; exact k1) (by decide)
    clear HT
    go_enter Tryz.func77, Tryz.ntmps77
    go_wp2
    go_ret
    exact ⟨retIQ (by rw [HO.out, HR.out]; rfl), rfl⟩
  cases k2 : ((s.extract 0 1).toList == [59])
  rotate_left
  · have HR : Hid (signN s.data.toList = 1) := sign_hit HT.out (by rw [← take1]; exact k2) (by decide)
    clear HT
    go_enter Tryz.func77, Tryz.ntmps77
    go_wp2
    go_ret
    exact ⟨retIQ (by rw [HO.out, HR.out]; rfl), rfl⟩
  cases k3 : ((s.extract 0 1).toList == [40])
  rotate_left
  · have HR : Hid (signN s.data.toList = 1) := sign_hit HT.out (by rw [← take1]; exact k3) (by decide)
    clear HT
    go_enter Tryz.func77, Tryz.ntmps77
    go_wp2
    go_ret
    exact ⟨retIQ (by rw [HO.out, HR.out]; rfl), rfl⟩
  cases k4 : ((s.extract 0 1).toList == [41])
  rotate_left
  · have HR : Hid (signN s.data.toList = 1) := sign_hit HT.out (by rw [← take1]; exact k4) (by decide)
    clear HT
    go_enter Tryz.func77, Tryz.ntmps77
    go_wp2
    go_ret
    exact ⟨retIQ (by rw [HO.out, HR.out]; rfl), rfl⟩
  cases k5 : ((s.extract 0 1).toList == [91])
  rotate_left
  · have HR : Hid (signN s.data.toList = 1) := sign_hit HT.out (by rw [← take1]; exact k5) (by decide)
    clear HT
    go_enter Tryz.func77, Tryz.ntmps77
    go_wp2
    go_ret
    exact ⟨retIQ (by rw [HO.out, HR.out]; rfl), rfl⟩
  cases k6 : ((s.extract 0 1).toList == [93])
  rotate_left
  · have HR : Hid (signN s.data.toList = 1) := sign_hit HT.out (by rw [← take1]; exact k6) (by decide)
    clear HT
    go_enter Tryz.func77, Tryz.ntmps77
    go_wp2
    go_ret
    exact ⟨retIQ (by rw [HO.out, HR.out]; rfl), rfl⟩
  cases k7 : ((s.extract 0 1).toList == [60])
  rotate_left
  · have HR : Hid (signN s.data.toList = 1) := sign_hit HT.out (by rw [← take1]; exact k7) (by decide)
    clear HT
    go_enter Tryz.func77, Tryz.ntmps77
    go_wp2
    go_ret
    exact ⟨retIQ (by rw [HO.out, HR.out]; rfl), rfl⟩
  cases k8 : ((s.extract 0 1).toList == [61])
  rotate_left
  · have HR : Hid (signN s.data.toList = 1) := sign_hit HT.out (by rw [← take1]; exact k8) (by decide)
    clear HT
    go_enter Tryz.func77, Tryz.ntmps77
    go_wp2
    go_ret
    exact ⟨retIQ (by rw [HO.out, HR.out]; rfl), rfl⟩
  cases k9 : ((s.extract 0 1).toList == [62])
  rotate_left
  · have HR : Hid (signN s.data.toList = 1) := sign_hit HT.out (by rw [← take1]; exact k9) (by decide)
    clear HT
    go_enter Tryz.func77, Tryz.ntmps77
    go_wp2
    go_ret
    exact ⟨retIQ (by rw [HO.out, HR.out]; rfl), rfl⟩
  cases k10 : ((s.extract 0 1).toList == [43])
  rotate_left
  · have HR : Hid (signN s.data.toList = 1) := sign_hit HT.out (by rw [← take1]; exact k10) (by decide)
    clear HT
    go_enter Tryz.func77, Tryz.ntmps77
    go_wp2
    go_ret
    exact ⟨retIQ (by rw [HO.out, HR.out]; rfl), rfl⟩
  cases k11 : ((s.extract 0 1).toList == [45])
  rotate_left
  · have HR : Hid (signN s.data.toList = 1) := sign_hit HT.out (by rw [← take1]; exact k11) (by decide)
    clear HT
    go_enter Tryz.func77, Tryz.ntmps77
    go_wp2
    go_ret
    exact ⟨retIQ (by rw [HO.out, HR.out]; rfl), rfl⟩
  cases k12 : ((s.extract 0 1).toList == [42])
  rotate_left
  · have HR : Hid (signN s.data.toList = 1) := sign_hit HT.out (by rw [← take1]; exact k12) (by decide)
    clear HT
    go_enter Tryz.func77, Tryz.ntmps77
    go_wp2
    go_ret
    exact ⟨retIQ (by rw [HO.out, HR.out]; rfl), rfl⟩
  cases k13 : ((s.extract 0 1).toList == [37])
  rotate_left
  · have HR : Hid (signN s.data.toList = 1) := sign_hit HT.out (by rw [← take1]; exact k13) (by decide)
    clear HT
    go_enter Tryz.func77, Tryz.ntmps77
    go_wp2
    go_ret
    exact ⟨retIQ (by rw [HO.out, HR.out]; rfl), rfl⟩
  have HR : Hid (signN s.data.toList = 0) := sign_miss HT.out (by
    intro a ha
    rw [← take1]
    simp only [signsL, List.mem_cons, List.not_mem_nil, or_false] at ha
    rcases ha with rfl | rfl | rfl | rfl | rfl | rfl | rfl | rfl | rfl | rfl | rfl | rfl | rfl | rfl
    · exact k0
    · exact k1
    · exact k3
    · exact k4
    · exact k7
    · exact k8
    · exact k9
    · exact k10
    · exact k11
    · exact k12
    · exact k13
    · exact k2
    · exact k5
    · exact k6)
  clear HT
  go_enter Tryz.func77, Tryz.ntmps77
  go_wp2
  go_ret
  exact ⟨retIQ (by rw [HO.out, HR.out]; rfl), rfl⟩
set_option maxHeartbeats 2000000 in
theorem signSize_one (s : ByteArray) (h1 : s.size = 1) (w : World) :
    Calls Tryz.prog 77 #[.string s] w fun e w' => e = .returned (.int .i64 (signN s.data.toList)) ∧ w' = w := by
  obtain ⟨O, hO⟩ : ∃ O, O = signN s.data.toList := ⟨_, rfl⟩
  rw [← hO]
  have HO := hidLL hO
  clear hO
  have hz : ¬ (1 : Int) < s.size := by omega
  have h11 : 1 ≤ s.size := by omega
  have HT : Hid (twoL s.data.toList = false) := by
    show _ = _
    have hl := bl_len s
    match e : s.data.toList with
    | [] => rfl
    | [x] => rfl
    | x :: y :: r => rw [e] at hl; simp at hl; omega
  clear h1
  cases k0 : ((s.extract 0 1).toList == [58])
  rotate_left
  · have HR : Hid (signN s.data.toList = 1) := sign_hit HT.out (by rw [← take1]; exact k0) (by decide)
    clear HT
    go_enter Tryz.func77, Tryz.ntmps77
    go_wp2
    go_ret
    exact ⟨retIQ (by rw [HO.out, HR.out]; rfl), rfl⟩
  cases k1 : ((s.extract 0 1).toList == [44])
  rotate_left
  · have HR : Hid (signN s.data.toList = 1) := sign_hit HT.out (by rw [← take1]; exact k1) (by decide)
    clear HT
    go_enter Tryz.func77, Tryz.ntmps77
    go_wp2
    go_ret
    exact ⟨retIQ (by rw [HO.out, HR.out]; rfl), rfl⟩
  cases k2 : ((s.extract 0 1).toList == [59])
  rotate_left
  · have HR : Hid (signN s.data.toList = 1) := sign_hit HT.out (by rw [← take1]; exact k2) (by decide)
    clear HT
    go_enter Tryz.func77, Tryz.ntmps77
    go_wp2
    go_ret
    exact ⟨retIQ (by rw [HO.out, HR.out]; rfl), rfl⟩
  cases k3 : ((s.extract 0 1).toList == [40])
  rotate_left
  · have HR : Hid (signN s.data.toList = 1) := sign_hit HT.out (by rw [← take1]; exact k3) (by decide)
    clear HT
    go_enter Tryz.func77, Tryz.ntmps77
    go_wp2
    go_ret
    exact ⟨retIQ (by rw [HO.out, HR.out]; rfl), rfl⟩
  cases k4 : ((s.extract 0 1).toList == [41])
  rotate_left
  · have HR : Hid (signN s.data.toList = 1) := sign_hit HT.out (by rw [← take1]; exact k4) (by decide)
    clear HT
    go_enter Tryz.func77, Tryz.ntmps77
    go_wp2
    go_ret
    exact ⟨retIQ (by rw [HO.out, HR.out]; rfl), rfl⟩
  cases k5 : ((s.extract 0 1).toList == [91])
  rotate_left
  · have HR : Hid (signN s.data.toList = 1) := sign_hit HT.out (by rw [← take1]; exact k5) (by decide)
    clear HT
    go_enter Tryz.func77, Tryz.ntmps77
    go_wp2
    go_ret
    exact ⟨retIQ (by rw [HO.out, HR.out]; rfl), rfl⟩
  cases k6 : ((s.extract 0 1).toList == [93])
  rotate_left
  · have HR : Hid (signN s.data.toList = 1) := sign_hit HT.out (by rw [← take1]; exact k6) (by decide)
    clear HT
    go_enter Tryz.func77, Tryz.ntmps77
    go_wp2
    go_ret
    exact ⟨retIQ (by rw [HO.out, HR.out]; rfl), rfl⟩
  cases k7 : ((s.extract 0 1).toList == [60])
  rotate_left
  · have HR : Hid (signN s.data.toList = 1) := sign_hit HT.out (by rw [← take1]; exact k7) (by decide)
    clear HT
    go_enter Tryz.func77, Tryz.ntmps77
    go_wp2
    go_ret
    exact ⟨retIQ (by rw [HO.out, HR.out]; rfl), rfl⟩
  cases k8 : ((s.extract 0 1).toList == [61])
  rotate_left
  · have HR : Hid (signN s.data.toList = 1) := sign_hit HT.out (by rw [← take1]; exact k8) (by decide)
    clear HT
    go_enter Tryz.func77, Tryz.ntmps77
    go_wp2
    go_ret
    exact ⟨retIQ (by rw [HO.out, HR.out]; rfl), rfl⟩
  cases k9 : ((s.extract 0 1).toList == [62])
  rotate_left
  · have HR : Hid (signN s.data.toList = 1) := sign_hit HT.out (by rw [← take1]; exact k9) (by decide)
    clear HT
    go_enter Tryz.func77, Tryz.ntmps77
    go_wp2
    go_ret
    exact ⟨retIQ (by rw [HO.out, HR.out]; rfl), rfl⟩
  cases k10 : ((s.extract 0 1).toList == [43])
  rotate_left
  · have HR : Hid (signN s.data.toList = 1) := sign_hit HT.out (by rw [← take1]; exact k10) (by decide)
    clear HT
    go_enter Tryz.func77, Tryz.ntmps77
    go_wp2
    go_ret
    exact ⟨retIQ (by rw [HO.out, HR.out]; rfl), rfl⟩
  cases k11 : ((s.extract 0 1).toList == [45])
  rotate_left
  · have HR : Hid (signN s.data.toList = 1) := sign_hit HT.out (by rw [← take1]; exact k11) (by decide)
    clear HT
    go_enter Tryz.func77, Tryz.ntmps77
    go_wp2
    go_ret
    exact ⟨retIQ (by rw [HO.out, HR.out]; rfl), rfl⟩
  cases k12 : ((s.extract 0 1).toList == [42])
  rotate_left
  · have HR : Hid (signN s.data.toList = 1) := sign_hit HT.out (by rw [← take1]; exact k12) (by decide)
    clear HT
    go_enter Tryz.func77, Tryz.ntmps77
    go_wp2
    go_ret
    exact ⟨retIQ (by rw [HO.out, HR.out]; rfl), rfl⟩
  cases k13 : ((s.extract 0 1).toList == [37])
  rotate_left
  · have HR : Hid (signN s.data.toList = 1) := sign_hit HT.out (by rw [← take1]; exact k13) (by decide)
    clear HT
    go_enter Tryz.func77, Tryz.ntmps77
    go_wp2
    go_ret
    exact ⟨retIQ (by rw [HO.out, HR.out]; rfl), rfl⟩
  have HR : Hid (signN s.data.toList = 0) := sign_miss HT.out (by
    intro a ha
    rw [← take1]
    simp only [signsL, List.mem_cons, List.not_mem_nil, or_false] at ha
    rcases ha with rfl | rfl | rfl | rfl | rfl | rfl | rfl | rfl | rfl | rfl | rfl | rfl | rfl | rfl
    · exact k0
    · exact k1
    · exact k3
    · exact k4
    · exact k7
    · exact k8
    · exact k9
    · exact k10
    · exact k11
    · exact k12
    · exact k13
    · exact k2
    · exact k5
    · exact k6)
  clear HT
  go_enter Tryz.func77, Tryz.ntmps77
  go_wp2
  go_ret
  exact ⟨retIQ (by rw [HO.out, HR.out]; rfl), rfl⟩
theorem signSize_q (s : ByteArray) (hs : s.size ≤ 100000) (h1 : 1 ≤ s.size) (w : World) :
    Calls Tryz.prog 77 #[.string s] w fun e w' => e = .returned (.int .i64 (signN s.data.toList)) ∧ w' = w := by
  rcases Nat.lt_or_ge 1 s.size with h | h
  · exact signSize_two s hs h w
  · exact signSize_one s (by omega) w
end Go.Proofs.YtehbinobohjadaaGreatDoor
