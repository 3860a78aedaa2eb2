/-
  The reference's Truth: some, every, orders; all of it (written by tools/genfr.py).
-/
import Derived.Test.YtcfeflkhmncmjaaGreatDoorFrT4
import Derived.Test.YtcfeflkhmncmjaaGreatDoorFrO
import Derived.Test.YtcfeflkhmncmjaaGreatDoorFrS3
namespace Go.Proofs.YtcfeflkhmncmjaaGreatDoor
open Go.RowKit

set_option maxHeartbeats 8000000 in
set_option maxRecDepth 20000 in
theorem truth_each {L : List Fct} {on known : Int} {t : Tr} (hk : t.kd = .some ∨ t.kd = .every) (hl5 : L.length ≤ 500) (ih : ∀ (i : Nat) (u : Tr), t.kids[i]? = some u → TruthIs L on known 10 u) : TruthIs L on known 10 t := by
  intro w bk bf who ka kc hf hl hn
  obtain ⟨W, hW⟩ : ∃ W, W = w.alloc (.cells #[.string t.kind, .string t.word, .int .i64 t.num, .slice ka t.kids.length kc] 25) := ⟨_, rfl⟩
  obtain ⟨ab, hab⟩ : ∃ ab, ab = w.heap.size := ⟨_, rfl⟩
  have HS : Hid (RS w W ab bk bf L who on known t ka kc) := by rw [hab]; exact RS.mk0 hf hl hn hW
  have n0 := HS.out.n0
  have n1 := HS.out.n1
  have n2 := HS.out.n2
  have n3 := HS.out.n3
  have HW := hidLL (And.intro hW hab)
  have q0 := kq_or t.kind
  have q1 := kq_and t.kind
  have q2 := kq_not t.kind
  have q3 := kq_name t.kind
  have q4 := kq_some t.kind
  have q5 := kq_every t.kind
  have hkd : t.kd = kdOf t.kind := rfl
  have hlen := hn.lens.1
  clear hf hl hn hW hab
  have HIw := hidLL (rIsWord_f t.word)
  obtain ⟨iw, hiw⟩ : ∃ iw, iw = isWordB t.word := ⟨_, rfl⟩
  rw [← hiw] at HIw
  by_cases hc : t.kids.length = 1 ∧ isWordB t.word = true
  · have HT := hidLL (each_r hk hc.1 hc.2 hl5 ih W bk bf who ka kc HS.out.fl HS.out.lk HS.out.nr)
    obtain ⟨R, hR⟩ : ∃ R, R = ev (envOf L on known) t who false := ⟨_, rfl⟩
    rw [← hR] at HT ⊢
    have HT2 : Hid (∃ x y, resT R = .tuple #[.bool x, .int .i64 y]) := by cases R <;> exact ⟨_, _, rfl⟩
    obtain ⟨rx, ry, hrr⟩ := HT2.out
    rw [hrr] at HT ⊢
    obtain ⟨h1, h2⟩ := hc
    rw [h1] at n3 HT
    obtain rfl : iw = true := hiw.trans h2
    rcases hk with hk | hk <;> rw [← hkd, hk] at q0 q1 q2 q3 q4 q5 <;> simp only [reduceCtorEq, decide_false, decide_true] at q0 q1 q2 q3 q4 q5 <;> clear hk hkd ih hR HT2 hrr hiw h1 h2 hlen
    all_goals (
      go_enter Tryz.func10, Tryz.ntmps10
      go_upto_region 1 with fail
      rw [← HW.out.1, ← HW.out.2]
      go_wp2_with (first | (go_at_call 23; refine (HIw.out _).mono ?_; rintro e w9 ⟨rfl, h9⟩; subst w9) | (go_at_call 25; refine HT.out.mono ?_; rintro e w2 ⟨rfl, hb2⟩; (have HS2 := hidLL (HS.out.step hb2)); clear hb2))
      go_ret2
      exact ⟨rfl, HS2.out.bel⟩)
  · rw [ev_each_bad hk hc]
    by_cases h1 : t.kids.length = 1
    · have hi : iw = false := by cases iw with | false => rfl | true => exact absurd ⟨h1, hiw.symm⟩ hc
      subst hi
      rw [h1] at n3
      rcases hk with hk | hk <;> rw [← hkd, hk] at q0 q1 q2 q3 q4 q5 <;> simp only [reduceCtorEq, decide_false, decide_true] at q0 q1 q2 q3 q4 q5 <;> clear hk hkd ih hiw h1 hc hlen
      all_goals (
        go_enter Tryz.func10, Tryz.ntmps10
        go_upto_region 1 with fail
        rw [← HW.out.1, ← HW.out.2]
        go_wp2_with (go_at_call 23; refine (HIw.out _).mono ?_; rintro e w9 ⟨rfl, h9⟩; subst w9)
        go_ret2
        exact ⟨rfl, HS.out.bel⟩)
    · have hz : ((t.kids.length : Int) != 1) = true := by rw [bne_iff_ne]; omega
      rcases hk with hk | hk <;> rw [← hkd, hk] at q0 q1 q2 q3 q4 q5 <;> simp only [reduceCtorEq, decide_false, decide_true] at q0 q1 q2 q3 q4 q5 <;> clear hk hkd ih hiw h1 hc
      all_goals (
        go_enter Tryz.func10, Tryz.ntmps10
        go_upto_region 1 with fail
        rw [← HW.out.1, ← HW.out.2]
        go_wp2_with (go_at_call 23; refine (HIw.out _).mono ?_; rintro e w9 ⟨rfl, h9⟩; subst w9)
        go_ret2
        exact ⟨rfl, HS.out.bel⟩)
set_option maxHeartbeats 8000000 in
set_option maxRecDepth 20000 in
theorem truth_rest {L : List Fct} {on known : Int} {t : Tr} (h0 : t.kd ≠ .or) (h1 : t.kd ≠ .and) (h2 : t.kd ≠ .not) (h3 : t.kd ≠ .name) (h4 : t.kd ≠ .some) (h5 : t.kd ≠ .every) (hO : TruthIs L on known 26 t) : TruthIs L on known 10 t := by
  intro w bk bf who ka kc hf hl hn
  obtain ⟨W, hW⟩ : ∃ W, W = w.alloc (.cells #[.string t.kind, .string t.word, .int .i64 t.num, .slice ka t.kids.length kc] 25) := ⟨_, rfl⟩
  obtain ⟨ab, hab⟩ : ∃ ab, ab = w.heap.size := ⟨_, rfl⟩
  have HS : Hid (RS w W ab bk bf L who on known t ka kc) := by rw [hab]; exact RS.mk0 hf hl hn hW
  have n0 := HS.out.n0
  have n1 := HS.out.n1
  have n2 := HS.out.n2
  have n3 := HS.out.n3
  have HW := hidLL (And.intro hW hab)
  have q0 := kq_or t.kind
  have q1 := kq_and t.kind
  have q2 := kq_not t.kind
  have q3 := kq_name t.kind
  have q4 := kq_some t.kind
  have q5 := kq_every t.kind
  have hkd : t.kd = kdOf t.kind := rfl
  have hlen := hn.lens.1
  clear hf hl hn hW hab
  have HT := hidLL (hO W bk bf who ka kc HS.out.fl HS.out.lk HS.out.nr)
  obtain ⟨R, hR⟩ : ∃ R, R = ev (envOf L on known) t who false := ⟨_, rfl⟩
  rw [← hR] at HT ⊢
  have HT2 : Hid (∃ x y, resT R = .tuple #[.bool x, .int .i64 y]) := by cases R <;> exact ⟨_, _, rfl⟩
  obtain ⟨rx, ry, hrr⟩ := HT2.out
  rw [hrr] at HT ⊢
  rw [decide_eq_false (show ¬ kdOf t.kind = .or from h0)] at q0
  rw [decide_eq_false (show ¬ kdOf t.kind = .and from h1)] at q1
  rw [decide_eq_false (show ¬ kdOf t.kind = .not from h2)] at q2
  rw [decide_eq_false (show ¬ kdOf t.kind = .name from h3)] at q3
  rw [decide_eq_false (show ¬ kdOf t.kind = .some from h4)] at q4
  rw [decide_eq_false (show ¬ kdOf t.kind = .every from h5)] at q5
  clear hkd hR HT2 hrr hlen h0 h1 h2 h3 h4 h5 hO
  go_enter Tryz.func10, Tryz.ntmps10
  go_upto_region 1 with fail
  rw [← HW.out.1, ← HW.out.2]
  go_wp2_with (go_at_call 26; refine HT.out.mono ?_; rintro e w2 ⟨rfl, hb2⟩; (have HS2 := hidLL (HS.out.step hb2)); clear hb2)
  go_ret2
  exact ⟨rfl, HS2.out.bel⟩
/-- THE REFERENCE TELLS THE WORTH. -/
theorem look_all {L : List Fct} {on known : Int} (hl5 : L.length ≤ 500) (hG : ∀ x ∈ L, Good x) : ∀ (n : Nat) (t : Tr), SizeOf.sizeOf t = n → TruthIs L on known 10 t ∧ SumIs L on known 13 t := by
  intro n
  induction n using Nat.strongRecOn with
  | ind n ih =>
    intro t hn
    have hT : ∀ (i : Nat) (u : Tr), t.kids[i]? = some u → TruthIs L on known 10 u := fun i u hu => (ih _ (by rw [← hn]; exact kid_size hu) u rfl).1
    have hS : ∀ (i : Nat) (u : Tr), t.kids[i]? = some u → SumIs L on known 13 u := fun i u hu => (ih _ (by rw [← hn]; exact kid_size hu) u rfl).2
    have hrest : ∀ (k : Kd), t.kd = k → k ≠ .or → k ≠ .and → k ≠ .not → k ≠ .name → k ≠ .some → k ≠ .every → TruthIs L on known 10 t := fun k hk h0 h1 h2 h3 h4 h5 => by
      subst hk
      refine truth_rest h0 h1 h2 h3 h4 h5 ?_
      cases ho : t.kd.isOrd with
      | true => exact order_r ho hS
      | false => exact order_no ho (by cases hk : t.kd <;> simp_all [kidsC, Kd.isOrd])
    constructor
    · cases hk : t.kd with
      | or => exact truth_oa (.inl hk) hT
      | and => exact truth_oa (.inr hk) hT
      | not => exact truth_not hk hT
      | name => exact truth_name hk hl5
      | some => exact truth_each (.inl hk) hl5 hT
      | every => exact truth_each (.inr hk) hl5 hT
      | _ => exact hrest _ hk (by decide) (by decide) (by decide) (by decide) (by decide) (by decide)
    · cases hk : t.kd with
      | number => exact sum_number hk
      | name => exact sum_name hk hl5 hG
      | count => exact sum_count hk hl5
      | total => exact sum_total hk hl5 hG
      | times => exact sum_times hk hS
      | plus => exact sum_two (by rw [hk]; rfl) hS
      | minus => exact sum_two (by rw [hk]; rfl) hS
      | max => exact sum_two (by rw [hk]; rfl) hS
      | min => exact sum_two (by rw [hk]; rfl) hS
      | _ => exact sum_no (by rw [hk]; rfl)
end Go.Proofs.YtcfeflkhmncmjaaGreatDoor
