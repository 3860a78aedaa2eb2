/-
  Facts: the reference's insert, Turns, LearntDays.
-/
import Derived.Test.YtagdenpmonedlaaDoorFTurn
namespace Go.Proofs.YtagdenpmonedlaaDoor
open Go.RowKit

/-- A day put in, seen from the place where it belongs. -/
theorem ins_at (n : Int) : ∀ (xs : List Int) (i : Nat), i ≤ xs.length → (∀ j a, xs[j]? = some a → j < i → a < n) → (∀ a, xs[i]? = some a → ¬ a < n) →
    insL xs n = xs.take i ++ [n] ++ (if xs[i]? = some n then xs.drop (i + 1) else xs.drop i)
  | [], i, hi, _, _ => by
    obtain rfl : i = 0 := by simpa using hi
    rfl
  | a :: r, 0, _, _, h2 => by
    have := h2 a rfl
    unfold insL
    rw [if_neg this]
    by_cases e : a = n
    · rw [if_pos e, e]; simp
    · rw [if_neg e]; simp [e]
  | a :: r, i + 1, hi, h1, h2 => by
    have := h1 0 a rfl (by omega)
    unfold insL
    rw [if_pos this, ins_at n r i (by simpa using hi) (fun j b hb hj => h1 (j + 1) b (by simpa using hb) (by omega)) (fun b hb => h2 b (by simpa using hb))]
    simp
theorem ins_len (n : Int) : ∀ xs : List Int, (insL xs n).length ≤ xs.length + 1
  | [] => by simp [insL]
  | a :: r => by
    have := ins_len n r
    unfold insL
    split
    · simp; omega
    · split <;> simp
theorem insF_len : ∀ (l acc : List Int), (l.foldl insL acc).length ≤ acc.length + l.length
  | [], acc => by simp
  | a :: r, acc => by
    have h1 := insF_len r (insL acc a)
    have h2 := ins_len a acc
    rw [List.foldl_cons, List.length_cons]
    omega
theorem push_take (xs : List Int) (i : Nat) (x : Int) (h : xs[i]? = some x) : xs.take (i + 1) = xs.take i ++ [x] := by
  obtain ⟨hi, e⟩ := List.getElem?_eq_some_iff.1 h
  rw [List.take_succ_eq_append_getElem hi, e]
theorem addr_add (g o j : Nat) : (⟨g, o, none⟩ : Addr).add j = ⟨g, o + j, none⟩ := by
  unfold Addr.add
  split
  · rename_i h0
    rw [h0]; rfl
  · rfl
set_option maxHeartbeats 8000000 in
set_option maxRecDepth 100000 in
theorem insert_some {w : World} {g c : Nat} {xs : List Int} (hcap : xs.length ≤ c) (hr : ∀ (j : Nat) (x : Int), xs[j]? = some x → w.cell? ⟨g, j, none⟩ = some (.int .i64 x)) (hl : xs.length ≤ 2000) (n : Int) :
    Calls Tryd.prog 28 #[.slice (some ⟨g, 0, none⟩) xs.length c, .int .i64 n] w fun e w' => ∃ v', e = .returned v' ∧ IRow w.heap.size w' v' (insL xs n) ∧ Below w.heap.size w w' := by
  have HR := hidLL hr
  clear hr
  obtain ⟨m, hm⟩ : ∃ m, m = xs.length := ⟨_, rfl⟩
  rw [← hm] at hl hcap ⊢
  have HM := hidLL hm
  clear hm
  go_enter Tryd.func28, Tryd.ntmps28
  go_wp2_with fail
  go_loopw [5, 6] (fun s t wr => ∃ i : Nat, i ≤ m ∧ t = .int .i64 i ∧ IRow w.heap.size wr s (xs.take i) ∧ (∀ j a, xs[j]? = some a → j < i → a < n) ∧ Below w.heap.size w wr)
    (fun _ t _ => (m - RowKit.intOf t).toNat)
  case atStart => exact ⟨0, by omega, rfl, World.ownsRow_nil _ _ _ _, fun j a _ h => absurd h (by omega), Below.refl _ _⟩
  case round =>
    obtain ⟨i, hi, rfl, hrow, hlow, hbel⟩ := hrel
    have HRow := hidLL hrow
    have HLow := hidLL hlow
    have HB := hidLL hbel
    have hsz := hbel.size
    have HLen : Hid ((xs.take i).length ≤ 2000) := by show _ ≤ _; rw [List.length_take, ← HM.out]; omega
    clear hrow hlow hbel
    by_cases hin : i < m
    · have hiz : (i : Int) < m := by omega
      obtain ⟨x, hx⟩ : ∃ x, xs[i]? = some x := ⟨_, List.getElem?_eq_getElem (by have := HM.out; omega)⟩
      have hcx := HR.out i x hx
      have hg := cell_lt hcx
      have hcr := (HB.out.cell (p := ⟨g, i, none⟩) hg).trans hcx
      have hgr : g < wr.heap.size := by omega
      by_cases hlt : x < n
      · have HS := hidLL (push_take xs i x hx)
        have HL2 : Hid (∀ j a, xs[j]? = some a → j < i + 1 → a < n) := fun j a ha hj => by
          rcases Nat.lt_or_ge j i with q | q
          · exact HLow.out j a ha q
          · obtain rfl : j = i := by omega
            rw [hx] at ha
            injection ha with ha
            omega
        clear hx
        go_wp2_with (first
          | (at_builtin; refine wpList_push_int rfl _ _ rfl w.heap.size u5 (xs.take i) x rfl HRow.out (by simp [Act.eval]) hsz (by have := HLen.out; omega) ?_; intro v' w3 hr3 hb3 hg3)
          | go_in)
        have HR3 := hidLL (And.intro hr3 hb3)
        clear hr3 hb3 hg3
        go_roundw
        case rel => exact ⟨i + 1, by omega, by go_num, by rw [HS.out]; exact HR3.out.1, HL2.out, HB.out.trans HR3.out.2⟩
        case measure => simp [RowKit.intOf]; omega
      · have hge : n ≤ x := by omega
        by_cases hxn : x = n
        · subst hxn
          have HIns : Hid (insL xs x = xs.take i ++ [x] ++ xs.drop (i + 1)) := by
            show _ = _
            rw [ins_at x xs i (by rw [← HM.out]; omega) HLow.out (fun a ha => by rw [hx] at ha; injection ha with ha; omega), if_pos hx]
          clear hx hge
          have HC3 : Hid (∀ W : World, Below w.heap.size wr W → W.cell? ⟨g, i, none⟩ = some (.int .i64 x)) := fun W hW => (hW.cell (p := ⟨g, i, none⟩) hg).trans hcr
          have HY : Hid (∀ (W : World), Below w.heap.size w W → ∀ (j : Nat) (y : Int), (xs.drop (i + 1))[j]? = some y → W.cell? ⟨g, i + 1 + j, none⟩ = some (.int .i64 y)) := fun W hW j y hj => by
            rw [List.getElem?_drop] at hj
            have h5 := HR.out _ y hj
            exact (hW.cell (p := ⟨g, i + 1 + j, none⟩) (cell_lt h5)).trans h5
          have HYL : Hid ((xs.drop (i + 1)).length = m - (i + 1)) := by show _ = _; rw [List.length_drop, ← HM.out]
          by_cases hcc : c = i + 1
          · have HYN : Hid (xs.drop (i + 1) = []) := List.eq_nil_of_length_eq_zero (by rw [HYL.out]; omega)
            go_wp2_with (first
              | (at_builtin; refine wpList_push_int rfl (.tmp 28) (.tmp 30) rfl w.heap.size u5 (xs.take i) x rfl HRow.out (by simp [Act.eval]) hsz (by have := HLen.out; omega) ?_; intro v' w3 hr3 hb3 hg3; have hcr3 := HC3.out _ hb3; have hs3 := hb3.size; have HR3 := hidLL (And.intro hr3 hb3); clear hr3 hb3 hg3)
              | (at_builtin; go_loud (refine wpList_app_ints (W := w3) rfl (.tmp 46) (.tmp 49) rfl w.heap.size v' (xs.take i ++ [x]) (xs.drop (i + 1)) rfl HR3.out.1 ⟨g, 0, none⟩ (m - (i + 1)) 0 (by simp [Act.eval]) HYL.out.symm (fun j y hj => by rw [HYN.out] at hj; simp at hj) (by omega) (by have := HLen.out; rw [HYL.out, List.length_append]; simp only [List.length_cons, List.length_nil]; omega) ?_); intro v4 w4 hr4 hb4)
              | go_in)
            have HR4 := hidLL (And.intro hr4 hb4)
            clear hr4 hb4
            go_ret
            refine ⟨_, rfl, ?_, (HB.out.trans HR3.out.2).trans HR4.out.2⟩
            rw [HIns.out]
            exact HR4.out.1
          · have hcc2 : ¬ c - (i + 1) = 0 := by omega
            go_wp2_with (first
              | (at_builtin; refine wpList_push_int rfl (.tmp 28) (.tmp 30) rfl w.heap.size u5 (xs.take i) x rfl HRow.out (by simp [Act.eval]) hsz (by have := HLen.out; omega) ?_; intro v' w3 hr3 hb3 hg3; have hcr3 := HC3.out _ hb3; have hs3 := hb3.size; have HR3 := hidLL (And.intro hr3 hb3); clear hr3 hb3 hg3)
              | (at_builtin; go_loud (refine wpList_app_ints (W := w3) rfl (.tmp 46) (.tmp 49) rfl w.heap.size v' (xs.take i ++ [x]) (xs.drop (i + 1)) rfl HR3.out.1 ⟨g, i + 1, none⟩ (m - (i + 1)) (c - (i + 1)) (by simp [Act.eval]) HYL.out.symm (fun j y hj => by rw [addr_add]; exact HY.out _ (HB.out.trans HR3.out.2) j y hj) (by omega) (by have := HLen.out; rw [HYL.out, List.length_append]; simp only [List.length_cons, List.length_nil]; omega) ?_); intro v4 w4 hr4 hb4)
              | go_in)
            have HR4 := hidLL (And.intro hr4 hb4)
            clear hr4 hb4
            go_ret
            refine ⟨_, rfl, ?_, (HB.out.trans HR3.out.2).trans HR4.out.2⟩
            rw [HIns.out]
            exact HR4.out.1
        · have HIns : Hid (insL xs n = xs.take i ++ [n] ++ xs.drop i) := by
            show _ = _
            rw [ins_at n xs i (by rw [← HM.out]; omega) HLow.out (fun a ha => by rw [hx] at ha; injection ha with ha; omega), if_neg (by rw [hx]; intro e; injection e with e; exact hxn e)]
          have hxn2 : n < x := by omega
          clear hx
          have HC3 : Hid (∀ W : World, Below w.heap.size wr W → W.cell? ⟨g, i, none⟩ = some (.int .i64 x)) := fun W hW => (hW.cell (p := ⟨g, i, none⟩) hg).trans hcr
          have HY : Hid (∀ (W : World), Below w.heap.size w W → ∀ (j : Nat) (y : Int), (xs.drop i)[j]? = some y → W.cell? ⟨g, i + j, none⟩ = some (.int .i64 y)) := fun W hW j y hj => by
            rw [List.getElem?_drop] at hj
            have h5 := HR.out _ y hj
            exact (hW.cell (p := ⟨g, i + j, none⟩) (cell_lt h5)).trans h5
          have HYL : Hid ((xs.drop i).length = m - (i)) := by show _ = _; rw [List.length_drop, ← HM.out]
          by_cases hcc : c = i
          · exact absurd hcc (by omega)
          · have hcc2 : ¬ c - (i) = 0 := by omega
            go_wp2_with (first
              | (at_builtin; refine wpList_push_int rfl (.tmp 28) (.tmp 30) rfl w.heap.size u5 (xs.take i) n rfl HRow.out (by simp [Act.eval]) hsz (by have := HLen.out; omega) ?_; intro v' w3 hr3 hb3 hg3; have hcr3 := HC3.out _ hb3; have hs3 := hb3.size; have HR3 := hidLL (And.intro hr3 hb3); clear hr3 hb3 hg3)
              | (at_builtin; go_loud (refine wpList_app_ints (W := w3) rfl (.tmp 46) (.tmp 49) rfl w.heap.size v' (xs.take i ++ [n]) (xs.drop i) rfl HR3.out.1 ⟨g, i, none⟩ (m - (i)) (c - (i)) (by simp [Act.eval]) HYL.out.symm (fun j y hj => by rw [addr_add]; exact HY.out _ (HB.out.trans HR3.out.2) j y hj) (by omega) (by have := HLen.out; rw [HYL.out, List.length_append]; simp only [List.length_cons, List.length_nil]; omega) ?_); intro v4 w4 hr4 hb4)
              | go_in)
            have HR4 := hidLL (And.intro hr4 hb4)
            clear hr4 hb4
            go_ret
            refine ⟨_, rfl, ?_, (HB.out.trans HR3.out.2).trans HR4.out.2⟩
            rw [HIns.out]
            exact HR4.out.1
    · obtain rfl : i = m := by omega
      have HIns : Hid (insL xs n = xs.take i ++ [n] ++ xs.drop i) := by
        show _ = _
        have h0 : xs[i]? = none := List.getElem?_eq_none (by rw [← HM.out]; exact Nat.le_refl _)
        rw [ins_at n xs i (by rw [← HM.out]; omega) HLow.out (fun a ha => by rw [h0] at ha; cases ha), if_neg (by rw [h0]; simp)]
      have HY : Hid (∀ (W : World), Below w.heap.size w W → ∀ (j : Nat) (y : Int), (xs.drop i)[j]? = some y → W.cell? ⟨g, i + j, none⟩ = some (.int .i64 y)) := fun W hW j y hj => by
        rw [List.getElem?_drop] at hj
        have h5 := HR.out _ y hj
        exact (hW.cell (p := ⟨g, i + j, none⟩) (cell_lt h5)).trans h5
      have HYL : Hid ((xs.drop i).length = i - i) := by show _ = _; rw [List.length_drop, ← HM.out]
      by_cases hcc : c = i
      · have HYN : Hid (xs.drop i = []) := List.eq_nil_of_length_eq_zero (by rw [HYL.out]; omega)
        go_wp2_with (first
          | (at_builtin; refine wpList_push_int rfl (.tmp 28) (.tmp 30) rfl w.heap.size u5 (xs.take i) n rfl HRow.out (by simp [Act.eval]) hsz (by have := HLen.out; omega) ?_; intro v' w3 hr3 hb3 hg3; have hs3 := hb3.size; have HR3 := hidLL (And.intro hr3 hb3); clear hr3 hb3 hg3)
          | (at_builtin; go_loud (refine wpList_app_ints (W := w3) rfl (.tmp 46) (.tmp 49) rfl w.heap.size v' (xs.take i ++ [n]) (xs.drop i) rfl HR3.out.1 ⟨g, 0, none⟩ (i - i) 0 (by simp [Act.eval]) HYL.out.symm (fun j y hj => by rw [HYN.out] at hj; simp at hj) (by omega) (by have := HLen.out; rw [HYL.out, List.length_append]; simp only [List.length_cons, List.length_nil]; omega) ?_); intro v4 w4 hr4 hb4)
          | go_in)
        have HR4 := hidLL (And.intro hr4 hb4)
        clear hr4 hb4
        go_ret
        refine ⟨_, rfl, ?_, (HB.out.trans HR3.out.2).trans HR4.out.2⟩
        rw [HIns.out]
        exact HR4.out.1
      · have hcc2 : ¬ c - i = 0 := by omega
        go_wp2_with (first
          | (at_builtin; refine wpList_push_int rfl (.tmp 28) (.tmp 30) rfl w.heap.size u5 (xs.take i) n rfl HRow.out (by simp [Act.eval]) hsz (by have := HLen.out; omega) ?_; intro v' w3 hr3 hb3 hg3; have hs3 := hb3.size; have HR3 := hidLL (And.intro hr3 hb3); clear hr3 hb3 hg3)
          | (at_builtin; go_loud (refine wpList_app_ints (W := w3) rfl (.tmp 46) (.tmp 49) rfl w.heap.size v' (xs.take i ++ [n]) (xs.drop i) rfl HR3.out.1 ⟨g, i, none⟩ (i - i) (c - i) (by simp [Act.eval]) HYL.out.symm (fun j y hj => by rw [addr_add]; exact HY.out _ (HB.out.trans HR3.out.2) j y hj) (by omega) (by have := HLen.out; rw [HYL.out, List.length_append]; simp only [List.length_cons, List.length_nil]; omega) ?_); intro v4 w4 hr4 hb4)
          | go_in)
        have HR4 := hidLL (And.intro hr4 hb4)
        clear hr4 hb4
        go_ret
        refine ⟨_, rfl, ?_, (HB.out.trans HR3.out.2).trans HR4.out.2⟩
        rw [HIns.out]
        exact HR4.out.1
set_option maxHeartbeats 2000000 in
set_option maxRecDepth 100000 in
theorem insert_none (w : World) (n : Int) :
    Calls Tryd.prog 28 #[.slice none 0 0, .int .i64 n] w fun e w' => ∃ v', e = .returned v' ∧ IRow w.heap.size w' v' [n] ∧ Below w.heap.size w w' := by
  go_enter Tryd.func28, Tryd.ntmps28
  go_wp2_with fail
  refine wp_loop_rounds 1 ?_
  rw [rounds_succ]
  go_wp2_with (first
    | (at_builtin; refine wpList_push_int rfl (.tmp 28) (.tmp 30) rfl w.heap.size _ [] n rfl (World.ownsRow_nil _ _ _ _) (by simp [Act.eval]) (Nat.le_refl _) (by simp) ?_; intro v' w3 hr3 hb3 hg3; have HR3 := hidLL (And.intro hr3 hb3); clear hr3 hb3 hg3)
    | (at_builtin; refine wpList_app_none (W := w3) rfl (.tmp 46) (.tmp 49) rfl w.heap.size v' ([] ++ [n]) rfl HR3.out.1 (by simp [Act.eval]) ?_)
    | go_in)
  go_ret
  exact ⟨_, rfl, HR3.out.1, HR3.out.2⟩
theorem insert_r {w : World} {v : Value} {xs : List Int} (h : IRead w v xs) (hl : xs.length ≤ 2000) (n : Int) :
    Calls Tryd.prog 28 #[v, .int .i64 n] w fun e w' => ∃ v', e = .returned v' ∧ IRow w.heap.size w' v' (insL xs n) ∧ Below w.heap.size w w' := by
  rcases h with ⟨rfl, rfl⟩ | ⟨g, c, rfl, hcap, hr⟩
  · exact insert_none w n
  · exact insert_some hcap hr hl n
end Go.Proofs.YtagdenpmonedlaaDoor
