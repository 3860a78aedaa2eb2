/-
  Facts: the program's Turns and Learnt.
-/
import Derived.Test.YtagdenpmonedlaaDoorFAll
import Derived.Test.YtagdenpmonedlaaDoorFSort
namespace Go.Proofs.YtagdenpmonedlaaDoor
open Go.RowKit

theorem turns_snoc (L : List Fct) (i : Nat) (x : Fct) (h : L[i]? = some x) (who known : Int) : turnsRaw (L.take (i + 1)) who known = turnsRaw (L.take i) who known ++ (if turnB x who known = true then daysOf x else []) := by
  obtain ⟨hi, e⟩ := List.getElem?_eq_some_iff.1 h
  unfold turnsRaw
  rw [List.take_succ_eq_append_getElem hi, List.filter_append, List.flatMap_append, e]
  congr 1
  by_cases hb : turnB x who known = true
  · rw [if_pos hb, List.filter_cons_of_pos (p := fun x => turnB x who known) hb]; simp
  · rw [if_neg hb, List.filter_cons_of_neg (p := fun x => turnB x who known) hb]; simp
theorem days_len (x : Fct) : (daysOf x).length ≤ 2 := by unfold daysOf; split <;> simp
theorem turns_len (L : List Fct) (who known : Int) : (turnsRaw L who known).length ≤ 2 * L.length := by
  induction L with
  | nil => simp [turnsRaw]
  | cons x r ih =>
    unfold turnsRaw at ih ⊢
    by_cases hb : turnB x who known = true
    · rw [List.filter_cons_of_pos (p := fun x => turnB x who known) hb, List.flatMap_cons, List.length_append, List.length_cons]
      have := days_len x
      omega
    · rw [List.filter_cons_of_neg (p := fun x => turnB x who known) hb, List.length_cons]
      omega
theorem ready_turns (L : List Fct) (who known : Int) : ready (turnsRaw L who known) = turnsL L who known := by
  refine rise_eq (ready_rise _) (insF_rise _ _ (by simp [Rise])) fun m => ?_
  rw [ready_mem]
  unfold turnsL
  rw [insF_mem]
  simp
theorem ready_learnt (L : List Fct) : ready (L.map Fct.lrn) = learntL L := by
  refine rise_eq (ready_rise _) (insF_rise _ _ (by simp [Rise])) fun m => ?_
  rw [ready_mem]
  unfold learntL
  rw [insF_mem]
  simp
theorem map_snoc (L : List Fct) (i : Nat) (x : Fct) (h : L[i]? = some x) : (L.take (i + 1)).map Fct.lrn = (L.take i).map Fct.lrn ++ [x.lrn] := by
  obtain ⟨hi, e⟩ := List.getElem?_eq_some_iff.1 h
  rw [List.take_succ_eq_append_getElem hi, List.map_append, e]
  rfl
set_option maxHeartbeats 4000000 in
set_option maxRecDepth 100000 in
theorem learnt_f {B b : Nat} {w : World} {L : List Fct} {sv : Value} (h : FFile 32 B w b L sv) (hl : L.length ≤ 500) :
    Calls Tryd.prog 17 #[.pointer (some ⟨b, 0, none⟩)] w fun e w' => ∃ sv', e = .returned sv' ∧ IRead w' sv' (learntL L) ∧ Below w.heap.size w w' := by
  have HAl := hidLL (all_f h)
  obtain ⟨a, c, rfl, hr, hc, _⟩ := h.row.slice
  have HR := hidLL hr
  clear h hr
  obtain ⟨n, hn⟩ : ∃ n, n = L.length := ⟨_, rfl⟩
  rw [← hn] at hl hc HAl
  have HN := hidLL hn
  clear hn
  go_enter Tryd.func17, Tryd.ntmps17
  go_wp2_with (go_at_call 23; refine HAl.out.mono ?_; rintro e w1 ⟨rfl, ew⟩; subst w1)
  go_loopw [3, 9] (fun s t wr => ∃ i : Nat, i ≤ n ∧ t = .int .i64 i ∧ IRow w.heap.size wr s ((L.take i).map Fct.lrn) ∧ Below w.heap.size w wr)
    (fun _ t _ => (n - RowKit.intOf t).toNat)
  case atStart => exact ⟨0, Nat.zero_le _, rfl, World.ownsRow_nil _ _ _ _, Below.refl _ _⟩
  case round =>
    obtain ⟨i, hi, rfl, hrow, hbel⟩ := hrel
    have HRow := hidLL hrow
    have HB := hidLL hbel
    have hsz := hbel.size
    clear hrow hbel
    by_cases hin : i < n
    · have hiz : (i : Int) < n := by omega
      obtain ⟨x, hx⟩ : ∃ x, L[i]? = some x := ⟨_, List.getElem?_eq_getElem (by have := HN.out; omega)⟩
      obtain ⟨g, o, rfl, hg, x0, x1, x2, x3, x4, x5, x6⟩ := HR.out.cells hx
      rw [← HB.out.cell (p := ⟨g, o + i * 7, none⟩) hg] at x0
      rw [← HB.out.cell (p := ⟨g, o + i * 7 + 1, none⟩) hg] at x1
      rw [← HB.out.cell (p := ⟨g, o + i * 7 + 2, none⟩) hg] at x2
      rw [← HB.out.cell (p := ⟨g, o + i * 7 + 3, none⟩) hg] at x3
      rw [← HB.out.cell (p := ⟨g, o + i * 7 + 4, none⟩) hg] at x4
      rw [← HB.out.cell (p := ⟨g, o + i * 7 + 5, none⟩) hg] at x5
      rw [← HB.out.cell (p := ⟨g, o + i * 7 + 6, none⟩) hg] at x6
      have HS := hidLL (map_snoc L i x hx)
      have HLe : Hid (((L.take i).map Fct.lrn).length ≤ 100000) := by show _ ≤ _; rw [List.length_map, List.length_take]; omega
      clear hx
      obtain ⟨xw, xn, xo, xv, xf, xt, xl⟩ := x
      simp only at x0 x1 x2 x3 x4 x5 x6 HS
      go_wp2_with (first
        | (at_builtin; refine wpList_push_int rfl _ _ rfl w.heap.size _ _ xl rfl (HRow.out.alloc _) (by first | (simp [Act.eval]; done) | simp [Act.eval, Act.put]) (by simp; omega) HLe.out ?_; intro v' w3 hr3 hb3 hg3)
        | go_in)
      have HR3 := hidLL (And.intro hr3 hb3)
      clear hr3 hb3 hg3
      go_roundw
      case rel => exact ⟨i + 1, by omega, by go_num, by rw [HS.out]; exact HR3.out.1, (HB.out.alloc hsz _).trans HR3.out.2⟩
      case measure => simp [RowKit.intOf]; omega
    · obtain rfl : i = n := by omega
      have HT : Hid (L.take i = L) := List.take_of_length_le (by rw [HN.out]; exact Nat.le_refl _)
      have HE := hidLL (eachOnce_f HRow.out hsz (by rw [HT.out, List.length_map, ← HN.out]; omega))
      rw [HT.out, ready_learnt] at HE
      go_wp2_with fail
      refine HE.out.mono ?_
      rintro e w4 ⟨sv', rfl, hrd, hb4⟩
      have H4 := hidLL (And.intro hrd hb4)
      clear hrd hb4
      go_wp2
      go_ret
      exact ⟨_, rfl, H4.out.1, HB.out.trans H4.out.2⟩
set_option maxHeartbeats 4000000 in
set_option maxRecDepth 100000 in
theorem turns_f {B b : Nat} {w : World} {L : List Fct} {sv : Value} (h : FFile 32 B w b L sv) (hl : L.length ≤ 500) (who known : Int) :
    Calls Tryd.prog 15 #[.pointer (some ⟨b, 0, none⟩), .int .i64 who, .int .i64 known] w fun e w' => ∃ sv', e = .returned sv' ∧ IRead w' sv' (turnsL L who known) ∧ Below w.heap.size w w' := by
  have HAl := hidLL (all_f h)
  obtain ⟨a, c, rfl, hr, hc, _⟩ := h.row.slice
  have HR := hidLL hr
  clear h hr
  obtain ⟨n, hn⟩ : ∃ n, n = L.length := ⟨_, rfl⟩
  rw [← hn] at hl hc HAl
  have HN := hidLL hn
  clear hn
  go_enter Tryd.func15, Tryd.ntmps15
  go_wp2_with (go_at_call 23; refine HAl.out.mono ?_; rintro e w1 ⟨rfl, ew⟩; subst w1)
  go_loopw [7, 13] (fun s t wr => ∃ i : Nat, i ≤ n ∧ t = .int .i64 i ∧ IRow w.heap.size wr s (turnsRaw (L.take i) who known) ∧ Below w.heap.size w wr)
    (fun _ t _ => (n - RowKit.intOf t).toNat)
  case atStart => exact ⟨0, Nat.zero_le _, rfl, World.ownsRow_nil _ _ _ _, Below.refl _ _⟩
  case round =>
    obtain ⟨i, hi, rfl, hrow, hbel⟩ := hrel
    have HRow := hidLL hrow
    have HB := hidLL hbel
    have hsz := hbel.size
    clear hrow hbel
    by_cases hin : i < n
    · have hiz : (i : Int) < n := by omega
      obtain ⟨x, hx⟩ : ∃ x, L[i]? = some x := ⟨_, List.getElem?_eq_getElem (by have := HN.out; omega)⟩
      obtain ⟨g, o, rfl, hg, x0, x1, x2, x3, x4, x5, x6⟩ := HR.out.cells hx
      rw [← HB.out.cell (p := ⟨g, o + i * 7, none⟩) hg] at x0
      rw [← HB.out.cell (p := ⟨g, o + i * 7 + 1, none⟩) hg] at x1
      rw [← HB.out.cell (p := ⟨g, o + i * 7 + 2, none⟩) hg] at x2
      rw [← HB.out.cell (p := ⟨g, o + i * 7 + 3, none⟩) hg] at x3
      rw [← HB.out.cell (p := ⟨g, o + i * 7 + 4, none⟩) hg] at x4
      rw [← HB.out.cell (p := ⟨g, o + i * 7 + 5, none⟩) hg] at x5
      rw [← HB.out.cell (p := ⟨g, o + i * 7 + 6, none⟩) hg] at x6
      have HS := hidLL (turns_snoc L i x hx who known)
      have HLe : Hid ((turnsRaw (L.take i) who known).length ≤ 1000) := by
        show _ ≤ _
        have h1 := turns_len (L.take i) who known
        rw [List.length_take] at h1
        omega
      clear hx
      have HTB : Hid (turnB x who known = (decide (x.lrn ≤ known) && (decide (who < 0) || decide (x.who = who)))) := rfl
      have HD : Hid (daysOf x = if x.til = 0 then [x.frm] else [x.frm, x.til]) := rfl
      generalize turnB x who known = tb at *
      generalize daysOf x = dd at *
      obtain ⟨xw, xn, xo, xv, xf, xt, xl⟩ := x
      simp only at x0 x1 x2 x3 x4 x5 x6 HTB HD
      have hrl : ∀ k, u7.ownBlock = some k → k < wr.heap.size := fun k hk => (World.ownsRow.lt HRow.out k hk).2
      have HLz := HLe.out
      have HC5 : Hid (∀ (o2 : Obj) (w3 : World), ((wr.alloc (.cells #[.int .i64 xw, .string xn, .int .i64 xo, .int .i64 xv, .int .i64 xf, .int .i64 xt, .int .i64 xl] 32)).alloc o2).grownBy w3 u7.ownBlock → w3.cell? ⟨wr.heap.size, 5, none⟩ = some (.int .i64 xt)) := fun o2 w3 hg => by
        refine World.grownBy.cell hg (by simp) (fun e => ?_)
        have := hrl _ e.symm
        simp at this
      clear hrl
      have HC3 : Hid (∀ w3 : World, (wr.alloc (.cells #[.int .i64 xw, .string xn, .int .i64 xo, .int .i64 xv, .int .i64 xf, .int .i64 xt, .int .i64 xl] 32)).heap.size ≤ w3.heap.size → w.heap.size ≤ w3.heap.size) := fun w3 h => by simp at h; omega
      have HL3 : Hid ((turnsRaw (L.take i) who known ++ [xf]).length ≤ 100000) := by show _ ≤ _; rw [List.length_append]; simp only [List.length_cons, List.length_nil]; omega
      by_cases h1 : xl ≤ known
      · by_cases h2 : who < 0
        · have htb : tb = true := by rw [HTB.out]; simp [h1, h2]
          subst htb
          clear HTB
          by_cases h3 : xt = 0
          · subst h3
            rw [if_pos rfl] at HD
            go_wp2_with (first
              | (at_builtin; refine wpList_push_int rfl _ _ rfl w.heap.size _ _ xf rfl (HRow.out.alloc _) (by first | (simp [Act.eval]; done) | simp [Act.eval, Act.put]) (by simp; omega) (by omega) ?_; intro v' w3 hr3 hb3 hg3; have c5 : w3.cell? ⟨wr.heap.size, 5, none⟩ = some (.int .i64 0) := HC5.out _ _ hg3)
              | go_in)
            have HR3 := hidLL (And.intro hr3 hb3)
            clear hr3 hb3 hg3
            go_roundw
            case rel => exact ⟨i + 1, by omega, by go_num, by rw [HS.out, if_pos rfl, HD.out]; exact HR3.out.1, (HB.out.alloc hsz _).trans HR3.out.2⟩
            case measure => simp [RowKit.intOf]; omega
          · rw [if_neg h3] at HD
            have h4 : (xt != 0) = true := by simpa using h3
            go_wp2_with (first
              | (at_builtin; refine wpList_push_int rfl _ _ rfl w.heap.size _ _ xf rfl (HRow.out.alloc _) (by simp [Act.eval]) (by simp; omega) (by omega) ?_; intro v' w3 hr3 hb3 hg3; have c5 : w3.cell? ⟨wr.heap.size, 5, none⟩ = some (.int .i64 xt) := HC5.out _ _ hg3; have HR3 := hidLL (And.intro hr3 hb3); have hs3 : w.heap.size ≤ w3.heap.size := HC3.out _ hb3.size; clear hr3 hb3 hg3)
              | (at_builtin; go_loud (refine wpList_push_int (W := w3) rfl (.tmp 39) (.tmp 42) rfl w.heap.size v' (turnsRaw (L.take i) who known ++ [xf]) xt rfl HR3.out.1 (by first | (simp [Act.eval]; done) | simp [Act.eval, Act.put]) hs3 HL3.out ?_); intro v4 w4 hr4 hb4 hg4)
              | go_in)
            have HR4 := hidLL (And.intro hr4 hb4)
            clear hr4 hb4 hg4
            go_roundw
            case rel => exact ⟨i + 1, by omega, by go_num, by rw [HS.out, if_pos rfl, HD.out]; have h9 := HR4.out.1; rw [List.append_assoc] at h9; exact h9, ((HB.out.alloc hsz _).trans HR3.out.2).trans HR4.out.2⟩
            case measure => simp [RowKit.intOf]; omega
        · have h2z : 0 ≤ who := by omega
          by_cases h2b : xw = who
          · have htb : tb = true := by rw [HTB.out]; simp [h1, h2b]
            subst htb
            subst h2b
            clear HTB
            by_cases h3 : xt = 0
            · subst h3
              rw [if_pos rfl] at HD
              go_wp2_with (first
                | (at_builtin; refine wpList_push_int rfl _ _ rfl w.heap.size _ _ xf rfl (HRow.out.alloc _) (by first | (simp [Act.eval]; done) | simp [Act.eval, Act.put]) (by simp; omega) (by omega) ?_; intro v' w3 hr3 hb3 hg3; have c5 : w3.cell? ⟨wr.heap.size, 5, none⟩ = some (.int .i64 0) := HC5.out _ _ hg3)
                | go_in)
              have HR3 := hidLL (And.intro hr3 hb3)
              clear hr3 hb3 hg3
              go_roundw
              case rel => exact ⟨i + 1, by omega, by go_num, by rw [HS.out, if_pos rfl, HD.out]; exact HR3.out.1, (HB.out.alloc hsz _).trans HR3.out.2⟩
              case measure => simp [RowKit.intOf]; omega
            · rw [if_neg h3] at HD
              have h4 : (xt != 0) = true := by simpa using h3
              go_wp2_with (first
                | (at_builtin; refine wpList_push_int rfl _ _ rfl w.heap.size _ _ xf rfl (HRow.out.alloc _) (by simp [Act.eval]) (by simp; omega) (by omega) ?_; intro v' w3 hr3 hb3 hg3; have c5 : w3.cell? ⟨wr.heap.size, 5, none⟩ = some (.int .i64 xt) := HC5.out _ _ hg3; have HR3 := hidLL (And.intro hr3 hb3); have hs3 : w.heap.size ≤ w3.heap.size := HC3.out _ hb3.size; clear hr3 hb3 hg3)
                | (at_builtin; go_loud (refine wpList_push_int (W := w3) rfl (.tmp 39) (.tmp 42) rfl w.heap.size v' (turnsRaw (L.take i) xw known ++ [xf]) xt rfl HR3.out.1 (by first | (simp [Act.eval]; done) | simp [Act.eval, Act.put]) hs3 HL3.out ?_); intro v4 w4 hr4 hb4 hg4)
                | go_in)
              have HR4 := hidLL (And.intro hr4 hb4)
              clear hr4 hb4 hg4
              go_roundw
              case rel => exact ⟨i + 1, by omega, by go_num, by rw [HS.out, if_pos rfl, HD.out]; have h9 := HR4.out.1; rw [List.append_assoc] at h9; exact h9, ((HB.out.alloc hsz _).trans HR3.out.2).trans HR4.out.2⟩
              case measure => simp [RowKit.intOf]; omega
          · have htb : tb = false := by rw [HTB.out]; simp [h2, h2b]
            subst htb
            have h2c : (xw != who) = true := by simpa using h2b
            go_wp2_with fail
            go_roundw
            case rel => exact ⟨i + 1, by omega, by go_num, by rw [HS.out]; simpa using HRow.out.alloc _, HB.out.alloc hsz _⟩
            case measure => simp [RowKit.intOf]; omega
      · have htb : tb = false := by rw [HTB.out]; simp [h1]
        subst htb
        go_wp2_with fail
        go_roundw
        case rel => exact ⟨i + 1, by omega, by go_num, by rw [HS.out]; simpa using HRow.out.alloc _, HB.out.alloc hsz _⟩
        case measure => simp [RowKit.intOf]; omega
    · obtain rfl : i = n := by omega
      have HT : Hid (L.take i = L) := List.take_of_length_le (by rw [HN.out]; exact Nat.le_refl _)
      have HE := hidLL (eachOnce_f HRow.out hsz (by have h1 := turns_len (L.take i) who known; rw [List.length_take] at h1; omega))
      rw [HT.out, ready_turns] at HE
      go_wp2_with fail
      refine HE.out.mono ?_
      rintro e w4 ⟨sv', rfl, hrd, hb4⟩
      have H4 := hidLL (And.intro hrd hb4)
      clear hrd hb4
      go_wp2
      go_ret
      exact ⟨_, rfl, H4.out.1, HB.out.trans H4.out.2⟩
end Go.Proofs.YtagdenpmonedlaaDoor
