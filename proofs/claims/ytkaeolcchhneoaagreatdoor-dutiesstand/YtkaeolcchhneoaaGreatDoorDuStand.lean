/-
  DutiesStand, walked (written by tools/gendust.py).
-/
import Derived.Test.YtkaeolcchhneoaaGreatDoorDuL2
import Derived.Test.YtkaeolcchhneoaaGreatDoorDuNx
import Derived.Test.YtkaeolcchhneoaaGreatDoorDuSm
import Derived.Test.YtkaeolcchhneoaaGreatDoorDuR3
import Derived.Test.YtkaeolcchhneoaaGreatDoorDuG4
import Derived.Test.YtkaeolcchhneoaaGreatDoorBothAny
namespace Go.Proofs.YtkaeolcchhneoaaGreatDoor
open Go.RowKit Go.Sort Go.Lib

theorem Tryz.infoRE : ∃ i z, Tryz.prog.info? 51 = some i ∧ i.zero = some z ∧ i.size = 4 ∧ i.bytes = 48 ∧ z.cells.size = 4 := by
  have h : (Tryz.prog.info? 51).map (fun i => (i.zero, i.size, i.bytes)) = some (some (.agg #[.int .i64 0, .string ⟨#[]⟩, .string ⟨#[]⟩, .bool false]), 4, 48) := by kernel_rfl
  obtain ⟨i, h1, h2⟩ := Option.map_eq_some_iff.1 h
  simp only [Prod.mk.injEq] at h2
  exact ⟨i, _, h1, h2.1, h2.2.1, h2.2.2, rfl⟩
def codeM : Option Nat → Int
  | none => 0
  | some k => (k : Int) + 1
theorem statesK_none {F : Du → DR} {l : List Du} {ev : List Ev} {on : Int} (h : statesK F l ev on = none) : validK l ev on = none ∧ insK F l = none := by
  unfold statesK at h
  cases hv : validK l ev on with
  | some k => rw [hv] at h; cases h
  | none => rw [hv] at h; exact ⟨rfl, h⟩
theorem insD_le {F : Du → DR} {d : Du} (h : ∀ x, F d = .ok x → 1 ≤ x ∧ x ≤ 3652059) (h1 : 1 ≤ d.til) (h2 : d.til ≤ 3652059) : 1 ≤ (insD F d).til ∧ (insD F d).til ≤ 3652059 := by
  unfold insD
  cases hF : F d with
  | ok x => exact h x hF
  | er k => exact ⟨h1, h2⟩
theorem states_til {F : Du → DR} {ev : List Ev} {on : Int} {l : List Du} (hF : ∀ d x, F d = .ok x → 1 ≤ x ∧ x ≤ 3652059) (h : ∀ d, d ∈ l → 1 ≤ d.til ∧ d.til ≤ 3652059) (s : St) (hs : s ∈ statesL (insD F) ev on l) : 1 ≤ s.d.til ∧ s.d.til ≤ 3652059 := by
  rcases List.mem_append.1 hs with hs | hs
  · obtain ⟨d, hd, _, rfl⟩ := mem_ownL.1 hs
    rw [(stP_d ..).1]
    exact h d hd
  · obtain ⟨t, ht, j, rfl⟩ := mem_othL hs
    obtain ⟨d, hd, _, rfl⟩ := mem_ownL.1 ht
    rw [(stP_d ..).1, (stP_d ..).1]
    exact insD_le (hF d) (h d hd).1 (h d hd).2
theorem er_lt {F : Du → DR} (hE : ∀ d k, F d = .er k → k < 11) {l : List Du} {ev : List Ev} {on : Int} {k : Nat} (h : statesK F l ev on = some k) : k < 11 := by
  have hi : ∀ l : List Du, insK F l = some k → k < 11 := fun l => by
    induction l with
    | nil => intro h; cases h
    | cons d l ih =>
      intro h
      rw [insK] at h
      split at h
      · exact ih h
      · cases hF : F d with
        | ok x => rw [hF] at h; exact ih h
        | er j =>
          rw [hF] at h
          injection h with h
          subst h
          exact hE d _ hF
  unfold statesK at h
  cases hv : validK l ev on with
  | some j =>
    rw [hv] at h
    injection h with h
    subst h
    unfold validK at hv
    (repeat' split at hv) <;> first | (injection hv with hv; omega) | cases hv
  | none => rw [hv] at h; exact hi l h
set_option maxHeartbeats 16000000 in
set_option maxRecDepth 10000 in
theorem dutiesStand_w {n c m cc nO cO nH cH : Nat} {a aa oa ha : Option Addr} {l : List Du} {ev : List Ev} {B : Nat → Bool} {xs : List Int} {on : Int} {p : Nat → Addr} {w : World} (h : RdG duE w w.heap.size (.slice a n c) l) (he : RdG evE w w.heap.size (.slice aa m cc) ev) (hA : CalArg w B nO oa ha nH cH xs) (L : Laid w p)
    (hVal : ∀ (F : Du → DR) (W : World) (b : Nat) (v : Value), (∀ d, RDue (offB B nO) xs (d.til + 1) d.n d.u d.r (F d)) → Below w.heap.size w W → Cal W b (offB B nO) xs v → Calls Tryz.prog 11 #[.slice a n c, .slice aa m cc, .pointer (some ⟨b, 0, none⟩), .int .i64 on] W fun e w' => e = .returned (.int .i64 (codeM (statesK F l ev on))) ∧ Below W.heap.size W w') :
    Calls Tryz.prog 3 #[.slice a n c, .slice aa m cc, .agg #[.slice oa nO cO, .slice ha nH cH], .int .i64 on] w fun e w' => e = .returned (.bool true) ∧ Below w.heap.size w w' := by
  obtain ⟨F0, hF0, _, hx0, _⟩ := due_both (fun _ => false) [] p
  obtain ⟨F, hF, hG, hx, hEr⟩ := due_both (offB B nO) xs p
  have hx1 : ∀ d x, F d = .ok x → 1 ≤ x := fun d x e => (hx d x e).1
  have HDu : Hid (∀ W, Below w.heap.size w W → Calls Tryz.prog 4 #[] W fun e w' => e = .returned (.bool true) ∧ Below W.heap.size W w') := fun W hW => due_w (L.below hW) hF0 (fun d x e => (hx0 d x e).1) (fun W' _ => newPlan_nil W')
  have HN : Hid (∀ W, Below w.heap.size w W → Calls Tryz.prog 5 #[.slice a n c, .slice aa m cc, .int .i64 on] W (NearR n m W)) := fun W hW => near_p (h.below hW) he.len.2
  have HBo : Hid (nH ≤ 100 → ∀ W, Below w.heap.size w W → Calls Tryz.prog 6 #[.agg #[.slice oa nO cO, .slice ha nH cH]] W fun e w' => ∃ v1 v2, e = .returned (.tuple #[.pointer (some ⟨W.heap.size + 1, 0, none⟩), .pointer (some ⟨W.heap.size + 2, 0, none⟩)]) ∧ Cal w' (W.heap.size + 1) (offB B nO) xs v1 ∧ Cal w' (W.heap.size + 2) (offB B nO) xs v2 ∧ Below W.heap.size W w') := fun hl W hW => both_any B nO cO oa ha nH cH xs W (hA.below hW) hl
  have HO : Hid (n ≤ 202 → ∀ W, Below w.heap.size w W → Calls Tryz.prog 8 #[.slice a n c] W fun e w' => (∃ a' n' c', e = .returned (.slice a' n' c') ∧ RdG duE w' w'.heap.size (.slice a' n' c') l) ∧ Below W.heap.size W w') := fun hn W hW => dutiesOf_p (h.below hW) hW.size hn
  have HE : Hid (m ≤ 402 → ∀ W, Below w.heap.size w W → Calls Tryz.prog 9 #[.slice aa m cc] W fun e w' => (∃ a' n' c', e = .returned (.slice a' n' c') ∧ RdG evE w' w'.heap.size (.slice a' n' c') ev) ∧ Below W.heap.size W w') := fun hn W hW => eventsOf_p (he.below hW) hW.size hn
  have HS : Hid (∀ W b v a' n' c' aa' m' cc', Below w.heap.size w W → Cal W b (offB B nO) xs v → RdG duE W W.heap.size (.slice a' n' c') l → RdG evE W W.heap.size (.slice aa' m' cc') ev → Calls Tryz.prog 7 #[.slice a' n' c', .slice aa' m' cc', .pointer (some ⟨b, 0, none⟩), .int .i64 on] W fun e w' => StsR p F l ev on e w' ∧ Below W.heap.size W w') := fun W b v a' n' c' aa' m' cc' hW hC h1 h2 => states_top h1 h2 (Nat.le_refl _) (L.below hW) hF hx1 (fun W' hW' => newPlan_cal (hC.below hW'))
  have HNx : Hid (∀ W b v a' n' c' aa' m' cc', Below w.heap.size w W → Cal W b (offB B nO) xs v → RdG duE W W.heap.size (.slice a' n' c') l → RdG evE W W.heap.size (.slice aa' m' cc') ev → Calls Tryz.prog 10 #[.slice a' n' c', .slice aa' m' cc', .pointer (some ⟨b, 0, none⟩), .int .i64 on] W fun e w' => NxtR p F l ev on e ∧ Below W.heap.size W w') := fun W b v a' n' c' aa' m' cc' hW hC h1 h2 => by
    refine next_p h1 (Nat.le_refl _) (fun d hd => ?_) (fun hk => ?_) (fun s hs => ?_) (HS.out W b v a' n' c' aa' m' cc' hW hC h1 h2)
    · by_cases hk : statesK F l ev on = none
      · obtain ⟨_, _, _, l4, _⟩ := validK_none (statesK_none hk).1
        have := l4 d hd
        exact .inl ⟨by omega, by omega⟩
      · exact .inr hk
    · obtain ⟨_, _, l3, _, _⟩ := validK_none (statesK_none hk).1
      exact l3.1
    · by_cases hk : statesK F l ev on = none
      · obtain ⟨_, _, _, l4, _⟩ := validK_none (statesK_none hk).1
        have := states_til hx (fun d hd => by have := l4 d hd; omega) s hs
        exact .inl ⟨by omega, by omega⟩
      · exact .inr hk
  have HV : Hid (∀ W b v, Below w.heap.size w W → Cal W b (offB B nO) xs v → Calls Tryz.prog 11 #[.slice a n c, .slice aa m cc, .pointer (some ⟨b, 0, none⟩), .int .i64 on] W fun e w' => e = .returned (.int .i64 (codeM (statesK F l ev on))) ∧ Below W.heap.size W w') := fun W b v hW hC => hVal F W b v hG hW hC
  clear hVal
  have HRs : Hid (statesK F l ev on = none → ∀ W b v aa' m' cc' E' D', Below w.heap.size w W → Cal W b (offB B nO) xs v → RdG evE W W.heap.size (.slice aa' m' cc') E' → D' ≤ 3652059 → Calls Tryz.prog 13 #[.slice a n c, .slice aa' m' cc', .pointer (some ⟨b, 0, none⟩), .int .i64 D'] W fun e w' => (∃ a' n' c', e = .returned (.slice a' n' c') ∧ RdG stE w' w'.heap.size (.slice a' n' c') (statesL (insD F) E' D' l)) ∧ Below W.heap.size W w') := fun hk W b v aa' m' cc' E' D' hW hC hE' hD => by
    obtain ⟨hv, hi⟩ := statesK_none hk
    obtain ⟨l1, _, _, l4, _⟩ := validK_none hv
    exact rStates_p ((h.below hW).mono hW.size) hE' (Nat.le_refl _) hC hG hx1 (by have := h.len.1; omega) hD (fun d hd => by have := l4 d hd; omega) hi
  have HLd := hidIt L
  have HEv := hidIt (And.intro he he.len.1)
  have HEr := hidIt (fun k hk => er_lt (l := l) (ev := ev) (on := on) (k := k) hEr hk)
  have hnH := hA.m1
  have hmb := he.len.2
  have HOn : Hid (statesK F l ev on = none → 1 ≤ on ∧ on ≤ 3652059) := fun hk => (validK_none (statesK_none hk).1).2.2.1
  clear h he hA L hF0 hx0 hF hG hx hEr hx1
  have HBox : Hid (∀ W, Below (w.alloc (.cells #[.slice oa nO cO, .slice ha nH cH] 27)).heap.size (w.alloc (.cells #[.slice oa nO cO, .slice ha nH cH] 27)) W → W.rangeAt w.heap.size 0 [.slice oa nO cO, .slice ha nH cH]) := fun W hW => range_bel (alloc_range w _ _) hW (by simp)
  go_enter Tryz.func3, Tryz.ntmps3
  go_wp2_with fail
  refine (HDu.out _ (bel1 w _)).mono ?_
  rintro e w1 ⟨rfl, hb⟩
  have HX1 := hidIt hb
  have HB1 := hidIt ((bel1 w _).trans (hb.mono (bel1 w _).size))
  clear hb
  go_wp2_with fail
  refine (HN.out _ HB1.out).mono ?_
  rintro e w2 ⟨⟨b, rfl, hbn⟩, hb⟩
  have HB2 := hidIt (HB1.out.trans (hb.mono HB1.out.size))
  have hbx := HBox.out _ (HX1.out.trans (hb.mono HX1.out.size))
  have k0 : w2.cell? ⟨w.heap.size, 0, none⟩ = some (.slice oa nO cO) := hbx 0 _ rfl
  have k1 : w2.cell? ⟨w.heap.size, 1, none⟩ = some (.slice ha nH cH) := hbx 1 _ rfl
  clear hb hbx HX1 HBox
  cases b
  · clear hbn
    go_wp2
    go_ret
    exact ⟨rfl, HB2.out⟩
  obtain ⟨hn2, hm2⟩ := hbn rfl
  by_cases hH : 100 < nH
  · have hHz : (100 : Int) < nH := by omega
    go_wp2
    go_ret
    exact ⟨rfl, HB2.out⟩
  have hHz : ¬ (100 : Int) < nH := by omega
  go_wp2_with fail
  refine (HBo.out (by omega) _ HB2.out).mono ?_
  rintro e w3 ⟨v1, v2, rfl, hc1, hc2, hb⟩
  have HB3 := hidIt (HB2.out.trans (hb.mono HB2.out.size))
  have HX := hidIt hc1
  have HY := hidIt hc2
  clear hb hc1 hc2 k0 k1
  generalize w2.heap.size + 1 = bx at *
  generalize w2.heap.size + 2 = bz at *
  go_wp2_with fail
  refine (HO.out hn2 _ HB3.out).mono ?_
  rintro e w4 ⟨⟨a4, n4, c4, rfl, hr4⟩, hb⟩
  have HB4 := hidIt (HB3.out.trans (hb.mono HB3.out.size))
  have HR4 := hidIt hr4
  have HX4 := hidIt (HX.out.below hb)
  have HY4 := hidIt (HY.out.below hb)
  clear hb hr4
  go_wp2_with fail
  refine (HE.out hm2 _ HB4.out).mono ?_
  rintro e w5 ⟨⟨a5, n5, c5, rfl, hr5⟩, hb⟩
  have HB5 := hidIt (HB4.out.trans (hb.mono HB4.out.size))
  have HR5 := hidIt hr5
  have HR4x := hidIt ((HR4.out.below hb).mono hb.size)
  have HX5 := hidIt (HX4.out.below hb)
  have HY5 := hidIt (HY4.out.below hb)
  clear hb hr5
  go_wp2_with fail
  refine (HS.out _ _ _ _ _ _ _ _ _ HB5.out HX5.out HR4x.out HR5.out).mono ?_
  rintro e w6 ⟨hs6, hb⟩
  have HB6 := hidIt (HB5.out.trans (hb.mono HB5.out.size))
  have HSt6 := hidIt hs6
  have HX6 := hidIt (HX5.out.below hb)
  have HY6 := hidIt (HY5.out.below hb)
  clear hb hs6
  unfold StsR at HSt6
  cases hk : statesK F l ev on with
  | some k =>
    rw [hk] at HSt6
    obtain rfl : e = .returned (.tuple #[.slice none 0 0, .iface 173 (.pointer (some (p k)))]) := HSt6.out
    clear HSt6
    go_wp2_with fail
    refine (HO.out hn2 _ HB6.out).mono ?_
    rintro e w7 ⟨⟨a7, n7, c7, rfl, hr7⟩, hb⟩
    have HB7 := hidIt (HB6.out.trans (hb.mono HB6.out.size))
    have HR7 := hidIt hr7
    have HX7 := hidIt (HX6.out.below hb)
    have HY7 := hidIt (HY6.out.below hb)
    clear hb hr7
    go_wp2_with fail
    refine (HE.out hm2 _ HB7.out).mono ?_
    rintro e w8 ⟨⟨a8, n8, c8, rfl, hr8⟩, hb⟩
    have HB8 := hidIt (HB7.out.trans (hb.mono HB7.out.size))
    have HR8 := hidIt hr8
    have HR7x := hidIt ((HR7.out.below hb).mono hb.size)
    have HX8 := hidIt (HX7.out.below hb)
    have HY8 := hidIt (HY7.out.below hb)
    clear hb hr8
    go_wp2_with fail
    refine (HNx.out _ _ _ _ _ _ _ _ _ HB8.out HX8.out HR7x.out HR8.out).mono ?_
    rintro e w9 ⟨hs9, hb⟩
    have HB9 := hidIt (HB8.out.trans (hb.mono HB8.out.size))
    have HX9 := hidIt (HX8.out.below hb)
    have HY9 := hidIt (HY8.out.below hb)
    have hs9 : e = .returned (.tuple #[.int .i64 0, .iface 173 (.pointer (some (p k)))]) := by
      unfold NxtR at hs9
      rw [hk] at hs9
      exact hs9
    subst hs9
    clear hb
    go_wp2_with fail
    refine (HV.out _ _ _ HB9.out HY9.out).mono ?_
    rintro e w10 ⟨rfl, hb⟩
    have HB10 := hidIt (HB9.out.trans (hb.mono HB9.out.size))
    have HX10 := hidIt (HX9.out.below hb)
    have HY10 := hidIt (HY9.out.below hb)
    clear hb
    rw [hk]
    go_wp2_with fail
    refine (coded_sent k (HEr.out k hk) _ p _ (HLd.out.below HB10.out)).mono ?_
    rintro e w11 ⟨rfl, hb⟩
    have ht : ((k : Int) + 1 == codeM (some k)) = true := by show ((k : Int) + 1 == (k : Int) + 1) = true; simp
    rw [ht]
    have HB11 := hidIt (HB10.out.trans (hb.mono HB10.out.size))
    clear hb ht
    go_wp2_with fail
    refine (coded_sent k (HEr.out k hk) _ p _ (HLd.out.below HB11.out)).mono ?_
    rintro e w12 ⟨rfl, hb⟩
    have ht : ((k : Int) + 1 == codeM (some k)) = true := by show ((k : Int) + 1 == (k : Int) + 1) = true; simp
    rw [ht]
    have HB12 := hidIt (HB11.out.trans (hb.mono HB11.out.size))
    clear hb ht
    have hcp : (0 : Int) < (k : Int) + 1 := by omega
    have hcn : codeM (some k) = (k : Int) + 1 := rfl
    rw [hcn]
    clear hcn hk
    go_wp2
    go_ret
    exact ⟨rfl, HB12.out⟩
  | none =>
    rw [hk] at HSt6
    obtain ⟨a6, n6, c6, he6, hr6⟩ := HSt6.out
    subst he6
    have HP6 := hidIt hr6
    clear HSt6 hr6
    obtain ⟨Z, hZ⟩ : ∃ Z, Z = (if nextL (insD F) ev on l ≤ 3652059 then nextL (insD F) ev on l else 0) := ⟨_, rfl⟩
    have HZ := hidIt hZ
    clear hZ
    go_wp2_with fail
    refine (HO.out hn2 _ HB6.out).mono ?_
    rintro e w7 ⟨⟨a7, n7, c7, rfl, hr7⟩, hb⟩
    have HB7 := hidIt (HB6.out.trans (hb.mono HB6.out.size))
    have HR7 := hidIt hr7
    have HP7 := hidIt ((HP6.out.below hb).mono hb.size)
    have HX7 := hidIt (HX6.out.below hb)
    have HY7 := hidIt (HY6.out.below hb)
    clear hb hr7
    go_wp2_with fail
    refine (HE.out hm2 _ HB7.out).mono ?_
    rintro e w8 ⟨⟨a8, n8, c8, rfl, hr8⟩, hb⟩
    have HB8 := hidIt (HB7.out.trans (hb.mono HB7.out.size))
    have HR8 := hidIt hr8
    have HR7x := hidIt ((HR7.out.below hb).mono hb.size)
    have HP8 := hidIt ((HP7.out.below hb).mono hb.size)
    have HX8 := hidIt (HX7.out.below hb)
    have HY8 := hidIt (HY7.out.below hb)
    clear hb hr8
    go_wp2_with fail
    refine (HNx.out _ _ _ _ _ _ _ _ _ HB8.out HX8.out HR7x.out HR8.out).mono ?_
    rintro e w9 ⟨hs9, hb⟩
    have HB9 := hidIt (HB8.out.trans (hb.mono HB8.out.size))
    have HP9 := hidIt ((HP8.out.below hb).mono hb.size)
    have HX9 := hidIt (HX8.out.below hb)
    have HY9 := hidIt (HY8.out.below hb)
    have hs9 : e = .returned (.tuple #[.int .i64 Z, .nilIface]) := by
      unfold NxtR at hs9
      rw [hk] at hs9
      rw [HZ.out]
      exact hs9
    subst hs9
    clear hb
    go_wp2_with fail
    refine (HV.out _ _ _ HB9.out HY9.out).mono ?_
    rintro e w10 ⟨rfl, hb⟩
    have HB10 := hidIt (HB9.out.trans (hb.mono HB9.out.size))
    have HP10 := hidIt ((HP9.out.below hb).mono hb.size)
    have HX10 := hidIt (HX9.out.below hb)
    have HY10 := hidIt (HY9.out.below hb)
    clear hb
    rw [hk]
    go_wp2_with fail
    refine (coded_nil _ _).mono ?_
    rintro e w11 ⟨rfl, ew⟩
    subst w11
    go_wp2_with fail
    refine (coded_nil _ _).mono ?_
    rintro e w11 ⟨rfl, ew⟩
    subst w11
    have ht : ((0 : Int) == codeM none) = true := rfl
    have hcn : codeM none = 0 := rfl
    rw [ht, hcn]
    clear ht hcn
    obtain ⟨on1, on2⟩ := HOn.out hk
    obtain ⟨A, hA⟩ : ∃ A, A = statesL (insD F) ev on l := ⟨_, rfl⟩
    obtain ⟨N, hN⟩ : ∃ N, N = nextL (insD F) ev on l := ⟨_, rfl⟩
    have HRs2 := hidIt (HRs.out hk)
    have HStill : Hid (∀ x, on ≤ x → x < N → statesL (insD F) (upE ev on) x l = A) := fun x h1 h2 => by rw [hA]; exact next_still h1 (by rw [← hN]; exact h2)
    have HMoved : Hid (N ≤ 3652059 → on < N ∧ statesL (insD F) (upE ev on) N l ≠ A) := fun h1 => by
      have := next_moved (ins := insD F) (ev := ev) (on := on) (l := l) (by rw [← hN]; exact h1)
      rw [← hN, ← hA] at this
      exact this
    rw [← hA] at HP10
    have HA := hidIt hA
    rw [← hN] at HZ
    clear hA hN hk HRs HV HNx HS HO HE HBo HN HDu HOn
    go_wp2_with fail
    refine (HRs2.out _ _ _ _ _ _ ev on HB10.out HY10.out ((HEv.out.1.below HB10.out).mono HB10.out.size) on2).mono ?_
    rintro e w11 ⟨⟨a11, n11, c11, rfl, hr11⟩, hb⟩
    rw [← HA.out] at hr11
    have HB11 := hidIt (HB10.out.trans (hb.mono HB10.out.size))
    have HY11 := hidIt (HY10.out.below hb)
    have HP11 := hidIt ((HP10.out.below hb).mono hb.size)
    have HW11 := hidIt hr11
    clear hb hr11
    go_wp2_with fail
    refine (sameS_p HP11.out HW11.out (Nat.le_refl _) (Nat.le_refl _)).mono ?_
    rintro e w12 ⟨rfl, hb⟩
    have HB12 := hidIt (HB11.out.trans (hb.mono HB11.out.size))
    have HY12 := hidIt (HY11.out.below hb)
    have HW12 := hidIt ((HW11.out.below hb).mono hb.size)
    clear hb
    go_wp2_with fail
    go_loopw [22, 23] (fun t22 t23 wr => ∃ i : Nat, i ≤ m ∧ t23 = .int .i64 i ∧ RowG evE 51 wr w12.heap.size t22 (upE (ev.take i) on) ∧ Below w12.heap.size w12 wr) (fun _ t23 _ => m - (RowKit.intOf t23).toNat)
    case atStart => exact ⟨0, by omega, rfl, RowG.nil _ _, Below.refl _ _⟩
    case round =>
      obtain ⟨i, hi, rfl, hrow, hb⟩ := hrel
      obtain ⟨sa, sn, sc, rfl, hsn⟩ := hrow.any3
      have HRow := hidIt hrow
      have HBl := hidIt hb
      have HSn := hidIt hsn
      have hsz := hb.size
      have hlen := upE_len (ev.take i) on
      have hlen2 : (upE (ev.take i) on).length ≤ 402 := by rw [List.length_take] at hlen; omega
      clear hrow hb hsn hlen
      by_cases hlt : i < m
      · have c0 : decide ((i : Int) < m) = true := by simp; omega
        obtain ⟨d, he, _⟩ := get_in (l := ev) (i := i) (by have := HEv.out.2; omega)
        obtain ⟨ga, o, rfl, hg, hrg⟩ := HEv.out.1.at he
        obtain ⟨e0, e1, e2, e3⟩ := ev_cells (range_bel hrg (HB12.out.trans (HBl.out.mono HB12.out.size)) hg)
        have hk4 : evE.k = 4 := rfl
        rw [hk4] at e0 e1 e2 e3
        have hiz : (i : Int) < m := by omega
        have HT := hidIt (upE_take (on := on) he)
        obtain ⟨ed, en, ew, ewv⟩ := d
        simp only at e0 e1 e2 e3
        clear hrg he hg hk4
        by_cases hd : ed ≤ on
        · go_wp2_with (at_builtin; refine wpList_push_g (E := evE) Tryz.infoRE (by decide) Tryz.underlying23 rfl (.tmp 130) (.tmp 135) rfl w12.heap.size (.slice sa sn sc) (upE (ev.take i) on) ⟨ed, en, ew, ewv⟩ _ rfl rfl HRow.out (by first | (simp [Act.eval]; done) | simp [Act.eval, Act.put]) (by omega) (by omega) ?_; intro v' w5 hr5 hb5 _ _; obtain ⟨pa5, pn5, pc5, rfl, hp5⟩ := hr5.any3; have HR5 := hidIt hr5; have HP5 := hidIt hp5; have HBq := hidIt (HBl.out.trans (hb5.mono (Nat.le_refl _))); clear hr5 hb5 hp5)
          refine ⟨⟨i + 1, by omega, by go_num, ?_, HBq.out⟩, by simp [RowKit.intOf]; omega⟩
          rw [HT.out, if_pos hd]
          exact HR5.out
        · go_wp2
          refine ⟨⟨i + 1, by omega, by go_num, ?_, HBl.out⟩, by simp [RowKit.intOf]; omega⟩
          rw [HT.out, if_neg hd]
          exact HRow.out
      · have c0 : decide ((i : Int) < m) = false := by simp; omega
        have hTk : ev.take i = ev := List.take_of_length_le (by have := HEv.out.2; omega)
        have HU := hidIt HRow.out.rd
        rw [hTk] at HU
        have HBz := hidIt (HB12.out.trans (HBl.out.mono HB12.out.size))
        have HYz := hidIt (HY12.out.below HBl.out)
        have HWz := hidIt ((HW12.out.below HBl.out).mono HBl.out.size)
        clear hTk HRow HSn hlen2 HEv
        by_cases hle : N ≤ 3652059
        · obtain ⟨hm1, hm2⟩ := HMoved.out hle
          have HNe := hidIt hm2
          obtain rfl : Z = N := HZ.out.trans (if_pos hle)
          clear hm2 HMoved HZ
          have hn0 : (Z == 0) = false := by simp; omega
          by_cases hfar : 1500 < Z - on
          · go_wp2
            go_ret
            exact ⟨rfl, HBz.out⟩
          · go_wp2_with fail
            refine (HRs2.out _ _ _ _ _ _ (upE ev on) (Z - 1) HBz.out HYz.out HU.out (by omega)).mono ?_
            rintro e w13 ⟨⟨a13, n13, c13, rfl, hr13⟩, hb⟩
            rw [HStill.out (Z - 1) (by omega) (by omega)] at hr13
            have HB13 := hidIt (HBz.out.trans (hb.mono HBz.out.size))
            have HY13 := hidIt (HYz.out.below hb)
            have HW13 := hidIt ((HWz.out.below hb).mono hb.size)
            have HU13 := hidIt ((HU.out.below hb).mono hb.size)
            have HL13 := hidIt hr13
            clear hb hr13
            go_wp2_with fail
            refine (HRs2.out _ _ _ _ _ _ (upE ev on) Z HB13.out HY13.out HU13.out hle).mono ?_
            rintro e w14 ⟨⟨a14, n14, c14, rfl, hr14⟩, hb⟩
            have HB14 := hidIt (HB13.out.trans (hb.mono HB13.out.size))
            have HW14 := hidIt ((HW13.out.below hb).mono hb.size)
            have HL14 := hidIt ((HL13.out.below hb).mono hb.size)
            have HM14 := hidIt hr14
            clear hb hr14
            go_wp2_with fail
            refine (sameR_p HL14.out HW14.out).mono ?_
            rintro e w15 ⟨rfl, q15, ew⟩
            subst w15
            have ht : decide (A = A) = true := by simp
            rw [ht]
            clear ht
            have HW15 := hidIt (HW14.out.below (bdrewN (Below.refl _ _) q15))
            have HM15 := hidIt (HM14.out.below (bdrewN (Below.refl _ _) q15))
            go_wp2_with fail
            refine (sameR_p HM15.out HW15.out).mono ?_
            rintro e w16 ⟨rfl, q16, ew⟩
            subst w16
            have ht : decide (statesL (insD F) (upE ev on) Z l = A) = false := decide_eq_false HNe.out
            rw [ht]
            clear ht
            have HB16 := hidIt (bdrewN HB14.out (q15 + q16))
            go_wp2
            go_ret
            exact ⟨rfl, HB16.out⟩
        · obtain rfl : Z = 0 := HZ.out.trans (if_neg hle)
          clear HMoved HZ
          by_cases hcap : 3652059 < on + 1500
          · go_wp2_with fail
            refine (HRs2.out _ _ _ _ _ _ (upE ev on) 3652059 HBz.out HYz.out HU.out (by omega)).mono ?_
            rintro e w13 ⟨⟨a13, n13, c13, rfl, hr13⟩, hb⟩
            rw [HStill.out 3652059 (by omega) (by omega)] at hr13
            have HB13 := hidIt (HBz.out.trans (hb.mono HBz.out.size))
            have HW13 := hidIt ((HWz.out.below hb).mono hb.size)
            have HL13 := hidIt hr13
            clear hb hr13
            go_wp2_with fail
            refine (sameR_p HL13.out HW13.out).mono ?_
            rintro e w15 ⟨rfl, q15, ew⟩
            subst w15
            have ht : decide (A = A) = true := by simp
            rw [ht]
            clear ht
            have HB16 := hidIt (bdrewN HB13.out q15)
            go_wp2
            go_ret
            exact ⟨rfl, HB16.out⟩
          · go_wp2_with fail
            refine (HRs2.out _ _ _ _ _ _ (upE ev on) (on + 1500) HBz.out HYz.out HU.out (by omega)).mono ?_
            rintro e w13 ⟨⟨a13, n13, c13, rfl, hr13⟩, hb⟩
            rw [HStill.out (on + 1500) (by omega) (by omega)] at hr13
            have HB13 := hidIt (HBz.out.trans (hb.mono HBz.out.size))
            have HW13 := hidIt ((HWz.out.below hb).mono hb.size)
            have HL13 := hidIt hr13
            clear hb hr13
            go_wp2_with fail
            refine (sameR_p HL13.out HW13.out).mono ?_
            rintro e w15 ⟨rfl, q15, ew⟩
            subst w15
            have ht : decide (A = A) = true := by simp
            rw [ht]
            clear ht
            have HB16 := hidIt (bdrewN HB13.out q15)
            go_wp2
            go_ret
            exact ⟨rfl, HB16.out⟩
end Go.Proofs.YtkaeolcchhneoaaGreatDoor
