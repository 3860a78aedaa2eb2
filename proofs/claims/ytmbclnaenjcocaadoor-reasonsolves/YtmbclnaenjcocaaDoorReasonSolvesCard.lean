/-
  ReasonSolves: the row and the tied card.
-/
import Derived.Test.YtmbclnaenjcocaaDoorSents
import Derived.Test.YtmbclnaenjcocaaDoorRsArg
import Derived.Test.YtmbclnaenjcocaaDoorRfSame
import Derived.Test.YtmbclnaenjcocaaDoorRsFirm
import Derived.Test.YtmbclnaenjcocaaDoorTie
import Derived.Test.YtmbclnaenjcocaaDoorCards
import Derived.ChangeMaps5
import Derived.Lib.LaidU8
import Derived.MakeChecks
import Derived.LaidMore
import Derived.HandedShaped
namespace Go.Proofs.YtmbclnaenjcocaaDoor
open Go.RowKit

set_option maxHeartbeats 1000000 in
theorem solves_none {w : World} {p : Nat → Addr} (hE : Sent4 w p) : Calls Tryd.prog 3 #[.pointer none] w fun e w' => e = .returned (.bool true) ∧ Below w.heap.size w w' := by
  have HL := hidLL (live_w hE ordC)
  clear hE
  go_enter Tryd.func3, Tryd.ntmps3
  go_wp2_with fail
  refine HL.out.mono ?_
  rintro e w1 ⟨rfl, hb⟩
  have HB := hidLL hb
  clear hb
  go_wp2
  go_ret
  exact ⟨rfl, HB.out⟩
theorem errIs_okt2 {T : Thy} (h : errIs T none) : Okt T := by
  rcases h with ⟨e, _⟩ | ⟨e, _⟩ | ⟨e, _⟩ | ⟨e, _⟩ | ⟨_, h1, _, h3, h4⟩
  · cases e
  · cases e
  · cases e
  · cases e
  · exact okt_of h1 h3
/-- What is shown, and that what is known is the same. -/
def SvdR (w : World) (kb : Nat) (u1 u2 : Value) (e : Ending) (w' : World) : Prop := ∃ sb, e = .returned (.pointer (some ⟨sb, 0, none⟩)) ∧ w'.cell? ⟨kb, 0, none⟩ = some u1 ∧ w'.cell? ⟨kb, 1, none⟩ = some u2 ∧ Hid (∀ W', Below w'.heap.size w' W' → Calls Tryd.prog 15 #[.agg #[u1, u2], .pointer (some ⟨sb, 0, none⟩)] W' fun e w'' => e = .returned (.bool true) ∧ Below w.heap.size w w'')
theorem svd_r {w w4 W : World} {B : Nat} {T : Thy} {rv ov : Value} {pb po kb bS bH : Nat} {s : St} (hT : Okt T) (hF : Fine T s) (hQ : AllQ T s) (hS : w4.rowIs bS 3 (2 * (shOf T).N) (fun q => .int .i64 (s.su q))) (hH : w4.rowIs bH 3 (2 * (shOf T).N) (fun q => .int .i64 (s.ho q)))
    (hW4 : Below w4.heap.size w4 W) (hW : Below w.heap.size w W) (h : TP W B T rv ov pb po) (hB : B ≤ W.heap.size) {u1 u2 : Value} (e1 : u1 = .slice (some ⟨bS, 0, none⟩) (2 * (shOf T).N) (2 * (shOf T).N)) (e2 : u2 = .slice (some ⟨bH, 0, none⟩) (2 * (shOf T).N) (2 * (shOf T).N))
    (k0 : W.cell? ⟨kb, 0, none⟩ = some u1) (k1 : W.cell? ⟨kb, 1, none⟩ = some u2) : Calls Tryd.prog 16 #[.pointer (some ⟨pb, po, none⟩)] W (SvdR w kb u1 u2) := by
  refine (solved_r h hB hT).mono ?_
  rintro e w' ⟨sb, bM, m, rfl, hSM, hSh, hCl, hb⟩
  refine ⟨sb, rfl, (hb.cell (p := ⟨kb, 0, none⟩) (cell_lt k0)).trans k0, (hb.cell (p := ⟨kb, 1, none⟩) (cell_lt k1)).trans k1, ?_⟩
  intro W' hW'
  have hb' : Below W.heap.size W W' := hb.trans (hW'.mono hb.size)
  have h4 : Below w4.heap.size w4 W' := hW4.trans (hb'.mono hW4.size)
  have hw : Below w.heap.size w W' := hW.trans (hb'.mono hW.size)
  have h9 := same_w (hSM.bel hW') hT (hS.of_block (h4.block _ hS.lt)) (hH.of_block (h4.block _ hH.lt)) (fun p hp => known_at hT hF hQ hSh hCl hp)
  rw [e1, e2]
  refine Calls.mono h9 ?_
  rintro e w'' ⟨rfl, hbb⟩
  exact ⟨rfl, hw.trans (hbb.mono hw.size)⟩
set_option maxHeartbeats 4000000 in
set_option maxRecDepth 100000 in
theorem solves_w {w : World} {p : Nat → Addr} (hL : Laid w p) {B : Nat} {T : Thy} {rv ov : Value} {pb po : Nat} (h : TP w B T rv ov pb po) (hB : B ≤ w.heap.size) : Calls Tryd.prog 3 #[.pointer (some ⟨pb, po, none⟩)] w fun e w' => e = .returned (.bool true) ∧ Below w.heap.size w w' := by
  have HL := hidLL (live_w hL.sent4 ordC)
  have HX : Hid (∀ W, Below w.heap.size w W → TP W B T rv ov pb po ∧ B ≤ W.heap.size ∧ Laid W p) := fun W hW => ⟨h.bel hW hB, by have := hW.size; omega, hL.below hW⟩
  clear hL h hB
  go_enter Tryd.func3, Tryd.ntmps3
  go_wp2_with fail
  refine HL.out.mono ?_
  rintro e w1 ⟨rfl, hb1⟩
  have HB1 := hidLL hb1
  clear hb1 HL
  go_wp2_with fail
  refine (few_w (HX.out w1 HB1.out).1).mono ?_
  rintro e w2 ⟨b, rfl, ew⟩
  subst ew
  cases b with
  | false =>
    go_wp2
    go_ret
    exact ⟨rfl, HB1.out⟩
  | true =>
    go_wp2_with fail
    refine (theory_w (HX.out w2 HB1.out).1 (HX.out w2 HB1.out).2.1).mono ?_
    rintro e w3 ⟨rv', ov', rfl, hM, hb3⟩
    have HB3 := hidLL (HB1.out.trans (hb3.mono HB1.out.size))
    have HM := hidLL hM
    clear hb3 hM
    go_wp2_with fail
    refine (solve_v HM.out (Nat.le_refl _) (HX.out w3 HB3.out).2.2.sent4 (fun h W hW => ordC T _ _ w3.heap.size W h (HM.out.below hW (Nat.le_refl _)) hW.size)).mono ?_
    rintro e w4 ⟨hb4, hres⟩
    have HB4 := hidLL (HB3.out.trans (hb4.mono HB3.out.size))
    obtain ⟨k, a1, n1, c1, a2, n2, c2, hk, rfl, hcase⟩ : ∃ (k : Option Nat) (a1 : Option Addr) (n1 c1 : Nat) (a2 : Option Addr) (n2 c2 : Nat), errIs T k ∧ e = .returned (.tuple #[.agg #[.slice a1 n1 c1, .slice a2 n2 c2], errV p k]) ∧ ((k ≠ none ∧ n1 = 0 ∧ n2 = 0) ∨ (k = none ∧ ∃ (bS bH : Nat) (s : St), a1 = some ⟨bS, 0, none⟩ ∧ a2 = some ⟨bH, 0, none⟩ ∧ n1 = 2 * (shOf T).N ∧ c1 = 2 * (shOf T).N ∧ n2 = 2 * (shOf T).N ∧ c2 = 2 * (shOf T).N ∧ w4.rowIs bS 3 (2 * (shOf T).N) (fun q => .int .i64 (s.su q)) ∧ w4.rowIs bH 3 (2 * (shOf T).N) (fun q => .int .i64 (s.ho q)) ∧ Fine T s ∧ AllQ T s)) := by
      rcases hres with ⟨k, hk, rfl⟩ | ⟨hk, bS, bH, s, rfl, _, _, hS, hH, hF, hQ⟩
      · exact ⟨some k, none, 0, 0, none, 0, 0, hk, rfl, .inl ⟨by simp, rfl, rfl⟩⟩
      · exact ⟨none, _, _, _, _, _, _, hk, rfl, .inr ⟨rfl, bS, bH, s, rfl, rfl, rfl, rfl, rfl, rfl, hS, hH, hF, hQ⟩⟩
    have HK := hidLL (And.intro hk hcase)
    have HCd : Hid (∀ W, Below w.heap.size w W → Calls Tryd.prog 14 #[errV p k, .int .i64 (codeK k)] W fun e w' => e = .returned (.bool true) ∧ Below W.heap.size W w') := fun W hW => coded_k hk W (HX.out W hW).2.2
    obtain ⟨ev, hev⟩ : ∃ ev, ev = errV p k := ⟨_, rfl⟩
    obtain ⟨cz, hcz⟩ : ∃ cz, cz = codeK k := ⟨_, rfl⟩
    rw [← hev, ← hcz] at HCd
    rw [← hev]
    have HEV := hidLL (And.intro hev hcz)
    obtain ⟨u1, hu1⟩ : ∃ u1, u1 = Value.slice a1 n1 c1 := ⟨_, rfl⟩
    obtain ⟨u2, hu2⟩ : ∃ u2, u2 = Value.slice a2 n2 c2 := ⟨_, rfl⟩
    rw [← hu1, ← hu2]
    obtain ⟨W5, hW5⟩ : ∃ W5 : World, W5 = w4.alloc (.cells #[u1, u2] 27) := ⟨_, rfl⟩
    obtain ⟨kb, hkb⟩ : ∃ kb, kb = w4.heap.size := ⟨_, rfl⟩
    have hb5 : Below w4.heap.size w4 W5 := by rw [hW5]; exact (Below.refl _ _).alloc (Nat.le_refl _) _
    have hk5 : W5.heap[kb]? = some (.cells #[u1, u2] 27) := by rw [hW5, hkb]; exact blk_new _ _
    have HB5 := hidLL (HB4.out.trans (hb5.mono HB4.out.size))
    have HK5 : Hid (∀ W, Below W5.heap.size W5 W → Below w4.heap.size w4 W ∧ Below w.heap.size w W ∧ W.cell? ⟨kb, 0, none⟩ = some u1 ∧ W.cell? ⟨kb, 1, none⟩ = some u2) := fun W hW => by
      have h9 := (hW.block _ (blk_lt hk5)).trans hk5
      exact ⟨hb5.trans (hW.mono hb5.size), HB5.out.trans (hW.mono HB5.out.size), by simp [World.cell?, h9], by simp [World.cell?, h9]⟩
    have HW5 := hidLL (And.intro hW5 hkb)
    have HU := hidLL (And.intro hu1 hu2)
    clear hb4 hres hk hcase hev hcz hu1 hu2 hW5 hkb hb5 hk5
    obtain ⟨hu1, hu2⟩ := HU.out
    subst hu1 hu2
    go_wp2_with fail
    rw [← HW5.out.1, ← HW5.out.2]
    refine (valid_r (HX.out W5 HB5.out).1 (HX.out W5 HB5.out).2.1).mono ?_
    rintro e w6 ⟨⟨k', hk', rfl⟩, hb6⟩
    rw [errIs_uniq hk' HK.out.1, ← HEV.out.2]
    have HB6 := hidLL (HB5.out.trans (hb6.mono HB5.out.size))
    have H56 := hidLL hb6
    clear hk' hb6
    go_wp2_with fail
    refine (theory_w (HX.out w6 HB6.out).1 (HX.out w6 HB6.out).2.1).mono ?_
    rintro e w7 ⟨rv2, ov2, rfl, hM, hb7⟩
    have HB7 := hidLL (HB6.out.trans (hb7.mono HB6.out.size))
    have H57 := hidLL (H56.out.trans (hb7.mono H56.out.size))
    have HM2 := hidLL hM
    clear hb7 hM
    go_wp2_with fail
    refine (valid_v HM2.out (Nat.le_refl _) (HX.out w7 HB7.out).2.2.sent4 (fun h W hW => ordC T _ _ w7.heap.size W h (HM2.out.below hW (Nat.le_refl _)) hW.size)).mono ?_
    rintro e w8 ⟨k', rfl, hk', hb8⟩
    rw [errIs_uniq hk' HK.out.1, ← HEV.out.1]
    have HB8 := hidLL (HB7.out.trans (hb8.mono HB7.out.size))
    have H58 := hidLL (H57.out.trans (hb8.mono H57.out.size))
    clear hb8 hk'
    go_wp2_with fail
    refine (HCd.out w8 HB8.out).mono ?_
    rintro e w9 ⟨rfl, hb9⟩
    have HB9 := hidLL (HB8.out.trans (hb9.mono HB8.out.size))
    have H59 := hidLL (H58.out.trans (hb9.mono H58.out.size))
    clear hb9
    go_wp2_with fail
    refine (HCd.out w9 HB9.out).mono ?_
    rintro e w10 ⟨rfl, hb10⟩
    have HB10 := hidLL (HB9.out.trans (hb10.mono HB9.out.size))
    have H510 := hidLL (H59.out.trans (hb10.mono H59.out.size))
    clear hb10 HCd
    obtain ⟨_, _, k0, k1⟩ := HK5.out w10 H510.out
    rcases HK.out.2 with ⟨hne, hn1, hn2⟩ | ⟨hno, bS, bH, s, ha1, ha2, hn1, hc1, hn2, hc2, hS, hH, hF, hQ⟩
    · have hpos : 0 < cz := by
        rw [HEV.out.2]
        cases k with
        | none => exact absurd rfl hne
        | some j => show (0 : Int) < (j : Int) + 1; omega
      rw [hn1] at k0
      rw [hn2] at k1
      clear hne hn1 hn2
      go_wp2
      go_ret
      exact ⟨rfl, HB10.out⟩
    · have hz : cz = 0 := by rw [HEV.out.2, hno]; rfl
      have hOk : Okt T := errIs_okt2 (hno ▸ HK.out.1)
      have HS : Hid (∀ W, Below w10.heap.size w10 W → Calls Tryd.prog 16 #[.pointer (some ⟨pb, po, none⟩)] W (SvdR w kb (.slice a1 n1 c1) (.slice a2 n2 c2))) := fun W hW => by
        obtain ⟨y1, y2, y3, y4⟩ := HK5.out W (H510.out.trans (hW.mono H510.out.size))
        exact svd_r hOk hF hQ hS hH y1 y2 (HX.out W y2).1 (HX.out W y2).2.1 (by rw [ha1, hn1, hc1]) (by rw [ha2, hn2, hc2]) y3 y4
      subst hz
      clear hno ha1 ha2 hn1 hc1 hn2 hc2 hS hH hF hQ hOk
      go_wp2_with fail
      go_region_with (first | (go_at_call 16; refine (HS.out _ (by exact ⟨rfl, rfl, rfl, Nat.le_refl _, fun _ _ => rfl⟩)).mono ?_; rintro e w11 ⟨sb, rfl, m0, m1, HSm⟩) | (go_at_call 15; refine (HSm.out _ (by exact ⟨rfl, rfl, rfl, Nat.le_refl _, fun _ _ => rfl⟩)).mono ?_; rintro e w12 ⟨rfl, hb12⟩; have HB12 := hidLL hb12; clear hb12))
      all_goals
        go_wp2
        go_ret
        exact ⟨rfl, HB12.out⟩
end Go.Proofs.YtmbclnaenjcocaaDoor
namespace Go.Proofs.YtmbclnaenjcocaaDoor
open Go.ChangeShapes Go.WideShapes Go.ChangeAt Go.WideMaps Go.WideElems Go.RowKit

theorem solves_laid {W : World} (h : laidMetH Tryd.prog Rows.reasonSolvesRow.laid W) : ∃ p, Laid W p := by
  obtain ⟨h1, h2⟩ := laidMetH_split (rest := sentList.map (fun x => (x.1, sentD x.2.2)) ++ []) (h := ("errors.errorType", Rows.laid_errors_errorType)) (hs := []) (by kernel_rfl) (by kernel_rfl) h
  exact laid_of h1 h2
theorem reasonSolves_door (os : Os) (args : Array Value) : laidMetH Tryd.prog Rows.reasonSolvesRow.laid ((World.doorLaid Tryd.prog 400 os).forCall (fun _ _ => 0) ⟨#[], args, []⟩).memory :=
  laidMetH_of_parts3 (fuel := 8) (laidMet_of_run' 8 (by kernel_rfl) (by kernel_rfl)) (by kernel_rfl) (by kernel_rfl)
set_option maxRecDepth 100000 in
theorem reasonSolves_lifted (os : Os) (started : os.Started) (H : Type) (enc : TypeId × Value → H) :
    ReturnsInHanded {} Tryd.checked os 3 .any (fun w args => (Rows.reasonSolvesSpec.pre enc Tryd.prog Tryd.f3 [] false w args ∧ laidMetH Tryd.prog Rows.reasonSolvesRow.laid w) ∧ sizedMet enc Tryd.prog Tryd.f3 (OpenSpec.ofChange Rows.reasonSolvesSpec) false w args)
      (Rows.reasonSolvesSpec.post enc Tryd.prog Tryd.f3 false true false false) := by
  refine returnsInHanded_of_change_and (C := Tryd.checked) (X := fun w _ => laidMetH Tryd.prog Rows.reasonSolvesRow.laid w) (fun _ _ _ hh h => h.of_heap hh) Tryd.ownAll started (by kernel_rfl) Tryd.func3
    (ChangeSpec.witness_shaped (enc := enc) (C := Tryd.checked) (os := os) (X := fun w _ => laidMetH Tryd.prog Rows.reasonSolvesRow.laid w) false (World.doorLaid Tryd.prog 400 os) #[.pointer none] 8 rfl (World.shaped_of_RefB (by kernel_rfl) (by kernel_rfl)) (by kernel_rfl) (by kernel_rfl) (by kernel_rfl) (reasonSolves_door os _)) ?_
  intro W base args ds gs before hval0 hW _ hwt hL _
  have hW' := hW
  obtain ⟨p, q, hA0, hV, rfl, hfz, hnd⟩ := hW
  have hA : DataW.TrodAll enc Tryd.prog W 0 (fun _ => true) true Tryd.f3.params.toList args.toList ds p := hA0
  have hlt := DataW.TrodAll.lt hA
  rw [Tryd.params3] at hA
  have hval : ∀ (j : Nat) t v, Tryd.f3.params[j]? = some t → args[j]? = some v → Value.okWide Tryd.prog W .any base t v := hval0
  rw [Tryd.params3] at hval
  obtain ⟨v0, vs, d0, ds', p0, q0, hargs, rfl, rfl, h0, hrest⟩ := trodAll_cons hA
  obtain ⟨rfl, rfl, rfl⟩ := trodAll_nil hrest
  obtain rfl : args = #[v0] := by cases args; simp_all
  obtain ⟨rfl, rfl⟩ := trodVars_none hV
  have hwt0 : ∀ z ∈ d0.weights Tryd.prog 22, z ≤ reachBytes := fun z hz => by
    have h9 : (d0.weights Tryd.prog 22 ++ DataW.weightsEach Tryd.prog _ []).all (· ≤ reachBytes) = true := hwt
    have := List.all_eq_true.1 h9 z (List.mem_append_left _ hz)
    simpa using this
  obtain ⟨pp, hpp⟩ := solves_laid hL
  have hb0 : Calls Tryd.prog 3 #[v0] W fun e w' => e = .returned (.bool true) ∧ Below W.heap.size W w' := by
    rcases thy_arg (hval 0 22 v0 rfl rfl) h0 hwt0 with rfl | ⟨pb, po, T, rv, ov, rfl, hTP⟩
    · exact solves_none hpp.sent4
    · exact solves_w hpp hTP (Nat.le_refl _)
  clear hA0 hval0
  simp only [List.append_nil] at hW'
  refine hb0.mono fun e W' ⟨he, hb⟩ => ?_
  subst he
  have e1 : Rows.reasonSolvesSpec.fn H ([d0] ++ []) = { results := [.lit (.bool true)], args := [d0] } := rfl
  refine ⟨_, rfl, _, _, _, [], p0, [], hW', ?_, ?_, ?_, hb.frame _, fun h => by cases h⟩
  · rw [e1]; exact trodAll_mk1 (shut_bool Tryd.underlying4 true)
  · rw [e1]
    exact trodAll_mk1 (Below.trod Tryd.laidOutAll (by kernel_rfl) (of_decide_eq_true (by kernel_rfl)) h0 hb (fun x hx => hlt x (by simpa using hx)))
  · rw [e1]; rfl

theorem reasonSolves_row : Rows.ReasonSolvesSaid :=
  OpenClaim.holds_of_wide 3 Tryd.f3 rfl rfl rfl rfl rfl rfl rfl ⟨rfl, rfl, rfl, rfl, rfl⟩ rfl rfl rfl rfl rfl (by kernel_rfl) Tryd.func3 (by kernel_rfl)
    (of_decide_eq_true (by kernel_rfl)) (by unfold Func.isWrapper; rw [if_neg (of_decide_eq_false (by kernel_rfl))]; exact ⟨rfl, rfl⟩)
    (fun os started H enc _ => reasonSolves_lifted os started H enc)

theorem reasonSolves_holds : Rows.ReasonSolvesCardSaid :=
  Claim7.holds_tied_plain_at .later [] [.handle, .sentinel, .sentinel, .sentinel, .sentinel, .sentinel, .sentinel, .sentinel, .sentinel, .sentinel, .sentinel, .sentinel] true (true, "71476ba5c33518461cf7b599b85a66c6fd858181a2e35207b44b17c2c29b0486") true
    reasonSolves_row (fun _ h => by cases h) (by kernel_rfl) (fun _ h => by cases h) reasonSolves_row_tie rfl ⟨rfl, rfl⟩ (by kernel_rfl) rfl
    (fun f fn hf hfn => by
      obtain rfl : f = 3 := Option.some.inj ((show Tryd.prog.funcNamed "statute/statutelaw4.ReasonSolves" = some 3 by kernel_rfl).symm.trans hf) |>.symm
      obtain rfl : fn = Tryd.f3 := (Option.some.inj (Tryd.func3.symm.trans hfn)).symm
      exact ⟨by kernel_rfl, fun j t ht => by
        rw [Tryd.params3] at ht
        have hm : t ∈ [22] := by
          have := Array.mem_of_getElem? ht
          simpa using this
        have hall : ([22].all fun u => !Tryd.prog.wantsStandIn u) = true := by kernel_rfl
        exact (show Tryd.prog.wantsStandIn t = false by simpa using List.all_eq_true.1 hall t hm)⟩)
    (by kernel_rfl)
end Go.Proofs.YtmbclnaenjcocaaDoor
