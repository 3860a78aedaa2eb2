/-
  WhyChecks: the row and the tied card.
-/
import Derived.Test.YtmbclnaenjcocaaDoorSents
import Derived.Test.YtmbclnaenjcocaaDoorWhArg
import Derived.Test.YtmbclnaenjcocaaDoorRfCode
import Derived.Test.YtmbclnaenjcocaaDoorWhChkR
import Derived.Test.YtmbclnaenjcocaaDoorWhSteps
import Derived.Test.YtmbclnaenjcocaaDoorTie
import Derived.Test.YtmbclnaenjcocaaDoorCards
import Derived.ChangeMaps5
import Derived.Lib.LaidU8
import Derived.MakeChecks
import Derived.LaidMore
import Derived.HandedShaped
namespace Go.Proofs.YtmbclnaenjcocaaDoor
open Go.RowKit

set_option maxHeartbeats 1000000 in
theorem whyChecks_none {w : World} {p : Nat → Addr} (hE : Sent4 w p) (a : Option Addr) (n c : Nat) : Calls Tryd.prog 6 #[.pointer none, .slice a n c] w fun e w' => e = .returned (.bool true) ∧ Below w.heap.size w w' := by
  have HL := hidLL (checks_w hE)
  clear hE
  go_enter Tryd.func6, Tryd.ntmps6
  go_wp2_with fail
  refine HL.out.mono ?_
  rintro e w1 ⟨rfl, hb⟩
  have HB := hidLL hb
  clear hb
  go_wp2
  go_ret
  exact ⟨rfl, HB.out⟩
set_option maxHeartbeats 4000000 in
set_option maxRecDepth 100000 in
theorem whyChecks_w {w : World} {p : Nat → Addr} (hL : Laid w p) {B : Nat} {T : Thy} {rv ov : Value} {pb po : Nat} (h : TP w B T rv ov pb po) (hB : B ≤ w.heap.size) {ca : Option Addr} {cn cc : Nat} {l : List Clm} (hC : SRd w B (.slice ca cn cc) l) (hcn : cn = l.length) : Calls Tryd.prog 6 #[.pointer (some ⟨pb, po, none⟩), .slice ca cn cc] w fun e w' => e = .returned (.bool true) ∧ Below w.heap.size w w' := by
  have HL := hidLL (checks_w hL.sent4)
  have HX : Hid (∀ W, Below w.heap.size w W → TP W B T rv ov pb po ∧ B ≤ W.heap.size ∧ Laid W p ∧ SRd W B (.slice ca cn cc) l) := fun W hW => ⟨h.bel hW hB, by have := hW.size; omega, hL.below hW, hC.on fun k hk => hW.block k (by omega)⟩
  have hcl : cn ≤ 8796093022208 := by
    obtain ⟨a', c', e, h9, _⟩ := hC
    omega
  have HCN := hidLL hcn
  clear hL h hB hC hcn
  by_cases hlong : 200 < cn
  · have hlz : (200 : Int) < cn := by omega
    go_enter Tryd.func6, Tryd.ntmps6
    go_wp2_with fail
    refine HL.out.mono ?_
    rintro e w1 ⟨rfl, hb1⟩
    have HB1 := hidLL hb1
    clear hb1 HL
    go_wp2
    go_ret
    exact ⟨rfl, HB1.out⟩
  · have hlz : ¬ (200 : Int) < cn := by omega
    go_enter Tryd.func6, Tryd.ntmps6
    go_wp2_with fail
    refine HL.out.mono ?_
    rintro e w1 ⟨rfl, hb1⟩
    have HB1 := hidLL hb1
    clear hb1 HL
    go_wp2_with fail
    refine (few_w (HX.out w1 HB1.out).1).mono ?_
    rintro e w2 ⟨b, rfl, ew⟩
    subst ew
    cases b with
    | false =>
      go_wp2
      go_ret
      exact ⟨rfl, HB1.out⟩
    | true =>
      go_wp2_with fail
      refine (theory_w (HX.out w2 HB1.out).1 (HX.out w2 HB1.out).2.1).mono ?_
      rintro e w3 ⟨rv', ov', rfl, hM, hb3⟩
      have HB3 := hidLL (HB1.out.trans (hb3.mono HB1.out.size))
      have HM := hidLL hM
      clear hb3 hM
      go_wp2_with fail
      refine (steps_w (HX.out w3 HB3.out).2.2.2 (HX.out w3 HB3.out).2.1 HCN.out (by omega)).mono ?_
      rintro e w4 ⟨sa, sn, sc, rfl, hsn, hsr, hb4⟩
      have HB4 := hidLL (HB3.out.trans (hb4.mono HB3.out.size))
      have hM4 := HM.out.below hb4 (Nat.le_refl _)
      have hs34 := hb4.size
      have hsn2 : sn ≤ 1000 := by rw [hsn, ← HCN.out]; omega
      have HCk := hidLL (check_p (T := T) hM4 hs34 (HX.out w4 HB4.out).2.2.1.sent4 (fun h W hW => ordC T _ _ w3.heap.size W h (hM4.below hW hs34) (Nat.le_trans hs34 hW.size)) hsr hsn hsn2)
      clear hM4 hsr hb4 hsn
      go_wp2_with fail
      refine HCk.out.mono ?_
      rintro e w5 ⟨hb5, hres⟩
      have HB5 := hidLL (HB4.out.trans (hb5.mono HB4.out.size))
      clear hb5 HCk
      have HV := hidLL (valid_r (HX.out w5 HB5.out).1 (HX.out w5 HB5.out).2.1)
      rcases hres with ⟨k, hk, rfl⟩ | ⟨hk, b, rfl, hg⟩
      · have HCd : Hid (∀ W, Below w.heap.size w W → Calls Tryd.prog 14 #[errV p (some k), .int .i64 (codeK (some k))] W fun e w' => e = .returned (.bool true) ∧ Below W.heap.size W w') := fun W hW => coded_k hk W (HX.out W hW).2.2.1
        have HK := hidLL hk
        have hpos : 0 < codeK (some k) := by show (0 : Int) < (k : Int) + 1; omega
        obtain ⟨ev, hev⟩ : ∃ ev, ev = errV p (some k) := ⟨_, rfl⟩
        obtain ⟨cz, hcz⟩ : ∃ cz, cz = codeK (some k) := ⟨_, rfl⟩
        rw [← hev, ← hcz] at HCd
        rw [← hcz] at hpos
        rw [← hev]
        have HEV := hidLL (And.intro hev hcz)
        clear hev hcz hk
        go_wp2_with fail
        refine HV.out.mono ?_
        rintro e w6 ⟨⟨k', hk', rfl⟩, hb6⟩
        rw [errIs_uniq hk' HK.out, ← HEV.out.2]
        have HB6 := hidLL (HB5.out.trans (hb6.mono HB5.out.size))
        clear hk' hb6
        go_wp2_with fail
        refine (HCd.out w6 HB6.out).mono ?_
        rintro e w7 ⟨rfl, hb7⟩
        have HB7 := hidLL (HB6.out.trans (hb7.mono HB6.out.size))
        clear hb7
        go_wp2
        go_ret
        exact ⟨rfl, HB7.out⟩
      · have HK := hidLL (And.intro hk hg)
        clear hk hg
        go_wp2_with fail
        refine HV.out.mono ?_
        rintro e w6 ⟨⟨k', hk', rfl⟩, hb6⟩
        rw [errIs_uniq hk' HK.out.1, show codeK none = 0 from rfl]
        have HB6 := hidLL (HB5.out.trans (hb6.mono HB5.out.size))
        clear hk' hb6
        have HCh := hidLL (checked_r (HX.out w6 HB6.out).1 (HX.out w6 HB6.out).2.1 (errIs_okt HK.out.1) (HX.out w6 HB6.out).2.2.2 HCN.out)
        go_wp2_with fail
        refine HCh.out.mono ?_
        rintro e w7 ⟨b', rfl, hb', hb7⟩
        obtain rfl : b' = b := by
          have h9 := hb'.trans HK.out.2.symm
          cases b <;> cases b' <;> simp_all
        have HB7 := hidLL (HB6.out.trans (hb7.mono HB6.out.size))
        clear hb7 hb' HCh HV HK
        cases b'
        all_goals
          go_wp2
          go_ret
          exact ⟨rfl, HB7.out⟩
end Go.Proofs.YtmbclnaenjcocaaDoor
namespace Go.Proofs.YtmbclnaenjcocaaDoor
open Go.ChangeShapes Go.WideShapes Go.ChangeAt Go.WideMaps Go.WideElems Go.RowKit

theorem checks_laid {W : World} (h : laidMetH Tryd.prog Rows.whyChecksRow.laid W) : ∃ p, Laid W p := by
  obtain ⟨h1, h2⟩ := laidMetH_split (rest := sentList.map (fun x => (x.1, sentD x.2.2)) ++ []) (h := ("errors.errorType", Rows.laid_errors_errorType)) (hs := []) (by kernel_rfl) (by kernel_rfl) h
  exact laid_of h1 h2
theorem whyChecks_door (os : Os) (args : Array Value) : laidMetH Tryd.prog Rows.whyChecksRow.laid ((World.doorLaid Tryd.prog 400 os).forCall (fun _ _ => 0) ⟨#[], args, []⟩).memory :=
  laidMetH_of_parts3 (fuel := 8) (laidMet_of_run' 8 (by kernel_rfl) (by kernel_rfl)) (by kernel_rfl) (by kernel_rfl)
set_option maxRecDepth 100000 in
theorem whyChecks_lifted (os : Os) (started : os.Started) (H : Type) (enc : TypeId × Value → H) :
    ReturnsInHanded {} Tryd.checked os 6 .any (fun w args => (Rows.whyChecksSpec.pre enc Tryd.prog Tryd.f6 [] false w args ∧ laidMetH Tryd.prog Rows.whyChecksRow.laid w) ∧ sizedMet enc Tryd.prog Tryd.f6 (OpenSpec.ofChange Rows.whyChecksSpec) false w args)
      (Rows.whyChecksSpec.post enc Tryd.prog Tryd.f6 false true false false) := by
  refine returnsInHanded_of_change_and (C := Tryd.checked) (X := fun w _ => laidMetH Tryd.prog Rows.whyChecksRow.laid w) (fun _ _ _ hh h => h.of_heap hh) Tryd.ownAll started (by kernel_rfl) Tryd.func6
    (ChangeSpec.witness_shaped (enc := enc) (C := Tryd.checked) (os := os) (X := fun w _ => laidMetH Tryd.prog Rows.whyChecksRow.laid w) false (World.doorLaid Tryd.prog 400 os) #[.pointer none, .slice none 0 0] 8 rfl (World.shaped_of_RefB (by kernel_rfl) (by kernel_rfl)) (by kernel_rfl) (by kernel_rfl) (by kernel_rfl) (whyChecks_door os _)) ?_
  intro W base args ds gs before hval0 hW _ hwt hL _
  have hW' := hW
  obtain ⟨p, q, hA0, hV, rfl, hfz, hnd⟩ := hW
  have hA : DataW.TrodAll enc Tryd.prog W 0 (fun _ => true) true Tryd.f6.params.toList args.toList ds p := hA0
  have hlt := DataW.TrodAll.lt hA
  rw [Tryd.params6] at hA
  have hval : ∀ (j : Nat) t v, Tryd.f6.params[j]? = some t → args[j]? = some v → Value.okWide Tryd.prog W .any base t v := hval0
  rw [Tryd.params6] at hval
  obtain ⟨v0, vs, d0, ds', p0, q0, hargs, rfl, rfl, h0, hrest⟩ := trodAll_cons hA
  obtain ⟨v1, vs1, d1, ds1, p1, q1, rfl, rfl, rfl, h1, hrest1⟩ := trodAll_cons hrest
  obtain ⟨rfl, rfl, rfl⟩ := trodAll_nil hrest1
  obtain rfl : args = #[v0, v1] := by cases args; simp_all
  obtain ⟨rfl, rfl⟩ := trodVars_none hV
  have hwa : ∀ z, z ∈ d0.weights Tryd.prog 22 ++ (d1.weights Tryd.prog 49 ++ DataW.weightsEach Tryd.prog _ []) → z ≤ reachBytes := fun z hz => by
    have h9 : (d0.weights Tryd.prog 22 ++ (d1.weights Tryd.prog 49 ++ DataW.weightsEach Tryd.prog _ [])).all (· ≤ reachBytes) = true := hwt
    have := List.all_eq_true.1 h9 z hz
    simpa using this
  obtain ⟨pp, hpp⟩ := checks_laid hL
  obtain ⟨sa, sn, sc, l, rfl, hsn, hsr⟩ := steps_arg (hval 1 49 v1 rfl rfl) h1 (fun z hz => hwa z (List.mem_append_right _ (List.mem_append_left _ hz)))
  have hb0 : Calls Tryd.prog 6 #[v0, .slice sa sn sc] W fun e w' => e = .returned (.bool true) ∧ Below W.heap.size W w' := by
    rcases thy_arg (hval 0 22 v0 rfl rfl) h0 (fun z hz => hwa z (List.mem_append_left _ hz)) with rfl | ⟨pb, po, T, rv, ov, rfl, hTP⟩
    · exact whyChecks_none hpp.sent4 sa sn sc
    · exact whyChecks_w hpp hTP (Nat.le_refl _) hsr hsn
  clear hA0 hval0
  simp only [List.append_nil] at hW'
  refine hb0.mono fun e W' ⟨he, hb⟩ => ?_
  subst he
  have e1 : Rows.whyChecksSpec.fn H ([d0, d1] ++ []) = { results := [.lit (.bool true)], args := [d0, d1] } := rfl
  refine ⟨_, rfl, _, _, _, [], p0 ++ p1, [], hW', ?_, ?_, ?_, hb.frame _, fun h => by cases h⟩
  · rw [e1]; exact trodAll_mk1 (shut_bool Tryd.underlying4 true)
  · rw [e1]
    exact trodAll_mk2 (Below.trod Tryd.laidOutAll (by kernel_rfl) (of_decide_eq_true (by kernel_rfl)) h0 hb (fun x hx => hlt x (by simp only [List.mem_append]; simp [hx]))) (Below.trod Tryd.laidOutAll (by kernel_rfl) (of_decide_eq_true (by kernel_rfl)) h1 hb (fun x hx => hlt x (by simp only [List.mem_append]; simp [hx])))
  · rw [e1]; rfl

theorem whyChecks_row : Rows.WhyChecksSaid :=
  OpenClaim.holds_of_wide 6 Tryd.f6 rfl rfl rfl rfl rfl rfl rfl ⟨rfl, rfl, rfl, rfl, rfl⟩ rfl rfl rfl rfl rfl (by kernel_rfl) Tryd.func6 (by kernel_rfl)
    (of_decide_eq_true (by kernel_rfl)) (by unfold Func.isWrapper; rw [if_neg (of_decide_eq_false (by kernel_rfl))]; exact ⟨rfl, rfl⟩)
    (fun os started H enc _ => whyChecks_lifted os started H enc)

theorem whyChecks_holds : Rows.WhyChecksCardSaid :=
  Claim7.holds_tied_plain_at .later [] [.handle, .sentinel, .sentinel, .sentinel, .sentinel, .sentinel, .sentinel, .sentinel, .sentinel, .sentinel, .sentinel, .sentinel] true (true, "71476ba5c33518461cf7b599b85a66c6fd858181a2e35207b44b17c2c29b0486") true
    whyChecks_row (fun _ h => by cases h) (by kernel_rfl) (fun _ h => by cases h) whyChecks_row_tie rfl ⟨rfl, rfl⟩ (by kernel_rfl) rfl
    (fun f fn hf hfn => by
      obtain rfl : f = 6 := Option.some.inj ((show Tryd.prog.funcNamed "statute/statutelaw4.WhyChecks" = some 6 by kernel_rfl).symm.trans hf) |>.symm
      obtain rfl : fn = Tryd.f6 := (Option.some.inj (Tryd.func6.symm.trans hfn)).symm
      exact ⟨by kernel_rfl, fun j t ht => by
        rw [Tryd.params6] at ht
        have hm : t ∈ [22, 49] := by
          have := Array.mem_of_getElem? ht
          simpa using this
        have hall : ([22, 49].all fun u => !Tryd.prog.wantsStandIn u) = true := by kernel_rfl
        exact (show Tryd.prog.wantsStandIn t = false by simpa using List.all_eq_true.1 hall t hm)⟩)
    (by kernel_rfl)
end Go.Proofs.YtmbclnaenjcocaaDoor
