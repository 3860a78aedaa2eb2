/-
  DutiesStand: the row and the tied card.
-/
import Derived.Test.YtkaeolcchhneoaaGreatDoorSents
import Derived.Test.YtkaeolcchhneoaaGreatDoorCalCardX
import Derived.Test.YtkaeolcchhneoaaGreatDoorDuStand
import Derived.Test.YtkaeolcchhneoaaGreatDoorDuR2
import Derived.Test.YtkaeolcchhneoaaGreatDoorTie
import Derived.Test.YtkaeolcchhneoaaGreatDoorCards
import Derived.ChangeMaps5
import Derived.Lib.LaidU8
import Derived.MakeChecks
import Derived.LaidMore
import Derived.HandedShaped
namespace Go.Proofs.YtkaeolcchhneoaaGreatDoor
open Go.ChangeShapes Go.WideShapes Go.ChangeAt Go.WideMaps Go.WideElems Go.RowKit

theorem dutiesStand_laid {W : World} (h : laidMetH Tryz.prog Rows.dutiesStandRow.laid W) : ∃ p, Laid W p := by
  obtain ⟨h1, h2⟩ := laidMetH_split (rest := sentList.map (fun x => (x.1, sentD x.2.2)) ++ []) (h := ("errors.errorType", Rows.laid_errors_errorType)) (hs := []) (by kernel_rfl) (by kernel_rfl) h
  exact laid_of h1 h2
theorem codeMN (k : Option Nat) : codeN k = codeM k := by cases k <;> rfl
theorem dutiesStand_door (os : Os) (args : Array Value) : laidMetH Tryz.prog Rows.dutiesStandRow.laid ((World.doorLaid Tryz.prog 400 os).forCall (fun _ _ => 0) ⟨#[], args, []⟩).memory :=
  laidMetH_of_parts3 (fuel := 8) (laidMet_of_run' 8 (by kernel_rfl) (by kernel_rfl)) (by kernel_rfl) (by kernel_rfl)
set_option maxRecDepth 100000 in
theorem dutiesStand_lifted (os : Os) (started : os.Started) (H : Type) (enc : TypeId × Value → H) :
    ReturnsInHanded {} Tryz.checked os 3 .any (fun w args => (Rows.dutiesStandSpec.pre enc Tryz.prog Tryz.f3 [] false w args ∧ laidMetH Tryz.prog Rows.dutiesStandRow.laid w) ∧ sizedMet enc Tryz.prog Tryz.f3 (OpenSpec.ofChange Rows.dutiesStandSpec) false w args)
      (Rows.dutiesStandSpec.post enc Tryz.prog Tryz.f3 false true false false) := by
  refine returnsInHanded_of_change_and (C := Tryz.checked) (X := fun w _ => laidMetH Tryz.prog Rows.dutiesStandRow.laid w) (fun _ _ _ hh h => h.of_heap hh) Tryz.ownAll started (by kernel_rfl) Tryz.func3
    (ChangeSpec.witness_shaped (enc := enc) (C := Tryz.checked) (os := os) (X := fun w _ => laidMetH Tryz.prog Rows.dutiesStandRow.laid w) false (World.doorLaid Tryz.prog 400 os) #[.slice none 0 0, .slice none 0 0, .agg #[.slice none 0 0, .slice none 0 0], .int .i64 0] 8 rfl (World.shaped_of_RefB (by kernel_rfl) (by kernel_rfl)) (by kernel_rfl) (by kernel_rfl) (by kernel_rfl) (dutiesStand_door os _)) ?_
  intro W base args ds gs before hval0 hW _ hwt hL _
  have hW' := hW
  obtain ⟨p, q, hA0, hV, rfl, hfz, hnd⟩ := hW
  have hA : DataW.TrodAll enc Tryz.prog W 0 (fun _ => true) true Tryz.f3.params.toList args.toList ds p := hA0
  have hlt := DataW.TrodAll.lt hA
  rw [Tryz.params3] at hA
  have hval : ∀ (j : Nat) t v, Tryz.f3.params[j]? = some t → args[j]? = some v → Value.okWide Tryz.prog W .any base t v := hval0
  rw [Tryz.params3] at hval
  obtain ⟨v0, vs, d0, ds', p0, q0, hargs, rfl, rfl, h0, hrest⟩ := trodAll_cons hA
  obtain ⟨v1, vs1, d1, ds1, p1, q1, rfl, rfl, rfl, h1, hrest1⟩ := trodAll_cons hrest
  obtain ⟨v2, vs2, d2, ds2, p2, q2, rfl, rfl, rfl, h2, hrest2⟩ := trodAll_cons hrest1
  obtain ⟨v3, vs3, d3, ds3, p3, q3, rfl, rfl, rfl, h3, hrest3⟩ := trodAll_cons hrest2
  obtain ⟨rfl, rfl, rfl⟩ := trodAll_nil hrest3
  obtain rfl : args = #[v0, v1, v2, v3] := by cases args; simp_all
  obtain ⟨rfl, rfl⟩ := trodVars_none hV
  have h9 : (d0.weights Tryz.prog 22 ++ (d1.weights Tryz.prog 23 ++ (d2.weights Tryz.prog 27 ++ (d3.weights Tryz.prog 3 ++ DataW.weightsEach Tryz.prog _ [])))).all (· ≤ reachBytes) = true := hwt
  have hw0 : ∀ z, z ∈ d0.weights Tryz.prog 22 → z ≤ reachBytes := fun z hz => by
    have := List.all_eq_true.1 h9 z (List.mem_append_left _ hz)
    simpa using this
  have hw1 : ∀ z, z ∈ d1.weights Tryz.prog 23 → z ≤ reachBytes := fun z hz => by
    have := List.all_eq_true.1 h9 z (List.mem_append_right _ (List.mem_append_left _ hz))
    simpa using this
  obtain ⟨pp, hpp⟩ := dutiesStand_laid hL
  obtain ⟨sa, sn, sc, l, rfl, hsr⟩ := duties_arg (hval 0 22 v0 rfl rfl) h0 hw0
  obtain ⟨ta, tn, tc, ev, rfl, htr⟩ := events_arg (hval 1 23 v1 rfl rfl) h1 hw1
  obtain ⟨oa, ha, nO, cO, nH, cH, B, xs, rfl, hca⟩ := cal_arg (hval 2 27 v2 rfl rfl) h2
  obtain ⟨n2, rfl, rfl, rfl, hq2⟩ := open_int Tryz.underlying3 (hval 3 3 v3 rfl rfl) h3
  have hb0 := dutiesStand_w (on := n2) (cO := cO) hsr htr hca hpp (fun F W' b v hG hW2 hC => by
    rw [← codeMN]
    exact rValid_p (hsr.below hW2) (htr.below hW2) hW2.size hC hG)
  clear hA0 hval0
  simp only [List.append_nil] at hW'
  refine hb0.mono fun e W' ⟨he, hb⟩ => ?_
  subst he
  have e1 : Rows.dutiesStandSpec.fn H ([d0, d1, d2, .lit (.int .i64 n2)] ++ []) = { results := [.lit (.bool true)], args := [d0, d1, d2, .lit (.int .i64 n2)] } := rfl
  refine ⟨_, rfl, _, _, _, [], p0 ++ (p1 ++ p2), [], hW', ?_, ?_, ?_, hb.frame _, fun h => by cases h⟩
  · rw [e1]; exact trodAll_mk1 (shut_bool Tryz.underlying4 true)
  · rw [e1]
    have := trodAll_mk4 (Below.trod Tryz.laidOutAll (by kernel_rfl) (of_decide_eq_true (by kernel_rfl)) h0 hb (fun x hx => hlt x (by simp only [List.mem_append]; simp [hx]))) (Below.trod Tryz.laidOutAll (by kernel_rfl) (of_decide_eq_true (by kernel_rfl)) h1 hb (fun x hx => hlt x (by simp only [List.mem_append]; simp [hx]))) (Below.trod Tryz.laidOutAll (by kernel_rfl) (of_decide_eq_true (by kernel_rfl)) h2 hb (fun x hx => hlt x (by simp only [List.mem_append]; simp [hx]))) (shut_int Tryz.underlying3 hq2)
    simp only [List.append_nil] at this
    exact this
  · rw [e1]; rfl

theorem dutiesStand_row : Rows.DutiesStandSaid :=
  OpenClaim.holds_of_wide 3 Tryz.f3 rfl rfl rfl rfl rfl rfl rfl ⟨rfl, rfl, rfl, rfl, rfl⟩ rfl rfl rfl rfl rfl (by kernel_rfl) Tryz.func3 (by kernel_rfl)
    (of_decide_eq_true (by kernel_rfl)) (by unfold Func.isWrapper; rw [if_neg (of_decide_eq_false (by kernel_rfl))]; exact ⟨rfl, rfl⟩)
    (fun os started H enc _ => dutiesStand_lifted os started H enc)

theorem dutiesStand_holds : Rows.DutiesStandCardSaid :=
  Claim7.holds_tied_plain_at .later [] [.handle, .sentinel, .sentinel, .sentinel, .sentinel, .sentinel, .sentinel, .sentinel, .sentinel, .sentinel, .sentinel, .sentinel] true (true, "f1c21298d8dff112e8dcd26f86f5225da852e0198d60d975f2404908e532c243") true
    dutiesStand_row (fun _ h => by cases h) (by kernel_rfl) (fun _ h => by cases h) dutiesStand_row_tie rfl ⟨rfl, rfl⟩ (by kernel_rfl) rfl
    (fun f fn hf hfn => by
      obtain rfl : f = 3 := Option.some.inj ((show Tryz.prog.funcNamed "statute/statutelaw5.DutiesStand" = some 3 by kernel_rfl).symm.trans hf) |>.symm
      obtain rfl : fn = Tryz.f3 := (Option.some.inj (Tryz.func3.symm.trans hfn)).symm
      exact ⟨by kernel_rfl, fun j t ht => by
        rw [Tryz.params3] at ht
        have hm : t ∈ [22, 23, 27, 3] := by
          have := Array.mem_of_getElem? ht
          simpa using this
        have hall : ([22, 23, 27, 3].all fun u => !Tryz.prog.wantsStandIn u) = true := by kernel_rfl
        exact (show Tryz.prog.wantsStandIn t = false by simpa using List.all_eq_true.1 hall t hm)⟩)
    (by kernel_rfl)
end Go.Proofs.YtkaeolcchhneoaaGreatDoor
