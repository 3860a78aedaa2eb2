/-
  ReasonTotal: the row and the tied card.
-/
import Derived.Test.YtmbclnaenjcocaaDoorRsSent
import Derived.Test.YtmbclnaenjcocaaDoorRsArg
import Derived.Test.YtmbclnaenjcocaaDoorRsTotal
import Derived.Test.YtmbclnaenjcocaaDoorTie
import Derived.Test.YtmbclnaenjcocaaDoorCards
import Derived.ChangeMaps5
namespace Go.Proofs.YtmbclnaenjcocaaDoor
open Go.ChangeShapes Go.WideShapes Go.ChangeAt Go.WideMaps Go.WideElems Go.RowKit

theorem reasonTotal_door (os : Os) (args : Array Value) : laidMetH Tryd.prog Rows.reasonTotalRow.laid ((World.doorLaid Tryd.prog 400 os).forCall (fun _ _ => 0) ⟨#[], args, []⟩).memory :=
  laidMetH_of_parts3 (fuel := 8) (laidMet_of_run' 8 (by kernel_rfl) (by kernel_rfl)) (by kernel_rfl) (by kernel_rfl)
set_option maxRecDepth 100000 in
theorem reasonTotal_lifted (os : Os) (started : os.Started) (H : Type) (enc : TypeId × Value → H) :
    ReturnsInHanded {} Tryd.checked os 5 .any (fun w args => (Rows.reasonTotalSpec.pre enc Tryd.prog Tryd.f5 [] false w args ∧ laidMetH Tryd.prog Rows.reasonTotalRow.laid w) ∧ sizedMet enc Tryd.prog Tryd.f5 (OpenSpec.ofChange Rows.reasonTotalSpec) false w args)
      (Rows.reasonTotalSpec.post enc Tryd.prog Tryd.f5 false true false false) := by
  refine returnsInHanded_of_change_and (C := Tryd.checked) (X := fun w _ => laidMetH Tryd.prog Rows.reasonTotalRow.laid w) (fun _ _ _ hh h => h.of_heap hh) Tryd.ownAll started (by kernel_rfl) Tryd.func5
    (ChangeSpec.witness_shaped (enc := enc) (C := Tryd.checked) (os := os) (X := fun w _ => laidMetH Tryd.prog Rows.reasonTotalRow.laid w) false (World.doorLaid Tryd.prog 400 os) #[.pointer none] 8 rfl (World.shaped_of_RefB (by kernel_rfl) (by kernel_rfl)) (by kernel_rfl) (by kernel_rfl) (by kernel_rfl) (reasonTotal_door os _)) ?_
  intro W base args ds gs before hval0 hW _ hwt hL _
  have hW' := hW
  obtain ⟨p, q, hA0, hV, rfl, hfz, hnd⟩ := hW
  have hA : DataW.TrodAll enc Tryd.prog W 0 (fun _ => true) true Tryd.f5.params.toList args.toList ds p := hA0
  have hlt := DataW.TrodAll.lt hA
  rw [Tryd.params5] at hA
  have hval : ∀ (j : Nat) t v, Tryd.f5.params[j]? = some t → args[j]? = some v → Value.okWide Tryd.prog W .any base t v := hval0
  rw [Tryd.params5] at hval
  obtain ⟨v0, vs, d0, ds', p0, q0, hargs, rfl, rfl, h0, hrest⟩ := trodAll_cons hA
  obtain ⟨rfl, rfl, rfl⟩ := trodAll_nil hrest
  obtain rfl : args = #[v0] := by cases args; simp_all
  obtain ⟨rfl, rfl⟩ := trodVars_none hV
  have hwt0 : ∀ z ∈ d0.weights Tryd.prog 22, z ≤ reachBytes := fun z hz => by
    have h9 : (d0.weights Tryd.prog 22 ++ DataW.weightsEach Tryd.prog _ []).all (· ≤ reachBytes) = true := hwt
    have := List.all_eq_true.1 h9 z (List.mem_append_left _ hz)
    simpa using this
  obtain ⟨pp, hpp⟩ := total_laid hL
  have hb0 : Calls Tryd.prog 5 #[v0] W fun e w' => e = .returned (.bool true) ∧ Below W.heap.size W w' := by
    rcases thy_arg (hval 0 22 v0 rfl rfl) h0 hwt0 with rfl | ⟨pb, po, T, rv, ov, rfl, hTP⟩
    · exact total_none hpp
    · exact total_w hpp hTP (Nat.le_refl _)
  clear hA0 hval0
  simp only [List.append_nil] at hW'
  refine hb0.mono fun e W' ⟨he, hb⟩ => ?_
  subst he
  have e1 : Rows.reasonTotalSpec.fn H ([d0] ++ []) = { results := [.lit (.bool true)], args := [d0] } := rfl
  refine ⟨_, rfl, _, _, _, [], p0, [], hW', ?_, ?_, ?_, hb.frame _, fun h => by cases h⟩
  · rw [e1]; exact trodAll_mk1 (shut_bool Tryd.underlying4 true)
  · rw [e1]
    exact trodAll_mk1 (Below.trod Tryd.laidOutAll (by kernel_rfl) (of_decide_eq_true (by kernel_rfl)) h0 hb (fun x hx => hlt x (by simpa using hx)))
  · rw [e1]; rfl

theorem reasonTotal_row : Rows.ReasonTotalSaid :=
  OpenClaim.holds_of_wide 5 Tryd.f5 rfl rfl rfl rfl rfl rfl rfl ⟨rfl, rfl, rfl, rfl, rfl⟩ rfl rfl rfl rfl rfl (by kernel_rfl) Tryd.func5 (by kernel_rfl)
    (of_decide_eq_true (by kernel_rfl)) (by unfold Func.isWrapper; rw [if_neg (of_decide_eq_false (by kernel_rfl))]; exact ⟨rfl, rfl⟩)
    (fun os started H enc _ => reasonTotal_lifted os started H enc)

theorem reasonTotal_holds : Rows.ReasonTotalCardSaid :=
  Claim7.holds_tied_plain_at .later [] [.sentinel, .sentinel, .sentinel, .sentinel] true (true, "71476ba5c33518461cf7b599b85a66c6fd858181a2e35207b44b17c2c29b0486") true
    reasonTotal_row (fun _ h => by cases h) (by kernel_rfl) (fun _ h => by cases h) reasonTotal_row_tie rfl ⟨rfl, rfl⟩ (by kernel_rfl) rfl
    (fun f fn hf hfn => by
      obtain rfl : f = 5 := Option.some.inj ((show Tryd.prog.funcNamed "statute/statutelaw4.ReasonTotal" = some 5 by kernel_rfl).symm.trans hf) |>.symm
      obtain rfl : fn = Tryd.f5 := (Option.some.inj (Tryd.func5.symm.trans hfn)).symm
      exact ⟨by kernel_rfl, fun j t ht => by
        rw [Tryd.params5] at ht
        have hm : t ∈ [22] := by
          have := Array.mem_of_getElem? ht
          simpa using this
        have hall : ([22].all fun u => !Tryd.prog.wantsStandIn u) = true := by kernel_rfl
        exact (show Tryd.prog.wantsStandIn t = false by simpa using List.all_eq_true.1 hall t hm)⟩)
    (by kernel_rfl)
end Go.Proofs.YtmbclnaenjcocaaDoor
