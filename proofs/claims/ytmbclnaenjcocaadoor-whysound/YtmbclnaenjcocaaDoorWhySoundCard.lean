/-
  WhySound: the row and the tied card.
-/
import Derived.Test.YtmbclnaenjcocaaDoorRsSent
import Derived.Test.YtmbclnaenjcocaaDoorWhArg
import Derived.Test.YtmbclnaenjcocaaDoorWhSnd
import Derived.Test.YtmbclnaenjcocaaDoorTie
import Derived.Test.YtmbclnaenjcocaaDoorCards
import Derived.ChangeMaps5
namespace Go.Proofs.YtmbclnaenjcocaaDoor
open Go.ChangeShapes Go.WideShapes Go.ChangeAt Go.WideMaps Go.WideElems Go.RowKit

theorem sound_laid {W : World} (h : laidMetH Tryd.prog Rows.whySoundRow.laid W) : ∃ p, Sent4 W p := by
  rw [Go.MakeChecks.laidMetH_plain _ _ _ (by kernel_rfl)] at h
  have e : Rows.whySoundRow.laid = sentList.map (fun x => (x.1, sentD x.2.2)) ++ [] := by kernel_rfl
  rw [e] at h
  exact sent4 h
theorem whySound_door (os : Os) (args : Array Value) : laidMetH Tryd.prog Rows.whySoundRow.laid ((World.doorLaid Tryd.prog 400 os).forCall (fun _ _ => 0) ⟨#[], args, []⟩).memory :=
  laidMetH_of_parts3 (fuel := 8) (laidMet_of_run' 8 (by kernel_rfl) (by kernel_rfl)) (by kernel_rfl) (by kernel_rfl)
set_option maxRecDepth 100000 in
theorem whySound_lifted (os : Os) (started : os.Started) (H : Type) (enc : TypeId × Value → H) :
    ReturnsInHanded {} Tryd.checked os 7 .any (fun w args => (Rows.whySoundSpec.pre enc Tryd.prog Tryd.f7 [] false w args ∧ laidMetH Tryd.prog Rows.whySoundRow.laid w) ∧ sizedMet enc Tryd.prog Tryd.f7 (OpenSpec.ofChange Rows.whySoundSpec) false w args)
      (Rows.whySoundSpec.post enc Tryd.prog Tryd.f7 false true false false) := by
  refine returnsInHanded_of_change_and (C := Tryd.checked) (X := fun w _ => laidMetH Tryd.prog Rows.whySoundRow.laid w) (fun _ _ _ hh h => h.of_heap hh) Tryd.ownAll started (by kernel_rfl) Tryd.func7
    (ChangeSpec.witness_shaped (enc := enc) (C := Tryd.checked) (os := os) (X := fun w _ => laidMetH Tryd.prog Rows.whySoundRow.laid w) false (World.doorLaid Tryd.prog 400 os) #[.pointer none, .slice none 0 0] 8 rfl (World.shaped_of_RefB (by kernel_rfl) (by kernel_rfl)) (by kernel_rfl) (by kernel_rfl) (by kernel_rfl) (whySound_door os _)) ?_
  intro W base args ds gs before hval0 hW _ hwt hL _
  have hW' := hW
  obtain ⟨p, q, hA0, hV, rfl, hfz, hnd⟩ := hW
  have hA : DataW.TrodAll enc Tryd.prog W 0 (fun _ => true) true Tryd.f7.params.toList args.toList ds p := hA0
  have hlt := DataW.TrodAll.lt hA
  rw [Tryd.params7] at hA
  have hval : ∀ (j : Nat) t v, Tryd.f7.params[j]? = some t → args[j]? = some v → Value.okWide Tryd.prog W .any base t v := hval0
  rw [Tryd.params7] at hval
  obtain ⟨v0, vs, d0, ds', p0, q0, hargs, rfl, rfl, h0, hrest⟩ := trodAll_cons hA
  obtain ⟨v1, vs1, d1, ds1, p1, q1, rfl, rfl, rfl, h1, hrest1⟩ := trodAll_cons hrest
  obtain ⟨rfl, rfl, rfl⟩ := trodAll_nil hrest1
  obtain rfl : args = #[v0, v1] := by cases args; simp_all
  obtain ⟨rfl, rfl⟩ := trodVars_none hV
  have hwa : ∀ z, z ∈ d0.weights Tryd.prog 22 ++ (d1.weights Tryd.prog 49 ++ DataW.weightsEach Tryd.prog _ []) → z ≤ reachBytes := fun z hz => by
    have h9 : (d0.weights Tryd.prog 22 ++ (d1.weights Tryd.prog 49 ++ DataW.weightsEach Tryd.prog _ [])).all (· ≤ reachBytes) = true := hwt
    have := List.all_eq_true.1 h9 z hz
    simpa using this
  obtain ⟨pp, hpp⟩ := sound_laid hL
  obtain ⟨sa, sn, sc, l, rfl, hsn, hsr⟩ := steps_arg (hval 1 49 v1 rfl rfl) h1 (fun z hz => hwa z (List.mem_append_right _ (List.mem_append_left _ hz)))
  have hb0 : Calls Tryd.prog 7 #[v0, .slice sa sn sc] W fun e w' => e = .returned (.bool true) ∧ Below W.heap.size W w' := by
    rcases thy_arg (hval 0 22 v0 rfl rfl) h0 (fun z hz => hwa z (List.mem_append_left _ hz)) with rfl | ⟨pb, po, T, rv, ov, rfl, hTP⟩
    · exact sound_none hpp sa sn sc
    · exact sound_w hpp hTP (Nat.le_refl _) hsr hsn
  clear hA0 hval0
  simp only [List.append_nil] at hW'
  refine hb0.mono fun e W' ⟨he, hb⟩ => ?_
  subst he
  have e1 : Rows.whySoundSpec.fn H ([d0, d1] ++ []) = { results := [.lit (.bool true)], args := [d0, d1] } := rfl
  refine ⟨_, rfl, _, _, _, [], p0 ++ p1, [], hW', ?_, ?_, ?_, hb.frame _, fun h => by cases h⟩
  · rw [e1]; exact trodAll_mk1 (shut_bool Tryd.underlying4 true)
  · rw [e1]
    exact trodAll_mk2 (Below.trod Tryd.laidOutAll (by kernel_rfl) (of_decide_eq_true (by kernel_rfl)) h0 hb (fun x hx => hlt x (by simp only [List.mem_append]; simp [hx]))) (Below.trod Tryd.laidOutAll (by kernel_rfl) (of_decide_eq_true (by kernel_rfl)) h1 hb (fun x hx => hlt x (by simp only [List.mem_append]; simp [hx])))
  · rw [e1]; rfl

theorem whySound_row : Rows.WhySoundSaid :=
  OpenClaim.holds_of_wide 7 Tryd.f7 rfl rfl rfl rfl rfl rfl rfl ⟨rfl, rfl, rfl, rfl, rfl⟩ rfl rfl rfl rfl rfl (by kernel_rfl) Tryd.func7 (by kernel_rfl)
    (of_decide_eq_true (by kernel_rfl)) (by unfold Func.isWrapper; rw [if_neg (of_decide_eq_false (by kernel_rfl))]; exact ⟨rfl, rfl⟩)
    (fun os started H enc _ => whySound_lifted os started H enc)

theorem whySound_holds : Rows.WhySoundCardSaid :=
  Claim7.holds_tied_plain_at .later [] [.sentinel, .sentinel, .sentinel, .sentinel] true (true, "71476ba5c33518461cf7b599b85a66c6fd858181a2e35207b44b17c2c29b0486") true
    whySound_row (fun _ h => by cases h) (by kernel_rfl) (fun _ h => by cases h) whySound_row_tie rfl ⟨rfl, rfl⟩ (by kernel_rfl) rfl
    (fun f fn hf hfn => by
      obtain rfl : f = 7 := Option.some.inj ((show Tryd.prog.funcNamed "statute/statutelaw4.WhySound" = some 7 by kernel_rfl).symm.trans hf) |>.symm
      obtain rfl : fn = Tryd.f7 := (Option.some.inj (Tryd.func7.symm.trans hfn)).symm
      exact ⟨by kernel_rfl, fun j t ht => by
        rw [Tryd.params7] at ht
        have hm : t ∈ [22, 49] := by
          have := Array.mem_of_getElem? ht
          simpa using this
        have hall : ([22, 49].all fun u => !Tryd.prog.wantsStandIn u) = true := by kernel_rfl
        exact (show Tryd.prog.wantsStandIn t = false by simpa using List.all_eq_true.1 hall t hm)⟩)
    (by kernel_rfl)
end Go.Proofs.YtmbclnaenjcocaaDoor
