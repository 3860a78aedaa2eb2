/-
  CasesEnd: the row and the tied card.
-/
import Derived.Test.YtpijiglmjkdlgaaDoorCsSent
import Derived.Test.YtpijiglmjkdlgaaDoorCsArg
import Derived.Test.YtpijiglmjkdlgaaDoorGA
import Derived.Test.YtpijiglmjkdlgaaDoorTie
import Derived.Test.YtpijiglmjkdlgaaDoorCards
import Derived.ChangeMaps5
import Derived.Lib.LaidU8
import Derived.MakeChecks
import Derived.LaidMore
import Derived.HandedShaped
namespace Go.Proofs.YtpijiglmjkdlgaaDoor
open Go.ChangeShapes Go.WideShapes Go.ChangeAt Go.WideMaps Go.WideElems Go.RowKit

theorem casesEnd_door (os : Os) (args : Array Value) : laidMetH Tryd.prog Rows.casesEndRow.laid ((World.doorLaid Tryd.prog 400 os).forCall (fun _ _ => 0) ⟨#[], args, []⟩).memory :=
  laidMetH_of_parts3 (fuel := 8) (laidMet_of_run' 8 (by kernel_rfl) (by kernel_rfl)) (by kernel_rfl) (by kernel_rfl)
set_option maxRecDepth 100000 in
theorem casesEnd_lifted (os : Os) (started : os.Started) (H : Type) (enc : TypeId × Value → H) :
    ReturnsInHanded {} Tryd.checked os 3 .any (fun w args => (Rows.casesEndSpec.pre enc Tryd.prog Tryd.f3 [] false w args ∧ laidMetH Tryd.prog Rows.casesEndRow.laid w) ∧ sizedMet enc Tryd.prog Tryd.f3 (OpenSpec.ofChange Rows.casesEndSpec) false w args)
      (Rows.casesEndSpec.post enc Tryd.prog Tryd.f3 false true false false) := by
  refine returnsInHanded_of_change_and (C := Tryd.checked) (X := fun w _ => laidMetH Tryd.prog Rows.casesEndRow.laid w) (fun _ _ _ hh h => h.of_heap hh) Tryd.ownAll started (by kernel_rfl) Tryd.func3
    (ChangeSpec.witness_shaped (enc := enc) (C := Tryd.checked) (os := os) (X := fun w _ => laidMetH Tryd.prog Rows.casesEndRow.laid w) false (World.doorLaid Tryd.prog 400 os) #[.pointer none, .int .i64 0, .slice none 0 0] 8 rfl (World.shaped_of_RefB (by kernel_rfl) (by kernel_rfl)) (by kernel_rfl) (by kernel_rfl) (by kernel_rfl) (casesEnd_door os _)) ?_
  intro W base args ds gs before hval0 hW _ hwt hL _
  have hW' := hW
  obtain ⟨p, q, hA0, hV, rfl, hfz, hnd⟩ := hW
  have hA : DataW.TrodAll enc Tryd.prog W 0 (fun _ => true) true Tryd.f3.params.toList args.toList ds p := hA0
  have hlt := DataW.TrodAll.lt hA
  rw [Tryd.params3] at hA
  have hval : ∀ (j : Nat) t v, Tryd.f3.params[j]? = some t → args[j]? = some v → Value.okWide Tryd.prog W .any base t v := hval0
  rw [Tryd.params3] at hval
  obtain ⟨v0, vs, d0, ds', p0, q0, hargs, rfl, rfl, h0, hrest⟩ := trodAll_cons hA
  obtain ⟨v1, vs1, d1, ds1, p1, q1, rfl, rfl, rfl, h1, hrest1⟩ := trodAll_cons hrest
  obtain ⟨v2, vs2, d2, ds2, p2, q2, rfl, rfl, rfl, h2, hrest2⟩ := trodAll_cons hrest1
  obtain ⟨rfl, rfl, rfl⟩ := trodAll_nil hrest2
  obtain rfl : args = #[v0, v1, v2] := by cases args; simp_all
  obtain ⟨rfl, rfl⟩ := trodVars_none hV
  have h9 : (d0.weights Tryd.prog 22 ++ (d1.weights Tryd.prog 3 ++ (d2.weights Tryd.prog 23 ++ DataW.weightsEach Tryd.prog _ []))).all (· ≤ reachBytes) = true := hwt
  have hw0 : ∀ z, z ∈ d0.weights Tryd.prog 22 → z ≤ reachBytes := fun z hz => by
    have := List.all_eq_true.1 h9 z (List.mem_append_left _ hz)
    simpa using this
  have hw2 : ∀ z, z ∈ d2.weights Tryd.prog 23 → z ≤ reachBytes := fun z hz => by
    have := List.all_eq_true.1 h9 z (List.mem_append_right _ (List.mem_append_right _ (List.mem_append_left _ hz)))
    simpa using this
  obtain ⟨pp, hpp⟩ := csEnd_laid hL
  obtain ⟨n1, rfl, rfl, rfl, hq1⟩ := open_int Tryd.underlying3 (hval 1 3 v1 rfl rfl) h1
  obtain ⟨na, nn, nc, ns, rfl, hns⟩ := names_arg (hval 2 23 v2 rfl rfl) h2 hw2
  have hb0 : Calls Tryd.prog 3 #[v0, .int .i64 n1, .slice na nn nc] W (TrueR W) := by
    rcases plan_arg (hval 0 22 v0 rfl rfl) h0 hw0 with rfl | ⟨pb, po, p, pf, pm, rfl, hP, hz⟩
    · exact end_nil hpp n1 _
    · exact end_l hP hz hns hpp n1
  clear hA0 hval0
  simp only [List.append_nil] at hW'
  refine hb0.mono fun e W' ⟨he, hb⟩ => ?_
  subst he
  have e1 : Rows.casesEndSpec.fn H ([d0, .lit (.int .i64 n1), d2] ++ []) = { results := [.lit (.bool true)], args := [d0, .lit (.int .i64 n1), d2] } := rfl
  refine ⟨_, rfl, _, _, _, [], p0 ++ p2, [], hW', ?_, ?_, ?_, hb.frame _, fun h => by cases h⟩
  · rw [e1]; exact trodAll_mk1 (shut_bool Tryd.underlying4 true)
  · rw [e1]
    have := trodAll_mk3 (Below.trod Tryd.laidOutAll (by kernel_rfl) (of_decide_eq_true (by kernel_rfl)) h0 hb (fun x hx => hlt x (by simp only [List.mem_append]; simp [hx]))) (shut_int Tryd.underlying3 hq1) (Below.trod Tryd.laidOutAll (by kernel_rfl) (of_decide_eq_true (by kernel_rfl)) h2 hb (fun x hx => hlt x (by simp only [List.mem_append]; simp [hx])))
    first | exact this | simpa using this
  · rw [e1]; rfl

theorem casesEnd_row : Rows.CasesEndSaid :=
  OpenClaim.holds_of_wide 3 Tryd.f3 rfl rfl rfl rfl rfl rfl rfl ⟨rfl, rfl, rfl, rfl, rfl⟩ rfl rfl rfl rfl rfl (by kernel_rfl) Tryd.func3 (by kernel_rfl)
    (of_decide_eq_true (by kernel_rfl)) (by unfold Func.isWrapper; rw [if_neg (of_decide_eq_false (by kernel_rfl))]; exact ⟨rfl, rfl⟩)
    (fun os started H enc _ => casesEnd_lifted os started H enc)

theorem casesEnd_holds : Rows.CasesEndCardSaid :=
  Claim7.holds_tied_plain_at .later [] [.sentinel, .sentinel, .sentinel, .sentinel, .sentinel, .sentinel] true (true, "3794494a9d9d9156ba5b09c70ec49b32b69b7933a37f79eb11c465aca95305f1") false
    casesEnd_row (fun _ h => by cases h) (by kernel_rfl) (fun _ h => by cases h) casesEnd_row_tie rfl ⟨rfl, rfl⟩ (by kernel_rfl) rfl
    (fun f fn hf hfn => by
      obtain rfl : f = 3 := Option.some.inj ((show Tryd.prog.funcNamed "statute/statutelaw5.CasesEnd" = some 3 by kernel_rfl).symm.trans hf) |>.symm
      obtain rfl : fn = Tryd.f3 := (Option.some.inj (Tryd.func3.symm.trans hfn)).symm
      exact ⟨by kernel_rfl, fun j t ht => by
        rw [Tryd.params3] at ht
        have hm : t ∈ [22, 3, 23] := by
          have := Array.mem_of_getElem? ht
          simpa using this
        have hall : ([22, 3, 23].all fun u => !Tryd.prog.wantsStandIn u) = true := by kernel_rfl
        exact (show Tryd.prog.wantsStandIn t = false by simpa using List.all_eq_true.1 hall t hm)⟩)
    (by kernel_rfl)
end Go.Proofs.YtpijiglmjkdlgaaDoor
