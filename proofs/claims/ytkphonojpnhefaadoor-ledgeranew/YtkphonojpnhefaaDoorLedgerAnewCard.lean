/-
  LedgerAnew: the row and the tied card.
-/
import Derived.Test.YtkphonojpnhefaaDoorLeSent
import Derived.Test.YtkphonojpnhefaaDoorLeArg
import Derived.Test.YtkphonojpnhefaaDoorLeAnew
import Derived.Test.YtkphonojpnhefaaDoorTie
import Derived.Test.YtkphonojpnhefaaDoorCards
import Derived.ChangeMaps5
import Derived.Lib.LaidU8
import Derived.MakeChecks
import Derived.LaidMore
import Derived.HandedShaped
namespace Go.Proofs.YtkphonojpnhefaaDoor
open Go.ChangeShapes Go.WideShapes Go.ChangeAt Go.WideMaps Go.WideElems Go.RowKit

theorem ledgerAnew_door (os : Os) (args : Array Value) : laidMetH Tryd.prog Rows.ledgerAnewRow.laid ((World.doorLaid Tryd.prog 400 os).forCall (fun _ _ => 0) ⟨#[], args, []⟩).memory :=
  laidMetH_of_parts3 (fuel := 8) (laidMet_of_run' 8 (by kernel_rfl) (by kernel_rfl)) (by kernel_rfl) (by kernel_rfl)
set_option maxRecDepth 100000 in
theorem ledgerAnew_lifted (os : Os) (started : os.Started) (H : Type) (enc : TypeId × Value → H) :
    ReturnsInHanded {} Tryd.checked os 4 .any (fun w args => (Rows.ledgerAnewSpec.pre enc Tryd.prog Tryd.f4 [] false w args ∧ laidMetH Tryd.prog Rows.ledgerAnewRow.laid w) ∧ sizedMet enc Tryd.prog Tryd.f4 (OpenSpec.ofChange Rows.ledgerAnewSpec) false w args)
      (Rows.ledgerAnewSpec.post enc Tryd.prog Tryd.f4 false true false false) := by
  refine returnsInHanded_of_change_and (C := Tryd.checked) (X := fun w _ => laidMetH Tryd.prog Rows.ledgerAnewRow.laid w) (fun _ _ _ hh h => h.of_heap hh) Tryd.ownAll started (by kernel_rfl) Tryd.func4
    (ChangeSpec.witness_shaped (enc := enc) (C := Tryd.checked) (os := os) (X := fun w _ => laidMetH Tryd.prog Rows.ledgerAnewRow.laid w) false (World.doorLaid Tryd.prog 400 os) #[.slice none 0 0, .int .i64 0] 8 rfl (World.shaped_of_RefB (by kernel_rfl) (by kernel_rfl)) (by kernel_rfl) (by kernel_rfl) (by kernel_rfl) (ledgerAnew_door os _)) ?_
  intro W base args ds gs before hval0 hW _ hwt hL _
  have hW' := hW
  obtain ⟨p, q, hA0, hV, rfl, hfz, hnd⟩ := hW
  have hA : DataW.TrodAll enc Tryd.prog W 0 (fun _ => true) true Tryd.f4.params.toList args.toList ds p := hA0
  have hlt := DataW.TrodAll.lt hA
  rw [Tryd.params4] at hA
  have hval : ∀ (j : Nat) t v, Tryd.f4.params[j]? = some t → args[j]? = some v → Value.okWide Tryd.prog W .any base t v := hval0
  rw [Tryd.params4] at hval
  obtain ⟨v0, vs, d0, ds', p0, q0, hargs, rfl, rfl, h0, hrest⟩ := trodAll_cons hA
  obtain ⟨v1, vs1, d1, ds1, p1, q1, rfl, rfl, rfl, h1, hrest1⟩ := trodAll_cons hrest
  obtain ⟨rfl, rfl, rfl⟩ := trodAll_nil hrest1
  obtain rfl : args = #[v0, v1] := by cases args; simp_all
  obtain ⟨rfl, rfl⟩ := trodVars_none hV
  have hwa : ∀ z, z ∈ d0.weights Tryd.prog 22 → z ≤ reachBytes := fun z hz => by
    have h9 : (d0.weights Tryd.prog 22 ++ (d1.weights Tryd.prog 3 ++ DataW.weightsEach Tryd.prog _ [])).all (· ≤ reachBytes) = true := hwt
    have := List.all_eq_true.1 h9 z (List.mem_append_left _ hz)
    simpa using this
  obtain ⟨pp, hpp⟩ := leAnew_laid hL
  obtain ⟨sa, sn, sc, l, rfl, hsr⟩ := claims_arg (hval 0 22 v0 rfl rfl) h0 hwa
  obtain ⟨n1, rfl, rfl, rfl, hw1⟩ := open_int Tryd.underlying3 (hval 1 3 v1 rfl rfl) h1
  have hb0 := anew_walk (rate := n1) hsr hpp
  clear hA0 hval0
  simp only [List.append_nil] at hW'
  refine hb0.mono fun e W' ⟨he, hb⟩ => ?_
  subst he
  have e1 : Rows.ledgerAnewSpec.fn H ([d0, .lit (.int .i64 n1)] ++ []) = { results := [.lit (.bool true)], args := [d0, .lit (.int .i64 n1)] } := rfl
  refine ⟨_, rfl, _, _, _, [], p0, [], hW', ?_, ?_, ?_, hb.frame _, fun h => by cases h⟩
  · rw [e1]; exact trodAll_mk1 (shut_bool Tryd.underlying4 true)
  · rw [e1]
    have := trodAll_mk2 (Below.trod Tryd.laidOutAll (by kernel_rfl) (of_decide_eq_true (by kernel_rfl)) h0 hb (fun x hx => hlt x (by simp only [List.mem_append]; simp [hx]))) (shut_int Tryd.underlying3 hw1)
    simp only [List.append_nil] at this
    exact this
  · rw [e1]; rfl

theorem ledgerAnew_row : Rows.LedgerAnewSaid :=
  OpenClaim.holds_of_wide 4 Tryd.f4 rfl rfl rfl rfl rfl rfl rfl ⟨rfl, rfl, rfl, rfl, rfl⟩ rfl rfl rfl rfl rfl (by kernel_rfl) Tryd.func4 (by kernel_rfl)
    (of_decide_eq_true (by kernel_rfl)) (by unfold Func.isWrapper; rw [if_neg (of_decide_eq_false (by kernel_rfl))]; exact ⟨rfl, rfl⟩)
    (fun os started H enc _ => ledgerAnew_lifted os started H enc)

theorem ledgerAnew_holds : Rows.LedgerAnewCardSaid :=
  Claim7.holds_tied_plain_at .later [] [.sentinel, .sentinel, .sentinel, .sentinel] true (true, "2da623c9611835eb8d9f719ca6b334098e9aa24244a856096a97fd538114c18f") true
    ledgerAnew_row (fun _ h => by cases h) (by kernel_rfl) (fun _ h => by cases h) ledgerAnew_row_tie rfl ⟨rfl, rfl⟩ (by kernel_rfl) rfl
    (fun f fn hf hfn => by
      obtain rfl : f = 4 := Option.some.inj ((show Tryd.prog.funcNamed "statute/statutelaw5.LedgerAnew" = some 4 by kernel_rfl).symm.trans hf) |>.symm
      obtain rfl : fn = Tryd.f4 := (Option.some.inj (Tryd.func4.symm.trans hfn)).symm
      exact ⟨by kernel_rfl, fun j t ht => by
        rw [Tryd.params4] at ht
        have hm : t ∈ [22, 3] := by
          have := Array.mem_of_getElem? ht
          simpa using this
        have hall : ([22, 3].all fun u => !Tryd.prog.wantsStandIn u) = true := by kernel_rfl
        exact (show Tryd.prog.wantsStandIn t = false by simpa using List.all_eq_true.1 hall t hm)⟩)
    (by kernel_rfl)
end Go.Proofs.YtkphonojpnhefaaDoor
