/-
  FactsHold: the row and the tied card.
-/
import Derived.Test.YtcfeflkhmncmjaaGreatDoorLaidPlainFactsHold
import Derived.Test.YtcfeflkhmncmjaaGreatDoorArgA
import Derived.Test.YtcfeflkhmncmjaaGreatDoorFlLaw
import Derived.Test.YtcfeflkhmncmjaaGreatDoorTie
import Derived.Test.YtcfeflkhmncmjaaGreatDoorCards
import Derived.ChangeMaps5
namespace Go.Proofs.YtcfeflkhmncmjaaGreatDoor
open Go.ChangeShapes Go.WideShapes Go.ChangeAt Go.WideMaps Go.WideElems Go.RowKit
open Go.ChangeMaps (open_string shut_string)

theorem factsHold_door (os : Os) (args : Array Value) : laidMetH Tryz.prog Rows.factsHoldRow.laid ((World.doorLaid Tryz.prog 400 os).forCall (fun _ _ => 0) ⟨#[], args, []⟩).memory :=
  laidMetH_of_parts3 (fuel := 8) (laidMet_of_run' 8 (by kernel_rfl) (by kernel_rfl)) (by kernel_rfl) (by kernel_rfl)
section
variable {H : Type} {enc : TypeId × Value → H} {P : Program} {w : World} {base : Nat} {spare : Nat → Bool} {held : Bool}
theorem factsHold_five {t t' t2 t3 t4 : TypeId} {args : Array Value} {ds : List (DataW H)} {ps : List MemPlace} (h : DataW.TrodAll enc P w base spare held [t, t', t2, t3, t4] args.toList ds ps) :
    ∃ v v' v2 v3 v4 d d' d2 d3 d4 p p' p2 p3 p4, args = #[v, v', v2, v3, v4] ∧ ds = [d, d', d2, d3, d4] ∧ ps = p ++ p' ++ p2 ++ p3 ++ p4 ∧ DataW.Trod enc P w base spare held t v d p ∧ DataW.Trod enc P w base spare held t' v' d' p' ∧ DataW.Trod enc P w base spare held t2 v2 d2 p2 ∧ DataW.Trod enc P w base spare held t3 v3 d3 p3 ∧ DataW.Trod enc P w base spare held t4 v4 d4 p4 := by
  obtain ⟨v, vs, d, ds', p, q, hargs, rfl, rfl, hd, hrest⟩ := trodAll_cons h
  obtain ⟨v', vs', d', ds'', p', q', rfl, rfl, rfl, hd', hrest'⟩ := trodAll_cons hrest
  obtain ⟨v2, vs2, d2, ds2, p2, q2, rfl, rfl, rfl, hd2, hrest2⟩ := trodAll_cons hrest'
  obtain ⟨v3, vs3, d3, ds3, p3, q3, rfl, rfl, rfl, hd3, hrest3⟩ := trodAll_cons hrest2
  obtain ⟨v4, vs4, d4, ds4, p4, q4, rfl, rfl, rfl, hd4, hrest4⟩ := trodAll_cons hrest3
  obtain ⟨rfl, rfl, rfl⟩ := trodAll_nil hrest4
  exact ⟨v, v', v2, v3, v4, d, d', d2, d3, d4, p, p', p2, p3, p4, by cases args; simp_all, rfl, by simp, hd, hd', hd2, hd3, hd4⟩
theorem factsHold_mk5 {t t' t2 t3 t4 : TypeId} {v v' v2 v3 v4 : Value} {d d' d2 d3 d4 : DataW H} {p p' p2 p3 p4 : List MemPlace} (h : DataW.Trod enc P w base spare held t v d p) (h' : DataW.Trod enc P w base spare held t' v' d' p')
    (h2 : DataW.Trod enc P w base spare held t2 v2 d2 p2) (h3 : DataW.Trod enc P w base spare held t3 v3 d3 p3) (h4 : DataW.Trod enc P w base spare held t4 v4 d4 p4) : DataW.TrodAll enc P w base spare held [t, t', t2, t3, t4] [v, v', v2, v3, v4] [d, d', d2, d3, d4] (p ++ (p' ++ (p2 ++ (p3 ++ p4)))) := ⟨p, p' ++ (p2 ++ (p3 ++ p4)), h, trodAll_mk4 h' h2 h3 h4, rfl⟩
end
set_option maxRecDepth 100000 in
theorem factsHold_lifted (os : Os) (started : os.Started) (H : Type) (enc : TypeId × Value → H) :
    ReturnsInHanded {} Tryz.checked os 3 .any (fun w args => (Rows.factsHoldSpec.pre enc Tryz.prog Tryz.f3 [] false w args ∧ laidMetH Tryz.prog Rows.factsHoldRow.laid w) ∧ sizedMet enc Tryz.prog Tryz.f3 (OpenSpec.ofChange Rows.factsHoldSpec) false w args)
      (Rows.factsHoldSpec.post enc Tryz.prog Tryz.f3 false true false false) := by
  refine returnsInHanded_of_change_and (C := Tryz.checked) (X := fun w _ => laidMetH Tryz.prog Rows.factsHoldRow.laid w) (fun _ _ _ hh h => h.of_heap hh) Tryz.ownAll started (by kernel_rfl) Tryz.func3
    (ChangeSpec.witness_shaped (enc := enc) (C := Tryz.checked) (os := os) (X := fun w _ => laidMetH Tryz.prog Rows.factsHoldRow.laid w) false (World.doorLaid Tryz.prog 400 os) #[.slice none 0 0, .agg #[.string ByteArray.empty, .string ByteArray.empty, .int .i64 0, .slice none 0 0], .int .i64 0, .int .i64 0, .int .i64 0] 8 rfl (World.shaped_of_RefB (by kernel_rfl) (by kernel_rfl)) (by kernel_rfl) (by kernel_rfl) (by kernel_rfl) (factsHold_door os _)) ?_
  intro W base args ds gs before hval0 hW _ hwt hL _
  have hW' := hW
  obtain ⟨p, q, hA0, hV, rfl, hfz, hnd⟩ := hW
  have hA : DataW.TrodAll enc Tryz.prog W 0 (fun _ => true) true Tryz.f3.params.toList args.toList ds p := hA0
  have hlt := DataW.TrodAll.lt hA
  rw [Tryz.params3] at hA
  have hval : ∀ (j : Nat) t v, Tryz.f3.params[j]? = some t → args[j]? = some v → Value.okWide Tryz.prog W .any base t v := hval0
  rw [Tryz.params3] at hval
  obtain ⟨v0, v1, v2, v3, v4, d0, d1, d2, d3, d4, p0, p1, p2, p3, p4, rfl, rfl, rfl, h0, h1, h2, h3, h4⟩ := factsHold_five hA
  obtain ⟨rfl, rfl⟩ := trodVars_none hV
  obtain ⟨a, c, l, rfl, hrd, hlen⟩ := facts_arg (hval 0 22 v0 rfl rfl) h0
  have hwn : ∀ z, z ∈ d1.weights Tryz.prog 25 → z ≤ reachBytes := fun z hz => by
    have h9 : (d0.weights Tryz.prog 22 ++ (d1.weights Tryz.prog 25 ++ (d2.weights Tryz.prog 3 ++ (d3.weights Tryz.prog 3 ++ (d4.weights Tryz.prog 3 ++ DataW.weightsEach Tryz.prog _ []))))).all (· ≤ reachBytes) = true := hwt
    have := List.all_eq_true.1 h9 z (List.mem_append_right _ (List.mem_append_left _ hz))
    simpa using this
  obtain ⟨tr, nka, nkc, rfl, hnr, hts⟩ := node_arg (hval 1 25 v1 rfl rfl) h1 hwn
  obtain ⟨n2, rfl, rfl, rfl, hw2⟩ := open_int Tryz.underlying3 (hval 2 3 v2 rfl rfl) h2
  obtain ⟨n3, rfl, rfl, rfl, hw3⟩ := open_int Tryz.underlying3 (hval 3 3 v3 rfl rfl) h3
  obtain ⟨n4, rfl, rfl, rfl, hw4⟩ := open_int Tryz.underlying3 (hval 4 3 v4 rfl rfl) h4
  have hb0 := hold_walk (c := c) hrd hlen hnr hts (laid_plainFactsHold hL).choose (laid_plainFactsHold hL).choose_spec n2 n3 n4
  clear hA0 hval0
  simp only [List.append_nil] at hW'
  refine hb0.mono fun e W' ⟨he, hb⟩ => ?_
  subst he
  have e1 : Rows.factsHoldSpec.fn H ([d0, d1, .lit (.int .i64 n2), .lit (.int .i64 n3), .lit (.int .i64 n4)] ++ []) = { results := [.lit (.bool true)], args := [d0, d1, .lit (.int .i64 n2), .lit (.int .i64 n3), .lit (.int .i64 n4)] } := rfl
  refine ⟨_, rfl, _, _, _, [], p0 ++ p1, [], hW', ?_, ?_, ?_, hb.frame _, fun h => by cases h⟩
  · rw [e1]; exact trodAll_mk1 (shut_bool Tryz.underlying4 true)
  · rw [e1]
    have h9 := factsHold_mk5 (Below.trod Tryz.laidOutAll (by kernel_rfl) (of_decide_eq_true (by kernel_rfl)) h0 hb (fun x hx => hlt x (by simp only [List.mem_append]; simp [hx]))) (Below.trod Tryz.laidOutAll (by kernel_rfl) (of_decide_eq_true (by kernel_rfl)) h1 hb (fun x hx => hlt x (by simp only [List.mem_append]; simp [hx]))) (shut_int Tryz.underlying3 hw2) (shut_int Tryz.underlying3 hw3) (shut_int Tryz.underlying3 hw4)
    simp only [List.append_nil] at h9
    exact h9
  · rw [e1]; rfl

theorem factsHold_row : Rows.FactsHoldSaid :=
  OpenClaim.holds_of_wide 3 Tryz.f3 rfl rfl rfl rfl rfl rfl rfl ⟨rfl, rfl, rfl, rfl, rfl⟩ rfl rfl rfl rfl rfl (by kernel_rfl) Tryz.func3 (by kernel_rfl)
    (of_decide_eq_true (by kernel_rfl)) (by unfold Func.isWrapper; rw [if_neg (of_decide_eq_false (by kernel_rfl))]; exact ⟨rfl, rfl⟩)
    (fun os started H enc _ => factsHold_lifted os started H enc)

theorem factsHold_holds : Rows.FactsHoldCardSaid :=
  Claim7.holds_tied_plain_at .later [] [.handle, .sentinel, .sentinel, .sentinel, .sentinel, .sentinel, .sentinel, .sentinel, .sentinel, .sentinel, .sentinel, .sentinel] true (true, "f4854fe681530fc0b14d7452d32c811f969384c643c8927dc9b7a57f0048e258") true
    factsHold_row (fun _ h => by cases h) (by kernel_rfl) (fun _ h => by cases h) factsHold_row_tie rfl ⟨rfl, rfl⟩ (by kernel_rfl) rfl
    (fun f fn hf hfn => by
      obtain rfl : f = 3 := Option.some.inj ((show Tryz.prog.funcNamed "statute/statutelaw3.FactsHold" = some 3 by kernel_rfl).symm.trans hf) |>.symm
      obtain rfl : fn = Tryz.f3 := (Option.some.inj (Tryz.func3.symm.trans hfn)).symm
      exact ⟨by kernel_rfl, fun j t ht => by
        rw [Tryz.params3] at ht
        have hm : t ∈ [22, 25, 3, 3, 3] := by
          have := Array.mem_of_getElem? ht
          simpa using this
        have hall : ([22, 25, 3, 3, 3].all fun u => !Tryz.prog.wantsStandIn u) = true := by kernel_rfl
        exact (show Tryz.prog.wantsStandIn t = false by simpa using List.all_eq_true.1 hall t hm)⟩)
    (by kernel_rfl)
end Go.Proofs.YtcfeflkhmncmjaaGreatDoor
