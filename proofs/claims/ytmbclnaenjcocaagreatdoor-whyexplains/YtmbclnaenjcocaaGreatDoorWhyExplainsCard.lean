/-
  WhyExplains: the row and the tied card.
-/
import Derived.Test.YtmbclnaenjcocaaGreatDoorSents
import Derived.Test.YtmbclnaenjcocaaGreatDoorRsArg
import Derived.Test.YtmbclnaenjcocaaGreatDoorWeLaw
import Derived.Test.YtmbclnaenjcocaaGreatDoorTie
import Derived.Test.YtmbclnaenjcocaaGreatDoorCards
import Derived.ChangeMaps5
import Derived.Lib.LaidU8
import Derived.MakeChecks
import Derived.LaidMore
import Derived.HandedShaped
namespace Go.Proofs.YtmbclnaenjcocaaGreatDoor
open Go.ChangeShapes Go.WideShapes Go.ChangeAt Go.WideMaps Go.WideElems Go.RowKit

theorem Tryz.c_bool : Tryz.prog.cellsOf 4 = 1 := by kernel_rfl
set_option maxRecDepth 100000 in
theorem step_arg {H : Type} {enc : TypeId × Value → H} {W : World} {base : Nat} {v : Value} {d : DataW H} {ps : List MemPlace}
    (hval : Value.okWide Tryz.prog W .any base 24 v) (hd : DataW.Trod enc Tryz.prog W 0 (fun _ => true) true 24 v d ps) :
    ∃ a b q, v = .agg #[.bool a, .bool b, .int .i64 q] ∧ ClmWf (a, b, q) := by
  obtain ⟨cs, rfl, hsz⟩ := okWide_struct Tryz.underlying24 hval
  have hsz' : cs.size = 3 := hsz.trans (by kernel_rfl)
  obtain ⟨c0, c1, c2, rfl⟩ : ∃ c0 c1 c2, cs = #[c0, c1, c2] := by
    rcases cs with ⟨l⟩
    match l, hsz' with
    | [a, b, c], _ => exact ⟨a, b, c, rfl⟩
  obtain ⟨fuel, hf⟩ := hd
  obtain ⟨xs, m, _, _, _, hlen, hff⟩ := DataW.trod_struct Tryz.underlying24 hf
  have hlen : xs.length = 3 := hlen
  match xs, hlen with
  | [y0, y1, y2], _ =>
    have t0 := hff 0 _ rfl
    have t1 := hff 1 _ rfl
    have t2 := hff 2 _ rfl
    change DataW.trod enc Tryz.prog W 0 (fun _ => true) true m 4 ((List.drop 0 [c0, c1, c2]).take (Tryz.prog.cellsOf 4)) = some y0 at t0
    change DataW.trod enc Tryz.prog W 0 (fun _ => true) true m 4 ((List.drop 1 [c0, c1, c2]).take (Tryz.prog.cellsOf 4)) = some y1 at t1
    change DataW.trod enc Tryz.prog W 0 (fun _ => true) true m 3 ((List.drop 2 [c0, c1, c2]).take (Tryz.prog.cellsOf 3)) = some y2 at t2
    rw [Tryz.c_bool] at t0 t1
    rw [Tryz.c_int] at t2
    obtain ⟨m0, e0, _⟩ := DataW.trod_bool Tryz.underlying4 t0
    obtain ⟨m1, e1, _⟩ := DataW.trod_bool Tryz.underlying4 t1
    obtain ⟨m2, e2, _, wq⟩ := DataW.trod_int Tryz.underlying3 t2
    have e0 : [c0] = [Value.bool m0] := e0
    have e1 : [c1] = [Value.bool m1] := e1
    have e2 : [c2] = [Value.int .i64 m2] := e2
    injection e0 with e0
    injection e1 with e1
    injection e2 with e2
    exact ⟨m0, m1, m2, by rw [e0, e1, e2], wq⟩
end Go.Proofs.YtmbclnaenjcocaaGreatDoor
namespace Go.Proofs.YtmbclnaenjcocaaGreatDoor
open Go.ChangeShapes Go.WideShapes Go.ChangeAt Go.WideMaps Go.WideElems Go.RowKit

theorem explains_laid {W : World} (h : laidMetH Tryz.prog Rows.whyExplainsRow.laid W) : ∃ p, Laid W p := by
  obtain ⟨h1, h2⟩ := laidMetH_split (rest := sentList.map (fun x => (x.1, sentD x.2.2)) ++ []) (h := ("errors.errorType", Rows.laid_errors_errorType)) (hs := []) (by kernel_rfl) (by kernel_rfl) h
  exact laid_of h1 h2
theorem whyExplains_door (os : Os) (args : Array Value) : laidMetH Tryz.prog Rows.whyExplainsRow.laid ((World.doorLaid Tryz.prog 400 os).forCall (fun _ _ => 0) ⟨#[], args, []⟩).memory :=
  laidMetH_of_parts3 (fuel := 8) (laidMet_of_run' 8 (by kernel_rfl) (by kernel_rfl)) (by kernel_rfl) (by kernel_rfl)
set_option maxRecDepth 100000 in
theorem whyExplains_lifted (os : Os) (started : os.Started) (H : Type) (enc : TypeId × Value → H) :
    ReturnsInHanded {} Tryz.checked os 3 .any (fun w args => (Rows.whyExplainsSpec.pre enc Tryz.prog Tryz.f3 [] false w args ∧ laidMetH Tryz.prog Rows.whyExplainsRow.laid w) ∧ sizedMet enc Tryz.prog Tryz.f3 (OpenSpec.ofChange Rows.whyExplainsSpec) false w args)
      (Rows.whyExplainsSpec.post enc Tryz.prog Tryz.f3 false true false false) := by
  refine returnsInHanded_of_change_and (C := Tryz.checked) (X := fun w _ => laidMetH Tryz.prog Rows.whyExplainsRow.laid w) (fun _ _ _ hh h => h.of_heap hh) Tryz.ownAll started (by kernel_rfl) Tryz.func3
    (ChangeSpec.witness_shaped (enc := enc) (C := Tryz.checked) (os := os) (X := fun w _ => laidMetH Tryz.prog Rows.whyExplainsRow.laid w) false (World.doorLaid Tryz.prog 400 os) #[.pointer none, .agg #[.bool false, .bool false, .int .i64 0]] 8 rfl (World.shaped_of_RefB (by kernel_rfl) (by kernel_rfl)) (by kernel_rfl) (by kernel_rfl) (by kernel_rfl) (whyExplains_door os _)) ?_
  intro W base args ds gs before hval0 hW _ hwt hL _
  have hW' := hW
  obtain ⟨p, q, hA0, hV, rfl, hfz, hnd⟩ := hW
  have hA : DataW.TrodAll enc Tryz.prog W 0 (fun _ => true) true Tryz.f3.params.toList args.toList ds p := hA0
  have hlt := DataW.TrodAll.lt hA
  rw [Tryz.params3] at hA
  have hval : ∀ (j : Nat) t v, Tryz.f3.params[j]? = some t → args[j]? = some v → Value.okWide Tryz.prog W .any base t v := hval0
  rw [Tryz.params3] at hval
  obtain ⟨v0, vs, d0, ds', p0, q0, hargs, rfl, rfl, h0, hrest⟩ := trodAll_cons hA
  obtain ⟨v1, vs1, d1, ds1, p1, q1, rfl, rfl, rfl, h1, hrest1⟩ := trodAll_cons hrest
  obtain ⟨rfl, rfl, rfl⟩ := trodAll_nil hrest1
  obtain rfl : args = #[v0, v1] := by cases args; simp_all
  obtain ⟨rfl, rfl⟩ := trodVars_none hV
  have hwa : ∀ z, z ∈ d0.weights Tryz.prog 22 ++ (d1.weights Tryz.prog 24 ++ DataW.weightsEach Tryz.prog _ []) → z ≤ reachBytes := fun z hz => by
    have h9 : (d0.weights Tryz.prog 22 ++ (d1.weights Tryz.prog 24 ++ DataW.weightsEach Tryz.prog _ [])).all (· ≤ reachBytes) = true := hwt
    have := List.all_eq_true.1 h9 z hz
    simpa using this
  obtain ⟨pp, hpp⟩ := explains_laid hL
  obtain ⟨xa, xb, xq, rfl, hxq⟩ := step_arg (hval 1 24 v1 rfl rfl) h1
  have hb0 : Calls Tryz.prog 3 #[v0, .agg #[.bool xa, .bool xb, .int .i64 xq]] W fun e w' => e = .returned (.bool true) ∧ Below W.heap.size W w' := by
    rcases thy_arg (hval 0 22 v0 rfl rfl) h0 (fun z hz => hwa z (List.mem_append_left _ hz)) with rfl | ⟨pb, po, T, rv, ov, rfl, hTP⟩
    · exact whyExplains_none hpp.sent4 xa xb xq
    · exact whyExplains_w hpp hTP (Nat.le_refl _) xa xb xq hxq
  clear hA0 hval0
  simp only [List.append_nil] at hW'
  refine hb0.mono fun e W' ⟨he, hb⟩ => ?_
  subst he
  have e1 : Rows.whyExplainsSpec.fn H ([d0, d1] ++ []) = { results := [.lit (.bool true)], args := [d0, d1] } := rfl
  refine ⟨_, rfl, _, _, _, [], p0 ++ p1, [], hW', ?_, ?_, ?_, hb.frame _, fun h => by cases h⟩
  · rw [e1]; exact trodAll_mk1 (shut_bool Tryz.underlying4 true)
  · rw [e1]
    exact trodAll_mk2 (Below.trod Tryz.laidOutAll (by kernel_rfl) (of_decide_eq_true (by kernel_rfl)) h0 hb (fun x hx => hlt x (by simp only [List.mem_append]; simp [hx]))) (Below.trod Tryz.laidOutAll (by kernel_rfl) (of_decide_eq_true (by kernel_rfl)) h1 hb (fun x hx => hlt x (by simp only [List.mem_append]; simp [hx])))
  · rw [e1]; rfl

theorem whyExplains_row : Rows.WhyExplainsSaid :=
  OpenClaim.holds_of_wide 3 Tryz.f3 rfl rfl rfl rfl rfl rfl rfl ⟨rfl, rfl, rfl, rfl, rfl⟩ rfl rfl rfl rfl rfl (by kernel_rfl) Tryz.func3 (by kernel_rfl)
    (of_decide_eq_true (by kernel_rfl)) (by unfold Func.isWrapper; rw [if_neg (of_decide_eq_false (by kernel_rfl))]; exact ⟨rfl, rfl⟩)
    (fun os started H enc _ => whyExplains_lifted os started H enc)

theorem whyExplains_holds : Rows.WhyExplainsCardSaid :=
  Claim7.holds_tied_plain_at .later [] [.handle, .sentinel, .sentinel, .sentinel, .sentinel, .sentinel, .sentinel, .sentinel, .sentinel, .sentinel, .sentinel, .sentinel] true (true, "fb6f6b943d597a2ea0987e42b29ae4a2670084ffea3590396939bcee6f0a0895") true
    whyExplains_row (fun _ h => by cases h) (by kernel_rfl) (fun _ h => by cases h) whyExplains_row_tie rfl ⟨rfl, rfl⟩ (by kernel_rfl) rfl
    (fun f fn hf hfn => by
      obtain rfl : f = 3 := Option.some.inj ((show Tryz.prog.funcNamed "statute/statutelaw4.WhyExplains" = some 3 by kernel_rfl).symm.trans hf) |>.symm
      obtain rfl : fn = Tryz.f3 := (Option.some.inj (Tryz.func3.symm.trans hfn)).symm
      exact ⟨by kernel_rfl, fun j t ht => by
        rw [Tryz.params3] at ht
        have hm : t ∈ [22, 24] := by
          have := Array.mem_of_getElem? ht
          simpa using this
        have hall : ([22, 24].all fun u => !Tryz.prog.wantsStandIn u) = true := by kernel_rfl
        exact (show Tryz.prog.wantsStandIn t = false by simpa using List.all_eq_true.1 hall t hm)⟩)
    (by kernel_rfl)
end Go.Proofs.YtmbclnaenjcocaaGreatDoor
