/-
  AmendFolds: the row where what comes in is of bulk at most 1048576, and its tied card.
-/
import Derived.Test.YtpbolcjcmkmalaaGreatDoorFo10
import Derived.Test.YtpbolcjcmkmalaaGreatDoorFo35
import Derived.Test.YtpbolcjcmkmalaaGreatDoorTie
import Derived.Test.YtpbolcjcmkmalaaGreatDoorCards
import Derived.SevenTiedAt
import Derived.Lay
import Derived.JoinedCond
import Derived.Deep.DeepHandedRow
namespace Go.Proofs.YtpbolcjcmkmalaaGreatDoor
open Go.ChangeShapes Go.WideShapes Go.ChangeAt Go.WideMaps Go.WideElems Go.RowKit
open Go.ChangeMaps (open_string shut_string)

theorem Tryz.own4 : ownKnob Tryz.prog.godebug = none := by kernel_rfl
theorem Tryz.laidOutW : laidOutB Tryz.prog = true := by kernel_rfl

theorem folds_filter : ((Rows.amendFoldsUptoRow.laid.filter fun x => x.2.handleName?.isNone).filter fun x => ["unicode/utf8.first"].contains x.1) = [("unicode/utf8.first", Rows.laid_unicode_utf8_first)] := by kernel_rfl
theorem folds_fits (os : Os) : (World.doorLaid Tryz.prog 400 os).layFits Tryz.prog [("unicode/utf8.first", Rows.laid_unicode_utf8_first)] ((List.range (World.doorLaid Tryz.prog 400 os).heap.size).filter fun b => b != 13) = true := by kernel_rfl
theorem folds_met (os : Os) (args : Array Value) : laidMet Tryz.prog (Rows.amendFoldsUptoRow.laid.filter fun x => x.2.handleName?.isNone) (((World.doorLaid Tryz.prog 400 os).layVars Tryz.prog [("unicode/utf8.first", Rows.laid_unicode_utf8_first)]).forCall (fun _ _ => 0) ⟨#[], args, []⟩).memory := by
  refine laidMet_layVars (w0 := World.doorLaid Tryz.prog 400 os) ["unicode/utf8.first"] ((List.range (World.doorLaid Tryz.prog 400 os).heap.size).filter fun b => b != 13) ?_ ?_ ?_ ?_
  · rw [folds_filter]; simp [World.memory, World.forCall, Input.heap]
  · rw [folds_filter]; exact folds_fits os
  · rw [folds_filter]; kernel_rfl
  · exact LaidIn.of_run _ 8 (by kernel_rfl) (by kernel_rfl) (by kernel_rfl) (by kernel_rfl)
theorem folds_door (os : Os) (args : Array Value) : laidMetH Tryz.prog Rows.amendFoldsUptoRow.laid (((World.doorLaid Tryz.prog 400 os).layVars Tryz.prog [("unicode/utf8.first", Rows.laid_unicode_utf8_first)]).forCall (fun _ _ => 0) ⟨#[], args, []⟩).memory :=
  laidMetH_of_parts (folds_met os args) (by kernel_rfl)

def emptyItem : Value := .agg #[.string ⟨#[]⟩, .string ⟨#[]⟩, .slice none 0 0, .slice none 0 0]
theorem folds_reads (os : Os) {H : Type} (enc : TypeId × Value → H) : ∃ places, DataW.whole enc Tryz.prog (((World.doorLaid Tryz.prog 400 os).layVars Tryz.prog [("unicode/utf8.first", Rows.laid_unicode_utf8_first)]).forCall (fun _ _ => 0) ⟨#[], #[emptyItem, .slice none 0 0, .int .i64 0], []⟩).memory Tryz.f4.params.toList Rows.amendFoldsSpec.vars false #[emptyItem, .slice none 0 0, .int .i64 0].toList 8 = some ([.agg [.lit (.string []), .lit (.string []), .nil, .nil], .nil, .lit (.int .i64 0)], [], places) :=
  ⟨[], by kernel_rfl⟩
set_option maxRecDepth 100000 in
theorem amendFolds_lifted (os : Os) (started : os.Started) (H : Type) (enc : TypeId × Value → H) (F : Stop.Interp) :
    ReturnsInHanded {} Tryz.checked os 4 .any ((Rows.OpenSpec.upto Rows.amendFoldsSpec).preRow enc Tryz.prog Tryz.f4 Rows.amendFoldsUptoRow.domain false Rows.amendFoldsUptoRow.laid) (((Rows.OpenSpec.upto Rows.amendFoldsSpec).at F).post enc Tryz.prog Tryz.f4 false true false false) := by
  obtain ⟨places, hx⟩ := folds_reads os enc
  refine returnsInHanded_of_row (C := Tryz.checked) (s := Rows.OpenSpec.upto Rows.amendFoldsSpec) Tryz.own4 started (by kernel_rfl) Tryz.func4
    ⟨(World.doorLaid Tryz.prog 400 os).layVars Tryz.prog [("unicode/utf8.first", Rows.laid_unicode_utf8_first)], fun _ _ => 0, ⟨#[], #[emptyItem, .slice none 0 0, .int .i64 0], []⟩, World.layVars_os _ _ _, World.shaped_of_ZipB (by kernel_rfl) (by kernel_rfl), rfl, (Input.okWide_of_okWideB (by kernel_rfl)).2,
      OpenSpec.preRow_of_cond 8 hx (by kernel_rfl) (fun k hkk => by cases hkk; kernel_rfl) (by kernel_rfl) (folds_door os _), by
        simp only [Assume.holds]
        exact ⟨by simp, by simp, by simp, by simp, by simp⟩⟩ ?_
  intro W base args ds gs before hval0 hW _ hcond _ hL hsh _
  have hW' := hW
  obtain ⟨p, q, hA0, hV, rfl, hfz, hnd⟩ := hW
  have hA : DataW.TrodAll enc Tryz.prog W 0 (fun _ => true) true Tryz.f4.params.toList args.toList ds p := hA0
  have hlt := DataW.TrodAll.lt hA
  have hval : ∀ (j : Nat) t v, Tryz.f4.params[j]? = some t → args[j]? = some v → Value.okWide Tryz.prog W .any base t v := hval0
  rw [Tryz.params4] at hA hval
  obtain ⟨v0, v1, v2, d0, d1, d2, p0, p1, p2, rfl, rfl, rfl, h0, h1, h2⟩ := trodAll_three hA
  obtain ⟨rfl, rfl⟩ := trodVars_none hV
  obtain ⟨k, rfl, rfl, rfl, hwk⟩ := open_int Tryz.underlying3 (hval 2 3 v2 rfl rfl) h2
  have hbd : Rows.uptoBulkAll ([d0, d1, .lit (.int .i64 k)] ++ []) ≤ 1048576 := of_decide_eq_true (hcond _ rfl)
  rw [List.append_nil, Rows.uptoBulkAll, Rows.uptoBulkAll] at hbd
  obtain ⟨t, u, hv0, hLi, hsz⟩ := item_rarg (hval 0 25 v0 rfl rfl) h0 (frz_sub hfz fun x hx => by simp [hx])
  obtain ⟨oa, oc, ops, hv1, hnil, hcap, hlen, hops⟩ := ops_rarg (hval 1 26 v1 rfl rfl) h1 (frz_sub hfz fun x hx => by simp [hx]) (by omega)
  obtain ⟨pa, m, hE⟩ := folds_env hL hsh
  have hb0 := amendFolds_walk t (by omega) ops oa oc k (w64 hwk) pa m W hE u hLi hops hlen hcap hnil
  rw [← hv0, ← hv1] at hb0
  clear hA0 hval0
  simp only [List.append_nil] at hW'
  refine hb0.mono fun e W' ⟨he, hb⟩ => ?_
  subst he
  have e1 : Rows.amendFoldsSpec.fn H ([d0, d1, .lit (.int .i64 k)] ++ []) = { results := [.lit (.bool true)], args := [d0, d1, .lit (.int .i64 k)] } := rfl
  refine ⟨_, rfl, _, _, _, [], p0 ++ (p1 ++ []), [], hW', ?_, ?_, ?_, hb.frame _, fun h => by cases h⟩
  · show DataW.TrodAll _ _ _ _ _ _ _ _ (Rows.amendFoldsSpec.fn H ([d0, d1, .lit (.int .i64 k)] ++ [])).results _
    rw [e1]; exact trodAll_mk1 (shut_bool Tryz.underlying4 true)
  · show DataW.TrodAll _ _ _ _ _ _ _ _ (Rows.amendFoldsSpec.fn H ([d0, d1, .lit (.int .i64 k)] ++ [])).args _
    rw [e1]; exact trodAll_mk3 (Below.trod Tryz.laidOutW (by kernel_rfl) (of_decide_eq_true (by kernel_rfl)) h0 hb (fun x hx => hlt x (by simp [hx]))) (Below.trod Tryz.laidOutW (by kernel_rfl) (of_decide_eq_true (by kernel_rfl)) h1 hb (fun x hx => hlt x (by simp [hx]))) (shut_int Tryz.underlying3 hwk)
  · rfl

theorem amendFolds_row : Rows.AmendFoldsUptoSaid :=
  OpenClaim.holds_of_cond 4 Tryz.f4 rfl rfl rfl rfl rfl rfl rfl ⟨rfl, rfl, rfl, rfl, rfl⟩ rfl rfl rfl rfl rfl (by kernel_rfl) Tryz.func4 (by kernel_rfl)
    (of_decide_eq_true (by kernel_rfl)) (by unfold Func.isWrapper; rw [if_neg (of_decide_eq_false (by kernel_rfl))]; exact ⟨rfl, rfl⟩)
    (fun os started H enc _ F => by rw [OpenClaim.pre_eq_preRow]; exact amendFolds_lifted os started H enc F)

theorem amendFolds_holds : Rows.AmendFoldsUptoCardSaid :=
  Claim7.holds_tied_plain_at .later [] _ _ _ _ amendFolds_row (fun _ h => by cases h) (by kernel_rfl) (fun _ h => by cases h) amendFoldsUpto_row_tie rfl ⟨rfl, rfl⟩ (by kernel_rfl) rfl
    (fun f fn hf hfn => by
      obtain rfl : f = 4 := Option.some.inj ((show Tryz.prog.funcNamed "statute/statutelaw2.AmendFolds" = some 4 by kernel_rfl).symm.trans hf) |>.symm
      obtain rfl : fn = Tryz.f4 := (Option.some.inj (Tryz.func4.symm.trans hfn)).symm
      exact ⟨by kernel_rfl, fun j t ht => by
        rw [Tryz.params4] at ht
        have hm : t ∈ [25, 26, 3] := by
          have := Array.mem_of_getElem? ht
          simpa using this
        have hall : ([25, 26, 3].all fun u => !Tryz.prog.wantsStandIn u) = true := by kernel_rfl
        exact (show Tryz.prog.wantsStandIn t = false by simpa using List.all_eq_true.1 hall t hm)⟩)
    (by kernel_rfl)
end Go.Proofs.YtpbolcjcmkmalaaGreatDoor
