/-
  ScriptWrites: the row where what comes in is of bulk at most 1048576, and its tied card.
-/
import Derived.Test.YtgfaeeacndpniaaGreatDoorReadEnv
import Derived.Test.YtgfaeeacndpniaaGreatDoorScriptWritesW
import Derived.Test.YtgfaeeacndpniaaGreatDoorTie
import Derived.Test.YtgfaeeacndpniaaGreatDoorCards
import Derived.SevenTiedAt
import Derived.Lay
import Derived.JoinedCond
import Derived.Deep.DeepHandedRow
namespace Go.Proofs.YtgfaeeacndpniaaGreatDoor
open Go.ChangeShapes Go.WideShapes Go.ChangeAt Go.WideMaps Go.WideElems Go.RowKit

theorem Tryz.own4 : ownKnob Tryz.prog.godebug = none := by kernel_rfl
theorem Tryz.laidOutW : laidOutB Tryz.prog = true := by kernel_rfl

theorem writes_filter : ((Rows.scriptWritesUptoRow.laid.filter fun x => x.2.handleName?.isNone).filter fun x => ["unicode/utf8.first"].contains x.1) = [("unicode/utf8.first", Rows.laid_unicode_utf8_first)] := by kernel_rfl
theorem writes_fits (os : Os) : (World.doorLaid Tryz.prog 400 os).layFits Tryz.prog [("unicode/utf8.first", Rows.laid_unicode_utf8_first)] ((List.range (World.doorLaid Tryz.prog 400 os).heap.size).filter fun b => b != 12) = true := by kernel_rfl
theorem writes_met (os : Os) (args : Array Value) : laidMet Tryz.prog (Rows.scriptWritesUptoRow.laid.filter fun x => x.2.handleName?.isNone) (((World.doorLaid Tryz.prog 400 os).layVars Tryz.prog [("unicode/utf8.first", Rows.laid_unicode_utf8_first)]).forCall (fun _ _ => 0) ⟨#[], args, []⟩).memory := by
  refine laidMet_layVars (w0 := World.doorLaid Tryz.prog 400 os) ["unicode/utf8.first"] ((List.range (World.doorLaid Tryz.prog 400 os).heap.size).filter fun b => b != 12) ?_ ?_ ?_ ?_
  · rw [writes_filter]; simp [World.memory, World.forCall, Input.heap]
  · rw [writes_filter]; exact writes_fits os
  · rw [writes_filter]; kernel_rfl
  · exact LaidIn.of_run _ 8 (by kernel_rfl) (by kernel_rfl) (by kernel_rfl) (by kernel_rfl)
theorem writes_door (os : Os) (args : Array Value) : laidMetH Tryz.prog Rows.scriptWritesUptoRow.laid (((World.doorLaid Tryz.prog 400 os).layVars Tryz.prog [("unicode/utf8.first", Rows.laid_unicode_utf8_first)]).forCall (fun _ _ => 0) ⟨#[], args, []⟩).memory :=
  laidMetH_of_parts (writes_met os args) (by kernel_rfl)
theorem writes_laid {W : World} (h : laidMetH Tryz.prog Rows.scriptWritesUptoRow.laid W) : laidMetH Tryz.prog Rows.scriptReadRow.laid W := h

def emptyItem : Value := .agg #[.string ⟨#[]⟩, .string ⟨#[]⟩, .slice none 0 0, .slice none 0 0]
theorem writes_reads (os : Os) {H : Type} (enc : TypeId × Value → H) : ∃ places, DataW.whole enc Tryz.prog (((World.doorLaid Tryz.prog 400 os).layVars Tryz.prog [("unicode/utf8.first", Rows.laid_unicode_utf8_first)]).forCall (fun _ _ => 0) ⟨#[], #[emptyItem], []⟩).memory Tryz.f4.params.toList Rows.scriptWritesSpec.vars false #[emptyItem].toList 8 = some ([.agg [.lit (.string []), .lit (.string []), .nil, .nil]], [], places) :=
  ⟨[], by kernel_rfl⟩
set_option maxRecDepth 100000 in
theorem item_arg {H : Type} {enc : TypeId × Value → H} {W : World} {base : Nat} {v : Value} {d : DataW H} {ps : List MemPlace}
    (hval : Value.okWide Tryz.prog W .any base 26 v) (hd : DataW.Trod enc Tryz.prog W 0 (fun _ => true) true 26 v d ps) :
    ∃ t u, v = .agg #[u 0, u 1, u 2, u 3] ∧ Lies W (fun _ => True) u t ∧ sizeIt t ≤ Rows.uptoBulk d := by
  obtain ⟨cs, rfl, hsz⟩ := okWide_struct Tryz.underlying26 hval
  obtain ⟨fuel, hf⟩ := hd
  obtain ⟨t, u, h1, h2, h3⟩ := item_trod fuel _ _ hf
  refine ⟨t, u, ?_, h2, h3⟩
  have h4 : cs.toList = [u 0, u 1, u 2, u 3] := h1
  rcases cs with ⟨l⟩
  have h5 : l = [u 0, u 1, u 2, u 3] := h4
  rw [h5]

set_option maxRecDepth 100000 in
theorem scriptWrites_lifted (os : Os) (started : os.Started) (H : Type) (enc : TypeId × Value → H) (F : Stop.Interp) :
    ReturnsInHanded {} Tryz.checked os 4 .any ((Rows.OpenSpec.upto Rows.scriptWritesSpec).preRow enc Tryz.prog Tryz.f4 Rows.scriptWritesUptoRow.domain false Rows.scriptWritesUptoRow.laid) (((Rows.OpenSpec.upto Rows.scriptWritesSpec).at F).post enc Tryz.prog Tryz.f4 false true false false) := by
  obtain ⟨places, hx⟩ := writes_reads os enc
  refine returnsInHanded_of_row (C := Tryz.checked) (s := Rows.OpenSpec.upto Rows.scriptWritesSpec) Tryz.own4 started (by kernel_rfl) Tryz.func4
    ⟨(World.doorLaid Tryz.prog 400 os).layVars Tryz.prog [("unicode/utf8.first", Rows.laid_unicode_utf8_first)], fun _ _ => 0, ⟨#[], #[emptyItem], []⟩, World.layVars_os _ _ _, World.shaped_of_ZipB (by kernel_rfl) (by kernel_rfl), rfl, (Input.okWide_of_okWideB (by kernel_rfl)).2,
      OpenSpec.preRow_of_cond 8 hx (by kernel_rfl) (fun k hkk => by cases hkk; kernel_rfl) (by kernel_rfl) (writes_door os _), by
        simp only [Assume.holds]
        exact ⟨by simp, by simp, by simp, by simp, by simp⟩⟩ ?_
  intro W base args ds gs before hval0 hW _ hcond _ hL hsh _
  have hW' := hW
  obtain ⟨p, q, hA0, hV, rfl, hfz, hnd⟩ := hW
  have hA : DataW.TrodAll enc Tryz.prog W 0 (fun _ => true) true Tryz.f4.params.toList args.toList ds p := hA0
  have hlt := DataW.TrodAll.lt hA
  have hval : ∀ (j : Nat) t v, Tryz.f4.params[j]? = some t → args[j]? = some v → Value.okWide Tryz.prog W .any base t v := hval0
  rw [Tryz.params4] at hA hval
  obtain ⟨v0, d0, rfl, rfl, h0⟩ := trodAll_one hA
  obtain ⟨rfl, rfl⟩ := trodVars_none hV
  obtain ⟨t, u, hv0, hLi, hsz⟩ := item_arg (hval 0 26 v0 rfl rfl) h0
  have hbd : Rows.uptoBulkAll ([d0] ++ []) ≤ 1048576 := of_decide_eq_true (hcond _ rfl)
  rw [List.append_nil, Rows.uptoBulkAll, Rows.uptoBulkAll] at hbd
  obtain ⟨pa, m, hE⟩ := read_env (writes_laid hL) hsh
  have hb0 := scriptWrites_walk t (by omega) pa m W hE _ u hLi
  rw [← hv0] at hb0
  clear hA0 hval0
  simp only [List.append_nil] at hW'
  refine hb0.mono fun e W' ⟨he, hb⟩ => ?_
  subst he
  have e1 : Rows.scriptWritesSpec.fn H ([d0] ++ []) = { results := [.lit (.bool true)], args := [d0] } := rfl
  refine ⟨_, rfl, _, _, _, [], p, [], hW', ?_, ?_, ?_, hb.frame _, fun h => by cases h⟩
  · show DataW.TrodAll _ _ _ _ _ _ _ _ (Rows.scriptWritesSpec.fn H ([d0] ++ [])).results _
    rw [e1]; exact trodAll_mk1 (shut_bool Tryz.underlying4 true)
  · show DataW.TrodAll _ _ _ _ _ _ _ _ (Rows.scriptWritesSpec.fn H ([d0] ++ [])).args _
    rw [e1]; exact trodAll_mk1 (Below.trod Tryz.laidOutW (by kernel_rfl) (of_decide_eq_true (by kernel_rfl)) h0 hb (fun x hx => hlt x (by simpa using hx)))
  · rfl

theorem scriptWrites_row : Rows.ScriptWritesUptoSaid :=
  OpenClaim.holds_of_cond 4 Tryz.f4 rfl rfl rfl rfl rfl rfl rfl ⟨rfl, rfl, rfl, rfl, rfl⟩ rfl rfl rfl rfl rfl (by kernel_rfl) Tryz.func4 (by kernel_rfl)
    (of_decide_eq_true (by kernel_rfl)) (by unfold Func.isWrapper; rw [if_neg (of_decide_eq_false (by kernel_rfl))]; exact ⟨rfl, rfl⟩)
    (fun os started H enc _ F => by rw [OpenClaim.pre_eq_preRow]; exact scriptWrites_lifted os started H enc F)

theorem scriptWrites_holds : Rows.ScriptWritesUptoCardSaid :=
  Claim7.holds_tied_plain_at .later [] _ _ _ _ scriptWrites_row (fun _ h => by cases h) (by kernel_rfl) (fun _ h => by cases h) scriptWritesUpto_row_tie rfl ⟨rfl, rfl⟩ (by kernel_rfl) rfl
    (fun f fn hf hfn => by
      obtain rfl : f = 4 := Option.some.inj ((show Tryz.prog.funcNamed "statute/statutelaw1.ScriptWrites" = some 4 by kernel_rfl).symm.trans hf) |>.symm
      obtain rfl : fn = Tryz.f4 := (Option.some.inj (Tryz.func4.symm.trans hfn)).symm
      exact ⟨by kernel_rfl, fun j t ht => by
        rw [Tryz.params4] at ht
        have hm : t ∈ [26] := by
          have := Array.mem_of_getElem? ht
          simpa using this
        have hall : ([26].all fun u => !Tryz.prog.wantsStandIn u) = true := by kernel_rfl
        exact (show Tryz.prog.wantsStandIn t = false by simpa using List.all_eq_true.1 hall t hm)⟩)
    (by kernel_rfl)
end Go.Proofs.YtgfaeeacndpniaaGreatDoor
