/-
  CoinQuota: the row and the tied card.
-/
import Derived.Test.YtlpkaelgeeecoaaDoorShareCard
import Derived.Test.YtlpkaelgeeecoaaDoorCoinQuota
namespace Go.Proofs.YtlpkaelgeeecoaaDoor
open Go.ChangeShapes Go.WideShapes Go.ChangeAt Go.WideMaps Go.WideElems Go.RowKit

theorem quota_filter : (Rows.coinQuotaRow.laid.filter fun x => ["unicode/utf8.first"].contains x.1) = [("unicode/utf8.first", Rows.laid_unicode_utf8_first)] := by kernel_rfl
theorem quota_met (os : Os) (args : Array Value) : laidMet Tryd.prog Rows.coinQuotaRow.laid (((World.doorLaid Tryd.prog 400 os).layVars Tryd.prog [("unicode/utf8.first", Rows.laid_unicode_utf8_first)]).forCall (fun _ _ => 0) ⟨#[], args, []⟩).memory := by
  refine laidMet_layVars (w0 := World.doorLaid Tryd.prog 400 os) ["unicode/utf8.first"] ((List.range (World.doorLaid Tryd.prog 400 os).heap.size).filter fun b => b != 16) ?_ ?_ ?_ ?_
  · rw [quota_filter]; simp [World.memory, World.forCall, Input.heap]
  · rw [quota_filter]; exact first_fits os
  · rw [quota_filter]; kernel_rfl
  · exact LaidIn.of_run _ 8 (by kernel_rfl) (by kernel_rfl) (by kernel_rfl) (by kernel_rfl)
theorem quota_door (os : Os) (args : Array Value) : laidMetH Tryd.prog Rows.coinQuotaRow.laid (((World.doorLaid Tryd.prog 400 os).layVars Tryd.prog [("unicode/utf8.first", Rows.laid_unicode_utf8_first)]).forCall (fun _ _ => 0) ⟨#[], args, []⟩).memory := by
  rw [MakeChecks.laidMetH_plain _ _ _ (by kernel_rfl)]
  exact quota_met os args

def sentThree : List (String × Nat × List UInt8) := sentList.take 3
theorem sentThree_at : ∀ x, x ∈ sentThree → Tryd.prog.globalNamed x.1 = some x.2.1 ∧ (Tryd.prog.globals[x.2.1]?).map (·.type) = some 24 := fun x hx => sentList_at x (List.mem_of_mem_take hx)
theorem quota_laid {W : World} (h : laidMetH Tryd.prog Rows.coinQuotaRow.laid W) : ∃ a1, W.cell? ⟨1, 0, none⟩ = some (.iface 157 (.pointer (some a1))) := by
  rw [MakeChecks.laidMetH_plain _ _ _ (by kernel_rfl)] at h
  have h0 : laidMet Tryd.prog (("unicode/utf8.acceptRanges", Rows.laid_unicode_utf8_acceptRanges) :: (sentThree.map (fun x => (x.1, sentD x.2.2)) ++ [("unicode/utf8.first", Rows.laid_unicode_utf8_first)])) W := h
  obtain ⟨ps, hl, hnd, hrows⟩ := h0.tail
  obtain ⟨al, hlen, _, _, hcell⟩ := sents_of Tryd.underlying24 Tryd.rowES Tryd.underlying157 Tryd.underlying176 rfl rfl Tryd.underlying9 Tryd.cellsES Tryd.cells9 W sentThree _ ps sentThree_at hl hnd hrows
  have hlen' : al.length = 3 := hlen
  obtain ⟨b0, b1, b2, rfl⟩ : ∃ b0 b1 b2, al = [b0, b1, b2] := by
    match al, hlen' with
    | [b0, b1, b2], _ => exact ⟨b0, b1, b2, rfl⟩
  exact ⟨b2, hcell 2 _ _ rfl rfl⟩

set_option maxRecDepth 100000 in
theorem quota_lifted (os : Os) (started : os.Started) (H : Type) (enc : TypeId × Value → H) :
    ReturnsInHanded {} Tryd.checked os 8 .any (fun w args => (Rows.coinQuotaSpec.pre enc Tryd.prog Tryd.f8 [] false w args ∧ laidMetH Tryd.prog Rows.coinQuotaRow.laid w) ∧ sizedMet enc Tryd.prog Tryd.f8 (OpenSpec.ofChange Rows.coinQuotaSpec) false w args)
      (Rows.coinQuotaSpec.post enc Tryd.prog Tryd.f8 false true false false) := by
  refine returns_and_shaped (C := Tryd.checked) (X := fun w _ => laidMetH Tryd.prog Rows.coinQuotaRow.laid w) (fun _ _ _ hh h => h.of_heap hh) Tryd.own3 started (by kernel_rfl) Tryd.func8
    (ChangeSpec.witness_shaped (enc := enc) (C := Tryd.checked) (os := os) (X := fun w _ => laidMetH Tryd.prog Rows.coinQuotaRow.laid w) false ((World.doorLaid Tryd.prog 400 os).layVars Tryd.prog [("unicode/utf8.first", Rows.laid_unicode_utf8_first)]) #[.int .i64 0, .slice none 0 0] 8 (World.layVars_os _ _ _) (World.shaped_of_ZipB (by kernel_rfl) (by kernel_rfl)) (by kernel_rfl) (by kernel_rfl) (by kernel_rfl) (quota_door os _)) ?_
  intro W base args ds gs before hval0 hW hL hsh
  have hW' := hW
  obtain ⟨p, q, hA0, hV, rfl, hfz, hnd⟩ := hW
  have hA : DataW.TrodAll enc Tryd.prog W 0 (fun _ => true) true Tryd.f8.params.toList args.toList ds p := hA0
  have hlt := DataW.TrodAll.lt hA
  have hval : ∀ (j : Nat) t v, Tryd.f8.params[j]? = some t → args[j]? = some v → Value.okWide Tryd.prog W .any base t v := hval0
  rw [Tryd.params8] at hA hval
  obtain ⟨v0, v1, d0, d1, p0, p1, rfl, rfl, rfl, h0, h1⟩ := trodAll_two hA
  obtain ⟨rfl, rfl⟩ := trodVars_none hV
  obtain ⟨n0, rfl, rfl, rfl, hw0⟩ := open_int Tryd.underlying3 (hval 0 3 v0 rfl rfl) h0
  obtain ⟨o, n, cap, wv, rfl, hWt⟩ := wts_arg (hval 1 47 v1 rfl rfl) h1
  obtain ⟨a1, c1⟩ := quota_laid hL
  obtain ⟨m, hm⟩ := maxLen_of hsh
  have hal := alive_any m a1 W hm c1
  clear hA0 hval0
  simp only [List.append_nil] at hW'
  refine (coinQuota_walk n0 o n cap wv a1 W hWt c1 hal).mono fun e W' ⟨he, hb⟩ => ?_
  subst he
  have e1 : Rows.coinQuotaSpec.fn H ([.lit (.int .i64 n0), d1] ++ []) = { results := [.lit (.bool true)], args := [.lit (.int .i64 n0), d1] } := rfl
  refine ⟨_, rfl, _, _, _, [], p1, [], hW', ?_, ?_, ?_, hb.frame _, fun h => by cases h⟩
  · rw [e1]; exact trodAll_mk1 (shut_bool Tryd.underlying4 true)
  · rw [e1]; exact trodAll_mk2 (shut_int Tryd.underlying3 hw0) (Below.trod Tryd.laidOut3 (by kernel_rfl) (of_decide_eq_true (by kernel_rfl)) h1 hb (fun x hx => hlt x (by simpa using hx)))
  · rw [e1]; rfl

theorem quota_row : Rows.CoinQuotaSaid :=
  OpenClaim.holds_of_wide 8 Tryd.f8 rfl rfl rfl rfl rfl rfl rfl ⟨rfl, rfl, rfl, rfl, rfl⟩ rfl rfl rfl rfl rfl (by kernel_rfl) Tryd.func8 (by kernel_rfl)
    (of_decide_eq_true (by kernel_rfl)) (by unfold Func.isWrapper; rw [if_neg (of_decide_eq_false (by kernel_rfl))]; exact ⟨rfl, rfl⟩)
    (fun os started H enc _ => quota_lifted os started H enc)

theorem coinQuota_holds : Rows.CoinQuotaCardSaid :=
  Claim7.holds_tied_plain_at .later [] [.data, .sentinel, .sentinel, .sentinel, .pinned] true (true, "28abf4027e376a676f12338d6e07d6c9b117203dc9ede7d0161027e1b531b788") true
    quota_row (fun _ h => by cases h) (by kernel_rfl) (fun _ h => by cases h) coinQuota_row_tie rfl ⟨rfl, rfl⟩ (by kernel_rfl) rfl
    (fun f fn hf hfn => by
      obtain rfl : f = 8 := Option.some.inj ((show Tryd.prog.funcNamed "statute/statutelaw1.CoinQuota" = some 8 by kernel_rfl).symm.trans hf) |>.symm
      obtain rfl : fn = Tryd.f8 := (Option.some.inj (Tryd.func8.symm.trans hfn)).symm
      exact ⟨by kernel_rfl, fun j t ht => by
        rw [Tryd.params8] at ht
        have hm : t ∈ [3, 47] := by
          have := Array.mem_of_getElem? ht
          simpa using this
        have hall : ([3, 47].all fun u => !Tryd.prog.wantsStandIn u) = true := by kernel_rfl
        exact (show Tryd.prog.wantsStandIn t = false by simpa using List.all_eq_true.1 hall t hm)⟩)
    (by kernel_rfl)
end Go.Proofs.YtlpkaelgeeecoaaDoor
