/-
  CoinText: the row and the tied card.
-/
import Derived.Test.YtagkplcomhomcaaDoorReadCard
import Derived.Test.YtagkplcomhomcaaDoorCoinText
import Derived.Lib.LaidTab
namespace Go.Proofs.YtagkplcomhomcaaDoor
open Go.ChangeShapes Go.WideShapes Go.ChangeAt Go.WideMaps Go.WideElems Go.RowKit

theorem text_filter : (Rows.coinTextRow.laid.filter fun x => ["unicode/utf8.first"].contains x.1) = [("unicode/utf8.first", Rows.laid_unicode_utf8_first)] := by kernel_rfl

theorem text_met (os : Os) (args : Array Value) : laidMet Tryd.prog Rows.coinTextRow.laid (((World.doorLaid Tryd.prog 400 os).layVars Tryd.prog [("unicode/utf8.first", Rows.laid_unicode_utf8_first)]).forCall (fun _ _ => 0) ⟨#[], args, []⟩).memory := by
  refine laidMet_layVars (w0 := World.doorLaid Tryd.prog 400 os) ["unicode/utf8.first"] ((List.range (World.doorLaid Tryd.prog 400 os).heap.size).filter fun b => b != 16) ?_ ?_ ?_ ?_
  · rw [text_filter]; simp [World.memory, World.forCall, Input.heap]
  · rw [text_filter]; exact read_fits os
  · rw [text_filter]; kernel_rfl
  · exact LaidIn.of_run _ 8 (by kernel_rfl) (by kernel_rfl) (by kernel_rfl) (by kernel_rfl)
theorem text_door (os : Os) (args : Array Value) : laidMetH Tryd.prog Rows.coinTextRow.laid (((World.doorLaid Tryd.prog 400 os).layVars Tryd.prog [("unicode/utf8.first", Rows.laid_unicode_utf8_first)]).forCall (fun _ _ => 0) ⟨#[], args, []⟩).memory := by
  rw [MakeChecks.laidMetH_plain _ _ _ (by kernel_rfl)]
  exact text_met os args

def sentTwo : List (String × Nat × List UInt8) := [("statute/api.ErrText", 0, [115, 116, 97, 116, 117, 116, 101, 58, 32, 116, 101, 120, 116]), ("statute/api.ErrCoin", 2, [115, 116, 97, 116, 117, 116, 101, 58, 32, 97, 109, 111, 117, 110, 116])]
theorem sentTwo_at : ∀ x, x ∈ sentTwo → Tryd.prog.globalNamed x.1 = some x.2.1 ∧ (Tryd.prog.globals[x.2.1]?).map (·.type) = some 23 := by
  have h1 : (sentTwo.map fun x => Tryd.prog.globalNamed x.1) = sentTwo.map fun x => some x.2.1 := by kernel_rfl
  have h2 : (sentTwo.map fun x => (Tryd.prog.globals[x.2.1]?).map (·.type)) = sentTwo.map fun _ => some 23 := by kernel_rfl
  intro x hx
  exact ⟨List.map_inj_left.1 h1 x hx, List.map_inj_left.1 h2 x hx⟩

theorem text_laid {W : World} (h : laidMetH Tryd.prog Rows.coinTextRow.laid W) : Lib.TabIs Tryd.prog W "internal/strconv.uint64pow10" .u64 Lib.pow10Tab ∧ ∃ a2, W.cell? ⟨2, 0, none⟩ = some (.iface 144 (.pointer (some a2))) := by
  rw [MakeChecks.laidMetH_plain _ _ _ (by kernel_rfl)] at h
  have h0 : laidMet Tryd.prog (("math/bits.deBruijn32tab", Rows.laid_math_bits_deBruijn32tab) :: ("math/bits.deBruijn64tab", Rows.laid_math_bits_deBruijn64tab) :: ("internal/strconv.uint64pow10", Rows.laid_internal_strconv_uint64pow10) :: ("unicode/utf8.acceptRanges", Rows.laid_unicode_utf8_acceptRanges) :: (sentTwo.map (fun x => (x.1, sentD x.2.2)) ++ [("unicode/utf8.first", Rows.laid_unicode_utf8_first)])) W := h
  have h1 := h0.tail.tail
  refine ⟨?_, ?_⟩
  · have e : (Rows.laid_internal_strconv_uint64pow10 : DataW Unit) = Lib.tabData .u64 Lib.pow10Tab := by kernel_rfl
    rw [e] at h1
    exact Lib.tabIs_of_head (P := Tryd.prog) (g := 12) (t := 128) (e := 63) (n := 20) (by kernel_rfl) (by kernel_rfl) (by kernel_rfl) Tryd.underlying63 (by kernel_rfl) (by kernel_rfl) h1
  · obtain ⟨ps, hl, hnd, hrows⟩ := h1.tail.tail
    obtain ⟨al, hlen, _, _, hcell⟩ := sents_of Tryd.underlying23 Tryd.row144 Tryd.underlying144 Tryd.underlying163 rfl rfl Tryd.underlying9 Tryd.cells163 Tryd.cells9 W sentTwo _ ps sentTwo_at hl hnd hrows
    have hlen' : al.length = 2 := hlen
    obtain ⟨b0, b1, rfl⟩ : ∃ b0 b1, al = [b0, b1] := by
      match al, hlen' with
      | [b0, b1], _ => exact ⟨b0, b1, rfl⟩
    exact ⟨b1, hcell 1 _ _ rfl rfl⟩

theorem wf_i64t {n : Int} (h : (Lit.int .i64 n).wf = true) : I64 n := by
  have h' : (decide (IntKind.i64.min ≤ n) && decide (n ≤ IntKind.i64.max)) = true := h
  have e1 : IntKind.i64.min = -9223372036854775808 := by decide
  have e2 : IntKind.i64.max = 9223372036854775807 := by decide
  rw [e1, e2] at h'
  simpa [I64] using h'

set_option maxRecDepth 100000 in
theorem text_lifted (os : Os) (started : os.Started) (H : Type) (enc : TypeId × Value → H) :
    ReturnsInHanded {} Tryd.checked os 5 .any (fun w args => (Rows.coinTextSpec.pre enc Tryd.prog Tryd.f5 [] false w args ∧ laidMetH Tryd.prog Rows.coinTextRow.laid w) ∧ sizedMet enc Tryd.prog Tryd.f5 (OpenSpec.ofChange Rows.coinTextSpec) false w args)
      (Rows.coinTextSpec.post enc Tryd.prog Tryd.f5 false true false false) := by
  refine returns_and_shaped (C := Tryd.checked) (X := fun w _ => laidMetH Tryd.prog Rows.coinTextRow.laid w) (fun _ _ _ hh h => h.of_heap hh) Tryd.own4 started (by kernel_rfl) Tryd.func5
    (ChangeSpec.witness_shaped (enc := enc) (C := Tryd.checked) (os := os) (X := fun w _ => laidMetH Tryd.prog Rows.coinTextRow.laid w) false ((World.doorLaid Tryd.prog 400 os).layVars Tryd.prog [("unicode/utf8.first", Rows.laid_unicode_utf8_first)]) #[.int .i64 0] 8 (World.layVars_os _ _ _) (World.shaped_of_ZipB (by kernel_rfl) (by kernel_rfl)) (by kernel_rfl) (by kernel_rfl) (by kernel_rfl) (text_door os _)) ?_
  intro W base args ds gs before hval0 hW hL hsh
  have hW' := hW
  obtain ⟨p, q, hA0, hV, rfl, hfz, hnd⟩ := hW
  have hA : DataW.TrodAll enc Tryd.prog W 0 (fun _ => true) true Tryd.f5.params.toList args.toList ds p := hA0
  have hval : ∀ (j : Nat) t v, Tryd.f5.params[j]? = some t → args[j]? = some v → Value.okWide Tryd.prog W .any base t v := hval0
  rw [Tryd.params5] at hA hval
  obtain ⟨v0, d0, rfl, rfl, h0⟩ := trodAll_one hA
  obtain ⟨rfl, rfl⟩ := trodVars_none hV
  obtain ⟨n0, rfl, rfl, rfl, hw0⟩ := open_int Tryd.underlying3 (hval 0 3 v0 rfl rfl) h0
  obtain ⟨htab, a2, c2⟩ := text_laid hL
  obtain ⟨m, hm⟩ := maxLen_of hsh
  clear hA0 hval0
  simp only [List.append_nil] at hW'
  refine (coinText_walk n0 (wf_i64t hw0) m a2 W hm c2 htab).mono fun e W' ⟨he, hb⟩ => ?_
  subst he
  have e1 : Rows.coinTextSpec.fn H ([.lit (.int .i64 n0)] ++ []) = { results := [.lit (.bool true)], args := [.lit (.int .i64 n0)] } := rfl
  refine ⟨_, rfl, _, _, _, [], [], [], hW', ?_, ?_, ?_, hb.frame _, fun h => by cases h⟩
  · rw [e1]; exact trodAll_mk1 (shut_bool Tryd.underlying4 true)
  · rw [e1]; exact trodAll_mk1 (shut_int Tryd.underlying3 hw0)
  · rw [e1]; rfl

theorem text_row : Rows.CoinTextSaid :=
  OpenClaim.holds_of_wide 5 Tryd.f5 rfl rfl rfl rfl rfl rfl rfl ⟨rfl, rfl, rfl, rfl, rfl⟩ rfl rfl rfl rfl rfl (by kernel_rfl) Tryd.func5 (by kernel_rfl)
    (of_decide_eq_true (by kernel_rfl)) (by unfold Func.isWrapper; rw [if_neg (of_decide_eq_false (by kernel_rfl))]; exact ⟨rfl, rfl⟩)
    (fun os started H enc _ => text_lifted os started H enc)

theorem coinText_holds : Rows.CoinTextCardSaid :=
  Claim7.holds_tied_plain_at .later [] [.data, .data, .data, .data, .sentinel, .sentinel, .pinned] true (true, "d81426c24f3dd43c8cc0b17de594060d93da98f34297bacd0d6a24c29d7149e2") true
    text_row (fun _ h => by cases h) (by kernel_rfl) (fun _ h => by cases h) coinText_row_tie rfl ⟨rfl, rfl⟩ (by kernel_rfl) rfl
    (fun f fn hf hfn => by
      obtain rfl : f = 5 := Option.some.inj ((show Tryd.prog.funcNamed "statute/statutelaw1.CoinText" = some 5 by kernel_rfl).symm.trans hf) |>.symm
      obtain rfl : fn = Tryd.f5 := (Option.some.inj (Tryd.func5.symm.trans hfn)).symm
      exact ⟨by kernel_rfl, fun j t ht => by
        rw [Tryd.params5] at ht
        have hm : t ∈ [3] := by
          have := Array.mem_of_getElem? ht
          simpa using this
        have hall : ([3].all fun u => !Tryd.prog.wantsStandIn u) = true := by kernel_rfl
        exact (show Tryd.prog.wantsStandIn t = false by simpa using List.all_eq_true.1 hall t hm)⟩)
    (by kernel_rfl)
end Go.Proofs.YtagkplcomhomcaaDoor
