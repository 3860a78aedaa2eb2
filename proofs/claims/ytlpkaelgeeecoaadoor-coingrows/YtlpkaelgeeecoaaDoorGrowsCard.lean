/-
  CoinGrows: the row and the tied card.
-/
import Derived.Test.YtlpkaelgeeecoaaDoorSents
import Derived.Test.YtlpkaelgeeecoaaDoorGrows2
import Derived.Test.YtlpkaelgeeecoaaDoorTie
import Derived.Test.YtlpkaelgeeecoaaDoorCards
import Derived.ProofKit
import Derived.LaidMore
import Derived.OpenShut
import Derived.Stop.Joined
import Derived.SevenTiedAt
import Derived.Lay
import Derived.HandedShaped
import Derived.Shelf.Vars
import Derived.ChangeSlices
import Derived.MakeChecks
import Derived.Deep.SlicePairs
import Derived.ChangeOld
import Derived.Carry
namespace Go.Proofs.YtlpkaelgeeecoaaDoor
open Go.ChangeShapes Go.WideShapes Go.ChangeAt Go.WideMaps Go.WideElems Go.RowKit

/-- The builder for a row that lists variables, the world's shape kept beside what they read as. -/
theorem returns_and_shaped {H : Type} {enc : TypeId × Value → H} {a : Assume} {C : Checked} {os : Os} {f : FuncId} {fn : Func} {s : ChangeSpec} {conds : List PathCond} {apart fresh handsOn again : Bool} {X : World → Array Value → Prop}
    (hX : ∀ (w w' : World) (args : Array Value), w.heap = w'.heap → X w args → X w' args)
    (own : ownKnob C.prog.godebug = none) (started : os.Started) (noInit : C.prog.inits.idxOf? f = none) (hfn : C.prog.funcs[f]? = some fn)
    (witness : ∃ (w : World) (tape : Tape) (i : Input), w.os = os ∧ (w.forCall tape i).Shaped C.prog ∧ i.vars = [] ∧ Input.okWide C.prog (w.forCall tape i) .any w.heap.size f i ∧
      ((s.pre enc C.prog fn conds apart (w.forCall tape i).memory i.args ∧ X (w.forCall tape i).memory i.args) ∧ sizedMet enc C.prog fn (OpenSpec.ofChange s) apart (w.forCall tape i).memory i.args) ∧ a.holds C.prog (lone (Frame.enter C.prog f i.args .normal) [] (w.forCall tape i)))
    (contract : ∀ (W : World) (base : Nat) (args : Array Value) (ds gs : List (DataW H)) (before : List MemPlace),
      (∀ (j : Nat) t v, fn.params[j]? = some t → args[j]? = some v → Value.okWide C.prog W .any base t v) →
      DataW.Whole enc C.prog fn.params.toList s.vars apart W args.toList ds gs before →
      X W args → W.ShapedOpen C.prog →
      Calls C.prog f args W fun e W' => ∃ v, e = .returned v ∧ s.post enc C.prog fn apart fresh handsOn again W args v W') :
    ReturnsInHanded a C os f .any (fun w args => (s.pre enc C.prog fn conds apart w args ∧ X w args) ∧ sizedMet enc C.prog fn (OpenSpec.ofChange s) apart w args) (s.post enc C.prog fn apart fresh handsOn again) := by
  refine returnsInHanded_of_calls own started noInit witness ?_
  intro w tape i _ hsh _ hok hpre _
  obtain ⟨_, _, _, fn', hfn', _, _, _, _, hval⟩ := hok
  obtain rfl : fn' = fn := Option.some.inj (hfn'.symm.trans hfn)
  obtain ⟨⟨⟨ds, gs, before, hw, _⟩, hx⟩, _⟩ := hpre
  refine (contract (w.forCall tape i) w.heap.size i.args ds gs before hval (DataW.Whole.of_heap (w' := w.forCall tape i) (by rfl) hw) (hX _ _ _ (by rfl) hx) hsh).mono fun e W' ⟨v, he, hp⟩ => ?_
  subst he
  exact ChangeSpec.post_blind hp

theorem Tryd.own3 : ownKnob Tryd.prog.godebug = none := by kernel_rfl
theorem Tryd.laidOut3 : laidOutB Tryd.prog = true := by kernel_rfl

theorem first_fits (os : Os) : (World.doorLaid Tryd.prog 400 os).layFits Tryd.prog [("unicode/utf8.first", Rows.laid_unicode_utf8_first)] ((List.range (World.doorLaid Tryd.prog 400 os).heap.size).filter fun b => b != 16) = true := by kernel_rfl
theorem maxLen_of {W : World} (h : W.ShapedOpen Tryd.prog) : ∃ m, W.cell? ⟨13, 0, none⟩ = some (.int .i64 m) :=
  cell_of_shapedOpen_int (g := 13) (t := 3) (zero := #[.int .i64 0]) h (of_decide_eq_true (by kernel_rfl)) (by kernel_rfl) rfl (by kernel_rfl) (by kernel_rfl) Tryd.underlying3


theorem grows_filter : (Rows.coinGrowsRow.laid.filter fun x => ["unicode/utf8.first"].contains x.1) = [("unicode/utf8.first", Rows.laid_unicode_utf8_first)] := by kernel_rfl

theorem grows_met (os : Os) (args : Array Value) : laidMet Tryd.prog Rows.coinGrowsRow.laid (((World.doorLaid Tryd.prog 400 os).layVars Tryd.prog [("unicode/utf8.first", Rows.laid_unicode_utf8_first)]).forCall (fun _ _ => 0) ⟨#[], args, []⟩).memory := by
  refine laidMet_layVars (w0 := World.doorLaid Tryd.prog 400 os) ["unicode/utf8.first"] ((List.range (World.doorLaid Tryd.prog 400 os).heap.size).filter fun b => b != 16) ?_ ?_ ?_ ?_
  · rw [grows_filter]; simp [World.memory, World.forCall, Input.heap]
  · rw [grows_filter]; exact first_fits os
  · rw [grows_filter]; kernel_rfl
  · exact LaidIn.of_run _ 8 (by kernel_rfl) (by kernel_rfl) (by kernel_rfl) (by kernel_rfl)
theorem grows_door (os : Os) (args : Array Value) : laidMetH Tryd.prog Rows.coinGrowsRow.laid (((World.doorLaid Tryd.prog 400 os).layVars Tryd.prog [("unicode/utf8.first", Rows.laid_unicode_utf8_first)]).forCall (fun _ _ => 0) ⟨#[], args, []⟩).memory := by
  rw [MakeChecks.laidMetH_plain _ _ _ (by kernel_rfl)]
  exact grows_met os args

def sentFour : List (String × Nat × List UInt8) := [("statute/api.ErrText", 0, [115, 116, 97, 116, 117, 116, 101, 58, 32, 116, 101, 120, 116]), ("statute/api.ErrCoin", 1, [115, 116, 97, 116, 117, 116, 101, 58, 32, 97, 109, 111, 117, 110, 116]), ("statute/api.ErrOrder", 3, [115, 116, 97, 116, 117, 116, 101, 58, 32, 111, 114, 100, 101, 114]), ("statute/api.ErrKind", 2, [115, 116, 97, 116, 117, 116, 101, 58, 32, 107, 105, 110, 100])]
theorem sentFour_at : ∀ x, x ∈ sentFour → Tryd.prog.globalNamed x.1 = some x.2.1 ∧ (Tryd.prog.globals[x.2.1]?).map (·.type) = some 24 := by
  have h1 : (sentFour.map fun x => Tryd.prog.globalNamed x.1) = sentFour.map fun x => some x.2.1 := by kernel_rfl
  have h2 : (sentFour.map fun x => (Tryd.prog.globals[x.2.1]?).map (·.type)) = sentFour.map fun _ => some 24 := by kernel_rfl
  intro x hx
  exact ⟨List.map_inj_left.1 h1 x hx, List.map_inj_left.1 h2 x hx⟩

theorem grows_laid {W : World} (h : laidMetH Tryd.prog Rows.coinGrowsRow.laid W) : ∃ a2 a7, W.cell? ⟨1, 0, none⟩ = some (.iface 157 (.pointer (some a2))) ∧ W.cell? ⟨3, 0, none⟩ = some (.iface 157 (.pointer (some a7))) := by
  rw [MakeChecks.laidMetH_plain _ _ _ (by kernel_rfl)] at h
  have h0 : laidMet Tryd.prog (("unicode/utf8.acceptRanges", Rows.laid_unicode_utf8_acceptRanges) :: (sentFour.map (fun x => (x.1, sentD x.2.2)) ++ [("unicode/utf8.first", Rows.laid_unicode_utf8_first)])) W := h
  obtain ⟨ps, hl, hnd, hrows⟩ := h0.tail
  obtain ⟨al, hlen, _, _, hcell⟩ := sents_of Tryd.underlying24 Tryd.rowES Tryd.underlying157 Tryd.underlying176 rfl rfl Tryd.underlying9 Tryd.cellsES Tryd.cells9 W sentFour _ ps sentFour_at hl hnd hrows
  have hlen' : al.length = 4 := hlen
  obtain ⟨b0, b1, b2, b3, rfl⟩ : ∃ b0 b1 b2 b3, al = [b0, b1, b2, b3] := by
    match al, hlen' with
    | [b0, b1, b2, b3], _ => exact ⟨b0, b1, b2, b3, rfl⟩
  exact ⟨b1, b2, hcell 1 _ _ rfl rfl, hcell 2 _ _ rfl rfl⟩

theorem wf_i64 {n : Int} (h : (Lit.int .i64 n).wf = true) : -9223372036854775808 ≤ n ∧ n ≤ 9223372036854775807 := by
  have h' : (decide (IntKind.i64.min ≤ n) && decide (n ≤ IntKind.i64.max)) = true := h
  have e1 : IntKind.i64.min = -9223372036854775808 := by decide
  have e2 : IntKind.i64.max = 9223372036854775807 := by decide
  rw [e1, e2] at h'
  simpa using h'

set_option maxRecDepth 100000 in
/-- The law's slice, out of its reading. -/
theorem grows_arg {H : Type} {enc : TypeId × Value → H} {W : World} {base : Nat} {v : Value} {d : DataW H} {ps : List MemPlace}
    (hval : Value.okWide Tryd.prog W .any base 40 v) (hd : DataW.Trod enc Tryd.prog W 0 (fun _ => true) true 40 v d ps) :
    ∃ o n cap, v = .slice o n cap ∧ n ≤ maxLen ∧ ∃ l : List (Int × Int), l.length = n ∧ Arg W o l := by
  obtain ⟨o, n, cap, rfl⟩ := okWide_slice Tryd.underlying40 hval
  obtain ⟨fuel, hf⟩ := hd
  have hcs : (Value.slice o n cap).cells.toList = [.slice o n cap] := rfl
  rw [hcs] at hf
  rcases Deep.open_slice_pairs Tryd.underlying40 Tryd.underlying45 (by kernel_rfl) rfl rfl (by kernel_rfl) (by kernel_rfl) hf with ⟨h, _⟩ | ⟨a, len, cap', m, n', V0, V1, D0, D1, P0, P1, h, _, hl, hm, hmm, _, hx⟩
  · injection h with h1 _
    injection h1 with h1 h2 h3
    subst h1 h2 h3
    exact ⟨_, _, _, rfl, Nat.zero_le _, [], rfl, .inl rfl⟩
  · injection h with h1 _
    injection h1 with h1 h2 h3
    subst h1 h2 h3
    refine ⟨_, _, _, rfl, Nat.le_trans hl hm, ?_⟩
    have hmc : m = cap := by simpa using hmm
    subst hmc
    have hz : ∀ i, i < n → ∃ p : Int × Int, V0 i = .int .i64 p.1 ∧ V1 i = .int .i64 p.2 := by
      intro i hi
      obtain ⟨_, _, g0, g1⟩ := hx i (by omega)
      obtain ⟨x, e0, _⟩ := DataW.trod_int Tryd.underlying3 g0
      obtain ⟨y, e1, _⟩ := DataW.trod_int Tryd.underlying3 g1
      exact ⟨(x, y), by simpa using e0, by simpa using e1⟩
    let F : Nat → Int × Int := fun i => (match V0 i with | .int _ x => x | _ => 0, match V1 i with | .int _ x => x | _ => 0)
    refine ⟨(List.range n).map F, by simp, ?_⟩
    by_cases h0 : n = 0
    · subst h0; exact .inl rfl
    · right
      obtain ⟨c0, _, _, _⟩ := hx 0 (by omega)
      have hc0 : W.cell? a = some (V0 0) := by simpa [Addr.add] using c0
      have hs := World.cell?_spot hc0
      obtain ⟨b, off, sp⟩ := a
      have hs' : sp = none := hs
      subst hs'
      refine ⟨b, off, rfl, ?_, ?_⟩
      · rcases Nat.lt_or_ge b W.heap.size with h | h
        · exact h
        · have : W.heap[b]? = none := by simp [h]
          simp [World.cell?, this] at hc0
      · intro i p hp
        obtain ⟨hi, hpe⟩ : i < n ∧ F i = p := by
          simp only [List.getElem?_map, Option.map_eq_some_iff] at hp
          obtain ⟨j, hj, e⟩ := hp
          obtain ⟨hj1, hj2⟩ := List.getElem?_eq_some_iff.1 hj
          simp at hj1 hj2
          subst hj2
          exact ⟨hj1, e⟩
        obtain ⟨k0, k1, _, _⟩ := hx i (by omega)
        obtain ⟨q, e0, e1⟩ := hz i hi
        have hq : F i = q := by simp only [F, e0, e1]
        rw [← hpe, hq, ← e0, ← e1]
        rw [WideShapes.add_plain] at k0 k1
        exact ⟨k0, by simpa [Nat.add_assoc] using k1⟩

set_option maxRecDepth 100000 in
theorem grows_lifted (os : Os) (started : os.Started) (H : Type) (enc : TypeId × Value → H) :
    ReturnsInHanded {} Tryd.checked os 6 .any (fun w args => (Rows.coinGrowsSpec.pre enc Tryd.prog Tryd.f6 [] false w args ∧ laidMetH Tryd.prog Rows.coinGrowsRow.laid w) ∧ sizedMet enc Tryd.prog Tryd.f6 (OpenSpec.ofChange Rows.coinGrowsSpec) false w args)
      (Rows.coinGrowsSpec.post enc Tryd.prog Tryd.f6 false true false false) := by
  refine returns_and_shaped (C := Tryd.checked) (X := fun w _ => laidMetH Tryd.prog Rows.coinGrowsRow.laid w) (fun _ _ _ hh h => h.of_heap hh) Tryd.own3 started (by kernel_rfl) Tryd.func6
    (ChangeSpec.witness_shaped (enc := enc) (C := Tryd.checked) (os := os) (X := fun w _ => laidMetH Tryd.prog Rows.coinGrowsRow.laid w) false ((World.doorLaid Tryd.prog 400 os).layVars Tryd.prog [("unicode/utf8.first", Rows.laid_unicode_utf8_first)]) #[.int .i64 0, .int .i64 0, .slice none 0 0] 8 (World.layVars_os _ _ _) (World.shaped_of_ZipB (by kernel_rfl) (by kernel_rfl)) (by kernel_rfl) (by kernel_rfl) (by kernel_rfl) (grows_door os _)) ?_
  intro W base args ds gs before hval0 hW hL hsh
  have hW' := hW
  obtain ⟨p, q, hA0, hV, rfl, hfz, hnd⟩ := hW
  have hA : DataW.TrodAll enc Tryd.prog W 0 (fun _ => true) true Tryd.f6.params.toList args.toList ds p := hA0
  have hlt := DataW.TrodAll.lt hA
  have hval : ∀ (j : Nat) t v, Tryd.f6.params[j]? = some t → args[j]? = some v → Value.okWide Tryd.prog W .any base t v := hval0
  rw [Tryd.params6] at hA hval
  obtain ⟨v0, v1, v2, d0, d1, d2, p0, p1, p2, rfl, rfl, rfl, h0, h1, h2⟩ := trodAll_three hA
  obtain ⟨rfl, rfl⟩ := trodVars_none hV
  obtain ⟨n0, rfl, rfl, rfl, hw0⟩ := open_int Tryd.underlying3 (hval 0 3 v0 rfl rfl) h0
  obtain ⟨n1, rfl, rfl, rfl, hw1⟩ := open_int Tryd.underlying3 (hval 1 3 v1 rfl rfl) h1
  obtain ⟨o, n, cap, rfl, hn, l, hll, hAl⟩ := grows_arg (hval 2 40 v2 rfl rfl) h2
  obtain ⟨a2, a7, c2, c7⟩ := grows_laid hL
  obtain ⟨m, hm⟩ := maxLen_of hsh
  have hal := alive_any m a2 W hm c2
  clear hA0 hval0
  simp only [List.append_nil] at hW'
  have key : Calls Tryd.prog 6 #[.int .i64 n0, .int .i64 n1, .slice o n cap] W fun e w' => e = .returned (.bool true) ∧ Below W.heap.size W w' := by
    by_cases hc : 0 ≤ n0 ∧ 0 ≤ n1 ∧ n1 ≤ 1000000000000 ∧ n0 ≤ 1000000000000 - n1 ∧ n ≤ 60
    · obtain ⟨k1, k2, k3, k4, k5⟩ := hc
      subst hll
      exact grows_main n0 n1 o cap l W a2 a7 k1 k2 k3 k4 k5 hAl hal c2 c7
    · exact grows_out n0 n1 o n cap W hn (wf_i64 hw0) (wf_i64 hw1) hal (by omega)
  refine key.mono fun e W' ⟨he, hb⟩ => ?_
  subst he
  have e1 : Rows.coinGrowsSpec.fn H ([.lit (.int .i64 n0), .lit (.int .i64 n1), d2] ++ []) = { results := [.lit (.bool true)], args := [.lit (.int .i64 n0), .lit (.int .i64 n1), d2] } := rfl
  refine ⟨_, rfl, _, _, _, [], p2, [], hW', ?_, ?_, ?_, hb.frame _, fun h => by cases h⟩
  · rw [e1]; exact trodAll_mk1 (shut_bool Tryd.underlying4 true)
  · rw [e1]; exact trodAll_mk3 (shut_int Tryd.underlying3 hw0) (shut_int Tryd.underlying3 hw1) (Below.trod Tryd.laidOut3 (by kernel_rfl) (of_decide_eq_true (by kernel_rfl)) h2 hb (fun x hx => hlt x (by simpa using hx)))
  · rw [e1]; rfl

theorem grows_row : Rows.CoinGrowsSaid :=
  OpenClaim.holds_of_wide 6 Tryd.f6 rfl rfl rfl rfl rfl rfl rfl ⟨rfl, rfl, rfl, rfl, rfl⟩ rfl rfl rfl rfl rfl (by kernel_rfl) Tryd.func6 (by kernel_rfl)
    (of_decide_eq_true (by kernel_rfl)) (by unfold Func.isWrapper; rw [if_neg (of_decide_eq_false (by kernel_rfl))]; exact ⟨rfl, rfl⟩)
    (fun os started H enc _ => grows_lifted os started H enc)

theorem coinGrows_holds : Rows.CoinGrowsCardSaid :=
  Claim7.holds_tied_plain_at .later [] [.data, .sentinel, .sentinel, .sentinel, .sentinel, .pinned] true (true, "28abf4027e376a676f12338d6e07d6c9b117203dc9ede7d0161027e1b531b788") true
    grows_row (fun _ h => by cases h) (by kernel_rfl) (fun _ h => by cases h) coinGrows_row_tie rfl ⟨rfl, rfl⟩ (by kernel_rfl) rfl
    (fun f fn hf hfn => by
      obtain rfl : f = 6 := Option.some.inj ((show Tryd.prog.funcNamed "statute/statutelaw1.CoinGrows" = some 6 by kernel_rfl).symm.trans hf) |>.symm
      obtain rfl : fn = Tryd.f6 := (Option.some.inj (Tryd.func6.symm.trans hfn)).symm
      exact ⟨by kernel_rfl, fun j t ht => by
        rw [Tryd.params6] at ht
        have hm : t ∈ [3, 40] := by
          have := Array.mem_of_getElem? ht
          simpa using this
        have hall : ([3, 40].all fun u => !Tryd.prog.wantsStandIn u) = true := by kernel_rfl
        exact (show Tryd.prog.wantsStandIn t = false by simpa using List.all_eq_true.1 hall t hm)⟩)
    (by kernel_rfl)
end Go.Proofs.YtlpkaelgeeecoaaDoor
