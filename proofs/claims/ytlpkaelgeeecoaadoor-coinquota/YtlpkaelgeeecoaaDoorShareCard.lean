/-
  CoinShare: the row and the tied card.
-/
import Derived.Test.YtlpkaelgeeecoaaDoorSents
import Derived.Test.YtlpkaelgeeecoaaDoorCoinShare
import Derived.Test.YtlpkaelgeeecoaaDoorTie
import Derived.Test.YtlpkaelgeeecoaaDoorCards
import Derived.ProofKit
import Derived.LaidMore
import Derived.OpenShut
import Derived.Stop.Joined
import Derived.SevenTiedAt
import Derived.Lay
import Derived.HandedShaped
import Derived.Shelf.Vars
import Derived.ChangeSlices
import Derived.ChangeOld
import Derived.Carry
namespace Go.Proofs.YtlpkaelgeeecoaaDoor
open Go.ChangeShapes Go.WideShapes Go.ChangeAt Go.WideMaps Go.WideElems Go.RowKit

/-- The builder for a row that lists variables, the world's shape kept beside what they read as. -/
theorem returns_and_shaped {H : Type} {enc : TypeId × Value → H} {a : Assume} {C : Checked} {os : Os} {f : FuncId} {fn : Func} {s : ChangeSpec} {conds : List PathCond} {apart fresh handsOn again : Bool} {X : World → Array Value → Prop}
    (hX : ∀ (w w' : World) (args : Array Value), w.heap = w'.heap → X w args → X w' args)
    (own : ownKnob C.prog.godebug = none) (started : os.Started) (noInit : C.prog.inits.idxOf? f = none) (hfn : C.prog.funcs[f]? = some fn)
    (witness : ∃ (w : World) (tape : Tape) (i : Input), w.os = os ∧ (w.forCall tape i).Shaped C.prog ∧ i.vars = [] ∧ Input.okWide C.prog (w.forCall tape i) .any w.heap.size f i ∧
      ((s.pre enc C.prog fn conds apart (w.forCall tape i).memory i.args ∧ X (w.forCall tape i).memory i.args) ∧ sizedMet enc C.prog fn (OpenSpec.ofChange s) apart (w.forCall tape i).memory i.args) ∧ a.holds C.prog (lone (Frame.enter C.prog f i.args .normal) [] (w.forCall tape i)))
    (contract : ∀ (W : World) (base : Nat) (args : Array Value) (ds gs : List (DataW H)) (before : List MemPlace),
      (∀ (j : Nat) t v, fn.params[j]? = some t → args[j]? = some v → Value.okWide C.prog W .any base t v) →
      DataW.Whole enc C.prog fn.params.toList s.vars apart W args.toList ds gs before →
      X W args → W.ShapedOpen C.prog →
      Calls C.prog f args W fun e W' => ∃ v, e = .returned v ∧ s.post enc C.prog fn apart fresh handsOn again W args v W') :
    ReturnsInHanded a C os f .any (fun w args => (s.pre enc C.prog fn conds apart w args ∧ X w args) ∧ sizedMet enc C.prog fn (OpenSpec.ofChange s) apart w args) (s.post enc C.prog fn apart fresh handsOn again) := by
  refine returnsInHanded_of_calls own started noInit witness ?_
  intro w tape i _ hsh _ hok hpre _
  obtain ⟨_, _, _, fn', hfn', _, _, _, _, hval⟩ := hok
  obtain rfl : fn' = fn := Option.some.inj (hfn'.symm.trans hfn)
  obtain ⟨⟨⟨ds, gs, before, hw, _⟩, hx⟩, _⟩ := hpre
  refine (contract (w.forCall tape i) w.heap.size i.args ds gs before hval (DataW.Whole.of_heap (w' := w.forCall tape i) (by rfl) hw) (hX _ _ _ (by rfl) hx) hsh).mono fun e W' ⟨v, he, hp⟩ => ?_
  subst he
  exact ChangeSpec.post_blind hp

theorem Tryd.own3 : ownKnob Tryd.prog.godebug = none := by kernel_rfl
theorem Tryd.laidOut3 : laidOutB Tryd.prog = true := by kernel_rfl

theorem share_filter : ((Rows.coinShareRow.laid.filter fun x => x.2.handleName?.isNone).filter fun x => ["unicode/utf8.first"].contains x.1) = [("unicode/utf8.first", Rows.laid_unicode_utf8_first)] := by kernel_rfl
theorem first_fits (os : Os) : (World.doorLaid Tryd.prog 400 os).layFits Tryd.prog [("unicode/utf8.first", Rows.laid_unicode_utf8_first)] ((List.range (World.doorLaid Tryd.prog 400 os).heap.size).filter fun b => b != 16) = true := by kernel_rfl
theorem share_met (os : Os) (args : Array Value) : laidMet Tryd.prog (Rows.coinShareRow.laid.filter fun x => x.2.handleName?.isNone) (((World.doorLaid Tryd.prog 400 os).layVars Tryd.prog [("unicode/utf8.first", Rows.laid_unicode_utf8_first)]).forCall (fun _ _ => 0) ⟨#[], args, []⟩).memory := by
  refine laidMet_layVars (w0 := World.doorLaid Tryd.prog 400 os) ["unicode/utf8.first"] ((List.range (World.doorLaid Tryd.prog 400 os).heap.size).filter fun b => b != 16) ?_ ?_ ?_ ?_
  · rw [share_filter]; simp [World.memory, World.forCall, Input.heap]
  · rw [share_filter]; exact first_fits os
  · rw [share_filter]; kernel_rfl
  · exact LaidIn.of_run _ 8 (by kernel_rfl) (by kernel_rfl) (by kernel_rfl) (by kernel_rfl)
theorem share_door (os : Os) (args : Array Value) : laidMetH Tryd.prog Rows.coinShareRow.laid (((World.doorLaid Tryd.prog 400 os).layVars Tryd.prog [("unicode/utf8.first", Rows.laid_unicode_utf8_first)]).forCall (fun _ _ => 0) ⟨#[], args, []⟩).memory :=
  laidMetH_of_parts (share_met os args) (by kernel_rfl)

theorem share_laid {W : World} (h : laidMetH Tryd.prog Rows.coinShareRow.laid W) : ∃ p, Laid W p := by
  obtain ⟨h1, h2⟩ := laidMetH_split (rest := ("unicode/utf8.acceptRanges", Rows.laid_unicode_utf8_acceptRanges) :: (sentList.map (fun x => (x.1, sentD x.2.2)) ++ [("unicode/utf8.first", Rows.laid_unicode_utf8_first)])) (h := ("errors.errorType", Rows.laid_errors_errorType)) (hs := []) (by kernel_rfl) (by kernel_rfl) h
  exact laid_of h1.tail h2
theorem maxLen_of {W : World} (h : W.ShapedOpen Tryd.prog) : ∃ m, W.cell? ⟨13, 0, none⟩ = some (.int .i64 m) :=
  cell_of_shapedOpen_int (g := 13) (t := 3) (zero := #[.int .i64 0]) h (of_decide_eq_true (by kernel_rfl)) (by kernel_rfl) rfl (by kernel_rfl) (by kernel_rfl) Tryd.underlying3

set_option maxRecDepth 100000 in
/-- The law's slice, out of its reading. -/
theorem wts_arg {H : Type} {enc : TypeId × Value → H} {W : World} {base : Nat} {v : Value} {d : DataW H} {ps : List MemPlace}
    (hval : Value.okWide Tryd.prog W .any base 47 v) (hd : DataW.Trod enc Tryd.prog W 0 (fun _ => true) true 47 v d ps) :
    ∃ o n cap wv, v = .slice o n cap ∧ Wts W o n wv := by
  obtain ⟨o, n, cap, rfl⟩ := okWide_slice Tryd.underlying47 hval
  obtain ⟨fuel, hf⟩ := hd
  have hcs : (Value.slice o n cap).cells.toList = [.slice o n cap] := rfl
  rw [hcs] at hf
  rcases open_ints Tryd.underlying47 Tryd.underlying3 (by kernel_rfl) hf with ⟨h, _⟩ | ⟨a, len, cap', zs, h, _, hl, hm, hz, _, hx, _⟩
  · injection h with h1 _
    injection h1 with h1 h2 h3
    subst h1 h2 h3
    exact ⟨_, _, _, fun _ => 0, rfl, .inl rfl⟩
  · injection h with h1 _
    injection h1 with h1 h2 h3
    subst h1 h2 h3
    refine ⟨_, _, _, fun i => zs.getD i 0, rfl, ?_⟩
    have hzc : zs.length = cap := by simpa using hz
    by_cases h0 : n = 0
    · exact .inl h0
    · right
      have c0 := hx 0 (by omega)
      have hc0 : W.cell? a = some (.int .i64 (zs.getD 0 0)) := by simpa [Addr.add] using c0
      have hs := World.cell?_spot hc0
      obtain ⟨b, off, sp⟩ := a
      have hs' : sp = none := hs
      subst hs'
      refine ⟨b, off, rfl, ?_, ?_⟩
      · rcases Nat.lt_or_ge b W.heap.size with h | h
        · exact h
        · have : W.heap[b]? = none := by simp [h]
          simp [World.cell?, this] at hc0
      · intro i hi
        have := hx i (by omega)
        rwa [WideShapes.add_plain] at this

set_option maxRecDepth 100000 in
theorem share_lifted (os : Os) (started : os.Started) (H : Type) (enc : TypeId × Value → H) :
    ReturnsInHanded {} Tryd.checked os 7 .any (fun w args => (Rows.coinShareSpec.pre enc Tryd.prog Tryd.f7 [] false w args ∧ laidMetH Tryd.prog Rows.coinShareRow.laid w) ∧ sizedMet enc Tryd.prog Tryd.f7 (OpenSpec.ofChange Rows.coinShareSpec) false w args)
      (Rows.coinShareSpec.post enc Tryd.prog Tryd.f7 false true false false) := by
  refine returns_and_shaped (C := Tryd.checked) (X := fun w _ => laidMetH Tryd.prog Rows.coinShareRow.laid w) (fun _ _ _ hh h => h.of_heap hh) Tryd.own3 started (by kernel_rfl) Tryd.func7
    (ChangeSpec.witness_shaped (enc := enc) (C := Tryd.checked) (os := os) (X := fun w _ => laidMetH Tryd.prog Rows.coinShareRow.laid w) false ((World.doorLaid Tryd.prog 400 os).layVars Tryd.prog [("unicode/utf8.first", Rows.laid_unicode_utf8_first)]) #[.int .i64 0, .slice none 0 0] 8 (World.layVars_os _ _ _) (World.shaped_of_ZipB (by kernel_rfl) (by kernel_rfl)) (by kernel_rfl) (by kernel_rfl) (by kernel_rfl) (share_door os _)) ?_
  intro W base args ds gs before hval0 hW hL hsh
  have hW' := hW
  obtain ⟨p, q, hA0, hV, rfl, hfz, hnd⟩ := hW
  have hA : DataW.TrodAll enc Tryd.prog W 0 (fun _ => true) true Tryd.f7.params.toList args.toList ds p := hA0
  have hlt := DataW.TrodAll.lt hA
  have hval : ∀ (j : Nat) t v, Tryd.f7.params[j]? = some t → args[j]? = some v → Value.okWide Tryd.prog W .any base t v := hval0
  rw [Tryd.params7] at hA hval
  obtain ⟨v0, v1, d0, d1, p0, p1, rfl, rfl, rfl, h0, h1⟩ := trodAll_two hA
  obtain ⟨rfl, rfl⟩ := trodVars_none hV
  obtain ⟨n0, rfl, rfl, rfl, hw0⟩ := open_int Tryd.underlying3 (hval 0 3 v0 rfl rfl) h0
  obtain ⟨o, n, cap, wv, rfl, hWt⟩ := wts_arg (hval 1 47 v1 rfl rfl) h1
  obtain ⟨ad, L⟩ := share_laid hL
  obtain ⟨m, hm⟩ := maxLen_of hsh
  have hal := alive_any m (ad 2) W hm (L.cell 2 (by omega))
  clear hA0 hval0
  simp only [List.append_nil] at hW'
  refine (coinShare_walk n0 o n cap wv ad W L hWt hal).mono fun e W' ⟨he, hb⟩ => ?_
  subst he
  have e1 : Rows.coinShareSpec.fn H ([.lit (.int .i64 n0), d1] ++ []) = { results := [.lit (.bool true)], args := [.lit (.int .i64 n0), d1] } := rfl
  refine ⟨_, rfl, _, _, _, [], p1, [], hW', ?_, ?_, ?_, hb.frame _, fun h => by cases h⟩
  · rw [e1]; exact trodAll_mk1 (shut_bool Tryd.underlying4 true)
  · rw [e1]; exact trodAll_mk2 (shut_int Tryd.underlying3 hw0) (Below.trod Tryd.laidOut3 (by kernel_rfl) (of_decide_eq_true (by kernel_rfl)) h1 hb (fun x hx => hlt x (by simpa using hx)))
  · rw [e1]; rfl

theorem share_row : Rows.CoinShareSaid :=
  OpenClaim.holds_of_wide 7 Tryd.f7 rfl rfl rfl rfl rfl rfl rfl ⟨rfl, rfl, rfl, rfl, rfl⟩ rfl rfl rfl rfl rfl (by kernel_rfl) Tryd.func7 (by kernel_rfl)
    (of_decide_eq_true (by kernel_rfl)) (by unfold Func.isWrapper; rw [if_neg (of_decide_eq_false (by kernel_rfl))]; exact ⟨rfl, rfl⟩)
    (fun os started H enc _ => share_lifted os started H enc)

theorem coinShare_holds : Rows.CoinShareCardSaid :=
  Claim7.holds_tied_plain_at .later [] [.data, .handle, .sentinel, .sentinel, .sentinel, .sentinel, .sentinel, .sentinel, .sentinel, .sentinel, .sentinel, .sentinel, .sentinel, .pinned] true (true, "28abf4027e376a676f12338d6e07d6c9b117203dc9ede7d0161027e1b531b788") true
    share_row (fun _ h => by cases h) (by kernel_rfl) (fun _ h => by cases h) coinShare_row_tie rfl ⟨rfl, rfl⟩ (by kernel_rfl) rfl
    (fun f fn hf hfn => by
      obtain rfl : f = 7 := Option.some.inj ((show Tryd.prog.funcNamed "statute/statutelaw1.CoinShare" = some 7 by kernel_rfl).symm.trans hf) |>.symm
      obtain rfl : fn = Tryd.f7 := (Option.some.inj (Tryd.func7.symm.trans hfn)).symm
      exact ⟨by kernel_rfl, fun j t ht => by
        rw [Tryd.params7] at ht
        have hm : t ∈ [3, 47] := by
          have := Array.mem_of_getElem? ht
          simpa using this
        have hall : ([3, 47].all fun u => !Tryd.prog.wantsStandIn u) = true := by kernel_rfl
        exact (show Tryd.prog.wantsStandIn t = false by simpa using List.all_eq_true.1 hall t hm)⟩)
    (by kernel_rfl)
end Go.Proofs.YtlpkaelgeeecoaaDoor
