/-
  SumsSplit: the row and the tied card.
-/
import Derived.Test.YtgfkaheoahkbcaaDoorSuArg
import Derived.Test.YtgfkaheoahkbcaaDoorSuSpl2
import Derived.Test.YtgfkaheoahkbcaaDoorTie
import Derived.Test.YtgfkaheoahkbcaaDoorCards
import Derived.ChangeMaps5
import Derived.LaidLaws
import Derived.LaidHandle
import Derived.Stop.LaidErr
import Derived.Lib.LaidU8
import Derived.MakeChecks
import Derived.LaidMore
import Derived.HandedShaped
namespace Go.Proofs.YtgfkaheoahkbcaaDoor
open Go.ChangeShapes Go.WideShapes Go.ChangeAt Go.WideMaps Go.WideElems Go.RowKit Go.Lib Go.Proofs

def sentD (t : List UInt8) : DataW Unit := .iface "*errors.errorString" (.ptr (.agg [.lit (.string t)]))

theorem Tryd.star : "*" ++ "errors.errorString" = "*errors.errorString" := by decide
theorem Tryd.rowES (u : TypeId) (h : Tryd.prog.typeName? 3 u = some "*errors.errorString") : u = 92 :=
  typeName_ptr_named (nm := "errors.errorString") (by rw [Tryd.star]; kernel_rfl) (by kernel_rfl) (by decide) u (by rw [Tryd.star]; exact h)
theorem Tryd.cellsES : Tryd.prog.cellsOf 114 = 1 := by kernel_rfl
theorem Tryd.cells9 : Tryd.prog.cellsOf 9 = 1 := by kernel_rfl

theorem sents_of {P : Program} {tp te ts ti : TypeId} {ms : Array (String × TypeId)} {f : Field} (hi : P.underlying ti = some (.interface ms)) (hrow : ∀ u, P.typeName? 3 u = some "*errors.errorString" → u = tp)
    (hp : P.underlying tp = some (.pointer te)) (he : P.underlying te = some (.struct #[f])) (hft : f.type = ts) (hfo : f.offset = 0) (hs : P.underlying ts = some .string) (hc : P.cellsOf te = 1) (hcs : P.cellsOf ts = 1) (W : World) : ∀ (xs : List (String × Nat × List UInt8)) (rest : List (String × DataW Unit)) (ps : List MemPlace),
    (∀ x, x ∈ xs → P.globalNamed x.1 = some x.2.1 ∧ (P.globals[x.2.1]?).map (·.type) = some ti) →
    DataW.LaidVars P W (xs.map (fun x => (x.1, sentD x.2.2)) ++ rest) ps → ps.Nodup →
    (∀ b off, MemPlace.cell b off ∈ ps → (∃ c t, W.heap[b]? = some (.cells c t (0, 0))) ∧ ∀ u v, W.cell? ⟨b, off, none⟩ = some (.iface u v) → Value.okWide P W .any 0 u v) →
    ∃ al : List Addr, al.length = xs.length ∧ (∀ a, a ∈ al → MemPlace.cell a.block a.off ∈ ps) ∧ al.Nodup ∧
      ∀ (i : Nat) (x : String × Nat × List UInt8) (a : Addr), xs[i]? = some x → al[i]? = some a → W.cell? ⟨x.2.1, 0, none⟩ = some (.iface tp (.pointer (some a)))
  | [], _, _, _, _, _, _ => ⟨[], rfl, (by intro a h; cases h), List.nodup_nil, (by intro i x a h; simp at h)⟩
  | x :: xs, rest, ps, hx, hl, hnd, hrows => by
    obtain ⟨n, gn, t⟩ := x
    obtain ⟨g0, t0, cs0, f0, p0, q0, hg0, ht0, hv0, hd0, hq, e0⟩ := hl
    obtain ⟨hg, ht⟩ := hx (n, gn, t) (List.mem_cons_self ..)
    obtain rfl := Option.some.inj (hg.symm.trans hg0)
    obtain rfl := Option.some.inj (ht.symm.trans ht0)
    subst e0
    obtain ⟨l0⟩ := cs0
    have ok0 : ∀ u v, l0 = [.iface u v] → Value.okWide P W .any 0 u v := fun u v e => by
      subst e
      exact (hrows gn 0 (by simp [MemPlace.row])).2 u v (by simpa using World.var?_cell hg0 hv0 0)
    obtain ⟨a0, s0, rfl, hc0, hs0, hz0, rfl⟩ := errorString_of_trod hi hrow hp he hft hfo hs hc hcs hd0 ok0
    have hnd' := (List.nodup_append.1 hnd)
    obtain ⟨al, hlen, hmem, hn, hcell⟩ := sents_of hi hrow hp he hft hfo hs hc hcs W xs rest q0 (fun x h => hx x (List.mem_cons_of_mem _ h)) hq hnd'.2.1 (fun b off h => hrows b off (List.mem_append_right _ h))
    refine ⟨a0 :: al, by simp [hlen], ?_, ?_, ?_⟩
    · intro a ha
      rcases List.mem_cons.1 ha with rfl | h
      · simp [MemPlace.row]
      · exact List.mem_append_right _ (hmem a h)
    · refine List.nodup_cons.2 ⟨fun h => ?_, hn⟩
      exact hnd'.2.2 _ (by simp [MemPlace.row] : MemPlace.cell a0.block a0.off ∈ _) _ (hmem a0 h) rfl
    · intro i x a h1 h2
      cases i with
      | zero =>
        simp only [List.getElem?_cons_zero, Option.some.injEq] at h1 h2
        subst h1 h2
        simpa using World.var?_cell hg0 hv0 0
      | succ i =>
        simp only [List.getElem?_cons_succ] at h1 h2
        exact hcell i x a h1 h2

def sentList : List (String × Nat × List UInt8) := [("statute/api.ErrBound", 1, [115, 116, 97, 116, 117, 116, 101, 58, 32, 98, 111, 117, 110, 100]), ("statute/api.ErrCoin", 3, [115, 116, 97, 116, 117, 116, 101, 58, 32, 97, 109, 111, 117, 110, 116]), ("statute/api.ErrDay", 2, [115, 116, 97, 116, 117, 116, 101, 58, 32, 100, 97, 121]), ("statute/api.ErrKind", 0, [115, 116, 97, 116, 117, 116, 101, 58, 32, 107, 105, 110, 100])]
theorem sentList_at : ∀ x, x ∈ sentList → Tryd.prog.globalNamed x.1 = some x.2.1 ∧ (Tryd.prog.globals[x.2.1]?).map (·.type) = some 26 := by
  have h1 : (sentList.map fun x => Tryd.prog.globalNamed x.1) = sentList.map fun x => some x.2.1 := by kernel_rfl
  have h2 : (sentList.map fun x => (Tryd.prog.globals[x.2.1]?).map (·.type)) = sentList.map fun _ => some 26 := by kernel_rfl
  intro x hx
  exact ⟨List.map_inj_left.1 h1 x hx, List.map_inj_left.1 h2 x hx⟩
theorem sumsSplit_laid {W : World} (h : laidMetH Tryd.prog Rows.sumsSplitRow.laid W) : ∃ p, Sent W p := by
  rw [Go.MakeChecks.laidMetH_plain _ _ _ (by kernel_rfl)] at h
  have e : Rows.sumsSplitRow.laid = sentList.map (fun x => (x.1, sentD x.2.2)) ++ [] := by kernel_rfl
  rw [e] at h
  obtain ⟨ps, hl, hnd, hrows⟩ := h
  obtain ⟨al, hlen, _, _, hcell⟩ := sents_of Tryd.underlying26 Tryd.rowES Tryd.underlying92 Tryd.underlying114 rfl rfl Tryd.underlying9 Tryd.cellsES Tryd.cells9 W sentList [] ps sentList_at hl hnd hrows
  have hlen' : al.length = 4 := hlen
  obtain ⟨a0, a1, a2, a3, rfl⟩ : ∃ a0 a1 a2 a3, al = [a0, a1, a2, a3] := by
    match al, hlen' with
    | [a, b, c, d], _ => exact ⟨a, b, c, d, rfl⟩
  exact ⟨fun i => match i with | 1 => a0 | 2 => a1 | 3 => a2 | _ => a3, ⟨hcell 3 _ _ rfl rfl, hcell 0 _ _ rfl rfl, hcell 2 _ _ rfl rfl, hcell 1 _ _ rfl rfl⟩⟩
theorem sumsSplit_door (os : Os) (args : Array Value) : laidMetH Tryd.prog Rows.sumsSplitRow.laid ((World.doorLaid Tryd.prog 400 os).forCall (fun _ _ => 0) ⟨#[], args, []⟩).memory :=
  laidMetH_of_parts3 (fuel := 8) (laidMet_of_run' 8 (by kernel_rfl) (by kernel_rfl)) (by kernel_rfl) (by kernel_rfl)
set_option maxRecDepth 100000 in
theorem sumsSplit_lifted (os : Os) (started : os.Started) (H : Type) (enc : TypeId × Value → H) :
    ReturnsInHanded {} Tryd.checked os 4 .any (fun w args => (Rows.sumsSplitSpec.pre enc Tryd.prog Tryd.f4 [] false w args ∧ laidMetH Tryd.prog Rows.sumsSplitRow.laid w) ∧ sizedMet enc Tryd.prog Tryd.f4 (OpenSpec.ofChange Rows.sumsSplitSpec) false w args)
      (Rows.sumsSplitSpec.post enc Tryd.prog Tryd.f4 false true false false) := by
  refine returnsInHanded_of_change_and (C := Tryd.checked) (X := fun w _ => laidMetH Tryd.prog Rows.sumsSplitRow.laid w) (fun _ _ _ hh h => h.of_heap hh) Tryd.ownAll started (by kernel_rfl) Tryd.func4
    (ChangeSpec.witness_shaped (enc := enc) (C := Tryd.checked) (os := os) (X := fun w _ => laidMetH Tryd.prog Rows.sumsSplitRow.laid w) false (World.doorLaid Tryd.prog 400 os) #[.int .i64 0, .slice none 0 0, .int .i64 0, .int .i64 0] 8 rfl (World.shaped_of_RefB (by kernel_rfl) (by kernel_rfl)) (by kernel_rfl) (by kernel_rfl) (by kernel_rfl) (sumsSplit_door os _)) ?_
  intro W base args ds gs before hval0 hW _ hwt hL _
  have hW' := hW
  obtain ⟨p, q, hA0, hV, rfl, hfz, hnd⟩ := hW
  have hA : DataW.TrodAll enc Tryd.prog W 0 (fun _ => true) true Tryd.f4.params.toList args.toList ds p := hA0
  have hlt := DataW.TrodAll.lt hA
  rw [Tryd.params4] at hA
  have hval : ∀ (j : Nat) t v, Tryd.f4.params[j]? = some t → args[j]? = some v → Value.okWide Tryd.prog W .any base t v := hval0
  rw [Tryd.params4] at hval
  obtain ⟨v0, vs, d0, ds', p0, q0, hargs, rfl, rfl, h0, hrest⟩ := trodAll_cons hA
  obtain ⟨v1, vs1, d1, ds1, p1, q1, rfl, rfl, rfl, h1, hrest1⟩ := trodAll_cons hrest
  obtain ⟨v2, vs2, d2, ds2, p2, q2, rfl, rfl, rfl, h2, hrest2⟩ := trodAll_cons hrest1
  obtain ⟨v3, vs3, d3, ds3, p3, q3, rfl, rfl, rfl, h3, hrest3⟩ := trodAll_cons hrest2
  obtain ⟨rfl, rfl, rfl⟩ := trodAll_nil hrest3
  obtain rfl : args = #[v0, v1, v2, v3] := by cases args; simp_all
  obtain ⟨rfl, rfl⟩ := trodVars_none hV
  have hwa : ∀ z, z ∈ d1.weights Tryd.prog 22 → z ≤ reachBytes := fun z hz => by
    have h9 : (d0.weights Tryd.prog 3 ++ (d1.weights Tryd.prog 22 ++ (d2.weights Tryd.prog 3 ++ (d3.weights Tryd.prog 3 ++ DataW.weightsEach Tryd.prog _ [])))).all (· ≤ reachBytes) = true := hwt
    have := List.all_eq_true.1 h9 z (List.mem_append_right _ (List.mem_append_left _ hz))
    simpa using this
  obtain ⟨pp, hpp⟩ := sumsSplit_laid hL
  obtain ⟨n0, rfl, rfl, rfl, hw0⟩ := open_int Tryd.underlying3 (hval 0 3 v0 rfl rfl) h0
  obtain ⟨sa, sn, sc, l, rfl, hsn, hsr⟩ := ints_arg (hval 1 22 v1 rfl rfl) h1 hwa
  obtain ⟨n2, rfl, rfl, rfl, hw2⟩ := open_int Tryd.underlying3 (hval 2 3 v2 rfl rfl) h2
  obtain ⟨n3, rfl, rfl, rfl, hw3⟩ := open_int Tryd.underlying3 (hval 3 3 v3 rfl rfl) h3
  have hb0 := sumsSplit_walk (am := n0) (y := n2) (m := n3) hsr hsn hpp
  clear hA0 hval0
  simp only [List.append_nil] at hW'
  refine hb0.mono fun e W' ⟨he, hb⟩ => ?_
  subst he
  have e1 : Rows.sumsSplitSpec.fn H ([.lit (.int .i64 n0), d1, .lit (.int .i64 n2), .lit (.int .i64 n3)] ++ []) = { results := [.lit (.bool true)], args := [.lit (.int .i64 n0), d1, .lit (.int .i64 n2), .lit (.int .i64 n3)] } := rfl
  refine ⟨_, rfl, _, _, _, [], p1, [], hW', ?_, ?_, ?_, hb.frame _, fun h => by cases h⟩
  · rw [e1]; exact trodAll_mk1 (shut_bool Tryd.underlying4 true)
  · rw [e1]
    have := trodAll_mk4 (shut_int Tryd.underlying3 hw0) (Below.trod Tryd.laidOutAll (by kernel_rfl) (of_decide_eq_true (by kernel_rfl)) h1 hb (fun x hx => hlt x (by simp only [List.mem_append]; simp [hx]))) (shut_int Tryd.underlying3 hw2) (shut_int Tryd.underlying3 hw3)
    simp only [List.append_nil, List.nil_append] at this
    exact this
  · rw [e1]; rfl

theorem sumsSplit_row : Rows.SumsSplitSaid :=
  OpenClaim.holds_of_wide 4 Tryd.f4 rfl rfl rfl rfl rfl rfl rfl ⟨rfl, rfl, rfl, rfl, rfl⟩ rfl rfl rfl rfl rfl (by kernel_rfl) Tryd.func4 (by kernel_rfl)
    (of_decide_eq_true (by kernel_rfl)) (by unfold Func.isWrapper; rw [if_neg (of_decide_eq_false (by kernel_rfl))]; exact ⟨rfl, rfl⟩)
    (fun os started H enc _ => sumsSplit_lifted os started H enc)

theorem sumsSplit_holds : Rows.SumsSplitCardSaid :=
  Claim7.holds_tied_plain_at .later [] [.sentinel, .sentinel, .sentinel, .sentinel] true (true, "91a8935782a6028c63b0c93e33b4e9623f56ac0a877083464f00965d4f54ee63") true
    sumsSplit_row (fun _ h => by cases h) (by kernel_rfl) (fun _ h => by cases h) sumsSplit_row_tie rfl ⟨rfl, rfl⟩ (by kernel_rfl) rfl
    (fun f fn hf hfn => by
      obtain rfl : f = 4 := Option.some.inj ((show Tryd.prog.funcNamed "statute/statutelaw5.SumsSplit" = some 4 by kernel_rfl).symm.trans hf) |>.symm
      obtain rfl : fn = Tryd.f4 := (Option.some.inj (Tryd.func4.symm.trans hfn)).symm
      exact ⟨by kernel_rfl, fun j t ht => by
        rw [Tryd.params4] at ht
        have hm : t ∈ [3, 22, 3, 3] := by
          have := Array.mem_of_getElem? ht
          simpa using this
        have hall : ([3, 22, 3, 3].all fun u => !Tryd.prog.wantsStandIn u) = true := by kernel_rfl
        exact (show Tryd.prog.wantsStandIn t = false by simpa using List.all_eq_true.1 hall t hm)⟩)
    (by kernel_rfl)
end Go.Proofs.YtgfkaheoahkbcaaDoor
