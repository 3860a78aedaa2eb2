/-
  What the row of DutiesFirm lists (three sentinels), as the walks ask for it.
-/
import Derived.Test.YtpijiglmjkdlgaaDoorRows
import Derived.Test.YtpijiglmjkdlgaaDoorCoded
import Derived.LaidLaws
import Derived.LaidHandle
import Derived.Stop.LaidErr
import Derived.Lib.LaidU8
import Derived.MakeChecks
import Derived.LaidMore
import Derived.HandedShaped
namespace Go.Proofs.YtpijiglmjkdlgaaDoor
open Go.RowKit Go.ChangeShapes Go.Lib Go.Proofs

def sentD (t : List UInt8) : DataW Unit := .iface "*errors.errorString" (.ptr (.agg [.lit (.string t)]))

theorem Tryd.star : "*" ++ "errors.errorString" = "*errors.errorString" := by decide
theorem Tryd.rowES (u : TypeId) (h : Tryd.prog.typeName? 3 u = some "*errors.errorString") : u = 134 :=
  typeName_ptr_named (nm := "errors.errorString") (by rw [Tryd.star]; kernel_rfl) (by kernel_rfl) (by decide) u (by rw [Tryd.star]; exact h)
theorem Tryd.cellsES : Tryd.prog.cellsOf 149 = 1 := by kernel_rfl
theorem Tryd.cells9 : Tryd.prog.cellsOf 9 = 1 := by kernel_rfl

theorem sents_of {P : Program} {tp te ts ti : TypeId} {ms : Array (String × TypeId)} {f : Field} (hi : P.underlying ti = some (.interface ms)) (hrow : ∀ u, P.typeName? 3 u = some "*errors.errorString" → u = tp)
    (hp : P.underlying tp = some (.pointer te)) (he : P.underlying te = some (.struct #[f])) (hft : f.type = ts) (hfo : f.offset = 0) (hs : P.underlying ts = some .string) (hc : P.cellsOf te = 1) (hcs : P.cellsOf ts = 1) (W : World) : ∀ (xs : List (String × Nat × List UInt8)) (rest : List (String × DataW Unit)) (ps : List MemPlace),
    (∀ x, x ∈ xs → P.globalNamed x.1 = some x.2.1 ∧ (P.globals[x.2.1]?).map (·.type) = some ti) →
    DataW.LaidVars P W (xs.map (fun x => (x.1, sentD x.2.2)) ++ rest) ps → ps.Nodup →
    (∀ b off, MemPlace.cell b off ∈ ps → (∃ c t, W.heap[b]? = some (.cells c t (0, 0))) ∧ ∀ u v, W.cell? ⟨b, off, none⟩ = some (.iface u v) → Value.okWide P W .any 0 u v) →
    ∃ al : List Addr, al.length = xs.length ∧ (∀ a, a ∈ al → MemPlace.cell a.block a.off ∈ ps) ∧ al.Nodup ∧
      ∀ (i : Nat) (x : String × Nat × List UInt8) (a : Addr), xs[i]? = some x → al[i]? = some a → W.cell? ⟨x.2.1, 0, none⟩ = some (.iface tp (.pointer (some a)))
  | [], _, _, _, _, _, _ => ⟨[], rfl, (by intro a h; cases h), List.nodup_nil, (by intro i x a h; simp at h)⟩
  | x :: xs, rest, ps, hx, hl, hnd, hrows => by
    obtain ⟨n, gn, t⟩ := x
    obtain ⟨g0, t0, cs0, f0, p0, q0, hg0, ht0, hv0, hd0, hq, e0⟩ := hl
    obtain ⟨hg, ht⟩ := hx (n, gn, t) (List.mem_cons_self ..)
    obtain rfl := Option.some.inj (hg.symm.trans hg0)
    obtain rfl := Option.some.inj (ht.symm.trans ht0)
    subst e0
    obtain ⟨l0⟩ := cs0
    have ok0 : ∀ u v, l0 = [.iface u v] → Value.okWide P W .any 0 u v := fun u v e => by
      subst e
      exact (hrows gn 0 (by simp [MemPlace.row])).2 u v (by simpa using World.var?_cell hg0 hv0 0)
    obtain ⟨a0, s0, rfl, hc0, hs0, hz0, rfl⟩ := errorString_of_trod hi hrow hp he hft hfo hs hc hcs hd0 ok0
    have hnd' := (List.nodup_append.1 hnd)
    obtain ⟨al, hlen, hmem, hn, hcell⟩ := sents_of hi hrow hp he hft hfo hs hc hcs W xs rest q0 (fun x h => hx x (List.mem_cons_of_mem _ h)) hq hnd'.2.1 (fun b off h => hrows b off (List.mem_append_right _ h))
    refine ⟨a0 :: al, by simp [hlen], ?_, ?_, ?_⟩
    · intro a ha
      rcases List.mem_cons.1 ha with rfl | h
      · simp [MemPlace.row]
      · exact List.mem_append_right _ (hmem a h)
    · refine List.nodup_cons.2 ⟨fun h => ?_, hn⟩
      exact hnd'.2.2 _ (by simp [MemPlace.row] : MemPlace.cell a0.block a0.off ∈ _) _ (hmem a0 h) rfl
    · intro i x a h1 h2
      cases i with
      | zero =>
        simp only [List.getElem?_cons_zero, Option.some.injEq] at h1 h2
        subst h1 h2
        simpa using World.var?_cell hg0 hv0 0
      | succ i =>
        simp only [List.getElem?_cons_succ] at h1 h2
        exact hcell i x a h1 h2

def sentList : List (String × Nat × List UInt8) := [("statute/api.ErrBound", 4, [115, 116, 97, 116, 117, 116, 101, 58, 32, 98, 111, 117, 110, 100]), ("statute/api.ErrDay", 0, [115, 116, 97, 116, 117, 116, 101, 58, 32, 100, 97, 121]), ("statute/api.ErrName", 5, [115, 116, 97, 116, 117, 116, 101, 58, 32, 110, 97, 109, 101]), ("statute/api.ErrOrder", 3, [115, 116, 97, 116, 117, 116, 101, 58, 32, 111, 114, 100, 101, 114]), ("statute/api.ErrKind", 2, [115, 116, 97, 116, 117, 116, 101, 58, 32, 107, 105, 110, 100]), ("statute/api.ErrStage", 1, [115, 116, 97, 116, 117, 116, 101, 58, 32, 115, 116, 97, 103, 101])]
theorem sentList_at : ∀ x, x ∈ sentList → Tryd.prog.globalNamed x.1 = some x.2.1 ∧ (Tryd.prog.globals[x.2.1]?).map (·.type) = some 28 := by
  have h1 : (sentList.map fun x => Tryd.prog.globalNamed x.1) = sentList.map fun x => some x.2.1 := by kernel_rfl
  have h2 : (sentList.map fun x => (Tryd.prog.globals[x.2.1]?).map (·.type)) = sentList.map fun _ => some 28 := by kernel_rfl
  intro x hx
  exact ⟨List.map_inj_left.1 h1 x hx, List.map_inj_left.1 h2 x hx⟩
theorem sent6 {W : World} (h : laidMet Tryd.prog (sentList.map (fun x => (x.1, sentD x.2.2)) ++ []) W) : ∃ p, Laid W p := by
  obtain ⟨ps, hl, hnd, hrows⟩ := h
  obtain ⟨al, hlen, _, _, hcell⟩ := sents_of Tryd.underlying28 Tryd.rowES Tryd.underlying134 Tryd.underlying149 rfl rfl Tryd.underlying9 Tryd.cellsES Tryd.cells9 W sentList [] ps sentList_at hl hnd hrows
  have hlen' : al.length = 6 := hlen
  obtain ⟨a0, a1, a2, a3, a4, a5, rfl⟩ : ∃ a0 a1 a2 a3 a4 a5, al = [a0, a1, a2, a3, a4, a5] := by
    match al, hlen' with
    | [a, b, c, d, e, f], _ => exact ⟨a, b, c, d, e, f, rfl⟩
  refine ⟨fun i => match i with | 1 => a0 | 6 => a2 | 7 => a3 | 8 => a4 | 10 => a5 | _ => a1, ⟨fun i hi => ?_⟩⟩
  have hc : i = 0 ∨ i = 1 ∨ i = 2 ∨ i = 3 ∨ i = 4 ∨ i = 5 ∨ i = 6 ∨ i = 7 ∨ i = 8 ∨ i = 9 ∨ i = 10 := by omega
  rcases hc with rfl | rfl | rfl | rfl | rfl | rfl | rfl | rfl | rfl | rfl | rfl
  · exact hcell 1 _ _ rfl rfl
  · exact hcell 0 _ _ rfl rfl
  · exact hcell 1 _ _ rfl rfl
  · exact hcell 1 _ _ rfl rfl
  · exact hcell 1 _ _ rfl rfl
  · exact hcell 1 _ _ rfl rfl
  · exact hcell 2 _ _ rfl rfl
  · exact hcell 3 _ _ rfl rfl
  · exact hcell 4 _ _ rfl rfl
  · exact hcell 1 _ _ rfl rfl
  · exact hcell 5 _ _ rfl rfl
theorem csEnd_laid {W : World} (h : laidMetH Tryd.prog Rows.casesEndRow.laid W) : ∃ p, Laid W p := by
  rw [Go.MakeChecks.laidMetH_plain _ _ _ (by kernel_rfl)] at h
  have e : Rows.casesEndRow.laid = sentList.map (fun x => (x.1, sentD x.2.2)) ++ [] := by kernel_rfl
  rw [e] at h
  exact sent6 h
end Go.Proofs.YtpijiglmjkdlgaaDoor
