/-
  What the laid sentinels give; plain.Code of nil and of a sentinel.
-/
import Derived.Test.YtpbolcjcmkmalaaGreatDoorCo01
import Derived.Below
import Derived.Outline
import Derived.Test.YtpbolcjcmkmalaaGreatDoorRows
import Derived.LaidLaws
import Derived.LaidHandle
import Derived.Stop.LaidErr
namespace Go.Proofs.YtpbolcjcmkmalaaGreatDoor
open Go.RowKit Go.Extern.Stop Go.Stop Go.Extern

theorem hidIt {p : Prop} (h : p) : Hid p := h

/-- Where the sentinel of a code lies. -/
def gi : Nat → Nat
  | 0 => 1 | 1 => 0 | 2 => 2 | 3 => 3 | 4 => 4 | 5 => 5 | 6 => 6 | 7 => 7 | 8 => 8 | 9 => 9 | 10 => 10 | n => n
theorem gi_lt {i : Nat} (h : i < 11) : gi i < 11 := by
  have h : i = 0 ∨ i = 1 ∨ i = 2 ∨ i = 3 ∨ i = 4 ∨ i = 5 ∨ i = 6 ∨ i = 7 ∨ i = 8 ∨ i = 9 ∨ i = 10 := by omega
  rcases h with rfl | rfl | rfl | rfl | rfl | rfl | rfl | rfl | rfl | rfl | rfl <;> decide

structure Laid (w : World) (p : Nat → Addr) : Prop where
  cell : ∀ i, i < 11 → w.cell? ⟨gi i, 0, none⟩ = some (.iface 214 (.pointer (some (p i))))
  ne : ∀ i j, i < 11 → j < 11 → i ≠ j → p i ≠ p j
  blk : ∀ i, i < 11 → ∃ c t, w.heap[(p i).block]? = some (.cells c t (0, 0))
  typ : w.cell? ⟨11, 0, none⟩ = some (.iface 140 (.agg #[.pointer (some ⟨15, 31, none⟩)]))

theorem Laid.lt {w : World} {p : Nat → Addr} (h : Laid w p) : 11 < w.heap.size := by
  rcases Nat.lt_or_ge 11 w.heap.size with k | k
  · exact k
  · have := h.typ; simp [World.cell?, Array.getElem?_eq_none k] at this

theorem Laid.below {w w' : World} {p : Nat → Addr} (h : Laid w p) (hb : Below w.heap.size w w') : Laid w' p := by
  have hl := h.lt
  refine ⟨fun i hi => ?_, h.ne, fun i hi => ?_, ?_⟩
  · rw [hb.cell (p := ⟨gi i, 0, none⟩) (show gi i < _ by have := gi_lt hi; omega)]; exact h.cell i hi
  · obtain ⟨c, t, hc⟩ := h.blk i hi
    have hlt : (p i).block < w.heap.size := by
      rcases Nat.lt_or_ge (p i).block w.heap.size with k | k
      · exact k
      · simp [Array.getElem?_eq_none k] at hc
    exact ⟨c, t, by rw [hb.block _ hlt]; exact hc⟩
  · rw [hb.cell (p := ⟨11, 0, none⟩) hl]; exact h.typ

theorem Laid.alloc {w : World} {p : Nat → Addr} (h : Laid w p) (o : Obj) : Laid (w.alloc o) p :=
  h.below ((Below.refl _ _).alloc (Nat.le_refl _) o)

theorem as_miss_b (e t : Addr) (w : World) (p : Nat → Addr) (L : Laid w p) :
    Calls Tryz.prog 24 #[.iface 214 (.pointer (some e)), .iface 65 (.pointer (some t))] w fun ev w' => ev = .returned (.bool false) ∧ Below w.heap.size w w' := by
  refine (as_miss e t w L.typ).mono ?_
  rintro ev w' ⟨rfl, rfl⟩
  exact ⟨rfl, (((Below.refl _ _).alloc (Nat.le_refl _) _).alloc (by simp) _).alloc (by simp; omega) _⟩

/-- The cells of the list of all sentinels. -/
theorem sent_cell (p : Nat → Addr) (w : World) (i : Nat) (hi : i < 11) :
    (w.alloc (.cells #[.iface 214 (.pointer (some (p 0))), .iface 214 (.pointer (some (p 1))), .iface 214 (.pointer (some (p 2))), .iface 214 (.pointer (some (p 3))), .iface 214 (.pointer (some (p 4))), .iface 214 (.pointer (some (p 5))), .iface 214 (.pointer (some (p 6))), .iface 214 (.pointer (some (p 7))), .iface 214 (.pointer (some (p 8))), .iface 214 (.pointer (some (p 9))), .iface 214 (.pointer (some (p 10)))] 31)).cell? ⟨w.heap.size, i, none⟩ = some (.iface 214 (.pointer (some (p i)))) := by
  have h : i = 0 ∨ i = 1 ∨ i = 2 ∨ i = 3 ∨ i = 4 ∨ i = 5 ∨ i = 6 ∨ i = 7 ∨ i = 8 ∨ i = 9 ∨ i = 10 := by omega
  rcases h with rfl | rfl | rfl | rfl | rfl | rfl | rfl | rfl | rfl | rfl | rfl <;> simp

theorem code_nil (w : World) : Calls Tryz.prog 14 #[.nilIface] w fun e w' => e = .returned (.tuple #[.int .i64 0, .int .i64 (-1)]) ∧ w' = w := by
  go_enter Tryz.func14, Tryz.ntmps14
  go_wp2
  go_ret2
  exact ⟨rfl, rfl⟩

set_option maxHeartbeats 1000000 in
theorem code_sent (k : Nat) (hk : k < 11) (p : Nat → Addr) (w : World) (L : Laid w p) :
    Calls Tryz.prog 14 #[.iface 214 (.pointer (some (p k)))] w fun e w' => e = .returned (.tuple #[.int .i64 (k + 1), .int .i64 (-1)]) ∧ Below w.heap.size w w' := by
  have La := L.alloc (.cells #[.pointer none] 52)
  go_enter Tryz.func14, Tryz.ntmps14
  go_wp2_with fail
  refine (as_miss_b _ _ _ p La).mono ?_
  rintro e w1 ⟨rfl, hb1⟩
  have L1 := La.below hb1
  have c0 : w1.cell? ⟨1, 0, none⟩ = some (.iface 214 (.pointer (some (p 0)))) := L1.cell 0 (by omega)
  have c1 : w1.cell? ⟨0, 0, none⟩ = some (.iface 214 (.pointer (some (p 1)))) := L1.cell 1 (by omega)
  have c2 : w1.cell? ⟨2, 0, none⟩ = some (.iface 214 (.pointer (some (p 2)))) := L1.cell 2 (by omega)
  have c3 : w1.cell? ⟨3, 0, none⟩ = some (.iface 214 (.pointer (some (p 3)))) := L1.cell 3 (by omega)
  have c4 : w1.cell? ⟨4, 0, none⟩ = some (.iface 214 (.pointer (some (p 4)))) := L1.cell 4 (by omega)
  have c5 : w1.cell? ⟨5, 0, none⟩ = some (.iface 214 (.pointer (some (p 5)))) := L1.cell 5 (by omega)
  have c6 : w1.cell? ⟨6, 0, none⟩ = some (.iface 214 (.pointer (some (p 6)))) := L1.cell 6 (by omega)
  have c7 : w1.cell? ⟨7, 0, none⟩ = some (.iface 214 (.pointer (some (p 7)))) := L1.cell 7 (by omega)
  have c8 : w1.cell? ⟨8, 0, none⟩ = some (.iface 214 (.pointer (some (p 8)))) := L1.cell 8 (by omega)
  have c9 : w1.cell? ⟨9, 0, none⟩ = some (.iface 214 (.pointer (some (p 9)))) := L1.cell 9 (by omega)
  have c10 : w1.cell? ⟨10, 0, none⟩ = some (.iface 214 (.pointer (some (p 10)))) := L1.cell 10 (by omega)
  have hS := sent_cell p w1
  have L2 := L1.alloc (.cells #[.iface 214 (.pointer (some (p 0))), .iface 214 (.pointer (some (p 1))), .iface 214 (.pointer (some (p 2))), .iface 214 (.pointer (some (p 3))), .iface 214 (.pointer (some (p 4))), .iface 214 (.pointer (some (p 5))), .iface 214 (.pointer (some (p 6))), .iface 214 (.pointer (some (p 7))), .iface 214 (.pointer (some (p 8))), .iface 214 (.pointer (some (p 9))), .iface 214 (.pointer (some (p 10)))] 31)
  have hfin : Below w.heap.size w (w1.alloc (.cells #[.iface 214 (.pointer (some (p 0))), .iface 214 (.pointer (some (p 1))), .iface 214 (.pointer (some (p 2))), .iface 214 (.pointer (some (p 3))), .iface 214 (.pointer (some (p 4))), .iface 214 (.pointer (some (p 5))), .iface 214 (.pointer (some (p 6))), .iface 214 (.pointer (some (p 7))), .iface 214 (.pointer (some (p 8))), .iface 214 (.pointer (some (p 9))), .iface 214 (.pointer (some (p 10)))] 31)) :=
    ((((Below.refl _ _).alloc (Nat.le_refl _) _).trans (hb1.mono (by simp))).alloc (by have := hb1.size; simp at this; omega) _)
  have HF := hidIt hfin
  have HL := hidIt L2
  clear hfin L2 hb1 L1 La
  go_wp2_with fail
  clear c0 c1 c2 c3 c4 c5 c6 c7 c8 c9 c10
  go_loop [3, 29] (fun a t => a = .int .i64 (-1) ∧ ∃ i : Nat, i ≤ k ∧ t = .int .i64 i) (fun _ t => 11 - (intOf t).toNat)
  case atStart => exact ⟨rfl, 0, Nat.zero_le _, rfl⟩
  case round =>
    obtain ⟨rfl, i, hik, rfl⟩ := hrel
    have hi : i < 11 := by omega
    have hSi := hS i hi
    by_cases hlt : i < k
    · obtain ⟨ca, ta, hca⟩ := HL.out.blk k hk
      obtain ⟨cb, tb, hcb⟩ := HL.out.blk i hi
      have hne := HL.out.ne k i hk hi (by omega)
      go_wp2_with fail
      refine (is_other (p k) (p i) ca cb ta tb _ hne hca hcb).mono ?_
      rintro e w' ⟨rfl, rfl⟩
      go_wp2
      go_round
      case rel => exact ⟨rfl, i + 1, by omega, by go_num⟩
      case measure => simp [intOf]; omega
    · obtain rfl : i = k := by omega
      go_wp2_with fail
      refine (is_same (p i) _).mono ?_
      rintro e w' ⟨rfl, rfl⟩
      go_wp2
      go_ret2
      exact ⟨rfl, HF.out⟩
end Go.Proofs.YtpbolcjcmkmalaaGreatDoor
namespace Go.Proofs.YtpbolcjcmkmalaaGreatDoor
open Go.RowKit Go.ChangeShapes

def sentD (t : List UInt8) : DataW Unit := .iface "*errors.errorString" (.ptr (.agg [.lit (.string t)]))

theorem Tryz.star : "*" ++ "errors.errorString" = "*errors.errorString" := by decide
theorem Tryz.rowES (u : TypeId) (h : Tryz.prog.typeName? 3 u = some "*errors.errorString") : u = 214 :=
  typeName_ptr_named (nm := "errors.errorString") (by rw [Tryz.star]; kernel_rfl) (by kernel_rfl) (by decide) u (by rw [Tryz.star]; exact h)
theorem Tryz.cellsES : Tryz.prog.cellsOf 234 = 1 := by kernel_rfl
theorem Tryz.cells9 : Tryz.prog.cellsOf 9 = 1 := by kernel_rfl

theorem sents_of {P : Program} {tp te ts ti : TypeId} {ms : Array (String × TypeId)} {f : Field} (hi : P.underlying ti = some (.interface ms)) (hrow : ∀ u, P.typeName? 3 u = some "*errors.errorString" → u = tp)
    (hp : P.underlying tp = some (.pointer te)) (he : P.underlying te = some (.struct #[f])) (hft : f.type = ts) (hfo : f.offset = 0) (hs : P.underlying ts = some .string) (hc : P.cellsOf te = 1) (hcs : P.cellsOf ts = 1) (W : World) : ∀ (xs : List (String × Nat × List UInt8)) (rest : List (String × DataW Unit)) (ps : List MemPlace),
    (∀ x, x ∈ xs → P.globalNamed x.1 = some x.2.1 ∧ (P.globals[x.2.1]?).map (·.type) = some ti) →
    DataW.LaidVars P W (xs.map (fun x => (x.1, sentD x.2.2)) ++ rest) ps → ps.Nodup →
    (∀ b off, MemPlace.cell b off ∈ ps → (∃ c t, W.heap[b]? = some (.cells c t (0, 0))) ∧ ∀ u v, W.cell? ⟨b, off, none⟩ = some (.iface u v) → Value.okWide P W .any 0 u v) →
    ∃ al : List Addr, al.length = xs.length ∧ (∀ a, a ∈ al → MemPlace.cell a.block a.off ∈ ps) ∧ al.Nodup ∧
      ∀ (i : Nat) (x : String × Nat × List UInt8) (a : Addr), xs[i]? = some x → al[i]? = some a → W.cell? ⟨x.2.1, 0, none⟩ = some (.iface tp (.pointer (some a)))
  | [], _, _, _, _, _, _ => ⟨[], rfl, (by intro a h; cases h), List.nodup_nil, (by intro i x a h; simp at h)⟩
  | x :: xs, rest, ps, hx, hl, hnd, hrows => by
    obtain ⟨n, gn, t⟩ := x
    obtain ⟨g0, t0, cs0, f0, p0, q0, hg0, ht0, hv0, hd0, hq, e0⟩ := hl
    obtain ⟨hg, ht⟩ := hx (n, gn, t) (List.mem_cons_self ..)
    obtain rfl := Option.some.inj (hg.symm.trans hg0)
    obtain rfl := Option.some.inj (ht.symm.trans ht0)
    subst e0
    obtain ⟨l0⟩ := cs0
    have ok0 : ∀ u v, l0 = [.iface u v] → Value.okWide P W .any 0 u v := fun u v e => by
      subst e
      exact (hrows gn 0 (by simp [MemPlace.row])).2 u v (by simpa using World.var?_cell hg0 hv0 0)
    obtain ⟨a0, s0, rfl, hc0, hs0, hz0, rfl⟩ := errorString_of_trod hi hrow hp he hft hfo hs hc hcs hd0 ok0
    have hnd' := (List.nodup_append.1 hnd)
    obtain ⟨al, hlen, hmem, hn, hcell⟩ := sents_of hi hrow hp he hft hfo hs hc hcs W xs rest q0 (fun x h => hx x (List.mem_cons_of_mem _ h)) hq hnd'.2.1 (fun b off h => hrows b off (List.mem_append_right _ h))
    refine ⟨a0 :: al, by simp [hlen], ?_, ?_, ?_⟩
    · intro a ha
      rcases List.mem_cons.1 ha with rfl | h
      · simp [MemPlace.row]
      · exact List.mem_append_right _ (hmem a h)
    · refine List.nodup_cons.2 ⟨fun h => ?_, hn⟩
      exact hnd'.2.2 _ (by simp [MemPlace.row] : MemPlace.cell a0.block a0.off ∈ _) _ (hmem a0 h) rfl
    · intro i x a h1 h2
      cases i with
      | zero =>
        simp only [List.getElem?_cons_zero, Option.some.injEq] at h1 h2
        subst h1 h2
        simpa using World.var?_cell hg0 hv0 0
      | succ i =>
        simp only [List.getElem?_cons_succ] at h1 h2
        exact hcell i x a h1 h2

def sentList : List (String × Nat × List UInt8) := [("statute/api.ErrText", 1, [115, 116, 97, 116, 117, 116, 101, 58, 32, 116, 101, 120, 116]), ("statute/api.ErrBound", 0, [115, 116, 97, 116, 117, 116, 101, 58, 32, 98, 111, 117, 110, 100]), ("statute/api.ErrCoin", 2, [115, 116, 97, 116, 117, 116, 101, 58, 32, 97, 109, 111, 117, 110, 116]), ("statute/api.ErrDay", 3, [115, 116, 97, 116, 117, 116, 101, 58, 32, 100, 97, 121]), ("statute/api.ErrPath", 4, [115, 116, 97, 116, 117, 116, 101, 58, 32, 112, 97, 116, 104]), ("statute/api.ErrWords", 5, [115, 116, 97, 116, 117, 116, 101, 58, 32, 119, 111, 114, 100, 115]), ("statute/api.ErrName", 6, [115, 116, 97, 116, 117, 116, 101, 58, 32, 110, 97, 109, 101]), ("statute/api.ErrOrder", 7, [115, 116, 97, 116, 117, 116, 101, 58, 32, 111, 114, 100, 101, 114]), ("statute/api.ErrKind", 8, [115, 116, 97, 116, 117, 116, 101, 58, 32, 107, 105, 110, 100]), ("statute/api.ErrProof", 9, [115, 116, 97, 116, 117, 116, 101, 58, 32, 101, 120, 112, 108, 97, 110, 97, 116, 105, 111, 110]), ("statute/api.ErrStage", 10, [115, 116, 97, 116, 117, 116, 101, 58, 32, 115, 116, 97, 103, 101])]

theorem sentList_at : ∀ x, x ∈ sentList → Tryz.prog.globalNamed x.1 = some x.2.1 ∧ (Tryz.prog.globals[x.2.1]?).map (·.type) = some 31 := by
  have h1 : (sentList.map fun x => Tryz.prog.globalNamed x.1) = sentList.map fun x => some x.2.1 := by kernel_rfl
  have h2 : (sentList.map fun x => (Tryz.prog.globals[x.2.1]?).map (·.type)) = sentList.map fun _ => some 31 := by kernel_rfl
  intro x hx
  exact ⟨List.map_inj_left.1 h1 x hx, List.map_inj_left.1 h2 x hx⟩

theorem Tryz.et : Tryz.prog.globalNamed "errors.errorType" = some 11 := by kernel_rfl
theorem Tryz.rt : (Tryz.prog.cutTypes.find? (·.1 == "internal/reflectlite.rtype")).map (·.2) = some 140 := by kernel_rfl
theorem Tryz.oneRow : ((List.range 245).filter fun t => Tryz.prog.rowNamed t [101, 114, 114, 111, 114]) = [31] := by kernel_rfl
theorem Tryz.size : Tryz.prog.types.size = 245 := by kernel_rfl

theorem handle_of {W : World} (h : handlesMet Tryz.prog [("errors.errorType", Rows.laid_errors_errorType)] W) : W.cell? ⟨11, 0, none⟩ = some (.iface 140 (.agg #[.pointer (some ⟨15, 31, none⟩)])) := by
  obtain ⟨name, u, ty, e1, e2, e3, e4, e5⟩ := h _ (List.mem_singleton.2 rfl)
  have en : name = [101, 114, 114, 111, 114] := (Option.some.inj e1).symm
  subst en
  obtain rfl := Option.some.inj (Tryz.rt.symm.trans e2)
  have hm : ty ∈ (List.range 245).filter fun t => Tryz.prog.rowNamed t [101, 114, 114, 111, 114] := List.mem_filter.2 ⟨List.mem_range.2 (by rw [← Tryz.size]; exact e3), e4⟩
  rw [Tryz.oneRow] at hm
  obtain rfl := List.mem_singleton.1 hm
  have hh : typeHandle Tryz.prog 31 = .pointer (some ⟨15, 31, none⟩) := by kernel_rfl
  rw [hh] at e5
  simpa using World.var?_cell Tryz.et e5 0

/-- The sentinels, of a list that holds them behind one another, whatever follows. -/
theorem laid_of {W : World} {rest : List (String × DataW Unit)} (h : laidMet Tryz.prog (sentList.map (fun x => (x.1, sentD x.2.2)) ++ rest) W)
    (h2 : handlesMet Tryz.prog [("errors.errorType", Rows.laid_errors_errorType)] W) : ∃ p, Laid W p := by
  obtain ⟨ps, hl, hnd, hrows⟩ := h
  obtain ⟨al, hlen, hmem, hn, hcell⟩ := sents_of Tryz.underlying31 Tryz.rowES Tryz.underlying214 Tryz.underlying234 rfl rfl Tryz.underlying9 Tryz.cellsES Tryz.cells9 W sentList rest ps sentList_at hl hnd hrows
  have hlen' : al.length = 11 := hlen
  have hget : ∀ i, i < 11 → al[i]? = some (al.getD i ⟨0, 0, none⟩) := fun i hi => by
    rw [List.getD_eq_getElem?_getD, List.getElem?_eq_getElem (by omega)]; rfl
  refine ⟨fun i => al.getD i ⟨0, 0, none⟩, fun i hi => ?_, fun i j hi hj hij e => ?_, fun i hi => ?_, handle_of h2⟩
  · have hx : ∃ n t, sentList[i]? = some (n, gi i, t) := by
      have h : i = 0 ∨ i = 1 ∨ i = 2 ∨ i = 3 ∨ i = 4 ∨ i = 5 ∨ i = 6 ∨ i = 7 ∨ i = 8 ∨ i = 9 ∨ i = 10 := by omega
      rcases h with rfl | rfl | rfl | rfl | rfl | rfl | rfl | rfl | rfl | rfl | rfl <;> exact ⟨_, _, rfl⟩
    obtain ⟨n, t, hx⟩ := hx
    exact hcell i _ _ hx (hget i hi)
  · have h1 := hget i hi
    have h2 := hget j hj
    have e' : al.getD i ⟨0, 0, none⟩ = al.getD j ⟨0, 0, none⟩ := e
    rw [e'] at h1
    rw [List.getElem?_eq_getElem (by omega)] at h1 h2
    have hEq := Option.some.inj (h1.trans h2.symm)
    rcases Nat.lt_or_gt_of_ne hij with h | h
    · exact List.pairwise_iff_getElem.1 hn i j (by omega) (by omega) h hEq
    · exact List.pairwise_iff_getElem.1 hn j i (by omega) (by omega) h hEq.symm
  · exact (hrows _ _ (hmem _ (List.mem_of_getElem? (hget i hi)))).1

theorem laidMetH_split {P : Program} {laid rest : List (String × DataW Unit)} {h : String × DataW Unit} {hs : List (String × DataW Unit)} {W : World}
    (e1 : (laid.filter fun x => x.2.handleName?.isSome) = h :: hs) (e2 : (laid.filter fun x => x.2.handleName?.isNone) = rest) (hL : laidMetH P laid W) : laidMet P rest W ∧ handlesMet P (h :: hs) W := by
  unfold laidMetH at hL
  rw [e1] at hL
  rw [← e2]
  exact hL

end Go.Proofs.YtpbolcjcmkmalaaGreatDoor
