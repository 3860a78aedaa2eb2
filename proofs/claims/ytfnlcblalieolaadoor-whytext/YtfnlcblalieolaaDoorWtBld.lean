/-
  Package strings: a builder of its own: what is written to it, all of it.
-/
import Derived.Test.YtfnlcblalieolaaDoorWtMem
import Derived.Lib.Builder
import Derived.Lib.AppendStr
import Derived.Lib.UnsafeStr
import Derived.Laws.Externs
import Derived.Shelf.RegionOpenPlain
namespace Go.Proofs.YtfnlcblalieolaaDoor
open Go.RowKit Go.Extern.Stop Go.Stop Go.Extern

theorem Tryd.infoByte : ∃ i, Tryd.prog.info? 5 = some i ∧ i.zero = some (.int .u8 0) ∧ i.size = 1 ∧ i.bytes = 1 := by
  have h : (Tryd.prog.info? 5).map (fun i => (i.zero, i.size, i.bytes)) = some (some (.int .u8 0), 1, 1) := by kernel_rfl
  obtain ⟨i, hi, e⟩ := Option.map_eq_some_iff.1 h
  injection e with e1 e2
  injection e2 with e2 e3
  exact ⟨i, hi, e1, e2, e3⟩
theorem Tryd.infoBuilder : ∃ j, Tryd.prog.info? 47 = some j ∧ j.size = 2 := by
  have h : (Tryd.prog.info? 47).map (·.size) = some 2 := by kernel_rfl
  exact Option.map_eq_some_iff.1 h
theorem Tryd.liesBld : liesAt Tryd.prog Tryd.prog.depth 47 (2 / Tryd.prog.cellsOf 47) 0 47 1 = true := by kernel_rfl
theorem Tryd.cellsByte : Tryd.prog.cellsOf 5 = 1 := by kernel_rfl

/-- A page that holds these bytes. -/
structure Pg (B b : Nat) (bs : List UInt8) (w : World) : Prop where
  is : Lib.IsBuilder 47 5 B b (Lib.byteCells bs) w
  sz : B ≤ w.heap.size
/-- What writing on a page leaves as it was: all below B, and every block but the page that does not hold bytes. -/
structure PgStep (B b : Nat) (w w' : World) : Prop where
  bel : Below B w w'
  kp : ∀ k cs T fr, k ≠ b → w.heap[k]? = some (.cells cs T fr) → T ≠ 5 → w'.heap[k]? = w.heap[k]?
theorem PgStep.refl (B b : Nat) (w : World) : PgStep B b w w := ⟨Below.refl _ _, fun _ _ _ _ _ _ _ => rfl⟩
theorem PgStep.trans {B b : Nat} {w w' w'' : World} (h : PgStep B b w w') (h' : PgStep B b w' w'') : PgStep B b w w'' :=
  ⟨h.bel.trans h'.bel, fun k cs T fr hk hc hT => (h'.kp k cs T fr hk ((h.kp k cs T fr hk hc hT).trans hc) hT).trans (h.kp k cs T fr hk hc hT)⟩
theorem PgStep.of {B b : Nat} {w w' : World} (hw : B ≤ w.heap.size) (h : Below w.heap.size w w') : PgStep B b w w' :=
  ⟨h.mono hw, fun k _ _ _ _ hc _ => h.block k (lt_of_block hc)⟩
theorem Pg.on {B b : Nat} {bs : List UInt8} {w w' : World} (h : Pg B b bs w) (hb : Below w.heap.size w w') : Pg B b bs w' := by
  refine ⟨?_, Nat.le_trans h.sz hb.size⟩
  have hk : ∀ k, k < w.heap.size → w'.heap[k]? = w.heap[k]? := fun k hk => hb.block k hk
  rcases h.is with h | h
  · obtain ⟨h1, v, h2, h3, h4⟩ := h
    exact .inl ⟨h1, v, (hk _ (lt_of_block h2)).trans h2, row_step h3 (fun g _ hg => hk g hg), h4⟩
  · obtain ⟨h1, v, h2, h3, h4⟩ := h
    exact .inr ⟨h1, v, (hk _ (lt_of_block h2)).trans h2, row_step h3 (fun g _ hg => hk g hg), h4⟩
theorem Pg.lt {B b : Nat} {bs : List UInt8} {w : World} (h : Pg B b bs w) : b < w.heap.size ∧ B ≤ b := by
  rcases h.is with h | h
  · exact ⟨h.lt, h.1⟩
  · exact ⟨h.lt, h.1⟩

set_option maxHeartbeats 1000000 in
set_option maxRecDepth 100000 in
theorem copy_used (b : Nat) (w : World) (h0 : w.cell? ⟨b, 0, none⟩ = some (.pointer (some ⟨b, 0, none⟩))) :
    Calls Tryd.prog 24 #[.pointer (some ⟨b, 0, none⟩)] w fun e w' => e = .returned (.tuple #[]) ∧ w' = w := by
  obtain ⟨j, hj, _⟩ := Tryd.infoBuilder
  go_enter Tryd.func24, Tryd.ntmps24
  go_wp2
  rw [Lib.run_neq_ptr_same w _ Tryd.underlying44 hj]
  go_wp2
  go_end0
  exact ⟨rfl, rfl⟩
set_option maxHeartbeats 1000000 in
set_option maxRecDepth 100000 in
theorem copy_fresh (b : Nat) (w : World) (h0 : w.cell? ⟨b, 0, none⟩ = some (.pointer none)) (hsh : w.shape? b = some (47, 2)) (hfz : w.frozen? ⟨b, 0, none⟩ = false) :
    Calls Tryd.prog 24 #[.pointer (some ⟨b, 0, none⟩)] w fun e w' => e = .returned (.tuple #[]) ∧ w' = w.setCell ⟨b, 0, none⟩ (.pointer (some ⟨b, 0, none⟩)) := by
  obtain ⟨j, hj, hjs⟩ := Tryd.infoBuilder
  go_enter Tryd.func24, Tryd.ntmps24
  go_wp2
  rw [Lib.run_to_unsafe w ⟨b, 0, none⟩ Tryd.underlying44 Tryd.underlying75 hj (by rw [hjs]; decide) hsh (Nat.zero_lt_succ 1)]
  simp only [Result.andThen]
  rw [Oper.upon_value]
  go_wp2
  rw [run_callFunc_extern Tryd.func35 (by kernel_rfl) (by kernel_rfl) (by kernel_rfl) (e := Extern.AbiNoEscape.same) (by kernel_rfl)]
  rw [Lib.run_noEscape]
  simp only [Result.andThen]
  rw [Oper.upon_value]
  go_wp2
  rw [Lib.run_from_unsafe w ⟨b, 0, none⟩ Tryd.underlying75 Tryd.underlying44 hj hsh Tryd.liesBld]
  simp only [Result.andThen]
  rw [Oper.upon_value]
  go_wp2
  go_end0
  exact ⟨rfl, rfl⟩
theorem copy_any (B b : Nat) (bs : List UInt8) (w : World) (h : Pg B b bs w) :
    Calls Tryd.prog 24 #[.pointer (some ⟨b, 0, none⟩)] w fun e w' => e = .returned (.tuple #[]) ∧ Lib.BuilderAt 47 5 B b (.pointer (some ⟨b, 0, none⟩)) (Lib.byteCells bs) w' ∧ PgStep B b w w' := by
  rcases h.is with h' | h'
  · refine (copy_fresh b w h'.cell0 h'.shape h'.frozen0).mono ?_
    rintro e w' ⟨rfl, rfl⟩
    exact ⟨rfl, h'.used _, (Below.refl B w).setCell (p := ⟨b, 0, none⟩) h'.1 _, fun k cs T fr hk _ _ => Below.heap_setCell _ _ _ _ hk⟩
  · refine (copy_used b w h'.cell0).mono ?_
    rintro e w' ⟨rfl, rfl⟩
    exact ⟨rfl, h', PgStep.refl _ _ _⟩
set_option maxHeartbeats 2000000 in
/-- A text more on the page. -/
theorem ws_any (B b : Nat) (bs : List UInt8) (s : ByteArray) (w : World) (h : Pg B b bs w) (hlen : bs.length + s.size ≤ 140737488355328) :
    Calls Tryd.prog 12 #[.pointer (some ⟨b, 0, none⟩), .string s] w fun e w' => e = .returned (.tuple #[.int .i64 s.size, .nilIface]) ∧ Pg B b (bs ++ bl s) w' ∧ PgStep B b w w' := by
  obtain ⟨i0, hi, hz0, hz1, hz2⟩ := Tryd.infoByte
  have HSz := hidLL h.sz
  have HC := hidLL (copy_any B b bs w h)
  have hbl : (Lib.byteCells bs).length = bs.length := Lib.byteCells_length _
  go_enter Tryd.func12, Tryd.ntmps12
  go_wp2_with fail
  go_at_call 24
  refine HC.out.mono ?_
  rintro e w1 ⟨rfl, ⟨hB, v, hbk, hown, hne⟩, hst⟩
  have HSt := hidLL hst
  have hs1 : B ≤ w1.heap.size := Nat.le_trans HSz.out hst.bel.size
  have c1 : w1.cell? ⟨b, 1, none⟩ = some v := by rw [Lib.cell_of_heap hbk]; rfl
  clear hst HC
  go_wp2_with (at_builtin; refine Lib.wpList_append_own_string _ rfl _ _ 45 9 rfl B 5 i0 Tryd.underlying45 Tryd.underlying9 hi hz0 hz1 hz2 _ _ _ rfl hown s rfl ?c3 ?c4 ?c5 ?_)
  case c3 => unfold maxLen; omega
  case c4 => omega
  case c5 => exact hs1
  intro v' w2 hown' hgrow _
  have hlt : b < w1.heap.size := lt_of_block hbk
  have hb2 : w2.heap[b]? = some (.cells #[.pointer (some ⟨b, 0, none⟩), v] 47 (0, 0)) := by
    rw [hgrow.block b hlt (fun e => hne e.symm)]
    exact hbk
  have d1 : w2.cell? ⟨b, 1, none⟩ = some v := by rw [Lib.cell_of_heap hb2]; rfl
  have f1 : w2.frozen? ⟨b, 1, none⟩ = false := Lib.frozen_of_heap hb2 1
  obtain ⟨ao, n', cap, rfl⟩ : ∃ ao n' cap, v' = .slice ao n' cap := by
    rcases hown'.2 with ⟨hv, _⟩ | ⟨g, cap, cur, hv, _⟩
    · exact ⟨_, _, _, hv⟩
    · exact ⟨_, _, _, hv⟩
  have HO := hidLL hown'
  have HG := hidLL hgrow
  have HB2 := hidLL hb2
  have HW := hidLL (And.intro hown (And.intro hne hB))
  clear hown' hgrow hb2 hown hne hbk hB
  go_wp2
  go_ret2
  have hput := Lib.BuilderAt.put (T := 47) (e := 5) HW.out.2.2 HB2.out (bs' := Lib.byteCells (bs ++ bl s)) (by
    rw [Lib.byteCells_append, List.length_append, Lib.byteCells_length, Lib.byteCells_length, size_bl]
    exact HO.out) (by decide)
  have hb2' : Below B w w2 := HSt.out.bel.grown HG.out hs1 (fun k hk => (HW.out.1.lt k hk).1)
  refine ⟨rfl, ⟨.inr hput, by have := hb2'.size; have := HSz.out; simp; omega⟩, hb2'.setCell (p := ⟨b, 1, none⟩) HW.out.2.2 _, fun k cs T fr hk hc hT => ?_⟩
  have h1 : w1.heap[k]? = some (.cells cs T fr) := (HSt.out.kp k cs T fr hk hc hT).trans hc
  rw [Below.heap_setCell _ _ _ _ hk, HG.out.block k (lt_of_block h1) (fun e => Lib.ownBlock_ne HW.out.1 h1 hT e.symm), h1, hc]
set_option maxHeartbeats 2000000 in
set_option maxRecDepth 100000 in
/-- All that stands on a page that is not empty. -/
theorem string_any (B b : Nat) (l : List UInt8) (w : World) (h : Pg B b l w) (h0 : l ≠ []) :
    Calls Tryd.prog 15 #[.pointer (some ⟨b, 0, none⟩)] w fun e w' => e = .returned (.string ⟨l.toArray⟩) ∧ Below B w w' := by
  obtain ⟨p, hB, v, hbk, hown, hne⟩ : ∃ p, Lib.BuilderAt 47 5 B b p (Lib.byteCells l) w := by
    rcases h.is with h | h
    · exact ⟨_, h⟩
    · exact ⟨_, h⟩
  have hl0 : l.length ≠ 0 := by simpa using h0
  rw [Lib.byteCells_length] at hown
  obtain ⟨g, cap, cur, rfl, hbg, hg, hnc, hcm, hcs, htake⟩ : ∃ g cap cur, v = .slice (some ⟨g, 0, none⟩) l.length cap ∧ B ≤ g ∧ w.heap[g]? = some (.cells cur 5 (0, 0)) ∧ l.length ≤ cap ∧ cap ≤ maxLen ∧ cur.size = cap * 1 ∧ cur.toList.take (l.length * 1) = Lib.byteCells l := by
    rcases hown.2 with ⟨_, hz⟩ | ⟨g, cap, cur, hv, r⟩
    · exact absurd hz hl0
    · exact ⟨g, cap, cur, hv, r⟩
  have hbd : w.drew.heap[b]? = some (.cells #[p, .slice (some ⟨g, 0, none⟩) l.length cap] 47 (0, 0)) := hbk
  have hgd : w.drew.heap[g]? = some (.cells cur 5 (0, 0)) := hg
  have c1 : w.drew.cell? ⟨b, 1, none⟩ = some (.slice (some ⟨g, 0, none⟩) l.length cap) := by rw [Lib.cell_of_heap hbd]; rfl
  have hSD : (Builtin.unsafeSliceData_ #[45] 69 #[.slice (some ⟨g, 0, none⟩) l.length cap]).run Tryd.prog w.drew = .ok (.pointer (some ⟨g, 0, none⟩)) w.drew :=
    Lib.run_unsafeSliceData_row _ _ _ _ _ _ (by omega)
  have hUS : (Builtin.unsafeString_ #[69, 3] 9 #[.pointer (some ⟨g, 0, none⟩), .int .i64 l.length]).run Tryd.prog w.drew = .ok (.string ⟨l.toArray⟩) (w.drew.freeze ⟨g, 0, none⟩ l.length) := by
    refine Lib.run_unsafeString_row w.drew 69 3 9 5 Tryd.underlying69 Tryd.cellsByte g cur.size (by simp [World.shape?, hgd]) l h0 (by omega) (by unfold maxLen at hcm; omega) ?_
    intro j x hx
    exact hown.cells (g := g) rfl j (.int .u8 x.toNat) (by simp [Lib.byteCells, hx])
  clear hbk hbd hg hgd hown htake hne h h0
  have mixed : Tryd.prog.follows Departure.mixedOrders = true := by kernel_rfl
  go_enter Tryd.func15, Tryd.ntmps15
  go_wp2
  go_region_o
  all_goals (go_wp2; go_ret; exact ⟨rfl, Lib.below_freeze (Below.drew (Below.refl B w)) (p := ⟨g, 0, none⟩) hbg _⟩)
theorem bld_new {B b : Nat} {w : World} (hB : B ≤ b) (hw : B ≤ w.heap.size) (h : w.heap[b]? = some (.cells #[.pointer none, .slice none 0 0] 47 (0, 0))) : Pg B b [] w :=
  ⟨.inl ⟨hB, _, h, World.ownsRow_nil _ _ _ _, by simp [Value.ownBlock]⟩, hw⟩
end Go.Proofs.YtfnlcblalieolaaDoor
