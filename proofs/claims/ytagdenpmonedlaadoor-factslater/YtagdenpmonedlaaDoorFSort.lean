/-
  Facts: rows of days, sorted and each once.
-/
import Derived.Test.YtagdenpmonedlaaDoorFMem
import Derived.Test.YtagdenpmonedlaaDoorShelfF
import Derived.Shelf.Slices.In.SortNone
import Derived.Lib.SmallJoins
import Derived.OwnWalk
import Derived.Lib.RowBridge
namespace Go.Proofs.YtagdenpmonedlaaDoor
open Go.RowKit Go.Sort Go.Lib

theorem compact_mem (zs : List Int) (x : Int) : x ∈ Lib.compact zs ↔ x ∈ zs := by
  unfold Lib.compact Lib.compactUpTo
  simp only [List.mem_map, List.mem_filter, List.mem_range]
  constructor
  · rintro ⟨i, ⟨hi, _⟩, rfl⟩
    rw [getElem!_pos zs.toArray i (by simpa using hi)]
    simp
  · intro hx
    obtain ⟨i, hi, he⟩ := List.getElem_of_mem hx
    -- the first place that holds it
    have : ∀ (n i : Nat), i ≤ n → ∀ (hi : i < zs.length), zs[i] = x → ∃ j, (j < zs.length ∧ Lib.keeps zs.toArray j = true) ∧ zs.toArray[j]! = x := by
      intro n
      induction n with
      | zero =>
        intro i h0 hi he
        obtain rfl : i = 0 := by omega
        refine ⟨0, ⟨hi, by simp [Lib.keeps]⟩, ?_⟩
        rw [getElem!_pos zs.toArray 0 (by simpa using hi)]; simpa using he
      | succ n ih =>
        intro i h0 hi he
        cases hk : Lib.keeps zs.toArray i
        · cases i with
          | zero => simp [Lib.keeps] at hk
          | succ i =>
            have e2 : zs[i] = zs[i + 1] := by
              simp only [Lib.keeps, Nat.add_sub_cancel] at hk
              rw [getElem!_pos zs.toArray i (by simp; omega), getElem!_pos zs.toArray (i + 1) (by simp; omega)] at hk
              simp at hk
              exact hk.symm
            exact ih i (by omega) (by omega) (by rw [e2]; exact he)
        · refine ⟨i, ⟨hi, hk⟩, ?_⟩
          rw [getElem!_pos zs.toArray i (by simpa using hi)]; simpa using he
    exact this i i (Nat.le_refl _) hi he
theorem compact_sorted (zs : List Int) (hs : zs.Pairwise (· ≤ ·)) : (Lib.compact zs).Pairwise (· < ·) := by
  unfold Lib.compact Lib.compactUpTo
  rw [List.pairwise_map]
  have h : ((List.range zs.length).filter (Lib.keeps zs.toArray)).Pairwise (· < ·) := List.pairwise_lt_range.filter _
  refine List.Pairwise.imp_of_mem ?_ h
  intro i j hi hj hij
  obtain ⟨h1, h2⟩ := List.mem_filter.1 hi
  obtain ⟨h3, h4⟩ := List.mem_filter.1 hj
  rw [List.mem_range] at h1 h3
  rw [getElem!_pos zs.toArray i (by simpa using h1), getElem!_pos zs.toArray j (by simpa using h3)]
  simp only [List.getElem_toArray]
  simp only [Lib.keeps, decide_eq_true_eq] at h4
  have h5 := h4.resolve_left (by omega)
  rw [getElem!_pos zs.toArray j (by simpa using h3), getElem!_pos zs.toArray (j - 1) (by simp; omega)] at h5
  simp only [List.getElem_toArray] at h5
  have h6 : zs[j - 1] ≤ zs[j] := List.pairwise_iff_getElem.1 hs (j - 1) j (by omega) h3 (by omega)
  have h7 : zs[i] ≤ zs[j - 1] := by
    rcases Nat.lt_or_ge i (j - 1) with k | k
    · exact List.pairwise_iff_getElem.1 hs i (j - 1) h1 (by omega) k
    · obtain rfl : i = j - 1 := by omega
      exact Int.le_refl _
  omega
theorem sort_sorted' (zs : List Int) : (zs.mergeSort fun x y => decide (x ≤ y)).Pairwise (· ≤ ·) := by
  have := List.pairwise_mergeSort (le := fun x y : Int => decide (x ≤ y)) (by intro a b c h1 h2; simp at *; omega) (by intro a b; simp; omega) zs
  exact this.imp (by intro a b h; simpa using h)
/-- Days made ready: rising, each once. -/
def ready (zs : List Int) : List Int := Lib.compact (zs.mergeSort fun x y => decide (x ≤ y))
theorem ready_rise (zs : List Int) : Rise (ready zs) := compact_sorted _ (sort_sorted' zs)
theorem ready_mem (zs : List Int) (x : Int) : x ∈ ready zs ↔ x ∈ zs := by
  unfold ready
  rw [compact_mem, (List.mergeSort_perm zs _).mem_iff]
/-- A row of numbers in the call's own memory. -/
def IRow (B : Nat) (w : World) (v : Value) (zs : List Int) : Prop := w.ownsRow B 3 1 v zs.length (zs.map (Value.int .i64))
/-- Numbers that can be read at a slice. -/
def IRead (w : World) (v : Value) (xs : List Int) : Prop := (v = .slice none 0 0 ∧ xs = []) ∨ ∃ g c, v = .slice (some ⟨g, 0, none⟩) xs.length c ∧ xs.length ≤ c ∧ ∀ (j : Nat) (x : Int), xs[j]? = some x → w.cell? ⟨g, j, none⟩ = some (.int .i64 x)
theorem IRead.bel {w w' : World} {v : Value} {xs : List Int} (h : IRead w v xs) (hb : Below w.heap.size w w') : IRead w' v xs := by
  rcases h with h | ⟨g, c, e, hcap, h⟩
  · exact .inl h
  · exact .inr ⟨g, c, e, hcap, fun j x hx => (hb.cell (p := ⟨g, j, none⟩) (cell_lt (h j x hx))).trans (h j x hx)⟩
theorem IRow.read {B : Nat} {w : World} {v : Value} {zs : List Int} (h : IRow B w v zs) : IRead w v zs := by
  unfold IRow at h
  rcases Joins.ownsRow_forms h with ⟨rfl, h0⟩ | ⟨g, cap, rfl⟩
  · exact .inl ⟨rfl, List.eq_nil_of_length_eq_zero h0⟩
  · refine .inr ⟨g, cap, rfl, row_cap h, fun j x hx => ?_⟩
    have h5 := World.ownsRow.cells h (g := g) rfl j (.int .i64 x) (by rw [List.getElem?_map, hx]; rfl)
    have h6 : (⟨g, 0, none⟩ : Addr).add j = ⟨g, j, none⟩ := by
      unfold Addr.add
      split
      · rename_i h0
        rw [h0]
      · simp
    rw [h6] at h5
    exact h5
theorem holds_below {w w' : World} {B g : Nat} {d : Array Int} (h : Holds (Value.int .i64) w g 0 d) (hb : Below B w w') (hg : g < B) : Holds (Value.int .i64) w' g 0 d := fun j hj =>
  ⟨(hb.cell (p := ⟨g, 0 + j, none⟩) hg).trans (h j hj).1, (hb.frozen (p := ⟨g, 0 + j, none⟩) hg).trans (h j hj).2⟩
theorem below_put (B : Nat) (w : World) (n g : Nat) (d : Array Int) (hB : B ≤ g) : Below B w (putRow (Value.int .i64) (Sort.ahead w n) g 0 d) :=
  ⟨rfl, rfl, rfl, by simp, fun i hi => by
    show ((Sort.ahead w n).heap.modify g _)[i]? = _
    rw [Array.getElem?_modify, if_neg (by omega)]
    rfl⟩
theorem below_grow0 (w : World) (os : Array Obj) : Below w.heap.size w (grow w os) :=
  ⟨rfl, rfl, rfl, by first | (simp [grow]; done) | (simp [grow]; omega), fun i hi => by
    show (w.heap ++ os)[i]? = _
    rw [Array.getElem?_append_left (by omega)]⟩
def Srt (B : Nat) (w : World) (sv : Value) (zs : List Int) : Prop :=
  (sv = .slice none 0 0 ∧ zs = []) ∨ ∃ g cap, sv = .slice (some ⟨g, 0, none⟩) zs.length cap ∧ B ≤ g ∧ g < w.heap.size ∧ zs.length ≤ cap ∧ Holds (Value.int .i64) w g 0 (zs.mergeSort fun x y => decide (x ≤ y)).toArray
theorem Srt.read {B : Nat} {w : World} {sv : Value} {zs : List Int} (h : Srt B w sv zs) : IRead w sv (zs.mergeSort fun x y => decide (x ≤ y)) := by
  rcases h with ⟨rfl, rfl⟩ | ⟨g, cap, rfl, _, _, hcap, hH⟩
  · exact .inl ⟨rfl, by simp⟩
  · refine .inr ⟨g, cap, by rw [List.length_mergeSort], by rw [List.length_mergeSort]; exact hcap, fun j x hx => ?_⟩
    obtain ⟨hj, e⟩ := List.getElem?_eq_some_iff.1 hx
    have h1 := (hH j (by simpa using hj)).1
    rw [Nat.zero_add, getElem!_pos _ j (by simpa using hj)] at h1
    rw [h1]
    simp [e]
theorem sort_row {B : Nat} {wr : World} {sv : Value} {zs : List Int} (ho : IRow B wr sv zs) (hB : B ≤ wr.heap.size) (hl : zs.length ≤ 100000) :
    Calls Tryd.prog 26 #[sv] wr fun e w' => e = .returned (.tuple #[]) ∧ Srt B w' sv zs ∧ Below B wr w' := by
  unfold IRow at ho
  rcases Joins.ownsRow_forms ho with ⟨rfl, h0⟩ | ⟨g, cap, rfl⟩
  · refine (Go.Proofs.Tryd.slices_Sort_int_none none 0 wr).mono ?_
    rintro e w' ⟨rfl, rfl⟩
    exact ⟨rfl, .inl ⟨rfl, List.eq_nil_of_length_eq_zero h0⟩, Below.refl _ _⟩
  · have hlt := ho.lt g rfl
    have hcap : zs.length ≤ cap := by
      rcases ho.2 with ⟨h2, _⟩ | ⟨g', cap', cur, e, _, _, hcap, _⟩
      · cases h2
      · cases e; exact hcap
    have hH : Holds (Value.int .i64) wr g 0 zs.toArray := fun j hj => by
      have hj' : j < zs.length := by simpa using hj
      refine ⟨?_, ho.frozenAt _⟩
      rw [Nat.zero_add, ho.cellAt j (by omega), getElem!_pos zs.toArray j hj]
      simp [hj']
    refine (Go.Proofs.Tryd.slices_Sort_int g 0 cap zs wr hH hlt.2 (by omega)).mono ?_
    rintro e w' ⟨rfl, n, os, rfl⟩
    have b1 := below_put B wr n g (zs.mergeSort fun x y => decide (x ≤ y)).toArray hlt.1
    have b2 := below_grow0 (putRow (Value.int .i64) (Sort.ahead wr n) g 0 (zs.mergeSort fun x y => decide (x ≤ y)).toArray) os
    have hs : (putRow (Value.int .i64) (Sort.ahead wr n) g 0 (zs.mergeSort fun x y => decide (x ≤ y)).toArray).heap.size = wr.heap.size := by simp
    refine ⟨rfl, .inr ⟨g, cap, rfl, hlt.1, Nat.lt_of_lt_of_le (by rw [hs]; exact hlt.2) b2.size, hcap, ?_⟩, b1.trans (b2.mono (by rw [hs]; exact hB))⟩
    refine holds_below (holds_putRow (Value.int .i64) (Sort.ahead wr n) g 0 zs.toArray _ hH (by simp [List.length_mergeSort])) b2 (by rw [hs]; exact hlt.2)
theorem compact_row {B : Nat} {wr : World} {sv : Value} {zs : List Int} (ho : Srt B wr sv zs) (hl : zs.length ≤ 100000) :
    Calls Tryd.prog 41 #[sv] wr fun e w' => ∃ sv', e = .returned sv' ∧ IRead w' sv' (ready zs) ∧ Below B wr w' := by
  rcases ho with ⟨rfl, rfl⟩ | ⟨g, cap, rfl, hg, hlt, hcap, hH⟩
  · refine (Go.Proofs.Tryd.slices_Compact_int_empty none 0 wr).mono ?_
    rintro e w' ⟨rfl, rfl⟩
    exact ⟨_, rfl, .inl ⟨rfl, by simp [ready, Lib.compact, Lib.compactUpTo]⟩, Below.refl _ _⟩
  · have hls : (zs.mergeSort fun x y => decide (x ≤ y)).length = zs.length := List.length_mergeSort ..
    have hcl := Lib.compact_length_le (zs.mergeSort fun x y => decide (x ≤ y))
    have hc := Go.Proofs.Tryd.slices_Compact_int g 0 cap (zs.mergeSort fun x y => decide (x ≤ y)) wr hH (by rw [hls]; omega) (by rw [hls]; exact hcap)
    rw [hls] at hc
    refine hc.mono ?_
    rintro e w' ⟨rfl, q, rfl⟩
    refine ⟨_, rfl, .inr ⟨g, cap, rfl, by unfold ready; omega, fun j x hj => ?_⟩, below_put B wr q g _ hg⟩
    have hj' : j < (ready zs).length := (List.getElem?_eq_some_iff.1 hj).1
    have hsz : (Lib.compact (zs.mergeSort fun x y => decide (x ≤ y)) ++ List.replicate (zs.length - (Lib.compact (zs.mergeSort fun x y => decide (x ≤ y))).length) (0 : Int)).toArray.size = (zs.mergeSort fun x y => decide (x ≤ y)).toArray.size := by
      simp [hls]; omega
    have := (holds_putRow (Value.int .i64) (Sort.ahead wr q) g 0 _ _ hH hsz) j (by
      have : j < (Lib.compact (zs.mergeSort fun x y => decide (x ≤ y))).length := hj'
      simp; omega)
    rw [Nat.zero_add] at this
    rw [this.1]
    congr 2
    have hjc : j < (Lib.compact (zs.mergeSort fun x y => decide (x ≤ y))).length := hj'
    rw [getElem!_pos _ j (by simp; omega)]
    simp only [List.getElem_toArray]
    rw [List.getElem_append_left hjc]
    exact (List.getElem?_eq_some_iff.1 hj).2
theorem Tryd.infoIn : ∃ i z, Tryd.prog.info? 3 = some i ∧ i.zero = some z ∧ i.size = 1 ∧ i.bytes = 8 ∧ z.cells.size = 1 := by
  have h : (Tryd.prog.info? 3).map (fun i => (i.zero, i.size, i.bytes)) = some (some (.int .i64 0), 1, 8) := by kernel_rfl
  obtain ⟨i, h1, h2⟩ := Option.map_eq_some_iff.1 h
  simp only [Prod.mk.injEq] at h2
  exact ⟨i, _, h1, h2.1, h2.2.1, h2.2.2, rfl⟩
theorem IRow.alloc {B : Nat} {w : World} {v : Value} {zs : List Int} (h : IRow B w v zs) (o : Obj) : IRow B (w.alloc o) v zs := World.ownsRow.alloc h o
/-- A number more, behind the others. -/
theorem wpList_push_int {W : World} {ops : Array Oper} {rest : List Oper} {o : Oper} {a : Act} {Q : Exit → Act → World → Prop} (hgd : o.guard = none) (s x : Operand)
    (ho : o.op = .call { callee := .builtin .append, args := #[s, x], argTypes := #[40, 40] }) (B : Nat) (v : Value) (zs : List Int) (n : Int) (hs : a.eval s = v) (hown : IRow B W v zs)
    (hx : a.eval x = .slice (some ⟨W.heap.size, 0, none⟩) 1 1) (hB : B ≤ W.heap.size) (hl : zs.length ≤ 100000)
    (h : ∀ v' w', IRow B w' v' (zs ++ [n]) → Below B W w' → (W.alloc (.cells #[.int .i64 n] 3)).grownBy w' v.ownBlock → wpList Tryd.prog ops Q rest (a.put o.dst v') w') : wpList Tryd.prog ops Q (o :: rest) a (W.alloc (.cells #[.int .i64 n] 3)) := by
  obtain ⟨i0, z, h1, h2, h3, h4, h5⟩ := Tryd.infoIn
  have hn : ∀ (j : Nat) (u : Value), [Value.int .i64 n][j]? = some u → (W.alloc (.cells #[.int .i64 n] 3)).cell? ((⟨W.heap.size, 0, none⟩ : Addr).add j) = some u := fun j u hj => alloc_cell W [.int .i64 n] 3 j u hj
  have hone : ∀ u ∈ [Value.int .i64 n], u.oneCell' = true := by intro u hu; simp at hu; subst hu; rfl
  refine wpList_append_own _ hgd s x 40 ho B 3 i0 z 1 8 Tryd.underlying40 h1 h2 h3 h4 h5 (by decide) v zs.length (zs.map (Value.int .i64)) hs (hown.alloc _) ⟨W.heap.size, 0, none⟩ 1 1 [.int .i64 n] hx rfl hn hone (by unfold maxLen; omega) (by omega) (by simp; omega) ?_
  intro v' w' hown' hgrow _
  refine h v' w' ?_ (((Below.refl B W).alloc hB _).grown hgrow (by simp; omega) (fun k hk => (hown.lt k hk).1)) hgrow
  unfold IRow
  rw [List.length_append, List.map_append]
  exact hown'
/-- Numbers of another row, behind the others. -/
theorem wpList_app_ints {W : World} {ops : Array Oper} {rest : List Oper} {o : Oper} {a : Act} {Q : Exit → Act → World → Prop} (hgd : o.guard = none) (s x : Operand)
    (ho : o.op = .call { callee := .builtin .append, args := #[s, x], argTypes := #[40, 40] }) (B : Nat) (v : Value) (zs ys : List Int) (hs : a.eval s = v) (hown : IRow B W v zs)
    (ad : Addr) (k cc : Nat) (hx : a.eval x = .slice (some ad) k cc) (hk : k = ys.length) (hy : ∀ (j : Nat) (y : Int), ys[j]? = some y → W.cell? (ad.add j) = some (.int .i64 y)) (hB : B ≤ W.heap.size) (hl : zs.length + ys.length ≤ 100000)
    (h : ∀ v' w', IRow B w' v' (zs ++ ys) → Below B W w' → wpList Tryd.prog ops Q rest (a.put o.dst v') w') : wpList Tryd.prog ops Q (o :: rest) a W := by
  obtain ⟨i0, z, h1, h2, h3, h4, h5⟩ := Tryd.infoIn
  have hn : ∀ (j : Nat) (u : Value), (ys.map (Value.int .i64))[j]? = some u → W.cell? (ad.add j) = some u := fun j u hj => by
    rw [List.getElem?_map] at hj
    obtain ⟨y, h6, h7⟩ := Option.map_eq_some_iff.1 hj
    rw [← h7]
    exact hy j y h6
  have hone : ∀ u ∈ ys.map (Value.int .i64), u.oneCell' = true := by
    intro u hu
    obtain ⟨y, _, rfl⟩ := List.mem_map.1 hu
    rfl
  subst hk
  refine wpList_append_own _ hgd s x 40 ho B 3 i0 z 1 8 Tryd.underlying40 h1 h2 h3 h4 h5 (by decide) v zs.length (zs.map (Value.int .i64)) hs hown ad ys.length cc (ys.map (Value.int .i64)) hx (by simp) hn hone (by unfold maxLen; omega) (by omega) hB ?_
  intro v' w' hown' hgrow _
  refine h v' w' ?_ ((Below.refl B W).grown hgrow hB (fun k hk => (hown.lt k hk).1))
  unfold IRow
  rw [List.length_append, List.map_append]
  exact hown'
/-- No number more. -/
theorem wpList_app_none {W : World} {ops : Array Oper} {rest : List Oper} {o : Oper} {a : Act} {Q : Exit → Act → World → Prop} (hgd : o.guard = none) (s x : Operand)
    (ho : o.op = .call { callee := .builtin .append, args := #[s, x], argTypes := #[40, 40] }) (B : Nat) (v : Value) (zs : List Int) (hs : a.eval s = v) (hown : IRow B W v zs)
    (hx : a.eval x = .slice none 0 0) (h : wpList Tryd.prog ops Q rest (a.put o.dst v) W) : wpList Tryd.prog ops Q (o :: rest) a W := by
  obtain ⟨i0, z, h1, h2, h3, h4, h5⟩ := Tryd.infoIn
  refine wpList_plain hgd fun K hK => ?_
  have hr := run_append_owned_none (P := Tryd.prog) (w := W) B 40 o.type 3 i0 1 Tryd.underlying40 h1 v zs.length _ hown
  unfold Oper.wp execOp
  simp only [ho, resolve, invoke, builtin, Sem.run_bind, Sem.run_pure, Result.andThen_ok, List.map_toArray, List.map_cons, List.map_nil, hs, hx, hr]
  exact hK _ _ h
theorem eachOnce_f {B : Nat} {w : World} {sv : Value} {zs : List Int} (ho : IRow B w sv zs) (hB : B ≤ w.heap.size) (hl : zs.length ≤ 100000) :
    Calls Tryd.prog 27 #[sv] w fun e w' => ∃ sv', e = .returned sv' ∧ IRead w' sv' (ready zs) ∧ Below B w w' := by
  have HS := hidLL (sort_row ho hB hl)
  clear ho
  go_enter Tryd.func27, Tryd.ntmps27
  go_wp2_with fail
  refine HS.out.mono ?_
  rintro e w1 ⟨rfl, hs, hb⟩
  have HB := hidLL hb
  have HC := hidLL (compact_row hs hl)
  clear hs hb
  go_wp2_with fail
  refine HC.out.mono ?_
  rintro e w2 ⟨sv', rfl, hr, hb2⟩
  have HR := hidLL (And.intro hr hb2)
  clear hr hb2
  go_wp2
  go_ret
  exact ⟨sv', rfl, HR.out.1, HB.out.trans HR.out.2⟩
end Go.Proofs.YtagdenpmonedlaaDoor
