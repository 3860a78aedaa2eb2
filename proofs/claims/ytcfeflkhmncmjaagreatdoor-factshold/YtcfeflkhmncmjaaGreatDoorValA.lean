/-
  Facts: rows of days, sorted and each once.
-/
import Derived.Test.YtcfeflkhmncmjaaGreatDoorFaA
import Derived.Test.YtcfeflkhmncmjaaGreatDoorShelfF
import Derived.Shelf.Slices.In.SortNone
import Derived.Lib.SmallJoins
import Derived.OwnWalk
import Derived.Lib.RowBridge
namespace Go.Proofs.YtcfeflkhmncmjaaGreatDoor
open Go.RowKit Go.Sort Go.Lib

theorem sort_sorted' (zs : List Int) : (zs.mergeSort fun x y => decide (x ≤ y)).Pairwise (· ≤ ·) := by
  have := List.pairwise_mergeSort (le := fun x y : Int => decide (x ≤ y)) (by intro a b c h1 h2; simp at *; omega) (by intro a b; simp; omega) zs
  exact this.imp (by intro a b h; simpa using h)
/-- A row of numbers in the call's own memory. -/
def IRow (B : Nat) (w : World) (v : Value) (zs : List Int) : Prop := w.ownsRow B 3 1 v zs.length (zs.map (Value.int .i64))
/-- Numbers that can be read at a slice. -/
def IRead (w : World) (v : Value) (xs : List Int) : Prop := (v = .slice none 0 0 ∧ xs = []) ∨ ∃ g c, v = .slice (some ⟨g, 0, none⟩) xs.length c ∧ xs.length ≤ c ∧ ∀ (j : Nat) (x : Int), xs[j]? = some x → w.cell? ⟨g, j, none⟩ = some (.int .i64 x)
theorem IRead.bel {w w' : World} {v : Value} {xs : List Int} (h : IRead w v xs) (hb : Below w.heap.size w w') : IRead w' v xs := by
  rcases h with h | ⟨g, c, e, hcap, h⟩
  · exact .inl h
  · exact .inr ⟨g, c, e, hcap, fun j x hx => (hb.cell (p := ⟨g, j, none⟩) (cell_lt (h j x hx))).trans (h j x hx)⟩
theorem IRow.read {B : Nat} {w : World} {v : Value} {zs : List Int} (h : IRow B w v zs) : IRead w v zs := by
  unfold IRow at h
  rcases Joins.ownsRow_forms h with ⟨rfl, h0⟩ | ⟨g, cap, rfl⟩
  · exact .inl ⟨rfl, List.eq_nil_of_length_eq_zero h0⟩
  · refine .inr ⟨g, cap, rfl, row_cap h, fun j x hx => ?_⟩
    have h5 := World.ownsRow.cells h (g := g) rfl j (.int .i64 x) (by rw [List.getElem?_map, hx]; rfl)
    have h6 : (⟨g, 0, none⟩ : Addr).add j = ⟨g, j, none⟩ := by
      unfold Addr.add
      split
      · rename_i h0
        rw [h0]
      · simp
    rw [h6] at h5
    exact h5
theorem holds_below {w w' : World} {B g : Nat} {d : Array Int} (h : Holds (Value.int .i64) w g 0 d) (hb : Below B w w') (hg : g < B) : Holds (Value.int .i64) w' g 0 d := fun j hj =>
  ⟨(hb.cell (p := ⟨g, 0 + j, none⟩) hg).trans (h j hj).1, (hb.frozen (p := ⟨g, 0 + j, none⟩) hg).trans (h j hj).2⟩
theorem below_put (B : Nat) (w : World) (n g : Nat) (d : Array Int) (hB : B ≤ g) : Below B w (putRow (Value.int .i64) (Sort.ahead w n) g 0 d) :=
  ⟨rfl, rfl, rfl, by simp, fun i hi => by
    show ((Sort.ahead w n).heap.modify g _)[i]? = _
    rw [Array.getElem?_modify, if_neg (by omega)]
    rfl⟩
theorem below_grow0 (w : World) (os : Array Obj) : Below w.heap.size w (grow w os) :=
  ⟨rfl, rfl, rfl, by first | (simp [grow]; done) | (simp [grow]; omega), fun i hi => by
    show (w.heap ++ os)[i]? = _
    rw [Array.getElem?_append_left (by omega)]⟩
def Srt (B : Nat) (w : World) (sv : Value) (zs : List Int) : Prop :=
  (sv = .slice none 0 0 ∧ zs = []) ∨ ∃ g cap, sv = .slice (some ⟨g, 0, none⟩) zs.length cap ∧ B ≤ g ∧ g < w.heap.size ∧ zs.length ≤ cap ∧ Holds (Value.int .i64) w g 0 (zs.mergeSort fun x y => decide (x ≤ y)).toArray
theorem Srt.read {B : Nat} {w : World} {sv : Value} {zs : List Int} (h : Srt B w sv zs) : IRead w sv (zs.mergeSort fun x y => decide (x ≤ y)) := by
  rcases h with ⟨rfl, rfl⟩ | ⟨g, cap, rfl, _, _, hcap, hH⟩
  · exact .inl ⟨rfl, by simp⟩
  · refine .inr ⟨g, cap, by rw [List.length_mergeSort], by rw [List.length_mergeSort]; exact hcap, fun j x hx => ?_⟩
    obtain ⟨hj, e⟩ := List.getElem?_eq_some_iff.1 hx
    have h1 := (hH j (by simpa using hj)).1
    rw [Nat.zero_add, getElem!_pos _ j (by simpa using hj)] at h1
    rw [h1]
    simp [e]
theorem sort_row {B : Nat} {wr : World} {sv : Value} {zs : List Int} (ho : IRow B wr sv zs) (hB : B ≤ wr.heap.size) (hl : zs.length ≤ 100000) :
    Calls Tryz.prog 84 #[sv] wr fun e w' => e = .returned (.tuple #[]) ∧ Srt B w' sv zs ∧ Below B wr w' := by
  unfold IRow at ho
  rcases Joins.ownsRow_forms ho with ⟨rfl, h0⟩ | ⟨g, cap, rfl⟩
  · refine (Go.Proofs.Tryz.slices_Sort_int_none none 0 wr).mono ?_
    rintro e w' ⟨rfl, rfl⟩
    exact ⟨rfl, .inl ⟨rfl, List.eq_nil_of_length_eq_zero h0⟩, Below.refl _ _⟩
  · have hlt := ho.lt g rfl
    have hcap : zs.length ≤ cap := by
      rcases ho.2 with ⟨h2, _⟩ | ⟨g', cap', cur, e, _, _, hcap, _⟩
      · cases h2
      · cases e; exact hcap
    have hH : Holds (Value.int .i64) wr g 0 zs.toArray := fun j hj => by
      have hj' : j < zs.length := by simpa using hj
      refine ⟨?_, ho.frozenAt _⟩
      rw [Nat.zero_add, ho.cellAt j (by omega), getElem!_pos zs.toArray j hj]
      simp [hj']
    refine (Go.Proofs.Tryz.slices_Sort_int g 0 cap zs wr hH hlt.2 (by omega)).mono ?_
    rintro e w' ⟨rfl, n, os, rfl⟩
    have b1 := below_put B wr n g (zs.mergeSort fun x y => decide (x ≤ y)).toArray hlt.1
    have b2 := below_grow0 (putRow (Value.int .i64) (Sort.ahead wr n) g 0 (zs.mergeSort fun x y => decide (x ≤ y)).toArray) os
    have hs : (putRow (Value.int .i64) (Sort.ahead wr n) g 0 (zs.mergeSort fun x y => decide (x ≤ y)).toArray).heap.size = wr.heap.size := by simp
    refine ⟨rfl, .inr ⟨g, cap, rfl, hlt.1, Nat.lt_of_lt_of_le (by rw [hs]; exact hlt.2) b2.size, hcap, ?_⟩, b1.trans (b2.mono (by rw [hs]; exact hB))⟩
    refine holds_below (holds_putRow (Value.int .i64) (Sort.ahead wr n) g 0 zs.toArray _ hH (by simp [List.length_mergeSort])) b2 (by rw [hs]; exact hlt.2)
theorem Tryz.infoIn : ∃ i z, Tryz.prog.info? 3 = some i ∧ i.zero = some z ∧ i.size = 1 ∧ i.bytes = 8 ∧ z.cells.size = 1 := by
  have h : (Tryz.prog.info? 3).map (fun i => (i.zero, i.size, i.bytes)) = some (some (.int .i64 0), 1, 8) := by kernel_rfl
  obtain ⟨i, h1, h2⟩ := Option.map_eq_some_iff.1 h
  simp only [Prod.mk.injEq] at h2
  exact ⟨i, _, h1, h2.1, h2.2.1, h2.2.2, rfl⟩
theorem IRow.alloc {B : Nat} {w : World} {v : Value} {zs : List Int} (h : IRow B w v zs) (o : Obj) : IRow B (w.alloc o) v zs := World.ownsRow.alloc h o
/-- A number more, behind the others. -/
theorem wpList_push_int {W : World} {ops : Array Oper} {rest : List Oper} {o : Oper} {a : Act} {Q : Exit → Act → World → Prop} (hgd : o.guard = none) (s x : Operand)
    (ho : o.op = .call { callee := .builtin .append, args := #[s, x], argTypes := #[35, 35] }) (B : Nat) (v : Value) (zs : List Int) (n : Int) (hs : a.eval s = v) (hown : IRow B W v zs)
    (hx : a.eval x = .slice (some ⟨W.heap.size, 0, none⟩) 1 1) (hB : B ≤ W.heap.size) (hl : zs.length ≤ 100000)
    (h : ∀ v' w', IRow B w' v' (zs ++ [n]) → Below B W w' → (W.alloc (.cells #[.int .i64 n] 3)).grownBy w' v.ownBlock → wpList Tryz.prog ops Q rest (a.put o.dst v') w') : wpList Tryz.prog ops Q (o :: rest) a (W.alloc (.cells #[.int .i64 n] 3)) := by
  obtain ⟨i0, z, h1, h2, h3, h4, h5⟩ := Tryz.infoIn
  have hn : ∀ (j : Nat) (u : Value), [Value.int .i64 n][j]? = some u → (W.alloc (.cells #[.int .i64 n] 3)).cell? ((⟨W.heap.size, 0, none⟩ : Addr).add j) = some u := fun j u hj => alloc_cell W [.int .i64 n] 3 j u hj
  have hone : ∀ u ∈ [Value.int .i64 n], u.oneCell' = true := by intro u hu; simp at hu; subst hu; rfl
  refine wpList_append_own _ hgd s x 35 ho B 3 i0 z 1 8 Tryz.underlying35 h1 h2 h3 h4 h5 (by decide) v zs.length (zs.map (Value.int .i64)) hs (hown.alloc _) ⟨W.heap.size, 0, none⟩ 1 1 [.int .i64 n] hx rfl hn hone (by unfold maxLen; omega) (by omega) (by simp; omega) ?_
  intro v' w' hown' hgrow _
  refine h v' w' ?_ (((Below.refl B W).alloc hB _).grown hgrow (by simp; omega) (fun k hk => (hown.lt k hk).1)) hgrow
  unfold IRow
  rw [List.length_append, List.map_append]
  exact hown'
/-- Numbers of another row, behind the others. -/
theorem wpList_app_ints {W : World} {ops : Array Oper} {rest : List Oper} {o : Oper} {a : Act} {Q : Exit → Act → World → Prop} (hgd : o.guard = none) (s x : Operand)
    (ho : o.op = .call { callee := .builtin .append, args := #[s, x], argTypes := #[35, 35] }) (B : Nat) (v : Value) (zs ys : List Int) (hs : a.eval s = v) (hown : IRow B W v zs)
    (ad : Addr) (k cc : Nat) (hx : a.eval x = .slice (some ad) k cc) (hk : k = ys.length) (hy : ∀ (j : Nat) (y : Int), ys[j]? = some y → W.cell? (ad.add j) = some (.int .i64 y)) (hB : B ≤ W.heap.size) (hl : zs.length + ys.length ≤ 100000)
    (h : ∀ v' w', IRow B w' v' (zs ++ ys) → Below B W w' → wpList Tryz.prog ops Q rest (a.put o.dst v') w') : wpList Tryz.prog ops Q (o :: rest) a W := by
  obtain ⟨i0, z, h1, h2, h3, h4, h5⟩ := Tryz.infoIn
  have hn : ∀ (j : Nat) (u : Value), (ys.map (Value.int .i64))[j]? = some u → W.cell? (ad.add j) = some u := fun j u hj => by
    rw [List.getElem?_map] at hj
    obtain ⟨y, h6, h7⟩ := Option.map_eq_some_iff.1 hj
    rw [← h7]
    exact hy j y h6
  have hone : ∀ u ∈ ys.map (Value.int .i64), u.oneCell' = true := by
    intro u hu
    obtain ⟨y, _, rfl⟩ := List.mem_map.1 hu
    rfl
  subst hk
  refine wpList_append_own _ hgd s x 35 ho B 3 i0 z 1 8 Tryz.underlying35 h1 h2 h3 h4 h5 (by decide) v zs.length (zs.map (Value.int .i64)) hs hown ad ys.length cc (ys.map (Value.int .i64)) hx (by simp) hn hone (by unfold maxLen; omega) (by omega) hB ?_
  intro v' w' hown' hgrow _
  refine h v' w' ?_ ((Below.refl B W).grown hgrow hB (fun k hk => (hown.lt k hk).1))
  unfold IRow
  rw [List.length_append, List.map_append]
  exact hown'
/-- No number more. -/
theorem wpList_app_none {W : World} {ops : Array Oper} {rest : List Oper} {o : Oper} {a : Act} {Q : Exit → Act → World → Prop} (hgd : o.guard = none) (s x : Operand)
    (ho : o.op = .call { callee := .builtin .append, args := #[s, x], argTypes := #[35, 35] }) (B : Nat) (v : Value) (zs : List Int) (hs : a.eval s = v) (hown : IRow B W v zs)
    (hx : a.eval x = .slice none 0 0) (h : wpList Tryz.prog ops Q rest (a.put o.dst v) W) : wpList Tryz.prog ops Q (o :: rest) a W := by
  obtain ⟨i0, z, h1, h2, h3, h4, h5⟩ := Tryz.infoIn
  refine wpList_plain hgd fun K hK => ?_
  have hr := run_append_owned_none (P := Tryz.prog) (w := W) B 35 o.type 3 i0 1 Tryz.underlying35 h1 v zs.length _ hown
  unfold Oper.wp execOp
  simp only [ho, resolve, invoke, builtin, Sem.run_bind, Sem.run_pure, Result.andThen_ok, List.map_toArray, List.map_cons, List.map_nil, hs, hx, hr]
  exact hK _ _ h
end Go.Proofs.YtcfeflkhmncmjaaGreatDoor
namespace Go.Proofs.YtcfeflkhmncmjaaGreatDoor
open Go.RowKit Go.Maps

set_option maxHeartbeats 1000000 in
set_option maxRecDepth 100000 in
theorem value_f {B b : Nat} {w : World} {L : List Fct} {sv : Value} (h : FFile 61 B w b L sv) (hG : ∀ x ∈ L, Good x) (hl : L.length ≤ 500) (who : Int) (nm : ByteArray) (on known : Int) :
    Calls Tryz.prog 73 #[.pointer (some ⟨b, 0, none⟩), .int .i64 who, .string nm, .int .i64 on, .int .i64 known] w fun e w' => e = .returned (.tuple #[.int .i64 (valL L who nm on known).1, .bool (valL L who nm on known).2]) ∧ Below w.heap.size w w' := by
  have HC := hidLL (counting_f h hG hl who nm on known)
  clear h hG
  have HK : Hid (keyOf Tryz.prog 3 (.int .i64 (-1)) = some (.int .i64 (-1))) := keyInt (by omega) (by omega)
  obtain ⟨v, bb, y, HVal, HAt⟩ : ∃ v bb, ∃ y : Fct, Hid (valL L who nm on known = (v, bb) ∧ v = y.val) ∧ Hid (∀ D, MapIs D (fun o => latestL L who nm o on known) → Maps.has D (.int .i64 (-1)) = bb ∧ D.atKey (.int .i64 (-1)) (.held fct0) = .held y) := by
    unfold valL
    cases hla : latestL L who nm (-1) on known with
    | none => exact ⟨0, false, fct0, hidLL ⟨rfl, rfl⟩, hidLL (fun D hD => hD.none hla _)⟩
    | some x => exact ⟨x.val, true, x, hidLL ⟨rfl, rfl⟩, hidLL (fun D hD => ⟨by rw [hD.has, hla]; rfl, hD.here _ _ hla _⟩)⟩
  rw [HVal.out.1]
  have HV2 := hidLL HVal.out.2
  clear HVal
  go_enter Tryz.func73, Tryz.ntmps73
  go_wp2_with fail
  refine HC.out.mono ?_
  rintro e w1 ⟨rfl, ⟨D, ho, hm⟩, hb⟩
  have HA := hidLL (HAt.out D hm)
  have HO := hidLL ho
  have HB := hidLL hb
  clear hm ho hb HAt
  obtain ⟨yw, yn, yo, yv, yf, yt, yl⟩ := y
  go_wp2_with (first
    | (at_lookup; refine wpList_lookup_fct _ rfl _ _ 160 rfl 3 61 lawInt Tryz.underlying160 fct0 (zeroFct _) w.heap.size 500 D rfl HO.out _ _ rfl HK.out ⟨yw, yn, yo, yv, yf, yt, yl⟩ HA.out.2 bb HA.out.1 ?_)
    | go_in)
  go_ret2
  exact ⟨by rw [HV2.out]; rfl, HB.out.alloc HB.out.size _⟩
theorem wpList_next_fct {w : World} {ops : Array Oper} {rest : List Oper} {o : Oper} {a : Act} {Q : Exit → Act → World → Prop} (hg : o.guard = none) (it : Operand) (hop : o.op = Op.next it false)
    (b r n : Nat) (D : DataW Fct) (left : Lit → Bool) (cnt : Nat) (hit : a.eval it = .pointer (some ⟨r, 0, none⟩)) (h : w.ranges Tryz.prog 3 RF b r n D left cnt)
    (hDone : cnt = 0 → (∀ kl, left kl = false) → wpList Tryz.prog ops Q rest (a.put o.dst (.tuple #[.bool false])) w)
    (hMore : ∀ (k : Int) (y : Fct) (w' : World) (cnt' : Nat), left (.int .i64 k) = true → (∀ zd, D.atKey (.int .i64 k) zd = .held y) → w'.ranges Tryz.prog 3 RF b r n D (fun z => left z && !z.sameKey (.int .i64 k)) cnt' → cnt' < cnt → w.grownBy w' (some r) → w'.heap.size = w.heap.size →
      (Instr.entry (.pointer (some ⟨r, 0, none⟩))).run Tryz.prog w' = .ok (.tuple #[.int .i64 k, .agg #[.int .i64 y.who, .string y.nm, .int .i64 y.oth, .int .i64 y.val, .int .i64 y.frm, .int .i64 y.til, .int .i64 y.lrn]]) w' →
      wpList Tryz.prog ops Q rest (a.put o.dst (.tuple #[.bool true, .int .i64 k, .agg #[.int .i64 y.who, .string y.nm, .int .i64 y.oth, .int .i64 y.val, .int .i64 y.frm, .int .i64 y.til, .int .i64 y.lrn]])) w') :
    wpList Tryz.prog ops Q (o :: rest) a w :=
  wpList_next_ranges w hg it hop 3 lawInt RF (Value.int .i64) fctA (fun key kl hkey => by obtain ⟨x, rfl, _⟩ := Maps.keyOf_int_inv Tryz.underlying3 hkey; exact ⟨x, rfl⟩) (fun v y hv => by obtain ⟨c, rfl, _⟩ := RF_inv hv; exact ⟨c, rfl⟩)
    b r n D left cnt hit h hDone (fun x c kl y w' cnt' hkey hlk hv hat hrg hlt hgr hsz hen => by
      obtain ⟨x', ex, rfl, _⟩ := Maps.keyOf_int_inv Tryz.underlying3 hkey
      cases ex
      rw [RF_mk] at hv
      injection hv with hv
      subst hv
      exact hMore x c w' cnt' hlk hat hrg hlt hgr hsz hen)
theorem ownsMap_len {w : World} {b n : Nat} {D : DataW Fct} (h : w.ownsMap Tryz.prog 3 RF b n D) : Maps.size D ≤ n := h.size_le
/-- What is gathered of the map: each number whose fact has a value, once. -/
structure Got (f : Int → Option Fct) (left : Lit → Bool) (ys : List Int) : Prop where
  nd : ys.Nodup
  mem : ∀ o, o ∈ ys ↔ (left (.int .i64 o) = false ∧ o ≠ -1 ∧ ∃ x, f o = some x ∧ x.val ≠ 0)
theorem sameKey_int (a b : Int) : (Lit.int .i64 a).sameKey (.int .i64 b) = decide (a = b) := by
  by_cases h : a = b
  · subst h; simp [Lit.sameKey]
  · rw [sameKey_ne (by intro e; injection e with _ e; exact h e)]; simp [h]
theorem Got.skip {f : Int → Option Fct} {left : Lit → Bool} {ys : List Int} (h : Got f left ys) {o0 : Int} {x : Fct} (hl : left (.int .i64 o0) = true) (hx : f o0 = some x) (hn : o0 = -1 ∨ x.val = 0) : Got f (fun z => left z && !z.sameKey (.int .i64 o0)) ys := by
  refine ⟨h.nd, fun o => ?_⟩
  rw [h.mem o, sameKey_int]
  by_cases e : o = o0
  · subst e
    simp only [hl, hx]
    constructor
    · rintro ⟨k, _⟩; cases k
    · rintro ⟨_, k2, y, k3, k4⟩
      injection k3 with k3
      subst k3
      rcases hn with hn | hn
      · exact absurd hn k2
      · exact absurd hn k4
  · simp [e]
theorem Got.take {f : Int → Option Fct} {left : Lit → Bool} {ys : List Int} (h : Got f left ys) {o0 : Int} {x : Fct} (hl : left (.int .i64 o0) = true) (hx : f o0 = some x) (h1 : o0 ≠ -1) (h2 : x.val ≠ 0) : Got f (fun z => left z && !z.sameKey (.int .i64 o0)) (ys ++ [o0]) := by
  have hn : o0 ∉ ys := fun k => by
    have := ((h.mem o0).1 k).1
    rw [hl] at this
    cases this
  refine ⟨List.nodup_append.2 ⟨h.nd, by simp, fun a ha b hb e => ?_⟩, fun o => ?_⟩
  · obtain rfl : b = o0 := by simpa using hb
    subst e
    exact hn ha
  · rw [List.mem_append, h.mem o, sameKey_int]
    by_cases e : o = o0
    · subst e
      simp only [hl, hx]
      simp [h1, h2]
    · simp [e]
theorem Got.end {f : Int → Option Fct} {left : Lit → Bool} {ys : List Int} (h : Got f left ys) (hl : ∀ k, left k = false) (o : Int) : o ∈ ys ↔ (o ≠ -1 ∧ ∃ x, f o = some x ∧ x.val ≠ 0) := by
  rw [h.mem o, hl]
  simp
theorem got_sorted {L : List Fct} (hG : ∀ x ∈ L, Good x) {who : Int} {nm : ByteArray} {on known : Int} {ys : List Int} (hn : ys.Nodup) (hm : ∀ o, o ∈ ys ↔ (o ≠ -1 ∧ ∃ x, latestL L who nm o on known = some x ∧ x.val ≠ 0)) :
    (ys.mergeSort fun x y => decide (x ≤ y)) = othersL L who nm on known := by
  refine rise_eq ?_ (others_rise L who nm on known) fun m => ?_
  · have h1 := sort_sorted' ys
    have h2 : (ys.mergeSort fun x y => decide (x ≤ y)).Nodup := (List.mergeSort_perm ys _).nodup_iff.2 hn
    have h3 := h1.and h2
    exact h3.imp (by intro a b ⟨k1, k2⟩; omega)
  · rw [(List.mergeSort_perm ys _).mem_iff, hm m, others_mem]
    constructor
    · rintro ⟨h1, x, hx, hv⟩
      obtain ⟨k1, k2, _⟩ := latest_in hx
      have := (hG x k1).oth
      rw [k2] at this
      exact ⟨by omega, by omega, x, hx, hv⟩
    · rintro ⟨h1, h2, k⟩
      exact ⟨by omega, k⟩
/-- While the others are gathered. -/
structure Gath (w : World) (r : Nat) (D : DataW Fct) (f : Int → Option Fct) (t : Value) (wr : World) (left : Lit → Bool) (cnt : Nat) (ys : List Int) : Prop where
  rg : wr.ranges Tryz.prog 3 RF w.heap.size r 500 D left cnt
  got : Got f left ys
  row : IRow (r + 1) wr t ys
  bel : Below w.heap.size w wr
  few : ys.length + cnt ≤ 500
  lft : ∀ k, left k = true → Maps.has D k = true
  sz : r + 1 ≤ wr.heap.size
  lo : w.heap.size ≤ r
/-- Numbers at a slice, in a block of the call's own. -/
def IOwn (B : Nat) (w : World) (v : Value) (xs : List Int) : Prop := (v = .slice none 0 0 ∧ xs = []) ∨ ∃ g c, v = .slice (some ⟨g, 0, none⟩) xs.length c ∧ B ≤ g ∧ g < w.heap.size ∧ xs.length ≤ c ∧ ∀ (j : Nat) (x : Int), xs[j]? = some x → w.cell? ⟨g, j, none⟩ = some (.int .i64 x)
theorem IOwn.mono {B B' : Nat} {w : World} {v : Value} {xs : List Int} (h : IOwn B w v xs) (hB : B' ≤ B) : IOwn B' w v xs := by
  rcases h with h | ⟨g, c, e, h1, h2⟩
  · exact .inl h
  · exact .inr ⟨g, c, e, by omega, h2⟩
theorem IOwn.read {B : Nat} {w : World} {v : Value} {xs : List Int} (h : IOwn B w v xs) : IRead w v xs := by
  rcases h with h | ⟨g, c, e, _, _, h1, h2⟩
  · exact .inl h
  · exact .inr ⟨g, c, e, h1, h2⟩
theorem Srt.own {B : Nat} {w : World} {sv : Value} {zs : List Int} (h : Srt B w sv zs) : IOwn B w sv (zs.mergeSort fun x y => decide (x ≤ y)) := by
  rcases h with ⟨rfl, rfl⟩ | ⟨g, cap, rfl, h1, h2, hcap, hH⟩
  · exact .inl ⟨rfl, by simp⟩
  · refine .inr ⟨g, cap, by rw [List.length_mergeSort], h1, h2, by rw [List.length_mergeSort]; exact hcap, fun j x hx => ?_⟩
    obtain ⟨hj, e⟩ := List.getElem?_eq_some_iff.1 hx
    have h1 := (hH j (by simpa using hj)).1
    rw [Nat.zero_add, getElem!_pos _ j (by simpa using hj)] at h1
    rw [h1]
    simp [e]
set_option maxHeartbeats 4000000 in
set_option maxRecDepth 100000 in
theorem others_o {B b : Nat} {w : World} {L : List Fct} {sv : Value} (h : FFile 61 B w b L sv) (hG : ∀ x ∈ L, Good x) (hl : L.length ≤ 500) (who : Int) (nm : ByteArray) (on known : Int) :
    Calls Tryz.prog 74 #[.pointer (some ⟨b, 0, none⟩), .int .i64 who, .string nm, .int .i64 on, .int .i64 known] w fun e w' => ∃ sv', e = .returned sv' ∧ IOwn w.heap.size w' sv' (othersL L who nm on known) ∧ Below w.heap.size w w' := by
  have HC := hidLL (counting_f h hG hl who nm on known)
  have HG := hidLL hG
  clear h hG
  go_enter Tryz.func74, Tryz.ntmps74
  go_wp2_with fail
  refine HC.out.mono ?_
  rintro e w1 ⟨rfl, ⟨D, ho, hm⟩, hb⟩
  have HM := hidLL hm
  have HO := hidLL ho
  have HB := hidLL hb
  have hsz := hb.size
  clear hm ho hb
  go_wp2_with (first
    | (at_range; refine wpList_range_own _ rfl _ 160 rfl 3 61 lawInt Tryz.underlying160 RF w.heap.size 500 D rfl HO.out ?_; intro w0 hrg0 hg0 hs0)
    | go_in)
  have HS : Hid (Gath w w1.heap.size D (fun o => latestL L who nm o on known) (.slice none 0 0) w0 (Maps.has D) (Maps.size D) []) := by
    refine ⟨hrg0, ⟨by simp, fun o => ?_⟩, World.ownsRow_nil _ _ _ _, HB.out.grown hg0 HB.out.size (fun k hk => by cases hk), ?_, fun k hk => hk, by omega, hsz⟩
    · rw [HM.out.has]
      constructor
      · intro k; cases k
      · rintro ⟨k1, _, x, k2, _⟩
        rw [k2] at k1
        cases k1
    · have := HO.out.size_le
      simpa using this
  clear hrg0 hg0 hs0
  go_frame
  go_loopw [11] (fun t wr => ∃ left cnt ys, Gath w w1.heap.size D (fun o => latestL L who nm o on known) t wr left cnt ys)
    (fun _ wr => wr.rangeLeft w.heap.size w1.heap.size)
  case atStart => exact ⟨_, _, _, HS.out⟩
  case round =>
    obtain ⟨left, cnt, ys, hga⟩ := hrel
    have HGa := hidLL hga
    clear hga HS
    go_wp2_with (first
      | (at_next; refine wpList_next_fct rfl _ rfl w.heap.size w1.heap.size 500 D left cnt rfl HGa.out.rg ?_ ?_)
      | go_in)
    · intro _ hl0
      have HL0 := hidLL hl0
      clear hl0
      have HSort := hidLL (sort_row HGa.out.row HGa.out.sz (by have := HGa.out.few; omega))
      go_wp2_with fail
      refine HSort.out.mono ?_
      rintro e w3 ⟨rfl, hs, hb3⟩
      have HR := hidLL (And.intro hs hb3)
      clear hs hb3
      go_wp2
      go_ret
      refine ⟨_, rfl, ?_, HGa.out.bel.trans (HR.out.2.mono (by have := HGa.out.lo; omega))⟩
      have h9 := (HR.out.1.own).mono (by have := HGa.out.lo; omega : w.heap.size ≤ w1.heap.size + 1)
      rw [got_sorted HG.out HGa.out.got.nd (HGa.out.got.end HL0.out)] at h9
      exact h9
    · intro k y w2 cnt2 hlk hat hrg2 hlt hg2 hs2 hen
      have hfk : latestL L who nm k on known = some y := by
        have h1 := HGa.out.lft _ hlk
        rw [HM.out.has k] at h1
        cases hf : latestL L who nm k on known with
        | none => rw [hf] at h1; cases h1
        | some x =>
          have h2 := HM.out.here k x hf (.held fct0)
          rw [hat] at h2
          injection h2 with h2
          rw [h2]
      have HFk := hidLL (And.intro hlk hfk)
      have HW2 : Hid (IRow (w1.heap.size + 1) w2 u11 ys ∧ Below w.heap.size w w2) := by
        refine ⟨World.ownsRow.kept HGa.out.row hg2 (.inr fun e => ?_), HGa.out.bel.grown hg2 HGa.out.bel.size (fun k hk => by cases hk; exact HGa.out.lo)⟩
        have := (World.ownsRow.lt HGa.out.row w1.heap.size e).1
        omega
      have HRg := hidLL (And.intro hrg2 hlt)
      have hsz2 : w1.heap.size + 1 ≤ w2.heap.size := by have := HGa.out.sz; omega
      have hlo := HGa.out.lo
      have HLf : Hid (∀ kk, (left kk && !kk.sameKey (.int .i64 k)) = true → Maps.has D kk = true) := fun kk hk => HGa.out.lft kk (by simp at hk; exact hk.1)
      have hfew := HGa.out.few
      clear hlk hat hrg2 hg2 hfk
      by_cases hk1 : k = -1
      · have HGo := hidLL (HGa.out.got.skip HFk.out.1 HFk.out.2 (.inl hk1))
        obtain ⟨yw, yn, yo, yv, yf, yt, yl⟩ := y
        go_wp2
        go_roundw
        case rel => exact ⟨_, _, _, ⟨HRg.out.1.alloc _, HGo.out, HW2.out.1.alloc _, HW2.out.2.alloc (by omega) _, by omega, HLf.out, by simp; omega, hlo⟩⟩
        case measure => rw [(HRg.out.1.alloc _).left_eq, HGa.out.rg.left_eq]; exact HRg.out.2
      · by_cases hv0 : y.val = 0
        · have HGo := hidLL (HGa.out.got.skip HFk.out.1 HFk.out.2 (.inr hv0))
          obtain ⟨yw, yn, yo, yv, yf, yt, yl⟩ := y
          simp only at hv0
          go_wp2
          go_roundw
          case rel => exact ⟨_, _, _, ⟨HRg.out.1.alloc _, HGo.out, HW2.out.1.alloc _, HW2.out.2.alloc (by omega) _, by omega, HLf.out, by simp; omega, hlo⟩⟩
          case measure => rw [(HRg.out.1.alloc _).left_eq, HGa.out.rg.left_eq]; exact HRg.out.2
        · have HGo := hidLL (HGa.out.got.take HFk.out.1 HFk.out.2 hk1 hv0)
          obtain ⟨yw, yn, yo, yv, yf, yt, yl⟩ := y
          simp only at hv0
          have hk2 : (k != -1) = true := by simpa using hk1
          have hv2 : (yv != 0) = true := by simpa using hv0
          go_wp2_with (first
            | (at_builtin; refine wpList_push_int rfl _ _ rfl (w1.heap.size + 1) u11 ys k (by first | (simp [Act.eval]; done) | simp [Act.eval, Act.put]) (HW2.out.1.alloc _) (by first | (simp [Act.eval]; done) | simp [Act.eval, Act.put]) (by simp; omega) (by omega) ?_; intro v' w3 hr3 hb3 hg3)
            | go_in)
          have HR3 := hidLL (And.intro hr3 (And.intro hb3 hg3))
          clear hr3 hb3 hg3
          have HRk : Hid (w3.ranges Tryz.prog 3 RF w.heap.size w1.heap.size 500 D (fun z => left z && !z.sameKey (.int .i64 k)) cnt2) := by
            refine ((HRg.out.1.alloc _).alloc _).kept HR3.out.2.2 (fun e => ?_) (fun e => ?_)
            · have := (World.ownsRow.lt HW2.out.1 _ e.symm).1; omega
            · have := (World.ownsRow.lt HW2.out.1 _ e.symm).1; omega
          go_roundw
          case rel => exact ⟨_, _, _, ⟨HRk.out, HGo.out, HR3.out.1, (HW2.out.2.alloc (by omega) _).trans (HR3.out.2.1.mono (by omega)), by rw [List.length_append]; simp; omega, HLf.out, by have := HR3.out.2.1.size; simp at this; omega, hlo⟩⟩
          case measure => rw [HRk.out.left_eq, HGa.out.rg.left_eq]; exact HRg.out.2
theorem others_f {B b : Nat} {w : World} {L : List Fct} {sv : Value} (h : FFile 61 B w b L sv) (hG : ∀ x ∈ L, Good x) (hl : L.length ≤ 500) (who : Int) (nm : ByteArray) (on known : Int) :
    Calls Tryz.prog 74 #[.pointer (some ⟨b, 0, none⟩), .int .i64 who, .string nm, .int .i64 on, .int .i64 known] w fun e w' => ∃ sv', e = .returned sv' ∧ IRead w' sv' (othersL L who nm on known) ∧ Below w.heap.size w w' := by
  refine (others_o h hG hl who nm on known).mono ?_
  rintro e w' ⟨sv', h1, h2, h3⟩
  exact ⟨sv', h1, h2.read, h3⟩
end Go.Proofs.YtcfeflkhmncmjaaGreatDoor
