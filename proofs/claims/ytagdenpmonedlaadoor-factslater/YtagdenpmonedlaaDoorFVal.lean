/-
  Facts: the program's Value and Others.
-/
import Derived.Test.YtagdenpmonedlaaDoorFCount
import Derived.Test.YtagdenpmonedlaaDoorFSort
namespace Go.Proofs.YtagdenpmonedlaaDoor
open Go.RowKit Go.Maps

set_option maxHeartbeats 1000000 in
set_option maxRecDepth 100000 in
theorem value_f {B b : Nat} {w : World} {L : List Fct} {sv : Value} (h : FFile 32 B w b L sv) (hG : ∀ x ∈ L, Good x) (hl : L.length ≤ 500) (who : Int) (nm : ByteArray) (on known : Int) :
    Calls Tryd.prog 10 #[.pointer (some ⟨b, 0, none⟩), .int .i64 who, .string nm, .int .i64 on, .int .i64 known] w fun e w' => e = .returned (.tuple #[.int .i64 (valL L who nm on known).1, .bool (valL L who nm on known).2]) ∧ Below w.heap.size w w' := by
  have HC := hidLL (counting_f h hG hl who nm on known)
  clear h hG
  have HK : Hid (keyOf Tryd.prog 3 (.int .i64 (-1)) = some (.int .i64 (-1))) := keyInt (by omega) (by omega)
  obtain ⟨v, bb, y, HVal, HAt⟩ : ∃ v bb, ∃ y : Fct, Hid (valL L who nm on known = (v, bb) ∧ v = y.val) ∧ Hid (∀ D, MapIs D (fun o => latestL L who nm o on known) → Maps.has D (.int .i64 (-1)) = bb ∧ D.atKey (.int .i64 (-1)) (.held fct0) = .held y) := by
    unfold valL
    cases hla : latestL L who nm (-1) on known with
    | none => exact ⟨0, false, fct0, hidLL ⟨rfl, rfl⟩, hidLL (fun D hD => hD.none hla _)⟩
    | some x => exact ⟨x.val, true, x, hidLL ⟨rfl, rfl⟩, hidLL (fun D hD => ⟨by rw [hD.has, hla]; rfl, hD.here _ _ hla _⟩)⟩
  rw [HVal.out.1]
  have HV2 := hidLL HVal.out.2
  clear HVal
  go_enter Tryd.func10, Tryd.ntmps10
  go_wp2_with fail
  refine HC.out.mono ?_
  rintro e w1 ⟨rfl, ⟨D, ho, hm⟩, hb⟩
  have HA := hidLL (HAt.out D hm)
  have HO := hidLL ho
  have HB := hidLL hb
  clear hm ho hb HAt
  obtain ⟨yw, yn, yo, yv, yf, yt, yl⟩ := y
  go_wp2_with (first
    | (at_lookup; refine wpList_lookup_fct _ rfl _ _ 55 rfl 3 32 lawInt Tryd.underlying55 fct0 (zeroFct _) w.heap.size 500 D rfl HO.out _ _ rfl HK.out ⟨yw, yn, yo, yv, yf, yt, yl⟩ HA.out.2 bb HA.out.1 ?_)
    | go_in)
  go_ret2
  exact ⟨by rw [HV2.out]; rfl, HB.out.alloc HB.out.size _⟩
theorem wpList_next_fct {w : World} {ops : Array Oper} {rest : List Oper} {o : Oper} {a : Act} {Q : Exit → Act → World → Prop} (hg : o.guard = none) (it : Operand) (hop : o.op = Op.next it false)
    (b r n : Nat) (D : DataW Fct) (left : Lit → Bool) (cnt : Nat) (hit : a.eval it = .pointer (some ⟨r, 0, none⟩)) (h : w.ranges Tryd.prog 3 RF b r n D left cnt)
    (hDone : cnt = 0 → (∀ kl, left kl = false) → wpList Tryd.prog ops Q rest (a.put o.dst (.tuple #[.bool false])) w)
    (hMore : ∀ (k : Int) (y : Fct) (w' : World) (cnt' : Nat), left (.int .i64 k) = true → (∀ zd, D.atKey (.int .i64 k) zd = .held y) → w'.ranges Tryd.prog 3 RF b r n D (fun z => left z && !z.sameKey (.int .i64 k)) cnt' → cnt' < cnt → w.grownBy w' (some r) → w'.heap.size = w.heap.size →
      (Instr.entry (.pointer (some ⟨r, 0, none⟩))).run Tryd.prog w' = .ok (.tuple #[.int .i64 k, .agg #[.int .i64 y.who, .string y.nm, .int .i64 y.oth, .int .i64 y.val, .int .i64 y.frm, .int .i64 y.til, .int .i64 y.lrn]]) w' →
      wpList Tryd.prog ops Q rest (a.put o.dst (.tuple #[.bool true, .int .i64 k, .agg #[.int .i64 y.who, .string y.nm, .int .i64 y.oth, .int .i64 y.val, .int .i64 y.frm, .int .i64 y.til, .int .i64 y.lrn]])) w') :
    wpList Tryd.prog ops Q (o :: rest) a w :=
  wpList_next_ranges w hg it hop 3 lawInt RF (Value.int .i64) fctA (fun key kl hkey => by obtain ⟨x, rfl, _⟩ := Maps.keyOf_int_inv Tryd.underlying3 hkey; exact ⟨x, rfl⟩) (fun v y hv => by obtain ⟨c, rfl, _⟩ := RF_inv hv; exact ⟨c, rfl⟩)
    b r n D left cnt hit h hDone (fun x c kl y w' cnt' hkey hlk hv hat hrg hlt hgr hsz hen => by
      obtain ⟨x', ex, rfl, _⟩ := Maps.keyOf_int_inv Tryd.underlying3 hkey
      cases ex
      rw [RF_mk] at hv
      injection hv with hv
      subst hv
      exact hMore x c w' cnt' hlk hat hrg hlt hgr hsz hen)
theorem ownsMap_len {w : World} {b n : Nat} {D : DataW Fct} (h : w.ownsMap Tryd.prog 3 RF b n D) : Maps.size D ≤ n := h.size_le
/-- What is gathered of the map: each number whose fact has a value, once. -/
structure Got (f : Int → Option Fct) (left : Lit → Bool) (ys : List Int) : Prop where
  nd : ys.Nodup
  mem : ∀ o, o ∈ ys ↔ (left (.int .i64 o) = false ∧ o ≠ -1 ∧ ∃ x, f o = some x ∧ x.val ≠ 0)
theorem sameKey_int (a b : Int) : (Lit.int .i64 a).sameKey (.int .i64 b) = decide (a = b) := by
  by_cases h : a = b
  · subst h; simp [Lit.sameKey]
  · rw [sameKey_ne (by intro e; injection e with _ e; exact h e)]; simp [h]
theorem Got.skip {f : Int → Option Fct} {left : Lit → Bool} {ys : List Int} (h : Got f left ys) {o0 : Int} {x : Fct} (hl : left (.int .i64 o0) = true) (hx : f o0 = some x) (hn : o0 = -1 ∨ x.val = 0) : Got f (fun z => left z && !z.sameKey (.int .i64 o0)) ys := by
  refine ⟨h.nd, fun o => ?_⟩
  rw [h.mem o, sameKey_int]
  by_cases e : o = o0
  · subst e
    simp only [hl, hx]
    constructor
    · rintro ⟨k, _⟩; cases k
    · rintro ⟨_, k2, y, k3, k4⟩
      injection k3 with k3
      subst k3
      rcases hn with hn | hn
      · exact absurd hn k2
      · exact absurd hn k4
  · simp [e]
theorem Got.take {f : Int → Option Fct} {left : Lit → Bool} {ys : List Int} (h : Got f left ys) {o0 : Int} {x : Fct} (hl : left (.int .i64 o0) = true) (hx : f o0 = some x) (h1 : o0 ≠ -1) (h2 : x.val ≠ 0) : Got f (fun z => left z && !z.sameKey (.int .i64 o0)) (ys ++ [o0]) := by
  have hn : o0 ∉ ys := fun k => by
    have := ((h.mem o0).1 k).1
    rw [hl] at this
    cases this
  refine ⟨List.nodup_append.2 ⟨h.nd, by simp, fun a ha b hb e => ?_⟩, fun o => ?_⟩
  · obtain rfl : b = o0 := by simpa using hb
    subst e
    exact hn ha
  · rw [List.mem_append, h.mem o, sameKey_int]
    by_cases e : o = o0
    · subst e
      simp only [hl, hx]
      simp [h1, h2]
    · simp [e]
theorem Got.end {f : Int → Option Fct} {left : Lit → Bool} {ys : List Int} (h : Got f left ys) (hl : ∀ k, left k = false) (o : Int) : o ∈ ys ↔ (o ≠ -1 ∧ ∃ x, f o = some x ∧ x.val ≠ 0) := by
  rw [h.mem o, hl]
  simp
theorem got_sorted {L : List Fct} (hG : ∀ x ∈ L, Good x) {who : Int} {nm : ByteArray} {on known : Int} {ys : List Int} (hn : ys.Nodup) (hm : ∀ o, o ∈ ys ↔ (o ≠ -1 ∧ ∃ x, latestL L who nm o on known = some x ∧ x.val ≠ 0)) :
    (ys.mergeSort fun x y => decide (x ≤ y)) = othersL L who nm on known := by
  refine rise_eq ?_ (others_rise L who nm on known) fun m => ?_
  · have h1 := sort_sorted' ys
    have h2 : (ys.mergeSort fun x y => decide (x ≤ y)).Nodup := (List.mergeSort_perm ys _).nodup_iff.2 hn
    have h3 := h1.and h2
    exact h3.imp (by intro a b ⟨k1, k2⟩; omega)
  · rw [(List.mergeSort_perm ys _).mem_iff, hm m, others_mem]
    constructor
    · rintro ⟨h1, x, hx, hv⟩
      obtain ⟨k1, k2, _⟩ := latest_in hx
      have := (hG x k1).oth
      rw [k2] at this
      exact ⟨by omega, by omega, x, hx, hv⟩
    · rintro ⟨h1, h2, k⟩
      exact ⟨by omega, k⟩
/-- While the others are gathered. -/
structure Gath (w : World) (r : Nat) (D : DataW Fct) (f : Int → Option Fct) (t : Value) (wr : World) (left : Lit → Bool) (cnt : Nat) (ys : List Int) : Prop where
  rg : wr.ranges Tryd.prog 3 RF w.heap.size r 500 D left cnt
  got : Got f left ys
  row : IRow (r + 1) wr t ys
  bel : Below w.heap.size w wr
  few : ys.length + cnt ≤ 500
  lft : ∀ k, left k = true → Maps.has D k = true
  sz : r + 1 ≤ wr.heap.size
  lo : w.heap.size ≤ r
set_option maxHeartbeats 4000000 in
set_option maxRecDepth 100000 in
theorem others_f {B b : Nat} {w : World} {L : List Fct} {sv : Value} (h : FFile 32 B w b L sv) (hG : ∀ x ∈ L, Good x) (hl : L.length ≤ 500) (who : Int) (nm : ByteArray) (on known : Int) :
    Calls Tryd.prog 13 #[.pointer (some ⟨b, 0, none⟩), .int .i64 who, .string nm, .int .i64 on, .int .i64 known] w fun e w' => ∃ sv', e = .returned sv' ∧ IRead w' sv' (othersL L who nm on known) ∧ Below w.heap.size w w' := by
  have HC := hidLL (counting_f h hG hl who nm on known)
  have HG := hidLL hG
  clear h hG
  go_enter Tryd.func13, Tryd.ntmps13
  go_wp2_with fail
  refine HC.out.mono ?_
  rintro e w1 ⟨rfl, ⟨D, ho, hm⟩, hb⟩
  have HM := hidLL hm
  have HO := hidLL ho
  have HB := hidLL hb
  have hsz := hb.size
  clear hm ho hb
  go_wp2_with (first
    | (at_range; refine wpList_range_own _ rfl _ 55 rfl 3 32 lawInt Tryd.underlying55 RF w.heap.size 500 D rfl HO.out ?_; intro w0 hrg0 hg0 hs0)
    | go_in)
  have HS : Hid (Gath w w1.heap.size D (fun o => latestL L who nm o on known) (.slice none 0 0) w0 (Maps.has D) (Maps.size D) []) := by
    refine ⟨hrg0, ⟨by simp, fun o => ?_⟩, World.ownsRow_nil _ _ _ _, HB.out.grown hg0 HB.out.size (fun k hk => by cases hk), ?_, fun k hk => hk, by omega, hsz⟩
    · rw [HM.out.has]
      constructor
      · intro k; cases k
      · rintro ⟨k1, _, x, k2, _⟩
        rw [k2] at k1
        cases k1
    · have := HO.out.size_le
      simpa using this
  clear hrg0 hg0 hs0
  go_frame
  go_loopw [11] (fun t wr => ∃ left cnt ys, Gath w w1.heap.size D (fun o => latestL L who nm o on known) t wr left cnt ys)
    (fun _ wr => wr.rangeLeft w.heap.size w1.heap.size)
  case atStart => exact ⟨_, _, _, HS.out⟩
  case round =>
    obtain ⟨left, cnt, ys, hga⟩ := hrel
    have HGa := hidLL hga
    clear hga HS
    go_wp2_with (first
      | (at_next; refine wpList_next_fct rfl _ rfl w.heap.size w1.heap.size 500 D left cnt rfl HGa.out.rg ?_ ?_)
      | go_in)
    · intro _ hl0
      have HL0 := hidLL hl0
      clear hl0
      have HSort := hidLL (sort_row HGa.out.row HGa.out.sz (by have := HGa.out.few; omega))
      go_wp2_with fail
      refine HSort.out.mono ?_
      rintro e w3 ⟨rfl, hs, hb3⟩
      have HR := hidLL (And.intro hs hb3)
      clear hs hb3
      go_wp2
      go_ret
      refine ⟨_, rfl, ?_, HGa.out.bel.trans (HR.out.2.mono (by have := HGa.out.lo; omega))⟩
      have h9 := HR.out.1.read
      rw [got_sorted HG.out HGa.out.got.nd (HGa.out.got.end HL0.out)] at h9
      exact h9
    · intro k y w2 cnt2 hlk hat hrg2 hlt hg2 hs2 hen
      have hfk : latestL L who nm k on known = some y := by
        have h1 := HGa.out.lft _ hlk
        rw [HM.out.has k] at h1
        cases hf : latestL L who nm k on known with
        | none => rw [hf] at h1; cases h1
        | some x =>
          have h2 := HM.out.here k x hf (.held fct0)
          rw [hat] at h2
          injection h2 with h2
          rw [h2]
      have HFk := hidLL (And.intro hlk hfk)
      have HW2 : Hid (IRow (w1.heap.size + 1) w2 u11 ys ∧ Below w.heap.size w w2) := by
        refine ⟨World.ownsRow.kept HGa.out.row hg2 (.inr fun e => ?_), HGa.out.bel.grown hg2 HGa.out.bel.size (fun k hk => by cases hk; exact HGa.out.lo)⟩
        have := (World.ownsRow.lt HGa.out.row w1.heap.size e).1
        omega
      have HRg := hidLL (And.intro hrg2 hlt)
      have hsz2 : w1.heap.size + 1 ≤ w2.heap.size := by have := HGa.out.sz; omega
      have hlo := HGa.out.lo
      have HLf : Hid (∀ kk, (left kk && !kk.sameKey (.int .i64 k)) = true → Maps.has D kk = true) := fun kk hk => HGa.out.lft kk (by simp at hk; exact hk.1)
      have hfew := HGa.out.few
      clear hlk hat hrg2 hg2 hfk
      by_cases hk1 : k = -1
      · have HGo := hidLL (HGa.out.got.skip HFk.out.1 HFk.out.2 (.inl hk1))
        obtain ⟨yw, yn, yo, yv, yf, yt, yl⟩ := y
        go_wp2
        go_roundw
        case rel => exact ⟨_, _, _, ⟨HRg.out.1.alloc _, HGo.out, HW2.out.1.alloc _, HW2.out.2.alloc (by omega) _, by omega, HLf.out, by simp; omega, hlo⟩⟩
        case measure => rw [(HRg.out.1.alloc _).left_eq, HGa.out.rg.left_eq]; exact HRg.out.2
      · by_cases hv0 : y.val = 0
        · have HGo := hidLL (HGa.out.got.skip HFk.out.1 HFk.out.2 (.inr hv0))
          obtain ⟨yw, yn, yo, yv, yf, yt, yl⟩ := y
          simp only at hv0
          go_wp2
          go_roundw
          case rel => exact ⟨_, _, _, ⟨HRg.out.1.alloc _, HGo.out, HW2.out.1.alloc _, HW2.out.2.alloc (by omega) _, by omega, HLf.out, by simp; omega, hlo⟩⟩
          case measure => rw [(HRg.out.1.alloc _).left_eq, HGa.out.rg.left_eq]; exact HRg.out.2
        · have HGo := hidLL (HGa.out.got.take HFk.out.1 HFk.out.2 hk1 hv0)
          obtain ⟨yw, yn, yo, yv, yf, yt, yl⟩ := y
          simp only at hv0
          have hk2 : (k != -1) = true := by simpa using hk1
          have hv2 : (yv != 0) = true := by simpa using hv0
          go_wp2_with (first
            | (at_builtin; refine wpList_push_int rfl _ _ rfl (w1.heap.size + 1) u11 ys k (by first | (simp [Act.eval]; done) | simp [Act.eval, Act.put]) (HW2.out.1.alloc _) (by first | (simp [Act.eval]; done) | simp [Act.eval, Act.put]) (by simp; omega) (by omega) ?_; intro v' w3 hr3 hb3 hg3)
            | go_in)
          have HR3 := hidLL (And.intro hr3 (And.intro hb3 hg3))
          clear hr3 hb3 hg3
          have HRk : Hid (w3.ranges Tryd.prog 3 RF w.heap.size w1.heap.size 500 D (fun z => left z && !z.sameKey (.int .i64 k)) cnt2) := by
            refine ((HRg.out.1.alloc _).alloc _).kept HR3.out.2.2 (fun e => ?_) (fun e => ?_)
            · have := (World.ownsRow.lt HW2.out.1 _ e.symm).1; omega
            · have := (World.ownsRow.lt HW2.out.1 _ e.symm).1; omega
          go_roundw
          case rel => exact ⟨_, _, _, ⟨HRk.out, HGo.out, HR3.out.1, (HW2.out.2.alloc (by omega) _).trans (HR3.out.2.1.mono (by omega)), by rw [List.length_append]; simp; omega, HLf.out, by have := HR3.out.2.1.size; simp at this; omega, hlo⟩⟩
          case measure => rw [HRk.out.left_eq, HGa.out.rg.left_eq]; exact HRg.out.2
end Go.Proofs.YtagdenpmonedlaaDoor
