/-
  Package why: Read, walked.
-/
import Derived.Test.YtfnlcblalieolaaDoorWtRd1
namespace Go.Proofs.YtfnlcblalieolaaDoor
open Go.RowKit Go.Shelf Go.Maps

attribute [local go_sem] Oper.semAt_some

theorem Tryd.infoSt2 : ∃ i z, Tryd.prog.info? 26 = some i ∧ i.zero = some z ∧ i.size = 3 ∧ i.bytes = 16 ∧ z.cells.size = 3 := by
  have h : (Tryd.prog.info? 26).map (fun i => (i.zero, i.size, i.bytes)) = some (some (.agg #[.bool false, .bool false, .int .i64 0]), 3, 16) := by kernel_rfl
  obtain ⟨i, h1, h2⟩ := Option.map_eq_some_iff.1 h
  simp only [Prod.mk.injEq] at h2
  exact ⟨i, _, h1, h2.1, h2.2.1, h2.2.2, rfl⟩
theorem trimS_len (s q : List UInt8) : (Lib.trimSuffix s q).length ≤ s.length := by
  unfold Lib.trimSuffix
  split
  · rw [List.length_take]; omega
  · exact Nat.le_refl _
theorem lineB_len (x : ByteArray) : (lineB x).length ≤ x.size := by
  have := trimS_len (bl x) [10]
  rw [size_bl] at this
  exact this
/-- What Read answers. -/
def ReadA (p : Nat → Addr) (r : List Clm ⊕ (Nat × Nat)) (w : World) (e : Ending) (w' : World) : Prop := match r with
  | .inl l => ∃ a n c, e = .returned (.tuple #[.slice a n c, .nilIface]) ∧ n = l.length ∧ SRd w' w'.heap.size (.slice a n c) l ∧ Below w.heap.size w w'
  | .inr q => ∃ fb, e = .returned (.tuple #[.slice none 0 0, .iface 61 (.pointer (some ⟨fb, 0, none⟩))]) ∧ w'.cell? ⟨fb, 0, none⟩ = some (.int .i64 q.1) ∧ w'.cell? ⟨fb, 0 + 1, none⟩ = some (.iface 107 (.pointer (some (p q.2)))) ∧ Below w.heap.size w w'
def BoxK (W w5 : World) : Prop := w5.cell? ⟨W.heap.size, 0, none⟩ = some (.bool false) ∧ w5.cell? ⟨W.heap.size, 1, none⟩ = some (.bool false) ∧ w5.cell? ⟨W.heap.size, 2, none⟩ = some (.int .i64 0) ∧ w5.frozen? ⟨W.heap.size, 0, none⟩ = false ∧ w5.frozen? ⟨W.heap.size, 1, none⟩ = false ∧ w5.frozen? ⟨W.heap.size, 2, none⟩ = false
theorem box_kept {W w5 : World} (h : Below ((W.drew.alloc (.cells #[.bool false, .bool false, .int .i64 0] 26)).heap.size) (W.drew.alloc (.cells #[.bool false, .bool false, .int .i64 0] 26)) w5) : BoxK W w5 := by
  have hb : w5.heap[W.heap.size]? = some (.cells #[.bool false, .bool false, .int .i64 0] 26 (0, 0)) := (h.block W.heap.size (by simp)).trans (World.alloc_heap_new W.drew _)
  unfold BoxK
  simp [World.cell?, World.frozen?, hb]
theorem unset {W : World} {B B' t : Nat} {u v : Value} (h : Boxed (W.setCell ⟨B', 0, none⟩ u) B t v) (hne : B ≠ B') : Boxed W B t v := (Below.heap_setCell W _ _ _ hne).symm.trans h
theorem low_alloc {W w5 : World} (h : Below W.drew.heap.size W.drew w5) (o : Obj) : Below W.heap.size W (w5.alloc o) := ((Below.refl _ W).drew.trans h).alloc h.size o
theorem low_set {W w5 : World} {o : Obj} (h : Below ((W.drew.alloc o).heap.size) (W.drew.alloc o) w5) (a b c : Value) : Below W.heap.size W (((w5.setCell ⟨W.heap.size, 0, none⟩ a).setCell ⟨W.heap.size, 1, none⟩ b).setCell ⟨W.heap.size, 2, none⟩ c) :=
  (((((Below.refl W.heap.size W).drew.alloc (Nat.le_refl _) o).trans (h.mono (by simp))).setCell (p := ⟨W.heap.size, 0, none⟩) (Nat.le_refl _) a).setCell (p := ⟨W.heap.size, 1, none⟩) (Nat.le_refl _) b).setCell (p := ⟨W.heap.size, 2, none⟩) (Nat.le_refl _) c
theorem set1 {W : World} {b t : Nat} {cs : Array Value} (h : W.heap[b]? = some (.cells cs t (0, 0))) (i : Nat) (v : Value) : (W.setCell ⟨b, i, none⟩ v).heap[b]? = some (.cells (cs.setIfInBounds i v) t (0, 0)) := by
  obtain ⟨hlt, hk⟩ := Array.getElem?_eq_some_iff.1 h
  show (W.heap.modify b _)[b]? = _
  rw [Array.getElem?_eq_getElem (by rw [Array.size_modify]; exact hlt), Array.getElem_modify_self, hk]
  rfl
theorem box_set3 {W w5 : World} (h : Below ((W.drew.alloc (.cells #[.bool false, .bool false, .int .i64 0] 26)).heap.size) (W.drew.alloc (.cells #[.bool false, .bool false, .int .i64 0] 26)) w5) (a b c : Value) :
    (((w5.setCell ⟨W.heap.size, 0, none⟩ a).setCell ⟨W.heap.size, 1, none⟩ b).setCell ⟨W.heap.size, 2, none⟩ c).heap[W.heap.size]? = some (.cells #[a, b, c] 26 (0, 0)) := by
  have hb : w5.heap[W.heap.size]? = some (.cells #[.bool false, .bool false, .int .i64 0] 26 (0, 0)) := (h.block W.heap.size (by simp)).trans (World.alloc_heap_new W.drew _)
  exact set1 (set1 (set1 hb 0 a) 1 b) 2 c
/-- A line was wrong: the results are laid. -/
structure BadS (w : World) (p : Nat → Addr) (nm : List ByteArray) (pre : List ByteArray) (W : World) : Prop where
  r4 : Boxed W w.heap.size 27 (.slice none 0 0)
  bad : ∃ q fb, stepsR nm pre = .inr q ∧ Boxed W (w.heap.size + 1) 32 (.iface 61 (.pointer (some ⟨fb, 0, none⟩))) ∧ W.heap[fb]? = some (.cells #[.int .i64 q.1, .iface 107 (.pointer (some (p q.2)))] 63 (0, 0))
  bel : Below w.heap.size w W
theorem BadS.keep {w : World} {p : Nat → Addr} {nm : List ByteArray} {pre : List ByteArray} {W W' : World} {row : Option Nat} (h : BadS w p nm pre W) (hg : W.grownBy W' row) (hr : ∀ r, row = some r → w.heap.size ≤ r ∧ ∃ o : Obj, W.heap[r]? = some o ∧ o.isCells = false) : BadS w p nm pre W' := by
  obtain ⟨q, fb, h1, h2, h3⟩ := h.bad
  have hk : ∀ r, row = some r → ∃ o : Obj, W.heap[r]? = some o ∧ o.isCells = false := fun r e => (hr r e).2
  refine ⟨boxed_keep h.r4 hg hk, ⟨q, fb, h1, boxed_keep h2 hg hk, (hg.block fb (Array.getElem?_eq_some_iff.1 h3).1 fun e => ?_).trans h3⟩, h.bel.grown hg h.bel.size (fun k e => (hr k e).1)⟩
  obtain ⟨o, ho, hc⟩ := hk _ e.symm
  rw [h3] at ho
  cases ho
  cases hc
theorem bad_made {w : World} {b6 b7 b8 Bs bM k0 : Nat} {nm : List ByteArray} {lc : List Clm} {W2 : World} {p : Nat → Addr} {pre : List ByteArray} {x : ByteArray} {k : Nat} (h : Rds w w.heap.size (w.heap.size + 1) b6 b7 b8 Bs bM nm lc k0 W2) (_ : w.heap.size ≤ W2.heap.size) (hst : stepsR nm (pre ++ [x]) = .inr (pre.length, k)) (hl : lc.length = pre.length) (B : Nat) :
    BadS w p nm (pre ++ [x]) (((W2.setCell ⟨w.heap.size, 0, none⟩ (.slice none 0 0)).setCell ⟨w.heap.size + 1, 0, none⟩ (.iface 61 (.pointer (some ⟨W2.heap.size, 0, none⟩)))).alloc (.cells #[.int .i64 lc.length, .iface 107 (.pointer (some (p k)))] 63)).drew ∧
    KeepsFrom B W2 (((W2.setCell ⟨w.heap.size, 0, none⟩ (.slice none 0 0)).setCell ⟨w.heap.size + 1, 0, none⟩ (.iface 61 (.pointer (some ⟨W2.heap.size, 0, none⟩)))).alloc (.cells #[.int .i64 lc.length, .iface 107 (.pointer (some (p k)))] 63)).drew := by
  have k4 := (h.r4.set (.slice none 0 0)).other (B' := w.heap.size + 1) (by omega) (.iface 61 (.pointer (some ⟨W2.heap.size, 0, none⟩)))
  have k5 := (h.r5.other (B' := w.heap.size) (by omega) (.slice none 0 0)).set (.iface 61 (.pointer (some ⟨W2.heap.size, 0, none⟩)))
  have hnew := World.alloc_heap_new ((W2.setCell ⟨w.heap.size, 0, none⟩ (.slice none 0 0)).setCell ⟨w.heap.size + 1, 0, none⟩ (.iface 61 (.pointer (some ⟨W2.heap.size, 0, none⟩)))) (.cells #[.int .i64 lc.length, .iface 107 (.pointer (some (p k)))] 63)
  have hbl := ((h.bel.setCell (p := ⟨w.heap.size, 0, none⟩) (Nat.le_refl _) (.slice none 0 0)).setCell (p := ⟨w.heap.size + 1, 0, none⟩) (by show w.heap.size ≤ w.heap.size + 1; omega) (.iface 61 (.pointer (some ⟨W2.heap.size, 0, none⟩))))
  refine ⟨⟨k4.alloc _, ⟨(pre.length, k), W2.heap.size, hst, k5.alloc _, ?_⟩, (hbl.alloc hbl.size _).drew⟩, ((((KeepsOthers.setCell _ _ _).trans (KeepsOthers.setCell _ _ _)).trans (KeepsOthers.alloc _ _)).trans (KeepsOthers.drew _)).from _⟩
  rw [hl] at hnew ⊢
  rw [show ((W2.setCell ⟨w.heap.size, 0, none⟩ (.slice none 0 0)).setCell ⟨w.heap.size + 1, 0, none⟩ (.iface 61 (.pointer (some ⟨W2.heap.size, 0, none⟩)))).heap.size = W2.heap.size by simp] at hnew
  exact hnew
set_option maxRecDepth 100000 in
set_option maxHeartbeats 4000000 in
theorem read_p {w : World} {B : Nat} {p : Nat → Addr} {na : Option Addr} {n nc : Nat} {nm : List ByteArray} (hE : SentW w p) (hN : NRd w B (.slice na n nc) nm) (hB : B ≤ w.heap.size) (hn : n = nm.length) (hfew : n ≤ 1000) (hsz : ∀ s, s ∈ nm → s.size ≤ 24) (s : List UInt8) (hs : s.length ≤ 30000) :
    Calls Tryd.prog 8 #[.string ⟨s.toArray⟩, .slice na n nc] w (ReadA p (stepsR nm (linesB s)) w) := by
  refine (callsIn_wide (n := 5)).1 ?_
  obtain ⟨A2, hA2⟩ : ∃ A2 : World, A2 = (w.alloc (.cells #[.slice none 0 0] 27)).alloc (.cells #[.nilIface] 32) := ⟨_, rfl⟩
  have hA2s : A2.heap.size = w.heap.size + 2 := by rw [hA2]; simp
  have hA2b : Below w.heap.size w A2 := by rw [hA2]; exact ((Below.refl _ _).alloc (Nat.le_refl _) _).alloc (by simp) _
  have b4 : Boxed A2 w.heap.size 27 (.slice none 0 0) := by rw [hA2]; exact (Boxed.new w _ _).alloc _
  have b5 : Boxed A2 (w.heap.size + 1) 32 .nilIface := by
    rw [hA2]
    have := Boxed.new (w.alloc (.cells #[.slice none 0 0] 27)) 32 .nilIface
    simpa using this
  have HL := hidLL (literalsOf_p (hN.on fun k hk => hA2b.block k (by omega)) (by omega) hn hfew hsz)
  have HA2 := hidLL hA2
  have hss : ((s.toArray.size : Nat) : Int) ≤ 30000 := by simp; omega
  refine callsIn_of_wp_marks Tryd.func8 rfl trivial ?_ rfl
  simp only [Tryd.ntmps8, List.size_toArray, List.length_cons, List.length_nil, Nat.reduceAdd, Nat.reduceSub, Array.replicate_succ, Array.replicate_zero, List.push_toArray, List.append_toArray, List.nil_append, List.cons_append]
  have hA2b2 := hA2b
  have HNm : Hid (nm.length ≤ 1000) := by show _ ≤ _; omega
  clear hN hn hsz hB
  gi_wp2_with fail
  rw [← hA2]
  refine ⟨trivial, (callsIn_wide.2 HL.out).mono ?_⟩
  rintro e w1 ⟨bM, D, rfl, hbM, hLM, ⟨mm, hown⟩, hb1⟩
  have hs1 := hb1.size
  have k4 : Boxed w1 w.heap.size 27 (.slice none 0 0) := (hb1.block _ b4.lt).trans b4
  have k5 : Boxed w1 (w.heap.size + 1) 32 .nilIface := (hb1.block _ b5.lt).trans b5
  have hbMl : bM < w1.heap.size := by
    obtain ⟨es, ck, hh, _⟩ := hown
    exact (Array.getElem?_eq_some_iff.1 hh).1
  have hbel1 : Below w.heap.size w w1 := hA2b.trans (hb1.mono (by omega))
  obtain ⟨W0, hW0⟩ : ∃ W0 : World, W0 = (((w1.alloc (.cells #[.map (some bM)] 53)).alloc (.cells #[.slice none 0 0] 27)).alloc (.cells #[.int .i64 0] 3)).alloc (.cells #[.string ⟨s.toArray⟩] 9) := ⟨_, rfl⟩
  have hW0s : W0.heap.size = w1.heap.size + 4 := by rw [hW0]; simp
  have hR0 : Rds w w.heap.size (w.heap.size + 1) w1.heap.size (w1.heap.size + 1) (w1.heap.size + 2) (w1.heap.size + 3) bM nm [] 0 W0 := by
    have e1 := Boxed.new w1 53 (.map (some bM))
    have e2 := Boxed.new (w1.alloc (.cells #[.map (some bM)] 53)) 27 (.slice none 0 0)
    have e3 := Boxed.new ((w1.alloc (.cells #[.map (some bM)] 53)).alloc (.cells #[.slice none 0 0] 27)) 3 (.int .i64 0)
    have e4 := Boxed.new (((w1.alloc (.cells #[.map (some bM)] 53)).alloc (.cells #[.slice none 0 0] 27)).alloc (.cells #[.int .i64 0] 3)) 9 (.string ⟨s.toArray⟩)
    simp only [World.size_alloc] at e2 e3 e4
    rw [hW0]
    exact ⟨(((k4.alloc _).alloc _).alloc _).alloc _, (((k5.alloc _).alloc _).alloc _).alloc _, ((e1.alloc _).alloc _).alloc _, ⟨mm, D, hLM, (((hown.alloc _).alloc _).alloc _).alloc _⟩, ⟨_, (e2.alloc _).alloc _, World.ownsRow_nil _ _ _ _, trivial⟩, e3.alloc _, ⟨_, e4⟩, (((hbel1.alloc (by omega) _).alloc (by simp; omega) _).alloc (by simp; omega) _).alloc (by simp; omega) _⟩
  have hStr : W0.heap[w1.heap.size + 3]? = some (.cells #[.string ⟨s.toArray⟩] 9 (0, 0)) := by
    have e4 := Boxed.new (((w1.alloc (.cells #[.map (some bM)] 53)).alloc (.cells #[.slice none 0 0] 27)).alloc (.cells #[.int .i64 0] 3)) 9 (.string ⟨s.toArray⟩)
    simp only [World.size_alloc] at e4
    rw [hW0]
    exact e4
  have HW0 := hidLL hW0
  have HSW : Hid (∀ W, Below w.heap.size w W → SentW W p) := fun W hW => hE.bel hW
  clear hE hA2 HA2 hA2b hA2b2 b4 b5 HL k4 k5 hLM hown hb1 hbel1
  gi_wp2_with (refine ⟨trivial, ?_⟩; gi_at_call 18; refine (lines_in _ _ _).mono ?_; rintro e w' ⟨rfl, rfl⟩)
  rw [← HW0.out]
  have hWs : W0.heap.size = w1.heap.size + 1 + 1 + 1 + 1 := by omega
  have hR1 : Rds w w.heap.size (w.heap.size + 1) w1.heap.size (w1.heap.size + 1) (w1.heap.size + 1 + 1) (w1.heap.size + 1 + 1 + 1) bM nm [] 0 W0 := hR0
  have hStr1 : W0.heap[w1.heap.size + 1 + 1 + 1]? = some (.cells #[.string ⟨s.toArray⟩] 9 (0, 0)) := hStr
  have hq : w.heap.size + 2 ≤ w1.heap.size := by omega
  clear hR0 hStr hW0s HW0 hW0 hs1
  obtain ⟨q6, hq6⟩ : ∃ q6, q6 = w1.heap.size := ⟨_, rfl⟩
  rw [← hq6] at hWs hR1 hStr1 hq hbMl ⊢
  clear hq6
  have HSL := hidLL hs
  refine wpIn_rangeFunc_cell (α := ByteArray) rfl (by decide) (gf := 25) (lb := #[.pointer (some ⟨q6 + 1 + 1 + 1, 0, none⟩)]) rfl trivial (enters_of Tryd.func25 (by kernel_rfl) rfl)
    (Bs := q6 + 1 + 1 + 1) (by omega) (lines_seq _ (by decide) (q6 + 1 + 1 + 1) w.heap.size s (by omega) W0 (by omega) hStr1) KpL.trans (KpL.put (by omega) (by omega)) (fun _ => rfl)
    (fun (pre : List ByteArray) W => ∃ l, stepsR nm pre = .inl l ∧ Rds w w.heap.size (w.heap.size + 1) q6 (q6 + 1) (q6 + 1 + 1) (q6 + 1 + 1 + 1) bM nm l l.length W)
    (fun c (pre : List ByteArray) W => c = .ret ∧ BadS w p nm pre W)
    (Rds.own W0.heap.size (fun (pre : List ByteArray) l => stepsR nm pre = .inl l) (by omega) (by omega))
    (fun c _ W W' row hs hg hr => ⟨hs.1, hs.2.keep hg fun r e => ⟨by have := (hr r e).1; omega, (hr r e).2⟩⟩)
    (fun pre W v hs => by obtain ⟨l, h1, h2⟩ := hs; exact ⟨l, h1, h2.cell ⟨by omega, by omega, by omega, by omega, by omega, by omega⟩ v⟩)
    ⟨[], rfl, hR1⟩
    (fun x a' _ => a' = { tmps := #[.string ⟨s.toArray⟩, .slice na n nc, undef, undef, .pointer (some ⟨w.heap.size, 0, none⟩), .pointer (some ⟨w.heap.size + 1, 0, none⟩), .pointer (some ⟨q6, 0, none⟩), .pointer (some ⟨q6 + 1, 0, none⟩), .pointer (some ⟨q6 + 1 + 1, 0, none⟩), .string x, undef, undef, .slice na n nc, .map (some bM), .string ⟨s.toArray⟩, .func (.func 25) #[] #[.pointer (some ⟨q6 + 1 + 1 + 1, 0, none⟩)], .string x, undef, undef, undef, undef, undef, undef, undef, undef, undef, undef, undef, undef, undef, undef, undef, undef, undef, undef, undef, undef, undef, undef, undef, undef, undef, undef, undef, undef], defers := [] })
    (fun x a' _ X Y row hs hg hr => hs)
    ?assign ?body ?done ?stop
  case assign =>
    rintro l pre x W K hst hK
    have HK := hidLL hK
    have HS := hidLL hst
    clear hK hst
    dsimp only
    gi_wp2
    exact HK.out _ _ (KeepsFrom.refl _ _) (KpL.refl _ _ _) HS.out rfl
  case body =>
    rintro l pre x a' W ⟨lc, hst, hR⟩ rfl hlt hxs
    have HTr : Hid (∀ W, Calls Tryd.prog 20 #[.string x, .string ⟨#[10]⟩] W fun e w' => e = .returned (.string ⟨(lineB x).toArray⟩) ∧ w' = W) := fun W => Tryd.strings_TrimSuffix x ⟨#[10]⟩ W (by omega)
    have hxl : (⟨(lineB x).toArray⟩ : ByteArray).size ≤ 1000000 := by
      show (lineB x).toArray.size ≤ _
      have := lineB_len x
      simp
      omega
    have HPL := hidLL (stepsR_len nm pre lc hst)
    have y6 := hR.box.cell
    have y8 := hR.cnt.cell
    have HR := hidLL hR
    have h1' : 1 ≤ 5 - 1 - 1 := by decide
    have hmx : Tryd.prog.follows .mixedOrders = true := by kernel_rfl
    cases hrow : rowR nm (lineB x) 4 0 with
    | inl k =>
      have HRs : Hid (∀ W1, Below W.heap.size W W1 → Calls Tryd.prog 19 #[.string ⟨(lineB x).toArray⟩, .map (some bM)] W1 fun e w' => e = .returned (.tuple #[.agg #[.bool false, .bool false, .int .i64 0], .iface 107 (.pointer (some (p k)))]) ∧ Below W1.heap.size W1 w') := fun W1 hW1 => by
        obtain ⟨m, D, hLM, hown⟩ := (HR.out.below hW1).map
        have := readStep_p (HSW.out W1 (HR.out.below hW1).bel) hown hLM HNm.out ⟨(lineB x).toArray⟩ hxl
        have e9 : bl (⟨(lineB x).toArray⟩ : ByteArray) = lineB x := by simp [bl]
        rw [e9, hrow] at this
        exact this
      have y6a : (W.drew.alloc (.cells #[.bool false, .bool false, .int .i64 0] 26)).cell? ⟨q6, 0, none⟩ = some (.map (some bM)) := (hR.box.alloc (W := W.drew) _).cell
      have hlt6 : q6 < W.heap.size := hR.box.lt
      have hne6 : ¬ q6 = W.heap.size := by omega
      clear hR
      gi_wp2_with fail
      rename_i K hK
      have HC : Hid (∀ Bx W2, Below W.heap.size W W2 → W2.heap[Bx]? = some (.cells #[.bool false, .bool false, .int .i64 0] 26 (0, 0)) → K { tmps := #[.string ⟨s.toArray⟩, .slice na n nc, undef, undef, .pointer (some ⟨w.heap.size, 0, none⟩), .pointer (some ⟨w.heap.size + 1, 0, none⟩), .pointer (some ⟨q6, 0, none⟩), .pointer (some ⟨q6 + 1, 0, none⟩), .pointer (some ⟨q6 + 1 + 1, 0, none⟩), .string x, .pointer (some ⟨Bx, 0, none⟩), .iface 107 (.pointer (some (p k))), .slice na n nc, .map (some bM), .string ⟨s.toArray⟩, .func (.func 25) #[] #[.pointer (some ⟨q6 + 1 + 1 + 1, 0, none⟩)], .string x, .tuple #[.agg #[.bool false, .bool false, .int .i64 0], .iface 107 (.pointer (some (p k)))], .string x, .string ⟨(lineB x).toArray⟩, .map (some bM), .tuple #[.agg #[.bool false, .bool false, .int .i64 0], .iface 107 (.pointer (some (p k)))], .agg #[.bool false, .bool false, .int .i64 0], .iface 107 (.pointer (some (p k))), undef, undef, undef, undef, undef, undef, undef, undef, undef, undef, undef, undef, undef, undef, undef, undef, undef, undef, undef, undef, undef], defers := [] } W2) := fun Bx W2 hbW hBx => by
        refine hK _ _ ?_
        have hR2 := HR.out.below hbW
        have z8 := hR2.cnt.cell
        have z4 := hR2.r4.cell
        have z5 := hR2.r5.cell
        have g4 := hR2.r4.frozen
        have g5 := hR2.r5.frozen
        have l4 := hR2.r4.lt
        have l5 := hR2.r5.lt
        have l8 := hR2.cnt.lt
        have HR2 := hidLL hR2
        clear hR2 HRs HTr hK
        have HBM := hidLL (bad_made (p := p) (k := k) (x := x) HR2.out (by omega) (stepsR_bad nm hrow pre lc hst) HPL.out W0.heap.size)
        have HKF : Hid (KeepsFrom W0.heap.size W W2) := ⟨hbW.size, fun k o _ hk _ => (hbW.block k (Array.getElem?_eq_some_iff.1 hk).1).trans hk⟩
        gi_wp2_with fail
        gi_region
        all_goals
          gi_wp2
          exact ⟨HKF.out.trans HBM.out.2, rfl, HBM.out.1⟩
      gi_region_with_o (first
        | (refine ⟨trivial, ?_⟩; gi_at_call 20; refine (CallsIn.inRound l (callsIn_wide.2 (HTr.out _))).mono ?_; rintro e w' ⟨rfl, rfl⟩)
        | (refine ⟨trivial, ?_⟩; gi_at_call 19; refine (CallsIn.inRound l (callsIn_wide.2 (HRs.out _ (by first | exact (Below.refl _ _).drew | exact (Below.refl _ _).drew.alloc (Nat.le_refl _) _)))).mono ?_; rintro e w5 ⟨rfl, hb5⟩; first | (have hk : BoxK W w5 := (by exact box_kept hb5); obtain ⟨q0, q1, q2, f0, f1, f2⟩ := hk) | skip))
      all_goals first
        | exact HC.out _ _ (low_alloc hb5 _) (World.alloc_heap_new w5 _)
        | exact HC.out _ _ (low_set hb5 _ _ _) (box_set3 hb5 _ _ _)
    | inr c =>
      obtain ⟨c1, c2, c3⟩ := c
      have HRs : Hid (∀ W1, Below W.heap.size W W1 → Calls Tryd.prog 19 #[.string ⟨(lineB x).toArray⟩, .map (some bM)] W1 fun e w' => e = .returned (.tuple #[.agg #[.bool c1, .bool c2, .int .i64 c3], .nilIface]) ∧ Below W1.heap.size W1 w') := fun W1 hW1 => by
        obtain ⟨m, D, hLM, hown⟩ := (HR.out.below hW1).map
        have := readStep_p (HSW.out W1 (HR.out.below hW1).bel) hown hLM HNm.out ⟨(lineB x).toArray⟩ hxl
        have e9 : bl (⟨(lineB x).toArray⟩ : ByteArray) = lineB x := by simp [bl]
        rw [e9, hrow] at this
        exact this
      have y6a : (W.drew.alloc (.cells #[.bool false, .bool false, .int .i64 0] 26)).cell? ⟨q6, 0, none⟩ = some (.map (some bM)) := (hR.box.alloc (W := W.drew) _).cell
      have hlt6 : q6 < W.heap.size := hR.box.lt
      have hne6 : ¬ q6 = W.heap.size := by omega
      clear hR
      gi_wp2_with fail
      rename_i K hK
      have HC : Hid (∀ Bx W2, Below W.heap.size W W2 → W2.heap[Bx]? = some (.cells #[.bool c1, .bool c2, .int .i64 c3] 26 (0, 0)) → K { tmps := #[.string ⟨s.toArray⟩, .slice na n nc, undef, undef, .pointer (some ⟨w.heap.size, 0, none⟩), .pointer (some ⟨w.heap.size + 1, 0, none⟩), .pointer (some ⟨q6, 0, none⟩), .pointer (some ⟨q6 + 1, 0, none⟩), .pointer (some ⟨q6 + 1 + 1, 0, none⟩), .string x, .pointer (some ⟨Bx, 0, none⟩), .nilIface, .slice na n nc, .map (some bM), .string ⟨s.toArray⟩, .func (.func 25) #[] #[.pointer (some ⟨q6 + 1 + 1 + 1, 0, none⟩)], .string x, .tuple #[.agg #[.bool c1, .bool c2, .int .i64 c3], .nilIface], .string x, .string ⟨(lineB x).toArray⟩, .map (some bM), .tuple #[.agg #[.bool c1, .bool c2, .int .i64 c3], .nilIface], .agg #[.bool c1, .bool c2, .int .i64 c3], .nilIface, undef, undef, undef, undef, undef, undef, undef, undef, undef, undef, undef, undef, undef, undef, undef, undef, undef, undef, undef, undef, undef], defers := [] } W2) := fun Bx W2 hbW hBx => by
        refine hK _ _ ?_
        have hR2 := HR.out.below hbW
        have x0 : W2.cell? ⟨Bx, 0, none⟩ = some (.bool c1) := by simp [World.cell?, hBx]
        have x1 : W2.cell? ⟨Bx, 1, none⟩ = some (.bool c2) := by simp [World.cell?, hBx]
        have x2 : W2.cell? ⟨Bx, 2, none⟩ = some (.int .i64 c3) := by simp [World.cell?, hBx]
        obtain ⟨v, hv, hrw, _⟩ := hR2.steps
        obtain ⟨sa, sc, hsv⟩ := row_any hrw
        subst hsv
        obtain ⟨i0, z0, hi, hz0, hz1, hz2, hz3⟩ := Tryd.infoSt2
        have hbsz := hR2.bel.size
        have z7 := hv.cell
        have HAC : Hid (∀ (j : Nat) (u : Value), (clmC [((c1, c2, c3) : Clm)])[j]? = some u → (W2.alloc (.cells #[.bool c1, .bool c2, .int .i64 c3] 26)).cell? ((⟨W2.heap.size, 0, none⟩ : Addr).add j) = some u) := fun j u h => alloc_cellC W2 (clmC [(c1, c2, c3)]) 26 j u h
        have HV := hidLL (And.intro hv hrw)
        have HR2 := hidLL hR2
        have hlen : lc.length ≤ 30000 := by have := linesB_len s.length s (Nat.le_refl _); have := HSL.out; have := HPL.out; omega
        have HKF : Hid (KeepsFrom W0.heap.size W W2 ∧ KpL w.heap.size (q6 + 1 + 1 + 1) W W2) := ⟨⟨hbW.size, fun k o _ hk _ => (hbW.block k (Array.getElem?_eq_some_iff.1 hk).1).trans hk⟩, hbW.mono HR.out.bel.size, by obtain ⟨u, hu⟩ := HR.out.str; exact hbW.block _ hu.lt⟩
        clear hR2 HRs HTr hK hv hrw hBx hbW
        gi_wp2_with (gi_at_builtin; refine wpListIn_append_own _ rfl _ _ 27 rfl w.heap.size 26 i0 z0 3 16 Tryd.underlying27 hi hz0 hz1 hz2 hz3 (by decide) _ _ _ rfl (HV.out.2.alloc _) ⟨W2.heap.size, 0, none⟩ 1 1 (clmC [(c1, c2, c3)]) rfl rfl HAC.out (clmC_one _) (by unfold maxLen; omega) (by omega) (by simp; omega) ?_; intro v' w1 hown' hgrow _; obtain ⟨g', cap', rfl⟩ := ownsRow_succ hown'; obtain ⟨S1, S2, S3, S4, S5⟩ := HR2.out.push (by omega) HV.out.1 HV.out.2 (by omega) hown' hgrow W0.heap.size; have c8 := unset S1.cnt (by omega); have d8 := c8.cell; have e8 := c8.frozen; clear c8; have HS1 := hidLL (And.intro S1 (And.intro S2 S3)); clear S1 S2 S3 hown' hgrow)
        have hc := HS1.out.1.count (B := W0.heap.size) ⟨by omega, by omega, by omega, by omega, by omega, by omega⟩ (lc.length + 1)
        refine ⟨(HKF.out.1.trans HS1.out.2.1).trans hc.2.1, (HKF.out.2.trans HS1.out.2.2).trans hc.2.2, lc ++ [(c1, c2, c3)], stepsR_ok nm hrow pre lc hst, ?_⟩
        rw [List.length_append]
        exact hc.1
      gi_region_with_o (first
        | (refine ⟨trivial, ?_⟩; gi_at_call 20; refine (CallsIn.inRound l (callsIn_wide.2 (HTr.out _))).mono ?_; rintro e w' ⟨rfl, rfl⟩)
        | (refine ⟨trivial, ?_⟩; gi_at_call 19; refine (CallsIn.inRound l (callsIn_wide.2 (HRs.out _ (by first | exact (Below.refl _ _).drew | exact (Below.refl _ _).drew.alloc (Nat.le_refl _) _)))).mono ?_; rintro e w5 ⟨rfl, hb5⟩; first | (have hk : BoxK W w5 := (by exact box_kept hb5); obtain ⟨q0, q1, q2, f0, f1, f2⟩ := hk) | skip))
      all_goals first
        | exact HC.out _ _ (low_alloc hb5 _) (World.alloc_heap_new w5 _)
        | exact HC.out _ _ (low_set hb5 _ _ _) (box_set3 hb5 _ _ _)
  case done =>
    rintro D xs W hD rfl ⟨lc, hst, hR⟩ hK
    have z4 := hR.r4.cell
    have z5 := hR.r5.cell
    have g4 := hR.r4.frozen
    have g5 := hR.r5.frozen
    obtain ⟨v, hv, hrw, _⟩ := hR.steps
    obtain ⟨sa, sc, hsv⟩ := row_any hrw
    subst hsv
    have z7 := hv.cell
    have l7 := hv.lt
    have l4 := hR.r4.lt
    have l5 := hR.r5.lt
    have hlen : lc.length ≤ 30000 := by have := linesB_len s.length s (Nat.le_refl _); have := HSL.out; have := stepsR_len nm _ lc hst; omega
    have hs2 : ¬ (30000 : Int) < ((s.length : Nat) : Int) := by have := HSL.out; omega
    have HF := hidLL (And.intro hst (And.intro hR (And.intro hv (And.intro hrw hK))))
    clear hst hR hv hrw hK
    gi_wp2
    obtain ⟨hst, hR, hv, hrw, hK⟩ := HF.out
    have hKD : ((W.setCell ⟨w.heap.size, 0, none⟩ (.slice sa lc.length sc)).setCell ⟨w.heap.size + 1, 0, none⟩ .nilIface).heap[D]? = some (.deferred (some [])) := (Below.heap_setCell _ _ _ _ (by show D ≠ w.heap.size + 1; omega)).trans ((Below.heap_setCell _ _ _ _ (by show D ≠ w.heap.size; omega)).trans hK)
    refine ⟨by simp, .inl ⟨_, _, rfl, run_takeDeferred hKD, ?_⟩⟩
    have k4 := (hR.r4.set (.slice sa lc.length sc)).other (B' := w.heap.size + 1) (by omega) .nilIface
    have k5 := (hR.r5.other (B' := w.heap.size) (by omega) (.slice sa lc.length sc)).set .nilIface
    have hrow1 := row_set (x := .nilIface) (row_set (x := .slice sa lc.length sc) hrw hR.r4 (by decide)) (hR.r5.other (B' := w.heap.size) (by omega) (.slice sa lc.length sc)) (by decide)
    have hbl := ((hR.bel.setCell (p := ⟨w.heap.size, 0, none⟩) (Nat.le_refl _) (.slice sa lc.length sc)).setCell (p := ⟨w.heap.size + 1, 0, none⟩) (by show w.heap.size ≤ w.heap.size + 1; omega) .nilIface)
    obtain ⟨V, hV⟩ : ∃ V : World, V = (W.setCell ⟨w.heap.size, 0, none⟩ (.slice sa lc.length sc)).setCell ⟨w.heap.size + 1, 0, none⟩ .nilIface := ⟨_, rfl⟩
    rw [← hV] at k4 k5 hrow1 hbl hKD ⊢
    clear hV
    have f4 : (V.putObj D (.deferred none)).cell? ⟨w.heap.size, 0, none⟩ = some (.slice sa lc.length sc) := (World.cell?_of_block (a := ⟨w.heap.size, 0, none⟩) (World.putObj_heap_other (by show w.heap.size ≠ D; omega))).trans k4.cell
    have f5 : (V.putObj D (.deferred none)).cell? ⟨w.heap.size + 1, 0, none⟩ = some .nilIface := (World.cell?_of_block (a := ⟨w.heap.size + 1, 0, none⟩) (World.putObj_heap_other (by show w.heap.size + 1 ≠ D; omega))).trans k5.cell
    refine ⟨.tuple #[.slice sa lc.length sc, .nilIface], by simp [results, Tryd.results8, go_sem, f4, f5], ?_⟩
    rw [hst]
    have hrow2 : (V.putObj D (.deferred none)).ownsRow w.heap.size 26 3 (.slice sa lc.length sc) lc.length (clmC lc) := row_step hrow1 fun g hg _ => World.putObj_heap_other fun e => by
      rcases hrow1.2 with ⟨hn1, _⟩ | ⟨g', cap, cur, e1, _, hgg, _⟩
      · rw [hn1] at hg
        cases hg
      · rw [e1] at hg
        injection hg with hg
        subst hg
        rw [show g' = D from e, hKD] at hgg
        cases hgg
    exact ⟨_, _, _, rfl, rfl, srd_own hrow2 (by omega), hbl.trans (belowK_b (w := w) (Nat.le_refl _) _ D _ _ (by omega) hKD rfl rfl)⟩
  case stop =>
    rintro D c pre W hD ⟨q, hq2⟩ ⟨rfl, hbad⟩ hK
    have HF := hidLL (And.intro hbad hK)
    clear hbad hK
    gi_wp2
    obtain ⟨hbad, hK⟩ := HF.out
    refine ⟨by simp, .inl ⟨_, _, rfl, run_takeDeferred hK, ?_⟩⟩
    obtain ⟨⟨i, k⟩, fb, h1, h2, h3⟩ := hbad.bad
    have f4 : (W.putObj D (.deferred none)).cell? ⟨w.heap.size, 0, none⟩ = some (.slice none 0 0) := (World.cell?_of_block (a := ⟨w.heap.size, 0, none⟩) (World.putObj_heap_other (by show w.heap.size ≠ D; omega))).trans hbad.r4.cell
    have f5 : (W.putObj D (.deferred none)).cell? ⟨w.heap.size + 1, 0, none⟩ = some (.iface 61 (.pointer (some ⟨fb, 0, none⟩))) := (World.cell?_of_block (a := ⟨w.heap.size + 1, 0, none⟩) (World.putObj_heap_other (by show w.heap.size + 1 ≠ D; omega))).trans h2.cell
    have hfD : fb ≠ D := fun e => by
      rw [e, hK] at h3
      cases h3
    have h4 : (W.putObj D (.deferred none)).heap[fb]? = some (.cells #[.int .i64 i, .iface 107 (.pointer (some (p k)))] 63 (0, 0)) := (World.putObj_heap_other hfD).trans h3
    refine ⟨.tuple #[.slice none 0 0, .iface 61 (.pointer (some ⟨fb, 0, none⟩))], by simp [results, Tryd.results8, go_sem, f4, f5], ?_⟩
    rw [← hq2, stepsR_stop nm q pre h1]
    exact ⟨fb, rfl, by simp [World.cell?, h4], by simp [World.cell?, h4], hbad.bel.trans (belowK_b (w := w) (Nat.le_refl _) _ D _ _ (by omega) hK rfl rfl)⟩
end Go.Proofs.YtfnlcblalieolaaDoor
