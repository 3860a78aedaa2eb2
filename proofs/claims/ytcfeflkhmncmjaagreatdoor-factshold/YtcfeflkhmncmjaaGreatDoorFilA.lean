/-
  Facts: the law's small functions: fact, coded, sameInts, New, fewFacts.
-/
import Derived.Test.YtcfeflkhmncmjaaGreatDoorValA
import Derived.Test.YtcfeflkhmncmjaaGreatDoorFaA
import Derived.BigQuiet
import Derived.Test.YtcfeflkhmncmjaaGreatDoorAddR
namespace Go.Proofs.YtcfeflkhmncmjaaGreatDoor
open Go.RowKit Go.Extern.Stop Go.Stop Go.Extern

theorem coded3_nil (n : Int) (w : World) : Calls Tryz.prog 11 #[.nilIface, .int .i64 n] w fun e w' => e = .returned (.bool ((0 : Int) == n)) ∧ w' = w := by
  go_enter Tryz.func11, Tryz.ntmps11
  go_wp2_with (go_at_call 27; refine (code_nil _).mono ?_; rintro e w' ⟨rfl, rfl⟩)
  go_ret
  exact ⟨rfl, rfl⟩
theorem coded3_sent (k : Nat) (hk : k < 11) (n : Int) (p : Nat → Addr) (w : World) (L : Laid w p) :
    Calls Tryz.prog 11 #[.iface 193 (.pointer (some (p k))), .int .i64 n] w fun e w' => e = .returned (.bool (((k : Int) + 1) == n)) ∧ Below w.heap.size w w' := by
  go_enter Tryz.func11, Tryz.ntmps11
  go_wp2_with fail
  refine (code_sent k hk p _ L).mono ?_
  rintro e w' ⟨rfl, hb⟩
  go_wp2
  go_ret
  exact ⟨rfl, hb⟩
theorem fact_l (x : Fct) (w : World) :
    Calls Tryz.prog 17 #[.agg #[.int .i64 x.who, .string x.nm, .int .i64 x.oth, .int .i64 x.val, .int .i64 x.frm, .int .i64 x.til, .int .i64 x.lrn]] w fun e w' => e = .returned (.agg #[.int .i64 x.who, .string x.nm, .int .i64 x.oth, .int .i64 x.val, .int .i64 x.frm, .int .i64 x.til, .int .i64 x.lrn]) ∧ Below w.heap.size w w' := by
  obtain ⟨xw, xn, xo, xv, xf, xt, xl⟩ := x
  have HB : Hid (∀ o1 o2 : Obj, Below w.heap.size w ((w.alloc o1).alloc o2)) := fun o1 o2 => ((Below.refl _ _).alloc (Nat.le_refl _) o1).alloc (by simp) o2
  go_enter Tryz.func17, Tryz.ntmps17
  go_wp2
  refine bodyPost_ret (v := .agg #[.int .i64 xw, .string xn, .int .i64 xo, .int .i64 xv, .int .i64 xf, .int .i64 xt, .int .i64 xl]) (by simp [results, Tryz.results17, go_sem]) rfl ?_
  exact ⟨rfl, HB.out _ _⟩
theorem new_l (w : World) : Calls Tryz.prog 15 #[] w fun e w' => e = .returned (.pointer (some ⟨w.heap.size, 0, none⟩)) ∧ w' = w.alloc (.cells #[.slice none 0 0] 79) := by
  go_enter Tryz.func15, Tryz.ntmps15
  go_wp2
  go_ret
  exact ⟨rfl, rfl⟩
/-- Names that are short. -/
def fewB (l : List Fct) : Bool := l.all (fun x => decide (x.nm.size ≤ 100)) && decide (l.length ≤ 502)
set_option maxHeartbeats 1000000 in
set_option maxRecDepth 100000 in
theorem few_l {w : World} {a : Option Addr} {c : Nat} {l : List Fct} (hr : FRead w a l) (hl : l.length ≤ 9223372036854775807) :
    Calls Tryz.prog 4 #[.slice a l.length c] w fun e w' => e = .returned (.bool (fewB l)) ∧ w' = w := by
  have HR := hidLL hr
  clear hr
  have HF : Hid (fewB l = (l.all (fun x => decide (x.nm.size ≤ 100)) && decide (l.length ≤ 502))) := rfl
  obtain ⟨m, hm⟩ : ∃ m, m = l.length := ⟨_, rfl⟩
  rw [← hm] at HF hl ⊢
  have HM := hidLL hm
  clear hm
  generalize fewB l = F at *
  go_enter Tryz.func4, Tryz.ntmps4
  go_wp2_with fail
  go_loopw [3] (fun t wr => ∃ i : Nat, i ≤ m ∧ t = .int .i64 i ∧ wr = w ∧ l.all (fun x => decide (x.nm.size ≤ 100)) = (l.drop i).all (fun x => decide (x.nm.size ≤ 100))) (fun t _ => (m - RowKit.intOf t).toNat)
  case atStart => exact ⟨0, by omega, rfl, rfl, rfl⟩
  case round =>
    obtain ⟨i, hi, rfl, ew, hall⟩ := hrel
    subst wr
    have HA := hidLL hall
    clear hall
    by_cases hin : i < m
    · have hiz : (i : Int) < m := by omega
      obtain ⟨x, hx⟩ : ∃ x, l[i]? = some x := ⟨_, List.getElem?_eq_getElem (by have := HM.out; omega)⟩
      obtain ⟨g, o, rfl, hg, x0, x1, x2, x3, x4, x5, x6⟩ := HR.out.cells hx
      have HD : Hid ((l.drop i).all (fun x => decide (x.nm.size ≤ 100)) = (decide (x.nm.size ≤ 100) && (l.drop (i + 1)).all (fun x => decide (x.nm.size ≤ 100)))) := by
        obtain ⟨h1, h2⟩ := List.getElem?_eq_some_iff.1 hx
        show _ = _
        rw [List.drop_eq_getElem_cons h1, List.all_cons, h2]
      clear hx x0 x2 x3 x4 x5 x6
      by_cases hs : x.nm.size ≤ 100
      · rw [decide_eq_true hs] at HD
        have hsz : (x.nm.size : Int) ≤ 100 := by omega
        have hsz2 : ¬ (100 : Int) < x.nm.size := by omega
        generalize x.nm = xn at *
        go_wp2_with fail
        go_roundw
        case rel => exact ⟨i + 1, by omega, by go_num, trivial, by rw [HA.out, HD.out]; rfl⟩
        case measure => simp [RowKit.intOf]; omega
      · rw [decide_eq_false hs] at HD
        have hsz : (100 : Int) < x.nm.size := by omega
        generalize x.nm = xn at *
        go_wp2_with fail
        go_ret
        exact ⟨retB (by rw [HF.out, HA.out, HD.out]; rfl), rfl⟩
    · obtain rfl : i = m := by omega
      have HT : Hid (l.drop i = []) := List.drop_eq_nil_of_le (by rw [HM.out]; exact Nat.le_refl _)
      go_wp2
      go_ret
      exact ⟨retB (by rw [HF.out, HA.out, HT.out, Bool.eq_iff_iff]; simp; try omega), rfl⟩
end Go.Proofs.YtcfeflkhmncmjaaGreatDoor
namespace Go.Proofs.YtcfeflkhmncmjaaGreatDoor
open Go.RowKit Go.Extern.Stop Go.Stop Go.Extern

/-- Both files hold the same facts; nothing below N has changed. -/
structure Two (N : Nat) (w0 w : World) (B b1 b2 : Nat) (L : List Fct) : Prop where
  p : ∃ sv, FFile 61 B w b1 L sv
  r : ∃ sv, FFile 55 B w b2 L sv
  ne : b1 ≠ b2
  lo1 : N ≤ b1
  lo2 : N ≤ b2
  lo : N ≤ B
  hi : B ≤ w.heap.size
  bel : Below N w0 w
theorem Two.on {N : Nat} {w0 w w' : World} {B b1 b2 : Nat} {L : List Fct} (h : Two N w0 w B b1 b2 L) (hb : Below w.heap.size w w') : Two N w0 w' B b1 b2 L := by
  obtain ⟨s1, h1⟩ := h.p
  obtain ⟨s2, h2⟩ := h.r
  exact ⟨⟨s1, h1.bel hb⟩, ⟨s2, h2.bel hb⟩, h.ne, h.lo1, h.lo2, h.lo, Nat.le_trans h.hi hb.size, h.bel.trans (hb.mono (Nat.le_trans h.lo h.hi))⟩
theorem FStep.low {T B b N : Nat} {w w' : World} (h : FStep T B b w w') (hN : N ≤ b) (hB : N ≤ B) (hw : N ≤ w.heap.size) : Below N w w' :=
  ⟨h.os, h.tape, h.output, h.size, fun k hk => h.block k (by omega) (by omega) (.inl (by omega))⟩
theorem Two.stepP {N : Nat} {w0 w w' : World} {B b1 b2 : Nat} {L : List Fct} (h : Two N w0 w B b1 b2 L) (hs : FStep 61 B b1 w w') : (∃ sv, FFile 55 B w' b2 L sv) ∧ Below N w0 w' := by
  obtain ⟨s1, h1⟩ := h.p
  obtain ⟨s2, h2⟩ := h.r
  exact ⟨⟨s2, h2.other hs (by decide) (fun e => h.ne e.symm) h1.lt⟩, h.bel.trans (hs.low h.lo1 h.lo (Nat.le_trans h.lo h.hi))⟩
/-- One fact added to both files. -/
theorem add_both {N : Nat} {w0 w : World} {B b1 b2 : Nat} {L : List Fct} (h : Two N w0 w B b1 b2 L) (hN : N = w0.heap.size) (p : Nat → Addr) (Lw : Laid w0 p) (x : Fct) (hs : x.nm.size ≤ 100000) :
    Calls Tryz.prog 16 #[.pointer (some ⟨b1, 0, none⟩), .agg #[.int .i64 x.who, .string x.nm, .int .i64 x.oth, .int .i64 x.val, .int .i64 x.frm, .int .i64 x.til, .int .i64 x.lrn]] w fun e w1 =>
      Below N w0 w1 ∧ (∃ ev, e = .returned ev ∧ Calls Tryz.prog 18 #[.pointer (some ⟨b2, 0, none⟩), .agg #[.int .i64 x.who, .string x.nm, .int .i64 x.oth, .int .i64 x.val, .int .i64 x.frm, .int .i64 x.til, .int .i64 x.lrn]] w1 fun e' w2 =>
        ∃ n : Int, e' = .returned (.int .i64 n) ∧ Two N w0 w2 B b1 b2 (keep L x) ∧ Calls Tryz.prog 11 #[ev, .int .i64 n] w2 fun e'' w3 => e'' = .returned (.bool true) ∧ Below w2.heap.size w2 w3) := by
  obtain ⟨s1, h1⟩ := h.p
  obtain ⟨s2, h2⟩ := h.r
  have Lw1 : Laid w p := Lw.below (by rw [← hN]; exact h.bel)
  refine (pAdd_any h1 h.hi p Lw1 x hs).mono ?_
  rintro e w1 (⟨hc, rfl, ⟨s1', h1'⟩, hst⟩ | ⟨k, hc, hk, rfl, hb⟩)
  · obtain ⟨⟨s3, h3⟩, hb1⟩ := h.stepP hst
    refine ⟨hb1, _, rfl, (rAdd_any h3 (Nat.le_trans h.hi hst.size) x).mono ?_⟩
    rintro e' w2 (⟨_, rfl, ⟨s2', h2'⟩, hst2⟩ | ⟨hc2, _⟩)
    · have hkeep : keep L x = L ++ [x] := by unfold keep; rw [if_pos hc]
      refine ⟨0, rfl, ⟨⟨s1', ?_⟩, ⟨s2', by rw [hkeep]; exact h2'⟩, h.ne, h.lo1, h.lo2, h.lo, Nat.le_trans h.hi (Nat.le_trans hst.size hst2.size), hb1.trans (hst2.low h.lo2 h.lo (Nat.le_trans h.lo (Nat.le_trans h.hi hst.size)))⟩, ?_⟩
      · rw [hkeep]; exact h1'.other hst2 (by decide) h.ne h2.lt
      · refine (coded3_nil 0 w2).mono ?_
        rintro e'' w3 ⟨rfl, rfl⟩
        exact ⟨rfl, Below.refl _ _⟩
    · exact absurd hc hc2
  · have hT := h.on hb
    obtain ⟨s3, h3⟩ := hT.r
    refine ⟨hT.bel, _, rfl, (rAdd_any h3 hT.hi x).mono ?_⟩
    rintro e' w2 (⟨hc2, _⟩ | ⟨_, rfl, hb2⟩)
    · rw [hc] at hc2; cases hc2
    · have hkeep : keep L x = L := by unfold keep; rw [if_neg (by rw [hc]; omega)]
      refine ⟨_, rfl, by rw [hkeep]; exact hT.on hb2, ?_⟩
      rw [hc]
      refine (coded3_sent k hk _ p w2 (Lw.below (by rw [← hN]; exact (hT.on hb2).bel))).mono ?_
      rintro e'' w3 ⟨rfl, hb3⟩
      exact ⟨by simp, hb3⟩
set_option maxHeartbeats 4000000 in
set_option maxRecDepth 100000 in
theorem files_l {w : World} {a : Option Addr} {c : Nat} {l : List Fct} (hr : FRead w a l) (hl : l.length ≤ 9223372036854775807) (hsm : ∀ x ∈ l, x.nm.size ≤ 100000) (p : Nat → Addr) (Lw : Laid w p) :
    Calls Tryz.prog 6 #[.slice a l.length c] w fun e w' => ∃ B b1 b2, e = .returned (.tuple #[.pointer (some ⟨b1, 0, none⟩), .pointer (some ⟨b2, 0, none⟩), .bool true]) ∧ Two w.heap.size w w' B b1 b2 (filesL l) := by
  have HR := hidLL hr
  have HL := hidLL Lw
  have HSm := hidLL hsm
  clear hr Lw hsm
  obtain ⟨m, hm⟩ : ∃ m, m = l.length := ⟨_, rfl⟩
  rw [← hm] at hl ⊢
  have HM := hidLL hm
  clear hm
  have HS : Hid (Two w.heap.size w ((w.alloc (.cells #[.slice none 0 0] 79)).alloc (.cells #[.slice none 0 0] 59)) (w.heap.size + 2) w.heap.size (w.heap.size + 1) []) := by
    refine ⟨⟨.slice none 0 0, ⟨by omega, by simp; omega, by simp, by simp, World.ownsRow_nil _ _ _ _⟩⟩, ⟨.slice none 0 0, ⟨by omega, by simp, by simp, by simp, World.ownsRow_nil _ _ _ _⟩⟩, by omega, by omega, by omega, by omega, by simp, ((Below.refl _ _).alloc (Nat.le_refl _) _).alloc (by simp) _⟩
  go_enter Tryz.func6, Tryz.ntmps6
  go_wp2_with (go_at_call 15; refine (new_l _).mono ?_; rintro e w1 ⟨rfl, ew⟩; subst w1)
  go_loopw [7] (fun t wr => ∃ i : Nat, i ≤ m ∧ t = .int .i64 i ∧ Two w.heap.size w wr (w.heap.size + 2) w.heap.size (w.heap.size + 1) (filesL (l.take i))) (fun t _ => (m - RowKit.intOf t).toNat)
  case atStart => exact ⟨0, by omega, rfl, HS.out⟩
  case round =>
    obtain ⟨i, hi, rfl, htwo⟩ := hrel
    have HT := hidLL htwo
    clear htwo HS
    by_cases hin : i < m
    · have hiz : (i : Int) < m := by omega
      obtain ⟨x, hx⟩ : ∃ x, l[i]? = some x := ⟨_, List.getElem?_eq_getElem (by have := HM.out; omega)⟩
      have HX := hidLL (files_snoc l i x hx)
      have HAdd := hidLL (fun (W : World) (hW : Below wr.heap.size wr W) => add_both (HT.out.on hW) rfl p HL.out x (HSm.out x (List.mem_of_getElem? hx)))
      have HFa := hidLL (fact_l x)
      obtain ⟨g, o, rfl, hg, x0, x1, x2, x3, x4, x5, x6⟩ := HR.out.cells hx
      have HC : Hid (∀ W : World, Below w.heap.size w W → W.cell? ⟨g, o + i * 7, none⟩ = some (.int .i64 x.who) ∧ W.cell? ⟨g, o + i * 7 + 1, none⟩ = some (.string x.nm) ∧ W.cell? ⟨g, o + i * 7 + 2, none⟩ = some (.int .i64 x.oth) ∧ W.cell? ⟨g, o + i * 7 + 3, none⟩ = some (.int .i64 x.val) ∧ W.cell? ⟨g, o + i * 7 + 4, none⟩ = some (.int .i64 x.frm) ∧ W.cell? ⟨g, o + i * 7 + 5, none⟩ = some (.int .i64 x.til) ∧ W.cell? ⟨g, o + i * 7 + 6, none⟩ = some (.int .i64 x.lrn)) := fun W hW =>
        ⟨(hW.cell (p := ⟨g, o + i * 7, none⟩) hg).trans x0, (hW.cell (p := ⟨g, o + i * 7 + 1, none⟩) hg).trans x1, (hW.cell (p := ⟨g, o + i * 7 + 2, none⟩) hg).trans x2, (hW.cell (p := ⟨g, o + i * 7 + 3, none⟩) hg).trans x3, (hW.cell (p := ⟨g, o + i * 7 + 4, none⟩) hg).trans x4, (hW.cell (p := ⟨g, o + i * 7 + 5, none⟩) hg).trans x5, (hW.cell (p := ⟨g, o + i * 7 + 6, none⟩) hg).trans x6⟩
      clear x0 x1 x2 x3 x4 x5 x6 hx
      obtain ⟨y0, y1, y2, y3, y4, y5, y6⟩ := HC.out wr HT.out.bel
      obtain ⟨xw, xn, xo, xv, xf, xt, xl⟩ := x
      simp only at y0 y1 y2 y3 y4 y5 y6 HAdd HFa HC HX
      go_wp2_with fail
      refine (HFa.out _).mono ?_
      rintro e w1 ⟨rfl, hb1⟩
      have HA1 := hidLL (HAdd.out w1 hb1)
      clear hb1
      go_wp2_with fail
      refine HA1.out.mono ?_
      rintro e w2 ⟨hb2, ev, rfl, hcall⟩
      obtain ⟨z0, z1, z2, z3, z4, z5, z6⟩ := HC.out w2 hb2
      have HC2 := hidLL hcall
      clear hcall hb2
      go_wp2_with fail
      refine HC2.out.mono ?_
      rintro e w3 ⟨nn, rfl, ht3, hcall3⟩
      have HT3 := hidLL ht3
      have HC3 := hidLL hcall3
      clear ht3 hcall3
      go_wp2_with fail
      refine HC3.out.mono ?_
      rintro e w4 ⟨rfl, hb4⟩
      have HT4 := hidLL (HT3.out.on hb4)
      clear hb4
      go_wp2_with fail
      go_roundw
      case rel => exact ⟨i + 1, by omega, by go_num, by rw [HX.out]; exact HT4.out⟩
      case measure => simp [RowKit.intOf]; omega
    · obtain rfl : i = m := by omega
      have HTk : Hid (l.take i = l) := List.take_of_length_le (by rw [HM.out]; exact Nat.le_refl _)
      go_wp2
      refine bodyPost_ret (v := .tuple #[.pointer (some ⟨w.heap.size, 0, none⟩), .pointer (some ⟨w.heap.size + 1, 0, none⟩), .bool true]) (by simp [results, Tryz.results6, go_sem]) rfl ?_
      refine ⟨w.heap.size + 2, w.heap.size, w.heap.size + 1, rfl, ?_⟩
      have h9 := HT.out
      rw [HTk.out] at h9
      exact h9
end Go.Proofs.YtcfeflkhmncmjaaGreatDoor
