/-
  slices.IndexFunc, slices.ContainsFunc: a function value each (written by tools/gencs.py).
-/
import Derived.Test.YtpijiglmjkdlgaaDoorCsMem
namespace Go.Proofs.YtpijiglmjkdlgaaDoor
open Go.RowKit

set_option maxHeartbeats 2000000 in
theorem ix_move {w : World} {S : Nat → Prop} {va : Option Addr} {vn vc : Nat} {l : List Mv} {f : Mv → Bool} {c1 c2 : Option Addr} (hr : RdS mvE w S (.slice va vn vc) l) (hS : ∀ k, S k → k < w.heap.size)
    (hF : ∀ V, Below w.heap.size w V → ∀ m : Mv, Calls Tryd.prog 35 #[.agg #[.string m.nm, .string m.fr, .string m.tt, .string m.wh, .int .i64 m.n, .int .i64 m.u, .int .i64 m.r, .int .i64 m.most], .pointer c1, .pointer c2] V fun e w' => e = .returned (.bool (f m)) ∧ Below V.heap.size V w') :
    Calls Tryd.prog 34 #[.slice va vn vc, .func (.func 35) #[] #[.pointer c1, .pointer c2]] w fun e w' => e = .returned (.int .i64 (ixI f l)) ∧ Below w.heap.size w w' := by
  have HF := hidLL hF
  have HR := hidLL (And.intro hr hS)
  obtain ⟨hvn, hbig⟩ := hr.len
  have HN := hidLL hvn
  clear hr hS hF hvn
  go_enter Tryd.func34, Tryd.ntmps34
  go_wp2_with fail
  go_loopw [8] (fun i wr => ∃ j : Nat, j ≤ vn ∧ i = .int .i64 j ∧ (∀ (q : Nat) y, q < j → l[q]? = some y → f y = false) ∧ Below w.heap.size w wr) (fun i _ => vn - (RowKit.intOf i).toNat)
  case atStart => exact ⟨0, by omega, rfl, fun q y hq => by omega, Below.refl _ _⟩
  case round =>
    obtain ⟨j, hj, rfl, hno, hb⟩ := hrel
    have HB := hidLL (And.intro hno hb)
    clear hno hb
    by_cases hlt : j < vn
    · have hjz : (j : Int) < vn := by omega
      obtain ⟨m, hm⟩ : ∃ m, l[j]? = some m := ⟨_, List.getElem?_eq_getElem (by have := HN.out; omega)⟩
      obtain ⟨g, o, rfl, hg, hrg⟩ := (HR.out.1.on (S' := S) fun k hk => ⟨hk, HB.out.2.block k (HR.out.2 k hk)⟩).at hm
      rw [show mvE.k = 8 from rfl] at hrg
      obtain ⟨y0, y1, y2, y3, y4, y5, y6, y7⟩ := mv_cells hrg
      have HC := hidLL (HF.out wr HB.out.2 m)
      have HM := hidLL hm
      clear hm hrg hg
      cases hfm : f m with
      | true =>
        rw [hfm] at HC
        have HT := hidLL hfm
        clear hfm
        go_wp2_with fail
        refine HC.out.mono ?_
        rintro e w2 ⟨rfl, hb2⟩
        have HB2 := hidLL (HB.out.2.trans (hb2.mono HB.out.2.size))
        clear hb2
        go_wp2
        go_ret
        exact ⟨by rw [ixI_some HM.out HT.out HB.out.1]; rfl, HB2.out⟩
      | false =>
        rw [hfm] at HC
        have HT := hidLL hfm
        clear hfm
        go_wp2_with fail
        refine HC.out.mono ?_
        rintro e w2 ⟨rfl, hb2⟩
        have HB2 := hidLL (HB.out.2.trans (hb2.mono HB.out.2.size))
        clear hb2
        go_wp2
        go_roundw
        case rel =>
          refine ⟨j + 1, by omega, by go_num, fun q y hq hy => ?_, HB2.out⟩
          rcases Nat.lt_or_ge q j with h | h
          · exact HB.out.1 q y h hy
          · obtain rfl : q = j := by omega
            rw [HM.out] at hy
            injection hy with hy
            subst hy
            exact HT.out
        case measure => simp [RowKit.intOf]; omega
    · have hjz : ¬ (j : Int) < vn := by omega
      go_wp2
      go_ret
      exact ⟨by rw [ixI_none fun q y hy => HB.out.1 q y (by have := (List.getElem?_eq_some_iff.1 hy).1; have := HN.out; omega) hy]; rfl, HB.out.2⟩
set_option maxHeartbeats 2000000 in
theorem ix_word {w : World} {S : Nat → Prop} {va : Option Addr} {vn vc : Nat} {l : List ByteArray} {f : ByteArray → Bool}  (hr : RdS strE w S (.slice va vn vc) l) (hS : ∀ k, S k → k < w.heap.size)
    (hF : ∀ V, Below w.heap.size w V → ∀ m : ByteArray, Calls Tryd.prog 39 #[.string m] V fun e w' => e = .returned (.bool (f m)) ∧ Below V.heap.size V w') :
    Calls Tryd.prog 54 #[.slice va vn vc, .func (.func 39) #[] #[]] w fun e w' => e = .returned (.int .i64 (ixI f l)) ∧ Below w.heap.size w w' := by
  have HF := hidLL hF
  have HR := hidLL (And.intro hr hS)
  obtain ⟨hvn, hbig⟩ := hr.len
  have HN := hidLL hvn
  clear hr hS hF hvn
  go_enter Tryd.func54, Tryd.ntmps54
  go_wp2_with fail
  go_loopw [8] (fun i wr => ∃ j : Nat, j ≤ vn ∧ i = .int .i64 j ∧ (∀ (q : Nat) y, q < j → l[q]? = some y → f y = false) ∧ Below w.heap.size w wr) (fun i _ => vn - (RowKit.intOf i).toNat)
  case atStart => exact ⟨0, by omega, rfl, fun q y hq => by omega, Below.refl _ _⟩
  case round =>
    obtain ⟨j, hj, rfl, hno, hb⟩ := hrel
    have HB := hidLL (And.intro hno hb)
    clear hno hb
    by_cases hlt : j < vn
    · have hjz : (j : Int) < vn := by omega
      obtain ⟨m, hm⟩ : ∃ m, l[j]? = some m := ⟨_, List.getElem?_eq_getElem (by have := HN.out; omega)⟩
      obtain ⟨g, o, rfl, hg, hrg⟩ := (HR.out.1.on (S' := S) fun k hk => ⟨hk, HB.out.2.block k (HR.out.2 k hk)⟩).at hm
      rw [show strE.k = 1 from rfl] at hrg
      have y0 : wr.cell? ⟨g, o + j, none⟩ = some (.string m) := (by
        have := hrg 0 _ rfl
        simpa [strE] using this)
      have HC := hidLL (HF.out wr HB.out.2 m)
      have HM := hidLL hm
      clear hm hrg hg
      cases hfm : f m with
      | true =>
        rw [hfm] at HC
        have HT := hidLL hfm
        clear hfm
        go_wp2_with fail
        refine HC.out.mono ?_
        rintro e w2 ⟨rfl, hb2⟩
        have HB2 := hidLL (HB.out.2.trans (hb2.mono HB.out.2.size))
        clear hb2
        go_wp2
        go_ret
        exact ⟨by rw [ixI_some HM.out HT.out HB.out.1]; rfl, HB2.out⟩
      | false =>
        rw [hfm] at HC
        have HT := hidLL hfm
        clear hfm
        go_wp2_with fail
        refine HC.out.mono ?_
        rintro e w2 ⟨rfl, hb2⟩
        have HB2 := hidLL (HB.out.2.trans (hb2.mono HB.out.2.size))
        clear hb2
        go_wp2
        go_roundw
        case rel =>
          refine ⟨j + 1, by omega, by go_num, fun q y hq hy => ?_, HB2.out⟩
          rcases Nat.lt_or_ge q j with h | h
          · exact HB.out.1 q y h hy
          · obtain rfl : q = j := by omega
            rw [HM.out] at hy
            injection hy with hy
            subst hy
            exact HT.out
        case measure => simp [RowKit.intOf]; omega
    · have hjz : ¬ (j : Int) < vn := by omega
      go_wp2
      go_ret
      exact ⟨by rw [ixI_none fun q y hy => HB.out.1 q y (by have := (List.getElem?_eq_some_iff.1 hy).1; have := HN.out; omega) hy]; rfl, HB.out.2⟩
theorem has_word {w : World} {S : Nat → Prop} {va : Option Addr} {vn vc : Nat} {l : List ByteArray} {f : ByteArray → Bool}  (hr : RdS strE w S (.slice va vn vc) l) (hS : ∀ k, S k → k < w.heap.size)
    (hF : ∀ V, Below w.heap.size w V → ∀ m : ByteArray, Calls Tryd.prog 39 #[.string m] V fun e w' => e = .returned (.bool (f m)) ∧ Below V.heap.size V w') :
    Calls Tryd.prog 41 #[.slice va vn vc, .func (.func 39) #[] #[]] w fun e w' => e = .returned (.bool (l.any f)) ∧ Below w.heap.size w w' := by
  have HC := hidLL (ix_word hr hS hF)
  have HA := hidLL (ixI_any f l)
  clear hr hS hF
  generalize ixI f l = ii at *
  generalize l.any f = aa at *
  go_enter Tryd.func41, Tryd.ntmps41
  go_wp2_with fail
  refine HC.out.mono ?_
  rintro e w2 ⟨rfl, hb2⟩
  have HB2 := hidLL hb2
  clear hb2
  go_wp2
  go_ret
  exact ⟨by rw [← HA.out]; rfl, HB2.out⟩
set_option maxHeartbeats 2000000 in
theorem ix_words {w : World} {S : Nat → Prop} {va : Option Addr} {vn vc : Nat} {l : List Mv} {f : Mv → Bool} {c1 : Option Addr} (hr : RdS mvE w S (.slice va vn vc) l) (hS : ∀ k, S k → k < w.heap.size)
    (hF : ∀ V, Below w.heap.size w V → ∀ m : Mv, Calls Tryd.prog 42 #[.agg #[.string m.nm, .string m.fr, .string m.tt, .string m.wh, .int .i64 m.n, .int .i64 m.u, .int .i64 m.r, .int .i64 m.most], .pointer c1] V fun e w' => e = .returned (.bool (f m)) ∧ Below V.heap.size V w') :
    Calls Tryd.prog 34 #[.slice va vn vc, .func (.func 42) #[] #[.pointer c1]] w fun e w' => e = .returned (.int .i64 (ixI f l)) ∧ Below w.heap.size w w' := by
  have HF := hidLL hF
  have HR := hidLL (And.intro hr hS)
  obtain ⟨hvn, hbig⟩ := hr.len
  have HN := hidLL hvn
  clear hr hS hF hvn
  go_enter Tryd.func34, Tryd.ntmps34
  go_wp2_with fail
  go_loopw [8] (fun i wr => ∃ j : Nat, j ≤ vn ∧ i = .int .i64 j ∧ (∀ (q : Nat) y, q < j → l[q]? = some y → f y = false) ∧ Below w.heap.size w wr) (fun i _ => vn - (RowKit.intOf i).toNat)
  case atStart => exact ⟨0, by omega, rfl, fun q y hq => by omega, Below.refl _ _⟩
  case round =>
    obtain ⟨j, hj, rfl, hno, hb⟩ := hrel
    have HB := hidLL (And.intro hno hb)
    clear hno hb
    by_cases hlt : j < vn
    · have hjz : (j : Int) < vn := by omega
      obtain ⟨m, hm⟩ : ∃ m, l[j]? = some m := ⟨_, List.getElem?_eq_getElem (by have := HN.out; omega)⟩
      obtain ⟨g, o, rfl, hg, hrg⟩ := (HR.out.1.on (S' := S) fun k hk => ⟨hk, HB.out.2.block k (HR.out.2 k hk)⟩).at hm
      rw [show mvE.k = 8 from rfl] at hrg
      obtain ⟨y0, y1, y2, y3, y4, y5, y6, y7⟩ := mv_cells hrg
      have HC := hidLL (HF.out wr HB.out.2 m)
      have HM := hidLL hm
      clear hm hrg hg
      cases hfm : f m with
      | true =>
        rw [hfm] at HC
        have HT := hidLL hfm
        clear hfm
        go_wp2_with fail
        refine HC.out.mono ?_
        rintro e w2 ⟨rfl, hb2⟩
        have HB2 := hidLL (HB.out.2.trans (hb2.mono HB.out.2.size))
        clear hb2
        go_wp2
        go_ret
        exact ⟨by rw [ixI_some HM.out HT.out HB.out.1]; rfl, HB2.out⟩
      | false =>
        rw [hfm] at HC
        have HT := hidLL hfm
        clear hfm
        go_wp2_with fail
        refine HC.out.mono ?_
        rintro e w2 ⟨rfl, hb2⟩
        have HB2 := hidLL (HB.out.2.trans (hb2.mono HB.out.2.size))
        clear hb2
        go_wp2
        go_roundw
        case rel =>
          refine ⟨j + 1, by omega, by go_num, fun q y hq hy => ?_, HB2.out⟩
          rcases Nat.lt_or_ge q j with h | h
          · exact HB.out.1 q y h hy
          · obtain rfl : q = j := by omega
            rw [HM.out] at hy
            injection hy with hy
            subst hy
            exact HT.out
        case measure => simp [RowKit.intOf]; omega
    · have hjz : ¬ (j : Int) < vn := by omega
      go_wp2
      go_ret
      exact ⟨by rw [ixI_none fun q y hy => HB.out.1 q y (by have := (List.getElem?_eq_some_iff.1 hy).1; have := HN.out; omega) hy]; rfl, HB.out.2⟩
theorem has_words {w : World} {S : Nat → Prop} {va : Option Addr} {vn vc : Nat} {l : List Mv} {f : Mv → Bool} {c1 : Option Addr} (hr : RdS mvE w S (.slice va vn vc) l) (hS : ∀ k, S k → k < w.heap.size)
    (hF : ∀ V, Below w.heap.size w V → ∀ m : Mv, Calls Tryd.prog 42 #[.agg #[.string m.nm, .string m.fr, .string m.tt, .string m.wh, .int .i64 m.n, .int .i64 m.u, .int .i64 m.r, .int .i64 m.most], .pointer c1] V fun e w' => e = .returned (.bool (f m)) ∧ Below V.heap.size V w') :
    Calls Tryd.prog 28 #[.slice va vn vc, .func (.func 42) #[] #[.pointer c1]] w fun e w' => e = .returned (.bool (l.any f)) ∧ Below w.heap.size w w' := by
  have HC := hidLL (ix_words hr hS hF)
  have HA := hidLL (ixI_any f l)
  clear hr hS hF
  generalize ixI f l = ii at *
  generalize l.any f = aa at *
  go_enter Tryd.func28, Tryd.ntmps28
  go_wp2_with fail
  refine HC.out.mono ?_
  rintro e w2 ⟨rfl, hb2⟩
  have HB2 := hidLL hb2
  clear hb2
  go_wp2
  go_ret
  exact ⟨by rw [← HA.out]; rfl, HB2.out⟩
set_option maxHeartbeats 2000000 in
theorem ix_twice {w : World} {S : Nat → Prop} {va : Option Addr} {vn vc : Nat} {l : List Mv} {f : Mv → Bool} {c1 : Option Addr} (hr : RdS mvE w S (.slice va vn vc) l) (hS : ∀ k, S k → k < w.heap.size)
    (hF : ∀ V, Below w.heap.size w V → ∀ m : Mv, Calls Tryd.prog 43 #[.agg #[.string m.nm, .string m.fr, .string m.tt, .string m.wh, .int .i64 m.n, .int .i64 m.u, .int .i64 m.r, .int .i64 m.most], .pointer c1] V fun e w' => e = .returned (.bool (f m)) ∧ Below V.heap.size V w') :
    Calls Tryd.prog 34 #[.slice va vn vc, .func (.func 43) #[] #[.pointer c1]] w fun e w' => e = .returned (.int .i64 (ixI f l)) ∧ Below w.heap.size w w' := by
  have HF := hidLL hF
  have HR := hidLL (And.intro hr hS)
  obtain ⟨hvn, hbig⟩ := hr.len
  have HN := hidLL hvn
  clear hr hS hF hvn
  go_enter Tryd.func34, Tryd.ntmps34
  go_wp2_with fail
  go_loopw [8] (fun i wr => ∃ j : Nat, j ≤ vn ∧ i = .int .i64 j ∧ (∀ (q : Nat) y, q < j → l[q]? = some y → f y = false) ∧ Below w.heap.size w wr) (fun i _ => vn - (RowKit.intOf i).toNat)
  case atStart => exact ⟨0, by omega, rfl, fun q y hq => by omega, Below.refl _ _⟩
  case round =>
    obtain ⟨j, hj, rfl, hno, hb⟩ := hrel
    have HB := hidLL (And.intro hno hb)
    clear hno hb
    by_cases hlt : j < vn
    · have hjz : (j : Int) < vn := by omega
      obtain ⟨m, hm⟩ : ∃ m, l[j]? = some m := ⟨_, List.getElem?_eq_getElem (by have := HN.out; omega)⟩
      obtain ⟨g, o, rfl, hg, hrg⟩ := (HR.out.1.on (S' := S) fun k hk => ⟨hk, HB.out.2.block k (HR.out.2 k hk)⟩).at hm
      rw [show mvE.k = 8 from rfl] at hrg
      obtain ⟨y0, y1, y2, y3, y4, y5, y6, y7⟩ := mv_cells hrg
      have HC := hidLL (HF.out wr HB.out.2 m)
      have HM := hidLL hm
      clear hm hrg hg
      cases hfm : f m with
      | true =>
        rw [hfm] at HC
        have HT := hidLL hfm
        clear hfm
        go_wp2_with fail
        refine HC.out.mono ?_
        rintro e w2 ⟨rfl, hb2⟩
        have HB2 := hidLL (HB.out.2.trans (hb2.mono HB.out.2.size))
        clear hb2
        go_wp2
        go_ret
        exact ⟨by rw [ixI_some HM.out HT.out HB.out.1]; rfl, HB2.out⟩
      | false =>
        rw [hfm] at HC
        have HT := hidLL hfm
        clear hfm
        go_wp2_with fail
        refine HC.out.mono ?_
        rintro e w2 ⟨rfl, hb2⟩
        have HB2 := hidLL (HB.out.2.trans (hb2.mono HB.out.2.size))
        clear hb2
        go_wp2
        go_roundw
        case rel =>
          refine ⟨j + 1, by omega, by go_num, fun q y hq hy => ?_, HB2.out⟩
          rcases Nat.lt_or_ge q j with h | h
          · exact HB.out.1 q y h hy
          · obtain rfl : q = j := by omega
            rw [HM.out] at hy
            injection hy with hy
            subst hy
            exact HT.out
        case measure => simp [RowKit.intOf]; omega
    · have hjz : ¬ (j : Int) < vn := by omega
      go_wp2
      go_ret
      exact ⟨by rw [ixI_none fun q y hy => HB.out.1 q y (by have := (List.getElem?_eq_some_iff.1 hy).1; have := HN.out; omega) hy]; rfl, HB.out.2⟩
theorem has_twice {w : World} {S : Nat → Prop} {va : Option Addr} {vn vc : Nat} {l : List Mv} {f : Mv → Bool} {c1 : Option Addr} (hr : RdS mvE w S (.slice va vn vc) l) (hS : ∀ k, S k → k < w.heap.size)
    (hF : ∀ V, Below w.heap.size w V → ∀ m : Mv, Calls Tryd.prog 43 #[.agg #[.string m.nm, .string m.fr, .string m.tt, .string m.wh, .int .i64 m.n, .int .i64 m.u, .int .i64 m.r, .int .i64 m.most], .pointer c1] V fun e w' => e = .returned (.bool (f m)) ∧ Below V.heap.size V w') :
    Calls Tryd.prog 28 #[.slice va vn vc, .func (.func 43) #[] #[.pointer c1]] w fun e w' => e = .returned (.bool (l.any f)) ∧ Below w.heap.size w w' := by
  have HC := hidLL (ix_twice hr hS hF)
  have HA := hidLL (ixI_any f l)
  clear hr hS hF
  generalize ixI f l = ii at *
  generalize l.any f = aa at *
  go_enter Tryd.func28, Tryd.ntmps28
  go_wp2_with fail
  refine HC.out.mono ?_
  rintro e w2 ⟨rfl, hb2⟩
  have HB2 := hidLL hb2
  clear hb2
  go_wp2
  go_ret
  exact ⟨by rw [← HA.out]; rfl, HB2.out⟩
set_option maxHeartbeats 2000000 in
theorem ix_wrong {w : World} {S : Nat → Prop} {va : Option Addr} {vn vc : Nat} {l : List Mv} {f : Mv → Bool} {ps : ByteArray} {pf pm : SlV} (hr : RdS mvE w S (.slice va vn vc) l) (hS : ∀ k, S k → k < w.heap.size)
    (hF : ∀ V, Below w.heap.size w V → ∀ m : Mv, Calls Tryd.prog 29 #[.agg #[.string ps, .slice pf.a pf.n pf.c, .slice pm.a pm.n pm.c], .agg #[.string m.nm, .string m.fr, .string m.tt, .string m.wh, .int .i64 m.n, .int .i64 m.u, .int .i64 m.r, .int .i64 m.most]] V fun e w' => e = .returned (.bool (f m)) ∧ Below V.heap.size V w') :
    Calls Tryd.prog 34 #[.slice va vn vc, .func (.func 29) #[.agg #[.string ps, .slice pf.a pf.n pf.c, .slice pm.a pm.n pm.c]] #[]] w fun e w' => e = .returned (.int .i64 (ixI f l)) ∧ Below w.heap.size w w' := by
  have HF := hidLL hF
  have HR := hidLL (And.intro hr hS)
  obtain ⟨hvn, hbig⟩ := hr.len
  have HN := hidLL hvn
  clear hr hS hF hvn
  go_enter Tryd.func34, Tryd.ntmps34
  go_wp2_with fail
  go_loopw [8] (fun i wr => ∃ j : Nat, j ≤ vn ∧ i = .int .i64 j ∧ (∀ (q : Nat) y, q < j → l[q]? = some y → f y = false) ∧ Below w.heap.size w wr) (fun i _ => vn - (RowKit.intOf i).toNat)
  case atStart => exact ⟨0, by omega, rfl, fun q y hq => by omega, Below.refl _ _⟩
  case round =>
    obtain ⟨j, hj, rfl, hno, hb⟩ := hrel
    have HB := hidLL (And.intro hno hb)
    clear hno hb
    by_cases hlt : j < vn
    · have hjz : (j : Int) < vn := by omega
      obtain ⟨m, hm⟩ : ∃ m, l[j]? = some m := ⟨_, List.getElem?_eq_getElem (by have := HN.out; omega)⟩
      obtain ⟨g, o, rfl, hg, hrg⟩ := (HR.out.1.on (S' := S) fun k hk => ⟨hk, HB.out.2.block k (HR.out.2 k hk)⟩).at hm
      rw [show mvE.k = 8 from rfl] at hrg
      obtain ⟨y0, y1, y2, y3, y4, y5, y6, y7⟩ := mv_cells hrg
      have HC := hidLL (HF.out wr HB.out.2 m)
      have HM := hidLL hm
      clear hm hrg hg
      cases hfm : f m with
      | true =>
        rw [hfm] at HC
        have HT := hidLL hfm
        clear hfm
        go_wp2_with fail
        refine HC.out.mono ?_
        rintro e w2 ⟨rfl, hb2⟩
        have HB2 := hidLL (HB.out.2.trans (hb2.mono HB.out.2.size))
        clear hb2
        go_wp2
        go_ret
        exact ⟨by rw [ixI_some HM.out HT.out HB.out.1]; rfl, HB2.out⟩
      | false =>
        rw [hfm] at HC
        have HT := hidLL hfm
        clear hfm
        go_wp2_with fail
        refine HC.out.mono ?_
        rintro e w2 ⟨rfl, hb2⟩
        have HB2 := hidLL (HB.out.2.trans (hb2.mono HB.out.2.size))
        clear hb2
        go_wp2
        go_roundw
        case rel =>
          refine ⟨j + 1, by omega, by go_num, fun q y hq hy => ?_, HB2.out⟩
          rcases Nat.lt_or_ge q j with h | h
          · exact HB.out.1 q y h hy
          · obtain rfl : q = j := by omega
            rw [HM.out] at hy
            injection hy with hy
            subst hy
            exact HT.out
        case measure => simp [RowKit.intOf]; omega
    · have hjz : ¬ (j : Int) < vn := by omega
      go_wp2
      go_ret
      exact ⟨by rw [ixI_none fun q y hy => HB.out.1 q y (by have := (List.getElem?_eq_some_iff.1 hy).1; have := HN.out; omega) hy]; rfl, HB.out.2⟩
theorem has_wrong {w : World} {S : Nat → Prop} {va : Option Addr} {vn vc : Nat} {l : List Mv} {f : Mv → Bool} {ps : ByteArray} {pf pm : SlV} (hr : RdS mvE w S (.slice va vn vc) l) (hS : ∀ k, S k → k < w.heap.size)
    (hF : ∀ V, Below w.heap.size w V → ∀ m : Mv, Calls Tryd.prog 29 #[.agg #[.string ps, .slice pf.a pf.n pf.c, .slice pm.a pm.n pm.c], .agg #[.string m.nm, .string m.fr, .string m.tt, .string m.wh, .int .i64 m.n, .int .i64 m.u, .int .i64 m.r, .int .i64 m.most]] V fun e w' => e = .returned (.bool (f m)) ∧ Below V.heap.size V w') :
    Calls Tryd.prog 28 #[.slice va vn vc, .func (.func 29) #[.agg #[.string ps, .slice pf.a pf.n pf.c, .slice pm.a pm.n pm.c]] #[]] w fun e w' => e = .returned (.bool (l.any f)) ∧ Below w.heap.size w w' := by
  have HC := hidLL (ix_wrong hr hS hF)
  have HA := hidLL (ixI_any f l)
  clear hr hS hF
  generalize ixI f l = ii at *
  generalize l.any f = aa at *
  go_enter Tryd.func28, Tryd.ntmps28
  go_wp2_with fail
  refine HC.out.mono ?_
  rintro e w2 ⟨rfl, hb2⟩
  have HB2 := hidLL hb2
  clear hb2
  go_wp2
  go_ret
  exact ⟨by rw [← HA.out]; rfl, HB2.out⟩
end Go.Proofs.YtpijiglmjkdlgaaDoor
