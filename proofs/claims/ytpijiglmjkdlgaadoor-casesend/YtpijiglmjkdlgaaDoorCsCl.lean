/-
  Cases: slices.Clone of strings, moves, steps (written by tools/gencscl.py).
-/
import Derived.Test.YtpijiglmjkdlgaaDoorCsVal
import Derived.Test.YtpijiglmjkdlgaaDoorKA
import Derived.Test.YtpijiglmjkdlgaaDoorBel1
import Derived.Lib.LazyBuf
namespace Go.Proofs.YtpijiglmjkdlgaaDoor
open Go.RowKit

theorem Tryd.infoMv : ∃ i z, Tryd.prog.info? 57 = some i ∧ i.zero = some z ∧ i.size = mvE.k ∧ i.bytes = 96 ∧ z.cells.size = mvE.k := by
  have h : (Tryd.prog.info? 57).map (fun i => (i.zero, i.size, i.bytes)) = some (some (.agg #[.string ⟨#[]⟩, .string ⟨#[]⟩, .string ⟨#[]⟩, .string ⟨#[]⟩, .int .i64 0, .int .i64 0, .int .i64 0, .int .i64 0]), 8, 96) := by kernel_rfl
  obtain ⟨i, h1, h2⟩ := Option.map_eq_some_iff.1 h
  simp only [Prod.mk.injEq] at h2
  exact ⟨i, _, h1, h2.1, h2.2.1, h2.2.2, rfl⟩
theorem Tryd.infoSr : ∃ i z, Tryd.prog.info? 9 = some i ∧ i.zero = some z ∧ i.size = strE.k ∧ i.bytes = 16 ∧ z.cells.size = strE.k := by
  have h : (Tryd.prog.info? 9).map (fun i => (i.zero, i.size, i.bytes)) = some (some (.string ⟨#[]⟩), 1, 16) := by kernel_rfl
  obtain ⟨i, h1, h2⟩ := Option.map_eq_some_iff.1 h
  simp only [Prod.mk.injEq] at h2
  exact ⟨i, _, h1, h2.1, h2.2.1, h2.2.2, rfl⟩
/-- A row of none, which has just been laid. -/
theorem row_zero {α : Type} (E : Enc α) (T : Nat) (w : World) : RowG E T (w.alloc (.cells #[] T)) w.heap.size (.slice (some ⟨w.heap.size, 0, none⟩) 0 0) [] :=
  ⟨⟨by simp [Enc.all], .inr ⟨w.heap.size, 0, #[], rfl, Nat.le_refl _, Go.Deep.blk_alloc_new w _, Nat.le_refl _, by unfold maxLen; omega, by simp, by simp [Enc.all]⟩⟩, by simp⟩
/-- The cells of what can be read, one behind the other. -/
theorem RdS.cells {α : Type} {E : Enc α} {w : World} {S : Nat → Prop} {n c : Nat} {ad : Addr} {l : List α} (h : RdS E w S (.slice (some ad) n c) l) : ∀ j u, (E.all l)[j]? = some u → w.cell? (ad.add j) = some u := fun j u hu => by
  have hj : j < l.length * E.k := by
    have := (List.getElem?_eq_some_iff.1 hu).1
    rwa [E.all_len] at this
  have hk := E.pos
  have hi : j / E.k < l.length := Nat.div_lt_of_lt_mul (by rw [Nat.mul_comm]; exact hj)
  obtain ⟨g, o, e, _, hr⟩ := h.at (List.getElem?_eq_getElem hi)
  injection e with e
  subst e
  have hm : j % E.k < (E.f l[j / E.k]).length := by rw [E.len]; exact Nat.mod_lt _ hk
  have h1 := E.all_get l (j / E.k) _ (List.getElem?_eq_getElem hi) (j % E.k) _ (List.getElem?_eq_getElem hm)
  have hdm : j / E.k * E.k + j % E.k = j := by rw [Nat.mul_comm]; exact Nat.div_add_mod j E.k
  rw [hdm, hu] at h1
  have h2 := hr (j % E.k) _ (List.getElem?_eq_getElem hm)
  rw [addo, ← hdm, ← Nat.add_assoc]
  rw [h2]
  exact h1.symm
/-- What a clone is. -/
def CloR {α : Type} (E : Enc α) (T : Nat) (w : World) (ls : List α) (e : Ending) (w' : World) : Prop := (∃ a m c, e = .returned (.slice a m c) ∧ RowG E T w' w.heap.size (.slice a m c) ls) ∧ Below w.heap.size w w'
set_option maxHeartbeats 1000000 in
set_option maxRecDepth 20000 in
theorem clone_s {n c : Nat} {a : Option Addr} {ls : List ByteArray} {w : World} (h : RdS strE w (· < w.heap.size) (.slice a n c) ls) (hn4 : n ≤ 1000000) :
    Calls Tryd.prog 15 #[.slice a n c] w (CloR strE 9 w ls) := by
  obtain ⟨hn, hbig⟩ := h.len
  cases a with
  | none =>
    have hl : ls = [] := by
      cases ls with
      | nil => rfl
      | cons x ls =>
        obtain ⟨_, _, e, _⟩ := h.at (j := 0) rfl
        cases e
    subst hl
    obtain rfl : n = 0 := hn
    clear h
    have hnil := fun (w : World) (a : Option Addr) (l c : Nat) => Go.run_eql_slice_nil (P := Tryd.prog) w 23 9 a l c Tryd.underlying23
    go_enter Tryd.func15, Tryd.ntmps15
    go_wp2
    go_ret
    exact ⟨⟨_, _, _, rfl, RowG.nil _ _⟩, Below.refl _ _⟩
  | some ad =>
    have HC : Hid (∀ ob j u, (strE.all ls)[j]? = some u → (w.alloc ob).cell? (ad.add j) = some u) := fun ob => (h.below (bel1 w ob)).cells
    obtain ⟨i0, z, h1, h2, h3, h4, h5⟩ := Tryd.infoSr
    have HI := hidLL (And.intro h1 (And.intro h2 (And.intro h3 (And.intro h4 h5))))
    have HN := hidLL hn
    clear h hn h1 h2 h3 h4 h5
    have hnil := fun (w : World) (a : Option Addr) (l c : Nat) => Go.run_eql_slice_nil (P := Tryd.prog) w 23 9 a l c Tryd.underlying23
    go_enter Tryd.func15, Tryd.ntmps15
    go_wp2_with (at_builtin; refine wpList_append_own_at _ rfl (.tmp 5) (.tmp 6) 23 rfl w.heap.size 9 i0 z strE.k 16 Tryd.underlying23 HI.out.1 HI.out.2.1 HI.out.2.2.1 HI.out.2.2.2.1 HI.out.2.2.2.2 strE.pos (.slice (some ⟨w.heap.size, 0, none⟩) 0 0) 0 [] rfl (row_zero strE _ w).row ad n c (strE.all ls) rfl (by rw [strE.all_len, HN.out]) (HC.out _) (strE.all_one ls) (by unfold maxLen; omega) (by omega) (by simp) ?_; intro v' w' hown hgrow _ _; obtain ⟨pa, pn, pc, rfl⟩ : ∃ pa pn pc, v' = .slice pa pn pc := (by rcases hown.2 with ⟨e, _⟩ | ⟨_, _, _, e, _⟩; exact ⟨_, _, _, e⟩; exact ⟨_, _, _, e⟩); have HR := hidLL (And.intro hown hgrow); clear hown hgrow)
    go_ret
    obtain ⟨h1, h2⟩ := HR.out
    refine ⟨⟨_, _, _, rfl, ⟨?_, by have := HN.out; omega⟩⟩, (bel1 w _).grown h2 (by simp) (fun k hk => by injection hk with hk; subst hk; exact Nat.le_refl _)⟩
    rw [← HN.out]
    rw [Nat.zero_add, List.nil_append] at h1
    exact h1
set_option maxHeartbeats 1000000 in
set_option maxRecDepth 20000 in
theorem clone_m {n c : Nat} {a : Option Addr} {ls : List Mv} {w : World} (h : RdS mvE w (· < w.heap.size) (.slice a n c) ls) (hn4 : n ≤ 1000000) :
    Calls Tryd.prog 16 #[.slice a n c] w (CloR mvE 57 w ls) := by
  obtain ⟨hn, hbig⟩ := h.len
  cases a with
  | none =>
    have hl : ls = [] := by
      cases ls with
      | nil => rfl
      | cons x ls =>
        obtain ⟨_, _, e, _⟩ := h.at (j := 0) rfl
        cases e
    subst hl
    obtain rfl : n = 0 := hn
    clear h
    have hnil := fun (w : World) (a : Option Addr) (l c : Nat) => Go.run_eql_slice_nil (P := Tryd.prog) w 31 57 a l c Tryd.underlying31
    go_enter Tryd.func16, Tryd.ntmps16
    go_wp2
    go_ret
    exact ⟨⟨_, _, _, rfl, RowG.nil _ _⟩, Below.refl _ _⟩
  | some ad =>
    have HC : Hid (∀ ob j u, (mvE.all ls)[j]? = some u → (w.alloc ob).cell? (ad.add j) = some u) := fun ob => (h.below (bel1 w ob)).cells
    obtain ⟨i0, z, h1, h2, h3, h4, h5⟩ := Tryd.infoMv
    have HI := hidLL (And.intro h1 (And.intro h2 (And.intro h3 (And.intro h4 h5))))
    have HN := hidLL hn
    clear h hn h1 h2 h3 h4 h5
    have hnil := fun (w : World) (a : Option Addr) (l c : Nat) => Go.run_eql_slice_nil (P := Tryd.prog) w 31 57 a l c Tryd.underlying31
    go_enter Tryd.func16, Tryd.ntmps16
    go_wp2_with (at_builtin; refine wpList_append_own_at _ rfl (.tmp 5) (.tmp 6) 31 rfl w.heap.size 57 i0 z mvE.k 96 Tryd.underlying31 HI.out.1 HI.out.2.1 HI.out.2.2.1 HI.out.2.2.2.1 HI.out.2.2.2.2 mvE.pos (.slice (some ⟨w.heap.size, 0, none⟩) 0 0) 0 [] rfl (row_zero mvE _ w).row ad n c (mvE.all ls) rfl (by rw [mvE.all_len, HN.out]) (HC.out _) (mvE.all_one ls) (by unfold maxLen; omega) (by omega) (by simp) ?_; intro v' w' hown hgrow _ _; obtain ⟨pa, pn, pc, rfl⟩ : ∃ pa pn pc, v' = .slice pa pn pc := (by rcases hown.2 with ⟨e, _⟩ | ⟨_, _, _, e, _⟩; exact ⟨_, _, _, e⟩; exact ⟨_, _, _, e⟩); have HR := hidLL (And.intro hown hgrow); clear hown hgrow)
    go_ret
    obtain ⟨h1, h2⟩ := HR.out
    refine ⟨⟨_, _, _, rfl, ⟨?_, by have := HN.out; omega⟩⟩, (bel1 w _).grown h2 (by simp) (fun k hk => by injection hk with hk; subst hk; exact Nat.le_refl _)⟩
    rw [← HN.out]
    rw [Nat.zero_add, List.nil_append] at h1
    exact h1
set_option maxHeartbeats 1000000 in
set_option maxRecDepth 20000 in
theorem clone_t {n c : Nat} {a : Option Addr} {ls : List Stp} {w : World} (h : RdS stE w (· < w.heap.size) (.slice a n c) ls) (hn4 : n ≤ 1000000) :
    Calls Tryd.prog 24 #[.slice a n c] w (CloR stE 46 w ls) := by
  obtain ⟨hn, hbig⟩ := h.len
  cases a with
  | none =>
    have hl : ls = [] := by
      cases ls with
      | nil => rfl
      | cons x ls =>
        obtain ⟨_, _, e, _⟩ := h.at (j := 0) rfl
        cases e
    subst hl
    obtain rfl : n = 0 := hn
    clear h
    have hnil := fun (w : World) (a : Option Addr) (l c : Nat) => Go.run_eql_slice_nil (P := Tryd.prog) w 47 46 a l c Tryd.underlying47
    go_enter Tryd.func24, Tryd.ntmps24
    go_wp2
    go_ret
    exact ⟨⟨_, _, _, rfl, RowG.nil _ _⟩, Below.refl _ _⟩
  | some ad =>
    have HC : Hid (∀ ob j u, (stE.all ls)[j]? = some u → (w.alloc ob).cell? (ad.add j) = some u) := fun ob => (h.below (bel1 w ob)).cells
    obtain ⟨i0, z, h1, h2, h3, h4, h5⟩ := Tryd.infoSt
    have HI := hidLL (And.intro h1 (And.intro h2 (And.intro h3 (And.intro h4 h5))))
    have HN := hidLL hn
    clear h hn h1 h2 h3 h4 h5
    have hnil := fun (w : World) (a : Option Addr) (l c : Nat) => Go.run_eql_slice_nil (P := Tryd.prog) w 47 46 a l c Tryd.underlying47
    go_enter Tryd.func24, Tryd.ntmps24
    go_wp2_with (at_builtin; refine wpList_append_own_at _ rfl (.tmp 5) (.tmp 6) 47 rfl w.heap.size 46 i0 z stE.k 40 Tryd.underlying47 HI.out.1 HI.out.2.1 HI.out.2.2.1 HI.out.2.2.2.1 HI.out.2.2.2.2 stE.pos (.slice (some ⟨w.heap.size, 0, none⟩) 0 0) 0 [] rfl (row_zero stE _ w).row ad n c (stE.all ls) rfl (by rw [stE.all_len, HN.out]) (HC.out _) (stE.all_one ls) (by unfold maxLen; omega) (by omega) (by simp) ?_; intro v' w' hown hgrow _ _; obtain ⟨pa, pn, pc, rfl⟩ : ∃ pa pn pc, v' = .slice pa pn pc := (by rcases hown.2 with ⟨e, _⟩ | ⟨_, _, _, e, _⟩; exact ⟨_, _, _, e⟩; exact ⟨_, _, _, e⟩); have HR := hidLL (And.intro hown hgrow); clear hown hgrow)
    go_ret
    obtain ⟨h1, h2⟩ := HR.out
    refine ⟨⟨_, _, _, rfl, ⟨?_, by have := HN.out; omega⟩⟩, (bel1 w _).grown h2 (by simp) (fun k hk => by injection hk with hk; subst hk; exact Nat.le_refl _)⟩
    rw [← HN.out]
    rw [Nat.zero_add, List.nil_append] at h1
    exact h1
end Go.Proofs.YtpijiglmjkdlgaaDoor
