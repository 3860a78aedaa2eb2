/-
  Facts: Add, a fact that is kept (written by tools/genfadd.py).
-/
import Derived.Test.YtagdenpmonedlaaDoorFMem
import Derived.Deep.RegionLaw
import Derived.Deep.DeepCutAuto
namespace Go.Proofs.YtagdenpmonedlaaDoor
open Go.RowKit Go.Extern.Stop Go.Stop Go.Extern

set_option maxHeartbeats 4000000 in
set_option maxRecDepth 20000 in
theorem rAdd_17 {b B n c : Nat} {w : World} {sa : Option Addr} (xw xo xv xf xl : Int) (xn : ByteArray) (L : List Fct) (hn0 : n = L.length) (h : FFile 36 B w b L (.slice sa n c)) (hB : B ≤ w.heap.size) (hn : ¬ 500 ≤ n) (hm : isWordB xn = true) (hk : perB xw = true) (ho : ¬ xo = -1) (hq : perB xo = true) (hw : ¬ xo = xw) (hv : valB xv = true) (hf : dyB xf = true) (hl : dyB xl = true) :
    Calls Tryd.prog 22 #[.pointer (some ⟨b, 0, none⟩), .agg #[.int .i64 xw, .string xn, .int .i64 xo, .int .i64 xv, .int .i64 xf, .int .i64 0, .int .i64 xl]] w fun e w' => e = .returned (.int .i64 0) ∧ ∃ v' w1 w2, w' = w2.setCell ⟨b, 0, none⟩ v' ∧ w2.ownsRow B 36 7 v' (n + 1) (fcells L ++ fctC ⟨xw, xn, xo, xv, xf, 0, xl⟩) ∧ Below w.heap.size w w1 ∧ w1.grownBy w2 (Value.slice sa n c).ownBlock := by
  have HW := hidLL (rIsWord_f xn)
  have HP := hidLL isBody_f
  have HV := hidLL small_f
  have HD := hidLL rIsDay_f
  have hnz : ¬ (500 : Int) ≤ n := by omega
  obtain ⟨i0, z, hi0, hz0, hz1, hz2, hz3⟩ := Tryd.infoFR
  have HI := hidLL (And.intro hi0 (And.intro hz0 (And.intro hz1 (And.intro hz2 hz3))))
  clear hi0 hz0 hz1 hz2 hz3
  have hc := h.cell
  have hf := h.frz
  have hlb := h.inH
  have HF := hidLL h
  have HN := hidLL hn0
  clear h hn0
  go_enter Tryd.func22, Tryd.ntmps22
  go_wp2_with (first | (go_at_call 34; refine (HW.out _).mono ?_; rintro e w' ⟨rfl, rfl⟩) | (go_at_call 35; refine (HP.out _ _).mono ?_; rintro e w' ⟨rfl, rfl⟩) | (go_at_call 36; refine (HV.out _ _).mono ?_; rintro e w' ⟨rfl, rfl⟩) | (go_at_call 37; refine (HD.out _ _).mono ?_; rintro e w' ⟨rfl, rfl⟩))
  have HB : Hid (Below w.heap.size w (w.alloc (.cells #[.int .i64 xw, .string xn, .int .i64 xo, .int .i64 xv, .int .i64 xf, .int .i64 0, .int .i64 xl] 36))) := (Below.refl _ _).alloc (Nat.le_refl _) _
  generalize hW : w.alloc (.cells #[.int .i64 xw, .string xn, .int .i64 xo, .int .i64 xv, .int .i64 xf, .int .i64 0, .int .i64 xl] 36) = W at *
  have hsW : W.heap.size = w.heap.size + 1 := by rw [← hW]; simp
  have x0 : W.cell? ⟨w.heap.size, 0, none⟩ = some (.int .i64 xw) := by rw [← hW]; simp
  have x1 : W.cell? ⟨w.heap.size, 1, none⟩ = some (.string xn) := by rw [← hW]; simp
  have x2 : W.cell? ⟨w.heap.size, 2, none⟩ = some (.int .i64 xo) := by rw [← hW]; simp
  have x3 : W.cell? ⟨w.heap.size, 3, none⟩ = some (.int .i64 xv) := by rw [← hW]; simp
  have x4 : W.cell? ⟨w.heap.size, 4, none⟩ = some (.int .i64 xf) := by rw [← hW]; simp
  have x5 : W.cell? ⟨w.heap.size, 5, none⟩ = some (.int .i64 0) := by rw [← hW]; simp
  have x6 : W.cell? ⟨w.heap.size, 6, none⟩ = some (.int .i64 xl) := by rw [← hW]; simp
  have cW := (HB.out.cell (p := ⟨b, 0, none⟩) hlb).trans hc
  have fW := (HB.out.frozen (p := ⟨b, 0, none⟩) hlb).trans hf
  clear hW
  have HKD : Hid (∀ W' : World, (∀ k, k < W.heap.size → W'.heap[k]? = W.heap[k]?) → W'.ownsRow B 36 7 (.slice sa n c) n (fcells L)) := fun W' hW' => by
    have h3 := HF.out.row
    unfold FAt at h3
    rw [← HN.out] at h3
    refine row_step h3 fun k _ hk => (hW' k (by omega)).trans (HB.out.block k hk)
  have HA : Hid (Below W.heap.size W (W.drew.alloc (.cells #[.int .i64 xw, .string xn, .int .i64 xo, .int .i64 xv, .int .i64 xf, .int .i64 0, .int .i64 xl] 36))) := (Below.refl _ _).drew.alloc (Nat.le_refl _) _
  have HNb : Hid (some b ≠ (Value.slice sa n c).ownBlock) := fun e => by
    have := (HF.out.row.block e.symm).1
    have := HF.out.lt
    omega
  have HNW := hidLL (fctNews W ⟨xw, xn, xo, xv, xf, 0, xl⟩ 36)
  have HOC := hidLL (fctOne ⟨xw, xn, xo, xv, xf, 0, xl⟩)
  have hBW : B ≤ W.heap.size := by omega
  go_region_law
    (first
      | (refine step_append_where rfl (.tmp 87) (.tmp 89) 22 rfl B 36 i0 z 7 64 Tryd.underlying22 HI.out.1 HI.out.2.1 HI.out.2.2.1 HI.out.2.2.2.1 HI.out.2.2.2.2 (by decide) (.slice sa n c) n (fcells L) (by first | (simp [Act.eval]; done) | simp [Act.eval, Act.put]) (HKD.out _ (fun k hk => Below.heap_alloc W.drew _ k hk)) ⟨W.heap.size, 0, none⟩ 1 1 (fctC ⟨xw, xn, xo, xv, xf, 0, xl⟩) (by first | (simp [Act.eval]; done) | simp [Act.eval, Act.put]) rfl HNW.out HOC.out (by decide) (by unfold maxLen; omega) (by omega) (by simp; omega) ?_
         intro v' w' ho hg hw
         have y3 := (grown_cell (a := ⟨b, 0, none⟩) HA.out hg (show b < W.heap.size by omega) HNb.out).1.trans cW
         have y4 := (grown_cell (a := ⟨b, 0, none⟩) HA.out hg (show b < W.heap.size by omega) HNb.out).2.trans fW
         obtain ⟨a', c', hv'⟩ := row_any ho
         subst hv'
         have HH := hidLL (And.intro ho hg)
         clear ho hg hw))
  all_goals
    go_wp2
    go_ret
    exact ⟨rfl, _, _, _, rfl, HH.out.1, HB.out.trans (HA.out.mono (by omega)), HH.out.2⟩
set_option maxHeartbeats 4000000 in
set_option maxRecDepth 20000 in
theorem rAdd_18 {b B n c : Nat} {w : World} {sa : Option Addr} (xw xo xv xf xt xl : Int) (xn : ByteArray) (L : List Fct) (hn0 : n = L.length) (h : FFile 36 B w b L (.slice sa n c)) (hB : B ≤ w.heap.size) (hn : ¬ 500 ≤ n) (hm : isWordB xn = true) (hk : perB xw = true) (ho : ¬ xo = -1) (hq : perB xo = true) (hw : ¬ xo = xw) (hv : valB xv = true) (hf : dyB xf = true) (hl : dyB xl = true) (ht : ¬ xt = 0) (hx : dyB xt = true) (hy : ¬ xt ≤ xf) :
    Calls Tryd.prog 22 #[.pointer (some ⟨b, 0, none⟩), .agg #[.int .i64 xw, .string xn, .int .i64 xo, .int .i64 xv, .int .i64 xf, .int .i64 xt, .int .i64 xl]] w fun e w' => e = .returned (.int .i64 0) ∧ ∃ v' w1 w2, w' = w2.setCell ⟨b, 0, none⟩ v' ∧ w2.ownsRow B 36 7 v' (n + 1) (fcells L ++ fctC ⟨xw, xn, xo, xv, xf, xt, xl⟩) ∧ Below w.heap.size w w1 ∧ w1.grownBy w2 (Value.slice sa n c).ownBlock := by
  have HW := hidLL (rIsWord_f xn)
  have HP := hidLL isBody_f
  have HV := hidLL small_f
  have HD := hidLL rIsDay_f
  have hnz : ¬ (500 : Int) ≤ n := by omega
  obtain ⟨i0, z, hi0, hz0, hz1, hz2, hz3⟩ := Tryd.infoFR
  have HI := hidLL (And.intro hi0 (And.intro hz0 (And.intro hz1 (And.intro hz2 hz3))))
  clear hi0 hz0 hz1 hz2 hz3
  have hc := h.cell
  have hf := h.frz
  have hlb := h.inH
  have HF := hidLL h
  have HN := hidLL hn0
  clear h hn0
  go_enter Tryd.func22, Tryd.ntmps22
  go_wp2_with (first | (go_at_call 34; refine (HW.out _).mono ?_; rintro e w' ⟨rfl, rfl⟩) | (go_at_call 35; refine (HP.out _ _).mono ?_; rintro e w' ⟨rfl, rfl⟩) | (go_at_call 36; refine (HV.out _ _).mono ?_; rintro e w' ⟨rfl, rfl⟩) | (go_at_call 37; refine (HD.out _ _).mono ?_; rintro e w' ⟨rfl, rfl⟩))
  have HB : Hid (Below w.heap.size w (w.alloc (.cells #[.int .i64 xw, .string xn, .int .i64 xo, .int .i64 xv, .int .i64 xf, .int .i64 xt, .int .i64 xl] 36))) := (Below.refl _ _).alloc (Nat.le_refl _) _
  generalize hW : w.alloc (.cells #[.int .i64 xw, .string xn, .int .i64 xo, .int .i64 xv, .int .i64 xf, .int .i64 xt, .int .i64 xl] 36) = W at *
  have hsW : W.heap.size = w.heap.size + 1 := by rw [← hW]; simp
  have x0 : W.cell? ⟨w.heap.size, 0, none⟩ = some (.int .i64 xw) := by rw [← hW]; simp
  have x1 : W.cell? ⟨w.heap.size, 1, none⟩ = some (.string xn) := by rw [← hW]; simp
  have x2 : W.cell? ⟨w.heap.size, 2, none⟩ = some (.int .i64 xo) := by rw [← hW]; simp
  have x3 : W.cell? ⟨w.heap.size, 3, none⟩ = some (.int .i64 xv) := by rw [← hW]; simp
  have x4 : W.cell? ⟨w.heap.size, 4, none⟩ = some (.int .i64 xf) := by rw [← hW]; simp
  have x5 : W.cell? ⟨w.heap.size, 5, none⟩ = some (.int .i64 xt) := by rw [← hW]; simp
  have x6 : W.cell? ⟨w.heap.size, 6, none⟩ = some (.int .i64 xl) := by rw [← hW]; simp
  have cW := (HB.out.cell (p := ⟨b, 0, none⟩) hlb).trans hc
  have fW := (HB.out.frozen (p := ⟨b, 0, none⟩) hlb).trans hf
  clear hW
  have HKD : Hid (∀ W' : World, (∀ k, k < W.heap.size → W'.heap[k]? = W.heap[k]?) → W'.ownsRow B 36 7 (.slice sa n c) n (fcells L)) := fun W' hW' => by
    have h3 := HF.out.row
    unfold FAt at h3
    rw [← HN.out] at h3
    refine row_step h3 fun k _ hk => (hW' k (by omega)).trans (HB.out.block k hk)
  have HA : Hid (Below W.heap.size W (W.drew.alloc (.cells #[.int .i64 xw, .string xn, .int .i64 xo, .int .i64 xv, .int .i64 xf, .int .i64 xt, .int .i64 xl] 36))) := (Below.refl _ _).drew.alloc (Nat.le_refl _) _
  have HNb : Hid (some b ≠ (Value.slice sa n c).ownBlock) := fun e => by
    have := (HF.out.row.block e.symm).1
    have := HF.out.lt
    omega
  have HNW := hidLL (fctNews W ⟨xw, xn, xo, xv, xf, xt, xl⟩ 36)
  have HOC := hidLL (fctOne ⟨xw, xn, xo, xv, xf, xt, xl⟩)
  have hBW : B ≤ W.heap.size := by omega
  go_region_law
    (first
      | (refine step_append_where rfl (.tmp 87) (.tmp 89) 22 rfl B 36 i0 z 7 64 Tryd.underlying22 HI.out.1 HI.out.2.1 HI.out.2.2.1 HI.out.2.2.2.1 HI.out.2.2.2.2 (by decide) (.slice sa n c) n (fcells L) (by first | (simp [Act.eval]; done) | simp [Act.eval, Act.put]) (HKD.out _ (fun k hk => Below.heap_alloc W.drew _ k hk)) ⟨W.heap.size, 0, none⟩ 1 1 (fctC ⟨xw, xn, xo, xv, xf, xt, xl⟩) (by first | (simp [Act.eval]; done) | simp [Act.eval, Act.put]) rfl HNW.out HOC.out (by decide) (by unfold maxLen; omega) (by omega) (by simp; omega) ?_
         intro v' w' ho hg hw
         have y3 := (grown_cell (a := ⟨b, 0, none⟩) HA.out hg (show b < W.heap.size by omega) HNb.out).1.trans cW
         have y4 := (grown_cell (a := ⟨b, 0, none⟩) HA.out hg (show b < W.heap.size by omega) HNb.out).2.trans fW
         obtain ⟨a', c', hv'⟩ := row_any ho
         subst hv'
         have HH := hidLL (And.intro ho hg)
         clear ho hg hw))
  all_goals
    go_wp2
    go_ret
    exact ⟨rfl, _, _, _, rfl, HH.out.1, HB.out.trans (HA.out.mono (by omega)), HH.out.2⟩
end Go.Proofs.YtagdenpmonedlaaDoor
