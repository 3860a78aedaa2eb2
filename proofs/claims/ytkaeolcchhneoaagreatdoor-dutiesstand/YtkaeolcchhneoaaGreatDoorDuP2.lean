/-
  Duties, the program: the state of one.
-/
import Derived.Test.YtkaeolcchhneoaaGreatDoorDuP1
namespace Go.Proofs.YtkaeolcchhneoaaGreatDoor
open Go.RowKit

def zSt : List Value := [.string ByteArray.empty, .string ByteArray.empty, .int .i64 0, .int .i64 0, .string ByteArray.empty, .int .i64 0, .int .i64 0, .int .i64 0, .int .i64 0, .int .i64 0, .int .i64 0]
/-- The boxes of 'state': what was done, the duty, the result, the state. -/
structure SBox (w W : World) (ps : List Value) (d : Du) (r s : List Value) : Prop where
  p : PBox w W ps d
  r : W.rangeAt (w.heap.size + 2) 0 r
  s : W.rangeAt (w.heap.size + 3) 0 s
  fr : ∀ k, W.frozen? ⟨w.heap.size + 2, k, none⟩ = false
  fs : ∀ k, W.frozen? ⟨w.heap.size + 3, k, none⟩ = false
  lt : w.heap.size + 4 ≤ W.heap.size
theorem SBox.mk' (w : World) (ps : List Value) (d : Du) (r s : List Value) (T1 T2 T3 T4 : Nat) : SBox w ((((w.alloc (.cells ps.toArray T1)).alloc (.cells (duE.f d).toArray T2)).alloc (.cells r.toArray T3)).alloc (.cells s.toArray T4)) ps d r s := by
  have h1 := PBox.mk' w ps d T1 T2
  have h2 := h1.on (bel1 _ (.cells r.toArray T3))
  have h3 := h2.on (bel1 _ (.cells s.toArray T4))
  have hs : ((w.alloc (.cells ps.toArray T1)).alloc (.cells (duE.f d).toArray T2)).heap.size = w.heap.size + 2 := by simp
  generalize (w.alloc (.cells ps.toArray T1)).alloc (.cells (duE.f d).toArray T2) = W at *
  have hs2 : (W.alloc (.cells r.toArray T3)).heap.size = w.heap.size + 3 := by simp [hs]
  refine ⟨h3, ?_, ?_, fun k => ?_, fun k => ?_, by simp [hs]⟩
  · have := alloc_range W r T3
    rw [hs] at this
    exact range_bel this (bel1 _ _) (by rw [hs2]; omega)
  · have := alloc_range (W.alloc (.cells r.toArray T3)) s T4
    rw [hs2] at this
    exact this
  · have h4 := (bel1 (W.alloc (.cells r.toArray T3)) (.cells s.toArray T4)).frozen (p := ⟨w.heap.size + 2, k, none⟩) (by show w.heap.size + 2 < _; rw [hs2]; omega)
    rw [h4]
    have := frozen_of_row (W.alloc (.cells r.toArray T3)) W.heap.size k r.toArray T3 (Go.Deep.blk_alloc_new W _)
    rw [hs] at this
    exact this
  · have := frozen_of_row ((W.alloc (.cells r.toArray T3)).alloc (.cells s.toArray T4)) (W.alloc (.cells r.toArray T3)).heap.size k s.toArray T4 (Go.Deep.blk_alloc_new _ _)
    rw [hs2] at this
    exact this
theorem SBox.on {w W W' : World} {ps : List Value} {d : Du} {r s : List Value} (h : SBox w W ps d r s) (hb : Below W.heap.size W W') : SBox w W' ps d r s := by
  have hl := h.lt
  exact ⟨h.p.on hb, range_bel h.r hb (by omega), range_bel h.s hb (by omega), fun k => (hb.frozen (p := ⟨w.heap.size + 2, k, none⟩) (show w.heap.size + 2 < _ by omega)).trans (h.fr k), fun k => (hb.frozen (p := ⟨w.heap.size + 3, k, none⟩) (show w.heap.size + 3 < _ by omega)).trans (h.fs k), Nat.le_trans h.lt hb.size⟩
variable {d : Du} {of on a1 b1 : Int} {a2 b2 : Bool}
theorem so1 (h1 : b2 = true) (h2 : a2 = true) (h3 : b1 ≤ a1) : stOf d of on (a1, a2) (b1, b2) = ⟨d, 4, b1, of⟩ := by subst h1 h2; simp [stOf, h3]
theorem so2 (h1 : b2 = true) (h2 : a2 = true) (h3 : a1 < b1) (h4 : a1 ≤ d.til) : stOf d of on (a1, a2) (b1, b2) = ⟨d, 1, a1, of⟩ := by subst h1 h2; simp [stOf, show ¬ b1 ≤ a1 by omega, h4]
theorem so3 (h1 : b2 = true) (h2 : a2 = true) (h3 : a1 < b1) (h4 : d.til < a1) : stOf d of on (a1, a2) (b1, b2) = ⟨d, 2, a1, of⟩ := by subst h1 h2; simp [stOf, show ¬ b1 ≤ a1 by omega, show ¬ a1 ≤ d.til by omega]
theorem so4 (h1 : b2 = true) (h2 : ¬ a2 = true) : stOf d of on (a1, a2) (b1, b2) = ⟨d, 4, b1, of⟩ := by obtain rfl := Bool.eq_false_iff.2 h2; subst h1; simp [stOf]
theorem so5 (h1 : ¬ b2 = true) (h2 : a2 = true) (h4 : a1 ≤ d.til) : stOf d of on (a1, a2) (b1, b2) = ⟨d, 1, a1, of⟩ := by obtain rfl := Bool.eq_false_iff.2 h1; subst h2; simp [stOf, h4]
theorem so6 (h1 : ¬ b2 = true) (h2 : a2 = true) (h4 : d.til < a1) : stOf d of on (a1, a2) (b1, b2) = ⟨d, 2, a1, of⟩ := by obtain rfl := Bool.eq_false_iff.2 h1; subst h2; simp [stOf, show ¬ a1 ≤ d.til by omega]
theorem so7 (h1 : ¬ b2 = true) (h2 : ¬ a2 = true) (h4 : d.til < on) : stOf d of on (a1, a2) (b1, b2) = ⟨d, 3, d.til + 1, of⟩ := by obtain rfl := Bool.eq_false_iff.2 h1; obtain rfl := Bool.eq_false_iff.2 h2; simp [stOf, h4]
theorem so8 (h1 : ¬ b2 = true) (h2 : ¬ a2 = true) (h4 : on ≤ d.til) : stOf d of on (a1, a2) (b1, b2) = ⟨d, 0, d.frm, of⟩ := by obtain rfl := Bool.eq_false_iff.2 h1; obtain rfl := Bool.eq_false_iff.2 h2; simp [stOf, show ¬ d.til < on by omega]
theorem bel13 {B bs br i j : Nat} {w W : World} (h : Below B w W) (hs : B ≤ bs) (hr : B ≤ br) (u v v0 v1 v2 v3 v4 v5 v6 v7 v8 v9 v10 : Value) : Below B w (((((((((((((W.setCell ⟨bs, i, none⟩ u).setCell ⟨bs, j, none⟩ v).setCell ⟨br, 0, none⟩ v0).setCell ⟨br, 1, none⟩ v1).setCell ⟨br, 2, none⟩ v2).setCell ⟨br, 3, none⟩ v3).setCell ⟨br, 4, none⟩ v4).setCell ⟨br, 5, none⟩ v5).setCell ⟨br, 6, none⟩ v6).setCell ⟨br, 7, none⟩ v7).setCell ⟨br, 8, none⟩ v8).setCell ⟨br, 9, none⟩ v9).setCell ⟨br, 10, none⟩ v10) := ((((((((((((h.setCell hs _).setCell hs _).setCell hr _).setCell hr _).setCell hr _).setCell hr _).setCell hr _).setCell hr _).setCell hr _).setCell hr _).setCell hr _).setCell hr _).setCell hr _
theorem retSt {S S' : St} (h : S = S') : Ending.returned (.agg (stE.f S').toArray) = Ending.returned (.agg (stE.f S).toArray) := by rw [h]
set_option maxHeartbeats 4000000 in
set_option maxRecDepth 10000 in
theorem state_p {B n c : Nat} {a : Option Addr} {ev : List Ev} {w : World} (d : Du) (of on : Int) (h : RdG evE w B (.slice a n c) ev) (hB : B ≤ w.heap.size) (hon : on ≤ 1000000000) (htil : -1000000000 ≤ d.til) :
    Calls Tryz.prog 32 #[.agg #[.slice a n c, .int .i64 on], .agg (duE.f d).toArray, .int .i64 of] w fun e w' => e = .returned (.agg (stE.f (stOf d of on (fst0 d false ev) (fst0 d true ev))).toArray) ∧ Below w.heap.size w w' := by
  have HF : Hid (∀ W, Below w.heap.size w W → Calls Tryz.prog 43 #[.agg #[.slice a n c, .int .i64 on], .agg (duE.f d).toArray, .bool false] W fun e w' => e = .returned (.tuple #[.int .i64 (fst0 d false ev).1, .bool (fst0 d false ev).2]) ∧ Below W.heap.size W w') := fun W hW => first_p d false on (h.below (hW.mono hB)) (Nat.le_trans hB hW.size)
  have HT : Hid (∀ W, Below w.heap.size w W → Calls Tryz.prog 43 #[.agg #[.slice a n c, .int .i64 on], .agg (duE.f d).toArray, .bool true] W fun e w' => e = .returned (.tuple #[.int .i64 (fst0 d true ev).1, .bool (fst0 d true ev).2]) ∧ Below W.heap.size W w') := fun W hW => first_p d true on (h.below (hW.mono hB)) (Nat.le_trans hB hW.size)
  have HX := hidIt (SBox.mk' w [.slice a n c, .int .i64 on] d zSt [.string d.nm, .string d.who, .int .i64 d.frm, .int .i64 d.til, .string d.els, .int .i64 d.n, .int .i64 d.u, .int .i64 d.r, .int .i64 0, .int .i64 0, .int .i64 of] 72 57 59 59)
  generalize fst0 d false ev = A at *
  generalize fst0 d true ev = C at *
  obtain ⟨dn, dw, df, dt, de, dN, dU, dR⟩ := d
  obtain ⟨a1, a2⟩ := A
  obtain ⟨b1, b2⟩ := C
  simp only at htil
  obtain ⟨S, hS⟩ : ∃ S, S = stOf ⟨dn, dw, df, dt, de, dN, dU, dR⟩ of on (a1, a2) (b1, b2) := ⟨_, rfl⟩
  rw [← hS]
  have HS := hidIt hS
  clear h hS
  show Calls Tryz.prog 32 #[.agg #[.slice a n c, .int .i64 on], .agg #[.string dn, .string dw, .int .i64 df, .int .i64 dt, .string de, .int .i64 dN, .int .i64 dU, .int .i64 dR], .int .i64 of] w _
  go_enter Tryz.func32, Tryz.ntmps32
  go_wp2_with fail
  refine (HF.out _ HX.out.p.bel).mono ?_
  rintro e w1 ⟨rfl, hb⟩
  have HX1 := hidIt (HX.out.on hb)
  clear hb
  have p0 := HX1.out.p.p 0 _ rfl
  have p1 : w1.cell? ⟨w.heap.size, 1, none⟩ = some (.int .i64 on) := HX1.out.p.p 1 _ rfl
  obtain ⟨q0, q1, q2, q3, q4, q5, q6, q7⟩ := du_cells0 HX1.out.p.d
  simp only at p0 q0 q1 q2 q3 q4 q5 q6 q7
  go_wp2_with fail
  refine (HT.out _ HX1.out.p.bel).mono ?_
  rintro e w2 ⟨rfl, hb⟩
  have HX2 := hidIt (HX1.out.on hb)
  clear hb p0 p1 q0 q1 q2 q3 q4 q5 q6 q7
  have p1 : w2.cell? ⟨w.heap.size, 1, none⟩ = some (.int .i64 on) := HX2.out.p.p 1 _ rfl
  obtain ⟨q0, q1, q2, q3, q4, q5, q6, q7⟩ := du_cells0 HX2.out.p.d
  simp only at q0 q1 q2 q3 q4 q5 q6 q7
  have s0 : w2.cell? ⟨w.heap.size + 1 + 1 + 1, 0, none⟩ = some (.string dn) := HX2.out.s 0 _ rfl
  have s1 : w2.cell? ⟨w.heap.size + 1 + 1 + 1, 1, none⟩ = some (.string dw) := HX2.out.s 1 _ rfl
  have s2 : w2.cell? ⟨w.heap.size + 1 + 1 + 1, 2, none⟩ = some (.int .i64 df) := HX2.out.s 2 _ rfl
  have s3 : w2.cell? ⟨w.heap.size + 1 + 1 + 1, 3, none⟩ = some (.int .i64 dt) := HX2.out.s 3 _ rfl
  have s4 : w2.cell? ⟨w.heap.size + 1 + 1 + 1, 4, none⟩ = some (.string de) := HX2.out.s 4 _ rfl
  have s5 : w2.cell? ⟨w.heap.size + 1 + 1 + 1, 5, none⟩ = some (.int .i64 dN) := HX2.out.s 5 _ rfl
  have s6 : w2.cell? ⟨w.heap.size + 1 + 1 + 1, 6, none⟩ = some (.int .i64 dU) := HX2.out.s 6 _ rfl
  have s7 : w2.cell? ⟨w.heap.size + 1 + 1 + 1, 7, none⟩ = some (.int .i64 dR) := HX2.out.s 7 _ rfl
  have s8 : w2.cell? ⟨w.heap.size + 1 + 1 + 1, 8, none⟩ = some (.int .i64 0) := HX2.out.s 8 _ rfl
  have s9 : w2.cell? ⟨w.heap.size + 1 + 1 + 1, 9, none⟩ = some (.int .i64 0) := HX2.out.s 9 _ rfl
  have s10 : w2.cell? ⟨w.heap.size + 1 + 1 + 1, 10, none⟩ = some (.int .i64 of) := HX2.out.s 10 _ rfl
  have r0 : w2.cell? ⟨w.heap.size + 1 + 1, 0, none⟩ = some (.string ByteArray.empty) := HX2.out.r 0 _ rfl
  have r1 : w2.cell? ⟨w.heap.size + 1 + 1, 1, none⟩ = some (.string ByteArray.empty) := HX2.out.r 1 _ rfl
  have r2 : w2.cell? ⟨w.heap.size + 1 + 1, 2, none⟩ = some (.int .i64 0) := HX2.out.r 2 _ rfl
  have r3 : w2.cell? ⟨w.heap.size + 1 + 1, 3, none⟩ = some (.int .i64 0) := HX2.out.r 3 _ rfl
  have r4 : w2.cell? ⟨w.heap.size + 1 + 1, 4, none⟩ = some (.string ByteArray.empty) := HX2.out.r 4 _ rfl
  have r5 : w2.cell? ⟨w.heap.size + 1 + 1, 5, none⟩ = some (.int .i64 0) := HX2.out.r 5 _ rfl
  have r6 : w2.cell? ⟨w.heap.size + 1 + 1, 6, none⟩ = some (.int .i64 0) := HX2.out.r 6 _ rfl
  have r7 : w2.cell? ⟨w.heap.size + 1 + 1, 7, none⟩ = some (.int .i64 0) := HX2.out.r 7 _ rfl
  have r8 : w2.cell? ⟨w.heap.size + 1 + 1, 8, none⟩ = some (.int .i64 0) := HX2.out.r 8 _ rfl
  have r9 : w2.cell? ⟨w.heap.size + 1 + 1, 9, none⟩ = some (.int .i64 0) := HX2.out.r 9 _ rfl
  have r10 : w2.cell? ⟨w.heap.size + 1 + 1, 10, none⟩ = some (.int .i64 0) := HX2.out.r 10 _ rfl
  have fr : ∀ k, w2.frozen? ⟨w.heap.size + 1 + 1, k, none⟩ = false := HX2.out.fr
  have fs : ∀ k, w2.frozen? ⟨w.heap.size + 1 + 1 + 1, k, none⟩ = false := HX2.out.fs
  go_wp2_with fail
  rotate_right 2
  · go_region
    all_goals go_wp2
    refine bodyPost_ret (v := .agg #[.string dn, .string dw, .int .i64 df, .int .i64 dt, .string de, .int .i64 dN, .int .i64 dU, .int .i64 dR, .int .i64 3, .int .i64 (dt + 1), .int .i64 of]) (by simp [results, Tryz.results32, go_sem, r0, r1, r2, r3, r4, r5, r6, r7, r8, r9, r10]) rfl ⟨retSt (HS.out.trans (so7 (by assumption) (by assumption) (by assumption))), ?_⟩
    exact (bel13 HX2.out.p.bel (by omega) (by omega) _ _ _ _ _ _ _ _ _ _ _ _ _).drew
  · go_region
    all_goals go_wp2
    refine bodyPost_ret (v := .agg #[.string dn, .string dw, .int .i64 df, .int .i64 dt, .string de, .int .i64 dN, .int .i64 dU, .int .i64 dR, .int .i64 0, .int .i64 df, .int .i64 of]) (by simp [results, Tryz.results32, go_sem, r0, r1, r2, r3, r4, r5, r6, r7, r8, r9, r10]) rfl ⟨retSt (HS.out.trans (so8 (by assumption) (by assumption) (by assumption))), ?_⟩
    exact (bel13 HX2.out.p.bel (by omega) (by omega) _ _ _ _ _ _ _ _ _ _ _ _ _).drew
  · refine bodyPost_ret (v := .agg #[.string dn, .string dw, .int .i64 df, .int .i64 dt, .string de, .int .i64 dN, .int .i64 dU, .int .i64 dR, .int .i64 4, .int .i64 b1, .int .i64 of]) (by simp [results, Tryz.results32, go_sem, r0, r1, r2, r3, r4, r5, r6, r7, r8, r9, r10]) rfl ⟨retSt (HS.out.trans (so1 (by assumption) (by assumption) (by assumption))), ?_⟩
    exact bel13 HX2.out.p.bel (by omega) (by omega) _ _ _ _ _ _ _ _ _ _ _ _ _
  · refine bodyPost_ret (v := .agg #[.string dn, .string dw, .int .i64 df, .int .i64 dt, .string de, .int .i64 dN, .int .i64 dU, .int .i64 dR, .int .i64 1, .int .i64 a1, .int .i64 of]) (by simp [results, Tryz.results32, go_sem, r0, r1, r2, r3, r4, r5, r6, r7, r8, r9, r10]) rfl ⟨retSt (HS.out.trans (so2 (by assumption) (by assumption) (by assumption) (by assumption))), ?_⟩
    exact bel13 HX2.out.p.bel (by omega) (by omega) _ _ _ _ _ _ _ _ _ _ _ _ _
  · refine bodyPost_ret (v := .agg #[.string dn, .string dw, .int .i64 df, .int .i64 dt, .string de, .int .i64 dN, .int .i64 dU, .int .i64 dR, .int .i64 2, .int .i64 a1, .int .i64 of]) (by simp [results, Tryz.results32, go_sem, r0, r1, r2, r3, r4, r5, r6, r7, r8, r9, r10]) rfl ⟨retSt (HS.out.trans (so3 (by assumption) (by assumption) (by assumption) (by assumption))), ?_⟩
    exact bel13 HX2.out.p.bel (by omega) (by omega) _ _ _ _ _ _ _ _ _ _ _ _ _
  · refine bodyPost_ret (v := .agg #[.string dn, .string dw, .int .i64 df, .int .i64 dt, .string de, .int .i64 dN, .int .i64 dU, .int .i64 dR, .int .i64 4, .int .i64 b1, .int .i64 of]) (by simp [results, Tryz.results32, go_sem, r0, r1, r2, r3, r4, r5, r6, r7, r8, r9, r10]) rfl ⟨retSt (HS.out.trans (so4 (by assumption) (by assumption))), ?_⟩
    exact bel13 HX2.out.p.bel (by omega) (by omega) _ _ _ _ _ _ _ _ _ _ _ _ _
  · refine bodyPost_ret (v := .agg #[.string dn, .string dw, .int .i64 df, .int .i64 dt, .string de, .int .i64 dN, .int .i64 dU, .int .i64 dR, .int .i64 1, .int .i64 a1, .int .i64 of]) (by simp [results, Tryz.results32, go_sem, r0, r1, r2, r3, r4, r5, r6, r7, r8, r9, r10]) rfl ⟨retSt (HS.out.trans (so5 (by assumption) (by assumption) (by assumption))), ?_⟩
    exact bel13 HX2.out.p.bel (by omega) (by omega) _ _ _ _ _ _ _ _ _ _ _ _ _
  · refine bodyPost_ret (v := .agg #[.string dn, .string dw, .int .i64 df, .int .i64 dt, .string de, .int .i64 dN, .int .i64 dU, .int .i64 dR, .int .i64 2, .int .i64 a1, .int .i64 of]) (by simp [results, Tryz.results32, go_sem, r0, r1, r2, r3, r4, r5, r6, r7, r8, r9, r10]) rfl ⟨retSt (HS.out.trans (so6 (by assumption) (by assumption) (by assumption))), ?_⟩
    exact bel13 HX2.out.p.bel (by omega) (by omega) _ _ _ _ _ _ _ _ _ _ _ _ _
end Go.Proofs.YtkaeolcchhneoaaGreatDoor
