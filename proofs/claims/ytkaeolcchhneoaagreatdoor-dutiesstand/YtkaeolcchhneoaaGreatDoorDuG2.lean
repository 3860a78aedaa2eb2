/-
  Duties, the program: the first day on which a duty was done or let off.
-/
import Derived.Test.YtkaeolcchhneoaaGreatDoorDuG1
import Derived.Test.YtkaeolcchhneoaaGreatDoorBel1
import Derived.Lib.Bytes
import Derived.Test.YtkaeolcchhneoaaGreatDoorDay
namespace Go.Proofs.YtkaeolcchhneoaaGreatDoor
open Go.RowKit

theorem toList_ne {a b : ByteArray} (h : ¬ a = b) : ¬ a.toList = b.toList := fun e => h (by
  rw [Lib.toList_data, Lib.toList_data] at e
  exact ByteArray.ext (Array.toList_inj.1 e))
theorem toList_eq {a b : ByteArray} (h : a.toList = b.toList) : a = b := by
  rw [Lib.toList_data, Lib.toList_data] at h
  exact ByteArray.ext (Array.toList_inj.1 h)
theorem range_bel {w w' : World} {B b o : Nat} {cs : List Value} (h : w.rangeAt b o cs) (hb : Below B w w') (hl : b < B) : w'.rangeAt b o cs := range_on h (hb.block b hl)
theorem get_in {α : Type} {l : List α} {i : Nat} (h : i < l.length) : ∃ x, l[i]? = some x ∧ l.drop i = x :: l.drop (i + 1) := ⟨l[i], List.getElem?_eq_getElem h, List.drop_eq_getElem_cons h⟩
/-- What was done, and a duty, in their boxes. -/
structure PBox (w W : World) (ps : List Value) (d : Du) : Prop where
  p : W.rangeAt w.heap.size 0 ps
  d : W.rangeAt (w.heap.size + 1) 0 (duE.f d)
  bel : Below w.heap.size w W
  lt : w.heap.size + 2 ≤ W.heap.size
theorem PBox.mk' (w : World) (ps : List Value) (d : Du) (T1 T2 : Nat) : PBox w ((w.alloc (.cells ps.toArray T1)).alloc (.cells (duE.f d).toArray T2)) ps d := by
  refine ⟨range_bel (alloc_range w ps T1) (bel1 _ _) (by simp), ?_, (bel1 w _).trans ((bel1 _ _).mono (by simp)), by simp⟩
  have := alloc_range (w.alloc (.cells ps.toArray T1)) (duE.f d) T2
  simpa using this
theorem PBox.on {w W W' : World} {ps : List Value} {d : Du} (h : PBox w W ps d) (hb : Below W.heap.size W W') : PBox w W' ps d :=
  ⟨range_bel h.p hb (by have := h.lt; omega), range_bel h.d hb (by have := h.lt; omega), h.bel.trans (hb.mono h.bel.size), Nat.le_trans h.lt hb.size⟩
set_option maxHeartbeats 4000000 in
theorem first_p {B n c : Nat} {a : Option Addr} {ev : List Ev} {w : World} (d : Du) (wv : Bool) (on : Int) (h : RdG evE w B (.slice a n c) ev) (hB : B ≤ w.heap.size) :
    Calls Tryz.prog 43 #[.agg #[.slice a n c, .int .i64 on], .agg (duE.f d).toArray, .bool wv] w fun e w' => e = .returned (.tuple #[.int .i64 (fst0 d wv ev).1, .bool (fst0 d wv ev).2]) ∧ Below w.heap.size w w' := by
  obtain ⟨hn, hbig⟩ := h.len
  have HR := hidIt (And.intro h hn)
  have HX := hidIt (PBox.mk' w [.slice a n c, .int .i64 on] d 72 57)
  obtain ⟨R, hR⟩ : ∃ R, R = fst0 d wv ev := ⟨_, rfl⟩
  have HF := hidIt hR
  rw [← hR]
  obtain ⟨dn, dw, df, dt, de, dN, dU, dR⟩ := d
  obtain ⟨r1, r2⟩ := R
  clear h hn hR
  have x0 := HX.out.p 0 _ rfl
  show Calls Tryz.prog 43 #[.agg #[.slice a n c, .int .i64 on], .agg #[.string dn, .string dw, .int .i64 df, .int .i64 dt, .string de, .int .i64 dN, .int .i64 dU, .int .i64 dR], .bool wv] w _
  go_enter Tryz.func43, Tryz.ntmps43
  go_wp2_with fail
  go_loopw [8, 9, 15] (fun t8 t9 t15 wr => ∃ (x : Int) (b : Bool) (i : Nat), i ≤ n ∧ t8 = .int .i64 x ∧ t9 = .bool b ∧ t15 = .int .i64 i ∧ fstF ⟨dn, dw, df, dt, de, dN, dU, dR⟩ wv (ev.drop i) (x, b) = (r1, r2) ∧ PBox w wr [.slice a n c, .int .i64 on] ⟨dn, dw, df, dt, de, dN, dU, dR⟩) (fun _ _ t15 _ => n - (RowKit.intOf t15).toNat)
  case atStart => exact ⟨0, false, 0, by omega, rfl, rfl, rfl, HF.out.symm, HX.out⟩
  case round =>
    obtain ⟨x, b, i, hi, rfl, rfl, rfl, hF, hX⟩ := hrel
    have HF1 := hidIt hF
    have HX1 := hidIt hX
    clear hF hX HF HX x0
    by_cases hlt : i < n
    · have c0 : decide ((i : Int) < n) = true := by simp; omega
      obtain ⟨e, he, hdr⟩ := get_in (l := ev) (i := i) (by have := HR.out.2; omega)
      obtain ⟨g, o, rfl, hg, hrg⟩ := HR.out.1.at he
      have hrg := range_bel hrg (HX1.out.bel.mono hB) hg
      obtain ⟨e0, e1, e2, e3⟩ := ev_cells hrg
      have HD := hidIt hdr
      have hlt1 := HX1.out.lt
      obtain ⟨ed, en, ew, ewv⟩ := e
      have hq : ∀ ob : Obj, (wr.alloc ob).rangeAt (w.heap.size + 1) 0 (duE.f ⟨dn, dw, df, dt, de, dN, dU, dR⟩) := fun ob => range_bel HX1.out.d (bel1 wr ob) (by omega)
      have q0 := fun ob => (du_cells0 (hq ob)).1
      have q1 := fun ob => (du_cells0 (hq ob)).2.1
      have q2 := fun ob => (du_cells0 (hq ob)).2.2.1
      have HN : Hid (∀ ob, PBox w (wr.alloc ob) [.slice (some ⟨g, o, none⟩) n c, .int .i64 on] ⟨dn, dw, df, dt, de, dN, dU, dR⟩) := fun ob => HX1.out.on (bel1 _ _)
      have hiz : (i : Int) < n := by omega
      clear hrg he hdr hg hq
      have hk : evE.k = 4 := rfl
      rw [hk] at e0 e1 e2 e3
      clear hk
      simp only at e0 e1 e2 e3 q0 q1 q2
      go_wp2_with fail
      all_goals
        refine ⟨⟨_, _, i + 1, by omega, rfl, rfl, by go_num, ?_, HN.out _⟩, by simp [RowKit.intOf]; omega⟩
        have hF := HF1.out
        rw [HD.out, fstF_cons] at hF
        cases b
        all_goals first
          | (exfalso; contradiction)
          | skip
        all_goals
          split at hF
          · rename_i hc
            obtain ⟨hm, hc⟩ := hc
            obtain ⟨m1, m2, m3, m4⟩ := mtB_iff.1 hm
            have m2 := congrArg ByteArray.toList m2
            have m3 := congrArg ByteArray.toList m3
            simp only at m1 m2 m3 m4 hc
            first
              | exact hF
              | contradiction
              | omega
              | (rcases hc with hc | hc
                 · cases hc
                 · omega)
          · rename_i hc
            first
              | exact hF
              | (exfalso
                 apply hc
                 refine ⟨mtB_iff.2 ⟨?_, ?_, ?_, ?_⟩, ?_⟩
                 · assumption
                 · apply toList_eq; assumption
                 · apply toList_eq; assumption
                 · assumption
                 · first
                     | (right; assumption)
                     | (left; rfl))
    · have c0 : decide ((i : Int) < n) = false := by simp; omega
      have hd : ev.drop i = [] := List.drop_eq_nil_of_le (by have := HR.out.2; omega)
      have HE : Hid ((x, b) = (r1, r2)) := by have := HF1.out; rw [hd] at this; exact this
      clear hd
      go_wp2
      go_ret2
      obtain ⟨rfl, rfl⟩ : x = r1 ∧ b = r2 := by have := HE.out; injection this; exact ⟨by assumption, by assumption⟩
      exact ⟨rfl, HX1.out.bel⟩
end Go.Proofs.YtkaeolcchhneoaaGreatDoor
namespace Go.Proofs.YtkaeolcchhneoaaGreatDoor
open Go.RowKit

def zSt : List Value := [.string ByteArray.empty, .string ByteArray.empty, .int .i64 0, .int .i64 0, .string ByteArray.empty, .int .i64 0, .int .i64 0, .int .i64 0, .int .i64 0, .int .i64 0, .int .i64 0]
/-- The boxes of 'state': what was done, the duty, the result, the state. -/
structure SBox (w W : World) (ps : List Value) (d : Du) (r s : List Value) : Prop where
  p : PBox w W ps d
  r : W.rangeAt (w.heap.size + 2) 0 r
  s : W.rangeAt (w.heap.size + 3) 0 s
  fr : ∀ k, W.frozen? ⟨w.heap.size + 2, k, none⟩ = false
  fs : ∀ k, W.frozen? ⟨w.heap.size + 3, k, none⟩ = false
  lt : w.heap.size + 4 ≤ W.heap.size
theorem SBox.mk' (w : World) (ps : List Value) (d : Du) (r s : List Value) (T1 T2 T3 T4 : Nat) : SBox w ((((w.alloc (.cells ps.toArray T1)).alloc (.cells (duE.f d).toArray T2)).alloc (.cells r.toArray T3)).alloc (.cells s.toArray T4)) ps d r s := by
  have h1 := PBox.mk' w ps d T1 T2
  have h2 := h1.on (bel1 _ (.cells r.toArray T3))
  have h3 := h2.on (bel1 _ (.cells s.toArray T4))
  have hs : ((w.alloc (.cells ps.toArray T1)).alloc (.cells (duE.f d).toArray T2)).heap.size = w.heap.size + 2 := by simp
  generalize (w.alloc (.cells ps.toArray T1)).alloc (.cells (duE.f d).toArray T2) = W at *
  have hs2 : (W.alloc (.cells r.toArray T3)).heap.size = w.heap.size + 3 := by simp [hs]
  refine ⟨h3, ?_, ?_, fun k => ?_, fun k => ?_, by simp [hs]⟩
  · have := alloc_range W r T3
    rw [hs] at this
    exact range_bel this (bel1 _ _) (by rw [hs2]; omega)
  · have := alloc_range (W.alloc (.cells r.toArray T3)) s T4
    rw [hs2] at this
    exact this
  · have h4 := (bel1 (W.alloc (.cells r.toArray T3)) (.cells s.toArray T4)).frozen (p := ⟨w.heap.size + 2, k, none⟩) (by show w.heap.size + 2 < _; rw [hs2]; omega)
    rw [h4]
    have := frozen_of_row (W.alloc (.cells r.toArray T3)) W.heap.size k r.toArray T3 (Go.Deep.blk_alloc_new W _)
    rw [hs] at this
    exact this
  · have := frozen_of_row ((W.alloc (.cells r.toArray T3)).alloc (.cells s.toArray T4)) (W.alloc (.cells r.toArray T3)).heap.size k s.toArray T4 (Go.Deep.blk_alloc_new _ _)
    rw [hs2] at this
    exact this
theorem SBox.on {w W W' : World} {ps : List Value} {d : Du} {r s : List Value} (h : SBox w W ps d r s) (hb : Below W.heap.size W W') : SBox w W' ps d r s := by
  have hl := h.lt
  exact ⟨h.p.on hb, range_bel h.r hb (by omega), range_bel h.s hb (by omega), fun k => (hb.frozen (p := ⟨w.heap.size + 2, k, none⟩) (show w.heap.size + 2 < _ by omega)).trans (h.fr k), fun k => (hb.frozen (p := ⟨w.heap.size + 3, k, none⟩) (show w.heap.size + 3 < _ by omega)).trans (h.fs k), Nat.le_trans h.lt hb.size⟩
variable {d : Du} {of on a1 b1 : Int} {a2 b2 : Bool}
theorem so1 (h1 : b2 = true) (h2 : a2 = true) (h3 : b1 ≤ a1) : stOf d of on (a1, a2) (b1, b2) = ⟨d, 4, b1, of⟩ := by subst h1 h2; simp [stOf, h3]
theorem so2 (h1 : b2 = true) (h2 : a2 = true) (h3 : a1 < b1) (h4 : a1 ≤ d.til) : stOf d of on (a1, a2) (b1, b2) = ⟨d, 1, a1, of⟩ := by subst h1 h2; simp [stOf, show ¬ b1 ≤ a1 by omega, h4]
theorem so3 (h1 : b2 = true) (h2 : a2 = true) (h3 : a1 < b1) (h4 : d.til < a1) : stOf d of on (a1, a2) (b1, b2) = ⟨d, 2, a1, of⟩ := by subst h1 h2; simp [stOf, show ¬ b1 ≤ a1 by omega, show ¬ a1 ≤ d.til by omega]
theorem so4 (h1 : b2 = true) (h2 : ¬ a2 = true) : stOf d of on (a1, a2) (b1, b2) = ⟨d, 4, b1, of⟩ := by obtain rfl := Bool.eq_false_iff.2 h2; subst h1; simp [stOf]
theorem so5 (h1 : ¬ b2 = true) (h2 : a2 = true) (h4 : a1 ≤ d.til) : stOf d of on (a1, a2) (b1, b2) = ⟨d, 1, a1, of⟩ := by obtain rfl := Bool.eq_false_iff.2 h1; subst h2; simp [stOf, h4]
theorem so6 (h1 : ¬ b2 = true) (h2 : a2 = true) (h4 : d.til < a1) : stOf d of on (a1, a2) (b1, b2) = ⟨d, 2, a1, of⟩ := by obtain rfl := Bool.eq_false_iff.2 h1; subst h2; simp [stOf, show ¬ a1 ≤ d.til by omega]
theorem so7 (h1 : ¬ b2 = true) (h2 : ¬ a2 = true) (h4 : d.til < on) : stOf d of on (a1, a2) (b1, b2) = ⟨d, 3, d.til + 1, of⟩ := by obtain rfl := Bool.eq_false_iff.2 h1; obtain rfl := Bool.eq_false_iff.2 h2; simp [stOf, h4]
theorem so8 (h1 : ¬ b2 = true) (h2 : ¬ a2 = true) (h4 : on ≤ d.til) : stOf d of on (a1, a2) (b1, b2) = ⟨d, 0, d.frm, of⟩ := by obtain rfl := Bool.eq_false_iff.2 h1; obtain rfl := Bool.eq_false_iff.2 h2; simp [stOf, show ¬ d.til < on by omega]
theorem bel13 {B bs br i j : Nat} {w W : World} (h : Below B w W) (hs : B ≤ bs) (hr : B ≤ br) (u v v0 v1 v2 v3 v4 v5 v6 v7 v8 v9 v10 : Value) : Below B w (((((((((((((W.setCell ⟨bs, i, none⟩ u).setCell ⟨bs, j, none⟩ v).setCell ⟨br, 0, none⟩ v0).setCell ⟨br, 1, none⟩ v1).setCell ⟨br, 2, none⟩ v2).setCell ⟨br, 3, none⟩ v3).setCell ⟨br, 4, none⟩ v4).setCell ⟨br, 5, none⟩ v5).setCell ⟨br, 6, none⟩ v6).setCell ⟨br, 7, none⟩ v7).setCell ⟨br, 8, none⟩ v8).setCell ⟨br, 9, none⟩ v9).setCell ⟨br, 10, none⟩ v10) := ((((((((((((h.setCell hs _).setCell hs _).setCell hr _).setCell hr _).setCell hr _).setCell hr _).setCell hr _).setCell hr _).setCell hr _).setCell hr _).setCell hr _).setCell hr _).setCell hr _
theorem retSt {S S' : St} (h : S = S') : Ending.returned (.agg (stE.f S').toArray) = Ending.returned (.agg (stE.f S).toArray) := by rw [h]
set_option maxHeartbeats 4000000 in
set_option maxRecDepth 10000 in
theorem state_p {B n c : Nat} {a : Option Addr} {ev : List Ev} {w : World} (d : Du) (of on : Int) (h : RdG evE w B (.slice a n c) ev) (hB : B ≤ w.heap.size) (hon : on ≤ 1000000000) (htil : -1000000000 ≤ d.til) :
    Calls Tryz.prog 32 #[.agg #[.slice a n c, .int .i64 on], .agg (duE.f d).toArray, .int .i64 of] w fun e w' => e = .returned (.agg (stE.f (stOf d of on (fst0 d false ev) (fst0 d true ev))).toArray) ∧ Below w.heap.size w w' := by
  have HF : Hid (∀ W, Below w.heap.size w W → Calls Tryz.prog 43 #[.agg #[.slice a n c, .int .i64 on], .agg (duE.f d).toArray, .bool false] W fun e w' => e = .returned (.tuple #[.int .i64 (fst0 d false ev).1, .bool (fst0 d false ev).2]) ∧ Below W.heap.size W w') := fun W hW => first_p d false on (h.below (hW.mono hB)) (Nat.le_trans hB hW.size)
  have HT : Hid (∀ W, Below w.heap.size w W → Calls Tryz.prog 43 #[.agg #[.slice a n c, .int .i64 on], .agg (duE.f d).toArray, .bool true] W fun e w' => e = .returned (.tuple #[.int .i64 (fst0 d true ev).1, .bool (fst0 d true ev).2]) ∧ Below W.heap.size W w') := fun W hW => first_p d true on (h.below (hW.mono hB)) (Nat.le_trans hB hW.size)
  have HX := hidIt (SBox.mk' w [.slice a n c, .int .i64 on] d zSt [.string d.nm, .string d.who, .int .i64 d.frm, .int .i64 d.til, .string d.els, .int .i64 d.n, .int .i64 d.u, .int .i64 d.r, .int .i64 0, .int .i64 0, .int .i64 of] 72 57 59 59)
  generalize fst0 d false ev = A at *
  generalize fst0 d true ev = C at *
  obtain ⟨dn, dw, df, dt, de, dN, dU, dR⟩ := d
  obtain ⟨a1, a2⟩ := A
  obtain ⟨b1, b2⟩ := C
  simp only at htil
  obtain ⟨S, hS⟩ : ∃ S, S = stOf ⟨dn, dw, df, dt, de, dN, dU, dR⟩ of on (a1, a2) (b1, b2) := ⟨_, rfl⟩
  rw [← hS]
  have HS := hidIt hS
  clear h hS
  show Calls Tryz.prog 32 #[.agg #[.slice a n c, .int .i64 on], .agg #[.string dn, .string dw, .int .i64 df, .int .i64 dt, .string de, .int .i64 dN, .int .i64 dU, .int .i64 dR], .int .i64 of] w _
  go_enter Tryz.func32, Tryz.ntmps32
  go_wp2_with fail
  refine (HF.out _ HX.out.p.bel).mono ?_
  rintro e w1 ⟨rfl, hb⟩
  have HX1 := hidIt (HX.out.on hb)
  clear hb
  have p0 := HX1.out.p.p 0 _ rfl
  have p1 : w1.cell? ⟨w.heap.size, 1, none⟩ = some (.int .i64 on) := HX1.out.p.p 1 _ rfl
  obtain ⟨q0, q1, q2, q3, q4, q5, q6, q7⟩ := du_cells0 HX1.out.p.d
  simp only at p0 q0 q1 q2 q3 q4 q5 q6 q7
  go_wp2_with fail
  refine (HT.out _ HX1.out.p.bel).mono ?_
  rintro e w2 ⟨rfl, hb⟩
  have HX2 := hidIt (HX1.out.on hb)
  clear hb p0 p1 q0 q1 q2 q3 q4 q5 q6 q7
  have p1 : w2.cell? ⟨w.heap.size, 1, none⟩ = some (.int .i64 on) := HX2.out.p.p 1 _ rfl
  obtain ⟨q0, q1, q2, q3, q4, q5, q6, q7⟩ := du_cells0 HX2.out.p.d
  simp only at q0 q1 q2 q3 q4 q5 q6 q7
  have s0 : w2.cell? ⟨w.heap.size + 1 + 1 + 1, 0, none⟩ = some (.string dn) := HX2.out.s 0 _ rfl
  have s1 : w2.cell? ⟨w.heap.size + 1 + 1 + 1, 1, none⟩ = some (.string dw) := HX2.out.s 1 _ rfl
  have s2 : w2.cell? ⟨w.heap.size + 1 + 1 + 1, 2, none⟩ = some (.int .i64 df) := HX2.out.s 2 _ rfl
  have s3 : w2.cell? ⟨w.heap.size + 1 + 1 + 1, 3, none⟩ = some (.int .i64 dt) := HX2.out.s 3 _ rfl
  have s4 : w2.cell? ⟨w.heap.size + 1 + 1 + 1, 4, none⟩ = some (.string de) := HX2.out.s 4 _ rfl
  have s5 : w2.cell? ⟨w.heap.size + 1 + 1 + 1, 5, none⟩ = some (.int .i64 dN) := HX2.out.s 5 _ rfl
  have s6 : w2.cell? ⟨w.heap.size + 1 + 1 + 1, 6, none⟩ = some (.int .i64 dU) := HX2.out.s 6 _ rfl
  have s7 : w2.cell? ⟨w.heap.size + 1 + 1 + 1, 7, none⟩ = some (.int .i64 dR) := HX2.out.s 7 _ rfl
  have s8 : w2.cell? ⟨w.heap.size + 1 + 1 + 1, 8, none⟩ = some (.int .i64 0) := HX2.out.s 8 _ rfl
  have s9 : w2.cell? ⟨w.heap.size + 1 + 1 + 1, 9, none⟩ = some (.int .i64 0) := HX2.out.s 9 _ rfl
  have s10 : w2.cell? ⟨w.heap.size + 1 + 1 + 1, 10, none⟩ = some (.int .i64 of) := HX2.out.s 10 _ rfl
  have r0 : w2.cell? ⟨w.heap.size + 1 + 1, 0, none⟩ = some (.string ByteArray.empty) := HX2.out.r 0 _ rfl
  have r1 : w2.cell? ⟨w.heap.size + 1 + 1, 1, none⟩ = some (.string ByteArray.empty) := HX2.out.r 1 _ rfl
  have r2 : w2.cell? ⟨w.heap.size + 1 + 1, 2, none⟩ = some (.int .i64 0) := HX2.out.r 2 _ rfl
  have r3 : w2.cell? ⟨w.heap.size + 1 + 1, 3, none⟩ = some (.int .i64 0) := HX2.out.r 3 _ rfl
  have r4 : w2.cell? ⟨w.heap.size + 1 + 1, 4, none⟩ = some (.string ByteArray.empty) := HX2.out.r 4 _ rfl
  have r5 : w2.cell? ⟨w.heap.size + 1 + 1, 5, none⟩ = some (.int .i64 0) := HX2.out.r 5 _ rfl
  have r6 : w2.cell? ⟨w.heap.size + 1 + 1, 6, none⟩ = some (.int .i64 0) := HX2.out.r 6 _ rfl
  have r7 : w2.cell? ⟨w.heap.size + 1 + 1, 7, none⟩ = some (.int .i64 0) := HX2.out.r 7 _ rfl
  have r8 : w2.cell? ⟨w.heap.size + 1 + 1, 8, none⟩ = some (.int .i64 0) := HX2.out.r 8 _ rfl
  have r9 : w2.cell? ⟨w.heap.size + 1 + 1, 9, none⟩ = some (.int .i64 0) := HX2.out.r 9 _ rfl
  have r10 : w2.cell? ⟨w.heap.size + 1 + 1, 10, none⟩ = some (.int .i64 0) := HX2.out.r 10 _ rfl
  have fr : ∀ k, w2.frozen? ⟨w.heap.size + 1 + 1, k, none⟩ = false := HX2.out.fr
  have fs : ∀ k, w2.frozen? ⟨w.heap.size + 1 + 1 + 1, k, none⟩ = false := HX2.out.fs
  go_wp2_with fail
  rotate_right 2
  · go_region
    all_goals go_wp2
    refine bodyPost_ret (v := .agg #[.string dn, .string dw, .int .i64 df, .int .i64 dt, .string de, .int .i64 dN, .int .i64 dU, .int .i64 dR, .int .i64 3, .int .i64 (dt + 1), .int .i64 of]) (by simp [results, Tryz.results32, go_sem, r0, r1, r2, r3, r4, r5, r6, r7, r8, r9, r10]) rfl ⟨retSt (HS.out.trans (so7 (by assumption) (by assumption) (by assumption))), ?_⟩
    exact (bel13 HX2.out.p.bel (by omega) (by omega) _ _ _ _ _ _ _ _ _ _ _ _ _).drew
  · go_region
    all_goals go_wp2
    refine bodyPost_ret (v := .agg #[.string dn, .string dw, .int .i64 df, .int .i64 dt, .string de, .int .i64 dN, .int .i64 dU, .int .i64 dR, .int .i64 0, .int .i64 df, .int .i64 of]) (by simp [results, Tryz.results32, go_sem, r0, r1, r2, r3, r4, r5, r6, r7, r8, r9, r10]) rfl ⟨retSt (HS.out.trans (so8 (by assumption) (by assumption) (by assumption))), ?_⟩
    exact (bel13 HX2.out.p.bel (by omega) (by omega) _ _ _ _ _ _ _ _ _ _ _ _ _).drew
  · refine bodyPost_ret (v := .agg #[.string dn, .string dw, .int .i64 df, .int .i64 dt, .string de, .int .i64 dN, .int .i64 dU, .int .i64 dR, .int .i64 4, .int .i64 b1, .int .i64 of]) (by simp [results, Tryz.results32, go_sem, r0, r1, r2, r3, r4, r5, r6, r7, r8, r9, r10]) rfl ⟨retSt (HS.out.trans (so1 (by assumption) (by assumption) (by assumption))), ?_⟩
    exact bel13 HX2.out.p.bel (by omega) (by omega) _ _ _ _ _ _ _ _ _ _ _ _ _
  · refine bodyPost_ret (v := .agg #[.string dn, .string dw, .int .i64 df, .int .i64 dt, .string de, .int .i64 dN, .int .i64 dU, .int .i64 dR, .int .i64 1, .int .i64 a1, .int .i64 of]) (by simp [results, Tryz.results32, go_sem, r0, r1, r2, r3, r4, r5, r6, r7, r8, r9, r10]) rfl ⟨retSt (HS.out.trans (so2 (by assumption) (by assumption) (by assumption) (by assumption))), ?_⟩
    exact bel13 HX2.out.p.bel (by omega) (by omega) _ _ _ _ _ _ _ _ _ _ _ _ _
  · refine bodyPost_ret (v := .agg #[.string dn, .string dw, .int .i64 df, .int .i64 dt, .string de, .int .i64 dN, .int .i64 dU, .int .i64 dR, .int .i64 2, .int .i64 a1, .int .i64 of]) (by simp [results, Tryz.results32, go_sem, r0, r1, r2, r3, r4, r5, r6, r7, r8, r9, r10]) rfl ⟨retSt (HS.out.trans (so3 (by assumption) (by assumption) (by assumption) (by assumption))), ?_⟩
    exact bel13 HX2.out.p.bel (by omega) (by omega) _ _ _ _ _ _ _ _ _ _ _ _ _
  · refine bodyPost_ret (v := .agg #[.string dn, .string dw, .int .i64 df, .int .i64 dt, .string de, .int .i64 dN, .int .i64 dU, .int .i64 dR, .int .i64 4, .int .i64 b1, .int .i64 of]) (by simp [results, Tryz.results32, go_sem, r0, r1, r2, r3, r4, r5, r6, r7, r8, r9, r10]) rfl ⟨retSt (HS.out.trans (so4 (by assumption) (by assumption))), ?_⟩
    exact bel13 HX2.out.p.bel (by omega) (by omega) _ _ _ _ _ _ _ _ _ _ _ _ _
  · refine bodyPost_ret (v := .agg #[.string dn, .string dw, .int .i64 df, .int .i64 dt, .string de, .int .i64 dN, .int .i64 dU, .int .i64 dR, .int .i64 1, .int .i64 a1, .int .i64 of]) (by simp [results, Tryz.results32, go_sem, r0, r1, r2, r3, r4, r5, r6, r7, r8, r9, r10]) rfl ⟨retSt (HS.out.trans (so5 (by assumption) (by assumption) (by assumption))), ?_⟩
    exact bel13 HX2.out.p.bel (by omega) (by omega) _ _ _ _ _ _ _ _ _ _ _ _ _
  · refine bodyPost_ret (v := .agg #[.string dn, .string dw, .int .i64 df, .int .i64 dt, .string de, .int .i64 dN, .int .i64 dU, .int .i64 dR, .int .i64 2, .int .i64 a1, .int .i64 of]) (by simp [results, Tryz.results32, go_sem, r0, r1, r2, r3, r4, r5, r6, r7, r8, r9, r10]) rfl ⟨retSt (HS.out.trans (so6 (by assumption) (by assumption) (by assumption))), ?_⟩
    exact bel13 HX2.out.p.bel (by omega) (by omega) _ _ _ _ _ _ _ _ _ _ _ _ _
end Go.Proofs.YtkaeolcchhneoaaGreatDoor
namespace Go.Proofs.YtkaeolcchhneoaaGreatDoor
open Go.RowKit

def wrongB (d : Du) : Bool := !isDayB d.frm || !isDayB d.til || decide (d.til < d.frm)
def neverB (e : Ev) : Bool := !isDayB e.day
theorem retB {a b : Bool} (h : a = b) : Ending.returned (.bool a) = .returned (.bool b) := by rw [h]
set_option maxHeartbeats 1000000 in
theorem wrong_p (d : Du) (w : World) : Calls Tryz.prog 26 #[.agg (duE.f d).toArray] w fun e w' => e = .returned (.bool (wrongB d)) ∧ Below w.heap.size w w' := by
  obtain ⟨dn, dw, df, dt, de, dN, dU, dR⟩ := d
  have HD := hidIt (fun n w => isDay_any n w)
  have HE : Hid (wrongB ⟨dn, dw, df, dt, de, dN, dU, dR⟩ = (!isDayB df || !isDayB dt || decide (dt < df))) := rfl
  rw [HE.out]
  clear HE
  show Calls Tryz.prog 26 #[.agg #[.string dn, .string dw, .int .i64 df, .int .i64 dt, .string de, .int .i64 dN, .int .i64 dU, .int .i64 dR]] w _
  obtain ⟨x, hx⟩ : ∃ x, x = isDayB df := ⟨_, rfl⟩
  obtain ⟨y, hy⟩ : ∃ y, y = isDayB dt := ⟨_, rfl⟩
  rw [← hx, ← hy]
  have HX := hidIt (fun w => HD.out df w)
  have HY := hidIt (fun w => HD.out dt w)
  rw [← hx] at HX
  rw [← hy] at HY
  clear hx hy HD
  cases x
  · go_enter Tryz.func26, Tryz.ntmps26
    go_wp2_with (go_at_call 21; refine (HX.out _).mono ?_; rintro e w' ⟨rfl, rfl⟩)
    go_ret
    exact ⟨rfl, bel1 _ _⟩
  · cases y
    · go_enter Tryz.func26, Tryz.ntmps26
      go_wp2_with fail
      refine (HX.out _).mono ?_
      rintro e w' ⟨rfl, ew⟩
      subst w'
      go_wp2_with fail
      refine (HY.out _).mono ?_
      rintro e w' ⟨rfl, ew⟩
      subst w'
      go_wp2
      go_ret
      exact ⟨rfl, bel1 _ _⟩
    · go_enter Tryz.func26, Tryz.ntmps26
      go_wp2_with fail
      refine (HX.out _).mono ?_
      rintro e w' ⟨rfl, ew⟩
      subst w'
      go_wp2_with fail
      refine (HY.out _).mono ?_
      rintro e w' ⟨rfl, ew⟩
      subst w'
      go_wp2
      go_ret
      exact ⟨rfl, bel1 _ _⟩
theorem never_p (e : Ev) (w : World) : Calls Tryz.prog 27 #[.agg (evE.f e).toArray] w fun x w' => x = .returned (.bool (neverB e)) ∧ Below w.heap.size w w' := by
  obtain ⟨ed, en, ew, ev⟩ := e
  have HX := hidIt (fun w => isDay_any ed w)
  have HE : Hid (neverB ⟨ed, en, ew, ev⟩ = !isDayB ed) := rfl
  rw [HE.out]
  clear HE
  generalize isDayB ed = x at *
  show Calls Tryz.prog 27 #[.agg #[.int .i64 ed, .string en, .string ew, .bool ev]] w _
  go_enter Tryz.func27, Tryz.ntmps27
  go_wp2_with (go_at_call 21; refine (HX.out _).mono ?_; rintro e w' ⟨rfl, rfl⟩)
  go_ret
  exact ⟨rfl, bel1 _ _⟩
theorem any_drop {α : Type} (f : α → Bool) {l : List α} {i : Nat} {x : α} (h : l.drop i = x :: l.drop (i + 1)) : (l.drop i).any f = (f x || (l.drop (i + 1)).any f) := by rw [h, List.any_cons]
set_option maxHeartbeats 1000000 in
theorem index_d {B n c : Nat} {a : Option Addr} {l : List Du} {w : World} (h : RdG duE w B (.slice a n c) l) (hB : B ≤ w.heap.size) :
    Calls Tryz.prog 38 #[.slice a n c, .func (.func 26) #[] #[]] w fun e w' => (∃ r : Int, e = .returned (.int .i64 r) ∧ decide (0 ≤ r) = l.any wrongB) ∧ Below w.heap.size w w' := by
  obtain ⟨hn, hbig⟩ := h.len
  have HR := hidIt (And.intro h hn)
  have HW := hidIt (fun x w => wrong_p x w)
  clear h hn
  go_enter Tryz.func38, Tryz.ntmps38
  go_wp2_with fail
  go_loopw [8] (fun t wr => ∃ i : Nat, i ≤ n ∧ t = .int .i64 i ∧ (l.drop i).any wrongB = l.any wrongB ∧ Below w.heap.size w wr) (fun t _ => n - (RowKit.intOf t).toNat)
  case atStart => exact ⟨0, by omega, rfl, rfl, Below.refl _ _⟩
  case round =>
    obtain ⟨i, hi, rfl, hA, hb⟩ := hrel
    have HA := hidIt hA
    have HB := hidIt hb
    clear hA hb
    by_cases hlt : i < n
    · have c0 : decide ((i : Int) < n) = true := by simp; omega
      obtain ⟨e, he, hdr⟩ := get_in (l := l) (i := i) (by have := HR.out.2; omega)
      obtain ⟨g, o, rfl, hg, hrg⟩ := HR.out.1.at he
      obtain ⟨q0, q1, q2, q3, q4, q5, q6, q7⟩ := du_cells (range_bel hrg (HB.out.mono hB) hg)
      have hk : duE.k = 8 := rfl
      rw [hk] at q0 q1 q2 q3 q4 q5 q6 q7
      clear hk
      have HD := hidIt (any_drop wrongB hdr)
      have hiz : (i : Int) < n := by omega
      have HWx : Hid (∀ W, Calls Tryz.prog 26 #[.agg #[.string e.nm, .string e.who, .int .i64 e.frm, .int .i64 e.til, .string e.els, .int .i64 e.n, .int .i64 e.u, .int .i64 e.r]] W fun x w' => x = .returned (.bool (wrongB e)) ∧ Below W.heap.size W w') := fun W => HW.out e W
      clear hrg he hdr hg
      generalize wrongB e = q at *
      cases q
      · go_wp2_with fail
        refine (HWx.out _).mono ?_
        rintro x w1 ⟨rfl, hb1⟩
        have HB1 := hidIt (HB.out.trans (hb1.mono HB.out.size))
        clear hb1
        go_wp2
        go_roundw
        case rel => exact ⟨i + 1, by omega, by go_num, by rw [← HA.out, HD.out]; rfl, HB1.out⟩
        case measure => simp [RowKit.intOf]; omega
      · go_wp2_with fail
        refine (HWx.out _).mono ?_
        rintro x w1 ⟨rfl, hb1⟩
        have HB1 := hidIt (HB.out.trans (hb1.mono HB.out.size))
        clear hb1
        go_wp2
        go_ret
        exact ⟨⟨_, rfl, by rw [← HA.out, HD.out]; simp⟩, HB1.out⟩
    · have c0 : decide ((i : Int) < n) = false := by simp; omega
      have HD : Hid (l.drop i = []) := List.drop_eq_nil_of_le (by have := HR.out.2; omega)
      go_wp2
      go_ret
      exact ⟨⟨_, rfl, by rw [← HA.out, HD.out]; rfl⟩, HB.out⟩
theorem contains_d {B n c : Nat} {a : Option Addr} {l : List Du} {w : World} (h : RdG duE w B (.slice a n c) l) (hB : B ≤ w.heap.size) :
    Calls Tryz.prog 28 #[.slice a n c, .func (.func 26) #[] #[]] w fun e w' => e = .returned (.bool (l.any wrongB)) ∧ Below w.heap.size w w' := by
  have HI := hidIt (index_d h hB)
  clear h
  generalize l.any wrongB = q at *
  go_enter Tryz.func28, Tryz.ntmps28
  go_wp2_with fail
  refine HI.out.mono ?_
  rintro e w1 ⟨⟨r, rfl, hq⟩, hb⟩
  have HQ := hidIt hq
  have HB := hidIt hb
  clear hq hb
  go_wp2
  go_ret
  exact ⟨retB HQ.out, HB.out⟩
set_option maxHeartbeats 1000000 in
theorem index_e {B n c : Nat} {a : Option Addr} {l : List Ev} {w : World} (h : RdG evE w B (.slice a n c) l) (hB : B ≤ w.heap.size) :
    Calls Tryz.prog 39 #[.slice a n c, .func (.func 27) #[] #[]] w fun e w' => (∃ r : Int, e = .returned (.int .i64 r) ∧ decide (0 ≤ r) = l.any neverB) ∧ Below w.heap.size w w' := by
  obtain ⟨hn, hbig⟩ := h.len
  have HR := hidIt (And.intro h hn)
  have HW := hidIt (fun x w => never_p x w)
  clear h hn
  go_enter Tryz.func39, Tryz.ntmps39
  go_wp2_with fail
  go_loopw [8] (fun t wr => ∃ i : Nat, i ≤ n ∧ t = .int .i64 i ∧ (l.drop i).any neverB = l.any neverB ∧ Below w.heap.size w wr) (fun t _ => n - (RowKit.intOf t).toNat)
  case atStart => exact ⟨0, by omega, rfl, rfl, Below.refl _ _⟩
  case round =>
    obtain ⟨i, hi, rfl, hA, hb⟩ := hrel
    have HA := hidIt hA
    have HB := hidIt hb
    clear hA hb
    by_cases hlt : i < n
    · have c0 : decide ((i : Int) < n) = true := by simp; omega
      obtain ⟨e, he, hdr⟩ := get_in (l := l) (i := i) (by have := HR.out.2; omega)
      obtain ⟨g, o, rfl, hg, hrg⟩ := HR.out.1.at he
      obtain ⟨q0, q1, q2, q3⟩ := ev_cells (range_bel hrg (HB.out.mono hB) hg)
      have hk : evE.k = 4 := rfl
      rw [hk] at q0 q1 q2 q3
      clear hk
      have HD := hidIt (any_drop neverB hdr)
      have hiz : (i : Int) < n := by omega
      have HWx : Hid (∀ W, Calls Tryz.prog 27 #[.agg #[.int .i64 e.day, .string e.nm, .string e.who, .bool e.wv]] W fun x w' => x = .returned (.bool (neverB e)) ∧ Below W.heap.size W w') := fun W => HW.out e W
      clear hrg he hdr hg
      generalize neverB e = q at *
      cases q
      · go_wp2_with fail
        refine (HWx.out _).mono ?_
        rintro x w1 ⟨rfl, hb1⟩
        have HB1 := hidIt (HB.out.trans (hb1.mono HB.out.size))
        clear hb1
        go_wp2
        go_roundw
        case rel => exact ⟨i + 1, by omega, by go_num, by rw [← HA.out, HD.out]; rfl, HB1.out⟩
        case measure => simp [RowKit.intOf]; omega
      · go_wp2_with fail
        refine (HWx.out _).mono ?_
        rintro x w1 ⟨rfl, hb1⟩
        have HB1 := hidIt (HB.out.trans (hb1.mono HB.out.size))
        clear hb1
        go_wp2
        go_ret
        exact ⟨⟨_, rfl, by rw [← HA.out, HD.out]; simp⟩, HB1.out⟩
    · have c0 : decide ((i : Int) < n) = false := by simp; omega
      have HD : Hid (l.drop i = []) := List.drop_eq_nil_of_le (by have := HR.out.2; omega)
      go_wp2
      go_ret
      exact ⟨⟨_, rfl, by rw [← HA.out, HD.out]; rfl⟩, HB.out⟩
theorem contains_e {B n c : Nat} {a : Option Addr} {l : List Ev} {w : World} (h : RdG evE w B (.slice a n c) l) (hB : B ≤ w.heap.size) :
    Calls Tryz.prog 29 #[.slice a n c, .func (.func 27) #[] #[]] w fun e w' => e = .returned (.bool (l.any neverB)) ∧ Below w.heap.size w w' := by
  have HI := hidIt (index_e h hB)
  clear h
  generalize l.any neverB = q at *
  go_enter Tryz.func29, Tryz.ntmps29
  go_wp2_with fail
  refine HI.out.mono ?_
  rintro e w1 ⟨⟨r, rfl, hq⟩, hb⟩
  have HQ := hidIt hq
  have HB := hidIt hb
  clear hq hb
  go_wp2
  go_ret
  exact ⟨retB HQ.out, HB.out⟩
/-- What an error is as a value. -/
def errV (p : Nat → Addr) : Option Nat → Value
  | none => .nilIface
  | some k => .iface 173 (.pointer (some (p k)))
def validK (l : List Du) (ev : List Ev) (on : Int) : Option Nat := if 200 < l.length ∨ 400 < ev.length then some 1 else if (!isDayB on || l.any wrongB || ev.any neverB) = true then some 3 else none
set_option maxHeartbeats 2000000 in
theorem valid_p {B n c m cc : Nat} {a aa : Option Addr} {l : List Du} {ev : List Ev} {on : Int} {p : Nat → Addr} {w : World} (h : RdG duE w B (.slice a n c) l) (he : RdG evE w B (.slice aa m cc) ev) (hB : B ≤ w.heap.size) (L : Laid w p) :
    Calls Tryz.prog 16 #[.slice a n c, .slice aa m cc, .int .i64 on] w fun e w' => e = .returned (errV p (validK l ev on)) ∧ Below w.heap.size w w' := by
  obtain ⟨hn, hnb⟩ := h.len
  obtain ⟨hm, hmb⟩ := he.len
  have HC1 : Hid (∀ W, Below w.heap.size w W → Calls Tryz.prog 28 #[.slice a n c, .func (.func 26) #[] #[]] W fun e w' => e = .returned (.bool (l.any wrongB)) ∧ Below W.heap.size W w') := fun W hW => contains_d (h.below (hW.mono hB)) (Nat.le_trans hB hW.size)
  have HC2 : Hid (∀ W, Below w.heap.size w W → Calls Tryz.prog 29 #[.slice aa m cc, .func (.func 27) #[] #[]] W fun e w' => e = .returned (.bool (ev.any neverB)) ∧ Below W.heap.size W w') := fun W hW => contains_e (he.below (hW.mono hB)) (Nat.le_trans hB hW.size)
  have HD := hidIt (fun w => isDay_any on w)
  have HL := hidIt L
  unfold validK
  rw [← hn, ← hm]
  clear h he hn hm L
  by_cases hbig : 200 < n ∨ 400 < m
  · rw [if_pos hbig]
    have g1 := HL.out.cell 1 (by omega)
    have g1 : w.cell? ⟨0, 0, none⟩ = some (.iface 173 (.pointer (some (p 1)))) := g1
    by_cases h1 : 200 < n
    · have h1z : (200 : Int) < n := by omega
      go_enter Tryz.func16, Tryz.ntmps16
      go_wp2
      go_ret
      exact ⟨rfl, Below.refl _ _⟩
    · have h1z : ¬ (200 : Int) < n := by omega
      have h2z : (400 : Int) < m := by omega
      go_enter Tryz.func16, Tryz.ntmps16
      go_wp2
      go_ret
      exact ⟨rfl, Below.refl _ _⟩
  · rw [if_neg hbig]
    have h1z : ¬ (200 : Int) < n := by omega
    have h2z : ¬ (400 : Int) < m := by omega
    clear hbig
    have HG : Hid (∀ W, Below w.heap.size w W → W.cell? ⟨1, 0, none⟩ = some (.iface 173 (.pointer (some (p 3))))) := fun W hW => (HL.out.below hW).cell 3 (by omega)
    generalize isDayB on = x at *
    generalize l.any wrongB = y at *
    generalize ev.any neverB = z at *
    cases x
    · have g3 := HG.out w (Below.refl _ _)
      go_enter Tryz.func16, Tryz.ntmps16
      go_wp2_with (go_at_call 21; refine (HD.out _).mono ?_; rintro e w' ⟨rfl, rfl⟩)
      go_ret
      exact ⟨rfl, Below.refl _ _⟩
    · cases y
      · go_enter Tryz.func16, Tryz.ntmps16
        go_wp2_with fail
        refine (HD.out _).mono ?_
        rintro e w1 ⟨rfl, ew⟩
        subst w1
        go_wp2_with fail
        refine (HC1.out _ (Below.refl _ _)).mono ?_
        rintro e w1 ⟨rfl, hb1⟩
        have HB1 := hidIt hb1
        clear hb1
        go_wp2_with fail
        refine (HC2.out _ HB1.out).mono ?_
        rintro e w2 ⟨rfl, hb2⟩
        have HB2 := hidIt (HB1.out.trans (hb2.mono HB1.out.size))
        clear hb2
        have g3 := HG.out w2 HB2.out
        cases z
        · go_wp2
          go_ret
          exact ⟨rfl, HB2.out⟩
        · go_wp2
          go_ret
          exact ⟨rfl, HB2.out⟩
      · go_enter Tryz.func16, Tryz.ntmps16
        go_wp2_with fail
        refine (HD.out _).mono ?_
        rintro e w1 ⟨rfl, ew⟩
        subst w1
        go_wp2_with fail
        refine (HC1.out _ (Below.refl _ _)).mono ?_
        rintro e w1 ⟨rfl, hb1⟩
        have HB1 := hidIt hb1
        have g3 := HG.out w1 hb1
        clear hb1
        go_wp2
        go_ret
        exact ⟨rfl, HB1.out⟩
end Go.Proofs.YtkaeolcchhneoaaGreatDoor
namespace Go.Proofs.YtkaeolcchhneoaaGreatDoor
open Go.RowKit

theorem Tryz.infoEv : ∃ i z, Tryz.prog.info? 75 = some i ∧ i.zero = some z ∧ i.size = 4 ∧ i.bytes = 48 ∧ z.cells.size = 4 := by
  have h : (Tryz.prog.info? 75).map (fun i => (i.zero, i.size, i.bytes)) = some (some (.agg #[.int .i64 0, .string ⟨#[]⟩, .string ⟨#[]⟩, .bool false]), 4, 48) := by kernel_rfl
  obtain ⟨i, h1, h2⟩ := Option.map_eq_some_iff.1 h
  simp only [Prod.mk.injEq] at h2
  exact ⟨i, _, h1, h2.1, h2.2.1, h2.2.2, rfl⟩
/-- pastOf under way: the result's box and its own. -/
structure PstS (w W : World) (on : Int) (sv : Value) : Prop where
  r : W.rangeAt w.heap.size 0 [.slice none 0 0, .int .i64 0]
  fr : ∀ k, W.frozen? ⟨w.heap.size, k, none⟩ = false
  s : W.rangeAt (w.heap.size + 1) 0 [sv, .int .i64 on]
  fs : ∀ k, W.frozen? ⟨w.heap.size + 1, k, none⟩ = false
  bel : Below w.heap.size w W
  lt : w.heap.size + 2 ≤ W.heap.size
theorem frozen_new (W : World) (cs : Array Value) (T k : Nat) : (W.alloc (.cells cs T)).frozen? ⟨W.heap.size, k, none⟩ = false := frozen_of_row _ W.heap.size k cs T (Go.Deep.blk_alloc_new W _)
theorem PstS.mk' (w : World) (on : Int) (T : Nat) : PstS w ((w.alloc (.cells #[.slice none 0 0, .int .i64 0] T)).alloc (.cells #[.slice none 0 0, .int .i64 on] T)) on (.slice none 0 0) := by
  have hs : (w.alloc (.cells #[.slice none 0 0, .int .i64 0] T)).heap.size = w.heap.size + 1 := by simp
  refine ⟨range_bel (alloc_range w [.slice none 0 0, .int .i64 0] T) (bel1 _ _) (by rw [hs]; omega), fun k => ?_, ?_, fun k => ?_, (bel1 w _).trans ((bel1 _ _).mono (by rw [hs]; omega)), by simp⟩
  · rw [(bel1 _ _).frozen (p := ⟨w.heap.size, k, none⟩) (by show w.heap.size < _; rw [hs]; omega)]
    exact frozen_new ..
  · have := alloc_range (w.alloc (.cells #[.slice none 0 0, .int .i64 0] T)) [.slice none 0 0, .int .i64 on] T
    rwa [hs] at this
  · have := frozen_new (w.alloc (.cells #[.slice none 0 0, .int .i64 0] T)) #[.slice none 0 0, .int .i64 on] T k
    rwa [hs] at this
theorem PstS.on {w W W' : World} {on : Int} {sv : Value} (h : PstS w W on sv) (hb : Below (w.heap.size + 2) W W') : PstS w W' on sv :=
  ⟨range_bel h.r hb (by omega), fun k => (hb.frozen (p := ⟨w.heap.size, k, none⟩) (show w.heap.size < _ by omega)).trans (h.fr k), range_bel h.s hb (by omega), fun k => (hb.frozen (p := ⟨w.heap.size + 1, k, none⟩) (show w.heap.size + 1 < _ by omega)).trans (h.fs k), h.bel.trans (hb.mono (by omega)), Nat.le_trans h.lt hb.size⟩
theorem PstS.set {w W : World} {on : Int} {sv : Value} (h : PstS w W on sv) (v : Value) : PstS w (W.setCell ⟨w.heap.size + 1, 0, none⟩ v) on v := by
  have o : ∀ x : Addr, x ≠ ⟨w.heap.size + 1, 0, none⟩ → (W.setCell ⟨w.heap.size + 1, 0, none⟩ v).cell? x = W.cell? x := fun x hx => World.cell?_setCell_other _ _ _ _ (fun e => hx e.symm)
  refine ⟨fun j u hu => (o _ (by intro e; injection e with e1 e2; omega)).trans (h.r j u hu), fun k => by simpa using h.fr k, fun j u hu => ?_, fun k => by simpa using h.fs k, h.bel.setCell (Nat.le_succ _) _, by simpa using h.lt⟩
  match j, hu with
  | 0, hu =>
    obtain rfl : v = u := by simpa using hu
    exact World.cell?_setCell_same _ _ _ (h.s 0 _ rfl)
  | 1, hu =>
    obtain rfl : Value.int .i64 on = u := by simpa using hu
    exact (o _ (by intro e; injection e; omega)).trans (h.s 1 _ rfl)
theorem upE_take {ev : List Ev} {on : Int} {i : Nat} {e : Ev} (h : ev[i]? = some e) : upE (ev.take (i + 1)) on = if e.day ≤ on then upE (ev.take i) on ++ [e] else upE (ev.take i) on := by
  unfold upE
  rw [List.take_add_one, h, List.filter_append]
  by_cases hd : e.day ≤ on
  · rw [if_pos hd]; simp [hd]
  · rw [if_neg hd]; simp [hd]
theorem upE_len (ev : List Ev) (on : Int) : (upE ev on).length ≤ ev.length := List.length_filter_le ..
set_option maxHeartbeats 4000000 in
theorem pastOf_p {B n c : Nat} {a : Option Addr} {ev : List Ev} {w : World} (on : Int) (h : RdG evE w B (.slice a n c) ev) (hB : B ≤ w.heap.size) (hn4 : n ≤ 400) :
    Calls Tryz.prog 19 #[.slice a n c, .int .i64 on] w fun e w' => (∃ a' n' c', e = .returned (.agg #[.slice a' n' c', .int .i64 on]) ∧ RdG evE w' w'.heap.size (.slice a' n' c') (upE ev on)) ∧ Below w.heap.size w w' := by
  obtain ⟨hn, _⟩ := h.len
  have HR := hidIt (And.intro h hn)
  have HX := hidIt (PstS.mk' w on 72)
  clear h hn
  go_enter Tryz.func19, Tryz.ntmps19
  go_wp2_with fail
  go_loopw [12] (fun t wr => ∃ (i : Nat) (sv : Value), i ≤ n ∧ t = .int .i64 i ∧ PstS w wr on sv ∧ RowG evE 75 wr (w.heap.size + 2) sv (upE (ev.take i) on)) (fun t _ => n - (RowKit.intOf t).toNat)
  case atStart => exact ⟨0, _, by omega, rfl, HX.out, RowG.nil _ _⟩
  case round =>
    obtain ⟨i, sv, hi, rfl, hX, hrow⟩ := hrel
    obtain ⟨sa, sn, sc, rfl, hsn⟩ := hrow.any3
    have HSn := hidIt hsn
    clear hsn
    have HX1 := hidIt hX
    have HRow := hidIt hrow
    have hlt1 := hX.lt
    have hlen := upE_len (ev.take i) on
    have hlen2 : (upE (ev.take i) on).length ≤ 400 := by rw [List.length_take] at hlen; omega
    clear hX hrow HX hlen
    by_cases hlt : i < n
    · have c0 : decide ((i : Int) < n) = true := by simp; omega
      obtain ⟨e, he, _⟩ := get_in (l := ev) (i := i) (by have := HR.out.2; omega)
      obtain ⟨g, o, rfl, hg, hrg⟩ := HR.out.1.at he
      obtain ⟨e0, e1, e2, e3⟩ := ev_cells (range_bel hrg (HX1.out.bel.mono hB) hg)
      have hk : evE.k = 4 := rfl
      rw [hk] at e0 e1 e2 e3
      have HT := hidIt (upE_take (on := on) he)
      have hiz : (i : Int) < n := by omega
      obtain ⟨ed, en, ew, ev'⟩ := e
      simp only at e0 e1 e2 e3
      have hq : ∀ ob : Obj, PstS w (wr.alloc ob) on (.slice sa sn sc) := fun ob => HX1.out.on ((bel1 wr ob).mono (by omega))
      have q0 := fun ob => (hq ob).s 0 _ rfl
      have qf := fun ob => (hq ob).fs 0
      have q0 : ∀ ob : Obj, (wr.alloc ob).cell? ⟨w.heap.size + 1, 0, none⟩ = some (.slice sa sn sc) := q0
      clear hrg he hg hk
      by_cases hd : ed ≤ on
      · go_wp2_with (at_builtin; refine wpList_push_g (E := evE) Tryz.infoEv (by decide) Tryz.underlying41 rfl (.tmp 21) (.tmp 23) rfl (w.heap.size + 2) (.slice sa sn sc) (upE (ev.take i) on) ⟨ed, en, ew, ev'⟩ _ rfl rfl (HRow.out.below (bel1 _ _)) (by first | (simp [Act.eval]; done) | simp [Act.eval, Act.put]) (by simp; omega) (by omega) ?_; intro v' w5 hr5 hb5 _ _; obtain ⟨pa5, pn5, pc5, rfl, hp5⟩ := hr5.any3; have HR5 := hidIt hr5; have HX5 := hidIt ((hq (.cells #[.int .i64 ed, .string en, .string ew, .bool ev'] 75)).on (hb5.mono (Nat.le_refl _))); have HP5 := hidIt hp5; clear hr5 hb5 hp5; have z0 : w5.cell? ⟨w.heap.size + 1, 0, none⟩ = some (.slice sa sn sc) := HX5.out.s 0 _ rfl; have zf := HX5.out.fs 0)
        refine ⟨⟨i + 1, .slice pa5 pn5 pc5, by omega, by go_num, HX5.out.set _, ?_⟩, by simp [RowKit.intOf]; omega⟩
        rw [HT.out, if_pos hd]
        refine HR5.out.on fun g' _ hb' _ => Below.heap_setCell _ _ _ _ ?_
        show g' ≠ w.heap.size + 1
        omega
      · go_wp2
        refine ⟨⟨i + 1, .slice sa sn sc, by omega, by go_num, hq _, ?_⟩, by simp [RowKit.intOf]; omega⟩
        rw [HT.out, if_neg hd]
        exact HRow.out.below (bel1 _ _)
    · have c0 : decide ((i : Int) < n) = false := by simp; omega
      have HT : Hid (ev.take i = ev) := List.take_of_length_le (by have := HR.out.2; omega)
      have s0 : wr.cell? ⟨w.heap.size + 1, 0, none⟩ = some (.slice sa sn sc) := HX1.out.s 0 _ rfl
      have s1 : wr.cell? ⟨w.heap.size + 1, 1, none⟩ = some (.int .i64 on) := HX1.out.s 1 _ rfl
      have r0 : wr.cell? ⟨w.heap.size, 0, none⟩ = some (.slice none 0 0) := HX1.out.r 0 _ rfl
      have r1 : wr.cell? ⟨w.heap.size, 1, none⟩ = some (.int .i64 0) := HX1.out.r 1 _ rfl
      have fr := HX1.out.fr
      go_wp2
      refine bodyPost_ret (v := .agg #[.slice sa sn sc, .int .i64 on]) (by simp [results, Tryz.results19, go_sem, r0, r1]) rfl ⟨⟨sa, sn, sc, rfl, ?_⟩, ?_⟩
      · have hrd := HRow.out.rd
        rw [HT.out] at hrd
        have hrow := HRow.out
        rw [HT.out] at hrow
        have h2 : RowG evE 75 ((wr.setCell ⟨w.heap.size, 0, none⟩ (.slice sa sn sc)).setCell ⟨w.heap.size, 1, none⟩ (.int .i64 on)) (w.heap.size + 2) (.slice sa sn sc) (upE ev on) := hrow.on fun g' _ hb' _ => by
          rw [Below.heap_setCell _ _ _ _ (by show g' ≠ w.heap.size; omega), Below.heap_setCell _ _ _ _ (by show g' ≠ w.heap.size; omega)]
        exact h2.rd
      · exact (HX1.out.bel.setCell (Nat.le_refl _) _).setCell (Nat.le_refl _) _
end Go.Proofs.YtkaeolcchhneoaaGreatDoor
