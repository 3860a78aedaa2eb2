/-
  Duties, the program: the first day on which a duty was done or let off.
-/
import Derived.Test.YtkaeolcchhneoaaGreatDoorDuMem
import Derived.Test.YtkaeolcchhneoaaGreatDoorBel1
import Derived.Lib.Bytes
namespace Go.Proofs.YtkaeolcchhneoaaGreatDoor
open Go.RowKit

theorem toList_ne {a b : ByteArray} (h : ¬ a = b) : ¬ a.toList = b.toList := fun e => h (by
  rw [Lib.toList_data, Lib.toList_data] at e
  exact ByteArray.ext (Array.toList_inj.1 e))
theorem toList_eq {a b : ByteArray} (h : a.toList = b.toList) : a = b := by
  rw [Lib.toList_data, Lib.toList_data] at h
  exact ByteArray.ext (Array.toList_inj.1 h)
theorem range_bel {w w' : World} {B b o : Nat} {cs : List Value} (h : w.rangeAt b o cs) (hb : Below B w w') (hl : b < B) : w'.rangeAt b o cs := range_on h (hb.block b hl)
theorem get_in {α : Type} {l : List α} {i : Nat} (h : i < l.length) : ∃ x, l[i]? = some x ∧ l.drop i = x :: l.drop (i + 1) := ⟨l[i], List.getElem?_eq_getElem h, List.drop_eq_getElem_cons h⟩
/-- What was done, and a duty, in their boxes. -/
structure PBox (w W : World) (ps : List Value) (d : Du) : Prop where
  p : W.rangeAt w.heap.size 0 ps
  d : W.rangeAt (w.heap.size + 1) 0 (duE.f d)
  bel : Below w.heap.size w W
  lt : w.heap.size + 2 ≤ W.heap.size
theorem PBox.mk' (w : World) (ps : List Value) (d : Du) (T1 T2 : Nat) : PBox w ((w.alloc (.cells ps.toArray T1)).alloc (.cells (duE.f d).toArray T2)) ps d := by
  refine ⟨range_bel (alloc_range w ps T1) (bel1 _ _) (by simp), ?_, (bel1 w _).trans ((bel1 _ _).mono (by simp)), by simp⟩
  have := alloc_range (w.alloc (.cells ps.toArray T1)) (duE.f d) T2
  simpa using this
theorem PBox.on {w W W' : World} {ps : List Value} {d : Du} (h : PBox w W ps d) (hb : Below W.heap.size W W') : PBox w W' ps d :=
  ⟨range_bel h.p hb (by have := h.lt; omega), range_bel h.d hb (by have := h.lt; omega), h.bel.trans (hb.mono h.bel.size), Nat.le_trans h.lt hb.size⟩
set_option maxHeartbeats 4000000 in
theorem first_p {B n c : Nat} {a : Option Addr} {ev : List Ev} {w : World} (d : Du) (wv : Bool) (on : Int) (h : RdG evE w B (.slice a n c) ev) (hB : B ≤ w.heap.size) :
    Calls Tryz.prog 43 #[.agg #[.slice a n c, .int .i64 on], .agg (duE.f d).toArray, .bool wv] w fun e w' => e = .returned (.tuple #[.int .i64 (fst0 d wv ev).1, .bool (fst0 d wv ev).2]) ∧ Below w.heap.size w w' := by
  obtain ⟨hn, hbig⟩ := h.len
  have HR := hidIt (And.intro h hn)
  have HX := hidIt (PBox.mk' w [.slice a n c, .int .i64 on] d 72 57)
  obtain ⟨R, hR⟩ : ∃ R, R = fst0 d wv ev := ⟨_, rfl⟩
  have HF := hidIt hR
  rw [← hR]
  obtain ⟨dn, dw, df, dt, de, dN, dU, dR⟩ := d
  obtain ⟨r1, r2⟩ := R
  clear h hn hR
  have x0 := HX.out.p 0 _ rfl
  show Calls Tryz.prog 43 #[.agg #[.slice a n c, .int .i64 on], .agg #[.string dn, .string dw, .int .i64 df, .int .i64 dt, .string de, .int .i64 dN, .int .i64 dU, .int .i64 dR], .bool wv] w _
  go_enter Tryz.func43, Tryz.ntmps43
  go_wp2_with fail
  go_loopw [8, 9, 15] (fun t8 t9 t15 wr => ∃ (x : Int) (b : Bool) (i : Nat), i ≤ n ∧ t8 = .int .i64 x ∧ t9 = .bool b ∧ t15 = .int .i64 i ∧ fstF ⟨dn, dw, df, dt, de, dN, dU, dR⟩ wv (ev.drop i) (x, b) = (r1, r2) ∧ PBox w wr [.slice a n c, .int .i64 on] ⟨dn, dw, df, dt, de, dN, dU, dR⟩) (fun _ _ t15 _ => n - (RowKit.intOf t15).toNat)
  case atStart => exact ⟨0, false, 0, by omega, rfl, rfl, rfl, HF.out.symm, HX.out⟩
  case round =>
    obtain ⟨x, b, i, hi, rfl, rfl, rfl, hF, hX⟩ := hrel
    have HF1 := hidIt hF
    have HX1 := hidIt hX
    clear hF hX HF HX x0
    by_cases hlt : i < n
    · have c0 : decide ((i : Int) < n) = true := by simp; omega
      obtain ⟨e, he, hdr⟩ := get_in (l := ev) (i := i) (by have := HR.out.2; omega)
      obtain ⟨g, o, rfl, hg, hrg⟩ := HR.out.1.at he
      have hrg := range_bel hrg (HX1.out.bel.mono hB) hg
      obtain ⟨e0, e1, e2, e3⟩ := ev_cells hrg
      have HD := hidIt hdr
      have hlt1 := HX1.out.lt
      obtain ⟨ed, en, ew, ewv⟩ := e
      have hq : ∀ ob : Obj, (wr.alloc ob).rangeAt (w.heap.size + 1) 0 (duE.f ⟨dn, dw, df, dt, de, dN, dU, dR⟩) := fun ob => range_bel HX1.out.d (bel1 wr ob) (by omega)
      have q0 := fun ob => (du_cells0 (hq ob)).1
      have q1 := fun ob => (du_cells0 (hq ob)).2.1
      have q2 := fun ob => (du_cells0 (hq ob)).2.2.1
      have HN : Hid (∀ ob, PBox w (wr.alloc ob) [.slice (some ⟨g, o, none⟩) n c, .int .i64 on] ⟨dn, dw, df, dt, de, dN, dU, dR⟩) := fun ob => HX1.out.on (bel1 _ _)
      have hiz : (i : Int) < n := by omega
      clear hrg he hdr hg hq
      have hk : evE.k = 4 := rfl
      rw [hk] at e0 e1 e2 e3
      clear hk
      simp only at e0 e1 e2 e3 q0 q1 q2
      go_wp2_with fail
      all_goals
        refine ⟨⟨_, _, i + 1, by omega, rfl, rfl, by go_num, ?_, HN.out _⟩, by simp [RowKit.intOf]; omega⟩
        have hF := HF1.out
        rw [HD.out, fstF_cons] at hF
        cases b
        all_goals first
          | (exfalso; contradiction)
          | skip
        all_goals
          split at hF
          · rename_i hc
            obtain ⟨hm, hc⟩ := hc
            obtain ⟨m1, m2, m3, m4⟩ := mtB_iff.1 hm
            have m2 := congrArg ByteArray.toList m2
            have m3 := congrArg ByteArray.toList m3
            simp only at m1 m2 m3 m4 hc
            first
              | exact hF
              | contradiction
              | omega
              | (rcases hc with hc | hc
                 · cases hc
                 · omega)
          · rename_i hc
            first
              | exact hF
              | (exfalso
                 apply hc
                 refine ⟨mtB_iff.2 ⟨?_, ?_, ?_, ?_⟩, ?_⟩
                 · assumption
                 · apply toList_eq; assumption
                 · apply toList_eq; assumption
                 · assumption
                 · first
                     | (right; assumption)
                     | (left; rfl))
    · have c0 : decide ((i : Int) < n) = false := by simp; omega
      have hd : ev.drop i = [] := List.drop_eq_nil_of_le (by have := HR.out.2; omega)
      have HE : Hid ((x, b) = (r1, r2)) := by have := HF1.out; rw [hd] at this; exact this
      clear hd
      go_wp2
      go_ret2
      obtain ⟨rfl, rfl⟩ : x = r1 ∧ b = r2 := by have := HE.out; injection this; exact ⟨by assumption, by assumption⟩
      exact ⟨rfl, HX1.out.bel⟩
end Go.Proofs.YtkaeolcchhneoaaGreatDoor
