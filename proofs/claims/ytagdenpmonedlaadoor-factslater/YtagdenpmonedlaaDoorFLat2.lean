/-
  Facts: the reference's Value, Others.
-/
import Derived.Test.YtagdenpmonedlaaDoorFLat
namespace Go.Proofs.YtagdenpmonedlaaDoor
open Go.RowKit

set_option maxHeartbeats 2000000 in
set_option maxRecDepth 100000 in
theorem value_r {B b : Nat} {w : World} {L : List Fct} {sv : Value} (h : FFile 36 B w b L sv) (hl : L.length ≤ 500) (who : Int) (nm : ByteArray) (on known : Int) :
    Calls Tryd.prog 11 #[.pointer (some ⟨b, 0, none⟩), .int .i64 who, .string nm, .int .i64 on, .int .i64 known] w fun e w' => e = .returned (.tuple #[.int .i64 (valL L who nm on known).1, .bool (valL L who nm on known).2]) ∧ Below w.heap.size w w' := by
  have HC := hidLL (latest_r h hl who nm (-1) on known)
  obtain ⟨a, c, rfl, hr, hc, _⟩ := h.row.slice
  have hcell := h.cell
  have hbin := h.inH
  have HR := hidLL hr
  clear h hr
  obtain ⟨n, hn⟩ : ∃ n, n = L.length := ⟨_, rfl⟩
  rw [← hn] at hl hc hcell
  have HN := hidLL hn
  clear hn
  have HV : Hid (valL L who nm on known = match latestL L who nm (-1) on known with | none => (0, false) | some x => (x.val, true)) := rfl
  generalize valL L who nm on known = V at *
  generalize latestL L who nm (-1) on known = la at *
  go_enter Tryd.func11, Tryd.ntmps11
  go_wp2_with fail
  refine HC.out.mono ?_
  rintro e w1 ⟨⟨k, rfl, hk⟩, hb⟩
  have HB := hidLL hb
  clear hb HC
  rcases hk with ⟨rfl, rfl⟩ | ⟨j, y, rfl, hy, rfl⟩
  · go_wp2
    go_ret2
    exact ⟨by rw [HV.out]; rfl, HB.out⟩
  · have hjl : j < n := by have := (List.getElem?_eq_some_iff.1 hy).1; rw [HN.out]; exact this
    obtain ⟨g, o, rfl, hg, _, _, _, y3, _, _, _⟩ := HR.out.cells hy
    rw [← HB.out.cell (p := ⟨g, o + j * 7 + 3, none⟩) hg] at y3
    have hcr := (HB.out.cell (p := ⟨b, 0, none⟩) hbin).trans hcell
    have hjz : (j : Int) < n := by omega
    have hj0 : ¬ ((j : Int) < 0) := by omega
    clear hy
    obtain ⟨yw, yn, yo, yv, yf, yt, yl⟩ := y
    simp only at y3
    go_wp2
    go_ret2
    exact ⟨by rw [HV.out]; rfl, HB.out⟩
def othersTo (L : List Fct) (who : Int) (nm : ByteArray) (on known : Int) (o : Nat) : List Int := ((List.range o).filter (stands L who nm on known)).map (fun o : Nat => (o : Int))
theorem othersTo_snoc (L : List Fct) (who : Int) (nm : ByteArray) (on known : Int) (o : Nat) : othersTo L who nm on known (o + 1) = othersTo L who nm on known o ++ (if stands L who nm on known o = true then [(o : Int)] else []) := by
  unfold othersTo
  rw [List.range_succ, List.filter_append, List.map_append]
  congr 1
  by_cases h : stands L who nm on known o = true
  · rw [if_pos h, List.filter_cons_of_pos h]; rfl
  · rw [if_neg h, List.filter_cons_of_neg h]; rfl
theorem othersTo_len (L : List Fct) (who : Int) (nm : ByteArray) (on known : Int) (o : Nat) : (othersTo L who nm on known o).length ≤ o := by
  unfold othersTo
  rw [List.length_map]
  refine Nat.le_trans (List.length_filter_le ..) ?_
  rw [List.length_range]
  exact Nat.le_refl _
set_option maxHeartbeats 4000000 in
set_option maxRecDepth 100000 in
theorem others_r {B b : Nat} {w : World} {L : List Fct} {sv : Value} (h : FFile 36 B w b L sv) (hl : L.length ≤ 500) (who : Int) (nm : ByteArray) (on known : Int) :
    Calls Tryd.prog 14 #[.pointer (some ⟨b, 0, none⟩), .int .i64 who, .string nm, .int .i64 on, .int .i64 known] w fun e w' => ∃ sv', e = .returned sv' ∧ IRead w' sv' (othersL L who nm on known) ∧ Below w.heap.size w w' := by
  have HC : Hid (∀ (W : World) (o : Int), Below w.heap.size w W → Calls Tryd.prog 25 #[.pointer (some ⟨b, 0, none⟩), .int .i64 who, .string nm, .int .i64 o, .int .i64 on, .int .i64 known] W fun e w' => (∃ k, e = .returned (.int .i64 k) ∧ BestIs L k (latestL L who nm o on known)) ∧ Below W.heap.size W w') := fun W o hW => latest_r (h.bel hW) hl who nm o on known
  obtain ⟨a, c, rfl, hr, hc, _⟩ := h.row.slice
  have hcell := h.cell
  have hbin := h.inH
  have HR := hidLL hr
  clear h hr
  obtain ⟨n, hn⟩ : ∃ n, n = L.length := ⟨_, rfl⟩
  rw [← hn] at hl hc hcell
  have HN := hidLL hn
  clear hn
  go_enter Tryd.func14, Tryd.ntmps14
  go_wp2_with fail
  go_loopw [11, 12] (fun s t wr => ∃ o : Nat, o ≤ 40 ∧ t = .int .i64 o ∧ IRow w.heap.size wr s (othersTo L who nm on known o) ∧ Below w.heap.size w wr)
    (fun _ t _ => (40 - RowKit.intOf t).toNat)
  case atStart => exact ⟨0, by omega, rfl, World.ownsRow_nil _ _ _ _, Below.refl _ _⟩
  case round =>
    obtain ⟨o, ho, rfl, hrow, hbel⟩ := hrel
    have HRow := hidLL hrow
    have HB := hidLL hbel
    have hsz := hbel.size
    clear hrow hbel
    by_cases hin : o < 40
    · have hiz : (o : Int) < 40 := by omega
      have HL := hidLL (HC.out wr o HB.out)
      have HS := hidLL (othersTo_snoc L who nm on known o)
      have HSt : Hid (stands L who nm on known o = match latestL L who nm o on known with | none => false | some x => !decide (x.val = 0)) := rfl
      generalize stands L who nm on known o = st at *
      generalize latestL L who nm o on known = la at *
      have hle := othersTo_len L who nm on known o
      go_wp2_with fail
      refine HL.out.mono ?_
      rintro e w1 ⟨⟨k, rfl, hk⟩, hb⟩
      have HB1 := hidLL (And.intro (HB.out.trans (hb.mono hsz)) (show IRow w.heap.size w1 u11 (othersTo L who nm on known o) from row_step HRow.out fun g _ hg => hb.block g hg))
      have hs1 : w.heap.size ≤ w1.heap.size := Nat.le_trans hsz hb.size
      clear hb HL
      rcases hk with ⟨rfl, rfl⟩ | ⟨j, y, rfl, hy, rfl⟩
      · have hst : st = false := HSt.out
        subst hst
        go_wp2_with fail
        go_roundw
        case rel => exact ⟨o + 1, by omega, by go_num, by rw [HS.out]; simpa using HB1.out.2, HB1.out.1⟩
        case measure => simp [RowKit.intOf]; omega
      · have hjl : j < n := by have := (List.getElem?_eq_some_iff.1 hy).1; rw [HN.out]; exact this
        obtain ⟨g, o1, rfl, hg, _, _, _, y3, _, _, _⟩ := HR.out.cells hy
        rw [← HB1.out.1.cell (p := ⟨g, o1 + j * 7 + 3, none⟩) hg] at y3
        have hcr := (HB1.out.1.cell (p := ⟨b, 0, none⟩) hbin).trans hcell
        have hjz : (j : Int) < n := by omega
        have hj0 : ¬ ((j : Int) < 0) := by omega
        have hj1 : (0 : Int) ≤ j := by omega
        clear hy
        by_cases hv : y.val = 0
        · have hst : st = false := by rw [HSt.out]; simp [hv]
          subst hst
          obtain ⟨yw, yn, yo, yv, yf, yt, yl⟩ := y
          simp only at y3 hv
          go_wp2_with fail
          go_roundw
          case rel => exact ⟨o + 1, by omega, by go_num, by rw [HS.out]; simpa using HB1.out.2, HB1.out.1⟩
          case measure => simp [RowKit.intOf]; omega
        · have hst : st = true := by rw [HSt.out]; simp [hv]
          subst hst
          obtain ⟨yw, yn, yo, yv, yf, yt, yl⟩ := y
          simp only at y3 hv
          have hv2 : (yv != 0) = true := by simpa using hv
          go_wp2_with (first
            | (at_builtin; refine wpList_push_int rfl _ _ rfl w.heap.size u11 (othersTo L who nm on known o) (o : Int) rfl HB1.out.2 (by simp [Act.eval]) hs1 (by omega) ?_; intro v' w3 hr3 hb3 hg3)
            | go_in)
          have HR3 := hidLL (And.intro hr3 hb3)
          clear hr3 hb3 hg3
          go_roundw
          case rel => exact ⟨o + 1, by omega, by go_num, by rw [HS.out]; exact HR3.out.1, HB1.out.1.trans HR3.out.2⟩
          case measure => simp [RowKit.intOf]; omega
    · obtain rfl : o = 40 := by omega
      go_wp2
      go_ret
      exact ⟨_, rfl, IRow.read HRow.out, HB.out⟩
end Go.Proofs.YtagdenpmonedlaaDoor
