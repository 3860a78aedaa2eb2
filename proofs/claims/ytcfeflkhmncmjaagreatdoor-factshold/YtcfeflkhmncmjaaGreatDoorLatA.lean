/-
  Facts: the reference's latest, Value, Others.
-/
import Derived.Test.YtcfeflkhmncmjaaGreatDoorFaA
import Derived.Test.YtcfeflkhmncmjaaGreatDoorValA
import Derived.BigQuiet
namespace Go.Proofs.YtcfeflkhmncmjaaGreatDoor
open Go.RowKit

/-- The number of the best fact so far. -/
def BestIs (L : List Fct) (k : Int) (r : Option Fct) : Prop := (k = -1 ∧ r = none) ∨ ∃ (j : Nat) (y : Fct), k = j ∧ L[j]? = some y ∧ r = some y
theorem step_eq {L : List Fct} {i : Nat} {x : Fct} (hx : L[i]? = some x) {who : Int} {nm : ByteArray} {oth on known : Int} (h : soB x who nm on known = true) (ho : x.oth = oth) :
    latestL (L.take (i + 1)) who nm oth on known = pick (latestL (L.take i) who nm oth on known) x := by
  rw [latest_snoc L i x hx]
  unfold stepL
  rw [if_pos ⟨h, ho⟩]
theorem step_ne {L : List Fct} {i : Nat} {x : Fct} (hx : L[i]? = some x) {who : Int} {nm : ByteArray} {oth on known : Int} (h : ¬ (soB x who nm on known = true ∧ x.oth = oth)) :
    latestL (L.take (i + 1)) who nm oth on known = latestL (L.take i) who nm oth on known := by
  rw [latest_snoc L i x hx]
  unfold stepL
  rw [if_neg h]
set_option maxHeartbeats 8000000 in
set_option maxRecDepth 100000 in
theorem latest_r {B b : Nat} {w : World} {L : List Fct} {sv : Value} (h : FFile 55 B w b L sv) (hl : L.length ≤ 500) (who : Int) (nm : ByteArray) (oth on known : Int) :
    Calls Tryz.prog 43 #[.pointer (some ⟨b, 0, none⟩), .int .i64 who, .string nm, .int .i64 oth, .int .i64 on, .int .i64 known] w fun e w' => (∃ k, e = .returned (.int .i64 k) ∧ BestIs L k (latestL L who nm oth on known)) ∧ Below w.heap.size w w' := by
  obtain ⟨a, c, rfl, hr, hc, _⟩ := h.row.slice
  have hcell := h.cell
  have hbin := h.inH
  have HR := hidLL hr
  clear h hr
  obtain ⟨n, hn⟩ : ∃ n, n = L.length := ⟨_, rfl⟩
  rw [← hn] at hl hc hcell
  have HN := hidLL hn
  clear hn
  go_enter Tryz.func43, Tryz.ntmps43
  go_wp2_with fail
  go_loopw [13, 14] (fun s t wr => ∃ (i : Nat) (k : Int), i ≤ n ∧ t = .int .i64 i ∧ s = .int .i64 k ∧ BestIs L k (latestL (L.take i) who nm oth on known) ∧ Below w.heap.size w wr)
    (fun _ t _ => (n - RowKit.intOf t).toNat)
  case atStart => exact ⟨0, -1, Nat.zero_le _, rfl, rfl, .inl ⟨rfl, rfl⟩, Below.refl _ _⟩
  case round =>
    obtain ⟨i, k, hi, rfl, rfl, hbest, hbel⟩ := hrel
    have HBe := hidLL hbest
    have HB := hidLL hbel
    have hsz := hbel.size
    have hcr := (hbel.cell (p := ⟨b, 0, none⟩) hbin).trans hcell
    have hbr : b < wr.heap.size := by omega
    clear hbest hbel
    by_cases hin : i < n
    · have hiz : (i : Int) < n := by omega
      obtain ⟨x, hx⟩ : ∃ x, L[i]? = some x := ⟨_, List.getElem?_eq_getElem (by have := HN.out; omega)⟩
      obtain ⟨g, o, rfl, hg, x0, x1, x2, x3, x4, x5, x6⟩ := HR.out.cells hx
      rw [← HB.out.cell (p := ⟨g, o + i * 7, none⟩) hg] at x0
      rw [← HB.out.cell (p := ⟨g, o + i * 7 + 1, none⟩) hg] at x1
      rw [← HB.out.cell (p := ⟨g, o + i * 7 + 2, none⟩) hg] at x2
      rw [← HB.out.cell (p := ⟨g, o + i * 7 + 3, none⟩) hg] at x3
      rw [← HB.out.cell (p := ⟨g, o + i * 7 + 4, none⟩) hg] at x4
      rw [← HB.out.cell (p := ⟨g, o + i * 7 + 5, none⟩) hg] at x5
      rw [← HB.out.cell (p := ⟨g, o + i * 7 + 6, none⟩) hg] at x6
      have hgr : g < wr.heap.size := Nat.lt_of_lt_of_le hg HB.out.size
      have HX := hidLL hx
      have HE := hidLL (soB_eq x who nm on known)
      clear hx
      by_cases hmat : soB x who nm on known = true ∧ x.oth = oth
      · have HS := hidLL (step_eq HX.out hmat.1 hmat.2)
        have he := HE.out
        rw [hmat.1] at he
        have ho := hmat.2
        simp [isSoB] at he
        obtain ⟨⟨e1, e2⟩, ⟨e3, e4⟩, e5⟩ := he
        subst e1
        subst e2
        subst ho
        clear HE hmat
        rcases HBe.out with ⟨hk, hno⟩ | ⟨j, y, hk, hy, hj⟩
        · subst hk
          have HNew : Hid (BestIs L (i : Int) (latestL (L.take (i + 1)) x.who x.nm x.oth on known)) := by
            show BestIs _ _ _
            rw [HS.out, hno]
            exact .inr ⟨i, x, rfl, HX.out, rfl⟩
          clear hno HS HX HBe
          obtain ⟨xw, xn, xo, xv, xf, xt, xl⟩ := x
          simp only at x0 x1 x2 x3 x4 x5 x6 HNew e3 e4 e5
          by_cases e6 : xt = 0
          · subst e6
            clear e5
            go_wp2_with fail
            go_quiet (fail)
            go_wp2_with fail
            go_roundw
            case rel => exact ⟨i + 1, i, by omega, by go_num, rfl, HNew.out, bdrewN (HB.out.alloc hsz _) _⟩
            case measure => simp [RowKit.intOf]; omega
          · have e7 : on < xt := by omega
            have e8 : (xt != 0) = true := by simpa using e6
            clear e5
            go_wp2_with fail
            go_quiet (fail)
            go_wp2_with fail
            go_roundw
            case rel => exact ⟨i + 1, i, by omega, by go_num, rfl, HNew.out, bdrewN (HB.out.alloc hsz _) _⟩
            case measure => simp [RowKit.intOf]; omega
        · subst hk
          have hjl : j < n := by have := (List.getElem?_eq_some_iff.1 hy).1; rw [HN.out]; exact this
          obtain ⟨g2, o2, eg, _, _, _, _, _, _, _, y6⟩ := HR.out.cells hy
          injection eg with eg
          injection eg with eg1 eg2
          subst eg1
          subst eg2
          rw [← HB.out.cell (p := ⟨g, o + j * 7 + 6, none⟩) hg] at y6
          have hjz : (j : Int) < n := by omega
          have hj0 : ¬ ((j : Int) < 0) := by omega
          by_cases hyl : y.lrn ≤ x.lrn
          · have HNew : Hid (BestIs L (i : Int) (latestL (L.take (i + 1)) x.who x.nm x.oth on known)) := by
              show BestIs _ _ _
              rw [HS.out, hj]
              exact .inr ⟨i, x, rfl, HX.out, by unfold pick; simp only; rw [if_pos hyl]⟩
            clear hj HS HX HBe hy
            obtain ⟨xw, xn, xo, xv, xf, xt, xl⟩ := x
            generalize y.lrn = yl at *
            simp only at x0 x1 x2 x3 x4 x5 x6 HNew e3 e4 e5 hyl
            by_cases e6 : xt = 0
            · subst e6
              clear e5
              go_wp2_with fail
              go_quiet (fail)
              go_wp2_with fail
              go_roundw
              case rel => exact ⟨i + 1, i, by omega, by go_num, rfl, HNew.out, bdrewN (HB.out.alloc hsz _) _⟩
              case measure => simp [RowKit.intOf]; omega
            · have e7 : on < xt := by omega
              have e8 : (xt != 0) = true := by simpa using e6
              clear e5
              go_wp2_with fail
              go_quiet (fail)
              go_wp2_with fail
              go_roundw
              case rel => exact ⟨i + 1, i, by omega, by go_num, rfl, HNew.out, bdrewN (HB.out.alloc hsz _) _⟩
              case measure => simp [RowKit.intOf]; omega
          · have HNew : Hid (BestIs L (j : Int) (latestL (L.take (i + 1)) x.who x.nm x.oth on known)) := by
              show BestIs _ _ _
              rw [HS.out, hj]
              exact .inr ⟨j, y, rfl, hy, by unfold pick; simp only; rw [if_neg hyl]⟩
            clear hj HS HX HBe hy
            obtain ⟨xw, xn, xo, xv, xf, xt, xl⟩ := x
            generalize y.lrn = yl at *
            simp only at x0 x1 x2 x3 x4 x5 x6 HNew e3 e4 e5 hyl
            have hyl2 : xl < yl := by omega
            by_cases e6 : xt = 0
            · subst e6
              clear e5
              go_wp2_with fail
              go_quiet (fail)
              go_wp2_with fail
              go_roundw
              case rel => exact ⟨i + 1, j, by omega, by go_num, rfl, HNew.out, bdrewN (HB.out.alloc hsz _) _⟩
              case measure => simp [RowKit.intOf]; omega
            · have e7 : on < xt := by omega
              have e8 : (xt != 0) = true := by simpa using e6
              clear e5
              go_wp2_with fail
              go_quiet (fail)
              go_wp2_with fail
              go_roundw
              case rel => exact ⟨i + 1, j, by omega, by go_num, rfl, HNew.out, bdrewN (HB.out.alloc hsz _) _⟩
              case measure => simp [RowKit.intOf]; omega
      · have HS := hidLL (step_ne HX.out hmat)
        have HBe2 : Hid (BestIs L k (latestL (L.take (i + 1)) who nm oth on known)) := by show BestIs _ _ _; rw [HS.out]; exact HBe.out
        have hnot : ¬ (x.who = who ∧ x.nm = nm ∧ x.oth = oth ∧ x.lrn ≤ known ∧ x.frm ≤ on ∧ (x.til = 0 ∨ on < x.til)) := fun q => hmat ⟨by rw [HE.out]; simp [isSoB, q], q.2.2.1⟩
        clear hmat HS HX HE
        obtain ⟨xw, xn, xo, xv, xf, xt, xl⟩ := x
        simp only at x0 x1 x2 x3 x4 x5 x6 hnot
        by_cases h1 : xw = who
        · subst h1
          by_cases h2 : xn = nm
          · subst h2
            by_cases h3 : xo = oth
            · subst h3
              by_cases h4 : xl ≤ known
              · by_cases h5 : xf ≤ on
                · have h6 : ¬ xt = 0 := fun e => hnot ⟨rfl, rfl, rfl, h4, h5, .inl e⟩
                  have h7 : xt ≤ on := by
                    by_cases q : on < xt
                    · exact absurd ⟨rfl, rfl, rfl, h4, h5, .inr q⟩ hnot
                    · omega
                  have h8 : (xt != 0) = true := by simpa using h6
                  clear hnot
                  go_wp2_with fail
                  go_roundw
                  case rel => exact ⟨i + 1, k, by omega, by go_num, rfl, HBe2.out, HB.out.alloc hsz _⟩
                  case measure => simp [RowKit.intOf]; omega
                · have h6 : on < xf := by omega
                  clear hnot
                  go_wp2_with fail
                  go_roundw
                  case rel => exact ⟨i + 1, k, by omega, by go_num, rfl, HBe2.out, HB.out.alloc hsz _⟩
                  case measure => simp [RowKit.intOf]; omega
              · have h5 : known < xl := by omega
                clear hnot
                go_wp2_with fail
                go_roundw
                case rel => exact ⟨i + 1, k, by omega, by go_num, rfl, HBe2.out, HB.out.alloc hsz _⟩
                case measure => simp [RowKit.intOf]; omega
            · have h4 : (xo != oth) = true := by simpa using h3
              clear hnot
              go_wp2_with fail
              go_roundw
              case rel => exact ⟨i + 1, k, by omega, by go_num, rfl, HBe2.out, HB.out.alloc hsz _⟩
              case measure => simp [RowKit.intOf]; omega
          · have h3 := toList_ne h2
            clear hnot
            go_wp2_with fail
            go_roundw
            case rel => exact ⟨i + 1, k, by omega, by go_num, rfl, HBe2.out, HB.out.alloc hsz _⟩
            case measure => simp [RowKit.intOf]; omega
        · have h2 : (xw != who) = true := by simpa using h1
          clear hnot
          go_wp2_with fail
          go_roundw
          case rel => exact ⟨i + 1, k, by omega, by go_num, rfl, HBe2.out, HB.out.alloc hsz _⟩
          case measure => simp [RowKit.intOf]; omega
    · obtain rfl : i = n := by omega
      have HT : Hid (L.take i = L) := List.take_of_length_le (by rw [HN.out]; exact Nat.le_refl _)
      go_wp2
      go_ret
      refine ⟨⟨k, rfl, ?_⟩, HB.out⟩
      have h9 := HBe.out
      rw [HT.out] at h9
      exact h9
end Go.Proofs.YtcfeflkhmncmjaaGreatDoor
namespace Go.Proofs.YtcfeflkhmncmjaaGreatDoor
open Go.RowKit

set_option maxHeartbeats 2000000 in
set_option maxRecDepth 100000 in
theorem value_r {B b : Nat} {w : World} {L : List Fct} {sv : Value} (h : FFile 55 B w b L sv) (hl : L.length ≤ 500) (who : Int) (nm : ByteArray) (on known : Int) :
    Calls Tryz.prog 24 #[.pointer (some ⟨b, 0, none⟩), .int .i64 who, .string nm, .int .i64 on, .int .i64 known] w fun e w' => e = .returned (.tuple #[.int .i64 (valL L who nm on known).1, .bool (valL L who nm on known).2]) ∧ Below w.heap.size w w' := by
  have HC := hidLL (latest_r h hl who nm (-1) on known)
  obtain ⟨a, c, rfl, hr, hc, _⟩ := h.row.slice
  have hcell := h.cell
  have hbin := h.inH
  have HR := hidLL hr
  clear h hr
  obtain ⟨n, hn⟩ : ∃ n, n = L.length := ⟨_, rfl⟩
  rw [← hn] at hl hc hcell
  have HN := hidLL hn
  clear hn
  have HV : Hid (valL L who nm on known = match latestL L who nm (-1) on known with | none => (0, false) | some x => (x.val, true)) := rfl
  generalize valL L who nm on known = V at *
  generalize latestL L who nm (-1) on known = la at *
  go_enter Tryz.func24, Tryz.ntmps24
  go_wp2_with fail
  refine HC.out.mono ?_
  rintro e w1 ⟨⟨k, rfl, hk⟩, hb⟩
  have HB := hidLL hb
  clear hb HC
  rcases hk with ⟨rfl, rfl⟩ | ⟨j, y, rfl, hy, rfl⟩
  · go_wp2
    go_ret2
    exact ⟨by rw [HV.out]; rfl, HB.out⟩
  · have hjl : j < n := by have := (List.getElem?_eq_some_iff.1 hy).1; rw [HN.out]; exact this
    obtain ⟨g, o, rfl, hg, _, _, _, y3, _, _, _⟩ := HR.out.cells hy
    rw [← HB.out.cell (p := ⟨g, o + j * 7 + 3, none⟩) hg] at y3
    have hcr := (HB.out.cell (p := ⟨b, 0, none⟩) hbin).trans hcell
    have hjz : (j : Int) < n := by omega
    have hj0 : ¬ ((j : Int) < 0) := by omega
    clear hy
    obtain ⟨yw, yn, yo, yv, yf, yt, yl⟩ := y
    simp only at y3
    go_wp2
    go_ret2
    exact ⟨by rw [HV.out]; rfl, HB.out⟩
def othersTo (L : List Fct) (who : Int) (nm : ByteArray) (on known : Int) (o : Nat) : List Int := ((List.range o).filter (stands L who nm on known)).map (fun o : Nat => (o : Int))
theorem othersTo_snoc (L : List Fct) (who : Int) (nm : ByteArray) (on known : Int) (o : Nat) : othersTo L who nm on known (o + 1) = othersTo L who nm on known o ++ (if stands L who nm on known o = true then [(o : Int)] else []) := by
  unfold othersTo
  rw [List.range_succ, List.filter_append, List.map_append]
  congr 1
  by_cases h : stands L who nm on known o = true
  · rw [if_pos h, List.filter_cons_of_pos h]; rfl
  · rw [if_neg h, List.filter_cons_of_neg h]; rfl
theorem othersTo_len (L : List Fct) (who : Int) (nm : ByteArray) (on known : Int) (o : Nat) : (othersTo L who nm on known o).length ≤ o := by
  unfold othersTo
  rw [List.length_map]
  refine Nat.le_trans (List.length_filter_le ..) ?_
  rw [List.length_range]
  exact Nat.le_refl _
set_option maxHeartbeats 4000000 in
set_option maxRecDepth 100000 in
theorem others_r {B b : Nat} {w : World} {L : List Fct} {sv : Value} (h : FFile 55 B w b L sv) (hl : L.length ≤ 500) (who : Int) (nm : ByteArray) (on known : Int) :
    Calls Tryz.prog 31 #[.pointer (some ⟨b, 0, none⟩), .int .i64 who, .string nm, .int .i64 on, .int .i64 known] w fun e w' => ∃ sv', e = .returned sv' ∧ IRead w' sv' (othersL L who nm on known) ∧ Below w.heap.size w w' := by
  have HC : Hid (∀ (W : World) (o : Int), Below w.heap.size w W → Calls Tryz.prog 43 #[.pointer (some ⟨b, 0, none⟩), .int .i64 who, .string nm, .int .i64 o, .int .i64 on, .int .i64 known] W fun e w' => (∃ k, e = .returned (.int .i64 k) ∧ BestIs L k (latestL L who nm o on known)) ∧ Below W.heap.size W w') := fun W o hW => latest_r (h.bel hW) hl who nm o on known
  obtain ⟨a, c, rfl, hr, hc, _⟩ := h.row.slice
  have hcell := h.cell
  have hbin := h.inH
  have HR := hidLL hr
  clear h hr
  obtain ⟨n, hn⟩ : ∃ n, n = L.length := ⟨_, rfl⟩
  rw [← hn] at hl hc hcell
  have HN := hidLL hn
  clear hn
  go_enter Tryz.func31, Tryz.ntmps31
  go_wp2_with fail
  go_loopw [11, 12] (fun s t wr => ∃ o : Nat, o ≤ 40 ∧ t = .int .i64 o ∧ IRow w.heap.size wr s (othersTo L who nm on known o) ∧ Below w.heap.size w wr)
    (fun _ t _ => (40 - RowKit.intOf t).toNat)
  case atStart => exact ⟨0, by omega, rfl, World.ownsRow_nil _ _ _ _, Below.refl _ _⟩
  case round =>
    obtain ⟨o, ho, rfl, hrow, hbel⟩ := hrel
    have HRow := hidLL hrow
    have HB := hidLL hbel
    have hsz := hbel.size
    clear hrow hbel
    by_cases hin : o < 40
    · have hiz : (o : Int) < 40 := by omega
      have HL := hidLL (HC.out wr o HB.out)
      have HS := hidLL (othersTo_snoc L who nm on known o)
      have HSt : Hid (stands L who nm on known o = match latestL L who nm o on known with | none => false | some x => !decide (x.val = 0)) := rfl
      generalize stands L who nm on known o = st at *
      generalize latestL L who nm o on known = la at *
      have hle := othersTo_len L who nm on known o
      go_wp2_with fail
      refine HL.out.mono ?_
      rintro e w1 ⟨⟨k, rfl, hk⟩, hb⟩
      have HB1 := hidLL (And.intro (HB.out.trans (hb.mono hsz)) (show IRow w.heap.size w1 u11 (othersTo L who nm on known o) from row_step HRow.out fun g _ hg => hb.block g hg))
      have hs1 : w.heap.size ≤ w1.heap.size := Nat.le_trans hsz hb.size
      clear hb HL
      rcases hk with ⟨rfl, rfl⟩ | ⟨j, y, rfl, hy, rfl⟩
      · have hst : st = false := HSt.out
        subst hst
        go_wp2_with fail
        go_roundw
        case rel => exact ⟨o + 1, by omega, by go_num, by rw [HS.out]; simpa using HB1.out.2, HB1.out.1⟩
        case measure => simp [RowKit.intOf]; omega
      · have hjl : j < n := by have := (List.getElem?_eq_some_iff.1 hy).1; rw [HN.out]; exact this
        obtain ⟨g, o1, rfl, hg, _, _, _, y3, _, _, _⟩ := HR.out.cells hy
        rw [← HB1.out.1.cell (p := ⟨g, o1 + j * 7 + 3, none⟩) hg] at y3
        have hcr := (HB1.out.1.cell (p := ⟨b, 0, none⟩) hbin).trans hcell
        have hjz : (j : Int) < n := by omega
        have hj0 : ¬ ((j : Int) < 0) := by omega
        have hj1 : (0 : Int) ≤ j := by omega
        clear hy
        by_cases hv : y.val = 0
        · have hst : st = false := by rw [HSt.out]; simp [hv]
          subst hst
          obtain ⟨yw, yn, yo, yv, yf, yt, yl⟩ := y
          simp only at y3 hv
          go_wp2_with fail
          go_roundw
          case rel => exact ⟨o + 1, by omega, by go_num, by rw [HS.out]; simpa using HB1.out.2, HB1.out.1⟩
          case measure => simp [RowKit.intOf]; omega
        · have hst : st = true := by rw [HSt.out]; simp [hv]
          subst hst
          obtain ⟨yw, yn, yo, yv, yf, yt, yl⟩ := y
          simp only at y3 hv
          have hv2 : (yv != 0) = true := by simpa using hv
          go_wp2_with (first
            | (at_builtin; refine wpList_push_int rfl _ _ rfl w.heap.size u11 (othersTo L who nm on known o) (o : Int) rfl HB1.out.2 (by simp [Act.eval]) hs1 (by omega) ?_; intro v' w3 hr3 hb3 hg3)
            | go_in)
          have HR3 := hidLL (And.intro hr3 hb3)
          clear hr3 hb3 hg3
          go_roundw
          case rel => exact ⟨o + 1, by omega, by go_num, by rw [HS.out]; exact HR3.out.1, HB1.out.1.trans HR3.out.2⟩
          case measure => simp [RowKit.intOf]; omega
    · obtain rfl : o = 40 := by omega
      go_wp2
      go_ret
      exact ⟨_, rfl, IRow.read HRow.out, HB.out⟩
end Go.Proofs.YtcfeflkhmncmjaaGreatDoor
