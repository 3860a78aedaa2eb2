/-
  Facts: the reference's Turns, LearntDays.
-/
import Derived.Test.YtagdenpmonedlaaDoorFIns
namespace Go.Proofs.YtagdenpmonedlaaDoor
open Go.RowKit

set_option maxHeartbeats 4000000 in
set_option maxRecDepth 100000 in
theorem learnt_r {B b : Nat} {w : World} {L : List Fct} {sv : Value} (h : FFile 36 B w b L sv) (hl : L.length ≤ 500) :
    Calls Tryd.prog 18 #[.pointer (some ⟨b, 0, none⟩)] w fun e w' => ∃ sv', e = .returned sv' ∧ IRead w' sv' (learntL L) ∧ Below w.heap.size w w' := by
  obtain ⟨a, c, rfl, hr, hc, _⟩ := h.row.slice
  have hcell := h.cell
  have hbin := h.inH
  have HR := hidLL hr
  clear h hr
  obtain ⟨n, hn⟩ : ∃ n, n = L.length := ⟨_, rfl⟩
  rw [← hn] at hl hc hcell
  have HN := hidLL hn
  clear hn
  go_enter Tryd.func18, Tryd.ntmps18
  go_wp2_with fail
  go_loopw [3, 4] (fun s t wr => ∃ i : Nat, i ≤ n ∧ t = .int .i64 i ∧ IRead wr s (((L.take i).map Fct.lrn).foldl insL []) ∧ Below w.heap.size w wr)
    (fun _ t _ => (n - RowKit.intOf t).toNat)
  case atStart => exact ⟨0, Nat.zero_le _, rfl, .inl ⟨rfl, rfl⟩, Below.refl _ _⟩
  case round =>
    obtain ⟨i, hi, rfl, hrow, hbel⟩ := hrel
    have HRow := hidLL hrow
    have HB := hidLL hbel
    have hsz := hbel.size
    have hcr := (hbel.cell (p := ⟨b, 0, none⟩) hbin).trans hcell
    have hbr : b < wr.heap.size := by omega
    clear hrow hbel
    by_cases hin : i < n
    · have hiz : (i : Int) < n := by omega
      obtain ⟨x, hx⟩ : ∃ x, L[i]? = some x := ⟨_, List.getElem?_eq_getElem (by have := HN.out; omega)⟩
      obtain ⟨g, o, rfl, hg, x0, x1, x2, x3, x4, x5, x6⟩ := HR.out.cells hx
      rw [← HB.out.cell (p := ⟨g, o + i * 7, none⟩) hg] at x0
      rw [← HB.out.cell (p := ⟨g, o + i * 7 + 1, none⟩) hg] at x1
      rw [← HB.out.cell (p := ⟨g, o + i * 7 + 2, none⟩) hg] at x2
      rw [← HB.out.cell (p := ⟨g, o + i * 7 + 3, none⟩) hg] at x3
      rw [← HB.out.cell (p := ⟨g, o + i * 7 + 4, none⟩) hg] at x4
      rw [← HB.out.cell (p := ⟨g, o + i * 7 + 5, none⟩) hg] at x5
      rw [← HB.out.cell (p := ⟨g, o + i * 7 + 6, none⟩) hg] at x6
      have hgr : g < wr.heap.size := Nat.lt_of_lt_of_le hg HB.out.size
      have HS : Hid (((L.take (i + 1)).map Fct.lrn).foldl insL [] = insL (((L.take i).map Fct.lrn).foldl insL []) x.lrn) := by
        show _ = _
        rw [map_snoc L i x hx, List.foldl_append]
        rfl
      have HLe : Hid ((((L.take i).map Fct.lrn).foldl insL []).length ≤ 2000) := by
        show _ ≤ _
        have h1 := insF_len ((L.take i).map Fct.lrn) []
        rw [List.length_map, List.length_take] at h1
        simp only [List.length_nil] at h1
        omega
      clear hx x0 x1 x2 x3 x4 x5
      have HI := hidLL (insert_r HRow.out HLe.out x.lrn)
      generalize x.lrn = xl at *
      go_wp2_with fail
      refine HI.out.mono ?_
      rintro e w1 ⟨v1, rfl, hr1, hb1⟩
      have H1 := hidLL (And.intro (IRow.read hr1) (HB.out.trans (hb1.mono hsz)))
      clear hr1 hb1
      go_wp2_with fail
      go_roundw
      case rel => exact ⟨i + 1, by omega, by go_num, by rw [HS.out]; exact H1.out.1, H1.out.2⟩
      case measure => simp [RowKit.intOf]; omega
    · obtain rfl : i = n := by omega
      have HT : Hid (L.take i = L) := List.take_of_length_le (by rw [HN.out]; exact Nat.le_refl _)
      go_wp2
      go_ret
      refine ⟨_, rfl, ?_, HB.out⟩
      have h9 := HRow.out
      rw [HT.out] at h9
      exact h9
set_option maxHeartbeats 4000000 in
set_option maxRecDepth 100000 in
theorem turns_r {B b : Nat} {w : World} {L : List Fct} {sv : Value} (h : FFile 36 B w b L sv) (hl : L.length ≤ 500) (who known : Int) :
    Calls Tryd.prog 16 #[.pointer (some ⟨b, 0, none⟩), .int .i64 who, .int .i64 known] w fun e w' => ∃ sv', e = .returned sv' ∧ IRead w' sv' (turnsL L who known) ∧ Below w.heap.size w w' := by
  obtain ⟨a, c, rfl, hr, hc, _⟩ := h.row.slice
  have hcell := h.cell
  have hbin := h.inH
  have HR := hidLL hr
  clear h hr
  obtain ⟨n, hn⟩ : ∃ n, n = L.length := ⟨_, rfl⟩
  rw [← hn] at hl hc hcell
  have HN := hidLL hn
  clear hn
  go_enter Tryd.func16, Tryd.ntmps16
  go_wp2_with fail
  go_loopw [7, 8] (fun s t wr => ∃ i : Nat, i ≤ n ∧ t = .int .i64 i ∧ IRead wr s ((turnsRaw (L.take i) who known).foldl insL []) ∧ Below w.heap.size w wr)
    (fun _ t _ => (n - RowKit.intOf t).toNat)
  case atStart => exact ⟨0, Nat.zero_le _, rfl, .inl ⟨rfl, rfl⟩, Below.refl _ _⟩
  case round =>
    obtain ⟨i, hi, rfl, hrow, hbel⟩ := hrel
    have HRow := hidLL hrow
    have HB := hidLL hbel
    have hsz := hbel.size
    have hcr := (hbel.cell (p := ⟨b, 0, none⟩) hbin).trans hcell
    have hbr : b < wr.heap.size := by omega
    clear hrow hbel
    by_cases hin : i < n
    · have hiz : (i : Int) < n := by omega
      obtain ⟨x, hx⟩ : ∃ x, L[i]? = some x := ⟨_, List.getElem?_eq_getElem (by have := HN.out; omega)⟩
      obtain ⟨g, o, rfl, hg, x0, x1, x2, x3, x4, x5, x6⟩ := HR.out.cells hx
      rw [← HB.out.cell (p := ⟨g, o + i * 7, none⟩) hg] at x0
      rw [← HB.out.cell (p := ⟨g, o + i * 7 + 1, none⟩) hg] at x1
      rw [← HB.out.cell (p := ⟨g, o + i * 7 + 2, none⟩) hg] at x2
      rw [← HB.out.cell (p := ⟨g, o + i * 7 + 3, none⟩) hg] at x3
      rw [← HB.out.cell (p := ⟨g, o + i * 7 + 4, none⟩) hg] at x4
      rw [← HB.out.cell (p := ⟨g, o + i * 7 + 5, none⟩) hg] at x5
      rw [← HB.out.cell (p := ⟨g, o + i * 7 + 6, none⟩) hg] at x6
      have hgr : g < wr.heap.size := Nat.lt_of_lt_of_le hg HB.out.size
      have HS : Hid ((turnsRaw (L.take (i + 1)) who known).foldl insL [] = (if turnB x who known = true then daysOf x else []).foldl insL ((turnsRaw (L.take i) who known).foldl insL [])) := by
        show _ = _
        rw [turns_snoc L i x hx who known, List.foldl_append]
      have HLe : Hid (((turnsRaw (L.take i) who known).foldl insL []).length ≤ 1000) := by
        show _ ≤ _
        have h1 := insF_len (turnsRaw (L.take i) who known) []
        have h2 := turns_len (L.take i) who known
        rw [List.length_take] at h2
        simp only [List.length_nil] at h1
        omega
      clear hx
      have HTB : Hid (turnB x who known = (decide (x.lrn ≤ known) && (decide (who < 0) || decide (x.who = who)))) := rfl
      have HD : Hid (daysOf x = if x.til = 0 then [x.frm] else [x.frm, x.til]) := rfl
      generalize turnB x who known = tb at *
      generalize daysOf x = dd at *
      obtain ⟨xw, xn, xo, xv, xf, xt, xl⟩ := x
      simp only at x0 x1 x2 x3 x4 x5 x6 HTB HD
      have HA : Hid (Below wr.heap.size wr (wr.alloc (.cells #[.int .i64 xw, .string xn, .int .i64 xo, .int .i64 xv, .int .i64 xf, .int .i64 xt, .int .i64 xl] 36))) := (Below.refl _ _).alloc (Nat.le_refl _) _
      have HI := hidLL (insert_r (HRow.out.bel HA.out) (by have := HLe.out; omega) xf)
      have z5 : (wr.alloc (.cells #[.int .i64 xw, .string xn, .int .i64 xo, .int .i64 xv, .int .i64 xf, .int .i64 xt, .int .i64 xl] 36)).cell? ⟨wr.heap.size, 5, none⟩ = some (.int .i64 xt) := by simp
      have hin0 : wr.heap.size < (wr.alloc (.cells #[.int .i64 xw, .string xn, .int .i64 xo, .int .i64 xv, .int .i64 xf, .int .i64 xt, .int .i64 xl] 36)).heap.size := by simp
      have hsz1 : w.heap.size ≤ (wr.alloc (.cells #[.int .i64 xw, .string xn, .int .i64 xo, .int .i64 xv, .int .i64 xf, .int .i64 xt, .int .i64 xl] 36)).heap.size := by simp; omega
      by_cases h1 : xl ≤ known
      · by_cases h2 : who < 0
        · have htb : tb = true := by rw [HTB.out]; simp [h1, h2]
          subst htb
          clear HTB
          by_cases h3 : xt = 0
          · subst h3
            rw [if_pos rfl] at HD
            go_wp2_with fail
            refine HI.out.mono ?_
            rintro e w1 ⟨v1, rfl, hr1, hb1⟩
            have c5 := (hb1.cell (p := ⟨wr.heap.size, 5, none⟩) hin0).trans z5
            have H1 := hidLL (And.intro (IRow.read hr1) ((HB.out.alloc hsz _).trans (hb1.mono hsz1)))
            clear hr1 hb1
            go_wp2_with fail
            go_roundw
            case rel => exact ⟨i + 1, by omega, by go_num, by rw [HS.out, HD.out]; exact H1.out.1, H1.out.2⟩
            case measure => simp [RowKit.intOf]; omega
          · rw [if_neg h3] at HD
            have h4 : (xt != 0) = true := by simpa using h3
            go_wp2_with fail
            refine HI.out.mono ?_
            rintro e w1 ⟨v1, rfl, hr1, hb1⟩
            have c5 := (hb1.cell (p := ⟨wr.heap.size, 5, none⟩) hin0).trans z5
            have hs1 := hb1.size
            have HI2 := hidLL (insert_r (IRow.read hr1) (by have := ins_len xf ((turnsRaw (L.take i) who known).foldl insL []); have := HLe.out; omega) xt)
            have H1 := hidLL ((HB.out.alloc hsz _).trans (hb1.mono hsz1))
            clear hr1 hb1
            go_wp2_with fail
            refine HI2.out.mono ?_
            rintro e w2 ⟨v2, rfl, hr2, hb2⟩
            have H2 := hidLL (And.intro (IRow.read hr2) (H1.out.trans (hb2.mono (by omega))))
            clear hr2 hb2
            go_wp2_with fail
            go_roundw
            case rel => exact ⟨i + 1, by omega, by go_num, by rw [HS.out, HD.out]; exact H2.out.1, H2.out.2⟩
            case measure => simp [RowKit.intOf]; omega
        · have h2z : 0 ≤ who := by omega
          by_cases h2b : xw = who
          · have htb : tb = true := by rw [HTB.out]; simp [h1, h2b]
            subst htb
            subst h2b
            clear HTB
            by_cases h3 : xt = 0
            · subst h3
              rw [if_pos rfl] at HD
              go_wp2_with fail
              refine HI.out.mono ?_
              rintro e w1 ⟨v1, rfl, hr1, hb1⟩
              have c5 := (hb1.cell (p := ⟨wr.heap.size, 5, none⟩) hin0).trans z5
              have H1 := hidLL (And.intro (IRow.read hr1) ((HB.out.alloc hsz _).trans (hb1.mono hsz1)))
              clear hr1 hb1
              go_wp2_with fail
              go_roundw
              case rel => exact ⟨i + 1, by omega, by go_num, by rw [HS.out, HD.out]; exact H1.out.1, H1.out.2⟩
              case measure => simp [RowKit.intOf]; omega
            · rw [if_neg h3] at HD
              have h4 : (xt != 0) = true := by simpa using h3
              go_wp2_with fail
              refine HI.out.mono ?_
              rintro e w1 ⟨v1, rfl, hr1, hb1⟩
              have c5 := (hb1.cell (p := ⟨wr.heap.size, 5, none⟩) hin0).trans z5
              have hs1 := hb1.size
              have HI2 := hidLL (insert_r (IRow.read hr1) (by have := ins_len xf ((turnsRaw (L.take i) xw known).foldl insL []); have := HLe.out; omega) xt)
              have H1 := hidLL ((HB.out.alloc hsz _).trans (hb1.mono hsz1))
              clear hr1 hb1
              go_wp2_with fail
              refine HI2.out.mono ?_
              rintro e w2 ⟨v2, rfl, hr2, hb2⟩
              have H2 := hidLL (And.intro (IRow.read hr2) (H1.out.trans (hb2.mono (by omega))))
              clear hr2 hb2
              go_wp2_with fail
              go_roundw
              case rel => exact ⟨i + 1, by omega, by go_num, by rw [HS.out, HD.out]; exact H2.out.1, H2.out.2⟩
              case measure => simp [RowKit.intOf]; omega
          · have htb : tb = false := by rw [HTB.out]; simp [h2, h2b]
            subst htb
            have h2c : (xw != who) = true := by simpa using h2b
            go_wp2_with fail
            go_roundw
            case rel => exact ⟨i + 1, by omega, by go_num, by rw [HS.out]; simpa using HRow.out.bel HA.out, HB.out.alloc hsz _⟩
            case measure => simp [RowKit.intOf]; omega
      · have htb : tb = false := by rw [HTB.out]; simp [h1]
        subst htb
        go_wp2_with fail
        go_roundw
        case rel => exact ⟨i + 1, by omega, by go_num, by rw [HS.out]; simpa using HRow.out.bel HA.out, HB.out.alloc hsz _⟩
        case measure => simp [RowKit.intOf]; omega
    · obtain rfl : i = n := by omega
      have HT : Hid (L.take i = L) := List.take_of_length_le (by rw [HN.out]; exact Nat.le_refl _)
      go_wp2
      go_ret
      refine ⟨_, rfl, ?_, HB.out⟩
      have h9 := HRow.out
      rw [HT.out] at h9
      exact h9
end Go.Proofs.YtagdenpmonedlaaDoor
