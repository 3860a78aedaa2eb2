/-
  The reference: KindOf, StepsText.
-/
import Derived.Test.YtfnlcblalieolaaDoorWtText
namespace Go.Proofs.YtfnlcblalieolaaDoor
open Go.RowKit

def kN (a b : Bool) : Nat := if a then (if b then 0 else 1) else (if b then 2 else 3)
theorem kindN_r (a b : Bool) (q : Int) (w : World) : Calls Tryd.prog 16 #[.agg #[.bool a, .bool b, .int .i64 q]] w fun e w' => e = .returned (.int .i64 (kN a b)) ∧ Below w.heap.size w w' := by
  cases a <;> cases b
  all_goals
    go_enter Tryd.func16, Tryd.ntmps16
    go_wp2
    go_ret
    exact ⟨rfl, (Below.refl _ _).alloc (Nat.le_refl _) _⟩
theorem bl_app (a b : ByteArray) : bl (a ++ b) = bl a ++ bl b := by simp [bl]
set_option maxHeartbeats 8000000 in
set_option maxRecDepth 100000 in
theorem stepsText_r {w : World} {B : Nat} {la na : Option Addr} {ln lc n nc : Nat} {l : List Clm} {nm : List ByteArray} (hS : SRd w B (.slice la ln lc) l) (hN : NRd w B (.slice na n nc) nm) (hB : B ≤ w.heap.size) (hln : ln = l.length) (hn : n = nm.length) (hfew : n ≤ 1000) (hlf : ln ≤ 1000) (hsz : ∀ s, s ∈ nm → s.size ≤ 24) (hwf : ∀ x, x ∈ l → -9223372036854775808 ≤ x.2.2 ∧ x.2.2 ≤ 9223372036854775807) :
    Calls Tryd.prog 7 #[.slice la ln lc, .slice na n nc] w fun e w' => (∃ o, e = .returned (.string o) ∧ bl o = textL nm l) ∧ Below w.heap.size w w' := by
  obtain ⟨W0, hW0⟩ : ∃ W0 : World, W0 = w.alloc (.cells #[.string ⟨#[115, 117, 114, 101, 32]⟩, .string ⟨#[110, 111, 116, 32, 115, 117, 114, 101, 32]⟩, .string ⟨#[104, 111, 108, 100, 115, 32]⟩, .string ⟨#[102, 97, 105, 108, 115, 32]⟩] 9) := ⟨_, rfl⟩
  obtain ⟨wb, hwb⟩ : ∃ wb, wb = w.heap.size := ⟨_, rfl⟩
  have hb0 : Below w.heap.size w W0 := by rw [hW0]; exact (Below.refl _ _).alloc (Nat.le_refl _) _
  have hk0 : W0.heap[wb]? = some (.cells #[.string ⟨#[115, 117, 114, 101, 32]⟩, .string ⟨#[110, 111, 116, 32, 115, 117, 114, 101, 32]⟩, .string ⟨#[104, 111, 108, 100, 115, 32]⟩, .string ⟨#[102, 97, 105, 108, 115, 32]⟩] 9 (0, 0)) := by rw [hW0, hwb]; exact blk_new _ _
  have HX : Hid (∀ W, Below w.heap.size w W → SRd W B (.slice la ln lc) l ∧ NRd W B (.slice na n nc) nm) := fun W hW => ⟨hS.on fun k hk => hW.block k (by omega), hN.on fun k hk => hW.block k (by omega)⟩
  have HWK : Hid (∀ (W : World) (a b : Bool), W.heap[wb]? = some (.cells #[.string ⟨#[115, 117, 114, 101, 32]⟩, .string ⟨#[110, 111, 116, 32, 115, 117, 114, 101, 32]⟩, .string ⟨#[104, 111, 108, 100, 115, 32]⟩, .string ⟨#[102, 97, 105, 108, 115, 32]⟩] 9 (0, 0)) → W.cell? ⟨wb, kN a b, none⟩ = some (.string (wordB a b))) := fun W a b h => by
    cases a <;> cases b <;> simp [World.cell?, h, kN, wordB]
  have HE := hidLL (And.intro hln (And.intro hn (And.intro hsz hwf)))
  have HW := hidLL (And.intro hW0 hwb)
  have H0 := hidLL (And.intro hb0 hk0)
  clear hS hN hln hn hsz hwf hW0 hb0 hk0 hwb
  go_enter Tryd.func7, Tryd.ntmps7
  go_upto_region 2 with fail
  rw [← HW.out.1, ← HW.out.2]
  go_wp2_with fail
  go_loopw [6, 7] (fun t6 t wr => ∃ (j : Nat) (o : ByteArray), j ≤ ln ∧ t = .int .i64 j ∧ t6 = .string o ∧ bl o = textL nm (l.take j) ∧ Below w.heap.size w wr ∧ wr.heap[wb]? = some (.cells #[.string ⟨#[115, 117, 114, 101, 32]⟩, .string ⟨#[110, 111, 116, 32, 115, 117, 114, 101, 32]⟩, .string ⟨#[104, 111, 108, 100, 115, 32]⟩, .string ⟨#[102, 97, 105, 108, 115, 32]⟩] 9 (0, 0))) (fun _ t _ => ln - (RowKit.intOf t).toNat)
  case atStart => exact ⟨0, ⟨#[]⟩, by omega, rfl, rfl, by rw [List.take_zero]; rfl, H0.out.1, H0.out.2⟩
  case round =>
    obtain ⟨j, o, hj, rfl, rfl, ho, hbel, hk⟩ := hrel
    obtain ⟨w3, hw3⟩ : ∃ w3 : World, w3 = wr := ⟨_, rfl⟩
    subst hw3
    by_cases hlt : j < ln
    · have hjz : (j : Int) < ln := by omega
      obtain ⟨x, hx⟩ : ∃ x, l[j]? = some x := ⟨_, List.getElem?_eq_getElem (by have := HE.out.1; omega)⟩
      obtain ⟨g, oo, ea, hgB, y0, y1, y2⟩ := (HX.out w3 hbel).1.at hx
      have hxw := HE.out.2.2.2 x (List.mem_of_getElem? hx)
      obtain ⟨xa, xb, xq⟩ := x
      simp only at y0 y1 y2 hxw
      have HTk : Hid (textL nm (l.take (j + 1)) = textL nm (l.take j) ++ (bl (wordB xa xb) ++ (bl (litB nm xq) ++ [10]))) := by
        obtain ⟨h9, e9⟩ := List.getElem?_eq_some_iff.1 hx
        show _ = _
        rw [List.take_succ_eq_append_getElem h9, e9, textL_app]
        show _ ++ (stepL nm (xa, xb, xq) ++ []) = _
        rw [List.append_nil]
        exact rfl
      have hos : o.size ≤ 38000 := by
        have := textL_len HE.out.2.2.1 (l.take j)
        rw [← ho, List.length_take, size_bl] at this
        omega
      have hwz := wordB_size xa xb
      have HLit : Hid (litB nm xq = if 0 < xq ∧ xq ≤ (n : Int) then nameAt nm (xq - 1).toNat else if xq < 0 ∧ -(n : Int) ≤ xq then notB ++ nameAt nm (-xq - 1).toNat else askB) := by rw [HE.out.2.1]; exact rfl
      have HKd := hidLL (kindN_r xa xb xq w3)
      have hgl : g < w3.heap.size := cell_lt y0
      subst ea
      have HQ := hidLL (And.intro ho (And.intro hbel hk))
      clear ho hbel hk hx
      have hkk : kN xa xb < 4 := by cases xa <;> cases xb <;> decide
      have hkz : ((kN xa xb : Nat) : Int) < 4 := by omega
      have hwn : IntKind.i64.wrap (-(n : Int)) = -(n : Int) := by rw [IntKind.wrap_i64]; omega
      by_cases q0 : xq = 0
      · rw [q0] at HKd
        have HR : Hid (litB nm xq = askB) := by
          show _ = _
          rw [HLit.out, if_neg (by omega), if_neg (by omega)]
        have s1 : ¬ 9223372036854775807 < o.size + (wordB xa xb).size := by omega
        have s2 : ¬ 9223372036854775807 < (o ++ wordB xa xb).size + 1 := by rw [ByteArray.size_append]; omega
        have s3 : ¬ 9223372036854775807 < ((o ++ wordB xa xb) ++ (⟨#[63]⟩ : ByteArray)).size + 1 := by
          have e1 : (⟨#[63]⟩ : ByteArray).size = 1 := rfl
          rw [ByteArray.size_append, ByteArray.size_append, e1]; omega
        have t2 : ¬ 9223372036854775807 < o.size + (wordB xa xb).size + 1 := by omega
        have t3 : ¬ 9223372036854775807 < o.size + (wordB xa xb).size + 1 + 1 := by omega
        go_wp2_with fail
        refine HKd.out.mono ?_
        rintro e w5 ⟨rfl, hb5⟩
        have h5 : Below w3.heap.size w3 w5 ∧ Below w.heap.size w w5 ∧ w5.heap[wb]? = some (.cells #[.string ⟨#[115, 117, 114, 101, 32]⟩, .string ⟨#[110, 111, 116, 32, 115, 117, 114, 101, 32]⟩, .string ⟨#[104, 111, 108, 100, 115, 32]⟩, .string ⟨#[102, 97, 105, 108, 115, 32]⟩] 9 (0, 0)) := ⟨hb5, HQ.out.2.1.trans (hb5.mono HQ.out.2.1.size), (hb5.block wb (lt_of_block HQ.out.2.2)).trans HQ.out.2.2⟩
        have c5 := HWK.out w5 xa xb h5.2.2
        have z2 : w5.cell? ⟨g, oo + j * 3 + 2, none⟩ = some (.int .i64 xq) := (h5.1.cell (p := ⟨g, oo + j * 3 + 2, none⟩) hgl).trans y2
        have H5 := hidLL h5
        clear hb5 h5 y0 y1 y2
        generalize wordB xa xb = wd at *
        generalize kN xa xb = kk at *
        go_wp2
        go_roundw
        case rel =>
          refine ⟨j + 1, _, by omega, by go_num, rfl, ?_, H5.out.2.1, H5.out.2.2⟩
          rw [HTk.out, HR.out, ← HQ.out.1]
          simp only [bl_app, List.append_assoc]
          all_goals rfl
        case measure => simp [RowKit.intOf]; omega
      · by_cases q1 : (n : Int) < xq
        · have HR : Hid (litB nm xq = askB) := by
            show _ = _
            rw [HLit.out, if_neg (by omega), if_neg (by omega)]
          have s1 : ¬ 9223372036854775807 < o.size + (wordB xa xb).size := by omega
          have s2 : ¬ 9223372036854775807 < (o ++ wordB xa xb).size + 1 := by rw [ByteArray.size_append]; omega
          have s3 : ¬ 9223372036854775807 < ((o ++ wordB xa xb) ++ (⟨#[63]⟩ : ByteArray)).size + 1 := by
            have e1 : (⟨#[63]⟩ : ByteArray).size = 1 := rfl
            rw [ByteArray.size_append, ByteArray.size_append, e1]; omega
          have t2 : ¬ 9223372036854775807 < o.size + (wordB xa xb).size + 1 := by omega
          have t3 : ¬ 9223372036854775807 < o.size + (wordB xa xb).size + 1 + 1 := by omega
          go_wp2_with fail
          refine HKd.out.mono ?_
          rintro e w5 ⟨rfl, hb5⟩
          have h5 : Below w3.heap.size w3 w5 ∧ Below w.heap.size w w5 ∧ w5.heap[wb]? = some (.cells #[.string ⟨#[115, 117, 114, 101, 32]⟩, .string ⟨#[110, 111, 116, 32, 115, 117, 114, 101, 32]⟩, .string ⟨#[104, 111, 108, 100, 115, 32]⟩, .string ⟨#[102, 97, 105, 108, 115, 32]⟩] 9 (0, 0)) := ⟨hb5, HQ.out.2.1.trans (hb5.mono HQ.out.2.1.size), (hb5.block wb (lt_of_block HQ.out.2.2)).trans HQ.out.2.2⟩
          have c5 := HWK.out w5 xa xb h5.2.2
          have z2 : w5.cell? ⟨g, oo + j * 3 + 2, none⟩ = some (.int .i64 xq) := (h5.1.cell (p := ⟨g, oo + j * 3 + 2, none⟩) hgl).trans y2
          have H5 := hidLL h5
          clear hb5 h5 y0 y1 y2
          generalize wordB xa xb = wd at *
          generalize kN xa xb = kk at *
          go_wp2
          go_roundw
          case rel =>
            refine ⟨j + 1, _, by omega, by go_num, rfl, ?_, H5.out.2.1, H5.out.2.2⟩
            rw [HTk.out, HR.out, ← HQ.out.1]
            simp only [bl_app, List.append_assoc]
            all_goals rfl
          case measure => simp [RowKit.intOf]; omega
        · by_cases q2 : xq < -(n : Int)
          · have HR : Hid (litB nm xq = askB) := by
              show _ = _
              rw [HLit.out, if_neg (by omega), if_neg (by omega)]
            have s1 : ¬ 9223372036854775807 < o.size + (wordB xa xb).size := by omega
            have s2 : ¬ 9223372036854775807 < (o ++ wordB xa xb).size + 1 := by rw [ByteArray.size_append]; omega
            have s3 : ¬ 9223372036854775807 < ((o ++ wordB xa xb) ++ (⟨#[63]⟩ : ByteArray)).size + 1 := by
              have e1 : (⟨#[63]⟩ : ByteArray).size = 1 := rfl
              rw [ByteArray.size_append, ByteArray.size_append, e1]; omega
            have t2 : ¬ 9223372036854775807 < o.size + (wordB xa xb).size + 1 := by omega
            have t3 : ¬ 9223372036854775807 < o.size + (wordB xa xb).size + 1 + 1 := by omega
            go_wp2_with fail
            refine HKd.out.mono ?_
            rintro e w5 ⟨rfl, hb5⟩
            have h5 : Below w3.heap.size w3 w5 ∧ Below w.heap.size w w5 ∧ w5.heap[wb]? = some (.cells #[.string ⟨#[115, 117, 114, 101, 32]⟩, .string ⟨#[110, 111, 116, 32, 115, 117, 114, 101, 32]⟩, .string ⟨#[104, 111, 108, 100, 115, 32]⟩, .string ⟨#[102, 97, 105, 108, 115, 32]⟩] 9 (0, 0)) := ⟨hb5, HQ.out.2.1.trans (hb5.mono HQ.out.2.1.size), (hb5.block wb (lt_of_block HQ.out.2.2)).trans HQ.out.2.2⟩
            have c5 := HWK.out w5 xa xb h5.2.2
            have z2 : w5.cell? ⟨g, oo + j * 3 + 2, none⟩ = some (.int .i64 xq) := (h5.1.cell (p := ⟨g, oo + j * 3 + 2, none⟩) hgl).trans y2
            have H5 := hidLL h5
            clear hb5 h5 y0 y1 y2
            generalize wordB xa xb = wd at *
            generalize kN xa xb = kk at *
            go_wp2
            go_roundw
            case rel =>
              refine ⟨j + 1, _, by omega, by go_num, rfl, ?_, H5.out.2.1, H5.out.2.2⟩
              rw [HTk.out, HR.out, ← HQ.out.1]
              simp only [bl_app, List.append_assoc]
              all_goals rfl
            case measure => simp [RowKit.intOf]; omega
          · by_cases q3 : 0 < xq
            · have d1 : decide (xq = 0) = false := decide_eq_false q0
              have d2 : decide ((n : Int) < xq) = false := decide_eq_false q1
              have d3 : decide (xq < -(n : Int)) = false := decide_eq_false q2
              have d4 : ¬ (n : Int) < -xq := by omega
              have d5 : (xq == 0) = false := by simpa using q0
              obtain ⟨i, hi⟩ : ∃ i : Nat, xq = (i : Int) + 1 := ⟨(xq - 1).toNat, by omega⟩
              obtain ⟨xn, hxn⟩ : ∃ xn, nm[i]? = some xn := ⟨_, List.getElem?_eq_getElem (by have := HE.out.2.1; omega)⟩
              have HR : Hid (litB nm xq = xn) := by
                show _ = _
                rw [HLit.out, if_pos ⟨by omega, by omega⟩]
                unfold nameAt
                rw [show (xq - 1).toNat = i by omega, hxn]
                rfl
              have hns := HE.out.2.2.1 xn (List.mem_of_getElem? hxn)
              have hz : (i : Int) < n := by omega
              have hw1 : IntKind.i64.wrap (xq - 1) = (i : Int) := by rw [IntKind.wrap_i64]; omega
              have s1 : ¬ 9223372036854775807 < o.size + (wordB xa xb).size := by omega
              have t2 : ¬ 9223372036854775807 < o.size + (wordB xa xb).size + xn.size := by omega
              have t3 : ¬ 9223372036854775807 < o.size + (wordB xa xb).size + xn.size + 1 := by omega
              have HI := hidLL hi
              clear hi
              go_wp2_with fail
              refine HKd.out.mono ?_
              rintro e w5 ⟨rfl, hb5⟩
              have h5 : Below w3.heap.size w3 w5 ∧ Below w.heap.size w w5 ∧ w5.heap[wb]? = some (.cells #[.string ⟨#[115, 117, 114, 101, 32]⟩, .string ⟨#[110, 111, 116, 32, 115, 117, 114, 101, 32]⟩, .string ⟨#[104, 111, 108, 100, 115, 32]⟩, .string ⟨#[102, 97, 105, 108, 115, 32]⟩] 9 (0, 0)) := ⟨hb5, HQ.out.2.1.trans (hb5.mono HQ.out.2.1.size), (hb5.block wb (lt_of_block HQ.out.2.2)).trans HQ.out.2.2⟩
              have c5 := HWK.out w5 xa xb h5.2.2
              have z2 : w5.cell? ⟨g, oo + j * 3 + 2, none⟩ = some (.int .i64 xq) := (h5.1.cell (p := ⟨g, oo + j * 3 + 2, none⟩) hgl).trans y2
              obtain ⟨g2, o2, ea2, _, c6⟩ := (HX.out w5 h5.2.1).2.at hxn
              subst ea2
              clear hxn
              have H5 := hidLL h5
              clear hb5 h5 y0 y1 y2
              generalize wordB xa xb = wd at *
              generalize kN xa xb = kk at *
              go_wp2
              go_roundw
              case rel =>
                refine ⟨j + 1, _, by omega, by go_num, rfl, ?_, H5.out.2.1, H5.out.2.2⟩
                rw [HTk.out, HR.out, ← HQ.out.1]
                simp only [bl_app, List.append_assoc]
                all_goals rfl
              case measure => simp [RowKit.intOf]; omega
            · have d1 : decide (xq = 0) = false := decide_eq_false q0
              have d2 : decide ((n : Int) < xq) = false := decide_eq_false q1
              have d3 : decide (xq < -(n : Int)) = false := decide_eq_false q2
              have d4 : ¬ (n : Int) < -xq := by omega
              have d5 : (xq == 0) = false := by simpa using q0
              obtain ⟨i, hi⟩ : ∃ i : Nat, -xq = (i : Int) + 1 := ⟨(-xq - 1).toNat, by omega⟩
              obtain ⟨xn, hxn⟩ : ∃ xn, nm[i]? = some xn := ⟨_, List.getElem?_eq_getElem (by have := HE.out.2.1; omega)⟩
              have HR : Hid (litB nm xq = notB ++ xn) := by
                show _ = _
                rw [HLit.out, if_neg (by omega), if_pos ⟨by omega, by omega⟩]
                unfold nameAt
                rw [show (-xq - 1).toNat = i by omega, hxn]
                rfl
              have hns := HE.out.2.2.1 xn (List.mem_of_getElem? hxn)
              have hz : (i : Int) < n := by omega
              obtain ⟨mm, hmm⟩ : ∃ mm : Int, mm = (i : Int) + 1 := ⟨_, rfl⟩
              have hw0 : IntKind.i64.wrap (-xq) = mm := by rw [IntKind.wrap_i64]; omega
              have hw1 : IntKind.i64.wrap (mm - 1) = (i : Int) := by rw [IntKind.wrap_i64]; omega
              have s1 : ¬ 9223372036854775807 < o.size + (wordB xa xb).size := by omega
              have t1 : ¬ 9223372036854775807 < o.size + (wordB xa xb).size + 4 := by omega
              have t2 : ¬ 9223372036854775807 < o.size + (wordB xa xb).size + 4 + xn.size := by omega
              have t3 : ¬ 9223372036854775807 < o.size + (wordB xa xb).size + 4 + xn.size + 1 := by omega
              have HI := hidLL (And.intro hi hmm)
              clear hi hmm
              go_wp2_with fail
              refine HKd.out.mono ?_
              rintro e w5 ⟨rfl, hb5⟩
              have h5 : Below w3.heap.size w3 w5 ∧ Below w.heap.size w w5 ∧ w5.heap[wb]? = some (.cells #[.string ⟨#[115, 117, 114, 101, 32]⟩, .string ⟨#[110, 111, 116, 32, 115, 117, 114, 101, 32]⟩, .string ⟨#[104, 111, 108, 100, 115, 32]⟩, .string ⟨#[102, 97, 105, 108, 115, 32]⟩] 9 (0, 0)) := ⟨hb5, HQ.out.2.1.trans (hb5.mono HQ.out.2.1.size), (hb5.block wb (lt_of_block HQ.out.2.2)).trans HQ.out.2.2⟩
              have c5 := HWK.out w5 xa xb h5.2.2
              have z2 : w5.cell? ⟨g, oo + j * 3 + 2, none⟩ = some (.int .i64 xq) := (h5.1.cell (p := ⟨g, oo + j * 3 + 2, none⟩) hgl).trans y2
              obtain ⟨g2, o2, ea2, _, c6⟩ := (HX.out w5 h5.2.1).2.at hxn
              subst ea2
              clear hxn
              have H5 := hidLL h5
              clear hb5 h5 y0 y1 y2
              generalize wordB xa xb = wd at *
              generalize kN xa xb = kk at *
              go_wp2
              go_roundw
              case rel =>
                refine ⟨j + 1, _, by omega, by go_num, rfl, ?_, H5.out.2.1, H5.out.2.2⟩
                rw [HTk.out, HR.out, ← HQ.out.1]
                simp only [bl_app, List.append_assoc]
                all_goals rfl
              case measure => simp [RowKit.intOf]; omega
    · have hje : j = l.length := by have := HE.out.1; omega
      have hge : ¬ (j : Int) < ln := by omega
      have HT : Hid (bl o = textL nm l) := by show _ = _; rw [ho, hje, List.take_of_length_le (Nat.le_refl _)]
      have HB := hidLL hbel
      clear ho hbel hk
      go_wp2
      go_ret
      exact ⟨⟨o, rfl, HT.out⟩, HB.out⟩
end Go.Proofs.YtfnlcblalieolaaDoor
