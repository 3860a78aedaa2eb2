/-
  The laws of claims: balance, the reference's RightOf; 'settles': the package is alive.
-/
import Derived.Test.YtkphonojpnhefaaDoorLeL1
import Derived.Lib.Bytes
namespace Go.Proofs.YtkphonojpnhefaaDoor
open Go.RowKit Go.Extern.Stop Go.Stop Go.Extern

theorem toList_ne {a b : ByteArray} (h : ¬ a = b) : ¬ a.toList = b.toList := fun e => h (by
  rw [Lib.toList_data, Lib.toList_data] at e
  exact ByteArray.ext (Array.toList_inj.1 e))
theorem toListB_ne {a b : ByteArray} (h : ¬ a = b) : (a.toList == b.toList) = false := by simpa using toList_ne h
theorem balL_app (a : ByteArray) : ∀ x y : List Ln, balL a (x ++ y) = balL a x + balL a y
  | [], y => by simp [balL]
  | c :: x, y => by rw [List.cons_append, balL, balL, balL_app a x y]; omega
theorem balE_app (a : ByteArray) : ∀ x y : List En, balE a (x ++ y) = balE a x + balE a y
  | [], y => by simp [balE]
  | c :: x, y => by rw [List.cons_append, balE, balE, balE_app a x y]; omega
theorem sumL_app : ∀ x y : List Ln, sumL (x ++ y) = sumL x + sumL y
  | [], y => by simp [sumL]
  | c :: x, y => by rw [List.cons_append, sumL, sumL, sumL_app x y]; omega
theorem balL_one (a : ByteArray) (x : Ln) : balL a [x] = if x.acc = a then x.cents else 0 := by simp [balL]
theorem balE_one (a : ByteArray) (x : En) : balE a [x] = balL a x.lines := by simp [balE]
/-- Entries that can be reckoned with. -/
def EnBd (es : List En) : Prop := ∀ e, e ∈ es → e.lines.length ≤ 3 ∧ ∀ x, x ∈ e.lines → -2000000000000 ≤ x.cents ∧ x.cents ≤ 2000000000000
set_option maxHeartbeats 2000000 in
theorem balance_p {B n c : Nat} {a : Option Addr} {es : List En} {acc : ByteArray} {w : World} (h : NRd enN w (· < B) (.slice a n c) es) (hb : EnBd es) (hn4 : n ≤ 1500) :
    Calls Tryd.prog 12 #[.slice a n c, .string acc] w fun e w' => e = .returned (.int .i64 (balE acc es)) ∧ w' = w := by
  obtain ⟨hn, hbig⟩ := h.len
  have HR := hidIt (And.intro h hn)
  have HBd := hidIt hb
  clear h hn hb
  go_enter Tryd.func12, Tryd.ntmps12
  go_wp2_with fail
  go_loopw [5, 6] (fun s t wr => ∃ (i : Nat) (x : Int), i ≤ n ∧ s = .int .i64 x ∧ t = .int .i64 i ∧ x = balE acc (es.take i) ∧ -(6000000000000 * (i : Int)) ≤ x ∧ x ≤ 6000000000000 * (i : Int) ∧ wr = w) (fun _ t _ => n - (RowKit.intOf t).toNat)
  case atStart => exact ⟨0, 0, by omega, rfl, rfl, rfl, by omega, by omega, rfl⟩
  case round =>
    obtain ⟨i, x, hi, rfl, rfl, hx, hx1, hx2, ew⟩ := hrel
    subst wr
    have HX := hidIt hx
    clear hx
    by_cases hlt : i < n
    · have c0 : decide ((i : Int) < n) = true := by simp; omega
      have hiz : (i : Int) < n := by omega
      obtain ⟨e, he, hdr⟩ := get_in (l := es) (i := i) (by have := HR.out.2; omega)
      obtain ⟨g, o, sa, sn, sc, rfl, hg, q0, q1, q2, hdu⟩ := en_at HR.out.1 he
      obtain ⟨d1, d2⟩ := hdu.len
      obtain ⟨b1, b2⟩ := HBd.out e (List.mem_of_getElem? he)
      have hsn : sn ≤ 3 := by omega
      have HDu := hidIt (And.intro hdu (And.intro d1 b2))
      have HT : Hid (balE acc (es.take (i + 1)) = balE acc (es.take i) + balL acc e.lines) := by
        show _ = _
        rw [take_succ' he, balE_app, balE_one]
      clear hdu d1 b1 b2 he hdr
      go_wp2_with fail
      go_loopw [5, 7] (fun s t wr => ∃ (k : Nat) (y : Int), k ≤ sn ∧ s = .int .i64 y ∧ t = .int .i64 k ∧ y = balE acc (es.take i) + balL acc (e.lines.take k) ∧ -(6000000000000 * (i : Int) + 2000000000000 * (k : Int)) ≤ y ∧ y ≤ 6000000000000 * (i : Int) + 2000000000000 * (k : Int) ∧ wr = w) (fun _ t _ => sn - (RowKit.intOf t).toNat)
      case atStart => exact ⟨0, x, by omega, rfl, rfl, by have := HX.out; simp [balL]; exact this, by omega, by omega, rfl⟩
      case round =>
        obtain ⟨k, y, hk, rfl, rfl, hy, hy1, hy2, ew⟩ := hrel
        subst wr
        have HY := hidIt hy
        clear hy
        by_cases hltk : k < sn
        · have c1 : decide ((k : Int) < sn) = true := by simp; omega
          have hkz : (k : Int) < sn := by omega
          obtain ⟨z, hz, _⟩ := get_in (l := e.lines) (i := k) (by have := HDu.out.2.1; omega)
          obtain ⟨g2, o2, rfl, hg2, hrg⟩ := HDu.out.1.at hz
          obtain ⟨p0, p1⟩ := ln_cells hrg
          have hk2 : lnE.k = 2 := rfl
          rw [hk2] at p0 p1
          obtain ⟨z1, z2⟩ := HDu.out.2.2 z (List.mem_of_getElem? hz)
          have HZ : Hid (balL acc (e.lines.take (k + 1)) = balL acc (e.lines.take k) + if z.acc = acc then z.cents else 0) := by
            show _ = _
            rw [take_succ' hz, balL_app, balL_one]
          obtain ⟨za, zc⟩ := z
          simp only at p0 p1 z1 z2 HZ
          clear hrg hz hk2 hg2
          by_cases hacc : za = acc
          · have HQ : Hid (y + zc = balE acc (es.take i) + balL acc (e.lines.take (k + 1))) := by
              have := HY.out
              have h2 := HZ.out
              rw [if_pos hacc] at h2
              show _ = _
              omega
            subst hacc
            go_wp2
            go_roundw
            case rel => exact ⟨k + 1, y + zc, hltk, by go_num, by go_num, HQ.out, by omega, by omega, by simp⟩
            case measure => simp [RowKit.intOf]; omega
          · have HQ : Hid (y = balE acc (es.take i) + balL acc (e.lines.take (k + 1))) := by
              have := HY.out
              have h2 := HZ.out
              rw [if_neg hacc] at h2
              show _ = _
              omega
            have h3 := toListB_ne hacc
            clear hacc
            go_wp2
            go_roundw
            case rel => exact ⟨k + 1, y, hltk, rfl, by go_num, HQ.out, by omega, by omega, by simp⟩
            case measure => simp [RowKit.intOf]; omega
        · have c1 : decide ((k : Int) < sn) = false := by simp; omega
          have HQ : Hid (y = balE acc (es.take (i + 1))) := by
            have := HY.out
            rw [show e.lines.take k = e.lines from List.take_of_length_le (by have := HDu.out.2.1; omega)] at this
            show _ = _
            rw [HT.out]
            exact this
          go_wp2
          go_roundw
          case rel => exact ⟨i + 1, y, hlt, rfl, by go_num, HQ.out, by omega, by omega, by simp⟩
          case measure => simp [RowKit.intOf]; omega
    · have c0 : decide ((i : Int) < n) = false := by simp; omega
      have HQ : Hid (x = balE acc es) := by
        have := HX.out
        rw [List.take_of_length_le (by have := HR.out.2; omega)] at this
        exact this
      go_wp2
      go_ret
      exact ⟨ret_int HQ.out, rfl⟩
set_option maxHeartbeats 2000000 in
theorem rightOf_p {B n c : Nat} {a : Option Addr} {l : List Py} {dy : Int} {w : World} (h : RdS pyE w (· < B) (.slice a n c) l) (hB : B ≤ w.heap.size) (hg : l.any great = false) (hl : n ≤ 1500) :
    Calls Tryd.prog 13 #[.agg #[.int .i64 dy, .slice a n c]] w fun e w' => e = .returned (.int .i64 (rightL dy l)) ∧ Below w.heap.size w w' := by
  obtain ⟨hn, hbig⟩ := h.len
  have HR := hidIt (And.intro h hn)
  have HG : Hid (∀ x, x ∈ l → -1000000000000 ≤ x.cents ∧ x.cents ≤ 1000000000000) := fun x hx => by
    have h1 : great x = false := by simpa using (List.any_eq_false.1 hg) x hx
    exact okC_iff.1 (by unfold great at h1; simpa using h1)
  clear h hn hg
  go_enter Tryd.func13, Tryd.ntmps13
  go_wp2_with fail
  go_loopw [3, 4] (fun s t wr => ∃ (i : Nat) (y : Int), i ≤ n ∧ s = .int .i64 y ∧ t = .int .i64 i ∧ y + rightL dy (l.drop i) = rightL dy l ∧ -(1000000000000 * (i : Int)) ≤ y ∧ y ≤ 1000000000000 * (i : Int) ∧ Below w.heap.size w wr ∧ wr.cell? ⟨w.heap.size, 0, none⟩ = some (.int .i64 dy) ∧ wr.cell? ⟨w.heap.size, 1, none⟩ = some (.slice a n c)) (fun _ t _ => n - (RowKit.intOf t).toNat)
  case atStart => exact ⟨0, 0, by omega, rfl, rfl, by rw [List.drop_zero]; omega, by omega, by omega, bel1 _ _, by simp, by simp⟩
  case round =>
    obtain ⟨i, y, hi, rfl, rfl, hA, hy1, hy2, hb, hbx, hbs⟩ := hrel
    have HA := hidIt hA
    have HB := hidIt hb
    have hiz4 : (i : Int) ≤ 1500 := by omega
    clear hA hb
    by_cases hlt : i < n
    · have c0 : decide ((i : Int) < n) = true := by simp; omega
      obtain ⟨e, he, hdr⟩ := get_in (l := l) (i := i) (by have := HR.out.2; omega)
      obtain ⟨g, o, rfl, hg, hrg⟩ := HR.out.1.at he
      obtain ⟨q0, q1, q2⟩ := py_cells (range_bel hrg (HB.out.mono hB) hg)
      have hk : pyE.k = 3 := rfl
      rw [hk] at q0 q1 q2
      have HD := hidIt (right_drop (dy := dy) hdr)
      obtain ⟨g1, g2⟩ := HG.out e (List.mem_of_getElem? he)
      obtain ⟨ef, et, ec⟩ := e
      simp only at q0 q1 q2 g1 g2 HD
      have hiz : (i : Int) < n := by omega
      clear hrg he hdr hk hg
      by_cases ht : et ≤ dy
      · have HQ : Hid (y + ec + rightL dy (l.drop (i + 1)) = rightL dy l) := by
          have h1 := HA.out
          rw [HD.out, if_pos ht] at h1
          show _ = _
          omega
        go_wp2_with fail
        go_quiet (fail)
        go_wp2
        go_roundw
        case rel => exact ⟨i + 1, y + ec, by omega, by go_num, by go_num, HQ.out, by omega, by omega, bdrewN HB.out _, hbx, hbs⟩
        case measure => simp [RowKit.intOf]; omega
      · have HQ : Hid (y + rightL dy (l.drop (i + 1)) = rightL dy l) := by
          have h1 := HA.out
          rw [HD.out, if_neg ht] at h1
          show _ = _
          omega
        go_wp2_with fail
        go_quiet (fail)
        go_wp2
        go_roundw
        case rel => exact ⟨i + 1, y, by omega, rfl, by go_num, HQ.out, by omega, by omega, bdrewN HB.out _, hbx, hbs⟩
        case measure => simp [RowKit.intOf]; omega
    · have c0 : decide ((i : Int) < n) = false := by simp; omega
      have HD : Hid (l.drop i = []) := List.drop_eq_nil_of_le (by have := HR.out.2; omega)
      go_wp2
      go_ret
      refine ⟨?_, HB.out⟩
      have := HA.out
      rw [HD.out, rightL] at this
      rw [← this]
      simp
/-! The package is alive. -/
def cl40 : List Cl := [⟨40, [⟨1, 32, 7⟩]⟩]
theorem settle40 : settleL cl40 5000 = .inr [⟨40, tAnew, [⟨tRights, -7⟩, ⟨tPaid, 7⟩]⟩] := by
  have h1 : claimsK cl40 5000 = none := by decide
  have h2 : setL 5000 0 0 cl40 = some [⟨40, tAnew, linesOf 7 0⟩] := by
    have e : (⟨40, [⟨1, 32, 7⟩]⟩ : Cl).right = 7 := by decide
    have o : offB 0 7 5000 = 0 := by decide
    unfold cl40
    rw [setL, e]
    simp [show (7 : Int) - 0 = 7 by decide, o, setL, okC, szB]
  rw [settleL_some h1 h2]
  have : linesOf 7 0 = [⟨tRights, -7⟩, ⟨tPaid, 7⟩] := by
    unfold linesOf
    simp [nz]
  rw [this]
theorem rd40 (w : World) (T1 T2 : Nat) : NRd clN ((w.alloc (.cells #[.int .i64 1, .int .i64 32, .int .i64 7] T1)).alloc (.cells #[.int .i64 40, .slice (some ⟨w.heap.size, 0, none⟩) 1 1] T2)) (· < w.heap.size + 2) (.slice (some ⟨w.heap.size + 1, 0, none⟩) 1 1) cl40 := by
  refine ⟨[⟨some ⟨w.heap.size, 0, none⟩, 1, 1⟩], rfl, ⟨_, _, rfl, by simp [cl40], fun j x hj => ⟨w.heap.size + 1, 0, rfl, by omega, ?_⟩⟩, fun i s x hs hx => ?_⟩
  · match j, hj with
    | 0, hj =>
      obtain rfl := Option.some.inj hj
      have := alloc_range (w.alloc (.cells #[.int .i64 1, .int .i64 32, .int .i64 7] T1)) [.int .i64 40, .slice (some ⟨w.heap.size, 0, none⟩) 1 1] T2
      rw [show (w.alloc (.cells #[.int .i64 1, .int .i64 32, .int .i64 7] T1)).heap.size = w.heap.size + 1 by simp] at this
      exact this
  · match i, hs, hx with
    | 0, hs, hx =>
      obtain rfl := Option.some.inj hs
      obtain rfl := Option.some.inj hx
      refine ⟨_, _, rfl, by decide, fun j x hj => ⟨w.heap.size, 0, rfl, by omega, ?_⟩⟩
      match j, hj with
      | 0, hj =>
        obtain rfl := Option.some.inj hj
        exact range_bel (alloc_range w [.int .i64 1, .int .i64 32, .int .i64 7] T1) (bel1 _ _) (by simp)
set_option maxHeartbeats 1000000 in
theorem settles_w {p : Nat → Addr} {w : World} (hs : Sent w p) : Calls Tryd.prog 5 #[] w fun e w' => e = .returned (.bool true) ∧ Below w.heap.size w w' := by
  have HC : Hid (∀ T1 T2, Calls Tryd.prog 7 #[.slice (some ⟨w.heap.size + 1, 0, none⟩) 1 1, .int .i64 5000] ((w.alloc (.cells #[.int .i64 1, .int .i64 32, .int .i64 7] T1)).alloc (.cells #[.int .i64 40, .slice (some ⟨w.heap.size, 0, none⟩) 1 1] T2)) fun e w' => ∃ g o k lc rc, e = .returned (.tuple #[.slice (some ⟨g, o, none⟩) 1 rc, .nilIface]) ∧ w'.cell? ⟨g, o + 2, none⟩ = some (.slice k 2 lc) ∧ Below w.heap.size w w') := fun T1 T2 => by
    have hb := (bel1 w (.cells #[.int .i64 1, .int .i64 32, .int .i64 7] T1)).trans ((bel1 (w.alloc (.cells #[.int .i64 1, .int .i64 32, .int .i64 7] T1)) (.cells #[.int .i64 40, .slice (some ⟨w.heap.size, 0, none⟩) 1 1] T2)).mono (by simp))
    have := settle_p (rate := 5000) (rd40 w T1 T2) (by simp) (hs.below hb)
    rw [settle40] at this
    refine this.mono ?_
    rintro e w' ⟨ra, rm, rc, rfl, hr, hb2⟩
    obtain ⟨e1, _⟩ := hr.len
    obtain rfl : rm = 1 := e1
    obtain ⟨g, o, sa, sn, sc, rfl, _, _, _, q2, hl⟩ := en_at hr (j := 0) rfl
    obtain ⟨e2, _⟩ := hl.len
    obtain rfl : sn = 2 := e2
    exact ⟨g, o, sa, sc, rc, rfl, by simpa using q2, hb.trans (hb2.mono hb.size)⟩
  clear hs
  go_enter Tryd.func5, Tryd.ntmps5
  go_wp2_with fail
  refine (HC.out _ _).mono ?_
  rintro e w1 ⟨g, o, k, lc, rc, rfl, q2, hb⟩
  have HB := hidIt hb
  clear hb
  go_wp2
  go_ret
  exact ⟨rfl, HB.out⟩
end Go.Proofs.YtkphonojpnhefaaDoor
