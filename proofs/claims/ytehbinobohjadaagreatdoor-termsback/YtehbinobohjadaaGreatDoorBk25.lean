/-
  The program's writer: its small functions.
-/
import Derived.Test.YtehbinobohjadaaGreatDoorBk23
import Derived.Test.YtehbinobohjadaaGreatDoorShelfI
import Derived.Lib.ItoaMem
import Derived.Lib.Walk
import Derived.WalkSmall
import Derived.Test.YtehbinobohjadaaGreatDoorBk00
namespace Go.Proofs.YtehbinobohjadaaGreatDoor
open Go.RowKit Go.Extern.Stop Go.Stop Go.Extern

theorem puts_one (s : WS) (x : ByteArray) : putsR s [x] = putR s x := by
  simp only [putsR]
  cases putR s x <;> rfl
section
variable {w0 : World} {wp : Nat} {s : WS}
theorem put1_q (h : WR w0 wp s) {x : ByteArray} (hx : x.size ≤ 281474976710656) : Calls Tryz.prog 45 #[.pointer (some ⟨wp, 0, none⟩), .slice (some ⟨w0.heap.size, 0, none⟩) 1 1] (w0.alloc (.cells #[.string x] 9)) (WEnd wp w0 (putR s x)) := by
  rw [← puts_one]
  exact put_q h [x] (by simp) (by simpa using hx)
theorem put2_q (h : WR w0 wp s) {x y : ByteArray} (hx : x.size ≤ 281474976710656) (hy : y.size ≤ 281474976710656) : Calls Tryz.prog 45 #[.pointer (some ⟨wp, 0, none⟩), .slice (some ⟨w0.heap.size, 0, none⟩) 2 2] (w0.alloc (.cells #[.string x, .string y] 9)) (WEnd wp w0 (putsR s [x, y])) :=
  put_q h [x, y] (by simp) (fun z hz => by
    simp only [List.mem_cons, List.not_mem_nil, or_false] at hz
    rcases hz with rfl | rfl <;> assumption)
theorem put3_q (h : WR w0 wp s) {x y z : ByteArray} (hx : x.size ≤ 281474976710656) (hy : y.size ≤ 281474976710656) (hz : z.size ≤ 281474976710656) : Calls Tryz.prog 45 #[.pointer (some ⟨wp, 0, none⟩), .slice (some ⟨w0.heap.size, 0, none⟩) 3 3] (w0.alloc (.cells #[.string x, .string y, .string z] 9)) (WEnd wp w0 (putsR s [x, y, z])) :=
  put_q h [x, y, z] (by simp) (fun u hu => by
    simp only [List.mem_cons, List.not_mem_nil, or_false] at hu
    rcases hu with rfl | rfl | rfl <;> assumption)
theorem put4_q (h : WR w0 wp s) {x y z t : ByteArray} (hx : x.size ≤ 281474976710656) (hy : y.size ≤ 281474976710656) (hz : z.size ≤ 281474976710656) (ht : t.size ≤ 281474976710656) : Calls Tryz.prog 45 #[.pointer (some ⟨wp, 0, none⟩), .slice (some ⟨w0.heap.size, 0, none⟩) 4 4] (w0.alloc (.cells #[.string x, .string y, .string z, .string t] 9)) (WEnd wp w0 (putsR s [x, y, z, t])) :=
  put_q h [x, y, z, t] (by simp) (fun u hu => by
    simp only [List.mem_cons, List.not_mem_nil, or_false] at hu
    rcases hu with rfl | rfl | rfl | rfl <;> assumption)
set_option maxHeartbeats 1000000 in
theorem wenter_q (h : WR w0 wp s) : Calls Tryz.prog 91 #[.pointer (some ⟨wp, 0, none⟩)] w0 (WEnd wp w0 (enterR s)) := by
  obtain ⟨a, n, c, c0, c1, c2, ff, _, _⟩ := h.cells
  obtain ⟨p, ct⟩ := h.g
  have f2 := ff 2
  have hd := h.d
  have HT := hidLL (fun W => throw_q 189 p W)
  have H := hidLL h
  obtain ⟨R, hR⟩ : ∃ R, R = enterR s := ⟨_, rfl⟩
  rw [← hR]
  have HR := hidLL hR
  clear hR h ff
  by_cases h3 : 300 < s.d + 1
  · have h3z : (300 : Int) < (s.d : Int) + 1 := by omega
    have HN : Hid (R = none) := by show _ = _; rw [HR.out]; unfold enterR; rw [if_pos h3]
    have hd3 : s.d = 300 := by omega
    have HF : Hid (WFr wp w0 (w0.setCell ⟨wp, 2, none⟩ (.int .i64 301))) := ⟨rfl, rfl, rfl, by simp, fun k hk => Below.heap_setCell _ _ _ _ (by show k ≠ wp; omega), fun k cs t fr h5 h6 _ => (Below.heap_setCell _ _ _ _ h5).trans h6⟩
    have ct2 : (w0.setCell ⟨wp, 2, none⟩ (.int .i64 301)).cell? ⟨1, 0, none⟩ = some (.iface 189 (.pointer (some p))) := (HF.out.below.cell (p := ⟨1, 0, none⟩) H.out.lo).trans ct
    rw [hd3] at c2
    go_enter Tryz.func91, Tryz.ntmps91
    go_wp2_with (go_at_call 50; refine (HT.out _).mono ?_; rintro e w' ⟨rfl, h9⟩; subst w')
    rw [HN.out]
    exact ⟨rfl, HF.out, _, rfl⟩
  · have h3z : ¬ (300 : Int) < (s.d : Int) + 1 := by omega
    have HN : Hid (R = some ⟨s.ts, s.z, s.d + 1⟩) := by show _ = _; rw [HR.out]; unfold enterR; rw [if_neg h3]
    have HD := hidLL (H.out.setD (s.d + 1) (by omega))
    go_enter Tryz.func91, Tryz.ntmps91
    go_wp2
    go_end0
    rw [HN.out]
    have e : ((s.d + 1 : Nat) : Int) = (s.d : Int) + 1 := by omega
    rw [e] at HD
    exact ⟨HD.out.2, rfl, HD.out.1⟩
set_option maxHeartbeats 1000000 in
theorem wleave_q (h : WR w0 wp s) (h1 : 1 ≤ s.d) : Calls Tryz.prog 94 #[.pointer (some ⟨wp, 0, none⟩)] w0 (WEnd wp w0 (some (leaveR s))) := by
  obtain ⟨a, n, c, c0, c1, c2, ff, _, _⟩ := h.cells
  have f2 := ff 2
  have hd := h.d
  have HD := hidLL (h.setD (s.d - 1) (by omega))
  have e : ((s.d - 1 : Nat) : Int) = (s.d : Int) - 1 := by omega
  rw [e] at HD
  clear h ff
  go_enter Tryz.func94, Tryz.ntmps94
  go_wp2
  go_end0
  exact ⟨HD.out.2, rfl, HD.out.1⟩
end
/-- A kid that is there. -/
theorem kid_some {w : World} {P : Nat → Prop} {t k : Tn} {ka : Option Addr} {kc i : Nat} (h : NT w P ka kc t) (hk : t.kids[i]? = some k) :
    ∃ a c, NT w P a c k ∧ Calls Tryz.prog 92 #[.agg (ndT t ka kc), .int .i64 i] w fun e w' => e = .returned (.agg (ndT k a c)) ∧ Below w.heap.size w w' := by
  obtain ⟨hc, hl, hr⟩ := h.is
  obtain ⟨b, o, a, c, rfl, hb, hx, hn⟩ := hr i k hk
  refine ⟨a, c, hn, ?_⟩
  have hlt := (List.getElem?_eq_some_iff.1 hk).1
  have hW : Below w.heap.size w ((w.alloc (.cells (ndT t (some ⟨b, o, none⟩) kc) 25)).alloc (.cells #[.string ⟨#[]⟩, .string ⟨#[]⟩, .int .i64 0, .slice none 0 0] 25)) := ((Below.refl _ _).alloc (Nat.le_refl _) _).alloc (by simp) _
  have hbw : b < w.heap.size := cell_lt (hx 0 _ rfl)
  have hx' := range_on hx (hW.block b hbw)
  have x0 := hx' 0 _ rfl
  have x1 := hx' 1 _ rfl
  have x2 := hx' 2 _ rfl
  have x3 := hx' 3 _ rfl
  rw [Nat.add_zero] at x0
  unfold ndT at *
  generalize t.kids.length = tl at *
  have hz : ¬ (tl : Int) ≤ i := by omega
  have hiz : (i : Int) < tl := by omega
  have HW := hidLL hW
  clear hW hx hx' hr hn h hk
  generalize t.kind = t0 at *
  generalize t.word = t1 at *
  generalize t.num = t2 at *
  generalize k.kind = k0 at *
  generalize k.word = k1 at *
  generalize k.num = k2 at *
  generalize k.kids.length = kl at *
  go_enter Tryz.func92, Tryz.ntmps92
  go_wp2
  refine bodyPost_ret (v := .agg #[.string k0, .string k1, .int .i64 k2, .slice a kl c]) (by simp [results, Tryz.results92, go_sem]) rfl ?_
  refine ⟨rfl, ?_⟩
  exact ((Below.refl _ _).alloc (Nat.le_refl _) _).alloc (by simp) _
theorem kid_none {w : World} {wp : Nat} {s : WS} (hw : WR w wp s) {t : Tn} {ka : Option Addr} {kc i : Nat} (hk : t.kids[i]? = none) :
    Calls Tryz.prog 92 #[.agg (ndT t ka kc), .int .i64 i] w fun e w' => ThrT e ∧ Below w.heap.size w w' := by
  have hge : t.kids.length ≤ i := by
    rcases Nat.lt_or_ge i t.kids.length with h | h
    · rw [List.getElem?_eq_getElem h] at hk; cases hk
    · exact h
  obtain ⟨p, ct⟩ := hw.g
  have hW : Below w.heap.size w ((w.alloc (.cells (ndT t ka kc) 25)).alloc (.cells #[.string ⟨#[]⟩, .string ⟨#[]⟩, .int .i64 0, .slice none 0 0] 25)) := ((Below.refl _ _).alloc (Nat.le_refl _) _).alloc (by simp) _
  have ct2 := (hW.cell (p := ⟨1, 0, none⟩) (cell_lt ct)).trans ct
  have HT := hidLL (fun W => throw_q 189 p W)
  unfold ndT at *
  generalize t.kids.length = tl at *
  have hz : (tl : Int) ≤ i := by omega
  have HW := hidLL hW
  clear hW hk hw
  generalize t.kind = t0 at *
  generalize t.word = t1 at *
  generalize t.num = t2 at *
  go_enter Tryz.func92, Tryz.ntmps92
  go_wp2_with (go_at_call 50; refine (HT.out _).mono ?_; rintro e w' ⟨rfl, h9⟩; subst w')
  exact ⟨rfl, ⟨_, rfl⟩, HW.out⟩
end Go.Proofs.YtehbinobohjadaaGreatDoor
namespace Go.Proofs.YtehbinobohjadaaGreatDoor
open Go.RowKit Go.Sort Go.Extern.Stop Go.Stop Go.Extern

def TabW (w : World) : Prop := Lib.TabIs Tryz.prog w "internal/strconv.uint64pow10" .u64 Lib.pow10Tab
theorem TabW.lt {w : World} (h : TabW w) : 13 < w.heap.size := by
  have hg : Tryz.prog.globalNamed "internal/strconv.uint64pow10" = some 13 := by kernel_rfl
  rcases Nat.lt_or_ge 13 w.heap.size with k | k
  · exact k
  · have h' : w.var? Tryz.prog "internal/strconv.uint64pow10" = _ := h
    simp [World.var?, hg, Array.getElem?_eq_none k] at h'
theorem TabW.below {w w' : World} {B : Nat} (h : TabW w) (hb : Below B w w') (hB : 13 < B) : TabW w' :=
  var?_below hb (by kernel_rfl) hB h
theorem below_grow (w : World) (k : Nat) (os : Array Obj) : Below w.heap.size w (grow (w.drewN k) os) :=
  ⟨rfl, rfl, rfl, by first | (simp [grow]; done) | (simp [grow]; omega), fun i hi => by
    show ((w.drewN k).heap ++ os)[i]? = _
    rw [Array.getElem?_append_left (by show i < w.heap.size; omega)]
    rfl⟩
theorem itoa_q {w : World} (h : TabW w) {n : Int} (h0 : -9223372036854775808 ≤ n) (h1 : n ≤ 9223372036854775807) : Calls Tryz.prog 99 #[.int .i64 n] w fun e w' => e = .returned (.string (itoaB n)) ∧ Below w.heap.size w w' := by
  refine (Go.Proofs.Tryz.strconv_Itoa n h0 h1 w h).mono ?_
  rintro e w' ⟨rfl, k, os, rfl⟩
  exact ⟨rfl, below_grow w k os⟩
theorem tdiv_bd (n : Int) (m : Int) (hm : 1 ≤ m) (h0 : -9223372036854775808 ≤ n) (h1 : n ≤ 9223372036854775807) : -9223372036854775808 ≤ n.tdiv m ∧ n.tdiv m ≤ 9223372036854775807 := by
  have h2 := Int.natAbs_tdiv n m
  have h3 : (n.tdiv m).natAbs ≤ n.natAbs := by rw [h2]; exact Nat.div_le_self _ _
  by_cases hn : n < 0
  · constructor
    · omega
    · have h4 : n.tdiv m ≤ 0 := by
        have := Int.tdiv_nonneg (a := -n) (b := m) (by omega) (by omega)
        rw [Int.neg_tdiv] at this
        omega
      omega
  · have h4 := Int.tdiv_nonneg (show 0 ≤ n by omega) (show 0 ≤ m by omega)
    omega
theorem tmod_bd (n : Int) (m : Int) (hm : 1 ≤ m) : -m < n.tmod m ∧ n.tmod m < m := ⟨by have := Int.tmod_lt_of_pos (-n) (show 0 < m by omega); rw [Int.neg_tmod] at this; omega, Int.tmod_lt_of_pos n (by omega)⟩
theorem nDigits_bd : ∀ (f u : Nat), u < 10 ^ (f + 1) → 1 ≤ Lib.nDigits u ∧ Lib.nDigits u ≤ f + 1
  | 0, u, h => by rw [Lib.nDigits_small (by simpa using h)]; omega
  | f + 1, u, h => by
    by_cases h10 : u < 10
    · rw [Lib.nDigits_small h10]; omega
    · have := nDigits_bd f (u / 10) (by rw [Nat.pow_succ] at h; omega)
      have e : Lib.nDigits u = Lib.nDigits (u / 10) + 1 := by
        rw [← Lib.decDigits_length, ← Lib.decDigits_length, Lib.decDigits, dif_neg h10]; simp
      omega
theorem itoaB_size {n : Int} (h0 : -9223372036854775808 ≤ n) (h1 : n ≤ 9223372036854775807) : 1 ≤ (itoaB n).size ∧ (itoaB n).size ≤ 21 := by
  have e : (itoaB n).size = (Lib.itoa n).length := by show (Lib.itoa n).toArray.size = _; simp
  rw [e]
  unfold Lib.itoa
  split
  · rw [List.length_cons, Lib.decDigits_length]
    have := nDigits_bd 19 n.natAbs (by omega)
    omega
  · rw [Lib.decDigits_length]
    have := nDigits_bd 19 n.toNat (by omega)
    omega
set_option maxHeartbeats 1000000 in
theorem numberText_q {w : World} (h : TabW w) {n : Int} (h0 : -9223372036854775808 ≤ n) (h1 : n ≤ 9223372036854775807) : Calls Tryz.prog 126 #[.int .i64 n] w fun e w' => e = .returned (.string (numT n)) ∧ Below w.heap.size w w' := by
  have b1 := tdiv_bd n 100 (by omega) h0 h1
  have b2 := tmod_bd n 100 (by omega)
  have b3 := tdiv_bd (n.tmod 100) 10 (by omega) (by omega) (by omega)
  have b4 := tmod_bd n 10 (by omega)
  have H1 := hidLL (fun W (hb : Below w.heap.size w W) => itoa_q (h.below hb h.lt) b1.1 b1.2)
  have H2 := hidLL (fun W (hb : Below w.heap.size w W) => itoa_q (h.below hb h.lt) b3.1 b3.2)
  have H3 := hidLL (fun W (hb : Below w.heap.size w W) => itoa_q (n := n.tmod 10) (h.below hb h.lt) (by omega) (by omega))
  have HE : Hid (numT n = if n.tmod 100 = 0 then itoaB (n.tdiv 100) else itoaB (n.tdiv 100) ++ ⟨#[46]⟩ ++ itoaB ((n.tmod 100).tdiv 10) ++ itoaB (n.tmod 10)) := rfl
  generalize numT n = O at *
  by_cases hz : n.tmod 100 = 0
  · have hzb : (n.tmod 100 == 0) = true := by rw [hz]; rfl
    have HO : Hid (O = itoaB (n.tdiv 100)) := by show _ = _; rw [HE.out, if_pos hz]
    clear HE hz H2 H3
    go_enter Tryz.func126, Tryz.ntmps126
    go_wp2_with (go_at_call 99; refine (H1.out _ (Below.refl _ _)).mono ?_; rintro e w' ⟨rfl, hb⟩; have HB := hidLL hb; clear hb)
    go_ret
    exact ⟨by rw [HO.out]; rfl, HB.out⟩
  · have hzb : (n.tmod 100 == 0) = false := by rw [beq_eq_false_iff_ne]; exact hz
    have HO : Hid (O = itoaB (n.tdiv 100) ++ ⟨#[46]⟩ ++ itoaB ((n.tmod 100).tdiv 10) ++ itoaB (n.tmod 10)) := by show _ = _; rw [HE.out, if_neg hz]
    have z1 := (itoaB_size b1.1 b1.2).2
    have z2 := (itoaB_size b3.1 b3.2).2
    have z3 := (itoaB_size (n := n.tmod 10) (by omega) (by omega)).2
    have y1 : ¬ 9223372036854775807 < (itoaB (n.tdiv 100)).size + 1 := by omega
    have y2 : ¬ 9223372036854775807 < (itoaB (n.tdiv 100)).size + 1 + (itoaB ((n.tmod 100).tdiv 10)).size := by omega
    have y3 : ¬ 9223372036854775807 < (itoaB (n.tdiv 100)).size + 1 + (itoaB ((n.tmod 100).tdiv 10)).size + (itoaB (n.tmod 10)).size := by omega
    clear HE hz
    go_enter Tryz.func126, Tryz.ntmps126
    go_upto_region 2 with (go_at_call 99; refine (H1.out _ (Below.refl _ _)).mono ?_; rintro e w1 ⟨rfl, hb⟩; have HB := hidLL hb; clear hb)
    clear H1
    go_wp2_with (first | (go_at_call 99; refine (H3.out _ HB2.out).mono ?_; rintro e w3 ⟨rfl, hb⟩; have HB3 := hidLL (HB2.out.trans (hb.mono HB2.out.size)); clear hb) | (go_at_call 99; refine (H2.out _ HB.out).mono ?_; rintro e w2 ⟨rfl, hb⟩; have HB2 := hidLL (HB.out.trans (hb.mono HB.out.size)); clear hb))
    go_ret
    exact ⟨by rw [HO.out]; rfl, HB3.out⟩
end Go.Proofs.YtehbinobohjadaaGreatDoor
namespace Go.Proofs.YtehbinobohjadaaGreatDoor
open Go.RowKit Go.Extern.Stop Go.Stop Go.Extern

/-- A factor. -/
def facG (t : Tn) (s : WS) : Option WS :=
  if eqB t.kind wNumber = true then putR s (numT t.num)
  else if eqB t.kind wName = true then putR s t.word
  else if eqB t.kind wCount = true then putsR s [wCount, t.word]
  else if eqB t.kind wTotal = true then (match t.kids with
    | a :: _ => putsR s [wTotal, t.word, wOf, a.word]
    | _ => none)
  else if eqB t.kind wMax = true ∨ eqB t.kind wMin = true then (match t.kids with
    | a :: b :: _ => (putsR s [t.kind, sg 40]).bind fun s => (sumR a 0 s).bind fun s => (putR s (sg 44)).bind fun s => (sumR b 0 s).bind fun s => putR s (sg 41)
    | _ => none)
  else none
/-- A comparison. -/
def cmpG (t : Tn) (s : WS) : Option WS := if (placeIn ordersW t.kind).isSome = true then (match t.kids with
    | a :: b :: _ => (sumR a 0 s).bind fun s => (putR s t.kind).bind fun s => sumR b 0 s
    | _ => none) else none
theorem sumG_add {t : Tn} (h : eqB t.kind (sg 43) = true ∨ eqB t.kind (sg 45) = true) (s : WS) : sumG t s = (enterR s).bind fun s => Option.map leaveR (match t.kids with
    | a :: b :: _ => (sumR a 0 s).bind fun s => (putR s t.kind).bind fun s => sumR b 1 s
    | _ => none) := by
  obtain ⟨k, w, n, ks⟩ := t
  have h : eqB k (sg 43) = true ∨ eqB k (sg 45) = true := h
  rw [sumG]
  simp only [if_pos h]
  rfl
theorem sumG_mul {t : Tn} (h : ¬ (eqB t.kind (sg 43) = true ∨ eqB t.kind (sg 45) = true)) (h2 : eqB t.kind (sg 42) = true) (s : WS) : sumG t s = (enterR s).bind fun s => Option.map leaveR (match t.kids with
    | a :: _ => (sumR a 1 s).bind fun s => putsR s [sg 42, numT t.num, sg 37]
    | _ => none) := by
  obtain ⟨k, w, n, ks⟩ := t
  have h : ¬ (eqB k (sg 43) = true ∨ eqB k (sg 45) = true) := h
  have h2 : eqB k (sg 42) = true := h2
  rw [sumG]
  simp only [if_neg h, if_pos h2]
  rfl
theorem sumG_fac {t : Tn} (h : ¬ (eqB t.kind (sg 43) = true ∨ eqB t.kind (sg 45) = true)) (h2 : ¬ eqB t.kind (sg 42) = true) (s : WS) : sumG t s = (enterR s).bind fun s => Option.map leaveR (facG t s) := by
  obtain ⟨k, w, n, ks⟩ := t
  have h : ¬ (eqB k (sg 43) = true ∨ eqB k (sg 45) = true) := h
  have h2 : ¬ eqB k (sg 42) = true := h2
  rw [sumG]
  simp only [if_neg h, if_neg h2]
  rfl
theorem condG_bin {t : Tn} (h : eqB t.kind wOr = true ∨ eqB t.kind wAnd = true) (s : WS) : condG t s = (enterR s).bind fun s => Option.map leaveR (match t.kids with
    | a :: b :: _ => (condR a (lvC t.kind) s).bind fun s => (putR s t.kind).bind fun s => condR b (lvC t.kind + 1) s
    | _ => none) := by
  obtain ⟨k, w, n, ks⟩ := t
  have h : eqB k wOr = true ∨ eqB k wAnd = true := h
  rw [condG]
  simp only [if_pos h]
  rfl
theorem condG_not {t : Tn} (h : ¬ (eqB t.kind wOr = true ∨ eqB t.kind wAnd = true)) (h2 : eqB t.kind wNot = true) (s : WS) : condG t s = (enterR s).bind fun s => Option.map leaveR (match t.kids with
    | a :: _ => (putR s wNot).bind fun s => condR a 2 s
    | _ => none) := by
  obtain ⟨k, w, n, ks⟩ := t
  have h : ¬ (eqB k wOr = true ∨ eqB k wAnd = true) := h
  have h2 : eqB k wNot = true := h2
  rw [condG]
  simp only [if_neg h, if_pos h2]
  rfl
theorem condG_of {t : Tn} (h : ¬ (eqB t.kind wOr = true ∨ eqB t.kind wAnd = true)) (h2 : ¬ eqB t.kind wNot = true) (h3 : eqB t.kind wSome = true ∨ eqB t.kind wEvery = true) (s : WS) : condG t s = (enterR s).bind fun s => Option.map leaveR (match t.kids with
    | a :: _ => (putsR s [t.kind, t.word, sg 40]).bind fun s => (condR a 0 s).bind fun s => putR s (sg 41)
    | _ => none) := by
  obtain ⟨k, w, n, ks⟩ := t
  have h : ¬ (eqB k wOr = true ∨ eqB k wAnd = true) := h
  have h2 : ¬ eqB k wNot = true := h2
  have h3 : eqB k wSome = true ∨ eqB k wEvery = true := h3
  rw [condG]
  simp only [if_neg h, if_neg h2, if_pos h3]
  rfl
theorem condG_rest {t : Tn} (h : ¬ (eqB t.kind wOr = true ∨ eqB t.kind wAnd = true)) (h2 : ¬ eqB t.kind wNot = true) (h3 : ¬ (eqB t.kind wSome = true ∨ eqB t.kind wEvery = true)) (s : WS) : condG t s = (enterR s).bind fun s => Option.map leaveR (if eqB t.kind wName = true then putR s t.word else cmpG t s) := by
  obtain ⟨k, w, n, ks⟩ := t
  have h : ¬ (eqB k wOr = true ∨ eqB k wAnd = true) := h
  have h2 : ¬ eqB k wNot = true := h2
  have h3 : ¬ (eqB k wSome = true ∨ eqB k wEvery = true) := h3
  rw [condG]
  simp only [if_neg h, if_neg h2, if_neg h3]
  rfl
theorem condG_name {t : Tn} (h : ¬ (eqB t.kind wOr = true ∨ eqB t.kind wAnd = true)) (h2 : ¬ eqB t.kind wNot = true) (h3 : ¬ (eqB t.kind wSome = true ∨ eqB t.kind wEvery = true)) (h4 : eqB t.kind wName = true) (s : WS) : condG t s = (enterR s).bind fun s => Option.map leaveR (putR s t.word) := by
  rw [condG_rest h h2 h3]
  simp only [if_pos h4]
theorem condG_cmp {t : Tn} (h : ¬ (eqB t.kind wOr = true ∨ eqB t.kind wAnd = true)) (h2 : ¬ eqB t.kind wNot = true) (h3 : ¬ (eqB t.kind wSome = true ∨ eqB t.kind wEvery = true)) (h4 : ¬ eqB t.kind wName = true) (s : WS) : condG t s = (enterR s).bind fun s => Option.map leaveR (cmpG t s) := by
  rw [condG_rest h h2 h3]
  simp only [if_neg h4]
theorem putR_d {s s' : WS} {x : ByteArray} (h : putR s x = some s') : s'.d = s.d := by
  unfold putR at h
  split at h
  · cases h
  · injection h with h; rw [← h]
theorem putsR_d : ∀ {l : List ByteArray} {s s' : WS}, putsR s l = some s' → s'.d = s.d
  | [], s, s', h => by injection h with h; rw [h]
  | x :: l, s, s', h => by
    rw [putsR, Option.bind_eq_some_iff] at h
    obtain ⟨s1, h1, h2⟩ := h
    rw [putsR_d h2, putR_d h1]
theorem brS_d {k : ByteArray} {lv : Nat} {go : WS → Option WS} (hg : ∀ s s', go s = some s' → s'.d = s.d) {s s' : WS} (h : brS k lv go s = some s') : s'.d = s.d := by
  unfold brS at h
  split at h
  · rw [Option.bind_eq_some_iff] at h
    obtain ⟨s1, h1, h⟩ := h
    rw [Option.bind_eq_some_iff] at h
    obtain ⟨s2, h2, h⟩ := h
    rw [putR_d h, hg _ _ h2, putR_d h1]
  · exact hg _ _ h
theorem brC_d {k : ByteArray} {lv : Nat} {go : WS → Option WS} (hg : ∀ s s', go s = some s' → s'.d = s.d) {s s' : WS} (h : brC k lv go s = some s') : s'.d = s.d := by
  unfold brC at h
  split at h
  · rw [Option.bind_eq_some_iff] at h
    obtain ⟨s1, h1, h⟩ := h
    rw [Option.bind_eq_some_iff] at h
    obtain ⟨s2, h2, h⟩ := h
    rw [putR_d h, hg _ _ h2, putR_d h1]
  · exact hg _ _ h
theorem wrap_d {s s' : WS} {f : WS → Option WS} (hf : ∀ s s', f s = some s' → s'.d = s.d) (h : ((enterR s).bind fun s => Option.map leaveR (f s)) = some s') : s'.d = s.d := by
  rw [Option.bind_eq_some_iff] at h
  obtain ⟨s1, h1, h⟩ := h
  rw [Option.map_eq_some_iff] at h
  obtain ⟨s2, h2, rfl⟩ := h
  have := hf _ _ h2
  unfold enterR at h1
  split at h1
  · cases h1
  · injection h1 with h1
    subst h1
    have this : s2.d = s.d + 1 := this
    show s2.d - 1 = s.d
    omega
theorem bind_d {s s' : WS} {r : Option WS} {f : WS → Option WS} (hr : ∀ s1, r = some s1 → s1.d = s.d) (hf : ∀ s1 s', f s1 = some s' → s'.d = s1.d) (h : r.bind f = some s') : s'.d = s.d := by
  rw [Option.bind_eq_some_iff] at h
  obtain ⟨s1, h1, h⟩ := h
  rw [hf _ _ h, hr _ h1]
theorem kids_lt {t a : Tn} {i : Nat} (h : t.kids[i]? = some a) : SizeOf.sizeOf a < SizeOf.sizeOf t := by
  obtain ⟨k, w, n, ks⟩ := t
  have h1 := List.sizeOf_lt_of_mem (List.mem_of_getElem? h)
  simp only [Tn.mk.sizeOf_spec]
  have : SizeOf.sizeOf (Tn.kids (.mk k w n ks)) = SizeOf.sizeOf ks := rfl
  omega
theorem sumG_d : ∀ (n : Nat) (t : Tn), SizeOf.sizeOf t = n → ∀ s s', sumG t s = some s' → s'.d = s.d := by
  intro n
  induction n using Nat.strongRecOn with
  | _ n ih =>
    intro t ht s s' h
    have ihk : ∀ (i : Nat) (a : Tn) (lv : Nat), t.kids[i]? = some a → ∀ s s', sumR a lv s = some s' → s'.d = s.d := fun i a lv ha s s' h => brS_d (ih _ (by have := kids_lt ha; omega) a rfl) h
    by_cases h1 : eqB t.kind (sg 43) = true ∨ eqB t.kind (sg 45) = true
    · rw [sumG_add h1] at h
      refine wrap_d (fun s s' h => ?_) h
      split at h
      · rename_i a b r e
        exact bind_d (fun _ h => ihk 0 a _ (by rw [e]; rfl) _ _ h) (fun _ _ h => bind_d (fun _ h => putR_d h) (fun _ _ h => ihk 1 b _ (by rw [e]; rfl) _ _ h) h) h
      · cases h
    · by_cases h2 : eqB t.kind (sg 42) = true
      · rw [sumG_mul h1 h2] at h
        refine wrap_d (fun s s' h => ?_) h
        split at h
        · rename_i a r e
          exact bind_d (fun _ h => ihk 0 a _ (by rw [e]; rfl) _ _ h) (fun _ _ h => putsR_d h) h
        · cases h
      · rw [sumG_fac h1 h2] at h
        refine wrap_d (fun s s' h => ?_) h
        unfold facG at h
        split at h
        · exact putR_d h
        · split at h
          · exact putR_d h
          · split at h
            · exact putsR_d h
            · split at h
              · split at h
                · exact putsR_d h
                · cases h
              · split at h
                · split at h
                  · rename_i a b r e
                    exact bind_d (fun _ h => putsR_d h) (fun _ _ h => bind_d (fun _ h => ihk 0 a _ (by rw [e]; rfl) _ _ h) (fun _ _ h => bind_d (fun _ h => putR_d h) (fun _ _ h => bind_d (fun _ h => ihk 1 b _ (by rw [e]; rfl) _ _ h) (fun _ _ h => putR_d h) h) h) h) h
                  · cases h
                · cases h
theorem sumR_d {t : Tn} {lv : Nat} {s s' : WS} (h : sumR t lv s = some s') : s'.d = s.d := brS_d (sumG_d _ t rfl) h
theorem facG_d {t : Tn} {s s' : WS} (h : facG t s = some s') : s'.d = s.d := by
  unfold facG at h
  split at h
  · exact putR_d h
  · split at h
    · exact putR_d h
    · split at h
      · exact putsR_d h
      · split at h
        · split at h
          · exact putsR_d h
          · cases h
        · split at h
          · split at h
            · exact bind_d (fun _ h => putsR_d h) (fun _ _ h => bind_d (fun _ h => sumR_d h) (fun _ _ h => bind_d (fun _ h => putR_d h) (fun _ _ h => bind_d (fun _ h => sumR_d h) (fun _ _ h => putR_d h) h) h) h) h
            · cases h
          · cases h
theorem cmpG_d {t : Tn} {s s' : WS} (h : cmpG t s = some s') : s'.d = s.d := by
  unfold cmpG at h
  split at h
  · split at h
    · exact bind_d (fun _ h => sumR_d h) (fun _ _ h => bind_d (fun _ h => putR_d h) (fun _ _ h => sumR_d h) h) h
    · cases h
  · cases h
theorem condG_d : ∀ (n : Nat) (t : Tn), SizeOf.sizeOf t = n → ∀ s s', condG t s = some s' → s'.d = s.d := by
  intro n
  induction n using Nat.strongRecOn with
  | _ n ih =>
    intro t ht s s' h
    have ihk : ∀ (i : Nat) (a : Tn) (lv : Nat), t.kids[i]? = some a → ∀ s s', condR a lv s = some s' → s'.d = s.d := fun i a lv ha s s' h => brC_d (ih _ (by have := kids_lt ha; omega) a rfl) h
    by_cases h1 : eqB t.kind wOr = true ∨ eqB t.kind wAnd = true
    · rw [condG_bin h1] at h
      refine wrap_d (fun s s' h => ?_) h
      split at h
      · rename_i a b r e
        exact bind_d (fun _ h => ihk 0 a _ (by rw [e]; rfl) _ _ h) (fun _ _ h => bind_d (fun _ h => putR_d h) (fun _ _ h => ihk 1 b _ (by rw [e]; rfl) _ _ h) h) h
      · cases h
    · by_cases h2 : eqB t.kind wNot = true
      · rw [condG_not h1 h2] at h
        refine wrap_d (fun s s' h => ?_) h
        split at h
        · rename_i a r e
          exact bind_d (fun _ h => putR_d h) (fun _ _ h => ihk 0 a _ (by rw [e]; rfl) _ _ h) h
        · cases h
      · by_cases h3 : eqB t.kind wSome = true ∨ eqB t.kind wEvery = true
        · rw [condG_of h1 h2 h3] at h
          refine wrap_d (fun s s' h => ?_) h
          split at h
          · rename_i a r e
            exact bind_d (fun _ h => putsR_d h) (fun _ _ h => bind_d (fun _ h => ihk 0 a _ (by rw [e]; rfl) _ _ h) (fun _ _ h => putR_d h) h) h
          · cases h
        · rw [condG_rest h1 h2 h3] at h
          refine wrap_d (fun s s' h => ?_) h
          split at h
          · exact putR_d h
          · unfold cmpG at h
            split at h
            · split at h
              · exact bind_d (fun _ h => sumR_d h) (fun _ _ h => bind_d (fun _ h => putR_d h) (fun _ _ h => sumR_d h) h) h
              · cases h
            · cases h
theorem condR_d {t : Tn} {lv : Nat} {s s' : WS} (h : condR t lv s = some s') : s'.d = s.d := brC_d (condG_d _ t rfl) h
end Go.Proofs.YtehbinobohjadaaGreatDoor
namespace Go.Proofs.YtehbinobohjadaaGreatDoor
open Go.RowKit Go.Sort Go.Extern.Stop Go.Stop Go.Extern

theorem eqB_of {k x : ByteArray} {l : List UInt8} {b : Bool} (h : (k.toList == l) = b) (hx : x.data.toList = l) : eqB k x = b := by
  unfold eqB
  rw [Lib.toList_data x, hx]
  exact h
theorem levelOfSum_q (k : ByteArray) (w : World) : Calls Tryz.prog 125 #[.string k] w fun e w' => e = .returned (.int .i64 (lvS k)) ∧ w' = w := by
  have hL : Hid (lvS k = if eqB k (sg 43) = true ∨ eqB k (sg 45) = true then 0 else if eqB k (sg 42) = true then 1 else 2) := rfl
  generalize lvS k = L at *
  cases h0 : (k.toList == [43])
  · cases h1 : (k.toList == [45])
    · cases h2 : (k.toList == [42])
      · have HE : Hid (L = 2) := by show _ = _; rw [hL.out, eqB_of h0 rfl, eqB_of h1 rfl, eqB_of h2 rfl]; rfl
        go_enter Tryz.func125, Tryz.ntmps125
        go_wp2
        go_ret
        exact ⟨by rw [HE.out]; rfl, rfl⟩
      · have HE : Hid (L = 1) := by show _ = _; rw [hL.out, eqB_of h0 rfl, eqB_of h1 rfl, eqB_of h2 rfl]; rfl
        go_enter Tryz.func125, Tryz.ntmps125
        go_wp2
        go_ret
        exact ⟨by rw [HE.out]; rfl, rfl⟩
    · have HE : Hid (L = 0) := by show _ = _; rw [hL.out, eqB_of h0 rfl, eqB_of h1 rfl]; rfl
      go_enter Tryz.func125, Tryz.ntmps125
      go_wp2
      go_ret
      exact ⟨by rw [HE.out]; rfl, rfl⟩
  · have HE : Hid (L = 0) := by show _ = _; rw [hL.out, eqB_of h0 rfl, if_pos (.inl rfl)]
    go_enter Tryz.func125, Tryz.ntmps125
    go_wp2
    go_ret
    exact ⟨by rw [HE.out]; rfl, rfl⟩
theorem levelOfCondition_q (k : ByteArray) (w : World) : Calls Tryz.prog 90 #[.string k] w fun e w' => e = .returned (.int .i64 (lvC k)) ∧ w' = w := by
  have hL : Hid (lvC k = if eqB k wOr = true then 0 else if eqB k wAnd = true then 1 else if eqB k wNot = true then 2 else 3) := rfl
  generalize lvC k = L at *
  cases h0 : (k.toList == [111, 114])
  · cases h1 : (k.toList == [97, 110, 100])
    · cases h2 : (k.toList == [110, 111, 116])
      · have HE : Hid (L = 3) := by show _ = _; rw [hL.out, eqB_of h0 rfl, eqB_of h1 rfl, eqB_of h2 rfl]; rfl
        go_enter Tryz.func90, Tryz.ntmps90
        go_wp2
        go_ret
        exact ⟨by rw [HE.out]; rfl, rfl⟩
      · have HE : Hid (L = 2) := by show _ = _; rw [hL.out, eqB_of h0 rfl, eqB_of h1 rfl, eqB_of h2 rfl]; rfl
        go_enter Tryz.func90, Tryz.ntmps90
        go_wp2
        go_ret
        exact ⟨by rw [HE.out]; rfl, rfl⟩
    · have HE : Hid (L = 1) := by show _ = _; rw [hL.out, eqB_of h0 rfl, eqB_of h1 rfl]; rfl
      go_enter Tryz.func90, Tryz.ntmps90
      go_wp2
      go_ret
      exact ⟨by rw [HE.out]; rfl, rfl⟩
  · have HE : Hid (L = 0) := by show _ = _; rw [hL.out, eqB_of h0 rfl]; rfl
    go_enter Tryz.func90, Tryz.ntmps90
    go_wp2
    go_ret
    exact ⟨by rw [HE.out]; rfl, rfl⟩
/-- A node whose texts and numbers are such as a program has. -/
inductive TnOk : Tn → Prop
  | mk (t : Tn) (h0 : t.kind.size ≤ 281474976710656) (h1 : t.word.size ≤ 281474976710656) (h2 : -9223372036854775808 ≤ t.num) (h3 : t.num ≤ 9223372036854775807) (hk : ∀ (i : Nat) (k : Tn), t.kids[i]? = some k → TnOk k) : TnOk t
theorem TnOk.is {t : Tn} (h : TnOk t) : t.kind.size ≤ 281474976710656 ∧ t.word.size ≤ 281474976710656 ∧ -9223372036854775808 ≤ t.num ∧ t.num ≤ 9223372036854775807 ∧ ∀ (i : Nat) (k : Tn), t.kids[i]? = some k → TnOk k := by
  cases h with
  | mk _ h0 h1 h2 h3 hk => exact ⟨h0, h1, h2, h3, hk⟩
/-- What stands ready for writing: the writer, the table of tens. -/
structure SW (w0 W : World) (wp : Nat) (s : WS) : Prop where
  wr : WR W wp s
  fr : WFr wp w0 W
  tb : TabW W
  lo : 13 < wp
theorem SW.step {w0 W W' : World} {wp : Nat} {s s' : WS} (h : SW w0 W wp s) (hf : WFr wp W W') (hr : WR W' wp s') : SW w0 W' wp s' := ⟨hr, h.fr.trans hf, h.tb.below hf.below h.lo, h.lo⟩
theorem SW.grow {w0 W W' : World} {wp : Nat} {s : WS} (h : SW w0 W wp s) (hb : Below W.heap.size W W') : SW w0 W' wp s := h.step (WFr.of hb (Nat.le_of_lt h.wr.in)) (h.wr.below hb)
theorem SW.alloc {w0 W : World} {wp : Nat} {s : WS} (h : SW w0 W wp s) (o : Obj) : SW w0 (W.alloc o) wp s := h.grow ((Below.refl _ _).alloc (Nat.le_refl _) _)
/-- The node's own box, and where its kids lie. -/
structure BX (W : World) (wp b : Nat) (t : Tn) (ka : Option Addr) (kc : Nat) : Prop where
  bx : W.heap[b]? = some (.cells (ndT t ka kc) 25 (0, 0))
  nt : NT W (· < wp) ka kc t
  ne : wp < b
theorem BX.step {W W' : World} {wp b : Nat} {t : Tn} {ka : Option Addr} {kc : Nat} (h : BX W wp b t ka kc) (hf : WFr wp W W') : BX W' wp b t ka kc := ⟨hf.box h.bx (by have := h.ne; omega), h.nt.step fun k hk => ⟨hf.low k hk, hk⟩, h.ne⟩
theorem BX.cells {W : World} {wp b : Nat} {t : Tn} {ka : Option Addr} {kc : Nat} (h : BX W wp b t ka kc) : W.cell? ⟨b, 0, none⟩ = some (.string t.kind) ∧ W.cell? ⟨b, 1, none⟩ = some (.string t.word) ∧ W.cell? ⟨b, 2, none⟩ = some (.int .i64 t.num) ∧ W.cell? ⟨b, 3, none⟩ = some (.slice ka t.kids.length kc) := by
  have hb := h.bx
  unfold ndT at hb
  refine ⟨?_, ?_, ?_, ?_⟩ <;> simp [World.cell?, hb]
theorem BX.new {w : World} {wp : Nat} {t : Tn} {ka : Option Addr} {kc : Nat} (hn : NT w (· < wp) ka kc t) (hw : wp < w.heap.size) : BX (w.alloc (.cells (ndT t ka kc) 25)) wp w.heap.size t ka kc :=
  ⟨heap_alloc_new _ _, hn.step fun k hk => ⟨Go.Deep.blk_alloc_lt _ _ _ (by omega), hk⟩, hw⟩
theorem SW.here {w0 W : World} {wp : Nat} {s : WS} (h : SW w0 W wp s) : SW W W wp s := ⟨h.wr, WFr.refl _ _, h.tb, h.lo⟩
/-- What sum, condition are to be shown to do. -/
def SumB (t : Tn) : Prop := ∀ (w : World) (wp : Nat) (s : WS) (ka : Option Addr) (kc : Nat) (l : Int) (lv : Nat), l = lv → SW w w wp s → NT w (· < wp) ka kc t → lv ≤ lvS t.kind → Calls Tryz.prog 98 #[.pointer (some ⟨wp, 0, none⟩), .agg (ndT t ka kc), .int .i64 l] w (WEnd wp w (sumG t s))
def SumI (t : Tn) : Prop := ∀ (w : World) (wp : Nat) (s : WS) (ka : Option Addr) (kc : Nat) (l : Int) (lv : Nat), l = lv → SW w w wp s → NT w (· < wp) ka kc t → lv ≤ 3 → Calls Tryz.prog 98 #[.pointer (some ⟨wp, 0, none⟩), .agg (ndT t ka kc), .int .i64 l] w (WEnd wp w (sumR t lv s))
def FacI (t : Tn) : Prop := ∀ (w : World) (wp : Nat) (s : WS) (ka : Option Addr) (kc : Nat), SW w w wp s → NT w (· < wp) ka kc t → Calls Tryz.prog 127 #[.pointer (some ⟨wp, 0, none⟩), .agg (ndT t ka kc)] w (WEnd wp w (facG t s))
def CmpI (t : Tn) : Prop := ∀ (w : World) (wp : Nat) (s : WS) (ka : Option Addr) (kc : Nat), SW w w wp s → NT w (· < wp) ka kc t → Calls Tryz.prog 93 #[.pointer (some ⟨wp, 0, none⟩), .agg (ndT t ka kc)] w (WEnd wp w (cmpG t s))
def ConB (t : Tn) : Prop := ∀ (w : World) (wp : Nat) (s : WS) (ka : Option Addr) (kc : Nat) (l : Int) (lv : Nat), l = lv → SW w w wp s → NT w (· < wp) ka kc t → lv ≤ lvC t.kind → Calls Tryz.prog 46 #[.pointer (some ⟨wp, 0, none⟩), .agg (ndT t ka kc), .int .i64 l] w (WEnd wp w (condG t s))
def ConI (t : Tn) : Prop := ∀ (w : World) (wp : Nat) (s : WS) (ka : Option Addr) (kc : Nat) (l : Int) (lv : Nat), l = lv → SW w w wp s → NT w (· < wp) ka kc t → lv ≤ 4 → Calls Tryz.prog 46 #[.pointer (some ⟨wp, 0, none⟩), .agg (ndT t ka kc), .int .i64 l] w (WEnd wp w (condR t lv s))
theorem enterR_d {s s' : WS} (h : enterR s = some s') : s'.d = s.d + 1 := by
  unfold enterR at h
  split at h
  · cases h
  · injection h with h; rw [← h]
theorem numT_size {n : Int} (h0 : -9223372036854775808 ≤ n) (h1 : n ≤ 9223372036854775807) : (numT n).size ≤ 281474976710656 := by
  have b1 := tdiv_bd n 100 (by omega) h0 h1
  have b2 := tmod_bd n 100 (by omega)
  have b3 := tdiv_bd (n.tmod 100) 10 (by omega) (by omega) (by omega)
  have b4 := tmod_bd n 10 (by omega)
  have z1 := itoaB_size b1.1 b1.2
  have z2 := itoaB_size b3.1 b3.2
  have z3 := itoaB_size (n := n.tmod 10) (by omega) (by omega)
  unfold numT
  split
  · omega
  · simp only [ByteArray.size_append]
    have : (⟨#[46]⟩ : ByteArray).size = 1 := rfl
    omega
theorem lvS_le (k : ByteArray) : lvS k ≤ 2 := by
  unfold lvS
  split
  · omega
  · split <;> omega
theorem lvC_le (k : ByteArray) : lvC k ≤ 3 := by
  unfold lvC
  split
  · omega
  · split
    · omega
    · split <;> omega
end Go.Proofs.YtehbinobohjadaaGreatDoor
