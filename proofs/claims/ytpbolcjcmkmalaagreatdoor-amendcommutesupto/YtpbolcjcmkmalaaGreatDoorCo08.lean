/-
  Package script: isLine.
-/
import Derived.Test.YtpbolcjcmkmalaaGreatDoorCo06
import Derived.Test.YtpbolcjcmkmalaaGreatDoorShelfT
import Derived.Test.YtpbolcjcmkmalaaGreatDoorCo04
import Derived.Lib.Strings
import Derived.Laws.Cover1
import Derived.WalkKit
import Derived.Test.YtpbolcjcmkmalaaGreatDoorProg
import Derived.Lib.Split
import Derived.Lib.IndexMore
namespace Go.Proofs.YtpbolcjcmkmalaaGreatDoor
open Go.RowKit Go.Extern.Stop Go.Stop Go.Extern

theorem dw_len (p : UInt8 → Bool) (l : List UInt8) : (l.dropWhile p).length ≤ l.length := (List.dropWhile_sublist p).length_le
theorem dw_id {p : UInt8 → Bool} {l : List UInt8} (h : ∀ b, l.head? = some b → p b = false) : l.dropWhile p = l := by
  cases l with
  | nil => rfl
  | cons a t => rw [List.dropWhile_cons_of_neg (by simp [h a rfl])]
theorem dw_lt {p : UInt8 → Bool} {l : List UInt8} {b : UInt8} (h : l.head? = some b) (hb : p b = true) : (l.dropWhile p).length < l.length := by
  cases l with
  | nil => cases h
  | cons a t =>
    have : a = b := by simpa using h
    subst this
    rw [List.dropWhile_cons_of_pos hb]
    have := dw_len p t
    simp
    omega
/-- Neither begins nor ends with a byte. -/
def Edge (l : List UInt8) (c : UInt8) : Prop := (∀ b, l.head? = some b → b ≠ c) ∧ (∀ b, l.reverse.head? = some b → b ≠ c)
theorem trimB_id (l : List UInt8) (c : UInt8) : Lib.trimB l c = l ↔ Edge l c := by
  unfold Lib.trimB Lib.trimLeftB Lib.trimRightB
  constructor
  · intro h
    have h2 : ∀ b, l.reverse.head? = some b → b ≠ c := fun b hb e => by
      have h1 := dw_lt (p := (· == c)) hb (by simp [e])
      have h3 := dw_len (· == c) (l.reverse.dropWhile (· == c)).reverse
      rw [h] at h3
      simp at h1 h3
      omega
    refine ⟨fun b hb e => ?_, h2⟩
    rw [dw_id (l := l.reverse) (fun b hb => by simpa using h2 b hb), List.reverse_reverse] at h
    have h1 := dw_lt (p := (· == c)) hb (by simp [e])
    rw [h] at h1
    omega
  · rintro ⟨h1, h2⟩
    rw [dw_id (l := l.reverse) (fun b hb => by simpa using h2 b hb), List.reverse_reverse]
    exact dw_id (fun b hb => by simpa using h1 b hb)
noncomputable def edgeB (s : ByteArray) : Bool := open Classical in decide (Edge (bl s) 32)
theorem edgeB_iff (s : ByteArray) : edgeB s = true ↔ Edge (bl s) 32 := by unfold edgeB; simp
/-- A line, a heading, a title. -/
noncomputable def lineB (s : ByteArray) : Bool := decide (s.size ≤ 300) && plainB s && edgeB s
theorem trim_eq (s : ByteArray) : ((⟨(Lib.trimB s.data.toList 32).toArray⟩ : ByteArray).toList == s.toList) = edgeB s := by
  rw [Bool.eq_iff_iff, beq_iff_eq, edgeB_iff, Lib.toList_data, Lib.toList_data, ← trimB_id]
set_option maxHeartbeats 1000000 in
theorem isLine_any (s : ByteArray) (hs : s.size ≤ 9223372036854775807) (w : World) : Calls Tryz.prog 60 #[.string s] w fun e w' => e = .returned (.bool (lineB s)) ∧ Below w.heap.size w w' := by
  have HP := hidL (isPlain_any s w)
  have HT := hidL (fun W => Go.Proofs.Tryz.strings_Trim_one s 32 (by decide) W hs)
  have HE := hidL (trim_eq s)
  have HL : Hid (lineB s = (decide (s.size ≤ 300) && plainB s && edgeB s)) := rfl
  rw [← HE.out] at HL
  generalize (⟨(Lib.trimB s.data.toList 32).toArray⟩ : ByteArray) = t at *
  clear HE
  by_cases h : s.size ≤ 300
  · have h' : (s.size : Int) ≤ 300 := by omega
    rw [show decide (s.size ≤ 300) = true by simpa using h] at HL
    cases hp : plainB s
    · rw [hp] at HL HP
      have HL2 : Hid (lineB s = false) := HL.out
      clear hp
      go_enter Tryz.func60, Tryz.ntmps60
      go_wp2_with fail
      refine HP.out.mono ?_
      rintro e W ⟨rfl, hb⟩
      go_wp2
      go_ret
      exact ⟨ret_b HL2.out.symm, hb⟩
    · rw [hp] at HL HP
      have HL2 : Hid (lineB s = (t.toList == s.toList)) := HL.out
      clear hp
      go_enter Tryz.func60, Tryz.ntmps60
      go_wp2_with fail
      refine HP.out.mono ?_
      rintro e W ⟨rfl, hb⟩
      have HB := hidL hb
      clear hb
      go_wp2_with fail
      refine (HT.out _).mono ?_
      rintro e W2 ⟨rfl, hw⟩
      have HB2 : Hid (Below w.heap.size w W2) := by
        show Below _ _ _
        rcases hw with rfl | rfl
        · exact HB.out
        · exact HB.out.drew
      clear hw
      go_wp2
      go_ret
      exact ⟨ret_b HL2.out.symm, HB2.out⟩
  · have h' : decide ((s.size : Int) ≤ 300) = false := by simp; omega
    rw [show decide (s.size ≤ 300) = false by simpa using h] at HL
    have HL2 : Hid (lineB s = false) := HL.out
    go_enter Tryz.func60, Tryz.ntmps60
    go_wp2
    go_ret
    exact ⟨ret_b HL2.out.symm, Below.refl _ _⟩
end Go.Proofs.YtpbolcjcmkmalaaGreatDoor
namespace Go.Proofs.YtpbolcjcmkmalaaGreatDoor
open Go.RowKit Go.Extern.Stop Go.Stop Go.Extern

theorem cpN_raw (x : Nat) : cpN x = (decide ((65 : Int) ≤ x) && decide ((x : Int) ≤ 90)) := by unfold cpN; rw [Bool.eq_iff_iff]; simp; omega
theorem dgN_raw (x : Nat) : dgN x = (decide ((48 : Int) ≤ x) && decide ((x : Int) ≤ 57)) := by unfold dgN; rw [Bool.eq_iff_iff]; simp; omega
theorem smN_raw (x : Nat) : smN x = (decide ((97 : Int) ≤ x) && decide ((x : Int) ≤ 122)) := by unfold smN; rw [Bool.eq_iff_iff]; simp; omega
theorem isCapital_any (x : Nat) (w : World) : Calls Tryz.prog 140 #[.int .i32 x] w fun e w' => e = .returned (.bool (cpN x)) ∧ w' = w := by
  rw [cpN_raw]
  cases h1 : decide ((65 : Int) ≤ x)
  all_goals
    go_enter Tryz.func140, Tryz.ntmps140
    go_wp2
    go_ret
    exact ⟨rfl, rfl⟩
theorem isDigit_any (x : Nat) (w : World) : Calls Tryz.prog 142 #[.int .i32 x] w fun e w' => e = .returned (.bool (dgN x)) ∧ w' = w := by
  rw [dgN_raw]
  cases h1 : decide ((48 : Int) ≤ x)
  all_goals
    go_enter Tryz.func142, Tryz.ntmps142
    go_wp2
    go_ret
    exact ⟨rfl, rfl⟩
theorem isSmall_any (x : Nat) (w : World) : Calls Tryz.prog 143 #[.int .i32 x] w fun e w' => e = .returned (.bool (smN x)) ∧ w' = w := by
  rw [smN_raw]
  cases h1 : decide ((97 : Int) ≤ x)
  all_goals
    go_enter Tryz.func143, Tryz.ntmps143
    go_wp2
    go_ret
    exact ⟨rfl, rfl⟩
theorem en_cap : ∀ args w, (callFunc 140 args).run Tryz.prog w = .ok (.enter 140 args) w := Go.Proofs.enters_of Tryz.func140 (by kernel_rfl) rfl
theorem en_dig : ∀ args w, (callFunc 142 args).run Tryz.prog w = .ok (.enter 142 args) w := Go.Proofs.enters_of Tryz.func142 (by kernel_rfl) rfl
theorem en_sml : ∀ args w, (callFunc 143 args).run Tryz.prog w = .ok (.enter 143 args) w := Go.Proofs.enters_of Tryz.func143 (by kernel_rfl) rfl
theorem cutCaps (s : ByteArray) (hs : s.size ≤ 1000000) (w : World) (hT : Lib.Utf8Tabs 13 14 w) :
    Calls Tryz.prog 139 #[.string s, .func (.func 140) #[] #[]] w fun e w' => e = .returned (.string (Lib.trimRightF cpN s)) ∧ Below w.heap.size w w' :=
  Go.Proofs.Tryz.strings_TrimRightFunc 140 #[] en_cap cpN s w (by omega) hT (fun W x _ => (isCapital_any x W).mono fun _ _ h => ⟨h.1, 0, h.2⟩)
theorem trimDigits (s : ByteArray) (hs : s.size ≤ 1000000) (w : World) (hT : Lib.Utf8Tabs 13 14 w) :
    Calls Tryz.prog 141 #[.string s, .func (.func 142) #[] #[]] w fun e w' => e = .returned (.string (Lib.trimF dgN s)) ∧ Below w.heap.size w w' :=
  Go.Proofs.Tryz.strings_TrimFunc 142 #[] en_dig dgN s w (by omega) hT (fun W x _ => (isDigit_any x W).mono fun _ _ h => ⟨h.1, 0, h.2⟩)
theorem trimSmall (s : ByteArray) (hs : s.size ≤ 1000000) (w : World) (hT : Lib.Utf8Tabs 13 14 w) :
    Calls Tryz.prog 141 #[.string s, .func (.func 143) #[] #[]] w fun e w' => e = .returned (.string (Lib.trimF smN s)) ∧ Below w.heap.size w w' :=
  Go.Proofs.Tryz.strings_TrimFunc 143 #[] en_sml smN s w (by omega) hT (fun W x _ => (isSmall_any x W).mono fun _ _ h => ⟨h.1, 0, h.2⟩)
theorem tabs_below {w w' : World} (h : Lib.Utf8Tabs 13 14 w) (hb : Below w.heap.size w w') : Lib.Utf8Tabs 13 14 w' := by
  have lt : ∀ {a : Addr} {v : Value}, w.cell? a = some v → a.block < w.heap.size := fun {a v} h => by
    rcases Nat.lt_or_ge a.block w.heap.size with k | k
    · exact k
    · simp [World.cell?, Array.getElem?_eq_none k] at h
  exact ⟨fun c hc => (hb.cell (lt (h.1 c hc))).trans (h.1 c hc), fun i hi => ⟨(hb.cell (lt (h.2 i hi).1)).trans (h.2 i hi).1, (hb.cell (lt (h.2 i hi).2)).trans (h.2 i hi).2⟩⟩

/-! What the program tells of a text, plain. -/
theorem allP_ext {p : Nat → Bool} {s : ByteArray} {k : Nat} (hk : k ≤ s.size) : AllP p (s.extract 0 k) 0 (s.extract 0 k).size ↔ AllP p s 0 k := by
  have hsz : (s.extract 0 k).size = k := by simp [ByteArray.size_extract]; omega
  have hg : ∀ (i : Nat) (hi : i < (s.extract 0 k).size) (hi' : i < s.size), (s.extract 0 k)[i] = s[i] := fun i hi hi' => by simp [ByteArray.getElem_extract]
  constructor
  · intro h i hi _ hik
    have := h i (by omega) (Nat.zero_le _) (by omega)
    rw [hg i (by omega) hi] at this
    exact this
  · intro h i hi _ hik
    rw [hg i hi (by omega)]
    exact h i (by omega) (Nat.zero_le _) (by omega)
/-- The stem that is cut off, and what follows of it. -/
theorem stem_cut (s : ByteArray) : ∃ k, k ≤ s.size ∧ Lib.trimRightF cpN s = s.extract 0 k ∧ ((AllP dgN s 0 k ∨ AllP smN s 0 k) → AllP cpN s k s.size) ∧ (∀ k' l, Lab s k' l → k' = k) := by
  rcases right_cases cpN_hi s with ⟨ha, hr⟩ | ⟨e, he, hr, h1, h2, h3⟩ | ⟨j, E, hj, hr, hjE, h128⟩
  · refine ⟨0, Nat.zero_le _, hr, fun _ => ha, fun k' l h => ?_⟩
    have a := h.k1
    have b := h.ks
    have c := h.byte 0 (by omega)
    have d := cpN_iff.1 (ha 0 (by omega) (Nat.zero_le _) (by omega))
    omega
  · refine ⟨e + 1, by omega, hr, fun _ => h3, fun k' l h => ?_⟩
    have b := h.ks
    rcases Nat.lt_trichotomy k' (e + 1) with c | c | c
    · have d := h.byte e he
      have : cpN s[e].toNat = true := cpN_iff.2 (by omega)
      rw [h2] at this
      cases this
    · exact c
    · have d := h.byte (e + 1) (by omega)
      have d' := cpN_iff.1 (h3 (e + 1) (by omega) (Nat.le_refl _) (by omega))
      omega
  · refine ⟨min E s.size, Nat.min_le_right _ _, ?_, fun h => ?_, fun k' l h => ?_⟩
    · rw [hr]
      rcases Nat.le_total E s.size with c | c
      · rw [Nat.min_eq_left c]
      · rw [Nat.min_eq_right c]
        have e : bl (s.extract 0 E) = bl (s.extract 0 s.size) := by
          rw [bl_stem, bl_stem, List.take_of_length_le (by rw [size_bl]; exact c), List.take_of_length_le (by rw [size_bl]; exact Nat.le_refl _)]
        exact ByteArray.ext (Array.toList_inj.1 e)
    · rcases h with h | h
      · have := dgN_iff.1 (h j hj (Nat.zero_le _) (by omega)); omega
      · have := smN_iff.1 (h j hj (Nat.zero_le _) (by omega)); omega
    · have := h.byte j hj
      omega

/-- The answer's cells, and the label that is read (block b). -/
structure LS (w W : World) (b : Nat) (l : Bool) (t c : ByteArray) : Prop where
  r0 : W.cell? ⟨w.heap.size, 0, none⟩ = some (.bool false)
  r1 : W.cell? ⟨w.heap.size, 0 + 1, none⟩ = some (.string ⟨#[]⟩)
  r2 : W.cell? ⟨w.heap.size, 0 + 2, none⟩ = some (.string ⟨#[]⟩)
  g0 : W.frozen? ⟨w.heap.size, 0, none⟩ = false
  g1 : W.frozen? ⟨w.heap.size, 0 + 1, none⟩ = false
  g2 : W.frozen? ⟨w.heap.size, 0 + 2, none⟩ = false
  c0 : W.cell? ⟨b, 0, none⟩ = some (.bool l)
  c1 : W.cell? ⟨b, 0 + 1, none⟩ = some (.string t)
  c2 : W.cell? ⟨b, 0 + 2, none⟩ = some (.string c)
  f0 : W.frozen? ⟨b, 0, none⟩ = false
  bel : Below w.heap.size w W
  lt : w.heap.size < b
  lb : b < W.heap.size
theorem frz_below {B : Nat} {w w' : World} (hb : Below B w w') {a : Addr} (h : a.block < B) : w'.frozen? a = w.frozen? a := by
  unfold World.frozen?
  rw [hb.block a.block h]
theorem LS.start {w W : World} (hb : Below (w.alloc (.cells #[.bool false, .string ⟨#[]⟩, .string ⟨#[]⟩] 178)).heap.size (w.alloc (.cells #[.bool false, .string ⟨#[]⟩, .string ⟨#[]⟩] 178)) W) (t c : ByteArray) :
    LS w (W.alloc (.cells #[.bool false, .string t, .string c] 178)) W.heap.size false t c := by
  have hl : w.heap.size < (w.alloc (.cells #[.bool false, .string ⟨#[]⟩, .string ⟨#[]⟩] 178)).heap.size := by simp
  have hlW : w.heap.size < W.heap.size := Nat.lt_of_lt_of_le hl hb.size
  have hb2 := hb.trans ((belA W (.cells #[.bool false, .string t, .string c] 178)).mono hb.size)
  refine ⟨?_, ?_, ?_, ?_, ?_, ?_, by simp, by simp, by simp, by simp, (belA w _).trans (hb2.mono (belA w _).size), hlW, by simp⟩
  · rw [hb2.cell (p := ⟨w.heap.size, 0, none⟩) hl]; simp
  · rw [hb2.cell (p := ⟨w.heap.size, 0 + 1, none⟩) hl]; simp
  · rw [hb2.cell (p := ⟨w.heap.size, 0 + 2, none⟩) hl]; simp
  · rw [frz_below hb2 (a := ⟨w.heap.size, 0, none⟩) hl]; simp
  · rw [frz_below hb2 (a := ⟨w.heap.size, 0 + 1, none⟩) hl]; simp
  · rw [frz_below hb2 (a := ⟨w.heap.size, 0 + 2, none⟩) hl]; simp
theorem LS.on {w W W' : World} {b : Nat} {l : Bool} {t c : ByteArray} (h : LS w W b l t c) (hb : Below W.heap.size W W') : LS w W' b l t c := by
  have l0 : w.heap.size < W.heap.size := Nat.lt_trans h.lt h.lb
  exact ⟨(hb.cell (p := ⟨w.heap.size, 0, none⟩) l0).trans h.r0, (hb.cell (p := ⟨w.heap.size, 0 + 1, none⟩) l0).trans h.r1, (hb.cell (p := ⟨w.heap.size, 0 + 2, none⟩) l0).trans h.r2, (frz_below hb (a := ⟨w.heap.size, 0, none⟩) l0).trans h.g0, (frz_below hb (a := ⟨w.heap.size, 0 + 1, none⟩) l0).trans h.g1, (frz_below hb (a := ⟨w.heap.size, 0 + 2, none⟩) l0).trans h.g2,
    (hb.cell (p := ⟨b, 0, none⟩) h.lb).trans h.c0, (hb.cell (p := ⟨b, 0 + 1, none⟩) h.lb).trans h.c1, (hb.cell (p := ⟨b, 0 + 2, none⟩) h.lb).trans h.c2, (frz_below hb (a := ⟨b, 0, none⟩) h.lb).trans h.f0, h.bel.trans (hb.mono h.bel.size), h.lt, Nat.lt_of_lt_of_le h.lb hb.size⟩
theorem LS.setL {w W : World} {b : Nat} {l : Bool} {t c : ByteArray} (h : LS w W b l t c) (l' : Bool) : LS w (W.setCell ⟨b, 0, none⟩ (.bool l')) b l' t c := by
  have hne : b ≠ w.heap.size := by have := h.lt; omega
  refine ⟨?_, ?_, ?_, by simpa using h.g0, by simpa using h.g1, by simpa using h.g2, World.cell?_setCell_same _ _ _ h.c0, ?_, ?_, by simpa using h.f0, h.bel.setCell (Nat.le_of_lt h.lt) _, h.lt, by simpa using h.lb⟩
  · rw [World.cell?_setCell_other _ _ _ _ (by intro e; injection e with e1; exact hne e1)]; exact h.r0
  · rw [World.cell?_setCell_other _ _ _ _ (by intro e; injection e with e1; exact hne e1)]; exact h.r1
  · rw [World.cell?_setCell_other _ _ _ _ (by intro e; injection e with e1; exact hne e1)]; exact h.r2
  · rw [World.cell?_setCell_other _ _ _ _ (by intro e; cases e)]; exact h.c1
  · rw [World.cell?_setCell_other _ _ _ _ (by intro e; cases e)]; exact h.c2
theorem qs0 {w : World} {b : Nat} {u : Value} (h : w.cell? ⟨b, 0, none⟩ = some u) (x y z : Value) : (((w.setCell ⟨b, 0, none⟩ x).setCell ⟨b, 1, none⟩ y).setCell ⟨b, 2, none⟩ z).cell? ⟨b, 0, none⟩ = some x := by
  rw [World.cell?_setCell_other _ _ _ _ (by intro e; cases e), World.cell?_setCell_other _ _ _ _ (by intro e; cases e)]
  exact World.cell?_setCell_same _ _ _ h
theorem qs1 {w : World} {b : Nat} {u : Value} (h : w.cell? ⟨b, 0 + 1, none⟩ = some u) (x y z : Value) : (((w.setCell ⟨b, 0, none⟩ x).setCell ⟨b, 1, none⟩ y).setCell ⟨b, 2, none⟩ z).cell? ⟨b, 1, none⟩ = some y := by
  rw [World.cell?_setCell_other _ _ _ _ (by intro e; cases e)]
  exact World.cell?_setCell_same _ _ _ (by rw [World.cell?_setCell_other _ _ _ _ (by intro e; cases e)]; exact h)
theorem qs2 {w : World} {b : Nat} {u : Value} (h : w.cell? ⟨b, 0 + 2, none⟩ = some u) (x y z : Value) : (((w.setCell ⟨b, 0, none⟩ x).setCell ⟨b, 1, none⟩ y).setCell ⟨b, 2, none⟩ z).cell? ⟨b, 2, none⟩ = some z :=
  World.cell?_setCell_same _ _ _ (by rw [World.cell?_setCell_other _ _ _ _ (by intro e; cases e), World.cell?_setCell_other _ _ _ _ (by intro e; cases e)]; exact h)
theorem LS.bel3 {w W : World} {b : Nat} {l : Bool} {t c : ByteArray} (h : LS w W b l t c) (x y z : Value) : Below w.heap.size w (((W.setCell ⟨w.heap.size, 0, none⟩ x).setCell ⟨w.heap.size, 1, none⟩ y).setCell ⟨w.heap.size, 2, none⟩ z) :=
  ((h.bel.setCell (Nat.le_refl _) _).setCell (Nat.le_refl _) _).setCell (Nat.le_refl _) _
end Go.Proofs.YtpbolcjcmkmalaaGreatDoor
namespace Go.Proofs.YtpbolcjcmkmalaaGreatDoor

/-- How many digits a text begins with. -/
def runDg (s : ByteArray) : Nat := ((bl s).takeWhile isDg).length
theorem runDg_le (s : ByteArray) : runDg s ≤ s.size := by
  rw [← size_bl]
  exact (List.takeWhile_sublist _).length_le
theorem tw_at (f : UInt8 → Bool) : ∀ (l : List UInt8) (i : Nat) (c : UInt8), i < (l.takeWhile f).length → l[i]? = some c → f c = true
  | [], i, c, h, _ => by simp at h
  | x :: l, i, c, h, hc => by
    by_cases hx : f x = true
    · rw [List.takeWhile_cons_of_pos hx] at h
      cases i with
      | zero => simp at hc; rw [← hc]; exact hx
      | succ i => exact tw_at f l i c (by simpa using h) (by simpa using hc)
    · rw [List.takeWhile_cons_of_neg hx] at h
      simp at h
theorem tw_end (f : UInt8 → Bool) : ∀ (l : List UInt8) (c : UInt8), l[(l.takeWhile f).length]? = some c → f c = false
  | [], c, h => by simp at h
  | x :: l, c, h => by
    by_cases hx : f x = true
    · rw [List.takeWhile_cons_of_pos hx] at h
      exact tw_end f l c (by simpa using h)
    · rw [List.takeWhile_cons_of_neg hx] at h
      simp at h
      rw [← h]; simpa using hx
theorem runDg_at (s : ByteArray) (i : Nat) (h : i < runDg s) : ∃ hs : i < s.size, isDg s[i] = true := by
  have hl := runDg_le s
  have hs : i < s.size := by omega
  exact ⟨hs, tw_at isDg (bl s) i _ h (bl_get s i hs)⟩
theorem runDg_end (s : ByteArray) (hs : runDg s < s.size) : isDg s[runDg s] = false := tw_end isDg (bl s) _ (bl_get s _ hs)
/-- What the first k digits are worth: to the program, to the reference. -/
def ps (s : ByteArray) : Nat → Int
  | 0 => 0
  | k + 1 => min (ps s k * 10 + dig s k) 100001
def rs (s : ByteArray) : Nat → Int
  | 0 => 0
  | k + 1 => if rs s k < 1099511627776 then rs s k * 10 + dig s k else rs s k
theorem dig_run {s : ByteArray} {k : Nat} (h : k < runDg s) : 0 ≤ dig s k ∧ dig s k ≤ 9 := by
  obtain ⟨hs, hd⟩ := runDg_at s k h
  have := dg_bd hd
  rw [dig_at s k hs]
  omega
theorem ps_bd (s : ByteArray) : ∀ k, k ≤ runDg s → 0 ≤ ps s k ∧ ps s k ≤ 100001
  | 0, _ => by simp [ps]
  | k + 1, h => by
    have := ps_bd s k (by omega)
    have := dig_run (s := s) (k := k) (by omega)
    simp only [ps]; omega
theorem rs_bd (s : ByteArray) : ∀ k, k ≤ runDg s → 0 ≤ rs s k ∧ rs s k ≤ 10995116277769
  | 0, _ => by simp [rs]
  | k + 1, h => by
    have := rs_bd s k (by omega)
    have := dig_run (s := s) (k := k) (by omega)
    simp only [rs]; split <;> omega
theorem ps_rs (s : ByteArray) : ∀ k, k ≤ runDg s → (ps s k ≤ 100000 ∧ rs s k = ps s k) ∨ (100000 < ps s k ∧ 100000 < rs s k)
  | 0, _ => by simp [ps, rs]
  | k + 1, h => by
    have := ps_rs s k (by omega)
    have := ps_bd s k (by omega)
    have := dig_run (s := s) (k := k) (by omega)
    simp only [ps, rs]; split <;> omega
theorem ps_zero {s : ByteArray} (h : 0 < s.size) (h0 : s[0] = 48) : dig s 0 = 0 := by rw [dig_at s 0 h, h0]; rfl

/-! Words. -/
def wdL : Nat → List UInt8
  | 0 => [100, 97, 121, 115]
  | 1 => [119, 111, 114, 107, 105, 110, 103, 32, 100, 97, 121, 115]
  | 2 => [119, 101, 101, 107, 115]
  | 3 => [109, 111, 110, 116, 104, 115]
  | _ => [121, 101, 97, 114, 115]
def rwL : Nat → List UInt8
  | 1 => [110, 101, 120, 116]
  | _ => [98, 101, 102, 111, 114, 101]
theorem pre2 {l : List UInt8} {a b : UInt8} {r : List UInt8} (h : Lib.hasPrefix l (a :: b :: r) = true) : l[0]? = some a ∧ l[1]? = some b := by
  unfold Lib.hasPrefix at h
  match l, h with
  | [], h => simp [List.isPrefixOf] at h
  | [x], h => simp [List.isPrefixOf] at h
  | x :: y :: l, h =>
    simp [List.isPrefixOf] at h
    simp [h.1, h.2.1]
/-- Which unit's word stands ahead; -1: none. -/
def IsUnit (l : List UInt8) (u : Int) : Prop := ∀ i : Nat, i < 5 → Lib.hasPrefix l (wdL i) = decide ((i : Int) = u)
theorem unit_ex (l : List UInt8) : ∃ u : Int, -1 ≤ u ∧ u ≤ 4 ∧ IsUnit l u := by
  have ne : ∀ i j : Nat, i < 5 → j < 5 → Lib.hasPrefix l (wdL i) = true → Lib.hasPrefix l (wdL j) = true → i = j := by
    intro i j hi hj h1 h2
    have e : i = 0 ∨ i = 1 ∨ i = 2 ∨ i = 3 ∨ i = 4 := by omega
    have f : j = 0 ∨ j = 1 ∨ j = 2 ∨ j = 3 ∨ j = 4 := by omega
    rcases e with rfl | rfl | rfl | rfl | rfl <;> rcases f with rfl | rfl | rfl | rfl | rfl <;> first | rfl | (
      have a := pre2 h1
      have b := pre2 h2
      have c := a.1.symm.trans b.1
      have d := a.2.symm.trans b.2
      revert c d
      decide)
  by_cases h : ∃ i : Nat, i < 5 ∧ Lib.hasPrefix l (wdL i) = true
  · obtain ⟨i, hi, h⟩ := h
    refine ⟨i, by omega, by omega, fun j hj => ?_⟩
    cases hb : Lib.hasPrefix l (wdL j)
    · symm
      simp only [decide_eq_false_iff_not]
      intro e
      obtain rfl : j = i := by omega
      rw [h] at hb; cases hb
    · obtain rfl := ne i j hi hj h hb
      simp
  · refine ⟨-1, by omega, by omega, fun j hj => ?_⟩
    have : Lib.hasPrefix l (wdL j) = false := by
      cases hb : Lib.hasPrefix l (wdL j)
      · rfl
      · exact absurd ⟨j, hj, hb⟩ h
    rw [this]
    symm
    simp only [decide_eq_false_iff_not]
    omega
def IsRoll (l : List UInt8) (r : Int) : Prop := Lib.hasPrefix l (rwL 1) = decide (r = 1) ∧ Lib.hasPrefix l (rwL 2) = decide (r = 2)
theorem roll_ex (l : List UInt8) : ∃ r : Int, (r = -1 ∨ r = 1 ∨ r = 2) ∧ IsRoll l r := by
  cases h1 : Lib.hasPrefix l (rwL 1) <;> cases h2 : Lib.hasPrefix l (rwL 2)
  · exact ⟨-1, .inl rfl, h1.trans (by decide), h2.trans (by decide)⟩
  · exact ⟨2, .inr (.inr rfl), h1.trans (by decide), h2.trans (by decide)⟩
  · exact ⟨1, .inr (.inl rfl), h1.trans (by decide), h2.trans (by decide)⟩
  · exfalso
    have a := (pre2 h1).1.symm.trans (pre2 h2).1
    revert a
    decide
end Go.Proofs.YtpbolcjcmkmalaaGreatDoor
namespace Go.Proofs.YtpbolcjcmkmalaaGreatDoor
open Go.RowKit Go.Extern.Stop Go.Stop Go.Extern

theorem rIsDg (c : UInt8) (w : World) : Calls Tryz.prog 84 #[.int .u8 c.toNat] w fun e w' => e = .returned (.bool (dgN c.toNat)) ∧ w' = w := by
  rw [dgN_raw]
  cases h1 : decide ((48 : Int) ≤ c.toNat)
  all_goals
    go_enter Tryz.func84, Tryz.ntmps84
    go_wp2
    go_ret
    exact ⟨rfl, rfl⟩
theorem rIsSm (c : UInt8) (w : World) : Calls Tryz.prog 85 #[.int .u8 c.toNat] w fun e w' => e = .returned (.bool (smN c.toNat)) ∧ w' = w := by
  rw [smN_raw]
  cases h1 : decide ((97 : Int) ≤ c.toNat)
  all_goals
    go_enter Tryz.func85, Tryz.ntmps85
    go_wp2
    go_ret
    exact ⟨rfl, rfl⟩
theorem rIsCp (c : UInt8) (w : World) : Calls Tryz.prog 86 #[.int .u8 c.toNat] w fun e w' => e = .returned (.bool (cpN c.toNat)) ∧ w' = w := by
  rw [cpN_raw]
  cases h1 : decide ((65 : Int) ≤ c.toNat)
  all_goals
    go_enter Tryz.func86, Tryz.ntmps86
    go_wp2
    go_ret
    exact ⟨rfl, rfl⟩

/-! How many bytes a text begins with, of which it holds. -/
def runP (p : Nat → Bool) (s : ByteArray) : Nat := ((bl s).takeWhile (fun c => p c.toNat)).length
theorem runP_le (p : Nat → Bool) (s : ByteArray) : runP p s ≤ s.size := by
  rw [← size_bl]
  exact (List.takeWhile_sublist _).length_le
theorem runP_at (p : Nat → Bool) (s : ByteArray) (i : Nat) (h : i < runP p s) : ∃ hs : i < s.size, p s[i].toNat = true := by
  have hl := runP_le p s
  have hs : i < s.size := by omega
  exact ⟨hs, tw_at (fun c => p c.toNat) (bl s) i _ h (bl_get s i hs)⟩
theorem runP_end (p : Nat → Bool) (s : ByteArray) (hs : runP p s < s.size) : p s[runP p s].toNat = false := tw_end (fun c => p c.toNat) (bl s) _ (bl_get s _ hs)
theorem runP_eq {p : Nat → Bool} {s : ByteArray} {k : Nat} (hk : k ≤ s.size) (h1 : AllP p s 0 k) (h2 : ∀ h : k < s.size, p s[k].toNat = false) : runP p s = k := by
  have hl := runP_le p s
  rcases Nat.lt_trichotomy (runP p s) k with c | c | c
  · have := runP_end p s (by omega)
    rw [h1 _ (by omega) (Nat.zero_le _) c] at this
    cases this
  · exact c
  · obtain ⟨hs, h⟩ := runP_at p s k c
    rw [h2 hs] at h
    cases h
theorem lab_dig {s : ByteArray} {k : Nat} (h : Lab s k false) : runP dgN s = k := by
  refine runP_eq h.ks ?_ (fun hk => ?_)
  · rcases h.stem with ⟨_, a, _⟩ | ⟨e, _⟩
    · exact a
    · cases e
  · cases hc : dgN s[k].toNat
    · rfl
    · have := dgN_iff.1 hc
      have := cpN_iff.1 (h.cap k hk (Nat.le_refl _) hk)
      omega
theorem lab_sm {s : ByteArray} {k : Nat} (h : Lab s k true) : runP dgN s = 0 ∧ runP smN s = k := by
  have ha : AllP smN s 0 k := by
    rcases h.stem with ⟨e, _⟩ | ⟨_, a⟩
    · cases e
    · exact a
  constructor
  · refine runP_eq (Nat.zero_le _) (fun i hi a b => by omega) (fun hk => ?_)
    cases hc : dgN s[0].toNat
    · rfl
    · have := dgN_iff.1 hc
      have := smN_iff.1 (ha 0 hk (Nat.zero_le _) h.k1)
      omega
  · refine runP_eq h.ks ha (fun hk => ?_)
    cases hc : smN s[k].toNat
    · rfl
    · have := smN_iff.1 hc
      have := cpN_iff.1 (h.cap k hk (Nat.le_refl _) hk)
      omega
theorem vd_snoc : ∀ (l : List UInt8) (c : UInt8), vd (l ++ [c]) = vd l * 10 + (c.toNat - 48)
  | [], c => by simp [vd]
  | d :: t, c => by
    show (d.toNat - 48) * 10 ^ (t ++ [c]).length + vd (t ++ [c]) = ((d.toNat - 48) * 10 ^ t.length + vd t) * 10 + (c.toNat - 48)
    rw [vd_snoc t c, List.length_append, show [c].length = 1 from rfl, Nat.pow_succ, Nat.add_mul, ← Nat.mul_assoc]
    omega
theorem vd_take (s : ByteArray) (i : Nat) (h : i < s.size) : vd ((bl s).take (i + 1)) = vd ((bl s).take i) * 10 + (s[i].toNat - 48) := by
  have e : (bl s).take (i + 1) = (bl s).take i ++ [s[i]] := by
    rw [List.take_add_one, bl_get s i h]
    rfl
  rw [e, vd_snoc]
end Go.Proofs.YtpbolcjcmkmalaaGreatDoor
namespace Go.Proofs.YtpbolcjcmkmalaaGreatDoor
open Go.RowKit Go.Extern.Stop Go.Stop Go.Extern

/-- A provision: its label, its heading, its lines, its kids. -/
inductive It where
  | mk (label head : ByteArray) (lines : List ByteArray) (kids : List It)
def It.label : It → ByteArray | .mk a _ _ _ => a
def It.head : It → ByteArray | .mk _ b _ _ => b
def It.lines : It → List ByteArray | .mk _ _ c _ => c
def It.kids : It → List It | .mk _ _ _ d => d
theorem It.eta : ∀ t : It, t = .mk t.label t.head t.lines t.kids | .mk _ _ _ _ => rfl
def It.addKid (t k : It) : It := .mk t.label t.head t.lines (t.kids ++ [k])
def It.addLine (t : It) (s : ByteArray) : It := .mk t.label t.head (t.lines ++ [s]) t.kids
def It.none : It := .mk ⟨#[]⟩ ⟨#[]⟩ [] []
/-- The open items put into one another: the law. -/
def closeAll : List It → It
  | [] => It.none
  | [a] => a
  | a :: b :: r => a.addKid (closeAll (b :: r))
theorem closeAll_two (a b : It) (r : List It) : closeAll (a :: b :: r) = a.addKid (closeAll (b :: r)) := by rw [closeAll]
theorem closeAll_one (a : It) : closeAll [a] = a := by rw [closeAll]
theorem closeAll_drop (z : List It) (k : Nat) (a : It) (h : z[k]? = some a) (h2 : k + 1 < z.length) : closeAll (z.drop k) = a.addKid (closeAll (z.drop (k + 1))) := by
  obtain ⟨hk, e⟩ := List.getElem?_eq_some_iff.1 h
  rw [List.drop_eq_getElem_cons hk, e]
  rw [List.drop_eq_getElem_cons h2, closeAll_two]
theorem closeAll_last (z : List It) (k : Nat) (a : It) (h : z[k]? = some a) (h2 : z.length = k + 1) : closeAll (z.drop k) = a := by
  obtain ⟨hk, e⟩ := List.getElem?_eq_some_iff.1 h
  rw [List.drop_eq_getElem_cons hk, e, List.drop_eq_nil_of_le (by omega), closeAll_one]
/-- What is open if the items behind the k-th are put into it. -/
def shutB (k : Nat) (z : List It) : List It := z.take k ++ [closeAll (z.drop k)]
theorem shutB_len {k : Nat} {z : List It} (h : k < z.length) : (shutB k z).length = k + 1 := by unfold shutB; simp; omega
theorem shutB_last {z : List It} {k : Nat} (h : z.length = k + 1) : shutB k z = z := by
  unfold shutB
  obtain ⟨a, ha⟩ : ∃ a, z[k]? = some a := ⟨_, List.getElem?_eq_getElem (by omega)⟩
  rw [closeAll_last z k a ha h]
  obtain ⟨hk, e⟩ := List.getElem?_eq_some_iff.1 ha
  conv => rhs; rw [← List.take_append_drop k z]
  rw [List.drop_eq_getElem_cons hk, e, List.drop_eq_nil_of_le (by omega)]
theorem shutB_at {k : Nat} {z : List It} (h : k < z.length) : (shutB k z)[k]? = some (closeAll (z.drop k)) := by
  unfold shutB
  rw [List.getElem?_append_right (by simp; omega)]
  simp
  rw [show k - min k z.length = 0 by omega]
  rfl
theorem shutB_lt {k j : Nat} {z : List It} (h : j < k) (hk : k < z.length) : (shutB k z)[j]? = z[j]? := by
  unfold shutB
  rw [List.getElem?_append_left (by simp; omega), List.getElem?_take, if_pos h]

end Go.Proofs.YtpbolcjcmkmalaaGreatDoor
namespace Go.Proofs.YtpbolcjcmkmalaaGreatDoor
open Go.RowKit Go.Extern.Stop Go.Stop Go.Extern

/-- The text behind what a line begins with: an error's number, the text. -/
noncomputable def rt (r : ByteArray) : Nat × ByteArray :=
  if h : r.size = 0 then (0, ⟨#[]⟩)
  else if r[0].toNat = 32 then
    (if 300 < (r.extract 1 r.size).size then (2, ⟨#[]⟩) else if (r.extract 1 r.size).size = 0 ∨ lineB (r.extract 1 r.size) = false then (1, ⟨#[]⟩) else (0, r.extract 1 r.size))
  else if 300 < r.size then (2, ⟨#[]⟩) else (1, ⟨#[]⟩)
def blN (x : Nat) : Bool := x == 32
def nbN (x : Nat) : Bool := x != 32
def startsAt (s : ByteArray) (c : Nat) : Bool := if h : 0 < s.size then s[0].toNat == c else false
/-- A step of the reader: the error's number, or the open items and the count. -/
inductive Step where
  | bad (c : Nat)
  | good (z : List It) (n : Nat)
noncomputable def lawS (row : ByteArray) : Step :=
  if Lib.hasPrefix (bl row) [108, 97, 119] = true ∧ ((row.extract 3 row.size).size = 0 ∨ startsAt (row.extract 3 row.size) 32 = true) then
    (if (rt (row.extract 3 row.size)).1 = 0 then .good [It.mk ⟨#[]⟩ (rt (row.extract 3 row.size)).2 [] []] 0 else .bad (rt (row.extract 3 row.size)).1)
  else .bad 1
noncomputable def lineS (z : List It) (n : Nat) (d : Nat) (rest : ByteArray) : Step :=
  if d + 1 ≠ z.length then .bad 1
  else if (closeAll (z.drop d)).lines.length = 40 then .bad 2
  else if (rt rest).1 = 0 then .good (z.set d ((closeAll (z.drop d)).addLine (rt rest).2)) n
  else .bad (rt rest).1
noncomputable def isLab (s : ByteArray) : Bool := open Classical in decide (∃ k l, Lab s k l)
noncomputable def hasKid (t : It) (s : ByteArray) : Bool := t.kids.any fun k => k.label.toList == s.toList
noncomputable def provS (z : List It) (n : Nat) (d : Nat) (body : ByteArray) : Step :=
  if isLab (body.extract 0 (runP nbN body)) = false ∨ hasKid (closeAll (z.drop d)) (body.extract 0 (runP nbN body)) = true then .bad 7
  else if 6 ≤ d ∨ 300 ≤ n then .bad 2
  else if (rt (body.extract (runP nbN body) body.size)).1 = 0 then .good (shutB d z ++ [It.mk (body.extract 0 (runP nbN body)) (rt (body.extract (runP nbN body) body.size)).2 [] []]) (n + 1)
  else .bad (rt (body.extract (runP nbN body) body.size)).1
def lawAt (n : Nat) : Step → Step
  | .good z' _ => .good z' n
  | .bad c => .bad c
noncomputable def takeS (z : List It) (n : Nat) (row : ByteArray) : Step :=
  if plainB row = false then .bad 1
  else if z.length = 0 then lawAt n (lawS row)
  else if runP blN row % 2 ≠ 0 ∨ z.length ≤ runP blN row / 2 then .bad 1
  else if startsAt (row.extract (runP blN row) row.size) 124 = true then lineS z n (runP blN row / 2) ((row.extract (runP blN row) row.size).extract 1 (row.extract (runP blN row) row.size).size)
  else provS z n (runP blN row / 2) (row.extract (runP blN row) row.size)
end Go.Proofs.YtpbolcjcmkmalaaGreatDoor
namespace Go.Proofs.YtpbolcjcmkmalaaGreatDoor
open Go.RowKit Go.Extern.Stop Go.Stop Go.Extern

/-- A text cut at each byte 10. -/
def spl : List UInt8 → List (List UInt8)
  | [] => [[]]
  | c :: r => if c = 10 then [] :: spl r else match spl r with | [] => [[c]] | h :: t => (c :: h) :: t
theorem spl_ne : ∀ l, spl l ≠ []
  | [] => by simp [spl]
  | c :: r => by
    rw [spl]
    split
    · simp
    · split <;> simp
theorem spl_10 (r : List UInt8) : spl (10 :: r) = [] :: spl r := by rw [spl, if_pos rfl]
theorem spl_c {c : UInt8} {r : List UInt8} (h : c ≠ 10) {g : List UInt8} {t : List (List UInt8)} (e : spl r = g :: t) : spl (c :: r) = (c :: g) :: t := by rw [spl, if_neg h, e]
theorem spl_snoc10 : ∀ l : List UInt8, spl (l ++ [10]) = spl l ++ [[]]
  | [] => rfl
  | c :: r => by
    have ih := spl_snoc10 r
    by_cases hc : c = 10
    · subst hc
      rw [List.cons_append, spl_10, ih, spl_10]; rfl
    · obtain ⟨g, t, e⟩ : ∃ g t, spl r = g :: t := by
        cases h : spl r with
        | nil => exact absurd h (spl_ne r)
        | cons g t => exact ⟨g, t, rfl⟩
      rw [List.cons_append, spl_c hc (g := g) (t := t ++ [[]]) (by rw [ih, e]; rfl), spl_c hc e]; rfl
theorem spl_snoc {d : UInt8} (hd : d ≠ 10) : ∀ (l : List UInt8) (o : List (List UInt8)) (x : List UInt8), spl l = o ++ [x] → spl (l ++ [d]) = o ++ [x ++ [d]]
  | [], o, x, h => by
    have h : [[]] = o ++ [x] := h
    cases o with
    | nil => simp at h; subst h; rw [List.nil_append, spl, if_neg hd]; rfl
    | cons a o => simp at h
  | c :: r, o, x, h => by
    by_cases hc : c = 10
    · subst hc
      rw [spl_10] at h
      cases o with
      | nil => exact absurd (by simpa using (List.cons.inj h).2) (spl_ne r)
      | cons a o =>
        rw [List.cons_append] at h
        obtain ⟨h1, h2⟩ := List.cons.inj h
        rw [List.cons_append, spl_10, spl_snoc hd r o x h2, ← h1]; rfl
    · obtain ⟨g, t, e⟩ : ∃ g t, spl r = g :: t := by
        cases h : spl r with
        | nil => exact absurd h (spl_ne r)
        | cons g t => exact ⟨g, t, rfl⟩
      rw [spl_c hc e] at h
      cases o with
      | nil =>
        obtain ⟨h1, h2⟩ := List.cons.inj h
        subst h2
        have := spl_snoc hd r [] g e
        rw [List.cons_append, spl_c hc (g := g ++ [d]) (t := []) this, ← h1]; rfl
      | cons a o =>
        rw [List.cons_append] at h
        obtain ⟨h1, h2⟩ := List.cons.inj h
        have := spl_snoc hd r (g :: o) x (by rw [e, h2]; rfl)
        rw [List.cons_append, spl_c hc (g := g) (t := o ++ [x ++ [d]]) this, ← h1]; rfl
theorem spl_last : ∀ (l : List UInt8) (o : List (List UInt8)) (x : List UInt8), spl l = o ++ [x] → (x = [] ↔ l = [] ∨ ∃ m, l = m ++ [10])
  | l, o, x, h => by
    rcases List.eq_nil_or_concat l with rfl | ⟨m, d, rfl⟩
    · have h : [[]] = o ++ [x] := h
      cases o with
      | nil => simp at h; subst h; simp
      | cons a o => simp at h
    · rw [List.concat_eq_append] at h ⊢
      by_cases hd : d = 10
      · subst hd
        rw [spl_snoc10] at h
        have := (List.append_inj' h rfl).2
        simp at this
        subst this
        simp
      · obtain ⟨o', x', e⟩ : ∃ o' x', spl m = o' ++ [x'] := by
          rcases List.eq_nil_or_concat (spl m) with h0 | ⟨a, b, hab⟩
          · exact absurd h0 (spl_ne m)
          · exact ⟨a, b, by rw [hab, List.concat_eq_append]⟩
        rw [spl_snoc hd m o' x' e] at h
        have := (List.append_inj' h rfl).2
        simp at this
        subst this
        constructor
        · intro h; simp at h
        · rintro (h | ⟨q, h⟩)
          · simp at h
          · have := (List.append_inj' h rfl).2
            simp at this
            exact absurd this hd
/-- The lines of a text. -/
def rowsL (l : List UInt8) : List (List UInt8) := if (spl l).getLast? = some [] then (spl l).dropLast else spl l
theorem rowsL_split (l : List UInt8) (h : l ≠ []) : rowsL l = spl (Lib.trimSuffix l [10]) := by
  obtain ⟨o, x, e⟩ : ∃ o x, spl l = o ++ [x] := by
    rcases List.eq_nil_or_concat (spl l) with h0 | ⟨a, b, hab⟩
    · exact absurd h0 (spl_ne l)
    · exact ⟨a, b, by rw [hab, List.concat_eq_append]⟩
  have hx := spl_last l o x e
  unfold rowsL Lib.trimSuffix
  rw [e, List.getLast?_concat]
  by_cases hm : ∃ m, l = m ++ [10]
  · obtain ⟨m, rfl⟩ := hm
    have hx' : x = [] := hx.2 (.inr ⟨m, rfl⟩)
    subst hx'
    rw [if_pos rfl, List.dropLast_concat]
    have hs : Lib.hasSuffix (m ++ [10]) [10] = true := by unfold Lib.hasSuffix; rw [List.isSuffixOf_iff_suffix]; exact ⟨m, rfl⟩
    rw [if_pos hs]
    rw [spl_snoc10] at e
    have e1 := (List.append_inj' e rfl).1
    simp only [List.length_append, List.length_cons, List.length_nil]
    rw [show m.length + (0 + 1) - (0 + 1) = m.length by omega, List.take_left, e1]
  · have hx' : x ≠ [] := fun h0 => by rcases hx.1 h0 with h1 | h1; exact h h1; exact hm h1
    rw [if_neg (by simpa using hx')]
    have hs : ¬ Lib.hasSuffix l [10] = true := by
      unfold Lib.hasSuffix
      rw [List.isSuffixOf_iff_suffix]
      rintro ⟨m, hm2⟩
      exact hm ⟨m, hm2.symm⟩
    rw [if_neg hs]
    exact e.symm
theorem ib10_ne (c : UInt8) (r : List UInt8) (h : c ≠ 10) : Lib.indexByte (c :: r) 10 = if Lib.indexByte r 10 = -1 then -1 else Lib.indexByte r 10 + 1 := by
  rw [Lib.indexByte, if_neg (by simpa using h)]
  simp only [beq_iff_eq]
theorem spl_none : ∀ l : List UInt8, Lib.indexByte l 10 = -1 → spl l = [l]
  | [], _ => rfl
  | c :: r, h => by
    by_cases hc : c = 10
    · subst hc
      rw [Lib.indexByte, if_pos (by simp)] at h
      cases h
    · rw [ib10_ne c r hc] at h
      have h2 : Lib.indexByte r 10 = -1 := by
        by_cases h3 : Lib.indexByte r 10 = -1
        · exact h3
        · rw [if_neg h3] at h
          have := Lib.indexByte_ge r 10
          omega
      exact spl_c hc (spl_none r h2)
theorem spl_hit : ∀ (l : List UInt8) (i : Nat), Lib.indexByte l 10 = i → spl l = l.take i :: spl (l.drop (i + 1))
  | [], i, h => by
    rw [Lib.indexByte] at h
    omega
  | c :: r, i, h => by
    by_cases hc : c = 10
    · subst hc
      rw [Lib.indexByte, if_pos (by simp)] at h
      obtain rfl : i = 0 := by omega
      rw [spl_10]; simp
    · rw [ib10_ne c r hc] at h
      have := Lib.indexByte_ge r 10
      have h3 : ¬ Lib.indexByte r 10 = -1 := fun h3 => by rw [if_pos h3] at h; omega
      rw [if_neg h3] at h
      obtain ⟨j, rfl⟩ : ∃ j, i = j + 1 := ⟨i - 1, by omega⟩
      have h2 : Lib.indexByte r 10 = j := by omega
      rw [spl_c hc (spl_hit r j h2)]
      simp
theorem spl_splitK : ∀ (n : Nat) (l : List UInt8), l.length ≤ n → Lib.splitK [10] 0 (Lib.count l [10]) l = spl l
  | n, l, hn => by
    by_cases h : Lib.index l [10] = -1
    · rw [Lib.count_miss h]
      show [l] = _
      rw [Lib.index_one] at h
      exact (spl_none l h).symm
    · have hge := Lib.index_ge l [10]
      obtain ⟨i, hi⟩ : ∃ i : Nat, Lib.index l [10] = i := ⟨(Lib.index l [10]).toNat, by omega⟩
      have hlt := Lib.drop_shorter (s := l) (sub := [10]) (by simp) (by simpa using h)
      rw [hi] at hlt
      rw [Lib.count_hit (by simp) hi, Nat.add_comm 1, Lib.splitK, if_neg (by simpa using h), hi]
      have hi' := hi
      rw [Lib.index_one] at hi'
      rw [spl_hit l i hi']
      simp only [Int.toNat_natCast, List.length_cons, List.length_nil, Nat.zero_add] at hlt ⊢
      cases n with
      | zero => omega
      | succ n =>
        rw [spl_splitK n (l.drop (i + 1)) (by omega)]
        congr 1
def ofL (l : List UInt8) : ByteArray := ⟨l.toArray⟩
theorem bl_ofL (l : List UInt8) : bl (ofL l) = l := by unfold ofL; simp [bl]
theorem ofL_bl (s : ByteArray) : ofL (bl s) = s := by unfold ofL; simp [bl]
/-- The lines of a text, as texts. -/
def rowsB (s : ByteArray) : List ByteArray := (rowsL (bl s)).map ofL
theorem spl_len : ∀ l : List UInt8, (spl l).length ≤ l.length + 1
  | [] => by simp [spl]
  | c :: r => by
    have ih := spl_len r
    by_cases hc : c = 10
    · subst hc; rw [spl_10]; simp; omega
    · obtain ⟨g, t, e⟩ : ∃ g t, spl r = g :: t := by
        cases h : spl r with
        | nil => exact absurd h (spl_ne r)
        | cons g t => exact ⟨g, t, rfl⟩
      rw [spl_c hc e]; rw [e] at ih; simp at ih ⊢; omega
theorem spl_size : ∀ (l x : List UInt8), x ∈ spl l → x.length ≤ l.length
  | [], x, h => by simp [spl] at h; subst h; simp
  | c :: r, x, h => by
    by_cases hc : c = 10
    · subst hc; rw [spl_10] at h
      rcases List.mem_cons.1 h with h | h
      · subst h; simp
      · have := spl_size r x h; simp; omega
    · obtain ⟨g, t, e⟩ : ∃ g t, spl r = g :: t := by
        cases h : spl r with
        | nil => exact absurd h (spl_ne r)
        | cons g t => exact ⟨g, t, rfl⟩
      rw [spl_c hc e] at h
      rcases List.mem_cons.1 h with h | h
      · have := spl_size r g (by rw [e]; simp); subst h; simp; omega
      · have := spl_size r x (by rw [e]; simp [h]); simp; omega
theorem rowsB_len (s : ByteArray) : (rowsB s).length ≤ s.size + 1 := by
  unfold rowsB rowsL
  rw [List.length_map]
  have := spl_len (bl s)
  have e : (bl s).length = s.size := size_bl s
  split
  · rw [List.length_dropLast]; omega
  · omega
theorem rowsB_size (s x : ByteArray) (h : x ∈ rowsB s) : x.size ≤ s.size := by
  unfold rowsB rowsL at h
  obtain ⟨y, hy, rfl⟩ := List.mem_map.1 h
  have hy' : y ∈ spl (bl s) := by
    split at hy
    · exact List.dropLast_subset _ hy
    · exact hy
  have := spl_size _ _ hy'
  have e : (bl s).length = s.size := size_bl s
  have e2 : (ofL y).size = y.length := by unfold ofL; simp [ByteArray.size]
  omega
theorem rowsB_nil {s : ByteArray} (h : s.size = 0) : rowsB s = [] := by
  have : bl s = [] := List.eq_nil_of_length_eq_zero (by rw [size_bl]; exact h)
  unfold rowsB
  rw [this]; rfl

/-- A line that says nothing. -/
def blankB (s : ByteArray) : Bool := decide (runP blN s = s.size)
/-- What a text says: the law; or an error's number and the line. -/
inductive Out where
  | bad (c at_ : Nat)
  | good (t : It)
noncomputable def goR (z : List It) (n i : Nat) : List ByteArray → Out
  | [] => if z.length = 0 then .bad 1 i else .good (closeAll z)
  | row :: r => if blankB row then goR z n (i + 1) r else match takeS z n row with
    | .bad c => .bad c i
    | .good z' n' => goR z' n' (i + 1) r
noncomputable def readB (s : ByteArray) : Out := if 30000 < s.size then .bad 2 0 else goR [] 0 0 (rowsB s)
theorem goR_nil {z : List It} {n i : Nat} {rows : List ByteArray} (h : rows.length ≤ i) : goR z n i (rows.drop i) = if z.length = 0 then .bad 1 i else .good (closeAll z) := by
  rw [List.drop_eq_nil_of_le h, goR]
theorem goR_blank {z : List It} {n i : Nat} {rows : List ByteArray} {row : ByteArray} (h : rows[i]? = some row) (hb : blankB row = true) : goR z n i (rows.drop i) = goR z n (i + 1) (rows.drop (i + 1)) := by
  obtain ⟨hi, e⟩ := List.getElem?_eq_some_iff.1 h
  rw [List.drop_eq_getElem_cons hi, e, goR, if_pos hb]
theorem goR_bad {z : List It} {n i : Nat} {rows : List ByteArray} {row : ByteArray} (h : rows[i]? = some row) (hb : blankB row = false) {c : Nat} (hc : takeS z n row = .bad c) : goR z n i (rows.drop i) = .bad c i := by
  obtain ⟨hi, e⟩ := List.getElem?_eq_some_iff.1 h
  rw [List.drop_eq_getElem_cons hi, e, goR, if_neg (by rw [hb]; decide), hc]
theorem goR_good {z : List It} {n i : Nat} {rows : List ByteArray} {row : ByteArray} (h : rows[i]? = some row) (hb : blankB row = false) {z' : List It} {n' : Nat} (hc : takeS z n row = .good z' n') : goR z n i (rows.drop i) = goR z' n' (i + 1) (rows.drop (i + 1)) := by
  obtain ⟨hi, e⟩ := List.getElem?_eq_some_iff.1 h
  rw [List.drop_eq_getElem_cons hi, e, goR, if_neg (by rw [hb]; decide), hc]
end Go.Proofs.YtpbolcjcmkmalaaGreatDoor
namespace Go.Proofs.YtpbolcjcmkmalaaGreatDoor
open Go.RowKit Go.Extern.Stop Go.Stop Go.Extern

theorem bl_inj {a b : ByteArray} (h : bl a = bl b) : a = b := by rw [← ofL_bl a, ← ofL_bl b, h]
theorem dw_drop (p : UInt8 → Bool) : ∀ l : List UInt8, l.dropWhile p = l.drop (l.takeWhile p).length
  | [] => rfl
  | c :: r => by
    cases hc : p c
    · rw [List.dropWhile_cons_of_neg (by simp [hc]), List.takeWhile_cons_of_neg (by simp [hc])]; rfl
    · rw [List.dropWhile_cons_of_pos hc, List.takeWhile_cons_of_pos hc, dw_drop p r]; rfl
theorem is32 (c : UInt8) : (c == 32) = blN c.toNat := by
  unfold blN
  rw [Bool.eq_iff_iff, beq_iff_eq, beq_iff_eq]
  constructor
  · rintro rfl; rfl
  · intro h; exact UInt8.toNat_inj.1 h
theorem trimLeft_ext (s : ByteArray) : (⟨(Lib.trimLeftB s.data.toList 32).toArray⟩ : ByteArray) = s.extract (runP blN s) s.size := by
  apply bl_inj
  rw [bl_caps]
  have e : (fun c : UInt8 => c == 32) = fun c => blN c.toNat := funext is32
  show (bl s).dropWhile (· == 32) = _
  rw [e, dw_drop]
  rfl
theorem dw_nil (p : UInt8 → Bool) : ∀ l : List UInt8, l.dropWhile p = [] ↔ ∀ c ∈ l, p c = true
  | [] => by simp
  | c :: r => by
    cases hc : p c
    · rw [List.dropWhile_cons_of_neg (by simp [hc])]; simp [hc]
    · rw [List.dropWhile_cons_of_pos hc, dw_nil p r]; simp [hc]
theorem tw_all (p : UInt8 → Bool) : ∀ l : List UInt8, (l.takeWhile p).length = l.length ↔ ∀ c ∈ l, p c = true
  | [] => by simp
  | c :: r => by
    cases hc : p c
    · rw [List.takeWhile_cons_of_neg (by simp [hc])]; simp [hc]
    · rw [List.takeWhile_cons_of_pos hc]
      have := tw_all p r
      simp [hc, this]
theorem trim_nil (l : List UInt8) : Lib.trimB l 32 = [] ↔ ∀ c ∈ l, (c == 32) = true := by
  unfold Lib.trimB Lib.trimLeftB Lib.trimRightB
  rw [dw_nil]
  constructor
  · intro h
    have h2 : ∀ c ∈ l.reverse.dropWhile (· == 32), (c == 32) = true := fun c hc => h c (by simpa using hc)
    have h3 : l.reverse.dropWhile (· == 32) = [] := by
      cases e : l.reverse.dropWhile (· == 32) with
      | nil => rfl
      | cons a t =>
        have h4 := h2 a (by rw [e]; simp)
        have h5 : (l.reverse.dropWhile (· == 32)).head? = some a := by rw [e]; rfl
        have := List.head?_dropWhile_not (p := (· == 32)) (l := l.reverse)
        rw [h5] at this
        simp [h4] at this
    intro c hc
    exact (dw_nil _ _).1 h3 c (by simpa using hc)
  · intro h c hc
    have : c ∈ l.reverse.dropWhile (· == 32) := by simpa using hc
    exact h c (by simpa using (List.dropWhile_sublist _).subset this)
theorem trim_blank (s : ByteArray) : (⟨(Lib.trimB s.data.toList 32).toArray⟩ : ByteArray).toList.isEmpty = blankB s := by
  rw [Lib.toList_data, Bool.eq_iff_iff]
  unfold blankB
  rw [List.isEmpty_iff, decide_eq_true_eq]
  show Lib.trimB (bl s) 32 = [] ↔ _
  rw [trim_nil]
  have e := tw_all (fun c => blN c.toNat) (bl s)
  rw [size_bl] at e
  show _ ↔ ((bl s).takeWhile _).length = _
  rw [e]
  simp only [is32]
theorem starts_pre (s : ByteArray) (c : UInt8) : Lib.hasPrefix s.data.toList [c] = startsAt s c.toNat := by
  unfold Lib.hasPrefix startsAt
  have hb : s.data.toList = bl s := rfl
  rw [hb]
  cases e : bl s with
  | nil =>
    have : s.size = 0 := by rw [← size_bl, e]; rfl
    rw [dif_neg (by omega)]
    rfl
  | cons a t =>
    have h0 : 0 < s.size := by rw [← size_bl, e]; simp
    rw [dif_pos h0]
    have h1 := bl_get s 0 h0
    rw [e] at h1
    have h2 : a = s[0] := by simpa using h1
    rw [← h2]
    show (c == a && [].isPrefixOf t) = _
    simp only [List.isPrefixOf, Bool.and_true]
    rw [Bool.eq_iff_iff, beq_iff_eq, beq_iff_eq]
    exact ⟨fun h => by rw [h], fun h => (UInt8.toNat_inj.1 h).symm⟩
theorem cutP_yes (s : ByteArray) (p : List UInt8) (h : Lib.hasPrefix s.data.toList p = true) : (⟨(Lib.trimPrefix s.data.toList p).toArray⟩ : ByteArray) = s.extract p.length s.size := by
  apply bl_inj
  rw [bl_caps]
  show Lib.trimPrefix s.data.toList p = _
  unfold Lib.trimPrefix
  rw [if_pos h]
theorem cutP_no (s : ByteArray) (p : List UInt8) (h : Lib.hasPrefix s.data.toList p = false) : (⟨(Lib.trimPrefix s.data.toList p).toArray⟩ : ByteArray) = s := by
  apply bl_inj
  show Lib.trimPrefix s.data.toList p = _
  unfold Lib.trimPrefix
  rw [if_neg (by rw [h]; decide)]
theorem tw_ib : ∀ (l : List UInt8), (Lib.indexByte l 32 = -1 → (l.takeWhile fun c => nbN c.toNat) = l) ∧ (∀ i : Nat, Lib.indexByte l 32 = i → (l.takeWhile fun c => nbN c.toNat) = l.take i)
  | [] => ⟨fun _ => rfl, fun i h => by rw [Lib.indexByte] at h; omega⟩
  | c :: r => by
    by_cases hc : c = 32
    · subst hc
      refine ⟨fun h => ?_, fun i h => ?_⟩
      · rw [Lib.indexByte, if_pos (by simp)] at h; cases h
      · rw [Lib.indexByte, if_pos (by simp)] at h
        obtain rfl : i = 0 := by omega
        rw [List.takeWhile_cons_of_neg (by decide)]; rfl
    · have hn : nbN c.toNat = true := by
        unfold nbN
        rw [bne_iff_ne]
        intro e; exact hc (UInt8.toNat_inj.1 e)
      have ih := tw_ib r
      have e : Lib.indexByte (c :: r) 32 = if Lib.indexByte r 32 = -1 then -1 else Lib.indexByte r 32 + 1 := by
        rw [Lib.indexByte, if_neg (by simpa using hc)]
        simp only [beq_iff_eq]
      have hge := Lib.indexByte_ge r 32
      rw [e, List.takeWhile_cons_of_pos (p := fun c : UInt8 => nbN c.toNat) hn]
      refine ⟨fun h => ?_, fun i h => ?_⟩
      · have h2 : Lib.indexByte r 32 = -1 := by
          by_cases h3 : Lib.indexByte r 32 = -1
          · exact h3
          · rw [if_neg h3] at h; omega
        rw [ih.1 h2]
      · have h3 : ¬ Lib.indexByte r 32 = -1 := fun h3 => by rw [if_pos h3] at h; omega
        rw [if_neg h3] at h
        obtain ⟨j, rfl⟩ : ∃ j, i = j + 1 := ⟨i - 1, by omega⟩
        rw [ih.2 j (by omega)]; rfl
theorem cut_label (s : ByteArray) : (⟨(Lib.cut s.data.toList [32]).1.toArray⟩ : ByteArray) = s.extract 0 (runP nbN s) := by
  apply bl_inj
  rw [bl_stem]
  show (Lib.cut (bl s) [32]).1 = _
  have h := tw_ib (bl s)
  have hl : runP nbN s = ((bl s).takeWhile fun c => nbN c.toNat).length := rfl
  unfold Lib.cut
  rw [Lib.index_one]
  by_cases h0 : 0 ≤ Lib.indexByte (bl s) 32
  · rw [if_pos h0]
    obtain ⟨i, hi⟩ : ∃ i : Nat, Lib.indexByte (bl s) 32 = i := ⟨(Lib.indexByte (bl s) 32).toNat, by omega⟩
    have h1 := h.2 i hi
    rw [hi, hl, h1]
    simp only [Int.toNat_natCast, List.length_take]
    rw [List.take_eq_take_iff]
    omega
  · rw [if_neg h0]
    have hge := Lib.indexByte_ge (bl s) 32
    have h1 := h.1 (by omega)
    rw [hl, h1, List.take_length]
theorem ext_all (s : ByteArray) : s.extract 0 s.size = s := by apply bl_inj; rw [bl_stem, List.take_of_length_le (by rw [size_bl]; omega)]
end Go.Proofs.YtpbolcjcmkmalaaGreatDoor
