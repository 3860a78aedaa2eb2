/-
  Package script: readLabel, by contracts.
-/
import Derived.Test.YtgfaeeacndpniaaDoorLabP0
namespace Go.Proofs.YtgfaeeacndpniaaDoor
open Go.RowKit Go.Extern.Stop Go.Stop Go.Extern

theorem cpN_raw (x : Nat) : cpN x = (decide ((65 : Int) ≤ x) && decide ((x : Int) ≤ 90)) := by unfold cpN; rw [Bool.eq_iff_iff]; simp; omega
theorem dgN_raw (x : Nat) : dgN x = (decide ((48 : Int) ≤ x) && decide ((x : Int) ≤ 57)) := by unfold dgN; rw [Bool.eq_iff_iff]; simp; omega
theorem smN_raw (x : Nat) : smN x = (decide ((97 : Int) ≤ x) && decide ((x : Int) ≤ 122)) := by unfold smN; rw [Bool.eq_iff_iff]; simp; omega
theorem isCapital_any (x : Nat) (w : World) : Calls Tryd.prog 30 #[.int .i32 x] w fun e w' => e = .returned (.bool (cpN x)) ∧ w' = w := by
  rw [cpN_raw]
  cases h1 : decide ((65 : Int) ≤ x)
  all_goals
    go_enter Tryd.func30, Tryd.ntmps30
    go_wp2
    go_ret
    exact ⟨rfl, rfl⟩
theorem isDigit_any (x : Nat) (w : World) : Calls Tryd.prog 32 #[.int .i32 x] w fun e w' => e = .returned (.bool (dgN x)) ∧ w' = w := by
  rw [dgN_raw]
  cases h1 : decide ((48 : Int) ≤ x)
  all_goals
    go_enter Tryd.func32, Tryd.ntmps32
    go_wp2
    go_ret
    exact ⟨rfl, rfl⟩
theorem isSmall_any (x : Nat) (w : World) : Calls Tryd.prog 33 #[.int .i32 x] w fun e w' => e = .returned (.bool (smN x)) ∧ w' = w := by
  rw [smN_raw]
  cases h1 : decide ((97 : Int) ≤ x)
  all_goals
    go_enter Tryd.func33, Tryd.ntmps33
    go_wp2
    go_ret
    exact ⟨rfl, rfl⟩
theorem en_cap : ∀ args w, (callFunc 30 args).run Tryd.prog w = .ok (.enter 30 args) w := Go.Proofs.enters_of Tryd.func30 (by kernel_rfl) rfl
theorem en_dig : ∀ args w, (callFunc 32 args).run Tryd.prog w = .ok (.enter 32 args) w := Go.Proofs.enters_of Tryd.func32 (by kernel_rfl) rfl
theorem en_sml : ∀ args w, (callFunc 33 args).run Tryd.prog w = .ok (.enter 33 args) w := Go.Proofs.enters_of Tryd.func33 (by kernel_rfl) rfl
theorem cutCaps (s : ByteArray) (hs : s.size ≤ 1000000) (w : World) (hT : Lib.Utf8Tabs 3 4 w) :
    Calls Tryd.prog 29 #[.string s, .func (.func 30) #[] #[]] w fun e w' => e = .returned (.string (Lib.trimRightF cpN s)) ∧ Below w.heap.size w w' :=
  Go.Proofs.Tryd.strings_TrimRightFunc 30 #[] en_cap cpN s w (by omega) hT (fun W x _ => (isCapital_any x W).mono fun _ _ h => ⟨h.1, 0, h.2⟩)
theorem trimDigits (s : ByteArray) (hs : s.size ≤ 1000000) (w : World) (hT : Lib.Utf8Tabs 3 4 w) :
    Calls Tryd.prog 31 #[.string s, .func (.func 32) #[] #[]] w fun e w' => e = .returned (.string (Lib.trimF dgN s)) ∧ Below w.heap.size w w' :=
  Go.Proofs.Tryd.strings_TrimFunc 32 #[] en_dig dgN s w (by omega) hT (fun W x _ => (isDigit_any x W).mono fun _ _ h => ⟨h.1, 0, h.2⟩)
theorem trimSmall (s : ByteArray) (hs : s.size ≤ 1000000) (w : World) (hT : Lib.Utf8Tabs 3 4 w) :
    Calls Tryd.prog 31 #[.string s, .func (.func 33) #[] #[]] w fun e w' => e = .returned (.string (Lib.trimF smN s)) ∧ Below w.heap.size w w' :=
  Go.Proofs.Tryd.strings_TrimFunc 33 #[] en_sml smN s w (by omega) hT (fun W x _ => (isSmall_any x W).mono fun _ _ h => ⟨h.1, 0, h.2⟩)
theorem tabs_below {w w' : World} (h : Lib.Utf8Tabs 3 4 w) (hb : Below w.heap.size w w') : Lib.Utf8Tabs 3 4 w' := by
  have lt : ∀ {a : Addr} {v : Value}, w.cell? a = some v → a.block < w.heap.size := fun {a v} h => by
    rcases Nat.lt_or_ge a.block w.heap.size with k | k
    · exact k
    · simp [World.cell?, Array.getElem?_eq_none k] at h
  exact ⟨fun c hc => (hb.cell (lt (h.1 c hc))).trans (h.1 c hc), fun i hi => ⟨(hb.cell (lt (h.2 i hi).1)).trans (h.2 i hi).1, (hb.cell (lt (h.2 i hi).2)).trans (h.2 i hi).2⟩⟩

/-! What the program tells of a text, plain. -/
theorem allP_ext {p : Nat → Bool} {s : ByteArray} {k : Nat} (hk : k ≤ s.size) : AllP p (s.extract 0 k) 0 (s.extract 0 k).size ↔ AllP p s 0 k := by
  have hsz : (s.extract 0 k).size = k := by simp [ByteArray.size_extract]; omega
  have hg : ∀ (i : Nat) (hi : i < (s.extract 0 k).size) (hi' : i < s.size), (s.extract 0 k)[i] = s[i] := fun i hi hi' => by simp [ByteArray.getElem_extract]
  constructor
  · intro h i hi _ hik
    have := h i (by omega) (Nat.zero_le _) (by omega)
    rw [hg i (by omega) hi] at this
    exact this
  · intro h i hi _ hik
    rw [hg i hi (by omega)]
    exact h i (by omega) (Nat.zero_le _) (by omega)
/-- The stem that is cut off, and what follows of it. -/
theorem stem_cut (s : ByteArray) : ∃ k, k ≤ s.size ∧ Lib.trimRightF cpN s = s.extract 0 k ∧ ((AllP dgN s 0 k ∨ AllP smN s 0 k) → AllP cpN s k s.size) ∧ (∀ k' l, Lab s k' l → k' = k) := by
  rcases right_cases cpN_hi s with ⟨ha, hr⟩ | ⟨e, he, hr, h1, h2, h3⟩ | ⟨j, E, hj, hr, hjE, h128⟩
  · refine ⟨0, Nat.zero_le _, hr, fun _ => ha, fun k' l h => ?_⟩
    have a := h.k1
    have b := h.ks
    have c := h.byte 0 (by omega)
    have d := cpN_iff.1 (ha 0 (by omega) (Nat.zero_le _) (by omega))
    omega
  · refine ⟨e + 1, by omega, hr, fun _ => h3, fun k' l h => ?_⟩
    have b := h.ks
    rcases Nat.lt_trichotomy k' (e + 1) with c | c | c
    · have d := h.byte e he
      have : cpN s[e].toNat = true := cpN_iff.2 (by omega)
      rw [h2] at this
      cases this
    · exact c
    · have d := h.byte (e + 1) (by omega)
      have d' := cpN_iff.1 (h3 (e + 1) (by omega) (Nat.le_refl _) (by omega))
      omega
  · refine ⟨min E s.size, Nat.min_le_right _ _, ?_, fun h => ?_, fun k' l h => ?_⟩
    · rw [hr]
      rcases Nat.le_total E s.size with c | c
      · rw [Nat.min_eq_left c]
      · rw [Nat.min_eq_right c]
        have e : bl (s.extract 0 E) = bl (s.extract 0 s.size) := by
          rw [bl_stem, bl_stem, List.take_of_length_le (by rw [size_bl]; exact c), List.take_of_length_le (by rw [size_bl]; exact Nat.le_refl _)]
        exact ByteArray.ext (Array.toList_inj.1 e)
    · rcases h with h | h
      · have := dgN_iff.1 (h j hj (Nat.zero_le _) (by omega)); omega
      · have := smN_iff.1 (h j hj (Nat.zero_le _) (by omega)); omega
    · have := h.byte j hj
      omega

/-- The answer's cells, and the label that is read (block b). -/
structure LS (w W : World) (b : Nat) (l : Bool) (t c : ByteArray) : Prop where
  r0 : W.cell? ⟨w.heap.size, 0, none⟩ = some (.bool false)
  r1 : W.cell? ⟨w.heap.size, 0 + 1, none⟩ = some (.string ⟨#[]⟩)
  r2 : W.cell? ⟨w.heap.size, 0 + 2, none⟩ = some (.string ⟨#[]⟩)
  g0 : W.frozen? ⟨w.heap.size, 0, none⟩ = false
  g1 : W.frozen? ⟨w.heap.size, 0 + 1, none⟩ = false
  g2 : W.frozen? ⟨w.heap.size, 0 + 2, none⟩ = false
  c0 : W.cell? ⟨b, 0, none⟩ = some (.bool l)
  c1 : W.cell? ⟨b, 0 + 1, none⟩ = some (.string t)
  c2 : W.cell? ⟨b, 0 + 2, none⟩ = some (.string c)
  f0 : W.frozen? ⟨b, 0, none⟩ = false
  bel : Below w.heap.size w W
  lt : w.heap.size < b
  lb : b < W.heap.size
theorem frz_below {B : Nat} {w w' : World} (hb : Below B w w') {a : Addr} (h : a.block < B) : w'.frozen? a = w.frozen? a := by
  unfold World.frozen?
  rw [hb.block a.block h]
theorem LS.start {w W : World} (hb : Below (w.alloc (.cells #[.bool false, .string ⟨#[]⟩, .string ⟨#[]⟩] 43)).heap.size (w.alloc (.cells #[.bool false, .string ⟨#[]⟩, .string ⟨#[]⟩] 43)) W) (t c : ByteArray) :
    LS w (W.alloc (.cells #[.bool false, .string t, .string c] 43)) W.heap.size false t c := by
  have hl : w.heap.size < (w.alloc (.cells #[.bool false, .string ⟨#[]⟩, .string ⟨#[]⟩] 43)).heap.size := by simp
  have hlW : w.heap.size < W.heap.size := Nat.lt_of_lt_of_le hl hb.size
  have hb2 := hb.trans ((belA W (.cells #[.bool false, .string t, .string c] 43)).mono hb.size)
  refine ⟨?_, ?_, ?_, ?_, ?_, ?_, by simp, by simp, by simp, by simp, (belA w _).trans (hb2.mono (belA w _).size), hlW, by simp⟩
  · rw [hb2.cell (p := ⟨w.heap.size, 0, none⟩) hl]; simp
  · rw [hb2.cell (p := ⟨w.heap.size, 0 + 1, none⟩) hl]; simp
  · rw [hb2.cell (p := ⟨w.heap.size, 0 + 2, none⟩) hl]; simp
  · rw [frz_below hb2 (a := ⟨w.heap.size, 0, none⟩) hl]; simp
  · rw [frz_below hb2 (a := ⟨w.heap.size, 0 + 1, none⟩) hl]; simp
  · rw [frz_below hb2 (a := ⟨w.heap.size, 0 + 2, none⟩) hl]; simp
theorem LS.on {w W W' : World} {b : Nat} {l : Bool} {t c : ByteArray} (h : LS w W b l t c) (hb : Below W.heap.size W W') : LS w W' b l t c := by
  have l0 : w.heap.size < W.heap.size := Nat.lt_trans h.lt h.lb
  exact ⟨(hb.cell (p := ⟨w.heap.size, 0, none⟩) l0).trans h.r0, (hb.cell (p := ⟨w.heap.size, 0 + 1, none⟩) l0).trans h.r1, (hb.cell (p := ⟨w.heap.size, 0 + 2, none⟩) l0).trans h.r2, (frz_below hb (a := ⟨w.heap.size, 0, none⟩) l0).trans h.g0, (frz_below hb (a := ⟨w.heap.size, 0 + 1, none⟩) l0).trans h.g1, (frz_below hb (a := ⟨w.heap.size, 0 + 2, none⟩) l0).trans h.g2,
    (hb.cell (p := ⟨b, 0, none⟩) h.lb).trans h.c0, (hb.cell (p := ⟨b, 0 + 1, none⟩) h.lb).trans h.c1, (hb.cell (p := ⟨b, 0 + 2, none⟩) h.lb).trans h.c2, (frz_below hb (a := ⟨b, 0, none⟩) h.lb).trans h.f0, h.bel.trans (hb.mono h.bel.size), h.lt, Nat.lt_of_lt_of_le h.lb hb.size⟩
theorem LS.setL {w W : World} {b : Nat} {l : Bool} {t c : ByteArray} (h : LS w W b l t c) (l' : Bool) : LS w (W.setCell ⟨b, 0, none⟩ (.bool l')) b l' t c := by
  have hne : b ≠ w.heap.size := by have := h.lt; omega
  refine ⟨?_, ?_, ?_, by simpa using h.g0, by simpa using h.g1, by simpa using h.g2, World.cell?_setCell_same _ _ _ h.c0, ?_, ?_, by simpa using h.f0, h.bel.setCell (Nat.le_of_lt h.lt) _, h.lt, by simpa using h.lb⟩
  · rw [World.cell?_setCell_other _ _ _ _ (by intro e; injection e with e1; exact hne e1)]; exact h.r0
  · rw [World.cell?_setCell_other _ _ _ _ (by intro e; injection e with e1; exact hne e1)]; exact h.r1
  · rw [World.cell?_setCell_other _ _ _ _ (by intro e; injection e with e1; exact hne e1)]; exact h.r2
  · rw [World.cell?_setCell_other _ _ _ _ (by intro e; cases e)]; exact h.c1
  · rw [World.cell?_setCell_other _ _ _ _ (by intro e; cases e)]; exact h.c2
theorem qs0 {w : World} {b : Nat} {u : Value} (h : w.cell? ⟨b, 0, none⟩ = some u) (x y z : Value) : (((w.setCell ⟨b, 0, none⟩ x).setCell ⟨b, 1, none⟩ y).setCell ⟨b, 2, none⟩ z).cell? ⟨b, 0, none⟩ = some x := by
  rw [World.cell?_setCell_other _ _ _ _ (by intro e; cases e), World.cell?_setCell_other _ _ _ _ (by intro e; cases e)]
  exact World.cell?_setCell_same _ _ _ h
theorem qs1 {w : World} {b : Nat} {u : Value} (h : w.cell? ⟨b, 0 + 1, none⟩ = some u) (x y z : Value) : (((w.setCell ⟨b, 0, none⟩ x).setCell ⟨b, 1, none⟩ y).setCell ⟨b, 2, none⟩ z).cell? ⟨b, 1, none⟩ = some y := by
  rw [World.cell?_setCell_other _ _ _ _ (by intro e; cases e)]
  exact World.cell?_setCell_same _ _ _ (by rw [World.cell?_setCell_other _ _ _ _ (by intro e; cases e)]; exact h)
theorem qs2 {w : World} {b : Nat} {u : Value} (h : w.cell? ⟨b, 0 + 2, none⟩ = some u) (x y z : Value) : (((w.setCell ⟨b, 0, none⟩ x).setCell ⟨b, 1, none⟩ y).setCell ⟨b, 2, none⟩ z).cell? ⟨b, 2, none⟩ = some z :=
  World.cell?_setCell_same _ _ _ (by rw [World.cell?_setCell_other _ _ _ _ (by intro e; cases e), World.cell?_setCell_other _ _ _ _ (by intro e; cases e)]; exact h)
theorem LS.bel3 {w W : World} {b : Nat} {l : Bool} {t c : ByteArray} (h : LS w W b l t c) (x y z : Value) : Below w.heap.size w (((W.setCell ⟨w.heap.size, 0, none⟩ x).setCell ⟨w.heap.size, 1, none⟩ y).setCell ⟨w.heap.size, 2, none⟩ z) :=
  ((h.bel.setCell (Nat.le_refl _) _).setCell (Nat.le_refl _) _).setCell (Nat.le_refl _) _
end Go.Proofs.YtgfaeeacndpniaaDoor
