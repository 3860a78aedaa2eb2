/-
  The program's writer: the line (written by tools/genwrj3.py).
-/
import Derived.Test.YtehbinobohjadaaGreatDoorBk34
import Derived.Laws.StructEq
import Derived.ChangeKeysEq
namespace Go.Proofs.YtehbinobohjadaaGreatDoor
open Go.RowKit Go.Sort Go.Extern.Stop Go.Stop Go.Extern

def jB (ap : ByteArray → ByteArray → Bool) (ts : List ByteArray) : ByteArray := ⟨(joinB ap ⟨#[]⟩ ts).toArray⟩
/-- The line, from the so many-th try on. -/
def pkB (ts : List ByteArray) : Nat → ByteArray → ByteArray
  | 0, _ => if (jB apE ts).size ≤ 300 then jB apE ts else if (jB apI ts).size ≤ 300 then jB apI ts else jB apW ts
  | 1, _ => if (jB apI ts).size ≤ 300 then jB apI ts else jB apW ts
  | 2, _ => jB apW ts
  | _, X => X
def lineB (ts : List ByteArray) : ByteArray := pkB ts 0 ⟨#[]⟩
set_option maxHeartbeats 4000000 in
theorem line_q {w : World} {wp : Nat} {s : WS} (h : WR w wp s) (hne : ∀ x, x ∈ s.ts → 0 < x.size) (h1 : s.ts ≠ []) (z0 : (joinB apE ⟨#[]⟩ s.ts).length ≤ 1000000) (z1 : (joinB apI ⟨#[]⟩ s.ts).length ≤ 1000000) (z2 : (joinB apW ⟨#[]⟩ s.ts).length ≤ 1000000) :
    Calls Tryz.prog 21 #[.pointer (some ⟨wp, 0, none⟩)] w fun e w' => e = .returned (.string (lineB s.ts)) ∧ Below w.heap.size w w' := by
  have hb0 : Below w.heap.size w (w.alloc (.cells #[.func (.func 51) #[] #[], .func (.func 52) #[] #[], .func (.func 53) #[] #[]] 104)) := (Below.refl _ _).alloc (Nat.le_refl _) _
  have hk0 := heap_alloc_new w (.cells #[.func (.func 51) #[] #[], .func (.func 52) #[] #[], .func (.func 53) #[] #[]] 104)
  obtain ⟨W0, hW0⟩ : ∃ W0, W0 = w.alloc (.cells #[.func (.func 51) #[] #[], .func (.func 52) #[] #[], .func (.func 53) #[] #[]] 104) := ⟨_, rfl⟩
  rw [← hW0] at hb0 hk0
  have HW := hidLL hW0
  have HB0 := hidLL hb0
  have HR0 := hidLL (h.below hb0)
  obtain ⟨bb, hbb⟩ : ∃ bb, bb = w.heap.size := ⟨_, rfl⟩
  rw [← hbb] at hk0
  have HK0 := hidLL hk0
  have HJ0 := hidLL (fun W hW => joinE_q (w := W) (wp := wp) hW hne h1 z0)
  have HJ1 := hidLL (fun W hW => joinI_q (w := W) (wp := wp) hW hne h1 z1)
  have HJ2 := hidLL (fun W hW => joinW_q (w := W) (wp := wp) hW hne h1 z2)
  obtain ⟨T, hT⟩ : ∃ T, T = lineB s.ts := ⟨_, rfl⟩
  rw [← hT]
  have HT : Hid (T = pkB s.ts 0 ⟨#[]⟩) := hT
  clear hT hW0 hb0 hk0 h hne h1 z0 z1 z2
  go_enter Tryz.func21, Tryz.ntmps21
  go_wp2_with fail
  rw [← HW.out, ← hbb]
  clear hbb
  go_loopw [3, 8] (fun lv iv wr => ∃ (j : Nat) (X : ByteArray), j ≤ 3 ∧ iv = .int .i64 j ∧ lv = .string X ∧ T = pkB s.ts j X ∧ WR wr wp s ∧ Below w.heap.size w wr ∧ wr.heap[bb]? = some (.cells #[.func (.func 51) #[] #[], .func (.func 52) #[] #[], .func (.func 53) #[] #[]] 104 (0, 0))) (fun _ iv _ => (3 - RowKit.intOf iv).toNat)
  case atStart => exact ⟨0, ⟨#[]⟩, by omega, rfl, rfl, HT.out, HR0.out, HB0.out, HK0.out⟩
  case round =>
    obtain ⟨j, X, hj, rfl, rfl, ht, hr, hb, hk⟩ := hrel
    have HX := hidLL ht
    have HR := hidLL hr
    have HB := hidLL hb
    have HK := hidLL hk
    have k0 : wr.cell? ⟨bb, 0, none⟩ = some (.func (.func 51) #[] #[]) := by simp [World.cell?, hk]
    have k1 : wr.cell? ⟨bb, 1, none⟩ = some (.func (.func 52) #[] #[]) := by simp [World.cell?, hk]
    have k2 : wr.cell? ⟨bb, 2, none⟩ = some (.func (.func 53) #[] #[]) := by simp [World.cell?, hk]
    clear ht hr hb hk
    rcases (by omega : j = 0 ∨ j = 1 ∨ j = 2 ∨ j = 3) with hj0 | hj0 | hj0 | hj0
    · subst hj0
      obtain ⟨Y, hY⟩ : ∃ Y, Y = jB apE s.ts := ⟨_, rfl⟩
      have HJ := hidLL (HJ0.out wr HR.out)
      have hJ : (⟨(joinB apE ⟨#[]⟩ s.ts).toArray⟩ : ByteArray) = Y := hY.symm
      rw [hJ] at HJ
      have HY := hidLL hY
      clear hJ hY
      by_cases h3 : Y.size ≤ 300
      · have h3z : (Y.size : Int) ≤ 300 := by omega
        have HE : Hid (T = Y) := by show _ = _; rw [HX.out, HY.out] at *; exact if_pos h3
        go_wp2_with (go_at_call 54; refine HJ.out.mono ?_; rintro e W2 ⟨rfl, hb2⟩; (have HB2 := hidLL hb2); clear hb2)
        go_ret
        (obtain rfl : T = Y := HE.out)
        exact ⟨rfl, HB.out.trans (HB2.out.mono HB.out.size)⟩
      · have h3z : ¬ (Y.size : Int) ≤ 300 := by omega
        have HE : Hid (T = pkB s.ts (0 + 1) Y) := by show _ = _; rw [HX.out, HY.out] at *; exact if_neg h3
        go_wp2_with (go_at_call 54; refine HJ.out.mono ?_; rintro e W2 ⟨rfl, hb2⟩; (have HB2 := hidLL hb2); clear hb2)
        go_roundw
        case rel => exact ⟨0 + 1, Y, by omega, by go_num, rfl, HE.out, HR.out.below HB2.out, HB.out.trans (HB2.out.mono HB.out.size), (HB2.out.block _ (Array.getElem?_eq_some_iff.1 HK.out).1).trans HK.out⟩
        case measure => simp [RowKit.intOf]
    · subst hj0
      obtain ⟨Y, hY⟩ : ∃ Y, Y = jB apI s.ts := ⟨_, rfl⟩
      have HJ := hidLL (HJ1.out wr HR.out)
      have hJ : (⟨(joinB apI ⟨#[]⟩ s.ts).toArray⟩ : ByteArray) = Y := hY.symm
      rw [hJ] at HJ
      have HY := hidLL hY
      clear hJ hY
      by_cases h3 : Y.size ≤ 300
      · have h3z : (Y.size : Int) ≤ 300 := by omega
        have HE : Hid (T = Y) := by show _ = _; rw [HX.out, HY.out] at *; exact if_pos h3
        go_wp2_with (go_at_call 54; refine HJ.out.mono ?_; rintro e W2 ⟨rfl, hb2⟩; (have HB2 := hidLL hb2); clear hb2)
        go_ret
        (obtain rfl : T = Y := HE.out)
        exact ⟨rfl, HB.out.trans (HB2.out.mono HB.out.size)⟩
      · have h3z : ¬ (Y.size : Int) ≤ 300 := by omega
        have HE : Hid (T = pkB s.ts (1 + 1) Y) := by show _ = _; rw [HX.out, HY.out] at *; exact if_neg h3
        go_wp2_with (go_at_call 54; refine HJ.out.mono ?_; rintro e W2 ⟨rfl, hb2⟩; (have HB2 := hidLL hb2); clear hb2)
        go_roundw
        case rel => exact ⟨1 + 1, Y, by omega, by go_num, rfl, HE.out, HR.out.below HB2.out, HB.out.trans (HB2.out.mono HB.out.size), (HB2.out.block _ (Array.getElem?_eq_some_iff.1 HK.out).1).trans HK.out⟩
        case measure => simp [RowKit.intOf]
    · subst hj0
      obtain ⟨Y, hY⟩ : ∃ Y, Y = jB apW s.ts := ⟨_, rfl⟩
      have HJ := hidLL (HJ2.out wr HR.out)
      have hJ : (⟨(joinB apW ⟨#[]⟩ s.ts).toArray⟩ : ByteArray) = Y := hY.symm
      rw [hJ] at HJ
      have HY := hidLL hY
      clear hJ hY
      by_cases h3 : Y.size ≤ 300
      · have h3z : (Y.size : Int) ≤ 300 := by omega
        have HE : Hid (T = Y) := by show _ = _; rw [HX.out, HY.out] at *; rfl
        go_wp2_with (go_at_call 54; refine HJ.out.mono ?_; rintro e W2 ⟨rfl, hb2⟩; (have HB2 := hidLL hb2); clear hb2)
        go_ret
        (obtain rfl : T = Y := HE.out)
        exact ⟨rfl, HB.out.trans (HB2.out.mono HB.out.size)⟩
      · have h3z : ¬ (Y.size : Int) ≤ 300 := by omega
        have HE : Hid (T = pkB s.ts (2 + 1) Y) := by show _ = _; rw [HX.out, HY.out] at *; rfl
        go_wp2_with (go_at_call 54; refine HJ.out.mono ?_; rintro e W2 ⟨rfl, hb2⟩; (have HB2 := hidLL hb2); clear hb2)
        go_roundw
        case rel => exact ⟨2 + 1, Y, by omega, by go_num, rfl, HE.out, HR.out.below HB2.out, HB.out.trans (HB2.out.mono HB.out.size), (HB2.out.block _ (Array.getElem?_eq_some_iff.1 HK.out).1).trans HK.out⟩
        case measure => simp [RowKit.intOf]
    · subst hj0
      have HE : Hid (T = X) := HX.out
      go_wp2_with fail
      go_ret
      (obtain rfl : T = X := HE.out)
      exact ⟨rfl, HB.out⟩
end Go.Proofs.YtehbinobohjadaaGreatDoor
namespace Go.Proofs.YtehbinobohjadaaGreatDoor
open Go.RowKit Go.Sort Go.Extern.Stop Go.Stop Go.Extern

mutual
/-- Are two nodes the same? -/
def eqT : Tn → Tn → Bool
  | .mk a b c d, .mk a' b' c' d' => eqB a a' && (eqB b b' && (decide (c = c') && eqTs d d'))
def eqTs : List Tn → List Tn → Bool
  | [], [] => true
  | x :: l, y :: m => eqT x y && eqTs l m
  | [], _ :: _ => false
  | _ :: _, [] => false
end
theorem eqT_is (t u : Tn) : eqT t u = (eqB t.kind u.kind && (eqB t.word u.word && (decide (t.num = u.num) && eqTs t.kids u.kids))) := by
  cases t; cases u
  rw [eqT]
  rfl
theorem eqTs_len : ∀ (l m : List Tn), l.length ≠ m.length → eqTs l m = false
  | [], [], h => absurd rfl h
  | [], _ :: _, _ => by rw [eqTs]
  | _ :: _, [], _ => by rw [eqTs]
  | x :: l, y :: m, h => by
    rw [eqTs, eqTs_len l m (fun e => h (by simp [e]))]
    simp
theorem eqTs_drop {l m : List Tn} {i : Nat} {x y : Tn} (hx : l[i]? = some x) (hy : m[i]? = some y) : eqTs (l.drop i) (m.drop i) = (eqT x y && eqTs (l.drop (i + 1)) (m.drop (i + 1))) := by
  obtain ⟨h1, e1⟩ := List.getElem?_eq_some_iff.1 hx
  obtain ⟨h2, e2⟩ := List.getElem?_eq_some_iff.1 hy
  rw [List.drop_eq_getElem_cons h1, List.drop_eq_getElem_cons h2, e1, e2, eqTs]
def SameI (t : Tn) : Prop := ∀ (u : Tn) (w : World) (ka kb : Option Addr) (kc kd : Nat), NT w (· < w.heap.size) ka kc t → NT w (· < w.heap.size) kb kd u → Calls Tryz.prog 55 #[.agg (ndT t ka kc), .agg (ndT u kb kd)] w fun e w' => e = .returned (.bool (eqT t u)) ∧ Below w.heap.size w w'
theorem NT.grow {w w' : World} {ka : Option Addr} {kc : Nat} {t : Tn} (h : NT w (· < w.heap.size) ka kc t) (hb : Below w.heap.size w w') : NT w' (· < w'.heap.size) ka kc t := h.step fun b hb1 => ⟨hb.block b hb1, Nat.lt_of_lt_of_le hb1 hb.size⟩
theorem retB9 {a b : Bool} (h : a = b) : Ending.returned (.bool a) = .returned (.bool b) := by rw [h]
set_option maxHeartbeats 2000000 in
theorem equalF_q {t u : Tn} (ih : ∀ (i : Nat) (k : Tn), t.kids[i]? = some k → SameI k) {w : World} {ka kb : Option Addr} {kc kd : Nat} (ht : NT w (· < w.heap.size) ka kc t) (hu : NT w (· < w.heap.size) kb kd u) :
    Calls Tryz.prog 102 #[.slice ka t.kids.length kc, .slice kb u.kids.length kd, .func (.func 55) #[] #[]] w fun e w' => e = .returned (.bool (eqTs t.kids u.kids)) ∧ Below w.heap.size w w' := by
  obtain ⟨hc, hl, _⟩ := ht.is
  obtain ⟨hc2, hl2, _⟩ := hu.is
  have HI := hidLL ih
  have HT := hidLL ht
  have HU := hidLL hu
  obtain ⟨R, hR⟩ : ∃ R, R = eqTs t.kids u.kids := ⟨_, rfl⟩
  rw [← hR]
  obtain ⟨n, hn⟩ : ∃ n, n = t.kids.length := ⟨_, rfl⟩
  obtain ⟨m, hm⟩ : ∃ m, m = u.kids.length := ⟨_, rfl⟩
  rw [← hn, ← hm]
  rw [← hn] at hc hl
  rw [← hm] at hc2 hl2
  by_cases hnm : n = m
  · subst hnm
    have HN := hidLL (And.intro hn hm)
    have HR := hidLL hR
    clear hn hm hR ht hu ih
    go_enter Tryz.func102, Tryz.ntmps102
    go_wp2_with fail
    go_loopw [17] (fun i wr => ∃ j : Nat, j ≤ n ∧ i = .int .i64 j ∧ R = eqTs (t.kids.drop j) (u.kids.drop j) ∧ Below w.heap.size w wr) (fun i _ => n - (RowKit.intOf i).toNat)
    case atStart => exact ⟨0, by omega, rfl, HR.out, Below.refl _ _⟩
    case round =>
      obtain ⟨j, hj, rfl, hno, hb⟩ := hrel
      have HB := hidLL hb
      have HD := hidLL hno
      clear hno hb
      by_cases hlt : j < n
      · have hjz : (j : Int) < n := by omega
        obtain ⟨x, hx⟩ : ∃ x, t.kids[j]? = some x := ⟨_, List.getElem?_eq_getElem (by have := HN.out.1; omega)⟩
        obtain ⟨y, hy⟩ : ∃ y, u.kids[j]? = some y := ⟨_, List.getElem?_eq_getElem (by have := HN.out.2; omega)⟩
        obtain ⟨b, o, a, c, rfl, hb, hrg, hnx⟩ := (HT.out.grow HB.out).is.2.2 j x hx
        obtain ⟨b2, o2, a2, c2, rfl, hb2, hrg2, hny⟩ := (HU.out.grow HB.out).is.2.2 j y hy
        have HC : Hid (∀ V, Below wr.heap.size wr V → Calls Tryz.prog 55 #[.agg (ndT x a c), .agg (ndT y a2 c2)] V fun e w' => e = .returned (.bool (eqT x y)) ∧ Below V.heap.size V w') := fun V hV => HI.out j x hx y V a a2 c c2 (hnx.grow hV) (hny.grow hV)
        have HE := hidLL (eqTs_drop hx hy)
        have x0 := hrg 0 _ rfl
        have x1 := hrg 1 _ rfl
        have x2 := hrg 2 _ rfl
        have x3 := hrg 3 _ rfl
        rw [Nat.add_zero] at x0
        have y0 := hrg2 0 _ rfl
        have y1 := hrg2 1 _ rfl
        have y2 := hrg2 2 _ rfl
        have y3 := hrg2 3 _ rfl
        rw [Nat.add_zero] at y0
        unfold ndT at HC
        clear hx hy hrg hrg2 hnx hny
        generalize x.kind = p0 at *
        generalize x.word = p1 at *
        generalize x.num = p2 at *
        generalize x.kids.length = p3 at *
        generalize y.kind = q0 at *
        generalize y.word = q1 at *
        generalize y.num = q2 at *
        generalize y.kids.length = q3 at *
        have hA : Below wr.heap.size wr (wr.alloc (.cells #[.string p0, .string p1, .int .i64 p2, .slice a p3 c] 25)) := (Below.refl _ _).alloc (Nat.le_refl _) _
        have z0 := (hA.cell (p := ⟨b2, o2 + j * 4, none⟩) hb2).trans y0
        have z1 := (hA.cell (p := ⟨b2, o2 + j * 4 + 1, none⟩) hb2).trans y1
        have z2 := (hA.cell (p := ⟨b2, o2 + j * 4 + 2, none⟩) hb2).trans y2
        have z3 := (hA.cell (p := ⟨b2, o2 + j * 4 + 3, none⟩) hb2).trans y3
        clear hA y0 y1 y2 y3
        cases hf : eqT x y
        · rw [hf] at HC HE
          clear hf
          go_wp2_with (go_at_call 55; refine (HC.out _ (((Below.refl _ _).alloc (Nat.le_refl _) _).alloc (by simp) _)).mono ?_; rintro e w2 ⟨rfl, h9⟩; (have HB2 := hidLL (HB.out.trans ((((Below.refl _ _).alloc (Nat.le_refl _) _).alloc (by simp) _).trans (h9.mono (by simp; omega)) |>.mono HB.out.size))); clear h9)
          go_ret
          exact ⟨retB9 (by rw [HD.out, HE.out]; rfl), HB2.out⟩
        · rw [hf] at HC HE
          clear hf
          go_wp2_with (go_at_call 55; refine (HC.out _ (((Below.refl _ _).alloc (Nat.le_refl _) _).alloc (by simp) _)).mono ?_; rintro e w2 ⟨rfl, h9⟩; (have HB2 := hidLL (HB.out.trans ((((Below.refl _ _).alloc (Nat.le_refl _) _).alloc (by simp) _).trans (h9.mono (by simp; omega)) |>.mono HB.out.size))); clear h9)
          go_roundw
          case rel => exact ⟨j + 1, by omega, by go_num, by rw [HD.out, HE.out]; rfl, HB2.out⟩
          case measure => simp [RowKit.intOf]; omega
      · have hjz : ¬ (j : Int) < n := by omega
        obtain rfl : j = n := by omega
        go_wp2
        go_ret
        refine ⟨retB9 ?_, HB.out⟩
        rw [HD.out, List.drop_eq_nil_of_le (by have := HN.out.1; omega), List.drop_eq_nil_of_le (by have := HN.out.2; omega), eqTs]
  · have HR : Hid (R = false) := by show _ = _; rw [hR]; exact eqTs_len _ _ (by omega)
    have hne : ¬ (n : Int) = m := by omega
    clear hn hm hR ht hu ih HT HU HI
    go_enter Tryz.func102, Tryz.ntmps102
    go_wp2
    go_ret
    exact ⟨retB9 HR.out.symm, Below.refl _ _⟩
end Go.Proofs.YtehbinobohjadaaGreatDoor
namespace Go.Proofs.YtehbinobohjadaaGreatDoor
open Go.RowKit Go.Sort Go.Extern.Stop Go.Stop Go.Extern

theorem eq_list (a b : ByteArray) : eqB a b = (a.toList == b.toList) := rfl
theorem list_inj9 {a b : ByteArray} (h : a.toList = b.toList) : a = b := by
  rw [Lib.toList_data, Lib.toList_data, Array.toList_inj] at h
  exact ByteArray.ext h
set_option maxHeartbeats 2000000 in
theorem isSameNode_step {t : Tn} (ih : ∀ (i : Nat) (k : Tn), t.kids[i]? = some k → SameI k) : SameI t := by
  intro u w ka kb kc kd ht hu
  have hW : Below w.heap.size w ((w.alloc (.cells (ndT t ka kc) 25)).alloc (.cells (ndT u kb kd) 25)) := ((Below.refl _ _).alloc (Nat.le_refl _) _).alloc (by simp) _
  have HF := hidLL (equalF_q ih (ht.grow hW) (hu.grow hW))
  have HW := hidLL hW
  have HE := hidLL (eqT_is t u)
  simp only [eq_list] at HE
  unfold ndT at *
  generalize eqTs t.kids u.kids = E at *
  generalize t.kids.length = t3 at *
  generalize u.kids.length = u3 at *
  generalize t.kind = t0 at *
  generalize t.word = t1 at *
  generalize t.num = t2 at *
  generalize u.kind = u0 at *
  generalize u.word = u1 at *
  generalize u.num = u2 at *
  generalize eqT t u = R at *
  clear ht hu hW ih
  cases h0 : (t0.toList == u0.toList)
  · rw [h0] at HE
    have h0' : ¬ t0.toList = u0.toList := by simpa using h0
    clear h0
    go_enter Tryz.func55, Tryz.ntmps55
    go_wp2
    go_ret
    exact ⟨retB9 (by rw [HE.out]; simp), HW.out⟩
  · rw [h0] at HE
    have h0' : t0.toList = u0.toList := by simpa using h0
    cases h1 : (t1.toList == u1.toList)
    · rw [h1] at HE
      have h1' : ¬ t1.toList = u1.toList := by simpa using h1
      clear h0 h1
      go_enter Tryz.func55, Tryz.ntmps55
      go_wp2
      go_ret
      exact ⟨retB9 (by rw [HE.out]; simp), HW.out⟩
    · rw [h1] at HE
      have h1' : t1.toList = u1.toList := by simpa using h1
      clear h0 h1
      by_cases h2 : t2 = u2
      · rw [decide_eq_true h2] at HE
        subst h2
        obtain rfl : t0 = u0 := list_inj9 h0'
        obtain rfl : t1 = u1 := list_inj9 h1'
        clear h0' h1'
        go_enter Tryz.func55, Tryz.ntmps55
        go_wp2_with (go_at_call 102; refine HF.out.mono ?_; rintro e w2 ⟨rfl, h9⟩; (have HB := hidLL (HW.out.trans (h9.mono HW.out.size))); clear h9)
        go_ret
        exact ⟨retB9 (by rw [HE.out]; simp), HB.out⟩
      · rw [decide_eq_false h2] at HE
        go_enter Tryz.func55, Tryz.ntmps55
        go_wp2
        go_ret
        exact ⟨retB9 (by rw [HE.out]; simp), HW.out⟩
theorem isSameNode_q : ∀ (n : Nat) (t : Tn), SizeOf.sizeOf t = n → SameI t := by
  intro n
  induction n using Nat.strongRecOn with
  | _ n ih =>
    intro t ht
    exact isSameNode_step fun i k hk => ih _ (by have := kids_lt hk; omega) k rfl
end Go.Proofs.YtehbinobohjadaaGreatDoor
namespace Go.Proofs.YtehbinobohjadaaGreatDoor
open Go.RowKit Go.Sort Go.Extern.Stop Go.Stop Go.Extern

def eqBs : List ByteArray → List ByteArray → Bool
  | [], [] => true
  | x :: l, y :: m => (x.toList == y.toList) && eqBs l m
  | [], _ :: _ => false
  | _ :: _, [] => false
theorem eqBs_len : ∀ (l m : List ByteArray), l.length ≠ m.length → eqBs l m = false
  | [], [], h => absurd rfl h
  | [], _ :: _, _ => rfl
  | _ :: _, [], _ => rfl
  | x :: l, y :: m, h => by
    rw [eqBs, eqBs_len l m (fun e => h (by simp [e]))]
    simp
theorem eqBs_drop {l m : List ByteArray} {i : Nat} {x y : ByteArray} (hx : l[i]? = some x) (hy : m[i]? = some y) : eqBs (l.drop i) (m.drop i) = ((x.toList == y.toList) && eqBs (l.drop (i + 1)) (m.drop (i + 1))) := by
  obtain ⟨h1, e1⟩ := List.getElem?_eq_some_iff.1 hx
  obtain ⟨h2, e2⟩ := List.getElem?_eq_some_iff.1 hy
  rw [List.drop_eq_getElem_cons h1, List.drop_eq_getElem_cons h2, e1, e2, eqBs]
theorem RdS.grow {w w' : World} {v : Value} {l : List ByteArray} (h : RdS stE w (· < w.heap.size) v l) (hb : Below w.heap.size w w') : RdS stE w' (· < w'.heap.size) v l := h.on fun k hk => ⟨Nat.lt_of_lt_of_le hk hb.size, hb.block k hk⟩
set_option maxHeartbeats 2000000 in
theorem equalS_q {l r : List ByteArray} {w : World} {ka kb : Option Addr} {n m kc kd : Nat} (ht : RdS stE w (· < w.heap.size) (.slice ka n kc) l) (hu : RdS stE w (· < w.heap.size) (.slice kb m kd) r) :
    Calls Tryz.prog 56 #[.slice ka n kc, .slice kb m kd] w fun e w' => e = .returned (.bool (eqBs l r)) ∧ Below w.heap.size w w' := by
  obtain ⟨hn, hl⟩ := ht.len
  obtain ⟨hm, hl2⟩ := hu.len
  have HT := hidLL ht
  have HU := hidLL hu
  obtain ⟨R, hR⟩ : ∃ R, R = eqBs l r := ⟨_, rfl⟩
  rw [← hR]
  by_cases hnm : n = m
  · subst hnm
    have HN := hidLL (And.intro hn hm)
    have HR := hidLL hR
    clear hn hm hR ht hu
    go_enter Tryz.func56, Tryz.ntmps56
    go_wp2_with fail
    go_loopw [13] (fun i wr => ∃ j : Nat, j ≤ n ∧ i = .int .i64 j ∧ R = eqBs (l.drop j) (r.drop j) ∧ Below w.heap.size w wr) (fun i _ => n - (RowKit.intOf i).toNat)
    case atStart => exact ⟨0, by omega, rfl, HR.out, Below.refl _ _⟩
    case round =>
      obtain ⟨j, hj, rfl, hno, hb⟩ := hrel
      have HB := hidLL hb
      have HD := hidLL hno
      clear hno hb
      by_cases hlt : j < n
      · have hjz : (j : Int) < n := by omega
        obtain ⟨x, hx⟩ : ∃ x, l[j]? = some x := ⟨_, List.getElem?_eq_getElem (by have := HN.out.1; omega)⟩
        obtain ⟨y, hy⟩ : ∃ y, r[j]? = some y := ⟨_, List.getElem?_eq_getElem (by have := HN.out.2; omega)⟩
        obtain ⟨b, o, rfl, hb, x0⟩ := (HT.out.grow HB.out).st hx
        obtain ⟨b2, o2, rfl, hb2, y0⟩ := (HU.out.grow HB.out).st hy
        have HE := hidLL (eqBs_drop hx hy)
        clear hx hy
        cases hf : (x.toList == y.toList)
        · rw [hf] at HE
          go_upto_region 6 with fail
          go_quiet (fail)
          go_wp2
          go_ret
          exact ⟨retB9 (by rw [HD.out, HE.out]; rfl), HB.out.trans ((Below.drewN_ _ _).mono HB.out.size)⟩
        · rw [hf] at HE
          have hf' : x = y := list_inj9 (by simpa using hf)
          subst hf'
          clear hf
          go_upto_region 6 with fail
          go_quiet (fail)
          go_wp2
          go_roundw
          case rel => exact ⟨j + 1, by omega, by go_num, by rw [HD.out, HE.out]; rfl, HB.out.trans ((Below.drewN_ _ _).mono HB.out.size)⟩
          case measure => simp [RowKit.intOf]; omega
      · have hjz : ¬ (j : Int) < n := by omega
        obtain rfl : j = n := by omega
        go_wp2
        go_ret
        refine ⟨retB9 ?_, HB.out⟩
        rw [HD.out, List.drop_eq_nil_of_le (by have := HN.out.1; omega), List.drop_eq_nil_of_le (by have := HN.out.2; omega), eqBs]
  · have HR : Hid (R = false) := by show _ = _; rw [hR]; exact eqBs_len _ _ (by omega)
    have hne : ¬ (n : Int) = m := by omega
    clear hn hm hR ht hu HT HU
    go_enter Tryz.func56, Tryz.ntmps56
    go_wp2
    go_ret
    exact ⟨retB9 HR.out.symm, Below.refl _ _⟩
end Go.Proofs.YtehbinobohjadaaGreatDoor
namespace Go.Proofs.YtehbinobohjadaaGreatDoor
open Go.RowKit Go.Sort Go.Extern.Stop Go.Stop Go.Extern

theorem Tryz.intPlain9 : Tryz.prog.plainKey 3 = true := by kernel_rfl
theorem eqF_cons9 (d : Nat) (xs ys : Array Value) (f : Field) (fs : List Field) (w : World) (h : f.name ≠ "_") {a b : Value} (ha : (part f.type xs f.offset).run Tryz.prog w = .ok a w) (hb : (part f.type ys f.offset).run Tryz.prog w = .ok b w) {r : Bool} (hr : (Op.equalIn d f.type a b).run Tryz.prog w = .ok r w) {R : Bool} (hR : (Op.eqFields d xs ys fs).run Tryz.prog w = .ok R w) : (Op.eqFields d xs ys (f :: fs)).run Tryz.prog w = .ok (r && R) w := by
  rw [Op.eqFields, if_pos h, Sem.run_bind, ha, Result.andThen_ok, Sem.run_bind, hb, Result.andThen_ok, Sem.run_bind, hr, Result.andThen_ok]
  cases r
  · rfl
  · exact hR
theorem eqF_all9 (d : Nat) (xs ys : Array Value) (w : World) : ∀ (fs : List Field) (ts : List (String × Nat × Nat)) (rs : List Bool), (fs.map fun f => (f.name, f.type, f.offset)) = ts → ts.length = rs.length →
    (∀ (i : Nat) (t : String × Nat × Nat) (r : Bool), ts[i]? = some t → rs[i]? = some r → t.1 ≠ "_" ∧ ∃ a b, (part t.2.1 xs t.2.2).run Tryz.prog w = .ok a w ∧ (part t.2.1 ys t.2.2).run Tryz.prog w = .ok b w ∧ (Op.equalIn d t.2.1 a b).run Tryz.prog w = .ok r w) →
    (Op.eqFields d xs ys fs).run Tryz.prog w = .ok (rs.all id) w
  | [], ts, rs, e, hl, _ => by
    subst e
    obtain rfl := List.eq_nil_of_length_eq_zero hl.symm
    rfl
  | f :: fs, ts, rs, e, hl, h => by
    subst e
    match rs, hl with
    | r :: rs, hl =>
      obtain ⟨h1, a, b, ha, hb, hr⟩ := h 0 _ r rfl rfl
      have ih := eqF_all9 d xs ys w fs _ rs rfl (by simpa using hl) (fun i t r' ht hr' => h (i + 1) t r' (by simpa using ht) (by simpa using hr'))
      rw [List.all_cons]
      exact eqF_cons9 d xs ys f fs w h1 ha hb hr ih
theorem part_int9 {xs : Array Value} {o : Nat} {v : Value} (w : World) (h : xs[o]? = some v) : (part 3 xs o).run Tryz.prog w = .ok v w := run_part_plain w Tryz.intPlain9 h
theorem Tryz.teFieldsP : ((Tryz.prog.fieldsOf 28).toList.map fun f => (f.name, f.type, f.offset)) = [("N", 3, 0), ("Unit", 3, 1), ("Roll", 3, 2)] := by kernel_rfl
theorem Tryz.teUP : Tryz.prog.underlying 28 = some (.struct (Tryz.prog.fieldsOf 28)) := by kernel_rfl
theorem Tryz.teHP : Tryz.prog.stoodInHeld 28 = false := by kernel_rfl
theorem eq_termP (n u r n' u' r' : Int) (w : World) : (Op.equalIn 10000 28 (.agg #[.int .i64 n, .int .i64 u, .int .i64 r]) (.agg #[.int .i64 n', .int .i64 u', .int .i64 r'])).run Tryz.prog w = .ok ([n == n', u == u', r == r'].all id) w := by
  rw [run_equalIn_struct w 9999 _ _ _ Tryz.teUP Tryz.teHP]
  refine eqF_all9 9999 _ _ w _ _ [n == n', u == u', r == r'] Tryz.teFieldsP rfl fun i t q ht hq => ?_
  match i, ht, hq with
  | 0, ht, hq => injection ht with ht; injection hq with hq; subst ht hq; exact ⟨by decide, _, _, part_int9 w rfl, part_int9 w rfl, run_equalIn_int w 9998 _ _ _ _ _ Tryz.underlying3⟩
  | 1, ht, hq => injection ht with ht; injection hq with hq; subst ht hq; exact ⟨by decide, _, _, part_int9 w rfl, part_int9 w rfl, run_equalIn_int w 9998 _ _ _ _ _ Tryz.underlying3⟩
  | 2, ht, hq => injection ht with ht; injection hq with hq; subst ht hq; exact ⟨by decide, _, _, part_int9 w rfl, part_int9 w rfl, run_equalIn_int w 9998 _ _ _ _ _ Tryz.underlying3⟩
theorem term_yesP (n u r : Int) (w : World) : (Op.equalIn 10000 28 (.agg #[.int .i64 n, .int .i64 u, .int .i64 r]) (.agg #[.int .i64 n, .int .i64 u, .int .i64 r])).run Tryz.prog w = .ok true w := by
  rw [eq_termP]
  simp
theorem term_noP (n u r n' u' r' : Int) (h : ¬ (n = n' ∧ u = u' ∧ r = r')) (w : World) : (Op.equalIn 10000 28 (.agg #[.int .i64 n, .int .i64 u, .int .i64 r]) (.agg #[.int .i64 n', .int .i64 u', .int .i64 r'])).run Tryz.prog w = .ok false w := by
  rw [eq_termP]
  have : ([n == n', u == u', r == r'].all id) = false := by
    rw [Bool.eq_false_iff]
    intro e
    simp at e
    exact h e
  rw [this]
theorem Tryz.teFieldsR : ((Tryz.prog.fieldsOf 45).toList.map fun f => (f.name, f.type, f.offset)) = [("N", 3, 0), ("Unit", 3, 1), ("Roll", 3, 2)] := by kernel_rfl
theorem Tryz.teUR : Tryz.prog.underlying 45 = some (.struct (Tryz.prog.fieldsOf 45)) := by kernel_rfl
theorem Tryz.teHR : Tryz.prog.stoodInHeld 45 = false := by kernel_rfl
theorem eq_termR (n u r n' u' r' : Int) (w : World) : (Op.equalIn 10000 45 (.agg #[.int .i64 n, .int .i64 u, .int .i64 r]) (.agg #[.int .i64 n', .int .i64 u', .int .i64 r'])).run Tryz.prog w = .ok ([n == n', u == u', r == r'].all id) w := by
  rw [run_equalIn_struct w 9999 _ _ _ Tryz.teUR Tryz.teHR]
  refine eqF_all9 9999 _ _ w _ _ [n == n', u == u', r == r'] Tryz.teFieldsR rfl fun i t q ht hq => ?_
  match i, ht, hq with
  | 0, ht, hq => injection ht with ht; injection hq with hq; subst ht hq; exact ⟨by decide, _, _, part_int9 w rfl, part_int9 w rfl, run_equalIn_int w 9998 _ _ _ _ _ Tryz.underlying3⟩
  | 1, ht, hq => injection ht with ht; injection hq with hq; subst ht hq; exact ⟨by decide, _, _, part_int9 w rfl, part_int9 w rfl, run_equalIn_int w 9998 _ _ _ _ _ Tryz.underlying3⟩
  | 2, ht, hq => injection ht with ht; injection hq with hq; subst ht hq; exact ⟨by decide, _, _, part_int9 w rfl, part_int9 w rfl, run_equalIn_int w 9998 _ _ _ _ _ Tryz.underlying3⟩
theorem term_yesR (n u r : Int) (w : World) : (Op.equalIn 10000 45 (.agg #[.int .i64 n, .int .i64 u, .int .i64 r]) (.agg #[.int .i64 n, .int .i64 u, .int .i64 r])).run Tryz.prog w = .ok true w := by
  rw [eq_termR]
  simp
end Go.Proofs.YtehbinobohjadaaGreatDoor
