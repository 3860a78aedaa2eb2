/-
  Package reason: from which claims one follows: all, whySure, whyNotSure, whyNoneCarries.
-/
import Derived.Test.YtmbclnaenjcocaaGreatDoorRsClm
namespace Go.Proofs.YtmbclnaenjcocaaGreatDoor
open Go.RowKit
variable {w : World} {bL bR hi : Nat} {H : Sh} {V : Vs} {s : St}

def zClm : Array Value := #[.bool false, .bool false, .int .i64 0]
theorem Tryz.infoClm2 : (Tryz.prog.info? 65).map (fun i => (i.zero, i.size, i.bytes)) = some (some (.agg zClm), 3, 16) := by kernel_rfl
theorem make_clm (n : Nat) (hn : n ≤ 100000) (w : World) : (Instr.makeSlice 66 (.int .i64 (n : Int)) (.int .i64 (n : Int))).run Tryz.prog w = .ok (.slice (some ⟨w.heap.size, 0, none⟩) n n) (w.alloc (.cells (madeCells zClm (n * 3)) 65)) := by
  obtain ⟨i, hi, e⟩ := Option.map_eq_some_iff.1 Tryz.infoClm2
  simp only [Prod.mk.injEq] at e
  obtain ⟨e1, e2, e3⟩ := e
  have h := run_make (P := Tryz.prog) w 66 65 i (.agg zClm) Tryz.underlying66 hi e1 .i64 .i64 n n (by omega) (Int.le_refl _) (by rw [e3]; omega) (by omega)
  rw [e2] at h
  simp only [Int.toNat_natCast] at h
  exact h
/-- Claims of which the first j are laid. -/
def cF (f : Nat → Clm) (j x : Nat) : Value :=
  match x % 3 with
  | 0 => .bool (if x / 3 < j then (f (x / 3)).1 else false)
  | 1 => .bool (if x / 3 < j then (f (x / 3)).2.1 else false)
  | _ => .int .i64 (if x / 3 < j then (f (x / 3)).2.2 else 0)
theorem made_clm (w : World) (f : Nat → Clm) (n : Nat) : (w.alloc (.cells (madeCells zClm n) 65)).rowIs w.heap.size 65 n (cF f 0) :=
  ⟨_, Go.Deep.blk_alloc_new _ _, size_madeCells _ _, fun i hi => by
    have h5 : i % 3 < 3 := Nat.mod_lt _ (by omega)
    have e : (madeCells zClm n)[i]? = some (zClm[i % 3]!) := by simp [madeCells, hi, zClm]
    rw [e]
    unfold cF zClm
    match hm : i % 3, h5 with
    | 0, _ => simp
    | 1, _ => simp
    | 2, _ => simp⟩
theorem cF_next (f : Nat → Clm) (j x : Nat) : (if x = j * 3 + 2 then Value.int .i64 (f j).2.2 else if x = j * 3 + 1 then .bool (f j).2.1 else if x = j * 3 then .bool (f j).1 else cF f j x) = cF f (j + 1) x := by
  unfold cF
  by_cases h1 : x = j * 3 + 2
  · subst h1
    rw [if_pos rfl, show (j * 3 + 2) % 3 = 2 by omega, show (j * 3 + 2) / 3 = j by omega]
    simp
  · rw [if_neg h1]
    by_cases h2 : x = j * 3 + 1
    · subst h2
      rw [if_pos rfl, show (j * 3 + 1) % 3 = 1 by omega, show (j * 3 + 1) / 3 = j by omega]
      simp
    · rw [if_neg h2]
      by_cases h3 : x = j * 3
      · subst h3
        rw [if_pos rfl, show j * 3 % 3 = 0 by omega, show j * 3 / 3 = j by omega]
        simp
      · rw [if_neg h3]
        have e : (x / 3 < j + 1) = (x / 3 < j) := by apply propext; omega
        simp only [e]
theorem crow_of {w : World} {B g : Nat} {l : List Clm} (h : w.rowIs g 65 (l.length * 3) (cF (fun j => l.getD j (false, false, 0)) l.length)) (hB : B ≤ g) (hl : l.length ≤ 100000000) : CRow w B (.slice (some ⟨g, 0, none⟩) l.length l.length) l := by
  obtain ⟨c, e, hs, hc⟩ := h
  refine ⟨⟨clmC_len l, .inr ⟨g, l.length, c, rfl, hB, e, Nat.le_refl _, by unfold maxLen; omega, hs, ?_⟩⟩, hl⟩
  rw [List.take_of_length_le (by rw [Array.length_toList, hs]; exact Nat.le_refl _)]
  apply List.ext_getElem?
  intro x
  by_cases hx : x < l.length * 3
  · have h1 := hc x hx
    have hj : x / 3 < l.length := by omega
    obtain ⟨y, hy⟩ : ∃ y, l[x / 3]? = some y := ⟨_, List.getElem?_eq_getElem hj⟩
    have hd : l.getD (x / 3) (false, false, 0) = y := by rw [List.getD_eq_getElem?_getD, hy]; rfl
    obtain ⟨g1, g2, g3⟩ := clmC_get l (x / 3) y hy
    rw [Array.getElem?_toList, h1]
    unfold cF
    have h5 : x % 3 < 3 := Nat.mod_lt _ (by omega)
    match hm : x % 3, h5 with
    | 0, _ => simp only; rw [if_pos hj, hd, show x = x / 3 * 3 by omega, g1]
    | 1, _ => simp only; rw [if_pos hj, hd, show x = x / 3 * 3 + 1 by omega, g2]
    | 2, _ => simp only; rw [if_pos hj, hd, show x = x / 3 * 3 + 2 by omega, g3]
  · rw [List.getElem?_eq_none (by rw [Array.length_toList, hs]; omega), List.getElem?_eq_none (by rw [clmC_len]; omega)]
theorem retV {a b : Value} (h : a = b) : Ending.returned a = .returned b := by rw [h]
set_option maxHeartbeats 1000000 in
theorem all_p (h : Net w bL bR hi H V s) {i : Nat} (hp : i < H.R) (a : Bool) : Calls Tryz.prog 82 #[.pointer (some ⟨bR, i * 7, none⟩), .bool a] w fun e w' => ∃ ad n c, e = .returned (.slice ad n c) ∧ Below w.heap.size w w' ∧ CRow w' w.heap.size (.slice ad n c) (allC H i a) := by
  obtain ⟨x0, x1, x2, x3, x4, x5, x6, xf⟩ := h.std hp
  obtain ⟨hb, hbl⟩ := h.bd i hp
  have h0 := h.lt0
  have h1 := h.lt
  have h2 := h.lt2
  have h3 := h.lt3
  have hBR : V.B ≤ bR := by omega
  have hBW : V.B ≤ w.heap.size := by omega
  have hRW : bR < w.heap.size := by omega
  have hb2 := hb
  obtain ⟨ba, bc, ebv, _, _⟩ := hb2
  rw [ebv] at x1 hb
  obtain ⟨l, hl⟩ : ∃ l, l = H.bd i := ⟨_, rfl⟩
  have hA : allC H i a = l.map (fun q => (a, true, q)) := by rw [hl]; rfl
  rw [← hl] at x1 hb hbl
  rw [hA]
  obtain ⟨L, hL⟩ : ∃ L, L = l.length := ⟨_, rfl⟩
  rw [← hL] at x1 hb hbl
  have HL := hidLL hL
  have HB := hidLL hb
  have hmk : ∀ w : World, (Instr.makeSlice 66 (.int .i64 (L : Int)) (.int .i64 (L : Int))).run Tryz.prog w = .ok (.slice (some ⟨w.heap.size, 0, none⟩) L L) (w.alloc (.cells (madeCells zClm (L * 3)) 65)) := fun w => make_clm L (by omega) w
  obtain ⟨f, hf⟩ : ∃ f : Nat → Clm, f = fun j => (l.map (fun q => ((a, true, q) : Clm))).getD j (false, false, 0) := ⟨_, rfl⟩
  have HF := hidLL hf
  have HFJ : Hid (∀ j q, l[j]? = some q → f j = (a, true, q)) := fun j q hj => by rw [hf]; show (l.map _).getD j _ = _; rw [List.getD_eq_getElem?_getD, List.getElem?_map, hj]; rfl
  clear hA hl hL hb ebv h hf x0 x2 x3 x4 x5 x6 xf h1 h2 h3 h0
  obtain ⟨X, hX⟩ : ∃ X, X = i * 7 := ⟨_, rfl⟩
  rw [← hX] at x1 ⊢
  clear hX
  obtain ⟨W1, hW1⟩ : ∃ W1 : World, W1 = w.alloc (.cells (madeCells zClm (L * 3)) 65) := ⟨_, rfl⟩
  have hb1 : Below w.heap.size w W1 := by rw [hW1]; exact (Below.refl _ _).alloc (Nat.le_refl _) _
  have hr1 : W1.rowIs w.heap.size 65 (L * 3) (cF f 0) := by rw [hW1]; exact made_clm w f (L * 3)
  have y1 : W1.cell? ⟨bR, X + 1, none⟩ = some (.slice ba L bc) := (hb1.cell (p := ⟨bR, X + 1, none⟩) hRW).trans x1
  have HW1 := hidLL hW1
  have H1 := hidLL (And.intro hb1 hr1)
  obtain ⟨g0, hg0⟩ : ∃ g0, g0 = w.heap.size := ⟨_, rfl⟩
  have HG := hidLL hg0
  clear hW1 hb1 hr1
  go_enter Tryz.func82, Tryz.ntmps82
  go_upto_region 2 with fail
  rw [← HW1.out, ← HG.out]
  clear hmk x1
  rw [← hg0] at hBW hRW
  clear hg0
  go_wp2_with fail
  go_loopw [19] (fun t wr => ∃ j : Nat, j ≤ L ∧ t = .int .i64 j ∧ Below g0 w wr ∧ wr.rowIs g0 65 (L * 3) (cF f j)) (fun t _ => L - (RowKit.intOf t).toNat)
  case atStart => exact ⟨0, by omega, rfl, by rw [HG.out]; exact H1.out.1, by rw [HG.out]; exact H1.out.2⟩
  case round =>
    obtain ⟨j, hj, rfl, hbel, hrow⟩ := hrel
    by_cases hlt : j < L
    · have hjz : (j : Int) < L := by omega
      obtain ⟨q, hq⟩ : ∃ q, l[j]? = some q := ⟨_, List.getElem?_eq_getElem (by have := HL.out; omega)⟩
      obtain ⟨g, o, ea, hgB, hc⟩ := HB.out.at hq
      subst ea
      have hc' : wr.cell? ⟨g, o + j, none⟩ = some (.int .i64 q) := (hbel.cell (p := ⟨g, o + j, none⟩) (by show g < g0; omega)).trans hc
      have z0 := hrow.cell (i := j * 3) (by omega)
      have z1 := hrow.cell (i := j * 3 + 1) (by omega)
      have z2 := hrow.cell (i := j * 3 + 2) (by omega)
      have zf := hrow.frozen
      have hlg := hrow.lt
      generalize cF f j (j * 3) = u0 at z0
      generalize cF f j (j * 3 + 1) = u1 at z1
      generalize cF f j (j * 3 + 2) = u2 at z2
      have HQ := hidLL (And.intro hbel (And.intro hrow (HFJ.out j q hq)))
      clear hbel hrow hq hc
      go_wp2
      go_roundw
      case rel =>
        refine ⟨j + 1, by omega, by go_num, ((HQ.out.1.setCell (p := ⟨g0, _, none⟩) (Nat.le_refl _) _).setCell (p := ⟨g0, _, none⟩) (Nat.le_refl _) _).setCell (p := ⟨g0, _, none⟩) (Nat.le_refl _) _, ?_⟩
        refine (((HQ.out.2.1.set _ _).set _ _).set _ _).congr fun x _ => ?_
        have e := cF_next f j x
        rw [HQ.out.2.2] at e
        exact e
      case measure => simp [RowKit.intOf]; omega
    · obtain rfl : j = L := by omega
      have hge : ¬ (j : Int) < j := by omega
      have HQ := hidLL (And.intro hbel hrow)
      clear hbel hrow
      go_wp2
      go_ret
      refine ⟨_, _, _, rfl, by rw [← HG.out]; exact HQ.out.1, ?_⟩
      have hm : j = (l.map (fun q => ((a, true, q) : Clm))).length := by rw [List.length_map]; exact HL.out
      have h9 := HQ.out.2
      rw [HF.out] at h9
      have h10 := crow_of (B := w.heap.size) (l := l.map (fun q => ((a, true, q) : Clm))) (g := g0) (by rw [← hm]; exact h9) (by rw [← HG.out]; exact Nat.le_refl _) (by rw [← hm]; omega)
      rw [← hm] at h10
      exact h10
end Go.Proofs.YtmbclnaenjcocaaGreatDoor
