/-
  Package reason: all claims of a literal and of its opposite; all rules, as long as there is more (follow).
-/
import Derived.Test.YtmbclnaenjcocaaGreatDoorRsP5
namespace Go.Proofs.YtmbclnaenjcocaaGreatDoor
open Go.RowKit
variable {w : World} {bL bR hi : Nat} {H : Sh} {V : Vs} {s : St}

/-- What stays as long as claims are shown. -/
structure Stays (H : Sh) (I : St → Prop) : Prop where
  bd : ∀ s, I s → Bd 200000 s
  up : ∀ s, I s → ∀ i, 0 ≤ s.uh i
  step : ∀ s q a b, LitOk H q → I s → toShow H s (pl q) a b = true → I (litTake H s (pl q) a b)
def four (H : Sh) (x : St × Bool) (p : Nat) : St × Bool := shw H (shw H (shw H (shw H x p true true) p true false) p false true) p false false
def both (H : Sh) (x : St × Bool) (q : Int) : St × Bool := four H (four H x (pl q)) (pl (-q))
variable {K : World → St → Prop} {kb top : Nat} {X : List Nat}
/-- Showing under way. -/
def RB (w0 : World) (bL bR hi : Nat) (H : Sh) (V : Vs) (K : World → St → Prop) (kb top : Nat) (X : List Nat) (cl ct cm cs : Nat) (I : St → Prop) (w : World) (x : St × Bool) : Prop :=
  Run w bL bR hi H V K kb top X cl ct cm x.1 x.2 ∧ I x.1 ∧ w.heap[cs]? = some (.cells #[.func (.func 49) #[] #[.pointer (some ⟨cl, 0, none⟩), .pointer (some ⟨ct, 0, none⟩), .pointer (some ⟨cm, 0, none⟩)]] 101 (0, 0)) ∧ (cm < cs ∧ cs < top) ∧ Fr top (bL :: bR :: cm :: X) w0 w
theorem RB.step {w0 : World} {cl ct cm cs : Nat} {I : St → Prop} {x : St × Bool} (h : RB w0 bL bR hi H V K kb top X cl ct cm cs I w x) (hT : Tel H I K kb top X [bL, bR, cm]) (hS : Stays H I) {q : Int} (hq : LitOk H q) (a b : Bool) :
    Calls Tryz.prog 49 #[.agg #[.bool a, .bool b, .int .i64 q], .pointer (some ⟨cl, 0, none⟩), .pointer (some ⟨ct, 0, none⟩), .pointer (some ⟨cm, 0, none⟩)] w fun e w' => e = .returned (.tuple #[]) ∧ RB w0 bL bR hi H V K kb top X cl ct cm cs I w' (shw H x (pl q) a b) := by
  obtain ⟨hR, hI, hB, hlt, hC⟩ := h
  refine (show_p hR hT hI (hS.bd _ hI) (hS.up _ hI) a b q hq).mono ?_
  rintro e w' ⟨rfl, hR', hC'⟩
  have e1 := hR.net.lt
  have e2 := hR.net.lt2
  have e3 := hR.o5
  have e4 := hR.o6
  have xn : cs ∉ X := fun e => by have := hR.xs cs e; omega
  refine ⟨rfl, hR', ?_, hC'.blk hB hlt.2 (by simp only [List.mem_cons, not_or]; exact ⟨by omega, by omega, by omega, xn⟩), hlt, hC.trans hC'⟩
  unfold shw
  split
  · rename_i ht
    exact hS.step _ q a b hq hI ht
  · exact hI
theorem RB.cell {w0 : World} {cl ct cm cs : Nat} {I : St → Prop} {x : St × Bool} (h : RB w0 bL bR hi H V K kb top X cl ct cm cs I w x) : w.cell? ⟨cs, 0, none⟩ = some (.func (.func 49) #[] #[.pointer (some ⟨cl, 0, none⟩), .pointer (some ⟨ct, 0, none⟩), .pointer (some ⟨cm, 0, none⟩)]) := by
  simp [World.cell?, h.2.2.1]
theorem Tryz.infoInt : ∃ i, Tryz.prog.info? 3 = some i := by
  have h : (Tryz.prog.info? 3).map (fun i => i.size) = some 1 := by kernel_rfl
  obtain ⟨i, hi, _⟩ := Option.map_eq_some_iff.1 h
  exact ⟨i, hi⟩
theorem Tryz.plainInt : Tryz.prog.plainKey 3 = true := by kernel_rfl
set_option maxRecDepth 100000 in
theorem idx2 (x y : Int) (i : Nat) (hi : i < 2) (w : World) : (Instr.index 71 (.agg #[.int .i64 x, .int .i64 y]) (.int .i64 i)).run Tryz.prog w = .ok (.int .i64 (if i = 0 then x else y)) w := by
  obtain ⟨inf, hinf⟩ := Tryz.infoInt
  have hc : Tryz.prog.cellsOf 3 = 1 := by kernel_rfl
  have hx : (#[Value.int .i64 x, .int .i64 y])[i]? = some (.int .i64 (if i = 0 then x else y)) := by
    have h : i = 0 ∨ i = 1 := by omega
    rcases h with rfl | rfl <;> rfl
  have p := run_part_plain (P := Tryz.prog) w Tryz.plainInt (xs := #[.int .i64 x, .int .i64 y]) (off := i * 1) (v := .int .i64 (if i = 0 then x else y)) (by rw [Nat.mul_one]; exact hx)
  have s := run_sizeOf (P := Tryz.prog) w hinf
  rw [hc] at s
  have hz : (0 : Int) ≤ i ∧ (i : Int) < ((2 : Nat) : Int) := by omega
  have ht : ((i : Int)).toNat = i := by omega
  have hA : (asIntOf (Value.int .i64 (i : Int))).run Tryz.prog w = .ok (.i64, (i : Int)) w := rfl
  unfold Instr.index
  simp only [Sem.run_bind, hA, Result.andThen_ok, run_underlying (P := Tryz.prog) Tryz.underlying71]
  rw [if_pos hz]
  simp only [Sem.run_bind, s, Result.andThen_ok, ht]
  exact p
set_option maxHeartbeats 2000000 in
set_option maxRecDepth 100000 in
theorem both_p {w0 : World} {cl ct cm cs : Nat} {I : St → Prop} {x : St × Bool} (h : RB w0 bL bR hi H V K kb top X cl ct cm cs I w x) (hT : Tel H I K kb top X [bL, bR, cm]) (hS : Stays H I) {q : Int} (hq : LitOk H q) (hn : LitOk H (-q)) :
    Calls Tryz.prog 51 #[.int .i64 q, .pointer (some ⟨cs, 0, none⟩)] w fun e w' => e = .returned (.tuple #[]) ∧ RB w0 bL bR hi H V K kb top X cl ct cm cs I w' (both H x q) := by
  have HR := hidLL h
  have HI : Hid (∀ w, (Instr.index 71 (.agg #[.int .i64 q, .int .i64 (-q)]) (.int .i64 0)).run Tryz.prog w = .ok (.int .i64 q) w) := fun w => idx2 q (-q) 0 (by omega) w
  have HJ : Hid (∀ w, (Instr.index 71 (.agg #[.int .i64 q, .int .i64 (-q)]) (.int .i64 1)).run Tryz.prog w = .ok (.int .i64 (-q)) w) := fun w => idx2 q (-q) 1 (by omega) w
  have hq1 := hq.2.1
  have hq2 := hq.2.2.1
  have HF : Hid (∀ (w : World) (x : St × Bool) (q : Int) (a b : Bool), LitOk H q → RB w0 bL bR hi H V K kb top X cl ct cm cs I w x → Calls Tryz.prog 49 #[.agg #[.bool a, .bool b, .int .i64 q], .pointer (some ⟨cl, 0, none⟩), .pointer (some ⟨ct, 0, none⟩), .pointer (some ⟨cm, 0, none⟩)] w fun e w' => e = .returned (.tuple #[]) ∧ RB w0 bL bR hi H V K kb top X cl ct cm cs I w' (shw H x (pl q) a b)) := fun w x q a b hq h => h.step hT hS hq a b
  have HQ := hidLL hq
  have HN := hidLL hn
  clear h hS hq hn hT
  go_enter Tryz.func51, Tryz.ntmps51
  go_wp2_with fail
  go_loopw [9] (fun t wr => ∃ (j : Nat) (y : St × Bool), j ≤ 2 ∧ t = .int .i64 j ∧ RB w0 bL bR hi H V K kb top X cl ct cm cs I wr y ∧ y = (if j = 0 then x else if j = 1 then four H x (pl q) else both H x q)) (fun t _ => 2 - (RowKit.intOf t).toNat)
  case atStart => exact ⟨0, x, by omega, rfl, HR.out, rfl⟩
  case round =>
    obtain ⟨j, y, hj, rfl, hB, hy⟩ := hrel
    have HY := hidLL hy
    have HB := hidLL hB
    clear hy hB
    have h3 : j = 0 ∨ j = 1 ∨ j = 2 := by omega
    rcases h3 with rfl | rfl | rfl
    · have y0 := HB.out.cell
      have hix := HI.out
      go_wp2_with fail
      refine (HF.out _ _ (q) true true HQ.out HB.out).mono ?_
      rintro e w1 ⟨rfl, hB1⟩
      have y1 := hB1.cell
      have HB1 := hidLL hB1
      clear hB1
      go_wp2_with fail
      refine (HF.out _ _ (q) true false HQ.out HB1.out).mono ?_
      rintro e w2 ⟨rfl, hB2⟩
      have y2 := hB2.cell
      have HB2 := hidLL hB2
      clear hB2
      go_wp2_with fail
      refine (HF.out _ _ (q) false true HQ.out HB2.out).mono ?_
      rintro e w3 ⟨rfl, hB3⟩
      have y3 := hB3.cell
      have HB3 := hidLL hB3
      clear hB3
      go_wp2_with fail
      refine (HF.out _ _ (q) false false HQ.out HB3.out).mono ?_
      rintro e w4 ⟨rfl, hB4⟩
      have y4 := hB4.cell
      have HB4 := hidLL hB4
      clear hB4
      go_wp2
      go_roundw
      case rel => exact ⟨1, _, by omega, rfl, HB4.out, by rw [HY.out]; rfl⟩
      case measure => simp [RowKit.intOf]
    · have y0 := HB.out.cell
      have hix := HJ.out
      go_wp2_with fail
      refine (HF.out _ _ (-q) true true HN.out HB.out).mono ?_
      rintro e w1 ⟨rfl, hB1⟩
      have y1 := hB1.cell
      have HB1 := hidLL hB1
      clear hB1
      go_wp2_with fail
      refine (HF.out _ _ (-q) true false HN.out HB1.out).mono ?_
      rintro e w2 ⟨rfl, hB2⟩
      have y2 := hB2.cell
      have HB2 := hidLL hB2
      clear hB2
      go_wp2_with fail
      refine (HF.out _ _ (-q) false true HN.out HB2.out).mono ?_
      rintro e w3 ⟨rfl, hB3⟩
      have y3 := hB3.cell
      have HB3 := hidLL hB3
      clear hB3
      go_wp2_with fail
      refine (HF.out _ _ (-q) false false HN.out HB3.out).mono ?_
      rintro e w4 ⟨rfl, hB4⟩
      have y4 := hB4.cell
      have HB4 := hidLL hB4
      clear hB4
      go_wp2
      go_roundw
      case rel => exact ⟨2, _, by omega, rfl, HB4.out, by rw [HY.out]; rfl⟩
      case measure => simp [RowKit.intOf]
    · go_wp2
      go_end0
      exact ⟨rfl, by have := HB.out; rw [HY.out] at this; exact this⟩
end Go.Proofs.YtmbclnaenjcocaaGreatDoor
