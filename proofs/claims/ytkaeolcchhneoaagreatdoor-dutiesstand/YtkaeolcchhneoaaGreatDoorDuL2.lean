/-
  The laws of duties: near; the package is alive.
-/
import Derived.Test.YtkaeolcchhneoaaGreatDoorDuL1
namespace Go.Proofs.YtkaeolcchhneoaaGreatDoor
open Go.RowKit Go.Sort Go.Lib

def NearR (n m : Nat) (w : World) (e : Ending) (w' : World) : Prop := (∃ b, e = .returned (.bool b) ∧ (b = true → n ≤ 202 ∧ m ≤ 402)) ∧ Below w.heap.size w w'
set_option maxHeartbeats 4000000 in
set_option maxRecDepth 10000 in
theorem near_p {B n c m cc : Nat} {a aa : Option Addr} {l : List Du} {on : Int} {w : World} (h : RdG duE w B (.slice a n c) l) (hm : m ≤ 17592186044416) :
    Calls Tryz.prog 5 #[.slice a n c, .slice aa m cc, .int .i64 on] w (NearR n m w) := by
  obtain ⟨hn, hnb⟩ := h.len
  have HR := hidIt (And.intro h hn)
  clear h hn
  by_cases h1 : 202 < n
  · have h1z : (202 : Int) < n := by omega
    go_enter Tryz.func5, Tryz.ntmps5
    go_wp2
    go_ret
    exact ⟨⟨_, rfl, fun h => (nomatch h)⟩, Below.refl _ _⟩
  have h1z : ¬ (202 : Int) < n := by omega
  by_cases h2 : 402 < m
  · have h2z : (402 : Int) < m := by omega
    go_enter Tryz.func5, Tryz.ntmps5
    go_wp2
    go_ret
    exact ⟨⟨_, rfl, fun h => (nomatch h)⟩, Below.refl _ _⟩
  have h2z : ¬ (402 : Int) < m := by omega
  go_enter Tryz.func5, Tryz.ntmps5
  go_wp2_with fail
  go_loopw [7] (fun t wr => ∃ i : Nat, i ≤ n ∧ t = .int .i64 i ∧ Below w.heap.size w wr ∧ ∃ q, wr = w.drewN q) (fun t _ => n - (RowKit.intOf t).toNat)
  case atStart => exact ⟨0, by omega, rfl, Below.refl _ _, 0, rfl⟩
  case round =>
    obtain ⟨i, hi, rfl, hb, q, rfl⟩ := hrel
    have HB := hidIt hb
    clear hb
    by_cases hlt : i < n
    · have c0 : decide ((i : Int) < n) = true := by simp; omega
      obtain ⟨d, he, _⟩ := get_in (l := l) (i := i) (by have := HR.out.2; omega)
      obtain ⟨ga, o, rfl, hg, hrg⟩ := HR.out.1.at he
      obtain ⟨e0, e1, e2, e3, e4, e5, e6, e7⟩ := du_cells hrg
      have hk : duE.k = 8 := rfl
      rw [hk] at e0 e1 e2 e3 e4 e5 e6 e7
      have hiz : (i : Int) < n := by omega
      obtain ⟨dn, dw, df, dt, de, dN, dU, dR⟩ := d
      simp only at e0 e1 e2 e3 e4 e5 e6 e7
      clear hrg he hg hk
      have HE : Hid (∀ k, Below w.heap.size w (w.drewN k)) := fun k => bdrewN (Below.refl _ _) k
      go_wp2_with fail
      all_goals first
        | (go_ret
           exact ⟨⟨_, rfl, fun h => (nomatch h)⟩, HB.out⟩)
        | (go_quiet (fail)
           go_wp2_with fail
           all_goals first
             | (go_ret
                exact ⟨⟨_, rfl, fun h => (nomatch h)⟩, HE.out _⟩)
             | (go_ret
                exact ⟨⟨_, rfl, fun h => (nomatch h)⟩, bdrewN (HE.out _) _⟩)
             | exact ⟨⟨i + 1, by omega, by go_num, HE.out _, _, rfl⟩, by simp [RowKit.intOf]; omega⟩)
    · have c0 : decide ((i : Int) < n) = false := by simp; omega
      go_wp2
      go_ret
      exact ⟨⟨_, rfl, fun _ => ⟨by omega, by omega⟩⟩, HB.out⟩
/-- The law's own duty. -/
def duA : Du := ⟨⟨#[97]⟩, ⟨#[]⟩, 1, 2, ⟨#[]⟩, 0, 0, 0⟩
theorem duA_k (F : Du → DR) : statesK F [duA] [] 5 = none := by
  have h1 : validK [duA] [] 5 = none := by decide
  unfold statesK
  rw [h1]
  rfl
theorem duA_l (ins : Du → Du) : statesL ins [] 5 [duA] = [⟨duA, 3, 3, -1⟩] := by
  have h1 : ownL [] 5 [duA] = [⟨duA, 3, 3, -1⟩] := by decide
  have h2 : isBad ⟨duA, 3, 3, -1⟩ = false := by decide
  unfold statesL
  rw [h1, othL, othL, h2]
  rfl
set_option maxHeartbeats 1000000 in
theorem due_w {F : Du → DR} {off : Int → Bool} {xs : List Int} {p : Nat → Addr} {w : World} (L : Laid w p) (hF : ∀ d, DueOK off xs p (d.til + 1) d.n d.u d.r (F d)) (hx : ∀ d x, F d = .ok x → 1 ≤ x) (hP : ∀ W, Below w.heap.size w W → Calls Tryz.prog 30 #[.pointer none] W (NewPl off xs W)) :
    Calls Tryz.prog 4 #[] w fun e w' => e = .returned (.bool true) ∧ Below w.heap.size w w' := by
  have HC : Hid (∀ T, Calls Tryz.prog 7 #[.slice (some ⟨w.heap.size, 0, none⟩) 1 1, .slice none 0 0, .pointer none, .int .i64 5] (w.alloc (.cells #[.string ⟨#[97]⟩, .string ⟨#[]⟩, .int .i64 1, .int .i64 2, .string ⟨#[]⟩, .int .i64 0, .int .i64 0, .int .i64 0] T)) fun e w' => StsR p F [duA] [] 5 e w' ∧ Below w.heap.size w w') := fun T => by
    have hb := bel1 w (.cells #[.string ⟨#[97]⟩, .string ⟨#[]⟩, .int .i64 1, .int .i64 2, .string ⟨#[]⟩, .int .i64 0, .int .i64 0, .int .i64 0] T)
    have hr : RdG duE (w.alloc (.cells #[.string ⟨#[97]⟩, .string ⟨#[]⟩, .int .i64 1, .int .i64 2, .string ⟨#[]⟩, .int .i64 0, .int .i64 0, .int .i64 0] T)) (w.heap.size + 1) (.slice (some ⟨w.heap.size, 0, none⟩) 1 1) [duA] := by
      refine ⟨_, _, rfl, by decide, fun j x hj => ⟨_, _, rfl, by omega, ?_⟩⟩
      match j, hj with
      | 0, hj =>
        obtain rfl : duA = x := by simpa using hj
        exact alloc_range w (duE.f duA) T
    refine (states_top (on := 5) hr (RdG.nil0 _ _ _ _) (by simp) (L.below hb) hF hx (fun W hW => hP W (hb.trans (hW.mono hb.size)))).mono ?_
    rintro e w' ⟨h1, h2⟩
    exact ⟨h1, hb.trans (h2.mono hb.size)⟩
  unfold StsR at HC
  rw [duA_k] at HC
  simp only [duA_l] at HC
  clear L hF hx hP
  go_enter Tryz.func4, Tryz.ntmps4
  go_wp2_with fail
  refine (HC.out _).mono ?_
  rintro e w1 ⟨⟨ra, rn, rc, rfl, hrr⟩, hb⟩
  obtain ⟨rfl, _⟩ := hrr.len
  obtain ⟨g, o, rfl, _, hrg⟩ := hrr.at (j := 0) rfl
  obtain ⟨_, s8, _⟩ := st_cells hrg
  have s8 : w1.cell? ⟨g, o + 8, none⟩ = some (.int .i64 3) := by simpa using s8
  have HB := hidIt hb
  clear hb hrr hrg
  go_wp2
  go_ret
  exact ⟨rfl, HB.out⟩
end Go.Proofs.YtkaeolcchhneoaaGreatDoor
