/-
  The laws of rules: few.
-/
import Derived.Test.YtmbclnaenjcocaaGreatDoorRsV3
import Derived.Test.YtmbclnaenjcocaaGreatDoorRsP8
import Derived.Test.YtmbclnaenjcocaaGreatDoorRsOrd2
namespace Go.Proofs.YtmbclnaenjcocaaGreatDoor
open Go.RowKit

/-- A slice of nothing has no room. -/
def NilV (v : Value) : Prop := ∀ n c, v = .slice none n c → c = 0
/-- A theory that a pointer leads to. -/
structure TP (w : World) (B : Nat) (T : Thy) (rv ov : Value) (pb po : Nat) : Prop where
  c0 : w.cell? ⟨pb, po, none⟩ = some (.int .i64 T.names)
  c1 : w.cell? ⟨pb, po + 1, none⟩ = some rv
  c2 : w.cell? ⟨pb, po + 2, none⟩ = some ov
  lt : pb < B
  tm : TM w B T rv ov
  nb : ∀ (g o i n c : Nat) (bv : Value), rv = .slice (some ⟨g, o, none⟩) n c → i < T.rules.length → w.cell? ⟨g, o + i * 3 + 2, none⟩ = some bv → NilV bv
  no : NilV ov
theorem TP.bel {w w' : World} {B : Nat} {T : Thy} {rv ov : Value} {pb po : Nat} (h : TP w B T rv ov pb po) {n' : Nat} (hb : Below n' w w') (hn : B ≤ n') : TP w' B T rv ov pb po :=
  ⟨(hb.cell (p := ⟨pb, po, none⟩) (Nat.lt_of_lt_of_le h.lt hn)).trans h.c0, (hb.cell (p := ⟨pb, po + 1, none⟩) (Nat.lt_of_lt_of_le h.lt hn)).trans h.c1, (hb.cell (p := ⟨pb, po + 2, none⟩) (Nat.lt_of_lt_of_le h.lt hn)).trans h.c2, h.lt, h.tm.below hb hn, fun g o i n c bv e hi hc => h.nb g o i n c bv e hi (by
    obtain ⟨a', c', e', _, hx⟩ := h.tm.r
    obtain ⟨g', o', bv', e2, h2, _⟩ := hx i _ (rl_of hi)
    rw [e] at e'
    injection e' with e3 _ _
    rw [e2] at e3
    injection e3 with e3
    injection e3 with e4 _ _
    rw [hb.cell (p := ⟨g, o + i * 3 + 2, none⟩) (by show g < n'; omega)] at hc
    exact hc), h.no⟩
def FewR (w : World) (e : Ending) (w' : World) : Prop := ∃ b, e = .returned (.bool b) ∧ w' = w
set_option maxHeartbeats 4000000 in
set_option maxRecDepth 100000 in
theorem few_w {w : World} {B : Nat} {T : Thy} {rv ov : Value} {pb po : Nat} (h : TP w B T rv ov pb po) : Calls Tryz.prog 5 #[.pointer (some ⟨pb, po, none⟩)] w (FewR w) := by
  obtain ⟨ra, rc, hrv, hrl, hrx⟩ := h.tm.r
  obtain ⟨oa, oc, hov, hol, _⟩ := h.tm.o
  have c0 := h.c0
  have c1 := h.c1
  have c2 := h.c2
  subst hrv hov
  have HX := hidLL hrx
  clear h hrx
  generalize T.names = nm at *
  obtain ⟨R, hR⟩ : ∃ R, R = T.rules.length := ⟨_, rfl⟩
  rw [← hR] at c1 hrl
  have HRR := hidLL hR
  clear hR
  generalize T.over.length = OO at *
  go_enter Tryz.func5, Tryz.ntmps5
  go_wp2_with fail
  go_loopw [3, 4] (fun s t wr => ∃ (n : Int) (i : Nat), i ≤ R ∧ s = .int .i64 n ∧ t = .int .i64 i ∧ wr = w) (fun _ t _ => R - (RowKit.intOf t).toNat)
  case atStart => exact ⟨0, 0, by omega, rfl, rfl, rfl⟩
  case round =>
    obtain ⟨n, i, hi, rfl, rfl, ew⟩ := hrel
    subst wr
    by_cases hlt : i < R
    · have hiz : (i : Int) < R := by omega
      obtain ⟨r, hr⟩ : ∃ r, T.rules[i]? = some r := ⟨_, List.getElem?_eq_getElem (by have := HRR.out; omega)⟩
      obtain ⟨g, o, bv, er, _, _, _, y2, ⟨ba, bc, ebv, hbl, _⟩⟩ := HX.out i r hr
      subst er
      subst ebv
      generalize r.body.length = bl at *
      clear hr
      go_wp2_with fail
      go_roundw
      case rel => exact ⟨_, i + 1, by omega, rfl, by go_num, by first | rfl | trivial⟩
      case measure => simp [RowKit.intOf]; omega
    · have hge : ¬ (i : Int) < R := by omega
      have Rz : (R : Int) ≤ 3518437208883 := by omega
      by_cases h1 : 3000 < n
      · go_wp2
        go_ret
        exact ⟨_, rfl, rfl⟩
      · by_cases h2 : (1300 : Int) < OO
        · go_wp2
          go_ret
          exact ⟨_, rfl, rfl⟩
        · by_cases h3 : 120 < nm
          · go_wp2
            go_ret
            exact ⟨_, rfl, rfl⟩
          · by_cases h4 : n ≤ 60 <;> by_cases h5 : (OO : Int) ≤ 60 <;> by_cases h6 : nm ≤ 12 <;> by_cases h7 : (120 : Int) < R <;> by_cases h8 : (1200 : Int) < OO <;> by_cases h9 : 120 < n <;> by_cases h10 : (R : Int) < 3
            all_goals
              first
                | (exfalso; omega)
                | (go_wp2
                   go_ret
                   exact ⟨_, rfl, rfl⟩)
end Go.Proofs.YtmbclnaenjcocaaGreatDoor
