/-
  The document's answer for rules: what can be shown, all four (written by tools/genrf2.py).
-/
import Derived.Test.YtmbclnaenjcocaaGreatDoorRfCan
namespace Go.Proofs.YtmbclnaenjcocaaGreatDoor
open Go.RowKit
variable {w : World} {T : Thy} {rv ov : Value} {B pb po sb bM : Nat} {m : Nat → Nat → Bool}
def chB (T : Thy) (m : Nat → Nat → Bool) (q : Int) (i : Nat) : Bool := (rlAt T i).head == -q && !(rlAt T i).body.any (fun b => m (pl b) 3) && !helpB T m q i
def canHoldB (T : Thy) (m : Nat → Nat → Bool) (q : Int) : Bool := m (pl q) 0 || (m (pl (-q)) 1 && helpB T m q (-1) && !(List.range T.rules.length).any (chB T m q))
def cfB (T : Thy) (m : Nat → Nat → Bool) (q : Int) (i : Nat) : Bool := (rlAt T i).head == -q && (rlAt T i).body.all (fun b => m (pl b) 2) && lostB T m q i
def canFailB (T : Thy) (m : Nat → Nat → Bool) (q : Int) : Bool := m (pl q) 1 && (m (pl (-q)) 0 || lostB T m q (-1) || (List.range T.rules.length).any (cfB T m q))

set_option maxHeartbeats 2000000 in
set_option maxRecDepth 100000 in
theorem canHold_r (h : SM w T rv ov B pb po sb bM m) (hT : Okt T) {q : Int} (hq : IsLit T q) : Calls Tryz.prog 36 #[.pointer (some ⟨sb, 0, none⟩), .int .i64 q] w (BR w (canHoldB T m q)) := by
  obtain ⟨ra, rc, hrv, hrl, _⟩ := h.tp.tm.r
  have HS := hidLL h
  have HT := hidLL hT
  have hR1 := hT.r
  obtain ⟨R, hR⟩ : ∃ R, R = T.rules.length := ⟨_, rfl⟩
  rw [← hR] at hrv hrl hR1
  have HR := hidLL hR
  have HX : Hid (∀ W, Below w.heap.size w W → W.cell? ⟨sb, 0, none⟩ = some (.pointer (some ⟨pb, po, none⟩)) ∧ W.cell? ⟨pb, po + 1, none⟩ = some (.slice ra R rc)) := fun W hb => by
    have := h.cells hb
    rw [hrv] at this
    exact this
  have HRl : Hid (∀ W i, Below w.heap.size w W → i < R → ∃ (g o : Nat) (ba : Option Addr) (bn bc : Nat), ra = some ⟨g, o, none⟩ ∧ W.cell? ⟨g, o + i * 3, none⟩ = some (.int .i64 (rlAt T i).kind) ∧ W.cell? ⟨g, o + i * 3 + 1, none⟩ = some (.int .i64 (rlAt T i).head) ∧ W.cell? ⟨g, o + i * 3 + 2, none⟩ = some (.slice ba bn bc) ∧ bn = (rlAt T i).body.length ∧ IRd W B (.slice ba bn bc) (rlAt T i).body ∧ g < w.heap.size) := fun W i hb hi => h.rule hrv hb (by omega)
  have HLit : Hid (∀ i, i < R → ∀ b, b ∈ (rlAt T i).body → IsLit T b) := fun i hi => (hT.lit i _ (rl_of (by omega))).2
  have HEv : Hid (∀ W k i (ba : Option Addr) (bn bc : Nat), Below w.heap.size w W → k < 4 → i < R → bn = (rlAt T i).body.length → IRd W B (.slice ba bn bc) (rlAt T i).body → Calls Tryz.prog 59 #[.pointer (some ⟨sb, 0, none⟩), .slice ba bn bc, .int .i64 (k : Nat)] W (BR W ((rlAt T i).body.all (fun b => m (pl b) k)))) := fun W k i ba bn bc hb hk hi hbn hv => every_r (h.bel hb) hT hk hv hbn (HLit.out i hi)
  have HSo : Hid (∀ W k i (ba : Option Addr) (bn bc : Nat), Below w.heap.size w W → k < 4 → i < R → bn = (rlAt T i).body.length → IRd W B (.slice ba bn bc) (rlAt T i).body → Calls Tryz.prog 60 #[.pointer (some ⟨sb, 0, none⟩), .slice ba bn bc, .int .i64 (k : Nat)] W (BR W ((rlAt T i).body.any (fun b => m (pl b) k)))) := fun W k i ba bn bc hb hk hi hbn hv => some_r (h.bel hb) hT hk hv hbn (HLit.out i hi)

  have HD : Hid (canHoldB T m q = (m (pl q) 0 || (m (pl (-q)) 1 && helpB T m q (-1) && !(List.range T.rules.length).any (chB T m q)))) := rfl
  have HSub : Hid (∀ W ab, Below w.heap.size w W → Calls Tryz.prog 61 #[.pointer (some ⟨sb, 0, none⟩), .int .i64 q, .int .i64 ab] W (BR W (helpB T m q ab))) := fun W ab hb => help_r (h.bel hb) hT ab
  have HH1 : Hid (Calls Tryz.prog 25 #[.pointer (some ⟨sb, 0, none⟩), .int .i64 q, .int .i64 0] w (BR w (m (pl q) 0))) := has_r h hT hq (k := 0) (by omega)
  have HH2 : Hid (∀ W, Below w.heap.size w W → Calls Tryz.prog 25 #[.pointer (some ⟨sb, 0, none⟩), .int .i64 (-q), .int .i64 1] W (BR W (m (pl (-q)) 1))) := fun W hb => has_r (h.bel hb) hT hq.neg (k := 1) (by omega)
  have hq1 : -1000 ≤ q := by have := hq.2.1; have := hT.n1; omega
  have hq2 : q ≤ 1000 := by have := hq.2.2; have := hT.n1; omega
  generalize canHoldB T m q = O at *
  clear h hT hrv hR
  generalize m (pl q) 0 = M1 at *
  generalize m (pl (-q)) 1 = M2 at *
  obtain ⟨S0, hS0⟩ : ∃ S0, S0 = helpB T m q (-1) := ⟨_, rfl⟩
  rw [← hS0] at HD
  have HS0 : Hid (∀ W, Below w.heap.size w W → Calls Tryz.prog 61 #[.pointer (some ⟨sb, 0, none⟩), .int .i64 q, .int .i64 (-1)] W (BR W S0)) := fun W hb => by rw [hS0]; exact HSub.out W (-1) hb
  clear hS0
  cases M1 with
  | true =>
    go_enter Tryz.func36, Tryz.ntmps36
    go_wp2_with fail
    refine HH1.out.mono ?_
    rintro e w1 ⟨rfl, hb1⟩
    have H2 := hidLL (HH2.out w1 hb1)
    have H1 := hidLL hb1
    clear hb1 HH1 HH2
    go_wp2
    go_ret
    exact ⟨retB (by rw [HD.out] <;> rfl), H1.out⟩
  | false =>
    cases M2 with
    | false =>
      go_enter Tryz.func36, Tryz.ntmps36
      go_wp2_with fail
      refine HH1.out.mono ?_
      rintro e w1 ⟨rfl, hb1⟩
      have H2 := hidLL (HH2.out w1 hb1)
      have H1 := hidLL hb1
      clear hb1 HH1 HH2
      go_wp2_with fail
      refine H2.out.mono ?_
      rintro e w2 ⟨rfl, hb2⟩
      have hbw2 := H1.out.trans (hb2.mono H1.out.size)
      have H3 := hidLL (HS0.out w2 hbw2)
      have HB2 := hidLL hbw2
      clear hb2 hbw2 H2
      go_wp2_with fail
      refine H3.out.mono ?_
      rintro e w3 ⟨rfl, hb3⟩
      have hbw3 := HB2.out.trans (hb3.mono HB2.out.size)
      have HB3 := hidLL hbw3
      clear hb3 hbw3 H3
      go_wp2
      go_ret
      exact ⟨retB (by rw [HD.out] <;> rfl), HB3.out⟩
    | true =>
      cases S0 with
      | false =>
        go_enter Tryz.func36, Tryz.ntmps36
        go_wp2_with fail
        refine HH1.out.mono ?_
        rintro e w1 ⟨rfl, hb1⟩
        have H2 := hidLL (HH2.out w1 hb1)
        have H1 := hidLL hb1
        clear hb1 HH1 HH2
        go_wp2_with fail
        refine H2.out.mono ?_
        rintro e w2 ⟨rfl, hb2⟩
        have hbw2 := H1.out.trans (hb2.mono H1.out.size)
        have H3 := hidLL (HS0.out w2 hbw2)
        have HB2 := hidLL hbw2
        clear hb2 hbw2 H2
        go_wp2_with fail
        refine H3.out.mono ?_
        rintro e w3 ⟨rfl, hb3⟩
        have hbw3 := HB2.out.trans (hb3.mono HB2.out.size)
        have HB3 := hidLL hbw3
        clear hb3 hbw3 H3
        go_wp2
        go_ret
        exact ⟨retB (by rw [HD.out] <;> rfl), HB3.out⟩
      | true =>
        go_enter Tryz.func36, Tryz.ntmps36
        go_wp2_with fail
        refine HH1.out.mono ?_
        rintro e w1 ⟨rfl, hb1⟩
        have H2 := hidLL (HH2.out w1 hb1)
        have H1 := hidLL hb1
        clear hb1 HH1 HH2
        go_wp2_with fail
        refine H2.out.mono ?_
        rintro e w2 ⟨rfl, hb2⟩
        have hbw2 := H1.out.trans (hb2.mono H1.out.size)
        have H3 := hidLL (HS0.out w2 hbw2)
        have HB2 := hidLL hbw2
        clear hb2 hbw2 H2
        go_wp2_with fail
        refine H3.out.mono ?_
        rintro e w3 ⟨rfl, hb3⟩
        have hbw3 := HB2.out.trans (hb3.mono HB2.out.size)
        have HB3 := hidLL hbw3
        clear hb3 hbw3 H3
        go_wp2_with fail
        go_loopw [8] (fun t wr => ∃ i : Nat, i ≤ R ∧ t = .int .i64 i ∧ Below w.heap.size w wr ∧ ∀ j, j < i → chB T m q j = false) (fun t _ => R - (RowKit.intOf t).toNat)
        case atStart => exact ⟨0, by omega, rfl, HB3.out, by intro j hj; omega⟩
        case round =>
          obtain ⟨i, hi, rfl, hbel, hall⟩ := hrel
          have HA := hidLL hall
          clear hall
          obtain ⟨x0, x1⟩ := HX.out wr hbel
          by_cases hlt : i < R
          · have hiz : (i : Int) < R := by omega
            obtain ⟨g, o, ba, bn, bc, ea, y0, y1, y2, hbn, hrd, hgw⟩ := HRl.out wr i hbel hlt
            subst ea
            obtain ⟨W6, bx, hW6, hbx, hb6, z0, z1, z2, hl6⟩ := rcopy wr (.int .i64 (rlAt T i).kind) (.int .i64 (rlAt T i).head) (.slice ba bn bc) 62
            have hbw6 := hbel.trans (hb6.mono hbel.size)
            have hrd6 : IRd W6 B (.slice ba bn bc) (rlAt T i).body := hrd.on fun k hk => hb6.block k (by have := HS.out.lt; have := hbel.size; omega)
            have hbl : bn ≤ 120 := by rw [hbn]; exact body_len HT.out i
            have HF : Hid (chB T m q i = ((rlAt T i).head == -q && !(rlAt T i).body.any (fun b => m (pl b) 3) && !helpB T m q i)) := rfl
            have HN : Hid (chB T m q i = false → ∀ j, j < i + 1 → chB T m q j = false) := fun hf => rng_next HA.out hf
            have HH : Hid (chB T m q i = true → (List.range T.rules.length).any (chB T m q) = true) := fun hf => rng_hit (by rw [← HR.out]; exact hlt) hf
            have HQ := hidLL hbw6
            have HW6 := hidLL (And.intro hW6 hbx)
            have HC : Hid (Calls Tryz.prog 60 #[.pointer (some ⟨sb, 0, none⟩), .slice ba bn bc, .int .i64 3] W6 (BR W6 ((rlAt T i).body.any (fun b => m (pl b) 3)))) := HSo.out W6 3 i ba bn bc hbw6 (by omega) hlt hbn hrd6
            have HSW : Hid (∀ W, Below w.heap.size w W → Calls Tryz.prog 61 #[.pointer (some ⟨sb, 0, none⟩), .int .i64 q, .int .i64 i] W (BR W (helpB T m q i))) := fun W hb => HSub.out W i hb
            clear hW6 hbx hb6 hbw6 hbel hrd hrd6 hbn
            obtain ⟨F, hF⟩ : ∃ F, F = chB T m q i := ⟨_, rfl⟩
            rw [← hF] at HF HN HH
            clear hF
            generalize (rlAt T i).body.any (fun b => m (pl b) 3) = C at *
            generalize helpB T m q i = V at *
            generalize (rlAt T i).kind = KD at *
            generalize (rlAt T i).head = Q at *
            go_upto_region 12 with fail
            rw [← HW6.out.1, ← HW6.out.2]
            by_cases h1 : Q = -q
            · subst h1
              cases C with
              | false =>
                cases V with
                | false =>
                  go_wp2_with fail
                  refine HC.out.mono ?_
                  rintro e w9 ⟨rfl, hb9⟩
                  have hbw9 := HQ.out.trans (hb9.mono HQ.out.size)
                  have HV := hidLL (HSW.out w9 hbw9)
                  have H9 := hidLL hbw9
                  clear hb9 hbw9 HC
                  go_wp2_with fail
                  refine HV.out.mono ?_
                  rintro e w10 ⟨rfl, hb10⟩
                  have H10 := hidLL (H9.out.trans (hb10.mono H9.out.size))
                  clear hb10
                  go_wp2
                  go_ret
                  exact ⟨retB (by rw [HD.out, HH.out (by rw [HF.out]; simp)] <;> rfl), H10.out⟩
                | true =>
                  go_wp2_with fail
                  refine HC.out.mono ?_
                  rintro e w9 ⟨rfl, hb9⟩
                  have hbw9 := HQ.out.trans (hb9.mono HQ.out.size)
                  have HV := hidLL (HSW.out w9 hbw9)
                  have H9 := hidLL hbw9
                  clear hb9 hbw9 HC
                  go_wp2_with fail
                  refine HV.out.mono ?_
                  rintro e w10 ⟨rfl, hb10⟩
                  have H10 := hidLL (H9.out.trans (hb10.mono H9.out.size))
                  clear hb10
                  go_wp2
                  go_roundw
                  case rel => exact ⟨i + 1, by omega, by go_num, H10.out, HN.out (by rw [HF.out]; simp)⟩
                  case measure => simp [RowKit.intOf]; omega
              | true =>
                cases V with
                | false =>
                  go_wp2_with fail
                  refine HC.out.mono ?_
                  rintro e w9 ⟨rfl, hb9⟩
                  have hbw9 := HQ.out.trans (hb9.mono HQ.out.size)
                  have HV := hidLL (HSW.out w9 hbw9)
                  have H9 := hidLL hbw9
                  clear hb9 hbw9 HC
                  go_wp2_with fail
                  refine HV.out.mono ?_
                  rintro e w10 ⟨rfl, hb10⟩
                  have H10 := hidLL (H9.out.trans (hb10.mono H9.out.size))
                  clear hb10
                  go_wp2
                  go_roundw
                  case rel => exact ⟨i + 1, by omega, by go_num, H10.out, HN.out (by rw [HF.out]; simp)⟩
                  case measure => simp [RowKit.intOf]; omega
                | true =>
                  go_wp2_with fail
                  refine HC.out.mono ?_
                  rintro e w9 ⟨rfl, hb9⟩
                  have hbw9 := HQ.out.trans (hb9.mono HQ.out.size)
                  have HV := hidLL (HSW.out w9 hbw9)
                  have H9 := hidLL hbw9
                  clear hb9 hbw9 HC
                  go_wp2_with fail
                  refine HV.out.mono ?_
                  rintro e w10 ⟨rfl, hb10⟩
                  have H10 := hidLL (H9.out.trans (hb10.mono H9.out.size))
                  clear hb10
                  go_wp2
                  go_roundw
                  case rel => exact ⟨i + 1, by omega, by go_num, H10.out, HN.out (by rw [HF.out]; simp)⟩
                  case measure => simp [RowKit.intOf]; omega
            · have h1n : (Q != -q) = true := by simpa using h1
              go_wp2
              go_roundw
              case rel => exact ⟨i + 1, by omega, by go_num, HQ.out, HN.out (by rw [HF.out]; simp [h1])⟩
              case measure => simp [RowKit.intOf]; omega
          · have hge : ¬ (i : Int) < R := by omega
            have HE : Hid ((List.range T.rules.length).any (chB T m q) = false) := rng_miss fun j hj => HA.out j (by have := HR.out; omega)
            have HQ := hidLL hbel
            clear hbel
            go_wp2
            go_ret
            exact ⟨retB (by rw [HD.out, HE.out] <;> rfl), HQ.out⟩
set_option maxHeartbeats 2000000 in
set_option maxRecDepth 100000 in
theorem canFail_r (h : SM w T rv ov B pb po sb bM m) (hT : Okt T) {q : Int} (hq : IsLit T q) : Calls Tryz.prog 37 #[.pointer (some ⟨sb, 0, none⟩), .int .i64 q] w (BR w (canFailB T m q)) := by
  obtain ⟨ra, rc, hrv, hrl, _⟩ := h.tp.tm.r
  have HS := hidLL h
  have HT := hidLL hT
  have hR1 := hT.r
  obtain ⟨R, hR⟩ : ∃ R, R = T.rules.length := ⟨_, rfl⟩
  rw [← hR] at hrv hrl hR1
  have HR := hidLL hR
  have HX : Hid (∀ W, Below w.heap.size w W → W.cell? ⟨sb, 0, none⟩ = some (.pointer (some ⟨pb, po, none⟩)) ∧ W.cell? ⟨pb, po + 1, none⟩ = some (.slice ra R rc)) := fun W hb => by
    have := h.cells hb
    rw [hrv] at this
    exact this
  have HRl : Hid (∀ W i, Below w.heap.size w W → i < R → ∃ (g o : Nat) (ba : Option Addr) (bn bc : Nat), ra = some ⟨g, o, none⟩ ∧ W.cell? ⟨g, o + i * 3, none⟩ = some (.int .i64 (rlAt T i).kind) ∧ W.cell? ⟨g, o + i * 3 + 1, none⟩ = some (.int .i64 (rlAt T i).head) ∧ W.cell? ⟨g, o + i * 3 + 2, none⟩ = some (.slice ba bn bc) ∧ bn = (rlAt T i).body.length ∧ IRd W B (.slice ba bn bc) (rlAt T i).body ∧ g < w.heap.size) := fun W i hb hi => h.rule hrv hb (by omega)
  have HLit : Hid (∀ i, i < R → ∀ b, b ∈ (rlAt T i).body → IsLit T b) := fun i hi => (hT.lit i _ (rl_of (by omega))).2
  have HEv : Hid (∀ W k i (ba : Option Addr) (bn bc : Nat), Below w.heap.size w W → k < 4 → i < R → bn = (rlAt T i).body.length → IRd W B (.slice ba bn bc) (rlAt T i).body → Calls Tryz.prog 59 #[.pointer (some ⟨sb, 0, none⟩), .slice ba bn bc, .int .i64 (k : Nat)] W (BR W ((rlAt T i).body.all (fun b => m (pl b) k)))) := fun W k i ba bn bc hb hk hi hbn hv => every_r (h.bel hb) hT hk hv hbn (HLit.out i hi)
  have HSo : Hid (∀ W k i (ba : Option Addr) (bn bc : Nat), Below w.heap.size w W → k < 4 → i < R → bn = (rlAt T i).body.length → IRd W B (.slice ba bn bc) (rlAt T i).body → Calls Tryz.prog 60 #[.pointer (some ⟨sb, 0, none⟩), .slice ba bn bc, .int .i64 (k : Nat)] W (BR W ((rlAt T i).body.any (fun b => m (pl b) k)))) := fun W k i ba bn bc hb hk hi hbn hv => some_r (h.bel hb) hT hk hv hbn (HLit.out i hi)

  have HD : Hid (canFailB T m q = (m (pl q) 1 && (m (pl (-q)) 0 || lostB T m q (-1) || (List.range T.rules.length).any (cfB T m q)))) := rfl
  have HSub : Hid (∀ W ab, Below w.heap.size w W → Calls Tryz.prog 62 #[.pointer (some ⟨sb, 0, none⟩), .int .i64 q, .int .i64 ab] W (BR W (lostB T m q ab))) := fun W ab hb => lost_r (h.bel hb) hT ab
  have HH1 : Hid (Calls Tryz.prog 25 #[.pointer (some ⟨sb, 0, none⟩), .int .i64 q, .int .i64 1] w (BR w (m (pl q) 1))) := has_r h hT hq (k := 1) (by omega)
  have HH2 : Hid (∀ W, Below w.heap.size w W → Calls Tryz.prog 25 #[.pointer (some ⟨sb, 0, none⟩), .int .i64 (-q), .int .i64 0] W (BR W (m (pl (-q)) 0))) := fun W hb => has_r (h.bel hb) hT hq.neg (k := 0) (by omega)
  have hq1 : -1000 ≤ q := by have := hq.2.1; have := hT.n1; omega
  have hq2 : q ≤ 1000 := by have := hq.2.2; have := hT.n1; omega
  generalize canFailB T m q = O at *
  clear h hT hrv hR
  generalize m (pl q) 1 = M1 at *
  generalize m (pl (-q)) 0 = M2 at *
  obtain ⟨S0, hS0⟩ : ∃ S0, S0 = lostB T m q (-1) := ⟨_, rfl⟩
  rw [← hS0] at HD
  have HS0 : Hid (∀ W, Below w.heap.size w W → Calls Tryz.prog 62 #[.pointer (some ⟨sb, 0, none⟩), .int .i64 q, .int .i64 (-1)] W (BR W S0)) := fun W hb => by rw [hS0]; exact HSub.out W (-1) hb
  clear hS0
  cases M1 with
  | false =>
    go_enter Tryz.func37, Tryz.ntmps37
    go_wp2_with fail
    refine HH1.out.mono ?_
    rintro e w1 ⟨rfl, hb1⟩
    have H2 := hidLL (HH2.out w1 hb1)
    have H1 := hidLL hb1
    clear hb1 HH1 HH2
    go_wp2
    go_ret
    exact ⟨retB (by rw [HD.out] <;> rfl), H1.out⟩
  | true =>
    cases M2 with
    | true =>
      go_enter Tryz.func37, Tryz.ntmps37
      go_wp2_with fail
      refine HH1.out.mono ?_
      rintro e w1 ⟨rfl, hb1⟩
      have H2 := hidLL (HH2.out w1 hb1)
      have H1 := hidLL hb1
      clear hb1 HH1 HH2
      go_wp2_with fail
      refine H2.out.mono ?_
      rintro e w2 ⟨rfl, hb2⟩
      have hbw2 := H1.out.trans (hb2.mono H1.out.size)
      have H3 := hidLL (HS0.out w2 hbw2)
      have HB2 := hidLL hbw2
      clear hb2 hbw2 H2
      go_wp2_with fail
      refine H3.out.mono ?_
      rintro e w3 ⟨rfl, hb3⟩
      have hbw3 := HB2.out.trans (hb3.mono HB2.out.size)
      have HB3 := hidLL hbw3
      clear hb3 hbw3 H3
      go_wp2
      go_ret
      exact ⟨retB (by rw [HD.out] <;> rfl), HB3.out⟩
    | false =>
      cases S0 with
      | true =>
        go_enter Tryz.func37, Tryz.ntmps37
        go_wp2_with fail
        refine HH1.out.mono ?_
        rintro e w1 ⟨rfl, hb1⟩
        have H2 := hidLL (HH2.out w1 hb1)
        have H1 := hidLL hb1
        clear hb1 HH1 HH2
        go_wp2_with fail
        refine H2.out.mono ?_
        rintro e w2 ⟨rfl, hb2⟩
        have hbw2 := H1.out.trans (hb2.mono H1.out.size)
        have H3 := hidLL (HS0.out w2 hbw2)
        have HB2 := hidLL hbw2
        clear hb2 hbw2 H2
        go_wp2_with fail
        refine H3.out.mono ?_
        rintro e w3 ⟨rfl, hb3⟩
        have hbw3 := HB2.out.trans (hb3.mono HB2.out.size)
        have HB3 := hidLL hbw3
        clear hb3 hbw3 H3
        go_wp2
        go_ret
        exact ⟨retB (by rw [HD.out] <;> rfl), HB3.out⟩
      | false =>
        go_enter Tryz.func37, Tryz.ntmps37
        go_wp2_with fail
        refine HH1.out.mono ?_
        rintro e w1 ⟨rfl, hb1⟩
        have H2 := hidLL (HH2.out w1 hb1)
        have H1 := hidLL hb1
        clear hb1 HH1 HH2
        go_wp2_with fail
        refine H2.out.mono ?_
        rintro e w2 ⟨rfl, hb2⟩
        have hbw2 := H1.out.trans (hb2.mono H1.out.size)
        have H3 := hidLL (HS0.out w2 hbw2)
        have HB2 := hidLL hbw2
        clear hb2 hbw2 H2
        go_wp2_with fail
        refine H3.out.mono ?_
        rintro e w3 ⟨rfl, hb3⟩
        have hbw3 := HB2.out.trans (hb3.mono HB2.out.size)
        have HB3 := hidLL hbw3
        clear hb3 hbw3 H3
        go_wp2_with fail
        go_loopw [8] (fun t wr => ∃ i : Nat, i ≤ R ∧ t = .int .i64 i ∧ Below w.heap.size w wr ∧ ∀ j, j < i → cfB T m q j = false) (fun t _ => R - (RowKit.intOf t).toNat)
        case atStart => exact ⟨0, by omega, rfl, HB3.out, by intro j hj; omega⟩
        case round =>
          obtain ⟨i, hi, rfl, hbel, hall⟩ := hrel
          have HA := hidLL hall
          clear hall
          obtain ⟨x0, x1⟩ := HX.out wr hbel
          by_cases hlt : i < R
          · have hiz : (i : Int) < R := by omega
            obtain ⟨g, o, ba, bn, bc, ea, y0, y1, y2, hbn, hrd, hgw⟩ := HRl.out wr i hbel hlt
            subst ea
            obtain ⟨W6, bx, hW6, hbx, hb6, z0, z1, z2, hl6⟩ := rcopy wr (.int .i64 (rlAt T i).kind) (.int .i64 (rlAt T i).head) (.slice ba bn bc) 62
            have hbw6 := hbel.trans (hb6.mono hbel.size)
            have hrd6 : IRd W6 B (.slice ba bn bc) (rlAt T i).body := hrd.on fun k hk => hb6.block k (by have := HS.out.lt; have := hbel.size; omega)
            have hbl : bn ≤ 120 := by rw [hbn]; exact body_len HT.out i
            have HF : Hid (cfB T m q i = ((rlAt T i).head == -q && (rlAt T i).body.all (fun b => m (pl b) 2) && lostB T m q i)) := rfl
            have HN : Hid (cfB T m q i = false → ∀ j, j < i + 1 → cfB T m q j = false) := fun hf => rng_next HA.out hf
            have HH : Hid (cfB T m q i = true → (List.range T.rules.length).any (cfB T m q) = true) := fun hf => rng_hit (by rw [← HR.out]; exact hlt) hf
            have HQ := hidLL hbw6
            have HW6 := hidLL (And.intro hW6 hbx)
            have HC : Hid (Calls Tryz.prog 59 #[.pointer (some ⟨sb, 0, none⟩), .slice ba bn bc, .int .i64 2] W6 (BR W6 ((rlAt T i).body.all (fun b => m (pl b) 2)))) := HEv.out W6 2 i ba bn bc hbw6 (by omega) hlt hbn hrd6
            have HSW : Hid (∀ W, Below w.heap.size w W → Calls Tryz.prog 62 #[.pointer (some ⟨sb, 0, none⟩), .int .i64 q, .int .i64 i] W (BR W (lostB T m q i))) := fun W hb => HSub.out W i hb
            clear hW6 hbx hb6 hbw6 hbel hrd hrd6 hbn
            obtain ⟨F, hF⟩ : ∃ F, F = cfB T m q i := ⟨_, rfl⟩
            rw [← hF] at HF HN HH
            clear hF
            generalize (rlAt T i).body.all (fun b => m (pl b) 2) = C at *
            generalize lostB T m q i = V at *
            generalize (rlAt T i).kind = KD at *
            generalize (rlAt T i).head = Q at *
            go_upto_region 12 with fail
            rw [← HW6.out.1, ← HW6.out.2]
            by_cases h1 : Q = -q
            · subst h1
              cases C with
              | true =>
                cases V with
                | true =>
                  go_wp2_with fail
                  refine HC.out.mono ?_
                  rintro e w9 ⟨rfl, hb9⟩
                  have hbw9 := HQ.out.trans (hb9.mono HQ.out.size)
                  have HV := hidLL (HSW.out w9 hbw9)
                  have H9 := hidLL hbw9
                  clear hb9 hbw9 HC
                  go_wp2_with fail
                  refine HV.out.mono ?_
                  rintro e w10 ⟨rfl, hb10⟩
                  have H10 := hidLL (H9.out.trans (hb10.mono H9.out.size))
                  clear hb10
                  go_wp2
                  go_ret
                  exact ⟨retB (by rw [HD.out, HH.out (by rw [HF.out]; simp)] <;> rfl), H10.out⟩
                | false =>
                  go_wp2_with fail
                  refine HC.out.mono ?_
                  rintro e w9 ⟨rfl, hb9⟩
                  have hbw9 := HQ.out.trans (hb9.mono HQ.out.size)
                  have HV := hidLL (HSW.out w9 hbw9)
                  have H9 := hidLL hbw9
                  clear hb9 hbw9 HC
                  go_wp2_with fail
                  refine HV.out.mono ?_
                  rintro e w10 ⟨rfl, hb10⟩
                  have H10 := hidLL (H9.out.trans (hb10.mono H9.out.size))
                  clear hb10
                  go_wp2
                  go_roundw
                  case rel => exact ⟨i + 1, by omega, by go_num, H10.out, HN.out (by rw [HF.out]; simp)⟩
                  case measure => simp [RowKit.intOf]; omega
              | false =>
                cases V with
                | true =>
                  go_wp2_with fail
                  refine HC.out.mono ?_
                  rintro e w9 ⟨rfl, hb9⟩
                  have hbw9 := HQ.out.trans (hb9.mono HQ.out.size)
                  have HV := hidLL (HSW.out w9 hbw9)
                  have H9 := hidLL hbw9
                  clear hb9 hbw9 HC
                  go_wp2_with fail
                  refine HV.out.mono ?_
                  rintro e w10 ⟨rfl, hb10⟩
                  have H10 := hidLL (H9.out.trans (hb10.mono H9.out.size))
                  clear hb10
                  go_wp2
                  go_roundw
                  case rel => exact ⟨i + 1, by omega, by go_num, H10.out, HN.out (by rw [HF.out]; simp)⟩
                  case measure => simp [RowKit.intOf]; omega
                | false =>
                  go_wp2_with fail
                  refine HC.out.mono ?_
                  rintro e w9 ⟨rfl, hb9⟩
                  have hbw9 := HQ.out.trans (hb9.mono HQ.out.size)
                  have HV := hidLL (HSW.out w9 hbw9)
                  have H9 := hidLL hbw9
                  clear hb9 hbw9 HC
                  go_wp2_with fail
                  refine HV.out.mono ?_
                  rintro e w10 ⟨rfl, hb10⟩
                  have H10 := hidLL (H9.out.trans (hb10.mono H9.out.size))
                  clear hb10
                  go_wp2
                  go_roundw
                  case rel => exact ⟨i + 1, by omega, by go_num, H10.out, HN.out (by rw [HF.out]; simp)⟩
                  case measure => simp [RowKit.intOf]; omega
            · have h1n : (Q != -q) = true := by simpa using h1
              go_wp2
              go_roundw
              case rel => exact ⟨i + 1, by omega, by go_num, HQ.out, HN.out (by rw [HF.out]; simp [h1])⟩
              case measure => simp [RowKit.intOf]; omega
          · have hge : ¬ (i : Int) < R := by omega
            have HE : Hid ((List.range T.rules.length).any (cfB T m q) = false) := rng_miss fun j hj => HA.out j (by have := HR.out; omega)
            have HQ := hidLL hbel
            clear hbel
            go_wp2
            go_ret
            exact ⟨retB (by rw [HD.out, HE.out] <;> rfl), HQ.out⟩
def canB (T : Thy) (m : Nat → Nat → Bool) (k : Nat) (q : Int) : Bool := if k = 0 then canSureB T m q else if k = 1 then canNotB T m q else if k = 2 then canHoldB T m q else canFailB T m q
theorem can_r (h : SM w T rv ov B pb po sb bM m) (hT : Okt T) {q : Int} (hq : IsLit T q) {k : Nat} (hk : k < 4) : Calls Tryz.prog 26 #[.pointer (some ⟨sb, 0, none⟩), .int .i64 q, .int .i64 k] w (BR w (canB T m k q)) := by
  have H0 := hidLL (canSure_r h hT (q := q))
  have H1 := hidLL (canNot_r h hT (q := q))
  have H2 := hidLL (canHold_r h hT hq)
  have H3 := hidLL (canFail_r h hT hq)
  have e : k = 0 ∨ k = 1 ∨ k = 2 ∨ k = 3 := by omega
  clear h
  rcases e with rfl | rfl | rfl | rfl
  · have HD : Hid (canB T m 0 q = canSureB T m q) := rfl
    generalize canB T m 0 q = O at *
    go_enter Tryz.func26, Tryz.ntmps26
    go_wp2_with (go_at_call 34; refine H0.out.mono ?_; rintro e w' ⟨rfl, hb⟩; have HB := hidLL hb; clear hb)
    go_ret
    exact ⟨retB HD.out.symm, HB.out⟩
  · have HD : Hid (canB T m 1 q = canNotB T m q) := rfl
    generalize canB T m 1 q = O at *
    go_enter Tryz.func26, Tryz.ntmps26
    go_wp2_with (go_at_call 35; refine H1.out.mono ?_; rintro e w' ⟨rfl, hb⟩; have HB := hidLL hb; clear hb)
    go_ret
    exact ⟨retB HD.out.symm, HB.out⟩
  · have HD : Hid (canB T m 2 q = canHoldB T m q) := rfl
    generalize canB T m 2 q = O at *
    go_enter Tryz.func26, Tryz.ntmps26
    go_wp2_with (go_at_call 36; refine H2.out.mono ?_; rintro e w' ⟨rfl, hb⟩; have HB := hidLL hb; clear hb)
    go_ret
    exact ⟨retB HD.out.symm, HB.out⟩
  · have HD : Hid (canB T m 3 q = canFailB T m q) := rfl
    generalize canB T m 3 q = O at *
    go_enter Tryz.func26, Tryz.ntmps26
    go_wp2_with (go_at_call 37; refine H3.out.mono ?_; rintro e w' ⟨rfl, hb⟩; have HB := hidLL hb; clear hb)
    go_ret
    exact ⟨retB HD.out.symm, HB.out⟩
end Go.Proofs.YtmbclnaenjcocaaGreatDoor
