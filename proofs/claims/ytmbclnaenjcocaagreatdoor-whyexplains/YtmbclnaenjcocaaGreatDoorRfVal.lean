/-
  The document's answer for rules: what is wrong with a theory (ValidTheory).
-/
import Derived.Test.YtmbclnaenjcocaaGreatDoorRfRing
import Derived.Test.YtmbclnaenjcocaaGreatDoorWhLaw
namespace Go.Proofs.YtmbclnaenjcocaaGreatDoor
open Go.RowKit

def codeK : Option Nat → Int
  | none => 0
  | some k => (k : Int) + 1
def VThR (T : Thy) (w : World) (e : Ending) (w' : World) : Prop := (∃ k, errIs T k ∧ e = .returned (.int .i64 (codeK k))) ∧ Below w.heap.size w w'
theorem bad_of {T : Thy} {x : Rl} : (!noLit T x.head && x.body.all (fun b => !noLit T b)) = !badRl T x := by
  unfold badRl
  rw [Bool.not_or, List.not_any_eq_all_not]
theorem any_take {α : Type} {f : α → Bool} {l : List α} {i : Nat} {x : α} (h : l[i]? = some x) : (l.take (i + 1)).any f = ((l.take i).any f || f x) := by
  obtain ⟨h9, e9⟩ := List.getElem?_eq_some_iff.1 h
  rw [List.take_succ_eq_append_getElem h9, e9, List.any_append]
  simp
theorem all_take {α : Type} {f : α → Bool} {l : List α} {i : Nat} {x : α} (h : l[i]? = some x) : (l.take (i + 1)).all f = ((l.take i).all f && f x) := by
  obtain ⟨h9, e9⟩ := List.getElem?_eq_some_iff.1 h
  rw [List.take_succ_eq_append_getElem h9, e9, List.all_append]
  simp
set_option maxHeartbeats 8000000 in
set_option maxRecDepth 100000 in
theorem valid_r {w : World} {B : Nat} {T : Thy} {rv ov : Value} {pb po : Nat} (h : TP w B T rv ov pb po) (hB : B ≤ w.heap.size) : Calls Tryz.prog 9 #[.pointer (some ⟨pb, po, none⟩)] w (VThR T w) := by
  obtain ⟨ra, rc, hrv, hrl, _⟩ := h.tm.r
  obtain ⟨oa, oc, hov, hol, _⟩ := h.tm.o
  have c0 := h.c0
  have c1 := h.c1
  have c2 := h.c2
  have hRd := h.tm.r
  have hOd := h.tm.o
  subst hrv hov
  have HX : Hid (∀ W, Below w.heap.size w W → TP W B T (.slice ra T.rules.length rc) (.slice oa T.over.length oc) pb po) := fun W hb => h.bel hb hB
  have HI : Hid (inB T = (!sizeB T && !T.rules.any longB)) := rfl
  have HS : Hid (sizeB T = (decide (T.names < 0) || decide (120 < T.names) || decide (120 < T.rules.length) || decide (1200 < T.over.length))) := rfl
  have HB := hidLL hB
  obtain ⟨R, hR⟩ : ∃ R, R = T.rules.length := ⟨_, rfl⟩
  obtain ⟨OO, hOO⟩ : ∃ OO, OO = T.over.length := ⟨_, rfl⟩
  obtain ⟨nm, hnm⟩ : ∃ nm, nm = T.names := ⟨_, rfl⟩
  rw [← hR, ← hOO] at HX
  rw [← hR, ← hOO, ← hnm] at HS
  rw [← hR] at c1 hrl hRd
  rw [← hOO] at c2 hol hOd
  rw [← hnm] at c0
  have HRR := hidLL (And.intro hR (And.intro hOO hnm))
  clear h hB hR hOO hnm
  have small : sizeB T = true → errIs T (some 1) := fun e => .inl ⟨rfl, by rw [HI.out, e]; rfl⟩
  have HSm := hidLL small
  clear small
  by_cases h1 : nm < 0
  · have HE := hidLL (HSm.out (by rw [HS.out, decide_eq_true h1]; rfl))
    have h1' : decide (nm < 0) = true := decide_eq_true h1
    clear HX hRd hOd
    go_enter Tryz.func9, Tryz.ntmps9
    go_wp2
    go_ret
    exact ⟨⟨some 1, HE.out, rfl⟩, Below.refl _ _⟩
  · by_cases h2 : 120 < nm
    · have HE := hidLL (HSm.out (by rw [HS.out, decide_eq_true h2]; simp))
      clear HX hRd hOd
      go_enter Tryz.func9, Tryz.ntmps9
      go_wp2
      go_ret
      exact ⟨⟨some 1, HE.out, rfl⟩, Below.refl _ _⟩
    · by_cases h3 : 120 < R
      · have HE := hidLL (HSm.out (by rw [HS.out, decide_eq_true h3]; simp))
        have h3z : (120 : Int) < R := by omega
        clear HX hRd hOd
        go_enter Tryz.func9, Tryz.ntmps9
        go_wp2
        go_ret
        exact ⟨⟨some 1, HE.out, rfl⟩, Below.refl _ _⟩
      · have h3z : ¬ (120 : Int) < R := by omega
        by_cases h4 : 1200 < OO
        · have HE := hidLL (HSm.out (by rw [HS.out, decide_eq_true h4]; simp))
          have h4z : (1200 : Int) < OO := by omega
          clear HX hRd hOd
          go_enter Tryz.func9, Tryz.ntmps9
          go_wp2
          go_ret
          exact ⟨⟨some 1, HE.out, rfl⟩, Below.refl _ _⟩
        · have HSz : Hid (sizeB T = false) := by show _ = _; rw [HS.out, decide_eq_false h1, decide_eq_false h2, decide_eq_false h3, decide_eq_false h4]; rfl
          have h4z : ¬ (1200 : Int) < OO := by omega
          have HIs : Hid (∀ W q, Below w.heap.size w W → Calls Tryz.prog 11 #[.pointer (some ⟨pb, po, none⟩), .int .i64 q] W fun e w' => e = .returned (.bool (!noLit T q)) ∧ w' = W) := fun W q hb => isLit_r (HX.out W hb).c0 (by have := HRR.out.2.2; omega) (by have := HRR.out.2.2; omega) q
          clear HS HSm hRd hOd c0 c2
          go_enter Tryz.func9, Tryz.ntmps9
          have c0 : w.cell? ⟨pb, po, none⟩ = some (.int .i64 nm) := by rw [HRR.out.2.2]; exact (HX.out w (Below.refl _ _)).c0
          have c2 := (HX.out w (Below.refl _ _)).c2
          go_wp2_with fail
          clear c0 c1 c2
          go_loopw [3, 4, 5] (fun t3 t4 t5 wr => ∃ i : Nat, i ≤ R ∧ t5 = .int .i64 i ∧ t3 = .bool ((T.rules.take i).any noKind) ∧ t4 = .bool ((T.rules.take i).any (badRl T)) ∧ (∀ j x, j < i → T.rules[j]? = some x → longB x = false) ∧ Below w.heap.size w wr) (fun _ _ t5 _ => R - (RowKit.intOf t5).toNat)
          case atStart => exact ⟨0, by omega, rfl, rfl, rfl, by intro j x hj; omega, Below.refl _ _⟩
          case round =>
            obtain ⟨i, hi, rfl, rfl, rfl, hlong, hbel⟩ := hrel
            have HLo := hidLL hlong
            have c1 := (HX.out wr hbel).c1
            clear hlong
            by_cases hlt : i < R
            · have hiz : (i : Int) < R := by omega
              obtain ⟨x, hx⟩ : ∃ x, T.rules[i]? = some x := ⟨_, List.getElem?_eq_getElem (by have := HRR.out.1; omega)⟩
              obtain ⟨g, o, bv, er, hgB, y0, y1, y2, hbd⟩ := (HX.out wr hbel).tm.r.at hx
              subst er
              have hbd2 := hbd
              obtain ⟨ba, bc, ebv, hbl, _⟩ := hbd2
              subst ebv
              obtain ⟨W6, bx, hW6, hbx, hb6, z0, z1, z2, hl6⟩ := rcopy3 wr (.int .i64 x.kind) (.int .i64 x.head) (.slice ba x.body.length bc) 62
              have hbw6 := hbel.trans (hb6.mono hbel.size)
              have hbd6 : IRd W6 B (.slice ba x.body.length bc) x.body := hbd.on fun k hk => hb6.block k (by have := HB.out; have := hbel.size; omega)
              have HBd := hidLL hbd6
              have HX6 := hidLL hx
              have HW6 := hidLL (And.intro hW6 hbx)
              have HB6 := hidLL hbw6
              have HIs6 : Hid (∀ q, Calls Tryz.prog 11 #[.pointer (some ⟨pb, po, none⟩), .int .i64 q] W6 fun e w' => e = .returned (.bool (!noLit T q)) ∧ w' = W6) := fun q => HIs.out W6 q hbw6
              have HKd : Hid (noKind x = (!(x.kind == 0) && !(x.kind == 1) && !(x.kind == 2))) := rfl
              obtain ⟨n, hn⟩ : ∃ n, n = x.body.length := ⟨_, rfl⟩
              rw [← hn] at z2 hbl HBd HW6 y2
              have HNn := hidLL hn
              clear hx hW6 hbx hb6 hbw6 hbd6 hbel hbd hn
              by_cases hlg : 120 < n
              · have hlgz : (120 : Int) < n := by omega
                have HE : Hid (errIs T (some 1)) := .inl ⟨rfl, by
                  rw [HI.out, HSz.out, List.any_eq_true.2 ⟨x, List.mem_of_getElem? HX6.out, by unfold longB; rw [← HNn.out]; exact decide_eq_true hlg⟩]; rfl⟩
                generalize x.kind = xk at *
                generalize x.head = xh at *
                go_upto_region 9 with fail
                rw [← HW6.out.1, ← HW6.out.2]
                go_wp2
                go_ret
                exact ⟨⟨some 1, HE.out, rfl⟩, HB6.out⟩
              · have hlgz : ¬ (120 : Int) < n := by omega
                have HL2 : Hid (∀ j y, j < i + 1 → T.rules[j]? = some y → longB y = false) := fun j y hj hy => by
                  rcases Nat.lt_or_ge j i with c | c
                  · exact HLo.out j y c hy
                  · obtain rfl : j = i := by omega
                    rw [HX6.out] at hy
                    obtain rfl := Option.some.inj hy
                    unfold longB
                    rw [← HNn.out]
                    exact decide_eq_false hlg
                have HA1 : Hid ((T.rules.take (i + 1)).any noKind = ((T.rules.take i).any noKind || noKind x)) := any_take HX6.out
                have HA2 : Hid ((T.rules.take (i + 1)).any (badRl T) = ((T.rules.take i).any (badRl T) || badRl T x)) := any_take HX6.out
                have HBad : Hid ((!noLit T x.head && x.body.all (fun b => !noLit T b)) = !badRl T x) := bad_of
                have HIh := hidLL (HIs6.out x.head)
                obtain ⟨K1, hK1⟩ : ∃ K1, K1 = noKind x := ⟨_, rfl⟩
                rw [← hK1] at HA1 HKd
                clear hK1
                obtain ⟨BD, hBD⟩ : ∃ BD, BD = badRl T x := ⟨_, rfl⟩
                rw [← hBD] at HA2 HBad
                clear hBD
                obtain ⟨A, hA⟩ : ∃ A, A = (T.rules.take i).any noKind := ⟨_, rfl⟩
                rw [← hA] at HA1 ⊢
                clear hA
                obtain ⟨A2, hA2⟩ : ∃ A2, A2 = (T.rules.take i).any (badRl T) := ⟨_, rfl⟩
                rw [← hA2] at HA2 ⊢
                clear hA2
                generalize x.kind = xk at *
                obtain ⟨xh, hxh⟩ : ∃ xh, xh = x.head := ⟨_, rfl⟩
                rw [← hxh] at HIh HBad z1 HW6 y1
                clear hxh
                obtain ⟨bd, hbdl⟩ : ∃ bd, bd = x.body := ⟨_, rfl⟩
                rw [← hbdl] at HBd HBad HNn
                clear hbdl
                obtain ⟨H0, hH0⟩ : ∃ H0, H0 = !noLit T xh := ⟨_, rfl⟩
                rw [← hH0] at HIh HBad
                clear hH0
                go_upto_region 9 with fail
                rw [← HW6.out.1, ← HW6.out.2]
                go_upto_region 11 with fail
                go_cut [3] (fun t3 wx => t3 = .bool (A || K1) ∧ wx = W6)
                case first =>
                  cases A with
                  | true =>
                    go_wp2
                    go_meet
                    exact ⟨rfl, rfl⟩
                  | false =>
                    by_cases e0 : xk = 0
                    · subst e0
                      go_wp2
                      go_meet
                      exact ⟨by rw [HKd.out]; rfl, rfl⟩
                    · have e0' : (xk != 0) = true := by simpa using e0
                      by_cases e1 : xk = 1
                      · subst e1
                        go_wp2
                        go_meet
                        exact ⟨by rw [HKd.out]; rfl, rfl⟩
                      · have e1' : (xk != 1) = true := by simpa using e1
                        by_cases e2 : xk = 2
                        · subst e2
                          go_wp2
                          go_meet
                          exact ⟨by rw [HKd.out]; rfl, rfl⟩
                        · have e2' : (xk != 2) = true := by simpa using e2
                          go_wp2
                          go_meet
                          exact ⟨by rw [HKd.out]; simp [e0, e1, e2], rfl⟩
                case rest =>
                  obtain ⟨ht3, ewc⟩ := hcut
                  subst ht3
                  subst wc
                  go_wp2_with fail
                  refine HIh.out.mono ?_
                  rintro e w' ⟨rfl, ew⟩
                  subst w'
                  go_wp2_with fail
                  go_loopw [7, 8] (fun t7 t8 w3 => ∃ j : Nat, j ≤ n ∧ t8 = .int .i64 j ∧ t7 = .bool (H0 && (bd.take j).all (fun b => !noLit T b)) ∧ w3 = W6) (fun _ t8 _ => n - (RowKit.intOf t8).toNat)
                  case atStart => exact ⟨0, by omega, rfl, by simp, rfl⟩
                  case round =>
                    obtain ⟨j, hj, rfl, rfl, ew⟩ := hrel
                    subst wr
                    by_cases hlt2 : j < n
                    · have hjz : (j : Int) < n := by omega
                      obtain ⟨b, hb⟩ : ∃ b, bd[j]? = some b := ⟨_, List.getElem?_eq_getElem (by have := HNn.out; omega)⟩
                      obtain ⟨g2, o2, ea2, _, v0⟩ := HBd.out.at hb
                      subst ea2
                      have HT2 : Hid ((bd.take (j + 1)).all (fun b => !noLit T b) = ((bd.take j).all (fun b => !noLit T b) && !noLit T b)) := all_take hb
                      have HIb := hidLL (HIs6.out b)
                      clear hb
                      obtain ⟨P, hP⟩ : ∃ P, P = (H0 && (bd.take j).all (fun b => !noLit T b)) := ⟨_, rfl⟩
                      have HN2 : Hid ((H0 && (bd.take (j + 1)).all (fun b => !noLit T b)) = (P && !noLit T b)) := by
                        show _ = _
                        rw [HT2.out, hP, Bool.and_assoc]
                      rw [← hP]
                      clear hP HT2
                      generalize (!noLit T b) = NB at *
                      cases P with
                      | true =>
                        go_wp2_with fail
                        refine HIb.out.mono ?_
                        rintro e w' ⟨rfl, ew⟩
                        subst w'
                        go_wp2
                        go_roundw
                        case rel => exact ⟨j + 1, by omega, by go_num, by rw [HN2.out] <;> rfl, by first | rfl | trivial⟩
                        case measure => simp [RowKit.intOf]; omega
                      | false =>
                        go_wp2_with fail
                        refine HIb.out.mono ?_
                        rintro e w' ⟨rfl, ew⟩
                        subst w'
                        go_wp2
                        go_roundw
                        case rel => exact ⟨j + 1, by omega, by go_num, by rw [HN2.out] <;> rfl, by first | rfl | trivial⟩
                        case measure => simp [RowKit.intOf]; omega
                    · have hge2 : ¬ (j : Int) < n := by omega
                      have HF : Hid ((H0 && (bd.take j).all (fun b => !noLit T b)) = !BD) := by
                        show _ = _
                        rw [List.take_of_length_le (by have := HNn.out; omega)]
                        exact HBad.out
                      generalize (H0 && (bd.take j).all (fun b => !noLit T b)) = P at *
                      cases A2 with
                      | true =>
                        go_wp2
                        go_roundw
                        case rel => exact ⟨i + 1, by omega, by go_num, by rw [HA1.out], by rw [HA2.out] <;> rfl, HL2.out, HB6.out⟩
                        case measure => simp [RowKit.intOf]; omega
                      | false =>
                        go_wp2
                        go_roundw
                        case rel => exact ⟨i + 1, by omega, by go_num, by rw [HA1.out], by rw [HA2.out, HF.out] <;> simp, HL2.out, HB6.out⟩
                        case measure => simp [RowKit.intOf]; omega
            · have hge : ¬ (i : Int) < R := by omega
              have hiR : i = R := by omega
              have HLn : Hid (T.rules.any longB = false) := by
                show _ = _
                rw [List.any_eq_false]
                intro x hx
                obtain ⟨j, hj⟩ := List.getElem?_of_mem hx
                rw [HLo.out j x (by have := (List.getElem?_eq_some_iff.1 hj).1; have := HRR.out.1; omega) hj]; decide
              have HTr : Hid (T.rules.take i = T.rules) := List.take_of_length_le (by have := HRR.out.1; omega)
              rw [HTr.out]
              have HIn : Hid (inB T = true) := by show _ = _; rw [HI.out, HSz.out, HLn.out]; rfl
              obtain ⟨KK, hKK⟩ : ∃ KK, KK = T.rules.any noKind := ⟨_, rfl⟩
              rw [← hKK]
              have HKK := hidLL hKK
              clear hKK
              have HBe := hidLL hbel
              clear hbel c1
              obtain ⟨WE, hWE⟩ : ∃ WE : World, WE = wr := ⟨_, rfl⟩
              subst hWE
              have x1 := (HX.out WE HBe.out).c1
              have x2 := (HX.out WE HBe.out).c2
              go_wp2_with fail
              go_loopw [4, 10] (fun t4 t10 w3 => ∃ k : Nat, k ≤ OO ∧ t10 = .int .i64 k ∧ t4 = .bool (T.rules.any (badRl T) || (T.over.take k).any (noPair T)) ∧ w3 = WE) (fun _ t10 _ => OO - (RowKit.intOf t10).toNat)
              case atStart => exact ⟨0, by omega, rfl, by simp, rfl⟩
              case round =>
                obtain ⟨k, hk, rfl, rfl, ew⟩ := hrel
                subst wr
                by_cases hlt2 : k < OO
                · have hkz : (k : Int) < OO := by omega
                  obtain ⟨x, hx⟩ : ∃ x, T.over[k]? = some x := ⟨_, List.getElem?_eq_getElem (by have := HRR.out.2.1; omega)⟩
                  obtain ⟨g2, o2, ea2, _, v0, v1⟩ := (HX.out WE HBe.out).tm.o.at hx
                  subst ea2
                  have HT2 : Hid ((T.over.take (k + 1)).any (noPair T) = ((T.over.take k).any (noPair T) || noPair T x)) := any_take hx
                  have HNP : Hid (noPair T x = (decide (x.1 < 0) || decide ((R : Int) ≤ x.1) || (decide (x.2 < 0) || decide ((R : Int) ≤ x.2)))) := by
                    show _ = _
                    rw [HRR.out.1]
                    rfl
                  clear hx
                  obtain ⟨xa, xb⟩ := x
                  simp only at v0 v1 HNP
                  obtain ⟨P, hP⟩ : ∃ P, P = (T.rules.any (badRl T) || (T.over.take k).any (noPair T)) := ⟨_, rfl⟩
                  have HN2 : Hid ((T.rules.any (badRl T) || (T.over.take (k + 1)).any (noPair T)) = (P || noPair T (xa, xb))) := by
                    show _ = _
                    rw [HT2.out, hP, Bool.or_assoc]
                  rw [← hP]
                  clear hP HT2
                  generalize noPair T (xa, xb) = NP at *
                  cases P with
                  | true =>
                    go_wp2
                    go_roundw
                    case rel => exact ⟨k + 1, by omega, by go_num, by rw [HN2.out] <;> rfl, by first | rfl | trivial⟩
                    case measure => simp [RowKit.intOf]; omega
                  | false =>
                    by_cases q1 : xa < 0
                    · have q1' : decide (xa < 0) = true := decide_eq_true q1
                      go_wp2
                      go_roundw
                      case rel => exact ⟨k + 1, by omega, by go_num, by rw [HN2.out, HNP.out, q1'] <;> rfl, by first | rfl | trivial⟩
                      case measure => simp [RowKit.intOf]; omega
                    · have q1' : decide (xa < 0) = false := decide_eq_false q1
                      by_cases q2 : xb < 0
                      · have q2' : decide (xb < 0) = true := decide_eq_true q2
                        go_wp2
                        go_roundw
                        case rel => exact ⟨k + 1, by omega, by go_num, by rw [HN2.out, HNP.out, q2'] <;> simp, by first | rfl | trivial⟩
                        case measure => simp [RowKit.intOf]; omega
                      · have q2' : decide (xb < 0) = false := decide_eq_false q2
                        by_cases q3 : (R : Int) ≤ xa
                        · have q3' : decide ((R : Int) ≤ xa) = true := decide_eq_true q3
                          go_wp2
                          go_roundw
                          case rel => exact ⟨k + 1, by omega, by go_num, by rw [HN2.out, HNP.out, q3'] <;> simp, by first | rfl | trivial⟩
                          case measure => simp [RowKit.intOf]; omega
                        · have q3' : decide ((R : Int) ≤ xa) = false := decide_eq_false q3
                          by_cases q4 : (R : Int) ≤ xb
                          · have q4' : decide ((R : Int) ≤ xb) = true := decide_eq_true q4
                            go_wp2
                            go_roundw
                            case rel => exact ⟨k + 1, by omega, by go_num, by rw [HN2.out, HNP.out, q4'] <;> simp, by first | rfl | trivial⟩
                            case measure => simp [RowKit.intOf]; omega
                          · have q4' : decide ((R : Int) ≤ xb) = false := decide_eq_false q4
                            go_wp2
                            go_roundw
                            case rel => exact ⟨k + 1, by omega, by go_num, by rw [HN2.out, HNP.out, q1', q2', q3', q4'] <;> rfl, by first | rfl | trivial⟩
                            case measure => simp [RowKit.intOf]; omega
                · have hge2 : ¬ (k : Int) < OO := by omega
                  have HTo : Hid (T.over.take k = T.over) := List.take_of_length_le (by have := HRR.out.2.1; omega)
                  rw [HTo.out]
                  have HN : Hid (hasN T = !(T.rules.any (badRl T) || T.over.any (noPair T))) := by show _ = _; unfold hasN; rw [Bool.not_or]
                  obtain ⟨NN, hNN⟩ : ∃ NN, NN = (T.rules.any (badRl T) || T.over.any (noPair T)) := ⟨_, rfl⟩
                  rw [← hNN] at HN ⊢
                  clear hNN
                  cases KK with
                  | true =>
                    have HE : Hid (errIs T (some 8)) := .inr (.inl ⟨rfl, HIn.out, HKK.out.symm⟩)
                    go_wp2
                    go_ret
                    exact ⟨⟨some 8, HE.out, rfl⟩, HBe.out⟩
                  | false =>
                    cases NN with
                    | true =>
                      have HE : Hid (errIs T (some 6)) := .inr (.inr (.inl ⟨rfl, HIn.out, HKK.out.symm, HN.out⟩))
                      go_wp2
                      go_ret
                      exact ⟨⟨some 6, HE.out, rfl⟩, HBe.out⟩
                    | false =>
                      have hOk : Okt T := okt_of HIn.out HN.out
                      have HRg : Hid (∀ W, Below WE.heap.size WE W → Calls Tryz.prog 21 #[.int .i64 (R : Int), .slice oa OO oc] W (RingR T W)) := fun W hW => by
                        have hbW := HBe.out.trans (hW.mono HBe.out.size)
                        have h9 := ring_r hOk (HX.out W hbW).tm.o (by have := HB.out; have := hbW.size; omega) HRR.out.2.1
                        rw [← HRR.out.1] at h9
                        exact h9
                      clear hOk
                      go_wp2_with fail
                      go_region_with (go_at_call 21; refine (HRg.out _ (by exact ⟨rfl, rfl, rfl, Nat.le_refl _, fun _ _ => rfl⟩)).mono ?_; rintro e w9 ⟨⟨b, rfl, hbr⟩, hb9⟩; have H9 := hidLL (And.intro hbr hb9); clear hbr hb9)
                      all_goals
                        cases b with
                        | true =>
                          have HE : Hid (errIs T (some 7)) := .inr (.inr (.inr (.inl ⟨rfl, HIn.out, HKK.out.symm, HN.out, H9.out.1.1 (by first | rfl | trivial)⟩)))
                          go_wp2
                          go_ret
                          exact ⟨⟨some 7, HE.out, rfl⟩, HBe.out.trans (Below.trans (b := WE.drew) ⟨rfl, rfl, rfl, Nat.le_refl _, fun _ _ => rfl⟩ (H9.out.2.mono HBe.out.size))⟩
                        | false =>
                          have HE : Hid (errIs T none) := .inr (.inr (.inr (.inr ⟨rfl, HIn.out, HKK.out.symm, HN.out, Classical.byContradiction fun e => by have := H9.out.1.2 e; simp at this⟩)))
                          go_wp2
                          go_ret
                          exact ⟨⟨none, HE.out, rfl⟩, HBe.out.trans (Below.trans (b := WE.drew) ⟨rfl, rfl, rfl, Nat.le_refl _, fun _ _ => rfl⟩ (H9.out.2.mono HBe.out.size))⟩
theorem errIs_uniq {T : Thy} {k k' : Option Nat} (h : errIs T k) (h' : errIs T k') : k = k' := by
  rcases h with ⟨a, b⟩ | ⟨a, b, c⟩ | ⟨a, b, c, d⟩ | ⟨a, b, c, d, e⟩ | ⟨a, b, c, d, e⟩ <;> rcases h' with ⟨a', b'⟩ | ⟨a', b', c'⟩ | ⟨a', b', c', d'⟩ | ⟨a', b', c', d', e'⟩ | ⟨a', b', c', d', e'⟩ <;> first | (rw [a, a']; done) | (exfalso; simp_all; done)
end Go.Proofs.YtmbclnaenjcocaaGreatDoor
