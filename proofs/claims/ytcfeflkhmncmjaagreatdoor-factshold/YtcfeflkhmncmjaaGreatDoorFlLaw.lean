/-
  FactsHold: the law's walk.
-/
import Derived.Test.YtcfeflkhmncmjaaGreatDoorFromA
import Derived.Test.YtcfeflkhmncmjaaGreatDoorFrT5
import Derived.Test.YtcfeflkhmncmjaaGreatDoorHoldB
import Derived.Test.YtcfeflkhmncmjaaGreatDoorFilA
namespace Go.Proofs.YtcfeflkhmncmjaaGreatDoor
open Go.RowKit Go.Extern.Stop Go.Stop Go.Extern

theorem few_short {l : List Fct} (h : fewB l = true) : (∀ x ∈ l, x.nm.size ≤ 100000) ∧ l.length ≤ 502 := by
  unfold fewB at h
  simp at h
  exact ⟨fun x hx => by have := h.1 x hx; omega, h.2⟩
set_option maxHeartbeats 2000000 in
theorem asked_l (who on known : Int) (w : World) : Calls Tryz.prog 7 #[.int .i64 who, .int .i64 on, .int .i64 known] w fun e w' => e = .returned (.int .i64 (if askB who on known then 0 else 9)) ∧ w' = w := by
  have HB := hidLL (isBody_f who)
  have HD1 := hidLL (rIsDay_f on)
  have HD2 := hidLL (rIsDay_f known)
  unfold askB
  generalize perB who = x1 at *
  generalize dyB on = x2 at *
  generalize dyB known = x3 at *
  cases x1 <;> cases x2 <;> cases x3
  all_goals (
    go_enter Tryz.func7, Tryz.ntmps7
    go_wp2_with fail
    refine (HB.out _).mono ?_
    rintro e w' ⟨rfl, h9⟩
    subst w'
    go_wp2_with fail
    refine (HD1.out _).mono ?_
    rintro e w' ⟨rfl, h9⟩
    subst w'
    go_wp2_with fail
    refine (HD2.out _).mono ?_
    rintro e w' ⟨rfl, h9⟩
    subst w'
    go_wp2
    go_ret
    exact ⟨rfl, rfl⟩)
theorem coded_err {p : Nat → Addr} {c : Nat} (h : c = 3 ∨ c = 9) : ∀ V, Laid V p → Calls Tryz.prog 11 #[errV p c, .int .i64 c] V fun e w' => e = .returned (.bool true) ∧ Below V.heap.size V w' := fun V hV => by
  rcases h with rfl | rfl
  · refine (coded3_sent 2 (by decide) 3 p V hV).mono ?_
    rintro e w' ⟨rfl, hb⟩
    exact ⟨rfl, hb⟩
  · refine (coded3_sent 8 (by decide) 9 p V hV).mono ?_
    rintro e w' ⟨rfl, hb⟩
    exact ⟨rfl, hb⟩
theorem hold_form (p : Nat → Addr) {r : Rs} (hr : ∀ c, r = .err c → c = 3 ∨ c = 9) : ∃ (hb : Bool) (er : Value) (cc : Int), (∀ w0 e w', HoldR w0 p r e w' → e = .returned (.tuple #[.bool hb, er]) ∧ Below w0.heap.size w0 w') ∧ resT r = .tuple #[.bool hb, .int .i64 cc] ∧ ∀ V, Laid V p → Calls Tryz.prog 11 #[er, .int .i64 cc] V fun e w' => e = .returned (.bool true) ∧ Below V.heap.size V w' := by
  cases r with
  | err c => exact ⟨false, errV p c, c, fun w0 e w' h => h, rfl, coded_err (hr c rfl)⟩
  | ok v =>
    refine ⟨v == 1, .nilIface, 0, fun w0 e w' h => h, rfl, fun V _ => (coded3_nil 0 V).mono ?_⟩
    rintro e w' ⟨rfl, rfl⟩
    exact ⟨rfl, Below.refl _ _⟩
theorem sum_form (p : Nat → Addr) {r : Rs} (hr : ∀ c, r = .err c → c = 3 ∨ c = 9) : ∃ (x : Int) (er : Value) (cc : Int), (∀ w0 e w', FindR w0 p r e w' → e = .returned (.tuple #[.int .i64 x, er]) ∧ Below w0.heap.size w0 w') ∧ resS r = .tuple #[.int .i64 x, .int .i64 cc] ∧ ∀ V, Laid V p → Calls Tryz.prog 11 #[er, .int .i64 cc] V fun e w' => e = .returned (.bool true) ∧ Below V.heap.size V w' := by
  cases r with
  | err c => exact ⟨0, errV p c, c, fun w0 e w' h => h, rfl, coded_err (hr c rfl)⟩
  | ok v =>
    refine ⟨v, .nilIface, 0, fun w0 e w' h => h, rfl, fun V _ => (coded3_nil 0 V).mono ?_⟩
    rintro e w' ⟨rfl, rfl⟩
    exact ⟨rfl, Below.refl _ _⟩
theorem askR_err {L : List Fct} {t : Tr} {who on known : Int} {sum : Bool} : ∀ c, askR L t who on known sum = .err c → c = 3 ∨ c = 9 := fun c h => by
  unfold askR at h
  split at h
  · exact ev_err' h
  · injection h with h
    exact .inr h.symm
/-- All that the law has, in a world. -/
structure LwS (w V : World) (ab b1 b2 : Nat) (L : List Fct) (t : Tr) (ka : Option Addr) (kc : Nat) (p : Nat → Addr) : Prop where
  bx : Bx w V ab t ka kc
  fp : ∃ B sv, FFile 61 B V b1 L sv
  fr : RFl V b2 L
  ld : Laid V p
theorem LwS.step {w V V' : World} {ab b1 b2 : Nat} {L : List Fct} {t : Tr} {ka : Option Addr} {kc : Nat} {p : Nat → Addr} (h : LwS w V ab b1 b2 L t ka kc p) (hb : Below V.heap.size V V') : LwS w V' ab b1 b2 L t ka kc p := by
  obtain ⟨B, sv, hf⟩ := h.fp
  exact ⟨h.bx.step hb, ⟨B, sv, hf.bel hb⟩, h.fr.step hb, h.ld.below hb⟩
theorem LwS.from {w V : World} {ab b1 b2 : Nat} {L : List Fct} {t : Tr} {ka : Option Addr} {kc : Nat} {p : Nat → Addr} (h : LwS w V ab b1 b2 L t ka kc p) (hO : OkT t) : Calls Tryz.prog 9 #[.agg #[.string t.kind, .string t.word, .int .i64 t.num, .slice ka t.kids.length kc]] V fun e w' => ∃ sa sc, e = .returned (.agg #[.string t.kind, .string t.word, .int .i64 t.num, .slice sa t.kids.length sc]) ∧ NdV w' (· < w'.heap.size) sa sc t ∧ Below V.heap.size V w' := by
  refine (from_l _ t rfl hO V ka kc h.bx.nr).mono ?_
  rintro e w' ⟨⟨sa, sc, rfl, hn⟩, hb⟩
  exact ⟨sa, sc, rfl, hn.stepS fun b _ q => ⟨rfl, q.2⟩, hb⟩
section
variable {w V : World} {ab b1 b2 : Nat} {L : List Fct} {t : Tr} {ka sa : Option Addr} {kc sc : Nat} {p : Nat → Addr}
theorem LwS.hold (h : LwS w V ab b1 b2 L t ka kc p) (hL : L.length ≤ 500) (hG : ∀ x ∈ L, Good x) (hn : NdV V (· < V.heap.size) sa sc t) (hc : cnt t ≤ 200) (who on known : Int) {hb : Bool} {er : Value} (hf : ∀ w0 e w', HoldR w0 p (askR L t who on known false) e w' → e = .returned (.tuple #[.bool hb, er]) ∧ Below w0.heap.size w0 w') :
    Calls Tryz.prog 8 #[.pointer (some ⟨b1, 0, none⟩), .agg #[.string t.kind, .string t.word, .int .i64 t.num, .slice sa t.kids.length sc], .int .i64 who, .int .i64 on, .int .i64 known] V fun e w' => e = .returned (.tuple #[.bool hb, er]) ∧ Below V.heap.size V w' := by
  obtain ⟨B, sv, hfp⟩ := h.fp
  exact (fhold_p hfp hG hL h.ld hn (by omega) who on known).mono fun e w' h9 => hf V e w' h9
theorem LwS.sum (h : LwS w V ab b1 b2 L t ka kc p) (hL : L.length ≤ 500) (hG : ∀ x ∈ L, Good x) (hn : NdV V (· < V.heap.size) sa sc t) (hc : cnt t ≤ 200) (who on known : Int) {x : Int} {er : Value} (hf : ∀ w0 e w', FindR w0 p (askR L t who on known true) e w' → e = .returned (.tuple #[.int .i64 x, er]) ∧ Below w0.heap.size w0 w') :
    Calls Tryz.prog 12 #[.pointer (some ⟨b1, 0, none⟩), .agg #[.string t.kind, .string t.word, .int .i64 t.num, .slice sa t.kids.length sc], .int .i64 who, .int .i64 on, .int .i64 known] V fun e w' => e = .returned (.tuple #[.int .i64 x, er]) ∧ Below V.heap.size V w' := by
  obtain ⟨B, sv, hfp⟩ := h.fp
  exact (fsum_p hfp hG hL h.ld hn (by omega) who on known).mono fun e w' h9 => hf V e w' h9
end
set_option maxHeartbeats 8000000 in
set_option maxRecDepth 100000 in
theorem hold_walk {w : World} {a ka : Option Addr} {c kc : Nat} {l : List Fct} {t : Tr} (hr : FRead w a l) (hl : l.length ≤ 9223372036854775807) (hn : NR w ka kc t) (hT : TSm t) (p : Nat → Addr) (Lw : Laid w p) (who on known : Int) :
    Calls Tryz.prog 3 #[.slice a l.length c, .agg #[.string t.kind, .string t.word, .int .i64 t.num, .slice ka t.kids.length kc], .int .i64 who, .int .i64 on, .int .i64 known] w fun e w' => e = .returned (.bool true) ∧ Below w.heap.size w w' := by
  obtain ⟨W, hW⟩ : ∃ W, W = w.alloc (.cells #[.string t.kind, .string t.word, .int .i64 t.num, .slice ka t.kids.length kc] 25) := ⟨_, rfl⟩
  obtain ⟨ab, hab⟩ : ∃ ab, ab = w.heap.size := ⟨_, rfl⟩
  have HBx : Hid (Bx w W ab t ka kc) := by rw [hab]; exact Bx.mk0 hn hW
  have HFew := hidLL (few_l (c := c) (hr.bel HBx.out.bel) hl)
  have HFw := hidLL (few_n hT HBx.out.nr)
  have HNil : Hid (∀ V, Below w.heap.size w V → Calls Tryz.prog 6 #[.slice none 0 0] V fun e w' => Below V.heap.size V w' ∧ ∃ b1 b2, e = .returned (.tuple #[.pointer (some ⟨b1, 0, none⟩), .pointer (some ⟨b2, 0, none⟩), .bool true])) := fun V hV => by
    refine (files_l (w := V) (a := none) (c := 0) (l := []) (fun i x hx => by simp at hx) (by simp) (by simp) p (Lw.below hV)).mono ?_
    rintro e w' ⟨B, b1, b2, rfl, h2⟩
    exact ⟨h2.bel, b1, b2, rfl⟩
  have HFil : Hid (fewB l = true → ∀ V : World, Bx w V ab t ka kc → Calls Tryz.prog 6 #[.slice a l.length c] V fun e w' => ∃ b1 b2, e = .returned (.tuple #[.pointer (some ⟨b1, 0, none⟩), .pointer (some ⟨b2, 0, none⟩), .bool true]) ∧ LwS w w' ab b1 b2 (filesL l) t ka kc p) := fun hf V hV => by
    refine (files_l (hr.bel hV.bel) hl (few_short hf).1 p (Lw.below hV.bel)).mono ?_
    rintro e w' ⟨B, b1, b2, rfl, h2⟩
    obtain ⟨s1, hp⟩ := h2.p
    obtain ⟨s2, hq⟩ := h2.r
    exact ⟨b1, b2, rfl, hV.step h2.bel, ⟨B, s1, hp⟩, ⟨B, s2, hq⟩, (Lw.below hV.bel).below h2.bel⟩
  have HOk := hidLL (files_ok l)
  have n0 := HBx.out.n0
  have n1 := HBx.out.n1
  have n2 := HBx.out.n2
  have n3 := HBx.out.n3
  have HW := hidLL (And.intro hW hab)
  have HAs := hidLL (asked_l who on known)
  obtain ⟨ac, hac⟩ : ∃ ac : Int, (if askB who on known then (0 : Int) else 9) = ac := ⟨_, rfl⟩
  rw [hac] at HAs
  have HAc := hidLL hac
  clear hr Lw hn hT hW hab hac
  obtain ⟨m, hm⟩ : ∃ m, m = l.length := ⟨_, rfl⟩
  rw [← hm] at hl HFew HFil ⊢
  clear hm
  generalize filesL l = L at *
  obtain ⟨fw, hfw⟩ : ∃ fw, fw = fewB l := ⟨_, rfl⟩
  rw [← hfw] at HFew HFil
  clear hfw
  go_enter Tryz.func3, Tryz.ntmps3
  go_upto_region 1 with fail
  rw [← HW.out.1, ← HW.out.2]
  go_wp2_with fail
  refine HFew.out.mono ?_
  rintro e w1 ⟨rfl, ew⟩
  subst w1
  go_wp2_with fail
  refine HFw.out.mono ?_
  rintro e w1 ⟨sm, rfl, hsm, hb1⟩
  have HB1 := hidLL (And.intro (HBx.out.step hb1) hsm)
  clear hb1 hsm n0 n1 n2 n3
  go_wp2_with fail
  refine (HNil.out w1 HB1.out.1.bel).mono ?_
  rintro e w2 ⟨hb2, b01, b02, rfl⟩
  have HB2 := hidLL (And.intro (HB1.out.1.step hb2) HB1.out.2)
  clear hb2 HFew HFw HNil
  cases fw with
  | false =>
    go_wp2
    go_ret
    exact ⟨rfl, HB2.out.1.bel⟩
  | true =>
    cases sm with
    | false =>
      go_wp2
      go_ret
      exact ⟨rfl, HB2.out.1.bel⟩
    | true =>
      by_cases h12 : 120 < m
      · have h12z : (120 : Int) < m := by omega
        have h12d : decide ((120 : Int) < m) = true := by simp; omega
        go_wp2
        go_ret
        exact ⟨rfl, HB2.out.1.bel⟩
      · have h12z : ¬ (120 : Int) < m := by omega
        have h12d : decide ((120 : Int) < m) = false := by simp; omega
        have HO := hidLL (HB2.out.2 rfl)
        have HFL := hidLL (HFil.out rfl)
        clear HFil h12
        go_wp2_with fail
        refine (HFL.out w2 HB2.out.1).mono ?_
        rintro e w3 ⟨b1, b2, rfl, h3⟩
        have H3 := hidLL h3
        clear h3
        go_wp2_with fail
        refine (HAs.out _).mono ?_
        rintro e w9 ⟨rfl, h9⟩
        subst w9
        obtain ⟨hb, er1, cc1, hF1, hF2, hF3⟩ := hold_form p (askR_err (L := L) (t := t) (who := who) (on := on) (known := known) (sum := false))
        obtain ⟨sx, er2, cc2, hG1, hG2, hG3⟩ := sum_form p (askR_err (L := L) (t := t) (who := who) (on := on) (known := known) (sum := true))
        obtain ⟨V0, hV0⟩ : ∃ V0, V0 = w3.alloc (.cells #[.pointer (some ⟨b2, 0, none⟩), .int .i64 who, .int .i64 on, .int .i64 known, .slice none 0 0, .slice none 0 0, .slice none 0 0, .int .i64 4] 37) := ⟨_, rfl⟩
        obtain ⟨bk, hbk⟩ : ∃ bk, bk = w3.heap.size := ⟨_, rfl⟩
        have HLk : Hid (RLk V0 bk b2 who on known) := by rw [hV0, hbk]; exact RLk.new
        have HV0 : Hid (LwS w V0 ab b1 b2 L t ka kc p) := by rw [hV0]; exact H3.out.step ((Below.refl _ _).alloc (Nat.le_refl _) _)
        have HE := hidLL (And.intro hV0 hbk)
        have v0 := HV0.out.bx.n0
        have v1 := HV0.out.bx.n1
        have v2 := HV0.out.bx.n2
        have v3 := HV0.out.bx.n3
        have HFr := hidLL (HV0.out.from HO.out.1)
        have HHo : Hid (∀ V sa sc, Below V0.heap.size V0 V → NdV V (· < V.heap.size) sa sc t → Calls Tryz.prog 8 #[.pointer (some ⟨b1, 0, none⟩), .agg #[.string t.kind, .string t.word, .int .i64 t.num, .slice sa t.kids.length sc], .int .i64 who, .int .i64 on, .int .i64 known] V fun e w' => e = .returned (.tuple #[.bool hb, er1]) ∧ Below V.heap.size V w') := fun V sa sc hV hN => (HV0.out.step hV).hold HOk.out.1 HOk.out.2 hN HO.out.2 who on known hF1
        have HSu : Hid (∀ V sa sc, Below V0.heap.size V0 V → NdV V (· < V.heap.size) sa sc t → Calls Tryz.prog 12 #[.pointer (some ⟨b1, 0, none⟩), .agg #[.string t.kind, .string t.word, .int .i64 t.num, .slice sa t.kids.length sc], .int .i64 who, .int .i64 on, .int .i64 known] V fun e w' => e = .returned (.tuple #[.int .i64 sx, er2]) ∧ Below V.heap.size V w') := fun V sa sc hV hN => (HV0.out.step hV).sum HOk.out.1 HOk.out.2 hN HO.out.2 who on known hG1
        have HC1 : Hid (∀ V, Below V0.heap.size V0 V → Calls Tryz.prog 11 #[er1, .int .i64 cc1] V fun e w' => e = .returned (.bool true) ∧ Below V.heap.size V w') := fun V hV => hF3 V (HV0.out.step hV).ld
        have HC2 : Hid (∀ V, Below V0.heap.size V0 V → Calls Tryz.prog 11 #[er2, .int .i64 cc2] V fun e w' => e = .returned (.bool true) ∧ Below V.heap.size V w') := fun V hV => hG3 V (HV0.out.step hV).ld
        have HCl : Hid (∀ V, Below V0.heap.size V0 V → V.cell? ⟨ab, 0, none⟩ = some (.string t.kind) ∧ V.cell? ⟨ab, 1, none⟩ = some (.string t.word) ∧ V.cell? ⟨ab, 2, none⟩ = some (.int .i64 t.num) ∧ V.cell? ⟨ab, 3, none⟩ = some (.slice ka t.kids.length kc) ∧ Below w.heap.size w V) := fun V hV => by
          have h9 := (HV0.out.step hV).bx
          exact ⟨h9.n0, h9.n1, h9.n2, h9.n3, h9.bel⟩
        have HTr : Hid (askB who on known = true → ∀ V, Below V0.heap.size V0 V → Calls Tryz.prog 10 #[.pointer (some ⟨bk, 0, none⟩), .agg #[.string t.kind, .string t.word, .int .i64 t.num, .slice ka t.kids.length kc]] V fun e w' => e = .returned (.tuple #[.bool hb, .int .i64 cc1]) ∧ Below V.heap.size V w') := fun ha V hV => by
          have h9 := HV0.out.step hV
          refine ((look_all HOk.out.1 HOk.out.2 _ t rfl).1 V bk b2 who ka kc h9.fr (HLk.out.step hV) h9.bx.nr).mono ?_
          rintro e w' ⟨rfl, h10⟩
          unfold askR at hF2
          rw [if_pos ha] at hF2
          exact ⟨by rw [hF2], h10⟩
        have HTs : Hid (askB who on known = true → ∀ V, Below V0.heap.size V0 V → Calls Tryz.prog 13 #[.pointer (some ⟨bk, 0, none⟩), .agg #[.string t.kind, .string t.word, .int .i64 t.num, .slice ka t.kids.length kc]] V fun e w' => e = .returned (.tuple #[.int .i64 sx, .int .i64 cc2]) ∧ Below V.heap.size V w') := fun ha V hV => by
          have h9 := HV0.out.step hV
          refine ((look_all HOk.out.1 HOk.out.2 _ t rfl).2 V bk b2 who ka kc h9.fr (HLk.out.step hV) h9.bx.nr).mono ?_
          rintro e w' ⟨rfl, h10⟩
          unfold askR at hG2
          rw [if_pos ha] at hG2
          exact ⟨by rw [hG2], h10⟩
        have HNo : Hid (askB who on known = false → hb = false ∧ cc1 = 9 ∧ sx = 0 ∧ cc2 = 9) := fun ha => by
          unfold askR at hF2 hG2
          rw [if_neg (by rw [ha]; decide)] at hF2 hG2
          simp only [resT, resS, Value.tuple.injEq, Array.mk.injEq, List.cons.injEq, and_true, Value.bool.injEq, Value.int.injEq, true_and] at hF2 hG2
          exact ⟨hF2.1.symm, hF2.2.symm, hG2.1.symm, hG2.2.symm⟩
        clear hF1 hF2 hF3 hG1 hG2 hG3 hV0 hbk HFL HAs
        go_upto_region 11 with fail
        rw [← HE.out.1, ← HE.out.2]
        go_wp2_with fail
        refine HFr.out.mono ?_
        rintro e w4 ⟨sa, sc, rfl, hn4, hb4⟩
        have HB4 := hidLL hb4
        have HH4 := hidLL (HHo.out w4 sa sc hb4 hn4)
        clear hn4 hb4 v0 v1 v2 v3
        go_wp2_with fail
        refine HH4.out.mono ?_
        rintro e w5 ⟨rfl, hb5⟩
        have HB5 := hidLL (HB4.out.trans (hb5.mono HB4.out.size))
        obtain ⟨z0, z1, z2, z3, _⟩ := HCl.out w5 HB5.out
        clear hb5
        cases hq : askB who on known with
        | true =>
          have HTr2 := hidLL (HTr.out hq w5 HB5.out)
          have HTs2 := hidLL (HTs.out hq)
          obtain rfl : ac = 0 := by rw [← HAc.out, hq]; rfl
          clear hq HTr HTs HNo HAc
          go_wp2_with fail
          refine HTr2.out.mono ?_
          rintro e w6 ⟨rfl, hb6⟩
          have HB6 := hidLL (HB5.out.trans (hb6.mono HB5.out.size))
          clear hb6 z0 z1 z2 z3
          go_wp2_with fail
          refine (HC1.out w6 HB6.out).mono ?_
          rintro e w7 ⟨rfl, hb7⟩
          have HB7 := hidLL (HB6.out.trans (hb7.mono HB6.out.size))
          obtain ⟨y0, y1, y2, y3, _⟩ := HCl.out w7 HB7.out
          have HFr2 := hidLL ((HV0.out.step HB7.out).from HO.out.1)
          clear hb7
          have hne : (hb != hb) = false := by simp
          go_wp2_with fail
          refine HFr2.out.mono ?_
          rintro e w8 ⟨sa2, sc2, rfl, hn8, hb8⟩
          have HB8 := hidLL (HB7.out.trans (hb8.mono HB7.out.size))
          have HS8 := hidLL (HSu.out w8 sa2 sc2 HB8.out hn8)
          clear hn8 hb8 y0 y1 y2 y3
          go_wp2_with fail
          refine HS8.out.mono ?_
          rintro e w9 ⟨rfl, hb9⟩
          have HB9 := hidLL (HB8.out.trans (hb9.mono HB8.out.size))
          obtain ⟨x0, x1, x2, x3, _⟩ := HCl.out w9 HB9.out
          have HTs3 := hidLL (HTs2.out w9 HB9.out)
          clear hb9
          go_wp2_with fail
          refine HTs3.out.mono ?_
          rintro e w10 ⟨rfl, hb10⟩
          have HB10 := hidLL (HB9.out.trans (hb10.mono HB9.out.size))
          clear hb10 x0 x1 x2 x3
          go_wp2_with fail
          refine (HC2.out w10 HB10.out).mono ?_
          rintro e w11 ⟨rfl, hb11⟩
          have HB11 := hidLL (HCl.out w11 (HB10.out.trans (hb11.mono HB10.out.size))).2.2.2.2
          clear hb11
          have hee : (sx == sx) = true := by simp
          go_wp2
          go_ret
          exact ⟨rfl, HB11.out⟩
        | false =>
          obtain ⟨rfl, rfl, rfl, rfl⟩ := HNo.out hq
          obtain rfl : ac = 9 := by rw [← HAc.out, hq]; rfl
          clear hq HTr HTs HNo HAc
          go_wp2_with fail
          refine (HC1.out w5 HB5.out).mono ?_
          rintro e w7 ⟨rfl, hb7⟩
          have HB7 := hidLL (HB5.out.trans (hb7.mono HB5.out.size))
          obtain ⟨y0, y1, y2, y3, _⟩ := HCl.out w7 HB7.out
          have HFr2 := hidLL ((HV0.out.step HB7.out).from HO.out.1)
          clear hb7 z0 z1 z2 z3
          go_wp2_with fail
          refine HFr2.out.mono ?_
          rintro e w8 ⟨sa2, sc2, rfl, hn8, hb8⟩
          have HB8 := hidLL (HB7.out.trans (hb8.mono HB7.out.size))
          have HS8 := hidLL (HSu.out w8 sa2 sc2 HB8.out hn8)
          clear hn8 hb8 y0 y1 y2 y3
          go_wp2_with fail
          refine HS8.out.mono ?_
          rintro e w9 ⟨rfl, hb9⟩
          have HB9 := hidLL (HB8.out.trans (hb9.mono HB8.out.size))
          clear hb9
          go_wp2_with fail
          refine (HC2.out w9 HB9.out).mono ?_
          rintro e w11 ⟨rfl, hb11⟩
          have HB11 := hidLL (HCl.out w11 (HB9.out.trans (hb11.mono HB9.out.size))).2.2.2.2
          clear hb11
          go_wp2
          go_ret
          exact ⟨rfl, HB11.out⟩
end Go.Proofs.YtcfeflkhmncmjaaGreatDoor
