/-
  The reference's among: of six signs, of none (written by tools/genfr.py).
-/
import Derived.Test.YtcfeflkhmncmjaaGreatDoorFrA
namespace Go.Proofs.YtcfeflkhmncmjaaGreatDoor
open Go.RowKit

def amI (ls : List ByteArray) (s : ByteArray) : Int := match ls.findIdx? fun x => x.toList == s.toList with
  | none => -1
  | some i => i
theorem amI_none {ls : List ByteArray} {s : ByteArray} (h : ∀ (j : Nat) x, ls[j]? = some x → (x.toList == s.toList) = false) : amI ls s = -1 := by
  unfold amI
  rw [List.findIdx?_eq_none_iff.2 (fun x hx => by
    obtain ⟨j, hj, rfl⟩ := List.mem_iff_getElem.1 hx
    exact h j _ (List.getElem?_eq_getElem hj))]
theorem amI_some {ls : List ByteArray} {s x : ByteArray} {i : Nat} (hx : ls[i]? = some x) (h1 : (x.toList == s.toList) = true) (h2 : ∀ (j : Nat) y, j < i → ls[j]? = some y → (y.toList == s.toList) = false) : amI ls s = i := by
  unfold amI
  have : ls.findIdx? (fun x => x.toList == s.toList) = some i := by
    rw [List.findIdx?_eq_some_iff_getElem]
    obtain ⟨hi, rfl⟩ := List.getElem?_eq_some_iff.1 hx
    refine ⟨hi, h1, fun j hj => ?_⟩
    have hjl : j < ls.length := by omega
    have := h2 j (ls[j]'hjl) hj (List.getElem?_eq_getElem hjl)
    simpa using this
  rw [this]
set_option maxHeartbeats 1000000 in
theorem among_r (ls : List ByteArray) (b o c : Nat) (w : World) (hk : ∀ i s, ls[i]? = some s → w.cell? ⟨b, o + i, none⟩ = some (.string s)) (hn : ls.length ≤ 1000) (s : ByteArray) :
    Calls Tryz.prog 30 #[.string s, .slice (some ⟨b, o, none⟩) ls.length c] w fun e w' => e = .returned (.int .i64 (amI ls s)) ∧ w' = w := by
  have HK := hidLL hk
  obtain ⟨n, hnn⟩ : ∃ n, n = ls.length := ⟨_, rfl⟩
  have HL := hidLL hnn
  rw [← hnn] at hn ⊢
  clear hk hnn
  go_enter Tryz.func30, Tryz.ntmps30
  go_wp2_with fail
  go_loopw [5] (fun t wr => ∃ i : Nat, i ≤ n ∧ t = .int .i64 i ∧ wr = w ∧ ∀ (j : Nat) y, j < i → ls[j]? = some y → (y.toList == s.toList) = false) (fun t _ => (n - RowKit.intOf t).toNat)
  case atStart => exact ⟨0, by omega, rfl, rfl, fun j y hj => by omega⟩
  case round =>
    obtain ⟨i, hi, rfl, rfl, hno⟩ := hrel
    have HN := hidLL hno
    clear hno
    by_cases hin : i < n
    · have hiz : (i : Int) < n := by omega
      obtain ⟨x, hx⟩ : ∃ x, ls[i]? = some x := ⟨_, List.getElem?_eq_getElem (by have := HL.out; omega)⟩
      have y0 := HK.out i x hx
      have HX := hidLL hx
      clear hx
      cases hq : (x.toList == s.toList)
      · have HQ := hidLL hq
        go_wp2
        go_roundw
        case rel =>
          refine ⟨i + 1, by omega, by go_num, trivial, fun j y hj hy => ?_⟩
          rcases Nat.lt_or_ge j i with h | h
          · exact HN.out j y h hy
          · obtain rfl : j = i := by omega
            rw [HX.out] at hy
            injection hy with hy
            subst hy
            exact HQ.out
        case measure => simp [RowKit.intOf]; omega
      · have HQ := hidLL hq
        go_wp2
        go_ret
        refine ⟨?_, rfl⟩
        rw [amI_some HX.out HQ.out HN.out]
        rfl
    · obtain rfl : i = n := by omega
      go_wp2
      go_ret
      refine ⟨?_, rfl⟩
      rw [amI_none fun j y hy => HN.out j y (by have := (List.getElem?_eq_some_iff.1 hy).1; have := HL.out; omega) hy]
      rfl
theorem among_nil (s : ByteArray) (w : World) : Calls Tryz.prog 30 #[.string s, .slice none 0 0] w fun e w' => e = .returned (.int .i64 (-1)) ∧ w' = w := by
  go_enter Tryz.func30, Tryz.ntmps30
  go_wp2_with fail
  go_loopw [5] (fun t wr => t = .int .i64 0 ∧ wr = w) (fun _ _ => 0)
  case atStart => exact ⟨rfl, rfl⟩
  case round =>
    obtain ⟨rfl, rfl⟩ := hrel
    go_wp2
    go_ret
    exact ⟨rfl, rfl⟩
/-- A row of texts that was made. -/
theorem row_cells3 (w : World) (ls : List ByteArray) (t : TypeId) : ∀ i s, ls[i]? = some s → (w.alloc (.cells (ls.map Value.string).toArray t)).cell? ⟨w.heap.size, 0 + i, none⟩ = some (.string s) := by
  intro i s h
  rw [cell_of_row _ _ _ _ _ _ (Go.Deep.blk_alloc_new w _)]
  simp [h]
def six : List ByteArray := [⟨#[60]⟩, ⟨#[60, 61]⟩, ⟨#[61]⟩, ⟨#[60, 62]⟩, ⟨#[62, 61]⟩, ⟨#[62]⟩]
theorem beq_turn (a b : List UInt8) : (a == b) = (b == a) := by
  rw [Bool.eq_iff_iff]
  simp only [beq_iff_eq]
  exact eq_comm
theorem am6_no {s : ByteArray} (h : (kdOf s).isOrd = false) : amI six s = -1 := by
  apply amI_none
  intro j x hx
  rw [beq_turn]
  match j, hx with
  | 0, hx => injection hx with hx; subst hx; rw [show (⟨#[60]⟩ : ByteArray).toList = [60] by kernel_rfl, kq_lt]; cases hk : kdOf s <;> simp_all [Kd.isOrd]
  | 1, hx => injection hx with hx; subst hx; rw [show (⟨#[60, 61]⟩ : ByteArray).toList = [60, 61] by kernel_rfl, kq_le]; cases hk : kdOf s <;> simp_all [Kd.isOrd]
  | 2, hx => injection hx with hx; subst hx; rw [show (⟨#[61]⟩ : ByteArray).toList = [61] by kernel_rfl, kq_eq]; cases hk : kdOf s <;> simp_all [Kd.isOrd]
  | 3, hx => injection hx with hx; subst hx; rw [show (⟨#[60, 62]⟩ : ByteArray).toList = [60, 62] by kernel_rfl, kq_ne]; cases hk : kdOf s <;> simp_all [Kd.isOrd]
  | 4, hx => injection hx with hx; subst hx; rw [show (⟨#[62, 61]⟩ : ByteArray).toList = [62, 61] by kernel_rfl, kq_ge]; cases hk : kdOf s <;> simp_all [Kd.isOrd]
  | 5, hx => injection hx with hx; subst hx; rw [show (⟨#[62]⟩ : ByteArray).toList = [62] by kernel_rfl, kq_gt]; cases hk : kdOf s <;> simp_all [Kd.isOrd]
  | n + 6, hx => simp [six] at hx
theorem am_yes {ls : List ByteArray} {s x : ByteArray} (hx : x ∈ ls) (h : (x.toList == s.toList) = true) : 0 ≤ amI ls s := by
  unfold amI
  cases hf : ls.findIdx? fun x => x.toList == s.toList with
  | some i => simp
  | none =>
    have := (List.findIdx?_eq_none_iff.1 hf) x hx
    rw [h] at this
    cases this
theorem am6_yes {s : ByteArray} (h : (kdOf s).isOrd = true) : 0 ≤ amI six s := by
  cases hk : kdOf s <;> rw [hk] at h <;> first | (cases h; done) | skip
  · exact am_yes (x := ⟨#[60]⟩) (by simp [six]) (by rw [beq_turn, show (⟨#[60]⟩ : ByteArray).toList = [60] by kernel_rfl, kq_lt, hk]; rfl)
  · exact am_yes (x := ⟨#[60, 61]⟩) (by simp [six]) (by rw [beq_turn, show (⟨#[60, 61]⟩ : ByteArray).toList = [60, 61] by kernel_rfl, kq_le, hk]; rfl)
  · exact am_yes (x := ⟨#[61]⟩) (by simp [six]) (by rw [beq_turn, show (⟨#[61]⟩ : ByteArray).toList = [61] by kernel_rfl, kq_eq, hk]; rfl)
  · exact am_yes (x := ⟨#[60, 62]⟩) (by simp [six]) (by rw [beq_turn, show (⟨#[60, 62]⟩ : ByteArray).toList = [60, 62] by kernel_rfl, kq_ne, hk]; rfl)
  · exact am_yes (x := ⟨#[62, 61]⟩) (by simp [six]) (by rw [beq_turn, show (⟨#[62, 61]⟩ : ByteArray).toList = [62, 61] by kernel_rfl, kq_ge, hk]; rfl)
  · exact am_yes (x := ⟨#[62]⟩) (by simp [six]) (by rw [beq_turn, show (⟨#[62]⟩ : ByteArray).toList = [62] by kernel_rfl, kq_gt, hk]; rfl)
end Go.Proofs.YtcfeflkhmncmjaaGreatDoor
namespace Go.Proofs.YtcfeflkhmncmjaaGreatDoor
open Go.RowKit

set_option maxHeartbeats 8000000 in
set_option maxRecDepth 20000 in
theorem order_no {L : List Fct} {on known : Int} {t : Tr} (hk : t.kd.isOrd = false) (hc : kidsC t.kd = none) : TruthIs L on known 26 t := by
  intro w bk bf who ka kc hf hl hn
  obtain ⟨W, hW⟩ : ∃ W, W = w.alloc (.cells #[.string t.kind, .string t.word, .int .i64 t.num, .slice ka t.kids.length kc] 25) := ⟨_, rfl⟩
  obtain ⟨ab, hab⟩ : ∃ ab, ab = w.heap.size := ⟨_, rfl⟩
  have HS : Hid (RS w W ab bk bf L who on known t ka kc) := by rw [hab]; exact RS.mk0 hf hl hn hW
  have n0 := HS.out.n0
  have n3 := HS.out.n3
  have HW := hidLL (And.intro hW hab)
  have hkd : t.kd = kdOf t.kind := rfl
  have hlen := hn.lens.1
  clear hf hl hn hW hab
  have HAm := hidLL (fun (g : Nat) (V : World) hV => among_r six g 0 6 V hV (by decide) t.kind)
  have HRc : Hid (∀ (i : Nat) (s : ByteArray), six[i]? = some s → (W.alloc (.cells #[.string ⟨#[60]⟩, .string ⟨#[60, 61]⟩, .string ⟨#[61]⟩, .string ⟨#[60, 62]⟩, .string ⟨#[62, 61]⟩, .string ⟨#[62]⟩] 9)).cell? ⟨W.heap.size, 0 + i, none⟩ = some (.string s)) := row_cells3 W six 9
  obtain ⟨V0, hV0⟩ : ∃ V0, V0 = W.alloc (.cells #[.string ⟨#[60]⟩, .string ⟨#[60, 61]⟩, .string ⟨#[61]⟩, .string ⟨#[60, 62]⟩, .string ⟨#[62, 61]⟩, .string ⟨#[62]⟩] 9) := ⟨_, rfl⟩
  have HS0 : Hid (RS w V0 ab bk bf L who on known t ka kc) := by rw [hV0]; exact HS.out.step ((Below.refl _ _).alloc (Nat.le_refl _) _)
  have HV0 := hidLL hV0
  clear hV0
  rw [ev_noC hc]
  have hm := am6_no (s := t.kind) hk
  rw [hm] at HAm
  clear hk hc hkd hm
  go_enter Tryz.func26, Tryz.ntmps26
  go_upto_region 1 with fail
  rw [← HW.out.1, ← HW.out.2]
  go_wp2_with (go_at_call 30; refine (HAm.out _ _ ?_).mono ?_; (· exact HRc.out); rintro e w9 ⟨rfl, h9⟩; subst w9; rw [← HV0.out])
  go_ret2
  exact ⟨rfl, HS0.out.bel⟩
set_option maxHeartbeats 8000000 in
set_option maxRecDepth 20000 in
theorem order_r {L : List Fct} {on known : Int} {t : Tr} (hk : t.kd.isOrd = true) (ih : ∀ (i : Nat) (u : Tr), t.kids[i]? = some u → SumIs L on known 13 u) : TruthIs L on known 26 t := by
  intro w bk bf who ka kc hf hl hn
  obtain ⟨W, hW⟩ : ∃ W, W = w.alloc (.cells #[.string t.kind, .string t.word, .int .i64 t.num, .slice ka t.kids.length kc] 25) := ⟨_, rfl⟩
  obtain ⟨ab, hab⟩ : ∃ ab, ab = w.heap.size := ⟨_, rfl⟩
  have HS : Hid (RS w W ab bk bf L who on known t ka kc) := by rw [hab]; exact RS.mk0 hf hl hn hW
  have n0 := HS.out.n0
  have n3 := HS.out.n3
  have HW := hidLL (And.intro hW hab)
  have q0 := kq_lt t.kind
  have q1 := kq_le t.kind
  have q2 := kq_eq t.kind
  have q3 := kq_ne t.kind
  have q4 := kq_ge t.kind
  have q5 := kq_gt t.kind
  have hkd : t.kd = kdOf t.kind := rfl
  have hlen := hn.lens.1
  clear hf hl hn hW hab
  have HAm := hidLL (fun (g : Nat) (V : World) hV => among_r six g 0 6 V hV (by decide) t.kind)
  have HRc : Hid (∀ (i : Nat) (s : ByteArray), six[i]? = some s → (W.alloc (.cells #[.string ⟨#[60]⟩, .string ⟨#[60, 61]⟩, .string ⟨#[61]⟩, .string ⟨#[60, 62]⟩, .string ⟨#[62, 61]⟩, .string ⟨#[62]⟩] 9)).cell? ⟨W.heap.size, 0 + i, none⟩ = some (.string s)) := row_cells3 W six 9
  obtain ⟨V0, hV0⟩ : ∃ V0, V0 = W.alloc (.cells #[.string ⟨#[60]⟩, .string ⟨#[60, 61]⟩, .string ⟨#[61]⟩, .string ⟨#[60, 62]⟩, .string ⟨#[62, 61]⟩, .string ⟨#[62]⟩] 9) := ⟨_, rfl⟩
  have HS0 : Hid (RS w V0 ab bk bf L who on known t ka kc) := by rw [hV0]; exact HS.out.step ((Below.refl _ _).alloc (Nat.le_refl _) _)
  have HV0 := hidLL hV0
  clear hV0
  obtain ⟨m, hm⟩ : ∃ m, m = amI six t.kind := ⟨_, rfl⟩
  have hm0 : 0 ≤ m := by rw [hm]; exact am6_yes hk
  rw [← hm] at HAm
  clear hm
  have hm1 : ¬ m < 0 := by omega
  have hm2 : decide (m < 0) = false := by simp; omega
  by_cases h2 : t.kids.length = 2
  · obtain ⟨a, b, hab⟩ := two_len h2
    have ha : t.kids[0]? = some a := by rw [hab]; rfl
    have hb : t.kids[1]? = some b := by rw [hab]; rfl
    obtain ⟨g, o, ka0, kc0, rfl, a0, a1, a2, a3, har⟩ := HS.out.nr.kid ha
    obtain ⟨g', o', kb0, kcb, e', b0, b1, b2, b3, hbr⟩ := HS.out.nr.kid hb
    injection e' with e'; injection e' with e1 e2
    subst e1 e2
    rw [h2] at n3
    have HL2 := hidLL h2
    have HI := hidLL ih
    have HC : Hid (∀ w2, Below W.heap.size W w2 → RS w w2 ab bk bf L who on known t (some ⟨g, o, none⟩) kc ∧ w2.cell? ⟨g, o + 4, none⟩ = some (.string b.kind) ∧ w2.cell? ⟨g, o + 5, none⟩ = some (.string b.word) ∧ w2.cell? ⟨g, o + 6, none⟩ = some (.int .i64 b.num) ∧ w2.cell? ⟨g, o + 7, none⟩ = some (.slice kb0 b.kids.length kcb) ∧ NR w2 kb0 kcb b) := fun w2 h => ⟨HS.out.step h, (h.cell (p := ⟨g, o + 4, none⟩) (cell_lt b0)).trans b0, (h.cell (p := ⟨g, o + 5, none⟩) (cell_lt b0)).trans b1, (h.cell (p := ⟨g, o + 6, none⟩) (cell_lt b0)).trans b2, (h.cell (p := ⟨g, o + 7, none⟩) (cell_lt b0)).trans b3, hbr.step h⟩
    simp only [Nat.zero_mul, Nat.add_zero] at a0 a1 a2 a3
    have HR := hidLL har
    have HAB := hidLL (And.intro ha hb)
    have v3 := HS0.out.n3
    rw [HL2.out] at v3
    have v0 := HS0.out.n0
    have HRV := hidLL (HR.out.step (show Below W.heap.size W V0 by rw [HV0.out]; exact (Below.refl _ _).alloc (Nat.le_refl _) _))
    have HC0 : Hid (∀ w2, Below V0.heap.size V0 w2 → RS w w2 ab bk bf L who on known t (some ⟨g, o, none⟩) kc ∧ w2.cell? ⟨g, o + 4, none⟩ = some (.string b.kind) ∧ w2.cell? ⟨g, o + 5, none⟩ = some (.string b.word) ∧ w2.cell? ⟨g, o + 6, none⟩ = some (.int .i64 b.num) ∧ w2.cell? ⟨g, o + 7, none⟩ = some (.slice kb0 b.kids.length kcb) ∧ NR w2 kb0 kcb b) := fun w2 h => HC.out w2 (by
      have h9 : Below W.heap.size W V0 := by rw [HV0.out]; exact (Below.refl _ _).alloc (Nat.le_refl _) _
      exact h9.trans (h.mono h9.size))
    have hb0 : Below W.heap.size W V0 := by rw [HV0.out]; exact (Below.refl _ _).alloc (Nat.le_refl _) _
    have x0 := (hb0.cell (p := ⟨g, o, none⟩) (cell_lt a0)).trans a0
    have x1 := (hb0.cell (p := ⟨g, o + 1, none⟩) (cell_lt a0)).trans a1
    have x2 := (hb0.cell (p := ⟨g, o + 2, none⟩) (cell_lt a0)).trans a2
    have x3 := (hb0.cell (p := ⟨g, o + 3, none⟩) (cell_lt a0)).trans a3
    rw [ev_ord hk hab]
    clear ih b0 b1 b2 b3 hbr har hab h2 ha hb hlen hb0 a0 a1 a2 a3
    cases hea : ev (envOf L on known) a who true with
    | err c =>
      have HA := hidLL ((HI.out 0 a HAB.out.1).err HS0.out.fl HS0.out.lk HRV.out hea)
      have hcz := ev_errz hea
      rw [show ∀ r f, bind2 (.err c) r f = .err c from fun _ _ => rfl]
      clear hea hk hkd q0 q1 q2 q3 q4 q5
      go_enter Tryz.func26, Tryz.ntmps26
      go_upto_region 1 with fail
      rw [← HW.out.1, ← HW.out.2]
      go_upto_region 3 with (go_at_call 30; refine (HAm.out _ _ ?_).mono ?_; (· exact HRc.out); rintro e w9 ⟨rfl, h9⟩; subst w9; rw [← HV0.out])
      go_wp2_with (go_at_call 13; refine HA.out.mono ?_; rintro e w2 ⟨rfl, hb2⟩; (have HS2 := hidLL (HC0.out w2 hb2)); clear hb2)
      go_ret2
      exact ⟨rfl, HS2.out.1.bel⟩
    | ok x =>
      have HA := hidLL ((HI.out 0 a HAB.out.1).ok HS0.out.fl HS0.out.lk HRV.out hea)
      cases heb : ev (envOf L on known) b who true with
      | err c =>
        have HB : Hid (∀ w2, Below V0.heap.size V0 w2 → Calls Tryz.prog 13 #[.pointer (some ⟨bk, 0, none⟩), .agg #[.string b.kind, .string b.word, .int .i64 b.num, .slice kb0 b.kids.length kcb]] w2 fun e w' => e = .returned (.tuple #[.int .i64 0, .int .i64 c]) ∧ Below w2.heap.size w2 w') := fun w2 h => (HI.out 1 b HAB.out.2).err (HC0.out w2 h).1.fl (HC0.out w2 h).1.lk (HC0.out w2 h).2.2.2.2.2 heb
        have hcz := ev_errz heb
        rw [show ∀ f, bind2 (.ok x) (.err c) f = .err c from fun _ => rfl]
        clear hea heb hk hkd q0 q1 q2 q3 q4 q5
        go_enter Tryz.func26, Tryz.ntmps26
        go_upto_region 1 with fail
        rw [← HW.out.1, ← HW.out.2]
        go_upto_region 3 with (go_at_call 30; refine (HAm.out _ _ ?_).mono ?_; (· exact HRc.out); rintro e w9 ⟨rfl, h9⟩; subst w9; rw [← HV0.out])
        go_wp2_with (first | (go_at_call 13; refine HA.out.mono ?_; rintro e w2 ⟨rfl, hb2⟩; (have HS2 := hidLL (HC0.out w2 hb2)); (have HB2 := hidLL (HB.out w2 hb2)); (obtain ⟨c0, c1, c2, c3, _⟩ := HS2.out.2); (have m0 := HS2.out.1.n0); (have m3 := HS2.out.1.n3); rw [HL2.out] at m3; clear hb2 HA) | (go_at_call 13; refine HB2.out.mono ?_; rintro e w3 ⟨rfl, hb3⟩; (have HS3 := hidLL (HS2.out.1.step hb3)); (have k0 := HS3.out.n0); clear hb3))
        go_ret2
        exact ⟨rfl, HS3.out.bel⟩
      | ok y =>
        have HB : Hid (∀ w2, Below V0.heap.size V0 w2 → Calls Tryz.prog 13 #[.pointer (some ⟨bk, 0, none⟩), .agg #[.string b.kind, .string b.word, .int .i64 b.num, .slice kb0 b.kids.length kcb]] w2 fun e w' => e = .returned (.tuple #[.int .i64 y, .int .i64 0]) ∧ Below w2.heap.size w2 w') := fun w2 h => (HI.out 1 b HAB.out.2).ok (HC0.out w2 h).1.fl (HC0.out w2 h).1.lk (HC0.out w2 h).2.2.2.2.2 heb
        obtain ⟨OB, hOB⟩ : ∃ OB, OB = ordI t.kd x y := ⟨_, rfl⟩
        rw [show resT (bind2 (.ok x) (.ok y) fun x y => .ok (trI (ordI t.kd x y))) = .tuple #[.bool OB, .int .i64 0] by rw [hOB]; cases ho : ordI t.kd x y <;> simp [bind2, resT, ho, trI]]
        clear hea heb
        rcases Int.lt_trichotomy x y with hxy | hxy | hxy
        all_goals (cases hq : t.kd <;> rw [hq] at hk <;> first | (cases hk; done) | skip)
        all_goals (rw [← hkd, hq] at q0 q1 q2 q3 q4 q5; simp only [reduceCtorEq, decide_false, decide_true] at q0 q1 q2 q3 q4 q5; rw [hq] at hOB; clear hk hkd hq)
        all_goals (rcases Bool.eq_false_or_eq_true OB with h9 | h9)
        all_goals first
          | (exfalso; simp [h9, ordI] at hOB; done)
          | (exfalso; simp [h9, ordI] at hOB; omega)
          | (subst h9)
        all_goals (
          first | (subst hxy; have d1 : ¬ x < x := by omega) | (have d1 : ¬ y < x := by omega) | (have d1 : ¬ x < y := by omega)
          clear hOB
          go_enter Tryz.func26, Tryz.ntmps26
          go_upto_region 1 with fail
          rw [← HW.out.1, ← HW.out.2]
          go_upto_region 3 with (go_at_call 30; refine (HAm.out _ _ ?_).mono ?_; (· exact HRc.out); rintro e w9 ⟨rfl, h9⟩; subst w9; rw [← HV0.out])
          go_wp2_with (first | (go_at_call 13; refine HA.out.mono ?_; rintro e w2 ⟨rfl, hb2⟩; (have HS2 := hidLL (HC0.out w2 hb2)); (have HB2 := hidLL (HB.out w2 hb2)); (obtain ⟨c0, c1, c2, c3, _⟩ := HS2.out.2); (have m0 := HS2.out.1.n0); (have m3 := HS2.out.1.n3); rw [HL2.out] at m3; clear hb2 HA) | (go_at_call 13; refine HB2.out.mono ?_; rintro e w3 ⟨rfl, hb3⟩; (have HS3 := hidLL (HS2.out.1.step hb3)); (have k0 := HS3.out.n0); clear hb3))
          go_ret2
          exact ⟨rfl, HS3.out.bel⟩)
  · rw [ev_ord_bad hk h2]
    have hz2 : ((t.kids.length : Int) != 2) = true := by rw [bne_iff_ne]; omega
    have v3 := HS0.out.n3
    clear hk hkd q0 q1 q2 q3 q4 q5 ih
    go_enter Tryz.func26, Tryz.ntmps26
    go_upto_region 1 with fail
    rw [← HW.out.1, ← HW.out.2]
    go_wp2_with (go_at_call 30; refine (HAm.out _ _ ?_).mono ?_; (· exact HRc.out); rintro e w9 ⟨rfl, h9⟩; subst w9; rw [← HV0.out])
    go_ret2
    exact ⟨rfl, HS0.out.bel⟩
end Go.Proofs.YtcfeflkhmncmjaaGreatDoor
