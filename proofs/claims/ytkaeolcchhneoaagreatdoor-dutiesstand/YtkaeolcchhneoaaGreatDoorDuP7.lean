/-
  Duties, the program: States.
-/
import Derived.Test.YtkaeolcchhneoaaGreatDoorDuP6
namespace Go.Proofs.YtkaeolcchhneoaaGreatDoor
open Go.RowKit Go.Sort Go.Lib

theorem validK_none {l : List Du} {ev : List Ev} {on : Int} (h : validK l ev on = none) : l.length ≤ 200 ∧ ev.length ≤ 400 ∧ (1 ≤ on ∧ on ≤ 3652059) ∧ (∀ d, d ∈ l → (1 ≤ d.frm ∧ d.frm ≤ d.til ∧ d.til ≤ 3652059)) ∧ (∀ e, e ∈ ev → 1 ≤ e.day ∧ e.day ≤ 3652059) := by
  unfold validK at h
  split at h
  · cases h
  · split at h
    · cases h
    · rename_i h1 h2
      have h2 : (!isDayB on || l.any wrongB || ev.any neverB) = false := by simpa using h2
      rw [Bool.or_eq_false_iff, Bool.or_eq_false_iff] at h2
      obtain ⟨⟨h3, h4⟩, h5⟩ := h2
      have h3 : isDayB on = true := by simpa using h3
      refine ⟨by omega, by omega, isDayB_iff.1 h3, fun d hd => ?_, fun e he => ?_⟩
      · have h6 := List.any_eq_false.1 h4 d hd
        have h6 : wrongB d = false := by simpa using h6
        unfold wrongB at h6
        rw [Bool.or_eq_false_iff, Bool.or_eq_false_iff] at h6
        obtain ⟨⟨h7, h8⟩, h9⟩ := h6
        have h7 : isDayB d.frm = true := by simpa using h7
        have h8 : isDayB d.til = true := by simpa using h8
        have h9 : ¬ d.til < d.frm := by simpa using h9
        have := isDayB_iff.1 h7
        have := isDayB_iff.1 h8
        omega
      · have h6 := List.any_eq_false.1 h5 e he
        have h6 : neverB e = false := by simpa using h6
        unfold neverB at h6
        have h6 : isDayB e.day = true := by simpa using h6
        exact isDayB_iff.1 h6
def statesK (F : Du → DR) (l : List Du) (ev : List Ev) (on : Int) : Option Nat :=
  match validK l ev on with
  | some k => some k
  | none => insK F l
def StsR (p : Nat → Addr) (F : Du → DR) (l : List Du) (ev : List Ev) (on : Int) (e : Ending) (w' : World) : Prop :=
  match statesK F l ev on with
  | some k => e = .returned (.tuple #[.slice none 0 0, .iface 173 (.pointer (some (p k)))])
  | none => ∃ a' n' c', e = .returned (.tuple #[.slice a' n' c', .nilIface]) ∧ RdG stE w' w'.heap.size (.slice a' n' c') (statesL (insD F) ev on l)
theorem insD_til {F : Du → DR} {d : Du} (h : ∀ x, F d = .ok x → 1 ≤ x) (hd : 1 ≤ d.til) : -1000000000 ≤ (insD F d).til := by
  unfold insD
  cases hF : F d with
  | ok x =>
    have := h x hF
    show _ ≤ x
    omega
  | er k =>
    show _ ≤ d.til
    omega
set_option maxHeartbeats 2000000 in
theorem states_top {B n c m cc : Nat} {a aa ca : Option Addr} {l : List Du} {ev : List Ev} {F : Du → DR} {off : Int → Bool} {xs : List Int} {p : Nat → Addr} {on : Int} {w : World} (h : RdG duE w B (.slice a n c) l) (he : RdG evE w B (.slice aa m cc) ev) (hB : B ≤ w.heap.size) (L : Laid w p) (hF : ∀ d, DueOK off xs p (d.til + 1) d.n d.u d.r (F d)) (hx : ∀ d x, F d = .ok x → 1 ≤ x) (hP : ∀ W, Below w.heap.size w W → Calls Tryz.prog 30 #[.pointer ca] W (NewPl off xs W)) :
    Calls Tryz.prog 7 #[.slice a n c, .slice aa m cc, .pointer ca, .int .i64 on] w fun e w' => StsR p F l ev on e w' ∧ Below w.heap.size w w' := by
  have HV := hidIt (valid_p (on := on) h he hB L)
  cases hk : validK l ev on with
  | some k =>
    have HS : Hid (statesK F l ev on = some k) := by
      show _ = _
      unfold statesK
      rw [hk]
    rw [hk] at HV
    unfold errV at HV
    clear h he L hF hx hP hk
    go_enter Tryz.func7, Tryz.ntmps7
    go_wp2_with fail
    refine HV.out.mono ?_
    rintro e w1 ⟨rfl, hb⟩
    have HB := hidIt hb
    clear hb
    go_wp2
    go_ret2
    refine ⟨?_, HB.out⟩
    unfold StsR
    rw [HS.out]
    rfl
  | none =>
    obtain ⟨l1, l2, l3, l4, l5⟩ := validK_none hk
    have hn : n ≤ 200 := by have := h.len.1; omega
    have hm : m ≤ 400 := by have := he.len.1; omega
    have HI : Hid (∀ W, Below w.heap.size w W → Calls Tryz.prog 17 #[.slice a n c, .pointer ca] W fun e w' => InsR p n F l e w' ∧ Below W.heap.size W w') := fun W hW => insteadOf_p (h.below (hW.mono hB)) (Nat.le_trans hB hW.size) hn (L.below hW) (fun d _ => hF d) (fun d hd => by have := l4 d hd; omega) (hP W hW)
    rw [hk] at HV
    unfold errV at HV
    cases hk2 : insK F l with
    | some k =>
      have HS : Hid (statesK F l ev on = some k) := by
        show _ = _
        unfold statesK
        rw [hk]
        exact hk2
      unfold InsR at HI
      rw [hk2] at HI
      clear h he L hF hx hP hk hk2
      go_enter Tryz.func7, Tryz.ntmps7
      go_wp2_with fail
      refine HV.out.mono ?_
      rintro e w1 ⟨rfl, hb⟩
      have HB := hidIt hb
      clear hb
      go_wp2_with fail
      refine (HI.out _ HB.out).mono ?_
      rintro e w2 ⟨hr, hb⟩
      have hr : e = _ := hr
      subst hr
      have HB2 := hidIt (HB.out.trans (hb.mono HB.out.size))
      clear hb
      go_wp2
      go_ret2
      refine ⟨?_, HB2.out⟩
      unfold StsR
      rw [HS.out]
      rfl
    | none =>
      have HS : Hid (statesK F l ev on = none) := by
        show _ = _
        unfold statesK
        rw [hk]
        exact hk2
      unfold InsR at HI
      rw [hk2] at HI
      have HR := hidIt (And.intro h he)
      have HT : Hid ((∀ d, d ∈ l → -1000000000 ≤ d.til) ∧ ∀ d, d ∈ l → -1000000000 ≤ (insD F d).til) := ⟨fun d hd => by have := l4 d hd; omega, fun d hd => insD_til (hx d) (by have := l4 d hd; omega)⟩
      clear h he L hF hx hP hk hk2 l1 l2 l4 l5
      go_enter Tryz.func7, Tryz.ntmps7
      go_wp2_with fail
      refine HV.out.mono ?_
      rintro e w1 ⟨rfl, hb⟩
      have HB := hidIt hb
      clear hb
      go_wp2_with fail
      refine (HI.out _ HB.out).mono ?_
      rintro e w2 ⟨hr, hb⟩
      obtain ⟨g, hr, hrd⟩ : ∃ g, e = .returned (.tuple #[.slice (some ⟨g, 0, none⟩) n n, .nilIface]) ∧ InsRd w2 w2.heap.size g (insD F) l := hr
      subst hr
      have HB2 := hidIt (HB.out.trans (hb.mono HB.out.size))
      have HG := hidIt hrd
      clear hb hrd
      go_wp2_with fail
      refine (pastOf_p on (HR.out.2.below (HB2.out.mono hB)) (Nat.le_trans hB HB2.out.size) hm).mono ?_
      rintro e w3 ⟨⟨pa, pn, pc, rfl, hpr⟩, hb⟩
      have HB3 := hidIt (HB2.out.trans (hb.mono HB2.out.size))
      have HG3 : Hid (InsRd w3 w3.heap.size g (insD F) l) := by
        have := HG.out.below hb
        exact ⟨Nat.lt_of_lt_of_le this.1 hb.size, this.2⟩
      have HP3 := hidIt hpr
      clear hb hpr
      go_wp2_with fail
      refine (states_p on ((HR.out.1.below (HB3.out.mono hB)).mono (Nat.le_trans hB HB3.out.size)) HP3.out HG3.out (Nat.le_refl _) hn (by omega) HT.out.1 HT.out.2).mono ?_
      rintro e w4 ⟨⟨ra, rn, rc, rfl, hrr⟩, hb⟩
      have HB4 := hidIt (HB3.out.trans (hb.mono HB3.out.size))
      have HR4 := hidIt hrr
      clear hb hrr
      go_wp2
      go_ret2
      refine ⟨?_, HB4.out⟩
      unfold StsR
      rw [HS.out]
      exact ⟨ra, rn, rc, rfl, HR4.out⟩
end Go.Proofs.YtkaeolcchhneoaaGreatDoor
