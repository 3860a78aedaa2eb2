/-
  TermsBack: the law, whole.
-/
import Derived.Test.YtehbinobohjadaaGreatDoorBk44
namespace Go.Proofs.YtehbinobohjadaaGreatDoor
open Go.RowKit Go.Sort Go.Extern.Stop Go.Stop Go.Extern

theorem SentO.over300 {x : SentW} {P : List ByteArray} (h : SentO x P) (hc : costL P ≤ 300) : x.over.length ≤ 1000 := by
  have hl := len_tot h.pz.pos
  have ht := totB_cost P
  cases h with
  | define name hn hc hm => show 0 ≤ _; omega
  | amount name way hn hw hs hm hc => show 0 ≤ _; omega
  | duty name head els pos tn tu tr hn hh h1 h2 h3 he => show 0 ≤ _; omega
  | rule name head st pos ov hn hh hs ho hc2 =>
    show ov.length ≤ _
    have : ov.length ≤ (ovW ov).length := by
      cases ov with
      | nil => exact Nat.le_refl _
      | cons x l =>
        show l.length + 1 ≤ (cmW l).length + 1 + 1 + 1
        rw [cm_len]
        omega
    simp only [List.length_cons, List.length_append] at hl
    omega
theorem SentC.rdx {x : SentW} {P : List ByteArray} (hP : SentO x P) (hc : costL P ≤ 300) {B : Nat} {cs : Array Value} {w : World} (h : SentC B x cs w) : ∃ ca sa cc sc oa oc, STc w (· < w.heap.size) (toS x) ca sa cc sc oa oc cs ∧ (oa = none → oc = 0) := h.st hP.small.1 hP.small.2 (hP.over_few hc)
/-- What was read of a line is written in a line of which it is read. -/
theorem back_law (s : ByteArray) {w : World} (hl : LawW w) : Calls Tryz.prog 3 #[.string s] w (TrueR w) := by
  rcases Nat.lt_or_ge 3000 s.size with hs | hs
  · exact back_long hl hs
  · have hrd : ∀ V, Below w.heap.size w V → Calls Tryz.prog 6 #[.string s] V (ReadR s (fuelQ s) V) := fun V hV => read_any (by omega) (hl.g.step hV)
    cases hr : readQ s (fuelQ s) with
    | none =>
      refine back_none hl hs fun V hV => (hrd V hV).mono ?_
      rintro e V' ⟨hb, he⟩
      rw [hr] at he
      exact ⟨hb, he⟩
    | bad =>
      refine back_bad hl hs fun V hV => (hrd V hV).mono ?_
      rintro e V' ⟨hb, he⟩
      rw [hr] at he
      exact ⟨hb, he⟩
    | ok x =>
      obtain ⟨P, hP⟩ := back_of hr
      have hts : (adv wZ P).ts = P := rfl
      refine back_ok (L := lineB P) (x := toS x) hl hs hP.o.small.1.sm hP.o.small.2.sm (hP.o.over300 hP.c) (fun V hV => (hrd V hV).mono ?_) (fun V ca sa cc sc oa oc cs hV hT => ?_) (fun V hV => ?_)
      · rintro e V' ⟨hb, he⟩
        rw [hr] at he
        obtain ⟨ds, e1, hC⟩ := he
        obtain ⟨ca, sa, cc, sc, oa, oc, hst, hno⟩ := hC.rdx hP.o hP.c
        exact ⟨hb, ds, ca, sa, cc, sc, oa, oc, e1, hst, hno⟩
      · refine (write_q (f := 8 * P.length + 10) hP.o.sok hT (hl.step hV).g (hl.step hV).t fun s' hs' _ _ => ?_).mono ?_
        · rw [hP.wr] at hs'
          injection hs' with hs'
          rw [← hs', hts]
          exact hP.no
        · rintro e V' ⟨hb, he⟩
          rw [hP.out] at he
          exact ⟨hb, he⟩
      · refine (read_q (f := 8 * P.length + 10) (Nat.le_trans hP.sz (by omega)) (hl.step hV).g fun _ _ => hP.no).mono ?_
        rintro e V' ⟨hb, he⟩
        rw [hP.rd] at he
        obtain ⟨ds, e1, hC⟩ := he
        obtain ⟨ca, sa, cc, sc, oa, oc, hst, hno⟩ := hC.rdx hP.o hP.c
        exact ⟨hb, ds, ca, sa, cc, sc, oa, oc, e1, hst, hno⟩
end Go.Proofs.YtehbinobohjadaaGreatDoor
