/-
  The program's reader: isName, name, perhaps, oneOf.
-/
import Derived.Test.YtehbinobohjadaaGreatDoorBk05
namespace Go.Proofs.YtehbinobohjadaaGreatDoor
open Go.RowKit Go.Extern.Stop Go.Stop Go.Extern

def tokV3 (t : Tok) : Value := .agg #[.int .i64 (kN t.kind), .string t.text, .int .i64 t.pos]
theorem kN_w {t : TK} : ((kN t : Int) == 1) = decide (t = .w) := by cases t <;> rfl
theorem isName_q (t : Tok) (hs : t.kind = .w → t.text.size ≠ 0) (w : World) :
    Calls Tryz.prog 78 #[tokV3 t] w fun e w' => e = .returned (.bool (decide (t.kind = .w) && !gramIs t.text)) ∧ Below w.heap.size w w' := by
  unfold tokV3
  have hz := kN_w (t := t.kind)
  cases hk : decide (t.kind = .w) with
  | false =>
    rw [hk] at hz
    clear hs hk
    generalize kN t.kind = K0 at *
    generalize t.text = K1 at *
    generalize t.pos = K2 at *
    go_enter Tryz.func78, Tryz.ntmps78
    go_wp2
    go_ret
    exact ⟨rfl, (Below.refl _ _).alloc (Nat.le_refl _) _⟩
  | true =>
    rw [hk] at hz
    have HG := hidLL (isOfGrammar_q t.text (hs (by simpa using hk)))
    clear hs hk
    generalize kN t.kind = K0 at *
    generalize t.text = K1 at *
    generalize t.pos = K2 at *
    generalize gramIs K1 = O at *
    go_enter Tryz.func78, Tryz.ntmps78
    go_wp2_with (go_at_call 117; refine (HG.out _).mono ?_; rintro e w' ⟨rfl, hb⟩; have HB := hidLL hb; clear hb)
    go_ret
    refine ⟨by simp, ?_⟩
    exact ((Below.refl _ _).alloc (Nat.le_refl _) _).trans (HB.out.mono (by simp))
theorem QS.sized {L : List Tok} {rp tb : Nat} {w : World} {k n : Nat} (h : QS L rp tb w k n) (hk : (tokAt L k).kind ≠ .e) : (tokAt L k).text.size ≠ 0 := by
  have h1 := h.moreK hk
  have h2 := h.ok.last k _ (tokAt_get h.lt)
  intro h0
  have := h2.2 h0
  omega
theorem nameTok_is (L : List Tok) (k : Nat) : nameTok L k = (decide ((tokAt L k).kind = .w) && !gramIs (tokAt L k).text) := by
  unfold nameTok gramIs
  cases placeIn gramW (tokAt L k).text <;> rfl
theorem threeT {W : World} {g : Nat} {a b c : Value} {t : TypeId} (h : W.heap[g]? = some (.cells #[a, b, c] t (0, 0))) : W.cell? ⟨g, 0, none⟩ = some a ∧ W.cell? ⟨g, 1, none⟩ = some b ∧ W.cell? ⟨g, 2, none⟩ = some c ∧ ∀ i, W.frozen? ⟨g, i, none⟩ = false := by
  simp [World.cell?, World.frozen?, h]
set_option maxHeartbeats 1000000 in
theorem name_q {L : List Tok} {rp tb : Nat} {w : World} {k n : Nat} (h : QS L rp tb w k n) :
    Calls Tryz.prog 36 #[.pointer (some ⟨rp, 0, none⟩)] w fun e w' => QEnd L rp tb w (nameQ L k n) (fun x v _ => v = .string x) e w' := by
  obtain ⟨m, c, hm, h1, hc, h4, x0, x1, xf⟩ := h.cells
  obtain ⟨y0, y1, y2⟩ := h.tokens
  have HN := hidLL (isName_q (tokAt L k) (fun hw => h.sized (by rw [hw]; intro e; cases e)))
  rw [← nameTok_is] at HN
  obtain ⟨W1, hW1⟩ : ∃ W1, W1 = w.alloc (.cells #[.int .i64 (kN (tokAt L k).kind), .string (tokAt L k).text, .int .i64 (tokAt L k).pos] 91) := ⟨_, rfl⟩
  have b1 : Below w.heap.size w W1 := by rw [hW1]; exact (Below.refl _ _).alloc (Nat.le_refl _) _
  have n1 : W1.heap[w.heap.size]? = some (.cells #[.int .i64 (kN (tokAt L k).kind), .string (tokAt L k).text, .int .i64 (tokAt L k).pos] 91 (0, 0)) := by rw [hW1]; exact heap_alloc_new _ _
  have s1 : w.heap.size < W1.heap.size := by rw [hW1]; simp
  have HX := hidLL hW1
  have HW := hidLL (fun (W : World) (hq : QS L rp tb W k n) => wrong_q hq 189)
  have HB := hidLL (And.intro b1 (And.intro n1 (And.intro s1 (And.intro (h.below b1) h.lows))))
  obtain ⟨v0, v1, v2, vf⟩ := threeT n1
  unfold tokV3 at HN
  unfold nameQ
  cases hk : nameTok L k with
  | false =>
    rw [hk] at HN
    rw [if_neg (by simp)]
    clear h hk hW1 b1 n1
    generalize kN (tokAt L k).kind = K0 at *
    generalize (tokAt L k).text = K1 at *
    generalize (tokAt L k).pos = K2 at *
    go_enter Tryz.func36, Tryz.ntmps36
    go_wp2_with (first | (rw [← HX.out]; go_at_call 78; refine (HN.out _).mono ?_; rintro e w' ⟨rfl, hb⟩; have hq2 := HB.out.2.2.2.1.below hb; obtain ⟨pt, gt⟩ := hq2.gT; have HQ := hidLL (And.intro hq2 hb); clear hb hq2) | (go_at_call 44; refine (HW.out _ HQ.out.1 _).mono ?_; rintro e w'' ⟨⟨p, rfl⟩, hb⟩; have HE := hidLL hb; clear hb))
    exact ⟨rfl, Below.x ((HB.out.1.trans (HQ.out.2.mono (Nat.le_of_lt s1))).trans (HE.out.mono (by have := HQ.out.2.size; omega))) _ (Nat.le_refl _), ⟨_, rfl⟩⟩
  | true =>
    rw [hk] at HN
    have hw : (tokAt L k).kind = .w := by
      unfold nameTok at hk
      simp only [Bool.and_eq_true, decide_eq_true_eq] at hk
      exact hk.1
    have hk1 := h.moreK (by rw [hw]; intro e; cases e)
    have HS := hidLL (fun (W : World) (hq : QS L rp tb W k n) => skip_q hq hk1)
    by_cases h24 : (tokAt L k).text.size ≤ 24
    · rw [if_pos ⟨rfl, h24⟩]
      have hz : ¬ 24 < (tokAt L k).text.size := by omega
      clear h hk hW1 b1 n1 hw hk1
      generalize kN (tokAt L k).kind = K0 at *
      generalize (tokAt L k).text = K1 at *
      generalize (tokAt L k).pos = K2 at *
      go_enter Tryz.func36, Tryz.ntmps36
      go_wp2_with (first | (rw [← HX.out]; go_at_call 78; refine (HN.out _).mono ?_; rintro e w' ⟨rfl, hb⟩; have hq2 := HB.out.2.2.2.1.below hb; obtain ⟨z0, z1, z2, zf⟩ := threeT ((hb.block _ s1).trans HB.out.2.1); have HQ := hidLL (And.intro hq2 hb); clear hb hq2) | (go_at_call 35; refine (HS.out _ HQ.out.1).mono ?_; rintro e w'' ⟨rfl, hq3, hb⟩; have HE := hidLL (And.intro hq3 hb); clear hb hq3))
      go_ret
      exact ⟨(Below.x (HB.out.1.trans (HQ.out.2.mono (Nat.le_of_lt s1))) _ (Nat.le_refl _)).then HE.out.2 (by have := HQ.out.2.size; omega), HE.out.1, _, rfl, rfl⟩
    · rw [if_neg (fun h => h24 h.2)]
      have hz : 24 < (tokAt L k).text.size := by omega
      clear h hk hW1 b1 n1 hw hk1
      generalize kN (tokAt L k).kind = K0 at *
      generalize (tokAt L k).text = K1 at *
      generalize (tokAt L k).pos = K2 at *
      go_enter Tryz.func36, Tryz.ntmps36
      go_wp2_with (first | (rw [← HX.out]; go_at_call 78; refine (HN.out _).mono ?_; rintro e w' ⟨rfl, hb⟩; have hq2 := HB.out.2.2.2.1.below hb; obtain ⟨pt, gt⟩ := hq2.gB; obtain ⟨z0, z1, z2, zf⟩ := threeT ((hb.block _ s1).trans HB.out.2.1); have HQ := hidLL (And.intro hq2 hb); clear hb hq2) | (go_at_call 44; refine (HW.out _ HQ.out.1 _).mono ?_; rintro e w'' ⟨⟨p, rfl⟩, hb⟩; have HE := hidLL hb; clear hb))
      exact ⟨rfl, Below.x ((HB.out.1.trans (HQ.out.2.mono (Nat.le_of_lt s1))).trans (HE.out.mono (by have := HQ.out.2.size; omega))) _ (Nat.le_refl _), ⟨_, rfl⟩⟩
end Go.Proofs.YtehbinobohjadaaGreatDoor
