/-
  The program's reader: all rules, whatever fuel.
-/
import Derived.Test.YtehbinobohjadaaGreatDoorBk18
import Derived.Test.YtehbinobohjadaaGreatDoorBk19
import Derived.Test.YtehbinobohjadaaGreatDoorBk15
namespace Go.Proofs.YtehbinobohjadaaGreatDoor
open Go.RowKit Go.Extern.Stop Go.Stop Go.Extern

def QRule1 (L : List Tok) (rp tb : Nat) (fn : FuncId) (P : Nat → Nat → PR Nd) : Prop := ∀ (w : World) (k n : Nat), QS L rp tb w k n → k + 1 < L.length → P k n ≠ .out → Calls Tryz.prog fn #[.pointer (some ⟨rp, 0, none⟩)] w fun e w' => QEnd L rp tb w (P k n) (fun x v w' => NodeV w.heap.size x v w') e w'
structure AllQ (L : List Tok) (rp tb f : Nat) : Prop where
  ei : QRule L rp tb 40 (eitherQ L f)
  bo : QRule L rp tb 81 (bothQ L f)
  un : QRule L rp tb 119 (unlessQ L f)
  te : QRule L rp tb 140 (testQ L f)
  ot : QRule1 L rp tb 152 (othersQ L f)
  co : QRule L rp tb 154 (compQ L f)
  su : QRule L rp tb 84 (sumQ L f)
  pa : QRule L rp tb 120 (partQ L f)
  fa : QRule L rp tb 142 (factorQ L f)
  gr : QRule1 L rp tb 157 (greatQ L f)
theorem allQ {L : List Tok} {rp tb : Nat} : ∀ f f', f' ≤ f → AllQ L rp tb f'
  | f, 0, _ => by
    refine ⟨?_, ?_, ?_, ?_, ?_, ?_, ?_, ?_, ?_, ?_⟩
    · intro w k n h hn; exact absurd (by rw [eitherQ]) hn
    · intro w k n h hn; exact absurd (by rw [bothQ]) hn
    · intro w k n h hn; exact absurd (by rw [unlessQ]) hn
    · intro w k n h hn; exact absurd (by rw [testQ]) hn
    · intro w k n h _ hn; exact absurd (by rw [othersQ]) hn
    · intro w k n h hn; exact absurd (by rw [compQ]) hn
    · intro w k n h hn; exact absurd (by rw [sumQ]) hn
    · intro w k n h hn; exact absurd (by rw [partQ]) hn
    · intro w k n h hn; exact absurd (by rw [factorQ]) hn
    · intro w k n h _ hn; exact absurd (by rw [greatQ]) hn
  | 0, f' + 1, h => by omega
  | f + 1, f' + 1, h => by
    have ih := allQ (L := L) (rp := rp) (tb := tb) f
    have h' : f' ≤ f := by omega
    exact ⟨qeither_rule fun q hq => (ih q (by omega)).bo, qboth_rule fun q hq => (ih q (by omega)).un, qunless_rule (ih f' h').un (ih f' h').te, qtest_rule (ih f' h').ei (ih f' h').ot (ih f' h').co, others_rule (ih f' h').ei, comp_rule (ih f' h').su, qsum_rule fun q hq => (ih q (by omega)).pa, qpart_rule fun q hq => (ih q (by omega)).fa, qfactor_rule (ih f' h').su (ih f' h').gr, great_rule (ih f' h').su⟩
end Go.Proofs.YtehbinobohjadaaGreatDoor
namespace Go.Proofs.YtehbinobohjadaaGreatDoor
open Go.RowKit Go.Extern.Stop Go.Stop Go.Extern

set_option maxHeartbeats 2000000 in
theorem length_q {L : List Tok} {rp tb : Nat} {w : World} {k n : Nat} (h : QS L rp tb w k n) :
    Calls Tryz.prog 87 #[.pointer (some ⟨rp, 0, none⟩)] w fun e w' => QEnd L rp tb w (lengthQ L k n) (fun x v _ => v = .int .i64 x) e w' := by
  obtain ⟨m, c, hm, h1, hc, h4, x0, x1, xf⟩ := h.cells
  obtain ⟨y0, y1, y2⟩ := h.tokens
  obtain ⟨W1, hW1⟩ : ∃ W1, W1 = w.alloc (.cells #[.int .i64 (kN (tokAt L k).kind), .string (tokAt L k).text, .int .i64 (tokAt L k).pos] 91) := ⟨_, rfl⟩
  have b1 : Below w.heap.size w W1 := by rw [hW1]; exact (Below.refl _ _).alloc (Nat.le_refl _) _
  have n1 : W1.heap[w.heap.size]? = some (.cells #[.int .i64 (kN (tokAt L k).kind), .string (tokAt L k).text, .int .i64 (tokAt L k).pos] 91 (0, 0)) := by rw [hW1]; exact heap_alloc_new _ _
  have s1 : w.heap.size < W1.heap.size := by rw [hW1]; simp
  have HX := hidLL hW1
  have HW := hidLL (fun (W : World) (hq : QS L rp tb W k n) => wrong_q hq 189)
  have HB := hidLL (And.intro b1 (And.intro n1 (And.intro s1 (And.intro (h.below b1) h.lows))))
  obtain ⟨v0, v1, v2, vf⟩ := threeT n1
  obtain ⟨pt, gt⟩ := (h.below b1).gT
  have hz := kN_n' (t := (tokAt L k).kind)
  unfold lengthQ
  by_cases hk : (tokAt L k).kind = .n
  · have hnf := h.ok.num k _ (tokAt_get h.lt) hk
    obtain ⟨ds, cs, hcut⟩ := hnf.cut
    have hk1 := h.moreK (by rw [hk]; intro e; cases e)
    have HS := hidLL (fun (W : World) (hq : QS L rp tb W k n) => skip_q hq hk1)
    have HPo := hidLL (hasPoint_q (tokAt L k) hcut)
    have HL := hidLL (fun (W : World) (m : Int) (hm : W.cell? ⟨12, 0, none⟩ = some (.int .i64 m)) => isLong_q (tokAt L k) hnf.1 hcut m W hm)
    have hwn := hcut.w
    rw [decide_eq_true hk] at hz
    simp only [Bool.not_true] at hz
    unfold tokV3 at HL HPo
    cases hp : pointB (tokAt L k).text with
    | true =>
      rw [if_neg (fun h => by cases h.2.1)]
      rw [hp] at HPo
      clear h hk hW1 b1 n1 hk1 hcut hnf hwn hp
      generalize kN (tokAt L k).kind = K0 at *
      generalize (tokAt L k).text = K1 at *
      generalize (tokAt L k).pos = K2 at *
      go_enter Tryz.func87, Tryz.ntmps87
      go_upto_region 2 with fail
      rw [← HX.out]
      go_wp2_with (first | (go_at_call 121; refine (HPo.out _).mono ?_; rintro e w' ⟨rfl, hb⟩; have hq2 := HB.out.2.2.2.1.below hb; obtain ⟨pb, gb⟩ := hq2.gT; have HQ := hidLL (And.intro hq2 hb); clear hb hq2) | (go_at_call 44; refine (HW.out _ HQ.out.1 _).mono ?_; rintro e w'' ⟨⟨p, rfl⟩, hb⟩; have HE := hidLL hb; clear hb))
      exact ⟨rfl, Below.x ((HB.out.1.trans (HQ.out.2.mono (Nat.le_of_lt s1))).trans (HE.out.mono (by have := HQ.out.2.size; omega))) _ (Nat.le_refl _), ⟨_, rfl⟩⟩
    | false =>
      rw [hp] at HPo
      have hds := (hcut.p hp).1
      by_cases hl : 12 < ds.length
      · rw [if_neg (by rw [hwn]; omega)]
        rw [decide_eq_true hl] at HL
        clear h hk hW1 b1 n1 hk1 hcut hnf hwn hp hds
        generalize kN (tokAt L k).kind = K0 at *
        generalize (tokAt L k).text = K1 at *
        generalize (tokAt L k).pos = K2 at *
        go_enter Tryz.func87, Tryz.ntmps87
        go_upto_region 2 with fail
        rw [← HX.out]
        go_wp2_with (first | (go_at_call 121; refine (HPo.out _).mono ?_; rintro e w' ⟨rfl, hb⟩; have hq2 := HB.out.2.2.2.1.below hb; obtain ⟨m2, gm2⟩ := hq2.gM; obtain ⟨z0, z1, z2, zf⟩ := threeT ((hb.block _ s1).trans HB.out.2.1); have HQ := hidLL (And.intro hq2 hb); clear hb hq2) | (go_at_call 122; refine (HL.out _ _ gm2).mono ?_; rintro e w3 ⟨rfl, hb⟩; have hq3 := HQ.out.1.below hb; obtain ⟨pb, gb⟩ := hq3.gB; have HQ3 := hidLL (And.intro hq3 hb); clear hb hq3) | (go_at_call 44; refine (HW.out _ HQ3.out.1 _).mono ?_; rintro e w'' ⟨⟨p, rfl⟩, hb⟩; have HE := hidLL hb; clear hb))
        have i2 := HQ.out.2.size
        have i3 := HQ3.out.2.size
        exact ⟨rfl, Below.x (((HB.out.1.trans (HQ.out.2.mono (Nat.le_of_lt s1))).trans (HQ3.out.2.mono (by omega))).trans (HE.out.mono (by omega))) _ (Nat.le_refl _), ⟨_, rfl⟩⟩
      · rw [decide_eq_false hl] at HL
        have hsz : (tokAt L k).text.size ≤ 12 := by
          have h9 : (tokAt L k).text.data.toList.length = ds.length := by rw [hds]
          rw [Array.length_toList] at h9
          show (tokAt L k).text.data.size ≤ 12
          omega
        have HWo := hidLL (worth_q (tokAt L k).text hsz (by rw [hds]; exact hcut.d))
        have hwl : wholeN (tokAt L k).text ≤ 12 := by rw [hwn]; omega
        by_cases hv : dvL (tokAt L k).text.data.toList 0 ≤ 100000
        · rw [if_pos ⟨hk, rfl, hwl, hv⟩]
          have hvz : ¬ (100000 : Int) < dvL (tokAt L k).text.data.toList 0 := by omega
          clear h hk hW1 b1 n1 hk1 hcut hnf hwn hwl hv hds hp hsz
          generalize dvL (tokAt L k).text.data.toList 0 = O at *
          generalize kN (tokAt L k).kind = K0 at *
          generalize (tokAt L k).text = K1 at *
          generalize (tokAt L k).pos = K2 at *
          go_enter Tryz.func87, Tryz.ntmps87
          go_upto_region 2 with fail
          rw [← HX.out]
          go_upto_region 6 with (first | (go_at_call 121; refine (HPo.out _).mono ?_; rintro e w' ⟨rfl, hb⟩; have hq2 := HB.out.2.2.2.1.below hb; obtain ⟨m2, gm2⟩ := hq2.gM; obtain ⟨z0, z1, z2, zf⟩ := threeT ((hb.block _ s1).trans HB.out.2.1); have HQ := hidLL (And.intro hq2 hb); clear hb hq2) | (go_at_call 122; refine (HL.out _ _ gm2).mono ?_; rintro e w3 ⟨rfl, hb⟩; have hq3 := HQ.out.1.below hb; have i2 := HQ.out.2.size; obtain ⟨z0, z1, z2, zf⟩ := threeT ((hb.block w.heap.size (by omega)).trans ((HQ.out.2.block _ s1).trans HB.out.2.1)); have HQ3 := hidLL (And.intro hq3 hb); clear hb hq3) | (go_at_call 123; refine (HWo.out _).mono ?_; rintro e w4 ⟨rfl, hb⟩; have HQ4 := hidLL (And.intro (HQ3.out.1.below hb) hb); clear hb))
          have i3 := HQ3.out.2.size
          have i4 := HQ4.out.2.size
          go_wp2_with (first | (go_at_call 35; refine (HS.out _ HQ4.out.1).mono ?_; rintro e w5 ⟨rfl, hq5, hb⟩; have HE := hidLL (And.intro hq5 hb); clear hb hq5) | (go_at_call 123; refine (HWo.out _).mono ?_; rintro e w6 ⟨rfl, hb⟩; have HQ6 := hidLL hb; clear hb))
          go_ret
          exact ⟨((Below.x (((HB.out.1.trans (HQ.out.2.mono (Nat.le_of_lt s1))).trans (HQ3.out.2.mono (by omega))).trans (HQ4.out.2.mono (by omega))) _ (Nat.le_refl _)).then HE.out.2 (by omega)).then (Below.x HQ6.out _ (Nat.le_refl _)) (by have := HE.out.2.size; omega), HE.out.1.below HQ6.out, _, rfl, rfl⟩
        · rw [if_neg (fun h => hv h.2.2.2)]
          have hvz : (100000 : Int) < dvL (tokAt L k).text.data.toList 0 := by omega
          clear h hk hW1 b1 n1 hk1 hcut hnf hwn hwl hv hds hp hsz
          generalize dvL (tokAt L k).text.data.toList 0 = O at *
          generalize kN (tokAt L k).kind = K0 at *
          generalize (tokAt L k).text = K1 at *
          generalize (tokAt L k).pos = K2 at *
          go_enter Tryz.func87, Tryz.ntmps87
          go_upto_region 2 with fail
          rw [← HX.out]
          go_wp2_with (first | (go_at_call 121; refine (HPo.out _).mono ?_; rintro e w' ⟨rfl, hb⟩; have hq2 := HB.out.2.2.2.1.below hb; obtain ⟨m2, gm2⟩ := hq2.gM; obtain ⟨z0, z1, z2, zf⟩ := threeT ((hb.block _ s1).trans HB.out.2.1); have HQ := hidLL (And.intro hq2 hb); clear hb hq2) | (go_at_call 122; refine (HL.out _ _ gm2).mono ?_; rintro e w3 ⟨rfl, hb⟩; have hq3 := HQ.out.1.below hb; have i2 := HQ.out.2.size; obtain ⟨z0, z1, z2, zf⟩ := threeT ((hb.block w.heap.size (by omega)).trans ((HQ.out.2.block _ s1).trans HB.out.2.1)); have HQ3 := hidLL (And.intro hq3 hb); clear hb hq3) | (go_at_call 123; refine (HWo.out _).mono ?_; rintro e w4 ⟨rfl, hb⟩; have hq4 := HQ3.out.1.below hb; obtain ⟨pb, gb⟩ := hq4.gB; have HQ4 := hidLL (And.intro hq4 hb); clear hb hq4) | (go_at_call 44; refine (HW.out _ HQ4.out.1 _).mono ?_; rintro e w'' ⟨⟨p, rfl⟩, hb⟩; have HE := hidLL hb; clear hb))
          have i2 := HQ.out.2.size
          have i3 := HQ3.out.2.size
          have i4 := HQ4.out.2.size
          exact ⟨rfl, Below.x ((((HB.out.1.trans (HQ.out.2.mono (Nat.le_of_lt s1))).trans (HQ3.out.2.mono (by omega))).trans (HQ4.out.2.mono (by omega))).trans (HE.out.mono (by omega))) _ (Nat.le_refl _), ⟨_, rfl⟩⟩
  · rw [if_neg (fun h => hk h.1)]
    rw [decide_eq_false hk] at hz
    simp only [Bool.not_false] at hz
    clear h hk hW1 b1 n1
    generalize kN (tokAt L k).kind = K0 at *
    generalize (tokAt L k).text = K1 at *
    generalize (tokAt L k).pos = K2 at *
    go_enter Tryz.func87, Tryz.ntmps87
    go_upto_region 2 with fail
    rw [← HX.out]
    go_wp2_with (go_at_call 44; refine (HW.out _ HB.out.2.2.2.1 _).mono ?_; rintro e w'' ⟨⟨p, rfl⟩, hb⟩; have HE := hidLL hb; clear hb)
    exact ⟨rfl, Below.x (HB.out.1.trans (HE.out.mono (Nat.le_of_lt s1))) _ (Nat.le_refl _), ⟨_, rfl⟩⟩
end Go.Proofs.YtehbinobohjadaaGreatDoor
namespace Go.Proofs.YtehbinobohjadaaGreatDoor
open Go.RowKit Go.Extern.Stop Go.Stop Go.Extern

def litQ (L : List Tok) (k n : Nat) : PR (Bool × ByteArray) := (nameQ L (if isQ L wNot k = true then k + 1 else k) n).bind fun x k' n => .ok (!isQ L wNot k, x) k' n
def condQ (L : List Tok) (f k n : Nat) : PR Nd := if isQ L wIf k = true then eitherQ L f (k + 1) n else .ok Nd.zero k n
def QEndY (L : List Tok) (rp tb sp : Nat) (w : World) {α : Type} (r : PR α) (V : α → World → Prop) (e : Ending) (w' : World) : Prop :=
  BelY w.heap.size rp sp w w' ∧ match r with
    | .out => True
    | .bad _ _ => Thr e
    | .ok x k n => QS L rp tb w' k n ∧ e = .returned (.tuple #[]) ∧ V x w'
theorem litQ_not {L : List Tok} {k n : Nat} : litQ L k n ≠ .out := by
  unfold litQ
  generalize (if isQ L wNot k = true then k + 1 else k) = k'
  cases h : nameQ L k' n with
  | out => exact absurd h nameQ_not
  | bad c a => intro h; cases h
  | ok x k n => intro h; cases h
set_option maxHeartbeats 1000000 in
theorem literal_q {L : List Tok} {rp tb sp B : Nat} {w : World} {k n : Nat} {cs : Array Value} (h : QS L rp tb w k n) (hs : SB w sp cs) (lo : Lows rp tb B) (hB : B ≤ sp) :
    Calls Tryz.prog 82 #[.pointer (some ⟨rp, 0, none⟩), .pointer (some ⟨sp, 0, none⟩)] w fun e w' => QEndY L rp tb sp w (litQ L k n) (fun x w' => SB w' sp ((cs.setIfInBounds 3 (.bool x.1)).setIfInBounds 4 (.string x.2))) e w' := by
  have HT := hidLL (take_q h ⟨#[110, 111, 116]⟩ (by decide))
  have HN := name_c (L := L) (rp := rp) (tb := tb)
  have hne : sp ≠ rp := by have := lo.r; omega
  obtain ⟨R, hR⟩ : ∃ R, R = litQ L k n := ⟨_, rfl⟩
  rw [← hR]
  have HR : Hid (R = (nameQ L (if isQ L ⟨#[110, 111, 116]⟩ k = true then k + 1 else k) n).bind fun x k' n => .ok (!isQ L ⟨#[110, 111, 116]⟩ k, x) k' n) := hR
  have HS := hidLL hs
  have HL := hidLL lo
  have hin := hs.in
  generalize (if isQ L ⟨#[110, 111, 116]⟩ k = true then k + 1 else k) = k1 at *
  generalize isQ L ⟨#[110, 111, 116]⟩ k = b at *
  clear h hs lo hR
  go_enter Tryz.func82, Tryz.ntmps82
  go_upto_region 1 with (go_at_call 80; refine HT.out.mono ?_; rintro e W2 ⟨rfl, hq, hb⟩; have hs2 := HS.out.keep (hb.block sp hin hne); obtain ⟨c3, x3⟩ := hs2.cell (i := 3) (by omega); have xf := hs2.froz; have HQ2 := hidLL (And.intro hq (And.intro hb hs2)); clear hq hb hs2)
  obtain ⟨V2, hV2⟩ : ∃ V2, V2 = W2.setCell ⟨sp, 3, none⟩ (.bool (!b)) := ⟨_, rfl⟩
  rw [← hV2]
  have hs2 : SB V2 sp (cs.setIfInBounds 3 (.bool (!b))) := by rw [hV2]; exact HQ2.out.2.2.set 3 _
  have hq2 : QS L rp tb V2 k1 n := by rw [hV2]; exact HQ2.out.1.set HL.out hB 3 _
  have hb2 : BelY w.heap.size rp sp w V2 := by rw [hV2]; exact (HQ2.out.2.1.y sp).set 3 _
  have hz2 : V2.heap.size = W2.heap.size := by rw [hV2]; simp
  have hw2 : w.heap.size ≤ W2.heap.size := HQ2.out.2.1.size
  have HV2 := hidLL (And.intro hq2 (And.intro hb2 hs2))
  clear hV2 hs2 hq2 hb2 HQ2 x3 xf
  go_wp2_with (go_at_call 36; refine (HN.out _ _ _ HV2.out.1).mono ?_; rintro e W3 hE; rcases hr : nameQ L k1 n with _ | ⟨c, a⟩ | ⟨x2, k2, n2⟩; (· exact absurd hr nameQ_not); (· rw [hr] at hE; obtain ⟨hb, ⟨p, rfl⟩⟩ := hE; obtain rfl : R = .bad c a := (by rw [HR.out, hr, PR.bind_bad]); exact (show _ ∧ _ from ⟨rfl, HV2.out.2.1.then (hb.y sp) (by omega), ⟨_, rfl⟩⟩)); rw [hr] at hE; obtain ⟨hb, hq, v, rfl, rfl⟩ := hE; rw [hr, PR.bind_ok] at HR; have hs3 := HV2.out.2.2.keep (hb.block sp (by omega) hne); obtain ⟨c4, x4⟩ := hs3.cell (i := 4) (by omega); have xf := hs3.froz; have HQ3 := hidLL (And.intro hq (And.intro (HV2.out.2.1.then (hb.y sp) (by omega)) hs3)); clear hb hq hr hs3)
  go_end0
  obtain rfl := HR.out
  exact ⟨HQ3.out.2.1.set 4 _, HQ3.out.1.set HL.out hB 4 _, rfl, HQ3.out.2.2.set 4 _⟩
theorem set_same {cs : Array Value} {i : Nat} {v : Value} (h : cs[i]? = some v) : cs.setIfInBounds i v = cs := by
  apply Array.ext_getElem?
  intro j
  rw [Array.getElem?_setIfInBounds]
  split
  · rename_i e
    subst e
    split
    · exact h.symm
    · rename_i h1
      rw [Array.getElem?_eq_none (by omega)] at h; cases h
  · rfl
/-- A condition's place is empty. -/
structure Empty4 (cs : Array Value) (o : Nat) : Prop where
  a : cs[o]? = some (.string ⟨#[]⟩)
  b : cs[o + 1]? = some (.string ⟨#[]⟩)
  c : cs[o + 2]? = some (.int .i64 0)
  d : cs[o + 3]? = some (.slice none 0 0)
def put4 (cs : Array Value) (o : Nat) (a b c d : Value) : Array Value := (((cs.setIfInBounds o a).setIfInBounds (o + 1) b).setIfInBounds (o + 2) c).setIfInBounds (o + 3) d
theorem Empty4.put {cs : Array Value} {o : Nat} (h : Empty4 cs o) : put4 cs o (.string ⟨#[]⟩) (.string ⟨#[]⟩) (.int .i64 0) (.slice none 0 0) = cs := by
  unfold put4
  rw [set_same h.a, set_same h.b, set_same h.c, set_same h.d]
/-- A node is laid into a sentence. -/
structure SetNode (W WF : World) (sp o : Nat) (cs : Array Value) (a b c d : Value) : Prop where
  sb : SB WF sp (put4 cs o a b c d)
  old : ∀ q, q ≠ sp → WF.heap[q]? = W.heap[q]?
  size : WF.heap.size = W.heap.size
theorem setNode {W : World} {sp : Nat} {cs : Array Value} (h : SB W sp cs) (o : Nat) (a b c d : Value) : SetNode W ((((W.setCell ⟨sp, o, none⟩ a).setCell ⟨sp, o + 1, none⟩ b).setCell ⟨sp, o + 2, none⟩ c).setCell ⟨sp, o + 3, none⟩ d) sp o cs a b c d :=
  ⟨(((h.set o a).set (o + 1) b).set (o + 2) c).set (o + 3) d, fun q hq => by rw [Below.heap_setCell _ _ _ _ hq, Below.heap_setCell _ _ _ _ hq, Below.heap_setCell _ _ _ _ hq, Below.heap_setCell _ _ _ _ hq], by simp⟩
theorem SetNode.belY {W WF a0 : World} {B rp sp o : Nat} {cs : Array Value} {a b c d : Value} (h : SetNode W WF sp o cs a b c d) (hb : BelY B rp sp a0 W) (ho : WF.os = W.os) (ht : WF.tape = W.tape) (hp : WF.output = W.output) : BelY B rp sp a0 WF := ⟨ho.trans hb.os, ht.trans hb.tape, hp.trans hb.output, by rw [h.size]; exact hb.size, fun k h1 h2 h3 => (h.old k h3).trans (hb.block k h1 h2 h3)⟩
/-- The node that lies in a sentence. -/
def NodeIn (w' : World) (sp o : Nat) (cs : Array Value) (P : Nat → Prop) (x : Nd) : Prop := ∃ (s0 s1 : ByteArray) (n2 : Int) (ka : Option Addr) (kn kc : Nat), SB w' sp (put4 cs o (.string s0) (.string s1) (.int .i64 n2) (.slice ka kn kc)) ∧ NL w' P (nv (.string s0) (.string s1) (.int .i64 n2) (.slice ka kn kc)) x
set_option maxHeartbeats 1000000 in
theorem condition_q {L : List Tok} {rp tb sp B f : Nat} {w : World} {k n : Nat} {cs : Array Value} (h : QS L rp tb w k n) (hs : SB w sp cs) (lo : Lows rp tb B) (hB : B ≤ sp) (hz : Empty4 cs 5) (hn : condQ L f k n ≠ .out) :
    Calls Tryz.prog 83 #[.pointer (some ⟨rp, 0, none⟩), .pointer (some ⟨sp, 0, none⟩)] w fun e w' => QEndY L rp tb sp w (condQ L f k n) (fun x w' => NodeIn w' sp 5 cs (fun b => w.heap.size ≤ b) x) e w' := by
  have hne : sp ≠ rp := by have := lo.r; omega
  have HL := hidLL lo
  have HS := hidLL hs
  have hin := hs.in
  have HZ := hidLL hz
  obtain ⟨R, hR⟩ : ∃ R, R = condQ L f k n := ⟨_, rfl⟩
  rw [← hR] at hn ⊢
  unfold condQ wIf at hR
  cases hi : isQ L ⟨#[105, 102]⟩ k with
  | false =>
    rw [hi, if_neg (by simp)] at hR
    have HT := hidLL (take_no h ⟨#[105, 102]⟩ hi)
    have HQ := hidLL h
    clear h hs lo hi hz
    subst hR
    go_enter Tryz.func83, Tryz.ntmps83
    go_wp2_with (go_at_call 80; refine HT.out.mono ?_; rintro e W2 ⟨rfl, rfl⟩)
    go_end0
    exact ⟨BelY.refl _ _ _ _, HQ.out, rfl, ⟨#[]⟩, ⟨#[]⟩, 0, none, 0, 0, by rw [HZ.out.put]; exact HS.out, NL.leaf _ _ ⟨#[]⟩ ⟨#[]⟩ 0⟩
  | true =>
    rw [hi, if_pos rfl] at hR
    have HT := hidLL (take_yes h ⟨#[105, 102]⟩ (by decide) hi)
    have HR := hidLL hR
    have HNo := hidLL hn
    have HA := hidLL ((allQ (L := L) (rp := rp) (tb := tb) f f (Nat.le_refl _)).ei)
    clear h hs lo hi hz hR hn
    go_enter Tryz.func83, Tryz.ntmps83
    go_wp2_with (first | (go_at_call 80; refine HT.out.mono ?_; rintro e W2 ⟨rfl, hq, hb⟩; have hz2 := hb.size; have HQ2 := hidLL (And.intro hq (And.intro hb (HS.out.keep (hb.block sp hin hne)))); clear hq hb) | (go_at_call 40; refine (HA.out _ _ _ HQ2.out.1 (HR.out ▸ HNo.out)).mono ?_; rintro e W3 hE; rcases hr : eitherQ L f (k + 1) n with _ | ⟨c, a⟩ | ⟨x2, k2, n2⟩; (· exact absurd hr (HR.out ▸ HNo.out)); (· rw [hr] at hE; obtain ⟨hb, ⟨p, rfl⟩⟩ := hE; obtain rfl : R = .bad c a := (by rw [HR.out, hr]); exact (show _ ∧ _ from ⟨rfl, (HQ2.out.2.1.y sp).then (hb.y sp) (by omega), ⟨_, rfl⟩⟩)); rw [hr] at hE HR; obtain ⟨hb, hq, v, rfl, s0, s1, i2, ka, kn, kc, rfl, hN⟩ := hE; have hs3 := HQ2.out.2.2.keep (hb.block sp (by omega) hne); obtain ⟨c5, x5⟩ := hs3.cell (i := 5) (by omega); obtain ⟨c6, x6⟩ := hs3.cell (i := 6) (by omega); obtain ⟨c7, x7⟩ := hs3.cell (i := 7) (by omega); obtain ⟨c8, x8⟩ := hs3.cell (i := 8) (by omega); have xf := hs3.froz; have HQ3 := hidLL (And.intro hq (And.intro ((HQ2.out.2.1.y sp).then (hb.y sp) (by omega)) (And.intro hs3 hN))); clear hb hq hr hs3 hN))
    go_end0
    obtain rfl := HR.out
    have hsn := setNode HQ3.out.2.2.1 5 (.string s0) (.string s1) (.int .i64 i2) (.slice ka kn kc)
    exact ⟨hsn.belY HQ3.out.2.1 rfl rfl rfl, HQ3.out.1.keep HL.out (fun b hb => hsn.old b (by omega)), rfl, s0, s1, i2, ka, kn, kc, hsn.sb, HQ3.out.2.2.2.step fun b hb hp => ⟨hsn.old b (by omega), by omega⟩⟩
end Go.Proofs.YtehbinobohjadaaGreatDoor
namespace Go.Proofs.YtehbinobohjadaaGreatDoor
open Go.RowKit Go.Extern.Stop Go.Stop Go.Extern

def amountQ (L : List Tok) (f k n : Nat) : PR (Nd × Nd × Nat) := (sumQ L f k n).bind fun x k n => (condQ L f k n).bind fun c k n => if isQ L (sg 59) k = true then (needQ L wRound (k + 1) n).bind fun _ k n => (oneOfQ L waysW k n).bind fun w k n => .ok (x, c, w) k n else .ok (x, c, 4) k n
def tailQ (L : List Tok) (k n : Nat) : PR ByteArray := if isQ L wElse k = true then nameQ L (k + 1) n else .ok ⟨#[]⟩ k n
def rollQ (L : List Tok) (k n : Nat) : PR Nat := if isQ L (sg 44) k = true then oneOfQ L rollsQ (k + 1) n else .ok 0 k n
def dutyQ (L : List Tok) (k n : Nat) : PR ((Bool × ByteArray) × Nat × Nat × Nat × ByteArray) := (litQ L k n).bind fun l k n => (needQ L wWithin k n).bind fun _ k n => (lengthQ L k n).bind fun t k n => (oneOfQ L unitsW k n).bind fun u k n => (rollQ L k n).bind fun r k n => (tailQ L k n).bind fun e k n => .ok (l, t, u, r, e) k n
theorem put4_get {cs : Array Value} {o j : Nat} {a b c d : Value} (h : j < o ∨ o + 4 ≤ j) : (put4 cs o a b c d)[j]? = cs[j]? := by
  unfold put4
  rw [Array.getElem?_setIfInBounds_ne (by omega), Array.getElem?_setIfInBounds_ne (by omega), Array.getElem?_setIfInBounds_ne (by omega), Array.getElem?_setIfInBounds_ne (by omega)]
theorem oneOfQ_not {L : List Tok} {ls : List ByteArray} {k n : Nat} : oneOfQ L ls k n ≠ .out := by
  unfold oneOfQ
  split
  · split <;> (intro h; cases h)
  · intro h; cases h
theorem lengthQ_not {L : List Tok} {k n : Nat} : lengthQ L k n ≠ .out := by unfold lengthQ; split <;> (intro h; cases h)
/-- A row of words, then one of them: laid into a sentence. -/
theorem oneOf_row {L : List Tok} {rp tb : Nat} {w V : World} {k n : Nat} {ls : List ByteArray} (h : QS L rp tb w k n) (hr : NewRow ls w (.returned (.slice (some ⟨w.heap.size, 0, none⟩) ls.length ls.length)) V) (hl : ls.length ≤ 1000) :
    Calls Tryz.prog 85 #[.pointer (some ⟨rp, 0, none⟩), .slice (some ⟨w.heap.size, 0, none⟩) ls.length ls.length] V fun e w' => QEnd L rp tb w (oneOfQ L ls k n) (fun x v _ => v = .int .i64 x) e w' :=
  (oneOf_q (h.below hr.b) ls w.heap.size ls.length (fun i s hs => by rw [Nat.zero_add]; exact hr.c i s hs) hl).mono fun e w' hE => ⟨(Below.x hr.b rp (Nat.le_refl _)).then hE.1 hr.b.size, hE.2⟩
set_option maxHeartbeats 4000000 in
theorem amount_q {L : List Tok} {rp tb sp B f : Nat} {w : World} {k n : Nat} {cs : Array Value} (h : QS L rp tb w k n) (hs : SB w sp cs) (lo : Lows rp tb B) (hB : B ≤ sp) (hz : Empty4 cs 5) (hw : cs[13]? = some (.int .i64 4)) (hn : amountQ L f k n ≠ .out) :
    Calls Tryz.prog 42 #[.pointer (some ⟨rp, 0, none⟩), .pointer (some ⟨sp, 0, none⟩)] w fun e w' => QEndY L rp tb sp w (amountQ L f k n) (fun x w' => ∃ (s0 s1 : ByteArray) (n2 : Int) (ka : Option Addr) (kn kc : Nat) (t0 t1 : ByteArray) (m2 : Int) (la : Option Addr) (ln lc : Nat), SB w' sp ((put4 (put4 cs 9 (.string s0) (.string s1) (.int .i64 n2) (.slice ka kn kc)) 5 (.string t0) (.string t1) (.int .i64 m2) (.slice la ln lc)).setIfInBounds 13 (.int .i64 x.2.2)) ∧ NL w' (fun b => w.heap.size ≤ b) (nv (.string s0) (.string s1) (.int .i64 n2) (.slice ka kn kc)) x.1 ∧ NL w' (fun b => w.heap.size ≤ b) (nv (.string t0) (.string t1) (.int .i64 m2) (.slice la ln lc)) x.2.1) e w' := by
  have hne : sp ≠ rp := by have := lo.r; omega
  have HL := hidLL lo
  have HS := hidLL hs
  have hin := hs.in
  have hrin := h.in
  have HZ := hidLL (And.intro hz hw)
  obtain ⟨R, hR⟩ : ∃ R, R = amountQ L f k n := ⟨_, rfl⟩
  rw [← hR] at hn ⊢
  unfold amountQ sg wRound at hR
  have HR := hidLL hR
  have HNo := hidLL hn
  have HA := hidLL ((allQ (L := L) (rp := rp) (tb := tb) f f (Nat.le_refl _)).su _ _ _ h (PR.bind_not (hR ▸ hn)))
  have HD := need_c (L := L) (rp := rp) (tb := tb) ⟨#[114, 111, 117, 110, 100]⟩ (by decide)
  clear h hs lo hz hw hR hn
  go_enter Tryz.func42, Tryz.ntmps42
  go_upto_region 1 with (go_at_call 84; refine HA.out.mono ?_; rintro e W2 hE; rcases hr : sumQ L f k n with _ | ⟨c, a⟩ | ⟨x1, k1, n1⟩; (· exact absurd hr (PR.bind_not (HR.out ▸ HNo.out))); (· rw [hr] at hE; obtain ⟨hb, ⟨p, rfl⟩⟩ := hE; obtain rfl : R = .bad c a := (by rw [HR.out, hr, PR.bind_bad]); exact (show _ ∧ _ from ⟨rfl, hb.y sp, ⟨_, rfl⟩⟩)); rw [hr] at hE; obtain ⟨hb, hq, v, rfl, s0, s1, i2, ka, kn, kc, rfl, hN⟩ := hE; rw [hr, PR.bind_ok] at HR; have hs2 := HS.out.keep (hb.block sp hin hne); obtain ⟨c5, x9⟩ := hs2.cell (i := 9) (by omega); obtain ⟨c6, x10⟩ := hs2.cell (i := 10) (by omega); obtain ⟨c7, x11⟩ := hs2.cell (i := 11) (by omega); obtain ⟨c8, x12⟩ := hs2.cell (i := 12) (by omega); have xf := hs2.froz; have HQ2 := hidLL (And.intro hq (And.intro (hb.y sp) (And.intro hs2 hN))); have hz2 := hb.size; clear hb hq hr hs2 hN)
  obtain ⟨V2, hV2⟩ : ∃ V2, V2 = (((W2.setCell ⟨sp, 9, none⟩ (.string s0)).setCell ⟨sp, 10, none⟩ (.string s1)).setCell ⟨sp, 11, none⟩ (.int .i64 i2)).setCell ⟨sp, 12, none⟩ (.slice ka kn kc) := ⟨_, rfl⟩
  rw [← hV2]
  have hsn : SetNode W2 V2 sp 9 cs (.string s0) (.string s1) (.int .i64 i2) (.slice ka kn kc) := by rw [hV2]; exact setNode HQ2.out.2.2.1 9 _ _ _ _
  have hby : BelY w.heap.size rp sp w V2 := hsn.belY HQ2.out.2.1 (by rw [hV2]; rfl) (by rw [hV2]; rfl) (by rw [hV2]; rfl)
  have hzV := hsn.size
  have hE5 : Empty4 (put4 cs 9 (.string s0) (.string s1) (.int .i64 i2) (.slice ka kn kc)) 5 := ⟨(put4_get (by omega)).trans HZ.out.1.a, (put4_get (by omega)).trans HZ.out.1.b, (put4_get (by omega)).trans HZ.out.1.c, (put4_get (by omega)).trans HZ.out.1.d⟩
  have HV2 := hidLL (And.intro (HQ2.out.1.keep HL.out fun b hb => hsn.old b (by omega)) (And.intro hby (And.intro hsn.sb (And.intro (HQ2.out.2.2.2.step (w' := V2) (P' := fun b => w.heap.size ≤ b) fun b hb hp => ⟨hsn.old b (by omega), hp⟩) hE5))))
  have HCo := hidLL (condition_q (f := f) HV2.out.1 HV2.out.2.2.1 HL.out hB hE5 (PR.bind_not (HR.out ▸ HNo.out)))
  clear hV2 hsn hby hE5 HQ2 x9 x10 x11 x12 xf HA
  go_upto_region 2 with (go_at_call 83; refine HCo.out.mono ?_; rintro e W3 hE; rcases hr : condQ L f k1 n1 with _ | ⟨c, a⟩ | ⟨x2, k2, n2⟩; (· exact absurd hr (PR.bind_not (HR.out ▸ HNo.out))); (· rw [hr] at hE; obtain ⟨hb, ⟨p, rfl⟩⟩ := hE; obtain rfl : R = .bad c a := (by rw [HR.out, hr, PR.bind_bad]); exact (show _ ∧ _ from ⟨rfl, HV2.out.2.1.then hb (by omega), ⟨_, rfl⟩⟩)); rw [hr] at hE; obtain ⟨hb, hq, rfl, t0, t1, j2, la, ln, lc, hs3, hM⟩ := hE; rw [hr, PR.bind_ok] at HR; have hz3 := hb.size; have HQ3 := hidLL (And.intro hq (And.intro (HV2.out.2.1.then hb (by omega)) (And.intro hs3 (And.intro (HV2.out.2.2.2.1.step (w' := W3) (P' := fun b => w.heap.size ≤ b) fun b hb' hp => ⟨hb.block b hb' (by omega) (by omega), hp⟩) (hM.step (w' := W3) (P' := fun b => w.heap.size ≤ b) fun b hb' hp => ⟨rfl, by omega⟩))))); clear hb hq hr hs3 hM)
  clear HCo
  cases hi : isQ L ⟨#[59]⟩ k2 with
  | false =>
    rw [hi, if_neg (by simp)] at HR
    have HT := hidLL (take_no HQ3.out.1 ⟨#[59]⟩ hi)
    clear hi
    go_wp2_with (go_at_call 80; refine HT.out.mono ?_; rintro e W4 ⟨rfl, rfl⟩)
    go_end0
    obtain rfl := HR.out
    refine ⟨HQ3.out.2.1, HQ3.out.1, rfl, s0, s1, i2, ka, kn, kc, t0, t1, j2, la, ln, lc, ?_, HQ3.out.2.2.2.1, HQ3.out.2.2.2.2⟩
    have h13 : (put4 (put4 cs 9 (.string s0) (.string s1) (.int .i64 i2) (.slice ka kn kc)) 5 (.string t0) (.string t1) (.int .i64 j2) (.slice la ln lc))[13]? = some (.int .i64 4) := (put4_get (by omega)).trans ((put4_get (by omega)).trans HZ.out.2)
    refine (show SB _ sp (Array.setIfInBounds _ 13 (Value.int IntKind.i64 4)) from ?_)
    rw [set_same h13]
    exact HQ3.out.2.2.1
  | true =>
    rw [hi, if_pos rfl] at HR
    have HT := hidLL (take_yes HQ3.out.1 ⟨#[59]⟩ (by decide) hi)
    clear hi
    have hz9 := HQ3.out.2.1.size
    go_wp2_with (first | (go_at_call 80; refine HT.out.mono ?_; rintro e W4 ⟨rfl, hq, hb⟩; have hz4 := hb.size; have HQ4 := hidLL (And.intro hq hb); clear hq hb) | (go_at_call 39; refine (HD.out _ _ _ HQ4.out.1).mono ?_; rintro e W5 hE; rcases hr : needQ L ⟨#[114, 111, 117, 110, 100]⟩ (k2 + 1) n2 with _ | ⟨c, a⟩ | ⟨x3, k3, n3⟩; (· exact absurd hr needQ_not); (· rw [hr] at hE; obtain ⟨hb, ⟨p, rfl⟩⟩ := hE; obtain rfl : R = .bad c a := (by rw [HR.out, hr, PR.bind_bad]); exact (show _ ∧ _ from ⟨rfl, (HQ3.out.2.1.then (HQ4.out.2.y sp) (by omega)).then (hb.y sp) (by omega), ⟨_, rfl⟩⟩)); rw [hr] at hE; obtain ⟨hb, hq, v, rfl, rfl⟩ := hE; rw [hr, PR.bind_ok] at HR; have hz5 := hb.size; have HQ5 := hidLL (And.intro hq (HQ4.out.2.then hb (by omega))); clear hb hq hr) | (go_at_call 86; refine (ways_q _).mono ?_; rintro e W6 hrow; have he := hrow.e; subst he; have HO := hidLL (oneOf_row HQ5.out.1 hrow (by decide)); clear hrow) | (go_at_call 85; refine HO.out.mono ?_; rintro e W7 hE; rcases hr : oneOfQ L waysW k3 n3 with _ | ⟨c, a⟩ | ⟨x4, k4, n4⟩; (· exact absurd hr oneOfQ_not); (· rw [hr] at hE; obtain ⟨hb, ⟨p, rfl⟩⟩ := hE; obtain rfl : R = .bad c a := (by rw [HR.out, hr, PR.bind_bad]); exact (show _ ∧ _ from ⟨rfl, (HQ3.out.2.1.then (HQ5.out.2.y sp) (by omega)).then (hb.y sp) (by omega), ⟨_, rfl⟩⟩)); rw [hr] at hE; obtain ⟨hb, hq, v, rfl, rfl⟩ := hE; rw [hr, PR.bind_ok] at HR; have hz7 := hb.size; have hbt := HQ5.out.2.then hb (by omega); have hs7 := HQ3.out.2.2.1.keep (hbt.block sp (by omega) hne); obtain ⟨c13, x13⟩ := hs7.cell (i := 13) (by omega); have xf := hs7.froz; have HQ7 := hidLL (And.intro hq (And.intro hbt hs7)); clear hb hq hr hs7 hbt))
    go_end0
    obtain rfl := HR.out
    refine ⟨(HQ3.out.2.1.then (HQ7.out.2.1.y sp) (by omega)).set 13 _, HQ7.out.1.set HL.out hB 13 _, rfl, s0, s1, i2, ka, kn, kc, t0, t1, j2, la, ln, lc, HQ7.out.2.2.set 13 _, HQ3.out.2.2.2.1.step fun b hb hp => ⟨(Below.heap_setCell _ _ _ _ (show b ≠ sp by omega)).trans (HQ7.out.2.1.block b hb (by omega)), hp⟩, HQ3.out.2.2.2.2.step fun b hb hp => ⟨(Below.heap_setCell _ _ _ _ (show b ≠ sp by omega)).trans (HQ7.out.2.1.block b hb (by omega)), hp⟩⟩
end Go.Proofs.YtehbinobohjadaaGreatDoor
namespace Go.Proofs.YtehbinobohjadaaGreatDoor
open Go.RowKit Go.Extern.Stop Go.Stop Go.Extern

/-- A sentence under way: the reader, the block, nothing else. -/
def Way (L : List Tok) (rp tb sp : Nat) (w W : World) (k n : Nat) (cs : Array Value) : Prop := QS L rp tb W k n ∧ BelY w.heap.size rp sp w W ∧ SB W sp cs
theorem Way.set {L : List Tok} {rp tb sp B : Nat} {w W : World} {k n : Nat} {cs : Array Value} (h : Way L rp tb sp w W k n cs) (lo : Lows rp tb B) (hB : B ≤ sp) (i : Nat) (u : Value) : Way L rp tb sp w (W.setCell ⟨sp, i, none⟩ u) k n (cs.setIfInBounds i u) := ⟨h.1.set lo hB i u, h.2.1.set i u, h.2.2.set i u⟩
theorem Way.step {L : List Tok} {rp tb sp : Nat} {w W W' : World} {k n k' n' : Nat} {cs : Array Value} (h : Way L rp tb sp w W k n cs) (hb : BelX W.heap.size rp W W') (hq : QS L rp tb W' k' n') (hne : sp ≠ rp) : Way L rp tb sp w W' k' n' cs := ⟨hq, h.2.1.then (hb.y sp) h.2.1.size, h.2.2.keep (hb.block sp h.2.2.in hne)⟩
set_option maxHeartbeats 4000000 in
theorem duty_q {L : List Tok} {rp tb sp B : Nat} {w : World} {k n : Nat} {cs : Array Value} (h : QS L rp tb w k n) (hs : SB w sp cs) (lo : Lows rp tb B) (hB : B ≤ sp) (hr0 : cs[17]? = some (.int .i64 0)) (he0 : cs[18]? = some (.string ⟨#[]⟩)) :
    Calls Tryz.prog 43 #[.pointer (some ⟨rp, 0, none⟩), .pointer (some ⟨sp, 0, none⟩)] w fun e w' => QEndY L rp tb sp w (dutyQ L k n) (fun x w' => SB w' sp ((((((cs.setIfInBounds 3 (.bool x.1.1)).setIfInBounds 4 (.string x.1.2)).setIfInBounds 15 (.int .i64 x.2.1)).setIfInBounds 16 (.int .i64 x.2.2.1)).setIfInBounds 17 (.int .i64 x.2.2.2.1)).setIfInBounds 18 (.string x.2.2.2.2))) e w' := by
  have hne : sp ≠ rp := by have := lo.r; omega
  have HL := hidLL lo
  obtain ⟨R, hR⟩ : ∃ R, R = dutyQ L k n := ⟨_, rfl⟩
  rw [← hR]
  have HR : Hid (R = (litQ L k n).bind fun l k n => (needQ L ⟨#[119, 105, 116, 104, 105, 110]⟩ k n).bind fun _ k n => (lengthQ L k n).bind fun t k n => (oneOfQ L unitsW k n).bind fun u k n => (rollQ L k n).bind fun r k n => (tailQ L k n).bind fun e k n => .ok (l, t, u, r, e) k n) := hR
  have HLi := hidLL (literal_q h hs lo hB)
  have HD := need_c (L := L) (rp := rp) (tb := tb) ⟨#[119, 105, 116, 104, 105, 110]⟩ (by decide)
  have HLe := hidLL (fun (W : World) (k n : Nat) (hq : QS L rp tb W k n) => length_q hq)
  have HN := name_c (L := L) (rp := rp) (tb := tb)
  have HZ := hidLL (And.intro hr0 he0)
  clear h hs lo hR hr0 he0
  go_enter Tryz.func43, Tryz.ntmps43
  go_upto_region 3 with (first | (go_at_call 82; refine (HLi.out).mono ?_; rintro e W2 hE; rcases hr : litQ L k n with _ | ⟨c, a⟩ | ⟨x1, k1, n1⟩; (· exact absurd hr litQ_not); (· rw [hr] at hE; obtain ⟨hb, ⟨p, rfl⟩⟩ := hE; obtain rfl : R = .bad c a := (by rw [HR.out, hr, PR.bind_bad]); exact (show _ ∧ _ from ⟨rfl, hb, ⟨_, rfl⟩⟩)); rw [hr] at hE; obtain ⟨hb, hq, rfl, hs2⟩ := hE; rw [hr, PR.bind_ok] at HR; have HW2 := hidLL (show Way L rp tb sp w W2 k1 n1 _ from ⟨hq, hb, hs2⟩); clear hs2; clear hb hq hr) | (go_at_call 39; refine (HD.out _ _ _ HW2.out.1).mono ?_; rintro e W3 hE; rcases hr : needQ L ⟨#[119, 105, 116, 104, 105, 110]⟩ k1 n1 with _ | ⟨c, a⟩ | ⟨x2, k2, n2⟩; (· exact absurd hr needQ_not); (· rw [hr] at hE; obtain ⟨hb, ⟨p, rfl⟩⟩ := hE; obtain rfl : R = .bad c a := (by rw [HR.out, hr, PR.bind_bad]); exact (show _ ∧ _ from ⟨rfl, HW2.out.2.1.then (hb.y sp) HW2.out.2.1.size, ⟨_, rfl⟩⟩)); rw [hr] at hE; obtain ⟨hb, hq, v, rfl, rfl⟩ := hE; rw [hr, PR.bind_ok] at HR; have HW3 := hidLL (HW2.out.step hb hq hne); clear hb hq hr) | (go_at_call 87; refine (HLe.out _ _ _ HW3.out.1).mono ?_; rintro e W4 hE; rcases hr : lengthQ L k2 n2 with _ | ⟨c, a⟩ | ⟨x3, k3, n3⟩; (· exact absurd hr lengthQ_not); (· rw [hr] at hE; obtain ⟨hb, ⟨p, rfl⟩⟩ := hE; obtain rfl : R = .bad c a := (by rw [HR.out, hr, PR.bind_bad]); exact (show _ ∧ _ from ⟨rfl, HW3.out.2.1.then (hb.y sp) HW3.out.2.1.size, ⟨_, rfl⟩⟩)); rw [hr] at hE; obtain ⟨hb, hq, v, rfl, rfl⟩ := hE; rw [hr, PR.bind_ok] at HR; have hw4 := HW3.out.step hb hq hne; obtain ⟨c15, x15⟩ := hw4.2.2.cell (i := 15) (by omega); have xf := hw4.2.2.froz; have HW4 := hidLL hw4; clear hw4; clear hb hq hr))
  obtain ⟨V4, hV4⟩ : ∃ V4, V4 = W4.setCell ⟨sp, 15, none⟩ (.int .i64 x3) := ⟨_, rfl⟩
  rw [← hV4]
  have HV4 := hidLL (show Way L rp tb sp w V4 k3 n3 _ by rw [hV4]; exact HW4.out.set HL.out hB 15 (.int .i64 x3))
  clear hV4 HW4 x15 xf
  go_upto_region 4 with (first | (go_at_call 88; refine (units_q _).mono ?_; rintro e W5 hrow; have he := hrow.e; subst he; have HO := hidLL (oneOf_row HV4.out.1 hrow (by decide)); clear hrow) | (go_at_call 85; refine (HO.out).mono ?_; rintro e W6 hE; rcases hr : oneOfQ L unitsW k3 n3 with _ | ⟨c, a⟩ | ⟨x4, k4, n4⟩; (· exact absurd hr oneOfQ_not); (· rw [hr] at hE; obtain ⟨hb, ⟨p, rfl⟩⟩ := hE; obtain rfl : R = .bad c a := (by rw [HR.out, hr, PR.bind_bad]); exact (show _ ∧ _ from ⟨rfl, HV4.out.2.1.then (hb.y sp) HV4.out.2.1.size, ⟨_, rfl⟩⟩)); rw [hr] at hE; obtain ⟨hb, hq, v, rfl, rfl⟩ := hE; rw [hr, PR.bind_ok] at HR; have hw6 := HV4.out.step hb hq hne; obtain ⟨c16, x16⟩ := hw6.2.2.cell (i := 16) (by omega); have xf := hw6.2.2.froz; have HW6 := hidLL hw6; clear hw6; clear hb hq hr))
  obtain ⟨V6, hV6⟩ : ∃ V6, V6 = W6.setCell ⟨sp, 16, none⟩ (.int .i64 x4) := ⟨_, rfl⟩
  rw [← hV6]
  have HV6 := hidLL (show Way L rp tb sp w V6 k4 n4 _ by rw [hV6]; exact HW6.out.set HL.out hB 16 (.int .i64 x4))
  clear hV6 HW6 x16 xf
  obtain ⟨D, hD⟩ : ∃ D, D = ((((cs.setIfInBounds 3 (.bool x1.1)).setIfInBounds 4 (.string x1.2)).setIfInBounds 15 (.int .i64 x3)).setIfInBounds 16 (.int .i64 x4)) := ⟨_, rfl⟩
  have hD17 : D[17]? = some (.int .i64 0) := by rw [hD]; simp [HZ.out.1]
  have hD18 : D[18]? = some (.string ⟨#[]⟩) := by rw [hD]; simp [HZ.out.2]
  rw [← hD] at HV6
  have HDD := hidLL (And.intro hD (And.intro hD17 hD18))
  clear hD hD17 hD18
  have HRr := HR.out
  unfold rollQ sg at HRr
  cases hi1 : isQ L ⟨#[44]⟩ k4 with
  | false =>
    rw [hi1, if_neg (by simp), PR.bind_ok] at HRr
    have HT1 := hidLL (take_no HV6.out.1 ⟨#[44]⟩ hi1)
    have HR := hidLL HRr
    clear hi1 HRr
    go_upto_region 6 with (go_at_call 80; refine HT1.out.mono ?_; rintro e W7 ⟨rfl, rfl⟩)
    have hv := HV6.out
    rw [show D = D.setIfInBounds 17 (.int .i64 (0 : Nat)) from (set_same HDD.out.2.1).symm] at hv
    have HV7 := hidLL hv
    clear hv
    have HR' := HR.out
    unfold tailQ wElse at HR'
    have hV18 : (D.setIfInBounds 17 (.int .i64 (0 : Nat)))[18]? = some (.string ⟨#[]⟩) := by rw [Array.getElem?_setIfInBounds_ne (by omega)]; exact HDD.out.2.2
    have HV18 := hidLL hV18
    clear hV18
    cases hi2 : isQ L ⟨#[101, 108, 115, 101]⟩ k4 with
    | false =>
      rw [hi2, if_neg (by simp), PR.bind_ok] at HR'
      have HT2 := hidLL (take_no HV7.out.1 ⟨#[101, 108, 115, 101]⟩ hi2)
      have HR2 := hidLL HR'
      clear hi2 HR'
      go_wp2_with (go_at_call 80; refine HT2.out.mono ?_; rintro e W8 ⟨rfl, rfl⟩)
      go_end0
      obtain rfl := HR2.out
      refine ⟨HV7.out.2.1, HV7.out.1, rfl, ?_⟩
      have h9 := HV7.out.2.2
      rw [← set_same HV18.out, HDD.out.1] at h9
      exact h9
    | true =>
      rw [hi2, if_pos rfl] at HR'
      have HT2 := hidLL (take_yes HV7.out.1 ⟨#[101, 108, 115, 101]⟩ (by decide) hi2)
      have HR := hidLL HR'
      clear hi2 HR'
      go_wp2_with (first | (go_at_call 80; refine HT2.out.mono ?_; rintro e W8 ⟨rfl, hq, hb⟩; have HW8 := hidLL (HV7.out.step hb hq hne); clear hq hb) | (go_at_call 36; refine (HN.out _ _ _ HW8.out.1).mono ?_; rintro e W9 hE; rcases hr : nameQ L (k4 + 1) n4 with _ | ⟨c, a⟩ | ⟨x6, k6, n6⟩; (· exact absurd hr nameQ_not); (· rw [hr] at hE; obtain ⟨hb, ⟨p, rfl⟩⟩ := hE; obtain rfl : R = .bad c a := (by rw [HR.out, hr, PR.bind_bad]); exact (show _ ∧ _ from ⟨rfl, HW8.out.2.1.then (hb.y sp) HW8.out.2.1.size, ⟨_, rfl⟩⟩)); rw [hr] at hE; obtain ⟨hb, hq, v, rfl, rfl⟩ := hE; rw [hr, PR.bind_ok] at HR; have hw9 := HW8.out.step hb hq hne; obtain ⟨c18, x18⟩ := hw9.2.2.cell (i := 18) (by omega); have xf := hw9.2.2.froz; have HW9 := hidLL hw9; clear hw9; clear hb hq hr))
      go_end0
      obtain rfl := HR.out
      have h9 := HW9.out.set HL.out hB 18 (.string x6)
      refine ⟨h9.2.1, h9.1, rfl, ?_⟩
      have h8 := h9.2.2
      rw [HDD.out.1] at h8
      exact h8
  | true =>
    rw [hi1, if_pos rfl] at HRr
    have HT1 := hidLL (take_yes HV6.out.1 ⟨#[44]⟩ (by decide) hi1)
    have HR := hidLL HRr
    clear hi1 HRr
    go_upto_region 6 with (first | (go_at_call 80; refine HT1.out.mono ?_; rintro e W7 ⟨rfl, hq, hb⟩; have HW7 := hidLL (HV6.out.step hb hq hne); clear hq hb) | (go_at_call 89; refine (rolls_q _).mono ?_; rintro e Wr hrow; have he := hrow.e; subst he; have HOr := hidLL (oneOf_row HW7.out.1 hrow (by decide)); clear hrow) | (go_at_call 85; refine (HOr.out).mono ?_; rintro e W8 hE; rcases hr : oneOfQ L rollsQ (k4 + 1) n4 with _ | ⟨c, a⟩ | ⟨x5, k5, n5⟩; (· exact absurd hr oneOfQ_not); (· rw [hr] at hE; obtain ⟨hb, ⟨p, rfl⟩⟩ := hE; obtain rfl : R = .bad c a := (by rw [HR.out, hr, PR.bind_bad]); exact (show _ ∧ _ from ⟨rfl, HW7.out.2.1.then (hb.y sp) HW7.out.2.1.size, ⟨_, rfl⟩⟩)); rw [hr] at hE; obtain ⟨hb, hq, v, rfl, rfl⟩ := hE; rw [hr, PR.bind_ok] at HR; have hw8 := HW7.out.step hb hq hne; obtain ⟨c17, x17⟩ := hw8.2.2.cell (i := 17) (by omega); have xf := hw8.2.2.froz; have HW8' := hidLL hw8; clear hw8; clear hb hq hr))
    obtain ⟨V7, hV7⟩ : ∃ V7, V7 = W8.setCell ⟨sp, 17, none⟩ (.int .i64 x5) := ⟨_, rfl⟩
    rw [← hV7]
    have HV7 := hidLL (show Way L rp tb sp w V7 k5 n5 _ by rw [hV7]; exact HW8'.out.set HL.out hB 17 (.int .i64 x5))
    clear hV7 HW8' x17 xf
    have HR' := HR.out
    unfold tailQ wElse at HR'
    have hV18 : (D.setIfInBounds 17 (.int .i64 x5))[18]? = some (.string ⟨#[]⟩) := by rw [Array.getElem?_setIfInBounds_ne (by omega)]; exact HDD.out.2.2
    have HV18 := hidLL hV18
    clear hV18
    cases hi2 : isQ L ⟨#[101, 108, 115, 101]⟩ k5 with
    | false =>
      rw [hi2, if_neg (by simp), PR.bind_ok] at HR'
      have HT2 := hidLL (take_no HV7.out.1 ⟨#[101, 108, 115, 101]⟩ hi2)
      have HR2 := hidLL HR'
      clear hi2 HR'
      go_wp2_with (go_at_call 80; refine HT2.out.mono ?_; rintro e W8 ⟨rfl, rfl⟩)
      go_end0
      obtain rfl := HR2.out
      refine ⟨HV7.out.2.1, HV7.out.1, rfl, ?_⟩
      have h9 := HV7.out.2.2
      rw [← set_same HV18.out, HDD.out.1] at h9
      exact h9
    | true =>
      rw [hi2, if_pos rfl] at HR'
      have HT2 := hidLL (take_yes HV7.out.1 ⟨#[101, 108, 115, 101]⟩ (by decide) hi2)
      have HR := hidLL HR'
      clear hi2 HR'
      go_wp2_with (first | (go_at_call 80; refine HT2.out.mono ?_; rintro e W8 ⟨rfl, hq, hb⟩; have HW8 := hidLL (HV7.out.step hb hq hne); clear hq hb) | (go_at_call 36; refine (HN.out _ _ _ HW8.out.1).mono ?_; rintro e W9 hE; rcases hr : nameQ L (k5 + 1) n5 with _ | ⟨c, a⟩ | ⟨x6, k6, n6⟩; (· exact absurd hr nameQ_not); (· rw [hr] at hE; obtain ⟨hb, ⟨p, rfl⟩⟩ := hE; obtain rfl : R = .bad c a := (by rw [HR.out, hr, PR.bind_bad]); exact (show _ ∧ _ from ⟨rfl, HW8.out.2.1.then (hb.y sp) HW8.out.2.1.size, ⟨_, rfl⟩⟩)); rw [hr] at hE; obtain ⟨hb, hq, v, rfl, rfl⟩ := hE; rw [hr, PR.bind_ok] at HR; have hw9 := HW8.out.step hb hq hne; obtain ⟨c18, x18⟩ := hw9.2.2.cell (i := 18) (by omega); have xf := hw9.2.2.froz; have HW9 := hidLL hw9; clear hw9; clear hb hq hr))
      go_end0
      obtain rfl := HR.out
      have h9 := HW9.out.set HL.out hB 18 (.string x6)
      refine ⟨h9.2.1, h9.1, rfl, ?_⟩
      have h8 := h9.2.2
      rw [HDD.out.1] at h8
      exact h8
end Go.Proofs.YtehbinobohjadaaGreatDoor
