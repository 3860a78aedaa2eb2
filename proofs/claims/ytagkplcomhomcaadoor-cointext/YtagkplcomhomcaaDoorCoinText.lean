/-
  The law CoinText, walked.
-/
import Derived.Test.YtagkplcomhomcaaDoorRefText
import Derived.Test.YtagkplcomhomcaaDoorCoinRead
namespace Go.Proofs.YtagkplcomhomcaaDoor
open Go.RowKit Go.Lib

/-- The text of an amount, its sign in front. -/
def tx (n : Int) : List UInt8 := if n < 0 then 45 :: txt n.natAbs else txt n.natAbs
def I64 (n : Int) : Prop := -9223372036854775808 ≤ n ∧ n ≤ 9223372036854775807

theorem text_any (n : Int) (hn : I64 n) (w : World) (htab : TabIs Tryd.prog w "internal/strconv.uint64pow10" .u64 pow10Tab) :
    Calls Tryd.prog 15 #[.int .i64 n] w fun e w' => e = .returned (.string ⟨(tx n).toArray⟩) ∧ Below w.heap.size w w' := by
  unfold I64 at hn
  unfold tx
  by_cases h : n < 0
  · rw [if_pos h]
    have h1 := text_neg n.natAbs (by omega) (by omega) w htab
    rwa [show -(n.natAbs : Int) = n by omega] at h1
  · rw [if_neg h]
    have h1 := text_pos n.natAbs (by omega) w htab
    rwa [show (n.natAbs : Int) = n by omega] at h1
theorem ref_any (n : Int) (hn : I64 n) (w : World) :
    Calls Tryd.prog 16 #[.int .i64 n] w fun e w' => e = .returned (.string ⟨(tx n).toArray⟩) ∧ Below w.heap.size w w' := by
  unfold I64 at hn
  have same : ∀ (s : ByteArray) (l : List UInt8), bl s = l → s = ⟨l.toArray⟩ := fun s l h => by subst h; cases s; simp [bl]
  unfold tx
  by_cases h : n < 0
  · rw [if_pos h]
    have h1 := ref_neg n.natAbs (by omega) (by omega) w
    rw [show -(n.natAbs : Int) = n by omega] at h1
    exact h1.mono fun e w' ⟨⟨s, he, hs⟩, hb⟩ => ⟨by rw [he, same s _ hs], hb⟩
  · rw [if_neg h]
    have h1 := ref_pos n.natAbs (by omega) w
    rw [show (n.natAbs : Int) = n by omega] at h1
    exact h1.mono fun e w' ⟨⟨s, he, hs⟩, hb⟩ => ⟨by rw [he, same s _ hs], hb⟩

def smallB (n : Int) : Bool := decide (n ≤ 1000000000000) && decide (-1000000000000 ≤ n)
theorem smallN_any (n : Int) (w : World) : Calls Tryd.prog 17 #[.int .i64 n] w fun e w' => e = .returned (.bool (smallB n)) ∧ w' = w := by
  cases d1 : decide (n ≤ 1000000000000)
  · have HE : Hid (smallB n = false) := by show _ = _; simp only [smallB, d1, Bool.false_and]
    go_enter Tryd.func17, Tryd.ntmps17
    go_wp2
    go_ret
    exact ⟨by rw [HE.out]; rfl, rfl⟩
  · have HE : Hid (smallB n = decide (-1000000000000 ≤ n)) := by show _ = _; simp only [smallB, d1, Bool.true_and]
    cases d2 : decide (-1000000000000 ≤ n)
    · rw [d2] at HE
      go_enter Tryd.func17, Tryd.ntmps17
      go_wp2
      go_ret
      exact ⟨by rw [HE.out]; rfl, rfl⟩
    · rw [d2] at HE
      go_enter Tryd.func17, Tryd.ntmps17
      go_wp2
      go_ret
      exact ⟨by rw [HE.out]; rfl, rfl⟩

/-- What the text is read as. -/
theorem parts (u : Nat) (b : ByteArray) (h : bl b = txt u) : wf (bl (b.extract 0 (runLen isW (bl b)))) < 0 ∧ cf (bl (b.extract (runLen isW (bl b)) b.size)) < 0 ∧
    pv (bl (b.extract 0 (runLen isW (bl b)))) = ((min (u / 100) 1000000000001 : Nat) : Int) ∧ pv (bl (b.extract (runLen isW (bl b)) b.size)) = ((u % 100 : Nat) : Int) := by
  obtain ⟨t, ht⟩ : ∃ t, nDigits (u / 100) = t + 1 := ⟨nDigits (u / 100) - 1, by have := nDigits_pos (u / 100); omega⟩
  have e1 : bl (b.extract 0 (runLen isW (bl b))) = W u (nDigits (u / 100)) := by
    rw [bl_whole, h, txt_W]; exact (take_W u _ _).1
  have e2 : bl (b.extract (runLen isW (bl b)) b.size) = [46, dg u 1, dg u 0] := by
    have h2 : bl (b.extract (runLen isW (bl b)) b.size) = (bl b).drop (runLen isW (bl b)) := extract_to_end b _
    rw [h2, h, txt_W, (take_W u _ _).2, List.drop_left]
  rw [e1, e2]
  exact ⟨by rw [ht]; exact wf_W u t, cf_cents u, pv_whole u, pv_cents u⟩

theorem bl_mk (l : List UInt8) : bl ⟨l.toArray⟩ = l := by simp [bl]
theorem txt_head (u : Nat) : (txt u).head? ≠ some 45 := by
  obtain ⟨k, hk⟩ : ∃ k, nDigits (u / 100) + 2 = k + 1 := ⟨nDigits (u / 100) + 1, rfl⟩
  rw [txt, hk, S]
  intro h
  have h1 : dg u k = 45 := by simpa using h
  have := dg_isDg u k
  rw [h1] at this
  exact absurd this (by decide)
theorem cut_tx (n : Int) (hn : I64 n) : ∃ b ahead, bl b = txt n.natAbs ∧ Cut ⟨(tx n).toArray⟩ b (decide (n < 0)) ahead := by
  unfold I64 at hn
  have hl := txt_len n.natAbs (by omega)
  have hsz : ∀ l : List UInt8, (⟨l.toArray⟩ : ByteArray).size = l.length := fun l => by rw [← size_bl, bl_mk]
  unfold tx
  by_cases h : n < 0
  · rw [if_pos h, decide_eq_true h]
    have hb : bl ((⟨(45 :: txt n.natAbs).toArray⟩ : ByteArray).extract 1 (⟨(45 :: txt n.natAbs).toArray⟩ : ByteArray).size) = txt n.natAbs := by
      have h2 := extract_to_end (⟨(45 :: txt n.natAbs).toArray⟩ : ByteArray) 1
      refine Eq.trans h2 ?_
      show (bl ⟨(45 :: txt n.natAbs).toArray⟩).drop 1 = _
      rw [bl_mk]; rfl
    refine ⟨_, 1, hb, ⟨fun w => cut_yes _ w (by rw [bl_mk]; rfl), ?_, ?_⟩⟩
    · rw [← size_bl (ByteArray.extract _ _ _), hb, hsz]; simp; omega
    · rw [hsz]; simp; omega
  · rw [if_neg h, decide_eq_false h]
    refine ⟨_, 0, bl_mk _, ⟨fun w => cut_no _ w (by rw [bl_mk]; exact txt_head _), by omega, ?_⟩⟩
    rw [hsz]; omega

theorem back_small (n : Int) (hn : I64 n) (hs : smallB n = true) (m : Int) (a : Addr) (w : World) (hm : w.cell? ⟨13, 0, none⟩ = some (.int .i64 m)) (h2 : w.cell? ⟨2, 0, none⟩ = some (.iface 144 (.pointer (some a)))) :
    Calls Tryd.prog 12 #[.string ⟨(tx n).toArray⟩] w fun e w' => e = .returned (.tuple #[.int .i64 n, .nilIface]) ∧ Below w.heap.size w w' := by
  obtain ⟨b, ahead, hb, C⟩ := cut_tx n hn
  obtain ⟨h1, hc, p1, p2⟩ := parts n.natAbs b hb
  have hu : n.natAbs ≤ 1000000000000 := by simp [smallB] at hs; omega
  have hv : pv (bl (b.extract 0 (runLen isW (bl b)))) * 100 + pv (bl (b.extract (runLen isW (bl b)) b.size)) = (n.natAbs : Int) := by
    rw [p1, p2, Nat.min_eq_left (by omega)]; omega
  have h := read_fine _ b _ ahead C m a w hm h2 h1 hc (by rw [hv]; omega)
  rw [hv] at h
  refine h.mono fun e w' ⟨he, hb⟩ => ⟨?_, hb⟩
  rw [he]
  by_cases hneg : n < 0
  · rw [if_pos (decide_eq_true hneg), show -(n.natAbs : Int) = n by omega]
  · rw [if_neg (by simpa using hneg), show (n.natAbs : Int) = n by omega]
theorem back_large (n : Int) (hn : I64 n) (hs : smallB n = false) (m : Int) (a : Addr) (w : World) (hm : w.cell? ⟨13, 0, none⟩ = some (.int .i64 m)) (h2 : w.cell? ⟨2, 0, none⟩ = some (.iface 144 (.pointer (some a)))) :
    Calls Tryd.prog 12 #[.string ⟨(tx n).toArray⟩] w fun e w' => (∃ b, e = .returned (.tuple #[.int .i64 0, .iface 59 (.pointer (some b))])) ∧ Below w.heap.size w w' := by
  obtain ⟨b, ahead, hb, C⟩ := cut_tx n hn
  obtain ⟨h1, hc, p1, p2⟩ := parts n.natAbs b hb
  have hu : 1000000000000 < n.natAbs := by simp [smallB] at hs; omega
  have hv : 1000000000000 < pv (bl (b.extract 0 (runLen isW (bl b)))) * 100 + pv (bl (b.extract (runLen isW (bl b)) b.size)) := by
    rw [p1, p2]; omega
  have h := read_great _ b _ ahead C m a w hm h2 h1 hc hv
  exact h.mono fun e w' ⟨blk, he, hb, _⟩ => ⟨⟨_, he⟩, hb⟩
theorem tx5 : tx (-5) = [45, 48, 46, 48, 53] := by
  unfold tx txt
  rw [show (-5 : Int).natAbs = 5 from rfl, show 5 / 100 = 0 from rfl, nDigits_small (by decide)]
  decide

set_option maxHeartbeats 4000000 in
set_option maxRecDepth 100000 in
theorem coinText_walk (n : Int) (hn : I64 n) (m : Int) (a : Addr) (w : World) (hm : w.cell? ⟨13, 0, none⟩ = some (.int .i64 m)) (h2 : w.cell? ⟨2, 0, none⟩ = some (.iface 144 (.pointer (some a)))) (htab : TabIs Tryd.prog w "internal/strconv.uint64pow10" .u64 pow10Tab) :
    Calls Tryd.prog 5 #[.int .i64 n] w fun e w' => e = .returned (.bool true) ∧ Below w.heap.size w w' := by
  have HT := hidIt htab
  have H13 := hidIt hm
  have H2 := hidIt h2
  have HX : Hid (∀ w', TabIs Tryd.prog w' "internal/strconv.uint64pow10" .u64 pow10Tab → Calls Tryd.prog 15 #[.int .i64 (-5)] w' fun e w'' => e = .returned (.string ⟨#[45, 48, 46, 48, 53]⟩) ∧ Below w'.heap.size w' w'') := fun w' h => by
    have := text_any (-5) (by unfold I64; omega) w' h
    rwa [tx5] at this
  have HY := hidIt (fun w' h => text_any n hn w' h)
  have HR := hidIt (fun w' => ref_any n hn w')
  have HS := hidIt (fun w' => smallN_any n w')
  have HBs := hidIt (fun (hs : smallB n = true) w' h13 h2 => back_small n hn hs m a w' h13 h2)
  have HBl := hidIt (fun (hs : smallB n = false) w' h13 h2 => back_large n hn hs m a w' h13 h2)
  clear hm h2 htab hn
  generalize (⟨(tx n).toArray⟩ : ByteArray) = s at *
  cases hsm : smallB n
  · go_enter Tryd.func5, Tryd.ntmps5
    go_wp2_with fail
    refine (HX.out _ HT.out).mono ?_
    rintro e w1 ⟨rfl, b1⟩
    have HB1 := hidIt b1
    clear b1
    go_wp2_with fail
    refine (HY.out _ (tab_below HT.out HB1.out (Nat.le_refl _))).mono ?_
    rintro e w2 ⟨rfl, b2⟩
    have HB2 := hidIt (HB1.out.trans (b2.mono HB1.out.size))
    clear b2
    go_wp2_with fail
    refine (HR.out _).mono ?_
    rintro e w3 ⟨rfl, b3⟩
    have HB3 := hidIt (HB2.out.trans (b3.mono HB2.out.size))
    clear b3
    go_wp2_with fail
    refine (HS.out _).mono ?_
    rintro e w4 ⟨rfl, rfl⟩
    rw [hsm]
    go_wp2_with fail
    refine (HBl.out hsm _ (cell_below H13.out HB3.out) (cell_below H2.out HB3.out)).mono ?_
    rintro e w5 ⟨⟨b, rfl⟩, b5⟩
    have HB5 := hidIt (HB3.out.trans (b5.mono HB3.out.size))
    clear b5
    go_wp2
    go_ret
    exact ⟨rfl, HB5.out⟩
  · go_enter Tryd.func5, Tryd.ntmps5
    go_wp2_with fail
    refine (HX.out _ HT.out).mono ?_
    rintro e w1 ⟨rfl, b1⟩
    have HB1 := hidIt b1
    clear b1
    go_wp2_with fail
    refine (HY.out _ (tab_below HT.out HB1.out (Nat.le_refl _))).mono ?_
    rintro e w2 ⟨rfl, b2⟩
    have HB2 := hidIt (HB1.out.trans (b2.mono HB1.out.size))
    clear b2
    go_wp2_with fail
    refine (HR.out _).mono ?_
    rintro e w3 ⟨rfl, b3⟩
    have HB3 := hidIt (HB2.out.trans (b3.mono HB2.out.size))
    clear b3
    go_wp2_with fail
    refine (HS.out _).mono ?_
    rintro e w4 ⟨rfl, rfl⟩
    rw [hsm]
    go_wp2_with fail
    refine (HBs.out hsm _ (cell_below H13.out HB3.out) (cell_below H2.out HB3.out)).mono ?_
    rintro e w5 ⟨rfl, b5⟩
    have HB5 := hidIt (HB3.out.trans (b5.mono HB3.out.size))
    clear b5
    go_wp2
    go_ret
    exact ⟨rfl, HB5.out⟩
end Go.Proofs.YtagkplcomhomcaaDoor
