/-
  ReasonFirm: the law's walk.
-/
import Derived.Test.YtmbclnaenjcocaaDoorRsLaw3
import Derived.Test.YtmbclnaenjcocaaDoorRsOrd3
import Derived.Test.YtmbclnaenjcocaaDoorRsSol
import Derived.Test.YtmbclnaenjcocaaDoorRsFirm0
namespace Go.Proofs.YtmbclnaenjcocaaDoor
open Go.RowKit

set_option maxHeartbeats 4000000 in
set_option maxRecDepth 100000 in
theorem firm_none {w : World} {p : Nat → Addr} (hE : Sent4 w p) : Calls Tryd.prog 4 #[.pointer none] w fun e w' => e = .returned (.bool true) ∧ Below w.heap.size w w' := by
  have HL := hidLL (live_w hE ordC)
  clear hE
  go_enter Tryd.func4, Tryd.ntmps4
  go_wp2_with fail
  refine HL.out.mono ?_
  rintro e w1 ⟨rfl, hb⟩
  have HB := hidLL hb
  clear hb
  go_wp2
  go_ret
  exact ⟨rfl, HB.out⟩
set_option maxHeartbeats 4000000 in
set_option maxRecDepth 100000 in
theorem firm_w {w : World} {p : Nat → Addr} (hE : Sent4 w p) {B : Nat} {T : Thy} {rv ov : Value} {pb po : Nat} (h : TP w B T rv ov pb po) (hB : B ≤ w.heap.size) : Calls Tryd.prog 4 #[.pointer (some ⟨pb, po, none⟩)] w fun e w' => e = .returned (.bool true) ∧ Below w.heap.size w w' := by
  have HL := hidLL (live_w hE ordC)
  have HX : Hid (∀ W, Below w.heap.size w W → TP W B T rv ov pb po ∧ B ≤ W.heap.size ∧ Sent4 W p) := fun W hW => ⟨h.bel hW hB, by have := hW.size; omega, hE.bel hW⟩
  clear hE h hB
  go_enter Tryd.func4, Tryd.ntmps4
  go_wp2_with fail
  refine HL.out.mono ?_
  rintro e w1 ⟨rfl, hb1⟩
  have HB1 := hidLL hb1
  clear hb1 HL
  go_wp2_with fail
  refine (few_w (HX.out w1 HB1.out).1).mono ?_
  rintro e w2 ⟨b, rfl, ew⟩
  subst ew
  cases b with
  | false =>
    go_wp2
    go_ret
    exact ⟨rfl, HB1.out⟩
  | true =>
    go_wp2_with fail
    refine (theory_w (HX.out w2 HB1.out).1 (HX.out w2 HB1.out).2.1).mono ?_
    rintro e w3 ⟨rv', ov', rfl, hM, hb3⟩
    have HB3 := hidLL (HB1.out.trans (hb3.mono HB1.out.size))
    have HM := hidLL hM
    clear hb3 hM
    go_wp2_with fail
    refine (solve_v HM.out (Nat.le_refl _) (HX.out w3 HB3.out).2.2 (fun h W hW => ordC T _ _ w3.heap.size W h (HM.out.below hW (Nat.le_refl _)) hW.size)).mono ?_
    rintro e w4 ⟨hb4, ⟨k, hk, rfl⟩ | ⟨hk, bS, bH, s, rfl, _, _, hS, hH, hF, hQ⟩⟩
    · have HB4 := hidLL (HB3.out.trans (hb4.mono HB3.out.size))
      clear hb4 hk
      unfold errV
      go_wp2
      go_ret
      exact ⟨rfl, HB4.out.alloc HB4.out.size _⟩
    · have HB4 := hidLL (HB3.out.trans (hb4.mono HB3.out.size))
      have hOR : Okt T ∧ Ranked T := by
        rcases hk with ⟨e, _⟩ | ⟨e, _⟩ | ⟨e, _⟩ | ⟨e, _⟩ | ⟨_, h1, _, h3, h4⟩
        · cases e
        · cases e
        · cases e
        · cases e
        · exact ⟨okt_of h1 h3, h4⟩
      have c0 := (HX.out w4 HB4.out).1.c0
      obtain ⟨N, hN⟩ : ∃ N, N = (shOf T).N := ⟨_, rfl⟩
      have hNn : T.names = (N : Int) := by
        rw [hN]
        show T.names = (T.names.toNat : Int)
        have := hOR.1.n0
        omega
      have hN1 : N ≤ 120 := by have := hOR.1.n1; omega
      have hfirm : ∀ q, q < 2 * N → _ := fun q hq => firm_at hOR.1 hF hQ hOR.2 (p := q) (by rw [← hN]; exact hq)
      have ht1 := hF.1.t1
      have ht2 := hF.1.t2
      rw [hNn] at c0
      rw [← hN] at hS hH ⊢
      have hlS := hS.lt
      have hlH := hH.lt
      have hpl := cell_lt c0
      have HFI := hidLL (And.intro hfirm (And.intro hS hH))
      have HT := hidLL (And.intro ht1 ht2)
      clear hfirm hS hH hNn hN hOR hF hQ hk hb4 HM HX HB1 HB3 ht1 ht2
      go_wp2_with fail
      obtain ⟨W5, hW5⟩ : ∃ W5 : World, W5 = w4.alloc (.cells #[.slice (some ⟨bS, 0, none⟩) (2 * N) (2 * N), .slice (some ⟨bH, 0, none⟩) (2 * N) (2 * N)] 27) := ⟨_, rfl⟩
      obtain ⟨kb, hkb⟩ : ∃ kb, kb = w4.heap.size := ⟨_, rfl⟩
      rw [← hW5, ← hkb]
      have hb5 : Below w4.heap.size w4 W5 := by rw [hW5]; exact (Below.refl _ _).alloc (Nat.le_refl _) _
      have hk5 : W5.heap[kb]? = some (.cells #[.slice (some ⟨bS, 0, none⟩) (2 * N) (2 * N), .slice (some ⟨bH, 0, none⟩) (2 * N) (2 * N)] 27) := by rw [hW5, hkb]; exact blk_new _ _
      have k0 : W5.cell? ⟨kb, 0, none⟩ = some (.slice (some ⟨bS, 0, none⟩) (2 * N) (2 * N)) := by simp [World.cell?, hk5]
      have k1 : W5.cell? ⟨kb, 1, none⟩ = some (.slice (some ⟨bH, 0, none⟩) (2 * N) (2 * N)) := by simp [World.cell?, hk5]
      have HB5 := hidLL (HB4.out.trans (hb5.mono HB4.out.size))
      have hrS : ∀ q, q < 2 * N → W5.cell? ⟨bS, q, none⟩ = some (.int .i64 (s.su q)) := fun q hq => (hb5.cell (p := ⟨bS, q, none⟩) hlS).trans (HFI.out.2.1.cell hq)
      have hrH : ∀ q, q < 2 * N → W5.cell? ⟨bH, q, none⟩ = some (.int .i64 (s.ho q)) := fun q hq => (hb5.cell (p := ⟨bH, q, none⟩) hlH).trans (HFI.out.2.2.cell hq)
      have HFJ := hidLL (And.intro HFI.out.1 (And.intro hrS hrH))
      clear hW5 hkb hb5 hk5 hrS hrH HFI HB4 c0 hlS hlH hpl
      go_loopw [8] (fun t wr => ∃ i : Nat, i ≤ 2 * N ∧ t = .int .i64 i ∧ wr = W5) (fun t _ => 2 * N - (RowKit.intOf t).toNat)
      case atStart => exact ⟨0, by omega, rfl, rfl⟩
      case round =>
        obtain ⟨i, hi, rfl, rfl⟩ := hrel
        by_cases hlt : i < 2 * N
        · have hiz : (i : Int) < 2 * N := by omega
          obtain ⟨hf1, hf2, hf3⟩ := HFJ.out.1 i hlt
          have a0 := HFJ.out.2.1 i hlt
          have a1 := HFJ.out.2.2 i hlt
          have b0 := HFJ.out.2.1 (opp i) (opp_lt2 hlt)
          have b1 := HFJ.out.2.2 (opp i) (opp_lt2 hlt)
          have ho := opp_is i
          have hol := opp_lt2 hlt
          go_upto_region 17 with fail
          rw [← ho]
          have u1 := HT.out.1 i
          have u2 := HT.out.2 i
          have u4 := HT.out.2 (opp i)
          obtain ⟨o, hoo⟩ : ∃ o, o = opp i := ⟨_, rfl⟩
          rw [← hoo] at hf1 b0 b1 hol u4 ⊢
          obtain ⟨A, hA⟩ : ∃ A, A = s.su i := ⟨_, rfl⟩
          obtain ⟨C, hC⟩ : ∃ C, C = s.ho i := ⟨_, rfl⟩
          obtain ⟨D, hD⟩ : ∃ D, D = s.su o := ⟨_, rfl⟩
          obtain ⟨F, hF⟩ : ∃ F, F = s.ho o := ⟨_, rfl⟩
          rw [← hA] at hf1 hf2 hf3 a0 u1
          rw [← hC] at hf1 hf2 hf3 a1 u2
          rw [← hD] at hf1 b0
          rw [← hF] at hf1 b1 u4
          clear hA hC hD hF hoo ho HFJ HT
          have hoz : (o : Int) < 2 * N := by omega
          rcases u2 with rfl | rfl | rfl
          · rcases u1 with rfl | rfl | rfl
            · clear hf1 hf2 hf3 u4
              go_wp2
              go_roundw
              case measure => simp [RowKit.intOf]; omega
              case rel => exact ⟨i + 1, by omega, by go_num, trivial⟩
            · exact absurd (hf2 rfl) (by decide)
            · clear hf1 hf2 hf3 u4
              go_wp2
              go_roundw
              case measure => simp [RowKit.intOf]; omega
              case rel => exact ⟨i + 1, by omega, by go_num, trivial⟩
          · rcases u4 with rfl | rfl | rfl
            · rcases u1 with rfl | rfl | rfl
              all_goals
                clear hf1 hf2 hf3
                go_wp2
                go_roundw
                case measure => simp [RowKit.intOf]; omega
                case rel => exact ⟨i + 1, by omega, by go_num, trivial⟩
            · obtain ⟨rfl, rfl⟩ := hf1 rfl rfl
              clear hf1 hf2 hf3 u1
              go_wp2
              go_roundw
              case measure => simp [RowKit.intOf]; omega
              case rel => exact ⟨i + 1, by omega, by go_num, trivial⟩
            · rcases u1 with rfl | rfl | rfl
              all_goals
                clear hf1 hf2 hf3
                go_wp2
                go_roundw
                case measure => simp [RowKit.intOf]; omega
                case rel => exact ⟨i + 1, by omega, by go_num, trivial⟩
          · obtain rfl := hf3 rfl
            clear hf1 hf2 hf3 u1 u4
            go_wp2
            go_roundw
            case measure => simp [RowKit.intOf]; omega
            case rel => exact ⟨i + 1, by omega, by go_num, trivial⟩
        · have hiz : ¬ (i : Int) < 2 * N := by omega
          go_wp2
          go_ret
          exact ⟨rfl, HB5.out⟩
end Go.Proofs.YtmbclnaenjcocaaDoor
