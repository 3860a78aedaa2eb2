/-
  SumsSplit, walked.
-/
import Derived.Test.YtgfkaheoahkbcaaDoorSuSpl0
import Derived.Test.YtgfkaheoahkbcaaDoorSuR
namespace Go.Proofs.YtgfkaheoahkbcaaDoor
open Go.RowKit Go.Extern.Stop Go.Stop Go.Extern

set_option maxHeartbeats 2000000 in
set_option maxRecDepth 20000 in
theorem split_early {n c : Nat} {a : Option Addr} {am y m F N : Int} {X1 X2 : Value} {q : Addr} {w : World} (hF : 0 ≤ F ∧ F ≤ 3652059) (hN : 0 ≤ N ∧ N ≤ 3652059)
    (hO : ∀ W, Below w.heap.size w W → Calls Tryd.prog 11 #[.int .i64 y, .int .i64 m, .int .i64 1] W fun e w' => e = .returned (.tuple #[.int .i64 F, X1]) ∧ ∃ k, w' = W.drewN k)
    (hM : ∀ W, Below w.heap.size w W → Calls Tryd.prog 12 #[.int .i64 F, .int .i64 1] W fun e w' => e = .returned (.tuple #[.int .i64 N, X2]) ∧ ∃ k, w' = W.drewN k)
    (hE : szB am 1000000000000 = false ∨ (szB am 1000000000000 = true ∧ X1 = .iface 92 (.pointer (some q))) ∨ (szB am 1000000000000 = true ∧ X1 = .nilIface ∧ X2 = .iface 92 (.pointer (some q))) ∨
      (szB am 1000000000000 = true ∧ X1 = .nilIface ∧ X2 = .nilIface ∧ 200 < n) ∨ (szB am 1000000000000 = true ∧ X1 = .nilIface ∧ X2 = .nilIface ∧ n ≤ 200 ∧ (n : Int) < N - F)) :
    Calls Tryd.prog 4 #[.int .i64 am, .slice a n c, .int .i64 y, .int .i64 m] w fun e w' => e = .returned (.bool true) ∧ Below w.heap.size w w' := by
  have HP := hidIt (fun W => pays_w W)
  have HS := hidIt (fun W => small_r am W)
  obtain ⟨f1, f2⟩ := hF
  obtain ⟨g1, g2⟩ := hN
  have HO := hidIt hO
  have HM := hidIt hM
  clear hO hM
  rcases hE with hs | ⟨hs, rfl⟩ | ⟨hs, rfl, rfl⟩ | ⟨hs, rfl, rfl, h200⟩ | ⟨hs, rfl, rfl, h200, hnf⟩
  all_goals
    rw [hs] at HS
    clear hs
    go_enter Tryd.func4, Tryd.ntmps4
    go_wp2_with fail
    refine (HP.out _).mono ?_
    rintro e w1 ⟨rfl, hb1⟩
    have HB1 := hidIt hb1
    clear hb1
    go_wp2_with fail
    refine (HS.out _).mono ?_
    rintro e w2 ⟨rfl, rfl⟩
    go_wp2_with fail
    refine (HO.out _ HB1.out).mono ?_
    rintro e w3 ⟨rfl, k3, rfl⟩
    have HB3 := hidIt (bdrewN HB1.out k3)
    go_wp2_with fail
    refine (HM.out _ HB3.out).mono ?_
    rintro e w4 ⟨rfl, k4, rfl⟩
    have HB4 := hidIt (bdrewN HB3.out k4)
    go_wp2
    go_ret
    exact ⟨rfl, bdrewN HB1.out _⟩
/-- What is under way: the same number so often. -/
inductive SameS (w : World) (am F : Int) (L : Nat) : Value → Value → World → Prop
  | mk {ad : Option Addr} {k cc i : Nat} {wr : World} (hi : i ≤ L) (hk : k = i) (row : IRow w.heap.size wr (.slice ad k cc) (List.replicate i am)) (bel : Below w.heap.size w wr) : SameS w am F L (.slice ad k cc) (.int .i64 (F + i)) wr
set_option maxHeartbeats 2000000 in
set_option maxRecDepth 20000 in
theorem split_main {n c : Nat} {a : Option Addr} {l : List Int} {am y m F N : Int} {p : Nat → Addr} {w : World} {L : Nat} (h : IRd w w.heap.size (.slice a n c) l) (hn : n = l.length) (hs : Sent w p)
    (hD : Date y m 1) (hF : dof y m 1 = F) (hL : (L : Int) = mlen y m) (hN : N = F + L) (hN2 : N ≤ 3652059)
    (hO : ∀ W, Calls Tryd.prog 11 #[.int .i64 y, .int .i64 m, .int .i64 1] W fun e w' => e = .returned (.tuple #[.int .i64 F, .nilIface]) ∧ w' = W)
    (hM : ∀ W, Calls Tryd.prog 12 #[.int .i64 F, .int .i64 1] W fun e w' => e = .returned (.tuple #[.int .i64 N, .nilIface]) ∧ w' = W)
    (hz : szB am 1000000000000 = true) (h200 : n ≤ 200) (hln : L ≤ n) :
    Calls Tryd.prog 4 #[.int .i64 am, .slice a n c, .int .i64 y, .int .i64 m] w fun e w' => e = .returned (.bool true) ∧ Below w.heap.size w w' := by
  have HP := hidIt (fun W => pays_w W)
  have HS := hidIt (fun W => small_r am W)
  rw [hz] at HS
  have HO := hidIt hO
  have HM := hidIt hM
  have hLb := mlen_bd y m
  have hF1 : 1 ≤ F := by have := hD.isDay; omega
  have hbig : n ≤ 17592186044416 := by omega
  have hcap : n ≤ c := by
    obtain ⟨_, _, e, _, hc2, _⟩ := h
    injection e with _ _ e3
    omega
  have hx0 : ∃ x, l[0]? = some x := ⟨_, List.getElem?_eq_getElem (by omega)⟩
  obtain ⟨x0, hx0⟩ := hx0
  obtain ⟨g, o, rfl, _, _⟩ := h.at hx0
  have HR := hidIt h
  have HL := hidIt hn
  have HSe := hidIt hs
  -- the same each day
  have HSame : Hid (∀ W B v k cc, IRd W B (.slice v k cc) (List.replicate L am) → k = L → B ≤ W.heap.size → Calls Tryd.prog 6 #[.slice v k cc, .int .i64 F, .int .i64 4] W (PayR W [(F, F + L, am)])) := fun W B v k cc hr hk hB => by
    have hmo := MoR.one (way := 4) (l := List.replicate L am) hD hF hL (by simp)
    rw [rnd_same am 4 L (by omega)] at hmo
    exact months_ok hr (by simp [hk]) hB (errM_ok (by decide) (by simp; omega) (.inr ⟨hF1, by simp; omega⟩) (badA_of fun x hx => by rw [(List.mem_replicate.1 hx).2]; exact hz)) hmo
  have HTake := hidIt (h.take (k := L) (by omega) (by omega))
  have HDrop := hidIt (h.drop (k := L) (by omega))
  have HNz : Hid (N = F + L) := hN
  have hNF : N - F = (L : Int) := by omega
  have hLpos : 0 < L := by omega
  have hL31 : L ≤ 31 := by omega
  have hFN : F ≤ N := by omega
  cases hk : errM l F 2 with
  | some k =>
    have HErr : Hid (∀ W, Below w.heap.size w W → Calls Tryd.prog 6 #[.slice (some ⟨g, o, none⟩) n c, .int .i64 F, .int .i64 2] W (ErrR W p k)) := fun W hW => months_err (HR.out.below hW) hn (HSe.out.below hW) hk
    clear h hn hs hD hF hL hN hO hM hz hLb hk hx0 hcap
    have HNF := hidIt hNF
    have hnl : ¬ (n : Int) < N - F := by omega
    clear hNF
    go_enter Tryd.func4, Tryd.ntmps4
    go_wp2_with fail
    refine (HP.out _).mono ?_
    rintro e w1 ⟨rfl, hb1⟩
    have HB1 := hidIt hb1
    clear hb1
    go_wp2_with fail
    refine (HS.out _).mono ?_
    rintro e w2 ⟨rfl, rfl⟩
    go_wp2_with fail
    refine (HO.out _).mono ?_
    rintro e w3 ⟨rfl, rfl⟩
    go_wp2_with fail
    refine (HM.out _).mono ?_
    rintro e w4 ⟨rfl, rfl⟩
    obtain ⟨W0, hW0⟩ : ∃ W0 : World, W0 = w4 := ⟨_, rfl⟩
    rw [← hW0]
    have HB0 : Hid (Below w.heap.size w W0) := by show Below _ _ _; rw [hW0]; exact HB1.out
    clear hW0
    go_wp2_with fail
    go_loopw [15, 16] (fun u t wr => SameS w am F L u t wr) (fun _ t _ => (N - RowKit.intOf t).toNat)
    case atStart =>
      have := SameS.mk (w := w) (am := am) (F := F) (L := L) (i := 0) (Nat.zero_le _) rfl (IRow.nil w.heap.size W0) HB0.out
      simpa using this
    case round =>
      rcases hrel with @⟨ad, k5, cc, i, wr, hi, hk5, row, bel⟩
      have HRow := hidIt row
      have HBel := hidIt bel
      have HK5 := hidIt hk5
      have hsz : w.heap.size ≤ wr.heap.size := bel.size
      clear row bel hk5
      by_cases hlt : i < L
      · have hfi : F + (i : Int) < N := by have := HNF.out; omega
        have c0 : decide (F + (i : Int) < N) = true := by simp; omega
        go_wp2_with (at_builtin; refine wpList_push_int rfl (.tmp 71) (.tmp 73) rfl w.heap.size (.slice ad k5 cc) (List.replicate i am) am rfl HRow.out (by first | (simp [Act.eval]; done) | simp [Act.eval, Act.put]) (by omega) (by simp; omega) ?_; intro v' w5 hr5 hb5; obtain ⟨pa5, pn5, pc5, rfl, hp5⟩ := hr5.any3; have HR5 := hidIt hr5; have HB5 := hidIt hb5; have HP5 := hidIt hp5; clear hr5 hb5 hp5)
        go_roundw
        case rel =>
          have hr := HR5.out
          rw [← List.replicate_succ'] at hr
          have := SameS.mk (w := w) (am := am) (F := F) (L := L) (i := i + 1) (by omega) (by have := HP5.out; simpa using this) hr (HBel.out.trans HB5.out)
          have e2 : F + ((i + 1 : Nat) : Int) = F + (i : Int) + 1 := by omega
          rw [e2] at this
          first | exact this | exact ⟨_, _, _, _, _, _, _, _, _, _, _, this, rfl⟩
        case measure => simp [RowKit.intOf]; omega
      · have c0 : decide (F + (i : Int) < N) = false := by have := HNF.out; simp; omega
        obtain rfl : i = L := by omega
        have hnn : (am != am) = false := by simp
        go_wp2_with fail
        refine (HSame.out _ _ _ _ _ (HRow.out.rd (by simp; omega)) HK5.out (Nat.le_refl _)).mono ?_
        rintro e w6 ⟨ad6, m6, cc6, rfl, hm6, hb6, hr6⟩
        obtain ⟨g6, rfl, hg6, _, _, d2⟩ := hr6.rd.at (j := 0) rfl
        obtain rfl : m6 = 1 := hm6
        have HB6 := hidIt (HBel.out.trans (hb6.mono hsz))
        have d2 : w6.cell? ⟨g6, 2, none⟩ = some (.int .i64 am) := d2
        clear hr6 hb6 hg6 c0 hlt
        go_wp2_with fail
        refine (HErr.out _ HB6.out).mono ?_
        rintro e w7 ⟨rfl, hb7⟩
        have HB7 := hidIt (HB6.out.trans (hb7.mono HB6.out.size))
        clear hb7
        go_wp2
        go_ret
        exact ⟨rfl, HB7.out⟩
  | none =>
    obtain ⟨e1, e2, e3, e4⟩ := errM_none hk
    obtain ⟨ps, hps⟩ := MoR.ex 2 l.length F l (Nat.le_refl _) (by
      rcases e3 with e | e
      · exact .inl (List.eq_nil_of_length_eq_zero e)
      · exact .inr e)
    obtain ⟨qs, rfl, hqs⟩ := hps.first hD hF hL (by omega)
    have HAl : Hid (∀ W, Below w.heap.size w W → Calls Tryd.prog 6 #[.slice (some ⟨g, o, none⟩) n c, .int .i64 F, .int .i64 2] W (PayR W ((F, F + L, rnd (l.take L).sum L 2) :: qs))) := fun W hW => months_ok (HR.out.below hW) hn hW.size hk hps
    have HX : Hid (∀ W, Below w.heap.size w W → Calls Tryd.prog 6 #[.slice (some ⟨g, o, none⟩) L c, .int .i64 F, .int .i64 2] W (PayR W [(F, F + L, rnd (l.take L).sum L 2)])) := fun W hW => by
      have hlt : (l.take L).length = L := by rw [List.length_take]; omega
      exact months_ok (HTake.out.below hW) hlt.symm hW.size (errM_ok (by decide) (by omega) (.inr ⟨hF1, by rw [hlt]; omega⟩) (badA_sub e4 fun x hx => List.mem_of_mem_take hx)) (MoR.one hD hF hL hlt)
    have HY : ∀ W, Below w.heap.size w W → Calls Tryd.prog 6 #[.slice (if c = L then some ⟨g, o, none⟩ else some ⟨g, o + L, none⟩) (n - L) (c - L), .int .i64 N, .int .i64 2] W (PayR W qs) := fun W hW => by
      have hld : (l.drop L).length = l.length - L := List.length_drop
      rw [← hN] at hqs
      refine months_ok ((HDrop.out (n - L) rfl).below hW) (by rw [hld]; omega) hW.size (errM_ok (by decide) (by omega) ?_ (badA_sub e4 fun x hx => List.mem_of_mem_drop hx)) hqs
      rw [hld]
      omega
    have HYa : Hid (∀ W, Below w.heap.size w W → c = L → Calls Tryd.prog 6 #[.slice (some ⟨g, o, none⟩) 0 0, .int .i64 N, .int .i64 2] W (PayR W qs)) := fun W hW hc => by
      have := HY W hW
      rw [if_pos hc, show c - L = 0 by omega, show n - L = 0 by omega] at this
      exact this
    have HYb : Hid (∀ W, Below w.heap.size w W → c ≠ L → Calls Tryd.prog 6 #[.slice (some ⟨g, o + L, none⟩) (n - L) (c - L), .int .i64 N, .int .i64 2] W (PayR W qs)) := fun W hW hc => by
      have := HY W hW
      rw [if_neg hc] at this
      exact this
    have hql : qs.length ≤ 200 := by have := hqs.len; rw [List.length_drop] at this; omega
    clear h hn hs hD hF hL hN hO hM hz hLb hk hx0 e1 e2 e3 e4 hps hqs HY
    generalize rnd (l.take L).sum L 2 = r0 at *
    have HNF := hidIt hNF
    have hnl : ¬ (n : Int) < N - F := by omega
    clear hNF
    go_enter Tryd.func4, Tryd.ntmps4
    go_wp2_with fail
    refine (HP.out _).mono ?_
    rintro e w1 ⟨rfl, hb1⟩
    have HB1 := hidIt hb1
    clear hb1
    go_wp2_with fail
    refine (HS.out _).mono ?_
    rintro e w2 ⟨rfl, rfl⟩
    go_wp2_with fail
    refine (HO.out _).mono ?_
    rintro e w3 ⟨rfl, rfl⟩
    go_wp2_with fail
    refine (HM.out _).mono ?_
    rintro e w4 ⟨rfl, rfl⟩
    obtain ⟨W0, hW0⟩ : ∃ W0 : World, W0 = w4 := ⟨_, rfl⟩
    rw [← hW0]
    have HB0 : Hid (Below w.heap.size w W0) := by show Below _ _ _; rw [hW0]; exact HB1.out
    clear hW0
    go_wp2_with fail
    go_loopw [15, 16] (fun u t wr => SameS w am F L u t wr) (fun _ t _ => (N - RowKit.intOf t).toNat)
    case atStart =>
      have := SameS.mk (w := w) (am := am) (F := F) (L := L) (i := 0) (Nat.zero_le _) rfl (IRow.nil w.heap.size W0) HB0.out
      simpa using this
    case round =>
      rcases hrel with @⟨ad, k5, cc, i, wr, hi, hk5, row, bel⟩
      have HRow := hidIt row
      have HBel := hidIt bel
      have HK5 := hidIt hk5
      have hsz : w.heap.size ≤ wr.heap.size := bel.size
      clear row bel hk5
      by_cases hlt : i < L
      · have hfi : F + (i : Int) < N := by have := HNF.out; omega
        have c0 : decide (F + (i : Int) < N) = true := by simp; omega
        go_wp2_with (at_builtin; refine wpList_push_int rfl (.tmp 71) (.tmp 73) rfl w.heap.size (.slice ad k5 cc) (List.replicate i am) am rfl HRow.out (by first | (simp [Act.eval]; done) | simp [Act.eval, Act.put]) (by omega) (by simp; omega) ?_; intro v' w5 hr5 hb5; obtain ⟨pa5, pn5, pc5, rfl, hp5⟩ := hr5.any3; have HR5 := hidIt hr5; have HB5 := hidIt hb5; have HP5 := hidIt hp5; clear hr5 hb5 hp5)
        go_roundw
        case rel =>
          have hr := HR5.out
          rw [← List.replicate_succ'] at hr
          have := SameS.mk (w := w) (am := am) (F := F) (L := L) (i := i + 1) (by omega) (by have := HP5.out; simpa using this) hr (HBel.out.trans HB5.out)
          have e2 : F + ((i + 1 : Nat) : Int) = F + (i : Int) + 1 := by omega
          rw [e2] at this
          first | exact this | exact ⟨_, _, _, _, _, _, _, _, _, _, _, this, rfl⟩
        case measure => simp [RowKit.intOf]; omega
      · have c0 : decide (F + (i : Int) < N) = false := by have := HNF.out; simp; omega
        obtain rfl : i = L := by omega
        have hnn : (am != am) = false := by simp
        go_wp2_with fail
        refine (HSame.out _ _ _ _ _ (HRow.out.rd (by simp; omega)) HK5.out (Nat.le_refl _)).mono ?_
        rintro e w6 ⟨ad6, m6, cc6, rfl, hm6, hb6, hr6⟩
        obtain ⟨g6, rfl, hg6, _, _, d2⟩ := hr6.rd.at (j := 0) rfl
        obtain rfl : m6 = 1 := hm6
        have HB6 := hidIt (HBel.out.trans (hb6.mono hsz))
        have d2 : w6.cell? ⟨g6, 2, none⟩ = some (.int .i64 am) := d2
        clear hr6 hb6 hg6 c0 hlt
        go_wp2_with fail
        refine (HAl.out _ HB6.out).mono ?_
        rintro e w7 ⟨ad7, m7, cc7, rfl, hm7, hb7, hr7⟩
        have HR7 := hidIt hr7.rd
        have HB7 := hidIt (HB6.out.trans (hb7.mono HB6.out.size))
        have HM7 := hidIt hm7
        clear hm7 hb7 hr7 d2
        have hLc : i ≤ c := by omega
        have hNF := HNF.out
        go_wp2_with fail
        refine (HX.out _ HB7.out).mono ?_
        rintro e w8 ⟨ad8, m8, cc8, rfl, hm8, hb8, hr8⟩
        have HR8 := hidIt hr8.rd
        have HR78 := hidIt (HR7.out.below hb8)
        have HB8 := hidIt (HB7.out.trans (hb8.mono HB7.out.size))
        have HS78 := hidIt hb8.size
        obtain rfl : m8 = 1 := hm8
        clear hb8 hr8
        by_cases hci : c = i
        · subst hci
          obtain rfl : n = c := by omega
          go_wp2_with fail
          refine (HYa.out _ HB8.out (by first | rfl | trivial)).mono ?_
          rintro e w9 ⟨ad9, m9, cc9, rfl, hm9, hb9, hr9⟩
          have HR9 := hidIt hr9.rd
          have HR89 := hidIt (HR8.out.below hb9)
          have HR79 := hidIt (HR78.out.below (hb9.mono HS78.out))
          have HB9 := hidIt (HB8.out.trans (hb9.mono HB8.out.size))
          have HM9 := hidIt hm9
          clear hm9 hb9 hr9
          obtain ⟨g7, rfl, _, a0, a1, a2⟩ := HR79.out.at (j := 0) rfl
          obtain ⟨g8, rfl, _, b0, b1, b2⟩ := HR89.out.at (j := 0) rfl
          have a0 : w9.cell? ⟨g7, 0, none⟩ = some (.int .i64 F) := a0
          have a1 : w9.cell? ⟨g7, 1, none⟩ = some (.int .i64 (F + n)) := a1
          have a2 : w9.cell? ⟨g7, 2, none⟩ = some (.int .i64 r0) := a2
          have b0 : w9.cell? ⟨g8, 0, none⟩ = some (.int .i64 F) := b0
          have b1 : w9.cell? ⟨g8, 1, none⟩ = some (.int .i64 (F + n)) := b1
          have b2 : w9.cell? ⟨g8, 2, none⟩ = some (.int .i64 r0) := b2
          have hm79 : m7 = m9 + 1 := by rw [HM7.out, HM9.out]; rfl
          have hle : ((m7 : Int) != 1 + (m9 : Int)) = false := by simp; omega
          have hm7p : (0 : Int) < (m7 : Int) := by omega
          have hm200 : m9 ≤ 200 := by rw [HM9.out]; exact hql
          have HM79 := hidIt hm79
          clear hm79
          go_wp2_with fail
          go_quiet (fail)
          go_wp2_with fail
          go_loopw [22] (fun t wr => ∃ j q : Nat, j ≤ m9 ∧ t = .int .i64 j ∧ wr = w9.drewN q) (fun t _ => m9 - (RowKit.intOf t).toNat)
          case atStart => exact ⟨0, _, by omega, rfl, rfl⟩
          case round =>
            clear a0 a1 a2 b0 b1 b2
            obtain ⟨j, q, hj, rfl, rfl⟩ := hrel
            by_cases hlt : j < m9
            · have c0 : decide ((j : Int) < m9) = true := by simp; omega
              obtain ⟨x, hx⟩ : ∃ x, qs[j]? = some x := ⟨_, List.getElem?_eq_getElem (by have := HM9.out; omega)⟩
              obtain ⟨g9, rfl, _, b0, b1, b2⟩ := HR9.out.at hx
              obtain ⟨g7', e7, _, a0, a1, a2⟩ := HR79.out.at (j := j + 1) (x := x) (by simpa using hx)
              obtain rfl : g7 = g7' := by injection e7 with e7; injection e7
              obtain ⟨x1, x2, x3⟩ := x
              have hjz : (j : Int) < m9 := by omega
              have hjz2 : (j : Int) + 1 < m7 := by have := HM79.out; omega
              have hjn : j ≤ 200 := by omega
              clear hx e7
              go_wp2_with fail
              go_quiet (fail)
              go_wp2
              go_roundw
              case rel => exact ⟨j + 1, _, by omega, by go_num, rfl⟩
              case measure => simp [RowKit.intOf]; omega
            · have c0 : decide ((j : Int) < m9) = false := by simp; omega
              go_wp2
              go_ret
              exact ⟨rfl, bdrewN HB9.out _⟩
        · have hci2 : i < c := by omega
          go_wp2_with fail
          refine (HYb.out _ HB8.out hci).mono ?_
          rintro e w9 ⟨ad9, m9, cc9, rfl, hm9, hb9, hr9⟩
          have HR9 := hidIt hr9.rd
          have HR89 := hidIt (HR8.out.below hb9)
          have HR79 := hidIt (HR78.out.below (hb9.mono HS78.out))
          have HB9 := hidIt (HB8.out.trans (hb9.mono HB8.out.size))
          have HM9 := hidIt hm9
          clear hm9 hb9 hr9
          obtain ⟨g7, rfl, _, a0, a1, a2⟩ := HR79.out.at (j := 0) rfl
          obtain ⟨g8, rfl, _, b0, b1, b2⟩ := HR89.out.at (j := 0) rfl
          have a0 : w9.cell? ⟨g7, 0, none⟩ = some (.int .i64 F) := a0
          have a1 : w9.cell? ⟨g7, 1, none⟩ = some (.int .i64 (F + i)) := a1
          have a2 : w9.cell? ⟨g7, 2, none⟩ = some (.int .i64 r0) := a2
          have b0 : w9.cell? ⟨g8, 0, none⟩ = some (.int .i64 F) := b0
          have b1 : w9.cell? ⟨g8, 1, none⟩ = some (.int .i64 (F + i)) := b1
          have b2 : w9.cell? ⟨g8, 2, none⟩ = some (.int .i64 r0) := b2
          have hm79 : m7 = m9 + 1 := by rw [HM7.out, HM9.out]; rfl
          have hle : ((m7 : Int) != 1 + (m9 : Int)) = false := by simp; omega
          have hm7p : (0 : Int) < (m7 : Int) := by omega
          have hm200 : m9 ≤ 200 := by rw [HM9.out]; exact hql
          have HM79 := hidIt hm79
          clear hm79
          go_wp2_with fail
          go_quiet (fail)
          go_wp2_with fail
          go_loopw [22] (fun t wr => ∃ j q : Nat, j ≤ m9 ∧ t = .int .i64 j ∧ wr = w9.drewN q) (fun t _ => m9 - (RowKit.intOf t).toNat)
          case atStart => exact ⟨0, _, by omega, rfl, rfl⟩
          case round =>
            clear a0 a1 a2 b0 b1 b2
            obtain ⟨j, q, hj, rfl, rfl⟩ := hrel
            by_cases hlt : j < m9
            · have c0 : decide ((j : Int) < m9) = true := by simp; omega
              obtain ⟨x, hx⟩ : ∃ x, qs[j]? = some x := ⟨_, List.getElem?_eq_getElem (by have := HM9.out; omega)⟩
              obtain ⟨g9, rfl, _, b0, b1, b2⟩ := HR9.out.at hx
              obtain ⟨g7', e7, _, a0, a1, a2⟩ := HR79.out.at (j := j + 1) (x := x) (by simpa using hx)
              obtain rfl : g7 = g7' := by injection e7 with e7; injection e7
              obtain ⟨x1, x2, x3⟩ := x
              have hjz : (j : Int) < m9 := by omega
              have hjz2 : (j : Int) + 1 < m7 := by have := HM79.out; omega
              have hjn : j ≤ 200 := by omega
              clear hx e7
              go_wp2_with fail
              go_quiet (fail)
              go_wp2
              go_roundw
              case rel => exact ⟨j + 1, _, by omega, by go_num, rfl⟩
              case measure => simp [RowKit.intOf]; omega
            · have c0 : decide ((j : Int) < m9) = false := by simp; omega
              go_wp2
              go_ret
              exact ⟨rfl, bdrewN HB9.out _⟩
end Go.Proofs.YtgfkaheoahkbcaaDoor
