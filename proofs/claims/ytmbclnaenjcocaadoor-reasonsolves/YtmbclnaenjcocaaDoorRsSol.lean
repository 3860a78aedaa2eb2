/-
  Package reason: Solve.
-/
import Derived.Test.YtmbclnaenjcocaaDoorRsV3
import Derived.Test.YtmbclnaenjcocaaDoorRsP8
import Derived.Test.YtmbclnaenjcocaaDoorRsOrd2
namespace Go.Proofs.YtmbclnaenjcocaaDoor
open Go.RowKit

/-- What Solve answers: what is wrong, or what follows. -/
def SolR (T : Thy) (p : Nat → Addr) (w : World) (e : Ending) (w' : World) : Prop :=
  Below w.heap.size w w' ∧ ((∃ k, errIs T (some k) ∧ e = .returned (.tuple #[.agg #[.slice none 0 0, .slice none 0 0], errV p (some k)])) ∨
    (errIs T none ∧ ∃ (bS bH : Nat) (s : St), e = .returned (.tuple #[.agg #[.slice (some ⟨bS, 0, none⟩) (2 * (shOf T).N) (2 * (shOf T).N), .slice (some ⟨bH, 0, none⟩) (2 * (shOf T).N) (2 * (shOf T).N)], .nilIface]) ∧
      w.heap.size ≤ bS ∧ w.heap.size ≤ bH ∧ w'.rowIs bS 3 (2 * (shOf T).N) (fun q => .int .i64 (s.su q)) ∧ w'.rowIs bH 3 (2 * (shOf T).N) (fun q => .int .i64 (s.ho q)) ∧ Fine T s ∧ AllQ T s))
theorem three0 (w : World) (o1 o2 o3 : Obj) : (((w.alloc o1).alloc o2).alloc o3).drew.heap[w.heap.size]? = some o1 := blk_kept (((Chg.refl [] _).alloc _).alloc _).drew (blk_new w o1) (by simp)
theorem three1 (w : World) (o1 o2 o3 : Obj) : (((w.alloc o1).alloc o2).alloc o3).drew.heap[w.heap.size + 1]? = some o2 := by
  have := blk_new (w.alloc o1) o2
  rw [World.size_alloc] at this
  exact blk_kept ((Chg.refl [] _).alloc _).drew this (by simp)
theorem three2 (w : World) (o1 o2 o3 : Obj) : (((w.alloc o1).alloc o2).alloc o3).drew.heap[w.heap.size + 1 + 1]? = some o3 := by
  have := blk_new ((w.alloc o1).alloc o2) o3
  rw [World.size_alloc, World.size_alloc] at this
  exact this
theorem kn_of {W : World} {kb bS bH n : Nat} (hk : W.heap[kb]? = some (.cells #[.slice (some ⟨bS, 0, none⟩) n n, .slice (some ⟨bH, 0, none⟩) n n] 27 (0, 0))) (hs : W.heap[bS]? = some (.cells (madeCells #[.int .i64 0] n) 3 (0, 0))) (hh : W.heap[bH]? = some (.cells (madeCells #[.int .i64 0] n) 3 (0, 0))) (n1 : bS ≠ bH) (n2 : bS ≠ kb) (n3 : bH ≠ kb) : Kn W kb bS bH n (fun _ => 0) (fun _ => 0) :=
  ⟨hk, ⟨_, hs, size_madeCells _ _, fun i hi => by simp [madeCells, hi, Nat.mod_one]⟩, ⟨_, hh, size_madeCells _ _, fun i hi => by simp [madeCells, hi, Nat.mod_one]⟩, n1, n2, n3⟩
theorem below3 (w : World) (o1 o2 o3 : Obj) : Below w.heap.size w (((w.alloc o1).alloc o2).alloc o3).drew := ((((Below.refl _ _).alloc (Nat.le_refl _) _).alloc (by simp) _).alloc (by simp; omega) _).drew
/-- What Solve keeps hears what follows. -/
theorem kn_tel {T : Thy} {kb bS bH z : Nat} (h1 : kb < z) (h2 : bS < z) (h3 : bH < z) : ∀ bL bR cm top, z ≤ bL → z ≤ bR → z ≤ cm → z ≤ top → bL < top → bR < top → cm < top → Tel (shOf T) (Fine T) (fun W s => Kn W kb bS bH (2 * (shOf T).N) s.su s.ho) kb top [bS, bH] [bL, bR, cm] := by
  intro bL bR cm top l1 l2 l3 l4 _ _ _
  refine ⟨fun W W' s hK hs hb => hK.on (hb _ hK.lt (by simp; omega)) (hb _ hK.rS.lt (by simp; omega)) (hb _ hK.rH.lt (by simp; omega)), fun W s a b q ad n c _ hq _ hK _ ht => ?_⟩
  refine (tell_p hK a b q hq.1 hq.2.1 hq.2.2.1 hq.2.2.2 ad n c).mono ?_
  rintro e w' ⟨rfl, hK', hC⟩
  obtain ⟨q1, q2⟩ := litTake_su (shOf T) s (pl q) a b
  refine ⟨rfl, ?_, hC.fr ht⟩
  show Kn w' kb bS bH (2 * (shOf T).N) (litTake (shOf T) s (pl q) a b).su (litTake (shOf T) s (pl q) a b).ho
  rw [q1, q2]
  exact hK'
set_option maxHeartbeats 4000000 in
set_option maxRecDepth 100000 in
theorem solve_v {T : Thy} {rv ov : Value} {B : Nat} {w : World} (hM : TM w B T rv ov) (hB : B ≤ w.heap.size) {p : Nat → Addr} (hE : Sent4 w p) (hO : Okt T → ∀ W, Below w.heap.size w W → OrdC T rv ov W) : Calls Tryd.prog 10 #[.agg #[.int .i64 T.names, rv, ov]] w (SolR T p w) := by
  obtain ⟨ra, rc, hrv, hrl, _⟩ := hM.r
  obtain ⟨oa, oc, hov, hol, _⟩ := hM.o
  obtain ⟨W0, hW0⟩ : ∃ W0 : World, W0 = (w.alloc (.cells #[.int .i64 T.names, rv, ov] 35)).alloc (.cells #[.slice none 0 0, .slice none 0 0] 27) := ⟨_, rfl⟩
  have hb0 : Below w.heap.size w W0 := by rw [hW0]; exact ((Below.refl _ _).alloc (Nat.le_refl _) _).alloc (by simp) _
  have hz0 : W0.heap.size = w.heap.size + 2 := by rw [hW0]; simp
  have hk0 : W0.heap[w.heap.size]? = some (.cells #[.int .i64 T.names, rv, ov] 35) := by rw [hW0]; exact blk_kept ((Chg.refl [] _).alloc _) (blk_new _ _) (by simp)
  have hk1 : W0.heap[w.heap.size + 1]? = some (.cells #[.slice none 0 0, .slice none 0 0] 27) := by
    rw [hW0]
    have := blk_new (w.alloc (.cells #[.int .i64 T.names, rv, ov] 35)) (.cells #[.slice none 0 0, .slice none 0 0] 27)
    rw [World.size_alloc] at this
    exact this
  have HX : Hid (∀ W, Below W0.heap.size W0 W → W.cell? ⟨w.heap.size, 0, none⟩ = some (.int .i64 T.names) ∧ W.cell? ⟨w.heap.size, 1, none⟩ = some rv ∧ W.cell? ⟨w.heap.size, 2, none⟩ = some ov ∧ W.heap[w.heap.size + 1]? = some (.cells #[.slice none 0 0, .slice none 0 0] 27) ∧ TM W B T rv ov ∧ Below w.heap.size w W ∧ w.heap.size + 1 < W.heap.size) := fun W hW => by
    have h1 := (hW.block w.heap.size (by omega)).trans hk0
    have h2 := (hW.block (w.heap.size + 1) (by omega)).trans hk1
    have h3 := hW.size
    have h4 : Below w.heap.size w W := hb0.trans (hW.mono (by omega))
    exact ⟨by simp [World.cell?, h1], by simp [World.cell?, h1], by simp [World.cell?, h1], h2, hM.below h4 hB, h4, by omega⟩
  have HV := hidLL (valid_v (hM.below hb0 hB) (by omega) (hE.bel hb0) (fun h W hW => hO h W (hb0.trans (hW.mono (by omega)))))
  obtain ⟨c0, c1, c2, _, _, _, _⟩ := HX.out W0 (Below.refl _ _)
  have HW0 := hidLL hW0
  have HZ0 := hidLL hz0
  have HMM := hidLL hM
  clear hW0 hb0 hk0 hk1 hM hE hO hz0
  obtain ⟨nm, hnm⟩ : ∃ nm, nm = T.names := ⟨_, rfl⟩
  rw [← hnm] at c0 HW0 HV HX ⊢
  have HNM := hidLL hnm
  clear hnm
  subst hrv hov
  obtain ⟨R, hR⟩ : ∃ R, R = T.rules.length := ⟨_, rfl⟩
  obtain ⟨OO, hOO⟩ : ∃ OO, OO = T.over.length := ⟨_, rfl⟩
  rw [← hR, ← hOO] at HV HW0 HX HMM
  rw [← hR] at c1 hrl ⊢
  rw [← hOO] at c2 hol ⊢
  clear hR hOO
  obtain ⟨rb, hrb⟩ : ∃ rb, rb = w.heap.size + 1 := ⟨_, rfl⟩
  rw [← hrb] at HX
  have hwr : w.heap.size < rb := by omega
  have HRB := hidLL hrb
  clear hrb
  go_enter Tryd.func10, Tryd.ntmps10
  go_upto_region 1 with fail
  rw [← HW0.out, ← HRB.out]
  go_wp2_with fail
  refine HV.out.mono ?_
  rintro e w1 ⟨k, rfl, hk, hb1⟩
  obtain ⟨d0, d1, d2, d3, _, hbw, hsz⟩ := HX.out w1 hb1
  have HBW := hidLL (And.intro hbw hb1)
  have HK := hidLL hk
  cases k with
  | some k =>
    have f0 : w1.cell? ⟨rb, 0, none⟩ = some (.slice none 0 0) := by simp [World.cell?, d3]
    have f1 : w1.cell? ⟨rb, 1, none⟩ = some (.slice none 0 0) := by simp [World.cell?, d3]
    have f2 : ∀ i, w1.frozen? ⟨rb, i, none⟩ = false := fun i => by simp [World.frozen?, d3]
    have hlr : rb < w1.heap.size := blk_lt d3
    clear hk hb1 hbw d3
    unfold errV
    go_wp2
    refine bodyPost_ret (v := .tuple #[.agg #[.slice none 0 0, .slice none 0 0], .iface 152 (.pointer (some (p k)))]) (by simp [results, Tryd.results10, go_sem, f0, f1]) rfl ?_
    refine ⟨?_, .inl ⟨k, HK.out, rfl⟩⟩
    refine (HBW.out.1.setCell (p := ⟨rb, 0, none⟩) ?_ _).setCell (p := ⟨rb, 1, none⟩) ?_ _
    · show w.heap.size ≤ rb; omega
    · show w.heap.size ≤ rb; omega
  | none =>
    have hOk : Okt T := by
      rcases HK.out with ⟨e, _⟩ | ⟨e, _⟩ | ⟨e, _⟩ | ⟨e, _⟩ | ⟨_, h1, _, h3, _⟩
      · cases e
      · cases e
      · cases e
      · cases e
      · exact okt_of h1 h3
    have hn1 := hOk.n0
    have hn2 := hOk.n1
    rw [← HNM.out] at hn1 hn2
    obtain ⟨NN, hNN⟩ : ∃ NN, NN = (shOf T).N := ⟨_, rfl⟩
    have hNz : (NN : Int) = nm := by rw [hNN, HNM.out]; show ((T.names.toNat : Nat) : Int) = T.names; have := hOk.n0; omega
    have HNQ := hidLL (And.intro hNN hNz)
    have HOk := hidLL hOk
    have hmk : ∀ w : World, (Instr.makeSlice 25 (.int .i64 (2 * nm)) (.int .i64 (2 * nm))).run Tryd.prog w = .ok (.slice (some ⟨w.heap.size, 0, none⟩) (2 * NN) (2 * NN)) (w.alloc (.cells (madeCells #[.int .i64 0] (2 * NN)) 3)) := fun w => by
      have := make_ints (2 * NN) (by omega) w
      rw [show ((2 * NN : Nat) : Int) = 2 * nm by omega] at this
      exact this
    have hwp : IntKind.i64.wrap (2 * nm) = 2 * nm := by rw [IntKind.wrap_i64]; omega
    have hlw : w.heap.size < w1.heap.size := by omega
    have hlr : rb < w1.heap.size := blk_lt d3
    have HD3 := hidLL d3
    clear hk hb1 hbw d3 hNN hNz hOk
    unfold errV
    go_upto_region 4 with fail
    go_cut [5] (fun t wx => ∃ (kb bS bH : Nat), t = .pointer (some ⟨kb, 0, none⟩) ∧ Kn wx kb bS bH (2 * NN) (fun _ => 0) (fun _ => 0) ∧ w1.heap.size ≤ kb ∧ w1.heap.size ≤ bS ∧ w1.heap.size ≤ bH ∧ Below w1.heap.size w1 wx)
    case first =>
      go_region
      all_goals
        go_wp2
        go_meet
        first
          | exact ⟨_, _, _, rfl, kn_of (three0 _ _ _ _) (three1 _ _ _ _) (three2 _ _ _ _) (by omega) (by omega) (by omega), by omega, by omega, by omega, below3 _ _ _ _⟩
          | exact ⟨_, _, _, rfl, kn_of (three0 _ _ _ _) (three2 _ _ _ _) (three1 _ _ _ _) (by omega) (by omega) (by omega), by omega, by omega, by omega, below3 _ _ _ _⟩
          | exact ⟨_, _, _, rfl, kn_of (three1 _ _ _ _) (three0 _ _ _ _) (three2 _ _ _ _) (by omega) (by omega) (by omega), by omega, by omega, by omega, below3 _ _ _ _⟩
          | exact ⟨_, _, _, rfl, kn_of (three1 _ _ _ _) (three2 _ _ _ _) (three0 _ _ _ _) (by omega) (by omega) (by omega), by omega, by omega, by omega, below3 _ _ _ _⟩
          | exact ⟨_, _, _, rfl, kn_of (three2 _ _ _ _) (three0 _ _ _ _) (three1 _ _ _ _) (by omega) (by omega) (by omega), by omega, by omega, by omega, below3 _ _ _ _⟩
          | exact ⟨_, _, _, rfl, kn_of (three2 _ _ _ _) (three1 _ _ _ _) (three0 _ _ _ _) (by omega) (by omega) (by omega), by omega, by omega, by omega, below3 _ _ _ _⟩
    case rest =>
      obtain ⟨kb, bS, bH, rfl, hKn, l1, l2, l3, hbx⟩ := hcut
      obtain ⟨g0, g1, g2, g3, hTM, hbw, hsz2⟩ := HX.out wc (HBW.out.2.trans (hbx.mono HBW.out.2.size))
      have hszw := HBW.out.1.size
      have hszx := hbx.size
      have HF : Hid (Calls Tryd.prog 23 #[.agg #[.int .i64 nm, .slice ra R rc, .slice oa OO oc], .func (.func 24) #[] #[.pointer (some ⟨kb, 0, none⟩)]] wc fun e w' => e = .returned (.tuple #[]) ∧ ∃ s, Kn w' kb bS bH (2 * NN) s.su s.ho ∧ Fine T s ∧ AllQ T s ∧ Chg [bS, bH] wc w') := by
        rw [HNM.out, HNQ.out.1]
        rw [HNQ.out.1] at hKn
        have k1 := hKn.lt
        have k2 := hKn.rS.lt
        have k3 := hKn.rH.lt
        refine (follow_p (KK := fun _ W s => Kn W kb bS bH (2 * (shOf T).N) s.su s.ho) (X := [bS, bH]) HOk.out hTM (by omega) (fun _ _ => hKn) (by intro k hk; simp at hk; omega) (kn_tel k1 k2 k3) (fun w' hw' => literals_p HOk.out (hTM.below hw' (by omega)) (by have := hw'.size; omega))).mono ?_
        rintro e w' ⟨rfl, _, s, _, h9⟩
        exact ⟨rfl, s, h9⟩
      have HG3 := hidLL (And.intro g3 hbw)
      clear hKn hTM hbw g3
      go_wp2_with fail
      refine HF.out.mono ?_
      rintro e w3 ⟨rfl, s, hK3, hFi, hQ, hC⟩
      have hrb3 := blk_kept hC HG3.out.1 (by simp; omega)
      have m0 : w3.cell? ⟨kb, 0, none⟩ = some (.slice (some ⟨bS, 0, none⟩) (2 * NN) (2 * NN)) := by simp [World.cell?, hK3.blk]
      have m1 : w3.cell? ⟨kb, 1, none⟩ = some (.slice (some ⟨bH, 0, none⟩) (2 * NN) (2 * NN)) := by simp [World.cell?, hK3.blk]
      have f0 : w3.cell? ⟨rb, 0, none⟩ = some (.slice none 0 0) := by simp [World.cell?, hrb3]
      have f1 : w3.cell? ⟨rb, 1, none⟩ = some (.slice none 0 0) := by simp [World.cell?, hrb3]
      have f2 : ∀ i, w3.frozen? ⟨rb, i, none⟩ = false := fun i => by simp [World.frozen?, hrb3]
      have hlr3 : rb < w3.heap.size := blk_lt hrb3
      have HEND := hidLL (And.intro hK3 (And.intro hFi (And.intro hQ hC)))
      clear hK3 hFi hQ hC hrb3
      go_wp2
      refine bodyPost_ret (v := .tuple #[.agg #[.slice (some ⟨bS, 0, none⟩) (2 * NN) (2 * NN), .slice (some ⟨bH, 0, none⟩) (2 * NN) (2 * NN)], .nilIface]) (by simp [results, Tryd.results10, go_sem, f0, f1]) rfl ?_
      obtain ⟨hK3, hFi, hQ, hC⟩ := HEND.out
      have hne : ∀ b, b ≠ rb → ∀ (W : World) (o : Nat) (u : Value), (W.setCell ⟨rb, o, none⟩ u).heap[b]? = W.heap[b]? := fun b hb W o u => Below.heap_setCell _ _ _ _ hb
      refine ⟨?_, .inr ⟨HK.out, bS, bH, s, by rw [← HNQ.out.1], by omega, by omega, ?_, ?_, hFi, hQ⟩⟩
      · have hb3 : Below w.heap.size w w3 := by
          have h9 := hC.below (B := w.heap.size) (by omega) (by intro k hk; simp at hk; omega)
          exact HG3.out.2.trans h9
        refine (hb3.setCell (p := ⟨rb, 0, none⟩) ?_ _).setCell (p := ⟨rb, 1, none⟩) ?_ _
        · show w.heap.size ≤ rb; omega
        · show w.heap.size ≤ rb; omega
      · rw [← HNQ.out.1]
        exact hK3.rS.of_block (by rw [hne bS (by omega), hne bS (by omega)])
      · rw [← HNQ.out.1]
        exact hK3.rH.of_block (by rw [hne bH (by omega), hne bH (by omega)])
/-- The theory of 'live'. -/
def T1 : Thy := ⟨1, [⟨1, 1, []⟩], []⟩
theorem T1_ranked : Ranked T1 := ⟨fun _ => 0, fun a b h => by unfold Ovr T1 at h; simp at h⟩
theorem T1_err {k : Nat} (h : errIs T1 (some k)) : False := by
  have h1 : inB T1 = true := rfl
  have h2 : T1.rules.any noKind = false := rfl
  have h3 : hasN T1 = true := rfl
  rcases h with ⟨_, h⟩ | ⟨_, _, h⟩ | ⟨_, _, _, h⟩ | ⟨_, _, _, _, h⟩ | ⟨h, _⟩
  · rw [h1] at h; cases h
  · rw [h2] at h; cases h
  · rw [h3] at h; cases h
  · exact h T1_ranked
  · cases h
theorem T1_okt : Okt T1 := okt_of rfl rfl
theorem T1_live {s : St} (hf : Fine T1 s) (hq : AllQ T1 s) : s.ho 0 = 1 ∧ s.ho 1 = 2 := by
  have hc := closed_of T1_okt hf hq
  have l1 : IsLit T1 1 := ⟨by decide, by decide, by decide⟩
  have l2 : IsLit T1 (-1) := ⟨by decide, by decide, by decide⟩
  have none2 : ∀ i r, T1.rl i r → r.head = -1 → False := fun i r hr e => by
    unfold Thy.rl T1 at hr
    match i, hr with
    | 0, hr =>
      simp only [List.getElem?_cons_zero, Option.some.injEq] at hr
      subst hr
      simp at e
    | i + 1, hr => simp at hr
  have n1 : mk T1 s 1 (-1) := hc 1 (-1) l2 fun i r hr _ e => (none2 i r hr e).elim
  have h1 : mk T1 s 2 1 := hc 2 1 l1 (.inr ⟨n1, ⟨0, ⟨1, 1, []⟩, rfl, rfl, by decide, trivial, fun b hb => by cases hb⟩, fun k r hr e => (none2 k r hr e).elim⟩)
  have h2 : mk T1 s 3 (-1) := hc 3 (-1) l2 ⟨n1, .inr (.inl fun i r hr e _ _ => (none2 i r hr e).elim)⟩
  exact ⟨h1.2, h2.2⟩
set_option maxHeartbeats 1000000 in
set_option maxRecDepth 100000 in
theorem live_w {w : World} {p : Nat → Addr} (hE : Sent4 w p) (hO : ∀ (T : Thy) (rv ov : Value) (B : Nat) (W : World), Okt T → TM W B T rv ov → B ≤ W.heap.size → OrdC T rv ov W) : Calls Tryd.prog 8 #[] w fun e w' => e = .returned (.bool true) ∧ Below w.heap.size w w' := by
  obtain ⟨W0, hW0⟩ : ∃ W0 : World, W0 = w.alloc (.cells #[.int .i64 1, .int .i64 1, .slice none 0 0] 58) := ⟨_, rfl⟩
  have hb0 : Below w.heap.size w W0 := by rw [hW0]; exact (Below.refl _ _).alloc (Nat.le_refl _) _
  have hblk : W0.heap[w.heap.size]? = some (.cells #[.int .i64 1, .int .i64 1, .slice none 0 0] 58) := by rw [hW0]; exact blk_new _ _
  have hTM : TM W0 W0.heap.size T1 (.slice (some ⟨w.heap.size, 0, none⟩) 1 1) (.slice none 0 0) := by
    refine ⟨⟨some ⟨w.heap.size, 0, none⟩, 1, rfl, by decide, fun i r hr => ?_⟩, ⟨none, 0, rfl, by decide, fun i x hx => by simp [T1] at hx⟩, by decide, by decide⟩
    match i, hr with
    | 0, hr =>
      have hr : some (⟨1, 1, []⟩ : Rl) = some r := hr
      injection hr with hr
      subst hr
      exact ⟨w.heap.size, 0, .slice none 0 0, rfl, blk_lt hblk, by simp [World.cell?, hblk], by simp [World.cell?, hblk], by simp [World.cell?, hblk], ⟨none, 0, rfl, by decide, fun j x hx => by simp at hx⟩⟩
    | i + 1, hr => simp [T1] at hr
  have HS : Hid (Calls Tryd.prog 10 #[.agg #[.int .i64 1, .slice (some ⟨w.heap.size, 0, none⟩) 1 1, .slice none 0 0]] W0 (SolR T1 p W0)) := solve_v hTM (Nat.le_refl _) (hE.bel hb0) (fun h W hW => hO T1 _ _ W0.heap.size W h (hTM.below hW (Nat.le_refl _)) hW.size)
  have HW0 := hidLL hW0
  have HB0 := hidLL hb0
  clear hW0 hb0 hblk hTM hE hO
  go_enter Tryd.func8, Tryd.ntmps8
  go_wp2_with fail
  rw [← HW0.out]
  refine HS.out.mono ?_
  rintro e w1 ⟨hb1, ⟨k, hk, rfl⟩ | ⟨_, bS, bH, s, rfl, _, _, hS, hH, hF, hQ⟩⟩
  · exact (T1_err hk).elim
  · obtain ⟨v0, v1⟩ := T1_live hF hQ
    have y0 := hH.cell (i := 0) (by decide)
    have y1 := hH.cell (i := 1) (by decide)
    rw [v0] at y0
    rw [v1] at y1
    have hlt := hH.lt
    have e2 : 2 * (shOf T1).N = 2 := rfl
    rw [e2]
    have HB1 := hidLL hb1
    clear hS hH hF hQ hb1 v0 v1 e2
    go_wp2
    go_ret
    refine ⟨rfl, ?_⟩
    exact (HB0.out.trans (HB1.out.mono HB0.out.size)).alloc (Nat.le_trans HB0.out.size HB1.out.size) _
end Go.Proofs.YtmbclnaenjcocaaDoor
