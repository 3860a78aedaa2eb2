/-
  Package reason: Follow; package why: Explain.
-/
import Derived.Test.YtmbclnaenjcocaaGreatDoorRsV3
import Derived.Test.YtmbclnaenjcocaaGreatDoorRsP8
import Derived.Test.YtmbclnaenjcocaaGreatDoorRsOrd3
import Derived.Test.YtmbclnaenjcocaaGreatDoorWeG2
import Derived.Deep.RegionHeld
import Derived.Test.YtmbclnaenjcocaaGreatDoorWeG5
namespace Go.Proofs.YtmbclnaenjcocaaGreatDoor
open Go.RowKit

theorem okt_none {T : Thy} (h : errIs T none) : Okt T := by
  rcases h with ⟨e, _⟩ | ⟨e, _⟩ | ⟨e, _⟩ | ⟨e, _⟩ | ⟨_, h1, _, h3, _⟩
  · cases e
  · cases e
  · cases e
  · cases e
  · exact okt_of h1 h3
/-- What Follow answers, and what Explain's teller has heard. -/
def FolR (T : Thy) (p : Nat → Addr) (kb : Nat) (w : World) (e : Ending) (w' : World) : Prop :=
  Chg [kb] w w' ∧ ((∃ k, errIs T (some k) ∧ e = .returned (errV p (some k))) ∨ (errIs T none ∧ e = .returned .nilIface ∧ ∃ top s tr hl v, Hea T kb top w' s tr hl v ∧ Fine T s ∧ AllQ T s))
set_option maxHeartbeats 4000000 in
set_option maxRecDepth 100000 in
theorem Follow_v {T : Thy} {rv ov : Value} {B kb : Nat} {w : World} (hM : TM w B T rv ov) (hB : B ≤ w.heap.size) {p : Nat → Addr} (hE : Sent4 w p) (hk : w.heap[kb]? = some (.cells #[.slice none 0 0] 63 (0, 0))) (hkB : B ≤ kb) :
    Calls Tryz.prog 18 #[.agg #[.int .i64 T.names, rv, ov], .func (.func 19) #[] #[.pointer (some ⟨kb, 0, none⟩)]] w (FolR T p kb w) := by
  obtain ⟨W0, hW0⟩ : ∃ W0 : World, W0 = w.alloc (.cells #[.int .i64 T.names, rv, ov] 35) := ⟨_, rfl⟩
  have hb0 : Below w.heap.size w W0 := by rw [hW0]; exact (Below.refl _ _).alloc (Nat.le_refl _) _
  have hz0 : W0.heap.size = w.heap.size + 1 := by rw [hW0]; simp
  have hk0 : W0.heap[w.heap.size]? = some (.cells #[.int .i64 T.names, rv, ov] 35) := by rw [hW0]; exact blk_new _ _
  have hkl := blk_lt hk
  have HX : Hid (∀ W, Below W0.heap.size W0 W → W.cell? ⟨w.heap.size, 0, none⟩ = some (.int .i64 T.names) ∧ W.cell? ⟨w.heap.size, 1, none⟩ = some rv ∧ W.cell? ⟨w.heap.size, 2, none⟩ = some ov ∧ W.heap[kb]? = some (.cells #[.slice none 0 0] 63 (0, 0)) ∧ TM W B T rv ov ∧ Below w.heap.size w W) := fun W hW => by
    have h1 := (hW.block w.heap.size (by omega)).trans hk0
    have h4 : Below w.heap.size w W := hb0.trans (hW.mono (by omega))
    exact ⟨by simp [World.cell?, h1], by simp [World.cell?, h1], by simp [World.cell?, h1], (h4.block kb hkl).trans hk, hM.below h4 hB, h4⟩
  have HV := hidLL (valid_v (hM.below hb0 hB) (by omega) (hE.bel hb0) (fun h W hW => ordered_p h ((hM.below hb0 hB).below hW (by omega)) (by have := hW.size; omega)))
  obtain ⟨c0, c1, c2, _, _, _⟩ := HX.out W0 (Below.refl _ _)
  obtain ⟨ra, rc, hrv, _, _⟩ := hM.r
  obtain ⟨oa, oc, hov, _, _⟩ := hM.o
  have HW0 := hidLL hW0
  have HZ0 := hidLL (And.intro hz0 hb0)
  clear hW0 hb0 hk0 hM hE hz0 hk
  obtain ⟨nm, hnm⟩ : ∃ nm, nm = T.names := ⟨_, rfl⟩
  obtain ⟨rv0, hrv0⟩ : ∃ x, x = rv := ⟨_, rfl⟩
  obtain ⟨ov0, hov0⟩ : ∃ x, x = ov := ⟨_, rfl⟩
  subst hrv hov
  obtain ⟨R, hR⟩ : ∃ R, R = T.rules.length := ⟨_, rfl⟩
  obtain ⟨OO, hOO⟩ : ∃ OO, OO = T.over.length := ⟨_, rfl⟩
  rw [← hR] at c1 HV HW0 HX ⊢
  rw [← hOO] at c2 HV HW0 HX ⊢
  rw [← hnm] at c0 HV HW0 HX ⊢
  have HNM := hidLL (And.intro hnm (And.intro hR hOO))
  clear hnm hR hOO hrv0 hov0
  go_enter Tryz.func18, Tryz.ntmps18
  go_upto_region 1 with fail
  rw [← HW0.out]
  go_wp2_with fail
  refine HV.out.mono ?_
  rintro e w1 ⟨k, rfl, hk, hb1⟩
  obtain ⟨d0, d1, d2, d3, dM, hbw⟩ := HX.out w1 hb1
  have HBW := hidLL (And.intro hbw (And.intro hb1 hk))
  cases k with
  | some k =>
    clear hk hb1 hbw d3 dM
    unfold errV
    go_wp2
    go_ret
    exact ⟨Chg.of_below HBW.out.1, .inl ⟨k, HBW.out.2.2, rfl⟩⟩
  | none =>
    have hOk := okt_none hk
    have hs1 := hb1.size
    have hs2 := hbw.size
    have HF : Hid (Calls Tryz.prog 29 #[.agg #[.int .i64 nm, .slice ra R rc, .slice oa OO oc], .func (.func 19) #[] #[.pointer (some ⟨kb, 0, none⟩)]] w1 fun e w' => e = .returned (.tuple #[]) ∧ ∃ top s, KH T kb top w' s ∧ Fine T s ∧ AllQ T s ∧ Chg [kb] w1 w') := by
      rw [HNM.out.1]
      have dM2 := dM
      refine (follow_p (KK := fun top W s => KH T kb top W s) (X := [kb]) hOk dM2 (by omega) (fun top _ => ⟨[], [], .slice none 0 0, Hea.start T d3⟩) (by intro k hk; simp at hk; have := HZ0.out.1; omega) (kh_tel hOk (by have := HZ0.out.1; omega)) (fun w' hw' => literals_p hOk (dM2.below hw' (by omega)) (by have := hw'.size; omega))).mono ?_
      rintro e w' ⟨rfl, top, s, _, h9⟩
      exact ⟨rfl, top, s, h9⟩
    clear hk hb1 hbw d3 dM
    unfold errV
    go_wp2_with fail
    refine HF.out.mono ?_
    rintro e w3 ⟨rfl, top, s, ⟨tr, hl, v, hH⟩, hFi, hQ, hC⟩
    have HEND := hidLL (And.intro hH (And.intro hFi (And.intro hQ hC)))
    clear hH hFi hQ hC
    go_wp2
    go_ret
    exact ⟨(Chg.of_below HBW.out.1).trans HEND.out.2.2.2, .inr ⟨HBW.out.2.2, rfl, top, s, tr, hl, v, HEND.out.1, HEND.out.2.1, HEND.out.2.2.1⟩⟩
end Go.Proofs.YtmbclnaenjcocaaGreatDoor
namespace Go.Proofs.YtmbclnaenjcocaaGreatDoor
open Go.RowKit

theorem Trc.from {T : Thy} : ∀ (tr : List (Clm × List Clm)), Trc T tr → ∀ y, y ∈ tr → IsLit T y.1.2.2 ∧ ∀ c, c ∈ y.2 → IsLit T c.2.2
  | [], _, y, hy => by cases hy
  | x :: tr, h, y, hy => by
    rcases List.mem_cons.1 hy with rfl | hy
    · exact ⟨h.2.1, fun c hc => Trc.lit tr h.1 c (h.2.2.1 c hc)⟩
    · exact Trc.from tr h.1 y hy
theorem lit_wf {T : Thy} (hT : Okt T) {c : Clm} (h : IsLit T c.2.2) : ClmWf c := by
  have h1 := h.2.1
  have h2 := h.2.2
  have := hT.n1
  unfold ClmWf
  simp [Lit.wf, IntKind.min, IntKind.max, IntKind.bits, IntKind.signed]
  omega
theorem bwd_map' {α : Type} (l : List α) {n : Nat} (hn : n = l.length) : (bwd n).map (fun i => l.reverse[i.1]'(by rw [List.length_reverse, ← hn]; exact i.2)) = l := by
  have h := bwd_map l
  have e : l.reverse.length = n := by rw [List.length_reverse, hn]
  subst e
  exact h
/-- What Explain answers. -/
def ExpR (T : Thy) (p : Nat → Addr) (c : Clm) (w : World) (e : Ending) (w' : World) : Prop :=
  Below w.heap.size w w' ∧ ((∃ k, errIs T (some k) ∧ e = .returned (.tuple #[.slice none 0 0, .bool false, errV p (some k)])) ∨
    (errIs T none ∧ ∃ u s tr, e = .returned (.tuple #[u, .bool (decide (0 < (pick (fun x => x == c) tr).length)), .nilIface]) ∧ Told T s tr ∧ Fine T s ∧ AllQ T s ∧ SRd w' w'.heap.size u (pick (fun x => x == c) tr).reverse))
set_option maxHeartbeats 4000000 in
set_option maxRecDepth 100000 in
theorem explain_v {T : Thy} {rv ov : Value} {B : Nat} {w : World} (hM : TM w B T rv ov) (hB : B ≤ w.heap.size) {p : Nat → Addr} (hE : Sent4 w p) (a b : Bool) (q : Int) (hq : ClmWf (a, b, q)) :
    Calls Tryz.prog 6 #[.agg #[.int .i64 T.names, rv, ov], .agg #[.bool a, .bool b, .int .i64 q]] w (ExpR T p (a, b, q) w) := by
  obtain ⟨W0, hW0⟩ : ∃ W0 : World, W0 = ((w.alloc (.cells #[.int .i64 T.names, rv, ov] 35)).alloc (.cells #[.bool a, .bool b, .int .i64 q] 37)).alloc (.cells #[.slice none 0 0] 63) := ⟨_, rfl⟩
  have hb0 : Below w.heap.size w W0 := by rw [hW0]; exact (((Below.refl _ _).alloc (Nat.le_refl _) _).alloc (by simp) _).alloc (by simp; omega) _
  have hz0 : W0.heap.size = w.heap.size + 3 := by rw [hW0]; simp
  have hk0 : W0.heap[w.heap.size]? = some (.cells #[.int .i64 T.names, rv, ov] 35) := by rw [hW0]; exact blk_kept (((Chg.refl [] _).alloc _).alloc _) (blk_new _ _) (by simp)
  have hk1 : W0.heap[w.heap.size + 1]? = some (.cells #[.bool a, .bool b, .int .i64 q] 37) := by
    rw [hW0]
    have := blk_new (w.alloc (.cells #[.int .i64 T.names, rv, ov] 35)) (.cells #[.bool a, .bool b, .int .i64 q] 37)
    rw [World.size_alloc] at this
    exact blk_kept ((Chg.refl [] _).alloc _) this (by simp)
  have hk2 : W0.heap[w.heap.size + 1 + 1]? = some (.cells #[.slice none 0 0] 63) := by
    rw [hW0]
    have := blk_new ((w.alloc (.cells #[.int .i64 T.names, rv, ov] 35)).alloc (.cells #[.bool a, .bool b, .int .i64 q] 37)) (.cells #[.slice none 0 0] 63)
    rw [World.size_alloc, World.size_alloc] at this
    exact this
  have c0 : W0.cell? ⟨w.heap.size, 0, none⟩ = some (.int .i64 T.names) := by simp [World.cell?, hk0]
  have c1 : W0.cell? ⟨w.heap.size, 1, none⟩ = some rv := by simp [World.cell?, hk0]
  have c2 : W0.cell? ⟨w.heap.size, 2, none⟩ = some ov := by simp [World.cell?, hk0]
  have HF := hidLL (Follow_v (hM.below hb0 hB) (by omega) (hE.bel hb0) hk2 (by omega))
  obtain ⟨ra, rc, hrv, _, _⟩ := hM.r
  obtain ⟨oa, oc, hov, _, _⟩ := hM.o
  have HW0 := hidLL hW0
  have HZ0 := hidLL (And.intro hz0 (And.intro hb0 hk1))
  clear hW0 hb0 hk0 hk1 hk2 hM hE hz0
  obtain ⟨nm, hnm⟩ : ∃ nm, nm = T.names := ⟨_, rfl⟩
  subst hrv hov
  obtain ⟨R, hR⟩ : ∃ R, R = T.rules.length := ⟨_, rfl⟩
  obtain ⟨OO, hOO⟩ : ∃ OO, OO = T.over.length := ⟨_, rfl⟩
  rw [← hR] at c1 HF HW0 ⊢
  rw [← hOO] at c2 HF HW0 ⊢
  rw [← hnm] at c0 HF HW0 ⊢
  clear hnm hR hOO
  go_enter Tryz.func6, Tryz.ntmps6
  go_upto_region 2 with fail
  rw [← HW0.out]
  go_wp2_with fail
  refine HF.out.mono ?_
  rintro e w1 ⟨hC, ⟨k, hk, rfl⟩ | ⟨hk, rfl, top, s, tr, hl, v, hH, hFi, hQ⟩⟩
  · have HEND : Hid (Below w.heap.size w w1 ∧ errIs T (some k)) := ⟨HZ0.out.2.1.trans (hC.below (by have := HZ0.out.1; omega) (by intro j hj; simp at hj; omega)), hk⟩
    clear hC hk
    unfold errV
    go_wp2
    go_ret3
    exact ⟨HEND.out.1, .inl ⟨k, HEND.out.2, rfl⟩⟩
  · have hOk := okt_none hk
    have hz0 := HZ0.out.1
    have hb1 : Below w.heap.size w w1 := HZ0.out.2.1.trans (hC.below (by omega) (by intro j hj; simp at hj; omega))
    have hg1 : w1.heap[w.heap.size + 1]? = some (.cells #[.bool a, .bool b, .int .i64 q] 37) := blk_kept hC HZ0.out.2.2 (by simp)
    have d0 : w1.cell? ⟨w.heap.size + 1, 0, none⟩ = some (.bool a) := by simp [World.cell?, hg1]
    have d1 : w1.cell? ⟨w.heap.size + 1, 1, none⟩ = some (.bool b) := by simp [World.cell?, hg1]
    have d2 : w1.cell? ⟨w.heap.size + 1, 2, none⟩ = some (.int .i64 q) := by simp [World.cell?, hg1]
    have hle := hH.len
    have hlen := hH.row.len
    obtain ⟨va, vc, hv⟩ := hH.row.any
    have hrd := hH.row.rd
    have d3 : w1.cell? ⟨w.heap.size + 1 + 1, 0, none⟩ = some v := by simp [World.cell?, hH.blk]
    have HP := hidLL (stepsTo_p (w := w1) (va := va) (vc := vc) (n := hl.length) (hl := hl) (fun i => tr.reverse[i.1]'(by rw [List.length_reverse, ← hle]; exact i.2)) a b q hq rfl (by rw [← hv]; exact hrd) hlen (fun i => by
      have hy : tr.reverse[i.1]? = some (tr.reverse[i.1]'(by rw [List.length_reverse, ← hle]; exact i.2)) := List.getElem?_eq_getElem _
      obtain ⟨h1, h2⟩ := hH.each i.1 _ _ (List.getElem?_eq_getElem i.2) hy
      have hmem : (tr.reverse[i.1]'(by rw [List.length_reverse, ← hle]; exact i.2)) ∈ tr := List.mem_reverse.1 (List.getElem_mem _)
      obtain ⟨t1, t2⟩ := Trc.from tr hH.told.trc _ hmem
      exact ⟨h1, lit_wf hOk t1, srd_own h2.row (by have := h2.len; omega), h2.len, fun c hc => lit_wf hOk (t2 c hc)⟩))
    rw [bwd_map' tr hle] at HP
    rw [hv] at d3
    obtain ⟨n5, hn5⟩ : ∃ n5, n5 = hl.length := ⟨_, rfl⟩
    rw [← hn5] at HP d3
    have HEND := hidLL (And.intro hb1 (And.intro hk (And.intro hH.told (And.intro hFi hQ))))
    have hwl := blk_lt hg1
    clear hC hk hH hFi hQ hb1 hg1 hrd hv hlen hle hn5 hOk
    go_wp2_with fail
    refine HP.out.mono ?_
    rintro e w2 ⟨u, rfl, hu, hb2⟩
    have HU := hidLL (And.intro hu hb2)
    obtain ⟨ua, uc, hu1, hu2, _⟩ := hu
    obtain ⟨L, hL⟩ : ∃ L, L = (pick (fun x => x == (a, b, q)) tr).length := ⟨_, rfl⟩
    rw [List.length_reverse, ← hL] at hu1 hu2
    have HL := hidLL (And.intro hL hu1)
    subst hu1
    clear hb2 hL
    go_wp2
    go_ret3
    refine ⟨HEND.out.1.trans (HU.out.2.mono HEND.out.1.size), .inr ⟨HEND.out.2.1, _, s, tr, ?_, HEND.out.2.2.1, HEND.out.2.2.2.1, HEND.out.2.2.2.2, HU.out.1⟩⟩
    rw [← HL.out.1]
    simp
end Go.Proofs.YtmbclnaenjcocaaGreatDoor
namespace Go.Proofs.YtmbclnaenjcocaaGreatDoor
open Go.RowKit

theorem TM.mono {w : World} {B B' : Nat} {T : Thy} {rv ov : Value} (h : TM w B T rv ov) (hB : B ≤ B') : TM w B' T rv ov := by
  obtain ⟨a, c, e, hl, hx⟩ := h.r
  obtain ⟨a2, c2, e2, hl2, hx2⟩ := h.o
  refine ⟨⟨a, c, e, hl, fun i r hr => ?_⟩, ⟨a2, c2, e2, hl2, fun i x hxx => ?_⟩, h.n1, h.n2⟩
  · obtain ⟨g, o, bv, f1, f2, f3, f4, f5, f6⟩ := hx i r hr
    exact ⟨g, o, bv, f1, by omega, f3, f4, f5, f6.mono hB⟩
  · obtain ⟨g, o, f1, f2, f3⟩ := hx2 i x hxx
    exact ⟨g, o, f1, by omega, f3⟩
theorem TP.mono {w : World} {B B' : Nat} {T : Thy} {rv ov : Value} {pb po : Nat} (h : TP w B T rv ov pb po) (hB : B ≤ B') : TP w B' T rv ov pb po :=
  ⟨h.c0, h.c1, h.c2, Nat.lt_of_lt_of_le h.lt hB, h.tm.mono hB, h.nb, h.no⟩
theorem pick_pos {tr : List (Clm × List Clm)} {c : Clm} : decide (0 < (pick (fun x => x == c) tr).length) = true ↔ c ∈ tr.map (·.1) := by
  rw [decide_eq_true_iff]
  constructor
  · intro h
    refine Classical.byContradiction fun hn => ?_
    rw [pick_none c tr hn] at h
    exact absurd h (by simp)
  · intro h
    obtain ⟨l, hl⟩ := pick_goal c tr h
    rw [hl]
    simp
/-- What has been told is what is so by the reference. -/
theorem has_want {T : Thy} (hT : Okt T) {s : St} {tr : List (Clm × List Clm)} (hTo : Told T s tr) (hF : Fine T s) (hQ : AllQ T s) {m : Nat → Nat → Bool} (hS : Shw T (mkB T m)) (hC : Closed T (mkB T m)) {c : Clm} (hl : IsLit T c.2.2) : decide (0 < (pick (fun x => x == c) tr).length) = m (pl c.2.2) (kOf c.1 c.2.1) := by
  have hc := closed_of hT hF hQ
  have h1 : m (pl c.2.2) (kOf c.1 c.2.1) = true ↔ mkB T m (kOf c.1 c.2.1) c.2.2 := ⟨fun e => ⟨hl, kOf_lt _ _, e⟩, fun e => e.2.2⟩
  apply Bool.eq_iff_iff.2
  rw [pick_pos, hTo.all, h1, hS.all hC, hF.2.all hc]
theorem has_none {T : Thy} {s : St} {tr : List (Clm × List Clm)} (hTo : Told T s tr) {c : Clm} (hl : ¬ IsLit T c.2.2) : pick (fun x => x == c) tr = [] := pick_none c tr fun h => hl (Trc.lit tr hTo.trc c h)
theorem pick_nodup {T : Thy} {s : St} {tr : List (Clm × List Clm)} (hTo : Told T s tr) (N : Clm → Bool) : (pick N tr).reverse.Nodup := by
  have h : (pick N tr).Nodup := List.Nodup.sublist (pick_sub tr N) (Trc.nodup tr hTo.trc)
  show List.Pairwise _ _
  rw [List.pairwise_reverse]
  exact List.Pairwise.imp (fun hab e => hab e.symm) h
/-- A region is walked under a stronger condition. -/
theorem wpAnyH_weaken {P : Program} {ops : Array Oper} {Q : Exit → Act → World → Prop} {md : Region.Mode} {S S' : World → Prop} (h : ∀ w, S' w → S w) : ∀ (fuel : Nat) (listed : Array Bool) (a : Act) (w : World), wpAnyH P md ops Q S' fuel listed a w → wpAnyH P md ops Q S fuel listed a w
  | 0, _, _, _, hh => hh
  | fuel + 1, _, _, _, hh => ⟨hh.1, fun i hi => wpOp_mono (fun a' w' h' => ⟨h w' h'.1, wpAnyH_weaken h fuel _ a' w' h'.2⟩) (hh.2 i hi)⟩
end Go.Proofs.YtmbclnaenjcocaaGreatDoor
