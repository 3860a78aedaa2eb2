/-
  The laws of rules: error codes.
-/
import Derived.Test.YtmbclnaenjcocaaGreatDoorRfVal
import Derived.Test.YtmbclnaenjcocaaGreatDoorCode
import Derived.Test.YtmbclnaenjcocaaGreatDoorWhPl
import Derived.Test.YtmbclnaenjcocaaGreatDoorWhCheck
namespace Go.Proofs.YtmbclnaenjcocaaGreatDoor
open Go.RowKit

theorem coded_nil (n : Int) (w : World) : Calls Tryz.prog 10 #[.nilIface, .int .i64 n] w fun e w' => e = .returned (.bool ((0 : Int) == n)) ∧ w' = w := by
  go_enter Tryz.func10, Tryz.ntmps10
  go_wp2_with (go_at_call 22; refine (code_nil _).mono ?_; rintro e w' ⟨rfl, rfl⟩)
  go_ret
  exact ⟨rfl, rfl⟩
theorem coded_sent (k : Nat) (hk : k < 11) (n : Int) (p : Nat → Addr) (w : World) (L : Laid w p) :
    Calls Tryz.prog 10 #[.iface 160 (.pointer (some (p k))), .int .i64 n] w fun e w' => e = .returned (.bool (((k : Int) + 1) == n)) ∧ Below w.heap.size w w' := by
  go_enter Tryz.func10, Tryz.ntmps10
  go_wp2_with fail
  refine (code_sent k hk p _ L).mono ?_
  rintro e w' ⟨rfl, hb⟩
  go_wp2
  go_ret
  exact ⟨rfl, hb⟩
/-- What is told of a theory by an error's code. -/
theorem coded_k {p : Nat → Addr} {T : Thy} {k : Option Nat} (hk : errIs T k) (w : World) (L : Laid w p) : Calls Tryz.prog 10 #[errV p k, .int .i64 (codeK k)] w fun e w' => e = .returned (.bool true) ∧ Below w.heap.size w w' := by
  cases k with
  | none =>
    refine (coded_nil 0 w).mono ?_
    rintro e w' ⟨rfl, rfl⟩
    exact ⟨rfl, Below.refl _ _⟩
  | some k =>
    have hlt : k < 11 := by
      rcases hk with ⟨e, _⟩ | ⟨e, _⟩ | ⟨e, _⟩ | ⟨e, _⟩ | ⟨e, _⟩
      · injection e with e; omega
      · injection e with e; omega
      · injection e with e; omega
      · injection e with e; omega
      · cases e
    refine (coded_sent k hlt (codeK (some k)) p w L).mono ?_
    rintro e w' ⟨rfl, hb⟩
    exact ⟨by unfold codeK; simp, hb⟩
theorem Laid.sent4 {w : World} {p : Nat → Addr} (h : Laid w p) : Sent4 w p := ⟨h.cell 1 (by omega), h.cell 6 (by omega), h.cell 7 (by omega), h.cell 8 (by omega)⟩
end Go.Proofs.YtmbclnaenjcocaaGreatDoor
namespace Go.Proofs.YtmbclnaenjcocaaGreatDoor
open Go.RowKit

theorem kind_r (a b : Bool) (q : Int) (w : World) : Calls Tryz.prog 14 #[.agg #[.bool a, .bool b, .int .i64 q]] w fun e w' => e = .returned (.int .i64 (kOf a b)) ∧ Below w.heap.size w w' := by
  cases a <;> cases b
  all_goals
    go_enter Tryz.func14, Tryz.ntmps14
    go_wp2
    go_ret
    exact ⟨rfl, (Below.refl _ _).alloc (Nat.le_refl _) _⟩
theorem kOf_lt (a b : Bool) : kOf a b < 4 := by cases a <;> cases b <;> decide
/-- What Checked answers. -/
def ChkR (T : Thy) (l : List Clm) (w : World) (e : Ending) (w' : World) : Prop := ∃ b, e = .returned (.bool b) ∧ (b = true ↔ goodL T (fun _ _ => False) l) ∧ Below w.heap.size w w'
set_option maxHeartbeats 4000000 in
set_option maxRecDepth 100000 in
theorem checked_r {w : World} {B : Nat} {T : Thy} {rv ov : Value} {pb po : Nat} (h : TP w B T rv ov pb po) (hB : B ≤ w.heap.size) (hT : Okt T) {ca : Option Addr} {cn cc : Nat} {l : List Clm} (hC : SRd w B (.slice ca cn cc) l) (hcn : cn = l.length) : Calls Tryz.prog 15 #[.pointer (some ⟨pb, po, none⟩), .slice ca cn cc] w (ChkR T l w) := by
  have HN := hidLL (nothing_r h hB hT)
  have HT := hidLL hT
  obtain ⟨N2, hN2⟩ : ∃ N2, N2 = 2 * T.names.toNat := ⟨_, rfl⟩
  have hN2l : N2 ≤ 1000 := by have := hT.n1; have := hT.n0; omega
  have HN2 := hidLL hN2
  have hcl : cn ≤ 8796093022208 := by
    obtain ⟨a', c', e, h9, _⟩ := hC
    omega
  have HC : Hid (∀ W, Below w.heap.size w W → SRd W B (.slice ca cn cc) l) := fun W hW => hC.on fun k hk => hW.block k (by omega)
  have HCN := hidLL hcn
  have HB := hidLL hB
  clear h hB hT hC hcn hN2
  go_enter Tryz.func15, Tryz.ntmps15
  go_wp2_with fail
  refine HN.out.mono ?_
  rintro e w1 ⟨sb, bM, rfl, hSM, hsb, hbM, hne, hb1⟩
  have H1 := hidLL (And.intro hSM hb1)
  have HP0 := hidLL (And.intro hsb (And.intro hbM hne))
  clear hSM hb1 HN hsb hbM hne
  go_wp2_with fail
  go_loopw [6] (fun t wr => ∃ (j : Nat) (m : Nat → Nat → Bool), j ≤ cn ∧ t = .int .i64 j ∧ SM wr T rv ov B pb po sb bM m ∧ (goodL T (fun _ _ => False) l ↔ goodL T (mkB T m) (l.drop j)) ∧ Below w.heap.size w wr) (fun t _ => cn - (RowKit.intOf t).toNat)
  case atStart => exact ⟨0, _, by omega, rfl, H1.out.1, by rw [mkB_none, List.drop_zero], H1.out.2⟩
  case round =>
    obtain ⟨j, m, hj, rfl, hSM, hG, hbel⟩ := hrel
    obtain ⟨w3, hw3⟩ : ∃ w3 : World, w3 = wr := ⟨_, rfl⟩
    subst hw3
    by_cases hlt : j < cn
    · have hjz : (j : Int) < cn := by omega
      obtain ⟨x, hx⟩ : ∃ x, l[j]? = some x := ⟨_, List.getElem?_eq_getElem (by have := HCN.out; omega)⟩
      have hdr : l.drop j = x :: l.drop (j + 1) := by
        obtain ⟨h9, e9⟩ := List.getElem?_eq_some_iff.1 hx
        rw [List.drop_eq_getElem_cons h9, e9]
      rw [hdr] at hG
      obtain ⟨g, o, ea, hgB, y0, y1, y2⟩ := (HC.out w3 hbel).at hx
      subst ea
      have hgl : g < w3.heap.size := Nat.lt_of_lt_of_le hgB (Nat.le_trans HB.out hbel.size)
      obtain ⟨xa, xb, xq⟩ := x
      have hG : goodL T (fun _ _ => False) l ↔ IsLit T xq ∧ Can T (mkB T m) (kOf xa xb) xq ∧ goodL T (addM (mkB T m) (kOf xa xb) xq) (l.drop (j + 1)) := hG
      simp only at y0 y1 y2
      have HI := hidLL (isLit_r hSM.tp.c0 HT.out.n0 HT.out.n1 xq)
      have HS := hidLL (And.intro hSM (And.intro hG hbel))
      clear hSM hG hbel hx hdr
      cases hno : noLit T xq with
      | true =>
        rw [hno] at HI
        have HNO : Hid (¬ IsLit T xq) := fun e => by rw [noLit_iff.2 e] at hno; cases hno
        clear hno
        go_wp2_with fail
        refine HI.out.mono ?_
        rintro e w' ⟨rfl, ew⟩
        subst w'
        go_wp2
        go_ret
        exact ⟨false, rfl, ⟨fun e => (by cases e), fun e => absurd (HS.out.2.1.1 e).1 HNO.out⟩, HS.out.2.2⟩
      | false =>
        rw [hno] at HI
        have HLit := hidLL (noLit_iff.1 hno)
        clear hno
        have HK := hidLL (kind_r xa xb xq w3)
        have hk4 := kOf_lt xa xb
        have HCan : Hid (∀ W, Below w3.heap.size w3 W → Calls Tryz.prog 26 #[.pointer (some ⟨sb, 0, none⟩), .int .i64 xq, .int .i64 (kOf xa xb)] W (BR W (canB T m (kOf xa xb) xq))) := fun W hW => can_r (HS.out.1.bel hW) HT.out HLit.out hk4
        have HCV : Hid (canB T m (kOf xa xb) xq = true ↔ Can T (mkB T m) (kOf xa xb) xq) := canB_iff HT.out HLit.out hk4
        obtain ⟨k, hk⟩ : ∃ k, k = kOf xa xb := ⟨_, rfl⟩
        rw [← hk] at HK hk4 HCan HCV HS
        clear hk
        generalize canB T m k xq = cb at *
        go_wp2_with fail
        refine HI.out.mono ?_
        rintro e w' ⟨rfl, ew⟩
        subst w'
        go_wp2_with fail
        refine HK.out.mono ?_
        rintro e w4 ⟨rfl, hb4⟩
        have hgl4 : g < w4.heap.size := Nat.lt_of_lt_of_le hgl hb4.size
        have z2 : w4.cell? ⟨g, o + j * 3 + 2, none⟩ = some (.int .i64 xq) := (hb4.cell (p := ⟨g, o + j * 3 + 2, none⟩) hgl).trans y2
        have HC4 := hidLL (HCan.out w4 hb4)
        have H4 := hidLL hb4
        clear hb4 HCan HK HI
        go_wp2_with fail
        refine HC4.out.mono ?_
        rintro e w5 ⟨rfl, hb5⟩
        have x2 : w5.cell? ⟨g, o + j * 3 + 2, none⟩ = some (.int .i64 xq) := (hb5.cell (p := ⟨g, o + j * 3 + 2, none⟩) hgl4).trans z2
        have hgl5 : g < w5.heap.size := Nat.lt_of_lt_of_le hgl4 hb5.size
        have H5 := hidLL (H4.out.trans (hb5.mono H4.out.size))
        clear hb5 HC4 y0 y1 y2 z2 hgl hgl4
        cases cb with
        | false =>
          go_wp2
          go_ret
          exact ⟨false, rfl, ⟨fun e => (by cases e), fun e => absurd (HCV.out.2 (HS.out.2.1.1 e).2.1) (by simp)⟩, HS.out.2.2.trans (H5.out.mono HS.out.2.2.size)⟩
        | true =>
          obtain ⟨q0, q1, q2, q3⟩ := HLit.out.ok HT.out
          have hSM5 := HS.out.1.bel H5.out
          have HPl : Hid (∀ W, Calls Tryz.prog 13 #[.int .i64 xq] W fun e w' => e = .returned (.int .i64 (pl xq)) ∧ w' = W) := fun W => plR_w xq q0 q1 q2 W
          have hpN : pl xq < N2 := by rw [HN2.out]; exact q3
          have HUp : Hid (mkB T (updM m (pl xq) k) = addM (mkB T m) k xq) := mkB_upd HLit.out hk4
          obtain ⟨p, hp⟩ : ∃ p, p = pl xq := ⟨_, rfl⟩
          rw [← hp] at HPl hpN HUp
          have HSet : Hid (∀ W, Below (w5.setCell ⟨bM, p * 4 + k, none⟩ (.bool true)).heap.size (w5.setCell ⟨bM, p * 4 + k, none⟩ (.bool true)) W → SM W T rv ov B pb po sb bM (updM m p k) ∧ Below w.heap.size w W) := fun W hW => by
            have hbm := HP0.out.2.1
            have hb2 := HS.out.2.2.trans (H5.out.mono HS.out.2.2.size)
            have hb3 := hb2.setCell (p := ⟨bM, p * 4 + k, none⟩) hbm (.bool true)
            exact ⟨(hSM5.set (Nat.le_trans HB.out hbm) HP0.out.2.2 hk4).bel hW, hb3.trans (hW.mono hb3.size)⟩
          have s0 : w5.cell? ⟨sb, 0, none⟩ = some (.pointer (some ⟨pb, po, none⟩)) := by simp [World.cell?, hSM5.sh]
          have s1 : w5.cell? ⟨sb, 1, none⟩ = some (.slice (some ⟨bM, 0, none⟩) N2 N2) := by rw [HN2.out]; simp [World.cell?, hSM5.sh]
          have s2 := hSM5.row.cell (i := p * 4 + k) (by rw [← HN2.out]; omega)
          have s3 := hSM5.row.frozen (p * 4 + k)
          have hlM := hSM5.row.lt
          have hk4z : (k : Int) < 4 := by omega
          have hpz : (p : Int) < (N2 : Int) := by omega
          generalize Value.bool (m ((p * 4 + k) / 4) ((p * 4 + k) % 4)) = u2 at s2
          clear hSM5 hp q0 q1 q2 q3
          go_wp2_with fail
          go_region_with (go_at_call 13; refine (HPl.out _).mono ?_; rintro e w' ⟨rfl, rfl⟩)
          all_goals
            go_wp2
            go_roundw
            case rel =>
              have hfin := HSet.out (w5.setCell ⟨bM, p * 4 + k, none⟩ (.bool true)).drew ⟨rfl, rfl, rfl, Nat.le_refl _, fun _ _ => rfl⟩
              refine ⟨j + 1, updM m p k, by omega, by go_num, hfin.1, ?_, hfin.2⟩
              rw [HUp.out]
              exact HS.out.2.1.trans ⟨fun e => e.2.2, fun e => ⟨HLit.out, HCV.out.1 (by first | rfl | trivial), e⟩⟩
            case measure => simp [RowKit.intOf]; omega
    · have hge : ¬ (j : Int) < cn := by omega
      have hdr : l.drop j = [] := List.drop_eq_nil_of_le (by have := HCN.out; omega)
      rw [hdr] at hG
      have HS := hidLL (And.intro hG hbel)
      clear hSM hG hbel hdr
      go_wp2
      go_ret
      exact ⟨true, rfl, ⟨fun _ => HS.out.1.2 trivial, fun _ => rfl⟩, HS.out.2⟩
end Go.Proofs.YtmbclnaenjcocaaGreatDoor
namespace Go.Proofs.YtmbclnaenjcocaaGreatDoor
open Go.RowKit

theorem Tryz.infoRSt : ∃ i z, Tryz.prog.info? 24 = some i ∧ i.zero = some z ∧ i.size = 3 ∧ i.bytes = 16 ∧ z.cells.size = 3 := by
  have h : (Tryz.prog.info? 24).map (fun i => (i.zero, i.size, i.bytes)) = some (some (.agg #[.bool false, .bool false, .int .i64 0]), 3, 16) := by kernel_rfl
  obtain ⟨i, h1, h2⟩ := Option.map_eq_some_iff.1 h
  simp only [Prod.mk.injEq] at h2
  exact ⟨i, _, h1, h2.1, h2.2.1, h2.2.2, rfl⟩
/-- What the laws' back answers. -/
def BakR (l : List Clm) (w : World) (e : Ending) (w' : World) : Prop := ∃ (a : Option Addr) (n c : Nat), e = .returned (.slice a n c) ∧ n = l.length ∧ SRd w' w'.heap.size (.slice a n c) l ∧ Below w.heap.size w w'
set_option maxHeartbeats 4000000 in
set_option maxRecDepth 100000 in
theorem back_w {w : World} {B : Nat} {ca : Option Addr} {cn cc : Nat} {l : List Clm} (hC : SRd w B (.slice ca cn cc) l) (hB : B ≤ w.heap.size) (hcn : cn = l.length) (hfew : cn ≤ 1000000) : Calls Tryz.prog 16 #[.slice ca cn cc] w (BakR l w) := by
  have HCl := hidLL (And.intro hC hcn)
  clear hC hcn
  go_enter Tryz.func16, Tryz.ntmps16
  go_wp2_with fail
  go_loopw [3, 4] (fun t3 t wr => ∃ (j : Nat) (a : Option Addr) (n c : Nat), j ≤ cn ∧ t = .int .i64 j ∧ t3 = .slice a n c ∧ wr.ownsRow w.heap.size 24 3 (.slice a n c) (l.take j).length (clmC (l.take j)) ∧ Below w.heap.size w wr) (fun _ t _ => cn - (RowKit.intOf t).toNat)
  case atStart => exact ⟨0, none, 0, 0, by omega, rfl, rfl, World.ownsRow_nil _ _ _ _, Below.refl _ _⟩
  case round =>
    obtain ⟨j, a, n, c, hj, rfl, rfl, hown, hbel⟩ := hrel
    obtain ⟨w6, hw6⟩ : ∃ w6 : World, w6 = wr := ⟨_, rfl⟩
    subst hw6
    have hsz := hbel.size
    by_cases hlt : j < cn
    · have hjz : (j : Int) < cn := by omega
      obtain ⟨x, hx⟩ : ∃ x, l[j]? = some x := ⟨_, List.getElem?_eq_getElem (by have := HCl.out.2; omega)⟩
      obtain ⟨g, o, ea, hgB, y0, y1, y2⟩ := (HCl.out.1.on fun k hk => hbel.block k (by omega)).at hx
      subst ea
      obtain ⟨xa, xb, xq⟩ := x
      simp only at y0 y1 y2
      have HTk : Hid (l.take (j + 1) = l.take j ++ [(xa, xb, xq)]) := by
        obtain ⟨h9, e9⟩ := List.getElem?_eq_some_iff.1 hx
        show _ = _
        rw [List.take_succ_eq_append_getElem h9, e9]
      obtain ⟨i0, z, hi0, hz0', hz1, hz2, hz3⟩ := Tryz.infoRSt
      have HI := hidLL (And.intro hi0 (And.intro hz0' (And.intro hz1 (And.intro hz2 hz3))))
      clear hi0 hz0' hz1 hz2 hz3
      obtain ⟨m, hm⟩ : ∃ m, m = (l.take j).length := ⟨_, rfl⟩
      have hmle : m ≤ 1000000 := by rw [hm, List.length_take]; omega
      obtain ⟨xs, hxs⟩ : ∃ xs, xs = clmC (l.take j) := ⟨_, rfl⟩
      rw [← hm, ← hxs] at hown
      have hnm : n = m := by
        obtain ⟨a9, c9, e9⟩ := row_any hown
        injection e9
      subst hnm
      have HRow : Hid (∀ W' : World, (∀ q, q < w6.heap.size → W'.heap[q]? = w6.heap[q]?) → W'.ownsRow w.heap.size 24 3 (.slice a n c) n xs) := fun W' hW' => row_step hown (fun q _ hq => hW' q hq)
      have HNW : Hid (∀ (j : Nat) (u : Value), (clmC [((xa, xb, xq) : Clm)])[j]? = some u → (w6.drew.alloc (.cells #[.bool xa, .bool xb, .int .i64 xq] 24)).cell? ((⟨w6.heap.size, 0, none⟩ : Addr).add j) = some u) := fun j u h => alloc_cellC w6.drew (clmC [(xa, xb, xq)]) 24 j u h
      have HA : Hid (Below w.heap.size w6 (w6.drew.alloc (.cells #[.bool xa, .bool xb, .int .i64 xq] 24)) ∧ (w6.drew.alloc (.cells #[.bool xa, .bool xb, .int .i64 xq] 24)).heap.size = w6.heap.size + 1) := ⟨(Below.refl _ _).drew.alloc hsz _, by simp⟩
      have HB := hidLL (And.intro hbel (And.intro hown (And.intro hm hxs)))
      clear hown hbel hx hm hxs
      go_wp2_with fail
      go_region_law
        (first
          | (refine step_append_where rfl (.tmp 11) (.tmp 28) 51 rfl w.heap.size 24 i0 z 3 16 Tryz.underlying51 HI.out.1 HI.out.2.1 HI.out.2.2.1 HI.out.2.2.2.1 HI.out.2.2.2.2 (by decide) (.slice a n c) n xs (by first | (simp [Act.eval]; done) | simp [Act.eval, Act.put]) (HRow.out _ (fun q hq => Below.heap_alloc w6.drew _ q hq)) ⟨w6.heap.size, 0, none⟩ 1 1 (clmC [(xa, xb, xq)]) (by first | (simp [Act.eval]; done) | simp [Act.eval, Act.put]) rfl HNW.out (clmC_one _) (by decide) (by unfold maxLen; omega) (by omega) (by simp; omega) ?_
             intro v' w8 ho hg hw
             obtain ⟨a', c', hv'⟩ := row_any ho
             subst hv'
             have HH := hidLL (And.intro ho (And.intro hg hw))
             clear ho hg hw))
      all_goals
        go_wp2
        go_roundw
        case measure => simp [RowKit.intOf]; omega
        obtain ⟨ho, hg, hw⟩ := HH.out
        refine ⟨j + 1, _, _, _, by omega, by go_num, rfl, ?_, ?_⟩
        · rw [HTk.out, List.length_append, clmC_app, ← HB.out.2.2.1, ← HB.out.2.2.2]
          exact ho
        · exact HB.out.1.trans (HA.out.1.grown hg (by have := HA.out.2; omega) (fun k hk => (HB.out.2.1.lt k hk).1))
    · obtain rfl : j = cn := by omega
      have hge : ¬ (j : Int) < j := by omega
      have HQ := hidLL (And.intro hown hbel)
      clear hown hbel
      go_wp2
      go_ret
      have hown := HQ.out.1
      rw [List.take_of_length_le (by rw [HCl.out.2]; exact Nat.le_refl _)] at hown
      obtain ⟨a9, c9, e9⟩ := row_any hown
      injection e9 with _ e10 _
      exact ⟨a, n, c, rfl, e10, srd_own hown (by have := HCl.out.2; omega), HQ.out.2⟩
end Go.Proofs.YtmbclnaenjcocaaGreatDoor
