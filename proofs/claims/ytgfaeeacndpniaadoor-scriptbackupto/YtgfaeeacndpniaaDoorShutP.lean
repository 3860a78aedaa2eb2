/-
  Package script: the reader's innermost, shut.
-/
import Derived.Test.YtgfaeeacndpniaaDoorInnerP
import Derived.Test.YtgfaeeacndpniaaDoorReadBase
namespace Go.Proofs.YtgfaeeacndpniaaDoor
open Go.RowKit Go.Extern.Stop Go.Stop Go.Extern

set_option maxHeartbeats 4000000 in
set_option maxRecDepth 10000 in
theorem shut_any (B br : Nat) (z : List It) (n around : Nat) (w : World) (hk : ∀ t ∈ z, t.kids.length ≤ 1000) (ha : around < z.length) (hz : z.length ≤ 1000) (h : Rd B br w z n) (hB : B ≤ w.heap.size) :
    Calls Tryd.prog 28 #[.pointer (some ⟨br, 0, none⟩), .int .i64 around] w fun e w' => e = .returned (.tuple #[]) ∧ Rd B br w' (shutB around z) n ∧ BelX B br w w' := by
  obtain ⟨i0, iz, hi0, hi1, hi2, hi3, hi4⟩ := Tryd.infoItem
  have HI := hidLL (And.intro hi0 (And.intro hi1 (And.intro hi2 (And.intro hi3 hi4))))
  clear hi0 hi1 hi2 hi3 hi4
  have HK := hidLL hk
  have H0 := hidLL h
  clear hk h
  go_enter Tryd.func28, Tryd.ntmps28
  go_wp2_with fail
  go_loopg [4] z.length (fun k _ wr => around + 1 ≤ k ∧ k ≤ z.length ∧ Rd B br wr (shutB (k - 1) z) n ∧ BelX B br w wr)
  case atStart =>
    refine ⟨by omega, Nat.le_refl _, ?_, BelX.refl _ _ _⟩
    rw [shutB_last (by omega)]
    exact H0.out
  case round =>
    obtain ⟨h1, h2, ⟨own, vo, V, K, hRS⟩, hb⟩ := hrel
    obtain ⟨j, rfl⟩ : ∃ j, gk = j + 1 := ⟨gk - 1, by omega⟩
    rw [Nat.add_sub_cancel] at hRS
    have HRS := hidLL hRS
    have HB := hidLL hb
    have hsz := hb.size
    have hBr : B ≤ wr.heap.size := by omega
    clear hRS hb H0
    have hlen : (shutB j z).length = j + 1 := shutB_len (by omega)
    obtain ⟨g, cap, hvo, hgl, hgB⟩ := row_form HRS.out.row (by omega)
    have cb := HRS.out.c0
    rw [hvo, hlen] at cb
    have HL := hidLL hlen
    have HV := hidLL hvo
    clear hlen hvo
    by_cases hja : around < j
    · obtain ⟨q, rfl⟩ : ∃ q, j = q + 1 := ⟨j - 1, by omega⟩
      obtain ⟨t, ht⟩ : ∃ t, z[q]? = some t := ⟨_, List.getElem?_eq_getElem (by omega)⟩
      have HT : Hid ((shutB (q + 1) z)[q]? = some t) := by show _ = _; rw [shutB_lt (by omega) (by omega)]; exact ht
      have HTz := hidLL ht
      have HBb : Hid ((shutB (q + 1) z)[q + 1]? = some (closeAll (z.drop (q + 1)))) := shutB_at (by omega)
      have htk : t.kids.length ≤ 1000 := HK.out t (List.mem_of_getElem? ht)
      clear ht
      have hO := HRS.out.it q t HT.out
      have hP := HRS.out.it (q + 1) _ HBb.out
      obtain ⟨ka, kc, ek⟩ := row_any hO.kd
      obtain ⟨la', lc', el'⟩ := row_any hP.ln
      obtain ⟨ka', kc', ek'⟩ := row_any hP.kd
      have cK := HRS.out.item HV.out (by rw [HL.out]; omega : q < _) 3 (by omega)
      have c0 : wr.cell? ⟨g, (q + 1) * 4, none⟩ = some (V (q + 1) 0) := HRS.out.item HV.out (by rw [HL.out]; omega : q + 1 < _) 0 (by omega)
      have c1 := HRS.out.item HV.out (by rw [HL.out]; omega : q + 1 < _) 1 (by omega)
      have c2 := HRS.out.item HV.out (by rw [HL.out]; omega : q + 1 < _) 2 (by omega)
      have c3 := HRS.out.item HV.out (by rw [HL.out]; omega : q + 1 < _) 3 (by omega)
      rw [ek] at cK
      rw [hP.l0] at c0
      rw [hP.l1] at c1
      rw [el'] at c2
      rw [ek'] at c3
      have fK := HRS.out.itemF HV.out (q * 4 + 3)
      have fb := HRS.out.f 0
      have hgo : vo.ownBlock = some g := by rw [HV.out]; rfl
      have hgb := HRS.out.ne g hgo
      have HGo := hidLL hgo
      have hlb := HRS.out.lt
      have HEk := hidLL (And.intro ek (And.intro el' ek'))
      have HO := hidLL hO
      have HP := hidLL hP
      clear ek el' ek' hO hP hgo
      have hin := fun w hw => innermost_any br (some ⟨g, 0, none⟩) (q + 1) cap w (by omega) hw
      have HIN := hidLL hin
      clear hin
      have HL01 := hidLL (And.intro HP.out.l0 HP.out.l1)
      have hcap : ((q : Int) + 1) ≤ cap := by
        have h5 := HRS.out.row
        rw [HV.out] at h5
        have h6 := row_cap h5
        rw [HL.out] at h6
        omega
      generalize (closeAll (z.drop (q + 1))).label = lb at *
      generalize (closeAll (z.drop (q + 1))).head = hb at *
      generalize (closeAll (z.drop (q + 1))).lines.length = ll at *
      generalize (closeAll (z.drop (q + 1))).kids.length = kl at *
      go_upto_region 3 with (go_at_call 50; refine (HIN.out _ (by simpa using cb)).mono ?_; rintro e w1 ⟨rfl, ew⟩; subst w1)
      have HKD : Hid (∀ W : World, (∀ k, k < wr.heap.size → W.heap[k]? = wr.heap[k]?) → W.ownsRow B 31 4 (.slice ka t.kids.length kc) t.kids.length (flat4 (K q) t.kids.length)) := fun W hW => by
        have := HO.out.kd
        rw [HEk.out.1] at this
        exact row_step this fun k _ hk => hW k hk
      have HNW : Hid (∀ (j : Nat) (u : Value), [Value.string ⟨#[]⟩, .string ⟨#[]⟩, .slice none 0 0, .slice none 0 0][j]? = some u → (wr.alloc (.cells #[Value.string ⟨#[]⟩, .string ⟨#[]⟩, .slice none 0 0, .slice none 0 0] 31)).cell? ((⟨wr.heap.size, 0, none⟩ : Addr).add j) = some u) := by
        intro j u hj
        match j, hj with
        | 0, hj => simp at hj; subst hj; simp [Addr.add]
        | 1, hj => simp at hj; subst hj; simp [Addr.add]
        | 2, hj => simp at hj; subst hj; simp [Addr.add]
        | 3, hj => simp at hj; subst hj; simp [Addr.add]
      have HOC : Hid (∀ u ∈ [Value.string ⟨#[]⟩, .string ⟨#[]⟩, .slice none 0 0, .slice none 0 0], u.oneCell' = true) := by
        intro u hu
        simp at hu
        rcases hu with rfl | rfl <;> rfl
      obtain ⟨kn, hkn⟩ : ∃ kn, kn = t.kids.length := ⟨_, rfl⟩
      rw [← hkn] at htk cK HEk HKD
      have HKn := hidLL hkn
      clear hkn
      have hix : (q : Int) + 1 < (q : Int) + 1 + 1 := by omega
      have hix1 : (kn : Int) < (kn : Int) + 1 := by omega
      have hix0 : (0 : Int) ≤ (q : Int) + 1 := by omega
      have HA : Hid (Below wr.heap.size wr (wr.drew.alloc (.cells #[Value.string ⟨#[]⟩, .string ⟨#[]⟩, .slice none 0 0, .slice none 0 0] 31))) := (Below.refl _ _).drew.alloc (Nat.le_refl _) _
      have HNg : Hid (some g ≠ (Value.slice ka kn kc).ownBlock) := fun e => by
        rw [← HEk.out.1] at e
        have h3 := HO.out.ko g e.symm
        have h4 := HRS.out.oo g HGo.out
        omega
      have HNb : Hid (some br ≠ (Value.slice ka kn kc).ownBlock) := fun e => by
        rw [← HEk.out.1] at e
        have h3 := HO.out.ko br e.symm
        have h4 := HRS.out.ob
        omega
      go_cut [] (fun wc => ∃ (w' : World) (g' cap' : Nat), w'.ownsRow B 31 4 (.slice (some ⟨g', 0, none⟩) (kn + 1) cap') (kn + 1) (flat4 (K q) kn ++ [.string ⟨#[]⟩, .string ⟨#[]⟩, .slice none 0 0, .slice none 0 0]) ∧
          (wr.drew.alloc (.cells #[Value.string ⟨#[]⟩, .string ⟨#[]⟩, .slice none 0 0, .slice none 0 0] 31)).grownBy w' (Value.slice ka kn kc).ownBlock ∧
          ((Value.slice (some ⟨g', 0, none⟩) (kn + 1) cap').ownBlock = (Value.slice ka kn kc).ownBlock ∨ (Value.slice (some ⟨g', 0, none⟩) (kn + 1) cap').ownBlock = some (wr.drew.alloc (.cells #[Value.string ⟨#[]⟩, .string ⟨#[]⟩, .slice none 0 0, .slice none 0 0] 31)).heap.size) ∧
          LikeW wc ((set4 w' g' (kn * 4) (vec4 (.string lb) (.string hb) (.slice la' ll lc') (.slice ka' kl kc'))).setCell ⟨g, q * 4 + 3, none⟩ (.slice (some ⟨g', 0, none⟩) (kn + 1) cap')))
      case first =>
        go_region_law
          (first
            | (refine step_append_where rfl (.tmp 22) (.tmp 31) 29 rfl B 31 i0 iz 4 80 Tryd.underlying29 HI.out.1 HI.out.2.1 HI.out.2.2.1 HI.out.2.2.2.1 HI.out.2.2.2.2 (by decide) (.slice ka kn kc) kn (flat4 (K q) kn) (by first | (simp [Act.eval]; done) | simp [Act.eval, Act.put]) (HKD.out _ (fun k hk => Below.heap_alloc wr.drew _ k hk)) ⟨wr.heap.size, 0, none⟩ 1 1 [Value.string ⟨#[]⟩, .string ⟨#[]⟩, .slice none 0 0, .slice none 0 0] (by first | (simp [Act.eval]; done) | simp [Act.eval, Act.put]) rfl HNW.out HOC.out (by decide) (by unfold maxLen; omega) (by omega) (by simp; omega) ?_
               intro v' w' ho hg hw
               obtain ⟨g', cap', hv', hl', hB', x0, x1, x2, x3, xf⟩ := app_facts ho
               have hng := own_ne HA.out hw hgl HNg.out
               have hnb := own_ne HA.out hw hlb HNb.out
               have y1 := (grown_cell (a := ⟨g, q * 4 + 3, none⟩) HA.out hg hgl HNg.out).1.trans cK
               have y2 := (grown_cell (a := ⟨g, q * 4 + 3, none⟩) HA.out hg hgl HNg.out).2.trans fK
               have y3 := (grown_cell (a := ⟨br, 0, none⟩) HA.out hg hlb HNb.out).1.trans cb
               have y4 := (grown_cell (a := ⟨br, 0, none⟩) HA.out hg hlb HNb.out).2.trans fb
               subst hv'
               have hng' : g' ≠ g := fun e => hng (by rw [← e]; rfl)
               have hnb' : g' ≠ br := fun e => hnb (by rw [← e]; rfl)
               have HH := hidLL (And.intro ho (And.intro hg hw))
               have f0 := xf (kn * 4)
               have f1 := xf (kn * 4 + 1)
               have f2 := xf (kn * 4 + 2)
               have f3 := xf (kn * 4 + 3)
               clear ho hg hw xf hng hnb))
        all_goals
          go_wp2_with fail
          go_meet
          have hng' : g' ≠ g := by assumption
          refine ⟨w', g', cap', HH.out.1, HH.out.2.1, HH.out.2.2, ?_⟩
          first
            | (simp only [set4, vec4]; with_reducible exact LikeW.refl _)
            | (rw [← set4_comm _ _ _ _ _ _ (fun e => hng' e.symm)]; simp only [set4, vec4]; with_reducible exact LikeW.refl _)
      case rest =>
        obtain ⟨w', g', cap', ho, hg, hw, hlike⟩ := hcut
        have hng := own_ne HA.out hw hgl HNg.out
        have hnb := own_ne HA.out hw hlb HNb.out
        have hng' : g ≠ g' := fun e => hng (by rw [e]; rfl)
        have hnb' : br ≠ g' := fun e => hnb (by rw [e]; rfl)
        have y3 := (hlike.cell ⟨br, 0, none⟩).trans ((set_other _ ⟨g, q * 4 + 3, none⟩ ⟨br, 0, none⟩ _ (fun e => hgb e.symm)).1.trans ((set4_other w' g' (kn * 4) _ ⟨br, 0, none⟩ hnb').1.trans ((grown_cell (a := ⟨br, 0, none⟩) HA.out hg hlb HNb.out).1.trans cb)))
        have y4 := (hlike.frz ⟨br, 0, none⟩).trans ((set_other _ ⟨g, q * 4 + 3, none⟩ ⟨br, 0, none⟩ _ (fun e => hgb e.symm)).2.trans ((set4_other w' g' (kn * 4) _ ⟨br, 0, none⟩ hnb').2.trans ((grown_cell (a := ⟨br, 0, none⟩) HA.out hg hlb HNb.out).2.trans fb)))
        have HH := hidLL (And.intro ho (And.intro hg (And.intro hw hlike)))
        clear ho hg hw hlike hng hnb cK c0 c1 c2 c3 fK cb fb
        go_wp2
        go_roundg (q + 1)
        case measure => omega
        case rel =>
          have hq := Rd.kidded HRS.out HA.out HV.out HL.out HT.out HBb.out HKn.out (x := vec4 (.string lb) (.string hb) (.slice la' ll lc') (.slice ka' kl kc')) HL01.out.1 HL01.out.2 HEk.out.2.1 HEk.out.2.2 HEk.out.1 HH.out.1 HH.out.2.1 HH.out.2.2.1 HH.out.2.2.2 hBr
          rw [shutB_step HTz.out (by omega)] at hq
          exact ⟨by omega, by omega, hq.1, HB.out.trans hq.2⟩
    · obtain rfl : j = around := by omega
      have HIN := hidLL (innermost_any br (some ⟨g, 0, none⟩) j cap wr (by omega) cb)
      go_wp2_with fail
      refine HIN.out.mono ?_
      rintro e w1 ⟨rfl, ew⟩
      subst w1
      go_wp2
      go_end0
      exact ⟨rfl, ⟨own, vo, V, K, HRS.out⟩, HB.out⟩
end Go.Proofs.YtgfaeeacndpniaaDoor
