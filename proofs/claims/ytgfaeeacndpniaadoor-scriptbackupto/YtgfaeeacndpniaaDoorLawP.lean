/-
  Package script: the reader's law.
-/
import Derived.Test.YtgfaeeacndpniaaDoorReadBase
namespace Go.Proofs.YtgfaeeacndpniaaDoor
open Go.RowKit Go.Extern.Stop Go.Stop Go.Extern

theorem lawS_no1 {row : ByteArray} (h : Lib.hasPrefix (bl row) [108, 97, 119] = false) : lawS row = .bad 1 := by
  unfold lawS; rw [if_neg (by rw [h]; simp)]
theorem lawS_no2 {row : ByteArray} (h : (row.extract 3 row.size).size ≠ 0) (h2 : startsAt (row.extract 3 row.size) 32 = false) : lawS row = .bad 1 := by
  unfold lawS; rw [if_neg (by rw [h2]; simp only [not_and, not_or, Bool.false_eq_true, not_false_eq_true, and_true]; intro _; exact h)]
theorem lawS_yes {row : ByteArray} (h : Lib.hasPrefix (bl row) [108, 97, 119] = true) (h2 : (row.extract 3 row.size).size = 0 ∨ startsAt (row.extract 3 row.size) 32 = true) :
    lawS row = if (rt (row.extract 3 row.size)).1 = 0 then .good [It.mk ⟨#[]⟩ (rt (row.extract 3 row.size)).2 [] []] 0 else .bad (rt (row.extract 3 row.size)).1 := by
  unfold lawS; rw [if_pos ⟨h, h2⟩]
set_option maxHeartbeats 4000000 in
set_option maxRecDepth 10000 in
theorem law_any (B br n : Nat) (row : ByteArray) (p : Nat → Addr) (m : Int) (w : World) (hR : Rd B br w [] n) (hE : Env w p m) (hr : row.size ≤ 30000) (hB : B ≤ w.heap.size) :
    Calls Tryd.prog 48 #[.pointer (some ⟨br, 0, none⟩), .string row] w fun e w' => StepOut B br p e w' (lawAt n (lawS row)) ∧ BelX B br w w' := by
  have HCP := hidLL (fun w => Go.Proofs.Tryd.strings_CutPrefix row ⟨#[108, 97, 119]⟩ w)
  have HR := hidLL hR
  have HE := hidLL hE
  clear hR hE
  cases hp : Lib.hasPrefix (bl row) [108, 97, 119]
  · have HS := hidLL (lawS_no1 hp)
    rw [HS.out]
    have e1 : Lib.hasPrefix row.data.toList (⟨#[108, 97, 119]⟩ : ByteArray).data.toList = false := hp
    rw [e1] at HCP
    clear e1 hp
    generalize (⟨(Lib.trimPrefix row.data.toList (⟨#[108, 97, 119]⟩ : ByteArray).data.toList).toArray⟩ : ByteArray) = t at *
    have c0 : w.cell? ⟨1, 0, none⟩ = some (.iface 129 (.pointer (some (p 0)))) := HE.out.L.cell 0 (by omega)
    go_enter Tryd.func48, Tryd.ntmps48
    go_wp2_with fail
    refine (HCP.out _).mono ?_
    rintro e w1 ⟨rfl, ew⟩
    subst w1
    go_wp2
    go_ret
    exact ⟨⟨0, rfl, by omega, rfl⟩, BelX.refl _ _ _⟩
  have e1 : Lib.hasPrefix row.data.toList (⟨#[108, 97, 119]⟩ : ByteArray).data.toList = true := hp
  have e2 : (⟨(Lib.trimPrefix row.data.toList (⟨#[108, 97, 119]⟩ : ByteArray).data.toList).toArray⟩ : ByteArray) = row.extract 3 row.size := cutP_yes row [108, 97, 119] hp
  rw [e1, e2] at HCP
  clear e1 e2
  have HHP := hidLL (fun w => Go.Proofs.Tryd.strings_HasPrefix (row.extract 3 row.size) ⟨#[32]⟩ w)
  have e3 : Lib.hasPrefix (row.extract 3 row.size).data.toList (⟨#[32]⟩ : ByteArray).data.toList = startsAt (row.extract 3 row.size) 32 := starts_pre _ 32
  rw [e3] at HHP
  clear e3
  have hts : (row.extract 3 row.size).size ≤ 30000 := by rw [ByteArray.size_extract]; omega
  have HEm := hidLL (empty_is (row.extract 3 row.size))
  have HRT := hidLL (fun w hw => readText_any (row.extract 3 row.size) p w hw (by omega))
  have hs1 := fun h => @lawS_no2 row h
  have hs2 := lawS_yes hp
  clear hp
  generalize lawS row = S at *
  generalize row.extract 3 row.size = t at *
  have hEm := HEm.out
  by_cases hno : t.size ≠ 0 ∧ startsAt t 32 = false
  · have HS := hidLL (hs1 hno.1 hno.2)
    rw [HS.out]
    rw [hno.2] at HHP
    rw [show decide (t.size = 0) = false by simpa using hno.1] at hEm
    clear hno hs1 hs2 HEm
    have c0 : w.cell? ⟨1, 0, none⟩ = some (.iface 129 (.pointer (some (p 0)))) := HE.out.L.cell 0 (by omega)
    go_enter Tryd.func48, Tryd.ntmps48
    go_wp2_with fail
    refine (HCP.out _).mono ?_
    rintro e w1 ⟨rfl, ew⟩
    subst w1
    go_wp2_with fail
    refine (HHP.out _).mono ?_
    rintro e w1 ⟨rfl, ew⟩
    subst w1
    go_wp2
    go_ret
    exact ⟨⟨0, rfl, by omega, rfl⟩, BelX.refl _ _ _⟩
  have hyes : t.size = 0 ∨ startsAt t 32 = true := by
    by_cases h0 : t.size = 0
    · exact .inl h0
    · right
      cases hb : startsAt t 32
      · exact absurd ⟨h0, hb⟩ hno
      · rfl
  have HS := hidLL (hs2 hyes)
  rw [HS.out]
  clear hs1 hs2 hno HS
  obtain ⟨i0, iz, hi0, hi1, hi2, hi3, hi4⟩ := Tryd.infoItem
  have HI := hidLL (And.intro hi0 (And.intro hi1 (And.intro hi2 (And.intro hi3 hi4))))
  clear hi0 hi1 hi2 hi3 hi4
  obtain ⟨S', hS'⟩ : ∃ S', S' = lawAt n (if (rt t).1 = 0 then Step.good [It.mk ⟨#[]⟩ (rt t).2 [] []] 0 else Step.bad (rt t).1) := ⟨_, rfl⟩
  have HG : Hid ((rt t).1 = 0 → S' = .good [It.mk ⟨#[]⟩ (rt t).2 [] []] n) := fun h => by rw [hS', if_pos h]; rfl
  have HBd : Hid ((rt t).1 ≠ 0 → S' = .bad (rt t).1) := fun h => by rw [hS', if_neg h]; rfl
  rw [← hS']
  clear hS'
  by_cases h0 : t.size = 0
  · rw [show decide (t.size = 0) = true by simpa using h0] at hEm
    clear HEm hyes h0
    go_enter Tryd.func48, Tryd.ntmps48
    go_wp2_with fail
    refine (HCP.out _).mono ?_
    rintro e w1 ⟨rfl, ew⟩
    subst w1
    go_wp2_with fail
    refine (HRT.out _ HE.out.L).mono ?_
    rintro e w1 ⟨hrt, hb1⟩
    rcases hrt with ⟨hc, rfl⟩ | ⟨k, hc, hk, rfl⟩
    · obtain ⟨own, vo, V, K, hRS0⟩ := HR.out
      have HRS := hidLL (hRS0.below hb1)
      have HB1 := hidLL (Below.x hb1 br hB)
      have hsz := hb1.size
      obtain ⟨sa, sc, hvo⟩ := row_any HRS.out.row
      obtain ⟨zl, hzl⟩ : ∃ zl, zl = ([] : List It).length := ⟨_, rfl⟩
      rw [← hzl] at hvo
      have hz0 : zl ≤ 1000 := by rw [hzl]; simp
      have HZ := hidLL hzl
      have HVo := hidLL hvo
      have cb := HRS.out.c0
      have fb := HRS.out.f 0
      have hlb := HRS.out.lt
      rw [hvo] at cb
      clear hzl hvo hb1 hRS0
      generalize (rt t).2 = tt at *
      go_wp2_with fail
      have HKD : Hid (∀ W : World, (∀ k, k < w1.heap.size → W.heap[k]? = w1.heap[k]?) → W.ownsRow B 31 4 (.slice sa zl sc) zl (flat4 V zl)) := fun W hW => by
        have h3 := HRS.out.row
        rw [← HZ.out, HVo.out] at h3
        exact row_step h3 fun k _ hk => hW k hk
      have HNW := hidLL (zNews w1)
      have HOC := hidLL zOne
      have HA : Hid (Below w1.heap.size w1 (w1.drew.alloc (.cells #[Value.string ⟨#[]⟩, .string ⟨#[]⟩, .slice none 0 0, .slice none 0 0] 31))) := (Below.refl _ _).drew.alloc (Nat.le_refl _) _
      have HNb : Hid (some br ≠ (Value.slice sa zl sc).ownBlock) := fun e => HRS.out.ne br (by rw [HVo.out]; exact e.symm) rfl
      have hix1 : (zl : Int) < (zl : Int) + 1 := by omega
      go_region_law
        (first
          | (refine step_append_where rfl (.tmp 37) (.tmp 41) 29 rfl B 31 i0 iz 4 80 Tryd.underlying29 HI.out.1 HI.out.2.1 HI.out.2.2.1 HI.out.2.2.2.1 HI.out.2.2.2.2 (by decide) (.slice sa zl sc) zl (flat4 V zl) (by first | (simp [Act.eval]; done) | simp [Act.eval, Act.put]) (HKD.out _ (fun k hk => Below.heap_alloc w1.drew _ k hk)) ⟨w1.heap.size, 0, none⟩ 1 1 [Value.string ⟨#[]⟩, .string ⟨#[]⟩, .slice none 0 0, .slice none 0 0] (by first | (simp [Act.eval]; done) | simp [Act.eval, Act.put]) rfl HNW.out HOC.out (by decide) (by unfold maxLen; omega) (by omega) (by simp; omega) ?_
             intro v' w' ho hg hw
             obtain ⟨g', cap', hv', hl', hB', x0, x1, x2, x3, xf⟩ := app_facts ho
             have hnb := own_ne HA.out hw hlb HNb.out
             have y3 := (grown_cell (a := ⟨br, 0, none⟩) HA.out hg hlb HNb.out).1.trans cb
             have y4 := (grown_cell (a := ⟨br, 0, none⟩) HA.out hg hlb HNb.out).2.trans fb
             subst hv'
             have hnb' : g' ≠ br := fun e => hnb (by rw [← e]; rfl)
             have HH := hidLL (And.intro ho (And.intro hg hw))
             have f0 := xf (zl * 4)
             have f1 := xf (zl * 4 + 1)
             have f2 := xf (zl * 4 + 2)
             have f3 := xf (zl * 4 + 3)
             clear ho hg hw xf hnb))
      all_goals
        go_wp2
        go_ret
        have hnb' : g' ≠ br := by assumption
        have HH3 := HH.out
        rw [HZ.out] at HH3
        refine pushedOut HRS.out HA.out HH3.1 (by rw [HVo.out]; exact HH.out.2.1) (by rw [HVo.out]; exact HH.out.2.2) (by omega) HB1.out (HG.out hc) ?_
        rw [← HZ.out]
        first
          | (simp only [set4, vec4]; with_reducible exact LikeW.refl _)
          | (rw [← set4_comm _ _ _ _ _ _ (fun e => hnb' e.symm)]; simp only [set4, vec4]; with_reducible exact LikeW.refl _)
    · have HB1 := hidLL (Below.x hb1 br hB)
      have hne : (rt t).1 ≠ 0 := by omega
      clear hb1
      unfold errI
      go_wp2
      go_ret
      exact ⟨by rw [HBd.out hne]; exact ⟨k, hc, hk, rfl⟩, HB1.out⟩
  · have hst : startsAt t 32 = true := by rcases hyes with h | h; exact absurd h h0; exact h
    rw [hst] at HHP
    rw [show decide (t.size = 0) = false by simpa using h0] at hEm
    clear HEm hyes h0 hst
    go_enter Tryd.func48, Tryd.ntmps48
    go_wp2_with fail
    refine (HCP.out _).mono ?_
    rintro e w1 ⟨rfl, ew⟩
    subst w1
    go_wp2_with fail
    refine (HHP.out _).mono ?_
    rintro e w1 ⟨rfl, ew⟩
    subst w1
    go_wp2_with fail
    refine (HRT.out _ HE.out.L).mono ?_
    rintro e w1 ⟨hrt, hb1⟩
    rcases hrt with ⟨hc, rfl⟩ | ⟨k, hc, hk, rfl⟩
    · obtain ⟨own, vo, V, K, hRS0⟩ := HR.out
      have HRS := hidLL (hRS0.below hb1)
      have HB1 := hidLL (Below.x hb1 br hB)
      have hsz := hb1.size
      obtain ⟨sa, sc, hvo⟩ := row_any HRS.out.row
      obtain ⟨zl, hzl⟩ : ∃ zl, zl = ([] : List It).length := ⟨_, rfl⟩
      rw [← hzl] at hvo
      have hz0 : zl ≤ 1000 := by rw [hzl]; simp
      have HZ := hidLL hzl
      have HVo := hidLL hvo
      have cb := HRS.out.c0
      have fb := HRS.out.f 0
      have hlb := HRS.out.lt
      rw [hvo] at cb
      clear hzl hvo hb1 hRS0
      generalize (rt t).2 = tt at *
      go_wp2_with fail
      have HKD : Hid (∀ W : World, (∀ k, k < w1.heap.size → W.heap[k]? = w1.heap[k]?) → W.ownsRow B 31 4 (.slice sa zl sc) zl (flat4 V zl)) := fun W hW => by
        have h3 := HRS.out.row
        rw [← HZ.out, HVo.out] at h3
        exact row_step h3 fun k _ hk => hW k hk
      have HNW := hidLL (zNews w1)
      have HOC := hidLL zOne
      have HA : Hid (Below w1.heap.size w1 (w1.drew.alloc (.cells #[Value.string ⟨#[]⟩, .string ⟨#[]⟩, .slice none 0 0, .slice none 0 0] 31))) := (Below.refl _ _).drew.alloc (Nat.le_refl _) _
      have HNb : Hid (some br ≠ (Value.slice sa zl sc).ownBlock) := fun e => HRS.out.ne br (by rw [HVo.out]; exact e.symm) rfl
      have hix1 : (zl : Int) < (zl : Int) + 1 := by omega
      go_region_law
        (first
          | (refine step_append_where rfl (.tmp 37) (.tmp 41) 29 rfl B 31 i0 iz 4 80 Tryd.underlying29 HI.out.1 HI.out.2.1 HI.out.2.2.1 HI.out.2.2.2.1 HI.out.2.2.2.2 (by decide) (.slice sa zl sc) zl (flat4 V zl) (by first | (simp [Act.eval]; done) | simp [Act.eval, Act.put]) (HKD.out _ (fun k hk => Below.heap_alloc w1.drew _ k hk)) ⟨w1.heap.size, 0, none⟩ 1 1 [Value.string ⟨#[]⟩, .string ⟨#[]⟩, .slice none 0 0, .slice none 0 0] (by first | (simp [Act.eval]; done) | simp [Act.eval, Act.put]) rfl HNW.out HOC.out (by decide) (by unfold maxLen; omega) (by omega) (by simp; omega) ?_
             intro v' w' ho hg hw
             obtain ⟨g', cap', hv', hl', hB', x0, x1, x2, x3, xf⟩ := app_facts ho
             have hnb := own_ne HA.out hw hlb HNb.out
             have y3 := (grown_cell (a := ⟨br, 0, none⟩) HA.out hg hlb HNb.out).1.trans cb
             have y4 := (grown_cell (a := ⟨br, 0, none⟩) HA.out hg hlb HNb.out).2.trans fb
             subst hv'
             have hnb' : g' ≠ br := fun e => hnb (by rw [← e]; rfl)
             have HH := hidLL (And.intro ho (And.intro hg hw))
             have f0 := xf (zl * 4)
             have f1 := xf (zl * 4 + 1)
             have f2 := xf (zl * 4 + 2)
             have f3 := xf (zl * 4 + 3)
             clear ho hg hw xf hnb))
      all_goals
        go_wp2
        go_ret
        have hnb' : g' ≠ br := by assumption
        have HH3 := HH.out
        rw [HZ.out] at HH3
        refine pushedOut HRS.out HA.out HH3.1 (by rw [HVo.out]; exact HH.out.2.1) (by rw [HVo.out]; exact HH.out.2.2) (by omega) HB1.out (HG.out hc) ?_
        rw [← HZ.out]
        first
          | (simp only [set4, vec4]; with_reducible exact LikeW.refl _)
          | (rw [← set4_comm _ _ _ _ _ _ (fun e => hnb' e.symm)]; simp only [set4, vec4]; with_reducible exact LikeW.refl _)
    · have HB1 := hidLL (Below.x hb1 br hB)
      have hne : (rt t).1 ≠ 0 := by omega
      clear hb1
      unfold errI
      go_wp2
      go_ret
      exact ⟨by rw [HBd.out hne]; exact ⟨k, hc, hk, rfl⟩, HB1.out⟩
end Go.Proofs.YtgfaeeacndpniaaDoor
