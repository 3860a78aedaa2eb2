/-
  Package script: the reader's provision (written by tools/genlawp.py).
-/
import Derived.Test.YtgfaeeacndpniaaDoorReadBase
import Derived.Test.YtgfaeeacndpniaaDoorKidsOf
import Derived.Test.YtgfaeeacndpniaaDoorShutP
namespace Go.Proofs.YtgfaeeacndpniaaDoor
open Go.RowKit Go.Extern.Stop Go.Stop Go.Extern

theorem lab_size (body : ByteArray) : (body.extract 0 (runP nbN body)).size = runP nbN body := by
  rw [ByteArray.size_extract]
  have := runP_le nbN body
  omega
theorem provS_eq (z : List It) (n d : Nat) (body lab : ByteArray) (h : lab = body.extract 0 (runP nbN body)) :
    provS z n d body = if isLab lab = false ∨ hasKid (closeAll (z.drop d)) lab = true then .bad 7 else if 6 ≤ d ∨ 300 ≤ n then .bad 2 else if (rt (body.extract lab.size body.size)).1 = 0 then .good (shutB d z ++ [It.mk lab (rt (body.extract lab.size body.size)).2 [] []]) (n + 1) else .bad (rt (body.extract lab.size body.size)).1 := by
  subst h
  rw [lab_size]
  rfl
theorem cut_three (s : ByteArray) (m : Int) (w : World) (hs : s.size ≤ 30000) (hm : w.cell? ⟨5, 0, none⟩ = some (.int .i64 m)) :
    Calls Tryd.prog 74 #[.string s, .string ⟨#[32]⟩] w fun e w' => (∃ y b, e = .returned (.tuple #[.string (s.extract 0 (runP nbN s)), .string y, .bool b])) ∧ Below w.heap.size w w' := by
  refine (Go.Proofs.Tryd.strings_Cut s ⟨#[32]⟩ m w (by omega) hm).mono ?_
  rintro e w' ⟨rfl, q, rfl⟩
  have h := cut_label s
  exact ⟨⟨_, _, by rw [← h]⟩, bdrewN (Below.refl _ _) _⟩
set_option maxHeartbeats 8000000 in
set_option maxRecDepth 10000 in
theorem provision_any (B br n d : Nat) (z : List It) (body : ByteArray) (p : Nat → Addr) (m : Int) (W0 w : World) (hR : Rd B br w z n) (hE0 : Env W0 p m) (hB0 : W0.heap.size ≤ B ∧ W0.heap.size ≤ br) (hW : Below W0.heap.size W0 w) (hBw : B ≤ w.heap.size) (hr : body.size ≤ 30000) (hd : d < z.length) (hz : z.length ≤ 1000) (hn : n ≤ 100000) (hk : ∀ t ∈ z, t.kids.length ≤ 1000) (hkd : (closeAll (z.drop d)).kids.length ≤ 1001) :
    Calls Tryd.prog 53 #[.pointer (some ⟨br, 0, none⟩), .int .i64 d, .string body] w fun e w' => StepOut B br p e w' (provS z n d body) ∧ BelX B br w w' := by
  obtain ⟨lab, hlab⟩ : ∃ lab, lab = body.extract 0 (runP nbN body) := ⟨_, rfl⟩
  rw [provS_eq z n d body lab hlab]
  have hls : lab.size ≤ body.size := by rw [hlab, lab_size]; exact runP_le _ _
  have hlz : (lab.size : Int) ≤ body.size := by omega
  have HCut := hidLL (fun w hm => cut_three body m w hr hm)
  rw [← hlab] at HCut
  obtain ⟨t, ht⟩ : ∃ t, t = closeAll (z.drop d) := ⟨_, rfl⟩
  rw [← ht] at hkd ⊢
  have HShut := hidLL (fun w h hB => shut_any B br z n d w hk hd hz h hB)
  have HAt : Hid ((shutB d z)[d]? = some t) := by show _ = _; rw [ht]; exact shutB_at hd
  have HLn : Hid ((shutB d z).length = d + 1) := shutB_len hd
  have HE := hidLL (fun w' (h : Below W0.heap.size W0 w') => hE0.on (w' := w') h)
  have HB0 := hidLL hB0
  have HIL := hidLL (fun w hT => isLabel_any lab (by omega) w hT)
  have HRT := hidLL (fun w hL => readText_any (body.extract lab.size body.size) p w hL (by rw [ByteArray.size_extract]; omega))
  have HR := hidLL hR
  have HW := hidLL hW
  obtain ⟨i0, iz, hi0, hi1, hi2, hi3, hi4⟩ := Tryd.infoItem
  have HI := hidLL (And.intro hi0 (And.intro hi1 (And.intro hi2 (And.intro hi3 hi4))))
  clear hi0 hi1 hi2 hi3 hi4 hR hE0 hW hlab ht hk
  generalize shutB d z = zz at *
  generalize hS' : (if isLab lab = false ∨ hasKid t lab = true then Step.bad 7 else if 6 ≤ d ∨ 300 ≤ n then Step.bad 2 else if (rt (body.extract lab.size body.size)).1 = 0 then Step.good (zz ++ [It.mk lab (rt (body.extract lab.size body.size)).2 [] []]) (n + 1) else Step.bad (rt (body.extract lab.size body.size)).1) = S' at *
  have HSe := hidLL hS'
  clear hS'
  obtain ⟨rest, hrest⟩ : ∃ rest, rest = body.extract lab.size body.size := ⟨_, rfl⟩
  have hrr : rt (body.extract lab.size body.size) = rt rest := by rw [hrest]
  rw [hrr] at HSe HRT
  clear hrr hrest
  cases hil : isLab lab
  · rw [hil] at HIL
    have HCi := hidLL hil
    clear hil
    go_enter Tryd.func53, Tryd.ntmps53
    go_wp2_with fail
    refine (HCut.out _ (HE.out _ HW.out).M).mono ?_
    rintro e w1 ⟨⟨y, b, rfl⟩, hb1⟩
    have HB1 := hidLL (Below.x hb1 br hBw)
    have HR1 : Hid (Rd B br w1 z n) := by
      obtain ⟨own, vo, V, K, h⟩ := HR.out
      exact ⟨own, vo, V, K, h.below hb1⟩
    have hB1 : B ≤ w1.heap.size := by have := hb1.size; omega
    clear hb1
    go_wp2_with fail
    refine (HShut.out _ HR1.out hB1).mono ?_
    rintro e w2 ⟨rfl, hR2, hb2⟩
    have HB2 := hidLL (HB1.out.trans hb2)
    obtain ⟨own, vo, V, K, hRS⟩ := hR2
    have HRS2 := hidLL hRS
    have hB2 : B ≤ w2.heap.size := by have := hb2.size; omega
    clear hb2 hRS
    go_wp2_with fail
    refine (HIL.out _ (HE.out _ (HW.out.trans (HB2.out.down HB0.out.1 HB0.out.2))).T).mono ?_
    rintro e w3 ⟨rfl, hb3⟩
    have HB3 := hidLL (HB2.out.trans (Below.x hb3 br hB2))
    have HRS3 := hidLL (HRS2.out.below hb3)
    have hB3 : B ≤ w3.heap.size := by have := hb3.size; omega
    clear hb3
    have c6 : w3.cell? ⟨2, 0, none⟩ = some (.iface 129 (.pointer (some (p 6)))) := (HE.out _ (HW.out.trans (HB3.out.down HB0.out.1 HB0.out.2))).L.cell 6 (by omega)
    go_wp2
    go_ret
    exact ⟨by rw [← HSe.out, if_pos (.inl HCi.out)]; exact ⟨6, rfl, by omega, rfl⟩, HB3.out⟩
  rw [hil] at HIL
  have HCi := hidLL hil
  clear hil
  cases hhk : hasKid t lab
  rotate_left
  · have HCk := hidLL hhk
    clear hhk
    go_enter Tryd.func53, Tryd.ntmps53
    go_wp2_with fail
    refine (HCut.out _ (HE.out _ HW.out).M).mono ?_
    rintro e w1 ⟨⟨y, b, rfl⟩, hb1⟩
    have HB1 := hidLL (Below.x hb1 br hBw)
    have HR1 : Hid (Rd B br w1 z n) := by
      obtain ⟨own, vo, V, K, h⟩ := HR.out
      exact ⟨own, vo, V, K, h.below hb1⟩
    have hB1 : B ≤ w1.heap.size := by have := hb1.size; omega
    clear hb1
    go_wp2_with fail
    refine (HShut.out _ HR1.out hB1).mono ?_
    rintro e w2 ⟨rfl, hR2, hb2⟩
    have HB2 := hidLL (HB1.out.trans hb2)
    obtain ⟨own, vo, V, K, hRS⟩ := hR2
    have HRS2 := hidLL hRS
    have hB2 : B ≤ w2.heap.size := by have := hb2.size; omega
    clear hb2 hRS
    go_wp2_with fail
    refine (HIL.out _ (HE.out _ (HW.out.trans (HB2.out.down HB0.out.1 HB0.out.2))).T).mono ?_
    rintro e w3 ⟨rfl, hb3⟩
    have HB3 := hidLL (HB2.out.trans (Below.x hb3 br hB2))
    have HRS3 := hidLL (HRS2.out.below hb3)
    have hB3 : B ≤ w3.heap.size := by have := hb3.size; omega
    clear hb3
    obtain ⟨g, cap, hvo, hgl, hgB⟩ := row_form HRS3.out.row (by rw [HLn.out]; omega)
    obtain ⟨zl, hzl⟩ : ∃ zl, zl = zz.length := ⟨_, rfl⟩
    rw [← hzl] at hvo
    have hdz : (d : Int) < (zl : Int) := by rw [hzl, HLn.out]; omega
    have hz0 : zl ≤ 1001 := by rw [hzl, HLn.out]; omega
    have HZ := hidLL hzl
    have HVo := hidLL hvo
    have cb3 := HRS3.out.c0
    rw [hvo] at cb3
    have hO := HRS3.out.it d t HAt.out
    obtain ⟨ka, kc, ek⟩ := row_any hO.kd
    have ck3 := HRS3.out.item (by rw [hvo, hzl]) (by rw [HLn.out]; omega : d < _) 3 (by omega)
    rw [ek] at ck3
    obtain ⟨kn, hkn⟩ : ∃ kn, kn = t.kids.length := ⟨_, rfl⟩
    rw [← hkn] at ck3 ek hkd
    have HLB := hidLL (labelled_lies hO.lies ek (by omega) lab)
    clear hzl hvo hO ek hkn
    go_wp2_with fail
    refine HLB.out.mono ?_
    rintro e w4 ⟨⟨k, rfl, hk1, hk2⟩, hb4⟩
    have HB4 := hidLL (HB3.out.trans (Below.x hb4 br hB3))
    have HRS4 := hidLL (HRS3.out.below hb4)
    have hB4 : B ≤ w4.heap.size := by have := hb4.size; omega
    have HK2 := hidLL hk2
    clear hb4 cb3 ck3 hk2
    have hk0 : 0 ≤ k := HK2.out.2 HCk.out
    have c6 : w4.cell? ⟨2, 0, none⟩ = some (.iface 129 (.pointer (some (p 6)))) := (HE.out _ (HW.out.trans (HB4.out.down HB0.out.1 HB0.out.2))).L.cell 6 (by omega)
    go_wp2
    go_ret
    exact ⟨by rw [← HSe.out, if_pos (.inr HCk.out)]; exact ⟨6, rfl, by omega, rfl⟩, HB4.out⟩
  have HCk := hidLL hhk
  clear hhk
  have HS1 : Hid (S' = if 6 ≤ d ∨ 300 ≤ n then Step.bad 2 else if (rt rest).1 = 0 then Step.good (zz ++ [It.mk lab (rt rest).2 [] []]) (n + 1) else Step.bad (rt rest).1) := by
    show _ = _
    rw [← HSe.out, if_neg (by rw [HCi.out, HCk.out]; simp)]
  clear HSe
  by_cases h6 : 6 ≤ d
  · have h6z : (6 : Int) ≤ d := by omega
    go_enter Tryd.func53, Tryd.ntmps53
    go_wp2_with fail
    refine (HCut.out _ (HE.out _ HW.out).M).mono ?_
    rintro e w1 ⟨⟨y, b, rfl⟩, hb1⟩
    have HB1 := hidLL (Below.x hb1 br hBw)
    have HR1 : Hid (Rd B br w1 z n) := by
      obtain ⟨own, vo, V, K, h⟩ := HR.out
      exact ⟨own, vo, V, K, h.below hb1⟩
    have hB1 : B ≤ w1.heap.size := by have := hb1.size; omega
    clear hb1
    go_wp2_with fail
    refine (HShut.out _ HR1.out hB1).mono ?_
    rintro e w2 ⟨rfl, hR2, hb2⟩
    have HB2 := hidLL (HB1.out.trans hb2)
    obtain ⟨own, vo, V, K, hRS⟩ := hR2
    have HRS2 := hidLL hRS
    have hB2 : B ≤ w2.heap.size := by have := hb2.size; omega
    clear hb2 hRS
    go_wp2_with fail
    refine (HIL.out _ (HE.out _ (HW.out.trans (HB2.out.down HB0.out.1 HB0.out.2))).T).mono ?_
    rintro e w3 ⟨rfl, hb3⟩
    have HB3 := hidLL (HB2.out.trans (Below.x hb3 br hB2))
    have HRS3 := hidLL (HRS2.out.below hb3)
    have hB3 : B ≤ w3.heap.size := by have := hb3.size; omega
    clear hb3
    obtain ⟨g, cap, hvo, hgl, hgB⟩ := row_form HRS3.out.row (by rw [HLn.out]; omega)
    obtain ⟨zl, hzl⟩ : ∃ zl, zl = zz.length := ⟨_, rfl⟩
    rw [← hzl] at hvo
    have hdz : (d : Int) < (zl : Int) := by rw [hzl, HLn.out]; omega
    have hz0 : zl ≤ 1001 := by rw [hzl, HLn.out]; omega
    have HZ := hidLL hzl
    have HVo := hidLL hvo
    have cb3 := HRS3.out.c0
    rw [hvo] at cb3
    have hO := HRS3.out.it d t HAt.out
    obtain ⟨ka, kc, ek⟩ := row_any hO.kd
    have ck3 := HRS3.out.item (by rw [hvo, hzl]) (by rw [HLn.out]; omega : d < _) 3 (by omega)
    rw [ek] at ck3
    obtain ⟨kn, hkn⟩ : ∃ kn, kn = t.kids.length := ⟨_, rfl⟩
    rw [← hkn] at ck3 ek hkd
    have HLB := hidLL (labelled_lies hO.lies ek (by omega) lab)
    clear hzl hvo hO ek hkn
    go_wp2_with fail
    refine HLB.out.mono ?_
    rintro e w4 ⟨⟨k, rfl, hk1, hk2⟩, hb4⟩
    have HB4 := hidLL (HB3.out.trans (Below.x hb4 br hB3))
    have HRS4 := hidLL (HRS3.out.below hb4)
    have hB4 : B ≤ w4.heap.size := by have := hb4.size; omega
    have HK2 := hidLL hk2
    clear hb4 cb3 ck3 hk2
    have hkneg : ¬ 0 ≤ k := fun h => by have := HK2.out.1 h; rw [HCk.out] at this; cases this
    have hkn0 : k < 0 := by omega
    clear hkneg
    have c1 : w4.cell? ⟨0, 0, none⟩ = some (.iface 129 (.pointer (some (p 1)))) := (HE.out _ (HW.out.trans (HB4.out.down HB0.out.1 HB0.out.2))).L.cell 1 (by omega)
    have cn := HRS4.out.c1
    go_wp2
    go_ret
    exact ⟨by rw [HS1.out, if_pos (.inl h6)]; exact ⟨1, rfl, by omega, rfl⟩, HB4.out⟩
  have h6z : (d : Int) < 6 := by omega
  by_cases h3 : 300 ≤ n
  · have h3z : (300 : Int) ≤ n := by omega
    go_enter Tryd.func53, Tryd.ntmps53
    go_wp2_with fail
    refine (HCut.out _ (HE.out _ HW.out).M).mono ?_
    rintro e w1 ⟨⟨y, b, rfl⟩, hb1⟩
    have HB1 := hidLL (Below.x hb1 br hBw)
    have HR1 : Hid (Rd B br w1 z n) := by
      obtain ⟨own, vo, V, K, h⟩ := HR.out
      exact ⟨own, vo, V, K, h.below hb1⟩
    have hB1 : B ≤ w1.heap.size := by have := hb1.size; omega
    clear hb1
    go_wp2_with fail
    refine (HShut.out _ HR1.out hB1).mono ?_
    rintro e w2 ⟨rfl, hR2, hb2⟩
    have HB2 := hidLL (HB1.out.trans hb2)
    obtain ⟨own, vo, V, K, hRS⟩ := hR2
    have HRS2 := hidLL hRS
    have hB2 : B ≤ w2.heap.size := by have := hb2.size; omega
    clear hb2 hRS
    go_wp2_with fail
    refine (HIL.out _ (HE.out _ (HW.out.trans (HB2.out.down HB0.out.1 HB0.out.2))).T).mono ?_
    rintro e w3 ⟨rfl, hb3⟩
    have HB3 := hidLL (HB2.out.trans (Below.x hb3 br hB2))
    have HRS3 := hidLL (HRS2.out.below hb3)
    have hB3 : B ≤ w3.heap.size := by have := hb3.size; omega
    clear hb3
    obtain ⟨g, cap, hvo, hgl, hgB⟩ := row_form HRS3.out.row (by rw [HLn.out]; omega)
    obtain ⟨zl, hzl⟩ : ∃ zl, zl = zz.length := ⟨_, rfl⟩
    rw [← hzl] at hvo
    have hdz : (d : Int) < (zl : Int) := by rw [hzl, HLn.out]; omega
    have hz0 : zl ≤ 1001 := by rw [hzl, HLn.out]; omega
    have HZ := hidLL hzl
    have HVo := hidLL hvo
    have cb3 := HRS3.out.c0
    rw [hvo] at cb3
    have hO := HRS3.out.it d t HAt.out
    obtain ⟨ka, kc, ek⟩ := row_any hO.kd
    have ck3 := HRS3.out.item (by rw [hvo, hzl]) (by rw [HLn.out]; omega : d < _) 3 (by omega)
    rw [ek] at ck3
    obtain ⟨kn, hkn⟩ : ∃ kn, kn = t.kids.length := ⟨_, rfl⟩
    rw [← hkn] at ck3 ek hkd
    have HLB := hidLL (labelled_lies hO.lies ek (by omega) lab)
    clear hzl hvo hO ek hkn
    go_wp2_with fail
    refine HLB.out.mono ?_
    rintro e w4 ⟨⟨k, rfl, hk1, hk2⟩, hb4⟩
    have HB4 := hidLL (HB3.out.trans (Below.x hb4 br hB3))
    have HRS4 := hidLL (HRS3.out.below hb4)
    have hB4 : B ≤ w4.heap.size := by have := hb4.size; omega
    have HK2 := hidLL hk2
    clear hb4 cb3 ck3 hk2
    have hkneg : ¬ 0 ≤ k := fun h => by have := HK2.out.1 h; rw [HCk.out] at this; cases this
    have hkn0 : k < 0 := by omega
    clear hkneg
    have c1 : w4.cell? ⟨0, 0, none⟩ = some (.iface 129 (.pointer (some (p 1)))) := (HE.out _ (HW.out.trans (HB4.out.down HB0.out.1 HB0.out.2))).L.cell 1 (by omega)
    have cn := HRS4.out.c1
    go_wp2
    go_ret
    exact ⟨by rw [HS1.out, if_pos (.inr h3)]; exact ⟨1, rfl, by omega, rfl⟩, HB4.out⟩
  have h3z : (n : Int) < 300 := by omega
  have HG : Hid ((rt rest).1 = 0 → S' = .good (zz ++ [It.mk lab (rt rest).2 [] []]) (n + 1)) := fun h => by rw [HS1.out, if_neg (by omega), if_pos h]
  have HBd : Hid ((rt rest).1 ≠ 0 → S' = .bad (rt rest).1) := fun h => by rw [HS1.out, if_neg (by omega), if_neg h]
  clear HS1
  go_enter Tryd.func53, Tryd.ntmps53
  go_wp2_with fail
  refine (HCut.out _ (HE.out _ HW.out).M).mono ?_
  rintro e w1 ⟨⟨y, b, rfl⟩, hb1⟩
  have HB1 := hidLL (Below.x hb1 br hBw)
  have HR1 : Hid (Rd B br w1 z n) := by
    obtain ⟨own, vo, V, K, h⟩ := HR.out
    exact ⟨own, vo, V, K, h.below hb1⟩
  have hB1 : B ≤ w1.heap.size := by have := hb1.size; omega
  clear hb1
  go_wp2_with fail
  refine (HShut.out _ HR1.out hB1).mono ?_
  rintro e w2 ⟨rfl, hR2, hb2⟩
  have HB2 := hidLL (HB1.out.trans hb2)
  obtain ⟨own, vo, V, K, hRS⟩ := hR2
  have HRS2 := hidLL hRS
  have hB2 : B ≤ w2.heap.size := by have := hb2.size; omega
  clear hb2 hRS
  go_wp2_with fail
  refine (HIL.out _ (HE.out _ (HW.out.trans (HB2.out.down HB0.out.1 HB0.out.2))).T).mono ?_
  rintro e w3 ⟨rfl, hb3⟩
  have HB3 := hidLL (HB2.out.trans (Below.x hb3 br hB2))
  have HRS3 := hidLL (HRS2.out.below hb3)
  have hB3 : B ≤ w3.heap.size := by have := hb3.size; omega
  clear hb3
  obtain ⟨g, cap, hvo, hgl, hgB⟩ := row_form HRS3.out.row (by rw [HLn.out]; omega)
  obtain ⟨zl, hzl⟩ : ∃ zl, zl = zz.length := ⟨_, rfl⟩
  rw [← hzl] at hvo
  have hdz : (d : Int) < (zl : Int) := by rw [hzl, HLn.out]; omega
  have hz0 : zl ≤ 1001 := by rw [hzl, HLn.out]; omega
  have HZ := hidLL hzl
  have HVo := hidLL hvo
  have cb3 := HRS3.out.c0
  rw [hvo] at cb3
  have hO := HRS3.out.it d t HAt.out
  obtain ⟨ka, kc, ek⟩ := row_any hO.kd
  have ck3 := HRS3.out.item (by rw [hvo, hzl]) (by rw [HLn.out]; omega : d < _) 3 (by omega)
  rw [ek] at ck3
  obtain ⟨kn, hkn⟩ : ∃ kn, kn = t.kids.length := ⟨_, rfl⟩
  rw [← hkn] at ck3 ek hkd
  have HLB := hidLL (labelled_lies hO.lies ek (by omega) lab)
  clear hzl hvo hO ek hkn
  go_wp2_with fail
  refine HLB.out.mono ?_
  rintro e w4 ⟨⟨k, rfl, hk1, hk2⟩, hb4⟩
  have HB4 := hidLL (HB3.out.trans (Below.x hb4 br hB3))
  have HRS4 := hidLL (HRS3.out.below hb4)
  have hB4 : B ≤ w4.heap.size := by have := hb4.size; omega
  have HK2 := hidLL hk2
  clear hb4 cb3 ck3 hk2
  have hkneg : ¬ 0 ≤ k := fun h => by have := HK2.out.1 h; rw [HCk.out] at this; cases this
  have hkn0 : k < 0 := by omega
  clear hkneg
  have cn := HRS4.out.c1
  go_wp2_with fail
  refine (HRT.out _ (HE.out _ (HW.out.trans (HB4.out.down HB0.out.1 HB0.out.2))).L).mono ?_
  rintro e w5 ⟨hrt, hb5⟩
  have HB5 := hidLL (HB4.out.trans (Below.x hb5 br hB4))
  have HRS5 := hidLL (HRS4.out.below hb5)
  have hB5 : B ≤ w5.heap.size := by have := hb5.size; omega
  clear hb5 cn
  rcases hrt with ⟨hc, rfl⟩ | ⟨q, hc, hq, rfl⟩
  · have cn5 := HRS5.out.c1
    have fn5 := HRS5.out.f (0 + 1)
    have hwr : (n : Int) + 1 < 9223372036854775807 := by omega
    generalize (rt rest).2 = tt at *
    go_upto_region 11 with fail
    obtain ⟨w6, hw6⟩ : ∃ w6, w6 = w5.setCell ⟨br, 1, none⟩ (.int .i64 ((n : Int) + 1)) := ⟨_, rfl⟩
    have HRS : Hid (RS B br w6 zz (n + 1) own vo V K) := by show RS _ _ _ _ _ _ _ _ _; rw [hw6]; exact HRS5.out.count (n + 1)
    have HB6 : Hid (BelX B br w w6) := by show BelX _ _ _ _; rw [hw6]; exact HB5.out.setCell (.inr rfl) _
    have hsz : B ≤ w6.heap.size := by have := HB6.out.size; omega
    have cb := HRS.out.c0
    have fb := HRS.out.f 0
    have hlb := HRS.out.lt
    rw [HVo.out] at cb
    clear cn5 fn5
    have hw6' : w5.setCell ⟨br, 1, none⟩ (.int .i64 ((n : Int) + 1)) = w6 := hw6.symm
    rw [hw6']
    clear hw6 hw6' hdz
    have HKD : Hid (∀ W : World, (∀ k, k < w6.heap.size → W.heap[k]? = w6.heap[k]?) → W.ownsRow B 31 4 (.slice (some ⟨g, 0, none⟩) zl cap) zl (flat4 V zl)) := fun W hW => by
      have h3 := HRS.out.row
      rw [← HZ.out, HVo.out] at h3
      exact row_step h3 fun k _ hk => hW k hk
    have HNW := hidLL (zNews w6)
    have HOC := hidLL zOne
    have HA : Hid (Below w6.heap.size w6 (w6.drew.alloc (.cells #[Value.string ⟨#[]⟩, .string ⟨#[]⟩, .slice none 0 0, .slice none 0 0] 31))) := (Below.refl _ _).drew.alloc (Nat.le_refl _) _
    have HNb : Hid (some br ≠ (Value.slice (some ⟨g, 0, none⟩) zl cap).ownBlock) := fun e => HRS.out.ne br (by rw [HVo.out]; exact e.symm) rfl
    have hix1 : (zl : Int) < (zl : Int) + 1 := by omega
    go_region_law
      (first
        | (refine step_append_where rfl (.tmp 69) (.tmp 74) 29 rfl B 31 i0 iz 4 80 Tryd.underlying29 HI.out.1 HI.out.2.1 HI.out.2.2.1 HI.out.2.2.2.1 HI.out.2.2.2.2 (by decide) (.slice (some ⟨g, 0, none⟩) zl cap) zl (flat4 V zl) (by first | (simp [Act.eval]; done) | simp [Act.eval, Act.put]) (HKD.out _ (fun k hk => Below.heap_alloc w6.drew _ k hk)) ⟨w6.heap.size, 0, none⟩ 1 1 [Value.string ⟨#[]⟩, .string ⟨#[]⟩, .slice none 0 0, .slice none 0 0] (by first | (simp [Act.eval]; done) | simp [Act.eval, Act.put]) rfl HNW.out HOC.out (by decide) (by unfold maxLen; omega) (by omega) (by simp; omega) ?_
           intro v' w' ho hg hw
           obtain ⟨g', cap', hv', hl', hB', x0, x1, x2, x3, xf⟩ := app_facts ho
           have hnb := own_ne HA.out hw hlb HNb.out
           have y3 := (grown_cell (a := ⟨br, 0, none⟩) HA.out hg hlb HNb.out).1.trans cb
           have y4 := (grown_cell (a := ⟨br, 0, none⟩) HA.out hg hlb HNb.out).2.trans fb
           subst hv'
           have hnb' : g' ≠ br := fun e => hnb (by rw [← e]; rfl)
           have HH := hidLL (And.intro ho (And.intro hg hw))
           have f0 := xf (zl * 4)
           have f1 := xf (zl * 4 + 1)
           have f2 := xf (zl * 4 + 2)
           have f3 := xf (zl * 4 + 3)
           clear ho hg hw xf hnb))
    all_goals
      go_wp2
      go_ret
      have hnb' : g' ≠ br := by assumption
      have HH3 := HH.out
      rw [HZ.out] at HH3
      refine pushedOut HRS.out HA.out HH3.1 (by rw [HVo.out]; exact HH.out.2.1) (by rw [HVo.out]; exact HH.out.2.2) (by omega) HB6.out (HG.out hc) ?_
      rw [← HZ.out]
      first
        | (simp only [set4, vec4]; with_reducible exact LikeW.refl _)
        | (rw [← set4_comm _ _ _ _ _ _ (fun e => hnb' e.symm)]; simp only [set4, vec4]; with_reducible exact LikeW.refl _)
  · have hne : (rt rest).1 ≠ 0 := by omega
    unfold errI
    go_wp2
    go_ret
    exact ⟨by rw [HBd.out hne]; exact ⟨q, hc, hq, rfl⟩, HB5.out⟩
end Go.Proofs.YtgfaeeacndpniaaDoor
