/-
  Package script: the reader's line.
-/
import Derived.Test.YtgfaeeacndpniaaDoorReadBase
import Derived.Test.YtgfaeeacndpniaaDoorInnerP
import Derived.Test.YtgfaeeacndpniaaDoorMemBase
namespace Go.Proofs.YtgfaeeacndpniaaDoor
open Go.RowKit Go.Extern.Stop Go.Stop Go.Extern

theorem lineS_no {z : List It} {n d : Nat} {rest : ByteArray} (h : d + 1 ≠ z.length) : lineS z n d rest = .bad 1 := by unfold lineS; rw [if_pos h]
theorem lineS_at {z : List It} {n d : Nat} {rest : ByteArray} {t : It} (h : d + 1 = z.length) (ht : z[d]? = some t) : lineS z n d rest = if t.lines.length = 40 then .bad 2 else if (rt rest).1 = 0 then .good (z.set d (t.addLine (rt rest).2)) n else .bad (rt rest).1 := by
  unfold lineS; rw [if_neg (by omega), closeAll_last z d t ht h.symm]
set_option maxHeartbeats 4000000 in
set_option maxRecDepth 10000 in
theorem line_any (B br n d : Nat) (z : List It) (rest : ByteArray) (p : Nat → Addr) (m : Int) (w : World) (hR : Rd B br w z n) (hE : Env w p m) (hr : rest.size ≤ 30000) (hB : B ≤ w.heap.size) (hd : d < z.length) (hz : z.length ≤ 1000) (hln : ∀ t ∈ z, t.lines.length ≤ 40) :
    Calls Tryd.prog 52 #[.pointer (some ⟨br, 0, none⟩), .int .i64 d, .string rest] w fun e w' => StepOut B br p e w' (lineS z n d rest) ∧ BelX B br w w' := by
  obtain ⟨own, vo, V, K, hRS⟩ := hR
  obtain ⟨g, cap, hvo, hgl, hgB⟩ := row_form hRS.row (by omega)
  obtain ⟨j, hj⟩ : ∃ j, z.length = j + 1 := ⟨z.length - 1, by omega⟩
  have cb := hRS.c0
  rw [hvo, hj] at cb
  have HIN := hidLL (fun w h => innermost_any br (some ⟨g, 0, none⟩) j cap w (by omega) h)
  have HE := hidLL hE
  have HRS := hidLL hRS
  clear hRS hE
  by_cases hdj : d + 1 ≠ z.length
  · have HS := hidLL (lineS_no (n := n) (rest := rest) hdj)
    rw [HS.out]
    have hne : ((d : Int) != j) = true := by simp; omega
    have c0 : w.cell? ⟨1, 0, none⟩ = some (.iface 129 (.pointer (some (p 0)))) := HE.out.L.cell 0 (by omega)
    clear hdj
    go_enter Tryd.func52, Tryd.ntmps52
    go_wp2_with fail
    refine (HIN.out _ cb).mono ?_
    rintro e w1 ⟨rfl, ew⟩
    subst w1
    go_wp2
    go_ret
    exact ⟨⟨0, rfl, by omega, rfl⟩, BelX.refl _ _ _⟩
  · obtain rfl : d = j := by omega
    obtain ⟨t, ht⟩ : ∃ t, z[d]? = some t := ⟨_, List.getElem?_eq_getElem (by omega)⟩
    have HS := hidLL (lineS_at (n := n) (rest := rest) (by omega) ht)
    have htl := hln t (List.mem_of_getElem? ht)
    have HT := hidLL ht
    have HJ := hidLL hj
    have HV := hidLL hvo
    have hOt := HRS.out.it d t ht
    obtain ⟨la, lc, el⟩ := row_any hOt.ln
    have cl := HRS.out.item hvo (by omega : d < _) 2 (by omega)
    rw [el] at cl
    have fl := HRS.out.itemF hvo (d * 4 + 2)
    have HEl := hidLL el
    have HO := hidLL hOt
    have hdd : ((d : Int) != d) = false := by simp
    rw [HS.out]
    clear hdj ht hvo hln el hOt hj
    have hix : (d : Int) < (d : Int) + 1 := by omega
    by_cases h40 : t.lines.length = 40
    · rw [if_pos h40]
      rw [h40] at cl
      have c1 : w.cell? ⟨0, 0, none⟩ = some (.iface 129 (.pointer (some (p 1)))) := HE.out.L.cell 1 (by omega)
      clear h40
      go_enter Tryd.func52, Tryd.ntmps52
      go_wp2_with fail
      refine (HIN.out _ cb).mono ?_
      rintro e w1 ⟨rfl, ew⟩
      subst w1
      go_wp2
      go_ret
      exact ⟨⟨1, rfl, by omega, rfl⟩, BelX.refl _ _ _⟩
    · rw [if_neg h40]
      obtain ⟨ln, hln⟩ : ∃ ln, ln = t.lines.length := ⟨_, rfl⟩
      rw [← hln] at cl htl
      have HLn := hidLL hln
      have h40' : ((ln : Int) == 40) = false := by simp; omega
      have HRT := hidLL (fun w hw => readText_any rest p w hw (by omega))
      obtain ⟨S', hS'⟩ : ∃ S', S' = (if (rt rest).1 = 0 then Step.good (z.set d (t.addLine (rt rest).2)) n else Step.bad (rt rest).1) := ⟨_, rfl⟩
      have HG : Hid ((rt rest).1 = 0 → S' = .good (z.set d (t.addLine (rt rest).2)) n) := fun h => by rw [hS', if_pos h]
      have HBd : Hid ((rt rest).1 ≠ 0 → S' = .bad (rt rest).1) := fun h => by rw [hS', if_neg h]
      rw [← hS']
      obtain ⟨i0, iz, hi0, hi1, hi2, hi3, hi4⟩ := Tryd.infoStr
      have HI := hidLL (And.intro hi0 (And.intro hi1 (And.intro hi2 (And.intro hi3 hi4))))
      clear hS' h40 hln hi0 hi1 hi2 hi3 hi4
      go_enter Tryd.func52, Tryd.ntmps52
      go_wp2_with fail
      refine (HIN.out _ cb).mono ?_
      rintro e w1 ⟨rfl, ew⟩
      subst w1
      go_wp2_with fail
      refine (HRT.out _ HE.out.L).mono ?_
      rintro e w1 ⟨hrt, hb1⟩
      rcases hrt with ⟨hc, rfl⟩ | ⟨k, hc, hk, rfl⟩
      · have HRS1 := hidLL (HRS.out.below hb1)
        have HB1 := hidLL (Below.x hb1 br hB)
        have hsz := hb1.size
        have d1 := (hb1.cell (p := ⟨g, d * 4 + 2, none⟩) hgl).trans cl
        have d2 := (hb1.frozen (p := ⟨g, d * 4 + 2, none⟩) hgl).trans fl
        have HO1 := hidLL (HRS1.out.it d t HT.out)
        have HKD : Hid (∀ W : World, (∀ k, k < w1.heap.size → W.heap[k]? = w1.heap[k]?) → W.ownsRow B 9 1 (.slice la ln lc) ln (t.lines.map Value.string)) := fun W hW => by
          have h3 := HO1.out.ln
          rw [HEl.out, ← HLn.out] at h3
          exact row_step h3 fun k _ hk => hW k hk
        have HNg : Hid (some g ≠ (Value.slice la ln lc).ownBlock) := fun e => by
          rw [HLn.out, ← HEl.out] at e
          have h3 := HO1.out.lo g e.symm
          have h4 := HRS1.out.oo g (by rw [HV.out]; rfl)
          omega
        clear hb1 cl fl cb
        generalize (rt rest).2 = tt at *
        have HNW := hidLL (oneNews w1 tt)
        have HOC : Hid (∀ u ∈ [Value.string tt], u.oneCell' = true) := by intro u hu; simp at hu; subst hu; rfl
        have HA : Hid (Below w1.heap.size w1 (w1.alloc (.cells #[Value.string tt] 9))) := (Below.refl _ _).alloc (Nat.le_refl _) _
        go_wp2_with (at_builtin; go_loud (refine wpList_append_where _ rfl (.tmp 40) (.tmp 42) 28 rfl B 9 i0 iz 1 16 Tryd.underlying28 HI.out.1 HI.out.2.1 HI.out.2.2.1 HI.out.2.2.2.1 HI.out.2.2.2.2 (by decide) (.slice la ln lc) ln (t.lines.map Value.string) (by simp [Act.eval]) (HKD.out _ (fun k hk => Below.heap_alloc w1 _ k hk)) ⟨w1.heap.size, 0, none⟩ 1 1 [.string tt] (by simp [Act.eval]) rfl HNW.out HOC.out (by decide) (by unfold maxLen; omega) (by omega) (by simp; omega) ?_))
        intro v' w' ho hg hw
        obtain ⟨ga, ca, hv'⟩ := row_any ho
        have x1 := (grown_cell (a := ⟨g, d * 4 + 2, none⟩) HA.out hg (by show g < _; omega) HNg.out).1.trans d1
        have x2 := (grown_cell (a := ⟨g, d * 4 + 2, none⟩) HA.out hg (by show g < _; omega) HNg.out).2.trans d2
        subst hv'
        have HH := hidLL (And.intro ho (And.intro hg hw))
        clear ho hg hw
        go_wp2
        go_ret
        have ho := HH.out.1
        have hg := HH.out.2.1
        have hw := HH.out.2.2
        have e3 := HLn.out
        rw [e3] at ho hw hg
        have hq := HRS1.out.addLine HA.out HV.out HT.out (s := tt) ho (by rw [HEl.out]; exact hg) (by rw [HEl.out]; rcases hw with hw | hw; exact .inl hw; exact .inr (by rw [hw]; simp))
        refine ⟨by rw [HG.out hc]; exact ⟨rfl, ⟨_, _, _, _, by rw [← e3] at hq; exact hq⟩⟩, HB1.out.trans ?_⟩
        have h1 : BelX B br w1 (w1.alloc (.cells #[Value.string tt] 9)) := Below.x HA.out br (by omega)
        have h2 := h1.grown hg (by simp; omega) (fun k hk => (HO1.out.ln.lt k (by rw [HEl.out]; exact hk)).1)
        exact h2.setCell (.inl hgB) _
      · have HB1 := hidLL (Below.x hb1 br hB)
        have hne : (rt rest).1 ≠ 0 := by omega
        clear hb1
        unfold errI
        go_wp2
        go_ret
        exact ⟨by rw [HBd.out hne]; exact ⟨k, hc, hk, rfl⟩, HB1.out⟩
end Go.Proofs.YtgfaeeacndpniaaDoor
