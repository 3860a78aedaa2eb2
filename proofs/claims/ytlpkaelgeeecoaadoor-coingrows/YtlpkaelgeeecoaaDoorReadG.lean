/-
  Reading: coin.wholeFault, centsFault, digitsWorth by contracts.
-/
import Derived.Test.YtlpkaelgeeecoaaDoorTextG
import Derived.Test.YtlpkaelgeeecoaaDoorShelf
import Derived.Test.YtlpkaelgeeecoaaDoorCoded
namespace Go.Proofs.YtlpkaelgeeecoaaDoor
open Go.RowKit Go.Extern.Stop Go.Stop Go.Extern

theorem split_comma (s : ByteArray) (m : Int) (w : World) (hs : s.size ≤ 3000) (hm : w.cell? ⟨13, 0, none⟩ = some (.int .i64 m)) :
    ∃ gs : List ByteArray, gs.map (·.size) = gl (bl s) ∧ Calls Tryd.prog 54 #[.string s, .string ⟨#[44]⟩] w fun e w' =>
      e = .returned (.slice (some ⟨w.heap.size, 0, none⟩) gs.length gs.length) ∧ w' = w.alloc (.cells (gs.map Value.string).toArray 9) := by
  refine ⟨Lib.splitB ⟨#[44]⟩ 0 (Lib.countB s ⟨#[44]⟩) s, ?_, ?_⟩
  · rw [← gl_splitK _ (bl s) (Nat.le_refl _)]
    have := Lib.splitB_data ⟨#[44]⟩ 0 (Lib.countB s ⟨#[44]⟩) s
    have h2 := congrArg (List.map List.length) this
    rw [List.map_map] at h2
    refine Eq.trans ?_ h2
    refine List.map_congr_left fun x _ => ?_
    simp
  · have h := Go.Proofs.Tryd.strings_Split s ⟨#[44]⟩ m w (by omega) hm (by decide)
    have hl := Lib.splitB_all ⟨#[44]⟩ (by decide) 0 _ s rfl
    rw [← hl] at h
    exact h

theorem isEmpty_bl (s : ByteArray) : s.toList.isEmpty = (bl s).isEmpty := by
  rw [Lib.toList_data]

theorem wf_cons {l : List UInt8} (h : l.isEmpty = false) {g : Nat} {t : List Nat} (e : gl l = g :: t) : wf l = if t = [] then -1 else if g < 1 ∨ 3 < g then (g : Int) else if t.all (· == 3) then -1 else (g : Int) := by
  cases l with
  | nil => cases h
  | cons c r => unfold wf; simp only [e]

theorem gs_cell (gs : List ByteArray) (w : World) (i : Nat) (g : ByteArray) (h : gs[i]? = some g) : (w.alloc (.cells (gs.map Value.string).toArray 9)).cell? ⟨w.heap.size, i, none⟩ = some (.string g) := by
  rw [World.cell?_alloc_at _ _ _ _ rfl]
  simp [h]

set_option maxHeartbeats 1000000 in
theorem wholeFault_any (s : ByteArray) (m : Int) (w : World) (hs : s.size ≤ 3000) (hm : w.cell? ⟨13, 0, none⟩ = some (.int .i64 m)) :
    Calls Tryd.prog 26 #[.string s] w fun e w' => e = .returned (.int .i64 (wf (bl s))) ∧ Below w.heap.size w w' := by
  cases he : s.toList.isEmpty
  · obtain ⟨gs, hgs, hsp⟩ := split_comma s m w hs hm
    have HS := hidIt hsp
    have he' : (bl s).isEmpty = false := by rw [← isEmpty_bl]; exact he
    have HB : Hid (Below w.heap.size w (w.alloc (.cells (gs.map Value.string).toArray 9))) := (Below.refl _ _).alloc (Nat.le_refl _) _
    clear hsp hm
    cases gs with
    | nil => exact absurd hgs.symm (gl_ne _)
    | cons g1 gt =>
      cases gt with
      | nil =>
        have HW : Hid (wf (bl s) = -1) := (wf_cons he' hgs.symm).trans (if_pos rfl)
        clear hgs he'
        go_enter Tryd.func26, Tryd.ntmps26
        go_wp2_with fail
        refine HS.out.mono ?_
        rintro e w' ⟨rfl, rfl⟩
        go_wp2
        go_ret
        exact ⟨ret_int HW.out.symm, HB.out⟩
      | cons g2 gr =>
        have hne : ((g2 :: gr).map (·.size)) ≠ [] := by simp
        have HG : Hid (wf (bl s) = if g1.size < 1 ∨ 3 < g1.size then (g1.size : Int) else if ((g2 :: gr).map (·.size)).all (· == 3) then -1 else (g1.size : Int)) := by
          show _ = _
          rw [wf_cons he' hgs.symm, if_neg hne]
        have c0 := gs_cell (g1 :: g2 :: gr) w 0 g1 rfl
        have HC := (show Hid (∀ i g, (g2 :: gr)[i]? = some g → (w.alloc (.cells ((g1 :: g2 :: gr).map Value.string).toArray 9)).cell? ⟨w.heap.size, 1 + i, none⟩ = some (.string g)) from fun i g h => gs_cell (g1 :: g2 :: gr) w (1 + i) g (by rw [Nat.add_comm]; exact h))
        have hlen : (g1 :: g2 :: gr).length = gr.length + 2 := rfl
        rw [hlen] at HS
        have HL : Hid ((g2 :: gr).length = gr.length + 1) := rfl
        have hbd : gr.length ≤ 3000 := by
          have h1 := gl_len (bl s)
          rw [← hgs, size_bl] at h1
          simp at h1
          omega
        clear hgs he' hne hlen
        generalize gr.length = n at *
        generalize hq : g2 :: gr = q at *
        generalize hA : (.cells ((g1 :: q).map Value.string).toArray 9 : Obj) = A at *
        clear hA hq g2 gr
        by_cases ha : g1.size < 1 ∨ 3 < g1.size
        · have HW : Hid (wf (bl s) = g1.size) := HG.out.trans (if_pos ha)
          by_cases hb : g1.size < 1
          · have d1 : decide ((g1.size : Int) < 1) = true := by simp; omega
            go_enter Tryd.func26, Tryd.ntmps26
            go_wp2_with fail
            refine HS.out.mono ?_
            rintro e w' ⟨rfl, rfl⟩
            go_wp2
            go_ret
            exact ⟨ret_int HW.out.symm, HB.out⟩
          · have d1 : decide ((g1.size : Int) < 1) = false := by simp; omega
            have d2 : decide (3 < (g1.size : Int)) = true := by simp; omega
            clear ha
            go_enter Tryd.func26, Tryd.ntmps26
            go_wp2_with fail
            refine HS.out.mono ?_
            rintro e w' ⟨rfl, rfl⟩
            go_wp2
            go_ret
            exact ⟨ret_int HW.out.symm, HB.out⟩
        · have HW := hidIt (HG.out.trans (if_neg ha))
          have d1 : decide ((g1.size : Int) < 1) = false := by simp; omega
          have d2 : decide (3 < (g1.size : Int)) = false := by simp; omega
          clear ha
          go_enter Tryd.func26, Tryd.ntmps26
          go_wp2_with fail
          refine HS.out.mono ?_
          rintro e w' ⟨rfl, rfl⟩
          go_wp2_with fail
          go_loop [28] (fun t => ∃ i : Nat, i ≤ n + 1 ∧ t = .int .i64 i ∧ ∀ j, j < i → ∀ g : ByteArray, q[j]? = some g → g.size = 3) (fun t => n + 1 - (intOf t).toNat)
          case atStart => exact ⟨0, by omega, rfl, by intro j h; omega⟩
          case round =>
            obtain ⟨i, hi, rfl, hall⟩ := hrel
            have HA := hidIt hall
            clear hall
            by_cases hlt : i < n + 1
            · have hql := HL.out
              obtain ⟨g, hg⟩ : ∃ g, q[i]? = some g := ⟨_, List.getElem?_eq_getElem (by omega)⟩
              have ci := HC.out i g hg
              have Hg := hidIt hg
              clear hql hg
              by_cases h3 : g.size = 3
              · have e3 : ((g.size : Int) != 3) = false := by simp; omega
                have HN : Hid (∀ j, j < i + 1 → ∀ g : ByteArray, q[j]? = some g → g.size = 3) := fun j hj x hx => by
                  rcases Nat.lt_or_ge j i with h | h
                  · exact HA.out j h x hx
                  · obtain rfl : j = i := by omega
                    rw [Hg.out] at hx
                    obtain rfl := Option.some.inj hx
                    exact h3
                clear h3
                go_wp2
                go_round
                case rel => exact ⟨i + 1, by omega, by go_num, HN.out⟩
                case measure => simp [intOf]; omega
              · have e3 : ((g.size : Int) != 3) = true := by simp; omega
                have HE : Hid (wf (bl s) = g1.size) := by
                  refine HW.out.trans (if_neg fun h => h3 ?_)
                  have := List.all_eq_true.1 h g.size (List.mem_map.2 ⟨g, List.mem_of_getElem? Hg.out, rfl⟩)
                  simpa using this
                clear h3
                go_wp2
                go_ret
                exact ⟨ret_int HE.out.symm, HB.out⟩
            · have HE : Hid (wf (bl s) = -1) := by
                refine HW.out.trans (if_pos (List.all_eq_true.2 fun x hx => ?_))
                obtain ⟨g, hg, rfl⟩ := List.mem_map.1 hx
                obtain ⟨j, hj⟩ := List.getElem?_of_mem hg
                have hjl : j < q.length := by
                  rcases Nat.lt_or_ge j q.length with h | h
                  · exact h
                  · rw [List.getElem?_eq_none h] at hj; cases hj
                have := HL.out
                simpa using HA.out j (by omega) g hj
              go_wp2
              go_ret
              exact ⟨ret_int HE.out.symm, HB.out⟩
  · have HW : Hid (wf (bl s) = 0) := by
      rw [isEmpty_bl] at he
      show _ = _
      rw [List.isEmpty_iff.1 he]; rfl
    clear hm
    go_enter Tryd.func26, Tryd.ntmps26
    go_wp2
    go_ret
    exact ⟨ret_int HW.out.symm, Below.refl _ _⟩

theorem pv_snoc (l : List UInt8) (c : UInt8) : pv (l ++ [c]) = pstep (pv l) c := by simp [pv]
theorem take_snoc (s : ByteArray) (k : Nat) (h : k < s.size) : (bl s).take (k + 1) = (bl s).take k ++ [s[k]] := by
  rw [List.take_succ_eq_append_getElem (by simpa using h)]; rfl
theorem pv_le (l : List UInt8) : 0 ≤ pv l ∧ pv l ≤ 1000000000001 := pv_bd l 0 (by decide) (by decide)

set_option maxHeartbeats 1000000 in
theorem worth_any (s : ByteArray) (w : World) (hasc : ∀ (k : Nat) (h : k < s.size), (s[k]'h).toNat < 128) :
    Calls Tryd.prog 28 #[.string s] w fun e w' => e = .returned (.int .i64 (pv (bl s))) ∧ Below w.heap.size w w' := by
  have HS := hidIt hasc
  clear hasc
  go_enter Tryd.func28, Tryd.ntmps28
  go_wp2_with fail
  go_loopw [3] (fun t w' => ∃ pos : Nat, w' = w.iter s pos ∧ pos ≤ s.size ∧ t = .int .i64 (pv ((bl s).take pos))) (fun _ w' => s.size - w'.iterPos w.heap.size)
  case atStart => exact ⟨0, rfl, Nat.zero_le _, rfl⟩
  case round =>
    obtain ⟨pos, rfl, hle, rfl⟩ := hrel
    by_cases hp : pos < s.size
    · have ha := HS.out pos hp
      have hnx : ∀ ty, (Instr.next (.pointer (some ⟨w.heap.size, 0, none⟩)) true ty).run Tryd.prog (w.iter s pos) = _ := fun ty => run_next_ascii w s pos ty hp ha
      obtain ⟨b1, b2⟩ := pv_le ((bl s).take pos)
      have HN : Hid (pv ((bl s).take (pos + 1)) = pstep (pv ((bl s).take pos)) s[pos]) := by show _ = _; rw [take_snoc s pos hp, pv_snoc]
      generalize pv ((bl s).take pos) = a at *
      cases hd : isDg (s[pos]'hp)
      · have hr : dgR (s[pos]'hp).toNat = false := (dg_low _).trans hd
        have HE : Hid (pv ((bl s).take (pos + 1)) = a) := HN.out.trans (by unfold pstep; rw [hd]; rfl)
        clear hd
        go_wp2_with fail
        refine (isDigit_any _ _).mono ?_
        rintro e w' ⟨rfl, rfl⟩
        go_wp2
        go_roundw
        case rel => exact ⟨pos + 1, rfl, by omega, by rw [HE.out]⟩
        case measure => simp; omega
      · have hr : dgR (s[pos]'hp).toNat = true := (dg_low _).trans hd
        obtain ⟨k1, k2⟩ := dg_bd hd
        have HE : Hid (pv ((bl s).take (pos + 1)) = min (a * 10 + ((s[pos]'hp).toNat - 48)) 1000000000001) := HN.out.trans (by unfold pstep; rw [hd]; rfl)
        clear hd
        go_wp2_with fail
        refine (isDigit_any _ _).mono ?_
        rintro e w' ⟨rfl, rfl⟩
        go_wp2
        go_roundw
        case rel => exact ⟨pos + 1, rfl, by omega, by rw [HE.out]⟩
        case measure => simp; omega
    · have hnx : ∀ ty, (Instr.next (.pointer (some ⟨w.heap.size, 0, none⟩)) true ty).run Tryd.prog (w.iter s pos) = _ := fun ty => run_next_end w s pos ty hp
      have HE : Hid ((bl s).take pos = bl s) := List.take_of_length_le (by rw [size_bl]; omega)
      go_wp2
      go_ret
      exact ⟨ret_int (by rw [HE.out]), below_iter _ _ _⟩

theorem runLen_le (fb : UInt8 → Bool) (l : List UInt8) : runLen fb l ≤ l.length := by
  unfold runLen
  exact (List.takeWhile_sublist fb).length_le

theorem bl_cons (s : ByteArray) (h : 0 < s.size) : bl s = s[0] :: bl (s.extract 1 s.size) := by
  have h1 : bl (s.extract 1 s.size) = (bl s).drop 1 := Lib.extract_to_end s 1
  rw [h1]
  have h2 := bl_get s 0 h
  cases e : bl s with
  | nil => rw [e] at h2; cases h2
  | cons c r => rw [e] at h2; simp at h2; simp [h2]

set_option maxHeartbeats 1000000 in
theorem centsFault_any (s : ByteArray) (w : World) (hs : s.size ≤ 3000) :
    Calls Tryd.prog 27 #[.string s] w fun e w' => e = .returned (.int .i64 (cf (bl s))) ∧ Below w.heap.size w w' := by
  cases he : s.toList.isEmpty
  · have h0 : 0 < s.size := by
      rw [isEmpty_bl] at he
      rw [← size_bl]
      cases h : bl s with
      | nil => rw [h] at he; cases he
      | cons c r => simp
    have hcons := bl_cons s h0
    by_cases hc : s[0] = 46
    · have e1 : (((s[0].toNat : Nat) : Int) != 46) = false := by simp [hc]
      have hx := count_any 53 dgR isDg fits50 en50 (s.extract 1 s.size) w
      have hsz : (bl (s.extract 1 s.size)).length + 1 = s.size := by
        have := congrArg List.length hcons
        rw [size_bl] at this
        simpa using this.symm
      have hcf : cf (bl s) = if min (runLen isDg (bl (s.extract 1 s.size))) 2 = 2 ∧ s.size = 3 then -1 else 1 + ((min (runLen isDg (bl (s.extract 1 s.size))) 2 : Nat) : Int) := by
        rw [hcons, hc]
        unfold cf
        simp only [ne_eq, not_true_eq_false, if_false]
        split <;> split <;> first | rfl | (exfalso; omega)
      have hR : runLen isDg (bl (s.extract 1 s.size)) ≤ 3000 := by
        have := runLen_le isDg (bl (s.extract 1 s.size))
        omega
      clear hsz hcons
      generalize runLen isDg (bl (s.extract 1 s.size)) = R at *
      have HX := hidIt hx
      have HC := hidIt hcf
      clear hc hx hcf
      go_enter Tryd.func27, Tryd.ntmps27
      go_wp2_with fail
      refine HX.out.mono ?_
      rintro e w' ⟨rfl, hb⟩
      have HB := hidIt hb
      clear hb
      go_wp2
      all_goals
        go_ret
        refine ⟨ret_int ?_, HB.out⟩
        rw [HC.out]
        (try simp only [beq_iff_eq, beq_eq_false_iff_ne] at *)
        split <;> omega
    · have e1 : (((s[0].toNat : Nat) : Int) != 46) = true := by
        have : s[0].toNat ≠ 46 := fun h => hc (UInt8.toNat_inj.1 h)
        simp; omega
      have HE : Hid (cf (bl s) = 0) := by
        show _ = _
        rw [hcons]
        unfold cf
        simp only [ne_eq, hc, not_false_eq_true, if_true]
      clear hcons hc
      go_enter Tryd.func27, Tryd.ntmps27
      go_wp2
      go_ret
      exact ⟨ret_int HE.out.symm, Below.refl _ _⟩
  · have HW : Hid (cf (bl s) = -1) := by
      rw [isEmpty_bl] at he
      show _ = _
      rw [List.isEmpty_iff.1 he]; rfl
    go_enter Tryd.func27, Tryd.ntmps27
    go_wp2
    go_ret
    exact ⟨ret_int HW.out.symm, Below.refl _ _⟩
end Go.Proofs.YtlpkaelgeeecoaaDoor
