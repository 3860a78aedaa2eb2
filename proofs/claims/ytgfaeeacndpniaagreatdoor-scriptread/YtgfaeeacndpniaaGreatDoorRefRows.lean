/-
  The reference: Rows.
-/
import Derived.Test.YtgfaeeacndpniaaGreatDoorRefSmall
import Derived.Test.YtgfaeeacndpniaaGreatDoorMemBase
import Derived.Test.YtgfaeeacndpniaaGreatDoorLineP
namespace Go.Proofs.YtgfaeeacndpniaaGreatDoor
open Go.RowKit Go.Extern.Stop Go.Stop Go.Extern

theorem bl_app (a b : ByteArray) : bl (a ++ b) = bl a ++ bl b := by simp [bl]
theorem spl_ex (l : List UInt8) : ∃ o x, spl l = o ++ [x] := by
  rcases List.eq_nil_or_concat (spl l) with h0 | ⟨a, b, hab⟩
  · exact absurd h0 (spl_ne l)
  · exact ⟨a, b, by rw [hab, List.concat_eq_append]⟩
theorem take_snoc (s : ByteArray) (i : Nat) (h : i < s.size) : (bl s).take (i + 1) = (bl s).take i ++ [s[i]] := by
  rw [List.take_add_one, bl_get s i h]; rfl
theorem bl_one (s : ByteArray) (i : Nat) (h : i < s.size) : bl (s.extract i (i + 1)) = [s[i]] := by
  rw [bl_extract, take_snoc s i h, List.drop_append_of_le_length (by rw [List.length_take, size_bl]; omega), List.drop_eq_nil_of_le (by rw [List.length_take, size_bl]; omega)]
  rfl
/-- The rows so far. -/
inductive RowsAt (w : World) (s : ByteArray) (v y t : Value) (wr : World) : Prop
  | mk (i : Nat) (o : List ByteArray) (x : ByteArray) (h1 : i ≤ s.size) (h2 : t = .int .i64 i) (h3 : y = .string x) (h4 : wr.ownsRow w.heap.size 9 1 v o.length (o.map Value.string)) (h5 : spl ((bl s).take i) = o.map bl ++ [bl x]) (h6 : Below w.heap.size w wr)
theorem rows_bd {s : ByteArray} {i : Nat} {o : List ByteArray} {x : ByteArray} (h1 : i ≤ s.size) (h5 : spl ((bl s).take i) = o.map bl ++ [bl x]) : o.length ≤ s.size ∧ x.size ≤ s.size := by
  have a := spl_len ((bl s).take i)
  rw [h5] at a
  have hl : ((bl s).take i).length = i := by rw [List.length_take, size_bl]; omega
  have b := spl_size ((bl s).take i) (bl x) (by rw [h5]; simp)
  rw [size_bl] at b
  simp at a
  have : min i (bl s).length = i := by rw [size_bl]; omega
  omega
set_option maxHeartbeats 4000000 in
set_option maxRecDepth 10000 in
theorem rows_any (s : ByteArray) (hs : s.size ≤ 100000) (w : World) : Calls Tryz.prog 27 #[.string s] w fun e w' => (∃ v, e = .returned v ∧ w'.ownsRow w.heap.size 9 1 v (rowsB s).length ((rowsB s).map Value.string)) ∧ Below w.heap.size w w' := by
  obtain ⟨i0, iz, hi0, hi1, hi2, hi3, hi4⟩ := Tryz.infoStr
  have HI := hidLL (And.intro hi0 (And.intro hi1 (And.intro hi2 (And.intro hi3 hi4))))
  clear hi0 hi1 hi2 hi3 hi4
  go_enter Tryz.func27, Tryz.ntmps27
  go_wp2_with fail
  go_loopw [3, 4, 5] (fun v y t wr => RowsAt w s v y t wr) (fun _ _ t _ => (s.size - RowKit.intOf t).toNat)
  case atStart => exact ⟨0, [], ⟨#[]⟩, by omega, rfl, rfl, World.ownsRow_nil _ _ _ _, rfl, Below.refl _ _⟩
  case round =>
    obtain ⟨i, o, x, hi, rfl, rfl, ho, hsp, hb⟩ := hrel
    obtain ⟨sa, sc, hv⟩ := row_any ho
    subst hv
    generalize hon : o.length = on at *
    have HOn := hidLL hon
    clear hon
    have HO := hidLL ho
    have HS := hidLL hsp
    have HB := hidLL hb
    have hbd := rows_bd hi hsp
    rw [HOn.out] at hbd
    have hsz := hb.size
    clear ho hsp hb
    by_cases hin : i < s.size
    · have hiz : (i : Int) < s.size := by omega
      by_cases hc : s[i] = 10
      · have hcz : (((s[i].toNat : Nat) : Int) == 10) = true := by rw [hc]; rfl
        have HSn : Hid (spl ((bl s).take (i + 1)) = (o ++ [x]).map bl ++ [bl ⟨#[]⟩]) := by
          show _ = _
          rw [take_snoc s i hin, hc, spl_snoc10, HS.out]
          simp [bl]
        have HNW := hidLL (oneNews wr x)
        have HOC : Hid (∀ u ∈ [Value.string x], u.oneCell' = true) := by intro u hu; simp at hu; subst hu; rfl
        clear hc
        go_wp2_with (at_builtin; go_loud (refine wpList_append_own _ rfl (.tmp 16) (.tmp 18) 23 rfl w.heap.size 9 i0 iz 1 16 Tryz.underlying23 HI.out.1 HI.out.2.1 HI.out.2.2.1 HI.out.2.2.2.1 HI.out.2.2.2.2 (by decide) (.slice sa on sc) on (o.map Value.string) (by simp [Act.eval]) (HO.out.alloc _) ⟨wr.heap.size, 0, none⟩ 1 1 [.string x] (by simp [Act.eval]) rfl HNW.out HOC.out (by unfold maxLen; omega) (by omega) (by simp; omega) ?_))
        intro v' w' ho' hg _
        obtain ⟨ga, ca, hv'⟩ := row_any ho'
        subst hv'
        have HH := hidLL (And.intro ho' hg)
        have HV := hidLL (HO.out.lt)
        clear ho' hg
        go_wp2
        go_roundw
        case rel =>
          refine ⟨i + 1, o ++ [x], ⟨#[]⟩, by omega, by go_num, rfl, ?_, HSn.out, ?_⟩
          · have := HH.out.1
            rw [List.length_append, List.length_singleton, HOn.out, List.map_append]
            exact this
          · exact (HB.out.alloc HB.out.size _).grown HH.out.2 (by simp; omega) (fun k hk => (HV.out k hk).1)
        case measure => simp [RowKit.intOf]; omega
      · have hcz : (((s[i].toNat : Nat) : Int) == 10) = false := by
          rw [beq_eq_false_iff_ne]
          intro e
          exact hc (UInt8.toNat_inj.1 (by show s[i].toNat = 10; omega))
        have HSn : Hid (spl ((bl s).take (i + 1)) = o.map bl ++ [bl (x ++ s.extract i (i + 1))]) := by
          show _ = _
          rw [take_snoc s i hin, spl_snoc hc _ _ _ HS.out, bl_app, bl_one s i hin]
        have hiz2 : (i : Int) + 1 ≤ s.size := by omega
        have hiz3 : (0 : Int) ≤ (i : Int) + 1 := by omega
        have hiz4 : (i : Int) ≤ (i : Int) + 1 := by omega
        have hiz5 : ((i : Int) + 1).toNat = i + 1 := by omega
        have hiz6 : (x.size : Int) + 1 ≤ 9223372036854775807 := by omega
        clear hc
        go_wp2
        go_roundw
        case rel => exact ⟨i + 1, o, _, by omega, by go_num, rfl, by rw [HOn.out]; exact HO.out, HSn.out, HB.out⟩
        case measure => simp [RowKit.intOf]; omega
    · obtain rfl : i = s.size := by omega
      have hall : (bl s).take s.size = bl s := List.take_of_length_le (by rw [size_bl]; omega)
      have HSa : Hid (spl (bl s) = o.map bl ++ [bl x]) := by
        have := HS.out
        rw [hall] at this
        exact this
      have hlast := spl_last (bl s) _ _ HSa.out
      have hE := empty_is x
      by_cases hx : x.size = 0
      · rw [show decide (x.size = 0) = true by simpa using hx] at hE
        have hxl : bl x = [] := List.eq_nil_of_length_eq_zero (by rw [size_bl]; exact hx)
        have HRo : Hid (rowsB s = o) := by
          show _ = _
          unfold rowsB rowsL
          rw [HSa.out, List.getLast?_concat, if_pos (by rw [hxl]), List.dropLast_concat, List.map_map]
          conv => rhs; rw [← List.map_id o]
          exact List.map_congr_left fun y _ => ofL_bl y
        rcases hlast.1 hxl with h0 | ⟨m, hm⟩
        · have hs0 : s.size = 0 := by rw [← size_bl, h0]; rfl
          have h0e : decide ((0 : Int) < (s.size : Int)) = false := decide_eq_false (by omega)
          clear hlast hxl hx h0 hall
          go_wp2
          go_ret
          exact ⟨⟨_, rfl, by rw [HRo.out, HOn.out]; exact HO.out⟩, HB.out⟩
        · have hs0 : 0 < s.size := by rw [← size_bl, hm]; simp
          have h0e : decide ((0 : Int) < (s.size : Int)) = true := decide_eq_true (by omega)
          have hsub : (s.size : Int) - 1 = ((s.size - 1 : Nat) : Int) := by omega
          have hlt : s.size - 1 < s.size := by omega
          have hltz : ((s.size - 1 : Nat) : Int) < (s.size : Int) := by omega
          have hlast10 : s[s.size - 1] = 10 := by
            have h1 := bl_get s (s.size - 1) hlt
            have h2 : m.length = s.size - 1 := by rw [← size_bl, hm]; simp
            have h3 : (bl s)[m.length]? = some 10 := by rw [hm]; simp
            rw [h2] at h3
            exact Option.some.inj (h1.symm.trans h3)
          have hcz : (((s[s.size - 1].toNat : Nat) : Int) != 10) = false := by rw [hlast10]; rfl
          clear hlast hxl hx hm hall hlast10
          go_wp2
          go_ret
          exact ⟨⟨_, rfl, by rw [HRo.out, HOn.out]; exact HO.out⟩, HB.out⟩
      · rw [show decide (x.size = 0) = false by simpa using hx] at hE
        have hxl : bl x ≠ [] := fun h => hx (by rw [← size_bl, h]; rfl)
        have HRo : Hid (rowsB s = o ++ [x]) := by
          show _ = _
          unfold rowsB rowsL
          rw [HSa.out, List.getLast?_concat, if_neg (by simpa using hxl), List.map_append, List.map_map]
          have : o.map (ofL ∘ bl) = o := by
            conv => rhs; rw [← List.map_id o]
            exact List.map_congr_left fun y _ => ofL_bl y
          rw [this]
          simp [ofL_bl]
        have HNW := hidLL (oneNews wr x)
        have HOC : Hid (∀ u ∈ [Value.string x], u.oneCell' = true) := by intro u hu; simp at hu; subst hu; rfl
        clear hlast hxl hx hall
        go_wp2_with (at_builtin; go_loud (refine wpList_append_own _ rfl (.tmp 42) (.tmp 44) 23 rfl w.heap.size 9 i0 iz 1 16 Tryz.underlying23 HI.out.1 HI.out.2.1 HI.out.2.2.1 HI.out.2.2.2.1 HI.out.2.2.2.2 (by decide) (.slice sa on sc) on (o.map Value.string) (by simp [Act.eval]) (HO.out.alloc _) ⟨wr.heap.size, 0, none⟩ 1 1 [.string x] (by simp [Act.eval]) rfl HNW.out HOC.out (by unfold maxLen; omega) (by omega) (by simp; omega) ?_))
        intro v' w' ho' hg _
        obtain ⟨ga, ca, hv'⟩ := row_any ho'
        subst hv'
        have HH := hidLL (And.intro ho' hg)
        have HV := hidLL (HO.out.lt)
        clear ho' hg
        go_wp2
        go_ret
        refine ⟨⟨_, rfl, ?_⟩, (HB.out.alloc HB.out.size _).grown HH.out.2 (by simp; omega) (fun k hk => (HV.out k hk).1)⟩
        rw [HRo.out, List.length_append, List.length_singleton, HOn.out, List.map_append]
        exact HH.out.1
end Go.Proofs.YtgfaeeacndpniaaGreatDoor
