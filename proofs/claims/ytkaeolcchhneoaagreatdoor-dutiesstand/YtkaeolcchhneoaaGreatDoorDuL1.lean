/-
  The laws of duties: what they are handed is made the program's; near.
-/
import Derived.Test.YtkaeolcchhneoaaGreatDoorDuP7
import Derived.Deep.RegionHeld3
namespace Go.Proofs.YtkaeolcchhneoaaGreatDoor
open Go.RowKit Go.Sort Go.Lib

set_option maxHeartbeats 2000000 in
theorem duty_p (d : Du) (w : World) : Calls Tryz.prog 20 #[.agg (duE.f d).toArray] w fun e w' => e = .returned (.agg (duE.f d).toArray) ∧ Below w.heap.size w w' := by
  obtain ⟨dn, dw, df, dt, de, dN, dU, dR⟩ := d
  show Calls Tryz.prog 20 #[.agg #[.string dn, .string dw, .int .i64 df, .int .i64 dt, .string de, .int .i64 dN, .int .i64 dU, .int .i64 dR]] w _
  go_enter Tryz.func20, Tryz.ntmps20
  go_wp2
  refine bodyPost_ret (v := .agg #[.string dn, .string dw, .int .i64 df, .int .i64 dt, .string de, .int .i64 dN, .int .i64 dU, .int .i64 dR]) (by simp [results, Tryz.results20, go_sem]) rfl ⟨rfl, ?_⟩
  exact (bel1 w _).trans ((bel1 _ _).mono (by simp))
set_option maxHeartbeats 2000000 in
theorem dutiesOf_p {B n c : Nat} {a : Option Addr} {l : List Du} {w : World} (h : RdG duE w B (.slice a n c) l) (hB : B ≤ w.heap.size) (hn2 : n ≤ 202) :
    Calls Tryz.prog 8 #[.slice a n c] w fun e w' => (∃ a' n' c', e = .returned (.slice a' n' c') ∧ RdG duE w' w'.heap.size (.slice a' n' c') l) ∧ Below w.heap.size w w' := by
  obtain ⟨hn, _⟩ := h.len
  have HR := hidIt (And.intro h hn)
  have HD := hidIt (fun d w => duty_p d w)
  clear h hn
  go_enter Tryz.func8, Tryz.ntmps8
  go_wp2_with fail
  go_loopw [3, 4] (fun t3 t4 wr => ∃ i : Nat, i ≤ n ∧ t4 = .int .i64 i ∧ RowG duE 57 wr w.heap.size t3 (l.take i) ∧ Below w.heap.size w wr) (fun _ t4 _ => n - (RowKit.intOf t4).toNat)
  case atStart => exact ⟨0, by omega, rfl, RowG.nil _ _, Below.refl _ _⟩
  case round =>
    obtain ⟨i, hi, rfl, hrow, hb⟩ := hrel
    obtain ⟨sa, sn, sc, rfl, hsn⟩ := hrow.any3
    have HRow := hidIt hrow
    have HB := hidIt hb
    have HSn := hidIt hsn
    have hsz := hb.size
    clear hrow hb hsn
    by_cases hlt : i < n
    · have c0 : decide ((i : Int) < n) = true := by simp; omega
      obtain ⟨d, he, _⟩ := get_in (l := l) (i := i) (by have := HR.out.2; omega)
      obtain ⟨ga, o, rfl, hg, hrg⟩ := HR.out.1.at he
      obtain ⟨e0, e1, e2, e3, e4, e5, e6, e7⟩ := du_cells (range_bel hrg (HB.out.mono hB) hg)
      have hk : duE.k = 8 := rfl
      rw [hk] at e0 e1 e2 e3 e4 e5 e6 e7
      have hiz : (i : Int) < n := by omega
      have HT : Hid (l.take (i + 1) = l.take i ++ [d]) := by
        show _ = _
        rw [List.take_add_one, he]; rfl
      have hl2 : (l.take i).length ≤ 202 := by rw [List.length_take]; omega
      obtain ⟨dn, dw, df, dt, de, dN, dU, dR⟩ := d
      have HDd : Hid (∀ W, Calls Tryz.prog 20 #[.agg #[.string dn, .string dw, .int .i64 df, .int .i64 dt, .string de, .int .i64 dN, .int .i64 dU, .int .i64 dR]] W fun e w' => e = .returned (.agg #[.string dn, .string dw, .int .i64 df, .int .i64 dt, .string de, .int .i64 dN, .int .i64 dU, .int .i64 dR]) ∧ Below W.heap.size W w') := fun W => HD.out ⟨dn, dw, df, dt, de, dN, dU, dR⟩ W
      simp only at e0 e1 e2 e3 e4 e5 e6 e7
      clear hrg he hg hk
      go_wp2_with fail
      refine (HDd.out _).mono ?_
      rintro e w2 ⟨rfl, hb2⟩
      have HB2 := hidIt hb2
      have hsz2 := hb2.size
      clear hb2
      go_wp2_with (at_builtin; refine wpList_push_g (E := duE) Tryz.infoDu (by decide) Tryz.underlying39 rfl (.tmp 11) (.tmp 17) rfl w.heap.size (.slice sa sn sc) (l.take i) ⟨dn, dw, df, dt, de, dN, dU, dR⟩ _ rfl rfl (HRow.out.below HB2.out) (by first | (simp [Act.eval]; done) | simp [Act.eval, Act.put]) (by omega) (by omega) ?_; intro v' w5 hr5 hb5 _ _; obtain ⟨pa5, pn5, pc5, rfl, hp5⟩ := hr5.any3; have HR5 := hidIt hr5; have HP5 := hidIt hp5; have HB5 := hidIt ((HB.out.trans (HB2.out.mono HB.out.size)).trans (hb5.mono (Nat.le_refl _))); clear hr5 hb5 hp5)
      refine ⟨⟨i + 1, by omega, by go_num, ?_, HB5.out⟩, by simp [RowKit.intOf]; omega⟩
      rw [HT.out]
      exact HR5.out
    · have c0 : decide ((i : Int) < n) = false := by simp; omega
      have HT : Hid (l.take i = l) := List.take_of_length_le (by have := HR.out.2; omega)
      go_wp2
      go_ret
      refine ⟨⟨sa, sn, sc, rfl, ?_⟩, HB.out⟩
      have := HRow.out.rd
      rwa [HT.out] at this
set_option maxHeartbeats 2000000 in
theorem eventsOf_p {B n c : Nat} {a : Option Addr} {l : List Ev} {w : World} (h : RdG evE w B (.slice a n c) l) (hB : B ≤ w.heap.size) (hn2 : n ≤ 402) :
    Calls Tryz.prog 9 #[.slice a n c] w fun e w' => (∃ a' n' c', e = .returned (.slice a' n' c') ∧ RdG evE w' w'.heap.size (.slice a' n' c') l) ∧ Below w.heap.size w w' := by
  obtain ⟨hn, _⟩ := h.len
  have HR := hidIt (And.intro h hn)
  clear h hn
  go_enter Tryz.func9, Tryz.ntmps9
  go_wp2_with fail
  go_loopw [3, 4] (fun t3 t4 wr => ∃ i : Nat, i ≤ n ∧ t4 = .int .i64 i ∧ RowG evE 75 wr w.heap.size t3 (l.take i) ∧ Below w.heap.size w wr) (fun _ t4 _ => n - (RowKit.intOf t4).toNat)
  case atStart => exact ⟨0, by omega, rfl, RowG.nil _ _, Below.refl _ _⟩
  case round =>
    obtain ⟨i, hi, rfl, hrow, hb⟩ := hrel
    obtain ⟨sa, sn, sc, rfl, hsn⟩ := hrow.any3
    have HRow := hidIt hrow
    have HB := hidIt hb
    have HSn := hidIt hsn
    have hsz := hb.size
    clear hrow hb hsn
    by_cases hlt : i < n
    · have c0 : decide ((i : Int) < n) = true := by simp; omega
      obtain ⟨d, he, _⟩ := get_in (l := l) (i := i) (by have := HR.out.2; omega)
      obtain ⟨ga, o, rfl, hg, hrg⟩ := HR.out.1.at he
      obtain ⟨e0, e1, e2, e3⟩ := ev_cells (range_bel hrg (HB.out.mono hB) hg)
      have hk : evE.k = 4 := rfl
      rw [hk] at e0 e1 e2 e3
      have hiz : (i : Int) < n := by omega
      have HT : Hid (l.take (i + 1) = l.take i ++ [d]) := by
        show _ = _
        rw [List.take_add_one, he]; rfl
      have hl2 : (l.take i).length ≤ 402 := by rw [List.length_take]; omega
      obtain ⟨ed, en, ew, ev⟩ := d
      simp only at e0 e1 e2 e3
      have hga0 : ga < w.heap.size := by omega
      clear hrg he hg hk
      have hga : ga < w.heap.size := hga0
      have HRd := hidIt (HRow.out.below (Below.refl _ wr).drew)
      go_wp2_with fail
      go_region_held3 (fun W => W.cell? ⟨ga, o + i * 4, none⟩ = some (.int .i64 ed) ∧ W.cell? ⟨ga, o + i * 4 + 1, none⟩ = some (.string en) ∧ W.cell? ⟨ga, o + i * 4 + 2, none⟩ = some (.string ew) ∧ W.cell? ⟨ga, o + i * 4 + 3, none⟩ = some (.bool ev)) (first | go_keep | exact ⟨z0, z1, z2, z3⟩) ((refine step_push_g (E := evE) Tryz.infoEv (by decide) Tryz.underlying41 (by rfl) (.tmp 11) (.tmp 33) (by rfl) w.heap.size (.slice sa sn sc) (l.take i) ⟨ed, en, ew, ev⟩ _ (by rfl) (by simp [Act.eval]) HRd.out (by simp [Act.eval]) (by first | omega | (simp; omega)) (by omega) ?_; intro v' w5 hr5 hb5 _ _; obtain ⟨pa5, pn5, pc5, rfl, hp5⟩ := hr5.any3; have HR5 := hidIt hr5; have HP5 := hidIt hp5; have HB5 := hidIt (HB.out.drew.trans (hb5.mono (Nat.le_refl _))); have z0 := (hb5.cell (p := ⟨ga, o + i * 4, none⟩) hga).trans e0; have z1 := (hb5.cell (p := ⟨ga, o + i * 4 + 1, none⟩) hga).trans e1; have z2 := (hb5.cell (p := ⟨ga, o + i * 4 + 2, none⟩) hga).trans e2; have z3 := (hb5.cell (p := ⟨ga, o + i * 4 + 3, none⟩) hga).trans e3; clear hr5 hb5 hp5))
      all_goals
        go_wp2
        refine ⟨⟨i + 1, by omega, by go_num, ?_, HB5.out⟩, by simp [RowKit.intOf]; omega⟩
        rw [HT.out]
        exact HR5.out
    · have c0 : decide ((i : Int) < n) = false := by simp; omega
      have HT : Hid (l.take i = l) := List.take_of_length_le (by have := HR.out.2; omega)
      go_wp2
      go_ret
      refine ⟨⟨sa, sn, sc, rfl, ?_⟩, HB.out⟩
      have := HRow.out.rd
      rwa [HT.out] at this
end Go.Proofs.YtkaeolcchhneoaaGreatDoor
