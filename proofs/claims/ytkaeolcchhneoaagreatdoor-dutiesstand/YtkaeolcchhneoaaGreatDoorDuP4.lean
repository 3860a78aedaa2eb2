/-
  Duties, the program: what was done up to a day.
-/
import Derived.Test.YtkaeolcchhneoaaGreatDoorDuP3
namespace Go.Proofs.YtkaeolcchhneoaaGreatDoor
open Go.RowKit

theorem Tryz.infoEv : ∃ i z, Tryz.prog.info? 75 = some i ∧ i.zero = some z ∧ i.size = 4 ∧ i.bytes = 48 ∧ z.cells.size = 4 := by
  have h : (Tryz.prog.info? 75).map (fun i => (i.zero, i.size, i.bytes)) = some (some (.agg #[.int .i64 0, .string ⟨#[]⟩, .string ⟨#[]⟩, .bool false]), 4, 48) := by kernel_rfl
  obtain ⟨i, h1, h2⟩ := Option.map_eq_some_iff.1 h
  simp only [Prod.mk.injEq] at h2
  exact ⟨i, _, h1, h2.1, h2.2.1, h2.2.2, rfl⟩
/-- pastOf under way: the result's box and its own. -/
structure PstS (w W : World) (on : Int) (sv : Value) : Prop where
  r : W.rangeAt w.heap.size 0 [.slice none 0 0, .int .i64 0]
  fr : ∀ k, W.frozen? ⟨w.heap.size, k, none⟩ = false
  s : W.rangeAt (w.heap.size + 1) 0 [sv, .int .i64 on]
  fs : ∀ k, W.frozen? ⟨w.heap.size + 1, k, none⟩ = false
  bel : Below w.heap.size w W
  lt : w.heap.size + 2 ≤ W.heap.size
theorem frozen_new (W : World) (cs : Array Value) (T k : Nat) : (W.alloc (.cells cs T)).frozen? ⟨W.heap.size, k, none⟩ = false := frozen_of_row _ W.heap.size k cs T (Go.Deep.blk_alloc_new W _)
theorem PstS.mk' (w : World) (on : Int) (T : Nat) : PstS w ((w.alloc (.cells #[.slice none 0 0, .int .i64 0] T)).alloc (.cells #[.slice none 0 0, .int .i64 on] T)) on (.slice none 0 0) := by
  have hs : (w.alloc (.cells #[.slice none 0 0, .int .i64 0] T)).heap.size = w.heap.size + 1 := by simp
  refine ⟨range_bel (alloc_range w [.slice none 0 0, .int .i64 0] T) (bel1 _ _) (by rw [hs]; omega), fun k => ?_, ?_, fun k => ?_, (bel1 w _).trans ((bel1 _ _).mono (by rw [hs]; omega)), by simp⟩
  · rw [(bel1 _ _).frozen (p := ⟨w.heap.size, k, none⟩) (by show w.heap.size < _; rw [hs]; omega)]
    exact frozen_new ..
  · have := alloc_range (w.alloc (.cells #[.slice none 0 0, .int .i64 0] T)) [.slice none 0 0, .int .i64 on] T
    rwa [hs] at this
  · have := frozen_new (w.alloc (.cells #[.slice none 0 0, .int .i64 0] T)) #[.slice none 0 0, .int .i64 on] T k
    rwa [hs] at this
theorem PstS.on {w W W' : World} {on : Int} {sv : Value} (h : PstS w W on sv) (hb : Below (w.heap.size + 2) W W') : PstS w W' on sv :=
  ⟨range_bel h.r hb (by omega), fun k => (hb.frozen (p := ⟨w.heap.size, k, none⟩) (show w.heap.size < _ by omega)).trans (h.fr k), range_bel h.s hb (by omega), fun k => (hb.frozen (p := ⟨w.heap.size + 1, k, none⟩) (show w.heap.size + 1 < _ by omega)).trans (h.fs k), h.bel.trans (hb.mono (by omega)), Nat.le_trans h.lt hb.size⟩
theorem PstS.set {w W : World} {on : Int} {sv : Value} (h : PstS w W on sv) (v : Value) : PstS w (W.setCell ⟨w.heap.size + 1, 0, none⟩ v) on v := by
  have o : ∀ x : Addr, x ≠ ⟨w.heap.size + 1, 0, none⟩ → (W.setCell ⟨w.heap.size + 1, 0, none⟩ v).cell? x = W.cell? x := fun x hx => World.cell?_setCell_other _ _ _ _ (fun e => hx e.symm)
  refine ⟨fun j u hu => (o _ (by intro e; injection e with e1 e2; omega)).trans (h.r j u hu), fun k => by simpa using h.fr k, fun j u hu => ?_, fun k => by simpa using h.fs k, h.bel.setCell (Nat.le_succ _) _, by simpa using h.lt⟩
  match j, hu with
  | 0, hu =>
    obtain rfl : v = u := by simpa using hu
    exact World.cell?_setCell_same _ _ _ (h.s 0 _ rfl)
  | 1, hu =>
    obtain rfl : Value.int .i64 on = u := by simpa using hu
    exact (o _ (by intro e; injection e; omega)).trans (h.s 1 _ rfl)
theorem upE_take {ev : List Ev} {on : Int} {i : Nat} {e : Ev} (h : ev[i]? = some e) : upE (ev.take (i + 1)) on = if e.day ≤ on then upE (ev.take i) on ++ [e] else upE (ev.take i) on := by
  unfold upE
  rw [List.take_add_one, h, List.filter_append]
  by_cases hd : e.day ≤ on
  · rw [if_pos hd]; simp [hd]
  · rw [if_neg hd]; simp [hd]
theorem upE_len (ev : List Ev) (on : Int) : (upE ev on).length ≤ ev.length := List.length_filter_le ..
set_option maxHeartbeats 4000000 in
theorem pastOf_p {B n c : Nat} {a : Option Addr} {ev : List Ev} {w : World} (on : Int) (h : RdG evE w B (.slice a n c) ev) (hB : B ≤ w.heap.size) (hn4 : n ≤ 400) :
    Calls Tryz.prog 19 #[.slice a n c, .int .i64 on] w fun e w' => (∃ a' n' c', e = .returned (.agg #[.slice a' n' c', .int .i64 on]) ∧ RdG evE w' w'.heap.size (.slice a' n' c') (upE ev on)) ∧ Below w.heap.size w w' := by
  obtain ⟨hn, _⟩ := h.len
  have HR := hidIt (And.intro h hn)
  have HX := hidIt (PstS.mk' w on 72)
  clear h hn
  go_enter Tryz.func19, Tryz.ntmps19
  go_wp2_with fail
  go_loopw [12] (fun t wr => ∃ (i : Nat) (sv : Value), i ≤ n ∧ t = .int .i64 i ∧ PstS w wr on sv ∧ RowG evE 75 wr (w.heap.size + 2) sv (upE (ev.take i) on)) (fun t _ => n - (RowKit.intOf t).toNat)
  case atStart => exact ⟨0, _, by omega, rfl, HX.out, RowG.nil _ _⟩
  case round =>
    obtain ⟨i, sv, hi, rfl, hX, hrow⟩ := hrel
    obtain ⟨sa, sn, sc, rfl, hsn⟩ := hrow.any3
    have HSn := hidIt hsn
    clear hsn
    have HX1 := hidIt hX
    have HRow := hidIt hrow
    have hlt1 := hX.lt
    have hlen := upE_len (ev.take i) on
    have hlen2 : (upE (ev.take i) on).length ≤ 400 := by rw [List.length_take] at hlen; omega
    clear hX hrow HX hlen
    by_cases hlt : i < n
    · have c0 : decide ((i : Int) < n) = true := by simp; omega
      obtain ⟨e, he, _⟩ := get_in (l := ev) (i := i) (by have := HR.out.2; omega)
      obtain ⟨g, o, rfl, hg, hrg⟩ := HR.out.1.at he
      obtain ⟨e0, e1, e2, e3⟩ := ev_cells (range_bel hrg (HX1.out.bel.mono hB) hg)
      have hk : evE.k = 4 := rfl
      rw [hk] at e0 e1 e2 e3
      have HT := hidIt (upE_take (on := on) he)
      have hiz : (i : Int) < n := by omega
      obtain ⟨ed, en, ew, ev'⟩ := e
      simp only at e0 e1 e2 e3
      have hq : ∀ ob : Obj, PstS w (wr.alloc ob) on (.slice sa sn sc) := fun ob => HX1.out.on ((bel1 wr ob).mono (by omega))
      have q0 := fun ob => (hq ob).s 0 _ rfl
      have qf := fun ob => (hq ob).fs 0
      have q0 : ∀ ob : Obj, (wr.alloc ob).cell? ⟨w.heap.size + 1, 0, none⟩ = some (.slice sa sn sc) := q0
      clear hrg he hg hk
      by_cases hd : ed ≤ on
      · go_wp2_with (at_builtin; refine wpList_push_g (E := evE) Tryz.infoEv (by decide) Tryz.underlying41 rfl (.tmp 21) (.tmp 23) rfl (w.heap.size + 2) (.slice sa sn sc) (upE (ev.take i) on) ⟨ed, en, ew, ev'⟩ _ rfl rfl (HRow.out.below (bel1 _ _)) (by first | (simp [Act.eval]; done) | simp [Act.eval, Act.put]) (by simp; omega) (by omega) ?_; intro v' w5 hr5 hb5 _ _; obtain ⟨pa5, pn5, pc5, rfl, hp5⟩ := hr5.any3; have HR5 := hidIt hr5; have HX5 := hidIt ((hq (.cells #[.int .i64 ed, .string en, .string ew, .bool ev'] 75)).on (hb5.mono (Nat.le_refl _))); have HP5 := hidIt hp5; clear hr5 hb5 hp5; have z0 : w5.cell? ⟨w.heap.size + 1, 0, none⟩ = some (.slice sa sn sc) := HX5.out.s 0 _ rfl; have zf := HX5.out.fs 0)
        refine ⟨⟨i + 1, .slice pa5 pn5 pc5, by omega, by go_num, HX5.out.set _, ?_⟩, by simp [RowKit.intOf]; omega⟩
        rw [HT.out, if_pos hd]
        refine HR5.out.on fun g' _ hb' _ => Below.heap_setCell _ _ _ _ ?_
        show g' ≠ w.heap.size + 1
        omega
      · go_wp2
        refine ⟨⟨i + 1, .slice sa sn sc, by omega, by go_num, hq _, ?_⟩, by simp [RowKit.intOf]; omega⟩
        rw [HT.out, if_neg hd]
        exact HRow.out.below (bel1 _ _)
    · have c0 : decide ((i : Int) < n) = false := by simp; omega
      have HT : Hid (ev.take i = ev) := List.take_of_length_le (by have := HR.out.2; omega)
      have s0 : wr.cell? ⟨w.heap.size + 1, 0, none⟩ = some (.slice sa sn sc) := HX1.out.s 0 _ rfl
      have s1 : wr.cell? ⟨w.heap.size + 1, 1, none⟩ = some (.int .i64 on) := HX1.out.s 1 _ rfl
      have r0 : wr.cell? ⟨w.heap.size, 0, none⟩ = some (.slice none 0 0) := HX1.out.r 0 _ rfl
      have r1 : wr.cell? ⟨w.heap.size, 1, none⟩ = some (.int .i64 0) := HX1.out.r 1 _ rfl
      have fr := HX1.out.fr
      go_wp2
      refine bodyPost_ret (v := .agg #[.slice sa sn sc, .int .i64 on]) (by simp [results, Tryz.results19, go_sem, r0, r1]) rfl ⟨⟨sa, sn, sc, rfl, ?_⟩, ?_⟩
      · have hrd := HRow.out.rd
        rw [HT.out] at hrd
        have hrow := HRow.out
        rw [HT.out] at hrow
        have h2 : RowG evE 75 ((wr.setCell ⟨w.heap.size, 0, none⟩ (.slice sa sn sc)).setCell ⟨w.heap.size, 1, none⟩ (.int .i64 on)) (w.heap.size + 2) (.slice sa sn sc) (upE ev on) := hrow.on fun g' _ hb' _ => by
          rw [Below.heap_setCell _ _ _ _ (by show g' ≠ w.heap.size; omega), Below.heap_setCell _ _ _ _ (by show g' ≠ w.heap.size; omega)]
        exact h2.rd
      · exact (HX1.out.bel.setCell (Nat.le_refl _) _).setCell (Nat.le_refl _) _
end Go.Proofs.YtkaeolcchhneoaaGreatDoor
