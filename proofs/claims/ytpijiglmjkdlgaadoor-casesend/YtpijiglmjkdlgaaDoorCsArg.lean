/-
  A plan and names that a law is handed, out of their reading.
-/
import Derived.Test.YtpijiglmjkdlgaaDoorArgBase
import Derived.Test.YtpijiglmjkdlgaaDoorLA
namespace Go.Proofs.YtpijiglmjkdlgaaDoor
open Go.ChangeShapes Go.WideShapes Go.ChangeAt Go.WideMaps Go.WideElems Go.RowKit

theorem Tryd.c_st : Tryd.prog.cellsOf 9 = 1 := by kernel_rfl
theorem Tryd.b_st : Tryd.prog.bytesOf 9 = 16 := by kernel_rfl
theorem Tryd.c_strs : Tryd.prog.cellsOf 23 = 1 := by kernel_rfl
theorem Tryd.c_tm : Tryd.prog.cellsOf 40 = 3 := by kernel_rfl
theorem Tryd.c_mv : Tryd.prog.cellsOf 42 = 8 := by kernel_rfl
theorem Tryd.c_mvs : Tryd.prog.cellsOf 36 = 1 := by kernel_rfl
theorem Tryd.c_plan : Tryd.prog.cellsOf 38 = 3 := by kernel_rfl
theorem Tryd.b_mv : Tryd.prog.bytesOf 42 = 96 := by kernel_rfl
section
variable {H : Type} {enc : TypeId × Value → H} {W : World}
set_option maxRecDepth 100000 in
/-- Names. -/
theorem names_read {fuel : Nat} {v : Value} {x : DataW H × List MemPlace} (h : DataW.trod enc Tryd.prog W 0 (fun _ => true) true fuel 23 [v] = some x) (hw : ∀ y ∈ x.1.weights Tryd.prog 23, y ≤ reachBytes) : NilV v ∧ ∃ l, RdS strE W (· < W.heap.size) v l ∧ ∀ s, s ∈ l → s.size ≤ maxLen := by
  obtain ⟨hn, a, c, l, e, _, hb, hx⟩ := slice_read (α := ByteArray) (by decide) Tryd.underlying23 Tryd.c_st h hw (fun r cs => cs = strE.f r ∧ r.size ≤ maxLen) (fun n cs y hy _ => by
    obtain ⟨m0, e0, _, hz⟩ := DataW.trod_string Tryd.underlying9 hy
    exact ⟨m0, e0, hz⟩)
  rw [Tryd.b_st] at hb
  unfold reachBytes at hb
  refine ⟨hn, l, ⟨a, c, e, by omega, fun j r hr => ?_⟩, fun s hs => ?_⟩
  · obtain ⟨g, o, cs, e1, hg, ⟨e2, _⟩, hc⟩ := hx j r hr
    subst e2
    exact ⟨g, o, e1, hg, fun i u hu => (hc i (List.getElem?_eq_some_iff.1 hu).1).trans hu⟩
  · obtain ⟨j, hj⟩ := List.getElem?_of_mem hs
    obtain ⟨_, _, _, _, _, ⟨_, e3⟩, _⟩ := hx j s hj
    exact e3
set_option maxRecDepth 100000 in
/-- Moves. -/
theorem moves_read {fuel : Nat} {v : Value} {x : DataW H × List MemPlace} (h : DataW.trod enc Tryd.prog W 0 (fun _ => true) true fuel 36 [v] = some x) (hw : ∀ y ∈ x.1.weights Tryd.prog 36, y ≤ reachBytes) : NilV v ∧ ∃ l, RdS mvE W (· < W.heap.size) v l ∧ ∀ m, m ∈ l → m.fr.size ≤ maxLen ∧ m.tt.size ≤ maxLen := by
  obtain ⟨hn, a, c, l, e, _, hb, hx⟩ := slice_read (α := Mv) (by decide) Tryd.underlying36 Tryd.c_mv h hw (fun r cs => cs = mvE.f r ∧ r.fr.size ≤ maxLen ∧ r.tt.size ≤ maxLen) (fun n cs y hy _ => by
    obtain ⟨xs, m, _, hy1, hl, hlen, hf⟩ := DataW.trod_struct Tryd.underlying42 hy
    rw [Tryd.c_mv] at hl
    have hlen : xs.length = 6 := hlen
    match cs, hl, xs, hlen with
    | [u0, u1, u2, u3, u4, u5, u6, u7], _, [y0, y1, y2, y3, y4, y5], _ =>
      have f0 := hf 0 _ rfl
      have f1 := hf 1 _ rfl
      have f2 := hf 2 _ rfl
      have f3 := hf 3 _ rfl
      have f4 := hf 4 _ rfl
      have f5 := hf 5 _ rfl
      change DataW.trod enc Tryd.prog W 0 (fun _ => true) true m 9 ((List.drop 0 [u0, u1, u2, u3, u4, u5, u6, u7]).take (Tryd.prog.cellsOf 9)) = some y0 at f0
      change DataW.trod enc Tryd.prog W 0 (fun _ => true) true m 9 ((List.drop 1 [u0, u1, u2, u3, u4, u5, u6, u7]).take (Tryd.prog.cellsOf 9)) = some y1 at f1
      change DataW.trod enc Tryd.prog W 0 (fun _ => true) true m 9 ((List.drop 2 [u0, u1, u2, u3, u4, u5, u6, u7]).take (Tryd.prog.cellsOf 9)) = some y2 at f2
      change DataW.trod enc Tryd.prog W 0 (fun _ => true) true m 9 ((List.drop 3 [u0, u1, u2, u3, u4, u5, u6, u7]).take (Tryd.prog.cellsOf 9)) = some y3 at f3
      change DataW.trod enc Tryd.prog W 0 (fun _ => true) true m 40 ((List.drop 4 [u0, u1, u2, u3, u4, u5, u6, u7]).take (Tryd.prog.cellsOf 40)) = some y4 at f4
      change DataW.trod enc Tryd.prog W 0 (fun _ => true) true m 3 ((List.drop 7 [u0, u1, u2, u3, u4, u5, u6, u7]).take (Tryd.prog.cellsOf 3)) = some y5 at f5
      rw [Tryd.c_st] at f0 f1 f2 f3
      rw [Tryd.c_tm] at f4
      rw [Tryd.c_int] at f5
      obtain ⟨m0, e0, _⟩ := DataW.trod_string Tryd.underlying9 f0
      obtain ⟨m1, e1, _, hz1⟩ := DataW.trod_string Tryd.underlying9 f1
      obtain ⟨m2, e2, _, hz2⟩ := DataW.trod_string Tryd.underlying9 f2
      obtain ⟨m3, e3, _⟩ := DataW.trod_string Tryd.underlying9 f3
      obtain ⟨m7, e7, _⟩ := DataW.trod_int Tryd.underlying3 f5
      have e0 : [u0] = [Value.string m0] := e0
      have e1 : [u1] = [Value.string m1] := e1
      have e2 : [u2] = [Value.string m2] := e2
      have e3 : [u3] = [Value.string m3] := e3
      have e7 : [u7] = [Value.int .i64 m7] := e7
      injection e0 with e0
      injection e1 with e1
      injection e2 with e2
      injection e3 with e3
      injection e7 with e7
      change DataW.trod enc Tryd.prog W 0 (fun _ => true) true m 40 [u4, u5, u6] = some y4 at f4
      obtain ⟨zs, m', _, _, _, hlen2, hf2⟩ := DataW.trod_struct Tryd.underlying40 f4
      have hlen2 : zs.length = 3 := hlen2
      match zs, hlen2 with
      | [z0, z1, z2], _ =>
        have g0 := hf2 0 _ rfl
        have g1 := hf2 1 _ rfl
        have g2 := hf2 2 _ rfl
        change DataW.trod enc Tryd.prog W 0 (fun _ => true) true m' 3 ((List.drop 0 [u4, u5, u6]).take (Tryd.prog.cellsOf 3)) = some z0 at g0
        change DataW.trod enc Tryd.prog W 0 (fun _ => true) true m' 3 ((List.drop 1 [u4, u5, u6]).take (Tryd.prog.cellsOf 3)) = some z1 at g1
        change DataW.trod enc Tryd.prog W 0 (fun _ => true) true m' 3 ((List.drop 2 [u4, u5, u6]).take (Tryd.prog.cellsOf 3)) = some z2 at g2
        rw [Tryd.c_int] at g0 g1 g2
        obtain ⟨m4, e4, _⟩ := DataW.trod_int Tryd.underlying3 g0
        obtain ⟨m5, e5, _⟩ := DataW.trod_int Tryd.underlying3 g1
        obtain ⟨m6, e6, _⟩ := DataW.trod_int Tryd.underlying3 g2
        have e4 : [u4] = [Value.int .i64 m4] := e4
        have e5 : [u5] = [Value.int .i64 m5] := e5
        have e6 : [u6] = [Value.int .i64 m6] := e6
        injection e4 with e4
        injection e5 with e5
        injection e6 with e6
        exact ⟨⟨m0, m1, m2, m3, m4, m5, m6, m7⟩, by rw [e0, e1, e2, e3, e4, e5, e6, e7]; rfl, hz1, hz2⟩)
  rw [Tryd.b_mv] at hb
  unfold reachBytes at hb
  refine ⟨hn, l, ⟨a, c, e, by omega, fun j r hr => ?_⟩, fun s hs => ?_⟩
  · obtain ⟨g, o, cs, e1, hg, ⟨e2, _⟩, hc⟩ := hx j r hr
    subst e2
    exact ⟨g, o, e1, hg, fun i u hu => (hc i (List.getElem?_eq_some_iff.1 hu).1).trans hu⟩
  · obtain ⟨j, hj⟩ := List.getElem?_of_mem hs
    obtain ⟨_, _, _, _, _, ⟨_, e3⟩, _⟩ := hx j s hj
    exact e3
set_option maxRecDepth 100000 in
/-- The names that a law is handed. -/
theorem names_arg {base : Nat} {v : Value} {d : DataW H} {ps : List MemPlace}
    (hval : Value.okWide Tryd.prog W .any base 23 v) (hd : DataW.Trod enc Tryd.prog W 0 (fun _ => true) true 23 v d ps) (hw : ∀ z ∈ d.weights Tryd.prog 23, z ≤ reachBytes) :
    ∃ a n c l, v = .slice a n c ∧ RdS strE W (· < W.heap.size) (.slice a n c) l := by
  obtain ⟨fuel, hf⟩ := hd
  obtain ⟨a0, n0, c0, rfl⟩ : ∃ a n c, v = .slice a n c := okWide_slice Tryd.underlying23 hval
  obtain ⟨_, l, hl, _⟩ := names_read hf hw
  exact ⟨a0, n0, c0, l, rfl, hl⟩
set_option maxRecDepth 100000 in
/-- The plan that a law is handed. -/
theorem plan_arg {base : Nat} {v : Value} {d : DataW H} {ps : List MemPlace}
    (hval : Value.okWide Tryd.prog W .any base 22 v) (hd : DataW.Trod enc Tryd.prog W 0 (fun _ => true) true 22 v d ps) (hw : ∀ z ∈ d.weights Tryd.prog 22, z ≤ reachBytes) :
    v = .pointer none ∨ ∃ pb po p pf pm, v = .pointer (some ⟨pb, po, none⟩) ∧ PlAt W (· < W.heap.size) pb po p pf pm ∧ ∀ s, s ∈ p.names → s.size ≤ maxLen := by
  rcases Go.ChangeShapes.open_ptr Tryd.underlying22 (by rw [Tryd.c_plan]; decide) hval hd with ⟨h, _, _⟩ | ⟨pb, po, cs, y, fuel, rfl, rfl, _, hl, hcell, hy⟩
  · exact .inl h
  right
  rw [Tryd.c_plan] at hl hcell
  obtain ⟨xs, m, _, hy1, _, hlen, hf⟩ := DataW.trod_struct Tryd.underlying38 hy
  have hlen : xs.length = 3 := hlen
  match cs, hl, xs, hlen with
  | [u0, u1, u2], _, [y0, y1, y2], _ =>
    have f0 := hf 0 _ rfl
    have f1 := hf 1 _ rfl
    have f2 := hf 2 _ rfl
    change DataW.trod enc Tryd.prog W 0 (fun _ => true) true m 9 ((List.drop 0 [u0, u1, u2]).take (Tryd.prog.cellsOf 9)) = some y0 at f0
    change DataW.trod enc Tryd.prog W 0 (fun _ => true) true m 23 ((List.drop 1 [u0, u1, u2]).take (Tryd.prog.cellsOf 23)) = some y1 at f1
    change DataW.trod enc Tryd.prog W 0 (fun _ => true) true m 36 ((List.drop 2 [u0, u1, u2]).take (Tryd.prog.cellsOf 36)) = some y2 at f2
    rw [Tryd.c_st] at f0
    rw [Tryd.c_strs] at f1
    rw [Tryd.c_mvs] at f2
    obtain ⟨m0, e0, _, hz0⟩ := DataW.trod_string Tryd.underlying9 f0
    have e0 : [u0] = [Value.string m0] := e0
    injection e0 with e0
    have hww : ∀ z, z ∈ y0.1.weights Tryd.prog 9 ++ (y1.1.weights Tryd.prog 23 ++ (y2.1.weights Tryd.prog 36 ++ [])) → z ≤ reachBytes := fun z hz => hw z (by
      rw [hy1]
      simp only [DataW.weights, Tryd.underlying22, Tryd.underlying38]
      exact hz)
    obtain ⟨hn1, fl, hfl, hfz⟩ := names_read (v := u1) f1 (fun z hz => hww z (List.mem_append_right _ (List.mem_append_left _ hz)))
    obtain ⟨hn2, ml, hml, hmz⟩ := moves_read (v := u2) f2 (fun z hz => hww z (List.mem_append_right _ (List.mem_append_right _ (List.mem_append_left _ hz))))
    have c0 : W.cell? ⟨pb, po, none⟩ = some u0 := hcell 0 (by decide)
    have c1 : W.cell? ⟨pb, po + 1, none⟩ = some u1 := hcell 1 (by decide)
    have c2 : W.cell? ⟨pb, po + 2, none⟩ = some u2 := hcell 2 (by decide)
    rw [e0] at c0
    obtain ⟨fa, fn, fc, rfl, _⟩ := hfl.form
    obtain ⟨ma, mn, mc, rfl, _⟩ := hml.form
    refine ⟨pb, po, ⟨m0, fl, ml⟩, ⟨fa, fn, fc⟩, ⟨ma, mn, mc⟩, rfl, ⟨c0, c1, c2, hfl, hml, fun k hk => hk, fun hf => ?_⟩, fun s hs => ?_⟩
    · have hf : fa = none := hf
      subst hf
      exact hn1 fn fc rfl
    · rcases List.mem_cons.1 hs with rfl | hs
      · exact hz0
      · rcases List.mem_append.1 hs with hs | hs
        · exact hfz s hs
        · obtain ⟨x, hx, hs⟩ := List.mem_flatMap.1 hs
          rcases List.mem_cons.1 hs with rfl | hs
          · exact (hmz x hx).1
          · obtain rfl := List.mem_singleton.1 hs
            exact (hmz x hx).2
end
end Go.Proofs.YtpijiglmjkdlgaaDoor
