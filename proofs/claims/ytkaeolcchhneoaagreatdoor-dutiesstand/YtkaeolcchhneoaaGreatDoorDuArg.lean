/-
  Duties and events that a law is handed, out of their reading.
-/
import Derived.Test.YtkaeolcchhneoaaGreatDoorRows
import Derived.Test.YtkaeolcchhneoaaGreatDoorDuG1
import Derived.ProofKit
import Derived.LaidMore
import Derived.OpenShut
import Derived.Stop.Joined
import Derived.SevenTiedAt
import Derived.WideLaws
import Derived.ChangeSlices
import Derived.ChangeSame
import Derived.Carry
namespace Go.Proofs.YtkaeolcchhneoaaGreatDoor
open Go.ChangeShapes Go.WideShapes Go.ChangeAt Go.WideMaps Go.WideElems Go.RowKit

theorem Tryz.ownAll : ownKnob Tryz.prog.godebug = none := by kernel_rfl
theorem Tryz.laidOutAll : laidOutB Tryz.prog = true := by kernel_rfl
section
variable {H : Type} {enc : TypeId × Value → H} {W : World}
theorem spot_none {a : Addr} {u : Value} (h : W.cell? a = some u) : ∃ b o, a = ⟨b, o, none⟩ := by
  obtain ⟨b, o, sp⟩ := a
  have hs := World.cell?_spot h
  have hs' : sp = none := hs
  subst hs'
  exact ⟨b, o, rfl⟩
theorem addr_plus (b o j : Nat) : (⟨b, o, none⟩ : Addr).add j = ⟨b, o + j, none⟩ := by cases j <;> simp [Addr.add]
theorem cells_at {a : Addr} {n : Nat} {cs : List Value} (h : W.cells? 0 a n = some cs) : cs.length = n ∧ ∀ i, i < n → W.cell? (a.add i) = cs[i]? := by
  unfold World.cells? at h
  rw [if_pos (Nat.zero_le _)] at h
  have hl := mapM_some_length h
  rw [List.length_range] at hl
  exact ⟨hl, fun i hi => mapM_some_get h i i (by rw [List.getElem?_range hi])⟩
theorem Tryz.c_int : Tryz.prog.cellsOf 3 = 1 := by kernel_rfl
theorem Tryz.c_bool : Tryz.prog.cellsOf 4 = 1 := by kernel_rfl
theorem Tryz.c_str : Tryz.prog.cellsOf 9 = 1 := by kernel_rfl
theorem Tryz.c_ter : Tryz.prog.cellsOf 60 = 3 := by kernel_rfl
theorem Tryz.c_dut : Tryz.prog.cellsOf 62 = 8 := by kernel_rfl
theorem Tryz.c_eve : Tryz.prog.cellsOf 51 = 4 := by kernel_rfl
theorem Tryz.b_dut : Tryz.prog.bytesOf 62 = 88 := by kernel_rfl
theorem Tryz.b_eve : Tryz.prog.bytesOf 51 = 48 := by kernel_rfl
theorem w64 {n : Int} (h : (Lit.int .i64 n).wf = true) : -9223372036854775808 ≤ n ∧ n ≤ 9223372036854775807 := by
  have e1 : IntKind.i64.min = -9223372036854775808 := by decide
  have e2 : IntKind.i64.max = 9223372036854775807 := by decide
  have h : (decide (IntKind.i64.min ≤ n) && decide (n ≤ IntKind.i64.max)) = true := h
  rw [Bool.and_eq_true, decide_eq_true_eq, decide_eq_true_eq, e1, e2] at h
  exact h
/-- A slice without an address has no room. -/
def NilV (v : Value) : Prop := ∀ n c, v = .slice none n c → c = 0
theorem nilV0 : NilV (.slice none 0 0) := fun n c h => by
  injection h with _ _ h
  exact h.symm
theorem nilVs (a : Addr) (len cap : Nat) : NilV (.slice (some a) len cap) := fun n c h => by
  injection h with h _ _
  cases h
theorem mem_weightsAll (P : Program) (e : TypeId) : ∀ (l : List (DataW H)) {d : DataW H}, d ∈ l → ∀ z ∈ d.weights P e, z ∈ DataW.weightsAll P e l
  | x :: l, d, hd, z, hz => by
    rw [DataW.weightsAll]
    rcases List.mem_cons.1 hd with rfl | hd
    · exact List.mem_append_left _ hz
    · exact List.mem_append_right _ (mem_weightsAll P e l hd z hz)
set_option maxRecDepth 100000 in
/-- A slice's reading, an element at a time, whatever an element is. -/
theorem slice_read {α : Type} {t e : TypeId} {k : Nat} (hk : 0 < k) (ht : Tryz.prog.underlying t = some (.slice e)) (hc : Tryz.prog.cellsOf e = k) {fuel : Nat} {v : Value} {x : DataW H × List MemPlace}
    (h : DataW.trod enc Tryz.prog W 0 (fun _ => true) true fuel t [v] = some x) (hw : ∀ y ∈ x.1.weights Tryz.prog t, y ≤ reachBytes) (P : α → List Value → Prop)
    (hone : ∀ n cs y, DataW.trod enc Tryz.prog W 0 (fun _ => true) true n e cs = some y → (∀ z ∈ y.1.weights Tryz.prog e, z ≤ reachBytes) → ∃ a, P a cs) :
    NilV v ∧ ∃ a c, ∃ l : List α, v = .slice a l.length c ∧ l.length ≤ c ∧ l.length * Tryz.prog.bytesOf e ≤ reachBytes ∧ ∀ i r, l[i]? = some r → ∃ g o cs, a = some ⟨g, o, none⟩ ∧ g < W.heap.size ∧ P r cs ∧ ∀ c, c < k → W.cell? ⟨g, o + i * k + c, none⟩ = cs[c]? := by
  rcases DataW.trod_slice ht h with ⟨h1, _⟩ | ⟨a, len, cap', elems, rest, m, _, h1, hx, _, hlc, _, helen, hel, _⟩
  · injection h1 with h1 _
    subst h1
    exact ⟨nilV0, none, 0, [], rfl, by simp, by simp, fun i r hr => by simp at hr⟩
  · injection h1 with h1 _
    subst h1
    subst hx
    simp only [DataW.weights, ht] at hw
    have hw0 := hw _ (List.mem_cons_self ..)
    have hwe : ∀ d ∈ elems.map (·.1), ∀ z ∈ d.weights Tryz.prog e, z ≤ reachBytes := fun d hd z hz => hw z (List.mem_cons_of_mem _ (List.mem_append_left _ (mem_weightsAll _ _ _ hd z hz)))
    have hone2 : ∀ i, i < len → ∃ a' cs, P a' cs ∧ ∀ c, c < k → W.cell? ((a.add (i * k)).add c) = cs[c]? := fun i hi => by
      have h2 := hel i hi
      obtain ⟨y, hy⟩ : ∃ y, elems[i]? = some y := ⟨_, List.getElem?_eq_getElem (by omega)⟩
      rw [hy, Option.bind_eq_some_iff] at h2
      obtain ⟨cs1, h3, h5⟩ := h2
      rw [hc] at h3
      obtain ⟨a', ha⟩ := hone _ _ _ h5 (hwe y.1 (List.mem_map_of_mem (List.mem_of_getElem? hy)))
      exact ⟨a', cs1, ha, (cells_at h3).2⟩
    refine ⟨nilVs a len cap', some a, cap', ?_⟩
    have hlist : ∀ n, n ≤ len → ∃ l : List α, l.length = n ∧ ∀ i r, l[i]? = some r → ∃ cs, P r cs ∧ ∀ c, c < k → W.cell? ((a.add (i * k)).add c) = cs[c]? := fun n => by
      induction n with
      | zero => exact fun _ => ⟨[], rfl, fun i r hr => by simp at hr⟩
      | succ n ih =>
        intro hn
        obtain ⟨l, hl, hp⟩ := ih (by omega)
        obtain ⟨a', cs, h1, h2⟩ := hone2 n (by omega)
        refine ⟨l ++ [a'], by simp [hl], fun i r hr => ?_⟩
        rcases Nat.lt_or_ge i n with hi | hi
        · rw [List.getElem?_append_left (by omega)] at hr
          exact hp i r hr
        · have hin : i = n := by
            have := (List.getElem?_eq_some_iff.1 hr).1
            simp at this
            omega
          subst hin
          rw [← hl] at hr
          simp at hr
          subst hr
          exact ⟨cs, h1, h2⟩
    obtain ⟨l, hl, hp⟩ := hlist len (Nat.le_refl _)
    refine ⟨l, by rw [hl], by rw [hl]; exact hlc, ?_, fun i r hr => ?_⟩
    · refine Nat.le_trans (Nat.mul_le_mul_right _ ?_) hw0
      rw [hl, List.length_map, helen]
      omega
    · obtain ⟨cs, h1, h2⟩ := hp i r hr
      have hi : i < len := by have := (List.getElem?_eq_some_iff.1 hr).1; omega
      have h4 := hel 0 (by omega)
      obtain ⟨y, hy⟩ : ∃ y, elems[0]? = some y := ⟨_, List.getElem?_eq_getElem (by omega)⟩
      rw [hy, Option.bind_eq_some_iff] at h4
      obtain ⟨cs1, h5, _⟩ := h4
      rw [hc] at h5
      obtain ⟨q1, q2⟩ := cells_at h5
      have q3 := q2 0 hk
      rw [List.getElem?_eq_getElem (by omega), show (a.add (0 * k)).add 0 = a by simp [Addr.add]] at q3
      obtain ⟨ab, ao, hb⟩ := spot_none q3
      subst hb
      refine ⟨ab, ao, cs, rfl, cell_lt q3, h1, fun c hc2 => ?_⟩
      rw [← h2 c hc2, addr_plus, addr_plus]
set_option maxRecDepth 100000 in
theorem term_trod {m : Nat} {cs : List Value} {x : DataW H × List MemPlace} (hy : DataW.trod enc Tryz.prog W 0 (fun _ => true) true m 60 cs = some x) : ∃ a b c, cs = [.int .i64 a, .int .i64 b, .int .i64 c] := by
  obtain ⟨xs, m, _, hy1, hl, hlen, hf⟩ := DataW.trod_struct Tryz.underlying60 hy
  rw [Tryz.c_ter] at hl
  have hlen : xs.length = 3 := hlen
  match cs, hl, xs, hlen with
  | [u0, u1, u2], _, [y0, y1, y2], _ =>
    have f0 := hf 0 _ rfl
    have f1 := hf 1 _ rfl
    have f2 := hf 2 _ rfl
    change DataW.trod enc Tryz.prog W 0 (fun _ => true) true m 3 ((List.drop 0 [u0, u1, u2]).take (Tryz.prog.cellsOf 3)) = some y0 at f0
    rw [Tryz.c_int] at f0
    obtain ⟨m0, e0, _⟩ := DataW.trod_int Tryz.underlying3 f0
    have e0 : [u0] = [Value.int .i64 m0] := e0
    injection e0 with e0
    change DataW.trod enc Tryz.prog W 0 (fun _ => true) true m 3 ((List.drop 1 [u0, u1, u2]).take (Tryz.prog.cellsOf 3)) = some y1 at f1
    rw [Tryz.c_int] at f1
    obtain ⟨m1, e1, _⟩ := DataW.trod_int Tryz.underlying3 f1
    have e1 : [u1] = [Value.int .i64 m1] := e1
    injection e1 with e1
    change DataW.trod enc Tryz.prog W 0 (fun _ => true) true m 3 ((List.drop 2 [u0, u1, u2]).take (Tryz.prog.cellsOf 3)) = some y2 at f2
    rw [Tryz.c_int] at f2
    obtain ⟨m2, e2, _⟩ := DataW.trod_int Tryz.underlying3 f2
    have e2 : [u2] = [Value.int .i64 m2] := e2
    injection e2 with e2
    exact ⟨m0, m1, m2, by rw [e0, e1, e2]⟩
set_option maxRecDepth 100000 in
theorem duties_arg {base : Nat} {v : Value} {d : DataW H} {ps : List MemPlace}
    (hval : Value.okWide Tryz.prog W .any base 22 v) (hd : DataW.Trod enc Tryz.prog W 0 (fun _ => true) true 22 v d ps) (hw : ∀ z ∈ d.weights Tryz.prog 22, z ≤ reachBytes) :
    ∃ a n c l, v = .slice a n c ∧ RdG duE W W.heap.size (.slice a n c) l := by
  obtain ⟨fuel, hf⟩ := hd
  have hv : ∃ a n c, v = .slice a n c := okWide_slice Tryz.underlying22 hval
  obtain ⟨a0, n0, c0, rfl⟩ := hv
  obtain ⟨_, a, c, l, e, _, hb, hx⟩ := slice_read (α := Du) (by decide) Tryz.underlying22 Tryz.c_dut hf hw (fun r cs => cs = duE.f r) (fun n cs y hy _ => by
    obtain ⟨xs, m, _, hy1, hl, hlen, hf⟩ := DataW.trod_struct Tryz.underlying62 hy
    rw [Tryz.c_dut] at hl
    have hlen : xs.length = 6 := hlen
    match cs, hl, xs, hlen with
    | [u0, u1, u2, u3, u4, u5, u6, u7], _, [y0, y1, y2, y3, y4, y5], _ =>
      have f0 := hf 0 _ rfl
      have f1 := hf 1 _ rfl
      have f2 := hf 2 _ rfl
      have f3 := hf 3 _ rfl
      have f4 := hf 4 _ rfl
      have f5 := hf 5 _ rfl
      change DataW.trod enc Tryz.prog W 0 (fun _ => true) true m 9 ((List.drop 0 [u0, u1, u2, u3, u4, u5, u6, u7]).take (Tryz.prog.cellsOf 9)) = some y0 at f0
      rw [Tryz.c_str] at f0
      obtain ⟨m0, e0, _⟩ := DataW.trod_string Tryz.underlying9 f0
      have e0 : [u0] = [Value.string m0] := e0
      injection e0 with e0
      change DataW.trod enc Tryz.prog W 0 (fun _ => true) true m 9 ((List.drop 1 [u0, u1, u2, u3, u4, u5, u6, u7]).take (Tryz.prog.cellsOf 9)) = some y1 at f1
      rw [Tryz.c_str] at f1
      obtain ⟨m1, e1, _⟩ := DataW.trod_string Tryz.underlying9 f1
      have e1 : [u1] = [Value.string m1] := e1
      injection e1 with e1
      change DataW.trod enc Tryz.prog W 0 (fun _ => true) true m 3 ((List.drop 2 [u0, u1, u2, u3, u4, u5, u6, u7]).take (Tryz.prog.cellsOf 3)) = some y2 at f2
      rw [Tryz.c_int] at f2
      obtain ⟨m2, e2, _⟩ := DataW.trod_int Tryz.underlying3 f2
      have e2 : [u2] = [Value.int .i64 m2] := e2
      injection e2 with e2
      change DataW.trod enc Tryz.prog W 0 (fun _ => true) true m 3 ((List.drop 3 [u0, u1, u2, u3, u4, u5, u6, u7]).take (Tryz.prog.cellsOf 3)) = some y3 at f3
      rw [Tryz.c_int] at f3
      obtain ⟨m3, e3, _⟩ := DataW.trod_int Tryz.underlying3 f3
      have e3 : [u3] = [Value.int .i64 m3] := e3
      injection e3 with e3
      change DataW.trod enc Tryz.prog W 0 (fun _ => true) true m 9 ((List.drop 4 [u0, u1, u2, u3, u4, u5, u6, u7]).take (Tryz.prog.cellsOf 9)) = some y4 at f4
      rw [Tryz.c_str] at f4
      obtain ⟨m4, e4, _⟩ := DataW.trod_string Tryz.underlying9 f4
      have e4 : [u4] = [Value.string m4] := e4
      injection e4 with e4
      change DataW.trod enc Tryz.prog W 0 (fun _ => true) true m 60 ((List.drop 5 [u0, u1, u2, u3, u4, u5, u6, u7]).take (Tryz.prog.cellsOf 60)) = some y5 at f5
      rw [Tryz.c_ter] at f5
      obtain ⟨t0, t1, t2, e5⟩ := term_trod f5
      have e5 : [u5, u6, u7] = [Value.int .i64 t0, .int .i64 t1, .int .i64 t2] := e5
      injection e5 with e5 e6
      injection e6 with e6 e7
      injection e7 with e7
      exact ⟨⟨m0, m1, m2, m3, m4, t0, t1, t2⟩, by rw [e0, e1, e2, e3, e4, e5, e6, e7]; rfl⟩)
  rw [Tryz.b_dut] at hb
  unfold reachBytes at hb
  refine ⟨a, l.length, c, l, e, a, c, rfl, by omega, fun j r hr => ?_⟩
  obtain ⟨g, o, cs, e1, hg, e2, hc⟩ := hx j r hr
  subst e2
  exact ⟨g, o, e1, hg, fun i u hu => (hc i (List.getElem?_eq_some_iff.1 hu).1).trans hu⟩
set_option maxRecDepth 100000 in
theorem events_arg {base : Nat} {v : Value} {d : DataW H} {ps : List MemPlace}
    (hval : Value.okWide Tryz.prog W .any base 23 v) (hd : DataW.Trod enc Tryz.prog W 0 (fun _ => true) true 23 v d ps) (hw : ∀ z ∈ d.weights Tryz.prog 23, z ≤ reachBytes) :
    ∃ a n c l, v = .slice a n c ∧ RdG evE W W.heap.size (.slice a n c) l := by
  obtain ⟨fuel, hf⟩ := hd
  have hv : ∃ a n c, v = .slice a n c := okWide_slice Tryz.underlying23 hval
  obtain ⟨a0, n0, c0, rfl⟩ := hv
  obtain ⟨_, a, c, l, e, _, hb, hx⟩ := slice_read (α := Ev) (by decide) Tryz.underlying23 Tryz.c_eve hf hw (fun r cs => cs = evE.f r) (fun n cs y hy _ => by
    obtain ⟨xs, m, _, hy1, hl, hlen, hf⟩ := DataW.trod_struct Tryz.underlying51 hy
    rw [Tryz.c_eve] at hl
    have hlen : xs.length = 4 := hlen
    match cs, hl, xs, hlen with
    | [u0, u1, u2, u3], _, [y0, y1, y2, y3], _ =>
      have f0 := hf 0 _ rfl
      have f1 := hf 1 _ rfl
      have f2 := hf 2 _ rfl
      have f3 := hf 3 _ rfl
      change DataW.trod enc Tryz.prog W 0 (fun _ => true) true m 3 ((List.drop 0 [u0, u1, u2, u3]).take (Tryz.prog.cellsOf 3)) = some y0 at f0
      rw [Tryz.c_int] at f0
      obtain ⟨m0, e0, _⟩ := DataW.trod_int Tryz.underlying3 f0
      have e0 : [u0] = [Value.int .i64 m0] := e0
      injection e0 with e0
      change DataW.trod enc Tryz.prog W 0 (fun _ => true) true m 9 ((List.drop 1 [u0, u1, u2, u3]).take (Tryz.prog.cellsOf 9)) = some y1 at f1
      rw [Tryz.c_str] at f1
      obtain ⟨m1, e1, _⟩ := DataW.trod_string Tryz.underlying9 f1
      have e1 : [u1] = [Value.string m1] := e1
      injection e1 with e1
      change DataW.trod enc Tryz.prog W 0 (fun _ => true) true m 9 ((List.drop 2 [u0, u1, u2, u3]).take (Tryz.prog.cellsOf 9)) = some y2 at f2
      rw [Tryz.c_str] at f2
      obtain ⟨m2, e2, _⟩ := DataW.trod_string Tryz.underlying9 f2
      have e2 : [u2] = [Value.string m2] := e2
      injection e2 with e2
      change DataW.trod enc Tryz.prog W 0 (fun _ => true) true m 4 ((List.drop 3 [u0, u1, u2, u3]).take (Tryz.prog.cellsOf 4)) = some y3 at f3
      rw [Tryz.c_bool] at f3
      obtain ⟨m3, e3, _⟩ := DataW.trod_bool Tryz.underlying4 f3
      have e3 : [u3] = [Value.bool m3] := e3
      injection e3 with e3
      exact ⟨⟨m0, m1, m2, m3⟩, by rw [e0, e1, e2, e3]; rfl⟩)
  rw [Tryz.b_eve] at hb
  unfold reachBytes at hb
  refine ⟨a, l.length, c, l, e, a, c, rfl, by omega, fun j r hr => ?_⟩
  obtain ⟨g, o, cs, e1, hg, e2, hc⟩ := hx j r hr
  subst e2
  exact ⟨g, o, e1, hg, fun i u hu => (hc i (List.getElem?_eq_some_iff.1 hu).1).trans hu⟩
end
end Go.Proofs.YtkaeolcchhneoaaGreatDoor
