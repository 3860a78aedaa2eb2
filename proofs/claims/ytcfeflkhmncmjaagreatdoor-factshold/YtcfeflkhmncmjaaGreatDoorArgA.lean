/-
  Facts that a law is handed, out of their reading.
-/
import Derived.Test.YtcfeflkhmncmjaaGreatDoorRows
import Derived.Test.YtcfeflkhmncmjaaGreatDoorFaA
import Derived.ProofKit
import Derived.LaidMore
import Derived.OpenShut
import Derived.Stop.Joined
import Derived.SevenTiedAt
import Derived.WideLaws
import Derived.ChangeSlices
import Derived.ChangeSame
import Derived.Carry
import Derived.Test.YtcfeflkhmncmjaaGreatDoorFromA
namespace Go.Proofs.YtcfeflkhmncmjaaGreatDoor
open Go.ChangeShapes Go.WideShapes Go.ChangeAt Go.WideMaps Go.WideElems Go.RowKit

theorem Tryz.ownAll : ownKnob Tryz.prog.godebug = none := by kernel_rfl
theorem Tryz.laidOutAll : laidOutB Tryz.prog = true := by kernel_rfl
section
variable {H : Type} {enc : TypeId × Value → H} {W : World}
theorem spot_none {a : Addr} {u : Value} (h : W.cell? a = some u) : ∃ b o, a = ⟨b, o, none⟩ := by
  obtain ⟨b, o, sp⟩ := a
  have hs := World.cell?_spot h
  have hs' : sp = none := hs
  subst hs'
  exact ⟨b, o, rfl⟩
theorem addr_plus (b o j : Nat) : (⟨b, o, none⟩ : Addr).add j = ⟨b, o + j, none⟩ := by cases j <;> simp [Addr.add]
theorem cells_at {a : Addr} {n : Nat} {cs : List Value} (h : W.cells? 0 a n = some cs) : cs.length = n ∧ ∀ i, i < n → W.cell? (a.add i) = cs[i]? := by
  unfold World.cells? at h
  rw [if_pos (Nat.zero_le _)] at h
  have hl := mapM_some_length h
  rw [List.length_range] at hl
  exact ⟨hl, fun i hi => mapM_some_get h i i (by rw [List.getElem?_range hi])⟩
set_option maxRecDepth 100000 in
/-- A fact's reading. -/
theorem fact_trod {fuel : Nat} {cs : List Value} {x : DataW H × List MemPlace} (h : DataW.trod enc Tryz.prog W 0 (fun _ => true) true fuel 55 cs = some x) : ∃ y : Fct, cs = [fctV y 0, fctV y 1, fctV y 2, fctV y 3, fctV y 4, fctV y 5, fctV y 6] := by
  obtain ⟨xs, n, hfu, rfl, hl, hlen, hf⟩ := DataW.trod_struct Tryz.underlying55 h
  have h7 : Tryz.prog.cellsOf 55 = 7 := by kernel_rfl
  have hci : Tryz.prog.cellsOf 3 = 1 := by kernel_rfl
  have hcs : Tryz.prog.cellsOf 9 = 1 := by kernel_rfl
  rw [h7] at hl
  obtain ⟨c0, c1, c2, c3, c4, c5, c6, rfl⟩ : ∃ c0 c1 c2 c3 c4 c5 c6, cs = [c0, c1, c2, c3, c4, c5, c6] := by
    match cs, hl with
    | [a, b, c, d, e, f, g], _ => exact ⟨a, b, c, d, e, f, g, rfl⟩
  obtain ⟨y0, y1, y2, y3, y4, y5, y6, rfl⟩ : ∃ y0 y1 y2 y3 y4 y5 y6, xs = [y0, y1, y2, y3, y4, y5, y6] := by
    have hlen : xs.length = 7 := hlen
    match xs, hlen with
    | [a, b, c, d, e, f, g], _ => exact ⟨a, b, c, d, e, f, g, rfl⟩
  have t0 := hf 0 _ rfl
  have t1 := hf 1 _ rfl
  have t2 := hf 2 _ rfl
  have t3 := hf 3 _ rfl
  have t4 := hf 4 _ rfl
  have t5 := hf 5 _ rfl
  have t6 := hf 6 _ rfl
  change DataW.trod enc Tryz.prog W 0 (fun _ => true) true n 3 ((List.drop 0 [c0, c1, c2, c3, c4, c5, c6]).take (Tryz.prog.cellsOf 3)) = some y0 at t0
  change DataW.trod enc Tryz.prog W 0 (fun _ => true) true n 9 ((List.drop 1 [c0, c1, c2, c3, c4, c5, c6]).take (Tryz.prog.cellsOf 9)) = some y1 at t1
  change DataW.trod enc Tryz.prog W 0 (fun _ => true) true n 3 ((List.drop 2 [c0, c1, c2, c3, c4, c5, c6]).take (Tryz.prog.cellsOf 3)) = some y2 at t2
  change DataW.trod enc Tryz.prog W 0 (fun _ => true) true n 3 ((List.drop 3 [c0, c1, c2, c3, c4, c5, c6]).take (Tryz.prog.cellsOf 3)) = some y3 at t3
  change DataW.trod enc Tryz.prog W 0 (fun _ => true) true n 3 ((List.drop 4 [c0, c1, c2, c3, c4, c5, c6]).take (Tryz.prog.cellsOf 3)) = some y4 at t4
  change DataW.trod enc Tryz.prog W 0 (fun _ => true) true n 3 ((List.drop 5 [c0, c1, c2, c3, c4, c5, c6]).take (Tryz.prog.cellsOf 3)) = some y5 at t5
  change DataW.trod enc Tryz.prog W 0 (fun _ => true) true n 3 ((List.drop 6 [c0, c1, c2, c3, c4, c5, c6]).take (Tryz.prog.cellsOf 3)) = some y6 at t6
  rw [hci] at t0 t2 t3 t4 t5 t6
  rw [hcs] at t1
  obtain ⟨n0, e0, _⟩ := DataW.trod_int Tryz.underlying3 t0
  obtain ⟨s1, e1, _⟩ := DataW.trod_string Tryz.underlying9 t1
  obtain ⟨n2, e2, _⟩ := DataW.trod_int Tryz.underlying3 t2
  obtain ⟨n3, e3, _⟩ := DataW.trod_int Tryz.underlying3 t3
  obtain ⟨n4, e4, _⟩ := DataW.trod_int Tryz.underlying3 t4
  obtain ⟨n5, e5, _⟩ := DataW.trod_int Tryz.underlying3 t5
  obtain ⟨n6, e6, _⟩ := DataW.trod_int Tryz.underlying3 t6
  have f0 : c0 = .int .i64 n0 := by injection e0
  have f1 : c1 = .string s1 := by injection e1
  have f2 : c2 = .int .i64 n2 := by injection e2
  have f3 : c3 = .int .i64 n3 := by injection e3
  have f4 : c4 = .int .i64 n4 := by injection e4
  have f5 : c5 = .int .i64 n5 := by injection e5
  have f6 : c6 = .int .i64 n6 := by injection e6
  subst f0 f1 f2 f3 f4 f5 f6
  exact ⟨⟨n0, s1, n2, n3, n4, n5, n6⟩, rfl⟩
set_option maxRecDepth 100000 in
/-- The facts. -/
theorem facts_arg {base : Nat} {v : Value} {d : DataW H} {ps : List MemPlace}
    (hval : Value.okWide Tryz.prog W .any base 22 v) (hd : DataW.Trod enc Tryz.prog W 0 (fun _ => true) true 22 v d ps) :
    ∃ a c l, v = .slice a (List.length l) c ∧ FRead W a l ∧ l.length ≤ 9223372036854775807 := by
  obtain ⟨o, n, cap, rfl⟩ := okWide_slice Tryz.underlying22 hval
  obtain ⟨fuel, hf⟩ := hd
  have hcs : (Value.slice o n cap).cells.toList = [.slice o n cap] := rfl
  rw [hcs] at hf
  rcases DataW.trod_slice Tryz.underlying22 hf with ⟨h1, _⟩ | ⟨a, len, cap', elems, rest, m, hnm, h1, _, _, hlc, hcm, helen, hel, _⟩
  · injection h1 with h1 _
    injection h1 with h1 h2 h3
    subst h1 h2 h3
    exact ⟨none, 0, [], rfl, fun i x hx => by simp at hx, by simp⟩
  · injection h1 with h1 _
    injection h1 with h1 h2 h3
    subst h1 h2 h3
    have h7 : Tryz.prog.cellsOf 55 = 7 := by kernel_rfl
    rw [h7] at hel
    have hone : ∀ i, i < n → ∃ y : Fct, ∀ c, c < 7 → W.cell? ((a.add (i * 7)).add c) = some (fctV y c) := fun i hi => by
      have h2 := hel i hi
      obtain ⟨y, hy⟩ : ∃ y, elems[i]? = some y := ⟨_, List.getElem?_eq_getElem (by omega)⟩
      rw [hy, Option.bind_eq_some_iff] at h2
      obtain ⟨cs1, h3, h5⟩ := h2
      obtain ⟨t, rfl⟩ := fact_trod h5
      refine ⟨t, fun c hc => ?_⟩
      rw [(cells_at h3).2 c hc]
      match c, hc with
      | 0, _ => rfl
      | 1, _ => rfl
      | 2, _ => rfl
      | 3, _ => rfl
      | 4, _ => rfl
      | 5, _ => rfl
      | 6, _ => rfl
    let T : Nat → Fct := fun i => if hi : i < n then Classical.choose (hone i hi) else ⟨0, ⟨#[]⟩, 0, 0, 0, 0, 0⟩
    have hT : ∀ i (hi : i < n), ∀ c, c < 7 → W.cell? ((a.add (i * 7)).add c) = some (fctV (T i) c) := fun i hi => by
      have e : T i = Classical.choose (hone i hi) := by simp only [T]; rw [dif_pos hi]
      rw [e]
      exact Classical.choose_spec (hone i hi)
    refine ⟨some a, cap, (List.range n).map T, by simp, fun i x hx => ?_, by simp; unfold maxLen at hcm; omega⟩
    have hi : i < n := by
      have := (List.getElem?_eq_some_iff.1 hx).1
      simpa using this
    rw [List.getElem?_map, List.getElem?_range hi] at hx
    injection hx with hx
    have h0 := hT 0 (by omega) 0 (by omega)
    rw [show (a.add (0 * 7)).add 0 = a by simp [Addr.add]] at h0
    obtain ⟨b, o', ha⟩ := spot_none h0
    subst ha
    refine ⟨b, o', rfl, fun c hc => ?_⟩
    have h1 := hT i hi c hc
    rw [addr_plus, addr_plus, hx] at h1
    exact h1
end
end Go.Proofs.YtcfeflkhmncmjaaGreatDoor
namespace Go.Proofs.YtcfeflkhmncmjaaGreatDoor
open Go.ChangeShapes Go.WideShapes Go.ChangeAt Go.WideMaps Go.WideElems Go.RowKit

theorem Tryz.c_int3 : Tryz.prog.cellsOf 3 = 1 := by kernel_rfl
theorem Tryz.c_st3 : Tryz.prog.cellsOf 9 = 1 := by kernel_rfl
theorem Tryz.c_nd3 : Tryz.prog.cellsOf 25 = 4 := by kernel_rfl
theorem Tryz.c_nds3 : Tryz.prog.cellsOf 23 = 1 := by kernel_rfl
theorem Tryz.b_nd3 : Tryz.prog.bytesOf 25 = 64 := by kernel_rfl
section
variable {H : Type} {enc : TypeId × Value → H} {W : World}
/-- A slice without an address has no room. -/
def NilV (v : Value) : Prop := ∀ n c, v = .slice none n c → c = 0
theorem nilV0 : NilV (.slice none 0 0) := fun n c h => by
  injection h with _ _ h
  exact h.symm
theorem nilVs (a : Addr) (len cap : Nat) : NilV (.slice (some a) len cap) := fun n c h => by
  injection h with h _ _
  cases h
theorem mem_weightsAll (P : Program) (e : TypeId) : ∀ (l : List (DataW H)) {d : DataW H}, d ∈ l → ∀ z ∈ d.weights P e, z ∈ DataW.weightsAll P e l
  | x :: l, d, hd, z, hz => by
    rw [DataW.weightsAll]
    rcases List.mem_cons.1 hd with rfl | hd
    · exact List.mem_append_left _ hz
    · exact List.mem_append_right _ (mem_weightsAll P e l hd z hz)
set_option maxRecDepth 100000 in
/-- A slice's reading, an element at a time, whatever an element is. -/
theorem slice_readF {α : Type} {t e : TypeId} {k : Nat} (hk : 0 < k) (ht : Tryz.prog.underlying t = some (.slice e)) (hc : Tryz.prog.cellsOf e = k) {fuel : Nat} {v : Value} {x : DataW H × List MemPlace}
    (h : DataW.trod enc Tryz.prog W 0 (fun _ => true) true fuel t [v] = some x) (hw : ∀ y ∈ x.1.weights Tryz.prog t, y ≤ reachBytes) (P : α → List Value → Prop)
    (hone : ∀ n cs y, n < fuel → DataW.trod enc Tryz.prog W 0 (fun _ => true) true n e cs = some y → (∀ z ∈ y.1.weights Tryz.prog e, z ≤ reachBytes) → ∃ a, P a cs) :
    NilV v ∧ ∃ a c, ∃ l : List α, v = .slice a l.length c ∧ l.length ≤ c ∧ l.length * Tryz.prog.bytesOf e ≤ reachBytes ∧ ∀ i r, l[i]? = some r → ∃ g o cs, a = some ⟨g, o, none⟩ ∧ g < W.heap.size ∧ P r cs ∧ ∀ c, c < k → W.cell? ⟨g, o + i * k + c, none⟩ = cs[c]? := by
  rcases DataW.trod_slice ht h with ⟨h1, _⟩ | ⟨a, len, cap', elems, rest, m, hnm, h1, hx, _, hlc, _, helen, hel, _⟩
  · injection h1 with h1 _
    subst h1
    exact ⟨nilV0, none, 0, [], rfl, by simp, by simp, fun i r hr => by simp at hr⟩
  · injection h1 with h1 _
    subst h1
    subst hx
    simp only [DataW.weights, ht] at hw
    have hw0 := hw _ (List.mem_cons_self ..)
    have hwe : ∀ d ∈ elems.map (·.1), ∀ z ∈ d.weights Tryz.prog e, z ≤ reachBytes := fun d hd z hz => hw z (List.mem_cons_of_mem _ (List.mem_append_left _ (mem_weightsAll _ _ _ hd z hz)))
    have hone2 : ∀ i, i < len → ∃ a' cs, P a' cs ∧ ∀ c, c < k → W.cell? ((a.add (i * k)).add c) = cs[c]? := fun i hi => by
      have h2 := hel i hi
      obtain ⟨y, hy⟩ : ∃ y, elems[i]? = some y := ⟨_, List.getElem?_eq_getElem (by omega)⟩
      rw [hy, Option.bind_eq_some_iff] at h2
      obtain ⟨cs1, h3, h5⟩ := h2
      rw [hc] at h3
      obtain ⟨a', ha⟩ := hone _ _ _ (by omega) h5 (hwe y.1 (List.mem_map_of_mem (List.mem_of_getElem? hy)))
      exact ⟨a', cs1, ha, (cells_at h3).2⟩
    refine ⟨nilVs a len cap', some a, cap', ?_⟩
    have hlist : ∀ n, n ≤ len → ∃ l : List α, l.length = n ∧ ∀ i r, l[i]? = some r → ∃ cs, P r cs ∧ ∀ c, c < k → W.cell? ((a.add (i * k)).add c) = cs[c]? := fun n => by
      induction n with
      | zero => exact fun _ => ⟨[], rfl, fun i r hr => by simp at hr⟩
      | succ n ih =>
        intro hn
        obtain ⟨l, hl, hp⟩ := ih (by omega)
        obtain ⟨a', cs, h1, h2⟩ := hone2 n (by omega)
        refine ⟨l ++ [a'], by simp [hl], fun i r hr => ?_⟩
        rcases Nat.lt_or_ge i n with hi | hi
        · rw [List.getElem?_append_left (by omega)] at hr
          exact hp i r hr
        · have hin : i = n := by
            have := (List.getElem?_eq_some_iff.1 hr).1
            simp at this
            omega
          subst hin
          rw [← hl] at hr
          simp at hr
          subst hr
          exact ⟨cs, h1, h2⟩
    obtain ⟨l, hl, hp⟩ := hlist len (Nat.le_refl _)
    refine ⟨l, by rw [hl], by rw [hl]; exact hlc, ?_, fun i r hr => ?_⟩
    · refine Nat.le_trans (Nat.mul_le_mul_right _ ?_) hw0
      rw [hl, List.length_map, helen]
      omega
    · obtain ⟨cs, h1, h2⟩ := hp i r hr
      have hi : i < len := by have := (List.getElem?_eq_some_iff.1 hr).1; omega
      have h4 := hel 0 (by omega)
      obtain ⟨y, hy⟩ : ∃ y, elems[0]? = some y := ⟨_, List.getElem?_eq_getElem (by omega)⟩
      rw [hy, Option.bind_eq_some_iff] at h4
      obtain ⟨cs1, h5, _⟩ := h4
      rw [hc] at h5
      obtain ⟨q1, q2⟩ := cells_at h5
      have q3 := q2 0 hk
      rw [List.getElem?_eq_getElem (by omega), show (a.add (0 * k)).add 0 = a by simp [Addr.add]] at q3
      obtain ⟨ab, ao, hb⟩ := spot_none q3
      subst hb
      refine ⟨ab, ao, cs, rfl, cell_lt q3, h1, fun c hc2 => ?_⟩
      rw [← h2 c hc2, addr_plus, addr_plus]

/-- A node and where its kids lie. -/
structure NdX where
  t : Tr
  ka : Option Addr
  kc : Nat
def NdX.cells (r : NdX) : List Value := [.string r.t.kind, .string r.t.word, .int .i64 r.t.num, .slice r.ka r.t.kids.length r.kc]
set_option maxRecDepth 100000 in
theorem node_trod : ∀ (fuel : Nat) (cs : List Value) (x : DataW H × List MemPlace), DataW.trod enc Tryz.prog W 0 (fun _ => true) true fuel 25 cs = some x → (∀ z ∈ x.1.weights Tryz.prog 25, z ≤ reachBytes) → ∃ r : NdX, cs = r.cells ∧ NR W r.ka r.kc r.t ∧ TSm r.t := by
  intro fuel
  induction fuel using Nat.strongRecOn with
  | ind fuel ih =>
    intro cs x hy hwy
    obtain ⟨xs, m, hfu, hy1, hl, hlen, hf⟩ := DataW.trod_struct Tryz.underlying25 hy
    rw [Tryz.c_nd3] at hl
    have hlen : xs.length = 4 := hlen
    match cs, hl, xs, hlen with
    | [u0, u1, u2, u3], _, [y0, y1, y2, y3], _ =>
      have f0 := hf 0 _ rfl
      have f1 := hf 1 _ rfl
      have f2 := hf 2 _ rfl
      have f3 := hf 3 _ rfl
      have hw4 : ∀ z, z ∈ y0.1.weights Tryz.prog 9 ++ (y1.1.weights Tryz.prog 9 ++ (y2.1.weights Tryz.prog 3 ++ (y3.1.weights Tryz.prog 23 ++ DataW.weightsEach Tryz.prog [] []))) → z ≤ reachBytes := fun z hz => hwy z (by
        rw [hy1]
        simp only [DataW.weights, Tryz.underlying25]
        exact hz)
      change DataW.trod enc Tryz.prog W 0 (fun _ => true) true m 9 ((List.drop 0 [u0, u1, u2, u3]).take (Tryz.prog.cellsOf 9)) = some y0 at f0
      rw [Tryz.c_st3] at f0
      obtain ⟨m0, e0, x0, _⟩ := DataW.trod_string Tryz.underlying9 f0
      have e0 : [u0] = [Value.string m0] := e0
      injection e0 with e0 _
      change DataW.trod enc Tryz.prog W 0 (fun _ => true) true m 9 ((List.drop 1 [u0, u1, u2, u3]).take (Tryz.prog.cellsOf 9)) = some y1 at f1
      rw [Tryz.c_st3] at f1
      obtain ⟨m1, e1, x1, _⟩ := DataW.trod_string Tryz.underlying9 f1
      have e1 : [u1] = [Value.string m1] := e1
      injection e1 with e1 _
      change DataW.trod enc Tryz.prog W 0 (fun _ => true) true m 3 ((List.drop 2 [u0, u1, u2, u3]).take (Tryz.prog.cellsOf 3)) = some y2 at f2
      rw [Tryz.c_int3] at f2
      obtain ⟨m2, e2, _⟩ := DataW.trod_int Tryz.underlying3 f2
      have e2 : [u2] = [Value.int .i64 m2] := e2
      injection e2 with e2 _
      change DataW.trod enc Tryz.prog W 0 (fun _ => true) true m 23 ((List.drop 3 [u0, u1, u2, u3]).take (Tryz.prog.cellsOf 23)) = some y3 at f3
      rw [Tryz.c_nds3] at f3
      have f3 : DataW.trod enc Tryz.prog W 0 (fun _ => true) true m 23 [u3] = some y3 := f3
      obtain ⟨_, a, c, l, e3, hlc, hb, hx⟩ := slice_readF (α := NdX) (by decide) Tryz.underlying23 Tryz.c_nd3 f3 (fun z hz => hw4 z (List.mem_append_right _ (List.mem_append_right _ (List.mem_append_right _ (List.mem_append_left _ hz)))))
        (fun r cs => cs = r.cells ∧ NR W r.ka r.kc r.t ∧ TSm r.t) (fun n cs y hn hy hwy => ih n (by omega) cs y hy hwy)
      rw [Tryz.b_nd3] at hb
      unfold reachBytes at hb
      have hk0 : m0.size ≤ 140737488351232 := by
        have h9 := hw4 m0.data.toList.length (List.mem_append_left _ (by rw [x0]; simp [DataW.weights]))
        unfold reachBytes at h9
        have h10 : m0.data.toList.length = m0.size := rfl
        omega
      have hk1 : m1.size ≤ 140737488351232 := by
        have h9 := hw4 m1.data.toList.length (List.mem_append_right _ (List.mem_append_left _ (by rw [x1]; simp [DataW.weights])))
        unfold reachBytes at h9
        have h10 : m1.data.toList.length = m1.size := rfl
        omega
      have hget : ∀ (i : Nat) (u : Tr), (l.map NdX.t)[i]? = some u → ∃ r, l[i]? = some r ∧ r.t = u := fun i u hu => by
        rw [List.getElem?_map, Option.map_eq_some_iff] at hu
        exact hu
      refine ⟨⟨.mk m0 m1 m2 (l.map NdX.t), a, c⟩, ?_, ?_, ?_⟩
      · show [u0, u1, u2, u3] = [Value.string m0, .string m1, .int .i64 m2, .slice a (l.map NdX.t).length c]
        rw [e0, e1, e2, e3, List.length_map]
      · refine .mk a c _ (fun i => ((l[i]?).map NdX.ka).getD none) (fun i => ((l[i]?).map NdX.kc).getD 0) ?_ ?_ (fun i u hu => ?_) (fun i u hu => ?_)
        · show (l.map NdX.t).length ≤ _
          rw [List.length_map]
          omega
        · show (l.map NdX.t).length ≤ _
          rw [List.length_map]
          exact hlc
        · obtain ⟨r, hr, rfl⟩ := hget i u hu
          obtain ⟨g, o, cs, e4, hg, ⟨rfl, h5, h6⟩, h7⟩ := hx i r hr
          simp only [hr, Option.map_some, Option.getD_some]
          exact ⟨g, o, e4, h7 0 (by omega), h7 1 (by omega), h7 2 (by omega), h7 3 (by omega)⟩
        · obtain ⟨r, hr, rfl⟩ := hget i u hu
          obtain ⟨g, o, cs, e4, hg, ⟨rfl, h5, h6⟩, h7⟩ := hx i r hr
          simp only [hr, Option.map_some, Option.getD_some]
          exact h5
      · refine .mk _ hk1 hk0 fun i u hu => ?_
        obtain ⟨r, hr, rfl⟩ := hget i u hu
        obtain ⟨g, o, cs, e4, hg, ⟨rfl, h5, h6⟩, h7⟩ := hx i r hr
        exact h6
set_option maxRecDepth 100000 in
theorem node_arg {base : Nat} {v : Value} {d : DataW H} {ps : List MemPlace}
    (hval : Value.okWide Tryz.prog W .any base 25 v) (hd : DataW.Trod enc Tryz.prog W 0 (fun _ => true) true 25 v d ps) (hw : ∀ z ∈ d.weights Tryz.prog 25, z ≤ reachBytes) :
    ∃ t ka kc, v = .agg #[.string t.kind, .string t.word, .int .i64 t.num, .slice ka t.kids.length kc] ∧ NR W ka kc t ∧ TSm t := by
  obtain ⟨cs, rfl, hsz⟩ := okWide_struct Tryz.underlying25 hval
  obtain ⟨fuel, hf⟩ := hd
  obtain ⟨r, hr, h1, h2⟩ := node_trod fuel cs.toList _ hf hw
  refine ⟨r.t, r.ka, r.kc, ?_, h1, h2⟩
  obtain ⟨l⟩ := cs
  have hr : l = r.cells := hr
  rw [hr]
  rfl
end
end Go.Proofs.YtcfeflkhmncmjaaGreatDoor
