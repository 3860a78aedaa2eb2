/-
  A theory that a law is handed, out of its reading.
-/
import Derived.Test.YtmbclnaenjcocaaGreatDoorRows
import Derived.Test.YtmbclnaenjcocaaGreatDoorRsLaw1
import Derived.ProofKit
import Derived.LaidMore
import Derived.OpenShut
import Derived.Stop.Joined
import Derived.SevenTiedAt
import Derived.WideLaws
import Derived.ChangeSlices
import Derived.ChangeSame
import Derived.Carry
namespace Go.Proofs.YtmbclnaenjcocaaGreatDoor
open Go.ChangeShapes Go.WideShapes Go.ChangeAt Go.WideMaps Go.WideElems Go.RowKit

theorem Tryz.ownAll : ownKnob Tryz.prog.godebug = none := by kernel_rfl
theorem Tryz.laidOutAll : laidOutB Tryz.prog = true := by kernel_rfl
section
variable {H : Type} {enc : TypeId × Value → H} {W : World}
theorem spot_none {a : Addr} {u : Value} (h : W.cell? a = some u) : ∃ b o, a = ⟨b, o, none⟩ := by
  obtain ⟨b, o, sp⟩ := a
  have hs := World.cell?_spot h
  have hs' : sp = none := hs
  subst hs'
  exact ⟨b, o, rfl⟩
theorem addr_plus (b o j : Nat) : (⟨b, o, none⟩ : Addr).add j = ⟨b, o + j, none⟩ := by cases j <;> simp [Addr.add]
theorem cells_at {a : Addr} {n : Nat} {cs : List Value} (h : W.cells? 0 a n = some cs) : cs.length = n ∧ ∀ i, i < n → W.cell? (a.add i) = cs[i]? := by
  unfold World.cells? at h
  rw [if_pos (Nat.zero_le _)] at h
  have hl := mapM_some_length h
  rw [List.length_range] at hl
  exact ⟨hl, fun i hi => mapM_some_get h i i (by rw [List.getElem?_range hi])⟩
theorem Tryz.c_int : Tryz.prog.cellsOf 3 = 1 := by kernel_rfl
theorem Tryz.c_ints : Tryz.prog.cellsOf 54 = 1 := by kernel_rfl
theorem Tryz.c_pair : Tryz.prog.cellsOf 71 = 2 := by kernel_rfl
theorem Tryz.c_pairs : Tryz.prog.cellsOf 33 = 1 := by kernel_rfl
theorem Tryz.c_rule : Tryz.prog.cellsOf 62 = 3 := by kernel_rfl
theorem Tryz.c_rules : Tryz.prog.cellsOf 59 = 1 := by kernel_rfl
theorem Tryz.c_thy : Tryz.prog.cellsOf 61 = 3 := by kernel_rfl
theorem Tryz.b_int : Tryz.prog.bytesOf 3 = 8 := by kernel_rfl
theorem Tryz.b_pair : Tryz.prog.bytesOf 71 = 16 := by kernel_rfl
theorem Tryz.b_rule : Tryz.prog.bytesOf 62 = 40 := by kernel_rfl

theorem nilV0 : NilV (.slice none 0 0) := fun n c h => by
  injection h with _ _ h
  exact h.symm
theorem nilVs (a : Addr) (len cap : Nat) : NilV (.slice (some a) len cap) := fun n c h => by
  injection h with h _ _
  cases h
theorem mem_weightsAll (P : Program) (e : TypeId) : ∀ (l : List (DataW H)) {d : DataW H}, d ∈ l → ∀ z ∈ d.weights P e, z ∈ DataW.weightsAll P e l
  | x :: l, d, hd, z, hz => by
    rw [DataW.weightsAll]
    rcases List.mem_cons.1 hd with rfl | hd
    · exact List.mem_append_left _ hz
    · exact List.mem_append_right _ (mem_weightsAll P e l hd z hz)
set_option maxRecDepth 100000 in
/-- A slice's reading, an element at a time, whatever an element is. -/
theorem slice_read {α : Type} {t e : TypeId} {k : Nat} (hk : 0 < k) (ht : Tryz.prog.underlying t = some (.slice e)) (hc : Tryz.prog.cellsOf e = k) {fuel : Nat} {v : Value} {x : DataW H × List MemPlace}
    (h : DataW.trod enc Tryz.prog W 0 (fun _ => true) true fuel t [v] = some x) (hw : ∀ y ∈ x.1.weights Tryz.prog t, y ≤ reachBytes) (P : α → List Value → Prop)
    (hone : ∀ n cs y, DataW.trod enc Tryz.prog W 0 (fun _ => true) true n e cs = some y → (∀ z ∈ y.1.weights Tryz.prog e, z ≤ reachBytes) → ∃ a, P a cs) :
    NilV v ∧ ∃ a c, ∃ l : List α, v = .slice a l.length c ∧ l.length * Tryz.prog.bytesOf e ≤ reachBytes ∧ ∀ i r, l[i]? = some r → ∃ g o cs, a = some ⟨g, o, none⟩ ∧ g < W.heap.size ∧ P r cs ∧ ∀ c, c < k → W.cell? ⟨g, o + i * k + c, none⟩ = cs[c]? := by
  rcases DataW.trod_slice ht h with ⟨h1, _⟩ | ⟨a, len, cap', elems, rest, m, _, h1, hx, _, hlc, _, helen, hel, _⟩
  · injection h1 with h1 _
    subst h1
    exact ⟨nilV0, none, 0, [], rfl, by simp, fun i r hr => by simp at hr⟩
  · injection h1 with h1 _
    subst h1
    subst hx
    simp only [DataW.weights, ht] at hw
    have hw0 := hw _ (List.mem_cons_self ..)
    have hwe : ∀ d ∈ elems.map (·.1), ∀ z ∈ d.weights Tryz.prog e, z ≤ reachBytes := fun d hd z hz => hw z (List.mem_cons_of_mem _ (List.mem_append_left _ (mem_weightsAll _ _ _ hd z hz)))
    have hone2 : ∀ i, i < len → ∃ a' cs, P a' cs ∧ ∀ c, c < k → W.cell? ((a.add (i * k)).add c) = cs[c]? := fun i hi => by
      have h2 := hel i hi
      obtain ⟨y, hy⟩ : ∃ y, elems[i]? = some y := ⟨_, List.getElem?_eq_getElem (by omega)⟩
      rw [hy, Option.bind_eq_some_iff] at h2
      obtain ⟨cs1, h3, h5⟩ := h2
      rw [hc] at h3
      obtain ⟨a', ha⟩ := hone _ _ _ h5 (hwe y.1 (List.mem_map_of_mem (List.mem_of_getElem? hy)))
      exact ⟨a', cs1, ha, (cells_at h3).2⟩
    refine ⟨nilVs a len cap', some a, cap', ?_⟩
    have hlist : ∀ n, n ≤ len → ∃ l : List α, l.length = n ∧ ∀ i r, l[i]? = some r → ∃ cs, P r cs ∧ ∀ c, c < k → W.cell? ((a.add (i * k)).add c) = cs[c]? := fun n => by
      induction n with
      | zero => exact fun _ => ⟨[], rfl, fun i r hr => by simp at hr⟩
      | succ n ih =>
        intro hn
        obtain ⟨l, hl, hp⟩ := ih (by omega)
        obtain ⟨a', cs, h1, h2⟩ := hone2 n (by omega)
        refine ⟨l ++ [a'], by simp [hl], fun i r hr => ?_⟩
        rcases Nat.lt_or_ge i n with hi | hi
        · rw [List.getElem?_append_left (by omega)] at hr
          exact hp i r hr
        · have hin : i = n := by
            have := (List.getElem?_eq_some_iff.1 hr).1
            simp at this
            omega
          subst hin
          rw [← hl] at hr
          simp at hr
          subst hr
          exact ⟨cs, h1, h2⟩
    obtain ⟨l, hl, hp⟩ := hlist len (Nat.le_refl _)
    refine ⟨l, by rw [hl], ?_, fun i r hr => ?_⟩
    · refine Nat.le_trans (Nat.mul_le_mul_right _ ?_) hw0
      rw [hl, List.length_map, helen]
      omega
    · obtain ⟨cs, h1, h2⟩ := hp i r hr
      have hi : i < len := by have := (List.getElem?_eq_some_iff.1 hr).1; omega
      have h4 := hel 0 (by omega)
      obtain ⟨y, hy⟩ : ∃ y, elems[0]? = some y := ⟨_, List.getElem?_eq_getElem (by omega)⟩
      rw [hy, Option.bind_eq_some_iff] at h4
      obtain ⟨cs1, h5, _⟩ := h4
      rw [hc] at h5
      obtain ⟨q1, q2⟩ := cells_at h5
      have q3 := q2 0 hk
      rw [List.getElem?_eq_getElem (by omega), show (a.add (0 * k)).add 0 = a by simp [Addr.add]] at q3
      obtain ⟨ab, ao, hb⟩ := spot_none q3
      subst hb
      refine ⟨ab, ao, cs, rfl, cell_lt q3, h1, fun c hc2 => ?_⟩
      rw [← h2 c hc2, addr_plus, addr_plus]
theorem w64 {n : Int} (h : (Lit.int .i64 n).wf = true) : -9223372036854775808 ≤ n ∧ n ≤ 9223372036854775807 := by
  have e1 : IntKind.i64.min = -9223372036854775808 := by decide
  have e2 : IntKind.i64.max = 9223372036854775807 := by decide
  have h : (decide (IntKind.i64.min ≤ n) && decide (n ≤ IntKind.i64.max)) = true := h
  rw [Bool.and_eq_true, decide_eq_true_eq, decide_eq_true_eq, e1, e2] at h
  exact h
set_option maxRecDepth 100000 in
/-- Numbers. -/
theorem ints_read {fuel : Nat} {v : Value} {x : DataW H × List MemPlace} (h : DataW.trod enc Tryz.prog W 0 (fun _ => true) true fuel 54 [v] = some x) (hw : ∀ y ∈ x.1.weights Tryz.prog 54, y ≤ reachBytes) : NilV v ∧ ∃ l, IRd W W.heap.size v l := by
  obtain ⟨hn, a, c, l, e, hb, hx⟩ := slice_read (α := Int) (by decide) Tryz.underlying54 Tryz.c_int h hw (fun n cs => cs = [.int .i64 n]) (fun n cs y hy _ => by
    obtain ⟨m, e, _⟩ := DataW.trod_int Tryz.underlying3 hy
    exact ⟨m, e⟩)
  rw [Tryz.b_int] at hb
  unfold reachBytes at hb
  refine ⟨hn, l, a, c, e, by omega, fun j r hr => ?_⟩
  obtain ⟨g, o, cs, e1, hg, e2, hc⟩ := hx j r hr
  subst e2
  have := hc 0 (by decide)
  rw [Nat.mul_one] at this
  exact ⟨g, o, e1, hg, this⟩
set_option maxRecDepth 100000 in
/-- Pairs. -/
theorem pairs_read {fuel : Nat} {v : Value} {x : DataW H × List MemPlace} (h : DataW.trod enc Tryz.prog W 0 (fun _ => true) true fuel 33 [v] = some x) (hw : ∀ y ∈ x.1.weights Tryz.prog 33, y ≤ reachBytes) : NilV v ∧ ∃ l, ORd W W.heap.size v l := by
  obtain ⟨hn, a, c, l, e, hb, hx⟩ := slice_read (α := Int × Int) (by decide) Tryz.underlying33 Tryz.c_pair h hw (fun n cs => cs = [.int .i64 n.1, .int .i64 n.2]) (fun n cs y hy _ => by
    obtain ⟨xs, m, _, _, hl, hlen, hf⟩ := DataW.trod_array Tryz.underlying71 hy
    rw [Tryz.c_pair] at hl
    have f0 := hf 0 (by decide)
    have f1 := hf 1 (by decide)
    rw [Tryz.c_int, List.getElem?_eq_getElem (by omega)] at f0 f1
    obtain ⟨m0, e0, _⟩ := DataW.trod_int Tryz.underlying3 f0
    obtain ⟨m1, e1, _⟩ := DataW.trod_int Tryz.underlying3 f1
    match cs, hl with
    | [u0, u1], _ =>
      have e0 : [u0] = [Value.int .i64 m0] := e0
      have e1 : [u1] = [Value.int .i64 m1] := e1
      injection e0 with e0
      injection e1 with e1
      exact ⟨(m0, m1), by rw [e0, e1]⟩)
  rw [Tryz.b_pair] at hb
  unfold reachBytes at hb
  refine ⟨hn, l, a, c, e, by omega, fun j r hr => ?_⟩
  obtain ⟨g, o, cs, e1, hg, e2, hc⟩ := hx j r hr
  subst e2
  exact ⟨g, o, e1, hg, hc 0 (by decide), hc 1 (by decide)⟩
set_option maxRecDepth 100000 in
/-- Rules. -/
theorem rules_read {fuel : Nat} {v : Value} {x : DataW H × List MemPlace} (h : DataW.trod enc Tryz.prog W 0 (fun _ => true) true fuel 59 [v] = some x) (hw : ∀ y ∈ x.1.weights Tryz.prog 59, y ≤ reachBytes) :
    ∃ l, RRd W W.heap.size v l ∧ ∀ (g o i n c : Nat) (bv : Value), v = .slice (some ⟨g, o, none⟩) n c → i < l.length → W.cell? ⟨g, o + i * 3 + 2, none⟩ = some bv → NilV bv := by
  obtain ⟨hn, a, c, l, e, hb, hx⟩ := slice_read (α := Rl) (by decide) Tryz.underlying59 Tryz.c_rule h hw (fun r cs => ∃ bv, cs = [.int .i64 r.kind, .int .i64 r.head, bv] ∧ IRd W W.heap.size bv r.body ∧ NilV bv) (fun n cs y hy hwy => by
    obtain ⟨xs, m, _, hy1, hl, hlen, hf⟩ := DataW.trod_struct Tryz.underlying62 hy
    rw [Tryz.c_rule] at hl
    have hlen : xs.length = 3 := hlen
    match cs, hl, xs, hlen with
    | [u0, u1, u2], _, [y0, y1, y2], _ =>
      have f0 := hf 0 _ rfl
      have f1 := hf 1 _ rfl
      have f2 := hf 2 _ rfl
      change DataW.trod enc Tryz.prog W 0 (fun _ => true) true m 3 ((List.drop 0 [u0, u1, u2]).take (Tryz.prog.cellsOf 3)) = some y0 at f0
      change DataW.trod enc Tryz.prog W 0 (fun _ => true) true m 3 ((List.drop 1 [u0, u1, u2]).take (Tryz.prog.cellsOf 3)) = some y1 at f1
      change DataW.trod enc Tryz.prog W 0 (fun _ => true) true m 54 ((List.drop 2 [u0, u1, u2]).take (Tryz.prog.cellsOf 54)) = some y2 at f2
      rw [Tryz.c_int] at f0 f1
      rw [Tryz.c_ints] at f2
      obtain ⟨m0, e0, _⟩ := DataW.trod_int Tryz.underlying3 f0
      obtain ⟨m1, e1, _⟩ := DataW.trod_int Tryz.underlying3 f1
      have e0 : [u0] = [Value.int .i64 m0] := e0
      have e1 : [u1] = [Value.int .i64 m1] := e1
      injection e0 with e0
      injection e1 with e1
      have hw2 : ∀ z ∈ y2.1.weights Tryz.prog 54, z ≤ reachBytes := fun z hz => hwy z (by
        rw [hy1]
        simp only [DataW.weights, Tryz.underlying62]
        change z ∈ y0.1.weights Tryz.prog 3 ++ (y1.1.weights Tryz.prog 3 ++ (y2.1.weights Tryz.prog 54 ++ _))
        exact List.mem_append_right _ (List.mem_append_right _ (List.mem_append_left _ hz)))
      obtain ⟨hnv, bl, hbl⟩ := ints_read (v := u2) f2 hw2
      exact ⟨⟨m0, m1, bl⟩, u2, by rw [e0, e1], hbl, hnv⟩)
  rw [Tryz.b_rule] at hb
  unfold reachBytes at hb
  refine ⟨l, ⟨a, c, e, by omega, fun j r hr => ?_⟩, fun g o i n c' bv ev hi hcell => ?_⟩
  · obtain ⟨g, o, cs, e1, hg, ⟨bv, e2, hbv, _⟩, hc⟩ := hx j r hr
    subst e2
    exact ⟨g, o, bv, e1, hg, hc 0 (by decide), hc 1 (by decide), hc 2 (by decide), hbv⟩
  · obtain ⟨g', o', cs, e1, hg, ⟨bv', e2, _, hnv⟩, hc⟩ := hx i _ (List.getElem?_eq_getElem hi)
    subst e2
    rw [e] at ev
    injection ev with ev _ _
    rw [e1] at ev
    injection ev with ev
    injection ev with ev1 ev2 _
    subst ev1 ev2
    have h9 := (hc 2 (by decide)).symm.trans hcell
    have h9 : some bv' = some bv := h9
    injection h9 with h9
    rw [← h9]
    exact hnv
set_option maxRecDepth 100000 in
/-- A theory. -/
theorem thy_arg {base : Nat} {v : Value} {d : DataW H} {ps : List MemPlace}
    (hval : Value.okWide Tryz.prog W .any base 22 v) (hd : DataW.Trod enc Tryz.prog W 0 (fun _ => true) true 22 v d ps) (hw : ∀ z ∈ d.weights Tryz.prog 22, z ≤ reachBytes) :
    v = .pointer none ∨ ∃ pb po T rv ov, v = .pointer (some ⟨pb, po, none⟩) ∧ TP W W.heap.size T rv ov pb po := by
  rcases Go.ChangeShapes.open_ptr Tryz.underlying22 (by rw [Tryz.c_thy]; decide) hval hd with ⟨h, _, _⟩ | ⟨pb, po, cs, y, fuel, rfl, rfl, _, hl, hcell, hy⟩
  · exact .inl h
  right
  rw [Tryz.c_thy] at hl hcell
  obtain ⟨xs, m, _, hy1, _, hlen, hf⟩ := DataW.trod_struct Tryz.underlying61 hy
  have hlen : xs.length = 3 := hlen
  match cs, hl, xs, hlen with
  | [u0, u1, u2], _, [y0, y1, y2], _ =>
    have f0 := hf 0 _ rfl
    have f1 := hf 1 _ rfl
    have f2 := hf 2 _ rfl
    change DataW.trod enc Tryz.prog W 0 (fun _ => true) true m 3 ((List.drop 0 [u0, u1, u2]).take (Tryz.prog.cellsOf 3)) = some y0 at f0
    change DataW.trod enc Tryz.prog W 0 (fun _ => true) true m 59 ((List.drop 1 [u0, u1, u2]).take (Tryz.prog.cellsOf 59)) = some y1 at f1
    change DataW.trod enc Tryz.prog W 0 (fun _ => true) true m 33 ((List.drop 2 [u0, u1, u2]).take (Tryz.prog.cellsOf 33)) = some y2 at f2
    rw [Tryz.c_int] at f0
    rw [Tryz.c_rules] at f1
    rw [Tryz.c_pairs] at f2
    obtain ⟨m0, e0, _, hwf⟩ := DataW.trod_int Tryz.underlying3 f0
    have e0 : [u0] = [Value.int .i64 m0] := e0
    injection e0 with e0
    have hww : ∀ z, z ∈ y0.1.weights Tryz.prog 3 ++ (y1.1.weights Tryz.prog 59 ++ (y2.1.weights Tryz.prog 33 ++ [])) → z ≤ reachBytes := fun z hz => hw z (by
      rw [hy1]
      simp only [DataW.weights, Tryz.underlying22, Tryz.underlying61]
      exact hz)
    obtain ⟨rs, hrs, hnb⟩ := rules_read (v := u1) f1 (fun z hz => hww z (List.mem_append_right _ (List.mem_append_left _ hz)))
    obtain ⟨hno, ov, hov⟩ := pairs_read (v := u2) f2 (fun z hz => hww z (List.mem_append_right _ (List.mem_append_right _ (List.mem_append_left _ hz))))
    have c0 : W.cell? ⟨pb, po, none⟩ = some u0 := hcell 0 (by decide)
    have c1 : W.cell? ⟨pb, po + 1, none⟩ = some u1 := hcell 1 (by decide)
    have c2 : W.cell? ⟨pb, po + 2, none⟩ = some u2 := hcell 2 (by decide)
    have hb := w64 hwf
    rw [e0] at c0
    exact ⟨pb, po, ⟨m0, rs, ov⟩, u1, u2, rfl, ⟨c0, c1, c2, cell_lt c1, ⟨hrs, hov, hb.1, hb.2⟩, hnb, hno⟩⟩
end
end Go.Proofs.YtmbclnaenjcocaaGreatDoor
