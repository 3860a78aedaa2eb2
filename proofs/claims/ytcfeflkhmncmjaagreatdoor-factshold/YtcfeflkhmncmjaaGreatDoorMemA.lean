/-
  What was met, in a map whose keys hold pointers.
-/
import Derived.Test.YtcfeflkhmncmjaaGreatDoorPlainA
import Derived.Laws.StructEq
import Derived.ChangeKeysEq
import Derived.LaidEqlPtr
import Derived.Maps.OwnSet
import Derived.Maps.Ext
import Derived.Deep.WholeRow
import Derived.Test.YtcfeflkhmncmjaaGreatDoorProg
import Derived.WalkKit
import Derived.Below
import Derived.Outline
import Derived.Laws.OwnMore
import Derived.OneCell
import Derived.Deep.OwnRows
import Derived.Deep.MidRow
import Derived.Maps.AppendAt
import Derived.Deep.QuietTactic
import Derived.BigQuiet
import Derived.Deep.RegionLaw
import Derived.Deep.RegionWith
import Derived.Deep.DeepCutAuto
import Derived.Deep.RegionLawGrows
namespace Go.Proofs.YtcfeflkhmncmjaaGreatDoor
open Go.RowKit Go.Maps Go.ChangeMaps

/-- A block that holds cells, none of them frozen. -/
def PlainAt (w : World) (a : Addr) : Prop := ∃ c t, w.heap[a.block]? = some (.cells c t (0, 0))
theorem PlainAt.on {w w' : World} {a : Addr} (h : PlainAt w a) (hb : w'.heap[a.block]? = w.heap[a.block]?) : PlainAt w' a := by
  obtain ⟨c, t, h⟩ := h
  exact ⟨c, t, hb.trans h⟩
def askV (k : Ky) : Value := .agg #[.pointer (some k.1), .int .i64 k.2.1, .bool k.2.2]
def ansV (x : Int × Bool) : Value := .agg #[.int .i64 x.1, .bool x.2]
theorem Tryz.askFields : ((Tryz.prog.fieldsOf 88).toList.map fun f => (f.name, f.type, f.offset)) = [("node", 86, 0), ("who", 3, 1), ("sum", 4, 2)] := by kernel_rfl
theorem Tryz.askU : Tryz.prog.underlying 88 = some (.struct (Tryz.prog.fieldsOf 88)) := by kernel_rfl
theorem Tryz.askH : Tryz.prog.stoodInHeld 88 = false := by kernel_rfl
theorem Tryz.nodeI : ∃ j, Tryz.prog.info? 44 = some j ∧ j.size ≠ 0 := by
  have h : (Tryz.prog.info? 44).map (fun j => j.size) = some 4 := by kernel_rfl
  cases hj : Tryz.prog.info? 44 with
  | none => rw [hj] at h; cases h
  | some j =>
    rw [hj] at h
    simp only [Option.map_some, Option.some.injEq] at h
    exact ⟨j, rfl, by omega⟩
theorem eqF_cons (d : Nat) (xs ys : Array Value) (f : Field) (fs : List Field) (w : World) (h : f.name ≠ "_") {a b : Value} (ha : (part f.type xs f.offset).run Tryz.prog w = .ok a w) (hb : (part f.type ys f.offset).run Tryz.prog w = .ok b w) {r : Bool} (hr : (Op.equalIn d f.type a b).run Tryz.prog w = .ok r w) {R : Bool} (hR : (Op.eqFields d xs ys fs).run Tryz.prog w = .ok R w) : (Op.eqFields d xs ys (f :: fs)).run Tryz.prog w = .ok (r && R) w := by
  rw [Op.eqFields, if_pos h, Sem.run_bind, ha, Result.andThen_ok, Sem.run_bind, hb, Result.andThen_ok, Sem.run_bind, hr, Result.andThen_ok]
  cases r
  · rfl
  · exact hR
theorem eqF_all (d : Nat) (xs ys : Array Value) (w : World) : ∀ (fs : List Field) (ts : List (String × Nat × Nat)) (rs : List Bool), (fs.map fun f => (f.name, f.type, f.offset)) = ts → ts.length = rs.length →
    (∀ (i : Nat) (t : String × Nat × Nat) (r : Bool), ts[i]? = some t → rs[i]? = some r → t.1 ≠ "_" ∧ ∃ a b, (part t.2.1 xs t.2.2).run Tryz.prog w = .ok a w ∧ (part t.2.1 ys t.2.2).run Tryz.prog w = .ok b w ∧ (Op.equalIn d t.2.1 a b).run Tryz.prog w = .ok r w) →
    (Op.eqFields d xs ys fs).run Tryz.prog w = .ok (rs.all id) w
  | [], ts, rs, e, hl, _ => by
    subst e
    obtain rfl := List.eq_nil_of_length_eq_zero hl.symm
    rfl
  | f :: fs, ts, rs, e, hl, h => by
    subst e
    match rs, hl with
    | r :: rs, hl =>
      obtain ⟨h1, a, b, ha, hb, hr⟩ := h 0 _ r rfl rfl
      have ih := eqF_all d xs ys w fs _ rs rfl (by simpa using hl) (fun i t r' ht hr' => h (i + 1) t r' (by simpa using ht) (by simpa using hr'))
      rw [List.all_cons]
      exact eqF_cons d xs ys f fs w h1 ha hb hr ih
theorem part_ask0 (x0 x1 x2 : Value) (w : World) : (part 86 #[x0, x1, x2] 0).run Tryz.prog w = .ok x0 w := by kernel_rfl
theorem part_ask1 (x0 x1 x2 : Value) (w : World) : (part 3 #[x0, x1, x2] 1).run Tryz.prog w = .ok x1 w := by kernel_rfl
theorem part_ask2 (x0 x1 x2 : Value) (w : World) : (part 4 #[x0, x1, x2] 2).run Tryz.prog w = .ok x2 w := by kernel_rfl
theorem eq_ptr (d : Nat) (a b : Addr) (w : World) (ha : PlainAt w a) (hb : PlainAt w b) : (Op.equalIn (d + 1) 86 (.pointer (some a)) (.pointer (some b))).run Tryz.prog w = .ok (decide (a = b)) w := by
  obtain ⟨j, hj, hs⟩ := Tryz.nodeI
  obtain ⟨ca, ta, ha⟩ := ha
  obtain ⟨cb, tb, hb⟩ := hb
  by_cases e : a = b
  · subst e
    simp [Op.equalIn, run_underlying Tryz.underlying86, sizeOf, typeInfo, hj, run_sameAddr_same]
  · simp [Op.equalIn, run_underlying Tryz.underlying86, sizeOf, typeInfo, hj, hs, run_sameAddr_other w e ha hb, e]
theorem eq_boolB (d : Nat) (a b : Bool) (w : World) : (Op.equalIn (d + 1) 4 (.bool a) (.bool b)).run Tryz.prog w = .ok (a == b) w := by
  simp [Op.equalIn, run_underlying Tryz.underlying4]
set_option maxRecDepth 20000 in
theorem eq_ask (k k' : Ky) (w : World) (h : PlainAt w k.1) (h' : PlainAt w k'.1) : (Op.equal 88 (askV k) (askV k')).run Tryz.prog w = .ok (decide (k = k')) w := by
  obtain ⟨a, n, s⟩ := k
  obtain ⟨a', n', s'⟩ := k'
  show (Op.equalIn (9999 + 1) 88 _ _).run Tryz.prog w = _
  unfold askV
  rw [run_equalIn_struct w 9999 _ _ _ Tryz.askU Tryz.askH]
  have hall := eqF_all 9999 #[.pointer (some a), .int .i64 n, .bool s] #[.pointer (some a'), .int .i64 n', .bool s'] w _ _ [decide (a = a'), n == n', s == s'] Tryz.askFields rfl fun i t q ht hq => by
    match i, ht, hq with
    | 0, ht, hq => injection ht with ht; injection hq with hq; subst ht hq; exact ⟨by decide, _, _, part_ask0 _ _ _ w, part_ask0 _ _ _ w, eq_ptr 9998 _ _ w h h'⟩
    | 1, ht, hq => injection ht with ht; injection hq with hq; subst ht hq; exact ⟨by decide, _, _, part_ask1 _ _ _ w, part_ask1 _ _ _ w, run_equalIn_int w 9998 _ _ _ _ _ Tryz.underlying3⟩
    | 2, ht, hq => injection ht with ht; injection hq with hq; subst ht hq; exact ⟨by decide, _, _, part_ask2 _ _ _ w, part_ask2 _ _ _ w, eq_boolB 9998 _ _ w⟩
  rw [hall]
  refine congrArg (fun b => Result.ok b w) ?_
  by_cases e : (a, n, s) = (a', n', s')
  · rw [decide_eq_true e]
    injection e with e1 e2
    injection e2 with e2 e3
    subst e1 e2 e3
    simp
  · rw [decide_eq_false e, ← Bool.not_eq_true, List.all_eq_true]
    intro hh
    apply e
    have h1 := hh (decide (a = a')) (by simp)
    have h2 := hh (n == n') (by simp)
    have h3 := hh (s == s') (by simp)
    simp only [id, decide_eq_true_eq, beq_iff_eq] at h1 h2 h3
    rw [h1, h2, h3]
/-! Maps, whatever their keys and elements are. -/
structure KeyS (T : Nat) (K : Type) [DecidableEq K] where
  v : K → Value
  ok : World → K → Prop
  str : ∃ fs, Tryz.prog.underlying T = some (.struct fs)
  agg : ∀ k, ∃ cs, v k = .agg cs
  eq : ∀ k k' w, ok w k → ok w k' → (Op.equal T (v k) (v k')).run Tryz.prog w = .ok (decide (k = k')) w
  check : ∀ em k w, (Instr.checkKey em 10000 T (v k)).run Tryz.prog w = .ok () w
  stays : ∀ k w, (Instr.keyThatStays (v k) (v k)).run Tryz.prog w = .ok (v k) w
section
variable {T : Nat} {K E : Type} [DecidableEq K] (S : KeyS T K) (eV : E → Value)
theorem find_k {w : World} {k : K} (hk : S.ok w k) : ∀ (es : List MapEntry) (L : List (K × E)) (i : Nat), es.map (fun e => (e.key, e.val)) = L.map (fun p => (S.v p.1, eV p.2)) → (∀ p ∈ L, S.ok w p.1) →
    ((∀ p ∈ L, p.1 ≠ k) ∧ (Instr.findAsking T (S.v k) es i).run Tryz.prog w = .ok none w) ∨ ∃ j x, L[j]? = some (k, x) ∧ (Instr.findAsking T (S.v k) es i).run Tryz.prog w = .ok (some (i + j, eV x)) w
  | [], L, i, e, _ => by
    have : L = [] := by simpa using e.symm
    subst this
    exact .inl ⟨by simp, by simp [Instr.findAsking]⟩
  | x :: es, L, i, e, hp => by
    match L, e, hp with
    | [], e, _ => simp at e
    | p :: L, e, hp =>
      obtain ⟨pk, px⟩ := p
      simp only [List.map_cons, List.cons.injEq, Prod.mk.injEq] at e
      have hq := S.eq k pk w hk (hp (pk, px) List.mem_cons_self)
      by_cases hh : k = pk
      · subst hh
        rw [decide_eq_true rfl] at hq
        refine .inr ⟨0, px, rfl, ?_⟩
        rw [Instr.findAsking, Sem.run_bind, e.1.1, hq, Result.andThen_ok, e.1.2]
        rfl
      · rw [decide_eq_false hh] at hq
        have hrun : (Instr.findAsking T (S.v k) (x :: es) i).run Tryz.prog w = (Instr.findAsking T (S.v k) es (i + 1)).run Tryz.prog w := by
          rw [Instr.findAsking, Sem.run_bind, e.1.1, hq, Result.andThen_ok]
          rfl
        rw [hrun]
        rcases find_k hk es L (i + 1) e.2 (fun p h => hp p (List.mem_cons_of_mem _ h)) with ⟨h1, h2⟩ | ⟨j, y, h1, h2⟩
        · refine .inl ⟨fun p h => ?_, h2⟩
          rcases List.mem_cons.1 h with rfl | h
          · exact fun e => hh e.symm
          · exact h1 p h
        · exact .inr ⟨j + 1, y, by simpa using h1, by rw [h2, show i + 1 + j = i + (j + 1) by omega]⟩
theorem findKey_k {w : World} {k : K} (es : List MapEntry) {L : List (K × E)} (he : es.map (fun e => (e.key, e.val)) = L.map (fun p => (S.v p.1, eV p.2))) : (Instr.findKey T (S.v k) es).run Tryz.prog w = (Instr.findAsking T (S.v k) es 0).run Tryz.prog w := by
  obtain ⟨fs, hfs⟩ := S.str
  unfold Instr.findKey
  rw [Sem.run_bind, run_underlying hfs, Result.andThen_ok]
  match es, L, he with
  | [], _, _ => simp [Instr.findNow, Instr.findAsking]
  | x :: es, [], he => simp at he
  | x :: es, p :: L, he =>
    simp only [List.map_cons, List.cons.injEq, Prod.mk.injEq] at he
    obtain ⟨cs, hc⟩ := S.agg k
    have hs : Instr.findNow (.struct fs) (S.v k) (x :: es) 0 = none := by
      unfold Instr.findNow
      rw [hc]
      rfl
    rw [hs]
/-- The map holds these, and nothing else. -/
structure MapL (w : World) (b : Nat) (m : K → Option E) (es : Array MapEntry) (clock : Nat) (L : List (K × E)) : Prop where
  blk : w.heap[b]? = some (.map es clock)
  is : es.toList.map (fun e => (e.key, e.val)) = L.map (fun p => (S.v p.1, eV p.2))
  pl : ∀ p ∈ L, S.ok w p.1
  nd : L.Pairwise fun p q => p.1 ≠ q.1
  mem : ∀ k x, m k = some x ↔ (k, x) ∈ L
def MapK (w : World) (b : Nat) (m : K → Option E) : Prop := ∃ es clock L, MapL S eV w b m es clock L
def putK (m : K → Option E) (k : K) (x : E) : K → Option E := fun k' => if k' = k then some x else m k'
theorem putK_same (m : K → Option E) (k : K) (x : E) : putK m k x k = some x := by simp [putK]
theorem putK_other (m : K → Option E) {k k' : K} (x : E) (h : k' ≠ k) : putK m k x k' = m k' := by simp [putK, h]
variable {S eV}
theorem MapK.on {w w' : World} {b : Nat} {m : K → Option E} (h : MapK S eV w b m) (hb : w'.heap[b]? = w.heap[b]?) (hp : ∀ k x, m k = some x → S.ok w' k) : MapK S eV w' b m := by
  obtain ⟨es, cl, L, h⟩ := h
  exact ⟨es, cl, L, hb.trans h.blk, h.is, fun p hpp => hp p.1 p.2 ((h.mem _ _).2 hpp), h.nd, h.mem⟩
theorem MapK.lt {w : World} {b : Nat} {m : K → Option E} (h : MapK S eV w b m) : b < w.heap.size := by
  obtain ⟨es, cl, L, h⟩ := h
  exact (Array.getElem?_eq_some_iff.1 h.blk).1
theorem MapK.notCells {w : World} {b : Nat} {m : K → Option E} (h : MapK S eV w b m) (c : Array Value) (t : Nat) (f : Nat × Nat) : w.heap[b]? ≠ some (.cells c t f) := by
  obtain ⟨es, cl, L, h⟩ := h
  rw [h.blk]
  intro e
  cases e
theorem MapK.plain {w : World} {b : Nat} {m : K → Option E} (h : MapK S eV w b m) {k : K} {x : E} (hk : m k = some x) : S.ok w k := by
  obtain ⟨es, cl, L, h⟩ := h
  exact h.pl (k, x) ((h.mem _ _).1 hk)
theorem MapK.look {w : World} {b : Nat} {m : K → Option E} (h : MapK S eV w b m) {M TE : Nat} (hM : Tryz.prog.underlying M = some (.map T TE)) {z : E} (hz : (zeroValue TE).run Tryz.prog w = .ok (eV z) w) {k : K} (hk : S.ok w k) (ok : Bool) :
    (Instr.lookup M (.map (some b)) (S.v k) ok).run Tryz.prog w = .ok (if ok then .tuple #[eV ((m k).getD z), .bool (m k).isSome] else eV ((m k).getD z)) w := by
  obtain ⟨es, cl, L, h⟩ := h
  have hf := find_k S eV hk es.toList L 0 h.is h.pl
  rw [← findKey_k S eV es.toList h.is] at hf
  unfold Instr.lookup
  rcases hf with ⟨hn, hf⟩ | ⟨j, x, hj, hf⟩
  · have hm : m k = none := by
      cases hx : m k with
      | none => rfl
      | some x => exact absurd rfl (hn _ ((h.mem _ _).1 hx))
    simp [run_underlying hM, MapKept.run_getObj_map h.blk, S.check, hf, hm, hz, Result.andThen]
  · have hm : m k = some x := (h.mem _ _).2 (List.mem_of_getElem? hj)
    simp [run_underlying hM, MapKept.run_getObj_map h.blk, S.check, hf, hm, Result.andThen]
set_option maxRecDepth 100000 in
theorem MapK.store {w : World} {b : Nat} {m : K → Option E} (h : MapK S eV w b m) {M TE : Nat} (hM : Tryz.prog.underlying M = some (.map T TE)) (hkeep : ∀ (o : Obj) (k : K), S.ok w k → S.ok (setBlock w b o) k) {k : K} (hk : S.ok w k) (x : E) :
    ∃ w', (Instr.mapUpdate M (.map (some b)) (S.v k) (eV x)).run Tryz.prog w = .ok () w' ∧ MapK S eV w' b (putK m k x) ∧ w.grownBy w' (some b) := by
  obtain ⟨es, cl, L, h⟩ := h
  have hf := find_k S eV hk es.toList L 0 h.is h.pl
  rw [← findKey_k S eV es.toList h.is] at hf
  have hgr : ∀ o : Obj, w.grownBy (setBlock w b o) (some b) := fun o => ⟨rfl, rfl, rfl, by simp [setBlock], fun i _ hi => heap_setBlock_other h.blk _ (fun e => hi (by rw [e]))⟩
  have hlen : es.size = L.length := by
    have := congrArg List.length h.is
    simpa using this
  rcases hf with ⟨hn, hf⟩ | ⟨j, y, hj, hf⟩
  · refine ⟨setBlock w b (.map (es.push { key := S.v k, val := eV x, born := cl }) (cl + 1)), ?_, ⟨es.push { key := S.v k, val := eV x, born := cl }, cl + 1, L ++ [(k, x)], ?_⟩, hgr _⟩
    · simp [Instr.mapUpdate, run_underlying hM, MapKept.run_getObj_map h.blk, S.check, hf, MapKept.run_setObj_map _ h.blk, Result.andThen, setBlock]
    · refine ⟨heap_setBlock_same h.blk _, by simp [h.is], fun p hp => ?_, ?_, fun k' x' => ?_⟩
      · rcases List.mem_append.1 hp with hp | hp
        · exact hkeep _ _ (h.pl p hp)
        · obtain rfl : p = (k, x) := by simpa using hp
          exact hkeep _ _ hk
      · refine List.pairwise_append.2 ⟨h.nd, by simp, fun p hp q hq => ?_⟩
        obtain rfl : q = (k, x) := by simpa using hq
        exact hn p hp
      · by_cases e : k' = k
        · subst e
          rw [putK_same, List.mem_append]
          constructor
          · intro hh
            injection hh with hh
            subst hh
            exact .inr (by simp)
          · rintro (hh | hh)
            · exact absurd rfl (hn _ hh)
            · simp at hh
              rw [hh]
        · rw [putK_other _ _ e, h.mem, List.mem_append]
          constructor
          · exact fun hh => .inl hh
          · rintro (hh | hh)
            · exact hh
            · simp at hh
              exact absurd hh.1 e
  · have hjl := (List.getElem?_eq_some_iff.1 hj).1
    have hje : j < es.size := by omega
    obtain ⟨e0, he0⟩ : ∃ e0, es[j]? = some e0 := ⟨es[j], Array.getElem?_eq_getElem hje⟩
    have hek : e0.key = S.v k := by
      have h1 := congrArg (fun l => l[j]?) h.is
      simp only [List.getElem?_map, Array.getElem?_toList, he0, hj, Option.map_some] at h1
      injection h1 with h1
      injection h1
    refine ⟨setBlock w b (.map (es.modify j fun e => { e with key := S.v k, val := eV x }) cl), ?_, ⟨es.modify j fun e => { e with key := S.v k, val := eV x }, cl, L.set j (k, x), ?_⟩, hgr _⟩
    · simp [Instr.mapUpdate, run_underlying hM, MapKept.run_getObj_map h.blk, S.check, hf, he0, hek, S.stays, MapKept.run_setObj_map _ h.blk, Result.andThen, setBlock]
    · have hother : ∀ (i : Nat) p, L[i]? = some p → p.1 = k → i = j := fun i p hi hp => by
        rcases Nat.lt_trichotomy i j with hlt | rfl | hlt
        · have := List.pairwise_iff_getElem.1 h.nd i j (by omega) hjl hlt
          rw [(List.getElem?_eq_some_iff.1 hi).2, (List.getElem?_eq_some_iff.1 hj).2] at this
          exact absurd hp this
        · rfl
        · have := List.pairwise_iff_getElem.1 h.nd j i hjl (List.getElem?_eq_some_iff.1 hi).1 hlt
          rw [(List.getElem?_eq_some_iff.1 hi).2, (List.getElem?_eq_some_iff.1 hj).2] at this
          exact absurd hp.symm this
      have hset : ∀ p, p ∈ L.set j (k, x) ↔ p = (k, x) ∨ (p ∈ L ∧ p.1 ≠ k) := fun p => by
        constructor
        · intro hp
          obtain ⟨i, hi, rfl⟩ := List.getElem_of_mem hp
          rw [List.length_set] at hi
          rw [List.getElem_set]
          split
          · exact .inl rfl
          · rename_i hne
            refine .inr ⟨List.getElem_mem _, fun e => hne (hother i _ (List.getElem?_eq_getElem hi) e).symm⟩
        · rintro (rfl | ⟨hp, hne⟩)
          · exact List.mem_set hjl _
          · obtain ⟨i, hi, rfl⟩ := List.getElem_of_mem hp
            have hij : i ≠ j := fun e => hne (by subst e; rw [(List.getElem?_eq_some_iff.1 hj).2])
            refine List.mem_of_getElem? (i := i) ?_
            rw [List.getElem?_set_ne (fun e => hij e.symm)]
            exact List.getElem?_eq_getElem hi
      refine ⟨heap_setBlock_same h.blk _, ?_, fun p hp => ?_, ?_, fun k' x' => ?_⟩
      · refine List.ext_getElem? fun i => ?_
        have h1 := congrArg (fun l => l[i]?) h.is
        simp only [List.getElem?_map, Array.getElem?_toList, Array.getElem?_modify, List.getElem?_set] at h1 ⊢
        by_cases e : j = i
        · subst e
          simp [hjl, he0]
        · simp only [e, if_false]
          exact h1
      · rcases (hset p).1 hp with rfl | ⟨hp, _⟩
        · exact hkeep _ _ hk
        · exact hkeep _ _ (h.pl p hp)
      · refine List.pairwise_iff_getElem.2 fun i i' hi hi' hlt => ?_
        rw [List.length_set] at hi hi'
        have h1 := List.pairwise_iff_getElem.1 h.nd i i' hi hi' hlt
        have hjk : L[j].1 = k := by rw [(List.getElem?_eq_some_iff.1 hj).2]
        rw [List.getElem_set, List.getElem_set]
        by_cases e1 : j = i
        · subst e1
          rw [if_pos rfl, if_neg (by omega)]
          rw [hjk] at h1
          exact h1
        · rw [if_neg e1]
          by_cases e2 : j = i'
          · subst e2
            rw [if_pos rfl]
            rw [hjk] at h1
            exact h1
          · rw [if_neg e2]
            exact h1
      · by_cases e : k' = k
        · subst e
          rw [putK_same, hset]
          constructor
          · intro hh
            injection hh with hh
            subst hh
            exact .inl rfl
          · rintro (hh | ⟨_, hh⟩)
            · injection hh with _ hh
              rw [hh]
            · exact absurd rfl hh
        · rw [putK_other _ _ e, h.mem, hset]
          constructor
          · exact fun hh => .inr ⟨hh, e⟩
          · rintro (hh | ⟨hh, _⟩)
            · injection hh with hh _
              exact absurd hh e
            · exact hh
/-- 'v, ok := m[k]'. -/
theorem wpList_lookup_k (w : World) {ops : Array Oper} {rest : List Oper} {o : Oper} {a : Act} {Q : Exit → Act → World → Prop} (hg : o.guard = none) (mo xo : Operand) {M TE : Nat} (hop : o.op = Op.lookup M mo xo true) (hM : Tryz.prog.underlying M = some (.map T TE)) {z : E} (hz : (zeroValue TE).run Tryz.prog w = .ok (eV z) w)
    (b : Nat) (m : K → Option E) (hm : a.eval mo = .map (some b)) (hown : MapK S eV w b m) (k : K) (hx : a.eval xo = S.v k) (hk : S.ok w k) (r : Value) (is : Bool) (hv : eV ((m k).getD z) = r) (hi : (m k).isSome = is)
    (hK : wpList Tryz.prog ops Q rest (a.put o.dst (.tuple #[r, .bool is])) w) : wpList Tryz.prog ops Q (o :: rest) a w := by
  refine wpList_plain hg fun K' hK' => ?_
  have hrun := hown.look hM hz hk true
  rw [hv, hi, if_pos rfl] at hrun
  unfold Oper.wp
  simp [execOp, hop, hm, hx, hrun, Result.andThen]
  exact hK' _ _ hK
/-- 'm[k] = v'. -/
theorem wpList_update_k (w : World) {ops : Array Oper} {rest : List Oper} {o : Oper} {a : Act} {Q : Exit → Act → World → Prop} (hg : o.guard = none) (mo xo vo : Operand) {M TE : Nat} (hop : o.op = Op.mapUpdate M mo xo vo) (hM : Tryz.prog.underlying M = some (.map T TE))
    (b : Nat) (m : K → Option E) (hm : a.eval mo = .map (some b)) (hown : MapK S eV w b m) (hkeep : ∀ (o : Obj) (k : K), S.ok w k → S.ok (setBlock w b o) k) (k : K) (hx : a.eval xo = S.v k) (hk : S.ok w k) (y : E) (hv : a.eval vo = eV y)
    (hK : ∀ w', MapK S eV w' b (putK m k y) → w.grownBy w' (some b) → wpList Tryz.prog ops Q rest (a.put o.dst undef) w') : wpList Tryz.prog ops Q (o :: rest) a w := by
  refine wpList_plain hg fun K' hK' => ?_
  obtain ⟨w', hrun, h1, h2⟩ := hown.store hM hkeep hk y
  unfold Oper.wp
  simp [execOp, hop, hm, hx, hv, hrun, Result.andThen]
  exact hK' _ _ (hK w' h1 h2)
theorem MapK.made (w : World) : MapK S eV (w.alloc (.map #[] 0)) w.heap.size (fun _ => none) :=
  ⟨#[], 0, [], (MapKept.heap_alloc w _).1, rfl, by simp, by simp, fun k x => by simp⟩
end
theorem check_ask (em : Bool) (k : Ky) (w : World) : (Instr.checkKey em 10000 88 (askV k)).run Tryz.prog w = .ok () w := by
  obtain ⟨a, n, s⟩ := k
  kernel_rfl
theorem stays_ask (k : Ky) (w : World) : (Instr.keyThatStays (askV k) (askV k)).run Tryz.prog w = .ok (askV k) w := by
  unfold Instr.keyThatStays
  have : Instr.sameBits 10000 (askV k) (askV k) = true := by simp [Instr.sameBits, askV]
  rw [if_pos this]
  rfl
def askS : KeyS 88 Ky := ⟨askV, fun w k => PlainAt w k.1, ⟨_, Tryz.askU⟩, fun _ => ⟨_, rfl⟩, fun k k' w h h' => eq_ask k k' w h h', check_ask, stays_ask⟩
theorem zeroAns (w : World) : (zeroValue 108).run Tryz.prog w = .ok (ansV (0, false)) w := by
  have h : (Tryz.prog.info? 108).map (fun i => (i.zero, i.size)) = some (some (ansV (0, false)), 2) := by kernel_rfl
  exact (zero_of_info h).1 w
/-- The map holds what was met, and nothing else. -/
abbrev MetIs (w : World) (b : Nat) (m : Met) : Prop := MapK askS ansV w b m
theorem MetIs.set {w : World} {b : Nat} {m : Met} (h : MetIs w b m) (o : Obj) (k : Ky) (hk : askS.ok w k) : askS.ok (setBlock w b o) k := by
  have hk : PlainAt w k.1 := hk
  obtain ⟨es, cl, L, h⟩ := h
  refine hk.on (heap_setBlock_other h.blk _ fun e => ?_)
  obtain ⟨c, t, hk⟩ := hk
  rw [e, h.blk] at hk
  cases hk
theorem putK_put (m : Met) (k : Ky) (x : Int × Bool) : putK m k x = m.put k x := by
  funext k'
  unfold putK Met.put
  by_cases h : k' = k <;> simp [h]
end Go.Proofs.YtcfeflkhmncmjaaGreatDoor
namespace Go.Proofs.YtcfeflkhmncmjaaGreatDoor
open Go.RowKit

theorem cell_lt {w : World} {b i : Nat} {v : Value} (h : w.cell? ⟨b, i, none⟩ = some v) : b < w.heap.size := World.block_lt_of_cell? w ⟨b, i, none⟩ h
theorem addz (b j : Nat) : (⟨b, 0, none⟩ : Addr).add j = ⟨b, j, none⟩ := by cases j <;> simp [Addr.add]
theorem addo (b o j : Nat) : (⟨b, o, none⟩ : Addr).add j = ⟨b, o + j, none⟩ := by cases j <;> simp [Addr.add]
theorem range_on {w w' : World} {b o : Nat} {cs : List Value} (h : w.rangeAt b o cs) (hb : w'.heap[b]? = w.heap[b]?) : w'.rangeAt b o cs := fun j v hv => (World.cell?_of_block (a := ⟨b, o + j, none⟩) hb).trans (h j v hv)
theorem alloc_range (W : World) (cs : List Value) (T : Nat) : (W.alloc (.cells cs.toArray T)).rangeAt W.heap.size 0 cs := fun j u h => by
  rw [Nat.zero_add, cell_of_row _ _ j cs.toArray T (0, 0) (Go.Deep.blk_alloc_new W _)]
  simpa using h

/-- How a thing lies in cells. -/
structure Enc (α : Type) where
  f : α → List Value
  k : Nat
  pos : 0 < k
  len : ∀ x, (f x).length = k
  one : ∀ x u, u ∈ f x → u.oneCell' = true
section
variable {α : Type} (E : Enc α)
def Enc.all (l : List α) : List Value := l.flatMap E.f
theorem Enc.all_nil : E.all [] = [] := rfl
theorem Enc.all_cons (x : α) (l : List α) : E.all (x :: l) = E.f x ++ E.all l := rfl
theorem Enc.all_app (a b : List α) : E.all (a ++ b) = E.all a ++ E.all b := by unfold Enc.all; rw [List.flatMap_append]
theorem Enc.all_len : ∀ l : List α, (E.all l).length = l.length * E.k
  | [] => by simp [Enc.all]
  | x :: l => by rw [E.all_cons, List.length_append, E.len, Enc.all_len l, List.length_cons, Nat.succ_mul]; omega
theorem Enc.all_get : ∀ (l : List α) (i : Nat) (x : α), l[i]? = some x → ∀ c u, (E.f x)[c]? = some u → (E.all l)[i * E.k + c]? = some u
  | y :: l, 0, x, h, c, u, hu => by
    obtain rfl : y = x := by simpa using h
    have hc := (List.getElem?_eq_some_iff.1 hu).1
    rw [Nat.zero_mul, Nat.zero_add, E.all_cons, List.getElem?_append_left hc]
    exact hu
  | y :: l, i + 1, x, h, c, u, hu => by
    have h1 := Enc.all_get l i x (by simpa using h) c u hu
    rw [E.all_cons, List.getElem?_append_right (by rw [E.len, Nat.succ_mul]; omega), E.len, show (i + 1) * E.k + c - E.k = i * E.k + c by rw [Nat.succ_mul]; omega]
    exact h1
theorem Enc.all_one (l : List α) (u : Value) (h : u ∈ E.all l) : u.oneCell' = true := by
  obtain ⟨x, _, hx⟩ := List.mem_flatMap.1 h
  exact E.one x u hx
end
/-- Things in a row of the call's own. -/
structure RowG {α : Type} (E : Enc α) (T : Nat) (w : World) (B : Nat) (v : Value) (l : List α) : Prop where
  row : w.ownsRow B T E.k v l.length (E.all l)
  len : l.length ≤ 100000000
/-- Things that can be read at a slice, in blocks below B. -/
def RdG {α : Type} (E : Enc α) (w : World) (B : Nat) (v : Value) (l : List α) : Prop :=
  ∃ a c, v = .slice a l.length c ∧ l.length ≤ 17592186044416 ∧ ∀ j x, l[j]? = some x → ∃ g o, a = some ⟨g, o, none⟩ ∧ g < B ∧ w.rangeAt g (o + j * E.k) (E.f x)
section
variable {α : Type} {E : Enc α} {T : Nat}
theorem RowG.nil (w : World) (B : Nat) : RowG E T w B (.slice none 0 0) [] := ⟨World.ownsRow_nil w B _ _, by simp⟩
theorem RowG.any {w : World} {B : Nat} {v : Value} {l : List α} (h : RowG E T w B v l) : ∃ a c, v = .slice a l.length c := by
  rcases h.row.2 with ⟨rfl, e⟩ | ⟨g, cap, cur, rfl, _⟩
  · exact ⟨_, _, by rw [e]⟩
  · exact ⟨_, _, rfl⟩
theorem RowG.any3 {w : World} {B : Nat} {v : Value} {l : List α} (h : RowG E T w B v l) : ∃ a m c, v = .slice a m c ∧ m = l.length := by
  obtain ⟨a, c, e⟩ := h.any
  exact ⟨a, _, c, e, rfl⟩
theorem RowG.blk {w : World} {B : Nat} {v : Value} {l : List α} (h : RowG E T w B v l) {g : Nat} (hg : v.ownBlock = some g) : B ≤ g ∧ g < w.heap.size := by
  rcases h.row.2 with ⟨rfl, e⟩ | ⟨g', cap, cur, rfl, hb, hgg, _⟩
  · cases hg
  · injection hg with hg
    subst hg
    exact ⟨hb, (Array.getElem?_eq_some_iff.1 hgg).1⟩
theorem RowG.on {w w' : World} {B : Nat} {v : Value} {l : List α} (h : RowG E T w B v l) (hk : ∀ g, v.ownBlock = some g → B ≤ g → g < w.heap.size → w'.heap[g]? = w.heap[g]?) : RowG E T w' B v l := by
  refine ⟨⟨h.row.1, ?_⟩, h.len⟩
  rcases h.row.2 with hn | ⟨g, cap, cur, rfl, hb, hgg, rest⟩
  · exact .inl hn
  · exact .inr ⟨g, cap, cur, rfl, hb, (hk g rfl hb (Array.getElem?_eq_some_iff.1 hgg).1).trans hgg, rest⟩
theorem RowG.below {w w' : World} {B : Nat} {v : Value} {l : List α} (h : RowG E T w B v l) (hb : Below w.heap.size w w') : RowG E T w' B v l := h.on fun g _ _ hl => hb.block g hl
theorem RowG.mono {w : World} {B B' : Nat} {v : Value} {l : List α} (h : RowG E T w B v l) (hB : B' ≤ B) : RowG E T w B' v l := by
  refine ⟨⟨h.row.1, ?_⟩, h.len⟩
  rcases h.row.2 with hn | ⟨g, cap, cur, rfl, hb, rest⟩
  · exact .inl hn
  · exact .inr ⟨g, cap, cur, rfl, by omega, rest⟩
theorem RdG.on {w w' : World} {B : Nat} {v : Value} {l : List α} (h : RdG E w B v l) (hb : ∀ k, k < B → w'.heap[k]? = w.heap[k]?) : RdG E w' B v l := by
  obtain ⟨a, c, e, hl, hx⟩ := h
  refine ⟨a, c, e, hl, fun j x hj => ?_⟩
  obtain ⟨g, o, h1, h2, h3⟩ := hx j x hj
  exact ⟨g, o, h1, h2, range_on h3 (hb g h2)⟩
theorem RdG.below {w w' : World} {B : Nat} {v : Value} {l : List α} (h : RdG E w B v l) (hb : Below B w w') : RdG E w' B v l := h.on hb.block
theorem RdG.mono {w : World} {B B' : Nat} {v : Value} {l : List α} (h : RdG E w B v l) (hB : B ≤ B') : RdG E w B' v l := by
  obtain ⟨a, c, e, hl, hx⟩ := h
  refine ⟨a, c, e, hl, fun j x hj => ?_⟩
  obtain ⟨g, o, h1, h2, h3⟩ := hx j x hj
  exact ⟨g, o, h1, by omega, h3⟩
theorem RdG.nil0 (w : World) (B c : Nat) (a : Option Addr) : RdG E w B (.slice a 0 c) [] := ⟨a, c, rfl, by simp, fun j x h => by simp at h⟩
theorem RdG.at {w : World} {B n c : Nat} {a : Option Addr} {l : List α} (h : RdG E w B (.slice a n c) l) {j : Nat} {x : α} (hj : l[j]? = some x) : ∃ g o, a = some ⟨g, o, none⟩ ∧ g < B ∧ w.rangeAt g (o + j * E.k) (E.f x) := by
  obtain ⟨a', c', e, _, hx⟩ := h
  injection e with e1 _ _
  subst e1
  exact hx j x hj
theorem RdG.len {w : World} {B n c : Nat} {a : Option Addr} {l : List α} (h : RdG E w B (.slice a n c) l) : n = l.length ∧ n ≤ 17592186044416 := by
  obtain ⟨a', c', e, hl, hx⟩ := h
  injection e with _ e2 _
  exact ⟨e2, by omega⟩
theorem RowG.cells {w : World} {B : Nat} {v : Value} {l : List α} (h : RowG E T w B v l) {g n cap : Nat} (hv : v = .slice (some ⟨g, 0, none⟩) n cap) : ∀ j u, (E.all l)[j]? = some u → w.cell? ⟨g, j, none⟩ = some u := fun j u hu => by
  have h0 := h.row
  obtain ⟨a, c, e⟩ := h.any
  rw [hv] at e
  injection e with e1 e2 e3
  subst e2 hv
  have := World.ownsRow.cells h0 (g := g) rfl j u hu
  rwa [addz] at this
theorem RowG.rd {w : World} {B : Nat} {v : Value} {l : List α} (h : RowG E T w B v l) : RdG E w w.heap.size v l := by
  have hlen := h.len
  rcases h.row.2 with ⟨rfl, e⟩ | ⟨g, cap, cur, hv, _, hgg, _⟩
  · exact ⟨.none, 0, by rw [e], by omega, fun j x hx => by rw [List.eq_nil_of_length_eq_zero e] at hx; simp at hx⟩
  · refine ⟨some ⟨g, 0, .none⟩, cap, hv, by omega, fun j x hx => ⟨g, 0, rfl, (Array.getElem?_eq_some_iff.1 hgg).1, fun c u hu => ?_⟩⟩
    rw [Nat.zero_add]
    exact h.cells hv _ _ (E.all_get l j x hx c u hu)
/-- One more, which has just been laid. -/
theorem wpList_push_g {S bytes : Nat} (hI : ∃ i z, Tryz.prog.info? T = some i ∧ i.zero = some z ∧ i.size = E.k ∧ i.bytes = bytes ∧ z.cells.size = E.k) (hby : bytes ≤ 200) (hU : Tryz.prog.underlying S = some (.slice T)) {W : World} {ops : Array Oper} {rest : List Oper} {o : Oper} {a : Act} {Q : Exit → Act → World → Prop} (hgd : o.guard = .none) (s x : Operand)
    (ho : o.op = .call { callee := .builtin .append, args := #[s, x], argTypes := #[S, S] }) (B : Nat) (v : Value) (l : List α) (y : α) (cs : Array Value) (hcs : cs = (E.f y).toArray) (hs : a.eval s = v) (hown : RowG E T W B v l)
    (hx : a.eval x = .slice (some ⟨W.heap.size, 0, .none⟩) 1 1) (hB : B ≤ W.heap.size) (hl : l.length + 1 ≤ 1000000)
    (h : ∀ v' w', RowG E T w' B v' (l ++ [y]) → Below B W w' → (∀ k, v.ownBlock ≠ some k → k < W.heap.size → w'.heap[k]? = W.heap[k]?) → (∀ k, v'.ownBlock = some k → v.ownBlock = some k ∨ W.heap.size ≤ k) → wpList Tryz.prog ops Q rest (a.put o.dst v') w') : wpList Tryz.prog ops Q (o :: rest) a (W.alloc (.cells cs T)) := by
  obtain ⟨i0, z, h1, h2, h3, h4, h5⟩ := hI
  subst hcs
  have hn : ∀ (j : Nat) (u : Value), (E.f y)[j]? = some u → (W.alloc (.cells (E.f y).toArray T)).cell? ((⟨W.heap.size, 0, .none⟩ : Addr).add j) = some u := fun j u hj => by
    have := alloc_range W (E.f y) T j u hj
    rw [addo]
    exact this
  have hal := (hown.below ((Below.refl _ _).alloc (Nat.le_refl _) (.cells (E.f y).toArray T)))
  refine wpList_append_own_at _ hgd s x S ho B T i0 z E.k bytes hU h1 h2 h3 h4 h5 E.pos v l.length (E.all l) hs hal.row ⟨W.heap.size, 0, .none⟩ 1 1 (E.f y) hx (by rw [E.len, Nat.one_mul]) hn (E.one y) (by unfold maxLen; omega) (by have h6 : (l.length + 1) * bytes ≤ 1000000 * 200 := Nat.mul_le_mul hl hby; omega) (by simp; omega) ?_
  intro v' w' hown' hgrow _ hblk
  refine h v' w' ⟨?_, by rw [List.length_append]; simp only [List.length_cons, List.length_nil]; omega⟩ (((Below.refl B W).alloc hB _).grown hgrow (by simp; omega) (fun k hk => (hown.row.lt k hk).1)) (fun k hk hlt => ?_) (fun k hk => ?_)
  · rw [List.length_append, E.all_app, show E.all [y] = E.f y by rw [E.all_cons, E.all_nil, List.append_nil]]
    exact hown'
  · rw [hgrow.block k (by simp; omega) (fun e => hk e.symm), Go.Deep.blk_alloc_lt _ _ _ hlt]
  · rcases hblk with e | e
    · exact .inl (e ▸ hk)
    · rw [hk] at e
      injection e with e
      exact .inr (by simp at e; omega)
end
/-! Things that can be read at a slice, in blocks of a kind. -/
def RdS {α : Type} (E : Enc α) (w : World) (S : Nat → Prop) (v : Value) (l : List α) : Prop :=
  ∃ a c, v = .slice a l.length c ∧ l.length ≤ 17592186044416 ∧ ∀ j x, l[j]? = some x → ∃ g o, a = some ⟨g, o, none⟩ ∧ S g ∧ w.rangeAt g (o + j * E.k) (E.f x)
section
variable {α : Type} {E : Enc α} {T : Nat}
theorem RdS.on {w w' : World} {S S' : Nat → Prop} {v : Value} {l : List α} (h : RdS E w S v l) (hb : ∀ k, S k → S' k ∧ w'.heap[k]? = w.heap[k]?) : RdS E w' S' v l := by
  obtain ⟨a, c, e, hl, hx⟩ := h
  refine ⟨a, c, e, hl, fun j x hj => ?_⟩
  obtain ⟨g, o, h1, h2, h3⟩ := hx j x hj
  exact ⟨g, o, h1, (hb g h2).1, range_on h3 (hb g h2).2⟩
theorem RdS.below {w w' : World} {B : Nat} {v : Value} {l : List α} (h : RdS E w (· < B) v l) (hb : Below B w w') : RdS E w' (· < B) v l := h.on fun k hk => ⟨hk, hb.block k hk⟩
theorem RdS.upto {w w' : World} {B B' : Nat} {v : Value} {l : List α} (h : RdS E w (· < B) v l) (hb : Below B w w') (hB : B ≤ B') : RdS E w' (· < B') v l := h.on fun k hk => ⟨Nat.lt_of_lt_of_le hk hB, hb.block k hk⟩
theorem RdS.mono {w : World} {S S' : Nat → Prop} {v : Value} {l : List α} (h : RdS E w S v l) (hS : ∀ k, S k → S' k) : RdS E w S' v l := h.on fun k hk => ⟨hS k hk, rfl⟩
theorem RdS.nil0 (w : World) (S : Nat → Prop) (c : Nat) (a : Option Addr) : RdS E w S (.slice a 0 c) [] := ⟨a, c, rfl, by simp, fun j x h => by simp at h⟩
theorem RdS.at {w : World} {S : Nat → Prop} {n c : Nat} {a : Option Addr} {l : List α} (h : RdS E w S (.slice a n c) l) {j : Nat} {x : α} (hj : l[j]? = some x) : ∃ g o, a = some ⟨g, o, none⟩ ∧ S g ∧ w.rangeAt g (o + j * E.k) (E.f x) := by
  obtain ⟨a', c', e, _, hx⟩ := h
  injection e with e1 _ _
  subst e1
  exact hx j x hj
theorem RdS.len {w : World} {S : Nat → Prop} {n c : Nat} {a : Option Addr} {l : List α} (h : RdS E w S (.slice a n c) l) : n = l.length ∧ n ≤ 17592186044416 := by
  obtain ⟨a', c', e, hl, hx⟩ := h
  injection e with _ e2 _
  exact ⟨e2, by omega⟩
theorem RdS.form {w : World} {S : Nat → Prop} {v : Value} {l : List α} (h : RdS E w S v l) : ∃ a n c, v = .slice a n c ∧ n = l.length := by
  obtain ⟨a, c, e, _⟩ := h
  exact ⟨a, _, c, e, rfl⟩
theorem RowG.rdS {w : World} {B : Nat} {v : Value} {l : List α} (h : RowG E T w B v l) : RdS E w (fun k => B ≤ k ∧ k < w.heap.size ∧ v.ownBlock = some k) v l := by
  obtain ⟨a, c, e, hl, hx⟩ := h.rd
  refine ⟨a, c, e, hl, fun j x hj => ?_⟩
  obtain ⟨g, o, h1, h2, h3⟩ := hx j x hj
  have ho : v.ownBlock = some g := by
    rw [e, h1]
    rfl
  exact ⟨g, o, h1, ⟨(h.blk ho).1, h2, ho⟩, h3⟩
end
/-! Things with a slice in them. -/
structure SlV where
  a : Option Addr
  n : Nat
  c : Nat
def SlV.v (s : SlV) : Value := .slice s.a s.n s.c
/-- How a thing lies whose last part is a slice of others. -/
structure Nest (X Y : Type) where
  E : Enc (X × SlV)
  F : Enc Y
  sub : X → List Y
def NRd {X Y : Type} (N : Nest X Y) (w : World) (S : Nat → Prop) (v : Value) (l : List X) : Prop :=
  ∃ vs : List SlV, vs.length = l.length ∧ RdS N.E w S v (l.zip vs) ∧ ∀ (i : Nat) s x, vs[i]? = some s → l[i]? = some x → RdS N.F w S s.v (N.sub x)
/-- A row of the call's own, with others in it. -/
def NRow {X Y : Type} (N : Nest X Y) (T : Nat) (K : Nat → Prop) (w : World) (B : Nat) (v : Value) (l : List X) : Prop :=
  ∃ vs : List SlV, vs.length = l.length ∧ RowG N.E T w B v (l.zip vs) ∧ ∀ (i : Nat) s x, vs[i]? = some s → l[i]? = some x → RdS N.F w (fun k => k < w.heap.size ∧ v.ownBlock ≠ some k ∧ K k) s.v (N.sub x)
section
variable {X Y : Type} {N : Nest X Y} {T : Nat} {K : Nat → Prop}
theorem zip_len {l : List X} {vs : List SlV} (h : vs.length = l.length) : (l.zip vs).length = l.length := by rw [List.length_zip]; omega
theorem zip_get {l : List X} {vs : List SlV} (h : vs.length = l.length) {i : Nat} {x : X} (hx : l[i]? = some x) : ∃ s, vs[i]? = some s ∧ (l.zip vs)[i]? = some (x, s) := by
  have hi := (List.getElem?_eq_some_iff.1 hx).1
  obtain ⟨s, hs⟩ : ∃ s, vs[i]? = some s := ⟨_, List.getElem?_eq_getElem (by omega)⟩
  refine ⟨s, hs, ?_⟩
  rw [List.getElem?_zip_eq_some]
  exact ⟨hx, hs⟩
theorem NRd.len {w : World} {S : Nat → Prop} {n c : Nat} {a : Option Addr} {l : List X} (h : NRd N w S (.slice a n c) l) : n = l.length ∧ n ≤ 17592186044416 := by
  obtain ⟨vs, h1, h2, _⟩ := h
  have := h2.len
  rw [zip_len h1] at this
  exact this
theorem NRd.form {w : World} {S : Nat → Prop} {v : Value} {l : List X} (h : NRd N w S v l) : ∃ a n c, v = .slice a n c ∧ n = l.length := by
  obtain ⟨vs, h1, h2, _⟩ := h
  have := h2.form
  rw [zip_len h1] at this
  exact this
theorem NRd.at {w : World} {S : Nat → Prop} {n c : Nat} {a : Option Addr} {l : List X} (h : NRd N w S (.slice a n c) l) {j : Nat} {x : X} (hj : l[j]? = some x) :
    ∃ g o sa sn sc, a = some ⟨g, o, none⟩ ∧ S g ∧ w.rangeAt g (o + j * N.E.k) (N.E.f (x, ⟨sa, sn, sc⟩)) ∧ RdS N.F w S (.slice sa sn sc) (N.sub x) := by
  obtain ⟨vs, h1, h2, h3⟩ := h
  obtain ⟨⟨sa, sn, sc⟩, hs, hz⟩ := zip_get h1 hj
  obtain ⟨g, o, e, hS, hr⟩ := h2.at hz
  exact ⟨g, o, sa, sn, sc, e, hS, hr, h3 j _ x hs hj⟩
theorem NRd.on {w w' : World} {S S' : Nat → Prop} {v : Value} {l : List X} (h : NRd N w S v l) (hb : ∀ k, S k → S' k ∧ w'.heap[k]? = w.heap[k]?) : NRd N w' S' v l := by
  obtain ⟨vs, h1, h2, h3⟩ := h
  exact ⟨vs, h1, h2.on hb, fun i s x hs hx => (h3 i s x hs hx).on hb⟩
theorem NRd.below {w w' : World} {B : Nat} {v : Value} {l : List X} (h : NRd N w (· < B) v l) (hb : Below B w w') : NRd N w' (· < B) v l := h.on fun k hk => ⟨hk, hb.block k hk⟩
theorem NRd.upto {w w' : World} {B B' : Nat} {v : Value} {l : List X} (h : NRd N w (· < B) v l) (hb : Below B w w') (hB : B ≤ B') : NRd N w' (· < B') v l := h.on fun k hk => ⟨Nat.lt_of_lt_of_le hk hB, hb.block k hk⟩
theorem NRd.nil0 (w : World) (S : Nat → Prop) (c : Nat) (a : Option Addr) : NRd N w S (.slice a 0 c) [] := ⟨[], rfl, RdS.nil0 _ _ _ _, fun i s x h => by simp at h⟩
theorem NRow.nil (w : World) (B : Nat) : NRow N T K w B (.slice none 0 0) [] := ⟨[], rfl, RowG.nil _ _, fun i s x h => by simp at h⟩
theorem NRow.any3 {w : World} {B : Nat} {v : Value} {l : List X} (h : NRow N T K w B v l) : ∃ a m c, v = .slice a m c ∧ m = l.length := by
  obtain ⟨vs, h1, h2, _⟩ := h
  have := h2.any3
  rw [zip_len h1] at this
  exact this
theorem NRow.rd {w : World} {B : Nat} {v : Value} {l : List X} (h : NRow N T K w B v l) : NRd N w (· < w.heap.size) v l := by
  obtain ⟨vs, h1, h2, h3⟩ := h
  exact ⟨vs, h1, h2.rdS.mono fun k hk => hk.2.1, fun i s x hs hx => (h3 i s x hs hx).mono fun k hk => hk.1⟩
theorem NRow.below {w w' : World} {B : Nat} {v : Value} {l : List X} (h : NRow N T K w B v l) (hb : Below w.heap.size w w') : NRow N T K w' B v l := by
  obtain ⟨vs, h1, h2, h3⟩ := h
  exact ⟨vs, h1, h2.below hb, fun i s x hs hx => (h3 i s x hs hx).on fun k hk => ⟨⟨Nat.lt_of_lt_of_le hk.1 hb.size, hk.2⟩, hb.block k hk.1⟩⟩
/-- All blocks but one stay. -/
structure Frm (x : Nat) (w w' : World) : Prop where
  os : w'.os = w.os
  tape : w'.tape = w.tape
  output : w'.output = w.output
  size : w.heap.size ≤ w'.heap.size
  block : ∀ k, k < w.heap.size → k ≠ x → w'.heap[k]? = w.heap[k]?
theorem Frm.refl (x : Nat) (w : World) : Frm x w w := ⟨rfl, rfl, rfl, Nat.le_refl _, fun _ _ _ => rfl⟩
theorem Frm.trans {x : Nat} {a b c : World} (h : Frm x a b) (k : Frm x b c) : Frm x a c := ⟨k.os.trans h.os, k.tape.trans h.tape, k.output.trans h.output, Nat.le_trans h.size k.size, fun i hi hx => (k.block i (Nat.lt_of_lt_of_le hi h.size) hx).trans (h.block i hi hx)⟩
theorem Frm.of {x : Nat} {w w' : World} (h : Below w.heap.size w w') : Frm x w w' := ⟨h.os, h.tape, h.output, h.size, fun k hk _ => h.block k hk⟩
theorem Frm.below {x B : Nat} {w w' : World} (h : Frm x w w') (hx : B ≤ x) (hB : B ≤ w.heap.size) : Below B w w' := ⟨h.os, h.tape, h.output, h.size, fun k hk => h.block k (by omega) (by omega)⟩
theorem Frm.new {x : Nat} {a w w' : World} (h : Frm x w w') (ha : Below a.heap.size a w) (hx : a.heap.size ≤ x) : Below a.heap.size a w' := ha.trans (h.below hx ha.size)
theorem Frm.setCell {x : Nat} {w w' : World} (h : Frm x w w') {p : Addr} (hp : p.block = x) (u : Value) : Frm x w (w'.setCell p u) :=
  ⟨h.os, h.tape, h.output, by have := h.size; simp; exact this, fun k hk hx => by rw [Below.heap_setCell _ _ _ _ (by rw [hp]; exact hx)]; exact h.block k hk hx⟩
theorem Frm.drewN {x : Nat} {w w' : World} (h : Frm x w w') (n : Nat) : Frm x w (w'.drewN n) := ⟨h.os, h.tape, h.output, h.size, h.block⟩
theorem NRow.frm {w w' : World} {B x : Nat} {v : Value} {l : List X} (h : NRow N T (· ≠ x) w B v l) (hf : Frm x w w') (hv : v.ownBlock ≠ some x) : NRow N T (· ≠ x) w' B v l := by
  obtain ⟨vs, h1, h2, h3⟩ := h
  exact ⟨vs, h1, h2.on fun g hg _ hl => hf.block g hl (fun e => hv (by rw [hg, e])), fun i s y hs hy => (h3 i s y hs hy).on fun k hk => ⟨⟨Nat.lt_of_lt_of_le hk.1 hf.size, hk.2⟩, hf.block k hk.1 hk.2.2⟩⟩
theorem NRow.lt {w : World} {B : Nat} {v : Value} {l : List X} (h : NRow N T K w B v l) {g : Nat} (hg : v.ownBlock = some g) : B ≤ g ∧ g < w.heap.size := by
  obtain ⟨vs, h1, h2, h3⟩ := h
  exact h2.blk hg
/-- One more, which has just been laid; what is in it lies ahead, elsewhere. -/
theorem wpList_push_n {S bytes : Nat} (hI : ∃ i z, Tryz.prog.info? T = some i ∧ i.zero = some z ∧ i.size = N.E.k ∧ i.bytes = bytes ∧ z.cells.size = N.E.k) (hby : bytes ≤ 200) (hU : Tryz.prog.underlying S = some (.slice T)) {W : World} {ops : Array Oper} {rest : List Oper} {o : Oper} {a : Act} {Q : Exit → Act → World → Prop} (hgd : o.guard = .none) (s x : Operand)
    (ho : o.op = .call { callee := .builtin .append, args := #[s, x], argTypes := #[S, S] }) (B : Nat) (v : Value) (l : List X) (y : X) (sl : SlV) (cs : Array Value) (hcs : cs = (N.E.f (y, sl)).toArray) (hs : a.eval s = v) (hown : NRow N T K W B v l)
    (hsub : RdS N.F W (fun k => k < W.heap.size ∧ v.ownBlock ≠ some k ∧ K k) sl.v (N.sub y))
    (hx : a.eval x = .slice (some ⟨W.heap.size, 0, .none⟩) 1 1) (hB : B ≤ W.heap.size) (hl : l.length + 1 ≤ 1000000)
    (h : ∀ v' w', NRow N T K w' B v' (l ++ [y]) → Below B W w' → W.heap.size ≤ w'.heap.size → (∀ k, v.ownBlock ≠ some k → k < W.heap.size → w'.heap[k]? = W.heap[k]?) → (∀ k, v'.ownBlock = some k → v.ownBlock = some k ∨ W.heap.size ≤ k) → wpList Tryz.prog ops Q rest (a.put o.dst v') w') : wpList Tryz.prog ops Q (o :: rest) a (W.alloc (.cells cs T)) := by
  obtain ⟨vs, h1, h2, h3⟩ := hown
  refine wpList_push_g hI hby hU hgd s x ho B v (l.zip vs) (y, sl) cs hcs hs h2 hx hB (by rw [zip_len h1]; exact hl) ?_
  intro v' w' hr hb hk hv
  refine h v' w' ⟨vs ++ [sl], by simp [h1], ?_, fun i s' x' hs' hx' => ?_⟩ hb hb.size hk hv
  · rw [List.zip_append h1.symm]
    exact hr
  · have hold : ∀ (sv : Value) (m : List Y), RdS N.F W (fun k => k < W.heap.size ∧ v.ownBlock ≠ some k ∧ K k) sv m → RdS N.F w' (fun k => k < w'.heap.size ∧ v'.ownBlock ≠ some k ∧ K k) sv m := fun sv m hm => hm.on fun k hkk => ⟨⟨Nat.lt_of_lt_of_le hkk.1 hb.size, fun e => by
      rcases hv k e with e1 | e1
      · exact hkk.2.1 e1
      · omega, hkk.2.2⟩, hk k hkk.2.1 hkk.1⟩
    rcases Nat.lt_or_ge i l.length with hi | hi
    · rw [List.getElem?_append_left (by omega)] at hs' hx'
      exact hold _ _ (h3 i s' x' hs' hx')
    · have hin : i = l.length := by
        have := (List.getElem?_eq_some_iff.1 hx').1
        simp at this
        omega
      subst hin
      rw [← h1] at hs'
      simp at hs' hx'
      subst hs' hx'
      exact hold _ _ hsub
end
end Go.Proofs.YtcfeflkhmncmjaaGreatDoor
namespace Go.Proofs.YtcfeflkhmncmjaaGreatDoor
open Go.RowKit

/-- Where a kid lies. -/
def kadr (ka : Option Addr) (i : Nat) : Addr := match ka with | some a => ⟨a.block, a.off + i * 4, none⟩ | none => ⟨0, 0, none⟩
/-- A node lies at a place, all of it in blocks of a kind. -/
inductive NdAt (w : World) (S : Nat → Prop) : Addr → Tr → Prop
  | mk (b o : Nat) (t : Tr) (ka : Option Addr) (kc : Nat) (hS : S b) (hp : ∃ c T, w.heap[b]? = some (.cells c T (0, 0)))
    (h0 : w.cell? ⟨b, o, none⟩ = some (.string t.kind)) (h1 : w.cell? ⟨b, o + 1, none⟩ = some (.string t.word)) (h2 : w.cell? ⟨b, o + 2, none⟩ = some (.int .i64 t.num)) (h3 : w.cell? ⟨b, o + 3, none⟩ = some (.slice ka t.kids.length kc))
    (hw : t.word.size ≤ 100000) (hl : t.kids.length ≤ 1000) (hc : t.kids.length ≤ kc)
    (hk : 0 < t.kids.length → ∃ g p, ka = some ⟨g, p, none⟩)
    (hr : ∀ i u, t.kids[i]? = some u → NdAt w S (kadr ka i) u) : NdAt w S ⟨b, o, none⟩ t
/-- What can be read of a node. -/
structure NdIs (w : World) (S : Nat → Prop) (b o : Nat) (t : Tr) (ka : Option Addr) (kc : Nat) : Prop where
  hS : S b
  lt : b < w.heap.size
  h0 : w.cell? ⟨b, o, none⟩ = some (.string t.kind)
  h1 : w.cell? ⟨b, o + 1, none⟩ = some (.string t.word)
  h2 : w.cell? ⟨b, o + 2, none⟩ = some (.int .i64 t.num)
  h3 : w.cell? ⟨b, o + 3, none⟩ = some (.slice ka t.kids.length kc)
  hw : t.word.size ≤ 100000
  hl : t.kids.length ≤ 1000
  hc : t.kids.length ≤ kc
  hk : 0 < t.kids.length → ∃ g p, ka = some ⟨g, p, none⟩
  hr : ∀ i u, t.kids[i]? = some u → NdAt w S (kadr ka i) u
theorem NdAt.is {w : World} {S : Nat → Prop} {a : Addr} {t : Tr} (h : NdAt w S a t) : ∃ b o ka kc, a = ⟨b, o, none⟩ ∧ NdIs w S b o t ka kc := by
  cases h with
  | mk b o t ka kc hS hp h0 h1 h2 h3 hw hl hc hk hr => exact ⟨b, o, ka, kc, rfl, hS, cell_lt h0, h0, h1, h2, h3, hw, hl, hc, hk, hr⟩
theorem NdAt.plain {w : World} {S : Nat → Prop} {a : Addr} {t : Tr} (h : NdAt w S a t) : PlainAt w a := by
  cases h with
  | mk b o t ka kc hS hp => exact hp
theorem NdAt.inS {w : World} {S : Nat → Prop} {a : Addr} {t : Tr} (h : NdAt w S a t) : S a.block ∧ a.block < w.heap.size := by
  cases h with
  | mk b o t ka kc hS hp h0 => exact ⟨hS, cell_lt h0⟩
theorem NdAt.step {w w' : World} {S S' : Nat → Prop} {a : Addr} {t : Tr} (h : NdAt w S a t) : (∀ b, b < w.heap.size → S b → w'.heap[b]? = w.heap[b]? ∧ S' b) → NdAt w' S' a t := by
  induction h with
  | mk b o t ka kc hS hp h0 h1 h2 h3 hw hl hc hk hr ih =>
    intro hb
    have h9 := hb b (cell_lt h0) hS
    obtain ⟨c, T, hp⟩ := hp
    exact .mk b o t ka kc h9.2 ⟨c, T, h9.1.trans hp⟩ ((World.cell?_of_block (a := ⟨b, o, none⟩) h9.1).trans h0) ((World.cell?_of_block (a := ⟨b, o + 1, none⟩) h9.1).trans h1) ((World.cell?_of_block (a := ⟨b, o + 2, none⟩) h9.1).trans h2) ((World.cell?_of_block (a := ⟨b, o + 3, none⟩) h9.1).trans h3) hw hl hc hk (fun i u e => ih i u e hb)
theorem Tr.ext' {t t' : Tr} (h0 : t.kind = t'.kind) (h1 : t.word = t'.word) (h2 : t.num = t'.num) (h3 : t.kids = t'.kids) : t = t' := by
  cases t
  cases t'
  simp only [Tr.kind, Tr.word, Tr.num, Tr.kids] at h0 h1 h2 h3
  rw [h0, h1, h2, h3]
theorem NdAt.one {w : World} {S : Nat → Prop} {a : Addr} {t : Tr} (h : NdAt w S a t) : ∀ {t' : Tr}, NdAt w S a t' → t = t' := by
  induction h with
  | mk b o t ka kc hS hp h0 h1 h2 h3 hw hl hc hk hr ih =>
    intro t' h'
    cases h' with
    | mk _ _ _ ka' kc' hS' hp' h0' h1' h2' h3' hw' hl' hc' hk' hr' =>
      rw [h0] at h0'; rw [h1] at h1'; rw [h2] at h2'; rw [h3] at h3'
      injection h0' with h0'; injection h0' with h0'
      injection h1' with h1'; injection h1' with h1'
      injection h2' with h2'; injection h2' with _ h2'
      injection h3' with h3'; injection h3' with e1 e2 e3
      subst e1
      refine Tr.ext' h0' h1' h2' (List.ext_getElem? fun i => ?_)
      cases hi : t.kids[i]? with
      | none =>
        have := List.getElem?_eq_none_iff.1 hi
        exact (List.getElem?_eq_none (by omega)).symm
      | some u =>
        have hlt := (List.getElem?_eq_some_iff.1 hi).1
        have hi' : t'.kids[i]? = some t'.kids[i] := List.getElem?_eq_getElem (by omega)
        rw [hi', ih i u hi (hr' i _ hi')]
/-- The place of a kid, as it is read. -/
def kaW (w : World) (a : Addr) (i : Nat) : Addr := match w.cell? ⟨a.block, a.off + 3, none⟩ with | some (.slice ka _ _) => kadr ka i | _ => a
theorem nds (w : World) (S : Nat → Prop) : Nds (NdAt w S) (kaW w) := by
  refine ⟨fun h h' => h.one h', fun h e => ?_⟩
  cases h with
  | mk b o t ka kc hS hp h0 h1 h2 h3 hw hl hc hk hr =>
    unfold kaW
    simp only [h3]
    exact hr _ _ e
theorem NdIs.ka {w : World} {S : Nat → Prop} {b o : Nat} {t : Tr} {ka : Option Addr} {kc : Nat} (h : NdIs w S b o t ka kc) (i : Nat) : kaW w ⟨b, o, none⟩ i = kadr ka i := by
  unfold kaW
  simp only [h.h3]
theorem kaW_on {w w' : World} {b o : Nat} (hb : w'.heap[b]? = w.heap[b]?) (i : Nat) : kaW w' ⟨b, o, none⟩ i = kaW w ⟨b, o, none⟩ i := by
  unfold kaW
  rw [show w'.cell? ⟨b, o + 3, none⟩ = w.cell? ⟨b, o + 3, none⟩ from World.cell?_of_block (a := ⟨b, o + 3, none⟩) hb]

theorem cellA {W : World} {b i : Nat} {v : Value} (h : W.cell? ⟨b, i, none⟩ = some v) (o : Obj) : (W.alloc o).cell? ⟨b, i, none⟩ = some v := (World.cell?_of_block (a := ⟨b, i, none⟩) (Go.Deep.blk_alloc_lt W _ _ (cell_lt h))).trans h
/-! Frames. -/
def intE : Enc Int := ⟨fun x => [.int .i64 x], 1, by decide, fun _ => rfl, fun x u h => by
  obtain rfl : u = .int .i64 x := by simpa using h
  rfl⟩
def frE : Enc (Fr × SlV) := ⟨fun p => [.pointer (some p.1.a), .int .i64 p.1.who, .bool p.1.sum, p.2.v, .int .i64 p.1.heard, .int .i64 p.1.val], 6, by decide, fun _ => rfl, fun p u h => by
  simp only [List.mem_cons, List.not_mem_nil, or_false] at h
  rcases h with rfl | rfl | rfl | rfl | rfl | rfl <;> rfl⟩
def frN : Nest Fr Int := ⟨frE, intE, Fr.of⟩
/-- All blocks stay but some. -/
structure FrX (X : Nat → Prop) (w w' : World) : Prop where
  os : w'.os = w.os
  tape : w'.tape = w.tape
  output : w'.output = w.output
  size : w.heap.size ≤ w'.heap.size
  block : ∀ k, k < w.heap.size → ¬ X k → w'.heap[k]? = w.heap[k]?
theorem FrX.refl (X : Nat → Prop) (w : World) : FrX X w w := ⟨rfl, rfl, rfl, Nat.le_refl _, fun _ _ _ => rfl⟩
theorem FrX.trans {X : Nat → Prop} {a b c : World} (h : FrX X a b) (k : FrX X b c) : FrX X a c := ⟨k.os.trans h.os, k.tape.trans h.tape, k.output.trans h.output, Nat.le_trans h.size k.size, fun i hi hx => (k.block i (Nat.lt_of_lt_of_le hi h.size) hx).trans (h.block i hi hx)⟩
theorem FrX.of {X : Nat → Prop} {w w' : World} (h : Below w.heap.size w w') : FrX X w w' := ⟨h.os, h.tape, h.output, h.size, fun k hk _ => h.block k hk⟩
theorem FrX.mono {X Y : Nat → Prop} {w w' : World} (h : FrX X w w') (hXY : ∀ k, X k → Y k) : FrX Y w w' := ⟨h.os, h.tape, h.output, h.size, fun k hk hy => h.block k hk fun hx => hy (hXY k hx)⟩
theorem FrX.below {X : Nat → Prop} {w w' : World} {B : Nat} (h : FrX X w w') (hX : ∀ k, k < B → ¬ X k) (hB : B ≤ w.heap.size) : Below B w w' := ⟨h.os, h.tape, h.output, h.size, fun k hk => h.block k (by omega) (hX k hk)⟩
theorem FrX.setCell {X : Nat → Prop} {w w' : World} (h : FrX X w w') {p : Addr} (hp : X p.block) (u : Value) : FrX X w (w'.setCell p u) :=
  ⟨h.os, h.tape, h.output, by have := h.size; simp; exact this, fun k hk hx => by rw [Below.heap_setCell _ _ _ _ (fun e => hx (by rw [e]; exact hp))]; exact h.block k hk hx⟩
theorem FrX.setNew {X : Nat → Prop} {w w' : World} (h : FrX X w w') {p : Addr} (hp : w.heap.size ≤ p.block) (u : Value) : FrX X w (w'.setCell p u) :=
  ⟨h.os, h.tape, h.output, by have := h.size; simp; exact this, fun k hk hx => by rw [Below.heap_setCell _ _ _ _ (by omega)]; exact h.block k hk hx⟩
theorem FrX.alloc {X : Nat → Prop} {w w' : World} (h : FrX X w w') (o : Obj) : FrX X w (w'.alloc o) :=
  ⟨h.os, h.tape, h.output, by have := h.size; simp; omega, fun k hk hx => by rw [Go.Deep.blk_alloc_lt _ _ _ (by have := h.size; omega)]; exact h.block k hk hx⟩
theorem FrX.drew {X : Nat → Prop} {w w' : World} (h : FrX X w w') : FrX X w w'.drew := ⟨h.os, h.tape, h.output, h.size, h.block⟩
theorem FrX.drewN {X : Nat → Prop} {w w' : World} (h : FrX X w w') (n : Nat) : FrX X w (w'.drewN n) := ⟨h.os, h.tape, h.output, h.size, h.block⟩
theorem FrX.grown {X : Nat → Prop} {w w' w'' : World} (h : FrX X w w') {row : Option Nat} (g : w'.grownBy w'' row) (hr : ∀ k, row = some k → X k ∨ w.heap.size ≤ k) : FrX X w w'' :=
  ⟨g.os.trans h.os, g.tape.trans h.tape, g.output.trans h.output, Nat.le_trans h.size g.size, fun k hk hx => by
    rw [g.block k (Nat.lt_of_lt_of_le hk h.size) (fun e => (hr k e.symm).elim hx (fun h1 => by omega))]
    exact h.block k hk hx⟩
end Go.Proofs.YtcfeflkhmncmjaaGreatDoor
namespace Go.Proofs.YtcfeflkhmncmjaaGreatDoor
open Go.RowKit

/-- One more, in a region that draws. -/
theorem step_push_g {α : Type} {E : Enc α} {T S bytes : Nat} (hI : ∃ i z, Tryz.prog.info? T = some i ∧ i.zero = some z ∧ i.size = E.k ∧ i.bytes = bytes ∧ z.cells.size = E.k) (hby : bytes ≤ 200) (hU : Tryz.prog.underlying S = some (.slice T)) {W : World} {ops : Array Oper} {o : Oper} {a : Act} {K : Act → World → Prop} {Q : Exit → Act → World → Prop} {F : Prop} (hgd : o.guard = none) (s x : Operand)
    (ho : o.op = .call { callee := .builtin .append, args := #[s, x], argTypes := #[S, S] }) (B : Nat) (v : Value) (l : List α) (y : α) (cs : Array Value) (hcs : cs = (E.f y).toArray) (hs : a.eval s = v) (hown : RowG E T W B v l)
    (hx : a.eval x = .slice (some ⟨W.heap.size, 0, none⟩) 1 1) (hB : B ≤ W.heap.size) (hl : l.length + 1 ≤ 1000000)
    (h : ∀ v' w', RowG E T w' B v' (l ++ [y]) → Below B W w' → (∀ k, v.ownBlock ≠ some k → k < W.heap.size → w'.heap[k]? = W.heap[k]?) → (∀ k, v'.ownBlock = some k → v.ownBlock = some k ∨ W.heap.size ≤ k) → K (a.put o.dst v') w') :
    if Region.wanted o (yielded ops a.tmps) = true then Oper.wp Tryz.prog o a (W.alloc (.cells cs T)) K Q else F := by
  have hw : Region.wanted o (yielded ops a.tmps) = true := by simp [Region.wanted, hgd]
  rw [if_pos hw]
  obtain ⟨i0, z, h1, h2, h3, h4, h5⟩ := hI
  subst hcs
  have hn : ∀ (j : Nat) (u : Value), (E.f y)[j]? = some u → (W.alloc (.cells (E.f y).toArray T)).cell? ((⟨W.heap.size, 0, none⟩ : Addr).add j) = some u := fun j u hj => by
    have := alloc_range W (E.f y) T j u hj
    rw [addo]
    exact this
  have hal := (hown.below ((Below.refl _ _).alloc (Nat.le_refl _) (.cells (E.f y).toArray T)))
  obtain ⟨v', w', hr, hown', hgrow, _, hblk⟩ := run_append_own_at (P := Tryz.prog) (W.alloc (.cells (E.f y).toArray T)) B S o.type T i0 z E.k bytes hU h1 h2 h3 h4 h5 E.pos v l.length (E.all l) hal.row ⟨W.heap.size, 0, none⟩ 1 1 (E.f y) (by rw [E.len, Nat.one_mul]) hn (E.one y) (by unfold maxLen; omega) (by have h6 : (l.length + 1) * bytes ≤ 1000000 * 200 := Nat.mul_le_mul hl hby; omega) (by simp; omega)
  unfold Oper.wp
  simp [execOp, ho, resolve, invoke, builtin, hs, hx, hr, Result.andThen]
  refine h v' w' ⟨?_, by rw [List.length_append]; simp only [List.length_cons, List.length_nil]; omega⟩ (((Below.refl B W).alloc hB _).grown hgrow (by simp; omega) (fun k hk => (hown.row.lt k hk).1)) (fun k hk hlt => ?_) (fun k hk => ?_)
  · rw [List.length_append, E.all_app, show E.all [y] = E.f y by rw [E.all_cons, E.all_nil, List.append_nil]]
    exact hown'
  · rw [hgrow.block k (by simp; omega) (fun e => hk e.symm), Go.Deep.blk_alloc_lt _ _ _ hlt]
  · rcases hblk with e | e
    · exact .inl (e ▸ hk)
    · rw [hk] at e
      injection e with e
      exact .inr (by simp at e; omega)
end Go.Proofs.YtcfeflkhmncmjaaGreatDoor
