/-
  Package reason: which rules are where, while they are gone through. No walk.
-/
import Derived.Test.YtmbclnaenjcocaaGreatDoorRsBld
namespace Go.Proofs.YtmbclnaenjcocaaGreatDoor
open Go.RowKit

section
variable {T : Thy}
def fL (T : Thy) (c i j o k : Nat) : List Nat :=
  if k < 2 * (shOf T).N then (List.range c).filter (fun x => pl (rlAt T x).head == k)
  else if k < 4 * (shOf T).N then (List.range i).flatMap (fun x => ((rlAt T x).body.filter (fun b => pl b == k - 2 * (shOf T).N)).map (fun _ => x)) ++ (((rlAt T i).body.take j).filter (fun b => pl b == k - 2 * (shOf T).N)).map (fun _ => i)
  else ((T.over.take o).filter (fun x => x.2 == ((k - 4 * (shOf T).N : Nat) : Int) && (rlAt T x.1.toNat).head == -(rlAt T (k - 4 * (shOf T).N)).head)).map (fun x => x.1.toNat)
theorem fL_zero (k : Nat) : fL T 0 0 0 0 k = [] := by
  unfold fL; split
  · rfl
  · split <;> simp
theorem fL_head {i : Nat} (hp : pl (rlAt T i).head < 2 * (shOf T).N) (o k : Nat) : fL T (i + 1) i 0 o k = upd (fL T i i 0 o) (pl (rlAt T i).head) (fL T i i 0 o (pl (rlAt T i).head) ++ [i]) k := by
  unfold upd
  by_cases e : k = pl (rlAt T i).head
  · rw [if_pos e, e]
    unfold fL
    rw [if_pos hp, if_pos hp, List.range_succ, List.filter_append]
    simp
  · rw [if_neg e]
    unfold fL
    split
    · rw [List.range_succ, List.filter_append]
      have : ([i].filter fun x => pl (rlAt T x).head == k) = [] := by simp; exact fun h => e h.symm
      rw [this, List.append_nil]
    · rfl
theorem fL_body {i j : Nat} {b : Int} (hb : (rlAt T i).body[j]? = some b) (hp : pl b < 2 * (shOf T).N) (c o k : Nat) : fL T c i (j + 1) o k = upd (fL T c i j o) (2 * (shOf T).N + pl b) (fL T c i j o (2 * (shOf T).N + pl b) ++ [i]) k := by
  obtain ⟨hj, e0⟩ := List.getElem?_eq_some_iff.1 hb
  unfold upd
  by_cases e : k = 2 * (shOf T).N + pl b
  · rw [if_pos e, e]
    unfold fL
    rw [if_neg (by omega), if_pos (by omega), if_neg (by omega), if_pos (by omega), List.take_succ_eq_append_getElem hj, e0, List.filter_append, List.map_append, List.append_assoc]
    rw [show 2 * (shOf T).N + pl b - 2 * (shOf T).N = pl b by omega]
    simp
  · rw [if_neg e]
    unfold fL
    split
    · rfl
    · split
      · rw [List.take_succ_eq_append_getElem hj, e0, List.filter_append]
        have : ([b].filter fun x => pl x == k - 2 * (shOf T).N) = [] := by simp; omega
        rw [this, List.append_nil]
      · rfl
theorem fL_next (c i o k : Nat) : fL T c i (rlAt T i).body.length o k = fL T c (i + 1) 0 o k := by
  unfold fL
  split
  · rfl
  · split
    · rw [List.take_length, List.range_succ, List.flatMap_append]
      simp
    · rfl
theorem fL_over {o : Nat} {x : Int × Int} (hx : T.over[o]? = some x) (h0 : 0 ≤ x.2) (hh : (rlAt T x.1.toNat).head = -(rlAt T x.2.toNat).head) (c i j k : Nat) : fL T c i j (o + 1) k = upd (fL T c i j o) (4 * (shOf T).N + x.2.toNat) (fL T c i j o (4 * (shOf T).N + x.2.toNat) ++ [x.1.toNat]) k := by
  obtain ⟨hj, e0⟩ := List.getElem?_eq_some_iff.1 hx
  unfold upd
  by_cases e : k = 4 * (shOf T).N + x.2.toNat
  · rw [if_pos e, e]
    unfold fL
    rw [if_neg (by omega), if_neg (by omega), if_neg (by omega), if_neg (by omega), List.take_succ_eq_append_getElem hj, e0, List.filter_append, List.map_append]
    rw [show 4 * (shOf T).N + x.2.toNat - 4 * (shOf T).N = x.2.toNat by omega]
    have : ([x].filter fun y => y.2 == ((x.2.toNat : Nat) : Int) && (rlAt T y.1.toNat).head == -(rlAt T x.2.toNat).head) = [x] := by
      rw [List.filter_cons_of_pos]
      · rfl
      · simp [hh]; omega
    rw [this]
    rfl
  · rw [if_neg e]
    unfold fL
    split
    · rfl
    · split
      · rfl
      · rw [List.take_succ_eq_append_getElem hj, e0, List.filter_append]
        have : ([x].filter fun y => y.2 == ((k - 4 * (shOf T).N : Nat) : Int) && (rlAt T y.1.toNat).head == -(rlAt T (k - 4 * (shOf T).N)).head) = [] := by
          rw [List.filter_cons_of_neg]
          · rfl
          · simp; intro h; omega
        rw [this, List.append_nil]
theorem fL_skip {o : Nat} {x : Int × Int} (hx : T.over[o]? = some x) (hh : (rlAt T x.1.toNat).head ≠ -(rlAt T x.2.toNat).head) (c i j k : Nat) : fL T c i j (o + 1) k = fL T c i j o k := by
  obtain ⟨hj, e0⟩ := List.getElem?_eq_some_iff.1 hx
  unfold fL
  split
  · rfl
  · split
    · rfl
    · rw [List.take_succ_eq_append_getElem hj, e0, List.filter_append]
      have : ([x].filter fun y => y.2 == ((k - 4 * (shOf T).N : Nat) : Int) && (rlAt T y.1.toNat).head == -(rlAt T (k - 4 * (shOf T).N)).head) = [] := by
        rw [List.filter_cons_of_neg]
        · rfl
        · simp only [Bool.and_eq_true, beq_iff_eq, not_and]
          intro h
          rw [show k - 4 * (shOf T).N = x.2.toNat by omega]
          exact hh
      rw [this, List.append_nil]
theorem flat_len (f : Nat → List Int) (n : Nat) (hf : ∀ x, (f x).length ≤ n) : ∀ m, ((List.range m).flatMap (fun x => (f x).map (fun _ => x))).length ≤ m * n
  | 0 => by simp
  | m + 1 => by
    rw [List.range_succ, List.flatMap_append, List.length_append]
    have := flat_len f n hf m
    have h2 := hf m
    simp only [List.flatMap_cons, List.flatMap_nil, List.append_nil, List.length_map]
    rw [Nat.add_mul]
    omega
theorem body_len (hT : Okt T) (i : Nat) : (rlAt T i).body.length ≤ 120 := by
  rcases Nat.lt_or_ge i T.rules.length with h1 | h1
  · exact hT.body i _ (rl_of h1)
  · rw [rlAt_out h1]; simp
theorem fL_len (hT : Okt T) {c i j o : Nat} (hc : c ≤ 121) (hi : i ≤ 121) (k : Nat) : (fL T c i j o k).length ≤ 20000 := by
  unfold fL
  split
  · have := List.length_filter_le (fun x => pl (rlAt T x).head == k) (List.range c)
    rw [List.length_range] at this
    omega
  · split
    · rw [List.length_append]
      have h1 := flat_len (fun x => (rlAt T x).body.filter (fun b => pl b == k - 2 * (shOf T).N)) 120 (fun x => Nat.le_trans (List.length_filter_le _ _) (body_len hT x)) i
      have h2 := List.length_filter_le (fun b => pl b == k - 2 * (shOf T).N) ((rlAt T i).body.take j)
      have h3 := List.length_take_le j (rlAt T i).body
      have h4 := body_len hT i
      have h5 : ((rlAt T i).body.take j).length ≤ (rlAt T i).body.length := by rw [List.length_take]; omega
      rw [List.length_map]
      have : i * 120 ≤ 121 * 120 := Nat.mul_le_mul_right _ hi
      omega
    · rw [List.length_map]
      have h1 := List.length_filter_le (fun x : Int × Int => x.2 == ((k - 4 * (shOf T).N : Nat) : Int) && (rlAt T x.1.toNat).head == -(rlAt T (k - 4 * (shOf T).N)).head) (T.over.take o)
      have h2 : (T.over.take o).length ≤ T.over.length := by rw [List.length_take]; omega
      have := hT.o
      omega
theorem fL_ru (p : Nat) (hp : p < 2 * (shOf T).N) : fL T T.rules.length T.rules.length 0 T.over.length p = (shOf T).ru p := by
  unfold fL; rw [if_pos hp]; rfl
theorem fL_wi (p : Nat) (hp : p < 2 * (shOf T).N) : fL T T.rules.length T.rules.length 0 T.over.length (2 * (shOf T).N + p) = (shOf T).wi p := by
  unfold fL; rw [if_neg (by omega), if_pos (by omega), show 2 * (shOf T).N + p - 2 * (shOf T).N = p by omega]
  simp
  rfl
theorem fL_ab (i : Nat) : fL T T.rules.length T.rules.length 0 T.over.length (4 * (shOf T).N + i) = (shOf T).ab i := by
  unfold fL; rw [if_neg (by omega), if_neg (by omega), show 4 * (shOf T).N + i - 4 * (shOf T).N = i by omega, List.take_length]
  rfl
theorem Bld.after {w0 : World} {bL bR N R : Nat} {w W w' : World} {v : Nat → Value} {l : Nat → List Nat} {kd us : Nat → Int} {bv : Nat → Value} {B : Nat} (h : Bld w0 bL bR N R w v l kd us bv B) {k : Nat} (hk : k < 4 * N + R) (hW : Below w.heap.size w W) (hg : W.grownBy w' (v k).ownBlock) (b : Nat) (hb : b < w.heap.size) (hn : ∀ cur, w.heap[b]? ≠ some (.cells cur 125 (0, 0))) : w'.heap[b]? = w.heap[b]? := by
  rw [hg.block b (Nat.lt_of_lt_of_le hb hW.size) (fun e => ?_)]
  · exact hW.block b hb
  · rcases (h.row k hk).2 with ⟨e1, _⟩ | ⟨g, cap, cur, e1, _, hgg, _⟩
    · rw [e1] at e; cases e
    · rw [e1] at e
      injection e with e
      have e : b = g := e
      subst e
      exact hn cur hgg
theorem rowIs_not {w : World} {b n : Nat} {t t' : TypeId} {f : Nat → Value} (h : w.rowIs b t n f) (ht : t ≠ t') (cur : Array Value) : w.heap[b]? ≠ some (.cells cur t' (0, 0)) := by
  obtain ⟨c, e, _⟩ := h
  rw [e]
  intro e2
  injection e2 with e2
  injection e2 with _ e2 _
  exact ht e2
theorem Bld.std {w0 : World} {bL bR N R i : Nat} {w : World} {v : Nat → Value} {l : Nat → List Nat} {kd us kd' us' : Nat → Int} {bv bv' : Nat → Value} {B : Nat} (h : Bld w0 bL bR N R w v l kd us bv B) (hv : v (4 * N + i) = .slice none 0 0) {KD : Int} {L : Nat} {BV : Value} (hk : ∀ j, kd' j = if j = i then KD else kd j) (hu : ∀ j, us' j = if j = i then (L : Int) else us j) (hbv : ∀ j, bv' j = if j = i then BV else bv j) :
    Bld w0 bL bR N R (((((((w.setCell ⟨bR, i * 7, none⟩ (.int .i64 KD)).setCell ⟨bR, i * 7 + 1, none⟩ BV).setCell ⟨bR, i * 7 + 2, none⟩ (.slice none 0 0)).setCell ⟨bR, i * 7 + 3, none⟩ (.int .i64 (L : Int))).setCell ⟨bR, i * 7 + 4, none⟩ (.int .i64 (L : Int))).setCell ⟨bR, i * 7 + 5, none⟩ (.int .i64 0)).setCell ⟨bR, i * 7 + 6, none⟩ (.int .i64 0)) v l kd' us' bv' B := by
  have h1 := h.lt
  have h2 := h.o
  have h3 := h.o1
  have hb : ∀ b, b ≠ bR → (((((((w.setCell ⟨bR, i * 7, none⟩ (.int .i64 KD)).setCell ⟨bR, i * 7 + 1, none⟩ BV).setCell ⟨bR, i * 7 + 2, none⟩ (.slice none 0 0)).setCell ⟨bR, i * 7 + 3, none⟩ (.int .i64 (L : Int))).setCell ⟨bR, i * 7 + 4, none⟩ (.int .i64 (L : Int))).setCell ⟨bR, i * 7 + 5, none⟩ (.int .i64 0)).setCell ⟨bR, i * 7 + 6, none⟩ (.int .i64 0)).heap[b]? = w.heap[b]? := fun b hb => by
    rw [Below.heap_setCell _ _ _ _ hb, Below.heap_setCell _ _ _ _ hb, Below.heap_setCell _ _ _ _ hb, Below.heap_setCell _ _ _ _ hb, Below.heap_setCell _ _ _ _ hb, Below.heap_setCell _ _ _ _ hb, Below.heap_setCell _ _ _ _ hb]
  refine ⟨h.rowL.of_block (hb bL (by omega)), ?_, fun k hk => row_step (h.row k hk) fun g hg _ => hb g (by have := (row_blk (h.row k hk) hg).1; omega), h.ne, h.o, h.o1, ?_⟩
  · refine (((((((h.rowR.set (i * 7) _).set (i * 7 + 1) _).set (i * 7 + 2) _).set (i * 7 + 3) _).set (i * 7 + 4) _).set (i * 7 + 5) _).set (i * 7 + 6) _).congr fun x _ => ?_
    unfold stF
    have h5 : x % 7 < 7 := Nat.mod_lt _ (by omega)
    by_cases e : x / 7 = i
    · have e2 : x = i * 7 + x % 7 := by omega
      match hm : x % 7, h5 with
      | 0, _ =>
        rw [if_neg (by omega), if_neg (by omega), if_neg (by omega), if_neg (by omega), if_neg (by omega), if_neg (by omega), if_pos (by omega)]
        show _ = Value.int .i64 (kd' (x / 7))
        rw [hk, if_pos e]
      | 1, _ =>
        rw [if_neg (by omega), if_neg (by omega), if_neg (by omega), if_neg (by omega), if_neg (by omega), if_pos (by omega)]
        show _ = bv' (x / 7)
        rw [hbv, if_pos e]
      | 2, _ =>
        rw [if_neg (by omega), if_neg (by omega), if_neg (by omega), if_neg (by omega), if_pos (by omega)]
        show _ = v (4 * N + x / 7)
        rw [e, hv]
      | 3, _ =>
        rw [if_neg (by omega), if_neg (by omega), if_neg (by omega), if_pos (by omega)]
        show _ = Value.int .i64 (us' (x / 7))
        rw [hu, if_pos e]
      | 4, _ =>
        rw [if_neg (by omega), if_neg (by omega), if_pos (by omega)]
        show _ = Value.int .i64 (us' (x / 7))
        rw [hu, if_pos e]
      | 5, _ =>
        rw [if_neg (by omega), if_pos (by omega)]
        rfl
      | 6, _ =>
        rw [if_pos (by omega)]
        rfl
    · rw [if_neg (by omega), if_neg (by omega), if_neg (by omega), if_neg (by omega), if_neg (by omega), if_neg (by omega), if_neg (by omega)]
      match hm : x % 7, h5 with
      | 0, _ =>
        show Value.int .i64 (kd (x / 7)) = Value.int .i64 (kd' (x / 7))
        rw [hk, if_neg e]
      | 1, _ =>
        show bv (x / 7) = bv' (x / 7)
        rw [hbv, if_neg e]
      | 2, _ => rfl
      | 3, _ =>
        show Value.int .i64 (us (x / 7)) = Value.int .i64 (us' (x / 7))
        rw [hu, if_neg e]
      | 4, _ =>
        show Value.int .i64 (us (x / 7)) = Value.int .i64 (us' (x / 7))
        rw [hu, if_neg e]
      | 5, _ => rfl
      | 6, _ => rfl
  · exact (((((((h.bel.setCell (p := ⟨bR, _, none⟩) (by show _ ≤ bR; omega) _).setCell (p := ⟨bR, _, none⟩) (by show _ ≤ bR; omega) _).setCell (p := ⟨bR, _, none⟩) (by show _ ≤ bR; omega) _).setCell (p := ⟨bR, _, none⟩) (by show _ ≤ bR; omega) _).setCell (p := ⟨bR, _, none⟩) (by show _ ≤ bR; omega) _).setCell (p := ⟨bR, _, none⟩) (by show _ ≤ bR; omega) _).setCell (p := ⟨bR, _, none⟩) (by show _ ≤ bR; omega) _)
theorem Tryz.infoPS : ∃ i z, Tryz.prog.info? 125 = some i ∧ i.zero = some z ∧ i.size = 1 ∧ i.bytes = 8 ∧ z.cells.size = 1 := by
  have h : (Tryz.prog.info? 125).map (fun i => (i.zero, i.size, i.bytes)) = some (some (.pointer none), 1, 8) := by kernel_rfl
  obtain ⟨i, h1, h2⟩ := Option.map_eq_some_iff.1 h
  simp only [Prod.mk.injEq] at h2
  exact ⟨i, _, h1, h2.1, h2.2.1, h2.2.2, rfl⟩
def kdI (T : Thy) (i j : Nat) : Int := if j < i then (rlAt T j).kind else 0
def usI (T : Thy) (i j : Nat) : Int := if j < i then ((rlAt T j).body.length : Int) else 0
theorem prow_of {w : World} {bR hi R : Nat} {v : Value} {l : List Nat} (h : w.ownsRow (bR + 1) 125 1 v l.length (ptrs bR l)) (hl : l.length ≤ 100000) (hm : ∀ i, i ∈ l → i < R) (hh : w.heap.size ≤ hi) : PRow w bR hi R v l := by
  obtain ⟨a, c, e⟩ := row_any h
  refine ⟨a, c, e, hl, fun j i hj => ⟨hm i (List.mem_of_getElem? hj), ?_⟩⟩
  subst e
  rcases h.2 with ⟨e1, h0⟩ | ⟨g, cap, cur, e1, hb, hgg, h1, h2, h3, h4⟩
  · have := (List.getElem?_eq_some_iff.1 hj).1
    omega
  · injection e1 with e1 _ _
    refine ⟨g, e1, by omega, Nat.lt_of_lt_of_le (Array.getElem?_eq_some_iff.1 hgg).1 hh, ?_⟩
    subst e1
    have hc := World.ownsRow.cells h (g := g) rfl j (.pointer (some ⟨bR, i * 7, none⟩)) (by unfold ptrs; rw [List.getElem?_map, hj]; rfl)
    have h6 : (⟨g, 0, none⟩ : Addr).add j = ⟨g, j, none⟩ := by
      unfold Addr.add
      split
      · rename_i h0
        rw [h0]
      · simp
    rw [h6] at hc
    exact hc
theorem Bld.net (hT : Okt T) {w0 : World} {bL bR : Nat} {w : World} {v bv : Nat → Value} {B : Nat} (h : Bld w0 bL bR (shOf T).N T.rules.length w v (fL T T.rules.length T.rules.length 0 T.over.length) (kdI T T.rules.length) (usI T T.rules.length) bv B) (hB : B ≤ bL) (hbd : ∀ i, i < T.rules.length → IRd w B (bv i) (rlAt T i).body) : Net w bL bR w.heap.size (shOf T) (vsOf (shOf T).N v bv B) (st0 T) := by
  have hlen := fun k => fL_len hT (c := T.rules.length) (i := T.rules.length) (j := 0) (o := T.over.length) (by have := hT.r; omega) (by have := hT.r; omega) k
  refine ⟨h.o, h.lt, Nat.le_refl _, h.rowL.congr fun x _ => ?_, h.rowR.congr fun x hx => ?_, fun p hp => ?_, fun p hp => ?_, fun i hi => ?_, fun i hi => ⟨hbd i hi, body_len hT i⟩, hB⟩
  · unfold litF
    have h5 : x % 6 < 6 := Nat.mod_lt _ (by omega)
    match hm : x % 6, h5 with
    | 0, _ => rfl
    | 1, _ => rfl
    | 2, _ => rfl
    | 3, _ => rfl
    | 4, _ => rfl
    | 5, _ => rfl
  · have hx : x < T.rules.length * 7 := hx
    unfold stF
    have h5 : x % 7 < 7 := Nat.mod_lt _ (by omega)
    match hm : x % 7, h5 with
    | 0, _ =>
      show Value.int .i64 (kdI T T.rules.length (x / 7)) = .int .i64 (rlAt T (x / 7)).kind
      unfold kdI; rw [if_pos (by omega)]
    | 1, _ => rfl
    | 2, _ => rfl
    | 3, _ =>
      show Value.int .i64 (usI T T.rules.length (x / 7)) = .int .i64 ((rlAt T (x / 7)).body.length : Int)
      unfold usI; rw [if_pos (by omega)]
    | 4, _ =>
      show Value.int .i64 (usI T T.rules.length (x / 7)) = .int .i64 ((rlAt T (x / 7)).body.length : Int)
      unfold usI; rw [if_pos (by omega)]
    | 5, _ => rfl
    | 6, _ => rfl
  · have h1 := h.row p (by omega)
    have h2 := hlen p
    rw [fL_ru p hp] at h1 h2
    exact prow_of h1 (by omega) (fun i hi => ((mem_ru i p).1 hi).1) (Nat.le_refl _)
  · have h1 := h.row (2 * (shOf T).N + p) (by omega)
    have h2 := hlen (2 * (shOf T).N + p)
    rw [fL_wi p hp] at h1 h2
    refine prow_of h1 (by omega) (fun i hi => ?_) (Nat.le_refl _)
    have hi : i ∈ (List.range T.rules.length).flatMap (fun i => ((rlAt T i).body.filter (fun b => pl b == p)).map (fun _ => i)) := hi
    rw [List.mem_flatMap] at hi
    obtain ⟨x, hx, hy⟩ := hi
    rw [List.mem_map] at hy
    obtain ⟨_, _, rfl⟩ := hy
    exact List.mem_range.1 hx
  · have hi : i < T.rules.length := hi
    have h1 := h.row (4 * (shOf T).N + i) (by omega)
    have h2 := hlen (4 * (shOf T).N + i)
    rw [fL_ab i] at h1 h2
    refine prow_of h1 (by omega) (fun j hj => ?_) (Nat.le_refl _)
    obtain ⟨x, hx, _, _, rfl⟩ := mem_ab.1 hj
    have := hT.over x.1 x.2 hx
    show x.1.toNat < T.rules.length
    omega
end
end Go.Proofs.YtmbclnaenjcocaaGreatDoor
