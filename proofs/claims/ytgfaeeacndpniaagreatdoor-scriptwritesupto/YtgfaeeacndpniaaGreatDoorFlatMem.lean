/-
  The flat rows of a law in memory. No walk.
-/
import Derived.Test.YtgfaeeacndpniaaGreatDoorFlatAll
import Derived.Test.YtgfaeeacndpniaaGreatDoorMemBase
import Derived.Test.YtgfaeeacndpniaaGreatDoorValidP1
namespace Go.Proofs.YtgfaeeacndpniaaGreatDoor
open Go.RowKit Go.Extern.Stop Go.Stop Go.Extern

theorem Tryz.infoRow : ∃ i z, Tryz.prog.info? 91 = some i ∧ i.zero = some z ∧ i.size = 8 ∧ i.bytes = 136 ∧ z.cells.size = 8 := by
  have h : (Tryz.prog.info? 91).map (fun i => (i.zero.map (fun z => z.cells.size), i.size, i.bytes)) = some (some 8, 8, 136) := by kernel_rfl
  obtain ⟨i, hi, e⟩ := Option.map_eq_some_iff.1 h
  injection e with e1 e2
  injection e2 with e2 e3
  obtain ⟨z, hz, e4⟩ := Option.map_eq_some_iff.1 e1
  exact ⟨i, z, hi, hz, e2, e3, e4⟩
def flat8 (V : Nat → Nat → Value) (n : Nat) : List Value := (List.range (n * 8)).map fun q => V (q / 8) (q % 8)
theorem flat8_len (V : Nat → Nat → Value) (n : Nat) : (flat8 V n).length = n * 8 := by unfold flat8; simp
theorem flat8_get (V : Nat → Nat → Value) (n j c : Nat) (hj : j < n) (hc : c < 8) : (flat8 V n)[j * 8 + c]? = some (V j c) := by
  unfold flat8
  rw [List.getElem?_map, List.getElem?_range (by omega)]
  simp only [Option.map_some, Option.some.injEq]
  rw [show (j * 8 + c) / 8 = j by omega, show (j * 8 + c) % 8 = c by omega]
theorem flat8_snoc (V : Nat → Nat → Value) (n : Nat) (x : Nat → Value) : flat8 V n ++ [x 0, x 1, x 2, x 3, x 4, x 5, x 6, x 7] = flat8 (snocV V n x) (n + 1) := by
  apply List.ext_getElem?
  intro q
  rcases Nat.lt_or_ge q (n * 8) with h | h
  · rw [List.getElem?_append_left (by rw [flat8_len]; exact h)]
    have e : q = q / 8 * 8 + q % 8 := by omega
    rw [e, flat8_get _ _ _ _ (by omega) (by omega), flat8_get _ _ _ _ (by omega) (by omega)]
    unfold snocV
    rw [if_neg (by omega)]
  · rw [List.getElem?_append_right (by rw [flat8_len]; exact h), flat8_len]
    rcases Nat.lt_or_ge q ((n + 1) * 8) with h2 | h2
    · obtain ⟨c, hc⟩ : ∃ c, c = q - n * 8 := ⟨_, rfl⟩
      have e : q = n * 8 + c := by omega
      rw [e, flat8_get _ _ _ _ (by omega) (by omega)]
      unfold snocV
      rw [if_pos rfl, show n * 8 + c - n * 8 = c by omega]
      have : c < 8 := by omega
      match c, this with
      | 0, _ => rfl
      | 1, _ => rfl
      | 2, _ => rfl
      | 3, _ => rfl
      | 4, _ => rfl
      | 5, _ => rfl
      | 6, _ => rfl
      | 7, _ => rfl
    · rw [List.getElem?_eq_none (by simp; omega), List.getElem?_eq_none (by rw [flat8_len]; exact h2)]
/-- A row in memory; the law lies below B. -/
structure RowAt (B : Nat) (w : World) (c : Nat → Value) (r : FRow) : Prop where
  it : Lies w (fun k => k < B) c r.item
  dp : c 4 = .int .i64 r.deep
  pa : ∃ s, c 5 = .string s
  nt : c 6 = .int .i64 r.nth
  up : ∃ ua uc, c 7 = .slice ua r.up.length uc ∧ ∀ k x, r.up[k]? = some x → ∃ b o, ua = some ⟨b, o, none⟩ ∧ b < B ∧ w.cell? ⟨b, o + k * 4, none⟩ = some (.string x.label)
theorem RowAt.on {B : Nat} {w w' : World} {c : Nat → Value} {r : FRow} (h : RowAt B w c r) (hb : Below B w w') : RowAt B w' c r where
  it := h.it.step fun b _ hp => ⟨hb.block b hp, hp⟩
  dp := h.dp
  pa := h.pa
  nt := h.nt
  up := by
    obtain ⟨ua, uc, h1, h2⟩ := h.up
    refine ⟨ua, uc, h1, fun k x hx => ?_⟩
    obtain ⟨b, o, e1, e2, e3⟩ := h2 k x hx
    exact ⟨b, o, e1, e2, (hb.cell (p := ⟨b, o + k * 4, none⟩) e2).trans e3⟩
/-- The rows so far. -/
structure FAt (B : Nat) (w : World) (sv : Value) (rows : List FRow) (V : Nat → Nat → Value) : Prop where
  row : w.ownsRow B 91 8 sv rows.length (flat8 V rows.length)
  each : ∀ i r, rows[i]? = some r → RowAt B w (V i) r
/-- What making rows leaves as it was: all below B, and every block that does not hold rows. -/
structure RStep (B : Nat) (w w' : World) : Prop where
  bel : Below B w w'
  kp : ∀ (k : Nat) cs T fr, w.heap[k]? = some (.cells cs T fr) → T ≠ 91 → w'.heap[k]? = w.heap[k]?
theorem RStep.refl (B : Nat) (w : World) : RStep B w w := ⟨Below.refl _ _, fun _ _ _ _ _ _ => rfl⟩
theorem RStep.trans {B : Nat} {w w' w'' : World} (h : RStep B w w') (h' : RStep B w' w'') : RStep B w w'' :=
  ⟨h.bel.trans h'.bel, fun k cs T fr hc hT => (h'.kp k cs T fr ((h.kp k cs T fr hc hT).trans hc) hT).trans (h.kp k cs T fr hc hT)⟩
theorem RStep.of {B : Nat} {w w' : World} (hw : B ≤ w.heap.size) (h : Below w.heap.size w w') : RStep B w w' :=
  ⟨h.mono hw, fun k _ _ _ hc _ => h.block k (lt_of_block hc)⟩
theorem FAt.on {B : Nat} {w w' : World} {sv : Value} {rows : List FRow} {V : Nat → Nat → Value} (h : FAt B w sv rows V) (hw : B ≤ w.heap.size) (hb : Below w.heap.size w w') : FAt B w' sv rows V :=
  ⟨row_step h.row fun g _ hg => hb.block g hg, fun i r e => (h.each i r e).on (hb.mono hw)⟩
/-- A row more. -/
theorem FAt.push {B : Nat} {w w1 w2 : World} {sv sv' : Value} {rows : List FRow} {V : Nat → Nat → Value} (h : FAt B w sv rows V) (hw : B ≤ w.heap.size) (ha : Below w.heap.size w w1) (x : Nat → Value) (r : FRow)
    (ho : w2.ownsRow B 91 8 sv' (rows.length + 1) (flat8 V rows.length ++ [x 0, x 1, x 2, x 3, x 4, x 5, x 6, x 7])) (hg : w1.grownBy w2 sv.ownBlock) (hr : RowAt B w x r) :
    FAt B w2 sv' (rows ++ [r]) (snocV V rows.length x) ∧ RStep B w w2 := by
  have hs1 : B ≤ w1.heap.size := Nat.le_trans hw ha.size
  have hrow1 : w1.ownsRow B 91 8 sv rows.length (flat8 V rows.length) := row_step h.row fun g _ hg => ha.block g hg
  have hb2 : Below B w w2 := (ha.mono hw).grown hg hs1 (fun k hk => (hrow1.lt k hk).1)
  refine ⟨⟨?_, fun i q e => ?_⟩, hb2, fun k cs T fr hc hT => ?_⟩
  · rw [List.length_append, List.length_singleton, ← flat8_snoc]; exact ho
  · rw [List.getElem?_append] at e
    split at e
    · rename_i hi
      unfold snocV
      rw [if_neg (by omega)]
      exact (h.each i q e).on hb2
    · rename_i hi
      have : i = rows.length := by
        have := (List.getElem?_eq_some_iff.1 e).1
        simp at this; omega
      subst this
      rw [Nat.sub_self] at e
      obtain rfl : r = q := by simpa using e
      unfold snocV
      rw [if_pos rfl]
      exact hr.on hb2
  · have h1 : w1.heap[k]? = some (.cells cs T fr) := (ha.block k (lt_of_block hc)).trans hc
    have hne : sv.ownBlock ≠ some k := by
      rcases hrow1.2 with ⟨rfl, _⟩ | ⟨g, cap, cur, rfl, _, hgg, _⟩
      · simp [Value.ownBlock]
      · intro e
        simp only [Value.ownBlock, Option.some.injEq] at e
        subst e
        rw [hgg] at h1
        simp only [Option.some.injEq, Obj.cells.injEq] at h1
        exact hT h1.2.1.symm
    rw [hg.block k (lt_of_block h1) (fun e => hne e.symm), h1, hc]
theorem FAt.get {B : Nat} {w : World} {a : Option Addr} {n cap : Nat} {rows : List FRow} {V : Nat → Nat → Value} (h : FAt B w (.slice a n cap) rows V) {i : Nat} {r : FRow} (hr : rows[i]? = some r) : n = rows.length ∧ ∃ g, a = some ⟨g, 0, none⟩ ∧ ∀ c, c < 8 → w.cell? ⟨g, i * 8 + c, none⟩ = some (V i c) := by
  have hi := (List.getElem?_eq_some_iff.1 hr).1
  rcases h.row.2 with ⟨_, h0⟩ | ⟨g, cap', cur, e1, _⟩
  · omega
  · injection e1 with e2 e3 e4
    refine ⟨e3, g, e2, fun c hc => ?_⟩
    have hrow := h.row
    rw [e2, e3] at hrow
    have h5 := hrow.cells (g := g) rfl (i * 8 + c) _ (flat8_get V rows.length i c hi hc)
    have h6 : (⟨g, 0, none⟩ : Addr).add (i * 8 + c) = ⟨g, i * 8 + c, none⟩ := by
      unfold Addr.add
      split
      · rename_i h0
        rw [h0]
      · simp
    rw [h6] at h5
    exact h5
theorem flatKs_app (d : Nat) (up : List It) : ∀ (a b : List It) (n : Nat), flatKs d n up (a ++ b) = flatKs d n up a ++ flatKs d (n + a.length) up b
  | [], b, n => by rw [flatKs]; rfl
  | t :: r, b, n => by
    rw [List.cons_append, flatKs, flatKs, flatKs_app d up r b (n + 1), List.append_assoc, List.length_cons, show n + 1 + r.length = n + (r.length + 1) by omega]
theorem flatKs_take (d : Nat) (l : List It) (i : Nat) (t : It) (h : l[i]? = some t) (up : List It) : flatKs d 0 up (l.take (i + 1)) = flatKs d 0 up (l.take i) ++ flatIt d i up t := by
  obtain ⟨hi, e⟩ := List.getElem?_eq_some_iff.1 h
  rw [List.take_succ_eq_append_getElem hi, e, flatKs_app, flatKs, flatKs, List.append_nil, List.length_take, Nat.min_eq_left (by omega), Nat.zero_add]
theorem flatIt_len : ∀ (N : Nat) (t : It), sizeIt t ≤ N → ∀ (d n : Nat) (up : List It), (flatIt d n up t).length ≤ sizeIt t
  | 0, t, h, d, n, up => by have := sizeIt_eq t; omega
  | N + 1, t, h, d, n, up => by
    have hks : ∀ (l all : List It) (j : Nat), (∀ x ∈ l, sizeIt x ≤ N) → (flatKs (d + 1) j all l).length ≤ sizeIts l := by
      intro l
      induction l with
      | nil => intro all j _; rw [flatKs]; simp
      | cons x r ih =>
        intro all j hx
        have h1 := ih all (j + 1) (fun y hy => hx y (List.mem_cons_of_mem _ hy))
        have h2 := flatIt_len N x (hx x (by simp)) (d + 1) j all
        rw [flatKs, List.length_append, sizeIts]
        omega
    have h1 := hks t.kids t.kids 0 (fun x hx => by have := kid_size hx; omega)
    have h2 := sizeIt_eq t
    rw [flatIt_eq, List.length_cons]
    omega
theorem flatKs_len (d : Nat) (up : List It) : ∀ (l : List It) (n : Nat), (flatKs d n up l).length ≤ sizeIts l
  | [], n => by rw [flatKs]; simp
  | x :: r, n => by
    have h1 := flatKs_len d up r (n + 1)
    have h2 := flatIt_len _ x (Nat.le_refl _) d n up
    rw [flatKs, List.length_append, sizeIts]
    omega
theorem sizeIts_take : ∀ (l : List It) (i : Nat) (t : It), l[i]? = some t → sizeIts (l.take (i + 1)) = sizeIts (l.take i) + sizeIt t
  | a :: r, 0, t, h => by
    obtain rfl : a = t := by simpa using h
    simp [sizeIts]
  | a :: r, i + 1, t, h => by
    have := sizeIts_take r i t (by simpa using h)
    rw [List.take_succ_cons, List.take_succ_cons, sizeIts, sizeIts, this]
    omega
theorem sizeIts_takeLe : ∀ (l : List It) (i : Nat), sizeIts (l.take i) ≤ sizeIts l
  | [], i => by simp
  | a :: r, 0 => by simp [sizeIts]
  | a :: r, i + 1 => by
    have := sizeIts_takeLe r i
    rw [List.take_succ_cons, sizeIts, sizeIts]
    omega
end Go.Proofs.YtgfaeeacndpniaaGreatDoor
