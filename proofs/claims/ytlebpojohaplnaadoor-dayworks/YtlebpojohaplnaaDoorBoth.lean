/-
  The law's own two calendars.
-/
import Derived.Test.YtlebpojohaplnaaDoorPCount
import Derived.Shelf.RegionOpenPlain
import Derived.BigRegion
import Derived.Deep.RegionLawGrows
namespace Go.Proofs.YtlebpojohaplnaaDoor
open Go.RowKit Go.Sort Go.Lib

theorem Tryd.mixedB : Tryd.prog.follows .mixedOrders = true := by kernel_rfl
/-- The bools that are copied: the first i of B. -/
def upTo (B : Nat → Bool) (i j : Nat) : Bool := if j < i then B j else false
/-- The two calendars as they are made: i days of the one, k of the other. -/
structure BS (w wr : World) (B : Nat → Bool) (i k : Nat) (offv holv vx vy : Value) : Prop where
  c0 : wr.cell? ⟨w.heap.size, 0, none⟩ = some offv
  c1 : wr.cell? ⟨w.heap.size, 1, none⟩ = some holv
  x : ∀ j : Nat, j < 7 → wr.cell? ⟨w.heap.size + 1, j, none⟩ = some (.bool (upTo B i j)) ∧ wr.frozen? ⟨w.heap.size + 1, j, none⟩ = false
  y : ∀ j : Nat, j < 7 → wr.cell? ⟨w.heap.size + 2, j, none⟩ = some (.bool (upTo B k j)) ∧ wr.frozen? ⟨w.heap.size + 2, j, none⟩ = false
  x7 : wr.cell? ⟨w.heap.size + 1, 7, none⟩ = some vx ∧ wr.frozen? ⟨w.heap.size + 1, 7, none⟩ = false
  y7 : wr.cell? ⟨w.heap.size + 2, 7, none⟩ = some vy ∧ wr.frozen? ⟨w.heap.size + 2, 7, none⟩ = false
  bel : Below w.heap.size w wr
  sz : w.heap.size + 3 ≤ wr.heap.size
theorem upTo_same (B : Nat → Bool) (i : Nat) : upTo B (i + 1) i = B i := by simp [upTo]
theorem upTo_other (B : Nat → Bool) (i j : Nat) (h : j ≠ i) : upTo B (i + 1) j = upTo B i j := by
  unfold upTo
  by_cases k : j < i
  · rw [if_pos k, if_pos (by omega)]
  · rw [if_neg k, if_neg (by omega)]
theorem BS.setX {w wr : World} {B : Nat → Bool} {i k : Nat} {offv holv vx vy : Value} (h : BS w wr B i k offv holv vx vy) (hi : i < 7) (n : Nat) : BS w ((wr.drewN n).setCell ⟨w.heap.size + 1, i, none⟩ (.bool (B i))) B (i + 1) k offv holv vx vy := by
  have o : ∀ a : Addr, a ≠ ⟨w.heap.size + 1, i, none⟩ → ((wr.drewN n).setCell ⟨w.heap.size + 1, i, none⟩ (.bool (B i))).cell? a = wr.cell? a := fun a ha => by
    rw [World.cell?_setCell_other _ _ _ _ (fun e => ha e.symm)]; rfl
  refine ⟨(o _ (by intro e; injection e; omega)).trans h.c0, (o _ (by intro e; injection e; omega)).trans h.c1, fun j hj => ⟨?_, by simpa using (h.x j hj).2⟩, fun j hj => ⟨(o _ (by intro e; injection e; omega)).trans (h.y j hj).1, by simpa using (h.y j hj).2⟩, ⟨(o _ (by intro e; injection e; omega)).trans h.x7.1, by simpa using h.x7.2⟩, ⟨(o _ (by intro e; injection e; omega)).trans h.y7.1, by simpa using h.y7.2⟩, (bdrewN h.bel n).setCell (Nat.le_succ _) _, by simpa using h.sz⟩
  by_cases e : j = i
  · subst e
    rw [upTo_same]
    exact World.cell?_setCell_same _ _ _ (u := .bool (upTo B j j)) (h.x j hj).1
  · rw [upTo_other B i j e]
    exact (o _ (by intro e'; injection e'; omega)).trans (h.x j hj).1
theorem BS.setY {w wr : World} {B : Nat → Bool} {i k : Nat} {offv holv vx vy : Value} (h : BS w wr B i k offv holv vx vy) (hk : k < 7) (n : Nat) : BS w ((wr.drewN n).setCell ⟨w.heap.size + 2, k, none⟩ (.bool (B k))) B i (k + 1) offv holv vx vy := by
  have o : ∀ a : Addr, a ≠ ⟨w.heap.size + 2, k, none⟩ → ((wr.drewN n).setCell ⟨w.heap.size + 2, k, none⟩ (.bool (B k))).cell? a = wr.cell? a := fun a ha => by
    rw [World.cell?_setCell_other _ _ _ _ (fun e => ha e.symm)]; rfl
  refine ⟨(o _ (by intro e; injection e; omega)).trans h.c0, (o _ (by intro e; injection e; omega)).trans h.c1, fun j hj => ⟨(o _ (by intro e; injection e; omega)).trans (h.x j hj).1, by simpa using (h.x j hj).2⟩, fun j hj => ⟨?_, by simpa using (h.y j hj).2⟩, ⟨(o _ (by intro e; injection e; omega)).trans h.x7.1, by simpa using h.x7.2⟩, ⟨(o _ (by intro e; injection e; omega)).trans h.y7.1, by simpa using h.y7.2⟩, (bdrewN h.bel n).setCell (Nat.le_add_right _ 2) _, by simpa using h.sz⟩
  by_cases e : j = k
  · subst e
    rw [upTo_same]
    exact World.cell?_setCell_same _ _ _ (u := .bool (upTo B j j)) (h.y j hj).1
  · rw [upTo_other B k j e]
    exact (o _ (by intro e'; injection e'; omega)).trans (h.y j hj).1
theorem BS.keep {w wr wr' : World} {B : Nat → Bool} {i k : Nat} {offv holv vx vy : Value} (h : BS w wr B i k offv holv vx vy) (hb : Below (w.heap.size + 3) wr wr') : BS w wr' B i k offv holv vx vy := by
  have o : ∀ a : Addr, a.block < w.heap.size + 3 → wr'.cell? a = wr.cell? a ∧ wr'.frozen? a = wr.frozen? a := fun a ha => ⟨hb.cell ha, hb.frozen ha⟩
  exact ⟨(o ⟨_, 0, none⟩ (show w.heap.size < _ by omega)).1.trans h.c0, (o ⟨_, 1, none⟩ (show w.heap.size < _ by omega)).1.trans h.c1,
    fun j hj => ⟨(o ⟨_, j, none⟩ (show w.heap.size + 1 < _ by omega)).1.trans (h.x j hj).1, (o ⟨_, j, none⟩ (show w.heap.size + 1 < _ by omega)).2.trans (h.x j hj).2⟩,
    fun j hj => ⟨(o ⟨_, j, none⟩ (show w.heap.size + 2 < _ by omega)).1.trans (h.y j hj).1, (o ⟨_, j, none⟩ (show w.heap.size + 2 < _ by omega)).2.trans (h.y j hj).2⟩,
    ⟨(o ⟨_, 7, none⟩ (show w.heap.size + 1 < _ by omega)).1.trans h.x7.1, (o ⟨_, 7, none⟩ (show w.heap.size + 1 < _ by omega)).2.trans h.x7.2⟩,
    ⟨(o ⟨_, 7, none⟩ (show w.heap.size + 2 < _ by omega)).1.trans h.y7.1, (o ⟨_, 7, none⟩ (show w.heap.size + 2 < _ by omega)).2.trans h.y7.2⟩,
    h.bel.trans (hb.mono (by omega)), Nat.le_trans h.sz hb.size⟩
theorem BS.setX7 {w wr : World} {B : Nat → Bool} {i k : Nat} {offv holv vx vy : Value} (h : BS w wr B i k offv holv vx vy) (v : Value) : BS w (wr.setCell ⟨w.heap.size + 1, 7, none⟩ v) B i k offv holv v vy := by
  have o : ∀ a : Addr, a ≠ ⟨w.heap.size + 1, 7, none⟩ → (wr.setCell ⟨w.heap.size + 1, 7, none⟩ v).cell? a = wr.cell? a := fun a ha => World.cell?_setCell_other _ _ _ _ (fun e => ha e.symm)
  exact ⟨(o _ (by intro e; injection e; omega)).trans h.c0, (o _ (by intro e; injection e; omega)).trans h.c1, fun j hj => ⟨(o _ (by intro e; injection e; omega)).trans (h.x j hj).1, by simpa using (h.x j hj).2⟩, fun j hj => ⟨(o _ (by intro e; injection e; omega)).trans (h.y j hj).1, by simpa using (h.y j hj).2⟩, ⟨World.cell?_setCell_same _ _ _ h.x7.1, by simpa using h.x7.2⟩, ⟨(o _ (by intro e; injection e; omega)).trans h.y7.1, by simpa using h.y7.2⟩, h.bel.setCell (Nat.le_succ _) _, by simpa using h.sz⟩
theorem BS.setY7 {w wr : World} {B : Nat → Bool} {i k : Nat} {offv holv vx vy : Value} (h : BS w wr B i k offv holv vx vy) (v : Value) : BS w (wr.setCell ⟨w.heap.size + 2, 7, none⟩ v) B i k offv holv vx v := by
  have o : ∀ a : Addr, a ≠ ⟨w.heap.size + 2, 7, none⟩ → (wr.setCell ⟨w.heap.size + 2, 7, none⟩ v).cell? a = wr.cell? a := fun a ha => World.cell?_setCell_other _ _ _ _ (fun e => ha e.symm)
  exact ⟨(o _ (by intro e; injection e; omega)).trans h.c0, (o _ (by intro e; injection e; omega)).trans h.c1, fun j hj => ⟨(o _ (by intro e; injection e; omega)).trans (h.x j hj).1, by simpa using (h.x j hj).2⟩, fun j hj => ⟨(o _ (by intro e; injection e; omega)).trans (h.y j hj).1, by simpa using (h.y j hj).2⟩, ⟨(o _ (by intro e; injection e; omega)).trans h.x7.1, by simpa using h.x7.2⟩, ⟨World.cell?_setCell_same _ _ _ h.y7.1, by simpa using h.y7.2⟩, h.bel.setCell (Nat.le_add_right _ 2) _, by simpa using h.sz⟩
theorem row_of {w : World} {B0 : Nat} {e : TypeId} {v : Value} {xs : List Int} (h : w.ownsRow B0 e 1 v xs.length (xs.map (Value.int .i64))) : Row w v xs := by
  rcases Joins.ownsRow_forms h with ⟨rfl, h0⟩ | ⟨g, cap, rfl⟩
  · exact .inl ⟨rfl, List.eq_nil_of_length_eq_zero h0⟩
  · have hlt := h.lt g rfl
    rcases h.2 with ⟨h2, _⟩ | ⟨g', cap', cur, e2, _, _, hcap, _⟩
    · cases h2
    · cases e2
      refine .inr ⟨g, cap, rfl, hlt.2, hcap, fun j x hx => ?_⟩
      have hj : j < xs.length := (List.getElem?_eq_some_iff.1 hx).1
      rw [h.cellAt j (by omega), List.getElem?_map, hx]
      rfl
theorem upTo_end (B : Nat → Bool) (i n j : Nat) (hj : j < 7) (h : i = 7 ∧ i ≤ n ∨ i = n) : upTo B i j = upTo B n j := by
  unfold upTo
  rcases h with ⟨rfl, h⟩ | rfl
  · rw [if_pos hj, if_pos (by omega)]
  · rfl
theorem BS.calX {w wr : World} {B : Nat → Bool} {i k n m : Nat} {offv holv vx vy : Value} (h : BS w wr B i k offv holv vx vy) {off : Int → Bool} (ho : ∀ j : Nat, j < 7 → off j = upTo B n j) (hi : i = 7 ∧ i ≤ n ∨ i = n) {xs : List Int} (hm : xs.length = m) {B0 : Nat} {e : TypeId} (hown : wr.ownsRow B0 e 1 vx m (xs.map (Value.int .i64))) (hl : m ≤ 100) : Cal wr (w.heap.size + 1) off xs vx := by
  subst hm
  exact ⟨by have := h.sz; omega, fun j hj => by rw [(h.x j hj).1, ho j hj, upTo_end B i n j hj hi], h.x7.1, row_of hown, hl⟩
theorem BS.calY {w wr : World} {B : Nat → Bool} {i k n m : Nat} {offv holv vx vy : Value} (h : BS w wr B i k offv holv vx vy) {off : Int → Bool} (ho : ∀ j : Nat, j < 7 → off j = upTo B n j) (hi : k = 7 ∧ k ≤ n ∨ k = n) {xs : List Int} (hm : xs.length = m) {B0 : Nat} {e : TypeId} (hown : wr.ownsRow B0 e 1 vy m (xs.map (Value.int .i64))) (hl : m ≤ 100) : Cal wr (w.heap.size + 2) off xs vy := by
  subst hm
  exact ⟨by have := h.sz; omega, fun j hj => by rw [(h.y j hj).1, ho j hj, upTo_end B k n j hj hi], h.y7.1, row_of hown, hl⟩
theorem row_form {w : World} {base n : Nat} {e : TypeId} {v : Value} {ys : List Value} (h : w.ownsRow base e 1 v n ys) : ∃ c : Option Addr × Nat × Nat, v = Value.slice c.1 c.2.1 c.2.2 := by
  rcases Joins.ownsRow_forms h with ⟨rfl, _⟩ | ⟨g, cap, rfl⟩
  · exact ⟨(none, 0, 0), rfl⟩
  · exact ⟨(some _, _, _), rfl⟩
/-- append to a row of the call's own, as one step of a region that draws. -/
theorem step_append_row {P : Program} {ops : Array Oper} {o : Oper} {a : Act} {w : World} {K : Act → World → Prop} {Q : Exit → Act → World → Prop} {E : Prop}
    (hg : o.guard = none) (s x : Operand) (t : TypeId) (hop : o.op = Op.call { callee := Callee.builtin Builtin.append, args := #[s, x], argTypes := #[t, t] })
    (base : Nat) (e : TypeId) (i : TypeInfo) (z : Value) (size bytes : Nat) (h1 : P.underlying t = some (.slice e)) (h2 : P.info? e = some i) (h3 : i.zero = some z) (h4 : i.size = size) (h5 : i.bytes = bytes) (h6 : z.cells.size = size) (h7 : 0 < size)
    (v : Value) (n : Nat) (xs : List Value) (hs : a.eval s = v) (hown : w.ownsRow base e size v n xs)
    (ad : Addr) (m c : Nat) (news : List Value) (hx : a.eval x = .slice (some ad) m c) (hn : news.length = m * size) (hc : ∀ j u, news[j]? = some u → w.cell? (ad.add j) = some u) (h1c : ∀ u ∈ news, u.oneCell' = true)
    (b1 : n + m ≤ maxLen) (b2 : (n + m) * bytes ≤ 140737488355328) (hb : base ≤ w.heap.size)
    (hK : ∀ v' w', w'.ownsRow base e size v' (n + m) (xs ++ news) → w.grownBy w' v.ownBlock → K (a.put o.dst v') w') :
    if Region.wanted o (yielded ops a.tmps) = true then Oper.wp P o a w K Q else E := by
  have hw : Region.wanted o (yielded ops a.tmps) = true := by simp [Region.wanted, hg]
  rw [if_pos hw]
  obtain ⟨v', w', hrun, r1, r2, _⟩ := run_append_own (P := P) w base t o.type e i z size bytes h1 h2 h3 h4 h5 h6 h7 v n xs hown ad m c news hn hc h1c b1 b2 hb
  unfold Oper.wp
  simp [execOp, hop, resolve, invoke, builtin, hs, hx, hrun, Result.andThen]
  exact hK v' w' r1 r2
theorem BS.start (w : World) (B : Nat → Bool) (offv holv : Value) (t1 t2 t3 : TypeId) : BS w (((w.alloc (.cells #[offv, holv] t1)).alloc (.cells #[.bool false, .bool false, .bool false, .bool false, .bool false, .bool false, .bool false, .slice none 0 0] t2)).alloc (.cells #[.bool false, .bool false, .bool false, .bool false, .bool false, .bool false, .bool false, .slice none 0 0] t3)) B 0 0 offv holv (.slice none 0 0) (.slice none 0 0) := by
  have u0 : ∀ j, upTo B 0 j = false := fun j => by simp [upTo]
  have hsz : (((w.alloc (.cells #[offv, holv] t1)).alloc (.cells #[.bool false, .bool false, .bool false, .bool false, .bool false, .bool false, .bool false, .slice none 0 0] t2)).alloc (.cells #[.bool false, .bool false, .bool false, .bool false, .bool false, .bool false, .bool false, .slice none 0 0] t3)).heap.size = w.heap.size + 3 := by simp
  have a0 : ∀ j : Nat, (((w.alloc (.cells #[offv, holv] t1)).alloc (.cells #[.bool false, .bool false, .bool false, .bool false, .bool false, .bool false, .bool false, .slice none 0 0] t2)).alloc (.cells #[.bool false, .bool false, .bool false, .bool false, .bool false, .bool false, .bool false, .slice none 0 0] t3)).cell? ⟨w.heap.size, j, none⟩ = #[offv, holv][j]? := fun j => by
    rw [World.cell?_alloc_lt _ _ ⟨w.heap.size, j, none⟩ (by simp; omega), World.cell?_alloc_lt _ _ ⟨w.heap.size, j, none⟩ (by simp), World.cell?_alloc_at _ _ _ _ rfl]
  have a1 : ∀ j : Nat, (((w.alloc (.cells #[offv, holv] t1)).alloc (.cells #[.bool false, .bool false, .bool false, .bool false, .bool false, .bool false, .bool false, .slice none 0 0] t2)).alloc (.cells #[.bool false, .bool false, .bool false, .bool false, .bool false, .bool false, .bool false, .slice none 0 0] t3)).cell? ⟨w.heap.size + 1, j, none⟩ = #[Value.bool false, .bool false, .bool false, .bool false, .bool false, .bool false, .bool false, .slice none 0 0][j]? := fun j => by
    rw [World.cell?_alloc_lt _ _ ⟨w.heap.size + 1, j, none⟩ (by simp), World.cell?_alloc_at _ _ _ _ (by simp)]
  have a2 : ∀ j : Nat, (((w.alloc (.cells #[offv, holv] t1)).alloc (.cells #[.bool false, .bool false, .bool false, .bool false, .bool false, .bool false, .bool false, .slice none 0 0] t2)).alloc (.cells #[.bool false, .bool false, .bool false, .bool false, .bool false, .bool false, .bool false, .slice none 0 0] t3)).cell? ⟨w.heap.size + 2, j, none⟩ = #[Value.bool false, .bool false, .bool false, .bool false, .bool false, .bool false, .bool false, .slice none 0 0][j]? := fun j => by
    rw [World.cell?_alloc_at _ _ _ _ (by simp)]
  have f1 : ∀ j : Nat, (((w.alloc (.cells #[offv, holv] t1)).alloc (.cells #[.bool false, .bool false, .bool false, .bool false, .bool false, .bool false, .bool false, .slice none 0 0] t2)).alloc (.cells #[.bool false, .bool false, .bool false, .bool false, .bool false, .bool false, .bool false, .slice none 0 0] t3)).frozen? ⟨w.heap.size + 1, j, none⟩ = false := fun j => by
    rw [World.frozen?_alloc_past _ _ _ (by simp), World.frozen?_alloc_at _ _ _ _ (by simp)]
  have f2 : ∀ j : Nat, (((w.alloc (.cells #[offv, holv] t1)).alloc (.cells #[.bool false, .bool false, .bool false, .bool false, .bool false, .bool false, .bool false, .slice none 0 0] t2)).alloc (.cells #[.bool false, .bool false, .bool false, .bool false, .bool false, .bool false, .bool false, .slice none 0 0] t3)).frozen? ⟨w.heap.size + 2, j, none⟩ = false := fun j => by
    rw [World.frozen?_alloc_at _ _ _ _ (by simp)]
  refine ⟨a0 0, a0 1, fun j hj => ⟨?_, f1 j⟩, fun j hj => ⟨?_, f2 j⟩, ⟨a1 7, f1 7⟩, ⟨a2 7, f2 7⟩, (((Below.refl _ _).alloc (Nat.le_refl _) _).alloc (by simp) _).alloc (by simp; omega) _, by rw [hsz]; exact Nat.le_refl _⟩
  · rw [a1 j, u0]
    have h : j = 0 ∨ j = 1 ∨ j = 2 ∨ j = 3 ∨ j = 4 ∨ j = 5 ∨ j = 6 := by omega
    rcases h with rfl | rfl | rfl | rfl | rfl | rfl | rfl <;> rfl
  · rw [a2 j, u0]
    have h : j = 0 ∨ j = 1 ∨ j = 2 ∨ j = 3 ∨ j = 4 ∨ j = 5 ∨ j = 6 := by omega
    rcases h with rfl | rfl | rfl | rfl | rfl | rfl | rfl <;> rfl

set_option maxHeartbeats 4000000 in
set_option maxRecDepth 10000 in
theorem both_some (ad : Addr) (c2 n cap : Nat) (oa : Option Addr) (xs : List Int) (B : Nat → Bool) (w : World) (HNews : ∀ (j : Nat) (x : Int), xs[j]? = some x → (ad.add j).block < w.heap.size ∧ w.cell? (ad.add j) = some (.int .i64 x)) (hxs : xs.length ≤ 100) (hB : ∀ i : Nat, i < n → ∃ ob oo, oa = some ⟨ob, oo, none⟩ ∧ ob < w.heap.size ∧ w.cell? ⟨ob, oo + i, none⟩ = some (.bool (B i))) (hn : n ≤ 9223372036854775807) (off : Int → Bool) (hoff : ∀ j : Nat, j < 7 → off j = upTo B n j) :
    Calls Tryd.prog 7 #[.agg #[.slice oa n cap, (.slice (some ad) xs.length c2)]] w fun e w' => ∃ v1 v2, e = .returned (.tuple #[.pointer (some ⟨w.heap.size + 1, 0, none⟩), .pointer (some ⟨w.heap.size + 2, 0, none⟩)]) ∧ Cal w' (w.heap.size + 1) off xs v1 ∧ Cal w' (w.heap.size + 2) off xs v2 ∧ Below w.heap.size w w' := by
  have HB := hidIt hB
  have HN := hidIt HNews
  have HOff := hidIt hoff
  have H1c : Hid (∀ u ∈ xs.map (Value.int .i64), u.oneCell' = true) := by intro u hu; obtain ⟨x, _, rfl⟩ := List.mem_map.1 hu; rfl
  have HLn : Hid ((xs.map (Value.int .i64)).length = xs.length * 1) := by show _ = _; simp
  clear hB HNews hoff
  generalize hm : xs.length = m at *
  have HM := hidIt hm
  clear hm
  go_enter Tryd.func7, Tryd.ntmps7
  go_wp2_with fail
  go_loopw [6] (fun t wr => ∃ i : Nat, i ≤ 7 ∧ i ≤ n ∧ t = .int .i64 i ∧ BS w wr B i i (.slice oa n cap) (.slice (some ad) m c2) (.slice none 0 0) (.slice none 0 0)) (fun t _ => (7 - RowKit.intOf t).toNat)
  case atStart => exact ⟨0, by omega, by omega, rfl, BS.start w B _ _ _ _ _⟩
  case round =>
    obtain ⟨i, hi7, hin, rfl, hbs⟩ := hrel
    have HS := hidIt hbs
    have c0 := hbs.c0
    clear hbs
    by_cases hlt : i < 7 ∧ i < n
    · obtain ⟨k1, k2⟩ := hlt
      have z1 : (i : Int) < 7 := by omega
      have z2 : (i : Int) < n := by omega
      obtain ⟨ob, oo, hoa, hob, hbc⟩ := HB.out i k2
      have HBc := hidIt hbc
      subst hoa
      clear hbc
      have hbi := (HS.out.bel.cell (p := ⟨ob, oo + i, none⟩) hob).trans HBc.out
      obtain ⟨hx, fx⟩ := HS.out.x i k1
      go_wp2_with fail
      have mixed := Tryd.mixedB
      go_big_region_o
      all_goals go_upto_region 7 with fail
      have HS2 := hidIt (HS.out.setX k1 1)
      obtain ⟨W2, hW2⟩ : ∃ W2 : World, W2 = (wr.drewN 1).setCell ⟨w.heap.size + 1, i, none⟩ (.bool (B i)) := ⟨_, rfl⟩
      rw [← hW2] at HS2
      have hE : wr.drew.setCell ⟨w.heap.size + 1, i, none⟩ (.bool (B i)) = W2 := by rw [hW2]; rfl
      first | rw [hE] | (have hE2 : (wr.setCell ⟨w.heap.size + 1, i, none⟩ (.bool (B i))).drew = W2 := by rw [hW2]; rfl
                         rw [hE2])
      clear hE hW2 hx fx hbi c0
      have c0 := HS2.out.c0
      have hbi := (HS2.out.bel.cell (p := ⟨ob, oo + i, none⟩) hob).trans HBc.out
      obtain ⟨hy, fy⟩ := HS2.out.y i k1
      go_big_region_o
      all_goals go_wp2
      all_goals exact ⟨⟨i + 1, by omega, by omega, by go_num, HS2.out.setY k1 1⟩, by simp [RowKit.intOf]; omega⟩
    · obtain ⟨i0, z, hi0, hz0, hz1, hz2, hz3⟩ := Tryd.infoInt
      have HI := hidIt (And.intro hi0 (And.intro hz0 (And.intro hz1 (And.intro hz2 hz3))))
      clear hi0 hz0 hz1 hz2 hz3
      have hx7 := HS.out.x7.1
      have fx7 := HS.out.x7.2
      have c1 := HS.out.c1
      have HNw : Hid (∀ (j : Nat) (u : Value), (xs.map (Value.int .i64))[j]? = some u → wr.drew.cell? (ad.add j) = some u) := by
        intro j u hu
        rw [List.getElem?_map] at hu
        obtain ⟨x, hx, rfl⟩ := Option.map_eq_some_iff.1 hu
        exact (HS.out.bel.cell (p := ad.add j) (HN.out j x hx).1).trans (HN.out j x hx).2
      have hcond : (decide ((i : Int) < 7) && decide ((i : Int) < n)) = false := by
        rw [Bool.and_eq_false_iff]; simp only [decide_eq_false_iff_not]; omega
      by_cases q7 : i < 7
      · have z1 : (i : Int) < 7 := by omega
        have z2 : ¬ (i : Int) < n := by omega
        go_wp2_with fail
        go_region_law (refine step_append_row rfl (.tmp 46) (.tmp 48) 23 rfl (w.heap.size + 3) 3 i0 z 1 8 Tryd.underlying23 HI.out.1 HI.out.2.1 HI.out.2.2.1 HI.out.2.2.2.1 HI.out.2.2.2.2 (by decide) (.slice none 0 0) 0 [] (by simp [Act.eval]) (World.ownsRow_nil _ _ _ _) ad m c2 (xs.map (Value.int .i64)) (by simp [Act.eval]) HLn.out HNw.out H1c.out (by unfold maxLen; omega) (by omega) (by simpa using HS.out.sz) ?_; intro v' w' hown' hgrow; obtain ⟨⟨sa, sn, sc⟩, hsv⟩ := row_form hown'; simp only at hsv; subst hsv; have HK := hidIt (HS.out.keep (((Below.refl (w.heap.size + 3) wr).drew).grown hgrow (by simpa using HS.out.sz) (fun k hk => by cases hk))); have hc' := HK.out.x7.1; have hf' := HK.out.x7.2)
        all_goals
          have HX3 := hidIt (HK.out.setX7 (.slice sa sn sc))
          have HO3 := hidIt (ownsRow_setCell_below hown' (a := ⟨w.heap.size + 1, 7, none⟩) (show w.heap.size + 1 < _ by omega) (.slice sa sn sc))
          clear hown' hgrow hc' hf' HK
          obtain ⟨W3, hW3⟩ : ∃ W3 : World, W3 = w'.setCell ⟨w.heap.size + 1, 7, none⟩ (.slice sa sn sc) := ⟨_, rfl⟩
          rw [← hW3] at HX3 HO3 ⊢
          clear hW3
          have d1 := HX3.out.c1
          have hy7 := HX3.out.y7.1
          have fy7 := HX3.out.y7.2
          have HNw3 : Hid (∀ (j : Nat) (u : Value), (xs.map (Value.int .i64))[j]? = some u → W3.drew.cell? (ad.add j) = some u) := by
            intro j u hu
            rw [List.getElem?_map] at hu
            obtain ⟨x, hx, rfl⟩ := Option.map_eq_some_iff.1 hu
            exact (HX3.out.bel.cell (p := ad.add j) (HN.out j x hx).1).trans (HN.out j x hx).2
          go_wp2_with fail
          go_region_law (refine step_append_row rfl (.tmp 56) (.tmp 58) 23 rfl (w.heap.size + 3) 3 i0 z 1 8 Tryd.underlying23 HI.out.1 HI.out.2.1 HI.out.2.2.1 HI.out.2.2.2.1 HI.out.2.2.2.2 (by decide) (.slice none 0 0) 0 [] (by simp [Act.eval]) (World.ownsRow_nil _ _ _ _) ad m c2 (xs.map (Value.int .i64)) (by simp [Act.eval]) HLn.out HNw3.out H1c.out (by unfold maxLen; omega) (by omega) (by simpa using HX3.out.sz) ?_; intro v2 w2 hown2 hgrow2; obtain ⟨⟨ta, tn, tc⟩, hsv⟩ := row_form hown2; simp only at hsv; subst hsv; have HK2 := hidIt (HX3.out.keep (((Below.refl (w.heap.size + 3) W3).drew).grown hgrow2 (by simpa using HX3.out.sz) (fun k hk => by cases hk))); have hc2' := HK2.out.y7.1; have hf2' := HK2.out.y7.2)
          all_goals
            have HY4 := hidIt (HK2.out.setY7 (.slice ta tn tc))
            have HO4 := hidIt (ownsRow_setCell_below hown2 (a := ⟨w.heap.size + 2, 7, none⟩) (show w.heap.size + 2 < _ by omega) (.slice ta tn tc))
            have HO5 := hidIt (ownsRow_setCell_below (HO3.out.drew.kept hgrow2 (Classical.em ((Value.slice sa sn sc).ownBlock = none))) (a := ⟨w.heap.size + 2, 7, none⟩) (show w.heap.size + 2 < _ by omega) (.slice ta tn tc))
            clear hown2 hgrow2 hc2' hf2' HK2
            go_wp2
            go_ret2
            exact ⟨_, _, rfl, HY4.out.calX HOff.out (by omega) HM.out (by simpa using HO5.out) hxs, HY4.out.calY HOff.out (by omega) HM.out (by simpa using HO4.out) hxs, HY4.out.bel⟩
      · have z1 : ¬ (i : Int) < 7 := by omega
        go_wp2_with fail
        go_region_law (refine step_append_row rfl (.tmp 46) (.tmp 48) 23 rfl (w.heap.size + 3) 3 i0 z 1 8 Tryd.underlying23 HI.out.1 HI.out.2.1 HI.out.2.2.1 HI.out.2.2.2.1 HI.out.2.2.2.2 (by decide) (.slice none 0 0) 0 [] (by simp [Act.eval]) (World.ownsRow_nil _ _ _ _) ad m c2 (xs.map (Value.int .i64)) (by simp [Act.eval]) HLn.out HNw.out H1c.out (by unfold maxLen; omega) (by omega) (by simpa using HS.out.sz) ?_; intro v' w' hown' hgrow; obtain ⟨⟨sa, sn, sc⟩, hsv⟩ := row_form hown'; simp only at hsv; subst hsv; have HK := hidIt (HS.out.keep (((Below.refl (w.heap.size + 3) wr).drew).grown hgrow (by simpa using HS.out.sz) (fun k hk => by cases hk))); have hc' := HK.out.x7.1; have hf' := HK.out.x7.2)
        all_goals
          have HX3 := hidIt (HK.out.setX7 (.slice sa sn sc))
          have HO3 := hidIt (ownsRow_setCell_below hown' (a := ⟨w.heap.size + 1, 7, none⟩) (show w.heap.size + 1 < _ by omega) (.slice sa sn sc))
          clear hown' hgrow hc' hf' HK
          obtain ⟨W3, hW3⟩ : ∃ W3 : World, W3 = w'.setCell ⟨w.heap.size + 1, 7, none⟩ (.slice sa sn sc) := ⟨_, rfl⟩
          rw [← hW3] at HX3 HO3 ⊢
          clear hW3
          have d1 := HX3.out.c1
          have hy7 := HX3.out.y7.1
          have fy7 := HX3.out.y7.2
          have HNw3 : Hid (∀ (j : Nat) (u : Value), (xs.map (Value.int .i64))[j]? = some u → W3.drew.cell? (ad.add j) = some u) := by
            intro j u hu
            rw [List.getElem?_map] at hu
            obtain ⟨x, hx, rfl⟩ := Option.map_eq_some_iff.1 hu
            exact (HX3.out.bel.cell (p := ad.add j) (HN.out j x hx).1).trans (HN.out j x hx).2
          go_wp2_with fail
          go_region_law (refine step_append_row rfl (.tmp 56) (.tmp 58) 23 rfl (w.heap.size + 3) 3 i0 z 1 8 Tryd.underlying23 HI.out.1 HI.out.2.1 HI.out.2.2.1 HI.out.2.2.2.1 HI.out.2.2.2.2 (by decide) (.slice none 0 0) 0 [] (by simp [Act.eval]) (World.ownsRow_nil _ _ _ _) ad m c2 (xs.map (Value.int .i64)) (by simp [Act.eval]) HLn.out HNw3.out H1c.out (by unfold maxLen; omega) (by omega) (by simpa using HX3.out.sz) ?_; intro v2 w2 hown2 hgrow2; obtain ⟨⟨ta, tn, tc⟩, hsv⟩ := row_form hown2; simp only at hsv; subst hsv; have HK2 := hidIt (HX3.out.keep (((Below.refl (w.heap.size + 3) W3).drew).grown hgrow2 (by simpa using HX3.out.sz) (fun k hk => by cases hk))); have hc2' := HK2.out.y7.1; have hf2' := HK2.out.y7.2)
          all_goals
            have HY4 := hidIt (HK2.out.setY7 (.slice ta tn tc))
            have HO4 := hidIt (ownsRow_setCell_below hown2 (a := ⟨w.heap.size + 2, 7, none⟩) (show w.heap.size + 2 < _ by omega) (.slice ta tn tc))
            have HO5 := hidIt (ownsRow_setCell_below (HO3.out.drew.kept hgrow2 (Classical.em ((Value.slice sa sn sc).ownBlock = none))) (a := ⟨w.heap.size + 2, 7, none⟩) (show w.heap.size + 2 < _ by omega) (.slice ta tn tc))
            clear hown2 hgrow2 hc2' hf2' HK2
            go_wp2
            go_ret2
            exact ⟨_, _, rfl, HY4.out.calX HOff.out (by omega) HM.out (by simpa using HO5.out) hxs, HY4.out.calY HOff.out (by omega) HM.out (by simpa using HO4.out) hxs, HY4.out.bel⟩
end Go.Proofs.YtlebpojohaplnaaDoor
