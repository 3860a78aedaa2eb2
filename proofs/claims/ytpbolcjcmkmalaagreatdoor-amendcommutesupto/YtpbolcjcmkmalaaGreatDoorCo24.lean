/-
  Package tree: shape$2 (a node gets lines of its own), thatFit.
-/
import Derived.Test.YtpbolcjcmkmalaaGreatDoorCo23
import Derived.Deep.AppendSrc
import Derived.Test.YtpbolcjcmkmalaaGreatDoorCo21
namespace Go.Proofs.YtpbolcjcmkmalaaGreatDoor
open Go.RowKit Go.Extern.Stop Go.Stop Go.Extern

/-- One cell of a node is written behind new blocks. -/
structure Wr1 (w w' : World) (b o : Nat) (u : Value) : Prop where
  mid : ∃ w1, Below w.heap.size w w1 ∧ w'.heap = (w1.setCell ⟨b, o, none⟩ u).heap ∧ w'.os = w1.os ∧ w'.tape = w1.tape ∧ w'.output = w1.output
theorem Wr1.of {w w1 : World} (hb : Below w.heap.size w w1) (b o : Nat) (u : Value) (n : Nat) : Wr1 w ((w1.setCell ⟨b, o, none⟩ u).drewN n) b o u := ⟨w1, hb, rfl, rfl, rfl, rfl⟩
set_option maxHeartbeats 2000000 in
theorem own_a {w : World} {b o : Nat} {v : Nat → Value} (hn : NodeAt w b o v) {la : Option Addr} {lc : Nat} {ls : List ByteArray} (h2 : v 2 = .slice la ls.length lc) (hl : ls.length ≤ 1000000) (hr : ∀ i s, ls[i]? = some s → ∃ b o, la = some ⟨b, o, none⟩ ∧ w.cell? ⟨b, o + i, none⟩ = some (.string s)) (ha : la = none → ls = [] ∧ lc = 0) :
    Calls Tryz.prog 63 #[.pointer (some ⟨b, o, none⟩)] w fun e w' => e = .returned (.tuple #[]) ∧ ∃ w1 u, Below w.heap.size w w1 ∧ w1.ownsRow w.heap.size 9 1 u ls.length (ls.map Value.string) ∧ w' = w1.setCell ⟨b, o + 2, none⟩ u := by
  have c2 := hn.cell (c := 2) (by omega)
  rw [h2] at c2
  have HC := hidLL (cloneS_any la lc ls w (by omega) hr ha)
  have HN := hidLL hn
  clear hr ha hn h2
  generalize hnn : ls.length = n at *
  go_enter Tryz.func63, Tryz.ntmps63
  go_wp2_with fail
  refine HC.out.mono ?_
  rintro e w1 ⟨⟨u, rfl, hu⟩, hb⟩
  obtain ⟨ua, uc, rfl⟩ := row_any hu
  have d2 := (hb.cell (p := ⟨b, o + 2, none⟩) (cell_lt c2)).trans c2
  have df : w1.frozen? ⟨b, o + 2, none⟩ = false := by
    rw [World.frozen?_of_block (a := ⟨b, o + 2, none⟩) (hb.block b HN.out.lt)]
    exact HN.out.frozen _
  have HB := hidLL (And.intro hb hu)
  clear hb hu
  go_wp2
  refine bodyPost_end (results_none rfl _ _ _) rfl ⟨rfl, w1, _, HB.out.1, HB.out.2, rfl⟩
/-- What the first nodes of a list weigh by themselves. -/
def ownW : List It → Nat
  | [] => 0
  | t :: r => 1 + t.lines.length + ownW r
theorem ownW_snoc : ∀ (l : List It) (k : It), ownW (l ++ [k]) = ownW l + (1 + k.lines.length)
  | [], k => by rw [List.nil_append, ownW, ownW, ownW]; omega
  | a :: r, k => by rw [List.cons_append, ownW, ownW, ownW_snoc r k]; omega
theorem ownW_take {l : List It} {i : Nat} {k : It} (h : l[i]? = some k) : ownW (l.take (i + 1)) = ownW (l.take i) + (1 + k.lines.length) := by
  obtain ⟨hi, e⟩ := List.getElem?_eq_some_iff.1 h
  rw [List.take_succ_eq_append_getElem hi, e, ownW_snoc]
theorem ownW_le : ∀ (l : List It) (i : Nat), ownW (l.take i) ≤ ownW l
  | [], i => by simp
  | a :: r, 0 => by rw [List.take_zero, ownW]; omega
  | a :: r, i + 1 => by rw [List.take_succ_cons, ownW, ownW]; have := ownW_le r i; omega
set_option maxHeartbeats 4000000 in
set_option maxRecDepth 20000 in
theorem fit_a {w : World} {ka : Option Addr} {kc : Nat} {ks : List It} {most : Nat} (hk : ∀ i k, ks[i]? = some k → ∃ b o la lc, ka = some ⟨b, o, none⟩ ∧ w.cell? ⟨b, o + i * 4 + 2, none⟩ = some (.slice la k.lines.length lc) ∧ k.lines.length ≤ 1000000) (hn : ks.length ≤ 100000) (hm : ownW ks ≤ most) (hm2 : most ≤ 100000000) :
    Calls Tryz.prog 106 #[.agg shpV, .slice ka ks.length kc, .int .i64 most] w fun e w' => e = .returned (.tuple #[.slice ka ks.length kc, .int .i64 ((most - ownW ks : Nat) : Int)]) ∧ Below w.heap.size w w' := by
  obtain ⟨W, hW⟩ : ∃ W, W = w.alloc (.cells shpV 75) := ⟨_, rfl⟩
  have hb0 : Below w.heap.size w W := by rw [hW]; exact (Below.refl _ _).alloc (Nat.le_refl _) _
  have hbx : W.heap[w.heap.size]? = some (.cells shpV 75 (0, 0)) := by rw [hW]; exact heap_alloc_new _ _
  obtain ⟨x0, x1, x2, x3, x4⟩ := five hbx
  have HX := hidLL hW
  have HB := hidLL hb0
  have HK := hidLL hk
  have HM := hidLL (And.intro hm (ownW_le ks))
  obtain ⟨n, hnn⟩ : ∃ n, n = ks.length := ⟨_, rfl⟩
  have HN := hidLL hnn
  rw [← hnn] at hn ⊢
  clear hW hb0 hbx hk hnn hm
  go_enter Tryz.func106, Tryz.ntmps106
  go_upto_region 1 with fail
  rw [← HX.out]
  go_wp2_with fail
  go_loopw [2, 12] (fun mo i wr => ∃ j : Nat, j ≤ n ∧ i = .int .i64 j ∧ mo = .int .i64 ((most - ownW (ks.take j) : Nat) : Int) ∧ ∃ k, wr = W.drewN k) (fun _ i _ => n - (RowKit.intOf i).toNat)
  case atStart => exact ⟨0, by omega, rfl, by rw [List.take_zero, ownW, Nat.sub_zero], 0, rfl⟩
  case round =>
    obtain ⟨j, hj, rfl, rfl, k0, hwr⟩ := hrel
    have y2 : wr.cell? ⟨w.heap.size, 2, none⟩ = some (.func (.func 65) #[] #[]) := by rw [hwr]; exact x2
    have HWr := hidLL hwr
    clear hwr x0 x1 x2 x3 x4
    by_cases hjn : j < n
    · obtain ⟨k, hk⟩ : ∃ k, ks[j]? = some k := ⟨_, List.getElem?_eq_getElem (by have := HN.out; omega)⟩
      obtain ⟨b, o, la, lc, rfl, hc, hl⟩ := HK.out j k hk
      have hjz : (j : Int) < n := by omega
      have hc' : wr.cell? ⟨b, o + j * 4 + 2, none⟩ = some (.slice la k.lines.length lc) := by rw [HWr.out]; exact (HB.out.cell (p := ⟨b, o + j * 4 + 2, none⟩) (cell_lt hc)).trans hc
      have HWt := hidLL (And.intro hc' hl)
      have ht := ownW_take hk
      have hle := HM.out.2 (j + 1)
      have hmm := HM.out.1
      have HT := hidLL ht
      rw [ht] at hle
      obtain ⟨a, haa⟩ : ∃ a, a = most - ownW (ks.take j) := ⟨_, rfl⟩
      have hA : 1 + k.lines.length ≤ a := by omega
      have hA2 : a ≤ 100000000 := by omega
      have hNx : Hid (most - ownW (ks.take (j + 1)) = a - (1 + k.lines.length)) := by show _ = _; rw [ht, haa]; omega
      rw [← haa]
      clear ht hle hmm haa hc hc' hk
      generalize k.lines.length = ln at *
      have hgt : ¬ (a : Int) < 1 + (ln : Int) := by omega
      have hwr : IntKind.i64.wrap ((a : Int) - (1 + (ln : Int))) = (a : Int) - (1 + (ln : Int)) := by rw [IntKind.wrap_i64]; omega
      go_wp2_with fail
      go_region_held3 (fun V => V.cell? ⟨w.heap.size, 2, none⟩ = some (.func (.func 65) #[] #[])) (first | exact y2 | go_keep) ((go_simp; go_at_call 65; refine (weight_a (w := wr.drew) HWt.out.1 HWt.out.2).mono ?_; rintro e w1 ⟨rfl, ew⟩; subst w1))
      all_goals go_wp2_with fail
      all_goals go_roundw
      case rel => exact ⟨j + 1, by omega, by go_num, by rw [hNx.out]; congr 1; omega, k0 + 1, by rw [HWr.out]; rfl⟩
      case measure => simp [RowKit.intOf]; omega
    · obtain rfl : j = n := by omega
      go_wp2
      go_ret2
      refine ⟨?_, ?_⟩
      · rw [HN.out, List.take_length]; rfl
      · rw [HWr.out]; exact bdrewN HB.out _
end Go.Proofs.YtpbolcjcmkmalaaGreatDoor
namespace Go.Proofs.YtpbolcjcmkmalaaGreatDoor
open Go.RowKit Go.Extern.Stop Go.Stop Go.Extern

abbrev ptT : Nat := 51
def ptV (p : Nat × Nat) : Value := .pointer (some ⟨p.1, p.2, none⟩)
structure QRow (w : World) (B : Nat) (v : Value) (ps : List (Nat × Nat)) : Prop where
  is : ∃ a cap, v = .slice a ps.length cap ∧ ps.length ≤ cap ∧ (cap = 0 ∨ ∃ g off cur, a = some ⟨g, off, none⟩ ∧ B ≤ g ∧ w.heap[g]? = some (.cells cur ptT (0, 0)) ∧ off + cap ≤ cur.size ∧ ∀ i p, ps[i]? = some p → cur[off + i]? = some (ptV p))
/-- All stays but rows of places; new blocks. -/
structure QFr (B : Nat) (w w' : World) : Prop where
  os : w'.os = w.os
  tape : w'.tape = w.tape
  output : w'.output = w.output
  size : w.heap.size ≤ w'.heap.size
  block : ∀ k, k < w.heap.size → (B ≤ k → ∀ cur, w.heap[k]? ≠ some (Obj.cells cur ptT (0, 0))) → w'.heap[k]? = w.heap[k]?
theorem QRow.on {w w' : World} {B : Nat} {v : Value} {ps : List (Nat × Nat)} (h : QRow w B v ps) (hk : ∀ (k : Nat) (cur : Array Value), w.heap[k]? = some (Obj.cells cur ptT (0, 0)) → w'.heap[k]? = w.heap[k]?) : QRow w' B v ps := by
  obtain ⟨a, cap, e, hc, h⟩ := h.is
  refine ⟨a, cap, e, hc, h.imp (fun h => h) fun ⟨g, off, cur, e1, hB, hg, h1, h2⟩ => ⟨g, off, cur, e1, hB, (hk g cur hg).trans hg, h1, h2⟩⟩
theorem QRow.new (w : World) (p : Nat × Nat) (B : Nat) (hB : B ≤ w.heap.size) : QRow (w.alloc (.cells #[ptV p] ptT)) B (.slice (some ⟨w.heap.size, 0, none⟩) 1 1) [p] :=
  ⟨_, 1, rfl, Nat.le_refl _, .inr ⟨w.heap.size, 0, #[ptV p], rfl, hB, heap_alloc_new _ _, Nat.le_refl _, fun i q hi => by
    match i, hi with
    | 0, hi => injection hi with hi; subst hi; rfl
    | i + 1, hi => cases hi⟩⟩
/-- The first one. -/
theorem QRow.head {w : World} {B : Nat} {v : Value} {p : Nat × Nat} {r : List (Nat × Nat)} (h : QRow w B v (p :: r)) : ∃ g off cap, v = .slice (some ⟨g, off, none⟩) (r.length + 1) cap ∧ w.cell? ⟨g, off, none⟩ = some (ptV p) ∧ r.length + 1 ≤ cap ∧ QRow w B (.slice (if cap = 1 then some ⟨g, off, none⟩ else some ⟨g, off + 1, none⟩) r.length (cap - 1)) r := by
  obtain ⟨a, cap, e, hc, h⟩ := h.is
  rw [List.length_cons] at hc e
  rcases h with h | ⟨g, off, cur, e1, hB, hg, h1, h2⟩
  · omega
  · subst e1
    refine ⟨g, off, cap, e, ?_, hc, ⟨_, cap - 1, rfl, by omega, ?_⟩⟩
    · unfold World.cell?
      rw [hg]
      exact h2 0 p rfl
    · by_cases hc1 : cap = 1
      · exact .inl (by omega)
      · rw [if_neg hc1]
        refine .inr ⟨g, off + 1, cur, rfl, hB, hg, by omega, fun i q hi => ?_⟩
        have := h2 (i + 1) q (by simpa using hi)
        rwa [show off + 1 + i = off + (i + 1) by omega]
theorem infoPt : ∃ i z, Tryz.prog.info? ptT = some i ∧ i.zero = some z ∧ i.size = 1 ∧ i.bytes = 8 ∧ z.cells.size = 1 := by
  have h : (Tryz.prog.info? ptT).map (fun i => (i.zero.map (fun z => z.cells.size), i.size, i.bytes)) = some (some 1, 1, 8) := by kernel_rfl
  cases hi : Tryz.prog.info? ptT with
  | none => rw [hi] at h; cases h
  | some i =>
    rw [hi] at h
    simp only [Option.map_some, Option.some.injEq, Prod.mk.injEq] at h
    cases hz : i.zero with
    | none => rw [hz] at h; simp at h
    | some z =>
      rw [hz] at h
      simp only [Option.map_some, Option.some.injEq] at h
      exact ⟨i, z, rfl, hz, h.2.1, h.2.2, h.1⟩
/-- One more at the end. -/
theorem QRow.push {W : World} {B : Nat} {v : Value} {ps : List (Nat × Nat)} {p : Nat × Nat} (h : QRow W B v ps) (hB : B ≤ W.heap.size) (hl : ps.length + 1 ≤ 1000000) (ty : TypeId) :
    ∃ v' w', (Builtin.append_ #[166, 166] ty #[v, .slice (some ⟨W.heap.size, 0, none⟩) 1 1]).run Tryz.prog (W.alloc (.cells #[ptV p] ptT)) = .ok v' w' ∧ QRow w' B v' (ps ++ [p]) ∧ QFr B W w' := by
  obtain ⟨a, cap, rfl, hc, hq⟩ := h.is
  obtain ⟨i, z, hi, hz, h1, h8, hzs⟩ := infoPt
  have hu : Tryz.prog.underlying 166 = some (.slice ptT) := Tryz.underlying166
  obtain ⟨W1, hW1⟩ : ∃ W1, W1 = W.alloc (.cells #[ptV p] ptT) := ⟨_, rfl⟩
  have hb1 : ∀ k, k < W.heap.size → W1.heap[k]? = W.heap[k]? := fun k hk => by rw [hW1]; exact Below.heap_alloc _ _ _ hk
  have hs1 : W1.heap.size = W.heap.size + 1 := by rw [hW1]; simp
  have hsrc : Src Tryz.prog i.size 166 (.slice (some ⟨W.heap.size, 0, none⟩) 1 1) 1 [ptV p] W1 := Src.ofSlice W1 hu _ 1 1 _ (by rw [h1]; rfl) (fun j u hj => by
    match j, hj with
    | 0, hj =>
      obtain rfl : ptV p = u := Option.some.inj hj
      rw [hW1]
      show (W.alloc _).cell? ⟨W.heap.size, 0, none⟩ = _
      rw [World.cell?_alloc_at _ _ _ _ rfl]
      rfl
    | j + 1, hj => cases hj) (fun u hu => by obtain rfl : u = ptV p := (by simpa using hu); rfl)
  rw [← hW1]
  by_cases hroom : ps.length + 1 ≤ cap
  · rcases hq with hq | ⟨g, off, cur, rfl, hBg, hg, h2, h3⟩
    · omega
    · have hgl := (Array.getElem?_eq_some_iff.1 hg).1
      have hg1 := (hb1 g hgl).trans hg
      have hrun := run_append_room_src (P := Tryz.prog) W1 166 166 ty ptT i hu hi g off ps.length cap _ 1 _ hsrc hroom (fun j hj => by
        have hj : j = 0 := by simpa using hj
        subst hj
        unfold World.cell?
        rw [hg1, h1]
        show (cur[off + ps.length * 1 + 0]?).isSome = true
        rw [Array.getElem?_eq_getElem (by omega)]
        rfl) (fun j hj => by unfold World.frozen?; rw [hg1]; simp)
      refine ⟨_, _, hrun, ?_, ?_⟩
      · have hnew : (W1.setCells g (off + ps.length * i.size) [ptV p]).heap[g]? = some (.cells (cur.setIfInBounds (off + ps.length) (ptV p)) ptT (0, 0)) := by
          rw [h1, Nat.mul_one]
          exact setCell_row (ptV p) hg1
        refine ⟨_, cap, by rw [List.length_append]; rfl, by rw [List.length_append]; exact hroom, .inr ⟨g, off, _, rfl, hBg, hnew, by simpa using h2, fun j q hj => ?_⟩⟩
        rw [Array.getElem?_setIfInBounds]
        by_cases hjn : j < ps.length
        · rw [if_neg (by omega)]
          rw [List.getElem?_append_left hjn] at hj
          exact h3 j q hj
        · rw [List.getElem?_append_right (by omega)] at hj
          have hj0 : j - ps.length = 0 := by
            rcases Nat.eq_zero_or_pos (j - ps.length) with h | h
            · exact h
            · rw [List.getElem?_eq_none (by simp only [List.length_singleton]; omega)] at hj; cases hj
          rw [hj0] at hj
          have hj : p = q := Option.some.inj hj
          rw [if_pos (by omega), if_pos (by omega), hj]
      · refine ⟨by rw [h1, Nat.mul_one, hW1]; rfl, by rw [h1, Nat.mul_one, hW1]; rfl, by rw [h1, Nat.mul_one, hW1]; rfl, by rw [h1, Nat.mul_one]; show W.heap.size ≤ (W1.setCell ⟨g, off + ps.length, none⟩ (ptV p)).heap.size; simp; omega, fun k hk hne => ?_⟩
        have hkg : k ≠ g := fun e => hne (e ▸ hBg) cur (e ▸ hg)
        rw [h1, Nat.mul_one]
        show (W1.setCell ⟨g, off + ps.length, none⟩ (ptV p)).heap[k]? = _
        rw [Below.heap_setCell _ _ _ _ hkg, hb1 k hk]
  · have hcap : cap = ps.length := by omega
    have hold : (Builtin.firstCells i.size ps.length (.slice a ps.length cap)).run Tryz.prog W1.drew = .ok (ps.map ptV).toArray W1.drew := by
      rcases hq with hq | ⟨g, off, cur, rfl, hBg, hg, h2, h3⟩
      · have hp0 : ps = [] := List.eq_nil_of_length_eq_zero (by omega)
        subst hp0
        cases a with
        | none => exact run_firstCells_none _ _ _ _ _
        | some ad => exact run_firstCells_some _ i.size 0 ad 0 cap [] (by simp) (fun j u hj => by cases hj)
      · have hgl := (Array.getElem?_eq_some_iff.1 hg).1
        refine run_firstCells_some _ i.size ps.length _ ps.length cap (ps.map ptV) (by rw [List.length_map, h1, Nat.mul_one]) (fun j u hj => ?_)
        rw [List.getElem?_map] at hj
        obtain ⟨q, hq, rfl⟩ := Option.map_eq_some_iff.1 hj
        rw [addr_plus]
        show W1.cell? ⟨g, off + j, none⟩ = _
        unfold World.cell?
        rw [hb1 g hgl, hg]
        exact h3 j q hq
    have hrun := run_append_grow_src (P := Tryz.prog) W1 166 166 ty ptT i z hu hi hz a ps.length cap (ps.map ptV) hold _ 1 _ hsrc (by omega) (by omega) (growslice_fits (by omega) (by rw [h8]; omega))
    have hge := grownCap_ge W1 (ps.length + 1) cap ptT
    refine ⟨_, _, hrun, ?_, ?_⟩
    · refine ⟨_, _, by rw [List.length_append]; rfl, by rw [List.length_append]; exact hge, .inr ⟨W1.heap.size, 0, _, rfl, by omega, heap_alloc_new W1.drew _, ?_, fun j q hj => ?_⟩⟩
      · rw [Nat.zero_add, Array.size_append, List.size_toArray, size_zeroCells, hzs, List.length_append, List.length_map]
        show _ ≤ ps.length + 1 + _
        omega
      · have hjl := (List.getElem?_eq_some_iff.1 hj).1
        rw [List.length_append] at hjl
        rw [Nat.zero_add, Array.getElem?_append_left (by rw [List.size_toArray, List.length_append, List.length_map]; exact hjl), List.getElem?_toArray]
        rw [show [ptV p] = [p].map ptV from rfl, ← List.map_append, List.getElem?_map, hj]
        rfl
    · refine ⟨by rw [hW1]; rfl, by rw [hW1]; rfl, by rw [hW1]; rfl, by simp; omega, fun k hk _ => ?_⟩
      rw [Below.heap_alloc _ _ _ (by show k < W1.heap.size; omega)]
      exact hb1 k hk
theorem wpList_push_q {W : World} {ops : Array Oper} {rest : List Oper} {o : Oper} {a : Act} {Q : Exit → Act → World → Prop} (hgd : o.guard = none) (s x : Operand) (ho : o.op = .call { callee := .builtin .append, args := #[s, x], argTypes := #[166, 166] })
    (B : Nat) (v : Value) (ps : List (Nat × Nat)) (p : Nat × Nat) (hs : a.eval s = v) (hq : QRow W B v ps) (hx : a.eval x = .slice (some ⟨W.heap.size, 0, none⟩) 1 1) (hB : B ≤ W.heap.size) (hl : ps.length + 1 ≤ 1000000)
    (h : ∀ v' w', QRow w' B v' (ps ++ [p]) → QFr B W w' → wpList Tryz.prog ops Q rest (a.put o.dst v') w') : wpList Tryz.prog ops Q (o :: rest) a (W.alloc (.cells #[.pointer (some ⟨p.1, p.2, none⟩)] ptT)) := by
  refine wpList_plain hgd fun K hK => ?_
  obtain ⟨v', w', hr, h2, h3⟩ := hq.push (p := p) hB hl o.type
  have hr : (Builtin.append_ #[166, 166] o.type #[v, .slice (some ⟨W.heap.size, 0, none⟩) 1 1]).run Tryz.prog (W.alloc (.cells #[.pointer (some ⟨p.1, p.2, none⟩)] ptT)) = .ok v' w' := hr
  unfold Oper.wp execOp
  simp only [ho, resolve, invoke, builtin, Sem.run_bind, Sem.run_pure, Result.andThen_ok, List.map_toArray, List.map_cons, List.map_nil, hs, hx, hr]
  exact hK _ _ (h v' w' h2 h3)
end Go.Proofs.YtpbolcjcmkmalaaGreatDoor
namespace Go.Proofs.YtpbolcjcmkmalaaGreatDoor
open Go.RowKit Go.Extern.Stop Go.Stop Go.Extern

abbrev itT : Nat := 25
abbrev stT : Nat := 9
theorem row_base {w : World} {B B' e s : Nat} {v : Value} {n : Nat} {xs : List Value} (h : w.ownsRow B e s v n xs) (hB : B' ≤ B) : w.ownsRow B' e s v n xs := by
  refine ⟨h.1, ?_⟩
  rcases h.2 with h | ⟨g, cap, cur, e1, hb, r⟩
  · exact .inl h
  · exact .inr ⟨g, cap, cur, e1, by omega, r⟩
/-- The places of those kids, up to one, that have kids. -/
noncomputable def opens (g : Nat) (ks : List It) : Nat → List (Nat × Nat × It)
  | 0 => []
  | i + 1 => opens g ks i ++ (match ks[i]? with | none => [] | some k => if k.kids.isEmpty then [] else [(g, i * 4, k)])
theorem opens_some {g : Nat} {ks : List It} {i : Nat} {k : It} (h : ks[i]? = some k) (hk : k.kids ≠ []) : opens g ks (i + 1) = opens g ks i ++ [(g, i * 4, k)] := by
  rw [opens, h]
  show _ ++ (if k.kids.isEmpty then [] else [(g, i * 4, k)]) = _
  rw [if_neg (by rw [List.isEmpty_iff]; exact hk)]
theorem opens_none {g : Nat} {ks : List It} {i : Nat} {k : It} (h : ks[i]? = some k) (hk : k.kids = []) : opens g ks (i + 1) = opens g ks i := by
  rw [opens, h]
  show _ ++ (if k.kids.isEmpty then [] else [(g, i * 4, k)]) = _
  rw [if_pos (by rw [List.isEmpty_iff]; exact hk), List.append_nil]
theorem opens_mem {g : Nat} {ks : List It} : ∀ (i : Nat) (p : Nat × Nat × It), p ∈ opens g ks i ↔ ∃ j, j < i ∧ ks[j]? = some p.2.2 ∧ p.2.2.kids ≠ [] ∧ p.1 = g ∧ p.2.1 = j * 4
  | 0, p => by rw [opens]; exact ⟨(fun h => by cases h), (fun ⟨j, h, _⟩ => by omega)⟩
  | i + 1, p => by
    rw [opens, List.mem_append, opens_mem i p]
    constructor
    · rintro (⟨j, h1, h2⟩ | h)
      · exact ⟨j, by omega, h2⟩
      · cases hk : ks[i]? with
        | none => rw [hk] at h; cases h
        | some k =>
          rw [hk] at h
          have h : p ∈ (if k.kids.isEmpty then [] else [(g, i * 4, k)]) := h
          split at h
          · cases h
          · rename_i h3
            obtain rfl : p = (g, i * 4, k) := by simpa using h
            exact ⟨i, by omega, hk, fun e => h3 (by rw [List.isEmpty_iff]; exact e), rfl, rfl⟩
    · rintro ⟨j, h1, h2, h3, h4, h5⟩
      by_cases hj : j < i
      · exact .inl ⟨j, hj, h2, h3, h4, h5⟩
      · obtain rfl : j = i := by omega
        refine .inr ?_
        rw [h2]
        show p ∈ (if p.2.2.kids.isEmpty then [] else [(g, j * 4, p.2.2)])
        rw [if_neg (by rw [List.isEmpty_iff]; exact h3)]
        obtain ⟨p1, p2, p3⟩ := p
        have h4 : p1 = g := h4
        have h5 : p2 = j * 4 := h5
        subst h4 h5
        simp
def pl (p : Nat × Nat × It) : Nat × Nat := (p.1, p.2.1)
/-- A new kid that has been seen to. -/
structure KidD (w : World) (n g j : Nat) (k : It) (u3 : Value) (T : Nat → Prop) (x : Nat → Value) : Prop where
  at' : NodeAt w g (j * 4) x
  h0 : x 0 = .string k.label
  h1 : x 1 = .string k.head
  ln : w.ownsRow n stT 1 (x 2) k.lines.length (k.lines.map Value.string)
  l2 : ∀ q, (x 2).ownBlock = some q → T q
  op : k.kids ≠ [] → x 3 = u3
  sh : k.kids = [] → RowI w n (x 3) 0 ∧ ∀ q, (x 3).ownBlock = some q → T q
structure KidI (w1 wr : World) (g cap : Nat) (K : Nat → Nat → Value) (ks : List It) (i : Nat) (Lr : List (Nat × Nat × It)) (v : Value) (B : Nat) (T : Nat → Nat → Prop) : Prop where
  os : wr.os = w1.os
  tape : wr.tape = w1.tape
  output : wr.output = w1.output
  size : w1.heap.size ≤ wr.heap.size
  gl : g < w1.heap.size
  old : ∀ k, k < w1.heap.size → k ≠ g → (B ≤ k → ∀ cur, w1.heap[k]? ≠ some (Obj.cells cur ptT (0, 0))) → wr.heap[k]? = w1.heap[k]?
  row : ∃ cur, wr.heap[g]? = some (Obj.cells cur itT (0, 0)) ∧ cur.size = cap * 4
  todo : ∀ j, i ≤ j → j < ks.length → NodeAt wr g (j * 4) (K j)
  done : ∀ j k, j < i → ks[j]? = some k → ∃ x, KidD wr w1.heap.size g j k (K j 3) (T j) x
  hT : ∀ j q, j < i → T j q → w1.heap.size ≤ q ∧ q < wr.heap.size
  hd : ∀ j j' q, j < i → j' < i → T j q → T j' q → j = j'
  queue : QRow wr B v ((Lr ++ opens g ks i).map pl)
/-- All is as it was but for the cells of one kid, new blocks and rows of places. -/
structure KidF (B : Nat) (w w' : World) (g i : Nat) : Prop where
  os : w'.os = w.os
  tape : w'.tape = w.tape
  output : w'.output = w.output
  size : w.heap.size ≤ w'.heap.size
  block : ∀ k, k < w.heap.size → k ≠ g → (B ≤ k → ∀ cur, w.heap[k]? ≠ some (Obj.cells cur ptT (0, 0))) → w'.heap[k]? = w.heap[k]?
  here : ∀ cur, w.heap[g]? = some (Obj.cells cur itT (0, 0)) → ∃ cur', w'.heap[g]? = some (Obj.cells cur' itT (0, 0)) ∧ cur'.size = cur.size ∧ ∀ q, (q < i * 4 ∨ i * 4 + 4 ≤ q) → cur'[q]? = cur[q]?
theorem KidF.node {Bq : Nat} {w w' : World} {g i j : Nat} (hf : KidF Bq w w' g i) {x : Nat → Value} (h : NodeAt w g (j * 4) x) (hj : j ≠ i) : NodeAt w' g (j * 4) x := by
  obtain ⟨cur, e, hc⟩ := h
  obtain ⟨cur', e1, _, e3⟩ := hf.here cur e
  exact ⟨cur', e1, fun c hc' => by rw [e3 _ (by omega)]; exact hc c hc'⟩
theorem KidF.rowS {Bq : Nat} {w w' : World} {g i B n : Nat} {v : Value} {xs : List Value} (hf : KidF Bq w w' g i) (hg : ∃ cur, w.heap[g]? = some (Obj.cells cur itT (0, 0))) (h : w.ownsRow B stT 1 v n xs) : w'.ownsRow B stT 1 v n xs := by
  refine row_step h fun q hq hl => ?_
  obtain ⟨cur, e⟩ := row_own_ty h hq
  obtain ⟨cur', e'⟩ := hg
  refine hf.block q hl (fun e2 => ?_) (fun _ c e2 => ?_)
  · subst e2
    rw [e] at e'
    injection e' with e'
    injection e' with _ e' _
    exact item_ne_str e'.symm
  · rw [e] at e2
    injection e2 with e2
    injection e2 with _ e2 _
    exact str_ne_ptr e2
theorem KidF.rowI {Bq : Nat} {w w' : World} {g i B n : Nat} {v : Value} (hf : KidF Bq w w' g i) (h : RowI w B v n) : RowI w' B v n := by
  rcases h with h | ⟨q, cap, cur, e, hb, hq, h1, h2, h3⟩
  · exact .inl h
  · by_cases hqg : q = g
    · subst hqg
      obtain ⟨cur', e1, e2, _⟩ := hf.here cur hq
      exact .inr ⟨q, cap, cur', e, hb, e1, h1, h2, by omega⟩
    · exact .inr ⟨q, cap, cur, e, hb, (hf.block q (Array.getElem?_eq_some_iff.1 hq).1 hqg (fun _ c e2 => by
        rw [hq] at e2
        injection e2 with e2
        injection e2 with _ e2 _
        exact item_ne_ptr e2)).trans hq, h1, h2, h3⟩
theorem KidI.step {w1 wr wb : World} {g cap : Nat} {K : Nat → Nat → Value} {ks : List It} {i : Nat} {Lr : List (Nat × Nat × It)} {v v' : Value} {B : Nat} {T : Nat → Nat → Prop} {k : It} {x : Nat → Value} (h : KidI w1 wr g cap K ks i Lr v B T) (hi : ks[i]? = some k) (hf : KidF B wr wb g i)
    (hD : KidD wb wr.heap.size g i k (K i 3) (fun q => wr.heap.size ≤ q ∧ q < wb.heap.size) x) (hq : QRow wb B v' ((Lr ++ opens g ks (i + 1)).map pl)) : KidI w1 wb g cap K ks (i + 1) Lr v' B (fun j => if j < i then T j else fun q => wr.heap.size ≤ q ∧ q < wb.heap.size) := by
  have hsz := h.size
  obtain ⟨cur, hr1, hr2⟩ := h.row
  obtain ⟨cur', hr3, hr4, _⟩ := hf.here cur hr1
  refine ⟨hf.os.trans h.os, hf.tape.trans h.tape, hf.output.trans h.output, Nat.le_trans h.size hf.size, h.gl, fun q hq1 hq2 hq3 => ?_, ⟨cur', hr3, by omega⟩, fun j hj1 hj2 => hf.node (h.todo j (by omega) hj2) (by omega), fun j k' hj hk' => ?_, fun j q hj hq => ?_, fun j j' q hj hj' hq hq' => ?_, hq⟩
  · have h1 := h.old q hq1 hq2 hq3
    rw [hf.block q (by omega) hq2 (fun hB c => by rw [h1]; exact hq3 hB c), h1]
  · by_cases hji : j < i
    · obtain ⟨y, hy⟩ := h.done j k' hji hk'
      simp only [hji, if_true]
      exact ⟨y, hf.node hy.at' (by omega), hy.h0, hy.h1, hf.rowS ⟨cur, hr1⟩ hy.ln, hy.l2, hy.op, fun e => ⟨hf.rowI (hy.sh e).1, (hy.sh e).2⟩⟩
    · obtain rfl : j = i := by omega
      rw [hi] at hk'
      injection hk' with hk'
      subst hk'
      simp only [Nat.lt_irrefl, if_false]
      exact ⟨x, hD.at', hD.h0, hD.h1, row_base hD.ln hsz, hD.l2, hD.op, fun e => ⟨(hD.sh e).1.mono hsz, (hD.sh e).2⟩⟩
  · by_cases hji : j < i
    · simp only [hji, if_true] at hq
      have := h.hT j q hji hq
      have := hf.size
      omega
    · simp only [hji, if_false] at hq
      omega
  · by_cases hji : j < i <;> by_cases hji' : j' < i <;> simp only [hji, hji', if_true, if_false] at hq hq'
    · exact h.hd j j' q hji hji' hq hq'
    · have := h.hT j q hji hq; omega
    · have := h.hT j' q hji' hq'; omega
    · omega
/-- All kids have been seen to: they are new kids. -/
theorem KidI.newK {w w1 wr : World} {g cap : Nat} {K : Nat → Nat → Value} {t : It} {Lr : List (Nat × Nat × It)} {v : Value} {B : Nat} {T : Nat → Nat → Prop} (h : KidI w1 wr g cap K t.kids t.kids.length Lr v B T) (hB : B ≤ w.heap.size) (hw : w.heap.size ≤ w1.heap.size) (hg : w.heap.size ≤ g) (hcap : t.kids.length ≤ cap) (hcm : cap ≤ maxLen) (hL : ∀ p, p ∈ Lr → p.1 < w.heap.size) :
    NewK w wr B (Lr ++ opens g t.kids t.kids.length) (.slice (some ⟨g, 0, none⟩) t.kids.length cap) t T := by
  obtain ⟨cur, hr1, hr2⟩ := h.row
  have hgl := h.gl
  refine ⟨.inr ⟨g, cap, cur, rfl, hg, hr1, hcap, hcm, hr2⟩, fun g' j k hg' hj => ?_, fun j q hj hq => ?_, h.hd⟩
  · obtain rfl : g = g' := Option.some.inj hg'
    have hjl := (List.getElem?_eq_some_iff.1 hj).1
    obtain ⟨x, hx⟩ := h.done j k hjl hj
    have hTb : ∀ q, T j q → B ≤ q ∧ q < wr.heap.size := fun q hq => by have := h.hT j q hjl hq; omega
    have hTg : ¬ T j g := fun e => by have := h.hT j g hjl e; omega
    by_cases hk : k.kids = []
    · obtain ⟨s1, s2⟩ := hx.sh hk
      refine .fin g (j * 4) k (T j) x hx.at' hx.h0 hx.h1 (row_base hx.ln (by omega)) hx.l2 hTb hTg (by omega) (fun t' ht' => ?_) (fun _ _ => False) (by rw [hk]; exact s1.mono (by omega)) s2 (fun g'' i k' _ hi => by rw [hk] at hi; cases hi) (fun i q hi _ => by rw [hk] at hi; cases hi) (fun i i' q hi _ _ _ => by rw [hk] at hi; cases hi)
      rcases List.mem_append.1 ht' with h1 | h1
      · have := hL _ h1
        have : g < w.heap.size := this
        omega
      · obtain ⟨j', h2, h3, h4, h5, h6⟩ := (opens_mem _ _).1 h1
        have h6 : j * 4 = j' * 4 := h6
        obtain rfl : j = j' := by omega
        rw [hj] at h3
        injection h3 with h3
        exact h4 (h3 ▸ hk)
    · exact .opn g (j * 4) k (T j) x hx.at' hx.h0 hx.h1 (row_base hx.ln (by omega)) hx.l2 hTb hTg (by omega) (List.mem_append.2 (.inr ((opens_mem _ _).2 ⟨j, hjl, hj, hk, rfl, rfl⟩)))
  · have := h.hT j q hj hq
    refine ⟨by omega, this.2, fun e => ?_⟩
    have e : g = q := Option.some.inj e
    omega
end Go.Proofs.YtpbolcjcmkmalaaGreatDoor
namespace Go.Proofs.YtpbolcjcmkmalaaGreatDoor
open Go.RowKit Go.Extern.Stop Go.Stop Go.Extern

/-- A tree that is to be copied, in blocks below N, the places of its kids not frozen. -/
inductive SrcT (w : World) (N : Nat) (ex : Prop) : (Nat → Value) → It → Prop
  | mk (v : Nat → Value) (t : It) (la ka : Option Addr) (lc kc : Nat) (V : Nat → Nat → Value)
    (h0 : v 0 = .string t.label) (h1 : v 1 = .string t.head) (h2 : v 2 = .slice la t.lines.length lc) (h3 : v 3 = .slice ka t.kids.length kc)
    (hl : ∀ i s, t.lines[i]? = some s → ∃ b o, la = some ⟨b, o, none⟩ ∧ b < N ∧ w.cell? ⟨b, o + i, none⟩ = some (.string s))
    (hk : ∀ i, i < t.kids.length → ∃ b o, ka = some ⟨b, o, none⟩ ∧ b < N ∧ UnF w ⟨b, o + i * 4, none⟩ ∧ (ex → PlnF w ⟨b, o + i * 4, none⟩) ∧ ∀ c, c < 4 → w.cell? ⟨b, o + i * 4 + c, none⟩ = some (V i c))
    (hr : ∀ i k, t.kids[i]? = some k → SrcT w N ex (V i) k) (cl : la = none → lc = 0) (ck : ka = none → kc = 0) (bl : t.lines.length ≤ 1000000) (bk : t.kids.length ≤ 100000) (hlc : t.lines.length ≤ lc) (hkc : t.kids.length ≤ kc) : SrcT w N ex v t
/-- Foreign kids. -/
structure Fk (w : World) (N : Nat) (ex : Prop) (u : Value) (t : It) (ka : Option Addr) (kc : Nat) (K : Nat → Nat → Value) : Prop where
  is : u = .slice ka t.kids.length kc
  ck : ka = none → kc = 0
  bk : t.kids.length ≤ 100000
  hkc : t.kids.length ≤ kc
  hk : ∀ i, i < t.kids.length → ∃ b o, ka = some ⟨b, o, none⟩ ∧ b < N ∧ ∀ c, c < 4 → w.cell? ⟨b, o + i * 4 + c, none⟩ = some (K i c)
  hr : ∀ i k, t.kids[i]? = some k → SrcT w N ex (K i) k
section
variable {w : World} {N : Nat} {ex : Prop}
theorem SrcT.fk {v : Nat → Value} {t : It} (h : SrcT w N ex v t) : ∃ ka kc K, Fk w N ex (v 3) t ka kc K := by
  cases h with
  | mk v t la ka lc kc V h0 h1 h2 h3 hl hk hr cl ck bl bk hlc hkc => exact ⟨ka, kc, V, h3, ck, bk, hkc, fun i hi => (by obtain ⟨b, o, e1, e2, _, _, e3⟩ := hk i hi; exact ⟨b, o, e1, e2, e3⟩), hr⟩
theorem SrcT.texts {v : Nat → Value} {t : It} (h : SrcT w N ex v t) : v 0 = .string t.label ∧ v 1 = .string t.head ∧ ∃ la lc, v 2 = .slice la t.lines.length lc ∧ (la = none → lc = 0) ∧ t.lines.length ≤ 1000000 ∧ t.lines.length ≤ lc ∧ ∀ i s, t.lines[i]? = some s → ∃ b o, la = some ⟨b, o, none⟩ ∧ b < N ∧ w.cell? ⟨b, o + i, none⟩ = some (.string s) := by
  cases h with
  | mk v t la ka lc kc V h0 h1 h2 h3 hl hk hr cl ck bl bk hlc hkc => exact ⟨h0, h1, la, lc, h2, cl, bl, hlc, hl⟩
theorem SrcT.on {w' : World} {v : Nat → Value} {t : It} (h : SrcT w N ex v t) (hb : ∀ k, k < N → w'.heap[k]? = w.heap[k]?) : SrcT w' N ex v t := by
  induction h with
  | mk v t la ka lc kc V h0 h1 h2 h3 hl hk hr cl ck bl bk hlc hkc ih =>
    refine .mk v t la ka lc kc V h0 h1 h2 h3 (fun i s hs => ?_) (fun i hi => ?_) ih cl ck bl bk hlc hkc
    · obtain ⟨b, o, e, hN, hc⟩ := hl i s hs
      exact ⟨b, o, e, hN, (World.cell?_of_block (a := ⟨b, o + i, none⟩) (hb b hN)).trans hc⟩
    · obtain ⟨b, o, e, hN, hu, hp, hc⟩ := hk i hi
      exact ⟨b, o, e, hN, hu.on (hb b hN), fun hx => (hp hx).on (hb b hN), fun c hc' => (World.cell?_of_block (a := ⟨b, o + i * 4 + c, none⟩) (hb b hN)).trans (hc c hc')⟩
theorem SrcT.lies {v : Nat → Value} {t : It} (h : SrcT w N ex v t) : Lies w (· < N) v t := by
  induction h with
  | mk v t la ka lc kc V h0 h1 h2 h3 hl hk hr cl ck bl bk hlc hkc ih =>
    exact .mk v t la ka lc kc V h0 h1 h2 h3 hl (fun i hi => by obtain ⟨b, o, e, hN, _, _, hc⟩ := hk i hi; exact ⟨b, o, e, hN, hc⟩) ih hlc hkc
/-- At a place it is a tree that can be weighed. -/
theorem SrcT.tree {N' : Nat} (hN : N ≤ N') {v : Nat → Value} {t : It} (h : SrcT w N ex v t) {b o : Nat} (c2 : w.cell? ⟨b, o + 2, none⟩ = some (v 2)) (c3 : w.cell? ⟨b, o + 3, none⟩ = some (v 3)) (hu : UnF w ⟨b, o, none⟩) (hp : ex → PlnF w ⟨b, o, none⟩) (hb : b < N') : TreeF w N' ex b o t := by
  induction h generalizing b o with
  | mk v t la ka lc kc V h0 h1 h2 h3 hl hk hr cl ck bl bk hlc hkc ih =>
    refine .mk b o t la ka lc kc (by rw [c2, h2]) (by rw [c3, h3]) bl bk hkc hu hp hb (fun hne => ?_) (fun i k g q hi hg => ?_)
    · obtain ⟨b', o', e, _⟩ := hk 0 (List.length_pos_iff.2 hne)
      exact ⟨b', o', e⟩
    · obtain ⟨b', o', e, hN', hu', hp', hc⟩ := hk i (List.getElem?_eq_some_iff.1 hi).1
      rw [hg] at e
      injection e with e
      injection e with e1 e2 _
      subst e1 e2
      exact ih i k hi (hc 2 (by omega)) (hc 3 (by omega)) hu' hp' (by omega)
def sumW : List (Nat × Nat × It) → Nat
  | [] => 0
  | p :: r => wtK p.2.2.kids + sumW r
theorem sumW_app : ∀ (a b : List (Nat × Nat × It)), sumW (a ++ b) = sumW a + sumW b
  | [], b => by rw [List.nil_append, sumW]; omega
  | p :: r, b => by rw [List.cons_append, sumW, sumW, sumW_app r b]; omega
theorem sumW_opens {g : Nat} {ks : List It} : ∀ i, i ≤ ks.length → sumW (opens g ks i) + ownW (ks.take i) = wtK (ks.take i)
  | 0, _ => by rw [opens, sumW, List.take_zero, ownW, wtK]
  | i + 1, h => by
    obtain ⟨k, hk⟩ : ∃ k, ks[i]? = some k := ⟨_, List.getElem?_eq_getElem (by omega)⟩
    have ih := sumW_opens (g := g) (ks := ks) i (by omega)
    have hw : wtK (ks.take (i + 1)) = wtK (ks.take i) + wtI k := by
      obtain ⟨hi, e⟩ := List.getElem?_eq_some_iff.1 hk
      rw [List.take_succ_eq_append_getElem hi, e]
      have : ∀ l : List It, wtK (l ++ [k]) = wtK l + wtI k := fun l => by
        induction l with
        | nil => show wtI k + wtK [] = wtK [] + wtI k; omega
        | cons a r ih => rw [List.cons_append, wtK, wtK, ih]; omega
      exact this _
    have hk2 := wtI_eq k
    rw [ownW_take hk, hw]
    by_cases hz : k.kids = []
    · rw [opens_none hk hz]
      rw [hz, wtK] at hk2
      omega
    · rw [opens_some hk hz, sumW_app, sumW, sumW]
      show sumW (opens g ks i) + (wtK k.kids + 0) + _ = _
      omega
theorem opens_len {g : Nat} {ks : List It} : ∀ i, (opens g ks i).length ≤ i
  | 0 => Nat.le_refl _
  | i + 1 => by
    rw [opens, List.length_append]
    have := opens_len (g := g) (ks := ks) i
    split
    · simp; omega
    · split
      · simp; omega
      · simp; omega
/-- The copy, so far. -/
structure RenI (w : World) (N rb : Nat) (ex : Prop) (t : It) (m : Nat) (v : Value) (L : List (Nat × Nat × It)) (wr : World) : Prop where
  low : BelX w.heap.size rb w wr
  ren : ∃ S, Ren wr w.heap.size L rb 0 t S
  q : QRow wr w.heap.size v (L.map pl)
  nodes : ∀ p, p ∈ L → p.2.1 % 4 = 0 ∧ (p.1 = rb ∨ w.heap.size ≤ p.1) ∧ ∃ x ka kc K, NodeAt wr p.1 p.2.1 x ∧ Fk w N ex (x 3) p.2.2 ka kc K
  pw : L.Pairwise fun p q => ¬ (p.1 = q.1 ∧ p.2.1 = q.2.1)
  bud : sumW L ≤ m
theorem RenI.next {rb m m' : Nat} {t t0 : It} {v v' u : Value} {b0 o0 : Nat} {Lr Ln : List (Nat × Nat × It)} {wr wr' : World} {T : Nat → Nat → Prop} (h : RenI w N rb ex t m v ((b0, o0, t0) :: Lr) wr) (hf : One3 wr wr' b0 (o0 + 3) u) (hlow : BelX w.heap.size rb wr wr') (hk : NewK wr wr' w.heap.size (Lr ++ Ln) u t0 T)
    (hLn : ∀ p, p ∈ Ln → wr.heap.size ≤ p.1 ∧ p.2.1 % 4 = 0 ∧ ∃ x ka kc K, NodeAt wr' p.1 p.2.1 x ∧ Fk w N ex (x 3) p.2.2 ka kc K) (hpw : Ln.Pairwise fun p q => ¬ (p.1 = q.1 ∧ p.2.1 = q.2.1)) (hq : QRow wr' w.heap.size v' ((Lr ++ Ln).map pl)) (hb : sumW (Lr ++ Ln) ≤ m') : RenI w N rb ex t m' v' (Lr ++ Ln) wr' := by
  obtain ⟨S, hS⟩ := h.ren
  obtain ⟨h04, _, x0, ka0, kc0, K0, hn0, _⟩ := h.nodes (b0, o0, t0) (by simp)
  obtain ⟨hp1, hp2⟩ := List.pairwise_cons.1 h.pw
  have hlt : ∀ p, p ∈ Lr → p.1 < wr.heap.size := fun p hp => by
    obtain ⟨_, _, x, _, _, _, hx, _⟩ := h.nodes p (List.mem_cons_of_mem _ hp)
    exact hx.lt
  have hn0' : NodeAt wr b0 o0 x0 := hn0
  have h04 : o0 % 4 = 0 := h04
  have hN := h.low.size
  refine ⟨h.low.trans hlow, ⟨_, hS.step hN h04 ⟨_, hn0'.choose_spec.1⟩ hf hk (by simp) (fun p hp => ?_) (fun t' ht' => ?_) (fun p hp => ?_)⟩, hq, fun p hp => ?_, ?_, hb⟩
  · rcases List.mem_cons.1 hp with rfl | hp
    · exact ⟨fun _ => rfl, fun hn => absurd ⟨rfl, rfl⟩ hn⟩
    · have := hp1 p hp
      exact ⟨fun e => absurd ⟨e.1.symm, e.2.symm⟩ this, fun _ => List.mem_append.2 (.inl hp)⟩
  · rcases List.mem_append.1 ht' with h1 | h1
    · exact hp1 _ h1 ⟨rfl, rfl⟩
    · have h1 : wr.heap.size ≤ b0 := (hLn _ h1).1
      have := hn0'.lt
      omega
  · rcases List.mem_append.1 hp with h1 | h1
    · exact .inl (List.mem_cons_of_mem _ h1)
    · exact .inr (hLn _ h1).1
  · rcases List.mem_append.1 hp with h1 | h1
    · obtain ⟨h2, h3, x, ka, kc, K, hx, hfk⟩ := h.nodes p (List.mem_cons_of_mem _ h1)
      exact ⟨h2, h3, x, ka, kc, K, hf.node h04 hx h2 (fun e => hp1 p h1 ⟨e.1.symm, e.2.symm⟩), hfk⟩
    · have h2 := hLn p h1
      exact ⟨h2.2.1, .inr (by omega), h2.2.2⟩
  · refine List.pairwise_append.2 ⟨hp2, hpw, fun p hp q hq e => ?_⟩
    have := hlt p hp
    have := (hLn q hq).1
    have := e.1
    omega
end
end Go.Proofs.YtpbolcjcmkmalaaGreatDoor
namespace Go.Proofs.YtpbolcjcmkmalaaGreatDoor
open Go.RowKit Go.Extern.Stop Go.Stop Go.Extern

/-- One kid more, its blocks new. -/
theorem putF_fin {W w4 : World} {B b o d : Nat} {x k : It} {S Ty : Nat → Prop} {v y : Nat → Value} {K : Nat → Nat → Value} {T : Nat → Nat → Prop} (h : ItAt W B b o x S v) (hk : OwnK W B v x S K T) (hB : B ≤ W.heap.size) (hd : d ≤ x.kids.length) {a : Option Addr} {c : Nat}
    (hf : Fr (fun k => k = b ∨ (v 3).ownBlock = some k) W w4) (hb : w4.heap[b]? = (W.setCell ⟨b, o + 3, none⟩ (.slice a (x.kids.length + 1) c)).heap[b]?) (hr : w4.ownsRow B 25 4 (.slice a (x.kids.length + 1) c) (x.kids.length + 1) (flat4 (inV K d y) (x.kids.length + 1)))
    (hyt : Own w4 B y k Ty) (hTy : ∀ q, Ty q → W.heap.size ≤ q) (hu3 : ∀ g, (Value.slice a (x.kids.length + 1) c).ownBlock = some g → (v 3).ownBlock = some g ∨ (W.heap.size ≤ g ∧ g < w4.heap.size)) (hTn : ∀ q, Ty q → (Value.slice a (x.kids.length + 1) c).ownBlock ≠ some q) :
    ∃ S' v', ItAt w4 B b o (x.setKids (x.kids.insertIdx d k)) S' v' ∧ (∀ q, S' q → S q ∨ W.heap.size ≤ q) ∧ Upd W w4 b o S := by
  have hl : (x.kids.insertIdx d k).length = x.kids.length + 1 := by rw [List.length_insertIdx, if_pos hd]
  have hn' : ∀ q, S q → q ≠ b := fun q hq e => h.out (e ▸ hq)
  have hlt := h.lt
  have hst := fun j k' (ej : x.kids[j]? = some k') => own_step2 (t := x) hk hf (fun i q hi hq e2 => e2.elim (hn' q (hk.hT i q hi hq).1) (hk.hT i q hi hq).2.2) j k' ej
  have hin : ∀ i, i < x.kids.length + 1 → (i = d ∧ inV K d y i = y ∧ inV T d Ty i = Ty) ∨ ∃ j, j < x.kids.length ∧ i ≠ d ∧ inV K d y i = K j ∧ inV T d Ty i = T j ∧ (j = if i < d then i else i - 1) := fun i hi => by
    unfold inV
    rcases Nat.lt_trichotomy i d with h1 | h1 | h1
    · exact .inr ⟨i, by omega, by omega, by rw [if_pos h1], by rw [if_pos h1], by rw [if_pos h1]⟩
    · exact .inl ⟨h1, by rw [if_neg (by omega), if_pos h1], by rw [if_neg (by omega), if_pos h1]⟩
    · exact .inr ⟨i - 1, by omega, by omega, by rw [if_neg (by omega), if_neg (by omega)], by rw [if_neg (by omega), if_neg (by omega)], by rw [if_neg (by omega)]⟩
  have hTS : ∀ j q, j < x.kids.length → T j q → q < W.heap.size := fun j q hj hq => (hk.hS q (hk.hT j q hj hq).1).2
  have hset : ItAt w4 B b o (x.setKids (x.kids.insertIdx d k)) (fun q => S q ∨ (W.heap.size ≤ q ∧ q < w4.heap.size)) (updV v 3 (.slice a (x.kids.length + 1) c)) ∧ Upd W w4 b o S := by
    refine h.setK (u := .slice a (x.kids.length + 1) c) (ks := x.kids.insertIdx d k) (K' := inV K d y) (T' := inV T d Ty) (S' := fun q => S q ∨ (W.heap.size ≤ q ∧ q < w4.heap.size)) hf hb (by rw [hl]; exact hr) (fun i k' ei => ?_) (fun q hq => ?_) (fun g hg' => .inl (hk.sl g hg')) (fun g hg' => ?_) (fun i q hi hq => ?_) (fun i i' q hi hi' hq hq' => ?_) (fun hh => ?_)
    · have hi : i < x.kids.length + 1 := by rw [← hl]; exact (List.getElem?_eq_some_iff.1 ei).1
      rcases hin i hi with ⟨h1, h2, h3⟩ | ⟨j, h1, h2, h3, h4, h5⟩
      · rw [h2, h3]
        rcases ins_get hd ei with ⟨h6, _⟩ | ⟨_, h7⟩ | ⟨h6, _⟩
        · omega
        · rw [h7]; exact hyt
        · omega
      · rw [h3, h4]
        refine hst j k' ?_
        rcases ins_get hd ei with ⟨h6, h7⟩ | ⟨h6, _⟩ | ⟨h6, h7⟩
        · rw [h5, if_pos h6]; exact h7
        · exact absurd h6 h2
        · rw [h5, if_neg (by omega)]; exact h7
    · rcases hq with hq | hq
      · exact ⟨(hk.hS q hq).1, Nat.lt_of_lt_of_le (hk.hS q hq).2 hf.size⟩
      · exact ⟨by omega, hq.2⟩
    · exact (hu3 g hg').imp (fun h1 => hk.sk g h1) (fun h1 => h1)
    · rw [hl] at hi
      rcases hin i hi with ⟨h1, h2, h3⟩ | ⟨j, h1, h2, h3, h4, h5⟩
      · rw [h3] at hq
        refine ⟨.inr ⟨hTy q hq, (hyt.in q hq).2⟩, fun e2 => ?_, hTn q hq⟩
        have := (hk.hS q (hk.sl q e2)).2; have := hTy q hq; omega
      · rw [h4] at hq
        have h9 := hk.hT j q h1 hq
        refine ⟨.inl h9.1, h9.2.1, fun e2 => ?_⟩
        rcases hu3 q e2 with h6 | h6
        · exact h9.2.2 h6
        · have := hTS j q h1 hq; omega
    · rw [hl] at hi hi'
      rcases hin i hi with ⟨h1, h2, h3⟩ | ⟨j, h1, h2, h3, h4, h5⟩ <;> rcases hin i' hi' with ⟨h1', h2', h3'⟩ | ⟨j', h1', h2', h3', h4', h5'⟩
      · omega
      · rw [h3] at hq
        rw [h4'] at hq'
        have := hTS j' q h1' hq'; have := hTy q hq; omega
      · rw [h4] at hq
        rw [h3'] at hq'
        have := hTS j q h1 hq; have := hTy q hq'; omega
      · rw [h4] at hq
        rw [h4'] at hq'
        have e9 := hk.hd j j' q h1 h1' hq hq'
        rw [h5, h5'] at e9
        split at e9 <;> split at e9 <;> omega
    · rcases hh with hh | hh
      · exact h.out hh
      · omega
  exact ⟨_, _, hset.1, fun q hq => hq.imp (fun h => h) (fun h => h.1), hset.2⟩
/-- From one world to the next: four cells of a block are others, and no block else. -/
structure Put4 (w w' : World) (g o : Nat) (y : Nat → Value) : Prop where
  os : w'.os = w.os
  tape : w'.tape = w.tape
  output : w'.output = w.output
  size : w'.heap.size = w.heap.size
  block : ∀ q, q ≠ g → w'.heap[q]? = w.heap[q]?
  row : ∀ cur ty fz, w.heap[g]? = some (.cells cur ty fz) → ∃ cur', w'.heap[g]? = some (.cells cur' ty fz) ∧ cur'.size = cur.size ∧ (∀ c, c < 4 → o + c < cur.size → cur'[o + c]? = some (y c)) ∧ ∀ q, (q < o ∨ o + 4 ≤ q) → cur'[q]? = cur[q]?
theorem put4 (w : World) (g o : Nat) (y : Nat → Value) : Put4 w ((((w.setCell ⟨g, o, none⟩ (y 0)).setCell ⟨g, o + 1, none⟩ (y 1)).setCell ⟨g, o + 2, none⟩ (y 2)).setCell ⟨g, o + 3, none⟩ (y 3)) g o y := by
  refine ⟨rfl, rfl, rfl, by simp, fun q hq => ?_, fun cur ty fz e => ?_⟩
  · rw [Below.heap_setCell _ _ _ _ hq, Below.heap_setCell _ _ _ _ hq, Below.heap_setCell _ _ _ _ hq, Below.heap_setCell _ _ _ _ hq]
  · refine ⟨(((cur.setIfInBounds o (y 0)).setIfInBounds (o + 1) (y 1)).setIfInBounds (o + 2) (y 2)).setIfInBounds (o + 3) (y 3), ?_, by simp, fun c hc hl => ?_, fun q hq => ?_⟩
    · exact setCell_row _ (setCell_row _ (setCell_row _ (setCell_row _ e)))
    · simp only [Array.getElem?_setIfInBounds, Array.size_setIfInBounds]
      match c, hc with
      | 0, _ => rw [if_neg (by omega), if_neg (by omega), if_neg (by omega), if_pos (by omega), if_pos (by omega)]
      | 1, _ => rw [if_neg (by omega), if_neg (by omega), if_pos (by omega), if_pos (by omega)]
      | 2, _ => rw [if_neg (by omega), if_pos (by omega), if_pos (by omega)]
      | 3, _ => rw [if_pos (by omega), if_pos (by omega)]
    · simp only [Array.getElem?_setIfInBounds]
      rw [if_neg (by omega), if_neg (by omega), if_neg (by omega), if_neg (by omega)]
theorem row_put4 {w3 w4 : World} {B g d n c : Nat} {K : Nat → Nat → Value} {y y' : Nat → Value} (hr : w3.ownsRow B 25 4 (.slice (some ⟨g, 0, none⟩) n c) n (flat4 (inV K d y) n)) (hd : d < n) (hp : Put4 w3 w4 g (d * 4) y') : w4.ownsRow B 25 4 (.slice (some ⟨g, 0, none⟩) n c) n (flat4 (inV K d y') n) := by
  refine ⟨flat4_len _ _, ?_⟩
  rcases hr.2 with ⟨e, _⟩ | ⟨g', cap, cur, e, hb, hg, h1, h2, h3, h4⟩
  · cases e
  · injection e with e1 _ e2
    injection e1 with e1
    injection e1 with e1 _ _
    subst e1 e2
    obtain ⟨cur', e5, e6, e7, e8⟩ := hp.row cur _ _ hg
    refine .inr ⟨g, c, cur', rfl, hb, e5, h1, h2, by omega, ?_⟩
    apply List.ext_getElem?
    intro q
    have hcl : cur.size = c * 4 := h3
    rcases Nat.lt_or_ge q (n * 4) with hq | hq
    · rw [List.getElem?_take, if_pos hq, flat4_at _ hq, Array.getElem?_toList]
      by_cases hqd : q / 4 = d
      · obtain ⟨j, hj⟩ : ∃ j, j = q - d * 4 := ⟨_, rfl⟩
        have hj4 : j < 4 := by omega
        have := e7 j hj4 (by omega)
        rw [show d * 4 + j = q by omega] at this
        rw [this]
        unfold inV
        rw [if_neg (by omega), if_pos hqd, show q % 4 = j by omega]
      · rw [e8 q (by omega)]
        have h9 := flat4_at (inV K d y) hq
        rw [← h4, List.getElem?_take, if_pos hq, Array.getElem?_toList] at h9
        rw [h9]
        unfold inV
        rcases Nat.lt_trichotomy (q / 4) d with h8 | h8 | h8
        · rw [if_pos h8, if_pos h8]
        · exact absurd h8 hqd
        · rw [if_neg (by omega), if_neg hqd, if_neg (by omega), if_neg hqd]
    · rw [List.getElem?_eq_none (by rw [List.length_take, Array.length_toList]; omega), List.getElem?_eq_none (by rw [flat4_len]; omega)]
/-- A foreign provision is among the kids. -/
structure PutH (W : World) (B b o d : Nat) (x k : It) (S : Nat → Prop) (w2 : World) (g c : Nat) : Prop where
  cell : w2.cell? ⟨b, o + 3, none⟩ = some (.slice (some ⟨g, 0, none⟩) (x.kids.length + 1) c)
  lt : g < w2.heap.size
  upd : Upd W w2 b o S
  lies : LiesAt4 w2 b o (x.setKids (x.kids.insertIdx d k))
  place : ∀ j, j < 4 → ∃ u, w2.cell? ⟨g, d * 4 + j, none⟩ = some u
  frz : ∀ i, w2.frozen? ⟨g, i, none⟩ = false
  fin : ∀ (w3 w4 : World) (y : Nat → Value) (Ty : Nat → Prop), Below w2.heap.size w2 w3 → Put4 w3 w4 g (d * 4) y → Own w3 B y k Ty → (∀ q, Ty q → w2.heap.size ≤ q) → ∃ S' v', ItAt w4 B b o (x.setKids (x.kids.insertIdx d k)) S' v' ∧ (∀ q, S' q → S q ∨ W.heap.size ≤ q) ∧ Upd W w4 b o S
theorem putF_c {W : World} {B b o d vb : Nat} {x k : It} {S : Nat → Prop} {v iv : Nat → Value} (h : ItAt W B b o x S v) (hB : B ≤ W.heap.size) (hBb : B ≤ b) (hd : d ≤ x.kids.length) (hn : x.kids.length ≤ 1000000) {ka : Option Addr} {kc : Nat} (e : v 3 = .slice ka x.kids.length kc) (hi : Lies W (· < B) iv k) (hv : W.heap[vb]? = some (.cells #[iv 0, iv 1, iv 2, iv 3] 25 (0, 0))) (hvb : ¬ S vb) :
    Calls Tryz.prog 77 #[.slice ka x.kids.length kc, .int .i64 d, .slice (some ⟨vb, 0, none⟩) 1 1] W fun e w' => ∃ a n c, e = .returned (.slice a n c) ∧ StC b o 3 (.slice a n c) w' (fun w2 => ∃ g c, PutH W B b o d x k S w2 g c) := by
  obtain ⟨K, T, hk⟩ := h.own.parts
  have hkd := hk.kd
  rw [e] at hkd
  obtain ⟨f0, f1, ⟨fa, fc, f2⟩, fa', fc', f3⟩ := hi.forms
  refine (insI_a (ns := [iv 0, iv 1, iv 2, iv 3]) hkd (kid_ones hk) hd hn hv rfl (fun u hu => by simp only [List.mem_cons, List.not_mem_nil, or_false] at hu; rcases hu with rfl | rfl | rfl | rfl; rw [f0]; rfl; rw [f1]; rfl; rw [f2]; rfl; rw [f3]; rfl) (fun e2 => hvb (hk.sk vb (by rw [e]; exact e2))) hB).mono ?_
  rintro e' w' ⟨⟨u, rfl, hu, hr⟩, hg⟩
  rw [flat4_insert K iv hd] at hr
  obtain ⟨g, c, rfl, hgl, hgB⟩ := row_form hr (by omega)
  refine ⟨_, _, c, rfl, h.stC hk (by rw [e]; exact hg) (by rw [e]; exact hu) fun w'' hf hb hsz hblk hub => ⟨g, c, ?_⟩⟩
  have hgb : g ≠ b := hub g rfl
  have hl : (x.kids.insertIdx d k).length = x.kids.length + 1 := by rw [List.length_insertIdx, if_pos hd]
  have hn' : ∀ q, S q → q ≠ b := fun q hq e => h.out (e ▸ hq)
  have hlt := h.lt
  have hu3 : (v 3).ownBlock = some g ∨ (W.heap.size ≤ g ∧ g < w''.heap.size) := by
    rcases hu with e1 | ⟨g', e1, h5, h6⟩
    · left; rw [e, ← e1]; rfl
    · right
      have e1 : some g = some g' := e1
      injection e1 with e1
      subst e1
      exact ⟨h5, by rw [hsz]; exact h6⟩
  have hr2 : w''.ownsRow B 25 4 (.slice (some ⟨g, 0, none⟩) (x.kids.length + 1) c) (x.kids.length + 1) (flat4 (inV K d iv) (x.kids.length + 1)) := row_step hr fun g' hg' hl' => hblk g' (hub g' hg')
  obtain ⟨h1, h2⟩ := here_set (u := .slice (some ⟨g, 0, none⟩) (x.kids.length + 1) c) h.here (c := 3) (by omega) hb
  have hupd : Upd W w'' b o S := ⟨hf.os, hf.tape, hf.output, hf.size, fun q hq hs hne => hf.block q hq (fun e2 => e2.elim hne (fun e3 => hs (hk.sk q e3))), h2⟩
  have hcs : ∀ c', c' < 4 → w''.cell? ⟨b, o + c', none⟩ = some (updV v 3 (.slice (some ⟨g, 0, none⟩) (x.kids.length + 1) c) c') := fun c' hc' => by
    obtain ⟨cur, ty, e1, e2⟩ := h1
    unfold World.cell?
    rw [e1]
    exact e2 c' hc'
  have hst := fun j k' (ej : x.kids[j]? = some k') => own_step2 (t := x) hk hf (fun i q hi hq e2 => e2.elim (hn' q (hk.hT i q hi hq).1) (hk.hT i q hi hq).2.2) j k' ej
  have hln : w''.ownsRow B 9 1 (v 2) x.lines.length (x.lines.map Value.string) := row_step hk.ln fun q hq hl' => hf.block q hl' (fun e2 => e2.elim (hn' q (hk.sl q hq)) (fun e3 => rows_ne hk hq e3))
  have hkcell : ∀ i c', i < x.kids.length + 1 → c' < 4 → w''.cell? ⟨g, 0 + i * 4 + c', none⟩ = some (inV K d iv i c') := fun i c' hi' hc' => by
    rw [hr2.cellAt (0 + i * 4 + c') (by omega), Nat.zero_add]
    exact flat4_get _ (x.kids.length + 1) i c' hi' hc'
  have hgh : ∃ cur, w''.heap[g]? = some (.cells cur 25 (0, 0)) := by
    rcases hr2.2 with ⟨e1, _⟩ | ⟨g', cap, cur, e1, _, hgg, _⟩
    · cases e1
    · injection e1 with e1 _ _
      injection e1 with e1
      injection e1 with e1 _ _
      exact ⟨cur, by rw [e1]; exact hgg⟩
  refine ⟨hcs 3 (by omega), by rw [hsz]; exact hgl, hupd, ⟨_, hcs, ?_⟩, fun j hj => ⟨_, by have := hkcell d j (by omega) hj; rwa [Nat.zero_add] at this⟩, fun i => ?_, ?_⟩
  · obtain ⟨la, lc, el⟩ := row_any hk.ln
    refine .mk _ _ la (some ⟨g, 0, none⟩) lc c (inV K d iv) ((updV_ne v _ (by omega)).trans hk.h0) ((updV_ne v _ (by omega)).trans hk.h1) ((updV_ne v _ (by omega)).trans el) (by rw [updV_same]; show _ = Value.slice _ (x.kids.insertIdx d k).length _; rw [hl]) (fun i s hs => ?_) (fun i hi' => ?_) (fun i k' ei => ?_) (by rw [el] at hln; exact row_cap hln) (by show (x.kids.insertIdx d k).length ≤ c; rw [hl]; exact row_cap hr2)
    · obtain ⟨hi', _⟩ := List.getElem?_eq_some_iff.1 hs
      have hs : x.lines[i]? = some s := hs
      have hi' : i < x.lines.length := hi'
      obtain ⟨g', cap, e4, hg', hb'⟩ := row_form hln (by omega)
      rw [el] at e4 hln
      injection e4 with e4 e5 e6
      rw [e4] at hln
      refine ⟨g', 0, e4, trivial, ?_⟩
      have := hln.cellAt i (by omega)
      simpa [hs] using this
    · have hi' : i < (x.kids.insertIdx d k).length := hi'
      exact ⟨g, 0, rfl, trivial, fun c' hc' => hkcell i c' (by omega) hc'⟩
    · have ei : (x.kids.insertIdx d k)[i]? = some k' := ei
      unfold inV
      rcases ins_get hd ei with ⟨h6, h7⟩ | ⟨h6, h7⟩ | ⟨h6, h7⟩
      · rw [if_pos h6]
        exact (hst i k' h7).lies.step fun q _ _ => ⟨rfl, trivial⟩
      · rw [if_neg (by omega), if_pos h6, h7]
        refine hi.step fun q hq hqB => ⟨hf.block q hq (fun e2 => ?_), trivial⟩
        have hqB : q < B := hqB
        rcases e2 with e2 | e2
        · omega
        · have := (hk.hS q (hk.sk q e2)).1; omega
      · rw [if_neg (by omega), if_neg (by omega)]
        exact (hst (i - 1) k' h7).lies.step fun q _ _ => ⟨rfl, trivial⟩
  · obtain ⟨cur, hgh⟩ := hgh
    unfold World.frozen?
    rw [hgh]
    simp
  · intro w3 w4 y Ty hb3 hp hy hTy
    have hg'' : g < w''.heap.size := by rw [hsz]; exact hgl
    have hr3 : w3.ownsRow B 25 4 (.slice (some ⟨g, 0, none⟩) (x.kids.length + 1) c) (x.kids.length + 1) (flat4 (inV K d iv) (x.kids.length + 1)) := row_step hr2 fun q _ hl' => hb3.block q hl'
    have hf3 := hf.bel hb3
    have hf4 : Fr (fun k => k = b ∨ (v 3).ownBlock = some k) W w4 := ⟨hp.os.trans hf3.os, hp.tape.trans hf3.tape, hp.output.trans hf3.output, by rw [hp.size]; exact hf3.size, fun q hq hx => by
      rw [hp.block q (fun e2 => ?_)]
      · exact hf3.block q hq hx
      · rw [e2] at hq hx
        rcases hu3 with h6 | h6
        · exact hx (.inr h6)
        · omega⟩
    refine putF_fin h hk hB hd hf4 ?_ (row_put4 hr3 (by omega) hp) (hy.step (fun q hq => hp.block q (fun e2 => by have := hTy q hq; omega)) (by rw [hp.size]; exact Nat.le_refl _)) (fun q hq => Nat.le_trans hf.size (hTy q hq)) (fun g' hg' => ?_) (fun q hq e2 => ?_)
    · rw [hp.block b (Ne.symm hgb), hb3.block b (Nat.lt_of_lt_of_le hlt hf.size), hb]
    · have hg' : some g = some g' := hg'
      injection hg' with hg'
      subst hg'
      exact hu3.imp (fun h => h) (fun h6 => ⟨h6.1, by rw [hp.size]; exact Nat.lt_of_lt_of_le h6.2 hb3.size⟩)
    · have e2 : some g = some q := e2
      injection e2 with e2
      have := hTy q hq; omega
theorem PutH.after {W V w2 : World} {B b o d g c : Nat} {x k : It} {S : Nat → Prop} (h : PutH V B b o d x k S w2 g c) (hb : Below W.heap.size W V) (hbl : b < W.heap.size) : PutH W B b o d x k S w2 g c :=
  ⟨h.cell, h.lt, h.upd.after hb hbl, h.lies, h.place, h.frz, fun w3 w4 y Ty h1 h2 h3 h4 => by
    obtain ⟨S', v', q1, q2, q3⟩ := h.fin w3 w4 y Ty h1 h2 h3 h4
    exact ⟨S', v', q1, fun q hq => (q2 q hq).imp (fun h => h) (fun h => Nat.le_trans hb.size h), q3.after hb hbl⟩⟩
end Go.Proofs.YtpbolcjcmkmalaaGreatDoor
namespace Go.Proofs.YtpbolcjcmkmalaaGreatDoor
open Go.RowKit
set_option linter.unusedVariables false

section
variable {ρ : Operand → Value} {dst : Option Tmp} {ty : TypeId} {ps : String} {af : Array Go.Edge} {g : Option (Nat × Bool)} {w : World} {x y z : Operand}
set_option maxRecDepth 20000
theorem x_opItem {b : Nat} (h : ρ x = .pointer (some ⟨b, 0, none⟩)) : (execOp ρ ⟨dst, .fieldAddr 46 x 6, ty, ps, af, g⟩).run Tryz.prog w = .ok (.value (.pointer (some ⟨b, 6, none⟩))) w := by
  simp only [execOp, h]
  go_simp
theorem x_copy {a : Value} {t0 : TypeId} (h : ρ x = a) (hf : ρ (.func 17) = .func (.func 17) #[] #[]) : (execOp ρ ⟨dst, .call { callee := .value (.func 17), args := #[x], argTypes := #[t0] }, ty, ps, af, g⟩).run Tryz.prog w = .ok (.enter 17 #[a]) w := by
  simp [execOp, go_sem, h, hf]
theorem x_idx {g0 n c j : Nat} (h : ρ x = .slice (some ⟨g0, 0, none⟩) n c) (h2 : ρ y = .int .i64 j) (hj : j < n) : (execOp ρ ⟨dst, .indexAddr 23 x y, ty, ps, af, g⟩).run Tryz.prog w = .ok (.value (.pointer (some ⟨g0, j * 4, none⟩))) w := by
  simp only [execOp, h, h2]
  have h3 : ¬ ((n : Int) ≤ (j : Int)) := by omega
  have h4 : ((j : Int) < (n : Int)) := by omega
  go_simp
theorem x_stItem {b o : Nat} {v : Nat → Value} {lab hd : ByteArray} {la ka : Option Addr} {ln lc kn kc : Nat} (h : ρ x = .pointer (some ⟨b, o, none⟩)) (h2 : ρ y = .agg #[v 0, v 1, v 2, v 3]) (v0 : v 0 = .string lab) (v1 : v 1 = .string hd) (v2 : v 2 = .slice la ln lc) (v3 : v 3 = .slice ka kn kc) {u0 u1 u2 u3 : Value} (c0 : w.cell? ⟨b, o, none⟩ = some u0) (c1 : w.cell? ⟨b, o + 1, none⟩ = some u1) (c2 : w.cell? ⟨b, o + 2, none⟩ = some u2) (c3 : w.cell? ⟨b, o + 3, none⟩ = some u3) (f0 : w.frozen? ⟨b, o, none⟩ = false) (f1 : w.frozen? ⟨b, o + 1, none⟩ = false) (f2 : w.frozen? ⟨b, o + 2, none⟩ = false) (f3 : w.frozen? ⟨b, o + 3, none⟩ = false) : (execOp ρ ⟨dst, .store 25 x y, ty, ps, af, g⟩).run Tryz.prog w = .ok .skip ((((w.setCell ⟨b, o, none⟩ (v 0)).setCell ⟨b, o + 1, none⟩ (v 1)).setCell ⟨b, o + 2, none⟩ (v 2)).setCell ⟨b, o + 3, none⟩ (v 3)) := by
  rw [v0, v1, v2, v3] at h2
  rw [v0, v1, v2, v3]
  clear v0 v1 v2 v3
  simp only [execOp, h, h2]
  go_simp
end
def puA0 : Oper := { dst := some 16, op := Op.move (Operand.tmp 5), type := 51, pos := "amend.go:55", after := #[], guard := none }
def puA1 : Oper := { dst := some 17, op := Op.nilCheck (Operand.tmp 16), type := 0, pos := "amend.go:55", after := #[{ on := 0, ground := Ground.data }], guard := none }
def puA2 : Oper := { dst := some 18, op := Op.fieldAddr 25 (Operand.tmp 17) 3, type := 0, pos := "amend.go:55", after := #[{ on := 1, ground := Ground.data }], guard := none }
def puA3 : Oper := { dst := some 19, op := Op.load 23 (Operand.tmp 18), type := 23, pos := "amend.go:55", after := #[{ on := 2, ground := Ground.data }], guard := none }
def puA4 : Oper := { dst := some 20, op := Op.fieldAddr 46 (Operand.tmp 3) 2, type := 0, pos := "amend.go:55", after := #[], guard := none }
def puA5 : Oper := { dst := some 21, op := Op.load 9 (Operand.tmp 20), type := 9, pos := "amend.go:55", after := #[{ on := 4, ground := Ground.data }], guard := none }
def puA6 : Oper := { dst := some 22, op := Op.call { callee := Callee.value (Operand.func 76), args := #[Operand.tmp 19, Operand.tmp 21], argTypes := #[23, 9] }, type := 3, pos := "amend.go:55", after := #[{ on := 3, ground := Ground.data }, { on := 5, ground := Ground.data }], guard := none }
def puA7 : Oper := { dst := some 6, op := Op.assign (Operand.tmp 22), type := 3, pos := "amend.go:55", after := #[{ on := 6, ground := Ground.data }, { on := 6, ground := Ground.chain }, { on := 0, ground := Ground.phase }, { on := 1, ground := Ground.phase }, { on := 2, ground := Ground.phase }, { on := 3, ground := Ground.phase }, { on := 4, ground := Ground.phase }, { on := 5, ground := Ground.phase }, { on := 6, ground := Ground.phase }], guard := none }
def puAL : List Oper := [puA0, puA1, puA2, puA3, puA4, puA5, puA6, puA7]
theorem seven7 {mid : List Value} (h : mid.length = 7) : ∃ u0 u1 u2 u3 u4 u5 u6 : Value, mid = [u0, u1, u2, u3, u4, u5, u6] := by
  match mid, h with
  | [u0, u1, u2, u3, u4, u5, u6], _ => exact ⟨_, _, _, _, _, _, _, rfl⟩
set_option maxRecDepth 20000 in
theorem puA_go {C : World → Prop} {Q : Act → Prop} {pre mid suf : List Value} {d : List Deferred} (hk : pre.length = 16) (hm : mid.length = 7) {b1 o1 g0 : Nat} {ka : Option Addr} {zn kc : Nat} {at' : ByteArray} {n1 : Int}
    (p5 : pre[5]? = some (.pointer (some ⟨b1, o1, none⟩))) (p3 : pre[3]? = some (.pointer (some ⟨g0, 0, none⟩))) (h3 : ∀ W, C W → W.cell? ⟨b1, o1 + 3, none⟩ = some (.slice ka zn kc)) (hA : ∀ W, C W → W.cell? ⟨g0, 2, none⟩ = some (.string at'))
    (hB : ∀ W, C W → Calls Tryz.prog 76 #[.slice ka zn kc, .string at'] W fun e w' => e = .returned (.int .i64 n1) ∧ C w')
    (hQ : ∀ m : List Value, m.length = 7 → Q (MA (pre.set 6 (.int .i64 n1)) m suf d)) : wpQuiet Tryz.prog puAL.toArray C Q puAL (MA pre mid suf d) := by
  obtain ⟨u0, u1, u2, u3, u4, u5, u6, rfl⟩ := seven7 hm
  refine mq_val (.pointer (some ⟨b1, o1, none⟩)) hk rfl (by decide) (by simp) (want0 rfl) (fun W hW => x_move (MA.lo p5)) ?_
  show wpQuiet _ _ C Q _ (MA pre [.pointer (some ⟨b1, o1, none⟩), u1, u2, u3, u4, u5, u6] suf d)
  refine mq_val (.pointer (some ⟨b1, o1, none⟩)) hk rfl (by decide) (by simp) (want0 rfl) (fun W hW => x_nil (MA.hi hk (by decide) rfl)) ?_
  show wpQuiet _ _ C Q _ (MA pre [.pointer (some ⟨b1, o1, none⟩), .pointer (some ⟨b1, o1, none⟩), u2, u3, u4, u5, u6] suf d)
  refine mq_val (.pointer (some ⟨b1, o1 + 3, none⟩)) hk rfl (by decide) (by simp) (want0 rfl) (fun W hW => x_kids (MA.hi hk (by decide) rfl)) ?_
  show wpQuiet _ _ C Q _ (MA pre [.pointer (some ⟨b1, o1, none⟩), .pointer (some ⟨b1, o1, none⟩), .pointer (some ⟨b1, o1 + 3, none⟩), u3, u4, u5, u6] suf d)
  refine mq_val (.slice ka zn kc) hk rfl (by decide) (by simp) (want0 rfl) (fun W hW => x_ldK (MA.hi hk (by decide) rfl) (h3 W hW)) ?_
  show wpQuiet _ _ C Q _ (MA pre [.pointer (some ⟨b1, o1, none⟩), .pointer (some ⟨b1, o1, none⟩), .pointer (some ⟨b1, o1 + 3, none⟩), .slice ka zn kc, u4, u5, u6] suf d)
  refine mq_val (.pointer (some ⟨g0, 2, none⟩)) hk rfl (by decide) (by simp) (want0 rfl) (fun W hW => x_opAt (MA.lo p3)) ?_
  show wpQuiet _ _ C Q _ (MA pre [.pointer (some ⟨b1, o1, none⟩), .pointer (some ⟨b1, o1, none⟩), .pointer (some ⟨b1, o1 + 3, none⟩), .slice ka zn kc, .pointer (some ⟨g0, 2, none⟩), u5, u6] suf d)
  refine mq_val (.string at') hk rfl (by decide) (by simp) (want0 rfl) (fun W hW => x_ldS (MA.hi hk (by decide) rfl) (hA W hW)) ?_
  show wpQuiet _ _ C Q _ (MA pre [.pointer (some ⟨b1, o1, none⟩), .pointer (some ⟨b1, o1, none⟩), .pointer (some ⟨b1, o1 + 3, none⟩), .slice ka zn kc, .pointer (some ⟨g0, 2, none⟩), .string at', u6] suf d)
  refine mq_call 76 #[.slice ka zn kc, .string at'] (.int .i64 n1) hk rfl (by decide) (by simp) (want0 rfl) (fun W hW => x_behind (MA.hi hk (by decide) rfl) (MA.hi hk (by decide) rfl) rfl) (fun W hW => hB W hW) ?_
  show wpQuiet _ _ C Q _ (MA pre [.pointer (some ⟨b1, o1, none⟩), .pointer (some ⟨b1, o1, none⟩), .pointer (some ⟨b1, o1 + 3, none⟩), .slice ka zn kc, .pointer (some ⟨g0, 2, none⟩), .string at', .int .i64 n1] suf d)
  refine mq_lo (.int .i64 n1) rfl (by omega) (want0 rfl) (fun W hW => x_assign (MA.hi hk (by decide) rfl)) ?_
  exact wpQuiet_nil (hQ _ rfl)
def puB0 : Oper := { dst := some 26, op := Op.move (Operand.tmp 5), type := 51, pos := "amend.go:59", after := #[], guard := none }
def puB1 : Oper := { dst := some 27, op := Op.nilCheck (Operand.tmp 26), type := 0, pos := "amend.go:59", after := #[{ on := 0, ground := Ground.data }], guard := none }
def puB2 : Oper := { dst := some 28, op := Op.fieldAddr 25 (Operand.tmp 27) 3, type := 0, pos := "amend.go:59", after := #[{ on := 1, ground := Ground.data }], guard := none }
def puB3 : Oper := { dst := some 29, op := Op.load 23 (Operand.tmp 28), type := 23, pos := "amend.go:59", after := #[{ on := 2, ground := Ground.data }], guard := none }
def puB4 : Oper := { dst := some 30, op := Op.fieldAddr 46 (Operand.tmp 3) 6, type := 0, pos := "amend.go:59", after := #[], guard := none }
def puB5 : Oper := { dst := some 31, op := Op.fieldAddr 25 (Operand.tmp 30) 0, type := 0, pos := "amend.go:59", after := #[{ on := 4, ground := Ground.data }], guard := none }
def puB6 : Oper := { dst := some 32, op := Op.load 9 (Operand.tmp 31), type := 9, pos := "amend.go:59", after := #[{ on := 5, ground := Ground.data }], guard := none }
def puB7 : Oper := { dst := some 33, op := Op.call { callee := Callee.value (Operand.func 69), args := #[Operand.tmp 29, Operand.tmp 32], argTypes := #[23, 9] }, type := 3, pos := "amend.go:59", after := #[{ on := 3, ground := Ground.data }, { on := 6, ground := Ground.data }], guard := none }
def puB8 : Oper := { dst := some 34, op := Op.binOp BinOp.geq 3 (Operand.tmp 33) (Operand.const (Value.int IntKind.i64 0)) 3, type := 4, pos := "amend.go:59", after := #[{ on := 7, ground := Ground.data }], guard := none }
def puBL : List Oper := [puB0, puB1, puB2, puB3, puB4, puB5, puB6, puB7, puB8]
theorem nine9 {mid : List Value} (h : mid.length = 9) : ∃ u0 u1 u2 u3 u4 u5 u6 u7 u8 : Value, mid = [u0, u1, u2, u3, u4, u5, u6, u7, u8] := by
  match mid, h with
  | [u0, u1, u2, u3, u4, u5, u6, u7, u8], _ => exact ⟨_, _, _, _, _, _, _, _, _, rfl⟩
set_option maxRecDepth 20000 in
theorem puB_go {C : World → Prop} {Q : Act → Prop} {pre mid suf : List Value} {d : List Deferred} (hk : pre.length = 26) (hm : mid.length = 9) {b1 o1 g0 : Nat} {ka : Option Addr} {zn kc : Nat} {lab : ByteArray} {n1 : Int} {same : Bool}
    (p5 : pre[5]? = some (.pointer (some ⟨b1, o1, none⟩))) (p3 : pre[3]? = some (.pointer (some ⟨g0, 0, none⟩))) (h3 : ∀ W, C W → W.cell? ⟨b1, o1 + 3, none⟩ = some (.slice ka zn kc)) (hA : ∀ W, C W → W.cell? ⟨g0, 6, none⟩ = some (.string lab))
    (hB : ∀ W, C W → Calls Tryz.prog 69 #[.slice ka zn kc, .string lab] W fun e w' => e = .returned (.int .i64 n1) ∧ C w') (hs : decide (0 ≤ n1) = same)
    (hQ : ∀ m : List Value, m.length = 9 → m[8]? = some (.bool same) → Q (MA pre m suf d)) : wpQuiet Tryz.prog puBL.toArray C Q puBL (MA pre mid suf d) := by
  obtain ⟨u0, u1, u2, u3, u4, u5, u6, u7, u8, rfl⟩ := nine9 hm
  refine mq_val (.pointer (some ⟨b1, o1, none⟩)) hk rfl (by decide) (by simp) (want0 rfl) (fun W hW => x_move (MA.lo p5)) ?_
  show wpQuiet _ _ C Q _ (MA pre [.pointer (some ⟨b1, o1, none⟩), u1, u2, u3, u4, u5, u6, u7, u8] suf d)
  refine mq_val (.pointer (some ⟨b1, o1, none⟩)) hk rfl (by decide) (by simp) (want0 rfl) (fun W hW => x_nil (MA.hi hk (by decide) rfl)) ?_
  show wpQuiet _ _ C Q _ (MA pre [.pointer (some ⟨b1, o1, none⟩), .pointer (some ⟨b1, o1, none⟩), u2, u3, u4, u5, u6, u7, u8] suf d)
  refine mq_val (.pointer (some ⟨b1, o1 + 3, none⟩)) hk rfl (by decide) (by simp) (want0 rfl) (fun W hW => x_kids (MA.hi hk (by decide) rfl)) ?_
  show wpQuiet _ _ C Q _ (MA pre [.pointer (some ⟨b1, o1, none⟩), .pointer (some ⟨b1, o1, none⟩), .pointer (some ⟨b1, o1 + 3, none⟩), u3, u4, u5, u6, u7, u8] suf d)
  refine mq_val (.slice ka zn kc) hk rfl (by decide) (by simp) (want0 rfl) (fun W hW => x_ldK (MA.hi hk (by decide) rfl) (h3 W hW)) ?_
  show wpQuiet _ _ C Q _ (MA pre [.pointer (some ⟨b1, o1, none⟩), .pointer (some ⟨b1, o1, none⟩), .pointer (some ⟨b1, o1 + 3, none⟩), .slice ka zn kc, u4, u5, u6, u7, u8] suf d)
  refine mq_val (.pointer (some ⟨g0, 6, none⟩)) hk rfl (by decide) (by simp) (want0 rfl) (fun W hW => x_opItem (MA.lo p3)) ?_
  show wpQuiet _ _ C Q _ (MA pre [.pointer (some ⟨b1, o1, none⟩), .pointer (some ⟨b1, o1, none⟩), .pointer (some ⟨b1, o1 + 3, none⟩), .slice ka zn kc, .pointer (some ⟨g0, 6, none⟩), u5, u6, u7, u8] suf d)
  refine mq_val (.pointer (some ⟨g0, 6, none⟩)) hk rfl (by decide) (by simp) (want0 rfl) (fun W hW => x_label (MA.hi hk (by decide) rfl)) ?_
  show wpQuiet _ _ C Q _ (MA pre [.pointer (some ⟨b1, o1, none⟩), .pointer (some ⟨b1, o1, none⟩), .pointer (some ⟨b1, o1 + 3, none⟩), .slice ka zn kc, .pointer (some ⟨g0, 6, none⟩), .pointer (some ⟨g0, 6, none⟩), u6, u7, u8] suf d)
  refine mq_val (.string lab) hk rfl (by decide) (by simp) (want0 rfl) (fun W hW => x_ldS (MA.hi hk (by decide) rfl) (hA W hW)) ?_
  show wpQuiet _ _ C Q _ (MA pre [.pointer (some ⟨b1, o1, none⟩), .pointer (some ⟨b1, o1, none⟩), .pointer (some ⟨b1, o1 + 3, none⟩), .slice ka zn kc, .pointer (some ⟨g0, 6, none⟩), .pointer (some ⟨g0, 6, none⟩), .string lab, u7, u8] suf d)
  refine mq_call 69 #[.slice ka zn kc, .string lab] (.int .i64 n1) hk rfl (by decide) (by simp) (want0 rfl) (fun W hW => x_labld (MA.hi hk (by decide) rfl) (MA.hi hk (by decide) rfl) rfl) (fun W hW => hB W hW) ?_
  show wpQuiet _ _ C Q _ (MA pre [.pointer (some ⟨b1, o1, none⟩), .pointer (some ⟨b1, o1, none⟩), .pointer (some ⟨b1, o1 + 3, none⟩), .slice ka zn kc, .pointer (some ⟨g0, 6, none⟩), .pointer (some ⟨g0, 6, none⟩), .string lab, .int .i64 n1, u8] suf d)
  refine mq_val (.bool same) hk rfl (by decide) (by simp) (want0 rfl) (fun W hW => x_geq (MA.hi hk (by decide) rfl) rfl hs) ?_
  show wpQuiet _ _ C Q _ (MA pre [.pointer (some ⟨b1, o1, none⟩), .pointer (some ⟨b1, o1, none⟩), .pointer (some ⟨b1, o1 + 3, none⟩), .slice ka zn kc, .pointer (some ⟨g0, 6, none⟩), .pointer (some ⟨g0, 6, none⟩), .string lab, .int .i64 n1, .bool same] suf d)
  exact wpQuiet_nil (hQ _ rfl rfl)
def puC0 : Oper := { dst := some 36, op := Op.move (Operand.tmp 5), type := 51, pos := "amend.go:62", after := #[], guard := none }
def puC1 : Oper := { dst := some 37, op := Op.move (Operand.tmp 5), type := 51, pos := "amend.go:62", after := #[], guard := none }
def puC2 : Oper := { dst := some 38, op := Op.nilCheck (Operand.tmp 37), type := 0, pos := "amend.go:62", after := #[{ on := 1, ground := Ground.data }], guard := none }
def puC3 : Oper := { dst := some 39, op := Op.fieldAddr 25 (Operand.tmp 38) 3, type := 0, pos := "amend.go:62", after := #[{ on := 2, ground := Ground.data }], guard := none }
def puC4 : Oper := { dst := some 40, op := Op.load 23 (Operand.tmp 39), type := 23, pos := "amend.go:62", after := #[{ on := 3, ground := Ground.data }], guard := none }
def puC5 : Oper := { dst := some 41, op := Op.move (Operand.tmp 6), type := 3, pos := "amend.go:62", after := #[], guard := none }
def puC6 : Oper := { dst := some 42, op := Op.fieldAddr 46 (Operand.tmp 3) 6, type := 0, pos := "amend.go:62", after := #[], guard := none }
def puC7 : Oper := { dst := some 43, op := Op.load 25 (Operand.tmp 42), type := 25, pos := "amend.go:62", after := #[{ on := 6, ground := Ground.data }], guard := none }
def puC8 : Oper := { dst := some 44, op := Op.buildSlice 23 1 #[(0, Operand.tmp 43)], type := 23, pos := "amend.go:62", after := #[{ on := 7, ground := Ground.data }], guard := none }
def puC9 : Oper := { dst := some 45, op := Op.call { callee := Callee.value (Operand.func 77), args := #[Operand.tmp 40, Operand.tmp 41, Operand.tmp 44], argTypes := #[23, 3, 23] }, type := 23, pos := "amend.go:62", after := #[{ on := 4, ground := Ground.data }, { on := 5, ground := Ground.data }, { on := 8, ground := Ground.data }], guard := none }
def puC10 : Oper := { dst := some 46, op := Op.nilCheck (Operand.tmp 36), type := 0, pos := "amend.go:62", after := #[{ on := 0, ground := Ground.data }, { on := 0, ground := Ground.phase }, { on := 1, ground := Ground.phase }, { on := 2, ground := Ground.phase }, { on := 3, ground := Ground.phase }, { on := 4, ground := Ground.phase }, { on := 5, ground := Ground.phase }, { on := 6, ground := Ground.phase }, { on := 7, ground := Ground.phase }, { on := 8, ground := Ground.phase }, { on := 9, ground := Ground.phase }], guard := none }
def puC11 : Oper := { dst := some 47, op := Op.fieldAddr 25 (Operand.tmp 46) 3, type := 0, pos := "amend.go:62", after := #[{ on := 10, ground := Ground.data }, { on := 0, ground := Ground.phase }, { on := 1, ground := Ground.phase }, { on := 2, ground := Ground.phase }, { on := 3, ground := Ground.phase }, { on := 4, ground := Ground.phase }, { on := 5, ground := Ground.phase }, { on := 6, ground := Ground.phase }, { on := 7, ground := Ground.phase }, { on := 8, ground := Ground.phase }, { on := 9, ground := Ground.phase }], guard := none }
def puC12 : Oper := { dst := none, op := Op.store 23 (Operand.tmp 47) (Operand.tmp 45), type := 0, pos := "amend.go:62", after := #[{ on := 11, ground := Ground.data }, { on := 9, ground := Ground.data }, { on := 9, ground := Ground.chain }, { on := 0, ground := Ground.phase }, { on := 1, ground := Ground.phase }, { on := 2, ground := Ground.phase }, { on := 3, ground := Ground.phase }, { on := 4, ground := Ground.phase }, { on := 5, ground := Ground.phase }, { on := 6, ground := Ground.phase }, { on := 7, ground := Ground.phase }, { on := 8, ground := Ground.phase }, { on := 9, ground := Ground.phase }], guard := none }
def puCL : List Oper := [puC0, puC1, puC2, puC3, puC4, puC5, puC6, puC7, puC8, puC9, puC10, puC11, puC12]
theorem twelve12 {mid : List Value} (h : mid.length = 12) : ∃ u0 u1 u2 u3 u4 u5 u6 u7 u8 u9 u10 u11 : Value, mid = [u0, u1, u2, u3, u4, u5, u6, u7, u8, u9, u10, u11] := by
  match mid, h with
  | [u0, u1, u2, u3, u4, u5, u6, u7, u8, u9, u10, u11], _ => exact ⟨_, _, _, _, _, _, _, _, _, _, _, _, rfl⟩
set_option maxRecDepth 20000 in
theorem puC_go {W0 : World} {Q : Exit → Act → World → Prop} {pre mid suf : List Value} {d : List Deferred} {b1 o1 g0 zn kc ln lc kn kc2 j : Nat} {ka la ka2 : Option Addr} {lab hd : ByteArray} {R : World → Prop} (hk : pre.length = 36) (hm : mid.length = 12) (HP : NoP Q) (p5 : pre[5]? = some (.pointer (some ⟨b1, o1, none⟩))) (p3 : pre[3]? = some (.pointer (some ⟨g0, 0, none⟩))) (p6 : pre[6]? = some (.int .i64 j))
    (hC : ∀ V, Below W0.heap.size W0 V → V.cell? ⟨b1, o1 + 3, none⟩ = some (.slice ka zn kc) ∧ V.cell? ⟨g0, 6, none⟩ = some (.string lab) ∧ V.cell? ⟨g0, 7, none⟩ = some (.string hd) ∧ V.cell? ⟨g0, 8, none⟩ = some (.slice la ln lc) ∧ V.cell? ⟨g0, 9, none⟩ = some (.slice ka2 kn kc2))
    (hI : ∀ V vb, Below W0.heap.size W0 V → V.heap[vb]? = some (.cells #[.string lab, .string hd, .slice la ln lc, .slice ka2 kn kc2] 25 (0, 0)) → W0.heap.size ≤ vb → Calls Tryz.prog 77 #[.slice ka zn kc, .int .i64 j, .slice (some ⟨vb, 0, none⟩) 1 1] V (fun e w' => ∃ a n c, e = .returned (.slice a n c) ∧ StC b1 o1 3 (.slice a n c) w' R))
    (hQ : ∀ m w'', m.length = 12 → R w'' → Q .normal (MA pre m suf d) w'') {V : World} (hV : Below W0.heap.size W0 V) :
    wpLast Tryz.prog .any puCL.toArray Q (fun V => Below W0.heap.size W0 V) [9, 10, 11, 12] 13 (Array.replicate 13 false) (MA pre mid suf d) V := by
  obtain ⟨u0, u1, u2, u3, u4, u5, u6, u7, u8, u9, u10, u11, rfl⟩ := twelve12 hm
  refine ml_free (i := 0) (oi := puC0) (.pointer (some ⟨b1, o1, none⟩)) HP hk rfl rfl (by decide) (by simp) rfl (by kernel_rfl) (by kernel_rfl) (by kernel_rfl) (by kernel_rfl) (fun W => x_move (MA.lo p5)) ?_
  show wpLast _ _ _ _ _ _ _ _ (MA pre [.pointer (some ⟨b1, o1, none⟩), u1, u2, u3, u4, u5, u6, u7, u8, u9, u10, u11] suf d) _
  refine ml_free (i := 1) (oi := puC1) (.pointer (some ⟨b1, o1, none⟩)) HP hk rfl rfl (by decide) (by simp) rfl (by kernel_rfl) (by kernel_rfl) (by kernel_rfl) (by kernel_rfl) (fun W => x_move (MA.lo p5)) ?_
  show wpLast _ _ _ _ _ _ _ _ (MA pre [.pointer (some ⟨b1, o1, none⟩), .pointer (some ⟨b1, o1, none⟩), u2, u3, u4, u5, u6, u7, u8, u9, u10, u11] suf d) _
  refine ml_free (i := 2) (oi := puC2) (.pointer (some ⟨b1, o1, none⟩)) HP hk rfl rfl (by decide) (by simp) rfl (by kernel_rfl) (by kernel_rfl) (by kernel_rfl) (by kernel_rfl) (fun W => x_nil (MA.hi hk (by decide) rfl)) ?_
  show wpLast _ _ _ _ _ _ _ _ (MA pre [.pointer (some ⟨b1, o1, none⟩), .pointer (some ⟨b1, o1, none⟩), .pointer (some ⟨b1, o1, none⟩), u3, u4, u5, u6, u7, u8, u9, u10, u11] suf d) _
  refine ml_free (i := 3) (oi := puC3) (.pointer (some ⟨b1, o1 + 3, none⟩)) HP hk rfl rfl (by decide) (by simp) rfl (by kernel_rfl) (by kernel_rfl) (by kernel_rfl) (by kernel_rfl) (fun W => x_kids (MA.hi hk (by decide) rfl)) ?_
  show wpLast _ _ _ _ _ _ _ _ (MA pre [.pointer (some ⟨b1, o1, none⟩), .pointer (some ⟨b1, o1, none⟩), .pointer (some ⟨b1, o1, none⟩), .pointer (some ⟨b1, o1 + 3, none⟩), u4, u5, u6, u7, u8, u9, u10, u11] suf d) _
  refine ml_take (i := 4) (oi := puC4) (.slice ka zn kc) HP hk rfl rfl (by decide) (by simp) rfl (by kernel_rfl) (by kernel_rfl) (by kernel_rfl) (by kernel_rfl) (by kernel_rfl) hV (fun W hW => x_ldK (MA.hi hk (by decide) rfl) (hC W hW).1) ?_
  show wpLast _ _ _ _ _ _ _ _ (MA pre [.pointer (some ⟨b1, o1, none⟩), .pointer (some ⟨b1, o1, none⟩), .pointer (some ⟨b1, o1, none⟩), .pointer (some ⟨b1, o1 + 3, none⟩), .slice ka zn kc, u5, u6, u7, u8, u9, u10, u11] suf d) _
  refine ml_free (i := 5) (oi := puC5) (.int .i64 j) HP hk rfl rfl (by decide) (by simp) rfl (by kernel_rfl) (by kernel_rfl) (by kernel_rfl) (by kernel_rfl) (fun W => x_move (MA.lo p6)) ?_
  show wpLast _ _ _ _ _ _ _ _ (MA pre [.pointer (some ⟨b1, o1, none⟩), .pointer (some ⟨b1, o1, none⟩), .pointer (some ⟨b1, o1, none⟩), .pointer (some ⟨b1, o1 + 3, none⟩), .slice ka zn kc, .int .i64 j, u6, u7, u8, u9, u10, u11] suf d) _
  refine ml_free (i := 6) (oi := puC6) (.pointer (some ⟨g0, 6, none⟩)) HP hk rfl rfl (by decide) (by simp) rfl (by kernel_rfl) (by kernel_rfl) (by kernel_rfl) (by kernel_rfl) (fun W => x_opItem (MA.lo p3)) ?_
  show wpLast _ _ _ _ _ _ _ _ (MA pre [.pointer (some ⟨b1, o1, none⟩), .pointer (some ⟨b1, o1, none⟩), .pointer (some ⟨b1, o1, none⟩), .pointer (some ⟨b1, o1 + 3, none⟩), .slice ka zn kc, .int .i64 j, .pointer (some ⟨g0, 6, none⟩), u7, u8, u9, u10, u11] suf d) _
  refine ml_take (i := 7) (oi := puC7) (.agg #[.string lab, .string hd, .slice la ln lc, .slice ka2 kn kc2]) HP hk rfl rfl (by decide) (by simp) rfl (by kernel_rfl) (by kernel_rfl) (by kernel_rfl) (by kernel_rfl) (by kernel_rfl) hV (fun W hW => x_ldItem (MA.hi hk (by decide) rfl) (hC W hW).2.1 (hC W hW).2.2.1 (hC W hW).2.2.2.1 (hC W hW).2.2.2.2) ?_
  show wpLast _ _ _ _ _ _ _ _ (MA pre [.pointer (some ⟨b1, o1, none⟩), .pointer (some ⟨b1, o1, none⟩), .pointer (some ⟨b1, o1, none⟩), .pointer (some ⟨b1, o1 + 3, none⟩), .slice ka zn kc, .int .i64 j, .pointer (some ⟨g0, 6, none⟩), .agg #[.string lab, .string hd, .slice la ln lc, .slice ka2 kn kc2], u8, u9, u10, u11] suf d) _
  refine wpLast_all (rs := [8]) (by kernel_rfl) (by simp) fun j' hj' => ?_
  obtain rfl : j' = 8 := by simpa using hj'
  refine wpOp_val (o := puC8) rfl rfl (x_build1 (lab := lab) (hd := hd) (la := la) (ln := ln) (lc := lc) (ka2 := ka2) (kn := kn) (kc2 := kc2) (MA.hi hk (by decide) rfl)) ⟨fun _ => .inr (hV.alloc hV.size _), ?_⟩
  rw [show (MA pre [.pointer (some ⟨b1, o1, none⟩), .pointer (some ⟨b1, o1, none⟩), .pointer (some ⟨b1, o1, none⟩), .pointer (some ⟨b1, o1 + 3, none⟩), .slice ka zn kc, .int .i64 j, .pointer (some ⟨g0, 6, none⟩), .agg #[.string lab, .string hd, .slice la ln lc, .slice ka2 kn kc2], u8, u9, u10, u11] suf d).put puC8.dst (.slice (some ⟨V.heap.size, 0, none⟩) 1 1) = MA pre [.pointer (some ⟨b1, o1, none⟩), .pointer (some ⟨b1, o1, none⟩), .pointer (some ⟨b1, o1, none⟩), .pointer (some ⟨b1, o1 + 3, none⟩), .slice ka zn kc, .int .i64 j, .pointer (some ⟨g0, 6, none⟩), .agg #[.string lab, .string hd, .slice la ln lc, .slice ka2 kn kc2], .slice (some ⟨V.heap.size, 0, none⟩) 1 1, u9, u10, u11] suf d from MA.put hk (by decide) (by simp)]
  refine wpLast_all (rs := [9]) (by kernel_rfl) (by simp) fun j' hj' => ?_
  obtain rfl : j' = 9 := by simpa using hj'
  have hvA := heap_alloc_new V (.cells #[.string lab, .string hd, .slice la ln lc, .slice ka2 kn kc2] 25)
  refine wpOp_call (o := puC9) rfl rfl (x_insert (MA.hi hk (by decide) rfl) (MA.hi hk (by decide) rfl) (MA.hi hk (by decide) rfl) rfl) (hI _ V.heap.size (hV.alloc hV.size _) hvA hV.size) ?_
  rintro e V1 ⟨ra, rn, rc, rfl, hst⟩
  refine ⟨_, rfl, fun _ => .inl (by decide), ?_⟩
  rw [show (MA pre [.pointer (some ⟨b1, o1, none⟩), .pointer (some ⟨b1, o1, none⟩), .pointer (some ⟨b1, o1, none⟩), .pointer (some ⟨b1, o1 + 3, none⟩), .slice ka zn kc, .int .i64 j, .pointer (some ⟨g0, 6, none⟩), .agg #[.string lab, .string hd, .slice la ln lc, .slice ka2 kn kc2], .slice (some ⟨V.heap.size, 0, none⟩) 1 1, u9, u10, u11] suf d).put puC9.dst (.slice ra rn rc) = MA pre [.pointer (some ⟨b1, o1, none⟩), .pointer (some ⟨b1, o1, none⟩), .pointer (some ⟨b1, o1, none⟩), .pointer (some ⟨b1, o1 + 3, none⟩), .slice ka zn kc, .int .i64 j, .pointer (some ⟨g0, 6, none⟩), .agg #[.string lab, .string hd, .slice la ln lc, .slice ka2 kn kc2], .slice (some ⟨V.heap.size, 0, none⟩) 1 1, .slice ra rn rc, u10, u11] suf d from MA.put hk (by decide) (by simp)]
  refine wpLast_all (rs := [10]) (by kernel_rfl) (by simp) fun j' hj' => ?_
  obtain rfl : j' = 10 := by simpa using hj'
  refine wpOp_val (o := puC10) rfl rfl (x_nil (q := ⟨b1, o1, none⟩) (MA.hi hk (by decide) rfl)) ⟨fun _ => .inl (by decide), ?_⟩
  rw [show (MA pre [.pointer (some ⟨b1, o1, none⟩), .pointer (some ⟨b1, o1, none⟩), .pointer (some ⟨b1, o1, none⟩), .pointer (some ⟨b1, o1 + 3, none⟩), .slice ka zn kc, .int .i64 j, .pointer (some ⟨g0, 6, none⟩), .agg #[.string lab, .string hd, .slice la ln lc, .slice ka2 kn kc2], .slice (some ⟨V.heap.size, 0, none⟩) 1 1, .slice ra rn rc, u10, u11] suf d).put puC10.dst (.pointer (some ⟨b1, o1, none⟩)) = MA pre [.pointer (some ⟨b1, o1, none⟩), .pointer (some ⟨b1, o1, none⟩), .pointer (some ⟨b1, o1, none⟩), .pointer (some ⟨b1, o1 + 3, none⟩), .slice ka zn kc, .int .i64 j, .pointer (some ⟨g0, 6, none⟩), .agg #[.string lab, .string hd, .slice la ln lc, .slice ka2 kn kc2], .slice (some ⟨V.heap.size, 0, none⟩) 1 1, .slice ra rn rc, .pointer (some ⟨b1, o1, none⟩), u11] suf d from MA.put hk (by decide) (by simp)]
  refine wpLast_all (rs := [11]) (by kernel_rfl) (by simp) fun j' hj' => ?_
  obtain rfl : j' = 11 := by simpa using hj'
  refine wpOp_val (o := puC11) rfl rfl (x_kids (b := b1) (o := o1) (MA.hi hk (by decide) rfl)) ⟨fun _ => .inl (by decide), ?_⟩
  rw [show (MA pre [.pointer (some ⟨b1, o1, none⟩), .pointer (some ⟨b1, o1, none⟩), .pointer (some ⟨b1, o1, none⟩), .pointer (some ⟨b1, o1 + 3, none⟩), .slice ka zn kc, .int .i64 j, .pointer (some ⟨g0, 6, none⟩), .agg #[.string lab, .string hd, .slice la ln lc, .slice ka2 kn kc2], .slice (some ⟨V.heap.size, 0, none⟩) 1 1, .slice ra rn rc, .pointer (some ⟨b1, o1, none⟩), u11] suf d).put puC11.dst (.pointer (some ⟨b1, o1 + 3, none⟩)) = MA pre [.pointer (some ⟨b1, o1, none⟩), .pointer (some ⟨b1, o1, none⟩), .pointer (some ⟨b1, o1, none⟩), .pointer (some ⟨b1, o1 + 3, none⟩), .slice ka zn kc, .int .i64 j, .pointer (some ⟨g0, 6, none⟩), .agg #[.string lab, .string hd, .slice la ln lc, .slice ka2 kn kc2], .slice (some ⟨V.heap.size, 0, none⟩) 1 1, .slice ra rn rc, .pointer (some ⟨b1, o1, none⟩), .pointer (some ⟨b1, o1 + 3, none⟩)] suf d from MA.put hk (by decide) (by simp)]
  refine wpLast_all (rs := [12]) (by kernel_rfl) (by simp) fun j' hj' => ?_
  obtain rfl : j' = 12 := by simpa using hj'
  obtain ⟨old, ho⟩ := hst.cell
  refine wpOp_skip (o := puC12) rfl rfl (x_stK (b := b1) (o := o1 + 3) (p := ra) (n := rn) (c := rc) (MA.hi hk (by decide) rfl) (MA.hi hk (by decide) rfl) ho hst.frz) ⟨fun _ => .inl (by decide), ?_⟩
  exact wpLast_done (by kernel_rfl) (hQ _ _ rfl (hst.fin _ rfl rfl rfl rfl)) _
def puD0 : Oper := { dst := some 55, op := Op.move (Operand.tmp 5), type := 51, pos := "amend.go:67", after := #[], guard := none }
def puD1 : Oper := { dst := some 56, op := Op.nilCheck (Operand.tmp 55), type := 0, pos := "amend.go:67", after := #[{ on := 0, ground := Ground.data }], guard := none }
def puD2 : Oper := { dst := some 57, op := Op.fieldAddr 25 (Operand.tmp 56) 3, type := 0, pos := "amend.go:67", after := #[{ on := 1, ground := Ground.data }], guard := none }
def puD3 : Oper := { dst := some 58, op := Op.load 23 (Operand.tmp 57), type := 23, pos := "amend.go:67", after := #[{ on := 2, ground := Ground.data }], guard := none }
def puD4 : Oper := { dst := some 59, op := Op.move (Operand.tmp 6), type := 3, pos := "amend.go:67", after := #[], guard := none }
def puD5 : Oper := { dst := some 60, op := Op.fieldAddr 46 (Operand.tmp 3) 6, type := 0, pos := "amend.go:67", after := #[], guard := none }
def puD6 : Oper := { dst := some 61, op := Op.load 25 (Operand.tmp 60), type := 25, pos := "amend.go:67", after := #[{ on := 5, ground := Ground.data }], guard := none }
def puD7 : Oper := { dst := some 62, op := Op.call { callee := Callee.value (Operand.func 17), args := #[Operand.tmp 61], argTypes := #[25] }, type := 25, pos := "amend.go:67", after := #[{ on := 6, ground := Ground.data }], guard := none }
def puD8 : Oper := { dst := some 63, op := Op.indexAddr 23 (Operand.tmp 58) (Operand.tmp 59), type := 0, pos := "amend.go:67", after := #[{ on := 3, ground := Ground.data }, { on := 4, ground := Ground.data }, { on := 0, ground := Ground.phase }, { on := 1, ground := Ground.phase }, { on := 2, ground := Ground.phase }, { on := 3, ground := Ground.phase }, { on := 4, ground := Ground.phase }, { on := 5, ground := Ground.phase }, { on := 6, ground := Ground.phase }, { on := 7, ground := Ground.phase }], guard := none }
def puD9 : Oper := { dst := none, op := Op.store 25 (Operand.tmp 63) (Operand.tmp 62), type := 0, pos := "amend.go:67", after := #[{ on := 8, ground := Ground.data }, { on := 7, ground := Ground.data }, { on := 7, ground := Ground.chain }, { on := 0, ground := Ground.phase }, { on := 1, ground := Ground.phase }, { on := 2, ground := Ground.phase }, { on := 3, ground := Ground.phase }, { on := 4, ground := Ground.phase }, { on := 5, ground := Ground.phase }, { on := 6, ground := Ground.phase }, { on := 7, ground := Ground.phase }], guard := none }
def puDL : List Oper := [puD0, puD1, puD2, puD3, puD4, puD5, puD6, puD7, puD8, puD9]
theorem nine9b {mid : List Value} (h : mid.length = 9) : ∃ u0 u1 u2 u3 u4 u5 u6 u7 u8 : Value, mid = [u0, u1, u2, u3, u4, u5, u6, u7, u8] := by
  match mid, h with
  | [u0, u1, u2, u3, u4, u5, u6, u7, u8], _ => exact ⟨_, _, _, _, _, _, _, _, _, rfl⟩
theorem Own.bel {w : World} {B B' : Nat} {v : Nat → Value} {t : It} {S : Nat → Prop} (h : Own w B v t S) (hB : B' ≤ B) : Own w B' v t S := by
  induction h with
  | mk v t K T S h0 h1 ln kd sl sk hr hT hd hS ih =>
    refine .mk v t K T S h0 h1 ⟨ln.1, ln.2.imp (fun h => h) ?_⟩ ⟨kd.1, kd.2.imp (fun h => h) ?_⟩ sl sk ih hT hd fun q hq => ⟨Nat.le_trans hB (hS q hq).1, (hS q hq).2⟩
    · rintro ⟨g, cap, cur, e, h1, h2⟩; exact ⟨g, cap, cur, e, Nat.le_trans hB h1, h2⟩
    · rintro ⟨g, cap, cur, e, h1, h2⟩; exact ⟨g, cap, cur, e, Nat.le_trans hB h1, h2⟩
set_option maxRecDepth 20000 in
theorem puD_go {W0 : World} {Q : Exit → Act → World → Prop} {pre mid suf : List Value} {d : List Deferred} {b1 o1 g0 g zn kc ln lc kn kc2 j : Nat} {k : It} {la ka2 : Option Addr} {lab hd : ByteArray} (hk : pre.length = 55) (hm : mid.length = 9) (HP : NoP Q) (p5 : pre[5]? = some (.pointer (some ⟨b1, o1, none⟩))) (p3 : pre[3]? = some (.pointer (some ⟨g0, 0, none⟩))) (p6 : pre[6]? = some (.int .i64 j))
    (hC : ∀ V, Below W0.heap.size W0 V → V.cell? ⟨b1, o1 + 3, none⟩ = some (.slice (some ⟨g, 0, none⟩) zn kc) ∧ V.cell? ⟨g0, 6, none⟩ = some (.string lab) ∧ V.cell? ⟨g0, 7, none⟩ = some (.string hd) ∧ V.cell? ⟨g0, 8, none⟩ = some (.slice la ln lc) ∧ V.cell? ⟨g0, 9, none⟩ = some (.slice ka2 kn kc2)) (hj : j < zn)
    (hI : ∀ V, Below W0.heap.size W0 V → Calls Tryz.prog 17 #[.agg #[.string lab, .string hd, .slice la ln lc, .slice ka2 kn kc2]] V (fun e w' => ∃ y Ty, e = .returned (.agg #[y 0, y 1, y 2, y 3]) ∧ Own w' V.heap.size y k Ty ∧ Below V.heap.size V w'))
    (hPl : ∀ V, Below W0.heap.size W0 V → (∃ u, V.cell? ⟨g, j * 4, none⟩ = some u) ∧ (∃ u, V.cell? ⟨g, j * 4 + 1, none⟩ = some u) ∧ (∃ u, V.cell? ⟨g, j * 4 + 2, none⟩ = some u) ∧ (∃ u, V.cell? ⟨g, j * 4 + 3, none⟩ = some u)) (hFz : ∀ V, Below W0.heap.size W0 V → ∀ i, V.frozen? ⟨g, i, none⟩ = false)
    (hQ : ∀ m w'' V1 y Ty, m.length = 9 → Below W0.heap.size W0 V1 → Own V1 W0.heap.size y k Ty → Put4 V1 w'' g (j * 4) y → (∀ q, Ty q → W0.heap.size ≤ q) → Q .normal (MA pre m suf d) w'') {V : World} (hV : Below W0.heap.size W0 V) :
    wpLast Tryz.prog .any puDL.toArray Q (fun V => Below W0.heap.size W0 V) [9] 10 (Array.replicate 10 false) (MA pre mid suf d) V := by
  obtain ⟨u0, u1, u2, u3, u4, u5, u6, u7, u8, rfl⟩ := nine9b hm
  refine ml_free (i := 0) (oi := puD0) (.pointer (some ⟨b1, o1, none⟩)) HP hk rfl rfl (by decide) (by simp) rfl (by kernel_rfl) (by kernel_rfl) (by kernel_rfl) (by kernel_rfl) (fun W => x_move (MA.lo p5)) ?_
  show wpLast _ _ _ _ _ _ _ _ (MA pre [.pointer (some ⟨b1, o1, none⟩), u1, u2, u3, u4, u5, u6, u7, u8] suf d) _
  refine ml_free (i := 1) (oi := puD1) (.pointer (some ⟨b1, o1, none⟩)) HP hk rfl rfl (by decide) (by simp) rfl (by kernel_rfl) (by kernel_rfl) (by kernel_rfl) (by kernel_rfl) (fun W => x_nil (MA.hi hk (by decide) rfl)) ?_
  show wpLast _ _ _ _ _ _ _ _ (MA pre [.pointer (some ⟨b1, o1, none⟩), .pointer (some ⟨b1, o1, none⟩), u2, u3, u4, u5, u6, u7, u8] suf d) _
  refine ml_free (i := 2) (oi := puD2) (.pointer (some ⟨b1, o1 + 3, none⟩)) HP hk rfl rfl (by decide) (by simp) rfl (by kernel_rfl) (by kernel_rfl) (by kernel_rfl) (by kernel_rfl) (fun W => x_kids (MA.hi hk (by decide) rfl)) ?_
  show wpLast _ _ _ _ _ _ _ _ (MA pre [.pointer (some ⟨b1, o1, none⟩), .pointer (some ⟨b1, o1, none⟩), .pointer (some ⟨b1, o1 + 3, none⟩), u3, u4, u5, u6, u7, u8] suf d) _
  refine ml_take (i := 3) (oi := puD3) (.slice (some ⟨g, 0, none⟩) zn kc) HP hk rfl rfl (by decide) (by simp) rfl (by kernel_rfl) (by kernel_rfl) (by kernel_rfl) (by kernel_rfl) (by kernel_rfl) hV (fun W hW => x_ldK (MA.hi hk (by decide) rfl) (hC W hW).1) ?_
  show wpLast _ _ _ _ _ _ _ _ (MA pre [.pointer (some ⟨b1, o1, none⟩), .pointer (some ⟨b1, o1, none⟩), .pointer (some ⟨b1, o1 + 3, none⟩), .slice (some ⟨g, 0, none⟩) zn kc, u4, u5, u6, u7, u8] suf d) _
  refine ml_free (i := 4) (oi := puD4) (.int .i64 j) HP hk rfl rfl (by decide) (by simp) rfl (by kernel_rfl) (by kernel_rfl) (by kernel_rfl) (by kernel_rfl) (fun W => x_move (MA.lo p6)) ?_
  show wpLast _ _ _ _ _ _ _ _ (MA pre [.pointer (some ⟨b1, o1, none⟩), .pointer (some ⟨b1, o1, none⟩), .pointer (some ⟨b1, o1 + 3, none⟩), .slice (some ⟨g, 0, none⟩) zn kc, .int .i64 j, u5, u6, u7, u8] suf d) _
  refine ml_free (i := 5) (oi := puD5) (.pointer (some ⟨g0, 6, none⟩)) HP hk rfl rfl (by decide) (by simp) rfl (by kernel_rfl) (by kernel_rfl) (by kernel_rfl) (by kernel_rfl) (fun W => x_opItem (MA.lo p3)) ?_
  show wpLast _ _ _ _ _ _ _ _ (MA pre [.pointer (some ⟨b1, o1, none⟩), .pointer (some ⟨b1, o1, none⟩), .pointer (some ⟨b1, o1 + 3, none⟩), .slice (some ⟨g, 0, none⟩) zn kc, .int .i64 j, .pointer (some ⟨g0, 6, none⟩), u6, u7, u8] suf d) _
  refine ml_take (i := 6) (oi := puD6) (.agg #[.string lab, .string hd, .slice la ln lc, .slice ka2 kn kc2]) HP hk rfl rfl (by decide) (by simp) rfl (by kernel_rfl) (by kernel_rfl) (by kernel_rfl) (by kernel_rfl) (by kernel_rfl) hV (fun W hW => x_ldItem (MA.hi hk (by decide) rfl) (hC W hW).2.1 (hC W hW).2.2.1 (hC W hW).2.2.2.1 (hC W hW).2.2.2.2) ?_
  show wpLast _ _ _ _ _ _ _ _ (MA pre [.pointer (some ⟨b1, o1, none⟩), .pointer (some ⟨b1, o1, none⟩), .pointer (some ⟨b1, o1 + 3, none⟩), .slice (some ⟨g, 0, none⟩) zn kc, .int .i64 j, .pointer (some ⟨g0, 6, none⟩), .agg #[.string lab, .string hd, .slice la ln lc, .slice ka2 kn kc2], u7, u8] suf d) _
  refine wpLast_all (rs := [7]) (by kernel_rfl) (by simp) fun j' hj' => ?_
  obtain rfl : j' = 7 := by simpa using hj'
  refine wpOp_call (o := puD7) rfl rfl (x_copy (MA.hi hk (by decide) rfl) rfl) (hI V hV) ?_
  rintro e V1 ⟨y, Ty, rfl, hy, hb1⟩
  obtain ⟨y0, y1, ⟨yl, ylc, y2⟩, yk, ykc, y3⟩ := hy.lies.forms
  have hV1 := hV.trans (hb1.mono hV.size)
  refine ⟨_, rfl, fun _ => .inr hV1, ?_⟩
  rw [show (MA pre [.pointer (some ⟨b1, o1, none⟩), .pointer (some ⟨b1, o1, none⟩), .pointer (some ⟨b1, o1 + 3, none⟩), .slice (some ⟨g, 0, none⟩) zn kc, .int .i64 j, .pointer (some ⟨g0, 6, none⟩), .agg #[.string lab, .string hd, .slice la ln lc, .slice ka2 kn kc2], u7, u8] suf d).put puD7.dst (.agg #[y 0, y 1, y 2, y 3]) = MA pre [.pointer (some ⟨b1, o1, none⟩), .pointer (some ⟨b1, o1, none⟩), .pointer (some ⟨b1, o1 + 3, none⟩), .slice (some ⟨g, 0, none⟩) zn kc, .int .i64 j, .pointer (some ⟨g0, 6, none⟩), .agg #[.string lab, .string hd, .slice la ln lc, .slice ka2 kn kc2], .agg #[y 0, y 1, y 2, y 3], u8] suf d from MA.put hk (by decide) (by simp)]
  refine wpLast_all (rs := [8]) (by kernel_rfl) (by simp) fun j' hj' => ?_
  obtain rfl : j' = 8 := by simpa using hj'
  refine wpOp_val (o := puD8) rfl rfl (x_idx (MA.hi hk (by decide) rfl) (MA.hi hk (by decide) rfl) hj) ⟨fun _ => .inr hV1, ?_⟩
  rw [show (MA pre [.pointer (some ⟨b1, o1, none⟩), .pointer (some ⟨b1, o1, none⟩), .pointer (some ⟨b1, o1 + 3, none⟩), .slice (some ⟨g, 0, none⟩) zn kc, .int .i64 j, .pointer (some ⟨g0, 6, none⟩), .agg #[.string lab, .string hd, .slice la ln lc, .slice ka2 kn kc2], .agg #[y 0, y 1, y 2, y 3], u8] suf d).put puD8.dst (.pointer (some ⟨g, j * 4, none⟩)) = MA pre [.pointer (some ⟨b1, o1, none⟩), .pointer (some ⟨b1, o1, none⟩), .pointer (some ⟨b1, o1 + 3, none⟩), .slice (some ⟨g, 0, none⟩) zn kc, .int .i64 j, .pointer (some ⟨g0, 6, none⟩), .agg #[.string lab, .string hd, .slice la ln lc, .slice ka2 kn kc2], .agg #[y 0, y 1, y 2, y 3], .pointer (some ⟨g, j * 4, none⟩)] suf d from MA.put hk (by decide) (by simp)]
  refine wpLast_all (rs := [9]) (by kernel_rfl) (by simp) fun j' hj' => ?_
  obtain rfl : j' = 9 := by simpa using hj'
  obtain ⟨⟨x0, c0⟩, ⟨x1, c1⟩, ⟨x2, c2⟩, ⟨x3, c3⟩⟩ := hPl V1 hV1
  refine wpOp_skip (o := puD9) rfl rfl (x_stItem (v := y) (MA.hi hk (by decide) rfl) (MA.hi hk (by decide) rfl) y0 y1 y2 y3 c0 c1 c2 c3 (hFz V1 hV1 _) (hFz V1 hV1 _) (hFz V1 hV1 _) (hFz V1 hV1 _)) ⟨fun _ => .inl (by decide), ?_⟩
  exact wpLast_done (by kernel_rfl) (hQ _ _ V1 y Ty rfl hV1 (hy.bel (hV.size)) (put4 V1 g (j * 4) y) (fun q hq => Nat.le_trans hV.size (hy.in q hq).1)) _
end Go.Proofs.YtpbolcjcmkmalaaGreatDoor
