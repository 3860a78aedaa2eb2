/-
  Package reason: rules laid aside, in memory; the function that lays one aside.
-/
import Derived.Test.YtpijiglmjkdlgaaDoorOrPl
namespace Go.Proofs.YtpijiglmjkdlgaaDoor
open Go.RowKit

def intsV (l : List Nat) : List Value := l.map (fun (i : Nat) => Value.int .i64 (i : Int))
theorem intsV_app (a b : List Nat) : intsV (a ++ b) = intsV a ++ intsV b := by unfold intsV; rw [List.map_append]
theorem Tryd.infoIn : ∃ i z, Tryd.prog.info? 3 = some i ∧ i.zero = some z ∧ i.size = 1 ∧ i.bytes = 8 ∧ z.cells.size = 1 := by
  have h : (Tryd.prog.info? 3).map (fun i => (i.zero, i.size, i.bytes)) = some (some (.int .i64 0), 1, 8) := by kernel_rfl
  obtain ⟨i, h1, h2⟩ := Option.map_eq_some_iff.1 h
  simp only [Prod.mk.injEq] at h2
  exact ⟨i, _, h1, h2.1, h2.2.1, h2.2.2, rfl⟩
/-- A number more, behind the others. -/
theorem wpList_push_nat {W : World} {ops : Array Oper} {rest : List Oper} {o : Oper} {a : Act} {Q : Exit → Act → World → Prop} (hgd : o.guard = none) (s x : Operand)
    (ho : o.op = .call { callee := .builtin .append, args := #[s, x], argTypes := #[58, 58] }) (B : Nat) (v : Value) (zs : List Nat) (n : Nat) (hs : a.eval s = v) (hown : W.ownsRow B 3 1 v zs.length (intsV zs))
    (hx : a.eval x = .slice (some ⟨W.heap.size, 0, none⟩) 1 1) (hB : B ≤ W.heap.size) (hl : zs.length ≤ 100000)
    (h : ∀ v' w', w'.ownsRow B 3 1 v' (zs ++ [n]).length (intsV (zs ++ [n])) → (W.alloc (.cells #[.int .i64 (n : Int)] 3)).grownBy w' v.ownBlock → wpList Tryd.prog ops Q rest (a.put o.dst v') w') : wpList Tryd.prog ops Q (o :: rest) a (W.alloc (.cells #[.int .i64 (n : Int)] 3)) := by
  obtain ⟨i0, z, h1, h2, h3, h4, h5⟩ := Tryd.infoIn
  have hn : ∀ (j : Nat) (u : Value), [Value.int .i64 (n : Int)][j]? = some u → (W.alloc (.cells #[.int .i64 (n : Int)] 3)).cell? ((⟨W.heap.size, 0, none⟩ : Addr).add j) = some u := fun j u hj => alloc_cellO W [.int .i64 (n : Int)] 3 j u hj
  have hone : ∀ u ∈ [Value.int .i64 (n : Int)], u.oneCell' = true := by intro u hu; simp at hu; subst hu; rfl
  refine wpList_append_own _ hgd s x 58 ho B 3 i0 z 1 8 Tryd.underlying58 h1 h2 h3 h4 h5 (by decide) v zs.length (intsV zs) hs (World.ownsRow.alloc hown _) ⟨W.heap.size, 0, none⟩ 1 1 [.int .i64 (n : Int)] hx rfl hn hone (by unfold maxLen; omega) (by omega) (by first | (simp; done) | (simp; omega) | omega) ?_
  intro v' w' hown' hgrow _
  refine h v' w' ?_ hgrow
  rw [List.length_append, intsV_app]
  exact hown'
/-- Rules laid aside: how many are above (b4, by c3), which are below (b5), which are aside (by c7). -/
structure Od (w0 : World) (c3 b4 b5 c7 R : Nat) (v : Nat → Value) (l : Nat → List Nat) (w : World) (lf : Nat → Int) (sd : List Nat) : Prop where
  left : w.rowIs b4 3 R (fun j => .int .i64 (lf j))
  cel : w.heap[c3]? = some (.cells #[.slice (some ⟨b4, 0, none⟩) R R] 58 (0, 0))
  blw : w.rowIs b5 58 R v
  rows : ∀ k, k < R → ∃ a c, v k = .slice a (l k).length c ∧ ∀ (j x : Nat), (l k)[j]? = some x → ∃ g, a = some ⟨g, 0, none⟩ ∧ b5 < g ∧ g < c7 ∧ w.cell? ⟨g, j, none⟩ = some (.int .i64 (x : Int))
  asd : ∃ sv, w.heap[c7]? = some (.cells #[sv] 58 (0, 0)) ∧ w.ownsRow (c7 + 1) 3 1 sv sd.length (intsV sd)
  o1 : w0.heap.size ≤ b4
  o2 : b4 < c3
  o3 : c3 < b5
  o4 : b5 < c7
  bel : Below w0.heap.size w0 w
theorem Od.dec {w0 : World} {c3 b4 b5 c7 R : Nat} {v : Nat → Value} {l : Nat → List Nat} {w : World} {lf lf' : Nat → Int} {sd : List Nat} (h : Od w0 c3 b4 b5 c7 R v l w lf sd) (r : Nat) (u : Int) (hl : ∀ j, lf' j = if j = r then u else lf j) : Od w0 c3 b4 b5 c7 R v l (w.setCell ⟨b4, r, none⟩ (.int .i64 u)) lf' sd := by
  have h1 := h.o1
  have h2 := h.o2
  have h3 := h.o3
  have h4 := h.o4
  have hb : ∀ b, b ≠ b4 → (w.setCell ⟨b4, r, none⟩ (.int .i64 u)).heap[b]? = w.heap[b]? := fun b hb => Below.heap_setCell _ _ _ _ hb
  obtain ⟨sv, a1, a2⟩ := h.asd
  refine ⟨(h.left.set r _).congr fun j _ => ?_, (hb c3 (by omega)).trans h.cel, h.blw.of_block (hb b5 (by omega)), fun k hk => ?_, ⟨sv, (hb c7 (by omega)).trans a1, row_stepO a2 fun g hg _ => hb g (by have := (row_blkO a2 hg).1; omega)⟩, h.o1, h.o2, h.o3, h.o4, h.bel.setCell (p := ⟨b4, r, none⟩) h1 _⟩
  · show (if j = r then Value.int .i64 u else .int .i64 (lf j)) = .int .i64 (lf' j)
    rw [hl j]
    split <;> rfl
  · obtain ⟨a, c, e, hx⟩ := h.rows k hk
    refine ⟨a, c, e, fun j x hj => ?_⟩
    obtain ⟨g, e1, e2, e3, e4⟩ := hx j x hj
    exact ⟨g, e1, e2, e3, (World.cell?_of_block (a := ⟨g, j, none⟩) (hb g (by omega))).trans e4⟩
set_option maxHeartbeats 1000000 in
theorem lay_p {w0 : World} {c3 b4 b5 c7 R : Nat} {v : Nat → Value} {l : Nat → List Nat} {w : World} {lf : Nat → Int} {sd : List Nat} (h : Od w0 c3 b4 b5 c7 R v l w lf sd) {r : Nat} (hr : r < R) (hs : sd.length ≤ 100000) :
    Calls Tryd.prog 55 #[.int .i64 (r : Int), .pointer (some ⟨c3, 0, none⟩), .pointer (some ⟨c7, 0, none⟩)] w fun e w' => e = .returned (.tuple #[]) ∧ Od w0 c3 b4 b5 c7 R v l w' lf (layA sd lf r) := by
  obtain ⟨sv, a1, a2⟩ := h.asd
  have x0 : w.cell? ⟨c3, 0, none⟩ = some (.slice (some ⟨b4, 0, none⟩) R R) := by simp [World.cell?, h.cel]
  have x1 := h.left.cell hr
  have x2 : w.cell? ⟨c7, 0, none⟩ = some sv := by simp [World.cell?, a1]
  have x3 : w.frozen? ⟨c7, 0, none⟩ = false := by simp [World.frozen?, a1]
  obtain ⟨sa, sc, hsv⟩ := row_anyO a2
  have hrz : (r : Int) < R := by omega
  have hl7 := blk_ltO a1
  have h1 := h.o1
  have h2 := h.o2
  have h3 := h.o3
  have h4 := h.o4
  have HH := hidLLO (And.intro h a2)
  have HL : Hid (layA sd lf r = if lf r = 0 then sd ++ [r] else sd) := rfl
  have HE : Hid (w.heap[c7]? = some (.cells #[sv] 58 (0, 0))) := a1
  generalize layA sd lf r = Z at *
  generalize lf r = k at *
  clear h a1 a2
  subst hsv
  by_cases hk : k = 0
  · subst hk
    have HZ : Hid (Z = sd ++ [r]) := HL.out
    go_enter Tryd.func55, Tryd.ntmps55
    go_wp2_with (first
      | (at_builtin; refine wpList_push_nat rfl _ _ rfl (c7 + 1) (.slice sa sd.length sc) sd r rfl HH.out.2 (by simp [Act.eval]) (by omega) hs ?_; intro v' w8 ho hg; have hk7 : w8.heap[c7]? = w.heap[c7]? := (by
          rw [hg.block c7 (by first | (simp; done) | (simp; omega) | omega) (fun e => by have := (row_blkO HH.out.2 e.symm).1; omega)]
          exact Below.heap_alloc w _ c7 hl7); have y2 := (World.cell?_of_block (a := ⟨c7, 0, none⟩) hk7).trans x2; have y3 := (World.frozen?_of_block (a := ⟨c7, 0, none⟩) hk7).trans x3; obtain ⟨a', c', hv'⟩ := row_anyO ho; subst hv'; have HO := hidLLO (And.intro ho (And.intro hg hk7)); clear ho hg hk7)
      | go_in)
    go_end0
    obtain ⟨ho, hg, hk7⟩ := HO.out
    have hle : (sd ++ [r]).length = sd.length + 1 := by simp
    rw [hle] at ho
    have hkeep : ∀ b, b < w.heap.size → b ≤ c7 → w8.heap[b]? = w.heap[b]? := fun b hb hc => by
      rw [hg.block b (by first | (simp; done) | (simp; omega) | omega) (fun e => by have := (row_blkO HH.out.2 e.symm).1; omega)]
      exact Below.heap_alloc w _ b hb
    have hset : ∀ b, b ≠ c7 → (w8.setCell ⟨c7, 0, none⟩ (.slice a' (sd.length + 1) c')).heap[b]? = w8.heap[b]? := fun b hb => Below.heap_setCell _ _ _ _ hb
    obtain ⟨hO, _⟩ := HH.out
    refine ⟨rfl, ?_⟩
    rw [HZ.out]
    refine ⟨hO.left.of_block ((hset b4 (by omega)).trans (hkeep b4 hO.left.lt (by omega))), ((hset c3 (by omega)).trans (hkeep c3 (blk_ltO hO.cel) (by omega))).trans hO.cel, hO.blw.of_block ((hset b5 (by omega)).trans (hkeep b5 hO.blw.lt (by omega))), fun k hk => ?_, ⟨_, one_setCell (hk7.trans HE.out), by rw [hle]; exact row_stepO ho fun g hg' _ => hset g (by have := (row_blkO ho hg').1; omega)⟩, hO.o1, hO.o2, hO.o3, hO.o4, ?_⟩
    · obtain ⟨a, c, e, hx⟩ := hO.rows k hk
      refine ⟨a, c, e, fun j x hj => ?_⟩
      obtain ⟨g, e1, e2, e3, e4⟩ := hx j x hj
      exact ⟨g, e1, e2, e3, (World.cell?_of_block (a := ⟨g, j, none⟩) ((hset g (by omega)).trans (hkeep g (cell_ltO e4) (by omega)))).trans e4⟩
    · have hb2 : Below w0.heap.size w0 w8 := by
        refine ⟨hg.os.trans hO.bel.os, hg.tape.trans hO.bel.tape, hg.output.trans hO.bel.output, Nat.le_trans hO.bel.size (Nat.le_trans (by simp) hg.size), fun b hb => ?_⟩
        rw [hkeep b (by have := hO.bel.size; omega) (by omega)]
        exact hO.bel.block b hb
      exact hb2.setCell (p := ⟨c7, 0, none⟩) (by show _ ≤ c7; omega) _
  · have HZ : Hid (Z = sd) := by
      have := HL.out
      rw [if_neg hk] at this
      exact this
    go_enter Tryd.func55, Tryd.ntmps55
    go_wp2
    first | go_end0 | ((try simp only [Exit.inBlock, Exit.then]); refine bodyPost_ret (results_none rfl _ _ _) rfl ?_)
    exact ⟨rfl, by rw [HZ.out]; exact HH.out.1⟩
end Go.Proofs.YtpijiglmjkdlgaaDoor
