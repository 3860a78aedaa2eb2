/-
  The reference's Row behind a provision: the law, the way. No walk.
-/
import Derived.Test.YtgfaeeacndpniaaGreatDoorPutP2
import Derived.Test.YtgfaeeacndpniaaGreatDoorPlains
import Derived.Deep.Upon
namespace Go.Proofs.YtgfaeeacndpniaaGreatDoor
open Go.RowKit Go.Extern.Stop Go.Stop Go.Extern

theorem Tryz.infoInt : ∃ i z, Tryz.prog.info? 3 = some i ∧ i.zero = some z ∧ i.size = 1 ∧ i.bytes = 8 ∧ z.cells.size = 1 := by
  have h : (Tryz.prog.info? 3).map (fun i => (i.zero, i.size, i.bytes)) = some (some (.int .i64 0), 1, 8) := by kernel_rfl
  obtain ⟨i, h1, h2⟩ := Option.map_eq_some_iff.1 h
  simp only [Prod.mk.injEq] at h2
  exact ⟨i, _, h1, h2.1, h2.2.1, h2.2.2, rfl⟩
theorem addr_add (b o j : Nat) : (⟨b, o, none⟩ : Addr).add j = ⟨b, o + j, none⟩ := by cases j <;> simp [Addr.add]
/-- Nothing is appended to nothing. -/
theorem wpList_append_none {P : Program} (w : World) {ops : Array Oper} {rest : List Oper} {o : Oper} {a : Act} {Q : Exit → Act → World → Prop} (hgd : o.guard = none) (s x : Operand) (t : TypeId)
    (ho : o.op = .call { callee := .builtin .append, args := #[s, x], argTypes := #[t, t] }) (e : TypeId) (i : TypeInfo) (ht : P.underlying t = some (.slice e)) (hi : P.info? e = some i)
    (hs : a.eval s = .slice none 0 0) (xa : Option Addr) (c : Nat) (hx : a.eval x = .slice xa 0 c) (h : wpList P ops Q rest (a.put o.dst (.slice none 0 0)) w) : wpList P ops Q (o :: rest) a w := by
  refine wpList_plain hgd fun K hK => ?_
  have hsrc : Src P i.size t (.slice xa 0 c) 0 [] w := by
    cases xa with
    | none => exact Src.ofNil w ht c
    | some ad => exact Src.ofSlice w ht ad 0 c [] (by simp) (fun j u hj => by cases hj) (fun u hu => by cases hu)
  have hr := run_append_nothing w t t o.type e i ht hi none 0 0 (Nat.le_refl _) (.slice xa 0 c) hsrc
  unfold Oper.wp execOp
  simp only [ho, resolve, invoke, builtin, Sem.run_bind, Sem.run_pure, Result.andThen_ok, List.map_toArray, List.map_cons, List.map_nil, hs, hx, hr]
  exact hK _ _ h
theorem BS.norm {B bb : Nat} {w : World} {z : List It} {n : Nat} {own : Nat → Nat} {v : Nat → Value} {wa : Option Addr} {wc : Nat} (h : BS B bb w z n own v wa wc) : BS B bb w z n (fun k => if k < w.heap.size then own k else 0) v wa wc where
  hB := h.hB
  st := h.st
  ob := by show (if bb < w.heap.size then own bb else 0) = 0; rw [if_pos h.lt]; exact h.ob
  pt := h.pt.step fun k hk _ => ⟨rfl, if_pos hk⟩
  wy := h.wy.step fun k hk h0 => ⟨rfl, by show (if k < w.heap.size then own k else 0) = 0; rw [if_pos hk]; exact h0⟩
  cp := h.cp
  nb := h.nb
  lw := fun k hk => by
    show (if k < w.heap.size then own k else 0) = 0
    split
    · exact h.lw k hk
    · rfl
/-- Behind the store of the law: the law, the way as it was, a box. -/
structure Mid (B bb b9 n : Nat) (w wx : World) (z z' : List It) (own v : _) (wa : Option Addr) (wcp : Nat) (bx : Obj) : Prop where
  st : wx.heap[bb]? = some (.cells #[(v : Nat → Value) 0, v 1, v 2, v 3, .slice wa (z.length - 1) wcp, .int .i64 n] 67 (0, 0))
  ob : (own : Nat → Nat) bb = 0
  pt : Path B wx own 0 z' v
  wy : WayAt wx own wa (wayOf z)
  bx : wx.heap[b9]? = some bx
  bel : Below B w wx
  lw : ∀ k, k < B → own k = 0
theorem shutOwn_zero (own : Nat → Nat) (d k : Nat) (h : own k = 0) : shutOwn own d k = 0 := by unfold shutOwn; rw [if_neg (by omega)]; exact h
theorem Mid.of {B bb b9 n d : Nat} {w W w5 wx : World} {z z' : List It} {own own5 : Nat → Nat} {v v5 : Nat → Value} {wa : Option Addr} {wcp : Nat} {bx : Obj} (hS : BS B bb W z n own v wa wcp) (h9 : own b9 = 0) (hn : b9 ≠ bb) (hx : W.heap[b9]? = some bx) (hp : Path B w5 own5 0 z' v5) (hk : Kept 0 W (shutOwn own d) w5 own5) (hb : Below B w w5) (hl : LikeW wx (set4 w5 bb 0 v5)) : Mid B bb b9 n w wx z z' own5 v5 wa wcp bx := by
  obtain ⟨h1, h2, h3, h4, h5⟩ := hS.stored (fun k hk => shutOwn_zero own d k hk) hp hk hl
  refine ⟨h1, h2, h3, h4, ?_, ?_, h5⟩
  · rw [hl.heap, heap_set4 _ _ _ _ _ hn, hk.blk b9 (lt_of_block hx) (by rw [shutOwn_zero own d b9 h9]; omega)]
    exact hx
  · have hB := hS.hB
    refine Below.trans ?_ (hl.bel _)
    unfold set4
    exact (((hb.setCell (p := ⟨bb, 0, none⟩) hB _).setCell (p := ⟨bb, 0 + 1, none⟩) hB _).setCell (p := ⟨bb, 0 + 2, none⟩) hB _).setCell (p := ⟨bb, 0 + 3, none⟩) hB _
theorem way_next (z : List It) (d : Nat) (hd : d < z.length) (lab tt : ByteArray) : wayOf (shutB d z ++ [It.mk lab tt [] []]) = (wayOf z).take d ++ [(closeAll (z.drop d)).kids.length] := by
  have hl := shutB_len hd
  rw [wayOf_push _ _ (by omega), wayOf_shut z d hd, hl, Nat.add_sub_cancel]
  congr 1
  have h1 : (shutB d z).drop d = [closeAll (z.drop d)] := by
    have h2 := shutB_at hd
    obtain ⟨hk, e⟩ := List.getElem?_eq_some_iff.1 h2
    have h3 : (shutB d z).drop (d + 1) = [] := List.drop_eq_nil_of_le (by omega)
    rw [List.drop_eq_getElem_cons hk, e, h3]
  rw [h1, closeAll_one]
/-- The end: the way is new, one provision more. -/
theorem Mid.done {B bb b9 n d : Nat} {w wx wy wz : World} {z : List It} {own : Nat → Nat} {v : Nat → Value} {wa : Option Addr} {wcp : Nat} {bx : Obj} {lab tt : ByteArray} {g cap kn : Nat} {row : Option Nat} (h : Mid B bb b9 n w wx z (shutB d z ++ [It.mk lab tt [] []]) own v wa wcp bx) (hd : d < z.length) (hkn : kn = (closeAll (z.drop d)).kids.length) (hB : B ≤ bb) (hwx : B ≤ wx.heap.size)
    {W : World} (hW : Below wx.heap.size wx W) (hrow : wy.ownsRow wx.heap.size 3 1 (.slice (some ⟨g, 0, none⟩) (d + 1) cap) (d + 1) (((wayOf z).take d).map (fun x : Nat => Value.int .i64 x) ++ [.int .i64 kn])) (hg : W.grownBy wy row) (hr : ∀ k, row = some k → wx.heap.size ≤ k)
    (hl : LikeW wz ((wy.setCell ⟨bb, 4, none⟩ (.slice (some ⟨g, 0, none⟩) (d + 1) cap)).setCell ⟨bb, 5, none⟩ (.int .i64 ((n : Int) + 1)))) : Bd B bb wz (shutB d z ++ [It.mk lab tt [] []]) (n + 1) ∧ Below B w wz := by
  have hbb := lt_of_block h.st
  have hwy : Below wx.heap.size wx wy := hW.grown hg hW.size hr
  have hgg := (hrow.lt g rfl)
  have hwst : wy.heap[bb]? = _ := (hwy.block bb hbb).trans h.st
  have h1 := heap_setCell_same wy bb 4 _ _ (.slice (some ⟨g, 0, none⟩) (d + 1) cap) hwst
  have h2 := heap_setCell_same _ bb 5 _ _ (.int .i64 ((n : Int) + 1)) h1
  have hlen := shutB_len hd
  have hoth : ∀ k, k ≠ bb → wz.heap[k]? = wy.heap[k]? := fun k hk => by
    rw [hl.heap, Below.heap_setCell _ _ _ _ hk, Below.heap_setCell _ _ _ _ hk]
  have hcap : d + 1 ≤ cap := by
    rcases hrow.2 with ⟨_, h0⟩ | ⟨g', cap', cur, e1, hb, hgg, h1, _⟩
    · omega
    · injection e1 with _ _ e3
      omega
  refine ⟨⟨fun k => if k < wx.heap.size then own k else 0, v, some ⟨g, 0, none⟩, cap, hB, ?_, ?_, ?_, ?_, ?_, ?_, fun k hk => by
      show (if k < wx.heap.size then own k else 0) = 0
      split
      · exact h.lw k hk
      · rfl⟩, ?_⟩
  · rw [hl.heap, h2, List.length_append, hlen]
    rfl
  · show (if bb < wx.heap.size then own bb else 0) = 0
    rw [if_pos hbb]; exact h.ob
  · refine h.pt.step fun k hk h0 => ⟨?_, if_pos hk⟩
    have hne : k ≠ bb := by rintro rfl; rw [h.ob] at h0; omega
    rw [hoth k hne, hwy.block k hk]
  · rw [way_next z d hd, ← hkn]
    intro i x e
    refine ⟨g, 0, rfl, ?_, ?_⟩
    · show (if g < wx.heap.size then own g else 0) = 0
      rw [if_neg (by omega)]
    · have hne : g ≠ bb := by omega
      refine (World.cell?_of_block (a := ⟨g, 0 + i, none⟩) (hoth g hne)).trans ?_
      rw [Nat.zero_add]
      have hi : i < d + 1 := by
        have := (List.getElem?_eq_some_iff.1 e).1
        rw [List.length_append, List.length_take, List.length_singleton] at this
        omega
      rw [hrow.cellAt i (by omega)]
      have e2 : (((wayOf z).take d ++ [kn]).map (fun x : Nat => Value.int .i64 x))[i]? = some (.int .i64 (x : Nat)) := by rw [List.getElem?_map, e]; rfl
      rw [List.map_append] at e2
      exact e2
  · rw [List.length_append, hlen]
    exact Nat.le_trans (by simp) hcap
  · intro b o e
    injection e with e
    injection e with e1 e2
    omega
  · have h3 : Below B w wy := h.bel.trans (hwy.mono hwx)
    exact ((h3.setCell (p := ⟨bb, 4, none⟩) hB _).setCell (p := ⟨bb, 5, none⟩) hB _).trans (hl.bel _)
end Go.Proofs.YtgfaeeacndpniaaGreatDoor
