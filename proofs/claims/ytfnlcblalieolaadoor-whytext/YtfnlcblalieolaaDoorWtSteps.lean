/-
  Package why: steps that are handed on (statutelaw4.steps).
-/
import Derived.Test.YtfnlcblalieolaaDoorWtRead
namespace Go.Proofs.YtfnlcblalieolaaDoor
open Go.RowKit
variable {w : World}
theorem rcopy3 (W : World) (a b c : Value) (t : TypeId) : ∃ (W6 : World) (bx : Nat), W6 = W.alloc (.cells #[a, b, c] t) ∧ bx = W.heap.size ∧ Below W.heap.size W W6 ∧ W6.cell? ⟨bx, 0, none⟩ = some a ∧ W6.cell? ⟨bx, 1, none⟩ = some b ∧ W6.cell? ⟨bx, 2, none⟩ = some c ∧ bx < W6.heap.size := by
  have h := Go.Deep.blk_alloc_new W (.cells #[a, b, c] t)
  refine ⟨_, _, rfl, rfl, (Below.refl _ _).alloc (Nat.le_refl _) _, ?_, ?_, ?_, ?_⟩
  · rw [cell_of_row _ _ 0 #[a, b, c] t (0, 0) h]; rfl
  · rw [cell_of_row _ _ 1 #[a, b, c] t (0, 0) h]; rfl
  · rw [cell_of_row _ _ 2 #[a, b, c] t (0, 0) h]; rfl
  · simp
set_option maxHeartbeats 1000000 in
theorem step_w (a b : Bool) (q : Int) (w : World) : Calls Tryd.prog 11 #[.agg #[.bool a, .bool b, .int .i64 q]] w fun e w' => e = .returned (.agg #[.bool a, .bool b, .int .i64 q]) ∧ Below w.heap.size w w' := by
  obtain ⟨W0, bx, hW0, hbx, hb0, z0, z1, z2, hl0⟩ := rcopy3 w (.bool a) (.bool b) (.int .i64 q) 42
  obtain ⟨W1, rb, hW1, hrb, hb1, r0, r1, r2, hl1⟩ := rcopy3 W0 (.bool false) (.bool false) (.int .i64 0) 26
  have x0 := (hb1.cell (p := ⟨bx, 0, none⟩) hl0).trans z0
  have x1 := (hb1.cell (p := ⟨bx, 1, none⟩) hl0).trans z1
  have x2 := (hb1.cell (p := ⟨bx, 2, none⟩) hl0).trans z2
  have hfz : ∀ i, W1.frozen? ⟨rb, i, none⟩ = false := fun i => by
    have h := Go.Deep.blk_alloc_new W0 (.cells #[.bool false, .bool false, .int .i64 0] 26)
    rw [← hW1, ← hrb] at h
    simp [World.frozen?, h]
  have hwb : w.heap.size ≤ rb := by rw [hrb]; exact hb0.size
  have hbw : Below w.heap.size w W1 := hb0.trans (hb1.mono hb0.size)
  have hne : bx ≠ rb := by rw [hrb]; omega
  have hrb2 : rb = w.heap.size + 1 := by rw [hrb, hW0]; simp
  have hW2 : W1 = (w.alloc (.cells #[.bool a, .bool b, .int .i64 q] 42)).alloc (.cells #[.bool false, .bool false, .int .i64 0] 26) := by rw [hW1, hW0]
  have HW := hidLL (And.intro hW2 (And.intro hrb2 hbx))
  have HB := hidLL hbw
  clear hW2 hrb2
  clear hW0 hbx hW1 hrb hb0 hb1 z0 z1 z2 hbw
  go_enter Tryd.func11, Tryd.ntmps11
  go_upto_region 1 with fail
  rw [← HW.out.1, ← HW.out.2.1, ← HW.out.2.2]
  go_wp2
  refine bodyPost_ret (v := .agg #[.bool a, .bool b, .int .i64 q]) (by simp [results, Tryd.results11, go_sem, r0, r1, r2]) rfl ?_
  · exact ⟨rfl, ((HB.out.setCell (p := ⟨rb, _, none⟩) hwb _).setCell (p := ⟨rb, _, none⟩) hwb _).setCell (p := ⟨rb, _, none⟩) hwb _⟩


theorem Tryd.infoStp : ∃ i z, Tryd.prog.info? 26 = some i ∧ i.zero = some z ∧ i.size = 3 ∧ i.bytes = 16 ∧ z.cells.size = 3 := by
  have h : (Tryd.prog.info? 26).map (fun i => (i.zero, i.size, i.bytes)) = some (some (.agg #[.bool false, .bool false, .int .i64 0]), 3, 16) := by kernel_rfl
  obtain ⟨i, h1, h2⟩ := Option.map_eq_some_iff.1 h
  simp only [Prod.mk.injEq] at h2
  exact ⟨i, _, h1, h2.1, h2.2.1, h2.2.2, rfl⟩
/-- One step more, which has just been laid. -/
theorem wpList_push_stp {W : World} {ops : Array Oper} {rest : List Oper} {o : Oper} {a : Act} {Q : Exit → Act → World → Prop} (hgd : o.guard = none) (s x : Operand)
    (ho : o.op = .call { callee := .builtin .append, args := #[s, x], argTypes := #[27, 27] }) (B : Nat) (v : Value) (l : List Clm) (c1 c2 : Bool) (c3 : Int) (hs : a.eval s = v) (hown : W.ownsRow B 26 3 v l.length (clmC l))
    (hx : a.eval x = .slice (some ⟨W.heap.size, 0, none⟩) 1 1) (hB : B ≤ W.heap.size) (hl : l.length ≤ 100000)
    (h : ∀ v' w', w'.ownsRow B 26 3 v' (l ++ [(c1, c2, c3)]).length (clmC (l ++ [(c1, c2, c3)])) → Below B W w' → wpList Tryd.prog ops Q rest (a.put o.dst v') w') : wpList Tryd.prog ops Q (o :: rest) a (W.alloc (.cells #[.bool c1, .bool c2, .int .i64 c3] 26)) := by
  obtain ⟨i0, z, h1, h2, h3, h4, h5⟩ := Tryd.infoStp
  have hn : ∀ (j : Nat) (u : Value), (clmC [(c1, c2, c3)])[j]? = some u → (W.alloc (.cells #[.bool c1, .bool c2, .int .i64 c3] 26)).cell? ((⟨W.heap.size, 0, none⟩ : Addr).add j) = some u := fun j u hj => alloc_cellC W (clmC [(c1, c2, c3)]) 26 j u hj
  have hal : (W.alloc (.cells #[.bool c1, .bool c2, .int .i64 c3] 26)).ownsRow B 26 3 v l.length (clmC l) := row_step hown fun g _ hg => Below.heap_alloc W _ g hg
  refine wpList_append_own _ hgd s x 27 ho B 26 i0 z 3 16 Tryd.underlying27 h1 h2 h3 h4 h5 (by decide) v l.length (clmC l) hs hal ⟨W.heap.size, 0, none⟩ 1 1 (clmC [(c1, c2, c3)]) hx rfl hn (clmC_one _) (by unfold maxLen; omega) (by omega) (by simp; omega) ?_
  intro v' w' hown' hgrow _
  refine h v' w' ?_ (((Below.refl B W).alloc hB _).grown hgrow (by simp; omega) (fun k hk => (hown.lt k hk).1))
  rw [List.length_append, clmC_app]
  exact hown'
/-- What the laws' steps answers. -/
def StpR (l : List Clm) (w : World) (e : Ending) (w' : World) : Prop := ∃ (a : Option Addr) (n c : Nat), e = .returned (.slice a n c) ∧ n = l.length ∧ SRd w' w'.heap.size (.slice a n c) l ∧ Below w.heap.size w w'
set_option maxHeartbeats 1000000 in
theorem steps_w {B : Nat} {ca : Option Addr} {cn cc : Nat} {l : List Clm} (hC : SRd w B (.slice ca cn cc) l) (hB : B ≤ w.heap.size) (hcn : cn = l.length) (hfew : cn ≤ 1000) : Calls Tryd.prog 6 #[.slice ca cn cc] w (StpR l w) := by
  have HCl := hidLL (And.intro hC hcn)
  clear hC hcn
  go_enter Tryd.func6, Tryd.ntmps6
  go_wp2_with fail
  go_loopw [3, 4] (fun t3 t wr => ∃ (j : Nat) (a : Option Addr) (n c : Nat), j ≤ cn ∧ t = .int .i64 j ∧ t3 = .slice a n c ∧ wr.ownsRow w.heap.size 26 3 (.slice a n c) (l.take j).length (clmC (l.take j)) ∧ Below w.heap.size w wr) (fun _ t _ => cn - (RowKit.intOf t).toNat)
  case atStart => exact ⟨0, none, 0, 0, by omega, rfl, rfl, World.ownsRow_nil _ _ _ _, Below.refl _ _⟩
  case round =>
    obtain ⟨j, a, n, c, hj, rfl, rfl, hown, hbel⟩ := hrel
    have hsz := hbel.size
    by_cases hlt : j < cn
    · have hjz : (j : Int) < cn := by omega
      obtain ⟨x, hx⟩ : ∃ x, l[j]? = some x := ⟨_, List.getElem?_eq_getElem (by have := HCl.out.2; omega)⟩
      obtain ⟨g, o, ea, hgB, y0, y1, y2⟩ := (HCl.out.1.on fun k hk => hbel.block k (by omega)).at hx
      subst ea
      obtain ⟨xa, xb, xq⟩ := x
      simp only at y0 y1 y2
      have HTk : Hid (l.take (j + 1) = l.take j ++ [(xa, xb, xq)]) := by
        obtain ⟨h9, e9⟩ := List.getElem?_eq_some_iff.1 hx
        show _ = _
        rw [List.take_succ_eq_append_getElem h9, e9]
      have HSt := hidLL (step_w xa xb xq wr)
      have HLe : Hid ((l.take j).length ≤ 100000) := by show _ ≤ _; rw [List.length_take]; omega
      have HQ := hidLL (And.intro hown hbel)
      clear hown hbel hx
      go_wp2_with (first
        | (go_at_call 11; refine HSt.out.mono ?_; rintro e w5 ⟨rfl, hb5⟩; have hs5 := hb5.size; have H5 := hidLL hb5; clear hb5)
        | (at_builtin; refine wpList_push_stp (W := w5) rfl (.tmp 11) (.tmp 17) rfl w.heap.size (.slice a n c) (l.take j) xa xb xq rfl (row_step HQ.out.1 fun g _ hg => H5.out.block g hg) (by simp [Act.eval]) (by omega) HLe.out ?_; intro v' w3 hr3 hb3)
        | go_in)
      obtain ⟨a', c', ev⟩ := row_any hr3
      subst ev
      have HR3 := hidLL (And.intro hr3 hb3)
      clear hr3 hb3
      go_roundw
      case rel => exact ⟨j + 1, _, _, _, by omega, by go_num, rfl, by rw [HTk.out]; exact HR3.out.1, (HQ.out.2.trans (H5.out.mono hsz)).trans HR3.out.2⟩
      case measure => simp [RowKit.intOf]; omega
    · obtain rfl : j = cn := by omega
      have hge : ¬ (j : Int) < j := by omega
      have HQ := hidLL (And.intro hown hbel)
      clear hown hbel
      go_wp2
      go_ret
      have hown := HQ.out.1
      rw [List.take_of_length_le (by rw [HCl.out.2]; exact Nat.le_refl _)] at hown
      obtain ⟨a9, c9, e9⟩ := row_any hown
      injection e9 with _ e10 _
      exact ⟨a, n, c, rfl, e10, srd_own hown (by have := HCl.out.2; omega), HQ.out.2⟩
end Go.Proofs.YtfnlcblalieolaaDoor
