/-
  Ledgers, the program: slices.Clone of lines; Post.
-/
import Derived.Test.YtdeccdmplmclmaaGreatDoorLkC
import Derived.Test.YtdeccdmplmclmaaGreatDoorLkSh
import Derived.Deep.RegionLaw
import Derived.Deep.RegionLawGrows
import Derived.Lib.LazyBuf
namespace Go.Proofs.YtdeccdmplmclmaaGreatDoor
open Go.RowKit Go.Extern.Stop Go.Stop Go.Extern

/-- One more, in a region that draws. -/
theorem step_push_g {α : Type} {E : Enc α} {T S bytes : Nat} (hI : ∃ i z, Tryz.prog.info? T = some i ∧ i.zero = some z ∧ i.size = E.k ∧ i.bytes = bytes ∧ z.cells.size = E.k) (hby : bytes ≤ 200) (hU : Tryz.prog.underlying S = some (.slice T)) {W : World} {ops : Array Oper} {o : Oper} {a : Act} {K : Act → World → Prop} {Q : Exit → Act → World → Prop} {F : Prop} (hgd : o.guard = none) (s x : Operand)
    (ho : o.op = .call { callee := .builtin .append, args := #[s, x], argTypes := #[S, S] }) (B : Nat) (v : Value) (l : List α) (y : α) (cs : Array Value) (hcs : cs = (E.f y).toArray) (hs : a.eval s = v) (hown : RowG E T W B v l)
    (hx : a.eval x = .slice (some ⟨W.heap.size, 0, none⟩) 1 1) (hB : B ≤ W.heap.size) (hl : l.length + 1 ≤ 1000000)
    (h : ∀ v' w', RowG E T w' B v' (l ++ [y]) → Below B W w' → (∀ k, v.ownBlock ≠ some k → k < W.heap.size → w'.heap[k]? = W.heap[k]?) → (∀ k, v'.ownBlock = some k → v.ownBlock = some k ∨ W.heap.size ≤ k) → K (a.put o.dst v') w') :
    if Region.wanted o (yielded ops a.tmps) = true then Oper.wp Tryz.prog o a (W.alloc (.cells cs T)) K Q else F := by
  have hw : Region.wanted o (yielded ops a.tmps) = true := by simp [Region.wanted, hgd]
  rw [if_pos hw]
  obtain ⟨i0, z, h1, h2, h3, h4, h5⟩ := hI
  subst hcs
  have hn : ∀ (j : Nat) (u : Value), (E.f y)[j]? = some u → (W.alloc (.cells (E.f y).toArray T)).cell? ((⟨W.heap.size, 0, none⟩ : Addr).add j) = some u := fun j u hj => by
    have := alloc_range W (E.f y) T j u hj
    rw [addo]
    exact this
  have hal := (hown.below ((Below.refl _ _).alloc (Nat.le_refl _) (.cells (E.f y).toArray T)))
  obtain ⟨v', w', hr, hown', hgrow, _, hblk⟩ := run_append_own_at (P := Tryz.prog) (W.alloc (.cells (E.f y).toArray T)) B S o.type T i0 z E.k bytes hU h1 h2 h3 h4 h5 E.pos v l.length (E.all l) hal.row ⟨W.heap.size, 0, none⟩ 1 1 (E.f y) (by rw [E.len, Nat.one_mul]) hn (E.one y) (by unfold maxLen; omega) (by have h6 : (l.length + 1) * bytes ≤ 1000000 * 200 := Nat.mul_le_mul hl hby; omega) (by simp; omega)
  unfold Oper.wp
  simp [execOp, ho, resolve, invoke, builtin, hs, hx, hr, Result.andThen]
  refine h v' w' ⟨?_, by rw [List.length_append]; simp only [List.length_cons, List.length_nil]; omega⟩ (((Below.refl B W).alloc hB _).grown hgrow (by simp; omega) (fun k hk => (hown.row.lt k hk).1)) (fun k hk hlt => ?_) (fun k hk => ?_)
  · rw [List.length_append, E.all_app, show E.all [y] = E.f y by rw [E.all_cons, E.all_nil, List.append_nil]]
    exact hown'
  · rw [hgrow.block k (by simp; omega) (fun e => hk e.symm), Go.Deep.blk_alloc_lt _ _ _ hlt]
  · rcases hblk with e | e
    · exact .inl (e ▸ hk)
    · rw [hk] at e
      injection e with e
      exact .inr (by simp at e; omega)
theorem Tryz.infoLn : ∃ i z, Tryz.prog.info? 49 = some i ∧ i.zero = some z ∧ i.size = lnE.k ∧ i.bytes = 24 ∧ z.cells.size = lnE.k := by
  have h : (Tryz.prog.info? 49).map (fun i => (i.zero, i.size, i.bytes)) = some (some (.agg #[.string ⟨#[]⟩, .int .i64 0]), 2, 24) := by kernel_rfl
  obtain ⟨i, h1, h2⟩ := Option.map_eq_some_iff.1 h
  simp only [Prod.mk.injEq] at h2
  exact ⟨i, _, h1, h2.1, h2.2.1, h2.2.2, rfl⟩
theorem Tryz.infoEn : ∃ i z, Tryz.prog.info? 36 = some i ∧ i.zero = some z ∧ i.size = enE.k ∧ i.bytes = 48 ∧ z.cells.size = enE.k := by
  have h : (Tryz.prog.info? 36).map (fun i => (i.zero, i.size, i.bytes)) = some (some (.agg #[.int .i64 0, .string ⟨#[]⟩, .slice none 0 0]), 3, 48) := by kernel_rfl
  obtain ⟨i, h1, h2⟩ := Option.map_eq_some_iff.1 h
  simp only [Prod.mk.injEq] at h2
  exact ⟨i, _, h1, h2.1, h2.2.1, h2.2.2, rfl⟩
/-- A row of none, which has just been laid. -/
theorem row_zero {α : Type} (E : Enc α) (T : Nat) (w : World) : RowG E T (w.alloc (.cells #[] T)) w.heap.size (.slice (some ⟨w.heap.size, 0, none⟩) 0 0) [] :=
  ⟨⟨by simp [Enc.all], .inr ⟨w.heap.size, 0, #[], rfl, Nat.le_refl _, Go.Deep.blk_alloc_new w _, Nat.le_refl _, by unfold maxLen; omega, by simp, by simp [Enc.all]⟩⟩, by simp⟩
/-- The cells of what can be read, one behind the other. -/
theorem RdS.cells {α : Type} {E : Enc α} {w : World} {S : Nat → Prop} {n c : Nat} {ad : Addr} {l : List α} (h : RdS E w S (.slice (some ad) n c) l) : ∀ j u, (E.all l)[j]? = some u → w.cell? (ad.add j) = some u := fun j u hu => by
  have hj : j < l.length * E.k := by
    have := (List.getElem?_eq_some_iff.1 hu).1
    rwa [E.all_len] at this
  have hk := E.pos
  have hi : j / E.k < l.length := Nat.div_lt_of_lt_mul (by rw [Nat.mul_comm]; exact hj)
  obtain ⟨g, o, e, _, hr⟩ := h.at (List.getElem?_eq_getElem hi)
  injection e with e
  subst e
  have hm : j % E.k < (E.f l[j / E.k]).length := by rw [E.len]; exact Nat.mod_lt _ hk
  have h1 := E.all_get l (j / E.k) _ (List.getElem?_eq_getElem hi) (j % E.k) _ (List.getElem?_eq_getElem hm)
  have hdm : j / E.k * E.k + j % E.k = j := by rw [Nat.mul_comm]; exact Nat.div_add_mod j E.k
  rw [hdm, hu] at h1
  have h2 := hr (j % E.k) _ (List.getElem?_eq_getElem hm)
  rw [addo, ← hdm, ← Nat.add_assoc]
  rw [h2]
  exact h1.symm
/-- What a clone is. -/
def CloR {α : Type} (E : Enc α) (T : Nat) (w : World) (ls : List α) (e : Ending) (w' : World) : Prop := (∃ a m c, e = .returned (.slice a m c) ∧ RowG E T w' w.heap.size (.slice a m c) ls) ∧ Below w.heap.size w w'
set_option maxHeartbeats 1000000 in
set_option maxRecDepth 20000 in
theorem clone_l {n c : Nat} {a : Option Addr} {ls : List Ln} {w : World} (h : RdS lnE w (· < w.heap.size) (.slice a n c) ls) (hn4 : n ≤ 1000) :
    Calls Tryz.prog 17 #[.slice a n c] w (CloR lnE 49 w ls) := by
  obtain ⟨hn, hbig⟩ := h.len
  cases a with
  | none =>
    have hl : ls = [] := by
      cases ls with
      | nil => rfl
      | cons x ls =>
        obtain ⟨_, _, e, _⟩ := h.at (j := 0) rfl
        cases e
    subst hl
    obtain rfl : n = 0 := hn
    clear h
    have hnil := fun (w : World) (a : Option Addr) (l c : Nat) => Go.run_eql_slice_nil (P := Tryz.prog) w 34 49 a l c Tryz.underlying34
    go_enter Tryz.func17, Tryz.ntmps17
    go_wp2
    go_ret
    exact ⟨⟨_, _, _, rfl, RowG.nil _ _⟩, Below.refl _ _⟩
  | some ad =>
    have HC : Hid (∀ ob j u, (lnE.all ls)[j]? = some u → (w.alloc ob).cell? (ad.add j) = some u) := fun ob => (h.below (bel1 w ob)).cells
    obtain ⟨i0, z, h1, h2, h3, h4, h5⟩ := Tryz.infoLn
    have HI := hidLL (And.intro h1 (And.intro h2 (And.intro h3 (And.intro h4 h5))))
    have HN := hidLL hn
    clear h hn h1 h2 h3 h4 h5
    have hnil := fun (w : World) (a : Option Addr) (l c : Nat) => Go.run_eql_slice_nil (P := Tryz.prog) w 34 49 a l c Tryz.underlying34
    go_enter Tryz.func17, Tryz.ntmps17
    go_wp2_with (at_builtin; refine wpList_append_own_at _ rfl (.tmp 5) (.tmp 6) 34 rfl w.heap.size 49 i0 z lnE.k 24 Tryz.underlying34 HI.out.1 HI.out.2.1 HI.out.2.2.1 HI.out.2.2.2.1 HI.out.2.2.2.2 lnE.pos (.slice (some ⟨w.heap.size, 0, none⟩) 0 0) 0 [] rfl (row_zero lnE _ w).row ad n c (lnE.all ls) rfl (by rw [lnE.all_len, HN.out]) (HC.out _) (lnE.all_one ls) (by unfold maxLen; omega) (by omega) (by simp) ?_; intro v' w' hown hgrow _ _; obtain ⟨pa, pn, pc, rfl⟩ : ∃ pa pn pc, v' = .slice pa pn pc := (by rcases hown.2 with ⟨e, _⟩ | ⟨_, _, _, e, _⟩; exact ⟨_, _, _, e⟩; exact ⟨_, _, _, e⟩); have HR := hidLL (And.intro hown hgrow); clear hown hgrow)
    go_ret
    obtain ⟨h1, h2⟩ := HR.out
    refine ⟨⟨_, _, _, rfl, ⟨?_, by have := HN.out; omega⟩⟩, (bel1 w _).grown h2 (by simp) (fun k hk => by injection hk with hk; subst hk; exact Nat.le_refl _)⟩
    rw [← HN.out]
    rw [Nat.zero_add, List.nil_append] at h1
    exact h1
set_option maxHeartbeats 1000000 in
set_option maxRecDepth 20000 in
theorem clone_e {n c : Nat} {a : Option Addr} {ls : List (En × SlV)} {w : World} (h : RdS enE w (· < w.heap.size) (.slice a n c) ls) (hn4 : n ≤ 1000) :
    Calls Tryz.prog 24 #[.slice a n c] w (CloR enE 36 w ls) := by
  obtain ⟨hn, hbig⟩ := h.len
  cases a with
  | none =>
    have hl : ls = [] := by
      cases ls with
      | nil => rfl
      | cons x ls =>
        obtain ⟨_, _, e, _⟩ := h.at (j := 0) rfl
        cases e
    subst hl
    obtain rfl : n = 0 := hn
    clear h
    have hnil := fun (w : World) (a : Option Addr) (l c : Nat) => Go.run_eql_slice_nil (P := Tryz.prog) w 40 36 a l c Tryz.underlying40
    go_enter Tryz.func24, Tryz.ntmps24
    go_wp2
    go_ret
    exact ⟨⟨_, _, _, rfl, RowG.nil _ _⟩, Below.refl _ _⟩
  | some ad =>
    have HC : Hid (∀ ob j u, (enE.all ls)[j]? = some u → (w.alloc ob).cell? (ad.add j) = some u) := fun ob => (h.below (bel1 w ob)).cells
    obtain ⟨i0, z, h1, h2, h3, h4, h5⟩ := Tryz.infoEn
    have HI := hidLL (And.intro h1 (And.intro h2 (And.intro h3 (And.intro h4 h5))))
    have HN := hidLL hn
    clear h hn h1 h2 h3 h4 h5
    have hnil := fun (w : World) (a : Option Addr) (l c : Nat) => Go.run_eql_slice_nil (P := Tryz.prog) w 40 36 a l c Tryz.underlying40
    go_enter Tryz.func24, Tryz.ntmps24
    go_wp2_with (at_builtin; refine wpList_append_own_at _ rfl (.tmp 5) (.tmp 6) 40 rfl w.heap.size 36 i0 z enE.k 48 Tryz.underlying40 HI.out.1 HI.out.2.1 HI.out.2.2.1 HI.out.2.2.2.1 HI.out.2.2.2.2 enE.pos (.slice (some ⟨w.heap.size, 0, none⟩) 0 0) 0 [] rfl (row_zero enE _ w).row ad n c (enE.all ls) rfl (by rw [enE.all_len, HN.out]) (HC.out _) (enE.all_one ls) (by unfold maxLen; omega) (by omega) (by simp) ?_; intro v' w' hown hgrow _ _; obtain ⟨pa, pn, pc, rfl⟩ : ∃ pa pn pc, v' = .slice pa pn pc := (by rcases hown.2 with ⟨e, _⟩ | ⟨_, _, _, e, _⟩; exact ⟨_, _, _, e⟩; exact ⟨_, _, _, e⟩); have HR := hidLL (And.intro hown hgrow); clear hown hgrow)
    go_ret
    obtain ⟨h1, h2⟩ := HR.out
    refine ⟨⟨_, _, _, rfl, ⟨?_, by have := HN.out; omega⟩⟩, (bel1 w _).grown h2 (by simp) (fun k hk => by injection hk with hk; subst hk; exact Nat.le_refl _)⟩
    rw [← HN.out]
    rw [Nat.zero_add, List.nil_append] at h1
    exact h1
end Go.Proofs.YtdeccdmplmclmaaGreatDoor
