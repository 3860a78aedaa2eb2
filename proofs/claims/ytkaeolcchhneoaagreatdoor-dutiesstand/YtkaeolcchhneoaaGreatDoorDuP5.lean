/-
  Duties, the program: the states of all.
-/
import Derived.Test.YtkaeolcchhneoaaGreatDoorDuG2
import Derived.Laws.AppendOwnNone
namespace Go.Proofs.YtkaeolcchhneoaaGreatDoor
open Go.RowKit

theorem Tryz.infoSt : ∃ i z, Tryz.prog.info? 59 = some i ∧ i.zero = some z ∧ i.size = 11 ∧ i.bytes = 112 ∧ z.cells.size = 11 := by
  have h : (Tryz.prog.info? 59).map (fun i => (i.zero, i.size, i.bytes)) = some (some (.agg #[.string ⟨#[]⟩, .string ⟨#[]⟩, .int .i64 0, .int .i64 0, .string ⟨#[]⟩, .int .i64 0, .int .i64 0, .int .i64 0, .int .i64 0, .int .i64 0, .int .i64 0]), 11, 112) := by kernel_rfl
  obtain ⟨i, h1, h2⟩ := Option.map_eq_some_iff.1 h
  simp only [Prod.mk.injEq] at h2
  exact ⟨i, _, h1, h2.1, h2.2.1, h2.2.2, rfl⟩
/-- One more, in a region that draws its order. -/
theorem step_push_g {α : Type} {E : Enc α} {T S bytes : Nat} (hI : ∃ i z, Tryz.prog.info? T = some i ∧ i.zero = some z ∧ i.size = E.k ∧ i.bytes = bytes ∧ z.cells.size = E.k) (hby : bytes ≤ 200) (hU : Tryz.prog.underlying S = some (.slice T)) {W : World} {ops : Array Oper} {o : Oper} {a : Act} {K : Act → World → Prop} {Q : Exit → Act → World → Prop} {F : Prop} (hgd : o.guard = none) (s x : Operand)
    (ho : o.op = .call { callee := .builtin .append, args := #[s, x], argTypes := #[S, S] }) (B : Nat) (v : Value) (l : List α) (y : α) (cs : Array Value) (hcs : cs = (E.f y).toArray) (hs : a.eval s = v) (hown : RowG E T W B v l)
    (hx : a.eval x = .slice (some ⟨W.heap.size, 0, none⟩) 1 1) (hB : B ≤ W.heap.size) (hl : l.length + 1 ≤ 1000000)
    (h : ∀ v' w', RowG E T w' B v' (l ++ [y]) → Below B W w' → (∀ k, v.ownBlock ≠ some k → k < W.heap.size → w'.heap[k]? = W.heap[k]?) → (∀ k, v'.ownBlock = some k → v.ownBlock = some k ∨ W.heap.size ≤ k) → K (a.put o.dst v') w') :
    if Region.wanted o (yielded ops a.tmps) = true then Oper.wp Tryz.prog o a (W.alloc (.cells cs T)) K Q else F := by
  have hw : Region.wanted o (yielded ops a.tmps) = true := by simp [Region.wanted, hgd]
  rw [if_pos hw]
  obtain ⟨i0, z, h1, h2, h3, h4, h5⟩ := hI
  subst hcs
  have hn : ∀ (j : Nat) (u : Value), (E.f y)[j]? = some u → (W.alloc (.cells (E.f y).toArray T)).cell? ((⟨W.heap.size, 0, none⟩ : Addr).add j) = some u := fun j u hj => by
    have := alloc_range W (E.f y) T j u hj
    rw [addo]
    exact this
  have hal := (hown.below ((Below.refl _ _).alloc (Nat.le_refl _) (.cells (E.f y).toArray T)))
  obtain ⟨v', w', hr, hown', hgrow, _, hblk⟩ := run_append_own_at (P := Tryz.prog) (W.alloc (.cells (E.f y).toArray T)) B S o.type T i0 z E.k bytes hU h1 h2 h3 h4 h5 E.pos v l.length (E.all l) hal.row ⟨W.heap.size, 0, none⟩ 1 1 (E.f y) (by rw [E.len, Nat.one_mul]) hn (E.one y) (by unfold maxLen; omega) (by have h6 : (l.length + 1) * bytes ≤ 1000000 * 200 := Nat.mul_le_mul hl hby; omega) (by simp; omega)
  unfold Oper.wp
  simp [execOp, ho, resolve, invoke, builtin, hs, hx, hr, Result.andThen]
  refine h v' w' ⟨?_, by rw [List.length_append]; simp only [List.length_cons, List.length_nil]; omega⟩ (((Below.refl B W).alloc hB _).grown hgrow (by simp; omega) (fun k hk => (hown.row.lt k hk).1)) (fun k hk hlt => ?_) (fun k hk => ?_)
  · rw [List.length_append, E.all_app, show E.all [y] = E.f y by rw [E.all_cons, E.all_nil, List.append_nil]]
    exact hown'
  · rw [hgrow.block k (by simp; omega) (fun e => hk e.symm), Go.Deep.blk_alloc_lt _ _ _ hlt]
  · rcases hblk with e | e
    · exact .inl (e ▸ hk)
    · rw [hk] at e
      injection e with e
      exact .inr (by simp at e; omega)
theorem own_take {ev : List Ev} {on : Int} {l : List Du} {i : Nat} {d : Du} (h : l[i]? = some d) : ownL ev on (l.take (i + 1)) = if d.frm ≤ on then ownL ev on (l.take i) ++ [stP ev on d (-1)] else ownL ev on (l.take i) := by
  unfold ownL
  rw [List.take_add_one, h, List.filter_append, List.map_append]
  by_cases hd : d.frm ≤ on
  · rw [if_pos hd]; simp [hd]
  · rw [if_neg hd]; simp [hd]
theorem own_len (ev : List Ev) (on : Int) (l : List Du) : (ownL ev on l).length ≤ l.length := by
  unfold ownL
  rw [List.length_map]
  exact List.length_filter_le ..
theorem oth_app (ins : Du → Du) (ev : List Ev) (on : Int) : ∀ (l : List St) (s : St) (k : Nat), othL ins ev on (l ++ [s]) k = othL ins ev on l k ++ (if isBad s = true then [stP ev on (ins s.d) ((k + l.length : Nat) : Int)] else [])
  | [], s, k => by
    simp only [List.nil_append, othL, List.length_nil, Nat.add_zero]
  | t :: l, s, k => by
    have ih := oth_app ins ev on l s (k + 1)
    rw [List.cons_append, othL, othL, ih, show k + 1 + l.length = k + (t :: l).length by simp; omega]
    split <;> simp
theorem oth_len (ins : Du → Du) (ev : List Ev) (on : Int) : ∀ (l : List St) (k : Nat), (othL ins ev on l k).length ≤ l.length
  | [], _ => Nat.le_refl _
  | s :: l, k => by
    have := oth_len ins ev on l (k + 1)
    rw [othL]
    split
    · rw [List.length_cons, List.length_cons]; omega
    · rw [List.length_cons]; omega
/-- What is to be done instead lies in a row. -/
def InsRd (w : World) (B g : Nat) (ins : Du → Du) (l : List Du) : Prop := g < B ∧ ∀ j x, l[j]? = some x → x.els ≠ ByteArray.empty → w.rangeAt g (j * 8) (duE.f (ins x))
theorem InsRd.below {w w' : World} {B g : Nat} {ins : Du → Du} {l : List Du} (h : InsRd w B g ins l) (hb : Below B w w') : InsRd w' B g ins l := ⟨h.1, fun j x hx he => range_bel (h.2 j x hx he) hb h.1⟩
theorem wpList_cat_g {α : Type} {E : Enc α} {T S bytes : Nat} (hI : ∃ i z, Tryz.prog.info? T = some i ∧ i.zero = some z ∧ i.size = E.k ∧ i.bytes = bytes ∧ z.cells.size = E.k) (hby : bytes ≤ 200) (hU : Tryz.prog.underlying S = some (.slice T)) {W : World} {ops : Array Oper} {rest : List Oper} {o : Oper} {a : Act} {Q : Exit → Act → World → Prop} (hgd : o.guard = none) (s x : Operand)
    (ho : o.op = .call { callee := .builtin .append, args := #[s, x], argTypes := #[S, S] }) (B : Nat) (v v2 : Value) (l m : List α) (hs : a.eval s = v) (hown : RowG E T W B v l) (hx : a.eval x = v2) (hoth : RowG E T W B v2 m) (hB : B ≤ W.heap.size) (hl : l.length + m.length ≤ 1000000)
    (h : ∀ v' w', RowG E T w' B v' (l ++ m) → Below B W w' → wpList Tryz.prog ops Q rest (a.put o.dst v') w') : wpList Tryz.prog ops Q (o :: rest) a W := by
  obtain ⟨i0, z, h1, h2, h3, h4, h5⟩ := hI
  rcases hoth.row.2 with ⟨hv, hz⟩ | ⟨g, cap, cur, hv, _⟩
  · refine wpList_append_own_none hgd s x S ho B T i0 E.k hU h1 v l.length (E.all l) hs hown.row (hx.trans hv) ?_
    refine h v W ?_ (Below.refl _ _)
    rw [List.eq_nil_of_length_eq_zero hz, List.append_nil]
    exact hown
  · refine wpList_append_own _ hgd s x S ho B T i0 z E.k bytes hU h1 h2 h3 h4 h5 E.pos v l.length (E.all l) hs hown.row ⟨g, 0, none⟩ m.length cap (E.all m) (hx.trans hv) (E.all_len m) (fun j u hj => by rw [addz]; exact hoth.cells hv j u hj) (E.all_one m) (by unfold maxLen; omega) (by have h6 : (l.length + m.length) * bytes ≤ 1000000 * 200 := Nat.mul_le_mul hl hby; omega) hB ?_
    intro v' w' hown' hgrow _
    refine h v' w' ⟨?_, by rw [List.length_append]; omega⟩ ((Below.refl B W).grown hgrow hB (fun k hk => (hown.row.lt k hk).1))
    rw [List.length_append, E.all_app]
    exact hown'
/-- states under way. -/
structure StsG (w W : World) (ps : List Value) (A C : List St) (v7 v8 : Value) : Prop where
  p : W.rangeAt w.heap.size 0 ps
  own : RowG stE 59 W (w.heap.size + 1) v7 A
  oth : RowG stE 59 W (w.heap.size + 1) v8 C
  ne : ∀ k, v7.ownBlock = some k → v8.ownBlock ≠ some k
  bel : Below w.heap.size w W
  lt : w.heap.size + 1 ≤ W.heap.size
section
variable {w W W' : World} {ps : List Value} {A C : List St} {v7 v8 v' : Value} {y : St}
theorem StsG.on (h : StsG w W ps A C v7 v8) (hb : Below W.heap.size W W') : StsG w W' ps A C v7 v8 :=
  ⟨range_bel h.p hb (by have := h.lt; omega), h.own.below hb, h.oth.below hb, h.ne, h.bel.trans (hb.mono h.bel.size), Nat.le_trans h.lt hb.size⟩
theorem StsG.pushOwn (h : StsG w W ps A C v7 v8) (hr : RowG stE 59 W' (w.heap.size + 1) v' (A ++ [y])) (hb : Below (w.heap.size + 1) W W') (hk : ∀ k, v7.ownBlock ≠ some k → k < W.heap.size → W'.heap[k]? = W.heap[k]?) (hn : ∀ k, v'.ownBlock = some k → v7.ownBlock = some k ∨ W.heap.size ≤ k) : StsG w W' ps (A ++ [y]) C v' v8 := by
  refine ⟨range_bel h.p hb (by omega), hr, h.oth.on (fun g hg _ hl => hk g (fun e => h.ne g e hg) hl), fun k hk1 hk2 => ?_, h.bel.trans (hb.mono (by omega)), Nat.le_trans h.lt hb.size⟩
  rcases hn k hk1 with e | e
  · exact h.ne k e hk2
  · have := (h.oth.blk hk2).2
    omega
theorem StsG.pushOth (h : StsG w W ps A C v7 v8) (hr : RowG stE 59 W' (w.heap.size + 1) v' (C ++ [y])) (hb : Below (w.heap.size + 1) W W') (hk : ∀ k, v8.ownBlock ≠ some k → k < W.heap.size → W'.heap[k]? = W.heap[k]?) (hn : ∀ k, v'.ownBlock = some k → v8.ownBlock = some k ∨ W.heap.size ≤ k) : StsG w W' ps A (C ++ [y]) v7 v' := by
  refine ⟨range_bel h.p hb (by omega), h.own.on (fun g hg _ hl => hk g (fun e => h.ne g hg e) hl), hr, fun k hk1 hk2 => ?_, h.bel.trans (hb.mono (by omega)), Nat.le_trans h.lt hb.size⟩
  rcases hn k hk2 with e | e
  · exact h.ne k hk1 e
  · have := (h.own.blk hk1).2
    omega
end
theorem st_cells0 {w : World} {g : Nat} {s : St} (h : w.rangeAt g 0 (stE.f s)) : w.cell? ⟨g, 0, none⟩ = some (.string s.d.nm) ∧ w.cell? ⟨g, 1, none⟩ = some (.string s.d.who) ∧ w.cell? ⟨g, 2, none⟩ = some (.int .i64 s.d.frm) ∧ w.cell? ⟨g, 3, none⟩ = some (.int .i64 s.d.til) ∧ w.cell? ⟨g, 4, none⟩ = some (.string s.d.els) ∧ w.cell? ⟨g, 5, none⟩ = some (.int .i64 s.d.n) ∧ w.cell? ⟨g, 6, none⟩ = some (.int .i64 s.d.u) ∧ w.cell? ⟨g, 7, none⟩ = some (.int .i64 s.d.r) ∧ w.cell? ⟨g, 8, none⟩ = some (.int .i64 s.st) ∧ w.cell? ⟨g, 9, none⟩ = some (.int .i64 s.day) ∧ w.cell? ⟨g, 10, none⟩ = some (.int .i64 s.of) :=
  ⟨h 0 _ rfl, h 1 _ rfl, h 2 _ rfl, h 3 _ rfl, h 4 _ rfl, h 5 _ rfl, h 6 _ rfl, h 7 _ rfl, h 8 _ rfl, h 9 _ rfl, h 10 _ rfl⟩
theorem range_drew {W : World} {b o : Nat} {cs : List Value} (h : W.rangeAt b o cs) : W.drew.rangeAt b o cs := h
theorem StsG.drew {w W : World} {ps : List Value} {A C : List St} {v7 v8 : Value} (h : StsG w W ps A C v7 v8) : StsG w W.drew ps A C v7 v8 := h.on (Below.refl _ _).drew
theorem stP_form (ev : List Ev) (on : Int) (d : Du) (of : Int) : ∃ st dy, stP ev on d of = ⟨d, st, dy, of⟩ := by
  have h1 := stP_d ev on d of
  generalize stP ev on d of = S at *
  obtain ⟨sd, s1, s2, s3⟩ := S
  obtain ⟨h1, h2⟩ := h1
  simp only at h1 h2
  subst h1 h2
  exact ⟨_, _, rfl⟩
theorem els_ne {de : ByteArray} (h : ¬ de = ByteArray.empty) : ¬ de.toList = [] ∧ de.toList.isEmpty = false := by
  have h1 : ¬ de.toList = [] := fun e => h (toList_eq (by rw [e, Lib.toList_data]; rfl))
  exact ⟨h1, by cases hd : de.toList; (· exact absurd hd h1); (· rfl)⟩
set_option maxHeartbeats 8000000 in
set_option maxRecDepth 10000 in
theorem states_p {B n c pn pc g : Nat} {a pa : Option Addr} {l : List Du} {ev : List Ev} {ins : Du → Du} {w : World} (on : Int) (h : RdG duE w B (.slice a n c) l) (hp : RdG evE w B (.slice pa pn pc) (upE ev on)) (hi : InsRd w B g ins l) (hB : B ≤ w.heap.size) (hn2 : n ≤ 200) (hon : on ≤ 1000000000) (hti : ∀ x, x ∈ l → -1000000000 ≤ x.til) (htj : ∀ x, x ∈ l → -1000000000 ≤ (ins x).til) :
    Calls Tryz.prog 18 #[.slice a n c, .slice (some ⟨g, 0, none⟩) n n, .agg #[.slice pa pn pc, .int .i64 on]] w fun e w' => (∃ a' n' c', e = .returned (.slice a' n' c') ∧ RdG stE w' w'.heap.size (.slice a' n' c') (statesL ins ev on l)) ∧ Below w.heap.size w w' := by
  obtain ⟨hn, _⟩ := h.len
  have HR := hidIt (And.intro h hn)
  have HI := hidIt hi
  have HT := hidIt (And.intro hti htj)
  have HS : Hid (∀ (d : Du) (of : Int) W, Below w.heap.size w W → -1000000000 ≤ d.til → Calls Tryz.prog 32 #[.agg #[.slice pa pn pc, .int .i64 on], .agg (duE.f d).toArray, .int .i64 of] W fun e w' => e = .returned (.agg (stE.f (stP ev on d of)).toArray) ∧ Below W.heap.size W w') := fun d of W hW hd => state_p d of on (hp.below (hW.mono hB)) (Nat.le_trans hB hW.size) hon hd
  clear h hn hi hti htj hp
  have HX : Hid (StsG w (w.alloc (.cells #[.slice pa pn pc, .int .i64 on] 72)) [.slice pa pn pc, .int .i64 on] [] [] (.slice none 0 0) (.slice none 0 0)) := ⟨alloc_range w _ _, RowG.nil _ _, RowG.nil _ _, (fun k hk => (nomatch hk)), bel1 _ _, by simp⟩
  go_enter Tryz.func18, Tryz.ntmps18
  go_wp2_with fail
  go_loopw [7, 8, 14] (fun t7 t8 t14 wr => ∃ i : Nat, i ≤ n ∧ t14 = .int .i64 i ∧ StsG w wr [.slice pa pn pc, .int .i64 on] (ownL ev on (l.take i)) (othL ins ev on (ownL ev on (l.take i)) 0) t7 t8) (fun _ _ t14 _ => n - (RowKit.intOf t14).toNat)
  case atStart => exact ⟨0, by omega, rfl, HX.out⟩
  case round =>
    obtain ⟨i, hi, rfl, hX⟩ := hrel
    obtain ⟨oa, on7, oc, rfl, hn7⟩ := hX.own.any3
    obtain ⟨ta, tn8, tc, rfl, hn8⟩ := hX.oth.any3
    have HX1 := hidIt hX
    have hlt1 := hX.lt
    have hl7 := own_len ev on (l.take i)
    have hl8 := oth_len ins ev on (ownL ev on (l.take i)) 0
    obtain ⟨A, hA⟩ : ∃ A, A = ownL ev on (l.take i) := ⟨_, rfl⟩
    obtain ⟨C, hC⟩ : ∃ C, C = othL ins ev on A 0 := ⟨_, rfl⟩
    rw [← hA] at HX1 hn7 hn8 hl7 hl8
    rw [← hC] at HX1 hn8 hl8
    have HN : Hid (on7 = A.length ∧ tn8 = C.length ∧ A.length ≤ 200 ∧ C.length ≤ 200) := ⟨hn7, hn8, by rw [List.length_take] at hl7; omega, by rw [List.length_take] at hl7; omega⟩
    have HAC := hidIt (And.intro hA hC)
    have hl9 : on7 ≤ 200 ∧ tn8 ≤ 200 := by have := HN.out; omega
    clear hX HX hn7 hn8 hl7 hl8 hA hC
    by_cases hlt : i < n
    · have c0 : decide ((i : Int) < n) = true := by simp; omega
      obtain ⟨d, he, _⟩ := get_in (l := l) (i := i) (by have := HR.out.2; omega)
      obtain ⟨ga, o, rfl, hg, hrg⟩ := HR.out.1.at he
      obtain ⟨e0, e1, e2, e3, e4, e5, e6, e7⟩ := du_cells (range_bel hrg (HX1.out.bel.mono hB) hg)
      have hk : duE.k = 8 := rfl
      rw [hk] at e0 e1 e2 e3 e4 e5 e6 e7
      have HTk := hidIt (own_take (ev := ev) (on := on) he)
      have HE := hidIt he
      have HM := hidIt (List.mem_of_getElem? he)
      have hiz : (i : Int) < n := by omega
      have hq : ∀ ob : Obj, StsG w (wr.alloc ob) [.slice pa pn pc, .int .i64 on] A C (.slice oa on7 oc) (.slice ta tn8 tc) := fun ob => HX1.out.on (bel1 wr ob)
      have q0 : ∀ ob : Obj, (wr.alloc ob).cell? ⟨w.heap.size, 0, none⟩ = some (.slice pa pn pc) := fun ob => (hq ob).p 0 _ rfl
      have q1 : ∀ ob : Obj, (wr.alloc ob).cell? ⟨w.heap.size, 1, none⟩ = some (.int .i64 on) := fun ob => (hq ob).p 1 _ rfl
      have HQ := hidIt hq
      obtain ⟨dn, dw, df, dt, de, dN, dU, dR⟩ := d
      simp only at e0 e1 e2 e3 e4 e5 e6 e7
      clear hrg he hg hk hq
      by_cases hd : df ≤ on
      · have hd2 : ¬ on < df := by omega
        obtain ⟨st, dy, hS⟩ := stP_form ev on ⟨dn, dw, df, dt, de, dN, dU, dR⟩ (-1)
        have HS1 : Hid (∀ W, Below w.heap.size w W → Calls Tryz.prog 32 #[.agg #[.slice pa pn pc, .int .i64 on], .agg #[.string dn, .string dw, .int .i64 df, .int .i64 dt, .string de, .int .i64 dN, .int .i64 dU, .int .i64 dR], .int .i64 (-1)] W fun e w' => e = .returned (.agg #[.string dn, .string dw, .int .i64 df, .int .i64 dt, .string de, .int .i64 dN, .int .i64 dU, .int .i64 dR, .int .i64 st, .int .i64 dy, .int .i64 (-1)]) ∧ Below W.heap.size W w') := fun W hW => by
          have := HS.out ⟨dn, dw, df, dt, de, dN, dU, dR⟩ (-1) W hW (HT.out.1 _ HM.out)
          rw [hS] at this
          exact this
        have HSt := hidIt hS
        clear hS
        have HDb : Hid (∀ (T : Nat) (W : World), Below (wr.alloc (.cells #[.string dn, .string dw, .int .i64 df, .int .i64 dt, .string de, .int .i64 dN, .int .i64 dU, .int .i64 dR] T)).heap.size (wr.alloc (.cells #[.string dn, .string dw, .int .i64 df, .int .i64 dt, .string de, .int .i64 dN, .int .i64 dU, .int .i64 dR] T)) W → W.rangeAt wr.heap.size 0 (duE.f ⟨dn, dw, df, dt, de, dN, dU, dR⟩)) := fun T W hW => range_bel (alloc_range wr (duE.f ⟨dn, dw, df, dt, de, dN, dU, dR⟩) T) hW (by simp)
        have HA1 : Hid (ownL ev on (l.take (i + 1)) = A ++ [⟨⟨dn, dw, df, dt, de, dN, dU, dR⟩, st, dy, -1⟩]) := by
          have e := HTk.out
          rw [if_pos hd, ← HAC.out.1, HSt.out] at e
          exact e
        go_wp2_with fail
        refine (HS1.out _ (HQ.out _).bel).mono ?_
        rintro e w2 ⟨rfl, hb2⟩
        have HX2 := hidIt ((HQ.out _).on hb2)
        have hs2 : wr.heap.size + 1 ≤ w2.heap.size := by have := hb2.size; simp at this; omega
        have hdb2 := HDb.out _ _ hb2
        have hy : ∀ ob : Obj, (w2.alloc ob).rangeAt wr.heap.size 0 (duE.f ⟨dn, dw, df, dt, de, dN, dU, dR⟩) := fun ob => range_bel hdb2 (bel1 w2 ob) (by omega)
        have y4 := fun ob => (du_cells0 (hy ob)).2.2.2.2.1
        have hz : ∀ ob : Obj, StsG w (w2.alloc ob) [.slice pa pn pc, .int .i64 on] A C (.slice oa on7 oc) (.slice ta tn8 tc) := fun ob => HX2.out.on (bel1 w2 ob)
        have HZ := hidIt hz
        simp only at y4
        clear hb2 hz hy hdb2 e0 e1 e2 e3 e4 e5 e6 e7 q0 q1 HDb HS1 HTk HQ
        by_cases hbad : isBad ⟨⟨dn, dw, df, dt, de, dN, dU, dR⟩, st, dy, -1⟩ = true
        · have hb' : ¬ de = ByteArray.empty ∧ (st = 3 ∨ st = 2) := by simpa [isBad] using hbad
          obtain ⟨hde, hst⟩ := hb'
          obtain ⟨n1, n2⟩ := els_ne hde
          have HC1 : Hid (othL ins ev on (ownL ev on (l.take (i + 1))) 0 = C ++ [stP ev on (ins ⟨dn, dw, df, dt, de, dN, dU, dR⟩) (on7 : Int)]) := by
            show _ = _
            rw [HA1.out, oth_app, ← HAC.out.2, if_pos hbad, Nat.zero_add, HN.out.1]
          have hir := HI.out.2 i _ HE.out hde
          have hti := HT.out.2 _ HM.out
          clear hbad
          generalize ins ⟨dn, dw, df, dt, de, dN, dU, dR⟩ = J at *
          obtain ⟨jn, jw, jf, jt, je, jN, jU, jR⟩ := J
          obtain ⟨st2, dy2, hS2⟩ := stP_form ev on ⟨jn, jw, jf, jt, je, jN, jU, jR⟩ (on7 : Int)
          have HS2 : Hid (∀ W, Below w.heap.size w W → Calls Tryz.prog 32 #[.agg #[.slice pa pn pc, .int .i64 on], .agg #[.string jn, .string jw, .int .i64 jf, .int .i64 jt, .string je, .int .i64 jN, .int .i64 jU, .int .i64 jR], .int .i64 (on7 : Int)] W fun e w' => e = .returned (.agg #[.string jn, .string jw, .int .i64 jf, .int .i64 jt, .string je, .int .i64 jN, .int .i64 jU, .int .i64 jR, .int .i64 st2, .int .i64 dy2, .int .i64 (on7 : Int)]) ∧ Below W.heap.size W w') := fun W hW => by
            have := HS.out ⟨jn, jw, jf, jt, je, jN, jU, jR⟩ (on7 : Int) W hW hti
            rw [hS2] at this
            exact this
          rw [hS2] at HC1
          have HG : Hid (∀ W, Below w.heap.size w W → W.rangeAt g (i * 8) (duE.f ⟨jn, jw, jf, jt, je, jN, jU, jR⟩)) := fun W hW => range_bel hir (hW.mono hB) HI.out.1
          clear hir hti hS2
          rcases hst with rfl | rfl
          · have hz0 : ∀ ob : Obj, (w2.alloc ob).cell? ⟨w.heap.size, 0, none⟩ = some (.slice pa pn pc) := fun ob => (HZ.out ob).p 0 _ rfl
            have hz1 : ∀ ob : Obj, (w2.alloc ob).cell? ⟨w.heap.size, 1, none⟩ = some (.int .i64 on) := fun ob => (HZ.out ob).p 1 _ rfl
            have hgc : ∀ ob : Obj, (w2.alloc ob).rangeAt g (i * 8) (duE.f ⟨jn, jw, jf, jt, je, jN, jU, jR⟩) := fun ob => HG.out _ (HZ.out ob).bel
            have g0 := fun ob => (du_cells (hgc ob)).1
            have g1 := fun ob => (du_cells (hgc ob)).2.1
            have g2 := fun ob => (du_cells (hgc ob)).2.2.1
            have g3 := fun ob => (du_cells (hgc ob)).2.2.2.1
            have g4 := fun ob => (du_cells (hgc ob)).2.2.2.2.1
            have g5 := fun ob => (du_cells (hgc ob)).2.2.2.2.2.1
            have g6 := fun ob => (du_cells (hgc ob)).2.2.2.2.2.2.1
            have g7 := fun ob => (du_cells (hgc ob)).2.2.2.2.2.2.2
            simp only at g0 g1 g2 g3 g4 g5 g6 g7
            have HSB : Hid (∀ T, (w2.alloc (.cells #[.string dn, .string dw, .int .i64 df, .int .i64 dt, .string de, .int .i64 dN, .int .i64 dU, .int .i64 dR, .int .i64 3, .int .i64 dy, .int .i64 (-1)] T)).rangeAt w2.heap.size 0 (stE.f ⟨⟨dn, dw, df, dt, de, dN, dU, dR⟩, 3, dy, -1⟩)) := fun T => alloc_range w2 (stE.f ⟨⟨dn, dw, df, dt, de, dN, dU, dR⟩, 3, dy, -1⟩) T
            have HSN : Hid (∀ k, (Value.slice ta tn8 tc).ownBlock = some k → k < w2.heap.size) := fun k hk => (HX2.out.oth.blk hk).2
            clear hgc
            go_wp2_with fail
            go_region_law (first
              | (go_simp; go_at_call 32; refine (HS2.out _ ?_).mono ?_; (· first | exact (HZ.out _).bel | exact (HZ.out _).drew.bel); rintro e w5 ⟨rfl, hb5⟩; have HX5 := hidIt ((HZ.out _).drew.on hb5); have HK5 := hidIt (range_bel (range_drew (HSB.out _)) hb5 (by simp)); have hs5 : w2.heap.size + 1 ≤ w5.heap.size := (by have := hb5.size; simp at this; omega); have k0 : w5.cell? ⟨w.heap.size, 0, none⟩ = some (.slice pa pn pc) := HX5.out.p 0 _ rfl; have k1 : w5.cell? ⟨w.heap.size, 1, none⟩ = some (.int .i64 on) := HX5.out.p 1 _ rfl; clear hb5)
              | (refine step_push_g (E := stE) Tryz.infoSt (by decide) Tryz.underlying34 rfl (.tmp 40) (.tmp 49) rfl (w.heap.size + 1) (.slice ta tn8 tc) C ⟨⟨jn, jw, jf, jt, je, jN, jU, jR⟩, st2, dy2, (on7 : Int)⟩ _ rfl (by simp [Act.eval]) HX5.out.oth (by simp [Act.eval]) (by omega) (by have := HN.out; omega) ?_; intro v6 w6 hr6 hb6 hk6 hn6; obtain ⟨a6, n6, c6, rfl, h6⟩ := hr6.any3; have H6 := hidIt h6; have HY6 := hidIt (HX5.out.pushOth hr6 hb6 hk6 hn6); have hs6 := hb6.size; have kr := range_on HK5.out (hk6 w2.heap.size (fun e => absurd (HSN.out _ e) (Nat.lt_irrefl _)) (by omega)); obtain ⟨m0, m1, m2, m3, m4, m5, m6, m7, m8, m9, m10⟩ := st_cells0 kr; simp only at m0 m1 m2 m3 m4 m5 m6 m7 m8 m9 m10; clear h6 hr6 hb6 hk6 hn6 kr))
            all_goals
              go_wp2_with (at_builtin; refine wpList_push_g (E := stE) Tryz.infoSt (by decide) Tryz.underlying34 rfl (.tmp 51) (.tmp 53) rfl (w.heap.size + 1) (.slice oa on7 oc) A ⟨⟨dn, dw, df, dt, de, dN, dU, dR⟩, 3, dy, -1⟩ _ rfl rfl HY6.out.own (by first | (simp [Act.eval]; done) | simp [Act.eval, Act.put]) (by first | omega | (simp; omega)) (by have := HN.out; omega) ?_; intro v' w9 hr9 hb9 hk9 hn9; obtain ⟨a9, n9, c9, rfl, h9⟩ := hr9.any3; have H9 := hidIt h9; clear h9; have HY := hidIt (HY6.out.pushOwn hr9 hb9 hk9 hn9); clear hr9 hb9 hk9 hn9)
              refine ⟨⟨i + 1, by omega, by go_num, ?_⟩, by simp [RowKit.intOf]; omega⟩
              rw [HC1.out, HA1.out]
              exact HY.out
          · have hz0 : ∀ ob : Obj, (w2.alloc ob).cell? ⟨w.heap.size, 0, none⟩ = some (.slice pa pn pc) := fun ob => (HZ.out ob).p 0 _ rfl
            have hz1 : ∀ ob : Obj, (w2.alloc ob).cell? ⟨w.heap.size, 1, none⟩ = some (.int .i64 on) := fun ob => (HZ.out ob).p 1 _ rfl
            have hgc : ∀ ob : Obj, (w2.alloc ob).rangeAt g (i * 8) (duE.f ⟨jn, jw, jf, jt, je, jN, jU, jR⟩) := fun ob => HG.out _ (HZ.out ob).bel
            have g0 := fun ob => (du_cells (hgc ob)).1
            have g1 := fun ob => (du_cells (hgc ob)).2.1
            have g2 := fun ob => (du_cells (hgc ob)).2.2.1
            have g3 := fun ob => (du_cells (hgc ob)).2.2.2.1
            have g4 := fun ob => (du_cells (hgc ob)).2.2.2.2.1
            have g5 := fun ob => (du_cells (hgc ob)).2.2.2.2.2.1
            have g6 := fun ob => (du_cells (hgc ob)).2.2.2.2.2.2.1
            have g7 := fun ob => (du_cells (hgc ob)).2.2.2.2.2.2.2
            simp only at g0 g1 g2 g3 g4 g5 g6 g7
            have HSB : Hid (∀ T, (w2.alloc (.cells #[.string dn, .string dw, .int .i64 df, .int .i64 dt, .string de, .int .i64 dN, .int .i64 dU, .int .i64 dR, .int .i64 2, .int .i64 dy, .int .i64 (-1)] T)).rangeAt w2.heap.size 0 (stE.f ⟨⟨dn, dw, df, dt, de, dN, dU, dR⟩, 2, dy, -1⟩)) := fun T => alloc_range w2 (stE.f ⟨⟨dn, dw, df, dt, de, dN, dU, dR⟩, 2, dy, -1⟩) T
            have HSN : Hid (∀ k, (Value.slice ta tn8 tc).ownBlock = some k → k < w2.heap.size) := fun k hk => (HX2.out.oth.blk hk).2
            clear hgc
            go_wp2_with fail
            go_region_law (first
              | (go_simp; go_at_call 32; refine (HS2.out _ ?_).mono ?_; (· first | exact (HZ.out _).bel | exact (HZ.out _).drew.bel); rintro e w5 ⟨rfl, hb5⟩; have HX5 := hidIt ((HZ.out _).drew.on hb5); have HK5 := hidIt (range_bel (range_drew (HSB.out _)) hb5 (by simp)); have hs5 : w2.heap.size + 1 ≤ w5.heap.size := (by have := hb5.size; simp at this; omega); have k0 : w5.cell? ⟨w.heap.size, 0, none⟩ = some (.slice pa pn pc) := HX5.out.p 0 _ rfl; have k1 : w5.cell? ⟨w.heap.size, 1, none⟩ = some (.int .i64 on) := HX5.out.p 1 _ rfl; clear hb5)
              | (refine step_push_g (E := stE) Tryz.infoSt (by decide) Tryz.underlying34 rfl (.tmp 40) (.tmp 49) rfl (w.heap.size + 1) (.slice ta tn8 tc) C ⟨⟨jn, jw, jf, jt, je, jN, jU, jR⟩, st2, dy2, (on7 : Int)⟩ _ rfl (by simp [Act.eval]) HX5.out.oth (by simp [Act.eval]) (by omega) (by have := HN.out; omega) ?_; intro v6 w6 hr6 hb6 hk6 hn6; obtain ⟨a6, n6, c6, rfl, h6⟩ := hr6.any3; have H6 := hidIt h6; have HY6 := hidIt (HX5.out.pushOth hr6 hb6 hk6 hn6); have hs6 := hb6.size; have kr := range_on HK5.out (hk6 w2.heap.size (fun e => absurd (HSN.out _ e) (Nat.lt_irrefl _)) (by omega)); obtain ⟨m0, m1, m2, m3, m4, m5, m6, m7, m8, m9, m10⟩ := st_cells0 kr; simp only at m0 m1 m2 m3 m4 m5 m6 m7 m8 m9 m10; clear h6 hr6 hb6 hk6 hn6 kr))
            all_goals
              go_wp2_with (at_builtin; refine wpList_push_g (E := stE) Tryz.infoSt (by decide) Tryz.underlying34 rfl (.tmp 51) (.tmp 53) rfl (w.heap.size + 1) (.slice oa on7 oc) A ⟨⟨dn, dw, df, dt, de, dN, dU, dR⟩, 2, dy, -1⟩ _ rfl rfl HY6.out.own (by first | (simp [Act.eval]; done) | simp [Act.eval, Act.put]) (by first | omega | (simp; omega)) (by have := HN.out; omega) ?_; intro v' w9 hr9 hb9 hk9 hn9; obtain ⟨a9, n9, c9, rfl, h9⟩ := hr9.any3; have H9 := hidIt h9; clear h9; have HY := hidIt (HY6.out.pushOwn hr9 hb9 hk9 hn9); clear hr9 hb9 hk9 hn9)
              refine ⟨⟨i + 1, by omega, by go_num, ?_⟩, by simp [RowKit.intOf]; omega⟩
              rw [HC1.out, HA1.out]
              exact HY.out
        · have HC1 : Hid (othL ins ev on (ownL ev on (l.take (i + 1))) 0 = C) := by
            show _ = _
            rw [HA1.out, oth_app, ← HAC.out.2, if_neg hbad, List.append_nil]
          by_cases hde : de = ByteArray.empty
          · subst hde
            go_wp2_with (at_builtin; refine wpList_push_g (E := stE) Tryz.infoSt (by decide) Tryz.underlying34 rfl (.tmp 51) (.tmp 53) rfl (w.heap.size + 1) (.slice oa on7 oc) A ⟨⟨dn, dw, df, dt, ByteArray.empty, dN, dU, dR⟩, st, dy, -1⟩ _ rfl rfl (HZ.out _).own (by first | (simp [Act.eval]; done) | simp [Act.eval, Act.put]) (by first | omega | (simp; omega)) (by have := HN.out; omega) ?_; intro v' w9 hr9 hb9 hk9 hn9; obtain ⟨a9, n9, c9, rfl, h9⟩ := hr9.any3; have H9 := hidIt h9; clear h9; have HY := hidIt ((HZ.out _).pushOwn hr9 hb9 hk9 hn9); clear hr9 hb9 hk9 hn9)
            refine ⟨⟨i + 1, by omega, by go_num, ?_⟩, by simp [RowKit.intOf]; omega⟩
            rw [HC1.out, HA1.out]
            exact HY.out
          · have hst : ¬ st = 3 ∧ ¬ st = 2 := ⟨fun e => hbad (by subst e; simp [isBad, hde]), fun e => hbad (by subst e; simp [isBad, hde])⟩
            obtain ⟨hst3, hst2⟩ := hst
            have b3 : (st == 3) = false := by simp [hst3]
            have b2 : (st == 2) = false := by simp [hst2]
            obtain ⟨n1, n2⟩ := els_ne hde
            clear hbad hde
            go_wp2_with (at_builtin; refine wpList_push_g (E := stE) Tryz.infoSt (by decide) Tryz.underlying34 rfl (.tmp 51) (.tmp 53) rfl (w.heap.size + 1) (.slice oa on7 oc) A ⟨⟨dn, dw, df, dt, de, dN, dU, dR⟩, st, dy, -1⟩ _ rfl rfl (HZ.out _).own (by first | (simp [Act.eval]; done) | simp [Act.eval, Act.put]) (by first | omega | (simp; omega)) (by have := HN.out; omega) ?_; intro v' w9 hr9 hb9 hk9 hn9; obtain ⟨a9, n9, c9, rfl, h9⟩ := hr9.any3; have H9 := hidIt h9; clear h9; have HY := hidIt ((HZ.out _).pushOwn hr9 hb9 hk9 hn9); clear hr9 hb9 hk9 hn9)
            refine ⟨⟨i + 1, by omega, by go_num, ?_⟩, by simp [RowKit.intOf]; omega⟩
            rw [HC1.out, HA1.out]
            exact HY.out
      · have hd2 : on < df := by omega
        go_wp2
        refine ⟨⟨i + 1, by omega, by go_num, ?_⟩, by simp [RowKit.intOf]; omega⟩
        have e := HTk.out
        rw [if_neg hd, ← HAC.out.1] at e
        rw [e, ← HAC.out.2]
        exact HQ.out _
    · have c0 : decide ((i : Int) < n) = false := by simp; omega
      have HTk : Hid (l.take i = l) := List.take_of_length_le (by have := HR.out.2; omega)
      have HST : Hid (statesL ins ev on l = A ++ C) := by
        have h1 := HAC.out.1
        rw [HTk.out] at h1
        show _ = _
        unfold statesL
        rw [← h1, ← HAC.out.2]
      go_wp2_with (at_builtin; refine wpList_cat_g (E := stE) Tryz.infoSt (by decide) Tryz.underlying34 rfl (.tmp 56) (.tmp 57) rfl (w.heap.size + 1) (.slice oa on7 oc) (.slice ta tn8 tc) A C rfl HX1.out.own rfl HX1.out.oth hlt1 (by have := HN.out; omega) ?_; intro v' w9 hr9 hb9; obtain ⟨a9, n9, c9, rfl, h9⟩ := hr9.any3; have H9 := hidIt h9; have HR9 := hidIt hr9; have HB9 := hidIt hb9; clear h9 hr9 hb9)
      go_ret
      refine ⟨⟨a9, n9, c9, rfl, ?_⟩, HX1.out.bel.trans (HB9.out.mono (by omega))⟩
      rw [HST.out]
      exact HR9.out.rd
end Go.Proofs.YtkaeolcchhneoaaGreatDoor
