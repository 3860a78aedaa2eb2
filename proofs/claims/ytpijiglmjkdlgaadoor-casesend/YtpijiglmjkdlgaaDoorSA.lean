/-
  Plans: the stages in a map, each with a number of its own.
-/
import Derived.Test.YtpijiglmjkdlgaaDoorVA
import Derived.Maps.OwnOps
import Derived.Maps.OwnSet
import Derived.Maps.Views
import Derived.Maps.Ext
import Derived.WalkSpells
namespace Go.Proofs.YtpijiglmjkdlgaaDoor
open Go.RowKit Go.Maps

def kA (a : ByteArray) : Lit := .string a.data.toList
theorem kA_inj {a b : ByteArray} (h : kA a = kA b) : a = b := by
  injection h with h
  exact ByteArray.ext (Array.toList_inj.1 h)
theorem kA_key (a : ByteArray) : WideAt.IsKeyLit (kA a) := trivial
theorem lawStr : Keyed Tryd.prog 9 := string_keyed Tryd.underlying9
theorem zeroIntW (w : World) : (zeroValue 3).run Tryd.prog w = .ok (.int .i64 0) w := by kernel_rfl
theorem keyA {a : ByteArray} (h : a.size ≤ maxLen) : Go.keyOf Tryd.prog 9 (.string a) = some (kA a) := Go.WideMaps.keyOf_string_mk Tryd.underlying9 h
abbrev i0D : DataW Unit := .lit (.int .i64 0)
abbrev iD (n : Int) : DataW Unit := .lit (.int .i64 n)
abbrev MapI (w : World) (b n : Nat) (D : DataW Unit) : Prop := w.ownsMap Tryd.prog 9 (plainElem (H := Unit) Tryd.prog 3) b n D
theorem MapI.lt' {w : World} {k n : Nat} {D : DataW Unit} (h : MapI w k n D) : k < w.heap.size := by
  obtain ⟨_, _, h, _⟩ := h
  exact (Array.getElem?_eq_some_iff.1 h).1
theorem MapI.noCell {w : World} {k n i : Nat} {D : DataW Unit} {v : Value} (h : MapI w k n D) (h' : w.cell? ⟨k, i, none⟩ = some v) : False := by
  obtain ⟨_, _, h, _⟩ := h
  have h1 := Array.getElem?_eq_some_iff.1 h
  obtain ⟨h2, h3⟩ := h1
  simp [World.cell?, h] at h'
/-- The map holds the stages with their numbers. -/
structure IsStg (D : DataW Unit) (l : List ByteArray) : Prop where
  is : IsMap D
  td : Tidy D
  has : ∀ a, Maps.has D (kA a) = true ↔ a ∈ l
  at' : ∀ a, a ∈ l → D.atKey (kA a) i0D = iD (ixS l a)
  size : Maps.size D = l.length
theorem IsStg.nil : IsStg (.map []) [] := ⟨isMap_empty, ⟨[], rfl, List.Pairwise.nil⟩, fun a => by simp [Maps.has], fun a h => absurd h (by simp), rfl⟩
theorem ixS_old {l : List ByteArray} {a b : ByteArray} (h : b ∈ l) : ixS (l ++ [a]) b = ixS l b := by
  unfold ixS
  rw [List.findIdx_append, if_pos]
  exact List.findIdx_lt_length_of_exists ⟨b, h, by simp⟩
theorem ixS_new {l : List ByteArray} {a : ByteArray} (h : a ∉ l) : ixS (l ++ [a]) a = l.length := by
  unfold ixS
  have h1 : List.findIdx (fun x => decide (x = a)) l = l.length := List.findIdx_eq_length.2 fun x hx => by
    simp
    rintro rfl
    exact h hx
  rw [List.findIdx_append, if_neg (by rw [h1]; omega)]
  simp
theorem IsStg.put {D : DataW Unit} {l : List ByteArray} (h : IsStg D l) {a : ByteArray} (ha : a ∉ l) : IsStg (D.put (kA a) (iD l.length)) (l ++ [a]) := by
  have hn : Maps.has D (kA a) = false := by
    rw [Bool.eq_false_iff]
    exact fun h9 => ha ((h.has a).1 h9)
  refine ⟨h.is.put _ _, h.td.put (kA_key a) _, fun b => ?_, fun b hb => ?_, ?_⟩
  · by_cases e : a = b
    · subst e
      rw [has_put_same h.is (kA_key _)]
      simp
    · rw [has_put_other (fun q => e (kA_inj q).symm), h.has]
      simp
      exact fun q => absurd q.symm e
  · by_cases e : a = b
    · subst e
      rw [ixS_new ha]
      exact atKey_put_same h.is (kA_key _) _ _
    · have hb' : b ∈ l := by
        rcases List.mem_append.1 hb with h9 | h9
        · exact h9
        · simp at h9
          exact absurd h9.symm e
      rw [atKey_put_other (fun q => e (kA_inj q).symm), ixS_old hb']
      exact h.at' b hb'
  · rw [size_put h.td, if_neg (by rw [hn]; decide), h.size]
    simp
/-- The map in memory. -/
def StAt (w : World) (mb : Nat) (l : List ByteArray) : Prop := ∃ D, MapI w mb l.length D ∧ IsStg D l
theorem StAt.on {w w' : World} {mb : Nat} {l : List ByteArray} (h : StAt w mb l) (hb : w'.heap[mb]? = w.heap[mb]?) : StAt w' mb l := by
  obtain ⟨D, ⟨es, c, h1, h2⟩, h3⟩ := h
  exact ⟨D, ⟨es, c, hb.trans h1, h2⟩, h3⟩
theorem StAt.lt {w : World} {mb : Nat} {l : List ByteArray} (h : StAt w mb l) : mb < w.heap.size := by
  obtain ⟨D, h, _⟩ := h
  exact h.lt'
theorem wfStg {n : Nat} (h : n < 1000000000000000) : (Lit.int .i64 (n : Int)).wf = true := by
  have e1 : IntKind.i64.min = -9223372036854775808 := by rfl
  have e2 : IntKind.i64.max = 9223372036854775807 := by rfl
  show (decide (IntKind.i64.min ≤ (n : Int)) && decide ((n : Int) ≤ IntKind.i64.max)) = true
  rw [e1, e2, Bool.and_eq_true]
  exact ⟨by simp <;> omega, by simp <;> omega⟩
theorem grownBy_refl (w : World) (r : Option Nat) : w.grownBy w r := ⟨rfl, rfl, rfl, Nat.le_refl _, fun _ _ _ => rfl⟩
set_option maxHeartbeats 2000000 in
theorem add_p {V : World} {sb mb : Nat} {l : List ByteArray} {s : ByteArray} (hc : V.cell? ⟨sb, 0, none⟩ = some (.map (some mb))) (h : StAt V mb l) (hs : s.size ≤ maxLen) (hl : l.length < 1000000000000000) :
    Calls Tryd.prog 38 #[.string s, .pointer (some ⟨sb, 0, none⟩)] V fun e w' => e = .returned (.tuple #[]) ∧ StAt w' mb (addS l s) ∧ V.grownBy w' (some mb) := by
  obtain ⟨D, hM, hI⟩ := h
  have HM := hidLL hM
  have HK := hidLL (keyA hs)
  have hh := hI.has s
  by_cases hin : s ∈ l
  · have hb : Maps.has D (kA s) = true := hh.2 hin
    have HP : Hid (StAt V mb (addS l s)) := by
      unfold addS
      rw [if_pos hin]
      exact ⟨D, hM, hI⟩
    clear hI hM hh hs
    go_enter Tryd.func38, Tryd.ntmps38
    go_wp2_with (at_lookup; refine wpList_lookup_own_ok_int _ rfl _ _ 68 rfl 9 3 .i64 lawStr Tryd.underlying68 Tryd.underlying3 (zeroIntW _) mb l.length D rfl HM.out (.string s) (kA s) rfl HK.out ?_; intro cc hcc hwc; clear hcc hwc; rw [hb])
    go_end0
    exact ⟨rfl, HP.out, grownBy_refl _ _⟩
  · have hb : Maps.has D (kA s) = false := by
      rw [Bool.eq_false_iff]
      exact fun h9 => hin (hh.1 h9)
    have hsz := hI.size
    have HP : Hid (∀ w', MapI w' mb (l.length + 1) (D.put (kA s) (iD l.length)) → StAt w' mb (addS l s)) := fun w' hw => by
      unfold addS
      rw [if_neg hin]
      exact ⟨_, by rw [List.length_append]; exact hw, hI.put hin⟩
    clear hI hM hh hs
    go_enter Tryd.func38, Tryd.ntmps38
    go_wp2_with (first
      | (at_lookup; refine wpList_lookup_own_ok_int _ rfl _ _ 68 rfl 9 3 .i64 lawStr Tryd.underlying68 Tryd.underlying3 (zeroIntW _) mb l.length D rfl HM.out (.string s) (kA s) rfl HK.out ?_; intro cc hcc hwc; clear hcc hwc; rw [hb])
      | (at_len; refine wpList_len_own _ rfl _ 68 rfl 9 3 Tryd.underlying68 _ mb l.length D rfl HM.out ?_; rw [hsz])
      | (at_mapUpdate; refine wpList_mapUpdate_own _ rfl _ _ _ 68 rfl 9 3 lawStr Tryd.underlying68 (plainElem (H := Unit) Tryd.prog 3) mb l.length D rfl HM.out (by unfold maxLen; omega) (.string s) (.int .i64 l.length) (kA s) rfl rfl HK.out _ [] (plainElem_int (H := Unit) Tryd.underlying3 (wfStg (by omega))) ?_; intro w9 hM9 hg9; have HM9 := hidLL (And.intro hM9 hg9); clear hM9 hg9))
    go_end0
    exact ⟨rfl, HP.out _ HM9.out.1, HM9.out.2⟩
end Go.Proofs.YtpijiglmjkdlgaaDoor
namespace Go.Proofs.YtpijiglmjkdlgaaDoor
open Go.RowKit Go.Maps

theorem addS_len (l : List ByteArray) (s : ByteArray) : (addS l s).length ≤ l.length + 1 := by
  unfold addS
  split <;> simp
theorem fold_len : ∀ (xs l : List ByteArray), (xs.foldl addS l).length ≤ l.length + xs.length
  | [], l => by simp
  | y :: xs, l => by
    rw [List.foldl_cons]
    have h1 := fold_len xs (addS l y)
    have h2 := addS_len l y
    rw [List.length_cons]
    omega
/-- The stages' names, so far. -/
def Pn.namesF (p : Pn) (j : Nat) : List ByteArray := p.start :: p.fin.take j
def Pn.namesM (p : Pn) (j : Nat) : List ByteArray := p.start :: (p.fin ++ (p.mvs.take j).flatMap fun m => [m.fr, m.tt])
theorem names_len (p : Pn) : p.names.length = 1 + p.fin.length + 2 * p.mvs.length := by
  have : ∀ l : List Mv, (l.flatMap fun m => [m.fr, m.tt]).length = 2 * l.length := by
    intro l
    induction l with
    | nil => rfl
    | cons m l ih =>
      rw [List.flatMap_cons, List.length_append, ih]
      simp
      omega
  unfold Pn.names
  rw [List.length_cons, List.length_append, this]
  omega
theorem stL_len (p : Pn) : p.stL.length ≤ 1 + p.fin.length + 2 * p.mvs.length := by
  have := fold_len p.names []
  rw [names_len] at this
  unfold Pn.stL onceL
  simpa using this
theorem namesF_0 (p : Pn) : onceL (p.namesF 0) = addS [] p.start := by simp [Pn.namesF, onceL]
theorem namesF_s {p : Pn} {j : Nat} {s : ByteArray} (h : p.fin[j]? = some s) : onceL (p.namesF (j + 1)) = addS (onceL (p.namesF j)) s := by
  unfold onceL Pn.namesF
  rw [List.take_add_one, h]
  simp [List.foldl_append]
theorem namesF_e (p : Pn) {j : Nat} (h : p.fin.length ≤ j) : onceL (p.namesF j) = onceL (p.namesM 0) := by
  unfold Pn.namesF Pn.namesM
  rw [List.take_of_length_le h]
  simp
theorem namesM_s {p : Pn} {j : Nat} {m : Mv} (h : p.mvs[j]? = some m) : onceL (p.namesM (j + 1)) = addS (addS (onceL (p.namesM j)) m.fr) m.tt := by
  unfold onceL Pn.namesM
  rw [List.take_add_one, h]
  simp [List.foldl_append, List.flatMap_append]
theorem namesM_e (p : Pn) {j : Nat} (h : p.mvs.length ≤ j) : onceL (p.namesM j) = p.stL := by
  unfold Pn.namesM Pn.stL Pn.names
  rw [List.take_of_length_le h]
theorem namesF_len (p : Pn) (j : Nat) : (onceL (p.namesF j)).length ≤ 1 + p.fin.length := by
  have := fold_len (p.namesF j) []
  unfold onceL
  have h2 : (p.namesF j).length ≤ 1 + p.fin.length := by
    unfold Pn.namesF
    rw [List.length_cons, List.length_take]
    omega
  simp at this
  omega
theorem namesM_len (p : Pn) (j : Nat) : (onceL (p.namesM j)).length ≤ 1 + p.fin.length + 2 * p.mvs.length := by
  have := fold_len (p.namesM j) []
  unfold onceL
  have h2 : (p.namesM j).length ≤ 1 + p.fin.length + 2 * p.mvs.length := by
    have h3 := names_len ⟨p.start, p.fin, p.mvs.take j⟩
    have h4 : (p.namesM j).length = _ := h3
    rw [h4]
    simp only [List.length_take]
    omega
  simp at this
  omega
section
variable {w0 w w' : World} {ab mb sb : Nat} {S : Nat → Prop} {p : Pn} {pf pm : SlV} {l l' : List ByteArray}
structure SBx (w0 w : World) (ab mb sb : Nat) (S : Nat → Prop) (p : Pn) (pf pm : SlV) (l : List ByteArray) : Prop where
  pb : PBx w0 w ab S p pf pm
  sc : w.cell? ⟨sb, 0, none⟩ = some (.map (some mb))
  st : StAt w mb l
  low : ∀ k, S k → k < w0.heap.size
  ge : w0.heap.size ≤ mb
theorem SBx.step (h : SBx w0 w ab mb sb S p pf pm l) (hb : Below w.heap.size w w') : SBx w0 w' ab mb sb S p pf pm l :=
  ⟨h.pb.step hb, (hb.cell (p := ⟨sb, 0, none⟩) (cell_lt h.sc)).trans h.sc, h.st.on (hb.block _ h.st.lt), h.low, h.ge⟩
theorem SBx.add (h : SBx w0 w ab mb sb S p pf pm l) (hS : StAt w' mb l') (hg : w.grownBy w' (some mb)) : SBx w0 w' ab mb sb S p pf pm l' := by
  have hne : ∀ {k i : Nat} {v : Value}, w.cell? ⟨k, i, none⟩ = some v → w'.heap[k]? = w.heap[k]? := fun {k i v} hk => hg.block k (cell_lt hk) fun e => by
    injection e with e
    subst e
    obtain ⟨D, hM, _⟩ := h.st
    exact hM.noCell hk
  have hlow : ∀ k, k < w0.heap.size → w'.heap[k]? = w.heap[k]? := fun k hk => hg.block k (Nat.lt_of_lt_of_le hk h.pb.bel.size) fun e => by
    injection e with e
    have := h.ge
    omega
  have hk : ∀ k, S k → S k ∧ w'.heap[k]? = w.heap[k]? := fun k hk => ⟨hk, hlow k (h.low k hk)⟩
  refine ⟨⟨⟨h.pb.pn.fin.on hk, h.pb.pn.mvs.on hk, fun k hk => Nat.lt_of_lt_of_le (h.pb.pn.lt k hk) hg.size, h.pb.pn.cap⟩, (hne h.pb.cells.1).trans h.pb.blk, ?_⟩, hg.cell h.sc fun e => ?_, hS, h.low, h.ge⟩
  · exact ⟨hg.os.trans h.pb.bel.os, hg.tape.trans h.pb.bel.tape, hg.output.trans h.pb.bel.output, Nat.le_trans h.pb.bel.size hg.size, fun k hk => (hlow k hk).trans (h.pb.bel.block k hk)⟩
  · injection e with e
    obtain ⟨D, hM, _⟩ := h.st
    have h9 := h.sc
    have e : sb = mb := e
    rw [e] at h9
    exact hM.noCell h9
end
section
variable {w : World} {S : Nat → Prop} {p : Pn} {pf pm : SlV}
def StR (w : World) (p : Pn) (e : Ending) (w' : World) : Prop := ∃ mb, e = .returned (.map (some mb)) ∧ w.heap.size ≤ mb ∧ StAt w' mb p.stL ∧ Below w.heap.size w w'
set_option maxHeartbeats 4000000 in
theorem stages_p (h : PnAt w S p pf pm) (hsz : ∀ s, s ∈ p.names → s.size ≤ maxLen) : Calls Tryd.prog 25 #[.agg #[.string p.start, .slice pf.a pf.n pf.c, .slice pm.a pm.n pm.c]] w (StR w p) := by
  obtain ⟨W, hW⟩ : ∃ W, W = w.alloc (.cells #[.string p.start, .slice pf.a pf.n pf.c, .slice pm.a pm.n pm.c] 33) := ⟨_, rfl⟩
  obtain ⟨ab, hab⟩ : ∃ ab, ab = w.heap.size := ⟨_, rfl⟩
  obtain ⟨mb, hmb⟩ : ∃ mb, mb = W.heap.size := ⟨_, rfl⟩
  obtain ⟨W1, hW1⟩ : ∃ W1, W1 = W.alloc (.map #[] 0) := ⟨_, rfl⟩
  obtain ⟨sb, hsb⟩ : ∃ sb, sb = W1.heap.size := ⟨_, rfl⟩
  obtain ⟨W2, hW2⟩ : ∃ W2, W2 = W1.alloc (.cells #[.map (some mb)] 68) := ⟨_, rfl⟩
  have H : Hid (SBx w W2 ab mb sb S p pf pm []) := by
    have hb2 : Below W1.heap.size W1 W2 := by rw [hW2]; exact (Below.refl _ _).alloc (Nat.le_refl _) _
    have hb1 : Below W.heap.size W W1 := by rw [hW1]; exact (Below.refl _ _).alloc (Nat.le_refl _) _
    have hP := (PBx.mk0 h hW).step (hb1.trans (hb2.mono hb1.size))
    rw [← hab] at hP
    have hM : MapI W1 mb 0 (.map []) := by rw [hmb, hW1]; exact World.ownsMap_made _ _ _ _
    have hS1 : StAt W1 mb [] := ⟨_, hM, IsStg.nil⟩
    refine ⟨hP, by rw [hW2, hsb]; simp, hS1.on (hb2.block _ hS1.lt), h.lt, ?_⟩
    rw [hmb, hW]
    simp
  have HW : Hid (W2 = ((w.alloc (.cells #[.string p.start, .slice pf.a pf.n pf.c, .slice pm.a pm.n pm.c] 33)).alloc (.map #[] 0)).alloc (.cells #[.map (some (w.heap.size + 1))] 68) ∧ sb = w.heap.size + 1 + 1 ∧ mb = w.heap.size + 1 ∧ ab = w.heap.size) := by
    subst hW hab hmb hW1 hsb hW2
    refine ⟨by simp, by simp, by simp, rfl⟩
  obtain ⟨hpn, hbig⟩ := h.mvs.len
  obtain ⟨hfn, hbigF⟩ := h.fin.len
  have HN := hidLL (And.intro hpn hfn)
  have HZ := hidLL hsz
  obtain ⟨c0, c1, c2⟩ := H.out.pb.cells
  have cs := H.out.sc
  clear h hW hab hpn hfn hmb hW1 hsb hW2 hsz
  obtain ⟨mn, hmn⟩ : ∃ mn, mn = pm.n := ⟨_, rfl⟩
  obtain ⟨fn, hfn⟩ : ∃ fn, fn = pf.n := ⟨_, rfl⟩
  rw [← hmn] at c2 hbig
  rw [← hfn] at c1 hbigF
  have HMn := hidLL (And.intro hmn hfn)
  clear hmn hfn
  have hmm := @run_makeMap Tryd.prog
  go_enter Tryd.func25, Tryd.ntmps25
  go_upto_region 2 with fail
  rw [← HW.out.1, ← HW.out.2.1, ← HW.out.2.2.1, ← HW.out.2.2.2]
  clear hmm
  go_wp2_with fail
  refine (add_p cs H.out.st (HZ.out _ (by simp [Pn.names])) (by simp)).mono ?_
  rintro e V0 ⟨rfl, hS0, hg0⟩
  rw [← namesF_0 p] at hS0
  have HV0 := hidLL (H.out.add hS0 hg0)
  clear hS0 hg0 c0 c1 c2 cs H
  obtain ⟨_, c1, _⟩ := HV0.out.pb.cells
  rw [← HMn.out.2] at c1
  go_wp2_with fail
  go_loopw [18] (fun i wr => ∃ j : Nat, j ≤ fn ∧ i = .int .i64 j ∧ SBx w wr ab mb sb S p pf pm (onceL (p.namesF j))) (fun i _ => fn - (RowKit.intOf i).toNat)
  case atStart => exact ⟨0, by omega, rfl, HV0.out⟩
  case round =>
    obtain ⟨j, hj, rfl, hp⟩ := hrel
    have HB := hidLL hp
    clear hp c1 HV0
    by_cases hlt : j < fn
    · have hjz : (j : Int) < fn := by omega
      obtain ⟨s, hs⟩ : ∃ s, p.fin[j]? = some s := ⟨_, List.getElem?_eq_getElem (by have := HN.out; have := HMn.out; omega)⟩
      obtain ⟨g, o, hga, hg, hrg⟩ := HB.out.pb.pn.fin.at hs
      have y0 : wr.cell? ⟨g, o + j, none⟩ = some (.string s) := by
        have := hrg 0 _ rfl
        rw [show strE.k = 1 from rfl, Nat.mul_one] at this
        exact this
      have cs := HB.out.sc
      have HC := hidLL (add_p cs HB.out.st (HZ.out s (by
        unfold Pn.names
        exact List.mem_cons_of_mem _ (List.mem_append_left _ (List.mem_of_getElem? hs)))) (by have := namesF_len p j; have := HN.out; have := HMn.out; omega))
      have HE := hidLL (namesF_s hs)
      rw [hga]
      clear hs hg hrg hga
      go_wp2_with fail
      refine HC.out.mono ?_
      rintro e V1 ⟨rfl, hS1, hg1⟩
      rw [← HE.out] at hS1
      have HV1 := hidLL (HB.out.add hS1 hg1)
      clear hS1 hg1
      go_wp2
      go_roundw
      case rel => exact ⟨j + 1, by omega, by go_num, HV1.out⟩
      case measure => simp [RowKit.intOf]; omega
    · have hjz : ¬ (j : Int) < fn := by omega
      have HB2 : Hid (SBx w wr ab mb sb S p pf pm (onceL (p.namesM 0))) := by
        have h9 := HB.out
        rw [namesF_e p (by have := HN.out; have := HMn.out; omega)] at h9
        exact h9
      clear HB
      obtain ⟨_, _, c2⟩ := HB2.out.pb.cells
      rw [← HMn.out.1] at c2
      go_wp2_with fail
      go_loopw [29] (fun i wr => ∃ j : Nat, j ≤ mn ∧ i = .int .i64 j ∧ SBx w wr ab mb sb S p pf pm (onceL (p.namesM j))) (fun i _ => mn - (RowKit.intOf i).toNat)
      case atStart => exact ⟨0, by omega, rfl, HB2.out⟩
      case round =>
        obtain ⟨k, hk, rfl, hp⟩ := hrel
        have HB := hidLL hp
        clear hp c2 HB2
        by_cases hlt2 : k < mn
        · have hkz : (k : Int) < mn := by omega
          obtain ⟨m, hm⟩ : ∃ m, p.mvs[k]? = some m := ⟨_, List.getElem?_eq_getElem (by have := HN.out; have := HMn.out; omega)⟩
          obtain ⟨g, o, hga, hg, hrg⟩ := HB.out.pb.pn.mvs.at hm
          rw [show mvE.k = 8 from rfl] at hrg
          obtain ⟨y0, y1, y2, y3, y4, y5, y6, y7⟩ := mv_cells hrg
          obtain ⟨W3, hW3⟩ : ∃ W3, W3 = wr.alloc (.cells #[.string m.nm, .string m.fr, .string m.tt, .string m.wh, .int .i64 m.n, .int .i64 m.u, .int .i64 m.r, .int .i64 m.most] 57) := ⟨_, rfl⟩
          obtain ⟨xb, hxb⟩ : ∃ xb, xb = wr.heap.size := ⟨_, rfl⟩
          have hb3 : Below wr.heap.size wr W3 := by rw [hW3]; exact (Below.refl _ _).alloc (Nat.le_refl _) _
          have hbk : W3.heap[xb]? = some (.cells #[.string m.nm, .string m.fr, .string m.tt, .string m.wh, .int .i64 m.n, .int .i64 m.u, .int .i64 m.r, .int .i64 m.most] 57 (0, 0)) := by rw [hW3, hxb]; exact Go.Deep.blk_alloc_new wr _
          have n1 : W3.cell? ⟨xb, 1, none⟩ = some (.string m.fr) := by rw [cell_of_row _ xb 1 _ _ _ hbk]; rfl
          have n2 : W3.cell? ⟨xb, 2, none⟩ = some (.string m.tt) := by rw [cell_of_row _ xb 2 _ _ _ hbk]; rfl
          have HP3 := hidLL (HB.out.step hb3)
          have hlen : (onceL (p.namesM k)).length ≤ 60000000000000 := by have := namesM_len p k; have := HN.out; have := HMn.out; omega
          have hmem : m.fr ∈ p.names ∧ m.tt ∈ p.names := by
            have := fr_in hm
            rw [mem_stL, mem_stL] at this
            exact this
          have HC := hidLL (add_p HP3.out.sc HP3.out.st (HZ.out m.fr hmem.1) (by omega))
          have HC2 : Hid (∀ V, SBx w V ab mb sb S p pf pm (addS (onceL (p.namesM k)) m.fr) → Calls Tryd.prog 38 #[.string m.tt, .pointer (some ⟨sb, 0, none⟩)] V fun e w' => e = .returned (.tuple #[]) ∧ StAt w' mb (onceL (p.namesM (k + 1))) ∧ V.grownBy w' (some mb)) := fun V hV => by
            rw [namesM_s hm]
            exact add_p hV.sc hV.st (HZ.out m.tt hmem.2) (by have := addS_len (onceL (p.namesM k)) m.fr; omega)
          have HW3 := hidLL (And.intro hW3 hxb)
          rw [hga]
          clear hm hrg hg hga hW3 hxb hb3 hbk hmem
          go_upto_region 12 with fail
          rw [← HW3.out.1, ← HW3.out.2]
          clear y0 y1 y2 y3 y4 y5 y6 y7
          go_wp2_with fail
          refine HC.out.mono ?_
          rintro e V1 ⟨rfl, hS1, hg1⟩
          have HV1 := hidLL (HP3.out.add hS1 hg1)
          have n2' : V1.cell? ⟨xb, 2, none⟩ = some (.string m.tt) := hg1.cell n2 fun e => by
            injection e with e
            have e : xb = mb := e
            rw [e] at n2
            obtain ⟨D, hM, _⟩ := HP3.out.st
            exact hM.noCell n2
          clear hS1 hg1 n1 n2
          go_wp2_with fail
          refine (HC2.out V1 HV1.out).mono ?_
          rintro e V2 ⟨rfl, hS2, hg2⟩
          have HV2 := hidLL (HV1.out.add hS2 hg2)
          clear hS2 hg2
          go_wp2
          go_roundw
          case rel => exact ⟨k + 1, by omega, by go_num, HV2.out⟩
          case measure => simp [RowKit.intOf]; omega
        · have hkz : ¬ (k : Int) < mn := by omega
          have HE : Hid (StAt wr mb p.stL) := by
            have h9 := HB.out.st
            rw [namesM_e p (by have := HN.out; have := HMn.out; omega)] at h9
            exact h9
          have cs := HB.out.sc
          go_wp2
          go_ret
          exact ⟨mb, rfl, HB.out.ge, HE.out, HB.out.pb.bel⟩
end
end Go.Proofs.YtpijiglmjkdlgaaDoor
