/-
  Views in memory: what was looked up.
-/
import Derived.Test.YtcfeflkhmncmjaaGreatDoorMemA
import Derived.Test.YtcfeflkhmncmjaaGreatDoorValA
import Derived.Deep.RegionHeld3
namespace Go.Proofs.YtcfeflkhmncmjaaGreatDoor
open Go.RowKit Go.Maps

def subV (who : Int) (nm : ByteArray) : Value := .agg #[.int .i64 who, .string nm]
theorem Tryz.subFields : ((Tryz.prog.fieldsOf 151).toList.map fun f => (f.name, f.type, f.offset)) = [("who", 3, 0), ("name", 9, 1)] := by kernel_rfl
theorem Tryz.subU : Tryz.prog.underlying 151 = some (.struct (Tryz.prog.fieldsOf 151)) := by kernel_rfl
theorem Tryz.subH : Tryz.prog.stoodInHeld 151 = false := by kernel_rfl
theorem part_sub0 (x0 x1 : Value) (w : World) : (part 3 #[x0, x1] 0).run Tryz.prog w = .ok x0 w := by kernel_rfl
theorem part_sub1 (x0 x1 : Value) (w : World) : (part 9 #[x0, x1] 1).run Tryz.prog w = .ok x1 w := by kernel_rfl
abbrev Sj := Int × ByteArray
def sjV (k : Sj) : Value := subV k.1 k.2
theorem beqB (a b : ByteArray) : (a.toList == b.toList) = decide (a = b) := by
  by_cases h : a = b
  · subst h; simp
  · have : ¬ a.toList = b.toList := fun e => h (by
      rw [ByteArray.toList_eq, ByteArray.toList_eq] at e
      exact ByteArray.ext (Array.toList_inj.1 e))
    simp [h, this]
set_option maxRecDepth 20000 in
theorem eq_sub (k k' : Sj) (w : World) : (Op.equal 151 (sjV k) (sjV k')).run Tryz.prog w = .ok (decide (k = k')) w := by
  obtain ⟨n, s⟩ := k
  obtain ⟨n', s'⟩ := k'
  show (Op.equalIn (9999 + 1) 151 _ _).run Tryz.prog w = _
  unfold sjV subV
  rw [run_equalIn_struct w 9999 _ _ _ Tryz.subU Tryz.subH]
  have hall := eqF_all 9999 #[.int .i64 n, .string s] #[.int .i64 n', .string s'] w _ _ [n == n', s.toList == s'.toList] Tryz.subFields rfl fun i t q ht hq => by
    match i, ht, hq with
    | 0, ht, hq => injection ht with ht; injection hq with hq; subst ht hq; exact ⟨by decide, _, _, part_sub0 _ _ w, part_sub0 _ _ w, run_equalIn_int w 9998 _ _ _ _ _ Tryz.underlying3⟩
    | 1, ht, hq => injection ht with ht; injection hq with hq; subst ht hq; exact ⟨by decide, _, _, part_sub1 _ _ w, part_sub1 _ _ w, run_equalIn_string w 9998 _ _ _ Tryz.underlying9⟩
  rw [hall]
  refine congrArg (fun b => Result.ok b w) ?_
  rw [beqB]
  by_cases e : (n, s) = (n', s')
  · rw [decide_eq_true e]
    injection e with e1 e2
    subst e1 e2
    simp
  · rw [decide_eq_false e, ← Bool.not_eq_true, List.all_eq_true]
    intro hh
    apply e
    have h1 := hh (n == n') (by simp)
    have h2 := hh (decide (s = s')) (by simp)
    simp only [id, decide_eq_true_eq, beq_iff_eq] at h1 h2
    rw [h1, h2]
theorem check_sub (em : Bool) (k : Sj) (w : World) : (Instr.checkKey em 10000 151 (sjV k)).run Tryz.prog w = .ok () w := by
  obtain ⟨n, s⟩ := k
  kernel_rfl
theorem beq_selfB (b : ByteArray) : (b == b) = true := by
  cases b with | mk d => show (d == d) = true; simp
theorem stays_sub (k : Sj) (w : World) : (Instr.keyThatStays (sjV k) (sjV k)).run Tryz.prog w = .ok (sjV k) w := by
  unfold Instr.keyThatStays
  have : Instr.sameBits 10000 (sjV k) (sjV k) = true := by simp [Instr.sameBits, sjV, subV, beq_selfB]
  rw [if_pos this]
  rfl
def subS : KeyS 151 Sj := ⟨sjV, fun _ _ => True, ⟨_, Tryz.subU⟩, fun _ => ⟨_, rfl⟩, fun k k' w _ _ => eq_sub k k' w, check_sub, stays_sub⟩
def entV (x : Int × SlV) : Value := .agg #[.int .i64 x.1, x.2.v]
def ent0 : Int × SlV := (0, ⟨none, 0, 0⟩)
theorem zeroEnt (w : World) : (zeroValue 126).run Tryz.prog w = .ok (entV ent0) w := by
  have h : (Tryz.prog.info? 126).map (fun i => (i.zero, i.size)) = some (some (entV ent0), 2) := by kernel_rfl
  exact (zero_of_info h).1 w
/-- What the file says. -/
def envOf (L : List Fct) (on known : Int) : Env := ⟨fun who nm => (valL L who nm on known).1, fun who nm => othersL L who nm on known⟩
abbrev EntM := Sj → Option (Int × SlV)
/-- What the view has looked up is right, and lies in blocks of a kind. -/
def VMap (w : World) (S : Nat → Prop) (E : Env) (m : EntM) : Prop := ∀ k x, m k = some x → x.1 = E.val k.1 k.2 ∧ RdS intE w S x.2.v (E.oth k.1 k.2)
/-- A VIEW IN MEMORY. -/
structure VW (w0 w : World) (B : Nat) (Z : Nat → Prop) (bv bvm bf : Nat) (L : List Fct) (on known : Int) : Prop where
  v0 : w.cell? ⟨bv, 0, none⟩ = some (.pointer (some ⟨bf, 0, none⟩))
  v1 : w.cell? ⟨bv, 1, none⟩ = some (.int .i64 on)
  v2 : w.cell? ⟨bv, 2, none⟩ = some (.int .i64 known)
  v3 : w.cell? ⟨bv, 3, none⟩ = some (.map (some bvm))
  file : ∃ Bf sv, FFile 61 Bf w0 bf L sv
  bel : Below w0.heap.size w0 w
  good : ∀ x ∈ L, Good x
  few : L.length ≤ 500
  lov : w0.heap.size ≤ bv
  lom : w0.heap.size ≤ bvm
  ltv : bv < B
  ltm : bvm < B
  ne : bv ≠ bvm
  leB : B ≤ w.heap.size
  met : ∃ m, MapK subS entV w bvm m ∧ VMap w (fun k => B ≤ k ∧ k < w.heap.size ∧ ¬ Z k) (envOf L on known) m
theorem VMap.on {w w' : World} {S S' : Nat → Prop} {E : Env} {m : EntM} (h : VMap w S E m) (hb : ∀ k, S k → S' k ∧ w'.heap[k]? = w.heap[k]?) : VMap w' S' E m := fun k x e => ⟨(h k x e).1, (h k x e).2.on hb⟩
theorem VMap.put {w : World} {S : Nat → Prop} {E : Env} {m : EntM} (h : VMap w S E m) (k : Sj) (s : SlV) (hs : RdS intE w S s.v (E.oth k.1 k.2)) : VMap w S E (putK m k (E.val k.1 k.2, s)) := fun k' x e => by
  by_cases ek : k' = k
  · subst ek
    rw [putK_same] at e
    injection e with e
    subst e
    exact ⟨rfl, hs⟩
  · rw [putK_other _ _ ek] at e
    exact h k' x e
theorem VW.step {w0 w w' : World} {B : Nat} {Z Z' X : Nat → Prop} {bv bvm bf : Nat} {L : List Fct} {on known : Int} (h : VW w0 w B Z bv bvm bf L on known) (f : FrX X w w')
    (hX : ∀ k, X k → k ≠ bv ∧ k ≠ bvm ∧ w0.heap.size ≤ k ∧ (k < B ∨ Z k)) (hZ : ∀ k, Z' k → Z k ∨ w.heap.size ≤ k) : VW w0 w' B Z' bv bvm bf L on known := by
  have hbv : w'.heap[bv]? = w.heap[bv]? := f.block bv (cell_lt h.v0) fun e => (hX _ e).1 rfl
  obtain ⟨m, ho, hm⟩ := h.met
  refine ⟨(World.cell?_of_block (a := ⟨bv, 0, none⟩) hbv).trans h.v0, (World.cell?_of_block (a := ⟨bv, 1, none⟩) hbv).trans h.v1, (World.cell?_of_block (a := ⟨bv, 2, none⟩) hbv).trans h.v2, (World.cell?_of_block (a := ⟨bv, 3, none⟩) hbv).trans h.v3, h.file, h.bel.trans (f.below (fun k hk hx => by have := (hX k hx).2.2.1; omega) h.bel.size), h.good, h.few, h.lov, h.lom, h.ltv, h.ltm, h.ne, Nat.le_trans h.leB f.size, m, ?_, hm.on fun k hk => ?_⟩
  · exact ho.on (f.block bvm ho.lt fun e => (hX _ e).2.1 rfl) (fun _ _ _ => trivial)
  · obtain ⟨h1, h2, h3⟩ := hk
    refine ⟨⟨h1, Nat.lt_of_lt_of_le h2 f.size, fun e => ?_⟩, f.block k h2 fun e => ?_⟩
    · rcases hZ k e with h4 | h4
      · exact h3 h4
      · omega
    · rcases (hX k e).2.2.2 with h4 | h4
      · omega
      · exact h3 h4
/-- The map has one more. -/
theorem VW.upd {w0 w w' : World} {B : Nat} {Z : Nat → Prop} {bv bvm bf : Nat} {L : List Fct} {on known : Int} (h : VW w0 w B Z bv bvm bf L on known) (f : FrX (· = bvm) w w') {m : EntM} (ho : MapK subS entV w' bvm m) (hm : VMap w' (fun k => B ≤ k ∧ k < w'.heap.size ∧ ¬ Z k) (envOf L on known) m) : VW w0 w' B Z bv bvm bf L on known := by
  have hbv : w'.heap[bv]? = w.heap[bv]? := f.block bv (cell_lt h.v0) h.ne
  exact ⟨(World.cell?_of_block (a := ⟨bv, 0, none⟩) hbv).trans h.v0, (World.cell?_of_block (a := ⟨bv, 1, none⟩) hbv).trans h.v1, (World.cell?_of_block (a := ⟨bv, 2, none⟩) hbv).trans h.v2, (World.cell?_of_block (a := ⟨bv, 3, none⟩) hbv).trans h.v3, h.file, h.bel.trans (f.below (fun k hk hx => by have := h.lom; omega) h.bel.size), h.good, h.few, h.lov, h.lom, h.ltv, h.ltm, h.ne, Nat.le_trans h.leB f.size, m, ho, hm⟩
theorem IOwn.form {B : Nat} {w : World} {v : Value} {xs : List Int} (h : IOwn B w v xs) : ∃ a n c, v = .slice a n c := by
  rcases h with ⟨rfl, _⟩ | ⟨g, c, rfl, _⟩
  · exact ⟨_, _, _, rfl⟩
  · exact ⟨_, _, _, rfl⟩
theorem IOwn.rdS {B : Nat} {w : World} {v : Value} {xs : List Int} (h : IOwn B w v xs) (hl : xs.length ≤ 1000) : ∃ s : SlV, v = s.v ∧ RdS intE w (fun k => B ≤ k ∧ k < w.heap.size) s.v xs := by
  rcases h with ⟨rfl, rfl⟩ | ⟨g, c, rfl, h1, h2, h3, h4⟩
  · exact ⟨⟨none, 0, 0⟩, rfl, RdS.nil0 _ _ _ _⟩
  · refine ⟨⟨some ⟨g, 0, none⟩, xs.length, c⟩, rfl, some ⟨g, 0, none⟩, c, rfl, by omega, fun j x hx => ⟨g, 0, rfl, ⟨h1, h2⟩, fun i u hu => ?_⟩⟩
    have hi := (List.getElem?_eq_some_iff.1 hu).1
    have hi : i < 1 := hi
    obtain rfl : i = 0 := by omega
    obtain rfl : u = .int .i64 x := by
      simp [intE] at hu
      exact hu.symm
    show w.cell? ⟨g, 0 + j * 1 + 0, none⟩ = _
    rw [show 0 + j * 1 + 0 = j by omega]
    exact h4 j x hx
theorem others_len (L : List Fct) (who : Int) (nm : ByteArray) (on known : Int) : (othersL L who nm on known).length ≤ 40 := by
  unfold othersL
  rw [List.length_map]
  refine Nat.le_trans (List.length_filter_le _ _) ?_
  simp
theorem look_ent {w : World} {b : Nat} {m : EntM} (hown : MapK subS entV w b m) (who : Int) (nm : ByteArray) (y : Int × SlV) (bb : Bool) (hy : (m (who, nm)).getD ent0 = y) (hb : (m (who, nm)).isSome = bb) :
    (Instr.lookup 80 (.map (some b)) (.agg #[.int .i64 who, .string nm]) true).run Tryz.prog w = .ok (.tuple #[.agg #[.int .i64 y.1, .slice y.2.a y.2.n y.2.c], .bool bb]) w := by
  have h := hown.look Tryz.underlying80 (zeroEnt w) (k := (who, nm)) trivial true
  rw [hy, hb, if_pos rfl] at h
  exact h
/-- What an entry is. -/
def EntR (w0 w : World) (B : Nat) (Z : Nat → Prop) (bv bvm bf : Nat) (L : List Fct) (on known : Int) (who : Int) (nm : ByteArray) (e : Ending) (w' : World) : Prop :=
  ∃ s : SlV, e = .returned (.agg #[.int .i64 ((envOf L on known).val who nm), .slice s.a s.n s.c]) ∧ RdS intE w' (fun k => B ≤ k ∧ k < w'.heap.size ∧ ¬ Z k) s.v ((envOf L on known).oth who nm) ∧ VW w0 w' B Z bv bvm bf L on known ∧ FrX (· = bvm) w w'
end Go.Proofs.YtcfeflkhmncmjaaGreatDoor
namespace Go.Proofs.YtcfeflkhmncmjaaGreatDoor
open Go.RowKit Go.Maps

theorem set2 {W : World} {b T : Nat} {x y u v : Value} (h : W.heap[b]? = some (.cells #[x, y] T (0, 0))) : ((W.setCell ⟨b, 0, none⟩ u).setCell ⟨b, 1, none⟩ v).heap[b]? = some (.cells #[u, v] T (0, 0)) := by
  rw [heap_setCell_same _ _ _ _ _ _ (heap_setCell_same _ _ _ _ _ _ h)]
  rfl
/-- While an entry is looked for. -/
structure EntF (w W : World) (bv bf bvm kb rb eb : Nat) (on known who : Int) (nm : ByteArray) (x y : Value) : Prop where
  z0 : W.cell? ⟨bv, 0, none⟩ = some (.pointer (some ⟨bf, 0, none⟩))
  z1 : W.cell? ⟨bv, 1, none⟩ = some (.int .i64 on)
  z2 : W.cell? ⟨bv, 2, none⟩ = some (.int .i64 known)
  z3 : W.cell? ⟨bv, 3, none⟩ = some (.map (some bvm))
  kbk : W.heap[kb]? = some (.cells #[.int .i64 who, .string nm] 151 (0, 0))
  rbk : W.heap[rb]? = some (.cells #[.int .i64 0, .slice none 0 0] 126 (0, 0))
  ebk : W.heap[eb]? = some (.cells #[x, y] 126 (0, 0))
  n1 : bv ≠ eb
  n2 : kb ≠ eb
  n3 : rb ≠ eb
  n4 : bvm ≠ eb
  fr : Below w.heap.size w W
  lo : w.heap.size ≤ eb
  lor : w.heap.size ≤ rb
  lok : w.heap.size ≤ kb
section
variable {w W W' : World} {bv bf bvm kb rb eb : Nat} {on known who : Int} {nm : ByteArray} {x y : Value}
theorem EntF.below (h : EntF w W bv bf bvm kb rb eb on known who nm x y) (hb : Below W.heap.size W W') : EntF w W' bv bf bvm kb rb eb on known who nm x y :=
  ⟨(hb.cell (p := ⟨bv, 0, none⟩) (cell_lt h.z0)).trans h.z0, (hb.cell (p := ⟨bv, 1, none⟩) (cell_lt h.z1)).trans h.z1, (hb.cell (p := ⟨bv, 2, none⟩) (cell_lt h.z2)).trans h.z2, (hb.cell (p := ⟨bv, 3, none⟩) (cell_lt h.z3)).trans h.z3,
    (hb.block _ (Array.getElem?_eq_some_iff.1 h.kbk).1).trans h.kbk, (hb.block _ (Array.getElem?_eq_some_iff.1 h.rbk).1).trans h.rbk, (hb.block _ (Array.getElem?_eq_some_iff.1 h.ebk).1).trans h.ebk, h.n1, h.n2, h.n3, h.n4, h.fr.trans (hb.mono h.fr.size), h.lo, h.lor, h.lok⟩
theorem EntF.set0 (h : EntF w W bv bf bvm kb rb eb on known who nm x y) (u : Value) : EntF w (W.setCell ⟨eb, 0, none⟩ u) bv bf bvm kb rb eb on known who nm u y := by
  have hb : ∀ k, k ≠ eb → (W.setCell ⟨eb, 0, none⟩ u).heap[k]? = W.heap[k]? := fun k hk => heap_setCell_other _ _ _ _ hk
  exact ⟨(World.cell?_of_block (a := ⟨bv, 0, none⟩) (hb _ h.n1)).trans h.z0, (World.cell?_of_block (a := ⟨bv, 1, none⟩) (hb _ h.n1)).trans h.z1, (World.cell?_of_block (a := ⟨bv, 2, none⟩) (hb _ h.n1)).trans h.z2, (World.cell?_of_block (a := ⟨bv, 3, none⟩) (hb _ h.n1)).trans h.z3, (hb _ h.n2).trans h.kbk, (hb _ h.n3).trans h.rbk, by rw [heap_setCell_same _ _ _ _ _ _ h.ebk]; rfl, h.n1, h.n2, h.n3, h.n4, h.fr.setCell h.lo _, h.lo, h.lor, h.lok⟩
theorem EntF.set1 (h : EntF w W bv bf bvm kb rb eb on known who nm x y) (u : Value) : EntF w (W.setCell ⟨eb, 1, none⟩ u) bv bf bvm kb rb eb on known who nm x u := by
  have hb : ∀ k, k ≠ eb → (W.setCell ⟨eb, 1, none⟩ u).heap[k]? = W.heap[k]? := fun k hk => heap_setCell_other _ _ _ _ hk
  exact ⟨(World.cell?_of_block (a := ⟨bv, 0, none⟩) (hb _ h.n1)).trans h.z0, (World.cell?_of_block (a := ⟨bv, 1, none⟩) (hb _ h.n1)).trans h.z1, (World.cell?_of_block (a := ⟨bv, 2, none⟩) (hb _ h.n1)).trans h.z2, (World.cell?_of_block (a := ⟨bv, 3, none⟩) (hb _ h.n1)).trans h.z3, (hb _ h.n2).trans h.kbk, (hb _ h.n3).trans h.rbk, by rw [heap_setCell_same _ _ _ _ _ _ h.ebk]; rfl, h.n1, h.n2, h.n3, h.n4, h.fr.setCell h.lo _, h.lo, h.lor, h.lok⟩
theorem EntF.drew (h : EntF w W bv bf bvm kb rb eb on known who nm x y) : EntF w W.drew bv bf bvm kb rb eb on known who nm x y := h.below ⟨rfl, rfl, rfl, Nat.le_refl _, fun _ _ => rfl⟩
theorem EntF.e0 (h : EntF w W bv bf bvm kb rb eb on known who nm x y) : W.cell? ⟨eb, 0, none⟩ = some x := by rw [cell_of_row _ eb 0 _ _ _ h.ebk]; rfl
theorem EntF.e1 (h : EntF w W bv bf bvm kb rb eb on known who nm x y) : W.cell? ⟨eb, 1, none⟩ = some y := by rw [cell_of_row _ eb 1 _ _ _ h.ebk]; rfl
theorem EntF.ef (h : EntF w W bv bf bvm kb rb eb on known who nm x y) (i : Nat) : W.frozen? ⟨eb, i, none⟩ = false := by simp [World.frozen?, h.ebk]
theorem EntF.k0 (h : EntF w W bv bf bvm kb rb eb on known who nm x y) : W.cell? ⟨kb, 0, none⟩ = some (.int .i64 who) := by rw [cell_of_row _ kb 0 _ _ _ h.kbk]; rfl
theorem EntF.k1 (h : EntF w W bv bf bvm kb rb eb on known who nm x y) : W.cell? ⟨kb, 1, none⟩ = some (.string nm) := by rw [cell_of_row _ kb 1 _ _ _ h.kbk]; rfl
theorem EntF.r0 (h : EntF w W bv bf bvm kb rb eb on known who nm x y) : W.cell? ⟨rb, 0, none⟩ = some (.int .i64 0) := by rw [cell_of_row _ rb 0 _ _ _ h.rbk]; rfl
theorem EntF.r1 (h : EntF w W bv bf bvm kb rb eb on known who nm x y) : W.cell? ⟨rb, 1, none⟩ = some (.slice none 0 0) := by rw [cell_of_row _ rb 1 _ _ _ h.rbk]; rfl
theorem EntF.rf (h : EntF w W bv bf bvm kb rb eb on known who nm x y) (i : Nat) : W.frozen? ⟨rb, i, none⟩ = false := by simp [World.frozen?, h.rbk]
end
theorem IOwn.ne {B : Nat} {w : World} {v : Value} {xs : List Int} (h : IOwn B w v xs) {k : Nat} (hk : k < B) : v.ownBlock ≠ some k := by
  rcases h with ⟨rfl, _⟩ | ⟨g, c, rfl, h1, _⟩
  · intro e; cases e
  · intro e
    injection e with e
    have e : g = k := e
    omega
theorem entS {w W : World} {bv bf bvm kb rb eb : Nat} {on known who : Int} {nm : ByteArray} {x y sv : Value} {xs : List Int} (h : EntF w W bv bf bvm kb rb eb on known who nm x y) (ho : IOwn (eb + 1) W sv xs) :
    ∃ s : SlV, IOwn (eb + 1) (W.setCell ⟨eb, 1, none⟩ sv) (.slice s.a s.n s.c) xs ∧ EntF w (W.setCell ⟨eb, 1, none⟩ sv) bv bf bvm kb rb eb on known who nm x (.slice s.a s.n s.c) := by
  have hne := ho.ne (Nat.lt_succ_self eb)
  rcases ho with ⟨rfl, rfl⟩ | ⟨g, c, rfl, h1, h2, h3, h4⟩
  · exact ⟨⟨none, 0, 0⟩, .inl ⟨rfl, rfl⟩, h.set1 _⟩
  · have hg : g ≠ eb := fun e => hne (by rw [← e]; rfl)
    exact ⟨⟨some ⟨g, 0, none⟩, xs.length, c⟩, .inr ⟨g, c, rfl, h1, by simp; exact h2, h3, fun j x hx => (World.cell?_of_block (a := ⟨g, j, none⟩) (heap_setCell_other _ _ _ _ hg)).trans (h4 j x hx)⟩, h.set1 _⟩
set_option maxHeartbeats 4000000 in
set_option maxRecDepth 20000 in
theorem entry_p {w0 w : World} {B : Nat} {Z : Nat → Prop} {bv bvm bf : Nat} {L : List Fct} {on known : Int} (h : VW w0 w B Z bv bvm bf L on known) (hZ : ∀ k, Z k → k < w.heap.size) (who : Int) (nm : ByteArray) :
    Calls Tryz.prog 63 #[.pointer (some ⟨bv, 0, none⟩), .int .i64 who, .string nm] w (EntR w0 w B Z bv bvm bf L on known who nm) := by
  obtain ⟨m, ho, hm⟩ := h.met
  have hbvl := cell_lt h.v0
  have hbml := ho.lt
  obtain ⟨W, hW⟩ : ∃ W, W = (w.alloc (.cells #[.int .i64 0, .slice none 0 0] 126)).alloc (.cells #[.int .i64 who, .string nm] 151) := ⟨_, rfl⟩
  have hbW : Below w.heap.size w W := by rw [hW]; exact ((Below.refl _ _).alloc (Nat.le_refl _) _).alloc (by simp) _
  have hsW : W.heap.size = w.heap.size + 2 := by rw [hW]; simp
  have z0 : W.cell? ⟨bv, 0, none⟩ = some (.pointer (some ⟨bf, 0, none⟩)) := (hbW.cell hbvl).trans h.v0
  have z1 : W.cell? ⟨bv, 1, none⟩ = some (.int .i64 on) := (hbW.cell hbvl).trans h.v1
  have z2 : W.cell? ⟨bv, 2, none⟩ = some (.int .i64 known) := (hbW.cell hbvl).trans h.v2
  have z3 : W.cell? ⟨bv, 3, none⟩ = some (.map (some bvm)) := (hbW.cell hbvl).trans h.v3
  have hkb : W.heap[w.heap.size + 1]? = some (.cells #[.int .i64 who, .string nm] 151 (0, 0)) := by
    have := Go.Deep.blk_alloc_new (w.alloc (.cells #[.int .i64 0, .slice none 0 0] 126)) (.cells #[.int .i64 who, .string nm] 151)
    rw [hW]
    simpa using this
  obtain ⟨kb, hkbe⟩ : ∃ kb, kb = w.heap.size + 1 := ⟨_, rfl⟩
  rw [← hkbe] at hkb
  have hrb : W.heap[w.heap.size]? = some (.cells #[.int .i64 0, .slice none 0 0] 126 (0, 0)) := by
    have := Go.Deep.blk_alloc_new w (.cells #[.int .i64 0, .slice none 0 0] 126)
    rw [hW]
    rw [Go.Deep.blk_alloc_lt _ _ _ (by simp)]
    exact this
  obtain ⟨rb, hrbe⟩ : ∃ rb, rb = w.heap.size := ⟨_, rfl⟩
  rw [← hrbe] at hrb
  have hrbl : rb < W.heap.size := by omega
  have p0 : W.cell? ⟨rb, 0, none⟩ = some (.int .i64 0) := by rw [cell_of_row _ rb 0 _ _ _ hrb]; rfl
  have p1 : W.cell? ⟨rb, 1, none⟩ = some (.slice none 0 0) := by rw [cell_of_row _ rb 1 _ _ _ hrb]; rfl
  have pf : ∀ i, W.frozen? ⟨rb, i, none⟩ = false := fun i => by simp [World.frozen?, hrb]
  have r0 : ∀ o, (W.alloc o).cell? ⟨rb, 0, none⟩ = some (.int .i64 0) := cellA (by rw [cell_of_row _ rb 0 _ _ _ hrb]; rfl)
  have r1 : ∀ o, (W.alloc o).cell? ⟨rb, 1, none⟩ = some (.slice none 0 0) := cellA (by rw [cell_of_row _ rb 1 _ _ _ hrb]; rfl)
  have rf : ∀ o i, (W.alloc o).frozen? ⟨rb, i, none⟩ = false := fun o i => by
    rw [World.frozen?_of_block (a := ⟨rb, i, none⟩) (Go.Deep.blk_alloc_lt W _ _ hrbl)]
    simp [World.frozen?, hrb]
  have nr : ¬ rb = W.heap.size := by omega
  have nr2 : ¬ W.heap.size = rb := by omega
  have HRB := hidLL (And.intro hrbe hrb)
  have HKBk := hidLL hkb
  have n1 : ¬ kb = W.heap.size := by omega
  have n2 : ¬ bv = W.heap.size := by omega
  have n3 : ¬ bvm = W.heap.size := by omega
  have HKB := hidLL hkbe
  have a0 := cellA z0
  have a3 := cellA z3
  have k0 : W.cell? ⟨kb, 0, none⟩ = some (.int .i64 who) := by rw [cell_of_row _ kb 0 _ _ _ hkb]; rfl
  have k1 : W.cell? ⟨kb, 1, none⟩ = some (.string nm) := by rw [cell_of_row _ kb 1 _ _ _ hkb]; rfl
  have hoW : ∀ W' : World, W'.heap[bvm]? = W.heap[bvm]? → MapK subS entV W' bvm m := fun W' hW' => ho.on (hW'.trans (hbW.block bvm hbml)) (fun _ _ _ => trivial)
  have b0 := cellA k0
  have b1 := cellA k1
  have HVW : Hid (VW w0 w B Z bv bvm bf L on known) := h
  have HD := hidLL hm
  have HWF := hidLL (And.intro hbW (And.intro hsW (And.intro hbvl hbml)))
  have HZ := hidLL hZ
  cases hh : m (who, nm) with
  | some y =>
    obtain ⟨hy2, hy3⟩ := hm _ _ hh
    have HY := hidLL (And.intro hy2 hy3)
    have hl1 := look_ent (hoW W.drew rfl) who nm y true (by rw [hh]; rfl) (by rw [hh]; rfl)
    have hl2 := fun o => look_ent (hoW (W.alloc o).drew (Go.Deep.blk_alloc_lt _ _ _ (by show bvm < W.heap.size; omega))) who nm y true (by rw [hh]; rfl) (by rw [hh]; rfl)
    obtain ⟨y1, ya, yn, yc⟩ := y
    simp only at hl1 hl2
    have HW := hidLL hW
    clear h hm ho hZ hy2 hy3 hbW hsW hW hkb hkbe hoW hh hrb hrbe
    go_enter Tryz.func63, Tryz.ntmps63
    go_upto_region 2 with fail
    rw [← HW.out]
    rw [← HKB.out, ← HRB.out.1]
    go_region
    go_wp2
    refine bodyPost_ret (v := .agg #[.int .i64 y1, .slice ya yn yc]) (results_cell_row Tryz.results63 _ _ rb 126 #[.int .i64 y1, .slice ya yn yc] (0, 0) _ (by first | rfl | simp) ((Go.Deep.blk_alloc_lt _ _ _ (by simp; exact hrbl)).trans (set2 HRB.out.2)) Tryz.underlying126 rfl rfl) rfl ?_
    have hrbe := HRB.out.1
    have hF : FrX (fun _ => False) w ((((W.setCell ⟨rb, 0, none⟩ (.int .i64 y1)).setCell ⟨rb, 1, none⟩ (.slice ya yn yc)).alloc (.cells #[.int .i64 y1, .slice ya yn yc] 126)).drew) :=
      ((((FrX.of HWF.out.1).setNew (by show w.heap.size ≤ rb; omega) _).setNew (by show w.heap.size ≤ rb; omega) _).alloc _).drew
    refine ⟨⟨ya, yn, yc⟩, by rw [← HY.out.1], HY.out.2.on fun k hk => ⟨⟨hk.1, Nat.lt_of_lt_of_le hk.2.1 hF.size, hk.2.2⟩, hF.block k hk.2.1 (fun e => e)⟩, HVW.out.step hF (fun k e => e.elim) (fun k e => .inl e), hF.mono fun k e => e.elim⟩
  | none =>
    have hl1 := look_ent (hoW W.drew rfl) who nm ent0 false (by rw [hh]; rfl) (by rw [hh]; rfl)
    have hl2 := fun o => look_ent (hoW (W.alloc o).drew (Go.Deep.blk_alloc_lt _ _ _ (by show bvm < W.heap.size; omega))) who nm ent0 false (by rw [hh]; rfl) (by rw [hh]; rfl)
    unfold ent0 at hl1 hl2
    simp only at hl1 hl2
    have HW := hidLL hW
    obtain ⟨Bf, sv, hfile⟩ := h.file
    have hfW : ∀ W', Below w.heap.size w W' → FFile 61 Bf W' bf L sv := fun W' hb => hfile.bel (h.bel.trans (hb.mono h.bel.size))
    have HVal : Hid (∀ W', Below w.heap.size w W' → _) := fun W' hb => value_f (hfW W' hb) h.good h.few who nm on known
    have HOth : Hid (∀ W', Below w.heap.size w W' → _) := fun W' hb => others_o (hfW W' hb) h.good h.few who nm on known
    obtain ⟨V, HV⟩ : ∃ V, Hid ((valL L who nm on known).1 = V) := ⟨_, rfl⟩
    obtain ⟨V2, HV2⟩ : ∃ V2, Hid ((valL L who nm on known).2 = V2) := ⟨_, rfl⟩
    rw [HV.out, HV2.out] at HVal
    have HoW := hidLL hoW
    clear h hm ho hZ hbW hsW hW hkb hkbe hoW hh hrb hrbe hfile hfW
    go_enter Tryz.func63, Tryz.ntmps63
    go_upto_region 2 with fail
    rw [← HW.out]
    rw [← HKB.out, ← HRB.out.1]
    go_region
    go_upto_region 4 with fail
    obtain ⟨W2, hW2⟩ : ∃ W2, W2 = (W.alloc (.cells #[.int .i64 0, .slice none 0 0] 126)).drew := ⟨_, rfl⟩
    rw [← hW2]
    obtain ⟨eb, heb⟩ : ∃ eb, eb = W.heap.size := ⟨_, rfl⟩
    rw [← heb]
    have HE2 : Hid (EntF w W2 bv bf bvm kb rb eb on known who nm (.int .i64 0) (.slice none 0 0)) := by
      have h1 := HWF.out.2.1
      have h2 := HKB.out
      have h3 := HRB.out.1
      have h4 := HWF.out.2.2
      subst hW2
      exact ⟨cellA z0 _, cellA z1 _, cellA z2 _, cellA z3 _, (Go.Deep.blk_alloc_lt _ _ _ (cell_lt k0)).trans HKBk.out, (Go.Deep.blk_alloc_lt _ _ _ (by omega)).trans HRB.out.2, by rw [heb]; exact Go.Deep.blk_alloc_new W _, by omega, by omega, by omega, by omega, (HWF.out.1.alloc (by omega) _).drew, by omega, by omega, by omega⟩
    clear hW2 heb z0 z1 z2 z3 k0 k1 a0 a3 b0 b1 p0 p1 pf r0 r1 rf nr nr2 n1 n2 n3 hl1 hl2 hrbl
    have c0 := HE2.out.z0
    have c1 := HE2.out.z1
    have c2 := HE2.out.z2
    have c5 := HE2.out.e0
    have c6 := HE2.out.ef
    go_cut [] (fun wx => EntF w wx bv bf bvm kb rb eb on known who nm (.int .i64 V) (.slice none 0 0))
    case first =>
      go_region_law (go_simp; go_at_call 73; refine (HVal.out _ HE2.out.drew.fr).mono ?_; rintro e W3 ⟨rfl, hb3⟩; (have HE3 := hidLL (HE2.out.drew.below hb3)); clear hb3; (have d5 := HE3.out.e0); (have d6 := HE3.out.ef))
      all_goals (go_wp2_with fail; go_meet; exact HE3.out.set0 _)
    case rest =>
      have HE4 := hidLL hcut
      clear hcut c0 c1 c2 c5 c6 HE2
      obtain ⟨W4, hW4⟩ : ∃ W4, W4 = wc := ⟨_, rfl⟩
      subst hW4
      have c0 := HE4.out.z0
      have c1 := HE4.out.z1
      have c2 := HE4.out.z2
      have c5 := HE4.out.e1
      have c6 := HE4.out.ef
      go_upto_region 5 with fail
      go_cut [] (fun wx => ∃ s : SlV, IOwn (eb + 1) wx (.slice s.a s.n s.c) (othersL L who nm on known) ∧ EntF w wx bv bf bvm kb rb eb on known who nm (.int .i64 V) (.slice s.a s.n s.c))
      case first =>
        go_region_law (go_simp; go_at_call 74; refine (HOth.out _ HE4.out.drew.fr).mono ?_; rintro e W5 ⟨sv5, rfl, ho5, hb5⟩; (obtain ⟨oa, om, oc, e5⟩ := ho5.form); subst e5; (have HE5 := hidLL (HE4.out.drew.below hb5)); (have HO5 := hidLL (ho5.mono (show eb + 1 ≤ W4.drew.heap.size from cell_lt HE4.out.e0))); clear hb5 ho5; (have d5 := HE5.out.e1); (have d6 := HE5.out.ef))
        all_goals (go_wp2_with fail; go_meet; exact entS HE5.out HO5.out)
      case rest =>
        obtain ⟨⟨sa, sn, sc⟩, hio, hcut⟩ := hcut
        simp only at hio hcut
        have HE6 := hidLL hcut
        have HIO := hidLL hio
        clear hcut hio c0 c1 c2 c5 c6 HE4
        have hoc := HoW.out wc.drew ((HE6.out.fr.block bvm hbml).trans (HWF.out.1.block bvm hbml).symm)
        obtain ⟨w7, hrun, hown7, hgr7⟩ := hoc.store Tryz.underlying80 (fun _ _ _ => trivial) (k := (who, nm)) trivial (V, ⟨sa, sn, sc⟩)
        replace hrun : (Instr.mapUpdate 80 (.map (some bvm)) (.agg #[.int .i64 who, .string nm]) (.agg #[.int .i64 V, .slice sa sn sc])).run Tryz.prog wc.drew = .ok () w7 := hrun
        have hkb7 : ∀ k, k < wc.heap.size → k ≠ bvm → w7.heap[k]? = wc.heap[k]? := fun k hk hne => hgr7.block k hk (fun e => hne (by injection e))
        have hlo := HE6.out.lo
        have hlor := HE6.out.lor
        have e0 : w7.cell? ⟨eb, 0, none⟩ = some (.int .i64 V) := (World.cell?_of_block (a := ⟨eb, 0, none⟩) (hkb7 eb (cell_lt HE6.out.e0) (by omega))).trans HE6.out.e0
        have e1 : w7.cell? ⟨eb, 1, none⟩ = some (.slice sa sn sc) := (World.cell?_of_block (a := ⟨eb, 1, none⟩) (hkb7 eb (cell_lt HE6.out.e1) (by omega))).trans HE6.out.e1
        have rbk7 : w7.heap[rb]? = some (.cells #[.int .i64 0, .slice none 0 0] 126 (0, 0)) := (hkb7 rb (cell_lt HE6.out.r0) (by omega)).trans HE6.out.rbk
        have r0 : w7.cell? ⟨rb, 0, none⟩ = some (.int .i64 0) := by rw [cell_of_row _ rb 0 _ _ _ rbk7]; rfl
        have r1 : w7.cell? ⟨rb, 1, none⟩ = some (.slice none 0 0) := by rw [cell_of_row _ rb 1 _ _ _ rbk7]; rfl
        have rf : ∀ i, w7.frozen? ⟨rb, i, none⟩ = false := fun i => by simp [World.frozen?, rbk7]
        have HR7 := hidLL rbk7
        have HF7 := hidLL (And.intro hgr7 hown7)
        have c3 := HE6.out.z3
        have c4 := HE6.out.k0
        have c5 := HE6.out.k1
        have c6 := HE6.out.e0
        have c7 := HE6.out.e1
        have HLo := hidLL (And.intro hlo hlor)
        clear rbk7 hgr7 hown7 hoc hkb7 hlo hlor
        go_upto_region 6 with fail
        go_region
        go_wp2
        refine bodyPost_ret (v := .agg #[.int .i64 V, .slice sa sn sc]) (results_cell_row Tryz.results63 _ _ rb 126 #[.int .i64 V, .slice sa sn sc] (0, 0) _ (by first | rfl | simp) (set2 HR7.out) Tryz.underlying126 rfl rfl) rfl ?_
        have hF : FrX (· = bvm) w ((w7.setCell ⟨rb, 0, none⟩ (.int .i64 V)).setCell ⟨rb, 1, none⟩ (.slice sa sn sc)) :=
          (((FrX.of HE6.out.fr).grown (w' := wc) (w'' := w7) ⟨HF7.out.1.os, HF7.out.1.tape, HF7.out.1.output, HF7.out.1.size, HF7.out.1.block⟩ (fun k e => .inl (by injection e with e; exact e.symm))).setNew HLo.out.2 _).setNew HLo.out.2 _
        have hre := HRB.out.1
        have hn3 := HE6.out.n3
        have hlo := HLo.out.1
        have hkp : ∀ k, eb + 1 ≤ k → k < wc.heap.size → ((w7.setCell ⟨rb, 0, none⟩ (.int .i64 V)).setCell ⟨rb, 1, none⟩ (.slice sa sn sc)).heap[k]? = wc.heap[k]? := fun k h1 h2 => by
          rw [heap_setCell_other _ _ _ _ (by show k ≠ rb; omega), heap_setCell_other _ _ _ _ (by show k ≠ rb; omega)]
          exact HF7.out.1.block k h2 (fun e => by injection e with e; omega)
        have hrd : RdS intE ((w7.setCell ⟨rb, 0, none⟩ (.int .i64 V)).setCell ⟨rb, 1, none⟩ (.slice sa sn sc)) (fun k => B ≤ k ∧ k < ((w7.setCell ⟨rb, 0, none⟩ (.int .i64 V)).setCell ⟨rb, 1, none⟩ (.slice sa sn sc)).heap.size ∧ ¬ Z k) (SlV.v ⟨sa, sn, sc⟩) ((envOf L on known).oth who nm) := by
          obtain ⟨⟨ta, tn, tc⟩, e1, h1⟩ := HIO.out.rdS (by have := others_len L who nm on known; omega)
          injection e1 with e1 e2 e3
          subst e1 e2 e3
          refine h1.on fun k hk => ⟨⟨?_, ?_, fun hz => ?_⟩, hkp k hk.1 hk.2⟩
          · have := HVW.out.leB
            omega
          · have h3 : wc.heap.size ≤ w7.heap.size := HF7.out.1.size
            simp
            omega
          · have := HZ.out k hz
            omega
        have hVM : VMap ((w7.setCell ⟨rb, 0, none⟩ (.int .i64 V)).setCell ⟨rb, 1, none⟩ (.slice sa sn sc)) (fun k => B ≤ k ∧ k < ((w7.setCell ⟨rb, 0, none⟩ (.int .i64 V)).setCell ⟨rb, 1, none⟩ (.slice sa sn sc)).heap.size ∧ ¬ Z k) (envOf L on known) m :=
          HD.out.on fun k hk => ⟨⟨hk.1, Nat.lt_of_lt_of_le hk.2.1 hF.size, hk.2.2⟩, hF.block k hk.2.1 (fun e => by have := HVW.out.ltm; omega)⟩
        have hput := hVM.put (who, nm) ⟨sa, sn, sc⟩ hrd
        have hval : (envOf L on known).val who nm = V := HV.out
        simp only at hput
        rw [hval] at hput
        have hown : MapK subS entV ((w7.setCell ⟨rb, 0, none⟩ (.int .i64 V)).setCell ⟨rb, 1, none⟩ (.slice sa sn sc)) bvm (putK m (who, nm) (V, ⟨sa, sn, sc⟩)) :=
          HF7.out.2.on (by rw [heap_setCell_other _ _ _ _ (by show bvm ≠ rb; omega), heap_setCell_other _ _ _ _ (by show bvm ≠ rb; omega)]) (fun _ _ _ => trivial)
        exact ⟨⟨sa, sn, sc⟩, by rw [hval], hrd, HVW.out.upd hF hown hput, hF⟩
end Go.Proofs.YtcfeflkhmncmjaaGreatDoor
