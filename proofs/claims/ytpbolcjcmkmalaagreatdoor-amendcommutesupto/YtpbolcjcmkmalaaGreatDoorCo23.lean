/-
  Package tree: add: a kid's weight.
-/
import Derived.Test.YtpbolcjcmkmalaaGreatDoorCo22
import Derived.Test.YtpbolcjcmkmalaaGreatDoorCo16
import Derived.Deep.LoopGhost
namespace Go.Proofs.YtpbolcjcmkmalaaGreatDoor
open Go.RowKit Go.Extern.Stop Go.Stop Go.Extern

/-- What add leaves: a sum, and maybe no kids to weigh. -/
def AddR (w : World) (ob q : Nat) (z : Int) (w' : World) : Prop := ((z ≠ 67108865 ∧ w'.heap = (w.setCell ⟨ob, q + 2, none⟩ (.int .i64 z)).heap) ∨ (z = 67108865 ∧ w'.heap = ((w.setCell ⟨ob, q + 2, none⟩ (.int .i64 z)).setCell ⟨ob, q + 1, none⟩ (.slice none 0 0)).heap)) ∧ w'.os = w.os ∧ w'.tape = w.tape ∧ w'.output = w.output
set_option maxHeartbeats 4000000 in
set_option maxRecDepth 20000 in
theorem add_a {w : World} {sb ob q : Nat} {x y : Int} {u : Value} (hs : w.cell? ⟨sb, 3, none⟩ = some (.int .i64 67108864)) (hne : ob ≠ sb) (d1 : w.cell? ⟨ob, q + 1, none⟩ = some u) (d2 : w.cell? ⟨ob, q + 2, none⟩ = some (.int .i64 x)) (hf : ∀ i, w.frozen? ⟨ob, i, none⟩ = false) (hx : 0 ≤ x ∧ x ≤ 67108865) (hy : 0 ≤ y ∧ y ≤ 67108865) :
    Calls Tryz.prog 105 #[.pointer (some ⟨sb, 0, none⟩), .pointer (some ⟨ob, q, none⟩), .int .i64 y] w fun e w' => e = .returned (.tuple #[]) ∧ AddR w ob q (min (x + y) 67108865) w' := by
  obtain ⟨z, hz⟩ : ∃ z : Int, z = min (x + y) 67108865 := ⟨_, rfl⟩
  have hw : IntKind.i64.wrap (x + y) = x + y := by rw [IntKind.wrap_i64]; omega
  obtain ⟨W, hW⟩ : ∃ W, W = w.setCell ⟨ob, q + 2, none⟩ (.int .i64 z) := ⟨_, rfl⟩
  have HT := hidLL (fun (W : World) (hc : W.cell? ⟨sb, 3, none⟩ = some (.int .i64 67108864)) => tooMuch_a hc)
  have HZ := hidLL hz
  clear hx hy
  go_enter Tryz.func105, Tryz.ntmps105
  go_upto_region 0 with fail
  go_cut [] (fun wx => ∃ k, wx = W.drewN k)
  case first =>
    go_region_with (go_at_call 132; refine (HT.out _ ?_).mono ?_; (· exact hs); rintro e w1 ⟨rfl, ew⟩; subst w1)
    all_goals go_wp2
    all_goals go_meet
    all_goals exact ⟨1, by rw [hW, hz]; rfl⟩
  case rest =>
    obtain ⟨k, hk⟩ := hcut
    have e3 : wc.cell? ⟨sb, 3, none⟩ = some (.int .i64 67108864) := by rw [hk, hW]; simp only [World.cell?_drewN]; rw [World.cell?_setCell_far _ _ _ _ hne]; exact hs
    have e2 : wc.cell? ⟨ob, q + 2, none⟩ = some (.int .i64 z) := by rw [hk, hW]; simp only [World.cell?_drewN]; rw [World.cell?_setCell_same _ _ _ (by rw [d2])]
    have e1 : wc.cell? ⟨ob, q + 1, none⟩ = some u := by rw [hk, hW]; simp only [World.cell?_drewN]; rw [World.cell?_setCell_other _ _ _ _ (by intro e; injection e; omega)]; exact d1
    have hf' : ∀ i, wc.frozen? ⟨ob, i, none⟩ = false := fun i => by rw [hk, hW]; simp only [World.frozen?_drewN]; rw [World.frozen?_setCell]; exact hf i
    have HWe := hidLL (And.intro hk hW)
    clear hk hW hs d1 d2 hf hw hz hne
    by_cases hz : z = 67108865
    · have HQ := hidLL hz
      rw [hz] at e2
      clear hz
      go_wp2_with fail
      go_quiet ((first | (go_at_call 132; refine Calls.quiet_of_same (HT.out _ ?_); exact e3)))
      go_wp2
      refine bodyPost_end (results_none rfl _ _ _) rfl ⟨rfl, .inr ⟨by rw [← HZ.out]; exact HQ.out, ?_⟩, ?_⟩
      · rw [HWe.out.1, HWe.out.2, ← HZ.out]; rfl
      · rw [HWe.out.1, HWe.out.2]; exact ⟨rfl, rfl, rfl⟩
    · have hzn := hz
      go_wp2_with fail
      go_quiet ((first | (go_at_call 132; refine Calls.quiet_of_same (HT.out _ ?_); exact e3)))
      go_wp2
      refine bodyPost_end (results_none rfl _ _ _) rfl ⟨rfl, .inl ⟨by rw [← HZ.out]; exact hzn, ?_⟩, ?_⟩
      · rw [HWe.out.1, HWe.out.2, ← HZ.out]; rfl
      · rw [HWe.out.1, HWe.out.2]; exact ⟨rfl, rfl, rfl⟩
end Go.Proofs.YtpbolcjcmkmalaaGreatDoor
namespace Go.Proofs.YtpbolcjcmkmalaaGreatDoor
open Go.RowKit Go.Extern.Stop Go.Stop Go.Extern

mutual
/-- What a tree weighs: its provisions and lines. -/
def wtI : It → Nat
  | .mk _ _ l k => 1 + l.length + wtK k
def wtK : List It → Nat
  | [] => 0
  | t :: r => wtI t + wtK r
end
theorem wtI_eq (t : It) : wtI t = 1 + t.lines.length + wtK t.kids := by cases t; rw [wtI]; rfl
theorem wtK_mem : ∀ (l : List It) (k : It), k ∈ l → wtI k ≤ wtK l
  | a :: r, k, h => by
    rw [wtK]
    rcases List.mem_cons.1 h with rfl | h
    · omega
    · have := wtK_mem r k h; omega
theorem wtK_len : ∀ l : List It, l.length ≤ wtK l
  | [] => by simp [wtK]
  | t :: r => by rw [wtK, List.length_cons]; have := wtK_len r; have := wtI_eq t; omega
theorem wtK_congr : ∀ (l m : List It), l.length = m.length → (∀ (i : Nat) (x y : It), l[i]? = some x → m[i]? = some y → wtI x = wtI y) → wtK l = wtK m
  | [], [], _, _ => rfl
  | a :: l, b :: m, hl, h => by
    rw [wtK, wtK, h 0 a b rfl rfl, wtK_congr l m (by simpa using hl) fun i x y hx hy => h (i + 1) x y (by simpa using hx) (by simpa using hy)]
/-- A tree at a place, in blocks below N, none of its nodes' places frozen. -/
inductive TreeF (w : World) (N : Nat) (ex : Prop) : Nat → Nat → It → Prop
  | mk (b o : Nat) (t : It) (la ka : Option Addr) (lc kc : Nat) (h2 : w.cell? ⟨b, o + 2, none⟩ = some (.slice la t.lines.length lc)) (h3 : w.cell? ⟨b, o + 3, none⟩ = some (.slice ka t.kids.length kc))
    (hl : t.lines.length ≤ 1000000) (hn : t.kids.length ≤ 100000) (hc : t.kids.length ≤ kc) (hu : UnF w ⟨b, o, none⟩) (hp : ex → PlnF w ⟨b, o, none⟩) (hN : b < N) (ha : t.kids ≠ [] → ∃ g q, ka = some ⟨g, q, none⟩)
    (hk : ∀ i k g q, t.kids[i]? = some k → ka = some ⟨g, q, none⟩ → TreeF w N ex g (q + i * 4) k) : TreeF w N ex b o t
/-- A row of such trees. -/
structure KidsF (w : World) (N : Nat) (ex : Prop) (ka : Option Addr) (ls : List It) : Prop where
  a : ls ≠ [] → ∃ g q, ka = some ⟨g, q, none⟩
  k : ∀ i k g q, ls[i]? = some k → ka = some ⟨g, q, none⟩ → TreeF w N ex g (q + i * 4) k
section
variable {w : World} {N : Nat} {ex : Prop}
theorem TreeF.parts {b o : Nat} {t : It} (h : TreeF w N ex b o t) : ∃ ka kc, NdW w b o t.lines.length t.kids.length ka kc ∧ t.kids.length ≤ kc ∧ t.kids.length ≤ 100000 ∧ b < N ∧ (ex → PlnF w ⟨b, o, none⟩) ∧ KidsF w N ex ka t.kids := by
  cases h with
  | mk b o t la ka lc kc h2 h3 hl hn hc hu hp hN ha hk => exact ⟨ka, kc, ⟨⟨la, lc, h2⟩, hl, h3, hu⟩, hc, hn, hN, hp, ha, hk⟩
theorem TreeF.on {w' : World} {b o : Nat} {t : It} (h : TreeF w N ex b o t) (hb : ∀ k, k < N → w'.heap[k]? = w.heap[k]?) : TreeF w' N ex b o t := by
  induction h with
  | mk b o t la ka lc kc h2 h3 hl hn hc hu hp hN ha hk ih =>
    exact .mk b o t la ka lc kc ((World.cell?_of_block (a := ⟨b, o + 2, none⟩) (hb b hN)).trans h2) ((World.cell?_of_block (a := ⟨b, o + 3, none⟩) (hb b hN)).trans h3) hl hn hc (hu.on (hb b hN)) (fun hx => (hp hx).on (hb b hN)) hN ha ih
theorem TreeF.mono {N' : Nat} {b o : Nat} {t : It} (h : TreeF w N ex b o t) (hb : N ≤ N') : TreeF w N' ex b o t := by
  induction h with
  | mk b o t la ka lc kc h2 h3 hl hn hc hu hp hN ha hk ih => exact .mk b o t la ka lc kc h2 h3 hl hn hc hu hp (by omega) ha ih
/-- What stands at a place weighs what it weighs. -/
theorem TreeF.det {b o : Nat} {t t' : It} (h : TreeF w N ex b o t) (h' : TreeF w N ex b o t') : wtI t = wtI t' := by
  induction h generalizing t' with
  | mk b o t la ka lc kc h2 h3 hl hn hc hu hp hN ha hk ih =>
    cases h' with
    | mk _ _ _ la' ka' lc' kc' h2' h3' hl' hn' hc' hu' hp' hN' ha' hk' =>
      rw [h2] at h2'
      rw [h3] at h3'
      injection h2' with h2'
      injection h2' with _ e1 _
      injection h3' with h3'
      injection h3' with e0 e2 _
      subst e0
      rw [wtI_eq, wtI_eq, e1, wtK_congr t.kids t'.kids e2 fun i x y hx hy => ?_]
      obtain ⟨g, q, hg⟩ := ha (fun e => by rw [e] at hx; cases hx)
      exact ih i x g q hx hg (hk' i y g q hy hg)
theorem KidsF.tail {g q kc : Nat} {k : It} {r : List It} (h : KidsF w N ex (some ⟨g, q, none⟩) (k :: r)) (hc : r.length + 1 ≤ kc) : KidsF w N ex (if kc = 1 then some ⟨g, q, none⟩ else some ⟨g, q + 4, none⟩) r := by
  by_cases h1 : kc = 1
  · have : r = [] := List.eq_nil_of_length_eq_zero (by omega)
    subst this
    exact ⟨fun e => absurd rfl e, fun i k g q hi => by cases hi⟩
  · rw [if_neg h1]
    refine ⟨fun _ => ⟨g, q + 4, rfl⟩, fun i k' g' q' hi e => ?_⟩
    injection e with e
    injection e with e1 e2 _
    subst e1 e2
    have := h.k (i + 1) k' g q (by simpa using hi) rfl
    rwa [show q + 4 + i * 4 = q + (i + 1) * 4 by omega]
theorem KidsF.head {g q : Nat} {k : It} {r : List It} (h : KidsF w N ex (some ⟨g, q, none⟩) (k :: r)) : TreeF w N ex g q k := by
  have := h.k 0 k g q rfl rfl
  rwa [Nat.zero_mul, Nat.add_zero] at this
/-- An open branch, as it may be. -/
structure EntOk (w : World) (N : Nat) (ex : Prop) (e : Ent) : Prop where
  tr : TreeF w N ex e.nb e.no e.t
  ks : KidsF w N ex e.la e.ls
  cap : e.ls.length ≤ e.lc
  len : e.ls.length ≤ 100000
  x0 : 0 ≤ e.x
  x1 : e.x ≤ 67108865
  lt : ∀ k, k ∈ e.ls → wtI k < wtI e.t
theorem EntOk.of {b o kc : Nat} {t : It} {ka : Option Addr} {x : Int} (ht : TreeF w N ex b o t) (hc : t.kids.length ≤ kc) (hl : t.kids.length ≤ 100000) (hk : KidsF w N ex ka t.kids) (h0 : 0 ≤ x) (h1 : x ≤ 67108865) : EntOk w N ex ⟨b, o, ka, kc, t.kids, x, t⟩ :=
  ⟨ht, hk, hc, hl, h0, h1, fun k hk => by have h1 := wtK_mem t.kids k hk; have h2 := wtI_eq t; show wtI k < wtI t; omega⟩
end
/-- How far it is to the end. -/
def mEnt (e : Ent) : Nat := 1 + 2 * wtK e.ls
def mAll : List Ent → Nat
  | [] => 0
  | e :: r => mEnt e + mAll r
theorem mAll_app : ∀ (a b : List Ent), mAll (a ++ b) = mAll a + mAll b
  | [], b => by rw [List.nil_append]; show _ = 0 + _; omega
  | e :: r, b => by rw [List.cons_append]; show mEnt e + mAll (r ++ b) = mEnt e + mAll r + mAll b; rw [mAll_app r b]; omega
theorem mAll_snoc (a : List Ent) (e : Ent) : mAll (a ++ [e]) = mAll a + (1 + 2 * wtK e.ls) := by rw [mAll_app]; show _ + (mEnt e + 0) = _; rfl
theorem mAll_len : ∀ l : List Ent, l.length ≤ mAll l
  | [] => Nat.le_refl _
  | e :: r => by show r.length + 1 ≤ mEnt e + mAll r; have := mAll_len r; unfold mEnt; omega
/-- What the branches come to, the last one ahead; s: what is on its way. -/
def chn (tot : Int) : Int → List Ent → Prop
  | s, [] => s = tot
  | s, e :: r => e.x + wtK e.ls + s = wtI e.t ∧ chn tot (wtI e.t) r
theorem chn_ge {tot : Int} : ∀ (l : List Ent) (s : Int), (∀ e, e ∈ l → 0 ≤ e.x) → chn tot s l → s ≤ tot
  | [], s, _, h => by have h : s = tot := h; omega
  | e :: r, s, ho, h => by
    have h1 := chn_ge r _ (fun e he => ho e (List.mem_cons_of_mem _ he)) h.2
    have := ho e List.mem_cons_self
    have := h.1
    omega
/-- What the map says. -/
def MF (w : World) (N : Nat) (ex : Prop) (E : List Ent) (c : Addr) (x : Int) : Prop := c.block < N ∧ 0 ≤ x ∧ x ≤ 67108865 ∧ (ex → ∃ b o t', c = ⟨b, o, none⟩ ∧ TreeF w N ex b o t' ∧ (x = wtI t' ∨ ∃ e, e ∈ E ∧ c = ⟨e.nb, e.no, none⟩))
abbrev brT : Nat := 161
theorem encE_k : encE.k = 3 := rfl
theorem encE_f (e : Ent) : encE.f e = [.pointer (some ⟨e.nb, e.no, none⟩), .slice e.la e.ls.length e.lc, .int .i64 e.x] := rfl
theorem encE_len (l : List Ent) : (encE.all l).length = l.length * 3 := encE.all_len l
theorem encE_snoc (l : List Ent) (e : Ent) : encE.all (l ++ [e]) = encE.all l ++ [.pointer (some ⟨e.nb, e.no, none⟩), .slice e.la e.ls.length e.lc, .int .i64 e.x] := by rw [encE.all_app, encE.all_cons, encE.all_nil, List.append_nil, encE_f]
/-- The last branch's cells. -/
theorem RowG.last {w : World} {B g n cap : Nat} {l : List Ent} {e : Ent} (h : RowG encE brT w B (.slice (some ⟨g, 0, none⟩) n cap) (l ++ [e])) : w.cell? ⟨g, l.length * 3, none⟩ = some (.pointer (some ⟨e.nb, e.no, none⟩)) ∧ w.cell? ⟨g, l.length * 3 + 1, none⟩ = some (.slice e.la e.ls.length e.lc) ∧ w.cell? ⟨g, l.length * 3 + 2, none⟩ = some (.int .i64 e.x) := by
  have hc := h.cells (g := g) rfl
  have hl := encE_len l
  rw [encE_snoc] at hc
  refine ⟨hc _ _ ?_, hc _ _ ?_, hc _ _ ?_⟩
  · rw [List.getElem?_append_right (by omega), hl, Nat.sub_self]; rfl
  · rw [List.getElem?_append_right (by omega), hl, show l.length * 3 + 1 - l.length * 3 = 1 by omega]; rfl
  · rw [List.getElem?_append_right (by omega), hl, show l.length * 3 + 2 - l.length * 3 = 2 by omega]; rfl
theorem RowG.form {w : World} {B : Nat} {v : Value} {l : List Ent} (h : RowG encE brT w B v l) (hl : l ≠ []) : ∃ g cap, v = .slice (some ⟨g, 0, none⟩) l.length cap ∧ B ≤ g ∧ g < w.heap.size ∧ ∃ cur, w.heap[g]? = some (.cells cur brT (0, 0)) := by
  rcases h.row.2 with ⟨_, e⟩ | ⟨g, cap, cur, e, hb, hg, _⟩
  · exact absurd (List.eq_nil_of_length_eq_zero e) hl
  · exact ⟨g, cap, e, hb, (Array.getElem?_eq_some_iff.1 hg).1, cur, hg⟩
/-- The last branch gets other kids to weigh. -/
theorem RowG.left {w : World} {B g n cap : Nat} {l : List Ent} {e : Ent} (h : RowG encE brT w B (.slice (some ⟨g, 0, none⟩) n cap) (l ++ [e])) (la : Option Addr) (lc : Nat) (ls : List It) : RowG encE brT (w.setCell ⟨g, l.length * 3 + 1, none⟩ (.slice la ls.length lc)) B (.slice (some ⟨g, 0, none⟩) n cap) (l ++ [{ e with la := la, lc := lc, ls := ls }]) := by
  have hn : n = (l ++ [e]).length := by
    rcases h.row.2 with ⟨e1, _⟩ | ⟨_, _, _, e1, _⟩
    · cases e1
    · injection e1
  subst hn
  have hs := World.ownsRow.stored h.row (l.length * 3 + 1) (.slice la ls.length lc)
  refine ⟨?_, by have := h.len; simpa using this⟩
  have e1 : (encE.all (l ++ [e])).set (l.length * 3 + 1) (.slice la ls.length lc) = encE.all (l ++ [{ e with la := la, lc := lc, ls := ls }]) := by
    rw [encE_snoc, encE_snoc, List.set_append_right _ _ (by rw [encE_len]; omega), encE_len, show l.length * 3 + 1 - l.length * 3 = 1 by omega]
    rfl
  rw [e1] at hs
  have e2 : (l ++ [{ e with la := la, lc := lc, ls := ls }]).length = (l ++ [e]).length := by simp
  rw [e2]
  exact hs.1
/-- The last branch's sum. -/
theorem RowG.sum {w : World} {B g n cap : Nat} {l : List Ent} {e : Ent} (h : RowG encE brT w B (.slice (some ⟨g, 0, none⟩) n cap) (l ++ [e])) (x : Int) : RowG encE brT (w.setCell ⟨g, l.length * 3 + 2, none⟩ (.int .i64 x)) B (.slice (some ⟨g, 0, none⟩) n cap) (l ++ [{ e with x := x }]) := by
  have hn : n = (l ++ [e]).length := by
    rcases h.row.2 with ⟨e1, _⟩ | ⟨_, _, _, e1, _⟩
    · cases e1
    · injection e1
  subst hn
  have hs := World.ownsRow.stored h.row (l.length * 3 + 2) (.int .i64 x)
  refine ⟨?_, by have := h.len; simpa using this⟩
  have e1 : (encE.all (l ++ [e])).set (l.length * 3 + 2) (.int .i64 x) = encE.all (l ++ [{ e with x := x }]) := by
    rw [encE_snoc, encE_snoc, List.set_append_right _ _ (by rw [encE_len]; omega), encE_len, show l.length * 3 + 2 - l.length * 3 = 2 by omega]
    rfl
  rw [e1] at hs
  have e2 : (l ++ [{ e with x := x }]).length = (l ++ [e]).length := by simp
  rw [e2]
  exact hs.1
theorem RowG.heap {w w' : World} {B : Nat} {v : Value} {l : List Ent} (h : RowG encE brT w B v l) (hh : w'.heap = w.heap) : RowG encE brT w' B v l := h.on fun g _ _ _ => by rw [hh]
/-- Without the last one. -/
theorem RowG.pop {w : World} {B g n cap : Nat} {l : List Ent} {e : Ent} (h : RowG encE brT w B (.slice (some ⟨g, 0, none⟩) n cap) (l ++ [e])) : RowG encE brT w B (.slice (some ⟨g, 0, none⟩) l.length cap) l := by
  have hn : n = l.length + 1 := by
    rcases h.row.2 with ⟨e1, _⟩ | ⟨_, _, _, e1, _⟩
    · cases e1
    · injection e1 with _ e1 _; simpa using e1
  have h1 := h.row
  have e1 : (l ++ [e]).length = n := by simpa using hn.symm
  rw [e1] at h1
  have h2 := row_take h1 l.length (by omega)
  refine ⟨?_, by have := h.len; rw [List.length_append] at this; omega⟩
  rw [encE_snoc, List.take_append_of_le_length (by rw [encE_len]; exact Nat.le_refl _), List.take_of_length_le (by rw [encE_len]; exact Nat.le_refl _)] at h2
  exact h2
theorem MpF.x {a b : World} {mb B : Nat} (h : MpF a b mb) (hB : B ≤ a.heap.size) : BelX B mb a b := ⟨h.os, h.tape, h.output, h.size, fun k hk hn => h.block k (by omega) hn⟩
/-- Weighing is under way: the open branches, in a row; the scale; what is elsewhere stays; s: a weight that is to be added to the last one. -/
structure WgI (w : World) (N sb mb : Nat) (ex : Prop) (tot s : Int) (v : Value) (E : List Ent) (wr : World) : Prop where
  row : RowG encE brT wr w.heap.size v E
  sc : SC wr sb mb ex (MF w N ex E)
  fr : BelX w.heap.size mb w wr
  ok : ∀ e, e ∈ E → EntOk w N ex e
  dec : E.Pairwise fun a b => wtI b.t < wtI a.t
  ch : ex → chn tot s E.reverse
section
variable {w wr : World} {N sb mb : Nat} {ex : Prop} {tot s : Int} {v : Value} {E0 : List Ent} {e : Ent}
theorem MF.less {E E' : List Ent} {c : Addr} {x : Int} (h : MF w N ex E c x) (hE : ∀ e, e ∈ E → e ∈ E') : MF w N ex E' c x :=
  ⟨h.1, h.2.1, h.2.2.1, fun hx => by
    obtain ⟨b, o, t', h1, h2, h3⟩ := h.2.2.2 hx
    exact ⟨b, o, t', h1, h2, h3.imp (fun h => h) fun ⟨e, he, h4⟩ => ⟨e, hE e he, h4⟩⟩⟩
/-- What is read of the last branch. -/
theorem WgI.top (h : WgI w N sb mb ex tot s v (E0 ++ [e]) wr) : ∃ g cap, v = .slice (some ⟨g, 0, none⟩) (E0.length + 1) cap ∧ w.heap.size ≤ g ∧ g ≠ sb ∧ g ≠ mb ∧ g < wr.heap.size ∧ (∀ i, wr.frozen? ⟨g, i, none⟩ = false) ∧ wr.cell? ⟨g, E0.length * 3, none⟩ = some (.pointer (some ⟨e.nb, e.no, none⟩)) ∧ wr.cell? ⟨g, E0.length * 3 + 1, none⟩ = some (.slice e.la e.ls.length e.lc) ∧ wr.cell? ⟨g, E0.length * 3 + 2, none⟩ = some (.int .i64 e.x) ∧ E0.length + 1 ≤ cap := by
  obtain ⟨g, cap, e1, h1, h2, cur, h3⟩ := h.row.form (by simp)
  have e1' : v = .slice (some ⟨g, 0, none⟩) (E0.length + 1) cap := by rw [e1]; simp
  subst e1'
  have hr := h.row
  obtain ⟨c0, c1, c2⟩ := hr.last
  refine ⟨g, cap, rfl, h1, fun e2 => ?_, fun e2 => ?_, h2, fun i => ?_, c0, c1, c2, ?_⟩
  · have := h.sc.bk
    rw [← e2, h3] at this
    injection this with this
    injection this with _ this _
    exact absurd this (by decide)
  · obtain ⟨es, cl, h4, _⟩ := h.sc.mp
    rw [← e2, h3] at h4
    cases h4
  · unfold World.frozen?
    rw [h3]
    simp
  · rcases hr.row.2 with ⟨e1, _⟩ | ⟨_, _, _, e1, _, _, h5, _⟩
    · cases e1
    · injection e1 with _ _ e1
      subst e1
      simpa using h5
theorem WgI.low (h : WgI w N sb mb ex tot s v E0 wr) (hN : N ≤ w.heap.size) (hmb : N ≤ mb) : ∀ k, k < N → wr.heap[k]? = w.heap[k]? := fun k hk => h.fr.block k (by omega) (by omega)
/-- The last branch is done: what it weighs is known. -/
theorem WgI.upd (h : WgI w N sb mb ex tot 0 v (E0 ++ [e]) wr) (hN : N ≤ w.heap.size) (hmb : N ≤ mb) (hls : e.ls = []) :
    ∃ w2, (Instr.mapUpdate 155 (.map (some mb)) (.pointer (some ⟨e.nb, e.no, none⟩)) (.int .i64 e.x)).run Tryz.prog wr.drew = .ok () w2 ∧ MpF wr w2 mb ∧ (ex → e.x = wtI e.t) ∧ ∀ g cap, v = .slice (some ⟨g, 0, none⟩) (E0.length + 1) cap → WgI w N sb mb ex tot e.x (.slice (some ⟨g, 0, none⟩) E0.length cap) E0 w2 := by
  have hok := h.ok e (by simp)
  have hx : ex → e.x = wtI e.t := fun hx => by
    have := h.ch hx
    rw [List.reverse_append] at this
    have := this.1
    rw [hls, wtK] at this
    omega
  have hlow := h.low hN hmb
  obtain ⟨ka, kc, hn, _, _, hb, hp, _⟩ := hok.tr.parts
  have hbk : wr.drew.heap[e.nb]? = w.heap[e.nb]? := hlow e.nb hb
  have huf : UnF wr.drew ⟨e.nb, e.no, none⟩ := hn.uf.on hbk
  have hmfe : ∀ c, c.block < N → (ex → c = ⟨e.nb, e.no, none⟩) → MF w N ex E0 c e.x := fun c hcl hc => ⟨hcl, hok.x0, hok.x1, fun hh => ⟨e.nb, e.no, e.t, hc hh, hok.tr, .inl (hx hh)⟩⟩
  obtain ⟨w2, hrun, hm2, hg⟩ := (h.sc.mp.drewN 1).store huf (fun hh => (hp hh).on hbk) (x := e.x) (F' := MF w N ex E0) (fun c y hF hne => ⟨hF.1, hF.2.1, hF.2.2.1, fun hh => by
    obtain ⟨b, o, t', h1, h2, h3⟩ := hF.2.2.2 hh
    refine ⟨b, o, t', h1, h2, h3.imp (fun h => h) fun ⟨e', he', h4⟩ => ?_⟩
    rcases List.mem_append.1 he' with he' | he'
    · exact ⟨e', he', h4⟩
    · obtain rfl : e' = e := by simpa using he'
      exact absurd h4 (hne hh)⟩) (hmfe _ hb fun _ => rfl) (fun c y hF hc => hmfe c hF.1 hc)
  have hgb : ∀ k, k < wr.heap.size → k ≠ mb → w2.heap[k]? = wr.heap[k]? := fun k hk hne => hg.block k hk (fun e => hne (by injection e))
  have hfr : MpF wr w2 mb := ⟨hg.os, hg.tape, hg.output, hg.size, hgb⟩
  refine ⟨w2, hrun, hfr, hx, fun g cap hv => ?_⟩
  obtain ⟨g', cap', hv', hg1, hg2, hg3, hg4, _⟩ := h.top
  rw [hv] at hv'
  injection hv' with hv' _ hc
  injection hv' with hv'
  injection hv' with hv' _ _
  subst hv' hc
  have hr := h.row
  rw [hv] at hr
  refine ⟨hr.pop.on fun q hq _ _ => ?_, h.sc.on (hgb sb h.sc.lt h.sc.ne) hm2, h.fr.trans (hfr.x h.fr.size), fun e' he' => h.ok e' (by simp [he']), (List.pairwise_append.1 h.dec).1, fun hh => ?_⟩
  · obtain rfl : g = q := Option.some.inj hq
    exact hgb g hg4 hg3
  · have := h.ch hh
    rw [List.reverse_append] at this
    rw [hx hh]
    exact this.2
/-- A weight is added to the last branch. -/
theorem WgI.addR {w3 : World} {g cap : Nat} {y : Int} (h : WgI w N sb mb ex tot s (.slice (some ⟨g, 0, none⟩) (E0.length + 1) cap) (E0 ++ [e]) wr) (htot : ex → tot ≤ 67108864) (hgw : w.heap.size ≤ g) (hgs : g ≠ sb) (hgm : g ≠ mb) (hy : 0 ≤ y ∧ y ≤ 67108865) (hs : ex → y = s) (ha : AddR wr g (E0.length * 3) (min (e.x + y) 67108865) w3) :
    ∃ e', WgI w N sb mb ex tot 0 (.slice (some ⟨g, 0, none⟩) (E0.length + 1) cap) (E0 ++ [e']) w3 ∧ mAll (E0 ++ [e']) ≤ mAll (E0 ++ [e]) := by
  have hok := h.ok e (by simp)
  have hx0 := hok.x0
  have hx1 := hok.x1
  have hdec : ∀ e' : Ent, e'.t = e.t → (E0 ++ [e']).Pairwise fun a b => wtI b.t < wtI a.t := fun e' he' => by
    have := List.pairwise_append.1 h.dec
    refine List.pairwise_append.2 ⟨this.1, by simp, fun a ha b hb => ?_⟩
    obtain rfl : b = e' := by simpa using hb
    rw [he']
    exact this.2.2 a ha e (by simp)
  have hmf : ∀ e' : Ent, e'.nb = e.nb → e'.no = e.no → ∀ c x, MF w N ex (E0 ++ [e]) c x → MF w N ex (E0 ++ [e']) c x := fun e' h1 h2 c x hF => ⟨hF.1, hF.2.1, hF.2.2.1, fun hh => by
    obtain ⟨b, o, t', h3, h4, h5⟩ := hF.2.2.2 hh
    refine ⟨b, o, t', h3, h4, h5.imp (fun h => h) fun ⟨a, ha, h6⟩ => ?_⟩
    rcases List.mem_append.1 ha with ha | ha
    · exact ⟨a, by simp [ha], h6⟩
    · obtain rfl : a = e := by simpa using ha
      exact ⟨e', by simp, by rw [h6, h1, h2]⟩⟩
  have hok' : ∀ e' : Ent, EntOk w N ex e' → ∀ a, a ∈ E0 ++ [e'] → EntOk w N ex a := fun e' he' a ha => by
    rcases List.mem_append.1 ha with ha | ha
    · exact h.ok a (by simp [ha])
    · obtain rfl : a = e' := by simpa using ha
      exact he'
  obtain ⟨ha, hos, htp, hou⟩ := ha
  have key : ∀ W : World, W.heap = w3.heap → (∀ k, k ≠ g → W.heap[k]? = wr.heap[k]?) → (∀ a, UnF wr a → UnF W a) → (∀ a, PlnF wr a → PlnF W a) → W.heap.size = wr.heap.size → ∀ e' : Ent, e'.nb = e.nb → e'.no = e.no → SC w3 sb mb ex (MF w N ex (E0 ++ [e'])) ∧ BelX w.heap.size mb w w3 := fun W hW hk hu hp hz e' h1 h2 => by
    have hu3 : ∀ a, UnF wr a → UnF w3 a := fun a h => ⟨by have := (hu a h).1; unfold World.cell? at this ⊢; rwa [hW] at this, by have := (hu a h).2; unfold World.frozen? at this ⊢; rwa [hW] at this⟩
    have hp3 : ∀ a, PlnF wr a → PlnF w3 a := fun a h => by have := hp a h; unfold PlnF at this ⊢; rwa [hW] at this
    refine ⟨h.sc.on (by rw [← hW]; exact hk sb hgs.symm) ((h.sc.mp.imp (hmf e' h1 h2)).on (by rw [← hW]; exact hk mb hgm.symm) hu3 hp3), ⟨hos.trans h.fr.os, htp.trans h.fr.tape, hou.trans h.fr.output, by rw [← hW, hz]; exact h.fr.size, fun k hk' hne => ?_⟩⟩
    rw [← hW, hk k (by omega)]
    exact h.fr.block k hk' hne
  have hch : ex → e.x + wtK e.ls + s = wtI e.t ∧ chn tot (wtI e.t) E0.reverse := fun hh => by
    have := h.ch hh
    rwa [List.reverse_append] at this
  have hle : ex → (wtI e.t : Int) ≤ tot := fun hh => chn_ge _ _ (fun a ha => (h.ok a (by simp at ha; simp [ha])).x0) (hch hh).2
  rcases ha with ⟨hz, hh⟩ | ⟨hz, hh⟩
  · obtain ⟨k1, k2⟩ := key _ hh.symm (fun k hk => Below.heap_setCell _ _ _ _ hk) (fun a ha => ha.set _) (fun a ha => ha.set _ _ _) (by simp) { e with x := min (e.x + y) 67108865 } rfl rfl
    refine ⟨{ e with x := min (e.x + y) 67108865 }, ⟨(h.row.sum _).heap hh, k1, k2, hok' _ ⟨hok.tr, hok.ks, hok.cap, hok.len, by show 0 ≤ min _ _; omega, by show min _ _ ≤ _; omega, hok.lt⟩, hdec _ rfl, fun hx => ?_⟩, by rw [mAll_snoc, mAll_snoc]; exact Nat.le_refl _⟩
    rw [List.reverse_append]
    refine ⟨?_, (hch hx).2⟩
    show min (e.x + y) 67108865 + wtK e.ls + 0 = wtI e.t
    have := (hch hx).1
    have := hs hx
    omega
  · obtain ⟨k1, k2⟩ := key _ hh.symm (fun k hk => by rw [Below.heap_setCell _ _ _ _ hk, Below.heap_setCell _ _ _ _ hk]) (fun a ha => (ha.set _).set _) (fun a ha => (ha.set _ _ _).set _ _ _) (by simp) { e with x := min (e.x + y) 67108865, la := none, lc := 0, ls := [] } rfl rfl
    refine ⟨{ e with x := min (e.x + y) 67108865, la := none, lc := 0, ls := [] }, ⟨((h.row.sum (min (e.x + y) 67108865)).left none 0 []).heap hh, k1, k2, hok' _ ⟨hok.tr, ⟨fun e => absurd rfl e, fun i k g q hi => by cases hi⟩, Nat.le_refl _, Nat.zero_le _, by show 0 ≤ min _ _; omega, by show min _ _ ≤ _; omega, fun k hk => by cases hk⟩, hdec _ rfl, fun hx => ?_⟩, by rw [mAll_snoc, mAll_snoc]; show _ + (1 + 2 * wtK []) ≤ _; rw [wtK]; omega⟩
    exfalso
    have := (hch hx).1
    have := hs hx
    have := hle hx
    have := htot hx
    omega
theorem MpP.onF {W W' : World} {F : Addr → Int → Prop} (h : MpP W mb ex F) (hb : W'.heap[mb]? = W.heap[mb]?) (hF : ∀ a x, F a x → W'.heap[a.block]? = W.heap[a.block]?) : MpP W' mb ex F := by
  obtain ⟨es, cl, h1, h2, h3⟩ := h
  exact ⟨es, cl, hb.trans h1, fun e he => (by obtain ⟨a, x, h3, h4, h5, h6, h7⟩ := h2 e he; exact ⟨a, x, h3, h4, h5.on (hF a x h7), fun hx => (h6 hx).on (hF a x h7), h7⟩), h3⟩
/-- The first kid of the last branch is taken. -/
theorem WgI.take {g cap : Nat} {k : It} {r : List It} {la : Option Addr} (h : WgI w N sb mb ex tot 0 (.slice (some ⟨g, 0, none⟩) (E0.length + 1) cap) (E0 ++ [e]) wr) (hN : N ≤ w.heap.size) (hgw : w.heap.size ≤ g) (hgs : g ≠ sb) (hgm : g ≠ mb) (hls : e.ls = k :: r) (hk : KidsF w N ex la r) : WgI w N sb mb ex tot (wtI k) (.slice (some ⟨g, 0, none⟩) (E0.length + 1) cap) (E0 ++ [{ e with la := la, lc := e.lc - 1, ls := r }]) (wr.setCell ⟨g, E0.length * 3 + 1, none⟩ (.slice la r.length (e.lc - 1))) := by
  have hok := h.ok e (by simp)
  have hcap := hok.cap
  have hlen := hok.len
  rw [hls, List.length_cons] at hcap hlen
  have hb : ∀ q, q ≠ g → (wr.setCell ⟨g, E0.length * 3 + 1, none⟩ (.slice la r.length (e.lc - 1))).heap[q]? = wr.heap[q]? := fun q hq => Below.heap_setCell _ _ _ _ hq
  refine ⟨h.row.left la (e.lc - 1) r, h.sc.on (hb sb hgs.symm) ((h.sc.mp.imp fun c x hF => ?_).onF (hb mb hgm.symm) fun a x hF => hb _ (by have := hF.1; omega)), ⟨h.fr.os, h.fr.tape, h.fr.output, by simpa using h.fr.size, fun q hq hne => (hb q (by omega)).trans (h.fr.block q hq hne)⟩, fun a ha => ?_, ?_, fun hx => ?_⟩
  · refine ⟨hF.1, hF.2.1, hF.2.2.1, fun hh => ?_⟩
    obtain ⟨b, o, t', h3, h4, h5⟩ := hF.2.2.2 hh
    refine ⟨b, o, t', h3, h4, h5.imp (fun h => h) fun ⟨a, ha, h6⟩ => ?_⟩
    rcases List.mem_append.1 ha with ha | ha
    · exact ⟨a, by simp [ha], h6⟩
    · obtain rfl : a = e := by simpa using ha
      exact ⟨{ a with la := la, lc := a.lc - 1, ls := r }, by simp, h6⟩
  · rcases List.mem_append.1 ha with ha | ha
    · exact h.ok a (by simp [ha])
    · obtain rfl : a = _ := by simpa using ha
      exact ⟨hok.tr, hk, by show r.length ≤ e.lc - 1; omega, by show r.length ≤ 100000; omega, hok.x0, hok.x1, fun q hq => hok.lt q (by rw [hls]; exact List.mem_cons_of_mem _ hq)⟩
  · have := List.pairwise_append.1 h.dec
    refine List.pairwise_append.2 ⟨this.1, by simp, fun a ha b hb => ?_⟩
    obtain rfl : b = _ := by simpa using hb
    exact this.2.2 a ha e (by simp)
  · have := h.ch hx
    rw [List.reverse_append] at this ⊢
    refine ⟨?_, this.2⟩
    have h1 := this.1
    rw [hls, wtK] at h1
    show e.x + wtK r + wtI k = wtI e.t
    omega
/-- All that is open weighs more than what is to come. -/
theorem WgI.kid_lt {k : It} {r : List It} (h : WgI w N sb mb ex tot s v (E0 ++ [e]) wr) (hls : e.ls = k :: r) : ∀ a, a ∈ E0 ++ [e] → wtI k < wtI a.t := by
  intro a ha
  have h1 := (h.ok e (by simp)).lt k (by rw [hls]; simp)
  rcases List.mem_append.1 ha with ha | ha
  · have := (List.pairwise_append.1 h.dec).2.2 a ha e (by simp)
    omega
  · obtain rfl : a = e := by simpa using ha
    exact h1
/-- What the map answers of it. -/
theorem MF.told {E : List Ent} {b o : Nat} {k : It} {c : Addr} {x : Int} (h : MF w N ex E c x) (hc : ex → c = ⟨b, o, none⟩) (hk : TreeF w N ex b o k) (hlt : ∀ a, a ∈ E → wtI k < wtI a.t) (ho : ∀ a, a ∈ E → EntOk w N ex a) : 0 ≤ x ∧ x ≤ 67108865 ∧ (ex → x = wtI k) := by
  refine ⟨h.2.1, h.2.2.1, fun hx => ?_⟩
  obtain ⟨b', o', t', h1, h2, h3⟩ := h.2.2.2 hx
  rw [hc hx] at h1 h3
  injection h1 with h1 h1' _
  subst h1 h1'
  rcases h3 with h3 | ⟨e, he, h4⟩
  · rw [h3, h2.det hk]
  · injection h4 with h4 h5 _
    subst h4 h5
    have h6 := (ho e he).tr.det hk
    have := hlt e he
    omega
/-- The map, as another branch is opened. -/
theorem MF.open {E : List Ent} {b o kc : Nat} {ka : Option Addr} {k : It} {x : Int} (hk : TreeF w N ex b o k) (hb : b < N) :
    (∀ c y, MF w N ex E c y → (ex → c ≠ ⟨b, o, none⟩) → MF w N ex (E ++ [⟨b, o, ka, kc, k.kids, x, k⟩]) c y) ∧ MF w N ex (E ++ [⟨b, o, ka, kc, k.kids, x, k⟩]) ⟨b, o, none⟩ 67108865 ∧ ∀ c y, MF w N ex E c y → (ex → c = ⟨b, o, none⟩) → MF w N ex (E ++ [⟨b, o, ka, kc, k.kids, x, k⟩]) c 67108865 := by
  have h0 : ∀ c, c.block < N → (ex → c = ⟨b, o, none⟩) → MF w N ex (E ++ [⟨b, o, ka, kc, k.kids, x, k⟩]) c 67108865 := fun c hcl hc => ⟨hcl, by omega, by omega, fun hx => ⟨b, o, k, hc hx, hk, .inr ⟨⟨b, o, ka, kc, k.kids, x, k⟩, by simp, hc hx⟩⟩⟩
  exact ⟨fun c y h _ => h.less fun e he => by simp [he], h0 _ hb fun _ => rfl, fun c y h hc => h0 c h.1 hc⟩
/-- One more branch is open. -/
theorem WgI.more {E : List Ent} {b o kc m : Nat} {ka : Option Addr} {k : It} {v' : Value} {w2 w3 : World} (h : WgI w N sb mb ex tot (wtI k) v E wr) (hN : N ≤ w.heap.size) (hsb : sb < w.heap.size) (hmb : mb < w.heap.size) (hk : TreeF w N ex b o k) (hc : k.kids.length ≤ kc) (hl : k.kids.length ≤ 100000) (hkk : KidsF w N ex ka k.kids) (hm : m = k.lines.length) (hm2 : m ≤ 1000000) (hlt : ∀ a, a ∈ E → wtI k < wtI a.t)
    (hs2 : SC w2 sb mb ex (MF w N ex (E ++ [⟨b, o, ka, kc, k.kids, 1 + m, k⟩]))) (hf2 : MpF wr w2 mb) (hr : RowG encE brT w3 w.heap.size v' (E ++ [⟨b, o, ka, kc, k.kids, 1 + m, k⟩])) (hb : Below w.heap.size w2 w3) :
    WgI w N sb mb ex tot 0 v' (E ++ [⟨b, o, ka, kc, k.kids, 1 + m, k⟩]) w3 := by
  refine ⟨hr, hs2.on (hb.block sb hsb) (hs2.mp.onF (hb.block mb hmb) fun a x hF => hb.block _ (by have := hF.1; omega)), (h.fr.trans (hf2.x h.fr.size)).trans ⟨hb.os, hb.tape, hb.output, hb.size, fun q hq _ => hb.block q hq⟩, fun a ha => ?_, ?_, fun hx => ?_⟩
  · rcases List.mem_append.1 ha with ha | ha
    · exact h.ok a ha
    · obtain rfl : a = _ := by simpa using ha
      exact .of hk hc hl hkk (by omega) (by omega)
  · refine List.pairwise_append.2 ⟨h.dec, by simp, fun a ha c hc => ?_⟩
    obtain rfl : c = _ := by simpa using hc
    exact hlt a ha
  · rw [List.reverse_append]
    refine ⟨?_, h.ch hx⟩
    show (1 : Int) + m + wtK k.kids + 0 = wtI k
    have := wtI_eq k
    omega
end
end Go.Proofs.YtpbolcjcmkmalaaGreatDoor
namespace Go.Proofs.YtpbolcjcmkmalaaGreatDoor
open Go.RowKit Go.Extern.Stop Go.Stop Go.Extern

theorem infoBr : ∃ i z, Tryz.prog.info? brT = some i ∧ i.zero = some z ∧ i.size = encE.k ∧ i.bytes = 40 ∧ z.cells.size = encE.k := by
  have h : (Tryz.prog.info? brT).map (fun i => (i.zero.map (fun z => z.cells.size), i.size, i.bytes)) = some (some 3, 3, 40) := by kernel_rfl
  cases hi : Tryz.prog.info? brT with
  | none => rw [hi] at h; cases h
  | some i =>
    rw [hi] at h
    simp only [Option.map_some, Option.some.injEq, Prod.mk.injEq] at h
    cases hz : i.zero with
    | none => rw [hz] at h; simp at h
    | some z =>
      rw [hz] at h
      simp only [Option.map_some, Option.some.injEq] at h
      exact ⟨i, z, rfl, hz, h.2.1, h.2.2, h.1⟩
theorem BelX.down2 {B x n : Nat} {a w : World} (h : BelX B x a w) (h1 : n ≤ B) (h2 : n ≤ x) : Below n a w := ⟨h.os, h.tape, h.output, h.size, fun k hk => h.block k (by omega) (by omega)⟩
set_option maxHeartbeats 8000000 in
set_option maxRecDepth 20000 in
theorem weigh_a {w : World} {N sb mb b o : Nat} {t : It} {ex : Prop} (h : SC w sb mb ex (fun _ _ => False)) (hN : N ≤ w.heap.size) (hsb : N ≤ sb) (hmb : N ≤ mb) (ht : TreeF w N ex b o t) (hsz : wtI t ≤ 400000) :
    Calls Tryz.prog 67 #[.pointer (some ⟨sb, 0, none⟩), .pointer (some ⟨b, o, none⟩)] w fun e w' => ∃ x : Int, e = .returned (.int .i64 x) ∧ (ex → x = wtI t) ∧ Below N w w' := by
  obtain ⟨ka, kc, hn, hc, hl, hb, hp, hk⟩ := ht.parts
  have HT := hidLL (told_a h hn hp)
  by_cases h0 : t.kids.length = 0
  · have HW : Hid ((1 : Int) + t.lines.length = wtI t) := by
      show _ = _
      have := wtI_eq t
      rw [List.eq_nil_of_length_eq_zero h0, wtK] at this
      omega
    have H0 := hidLL h0
    clear h0 hn hc hl hk ht h
    go_enter Tryz.func67, Tryz.ntmps67
    go_wp2_with fail
    refine HT.out.mono ?_
    rintro e w1 ⟨x, is, k, rfl, h1, _, rfl⟩
    obtain ⟨rfl, rfl⟩ := h1 H0.out
    go_wp2
    go_ret
    exact ⟨_, rfl, fun _ => HW.out, bdrewN (Below.refl _ _) _⟩
  · have hbm : b ≠ mb := by omega
    have HB := hidLL (fun k : Nat => begin_a (ka := ka) (kc := kc) (F' := MF w N ex ([] ++ [⟨b, o, ka, kc, t.kids, 1 + t.lines.length, t⟩])) (h.drewN k) (hn.on (w' := w.drewN k) rfl) hp hbm (fun _ _ h => h.elim) (MF.open (E := []) ht hb).2.1 (fun _ _ h => h.elim))
    have HI : Hid (∀ w2, SC w2 sb mb ex (MF w N ex ([] ++ [⟨b, o, ka, kc, t.kids, 1 + t.lines.length, t⟩])) → BelX w.heap.size mb w w2 → WgI w N sb mb ex (wtI t) 0 (.slice (some ⟨w2.heap.size, 0, none⟩) 1 1) [⟨b, o, ka, kc, t.kids, 1 + t.lines.length, t⟩] (w2.alloc (.cells #[.pointer (some ⟨b, o, none⟩), .slice ka t.kids.length kc, .int .i64 (1 + t.lines.length)] brT))) := fun w2 hs hx => by
      refine ⟨⟨World.ownsRow_lit w2 _ 1 hx.size (by decide) rfl, by simp⟩, hs.below ((Below.refl _ _).alloc (Nat.le_refl _) _), hx.trans (Below.x ((Below.refl _ _).alloc (Nat.le_refl _) _) mb hx.size), fun e he => ?_, by simp, fun _ => ⟨?_, rfl⟩⟩
      · obtain rfl : e = _ := by simpa using he
        exact .of ht hc hl hk (by omega) (by have := wtI_eq t; omega)
      · show (1 : Int) + t.lines.length + wtK t.kids + 0 = wtI t
        have := wtI_eq t
        omega
    have H0 := hidLL h0
    have hmA : mAll [⟨b, o, ka, kc, t.kids, 1 + t.lines.length, t⟩] ≤ 800000 := by
      show 1 + 2 * wtK t.kids + 0 ≤ _
      have := wtI_eq t
      omega
    have HS := hidLL (And.intro h.lt (And.intro h.mp.lt (And.intro hN (And.intro hsb hmb))))
    have HmA := hidLL hmA
    obtain ⟨tot, htot⟩ : ∃ tot, tot = wtI t := ⟨_, rfl⟩
    have HTo : Hid (tot ≤ 400000) := by show _ ≤ _; omega
    rw [← htot] at HI ⊢
    clear h0 hn hc hl hk ht h hmA htot hp hb hsz
    generalize t.kids.length = kn at *
    go_enter Tryz.func67, Tryz.ntmps67
    go_wp2_with fail
    refine HT.out.mono ?_
    rintro e w1 ⟨x, is, k, rfl, _, h1, rfl⟩
    have hi : is = false := by
      cases is
      · rfl
      · obtain ⟨c, hc, _⟩ := h1 H0.out rfl
        exact hc.elim
    subst hi
    clear h1 HT
    go_wp2_with fail
    refine (HB.out k).mono ?_
    rintro e w2 ⟨rfl, hs2, hf2⟩
    have hI := HI.out w2 hs2 ⟨hf2.os, hf2.tape, hf2.output, hf2.size, fun q hq hn => hf2.block q hq hn⟩
    have HI2 := hidLL hI
    clear hI hs2 hf2 HI HB
    go_wp2_with fail
    go_loopg [7] (mAll [⟨b, o, ka, kc, t.kids, 1 + t.lines.length, t⟩]) (fun k v wr => ∃ E, E ≠ [] ∧ mAll E ≤ k ∧ k ≤ 800000 ∧ WgI w N sb mb ex tot 0 v E wr)
    case atStart => exact ⟨_, by simp, Nat.le_refl _, HmA.out, HI2.out⟩
    case round =>
      obtain ⟨E, hE, hm, hk8, hI⟩ := hrel
      clear HI2
      obtain ⟨E0, e, rfl⟩ : ∃ E0 e, E = E0 ++ [e] := by
        rcases List.eq_nil_or_concat E with h1 | ⟨a, b, hab⟩
        · exact absurd h1 hE
        · exact ⟨a, b, by rw [hab, List.concat_eq_append]⟩
      obtain ⟨g, cap, rfl, hgw, hgs, hgm, hgl, hgf, c0, c1, c2, hcap⟩ := hI.top
      obtain ⟨s0, s1, s2, s3, s4, s5⟩ := six hI.sc.bk
      have hok := hI.ok e (by simp)
      obtain ⟨m0, hm0⟩ : ∃ m0, m0 = E0.length := ⟨_, rfl⟩
      rw [← hm0] at c0 c1 c2 hcap ⊢
      have hlen : m0 + 1 ≤ 800000 := by have := mAll_len (E0 ++ [e]); rw [List.length_append] at this; simp at this; omega
      have hmz : (m0 : Int) < (m0 : Int) + 1 := by omega
      have HI := hidLL hI
      have HM := hidLL (And.intro hm (And.intro hk8 hm0))
      have HG := hidLL (And.intro hgw (And.intro hgs (And.intro hgm hgl)))
      clear hI hm hk8 hm0 hE hgw hgs hgl s0 s1 s2 s4
      by_cases hls : e.ls = []
      · have HL := hidLL hls
        rw [hls] at c1
        clear hls
        obtain ⟨w3, hrun, hf3, hx3, hnext⟩ := HI.out.upd HS.out.2.2.1 HS.out.2.2.2.2 HL.out
        have s5' : w3.cell? ⟨sb, 5, none⟩ = some (.map (some mb)) := (World.cell?_of_block (a := ⟨sb, 5, none⟩) (hf3.block sb HI.out.sc.lt HI.out.sc.ne)).trans s5
        have s3' : w3.cell? ⟨sb, 3, none⟩ = some (.int .i64 67108864) := (World.cell?_of_block (a := ⟨sb, 3, none⟩) (hf3.block sb HI.out.sc.lt HI.out.sc.ne)).trans s3
        have c0' : w3.cell? ⟨g, m0 * 3, none⟩ = some (.pointer (some ⟨e.nb, e.no, none⟩)) := (World.cell?_of_block (a := ⟨g, m0 * 3, none⟩) (hf3.block g HG.out.2.2.2 hgm)).trans c0
        have HX := hidLL (And.intro hx3 (hnext g cap rfl))
        have hx01 := And.intro hok.x0 hok.x1
        have HOk := hidLL hok
        clear hf3 hx3 hnext hgm hok
        by_cases h00 : E0 = []
        · subst h00
          have HM0 : Hid (m0 = 0) := by show _ = _; rw [HM.out.2.2]; rfl
          have hm0 := HM0.out
          subst hm0
          clear hx01
          go_wp2_with fail
          go_region_held3 (fun V => V.cell? ⟨sb, 5, none⟩ = some (.map (some mb)) ∧ V.cell? ⟨g, 0 * 3, none⟩ = some (.pointer (some ⟨e.nb, e.no, none⟩))) (first | exact ⟨s5, c0⟩ | exact ⟨s5', c0'⟩ | go_keep) (fail)
          all_goals go_wp2_with fail
          all_goals go_ret
          all_goals exact ⟨e.x, rfl, fun hx => HX.out.2.ch hx, BelX.down2 HX.out.2.fr HS.out.2.2.1 HS.out.2.2.2.2⟩
        · obtain ⟨E1, e1, h01⟩ : ∃ E1 e1, E0 = E1 ++ [e1] := by
            rcases List.eq_nil_or_concat E0 with h1 | ⟨a, b, hab⟩
            · exact absurd h1 h00
            · exact ⟨a, b, by rw [hab, List.concat_eq_append]⟩
          obtain ⟨m1, hm1⟩ : ∃ m1, m1 = E1.length := ⟨_, rfl⟩
          have hm01 : m0 = m1 + 1 := by rw [HM.out.2.2, h01, hm1]; simp
          have hI3 := HX.out.2
          rw [h01] at hI3
          rw [show (E1 ++ [e1]).length = m1 + 1 by rw [hm1]; simp] at hI3
          obtain ⟨g', cap', hv', hgw', hgs', hgm', hgl', hgf', d0, d1, d2, _⟩ := hI3.top
          rw [← hm1] at hv' d0 d1 d2
          injection hv' with hv' _ hv2
          injection hv' with hv'
          injection hv' with hv' _ _
          subst hv' hv2
          have hok1 := hI3.ok e1 (by simp)
          have HA := hidLL (add_a (x := e1.x) (y := e.x) s3' hgs' d1 d2 hgf' (And.intro hok1.x0 hok1.x1) hx01)
          have HN3 : Hid (∀ w4, AddR w3 g (m1 * 3) (min (e1.x + e.x) 67108865) w4 → ∃ E', E' ≠ [] ∧ mAll E' ≤ mAll E0 ∧ WgI w N sb mb ex tot 0 (.slice (some ⟨g, 0, none⟩) (m1 + 1) cap) E' w4) := fun w4 ha => by
            rw [hm1] at ha hI3 ⊢
            obtain ⟨e', h1, h2⟩ := hI3.addR (fun _ => by have := HTo.out; omega) hgw' hgs' hgm' hx01 (fun _ => rfl) ha
            exact ⟨_, by simp, by rw [h01]; exact h2, h1⟩
          have HMl : Hid (mAll E0 < gk ∧ mAll E0 ≤ 800000) := by
            have h1 := HM.out.1
            have h2 := HM.out.2.1
            rw [mAll_snoc] at h1
            exact ⟨by omega, by omega⟩
          have hm1z : (m1 : Int) < (m1 : Int) + 1 := by omega
          subst hm01
          clear hI3 hok1 d0 d1 d2 hgf' hx01 hgw' hgs' hgm' hgl' hm1 h01
          go_wp2_with fail
          go_region_held3 (fun V => V.cell? ⟨sb, 5, none⟩ = some (.map (some mb)) ∧ V.cell? ⟨g, (m1 + 1) * 3, none⟩ = some (.pointer (some ⟨e.nb, e.no, none⟩))) (first | exact ⟨s5, c0⟩ | exact ⟨s5', c0'⟩ | go_keep) (fail)
          all_goals go_wp2_with fail
          all_goals refine HA.out.mono ?_
          all_goals rintro e9 w4 ⟨rfl, ha⟩
          all_goals obtain ⟨E', h91, h92, h93⟩ := HN3.out _ ha
          all_goals go_wp2_with fail
          all_goals go_roundg (mAll E0)
          all_goals first | exact HMl.out.1 | exact ⟨E', h91, h92, HMl.out.2, h93⟩
      · obtain ⟨k, r, hls'⟩ : ∃ k r, e.ls = k :: r := by
          cases hq : e.ls with
          | nil => exact absurd hq hls
          | cons k r => exact ⟨k, r, rfl⟩
        obtain ⟨kg, kq, hla⟩ := hok.ks.a hls
        have hcp := hok.cap
        have hks := hok.ks
        rw [hls', List.length_cons] at hcp c1
        rw [hla] at c1 hks
        rw [hls'] at hks
        obtain ⟨la', hla'⟩ : ∃ la', (if e.lc = 1 then some (⟨kg, kq, none⟩ : Addr) else some ⟨kg, kq + 4, none⟩) = la' := ⟨_, rfl⟩
        have HKr := hidLL (hla' ▸ hks.tail hcp)
        have HKh := hidLL hks.head
        have HLt := hidLL (HI.out.kid_lt hls')
        have HLs := hidLL hls'
        have hcz : (1 : Int) ≤ (e.lc : Int) := by omega
        have hT := HI.out.take HS.out.2.2.1 HG.out.1 HG.out.2.1 hgm hls' HKr.out
        rw [← HM.out.2.2] at hT
        clear hls hls' hks hok
        generalize hrl : r.length = rl at *
        generalize hlc : e.lc = lc at *
        obtain ⟨W2, hW2⟩ : ∃ W2, W2 = wr.setCell ⟨g, m0 * 3 + 1, none⟩ (.slice la' rl (lc - 1)) := ⟨_, rfl⟩
        rw [← hW2] at hT
        obtain ⟨g', cap', hv', _, _, _, hgl2, hgf2, d0, d1, d2, _⟩ := hT.top
        rw [← HM.out.2.2] at hv' d0 d1 d2
        injection hv' with hv' _ hv2
        injection hv' with hv'
        injection hv' with hv' _ _
        subst hv' hv2
        obtain ⟨_, _, _, t3, _, t5⟩ := six hT.sc.bk
        obtain ⟨ka2, kc2, hn2, hc2, hl2, hb2, hp2, hk2⟩ := HKh.out.parts
        have hlow := hT.low HS.out.2.2.1 HS.out.2.2.2.2
        have hn2' := hn2.on (hlow kg hb2)
        have HTo2 := hidLL (told_a hT.sc hn2' (fun hx => (hp2 hx).on (hlow kg hb2)))
        have hlt2 : ∀ a, a ∈ E0 ++ [{ e with la := la', lc := lc - 1, ls := r }] → wtI k < wtI a.t := fun a ha => by
          rcases List.mem_append.1 ha with ha | ha
          · exact HLt.out a (by simp [ha])
          · obtain rfl : a = _ := by simpa using ha
            exact HLt.out e (by simp)
        have HA2 : Hid (∀ (x : Int) (is : Bool), (k.kids.length = 0 → is = true ∧ x = 1 + k.lines.length) → (k.kids.length ≠ 0 → is = true → ∃ c, MF w N ex (E0 ++ [{ e with la := la', lc := lc - 1, ls := r }]) c x ∧ (ex → c = ⟨kg, kq, none⟩)) → is = true → 0 ≤ x ∧ x ≤ 67108865 ∧ (ex → x = wtI k)) := fun x is g1 g2 hi => by
          by_cases hz : k.kids.length = 0
          · obtain ⟨_, rfl⟩ := g1 hz
            have h1 := wtI_eq k
            rw [List.eq_nil_of_length_eq_zero hz, wtK] at h1
            have := hn2.hm
            exact ⟨by omega, by omega, fun _ => by omega⟩
          · obtain ⟨c, hc, hce⟩ := g2 hz hi
            exact hc.told hce HKh.out hlt2 hT.ok
        have HAd : Hid (∀ (y : Int) (k2 : Nat), 0 ≤ y ∧ y ≤ 67108865 → Calls Tryz.prog 105 #[.pointer (some ⟨sb, 0, none⟩), .pointer (some ⟨g, m0 * 3, none⟩), .int .i64 y] (W2.drewN k2) fun e' w' => e' = .returned (.tuple #[]) ∧ AddR (W2.drewN k2) g (m0 * 3) (min (e.x + y) 67108865) w') := fun y k2 hy => add_a (w := W2.drewN k2) t3 HG.out.2.1 d1 d2 hgf2 ⟨(hT.ok { e with la := la', lc := lc - 1, ls := r } (by simp)).x0, (hT.ok { e with la := la', lc := lc - 1, ls := r } (by simp)).x1⟩ hy
        have HBg : Hid (∀ k2 : Nat, Calls Tryz.prog 104 #[.pointer (some ⟨sb, 0, none⟩), .pointer (some ⟨kg, kq, none⟩)] (W2.drewN k2) fun e' w' => e' = .returned (.agg #[.pointer (some ⟨kg, kq, none⟩), .slice ka2 k.kids.length kc2, .int .i64 (1 + k.lines.length)]) ∧ SC w' sb mb ex (MF w N ex (E0 ++ [{ e with la := la', lc := lc - 1, ls := r }] ++ [⟨kg, kq, ka2, kc2, k.kids, 1 + k.lines.length, k⟩])) ∧ MpF (W2.drewN k2) w' mb) := fun k2 => by
          obtain ⟨m1, m2, m3⟩ := MF.open (E := E0 ++ [{ e with la := la', lc := lc - 1, ls := r }]) (ka := ka2) (kc := kc2) (x := 1 + k.lines.length) HKh.out hb2
          exact begin_a (hT.sc.drewN k2) (hn2'.on (w' := W2.drewN k2) rfl) (fun hx => (hp2 hx).on (hlow kg hb2)) (by have := HS.out.2.2.2.2; omega) m1 m2 m3
        have HE : Hid (∀ (y : Int) (w4 : World) (k2 : Nat), 0 ≤ y ∧ y ≤ 67108865 → (ex → y = wtI k) → AddR (W2.drewN k2) g (m0 * 3) (min (e.x + y) 67108865) w4 → ∃ E', E' ≠ [] ∧ mAll E' + 1 ≤ mAll (E0 ++ [e]) ∧ WgI w N sb mb ex tot 0 (.slice (some ⟨g, 0, none⟩) (m0 + 1) cap) E' w4) := fun y w4 k2 hy hyx ha => by
          have ha : AddR W2 g (m0 * 3) (min (e.x + y) 67108865) w4 := ha
          rw [HM.out.2.2] at ha hT ⊢
          obtain ⟨e', h1, h2⟩ := hT.addR (fun _ => by have := HTo.out; omega) HG.out.1 HG.out.2.1 hgm hy hyx ha
          refine ⟨_, by simp, ?_, h1⟩
          rw [mAll_snoc, mAll_snoc] at h2
          rw [mAll_snoc _ e, HLs.out, wtK]
          rw [mAll_snoc]
          have h2 : mAll E0 + (1 + 2 * wtK e'.ls) ≤ mAll E0 + (1 + 2 * wtK r) := h2
          have := wtI_eq k
          omega
        have HMo : Hid (∀ w5 w6 v' (k2 : Nat), SC w5 sb mb ex (MF w N ex (E0 ++ [{ e with la := la', lc := lc - 1, ls := r }] ++ [⟨kg, kq, ka2, kc2, k.kids, 1 + k.lines.length, k⟩])) → MpF (W2.drewN k2) w5 mb → RowG encE brT w6 w.heap.size v' (E0 ++ [{ e with la := la', lc := lc - 1, ls := r }] ++ [⟨kg, kq, ka2, kc2, k.kids, 1 + k.lines.length, k⟩]) → Below w.heap.size w5 w6 → ∃ E', E' ≠ [] ∧ mAll E' + 1 ≤ mAll (E0 ++ [e]) ∧ WgI w N sb mb ex tot 0 v' E' w6) := fun w5 w6 v' k2 h1 h2 h3 h4 => by
          refine ⟨_, by simp, ?_, hT.more HS.out.2.2.1 HS.out.1 HS.out.2.1 HKh.out hc2 hl2 hk2 rfl hn2.hm hlt2 h1 ⟨h2.os, h2.tape, h2.output, h2.size, h2.block⟩ h3 h4⟩
          rw [mAll_snoc, mAll_snoc, mAll_snoc, HLs.out, wtK]
          have := wtI_eq k
          show mAll E0 + (1 + 2 * wtK r) + (1 + 2 * wtK k.kids) + 1 ≤ mAll E0 + (1 + 2 * (wtI k + wtK r))
          omega
        have HRw : Hid (∀ w5 (k2 : Nat), MpF (W2.drewN k2) w5 mb → RowG encE brT w5 w.heap.size (.slice (some ⟨g, 0, none⟩) (m0 + 1) cap) (E0 ++ [{ e with la := la', lc := lc - 1, ls := r }]) ∧ w.heap.size ≤ w5.heap.size) := fun w5 k2 h2 => ⟨hT.row.on fun q hq _ _ => by
          obtain rfl : g = q := Option.some.inj hq
          exact h2.block g hgl2 hgm, Nat.le_trans hT.fr.size h2.size⟩
        have HMl : Hid (mAll (E0 ++ [e]) ≤ gk ∧ gk ≤ 800000 ∧ (E0 ++ [{ e with la := la', lc := lc - 1, ls := r }]).length + 1 ≤ 1000000) := ⟨HM.out.1, HM.out.2.1, by
          have := HM.out.2.2
          rw [List.length_append, List.length_singleton]
          omega⟩
        have HW2 := hidLL hW2
        clear hT hW2 d0 d1 d2 t3 t5 hlow hn2 hn2' hc2 hl2 hb2 hp2 hk2 hlt2 HI HM HLt HKh HKr
        go_upto_region 15 with fail
        rw [← HW2.out]
        go_wp2_with fail
        refine HTo2.out.mono ?_
        rintro e9 w9 ⟨x, is, k2, rfl, g1, g2, rfl⟩
        have hA := HA2.out x is g1 g2
        clear g1 g2 HTo2 HA2
        cases is
        · clear hA
          go_wp2_with fail
          refine (HBg.out k2).mono ?_
          rintro e9 w5 ⟨rfl, hs5, hf5⟩
          obtain ⟨hr5, hb5⟩ := HRw.out w5 k2 hf5
          have HF5 := hidLL (And.intro hs5 hf5)
          have hml := HMl.out.2.2
          clear hs5 hf5
          go_wp2_with (at_builtin; go_loud (refine wpList_push_g infoBr (by decide) Tryz.underlying163 rfl (.tmp 90) (.tmp 94) rfl w.heap.size (.slice (some ⟨g, 0, none⟩) (m0 + 1) cap) _ ⟨kg, kq, ka2, kc2, k.kids, 1 + k.lines.length, k⟩ _ rfl (by simp [Act.eval]) hr5 (by simp [Act.eval]) hb5 hml ?_))
          intro v' w6 hr6 hb6 _ _
          obtain ⟨E', h91, h92, h93⟩ := HMo.out w5 w6 v' k2 HF5.out.1 HF5.out.2 (by rw [List.append_assoc]; exact hr6) hb6
          go_wp2_with fail
          go_roundg (mAll E')
          all_goals first | (have := HMl.out; omega) | exact ⟨E', h91, Nat.le_refl _, by have := HMl.out; omega, h93⟩
        · obtain ⟨x0, x1, x2⟩ := hA rfl
          have HX := hidLL x2
          clear hA x2
          go_wp2_with fail
          refine (HAd.out x k2 ⟨x0, x1⟩).mono ?_
          rintro e9 w4 ⟨rfl, ha⟩
          obtain ⟨E', h91, h92, h93⟩ := HE.out x w4 k2 ⟨x0, x1⟩ HX.out ha
          go_wp2_with fail
          go_roundg (mAll E')
          all_goals first | (have := HMl.out; omega) | exact ⟨E', h91, Nat.le_refl _, by have := HMl.out; omega, h93⟩
end Go.Proofs.YtpbolcjcmkmalaaGreatDoor
