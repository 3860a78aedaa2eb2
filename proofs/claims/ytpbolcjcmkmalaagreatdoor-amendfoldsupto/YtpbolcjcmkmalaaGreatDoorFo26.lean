/-
  Package tree: begin, add: a branch that is being weighed.
-/
import Derived.Test.YtpbolcjcmkmalaaGreatDoorFo25
import Derived.Test.YtpbolcjcmkmalaaGreatDoorFo17
namespace Go.Proofs.YtpbolcjcmkmalaaGreatDoor
open Go.RowKit Go.Extern.Stop Go.Stop Go.Extern

theorem drew_heap {W : World} {k : Nat} {o : Option Obj} (h : W.heap[k]? = o) : W.drew.heap[k]? = o := h
theorem three {W : World} {g : Nat} {x y z : Value} {T : TypeId} (h : W.heap[g]? = some (.cells #[x, y, z] T (0, 0))) : W.cell? ⟨g, 0, none⟩ = some x ∧ W.cell? ⟨g, 1, none⟩ = some y ∧ W.cell? ⟨g, 2, none⟩ = some z ∧ ∀ i, W.frozen? ⟨g, i, none⟩ = false := by
  simp [World.cell?, World.frozen?, h]
theorem set3b {W : World} {b T : Nat} {x y z u v r : Value} (h : W.heap[b]? = some (.cells #[x, y, z] T (0, 0))) : (((W.setCell ⟨b, 0, none⟩ u).setCell ⟨b, 1, none⟩ v).setCell ⟨b, 2, none⟩ r).heap[b]? = some (.cells #[u, v, r] T (0, 0)) := by
  rw [heap_setCell_same _ _ _ _ _ _ (heap_setCell_same _ _ _ _ _ _ (heap_setCell_same _ _ _ _ _ _ h))]
  rfl
set_option maxHeartbeats 4000000 in
set_option maxRecDepth 20000 in
theorem begin_a {w : World} {sb mb b o m n kc : Nat} {ka : Option Addr} {ex : Prop} {F F' : Addr → Int → Prop} (h : SC w sb mb ex F) (hn : NdW w b o m n ka kc) (hp : ex → PlnF w ⟨b, o, none⟩) (hbm : b ≠ mb) (f1 : ∀ c y, F c y → (ex → c ≠ ⟨b, o, none⟩) → F' c y) (f2 : F' ⟨b, o, none⟩ 67108865) (f3 : ∀ c y, F c y → (ex → c = ⟨b, o, none⟩) → F' c 67108865) :
    Calls Tryz.prog 104 #[.pointer (some ⟨sb, 0, none⟩), .pointer (some ⟨b, o, none⟩)] w fun e w' => e = .returned (.agg #[.pointer (some ⟨b, o, none⟩), .slice ka n kc, .int .i64 (1 + m)]) ∧ SC w' sb mb ex F' ∧ MpF w w' mb := by
  have hsm := h.ne
  have hm := hn.hm
  obtain ⟨WB, hWB⟩ : ∃ WB, WB = w.alloc (.cells #[.pointer none, .slice none 0 0, .int .i64 0] 161) := ⟨_, rfl⟩
  have hb0 : Below w.heap.size w WB := by rw [hWB]; exact (Below.refl _ _).alloc (Nat.le_refl _) _
  have hS1 : SC WB.drew sb mb ex F := (h.below hb0).drewN 1
  have hN1 : NdW WB.drew b o m n ka kc := hn.on (hb0.block b hn.lt)
  obtain ⟨w2, hrun, hm2, hg⟩ := hS1.mp.store hN1.uf (fun hx => (hp hx).below hb0.drew) (x := 67108865) f1 f2 f3
  have hsl := h.lt
  have hnl := hn.lt
  have hsz : w.heap.size < WB.heap.size := by rw [hWB]; simp
  have hgb : ∀ k, k < WB.heap.size → k ≠ mb → w2.heap[k]? = WB.heap[k]? := fun k hk hne => hg.block k hk (fun e => hne (by injection e))
  have hS2 : SC w2 sb mb ex F' := hS1.on (hgb sb (by omega) hsm) hm2
  have hN2 : NdW w2 b o m n ka kc := hN1.on (hgb b (by omega) hbm)
  obtain ⟨c0, c1, c2, c3, c4, c5⟩ := six hS2.bk
  obtain ⟨e0, e1, e2, e3, e4, e5⟩ := six hS1.bk
  obtain ⟨la', lc', d2⟩ := hN2.c2
  have d3 := hN2.c3
  have HT := hidLL (fun (W : World) (hc : W.cell? ⟨sb, 3, none⟩ = some (.int .i64 67108864)) => tooMuch_a hc)
  have HK := hidLL (fun (W : World) => kids_a b o W)
  have HWt := hidLL (fun (W : World) (hc : W.cell? ⟨b, o + 2, none⟩ = some (.slice la' m lc')) => weight_a hc hm)
  have HS2 := hidLL hS2
  have HX := hidLL hWB
  have hmin : min (1 + (m : Int)) 67108865 = 1 + (m : Int) := by omega
  have HGs := hidLL (And.intro hsz (And.intro hg (And.intro hb0 (And.intro hsl hnl))))
  have hse : w.heap.size ≠ sb := by omega
  have hne : w.heap.size ≠ b := by omega
  have hmb : w.heap.size ≠ mb := fun e => by
    obtain ⟨es, cl, hb, _⟩ := h.mp
    have := (Array.getElem?_eq_some_iff.1 hb).1
    omega
  have hz : w2.heap[w.heap.size]? = some (.cells #[.pointer none, .slice none 0 0, .int .i64 0] 161 (0, 0)) := by rw [hgb _ hsz hmb, hWB]; exact heap_alloc_new _ _
  clear hS1 hN1 hS2 hN2 hWB h hn hgb hg hm2 hb0 hp f1 f2 f3 hm
  go_enter Tryz.func104, Tryz.ntmps104
  go_upto_region 1 with fail
  rw [← HX.out]
  go_cut [] (fun wx => wx = w2)
  case first =>
    go_region_held3 (fun V => V.cell? ⟨sb, 5, none⟩ = some (.map (some mb))) (first | exact e5 | go_keep) ((go_simp; go_at_call 132; refine (HT.out _ ?_).mono ?_; (· exact e3); rintro e w1 ⟨rfl, ew⟩; subst w1))
    all_goals go_wp2
    all_goals go_meet
    all_goals rfl
  case rest =>
    subst hcut
    clear e0 e1 e2 e3 e4 e5 hrun
    obtain ⟨z0, z1, z2, zf⟩ := three hz
    have HZ := hidLL hz
    clear hz
    go_wp2_with fail
    go_region_held3 (fun V => V.cell? ⟨sb, 0, none⟩ = some (.func (.func 62) #[] #[]) ∧ V.cell? ⟨sb, 2, none⟩ = some (.func (.func 65) #[] #[]) ∧ V.cell? ⟨b, o + 3, none⟩ = some (.slice ka n kc)) (first | exact ⟨c0, c2, d3⟩ | go_keep) (first | (go_simp; go_at_call 62; refine (HK.out _).mono ?_; rintro e w1 ⟨rfl, ew⟩; subst w1) | (go_simp; go_at_call 65; refine (HWt.out _ ?_).mono ?_; (· exact d2); rintro e w1 ⟨rfl, ew⟩; subst w1) | (go_simp; go_at_call 132; refine (HT.out _ ?_).mono ?_; (· exact c3); rintro e w1 ⟨rfl, ew⟩; subst w1))
    all_goals go_wp2
    all_goals refine bodyPost_ret (v := .agg #[.pointer (some ⟨b, o, none⟩), .slice ka n kc, .int .i64 (1 + m)]) (results_cell_row Tryz.results104 _ _ w.heap.size 161 #[.pointer (some ⟨b, o, none⟩), .slice ka n kc, .int .i64 (1 + m)] (0, 0) _ (by first | rfl | simp) (drew_heap (set3b HZ.out)) Tryz.underlying161 rfl rfl) rfl ?_
    all_goals refine ⟨rfl, ?_, ?_⟩
    · have h3 : ∀ k, k ≠ w.heap.size → ((((wc.setCell ⟨w.heap.size, 0, none⟩ (.pointer (some ⟨b, o, none⟩))).setCell ⟨w.heap.size, 1, none⟩ (.slice ka n kc)).setCell ⟨w.heap.size, 2, none⟩ (.int .i64 (1 + m))).drew).heap[k]? = wc.heap[k]? := fun k hk => by
        show (((wc.setCell _ _).setCell _ _).setCell _ _).heap[k]? = _
        rw [Below.heap_setCell _ _ _ _ hk, Below.heap_setCell _ _ _ _ hk, Below.heap_setCell _ _ _ _ hk]
      exact HS2.out.on (h3 sb (fun e => hse e.symm)) (HS2.out.mp.on (h3 mb (fun e => hmb e.symm)) (fun a ha => ((ha.set _).set _).set _) fun a ha => ((ha.set _ _ _).set _ _ _).set _ _ _)
    · have hg := HGs.out.2.1
      have hb := HGs.out.2.2.1
      refine ⟨hg.os.trans hb.os, hg.tape.trans hb.tape, hg.output.trans hb.output, Nat.le_trans hb.size (by have := hg.size; simpa using this), fun k hk hne => ?_⟩
      show (((wc.setCell _ _).setCell _ _).setCell _ _).heap[k]? = _
      rw [Below.heap_setCell _ _ _ _ (by simp; omega), Below.heap_setCell _ _ _ _ (by simp; omega), Below.heap_setCell _ _ _ _ (by simp; omega), hg.block k (Nat.lt_trans hk HGs.out.1) (fun e => hne (by injection e))]
      exact hb.block k hk
end Go.Proofs.YtpbolcjcmkmalaaGreatDoor
namespace Go.Proofs.YtpbolcjcmkmalaaGreatDoor
open Go.RowKit Go.Extern.Stop Go.Stop Go.Extern

/-- What add leaves: a sum, and maybe no kids to weigh. -/
def AddR (w : World) (ob q : Nat) (z : Int) (w' : World) : Prop := ((z ≠ 67108865 ∧ w'.heap = (w.setCell ⟨ob, q + 2, none⟩ (.int .i64 z)).heap) ∨ (z = 67108865 ∧ w'.heap = ((w.setCell ⟨ob, q + 2, none⟩ (.int .i64 z)).setCell ⟨ob, q + 1, none⟩ (.slice none 0 0)).heap)) ∧ w'.os = w.os ∧ w'.tape = w.tape ∧ w'.output = w.output
set_option maxHeartbeats 4000000 in
set_option maxRecDepth 20000 in
theorem add_a {w : World} {sb ob q : Nat} {x y : Int} {u : Value} (hs : w.cell? ⟨sb, 3, none⟩ = some (.int .i64 67108864)) (hne : ob ≠ sb) (d1 : w.cell? ⟨ob, q + 1, none⟩ = some u) (d2 : w.cell? ⟨ob, q + 2, none⟩ = some (.int .i64 x)) (hf : ∀ i, w.frozen? ⟨ob, i, none⟩ = false) (hx : 0 ≤ x ∧ x ≤ 67108865) (hy : 0 ≤ y ∧ y ≤ 67108865) :
    Calls Tryz.prog 105 #[.pointer (some ⟨sb, 0, none⟩), .pointer (some ⟨ob, q, none⟩), .int .i64 y] w fun e w' => e = .returned (.tuple #[]) ∧ AddR w ob q (min (x + y) 67108865) w' := by
  obtain ⟨z, hz⟩ : ∃ z : Int, z = min (x + y) 67108865 := ⟨_, rfl⟩
  have hw : IntKind.i64.wrap (x + y) = x + y := by rw [IntKind.wrap_i64]; omega
  obtain ⟨W, hW⟩ : ∃ W, W = w.setCell ⟨ob, q + 2, none⟩ (.int .i64 z) := ⟨_, rfl⟩
  have HT := hidLL (fun (W : World) (hc : W.cell? ⟨sb, 3, none⟩ = some (.int .i64 67108864)) => tooMuch_a hc)
  have HZ := hidLL hz
  clear hx hy
  go_enter Tryz.func105, Tryz.ntmps105
  go_upto_region 0 with fail
  go_cut [] (fun wx => ∃ k, wx = W.drewN k)
  case first =>
    go_region_with (go_at_call 132; refine (HT.out _ ?_).mono ?_; (· exact hs); rintro e w1 ⟨rfl, ew⟩; subst w1)
    all_goals go_wp2
    all_goals go_meet
    all_goals exact ⟨1, by rw [hW, hz]; rfl⟩
  case rest =>
    obtain ⟨k, hk⟩ := hcut
    have e3 : wc.cell? ⟨sb, 3, none⟩ = some (.int .i64 67108864) := by rw [hk, hW]; simp only [World.cell?_drewN]; rw [World.cell?_setCell_far _ _ _ _ hne]; exact hs
    have e2 : wc.cell? ⟨ob, q + 2, none⟩ = some (.int .i64 z) := by rw [hk, hW]; simp only [World.cell?_drewN]; rw [World.cell?_setCell_same _ _ _ (by rw [d2])]
    have e1 : wc.cell? ⟨ob, q + 1, none⟩ = some u := by rw [hk, hW]; simp only [World.cell?_drewN]; rw [World.cell?_setCell_other _ _ _ _ (by intro e; injection e; omega)]; exact d1
    have hf' : ∀ i, wc.frozen? ⟨ob, i, none⟩ = false := fun i => by rw [hk, hW]; simp only [World.frozen?_drewN]; rw [World.frozen?_setCell]; exact hf i
    have HWe := hidLL (And.intro hk hW)
    clear hk hW hs d1 d2 hf hw hz hne
    by_cases hz : z = 67108865
    · have HQ := hidLL hz
      rw [hz] at e2
      clear hz
      go_wp2_with fail
      go_quiet ((first | (go_at_call 132; refine Calls.quiet_of_same (HT.out _ ?_); exact e3)))
      go_wp2
      refine bodyPost_end (results_none rfl _ _ _) rfl ⟨rfl, .inr ⟨by rw [← HZ.out]; exact HQ.out, ?_⟩, ?_⟩
      · rw [HWe.out.1, HWe.out.2, ← HZ.out]; rfl
      · rw [HWe.out.1, HWe.out.2]; exact ⟨rfl, rfl, rfl⟩
    · have hzn := hz
      go_wp2_with fail
      go_quiet ((first | (go_at_call 132; refine Calls.quiet_of_same (HT.out _ ?_); exact e3)))
      go_wp2
      refine bodyPost_end (results_none rfl _ _ _) rfl ⟨rfl, .inl ⟨by rw [← HZ.out]; exact hzn, ?_⟩, ?_⟩
      · rw [HWe.out.1, HWe.out.2, ← HZ.out]; rfl
      · rw [HWe.out.1, HWe.out.2]; exact ⟨rfl, rfl, rfl⟩
end Go.Proofs.YtpbolcjcmkmalaaGreatDoor
namespace Go.Proofs.YtpbolcjcmkmalaaGreatDoor
open Go.RowKit Go.Extern.Stop Go.Stop Go.Extern

mutual
/-- What a tree weighs: its provisions and lines. -/
def wtI : It → Nat
  | .mk _ _ l k => 1 + l.length + wtK k
def wtK : List It → Nat
  | [] => 0
  | t :: r => wtI t + wtK r
end
theorem wtI_eq (t : It) : wtI t = 1 + t.lines.length + wtK t.kids := by cases t; rw [wtI]; rfl
theorem wtK_mem : ∀ (l : List It) (k : It), k ∈ l → wtI k ≤ wtK l
  | a :: r, k, h => by
    rw [wtK]
    rcases List.mem_cons.1 h with rfl | h
    · omega
    · have := wtK_mem r k h; omega
theorem wtK_len : ∀ l : List It, l.length ≤ wtK l
  | [] => by simp [wtK]
  | t :: r => by rw [wtK, List.length_cons]; have := wtK_len r; have := wtI_eq t; omega
theorem wtK_congr : ∀ (l m : List It), l.length = m.length → (∀ (i : Nat) (x y : It), l[i]? = some x → m[i]? = some y → wtI x = wtI y) → wtK l = wtK m
  | [], [], _, _ => rfl
  | a :: l, b :: m, hl, h => by
    rw [wtK, wtK, h 0 a b rfl rfl, wtK_congr l m (by simpa using hl) fun i x y hx hy => h (i + 1) x y (by simpa using hx) (by simpa using hy)]
/-- A tree at a place, in blocks below N, none of its nodes' places frozen. -/
inductive TreeF (w : World) (N : Nat) (ex : Prop) : Nat → Nat → It → Prop
  | mk (b o : Nat) (t : It) (la ka : Option Addr) (lc kc : Nat) (h2 : w.cell? ⟨b, o + 2, none⟩ = some (.slice la t.lines.length lc)) (h3 : w.cell? ⟨b, o + 3, none⟩ = some (.slice ka t.kids.length kc))
    (hl : t.lines.length ≤ 1000000) (hn : t.kids.length ≤ 100000) (hc : t.kids.length ≤ kc) (hu : UnF w ⟨b, o, none⟩) (hp : ex → PlnF w ⟨b, o, none⟩) (hN : b < N) (ha : t.kids ≠ [] → ∃ g q, ka = some ⟨g, q, none⟩)
    (hk : ∀ i k g q, t.kids[i]? = some k → ka = some ⟨g, q, none⟩ → TreeF w N ex g (q + i * 4) k) : TreeF w N ex b o t
/-- A row of such trees. -/
structure KidsF (w : World) (N : Nat) (ex : Prop) (ka : Option Addr) (ls : List It) : Prop where
  a : ls ≠ [] → ∃ g q, ka = some ⟨g, q, none⟩
  k : ∀ i k g q, ls[i]? = some k → ka = some ⟨g, q, none⟩ → TreeF w N ex g (q + i * 4) k
section
variable {w : World} {N : Nat} {ex : Prop}
theorem TreeF.parts {b o : Nat} {t : It} (h : TreeF w N ex b o t) : ∃ ka kc, NdW w b o t.lines.length t.kids.length ka kc ∧ t.kids.length ≤ kc ∧ t.kids.length ≤ 100000 ∧ b < N ∧ (ex → PlnF w ⟨b, o, none⟩) ∧ KidsF w N ex ka t.kids := by
  cases h with
  | mk b o t la ka lc kc h2 h3 hl hn hc hu hp hN ha hk => exact ⟨ka, kc, ⟨⟨la, lc, h2⟩, hl, h3, hu⟩, hc, hn, hN, hp, ha, hk⟩
theorem TreeF.on {w' : World} {b o : Nat} {t : It} (h : TreeF w N ex b o t) (hb : ∀ k, k < N → w'.heap[k]? = w.heap[k]?) : TreeF w' N ex b o t := by
  induction h with
  | mk b o t la ka lc kc h2 h3 hl hn hc hu hp hN ha hk ih =>
    exact .mk b o t la ka lc kc ((World.cell?_of_block (a := ⟨b, o + 2, none⟩) (hb b hN)).trans h2) ((World.cell?_of_block (a := ⟨b, o + 3, none⟩) (hb b hN)).trans h3) hl hn hc (hu.on (hb b hN)) (fun hx => (hp hx).on (hb b hN)) hN ha ih
theorem TreeF.mono {N' : Nat} {b o : Nat} {t : It} (h : TreeF w N ex b o t) (hb : N ≤ N') : TreeF w N' ex b o t := by
  induction h with
  | mk b o t la ka lc kc h2 h3 hl hn hc hu hp hN ha hk ih => exact .mk b o t la ka lc kc h2 h3 hl hn hc hu hp (by omega) ha ih
/-- What stands at a place weighs what it weighs. -/
theorem TreeF.det {b o : Nat} {t t' : It} (h : TreeF w N ex b o t) (h' : TreeF w N ex b o t') : wtI t = wtI t' := by
  induction h generalizing t' with
  | mk b o t la ka lc kc h2 h3 hl hn hc hu hp hN ha hk ih =>
    cases h' with
    | mk _ _ _ la' ka' lc' kc' h2' h3' hl' hn' hc' hu' hp' hN' ha' hk' =>
      rw [h2] at h2'
      rw [h3] at h3'
      injection h2' with h2'
      injection h2' with _ e1 _
      injection h3' with h3'
      injection h3' with e0 e2 _
      subst e0
      rw [wtI_eq, wtI_eq, e1, wtK_congr t.kids t'.kids e2 fun i x y hx hy => ?_]
      obtain ⟨g, q, hg⟩ := ha (fun e => by rw [e] at hx; cases hx)
      exact ih i x g q hx hg (hk' i y g q hy hg)
theorem KidsF.tail {g q kc : Nat} {k : It} {r : List It} (h : KidsF w N ex (some ⟨g, q, none⟩) (k :: r)) (hc : r.length + 1 ≤ kc) : KidsF w N ex (if kc = 1 then some ⟨g, q, none⟩ else some ⟨g, q + 4, none⟩) r := by
  by_cases h1 : kc = 1
  · have : r = [] := List.eq_nil_of_length_eq_zero (by omega)
    subst this
    exact ⟨fun e => absurd rfl e, fun i k g q hi => by cases hi⟩
  · rw [if_neg h1]
    refine ⟨fun _ => ⟨g, q + 4, rfl⟩, fun i k' g' q' hi e => ?_⟩
    injection e with e
    injection e with e1 e2 _
    subst e1 e2
    have := h.k (i + 1) k' g q (by simpa using hi) rfl
    rwa [show q + 4 + i * 4 = q + (i + 1) * 4 by omega]
theorem KidsF.head {g q : Nat} {k : It} {r : List It} (h : KidsF w N ex (some ⟨g, q, none⟩) (k :: r)) : TreeF w N ex g q k := by
  have := h.k 0 k g q rfl rfl
  rwa [Nat.zero_mul, Nat.add_zero] at this
/-- An open branch, as it may be. -/
structure EntOk (w : World) (N : Nat) (ex : Prop) (e : Ent) : Prop where
  tr : TreeF w N ex e.nb e.no e.t
  ks : KidsF w N ex e.la e.ls
  cap : e.ls.length ≤ e.lc
  len : e.ls.length ≤ 100000
  x0 : 0 ≤ e.x
  x1 : e.x ≤ 67108865
  lt : ∀ k, k ∈ e.ls → wtI k < wtI e.t
theorem EntOk.of {b o kc : Nat} {t : It} {ka : Option Addr} {x : Int} (ht : TreeF w N ex b o t) (hc : t.kids.length ≤ kc) (hl : t.kids.length ≤ 100000) (hk : KidsF w N ex ka t.kids) (h0 : 0 ≤ x) (h1 : x ≤ 67108865) : EntOk w N ex ⟨b, o, ka, kc, t.kids, x, t⟩ :=
  ⟨ht, hk, hc, hl, h0, h1, fun k hk => by have h1 := wtK_mem t.kids k hk; have h2 := wtI_eq t; show wtI k < wtI t; omega⟩
end
/-- How far it is to the end. -/
def mEnt (e : Ent) : Nat := 1 + 2 * wtK e.ls
def mAll : List Ent → Nat
  | [] => 0
  | e :: r => mEnt e + mAll r
theorem mAll_app : ∀ (a b : List Ent), mAll (a ++ b) = mAll a + mAll b
  | [], b => by rw [List.nil_append]; show _ = 0 + _; omega
  | e :: r, b => by rw [List.cons_append]; show mEnt e + mAll (r ++ b) = mEnt e + mAll r + mAll b; rw [mAll_app r b]; omega
theorem mAll_snoc (a : List Ent) (e : Ent) : mAll (a ++ [e]) = mAll a + (1 + 2 * wtK e.ls) := by rw [mAll_app]; show _ + (mEnt e + 0) = _; rfl
theorem mAll_len : ∀ l : List Ent, l.length ≤ mAll l
  | [] => Nat.le_refl _
  | e :: r => by show r.length + 1 ≤ mEnt e + mAll r; have := mAll_len r; unfold mEnt; omega
/-- What the branches come to, the last one ahead; s: what is on its way. -/
def chn (tot : Int) : Int → List Ent → Prop
  | s, [] => s = tot
  | s, e :: r => e.x + wtK e.ls + s = wtI e.t ∧ chn tot (wtI e.t) r
theorem chn_ge {tot : Int} : ∀ (l : List Ent) (s : Int), (∀ e, e ∈ l → 0 ≤ e.x) → chn tot s l → s ≤ tot
  | [], s, _, h => by have h : s = tot := h; omega
  | e :: r, s, ho, h => by
    have h1 := chn_ge r _ (fun e he => ho e (List.mem_cons_of_mem _ he)) h.2
    have := ho e List.mem_cons_self
    have := h.1
    omega
/-- What the map says. -/
def MF (w : World) (N : Nat) (ex : Prop) (E : List Ent) (c : Addr) (x : Int) : Prop := c.block < N ∧ 0 ≤ x ∧ x ≤ 67108865 ∧ (ex → ∃ b o t', c = ⟨b, o, none⟩ ∧ TreeF w N ex b o t' ∧ (x = wtI t' ∨ ∃ e, e ∈ E ∧ c = ⟨e.nb, e.no, none⟩))
abbrev brT : Nat := 161
theorem encE_k : encE.k = 3 := rfl
theorem encE_f (e : Ent) : encE.f e = [.pointer (some ⟨e.nb, e.no, none⟩), .slice e.la e.ls.length e.lc, .int .i64 e.x] := rfl
theorem encE_len (l : List Ent) : (encE.all l).length = l.length * 3 := encE.all_len l
theorem encE_snoc (l : List Ent) (e : Ent) : encE.all (l ++ [e]) = encE.all l ++ [.pointer (some ⟨e.nb, e.no, none⟩), .slice e.la e.ls.length e.lc, .int .i64 e.x] := by rw [encE.all_app, encE.all_cons, encE.all_nil, List.append_nil, encE_f]
/-- The last branch's cells. -/
theorem RowG.last {w : World} {B g n cap : Nat} {l : List Ent} {e : Ent} (h : RowG encE brT w B (.slice (some ⟨g, 0, none⟩) n cap) (l ++ [e])) : w.cell? ⟨g, l.length * 3, none⟩ = some (.pointer (some ⟨e.nb, e.no, none⟩)) ∧ w.cell? ⟨g, l.length * 3 + 1, none⟩ = some (.slice e.la e.ls.length e.lc) ∧ w.cell? ⟨g, l.length * 3 + 2, none⟩ = some (.int .i64 e.x) := by
  have hc := h.cells (g := g) rfl
  have hl := encE_len l
  rw [encE_snoc] at hc
  refine ⟨hc _ _ ?_, hc _ _ ?_, hc _ _ ?_⟩
  · rw [List.getElem?_append_right (by omega), hl, Nat.sub_self]; rfl
  · rw [List.getElem?_append_right (by omega), hl, show l.length * 3 + 1 - l.length * 3 = 1 by omega]; rfl
  · rw [List.getElem?_append_right (by omega), hl, show l.length * 3 + 2 - l.length * 3 = 2 by omega]; rfl
theorem RowG.form {w : World} {B : Nat} {v : Value} {l : List Ent} (h : RowG encE brT w B v l) (hl : l ≠ []) : ∃ g cap, v = .slice (some ⟨g, 0, none⟩) l.length cap ∧ B ≤ g ∧ g < w.heap.size ∧ ∃ cur, w.heap[g]? = some (.cells cur brT (0, 0)) := by
  rcases h.row.2 with ⟨_, e⟩ | ⟨g, cap, cur, e, hb, hg, _⟩
  · exact absurd (List.eq_nil_of_length_eq_zero e) hl
  · exact ⟨g, cap, e, hb, (Array.getElem?_eq_some_iff.1 hg).1, cur, hg⟩
/-- The last branch gets other kids to weigh. -/
theorem RowG.left {w : World} {B g n cap : Nat} {l : List Ent} {e : Ent} (h : RowG encE brT w B (.slice (some ⟨g, 0, none⟩) n cap) (l ++ [e])) (la : Option Addr) (lc : Nat) (ls : List It) : RowG encE brT (w.setCell ⟨g, l.length * 3 + 1, none⟩ (.slice la ls.length lc)) B (.slice (some ⟨g, 0, none⟩) n cap) (l ++ [{ e with la := la, lc := lc, ls := ls }]) := by
  have hn : n = (l ++ [e]).length := by
    rcases h.row.2 with ⟨e1, _⟩ | ⟨_, _, _, e1, _⟩
    · cases e1
    · injection e1
  subst hn
  have hs := World.ownsRow.stored h.row (l.length * 3 + 1) (.slice la ls.length lc)
  refine ⟨?_, by have := h.len; simpa using this⟩
  have e1 : (encE.all (l ++ [e])).set (l.length * 3 + 1) (.slice la ls.length lc) = encE.all (l ++ [{ e with la := la, lc := lc, ls := ls }]) := by
    rw [encE_snoc, encE_snoc, List.set_append_right _ _ (by rw [encE_len]; omega), encE_len, show l.length * 3 + 1 - l.length * 3 = 1 by omega]
    rfl
  rw [e1] at hs
  have e2 : (l ++ [{ e with la := la, lc := lc, ls := ls }]).length = (l ++ [e]).length := by simp
  rw [e2]
  exact hs.1
/-- The last branch's sum. -/
theorem RowG.sum {w : World} {B g n cap : Nat} {l : List Ent} {e : Ent} (h : RowG encE brT w B (.slice (some ⟨g, 0, none⟩) n cap) (l ++ [e])) (x : Int) : RowG encE brT (w.setCell ⟨g, l.length * 3 + 2, none⟩ (.int .i64 x)) B (.slice (some ⟨g, 0, none⟩) n cap) (l ++ [{ e with x := x }]) := by
  have hn : n = (l ++ [e]).length := by
    rcases h.row.2 with ⟨e1, _⟩ | ⟨_, _, _, e1, _⟩
    · cases e1
    · injection e1
  subst hn
  have hs := World.ownsRow.stored h.row (l.length * 3 + 2) (.int .i64 x)
  refine ⟨?_, by have := h.len; simpa using this⟩
  have e1 : (encE.all (l ++ [e])).set (l.length * 3 + 2) (.int .i64 x) = encE.all (l ++ [{ e with x := x }]) := by
    rw [encE_snoc, encE_snoc, List.set_append_right _ _ (by rw [encE_len]; omega), encE_len, show l.length * 3 + 2 - l.length * 3 = 2 by omega]
    rfl
  rw [e1] at hs
  have e2 : (l ++ [{ e with x := x }]).length = (l ++ [e]).length := by simp
  rw [e2]
  exact hs.1
theorem RowG.heap {w w' : World} {B : Nat} {v : Value} {l : List Ent} (h : RowG encE brT w B v l) (hh : w'.heap = w.heap) : RowG encE brT w' B v l := h.on fun g _ _ _ => by rw [hh]
/-- Without the last one. -/
theorem RowG.pop {w : World} {B g n cap : Nat} {l : List Ent} {e : Ent} (h : RowG encE brT w B (.slice (some ⟨g, 0, none⟩) n cap) (l ++ [e])) : RowG encE brT w B (.slice (some ⟨g, 0, none⟩) l.length cap) l := by
  have hn : n = l.length + 1 := by
    rcases h.row.2 with ⟨e1, _⟩ | ⟨_, _, _, e1, _⟩
    · cases e1
    · injection e1 with _ e1 _; simpa using e1
  have h1 := h.row
  have e1 : (l ++ [e]).length = n := by simpa using hn.symm
  rw [e1] at h1
  have h2 := row_take h1 l.length (by omega)
  refine ⟨?_, by have := h.len; rw [List.length_append] at this; omega⟩
  rw [encE_snoc, List.take_append_of_le_length (by rw [encE_len]; exact Nat.le_refl _), List.take_of_length_le (by rw [encE_len]; exact Nat.le_refl _)] at h2
  exact h2
theorem MpF.x {a b : World} {mb B : Nat} (h : MpF a b mb) (hB : B ≤ a.heap.size) : BelX B mb a b := ⟨h.os, h.tape, h.output, h.size, fun k hk hn => h.block k (by omega) hn⟩
/-- Weighing is under way: the open branches, in a row; the scale; what is elsewhere stays; s: a weight that is to be added to the last one. -/
structure WgI (w : World) (N sb mb : Nat) (ex : Prop) (tot s : Int) (v : Value) (E : List Ent) (wr : World) : Prop where
  row : RowG encE brT wr w.heap.size v E
  sc : SC wr sb mb ex (MF w N ex E)
  fr : BelX w.heap.size mb w wr
  ok : ∀ e, e ∈ E → EntOk w N ex e
  dec : E.Pairwise fun a b => wtI b.t < wtI a.t
  ch : ex → chn tot s E.reverse
section
variable {w wr : World} {N sb mb : Nat} {ex : Prop} {tot s : Int} {v : Value} {E0 : List Ent} {e : Ent}
theorem MF.less {E E' : List Ent} {c : Addr} {x : Int} (h : MF w N ex E c x) (hE : ∀ e, e ∈ E → e ∈ E') : MF w N ex E' c x :=
  ⟨h.1, h.2.1, h.2.2.1, fun hx => by
    obtain ⟨b, o, t', h1, h2, h3⟩ := h.2.2.2 hx
    exact ⟨b, o, t', h1, h2, h3.imp (fun h => h) fun ⟨e, he, h4⟩ => ⟨e, hE e he, h4⟩⟩⟩
/-- What is read of the last branch. -/
theorem WgI.top (h : WgI w N sb mb ex tot s v (E0 ++ [e]) wr) : ∃ g cap, v = .slice (some ⟨g, 0, none⟩) (E0.length + 1) cap ∧ w.heap.size ≤ g ∧ g ≠ sb ∧ g ≠ mb ∧ g < wr.heap.size ∧ (∀ i, wr.frozen? ⟨g, i, none⟩ = false) ∧ wr.cell? ⟨g, E0.length * 3, none⟩ = some (.pointer (some ⟨e.nb, e.no, none⟩)) ∧ wr.cell? ⟨g, E0.length * 3 + 1, none⟩ = some (.slice e.la e.ls.length e.lc) ∧ wr.cell? ⟨g, E0.length * 3 + 2, none⟩ = some (.int .i64 e.x) ∧ E0.length + 1 ≤ cap := by
  obtain ⟨g, cap, e1, h1, h2, cur, h3⟩ := h.row.form (by simp)
  have e1' : v = .slice (some ⟨g, 0, none⟩) (E0.length + 1) cap := by rw [e1]; simp
  subst e1'
  have hr := h.row
  obtain ⟨c0, c1, c2⟩ := hr.last
  refine ⟨g, cap, rfl, h1, fun e2 => ?_, fun e2 => ?_, h2, fun i => ?_, c0, c1, c2, ?_⟩
  · have := h.sc.bk
    rw [← e2, h3] at this
    injection this with this
    injection this with _ this _
    exact absurd this (by decide)
  · obtain ⟨es, cl, h4, _⟩ := h.sc.mp
    rw [← e2, h3] at h4
    cases h4
  · unfold World.frozen?
    rw [h3]
    simp
  · rcases hr.row.2 with ⟨e1, _⟩ | ⟨_, _, _, e1, _, _, h5, _⟩
    · cases e1
    · injection e1 with _ _ e1
      subst e1
      simpa using h5
theorem WgI.low (h : WgI w N sb mb ex tot s v E0 wr) (hN : N ≤ w.heap.size) (hmb : N ≤ mb) : ∀ k, k < N → wr.heap[k]? = w.heap[k]? := fun k hk => h.fr.block k (by omega) (by omega)
/-- The last branch is done: what it weighs is known. -/
theorem WgI.upd (h : WgI w N sb mb ex tot 0 v (E0 ++ [e]) wr) (hN : N ≤ w.heap.size) (hmb : N ≤ mb) (hls : e.ls = []) :
    ∃ w2, (Instr.mapUpdate 155 (.map (some mb)) (.pointer (some ⟨e.nb, e.no, none⟩)) (.int .i64 e.x)).run Tryz.prog wr.drew = .ok () w2 ∧ MpF wr w2 mb ∧ (ex → e.x = wtI e.t) ∧ ∀ g cap, v = .slice (some ⟨g, 0, none⟩) (E0.length + 1) cap → WgI w N sb mb ex tot e.x (.slice (some ⟨g, 0, none⟩) E0.length cap) E0 w2 := by
  have hok := h.ok e (by simp)
  have hx : ex → e.x = wtI e.t := fun hx => by
    have := h.ch hx
    rw [List.reverse_append] at this
    have := this.1
    rw [hls, wtK] at this
    omega
  have hlow := h.low hN hmb
  obtain ⟨ka, kc, hn, _, _, hb, hp, _⟩ := hok.tr.parts
  have hbk : wr.drew.heap[e.nb]? = w.heap[e.nb]? := hlow e.nb hb
  have huf : UnF wr.drew ⟨e.nb, e.no, none⟩ := hn.uf.on hbk
  have hmfe : ∀ c, c.block < N → (ex → c = ⟨e.nb, e.no, none⟩) → MF w N ex E0 c e.x := fun c hcl hc => ⟨hcl, hok.x0, hok.x1, fun hh => ⟨e.nb, e.no, e.t, hc hh, hok.tr, .inl (hx hh)⟩⟩
  obtain ⟨w2, hrun, hm2, hg⟩ := (h.sc.mp.drewN 1).store huf (fun hh => (hp hh).on hbk) (x := e.x) (F' := MF w N ex E0) (fun c y hF hne => ⟨hF.1, hF.2.1, hF.2.2.1, fun hh => by
    obtain ⟨b, o, t', h1, h2, h3⟩ := hF.2.2.2 hh
    refine ⟨b, o, t', h1, h2, h3.imp (fun h => h) fun ⟨e', he', h4⟩ => ?_⟩
    rcases List.mem_append.1 he' with he' | he'
    · exact ⟨e', he', h4⟩
    · obtain rfl : e' = e := by simpa using he'
      exact absurd h4 (hne hh)⟩) (hmfe _ hb fun _ => rfl) (fun c y hF hc => hmfe c hF.1 hc)
  have hgb : ∀ k, k < wr.heap.size → k ≠ mb → w2.heap[k]? = wr.heap[k]? := fun k hk hne => hg.block k hk (fun e => hne (by injection e))
  have hfr : MpF wr w2 mb := ⟨hg.os, hg.tape, hg.output, hg.size, hgb⟩
  refine ⟨w2, hrun, hfr, hx, fun g cap hv => ?_⟩
  obtain ⟨g', cap', hv', hg1, hg2, hg3, hg4, _⟩ := h.top
  rw [hv] at hv'
  injection hv' with hv' _ hc
  injection hv' with hv'
  injection hv' with hv' _ _
  subst hv' hc
  have hr := h.row
  rw [hv] at hr
  refine ⟨hr.pop.on fun q hq _ _ => ?_, h.sc.on (hgb sb h.sc.lt h.sc.ne) hm2, h.fr.trans (hfr.x h.fr.size), fun e' he' => h.ok e' (by simp [he']), (List.pairwise_append.1 h.dec).1, fun hh => ?_⟩
  · obtain rfl : g = q := Option.some.inj hq
    exact hgb g hg4 hg3
  · have := h.ch hh
    rw [List.reverse_append] at this
    rw [hx hh]
    exact this.2
/-- A weight is added to the last branch. -/
theorem WgI.addR {w3 : World} {g cap : Nat} {y : Int} (h : WgI w N sb mb ex tot s (.slice (some ⟨g, 0, none⟩) (E0.length + 1) cap) (E0 ++ [e]) wr) (htot : ex → tot ≤ 67108864) (hgw : w.heap.size ≤ g) (hgs : g ≠ sb) (hgm : g ≠ mb) (hy : 0 ≤ y ∧ y ≤ 67108865) (hs : ex → y = s) (ha : AddR wr g (E0.length * 3) (min (e.x + y) 67108865) w3) :
    ∃ e', WgI w N sb mb ex tot 0 (.slice (some ⟨g, 0, none⟩) (E0.length + 1) cap) (E0 ++ [e']) w3 ∧ mAll (E0 ++ [e']) ≤ mAll (E0 ++ [e]) := by
  have hok := h.ok e (by simp)
  have hx0 := hok.x0
  have hx1 := hok.x1
  have hdec : ∀ e' : Ent, e'.t = e.t → (E0 ++ [e']).Pairwise fun a b => wtI b.t < wtI a.t := fun e' he' => by
    have := List.pairwise_append.1 h.dec
    refine List.pairwise_append.2 ⟨this.1, by simp, fun a ha b hb => ?_⟩
    obtain rfl : b = e' := by simpa using hb
    rw [he']
    exact this.2.2 a ha e (by simp)
  have hmf : ∀ e' : Ent, e'.nb = e.nb → e'.no = e.no → ∀ c x, MF w N ex (E0 ++ [e]) c x → MF w N ex (E0 ++ [e']) c x := fun e' h1 h2 c x hF => ⟨hF.1, hF.2.1, hF.2.2.1, fun hh => by
    obtain ⟨b, o, t', h3, h4, h5⟩ := hF.2.2.2 hh
    refine ⟨b, o, t', h3, h4, h5.imp (fun h => h) fun ⟨a, ha, h6⟩ => ?_⟩
    rcases List.mem_append.1 ha with ha | ha
    · exact ⟨a, by simp [ha], h6⟩
    · obtain rfl : a = e := by simpa using ha
      exact ⟨e', by simp, by rw [h6, h1, h2]⟩⟩
  have hok' : ∀ e' : Ent, EntOk w N ex e' → ∀ a, a ∈ E0 ++ [e'] → EntOk w N ex a := fun e' he' a ha => by
    rcases List.mem_append.1 ha with ha | ha
    · exact h.ok a (by simp [ha])
    · obtain rfl : a = e' := by simpa using ha
      exact he'
  obtain ⟨ha, hos, htp, hou⟩ := ha
  have key : ∀ W : World, W.heap = w3.heap → (∀ k, k ≠ g → W.heap[k]? = wr.heap[k]?) → (∀ a, UnF wr a → UnF W a) → (∀ a, PlnF wr a → PlnF W a) → W.heap.size = wr.heap.size → ∀ e' : Ent, e'.nb = e.nb → e'.no = e.no → SC w3 sb mb ex (MF w N ex (E0 ++ [e'])) ∧ BelX w.heap.size mb w w3 := fun W hW hk hu hp hz e' h1 h2 => by
    have hu3 : ∀ a, UnF wr a → UnF w3 a := fun a h => ⟨by have := (hu a h).1; unfold World.cell? at this ⊢; rwa [hW] at this, by have := (hu a h).2; unfold World.frozen? at this ⊢; rwa [hW] at this⟩
    have hp3 : ∀ a, PlnF wr a → PlnF w3 a := fun a h => by have := hp a h; unfold PlnF at this ⊢; rwa [hW] at this
    refine ⟨h.sc.on (by rw [← hW]; exact hk sb hgs.symm) ((h.sc.mp.imp (hmf e' h1 h2)).on (by rw [← hW]; exact hk mb hgm.symm) hu3 hp3), ⟨hos.trans h.fr.os, htp.trans h.fr.tape, hou.trans h.fr.output, by rw [← hW, hz]; exact h.fr.size, fun k hk' hne => ?_⟩⟩
    rw [← hW, hk k (by omega)]
    exact h.fr.block k hk' hne
  have hch : ex → e.x + wtK e.ls + s = wtI e.t ∧ chn tot (wtI e.t) E0.reverse := fun hh => by
    have := h.ch hh
    rwa [List.reverse_append] at this
  have hle : ex → (wtI e.t : Int) ≤ tot := fun hh => chn_ge _ _ (fun a ha => (h.ok a (by simp at ha; simp [ha])).x0) (hch hh).2
  rcases ha with ⟨hz, hh⟩ | ⟨hz, hh⟩
  · obtain ⟨k1, k2⟩ := key _ hh.symm (fun k hk => Below.heap_setCell _ _ _ _ hk) (fun a ha => ha.set _) (fun a ha => ha.set _ _ _) (by simp) { e with x := min (e.x + y) 67108865 } rfl rfl
    refine ⟨{ e with x := min (e.x + y) 67108865 }, ⟨(h.row.sum _).heap hh, k1, k2, hok' _ ⟨hok.tr, hok.ks, hok.cap, hok.len, by show 0 ≤ min _ _; omega, by show min _ _ ≤ _; omega, hok.lt⟩, hdec _ rfl, fun hx => ?_⟩, by rw [mAll_snoc, mAll_snoc]; exact Nat.le_refl _⟩
    rw [List.reverse_append]
    refine ⟨?_, (hch hx).2⟩
    show min (e.x + y) 67108865 + wtK e.ls + 0 = wtI e.t
    have := (hch hx).1
    have := hs hx
    omega
  · obtain ⟨k1, k2⟩ := key _ hh.symm (fun k hk => by rw [Below.heap_setCell _ _ _ _ hk, Below.heap_setCell _ _ _ _ hk]) (fun a ha => (ha.set _).set _) (fun a ha => (ha.set _ _ _).set _ _ _) (by simp) { e with x := min (e.x + y) 67108865, la := none, lc := 0, ls := [] } rfl rfl
    refine ⟨{ e with x := min (e.x + y) 67108865, la := none, lc := 0, ls := [] }, ⟨((h.row.sum (min (e.x + y) 67108865)).left none 0 []).heap hh, k1, k2, hok' _ ⟨hok.tr, ⟨fun e => absurd rfl e, fun i k g q hi => by cases hi⟩, Nat.le_refl _, Nat.zero_le _, by show 0 ≤ min _ _; omega, by show min _ _ ≤ _; omega, fun k hk => by cases hk⟩, hdec _ rfl, fun hx => ?_⟩, by rw [mAll_snoc, mAll_snoc]; show _ + (1 + 2 * wtK []) ≤ _; rw [wtK]; omega⟩
    exfalso
    have := (hch hx).1
    have := hs hx
    have := hle hx
    have := htot hx
    omega
theorem MpP.onF {W W' : World} {F : Addr → Int → Prop} (h : MpP W mb ex F) (hb : W'.heap[mb]? = W.heap[mb]?) (hF : ∀ a x, F a x → W'.heap[a.block]? = W.heap[a.block]?) : MpP W' mb ex F := by
  obtain ⟨es, cl, h1, h2, h3⟩ := h
  exact ⟨es, cl, hb.trans h1, fun e he => (by obtain ⟨a, x, h3, h4, h5, h6, h7⟩ := h2 e he; exact ⟨a, x, h3, h4, h5.on (hF a x h7), fun hx => (h6 hx).on (hF a x h7), h7⟩), h3⟩
/-- The first kid of the last branch is taken. -/
theorem WgI.take {g cap : Nat} {k : It} {r : List It} {la : Option Addr} (h : WgI w N sb mb ex tot 0 (.slice (some ⟨g, 0, none⟩) (E0.length + 1) cap) (E0 ++ [e]) wr) (hN : N ≤ w.heap.size) (hgw : w.heap.size ≤ g) (hgs : g ≠ sb) (hgm : g ≠ mb) (hls : e.ls = k :: r) (hk : KidsF w N ex la r) : WgI w N sb mb ex tot (wtI k) (.slice (some ⟨g, 0, none⟩) (E0.length + 1) cap) (E0 ++ [{ e with la := la, lc := e.lc - 1, ls := r }]) (wr.setCell ⟨g, E0.length * 3 + 1, none⟩ (.slice la r.length (e.lc - 1))) := by
  have hok := h.ok e (by simp)
  have hcap := hok.cap
  have hlen := hok.len
  rw [hls, List.length_cons] at hcap hlen
  have hb : ∀ q, q ≠ g → (wr.setCell ⟨g, E0.length * 3 + 1, none⟩ (.slice la r.length (e.lc - 1))).heap[q]? = wr.heap[q]? := fun q hq => Below.heap_setCell _ _ _ _ hq
  refine ⟨h.row.left la (e.lc - 1) r, h.sc.on (hb sb hgs.symm) ((h.sc.mp.imp fun c x hF => ?_).onF (hb mb hgm.symm) fun a x hF => hb _ (by have := hF.1; omega)), ⟨h.fr.os, h.fr.tape, h.fr.output, by simpa using h.fr.size, fun q hq hne => (hb q (by omega)).trans (h.fr.block q hq hne)⟩, fun a ha => ?_, ?_, fun hx => ?_⟩
  · refine ⟨hF.1, hF.2.1, hF.2.2.1, fun hh => ?_⟩
    obtain ⟨b, o, t', h3, h4, h5⟩ := hF.2.2.2 hh
    refine ⟨b, o, t', h3, h4, h5.imp (fun h => h) fun ⟨a, ha, h6⟩ => ?_⟩
    rcases List.mem_append.1 ha with ha | ha
    · exact ⟨a, by simp [ha], h6⟩
    · obtain rfl : a = e := by simpa using ha
      exact ⟨{ a with la := la, lc := a.lc - 1, ls := r }, by simp, h6⟩
  · rcases List.mem_append.1 ha with ha | ha
    · exact h.ok a (by simp [ha])
    · obtain rfl : a = _ := by simpa using ha
      exact ⟨hok.tr, hk, by show r.length ≤ e.lc - 1; omega, by show r.length ≤ 100000; omega, hok.x0, hok.x1, fun q hq => hok.lt q (by rw [hls]; exact List.mem_cons_of_mem _ hq)⟩
  · have := List.pairwise_append.1 h.dec
    refine List.pairwise_append.2 ⟨this.1, by simp, fun a ha b hb => ?_⟩
    obtain rfl : b = _ := by simpa using hb
    exact this.2.2 a ha e (by simp)
  · have := h.ch hx
    rw [List.reverse_append] at this ⊢
    refine ⟨?_, this.2⟩
    have h1 := this.1
    rw [hls, wtK] at h1
    show e.x + wtK r + wtI k = wtI e.t
    omega
/-- All that is open weighs more than what is to come. -/
theorem WgI.kid_lt {k : It} {r : List It} (h : WgI w N sb mb ex tot s v (E0 ++ [e]) wr) (hls : e.ls = k :: r) : ∀ a, a ∈ E0 ++ [e] → wtI k < wtI a.t := by
  intro a ha
  have h1 := (h.ok e (by simp)).lt k (by rw [hls]; simp)
  rcases List.mem_append.1 ha with ha | ha
  · have := (List.pairwise_append.1 h.dec).2.2 a ha e (by simp)
    omega
  · obtain rfl : a = e := by simpa using ha
    exact h1
/-- What the map answers of it. -/
theorem MF.told {E : List Ent} {b o : Nat} {k : It} {c : Addr} {x : Int} (h : MF w N ex E c x) (hc : ex → c = ⟨b, o, none⟩) (hk : TreeF w N ex b o k) (hlt : ∀ a, a ∈ E → wtI k < wtI a.t) (ho : ∀ a, a ∈ E → EntOk w N ex a) : 0 ≤ x ∧ x ≤ 67108865 ∧ (ex → x = wtI k) := by
  refine ⟨h.2.1, h.2.2.1, fun hx => ?_⟩
  obtain ⟨b', o', t', h1, h2, h3⟩ := h.2.2.2 hx
  rw [hc hx] at h1 h3
  injection h1 with h1 h1' _
  subst h1 h1'
  rcases h3 with h3 | ⟨e, he, h4⟩
  · rw [h3, h2.det hk]
  · injection h4 with h4 h5 _
    subst h4 h5
    have h6 := (ho e he).tr.det hk
    have := hlt e he
    omega
/-- The map, as another branch is opened. -/
theorem MF.open {E : List Ent} {b o kc : Nat} {ka : Option Addr} {k : It} {x : Int} (hk : TreeF w N ex b o k) (hb : b < N) :
    (∀ c y, MF w N ex E c y → (ex → c ≠ ⟨b, o, none⟩) → MF w N ex (E ++ [⟨b, o, ka, kc, k.kids, x, k⟩]) c y) ∧ MF w N ex (E ++ [⟨b, o, ka, kc, k.kids, x, k⟩]) ⟨b, o, none⟩ 67108865 ∧ ∀ c y, MF w N ex E c y → (ex → c = ⟨b, o, none⟩) → MF w N ex (E ++ [⟨b, o, ka, kc, k.kids, x, k⟩]) c 67108865 := by
  have h0 : ∀ c, c.block < N → (ex → c = ⟨b, o, none⟩) → MF w N ex (E ++ [⟨b, o, ka, kc, k.kids, x, k⟩]) c 67108865 := fun c hcl hc => ⟨hcl, by omega, by omega, fun hx => ⟨b, o, k, hc hx, hk, .inr ⟨⟨b, o, ka, kc, k.kids, x, k⟩, by simp, hc hx⟩⟩⟩
  exact ⟨fun c y h _ => h.less fun e he => by simp [he], h0 _ hb fun _ => rfl, fun c y h hc => h0 c h.1 hc⟩
/-- One more branch is open. -/
theorem WgI.more {E : List Ent} {b o kc m : Nat} {ka : Option Addr} {k : It} {v' : Value} {w2 w3 : World} (h : WgI w N sb mb ex tot (wtI k) v E wr) (hN : N ≤ w.heap.size) (hsb : sb < w.heap.size) (hmb : mb < w.heap.size) (hk : TreeF w N ex b o k) (hc : k.kids.length ≤ kc) (hl : k.kids.length ≤ 100000) (hkk : KidsF w N ex ka k.kids) (hm : m = k.lines.length) (hm2 : m ≤ 1000000) (hlt : ∀ a, a ∈ E → wtI k < wtI a.t)
    (hs2 : SC w2 sb mb ex (MF w N ex (E ++ [⟨b, o, ka, kc, k.kids, 1 + m, k⟩]))) (hf2 : MpF wr w2 mb) (hr : RowG encE brT w3 w.heap.size v' (E ++ [⟨b, o, ka, kc, k.kids, 1 + m, k⟩])) (hb : Below w.heap.size w2 w3) :
    WgI w N sb mb ex tot 0 v' (E ++ [⟨b, o, ka, kc, k.kids, 1 + m, k⟩]) w3 := by
  refine ⟨hr, hs2.on (hb.block sb hsb) (hs2.mp.onF (hb.block mb hmb) fun a x hF => hb.block _ (by have := hF.1; omega)), (h.fr.trans (hf2.x h.fr.size)).trans ⟨hb.os, hb.tape, hb.output, hb.size, fun q hq _ => hb.block q hq⟩, fun a ha => ?_, ?_, fun hx => ?_⟩
  · rcases List.mem_append.1 ha with ha | ha
    · exact h.ok a ha
    · obtain rfl : a = _ := by simpa using ha
      exact .of hk hc hl hkk (by omega) (by omega)
  · refine List.pairwise_append.2 ⟨h.dec, by simp, fun a ha c hc => ?_⟩
    obtain rfl : c = _ := by simpa using hc
    exact hlt a ha
  · rw [List.reverse_append]
    refine ⟨?_, h.ch hx⟩
    show (1 : Int) + m + wtK k.kids + 0 = wtI k
    have := wtI_eq k
    omega
end
end Go.Proofs.YtpbolcjcmkmalaaGreatDoor
