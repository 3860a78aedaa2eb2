/-
  The new kids of a provision, one by one: memory. No walk.
-/
import Derived.Test.YtpbolcjcmkmalaaGreatDoorFo27
import Derived.Test.YtpbolcjcmkmalaaGreatDoorFo24
namespace Go.Proofs.YtpbolcjcmkmalaaGreatDoor
open Go.RowKit Go.Extern.Stop Go.Stop Go.Extern

abbrev itT : Nat := 25
abbrev stT : Nat := 9
theorem row_base {w : World} {B B' e s : Nat} {v : Value} {n : Nat} {xs : List Value} (h : w.ownsRow B e s v n xs) (hB : B' ≤ B) : w.ownsRow B' e s v n xs := by
  refine ⟨h.1, ?_⟩
  rcases h.2 with h | ⟨g, cap, cur, e1, hb, r⟩
  · exact .inl h
  · exact .inr ⟨g, cap, cur, e1, by omega, r⟩
/-- The places of those kids, up to one, that have kids. -/
noncomputable def opens (g : Nat) (ks : List It) : Nat → List (Nat × Nat × It)
  | 0 => []
  | i + 1 => opens g ks i ++ (match ks[i]? with | none => [] | some k => if k.kids.isEmpty then [] else [(g, i * 4, k)])
theorem opens_some {g : Nat} {ks : List It} {i : Nat} {k : It} (h : ks[i]? = some k) (hk : k.kids ≠ []) : opens g ks (i + 1) = opens g ks i ++ [(g, i * 4, k)] := by
  rw [opens, h]
  show _ ++ (if k.kids.isEmpty then [] else [(g, i * 4, k)]) = _
  rw [if_neg (by rw [List.isEmpty_iff]; exact hk)]
theorem opens_none {g : Nat} {ks : List It} {i : Nat} {k : It} (h : ks[i]? = some k) (hk : k.kids = []) : opens g ks (i + 1) = opens g ks i := by
  rw [opens, h]
  show _ ++ (if k.kids.isEmpty then [] else [(g, i * 4, k)]) = _
  rw [if_pos (by rw [List.isEmpty_iff]; exact hk), List.append_nil]
theorem opens_mem {g : Nat} {ks : List It} : ∀ (i : Nat) (p : Nat × Nat × It), p ∈ opens g ks i ↔ ∃ j, j < i ∧ ks[j]? = some p.2.2 ∧ p.2.2.kids ≠ [] ∧ p.1 = g ∧ p.2.1 = j * 4
  | 0, p => by rw [opens]; exact ⟨(fun h => by cases h), (fun ⟨j, h, _⟩ => by omega)⟩
  | i + 1, p => by
    rw [opens, List.mem_append, opens_mem i p]
    constructor
    · rintro (⟨j, h1, h2⟩ | h)
      · exact ⟨j, by omega, h2⟩
      · cases hk : ks[i]? with
        | none => rw [hk] at h; cases h
        | some k =>
          rw [hk] at h
          have h : p ∈ (if k.kids.isEmpty then [] else [(g, i * 4, k)]) := h
          split at h
          · cases h
          · rename_i h3
            obtain rfl : p = (g, i * 4, k) := by simpa using h
            exact ⟨i, by omega, hk, fun e => h3 (by rw [List.isEmpty_iff]; exact e), rfl, rfl⟩
    · rintro ⟨j, h1, h2, h3, h4, h5⟩
      by_cases hj : j < i
      · exact .inl ⟨j, hj, h2, h3, h4, h5⟩
      · obtain rfl : j = i := by omega
        refine .inr ?_
        rw [h2]
        show p ∈ (if p.2.2.kids.isEmpty then [] else [(g, j * 4, p.2.2)])
        rw [if_neg (by rw [List.isEmpty_iff]; exact h3)]
        obtain ⟨p1, p2, p3⟩ := p
        have h4 : p1 = g := h4
        have h5 : p2 = j * 4 := h5
        subst h4 h5
        simp
def pl (p : Nat × Nat × It) : Nat × Nat := (p.1, p.2.1)
/-- A new kid that has been seen to. -/
structure KidD (w : World) (n g j : Nat) (k : It) (u3 : Value) (T : Nat → Prop) (x : Nat → Value) : Prop where
  at' : NodeAt w g (j * 4) x
  h0 : x 0 = .string k.label
  h1 : x 1 = .string k.head
  ln : w.ownsRow n stT 1 (x 2) k.lines.length (k.lines.map Value.string)
  l2 : ∀ q, (x 2).ownBlock = some q → T q
  op : k.kids ≠ [] → x 3 = u3
  sh : k.kids = [] → RowI w n (x 3) 0 ∧ ∀ q, (x 3).ownBlock = some q → T q
structure KidI (w1 wr : World) (g cap : Nat) (K : Nat → Nat → Value) (ks : List It) (i : Nat) (Lr : List (Nat × Nat × It)) (v : Value) (B : Nat) (T : Nat → Nat → Prop) : Prop where
  os : wr.os = w1.os
  tape : wr.tape = w1.tape
  output : wr.output = w1.output
  size : w1.heap.size ≤ wr.heap.size
  gl : g < w1.heap.size
  old : ∀ k, k < w1.heap.size → k ≠ g → (B ≤ k → ∀ cur, w1.heap[k]? ≠ some (Obj.cells cur ptT (0, 0))) → wr.heap[k]? = w1.heap[k]?
  row : ∃ cur, wr.heap[g]? = some (Obj.cells cur itT (0, 0)) ∧ cur.size = cap * 4
  todo : ∀ j, i ≤ j → j < ks.length → NodeAt wr g (j * 4) (K j)
  done : ∀ j k, j < i → ks[j]? = some k → ∃ x, KidD wr w1.heap.size g j k (K j 3) (T j) x
  hT : ∀ j q, j < i → T j q → w1.heap.size ≤ q ∧ q < wr.heap.size
  hd : ∀ j j' q, j < i → j' < i → T j q → T j' q → j = j'
  queue : QRow wr B v ((Lr ++ opens g ks i).map pl)
/-- All is as it was but for the cells of one kid, new blocks and rows of places. -/
structure KidF (B : Nat) (w w' : World) (g i : Nat) : Prop where
  os : w'.os = w.os
  tape : w'.tape = w.tape
  output : w'.output = w.output
  size : w.heap.size ≤ w'.heap.size
  block : ∀ k, k < w.heap.size → k ≠ g → (B ≤ k → ∀ cur, w.heap[k]? ≠ some (Obj.cells cur ptT (0, 0))) → w'.heap[k]? = w.heap[k]?
  here : ∀ cur, w.heap[g]? = some (Obj.cells cur itT (0, 0)) → ∃ cur', w'.heap[g]? = some (Obj.cells cur' itT (0, 0)) ∧ cur'.size = cur.size ∧ ∀ q, (q < i * 4 ∨ i * 4 + 4 ≤ q) → cur'[q]? = cur[q]?
theorem KidF.node {Bq : Nat} {w w' : World} {g i j : Nat} (hf : KidF Bq w w' g i) {x : Nat → Value} (h : NodeAt w g (j * 4) x) (hj : j ≠ i) : NodeAt w' g (j * 4) x := by
  obtain ⟨cur, e, hc⟩ := h
  obtain ⟨cur', e1, _, e3⟩ := hf.here cur e
  exact ⟨cur', e1, fun c hc' => by rw [e3 _ (by omega)]; exact hc c hc'⟩
theorem KidF.rowS {Bq : Nat} {w w' : World} {g i B n : Nat} {v : Value} {xs : List Value} (hf : KidF Bq w w' g i) (hg : ∃ cur, w.heap[g]? = some (Obj.cells cur itT (0, 0))) (h : w.ownsRow B stT 1 v n xs) : w'.ownsRow B stT 1 v n xs := by
  refine row_step h fun q hq hl => ?_
  obtain ⟨cur, e⟩ := row_own_ty h hq
  obtain ⟨cur', e'⟩ := hg
  refine hf.block q hl (fun e2 => ?_) (fun _ c e2 => ?_)
  · subst e2
    rw [e] at e'
    injection e' with e'
    injection e' with _ e' _
    exact item_ne_str e'.symm
  · rw [e] at e2
    injection e2 with e2
    injection e2 with _ e2 _
    exact str_ne_ptr e2
theorem KidF.rowI {Bq : Nat} {w w' : World} {g i B n : Nat} {v : Value} (hf : KidF Bq w w' g i) (h : RowI w B v n) : RowI w' B v n := by
  rcases h with h | ⟨q, cap, cur, e, hb, hq, h1, h2, h3⟩
  · exact .inl h
  · by_cases hqg : q = g
    · subst hqg
      obtain ⟨cur', e1, e2, _⟩ := hf.here cur hq
      exact .inr ⟨q, cap, cur', e, hb, e1, h1, h2, by omega⟩
    · exact .inr ⟨q, cap, cur, e, hb, (hf.block q (Array.getElem?_eq_some_iff.1 hq).1 hqg (fun _ c e2 => by
        rw [hq] at e2
        injection e2 with e2
        injection e2 with _ e2 _
        exact item_ne_ptr e2)).trans hq, h1, h2, h3⟩
theorem KidI.step {w1 wr wb : World} {g cap : Nat} {K : Nat → Nat → Value} {ks : List It} {i : Nat} {Lr : List (Nat × Nat × It)} {v v' : Value} {B : Nat} {T : Nat → Nat → Prop} {k : It} {x : Nat → Value} (h : KidI w1 wr g cap K ks i Lr v B T) (hi : ks[i]? = some k) (hf : KidF B wr wb g i)
    (hD : KidD wb wr.heap.size g i k (K i 3) (fun q => wr.heap.size ≤ q ∧ q < wb.heap.size) x) (hq : QRow wb B v' ((Lr ++ opens g ks (i + 1)).map pl)) : KidI w1 wb g cap K ks (i + 1) Lr v' B (fun j => if j < i then T j else fun q => wr.heap.size ≤ q ∧ q < wb.heap.size) := by
  have hsz := h.size
  obtain ⟨cur, hr1, hr2⟩ := h.row
  obtain ⟨cur', hr3, hr4, _⟩ := hf.here cur hr1
  refine ⟨hf.os.trans h.os, hf.tape.trans h.tape, hf.output.trans h.output, Nat.le_trans h.size hf.size, h.gl, fun q hq1 hq2 hq3 => ?_, ⟨cur', hr3, by omega⟩, fun j hj1 hj2 => hf.node (h.todo j (by omega) hj2) (by omega), fun j k' hj hk' => ?_, fun j q hj hq => ?_, fun j j' q hj hj' hq hq' => ?_, hq⟩
  · have h1 := h.old q hq1 hq2 hq3
    rw [hf.block q (by omega) hq2 (fun hB c => by rw [h1]; exact hq3 hB c), h1]
  · by_cases hji : j < i
    · obtain ⟨y, hy⟩ := h.done j k' hji hk'
      simp only [hji, if_true]
      exact ⟨y, hf.node hy.at' (by omega), hy.h0, hy.h1, hf.rowS ⟨cur, hr1⟩ hy.ln, hy.l2, hy.op, fun e => ⟨hf.rowI (hy.sh e).1, (hy.sh e).2⟩⟩
    · obtain rfl : j = i := by omega
      rw [hi] at hk'
      injection hk' with hk'
      subst hk'
      simp only [Nat.lt_irrefl, if_false]
      exact ⟨x, hD.at', hD.h0, hD.h1, row_base hD.ln hsz, hD.l2, hD.op, fun e => ⟨(hD.sh e).1.mono hsz, (hD.sh e).2⟩⟩
  · by_cases hji : j < i
    · simp only [hji, if_true] at hq
      have := h.hT j q hji hq
      have := hf.size
      omega
    · simp only [hji, if_false] at hq
      omega
  · by_cases hji : j < i <;> by_cases hji' : j' < i <;> simp only [hji, hji', if_true, if_false] at hq hq'
    · exact h.hd j j' q hji hji' hq hq'
    · have := h.hT j q hji hq; omega
    · have := h.hT j' q hji' hq'; omega
    · omega
/-- All kids have been seen to: they are new kids. -/
theorem KidI.newK {w w1 wr : World} {g cap : Nat} {K : Nat → Nat → Value} {t : It} {Lr : List (Nat × Nat × It)} {v : Value} {B : Nat} {T : Nat → Nat → Prop} (h : KidI w1 wr g cap K t.kids t.kids.length Lr v B T) (hB : B ≤ w.heap.size) (hw : w.heap.size ≤ w1.heap.size) (hg : w.heap.size ≤ g) (hcap : t.kids.length ≤ cap) (hcm : cap ≤ maxLen) (hL : ∀ p, p ∈ Lr → p.1 < w.heap.size) :
    NewK w wr B (Lr ++ opens g t.kids t.kids.length) (.slice (some ⟨g, 0, none⟩) t.kids.length cap) t T := by
  obtain ⟨cur, hr1, hr2⟩ := h.row
  have hgl := h.gl
  refine ⟨.inr ⟨g, cap, cur, rfl, hg, hr1, hcap, hcm, hr2⟩, fun g' j k hg' hj => ?_, fun j q hj hq => ?_, h.hd⟩
  · obtain rfl : g = g' := Option.some.inj hg'
    have hjl := (List.getElem?_eq_some_iff.1 hj).1
    obtain ⟨x, hx⟩ := h.done j k hjl hj
    have hTb : ∀ q, T j q → B ≤ q ∧ q < wr.heap.size := fun q hq => by have := h.hT j q hjl hq; omega
    have hTg : ¬ T j g := fun e => by have := h.hT j g hjl e; omega
    by_cases hk : k.kids = []
    · obtain ⟨s1, s2⟩ := hx.sh hk
      refine .fin g (j * 4) k (T j) x hx.at' hx.h0 hx.h1 (row_base hx.ln (by omega)) hx.l2 hTb hTg (by omega) (fun t' ht' => ?_) (fun _ _ => False) (by rw [hk]; exact s1.mono (by omega)) s2 (fun g'' i k' _ hi => by rw [hk] at hi; cases hi) (fun i q hi _ => by rw [hk] at hi; cases hi) (fun i i' q hi _ _ _ => by rw [hk] at hi; cases hi)
      rcases List.mem_append.1 ht' with h1 | h1
      · have := hL _ h1
        have : g < w.heap.size := this
        omega
      · obtain ⟨j', h2, h3, h4, h5, h6⟩ := (opens_mem _ _).1 h1
        have h6 : j * 4 = j' * 4 := h6
        obtain rfl : j = j' := by omega
        rw [hj] at h3
        injection h3 with h3
        exact h4 (h3 ▸ hk)
    · exact .opn g (j * 4) k (T j) x hx.at' hx.h0 hx.h1 (row_base hx.ln (by omega)) hx.l2 hTb hTg (by omega) (List.mem_append.2 (.inr ((opens_mem _ _).2 ⟨j, hjl, hj, hk, rfl, rfl⟩)))
  · have := h.hT j q hj hq
    refine ⟨by omega, this.2, fun e => ?_⟩
    have e : g = q := Option.some.inj e
    omega
end Go.Proofs.YtpbolcjcmkmalaaGreatDoor
namespace Go.Proofs.YtpbolcjcmkmalaaGreatDoor
open Go.RowKit Go.Extern.Stop Go.Stop Go.Extern

/-- A tree that is to be copied, in blocks below N, the places of its kids not frozen. -/
inductive SrcT (w : World) (N : Nat) (ex : Prop) : (Nat → Value) → It → Prop
  | mk (v : Nat → Value) (t : It) (la ka : Option Addr) (lc kc : Nat) (V : Nat → Nat → Value)
    (h0 : v 0 = .string t.label) (h1 : v 1 = .string t.head) (h2 : v 2 = .slice la t.lines.length lc) (h3 : v 3 = .slice ka t.kids.length kc)
    (hl : ∀ i s, t.lines[i]? = some s → ∃ b o, la = some ⟨b, o, none⟩ ∧ b < N ∧ w.cell? ⟨b, o + i, none⟩ = some (.string s))
    (hk : ∀ i, i < t.kids.length → ∃ b o, ka = some ⟨b, o, none⟩ ∧ b < N ∧ UnF w ⟨b, o + i * 4, none⟩ ∧ (ex → PlnF w ⟨b, o + i * 4, none⟩) ∧ ∀ c, c < 4 → w.cell? ⟨b, o + i * 4 + c, none⟩ = some (V i c))
    (hr : ∀ i k, t.kids[i]? = some k → SrcT w N ex (V i) k) (cl : la = none → lc = 0) (ck : ka = none → kc = 0) (bl : t.lines.length ≤ 1000000) (bk : t.kids.length ≤ 100000) (hlc : t.lines.length ≤ lc) (hkc : t.kids.length ≤ kc) : SrcT w N ex v t
/-- Foreign kids. -/
structure Fk (w : World) (N : Nat) (ex : Prop) (u : Value) (t : It) (ka : Option Addr) (kc : Nat) (K : Nat → Nat → Value) : Prop where
  is : u = .slice ka t.kids.length kc
  ck : ka = none → kc = 0
  bk : t.kids.length ≤ 100000
  hkc : t.kids.length ≤ kc
  hk : ∀ i, i < t.kids.length → ∃ b o, ka = some ⟨b, o, none⟩ ∧ b < N ∧ ∀ c, c < 4 → w.cell? ⟨b, o + i * 4 + c, none⟩ = some (K i c)
  hr : ∀ i k, t.kids[i]? = some k → SrcT w N ex (K i) k
section
variable {w : World} {N : Nat} {ex : Prop}
theorem SrcT.fk {v : Nat → Value} {t : It} (h : SrcT w N ex v t) : ∃ ka kc K, Fk w N ex (v 3) t ka kc K := by
  cases h with
  | mk v t la ka lc kc V h0 h1 h2 h3 hl hk hr cl ck bl bk hlc hkc => exact ⟨ka, kc, V, h3, ck, bk, hkc, fun i hi => (by obtain ⟨b, o, e1, e2, _, _, e3⟩ := hk i hi; exact ⟨b, o, e1, e2, e3⟩), hr⟩
theorem SrcT.texts {v : Nat → Value} {t : It} (h : SrcT w N ex v t) : v 0 = .string t.label ∧ v 1 = .string t.head ∧ ∃ la lc, v 2 = .slice la t.lines.length lc ∧ (la = none → lc = 0) ∧ t.lines.length ≤ 1000000 ∧ t.lines.length ≤ lc ∧ ∀ i s, t.lines[i]? = some s → ∃ b o, la = some ⟨b, o, none⟩ ∧ b < N ∧ w.cell? ⟨b, o + i, none⟩ = some (.string s) := by
  cases h with
  | mk v t la ka lc kc V h0 h1 h2 h3 hl hk hr cl ck bl bk hlc hkc => exact ⟨h0, h1, la, lc, h2, cl, bl, hlc, hl⟩
theorem SrcT.on {w' : World} {v : Nat → Value} {t : It} (h : SrcT w N ex v t) (hb : ∀ k, k < N → w'.heap[k]? = w.heap[k]?) : SrcT w' N ex v t := by
  induction h with
  | mk v t la ka lc kc V h0 h1 h2 h3 hl hk hr cl ck bl bk hlc hkc ih =>
    refine .mk v t la ka lc kc V h0 h1 h2 h3 (fun i s hs => ?_) (fun i hi => ?_) ih cl ck bl bk hlc hkc
    · obtain ⟨b, o, e, hN, hc⟩ := hl i s hs
      exact ⟨b, o, e, hN, (World.cell?_of_block (a := ⟨b, o + i, none⟩) (hb b hN)).trans hc⟩
    · obtain ⟨b, o, e, hN, hu, hp, hc⟩ := hk i hi
      exact ⟨b, o, e, hN, hu.on (hb b hN), fun hx => (hp hx).on (hb b hN), fun c hc' => (World.cell?_of_block (a := ⟨b, o + i * 4 + c, none⟩) (hb b hN)).trans (hc c hc')⟩
theorem SrcT.lies {v : Nat → Value} {t : It} (h : SrcT w N ex v t) : Lies w (· < N) v t := by
  induction h with
  | mk v t la ka lc kc V h0 h1 h2 h3 hl hk hr cl ck bl bk hlc hkc ih =>
    exact .mk v t la ka lc kc V h0 h1 h2 h3 hl (fun i hi => by obtain ⟨b, o, e, hN, _, _, hc⟩ := hk i hi; exact ⟨b, o, e, hN, hc⟩) ih hlc hkc
/-- At a place it is a tree that can be weighed. -/
theorem SrcT.tree {N' : Nat} (hN : N ≤ N') {v : Nat → Value} {t : It} (h : SrcT w N ex v t) {b o : Nat} (c2 : w.cell? ⟨b, o + 2, none⟩ = some (v 2)) (c3 : w.cell? ⟨b, o + 3, none⟩ = some (v 3)) (hu : UnF w ⟨b, o, none⟩) (hp : ex → PlnF w ⟨b, o, none⟩) (hb : b < N') : TreeF w N' ex b o t := by
  induction h generalizing b o with
  | mk v t la ka lc kc V h0 h1 h2 h3 hl hk hr cl ck bl bk hlc hkc ih =>
    refine .mk b o t la ka lc kc (by rw [c2, h2]) (by rw [c3, h3]) bl bk hkc hu hp hb (fun hne => ?_) (fun i k g q hi hg => ?_)
    · obtain ⟨b', o', e, _⟩ := hk 0 (List.length_pos_iff.2 hne)
      exact ⟨b', o', e⟩
    · obtain ⟨b', o', e, hN', hu', hp', hc⟩ := hk i (List.getElem?_eq_some_iff.1 hi).1
      rw [hg] at e
      injection e with e
      injection e with e1 e2 _
      subst e1 e2
      exact ih i k hi (hc 2 (by omega)) (hc 3 (by omega)) hu' hp' (by omega)
def sumW : List (Nat × Nat × It) → Nat
  | [] => 0
  | p :: r => wtK p.2.2.kids + sumW r
theorem sumW_app : ∀ (a b : List (Nat × Nat × It)), sumW (a ++ b) = sumW a + sumW b
  | [], b => by rw [List.nil_append, sumW]; omega
  | p :: r, b => by rw [List.cons_append, sumW, sumW, sumW_app r b]; omega
theorem sumW_opens {g : Nat} {ks : List It} : ∀ i, i ≤ ks.length → sumW (opens g ks i) + ownW (ks.take i) = wtK (ks.take i)
  | 0, _ => by rw [opens, sumW, List.take_zero, ownW, wtK]
  | i + 1, h => by
    obtain ⟨k, hk⟩ : ∃ k, ks[i]? = some k := ⟨_, List.getElem?_eq_getElem (by omega)⟩
    have ih := sumW_opens (g := g) (ks := ks) i (by omega)
    have hw : wtK (ks.take (i + 1)) = wtK (ks.take i) + wtI k := by
      obtain ⟨hi, e⟩ := List.getElem?_eq_some_iff.1 hk
      rw [List.take_succ_eq_append_getElem hi, e]
      have : ∀ l : List It, wtK (l ++ [k]) = wtK l + wtI k := fun l => by
        induction l with
        | nil => show wtI k + wtK [] = wtK [] + wtI k; omega
        | cons a r ih => rw [List.cons_append, wtK, wtK, ih]; omega
      exact this _
    have hk2 := wtI_eq k
    rw [ownW_take hk, hw]
    by_cases hz : k.kids = []
    · rw [opens_none hk hz]
      rw [hz, wtK] at hk2
      omega
    · rw [opens_some hk hz, sumW_app, sumW, sumW]
      show sumW (opens g ks i) + (wtK k.kids + 0) + _ = _
      omega
theorem opens_len {g : Nat} {ks : List It} : ∀ i, (opens g ks i).length ≤ i
  | 0 => Nat.le_refl _
  | i + 1 => by
    rw [opens, List.length_append]
    have := opens_len (g := g) (ks := ks) i
    split
    · simp; omega
    · split
      · simp; omega
      · simp; omega
/-- The copy, so far. -/
structure RenI (w : World) (N rb : Nat) (ex : Prop) (t : It) (m : Nat) (v : Value) (L : List (Nat × Nat × It)) (wr : World) : Prop where
  low : BelX w.heap.size rb w wr
  ren : ∃ S, Ren wr w.heap.size L rb 0 t S
  q : QRow wr w.heap.size v (L.map pl)
  nodes : ∀ p, p ∈ L → p.2.1 % 4 = 0 ∧ (p.1 = rb ∨ w.heap.size ≤ p.1) ∧ ∃ x ka kc K, NodeAt wr p.1 p.2.1 x ∧ Fk w N ex (x 3) p.2.2 ka kc K
  pw : L.Pairwise fun p q => ¬ (p.1 = q.1 ∧ p.2.1 = q.2.1)
  bud : sumW L ≤ m
theorem RenI.next {rb m m' : Nat} {t t0 : It} {v v' u : Value} {b0 o0 : Nat} {Lr Ln : List (Nat × Nat × It)} {wr wr' : World} {T : Nat → Nat → Prop} (h : RenI w N rb ex t m v ((b0, o0, t0) :: Lr) wr) (hf : One3 wr wr' b0 (o0 + 3) u) (hlow : BelX w.heap.size rb wr wr') (hk : NewK wr wr' w.heap.size (Lr ++ Ln) u t0 T)
    (hLn : ∀ p, p ∈ Ln → wr.heap.size ≤ p.1 ∧ p.2.1 % 4 = 0 ∧ ∃ x ka kc K, NodeAt wr' p.1 p.2.1 x ∧ Fk w N ex (x 3) p.2.2 ka kc K) (hpw : Ln.Pairwise fun p q => ¬ (p.1 = q.1 ∧ p.2.1 = q.2.1)) (hq : QRow wr' w.heap.size v' ((Lr ++ Ln).map pl)) (hb : sumW (Lr ++ Ln) ≤ m') : RenI w N rb ex t m' v' (Lr ++ Ln) wr' := by
  obtain ⟨S, hS⟩ := h.ren
  obtain ⟨h04, _, x0, ka0, kc0, K0, hn0, _⟩ := h.nodes (b0, o0, t0) (by simp)
  obtain ⟨hp1, hp2⟩ := List.pairwise_cons.1 h.pw
  have hlt : ∀ p, p ∈ Lr → p.1 < wr.heap.size := fun p hp => by
    obtain ⟨_, _, x, _, _, _, hx, _⟩ := h.nodes p (List.mem_cons_of_mem _ hp)
    exact hx.lt
  have hn0' : NodeAt wr b0 o0 x0 := hn0
  have h04 : o0 % 4 = 0 := h04
  have hN := h.low.size
  refine ⟨h.low.trans hlow, ⟨_, hS.step hN h04 ⟨_, hn0'.choose_spec.1⟩ hf hk (by simp) (fun p hp => ?_) (fun t' ht' => ?_) (fun p hp => ?_)⟩, hq, fun p hp => ?_, ?_, hb⟩
  · rcases List.mem_cons.1 hp with rfl | hp
    · exact ⟨fun _ => rfl, fun hn => absurd ⟨rfl, rfl⟩ hn⟩
    · have := hp1 p hp
      exact ⟨fun e => absurd ⟨e.1.symm, e.2.symm⟩ this, fun _ => List.mem_append.2 (.inl hp)⟩
  · rcases List.mem_append.1 ht' with h1 | h1
    · exact hp1 _ h1 ⟨rfl, rfl⟩
    · have h1 : wr.heap.size ≤ b0 := (hLn _ h1).1
      have := hn0'.lt
      omega
  · rcases List.mem_append.1 hp with h1 | h1
    · exact .inl (List.mem_cons_of_mem _ h1)
    · exact .inr (hLn _ h1).1
  · rcases List.mem_append.1 hp with h1 | h1
    · obtain ⟨h2, h3, x, ka, kc, K, hx, hfk⟩ := h.nodes p (List.mem_cons_of_mem _ h1)
      exact ⟨h2, h3, x, ka, kc, K, hf.node h04 hx h2 (fun e => hp1 p h1 ⟨e.1.symm, e.2.symm⟩), hfk⟩
    · have h2 := hLn p h1
      exact ⟨h2.2.1, .inr (by omega), h2.2.2⟩
  · refine List.pairwise_append.2 ⟨hp2, hpw, fun p hp q hq e => ?_⟩
    have := hlt p hp
    have := (hLn q hq).1
    have := e.1
    omega
end
end Go.Proofs.YtpbolcjcmkmalaaGreatDoor
namespace Go.Proofs.YtpbolcjcmkmalaaGreatDoor
open Go.RowKit Go.Extern.Stop Go.Stop Go.Extern

/-- One kid more, its blocks new. -/
theorem putF_fin {W w4 : World} {B b o d : Nat} {x k : It} {S Ty : Nat → Prop} {v y : Nat → Value} {K : Nat → Nat → Value} {T : Nat → Nat → Prop} (h : ItAt W B b o x S v) (hk : OwnK W B v x S K T) (hB : B ≤ W.heap.size) (hd : d ≤ x.kids.length) {a : Option Addr} {c : Nat}
    (hf : Fr (fun k => k = b ∨ (v 3).ownBlock = some k) W w4) (hb : w4.heap[b]? = (W.setCell ⟨b, o + 3, none⟩ (.slice a (x.kids.length + 1) c)).heap[b]?) (hr : w4.ownsRow B 25 4 (.slice a (x.kids.length + 1) c) (x.kids.length + 1) (flat4 (inV K d y) (x.kids.length + 1)))
    (hyt : Own w4 B y k Ty) (hTy : ∀ q, Ty q → W.heap.size ≤ q) (hu3 : ∀ g, (Value.slice a (x.kids.length + 1) c).ownBlock = some g → (v 3).ownBlock = some g ∨ (W.heap.size ≤ g ∧ g < w4.heap.size)) (hTn : ∀ q, Ty q → (Value.slice a (x.kids.length + 1) c).ownBlock ≠ some q) :
    ∃ S' v', ItAt w4 B b o (x.setKids (x.kids.insertIdx d k)) S' v' ∧ (∀ q, S' q → S q ∨ W.heap.size ≤ q) ∧ Upd W w4 b o S := by
  have hl : (x.kids.insertIdx d k).length = x.kids.length + 1 := by rw [List.length_insertIdx, if_pos hd]
  have hn' : ∀ q, S q → q ≠ b := fun q hq e => h.out (e ▸ hq)
  have hlt := h.lt
  have hst := fun j k' (ej : x.kids[j]? = some k') => own_step2 (t := x) hk hf (fun i q hi hq e2 => e2.elim (hn' q (hk.hT i q hi hq).1) (hk.hT i q hi hq).2.2) j k' ej
  have hin : ∀ i, i < x.kids.length + 1 → (i = d ∧ inV K d y i = y ∧ inV T d Ty i = Ty) ∨ ∃ j, j < x.kids.length ∧ i ≠ d ∧ inV K d y i = K j ∧ inV T d Ty i = T j ∧ (j = if i < d then i else i - 1) := fun i hi => by
    unfold inV
    rcases Nat.lt_trichotomy i d with h1 | h1 | h1
    · exact .inr ⟨i, by omega, by omega, by rw [if_pos h1], by rw [if_pos h1], by rw [if_pos h1]⟩
    · exact .inl ⟨h1, by rw [if_neg (by omega), if_pos h1], by rw [if_neg (by omega), if_pos h1]⟩
    · exact .inr ⟨i - 1, by omega, by omega, by rw [if_neg (by omega), if_neg (by omega)], by rw [if_neg (by omega), if_neg (by omega)], by rw [if_neg (by omega)]⟩
  have hTS : ∀ j q, j < x.kids.length → T j q → q < W.heap.size := fun j q hj hq => (hk.hS q (hk.hT j q hj hq).1).2
  have hset : ItAt w4 B b o (x.setKids (x.kids.insertIdx d k)) (fun q => S q ∨ (W.heap.size ≤ q ∧ q < w4.heap.size)) (updV v 3 (.slice a (x.kids.length + 1) c)) ∧ Upd W w4 b o S := by
    refine h.setK (u := .slice a (x.kids.length + 1) c) (ks := x.kids.insertIdx d k) (K' := inV K d y) (T' := inV T d Ty) (S' := fun q => S q ∨ (W.heap.size ≤ q ∧ q < w4.heap.size)) hf hb (by rw [hl]; exact hr) (fun i k' ei => ?_) (fun q hq => ?_) (fun g hg' => .inl (hk.sl g hg')) (fun g hg' => ?_) (fun i q hi hq => ?_) (fun i i' q hi hi' hq hq' => ?_) (fun hh => ?_)
    · have hi : i < x.kids.length + 1 := by rw [← hl]; exact (List.getElem?_eq_some_iff.1 ei).1
      rcases hin i hi with ⟨h1, h2, h3⟩ | ⟨j, h1, h2, h3, h4, h5⟩
      · rw [h2, h3]
        rcases ins_get hd ei with ⟨h6, _⟩ | ⟨_, h7⟩ | ⟨h6, _⟩
        · omega
        · rw [h7]; exact hyt
        · omega
      · rw [h3, h4]
        refine hst j k' ?_
        rcases ins_get hd ei with ⟨h6, h7⟩ | ⟨h6, _⟩ | ⟨h6, h7⟩
        · rw [h5, if_pos h6]; exact h7
        · exact absurd h6 h2
        · rw [h5, if_neg (by omega)]; exact h7
    · rcases hq with hq | hq
      · exact ⟨(hk.hS q hq).1, Nat.lt_of_lt_of_le (hk.hS q hq).2 hf.size⟩
      · exact ⟨by omega, hq.2⟩
    · exact (hu3 g hg').imp (fun h1 => hk.sk g h1) (fun h1 => h1)
    · rw [hl] at hi
      rcases hin i hi with ⟨h1, h2, h3⟩ | ⟨j, h1, h2, h3, h4, h5⟩
      · rw [h3] at hq
        refine ⟨.inr ⟨hTy q hq, (hyt.in q hq).2⟩, fun e2 => ?_, hTn q hq⟩
        have := (hk.hS q (hk.sl q e2)).2; have := hTy q hq; omega
      · rw [h4] at hq
        have h9 := hk.hT j q h1 hq
        refine ⟨.inl h9.1, h9.2.1, fun e2 => ?_⟩
        rcases hu3 q e2 with h6 | h6
        · exact h9.2.2 h6
        · have := hTS j q h1 hq; omega
    · rw [hl] at hi hi'
      rcases hin i hi with ⟨h1, h2, h3⟩ | ⟨j, h1, h2, h3, h4, h5⟩ <;> rcases hin i' hi' with ⟨h1', h2', h3'⟩ | ⟨j', h1', h2', h3', h4', h5'⟩
      · omega
      · rw [h3] at hq
        rw [h4'] at hq'
        have := hTS j' q h1' hq'; have := hTy q hq; omega
      · rw [h4] at hq
        rw [h3'] at hq'
        have := hTS j q h1 hq; have := hTy q hq'; omega
      · rw [h4] at hq
        rw [h4'] at hq'
        have e9 := hk.hd j j' q h1 h1' hq hq'
        rw [h5, h5'] at e9
        split at e9 <;> split at e9 <;> omega
    · rcases hh with hh | hh
      · exact h.out hh
      · omega
  exact ⟨_, _, hset.1, fun q hq => hq.imp (fun h => h) (fun h => h.1), hset.2⟩
/-- From one world to the next: four cells of a block are others, and no block else. -/
structure Put4 (w w' : World) (g o : Nat) (y : Nat → Value) : Prop where
  os : w'.os = w.os
  tape : w'.tape = w.tape
  output : w'.output = w.output
  size : w'.heap.size = w.heap.size
  block : ∀ q, q ≠ g → w'.heap[q]? = w.heap[q]?
  row : ∀ cur ty fz, w.heap[g]? = some (.cells cur ty fz) → ∃ cur', w'.heap[g]? = some (.cells cur' ty fz) ∧ cur'.size = cur.size ∧ (∀ c, c < 4 → o + c < cur.size → cur'[o + c]? = some (y c)) ∧ ∀ q, (q < o ∨ o + 4 ≤ q) → cur'[q]? = cur[q]?
theorem put4 (w : World) (g o : Nat) (y : Nat → Value) : Put4 w ((((w.setCell ⟨g, o, none⟩ (y 0)).setCell ⟨g, o + 1, none⟩ (y 1)).setCell ⟨g, o + 2, none⟩ (y 2)).setCell ⟨g, o + 3, none⟩ (y 3)) g o y := by
  refine ⟨rfl, rfl, rfl, by simp, fun q hq => ?_, fun cur ty fz e => ?_⟩
  · rw [Below.heap_setCell _ _ _ _ hq, Below.heap_setCell _ _ _ _ hq, Below.heap_setCell _ _ _ _ hq, Below.heap_setCell _ _ _ _ hq]
  · refine ⟨(((cur.setIfInBounds o (y 0)).setIfInBounds (o + 1) (y 1)).setIfInBounds (o + 2) (y 2)).setIfInBounds (o + 3) (y 3), ?_, by simp, fun c hc hl => ?_, fun q hq => ?_⟩
    · exact setCell_row _ (setCell_row _ (setCell_row _ (setCell_row _ e)))
    · simp only [Array.getElem?_setIfInBounds, Array.size_setIfInBounds]
      match c, hc with
      | 0, _ => rw [if_neg (by omega), if_neg (by omega), if_neg (by omega), if_pos (by omega), if_pos (by omega)]
      | 1, _ => rw [if_neg (by omega), if_neg (by omega), if_pos (by omega), if_pos (by omega)]
      | 2, _ => rw [if_neg (by omega), if_pos (by omega), if_pos (by omega)]
      | 3, _ => rw [if_pos (by omega), if_pos (by omega)]
    · simp only [Array.getElem?_setIfInBounds]
      rw [if_neg (by omega), if_neg (by omega), if_neg (by omega), if_neg (by omega)]
theorem row_put4 {w3 w4 : World} {B g d n c : Nat} {K : Nat → Nat → Value} {y y' : Nat → Value} (hr : w3.ownsRow B 25 4 (.slice (some ⟨g, 0, none⟩) n c) n (flat4 (inV K d y) n)) (hd : d < n) (hp : Put4 w3 w4 g (d * 4) y') : w4.ownsRow B 25 4 (.slice (some ⟨g, 0, none⟩) n c) n (flat4 (inV K d y') n) := by
  refine ⟨flat4_len _ _, ?_⟩
  rcases hr.2 with ⟨e, _⟩ | ⟨g', cap, cur, e, hb, hg, h1, h2, h3, h4⟩
  · cases e
  · injection e with e1 _ e2
    injection e1 with e1
    injection e1 with e1 _ _
    subst e1 e2
    obtain ⟨cur', e5, e6, e7, e8⟩ := hp.row cur _ _ hg
    refine .inr ⟨g, c, cur', rfl, hb, e5, h1, h2, by omega, ?_⟩
    apply List.ext_getElem?
    intro q
    have hcl : cur.size = c * 4 := h3
    rcases Nat.lt_or_ge q (n * 4) with hq | hq
    · rw [List.getElem?_take, if_pos hq, flat4_at _ hq, Array.getElem?_toList]
      by_cases hqd : q / 4 = d
      · obtain ⟨j, hj⟩ : ∃ j, j = q - d * 4 := ⟨_, rfl⟩
        have hj4 : j < 4 := by omega
        have := e7 j hj4 (by omega)
        rw [show d * 4 + j = q by omega] at this
        rw [this]
        unfold inV
        rw [if_neg (by omega), if_pos hqd, show q % 4 = j by omega]
      · rw [e8 q (by omega)]
        have h9 := flat4_at (inV K d y) hq
        rw [← h4, List.getElem?_take, if_pos hq, Array.getElem?_toList] at h9
        rw [h9]
        unfold inV
        rcases Nat.lt_trichotomy (q / 4) d with h8 | h8 | h8
        · rw [if_pos h8, if_pos h8]
        · exact absurd h8 hqd
        · rw [if_neg (by omega), if_neg hqd, if_neg (by omega), if_neg hqd]
    · rw [List.getElem?_eq_none (by rw [List.length_take, Array.length_toList]; omega), List.getElem?_eq_none (by rw [flat4_len]; omega)]
/-- A foreign provision is among the kids. -/
structure PutH (W : World) (B b o d : Nat) (x k : It) (S : Nat → Prop) (w2 : World) (g c : Nat) : Prop where
  cell : w2.cell? ⟨b, o + 3, none⟩ = some (.slice (some ⟨g, 0, none⟩) (x.kids.length + 1) c)
  lt : g < w2.heap.size
  upd : Upd W w2 b o S
  lies : LiesAt4 w2 b o (x.setKids (x.kids.insertIdx d k))
  place : ∀ j, j < 4 → ∃ u, w2.cell? ⟨g, d * 4 + j, none⟩ = some u
  frz : ∀ i, w2.frozen? ⟨g, i, none⟩ = false
  fin : ∀ (w3 w4 : World) (y : Nat → Value) (Ty : Nat → Prop), Below w2.heap.size w2 w3 → Put4 w3 w4 g (d * 4) y → Own w3 B y k Ty → (∀ q, Ty q → w2.heap.size ≤ q) → ∃ S' v', ItAt w4 B b o (x.setKids (x.kids.insertIdx d k)) S' v' ∧ (∀ q, S' q → S q ∨ W.heap.size ≤ q) ∧ Upd W w4 b o S
theorem putF_c {W : World} {B b o d vb : Nat} {x k : It} {S : Nat → Prop} {v iv : Nat → Value} (h : ItAt W B b o x S v) (hB : B ≤ W.heap.size) (hBb : B ≤ b) (hd : d ≤ x.kids.length) (hn : x.kids.length ≤ 1000000) {ka : Option Addr} {kc : Nat} (e : v 3 = .slice ka x.kids.length kc) (hi : Lies W (· < B) iv k) (hv : W.heap[vb]? = some (.cells #[iv 0, iv 1, iv 2, iv 3] 25 (0, 0))) (hvb : ¬ S vb) :
    Calls Tryz.prog 77 #[.slice ka x.kids.length kc, .int .i64 d, .slice (some ⟨vb, 0, none⟩) 1 1] W fun e w' => ∃ a n c, e = .returned (.slice a n c) ∧ StC b o 3 (.slice a n c) w' (fun w2 => ∃ g c, PutH W B b o d x k S w2 g c) := by
  obtain ⟨K, T, hk⟩ := h.own.parts
  have hkd := hk.kd
  rw [e] at hkd
  obtain ⟨f0, f1, ⟨fa, fc, f2⟩, fa', fc', f3⟩ := hi.forms
  refine (insI_a (ns := [iv 0, iv 1, iv 2, iv 3]) hkd (kid_ones hk) hd hn hv rfl (fun u hu => by simp only [List.mem_cons, List.not_mem_nil, or_false] at hu; rcases hu with rfl | rfl | rfl | rfl; rw [f0]; rfl; rw [f1]; rfl; rw [f2]; rfl; rw [f3]; rfl) (fun e2 => hvb (hk.sk vb (by rw [e]; exact e2))) hB).mono ?_
  rintro e' w' ⟨⟨u, rfl, hu, hr⟩, hg⟩
  rw [flat4_insert K iv hd] at hr
  obtain ⟨g, c, rfl, hgl, hgB⟩ := row_form hr (by omega)
  refine ⟨_, _, c, rfl, h.stC hk (by rw [e]; exact hg) (by rw [e]; exact hu) fun w'' hf hb hsz hblk hub => ⟨g, c, ?_⟩⟩
  have hgb : g ≠ b := hub g rfl
  have hl : (x.kids.insertIdx d k).length = x.kids.length + 1 := by rw [List.length_insertIdx, if_pos hd]
  have hn' : ∀ q, S q → q ≠ b := fun q hq e => h.out (e ▸ hq)
  have hlt := h.lt
  have hu3 : (v 3).ownBlock = some g ∨ (W.heap.size ≤ g ∧ g < w''.heap.size) := by
    rcases hu with e1 | ⟨g', e1, h5, h6⟩
    · left; rw [e, ← e1]; rfl
    · right
      have e1 : some g = some g' := e1
      injection e1 with e1
      subst e1
      exact ⟨h5, by rw [hsz]; exact h6⟩
  have hr2 : w''.ownsRow B 25 4 (.slice (some ⟨g, 0, none⟩) (x.kids.length + 1) c) (x.kids.length + 1) (flat4 (inV K d iv) (x.kids.length + 1)) := row_step hr fun g' hg' hl' => hblk g' (hub g' hg')
  obtain ⟨h1, h2⟩ := here_set (u := .slice (some ⟨g, 0, none⟩) (x.kids.length + 1) c) h.here (c := 3) (by omega) hb
  have hupd : Upd W w'' b o S := ⟨hf.os, hf.tape, hf.output, hf.size, fun q hq hs hne => hf.block q hq (fun e2 => e2.elim hne (fun e3 => hs (hk.sk q e3))), h2⟩
  have hcs : ∀ c', c' < 4 → w''.cell? ⟨b, o + c', none⟩ = some (updV v 3 (.slice (some ⟨g, 0, none⟩) (x.kids.length + 1) c) c') := fun c' hc' => by
    obtain ⟨cur, ty, e1, e2⟩ := h1
    unfold World.cell?
    rw [e1]
    exact e2 c' hc'
  have hst := fun j k' (ej : x.kids[j]? = some k') => own_step2 (t := x) hk hf (fun i q hi hq e2 => e2.elim (hn' q (hk.hT i q hi hq).1) (hk.hT i q hi hq).2.2) j k' ej
  have hln : w''.ownsRow B 9 1 (v 2) x.lines.length (x.lines.map Value.string) := row_step hk.ln fun q hq hl' => hf.block q hl' (fun e2 => e2.elim (hn' q (hk.sl q hq)) (fun e3 => rows_ne hk hq e3))
  have hkcell : ∀ i c', i < x.kids.length + 1 → c' < 4 → w''.cell? ⟨g, 0 + i * 4 + c', none⟩ = some (inV K d iv i c') := fun i c' hi' hc' => by
    rw [hr2.cellAt (0 + i * 4 + c') (by omega), Nat.zero_add]
    exact flat4_get _ (x.kids.length + 1) i c' hi' hc'
  have hgh : ∃ cur, w''.heap[g]? = some (.cells cur 25 (0, 0)) := by
    rcases hr2.2 with ⟨e1, _⟩ | ⟨g', cap, cur, e1, _, hgg, _⟩
    · cases e1
    · injection e1 with e1 _ _
      injection e1 with e1
      injection e1 with e1 _ _
      exact ⟨cur, by rw [e1]; exact hgg⟩
  refine ⟨hcs 3 (by omega), by rw [hsz]; exact hgl, hupd, ⟨_, hcs, ?_⟩, fun j hj => ⟨_, by have := hkcell d j (by omega) hj; rwa [Nat.zero_add] at this⟩, fun i => ?_, ?_⟩
  · obtain ⟨la, lc, el⟩ := row_any hk.ln
    refine .mk _ _ la (some ⟨g, 0, none⟩) lc c (inV K d iv) ((updV_ne v _ (by omega)).trans hk.h0) ((updV_ne v _ (by omega)).trans hk.h1) ((updV_ne v _ (by omega)).trans el) (by rw [updV_same]; show _ = Value.slice _ (x.kids.insertIdx d k).length _; rw [hl]) (fun i s hs => ?_) (fun i hi' => ?_) (fun i k' ei => ?_) (by rw [el] at hln; exact row_cap hln) (by show (x.kids.insertIdx d k).length ≤ c; rw [hl]; exact row_cap hr2)
    · obtain ⟨hi', _⟩ := List.getElem?_eq_some_iff.1 hs
      have hs : x.lines[i]? = some s := hs
      have hi' : i < x.lines.length := hi'
      obtain ⟨g', cap, e4, hg', hb'⟩ := row_form hln (by omega)
      rw [el] at e4 hln
      injection e4 with e4 e5 e6
      rw [e4] at hln
      refine ⟨g', 0, e4, trivial, ?_⟩
      have := hln.cellAt i (by omega)
      simpa [hs] using this
    · have hi' : i < (x.kids.insertIdx d k).length := hi'
      exact ⟨g, 0, rfl, trivial, fun c' hc' => hkcell i c' (by omega) hc'⟩
    · have ei : (x.kids.insertIdx d k)[i]? = some k' := ei
      unfold inV
      rcases ins_get hd ei with ⟨h6, h7⟩ | ⟨h6, h7⟩ | ⟨h6, h7⟩
      · rw [if_pos h6]
        exact (hst i k' h7).lies.step fun q _ _ => ⟨rfl, trivial⟩
      · rw [if_neg (by omega), if_pos h6, h7]
        refine hi.step fun q hq hqB => ⟨hf.block q hq (fun e2 => ?_), trivial⟩
        have hqB : q < B := hqB
        rcases e2 with e2 | e2
        · omega
        · have := (hk.hS q (hk.sk q e2)).1; omega
      · rw [if_neg (by omega), if_neg (by omega)]
        exact (hst (i - 1) k' h7).lies.step fun q _ _ => ⟨rfl, trivial⟩
  · obtain ⟨cur, hgh⟩ := hgh
    unfold World.frozen?
    rw [hgh]
    simp
  · intro w3 w4 y Ty hb3 hp hy hTy
    have hg'' : g < w''.heap.size := by rw [hsz]; exact hgl
    have hr3 : w3.ownsRow B 25 4 (.slice (some ⟨g, 0, none⟩) (x.kids.length + 1) c) (x.kids.length + 1) (flat4 (inV K d iv) (x.kids.length + 1)) := row_step hr2 fun q _ hl' => hb3.block q hl'
    have hf3 := hf.bel hb3
    have hf4 : Fr (fun k => k = b ∨ (v 3).ownBlock = some k) W w4 := ⟨hp.os.trans hf3.os, hp.tape.trans hf3.tape, hp.output.trans hf3.output, by rw [hp.size]; exact hf3.size, fun q hq hx => by
      rw [hp.block q (fun e2 => ?_)]
      · exact hf3.block q hq hx
      · rw [e2] at hq hx
        rcases hu3 with h6 | h6
        · exact hx (.inr h6)
        · omega⟩
    refine putF_fin h hk hB hd hf4 ?_ (row_put4 hr3 (by omega) hp) (hy.step (fun q hq => hp.block q (fun e2 => by have := hTy q hq; omega)) (by rw [hp.size]; exact Nat.le_refl _)) (fun q hq => Nat.le_trans hf.size (hTy q hq)) (fun g' hg' => ?_) (fun q hq e2 => ?_)
    · rw [hp.block b (Ne.symm hgb), hb3.block b (Nat.lt_of_lt_of_le hlt hf.size), hb]
    · have hg' : some g = some g' := hg'
      injection hg' with hg'
      subst hg'
      exact hu3.imp (fun h => h) (fun h6 => ⟨h6.1, by rw [hp.size]; exact Nat.lt_of_lt_of_le h6.2 hb3.size⟩)
    · have e2 : some g = some q := e2
      injection e2 with e2
      have := hTy q hq; omega
theorem PutH.after {W V w2 : World} {B b o d g c : Nat} {x k : It} {S : Nat → Prop} (h : PutH V B b o d x k S w2 g c) (hb : Below W.heap.size W V) (hbl : b < W.heap.size) : PutH W B b o d x k S w2 g c :=
  ⟨h.cell, h.lt, h.upd.after hb hbl, h.lies, h.place, h.frz, fun w3 w4 y Ty h1 h2 h3 h4 => by
    obtain ⟨S', v', q1, q2, q3⟩ := h.fin w3 w4 y Ty h1 h2 h3 h4
    exact ⟨S', v', q1, fun q hq => (q2 q hq).imp (fun h => h) (fun h => Nat.le_trans hb.size h), q3.after hb hbl⟩⟩
end Go.Proofs.YtpbolcjcmkmalaaGreatDoor
