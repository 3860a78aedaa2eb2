/-
  Laws that own their memory: each row in a block of its own. What a change at one place leaves alone. No walk.
-/
import Derived.Test.YtpbolcjcmkmalaaGreatDoorFo13
import Derived.Test.YtpbolcjcmkmalaaGreatDoorFo12
namespace Go.Proofs.YtpbolcjcmkmalaaGreatDoor
open Go.RowKit Go.Extern.Stop Go.Stop Go.Extern

/-- An item that owns its rows, in blocks of S. -/
inductive Own (w : World) (B : Nat) : (Nat → Value) → It → (Nat → Prop) → Prop
  | mk (v : Nat → Value) (t : It) (K : Nat → Nat → Value) (T : Nat → Nat → Prop) (S : Nat → Prop)
    (h0 : v 0 = .string t.label) (h1 : v 1 = .string t.head)
    (ln : w.ownsRow B 9 1 (v 2) t.lines.length (t.lines.map Value.string))
    (kd : w.ownsRow B 25 4 (v 3) t.kids.length (flat4 K t.kids.length))
    (sl : ∀ g, (v 2).ownBlock = some g → S g) (sk : ∀ g, (v 3).ownBlock = some g → S g)
    (hr : ∀ i k, t.kids[i]? = some k → Own w B (K i) k (T i))
    (hT : ∀ i g, i < t.kids.length → T i g → S g ∧ (v 2).ownBlock ≠ some g ∧ (v 3).ownBlock ≠ some g)
    (hd : ∀ i j g, i < t.kids.length → j < t.kids.length → T i g → T j g → i = j)
    (hS : ∀ g, S g → B ≤ g ∧ g < w.heap.size) : Own w B v t S
/-- Its parts. -/
structure OwnK (w : World) (B : Nat) (v : Nat → Value) (t : It) (S : Nat → Prop) (K : Nat → Nat → Value) (T : Nat → Nat → Prop) : Prop where
  h0 : v 0 = .string t.label
  h1 : v 1 = .string t.head
  ln : w.ownsRow B 9 1 (v 2) t.lines.length (t.lines.map Value.string)
  kd : w.ownsRow B 25 4 (v 3) t.kids.length (flat4 K t.kids.length)
  sl : ∀ g, (v 2).ownBlock = some g → S g
  sk : ∀ g, (v 3).ownBlock = some g → S g
  hr : ∀ i k, t.kids[i]? = some k → Own w B (K i) k (T i)
  hT : ∀ i g, i < t.kids.length → T i g → S g ∧ (v 2).ownBlock ≠ some g ∧ (v 3).ownBlock ≠ some g
  hd : ∀ i j g, i < t.kids.length → j < t.kids.length → T i g → T j g → i = j
  hS : ∀ g, S g → B ≤ g ∧ g < w.heap.size
theorem Own.parts {w : World} {B : Nat} {v : Nat → Value} {t : It} {S : Nat → Prop} (h : Own w B v t S) : ∃ K T, OwnK w B v t S K T := by
  cases h with
  | mk _ _ K T _ h0 h1 ln kd sl sk hr hT hd hS => exact ⟨K, T, h0, h1, ln, kd, sl, sk, hr, hT, hd, hS⟩
theorem OwnK.own {w : World} {B : Nat} {v : Nat → Value} {t : It} {S : Nat → Prop} {K : Nat → Nat → Value} {T : Nat → Nat → Prop} (h : OwnK w B v t S K T) : Own w B v t S :=
  .mk v t K T S h.h0 h.h1 h.ln h.kd h.sl h.sk h.hr h.hT h.hd h.hS
theorem Own.in {w : World} {B : Nat} {v : Nat → Value} {t : It} {S : Nat → Prop} (h : Own w B v t S) : ∀ g, S g → B ≤ g ∧ g < w.heap.size := by
  cases h with
  | mk _ _ K T _ h0 h1 ln kd sl sk hr hT hd hS => exact hS
/-- It lies there. -/
theorem Own.lies {w : World} {B : Nat} {v : Nat → Value} {t : It} {S : Nat → Prop} (h : Own w B v t S) : Lies w S v t := by
  induction h with
  | mk v t K T S h0 h1 ln kd sl sk hr hT hd hS ih =>
    obtain ⟨la, lc, el⟩ := row_any ln
    obtain ⟨ka, kc, ek⟩ := row_any kd
    refine .mk v t la ka lc kc K h0 h1 el ek (fun i s hs => ?_) (fun i hi => ?_) (fun i k e => (ih i k e).step fun b _ hp => ⟨rfl, (hT i b (List.getElem?_eq_some_iff.1 e).1 hp).1⟩) (by rw [el] at ln; exact row_cap ln) (by rw [ek] at kd; exact row_cap kd)
    · obtain ⟨hi, _⟩ := List.getElem?_eq_some_iff.1 hs
      obtain ⟨g, cap, e, hg, hb⟩ := row_form ln (by omega)
      rw [el] at e ln
      injection e with e1 e2 e3
      rw [e1] at ln
      refine ⟨g, 0, e1, sl g (by rw [el, e1]; rfl), ?_⟩
      have := ln.cellAt i (by omega)
      simpa [hs] using this
    · obtain ⟨g, cap, e, hg, hb⟩ := row_form kd (by omega)
      rw [ek] at e kd
      injection e with e1 e2 e3
      rw [e1] at kd
      refine ⟨g, 0, e1, sk g (by rw [ek, e1]; rfl), fun c hc => ?_⟩
      rw [kd.cellAt (0 + i * 4 + c) (by omega), Nat.zero_add]
      exact flat4_get K t.kids.length i c hi hc
/-- What leaves its blocks alone leaves it. -/
theorem Own.step {w w' : World} {B : Nat} {v : Nat → Value} {t : It} {S : Nat → Prop} (h : Own w B v t S) : (∀ g, S g → w'.heap[g]? = w.heap[g]?) → w.heap.size ≤ w'.heap.size → Own w' B v t S := by
  induction h with
  | mk v t K T S h0 h1 ln kd sl sk hr hT hd hS ih =>
    intro hk hs
    exact .mk v t K T S h0 h1 (row_step ln fun g hg _ => hk g (sl g hg)) (row_step kd fun g hg _ => hk g (sk g hg)) sl sk
      (fun i k e => ih i k e (fun g hg => hk g (hT i g (List.getElem?_eq_some_iff.1 e).1 hg).1) hs) hT hd (fun g hg => ⟨(hS g hg).1, by have := (hS g hg).2; omega⟩)
theorem Own.more {w : World} {B : Nat} {v : Nat → Value} {t : It} {S S' : Nat → Prop} (h : Own w B v t S) (hs : ∀ g, S g → S' g) (hb : ∀ g, S' g → B ≤ g ∧ g < w.heap.size) : Own w B v t S' := by
  obtain ⟨K, T, hk⟩ := h.parts
  exact .mk v t K T S' hk.h0 hk.h1 hk.ln hk.kd (fun g hg => hs g (hk.sl g hg)) (fun g hg => hs g (hk.sk g hg)) hk.hr (fun i g hi hg => ⟨hs g (hk.hT i g hi hg).1, (hk.hT i g hi hg).2⟩) hk.hd hb
/-- An item at a place, its rows its own. -/
structure ItAt (w : World) (B b o : Nat) (t : It) (S : Nat → Prop) (v : Nat → Value) : Prop where
  here : ∃ cur ty, w.heap[b]? = some (.cells cur ty (0, 0)) ∧ ∀ c, c < 4 → cur[o + c]? = some (v c)
  own : Own w B v t S
  out : ¬ S b
theorem ItAt.cell {w : World} {B b o : Nat} {t : It} {S : Nat → Prop} {v : Nat → Value} (h : ItAt w B b o t S v) {c : Nat} (hc : c < 4) : w.cell? ⟨b, o + c, none⟩ = some (v c) := by
  obtain ⟨cur, ty, e, hcs⟩ := h.here
  unfold World.cell?
  rw [e]
  exact hcs c hc
theorem ItAt.lt {w : World} {B b o : Nat} {t : It} {S : Nat → Prop} {v : Nat → Value} (h : ItAt w B b o t S v) : b < w.heap.size := cell_lt (h.cell (c := 0) (by omega))
theorem ItAt.frozen {w : World} {B b o : Nat} {t : It} {S : Nat → Prop} {v : Nat → Value} (h : ItAt w B b o t S v) (i : Nat) : w.frozen? ⟨b, i, none⟩ = false := by
  obtain ⟨cur, ty, e, hcs⟩ := h.here
  unfold World.frozen?
  rw [e]
  simp
/-- Only the four cells at a place, blocks of S and new ones are others. -/
structure Upd (w w' : World) (b o : Nat) (S : Nat → Prop) : Prop where
  os : w'.os = w.os
  tape : w'.tape = w.tape
  output : w'.output = w.output
  size : w.heap.size ≤ w'.heap.size
  block : ∀ k, k < w.heap.size → ¬ S k → k ≠ b → w'.heap[k]? = w.heap[k]?
  here : ∀ cur ty, w.heap[b]? = some (.cells cur ty (0, 0)) → ∃ cur', w'.heap[b]? = some (.cells cur' ty (0, 0)) ∧ cur'.size = cur.size ∧ ∀ q, (q < o ∨ o + 4 ≤ q) → cur'[q]? = cur[q]?
theorem Upd.refl (w : World) (b o : Nat) (S : Nat → Prop) : Upd w w b o S := ⟨rfl, rfl, rfl, Nat.le_refl _, fun _ _ _ _ => rfl, fun cur _ h => ⟨cur, h, rfl, fun _ _ => rfl⟩⟩
theorem Upd.below {w w' : World} {b o n : Nat} {S : Nat → Prop} (h : Upd w w' b o S) (hb : n ≤ b) (hS : ∀ g, S g → n ≤ g) (hn : n ≤ w.heap.size) : Below n w w' :=
  ⟨h.os, h.tape, h.output, h.size, fun k hk => h.block k (by omega) (fun e => by have := hS k e; omega) (by omega)⟩
/-- A law that owns its kids, one of them other. -/

def setV (K : Nat → Nat → Value) (i : Nat) (x : Nat → Value) : Nat → Nat → Value := fun j => if j = i then x else K j
/-- A kid lies in its row. -/
theorem ItAt.kid {w : World} {B b o : Nat} {t : It} {S : Nat → Prop} {v : Nat → Value} (h : ItAt w B b o t S v) {i : Nat} {k : It} (hi : t.kids[i]? = some k) :
    ∃ g cap K T, v 3 = .slice (some ⟨g, 0, none⟩) t.kids.length cap ∧ OwnK w B v t S K T ∧ ItAt w B g (i * 4) k (T i) (K i) := by
  obtain ⟨K, T, hk⟩ := h.own.parts
  have hlt := (List.getElem?_eq_some_iff.1 hi).1
  obtain ⟨g, cap, e, hg, hb⟩ := row_form hk.kd (by omega)
  refine ⟨g, cap, K, T, e, hk, ⟨?_, hk.hr i k hi, fun hT => (hk.hT i g hlt hT).2.2 (by rw [e]; rfl)⟩⟩
  rcases hk.kd.2 with ⟨e1, h0⟩ | ⟨g', cap', cur, e1, hb', hgg, h1, h2, h3, h4⟩
  · omega
  · rw [e] at e1
    injection e1 with e1 _ _
    injection e1 with e1
    injection e1 with e1 _ _
    subst e1
    refine ⟨cur, 25, hgg, fun c hc => ?_⟩
    have h5 := flat4_get K t.kids.length i c hlt hc
    rw [← h4, List.getElem?_take, if_pos (by omega)] at h5
    simpa using h5
theorem setV_get {K : Nat → Nat → Value} {n i : Nat} {x : Nat → Value} {l l' : List Value} (hl : l = flat4 K n) (hi : i < n) (hlen : l'.length = l.length) (hin : ∀ c, c < 4 → l'[i * 4 + c]? = some (x c)) (hout : ∀ q, (q < i * 4 ∨ i * 4 + 4 ≤ q) → l'[q]? = l[q]?) : l' = flat4 (setV K i x) n := by
  subst hl
  apply List.ext_getElem?
  intro q
  rcases Nat.lt_or_ge q (n * 4) with h | h
  · have e : q = q / 4 * 4 + q % 4 := by omega
    by_cases hq : q / 4 = i
    · rw [e, hq, hin (q % 4) (by omega), flat4_get _ _ _ _ hi (by omega)]
      unfold setV
      rw [if_pos rfl]
    · rw [hout q (by omega), e, flat4_get _ _ _ _ (by omega) (by omega), flat4_get _ _ _ _ (by omega) (by omega)]
      unfold setV
      rw [if_neg hq]
  · rw [List.getElem?_eq_none (by rw [hlen, flat4_len]; exact h), List.getElem?_eq_none (by rw [flat4_len]; exact h)]
/-- One kid changes: so does the item in which it lies, and nothing else. -/
theorem ItAt.up {w w' : World} {B b o : Nat} {t : It} {S : Nat → Prop} {v : Nat → Value} {g cap i : Nat} {K : Nat → Nat → Value} {T : Nat → Nat → Prop} (h : ItAt w B b o t S v) (hv : v 3 = .slice (some ⟨g, 0, none⟩) t.kids.length cap) (hk : OwnK w B v t S K T) (hi : i < t.kids.length) (hBw : B ≤ w.heap.size)
    (hu : Upd w w' g (i * 4) (T i)) {k' : It} {T' : Nat → Prop} {x : Nat → Value} (hk' : ItAt w' B g (i * 4) k' T' x) (hT' : ∀ q, T' q → T i q ∨ w.heap.size ≤ q) :
    ItAt w' B b o (t.setKid i k') (fun q => S q ∨ (w.heap.size ≤ q ∧ q < w'.heap.size)) v ∧ Upd w w' b o S := by
  have hgS : S g := hk.sk g (by rw [hv]; rfl)
  have hbg : b ≠ g := fun e => h.out (e ▸ hgS)
  have hsame : ∀ q, q < w.heap.size → q ≠ g → ¬ T i q → w'.heap[q]? = w.heap[q]? := fun q h1 h2 h3 => hu.block q h1 h3 h2
  have hnb : ¬ T i b := fun e => h.out (hk.hT i b hi e).1
  have hbb : w'.heap[b]? = w.heap[b]? := hsame b h.lt hbg hnb
  refine ⟨⟨?_, ?_, ?_⟩, ⟨hu.os, hu.tape, hu.output, hu.size, fun q hq hn hne => hsame q hq (fun e => hn (e ▸ hgS)) (fun e => hn (hk.hT i q hi e).1), fun cur ty e => ⟨cur, by rw [hbb]; exact e, rfl, fun _ _ => rfl⟩⟩⟩
  · obtain ⟨cur, ty, e, hc⟩ := h.here
    exact ⟨cur, ty, by rw [hbb]; exact e, hc⟩
  · have hlen : (t.setKid i k').kids.length = t.kids.length := by unfold It.setKid; show (t.kids.set i k').length = _; simp
    obtain ⟨cur0, ty0, e0, hc0⟩ := hk'.here
    have hkd : w'.ownsRow B 25 4 (v 3) t.kids.length (flat4 (setV K i x) t.kids.length) := by
      refine ⟨flat4_len _ _, ?_⟩
      rcases hk.kd.2 with ⟨e1, h0⟩ | ⟨g', cap', cur, e1, hb', hgg, h1, h2, h3, h4⟩
      · omega
      · rw [hv] at e1
        injection e1 with e1 _ e2
        injection e1 with e1
        injection e1 with e1 _ _
        subst e1 e2
        obtain ⟨cur', e5, e6, e7⟩ := hu.here cur _ hgg
        refine .inr ⟨g, cap, cur', hv, hb', e5, h1, h2, by omega, ?_⟩
        rw [e5] at e0
        injection e0 with e0
        injection e0 with e0 _ _
        subst e0
        refine setV_get (K := K) (l := cur.toList.take (t.kids.length * 4)) h4 hi (by simp [e6]) (fun c hc => ?_) (fun q hq => ?_)
        · rw [List.getElem?_take, if_pos (by omega)]
          simpa using hc0 c hc
        · rw [List.getElem?_take, List.getElem?_take]
          split
          · simpa using e7 q hq
          · rfl
    have hne2 : (v 2).ownBlock ≠ some g := by
      intro e
      rcases hk.ln.2 with ⟨e1, _⟩ | ⟨g', cap', cur, e1, _, hgg, _⟩
      · rw [e1] at e; cases e
      · rw [e1] at e
        injection e with e
        have e : g' = g := e
        subst e
        rcases hk.kd.2 with ⟨e1, h0⟩ | ⟨g2, cap2, cur2, e2, _, hg2, _⟩
        · omega
        · rw [hv] at e2
          injection e2 with e2 _ _
          injection e2 with e2
          injection e2 with e2 _ _
          subst e2
          rw [hgg] at hg2
          injection hg2 with hg2
          injection hg2 with _ hg2 _
          exact absurd hg2 (by decide)
    refine .mk v _ (setV K i x) (fun j => if j = i then T' else T j) _ hk.h0 hk.h1 (row_step hk.ln fun q hq hl => hsame q hl (fun e => hne2 (e ▸ hq)) (fun e => (hk.hT i q hi e).2.1 hq)) (by rw [hlen]; exact hkd) (fun q hq => .inl (hk.sl q hq)) (fun q hq => .inl (hk.sk q hq)) (fun j k e => ?_) (fun j q hj hq => ?_) (fun j j' q hj hj' hq hq' => ?_) (fun q hq => ?_)
    · have e : (t.kids.set i k')[j]? = some k := e
      by_cases hji : j = i
      · subst hji
        rw [List.getElem?_set_self hi] at e
        injection e with e
        subst e
        show Own w' B (setV K j x j) k' (if j = j then T' else T j)
        unfold setV
        rw [if_pos rfl, if_pos rfl]
        exact hk'.own
      · rw [List.getElem?_set_ne (fun e => hji e.symm)] at e
        have hjl := (List.getElem?_eq_some_iff.1 e).1
        show Own w' B (setV K i x j) k (if j = i then T' else T j)
        unfold setV
        rw [if_neg hji, if_neg hji]
        refine (hk.hr j k e).step (fun q hq => ?_) hu.size
        have h9 := hk.hT j q hjl hq
        exact hsame q (hk.hS q h9.1).2 (fun e => h9.2.2 (by rw [hv, e]; rfl)) (fun e => hji (hk.hd j i q hjl hi hq e))
    · rw [hlen] at hj
      have hq : (if j = i then T' else T j) q := hq
      split at hq
      · rename_i hji
        have h8 := hk'.own.in q hq
        rcases hT' q hq with h9 | h9
        · have h9 := hk.hT i q hi h9
          exact ⟨.inl h9.1, h9.2⟩
        · refine ⟨.inr ⟨h9, h8.2⟩, fun e => ?_, fun e => ?_⟩
          · have := (hk.ln.lt q e).2; omega
          · have := (hk.kd.lt q e).2; omega
      · have h9 := hk.hT j q hj hq
        exact ⟨.inl h9.1, h9.2⟩
    · rw [hlen] at hj hj'
      have hq : (if j = i then T' else T j) q := hq
      have hq' : (if j' = i then T' else T j') q := hq'
      split at hq <;> split at hq'
      · omega
      · rename_i h1 h2
        rcases hT' q hq with h9 | h9
        · exact absurd (hk.hd i j' q hi hj' h9 hq').symm h2
        · have := (hk.hS q (hk.hT j' q hj' hq').1).2; omega
      · rename_i h1 h2
        rcases hT' q hq' with h9 | h9
        · exact absurd (hk.hd i j q hi hj h9 hq).symm h1
        · have := (hk.hS q (hk.hT j q hj hq).1).2; omega
      · exact hk.hd j j' q hj hj' hq hq'
    · rcases hq with hq | hq
      · have := hk.hS q hq; have := hu.size; exact ⟨by omega, by omega⟩
      · exact ⟨by omega, hq.2⟩
  · rintro (hq | hq)
    · exact h.out hq
    · have := h.lt; omega
/-- The same of what only lies there. -/
def LiesAt4 (w : World) (b o : Nat) (t : It) : Prop := ∃ v : Nat → Value, (∀ c, c < 4 → w.cell? ⟨b, o + c, none⟩ = some (v c)) ∧ Lies w (fun _ => True) v t
theorem ItAt.upL {w w' : World} {B b o : Nat} {t : It} {S : Nat → Prop} {v : Nat → Value} {g cap i : Nat} {K : Nat → Nat → Value} {T : Nat → Nat → Prop} (h : ItAt w B b o t S v) (hv : v 3 = .slice (some ⟨g, 0, none⟩) t.kids.length cap) (hk : OwnK w B v t S K T) (hi : i < t.kids.length)
    (hu : Upd w w' g (i * 4) (T i)) {k' : It} (hk' : LiesAt4 w' g (i * 4) k') : LiesAt4 w' b o (t.setKid i k') := by
  have hgS : S g := hk.sk g (by rw [hv]; rfl)
  have hbg : b ≠ g := fun e => h.out (e ▸ hgS)
  have hsame : ∀ q, q < w.heap.size → q ≠ g → ¬ T i q → w'.heap[q]? = w.heap[q]? := fun q h1 h2 h3 => hu.block q h1 h3 h2
  have hnb : ¬ T i b := fun e => h.out (hk.hT i b hi e).1
  have hbb : w'.heap[b]? = w.heap[b]? := hsame b h.lt hbg hnb
  have hlen : (t.setKid i k').kids.length = t.kids.length := by unfold It.setKid; show (t.kids.set i k').length = _; simp
  obtain ⟨x, hx, hxl⟩ := hk'
  have hne2 : (v 2).ownBlock ≠ some g := by
    intro e
    rcases hk.ln.2 with ⟨e1, _⟩ | ⟨g', cap', cur, e1, _, hgg, _⟩
    · rw [e1] at e; cases e
    · rw [e1] at e
      injection e with e
      have e : g' = g := e
      subst e
      rcases hk.kd.2 with ⟨e1, h0⟩ | ⟨g2, cap2, cur2, e2, _, hg2, _⟩
      · omega
      · rw [hv] at e2
        injection e2 with e2 _ _
        injection e2 with e2
        injection e2 with e2 _ _
        subst e2
        rw [hgg] at hg2
        injection hg2 with hg2
        injection hg2 with _ hg2 _
        exact absurd hg2 (by decide)
  have hL := h.own.lies
  obtain ⟨la, lc, el⟩ := row_any hk.ln
  have hcell : ∀ j c, j < t.kids.length → c < 4 → j ≠ i → w'.cell? ⟨g, j * 4 + c, none⟩ = some (K j c) := by
    intro j c hj hc hji
    rcases hk.kd.2 with ⟨e1, h0⟩ | ⟨g', cap', cur, e1, hb', hgg, h1, h2, h3, h4⟩
    · omega
    · rw [hv] at e1
      injection e1 with e1 _ e2
      injection e1 with e1
      injection e1 with e1 _ _
      subst e1 e2
      obtain ⟨cur', e5, e6, e7⟩ := hu.here cur _ hgg
      unfold World.cell?
      rw [e5]
      show cur'[j * 4 + c]? = _
      rw [e7 _ (by omega)]
      have h5 := flat4_get K t.kids.length j c hj hc
      rw [← h4, List.getElem?_take, if_pos (by omega)] at h5
      simpa using h5
  refine ⟨v, fun c hc => ?_, .mk v _ la (some ⟨g, 0, none⟩) lc cap (setV K i x) hk.h0 hk.h1 el (by rw [hlen]; exact hv) (fun j s hs => ?_) (fun j hj => ?_) (fun j k e => ?_) (by have := hk.ln; rw [el] at this; exact row_cap this) (by have := hk.kd; rw [hv] at this; rw [hlen]; exact row_cap this)⟩
  · exact (World.cell?_of_block (a := ⟨b, o + c, none⟩) hbb).trans (h.cell hc)
  · obtain ⟨hj, _⟩ := List.getElem?_eq_some_iff.1 hs
    have hs : t.lines[j]? = some s := hs
    obtain ⟨_, hl⟩ := hL.linesIn el
    obtain ⟨q, r, e1, e2, e3⟩ := hl j s hs
    refine ⟨q, r, e1, trivial, ?_⟩
    refine (World.cell?_of_block (a := ⟨q, r + j, none⟩) (hsame q (cell_lt e3) (fun e => hne2 (by rw [el, e1, e]; rfl)) (fun e => (hk.hT i q hi e).2.1 (by rw [el, e1]; rfl)))).trans e3
  · rw [hlen] at hj
    refine ⟨g, 0, rfl, trivial, fun c hc => ?_⟩
    unfold setV
    rw [Nat.zero_add]
    split
    · rename_i hji
      subst hji
      exact hx c hc
    · rename_i hji
      exact hcell j c hj hc hji
  · have e : (t.kids.set i k')[j]? = some k := e
    unfold setV
    by_cases hji : j = i
    · subst hji
      rw [List.getElem?_set_self hi] at e
      injection e with e
      subst e
      rw [if_pos rfl]
      exact hxl
    · rw [List.getElem?_set_ne (fun e => hji e.symm)] at e
      have hjl := (List.getElem?_eq_some_iff.1 e).1
      rw [if_neg hji]
      refine (hk.hr j k e).lies.step fun q hq hp => ⟨?_, trivial⟩
      have h9 := hk.hT j q hjl hp
      exact hsame q hq (fun e => h9.2.2 (by rw [hv, e]; rfl)) (fun e => hji (hk.hd j i q hjl hi hp e))
end Go.Proofs.YtpbolcjcmkmalaaGreatDoor
namespace Go.Proofs.YtpbolcjcmkmalaaGreatDoor
open Go.RowKit Go.Extern.Stop Go.Stop Go.Extern

/-- One kid changes, gives blocks away (Xr), takes others (A): so does the item in which it lies, and nothing else. -/
theorem ItAt.upG {w w' : World} {B b o : Nat} {t : It} {S : Nat → Prop} {v : Nat → Value} {g cap i : Nat} {K : Nat → Nat → Value} {T : Nat → Nat → Prop} (h : ItAt w B b o t S v) (hv : v 3 = .slice (some ⟨g, 0, none⟩) t.kids.length cap) (hk : OwnK w B v t S K T) (hi : i < t.kids.length)
    (hu : Upd w w' g (i * 4) (T i)) {k' : It} {T' : Nat → Prop} {x : Nat → Value} (hk' : ItAt w' B g (i * 4) k' T' x) {Xr A : Nat → Prop} (hX : ∀ q, Xr q → T i q) (hA : ∀ q, A q → ¬ S q) (hAb : ¬ A b) (hT' : ∀ q, T' q → (T i q ∧ ¬ Xr q) ∨ A q) :
    ItAt w' B b o (t.setKid i k') (fun q => (S q ∧ ¬ Xr q) ∨ (A q ∧ T' q)) v ∧ Upd w w' b o S := by
  have hgS : S g := hk.sk g (by rw [hv]; rfl)
  have hbg : b ≠ g := fun e => h.out (e ▸ hgS)
  have hsame : ∀ q, q < w.heap.size → q ≠ g → ¬ T i q → w'.heap[q]? = w.heap[q]? := fun q h1 h2 h3 => hu.block q h1 h3 h2
  have hnb : ¬ T i b := fun e => h.out (hk.hT i b hi e).1
  have hbb : w'.heap[b]? = w.heap[b]? := hsame b h.lt hbg hnb
  refine ⟨⟨?_, ?_, ?_⟩, ⟨hu.os, hu.tape, hu.output, hu.size, fun q hq hn hne => hsame q hq (fun e => hn (e ▸ hgS)) (fun e => hn (hk.hT i q hi e).1), fun cur ty e => ⟨cur, by rw [hbb]; exact e, rfl, fun _ _ => rfl⟩⟩⟩
  · obtain ⟨cur, ty, e, hc⟩ := h.here
    exact ⟨cur, ty, by rw [hbb]; exact e, hc⟩
  · have hlen : (t.setKid i k').kids.length = t.kids.length := by unfold It.setKid; show (t.kids.set i k').length = _; simp
    obtain ⟨cur0, ty0, e0, hc0⟩ := hk'.here
    have hkd : w'.ownsRow B 25 4 (v 3) t.kids.length (flat4 (setV K i x) t.kids.length) := by
      refine ⟨flat4_len _ _, ?_⟩
      rcases hk.kd.2 with ⟨e1, h0⟩ | ⟨g', cap', cur, e1, hb', hgg, h1, h2, h3, h4⟩
      · omega
      · rw [hv] at e1
        injection e1 with e1 _ e2
        injection e1 with e1
        injection e1 with e1 _ _
        subst e1 e2
        obtain ⟨cur', e5, e6, e7⟩ := hu.here cur _ hgg
        refine .inr ⟨g, cap, cur', hv, hb', e5, h1, h2, by omega, ?_⟩
        rw [e5] at e0
        injection e0 with e0
        injection e0 with e0 _ _
        subst e0
        refine setV_get (K := K) (l := cur.toList.take (t.kids.length * 4)) h4 hi (by simp [e6]) (fun c hc => ?_) (fun q hq => ?_)
        · rw [List.getElem?_take, if_pos (by omega)]
          simpa using hc0 c hc
        · rw [List.getElem?_take, List.getElem?_take]
          split
          · simpa using e7 q hq
          · rfl
    have hne2 : (v 2).ownBlock ≠ some g := by
      intro e
      rcases hk.ln.2 with ⟨e1, _⟩ | ⟨g', cap', cur, e1, _, hgg, _⟩
      · rw [e1] at e; cases e
      · rw [e1] at e
        injection e with e
        have e : g' = g := e
        subst e
        rcases hk.kd.2 with ⟨e1, h0⟩ | ⟨g2, cap2, cur2, e2, _, hg2, _⟩
        · omega
        · rw [hv] at e2
          injection e2 with e2 _ _
          injection e2 with e2
          injection e2 with e2 _ _
          subst e2
          rw [hgg] at hg2
          injection hg2 with hg2
          injection hg2 with _ hg2 _
          exact absurd hg2 (by decide)
    refine .mk v _ (setV K i x) (fun j => if j = i then T' else T j) _ hk.h0 hk.h1 (row_step hk.ln fun q hq hl => hsame q hl (fun e => hne2 (e ▸ hq)) (fun e => (hk.hT i q hi e).2.1 hq)) (by rw [hlen]; exact hkd) (fun q hq => .inl ⟨hk.sl q hq, fun e => (hk.hT i q hi (hX q e)).2.1 hq⟩) (fun q hq => .inl ⟨hk.sk q hq, fun e => (hk.hT i q hi (hX q e)).2.2 hq⟩) (fun j k e => ?_) (fun j q hj hq => ?_) (fun j j' q hj hj' hq hq' => ?_) (fun q hq => ?_)
    · have e : (t.kids.set i k')[j]? = some k := e
      by_cases hji : j = i
      · subst hji
        rw [List.getElem?_set_self hi] at e
        injection e with e
        subst e
        show Own w' B (setV K j x j) k' (if j = j then T' else T j)
        unfold setV
        rw [if_pos rfl, if_pos rfl]
        exact hk'.own
      · rw [List.getElem?_set_ne (fun e => hji e.symm)] at e
        have hjl := (List.getElem?_eq_some_iff.1 e).1
        show Own w' B (setV K i x j) k (if j = i then T' else T j)
        unfold setV
        rw [if_neg hji, if_neg hji]
        refine (hk.hr j k e).step (fun q hq => ?_) hu.size
        have h9 := hk.hT j q hjl hq
        exact hsame q (hk.hS q h9.1).2 (fun e => h9.2.2 (by rw [hv, e]; rfl)) (fun e => hji (hk.hd j i q hjl hi hq e))
    · rw [hlen] at hj
      have hq : (if j = i then T' else T j) q := hq
      split at hq
      · rcases hT' q hq with h9 | h9
        · have h8 := hk.hT i q hi h9.1
          exact ⟨.inl ⟨h8.1, h9.2⟩, h8.2⟩
        · exact ⟨.inr ⟨h9, hq⟩, fun e => hA q h9 (hk.sl q e), fun e => hA q h9 (hk.sk q e)⟩
      · rename_i hji
        have h9 := hk.hT j q hj hq
        exact ⟨.inl ⟨h9.1, fun e => hji (hk.hd j i q hj hi hq (hX q e))⟩, h9.2⟩
    · rw [hlen] at hj hj'
      have hq : (if j = i then T' else T j) q := hq
      have hq' : (if j' = i then T' else T j') q := hq'
      split at hq <;> split at hq'
      · omega
      · rename_i h1 h2
        rcases hT' q hq with h9 | h9
        · exact absurd (hk.hd i j' q hi hj' h9.1 hq').symm h2
        · exact absurd (hk.hT j' q hj' hq').1 (hA q h9)
      · rename_i h1 h2
        rcases hT' q hq' with h9 | h9
        · exact absurd (hk.hd i j q hi hj h9.1 hq).symm h1
        · exact absurd (hk.hT j q hj hq).1 (hA q h9)
      · exact hk.hd j j' q hj hj' hq hq'
    · rcases hq with hq | hq
      · have := hk.hS q hq.1; have := hu.size; exact ⟨by omega, by omega⟩
      · exact hk'.own.in q hq.2
  · rintro (hq | hq)
    · exact h.out hq.1
    · exact hAb hq.1
/-- The numbers that a path is of, and the place to which they lead. -/
def ixs : It → List ByteArray → List Nat
  | _, [] => []
  | t, s :: r => match kidIx t.kids s with
    | none => []
    | some i => i :: ixs (t.kids[i]?.getD It.none) r
def plc (w : World) : Nat → Nat → List Nat → Option (Nat × Nat)
  | b, o, [] => some (b, o)
  | b, o, i :: r => match (w.cell? ⟨b, o + 3, none⟩).bind Value.ownBlock with
    | none => none
    | some g => plc w g (i * 4) r
theorem ixs_cons {t k : It} {s : ByteArray} {r : List ByteArray} {i : Nat} (hi : kidIx t.kids s = some i) (hk : t.kids[i]? = some k) : ixs t (s :: r) = i :: ixs k r := by
  rw [ixs, hi]
  show i :: ixs (t.kids[i]?.getD It.none) r = _
  rw [hk]
  rfl
theorem plc_cons {w : World} {b o g i : Nat} {r : List Nat} {v : Value} (h : w.cell? ⟨b, o + 3, none⟩ = some v) (hg : v.ownBlock = some g) : plc w b o (i :: r) = plc w g (i * 4) r := by
  rw [plc, h]
  show (match v.ownBlock with | none => none | some g => plc w g (i * 4) r) = _
  rw [hg]
theorem ixs_snoc : ∀ (p : List ByteArray) (t x : It) (s : ByteArray) (i : Nat), findW t p = some x → kidIx x.kids s = some i → ixs t (p ++ [s]) = ixs t p ++ [i]
  | [], t, x, s, i, h, hi => by
    rw [findW] at h
    injection h with h
    subst h
    rw [List.nil_append]
    show ixs t (s :: []) = ixs t [] ++ [i]
    rw [ixs.eq_2, hi]
    rfl
  | q :: r, t, x, s, i, h, hi => by
    rw [findW] at h
    split at h
    · cases h
    · rename_i j hj
      split at h
      · cases h
      · rename_i y hy
        rw [List.cons_append, ixs_cons hj hy, ixs_cons hj hy, ixs_snoc r y x s i h hi]
        rfl
theorem plc_snoc {w : World} {i g : Nat} : ∀ (l : List Nat) (b o b' o' : Nat) (v : Value), plc w b o l = some (b', o') → w.cell? ⟨b', o' + 3, none⟩ = some v → v.ownBlock = some g → plc w b o (l ++ [i]) = some (g, i * 4)
  | [], b, o, b', o', v, h, hc, hg => by
    rw [plc] at h
    injection h with h
    injection h with h1 h2
    subst h1 h2
    rw [List.nil_append, plc_cons hc hg, plc]
  | j :: r, b, o, b', o', v, h, hc, hg => by
    rw [plc] at h
    rw [List.cons_append, plc]
    split at h
    · cases h
    · rename_i g' hg'
      exact plc_snoc r g' (j * 4) b' o' v h hc hg
theorem plc_on {w w' : World} (hb : Below w.heap.size w w') : ∀ (l : List Nat) (b o : Nat) (a : Nat × Nat), plc w b o l = some a → plc w' b o l = some a
  | [], b, o, a, h => by rw [plc] at h ⊢; exact h
  | j :: r, b, o, a, h => by
    rw [plc] at h ⊢
    split at h
    · cases h
    · rename_i g hg
      cases hc : w.cell? ⟨b, o + 3, none⟩ with
      | none => rw [hc] at hg; cases hg
      | some u =>
        rw [(hb.cell (p := ⟨b, o + 3, none⟩) (cell_lt hc)).trans hc, ← hc, hg]
        exact plc_on hb r g (j * 4) a h
/-- What stands at a path, and how a change of it becomes one of the law. -/
structure Foc (w : World) (B b o : Nat) (t : It) (S : Nat → Prop) (p : List ByteArray) (b' o' : Nat) (x : It) (S' : Nat → Prop) (v' : Nat → Value) : Prop where
  fnd : findW t p = some x
  at' : ItAt w B b' o' x S' v'
  sub : ∀ q, S' q → S q
  root : p = [] → b' = b ∧ o' = o
  inn : p ≠ [] → S b'
  back : ∀ (w' : World) (y : It) (S'' : Nat → Prop) (v'' : Nat → Value) (Xr A : Nat → Prop), Upd w w' b' o' S' → ItAt w' B b' o' y S'' v'' → (∀ q, Xr q → S' q) → (∀ q, A q → ¬ S q) → ¬ A b → (∀ q, S'' q → (S' q ∧ ¬ Xr q) ∨ A q) → ∃ S3 v3, ItAt w' B b o (setW (fun _ => y) p t) S3 v3 ∧ (∀ q, S3 q → (S q ∧ ¬ Xr q) ∨ A q) ∧ Upd w w' b o S
  backL : ∀ (w' : World) (y : It), Upd w w' b' o' S' → LiesAt4 w' b' o' y → LiesAt4 w' b o (setW (fun _ => y) p t) ∧ Upd w w' b o S
  pl : plc w b o (ixs t p) = some (b', o')
theorem Foc.nil {w : World} {B b o : Nat} {t : It} {S : Nat → Prop} {v : Nat → Value} (h : ItAt w B b o t S v) : Foc w B b o t S [] b o t S v :=
  ⟨by rw [findW], h, fun _ h => h, fun _ => ⟨rfl, rfl⟩, fun h => absurd rfl h, fun w' y S'' v'' Xr A hu hy _ _ _ hS => ⟨S'', v'', by rw [setW]; exact hy, hS, hu⟩, fun w' y hu hy => ⟨by rw [setW]; exact hy, hu⟩, rfl⟩
/-- One step further in. -/
theorem Foc.kid {w : World} {B b o : Nat} {t : It} {S : Nat → Prop} {p : List ByteArray} {b' o' : Nat} {x : It} {S' : Nat → Prop} {v' : Nat → Value} (h : Foc w B b o t S p b' o' x S' v') {s : ByteArray} {i : Nat} {k : It} (hi : kidIx x.kids s = some i) (hk : x.kids[i]? = some k) :
    ∃ g cap T V, v' 3 = .slice (some ⟨g, 0, none⟩) x.kids.length cap ∧ Foc w B b o t S (p ++ [s]) g (i * 4) k T V := by
  obtain ⟨g, cap, K, T, e, ho, hat⟩ := h.at'.kid hk
  have hlt := (List.getElem?_eq_some_iff.1 hk).1
  have hsub : ∀ q, T i q → S' q := fun q hq => (ho.hT i q hlt hq).1
  have hset : ∀ y, setW (fun _ => x.setKid i y) p t = setW (fun _ => y) (p ++ [s]) t := fun y => (setW_snoc p t x k s i y h.fnd hi hk).symm
  refine ⟨g, cap, T i, K i, e, ⟨?_, hat, fun q hq => h.sub q (hsub q hq), fun e => by simp at e, fun _ => h.sub g (ho.sk g (by rw [e]; rfl)), fun w' y S'' v'' Xr A hu hy hX hA hAb hS => ?_, fun w' y hu hy => ?_, by rw [ixs_snoc p t x s i h.fnd hi]; exact plc_snoc _ b o b' o' _ h.pl (h.at'.cell (c := 3) (by omega)) (by rw [e]; rfl)⟩⟩
  · rw [findW_snoc p t x s h.fnd, findW_cons hi hk, findW]
  · have hAb' : ¬ A b' := fun e => by
      by_cases hp : p = []
      · rw [(h.root hp).1] at e; exact hAb e
      · exact hA b' e (h.inn hp)
    obtain ⟨h1, h2⟩ := h.at'.upG e ho hlt hu hy hX (fun q hq hs => hA q hq (h.sub q hs)) hAb' hS
    obtain ⟨S3, v3, h3, h4, h5⟩ := h.back w' _ _ v' Xr A h2 h1 (fun q hq => hsub q (hX q hq)) hA hAb (fun q hq => hq.imp (fun hq => hq) (fun hq => hq.1))
    rw [hset] at h3
    exact ⟨S3, v3, h3, h4, h5⟩
  · have h1 := h.at'.upL e ho hlt hu hy
    have h2 : Upd w w' b' o' S' := by
      have hgS : S' g := ho.sk g (by rw [e]; rfl)
      refine ⟨hu.os, hu.tape, hu.output, hu.size, fun q hq hn hne => hu.block q hq (fun hh => hn (hsub q hh)) (fun e => hn (e ▸ hgS)), fun cur ty ec => ?_⟩
      have hbg : b' ≠ g := fun e => h.at'.out (e ▸ hgS)
      have hbb : w'.heap[b']? = w.heap[b']? := hu.block b' h.at'.lt (fun hh => h.at'.out (hsub _ hh)) hbg
      exact ⟨cur, by rw [hbb]; exact ec, rfl, fun _ _ => rfl⟩
    obtain ⟨h3, h4⟩ := h.backL w' _ h2 h1
    rw [hset] at h3
    exact ⟨h3, h4⟩
end Go.Proofs.YtpbolcjcmkmalaaGreatDoor
namespace Go.Proofs.YtpbolcjcmkmalaaGreatDoor
open Go.RowKit Go.Extern.Stop Go.Stop Go.Extern

/-- A number, or -1. -/
def ixI : Option Nat → Int
  | none => -1
  | some i => i
theorem amLab1_any (a h s : ByteArray) (la ka : Option Addr) (n lc m kc : Nat) (bs : Nat) (w : World) (hs : w.cell? ⟨bs, 0, none⟩ = some (.string s)) :
    Calls Tryz.prog 109 #[.agg #[.string a, .string h, .slice la n lc, .slice ka m kc], .pointer (some ⟨bs, 0, none⟩)] w fun e w' => e = .returned (.bool (a.toList == s.toList)) ∧ w' = w.alloc (.cells #[.string a, .string h, .slice la n lc, .slice ka m kc] 25) := by
  have hl := World.block_lt_of_cell? w ⟨bs, 0, none⟩ hs
  have hs2 : (w.alloc (.cells #[.string a, .string h, .slice la n lc, .slice ka m kc] 25)).cell? ⟨bs, 0, none⟩ = some (.string s) := by
    rw [World.cell?_alloc_lt _ _ ⟨bs, 0, none⟩ hl]; exact hs
  go_enter Tryz.func109, Tryz.ntmps109
  go_wp2
  go_ret
  exact ⟨rfl, rfl⟩
set_option maxHeartbeats 1000000 in
theorem amIdx_any (n : Nat) (ka : Option Addr) (kc : Nat) (L : Nat → ByteArray) (H : Nat → ByteArray) (la ma : Nat → Option Addr) (ln lc mn mc : Nat → Nat) (s : ByteArray) (bs : Nat) (w : World) (hn : n ≤ 100000) (hs : w.cell? ⟨bs, 0, none⟩ = some (.string s))
    (hk : ∀ i, i < n → ∃ b o, ka = some ⟨b, o, none⟩ ∧ w.cell? ⟨b, o + i * 4, none⟩ = some (.string (L i)) ∧ w.cell? ⟨b, o + i * 4 + 1, none⟩ = some (.string (H i)) ∧ w.cell? ⟨b, o + i * 4 + 2, none⟩ = some (.slice (la i) (ln i) (lc i)) ∧ w.cell? ⟨b, o + i * 4 + 3, none⟩ = some (.slice (ma i) (mn i) (mc i))) :
    Calls Tryz.prog 108 #[.slice ka n kc, .func (.func 109) #[] #[.pointer (some ⟨bs, 0, none⟩)]] w fun e w' => (∃ r : Option Nat, e = .returned (.int .i64 (ixI r)) ∧ (r = none → ∀ j, j < n → ((L j).toList == s.toList) = false) ∧ ∀ i, r = some i → i < n ∧ ((L i).toList == s.toList) = true ∧ ∀ j, j < i → ((L j).toList == s.toList) = false) ∧ Below w.heap.size w w' := by
  have hl := World.block_lt_of_cell? w ⟨bs, 0, none⟩ hs
  go_enter Tryz.func108, Tryz.ntmps108
  go_wp2_with fail
  go_loopw [8] (fun t wr => ∃ i : Nat, i ≤ n ∧ t = .int .i64 i ∧ Below w.heap.size w wr ∧ ∀ j, j < i → ((L j).toList == s.toList) = false) (fun t _ => (n - RowKit.intOf t).toNat)
  case atStart => exact ⟨0, by omega, rfl, Below.refl _ _, fun j hj => by omega⟩
  case round =>
    obtain ⟨i, hi, rfl, hb, hno⟩ := hrel
    have HB := hidLL hb
    have HN := hidLL hno
    clear hb hno
    by_cases hin : i < n
    · obtain ⟨b, o, rfl, c0, c1, c2, c3⟩ := hk i hin
      have hiz : (i : Int) < n := by omega
      have hbl := World.block_lt_of_cell? w ⟨b, o + i * 4, none⟩ c0
      have d0 := (HB.out.cell (p := ⟨b, o + i * 4, none⟩) hbl).trans c0
      have d1 := (HB.out.cell (p := ⟨b, o + i * 4 + 1, none⟩) hbl).trans c1
      have d2 := (HB.out.cell (p := ⟨b, o + i * 4 + 2, none⟩) hbl).trans c2
      have d3 := (HB.out.cell (p := ⟨b, o + i * 4 + 3, none⟩) hbl).trans c3
      have HC := hidLL (amLab1_any (L i) (H i) s (la i) (ma i) (ln i) (lc i) (mn i) (mc i) bs wr ((HB.out.cell (p := ⟨bs, 0, none⟩) hl).trans hs))
      have HK := hidLL hk
      clear c0 c1 c2 c3 hk
      cases hq : ((L i).toList == s.toList)
      · rw [hq] at HC
        have HQ := hidLL hq
        clear hq
        go_wp2_with fail
        refine HC.out.mono ?_
        rintro e w1 ⟨rfl, ew⟩
        go_wp2
        go_roundw
        case rel =>
          refine ⟨i + 1, by omega, by go_num, ?_, fun j hj => ?_⟩
          · first | exact HB.out.alloc HB.out.size _ | (rw [ew]; exact HB.out.alloc HB.out.size _)
          · rcases Nat.lt_or_ge j i with h | h
            · exact HN.out j h
            · obtain rfl : j = i := by omega
              exact HQ.out
        case measure => simp [RowKit.intOf]; omega
      · rw [hq] at HC
        have HQ := hidLL hq
        clear hq
        go_wp2_with fail
        refine HC.out.mono ?_
        rintro e w1 ⟨rfl, ew⟩
        go_wp2
        go_ret
        refine ⟨⟨some i, rfl, (fun h => by cases h), (fun j hj => by injection hj with hj; subst hj; exact ⟨hin, HQ.out, HN.out⟩)⟩, ?_⟩
        first | exact HB.out.alloc HB.out.size _ | (rw [ew]; exact HB.out.alloc HB.out.size _)
    · obtain rfl : i = n := by omega
      clear hk
      go_wp2
      go_ret
      exact ⟨⟨none, rfl, (fun _ => HN.out), (fun j hj => by cases hj)⟩, HB.out⟩
theorem kid_none_or {kids : List It} {s : ByteArray} {r : Option Nat} (h1 : r = none → ∀ (j : Nat) y, kids[j]? = some y → isL s y = false) (h2 : ∀ i, r = some i → ∃ x, kids[i]? = some x ∧ isL s x = true ∧ ∀ j y, j < i → kids[j]? = some y → isL s y = false) : r = kidIx kids s := by
  cases r with
  | none => exact (kidIx_none (h1 rfl)).symm
  | some i =>
    obtain ⟨x, h3, h4, h5⟩ := h2 i rfl
    exact (kidIx_of h3 h4 h5).symm
set_option maxHeartbeats 1000000 in
theorem amLab_lies {w : World} {P : Nat → Prop} {v : Nat → Value} {t : It} (h : Lies w P v t) {ka : Option Addr} {n kc : Nat} (e : v 3 = .slice ka n kc) (hn : n ≤ 100000) (s : ByteArray) :
    Calls Tryz.prog 69 #[.slice ka n kc, .string s] w fun e w' => e = .returned (.int .i64 (ixI (kidIx t.kids s))) ∧ Below w.heap.size w w' := by
  obtain ⟨rfl, V, hk, hr⟩ := h.kidsAt e
  have hb : Below w.heap.size w (w.alloc (.cells #[.string s] 9)) := (Below.refl _ _).alloc (Nat.le_refl _) _
  have hcells := kids_cells hk hr
  have HC := hidLL (amIdx_any t.kids.length ka kc _ _ _ _ _ _ _ _ s w.heap.size (w.alloc (.cells #[.string s] 9)) hn (by simp) (fun i hi => by
    obtain ⟨b, o, e, c0, c1, c2, c3⟩ := hcells i hi
    have hbl := World.block_lt_of_cell? w ⟨b, o + i * 4, none⟩ c0
    exact ⟨b, o, e, (hb.cell (p := ⟨b, o + i * 4, none⟩) hbl).trans c0, (hb.cell (p := ⟨b, o + i * 4 + 1, none⟩) hbl).trans c1, (hb.cell (p := ⟨b, o + i * 4 + 2, none⟩) hbl).trans c2, (hb.cell (p := ⟨b, o + i * 4 + 3, none⟩) hbl).trans c3⟩))
  have HR : Hid (∀ r : Option Nat, (r = none → ∀ j, j < t.kids.length → ((strOf (V j 0)).toList == s.toList) = false) → (∀ i, r = some i → i < t.kids.length ∧ ((strOf (V i 0)).toList == s.toList) = true ∧ ∀ j, j < i → ((strOf (V j 0)).toList == s.toList) = false) → r = kidIx t.kids s) := fun r h1 h2 => by
    have hl : ∀ (j : Nat) y, t.kids[j]? = some y → isL s y = ((strOf (V j 0)).toList == s.toList) := fun j y hy => by
      rw [(hr j y hy).forms.1]; rfl
    refine kid_none_or (fun hn j y hy => ?_) (fun i hi => ?_)
    · rw [hl j y hy]; exact h1 hn j (List.getElem?_eq_some_iff.1 hy).1
    · obtain ⟨h3, h4, h5⟩ := h2 i hi
      refine ⟨t.kids[i], List.getElem?_eq_getElem h3, ?_, fun j y hj hy => ?_⟩
      · rw [hl i _ (List.getElem?_eq_getElem h3)]; exact h4
      · rw [hl j y hy]; exact h5 j hj
  have HBb := hidLL hb
  clear hk hr hcells h e hb
  generalize kidIx t.kids s = r0 at *
  go_enter Tryz.func69, Tryz.ntmps69
  go_wp2_with fail
  refine HC.out.mono ?_
  rintro e w1 ⟨⟨r, rfl, hk1, hk2⟩, hb1⟩
  have hr := HR.out r hk1 hk2
  subst hr
  have H1 := hidLL hb1
  clear hk1 hk2 hb1
  go_wp2
  go_ret
  exact ⟨rfl, HBb.out.trans (H1.out.mono (by simp))⟩
theorem size_empty {s : ByteArray} : s.toList.isEmpty = decide (s.size = 0) := by
  rw [Lib.toList_data, Bool.eq_iff_iff, List.isEmpty_iff, decide_eq_true_eq]
  show s.data.toList = [] ↔ s.data.size = 0
  rw [← Array.length_toList, List.length_eq_zero_iff]
theorem behIx_empty {l : List It} {s : ByteArray} (h : s.toList.isEmpty = true) : behIx l s = some 0 := by
  rw [size_empty, decide_eq_true_eq] at h
  unfold behIx
  rw [if_pos h]
theorem behIx_not {l : List It} {s : ByteArray} (h : s.toList.isEmpty = false) : behIx l s = (kidIx l s).map (· + 1) := by
  rw [size_empty, decide_eq_false_iff_not] at h
  unfold behIx
  rw [if_neg h]
set_option maxHeartbeats 1000000 in
theorem behind_lies {w : World} {P : Nat → Prop} {v : Nat → Value} {t : It} (h : Lies w P v t) {ka : Option Addr} {n kc : Nat} (e : v 3 = .slice ka n kc) (hn : n ≤ 100000) (s : ByteArray) :
    Calls Tryz.prog 76 #[.slice ka n kc, .string s] w fun e w' => e = .returned (.int .i64 (ixI (behIx t.kids s))) ∧ Below w.heap.size w w' := by
  have HC := hidLL (amLab_lies h e hn s)
  have hlt : ∀ i, kidIx t.kids s = some i → i < 100000 := fun i hi => by
    obtain ⟨x, hx, _⟩ := kidIx_some hi
    have := (List.getElem?_eq_some_iff.1 hx).1
    have := (h.kidsAt e).1
    omega
  cases hs : s.toList.isEmpty
  · have HB := hidLL (behIx_not (l := t.kids) hs)
    generalize behIx t.kids s = r0 at *
    generalize kidIx t.kids s = r1 at *
    clear h e
    go_enter Tryz.func76, Tryz.ntmps76
    go_wp2_with fail
    refine HC.out.mono ?_
    rintro e w1 ⟨rfl, hb1⟩
    have H1 := hidLL hb1
    clear hb1
    cases r1 with
    | none =>
      unfold ixI
      go_wp2
      go_ret
      exact ⟨by rw [HB.out]; rfl, H1.out⟩
    | some i =>
      have hi := hlt i rfl
      have hi0 : ¬ ((i : Int) < 0) := by omega
      have hw : IntKind.i64.wrap ((i : Int) + 1) = (i : Int) + 1 := by rw [IntKind.wrap_i64]; omega
      clear hlt
      unfold ixI
      go_wp2
      go_ret
      exact ⟨by rw [HB.out]; rfl, H1.out⟩
  · have HB := hidLL (behIx_empty (l := t.kids) hs)
    generalize behIx t.kids s = r0 at *
    clear h e HC hlt
    go_enter Tryz.func76, Tryz.ntmps76
    go_wp2
    go_ret
    exact ⟨by rw [HB.out]; rfl, Below.refl _ _⟩
end Go.Proofs.YtpbolcjcmkmalaaGreatDoor
