/-
  A look goes on.
-/
import Derived.Test.YtcfeflkhmncmjaaGreatDoorGoA
import Derived.Test.YtcfeflkhmncmjaaGreatDoorFhGo2
namespace Go.Proofs.YtcfeflkhmncmjaaGreatDoor
open Go.RowKit

/-- The row of what is open is written. -/
theorem LK.heard {w0 w1 w w' : World} {bl bx bm bv bvm bf : Nat} {L : List Fct} {on known : Int} {v : Value} {m : Met} {fs gs : List Fr} (h : LK w0 w1 w bl bx bm bv bvm bf L on known v m fs (fun _ => False)) (f : FrX (fun k => v.ownBlock = some k) w w') (hr : NRow frN 129 (fun k => w1.heap.size ≤ k ∧ ¬ False) w' w1.heap.size v gs) : LK w0 w1 w' bl bx bm bv bvm bf L on known v m gs (fun _ => False) := by
  have hs := h.sz
  have hl := h.ltl
  have hm' := h.ltm
  have hx := h.ltx
  have hown : ∀ k, v.ownBlock = some k → w1.heap.size ≤ k := fun k hk => (h.row.lt hk).1
  have hb1 : ∀ k, k < w1.heap.size → w'.heap[k]? = w.heap[k]? := fun k hk => f.block k (by omega) (fun e => by have := hown k e; omega)
  obtain ⟨c0, c1, c2, c3, hbl⟩ := h.blk
  refine ⟨⟨f.os.trans h.fr.os, f.tape.trans h.fr.tape, f.output.trans h.fr.output, Nat.le_trans h.fr.size f.size, fun k hk hn => (hb1 k hk).trans (h.fr.block k hk hn)⟩, ⟨c0, c1, c2, c3, (hb1 bl hl).trans hbl⟩, h.lb.on (hb1 bl hl) (hb1 bx hx), (World.cell?_of_block (a := ⟨bl, 2, none⟩) (hb1 bl hl)).trans h.l2, (World.cell?_of_block (a := ⟨bl, 3, none⟩) (hb1 bl hl)).trans h.l3, h.vw.step f (fun k e => ?_) (fun _ e => .inl e), h.met.on (hb1 bm hm') (fun k x e => ?_), hr, h.qlo, fun _ e => e.elim, h.qn, h.lol, h.lom, h.ltl, h.ltm, h.ltx, h.n1, h.n2, h.n3, h.n4, h.n5, h.n6, h.n7, h.n8, h.key⟩
  · have h1 := hown k e
    have h2 := h.vw.ltv
    have h3 := h.vw.ltm
    have h4 := h.lol
    exact ⟨by omega, by omega, by omega, .inr (.inl e)⟩
  · have hk := h.key k x e
    exact (h.plain hk.1 hk.2.1 hk.2.2.1 hk.2.2.2.1 hk.2.2.2.2).on (hb1 _ hk.2.1)
theorem valB_le {x : Int} (h : valB x = true) : -1000000000000 ≤ x ∧ x ≤ 1000000000000 := by
  unfold valB at h
  simpa using h
/-- The last question hears an answer. -/
theorem LK.hear {w0 w1 w : World} {bl bx bm bv bvm bf : Nat} {L : List Fct} {on known : Int} {v : Value} {m : Met} {fs : List Fr} {q : Fr} {p : Nat → Addr} {g N cap : Nat} (h : LK w0 w1 w bl bx bm bv bvm bf L on known v m (fs ++ [q]) (fun _ => False)) (hL : Laid w0 p) (hq : FOk (NdAt w1 (SN w1 bl bm bvm)) q) (hv : v = .slice (some ⟨g, 0, none⟩) N cap) {z : Int} (hz : valB z = true) :
    Calls Tryz.prog 70 #[.pointer (some ⟨g, 6 * fs.length, none⟩), .int .i64 z, .int .i64 4] w (BegR w0 w1 bl bx bm bv bvm bf L on known p (match hearP q.t.kd q.t.num q.heard q.val z with
          | .err c => .err c
          | .ok v' => .ok ⟨{ q with heard := q.heard + 1, val := v' } :: fs.reverse, m⟩)) := by
  obtain ⟨g', cap', cur, s, hv', hgB, hgl, hQA, hof, hsz, hcl⟩ := h.top
  obtain rfl : g = g' := by
    rw [hv] at hv'
    injection hv' with h1
    injection h1 with h1
    injection h1
  have hvg : ∀ k, k = g → v.ownBlock = some k := fun k e => by rw [hv, e]; rfl
  have hle := hq.len
  have hhr := hq.hrd
  have hbel := h.vw.bel
  have hlow : ∀ w', FrX (· = g) w w' → Below w0.heap.size w0 w' := fun w' f => by
    have h1 := h.vw.lov
    have h2 := h.vw.ltv
    exact hbel.trans (f.below (fun k hk e => by have e : k = g := e; omega) hbel.size)
  have h4 := hear_p hQA (h.node hq.nd) (fun k hk e => by have := hk.1; omega) z (valB_le hq.val) (valB_le hz) (p := p) (fun w' f => hL.on0 (hlow w' f)) (by omega)
  refine h4.mono ?_
  intro e w' hr
  have hkd : q.t.kd = kdOf q.t.kind := rfl
  rw [hkd]
  unfold HearIs at hr
  cases hh : hearP (kdOf q.t.kind) q.t.num q.heard q.val z with
  | err c =>
    rw [hh] at hr
    exact ⟨hr.1, hlow w' hr.2⟩
  | ok x' =>
    rw [hh] at hr
    obtain ⟨he, hk⟩ := hr
    obtain ⟨cs', hqa, hcs, hoth⟩ := hk.qa
    have h5 := hcl w' cs' { q with heard := q.heard + 1, val := x' } hk.fr rfl (by simpa using hqa) hcs hoth
    refine ⟨he, v, ?_⟩
    have h6 := h.heard (hk.fr.mono hvg) h5
    simpa using h6
end Go.Proofs.YtcfeflkhmncmjaaGreatDoor
namespace Go.Proofs.YtcfeflkhmncmjaaGreatDoor
open Go.RowKit

theorem goOn_p {w0 w1 w : World} {bl bx bm bv bvm bf : Nat} {L : List Fct} {on known : Int} {v : Value} {s : St} {p : Nat → Addr} (h : LK w0 w1 w bl bx bm bv bvm bf L on known v s.met s.opn.reverse (fun _ => False)) (hL : Laid w0 p) (hs : StOk (NdAt w1 (SN w1 bl bm bvm)) s) (hne : s.opn ≠ []) (hl : s.opn.length ≤ 1000) :
    Calls Tryz.prog 54 #[.pointer (some ⟨bl, 0, none⟩)] w (BegR w0 w1 bl bx bm bv bvm bf L on known p (goP (envOf L on known) (kaW w1) s)) := by
  obtain ⟨opn, m⟩ := s
  cases opn with
  | nil => exact absurd rfl hne
  | cons q rest =>
    have hq : FOk (NdAt w1 (SN w1 bl bm bvm)) q := hs.opn q List.mem_cons_self
    have hrev : (q :: rest).reverse = rest.reverse ++ [q] := List.reverse_cons
    have hfl : rest.reverse.length < 1000 := by
      have : (q :: rest).length ≤ 1000 := hl
      simp at this ⊢
      omega
    have h : LK w0 w1 w bl bx bm bv bvm bf L on known v m (rest.reverse ++ [q]) (fun _ => False) := by rw [← hrev]; exact h
    unfold goP
    simp only
    cases hy : q.of[q.heard]? with
    | none =>
      have h1 := List.getElem?_eq_none_iff.1 hy
      have h2 := hq.hrd
      exact goOn_pop h hq (Nat.le_of_lt hfl) (by omega)
    | some o =>
      have hlt : q.heard < q.of.length := (List.getElem?_eq_some_iff.1 hy).1
      have hk : 0 < q.t.kids.length := hq.kd.elim (fun e => by rw [e] at hlt; simp at hlt) id
      obtain ⟨i, hi⟩ : ∃ i, i = min q.heard (q.t.kids.length - 1) := ⟨_, rfl⟩
      rw [← hi]
      have hil : i < q.t.kids.length := by omega
      have hu : q.t.kids[i]? = some q.t.kids[i] := List.getElem?_eq_getElem hil
      rw [hu]
      simp only
      have hkid := (nds w1 (SN w1 bl bm bvm)).kid hq.nd hu
      refine goOn_ask h hL hq hfl hy hi hu (ans := m (kaW w1 q.a i, o, q.sum || q.t.kd.isOrd)) rfl ?_ ?_ ?_
      · intro e w' h'
        rw [e]
        have h5 := begin_p h' hL hkid o (q.sum || q.t.kd.isOrd) (by simp at hfl ⊢; omega)
        rw [List.reverse_append, List.reverse_reverse] at h5
        exact h5
      · intro z e w' h'
        rw [e]
        exact ⟨rfl, h'.vw.bel⟩
      · intro z e w' g N cap hv h'
        rw [e]
        have h5 := h'.hear hL hq hv (hs.met _ _ e)
        rw [List.reverse_reverse] at h5
        exact h5
end Go.Proofs.YtcfeflkhmncmjaaGreatDoor
