/-
  LedgerKeeps, walked: the law as far as its first loop.
-/
import Derived.Test.YtdeccdmplmclmaaGreatDoorLkL1
import Derived.Sort.Walk0
import Derived.Laws.Cover1
namespace Go.Proofs.YtdeccdmplmclmaaGreatDoor
open Go.RowKit Go.Extern.Stop Go.Stop Go.Extern

/-- Both ledgers hold the same entries. -/
structure Both (w wr : World) (gb rb : Nat) (M : List En) : Prop where
  good : Good M
  text : ∀ x, x ∈ M → x.text.size ≤ 1000
  led : ∃ v mv, LG wr gb w.heap.size v mv M
  ref : ∃ v, RG wr rb w.heap.size w.heap.size v M
  bel : Below w.heap.size w wr
theorem Both.below {w wr wq : World} {gb rb : Nat} {M : List En} (h : Both w wr gb rb M) (hb : Below wr.heap.size wr wq) : Both w wq gb rb M := by
  obtain ⟨v, mv, h1⟩ := h.led
  obtain ⟨u, h2⟩ := h.ref
  exact ⟨h.good, h.text, ⟨v, mv, h1.below hb⟩, ⟨u, h2.below hb⟩, h.bel.trans (hb.mono h.bel.size)⟩
theorem RG.pfr {w w' : World} {rb B A : Nat} {v : Value} {L : List En} (h : RG w rb B A v L) (hf : PFr B w w') : RG w' rb B A v L :=
  h.on (hf.ty rb _ ⟨_, _, h.blk⟩ (by decide) (by decide)) (fun k hk => hf.ty k _ (h.row.ty hk).2 (by decide) (by decide)) (fun k hk => hf.low k (by have := h.ab; omega))
theorem LG.rfr {w w' : World} {gb B : Nat} {v mv : Value} {L : List En} (h : LG w gb B v mv L) (hf : RFr B w w') : LG w' gb B v mv L :=
  h.on (hf.ty gb _ ⟨_, _, h.blk⟩ (by decide) (by decide)) (fun k hk => hf.ty k _ (h.row.ty hk).2 (by decide) (by decide)) (fun k hk => hf.ty k _ hk (by decide) (by decide)) hf.map
theorem RFr.below {B : Nat} {w w' : World} (h : RFr B w w') : Below B w w' := ⟨h.os, h.tape, h.output, h.size, h.low⟩
set_option maxRecDepth 20000 in
theorem both_new (w : World) : Both w ((w.alloc (.cells #[.slice none 0 0, .map none] 53)).alloc (.cells #[.slice none 0 0] 27)) w.heap.size (w.heap.size + 1) [] := by
  have hb := bel1 (w.alloc (.cells #[.slice none 0 0, .map none] 53)) (.cells #[.slice none 0 0] 27)
  have h2 : ((w.alloc (.cells #[.slice none 0 0, .map none] 53)).alloc (.cells #[.slice none 0 0] 27)).heap[w.heap.size + 1]? = some (.cells #[.slice none 0 0] 27 (0, 0)) := by
    have := Go.Deep.blk_alloc_new (w.alloc (.cells #[.slice none 0 0, .map none] 53)) (.cells #[.slice none 0 0] 27)
    simpa using this
  exact ⟨.nil, (fun x hx => by cases hx), ⟨_, _, (LG.new w).below hb⟩, ⟨_, ⟨h2, by omega, ERow.nil _ _ _ _, Nat.le_refl _⟩⟩, (bel1 w _).trans (hb.mono (by simp))⟩
/-- One entry more, or a fault that both tell. -/
theorem coded_both {p : Nat → Addr} {w w2 w3 w4 : World} {gb rb : Nat} {M : List En} {x : En} {e1 e2 : Ending} (hS : Laid w p) (hM : Good M) (ht : ∀ x, x ∈ M → x.text.size ≤ 1000) (hx : x.text.size ≤ 1000) (hb : Below w.heap.size w w2)
    (hLG : ∃ v mv, LG w2 gb w.heap.size v mv M) (hRG : ∃ v, RG w2 rb w.heap.size w.heap.size v M) (h1 : PostR w2 gb w.heap.size p M x e1 w3) (h2 : RPR w3 rb w.heap.size w.heap.size M x e2 w4) :
    ∃ v1 z, e1 = .returned v1 ∧ e2 = .returned (.int .i64 z) ∧ (∃ M', Both w w4 gb rb M') ∧ Calls Tryz.prog 7 #[v1, .int .i64 z] w4 (fun e w' => e = .returned (.bool true) ∧ Below w4.heap.size w4 w') := by
  obtain ⟨v, mv, hG⟩ := hLG
  obtain ⟨u, hR⟩ := hRG
  unfold PostR at h1
  unfold RPR at h2
  cases hk : postK M x with
  | some k =>
    rw [hk] at h1 h2
    obtain ⟨rfl, hb1⟩ := h1
    obtain ⟨rfl, hb2⟩ := h2
    have hb3 := hb1.trans (hb2.mono hb1.size)
    have hb4 := hb.trans (hb3.mono hb.size)
    refine ⟨_, _, rfl, rfl, ⟨M, hM, ht, ⟨v, mv, hG.below hb3⟩, ⟨u, hR.below hb3⟩, hb4⟩, (coded_sent k (postK_lt hk) _ p _ (hS.below hb4)).mono ?_⟩
    rintro e w' ⟨rfl, h⟩
    exact ⟨by simp, h⟩
  | none =>
    rw [hk] at h1 h2
    obtain ⟨rfl, ⟨v2, mv2, hG2⟩, hf1⟩ := h1
    obtain ⟨rfl, ⟨u2, hR2⟩, hf2⟩ := h2
    have hb4 := (hb.trans hf1.below).trans hf2.below
    refine ⟨_, _, rfl, rfl, ⟨M ++ [x], .snoc hM (postK_none hk), fun y hy => ?_, ⟨v2, mv2, hG2.rfr hf2⟩, ⟨u2, hR2⟩, hb4⟩, (coded_nil 0 _).mono ?_⟩
    · rcases List.mem_append.1 hy with h | h
      · exact ht y h
      · obtain rfl : y = x := by simpa using h
        exact hx
    · rintro e w' ⟨rfl, rfl⟩
      exact ⟨rfl, Below.refl _ _⟩
theorem PostR.ret {w w' : World} {gb B : Nat} {p : Nat → Addr} {L : List En} {x : En} {e : Ending} (h : PostR w gb B p L x e w') : ∃ v, e = .returned v := by
  unfold PostR at h
  cases hk : postK L x with
  | some k => rw [hk] at h; exact ⟨_, h.1⟩
  | none => rw [hk] at h; exact ⟨_, h.1⟩
theorem names_one {L : List En} : ∀ {N N' : List ByteArray}, NamesOf N L → NamesOf N' L → N = N' := fun {N N'} h h' => by
  have hn : ∀ {K : List ByteArray}, NamesOf K L → K.Nodup := fun hk => hk.up.imp fun {a b} hab e => by
    subst e
    exact List.lt_irrefl _ hab
  have hp : N.Perm N' := (List.perm_ext_iff_of_nodup (hn h) (hn h')).2 fun a => (h.mem a).trans (h'.mem a).symm
  refine hp.eq_of_pairwise (le := fun a b : ByteArray => a.data.toList < b.data.toList) (fun a b _ _ h1 h2 => ?_) h.up h'.up
  exact absurd (List.lt_trans h1 h2) (List.lt_irrefl _)
theorem NamesOf.nodup {L : List En} {K : List ByteArray} (hk : NamesOf K L) : K.Nodup := hk.up.imp fun {a b} hab e => by
    subst e
    exact List.lt_irrefl _ hab
theorem names_sum {L : List En} {N : List ByteArray} (hL : Good L) (h : NamesOf N L) (on : Int) : sumN (fun a => balOn a on L) N = 0 := by
  unfold balOn
  refine sumN_all h.nodup fun e he => ?_
  have he' := (List.mem_filter.1 he).1
  refine ⟨(hL.each e he').2.2.2.1, fun x hx => (h.mem _).2 (hasL_iff.2 ⟨e, he', x, hx, rfl⟩)⟩
theorem up_at {L : List En} {N : List ByteArray} (h : NamesOf N L) {m k : Nat} {x y : ByteArray} (hm : N[m]? = some x) (hk : N[k]? = some y) (hlt : m < k) : Op.bytesLess y.toList x.toList = false ∧ (y.toList == x.toList) = false := by
  obtain ⟨h1, rfl⟩ := List.getElem?_eq_some_iff.1 hm
  obtain ⟨h2, rfl⟩ := List.getElem?_eq_some_iff.1 hk
  have h3 := List.pairwise_iff_getElem.1 h.up m k h1 h2 hlt
  rw [Lib.toList_data, Lib.toList_data, bytesLess_eq]
  refine ⟨?_, ?_⟩
  · simp only [decide_eq_false_iff_not]
    exact fun q => List.lt_irrefl _ (List.lt_trans h3 q)
  · simp only [beq_eq_false_iff_ne, ne_eq]
    intro q
    rw [q] at h3
    exact List.lt_irrefl _ h3
theorem sumN_snoc (f : ByteArray → Int) (N : List ByteArray) (a : ByteArray) : sumN f (N ++ [a]) = sumN f N + f a := by
  rw [sumN_app]
  simp [sumN]
/-- The reference's ledger, while the program posts. -/
theorem ref_post {p : Nat → Addr} {w2 w3 : World} {gb rb B : Nat} {M : List En} {x : En} {e1 : Ending} (hR : ∃ v, RG w2 rb B B v M) (h1 : PostR w2 gb B p M x e1 w3) : (∃ v, RG w3 rb B B v M) ∧ Below B w2 w3 := by
  obtain ⟨u, hR⟩ := hR
  have hB : B ≤ w2.heap.size := by have := hR.lt; have := hR.ge; omega
  unfold PostR at h1
  cases hk : postK M x with
  | some k =>
    rw [hk] at h1
    exact ⟨⟨u, hR.below h1.2⟩, h1.2.mono hB⟩
  | none =>
    rw [hk] at h1
    exact ⟨⟨u, hR.pfr h1.2.2⟩, h1.2.2.below⟩
end Go.Proofs.YtdeccdmplmclmaaGreatDoor
