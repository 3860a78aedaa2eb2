/-
  A move, plain: once the provision is taken away, the place to which it goes is found again.
-/
import Derived.Test.YtpbolcjcmkmalaaGreatDoorFo17
import Derived.Test.YtpbolcjcmkmalaaGreatDoorFo18
namespace Go.Proofs.YtpbolcjcmkmalaaGreatDoor
open Go.RowKit Go.Extern.Stop Go.Stop Go.Extern

theorem beh_some {l : List It} {s : ByteArray} : behIx l s ≠ none ↔ s.size = 0 ∨ s ∈ labs l := by
  unfold behIx
  by_cases h : s.size = 0
  · rw [if_pos h]
    exact ⟨fun _ => .inl h, fun _ e => by cases e⟩
  · rw [if_neg h, ← ix_some]
    cases kidIx l s with
    | none => exact ⟨fun e => absurd rfl e, fun e => e.elim (fun e => absurd e h) (fun e => by cases e)⟩
    | some i => exact ⟨fun _ => .inr rfl, fun _ e => by cases e⟩
theorem less_law {t x k : It} {p0 : List ByteArray} {i : Nat} (h : Law t) (h1 : findW t p0 = some x) (h3 : x.kids[i]? = some k) : Law (lessW t x i p0) :=
  law_set h h1 (rgt_erase (find_rgt p0 0 t x h.1 h1) i) rfl (by
    rw [cntIt_eq, cntIt_eq x]
    have := cntKs_erase x.kids i k h3
    show cntKs (x.kids.eraseIdx i) ≤ _
    omega)
theorem find_app : ∀ (r q : List ByteArray) (t x : It), findW t r = some x → findW t (r ++ q) = findW x q
  | [], q, t, x, h => by rw [findW] at h; injection h with h; rw [h]; rfl
  | a :: r, q, t, x, h => by
    obtain ⟨i, y, hi, hy, h⟩ := find_step h
    rw [List.cons_append, findW_cons hi hy, find_app r q y x h]
/-- The views from elsewhere are as they were. -/
theorem less_view {t x k : It} {p0 q : List ByteArray} {l : ByteArray} {i : Nat} (h : Ds t) (h1 : findW t p0 = some x) (h3 : x.kids[i]? = some k) (h4 : k.label = l) (hn : ¬ (p0 ++ [l]) <+: q) (hq : q ≠ p0) (c : Pt) : X (lessW t x i p0) q c = X t q c := by
  unfold lessW
  by_cases hp : p0 <+: q
  · obtain ⟨r, rfl⟩ := hp
    cases r with
    | nil => exact absurd (List.append_nil p0) hq
    | cons s r =>
      have hs : s ≠ k.label := fun e => hn ⟨r, by rw [e, h4]; simp⟩
      rw [find_in p0 (s :: r) t x (x.setKids (x.kids.eraseIdx i)) h1 rfl, X_cons]
      show (kidOf (x.kids.eraseIdx i) s).bind _ = _
      rw [kidOf_erase (Ds.find h h1).is.1 h3, if_neg hs, ← X_cons]
      unfold X
      rw [find_app p0 (s :: r) t x h1]
  · exact find_out p0 q t x (x.setKids (x.kids.eraseIdx i)) h1 rfl hp c
theorem move_goes {t x k y : It} {p0 q : List ByteArray} {l a : ByteArray} {i : Nat} (h : Ds t) (h1 : findW t p0 = some x) (h3 : x.kids[i]? = some k) (h4 : k.label = l) (hn : ¬ (p0 ++ [l]) <+: q) (hy : findW t q = some y) (hb : behIx y.kids a ≠ none) (hs : ¬ (p0 = q ∧ a = l)) : ∃ (z : It) (j : Nat), findW (lessW t x i p0) q = some z ∧ behIx z.kids a = some j ∧ j ≤ z.kids.length := by
  have hle : ∀ (z : It) (j : Nat), behIx z.kids a = some j → j ≤ z.kids.length := fun z j e => by
    rw [behIx_beh] at e
    have := behB_le e
    unfold labs at this
    rwa [List.length_map] at this
  by_cases hq : q = p0
  · subst hq
    rw [hy] at h1
    injection h1 with h1
    subst h1
    have hz : behIx (y.setKids (y.kids.eraseIdx i)).kids a ≠ none := by
      rw [beh_some] at hb ⊢
      refine hb.imp (fun e => e) (fun e => ?_)
      have h9 := kidOf_erase (Ds.find h hy).is.1 h3 a
      rw [if_neg (fun e => hs ⟨rfl, e.trans h4⟩)] at h9
      by_cases hc : a ∈ labs (y.kids.eraseIdx i)
      · exact hc
      · rw [kidOf_none.2 hc] at h9
        exact absurd e (kidOf_none.1 h9.symm)
    cases hj : behIx (y.setKids (y.kids.eraseIdx i)).kids a with
    | none => exact absurd hj hz
    | some j => exact ⟨_, j, findW_at hy rfl, hj, hle _ j hj⟩
  · have hv := less_view (i := i) h h1 h3 h4 hn hq .k
    rw [X_some hy] at hv
    cases hf : findW (lessW t x i p0) q with
    | none => unfold X at hv; rw [hf] at hv; cases hv
    | some z =>
      rw [X_some hf] at hv
      injection hv with hv
      have hv : labs z.kids = labs y.kids := hv
      rw [behIx_beh, ← hv, ← behIx_beh] at hb
      cases hj : behIx z.kids a with
      | none => exact absurd hj hb
      | some j => exact ⟨z, j, rfl, hj, hle z j hj⟩
end Go.Proofs.YtpbolcjcmkmalaaGreatDoor
namespace Go.Proofs.YtpbolcjcmkmalaaGreatDoor
open Go.RowKit Go.Extern.Stop Go.Stop Go.Extern

theorem isL_eq {s s' : ByteArray} {x : It} (h : isL s x = true) (h' : isL s' x = true) : s = s' := by
  unfold isL at h h'
  rw [beq_iff_eq] at h h'
  have e := h.symm.trans h'
  rw [Lib.toList_data, Lib.toList_data, Array.toList_inj] at e
  exact ByteArray.ext e
theorem plc_in {w : World} {B : Nat} : ∀ (p : List ByteArray) (b o : Nat) (t : It) (S : Nat → Prop) (v : Nat → Value) (x : It) (b' o' : Nat), ItAt w B b o t S v → findW t p = some x → p ≠ [] → plc w b o (ixs t p) = some (b', o') → S b'
  | [], b, o, t, S, v, x, b', o', h, hf, hp, hpl => absurd rfl hp
  | s :: r, b, o, t, S, v, x, b', o', h, hf, hp, hpl => by
    obtain ⟨i, k, hi, hk, hf⟩ := find_step hf
    obtain ⟨g, cap, K, T, e, ho, hat⟩ := h.kid hk
    rw [ixs_cons hi hk, plc_cons (h.cell (c := 3) (by omega)) (by rw [e]; rfl)] at hpl
    by_cases hr : r = []
    · subst hr
      rw [ixs, plc] at hpl
      injection hpl with hpl
      injection hpl with h1 _
      exact h1 ▸ ho.sk g (by rw [e]; rfl)
    · exact (ho.hT i b' (List.getElem?_eq_some_iff.1 hk).1 (plc_in r g (i * 4) k (T i) (K i) x b' o' hat hf hr hpl)).1
theorem plc_inj {w : World} {B : Nat} : ∀ (p q : List ByteArray) (b o : Nat) (t : It) (S : Nat → Prop) (v : Nat → Value) (x y : It) (b' o' : Nat), ItAt w B b o t S v → findW t p = some x → findW t q = some y → plc w b o (ixs t p) = some (b', o') → plc w b o (ixs t q) = some (b', o') → p = q
  | [], [], _, _, _, _, _, _, _, _, _, _, _, _, _, _ => rfl
  | [], s :: r, b, o, t, S, v, x, y, b', o', h, hf, hg, hp, hq => by
    rw [ixs, plc] at hp
    injection hp with hp
    injection hp with h1 _
    exact absurd (plc_in (s :: r) b o t S v y b' o' h hg (by simp) hq) (h1 ▸ h.out)
  | s :: r, [], b, o, t, S, v, x, y, b', o', h, hf, hg, hp, hq => by
    rw [ixs, plc] at hq
    injection hq with hq
    injection hq with h1 _
    exact absurd (plc_in (s :: r) b o t S v x b' o' h hf (by simp) hp) (h1 ▸ h.out)
  | s :: r, s' :: r', b, o, t, S, v, x, y, b', o', h, hf, hg, hp, hq => by
    obtain ⟨i, k, hi, hk, hf⟩ := find_step hf
    obtain ⟨j, k', hj, hk', hg⟩ := find_step hg
    obtain ⟨g, cap, K, T, e, ho, hat⟩ := h.kid hk
    have hjl := (List.getElem?_eq_some_iff.1 hk').1
    have hil := (List.getElem?_eq_some_iff.1 hk).1
    have hat' : ItAt w B g (j * 4) k' (T j) (K j) := by
      obtain ⟨g2, cap2, K2, T2, e2, ho2, hat2⟩ := h.kid hk'
      obtain ⟨cur, ty, eb, _⟩ := hat.here
      refine ⟨?_, ho.hr j k' hk', fun hT => (ho.hT j g hjl hT).2.2 (by rw [e]; rfl)⟩
      rcases ho.kd.2 with ⟨e1, h0⟩ | ⟨g', cap', cur', e1, hb', hgg, h1, h2, h3, h4⟩
      · omega
      · rw [e] at e1
        injection e1 with e1 _ _
        injection e1 with e1
        injection e1 with e1 _ _
        subst e1
        refine ⟨cur', _, hgg, fun c hc => ?_⟩
        have h5 := flat4_get K t.kids.length j c hjl hc
        rw [← h4, List.getElem?_take] at h5
        split at h5
        · simpa using h5
        · cases h5
    rw [ixs_cons hi hk, plc_cons (h.cell (c := 3) (by omega)) (by rw [e]; rfl)] at hp
    rw [ixs_cons hj hk', plc_cons (h.cell (c := 3) (by omega)) (by rw [e]; rfl)] at hq
    by_cases hij : i = j
    · subst hij
      rw [hk] at hk'
      injection hk' with hk'
      subst hk'
      obtain ⟨x1, e1, l1, _⟩ := kidIx_some hi
      obtain ⟨x2, e2, l2, _⟩ := kidIx_some hj
      rw [e1] at e2
      injection e2 with e2
      subst e2
      rw [isL_eq l1 l2, plc_inj r r' g (i * 4) k (T i) (K i) x y b' o' hat hf hg hp hq]
    · exfalso
      by_cases hr : r = []
      · subst hr
        rw [ixs, plc] at hp
        injection hp with hp
        injection hp with h1 h2
        by_cases hr' : r' = []
        · subst hr'
          rw [ixs, plc] at hq
          injection hq with hq
          injection hq with _ h4
          omega
        · have h5 := plc_in r' g (j * 4) k' (T j) (K j) y b' o' hat' hg hr' hq
          exact (ho.hT j b' hjl h5).2.2 (by rw [e, ← h1]; rfl)
      · have h5 := plc_in r g (i * 4) k (T i) (K i) x b' o' hat hf hr hp
        by_cases hr' : r' = []
        · subst hr'
          rw [ixs, plc] at hq
          injection hq with hq
          injection hq with h3 _
          exact (ho.hT i b' hil h5).2.2 (by rw [e, ← h3]; rfl)
        · have h6 := plc_in r' g (j * 4) k' (T j) (K j) y b' o' hat' hg hr' hq
          exact hij (ho.hd i j b' hil hjl h5 h6)
/-- Whether two places are one. -/
theorem Foc.same {w : World} {B b o : Nat} {t : It} {S : Nat → Prop} {v : Nat → Value} (h : ItAt w B b o t S v) {p q : List ByteArray} {b1 o1 b2 o2 : Nat} {x y : It} {S1 S2 : Nat → Prop} {v1 v2 : Nat → Value} (h1 : Foc w B b o t S p b1 o1 x S1 v1) (h2 : Foc w B b o t S q b2 o2 y S2 v2) : (b1 = b2 ∧ o1 = o2) ↔ p = q := by
  constructor
  · rintro ⟨rfl, rfl⟩
    exact plc_inj p q b o t S v x y b1 o1 h h1.fnd h2.fnd h1.pl h2.pl
  · rintro rfl
    have e := h1.pl.symm.trans h2.pl
    injection e with e
    injection e with e1 e2
    exact ⟨e1, e2⟩
end Go.Proofs.YtpbolcjcmkmalaaGreatDoor
namespace Go.Proofs.YtpbolcjcmkmalaaGreatDoor
open Go.RowKit Go.Extern.Stop Go.Stop Go.Extern

/-- Labels in memory that is new. -/
structure StrsN (n : Nat) (w : World) (a : Option Addr) (ps : List ByteArray) : Prop where
  at' : StrsAt w a ps
  new : ∀ g o, a = some ⟨g, o, none⟩ → n ≤ g
theorem StrsN.on {n : Nat} {w w' : World} {a : Option Addr} {ps : List ByteArray} (h : StrsN n w a ps) (hb : Below w.heap.size w w') : StrsN n w' a ps := ⟨h.at'.on hb, h.new⟩
theorem StrsN.upd {n b o : Nat} {w w' : World} {a : Option Addr} {ps : List ByteArray} {S : Nat → Prop} (h : StrsN n w a ps) (hu : Upd w w' b o S) (hb : b < n) (hS : ∀ q, S q → q < n) : StrsN n w' a ps := by
  refine ⟨fun i s hs => ?_, h.new⟩
  obtain ⟨g, o', e, hc⟩ := h.at' i s hs
  have hg := h.new g o' e
  exact ⟨g, o', e, (World.cell?_of_block (a := ⟨g, o' + i, none⟩) (hu.block g (cell_lt hc) (fun e => by have := hS g e; omega) (by omega))).trans hc⟩
set_option maxHeartbeats 1000000 in
theorem labelsOf_b (s : ByteArray) (hs : s.size ≤ 1000000) (m : Int) (n : Nat) (w : World) (hnw : n ≤ w.heap.size) (hm : w.cell? ⟨12, 0, none⟩ = some (.int .i64 m)) :
    Calls Tryz.prog 30 #[.string s] w fun e w' => (∃ a c, e = .returned (.slice a (partsB s).length c) ∧ StrsN n w' a (partsB s) ∧ (partsB s).length ≤ c) ∧ Below w.heap.size w w' := by
  have hE : s.toList.isEmpty = decide (s.size = 0) := size_empty
  by_cases h0 : s.size = 0
  · have HR : Hid (partsB s = []) := by show _ = _; unfold partsB; rw [if_pos h0]
    rw [show decide (s.size = 0) = true by simpa using h0] at hE
    clear h0
    go_enter Tryz.func30, Tryz.ntmps30
    go_wp2
    go_ret
    rw [HR.out]
    exact ⟨⟨none, 0, rfl, ⟨(fun i s h => by cases h), (fun g o h => by cases h)⟩, Nat.le_refl _⟩, Below.refl _ _⟩
  · rw [show decide (s.size = 0) = false by simpa using h0] at hE
    have h2 := Go.Proofs.Tryz.strings_Split s ⟨#[47]⟩ m w (by omega) hm (by decide)
    have hl := Lib.splitB_all ⟨#[47]⟩ (by decide) 0 _ s rfl
    rw [← hl, splitB_parts s h0] at h2
    have HSp := hidLL h2
    have HA := hidLL (strs_alloc w (partsB s) 9)
    clear h2 hl hm h0
    generalize partsB s = ps at *
    go_enter Tryz.func30, Tryz.ntmps30
    go_wp2_with fail
    refine HSp.out.mono ?_
    rintro e w1 ⟨rfl, ew⟩
    go_wp2
    go_ret
    refine ⟨⟨_, _, rfl, ?_, Nat.le_refl _⟩, ?_⟩
    · refine ⟨?_, fun g o h => by injection h with h; injection h with h _ _; omega⟩
      first | exact HA.out | (rw [ew]; exact HA.out)
    · first | exact (Below.refl _ _).alloc (Nat.le_refl _) _ | (rw [ew]; exact (Below.refl _ _).alloc (Nat.le_refl _) _)

theorem mv_no1 {t : It} {o : OpW} (h : arW t (partsB o.path) = none) : moveC t o = .bad 5 := by
  unfold moveC
  rw [h]
theorem mv_no2 {t : It} {o : OpW} (h : findW t (partsB o.new) = none) : moveC t o = .bad 5 := by
  unfold moveC
  rw [h]
  cases arW t (partsB o.path) <;> rfl
/-- What is found. -/
structure Mv (t : It) (ps qs : List ByteArray) (x : It) (i : Nat) (k y : It) : Prop where
  ar : arW t ps = some (x, i)
  fd : findW t qs = some y
  kd : x.kids[i]? = some k
section
variable {t x k y : It} {o : OpW} {i : Nat} (h : Mv t (partsB o.path) (partsB o.new) x i k y)
include h
theorem mv_in (h1 : partsB o.path <+: partsB o.new) : moveC t o = .bad 5 := by
  unfold moveC
  rw [h.ar, h.fd]
  exact if_pos h1
theorem mv_at (h1 : ¬ partsB o.path <+: partsB o.new) (h2 : behIx y.kids o.at' = none ∨ (partsB o.path).dropLast = partsB o.new ∧ o.at' = k.label) : moveC t o = .bad 5 := by
  unfold moveC
  rw [h.ar, h.fd]
  have e : (x.kids[i]?).getD It.none = k := by rw [h.kd]; rfl
  simp only [e]
  rw [if_neg h1, if_pos h2]
theorem mv_name (h1 : ¬ partsB o.path <+: partsB o.new) (h2 : ¬ (behIx y.kids o.at' = none ∨ (partsB o.path).dropLast = partsB o.new ∧ o.at' = k.label)) (h3 : (partsB o.path).dropLast ≠ partsB o.new ∧ (kidIx y.kids k.label).isSome) : moveC t o = .bad 7 := by
  unfold moveC
  rw [h.ar, h.fd]
  have e : (x.kids[i]?).getD It.none = k := by rw [h.kd]; rfl
  simp only [e]
  rw [if_neg h1, if_neg h2, if_pos h3]
theorem mv_deep (h1 : ¬ partsB o.path <+: partsB o.new) (h2 : ¬ (behIx y.kids o.at' = none ∨ (partsB o.path).dropLast = partsB o.new ∧ o.at' = k.label)) (h3 : ¬ ((partsB o.path).dropLast ≠ partsB o.new ∧ (kidIx y.kids k.label).isSome)) (h4 : 6 < (partsB o.new).length + levIt k) : moveC t o = .bad 2 := by
  unfold moveC
  rw [h.ar, h.fd]
  have e : (x.kids[i]?).getD It.none = k := by rw [h.kd]; rfl
  simp only [e]
  rw [if_neg h1, if_neg h2, if_neg h3, if_pos h4]
theorem mv_ok (h1 : ¬ partsB o.path <+: partsB o.new) (h2 : ¬ (behIx y.kids o.at' = none ∨ (partsB o.path).dropLast = partsB o.new ∧ o.at' = k.label)) (h3 : ¬ ((partsB o.path).dropLast ≠ partsB o.new ∧ (kidIx y.kids k.label).isSome)) (h4 : ¬ 6 < (partsB o.new).length + levIt k) (z : It) (j : Nat) (hz : findW (lessW t x i (partsB o.path).dropLast) (partsB o.new) = some z) (hj : behIx z.kids o.at' = some j) : moveC t o = .ok (setW (fun _ => z.setKids (z.kids.insertIdx j k)) (partsB o.new) (lessW t x i (partsB o.path).dropLast)) := by
  unfold moveC
  rw [h.ar, h.fd]
  have e : (x.kids[i]?).getD It.none = k := by rw [h.kd]; rfl
  simp only [e]
  rw [if_neg h1, if_neg h2, if_neg h3, if_neg h4, hz]
  simp only [hj]
end
end Go.Proofs.YtpbolcjcmkmalaaGreatDoor
