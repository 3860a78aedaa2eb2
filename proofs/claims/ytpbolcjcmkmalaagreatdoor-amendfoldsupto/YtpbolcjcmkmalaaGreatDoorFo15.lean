/-
  Which laws are right, and that changes leave them so: plain. (Written and proved over a stub of its definitions, not built at a seat yet.)
-/
import Derived.Test.YtpbolcjcmkmalaaGreatDoorFo13
namespace Go.Proofs.YtpbolcjcmkmalaaGreatDoor
open Go.RowKit Go.Extern.Stop Go.Stop Go.Extern

mutual
/-- How many provisions lie in an item. -/
def cntIt : It → Nat
  | .mk _ _ _ k => cntKs k
def cntKs : List It → Nat
  | [] => 0
  | t :: r => 1 + cntIt t + cntKs r
end
theorem cntIt_eq (t : It) : cntIt t = cntKs t.kids := by cases t; rw [cntIt]; rfl
/-- Two items have different labels. -/
def Dif (a b : It) : Prop := (a.label.toList == b.label.toList) = false
/-- An item so deep that is right by itself. -/
def locOk (d : Nat) (t : It) : Prop := d ≤ 6 ∧ greatB t = false ∧ (if d = 0 then decide (t.label.size = 0) else isLab t.label) = true ∧ textsOk t = true
inductive Rgt : Nat → It → Prop
  | mk (d : Nat) (t : It) (h : locOk d t) (hd : t.kids.Pairwise Dif) (hk : ∀ k, k ∈ t.kids → Rgt (d + 1) k) : Rgt d t
theorem Rgt.is {d : Nat} {t : It} (h : Rgt d t) : locOk d t ∧ t.kids.Pairwise Dif ∧ ∀ k, k ∈ t.kids → Rgt (d + 1) k := by
  cases h with
  | mk _ _ h1 h2 h3 => exact ⟨h1, h2, h3⟩
theorem label_iff {d : Nat} {ah : List It} {t : It} : labelOk d ah t = true ↔ (if d = 0 then decide (t.label.size = 0) else isLab t.label) = true ∧ (d ≠ 0 → ∀ k, k ∈ ah → Dif k t) := by
  unfold labelOk Dif
  by_cases hd : d = 0
  · simp [hd]
  · rw [if_neg hd, if_neg hd, Bool.and_eq_true, Bool.not_eq_true', List.any_eq_false]
    refine and_congr_right fun _ => ⟨fun h _ k hk => ?_, fun h k hk => ?_⟩
    · have := h k hk; simpa using this
    · have := h hd k hk; simpa using this
mutual
theorem vIt_ok : ∀ (t : It) (d n : Nat) (ah : List It) (m : Nat), vIt d n ah t = .ok m → Rgt d t ∧ (d ≠ 0 → ∀ k, k ∈ ah → Dif k t) ∧ m = n + cntIt t ∧ n + cntIt t ≤ 300
  | .mk a b c k, d, n, ah, m, h => by
    rw [vIt] at h
    split at h
    · cases h
    · rename_i h1
      split at h
      · cases h
      · rename_i h2
        split at h
        · cases h
        · rename_i h3
          have hl := label_iff.1 (by simpa using h2)
          have hn : n ≤ 300 := by omega
          obtain ⟨q1, q2, _, q3, q4⟩ := vKs_ok k d n [] m h hn
          refine ⟨.mk d _ ⟨by omega, ?_, hl.1, by simpa using h3⟩ q2 q1, hl.2, ?_, ?_⟩
          · cases hg : greatB (.mk a b c k) with
            | false => rfl
            | true => exact absurd (Or.inr (Or.inr hg)) h1
          · rw [cntIt]; exact q3
          · rw [cntIt]; exact q4
theorem vKs_ok : ∀ (l : List It) (d n : Nat) (ah : List It) (m : Nat), vKs d n ah l = .ok m → n ≤ 300 → (∀ k, k ∈ l → Rgt (d + 1) k) ∧ l.Pairwise Dif ∧ (∀ a, a ∈ ah → ∀ k, k ∈ l → Dif a k) ∧ m = n + cntKs l ∧ n + cntKs l ≤ 300
  | [], d, n, ah, m, h, hn => by
    rw [vKs] at h
    injection h with h
    exact ⟨fun k hk => (by cases hk), List.Pairwise.nil, fun a _ k hk => (by cases hk), by rw [cntKs]; omega, by rw [cntKs]; omega⟩
  | t :: r, d, n, ah, m, h, hn => by
    rw [vKs] at h
    cases hv : vIt (d + 1) (n + 1) ah t with
    | bad c => rw [hv] at h; cases h
    | ok m1 =>
      rw [hv] at h
      obtain ⟨p1, p2, p3, p4⟩ := vIt_ok t _ _ _ _ hv
      obtain ⟨q1, q2, q3, q4, q5⟩ := vKs_ok r d m1 (ah ++ [t]) m h (by omega)
      refine ⟨fun k hk => ?_, List.Pairwise.cons (fun k hk => q3 t (by simp) k hk) q2, fun a ha k hk => ?_, by rw [cntKs]; omega, by rw [cntKs]; omega⟩
      · rcases List.mem_cons.1 hk with rfl | hk
        · exact p1
        · exact q1 k hk
      · rcases List.mem_cons.1 hk with rfl | hk
        · exact p2 (by omega) a ha
        · exact q3 a (by simp [ha]) k hk
end
mutual
theorem ok_vIt : ∀ (t : It) (d n : Nat) (ah : List It), Rgt d t → (d ≠ 0 → ∀ k, k ∈ ah → Dif k t) → n + cntIt t ≤ 300 → vIt d n ah t = .ok (n + cntIt t)
  | .mk a b c k, d, n, ah, h, hl, hn => by
    obtain ⟨⟨h1, h2, h3, h4⟩, h5, h6⟩ := h.is
    rw [cntIt] at hn ⊢
    rw [vIt, if_neg (by rw [h2]; simp; omega), if_neg (by rw [label_iff.2 ⟨h3, hl⟩]; simp), if_neg (by rw [h4]; simp)]
    exact ok_vKs k d n [] h6 h5 (fun a ha => by cases ha) hn
theorem ok_vKs : ∀ (l : List It) (d n : Nat) (ah : List It), (∀ k, k ∈ l → Rgt (d + 1) k) → l.Pairwise Dif → (∀ a, a ∈ ah → ∀ k, k ∈ l → Dif a k) → n + cntKs l ≤ 300 → vKs d n ah l = .ok (n + cntKs l)
  | [], d, n, ah, _, _, _, _ => by rw [vKs, cntKs]; rfl
  | t :: r, d, n, ah, h1, h2, h3, hn => by
    rw [cntKs] at hn ⊢
    rw [vKs, ok_vIt t (d + 1) (n + 1) ah (h1 t (by simp)) (fun _ k hk => h3 k hk t (by simp)) (by omega)]
    show vKs d (n + 1 + cntIt t) (ah ++ [t]) r = _
    have h2' := List.pairwise_cons.1 h2
    rw [ok_vKs r d (n + 1 + cntIt t) (ah ++ [t]) (fun k hk => h1 k (by simp [hk])) h2'.2 (fun a ha k hk => ?_) (by omega)]
    · congr 1; omega
    · rcases List.mem_append.1 ha with ha | ha
      · exact h3 a ha k (by simp [hk])
      · rw [List.mem_singleton.1 ha]; exact h2'.1 k hk
end
/-- A law is right just when it is so by itself and has not too many provisions. -/
theorem valid_iff {t : It} : (∃ m, vIt 0 0 [] t = .ok m) ↔ Rgt 0 t ∧ cntIt t ≤ 300 :=
  ⟨fun ⟨m, h⟩ => (by have := vIt_ok t 0 0 [] m h; exact ⟨this.1, by have := this.2.2.2; omega⟩), fun ⟨h, hn⟩ => ⟨_, ok_vIt t 0 0 [] h (fun h => absurd rfl h) (by omega)⟩⟩
theorem great_kids (a b : ByteArray) (c : List ByteArray) (k k' : List It) : greatB (.mk a b c k) = greatB (.mk a b c k') := rfl
theorem texts_kids (a b : ByteArray) (c : List ByteArray) (k k' : List It) : textsOk (.mk a b c k) = textsOk (.mk a b c k') := rfl
theorem find_step {t x : It} {p : ByteArray} {r : List ByteArray} (h : findW t (p :: r) = some x) : ∃ i y, kidIx t.kids p = some i ∧ t.kids[i]? = some y ∧ findW y r = some x := by
  rw [findW] at h
  split at h
  · cases h
  · rename_i i hi
    split at h
    · cases h
    · rename_i y hy
      exact ⟨i, y, hi, hy, h⟩
theorem find_rgt : ∀ (p : List ByteArray) (d : Nat) (t x : It), Rgt d t → findW t p = some x → Rgt (d + p.length) x
  | [], d, t, x, h, e => by rw [findW] at e; injection e with e; rw [← e]; exact h
  | q :: r, d, t, x, h, e => by
    obtain ⟨i, y, _, hy, e⟩ := find_step e
    have := find_rgt r (d + 1) y x (h.is.2.2 y (List.mem_of_getElem? hy)) e
    rw [List.length_cons, show d + (r.length + 1) = d + 1 + r.length by omega]
    exact this
theorem cntKs_set : ∀ (l : List It) (i : Nat) (y z : It), l[i]? = some y → cntKs (l.set i z) + cntIt y = cntKs l + cntIt z
  | [], i, y, z, h => by simp at h
  | t :: r, 0, y, z, h => by
    simp only [List.getElem?_cons_zero, Option.some.injEq] at h
    subst h
    rw [List.set_cons_zero, cntKs, cntKs]
    omega
  | t :: r, i + 1, y, z, h => by
    rw [List.getElem?_cons_succ] at h
    rw [List.set_cons_succ, cntKs, cntKs]
    have := cntKs_set r i y z h
    omega
theorem set_label : ∀ (p : List ByteArray) (t x y : It), findW t p = some x → y.label = x.label → (setW (fun _ => y) p t).label = t.label
  | [], t, x, y, e, h => by rw [findW] at e; injection e with e; rw [setW, h, e]
  | q :: r, t, x, y, e, h => by
    obtain ⟨i, z, hi, hz, _⟩ := find_step e
    rw [setW_cons hi hz]
    rfl
theorem set_cnt : ∀ (p : List ByteArray) (t x y : It), findW t p = some x → cntIt (setW (fun _ => y) p t) + cntIt x = cntIt t + cntIt y
  | [], t, x, y, e => by rw [findW] at e; injection e with e; rw [setW, e]; omega
  | q :: r, t, x, y, e => by
    obtain ⟨i, z, hi, hz, e⟩ := find_step e
    rw [setW_cons hi hz, cntIt_eq, cntIt_eq t]
    have h1 := set_cnt r z x y e
    have h2 := cntKs_set t.kids i z (setW (fun _ => y) r z) hz
    show cntKs (t.kids.set i (setW (fun _ => y) r z)) + _ = _
    omega
theorem dif_set {l : List It} {i : Nat} {y z : It} (h : l.Pairwise Dif) (hy : l[i]? = some y) (e : z.label = y.label) : (l.set i z).Pairwise Dif := by
  rw [List.pairwise_iff_getElem] at h ⊢
  intro a b ha hb hab
  rw [List.length_set] at ha hb
  have hlab : ∀ (k : Nat) (hk : k < (l.set i z).length), (l.set i z)[k].label = (l[k]'(by rw [List.length_set] at hk; exact hk)).label := fun k hk => by
    rw [List.getElem_set]
    split
    · rename_i hik
      subst hik
      rw [e]
      congr 1
      exact ((List.getElem?_eq_some_iff.1 hy).2).symm
    · rfl
  unfold Dif
  rw [hlab, hlab]
  exact h a b ha hb hab
theorem loc_kids {d : Nat} {t : It} (l : List It) (h : locOk d t) : locOk d (.mk t.label t.head t.lines l) := by
  obtain ⟨h1, h2, h3, h4⟩ := h
  cases t with
  | mk a b c k => exact ⟨h1, (great_kids a b c l k).trans h2, h3, (texts_kids a b c l k).trans h4⟩
theorem set_rgt : ∀ (p : List ByteArray) (d : Nat) (t x y : It), Rgt d t → findW t p = some x → Rgt (d + p.length) y → y.label = x.label → Rgt d (setW (fun _ => y) p t)
  | [], d, t, x, y, _, _, h, _ => by rw [setW]; exact h
  | q :: r, d, t, x, y, ht, e, h, hl => by
    obtain ⟨i, z, hi, hz, e⟩ := find_step e
    obtain ⟨h1, h2, h3⟩ := ht.is
    rw [setW_cons hi hz]
    rw [List.length_cons, show d + (r.length + 1) = d + 1 + r.length by omega] at h
    have h4 := set_rgt r (d + 1) z x y (h3 z (List.mem_of_getElem? hz)) e h hl
    refine .mk d _ (loc_kids _ h1) (dif_set h2 hz (set_label r z x y e hl)) fun k hk => ?_
    have hk : k ∈ t.kids.set i (setW (fun _ => y) r z) := hk
    rcases List.mem_or_eq_of_mem_set hk with hk | rfl
    · exact h3 k hk
    · exact h4
/-- A text that may stand as a line. -/
def Fine (s : ByteArray) : Prop := s.size ≤ 300 ∧ lineB s = true
theorem chk_fine {s : ByteArray} (h : chkB s = 0) : Fine s := by
  unfold chkB at h
  split at h
  · cases h
  · split at h
    · rename_i h1 h2; exact ⟨by omega, h2⟩
    · cases h
theorem texts_iff {t : It} : greatB t = false ∧ textsOk t = true ↔ t.lines.length ≤ 40 ∧ Fine t.head ∧ ∀ s, s ∈ t.lines → Fine s := by
  unfold greatB textsOk Fine
  simp only [Bool.or_eq_false_iff, Bool.and_eq_true, Bool.not_eq_true', decide_eq_false_iff_not, List.any_eq_false, longB, badB, Nat.not_lt, decide_eq_true_eq, Bool.not_eq_false]
  constructor
  · rintro ⟨⟨h1, h2, h3⟩, h4, h5⟩
    exact ⟨h1, ⟨h2, h4⟩, fun s hs => ⟨h3 s hs, h5 s hs⟩⟩
  · rintro ⟨h1, ⟨h2, h4⟩, h5⟩
    exact ⟨⟨h1, h2, fun s hs => (h5 s hs).1⟩, h4, fun s hs => (h5 s hs).2⟩
theorem Rgt.texts {d : Nat} {t : It} (h : Rgt d t) : t.lines.length ≤ 40 ∧ Fine t.head ∧ ∀ s, s ∈ t.lines → Fine s := texts_iff.1 ⟨h.is.1.2.1, h.is.1.2.2.2⟩
theorem rgt_lines {d : Nat} {t : It} (h : Rgt d t) {l : List ByteArray} (hl : l.length ≤ 40) (hf : ∀ s, s ∈ l → Fine s) : Rgt d (t.setLines l) := by
  obtain ⟨⟨h1, h2, h3, h4⟩, h5, h6⟩ := h.is
  have h7 := (texts_iff (t := t.setLines l)).2 ⟨hl, h.texts.2.1, hf⟩
  exact .mk d _ ⟨h1, h7.1, h3, h7.2⟩ h5 h6
theorem rgt_head {d : Nat} {t : It} (h : Rgt d t) {s : ByteArray} (hf : Fine s) : Rgt d (t.setHead s) := by
  obtain ⟨⟨h1, h2, h3, h4⟩, h5, h6⟩ := h.is
  have h7 := (texts_iff (t := t.setHead s)).2 ⟨h.texts.1, hf, h.texts.2.2⟩
  exact .mk d _ ⟨h1, h7.1, h3, h7.2⟩ h5 h6
theorem rgt_kids {d : Nat} {t : It} (h : Rgt d t) {l : List It} (hp : l.Pairwise Dif) (hk : ∀ k, k ∈ l → Rgt (d + 1) k) : Rgt d (t.setKids l) := .mk d _ (loc_kids l h.is.1) hp hk
theorem cntKs_erase : ∀ (l : List It) (i : Nat) (y : It), l[i]? = some y → cntKs (l.eraseIdx i) + 1 + cntIt y = cntKs l
  | [], i, y, h => by simp at h
  | t :: r, 0, y, h => by
    simp only [List.getElem?_cons_zero, Option.some.injEq] at h
    subst h
    rw [List.eraseIdx_cons_zero, cntKs]
    omega
  | t :: r, i + 1, y, h => by
    rw [List.getElem?_cons_succ] at h
    rw [List.eraseIdx_cons_succ, cntKs, cntKs]
    have := cntKs_erase r i y h
    omega
theorem cntKs_insert : ∀ (l : List It) (i : Nat) (y : It), i ≤ l.length → cntKs (l.insertIdx i y) = cntKs l + 1 + cntIt y
  | l, 0, y, _ => by rw [List.insertIdx_zero, cntKs]; omega
  | [], i + 1, y, h => by simp at h
  | t :: r, i + 1, y, h => by
    rw [List.insertIdx_succ_cons, cntKs, cntKs, cntKs_insert r i y (by simpa using h)]
    omega
theorem lev_mem : ∀ (l : List It) (k : It), k ∈ l → levIt k ≤ levKs l
  | t :: r, k, h => by
    rw [levKs]
    rcases List.mem_cons.1 h with rfl | h
    · exact Nat.le_max_left _ _
    · exact Nat.le_trans (lev_mem r k h) (Nat.le_max_right _ _)
theorem levIt_eq (t : It) : levIt t = levKs t.kids + 1 := by cases t; rw [levIt]; rfl
/-- An item that is right may lie elsewhere, where there is room below. -/
theorem rgt_lev {d : Nat} {t : It} (h : Rgt d t) : ∀ e, d ≠ 0 → e ≠ 0 → e + levIt t ≤ 7 → Rgt e t := by
  induction h with
  | mk d t h hd hk ih =>
    intro e h0 he hl
    obtain ⟨h1, h2, h3, h4⟩ := h
    rw [levIt_eq] at hl
    refine .mk e t ⟨by omega, h2, ?_, h4⟩ hd fun k hkm => ih k hkm (e + 1) (by omega) (by omega) ?_
    · rw [if_neg h0] at h3
      rw [if_neg he]
      exact h3
    · have := lev_mem t.kids k hkm
      omega
/-- A provision goes. -/
theorem rgt_erase {d : Nat} {x : It} (h : Rgt d x) (i : Nat) : Rgt d (x.setKids (x.kids.eraseIdx i)) :=
  rgt_kids h (h.is.2.1.sublist (List.eraseIdx_sublist _ _)) fun k hk => h.is.2.2 k ((List.eraseIdx_sublist _ _).subset hk)
/-- A provision has another label. -/
theorem rgt_relabel {d : Nat} {x y : It} (h : Rgt d x) {i : Nat} (hy : x.kids[i]? = some y) {s : ByteArray} (hs : isLab s = true) (hn : ∀ j k, x.kids[j]? = some k → j ≠ i → (k.label.toList == s.toList) = false) : Rgt d (x.setKid i (y.setLabel s)) := by
  obtain ⟨h1, h2, h3⟩ := h.is
  have hy3 := h3 y (List.mem_of_getElem? hy)
  have hy4 : Rgt (d + 1) (y.setLabel s) := by
    obtain ⟨⟨q1, q2, q3, q4⟩, q5, q6⟩ := hy3.is
    exact .mk (d + 1) _ ⟨q1, q2, by rw [if_neg (by omega)]; exact hs, q4⟩ q5 q6
  refine .mk d _ (loc_kids _ h1) ?_ fun k hk => ?_
  · show (x.kids.set i (y.setLabel s)).Pairwise Dif
    rw [List.pairwise_iff_getElem] at h2 ⊢
    intro a b ha hb hab
    rw [List.length_set] at ha hb
    rw [List.getElem_set, List.getElem_set]
    unfold Dif
    have sym : ∀ u v : ByteArray, (u.toList == v.toList) = (v.toList == u.toList) := fun u v => by rw [Bool.eq_iff_iff, beq_iff_eq, beq_iff_eq]; exact eq_comm
    split
    · rename_i hia
      rw [if_neg (by omega), sym]
      exact hn b _ (List.getElem?_eq_getElem hb) (by omega)
    · split
      · exact hn a _ (List.getElem?_eq_getElem ha) (by omega)
      · exact h2 a b ha hb hab
  · have hk : k ∈ x.kids.set i (y.setLabel s) := hk
    rcases List.mem_or_eq_of_mem_set hk with hk | rfl
    · exact h3 k hk
    · exact hy4
/-- One more provision. -/
theorem rgt_insert {d : Nat} {x y : It} (h : Rgt d x) (hy : Rgt (d + 1) y) {i : Nat} (hi : i ≤ x.kids.length) (hn : ∀ k, k ∈ x.kids → (k.label.toList == y.label.toList) = false) : Rgt d (x.setKids (x.kids.insertIdx i y)) := by
  obtain ⟨h1, h2, h3⟩ := h.is
  have sym : ∀ u v : ByteArray, (u.toList == v.toList) = (v.toList == u.toList) := fun u v => by rw [Bool.eq_iff_iff, beq_iff_eq, beq_iff_eq]; exact eq_comm
  refine rgt_kids h ?_ fun k hk => ?_
  · have hp : (y :: x.kids).Pairwise Dif := List.Pairwise.cons (fun k hk => by unfold Dif; rw [sym]; exact hn k hk) h2
    exact (List.Perm.pairwise_iff (fun {a b} hab => by unfold Dif at *; rw [sym]; exact hab) (List.perm_insertIdx y x.kids hi)).2 hp
  · rcases (List.mem_insertIdx hi).1 hk with rfl | hk
    · exact hy
    · exact h3 k hk
end Go.Proofs.YtpbolcjcmkmalaaGreatDoor
namespace Go.Proofs.YtpbolcjcmkmalaaGreatDoor
open Go.RowKit Go.Extern.Stop Go.Stop Go.Extern

theorem same_bytes {x s : ByteArray} : (x.toList == s.toList) = true ↔ x = s := by
  rw [beq_iff_eq, Lib.toList_data, Lib.toList_data, Array.toList_inj]
  exact ⟨fun h => ByteArray.ext h, fun h => by rw [h]⟩
theorem isL_iff {s : ByteArray} {t : It} : isL s t = true ↔ t.label = s := same_bytes
theorem isL_no {s : ByteArray} {t : It} : isL s t = false ↔ t.label ≠ s := by
  rw [← Bool.not_eq_true, isL_iff]
theorem nodup_inj {α : Type} {l : List α} (hn : l.Nodup) {i j : Nat} (hi : i < l.length) (hj : j < l.length) (e : l[i] = l[j]) : i = j := by
  rcases Nat.lt_trichotomy i j with h | h | h
  · exact absurd e (List.pairwise_iff_getElem.1 hn i j hi hj h)
  · exact h
  · exact absurd e.symm (List.pairwise_iff_getElem.1 hn j i hj hi h)
theorem map_insert {α β : Type} (f : α → β) : ∀ (l : List α) (i : Nat) (a : α), (l.insertIdx i a).map f = (l.map f).insertIdx i (f a)
  | l, 0, a => by simp
  | [], i + 1, a => by simp
  | b :: r, i + 1, a => by rw [List.insertIdx_succ_cons, List.map_cons, List.map_cons, List.insertIdx_succ_cons, map_insert f r i a]
/-- The first kid with a label. -/
def kidOf (l : List It) (s : ByteArray) : Option It := l.find? (isL s)
def labs (l : List It) : List ByteArray := l.map It.label
theorem kidOf_ix : ∀ (l : List It) (s : ByteArray), kidOf l s = (kidIx l s).bind (l[·]?)
  | [], s => rfl
  | a :: r, s => by
    have ih := kidOf_ix r s
    unfold kidOf kidIx at *
    rw [List.find?_cons, List.findIdx?_cons]
    cases h : isL s a
    · simp only [ih, Bool.false_eq_true, if_false]
      cases List.findIdx? (isL s) r <;> simp
    · simp
theorem findW_kid (t : It) (p : ByteArray) (r : List ByteArray) : findW t (p :: r) = (kidOf t.kids p).bind (findW · r) := by
  rw [findW, kidOf_ix]
  cases kidIx t.kids p with
  | none => rfl
  | some i =>
    show (match t.kids[i]? with | none => none | some x => findW x r) = (t.kids[i]?).bind _
    cases t.kids[i]? <;> rfl
theorem kidOf_some {l : List It} {s : ByteArray} {x : It} (h : kidOf l s = some x) : x ∈ l ∧ x.label = s :=
  ⟨List.mem_of_find?_eq_some h, isL_iff.1 (List.find?_some h)⟩
theorem kidOf_none {l : List It} {s : ByteArray} : kidOf l s = none ↔ s ∉ labs l := by
  unfold kidOf labs
  rw [List.find?_eq_none, List.mem_map]
  constructor
  · rintro h ⟨x, hx, e⟩
    exact h x hx (isL_iff.2 e)
  · intro h x hx e
    exact h ⟨x, hx, isL_iff.1 e⟩
theorem kidOf_of : ∀ {l : List It} {x : It}, (labs l).Nodup → x ∈ l → kidOf l x.label = some x
  | a :: r, x, hn, hx => by
    unfold kidOf
    rw [List.find?_cons]
    have hn := List.nodup_cons.1 (show (a.label :: labs r).Nodup from hn)
    cases h : isL x.label a
    · rcases List.mem_cons.1 hx with rfl | hx
      · exact absurd rfl (isL_no.1 h)
      · exact kidOf_of hn.2 hx
    · rcases List.mem_cons.1 hx with rfl | hx
      · rfl
      · have h1 := isL_iff.1 h
        exact absurd (h1 ▸ List.mem_map.2 ⟨x, hx, rfl⟩ : a.label ∈ labs r) hn.1
theorem kidOf_iff {l : List It} (hn : (labs l).Nodup) {s : ByteArray} {x : It} : kidOf l s = some x ↔ x ∈ l ∧ x.label = s :=
  ⟨kidOf_some, fun ⟨h, e⟩ => e ▸ kidOf_of hn h⟩
theorem opt_ext {α : Type} {a b : Option α} (h : ∀ x, a = some x ↔ b = some x) : a = b := by
  cases a with
  | none =>
    cases b with
    | none => rfl
    | some y => exact ((h y).2 rfl)
  | some x => exact ((h x).1 rfl).symm
/-- The labels of siblings differ, everywhere. -/
inductive Ds : It → Prop
  | mk (t : It) (h : (labs t.kids).Nodup) (hk : ∀ k, k ∈ t.kids → Ds k) : Ds t
theorem Ds.is {t : It} (h : Ds t) : (labs t.kids).Nodup ∧ ∀ k, k ∈ t.kids → Ds k := by
  cases h with
  | mk _ h hk => exact ⟨h, hk⟩
theorem Ds.find : ∀ {p : List ByteArray} {t x : It}, Ds t → findW t p = some x → Ds x
  | [], t, x, h, e => by rw [findW] at e; injection e with e; exact e ▸ h
  | q :: r, t, x, h, e => by
    rw [findW_kid] at e
    obtain ⟨y, hy, e⟩ := Option.bind_eq_some_iff.1 e
    exact (h.is.2 y (kidOf_some hy).1).find e
theorem nodup_of {l : List It} (h : l.Pairwise Dif) : (labs l).Nodup := by
  unfold labs List.Nodup
  rw [List.pairwise_map]
  exact h.imp fun {a b} hd => (isL_no (s := b.label) (t := a)).1 hd
theorem of_nodup {l : List It} (h : (labs l).Nodup) : l.Pairwise Dif := by
  unfold labs List.Nodup at h
  rw [List.pairwise_map] at h
  exact h.imp fun {a b} hd => (isL_no (s := b.label) (t := a)).2 hd
theorem Rgt.ds {d : Nat} {t : It} (h : Rgt d t) : Ds t := by
  induction h with
  | mk d t h hd hk ih => exact .mk t (nodup_of hd) ih
/-! What stands at a path. -/
inductive Pt where
  | h
  | l
  | k
  deriving DecidableEq
def vw (x : It) : Pt → List ByteArray
  | .h => [x.head]
  | .l => x.lines
  | .k => labs x.kids
def X (t : It) (q : List ByteArray) (c : Pt) : Option (List ByteArray) := (findW t q).map (vw · c)
theorem X_nil (t : It) (c : Pt) : X t [] c = some (vw t c) := by unfold X; rw [findW]; rfl
theorem X_cons (t : It) (p : ByteArray) (r : List ByteArray) (c : Pt) : X t (p :: r) c = (kidOf t.kids p).bind (X · r c) := by
  unfold X
  rw [findW_kid]
  cases kidOf t.kids p <;> rfl
theorem X_some {t : It} {q : List ByteArray} {x : It} (h : findW t q = some x) (c : Pt) : X t q c = some (vw x c) := by unfold X; rw [h]; rfl
theorem X_isSome {t : It} {q : List ByteArray} {c : Pt} : (X t q c).isSome = (findW t q).isSome := by unfold X; cases findW t q <;> rfl
/-- Which law it is hangs on what stands at its paths. -/
theorem ext_X : ∀ (N : Nat) (t u : It), sizeIt t ≤ N → Ds t → Ds u → t.label = u.label → (∀ q c, X t q c = X u q c) → t = u
  | 0, t, u, hs, _, _, _, _ => by have := sizeIt_eq t; omega
  | N + 1, t, u, hs, ht, hu, hl, h => by
    have h0 := h [] .h
    have h1 := h [] .l
    have h2 := h [] .k
    rw [X_nil, X_nil] at h0 h1 h2
    injection h0 with h0
    injection h1 with h1
    injection h2 with h2
    have h0 : [t.head] = [u.head] := h0
    injection h0 with h0 _
    have h1 : t.lines = u.lines := h1
    have h2 : labs t.kids = labs u.kids := h2
    have hlen : t.kids.length = u.kids.length := by
      have := congrArg List.length h2
      simpa [labs] using this
    have hk : t.kids = u.kids := by
      refine List.ext_getElem hlen fun i hi hi' => ?_
      have hlab : t.kids[i].label = u.kids[i].label := by
        have := congrArg (fun l => l[i]?) h2
        simpa [labs, hi, hi'] using this
      have hm := List.getElem_mem hi
      have hm' := List.getElem_mem hi'
      refine ext_X N _ _ (by have := kid_size hm; omega) (ht.is.2 _ hm) (hu.is.2 _ hm') hlab fun q c => ?_
      have h3 := h (t.kids[i].label :: q) c
      rw [X_cons, X_cons, kidOf_of ht.is.1 hm, hlab, kidOf_of hu.is.1 hm'] at h3
      exact h3
    rw [It.eta t, It.eta u, hl, h0, h1, hk]
/-! A kid less, one more, another one. -/
theorem kidOf_erase {l : List It} (hn : (labs l).Nodup) {i : Nat} {k : It} (hk : l[i]? = some k) (s : ByteArray) : kidOf (l.eraseIdx i) s = if s = k.label then none else kidOf l s := by
  have hsub : (labs (l.eraseIdx i)).Nodup := hn.sublist ((List.eraseIdx_sublist _ _).map _)
  have hmem : ∀ x, x ∈ l.eraseIdx i ↔ x ∈ l ∧ x.label ≠ k.label := fun x => by
    rw [List.mem_eraseIdx_iff_getElem?]
    constructor
    · rintro ⟨j, hj, e⟩
      obtain ⟨hjl, rfl⟩ := List.getElem?_eq_some_iff.1 e
      obtain ⟨hil, rfl⟩ := List.getElem?_eq_some_iff.1 hk
      refine ⟨List.getElem_mem _, fun e2 => hj ?_⟩
      have h1 : (labs l)[j]'(by simpa [labs] using hjl) = (labs l)[i]'(by simpa [labs] using hil) := by simpa [labs] using e2
      exact nodup_inj hn _ _ h1
    · rintro ⟨hx, hne⟩
      obtain ⟨j, hj, rfl⟩ := List.getElem_of_mem hx
      refine ⟨j, fun e2 => hne ?_, List.getElem?_eq_getElem hj⟩
      subst e2
      obtain ⟨_, rfl⟩ := List.getElem?_eq_some_iff.1 hk
      rfl
  refine opt_ext fun x => ?_
  rw [kidOf_iff hsub, hmem]
  split
  · rename_i hs
    constructor
    · rintro ⟨⟨_, h1⟩, h2⟩
      exact absurd (h2.trans hs) h1
    · intro h; cases h
  · rename_i hs
    rw [kidOf_iff hn]
    constructor
    · rintro ⟨⟨h1, _⟩, h2⟩
      exact ⟨h1, h2⟩
    · rintro ⟨h1, h2⟩
      exact ⟨⟨h1, fun e => hs (h2.symm.trans e)⟩, h2⟩
theorem labs_insert {l : List It} {k : It} {i : Nat} : labs (l.insertIdx i k) = (labs l).insertIdx i k.label := by
  exact map_insert It.label l i k
theorem nodup_insert {l : List It} (hn : (labs l).Nodup) {i : Nat} {k : It} (hi : i ≤ l.length) (hk : k.label ∉ labs l) : (labs (l.insertIdx i k)).Nodup := by
  rw [labs_insert]
  exact (List.perm_insertIdx k.label (labs l) (by simpa [labs] using hi)).nodup_iff.2 (List.nodup_cons.2 ⟨hk, hn⟩)
theorem kidOf_insert {l : List It} (hn : (labs l).Nodup) {i : Nat} {k : It} (hi : i ≤ l.length) (hk : k.label ∉ labs l) (s : ByteArray) : kidOf (l.insertIdx i k) s = if s = k.label then some k else kidOf l s := by
  have hnew := nodup_insert hn hi hk
  refine opt_ext fun x => ?_
  rw [kidOf_iff hnew, List.mem_insertIdx hi]
  split
  · rename_i hs
    constructor
    · rintro ⟨rfl | h1, h2⟩
      · rfl
      · exact absurd (List.mem_map.2 ⟨x, h1, h2.trans hs⟩) hk
    · intro h; injection h with h; subst h; exact ⟨.inl rfl, hs.symm⟩
  · rename_i hs
    rw [kidOf_iff hn]
    constructor
    · rintro ⟨rfl | h1, h2⟩
      · exact absurd h2.symm hs
      · exact ⟨h1, h2⟩
    · rintro ⟨h1, h2⟩
      exact ⟨.inr h1, h2⟩
theorem mem_set_lab {l : List It} (hn : (labs l).Nodup) {i : Nat} {k k' x : It} (hk : l[i]? = some k) : x ∈ l.set i k' ↔ x = k' ∨ (x ∈ l ∧ x.label ≠ k.label) := by
  obtain ⟨hil, rfl⟩ := List.getElem?_eq_some_iff.1 hk
  rw [List.mem_iff_getElem?]
  constructor
  · rintro ⟨j, e⟩
    by_cases hij : i = j
    · subst hij
      rw [List.getElem?_set_self hil] at e
      injection e with e
      exact .inl e.symm
    · rw [List.getElem?_set_ne hij] at e
      obtain ⟨hjl, rfl⟩ := List.getElem?_eq_some_iff.1 e
      refine .inr ⟨List.getElem_mem _, fun e2 => hij ?_⟩
      have h1 : (labs l)[j]'(by simpa [labs] using hjl) = (labs l)[i]'(by simpa [labs] using hil) := by simpa [labs] using e2
      exact (nodup_inj hn _ _ h1).symm
  · rintro (rfl | ⟨hx, hne⟩)
    · exact ⟨i, List.getElem?_set_self hil⟩
    · obtain ⟨j, hj, rfl⟩ := List.getElem_of_mem hx
      refine ⟨j, ?_⟩
      rw [List.getElem?_set_ne (fun e => hne (by subst e; rfl))]
      exact List.getElem?_eq_getElem hj
theorem labs_set {l : List It} {i : Nat} {k : It} : labs (l.set i k) = (labs l).set i k.label := by
  unfold labs; rw [List.map_set]
theorem kidOf_set {l : List It} (hn : (labs l).Nodup) {i : Nat} {k k' : It} (hk : l[i]? = some k) (hn' : (labs (l.set i k')).Nodup) (s : ByteArray) : kidOf (l.set i k') s = if s = k'.label then some k' else if s = k.label then none else kidOf l s := by
  refine opt_ext fun x => ?_
  rw [kidOf_iff hn', mem_set_lab hn hk]
  split
  · rename_i hs
    constructor
    · rintro ⟨rfl | ⟨h1, h3⟩, h2⟩
      · rfl
      · have h4 : kidOf (l.set i k') s = some k' := (kidOf_iff hn').2 ⟨(mem_set_lab hn hk).2 (.inl rfl), hs.symm⟩
        have h5 : kidOf (l.set i k') s = some x := (kidOf_iff hn').2 ⟨(mem_set_lab hn hk).2 (.inr ⟨h1, h3⟩), h2⟩
        rw [h4] at h5
        exact h5
    · intro h; injection h with h; subst h; exact ⟨.inl rfl, hs.symm⟩
  · rename_i hs
    split
    · rename_i hs2
      constructor
      · rintro ⟨rfl | ⟨h1, h3⟩, h2⟩
        · exact absurd h2.symm hs
        · exact absurd (h2.trans hs2) h3
      · intro h; cases h
    · rename_i hs2
      rw [kidOf_iff hn]
      constructor
      · rintro ⟨rfl | ⟨h1, h3⟩, h2⟩
        · exact absurd h2.symm hs
        · exact ⟨h1, h2⟩
      · rintro ⟨h1, h2⟩
        exact ⟨.inr ⟨h1, fun e => hs2 (h2.symm.trans e)⟩, h2⟩
/-! What stands at a path is another thing. -/
theorem kidIx_labs {l l' : List It} (h : labs l = labs l') (s : ByteArray) : kidIx l s = kidIx l' s := by
  have hh : ∀ l : List It, kidIx l s = (labs l).findIdx? (fun a => a.toList == s.toList) := fun l => by
    unfold kidIx labs
    rw [List.findIdx?_map]
    rfl
  rw [hh, hh, h]
theorem labs_set_same {l : List It} {i : Nat} {k k' : It} (hk : l[i]? = some k) (h : k'.label = k.label) : labs (l.set i k') = labs l := by
  rw [labs_set, h]
  refine List.ext_getElem? fun j => ?_
  rw [List.getElem?_set]
  split
  · rename_i e
    subst e
    split
    · unfold labs; rw [List.getElem?_map, hk]; rfl
    · rename_i hh
      obtain ⟨hl, _⟩ := List.getElem?_eq_some_iff.1 hk
      exact absurd (by simpa [labs] using hl) hh
  · rfl
theorem set_vw : ∀ (p : List ByteArray) (t x y : It), findW t p = some x → y.label = x.label → p ≠ [] → ∀ c, vw (setW (fun _ => y) p t) c = vw t c
  | [], _, _, _, _, _, h, _ => absurd rfl h
  | q :: r, t, x, y, e, h, _, c => by
    obtain ⟨i, z, hi, hz, e⟩ := find_step e
    rw [setW_cons hi hz]
    cases c with
    | h => rfl
    | l => rfl
    | k => exact labs_set_same hz (set_label r z x y e h)
theorem find_in : ∀ (p q : List ByteArray) (t x y : It), findW t p = some x → y.label = x.label → ∀ c, X (setW (fun _ => y) p t) (p ++ q) c = X y q c
  | [], q, t, x, y, _, _, c => by rw [setW]; rfl
  | a :: r, q, t, x, y, e, h, c => by
    obtain ⟨i, z, hi, hz, e⟩ := find_step e
    rw [setW_cons hi hz, List.cons_append, X_cons, kidOf_ix]
    have hlabs : labs (t.setKid i (setW (fun _ => y) r z)).kids = labs t.kids := labs_set_same hz (set_label r z x y e h)
    rw [kidIx_labs hlabs, hi]
    have h1 : (t.setKid i (setW (fun _ => y) r z)).kids[i]? = some (setW (fun _ => y) r z) := List.getElem?_set_self (List.getElem?_eq_some_iff.1 hz).1
    show ((t.setKid i (setW (fun _ => y) r z)).kids[i]?).bind (X · (r ++ q) c) = _
    rw [h1]
    exact find_in r q z x y e h c
theorem find_out : ∀ (p q : List ByteArray) (t x y : It), findW t p = some x → y.label = x.label → ¬ p <+: q → ∀ c, X (setW (fun _ => y) p t) q c = X t q c
  | [], q, t, x, y, _, _, hn, c => absurd (List.nil_prefix) hn
  | a :: r, [], t, x, y, e, h, _, c => by
    rw [X_nil, X_nil, set_vw _ t x y e h (by simp)]
  | a :: r, b :: q, t, x, y, e, h, hn, c => by
    obtain ⟨i, z, hi, hz, e⟩ := find_step e
    rw [setW_cons hi hz, X_cons, X_cons, kidOf_ix, kidOf_ix]
    have hlabs : labs (t.setKid i (setW (fun _ => y) r z)).kids = labs t.kids := labs_set_same hz (set_label r z x y e h)
    rw [kidIx_labs hlabs]
    have hil := (List.getElem?_eq_some_iff.1 hz).1
    by_cases hab : a = b
    · subst hab
      rw [hi]
      have h1 : (t.setKid i (setW (fun _ => y) r z)).kids[i]? = some (setW (fun _ => y) r z) := List.getElem?_set_self hil
      show ((t.setKid i (setW (fun _ => y) r z)).kids[i]?).bind (X · q c) = (t.kids[i]?).bind (X · q c)
      rw [h1, hz]
      exact find_out r q z x y e h (fun h9 => hn (List.cons_prefix_cons.2 ⟨rfl, h9⟩)) c
    · cases hb : kidIx t.kids b with
      | none => rfl
      | some j =>
        have hij : i ≠ j := fun e2 => by
          subst e2
          obtain ⟨u, hu, hu1, _⟩ := kidIx_some hi
          obtain ⟨u', hu', hu1', _⟩ := kidIx_some hb
          rw [hu] at hu'
          injection hu' with hu'
          subst hu'
          exact hab ((isL_iff.1 hu1).symm.trans (isL_iff.1 hu1'))
        show ((t.kids.set i _)[j]?).bind _ = (t.kids[j]?).bind _
        rw [List.getElem?_set_ne hij]
end Go.Proofs.YtpbolcjcmkmalaaGreatDoor
namespace Go.Proofs.YtpbolcjcmkmalaaGreatDoor
open Go.RowKit Go.Extern.Stop Go.Stop Go.Extern

abbrev St := List ByteArray → Pt → Option (List ByteArray)
abbrev Tch := List ByteArray → Pt → Prop
/-- Only what is touched becomes another, by what is touched alone. -/
structure Loc (T : Tch) (D : St → St) : Prop where
  out : ∀ f q c, ¬ T q c → D f q c = f q c
  on : ∀ f g : St, (∀ q c, T q c → f q c = g q c) → ∀ q c, T q c → D f q c = D g q c
theorem Loc.mono {T T' : Tch} {D : St → St} (h : Loc T D) (hs : ∀ q c, T q c → T' q c) : Loc T' D := by
  refine ⟨fun f q c hn => h.out f q c fun hh => hn (hs q c hh), fun f g hfg q c hq => ?_⟩
  by_cases hT : T q c
  · exact h.on f g (fun q c hh => hfg q c (hs q c hh)) q c hT
  · rw [h.out f q c hT, h.out g q c hT]
    exact hfg q c hq
theorem Loc.comp {T : Tch} {D E : St → St} (h : Loc T D) (k : Loc T E) : Loc T (fun f => D (E f)) :=
  ⟨fun f q c hn => by rw [h.out _ q c hn, k.out f q c hn], fun f g hfg q c hq => h.on _ _ (fun q c hh => k.on f g hfg q c hh) q c hq⟩
theorem Loc.id (T : Tch) : Loc T (fun f => f) := ⟨fun _ _ _ _ => rfl, fun _ _ h q c hq => h q c hq⟩
theorem Loc.commute {T T' : Tch} {D E : St → St} (h : Loc T D) (k : Loc T' E) (hd : ∀ q c, T q c → T' q c → False) (f : St) : D (E f) = E (D f) := by
  funext q c
  by_cases hT : T q c
  · rw [k.out (D f) q c fun hh => hd q c hT hh]
    exact h.on _ _ (fun q c hh => k.out f q c fun hk => hd q c hh hk) q c hT
  · rw [h.out (E f) q c hT]
    by_cases hk : T' q c
    · exact k.on _ _ (fun q c hh => (h.out f q c fun hk => hd q c hk hh).symm) q c hk
    · rw [k.out f q c hk, k.out _ q c hk, h.out f q c hT]
open Classical in
noncomputable def dPart (p : List ByteArray) (e : Pt) (g : List ByteArray → List ByteArray) (f : St) : St := fun q c => if q = p ∧ c = e then (f q c).map g else f q c
open Classical in
noncomputable def dNone (p : List ByteArray) (f : St) : St := fun q c => if p <+: q then none else f q c
open Classical in
noncomputable def dMove (p n : List ByteArray) (f : St) : St := fun q c => if n <+: q then f (p ++ q.drop n.length) c else if p <+: q then none else f q c
open Classical in
noncomputable def dPut (n : List ByteArray) (k : It) (f : St) : St := fun q c => if n <+: q then X k (q.drop n.length) c else f q c
theorem loc_part (p : List ByteArray) (e : Pt) (g : List ByteArray → List ByteArray) : Loc (fun q c => q = p ∧ c = e) (dPart p e g) := by
  refine ⟨fun f q c hn => ?_, fun f g' h q c hq => ?_⟩
  · unfold dPart; rw [if_neg hn]
  · unfold dPart; rw [if_pos hq, if_pos hq, h q c hq]
theorem loc_none (p : List ByteArray) : Loc (fun q _ => p <+: q) (dNone p) := by
  refine ⟨fun f q c hn => ?_, fun f g' h q c hq => ?_⟩
  · unfold dNone; rw [if_neg hn]
  · unfold dNone; rw [if_pos hq, if_pos hq]
theorem loc_put (n : List ByteArray) (k : It) : Loc (fun q _ => n <+: q) (dPut n k) := by
  refine ⟨fun f q c hn => ?_, fun f g' h q c hq => ?_⟩
  · unfold dPut; rw [if_neg hn]
  · unfold dPut; rw [if_pos hq, if_pos hq]
theorem loc_move (p n : List ByteArray) : Loc (fun q _ => p <+: q ∨ n <+: q) (dMove p n) := by
  refine ⟨fun f q c hn => ?_, fun f g' h q c hq => ?_⟩
  · unfold dMove; rw [if_neg (fun hh => hn (.inr hh)), if_neg (fun hh => hn (.inl hh))]
  · unfold dMove
    split
    · exact h _ c (.inl ⟨_, rfl⟩)
    · split
      · rfl
      · exact h q c hq
def idxL (ks : List ByteArray) (s : ByteArray) : Option Nat := ks.findIdx? (fun a => a.toList == s.toList)
def behB (ks : List ByteArray) (s : ByteArray) : Option Nat := if s.size = 0 then some 0 else (idxL ks s).map (· + 1)
theorem kidIx_idx (l : List It) (s : ByteArray) : kidIx l s = idxL (labs l) s := by
  unfold kidIx idxL labs
  rw [List.findIdx?_map]
  rfl
theorem behIx_beh (l : List It) (s : ByteArray) : behIx l s = behB (labs l) s := by
  unfold behIx behB
  rw [kidIx_idx]
theorem idxL_some {ks : List ByteArray} {s : ByteArray} {i : Nat} (h : idxL ks s = some i) : ks[i]? = some s := by
  unfold idxL at h
  rw [List.findIdx?_eq_some_iff_getElem] at h
  obtain ⟨hi, h1, _⟩ := h
  rw [List.getElem?_eq_getElem hi, same_bytes.1 h1]
theorem idxL_none {ks : List ByteArray} {s : ByteArray} : idxL ks s = none ↔ s ∉ ks := by
  unfold idxL
  rw [List.findIdx?_eq_none_iff]
  constructor
  · intro h hs
    have := h s hs
    rw [same_bytes.2 rfl] at this
    cases this
  · intro h x hx
    cases hq : (x.toList == s.toList)
    · rfl
    · exact absurd (same_bytes.1 hq ▸ hx) h
theorem idxL_mem {ks : List ByteArray} {s : ByteArray} : (∃ i, idxL ks s = some i) ↔ s ∈ ks := by
  cases h : idxL ks s with
  | none => exact ⟨(fun ⟨i, hi⟩ => by cases hi), (fun hs => absurd hs (idxL_none.1 h))⟩
  | some i => exact ⟨fun _ => List.mem_of_getElem? (idxL_some h), fun _ => ⟨i, rfl⟩⟩
theorem behB_le {ks : List ByteArray} {s : ByteArray} {i : Nat} (h : behB ks s = some i) : i ≤ ks.length := by
  unfold behB at h
  split at h
  · injection h with h; omega
  · obtain ⟨j, hj, e⟩ := Option.map_eq_some_iff.1 h
    have := (List.getElem?_eq_some_iff.1 (idxL_some hj)).1
    omega
theorem X_app {t x : It} {p : List ByteArray} (h : findW t p = some x) (q : List ByteArray) (c : Pt) : X t (p ++ q) c = X x q c := by
  have : ∀ (p : List ByteArray) (t : It), findW t p = some x → findW t (p ++ q) = findW x q := by
    intro p
    induction p with
    | nil => intro t h; rw [findW] at h; injection h with h; rw [h]; rfl
    | cons a r ih =>
      intro t h
      rw [findW_kid] at h
      obtain ⟨y, hy, h⟩ := Option.bind_eq_some_iff.1 h
      rw [List.cons_append, findW_kid, hy]
      exact ih y h
  unfold X
  rw [this p t h]
/-- What comes of a change at a place. -/
theorem set_is {t x y : It} {p : List ByteArray} (h : findW t p = some x) (hl : y.label = x.label) {E : St} (hin : ∀ q c, X y q c = E (p ++ q) c) (hout : ∀ q c, ¬ p <+: q → X t q c = E q c) : X (setW (fun _ => y) p t) = E := by
  funext q c
  by_cases hp : p <+: q
  · obtain ⟨r, rfl⟩ := hp
    rw [find_in p r t x y h hl c]
    exact hin r c
  · rw [find_out p q t x y h hl hp c]
    exact hout q c hp
/-! The kinds. -/
theorem map_erase {α β : Type} (f : α → β) : ∀ (l : List α) (i : Nat), (l.eraseIdx i).map f = (l.map f).eraseIdx i
  | [], i => by simp
  | a :: r, 0 => by simp
  | a :: r, i + 1 => by rw [List.eraseIdx_cons_succ, List.map_cons, List.map_cons, List.eraseIdx_cons_succ, map_erase f r i]
theorem setLabel_label (k : It) (s : ByteArray) : (k.setLabel s).label = s := rfl
theorem not_pre_self {p : List ByteArray} {l : ByteArray} : ¬ (p ++ [l]) <+: p := fun h => by
  have := h.length_le
  simp at this
  omega
theorem pre_kid {p : List ByteArray} {l m : ByteArray} {r : List ByteArray} : (p ++ [l]) <+: (p ++ m :: r) ↔ l = m := by
  rw [List.prefix_append_right_inj, List.cons_prefix_cons]
  exact ⟨fun h => h.1, fun h => ⟨h, List.nil_prefix⟩⟩
theorem pre_out {p q : List ByteArray} {l : ByteArray} (h : ¬ p <+: q) : ¬ (p ++ [l]) <+: q := fun hh => h ((List.prefix_append p [l]).trans hh)
theorem ne_out {p q : List ByteArray} (h : ¬ p <+: q) : q ≠ p := fun e => h (e ▸ List.prefix_refl _)
theorem X_kid (y : It) (m : ByteArray) (r : List ByteArray) (c : Pt) : X y (m :: r) c = (kidOf y.kids m).bind (X · r c) := X_cons y m r c
theorem drop_kid {p : List ByteArray} {l : ByteArray} {r : List ByteArray} : (p ++ l :: r).drop (p ++ [l]).length = r := by
  rw [show p ++ l :: r = (p ++ [l]) ++ r by simp, List.drop_left]
/-- A part of a provision is another. -/
theorem part_is {t x y : It} {p : List ByteArray} (h : findW t p = some x) (hl : y.label = x.label) (hk : y.kids = x.kids) {e : Pt} {g : List ByteArray → List ByteArray} (he : vw y e = g (vw x e)) (ho : ∀ c, c ≠ e → vw y c = vw x c) : X (setW (fun _ => y) p t) = dPart p e g (X t) := by
  refine set_is h hl (fun q c => ?_) (fun q c hq => ?_)
  · unfold dPart
    cases q with
    | nil =>
      rw [X_nil, X_app h, X_nil]
      by_cases hc : c = e
      · subst hc
        rw [if_pos ⟨by simp, rfl⟩, he]
        rfl
      · rw [if_neg (fun hh => hc hh.2), ho c hc]
    | cons m r =>
      rw [if_neg (fun hh => by have := congrArg List.length hh.1; simp at this), X_app h, X_kid, X_kid, hk]
  · unfold dPart
    rw [if_neg (fun hh => ne_out hq hh.1)]
/-- A provision goes. -/
theorem gone_is {t x k : It} {p : List ByteArray} {i : Nat} (hd : Ds t) (h : findW t p = some x) (hi : x.kids[i]? = some k) (hix : idxL (labs x.kids) k.label = some i) : X (setW (fun _ => x.setKids (x.kids.eraseIdx i)) p t) = dNone (p ++ [k.label]) (dPart p .k (fun ks => ks.eraseIdx ((idxL ks k.label).getD 0)) (X t)) := by
  have hn := (hd.find h).is.1
  refine set_is (y := x.setKids (x.kids.eraseIdx i)) h rfl (fun q c => ?_) (fun q c hq => ?_)
  · unfold dNone dPart
    cases q with
    | nil =>
      rw [List.append_nil, if_neg not_pre_self, X_nil, X_some h c]
      cases c with
      | h => rw [if_neg (fun hh => by cases hh.2)]; rfl
      | l => rw [if_neg (fun hh => by cases hh.2)]; rfl
      | k =>
        rw [if_pos ⟨rfl, rfl⟩]
        show some (labs (x.kids.eraseIdx i)) = some ((labs x.kids).eraseIdx ((idxL (labs x.kids) k.label).getD 0))
        rw [hix]
        exact congrArg some (map_erase It.label x.kids i)
    | cons m r =>
      rw [X_kid, X_app h, X_kid]
      show (kidOf (x.kids.eraseIdx i) m).bind _ = _
      rw [kidOf_erase hn hi]
      by_cases hm : m = k.label
      · rw [if_pos hm, if_pos (pre_kid.2 hm.symm)]
        rfl
      · rw [if_neg hm, if_neg (fun hh => hm (pre_kid.1 hh).symm), if_neg (fun hh => by have := congrArg List.length hh.1; simp at this)]
  · unfold dNone dPart
    rw [if_neg (pre_out hq), if_neg (fun hh => ne_out hq hh.1)]
/-- One provision more. -/
theorem more_is {t x k : It} {p : List ByteArray} {i : Nat} {s : ByteArray} (hd : Ds t) (h : findW t p = some x) (hi : behB (labs x.kids) s = some i) (hk : k.label ∉ labs x.kids) : X (setW (fun _ => x.setKids (x.kids.insertIdx i k)) p t) = dPut (p ++ [k.label]) k (dPart p .k (fun ks => ks.insertIdx ((behB ks s).getD 0) k.label) (X t)) := by
  have hn := (hd.find h).is.1
  have hle : i ≤ x.kids.length := by have := behB_le hi; simpa [labs] using this
  refine set_is (y := x.setKids (x.kids.insertIdx i k)) h rfl (fun q c => ?_) (fun q c hq => ?_)
  · unfold dPut dPart
    cases q with
    | nil =>
      rw [List.append_nil, if_neg not_pre_self, X_nil, X_some h c]
      cases c with
      | h => rw [if_neg (fun hh => by cases hh.2)]; rfl
      | l => rw [if_neg (fun hh => by cases hh.2)]; rfl
      | k =>
        rw [if_pos ⟨rfl, rfl⟩]
        show some (labs (x.kids.insertIdx i k)) = some ((labs x.kids).insertIdx ((behB (labs x.kids) s).getD 0) k.label)
        rw [hi, labs_insert]
        rfl
    | cons m r =>
      rw [X_kid, X_app h, X_kid]
      show (kidOf (x.kids.insertIdx i k) m).bind _ = _
      rw [kidOf_insert hn hle hk]
      by_cases hm : m = k.label
      · subst hm
        rw [if_pos rfl, if_pos (pre_kid.2 rfl), drop_kid]
        rfl
      · rw [if_neg hm, if_neg (fun hh => hm (pre_kid.1 hh).symm), if_neg (fun hh => by have := congrArg List.length hh.1; simp at this)]
  · unfold dPut dPart
    rw [if_neg (pre_out hq), if_neg (fun hh => ne_out hq hh.1)]
theorem X_label (k : It) (s : ByteArray) (q : List ByteArray) (c : Pt) : X (k.setLabel s) q c = X k q c := by
  cases q with
  | nil => rw [X_nil, X_nil]; cases c <;> rfl
  | cons m r => rw [X_kid, X_kid]; rfl
/-- Another label. -/
theorem label_is {t x k : It} {p : List ByteArray} {i : Nat} {s : ByteArray} (hd : Ds t) (h : findW t p = some x) (hi : x.kids[i]? = some k) (hix : idxL (labs x.kids) k.label = some i) (hn' : (labs (x.kids.set i (k.setLabel s))).Nodup) : X (setW (fun _ => x.setKid i (k.setLabel s)) p t) = dMove (p ++ [k.label]) (p ++ [s]) (dPart p .k (fun ks => ks.set ((idxL ks k.label).getD 0) s) (X t)) := by
  have hn := (hd.find h).is.1
  refine set_is (y := x.setKid i (k.setLabel s)) h rfl (fun q c => ?_) (fun q c hq => ?_)
  · unfold dMove dPart
    cases q with
    | nil =>
      rw [List.append_nil, if_neg not_pre_self, if_neg not_pre_self, X_nil, X_some h c]
      cases c with
      | h => rw [if_neg (fun hh => by cases hh.2)]; rfl
      | l => rw [if_neg (fun hh => by cases hh.2)]; rfl
      | k =>
        rw [if_pos ⟨rfl, rfl⟩]
        show some (labs (x.kids.set i (k.setLabel s))) = some ((labs x.kids).set ((idxL (labs x.kids) k.label).getD 0) s)
        rw [hix, labs_set]
        rfl
    | cons m r =>
      rw [X_kid]
      show (kidOf (x.kids.set i (k.setLabel s)) m).bind _ = _
      rw [kidOf_set hn hi hn', setLabel_label]
      by_cases hm : m = s
      · subst hm
        have h1 : k ∈ x.kids := List.mem_of_getElem? hi
        rw [if_pos rfl, if_pos (pre_kid.2 rfl), drop_kid, if_neg (fun hh => by have := congrArg List.length hh.1; simp at this), List.append_assoc, List.singleton_append, X_app h, X_kid, kidOf_of hn h1]
        exact X_label k m r c
      · rw [if_neg hm, if_neg (fun hh => hm (pre_kid.1 hh).symm)]
        by_cases hm2 : m = k.label
        · rw [if_pos hm2, if_pos (pre_kid.2 hm2.symm)]
          rfl
        · rw [if_neg hm2, if_neg (fun hh => hm2 (pre_kid.1 hh).symm), if_neg (fun hh => by have := congrArg List.length hh.1; simp at this), X_app h, X_kid]
  · unfold dMove dPart
    rw [if_neg (pre_out hq), if_neg (pre_out hq), if_neg (fun hh => ne_out hq hh.1)]
end Go.Proofs.YtpbolcjcmkmalaaGreatDoor
