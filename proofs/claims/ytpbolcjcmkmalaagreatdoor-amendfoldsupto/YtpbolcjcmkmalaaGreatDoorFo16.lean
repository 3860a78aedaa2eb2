/-
  Changes that touch nothing in common commute, but for bounds. Plain.
-/
import Derived.Test.YtpbolcjcmkmalaaGreatDoorFo15
namespace Go.Proofs.YtpbolcjcmkmalaaGreatDoor
open Go.RowKit Go.Extern.Stop Go.Stop Go.Extern

/-- An item that is right by itself, but for its label and how deep it lies. -/
inductive Rg : It → Prop
  | mk (t : It) (h : t.lines.length ≤ 40 ∧ Fine t.head ∧ ∀ s, s ∈ t.lines → Fine s) (hn : (labs t.kids).Nodup) (hl : ∀ k, k ∈ t.kids → isLab k.label = true) (hk : ∀ k, k ∈ t.kids → Rg k) : Rg t
theorem Rg.is {t : It} (h : Rg t) : (t.lines.length ≤ 40 ∧ Fine t.head ∧ ∀ s, s ∈ t.lines → Fine s) ∧ (labs t.kids).Nodup ∧ (∀ k, k ∈ t.kids → isLab k.label = true) ∧ ∀ k, k ∈ t.kids → Rg k := by
  cases h with
  | mk _ h hn hl hk => exact ⟨h, hn, hl, hk⟩
theorem Rg.ds {t : It} (h : Rg t) : Ds t := by
  induction h with
  | mk t h hn hl hk ih => exact .mk t hn ih
theorem Rgt.rg {d : Nat} {t : It} (h : Rgt d t) : Rg t := by
  induction h with
  | mk d t h hd hk ih =>
    refine .mk t (texts_iff.1 ⟨h.2.1, h.2.2.2⟩) (nodup_of hd) (fun k hkm => ?_) ih
    have := (hk k hkm).is.1.2.2.1
    rw [if_neg (by omega)] at this
    exact this
theorem levKs_le {l : List It} {n : Nat} (h : ∀ k, k ∈ l → levIt k ≤ n) : levKs l ≤ n := by
  induction l with
  | nil => rw [levKs]; omega
  | cons a r ih =>
    rw [levKs]
    exact Nat.max_le.2 ⟨h a (by simp), ih fun k hk => h k (by simp [hk])⟩
theorem Rgt.deep {d : Nat} {t : It} (h : Rgt d t) : d + levIt t ≤ 7 := by
  induction h with
  | mk d t h hd hk ih =>
    rw [levIt_eq]
    have h1 : levKs t.kids ≤ 6 - d := levKs_le fun k hkm => by have := ih k hkm; omega
    have := h.1
    omega
theorem Rg.rgt {t : It} (h : Rg t) : ∀ d, (if d = 0 then decide (t.label.size = 0) else isLab t.label) = true → d + levIt t ≤ 7 → Rgt d t := by
  induction h with
  | mk t h hn hl hk ih =>
    intro d hd hdeep
    have h1 := texts_iff.2 h
    rw [levIt_eq] at hdeep
    refine .mk d t ⟨by omega, h1.1, hd, h1.2⟩ (of_nodup hn) fun k hkm => ih k hkm (d + 1) (by rw [if_neg (by omega)]; exact hl k hkm) ?_
    have := lev_mem t.kids k hkm
    omega
mutual
theorem rg_vIt : ∀ (t : It) (d n : Nat) (ah : List It), Rg t → (if d = 0 then decide (t.label.size = 0) else isLab t.label) = true → (d ≠ 0 → ∀ k, k ∈ ah → Dif k t) → (∃ m, vIt d n ah t = .ok m) ∨ vIt d n ah t = .bad 2
  | .mk a b c k, d, n, ah, h, hl, hd => by
    obtain ⟨h1, h2, h3, h4⟩ := h.is
    have h5 := texts_iff.2 h1
    rw [vIt]
    split
    · exact .inr rfl
    · rw [if_neg (by rw [label_iff.2 ⟨hl, hd⟩]; simp), if_neg (by rw [h5.2]; simp)]
      exact rg_vKs k d n [] h4 h3 (of_nodup h2) (fun a ha => by cases ha)
theorem rg_vKs : ∀ (l : List It) (d n : Nat) (ah : List It), (∀ k, k ∈ l → Rg k) → (∀ k, k ∈ l → isLab k.label = true) → l.Pairwise Dif → (∀ a, a ∈ ah → ∀ k, k ∈ l → Dif a k) → (∃ m, vKs d n ah l = .ok m) ∨ vKs d n ah l = .bad 2
  | [], d, n, ah, _, _, _, _ => by rw [vKs]; exact .inl ⟨n, rfl⟩
  | t :: r, d, n, ah, h1, h2, h3, h4 => by
    rw [vKs]
    have h5 := List.pairwise_cons.1 h3
    rcases rg_vIt t (d + 1) (n + 1) ah (h1 t (by simp)) (by rw [if_neg (by omega)]; exact h2 t (by simp)) (fun _ k hk => h4 k hk t (by simp)) with ⟨m, e⟩ | e
    · rw [e]
      refine rg_vKs r d m (ah ++ [t]) (fun k hk => h1 k (by simp [hk])) (fun k hk => h2 k (by simp [hk])) h5.2 (fun a ha k hk => ?_)
      rcases List.mem_append.1 ha with ha | ha
      · exact h4 a ha k (by simp [hk])
      · rw [List.mem_singleton.1 ha]; exact h5.1 k hk
    · rw [e]; exact .inr rfl
end
theorem find_rg : ∀ (p : List ByteArray) (t x : It), Rg t → findW t p = some x → Rg x
  | [], t, x, h, e => by rw [findW] at e; injection e with e; rw [← e]; exact h
  | q :: r, t, x, h, e => by
    obtain ⟨i, y, _, hy, e⟩ := find_step e
    exact find_rg r y x (h.is.2.2.2 y (List.mem_of_getElem? hy)) e
theorem rg_set : ∀ (p : List ByteArray) (t x y : It), Rg t → findW t p = some x → Rg y → y.label = x.label → Rg (setW (fun _ => y) p t)
  | [], t, x, y, _, _, h, _ => by rw [setW]; exact h
  | q :: r, t, x, y, ht, e, h, hl => by
    obtain ⟨i, z, hi, hz, e⟩ := find_step e
    obtain ⟨h1, h2, h3, h4⟩ := ht.is
    have hzm := List.mem_of_getElem? hz
    rw [setW_cons hi hz]
    have h5 := rg_set r z x y (h4 z hzm) e h hl
    have h6 := set_label r z x y e hl
    refine .mk _ h1 ?_ (fun k hk => ?_) (fun k hk => ?_)
    · show (labs (t.kids.set i _)).Nodup
      rw [labs_set_same hz h6]
      exact h2
    · rcases List.mem_or_eq_of_mem_set (show k ∈ t.kids.set i _ from hk) with hk | rfl
      · exact h3 k hk
      · rw [h6]; exact h3 z hzm
    · rcases List.mem_or_eq_of_mem_set (show k ∈ t.kids.set i _ from hk) with hk | rfl
      · exact h4 k hk
      · exact h5
theorem rg_kids {t : It} (h : Rg t) {l : List It} (hn : (labs l).Nodup) (hl : ∀ k, k ∈ l → isLab k.label = true) (hk : ∀ k, k ∈ l → Rg k) : Rg (t.setKids l) := .mk _ h.is.1 hn hl hk
theorem rg_lines {t : It} (h : Rg t) {l : List ByteArray} (hl : l.length ≤ 40) (hf : ∀ s, s ∈ l → Fine s) : Rg (t.setLines l) := .mk _ ⟨hl, h.is.1.2.1, hf⟩ h.is.2.1 h.is.2.2.1 h.is.2.2.2
theorem rg_head {t : It} (h : Rg t) {s : ByteArray} (hf : Fine s) : Rg (t.setHead s) := .mk _ ⟨h.is.1.1, hf, h.is.1.2.2⟩ h.is.2.1 h.is.2.2.1 h.is.2.2.2
theorem rg_erase {t : It} (h : Rg t) (i : Nat) : Rg (t.setKids (t.kids.eraseIdx i)) :=
  rg_kids h (h.is.2.1.sublist ((List.eraseIdx_sublist _ _).map _)) (fun k hk => h.is.2.2.1 k ((List.eraseIdx_sublist _ _).subset hk)) (fun k hk => h.is.2.2.2 k ((List.eraseIdx_sublist _ _).subset hk))
theorem rg_insert {t k : It} (h : Rg t) {i : Nat} (hi : i ≤ t.kids.length) (hk : Rg k) (hl : isLab k.label = true) (hn : k.label ∉ labs t.kids) : Rg (t.setKids (t.kids.insertIdx i k)) :=
  rg_kids h (nodup_insert h.is.2.1 hi hn) (fun x hx => by
    rcases (List.mem_insertIdx hi).1 hx with rfl | hx
    · exact hl
    · exact h.is.2.2.1 x hx) (fun x hx => by
    rcases (List.mem_insertIdx hi).1 hx with rfl | hx
    · exact hk
    · exact h.is.2.2.2 x hx)
/-! Changes, whatever the bounds of the law. -/
open Classical in
noncomputable def putX (t : It) (o : OpW) : Option It :=
  match findW t (partsB o.path) with
  | none => none
  | some x => match behIx x.kids o.at' with
    | none => none
    | some i => if o.item.label ∉ labs x.kids ∧ Rg o.item ∧ isLab o.item.label = true then some (setW (fun _ => x.setKids (x.kids.insertIdx i o.item)) (partsB o.path) t) else none
open Classical in
noncomputable def moveX (t : It) (o : OpW) : Option It :=
  match arW t (partsB o.path), findW t (partsB o.new) with
  | some (x, i), some y =>
    if ¬ partsB o.path <+: partsB o.new ∧ ¬ (behIx y.kids o.at' = none ∨ (partsB o.path).dropLast = partsB o.new ∧ o.at' = (x.kids[i]?.getD It.none).label) ∧ ¬ ((partsB o.path).dropLast ≠ partsB o.new ∧ (kidIx y.kids (x.kids[i]?.getD It.none).label).isSome) then
      match findW (lessW t x i (partsB o.path).dropLast) (partsB o.new) with
      | none => none
      | some z => match behIx z.kids o.at' with
        | none => none
        | some j => some (setW (fun _ => z.setKids (z.kids.insertIdx j (x.kids[i]?.getD It.none))) (partsB o.new) (lessW t x i (partsB o.path).dropLast))
    else none
  | _, _ => none
def okO : COut → Option It
  | .ok u => some u
  | .bad _ => none
noncomputable def oneX (t : It) (o : OpW) : Option It :=
  if o.kind = 6 then putX t o else if o.kind = 9 then moveX t o else okO (oneC t o)
end Go.Proofs.YtpbolcjcmkmalaaGreatDoor
namespace Go.Proofs.YtpbolcjcmkmalaaGreatDoor
open Go.RowKit Go.Extern.Stop Go.Stop Go.Extern

theorem findW_in : ∀ (p q : List ByteArray) (t x y : It), findW t p = some x → y.label = x.label → findW (setW (fun _ => y) p t) (p ++ q) = findW y q
  | [], q, t, x, y, _, _ => by rw [setW]; rfl
  | a :: r, q, t, x, y, e, h => by
    obtain ⟨i, z, hi, hz, e⟩ := find_step e
    have hlabs : labs (t.setKid i (setW (fun _ => y) r z)).kids = labs t.kids := labs_set_same hz (set_label r z x y e h)
    have h1 : (t.setKid i (setW (fun _ => y) r z)).kids[i]? = some (setW (fun _ => y) r z) := List.getElem?_set_self (List.getElem?_eq_some_iff.1 hz).1
    rw [setW_cons hi hz, List.cons_append, findW_cons (i := i) (by rw [kidIx_labs hlabs, hi]) h1]
    exact findW_in r q z x y e h
theorem findW_at {p : List ByteArray} {t x y : It} (e : findW t p = some x) (h : y.label = x.label) : findW (setW (fun _ => y) p t) p = some y := by
  have := findW_in p [] t x y e h
  rw [List.append_nil, findW] at this
  exact this
theorem ix_none {l : List It} {s : ByteArray} : (kidIx l s).isSome = false ↔ s ∉ labs l := by
  rw [kidIx_idx, ← idxL_none]
  cases idxL (labs l) s <;> simp
theorem ix_some {l : List It} {s : ByteArray} : (kidIx l s).isSome = true ↔ s ∈ labs l := by
  cases h : (kidIx l s).isSome
  · exact ⟨(fun h => by cases h), (fun hs => absurd hs (ix_none.1 h))⟩
  · refine ⟨fun _ => ?_, fun _ => rfl⟩
    rw [kidIx_idx] at h
    obtain ⟨i, hi⟩ := Option.isSome_iff_exists.1 h
    exact idxL_mem.1 ⟨i, hi⟩
theorem put_some {t u : It} {o : OpW} (h : putX t o = some u) : ∃ x i, findW t (partsB o.path) = some x ∧ behIx x.kids o.at' = some i ∧ o.item.label ∉ labs x.kids ∧ Rg o.item ∧ isLab o.item.label = true ∧ u = setW (fun _ => x.setKids (x.kids.insertIdx i o.item)) (partsB o.path) t := by
  unfold putX at h
  split at h
  · cases h
  · rename_i x hx
    split at h
    · cases h
    · rename_i i hi
      split at h
      · rename_i hc
        injection h with h
        exact ⟨x, i, hx, hi, hc.1, hc.2.1, hc.2.2, h.symm⟩
      · cases h
theorem put_of {t x : It} {o : OpW} {i : Nat} (hx : findW t (partsB o.path) = some x) (hi : behIx x.kids o.at' = some i) (h1 : o.item.label ∉ labs x.kids) (h2 : Rg o.item) (h3 : isLab o.item.label = true) : putX t o = some (setW (fun _ => x.setKids (x.kids.insertIdx i o.item)) (partsB o.path) t) := by
  unfold putX
  rw [hx]
  show (match behIx x.kids o.at' with | none => none | some i => _) = _
  rw [hi]
  exact if_pos ⟨h1, h2, h3⟩
theorem ar_some {t x : It} {p : List ByteArray} {i : Nat} (h : arW t p = some (x, i)) : ∃ p0 l k, p = p0 ++ [l] ∧ findW t p0 = some x ∧ kidIx x.kids l = some i ∧ x.kids[i]? = some k ∧ k.label = l := by
  unfold arW at h
  split at h
  · cases h
  · rename_i hp
    obtain ⟨p0, l, rfl⟩ : ∃ p0 l, p = p0 ++ [l] := by
      rcases List.eq_nil_or_concat p with h0 | ⟨a, b, hab⟩
      · exact absurd h0 hp
      · exact ⟨a, b, by rw [hab, List.concat_eq_append]⟩
    rw [List.dropLast_concat] at h
    split at h
    · cases h
    · rename_i y hy
      rw [List.getLast?_concat] at h
      split at h
      · cases h
      · rename_i j hj
        injection h with h
        injection h with h1 h2
        subst h1 h2
        obtain ⟨k, hk, hk1, _⟩ := kidIx_some hj
        exact ⟨p0, l, k, rfl, hy, hj, hk, isL_iff.1 hk1⟩
theorem ar_of {t x : It} {p0 : List ByteArray} {l : ByteArray} {i : Nat} (h : findW t p0 = some x) (hi : kidIx x.kids l = some i) : arW t (p0 ++ [l]) = some (x, i) := by
  unfold arW
  rw [if_neg (by simp), List.dropLast_concat, h]
  show (match kidIx x.kids ((p0 ++ [l]).getLast?.getD _) with | none => none | some i => some (x, i)) = _
  rw [List.getLast?_concat]
  show (match kidIx x.kids l with | none => none | some i => some (x, i)) = _
  rw [hi]
theorem move_some {t u : It} {o : OpW} (h : moveX t o = some u) : ∃ p0 l x i k y z j, partsB o.path = p0 ++ [l] ∧ findW t p0 = some x ∧ kidIx x.kids l = some i ∧ x.kids[i]? = some k ∧ k.label = l ∧ findW t (partsB o.new) = some y ∧ ¬ (p0 ++ [l]) <+: partsB o.new ∧ behIx y.kids o.at' ≠ none ∧ ¬ (p0 = partsB o.new ∧ o.at' = l) ∧ (p0 ≠ partsB o.new → l ∉ labs y.kids) ∧ findW (lessW t x i p0) (partsB o.new) = some z ∧ behIx z.kids o.at' = some j ∧ u = setW (fun _ => z.setKids (z.kids.insertIdx j k)) (partsB o.new) (lessW t x i p0) := by
  unfold moveX at h
  split at h
  · rename_i x i y hx hy
    obtain ⟨p0, l, k, hp, h1, h2, h3, h4⟩ := ar_some hx
    rw [hp, List.dropLast_concat, h3] at h
    split at h
    · rename_i hc
      obtain ⟨c1, c2, c3⟩ := hc
      split at h
      · cases h
      · rename_i z hz
        split at h
        · cases h
        · rename_i j hj
          injection h with h
          have h5 : (some k).getD It.none = k := rfl
          rw [h5] at c2 c3 h
          refine ⟨p0, l, x, i, k, y, z, j, hp, h1, h2, h3, h4, hy, c1, (fun e => c2 (.inl e)), (fun e => c2 (.inr ⟨e.1, by rw [h4]; exact e.2⟩)), (fun e hm => c3 ⟨e, by rw [h4]; exact ix_some.2 hm⟩), hz, hj, h.symm⟩
    · cases h
  · cases h
theorem move_of {t x k y z : It} {o : OpW} {p0 : List ByteArray} {l : ByteArray} {i j : Nat} (hp : partsB o.path = p0 ++ [l]) (h1 : findW t p0 = some x) (h2 : kidIx x.kids l = some i) (h3 : x.kids[i]? = some k) (h4 : k.label = l) (hy : findW t (partsB o.new) = some y) (c1 : ¬ (p0 ++ [l]) <+: partsB o.new) (c2 : behIx y.kids o.at' ≠ none) (c3 : ¬ (p0 = partsB o.new ∧ o.at' = l)) (c4 : p0 ≠ partsB o.new → l ∉ labs y.kids) (hz : findW (lessW t x i p0) (partsB o.new) = some z) (hj : behIx z.kids o.at' = some j) : moveX t o = some (setW (fun _ => z.setKids (z.kids.insertIdx j k)) (partsB o.new) (lessW t x i p0)) := by
  have h5 : (x.kids[i]?).getD It.none = k := by rw [h3]; rfl
  unfold moveX
  rw [hp, ar_of h1 h2, hy]
  show (if ¬ (p0 ++ [l]) <+: partsB o.new ∧ ¬ (behIx y.kids o.at' = none ∨ (p0 ++ [l]).dropLast = partsB o.new ∧ o.at' = ((x.kids[i]?).getD It.none).label) ∧ ¬ ((p0 ++ [l]).dropLast ≠ partsB o.new ∧ (kidIx y.kids ((x.kids[i]?).getD It.none).label).isSome) then _ else none) = _
  rw [List.dropLast_concat, h5, h4, if_pos ⟨c1, (fun e => e.elim c2 c3), (fun e => c4 e.1 (ix_some.1 e.2))⟩, hz]
  show (match behIx z.kids o.at' with | none => none | some j => _) = _
  rw [hj]
/-- What is made is made whatever the bounds. -/
theorem x_of_c {t u : It} {o : OpW} (h : oneC t o = .ok u) : oneX t o = some u := by
  unfold oneX
  split
  · rename_i hk
    unfold oneC at h
    rw [hk, if_neg (by omega), if_pos rfl] at h
    unfold putC at h
    split at h
    · cases h
    · rename_i x hx
      split at h
      · cases h
      · rename_i i hi
        split at h
        · cases h
        · rename_i hn
          split at h
          · cases h
          · rename_i m hv
            injection h with h
            have h1 : o.item.label ∉ labs x.kids := ix_none.1 (by simpa using hn)
            have hle : i ≤ x.kids.length := by
              rw [behIx_beh] at hi
              have := behB_le hi
              simpa [labs] using this
            obtain ⟨hR, _⟩ := vIt_ok _ 0 0 [] m hv
            have h2 := find_rgt (partsB o.path) 0 _ _ hR (findW_at (y := x.setKids (x.kids.insertIdx i o.item)) hx rfl)
            have h3 := h2.is.2.2 o.item ((List.mem_insertIdx hle).2 (.inl rfl))
            have h4 := h3.is.1.2.2.1
            rw [if_neg (by omega)] at h4
            rw [← h]
            exact put_of hx hi h1 h3.rg h4
  · split
    · rename_i h6 hk
      unfold oneC at h
      rw [hk, if_neg (by omega), if_neg (by omega), if_neg (by omega), if_neg (by omega), if_pos rfl] at h
      unfold moveC at h
      split at h
      · rename_i x i y hx hy
        obtain ⟨p0, l, k, hp, h1, h2, h3, h4⟩ := ar_some hx
        rw [hp, List.dropLast_concat, h3] at h
        have h5 : (some k).getD It.none = k := rfl
        rw [h5] at h
        split at h
        · cases h
        · rename_i c1
          simp only at h
          split at h
          · cases h
          · rename_i c2
            split at h
            · cases h
            · rename_i c3
              split at h
              · cases h
              · split at h
                · cases h
                · rename_i z hz
                  split at h
                  · cases h
                  · rename_i j hj
                    injection h with h
                    rw [← h]
                    exact move_of hp h1 h2 h3 h4 hy c1 (fun e => c2 (.inl e)) (fun e => c2 (.inr ⟨e.1, by rw [h4]; exact e.2⟩)) (fun e hm => c3 ⟨e, by rw [h4]; exact ix_some.2 hm⟩) hz hj
      · cases h
    · rw [h]; rfl
/-- .. and the other way round, but for bounds. -/
theorem c_of_x {t u : It} {o : OpW} (ht : Rg t) (hl : t.label.size = 0) (h : oneX t o = some u) : oneC t o = .ok u ∨ oneC t o = .bad 2 := by
  unfold oneX at h
  split at h
  · rename_i hk
    obtain ⟨x, i, hx, hi, h1, h2, h3, rfl⟩ := put_some h
    unfold oneC
    rw [hk, if_neg (by omega), if_pos rfl]
    unfold putC
    rw [hx]
    show (match behIx x.kids o.at' with | none => COut.bad 5 | some i => _) = _ ∨ (match behIx x.kids o.at' with | none => COut.bad 5 | some i => _) = _
    rw [hi]
    have h4 : (kidIx x.kids o.item.label).isSome = false := ix_none.2 h1
    have hle : i ≤ x.kids.length := by
      rw [behIx_beh] at hi
      have := behB_le hi
      simpa [labs] using this
    have hR := rg_set _ t x _ ht hx (rg_insert (find_rg _ t x ht hx) hle h2 h3 h1) rfl
    have hlab : (setW (fun _ => x.setKids (x.kids.insertIdx i o.item)) (partsB o.path) t).label.size = 0 := by
      rw [set_label _ t x (x.setKids (x.kids.insertIdx i o.item)) hx rfl]; exact hl
    show (if (kidIx x.kids o.item.label).isSome = true then COut.bad 7 else _) = _ ∨ (if (kidIx x.kids o.item.label).isSome = true then COut.bad 7 else _) = _
    rw [h4, if_neg (by simp)]
    rcases rg_vIt _ 0 0 [] hR (by rw [if_pos rfl]; exact decide_eq_true hlab) (fun h => absurd rfl h) with ⟨m, e⟩ | e
    · left; rw [e]
    · right; rw [e]
  · split at h
    · rename_i h6 hk
      obtain ⟨p0, l, x, i, k, y, z, j, hp, h1, h2, h3, h4, hy, c1, c2, c3, c4, hz, hj, rfl⟩ := move_some h
      have h5 : (x.kids[i]?).getD It.none = k := by rw [h3]; rfl
      unfold oneC
      rw [hk, if_neg (by omega), if_neg (by omega), if_neg (by omega), if_neg (by omega), if_pos rfl]
      unfold moveC
      rw [hp, ar_of h1 h2, hy]
      simp only [List.dropLast_concat, h5]
      rw [if_neg c1, if_neg (fun e => e.elim c2 (by rw [h4]; exact c3)), if_neg (fun e => c4 e.1 (by rw [← h4]; exact ix_some.1 e.2))]
      split
      · exact .inr rfl
      · rw [hz]
        left
        show (match behIx z.kids o.at' with | none => COut.bad 0 | some j => _) = _
        rw [hj]
    · unfold okO at h
      cases hc : oneC t o with
      | ok v => rw [hc] at h; injection h with h; rw [h]; exact .inl rfl
      | bad c => rw [hc] at h; cases h
theorem ix_kid {l : List It} {s : ByteArray} {i : Nat} (h : kidIx l s = some i) : ∃ k, l[i]? = some k ∧ k.label = s := by
  obtain ⟨k, hk, hk1, _⟩ := kidIx_some h
  exact ⟨k, hk, isL_iff.1 hk1⟩
theorem rel_nodup {x k : It} {i : Nat} {s : ByteArray} (hn : (labs x.kids).Nodup) (hk : x.kids[i]? = some k) (h : ¬ ∃ j, kidIx x.kids s = some j ∧ j ≠ i) : (labs (x.kids.set i (k.setLabel s))).Nodup := by
  rw [labs_set]
  show ((labs x.kids).set i s).Nodup
  have hil := (List.getElem?_eq_some_iff.1 hk).1
  have hlab : ∀ j (hj : j < (labs x.kids).length), j ≠ i → (labs x.kids)[j] ≠ s := fun j hj hne e => by
    refine h ?_
    obtain ⟨j', hj'⟩ := idxL_mem.2 (e ▸ List.getElem_mem hj : s ∈ labs x.kids)
    refine ⟨j', by rw [kidIx_idx]; exact hj', fun e2 => hne ?_⟩
    subst e2
    obtain ⟨hjl, e3⟩ := List.getElem?_eq_some_iff.1 (idxL_some hj')
    exact nodup_inj hn hj hjl (e.trans e3.symm)
  refine List.pairwise_iff_getElem.2 fun a b ha hb hab => ?_
  rw [List.length_set] at ha hb
  rw [List.getElem_set, List.getElem_set]
  split
  · rw [if_neg (by omega)]
    exact fun e => hlab b hb (by omega) e.symm
  · split
    · exact fun e => hlab a ha (by omega) e
    · exact List.pairwise_iff_getElem.1 hn a b ha hb hab
theorem rg_label {x k : It} (h : Rg x) {i : Nat} {s : ByteArray} (hk : x.kids[i]? = some k) (hs : isLab s = true) (hn : ¬ ∃ j, kidIx x.kids s = some j ∧ j ≠ i) : Rg (x.setKid i (k.setLabel s)) := by
  obtain ⟨h1, h2, h3, h4⟩ := h.is
  refine .mk _ h1 (rel_nodup h2 hk hn) (fun y hy => ?_) (fun y hy => ?_)
  · rcases List.mem_or_eq_of_mem_set (show y ∈ x.kids.set i _ from hy) with hy | rfl
    · exact h3 y hy
    · exact hs
  · rcases List.mem_or_eq_of_mem_set (show y ∈ x.kids.set i _ from hy) with hy | rfl
    · exact h4 y hy
    · have h5 := (h4 k (List.mem_of_getElem? hk)).is
      exact .mk _ h5.1 h5.2.1 h5.2.2.1 h5.2.2.2
/-- What comes of texts. -/
theorem rg_text {x y : It} {o : OpW} (h : Rg x) (e : textC x o = .ok y) : Rg y ∧ y.label = x.label ∧ y.kids = x.kids := by
  obtain ⟨h1, h2, h3⟩ := h.is.1
  unfold textC at e
  split at e
  · split at e
    · cases e
    · split at e
      · rename_i hc
        injection e with e
        subst e
        refine ⟨rg_lines h (by simpa using h1) fun s hs => ?_, rfl, rfl⟩
        rcases List.mem_or_eq_of_mem_set hs with hs | rfl
        · exact h3 s hs
        · exact chk_fine hc
      · cases e
  · split at e
    · split at e
      · cases e
      · rename_i hL
        split at e
        · cases e
        · rename_i h40
          split at e
          · rename_i hc
            injection e with e
            subst e
            have hle : o.line.toNat ≤ x.lines.length := by
              by_cases hq : o.line = x.lines.length
              · omega
              · have hh : hasL x o.line = true := by
                  cases hb : hasL x o.line
                  · exact absurd ⟨hq, hb⟩ hL
                  · rfl
                unfold hasL at hh
                simp only [Bool.and_eq_true, decide_eq_true_eq] at hh
                omega
            refine ⟨rg_lines h ?_ fun s hs => ?_, rfl, rfl⟩
            · rw [List.length_insertIdx, if_pos hle]; omega
            · rcases (List.mem_insertIdx hle).1 hs with rfl | hs
              · exact chk_fine hc
              · exact h3 s hs
          · cases e
    · split at e
      · split at e
        · cases e
        · injection e with e
          subst e
          have hsub := List.eraseIdx_sublist x.lines o.line.toNat
          exact ⟨rg_lines h (Nat.le_trans hsub.length_le h1) (fun s hs => h3 s (hsub.subset hs)), rfl, rfl⟩
      · split at e
        · unfold wordsC at e
          split at e
          · split at e
            · cases e
            · simp only at e
              split at e
              · rename_i hc
                injection e with e
                subst e
                refine ⟨rg_lines h (by simpa using h1) fun s hs => ?_, rfl, rfl⟩
                rcases List.mem_or_eq_of_mem_set hs with hs | rfl
                · exact h3 s hs
                · exact chk_fine hc
              · cases e
          · cases e
        · split at e
          · rename_i hc
            injection e with e
            subst e
            exact ⟨rg_head h (chk_fine hc), rfl, rfl⟩
          · cases e
/-- What is right stays right. -/
theorem rg_x {t u : It} {o : OpW} (ht : Rg t) (h : oneX t o = some u) : Rg u ∧ u.label = t.label := by
  unfold oneX at h
  split at h
  · obtain ⟨x, i, hx, hi, h1, h2, h3, rfl⟩ := put_some h
    have hle : i ≤ x.kids.length := by
      rw [behIx_beh] at hi
      have := behB_le hi
      simpa [labs] using this
    exact ⟨rg_set _ t x _ ht hx (rg_insert (find_rg _ t x ht hx) hle h2 h3 h1) rfl, set_label _ t x (x.setKids (x.kids.insertIdx i o.item)) hx rfl⟩
  · split at h
    · obtain ⟨p0, l, x, i, k, y, z, j, hp, h1, h2, h3, h4, hy, c1, c2, c3, c4, hz, hj, rfl⟩ := move_some h
      have hx := find_rg _ t x ht h1
      have hless : Rg (lessW t x i p0) := rg_set p0 t x _ ht h1 (rg_erase hx i) rfl
      have hll : (lessW t x i p0).label = t.label := set_label p0 t x (x.setKids (x.kids.eraseIdx i)) h1 rfl
      have hzr := find_rg _ _ z hless hz
      have hkm := List.mem_of_getElem? h3
      have hle : j ≤ z.kids.length := by
        rw [behIx_beh] at hj
        have := behB_le hj
        simpa [labs] using this
      have hn : k.label ∉ labs z.kids := by
        have hX := X_some hz .k
        have hX2 : X (lessW t x i p0) = _ := gone_is ht.ds h1 h3 (by rw [h4, ← kidIx_idx]; exact h2)
        rw [hX2] at hX
        unfold dNone at hX
        rw [h4, if_neg c1] at hX
        unfold dPart at hX
        rw [h4]
        by_cases hq : partsB o.new = p0
        · rw [if_pos ⟨hq, rfl⟩, hq, X_some h1 .k] at hX
          injection hX with hX
          have hX : (labs x.kids).eraseIdx ((idxL (labs x.kids) l).getD 0) = labs z.kids := hX
          rw [kidIx_idx] at h2
          rw [h2] at hX
          rw [← hX]
          intro hm
          have hm : l ∈ (labs x.kids).eraseIdx i := hm
          rw [List.mem_eraseIdx_iff_getElem?] at hm
          obtain ⟨a, ha, e⟩ := hm
          obtain ⟨hal, e⟩ := List.getElem?_eq_some_iff.1 e
          obtain ⟨hil, e2⟩ := List.getElem?_eq_some_iff.1 (idxL_some h2)
          exact ha (nodup_inj hx.is.2.1 hal hil (e.trans e2.symm))
        · rw [if_neg (fun e => hq e.1), X_some hy .k] at hX
          injection hX with hX
          have hX : labs y.kids = labs z.kids := hX
          rw [← hX]
          exact c4 (fun e => hq e.symm)
      exact ⟨rg_set _ _ z _ hless hz (rg_insert hzr hle (hx.is.2.2.2 k hkm) (hx.is.2.2.1 k hkm) hn) rfl, (set_label _ _ z (z.setKids (z.kids.insertIdx j k)) hz rfl).trans hll⟩
    · unfold oneC at h
      split at h
      · split at h
        · cases h
        · rename_i x hx
          split at h
          · cases h
          · rename_i y hy
            injection h with h
            subst h
            obtain ⟨h1, h2, _⟩ := rg_text (find_rg _ t x ht hx) hy
            exact ⟨rg_set _ t x y ht hx h1 h2, set_label _ t x y hx h2⟩
      · split at h
        · unfold repealC at h
          split at h
          · cases h
          · rename_i x i hx
            obtain ⟨p0, l, k, hp, h1, h2, h3, h4⟩ := ar_some hx
            injection h with h
            rw [hp, List.dropLast_concat] at h
            subst h
            exact ⟨rg_set _ t x _ ht h1 (rg_erase (find_rg _ t x ht h1) i) rfl, set_label _ t x (x.setKids (x.kids.eraseIdx i)) h1 rfl⟩
        · split at h
          · unfold labelC at h
            split at h
            · cases h
            · rename_i x i hx
              obtain ⟨p0, l, k, hp, h1, h2, h3, h4⟩ := ar_some hx
              split at h
              · cases h
              · rename_i hc
                injection h with h
                rw [hp, List.dropLast_concat, h3] at h
                have h5 : (some k).getD It.none = k := rfl
                rw [h5] at h
                subst h
                have hs : isLab o.text = true := by
                  cases hb : isLab o.text
                  · exact absurd (.inl hb) hc
                  · rfl
                exact ⟨rg_set _ t x _ ht h1 (rg_label (find_rg _ t x ht h1) h3 hs (fun e => hc (.inr e))) rfl, set_label _ t x (x.setKid i (k.setLabel o.text)) h1 rfl⟩
          · cases h
end Go.Proofs.YtpbolcjcmkmalaaGreatDoor
namespace Go.Proofs.YtpbolcjcmkmalaaGreatDoor
open Go.RowKit Go.Extern.Stop Go.Stop Go.Extern

/-- A law that is right. -/
def Law (t : It) : Prop := Rgt 0 t ∧ cntIt t ≤ 300
theorem law_iff {t : It} : Law t ↔ ∃ m, vIt 0 0 [] t = .ok m := valid_iff.symm
theorem law_set {t x y : It} {p : List ByteArray} (h : Law t) (hx : findW t p = some x) (hy : Rgt (0 + p.length) y) (hl : y.label = x.label) (hc : cntIt y ≤ cntIt x) : Law (setW (fun _ => y) p t) := by
  refine ⟨set_rgt p 0 t x y h.1 hx hy hl, ?_⟩
  have := set_cnt p t x y hx
  have := h.2
  omega
theorem law_one {t u : It} {o : OpW} (h : Law t) (e : oneC t o = .ok u) : Law u := by
  unfold oneC at e
  split at e
  · split at e
    · cases e
    · rename_i x hx
      split at e
      · cases e
      · rename_i y hy
        injection e with e
        subst e
        have hxr := find_rgt _ 0 t x h.1 hx
        obtain ⟨h1, h2, h3⟩ := rg_text hxr.rg hy
        refine law_set h hx (h1.rgt _ ?_ ?_) h2 ?_
        · rw [h2]; exact hxr.is.1.2.2.1
        · have := hxr.deep
          rw [levIt_eq] at this ⊢
          rw [h3]
          exact this
        · rw [cntIt_eq, cntIt_eq x, h3]
          exact Nat.le_refl _
  · split at e
    · unfold putC at e
      split at e
      · cases e
      · split at e
        · cases e
        · split at e
          · cases e
          · split at e
            · cases e
            · rename_i m hv
              injection e with e
              subst e
              exact law_iff.2 ⟨m, hv⟩
    · split at e
      · unfold repealC at e
        split at e
        · cases e
        · rename_i x i hx
          obtain ⟨p0, l, k, hp, h1, h2, h3, h4⟩ := ar_some hx
          injection e with e
          rw [hp, List.dropLast_concat] at e
          subst e
          refine law_set h h1 (rgt_erase (find_rgt _ 0 t x h.1 h1) i) rfl ?_
          rw [cntIt_eq, cntIt_eq x]
          have := cntKs_erase x.kids i k h3
          show cntKs (x.kids.eraseIdx i) ≤ _
          omega
      · split at e
        · unfold labelC at e
          split at e
          · cases e
          · rename_i x i hx
            obtain ⟨p0, l, k, hp, h1, h2, h3, h4⟩ := ar_some hx
            split at e
            · cases e
            · rename_i hc
              injection e with e
              rw [hp, List.dropLast_concat, h3] at e
              have h5 : (some k).getD It.none = k := rfl
              rw [h5] at e
              subst e
              have hs : isLab o.text = true := by
                cases hb : isLab o.text
                · exact absurd (.inl hb) hc
                · rfl
              have hxr := find_rgt _ 0 t x h.1 h1
              refine law_set h h1 (rgt_relabel hxr h3 hs fun j y hy hj => ?_) rfl ?_
              · cases hb : (y.label.toList == o.text.toList)
                · rfl
                · refine absurd (.inr ?_) hc
                  have hyl := same_bytes.1 hb
                  obtain ⟨j', hj'⟩ := idxL_mem.2 (hyl ▸ List.mem_map.2 ⟨y, List.mem_of_getElem? hy, rfl⟩ : o.text ∈ labs x.kids)
                  refine ⟨j', by rw [kidIx_idx]; exact hj', fun e2 => hj ?_⟩
                  subst e2
                  obtain ⟨hjl, e3⟩ := List.getElem?_eq_some_iff.1 (idxL_some hj')
                  obtain ⟨hyl2, e4⟩ := List.getElem?_eq_some_iff.1 hy
                  refine nodup_inj (nodup_of hxr.is.2.1) (by simpa [labs] using hyl2) hjl ?_
                  rw [e3, ← hyl, ← e4]
                  simp [labs]
              · rw [cntIt_eq, cntIt_eq x]
                have h6 := cntKs_set x.kids i k (k.setLabel o.text) h3
                have h7 : cntIt (k.setLabel o.text) = cntIt k := by rw [cntIt_eq, cntIt_eq k]; rfl
                show cntKs (x.kids.set i (k.setLabel o.text)) ≤ _
                omega
        · split at e
          · rename_i hk
            have hX := x_of_c (t := t) (u := u) (o := o) (by unfold oneC; rw [hk, if_neg (by omega), if_neg (by omega), if_neg (by omega), if_neg (by omega), if_pos rfl]; exact e)
            unfold oneX at hX
            rw [hk, if_neg (by omega), if_pos rfl] at hX
            obtain ⟨p0, l, x, i, k, y, z, j, hp, h1, h2, h3, h4, hy, c1, c2, c3, c4, hz, hj, rfl⟩ := move_some hX
            have hdeep : ¬ 6 < (partsB o.new).length + levIt k := by
              unfold moveC at e
              have h5 : (x.kids[i]?).getD It.none = k := by rw [h3]; rfl
              rw [hp, ar_of h1 h2, hy] at e
              simp only [List.dropLast_concat, h5] at e
              rw [if_neg c1, if_neg (fun e => e.elim c2 (by rw [h4]; exact c3)), if_neg (fun e => c4 e.1 (by rw [← h4]; exact ix_some.1 e.2))] at e
              split at e
              · cases e
              · assumption
            have hrg := (rg_x (t := t) (o := o) h.1.rg (by unfold oneX; rw [hk, if_neg (by omega), if_pos rfl]; exact hX)).1
            have hxr := find_rgt _ 0 t x h.1 h1
            have hless : Law (lessW t x i p0) := law_set h h1 (rgt_erase hxr i) rfl (by
              rw [cntIt_eq, cntIt_eq x]
              have := cntKs_erase x.kids i k h3
              show cntKs (x.kids.eraseIdx i) ≤ _
              omega)
            have hcl : cntIt (lessW t x i p0) + 1 + cntIt k = cntIt t := by
              have h5 := set_cnt p0 t x (x.setKids (x.kids.eraseIdx i)) h1
              have h6 := cntKs_erase x.kids i k h3
              have h7 : cntIt (x.setKids (x.kids.eraseIdx i)) = cntKs (x.kids.eraseIdx i) := cntIt_eq _
              rw [cntIt_eq x] at h5
              show cntIt (setW (fun _ => x.setKids (x.kids.eraseIdx i)) p0 t) + 1 + cntIt k = _
              omega
            have hzr := find_rgt _ 0 _ z hless.1 hz
            have hle : j ≤ z.kids.length := by
              rw [behIx_beh] at hj
              have := behB_le hj
              simpa [labs] using this
            have hkr := rgt_lev (hxr.is.2.2 k (List.mem_of_getElem? h3)) (0 + (partsB o.new).length + 1) (by omega) (by omega) (by omega)
            have hnew := find_rg _ _ _ hrg (findW_at (y := z.setKids (z.kids.insertIdx j k)) hz rfl)
            have hnn : k.label ∉ labs z.kids := by
              have h8 : (labs (z.kids.insertIdx j k)).Nodup := hnew.is.2.1
              rw [labs_insert] at h8
              exact (List.nodup_cons.1 ((List.perm_insertIdx k.label (labs z.kids) (by simpa [labs] using hle)).nodup_iff.1 h8)).1
            refine ⟨set_rgt _ 0 _ z _ hless.1 hz (rgt_insert hzr hkr hle fun y hy => ?_) rfl, ?_⟩
            · cases hb : (y.label.toList == k.label.toList)
              · rfl
              · exact absurd (same_bytes.1 hb ▸ List.mem_map.2 ⟨y, hy, rfl⟩) hnn
            · have h5 := set_cnt _ _ z (z.setKids (z.kids.insertIdx j k)) hz
              have h6 := cntKs_insert z.kids j k hle
              have h7 : cntIt (z.setKids (z.kids.insertIdx j k)) = cntKs (z.kids.insertIdx j k) := cntIt_eq _
              rw [cntIt_eq z] at h5
              have := h.2
              omega
          · cases e
theorem law_all : ∀ (ops : List OpW) (i : Nat) (t u : It), Law t → allC i t ops = .ok u → Law u
  | [], i, t, u, h, e => by rw [allC] at e; injection e with e; exact e ▸ h
  | o :: r, i, t, u, h, e => by
    rw [allC] at e
    cases hc : oneC t o with
    | bad c => rw [hc] at e; cases e
    | ok x => rw [hc] at e; exact law_all r (i + 1) x u (law_one h hc) e
/-- CONSOLIDATION IS A FOLD. -/
theorem folds {t u : It} {ops : List OpW} (h : Law t) (e : allC 0 t ops = .ok u) (k : Nat) : ∃ y, allC 0 t (ops.take k) = .ok y ∧ Law y ∧ allC 0 y (ops.drop k) = .ok u := by
  rw [← List.take_append_drop k ops, allC_append] at e
  cases hc : allC 0 t (ops.take k) with
  | bad j c => rw [hc] at e; cases e
  | ok y =>
    rw [hc] at e
    exact ⟨y, rfl, law_all _ 0 t y h hc, allC_ok _ _ 0 y u e⟩
end Go.Proofs.YtpbolcjcmkmalaaGreatDoor
