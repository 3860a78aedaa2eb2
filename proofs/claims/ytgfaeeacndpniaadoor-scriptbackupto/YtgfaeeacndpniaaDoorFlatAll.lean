/-
  Whether a law is valid: plain.
-/
import Derived.Test.YtgfaeeacndpniaaDoorTextsP
import Derived.Test.YtgfaeeacndpniaaDoorSmallAll
import Derived.Test.YtgfaeeacndpniaaDoorPlains2
namespace Go.Proofs.YtgfaeeacndpniaaDoor
open Go.RowKit Go.Extern.Stop Go.Stop Go.Extern

def greatB (t : It) : Bool := decide (40 < t.lines.length) || (longB t.head || t.lines.any longB)
noncomputable def labelOk (d : Nat) (ah : List It) (t : It) : Bool := if d = 0 then decide (t.label.size = 0) else isLab t.label && !(ah.any fun k => k.label.toList == t.label.toList)
noncomputable def textsOk (t : It) : Bool := lineB t.head && !(t.lines.any badB)
/-- What a look at a law tells: an error's number, or how many provisions there were. -/
inductive VOut where
  | bad (c : Nat)
  | ok (n : Nat)
mutual
noncomputable def vIt : Nat → Nat → List It → It → VOut
  | d, n, ah, .mk a b c k => if 6 < d ∨ 300 < n ∨ greatB (.mk a b c k) = true then .bad 2 else if labelOk d ah (.mk a b c k) = false then .bad 7 else if textsOk (.mk a b c k) = false then .bad 1 else vKs d n [] k
noncomputable def vKs : Nat → Nat → List It → List It → VOut
  | _, n, _, [] => .ok n
  | d, n, ah, t :: r => match vIt (d + 1) (n + 1) ah t with
    | .bad c => .bad c
    | .ok m => vKs d m (ah ++ [t]) r
end
theorem vIt_eq (d n : Nat) (ah : List It) (t : It) : vIt d n ah t = if 6 < d ∨ 300 < n ∨ greatB t = true then .bad 2 else if labelOk d ah t = false then .bad 7 else if textsOk t = false then .bad 1 else vKs d n [] t.kids := by
  cases t; rw [vIt]; rfl
/-- A law of which there is not too much. -/
inductive FewIt : It → Prop
  | mk (t : It) (h1 : t.lines.length ≤ 1000) (h2 : t.kids.length ≤ 1000) (h3 : ∀ s ∈ t.lines, s.size ≤ 1000000) (h4 : t.head.size ≤ 1000000) (h5 : t.label.size ≤ 1000000) (h6 : ∀ k ∈ t.kids, FewIt k) : FewIt t
theorem FewIt.get {t : It} (h : FewIt t) : t.lines.length ≤ 1000 ∧ t.kids.length ≤ 1000 ∧ (∀ s ∈ t.lines, s.size ≤ 1000000) ∧ t.head.size ≤ 1000000 ∧ t.label.size ≤ 1000000 ∧ ∀ k ∈ t.kids, FewIt k := by
  cases h with
  | mk _ h1 h2 h3 h4 h5 h6 => exact ⟨h1, h2, h3, h4, h5, h6⟩
theorem lines400_mem : ∀ {l : List ByteArray} {s : ByteArray}, s ∈ l → s.size / 400 ≤ lines400 l
  | a :: r, s, h => by
    rw [lines400]
    rcases List.mem_cons.1 h with rfl | h
    · omega
    · have := lines400_mem h; omega
theorem smallK_le : ∀ (l : List It) (d n : Nat), smallK d n l ≤ 400 → n ≤ 400 ∧ l.length + n ≤ 400 + n ∧ ∀ k ∈ l, smallN (d + 1) k ≤ 400
  | [], d, n, h => by rw [smallK] at h; exact ⟨h, by simp, fun k hk => by cases hk⟩
  | t :: r, d, n, h => by
    rw [smallK] at h
    split at h
    · have h1 := smallK_le r d _ h
      refine ⟨by omega, ?_, ?_⟩
      · have h5 : ∀ (l : List It) (n : Nat), smallK d n l ≤ 400 → l.length + n ≤ 400 := by
          intro l
          induction l with
          | nil => intro n hn; rw [smallK] at hn; simpa using hn
          | cons k q ih =>
            intro n hn
            rw [smallK] at hn
            split at hn
            · have h6 := ih _ hn
              have h7 : 1 ≤ smallN (d + 1) k := by
                rw [smallN_eq]
                split
                · omega
                · have h8 : ∀ (l : List It) (n : Nat), n ≤ smallK (d + 1) n l := by
                    intro l
                    induction l with
                    | nil => intro n; rw [smallK]; exact Nat.le_refl _
                    | cons x y iy =>
                      intro n
                      rw [smallK]
                      split
                      · have := iy (n + smallN (d + 1 + 1) x); omega
                      · exact Nat.le_refl _
                  have := h8 k.kids (1 + k.lines.length + (k.head.size + k.label.size) / 400 + lines400 k.lines)
                  omega
              rw [List.length_cons]
              omega
            · omega
        have := h5 (t :: r) n (by rw [smallK, if_pos (by omega)]; exact h)
        omega
      · intro k hk
        rcases List.mem_cons.1 hk with rfl | hk
        · have := h1.1; omega
        · exact h1.2.2 k hk
    · omega
/-- What 'Few' lets by is few. -/
theorem few_it : ∀ (N : Nat) (t : It), sizeIt t ≤ N → ∀ d, smallN d t ≤ 400 → FewIt t
  | 0, t, h, d, _ => by have := sizeIt_eq t; omega
  | N + 1, t, h, d, hs => by
    rw [smallN_eq] at hs
    split at hs
    · omega
    · obtain ⟨h1, h2, h3⟩ := smallK_le _ _ _ hs
      refine .mk t (by omega) (by omega) (fun s hs => ?_) (by omega) (by omega) (fun k hk => few_it N k (by have := kid_size hk; omega) (d + 1) (h3 k hk))
      have := lines400_mem hs
      omega
theorem vKs_le : ∀ (l : List It) (d n : Nat) (ah : List It) (m : Nat), (∀ k ∈ l, ∀ d n ah m, vIt d n ah k = .ok m → m ≤ 300) → n ≤ 300 → vKs d n ah l = .ok m → m ≤ 300
  | [], d, n, ah, m, _, hn, h => by rw [vKs] at h; injection h with h; omega
  | t :: r, d, n, ah, m, hk, hn, h => by
    rw [vKs] at h
    split at h
    · cases h
    · rename_i m' hm'
      exact vKs_le r d m' _ m (fun k hx => hk k (List.mem_cons_of_mem _ hx)) (hk t (by simp) _ _ _ _ hm') h
theorem vIt_le : ∀ (N : Nat) (t : It), sizeIt t ≤ N → ∀ d n ah m, vIt d n ah t = .ok m → m ≤ 300
  | 0, t, h, d, n, ah, m, _ => by have := sizeIt_eq t; omega
  | N + 1, t, h, d, n, ah, m, hv => by
    rw [vIt_eq] at hv
    split at hv
    · cases hv
    · rename_i hc
      split at hv
      · cases hv
      · split at hv
        · cases hv
        · exact vKs_le t.kids d n [] m (fun k hk => vIt_le N k (by have := kid_size hk; omega)) (by omega) hv
theorem vKs_step {d n i : Nat} {l : List It} {t : It} (h : l[i]? = some t) : vKs d n (l.take i) (l.drop i) = match vIt (d + 1) (n + 1) (l.take i) t with | .bad c => .bad c | .ok m => vKs d m (l.take (i + 1)) (l.drop (i + 1)) := by
  obtain ⟨hi, e⟩ := List.getElem?_eq_some_iff.1 h
  rw [List.drop_eq_getElem_cons hi, e, vKs, List.take_succ_eq_append_getElem hi, e]
theorem vKs_end {d n i : Nat} {ah l : List It} (h : l.length ≤ i) : vKs d n ah (l.drop i) = .ok n := by
  rw [List.drop_eq_nil_of_le h, vKs]
end Go.Proofs.YtgfaeeacndpniaaDoor
namespace Go.Proofs.YtgfaeeacndpniaaDoor
open Go.RowKit Go.Extern.Stop Go.Stop Go.Extern

/-- A row: its item, how deep, which of its siblings it is, and they. -/
structure FRow where
  item : It
  deep : Nat
  nth : Nat
  up : List It
mutual
def flatIt : Nat → Nat → List It → It → List FRow
  | d, n, up, .mk a b c k => ⟨.mk a b c k, d, n, up⟩ :: flatKs (d + 1) 0 k k
def flatKs : Nat → Nat → List It → List It → List FRow
  | _, _, _, [] => []
  | d, n, up, t :: r => flatIt d n up t ++ flatKs d (n + 1) up r
end
theorem flatIt_eq (d n : Nat) (up : List It) (t : It) : flatIt d n up t = ⟨t, d, n, up⟩ :: flatKs (d + 1) 0 t.kids t.kids := by
  cases t; rw [flatIt]; rfl
/-- What is wrong with a row, if anything. -/
noncomputable def rowE (i : Nat) (r : FRow) : Nat :=
  if 6 < r.deep ∨ 300 < i ∨ greatB r.item = true then 2 else if labelOk r.deep (r.up.take r.nth) r.item = false then 7 else if textsOk r.item = false then 1 else 0
/-- The first row that is wrong; or how many rows there were. -/
noncomputable def scanF : Nat → List FRow → VOut
  | i, [] => .ok i
  | i, r :: l => if rowE i r = 0 then scanF (i + 1) l else .bad (rowE i r)
theorem scanF_app : ∀ (a b : List FRow) (i : Nat), scanF i (a ++ b) = match scanF i a with | .bad c => .bad c | .ok m => scanF m b
  | [], b, i => by rw [scanF]; rfl
  | r :: l, b, i => by
    rw [List.cons_append, scanF, scanF]
    split
    · exact scanF_app l b (i + 1)
    · rfl
def dec : VOut → VOut
  | .bad c => .bad c
  | .ok m => .ok (m - 1)
def inc : VOut → VOut
  | .bad c => .bad c
  | .ok m => .ok (m + 1)
theorem scan_it : ∀ (N : Nat) (t : It), sizeIt t ≤ N → ∀ (d n k : Nat) (up : List It), scanF n (flatIt d k up t) = inc (vIt d n (up.take k) t)
  | 0, t, h, d, n, k, up => by have := sizeIt_eq t; omega
  | N + 1, t, h, d, n, k, up => by
    have hks : ∀ (l all : List It) (m j : Nat), (∀ x ∈ l, sizeIt x ≤ N) → all.drop j = l → scanF (m + 1) (flatKs (d + 1) j all l) = inc (vKs d m (all.take j) l) := by
      intro l
      induction l with
      | nil => intro all m j _ _; rw [flatKs, scanF, vKs]; rfl
      | cons x r ih =>
        intro all m j hx hd
        have hj : all[j]? = some x := by
          have := congrArg (fun l => l[0]?) hd
          simpa using this
        obtain ⟨hjl, hje⟩ := List.getElem?_eq_some_iff.1 hj
        have hd2 : all.drop (j + 1) = r := by
          rw [List.drop_eq_getElem_cons hjl] at hd
          injection hd
        rw [flatKs, scanF_app, scan_it N x (hx x (by simp)) (d + 1) (m + 1) j all, vKs]
        cases hv : vIt (d + 1) (m + 1) (all.take j) x with
        | bad c => rfl
        | ok m' =>
          show scanF (m' + 1) (flatKs (d + 1) (j + 1) all r) = inc (vKs d m' (all.take j ++ [x]) r)
          rw [ih all m' (j + 1) (fun y hy => hx y (List.mem_cons_of_mem _ hy)) hd2, List.take_succ_eq_append_getElem hjl, hje]
    rw [flatIt_eq, scanF, vIt_eq]
    have hE : rowE n ⟨t, d, k, up⟩ = if 6 < d ∨ 300 < n ∨ greatB t = true then 2 else if labelOk d (up.take k) t = false then 7 else if textsOk t = false then 1 else 0 := rfl
    rw [hE]
    by_cases h1 : 6 < d ∨ 300 < n ∨ greatB t = true
    · rw [if_pos h1, if_pos h1, if_neg (by decide)]; rfl
    · rw [if_neg h1, if_neg h1]
      by_cases h2 : labelOk d (up.take k) t = false
      · rw [if_pos h2, if_pos h2, if_neg (by decide)]; rfl
      · rw [if_neg h2, if_neg h2]
        by_cases h3 : textsOk t = false
        · rw [if_pos h3, if_pos h3, if_neg (by decide)]; rfl
        · rw [if_neg h3, if_neg h3, if_pos rfl]
          have := hks t.kids t.kids n 0 (fun x hx => by have := kid_size hx; omega) (by rw [List.drop_zero])
          rw [this, List.take_zero]
/-- The look at the flat rows tells what the look at the law tells. -/
theorem scan_law (t : It) : scanF 0 (flatIt 0 0 [] t) = inc (vIt 0 0 [] t) := scan_it _ t (Nat.le_refl _) 0 0 0 []
end Go.Proofs.YtgfaeeacndpniaaDoor
namespace Go.Proofs.YtgfaeeacndpniaaDoor
open Go.RowKit Go.Extern.Stop Go.Stop Go.Extern

theorem bl_len (s : ByteArray) : (bl s).length = s.size := size_bl s
def bar : List UInt8 := [124]
def lawL : List UInt8 := [108, 97, 119]
def tailL (t : List UInt8) : List UInt8 := if t.length = 0 then [] else 32 :: t
/-- A line of the form. -/
def rowL (d : Nat) (f t : List UInt8) : List UInt8 := List.replicate (2 * d) 32 ++ (f ++ (tailL t ++ [10]))
def linesL (d : Nat) : List ByteArray → List UInt8
  | [] => []
  | s :: r => rowL d bar (bl s) ++ linesL d r
mutual
def contL : Nat → It → List UInt8
  | d, .mk _ _ c k => linesL d c ++ contKs d k
def contKs : Nat → List It → List UInt8
  | _, [] => []
  | d, t :: r => (rowL d (bl t.label) (bl t.head) ++ contL (d + 1) t) ++ contKs d r
end
/-- THE FORM. -/
def formL (t : It) : List UInt8 := rowL 0 lawL (bl t.head) ++ contL 0 t
theorem contL_eq (d : Nat) (t : It) : contL d t = linesL d t.lines ++ contKs d t.kids := by cases t; rw [contL]; rfl
theorem linesL_app (d : Nat) : ∀ a b : List ByteArray, linesL d (a ++ b) = linesL d a ++ linesL d b
  | [], b => rfl
  | s :: r, b => by rw [List.cons_append, linesL, linesL, linesL_app d r b, List.append_assoc]
theorem contKs_app (d : Nat) : ∀ a b : List It, contKs d (a ++ b) = contKs d a ++ contKs d b
  | [], b => by rw [contKs]; rfl
  | t :: r, b => by rw [List.cons_append, contKs, contKs, contKs_app d r b]; simp only [List.append_assoc]
theorem linesL_take (d : Nat) (l : List ByteArray) (i : Nat) (s : ByteArray) (h : l[i]? = some s) : linesL d (l.take (i + 1)) = linesL d (l.take i) ++ rowL d bar (bl s) := by
  obtain ⟨hi, e⟩ := List.getElem?_eq_some_iff.1 h
  rw [List.take_succ_eq_append_getElem hi, e, linesL_app, linesL, linesL, List.append_nil]
theorem contKs_take (d : Nat) (l : List It) (i : Nat) (t : It) (h : l[i]? = some t) : contKs d (l.take (i + 1)) = contKs d (l.take i) ++ (rowL d (bl t.label) (bl t.head) ++ contL (d + 1) t) := by
  obtain ⟨hi, e⟩ := List.getElem?_eq_some_iff.1 h
  rw [List.take_succ_eq_append_getElem hi, e, contKs_app, contKs, contKs, List.append_nil]
theorem tailL_len (t : List UInt8) : (tailL t).length ≤ t.length + 1 := by unfold tailL; split <;> simp
theorem rowL_len (d : Nat) (f t : List UInt8) : (rowL d f t).length ≤ 2 * d + f.length + t.length + 2 := by
  have := tailL_len t
  unfold rowL
  simp only [List.length_append, List.length_replicate, List.length_cons, List.length_nil]
  omega
theorem mul_part (D a b : Nat) : (2 * D + 4) * (a + b) = (2 * D + 4) * a + (2 * D + 4) * b := Nat.mul_add _ _ _
theorem mul_one_more (D a : Nat) : a + 2 * D + 4 ≤ (2 * D + 4) * (a + 1) := by
  rw [Nat.mul_add]
  have : a ≤ (2 * D + 4) * a := Nat.le_mul_of_pos_left a (by omega)
  omega
theorem linesL_len (d D : Nat) (h : d ≤ D) : ∀ l : List ByteArray, (linesL d l).length ≤ (2 * D + 4) * sizeBs l
  | [] => by simp [linesL]
  | s :: r => by
    have ih := linesL_len d D h r
    have h1 := rowL_len d bar (bl s)
    rw [bl_len] at h1
    have h2 : bar.length = 1 := rfl
    have h3 := mul_one_more D s.size
    rw [linesL, sizeBs, List.length_append, mul_part]
    omega
theorem cont_len : ∀ (N : Nat) (t : It), sizeIt t ≤ N → ∀ d D, d + (sizeBs t.lines + sizeIts t.kids) ≤ D → (contL d t).length ≤ (2 * D + 4) * (sizeBs t.lines + sizeIts t.kids)
  | 0, t, h, d, D, _ => by have := sizeIt_eq t; omega
  | N + 1, t, h, d, D, hD => by
    have hs := sizeIt_eq t
    have hks : ∀ l : List It, (∀ x ∈ l, sizeIt x ≤ N) → d + sizeIts l ≤ D → (contKs d l).length ≤ (2 * D + 4) * sizeIts l := by
      intro l
      induction l with
      | nil => intro _ _; rw [contKs]; simp
      | cons x r ih =>
        intro hx hl
        rw [sizeIts] at hl
        have h0 := ih (fun y hy => hx y (List.mem_cons_of_mem _ hy)) (by omega)
        have hsx := sizeIt_eq x
        have h1 := cont_len N x (hx x (by simp)) (d + 1) D (by omega)
        have h2 := rowL_len d (bl x.label) (bl x.head)
        rw [bl_len, bl_len] at h2
        have h3 := mul_one_more D (x.label.size + x.head.size)
        rw [contKs, sizeIts, List.length_append, List.length_append, mul_part]
        have h4 : sizeIt x = (x.label.size + x.head.size + 1) + (sizeBs x.lines + sizeIts x.kids) := by omega
        rw [h4, mul_part]
        omega
    have h1 := linesL_len d D (by omega) t.lines
    have h2 := hks t.kids (fun x hx => by have := kid_size hx; omega) (by omega)
    rw [contL_eq, List.length_append, mul_part]
    omega
theorem cont_bd {t : It} (h : sizeIt t ≤ 1048576) : (contL 0 t).length ≤ 2199027449856 := by
  have hs := sizeIt_eq t
  have h1 := cont_len _ t (Nat.le_refl _) 0 1048576 (by omega)
  have h2 : (2 * 1048576 + 4) * (sizeBs t.lines + sizeIts t.kids) ≤ (2 * 1048576 + 4) * 1048576 := Nat.mul_le_mul_left _ (by omega)
  omega
theorem cont_ks_le (d : Nat) (t : It) (i : Nat) : (linesL d t.lines).length + (contKs d (t.kids.take i)).length ≤ (contL d t).length := by
  rw [contL_eq, List.length_append]
  have : contKs d t.kids = contKs d (t.kids.take i) ++ contKs d (t.kids.drop i) := by rw [← contKs_app, List.take_append_drop]
  rw [this, List.length_append]
  omega
theorem lines_le (d : Nat) (t : It) (i : Nat) : (linesL d (t.lines.take i)).length ≤ (contL d t).length := by
  rw [contL_eq, List.length_append]
  have : linesL d t.lines = linesL d (t.lines.take i) ++ linesL d (t.lines.drop i) := by rw [← linesL_app, List.take_append_drop]
  rw [this, List.length_append]
  omega
/-! The form out of the flat rows. -/
def rowForm (r : FRow) : List UInt8 := rowL (r.deep - 1) (bl r.item.label) (bl r.item.head) ++ linesL r.deep r.item.lines
def flatForm : List FRow → List UInt8
  | [] => []
  | r :: l => rowForm r ++ flatForm l
theorem flatForm_app : ∀ a b : List FRow, flatForm (a ++ b) = flatForm a ++ flatForm b
  | [], b => rfl
  | s :: r, b => by rw [List.cons_append, flatForm, flatForm, flatForm_app r b, List.append_assoc]
theorem flatForm_it : ∀ (N : Nat) (t : It), sizeIt t ≤ N → ∀ (d n : Nat) (up : List It), flatForm (flatIt (d + 1) n up t) = rowL d (bl t.label) (bl t.head) ++ contL (d + 1) t
  | 0, t, h, d, n, up => by have := sizeIt_eq t; omega
  | N + 1, t, h, d, n, up => by
    have hks : ∀ (l all : List It) (j : Nat), (∀ x ∈ l, sizeIt x ≤ N) → flatForm (flatKs (d + 2) j all l) = contKs (d + 1) l := by
      intro l
      induction l with
      | nil => intro all j _; rw [flatKs, contKs]; rfl
      | cons x r ih =>
        intro all j hx
        rw [flatKs, contKs, flatForm_app, flatForm_it N x (hx x (by simp)) (d + 1) j all, ih all (j + 1) (fun y hy => hx y (List.mem_cons_of_mem _ hy))]
    rw [flatIt_eq, flatForm, hks t.kids t.kids 0 (fun x hx => by have := kid_size hx; omega), contL_eq]
    show (rowL (d + 1 - 1) _ _ ++ linesL (d + 1) _) ++ _ = _
    rw [Nat.add_sub_cancel, List.append_assoc]
theorem flatForm_ks (d : Nat) : ∀ (l all : List It) (j : Nat), flatForm (flatKs (d + 1) j all l) = contKs d l
  | [], all, j => by rw [flatKs, contKs]; rfl
  | x :: r, all, j => by rw [flatKs, contKs, flatForm_app, flatForm_it _ x (Nat.le_refl _), flatForm_ks d r all (j + 1)]
end Go.Proofs.YtgfaeeacndpniaaDoor
