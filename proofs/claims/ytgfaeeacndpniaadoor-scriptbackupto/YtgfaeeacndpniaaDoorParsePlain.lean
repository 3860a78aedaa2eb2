/-
  PARSE OF PRINT: what is written of a law is read as it. Plain.
-/
import Derived.Test.YtgfaeeacndpniaaDoorFlatAll
import Derived.Test.YtgfaeeacndpniaaDoorPlains2
import Derived.Test.YtgfaeeacndpniaaDoorPlainB
namespace Go.Proofs.YtgfaeeacndpniaaDoor
open Go.RowKit Go.Extern.Stop Go.Stop Go.Extern

theorem bl_ext (s : ByteArray) (a b : Nat) : bl (s.extract a b) = ((bl s).drop a).take (b - a) := by simp [bl]
theorem ext_drop (l : List UInt8) (k : Nat) : (ofL l).extract k (ofL l).size = ofL (l.drop k) := by
  apply bl_inj
  rw [bl_ext, bl_ofL, bl_ofL, ← size_bl, bl_ofL, List.take_of_length_le (by rw [List.length_drop]; exact Nat.le_refl _)]
theorem ext_take (l : List UInt8) (k : Nat) : (ofL l).extract 0 k = ofL (l.take k) := by
  apply bl_inj
  rw [bl_ext, bl_ofL, bl_ofL, List.drop_zero, Nat.sub_zero]
theorem ofL_len (l : List UInt8) : (ofL l).size = l.length := by rw [← size_bl, bl_ofL]
def PlainL (l : List UInt8) : Prop := ∀ c ∈ l, okN c.toNat = true
theorem plain_iff (s : ByteArray) : plainB s = true ↔ PlainL (bl s) := by
  constructor
  · intro h c hc
    have h1 : AllP okN s 0 s.size := by unfold plainB at h; exact @of_decide_eq_true _ (Classical.propDecidable _) h
    obtain ⟨i, hi, e⟩ := List.mem_iff_getElem.1 hc
    have hs : i < s.size := by rw [← size_bl]; exact hi
    have h2 := bl_get s i hs
    rw [List.getElem?_eq_getElem hi, e] at h2
    injection h2 with h2
    rw [h2]
    exact h1 i hs (Nat.zero_le _) hs
  · intro h
    apply plainB_true
    intro i hi _ _
    exact h _ (List.mem_of_getElem? (bl_get s i hi))
theorem PlainL.app {a b : List UInt8} (ha : PlainL a) (hb : PlainL b) : PlainL (a ++ b) := fun c hc => by
  rcases List.mem_append.1 hc with h | h
  · exact ha c h
  · exact hb c h
theorem plain_tail {s : List UInt8} (h : PlainL s) : PlainL (tailL s) := by
  unfold tailL
  split
  · intro c hc; cases hc
  · intro c hc
    rcases List.mem_cons.1 hc with rfl | hc
    · decide
    · exact h c hc
theorem plain_rep (k : Nat) : PlainL (List.replicate k 32) := fun c hc => by
  rw [List.eq_of_mem_replicate hc]; decide
theorem plain_no10 {l : List UInt8} (h : PlainL l) : ∀ c ∈ l, c ≠ 10 := fun c hc e => by
  have := h c hc
  rw [e] at this
  exact absurd this (by decide)
/-- A row of the form, without its end. -/
def R (d : Nat) (f t : List UInt8) : List UInt8 := List.replicate (2 * d) 32 ++ (f ++ tailL t)
theorem rowL_R (d : Nat) (f t : List UInt8) : rowL d f t = R d f t ++ [10] := by unfold rowL R; simp only [List.append_assoc]
mutual
def contR : Nat → It → List (List UInt8)
  | d, .mk _ _ c k => (c.map fun s => R d bar (bl s)) ++ kidsR d k
def kidsR : Nat → List It → List (List UInt8)
  | _, [] => []
  | d, t :: r => (R d (bl t.label) (bl t.head) :: contR (d + 1) t) ++ kidsR d r
end
theorem contR_eq (d : Nat) (t : It) : contR d t = (t.lines.map fun s => R d bar (bl s)) ++ kidsR d t.kids := by cases t; rw [contR]; rfl
def joinL : List (List UInt8) → List UInt8
  | [] => []
  | r :: l => (r ++ [10]) ++ joinL l
theorem joinL_app : ∀ a b : List (List UInt8), joinL (a ++ b) = joinL a ++ joinL b
  | [], b => rfl
  | r :: a, b => by rw [List.cons_append, joinL, joinL, joinL_app a b]; simp only [List.append_assoc]
theorem join_lines (d : Nat) : ∀ l : List ByteArray, linesL d l = joinL (l.map fun s => R d bar (bl s))
  | [] => rfl
  | s :: r => by rw [linesL, List.map_cons, joinL, join_lines d r, rowL_R]
theorem join_cont : ∀ (N : Nat) (t : It), sizeIt t ≤ N → ∀ d, contL d t = joinL (contR d t)
  | 0, t, h, d => by have := sizeIt_eq t; omega
  | N + 1, t, h, d => by
    have hks : ∀ l : List It, (∀ x ∈ l, sizeIt x ≤ N) → contKs d l = joinL (kidsR d l) := by
      intro l
      induction l with
      | nil => intro _; rw [contKs, kidsR]; rfl
      | cons x r ih =>
        intro hx
        rw [contKs, kidsR, joinL_app, joinL, ih (fun y hy => hx y (List.mem_cons_of_mem _ hy)), join_cont N x (hx x (by simp)), rowL_R]
    rw [contL_eq, contR_eq, joinL_app, join_lines, hks t.kids (fun x hx => by have := kid_size hx; omega)]
theorem spl_row : ∀ (r rest : List UInt8), (∀ c ∈ r, c ≠ 10) → spl ((r ++ [10]) ++ rest) = r :: spl rest
  | [], rest, _ => by rw [List.nil_append]; exact spl_10 rest
  | c :: r, rest, h => by
    have ih := spl_row r rest (fun x hx => h x (List.mem_cons_of_mem _ hx))
    rw [List.cons_append, List.cons_append, spl_c (h c (by simp)) ih]
theorem spl_join : ∀ rows : List (List UInt8), (∀ r ∈ rows, ∀ c ∈ r, c ≠ 10) → spl (joinL rows) = rows ++ [[]]
  | [], _ => rfl
  | r :: l, h => by rw [joinL, spl_row r _ (h r (by simp)), spl_join l (fun x hx => h x (List.mem_cons_of_mem _ hx))]; rfl
theorem rowsL_join (rows : List (List UInt8)) (h : ∀ r ∈ rows, ∀ c ∈ r, c ≠ 10) : rowsL (joinL rows) = rows := by
  unfold rowsL
  rw [spl_join rows h, List.getLast?_concat, if_pos rfl, List.dropLast_concat]
/-! What a row says. -/
theorem run_rep {l : List UInt8} {x : UInt8} {r : List UInt8} (hl : l = x :: r) (hx : x ≠ 32) (k : Nat) : runP blN (ofL (List.replicate k 32 ++ l)) = k := by
  unfold runP
  rw [bl_ofL, hl]
  have : ∀ k : Nat, ((List.replicate k 32 ++ x :: r).takeWhile fun c : UInt8 => blN c.toNat) = List.replicate k 32 := by
    intro k
    induction k with
    | zero =>
      rw [List.replicate_zero, List.nil_append, List.takeWhile_cons]
      have : blN x.toNat = false := by
        unfold blN
        rw [beq_eq_false_iff_ne]
        intro e
        exact hx (UInt8.toNat_inj.1 e)
      rw [this]; rfl
    | succ k ih =>
      rw [List.replicate_succ, List.cons_append, List.takeWhile_cons]
      have : blN (32 : UInt8).toNat = true := by decide
      rw [this, ih]; rfl
  rw [this k, List.length_replicate]
theorem rt_tail {s : ByteArray} (h : lineB s = true) : rt (ofL (tailL (bl s))) = (0, s) := by
  have h3 : s.size ≤ 300 := by
    unfold lineB at h
    simp only [Bool.and_eq_true, decide_eq_true_eq] at h
    exact h.1.1
  by_cases h0 : s.size = 0
  · have e : tailL (bl s) = [] := by unfold tailL; rw [if_pos (by rw [bl_len]; exact h0)]
    rw [e]
    unfold rt
    rw [dif_pos (by rw [ofL_len]; rfl)]
    have : s = ⟨#[]⟩ := bl_inj (List.eq_nil_of_length_eq_zero (by rw [size_bl]; exact h0))
    rw [this]
  · have e : tailL (bl s) = 32 :: bl s := by unfold tailL; rw [if_neg (by rw [bl_len]; exact h0)]
    rw [e]
    have hx : (ofL (32 :: bl s)).extract 1 (ofL (32 :: bl s)).size = s := by rw [ext_drop, List.drop_succ_cons, List.drop_zero, ofL_bl]
    have h1 : (ofL (32 :: bl s)).size ≠ 0 := by rw [ofL_len, List.length_cons]; omega
    have h2 : (ofL (32 :: bl s))[0].toNat = 32 := rfl
    unfold rt
    rw [dif_neg h1, if_pos h2, hx, if_neg (by omega), if_neg (by rw [h]; simp [h0])]
theorem starts_of {l r : List UInt8} {x : UInt8} (h : l = x :: r) (c : Nat) : startsAt (ofL l) c = (x.toNat == c) := by
  subst h
  unfold startsAt
  rw [dif_pos (by rw [ofL_len, List.length_cons]; omega)]
  rfl
theorem line_plain {s : ByteArray} (h : lineB s = true) : PlainL (bl s) := by
  unfold lineB at h
  simp only [Bool.and_eq_true, decide_eq_true_eq] at h
  exact (plain_iff s).1 h.1.2
theorem R_plain {d : Nat} {f t : List UInt8} (hf : PlainL f) (ht : PlainL t) : PlainL (R d f t) := (plain_rep _).app (hf.app (plain_tail ht))
theorem R_drop (d : Nat) (f t : List UInt8) : (ofL (R d f t)).extract (2 * d) (ofL (R d f t)).size = ofL (f ++ tailL t) := by
  rw [ext_drop]
  unfold R
  rw [List.drop_append_of_le_length (by rw [List.length_replicate]; exact Nat.le_refl _), List.drop_of_length_le (by rw [List.length_replicate]; exact Nat.le_refl _), List.nil_append]
theorem R_run {d : Nat} {f t : List UInt8} {x : UInt8} {r : List UInt8} (hf : f = x :: r) (hx : x ≠ 32) : runP blN (ofL (R d f t)) = 2 * d := by
  unfold R
  exact run_rep (l := f ++ tailL t) (x := x) (r := r ++ tailL t) (by rw [hf]; rfl) hx (2 * d)
theorem R_blank {d : Nat} {f t : List UInt8} {x : UInt8} {r : List UInt8} (hf : f = x :: r) (hx : x ≠ 32) : blankB (ofL (R d f t)) = false := by
  unfold blankB
  rw [R_run hf hx]
  apply decide_eq_false
  rw [ofL_len]
  unfold R
  rw [List.length_append, List.length_replicate, List.length_append, hf, List.length_cons]
  omega
/-- A line of an item that was just opened. -/
theorem take_line {zs : List It} {cur : It} {n d : Nat} (hz : zs.length = d) {s : ByteArray} (hs : lineB s = true) (hl : cur.lines.length < 40) : takeS (zs ++ [cur]) n (ofL (R d bar (bl s))) = .good (zs ++ [cur.addLine s]) n := by
  have hp : plainB (ofL (R d bar (bl s))) = true := by
    rw [plain_iff, bl_ofL]
    exact R_plain (fun c hc => by rw [show c = 124 by simpa [bar] using hc]; decide) (line_plain hs)
  have hr : runP blN (ofL (R d bar (bl s))) = 2 * d := R_run (x := 124) (r := []) rfl (by decide)
  have hlen : (zs ++ [cur]).length = d + 1 := by rw [List.length_append, hz]; rfl
  rw [takeS_4 hp (by omega) (by rw [hr, hlen]; omega) (by rw [hr, R_drop]; exact (starts_of (l := bar ++ tailL (bl s)) (x := 124) (r := tailL (bl s)) rfl 124).trans rfl)]
  rw [hr, R_drop, Nat.mul_div_cancel_left _ (by omega)]
  have h1 : (ofL (bar ++ tailL (bl s))).extract 1 (ofL (bar ++ tailL (bl s))).size = ofL (tailL (bl s)) := by rw [ext_drop]; rfl
  have h2 : (zs ++ [cur]).drop d = [cur] := by rw [← hz, List.drop_left]
  unfold lineS
  rw [h1, h2, closeAll_one, rt_tail hs, if_neg (by omega), if_neg (by omega), if_pos rfl]
  have h3 : (zs ++ [cur]).set d (cur.addLine s) = zs ++ [cur.addLine s] := by
    rw [List.set_append_right _ _ (by omega), hz, Nat.sub_self]; rfl
  rw [h3]
theorem lab_first {s : ByteArray} (h : isLab s = true) : ∃ x r, bl s = x :: r ∧ x ≠ 32 ∧ x ≠ 124 ∧ PlainL (bl s) ∧ (∀ c ∈ bl s, c ≠ 32) ∧ s.size ≤ 6 := by
  obtain ⟨k, l, hL⟩ : ∃ k l, Lab s k l := by unfold isLab at h; exact @of_decide_eq_true _ (Classical.propDecidable _) h
  have hb : ∀ c ∈ bl s, 48 ≤ c.toNat ∧ c.toNat ≤ 122 := fun c hc => by
    obtain ⟨i, hi, e⟩ := List.mem_iff_getElem.1 hc
    have hs : i < s.size := by rw [← size_bl]; exact hi
    have h2 := bl_get s i hs
    rw [List.getElem?_eq_getElem hi, e] at h2
    injection h2 with h2
    rw [h2]
    rcases hL.byte i hs with h | h | h
    · omega
    · omega
    · omega
  have hs0 : 0 < s.size := by have := hL.k1; have := hL.ks; omega
  cases hx : bl s with
  | nil => have := size_bl s; rw [hx] at this; simp at this; omega
  | cons x r =>
    have h1 := hb x (by rw [hx]; simp)
    refine ⟨x, r, rfl, fun e => by rw [e] at h1; exact absurd h1 (by decide), fun e => by rw [e] at h1; exact absurd h1 (by decide), fun c hc => ?_, fun c hc e => ?_, by have := hL.kc; have := hL.k4; omega⟩
    · have := hb c (by rw [hx]; exact hc)
      rw [okN_iff]; omega
    · have := hb c (by rw [hx]; exact hc)
      rw [e] at this
      exact absurd this (by decide)
theorem run_lab {s t : ByteArray} (h : ∀ c ∈ bl s, c ≠ 32) : runP nbN (ofL (bl s ++ tailL (bl t))) = (bl s).length := by
  unfold runP
  rw [bl_ofL]
  have : ∀ l : List UInt8, (∀ c ∈ l, c ≠ 32) → ((l ++ tailL (bl t)).takeWhile fun c : UInt8 => nbN c.toNat) = l := by
    intro l
    induction l with
    | nil =>
      intro _
      unfold tailL
      split
      · rfl
      · rw [List.nil_append, List.takeWhile_cons]
        rfl
    | cons c l ih =>
      intro hc
      rw [List.cons_append, List.takeWhile_cons]
      have : nbN c.toNat = true := by
        unfold nbN
        rw [bne_iff_ne]
        intro e
        exact hc c (by simp) (UInt8.toNat_inj.1 e)
      rw [this, ih (fun x hx => hc x (List.mem_cons_of_mem _ hx))]
      rfl
  rw [this _ h]
/-- A provision, where an item so deep is shut. -/
theorem take_prov {z : List It} {n d : Nat} (hd : d < z.length) (hd6 : d < 6) (hn : n < 300) {a b : ByteArray} (ha : isLab a = true) (hb : lineB b = true) (hk : hasKid (closeAll (z.drop d)) a = false) :
    takeS z n (ofL (R d (bl a) (bl b))) = .good (shutB d z ++ [It.mk a b [] []]) (n + 1) := by
  obtain ⟨x, r, hx, h32, h124, hpl, hnb, _⟩ := lab_first ha
  have hp : plainB (ofL (R d (bl a) (bl b))) = true := by
    rw [plain_iff, bl_ofL]
    exact R_plain hpl (line_plain hb)
  have hr : runP blN (ofL (R d (bl a) (bl b))) = 2 * d := R_run hx h32
  rw [takeS_5 hp (by omega) (by rw [hr]; omega) (by
    rw [hr, R_drop, starts_of (x := x) (r := r ++ tailL (bl b)) (by rw [hx]; rfl)]
    rw [beq_eq_false_iff_ne]
    intro e
    exact h124 (UInt8.toNat_inj.1 e))]
  rw [hr, R_drop, Nat.mul_div_cancel_left _ (by omega)]
  have h1 : (ofL (bl a ++ tailL (bl b))).extract 0 (bl a).length = a := by rw [ext_take, List.take_left, ofL_bl]
  have h2 : (ofL (bl a ++ tailL (bl b))).extract (bl a).length (ofL (bl a ++ tailL (bl b))).size = ofL (tailL (bl b)) := by rw [ext_drop, List.drop_left]
  unfold provS
  rw [run_lab hnb, h1, h2, rt_tail hb, if_neg (by rw [ha, hk]; simp), if_neg (by omega), if_pos rfl]
theorem goR_step {z z' : List It} {n n' i : Nat} {row : ByteArray} {r : List ByteArray} (hb : blankB row = false) (hc : takeS z n row = .good z' n') : goR z n i (row :: r) = goR z' n' (i + 1) r := by
  rw [goR, if_neg (by rw [hb]; decide), hc]
theorem go_lines {zs : List It} {n d : Nat} (hz : zs.length = d) (a b : ByteArray) (rest : List ByteArray) : ∀ (ls done : List ByteArray) (i : Nat), (∀ s ∈ ls, lineB s = true) → done.length + ls.length ≤ 40 →
    goR (zs ++ [It.mk a b done []]) n i ((ls.map fun s => R d bar (bl s)).map ofL ++ rest) = goR (zs ++ [It.mk a b (done ++ ls) []]) n (i + ls.length) rest
  | [], done, i, _, _ => by simp
  | s :: r, done, i, hl, hn => by
    rw [List.length_cons] at hn
    have hb : blankB (ofL (R d bar (bl s))) = false := R_blank (f := bar) (x := 124) (r := []) rfl (by decide)
    rw [List.map_cons, List.map_cons, List.cons_append, goR_step hb (take_line hz (hl s (by simp)) (by show done.length < 40; omega))]
    show goR (zs ++ [It.mk a b (done ++ [s]) []]) n (i + 1) _ = _
    rw [go_lines hz a b rest r (done ++ [s]) (i + 1) (fun x hx => hl x (List.mem_cons_of_mem _ hx)) (by rw [List.length_append, List.length_singleton]; omega), List.append_assoc, List.length_cons, show i + 1 + r.length = i + (r.length + 1) by omega]
    rfl
/-- What holds of a valid item. -/
theorem v_parts {d n m : Nat} {ah : List It} {t : It} (h : vIt d n ah t = .ok m) : d ≤ 6 ∧ n ≤ 300 ∧ t.lines.length ≤ 40 ∧ labelOk d ah t = true ∧ lineB t.head = true ∧ (∀ s ∈ t.lines, lineB s = true) ∧ vKs d n [] t.kids = .ok m := by
  rw [vIt_eq] at h
  split at h
  · cases h
  · rename_i h1
    split at h
    · cases h
    · rename_i h2
      split at h
      · cases h
      · rename_i h3
        have hg : greatB t = false := by cases hg : greatB t; rfl; exact absurd (.inr (.inr hg)) h1
        unfold greatB at hg
        rw [Bool.or_eq_false_iff] at hg
        have hl := of_decide_eq_false hg.1
        rw [Bool.not_eq_false] at h2 h3
        unfold textsOk at h3
        rw [Bool.and_eq_true] at h3
        refine ⟨by omega, by omega, by omega, h2, h3.1, fun s hs => ?_, h⟩
        have h4 := h3.2
        rw [Bool.not_eq_true', List.any_eq_false] at h4
        have h5 := h4 s hs
        unfold badB at h5
        simpa using h5
theorem parse_cont : ∀ (N : Nat) (t : It), sizeIt t ≤ N → ∀ (d n m : Nat) (ah zs : List It) (i : Nat) (rest : List ByteArray), vIt d n ah t = .ok m → zs.length = d →
    ∃ z', goR (zs ++ [It.mk t.label t.head [] []]) n i ((contR d t).map ofL ++ rest) = goR z' m (i + (contR d t).length) rest ∧ z'.take d = zs ∧ d < z'.length ∧ closeAll (z'.drop d) = t
  | 0, t, h, d, n, m, ah, zs, i, rest, _, _ => by have := sizeIt_eq t; omega
  | N + 1, t, h, d, n, m, ah, zs, i, rest, hv, hz => by
    obtain ⟨_, _, hln, _, _, hlb, hks⟩ := v_parts hv
    have hkids : ∀ (ks done : List It) (n : Nat) (z : List It) (i : Nat), (∀ x ∈ ks, sizeIt x ≤ N) → vKs d n done ks = .ok m → z.take d = zs → d < z.length → closeAll (z.drop d) = It.mk t.label t.head t.lines done →
        ∃ z', goR z n i ((kidsR d ks).map ofL ++ rest) = goR z' m (i + (kidsR d ks).length) rest ∧ z'.take d = zs ∧ d < z'.length ∧ closeAll (z'.drop d) = It.mk t.label t.head t.lines (done ++ ks) := by
      intro ks
      induction ks with
      | nil =>
        intro done n z i _ hv hz1 hz2 hz3
        rw [vKs] at hv
        injection hv with hv
        subst hv
        exact ⟨z, by rw [kidsR]; rfl, hz1, hz2, by rw [List.append_nil]; exact hz3⟩
      | cons x r ih =>
        intro done n z i hx hv hz1 hz2 hz3
        rw [vKs] at hv
        cases hvx : vIt (d + 1) (n + 1) done x with
        | bad c => rw [hvx] at hv; cases hv
        | ok m' =>
          rw [hvx] at hv
          have hv : vKs d m' (done ++ [x]) r = .ok m := hv
          obtain ⟨hd6, hn3, _, hlo, hhd, _, _⟩ := v_parts hvx
          have hlo2 : isLab x.label = true ∧ (done.any fun k => k.label.toList == x.label.toList) = false := by
            unfold labelOk at hlo
            rw [if_neg (by omega), Bool.and_eq_true, Bool.not_eq_true'] at hlo
            exact hlo
          obtain ⟨y, q, hy, h32, _, _, _, _⟩ := lab_first hlo2.1
          have hsh : shutB d z = zs ++ [It.mk t.label t.head t.lines done] := by unfold shutB; rw [hz1, hz3]
          have hstep : takeS z n (ofL (R d (bl x.label) (bl x.head))) = .good ((zs ++ [It.mk t.label t.head t.lines done]) ++ [It.mk x.label x.head [] []]) (n + 1) := by
            rw [← hsh]
            exact take_prov hz2 (by omega) (by omega) hlo2.1 hhd (by rw [hz3]; exact hlo2.2)
          obtain ⟨z1, e1, e2, e3, e4⟩ := parse_cont N x (hx x (by simp)) (d + 1) (n + 1) m' done (zs ++ [It.mk t.label t.head t.lines done]) (i + 1) ((kidsR d r).map ofL ++ rest) hvx (by rw [List.length_append, hz]; rfl)
          have hcur : z1[d]? = some (It.mk t.label t.head t.lines done) := by
            have h1 : (z1.take (d + 1))[d]? = z1[d]? := by rw [List.getElem?_take, if_pos (by omega)]
            rw [← h1, e2, List.getElem?_append_right (by omega), hz, Nat.sub_self]
            rfl
          have hz1' : z1.take d = zs := by
            have h1 : (z1.take (d + 1)).take d = z1.take d := by rw [List.take_take, Nat.min_eq_left (by omega)]
            rw [← h1, e2, ← hz, List.take_left]
          have hcl : closeAll (z1.drop d) = It.mk t.label t.head t.lines (done ++ [x]) := by
            rw [closeAll_drop z1 d _ hcur e3, e4]; rfl
          obtain ⟨z2, g1, g2, g3, g4⟩ := ih (done ++ [x]) m' z1 (i + 1 + (contR (d + 1) x).length) (fun y hy => hx y (List.mem_cons_of_mem _ hy)) hv hz1' (by omega) hcl
          refine ⟨z2, ?_, g2, g3, by rw [g4, List.append_assoc]; rfl⟩
          rw [kidsR, List.map_append, List.map_cons, List.cons_append, List.cons_append, goR_step (R_blank hy h32) hstep, List.append_assoc (List.map ofL (contR (d + 1) x)), e1, g1, List.length_append, List.length_cons]
          congr 1
          omega
    have h1 := go_lines (n := n) hz t.label t.head ((kidsR d t.kids).map ofL ++ rest) t.lines [] i hlb (by simpa using hln)
    rw [List.nil_append] at h1
    obtain ⟨z', g1, g2, g3, g4⟩ := hkids t.kids [] n (zs ++ [It.mk t.label t.head t.lines []]) (i + t.lines.length) (fun x hx => by have := kid_size hx; omega) hks (by rw [← hz, List.take_left]) (by rw [List.length_append, hz]; simp) (by rw [← hz, List.drop_left, closeAll_one])
    refine ⟨z', ?_, g2, g3, by rw [g4, List.nil_append, ← It.eta]⟩
    rw [contR_eq, List.map_append, List.append_assoc, h1, g1, List.length_append, List.length_map]
    congr 1
    omega
theorem rows_plain : ∀ (N : Nat) (t : It), sizeIt t ≤ N → ∀ (d n m : Nat) (ah : List It), vIt d n ah t = .ok m → ∀ r ∈ contR d t, PlainL r
  | 0, t, h, d, n, m, ah, _ => by have := sizeIt_eq t; omega
  | N + 1, t, h, d, n, m, ah, hv => by
    obtain ⟨_, _, _, _, _, hlb, hks⟩ := v_parts hv
    intro r hr
    rw [contR_eq] at hr
    rcases List.mem_append.1 hr with hr | hr
    · obtain ⟨s, hs, rfl⟩ := List.mem_map.1 hr
      exact R_plain (fun c hc => by rw [show c = 124 by simpa [bar] using hc]; decide) (line_plain (hlb s hs))
    · have hkids : ∀ (ks done : List It) (n : Nat), (∀ x ∈ ks, sizeIt x ≤ N) → vKs d n done ks = .ok m → ∀ r ∈ kidsR d ks, PlainL r := by
        intro ks
        induction ks with
        | nil => intro done n _ _ r hr; rw [kidsR] at hr; cases hr
        | cons x q ih =>
          intro done n hx hv r hr
          rw [vKs] at hv
          cases hvx : vIt (d + 1) (n + 1) done x with
          | bad c => rw [hvx] at hv; cases hv
          | ok m' =>
            rw [hvx] at hv
            have hv : vKs d m' (done ++ [x]) q = .ok m := hv
            obtain ⟨_, _, _, hlo, hhd, _, _⟩ := v_parts hvx
            unfold labelOk at hlo
            rw [if_neg (by omega), Bool.and_eq_true] at hlo
            obtain ⟨y, w, hy, h32, _, hpl, _, _⟩ := lab_first hlo.1
            rw [kidsR] at hr
            rcases List.mem_append.1 hr with hr | hr
            · rcases List.mem_cons.1 hr with rfl | hr
              · exact R_plain hpl (line_plain hhd)
              · exact rows_plain N x (hx x (by simp)) (d + 1) (n + 1) m' done hvx r hr
            · exact ih (done ++ [x]) m' (fun y hy => hx y (List.mem_cons_of_mem _ hy)) hv r hr
      exact hkids t.kids [] n (fun x hx => by have := kid_size hx; omega) hks r hr
theorem take_law {b : ByteArray} (hb : lineB b = true) : takeS [] 0 (ofL (R 0 lawL (bl b))) = .good [It.mk ⟨#[]⟩ b [] []] 0 := by
  have hpl : PlainL lawL := fun c hc => by
    simp only [lawL, List.mem_cons, List.not_mem_nil, or_false] at hc
    rcases hc with rfl | rfl | rfl <;> decide
  have hp : plainB (ofL (R 0 lawL (bl b))) = true := by
    rw [plain_iff, bl_ofL]
    exact R_plain hpl (line_plain hb)
  rw [takeS_2 hp]
  have h1 : (ofL (R 0 lawL (bl b))).extract 3 (ofL (R 0 lawL (bl b))).size = ofL (tailL (bl b)) := by rw [ext_drop]; rfl
  have h2 : Lib.hasPrefix (bl (ofL (R 0 lawL (bl b)))) [108, 97, 119] = true := by rw [bl_ofL]; rfl
  have h3 : (ofL (tailL (bl b))).size = 0 ∨ startsAt (ofL (tailL (bl b))) 32 = true := by
    by_cases h0 : (bl b).length = 0
    · exact .inl (by rw [ofL_len]; unfold tailL; rw [if_pos h0]; rfl)
    · refine .inr ?_
      have e : tailL (bl b) = 32 :: bl b := by unfold tailL; rw [if_neg h0]
      rw [starts_of e]; rfl
  unfold lawS
  rw [h1, if_pos ⟨h2, h3⟩, rt_tail hb, if_pos rfl]
  rfl
/-- PARSE OF PRINT. -/
theorem parse_print (t : It) (m : Nat) (hv : vIt 0 0 [] t = .ok m) (hl : (formL t).length ≤ 30000) : readB (ofL (formL t)) = .good t := by
  obtain ⟨_, _, _, hlo, hhd, _, _⟩ := v_parts hv
  have hlab : t.label = ⟨#[]⟩ := by
    unfold labelOk at hlo
    rw [if_pos rfl, decide_eq_true_eq] at hlo
    exact bl_inj (List.eq_nil_of_length_eq_zero (by rw [size_bl]; exact hlo))
  have hform : formL t = joinL (R 0 lawL (bl t.head) :: contR 0 t) := by
    unfold formL
    rw [joinL, rowL_R, join_cont _ t (Nat.le_refl _)]
  have hpl : PlainL lawL := fun c hc => by
    simp only [lawL, List.mem_cons, List.not_mem_nil, or_false] at hc
    rcases hc with rfl | rfl | rfl <;> decide
  have hrows : rowsB (ofL (formL t)) = (R 0 lawL (bl t.head) :: contR 0 t).map ofL := by
    unfold rowsB
    rw [bl_ofL, hform, rowsL_join]
    intro r hr
    rcases List.mem_cons.1 hr with rfl | hr
    · exact plain_no10 (R_plain hpl (line_plain hhd))
    · exact plain_no10 (rows_plain _ t (Nat.le_refl _) 0 0 m [] hv r hr)
  have hb : blankB (ofL (R 0 lawL (bl t.head))) = false := R_blank (f := lawL) (x := 108) (r := [97, 119]) rfl (by decide)
  unfold readB
  rw [if_neg (by rw [ofL_len]; omega), hrows, List.map_cons, goR_step hb (take_law hhd)]
  obtain ⟨z', g1, g2, g3, g4⟩ := parse_cont _ t (Nat.le_refl _) 0 0 m [] [] 1 [] hv rfl
  rw [hlab, List.nil_append, List.append_nil] at g1
  rw [g1, goR, if_neg (by omega)]
  rw [List.drop_zero] at g4
  rw [g4]
end Go.Proofs.YtgfaeeacndpniaaDoor
