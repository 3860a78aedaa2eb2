/-
  A law that is handed in, out of its reading: it lies in memory; how much there is of it.
-/
import Derived.Test.YtgfaeeacndpniaaDoorRows
import Derived.Test.YtgfaeeacndpniaaDoorMemBase
import Derived.ProofKit
import Derived.LaidMore
import Derived.OpenShut
import Derived.Stop.Joined
import Derived.WideLaws
import Derived.ChangeSlices
import Derived.ChangeSame
namespace Go.Proofs.YtgfaeeacndpniaaDoor
open Go.ChangeShapes Go.WideShapes Go.ChangeAt Go.WideMaps Go.WideElems Go.RowKit

def sizeBs : List ByteArray → Nat
  | [] => 0
  | s :: r => s.size + 1 + sizeBs r
mutual
/-- How much there is of a law. -/
def sizeIt : It → Nat
  | .mk a b c d => a.size + b.size + sizeBs c + sizeIts d + 1
def sizeIts : List It → Nat
  | [] => 0
  | t :: r => sizeIt t + sizeIts r
end
/-- The text of a reading. -/
def textOf {H : Type} : DataW H → ByteArray
  | .lit (.string l) => ⟨l.toArray⟩
  | _ => ⟨#[]⟩
theorem textOf_size {H : Type} (d : DataW H) : (textOf d).size + 1 ≤ Rows.uptoBulk d + 1 := by
  unfold textOf
  split
  · rw [Rows.uptoBulk]
    show (List.toArray _).size + 1 ≤ _
    rw [List.size_toArray]; omega
  · show 0 + 1 ≤ _
    omega
theorem texts_size {H : Type} : ∀ (l : List (DataW H)), (∀ d ∈ l, ∃ bs, d = .lit (.string bs)) → sizeBs (l.map textOf) ≤ Rows.uptoBulkAll l
  | [], _ => by simp [sizeBs]
  | d :: r, h => by
    obtain ⟨bs, rfl⟩ := h d (by simp)
    have ih := texts_size r (fun x hx => h x (List.mem_cons_of_mem _ hx))
    rw [List.map_cons, sizeBs, Rows.uptoBulkAll, Rows.uptoBulk]
    have : (textOf (H := H) (.lit (.string bs))).size = bs.length := by
      show (List.toArray _).size = _
      rw [List.size_toArray]
    omega
theorem its_size {H : Type} : ∀ (l : List (DataW H)) (T : Nat → It), (∀ i d, l[i]? = some d → sizeIt (T i) ≤ Rows.uptoBulk d) → sizeIts ((List.range l.length).map T) ≤ Rows.uptoBulkAll l
  | [], T, _ => by simp [sizeIts]
  | d :: r, T, h => by
    have ih := its_size r (fun i => T (i + 1)) (fun i d hd => h (i + 1) d (by simpa using hd))
    have h0 := h 0 d rfl
    rw [List.length_cons, List.range_succ_eq_map, List.map_cons, List.map_map, sizeIts, Rows.uptoBulkAll]
    have e : (T ∘ Nat.succ) = fun i => T (i + 1) := rfl
    rw [e]
    omega
section
variable {H : Type} {enc : TypeId × Value → H} {W : World}
theorem spot_none {a : Addr} {u : Value} (h : W.cell? a = some u) : ∃ b o, a = ⟨b, o, none⟩ := by
  obtain ⟨b, o, sp⟩ := a
  have hs := World.cell?_spot h
  have hs' : sp = none := hs
  subst hs'
  exact ⟨b, o, rfl⟩
theorem addr_plus (b o j : Nat) : (⟨b, o, none⟩ : Addr).add j = ⟨b, o + j, none⟩ := by cases j <;> simp [Addr.add]
theorem cells_at {a : Addr} {n : Nat} {cs : List Value} (h : W.cells? 0 a n = some cs) : cs.length = n ∧ ∀ i, i < n → W.cell? (a.add i) = cs[i]? := by
  unfold World.cells? at h
  rw [if_pos (Nat.zero_le _)] at h
  have hl := mapM_some_length h
  rw [List.length_range] at hl
  exact ⟨hl, fun i hi => mapM_some_get h i i (by rw [List.getElem?_range hi])⟩
/-- A row of texts' reading. -/
theorem lines_trod {fuel : Nat} {cs : List Value} {x : DataW H × List MemPlace} (h : DataW.trod enc Tryd.prog W 0 (fun _ => true) true fuel 28 cs = some x) :
    ∃ (la : Option Addr) (lc : Nat) (ls : List ByteArray), cs = [.slice la ls.length lc] ∧ ls.length ≤ lc ∧ (∀ i s, ls[i]? = some s → ∃ b o, la = some ⟨b, o, none⟩ ∧ W.cell? ⟨b, o + i, none⟩ = some (.string s)) ∧ sizeBs ls ≤ Rows.uptoBulk x.1 := by
  rcases DataW.trod_slice Tryd.underlying28 h with ⟨rfl, rfl⟩ | ⟨a, len, cap, elems, rest, n, rfl, rfl, rfl, _, hlc, hcm, hlen, hel, _⟩
  · refine ⟨none, 0, [], rfl, Nat.le_refl _, ?_, Nat.zero_le _⟩
    intro i s e
    cases e
  · have hc1 : Tryd.prog.cellsOf 9 = 1 := by kernel_rfl
    rw [hc1] at hel
    have hone : ∀ i, i < len → ∃ s : ByteArray, W.cell? (a.add i) = some (.string s) ∧ (elems.map (·.1))[i]? = some (.lit (.string s.data.toList)) := fun i hi => by
      have h1 := hel i hi
      rw [Nat.mul_one] at h1
      obtain ⟨y, hy⟩ : ∃ y, elems[i]? = some y := ⟨_, List.getElem?_eq_getElem (by omega)⟩
      rw [hy, Option.bind_eq_some_iff] at h1
      obtain ⟨c1, h2, h3⟩ := h1
      obtain ⟨s, rfl, hx, _⟩ := DataW.trod_string Tryd.underlying9 h3
      have h4 := (cells_at h2).2 0 (by omega)
      have e0 : (a.add i).add 0 = a.add i := by simp [Addr.add]
      rw [e0] at h4
      exact ⟨s, h4, by rw [List.getElem?_map, hy, hx]; rfl⟩
    refine ⟨some a, cap, (elems.map (·.1)).map textOf, by simp [hlen], by simp [hlen]; exact hlc, fun i s e => ?_, ?_⟩
    · have hi : i < len := by
        have := (List.getElem?_eq_some_iff.1 e).1
        simp at this; omega
      obtain ⟨s', h1, h2⟩ := hone i hi
      rw [List.getElem?_map, h2] at e
      injection e with e
      have es : s = s' := by rw [← e]; rfl
      subst es
      obtain ⟨s0, h10, _⟩ := hone 0 (by omega)
      rw [show a.add 0 = a by simp [Addr.add]] at h10
      obtain ⟨b, o', ha⟩ := spot_none h10
      subst ha
      refine ⟨b, o', rfl, ?_⟩
      rw [addr_plus] at h1
      exact h1
    · rw [Rows.uptoBulk]
      have := texts_size (elems.map (·.1)) (fun d hd => by
        obtain ⟨i, hi, rfl⟩ := List.getElem_of_mem hd
        obtain ⟨s, _, h2⟩ := hone i (by simpa [hlen] using hi)
        rw [List.getElem?_eq_getElem hi] at h2
        injection h2 with h2
        exact ⟨_, h2⟩)
      omega
set_option maxRecDepth 100000 in
/-- An item's reading. -/
theorem item_trod : ∀ (fuel : Nat) (cs : List Value) (x : DataW H × List MemPlace), DataW.trod enc Tryd.prog W 0 (fun _ => true) true fuel 31 cs = some x → ∃ (t : It) (v : Nat → Value), cs = [v 0, v 1, v 2, v 3] ∧ Lies W (fun _ => True) v t ∧ sizeIt t ≤ Rows.uptoBulk x.1 := by
  intro fuel
  induction fuel using Nat.strongRecOn with
  | ind fuel ih =>
    intro cs x h
    obtain ⟨xs, n, hfu, rfl, hl, hlen, hf⟩ := DataW.trod_struct Tryd.underlying31 h
    have h4 : Tryd.prog.cellsOf 31 = 4 := by kernel_rfl
    have hcs : Tryd.prog.cellsOf 9 = 1 := by kernel_rfl
    have hcl : Tryd.prog.cellsOf 28 = 1 := by kernel_rfl
    have hck : Tryd.prog.cellsOf 29 = 1 := by kernel_rfl
    rw [h4] at hl
    obtain ⟨c0, c1, c2, c3, rfl⟩ : ∃ c0 c1 c2 c3, cs = [c0, c1, c2, c3] := by
      match cs, hl with
      | [a, b, c, d], _ => exact ⟨a, b, c, d, rfl⟩
    obtain ⟨y0, y1, y2, y3, rfl⟩ : ∃ y0 y1 y2 y3, xs = [y0, y1, y2, y3] := by
      have hlen : xs.length = 4 := hlen
      match xs, hlen with
      | [a, b, c, d], _ => exact ⟨a, b, c, d, rfl⟩
    have t0 := hf 0 _ rfl
    have t1 := hf 1 _ rfl
    have t2 := hf 2 _ rfl
    have t3 := hf 3 _ rfl
    change DataW.trod enc Tryd.prog W 0 (fun _ => true) true n 9 ((List.drop 0 [c0, c1, c2, c3]).take (Tryd.prog.cellsOf 9)) = some y0 at t0
    change DataW.trod enc Tryd.prog W 0 (fun _ => true) true n 9 ((List.drop 1 [c0, c1, c2, c3]).take (Tryd.prog.cellsOf 9)) = some y1 at t1
    change DataW.trod enc Tryd.prog W 0 (fun _ => true) true n 28 ((List.drop 2 [c0, c1, c2, c3]).take (Tryd.prog.cellsOf 28)) = some y2 at t2
    change DataW.trod enc Tryd.prog W 0 (fun _ => true) true n 29 ((List.drop 3 [c0, c1, c2, c3]).take (Tryd.prog.cellsOf 29)) = some y3 at t3
    rw [hcs] at t0 t1
    rw [hcl] at t2
    rw [hck] at t3
    change DataW.trod enc Tryd.prog W 0 (fun _ => true) true n 9 [c0] = some y0 at t0
    change DataW.trod enc Tryd.prog W 0 (fun _ => true) true n 9 [c1] = some y1 at t1
    change DataW.trod enc Tryd.prog W 0 (fun _ => true) true n 28 [c2] = some y2 at t2
    change DataW.trod enc Tryd.prog W 0 (fun _ => true) true n 29 [c3] = some y3 at t3
    obtain ⟨s0, e0, x0, _⟩ := DataW.trod_string Tryd.underlying9 t0
    obtain ⟨s1, e1, x1, _⟩ := DataW.trod_string Tryd.underlying9 t1
    obtain ⟨la, lc, ls, e2, hlcap, hls, x2⟩ := lines_trod t2
    have e0 : c0 = .string s0 := by injection e0
    have e1 : c1 = .string s1 := by injection e1
    have e2 : c2 = .slice la ls.length lc := by injection e2
    subst e0 e1 e2 x0 x1
    have hK : ∃ (ka : Option Addr) (kc : Nat) (ks : List It) (V : Nat → Nat → Value), c3 = .slice ka ks.length kc ∧ ks.length ≤ kc ∧ (∀ i, i < ks.length → ∃ b o, ka = some ⟨b, o, none⟩ ∧ True ∧ ∀ c, c < 4 → W.cell? ⟨b, o + i * 4 + c, none⟩ = some (V i c)) ∧ (∀ i k, ks[i]? = some k → Lies W (fun _ => True) (V i) k) ∧ sizeIts ks ≤ Rows.uptoBulk y3.1 := by
      rcases DataW.trod_slice Tryd.underlying29 t3 with ⟨h1, rfl⟩ | ⟨a, len, cap, elems, rest, m, hnm, h1, rfl, _, hlc, hcm, helen, hel, _⟩
      · have h1 : c3 = .slice none 0 0 := by injection h1
        refine ⟨none, 0, [], fun _ _ => .nilIface, h1, Nat.le_refl _, ?_, ?_, Nat.zero_le _⟩
        · intro i hi
          exact absurd hi (Nat.not_lt_zero _)
        · intro i k e
          cases e
      · have h1 : c3 = .slice (some a) len cap := by injection h1
        rw [h4] at hel
        have hone : ∀ i, i < len → ∃ (t : It) (v : Nat → Value), (∀ c, c < 4 → W.cell? ((a.add (i * 4)).add c) = some (v c)) ∧ Lies W (fun _ => True) v t ∧ ∀ d, (elems.map (·.1))[i]? = some d → sizeIt t ≤ Rows.uptoBulk d := fun i hi => by
          have h2 := hel i hi
          obtain ⟨y, hy⟩ : ∃ y, elems[i]? = some y := ⟨_, List.getElem?_eq_getElem (by omega)⟩
          rw [hy, Option.bind_eq_some_iff] at h2
          obtain ⟨cs1, h3, h5⟩ := h2
          obtain ⟨t, v, rfl, hL, hz⟩ := ih m (by omega) cs1 y h5
          refine ⟨t, v, fun c hc => ?_, hL, fun d hd => ?_⟩
          · rw [(cells_at h3).2 c hc]
            match c, hc with
            | 0, _ => rfl
            | 1, _ => rfl
            | 2, _ => rfl
            | 3, _ => rfl
          · rw [List.getElem?_map, hy] at hd
            injection hd with hd
            rw [← hd]; exact hz
        let T : Nat → It := fun i => if hi : i < len then Classical.choose (hone i hi) else It.none
        have hT : ∀ i (hi : i < len), T i = Classical.choose (hone i hi) := fun i hi => by simp only [T]; rw [dif_pos hi]
        let V : Nat → Nat → Value := fun i => if hi : i < len then Classical.choose (Classical.choose_spec (hone i hi)) else fun _ => .nilIface
        have hV : ∀ i (hi : i < len), V i = Classical.choose (Classical.choose_spec (hone i hi)) := fun i hi => by simp only [V]; rw [dif_pos hi]
        have hS : ∀ i (hi : i < len), (∀ c, c < 4 → W.cell? ((a.add (i * 4)).add c) = some (V i c)) ∧ Lies W (fun _ => True) (V i) (T i) ∧ ∀ d, (elems.map (·.1))[i]? = some d → sizeIt (T i) ≤ Rows.uptoBulk d := fun i hi => by
          rw [hT i hi, hV i hi]
          exact Classical.choose_spec (Classical.choose_spec (hone i hi))
        refine ⟨some a, cap, (List.range len).map T, V, by rw [List.length_map, List.length_range]; exact h1, by rw [List.length_map, List.length_range]; exact hlc, fun i hi => ?_, fun i k e => ?_, ?_⟩
        · have hi : i < len := by simpa using hi
          obtain ⟨g1, _, _⟩ := hS i hi
          have g0 := (hS 0 (by omega)).1 0 (by omega)
          rw [show (a.add (0 * 4)).add 0 = a by simp [Addr.add]] at g0
          obtain ⟨b, o', ha⟩ := spot_none g0
          refine ⟨b, o', by rw [ha], trivial, fun c hc => ?_⟩
          have g2 := g1 c hc
          rw [ha, addr_plus, addr_plus] at g2
          exact g2
        · have hi : i < len := by
            have := (List.getElem?_eq_some_iff.1 e).1
            simpa using this
          rw [List.getElem?_map, List.getElem?_range hi] at e
          injection e with e
          rw [← e]
          exact (hS i hi).2.1
        · rw [Rows.uptoBulk]
          have hz := its_size (elems.map (·.1)) T (fun i d hd => (hS i (by have := (List.getElem?_eq_some_iff.1 hd).1; simpa [helen] using this)).2.2 d hd)
          rw [List.length_map, helen] at hz
          omega
    obtain ⟨ka, kc, ks, V, e3, hkcap, hk, hr, x3⟩ := hK
    subst e3
    refine ⟨It.mk s0 s1 ls ks, fun i => match i with | 0 => .string s0 | 1 => .string s1 | 2 => .slice la ls.length lc | _ => .slice ka ks.length kc, rfl, ?_, ?_⟩
    · exact .mk _ _ la ka lc kc V rfl rfl rfl rfl (fun i s e => by obtain ⟨b, o, h1, h2⟩ := hls i s e; exact ⟨b, o, h1, trivial, h2⟩) hk hr hlcap hkcap
    · rw [sizeIt]
      show _ ≤ Rows.uptoBulk (.agg [.lit (.string s0.data.toList), .lit (.string s1.data.toList), y2.1, y3.1])
      rw [Rows.uptoBulk, Rows.uptoBulkAll, Rows.uptoBulkAll, Rows.uptoBulkAll, Rows.uptoBulkAll, Rows.uptoBulkAll, Rows.uptoBulk, Rows.uptoBulk]
      have z0 : s0.data.toList.length = s0.size := by simp
      have z1 : s1.data.toList.length = s1.size := by simp
      omega
end
end Go.Proofs.YtgfaeeacndpniaaDoor
namespace Go.Proofs.YtgfaeeacndpniaaDoor
open Go.RowKit

def lines400 : List ByteArray → Nat
  | [] => 0
  | s :: r => s.size / 400 + lines400 r
mutual
def smallN : Nat → It → Nat
  | d, .mk a b c k => if 12 < d then 1000 else smallK d (1 + c.length + (b.size + a.size) / 400 + lines400 c) k
def smallK : Nat → Nat → List It → Nat
  | _, n, [] => n
  | d, n, t :: r => if n < 1000 then smallK d (n + smallN (d + 1) t) r else n
end
theorem lines400_le : ∀ l : List ByteArray, l.length + lines400 l ≤ sizeBs l
  | [] => by simp [lines400, sizeBs]
  | s :: r => by
    have := lines400_le r
    rw [lines400, sizeBs, List.length_cons]
    omega
theorem lines400_snoc : ∀ (l : List ByteArray) (s : ByteArray), lines400 (l ++ [s]) = lines400 l + s.size / 400
  | [], s => by simp [lines400]
  | x :: r, s => by rw [List.cons_append, lines400, lines400, lines400_snoc r s]; omega
theorem lines400_take (l : List ByteArray) (i : Nat) (s : ByteArray) (h : l[i]? = some s) : lines400 (l.take (i + 1)) = lines400 (l.take i) + s.size / 400 := by
  obtain ⟨hi, e⟩ := List.getElem?_eq_some_iff.1 h
  rw [List.take_succ_eq_append_getElem hi, e, lines400_snoc]
theorem lines400_all (l : List ByteArray) (i : Nat) : lines400 (l.take i) ≤ lines400 l := by
  have : ∀ (l : List ByteArray) (i : Nat), lines400 (l.take i) ≤ lines400 l := by
    intro l
    induction l with
    | nil => intro i; simp [lines400]
    | cons s r ih =>
      intro i
      cases i with
      | zero => simp [lines400]
      | succ i => rw [List.take_succ_cons, lines400, lines400]; have := ih i; omega
  exact this l i
theorem sizeIt_eq (t : It) : sizeIt t = t.label.size + t.head.size + sizeBs t.lines + sizeIts t.kids + 1 := by
  cases t; rw [sizeIt]; rfl
theorem smallN_eq (d : Nat) (t : It) : smallN d t = if 12 < d then 1000 else smallK d (1 + t.lines.length + (t.head.size + t.label.size) / 400 + lines400 t.lines) t.kids := by
  cases t; rw [smallN]; rfl
theorem sizeIts_mem : ∀ {l : List It} {t : It}, t ∈ l → sizeIt t ≤ sizeIts l
  | a :: r, t, h => by
    rw [sizeIts]
    rcases List.mem_cons.1 h with rfl | h
    · omega
    · have := sizeIts_mem h; omega
theorem sizeIts_len : ∀ l : List It, l.length ≤ sizeIts l
  | [] => by simp [sizeIts]
  | a :: r => by
    have := sizeIts_len r
    have h1 := sizeIt_eq a
    rw [List.length_cons, sizeIts]; omega
theorem kid_size {t k : It} (h : k ∈ t.kids) : sizeIt k < sizeIt t := by
  have := sizeIts_mem h
  have := sizeIt_eq t
  omega
/-- The count is bounded. -/
theorem small_bd : ∀ (N : Nat) (t : It), sizeIt t ≤ N → ∀ d, smallN d t ≤ 1000 * sizeIt t + 1000
  | 0, t, h, d => by have := sizeIt_eq t; omega
  | N + 1, t, h, d => by
    rw [smallN_eq]
    split
    · have := sizeIt_eq t; omega
    · have h1 := sizeIt_eq t
      have h2 := lines400_le t.lines
      have hk : ∀ (l : List It) (n : Nat), (∀ k ∈ l, sizeIt k < sizeIt t) → n ≤ 1000 * sizeIt t + 1000 → smallK d n l ≤ 1000 * sizeIt t + 1000 := by
        intro l
        induction l with
        | nil => intro n _ hn; rw [smallK]; exact hn
        | cons k r ih =>
          intro n hkk hn
          rw [smallK]
          split
          · have h3 := hkk k (by simp)
            have h4 := small_bd N k (by omega) (d + 1)
            exact ih _ (fun x hx => hkk x (List.mem_cons_of_mem _ hx)) (by omega)
          · exact hn
      exact hk t.kids _ (fun k hk => kid_size hk) (by omega)
theorem smallK_step {d n i : Nat} {l : List It} {t : It} (h : l[i]? = some t) (hn : n < 1000) : smallK d n (l.drop i) = smallK d (n + smallN (d + 1) t) (l.drop (i + 1)) := by
  obtain ⟨hi, e⟩ := List.getElem?_eq_some_iff.1 h
  rw [List.drop_eq_getElem_cons hi, e, smallK, if_pos hn]
theorem smallK_stop {d n i : Nat} {l : List It} (h : 1000 ≤ n) : smallK d n (l.drop i) = n := by
  cases l.drop i with
  | nil => rw [smallK]
  | cons a r => rw [smallK, if_neg (by omega)]
theorem smallK_end {d n i : Nat} {l : List It} (h : l.length ≤ i) : smallK d n (l.drop i) = n := by
  rw [List.drop_eq_nil_of_le h, smallK]
end Go.Proofs.YtgfaeeacndpniaaDoor
