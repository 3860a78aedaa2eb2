/-
  The laws of rules: the program's theory out of the document's (Theory). Memory.
-/
import Derived.Test.YtmbclnaenjcocaaGreatDoorRsLaw1
namespace Go.Proofs.YtmbclnaenjcocaaGreatDoor
open Go.RowKit

theorem Tryz.infoRule : ∃ i z, Tryz.prog.info? 56 = some i ∧ i.zero = some z ∧ i.size = 3 ∧ i.bytes = 40 ∧ z.cells.size = 3 := by
  have h : (Tryz.prog.info? 56).map (fun i => (i.zero, i.size, i.bytes)) = some (some (.agg #[.int .i64 0, .int .i64 0, .slice none 0 0]), 3, 40) := by kernel_rfl
  obtain ⟨i, h1, h2⟩ := Option.map_eq_some_iff.1 h
  simp only [Prod.mk.injEq] at h2
  exact ⟨i, _, h1, h2.1, h2.2.1, h2.2.2, rfl⟩
theorem Tryz.infoPair : ∃ i z, Tryz.prog.info? 71 = some i ∧ i.zero = some z ∧ i.size = 2 ∧ i.bytes = 16 ∧ z.cells.size = 2 := by
  have h : (Tryz.prog.info? 71).map (fun i => (i.zero, i.size, i.bytes)) = some (some (.agg #[.int .i64 0, .int .i64 0]), 2, 16) := by kernel_rfl
  obtain ⟨i, h1, h2⟩ := Option.map_eq_some_iff.1 h
  simp only [Prod.mk.injEq] at h2
  exact ⟨i, _, h1, h2.1, h2.2.1, h2.2.2, rfl⟩
/-- 'append' as a step of a region that draws: to nothing, from an argument's slice. -/
theorem step_append_nil {P : Program} {ops : Array Oper} {o : Oper} {a : Act} {w : World} {K : Act → World → Prop} {Q : Exit → Act → World → Prop} {E : Prop}
    (hgd : o.guard = none) (s x : Operand) (t : TypeId) (ho : o.op = Op.call { callee := Callee.builtin Builtin.append, args := #[s, x], argTypes := #[t, t] })
    (B : Nat) (e : TypeId) (i : TypeInfo) (z : Value) (size bytes : Nat) (ht : P.underlying t = some (.slice e)) (hi : P.info? e = some i) (hz : i.zero = some z) (hsize : i.size = size) (hby : i.bytes = bytes) (hzs : z.cells.size = size) (hsz : 0 < size)
    (hs : a.eval s = .slice none 0 0) (ad : Option Addr) (m c : Nat) (news : List Value) (hx : a.eval x = .slice ad m c) (had : ad = none → m = 0 ∧ c = 0) (hl : news.length = m * size) (hnews : ∀ b, ad = some b → ∀ j u, news[j]? = some u → w.cell? (b.add j) = some u) (h1 : ∀ u ∈ news, u.oneCell' = true)
    (h63 : m ≤ maxLen) (hbytes : m * bytes ≤ 140737488355328) (hbase : B ≤ w.heap.size)
    (hK : ∀ v' w', w'.ownsRow B e size v' m news → w.grownBy w' none → K (a.put o.dst v') w') :
    if Region.wanted o (yielded ops a.tmps) = true then Oper.wp P o a w K Q else E := by
  have hw : Region.wanted o (yielded ops a.tmps) = true := by simp [Region.wanted, hgd]
  rw [if_pos hw]
  cases ad with
  | some b =>
    obtain ⟨v', w', hr, h2, h3, h4⟩ := run_append_own (P := P) w B t o.type e i z size bytes ht hi hz hsize hby hzs hsz (.slice none 0 0) 0 [] (World.ownsRow_nil w _ e size) b m c news hl (hnews b rfl) h1 (by omega) (by simpa using hbytes) hbase
    unfold Oper.wp
    simp [execOp, ho, resolve, invoke, builtin, hs, hx, hr, Result.andThen]
    rw [Nat.zero_add, List.nil_append] at h2
    exact hK v' w' h2 h3
  | none =>
    obtain ⟨rfl, rfl⟩ := had rfl
    obtain rfl : news = [] := List.eq_nil_of_length_eq_zero (by simpa using hl)
    have hr := run_append_owned_none (P := P) (w := w) B t o.type e i size ht hi (.slice none 0 0) 0 [] (World.ownsRow_nil w _ e size)
    unfold Oper.wp
    simp [execOp, ho, resolve, invoke, builtin, hs, hx, hr, Result.andThen]
    exact hK _ _ (World.ownsRow_nil w _ e size) ⟨rfl, rfl, rfl, Nat.le_refl _, fun _ _ _ => rfl⟩
/-- Rules' cells, with where their bodies lie. -/
def rcells : List (Rl × Value) → List Value
  | [] => []
  | x :: l => .int .i64 x.1.kind :: .int .i64 x.1.head :: x.2 :: rcells l
theorem rcells_app : ∀ (a b : List (Rl × Value)), rcells (a ++ b) = rcells a ++ rcells b
  | [], b => rfl
  | x :: a, b => by rw [List.cons_append, rcells, rcells, rcells_app a b]; rfl
theorem rcells_get : ∀ (l : List (Rl × Value)) (i : Nat) (x : Rl × Value), l[i]? = some x → (rcells l)[i * 3]? = some (.int .i64 x.1.kind) ∧ (rcells l)[i * 3 + 1]? = some (.int .i64 x.1.head) ∧ (rcells l)[i * 3 + 2]? = some x.2
  | a :: l, 0, x, h => by
    obtain rfl : a = x := by simpa using h
    exact ⟨rfl, rfl, rfl⟩
  | a :: l, i + 1, x, h => by
    have := rcells_get l i x (by simpa using h)
    rw [rcells, show (i + 1) * 3 = i * 3 + 1 + 1 + 1 by omega]
    simpa using this
def intC (l : List Int) : List Value := l.map (Value.int .i64)
def pairC : List (Int × Int) → List Value
  | [] => []
  | x :: l => .int .i64 x.1 :: .int .i64 x.2 :: pairC l
theorem pairC_len : ∀ l : List (Int × Int), (pairC l).length = l.length * 2
  | [] => rfl
  | x :: l => by rw [pairC, List.length_cons, List.length_cons, pairC_len l, List.length_cons]; omega
theorem pairC_get : ∀ (l : List (Int × Int)) (i : Nat) (x : Int × Int), l[i]? = some x → (pairC l)[i * 2]? = some (.int .i64 x.1) ∧ (pairC l)[i * 2 + 1]? = some (.int .i64 x.2)
  | a :: l, 0, x, h => by
    obtain rfl : a = x := by simpa using h
    exact ⟨rfl, rfl⟩
  | a :: l, i + 1, x, h => by
    have := pairC_get l i x (by simpa using h)
    rw [pairC, show (i + 1) * 2 = i * 2 + 1 + 1 by omega]
    simpa using this
theorem addr0 (g j : Nat) : (⟨g, 0, none⟩ : Addr).add j = ⟨g, j, none⟩ := by
  unfold Addr.add
  split
  · rename_i h0
    rw [h0]
  · simp
theorem ird_of {w : World} {lo : Nat} {v : Value} {l : List Int} (h : w.ownsRow lo 3 1 v l.length (intC l)) (hl : l.length ≤ 17592186044416) : IRd w w.heap.size v l := by
  obtain ⟨a, c, e⟩ := row_any h
  refine ⟨a, c, e, hl, fun j x hj => ?_⟩
  subst e
  rcases h.2 with ⟨_, h0⟩ | ⟨g, cap, cur, e1, _, hgg, _⟩
  · have := (List.getElem?_eq_some_iff.1 hj).1
    omega
  · injection e1 with e1 _ _
    subst e1
    refine ⟨g, 0, rfl, (Array.getElem?_eq_some_iff.1 hgg).1, ?_⟩
    have hc := World.ownsRow.cells h (g := g) rfl j (.int .i64 x) (by unfold intC; rw [List.getElem?_map, hj]; rfl)
    rw [addr0] at hc
    rw [Nat.zero_add]
    exact hc
theorem ord_of {w : World} {lo : Nat} {v : Value} {l : List (Int × Int)} (h : w.ownsRow lo 71 2 v l.length (pairC l)) (hl : l.length ≤ 8796093022208) : ORd w w.heap.size v l := by
  obtain ⟨a, c, e⟩ := row_any h
  refine ⟨a, c, e, hl, fun j x hj => ?_⟩
  subst e
  rcases h.2 with ⟨_, h0⟩ | ⟨g, cap, cur, e1, _, hgg, _⟩
  · have := (List.getElem?_eq_some_iff.1 hj).1
    omega
  · injection e1 with e1 _ _
    subst e1
    obtain ⟨p1, p2⟩ := pairC_get l j x hj
    have hc := World.ownsRow.cells h (g := g) rfl (j * 2) _ p1
    have hd := World.ownsRow.cells h (g := g) rfl (j * 2 + 1) _ p2
    rw [addr0] at hc hd
    exact ⟨g, 0, rfl, (Array.getElem?_eq_some_iff.1 hgg).1, by rw [Nat.zero_add]; exact hc, by rw [Nat.zero_add]; exact hd⟩
/-- Rules made so far, in rows of the call's own, their bodies too. -/
structure Rm (w : World) (lo : Nat) (v : Value) (L : List (Rl × Value)) : Prop where
  row : w.ownsRow lo 56 3 v L.length (rcells L)
  body : ∀ (i : Nat) (x : Rl × Value), L[i]? = some x → w.ownsRow lo 3 1 x.2 x.1.body.length (intC x.1.body) ∧ x.1.body.length ≤ 17592186044416
theorem Rm.rrd {w : World} {lo : Nat} {v : Value} {L : List (Rl × Value)} (h : Rm w lo v L) (hl : L.length ≤ 3518437208883) : RRd w w.heap.size v (L.map (·.1)) := by
  obtain ⟨a, c, e⟩ := row_any h.row
  refine ⟨a, c, by rw [List.length_map]; exact e, by rw [List.length_map]; exact hl, fun i r hi => ?_⟩
  rw [List.getElem?_map] at hi
  obtain ⟨x, hx, rfl⟩ := Option.map_eq_some_iff.1 hi
  have hrow := h.row
  rw [e] at hrow
  subst e
  rcases hrow.2 with ⟨_, h0⟩ | ⟨g, cap, cur, e1, _, hgg, _⟩
  · have := (List.getElem?_eq_some_iff.1 hx).1
    omega
  · injection e1 with e1 _ _
    subst e1
    obtain ⟨p1, p2, p3⟩ := rcells_get L i x hx
    have c1 := World.ownsRow.cells hrow (g := g) rfl (i * 3) _ p1
    have c2 := World.ownsRow.cells hrow (g := g) rfl (i * 3 + 1) _ p2
    have c3 := World.ownsRow.cells hrow (g := g) rfl (i * 3 + 2) _ p3
    rw [addr0] at c1 c2 c3
    obtain ⟨b1, b2⟩ := h.body i x hx
    exact ⟨g, 0, x.2, rfl, (Array.getElem?_eq_some_iff.1 hgg).1, by rw [Nat.zero_add]; exact c1, by rw [Nat.zero_add]; exact c2, by rw [Nat.zero_add]; exact c3, ird_of b1 b2⟩
/-- What leaves all blocks but some alone leaves the rules. -/
theorem Rm.on {w w' : World} {lo : Nat} {v : Value} {L : List (Rl × Value)} (h : Rm w lo v L) (hb : ∀ k cs t, k < w.heap.size → lo ≤ k → w.heap[k]? = some (.cells cs t (0, 0)) → (t = 56 ∨ t = 3) → w'.heap[k]? = w.heap[k]?) : Rm w' lo v L := by
  have one : ∀ {e s : Nat} {v : Value} {n : Nat} {xs : List Value}, w.ownsRow lo e s v n xs → (e = 56 ∨ e = 3) → w'.ownsRow lo e s v n xs := fun {e s v n xs} h he => by
    refine ⟨h.1, ?_⟩
    rcases h.2 with hn | ⟨g, cap, cur, rfl, hb0, hgg, rest⟩
    · exact .inl hn
    · exact .inr ⟨g, cap, cur, rfl, hb0, (hb g cur e (Array.getElem?_eq_some_iff.1 hgg).1 hb0 hgg he).trans hgg, rest⟩
  exact ⟨one h.row (.inl rfl), fun i x hx => ⟨one (h.body i x hx).1 (.inr rfl), (h.body i x hx).2⟩⟩
theorem Rm.push {w W w' : World} {lo : Nat} {v v' : Value} {L : List (Rl × Value)} (h : Rm w lo v L) {r : Rl} {bv : Value} (hbv : w.ownsRow lo 3 1 bv r.body.length (intC r.body)) (hbl : r.body.length ≤ 17592186044416) (hW : Below w.heap.size w W) (hg : W.grownBy w' v.ownBlock)
    (ho : w'.ownsRow lo 56 3 v' (L.length + 1) (rcells L ++ [.int .i64 r.kind, .int .i64 r.head, bv])) : Rm w' lo v' (L ++ [(r, bv)]) := by
  have one : ∀ {u : Value} {n : Nat} {xs : List Value}, w.ownsRow lo 3 1 u n xs → w'.ownsRow lo 3 1 u n xs := fun {u n xs} hu => by
    refine ⟨hu.1, ?_⟩
    rcases hu.2 with hn | ⟨g, cap, cur, rfl, hb0, hgg, rest⟩
    · exact .inl hn
    · refine .inr ⟨g, cap, cur, rfl, hb0, ?_, rest⟩
      have hgl := (Array.getElem?_eq_some_iff.1 hgg).1
      rw [hg.block g (Nat.lt_of_lt_of_le hgl hW.size) (fun e => ?_), hW.block g hgl]
      · exact hgg
      · rcases h.row.2 with ⟨e1, _⟩ | ⟨g2, cap2, cur2, e1, _, hgg2, _⟩
        · rw [e1] at e; cases e
        · rw [e1] at e
          injection e with e
          have e : g = g2 := e
          subst e
          rw [hgg] at hgg2
          injection hgg2 with e3
          injection e3 with _ e3 _
          exact absurd e3 (by decide)
  refine ⟨?_, fun i x hx => ?_⟩
  · rw [List.length_append, rcells_app]
    exact ho
  · rcases Nat.lt_or_ge i L.length with c | c
    · rw [List.getElem?_append_left c] at hx
      have := h.body i x hx
      exact ⟨one this.1, this.2⟩
    · rw [List.getElem?_append_right c] at hx
      have hi0 : i - L.length = 0 := by
        have := (List.getElem?_eq_some_iff.1 hx).1
        simpa using this
      rw [hi0] at hx
      simp only [List.getElem?_cons_zero, Option.some.injEq] at hx
      subst hx
      exact ⟨one hbv, hbl⟩
end Go.Proofs.YtmbclnaenjcocaaGreatDoor
