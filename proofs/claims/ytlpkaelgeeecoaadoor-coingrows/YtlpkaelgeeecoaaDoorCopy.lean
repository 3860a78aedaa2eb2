/-
  The law's own copy of the bands, by a contract.
-/
import Derived.Test.YtlpkaelgeeecoaaDoorBands
import Derived.Deep.RegionLawGrows
import Derived.Lib.SmallJoins
import Derived.OwnWalk
namespace Go.Proofs.YtlpkaelgeeecoaaDoor
open Go.RowKit Go.Extern.Stop Go.Stop Go.Extern

/-- append to a row of the call's own, as one step of a region that draws. -/
theorem step_append_row {P : Program} {ops : Array Oper} {o : Oper} {a : Act} {w : World} {K : Act → World → Prop} {Q : Exit → Act → World → Prop} {E : Prop}
    (hg : o.guard = none) (s x : Operand) (t : TypeId) (hop : o.op = Op.call { callee := Callee.builtin Builtin.append, args := #[s, x], argTypes := #[t, t] })
    (base : Nat) (e : TypeId) (i : TypeInfo) (z : Value) (size bytes : Nat) (h1 : P.underlying t = some (.slice e)) (h2 : P.info? e = some i) (h3 : i.zero = some z) (h4 : i.size = size) (h5 : i.bytes = bytes) (h6 : z.cells.size = size) (h7 : 0 < size)
    (v : Value) (n : Nat) (xs : List Value) (hs : a.eval s = v) (hown : w.ownsRow base e size v n xs)
    (ad : Addr) (m c : Nat) (news : List Value) (hx : a.eval x = .slice (some ad) m c) (hn : news.length = m * size) (hc : ∀ j u, news[j]? = some u → w.cell? (ad.add j) = some u) (h1c : ∀ u ∈ news, u.oneCell' = true)
    (b1 : n + m ≤ maxLen) (b2 : (n + m) * bytes ≤ 140737488355328) (hb : base ≤ w.heap.size)
    (hK : ∀ v' w', w'.ownsRow base e size v' (n + m) (xs ++ news) → w.grownBy w' v.ownBlock → K (a.put o.dst v') w') :
    if Region.wanted o (yielded ops a.tmps) = true then Oper.wp P o a w K Q else E := by
  have hw : Region.wanted o (yielded ops a.tmps) = true := by simp [Region.wanted, hg]
  rw [if_pos hw]
  obtain ⟨v', w', hrun, r1, r2, _⟩ := run_append_own (P := P) w base t o.type e i z size bytes h1 h2 h3 h4 h5 h6 h7 v n xs hown ad m c news hn hc h1c b1 b2 hb
  unfold Oper.wp
  simp [execOp, hop, resolve, invoke, builtin, hs, hx, hrun, Result.andThen]
  exact hK v' w' r1 r2

def flat (l : List (Int × Int)) : List Value := l.flatMap fun p => [.int .i64 p.1, .int .i64 p.2]
theorem flat_snoc (l : List (Int × Int)) (i : Nat) (f r : Int) (h : l[i]? = some (f, r)) : flat (l.take (i + 1)) = flat (l.take i) ++ [.int .i64 f, .int .i64 r] := by
  have hlt : i < l.length := by
    rcases Nat.lt_or_ge i l.length with k | k
    · exact k
    · rw [List.getElem?_eq_none k] at h; cases h
  rw [List.getElem?_eq_getElem hlt] at h
  rw [List.take_succ_eq_append_getElem hlt, Option.some.inj h]
  simp [flat]
theorem flat_at : ∀ (l : List (Int × Int)) (i : Nat) (p : Int × Int), l[i]? = some p → (flat l)[i * 2]? = some (.int .i64 p.1) ∧ (flat l)[i * 2 + 1]? = some (.int .i64 p.2)
  | [], i, p, h => by simp at h
  | q :: t, 0, p, h => by
    simp at h; subst h; simp [flat]
  | q :: t, i + 1, p, h => by
    have := flat_at t i p (by simpa using h)
    have e : flat (q :: t) = .int .i64 q.1 :: .int .i64 q.2 :: flat t := by simp [flat]
    rw [e, show (i + 1) * 2 = i * 2 + 1 + 1 by omega]
    simpa using this
theorem flat_len (l : List (Int × Int)) : (flat l).length = l.length * 2 := by
  induction l with
  | nil => rfl
  | cons p t ih =>
    have e : flat (p :: t) = .int .i64 p.1 :: .int .i64 p.2 :: flat t := by simp [flat]
    rw [e]; simp [ih]; omega

theorem news_cell (w : World) (f r : Int) : ∀ (j : Nat) (u : Value), [Value.int .i64 f, .int .i64 r][j]? = some u → (w.alloc (.cells #[.int .i64 f, .int .i64 r] 72)).cell? ((⟨w.heap.size, 0, none⟩ : Addr).add j) = some u := by
  intro j u h
  match j, h with
  | 0, h => simp at h; subst h; simp [Addr.add]
  | 1, h => simp at h; subst h; simp [Addr.add]
theorem Tryd.info74 : ∃ i z, Tryd.prog.info? 72 = some i ∧ i.zero = some z ∧ i.size = 2 ∧ i.bytes = 16 ∧ z.cells.size = 2 := by
  have h : (Tryd.prog.info? 72).map (fun i => (i.zero, i.size, i.bytes)) = some (some (.agg #[.int .i64 0, .int .i64 0]), 2, 16) := by kernel_rfl
  obtain ⟨i, h1, h2⟩ := Option.map_eq_some_iff.1 h
  simp only [Prod.mk.injEq] at h2
  exact ⟨i, _, h1, h2.1, h2.2.1, h2.2.2, rfl⟩

/-- A value of type []coin.Band, and what it holds. -/
def Lst (w : World) (B : Nat) (v : Value) (l : List (Int × Int)) : Prop :=
  (v = .slice none 0 0 ∧ l = []) ∨ ∃ b cap, v = .slice (some ⟨b, 0, none⟩) l.length cap ∧ B ≤ b ∧ b < w.heap.size ∧ l.length ≤ cap ∧ Pairs w b 0 l
theorem Lst.of_row {w : World} {B : Nat} {v : Value} {l : List (Int × Int)} (h : w.ownsRow B 72 2 v l.length (flat l)) : Lst w B v l := by
  rcases Joins.ownsRow_forms h with ⟨rfl, h0⟩ | ⟨g, cap, rfl⟩
  · exact .inl ⟨rfl, List.eq_nil_of_length_eq_zero h0⟩
  · have hlt := h.lt g rfl
    have h2 := h.2
    rcases h2 with ⟨h2, _⟩ | ⟨g', cap', cur, e, _, _, hcap, _⟩
    · cases h2
    · cases e
      refine .inr ⟨g, cap, rfl, hlt.1, hlt.2, hcap, fun i p hp => ?_⟩
      have hi : i < l.length := by
        rcases Nat.lt_or_ge i l.length with k | k
        · exact k
        · rw [List.getElem?_eq_none k] at hp; cases hp
      obtain ⟨f1, f2⟩ := flat_at l i p hp
      have a1 := h.cellAt (i * 2) (by omega)
      have a2 := h.cellAt (i * 2 + 1) (by omega)
      rw [f1] at a1
      rw [f2] at a2
      exact ⟨by simpa using a1, by simpa using a2⟩

set_option maxHeartbeats 4000000 in
theorem copy_some (b off cap : Nat) (l : List (Int × Int)) (w : World) (hb : b < w.heap.size) (hn : l.length ≤ 60) (HP : Pairs w b off l) :
    Calls Tryd.prog 20 #[.slice (some ⟨b, off, none⟩) l.length cap] w fun e w' => (∃ v, e = .returned v ∧ w'.ownsRow w.heap.size 72 2 v l.length (flat l)) ∧ Below w.heap.size w w' := by
  obtain ⟨i0, z, hi0, hz0, hz1, hz2, hz3⟩ := Tryd.info74
  have HI := hidIt (And.intro hi0 (And.intro hz0 (And.intro hz1 (And.intro hz2 hz3))))
  have HPs := hidIt HP
  clear HP hi0 hz0 hz1 hz2 hz3
  generalize hL : l.length = n at *
  have HL := hidIt hL
  clear hL
  go_enter Tryd.func20, Tryd.ntmps20
  go_wp2_with fail
  go_loopw [3, 4] (fun v t wr => ∃ i : Nat, i ≤ n ∧ t = .int .i64 i ∧ Below w.heap.size w wr ∧ wr.ownsRow w.heap.size 72 2 v i (flat (l.take i))) (fun _ t _ => n - (intOf t).toNat)
  case atStart => exact ⟨0, by omega, rfl, Below.refl _ _, World.ownsRow_nil _ _ _ _⟩
  case round =>
    obtain ⟨i, hi, rfl, hbr, hown⟩ := hrel
    have HB := hidIt hbr
    have HW := hidIt hown
    clear hbr hown
    by_cases hlt : i < n
    · have hL := HL.out
      obtain ⟨q, hq⟩ : ∃ q, l[i]? = some q := ⟨_, List.getElem?_eq_getElem (by omega)⟩
      obtain ⟨f, r⟩ := q
      obtain ⟨c1, c2⟩ := (HPs.out.below HB.out hb) i (f, r) hq
      simp only at c1 c2
      have HQ := hidIt hq
      clear hq hL
      have HC := hidIt (news_cell wr f r)
      have H1 : Hid (∀ u ∈ [Value.int .i64 f, .int .i64 r], u.oneCell' = true) := by intro u hu; simp at hu; rcases hu with rfl | rfl <;> rfl
      have hsz := HB.out.size
      go_wp2_with fail
      go_region_law (refine step_append_row rfl (.tmp 11) (.tmp 23) 42 rfl w.heap.size 72 i0 z 2 16 Tryd.underlying42 HI.out.1 HI.out.2.1 HI.out.2.2.1 HI.out.2.2.2.1 HI.out.2.2.2.2 (by decide) u3 i (flat (l.take i)) (by simp [Act.eval]) (by exact (HW.out.alloc _)) ⟨wr.heap.size, 0, none⟩ 1 1 [.int .i64 f, .int .i64 r] (by simp [Act.eval]) rfl (by exact HC.out) H1.out (by unfold maxLen; omega) (by omega) (by simp; omega) ?_; intro v' w' hown' hgrow)
      all_goals
        have HR := hidIt (show w'.ownsRow w.heap.size 72 2 v' (i + 1) (flat (l.take (i + 1))) by rw [flat_snoc l i f r HQ.out]; exact hown')
        have HB' := hidIt ((HB.out.alloc HB.out.size (.cells #[.int .i64 f, .int .i64 r] 72)).drew.grown hgrow (by simp; omega) (fun k hk => (HW.out.lt k hk).1))
        clear hown' hgrow
        go_wp2
        go_roundw
        case rel => exact ⟨i + 1, by omega, by go_num, HB'.out, HR.out⟩
        case measure => simp [intOf]; omega
    · have HE : Hid (l.take i = l) := List.take_of_length_le (by have := HL.out; omega)
      have hin : i = n := by omega
      go_wp2
      go_ret
      refine ⟨⟨u3, rfl, ?_⟩, HB.out⟩
      have h := HW.out
      rw [HE.out, hin] at h
      exact h
end Go.Proofs.YtlpkaelgeeecoaaDoor
