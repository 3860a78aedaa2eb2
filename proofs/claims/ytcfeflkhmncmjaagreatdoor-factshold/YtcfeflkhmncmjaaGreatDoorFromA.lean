/-
  The law's size, few.
-/
import Derived.Test.YtcfeflkhmncmjaaGreatDoorFrA
import Derived.Test.YtcfeflkhmncmjaaGreatDoorHoldA
import Derived.Test.YtcfeflkhmncmjaaGreatDoorMemA
import Derived.Test.YtcfeflkhmncmjaaGreatDoorBel1
namespace Go.Proofs.YtcfeflkhmncmjaaGreatDoor
open Go.RowKit

/-- Texts that a machine can hold. -/
inductive TSm : Tr → Prop
  | mk (t : Tr) (hw : t.word.size ≤ 140737488351232) (hd : t.kind.size ≤ 140737488351232) (hk : ∀ (i : Nat) (u : Tr), t.kids[i]? = some u → TSm u) : TSm t
theorem TSm.of {t : Tr} (h : TSm t) : t.word.size ≤ 140737488351232 ∧ t.kind.size ≤ 140737488351232 ∧ ∀ (i : Nat) (u : Tr), t.kids[i]? = some u → TSm u := by
  cases h with
  | mk _ hw hd hk => exact ⟨hw, hd, hk⟩
/-- A small node. -/
inductive OkT : Tr → Prop
  | mk (t : Tr) (hw : t.word.size ≤ 100000) (hl : t.kids.length ≤ 1000) (hk : ∀ (i : Nat) (u : Tr), t.kids[i]? = some u → OkT u) : OkT t
theorem OkT.of {t : Tr} (h : OkT t) : t.word.size ≤ 100000 ∧ t.kids.length ≤ 1000 ∧ ∀ (i : Nat) (u : Tr), t.kids[i]? = some u → OkT u := by
  cases h with
  | mk _ hw hl hk => exact ⟨hw, hl, hk⟩
/-- What size tells. -/
def SizeIs (t : Tr) : Prop := ∀ (w : World) (ka : Option Addr) (kc d : Nat), d ≤ 61 → NR w ka kc t →
  Calls Tryz.prog 14 #[.agg #[.string t.kind, .string t.word, .int .i64 t.num, .slice ka t.kids.length kc], .int .i64 d] w fun e w' => ∃ k : Int, e = .returned (.int .i64 k) ∧ 1 ≤ k ∧ k ≤ 8000000000000 + 1000 * (61 - d) ∧ (k ≤ 200 → OkT t ∧ cnt t ≤ k) ∧ Below w.heap.size w w'
theorem cnt_pos (t : Tr) : 1 ≤ cnt t := by rw [cnt_eq]; omega
theorem sum_cnt_len (l : List Tr) : l.length ≤ (l.map cnt).sum := by
  induction l with
  | nil => simp
  | cons x l ih =>
    have := cnt_pos x
    simp only [List.length_cons, List.map_cons, List.sum_cons]
    omega
theorem sum_take_snoc {l : List Tr} {j : Nat} {u : Tr} (h : l[j]? = some u) : ((l.take (j + 1)).map cnt).sum = ((l.take j).map cnt).sum + cnt u := by
  rw [List.take_add_one, h, List.map_append, List.sum_append]
  simp
/-- What stays of the boxed node. -/
structure Bx (w0 w : World) (ab : Nat) (t : Tr) (ka : Option Addr) (kc : Nat) : Prop where
  nr : NR w ka kc t
  n0 : w.cell? ⟨ab, 0, none⟩ = some (.string t.kind)
  n1 : w.cell? ⟨ab, 1, none⟩ = some (.string t.word)
  n2 : w.cell? ⟨ab, 2, none⟩ = some (.int .i64 t.num)
  n3 : w.cell? ⟨ab, 3, none⟩ = some (.slice ka t.kids.length kc)
  bel : Below w0.heap.size w0 w
theorem Bx.step {w0 w w' : World} {ab : Nat} {t : Tr} {ka : Option Addr} {kc : Nat} (h : Bx w0 w ab t ka kc) (hb : Below w.heap.size w w') : Bx w0 w' ab t ka kc :=
  have hx := cell_lt h.n0
  ⟨h.nr.step hb, (hb.cell (p := ⟨ab, 0, none⟩) hx).trans h.n0, (hb.cell (p := ⟨ab, 1, none⟩) hx).trans h.n1, (hb.cell (p := ⟨ab, 2, none⟩) hx).trans h.n2, (hb.cell (p := ⟨ab, 3, none⟩) hx).trans h.n3, h.bel.trans (hb.mono h.bel.size)⟩
theorem Bx.mk0 {w W : World} {t : Tr} {ka : Option Addr} {kc : Nat} (hn : NR w ka kc t) (hW : W = w.alloc (.cells #[.string t.kind, .string t.word, .int .i64 t.num, .slice ka t.kids.length kc] 25)) : Bx w W w.heap.size t ka kc := by
  have hb : Below w.heap.size w W := by rw [hW]; exact (Below.refl _ _).alloc (Nat.le_refl _) _
  have hbk : W.heap[w.heap.size]? = some (.cells #[.string t.kind, .string t.word, .int .i64 t.num, .slice ka t.kids.length kc] 25 (0, 0)) := by rw [hW]; exact Go.Deep.blk_alloc_new w _
  refine ⟨hn.step hb, ?_, ?_, ?_, ?_, hb⟩
  · rw [cell_of_row _ _ 0 _ _ _ hbk]; rfl
  · rw [cell_of_row _ _ 1 _ _ _ hbk]; rfl
  · rw [cell_of_row _ _ 2 _ _ _ hbk]; rfl
  · rw [cell_of_row _ _ 3 _ _ _ hbk]; rfl
set_option maxHeartbeats 2000000 in
set_option maxRecDepth 20000 in
theorem size_step {t : Tr} (hS : TSm t) (ih : ∀ (i : Nat) (u : Tr), t.kids[i]? = some u → SizeIs u) : SizeIs t := by
  intro w ka kc d hd hn
  obtain ⟨W, hW⟩ : ∃ W, W = w.alloc (.cells #[.string t.kind, .string t.word, .int .i64 t.num, .slice ka t.kids.length kc] 25) := ⟨_, rfl⟩
  obtain ⟨ab, hab⟩ : ∃ ab, ab = w.heap.size := ⟨_, rfl⟩
  have HS : Hid (Bx w W ab t ka kc) := by rw [hab]; exact Bx.mk0 hn hW
  have n0 := HS.out.n0
  have n1 := HS.out.n1
  have n3 := HS.out.n3
  have HW := hidLL (And.intro hW hab)
  have hlen := hn.lens.1
  have HI := hidLL ih
  clear hn hW hab ih
  by_cases h60 : 60 < d
  · obtain rfl : d = 61 := by omega
    go_enter Tryz.func14, Tryz.ntmps14
    go_upto_region 1 with fail
    rw [← HW.out.1, ← HW.out.2]
    go_wp2
    go_ret
    exact ⟨1000, rfl, by omega, by omega, fun h => by omega, HS.out.bel⟩
  · have hz : ¬ ((60 : Int) < (d : Int)) := by omega
    obtain ⟨hw, hdd, _⟩ := hS.of
    obtain ⟨q1, hq1⟩ : ∃ q1 : Int, (t.word.size : Int).tdiv 40 = q1 := ⟨_, rfl⟩
    obtain ⟨q2, hq2⟩ : ∃ q2 : Int, (t.kind.size : Int).tdiv 40 = q2 := ⟨_, rfl⟩
    have e1 : q1 = (t.word.size : Int) / 40 := by rw [← hq1]; exact Int.tdiv_eq_ediv_of_nonneg (by omega)
    have e2 : q2 = (t.kind.size : Int) / 40 := by rw [← hq2]; exact Int.tdiv_eq_ediv_of_nonneg (by omega)
    have b1 : 0 ≤ q1 ∧ q1 ≤ 3518437208781 ∧ (t.word.size : Int) ≤ 40 * q1 + 39 := by omega
    have b2 : 0 ≤ q2 ∧ q2 ≤ 3518437208781 := by omega
    obtain ⟨b11, b12, b13⟩ := b1
    obtain ⟨b21, b22⟩ := b2
    have HB1 : Hid ((t.word.size : Int) ≤ 40 * q1 + 39) := b13
    have w1 : IntKind.i64.wrap (1 + q1) = 1 + q1 := by rw [IntKind.wrap_i64]; omega
    have w2 : IntKind.i64.wrap (1 + q1 + q2) = 1 + q1 + q2 := by rw [IntKind.wrap_i64]; omega
    have w3 : IntKind.i64.wrap ((d : Int) + 1) = ((d + 1 : Nat) : Int) := by rw [IntKind.wrap_i64]; omega
    clear e1 e2 b13 hw hdd hS
    obtain ⟨kn, hkn⟩ : ∃ kn, kn = t.kids.length := ⟨_, rfl⟩
    rw [← hkn] at n3 hlen
    have HK := hidLL hkn
    have HPost : Hid (∀ k : Int, 1 ≤ k → k ≤ 8000000000000 + 1000 * (61 - (d : Int)) → (k ≤ 200 → q1 < k ∧ (∀ (i : Nat) (u : Tr), t.kids[i]? = some u → OkT u) ∧ 1 + ((t.kids.map cnt).sum : Int) ≤ k) → (k ≤ 200 → OkT t ∧ cnt t ≤ k)) := fun k h1 h2 h3 h4 => by
      obtain ⟨h5, h6, h7⟩ := h3 h4
      have h8 := sum_cnt_len t.kids
      have h9 := HB1.out
      have h10 := cnt_eq t
      exact ⟨.mk t (by omega) (by omega) h6, by omega⟩
    clear hkn
    go_enter Tryz.func14, Tryz.ntmps14
    go_upto_region 1 with fail
    rw [← HW.out.1, ← HW.out.2]
    go_wp2_with fail
    go_loopw [5, 6] (fun s i wr => ∃ (j : Nat) (k : Int), j ≤ kn ∧ i = .int .i64 j ∧ s = .int .i64 k ∧ 1 ≤ k ∧ k ≤ 8000000000000 + 1000 * (61 - (d : Int)) ∧ (k ≤ 200 → q1 < k ∧ (∀ (i : Nat) (u : Tr), (t.kids.take j)[i]? = some u → OkT u) ∧ 1 + (((t.kids.take j).map cnt).sum : Int) ≤ k) ∧ Bx w wr ab t ka kc) (fun _ i _ => kn - (RowKit.intOf i).toNat)
    case atStart => exact ⟨0, 1 + q1 + q2, by omega, rfl, by first | rfl | simp [w1, w2], by omega, by omega, fun _ => ⟨by omega, fun i u h => by simp at h, by simp; omega⟩, HS.out⟩
    case round =>
      obtain ⟨j, k, hj, rfl, rfl, hk1, hk2, hk3, hb⟩ := hrel
      have HKK := hidLL (And.intro hk3 hb)
      have n3' := hb.n3
      rw [← HK.out] at n3'
      clear hk3 hb n3 n0 n1
      by_cases hlt : j < kn
      · have hjz : (j : Int) < kn := by omega
        by_cases hk9 : k < 1000
        · obtain ⟨u, hu⟩ : ∃ u, t.kids[j]? = some u := ⟨_, List.getElem?_eq_getElem (by have := HK.out; omega)⟩
          obtain ⟨g, o, ka', kc', rfl, x0, x1, x2, x3, hur⟩ := HKK.out.2.nr.kid hu
          have HC := hidLL (HI.out j u hu wr ka' kc' (d + 1) (by omega) hur)
          have HU := hidLL hu
          clear hu hur
          go_wp2_with (go_at_call 14; refine HC.out.mono ?_; rintro e w2 ⟨k2, rfl, y1, y2, y3, y4⟩; (have HY := hidLL (And.intro y3 y4)); (have wk : IntKind.i64.wrap (k + k2) = k + k2 := (by rw [IntKind.wrap_i64]; omega)); clear y3 y4)
          go_roundw
          case rel =>
            refine ⟨j + 1, k + k2, by omega, by go_num, rfl, by omega, by omega, fun h => ?_, HKK.out.2.step HY.out.2⟩
            obtain ⟨h1, h2, h3⟩ := HKK.out.1 (by omega)
            obtain ⟨h4, h5⟩ := HY.out.1 (by omega)
            refine ⟨by omega, fun i v hv => ?_, ?_⟩
            · rw [List.take_add_one, HU.out] at hv
              rcases List.mem_append.1 (List.mem_of_getElem? hv) with h | h
              · obtain ⟨i', hi'⟩ := List.getElem?_of_mem h
                exact h2 i' v hi'
              · simp at h
                subst h
                exact h4
            · rw [sum_take_snoc HU.out]
              push_cast
              omega
          case measure => simp [RowKit.intOf]; omega
        · have hk8 : decide (k < 1000) = false := by simp; omega
          have HB := hidLL HKK.out.2.bel
          go_wp2
          go_ret
          exact ⟨k, rfl, hk1, hk2, fun h => by omega, HB.out⟩
      · have hjz : ¬ (j : Int) < kn := by omega
        have hjd : decide ((j : Int) < kn) = false := by simp; omega
        have HB := hidLL HKK.out.2.bel
        have HE : Hid (t.kids.take j = t.kids) := List.take_of_length_le (by have := HK.out; omega)
        go_wp2
        go_ret
        exact ⟨k, rfl, hk1, hk2, HPost.out k hk1 hk2 (by have := HKK.out.1; rw [HE.out] at this; exact this), HB.out⟩
theorem size_l : ∀ (n : Nat) (t : Tr), SizeOf.sizeOf t = n → TSm t → SizeIs t := by
  intro n
  induction n using Nat.strongRecOn with
  | ind n ih =>
    intro t hn hS
    exact size_step hS fun i u hu => ih _ (by rw [← hn]; exact kid_size hu) u rfl (hS.of.2.2 i u hu)
set_option maxHeartbeats 2000000 in
theorem few_n {w : World} {ka : Option Addr} {kc : Nat} {t : Tr} (hS : TSm t) (hn : NR w ka kc t) :
    Calls Tryz.prog 5 #[.agg #[.string t.kind, .string t.word, .int .i64 t.num, .slice ka t.kids.length kc]] w fun e w' => ∃ b : Bool, e = .returned (.bool b) ∧ (b = true → OkT t ∧ cnt t ≤ 200) ∧ Below w.heap.size w w' := by
  obtain ⟨W, hW⟩ : ∃ W, W = w.alloc (.cells #[.string t.kind, .string t.word, .int .i64 t.num, .slice ka t.kids.length kc] 25) := ⟨_, rfl⟩
  obtain ⟨ab, hab⟩ : ∃ ab, ab = w.heap.size := ⟨_, rfl⟩
  have HS : Hid (Bx w W ab t ka kc) := by rw [hab]; exact Bx.mk0 hn hW
  have n0 := HS.out.n0
  have n1 := HS.out.n1
  have n2 := HS.out.n2
  have n3 := HS.out.n3
  have HW := hidLL (And.intro hW hab)
  have HC := hidLL (size_l _ t rfl hS W ka kc 0 (by omega) HS.out.nr)
  clear hn hW hab hS
  go_enter Tryz.func5, Tryz.ntmps5
  go_upto_region 1 with fail
  rw [← HW.out.1, ← HW.out.2]
  go_wp2_with (go_at_call 14; refine HC.out.mono ?_; rintro e w2 ⟨k2, rfl, y1, y2, y3, y4⟩; (have HY := hidLL (And.intro y3 (HS.out.step y4))); clear y3 y4)
  go_ret
  refine ⟨decide (k2 ≤ 200), by simp, fun h => ?_, HY.out.2.bel⟩
  obtain ⟨h1, h2⟩ := HY.out.1 (of_decide_eq_true h)
  exact ⟨h1, by have := of_decide_eq_true h; omega⟩
end Go.Proofs.YtcfeflkhmncmjaaGreatDoor
namespace Go.Proofs.YtcfeflkhmncmjaaGreatDoor
open Go.RowKit

def ndE : Enc (Tr × SlV) := ⟨fun p => [.string p.1.kind, .string p.1.word, .int .i64 p.1.num, .slice p.2.a p.2.n p.2.c], 4, by decide, fun _ => rfl, fun p u h => by
  simp only [List.mem_cons, List.not_mem_nil, or_false] at h
  rcases h with rfl | rfl | rfl | rfl <;> rfl⟩
theorem Tryz.infoNd : ∃ i z, Tryz.prog.info? 44 = some i ∧ i.zero = some z ∧ i.size = ndE.k ∧ i.bytes = 64 ∧ z.cells.size = ndE.k := by
  have h : (Tryz.prog.info? 44).map (fun i => (i.zero, i.size, i.bytes)) = some (some (.agg #[.string ⟨#[]⟩, .string ⟨#[]⟩, .int .i64 0, .slice none 0 0]), 4, 64) := by kernel_rfl
  obtain ⟨i, h1, h2⟩ := Option.map_eq_some_iff.1 h
  simp only [Prod.mk.injEq] at h2
  exact ⟨i, _, h1, h2.1, h2.2.1, h2.2.2, rfl⟩
theorem blk_lt {w : World} {b : Nat} {o : Obj} (h : w.heap[b]? = some o) : b < w.heap.size := (Array.getElem?_eq_some_iff.1 h).1
/-- The node as it is being made. -/
structure FmS (w0 w : World) (eb e1 e2 : Nat) (t : Tr) (ka : Option Addr) (kc : Nat) (v : Value) (l : List (Tr × SlV)) : Prop where
  o0 : eb = w0.heap.size
  o1 : eb < e1
  o2 : e1 < e2
  b0 : w.heap[eb]? = some (.cells #[.string t.kind, .string t.word, .int .i64 t.num, .slice ka t.kids.length kc] 25 (0, 0))
  b1 : w.heap[e1]? = some (.cells #[.string ⟨#[]⟩, .string ⟨#[]⟩, .int .i64 0, .slice none 0 0] 44 (0, 0))
  b2 : w.heap[e2]? = some (.cells #[.string t.kind, .string t.word, .int .i64 t.num, v] 44 (0, 0))
  row : RowG ndE 44 w (e2 + 1) v l
  kids : ∀ (i : Nat) (p : Tr × SlV), l[i]? = some p → t.kids[i]? = some p.1 ∧ p.2.n = p.1.kids.length ∧ NdV w (fun k => e2 + 1 ≤ k ∧ k < w.heap.size ∧ v.ownBlock ≠ some k) p.2.a p.2.c p.1
  bel : Below eb w0 w
  nr : NR w0 ka kc t
theorem NdV.stepS {w w' : World} {S S' : Nat → Prop} {ka : Option Addr} {kc : Nat} {t : Tr} (h : NdV w S ka kc t) (hs : ∀ b, b < w.heap.size → S b → w'.heap[b]? = w.heap[b]? ∧ S' b) : NdV w' S' ka kc t := ⟨h.hw, h.hl, h.hc, h.hk, fun i u e => (h.hr i u e).step hs⟩
theorem FmS.nrw {w0 w : World} {eb e1 e2 : Nat} {t : Tr} {ka : Option Addr} {kc : Nat} {v : Value} {l : List (Tr × SlV)} (h : FmS w0 w eb e1 e2 t ka kc v l) : NR w ka kc t := h.nr.step (by have := h.bel; rw [h.o0] at this; exact this)
/-- One kid more. -/
theorem FmS.push {w0 wr w5 w6 : World} {eb e1 e2 : Nat} {t u : Tr} {ka : Option Addr} {kc : Nat} {v v' : Value} {l : List (Tr × SlV)} {s : SlV} (h : FmS w0 wr eb e1 e2 t ka kc v l) (hu : t.kids[l.length]? = some u) (hb5 : Below wr.heap.size wr w5) (hn : NdV w5 (fun k => wr.heap.size ≤ k ∧ k < w5.heap.size) s.a s.c u) (hsn : s.n = u.kids.length)
    (hr6 : RowG ndE 44 w6 (e2 + 1) v' (l ++ [(u, s)])) (hb6 : Below (e2 + 1) w5 w6) (hk6 : ∀ k, v.ownBlock ≠ some k → k < w5.heap.size → w6.heap[k]? = w5.heap[k]?) (hv6 : ∀ k, v'.ownBlock = some k → v.ownBlock = some k ∨ w5.heap.size ≤ k) :
    w6.cell? ⟨e2, 3, none⟩ = some v ∧ w6.frozen? ⟨e2, 3, none⟩ = false ∧ FmS w0 (w6.setCell ⟨e2, 3, none⟩ v') eb e1 e2 t ka kc v' (l ++ [(u, s)]) := by
  have h1 := h.o1
  have h2 := h.o2
  have he2 : e2 < wr.heap.size := blk_lt h.b2
  have hz5 := hb5.size
  have hz6 := hb6.size
  have hb : ∀ k, k ≤ e2 → w6.heap[k]? = wr.heap[k]? := fun k hk => (hb6.block k (by omega)).trans (hb5.block k (by omega))
  have x2 := (hb e2 (Nat.le_refl _)).trans h.b2
  have hs : ∀ k, k ≠ e2 → (w6.setCell ⟨e2, 3, none⟩ v').heap[k]? = w6.heap[k]? := fun k hk => Below.heap_setCell _ _ _ _ hk
  have hsz : (w6.setCell ⟨e2, 3, none⟩ v').heap.size = w6.heap.size := by simp
  have hown : ∀ k, v.ownBlock = some k → e2 + 1 ≤ k ∧ k < wr.heap.size := fun k hk => h.row.blk hk
  refine ⟨by rw [cell_of_row _ _ 3 _ _ _ x2]; rfl, frozen_of_row _ _ _ _ _ x2, h.o0, h1, h2, (hs eb (by omega)).trans ((hb eb (by omega)).trans h.b0), (hs e1 (by omega)).trans ((hb e1 (by omega)).trans h.b1), ?_, hr6.on fun k hk hge _ => hs k (by omega), fun i p hp => ?_, ?_, h.nr⟩
  · rw [heap_setCell_same _ _ _ _ _ _ x2]; rfl
  · rcases Nat.lt_or_ge i l.length with hi | hi
    · rw [List.getElem?_append_left hi] at hp
      obtain ⟨p1, p2, p3⟩ := h.kids i p hp
      refine ⟨p1, p2, p3.stepS fun b hb9 ⟨q1, q2, q3⟩ => ⟨?_, q1, by rw [hsz]; omega, fun e => ?_⟩⟩
      · rw [hs b (by omega), hk6 b q3 (by omega)]
        exact hb5.block b hb9
      · rcases hv6 b e with e9 | e9
        · exact q3 e9
        · omega
    · have hil : i = l.length := by
        have := (List.getElem?_eq_some_iff.1 hp).1
        simp at this
        omega
      subst hil
      rw [List.getElem?_append_right (Nat.le_refl _)] at hp
      simp at hp
      subst hp
      refine ⟨hu, hsn, hn.stepS fun b hb9 ⟨q1, q2⟩ => ⟨?_, by omega, by rw [hsz]; omega, fun e => ?_⟩⟩
      · rw [hs b (by omega), hk6 b (fun e => by have := (hown b e).2; omega) q2]
      · rcases hv6 b e with e9 | e9
        · have := (hown b e9).2; omega
        · omega
  · exact ((h.bel.trans (hb5.mono (by omega))).trans (hb6.mono (by omega))).setCell (p := ⟨e2, 3, none⟩) (by show eb ≤ e2; omega) _
/-- It is whole. -/
theorem FmS.whole {w0 w w' : World} {eb e1 e2 : Nat} {t : Tr} {ka : Option Addr} {kc n c : Nat} {a : Option Addr} {l : List (Tr × SlV)} (h : FmS w0 w eb e1 e2 t ka kc (.slice a n c) l) (hl : l.length = t.kids.length) (hO : OkT t) (hb : ∀ k, e2 < k → k < w.heap.size → w'.heap[k]? = w.heap[k]?) (hsz : w.heap.size ≤ w'.heap.size) : n = t.kids.length ∧ NdV w' (fun k => w0.heap.size ≤ k ∧ k < w'.heap.size) a c t := by
  have h0 := h.o0
  have h1 := h.o1
  have h2 := h.o2
  obtain ⟨a', c', e⟩ := h.row.any
  injection e with ea en ec
  subst ea ec
  refine ⟨en.trans hl, hO.of.1, hO.of.2.1, ?_, fun hp => ?_, fun i u hu => ?_⟩
  · rw [← hl]
    rcases h.row.row.2 with ⟨e, e0⟩ | ⟨g, cap, cur, e, _, _, hcap, _⟩
    · injection e with _ e3 e4
      omega
    · injection e with _ e3 e4
      omega
  · rcases h.row.row.2 with ⟨e, e0⟩ | ⟨g, cap, cur, e, _, _, hcap, _⟩
    · rw [← hl] at hp
      omega
    · injection e with e5 _ _
      exact ⟨g, 0, e5⟩
  · have hi := (List.getElem?_eq_some_iff.1 hu).1
    obtain ⟨p, hp⟩ : ∃ p, l[i]? = some p := ⟨_, List.getElem?_eq_getElem (by omega)⟩
    obtain ⟨p1, p2, p3⟩ := h.kids i p hp
    rw [p1] at hu
    injection hu with hu
    subst hu
    rcases h.row.row.2 with ⟨e, e0⟩ | ⟨g, cap, cur, e, hge, hgg, hcap, _⟩
    · omega
    · injection e with e5 e6 e7
      subst e5
      have hgl : g < w.heap.size := blk_lt hgg
      have hcell : ∀ c2 u2, (ndE.f p)[c2]? = some u2 → w'.cell? ⟨g, 0 + i * 4 + c2, none⟩ = some u2 := fun c2 u2 hc2 => by
        have h9 := h.row.cells (g := g) (n := n) (cap := c) rfl _ _ (ndE.all_get l i p hp c2 u2 hc2)
        rw [show ndE.k = 4 from rfl] at h9
        rw [show 0 + i * 4 + c2 = i * 4 + c2 by omega]
        exact (World.cell?_of_block (a := ⟨g, i * 4 + c2, none⟩) (hb g (by omega) hgl)).trans h9
      show NdAt w' _ ⟨g, 0 + i * 4, none⟩ p.1
      refine .mk g (0 + i * 4) p.1 p.2.a p.2.c ⟨by omega, by omega⟩ ⟨_, _, (hb g (by omega) hgl).trans hgg⟩ (hcell 0 _ rfl) (hcell 1 _ rfl) (hcell 2 _ rfl) ?_ p3.hw p3.hl p3.hc p3.hk fun j u2 hj => (p3.hr j u2 hj).step fun b hb9 ⟨q1, q2, _⟩ => ⟨hb b (by omega) q2, by omega, by omega⟩
      rw [← p2]
      exact hcell 3 _ rfl
/-- What From makes. -/
def FromIs (t : Tr) : Prop := ∀ (w : World) (ka : Option Addr) (kc : Nat), NR w ka kc t →
  Calls Tryz.prog 9 #[.agg #[.string t.kind, .string t.word, .int .i64 t.num, .slice ka t.kids.length kc]] w fun e w' => (∃ sa sc, e = .returned (.agg #[.string t.kind, .string t.word, .int .i64 t.num, .slice sa t.kids.length sc]) ∧ NdV w' (fun k => w.heap.size ≤ k ∧ k < w'.heap.size) sa sc t) ∧ Below w.heap.size w w'
set_option maxHeartbeats 4000000 in
set_option maxRecDepth 20000 in
theorem from_step {t : Tr} (hO : OkT t) (ih : ∀ (i : Nat) (u : Tr), t.kids[i]? = some u → FromIs u) : FromIs t := by
  intro w ka kc hn
  obtain ⟨W, hW⟩ : ∃ W, W = ((w.alloc (.cells #[.string t.kind, .string t.word, .int .i64 t.num, .slice ka t.kids.length kc] 25)).alloc (.cells #[.string ⟨#[]⟩, .string ⟨#[]⟩, .int .i64 0, .slice none 0 0] 44)).alloc (.cells #[.string t.kind, .string t.word, .int .i64 t.num, .slice none 0 0] 44) := ⟨_, rfl⟩
  obtain ⟨eb, heb⟩ : ∃ eb, eb = w.heap.size := ⟨_, rfl⟩
  obtain ⟨e1, he1⟩ : ∃ e1, e1 = w.heap.size + 1 := ⟨_, rfl⟩
  obtain ⟨e2, he2⟩ : ∃ e2, e2 = w.heap.size + 1 + 1 := ⟨_, rfl⟩
  have hS : FmS w W eb e1 e2 t ka kc (.slice none 0 0) [] := by
    rw [hW, heb, he1, he2]
    refine ⟨rfl, by omega, by omega, ?_, ?_, ?_, RowG.nil _ _, fun i p hp => by simp at hp, ?_, hn⟩
    · rw [Go.Deep.blk_alloc_lt _ _ _ (by simp; omega), Go.Deep.blk_alloc_lt _ _ _ (by simp)]
      exact Go.Deep.blk_alloc_new w _
    · rw [Go.Deep.blk_alloc_lt _ _ _ (by simp)]
      have := Go.Deep.blk_alloc_new (w.alloc (.cells #[.string t.kind, .string t.word, .int .i64 t.num, .slice ka t.kids.length kc] 25)) (.cells #[.string ⟨#[]⟩, .string ⟨#[]⟩, .int .i64 0, .slice none 0 0] 44)
      simpa using this
    · have := Go.Deep.blk_alloc_new ((w.alloc (.cells #[.string t.kind, .string t.word, .int .i64 t.num, .slice ka t.kids.length kc] 25)).alloc (.cells #[.string ⟨#[]⟩, .string ⟨#[]⟩, .int .i64 0, .slice none 0 0] 44)) (.cells #[.string t.kind, .string t.word, .int .i64 t.num, .slice none 0 0] 44)
      simpa using this
    · exact (bel1 _ _).trans (((bel1 _ _).mono (by simp)).trans ((bel1 _ _).mono (by simp; omega)))
  have HS := hidLL hS
  have HO := hidLL hO
  have HI := hidLL ih
  have hkl := hO.of.2.1
  have HEb := hidLL heb
  obtain ⟨kn, hkn⟩ : ∃ kn, kn = t.kids.length := ⟨_, rfl⟩
  rw [← hkn] at hkl
  have HK := hidLL hkn
  clear hS hO ih hn hkn
  go_enter Tryz.func9, Tryz.ntmps9
  go_upto_region 2 with fail
  rw [← hW, ← he2, ← he1, ← heb]
  clear hW he2 he1 heb
  go_wp2_with fail
  go_loopw [4] (fun i wr => ∃ (j : Nat) (v : Value) (l : List (Tr × SlV)), j ≤ kn ∧ i = .int .i64 j ∧ l.length = j ∧ FmS w wr eb e1 e2 t ka kc v l) (fun i _ => kn - (RowKit.intOf i).toNat)
  case atStart => exact ⟨0, _, [], by omega, rfl, rfl, HS.out⟩
  case round =>
    clear HS
    obtain ⟨j, v, l, hj, rfl, hlj, hS⟩ := hrel
    obtain ⟨va, vn, vc, rfl, hvn⟩ := hS.row.any3
    have HS := hidLL hS
    have HLj := hidLL hlj
    have v3 : wr.cell? ⟨eb, 3, none⟩ = some (.slice ka kn kc) := by rw [cell_of_row _ eb 3 _ _ _ hS.b0, HK.out]; rfl
    have x0 : wr.cell? ⟨e2, 0, none⟩ = some (.string t.kind) := by rw [cell_of_row _ e2 0 _ _ _ hS.b2]; rfl
    have x1 : wr.cell? ⟨e2, 1, none⟩ = some (.string t.word) := by rw [cell_of_row _ e2 1 _ _ _ hS.b2]; rfl
    have x2 : wr.cell? ⟨e2, 2, none⟩ = some (.int .i64 t.num) := by rw [cell_of_row _ e2 2 _ _ _ hS.b2]; rfl
    have x3 : wr.cell? ⟨e2, 3, none⟩ = some (.slice va vn vc) := by rw [cell_of_row _ e2 3 _ _ _ hS.b2]; rfl
    have he2 : e2 < wr.heap.size := blk_lt hS.b2
    have hebl : eb < wr.heap.size := blk_lt hS.b0
    by_cases hlt : j < kn
    · have c0 : decide ((j : Int) < kn) = true := by simp; omega
      have hjz : (j : Int) < kn := by omega
      obtain ⟨u, hu⟩ : ∃ u, t.kids[j]? = some u := ⟨_, List.getElem?_eq_getElem (by have := HK.out; omega)⟩
      obtain ⟨g, o, ka', kc', rfl, y0, y1, y2, y3, hur⟩ := hS.nrw.kid hu
      have HC := hidLL (HI.out j u hu wr.drew ka' kc' (hur.step (Below.refl _ wr).drew))
      have HU := hidLL hu
      have hB0 : e2 + 1 ≤ wr.heap.size := he2
      have hl0 : l.length + 1 ≤ 1000000 := by omega
      have HRowD : Hid (∀ V, Below wr.heap.size wr V → RowG ndE 44 V (e2 + 1) (.slice va vn vc) l) := fun V hV => hS.row.below hV
      clear hS hvn hlj hu hur x0 x1 x2
      go_upto_region 5 with fail
      go_region_law
        (first
          | (go_simp
             go_at_call 9
             refine HC.out.mono ?_
             rintro e w5 ⟨⟨sa, sc, rfl, hn5⟩, hb5⟩
             have hb6 : Below wr.heap.size wr w5 := (Below.refl _ wr).drew.trans hb5
             have x5 := (hb6.cell (p := ⟨e2, 3, none⟩) he2).trans x3
             have x6 := cellA x5 (.cells #[.string u.kind, .string u.word, .int .i64 u.num, .slice sa u.kids.length sc] 44)
             have hz5 : wr.heap.size ≤ w5.heap.size := hb6.size
             have hne5 : ¬ e2 = w5.heap.size := by omega
             have hn6 : NdV w5 (fun k => wr.heap.size ≤ k ∧ k < w5.heap.size) sa sc u := hn5
             have HN5 := hidLL (And.intro hb6 hn6)
             clear hn5 hn6 hb5 hb6)
          | (refine step_push_g (E := ndE) Tryz.infoNd (by decide) Tryz.underlying42 rfl (.tmp 20) (.tmp 27) rfl (e2 + 1) (.slice va vn vc) l (u, (⟨sa, u.kids.length, sc⟩ : SlV)) _ rfl (by first | (simp [Act.eval]; done) | simp [Act.eval, Act.put]) (HRowD.out _ HN5.out.1) (by first | (simp [Act.eval]; done) | simp [Act.eval, Act.put]) (by omega) hl0 ?_
             intro v6 w6 hr6 hb6 hk6 hv6
             obtain ⟨pa, pn, pc, rfl, hpn⟩ := hr6.any3
             have hpp := HS.out.push (s := ⟨sa, u.kids.length, sc⟩) (by rw [HLj.out]; exact HU.out) HN5.out.1 HN5.out.2 rfl hr6 hb6 hk6 hv6
             have HPp := hidLL (And.intro hpp.2.2 hpn)
             have q0 := hpp.1
             have q1 := hpp.2.1
             clear hr6 hb6 hk6 hv6 hpp hpn))
      all_goals
        go_wp2
        go_roundw
        case rel => exact ⟨j + 1, _, _, hlt, by go_num, by rw [List.length_append, HLj.out]; rfl, HPp.out.1⟩
        case measure => simp [RowKit.intOf]; omega
    · have c0 : decide ((j : Int) < kn) = false := by simp; omega
      have hjk : j = kn := by omega
      have k0 : wr.cell? ⟨e1, 0, none⟩ = some (.string ⟨#[]⟩) := by rw [cell_of_row _ e1 0 _ _ _ hS.b1]; rfl
      have k1 : wr.cell? ⟨e1, 1, none⟩ = some (.string ⟨#[]⟩) := by rw [cell_of_row _ e1 1 _ _ _ hS.b1]; rfl
      have k2 : wr.cell? ⟨e1, 2, none⟩ = some (.int .i64 0) := by rw [cell_of_row _ e1 2 _ _ _ hS.b1]; rfl
      have k3 : wr.cell? ⟨e1, 3, none⟩ = some (.slice none 0 0) := by rw [cell_of_row _ e1 3 _ _ _ hS.b1]; rfl
      have kf : ∀ j, wr.frozen? ⟨e1, j, none⟩ = false := fun j => frozen_of_row _ e1 _ _ _ hS.b1
      have kf0 := kf 0
      have kf1 := kf 1
      have kf2 := kf 2
      have kf3 := kf 3
      have he1 : e1 < wr.heap.size := blk_lt hS.b1
      have HF : Hid (∀ x y z q, (vn = t.kids.length ∧ NdV ((((wr.setCell ⟨e1, 0, none⟩ x).setCell ⟨e1, 1, none⟩ y).setCell ⟨e1, 2, none⟩ z).setCell ⟨e1, 3, none⟩ q) (fun k => w.heap.size ≤ k ∧ k < ((((wr.setCell ⟨e1, 0, none⟩ x).setCell ⟨e1, 1, none⟩ y).setCell ⟨e1, 2, none⟩ z).setCell ⟨e1, 3, none⟩ q).heap.size) va vc t) ∧ Below w.heap.size w ((((wr.setCell ⟨e1, 0, none⟩ x).setCell ⟨e1, 1, none⟩ y).setCell ⟨e1, 2, none⟩ z).setCell ⟨e1, 3, none⟩ q)) := fun x y z q => by
        have hb := hS.bel
        rw [HEb.out] at hb
        have ho1 := hS.o1
        have ho2 := hS.o2
        have heb := HEb.out
        refine ⟨hS.whole (by rw [HLj.out, hjk]; exact HK.out) HO.out (fun k hk _ => ?_) (by simp), (((hb.setCell (p := ⟨e1, 0, none⟩) (by show w.heap.size ≤ e1; omega) _).setCell (p := ⟨e1, 1, none⟩) (by show w.heap.size ≤ e1; omega) _).setCell (p := ⟨e1, 2, none⟩) (by show w.heap.size ≤ e1; omega) _).setCell (p := ⟨e1, 3, none⟩) (by show w.heap.size ≤ e1; omega) _⟩
        have hke : k ≠ e1 := by omega
        rw [Below.heap_setCell _ _ _ _ hke, Below.heap_setCell _ _ _ _ hke, Below.heap_setCell _ _ _ _ hke, Below.heap_setCell _ _ _ _ hke]
      have hvk : vn = t.kids.length := (HF.out (.bool true) (.bool true) (.bool true) (.bool true)).1.1
      subst hvk
      clear kf hS hvn hlj hjk
      go_wp2
      refine bodyPost_ret (v := .agg #[.string t.kind, .string t.word, .int .i64 t.num, .slice va t.kids.length vc]) (by simp [results, Tryz.results9, go_sem, k0, k1, k2, k3]) rfl ⟨⟨va, vc, rfl, ?_⟩, ?_⟩
      · exact (HF.out _ _ _ _).1.2
      · exact (HF.out _ _ _ _).2
theorem from_l : ∀ (n : Nat) (t : Tr), SizeOf.sizeOf t = n → OkT t → FromIs t := by
  intro n
  induction n using Nat.strongRecOn with
  | ind n ih =>
    intro t hn hO
    exact from_step hO fun i u hu => ih _ (by rw [← hn]; exact kid_size hu) u rfl (hO.of.2.2 i u hu)
end Go.Proofs.YtcfeflkhmncmjaaGreatDoor
