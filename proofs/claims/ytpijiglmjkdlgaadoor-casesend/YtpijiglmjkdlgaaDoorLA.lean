/-
  Cases: Steps; the law's opens.
-/
import Derived.Test.YtpijiglmjkdlgaaDoorOpA
namespace Go.Proofs.YtpijiglmjkdlgaaDoor
open Go.RowKit

section
variable {w : World} {D : KD} {sv : SlV} {ts : List Nat} {stage : ByteArray} {since : Int} {steps : List Stp}
set_option maxHeartbeats 1000000 in
theorem steps_p (h : CaseAt w D sv ts stage since steps) (hl : steps.length ≤ 1000000) : Calls Tryd.prog 12 #[.pointer (some ⟨D.kb, 0, none⟩)] w fun e w' => ∃ a n c, e = .returned (.slice a n c) ∧ n = steps.length ∧ Below w.heap.size w w' := by
  obtain ⟨c0, c1, c2, c3, c4, c5, c6⟩ := h.cells
  have hrd : RdS stE w (· < w.heap.size) (.slice sv.a sv.n sv.c) steps := h.row.rdS.mono fun k hk => hk.2.1
  have hn := hrd.len
  have HC := hidLL (clone_t hrd (by omega))
  clear h hrd hn
  go_enter Tryd.func12, Tryd.ntmps12
  go_wp2_with fail
  refine HC.out.mono ?_
  rintro e w1 ⟨⟨a, n, c, rfl, hr⟩, hb⟩
  have HE : Hid (n = steps.length ∧ Below w.heap.size w w1) := by
    obtain ⟨a', n', c', e, hn'⟩ := hr.any3
    injection e with _ e2 _
    exact ⟨e2.trans hn', hb⟩
  clear hr hb
  go_wp2
  go_ret
  exact ⟨a, n, c, rfl, HE.out⟩
end
def pA : Pn := ⟨⟨#[97]⟩, [], []⟩
theorem pA_bare : Bare pA := ⟨rfl, rfl, by decide⟩
set_option maxHeartbeats 1000000 in
theorem opens_l {w : World} {pp : Nat → Addr} (L : Laid w pp) : Calls Tryd.prog 4 #[] w fun e w' => e = .returned (.bool true) ∧ Below w.heap.size w w' := by
  have hP : PnAt w (fun _ => False) pA ⟨none, 0, 0⟩ ⟨none, 0, 0⟩ := ⟨⟨none, 0, rfl, by simp [pA], fun j x h => by simp [pA] at h⟩, ⟨none, 0, rfl, by simp [pA], fun j x h => by simp [pA] at h⟩, fun k hk => hk.elim, Nat.le_refl _⟩
  have HC := hidLL (open_p hP (fun s hs => by
    have : s = ⟨#[97]⟩ := by simpa [pA, Pn.names] using hs
    subst this
    show 1 ≤ maxLen
    unfold maxLen
    omega) (by simp) L 5)
  clear hP
  go_enter Tryd.func4, Tryd.ntmps4
  go_wp2_with fail
  refine HC.out.mono ?_
  rintro e w1 (⟨a, rfl, hn, _⟩ | ⟨D, rfl, _, _, _, _, _, _, hc, hb⟩)
  · exact absurd ⟨pA_bare, by decide⟩ hn
  · have HS := hidLL (stage_p hc 0)
    have HB := hidLL hb
    clear hb hc
    go_wp2_with fail
    refine HS.out.mono ?_
    rintro e w2 ⟨rfl, h9⟩
    have h9 : w2 = w1 := h9
    subst w2
    go_wp2
    go_ret
    exact ⟨by first | rfl | simp [pA], HB.out⟩
end Go.Proofs.YtpijiglmjkdlgaaDoor
namespace Go.Proofs.YtpijiglmjkdlgaaDoor
open Go.RowKit

theorem beq_bytes {x s : ByteArray} : (x.toList == s.toList) = true ↔ x = s := by
  rw [beq_iff_eq]
  constructor
  · intro h
    rw [ByteArray.toList_eq, ByteArray.toList_eq] at h
    exact ByteArray.ext (Array.toList_inj.1 h)
  · rintro rfl
    rfl
theorem drewN2 (w : World) (a b : Nat) : (w.drewN a).drewN b = w.drewN (a + b) := by
  unfold World.drewN
  simp [Nat.add_assoc]
/-- The reference's plan. -/
structure PlAt (w : World) (S : Nat → Prop) (b o : Nat) (p : Pn) (pf pm : SlV) : Prop where
  c0 : w.cell? ⟨b, o, none⟩ = some (.string p.start)
  c1 : w.cell? ⟨b, o + 1, none⟩ = some (.slice pf.a pf.n pf.c)
  c2 : w.cell? ⟨b, o + 2, none⟩ = some (.slice pm.a pm.n pm.c)
  fin : RdS strE w S (.slice pf.a pf.n pf.c) p.fin
  mvs : RdS mvE w S (.slice pm.a pm.n pm.c) p.mvs
  lt : ∀ k, S k → k < w.heap.size
  nf : pf.a = none → pf.c = 0
theorem PlAt.step {w w' : World} {S : Nat → Prop} {b o : Nat} {p : Pn} {pf pm : SlV} (h : PlAt w S b o p pf pm) (hb : Below w.heap.size w w') : PlAt w' S b o p pf pm :=
  have hk : ∀ k, S k → S k ∧ w'.heap[k]? = w.heap[k]? := fun k hk => ⟨hk, hb.block k (h.lt k hk)⟩
  ⟨(hb.cell (p := ⟨b, o, none⟩) (cell_lt h.c0)).trans h.c0, (hb.cell (p := ⟨b, o + 1, none⟩) (cell_lt h.c1)).trans h.c1, (hb.cell (p := ⟨b, o + 2, none⟩) (cell_lt h.c2)).trans h.c2, h.fin.on hk, h.mvs.on hk, fun k hk => Nat.lt_of_lt_of_le (h.lt k hk) hb.size, h.nf⟩
section
variable {w : World} {S : Nat → Prop}
def InR (w : World) (l : List ByteArray) (s : ByteArray) (e : Ending) (w' : World) : Prop := ∃ b : Bool, e = .returned (.bool b) ∧ (b = true ↔ s ∈ l) ∧ w' = w
set_option maxHeartbeats 1000000 in
theorem inNames_r {a : Option Addr} {n c : Nat} {l : List ByteArray} (h : RdS strE w S (.slice a n c) l) (s : ByteArray) : Calls Tryd.prog 18 #[.slice a n c, .string s] w (InR w l s) := by
  obtain ⟨hn, hbig⟩ := h.len
  have HN := hidLL hn
  have H := hidLL h
  clear h hn
  go_enter Tryd.func18, Tryd.ntmps18
  go_wp2_with fail
  go_loopw [5] (fun i wr => ∃ j : Nat, j ≤ n ∧ i = .int .i64 j ∧ (∀ k x, k < j → l[k]? = some x → ¬ x = s) ∧ wr = w) (fun i _ => n - (RowKit.intOf i).toNat)
  case atStart => exact ⟨0, by omega, rfl, fun k x hk => by omega, rfl⟩
  case round =>
    obtain ⟨j, hj, rfl, hno, h9⟩ := hrel
    subst wr
    have HNo := hidLL hno
    clear hno
    by_cases hlt : j < n
    · have hjz : (j : Int) < n := by omega
      obtain ⟨x, hx⟩ : ∃ x, l[j]? = some x := ⟨_, List.getElem?_eq_getElem (by have := HN.out; omega)⟩
      obtain ⟨g, o, rfl, hg, hrg⟩ := H.out.at hx
      have y0 : w.cell? ⟨g, o + j, none⟩ = some (.string x) := by
        have := hrg 0 _ rfl
        rw [show strE.k = 1 from rfl, Nat.mul_one] at this
        exact this
      have HX := hidLL hx
      clear hx hrg hg
      cases hq : (x.toList == s.toList) with
      | true =>
        go_wp2
        go_ret
        exact ⟨true, rfl, ⟨fun _ => (beq_bytes.1 hq) ▸ List.mem_of_getElem? HX.out, fun _ => rfl⟩, rfl⟩
      | false =>
        go_wp2
        go_roundw
        case rel =>
          refine ⟨j + 1, by omega, by go_num, fun k y hk hy => ?_, by trivial⟩
          by_cases e : k = j
          · subst e
            rw [HX.out] at hy
            injection hy with hy
            subst hy
            intro e9
            rw [beq_bytes.2 e9] at hq
            cases hq
          · exact HNo.out k y (by omega) hy
        case measure => simp [RowKit.intOf]; omega
    · have hjz : ¬ (j : Int) < n := by omega
      go_wp2
      go_ret
      refine ⟨false, rfl, ⟨fun h9 => (by cases h9), fun h9 => ?_⟩, rfl⟩
      obtain ⟨k, hk⟩ := List.getElem?_of_mem h9
      have := (List.getElem?_eq_some_iff.1 hk).1
      exact absurd rfl (HNo.out k s (by have := HN.out; omega) hk)
def FewR (w : World) (p : Pn) (e : Ending) (w' : World) : Prop := ∃ b : Bool, e = .returned (.bool b) ∧ (b = true → p.mvs.length ≤ 125 ∧ p.fin.length ≤ 125) ∧ ∃ q, w' = w.drewN q
set_option maxHeartbeats 4000000 in
set_option maxRecDepth 20000 in
theorem few_l {b o : Nat} {p : Pn} {pf pm : SlV} (h : PlAt w S b o p pf pm) : Calls Tryd.prog 5 #[.pointer (some ⟨b, o, none⟩)] w (FewR w p) := by
  obtain ⟨hpn, hbig⟩ := h.mvs.len
  obtain ⟨hfn, hbigF⟩ := h.fin.len
  have HN := hidLL (And.intro hpn hfn)
  have H := hidLL h
  have c1 := h.c1
  have c2 := h.c2
  clear h hpn hfn
  obtain ⟨mn, hmn⟩ : ∃ mn, mn = pm.n := ⟨_, rfl⟩
  obtain ⟨fn, hfn⟩ : ∃ fn, fn = pf.n := ⟨_, rfl⟩
  rw [← hmn] at c2 hbig
  rw [← hfn] at c1 hbigF
  have HMn := hidLL (And.intro hmn hfn)
  clear hmn hfn
  go_enter Tryd.func5, Tryd.ntmps5
  go_wp2_with fail
  go_loopw [4, 3] (fun i x wr => ∃ (j : Nat) (z : Int), j ≤ mn ∧ i = .int .i64 j ∧ x = .int .i64 z ∧ ∃ q, wr = w.drewN q) (fun i _ _ => mn - (RowKit.intOf i).toNat)
  case atStart => exact ⟨0, 0, by omega, rfl, rfl, 0, rfl⟩
  case round =>
    obtain ⟨j, z, hj, rfl, rfl, q, h9⟩ := hrel
    subst wr
    by_cases hlt : j < mn
    · have hjz : (j : Int) < mn := by omega
      obtain ⟨m, hm⟩ : ∃ m, p.mvs[j]? = some m := ⟨_, List.getElem?_eq_getElem (by have := HN.out; have := HMn.out; omega)⟩
      obtain ⟨g, o2, hga, hg, hrg⟩ := H.out.mvs.at hm
      rw [show mvE.k = 8 from rfl] at hrg
      obtain ⟨y0, y1, y2, y3, y4, y5, y6, y7⟩ := mv_cells hrg
      rw [hga] at c2
      clear hm hrg hg hga
      go_wp2_with fail
      go_quiet (fail)
      generalize wrap64 (wrap64 (wrap64 (wrap64 (z + ↑m.nm.size) + ↑m.fr.size) + ↑m.tt.size) + ↑m.wh.size) = z2
      rw [drewN2]
      generalize q + nq = q2
      cases hu : (m.u == (1 : Int)) with
      | false =>
        go_wp2
        go_roundw
        case rel => exact ⟨j + 1, z2, by omega, by go_num, rfl, q2, rfl⟩
        case measure => simp [RowKit.intOf]; omega
      | true =>
        by_cases h15 : (1500 : Int) < m.n
        case neg =>
          go_wp2
          go_roundw
          case rel => exact ⟨j + 1, z2, by omega, by go_num, rfl, q2, rfl⟩
          case measure => simp [RowKit.intOf]; omega
        case pos =>
          by_cases h16 : m.n ≤ (100000 : Int)
          case neg =>
            go_wp2
            go_roundw
            case rel => exact ⟨j + 1, z2, by omega, by go_num, rfl, q2, rfl⟩
            case measure => simp [RowKit.intOf]; omega
          case pos =>
            go_wp2
            go_ret
            exact ⟨false, rfl, fun h9 => (by cases h9), q2, rfl⟩
    · have hjz : ¬ (j : Int) < mn := by omega
      by_cases h1 : (mn : Int) ≤ 125
      case neg =>
        go_wp2
        go_ret
        exact ⟨false, rfl, fun h9 => (by cases h9), q, rfl⟩
      case pos =>
        by_cases h2 : (fn : Int) ≤ 125
        case neg =>
          go_wp2
          go_ret
          exact ⟨false, rfl, fun h9 => (by cases h9), q, rfl⟩
        case pos =>
          go_wp2
          go_ret
          refine ⟨_, rfl, fun _ => ?_, q, rfl⟩
          have := HN.out
          have := HMn.out
          omega
end
end Go.Proofs.YtpijiglmjkdlgaaDoor
