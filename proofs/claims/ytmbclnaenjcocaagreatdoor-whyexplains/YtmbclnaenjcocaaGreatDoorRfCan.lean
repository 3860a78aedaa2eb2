/-
  The document's answer for rules: what can be shown (written by tools/genrf.py).
-/
import Derived.Test.YtmbclnaenjcocaaGreatDoorRsLaw3
namespace Go.Proofs.YtmbclnaenjcocaaGreatDoor
open Go.RowKit

/-- What is shown, in memory: of each place four marks. -/
structure SM (w : World) (T : Thy) (rv ov : Value) (B pb po sb bM : Nat) (m : Nat → Nat → Bool) : Prop where
  tp : TP w B T rv ov pb po
  sh : w.heap[sb]? = some (.cells #[.pointer (some ⟨pb, po, none⟩), .slice (some ⟨bM, 0, none⟩) (2 * T.names.toNat) (2 * T.names.toNat)] 45 (0, 0))
  row : w.rowIs bM 42 (2 * T.names.toNat * 4) (fun x => .bool (m (x / 4) (x % 4)))
  lt : B ≤ w.heap.size
theorem SM.bel {w w' : World} {T : Thy} {rv ov : Value} {B pb po sb bM : Nat} {m : Nat → Nat → Bool} (h : SM w T rv ov B pb po sb bM m) (hb : Below w.heap.size w w') : SM w' T rv ov B pb po sb bM m :=
  ⟨h.tp.bel hb h.lt, (hb.block _ (blk_lt h.sh)).trans h.sh, h.row.of_block (hb.block _ h.row.lt), Nat.le_trans h.lt hb.size⟩
def BR (w : World) (b : Bool) (e : Ending) (w' : World) : Prop := e = .returned (.bool b) ∧ Below w.heap.size w w'
theorem plR_p (q : Int) (h0 : q ≠ 0) (h1 : -1000000 ≤ q) (h2 : q ≤ 1000000) (w : World) : Calls Tryz.prog 13 #[.int .i64 q] w fun e w' => e = .returned (.int .i64 (pl q)) ∧ w' = w := by
  by_cases hq : q < 0
  · have HP : Hid ((pl q : Int) = -2 * q - 1) := by
      show _ = _
      unfold pl; rw [if_pos hq]; omega
    generalize pl q = P at *
    go_enter Tryz.func13, Tryz.ntmps13
    go_wp2
    go_ret
    exact ⟨retI HP.out.symm, rfl⟩
  · have HP : Hid ((pl q : Int) = 2 * q - 2) := by
      show _ = _
      unfold pl; rw [if_neg hq]; omega
    generalize pl q = P at *
    go_enter Tryz.func13, Tryz.ntmps13
    go_wp2
    go_ret
    exact ⟨retI HP.out.symm, rfl⟩
variable {w : World} {T : Thy} {rv ov : Value} {B pb po sb bM : Nat} {m : Nat → Nat → Bool}
set_option maxHeartbeats 1000000 in
theorem has_r (h : SM w T rv ov B pb po sb bM m) (hT : Okt T) {q : Int} (hq : IsLit T q) {k : Nat} (hk : k < 4) : Calls Tryz.prog 25 #[.pointer (some ⟨sb, 0, none⟩), .int .i64 q, .int .i64 k] w (BR w (m (pl q) k)) := by
  have x1 : w.cell? ⟨sb, 1, none⟩ = some (.slice (some ⟨bM, 0, none⟩) (2 * T.names.toNat) (2 * T.names.toNat)) := by simp [World.cell?, h.sh]
  have hp := hq.pl
  have hn := hT.n1
  have hn0 := hT.n0
  have y := h.row.cell (i := pl q * 4 + k) (by omega)
  rw [show (pl q * 4 + k) / 4 = pl q by omega, show (pl q * 4 + k) % 4 = k by omega] at y
  have HP : Hid (∀ w, Calls Tryz.prog 13 #[.int .i64 q] w fun e w' => e = .returned (.int .i64 (pl q)) ∧ w' = w) := fun w => plR_p q hq.1 (by have := hq.2.1; omega) (by have := hq.2.2; omega) w
  have hpz : (pl q : Int) < ((2 * T.names.toNat : Nat) : Int) := by omega
  have hkz : (k : Int) < 4 := by omega
  generalize 2 * T.names.toNat = N2 at *
  generalize m (pl q) k = b at *
  clear h hq hT
  generalize pl q = P at *
  go_enter Tryz.func25, Tryz.ntmps25
  go_wp2_with fail
  go_quiet ((go_at_call 13; exact Calls.quiet_of_same (HP.out _)))
  go_wp2
  go_ret
  exact ⟨rfl, ⟨rfl, rfl, rfl, Nat.le_refl _, fun _ _ => rfl⟩⟩

set_option maxHeartbeats 1000000 in
theorem every_r (h : SM w T rv ov B pb po sb bM m) (hT : Okt T) {k : Nat} (hk : k < 4) {a : Option Addr} {n c : Nat} {l : List Int} (hv : IRd w B (.slice a n c) l) (hn : n = l.length) (hl : ∀ b, b ∈ l → IsLit T b) : Calls Tryz.prog 59 #[.pointer (some ⟨sb, 0, none⟩), .slice a n c, .int .i64 k] w (BR w (l.all (fun b => m (pl b) k))) := by
  have HX := hidLL hv
  have hle : n ≤ 17592186044416 := by
    obtain ⟨a', c', e, h9, _⟩ := hv
    omega
  have HC : Hid (∀ W q, Below w.heap.size w W → IsLit T q → Calls Tryz.prog 25 #[.pointer (some ⟨sb, 0, none⟩), .int .i64 q, .int .i64 k] W (BR W (m (pl q) k))) := fun W q hb hq => has_r (h.bel hb) hT hq hk
  have HL := hidLL (And.intro hn hl)
  have hB := h.lt
  obtain ⟨O, hO⟩ : ∃ O, O = l.all (fun b => m (pl b) k) := ⟨_, rfl⟩
  rw [← hO]
  have HO := hidLL hO
  clear h hv hT hO hl hn
  go_enter Tryz.func59, Tryz.ntmps59
  go_wp2_with fail
  go_loopw [7] (fun t wr => ∃ j : Nat, j ≤ n ∧ t = .int .i64 j ∧ Below w.heap.size w wr ∧ ∀ i b, i < j → l[i]? = some b → m (pl b) k = true) (fun t _ => n - (RowKit.intOf t).toNat)
  case atStart => exact ⟨0, by omega, rfl, Below.refl _ _, by intro i b hi; omega⟩
  case round =>
    obtain ⟨j, hj, rfl, hbel, hall⟩ := hrel
    have HA := hidLL hall
    clear hall
    by_cases hlt : j < n
    · have hjz : (j : Int) < n := by omega
      obtain ⟨q, hq⟩ : ∃ q, l[j]? = some q := ⟨_, List.getElem?_eq_getElem (by have := HL.out.1; omega)⟩
      obtain ⟨g, o, ea, hgB, hc⟩ := HX.out.at hq
      subst ea
      have hc' : wr.cell? ⟨g, o + j, none⟩ = some (.int .i64 q) := (hbel.cell (p := ⟨g, o + j, none⟩) (by show g < w.heap.size; omega)).trans hc
      have HH := hidLL (HC.out wr q hbel (HL.out.2 q (List.mem_of_getElem? hq)))
      have HQ := hidLL hbel
      have HJ := hidLL hq
      clear hbel hq hc
      cases hm : m (pl q) k with
      | false =>
        rw [hm] at HH
        have HE : Hid (O = false) := by
          show _ = _
          rw [HO.out]
          rw [List.all_eq_false]
          exact ⟨q, List.mem_of_getElem? HJ.out, by rw [hm]; decide⟩
        clear hm
        go_wp2_with fail
        refine HH.out.mono ?_
        rintro e w9 ⟨rfl, hb9⟩
        have H9 := hidLL hb9
        clear hb9
        go_wp2
        go_ret
        exact ⟨retB HE.out.symm, HQ.out.trans (H9.out.mono HQ.out.size)⟩
      | true =>
        rw [hm] at HH
        have HM : Hid (∀ i b, i < j + 1 → l[i]? = some b → m (pl b) k = true) := fun i b hi hb => by
          rcases Nat.lt_or_ge i j with h | h
          · exact HA.out i b h hb
          · obtain rfl : i = j := by omega
            rw [HJ.out] at hb
            obtain rfl := Option.some.inj hb
            exact hm
        clear hm
        go_wp2_with fail
        refine HH.out.mono ?_
        rintro e w9 ⟨rfl, hb9⟩
        have H9 := hidLL hb9
        clear hb9
        go_wp2
        go_roundw
        case rel => exact ⟨j + 1, by omega, by go_num, HQ.out.trans (H9.out.mono HQ.out.size), HM.out⟩
        case measure => simp [RowKit.intOf]; omega
    · have hge : ¬ (j : Int) < n := by omega
      have HE : Hid (O = true) := by
        show _ = _
        rw [HO.out]
        rw [List.all_eq_true]
        intro x hx
        obtain ⟨i, hi⟩ := List.getElem?_of_mem hx
        exact HA.out i x (by have := (List.getElem?_eq_some_iff.1 hi).1; have := HL.out.1; omega) hi
      have HQ := hidLL hbel
      clear hbel
      go_wp2
      go_ret
      exact ⟨retB HE.out.symm, HQ.out⟩
set_option maxHeartbeats 1000000 in
theorem some_r (h : SM w T rv ov B pb po sb bM m) (hT : Okt T) {k : Nat} (hk : k < 4) {a : Option Addr} {n c : Nat} {l : List Int} (hv : IRd w B (.slice a n c) l) (hn : n = l.length) (hl : ∀ b, b ∈ l → IsLit T b) : Calls Tryz.prog 60 #[.pointer (some ⟨sb, 0, none⟩), .slice a n c, .int .i64 k] w (BR w (l.any (fun b => m (pl b) k))) := by
  have HX := hidLL hv
  have hle : n ≤ 17592186044416 := by
    obtain ⟨a', c', e, h9, _⟩ := hv
    omega
  have HC : Hid (∀ W q, Below w.heap.size w W → IsLit T q → Calls Tryz.prog 25 #[.pointer (some ⟨sb, 0, none⟩), .int .i64 q, .int .i64 k] W (BR W (m (pl q) k))) := fun W q hb hq => has_r (h.bel hb) hT hq hk
  have HL := hidLL (And.intro hn hl)
  have hB := h.lt
  obtain ⟨O, hO⟩ : ∃ O, O = l.any (fun b => m (pl b) k) := ⟨_, rfl⟩
  rw [← hO]
  have HO := hidLL hO
  clear h hv hT hO hl hn
  go_enter Tryz.func60, Tryz.ntmps60
  go_wp2_with fail
  go_loopw [7] (fun t wr => ∃ j : Nat, j ≤ n ∧ t = .int .i64 j ∧ Below w.heap.size w wr ∧ ∀ i b, i < j → l[i]? = some b → m (pl b) k = false) (fun t _ => n - (RowKit.intOf t).toNat)
  case atStart => exact ⟨0, by omega, rfl, Below.refl _ _, by intro i b hi; omega⟩
  case round =>
    obtain ⟨j, hj, rfl, hbel, hall⟩ := hrel
    have HA := hidLL hall
    clear hall
    by_cases hlt : j < n
    · have hjz : (j : Int) < n := by omega
      obtain ⟨q, hq⟩ : ∃ q, l[j]? = some q := ⟨_, List.getElem?_eq_getElem (by have := HL.out.1; omega)⟩
      obtain ⟨g, o, ea, hgB, hc⟩ := HX.out.at hq
      subst ea
      have hc' : wr.cell? ⟨g, o + j, none⟩ = some (.int .i64 q) := (hbel.cell (p := ⟨g, o + j, none⟩) (by show g < w.heap.size; omega)).trans hc
      have HH := hidLL (HC.out wr q hbel (HL.out.2 q (List.mem_of_getElem? hq)))
      have HQ := hidLL hbel
      have HJ := hidLL hq
      clear hbel hq hc
      cases hm : m (pl q) k with
      | true =>
        rw [hm] at HH
        have HE : Hid (O = true) := by
          show _ = _
          rw [HO.out]
          exact List.any_eq_true.2 ⟨q, List.mem_of_getElem? HJ.out, hm⟩
        clear hm
        go_wp2_with fail
        refine HH.out.mono ?_
        rintro e w9 ⟨rfl, hb9⟩
        have H9 := hidLL hb9
        clear hb9
        go_wp2
        go_ret
        exact ⟨retB HE.out.symm, HQ.out.trans (H9.out.mono HQ.out.size)⟩
      | false =>
        rw [hm] at HH
        have HM : Hid (∀ i b, i < j + 1 → l[i]? = some b → m (pl b) k = false) := fun i b hi hb => by
          rcases Nat.lt_or_ge i j with h | h
          · exact HA.out i b h hb
          · obtain rfl : i = j := by omega
            rw [HJ.out] at hb
            obtain rfl := Option.some.inj hb
            exact hm
        clear hm
        go_wp2_with fail
        refine HH.out.mono ?_
        rintro e w9 ⟨rfl, hb9⟩
        have H9 := hidLL hb9
        clear hb9
        go_wp2
        go_roundw
        case rel => exact ⟨j + 1, by omega, by go_num, HQ.out.trans (H9.out.mono HQ.out.size), HM.out⟩
        case measure => simp [RowKit.intOf]; omega
    · have hge : ¬ (j : Int) < n := by omega
      have HE : Hid (O = false) := by
        show _ = _
        rw [HO.out]
        rw [List.any_eq_false]
        intro x hx
        obtain ⟨i, hi⟩ := List.getElem?_of_mem hx
        rw [HA.out i x (by have := (List.getElem?_eq_some_iff.1 hi).1; have := HL.out.1; omega) hi]; decide
      have HQ := hidLL hbel
      clear hbel
      go_wp2
      go_ret
      exact ⟨retB HE.out.symm, HQ.out⟩
def ovB (T : Thy) (a b : Int) : Bool := T.over.any (fun x => x.1 == a && x.2 == b)
set_option maxHeartbeats 1000000 in
theorem over_r (h : SM w T rv ov B pb po sb bM m) (a b : Int) : Calls Tryz.prog 79 #[.pointer (some ⟨sb, 0, none⟩), .int .i64 a, .int .i64 b] w fun e w' => e = .returned (.bool (ovB T a b)) ∧ w' = w := by
  have x0 : w.cell? ⟨sb, 0, none⟩ = some (.pointer (some ⟨pb, po, none⟩)) := by simp [World.cell?, h.sh]
  have c2 := h.tp.c2
  have ho := h.tp.tm.o
  have ho2 := ho
  obtain ⟨oa, oc, eo, hol, _⟩ := ho2
  subst eo
  have HX := hidLL ho
  obtain ⟨n, hn⟩ : ∃ n, n = T.over.length := ⟨_, rfl⟩
  rw [← hn] at c2 HX hol
  have HN := hidLL hn
  obtain ⟨O, hO⟩ : ∃ O, O = ovB T a b := ⟨_, rfl⟩
  rw [← hO]
  have HO := hidLL hO
  clear h ho hn hO
  go_enter Tryz.func79, Tryz.ntmps79
  go_wp2_with fail
  go_loop [7] (fun t => ∃ j : Nat, j ≤ n ∧ t = .int .i64 j ∧ ∀ i x, i < j → T.over[i]? = some x → (x.1 == a && x.2 == b) = false) (fun t => n - (RowKit.intOf t).toNat)
  case atStart => exact ⟨0, by omega, rfl, by intro i b hi; omega⟩
  case round =>
    obtain ⟨j, hj, rfl, hall⟩ := hrel
    have HA := hidLL hall
    clear hall
    by_cases hlt : j < n
    · have hjz : (j : Int) < n := by omega
      obtain ⟨x, hx⟩ : ∃ x, T.over[j]? = some x := ⟨_, List.getElem?_eq_getElem (by have := HN.out; omega)⟩
      obtain ⟨g, o, ea, hgB, y0, y1⟩ := HX.out.at hx
      subst ea
      have HJ := hidLL hx
      clear hx
      obtain ⟨xa, xb⟩ := x
      simp only at y0 y1
      have HM : Hid ((xa == a && xb == b) = false → ∀ i y, i < j + 1 → T.over[i]? = some y → (y.1 == a && y.2 == b) = false) := fun hf i y hi hy => by
        rcases Nat.lt_or_ge i j with h | h
        · exact HA.out i y h hy
        · obtain rfl : i = j := by omega
          rw [HJ.out] at hy
          obtain rfl := Option.some.inj hy
          exact hf
      by_cases h1 : xa = a
      · subst h1
        by_cases h2 : xb = b
        · subst h2
          have HE : Hid (O = true) := by
            show _ = _
            rw [HO.out]
            exact List.any_eq_true.2 ⟨_, List.mem_of_getElem? HJ.out, by simp⟩
          go_wp2
          go_ret
          exact ⟨retB HE.out.symm, rfl⟩
        · have h2' : (xb == b) = false := by simpa using h2
          go_wp2
          go_round
          case rel => exact ⟨j + 1, by omega, by go_num, HM.out (by simp [h2])⟩
          case measure => simp [RowKit.intOf]; omega
      · have h1' : (xa == a) = false := by simpa using h1
        go_wp2
        go_round
        case rel => exact ⟨j + 1, by omega, by go_num, HM.out (by simp [h1])⟩
        case measure => simp [RowKit.intOf]; omega
    · have hge : ¬ (j : Int) < n := by omega
      have HE : Hid (O = false) := by
        show _ = _
        rw [HO.out]
        unfold ovB
        rw [List.any_eq_false]
        intro x hx
        obtain ⟨i, hi⟩ := List.getElem?_of_mem hx
        rw [HA.out i x (by have := (List.getElem?_eq_some_iff.1 hi).1; have := HN.out; omega) hi]; decide
      go_wp2
      go_ret
      exact ⟨retB HE.out.symm, rfl⟩
theorem rng_hit {n i : Nat} {f : Nat → Bool} (hi : i < n) (hf : f i = true) : (List.range n).any f = true := List.any_eq_true.2 ⟨i, List.mem_range.2 hi, hf⟩
theorem rng_miss {n : Nat} {f : Nat → Bool} (h : ∀ j, j < n → f j = false) : (List.range n).any f = false := by
  rw [List.any_eq_false]
  intro x hx
  rw [h x (List.mem_range.1 hx)]; decide
theorem rng_next {i : Nat} {f : Nat → Bool} (h : ∀ j, j < i → f j = false) (hf : f i = false) : ∀ j, j < i + 1 → f j = false := fun j hj => by
  rcases Nat.lt_or_ge j i with h1 | h1
  · exact h j h1
  · obtain rfl : j = i := by omega
    exact hf
/-- A rule of what is shown, in any later world. -/
theorem SM.rule (h : SM w T rv ov B pb po sb bM m) {ra : Option Addr} {rn rc : Nat} (hr : rv = .slice ra rn rc) {W : World} (hb : Below w.heap.size w W) {i : Nat} (hi : i < T.rules.length) :
    ∃ (g o : Nat) (ba : Option Addr) (bn bc : Nat), ra = some ⟨g, o, none⟩ ∧ W.cell? ⟨g, o + i * 3, none⟩ = some (.int .i64 (rlAt T i).kind) ∧ W.cell? ⟨g, o + i * 3 + 1, none⟩ = some (.int .i64 (rlAt T i).head) ∧ W.cell? ⟨g, o + i * 3 + 2, none⟩ = some (.slice ba bn bc) ∧ bn = (rlAt T i).body.length ∧ IRd W B (.slice ba bn bc) (rlAt T i).body ∧ g < w.heap.size := by
  have ht := (h.bel hb).tp.tm.r
  rw [hr] at ht
  obtain ⟨g, o, bv, er, hgB, h1, h2, h3, hbd⟩ := ht.at (rl_of hi)
  have hbd2 := hbd
  obtain ⟨ba, bc, ebv, _, _⟩ := hbd2
  rw [ebv] at h3 hbd
  exact ⟨g, o, ba, _, bc, er, h1, h2, h3, rfl, hbd, by have := h.lt; omega⟩
theorem SM.cells (h : SM w T rv ov B pb po sb bM m) {W : World} (hb : Below w.heap.size w W) : W.cell? ⟨sb, 0, none⟩ = some (.pointer (some ⟨pb, po, none⟩)) ∧ W.cell? ⟨pb, po + 1, none⟩ = some rv := by
  have h' := h.bel hb
  exact ⟨by simp [World.cell?, h'.sh], h'.tp.c1⟩
theorem rcopy (W : World) (a b c : Value) (t : TypeId) : ∃ (W6 : World) (bx : Nat), W6 = W.alloc (.cells #[a, b, c] t) ∧ bx = W.heap.size ∧ Below W.heap.size W W6 ∧ W6.cell? ⟨bx, 0, none⟩ = some a ∧ W6.cell? ⟨bx, 1, none⟩ = some b ∧ W6.cell? ⟨bx, 2, none⟩ = some c ∧ bx < W6.heap.size := by
  have h := Go.Deep.blk_alloc_new W (.cells #[a, b, c] t)
  refine ⟨_, _, rfl, rfl, (Below.refl _ _).alloc (Nat.le_refl _) _, ?_, ?_, ?_, ?_⟩
  · rw [cell_of_row _ _ 0 #[a, b, c] t (0, 0) h]; rfl
  · rw [cell_of_row _ _ 1 #[a, b, c] t (0, 0) h]; rfl
  · rw [cell_of_row _ _ 2 #[a, b, c] t (0, 0) h]; rfl
  · simp

def csB (T : Thy) (m : Nat → Nat → Bool) (q : Int) (i : Nat) : Bool := (rlAt T i).kind == 0 && (rlAt T i).head == q && (rlAt T i).body.all (fun b => m (pl b) 0)
def canSureB (T : Thy) (m : Nat → Nat → Bool) (q : Int) : Bool := (List.range T.rules.length).any (csB T m q)
set_option maxHeartbeats 2000000 in
set_option maxRecDepth 100000 in
theorem canSure_r (h : SM w T rv ov B pb po sb bM m) (hT : Okt T) {q : Int} : Calls Tryz.prog 34 #[.pointer (some ⟨sb, 0, none⟩), .int .i64 q] w (BR w (canSureB T m q)) := by
  obtain ⟨ra, rc, hrv, hrl, _⟩ := h.tp.tm.r
  have HS := hidLL h
  have HT := hidLL hT
  have hR1 := hT.r
  obtain ⟨R, hR⟩ : ∃ R, R = T.rules.length := ⟨_, rfl⟩
  rw [← hR] at hrv hrl hR1
  have HR := hidLL hR
  have HX : Hid (∀ W, Below w.heap.size w W → W.cell? ⟨sb, 0, none⟩ = some (.pointer (some ⟨pb, po, none⟩)) ∧ W.cell? ⟨pb, po + 1, none⟩ = some (.slice ra R rc)) := fun W hb => by
    have := h.cells hb
    rw [hrv] at this
    exact this
  have HRl : Hid (∀ W i, Below w.heap.size w W → i < R → ∃ (g o : Nat) (ba : Option Addr) (bn bc : Nat), ra = some ⟨g, o, none⟩ ∧ W.cell? ⟨g, o + i * 3, none⟩ = some (.int .i64 (rlAt T i).kind) ∧ W.cell? ⟨g, o + i * 3 + 1, none⟩ = some (.int .i64 (rlAt T i).head) ∧ W.cell? ⟨g, o + i * 3 + 2, none⟩ = some (.slice ba bn bc) ∧ bn = (rlAt T i).body.length ∧ IRd W B (.slice ba bn bc) (rlAt T i).body ∧ g < w.heap.size) := fun W i hb hi => h.rule hrv hb (by omega)
  have HLit : Hid (∀ i, i < R → ∀ b, b ∈ (rlAt T i).body → IsLit T b) := fun i hi => (hT.lit i _ (rl_of (by omega))).2
  have HEv : Hid (∀ W k i (ba : Option Addr) (bn bc : Nat), Below w.heap.size w W → k < 4 → i < R → bn = (rlAt T i).body.length → IRd W B (.slice ba bn bc) (rlAt T i).body → Calls Tryz.prog 59 #[.pointer (some ⟨sb, 0, none⟩), .slice ba bn bc, .int .i64 (k : Nat)] W (BR W ((rlAt T i).body.all (fun b => m (pl b) k)))) := fun W k i ba bn bc hb hk hi hbn hv => every_r (h.bel hb) hT hk hv hbn (HLit.out i hi)
  have HSo : Hid (∀ W k i (ba : Option Addr) (bn bc : Nat), Below w.heap.size w W → k < 4 → i < R → bn = (rlAt T i).body.length → IRd W B (.slice ba bn bc) (rlAt T i).body → Calls Tryz.prog 60 #[.pointer (some ⟨sb, 0, none⟩), .slice ba bn bc, .int .i64 (k : Nat)] W (BR W ((rlAt T i).body.any (fun b => m (pl b) k)))) := fun W k i ba bn bc hb hk hi hbn hv => some_r (h.bel hb) hT hk hv hbn (HLit.out i hi)

  have HD : Hid (canSureB T m q = (List.range T.rules.length).any (csB T m q)) := rfl
  generalize canSureB T m q = O at *
  clear h hT hrv hR
  go_enter Tryz.func34, Tryz.ntmps34
  go_wp2_with fail
  go_loopw [5] (fun t wr => ∃ i : Nat, i ≤ R ∧ t = .int .i64 i ∧ Below w.heap.size w wr ∧ ∀ j, j < i → csB T m q j = false) (fun t _ => R - (RowKit.intOf t).toNat)
  case atStart => exact ⟨0, by omega, rfl, Below.refl _ _, by intro j hj; omega⟩
  case round =>
    obtain ⟨i, hi, rfl, hbel, hall⟩ := hrel
    have HA := hidLL hall
    clear hall
    obtain ⟨x0, x1⟩ := HX.out wr hbel
    by_cases hlt : i < R
    · have hiz : (i : Int) < R := by omega
      obtain ⟨g, o, ba, bn, bc, ea, y0, y1, y2, hbn, hrd, hgw⟩ := HRl.out wr i hbel hlt
      subst ea
      obtain ⟨W6, bx, hW6, hbx, hb6, z0, z1, z2, hl6⟩ := rcopy wr (.int .i64 (rlAt T i).kind) (.int .i64 (rlAt T i).head) (.slice ba bn bc) 62
      have hbw6 := hbel.trans (hb6.mono hbel.size)
      have hrd6 : IRd W6 B (.slice ba bn bc) (rlAt T i).body := hrd.on fun k hk => hb6.block k (by have := HS.out.lt; have := hbel.size; omega)
      have hbl : bn ≤ 120 := by rw [hbn]; exact body_len HT.out i
      have HF : Hid (csB T m q i = ((rlAt T i).kind == 0 && (rlAt T i).head == q && (rlAt T i).body.all (fun b => m (pl b) 0))) := rfl
      have HN : Hid (csB T m q i = false → ∀ j, j < i + 1 → csB T m q j = false) := fun hf => rng_next HA.out hf
      have HH : Hid (csB T m q i = true → (List.range T.rules.length).any (csB T m q) = true) := fun hf => rng_hit (by rw [← HR.out]; exact hlt) hf
      have HQ := hidLL hbw6
      have HW6 := hidLL (And.intro hW6 hbx)
      have HC : Hid (Calls Tryz.prog 59 #[.pointer (some ⟨sb, 0, none⟩), .slice ba bn bc, .int .i64 0] W6 (BR W6 ((rlAt T i).body.all (fun b => m (pl b) 0)))) := HEv.out W6 0 i ba bn bc hbw6 (by omega) hlt hbn hrd6
      clear hW6 hbx hb6 hbw6 hbel hrd hrd6 hbn
      obtain ⟨F, hF⟩ : ∃ F, F = csB T m q i := ⟨_, rfl⟩
      rw [← hF] at HF HN HH
      clear hF
      generalize (rlAt T i).body.all (fun b => m (pl b) 0) = C at *
      generalize (rlAt T i).kind = KD at *
      generalize (rlAt T i).head = Q at *
      go_upto_region 5 with fail
      rw [← HW6.out.1, ← HW6.out.2]
      by_cases h1 : KD = 0
      · subst h1
        by_cases h2 : Q = q
        · subst h2
          cases C with
          | true =>
            go_wp2_with fail
            refine HC.out.mono ?_
            rintro e w9 ⟨rfl, hb9⟩
            have H9 := hidLL hb9
            clear hb9
            go_wp2
            go_ret
            exact ⟨retB (by rw [HD.out, HH.out (by rw [HF.out]; simp)] <;> rfl), HQ.out.trans (H9.out.mono HQ.out.size)⟩
          | false =>
            go_wp2_with fail
            refine HC.out.mono ?_
            rintro e w9 ⟨rfl, hb9⟩
            have H9 := hidLL hb9
            clear hb9
            go_wp2
            go_roundw
            case rel => exact ⟨i + 1, by omega, by go_num, HQ.out.trans (H9.out.mono HQ.out.size), HN.out (by rw [HF.out]; simp)⟩
            case measure => simp [RowKit.intOf]; omega
        · have h2' : (Q == q) = false := by simpa using h2
          go_wp2
          go_roundw
          case rel => exact ⟨i + 1, by omega, by go_num, HQ.out, HN.out (by rw [HF.out]; simp [h2])⟩
          case measure => simp [RowKit.intOf]; omega
      · have h1' : (KD == 0) = false := by simpa using h1
        go_wp2
        go_roundw
        case rel => exact ⟨i + 1, by omega, by go_num, HQ.out, HN.out (by rw [HF.out]; simp [h1])⟩
        case measure => simp [RowKit.intOf]; omega
    · have hge : ¬ (i : Int) < R := by omega
      have HE : Hid ((List.range T.rules.length).any (csB T m q) = false) := rng_miss fun j hj => HA.out j (by have := HR.out; omega)
      have HQ := hidLL hbel
      clear hbel
      go_wp2
      go_ret
      exact ⟨retB (by rw [HD.out, HE.out] <;> rfl), HQ.out⟩
def cnB (T : Thy) (m : Nat → Nat → Bool) (q : Int) (i : Nat) : Bool := (rlAt T i).kind == 0 && (rlAt T i).head == q && !(rlAt T i).body.any (fun b => m (pl b) 1)
def canNotB (T : Thy) (m : Nat → Nat → Bool) (q : Int) : Bool := !(List.range T.rules.length).any (cnB T m q)
set_option maxHeartbeats 2000000 in
set_option maxRecDepth 100000 in
theorem canNot_r (h : SM w T rv ov B pb po sb bM m) (hT : Okt T) {q : Int} : Calls Tryz.prog 35 #[.pointer (some ⟨sb, 0, none⟩), .int .i64 q] w (BR w (canNotB T m q)) := by
  obtain ⟨ra, rc, hrv, hrl, _⟩ := h.tp.tm.r
  have HS := hidLL h
  have HT := hidLL hT
  have hR1 := hT.r
  obtain ⟨R, hR⟩ : ∃ R, R = T.rules.length := ⟨_, rfl⟩
  rw [← hR] at hrv hrl hR1
  have HR := hidLL hR
  have HX : Hid (∀ W, Below w.heap.size w W → W.cell? ⟨sb, 0, none⟩ = some (.pointer (some ⟨pb, po, none⟩)) ∧ W.cell? ⟨pb, po + 1, none⟩ = some (.slice ra R rc)) := fun W hb => by
    have := h.cells hb
    rw [hrv] at this
    exact this
  have HRl : Hid (∀ W i, Below w.heap.size w W → i < R → ∃ (g o : Nat) (ba : Option Addr) (bn bc : Nat), ra = some ⟨g, o, none⟩ ∧ W.cell? ⟨g, o + i * 3, none⟩ = some (.int .i64 (rlAt T i).kind) ∧ W.cell? ⟨g, o + i * 3 + 1, none⟩ = some (.int .i64 (rlAt T i).head) ∧ W.cell? ⟨g, o + i * 3 + 2, none⟩ = some (.slice ba bn bc) ∧ bn = (rlAt T i).body.length ∧ IRd W B (.slice ba bn bc) (rlAt T i).body ∧ g < w.heap.size) := fun W i hb hi => h.rule hrv hb (by omega)
  have HLit : Hid (∀ i, i < R → ∀ b, b ∈ (rlAt T i).body → IsLit T b) := fun i hi => (hT.lit i _ (rl_of (by omega))).2
  have HEv : Hid (∀ W k i (ba : Option Addr) (bn bc : Nat), Below w.heap.size w W → k < 4 → i < R → bn = (rlAt T i).body.length → IRd W B (.slice ba bn bc) (rlAt T i).body → Calls Tryz.prog 59 #[.pointer (some ⟨sb, 0, none⟩), .slice ba bn bc, .int .i64 (k : Nat)] W (BR W ((rlAt T i).body.all (fun b => m (pl b) k)))) := fun W k i ba bn bc hb hk hi hbn hv => every_r (h.bel hb) hT hk hv hbn (HLit.out i hi)
  have HSo : Hid (∀ W k i (ba : Option Addr) (bn bc : Nat), Below w.heap.size w W → k < 4 → i < R → bn = (rlAt T i).body.length → IRd W B (.slice ba bn bc) (rlAt T i).body → Calls Tryz.prog 60 #[.pointer (some ⟨sb, 0, none⟩), .slice ba bn bc, .int .i64 (k : Nat)] W (BR W ((rlAt T i).body.any (fun b => m (pl b) k)))) := fun W k i ba bn bc hb hk hi hbn hv => some_r (h.bel hb) hT hk hv hbn (HLit.out i hi)

  have HD : Hid (canNotB T m q = !(List.range T.rules.length).any (cnB T m q)) := rfl
  generalize canNotB T m q = O at *
  clear h hT hrv hR
  go_enter Tryz.func35, Tryz.ntmps35
  go_wp2_with fail
  go_loopw [5] (fun t wr => ∃ i : Nat, i ≤ R ∧ t = .int .i64 i ∧ Below w.heap.size w wr ∧ ∀ j, j < i → cnB T m q j = false) (fun t _ => R - (RowKit.intOf t).toNat)
  case atStart => exact ⟨0, by omega, rfl, Below.refl _ _, by intro j hj; omega⟩
  case round =>
    obtain ⟨i, hi, rfl, hbel, hall⟩ := hrel
    have HA := hidLL hall
    clear hall
    obtain ⟨x0, x1⟩ := HX.out wr hbel
    by_cases hlt : i < R
    · have hiz : (i : Int) < R := by omega
      obtain ⟨g, o, ba, bn, bc, ea, y0, y1, y2, hbn, hrd, hgw⟩ := HRl.out wr i hbel hlt
      subst ea
      obtain ⟨W6, bx, hW6, hbx, hb6, z0, z1, z2, hl6⟩ := rcopy wr (.int .i64 (rlAt T i).kind) (.int .i64 (rlAt T i).head) (.slice ba bn bc) 62
      have hbw6 := hbel.trans (hb6.mono hbel.size)
      have hrd6 : IRd W6 B (.slice ba bn bc) (rlAt T i).body := hrd.on fun k hk => hb6.block k (by have := HS.out.lt; have := hbel.size; omega)
      have hbl : bn ≤ 120 := by rw [hbn]; exact body_len HT.out i
      have HF : Hid (cnB T m q i = ((rlAt T i).kind == 0 && (rlAt T i).head == q && !(rlAt T i).body.any (fun b => m (pl b) 1))) := rfl
      have HN : Hid (cnB T m q i = false → ∀ j, j < i + 1 → cnB T m q j = false) := fun hf => rng_next HA.out hf
      have HH : Hid (cnB T m q i = true → (List.range T.rules.length).any (cnB T m q) = true) := fun hf => rng_hit (by rw [← HR.out]; exact hlt) hf
      have HQ := hidLL hbw6
      have HW6 := hidLL (And.intro hW6 hbx)
      have HC : Hid (Calls Tryz.prog 60 #[.pointer (some ⟨sb, 0, none⟩), .slice ba bn bc, .int .i64 1] W6 (BR W6 ((rlAt T i).body.any (fun b => m (pl b) 1)))) := HSo.out W6 1 i ba bn bc hbw6 (by omega) hlt hbn hrd6
      clear hW6 hbx hb6 hbw6 hbel hrd hrd6 hbn
      obtain ⟨F, hF⟩ : ∃ F, F = cnB T m q i := ⟨_, rfl⟩
      rw [← hF] at HF HN HH
      clear hF
      generalize (rlAt T i).body.any (fun b => m (pl b) 1) = C at *
      generalize (rlAt T i).kind = KD at *
      generalize (rlAt T i).head = Q at *
      go_upto_region 5 with fail
      rw [← HW6.out.1, ← HW6.out.2]
      by_cases h1 : KD = 0
      · subst h1
        by_cases h2 : Q = q
        · subst h2
          cases C with
          | false =>
            go_wp2_with fail
            refine HC.out.mono ?_
            rintro e w9 ⟨rfl, hb9⟩
            have H9 := hidLL hb9
            clear hb9
            go_wp2
            go_ret
            exact ⟨retB (by rw [HD.out, HH.out (by rw [HF.out]; simp)] <;> rfl), HQ.out.trans (H9.out.mono HQ.out.size)⟩
          | true =>
            go_wp2_with fail
            refine HC.out.mono ?_
            rintro e w9 ⟨rfl, hb9⟩
            have H9 := hidLL hb9
            clear hb9
            go_wp2
            go_roundw
            case rel => exact ⟨i + 1, by omega, by go_num, HQ.out.trans (H9.out.mono HQ.out.size), HN.out (by rw [HF.out]; simp)⟩
            case measure => simp [RowKit.intOf]; omega
        · have h2' : (Q == q) = false := by simpa using h2
          go_wp2
          go_roundw
          case rel => exact ⟨i + 1, by omega, by go_num, HQ.out, HN.out (by rw [HF.out]; simp [h2])⟩
          case measure => simp [RowKit.intOf]; omega
      · have h1' : (KD == 0) = false := by simpa using h1
        go_wp2
        go_roundw
        case rel => exact ⟨i + 1, by omega, by go_num, HQ.out, HN.out (by rw [HF.out]; simp [h1])⟩
        case measure => simp [RowKit.intOf]; omega
    · have hge : ¬ (i : Int) < R := by omega
      have HE : Hid ((List.range T.rules.length).any (cnB T m q) = false) := rng_miss fun j hj => HA.out j (by have := HR.out; omega)
      have HQ := hidLL hbel
      clear hbel
      go_wp2
      go_ret
      exact ⟨retB (by rw [HD.out, HE.out] <;> rfl), HQ.out⟩
def hpB (T : Thy) (m : Nat → Nat → Bool) (q ab : Int) (i : Nat) : Bool := (rlAt T i).head == q && !((rlAt T i).kind == 2) && (decide (ab < 0) || ovB T i ab) && (rlAt T i).body.all (fun b => m (pl b) 2)
def helpB (T : Thy) (m : Nat → Nat → Bool) (q ab : Int) : Bool := (List.range T.rules.length).any (hpB T m q ab)
set_option maxHeartbeats 2000000 in
set_option maxRecDepth 100000 in
theorem help_r (h : SM w T rv ov B pb po sb bM m) (hT : Okt T) {q : Int} (ab : Int) : Calls Tryz.prog 61 #[.pointer (some ⟨sb, 0, none⟩), .int .i64 q, .int .i64 ab] w (BR w (helpB T m q ab)) := by
  obtain ⟨ra, rc, hrv, hrl, _⟩ := h.tp.tm.r
  have HS := hidLL h
  have HT := hidLL hT
  have hR1 := hT.r
  obtain ⟨R, hR⟩ : ∃ R, R = T.rules.length := ⟨_, rfl⟩
  rw [← hR] at hrv hrl hR1
  have HR := hidLL hR
  have HX : Hid (∀ W, Below w.heap.size w W → W.cell? ⟨sb, 0, none⟩ = some (.pointer (some ⟨pb, po, none⟩)) ∧ W.cell? ⟨pb, po + 1, none⟩ = some (.slice ra R rc)) := fun W hb => by
    have := h.cells hb
    rw [hrv] at this
    exact this
  have HRl : Hid (∀ W i, Below w.heap.size w W → i < R → ∃ (g o : Nat) (ba : Option Addr) (bn bc : Nat), ra = some ⟨g, o, none⟩ ∧ W.cell? ⟨g, o + i * 3, none⟩ = some (.int .i64 (rlAt T i).kind) ∧ W.cell? ⟨g, o + i * 3 + 1, none⟩ = some (.int .i64 (rlAt T i).head) ∧ W.cell? ⟨g, o + i * 3 + 2, none⟩ = some (.slice ba bn bc) ∧ bn = (rlAt T i).body.length ∧ IRd W B (.slice ba bn bc) (rlAt T i).body ∧ g < w.heap.size) := fun W i hb hi => h.rule hrv hb (by omega)
  have HLit : Hid (∀ i, i < R → ∀ b, b ∈ (rlAt T i).body → IsLit T b) := fun i hi => (hT.lit i _ (rl_of (by omega))).2
  have HEv : Hid (∀ W k i (ba : Option Addr) (bn bc : Nat), Below w.heap.size w W → k < 4 → i < R → bn = (rlAt T i).body.length → IRd W B (.slice ba bn bc) (rlAt T i).body → Calls Tryz.prog 59 #[.pointer (some ⟨sb, 0, none⟩), .slice ba bn bc, .int .i64 (k : Nat)] W (BR W ((rlAt T i).body.all (fun b => m (pl b) k)))) := fun W k i ba bn bc hb hk hi hbn hv => every_r (h.bel hb) hT hk hv hbn (HLit.out i hi)
  have HSo : Hid (∀ W k i (ba : Option Addr) (bn bc : Nat), Below w.heap.size w W → k < 4 → i < R → bn = (rlAt T i).body.length → IRd W B (.slice ba bn bc) (rlAt T i).body → Calls Tryz.prog 60 #[.pointer (some ⟨sb, 0, none⟩), .slice ba bn bc, .int .i64 (k : Nat)] W (BR W ((rlAt T i).body.any (fun b => m (pl b) k)))) := fun W k i ba bn bc hb hk hi hbn hv => some_r (h.bel hb) hT hk hv hbn (HLit.out i hi)

  have HD : Hid (helpB T m q ab = (List.range T.rules.length).any (hpB T m q ab)) := rfl
  have HOv : Hid (∀ W (i : Nat), Below w.heap.size w W → Calls Tryz.prog 79 #[.pointer (some ⟨sb, 0, none⟩), .int .i64 i, .int .i64 ab] W fun e w' => e = .returned (.bool (ovB T i ab)) ∧ w' = W) := fun W i hb => over_r (h.bel hb) i ab
  generalize helpB T m q ab = O at *
  clear h hT hrv hR
  go_enter Tryz.func61, Tryz.ntmps61
  go_wp2_with fail
  go_loopw [7] (fun t wr => ∃ i : Nat, i ≤ R ∧ t = .int .i64 i ∧ Below w.heap.size w wr ∧ ∀ j, j < i → hpB T m q ab j = false) (fun t _ => R - (RowKit.intOf t).toNat)
  case atStart => exact ⟨0, by omega, rfl, Below.refl _ _, by intro j hj; omega⟩
  case round =>
    obtain ⟨i, hi, rfl, hbel, hall⟩ := hrel
    have HA := hidLL hall
    clear hall
    obtain ⟨x0, x1⟩ := HX.out wr hbel
    by_cases hlt : i < R
    · have hiz : (i : Int) < R := by omega
      obtain ⟨g, o, ba, bn, bc, ea, y0, y1, y2, hbn, hrd, hgw⟩ := HRl.out wr i hbel hlt
      subst ea
      obtain ⟨W6, bx, hW6, hbx, hb6, z0, z1, z2, hl6⟩ := rcopy wr (.int .i64 (rlAt T i).kind) (.int .i64 (rlAt T i).head) (.slice ba bn bc) 62
      have hbw6 := hbel.trans (hb6.mono hbel.size)
      have hrd6 : IRd W6 B (.slice ba bn bc) (rlAt T i).body := hrd.on fun k hk => hb6.block k (by have := HS.out.lt; have := hbel.size; omega)
      have hbl : bn ≤ 120 := by rw [hbn]; exact body_len HT.out i
      have HF : Hid (hpB T m q ab i = ((rlAt T i).head == q && !((rlAt T i).kind == 2) && (decide (ab < 0) || ovB T i ab) && (rlAt T i).body.all (fun b => m (pl b) 2))) := rfl
      have HN : Hid (hpB T m q ab i = false → ∀ j, j < i + 1 → hpB T m q ab j = false) := fun hf => rng_next HA.out hf
      have HH : Hid (hpB T m q ab i = true → (List.range T.rules.length).any (hpB T m q ab) = true) := fun hf => rng_hit (by rw [← HR.out]; exact hlt) hf
      have HQ := hidLL hbw6
      have HW6 := hidLL (And.intro hW6 hbx)
      have HC : Hid (Calls Tryz.prog 59 #[.pointer (some ⟨sb, 0, none⟩), .slice ba bn bc, .int .i64 2] W6 (BR W6 ((rlAt T i).body.all (fun b => m (pl b) 2)))) := HEv.out W6 2 i ba bn bc hbw6 (by omega) hlt hbn hrd6
      have HV := hidLL (HOv.out W6 i hbw6)
      clear hW6 hbx hb6 hbw6 hbel hrd hrd6 hbn
      obtain ⟨F, hF⟩ : ∃ F, F = hpB T m q ab i := ⟨_, rfl⟩
      rw [← hF] at HF HN HH
      clear hF
      generalize (rlAt T i).body.all (fun b => m (pl b) 2) = C at *
      generalize ovB T i ab = V at *
      generalize (rlAt T i).kind = KD at *
      generalize (rlAt T i).head = Q at *
      go_upto_region 5 with fail
      rw [← HW6.out.1, ← HW6.out.2]
      by_cases h1 : Q = q
      · subst h1
        by_cases h2 : KD = 2
        · subst h2
          go_wp2
          go_roundw
          case rel => exact ⟨i + 1, by omega, by go_num, HQ.out, HN.out (by rw [HF.out]; simp)⟩
          case measure => simp [RowKit.intOf]; omega
        · have h2' : (KD == 2) = false := by simpa using h2
          by_cases h3 : ab < 0
          · have h3' : decide (ab < 0) = true := decide_eq_true h3
            cases C with
            | true =>
              go_wp2_with fail
              refine HC.out.mono ?_
              rintro e w9 ⟨rfl, hb9⟩
              have H9 := hidLL hb9
              clear hb9
              go_wp2
              go_ret
              exact ⟨retB (by rw [HD.out, HH.out (by rw [HF.out]; simp [h2, h3])] <;> rfl), HQ.out.trans (H9.out.mono HQ.out.size)⟩
            | false =>
              go_wp2_with fail
              refine HC.out.mono ?_
              rintro e w9 ⟨rfl, hb9⟩
              have H9 := hidLL hb9
              clear hb9
              go_wp2
              go_roundw
              case rel => exact ⟨i + 1, by omega, by go_num, HQ.out.trans (H9.out.mono HQ.out.size), HN.out (by rw [HF.out]; simp)⟩
              case measure => simp [RowKit.intOf]; omega
          · have h3' : decide (ab < 0) = false := decide_eq_false h3
            cases V with
            | true =>
              go_wp2_with fail
              refine HV.out.mono ?_
              rintro e w' ⟨rfl, ew⟩
              subst w'
              cases C with
              | true =>
                go_wp2_with fail
                refine HC.out.mono ?_
                rintro e w9 ⟨rfl, hb9⟩
                have H9 := hidLL hb9
                clear hb9
                go_wp2
                go_ret
                exact ⟨retB (by rw [HD.out, HH.out (by rw [HF.out]; simp [h2])] <;> rfl), HQ.out.trans (H9.out.mono HQ.out.size)⟩
              | false =>
                go_wp2_with fail
                refine HC.out.mono ?_
                rintro e w9 ⟨rfl, hb9⟩
                have H9 := hidLL hb9
                clear hb9
                go_wp2
                go_roundw
                case rel => exact ⟨i + 1, by omega, by go_num, HQ.out.trans (H9.out.mono HQ.out.size), HN.out (by rw [HF.out]; simp)⟩
                case measure => simp [RowKit.intOf]; omega
            | false =>
              go_wp2_with fail
              refine HV.out.mono ?_
              rintro e w' ⟨rfl, ew⟩
              subst w'
              cases C with
              | true =>
                go_wp2_with fail
                refine HC.out.mono ?_
                rintro e w9 ⟨rfl, hb9⟩
                have H9 := hidLL hb9
                clear hb9
                go_wp2
                go_roundw
                case rel => exact ⟨i + 1, by omega, by go_num, HQ.out.trans (H9.out.mono HQ.out.size), HN.out (by rw [HF.out]; simp [h3])⟩
                case measure => simp [RowKit.intOf]; omega
              | false =>
                go_wp2_with fail
                refine HC.out.mono ?_
                rintro e w9 ⟨rfl, hb9⟩
                have H9 := hidLL hb9
                clear hb9
                go_wp2
                go_roundw
                case rel => exact ⟨i + 1, by omega, by go_num, HQ.out.trans (H9.out.mono HQ.out.size), HN.out (by rw [HF.out]; simp)⟩
                case measure => simp [RowKit.intOf]; omega
      · have h1' : (Q == q) = false := by simpa using h1
        have h1n : (Q != q) = true := by simpa using h1
        go_wp2
        go_roundw
        case rel => exact ⟨i + 1, by omega, by go_num, HQ.out, HN.out (by rw [HF.out]; simp [h1])⟩
        case measure => simp [RowKit.intOf]; omega
    · have hge : ¬ (i : Int) < R := by omega
      have HE : Hid ((List.range T.rules.length).any (hpB T m q ab) = false) := rng_miss fun j hj => HA.out j (by have := HR.out; omega)
      have HQ := hidLL hbel
      clear hbel
      go_wp2
      go_ret
      exact ⟨retB (by rw [HD.out, HE.out] <;> rfl), HQ.out⟩
def lsB (T : Thy) (m : Nat → Nat → Bool) (q ab : Int) (i : Nat) : Bool := (rlAt T i).head == q && !((rlAt T i).kind == 2) && (decide (ab < 0) || ovB T i ab) && !(rlAt T i).body.any (fun b => m (pl b) 3)
def lostB (T : Thy) (m : Nat → Nat → Bool) (q ab : Int) : Bool := !(List.range T.rules.length).any (lsB T m q ab)
set_option maxHeartbeats 2000000 in
set_option maxRecDepth 100000 in
theorem lost_r (h : SM w T rv ov B pb po sb bM m) (hT : Okt T) {q : Int} (ab : Int) : Calls Tryz.prog 62 #[.pointer (some ⟨sb, 0, none⟩), .int .i64 q, .int .i64 ab] w (BR w (lostB T m q ab)) := by
  obtain ⟨ra, rc, hrv, hrl, _⟩ := h.tp.tm.r
  have HS := hidLL h
  have HT := hidLL hT
  have hR1 := hT.r
  obtain ⟨R, hR⟩ : ∃ R, R = T.rules.length := ⟨_, rfl⟩
  rw [← hR] at hrv hrl hR1
  have HR := hidLL hR
  have HX : Hid (∀ W, Below w.heap.size w W → W.cell? ⟨sb, 0, none⟩ = some (.pointer (some ⟨pb, po, none⟩)) ∧ W.cell? ⟨pb, po + 1, none⟩ = some (.slice ra R rc)) := fun W hb => by
    have := h.cells hb
    rw [hrv] at this
    exact this
  have HRl : Hid (∀ W i, Below w.heap.size w W → i < R → ∃ (g o : Nat) (ba : Option Addr) (bn bc : Nat), ra = some ⟨g, o, none⟩ ∧ W.cell? ⟨g, o + i * 3, none⟩ = some (.int .i64 (rlAt T i).kind) ∧ W.cell? ⟨g, o + i * 3 + 1, none⟩ = some (.int .i64 (rlAt T i).head) ∧ W.cell? ⟨g, o + i * 3 + 2, none⟩ = some (.slice ba bn bc) ∧ bn = (rlAt T i).body.length ∧ IRd W B (.slice ba bn bc) (rlAt T i).body ∧ g < w.heap.size) := fun W i hb hi => h.rule hrv hb (by omega)
  have HLit : Hid (∀ i, i < R → ∀ b, b ∈ (rlAt T i).body → IsLit T b) := fun i hi => (hT.lit i _ (rl_of (by omega))).2
  have HEv : Hid (∀ W k i (ba : Option Addr) (bn bc : Nat), Below w.heap.size w W → k < 4 → i < R → bn = (rlAt T i).body.length → IRd W B (.slice ba bn bc) (rlAt T i).body → Calls Tryz.prog 59 #[.pointer (some ⟨sb, 0, none⟩), .slice ba bn bc, .int .i64 (k : Nat)] W (BR W ((rlAt T i).body.all (fun b => m (pl b) k)))) := fun W k i ba bn bc hb hk hi hbn hv => every_r (h.bel hb) hT hk hv hbn (HLit.out i hi)
  have HSo : Hid (∀ W k i (ba : Option Addr) (bn bc : Nat), Below w.heap.size w W → k < 4 → i < R → bn = (rlAt T i).body.length → IRd W B (.slice ba bn bc) (rlAt T i).body → Calls Tryz.prog 60 #[.pointer (some ⟨sb, 0, none⟩), .slice ba bn bc, .int .i64 (k : Nat)] W (BR W ((rlAt T i).body.any (fun b => m (pl b) k)))) := fun W k i ba bn bc hb hk hi hbn hv => some_r (h.bel hb) hT hk hv hbn (HLit.out i hi)

  have HD : Hid (lostB T m q ab = !(List.range T.rules.length).any (lsB T m q ab)) := rfl
  have HOv : Hid (∀ W (i : Nat), Below w.heap.size w W → Calls Tryz.prog 79 #[.pointer (some ⟨sb, 0, none⟩), .int .i64 i, .int .i64 ab] W fun e w' => e = .returned (.bool (ovB T i ab)) ∧ w' = W) := fun W i hb => over_r (h.bel hb) i ab
  generalize lostB T m q ab = O at *
  clear h hT hrv hR
  go_enter Tryz.func62, Tryz.ntmps62
  go_wp2_with fail
  go_loopw [7] (fun t wr => ∃ i : Nat, i ≤ R ∧ t = .int .i64 i ∧ Below w.heap.size w wr ∧ ∀ j, j < i → lsB T m q ab j = false) (fun t _ => R - (RowKit.intOf t).toNat)
  case atStart => exact ⟨0, by omega, rfl, Below.refl _ _, by intro j hj; omega⟩
  case round =>
    obtain ⟨i, hi, rfl, hbel, hall⟩ := hrel
    have HA := hidLL hall
    clear hall
    obtain ⟨x0, x1⟩ := HX.out wr hbel
    by_cases hlt : i < R
    · have hiz : (i : Int) < R := by omega
      obtain ⟨g, o, ba, bn, bc, ea, y0, y1, y2, hbn, hrd, hgw⟩ := HRl.out wr i hbel hlt
      subst ea
      obtain ⟨W6, bx, hW6, hbx, hb6, z0, z1, z2, hl6⟩ := rcopy wr (.int .i64 (rlAt T i).kind) (.int .i64 (rlAt T i).head) (.slice ba bn bc) 62
      have hbw6 := hbel.trans (hb6.mono hbel.size)
      have hrd6 : IRd W6 B (.slice ba bn bc) (rlAt T i).body := hrd.on fun k hk => hb6.block k (by have := HS.out.lt; have := hbel.size; omega)
      have hbl : bn ≤ 120 := by rw [hbn]; exact body_len HT.out i
      have HF : Hid (lsB T m q ab i = ((rlAt T i).head == q && !((rlAt T i).kind == 2) && (decide (ab < 0) || ovB T i ab) && !(rlAt T i).body.any (fun b => m (pl b) 3))) := rfl
      have HN : Hid (lsB T m q ab i = false → ∀ j, j < i + 1 → lsB T m q ab j = false) := fun hf => rng_next HA.out hf
      have HH : Hid (lsB T m q ab i = true → (List.range T.rules.length).any (lsB T m q ab) = true) := fun hf => rng_hit (by rw [← HR.out]; exact hlt) hf
      have HQ := hidLL hbw6
      have HW6 := hidLL (And.intro hW6 hbx)
      have HC : Hid (Calls Tryz.prog 60 #[.pointer (some ⟨sb, 0, none⟩), .slice ba bn bc, .int .i64 3] W6 (BR W6 ((rlAt T i).body.any (fun b => m (pl b) 3)))) := HSo.out W6 3 i ba bn bc hbw6 (by omega) hlt hbn hrd6
      have HV := hidLL (HOv.out W6 i hbw6)
      clear hW6 hbx hb6 hbw6 hbel hrd hrd6 hbn
      obtain ⟨F, hF⟩ : ∃ F, F = lsB T m q ab i := ⟨_, rfl⟩
      rw [← hF] at HF HN HH
      clear hF
      generalize (rlAt T i).body.any (fun b => m (pl b) 3) = C at *
      generalize ovB T i ab = V at *
      generalize (rlAt T i).kind = KD at *
      generalize (rlAt T i).head = Q at *
      go_upto_region 5 with fail
      rw [← HW6.out.1, ← HW6.out.2]
      by_cases h1 : Q = q
      · subst h1
        by_cases h2 : KD = 2
        · subst h2
          go_wp2
          go_roundw
          case rel => exact ⟨i + 1, by omega, by go_num, HQ.out, HN.out (by rw [HF.out]; simp)⟩
          case measure => simp [RowKit.intOf]; omega
        · have h2' : (KD == 2) = false := by simpa using h2
          by_cases h3 : ab < 0
          · have h3' : decide (ab < 0) = true := decide_eq_true h3
            cases C with
            | false =>
              go_wp2_with fail
              refine HC.out.mono ?_
              rintro e w9 ⟨rfl, hb9⟩
              have H9 := hidLL hb9
              clear hb9
              go_wp2
              go_ret
              exact ⟨retB (by rw [HD.out, HH.out (by rw [HF.out]; simp [h2, h3])] <;> rfl), HQ.out.trans (H9.out.mono HQ.out.size)⟩
            | true =>
              go_wp2_with fail
              refine HC.out.mono ?_
              rintro e w9 ⟨rfl, hb9⟩
              have H9 := hidLL hb9
              clear hb9
              go_wp2
              go_roundw
              case rel => exact ⟨i + 1, by omega, by go_num, HQ.out.trans (H9.out.mono HQ.out.size), HN.out (by rw [HF.out]; simp)⟩
              case measure => simp [RowKit.intOf]; omega
          · have h3' : decide (ab < 0) = false := decide_eq_false h3
            cases V with
            | true =>
              go_wp2_with fail
              refine HV.out.mono ?_
              rintro e w' ⟨rfl, ew⟩
              subst w'
              cases C with
              | false =>
                go_wp2_with fail
                refine HC.out.mono ?_
                rintro e w9 ⟨rfl, hb9⟩
                have H9 := hidLL hb9
                clear hb9
                go_wp2
                go_ret
                exact ⟨retB (by rw [HD.out, HH.out (by rw [HF.out]; simp [h2])] <;> rfl), HQ.out.trans (H9.out.mono HQ.out.size)⟩
              | true =>
                go_wp2_with fail
                refine HC.out.mono ?_
                rintro e w9 ⟨rfl, hb9⟩
                have H9 := hidLL hb9
                clear hb9
                go_wp2
                go_roundw
                case rel => exact ⟨i + 1, by omega, by go_num, HQ.out.trans (H9.out.mono HQ.out.size), HN.out (by rw [HF.out]; simp)⟩
                case measure => simp [RowKit.intOf]; omega
            | false =>
              go_wp2_with fail
              refine HV.out.mono ?_
              rintro e w' ⟨rfl, ew⟩
              subst w'
              cases C with
              | false =>
                go_wp2_with fail
                refine HC.out.mono ?_
                rintro e w9 ⟨rfl, hb9⟩
                have H9 := hidLL hb9
                clear hb9
                go_wp2
                go_roundw
                case rel => exact ⟨i + 1, by omega, by go_num, HQ.out.trans (H9.out.mono HQ.out.size), HN.out (by rw [HF.out]; simp [h3])⟩
                case measure => simp [RowKit.intOf]; omega
              | true =>
                go_wp2_with fail
                refine HC.out.mono ?_
                rintro e w9 ⟨rfl, hb9⟩
                have H9 := hidLL hb9
                clear hb9
                go_wp2
                go_roundw
                case rel => exact ⟨i + 1, by omega, by go_num, HQ.out.trans (H9.out.mono HQ.out.size), HN.out (by rw [HF.out]; simp)⟩
                case measure => simp [RowKit.intOf]; omega
      · have h1' : (Q == q) = false := by simpa using h1
        have h1n : (Q != q) = true := by simpa using h1
        go_wp2
        go_roundw
        case rel => exact ⟨i + 1, by omega, by go_num, HQ.out, HN.out (by rw [HF.out]; simp [h1])⟩
        case measure => simp [RowKit.intOf]; omega
    · have hge : ¬ (i : Int) < R := by omega
      have HE : Hid ((List.range T.rules.length).any (lsB T m q ab) = false) := rng_miss fun j hj => HA.out j (by have := HR.out; omega)
      have HQ := hidLL hbel
      clear hbel
      go_wp2
      go_ret
      exact ⟨retB (by rw [HD.out, HE.out] <;> rfl), HQ.out⟩
end Go.Proofs.YtmbclnaenjcocaaGreatDoor
