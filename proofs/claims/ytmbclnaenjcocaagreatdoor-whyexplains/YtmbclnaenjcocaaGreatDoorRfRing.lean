/-
  The document's answer for rules: is a rule above itself (ringOf).
-/
import Derived.Test.YtmbclnaenjcocaaGreatDoorRfSol
namespace Go.Proofs.YtmbclnaenjcocaaGreatDoor
open Go.RowKit
section
variable {T : Thy}
/-- Taken away one by one, each when it is above nothing that is left. -/
structure Gon (T : Thy) (gn : Nat → Bool) (left : Nat) : Prop where
  ord : ∃ sd : List Nat, sd.Nodup ∧ (∀ r, r ∈ sd ↔ r < T.rules.length ∧ gn r = true) ∧ sd.length + left = T.rules.length ∧ ∀ (j a : Nat), sd[j]? = some a → ∀ b, Ovr T a b → ∃ i, i < j ∧ sd[i]? = some b
theorem Gon.start (T : Thy) : Gon T (fun _ => false) T.rules.length := ⟨[], List.nodup_nil, fun r => ⟨(fun h => by cases h), fun h => by cases h.2⟩, by simp, fun j a h => by simp at h⟩
theorem Gon.add (hT : Okt T) {gn : Nat → Bool} {left i : Nat} (h : Gon T gn left) (hi : i < T.rules.length) (h0 : gn i = false) (hb : ∀ b, Ovr T i b → gn b = true) : 0 < left ∧ Gon T (upd gn i true) (left - 1) := by
  obtain ⟨sd, h1, h2, h3, h4⟩ := h.ord
  have hni : i ∉ sd := fun e => by have := ((h2 i).1 e).2; rw [h0] at this; cases this
  have hn2 : (sd ++ [i]).Nodup := by
    rw [List.nodup_append]
    refine ⟨h1, by simp, fun a ha b hb' e => ?_⟩
    rw [List.mem_singleton] at hb'
    exact hni (by rw [← hb', ← e]; exact ha)
  have hlen := nodup_len T.rules.length (sd ++ [i]) hn2 (fun r hr => by
    rcases List.mem_append.1 hr with e | e
    · exact ((h2 r).1 e).1
    · rw [List.mem_singleton] at e; rw [e]; exact hi)
  rw [List.length_append] at hlen
  simp only [List.length_cons, List.length_nil] at hlen
  refine ⟨by omega, sd ++ [i], hn2, fun r => ?_, by rw [List.length_append]; simp only [List.length_cons, List.length_nil]; omega, fun j a hj b hab => ?_⟩
  · rw [List.mem_append, List.mem_singleton, h2]
    unfold upd
    constructor
    · rintro (e | e)
      · refine ⟨e.1, ?_⟩
        split
        · rfl
        · exact e.2
      · exact ⟨by rw [e]; exact hi, by rw [if_pos e]⟩
    · rintro ⟨e1, e2⟩
      by_cases e : r = i
      · exact .inr e
      · rw [if_neg e] at e2
        exact .inl ⟨e1, e2⟩
  · rcases Nat.lt_or_ge j sd.length with c | c
    · rw [List.getElem?_append_left c] at hj
      obtain ⟨k, hk, e⟩ := h4 j a hj b hab
      exact ⟨k, hk, by rw [List.getElem?_append_left (by omega)]; exact e⟩
    · rw [List.getElem?_append_right c] at hj
      have hj0 : j - sd.length = 0 := by
        have := (List.getElem?_eq_some_iff.1 hj).1
        simpa using this
      rw [hj0] at hj
      simp only [List.getElem?_cons_zero, Option.some.injEq] at hj
      subst hj
      have hbm : b ∈ sd := (h2 b).2 ⟨by have := (hT.over _ _ hab).2.2.2; omega, hb b hab⟩
      obtain ⟨k, hk⟩ := List.getElem?_of_mem hbm
      have hkl := (List.getElem?_eq_some_iff.1 hk).1
      exact ⟨k, by omega, by rw [List.getElem?_append_left hkl]; exact hk⟩
theorem Gon.ranked (hT : Okt T) {gn : Nat → Bool} (h : Gon T gn 0) : Ranked T := by
  obtain ⟨sd, h1, h2, h3, h4⟩ := h.ord
  have hall : ∀ r, r < T.rules.length → r ∈ sd := fun r hr => full T.rules.length sd h1 (fun x hx => ((h2 x).1 hx).1) (by omega) r hr
  refine ⟨fun r => T.rules.length - sd.idxOf r, fun a b hab => ?_⟩
  have ho := hT.over _ _ hab
  have ha := hall a (by omega)
  have hla := List.idxOf_lt_length_of_mem ha
  obtain ⟨i, hi, e⟩ := h4 (sd.idxOf a) a (by rw [List.getElem?_eq_getElem hla, List.getElem_idxOf]) b hab
  have h5 : sd.idxOf b ≤ i := by
    obtain ⟨hi2, e2⟩ := List.getElem?_eq_some_iff.1 e
    have := h1.idxOf_getElem i hi2
    rw [e2] at this
    omega
  have : sd.idxOf b < sd.idxOf a := by omega
  show T.rules.length - sd.idxOf a < T.rules.length - sd.idxOf b
  omega
/-- Where nothing can be taken away there is a ring. -/
theorem not_ranked (hT : Okt T) {gn : Nat → Bool} {i : Nat} (hi : i < T.rules.length) (h0 : gn i = false) (hs : ∀ i, i < T.rules.length → gn i = false → ∃ b, Ovr T i b ∧ gn b = false) : ¬ Ranked T := by
  rintro ⟨f, hf⟩
  -- a bound of the ranks
  have hbd : ∃ M, ∀ i, i < T.rules.length → f i ≤ M := by
    have : ∀ n, ∃ M, ∀ i, i < n → f i ≤ M := fun n => by
      induction n with
      | zero => exact ⟨0, fun i hi => by omega⟩
      | succ n ih =>
        obtain ⟨M, hM⟩ := ih
        refine ⟨M + f n, fun i hi => ?_⟩
        rcases Nat.lt_or_ge i n with c | c
        · have := hM i c; omega
        · obtain rfl : i = n := by omega
          omega
    exact this _
  obtain ⟨M, hM⟩ := hbd
  have key : ∀ n i, i < T.rules.length → gn i = false → M - f i ≤ n → False := fun n => by
    induction n with
    | zero =>
      intro i hi h0 hn
      obtain ⟨b, hab, hb⟩ := hs i hi h0
      have h1 := hf i b hab
      have h2 := hM b (by have := (hT.over _ _ hab).2.2.2; omega)
      omega
    | succ n ih =>
      intro i hi h0 hn
      obtain ⟨b, hab, hb⟩ := hs i hi h0
      have h1 := hf i b hab
      have hbl : b < T.rules.length := by have := (hT.over _ _ hab).2.2.2; omega
      have h2 := hM b hbl
      exact ih b hbl hb (by omega)
  exact key M i hi h0 (by omega)
theorem Gon.some_left {gn : Nat → Bool} {left : Nat} (h : Gon T gn left) (hl : 0 < left) : ∃ i, i < T.rules.length ∧ gn i = false := by
  obtain ⟨sd, h1, h2, h3, _⟩ := h.ord
  apply Classical.byContradiction
  intro hn
  have hall : ∀ r, r < T.rules.length → r ∈ sd := fun r hr => (h2 r).2 ⟨hr, by
    cases e : gn r
    · exact absurd ⟨r, hr, e⟩ hn
    · rfl⟩
  have key : ∀ (l : List Nat), l.Nodup → ∀ (m : List Nat), (∀ x, x ∈ l → x ∈ m) → l.length ≤ m.length := by
    intro l
    induction l with
    | nil => intro _ m _; simp
    | cons x l ih =>
      intro hnd m hm
      rw [List.nodup_cons] at hnd
      have h9 := ih hnd.2 (m.erase x) (fun y hy => by
        have hy2 := hm y (List.mem_cons_of_mem _ hy)
        exact (List.mem_erase_of_ne (fun e => hnd.1 (by first | (rw [← e]; exact hy) | (rw [e]; exact hy)))).2 hy2)
      have hx := hm x (List.mem_cons_self ..)
      rw [List.length_erase_of_mem hx] at h9
      have := List.length_pos_of_mem hx
      simp only [List.length_cons]
      omega
  have := key (List.range T.rules.length) List.nodup_range sd (fun x hx => hall x (List.mem_range.1 hx))
  rw [List.length_range] at this
  omega
/-- A pass over all rules, from gn0 on. -/
structure RPas (T : Thy) (gn0 : Nat → Bool) (l0 i : Nat) (gn : Nat → Bool) (left : Nat) (sm : Bool) : Prop where
  g : Gon T gn left
  no : sm = false → gn = gn0 ∧ left = l0 ∧ ∀ j, j < i → gn0 j = false → ∃ b, Ovr T j b ∧ gn0 b = false
  yes : sm = true → left < l0
theorem abv_iff (hT : Okt T) {gn : Nat → Bool} {i : Nat} : T.over.any (fun x => x.1 == (i : Int) && !gn x.2.toNat) = true ↔ ∃ b, Ovr T i b ∧ gn b = false := by
  rw [List.any_eq_true]
  constructor
  · rintro ⟨⟨x, y⟩, hx, e⟩
    simp only [Bool.and_eq_true, beq_iff_eq, Bool.not_eq_true'] at e
    have ho := hT.over _ _ hx
    refine ⟨y.toNat, ?_, e.2⟩
    unfold Ovr
    rw [← e.1, show ((y.toNat : Nat) : Int) = y by omega]
    exact hx
  · rintro ⟨b, hab, hb⟩
    exact ⟨_, hab, by simp [hb]⟩
theorem RPas.skip {gn0 gn : Nat → Bool} {l0 i left : Nat} {sm : Bool} (h : RPas T gn0 l0 i gn left sm) (hs : gn i = true ∨ ∃ b, Ovr T i b ∧ gn b = false) : RPas T gn0 l0 (i + 1) gn left sm :=
  ⟨h.g, fun e => ⟨(h.no e).1, (h.no e).2.1, fun j hj hg => by
    rcases Nat.lt_or_ge j i with c | c
    · exact (h.no e).2.2 j c hg
    · obtain rfl : j = i := by omega
      rw [(h.no e).1] at hs
      rcases hs with e1 | e1
      · rw [hg] at e1; cases e1
      · exact e1⟩, h.yes⟩
theorem RPas.take (hT : Okt T) {gn0 gn : Nat → Bool} {l0 i left : Nat} {sm : Bool} (h : RPas T gn0 l0 i gn left sm) (hi : i < T.rules.length) (h0 : gn i = false) (hb : ¬ ∃ b, Ovr T i b ∧ gn b = false) : 0 < left ∧ RPas T gn0 l0 (i + 1) (upd gn i true) (left - 1) true := by
  obtain ⟨h1, h2⟩ := h.g.add hT hi h0 (fun b hab => by
    cases e : gn b
    · exact absurd ⟨b, hab, e⟩ hb
    · rfl)
  refine ⟨h1, h2, (fun e => by cases e), fun _ => ?_⟩
  cases sm with
  | false => have := (h.no rfl).2.1; omega
  | true => have := h.yes rfl; omega
end
theorem make_bools (n : Nat) (hn : n ≤ 100000) (w : World) : (Instr.makeSlice 84 (.int .i64 (n : Int)) (.int .i64 (n : Int))).run Tryz.prog w = .ok (.slice (some ⟨w.heap.size, 0, none⟩) n n) (w.alloc (.cells (madeCells #[.bool false] n) 4)) :=
  run_make_row' 84 4 (.bool false) 1 Tryz.underlying84 (by kernel_rfl) rfl .i64 .i64 n (by omega) (by omega) w
def RingR (T : Thy) (w : World) (e : Ending) (w' : World) : Prop := (∃ b, e = .returned (.bool b) ∧ (b = true ↔ ¬ Ranked T)) ∧ Below w.heap.size w w'
set_option maxHeartbeats 4000000 in
set_option maxRecDepth 100000 in
theorem ring_r {w : World} {T : Thy} {B : Nat} {oa : Option Addr} {on oc : Nat} (hT : Okt T) (hO : ORd w B (.slice oa on oc) T.over) (hB : B ≤ w.heap.size) (hon : on = T.over.length) : Calls Tryz.prog 21 #[.int .i64 (T.rules.length : Nat), .slice oa on oc] w (RingR T w) := by
  have HT := hidLL hT
  have hR1 := hT.r
  have ho1 := hT.o
  obtain ⟨R, hR⟩ : ∃ R, R = T.rules.length := ⟨_, rfl⟩
  rw [← hR] at hR1 ⊢
  have HR := hidLL hR
  rw [← hon] at ho1
  have HOn := hidLL hon
  obtain ⟨g0, hg0⟩ : ∃ g0, g0 = w.heap.size := ⟨_, rfl⟩
  obtain ⟨W1, hW1⟩ : ∃ W1 : World, W1 = w.alloc (.cells (madeCells #[.bool false] R) 4) := ⟨_, rfl⟩
  have hb1 : Below w.heap.size w W1 := by rw [hW1]; exact (Below.refl _ _).alloc (Nat.le_refl _) _
  have hr1 : W1.rowIs g0 4 R (fun i => .bool ((fun _ => false : Nat → Bool) i)) := by rw [hW1, hg0]; exact World.rowIs_made w (.bool false) R 4
  have H1 := hidLL (And.intro hb1 hr1)
  have HW := hidLL (And.intro hW1 hg0)
  have HOv : Hid (∀ W, Below g0 w W → ORd W B (.slice oa on oc) T.over) := fun W hW => hO.on fun k hk => hW.block k (by omega)
  have HB := hidLL hB
  have hmk : ∀ w : World, (Instr.makeSlice 84 (.int .i64 (R : Int)) (.int .i64 (R : Int))).run Tryz.prog w = .ok (.slice (some ⟨w.heap.size, 0, none⟩) R R) (w.alloc (.cells (madeCells #[.bool false] R) 4)) := fun w => make_bools R (by omega) w
  clear hT hR hon hW1 hb1 hr1 hg0 hO hB
  go_enter Tryz.func21, Tryz.ntmps21
  go_upto_region 2 with fail
  rw [← HW.out.1, ← HW.out.2]
  clear hmk
  go_wp2_with fail
  go_loopg [6] R (fun gk t6 wr => ∃ (gn : Nat → Bool) (left : Nat), t6 = .int .i64 left ∧ left ≤ R ∧ Gon T gn left ∧ wr.rowIs g0 4 R (fun i => .bool (gn i)) ∧ Below g0 w wr ∧ left ≤ gk)
  case atStart => exact ⟨fun _ => false, R, rfl, Nat.le_refl _, by rw [HR.out]; exact Gon.start T, H1.out.2, by rw [HW.out.2]; exact H1.out.1, Nat.le_refl _⟩
  case round =>
    obtain ⟨gn0, l0, rfl, hl0, hG, hrow, hbel, hgk⟩ := hrel
    have HS := hidLL (And.intro hG (And.intro hrow (And.intro hbel hgk)))
    clear hG hrow hbel hgk
    by_cases hz : 0 < l0
    · have hzz : (0 : Int) < l0 := by omega
      go_wp2_with fail
      go_loopw [6, 7, 8] (fun t6 t7 t8 w2 => ∃ (gn : Nat → Bool) (left : Nat) (sm : Bool) (i : Nat), i ≤ R ∧ t6 = .int .i64 left ∧ t7 = .bool sm ∧ t8 = .int .i64 i ∧ left ≤ R ∧ RPas T gn0 l0 i gn left sm ∧ w2.rowIs g0 4 R (fun i => .bool (gn i)) ∧ Below g0 w w2) (fun _ _ t8 _ => R - (RowKit.intOf t8).toNat)
      case atStart => exact ⟨gn0, l0, false, 0, by omega, rfl, rfl, rfl, hl0, ⟨HS.out.1, fun _ => ⟨rfl, rfl, fun j hj => by omega⟩, fun e => by cases e⟩, HS.out.2.1, HS.out.2.2.1⟩
      case round =>
        obtain ⟨gn, left, sm, i, hi, rfl, rfl, rfl, hle, hP, hrow, hbel⟩ := hrel
        obtain ⟨w2, hw2⟩ : ∃ w2 : World, w2 = wr := ⟨_, rfl⟩
        subst hw2
        by_cases hlt : i < R
        · have hiz : (i : Int) < R := by omega
          have y0 := hrow.cell (i := i) hlt
          have yf := hrow.frozen i
          have hlg := hrow.lt
          have HP := hidLL (And.intro hP (And.intro hrow hbel))
          clear hP hrow hbel
          cases hg : gn i with
          | true =>
            rw [hg] at y0
            have HG := hidLL hg
            clear hg
            go_wp2
            go_roundw
            case rel => exact ⟨gn, left, sm, i + 1, by omega, rfl, rfl, by go_num, hle, HP.out.1.skip (.inl HG.out), HP.out.2.1, HP.out.2.2⟩
            case measure => simp [RowKit.intOf]; omega
          | false =>
            rw [hg] at y0
            have HG := hidLL hg
            clear hg
            go_wp2_with fail
            go_loopw [9, 10] (fun t9 t10 w3 => ∃ k : Nat, k ≤ on ∧ t10 = .int .i64 k ∧ t9 = .bool ((T.over.take k).any (fun x => x.1 == (i : Int) && !gn x.2.toNat)) ∧ w3 = w2) (fun _ t10 _ => on - (RowKit.intOf t10).toNat)
            case atStart => exact ⟨0, by omega, rfl, rfl, rfl⟩
            case round =>
              obtain ⟨k, hk, rfl, rfl, ew⟩ := hrel
              subst wr
              by_cases hlt2 : k < on
              · have hkz : (k : Int) < on := by omega
                obtain ⟨x, hx⟩ : ∃ x, T.over[k]? = some x := ⟨_, List.getElem?_eq_getElem (by have := HOn.out; omega)⟩
                obtain ⟨g, o, ea, hgB, z0, z1⟩ := (HOv.out w2 HP.out.2.2).at hx
                subst ea
                have hov := HT.out.over x.1 x.2 (List.mem_of_getElem? hx)
                have HTk : Hid (T.over.take (k + 1) = T.over.take k ++ [x]) := by
                  obtain ⟨h9, e9⟩ := List.getElem?_eq_some_iff.1 hx
                  show _ = _
                  rw [List.take_succ_eq_append_getElem h9, e9]
                obtain ⟨xa, xb⟩ := x
                simp only at z0 z1 hov
                obtain ⟨bn, hbn⟩ : ∃ bn : Nat, (bn : Int) = xb := ⟨xb.toNat, by omega⟩
                have hbnR : bn < R := by have := HR.out; omega
                have hbnz : (bn : Int) < R := by omega
                have u0 := HP.out.2.1.cell (i := bn) hbnR
                rw [← hbn] at z1
                have HXB : Hid (xb.toNat = bn) := by show _ = _; omega
                have HNx : Hid ((T.over.take (k + 1)).any (fun x => x.1 == (i : Int) && !gn x.2.toNat) = ((T.over.take k).any (fun x => x.1 == (i : Int) && !gn x.2.toNat) || (xa == (i : Int) && !gn bn))) := by
                  show _ = _
                  rw [HTk.out, List.any_append]
                  simp [HXB.out]
                clear hx hov hbn HTk HXB
                generalize (T.over.take k).any (fun x => x.1 == (i : Int) && !gn x.2.toNat) = A at *
                generalize gn bn = G at *
                cases A with
                | true =>
                  go_wp2
                  go_roundw
                  case rel => exact ⟨k + 1, by omega, by go_num, by rw [HNx.out] <;> rfl, by first | rfl | trivial⟩
                  case measure => simp [RowKit.intOf]; omega
                | false =>
                  by_cases hx1 : xa = (i : Int)
                  · subst hx1
                    cases G with
                    | true =>
                      go_wp2
                      go_roundw
                      case rel => exact ⟨k + 1, by omega, by go_num, by rw [HNx.out]; simp, by first | rfl | trivial⟩
                      case measure => simp [RowKit.intOf]; omega
                    | false =>
                      go_wp2
                      go_roundw
                      case rel => exact ⟨k + 1, by omega, by go_num, by rw [HNx.out]; simp, by first | rfl | trivial⟩
                      case measure => simp [RowKit.intOf]; omega
                  · have hx2 : (xa == (i : Int)) = false := by simpa using hx1
                    go_wp2
                    go_roundw
                    case rel => exact ⟨k + 1, by omega, by go_num, by rw [HNx.out]; simp [hx1], by first | rfl | trivial⟩
                    case measure => simp [RowKit.intOf]; omega
              · have hge : ¬ (k : Int) < on := by omega
                have HA : Hid ((T.over.take k).any (fun x => x.1 == (i : Int) && !gn x.2.toNat) = true ↔ ∃ b, Ovr T i b ∧ gn b = false) := by
                  rw [List.take_of_length_le (by have := HOn.out; omega)]
                  exact abv_iff HT.out
                generalize (T.over.take k).any (fun x => x.1 == (i : Int) && !gn x.2.toNat) = A at *
                cases A with
                | true =>
                  go_wp2
                  go_roundw
                  case rel => exact ⟨gn, left, sm, i + 1, by omega, rfl, rfl, by go_num, hle, HP.out.1.skip (.inr (HA.out.1 (by first | rfl | trivial))), HP.out.2.1, HP.out.2.2⟩
                  case measure => simp [RowKit.intOf]; omega
                | false =>
                  obtain ⟨hpos, hP2⟩ := HP.out.1.take HT.out (by rw [← HR.out]; exact hlt) HG.out (fun e => by have := HA.out.2 e; simp at this)
                  have HP2 := hidLL hP2
                  have hl1 : ((left - 1 : Nat) : Int) = (left : Int) - 1 := by omega
                  have hlz : (left : Int) ≤ R := by omega
                  clear hP2
                  go_wp2
                  go_roundw
                  case rel =>
                    refine ⟨upd gn i true, left - 1, true, i + 1, by omega, by rw [hl1], rfl, by go_num, by omega, HP2.out, ?_, HP.out.2.2.setCell (p := ⟨g0, _, none⟩) (Nat.le_refl _) _⟩
                    refine (HP.out.2.1.set i _).congr fun x _ => ?_
                    unfold upd
                    split <;> rfl
                  case measure => simp [RowKit.intOf]; omega
        · obtain rfl : i = R := by omega
          have hge : ¬ (i : Int) < i := by omega
          have HP := hidLL (And.intro hP (And.intro hrow hbel))
          clear hP hrow hbel
          cases sm with
          | false =>
            have HNR : Hid (¬ Ranked T) := by
              obtain ⟨e1, e2, e3⟩ := HP.out.1.no (by first | rfl | trivial)
              obtain ⟨i9, h9, h10⟩ := HS.out.1.some_left hz
              exact not_ranked HT.out h9 h10 fun j hj hg => e3 j (by rw [HR.out]; exact hj) hg
            go_wp2
            go_ret
            exact ⟨⟨true, rfl, ⟨fun _ => HNR.out, fun _ => rfl⟩⟩, by rw [← HW.out.2]; exact HP.out.2.2⟩
          | true =>
            have hlt9 := HP.out.1.yes (by first | rfl | trivial)
            go_wp2_with fail
            go_roundg left
            case measure => have := HS.out.2.2.2; omega
            case rel => exact ⟨gn, left, rfl, hle, HP.out.1.g, HP.out.2.1, HP.out.2.2, Nat.le_refl _⟩
    · have hz0 : l0 = 0 := by omega
      have hzz : ¬ (0 : Int) < l0 := by omega
      have HRk : Hid (Ranked T) := by
        have := HS.out.1
        rw [hz0] at this
        exact this.ranked HT.out
      go_wp2
      go_ret
      exact ⟨⟨false, rfl, ⟨(fun e => by cases e), fun e => (e HRk.out).elim⟩⟩, by rw [← HW.out.2]; exact HS.out.2.2.1⟩
end Go.Proofs.YtmbclnaenjcocaaGreatDoor
