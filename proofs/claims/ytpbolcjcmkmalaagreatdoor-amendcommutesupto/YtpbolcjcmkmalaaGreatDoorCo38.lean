/-
  Package amend: what changes touch, and whether they meet.
-/
import Derived.Test.YtpbolcjcmkmalaaGreatDoorCo36
import Derived.Test.YtpbolcjcmkmalaaGreatDoorCo19
import Derived.Test.YtpbolcjcmkmalaaGreatDoorShelfP
import Derived.Test.YtpbolcjcmkmalaaGreatDoorShelfR
import Derived.Lib.LastIndexByte
namespace Go.Proofs.YtpbolcjcmkmalaaGreatDoor
open Go.RowKit Go.Extern.Stop Go.Stop Go.Extern

theorem bang_bl {s : ByteArray} {j : Nat} (h : j < s.size) : (bl s)[j]? = some (s.data[j]!) := by
  rw [bl_get s j h, getElem!_pos s.data j (by simpa using h)]; rfl
theorem u47 {c : UInt8} (h : (c.toNat : Int) = 47) : c = 47 := UInt8.toNat_inj.1 (by show c.toNat = 47; omega)
theorem out_ix {s : ByteArray} {i : Nat} (hi : i < s.size) (hc : ((s.data[i]!).toNat : Int) = 47) (hn : ∀ j, i < j → j < s.size → ((s.data[j]!).toNat : Int) ≠ 47) : outB s = s.extract 0 i ∧ labB s = s.extract (i + 1) s.size := by
  have hg := bang_bl hi
  rw [u47 hc] at hg
  obtain ⟨hl, he⟩ := List.getElem?_eq_some_iff.1 hg
  have e : bl s = (bl s).take i ++ 47 :: (bl s).drop (i + 1) := by
    have h1 := (List.take_append_drop i (bl s)).symm
    rwa [List.drop_eq_getElem_cons hl, he] at h1
  have hB : 47 ∉ (bl s).drop (i + 1) := fun h => by
    obtain ⟨j, hj, e2⟩ := List.mem_iff_getElem.1 h
    rw [List.length_drop, size_bl] at hj
    rw [List.getElem_drop] at e2
    have h3 := bang_bl (s := s) (j := i + 1 + j) (by omega)
    rw [List.getElem?_eq_getElem (by rw [size_bl]; omega), e2] at h3
    injection h3 with h3
    exact hn (i + 1 + j) (by omega) (by omega) (by rw [← h3]; rfl)
  obtain ⟨h1, h2⟩ := out_at e hB
  exact ⟨by rw [h1, ← bl_stem, ofL_bl], by rw [h2, ← bl_caps, ofL_bl]⟩
theorem out_none {s : ByteArray} (hn : ∀ j, j < s.size → ((s.data[j]!).toNat : Int) ≠ 47) : outB s = ⟨#[]⟩ ∧ labB s = s := by
  refine out_no fun h => ?_
  obtain ⟨j, hj, e⟩ := List.mem_iff_getElem.1 h
  rw [size_bl] at hj
  have h3 := bang_bl hj
  rw [List.getElem?_eq_getElem (by rw [size_bl]; omega), e] at h3
  injection h3 with h3
  exact hn j hj (by rw [← h3]; rfl)
theorem out_size (s : ByteArray) : (outB s).size ≤ s.size ∧ (labB s).size ≤ s.size := by
  rcases Lib.lastIndexByte_spec s 47 with ⟨_, hn⟩ | ⟨i, hi, _, hc, hn⟩
  · rw [(out_none hn).1, (out_none hn).2]
    exact ⟨Nat.zero_le _, Nat.le_refl _⟩
  · rw [(out_ix hi hc hn).1, (out_ix hi hc hn).2, ByteArray.size_extract, ByteArray.size_extract]
    omega
theorem split_w (s : ByteArray) (hs : s.size ≤ 1000000) (w : World) : Calls Tryz.prog 91 #[.string s] w fun e w' => e = .returned (.tuple #[.string (outB s), .string (labB s)]) ∧ Below w.heap.size w w' := by
  have hL : Calls Tryz.prog 118 #[.string s, .string ⟨#[47]⟩] w fun e w' => e = .returned (.int .i64 (Lib.lastIndexByte s 47)) ∧ w' = w := Go.Proofs.Tryz.strings_LastIndex_one s ⟨#[47]⟩ rfl (by omega) w
  rcases Lib.lastIndexByte_spec s 47 with ⟨e, hn⟩ | ⟨i, hi, e, hc, hn⟩
  · rw [e] at hL
    have HO := hidLL (out_none hn)
    clear hn e hs
    go_enter Tryz.func91, Tryz.ntmps91
    go_wp2_with fail
    refine hL.mono ?_
    rintro e w1 ⟨rfl, rfl⟩
    go_wp2
    go_ret2
    rw [HO.out.1, HO.out.2]
    exact ⟨rfl, Below.refl _ _⟩
  · rw [e] at hL
    have HO := hidLL (out_ix hi hc hn)
    have hi0 : ¬ ((i : Int) < 0) := by omega
    have hi1 : (i : Int) ≤ s.size := by omega
    have hi2 : (i : Int) + 1 ≤ s.size := by omega
    clear hn e hc
    go_enter Tryz.func91, Tryz.ntmps91
    go_wp2_with fail
    refine hL.mono ?_
    rintro e w1 ⟨rfl, rfl⟩
    go_wp2_with fail
    go_quiet (fail)
    go_wp2
    go_ret2
    rw [HO.out.1, HO.out.2]
    refine ⟨?_, bdrewN (Below.refl _ _) _⟩
    first | rfl | simp
theorem join_w (p l : ByteArray) (hp : p.size ≤ 1000000) (hl : l.size ≤ 1000000) (w : World) : Calls Tryz.prog 92 #[.string p, .string l] w fun e w' => e = .returned (.string (joinP p l)) ∧ w' = w := by
  have hE : p.toList.isEmpty = decide (p.size = 0) := size_empty
  by_cases h0 : p.size = 0
  · have HR : Hid (joinP p l = l) := by show _ = _; unfold joinP; rw [if_pos h0]
    rw [show decide (p.size = 0) = true by simpa using h0] at hE
    clear h0
    go_enter Tryz.func92, Tryz.ntmps92
    go_wp2
    go_ret
    rw [HR.out]
    exact ⟨rfl, rfl⟩
  · have HR : Hid (joinP p l = p ++ ⟨#[47]⟩ ++ l) := by show _ = _; unfold joinP; rw [if_neg h0]; rfl
    rw [show decide (p.size = 0) = false by simpa using h0] at hE
    clear h0
    go_enter Tryz.func92, Tryz.ntmps92
    go_wp2
    go_ret
    rw [HR.out]
    exact ⟨rfl, rfl⟩
/-- A truth value that says whether P. -/
def BoolR (P : Prop) (e : Ending) : Prop := ∃ b, e = .returned (.bool b) ∧ (b = true ↔ P)
def thV (x : Thg) : Value := .agg #[.int .i64 x.1, .string x.2]
theorem ho_iff {x y : Thg} : HoB x y ↔ x.1 = 3 ∧ Lib.hasPrefix (bl y.2) (bl x.2) = true ∧ (x.2.toList = [] ∨ Lib.trimPrefix (bl y.2) (bl x.2) = [] ∨ Lib.hasPrefix (Lib.trimPrefix (bl y.2) (bl x.2)) [47] = true) := by
  have h0 : x.2.toList = [] ↔ x.2.size = 0 := by
    have := size_empty (s := x.2)
    rw [← List.isEmpty_iff, this, decide_eq_true_eq]
  have h47 : ∀ r : List UInt8, Lib.hasPrefix r [47] = true ↔ r.head? = some 47 := fun r => by
    unfold Lib.hasPrefix
    rw [List.isPrefixOf_iff_prefix]
    constructor
    · rintro ⟨t, rfl⟩; rfl
    · intro h
      cases r with
      | nil => cases h
      | cons a r =>
        injection h with h
        subst h
        exact ⟨r, rfl⟩
  rw [h0, h47]
  constructor
  · rintro ⟨h1, r, h2, h3⟩
    have hp : Lib.hasPrefix (bl y.2) (bl x.2) = true := by rw [h2]; unfold Lib.hasPrefix; rw [List.isPrefixOf_iff_prefix]; exact List.prefix_append _ _
    have ht : Lib.trimPrefix (bl y.2) (bl x.2) = r := by unfold Lib.trimPrefix; rw [if_pos hp, h2, List.drop_left]
    rw [ht]
    exact ⟨h1, hp, h3⟩
  · rintro ⟨h1, hp, h3⟩
    refine ⟨h1, _, ?_, h3⟩
    have hp' := hp
    unfold Lib.hasPrefix at hp'
    rw [List.isPrefixOf_iff_prefix] at hp'
    obtain ⟨r, e⟩ := hp'
    unfold Lib.trimPrefix
    rw [if_pos hp, ← e, List.drop_left]
theorem holds_w (x y : Thg) (w : World) : Calls Tryz.prog 51 #[thV x, thV y] w fun e w' => BoolR (HoB x y) e ∧ Below w.heap.size w w' := by
  have h1 := Go.Proofs.Tryz.strings_CutPrefix y.2 x.2 ((w.alloc (.cells #[.int .i64 x.1, .string x.2] 61)).alloc (.cells #[.int .i64 y.1, .string y.2] 61))
  rw [ho_iff]
  obtain ⟨m, p⟩ := x
  obtain ⟨n, q⟩ := y
  have h2 := fun w => Go.Proofs.Tryz.strings_HasPrefix ⟨(Lib.trimPrefix (bl q) (bl p)).toArray⟩ ⟨#[47]⟩ w
  unfold thV
  go_enter Tryz.func51, Tryz.ntmps51
  go_wp2_with fail
  refine h1.mono ?_
  rintro e w1 ⟨rfl, rfl⟩
  go_wp2_with fail
  all_goals first
    | go_ret
    | (refine (h2 _).mono ?_; rintro e w1 ⟨rfl, rfl⟩; go_wp2; go_ret)
  all_goals refine ⟨⟨_, rfl, ?_⟩, ((Below.refl _ _).alloc (Nat.le_refl _) _).alloc (by simp) _⟩
  all_goals simp_all
theorem two {W : World} {g T : Nat} {a b : Value} (h : W.heap[g]? = some (.cells #[a, b] T (0, 0))) : W.cell? ⟨g, 0, none⟩ = some a ∧ W.cell? ⟨g, 1, none⟩ = some b := by
  refine ⟨?_, ?_⟩
  · rw [cell_of_row _ g 0 #[a, b] T (0, 0) h]; rfl
  · rw [cell_of_row _ g 1 #[a, b] T (0, 0) h]; rfl
set_option maxHeartbeats 1000000 in
set_option maxRecDepth 20000 in
theorem meets_w (x y : Thg) (w : World) : Calls Tryz.prog 23 #[thV x, thV y] w fun e w' => BoolR (MeB x y) e ∧ Below w.heap.size w w' := by
  have HH := hidLL (And.intro (fun w => holds_w x y w) (fun w => holds_w y x w))
  obtain ⟨W2, hW2⟩ : ∃ W2, W2 = (w.alloc (.cells #[.int .i64 x.1, .string x.2] 61)).alloc (.cells #[.int .i64 y.1, .string y.2] 61) := ⟨_, rfl⟩
  have hb2 : Below w.heap.size w W2 := by rw [hW2]; exact ((Below.refl _ _).alloc (Nat.le_refl _) _).alloc (by simp) _
  have hg0 : W2.heap[w.heap.size]? = some (.cells #[.int .i64 x.1, .string x.2] 61 (0, 0)) := by
    rw [hW2, Below.heap_alloc _ _ _ (by simp)]
    exact heap_alloc_new _ _
  have hg1 : W2.heap[w.heap.size + 1]? = some (.cells #[.int .i64 y.1, .string y.2] 61 (0, 0)) := by
    rw [hW2]
    have := heap_alloc_new (w.alloc (.cells #[.int .i64 x.1, .string x.2] 61)) (.cells #[.int .i64 y.1, .string y.2] 61)
    rw [show (w.alloc (.cells #[.int .i64 x.1, .string x.2] 61)).heap.size = w.heap.size + 1 by simp] at this
    exact this
  have HW := hidLL hW2
  have HB := hidLL hb2
  have HG := hidLL (And.intro hg0 hg1)
  obtain ⟨x0, x1⟩ := two hg0
  obtain ⟨y0, y1⟩ := two hg1
  by_cases he : x = y
  · have HM : Hid (MeB x y) := .inl he
    subst he
    clear hW2 hb2 hg0 hg1
    obtain ⟨m, p⟩ := x
    unfold thV
    go_enter Tryz.func23, Tryz.ntmps23
    go_upto_region 1 with fail
    rw [← HW.out]
    go_wp2
    go_ret
    exact ⟨⟨_, rfl, ⟨fun _ => HM.out, fun _ => rfl⟩⟩, HB.out⟩
  · have HM : Hid (∀ b1 b2 : Bool, (b1 = true ↔ HoB x y) → (b2 = true ↔ HoB y x) → ((b1 || b2) = true ↔ MeB x y)) := fun b1 b2 h1 h2 => by
      unfold MeB
      rw [Bool.or_eq_true, h1, h2]
      exact ⟨fun h => .inr h, fun h => h.resolve_left he⟩
    have HM2 : Hid (HoB x y → MeB x y) := fun h => .inr (.inl h)
    have hne : ((x.1 == y.1) && (x.2.toList == y.2.toList)) = false := by
      cases h : ((x.1 == y.1) && (x.2.toList == y.2.toList)) with
      | false => rfl
      | true =>
        rw [Bool.and_eq_true, beq_iff_eq] at h
        exact absurd (Prod.ext h.1 (same_bytes.1 h.2)) he
    clear hW2 hb2 hg0 hg1 he
    obtain ⟨m, p⟩ := x
    obtain ⟨n, q⟩ := y
    unfold thV at HH ⊢
    go_enter Tryz.func23, Tryz.ntmps23
    go_upto_region 1 with fail
    rw [← HW.out]
    go_wp2_with fail
    · rename_i e1 e2; exact absurd hne (by rw [e1, e2]; simp)
    all_goals
      first | (have hmn : m = n := (by assumption); subst hmn) | skip
      refine (HH.out.1 W2).mono ?_
      rintro e w3 ⟨⟨b, rfl, hb⟩, hb3⟩
      have HC3 := hidLL hb
      have HB3 := hidLL (HB.out.trans (hb3.mono HB.out.size))
      have hg0 := (hb3.block w.heap.size (Array.getElem?_eq_some_iff.1 HG.out.1).1).trans HG.out.1
      have hg1 := (hb3.block (w.heap.size + 1) (Array.getElem?_eq_some_iff.1 HG.out.2).1).trans HG.out.2
      clear x0 x1 y0 y1 hb hb3
      obtain ⟨x0, x1⟩ := two hg0
      obtain ⟨y0, y1⟩ := two hg1
      clear hg0 hg1
      cases b
      · go_wp2_with fail
        refine (HH.out.2 w3).mono ?_
        rintro e w4 ⟨⟨b, rfl, hb⟩, hb4⟩
        have HC4 := hidLL hb
        have HB4 := hidLL (HB3.out.trans (hb4.mono HB3.out.size))
        clear x0 x1 y0 y1 hb hb4
        go_wp2
        go_ret
        refine ⟨⟨b, ?_, (by have := HM.out false b HC3.out HC4.out; rwa [Bool.false_or] at this)⟩, HB4.out⟩
        cases b <;> rfl
      · go_wp2
        go_ret
        exact ⟨⟨true, rfl, ⟨fun _ => HM2.out (HC3.out.1 (by trivial)), fun _ => rfl⟩⟩, HB3.out⟩
end Go.Proofs.YtpbolcjcmkmalaaGreatDoor
