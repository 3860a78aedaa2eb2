/-
  coin.Text.
-/
import Derived.Test.YtagkplcomhomcaaDoorFmt
namespace Go.Proofs.YtagkplcomhomcaaDoor
open Go.RowKit Go.Sort Go.Lib

theorem bldr_below {T e : TypeId} {B b : Nat} {bs : List Value} {w w' : World} (h : IsBuilderF T e B b bs w) (hb : Below w.heap.size w w') : IsBuilderF T e B b bs w' := by
  have hg : w.grownBy w' none := ⟨hb.os, hb.tape, hb.output, hb.size, fun k hk _ => hb.block k hk⟩
  have key : ∀ p, BuilderAtF T e B b p bs w → BuilderAtF T e B b p bs w' := by
    rintro p ⟨h1, v, h2, h3, h4⟩
    have hlt : b < w.heap.size := (Array.getElem?_eq_some_iff.1 h2).1
    refine ⟨h1, v, (hb.block b hlt).trans h2, h3.kept hg ?_, h4⟩
    cases v.ownBlock <;> simp
  rcases h with h | h
  · exact .inl (key _ h)
  · exact .inr (key _ h)

theorem tab_below {w w' : World} {B : Nat} (h : TabIs Tryd.prog w "internal/strconv.uint64pow10" .u64 pow10Tab) (hb : Below B w w') (hB : w.heap.size ≤ B) : TabIs Tryd.prog w' "internal/strconv.uint64pow10" .u64 pow10Tab := by
  have hg : Tryd.prog.globalNamed "internal/strconv.uint64pow10" = some 12 := by kernel_rfl
  refine var?_below hb hg ?_ h
  have : w.heap[12]? ≠ none := fun e => by
    have h' : w.var? Tryd.prog "internal/strconv.uint64pow10" = _ := h
    simp [World.var?, hg, e] at h'
  have h12 : 12 < w.heap.size := by
    rcases Nat.lt_or_ge 12 w.heap.size with k | k
    · exact k
    · exact absurd (Array.getElem?_eq_none k) this
  omega

/-- The digits as a string. -/
theorem nd20 (q : Nat) (h : q < 18446744073709551616) : nDigits q ≤ 20 := by
  rcases Nat.eq_zero_or_pos q with e | e
  · rw [e, nDigits_small (by decide)]; decide
  · have := numDigits_eq q e h
    split at this <;> omega
theorem bldr_lt {T e : TypeId} {B b : Nat} {bs : List Value} {w : World} (h : IsBuilderF T e B b bs w) : b < w.heap.size := by
  rcases h with ⟨_, v, h, _⟩ | ⟨_, v, h, _⟩ <;> exact (Array.getElem?_eq_some_iff.1 h).1
theorem dec_str (q : Nat) (s : ByteArray) (h : s = ⟨(decDigits q).toArray⟩) : s.size = nDigits q ∧ ∀ (i : Nat) (hi : i < s.size), (s[i]'hi).toNat < 128 ∧ (decDigits q).getD i 0 = s[i]'hi := by
  subst h
  have h1 : (⟨(decDigits q).toArray⟩ : ByteArray).size = nDigits q := by
    show (decDigits q).toArray.size = _
    rw [List.size_toArray, decDigits_length]
  refine ⟨h1, fun i hi => ?_⟩
  have hi' : i < (decDigits q).length := by rw [decDigits_length, ← h1]; exact hi
  have e : (⟨(decDigits q).toArray⟩ : ByteArray)[i]'hi = (decDigits q)[i] := rfl
  have e2 : (decDigits q).getD i 0 = (decDigits q)[i] := by rw [List.getD_eq_getElem?_getD, List.getElem?_eq_getElem hi']; rfl
  rw [e, e2]
  refine ⟨?_, rfl⟩
  rw [← e2, dec_at q i (by rw [← decDigits_length]; exact hi'), dg_nat]
  have := Nat.mod_lt (q / 10 ^ (nDigits q - 1 - i)) (show 0 < 10 by decide)
  omega
theorem cell_dg1 (u : Nat) : [Value.int .u8 (48 + (u : Int) / 10 % 10)] = byteCells [dg u 1] := by
  show _ = [Value.int .u8 ((dg u 1).toNat : Int)]
  rw [dg_nat, Nat.pow_one]
  rfl
theorem cell_dg0 (u : Nat) : [Value.int .u8 (48 + (u : Int) % 10)] = byteCells [dg u 0] := by
  show _ = [Value.int .u8 ((dg u 0).toNat : Int)]
  rw [dg_nat, Nat.pow_zero, Nat.div_one]
  rfl
theorem rune_ascii (c : UInt8) (h : c.toNat < 128) : runeCells (c.toNat : Int) = byteCells [c] := by
  rw [runeCells, encodeRuneZ_one (by omega) (by omega)]; rfl
theorem pre_comma (l : List UInt8) (i : Nat) (c : UInt8) (h : l.getD i 0 = c) (h1 : 0 < i ∧ (l.length - i) % 3 = 0) : pre l (i + 1) = pre l i ++ [44] ++ [c] := by
  rw [pre, if_pos h1, h, List.append_assoc]
theorem pre_plain (l : List UInt8) (i : Nat) (c : UInt8) (h : l.getD i 0 = c) (h1 : ¬ (0 < i ∧ (l.length - i) % 3 = 0)) : pre l (i + 1) = pre l i ++ [c] := by
  rw [pre, if_neg h1, h]; rfl
theorem pre_len (l : List UInt8) : ∀ i, (pre l i).length ≤ 2 * i
  | 0 => by simp [pre]
  | i + 1 => by
    have := pre_len l i
    rw [pre]
    split <;> (simp; omega)

set_option maxHeartbeats 8000000 in
set_option maxRecDepth 100000 in
theorem text_pos (u : Nat) (hu : u < 9223372036854775808) (w : World) (htab : TabIs Tryd.prog w "internal/strconv.uint64pow10" .u64 pow10Tab) :
    Calls Tryd.prog 15 #[.int .i64 ((u : Int))] w fun e w' => e = .returned (.string ⟨(txt u).toArray⟩) ∧ Below w.heap.size w w' := by
  have d1 : decide ((u : Int) < 0) = false := by simp
  have hwr : IntKind.u64.wrap (u : Int) = (u : Int) := by rw [IntKind.wrap_u64]; omega
  have HB : Hid (IsBuilderF 67 5 w.heap.size w.heap.size [] (w.alloc (.cells #[.pointer none, .slice none 0 0] 67))) := IsBuilderF.of (fresh_isBuilder 67 5 w)
  have HB0 : Hid (Below w.heap.size w (w.alloc (.cells #[.pointer none, .slice none 0 0] 67))) := (Below.refl _ w).alloc (Nat.le_refl _) _
  have HF : Hid (∀ w', TabIs Tryd.prog w' "internal/strconv.uint64pow10" .u64 pow10Tab → Calls Tryd.prog 33 #[.int .u64 ((u : Int) / 100), .int .i64 10] w' fun e w'' => e = .returned (.string ⟨(decDigits (u / 100)).toArray⟩) ∧ Below w'.heap.size w' w'') := fun w' h => formatUint (u / 100) (by omega) w' h
  have HT := hidIt htab
  clear htab
  go_enter Tryd.func15, Tryd.ntmps15
  obtain ⟨w1, hw1⟩ : ∃ w1, w1 = w.alloc (.cells #[.pointer none, .slice none 0 0] 67) := ⟨_, rfl⟩
  have HI1 : Hid (IsBuilderF 67 5 w.heap.size w.heap.size (byteCells []) w1) := by rw [hw1]; exact HB.out
  have HB1 : Hid (Below w.heap.size w w1) := by rw [hw1]; exact HB0.out
  go_wp2_with fail
  rw [← hw1]
  clear HB HB0
  refine (HF.out _ (tab_below HT.out HB1.out (Nat.le_refl _))).mono ?_
  rintro e w2 ⟨rfl, hb2⟩
  have HI2 := hidIt (bldr_below HI1.out hb2)
  have HB2 := hidIt (HB1.out.trans (hb2.mono HB1.out.size))
  clear hb2 HF HI1
  obtain ⟨s, hs⟩ : ∃ s : ByteArray, s = ⟨(decDigits (u / 100)).toArray⟩ := ⟨_, rfl⟩
  obtain ⟨hsn, hsa⟩ := dec_str _ s hs
  rw [← hs]
  clear hs
  have hn20 : s.size ≤ 20 := by
    rw [hsn]; exact nd20 _ (by omega)
  have HA := hidIt hsa
  have HSN := hidIt hsn
  have HLen : Hid ((decDigits (u / 100)).length = s.size) := by show _ = _; rw [decDigits_length, hsn]
  clear hsa hsn
  go_wp2_with fail
  go_loopw [] (fun wr => ∃ pos : Nat, IsBuilderF 67 5 w.heap.size w.heap.size (byteCells ([] ++ pre (decDigits (u / 100)) pos)) wr ∧ wr.heap[w2.heap.size]? = some (.stringIter s pos) ∧ Below w.heap.size w wr ∧ pos ≤ s.size) (fun wr => s.size - wr.iterPos w2.heap.size)
  case atStart =>
    refine ⟨0, HI2.out.alloc _, World.iter_heap w2 s 0, HB2.out.alloc HB2.out.size _, Nat.zero_le _⟩
  case round =>
    obtain ⟨pos, hI, hit, hbw, hps⟩ := hrel
    have hKB : w.heap.size < w2.heap.size := bldr_lt HI2.out
    have HI := hidIt hI
    have HBW := hidIt hbw
    have hsz : w2.heap.size < wr.heap.size := (Array.getElem?_eq_some_iff.1 hit).1
    have HIT := hidIt hit
    clear hI hbw
    by_cases hp : pos < s.size
    · obtain ⟨ha, hget⟩ := HA.out pos hp
      have hnx : ∀ ty, (Instr.next (.pointer (some ⟨w2.heap.size, 0, none⟩)) true ty).run Tryd.prog wr = _ := fun ty => Lib.run_next_ascii_at wr w2.heap.size s pos ty hit hp ha
      have hlen := pre_len (decDigits (u / 100)) pos
      have HI3 := hidIt (HI.out.iterAt hit (pos + 1))
      have HIT3 := hidIt (Lib.iterAt_heap wr w2.heap.size s pos (pos + 1) hit)
      have HBW3 := hidIt (Lib.below_iterAt HBW.out (k := w2.heap.size) (by omega) s (pos + 1))
      have hsz3 : w.heap.size ≤ (wr.iterAt w2.heap.size s (pos + 1)).heap.size := by rw [Lib.iterAt_size]; omega
      have HLn : Hid (([] ++ pre (decDigits (u / 100)) pos).length + 4 ≤ 140737488355328) := by show _ ≤ _; simp; omega
      have HLn2 : Hid (([] ++ pre (decDigits (u / 100)) pos ++ [44]).length + 4 ≤ 140737488355328) := by show _ ≤ _; simp; omega
      clear hlen
      generalize hc : (s[pos]'hp) = c at *
      by_cases h0 : 0 < pos
      · have c1 : decide ((0 : Int) < pos) = true := by simp; omega
        by_cases h3 : (s.size - pos) % 3 = 0
        · have c2 : ((s.size : Int) - pos) % 3 = 0 := by omega
          have HP : Hid (pre (decDigits (u / 100)) (pos + 1) = pre (decDigits (u / 100)) pos ++ [44] ++ [c]) := pre_comma _ _ _ hget ⟨h0, by rw [HLen.out]; exact h3⟩
          go_wp2_with fail
          refine (Tryd.Builder_WriteByte_k w.heap.size w.heap.size _ 44 _ HI3.out (by rw [byteCells_length]; exact Nat.le_trans (Nat.le_add_right _ 3) HLn.out) hsz3).mono ?_
          rintro e W0 ⟨rfl, h1, b1, k1⟩
          rw [show [Value.int .u8 44] = byteCells [44] from rfl, ← byteCells_append] at h1
          have HM1 : Hid (IsBuilderF 67 5 w.heap.size w.heap.size _ W0) := .inr h1
          have HM2 := hidIt (k1.iter HIT3.out (by omega))
          have HM3 := hidIt (HBW3.out.trans b1)
          have hszW : w.heap.size ≤ W0.heap.size := HM3.out.size
          clear h1 b1 k1
          go_wp2_with fail
          refine (Tryd.Builder_WriteRune_k w.heap.size w.heap.size _ _ (by omega) (by omega) _ HM1.out (by rw [byteCells_length]; exact HLn2.out) hszW).mono ?_
          rintro e W1 ⟨rfl, h1, b1, k1⟩
          rw [rune_ascii c ha, ← byteCells_append, List.append_assoc, List.append_assoc, ← List.append_assoc (pre _ _), ← HP.out] at h1
          have HN1 := hidIt h1
          have HN2 := hidIt (k1.iter HM2.out (by omega))
          have HN3 := hidIt (HM3.out.trans b1)
          have HN4 := hidIt hit
          clear h1 b1 k1
          go_wp2
          go_roundw
          case rel => exact ⟨pos + 1, .inr HN1.out, HN2.out, HN3.out, by omega⟩
          case measure =>
            simp only [World.iterPos, HN2.out, HN4.out]
            omega
        · have c2 : ¬ ((s.size : Int) - pos) % 3 = 0 := by omega
          have HP : Hid (pre (decDigits (u / 100)) (pos + 1) = pre (decDigits (u / 100)) pos ++ [c]) := pre_plain _ _ _ hget (fun h => h3 (by rw [← HLen.out]; exact h.2))
          go_wp2_with fail
          refine (Tryd.Builder_WriteRune_k w.heap.size w.heap.size _ _ (by omega) (by omega) _ HI3.out (by rw [byteCells_length]; exact HLn.out) hsz3).mono ?_
          rintro e W1 ⟨rfl, h1, b1, k1⟩
          rw [rune_ascii c ha, ← byteCells_append, List.append_assoc, ← HP.out] at h1
          have HN1 := hidIt h1
          have HN2 := hidIt (k1.iter HIT3.out (by omega))
          have HN3 := hidIt (HBW3.out.trans b1)
          have HN4 := hidIt hit
          clear h1 b1 k1
          go_wp2
          go_roundw
          case rel => exact ⟨pos + 1, .inr HN1.out, HN2.out, HN3.out, by omega⟩
          case measure =>
            simp only [World.iterPos, HN2.out, HN4.out]
            omega
      · have c1 : decide ((0 : Int) < pos) = false := by simp; omega
        have HP : Hid (pre (decDigits (u / 100)) (pos + 1) = pre (decDigits (u / 100)) pos ++ [c]) := pre_plain _ _ _ hget (fun h => h0 h.1)
        go_wp2_with fail
        refine (Tryd.Builder_WriteRune_k w.heap.size w.heap.size _ _ (by omega) (by omega) _ HI3.out (by rw [byteCells_length]; exact HLn.out) hsz3).mono ?_
        rintro e W1 ⟨rfl, h1, b1, k1⟩
        rw [rune_ascii c ha, ← byteCells_append, List.append_assoc, ← HP.out] at h1
        have HN1 := hidIt h1
        have HN2 := hidIt (k1.iter HIT3.out (by omega))
        have HN3 := hidIt (HBW3.out.trans b1)
        have HN4 := hidIt hit
        clear h1 b1 k1
        go_wp2
        go_roundw
        case rel => exact ⟨pos + 1, .inr HN1.out, HN2.out, HN3.out, by omega⟩
        case measure =>
          simp only [World.iterPos, HN2.out, HN4.out]
          omega
    · have hnx : ∀ ty, (Instr.next (.pointer (some ⟨w2.heap.size, 0, none⟩)) true ty).run Tryd.prog wr = _ := fun ty => Lib.run_next_end_at wr w2.heap.size s pos ty hit hp
      obtain rfl : pos = s.size := by omega
      have hlen := pre_len (decDigits (u / 100)) s.size
      have HLn : Hid (([] ++ pre (decDigits (u / 100)) s.size).length ≤ 41) := by show _ ≤ _; simp; omega
      clear hlen
      go_wp2_with fail
      refine (Tryd.Builder_WriteByte_k w.heap.size w.heap.size _ 46 _ HI.out (by rw [byteCells_length]; have := HLn.out; omega) (by omega)).mono ?_
      rintro e W0 ⟨rfl, h1, b1, k1⟩
      rw [show [Value.int .u8 46] = byteCells [46] from rfl, ← byteCells_append] at h1
      have HM1 : Hid (IsBuilderF 67 5 w.heap.size w.heap.size _ W0) := .inr h1
      have HM3 := hidIt (HBW.out.trans b1)
      have hszW : w.heap.size ≤ W0.heap.size := HM3.out.size
      clear h1 b1 k1
      go_wp2_with fail
      refine (Tryd.Builder_WriteByte_k w.heap.size w.heap.size _ _ _ HM1.out (by rw [byteCells_length, List.length_append]; have := HLn.out; simp only [List.length_singleton]; omega) hszW).mono ?_
      rintro e Wa ⟨rfl, h1, b1, k1⟩
      rw [cell_dg1, ← byteCells_append] at h1
      have HP1 : Hid (IsBuilderF 67 5 w.heap.size w.heap.size _ Wa) := .inr h1
      have HP3 := hidIt (HM3.out.trans b1)
      have hszA : w.heap.size ≤ Wa.heap.size := HP3.out.size
      clear h1 b1 k1
      go_wp2_with fail
      refine (Tryd.Builder_WriteByte_k w.heap.size w.heap.size _ _ _ HP1.out (by rw [byteCells_length, List.length_append, List.length_append]; have := HLn.out; simp only [List.length_singleton]; omega) hszA).mono ?_
      rintro e Wb ⟨rfl, h1, b1, k1⟩
      rw [cell_dg0, ← byteCells_append, List.append_assoc, List.append_assoc, List.append_assoc, HSN.out] at h1
      have h2 : IsBuilderF 67 5 w.heap.size w.heap.size (byteCells ([] ++ txt u)) Wb := by
        rw [← pre_txt u]; exact .inr h1
      have HQ1 := hidIt h2
      have HQ3 := hidIt (HP3.out.trans b1)
      have hszB : w.heap.size ≤ Wb.heap.size := HQ3.out.size
      clear h1 b1 k1 h2
      go_wp2_with fail
      refine (Tryd.Builder_String_any_k w.heap.size w.heap.size ([] ++ txt u) _ HQ1.out hszB).mono ?_
      rintro e Wc ⟨rfl, _, b1, _⟩
      go_wp2
      go_ret
      exact ⟨rfl, HQ3.out.trans b1⟩

set_option maxHeartbeats 8000000 in
set_option maxRecDepth 100000 in
theorem text_neg (u : Nat) (hu0 : 1 ≤ u) (hu : u ≤ 9223372036854775808) (w : World) (htab : TabIs Tryd.prog w "internal/strconv.uint64pow10" .u64 pow10Tab) :
    Calls Tryd.prog 15 #[.int .i64 (-(u : Int))] w fun e w' => e = .returned (.string ⟨(45 :: txt u).toArray⟩) ∧ Below w.heap.size w w' := by
  have d1 : decide (-(u : Int) < 0) = true := by simp; omega
  have hwr : IntKind.u64.wrap (-IntKind.u64.wrap (-(u : Int))) = (u : Int) := by rw [IntKind.wrap_u64, IntKind.wrap_u64]; omega
  have HB : Hid (IsBuilderF 67 5 w.heap.size w.heap.size [] (w.alloc (.cells #[.pointer none, .slice none 0 0] 67))) := IsBuilderF.of (fresh_isBuilder 67 5 w)
  have HB0 : Hid (Below w.heap.size w (w.alloc (.cells #[.pointer none, .slice none 0 0] 67))) := (Below.refl _ w).alloc (Nat.le_refl _) _
  have HF : Hid (∀ w', TabIs Tryd.prog w' "internal/strconv.uint64pow10" .u64 pow10Tab → Calls Tryd.prog 33 #[.int .u64 ((u : Int) / 100), .int .i64 10] w' fun e w'' => e = .returned (.string ⟨(decDigits (u / 100)).toArray⟩) ∧ Below w'.heap.size w' w'') := fun w' h => formatUint (u / 100) (by omega) w' h
  have HT := hidIt htab
  clear htab
  go_enter Tryd.func15, Tryd.ntmps15
  go_wp2_with fail
  refine (Tryd.Builder_WriteByte_k w.heap.size w.heap.size [] 45 _ HB.out (by simp) (by simp)).mono ?_
  rintro e w1 ⟨rfl, h1, b1, k1⟩
  have HI1 : Hid (IsBuilderF 67 5 w.heap.size w.heap.size (byteCells [45]) w1) := .inr h1
  have HB1 := hidIt (HB0.out.trans b1)
  clear h1 b1 k1 HB HB0
  go_wp2_with fail
  refine (HF.out _ (tab_below HT.out HB1.out (Nat.le_refl _))).mono ?_
  rintro e w2 ⟨rfl, hb2⟩
  have HI2 := hidIt (bldr_below HI1.out hb2)
  have HB2 := hidIt (HB1.out.trans (hb2.mono HB1.out.size))
  clear hb2 HF HI1
  obtain ⟨s, hs⟩ : ∃ s : ByteArray, s = ⟨(decDigits (u / 100)).toArray⟩ := ⟨_, rfl⟩
  obtain ⟨hsn, hsa⟩ := dec_str _ s hs
  rw [← hs]
  clear hs
  have hn20 : s.size ≤ 20 := by
    rw [hsn]; exact nd20 _ (by omega)
  have HA := hidIt hsa
  have HSN := hidIt hsn
  have HLen : Hid ((decDigits (u / 100)).length = s.size) := by show _ = _; rw [decDigits_length, hsn]
  clear hsa hsn
  go_wp2_with fail
  go_loopw [] (fun wr => ∃ pos : Nat, IsBuilderF 67 5 w.heap.size w.heap.size (byteCells ([45] ++ pre (decDigits (u / 100)) pos)) wr ∧ wr.heap[w2.heap.size]? = some (.stringIter s pos) ∧ Below w.heap.size w wr ∧ pos ≤ s.size) (fun wr => s.size - wr.iterPos w2.heap.size)
  case atStart =>
    refine ⟨0, HI2.out.alloc _, World.iter_heap w2 s 0, HB2.out.alloc HB2.out.size _, Nat.zero_le _⟩
  case round =>
    obtain ⟨pos, hI, hit, hbw, hps⟩ := hrel
    have hKB : w.heap.size < w2.heap.size := bldr_lt HI2.out
    have HI := hidIt hI
    have HBW := hidIt hbw
    have hsz : w2.heap.size < wr.heap.size := (Array.getElem?_eq_some_iff.1 hit).1
    have HIT := hidIt hit
    clear hI hbw
    by_cases hp : pos < s.size
    · obtain ⟨ha, hget⟩ := HA.out pos hp
      have hnx : ∀ ty, (Instr.next (.pointer (some ⟨w2.heap.size, 0, none⟩)) true ty).run Tryd.prog wr = _ := fun ty => Lib.run_next_ascii_at wr w2.heap.size s pos ty hit hp ha
      have hlen := pre_len (decDigits (u / 100)) pos
      have HI3 := hidIt (HI.out.iterAt hit (pos + 1))
      have HIT3 := hidIt (Lib.iterAt_heap wr w2.heap.size s pos (pos + 1) hit)
      have HBW3 := hidIt (Lib.below_iterAt HBW.out (k := w2.heap.size) (by omega) s (pos + 1))
      have hsz3 : w.heap.size ≤ (wr.iterAt w2.heap.size s (pos + 1)).heap.size := by rw [Lib.iterAt_size]; omega
      have HLn : Hid (([45] ++ pre (decDigits (u / 100)) pos).length + 4 ≤ 140737488355328) := by show _ ≤ _; simp; omega
      have HLn2 : Hid (([45] ++ pre (decDigits (u / 100)) pos ++ [44]).length + 4 ≤ 140737488355328) := by show _ ≤ _; simp; omega
      clear hlen
      generalize hc : (s[pos]'hp) = c at *
      by_cases h0 : 0 < pos
      · have c1 : decide ((0 : Int) < pos) = true := by simp; omega
        by_cases h3 : (s.size - pos) % 3 = 0
        · have c2 : ((s.size : Int) - pos) % 3 = 0 := by omega
          have HP : Hid (pre (decDigits (u / 100)) (pos + 1) = pre (decDigits (u / 100)) pos ++ [44] ++ [c]) := pre_comma _ _ _ hget ⟨h0, by rw [HLen.out]; exact h3⟩
          go_wp2_with fail
          refine (Tryd.Builder_WriteByte_k w.heap.size w.heap.size _ 44 _ HI3.out (by rw [byteCells_length]; exact Nat.le_trans (Nat.le_add_right _ 3) HLn.out) hsz3).mono ?_
          rintro e W0 ⟨rfl, h1, b1, k1⟩
          rw [show [Value.int .u8 44] = byteCells [44] from rfl, ← byteCells_append] at h1
          have HM1 : Hid (IsBuilderF 67 5 w.heap.size w.heap.size _ W0) := .inr h1
          have HM2 := hidIt (k1.iter HIT3.out (by omega))
          have HM3 := hidIt (HBW3.out.trans b1)
          have hszW : w.heap.size ≤ W0.heap.size := HM3.out.size
          clear h1 b1 k1
          go_wp2_with fail
          refine (Tryd.Builder_WriteRune_k w.heap.size w.heap.size _ _ (by omega) (by omega) _ HM1.out (by rw [byteCells_length]; exact HLn2.out) hszW).mono ?_
          rintro e W1 ⟨rfl, h1, b1, k1⟩
          rw [rune_ascii c ha, ← byteCells_append, List.append_assoc, List.append_assoc, ← List.append_assoc (pre _ _), ← HP.out] at h1
          have HN1 := hidIt h1
          have HN2 := hidIt (k1.iter HM2.out (by omega))
          have HN3 := hidIt (HM3.out.trans b1)
          have HN4 := hidIt hit
          clear h1 b1 k1
          go_wp2
          go_roundw
          case rel => exact ⟨pos + 1, .inr HN1.out, HN2.out, HN3.out, by omega⟩
          case measure =>
            simp only [World.iterPos, HN2.out, HN4.out]
            omega
        · have c2 : ¬ ((s.size : Int) - pos) % 3 = 0 := by omega
          have HP : Hid (pre (decDigits (u / 100)) (pos + 1) = pre (decDigits (u / 100)) pos ++ [c]) := pre_plain _ _ _ hget (fun h => h3 (by rw [← HLen.out]; exact h.2))
          go_wp2_with fail
          refine (Tryd.Builder_WriteRune_k w.heap.size w.heap.size _ _ (by omega) (by omega) _ HI3.out (by rw [byteCells_length]; exact HLn.out) hsz3).mono ?_
          rintro e W1 ⟨rfl, h1, b1, k1⟩
          rw [rune_ascii c ha, ← byteCells_append, List.append_assoc, ← HP.out] at h1
          have HN1 := hidIt h1
          have HN2 := hidIt (k1.iter HIT3.out (by omega))
          have HN3 := hidIt (HBW3.out.trans b1)
          have HN4 := hidIt hit
          clear h1 b1 k1
          go_wp2
          go_roundw
          case rel => exact ⟨pos + 1, .inr HN1.out, HN2.out, HN3.out, by omega⟩
          case measure =>
            simp only [World.iterPos, HN2.out, HN4.out]
            omega
      · have c1 : decide ((0 : Int) < pos) = false := by simp; omega
        have HP : Hid (pre (decDigits (u / 100)) (pos + 1) = pre (decDigits (u / 100)) pos ++ [c]) := pre_plain _ _ _ hget (fun h => h0 h.1)
        go_wp2_with fail
        refine (Tryd.Builder_WriteRune_k w.heap.size w.heap.size _ _ (by omega) (by omega) _ HI3.out (by rw [byteCells_length]; exact HLn.out) hsz3).mono ?_
        rintro e W1 ⟨rfl, h1, b1, k1⟩
        rw [rune_ascii c ha, ← byteCells_append, List.append_assoc, ← HP.out] at h1
        have HN1 := hidIt h1
        have HN2 := hidIt (k1.iter HIT3.out (by omega))
        have HN3 := hidIt (HBW3.out.trans b1)
        have HN4 := hidIt hit
        clear h1 b1 k1
        go_wp2
        go_roundw
        case rel => exact ⟨pos + 1, .inr HN1.out, HN2.out, HN3.out, by omega⟩
        case measure =>
          simp only [World.iterPos, HN2.out, HN4.out]
          omega
    · have hnx : ∀ ty, (Instr.next (.pointer (some ⟨w2.heap.size, 0, none⟩)) true ty).run Tryd.prog wr = _ := fun ty => Lib.run_next_end_at wr w2.heap.size s pos ty hit hp
      obtain rfl : pos = s.size := by omega
      have hlen := pre_len (decDigits (u / 100)) s.size
      have HLn : Hid (([45] ++ pre (decDigits (u / 100)) s.size).length ≤ 41) := by show _ ≤ _; simp; omega
      clear hlen
      go_wp2_with fail
      refine (Tryd.Builder_WriteByte_k w.heap.size w.heap.size _ 46 _ HI.out (by rw [byteCells_length]; have := HLn.out; omega) (by omega)).mono ?_
      rintro e W0 ⟨rfl, h1, b1, k1⟩
      rw [show [Value.int .u8 46] = byteCells [46] from rfl, ← byteCells_append] at h1
      have HM1 : Hid (IsBuilderF 67 5 w.heap.size w.heap.size _ W0) := .inr h1
      have HM3 := hidIt (HBW.out.trans b1)
      have hszW : w.heap.size ≤ W0.heap.size := HM3.out.size
      clear h1 b1 k1
      go_wp2_with fail
      refine (Tryd.Builder_WriteByte_k w.heap.size w.heap.size _ _ _ HM1.out (by rw [byteCells_length, List.length_append]; have := HLn.out; simp only [List.length_singleton]; omega) hszW).mono ?_
      rintro e Wa ⟨rfl, h1, b1, k1⟩
      rw [cell_dg1, ← byteCells_append] at h1
      have HP1 : Hid (IsBuilderF 67 5 w.heap.size w.heap.size _ Wa) := .inr h1
      have HP3 := hidIt (HM3.out.trans b1)
      have hszA : w.heap.size ≤ Wa.heap.size := HP3.out.size
      clear h1 b1 k1
      go_wp2_with fail
      refine (Tryd.Builder_WriteByte_k w.heap.size w.heap.size _ _ _ HP1.out (by rw [byteCells_length, List.length_append, List.length_append]; have := HLn.out; simp only [List.length_singleton]; omega) hszA).mono ?_
      rintro e Wb ⟨rfl, h1, b1, k1⟩
      rw [cell_dg0, ← byteCells_append, List.append_assoc, List.append_assoc, List.append_assoc, HSN.out] at h1
      have h2 : IsBuilderF 67 5 w.heap.size w.heap.size (byteCells ([45] ++ txt u)) Wb := by
        rw [← pre_txt u]; exact .inr h1
      have HQ1 := hidIt h2
      have HQ3 := hidIt (HP3.out.trans b1)
      have hszB : w.heap.size ≤ Wb.heap.size := HQ3.out.size
      clear h1 b1 k1 h2
      go_wp2_with fail
      refine (Tryd.Builder_String_any_k w.heap.size w.heap.size ([45] ++ txt u) _ HQ1.out hszB).mono ?_
      rintro e Wc ⟨rfl, _, b1, _⟩
      go_wp2
      go_ret
      exact ⟨rfl, HQ3.out.trans b1⟩
end Go.Proofs.YtagkplcomhomcaaDoor
