/-
  Ledgers, the program: New, Accounts.
-/
import Derived.Test.YtdeccdmplmclmaaGreatDoorLkBal
import Derived.Sort.KeysCollected
namespace Go.Proofs.YtdeccdmplmclmaaGreatDoor
open Go.RowKit Go.Extern.Stop Go.Stop Go.Extern

def strE : Enc ByteArray := ⟨fun a => [.string a], 1, by omega, fun _ => rfl, fun x u h => by
  obtain rfl : u = .string x := by simpa using h
  rfl⟩
theorem strE_all : ∀ l : List (List UInt8), strE.all (l.map fun x => (⟨x.toArray⟩ : ByteArray)) = l.map encStr
  | [] => rfl
  | x :: l => by rw [List.map_cons, List.map_cons, strE.all_cons, strE_all l]; rfl
/-- The accounts of a ledger, sorted. -/
structure NamesOf (N : List ByteArray) (L : List En) : Prop where
  mem : ∀ a, a ∈ N ↔ hasL a L = true
  up : N.Pairwise fun a b => a.data.toList < b.data.toList
theorem NamesOf.nil : NamesOf [] [] := ⟨fun a => by simp [hasL], List.Pairwise.nil⟩
theorem le_ne_lt {a b : List UInt8} (h : a ≤ b) (hne : a ≠ b) : a < b := by
  rcases Decidable.em (a < b) with h1 | h1
  · exact h1
  · exact absurd (List.le_antisymm h (List.not_lt.1 h1)) hne
theorem names_of {w : World} {mb n : Nat} {D : DataW Unit} {L : List En} {ss : List (List UInt8)} (hM : MapI w mb n D) (hI : IsBal D L) (hp : ss.Perm (strKeys D)) : NamesOf ((ss.mergeSort (fun x y => decide (x ≤ y))).map fun x => (⟨x.toArray⟩ : ByteArray)) L := by
  obtain ⟨es, hD, hpw, _⟩ := hM.entries lawStr
  obtain ⟨es', hD', hko⟩ := hM.keysOf
  obtain rfl : es = es' := by rw [hD] at hD'; simpa using hD'
  subst hD
  have hks : ∀ p ∈ es, ∃ x, p.1 = .string x := fun p hp => by
    obtain ⟨v, hv⟩ := hko p hp
    obtain ⟨x, _, hx, _⟩ := Maps.keyOf_str Tryz.underlying9 hv
    exact ⟨x, hx⟩
  have hnd : (strKeys (.map es)).Nodup := by
    show (es.map fun p => strOf p.1).Nodup
    refine List.pairwise_map.2 (hpw.imp_of_mem fun {p q} hp' hq' hne e => hne ?_)
    obtain ⟨a, ha⟩ := hks p hp'
    obtain ⟨b, hb⟩ := hks q hq'
    rw [ha, hb] at e ⊢
    exact congrArg _ e
  have hmem : ∀ x, x ∈ strKeys (.map es) ↔ Maps.has (.map es) (.string x) = true := fun x => by
    rw [Maps.has_eq, List.any_eq_true]
    show x ∈ es.map (fun p => strOf p.1) ↔ _
    rw [List.mem_map]
    constructor
    · rintro ⟨p, hp', rfl⟩
      obtain ⟨a, ha⟩ := hks p hp'
      exact ⟨p, hp', by rw [ha]; simp [Lit.sameKey, strOf]⟩
    · rintro ⟨p, hp', hs⟩
      obtain ⟨a, ha⟩ := hks p hp'
      rw [ha] at hs
      exact ⟨p, hp', by rw [ha]; simpa [Lit.sameKey, strOf] using hs⟩
  have hpm := (List.mergeSort_perm ss (fun x y => decide (x ≤ y))).trans hp
  refine ⟨fun a => ?_, ?_⟩
  · rw [← hI.has a, List.mem_map]
    show _ ↔ Maps.has (.map es) (.string a.data.toList) = true
    rw [← hmem a.data.toList]
    constructor
    · rintro ⟨x, hx, rfl⟩
      simpa using hpm.mem_iff.1 hx
    · intro h
      exact ⟨a.data.toList, hpm.mem_iff.2 h, by simp⟩
  · refine List.pairwise_map.2 ?_
    have h1 : (ss.mergeSort (fun x y => decide (x ≤ y))).Pairwise fun a b => decide (a ≤ b) = true := List.pairwise_mergeSort (fun a b c h1 h2 => by simp only [decide_eq_true_eq] at *; exact List.le_trans h1 h2) (fun a b => by simp only [Bool.or_eq_true, decide_eq_true_eq]; exact List.le_total a b) ss
    have h2 : (ss.mergeSort (fun x y => decide (x ≤ y))).Nodup := hpm.nodup_iff.2 hnd
    refine (h1.and h2).imp fun {a b} h => ?_
    simp only [decide_eq_true_eq] at h
    exact le_ne_lt h.1 h.2
theorem new_p {w : World} : Calls Tryz.prog 4 #[] w fun e w' => e = .returned (.pointer (some ⟨w.heap.size, 0, none⟩)) ∧ w' = w.alloc (.cells #[.slice none 0 0, .map none] 53) := by
  go_enter Tryz.func4, Tryz.ntmps4
  go_wp2
  go_ret
  exact ⟨rfl, rfl⟩
theorem LG.new (w : World) : LG (w.alloc (.cells #[.slice none 0 0, .map none] 53)) w.heap.size w.heap.size (.slice none 0 0) (.map none) [] :=
  ⟨Go.Deep.blk_alloc_new w _, Nat.le_refl _, ERow.nil _ _ _ _, .inl ⟨rfl, rfl⟩⟩
/-- What Accounts answers. -/
def AccR (w : World) (L : List En) (e : Ending) (w' : World) : Prop := (∃ a m c N, e = .returned (.slice a m c) ∧ RowG strE 9 w' w.heap.size (.slice a m c) N ∧ NamesOf N L ∧ N.length ≤ 16000) ∧ Below w.heap.size w w'
theorem acc_row {w : World} {B n : Nat} {v : Value} {ss : List (List UInt8)} (h : w.ownsRow B 9 1 v ss.length ((ss.mergeSort (fun x y => decide (x ≤ y))).map encStr)) (hl : ss.length ≤ 16000) (hB : n ≤ B) : ∃ a m c, v = .slice a m c ∧ RowG strE 9 w n (.slice a m c) ((ss.mergeSort (fun x y => decide (x ≤ y))).map fun x => (⟨x.toArray⟩ : ByteArray)) := by
  have h1 : RowG strE 9 w B v ((ss.mergeSort (fun x y => decide (x ≤ y))).map fun x => (⟨x.toArray⟩ : ByteArray)) := by
    refine ⟨?_, by rw [List.length_map, List.length_mergeSort]; omega⟩
    rw [List.length_map, List.length_mergeSort, strE_all]
    exact h
  obtain ⟨a, m, c, rfl, _⟩ := h1.any3
  exact ⟨a, m, c, rfl, h1.mono hB⟩
set_option maxHeartbeats 4000000 in
set_option maxRecDepth 10000 in
theorem accounts_p {gb B : Nat} {v mv : Value} {L : List En} {w : World} (hG : LG w gb B v mv L) (hL : Good L) : Calls Tryz.prog 11 #[.pointer (some ⟨gb, 0, none⟩)] w (AccR w L) := by
  have c1 := hG.c1
  have hlen := hL.len
  rcases hG.map with ⟨rfl, hL0⟩ | ⟨mb, n, D, rfl, _, hM, hn, hI⟩
  · have HK := hidLL (callsIn_wide.1 (Tryz.maps_Keys_L none w))
    have HS := hidLL (callsIn_wide.1 (Tryz.slices_Sorted_keys_nil_L w))
    have HL0 := hidLL hL0
    clear hG hL hL0 hlen
    go_enter Tryz.func11, Tryz.ntmps11
    go_wp2_with fail
    refine HK.out.mono ?_
    rintro e w1 ⟨rfl, ew⟩
    subst w1
    go_wp2_with fail
    refine HS.out.mono ?_
    rintro e w2 ⟨v2, ss, rfl, hss, hr, _, hb⟩
    obtain ⟨xa, xm, xc, rfl, hrow⟩ := acc_row (n := w.heap.size) hr (by rw [hss]; simp) (by simp)
    have HR := hidLL (And.intro hrow hb)
    have HSs := hidLL hss
    clear hr hb hrow hss
    go_wp2
    go_ret
    refine ⟨⟨_, _, _, _, rfl, HR.out.1, ?_, ?_⟩, (bel1 w _).trans (HR.out.2.mono (by simp))⟩
    · rw [HSs.out, HL0.out, List.mergeSort_nil]
      exact NamesOf.nil
    · rw [HSs.out]
      simp
  · have hsz := hM.size_le
    have HK := hidLL (callsIn_wide.1 (Tryz.maps_Keys_L (some mb) w))
    have HS := hidLL (callsIn_wide.1 (Tryz.slices_Sorted_keys_L mb n D _ w hM (by unfold maxLen; omega) (by omega)))
    have HM := hidLL (And.intro hM hI)
    have hlk : (strKeys D).length ≤ 16000 := by
      have : (strKeys D).length = Maps.size D := by
        obtain ⟨es, rfl, _⟩ := hM.entries lawStr
        show (es.map _).length = _
        rw [List.length_map]
        rfl
      omega
    have HLk := hidLL hlk
    clear hG hL hlen hM hI hlk hsz hn
    go_enter Tryz.func11, Tryz.ntmps11
    go_wp2_with fail
    refine HK.out.mono ?_
    rintro e w1 ⟨rfl, ew⟩
    subst w1
    go_wp2_with fail
    refine HS.out.mono ?_
    rintro e w2 ⟨v2, ss, rfl, hss, hr, _, hb⟩
    have hl16 : ss.length ≤ 16000 := by rw [hss.length_eq]; exact HLk.out
    obtain ⟨xa, xm, xc, rfl, hrow⟩ := acc_row (n := w.heap.size) hr hl16 (by simp)
    have HR := hidLL (And.intro hrow (And.intro hb hl16))
    have HSs := hidLL hss
    clear hr hb hrow hss hl16
    go_wp2
    go_ret
    exact ⟨⟨_, _, _, _, rfl, HR.out.1, names_of HM.out.1 HM.out.2 HSs.out, by rw [List.length_map, List.length_mergeSort]; exact HR.out.2.2⟩, (bel1 w _).trans (HR.out.2.1.mono (by simp))⟩
end Go.Proofs.YtdeccdmplmclmaaGreatDoor
