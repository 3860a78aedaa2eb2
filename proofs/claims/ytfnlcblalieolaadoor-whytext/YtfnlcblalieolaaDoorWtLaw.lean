/-
  WhyText, walked.
-/
import Derived.Test.YtfnlcblalieolaaDoorWtBack
import Derived.Test.YtfnlcblalieolaaDoorWtSteps
import Derived.Test.YtfnlcblalieolaaDoorWtText2
import Derived.Test.YtfnlcblalieolaaDoorWtFault
namespace Go.Proofs.YtfnlcblalieolaaDoor
open Go.RowKit

theorem Laid.sentW {w : World} {p : Nat → Addr} (h : Laid w p) : SentW w p := ⟨h.cell 0 (by omega), h.cell 6 (by omega)⟩
/-- Read and ReadSteps tell the same: steps, and a code with its place. -/
def ReadU (p : Nat → Addr) (xs : List Clm) (fc fa : Int) (w : World) (e : Ending) (w' : World) : Prop := ∃ a n c er, e = .returned (.tuple #[.slice a n c, er]) ∧ n = xs.length ∧ SRd w' w'.heap.size (.slice a n c) xs ∧ Below w.heap.size w w' ∧
  ∀ W, Below w'.heap.size w' W → Laid W p → Calls Tryd.prog 10 #[er] W fun e w'' => e = .returned (.tuple #[.int .i64 fc, .int .i64 fa]) ∧ Below W.heap.size W w''
def RStU (xs : List Clm) (fc fa : Int) (w : World) (e : Ending) (w' : World) : Prop := ∃ a n c, e = .returned (.tuple #[.slice a n c, .agg #[.int .i64 fc, .int .i64 fa]]) ∧ n = xs.length ∧ SRd w' w'.heap.size (.slice a n c) xs ∧ Below w.heap.size w w'
theorem srd_none (w : World) (B : Nat) : SRd w B (.slice none 0 0) [] := ⟨none, 0, rfl, by simp, fun j x h => by simp at h⟩
theorem row_k {nm : List ByteArray} {r : List UInt8} {k : Nat} (h : rowR nm r 4 0 = .inl k) : k < 11 := by
  by_cases hn : ∀ j, j < 4 → Lib.hasPrefix r (bl (wd j)) = false
  · rw [rowR_none nm r hn] at h
    injection h with h
    omega
  · obtain ⟨j, hj⟩ := Classical.not_forall.1 hn
    obtain ⟨hj4, hp⟩ := Classical.not_imp.1 hj
    have hp : Lib.hasPrefix r (bl (wd j)) = true := by simpa using hp
    rw [rowR_some nm r hj4 hp] at h
    unfold nameR at h
    split at h
    · injection h with h
      omega
    · cases h
theorem stepsO_k (nm : List ByteArray) : ∀ (l : List (List UInt8)) (q : Nat × Nat), stepsO nm l = .inr q → q.2 < 11
  | [], q, h => by cases h
  | x :: l, q, h => by
    simp only [stepsO] at h
    split at h
    · rename_i k hk
      injection h with h
      subst h
      exact row_k hk
    · split at h
      · cases h
      · rename_i q' hq
        injection h with h
        subst h
        exact stepsO_k nm l q' hq
theorem both_read {w : World} {p : Nat → Addr} (L : Laid w p) {na : Option Addr} {n nc : Nat} {nm : List ByteArray} (hN : NRd w w.heap.size (.slice na n nc) nm) (hn : n = nm.length) (hW : Wordy nm) (s : ByteArray) (hs : s.size ≤ 30000) : ∃ xs fc fa, (0 ≤ fc) ∧
    (∀ W, Below w.heap.size w W → Calls Tryd.prog 8 #[.string s, .slice na n nc] W (ReadU p xs fc fa W)) ∧ (∀ W, Below w.heap.size w W → Calls Tryd.prog 9 #[.string s, .slice na n nc] W (RStU xs fc fa W)) ∧ (∀ l, stepsO nm (rowsA [] (bl s)) = .inl l → xs = l ∧ fc = 0) := by
  have hfew := hW.few
  have e0 : stepsR nm (linesB (bl s)) = stepsO nm (rowsA [] (bl s)) := by rw [rowsA_lines (bl s).length (bl s) (Nat.le_refl _), stepsO_lines]
  have hR : ∀ W, Below w.heap.size w W → Calls Tryd.prog 8 #[.string s, .slice na n nc] W (ReadA p (stepsO nm (rowsA [] (bl s))) W) := fun W hb => by
    have := read_p (L.below hb).sentW (hN.on hb.block) hb.size hn (by omega) (fun x hx => (hW.sz x hx).2) (bl s) (by rw [size_bl]; exact hs)
    rw [toA_bl, e0] at this
    exact this
  have hQ : ∀ W, Below w.heap.size w W → Calls Tryd.prog 9 #[.string s, .slice na n nc] W (RStA (stepsO nm (rowsA [] (bl s))) W) := fun W hb => readSteps_r (hN.on hb.block) hb.size hn (by omega) hW.nd s hs
  cases hst : stepsO nm (rowsA [] (bl s)) with
  | inl l =>
    rw [hst] at hR hQ
    refine ⟨l, 0, -1, by omega, fun W hb => (hR W hb).mono ?_, fun W hb => (hQ W hb).mono ?_, fun l' h => ?_⟩
    · rintro e w' ⟨a, m, c, rfl, hm, hrd, hbl⟩
      refine ⟨a, m, c, .nilIface, rfl, hm, hrd, hbl, fun W2 _ _ => (code_nil W2).mono ?_⟩
      rintro e w2 ⟨rfl, rfl⟩
      exact ⟨rfl, Below.refl _ _⟩
    · rintro e w' ⟨a, m, c, rfl, hm, hrd, hbl⟩
      exact ⟨a, m, c, rfl, hm, hrd, hbl⟩
    · injection h with h
      exact ⟨h, rfl⟩
  | inr q =>
    have hk := stepsO_k nm _ q hst
    rw [hst] at hR hQ
    refine ⟨[], (q.2 : Int) + 1, q.1, by omega, fun W hb => (hR W hb).mono ?_, fun W hb => (hQ W hb).mono ?_, fun l' h => by cases h⟩
    · rintro e w' ⟨fb, rfl, h0, h1, hbl⟩
      refine ⟨_, _, _, _, rfl, rfl, srd_none _ _, hbl, fun W2 hb2 L2 => ?_⟩
      have hlt := cell_lt h0
      exact code_fault q.2 hk p fb q.1 W2 L2 ((hb2.cell (p := ⟨fb, 0, none⟩) hlt).trans h0) ((hb2.cell (p := ⟨fb, 0 + 1, none⟩) hlt).trans h1)
    · rintro e w' ⟨rfl, hbl⟩
      exact ⟨_, _, _, rfl, rfl, srd_none _ _, hbl⟩
/-- The package is alive. -/
theorem first_w (w : World) : Calls Tryd.prog 4 #[.slice (some ⟨w.heap.size, 0, none⟩) 1 1, .slice (some ⟨w.heap.size + 1, 0, none⟩) 1 1] ((w.alloc (.cells #[.bool false, .bool true, .int .i64 (-1)] 26)).alloc (.cells #[.string ⟨#[97]⟩] 9)) fun e w' => e = .returned (.string ⟨#[104, 111, 108, 100, 115, 32, 110, 111, 116, 32, 97, 10]⟩) ∧ Below w.heap.size w w' := by
  have hb : Below w.heap.size w ((w.alloc (.cells #[.bool false, .bool true, .int .i64 (-1)] 26)).alloc (.cells #[.string ⟨#[97]⟩] 9)) := ((Below.refl _ _).alloc (Nat.le_refl _) _).alloc (by simp) _
  have h1 : ((w.alloc (.cells #[.bool false, .bool true, .int .i64 (-1)] 26)).alloc (.cells #[.string ⟨#[97]⟩] 9)).heap[w.heap.size]? = some (.cells #[.bool false, .bool true, .int .i64 (-1)] 26 (0, 0)) := (Below.heap_alloc _ _ _ (by simp)).trans (World.alloc_heap_new w _)
  have h2 : ((w.alloc (.cells #[.bool false, .bool true, .int .i64 (-1)] 26)).alloc (.cells #[.string ⟨#[97]⟩] 9)).heap[w.heap.size + 1]? = some (.cells #[.string ⟨#[97]⟩] 9 (0, 0)) := by
    have := World.alloc_heap_new (w.alloc (.cells #[.bool false, .bool true, .int .i64 (-1)] 26)) (.cells #[.string ⟨#[97]⟩] 9)
    simpa using this
  have hs : ((w.alloc (.cells #[.bool false, .bool true, .int .i64 (-1)] 26)).alloc (.cells #[.string ⟨#[97]⟩] 9)).heap.size = w.heap.size + 2 := by simp
  generalize (w.alloc (.cells #[.bool false, .bool true, .int .i64 (-1)] 26)).alloc (.cells #[.string ⟨#[97]⟩] 9) = V at *
  have hS : SRd V V.heap.size (.slice (some ⟨w.heap.size, 0, none⟩) 1 1) [(false, true, -1)] := by
    refine ⟨_, _, rfl, by decide, fun j x hj => ?_⟩
    match j, hj with
    | 0, hj =>
      obtain rfl : (false, true, (-1 : Int)) = x := by simpa using hj
      exact ⟨w.heap.size, 0, rfl, by omega, by simp [World.cell?, h1], by simp [World.cell?, h1], by simp [World.cell?, h1]⟩
  have hN : NRd V V.heap.size (.slice (some ⟨w.heap.size + 1, 0, none⟩) 1 1) [⟨#[97]⟩] := by
    refine ⟨_, _, rfl, by decide, fun j x hj => ?_⟩
    match j, hj with
    | 0, hj =>
      obtain rfl : (⟨#[97]⟩ : ByteArray) = x := by simpa using hj
      exact ⟨w.heap.size + 1, 0, rfl, by omega, by simp [World.cell?, h2]⟩
  refine (text_p hS hN (Nat.le_refl _) rfl rfl (by omega) (by omega) (fun s hs => by rw [List.mem_singleton.1 hs]; decide) (fun x hx => by rw [List.mem_singleton.1 hx]; exact ⟨by decide, by decide⟩)).mono ?_
  rintro e w' ⟨rfl, hb'⟩
  refine ⟨?_, hb.trans (hb'.mono (by omega))⟩
  rfl
end Go.Proofs.YtfnlcblalieolaaDoor
