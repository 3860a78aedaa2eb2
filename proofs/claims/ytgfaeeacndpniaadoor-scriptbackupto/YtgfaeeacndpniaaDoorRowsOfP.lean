/-
  Package script: rowsOf.
-/
import Derived.Test.YtgfaeeacndpniaaDoorTakeP
import Derived.Lib.Split
import Derived.Lib.SplitLaws
namespace Go.Proofs.YtgfaeeacndpniaaDoor
open Go.RowKit Go.Extern.Stop Go.Stop Go.Extern

/-- A row of texts in memory. -/
def TextsAt (w : World) (lo : Nat) (a : Option Addr) (xs : List ByteArray) : Prop := ∀ i x, xs[i]? = some x → ∃ b o, a = some ⟨b, o, none⟩ ∧ lo ≤ b ∧ w.cell? ⟨b, o + i, none⟩ = some (.string x)
theorem splitB_rows (s : ByteArray) (h : s.size ≠ 0) : Lib.splitB ⟨#[10]⟩ 0 (Lib.countB ⟨(Lib.trimSuffix s.data.toList [10]).toArray⟩ ⟨#[10]⟩) ⟨(Lib.trimSuffix s.data.toList [10]).toArray⟩ = rowsB s := by
  have hl : bl s ≠ [] := fun e => h (by rw [← size_bl, e]; rfl)
  have h1 := Lib.splitB_data ⟨#[10]⟩ 0 (Lib.countB ⟨(Lib.trimSuffix s.data.toList [10]).toArray⟩ ⟨#[10]⟩) ⟨(Lib.trimSuffix s.data.toList [10]).toArray⟩
  have h2 : Lib.splitK [10] 0 (Lib.count (Lib.trimSuffix (bl s) [10]) [10]) (Lib.trimSuffix (bl s) [10]) = rowsL (bl s) := by
    rw [rowsL_split _ hl]
    exact spl_splitK _ _ (Nat.le_refl _)
  have h3 : (Lib.splitB ⟨#[10]⟩ 0 (Lib.countB ⟨(Lib.trimSuffix s.data.toList [10]).toArray⟩ ⟨#[10]⟩) ⟨(Lib.trimSuffix s.data.toList [10]).toArray⟩).map bl = rowsL (bl s) := by
    rw [← h2]
    exact h1
  unfold rowsB
  rw [← h3, List.map_map]
  conv => lhs; rw [← List.map_id (Lib.splitB _ _ _ _)]
  exact List.map_congr_left fun x _ => (ofL_bl x).symm
theorem texts_alloc (w : World) (xs : List ByteArray) (t : TypeId) : TextsAt (w.alloc (.cells (xs.map Value.string).toArray t)) w.heap.size (some ⟨w.heap.size, 0, none⟩) xs := by
  intro i x e
  refine ⟨w.heap.size, 0, rfl, Nat.le_refl _, ?_⟩
  rw [World.cell?_alloc_at _ _ _ _ rfl]
  simp [e]
theorem rowsOf_any (s : ByteArray) (hs : s.size ≤ 30000) (m : Int) (w : World) (hm : w.cell? ⟨5, 0, none⟩ = some (.int .i64 m)) :
    Calls Tryd.prog 25 #[.string s] w fun e w' => (∃ a c, e = .returned (.slice a (rowsB s).length c) ∧ TextsAt w' w.heap.size a (rowsB s)) ∧ Below w.heap.size w w' := by
  have hE := empty_is s
  by_cases h0 : s.size = 0
  · have HR := hidLL (rowsB_nil h0)
    rw [show decide (s.size = 0) = true by simpa using h0] at hE
    clear h0
    go_enter Tryd.func25, Tryd.ntmps25
    go_wp2
    go_ret
    exact ⟨⟨none, 0, by rw [HR.out]; rfl, by rw [HR.out]; intro i x e; cases e⟩, Below.refl _ _⟩
  · rw [show decide (s.size = 0) = false by simpa using h0] at hE
    have HT := hidLL (fun w => Go.Proofs.Tryd.strings_TrimSuffix s ⟨#[10]⟩ w (by omega))
    have hsz : (Lib.trimSuffix s.data.toList [10]).length ≤ s.size := by
      have e : s.data.toList.length = s.size := by simp
      unfold Lib.trimSuffix
      split
      · rw [List.length_take]; omega
      · omega
    have h2 := Go.Proofs.Tryd.strings_Split ⟨(Lib.trimSuffix s.data.toList [10]).toArray⟩ ⟨#[10]⟩ m w (by show (Lib.trimSuffix s.data.toList [10]).toArray.size < _; rw [List.size_toArray]; omega) hm (by decide)
    have hl := Lib.splitB_all ⟨#[10]⟩ (by decide) 0 _ ⟨(Lib.trimSuffix s.data.toList [10]).toArray⟩ rfl
    rw [← hl, splitB_rows s h0] at h2
    have HSp := hidLL h2
    have HT2 : Hid (∀ w, Calls Tryd.prog 39 #[.string s, .string ⟨#[10]⟩] w fun e w' => e = .returned (.string ⟨(Lib.trimSuffix s.data.toList [10]).toArray⟩) ∧ w' = w) := HT.out
    have HA := hidLL (texts_alloc w (rowsB s) 9)
    clear h2 hl hsz h0 HT
    generalize (⟨(Lib.trimSuffix s.data.toList [10]).toArray⟩ : ByteArray) = t at *
    generalize rowsB s = rows at *
    go_enter Tryd.func25, Tryd.ntmps25
    go_wp2_with fail
    refine (HT2.out _).mono ?_
    rintro e w1 ⟨rfl, ew⟩
    subst w1
    go_wp2_with fail
    refine HSp.out.mono ?_
    rintro e w1 ⟨rfl, ew⟩
    subst w1
    go_wp2
    go_ret
    exact ⟨⟨_, _, rfl, HA.out⟩, (Below.refl _ _).alloc (Nat.le_refl _) _⟩
end Go.Proofs.YtgfaeeacndpniaaDoor
