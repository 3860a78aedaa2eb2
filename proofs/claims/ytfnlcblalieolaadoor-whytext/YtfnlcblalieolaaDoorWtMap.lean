/-
  Package why: names and their numbers, in a map: literalsOf.
-/
import Derived.Test.YtfnlcblalieolaaDoorWtText
import Derived.Maps.OwnSet
import Derived.Maps.Ext
namespace Go.Proofs.YtfnlcblalieolaaDoor
open Go.RowKit Go.Maps

/-- The number of a name and one (of more the last one's); none: 0. -/
def numOf : List ByteArray → ByteArray → Nat
  | [], _ => 0
  | x :: l, s => if numOf l s = 0 then (if x = s then 1 else 0) else numOf l s + 1
theorem numOf_snoc : ∀ (l : List ByteArray) (x s : ByteArray), numOf (l ++ [x]) s = if x = s then l.length + 1 else numOf l s
  | [], x, s => by
    show (if (0 : Nat) = 0 then (if x = s then 1 else 0) else 0 + 1) = (if x = s then 0 + 1 else 0)
    rw [if_pos rfl]
  | y :: l, x, s => by
    rw [List.cons_append]
    unfold numOf
    rw [numOf_snoc l x s]
    by_cases h : x = s
    · rw [if_pos h, if_pos h, if_neg (by omega)]; simp
    · rw [if_neg h, if_neg h]
theorem numOf_le : ∀ (l : List ByteArray) (s : ByteArray), numOf l s ≤ l.length
  | [], _ => Nat.le_refl _
  | x :: l, s => by
    unfold numOf
    have := numOf_le l s
    rw [List.length_cons]
    split
    · split <;> omega
    · omega
theorem lawStr : Keyed Tryd.prog 9 := string_keyed Tryd.underlying9
theorem keyStr (s : ByteArray) (h : s.size ≤ 1000000) : ∃ kl, keyOf Tryd.prog 9 (.string s) = some kl := by
  refine ⟨.string s.data.toList, ?_⟩
  have h2 : s.size ≤ maxLen := by unfold maxLen; omega
  unfold keyOf
  simp only [Tryd.underlying9]
  simp [mapKey, Tryd.underlying9, h2]
/-- The map holds under each name its number and one. -/
structure LMap {H : Type} (D : DataW H) (nm : List ByteArray) : Prop where
  is : IsMap D
  at' : ∀ s kl, keyOf Tryd.prog 9 (.string s) = some kl → D.atKey kl (.lit (.int .i64 0)) = .lit (.int .i64 (numOf nm s))
theorem LMap.start {H : Type} : LMap (.map [] : DataW H) [] := ⟨isMap_empty, fun _ _ _ => rfl⟩
set_option maxRecDepth 100000 in
theorem LMap.put {H : Type} {D : DataW H} {nm : List ByteArray} (h : LMap D nm) {x : ByteArray} {kl : Lit} (hk : keyOf Tryd.prog 9 (.string x) = some kl) : LMap (D.put kl (.lit (.int .i64 ((nm.length : Int) + 1)))) (nm ++ [x]) := by
  refine ⟨h.is.put _ _, fun s sl hs => ?_⟩
  rw [numOf_snoc]
  by_cases e : x = s
  · subst e
    rw [hk] at hs
    injection hs with hs
    subst hs
    rw [atKey_put_same h.is (lawStr.key hk), if_pos rfl]
    rfl
  · have hne : sl ≠ kl := fun e2 => by
      rw [e2] at hs
      have h9 := lawStr.inj hs hk
      injection h9 with h9
      exact e h9.symm
    rw [atKey_put_other hne, h.at' s sl hs, if_neg e]
/-- What literalsOf answers. -/
def LitR (nm : List ByteArray) (w : World) (e : Ending) (w' : World) : Prop :=
  ∃ (b : Nat) (D : DataW Unit), e = .returned (.map (some b)) ∧ w.heap.size ≤ b ∧ LMap D nm ∧ (∃ m, w'.ownsMap Tryd.prog 9 (plainElem Tryd.prog 3) b m D) ∧ Below w.heap.size w w'
set_option maxHeartbeats 2000000 in
set_option maxRecDepth 100000 in
theorem literalsOf_p {w : World} {B : Nat} {na : Option Addr} {n nc : Nat} {nm : List ByteArray} (hN : NRd w B (.slice na n nc) nm) (hB : B ≤ w.heap.size) (hn : n = nm.length) (hfew : n ≤ 1000) (hsz : ∀ s, s ∈ nm → s.size ≤ 24) : Calls Tryd.prog 17 #[.slice na n nc] w (LitR nm w) := by
  have hmm := @run_makeMap Tryd.prog
  have HN := hidLL (And.intro hN (And.intro hn hB))
  have HSZ := hidLL hsz
  have hm0 := World.ownsMap_made w Tryd.prog 9 (plainElem (H := Unit) Tryd.prog 3)
  have HM0 := hidLL hm0
  clear hN hn hB hm0 hsz
  go_enter Tryd.func17, Tryd.ntmps17
  go_wp2_with fail
  clear hmm
  go_loopw [9] (fun t wr => ∃ (j : Nat) (D : DataW Unit), j ≤ n ∧ t = .int .i64 j ∧ wr.ownsMap Tryd.prog 9 (plainElem Tryd.prog 3) w.heap.size j D ∧ LMap D (nm.take j) ∧ Below w.heap.size w wr) (fun t _ => n - (RowKit.intOf t).toNat)
  case atStart => exact ⟨0, .map [], by omega, rfl, HM0.out, by rw [List.take_zero]; exact LMap.start, (Below.refl _ _).alloc (Nat.le_refl _) _⟩
  case round =>
    obtain ⟨j, D, hj, rfl, hown, hL, hbel⟩ := hrel
    obtain ⟨w3, hw3⟩ : ∃ w3 : World, w3 = wr := ⟨_, rfl⟩
    subst hw3
    by_cases hlt : j < n
    · have hjz : (j : Int) < n := by omega
      obtain ⟨x, hx⟩ : ∃ x, nm[j]? = some x := ⟨_, List.getElem?_eq_getElem (by have := HN.out.2.1; omega)⟩
      obtain ⟨g, o, ea, hgB, hc⟩ := (HN.out.1.on fun k hk => hbel.block k (by have := HN.out.2.2; omega)).at hx
      obtain ⟨kl, hkl⟩ := keyStr x (by have := HSZ.out x (List.mem_of_getElem? hx); omega)
      have htk : nm.take (j + 1) = nm.take j ++ [x] := by
        obtain ⟨h9, e9⟩ := List.getElem?_eq_some_iff.1 hx
        rw [List.take_succ_eq_append_getElem h9, e9]
      have hlt2 : ((nm.take j).length : Int) = (j : Int) := by
        rw [List.length_take]
        have := HN.out.2.1
        omega
      have HL := hidLL (And.intro hL (And.intro hbel (And.intro htk hlt2)))
      have hmx : j < maxLen := by unfold maxLen; omega
      have hwv : (Lit.int .i64 ((j : Int) + 1)).wf = true := by simp [Lit.wf, IntKind.min, IntKind.max, IntKind.bits, IntKind.signed]; omega
      have hw1 : IntKind.i64.wrap ((j : Int) + 1) = (j : Int) + 1 := by rw [IntKind.wrap_i64]; omega
      subst ea
      clear hL hbel htk hlt2 hx
      go_wp2_with (first
        | (at_mapUpdate; refine wpList_mapUpdate_own _ rfl _ _ _ 53 rfl 9 3 lawStr Tryd.underlying53 (plainElem (H := Unit) Tryd.prog 3) w.heap.size j D rfl hown hmx (.string x) (.int .i64 ((j : Int) + 1)) kl rfl rfl hkl _ [] (plainElem_int Tryd.underlying3 hwv) ?_; intro w9 hown9 hgrow9)
        | go_in)
      go_roundw
      case rel =>
        refine ⟨j + 1, _, by omega, by go_num, hown9, ?_, HL.out.2.1.grown hgrow9 HL.out.2.1.size (fun k e => by injection e with e; omega)⟩
        rw [HL.out.2.2.1]
        have h9 := HL.out.1.put hkl
        rw [HL.out.2.2.2] at h9
        exact h9
      case measure => simp [RowKit.intOf]; omega
    · obtain rfl : j = n := by omega
      have hge : ¬ (j : Int) < j := by omega
      have HE := hidLL (And.intro hown (And.intro hL hbel))
      clear hown hL hbel
      go_wp2
      go_ret
      have hL := HE.out.2.1
      rw [List.take_of_length_le (by rw [HN.out.2.1]; exact Nat.le_refl _)] at hL
      exact ⟨_, D, rfl, Nat.le_refl _, hL, ⟨_, HE.out.1⟩, HE.out.2.2⟩
end Go.Proofs.YtfnlcblalieolaaDoor
