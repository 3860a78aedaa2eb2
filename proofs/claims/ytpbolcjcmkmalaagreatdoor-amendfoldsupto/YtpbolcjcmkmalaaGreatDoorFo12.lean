/-
  Changes of laws: what stands at a path, the law with another provision there. Plain.
-/
import Derived.Test.YtpbolcjcmkmalaaGreatDoorFo10
import Derived.Test.YtpbolcjcmkmalaaGreatDoorFo11
import Derived.Test.YtpbolcjcmkmalaaGreatDoorFo08
import Derived.Test.YtpbolcjcmkmalaaGreatDoorFo09
namespace Go.Proofs.YtpbolcjcmkmalaaGreatDoor
open Go.RowKit Go.Extern.Stop Go.Stop Go.Extern

def isL (s : ByteArray) (t : It) : Bool := t.label.toList == s.toList
/-- The first kid with a label. -/
def kidIx (l : List It) (s : ByteArray) : Option Nat := l.findIdx? (isL s)
theorem kidIx_some {l : List It} {s : ByteArray} {i : Nat} (h : kidIx l s = some i) : ∃ x, l[i]? = some x ∧ isL s x = true ∧ ∀ j y, j < i → l[j]? = some y → isL s y = false := by
  unfold kidIx at h
  rw [List.findIdx?_eq_some_iff_getElem] at h
  obtain ⟨hi, h1, h2⟩ := h
  refine ⟨l[i], List.getElem?_eq_getElem hi, h1, fun j y hj hy => ?_⟩
  obtain ⟨hj', rfl⟩ := List.getElem?_eq_some_iff.1 hy
  have := h2 j hj
  simpa using this
theorem kidIx_of {l : List It} {s : ByteArray} {i : Nat} {x : It} (hx : l[i]? = some x) (h1 : isL s x = true) (h2 : ∀ j y, j < i → l[j]? = some y → isL s y = false) : kidIx l s = some i := by
  unfold kidIx
  rw [List.findIdx?_eq_some_iff_getElem]
  obtain ⟨hi, rfl⟩ := List.getElem?_eq_some_iff.1 hx
  refine ⟨hi, h1, fun j hj => ?_⟩
  have hjl : j < l.length := by omega
  have := h2 j (l[j]'hjl) hj (List.getElem?_eq_getElem hjl)
  simpa using this
theorem kidIx_none {l : List It} {s : ByteArray} (h : ∀ (j : Nat) y, l[j]? = some y → isL s y = false) : kidIx l s = none := by
  unfold kidIx
  rw [List.findIdx?_eq_none_iff]
  intro x hx
  obtain ⟨j, hj, rfl⟩ := List.mem_iff_getElem.1 hx
  exact h j _ (List.getElem?_eq_getElem hj)
/-- What stands at a way of labels. -/
def findW : It → List ByteArray → Option It
  | t, [] => some t
  | t, p :: r => match kidIx t.kids p with
    | none => none
    | some i => match t.kids[i]? with
      | none => none
      | some x => findW x r
/-- The law in which what stands at a way is other things. -/
def replW (x : List It) : List ByteArray → It → It
  | [], t => t
  | [p], t => It.mk t.label t.head t.lines (t.kids.flatMap fun k => if isL p k then x else [k])
  | p :: q :: r, t => It.mk t.label t.head t.lines (t.kids.flatMap fun k => if isL p k then [replW x (q :: r) k] else [k])
theorem findW_cons {t x : It} {p : ByteArray} {r : List ByteArray} {i : Nat} (h : kidIx t.kids p = some i) (hx : t.kids[i]? = some x) : findW t (p :: r) = findW x r := by
  rw [findW, h]
  show (match t.kids[i]? with | none => none | some x => findW x r) = _
  rw [hx]
theorem findW_no {t : It} {p : ByteArray} {r : List ByteArray} (h : kidIx t.kids p = none) : findW t (p :: r) = none := by
  rw [findW, h]
end Go.Proofs.YtpbolcjcmkmalaaGreatDoor
namespace Go.Proofs.YtpbolcjcmkmalaaGreatDoor
open Go.RowKit Go.Extern.Stop Go.Stop Go.Extern

theorem labelled1_any (a h s : ByteArray) (la ka : Option Addr) (n lc m kc : Nat) (bs : Nat) (w : World) (hs : w.cell? ⟨bs, 0, none⟩ = some (.string s)) :
    Calls Tryz.prog 122 #[.agg #[.string a, .string h, .slice la n lc, .slice ka m kc], .pointer (some ⟨bs, 0, none⟩)] w fun e w' => e = .returned (.bool (a.toList == s.toList)) ∧ w' = w.alloc (.cells #[.string a, .string h, .slice la n lc, .slice ka m kc] 25) := by
  have hl := World.block_lt_of_cell? w ⟨bs, 0, none⟩ hs
  have hs2 : (w.alloc (.cells #[.string a, .string h, .slice la n lc, .slice ka m kc] 25)).cell? ⟨bs, 0, none⟩ = some (.string s) := by
    rw [World.cell?_alloc_lt _ _ ⟨bs, 0, none⟩ hl]; exact hs
  go_enter Tryz.func122, Tryz.ntmps122
  go_wp2
  go_ret
  exact ⟨rfl, rfl⟩

set_option maxHeartbeats 1000000 in
theorem indexFunc_any (n : Nat) (ka : Option Addr) (kc : Nat) (L : Nat → ByteArray) (H : Nat → ByteArray) (la ma : Nat → Option Addr) (ln lc mn mc : Nat → Nat) (s : ByteArray) (bs : Nat) (w : World) (hn : n ≤ 100000) (hs : w.cell? ⟨bs, 0, none⟩ = some (.string s))
    (hk : ∀ i, i < n → ∃ b o, ka = some ⟨b, o, none⟩ ∧ w.cell? ⟨b, o + i * 4, none⟩ = some (.string (L i)) ∧ w.cell? ⟨b, o + i * 4 + 1, none⟩ = some (.string (H i)) ∧ w.cell? ⟨b, o + i * 4 + 2, none⟩ = some (.slice (la i) (ln i) (lc i)) ∧ w.cell? ⟨b, o + i * 4 + 3, none⟩ = some (.slice (ma i) (mn i) (mc i))) :
    Calls Tryz.prog 108 #[.slice ka n kc, .func (.func 122) #[] #[.pointer (some ⟨bs, 0, none⟩)]] w fun e w' => (∃ k : Int, e = .returned (.int .i64 k) ∧ -1 ≤ k ∧ (0 ≤ k ↔ ∃ i, i < n ∧ ((L i).toList == s.toList) = true)) ∧ Below w.heap.size w w' := by
  have hl := World.block_lt_of_cell? w ⟨bs, 0, none⟩ hs
  go_enter Tryz.func108, Tryz.ntmps108
  go_wp2_with fail
  go_loopw [8] (fun t wr => ∃ i : Nat, i ≤ n ∧ t = .int .i64 i ∧ Below w.heap.size w wr ∧ ∀ j, j < i → ((L j).toList == s.toList) = false) (fun t _ => (n - RowKit.intOf t).toNat)
  case atStart => exact ⟨0, by omega, rfl, Below.refl _ _, fun j hj => by omega⟩
  case round =>
    obtain ⟨i, hi, rfl, hb, hno⟩ := hrel
    have HB := hidLL hb
    have HN := hidLL hno
    clear hb hno
    by_cases hin : i < n
    · obtain ⟨b, o, rfl, c0, c1, c2, c3⟩ := hk i hin
      have hiz : (i : Int) < n := by omega
      have hbl := World.block_lt_of_cell? w ⟨b, o + i * 4, none⟩ c0
      have d0 := (HB.out.cell (p := ⟨b, o + i * 4, none⟩) hbl).trans c0
      have d1 := (HB.out.cell (p := ⟨b, o + i * 4 + 1, none⟩) hbl).trans c1
      have d2 := (HB.out.cell (p := ⟨b, o + i * 4 + 2, none⟩) hbl).trans c2
      have d3 := (HB.out.cell (p := ⟨b, o + i * 4 + 3, none⟩) hbl).trans c3
      have HC := hidLL (labelled1_any (L i) (H i) s (la i) (ma i) (ln i) (lc i) (mn i) (mc i) bs wr ((HB.out.cell (p := ⟨bs, 0, none⟩) hl).trans hs))
      have HK := hidLL hk
      clear c0 c1 c2 c3 hk
      cases hq : ((L i).toList == s.toList)
      · rw [hq] at HC
        have HQ := hidLL hq
        clear hq
        go_wp2_with fail
        refine HC.out.mono ?_
        rintro e w1 ⟨rfl, ew⟩
        go_wp2
        go_roundw
        case rel =>
          refine ⟨i + 1, by omega, by go_num, ?_, fun j hj => ?_⟩
          · first | exact HB.out.alloc HB.out.size _ | (rw [ew]; exact HB.out.alloc HB.out.size _)
          · rcases Nat.lt_or_ge j i with h | h
            · exact HN.out j h
            · obtain rfl : j = i := by omega
              exact HQ.out
        case measure => simp [RowKit.intOf]; omega
      · rw [hq] at HC
        have HQ := hidLL hq
        clear hq
        go_wp2_with fail
        refine HC.out.mono ?_
        rintro e w1 ⟨rfl, ew⟩
        go_wp2
        go_ret
        refine ⟨⟨i, rfl, by omega, ⟨fun _ => ⟨i, hin, HQ.out⟩, fun _ => by omega⟩⟩, ?_⟩
        first | exact HB.out.alloc HB.out.size _ | (rw [ew]; exact HB.out.alloc HB.out.size _)
    · obtain rfl : i = n := by omega
      clear hk
      go_wp2
      go_ret
      refine ⟨⟨-1, rfl, by omega, ⟨fun h => by omega, ?_⟩⟩, HB.out⟩
      rintro ⟨j, hj, hq⟩
      have := HN.out j hj
      rw [this] at hq
      cases hq
set_option maxHeartbeats 1000000 in
theorem labelled_any (n : Nat) (ka : Option Addr) (kc : Nat) (L : Nat → ByteArray) (H : Nat → ByteArray) (la ma : Nat → Option Addr) (ln lc mn mc : Nat → Nat) (s : ByteArray) (w : World) (hn : n ≤ 100000)
    (hk : ∀ i, i < n → ∃ b o, ka = some ⟨b, o, none⟩ ∧ w.cell? ⟨b, o + i * 4, none⟩ = some (.string (L i)) ∧ w.cell? ⟨b, o + i * 4 + 1, none⟩ = some (.string (H i)) ∧ w.cell? ⟨b, o + i * 4 + 2, none⟩ = some (.slice (la i) (ln i) (lc i)) ∧ w.cell? ⟨b, o + i * 4 + 3, none⟩ = some (.slice (ma i) (mn i) (mc i))) :
    Calls Tryz.prog 99 #[.slice ka n kc, .string s] w fun e w' => (∃ k : Int, e = .returned (.int .i64 k) ∧ -1 ≤ k ∧ (0 ≤ k ↔ ∃ i, i < n ∧ ((L i).toList == s.toList) = true)) ∧ Below w.heap.size w w' := by
  have hb : Below w.heap.size w (w.alloc (.cells #[.string s] 9)) := (Below.refl _ _).alloc (Nat.le_refl _) _
  have HC := hidLL (indexFunc_any n ka kc L H la ma ln lc mn mc s w.heap.size (w.alloc (.cells #[.string s] 9)) hn (by simp) (fun i hi => by
    obtain ⟨b, o, e, c0, c1, c2, c3⟩ := hk i hi
    have hbl := World.block_lt_of_cell? w ⟨b, o + i * 4, none⟩ c0
    exact ⟨b, o, e, (hb.cell (p := ⟨b, o + i * 4, none⟩) hbl).trans c0, (hb.cell (p := ⟨b, o + i * 4 + 1, none⟩) hbl).trans c1, (hb.cell (p := ⟨b, o + i * 4 + 2, none⟩) hbl).trans c2, (hb.cell (p := ⟨b, o + i * 4 + 3, none⟩) hbl).trans c3⟩))
  clear hk
  go_enter Tryz.func99, Tryz.ntmps99
  go_wp2_with fail
  refine HC.out.mono ?_
  rintro e w1 ⟨⟨k, rfl, hk1, hk2⟩, hb1⟩
  have H2 := hidLL hk2
  clear hk2
  go_wp2
  go_ret
  exact ⟨⟨k, rfl, hk1, H2.out⟩, hb.trans (hb1.mono (by simp))⟩
end Go.Proofs.YtpbolcjcmkmalaaGreatDoor
namespace Go.Proofs.YtpbolcjcmkmalaaGreatDoor
open Go.RowKit Go.Extern.Stop Go.Stop Go.Extern

theorem kids_has {w : World} {P : Nat → Prop} {t : It} {V : Nat → Nat → Value} (hr : ∀ i k, t.kids[i]? = some k → Lies w P (V i) k) (s : ByteArray) : hasKid t s = true ↔ ∃ i, i < t.kids.length ∧ ((strOf (V i 0)).toList == s.toList) = true := by
  unfold hasKid
  rw [List.any_eq_true]
  constructor
  · rintro ⟨k, hk, e⟩
    obtain ⟨i, hi, rfl⟩ := List.getElem_of_mem hk
    refine ⟨i, hi, ?_⟩
    rw [(hr i _ (List.getElem?_eq_getElem hi)).forms.1]
    exact e
  · rintro ⟨i, hi, e⟩
    refine ⟨t.kids[i], List.getElem_mem hi, ?_⟩
    rw [(hr i _ (List.getElem?_eq_getElem hi)).forms.1] at e
    exact e
theorem labelled_lies {w : World} {P : Nat → Prop} {v : Nat → Value} {t : It} (h : Lies w P v t) {ka : Option Addr} {n kc : Nat} (e : v 3 = .slice ka n kc) (hn : n ≤ 100000) (s : ByteArray) :
    Calls Tryz.prog 99 #[.slice ka n kc, .string s] w fun e w' => (∃ k : Int, e = .returned (.int .i64 k) ∧ -1 ≤ k ∧ (0 ≤ k ↔ hasKid t s = true)) ∧ Below w.heap.size w w' := by
  obtain ⟨rfl, V, hk, hr⟩ := h.kidsAt e
  refine (labelled_any t.kids.length ka kc _ _ _ _ _ _ _ _ s w hn (kids_cells hk hr)).mono ?_
  rintro e w' ⟨⟨k, h1, h2, h3⟩, hb⟩
  exact ⟨⟨k, h1, h2, h3.trans (kids_has hr s).symm⟩, hb⟩
set_option maxHeartbeats 1000000 in
theorem isLabel_any (s : ByteArray) (hs : s.size ≤ 1000000) (w : World) (hT : Lib.Utf8Tabs 13 14 w) :
    Calls Tryz.prog 80 #[.string s] w fun e w' => e = .returned (.bool (isLab s)) ∧ Below w.heap.size w w' := by
  have HC := hidLL (readLabel_any s hs w hT)
  clear hT
  go_enter Tryz.func80, Tryz.ntmps80
  go_wp2_with fail
  refine HC.out.mono ?_
  rintro e w1 ⟨hb, h | h⟩
  · obtain ⟨k, l, hl, rfl⟩ := h
    have HB := hidLL hb
    have HL := hidLL hl
    clear hb hl
    go_wp2
    go_ret
    refine ⟨ret_b (by unfold isLab; exact (@decide_eq_true _ (Classical.propDecidable _) (⟨k, l, HL.out⟩ : ∃ k l, Lab s k l)).symm), ?_⟩
    exact HB.out.alloc HB.out.size _
  · obtain ⟨hn, v0, v1, v2, rfl⟩ := h
    have HB := hidLL hb
    have HN := hidLL hn
    clear hb hn
    go_wp2
    go_ret
    refine ⟨ret_b (by unfold isLab; exact (@decide_eq_false _ (Classical.propDecidable _) HN.out).symm), ?_⟩
    exact HB.out.alloc HB.out.size _
end Go.Proofs.YtpbolcjcmkmalaaGreatDoor
namespace Go.Proofs.YtpbolcjcmkmalaaGreatDoor
open Go.RowKit Go.Extern.Stop Go.Stop Go.Extern

theorem alloc_two (w : World) (a b : Obj) : ((w.alloc a).alloc b).heap[w.heap.size]? = some a ∧ ((w.alloc a).alloc b).heap[w.heap.size + 1]? = some b := by
  refine ⟨?_, ?_⟩
  · have h1 := Below.heap_alloc (w.alloc a) b w.heap.size (by simp)
    rw [h1]; exact heap_alloc_new w a
  · have h1 := heap_alloc_new (w.alloc a) b
    have h2 : (w.alloc a).heap.size = w.heap.size + 1 := by simp
    rw [h2] at h1; exact h1
/-- The cells of a block of four. -/
theorem four {W : World} {g : Nat} {a b c d : Value} {t : TypeId} (h : W.heap[g]? = some (.cells #[a, b, c, d] t (0, 0))) : W.cell? ⟨g, 0, none⟩ = some a ∧ W.cell? ⟨g, 1, none⟩ = some b ∧ W.cell? ⟨g, 2, none⟩ = some c ∧ W.cell? ⟨g, 3, none⟩ = some d ∧ ∀ i, W.frozen? ⟨g, i, none⟩ = false := by
  simp [World.cell?, World.frozen?, h]
end Go.Proofs.YtpbolcjcmkmalaaGreatDoor
