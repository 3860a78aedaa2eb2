/-
  The reference: ReadSteps, walked.
-/
import Derived.Test.YtfnlcblalieolaaDoorWtRsPl
import Derived.Test.YtfnlcblalieolaaDoorWtRef
namespace Go.Proofs.YtfnlcblalieolaaDoor
open Go.RowKit

/-- The four words, in memory. -/
def wdsV : Array Value := #[.string ⟨#[115, 117, 114, 101, 32]⟩, .string ⟨#[110, 111, 116, 32, 115, 117, 114, 101, 32]⟩, .string ⟨#[104, 111, 108, 100, 115, 32]⟩, .string ⟨#[102, 97, 105, 108, 115, 32]⟩]
/-- What ReadSteps answers. -/
def RStA (r : List Clm ⊕ (Nat × Nat)) (w : World) (e : Ending) (w' : World) : Prop := match r with
  | .inl l => ∃ a n c, e = .returned (.tuple #[.slice a n c, .agg #[.int .i64 0, .int .i64 (-1)]]) ∧ n = l.length ∧ SRd w' w'.heap.size (.slice a n c) l ∧ Below w.heap.size w w'
  | .inr q => e = .returned (.tuple #[.slice none 0 0, .agg #[.int .i64 ((q.2 : Int) + 1), .int .i64 q.1]]) ∧ Below w.heap.size w w'
theorem ownS_cell {w : World} {lo : Nat} {a : Option Addr} {n c : Nat} {o : List ByteArray} {i : Nat} {x : ByteArray} (h : w.ownsRow lo 9 1 (.slice a n c) o.length (o.map Value.string)) (hx : o[i]? = some x) : ∃ g, a = some ⟨g, 0, none⟩ ∧ w.cell? ⟨g, i, none⟩ = some (.string x) := by
  rcases h.2 with ⟨_, e⟩ | ⟨g, cap, cur, e, _⟩
  · rw [List.eq_nil_of_length_eq_zero e] at hx
    cases hx
  · injection e with e1 e2 e3
    subst e1
    refine ⟨g, rfl, ?_⟩
    subst e2 e3
    have hc := World.ownsRow.cells h (g := g) rfl i (.string x) (by rw [List.getElem?_map, hx]; rfl)
    have e9 : (⟨g, 0, none⟩ : Addr).add i = ⟨g, i, none⟩ := by cases i <;> simp [Addr.add]
    rw [e9] at hc
    exact hc
theorem rowsA_size : ∀ (r x : List UInt8) (y : List UInt8), y ∈ rowsA x r → y.length ≤ x.length + r.length
  | [], x, y, h => by
    rw [rowsA] at h
    split at h
    · cases h
    · obtain rfl := List.mem_singleton.1 h
      simp
  | c :: r, x, y, h => by
    rw [rowsA] at h
    split at h
    · rcases List.mem_cons.1 h with rfl | h
      · simp
      · have := rowsA_size r [] y h
        simp at this ⊢
        omega
    · have := rowsA_size r (x ++ [c]) y h
      simp at this ⊢
      omega
/-- While the words are gone through: the one that a row begins with, if it was met. -/
inductive KSt (x : ByteArray) (k : Nat) : Value → Value → Prop
  | none (h : ∀ j, j < k → Lib.hasPrefix (bl x) (bl (wd j)) = false) : KSt x k (.int .i64 (-1)) (.string ⟨#[]⟩)
  | some {j : Nat} (hj : j < k) (h : Lib.hasPrefix (bl x) (bl (wd j)) = true) : KSt x k (.int .i64 j) (.string (x.extract (wd j).size x.size))
theorem toList_inj {a b : ByteArray} (h : a.toList = b.toList) : a = b := by
  rw [Lib.toList_data, Lib.toList_data] at h
  apply ByteArray.ext
  exact Array.toList_inj.1 h
theorem pre_ext {x p : ByteArray} (_ : p.size ≤ x.size) : Lib.hasPrefix (bl x) (bl p) = true ↔ x.extract 0 p.size = p := by
  rw [pre_iff, List.prefix_iff_eq_take, size_bl]
  constructor
  · intro e
    apply toList_inj
    rw [Lib.toList_data, Lib.toList_data]
    have := bl_extract x 0 p.size
    rw [List.drop_zero] at this
    exact this.trans e.symm
  · intro e
    have := bl_extract x 0 p.size
    rw [List.drop_zero, e] at this
    exact this
theorem pre_short {x p : ByteArray} (h : x.size < p.size) : Lib.hasPrefix (bl x) (bl p) = false := by
  cases e : Lib.hasPrefix (bl x) (bl p)
  · rfl
  · rw [pre_iff] at e
    have := e.length_le
    rw [size_bl, size_bl] at this
    omega
theorem kst_no {x : ByteArray} {k j : Nat} (h : ∀ j, j < k → Lib.hasPrefix (bl x) (bl (wd j)) = false) (hk : Lib.hasPrefix (bl x) (bl (wd k)) = false) (hj : j < k + 1) : Lib.hasPrefix (bl x) (bl (wd j)) = false := by
  rcases Nat.lt_or_ge j k with q | q
  · exact h j q
  · obtain rfl : j = k := by omega
    exact hk
theorem take_split {o : List ByteArray} {i : Nat} {x : ByteArray} (h : o[i]? = some x) : o.map bl = (o.take i).map bl ++ bl x :: (o.drop (i + 1)).map bl := by
  obtain ⟨hi, e⟩ := List.getElem?_eq_some_iff.1 h
  conv => lhs; rw [← List.take_append_drop i o, List.drop_eq_getElem_cons hi, e]
  rw [List.map_append, List.map_cons]
/-- While the rows are gone through. -/
inductive RSs (w : World) (rb wb : Nat) (ra : Value) (nm : List ByteArray) (o : List ByteArray) : Value → Value → World → Prop
  | mk {a : Option Addr} {n c i : Nat} {l : List Clm} {wr : World} (hi : i ≤ o.length) (hst : stepsO nm ((o.take i).map bl) = .inl l) (hn : n = l.length) (row : wr.ownsRow w.heap.size 42 3 (.slice a n c) l.length (clmC l))
      (rbx : wr.heap[rb]? = some (.cells #[.int .i64 0, .int .i64 0] 36 (0, 0))) (wbx : wr.heap[wb]? = some (.cells wdsV 9 (0, 0))) (rows : wr.ownsRow w.heap.size 9 1 ra o.length (o.map Value.string)) (bel : Below w.heap.size w wr) : RSs w rb wb ra nm o (.slice a n c) (.int .i64 i) wr
theorem Tryd.infoRSt : ∃ i z, Tryd.prog.info? 42 = some i ∧ i.zero = some z ∧ i.size = 3 ∧ i.bytes = 16 ∧ z.cells.size = 3 := by
  have h : (Tryd.prog.info? 42).map (fun i => (i.zero, i.size, i.bytes)) = some (some (.agg #[.bool false, .bool false, .int .i64 0]), 3, 16) := by kernel_rfl
  obtain ⟨i, h1, h2⟩ := Option.map_eq_some_iff.1 h
  simp only [Prod.mk.injEq] at h2
  exact ⟨i, _, h1, h2.1, h2.2.1, h2.2.2, rfl⟩
/-- One step more, which has just been laid. -/
theorem wpList_push_st {W : World} {ops : Array Oper} {rest : List Oper} {o : Oper} {a : Act} {Q : Exit → Act → World → Prop} (hgd : o.guard = none) (s x : Operand)
    (ho : o.op = .call { callee := .builtin .append, args := #[s, x], argTypes := #[22, 22] }) (B : Nat) (v : Value) (l : List Clm) (c1 c2 : Bool) (c3 : Int) (hs : a.eval s = v) (hown : W.ownsRow B 42 3 v l.length (clmC l))
    (hx : a.eval x = .slice (some ⟨W.heap.size, 0, none⟩) 1 1) (hB : B ≤ W.heap.size) (hl : l.length ≤ 100000000)
    (h : ∀ v' w', w'.ownsRow B 42 3 v' (l.length + 1) (clmC l ++ clmC [(c1, c2, c3)]) → (W.alloc (.cells #[.bool c1, .bool c2, .int .i64 c3] 42)).grownBy w' v.ownBlock → wpList Tryd.prog ops Q rest (a.put o.dst v') w') : wpList Tryd.prog ops Q (o :: rest) a (W.alloc (.cells #[.bool c1, .bool c2, .int .i64 c3] 42)) := by
  obtain ⟨i0, z, h1, h2, h3, h4, h5⟩ := Tryd.infoRSt
  have hn : ∀ (j : Nat) (u : Value), (clmC [(c1, c2, c3)])[j]? = some u → (W.alloc (.cells #[.bool c1, .bool c2, .int .i64 c3] 42)).cell? ((⟨W.heap.size, 0, none⟩ : Addr).add j) = some u := fun j u hj => alloc_cellC W (clmC [(c1, c2, c3)]) 42 j u hj
  have hal := row_step (w' := W.alloc (.cells #[.bool c1, .bool c2, .int .i64 c3] 42)) hown fun g _ hl => Below.heap_alloc W _ g hl
  refine wpList_append_own _ hgd s x 22 ho B 42 i0 z 3 16 Tryd.underlying22 h1 h2 h3 h4 h5 (by decide) v l.length (clmC l) hs hal ⟨W.heap.size, 0, none⟩ 1 1 (clmC [(c1, c2, c3)]) hx rfl hn (clmC_one _) (by unfold maxLen; omega) (by omega) (by simp; omega) ?_
  intro v' w' hown' hgrow _
  exact h v' w' hown' hgrow
theorem own_ne {W : World} {B e sz : Nat} {v : Value} {n : Nat} {xs : List Value} {b t : Nat} {cs : Array Value} {fz : Nat × Nat} (h : W.ownsRow B e sz v n xs) (hb : W.heap[b]? = some (.cells cs t fz)) (hte : t ≠ e) : some b ≠ v.ownBlock := fun e9 => by
  rcases h.2 with ⟨rfl, _⟩ | ⟨g, cap, cur, rfl, _, hgg, _⟩
  · cases e9
  · injection e9 with e9
    have e9 : b = g := e9
    subst e9
    rw [hb] at hgg
    injection hgg with hgg
    injection hgg with _ hgg _
    exact hte hgg
theorem kA {j : Nat} (hj : j < 4) : decide ((j : Int) < 2) = kindA j := by
  have hj4 : j = 0 ∨ j = 1 ∨ j = 2 ∨ j = 3 := by omega
  rcases hj4 with rfl | rfl | rfl | rfl <;> decide
theorem kB {j : Nat} (hj : j < 4) (h0 : ¬ j = 0) : ((j : Int) == 2) = kindB j := by
  have hj4 : j = 1 ∨ j = 2 ∨ j = 3 := by omega
  rcases hj4 with rfl | rfl | rfl <;> decide
theorem RSs.push {w : World} {rb wb : Nat} {ra a pa9 : Option Addr} {on rc n8 c8 pc9 i d : Nat} {nm o : List ByteArray} {l : List Clm} {c : Clm} {x : ByteArray} {w3 w9 : World} (hrow : rowR nm (bl x) 4 0 = .inr c) (hx : o[i]? = some x) (hst : stepsO nm ((o.take i).map bl) = .inl l) (_ : n8 = l.length)
    (row : w3.ownsRow w.heap.size 42 3 (.slice a n8 c8) l.length (clmC l)) (rbx : w3.heap[rb]? = some (.cells #[.int .i64 0, .int .i64 0] 36 (0, 0))) (wbx : w3.heap[wb]? = some (.cells wdsV 9 (0, 0)))
    (rows : w3.ownsRow w.heap.size 9 1 (.slice ra on rc) o.length (o.map Value.string)) (bel : Below w.heap.size w w3) (hown : w9.ownsRow w.heap.size 42 3 (.slice pa9 (l.length + 1) pc9) (l.length + 1) (clmC l ++ clmC [c])) {cs : Array Value}
    (hg : ((w3.drewN d).alloc (.cells cs 42)).grownBy w9 (Value.slice a n8 c8).ownBlock) : RSs w rb wb (.slice ra on rc) nm o (.slice pa9 (l.length + 1) pc9) (.int .i64 ((i : Int) + 1)) w9 := by
  have hi := (List.getElem?_eq_some_iff.1 hx).1
  have keep : ∀ (b t : Nat) (cs' : Array Value) (fz : Nat × Nat), w3.heap[b]? = some (.cells cs' t fz) → t ≠ 42 → w9.heap[b]? = some (.cells cs' t fz) := fun b t cs' fz h1 h2 =>
    (hg.block b (by have := lt_of_block h1; simp; omega) (own_ne row h1 h2)).trans ((Below.heap_alloc (w3.drewN d) _ b (lt_of_block h1)).trans h1)
  have htk : (o.take (i + 1)).map bl = (o.take i).map bl ++ [bl x] := by
    obtain ⟨h9, e9⟩ := List.getElem?_eq_some_iff.1 hx
    rw [List.take_succ_eq_append_getElem h9, e9, List.map_append]
    rfl
  have := RSs.mk (w := w) (rb := rb) (wb := wb) (ra := .slice ra on rc) (nm := nm) (o := o) (i := i + 1) (l := l ++ [c]) (wr := w9) (a := pa9) (n := l.length + 1) (c := pc9) (by omega) (by rw [htk]; exact stepsO_ok nm hrow _ l hst) (by simp) (by rw [List.length_append, clmC_app]; exact hown)
    (keep _ _ _ _ rbx (by decide)) (keep _ _ _ _ wbx (by decide)) (row_step rows fun g hg2 hlt => by
      rcases rows.2 with ⟨hn1, _⟩ | ⟨g', cap, cur, e1, _, hgg, _⟩
      · rw [hn1] at hg2
        cases hg2
      · rw [e1] at hg2
        injection hg2 with hg2
        subst hg2
        exact (keep _ _ _ _ hgg (by decide)).trans hgg.symm) (((bdrewN bel d).alloc (by have := bel.size; exact this) _).grown hg (by have := bel.size; simp; omega) (fun k hk => (row_blk row hk).1))
  rw [show ((i + 1 : Nat) : Int) = (i : Int) + 1 by omega] at this
  exact this
set_option maxHeartbeats 8000000 in
set_option maxRecDepth 100000 in
theorem readSteps_r {w : World} {B : Nat} {na : Option Addr} {n nc : Nat} {nm : List ByteArray} (hN : NRd w B (.slice na n nc) nm) (hB : B ≤ w.heap.size) (hn : n = nm.length) (hfew : n ≤ 1000) (hnd : nm.Nodup) (s : ByteArray) (hs : s.size ≤ 30000) :
    Calls Tryd.prog 9 #[.string s, .slice na n nc] w (RStA (stepsO nm (rowsA [] (bl s))) w) := by
  have hsz : ¬ (30000 : Int) < (s.size : Int) := by omega
  have HRw := hidLL (fun W => rows_r s (by omega) W)
  have HN := hidLL (And.intro hN (And.intro hn (And.intro hB hnd)))
  clear hN hn hB hnd
  go_enter Tryd.func9, Tryd.ntmps9
  go_wp2_with fail
  refine (HRw.out _).mono ?_
  rintro e w1 ⟨⟨v, o, rfl, hrow, hob, hol⟩, hb1⟩
  obtain ⟨ra, rc, hrv⟩ := row_any hrow
  subst hrv
  have hb0 : Below w.heap.size w ((w.alloc (.cells #[.int .i64 0, .int .i64 0] 36)).alloc (.cells wdsV 9)) := ((Below.refl _ _).alloc (Nat.le_refl _) _).alloc (by simp) _
  have hrb0 : ((w.alloc (.cells #[.int .i64 0, .int .i64 0] 36)).alloc (.cells wdsV 9)).heap[w.heap.size]? = some (.cells #[.int .i64 0, .int .i64 0] 36 (0, 0)) := (Below.heap_alloc _ _ _ (by simp)).trans (World.alloc_heap_new w _)
  have hwb0 : ((w.alloc (.cells #[.int .i64 0, .int .i64 0] 36)).alloc (.cells wdsV 9)).heap[w.heap.size + 1]? = some (.cells wdsV 9 (0, 0)) := by
    have := World.alloc_heap_new (w.alloc (.cells #[.int .i64 0, .int .i64 0] 36)) (.cells wdsV 9)
    simpa using this
  have hb1' : Below w.heap.size w w1 := hb0.trans (hb1.mono (by simp; omega))
  have hrb1 : w1.heap[w.heap.size]? = some (.cells #[.int .i64 0, .int .i64 0] 36 (0, 0)) := (hb1.block _ (by simp; omega)).trans hrb0
  have hwb1 : w1.heap[w.heap.size + 1]? = some (.cells wdsV 9 (0, 0)) := (hb1.block _ (by simp)).trans hwb0
  have hrow1 : w1.ownsRow w.heap.size 9 1 (.slice ra o.length rc) o.length (o.map Value.string) := by
    refine ⟨hrow.1, ?_⟩
    rcases hrow.2 with hn | ⟨g, cap, cur, e1, hB, rest⟩
    · exact .inl hn
    · exact .inr ⟨g, cap, cur, e1, by simp at hB; omega, rest⟩
  have HS0 : Hid (RSs w w.heap.size (w.heap.size + 1) (.slice ra o.length rc) nm o (.slice none 0 0) (.int .i64 0) w1) := .mk (i := 0) (l := []) (Nat.zero_le _) rfl rfl (World.ownsRow_nil _ _ _ _) hrb1 hwb1 hrow1 hb1'
  obtain ⟨rb, hrb⟩ : ∃ rb, rb = w.heap.size := ⟨_, rfl⟩
  obtain ⟨wb, hwb⟩ : ∃ wb, wb = w.heap.size + 1 := ⟨_, rfl⟩
  obtain ⟨on, hon⟩ : ∃ on, on = o.length := ⟨_, rfl⟩
  have HBk := hidLL (And.intro hrb hwb)
  rw [← hwb, ← hrb, ← hon] at HS0 ⊢
  have HOb := hidLL hob
  have HOn := hidLL hon
  have hol2 : on ≤ 30001 := by omega
  clear hrow hrow1 hb0 hb1 hb1' hrb0 hwb0 hrb1 hwb1 hrb hwb hon hob hol
  go_wp2_with fail
  go_loopw [8, 9] (fun x y wr => RSs w rb wb (.slice ra on rc) nm o x y wr) (fun _ y _ => on - (RowKit.intOf y).toNat)
  case atStart => exact HS0.out
  case round =>
    clear HS0
    rcases hrel with @⟨a, n8, c8, i, l, wr, hi, hst, hn8, row, rbx, wbx, rows, bel⟩
    have hL := HOn.out
    by_cases hlt : i < on
    · obtain ⟨x, hx⟩ : ∃ x, o[i]? = some x := ⟨_, List.getElem?_eq_getElem (by omega)⟩
      have hsrd := ownS_cell rows hx
      obtain ⟨g, rfl, cx⟩ := hsrd
      have hiz : (i : Int) < on := by omega
      have hxs : x.size ≤ 30000 := by
        have h1 : bl x ∈ rowsA [] (bl s) := by rw [← HOb.out]; exact List.mem_map_of_mem (List.mem_of_getElem? hx)
        have := rowsA_size (bl s) [] _ h1
        rw [size_bl, size_bl] at this
        simp at this
        omega
      have HD := hidLL (And.intro hst (And.intro hn8 (And.intro row (And.intro rbx (And.intro wbx (And.intro rows bel))))))
      have hwc : ∀ k, k < 4 → wr.cell? ⟨wb, k, none⟩ = some (.string (wd k)) := fun k hk => by
        have hk4 : k = 0 ∨ k = 1 ∨ k = 2 ∨ k = 3 := by omega
        rcases hk4 with rfl | rfl | rfl | rfl <;> simp [World.cell?, wbx, wdsV, wd, wordB, kindA, kindB]
      have HWC := hidLL hwc
      have hrbw : w.heap.size ≤ rb := by have := HBk.out.1; omega
      have HX := hidLL hx
      obtain ⟨w3, hw3⟩ : ∃ w3 : World, w3 = wr := ⟨_, rfl⟩
      subst hw3
      clear hst row rbx wbx rows bel hwc hx hL hn8
      go_wp2_with fail
      go_loopw [10, 11, 12] (fun p q t wr => ∃ k d : Nat, k ≤ 4 ∧ t = .int .i64 k ∧ wr = w3.drewN d ∧ KSt x k p q) (fun _ _ t _ => 4 - (RowKit.intOf t).toNat)
      case atStart => exact ⟨0, 0, by omega, rfl, rfl, .none fun j h => by omega⟩
      case round =>
        obtain ⟨k, d, hk, rfl, rfl, hks⟩ := hrel
        by_cases hk4 : k < 4
        · have hkz : (k : Int) < 4 := by omega
          have hwk := HWC.out k hk4
          have hwsz : (wd k).size ≤ 9 := wordB_size _ _
          rcases hks with ⟨hno⟩ | @⟨j, hj, hjp⟩
          · by_cases hle : (wd k).size ≤ x.size
            · have hlz : (((wd k).size : Nat) : Int) ≤ (x.size : Int) := by omega
              have hld : decide ((((wd k).size : Nat) : Int) ≤ (x.size : Int)) = true := by simp; omega
              by_cases heq : x.extract 0 (wd k).size = wd k
              · have hteq : ((x.extract 0 (wd k).size).toList == (wd k).toList) = true := by rw [heq]; simp
                have HPf : Hid (Lib.hasPrefix (bl x) (bl (wd k)) = true) := (pre_ext hle).2 heq
                clear heq hno
                go_wp2_with fail
                go_quiet (fail)
                go_wp2
                go_roundw
                case rel => exact ⟨k + 1, _, by omega, by go_num, rfl, .some (j := k) (by omega) HPf.out⟩
                case measure => simp [RowKit.intOf]; omega
              · have HPf : Hid (Lib.hasPrefix (bl x) (bl (wd k)) = false) := by
                  cases e : Lib.hasPrefix (bl x) (bl (wd k))
                  · rfl
                  · exact absurd ((pre_ext hle).1 e) heq
                have HNo := hidLL hno
                clear hno
                have hteq : ((x.extract 0 (wd k).size).toList == (wd k).toList) = false := by
                  rw [beq_eq_false_iff_ne]
                  intro e
                  exact heq (toList_inj e)
                clear heq
                go_wp2_with fail
                go_quiet (fail)
                go_wp2
                go_roundw
                case rel => exact ⟨k + 1, _, by omega, by go_num, rfl, .none fun j hj => kst_no HNo.out HPf.out hj⟩
                case measure => simp [RowKit.intOf]; omega
            · have hlz : ¬ (((wd k).size : Nat) : Int) ≤ (x.size : Int) := by omega
              have hld : decide ((((wd k).size : Nat) : Int) ≤ (x.size : Int)) = false := by simp; omega
              have HPf : Hid (Lib.hasPrefix (bl x) (bl (wd k)) = false) := pre_short (by omega)
              have HNo := hidLL hno
              clear hno
              go_wp2_with fail
              go_quiet (fail)
              go_wp2
              go_roundw
              case rel => exact ⟨k + 1, _, by omega, by go_num, rfl, .none fun j hj => kst_no HNo.out HPf.out hj⟩
              case measure => simp [RowKit.intOf]; omega
          · have HPf : Hid (Lib.hasPrefix (bl x) (bl (wd k)) = false) := by
              cases e : Lib.hasPrefix (bl x) (bl (wd k))
              · rfl
              · exact absurd (wd_one (by omega) hk4 hjp e) (by omega)
            have HJp := hidLL hjp
            have hjk : j < k := hj
            clear hjp hj
            generalize hrs : x.extract (wd j).size x.size = rs at *
            have HRs := hidLL hrs
            clear hrs
            by_cases hle : (wd k).size ≤ x.size
            · have hlz : (((wd k).size : Nat) : Int) ≤ (x.size : Int) := by omega
              have hld : decide ((((wd k).size : Nat) : Int) ≤ (x.size : Int)) = true := by simp; omega
              have heq : ¬ x.extract 0 (wd k).size = wd k := fun e => by
                have := (pre_ext hle).2 e
                rw [HPf.out] at this
                cases this
              have hteq : ((x.extract 0 (wd k).size).toList == (wd k).toList) = false := by
                rw [beq_eq_false_iff_ne]
                intro e
                exact heq (toList_inj e)
              clear heq
              go_wp2_with fail
              go_quiet (fail)
              go_wp2
              go_roundw
              case rel => exact ⟨k + 1, _, by omega, by go_num, rfl, by rw [← HRs.out]; exact .some (j := j) (by omega) HJp.out⟩
              case measure => simp [RowKit.intOf]; omega
            · have hlz : ¬ (((wd k).size : Nat) : Int) ≤ (x.size : Int) := by omega
              have hld : decide ((((wd k).size : Nat) : Int) ≤ (x.size : Int)) = false := by simp; omega
              go_wp2_with fail
              go_quiet (fail)
              go_wp2
              go_roundw
              case rel => exact ⟨k + 1, _, by omega, by go_num, rfl, by rw [← HRs.out]; exact .some (j := j) (by omega) HJp.out⟩
              case measure => simp [RowKit.intOf]; omega
        · obtain rfl : k = 4 := by omega
          have hkz : ¬ ((4 : Nat) : Int) < 4 := by omega
          rcases hks with ⟨hno⟩ | @⟨j, hj, hjp⟩
          · have HRow : Hid (rowR nm (bl x) 4 0 = .inl 0) := rowR_none nm (bl x) hno
            have c0 : w3.cell? ⟨rb, 0, none⟩ = some (.int .i64 0) := by simp [World.cell?, HD.out.2.2.2.1]
            have c1 : w3.cell? ⟨rb, 1, none⟩ = some (.int .i64 0) := by simp [World.cell?, HD.out.2.2.2.1]
            have f0 : w3.frozen? ⟨rb, 0, none⟩ = false := by simp [World.frozen?, HD.out.2.2.2.1]
            have f1 : w3.frozen? ⟨rb, 1, none⟩ = false := by simp [World.frozen?, HD.out.2.2.2.1]
            clear hno
            go_wp2
            refine bodyPost_ret (v := .tuple #[.slice none 0 0, .agg #[.int .i64 1, .int .i64 i]]) (by simp [results, Tryd.results9, go_sem, c0, c1]) rfl ?_
            rw [← HOb.out, take_split HX.out, stepsO_bad nm HRow.out _ _ l HD.out.1]
            refine ⟨?_, ?_⟩
            · rw [List.length_map, List.length_take, show min i o.length = i by have := HOn.out; omega]
              rfl
            · exact (((bdrewN HD.out.2.2.2.2.2.2 _).setCell (p := ⟨rb, 0, none⟩) hrbw _).setCell (p := ⟨rb, 1, none⟩) hrbw _)
          · generalize hrs : x.extract (wd j).size x.size = rs at *
            have HRs : Hid (rowR nm (bl x) 4 0 = nameR nm (kindA j) (kindB j) (bl rs)) := by
              show _ = _
              rw [rowR_some nm (bl x) hj hjp, ← hrs, bl_extract, ← size_bl x, List.take_length]
            have hrsz : rs.size ≤ 30000 := by
              rw [← size_bl, ← hrs, bl_extract, List.length_drop, List.length_take, size_bl]
              omega
            have hjz : ¬ (j : Int) < 0 := by omega
            clear hjp hrs
            by_cases hle : 4 ≤ rs.size
            · have hlz : (4 : Int) ≤ (rs.size : Int) := by omega
              have hld : decide ((4 : Int) ≤ (rs.size : Int)) = true := by simp; omega
              by_cases heq : rs.extract 0 4 = notB
              · have hteq : ((rs.extract 0 4).toList == [110, 111, 116, 32]) = true := by rw [heq, Lib.toList_data]; rfl
                have HRw2 : Hid (rowR nm (bl x) 4 0 = if numOf nm (rs.extract 4 rs.size) = 0 then .inl 6 else .inr (kindA j, kindB j, -(numOf nm (rs.extract 4 rs.size) : Int))) := by
                  show _ = _
                  have hp : Lib.hasPrefix (bl rs) (bl notB) = true := (pre_ext (p := notB) hle).2 heq
                  rw [HRs.out]
                  unfold nameR
                  have ht : (⟨(Lib.trimPrefix (bl rs) (bl notB)).toArray⟩ : ByteArray) = rs.extract 4 rs.size := by
                    apply ByteArray.ext
                    show (Lib.trimPrefix (bl rs) (bl notB)).toArray = _
                    unfold Lib.trimPrefix
                    rw [if_pos hp, show (bl notB).length = 4 from rfl]
                    apply Array.toList_inj.1
                    have h9 := bl_extract rs 4 rs.size
                    rw [← size_bl rs, List.take_length, size_bl] at h9
                    exact h9.symm
                  rw [ht, if_pos hp]
                clear heq
                go_wp2_with fail
                generalize rs.extract 4 rs.size = r2 at *
                go_loopw [15, 16] (fun u t wr => ∃ m : Nat, m ≤ n ∧ t = .int .i64 ((m : Int) - 1) ∧ u = .int .i64 (if m < numOf nm r2 then (numOf nm r2 : Int) else 0) ∧ wr = w3.drewN d) (fun _ t _ => (RowKit.intOf t + 1).toNat)
                case atStart => exact ⟨n, Nat.le_refl _, rfl, by rw [if_neg (by have := numOf_le nm r2; have := HN.out.2.1; omega)], rfl⟩
                case round =>
                  obtain ⟨m, hm, rfl, rfl, rfl⟩ := hrel
                  cases m with
                  | succ m =>
                    obtain ⟨y, hy⟩ : ∃ y, nm[m]? = some y := ⟨_, List.getElem?_eq_getElem (by have := HN.out.2.1; omega)⟩
                    obtain ⟨gn, og, rfl, hgB, cy⟩ := HN.out.1.at hy
                    have cy3 : w3.cell? ⟨gn, og + m, none⟩ = some (.string y) := (HD.out.2.2.2.2.2.2.cell (p := ⟨gn, og + m, none⟩) (by show gn < _; have := HN.out.2.2.1; omega)).trans cy
                    have hmm : (((m + 1 : Nat) : Int) - 1) = (m : Int) := by omega
                    have hm0 : (0 : Int) ≤ (m : Int) := by omega
                    have hmn : (m : Int) < (n : Int) := by omega
                    rw [hmm]
                    by_cases hyr : y = r2
                    · have HNum : Hid (numOf nm r2 = m + 1) := numOf_at nm r2 m HN.out.2.2.2 (by rw [← hyr]; exact hy)
                      have hteq : (y.toList == r2.toList) = true := by rw [hyr]; simp
                      clear hyr hy
                      go_wp2
                      go_roundw
                      case rel => exact ⟨m, by omega, rfl, by rw [HNum.out, if_pos (by omega)]; rfl, by first | rfl | trivial⟩
                      case measure => simp [RowKit.intOf]
                    · have HNum : Hid (numOf nm r2 ≠ m + 1) := fun e => hyr (by
                        have := numOf_get nm r2 m e
                        rw [hy] at this
                        exact Option.some.inj this)
                      have hteq : (y.toList == r2.toList) = false := by
                        rw [beq_eq_false_iff_ne]
                        intro e
                        exact hyr (toList_inj e)
                      have HQ : Hid ((if m + 1 < numOf nm r2 then (numOf nm r2 : Int) else 0) = if m < numOf nm r2 then (numOf nm r2 : Int) else 0) := by
                        show _ = _
                        have := HNum.out
                        by_cases q : m + 1 < numOf nm r2
                        · rw [if_pos q, if_pos (by omega)]
                        · rw [if_neg q, if_neg (by omega)]
                      clear hyr hy
                      generalize hqq : (if m + 1 < numOf nm r2 then (numOf nm r2 : Int) else 0) = qq at *
                      clear hqq
                      go_wp2
                      go_roundw
                      case rel => exact ⟨m, by omega, rfl, by rw [← HQ.out], by first | rfl | trivial⟩
                      case measure => simp [RowKit.intOf]
                  | zero =>
                    have hm1 : (((0 : Nat) : Int) - 1) = -1 := rfl
                    rw [hm1]
                    have HQ : Hid ((if 0 < numOf nm r2 then (numOf nm r2 : Int) else 0) = (numOf nm r2 : Int)) := by
                      show _ = _
                      by_cases q : 0 < numOf nm r2
                      · rw [if_pos q]
                      · rw [if_neg q]; omega
                    rw [HQ.out]
                    have hNle := numOf_le nm r2
                    have hNn : numOf nm r2 ≤ 1000 := by have := HN.out.2.1; omega
                    clear hNle
                    by_cases hz : numOf nm r2 = 0
                    · have HRow : Hid (rowR nm (bl x) 4 0 = .inl 6) := by
                        show _ = _
                        rw [HRw2.out, if_pos hz]
                      rw [hz]
                      have c0 : w3.cell? ⟨rb, 0, none⟩ = some (.int .i64 0) := by simp [World.cell?, HD.out.2.2.2.1]
                      have c1 : w3.cell? ⟨rb, 1, none⟩ = some (.int .i64 0) := by simp [World.cell?, HD.out.2.2.2.1]
                      have f0 : w3.frozen? ⟨rb, 0, none⟩ = false := by simp [World.frozen?, HD.out.2.2.2.1]
                      have f1 : w3.frozen? ⟨rb, 1, none⟩ = false := by simp [World.frozen?, HD.out.2.2.2.1]
                      clear hz
                      go_wp2
                      refine bodyPost_ret (v := .tuple #[.slice none 0 0, .agg #[.int .i64 7, .int .i64 i]]) (by simp [results, Tryd.results9, go_sem, c0, c1]) rfl ?_
                      rw [← HOb.out, take_split HX.out, stepsO_bad nm HRow.out _ _ l HD.out.1]
                      refine ⟨?_, ?_⟩
                      · rw [List.length_map, List.length_take, show min i o.length = i by have := HOn.out; omega]
                        rfl
                      · exact (((bdrewN HD.out.2.2.2.2.2.2 _).setCell (p := ⟨rb, 0, none⟩) hrbw _).setCell (p := ⟨rb, 1, none⟩) hrbw _)
                    · have HRow : Hid (rowR nm (bl x) 4 0 = .inr (kindA j, kindB j, -(numOf nm r2 : Int))) := by
                        show _ = _
                        rw [HRw2.out, if_neg hz]
                      have hz2 : (((numOf nm r2 : Nat) : Int) == 0) = false := by simp; omega
                      generalize hNN : numOf nm r2 = NN at *
                      have hA : decide ((j : Int) < 2) = kindA j := kA hj
                      have hlen8 : l.length ≤ 40000 := by
                        have h1 := stepsO_len nm _ l HD.out.1
                        rw [List.length_map, List.length_take] at h1
                        omega
                      have hn8 := HD.out.2.1
                      have hbsz := HD.out.2.2.2.2.2.2.size
                      clear hz hNN
                      by_cases hj0 : j = 0
                      · subst hj0
                        go_wp2_with (at_builtin; refine wpList_push_st rfl (.tmp 101) (.tmp 114) rfl w.heap.size (.slice a n8 c8) l true true (-(NN : Int)) rfl (row_step HD.out.2.2.1 fun _ _ _ => rfl) (by first | (simp [Act.eval]; done) | simp [Act.eval, Act.put]) (by simp; omega) (by omega) ?_; intro v' w9 hr9 hg9; obtain ⟨pa9, pc9, rfl⟩ := row_any hr9; have HR9 := hidLL (And.intro hr9 hg9); clear hr9 hg9)
                        go_roundw
                        case rel => exact RSs.push HRow.out HX.out HD.out.1 HD.out.2.1 HD.out.2.2.1 HD.out.2.2.2.1 HD.out.2.2.2.2.1 HD.out.2.2.2.2.2.1 HD.out.2.2.2.2.2.2 HR9.out.1 HR9.out.2
                        case measure => simp [RowKit.intOf]; omega
                      · have e0 : ((j : Int) == 0) = false := by simp; omega
                        have e2 : ((j : Int) == 2) = kindB j := kB hj hj0
                        go_wp2_with (at_builtin; refine wpList_push_st rfl (.tmp 101) (.tmp 114) rfl w.heap.size (.slice a n8 c8) l (kindA j) (kindB j) (-(NN : Int)) rfl (row_step HD.out.2.2.1 fun _ _ _ => rfl) (by first | (simp [Act.eval]; done) | simp [Act.eval, Act.put]) (by simp; omega) (by omega) ?_; intro v' w9 hr9 hg9; obtain ⟨pa9, pc9, rfl⟩ := row_any hr9; have HR9 := hidLL (And.intro hr9 hg9); clear hr9 hg9)
                        go_roundw
                        case rel => exact RSs.push HRow.out HX.out HD.out.1 HD.out.2.1 HD.out.2.2.1 HD.out.2.2.2.1 HD.out.2.2.2.2.1 HD.out.2.2.2.2.2.1 HD.out.2.2.2.2.2.2 HR9.out.1 HR9.out.2
                        case measure => simp [RowKit.intOf]; omega
              · have hp : Lib.hasPrefix (bl rs) (bl notB) = false := by
                  cases e : Lib.hasPrefix (bl rs) (bl notB)
                  · rfl
                  · exact absurd ((pre_ext (p := notB) hle).1 e) heq
                have hteq : ((rs.extract 0 4).toList == [110, 111, 116, 32]) = false := by
                  rw [beq_eq_false_iff_ne]
                  intro e
                  exact heq (toList_inj (by rw [e, Lib.toList_data]; rfl))
                have HRw2 : Hid (rowR nm (bl x) 4 0 = if numOf nm rs = 0 then .inl 6 else .inr (kindA j, kindB j, (numOf nm rs : Int))) := by
                  show _ = _
                  rw [HRs.out]
                  unfold nameR
                  have ht : (⟨(Lib.trimPrefix (bl rs) (bl notB)).toArray⟩ : ByteArray) = rs := by
                    unfold Lib.trimPrefix
                    rw [if_neg (by rw [hp]; decide)]
                  rw [ht]
                  simp only [hp, Bool.false_eq_true, if_false]
                clear heq hp HRs
                go_wp2_with fail
                go_loopw [15, 16] (fun u t wr => ∃ m : Nat, m ≤ n ∧ t = .int .i64 ((m : Int) - 1) ∧ u = .int .i64 (if m < numOf nm rs then (numOf nm rs : Int) else 0) ∧ wr = w3.drewN d) (fun _ t _ => (RowKit.intOf t + 1).toNat)
                case atStart => exact ⟨n, Nat.le_refl _, rfl, by rw [if_neg (by have := numOf_le nm rs; have := HN.out.2.1; omega)], rfl⟩
                case round =>
                  obtain ⟨m, hm, rfl, rfl, rfl⟩ := hrel
                  cases m with
                  | succ m =>
                    obtain ⟨y, hy⟩ : ∃ y, nm[m]? = some y := ⟨_, List.getElem?_eq_getElem (by have := HN.out.2.1; omega)⟩
                    obtain ⟨gn, og, rfl, hgB, cy⟩ := HN.out.1.at hy
                    have cy3 : w3.cell? ⟨gn, og + m, none⟩ = some (.string y) := (HD.out.2.2.2.2.2.2.cell (p := ⟨gn, og + m, none⟩) (by show gn < _; have := HN.out.2.2.1; omega)).trans cy
                    have hmm : (((m + 1 : Nat) : Int) - 1) = (m : Int) := by omega
                    have hm0 : (0 : Int) ≤ (m : Int) := by omega
                    have hmn : (m : Int) < (n : Int) := by omega
                    rw [hmm]
                    by_cases hyr : y = rs
                    · have HNum : Hid (numOf nm rs = m + 1) := numOf_at nm rs m HN.out.2.2.2 (by rw [← hyr]; exact hy)
                      have hteq : (y.toList == rs.toList) = true := by rw [hyr]; simp
                      clear hyr hy
                      go_wp2
                      go_roundw
                      case rel => exact ⟨m, by omega, rfl, by rw [HNum.out, if_pos (by omega)]; rfl, by first | rfl | trivial⟩
                      case measure => simp [RowKit.intOf]
                    · have HNum : Hid (numOf nm rs ≠ m + 1) := fun e => hyr (by
                        have := numOf_get nm rs m e
                        rw [hy] at this
                        exact Option.some.inj this)
                      have hteq : (y.toList == rs.toList) = false := by
                        rw [beq_eq_false_iff_ne]
                        intro e
                        exact hyr (toList_inj e)
                      have HQ : Hid ((if m + 1 < numOf nm rs then (numOf nm rs : Int) else 0) = if m < numOf nm rs then (numOf nm rs : Int) else 0) := by
                        show _ = _
                        have := HNum.out
                        by_cases q : m + 1 < numOf nm rs
                        · rw [if_pos q, if_pos (by omega)]
                        · rw [if_neg q, if_neg (by omega)]
                      clear hyr hy
                      generalize hqq : (if m + 1 < numOf nm rs then (numOf nm rs : Int) else 0) = qq at *
                      clear hqq
                      go_wp2
                      go_roundw
                      case rel => exact ⟨m, by omega, rfl, by rw [← HQ.out], by first | rfl | trivial⟩
                      case measure => simp [RowKit.intOf]
                  | zero =>
                    have hm1 : (((0 : Nat) : Int) - 1) = -1 := rfl
                    rw [hm1]
                    have HQ : Hid ((if 0 < numOf nm rs then (numOf nm rs : Int) else 0) = (numOf nm rs : Int)) := by
                      show _ = _
                      by_cases q : 0 < numOf nm rs
                      · rw [if_pos q]
                      · rw [if_neg q]; omega
                    rw [HQ.out]
                    have hNle := numOf_le nm rs
                    have hNn : numOf nm rs ≤ 1000 := by have := HN.out.2.1; omega
                    clear hNle
                    by_cases hz : numOf nm rs = 0
                    · have HRow : Hid (rowR nm (bl x) 4 0 = .inl 6) := by
                        show _ = _
                        rw [HRw2.out, if_pos hz]
                      rw [hz]
                      have c0 : w3.cell? ⟨rb, 0, none⟩ = some (.int .i64 0) := by simp [World.cell?, HD.out.2.2.2.1]
                      have c1 : w3.cell? ⟨rb, 1, none⟩ = some (.int .i64 0) := by simp [World.cell?, HD.out.2.2.2.1]
                      have f0 : w3.frozen? ⟨rb, 0, none⟩ = false := by simp [World.frozen?, HD.out.2.2.2.1]
                      have f1 : w3.frozen? ⟨rb, 1, none⟩ = false := by simp [World.frozen?, HD.out.2.2.2.1]
                      clear hz
                      go_wp2
                      refine bodyPost_ret (v := .tuple #[.slice none 0 0, .agg #[.int .i64 7, .int .i64 i]]) (by simp [results, Tryd.results9, go_sem, c0, c1]) rfl ?_
                      rw [← HOb.out, take_split HX.out, stepsO_bad nm HRow.out _ _ l HD.out.1]
                      refine ⟨?_, ?_⟩
                      · rw [List.length_map, List.length_take, show min i o.length = i by have := HOn.out; omega]
                        rfl
                      · exact (((bdrewN HD.out.2.2.2.2.2.2 _).setCell (p := ⟨rb, 0, none⟩) hrbw _).setCell (p := ⟨rb, 1, none⟩) hrbw _)
                    · have HRow : Hid (rowR nm (bl x) 4 0 = .inr (kindA j, kindB j, (numOf nm rs : Int))) := by
                        show _ = _
                        rw [HRw2.out, if_neg hz]
                      have hz2 : (((numOf nm rs : Nat) : Int) == 0) = false := by simp; omega
                      generalize hNN : numOf nm rs = NN at *
                      have hA : decide ((j : Int) < 2) = kindA j := kA hj
                      have hlen8 : l.length ≤ 40000 := by
                        have h1 := stepsO_len nm _ l HD.out.1
                        rw [List.length_map, List.length_take] at h1
                        omega
                      have hn8 := HD.out.2.1
                      have hbsz := HD.out.2.2.2.2.2.2.size
                      clear hz hNN
                      by_cases hj0 : j = 0
                      · subst hj0
                        go_wp2_with (at_builtin; refine wpList_push_st rfl (.tmp 101) (.tmp 114) rfl w.heap.size (.slice a n8 c8) l true true (NN : Int) rfl (row_step HD.out.2.2.1 fun _ _ _ => rfl) (by first | (simp [Act.eval]; done) | simp [Act.eval, Act.put]) (by simp; omega) (by omega) ?_; intro v' w9 hr9 hg9; obtain ⟨pa9, pc9, rfl⟩ := row_any hr9; have HR9 := hidLL (And.intro hr9 hg9); clear hr9 hg9)
                        go_roundw
                        case rel => exact RSs.push HRow.out HX.out HD.out.1 HD.out.2.1 HD.out.2.2.1 HD.out.2.2.2.1 HD.out.2.2.2.2.1 HD.out.2.2.2.2.2.1 HD.out.2.2.2.2.2.2 HR9.out.1 HR9.out.2
                        case measure => simp [RowKit.intOf]; omega
                      · have e0 : ((j : Int) == 0) = false := by simp; omega
                        have e2 : ((j : Int) == 2) = kindB j := kB hj hj0
                        go_wp2_with (at_builtin; refine wpList_push_st rfl (.tmp 101) (.tmp 114) rfl w.heap.size (.slice a n8 c8) l (kindA j) (kindB j) (NN : Int) rfl (row_step HD.out.2.2.1 fun _ _ _ => rfl) (by first | (simp [Act.eval]; done) | simp [Act.eval, Act.put]) (by simp; omega) (by omega) ?_; intro v' w9 hr9 hg9; obtain ⟨pa9, pc9, rfl⟩ := row_any hr9; have HR9 := hidLL (And.intro hr9 hg9); clear hr9 hg9)
                        go_roundw
                        case rel => exact RSs.push HRow.out HX.out HD.out.1 HD.out.2.1 HD.out.2.2.1 HD.out.2.2.2.1 HD.out.2.2.2.2.1 HD.out.2.2.2.2.2.1 HD.out.2.2.2.2.2.2 HR9.out.1 HR9.out.2
                        case measure => simp [RowKit.intOf]; omega
            · have hlz : ¬ (4 : Int) ≤ (rs.size : Int) := by omega
              have hld : decide ((4 : Int) ≤ (rs.size : Int)) = false := by simp; omega
              have hp : Lib.hasPrefix (bl rs) (bl notB) = false := pre_short (by show rs.size < 4; omega)
              have HRw2 : Hid (rowR nm (bl x) 4 0 = if numOf nm rs = 0 then .inl 6 else .inr (kindA j, kindB j, (numOf nm rs : Int))) := by
                show _ = _
                rw [HRs.out]
                unfold nameR
                have ht : (⟨(Lib.trimPrefix (bl rs) (bl notB)).toArray⟩ : ByteArray) = rs := by
                  unfold Lib.trimPrefix
                  rw [if_neg (by rw [hp]; decide)]
                rw [ht]
                simp only [hp, Bool.false_eq_true, if_false]
              clear hp HRs
              go_wp2_with fail
              go_loopw [15, 16] (fun u t wr => ∃ m : Nat, m ≤ n ∧ t = .int .i64 ((m : Int) - 1) ∧ u = .int .i64 (if m < numOf nm rs then (numOf nm rs : Int) else 0) ∧ wr = w3.drewN d) (fun _ t _ => (RowKit.intOf t + 1).toNat)
              case atStart => exact ⟨n, Nat.le_refl _, rfl, by rw [if_neg (by have := numOf_le nm rs; have := HN.out.2.1; omega)], rfl⟩
              case round =>
                obtain ⟨m, hm, rfl, rfl, rfl⟩ := hrel
                cases m with
                | succ m =>
                  obtain ⟨y, hy⟩ : ∃ y, nm[m]? = some y := ⟨_, List.getElem?_eq_getElem (by have := HN.out.2.1; omega)⟩
                  obtain ⟨gn, og, rfl, hgB, cy⟩ := HN.out.1.at hy
                  have cy3 : w3.cell? ⟨gn, og + m, none⟩ = some (.string y) := (HD.out.2.2.2.2.2.2.cell (p := ⟨gn, og + m, none⟩) (by show gn < _; have := HN.out.2.2.1; omega)).trans cy
                  have hmm : (((m + 1 : Nat) : Int) - 1) = (m : Int) := by omega
                  have hm0 : (0 : Int) ≤ (m : Int) := by omega
                  have hmn : (m : Int) < (n : Int) := by omega
                  rw [hmm]
                  by_cases hyr : y = rs
                  · have HNum : Hid (numOf nm rs = m + 1) := numOf_at nm rs m HN.out.2.2.2 (by rw [← hyr]; exact hy)
                    have hteq : (y.toList == rs.toList) = true := by rw [hyr]; simp
                    clear hyr hy
                    go_wp2
                    go_roundw
                    case rel => exact ⟨m, by omega, rfl, by rw [HNum.out, if_pos (by omega)]; rfl, by first | rfl | trivial⟩
                    case measure => simp [RowKit.intOf]
                  · have HNum : Hid (numOf nm rs ≠ m + 1) := fun e => hyr (by
                      have := numOf_get nm rs m e
                      rw [hy] at this
                      exact Option.some.inj this)
                    have hteq : (y.toList == rs.toList) = false := by
                      rw [beq_eq_false_iff_ne]
                      intro e
                      exact hyr (toList_inj e)
                    have HQ : Hid ((if m + 1 < numOf nm rs then (numOf nm rs : Int) else 0) = if m < numOf nm rs then (numOf nm rs : Int) else 0) := by
                      show _ = _
                      have := HNum.out
                      by_cases q : m + 1 < numOf nm rs
                      · rw [if_pos q, if_pos (by omega)]
                      · rw [if_neg q, if_neg (by omega)]
                    clear hyr hy
                    generalize hqq : (if m + 1 < numOf nm rs then (numOf nm rs : Int) else 0) = qq at *
                    clear hqq
                    go_wp2
                    go_roundw
                    case rel => exact ⟨m, by omega, rfl, by rw [← HQ.out], by first | rfl | trivial⟩
                    case measure => simp [RowKit.intOf]
                | zero =>
                  have hm1 : (((0 : Nat) : Int) - 1) = -1 := rfl
                  rw [hm1]
                  have HQ : Hid ((if 0 < numOf nm rs then (numOf nm rs : Int) else 0) = (numOf nm rs : Int)) := by
                    show _ = _
                    by_cases q : 0 < numOf nm rs
                    · rw [if_pos q]
                    · rw [if_neg q]; omega
                  rw [HQ.out]
                  have hNle := numOf_le nm rs
                  have hNn : numOf nm rs ≤ 1000 := by have := HN.out.2.1; omega
                  clear hNle
                  by_cases hz : numOf nm rs = 0
                  · have HRow : Hid (rowR nm (bl x) 4 0 = .inl 6) := by
                      show _ = _
                      rw [HRw2.out, if_pos hz]
                    rw [hz]
                    have c0 : w3.cell? ⟨rb, 0, none⟩ = some (.int .i64 0) := by simp [World.cell?, HD.out.2.2.2.1]
                    have c1 : w3.cell? ⟨rb, 1, none⟩ = some (.int .i64 0) := by simp [World.cell?, HD.out.2.2.2.1]
                    have f0 : w3.frozen? ⟨rb, 0, none⟩ = false := by simp [World.frozen?, HD.out.2.2.2.1]
                    have f1 : w3.frozen? ⟨rb, 1, none⟩ = false := by simp [World.frozen?, HD.out.2.2.2.1]
                    clear hz
                    go_wp2
                    refine bodyPost_ret (v := .tuple #[.slice none 0 0, .agg #[.int .i64 7, .int .i64 i]]) (by simp [results, Tryd.results9, go_sem, c0, c1]) rfl ?_
                    rw [← HOb.out, take_split HX.out, stepsO_bad nm HRow.out _ _ l HD.out.1]
                    refine ⟨?_, ?_⟩
                    · rw [List.length_map, List.length_take, show min i o.length = i by have := HOn.out; omega]
                      rfl
                    · exact (((bdrewN HD.out.2.2.2.2.2.2 _).setCell (p := ⟨rb, 0, none⟩) hrbw _).setCell (p := ⟨rb, 1, none⟩) hrbw _)
                  · have HRow : Hid (rowR nm (bl x) 4 0 = .inr (kindA j, kindB j, (numOf nm rs : Int))) := by
                      show _ = _
                      rw [HRw2.out, if_neg hz]
                    have hz2 : (((numOf nm rs : Nat) : Int) == 0) = false := by simp; omega
                    generalize hNN : numOf nm rs = NN at *
                    have hA : decide ((j : Int) < 2) = kindA j := kA hj
                    have hlen8 : l.length ≤ 40000 := by
                      have h1 := stepsO_len nm _ l HD.out.1
                      rw [List.length_map, List.length_take] at h1
                      omega
                    have hn8 := HD.out.2.1
                    have hbsz := HD.out.2.2.2.2.2.2.size
                    clear hz hNN
                    by_cases hj0 : j = 0
                    · subst hj0
                      go_wp2_with (at_builtin; refine wpList_push_st rfl (.tmp 101) (.tmp 114) rfl w.heap.size (.slice a n8 c8) l true true (NN : Int) rfl (row_step HD.out.2.2.1 fun _ _ _ => rfl) (by first | (simp [Act.eval]; done) | simp [Act.eval, Act.put]) (by simp; omega) (by omega) ?_; intro v' w9 hr9 hg9; obtain ⟨pa9, pc9, rfl⟩ := row_any hr9; have HR9 := hidLL (And.intro hr9 hg9); clear hr9 hg9)
                      go_roundw
                      case rel => exact RSs.push HRow.out HX.out HD.out.1 HD.out.2.1 HD.out.2.2.1 HD.out.2.2.2.1 HD.out.2.2.2.2.1 HD.out.2.2.2.2.2.1 HD.out.2.2.2.2.2.2 HR9.out.1 HR9.out.2
                      case measure => simp [RowKit.intOf]; omega
                    · have e0 : ((j : Int) == 0) = false := by simp; omega
                      have e2 : ((j : Int) == 2) = kindB j := kB hj hj0
                      go_wp2_with (at_builtin; refine wpList_push_st rfl (.tmp 101) (.tmp 114) rfl w.heap.size (.slice a n8 c8) l (kindA j) (kindB j) (NN : Int) rfl (row_step HD.out.2.2.1 fun _ _ _ => rfl) (by first | (simp [Act.eval]; done) | simp [Act.eval, Act.put]) (by simp; omega) (by omega) ?_; intro v' w9 hr9 hg9; obtain ⟨pa9, pc9, rfl⟩ := row_any hr9; have HR9 := hidLL (And.intro hr9 hg9); clear hr9 hg9)
                      go_roundw
                      case rel => exact RSs.push HRow.out HX.out HD.out.1 HD.out.2.1 HD.out.2.2.1 HD.out.2.2.2.1 HD.out.2.2.2.2.1 HD.out.2.2.2.2.2.1 HD.out.2.2.2.2.2.2 HR9.out.1 HR9.out.2
                      case measure => simp [RowKit.intOf]; omega
    · have hge : ¬ (i : Int) < on := by omega
      have hio : i = o.length := by omega
      have HSt : Hid (stepsO nm (rowsA [] (bl s)) = .inl l) := by
        show _ = _
        rw [← HOb.out, ← hst, hio, List.take_length]
      have c0 : wr.cell? ⟨rb, 0, none⟩ = some (.int .i64 0) := by simp [World.cell?, rbx]
      have c1 : wr.cell? ⟨rb, 1, none⟩ = some (.int .i64 0) := by simp [World.cell?, rbx]
      have f0 : wr.frozen? ⟨rb, 0, none⟩ = false := by simp [World.frozen?, rbx]
      have f1 : wr.frozen? ⟨rb, 1, none⟩ = false := by simp [World.frozen?, rbx]
      have hrbw : w.heap.size ≤ rb := by have := HBk.out.1; omega
      have hl8 : l.length ≤ 8796093022208 := by
        have h1 := stepsO_len nm _ l hst
        rw [List.length_map, List.length_take] at h1
        omega
      have HD := hidLL (And.intro hn8 (And.intro row (And.intro rbx bel)))
      clear hst row rbx wbx rows bel hL hio hn8 hi
      go_wp2
      refine bodyPost_ret (v := .tuple #[.slice a n8 c8, .agg #[.int .i64 0, .int .i64 (-1)]]) (by simp [results, Tryd.results9, go_sem, c0, c1]) rfl ?_
      rw [HSt.out]
      obtain ⟨hn8, row, rbx, bel⟩ := HD.out
      have hr1 : ((wr.setCell ⟨rb, 0, none⟩ (.int .i64 0)).setCell ⟨rb, 1, none⟩ (.int .i64 (-1))).ownsRow w.heap.size 42 3 (.slice a n8 c8) l.length (clmC l) := row_step row fun g hg _ => (Below.heap_setCell _ _ _ _ (fun e => own_ne row rbx (by decide) (by rw [hg]; exact congrArg some e.symm))).trans (Below.heap_setCell _ _ _ _ (fun e => own_ne row rbx (by decide) (by rw [hg]; exact congrArg some e.symm)))
      refine ⟨_, _, _, rfl, hn8, ?_, ((bel.setCell (p := ⟨rb, 0, none⟩) hrbw _).setCell (p := ⟨rb, 1, none⟩) hrbw _)⟩
      exact srd_own hr1 hl8
end Go.Proofs.YtfnlcblalieolaaDoor
