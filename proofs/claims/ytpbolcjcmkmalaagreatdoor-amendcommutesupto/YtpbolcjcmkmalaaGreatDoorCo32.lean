/-
  Where words stand, one place behind the other: plain.
-/
import Derived.Test.YtpbolcjcmkmalaaGreatDoorCo15
import Derived.Test.YtpbolcjcmkmalaaGreatDoorCo19
import Derived.Test.YtpbolcjcmkmalaaGreatDoorShelfR
import Derived.Laws.RangeString
import Derived.Laws.RangeAny
import Derived.Test.YtpbolcjcmkmalaaGreatDoorCo20
namespace Go.Proofs.YtpbolcjcmkmalaaGreatDoor
open Go.RowKit Go.Extern.Stop Go.Stop Go.Extern

def hitsK (p l : List UInt8) (k : Nat) : List Nat := (List.range k).filter fun j => p.isPrefixOf (l.drop j)
theorem hitsK_succ (p l : List UInt8) (k : Nat) : hitsK p l (k + 1) = hitsK p l k ++ (if p.isPrefixOf (l.drop k) then [k] else []) := by
  unfold hitsK
  rw [List.range_succ, List.filter_append]
  congr 1
  cases h : p.isPrefixOf (l.drop k) <;> simp [h]
theorem hitsK_all (p l : List UInt8) : hitsK p l l.length = hits p l := rfl
theorem hitsK_len (p l : List UInt8) (k : Nat) : (hitsK p l k).length ≤ k := by
  unfold hitsK
  have := List.length_filter_le (fun j => p.isPrefixOf (l.drop j)) (List.range k)
  simpa using this
def lineAt (ls : List ByteArray) (i : Nat) : List UInt8 := (ls[i]?.getD ⟨#[]⟩).toList
def hitsUp (p : List UInt8) (ls : List ByteArray) (i : Nat) : List (Nat × Nat) := (List.range i).flatMap fun j => (hits p (lineAt ls j)).map fun k => (j, k)
theorem hitsUp_succ (p : List UInt8) (ls : List ByteArray) (i : Nat) : hitsUp p ls (i + 1) = hitsUp p ls i ++ (hits p (lineAt ls i)).map fun k => (i, k) := by
  unfold hitsUp
  rw [List.range_succ, List.flatMap_append]
  simp
theorem hitsUp_all (p : List UInt8) (ls : List ByteArray) : hitsUp p ls ls.length = hitsAt p ls := rfl
/-- The places so far, in a line. -/
def hitsSo (p : List UInt8) (ls : List ByteArray) (i k : Nat) : List (Nat × Nat) := hitsUp p ls i ++ (hitsK p (lineAt ls i) k).map fun k => (i, k)
theorem hitsSo_zero (p : List UInt8) (ls : List ByteArray) (i : Nat) : hitsSo p ls i 0 = hitsUp p ls i := by unfold hitsSo hitsK; simp
theorem hitsSo_succ (p : List UInt8) (ls : List ByteArray) (i k : Nat) : hitsSo p ls i (k + 1) = hitsSo p ls i k ++ (if p.isPrefixOf ((lineAt ls i).drop k) then [(i, k)] else []) := by
  unfold hitsSo
  rw [hitsK_succ, List.map_append, ← List.append_assoc]
  congr 1
  split <;> simp
theorem hitsSo_end (p : List UInt8) (ls : List ByteArray) (i : Nat) : hitsSo p ls i (lineAt ls i).length = hitsUp p ls (i + 1) := by
  unfold hitsSo
  rw [hitsK_all, hitsUp_succ]
def lastN (H : List (Nat × Nat)) : Nat × Nat := H.getLast?.getD (0, 0)
theorem lastN_snoc (H : List (Nat × Nat)) (a : Nat × Nat) : lastN (H ++ [a]) = a := by unfold lastN; simp
theorem hits_len (p l : List UInt8) : (hits p l).length ≤ l.length := hitsK_len p l l.length
theorem hitsUp_len (p : List UInt8) (ls : List ByteArray) (M : Nat) (h : ∀ i, (lineAt ls i).length ≤ M) : ∀ i, (hitsUp p ls i).length ≤ i * M
  | 0 => by simp [hitsUp]
  | i + 1 => by
    rw [hitsUp_succ, List.length_append, List.length_map, Nat.succ_mul]
    have := hitsUp_len p ls M h i
    have := hits_len p (lineAt ls i)
    have := h i
    omega
theorem hitsSo_len (p : List UInt8) (ls : List ByteArray) (M : Nat) (h : ∀ i, (lineAt ls i).length ≤ M) (i k : Nat) (hk : k ≤ M) : (hitsSo p ls i k).length ≤ i * M + M := by
  unfold hitsSo
  rw [List.length_append, List.length_map]
  have := hitsUp_len p ls M h i
  have := hitsK_len p (lineAt ls i) k
  omega
/-- The one place, if there is one. -/
theorem hits_one {p : List UInt8} {ls : List ByteArray} {i k : Nat} (h : hitsAt p ls = [(i, k)]) : i < ls.length ∧ k < (lineAt ls i).length ∧ p.isPrefixOf ((lineAt ls i).drop k) = true := by
  have hm : (i, k) ∈ hitsAt p ls := by rw [h]; simp
  unfold hitsAt at hm
  obtain ⟨j, hj, hm⟩ := List.mem_flatMap.1 hm
  obtain ⟨k', hk', e⟩ := List.mem_map.1 hm
  injection e with e1 e2
  subst e1 e2
  have hk' : k' ∈ hits p (lineAt ls j) := hk'
  unfold hits at hk'
  obtain ⟨h1, h2⟩ := List.mem_filter.1 hk'
  exact ⟨List.mem_range.1 hj, List.mem_range.1 h1, h2⟩
end Go.Proofs.YtpbolcjcmkmalaaGreatDoor
namespace Go.Proofs.YtpbolcjcmkmalaaGreatDoor
open Go.RowKit Go.Extern.Stop Go.Stop Go.Extern

theorem fine_ascii {s : ByteArray} (h : Fine s) (i : Nat) (hi : i < s.size) : s[i].toNat < 128 := by
  have h1 := h.2
  unfold lineB at h1
  simp only [Bool.and_eq_true] at h1
  have h2 := h1.1.2
  unfold plainB at h2
  have h3 := @of_decide_eq_true _ (Classical.propDecidable _) h2
  have h4 := okN_iff.1 (h3 i hi (by omega) hi)
  omega
theorem pre_bytes (s t : ByteArray) (k : Nat) : Lib.hasPrefix (s.extract k s.size).data.toList t.data.toList = t.toList.isPrefixOf (s.toList.drop k) := by
  unfold Lib.hasPrefix
  rw [Lib.toList_data, Lib.toList_data, Lib.extract_to_end]
theorem iterPos_at (W : World) (s : ByteArray) (k n : Nat) (h : W.heap.size = n) : (W.iter s k).iterPos n = k := by
  subst h
  simp [World.iterPos, World.iter_heap]
/-- The count and the last place. -/
def WS (H : List (Nat × Nat)) (a b c : Value) : Prop := a = .int .i64 (H.length : Nat) ∧ b = .int .i64 ((lastN H).1 : Nat) ∧ c = .int .i64 ((lastN H).2 : Nat)
set_option maxHeartbeats 8000000 in
set_option maxRecDepth 20000 in
theorem changeWords_a {w : World} {B b o : Nat} {x : It} {S : Nat → Prop} {v : Nat → Value} (h : ItAt w B b o x S v) (hB : B ≤ w.heap.size) (hn : x.lines.length ≤ 40) (hfi : ∀ s, s ∈ x.lines → Fine s) {p : Nat → Addr} {m : Int} (hE : Env w p m) (op : OpW) (hok : OpOk op) (iv : Nat → Value) :
    Calls Tryz.prog 74 #[.pointer (some ⟨b, o, none⟩), .agg (opV op iv)] w (ChO w B b o S p (wordsC x op)) := by
  have ht := hok.text
  have htn := hok.new
  clear hok
  cases op with
  | mk kind path at' text new line item =>
    have ht : text.size ≤ 6000 := ht
    have htn : new.size ≤ 6000 := htn
    show Calls Tryz.prog 74 #[.pointer (some ⟨b, o, none⟩), .agg #[.int .i64 kind, .string path, .string at', .string text, .string new, .int .i64 line, iv 0, iv 1, iv 2, iv 3]] w (ChO w B b o S p (wordsC x ⟨kind, path, at', text, new, line, item⟩))
    generalize iv 0 = i0, iv 1 = i1, iv 2 = i2, iv 3 = i3
    obtain ⟨WB, hWB⟩ : ∃ WB, WB = w.alloc (.cells #[.int .i64 kind, .string path, .string at', .string text, .string new, .int .i64 line, i0, i1, i2, i3] 46) := ⟨_, rfl⟩
    have hb0 : Below w.heap.size w WB := by rw [hWB]; exact (Below.refl _ _).alloc (Nat.le_refl _) _
    have hbx : WB.heap[w.heap.size]? = some (.cells #[.int .i64 kind, .string path, .string at', .string text, .string new, .int .i64 line, i0, i1, i2, i3] 46 (0, 0)) := by rw [hWB]; exact heap_alloc_new _ _
    have hs0 : WB.heap.size = w.heap.size + 1 := by rw [hWB]; simp
    obtain ⟨y0, y1, y2, y3, y4, y5, y6, y7, y8, y9⟩ := ten hbx
    obtain ⟨la, lc, hv2, hc2⟩ := (h.on hb0).lines
    obtain ⟨K, T, hk⟩ := h.own.parts
    have hln := hk.ln
    have hll := (h.own.lies.linesIn hv2).2
    have HX := hidLL hWB
    have H0 := hidLL h
    have HB0 := hidLL hb0
    have HEn := hidLL (fun w' (hb : Below w.heap.size w w') => hE.on hb)
    have HV2 := hidLL hv2
    have HLl := hidLL hll
    have HFi := hidLL hfi
    have HM : Hid (∀ i, (lineAt x.lines i).length ≤ 300) := fun i => by
      unfold lineAt
      cases hq : x.lines[i]? with
      | none => simp [Lib.toList_data]
      | some s =>
        have := (hfi s (List.mem_of_getElem? hq)).1
        show s.toList.length ≤ 300
        rw [Lib.toList_data]
        simpa using this
    have hsz0 := hs0
    clear hWB h hE y0 y1 y2 y5 y6 y7 y8 y9 hv2 hk hln hll hfi hbx hs0
    generalize hkn : x.lines.length = n at *
    have HKn := hidLL hkn
    clear hkn
    go_enter Tryz.func74, Tryz.ntmps74
    go_upto_region 1 with fail
    rw [← HX.out]
    go_wp2_with fail
    go_loopw [5, 6, 7, 19] (fun a1 a2 a3 t' wr => ∃ i : Nat, i ≤ n ∧ t' = .int .i64 i ∧ WS (hitsUp text.toList x.lines i) a1 a2 a3 ∧ Below WB.heap.size WB wr) (fun _ _ _ t' _ => (n - RowKit.intOf t').toNat)
    case atStart => exact ⟨0, by omega, rfl, ⟨rfl, rfl, rfl⟩, Below.refl _ _⟩
    case round =>
      obtain ⟨i, hi, rfl, ⟨rfl, rfl, rfl⟩, hb⟩ := hrel
      obtain ⟨w0, hw0⟩ : ∃ w0, w0 = wr := ⟨_, rfl⟩
      subst hw0
      by_cases hin : i < n
      · have hiz : (i : Int) < n := by omega
        obtain ⟨s, hs⟩ : ∃ s, x.lines[i]? = some s := ⟨_, List.getElem?_eq_getElem (by have := HKn.out; omega)⟩
        obtain ⟨lb, lo, rfl, _, hcs⟩ := HLl.out i s hs
        have hbw := HB0.out.trans (hb.mono HB0.out.size)
        have hcs' := (hbw.cell (p := ⟨lb, lo + i, none⟩) (cell_lt hcs)).trans hcs
        have HAs : Hid (∀ k (hk : k < s.size), s[k].toNat < 128) := fun k hk => fine_ascii (HFi.out s (List.mem_of_getElem? hs)) k hk
        have hss : s.size ≤ 300 := (HFi.out s (List.mem_of_getElem? hs)).1
        have HLn : Hid (lineAt x.lines i = s.toList) := by show _ = _; unfold lineAt; rw [hs]; rfl
        have HHP : Hid (∀ k W, Calls Tryz.prog 94 #[.string (s.extract k s.size), .string text] W fun e w' => e = .returned (.bool (text.toList.isPrefixOf (s.toList.drop k))) ∧ w' = W) := fun k W => by
          rw [← pre_bytes s text k]
          exact Go.Proofs.Tryz.strings_HasPrefix _ _ W
        have HBw := hidLL hb
        have hn0 := hb.size
        clear hb hbw hcs
        go_wp2_with fail
        go_loopw [5, 6, 7] (fun a1 a2 a3 wr2 => ∃ (k : Nat) (W' : World), k ≤ s.size ∧ W'.heap.size = w0.heap.size ∧ Below WB.heap.size WB W' ∧ wr2 = W'.iter s k ∧ WS (hitsSo text.toList x.lines i k) a1 a2 a3) (fun _ _ _ wr2 => s.size - wr2.iterPos w0.heap.size)
        case atStart => exact ⟨0, w0, by omega, rfl, HBw.out, rfl, by rw [hitsSo_zero]; exact ⟨rfl, rfl, rfl⟩⟩
        case round =>
          obtain ⟨k, W', hk, hsz, hbW, rfl, ⟨rfl, rfl, rfl⟩⟩ := hrel
          have hlen := hitsSo_len text.toList x.lines 300 HM.out i k (by omega)
          have HSz := hidLL hsz
          by_cases hkn : k < s.size
          · have hnx : ∀ ty, (Instr.next (.pointer (some ⟨w0.heap.size, 0, none⟩)) true ty).run Tryz.prog (W'.iter s k) = .ok (.tuple #[.bool true, .int .i64 k, .int .i32 (s[k]'hkn).toNat]) (W'.iter s (k + 1)) := fun ty => by rw [← hsz]; exact run_next_ascii W' s k ty hkn (HAs.out k hkn)
            have hbI : Below WB.heap.size WB (W'.iter s (k + 1)) := hbW.alloc hbW.size _
            have z3 : (W'.iter s (k + 1)).cell? ⟨w.heap.size, 3, none⟩ = some (.string text) := (hbI.cell (p := ⟨w.heap.size, 3, none⟩) (by show w.heap.size < _; omega)).trans y3
            have hkz : (k : Int) ≤ (s.size : Int) := by omega
            have HC := hidLL (HHP.out k)
            have HSu := hidLL (hitsSo_succ text.toList x.lines i k)
            rw [HLn.out] at HSu
            have HBW := hidLL hbW
            clear hbW hbI hsz
            cases hp : text.toList.isPrefixOf (s.toList.drop k)
            · rw [hp] at HC
              rw [hp, if_neg (by simp), List.append_nil] at HSu
              clear hp
              go_wp2
              go_quiet ((go_at_call 94; exact Calls.quiet_of_same (HC.out _)))
              go_wp2
              go_roundw
              case rel => exact ⟨k + 1, W'.drewN nq, by omega, HSz.out, bdrewN HBW.out _, rfl, by rw [HSu.out]; exact ⟨rfl, rfl, rfl⟩⟩
              case measure =>
                show s.size - ((W'.drewN nq).iter s (k + 1)).iterPos w0.heap.size < s.size - (W'.iter s k).iterPos w0.heap.size
                rw [iterPos_at _ _ _ _ HSz.out, iterPos_at (W'.drewN nq) _ _ _ HSz.out]
                omega
            · rw [hp] at HC
              rw [hp, if_pos rfl] at HSu
              clear hp
              have hw1 : IntKind.i64.wrap (((hitsSo text.toList x.lines i k).length : Int) + 1) = ((hitsSo text.toList x.lines i k).length : Int) + 1 := by rw [IntKind.wrap_i64]; omega
              go_wp2
              go_quiet ((go_at_call 94; exact Calls.quiet_of_same (HC.out _)))
              go_wp2
              go_roundw
              case rel =>
                refine ⟨k + 1, W'.drewN nq, by omega, HSz.out, bdrewN HBW.out _, rfl, ?_⟩
                rw [HSu.out]
                refine ⟨?_, ?_, ?_⟩
                · rw [List.length_append]; go_num
                · rw [lastN_snoc]
                · rw [lastN_snoc]
              case measure =>
                show s.size - ((W'.drewN nq).iter s (k + 1)).iterPos w0.heap.size < s.size - (W'.iter s k).iterPos w0.heap.size
                rw [iterPos_at _ _ _ _ HSz.out, iterPos_at (W'.drewN nq) _ _ _ HSz.out]
                omega
          · obtain rfl : k = s.size := by omega
            have hnx : ∀ ty, (Instr.next (.pointer (some ⟨w0.heap.size, 0, none⟩)) true ty).run Tryz.prog (W'.iter s s.size) = .ok (.tuple #[.bool false]) (W'.iter s s.size) := fun ty => by rw [← hsz]; exact run_next_end W' s s.size ty (by omega)
            have hbI : Below WB.heap.size WB (W'.iter s s.size) := hbW.alloc hbW.size _
            have HBI := hidLL hbI
            have HEn2 : Hid (hitsSo text.toList x.lines i s.size = hitsUp text.toList x.lines (i + 1)) := by
              show _ = _
              rw [← hitsSo_end, HLn.out, show s.toList.length = s.size by rw [Lib.toList_data]; simp]
            clear hbW hbI hsz
            go_wp2
            go_roundw
            case rel => exact ⟨i + 1, by omega, by go_num, by rw [← HEn2.out]; exact ⟨rfl, rfl, rfl⟩, HBI.out⟩
            case measure => simp [RowKit.intOf]; omega
      · obtain rfl : i = n := by omega
        have HH : Hid (hitsUp text.toList x.lines i = hitsAt text.toList x.lines) := by show _ = _; rw [← hitsUp_all, HKn.out]
        have hlen := hitsUp_len text.toList x.lines 300 HM.out i
        have z3 := (hb.cell (p := ⟨w.heap.size, 3, none⟩) (by show w.heap.size < _; omega)).trans y3
        have z4 := (hb.cell (p := ⟨w.heap.size, 4, none⟩) (by show w.heap.size < _; omega)).trans y4
        have hbw := HB0.out.trans (hb.mono HB0.out.size)
        have hemp : text.toList.isEmpty = decide (text.size = 0) := size_empty
        by_cases hgood : text.size ≠ 0 ∧ ∃ q, hitsAt text.toList x.lines = [q]
        · obtain ⟨h0, ⟨li, at9⟩, hq⟩ := hgood
          obtain ⟨g1, g2, g3⟩ := hits_one hq
          obtain ⟨s, hs⟩ : ∃ s, x.lines[li]? = some s := ⟨_, List.getElem?_eq_getElem g1⟩
          have hla : lineAt x.lines li = s.toList := by unfold lineAt; rw [hs]; rfl
          have hsl : s.toList.length = s.size := by rw [Lib.toList_data]; simp
          have htl : text.toList.length = text.size := by rw [Lib.toList_data]; simp
          rw [hla] at g2 g3
          have hfit : at9 + text.size ≤ s.size := by
            have := (List.isPrefixOf_iff_prefix.1 g3).length_le
            rw [List.length_drop, hsl, htl] at this
            omega
          have e1 : (hitsUp text.toList x.lines i).length = 1 := by rw [HH.out, hq]; rfl
          have e2 : (lastN (hitsUp text.toList x.lines i)).1 = li := by rw [HH.out, hq]; rfl
          have e3 : (lastN (hitsUp text.toList x.lines i)).2 = at9 := by rw [HH.out, hq]; rfl
          rw [e1, e2, e3]
          rw [decide_eq_false h0] at hemp
          obtain ⟨u, hu⟩ : ∃ u, u = s.extract 0 at9 ++ new ++ s.extract (at9 + text.size) s.size := ⟨_, rfl⟩
          have hss : s.size ≤ 300 := (HFi.out s (List.mem_of_getElem? hs)).1
          have husz : u.size ≤ 10000 := by
            rw [hu]
            simp only [ByteArray.size_append, ByteArray.size_extract]
            omega
          have HO : Hid (wordsC x ⟨kind, path, at', text, new, line, item⟩ = if chkB u = 0 then .ok (x.setLines (x.lines.set li u)) else .bad (chkB u)) := by
            show _ = _
            unfold wordsC
            show (match hitsAt text.toList x.lines with | [(i, k)] => _ | _ => COut.bad 6) = _
            rw [hq]
            show (if text.size = 0 then COut.bad 6 else _) = _
            rw [if_neg h0]
            simp only [hs, Option.getD_some, ← hu]
          have HCk := hidLL (fun W (hW : Below w.heap.size w W) => checkLine_a u (by omega) W (hE := HEn.out _ hW))
          obtain ⟨gl, cap, hg2, hgc, _, _⟩ := (H0.out.on hbw).setLine g1 u
          have z2 := (H0.out.on hbw).cell (c := 2) (by omega)
          rw [hg2, HKn.out] at z2
          have hgs : x.lines[li] = s := (List.getElem?_eq_some_iff.1 hs).2
          rw [hgs] at hgc
          have HSt := hidLL (fun W (hW : Below w.heap.size w W) => (H0.out.on hW).setLine g1 u)
          have HBw := hidLL hbw
          have HU := hidLL hu
          have HG2 := hidLL hg2
          have g1' : li < i := by have := HKn.out; omega
          have hliz : (li : Int) < (i : Int) := by omega
          have a1 : (at9 : Int) ≤ (s.size : Int) := by omega
          have a2 : IntKind.i64.wrap ((at9 : Int) + (text.size : Int)) = (at9 : Int) + (text.size : Int) := by rw [IntKind.wrap_i64]; omega
          have a3 : (0 : Int) ≤ (at9 : Int) + (text.size : Int) := by omega
          have a4 : (at9 : Int) + (text.size : Int) ≤ (s.size : Int) := by omega
          have a5 : ((at9 : Int) + (text.size : Int)).toNat = at9 + text.size := by omega
          have a6 : at9 ≤ s.size := by omega
          clear hq hs hla hsl htl g2 g3 hbw hb hu hg2 e1 e2 e3 y3 y4 h0 HH hgs
          generalize wordsC x ⟨kind, path, at', text, new, line, item⟩ = r at *
          by_cases hc : chkB u = 0
          · rw [hc, if_pos rfl] at HO
            rw [hc] at HCk
            clear hc
            go_wp2
            go_quiet (fail)
            rw [← HU.out]
            go_wp2_with fail
            refine (HCk.out _ (bdrewN HBw.out _)).mono ?_
            rintro e w5 ⟨he, hb5⟩
            unfold EO at he
            rw [if_pos rfl] at he
            subst he
            have hbw5 := (bdrewN HBw.out _).trans (hb5.mono HBw.out.size)
            obtain ⟨g5, cap5, q2, qc, qf, qo⟩ := HSt.out w5 hbw5
            have hgg : g5 = gl ∧ cap5 = cap := by
              have e9 := q2.symm.trans HG2.out
              injection e9 with e9 _ e8
              injection e9 with e9
              injection e9 with e9 _ _
              exact ⟨e9, e8⟩
            obtain ⟨rfl, rfl⟩ := hgg
            have x2 := (H0.out.on hbw5).cell (c := 2) (by omega)
            rw [q2, HKn.out] at x2
            have HQo := hidLL qo
            have HB5 := hidLL hbw5
            clear hb5 hbw5 q2 qo
            generalize x.lines[li] = old5 at *
            go_wp2
            go_ret
            rw [HO.out]
            obtain ⟨r1, r2⟩ := HQo.out _ (Fr.setCell (X := (· = g5)) (Fr.refl _ w5) (p := ⟨g5, li, none⟩) (.inl rfl) (.string u)) rfl
            exact ChO.after HB5.out H0.out.lt hB ⟨rfl, S, v, r1, fun q hq => .inl hq, r2⟩
          · rw [if_neg hc] at HO
            have HC := hidLL hc
            clear hc
            generalize chkB u = cu at *
            go_wp2
            go_quiet (fail)
            rw [← HU.out]
            go_wp2_with fail
            refine (HCk.out _ (bdrewN HBw.out _)).mono ?_
            rintro e w5 ⟨he, hb5⟩
            unfold EO at he
            rw [if_neg HC.out] at he
            obtain ⟨k, hk1, hk2, rfl⟩ := he
            have H5 := hidLL ((bdrewN HBw.out _).trans (hb5.mono HBw.out.size))
            have HK := hidLL hk1
            clear hb5 hk1
            unfold errI
            go_wp2
            go_ret
            rw [HO.out, HK.out]
            exact ⟨by omega, EO.err k hk2, H5.out.mono hB⟩
        · have HO : Hid (wordsC x ⟨kind, path, at', text, new, line, item⟩ = .bad 6) := by
            show _ = _
            unfold wordsC
            show (match hitsAt text.toList x.lines with | [(i, k)] => _ | _ => COut.bad 6) = _
            rcases hq : hitsAt text.toList x.lines with _ | ⟨⟨a9, b9⟩, _ | ⟨c9, d9⟩⟩
            · rfl
            · show (if text.size = 0 then COut.bad 6 else _) = _
              rw [if_pos]
              exact Classical.byContradiction fun e => hgood ⟨e, _, hq⟩
            · rfl
          have e1 : w0.cell? ⟨5, 0, none⟩ = some (.iface 214 (.pointer (some (p 5)))) := (HEn.out _ hbw).L.cell 5 (by omega)
          have HBw := hidLL hbw
          generalize wordsC x ⟨kind, path, at', text, new, line, item⟩ = r at *
          by_cases h0 : text.size = 0
          · rw [decide_eq_true h0] at hemp
            clear hgood hb hbw h0 y3 y4
            generalize (hitsUp text.toList x.lines i).length = c1 at *
            generalize (lastN (hitsUp text.toList x.lines i)).1 = c2 at *
            generalize (lastN (hitsUp text.toList x.lines i)).2 = c3 at *
            go_wp2
            go_ret
            rw [HO.out]
            exact ⟨by omega, EO.err 5 (by omega), HBw.out.mono hB⟩
          · rw [decide_eq_false h0] at hemp
            have hne : (hitsUp text.toList x.lines i).length ≠ 1 := fun e => by
              rw [HH.out] at e
              obtain ⟨q, hq⟩ := List.length_eq_one_iff.1 e
              exact hgood ⟨h0, q, hq⟩
            clear hgood hb hbw h0 y3 y4 HH
            generalize (lastN (hitsUp text.toList x.lines i)).1 = c2 at *
            generalize (lastN (hitsUp text.toList x.lines i)).2 = c3 at *
            generalize (hitsUp text.toList x.lines i).length = c1 at *
            have n1 : ((c1 : Int) == 1) = false := by rw [beq_eq_false_iff_ne]; omega
            have n2 : ((c1 : Int) != 1) = true := by rw [bne_iff_ne]; omega
            have n3 : ¬ ((c1 : Int) = 1) := by omega
            go_wp2
            go_ret
            rw [HO.out]
            exact ⟨by omega, EO.err 5 (by omega), HBw.out.mono hB⟩
end Go.Proofs.YtpbolcjcmkmalaaGreatDoor
namespace Go.Proofs.YtpbolcjcmkmalaaGreatDoor
open Go.RowKit Go.Extern.Stop Go.Stop Go.Extern

theorem textC_2 {x : It} {o : OpW} (h : o.kind = 2) : textC x o = lineC x o.line o.text := by unfold textC lineC; rw [if_pos h]
theorem textC_3 {x : It} {o : OpW} (h : o.kind = 3) : textC x o = addC x o.line o.text := by unfold textC addC; rw [if_neg (by omega), if_pos h]
theorem textC_4 {x : It} {o : OpW} (h : o.kind = 4) : textC x o = dropC x o.line := by unfold textC dropC; rw [if_neg (by omega), if_neg (by omega), if_pos h]
theorem textC_5 {x : It} {o : OpW} (h : o.kind = 5) : textC x o = wordsC x o := by unfold textC; rw [if_neg (by omega), if_neg (by omega), if_neg (by omega), if_pos h]
theorem textC_1 {x : It} {o : OpW} (h2 : ¬ o.kind = 2) (h3 : ¬ o.kind = 3) (h4 : ¬ o.kind = 4) (h5 : ¬ o.kind = 5) : textC x o = if chkB o.text = 0 then .ok (x.setHead o.text) else .bad (chkB o.text) := by unfold textC; rw [if_neg h2, if_neg h3, if_neg h4, if_neg h5]
set_option maxHeartbeats 4000000 in
set_option maxRecDepth 20000 in
theorem changeTexts_a {w : World} {B b o : Nat} {x : It} {S : Nat → Prop} {v : Nat → Value} (h : ItAt w B b o x S v) (hB : B ≤ w.heap.size) (hn : x.lines.length ≤ 40) (hfi : ∀ s, s ∈ x.lines → Fine s) {p : Nat → Addr} {m : Int} (hE : Env w p m) (op : OpW) (hok : OpOk op) (iv : Nat → Value) (hiv : ∀ c, c < 4 → (iv c).oneCell' = true) :
    Calls Tryz.prog 31 #[.pointer (some ⟨b, o, none⟩), .agg (opV op iv)] w (ChO w B b o S p (textC x op)) := by
  obtain ⟨WB, hWB⟩ : ∃ WB, WB = w.alloc (.cells (opV op iv) 46) := ⟨_, rfl⟩
  have hb0 : Below w.heap.size w WB := by rw [hWB]; exact (Below.refl _ _).alloc (Nat.le_refl _) _
  have hbx : WB.heap[w.heap.size]? = some (.cells (opV op iv) 46 (0, 0)) := by rw [hWB]; exact heap_alloc_new _ _
  have h1 := h.on hb0
  have hB1 := Nat.le_trans hB hb0.size
  have E1 := hE.on hb0
  have K2 := changeLine_a h1 hB1 E1 op hok iv
  have K3 := addLine_a h1 hB1 (by omega) E1 op hok iv
  have K4 := dropLine_a h1 hB1 (by omega) E1 op iv
  have K5 := changeWords_a h1 hB1 hn hfi E1 op hok iv
  have KC := checkLine_a op.text (by have := hok.text; omega) WB (hE := E1)
  have T2 := textC_2 (x := x) (o := op)
  have T3 := textC_3 (x := x) (o := op)
  have T4 := textC_4 (x := x) (o := op)
  have T5 := textC_5 (x := x) (o := op)
  have T1 := textC_1 (x := x) (o := op)
  have HAf := hidLL (fun (r : COut) (e : Ending) (w' : World) (hh : ChO WB B b o S p r e w') => hh.after hb0 h.lt hB)
  unfold opV at K2 K3 K4 K5 hbx hWB
  show Calls Tryz.prog 31 #[.pointer (some ⟨b, o, none⟩), .agg #[.int .i64 op.kind, .string op.path, .string op.at', .string op.text, .string op.new, .int .i64 op.line, iv 0, iv 1, iv 2, iv 3]] w (ChO w B b o S p (textC x op))
  have c0 := hiv 0 (by omega)
  have c1 := hiv 1 (by omega)
  have c2 := hiv 2 (by omega)
  have c3 := hiv 3 (by omega)
  generalize lineC x op.line op.text = r2 at *
  generalize addC x op.line op.text = r3 at *
  generalize dropC x op.line = r4 at *
  generalize wordsC x op = r5 at *
  generalize textC x op = r at *
  generalize op.kind = kind at *
  generalize op.path = path at *
  generalize op.at' = at' at *
  generalize op.text = text at *
  generalize op.new = new at *
  generalize op.line = line at *
  generalize iv 0 = i0 at *
  generalize iv 1 = i1 at *
  generalize iv 2 = i2 at *
  generalize iv 3 = i3 at *
  obtain ⟨y0, y1, y2, y3, y4, y5, y6, y7, y8, y9⟩ := ten hbx
  have HX := hidLL hWB
  have H0 := hidLL h
  have HB0 := hidLL hb0
  have HK2 := hidLL K2
  have HK3 := hidLL K3
  have HK4 := hidLL K4
  have HK5 := hidLL K5
  have HKC := hidLL KC
  have HT2 := hidLL T2
  have HT3 := hidLL T3
  have HT4 := hidLL T4
  have HT5 := hidLL T5
  have HT1 := hidLL T1
  clear hWB h hb0 hbx h1 hB1 hE E1 K2 K3 K4 K5 KC T1 T2 T3 T4 T5 hok hfi hiv
  by_cases k2 : kind = 2
  · have HO := hidLL (HT2.out k2)
    subst k2
    go_enter Tryz.func31, Tryz.ntmps31
    go_upto_region 1 with fail
    rw [← HX.out]
    go_wp2_with fail
    refine HK2.out.mono ?_
    rintro e w1 hch
    have HCh := hidLL (HAf.out _ _ _ hch)
    rw [← HO.out] at HCh
    have he : ∃ u, e = .returned u := by
      cases r2 with
      | bad c => obtain ⟨_, h2, _⟩ := hch; unfold EO at h2; split at h2; exact ⟨_, h2⟩; obtain ⟨k, _, _, h3⟩ := h2; exact ⟨_, h3⟩
      | ok y => exact ⟨_, hch.1⟩
    obtain ⟨u, rfl⟩ := he
    clear hch
    go_wp2
    go_ret
    exact HCh.out
  · have m2 : (kind == 2) = false := by rw [beq_eq_false_iff_ne]; exact k2
    by_cases k3 : kind = 3
    · have HO := hidLL (HT3.out k3)
      subst k3
      go_enter Tryz.func31, Tryz.ntmps31
      go_upto_region 1 with fail
      rw [← HX.out]
      go_wp2_with fail
      refine HK3.out.mono ?_
      rintro e w1 hch
      have HCh := hidLL (HAf.out _ _ _ hch)
      rw [← HO.out] at HCh
      have he : ∃ u, e = .returned u := by
        cases r3 with
        | bad c => obtain ⟨_, h2, _⟩ := hch; unfold EO at h2; split at h2; exact ⟨_, h2⟩; obtain ⟨k, _, _, h3⟩ := h2; exact ⟨_, h3⟩
        | ok y => exact ⟨_, hch.1⟩
      obtain ⟨u, rfl⟩ := he
      clear hch
      go_wp2
      go_ret
      exact HCh.out
    · have m3 : (kind == 3) = false := by rw [beq_eq_false_iff_ne]; exact k3
      by_cases k4 : kind = 4
      · have HO := hidLL (HT4.out k4)
        subst k4
        go_enter Tryz.func31, Tryz.ntmps31
        go_upto_region 1 with fail
        rw [← HX.out]
        go_wp2_with fail
        refine HK4.out.mono ?_
        rintro e w1 hch
        have HCh := hidLL (HAf.out _ _ _ hch)
        rw [← HO.out] at HCh
        have he : ∃ u, e = .returned u := by
          cases r4 with
          | bad c => obtain ⟨_, h2, _⟩ := hch; unfold EO at h2; split at h2; exact ⟨_, h2⟩; obtain ⟨k, _, _, h3⟩ := h2; exact ⟨_, h3⟩
          | ok y => exact ⟨_, hch.1⟩
        obtain ⟨u, rfl⟩ := he
        clear hch
        go_wp2
        go_ret
        exact HCh.out
      · have m4 : (kind == 4) = false := by rw [beq_eq_false_iff_ne]; exact k4
        by_cases k5 : kind = 5
        · have HO := hidLL (HT5.out k5)
          subst k5
          go_enter Tryz.func31, Tryz.ntmps31
          go_upto_region 1 with fail
          rw [← HX.out]
          go_wp2_with fail
          refine HK5.out.mono ?_
          rintro e w1 hch
          have HCh := hidLL (HAf.out _ _ _ hch)
          rw [← HO.out] at HCh
          have he : ∃ u, e = .returned u := by
            cases r5 with
            | bad c => obtain ⟨_, h2, _⟩ := hch; unfold EO at h2; split at h2; exact ⟨_, h2⟩; obtain ⟨k, _, _, h3⟩ := h2; exact ⟨_, h3⟩
            | ok y => exact ⟨_, hch.1⟩
          obtain ⟨u, rfl⟩ := he
          clear hch
          go_wp2
          go_ret
          exact HCh.out
        · have m5 : (kind == 5) = false := by rw [beq_eq_false_iff_ne]; exact k5
          have HO := hidLL (HT1.out k2 k3 k4 k5)
          clear HK2 HK3 HK4 HK5 HT1 HT2 HT3 HT4 HT5
          by_cases hc : chkB text = 0
          · rw [hc] at HKC
            rw [if_pos hc] at HO
            clear hc
            go_enter Tryz.func31, Tryz.ntmps31
            go_upto_region 1 with fail
            rw [← HX.out]
            go_wp2_with fail
            refine HKC.out.mono ?_
            rintro e w1 ⟨he, hb1⟩
            unfold EO at he
            rw [if_pos rfl] at he
            subst he
            have hbw := HB0.out.trans (hb1.mono HB0.out.size)
            have z3 := (hb1.cell (p := ⟨w.heap.size, 3, none⟩) (cell_lt y3)).trans y3
            have z1 := (H0.out.on hbw).cell (c := 1) (by omega)
            have zf := (H0.out.on hbw).frozen (o + 1)
            have HBw := hidLL hbw
            clear hb1 hbw y3
            generalize v 1 = old at *
            go_wp2
            go_ret
            rw [HO.out]
            obtain ⟨q1, q2⟩ := (H0.out.on HBw.out).setHead text (Fr.setCell (X := (· = b)) (Fr.refl _ w1) (p := ⟨b, o + 1, none⟩) (.inl rfl) (.string text)) rfl
            exact ChO.after HBw.out H0.out.lt hB ⟨rfl, S, _, q1, fun q hq => .inl hq, q2⟩
          · rw [if_neg hc] at HO
            have HC := hidLL hc
            clear hc
            generalize chkB text = cu at *
            go_enter Tryz.func31, Tryz.ntmps31
            go_upto_region 1 with fail
            rw [← HX.out]
            go_wp2_with fail
            refine HKC.out.mono ?_
            rintro e w1 ⟨he, hb1⟩
            unfold EO at he
            rw [if_neg HC.out] at he
            obtain ⟨k, hk1, hk2, rfl⟩ := he
            have H1 := hidLL (HB0.out.trans (hb1.mono HB0.out.size))
            have HK := hidLL hk1
            clear hb1 hk1
            unfold errI
            go_wp2
            go_ret
            rw [HO.out, HK.out]
            exact ⟨by omega, EO.err k hk2, H1.out.mono hB⟩
end Go.Proofs.YtpbolcjcmkmalaaGreatDoor
