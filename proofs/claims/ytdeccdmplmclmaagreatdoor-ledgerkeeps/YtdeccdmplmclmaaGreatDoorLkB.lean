/-
  Ledgers, the program: behind: the balances of the accounts of an entry, behind it.
-/
import Derived.Test.YtdeccdmplmclmaaGreatDoorLkSm
import Derived.BigRegion
namespace Go.Proofs.YtdeccdmplmclmaaGreatDoor
open Go.RowKit Go.Extern.Stop Go.Stop Go.Extern Go.Maps

/-- The sentinels that posting tells. -/
structure SentL (w : World) (p : Nat → Addr) : Prop where
  text : w.cell? ⟨2, 0, none⟩ = some (.iface 162 (.pointer (some (p 0))))
  bound : w.cell? ⟨0, 0, none⟩ = some (.iface 162 (.pointer (some (p 1))))
  coin : w.cell? ⟨4, 0, none⟩ = some (.iface 162 (.pointer (some (p 2))))
  day : w.cell? ⟨1, 0, none⟩ = some (.iface 162 (.pointer (some (p 3))))
  name : w.cell? ⟨3, 0, none⟩ = some (.iface 162 (.pointer (some (p 6))))
  order : w.cell? ⟨5, 0, none⟩ = some (.iface 162 (.pointer (some (p 7))))
theorem Laid.sentL {w : World} {p : Nat → Addr} (h : Laid w p) : SentL w p := ⟨h.cell 0 (by omega), h.cell 1 (by omega), h.cell 2 (by omega), h.cell 3 (by omega), h.cell 6 (by omega), h.cell 7 (by omega)⟩
theorem wf64 {n : Int} (h1 : -9000000000000000000 ≤ n) (h2 : n ≤ 9000000000000000000) : (Lit.int .i64 n).wf = true := WalkArith.wf_i64 (by omega)
set_option maxRecDepth 100000 in
/-- What a ledger's map tells of an account. -/
theorem look_bal {w : World} {B : Nat} {mv : Value} {L : List En} (h : MapG w B mv L) {a : ByteArray} (ha : a.size ≤ 1000000) : (Instr.lookup 51 mv (.string a) false).run Tryz.prog w = .ok (.int .i64 (balE a L)) w := by
  rcases h with ⟨rfl, rfl⟩ | ⟨mb, n, D, rfl, _, hM, _, hI⟩
  · have := Maps.look_nil (w := w) false lawStr Tryz.underlying51 (zeroIntW _) (keyA ha)
    simpa [balE] using this
  · obtain ⟨c, hrun, hat, _⟩ := hM.lookup_int lawStr Tryz.underlying51 Tryz.underlying3 (zeroIntW _) (keyA ha)
    rw [hI.at'] at hat
    injection hat with hat
    injection hat with _ hat
    rw [hat]
    exact hrun
theorem MapG.on {w w' : World} {B : Nat} {mv : Value} {L : List En} (h : MapG w B mv L) (hm : ∀ k n D, MapI w k n D → w'.heap[k]? = w.heap[k]?) : MapG w' B mv L := by
  rcases h with h1 | ⟨mb, n, D, e, hb, ⟨es, clock, hx, hrest⟩, hn, hI⟩
  · exact .inl h1
  · exact .inr ⟨mb, n, D, e, hb, ⟨es, clock, (hm mb n D ⟨es, clock, hx, hrest⟩).trans hx, hrest⟩, hn, hI⟩
theorem MapG.below {w w' : World} {B : Nat} {mv : Value} {L : List En} (h : MapG w B mv L) (hb : Below w.heap.size w w') : MapG w' B mv L := h.on fun k _ _ hk => hb.block k (MapI.lt' hk)
set_option maxRecDepth 100000 in
theorem string_key {key : Value} {kl : Lit} (h : Go.keyOf Tryz.prog 9 key = some kl) : ∃ x, key = .string x := by
  have hu := Tryz.underlying9
  cases key <;> simp [Go.keyOf, mapKey, hu] at h
  exact ⟨_, rfl⟩
set_option maxRecDepth 100000 in
theorem string_lit {x : ByteArray} {kl : Lit} (h : Go.keyOf Tryz.prog 9 (.string x) = some kl) : kl = kA x := by
  have h1 := h
  rw [Go.keyOf_string Tryz.underlying9] at h1
  unfold mapKey at h1
  simp only [Tryz.underlying9] at h1
  split at h1
  · injection h1 with h1
    exact h1.symm
  · cases h1
theorem wpList_next_si {w : World} {ops : Array Oper} {rest : List Oper} {o : Oper} {a : Act} {Q : Exit → Act → World → Prop} (hg : o.guard = none) (it : Operand) (hop : o.op = Op.next it false)
    (b r n : Nat) (D : DataW Unit) (left : Lit → Bool) (cnt : Nat) (hit : a.eval it = .pointer (some ⟨r, 0, none⟩)) (h : w.ranges Tryz.prog 9 (plainElem (H := Unit) Tryz.prog 3) b r n D left cnt)
    (hDone : cnt = 0 → (∀ kl, left kl = false) → wpList Tryz.prog ops Q rest (a.put o.dst (.tuple #[.bool false])) w)
    (hMore : ∀ (x : ByteArray) (c : Int) (w' : World) (cnt' : Nat), left (kA x) = true → (∀ zd, D.atKey (kA x) zd = iD c) → w'.ranges Tryz.prog 9 (plainElem (H := Unit) Tryz.prog 3) b r n D (fun z => left z && !z.sameKey (kA x)) cnt' → cnt' < cnt → w.grownBy w' (some r) → w'.heap.size = w.heap.size →
      (Instr.entry (.pointer (some ⟨r, 0, none⟩))).run Tryz.prog w' = .ok (.tuple #[.string x, .int .i64 c]) w' → wpList Tryz.prog ops Q rest (a.put o.dst (.tuple #[.bool true, .string x, .int .i64 c])) w') :
    wpList Tryz.prog ops Q (o :: rest) a w :=
  wpList_next_ranges w hg it hop 9 lawStr (plainElem (H := Unit) Tryz.prog 3) Value.string (Value.int .i64) (fun _ _ hkey => string_key hkey) (fun v y hv => by obtain ⟨c, rfl, _⟩ := plainElem_int_inv Tryz.underlying3 hv; exact ⟨c, rfl⟩)
    b r n D left cnt hit h hDone (fun x c kl y w' cnt' hkey hlk hv hat hrg hlt hgr hsz hen => by
      obtain rfl := string_lit hkey
      obtain ⟨c', e1, e2, _⟩ := plainElem_int_inv Tryz.underlying3 hv
      injection e1 with _ e1
      subst e1 e2
      exact hMore x c w' cnt' hlk hat hrg hlt hgr hsz hen)
/-- What behind answers. -/
def BehR (w : World) (p : Nat → Addr) (L : List En) (ls : List Ln) (e : Ending) (w' : World) : Prop :=
  (if ls.any badC = true ∨ tooB L ls = true then e = .returned (.tuple #[.map none, .iface 162 (.pointer (some (p 2)))])
   else if sumL ls ≠ 0 then e = .returned (.tuple #[.map none, .iface 162 (.pointer (some (p 7)))])
   else ∃ mb D, e = .returned (.tuple #[.map (some mb), .nilIface]) ∧ w.heap.size ≤ mb ∧ MapI w' mb 40 D ∧ IsBeh D ls (fun a => balE a L + balL a ls) ∧ Tidy D) ∧ Below w.heap.size w w'
set_option maxHeartbeats 4000000 in
set_option maxRecDepth 10000 in
theorem behind_p {gb B n c : Nat} {a : Option Addr} {v mv : Value} {L : List En} {ls : List Ln} {p : Nat → Addr} {w : World} (hG : LG w gb B v mv L) (hL : Good L) (h : RdS lnE w (· < w.heap.size) (.slice a n c) ls) (hn20 : n ≤ 20) (hw : ∀ x, x ∈ ls → isWordB x.acc = true) (hs : SentL w p) :
    Calls Tryz.prog 16 #[.pointer (some ⟨gb, 0, none⟩), .slice a n c] w (BehR w p L ls) := by
  obtain ⟨hn, hbig⟩ := h.len
  have HC := hidLL (contains_c h (Nat.le_refl _))
  have HR := hidLL (And.intro h hn)
  have HS := hidLL hs
  have HG := hidLL hG
  have HL := hidLL hL
  have HW : Hid (∀ x, x ∈ ls → x.acc.size ≤ 24) := fun x hx => by
    have := hw x hx
    unfold isWordB at this
    rw [Bool.and_eq_true, Bool.and_eq_true] at this
    exact of_decide_eq_true this.1.2
  clear h hn hs hG hL hw
  have hmm := @run_makeMap Tryz.prog
  cases hbad : ls.any badC
  case true =>
    rw [hbad] at HC
    go_enter Tryz.func16, Tryz.ntmps16
    go_wp2_with fail
    refine HC.out.mono ?_
    rintro e w1 ⟨rfl, hb1⟩
    have g1 : w1.cell? ⟨4, 0, none⟩ = _ := (hb1.cell (p := ⟨4, 0, none⟩) (cell_lt HS.out.coin)).trans HS.out.coin
    have HB1 := hidLL hb1
    have HBd := hidLL hbad
    clear hb1 hbad
    go_wp2_with fail
    go_quiet (fail)
    go_wp2
    go_ret2
    refine ⟨?_, bdrewN HB1.out _⟩
    rw [if_pos (.inl HBd.out)]
    rfl
  case false =>
    rw [hbad] at HC
    have HCt : Hid (∀ x, x ∈ ls → -1000000000000 ≤ x.cents ∧ x.cents ≤ 1000000000000) := fun x hx => by
      have h1 : badC x = false := by simpa using (List.any_eq_false.1 hbad) x hx
      exact okC_iff.1 (by unfold badC at h1; simpa using h1)
    have HBd := hidLL hbad
    clear hbad
    go_enter Tryz.func16, Tryz.ntmps16
    go_wp2_with fail
    refine HC.out.mono ?_
    rintro e w1 ⟨rfl, hb1⟩
    have HB1 := hidLL hb1
    clear hb1 HC
    obtain ⟨mb, hmb⟩ : ∃ mb, mb = w1.heap.size := ⟨_, rfl⟩
    have hwm : w.heap.size ≤ mb := by rw [hmb]; exact HB1.out.size
    have HStart : Hid (MapI (w1.alloc (.map #[] 0)) mb 0 (.map [])) := by rw [hmb]; exact World.ownsMap_made _ _ _ _
    have HBs : Hid (Below mb w1 (w1.alloc (.map #[] 0)) ∧ mb < (w1.alloc (.map #[] 0)).heap.size) := by rw [hmb]; exact ⟨bel1 _ _, by simp⟩
    have HG1 := hidLL (HG.out.below HB1.out)
    have HR1 : Hid (RdS lnE w1 (· < w.heap.size) (.slice a n c) ls) := HR.out.1.below HB1.out
    have HMb := hidLL hmb
    go_wp2_with fail
    rw [← hmb]
    clear hmb
    go_loopw [22] (fun t wr => ∃ (i : Nat) (D : DataW Unit), i ≤ n ∧ t = .int .i64 i ∧ MapI wr mb i D ∧ IsBeh D (ls.take i) (fun a => balE a L) ∧ Below mb w1 wr ∧ mb < wr.heap.size) (fun t _ => n - (RowKit.intOf t).toNat)
    case atStart => exact ⟨0, _, by omega, rfl, HStart.out, IsBeh.nil _, HBs.out⟩
    case round =>
      clear HStart HBs
      obtain ⟨i, D, hi, rfl, hM, hI, hb, hmlt⟩ := hrel
      have HM := hidLL hM
      have HI := hidLL hI
      have HB := hidLL hb
      clear hM hI hb
      by_cases hlt : i < n
      · have c0 : decide ((i : Int) < n) = true := by simp; omega
        have hiz : (i : Int) < n := by omega
        obtain ⟨x, hx, _⟩ := get_in (l := ls) (i := i) (by have := HR.out.2; omega)
        obtain ⟨g, o, rfl, hg, hrg⟩ := (HR1.out.on (w' := wr) (S' := (· < w.heap.size)) fun k hk => ⟨hk, HB.out.block k (by omega)⟩).at hx
        obtain ⟨q0, q1⟩ := ln_cells hrg
        have hk2 : lnE.k = 2 := rfl
        rw [hk2] at q0 q1
        have hsz := HW.out x (List.mem_of_getElem? hx)
        have HX := hidLL (take_succ' hx)
        have HPut := hidLL (HI.out.put x)
        obtain ⟨xa, xc⟩ := x
        simp only at q0 q1 hsz HPut
        have hgne : ¬ g = wr.heap.size := by omega
        have hgb := HG1.out.lt
        have hgbm : gb < mb := by have := HMb.out; omega
        have hgbne : ¬ gb = wr.heap.size := by omega
        have e1 : wr.cell? ⟨gb, 1, none⟩ = some mv := (HB.out.cell (p := ⟨gb, 1, none⟩) hgbm).trans HG1.out.c1
        obtain ⟨W, hW⟩ : ∃ W, W = wr.alloc (.cells #[.string xa, .int .i64 xc] 49) := ⟨_, rfl⟩
        have hbW : Below wr.heap.size wr W := by rw [hW]; exact bel1 _ _
        have z0 : W.cell? ⟨wr.heap.size, 0, none⟩ = some (.string xa) := by rw [hW]; simp
        have z1 : W.cell? ⟨gb, 1, none⟩ = some mv := (hbW.cell (p := ⟨gb, 1, none⟩) (show gb < wr.heap.size by omega)).trans e1
        have hMG : MapG W B mv L := (HG1.out.map.on (w' := wr) fun k _ _ hk => HB.out.block k (by have := MapI.lt' hk; have := HMb.out; omega)).below hbW
        have hMG2 : MapG W.drew B mv L := hMG.on fun _ _ _ _ => rfl
        have l1 := look_bal hMG2 (a := xa) (by omega)
        have hMI : MapI W mb i D := by
          obtain ⟨es, clock, hx1, hrest⟩ := HM.out
          exact ⟨es, clock, (hbW.block mb hmlt).trans hx1, hrest⟩
        have hMI2 : MapI W.drew mb i D := hMI
        obtain ⟨b1, b2⟩ := HL.out.bal xa
        obtain ⟨w9, u1, hM9, hg9⟩ := hMI2.update lawStr Tryz.underlying51 (by unfold maxLen; omega) (keyA (a := xa) (by omega)) (plainElem_int (H := Unit) Tryz.underlying3 (wf64 (n := balE xa L) (by omega) (by omega)))
        have HM9 := hidLL (And.intro hM9 hg9)
        have HbW := hidLL hbW
        generalize balE xa L = bx at *
        clear hx hrg hk2 hMG hMG2 hMI hMI2 hM9 hg9 hbW e1
        go_wp2_with fail
        rw [← hW]
        clear hW
        go_region
        go_wp2
        go_roundw
        case rel =>
          have hb9 : Below mb w1 w9 := (HB.out.trans (HbW.out.mono (by omega))).drew.grown HM9.out.2 (by have := HbW.out.size; show mb ≤ W.heap.size; omega) (fun k hk => by injection hk with hk; omega)
          refine ⟨i + 1, _, hlt, by go_num, HM9.out.1, ?_, hb9, ?_⟩
          · rw [HX.out]
            exact HPut.out
          · have h1 := HM9.out.2.size
            have h2 := HbW.out.size
            have h3 : W.heap.size ≤ w9.heap.size := h1
            omega
        case measure => simp [RowKit.intOf]; omega
      · have c0 : decide ((i : Int) < n) = false := by simp; omega
        have hfull : ls.take i = ls := List.take_of_length_le (by have := HR.out.2; omega)
        obtain ⟨D0, hD0⟩ : ∃ D0, D0 = D := ⟨_, rfl⟩
        have HI0 : Hid (IsBeh D0 ls (fun a => balE a L + balL a (ls.take 0))) := by
          have := HI.out
          rw [hfull] at this
          rw [hD0]
          exact this.congr fun a _ => by simp [balL]
        have HM0 : Hid (MapI wr mb 20 D0) := by rw [hD0]; exact HM.out.mono (by omega)
        have HB0 := hidLL (And.intro HB.out hmlt)
        clear hfull hD0 HI HM HB hmlt c0
        obtain ⟨w2, hw2⟩ : ∃ w2 : World, w2 = wr := ⟨_, rfl⟩
        subst wr
        go_wp2_with fail
        go_loopw [10, 39] (fun s t wr => ∃ (j : Nat) (y : Int) (D : DataW Unit), j ≤ n ∧ s = .int .i64 y ∧ t = .int .i64 j ∧ y = sumL (ls.take j) ∧ -(1000000000000 * (j : Int)) ≤ y ∧ y ≤ 1000000000000 * (j : Int) ∧ MapI wr mb (20 + j) D ∧ IsBeh D ls (fun a => balE a L + balL a (ls.take j)) ∧ Tidy D ∧ Below mb w1 wr ∧ mb < wr.heap.size) (fun _ t _ => n - (RowKit.intOf t).toNat)
        case atStart => exact ⟨0, 0, D0, by omega, rfl, rfl, rfl, by omega, by omega, HM0.out, HI0.out, HM0.out.tidy lawStr, HB0.out⟩
        case round =>
          clear HM0 HI0 HB0
          obtain ⟨j, y, D, hj, rfl, rfl, hy, hy1, hy2, hM, hI, hT, hb, hmlt⟩ := hrel
          have HY := hidLL hy
          have HM := hidLL hM
          have HI := hidLL hI
          have HT := hidLL hT
          have HB := hidLL hb
          clear hy hM hI hT hb
          by_cases hlt : j < n
          · have c0 : decide ((j : Int) < n) = true := by simp; omega
            have hiz : (j : Int) < n := by omega
            obtain ⟨x, hx, _⟩ := get_in (l := ls) (i := j) (by have := HR.out.2; omega)
            obtain ⟨g, o, rfl, hg, hrg⟩ := (HR1.out.on (w' := wr) (S' := (· < w.heap.size)) fun k hk => ⟨hk, HB.out.block k (by omega)⟩).at hx
            obtain ⟨q0, q1⟩ := ln_cells hrg
            have hk2 : lnE.k = 2 := rfl
            rw [hk2] at q0 q1
            have hmem := List.mem_of_getElem? hx
            have hsz := HW.out x hmem
            obtain ⟨x1, x2⟩ := HCt.out x hmem
            have hin := accIn_mem hmem
            have HX := hidLL (take_succ' hx)
            obtain ⟨b1, b2⟩ := HL.out.bal x.acc
            have hbl := balL_bd x.acc (ls.take j) (fun z hz => HCt.out z (List.mem_of_mem_take hz))
            have hblen : ((ls.take j).length : Int) ≤ 20 := by rw [List.length_take]; omega
            obtain ⟨f, hf⟩ : ∃ f, f = balE x.acc L + balL x.acc (ls.take j) := ⟨_, rfl⟩
            have hfb : -21000000000000 ≤ f ∧ f ≤ 21000000000000 := by omega
            have hat := HI.out.at' x.acc hin
            rw [← hf] at hat
            have HUp := hidLL ((HI.out.upd hin (f + x.cents)).congr (g := fun a => balE a L + balL a (ls.take (j + 1))) (fun a ha => by
              show (if x.acc = a then f + x.cents else balE a L + balL a (ls.take j)) = _
              rw [HX.out, balL_app']
              have e1 : balL a [x] = if x.acc = a then x.cents else 0 := by simp [balL]
              rw [e1]
              by_cases e : x.acc = a
              · subst e
                rw [if_pos rfl, if_pos rfl, hf]
                omega
              · rw [if_neg e, if_neg e]
                omega))
            have HS1 : Hid (y + x.cents = sumL (ls.take (j + 1))) := by
              show _ = _
              rw [HX.out, sumL_app', ← HY.out]
              simp [sumL]
            obtain ⟨xa, xc⟩ := x
            simp only at q0 q1 hsz x1 x2 hat HUp HS1
            have hgne : ¬ g = wr.heap.size := by omega
            have HK := hidLL (keyA (a := xa) (by omega))
            have HAt := hidLL hat
            have HTp := hidLL (HT.out.put (kA_key xa) (iD (f + xc)))
            have HMa : Hid (∀ ob, MapI (wr.alloc ob) mb (20 + j) D) := fun ob => HM.out.alloc ob
            clear hx hrg hk2 hmem hin hbl hblen hf hat b1 b2
            go_wp2_with (first
              | (at_lookup; refine wpList_lookup_own_int _ rfl _ _ 51 rfl 9 3 .i64 lawStr Tryz.underlying51 Tryz.underlying3 (zeroIntW _) mb (20 + j) D rfl (HMa.out _) (.string xa) (kA xa) rfl HK.out ?_; intro cc hcc hwc; (obtain rfl : cc = f := (by rw [HAt.out] at hcc; injection hcc with hcc; injection hcc with _ hcc; exact hcc.symm)); clear hcc hwc)
              | (at_mapUpdate; refine wpList_mapUpdate_own _ rfl _ _ _ 51 rfl 9 3 lawStr Tryz.underlying51 (plainElem (H := Unit) Tryz.prog 3) mb (20 + j) D rfl (HMa.out _) (by unfold maxLen; omega) (.string xa) (.int .i64 (cc + xc)) (kA xa) rfl rfl HK.out _ [] (plainElem_int (H := Unit) Tryz.underlying3 (wf64 (n := cc + xc) (by omega) (by omega))) ?_; intro w9 hM9 hg9; have z9 : w9.cell? ⟨wr.heap.size, 1, none⟩ = some (.int .i64 xc) := (World.cell?_of_block (a := ⟨wr.heap.size, 1, none⟩) (hg9.block wr.heap.size (by simp) (by intro e; injection e with e; omega))).trans (by simp); have HM9 := hidLL (And.intro hM9 hg9); clear hM9 hg9))
            go_roundw
            case rel =>
              have hs9 := HM9.out.2.size
              simp at hs9
              refine ⟨j + 1, y + xc, _, hlt, by go_num, by go_num, HS1.out, by omega, by omega, HM9.out.1, HUp.out, HTp.out, ?_, by omega⟩
              exact (HB.out.trans ((bel1 wr _).mono (by omega))).grown HM9.out.2 (by simp; omega) (fun k hk => by injection hk with hk; omega)
            case measure => simp [RowKit.intOf]; omega
          · have c0 : decide ((j : Int) < n) = false := by simp; omega
            have hfull : ls.take j = ls := List.take_of_length_le (by have := HR.out.2; omega)
            have HY2 : Hid (y = sumL ls) := by have := HY.out; rw [hfull] at this; exact this
            have HI2 : Hid (IsBeh D ls (fun a => balE a L + balL a ls)) := by have := HI.out; rw [hfull] at this; exact this
            have HM2 : Hid (MapI wr mb 40 D) := HM.out.mono (by omega)
            have HB2 := hidLL (And.intro HB.out hmlt)
            obtain ⟨w3, hw3⟩ : ∃ w3 : World, w3 = wr := ⟨_, rfl⟩
            subst wr
            clear hfull HY HI HM HB hmlt c0
            go_wp2_with (at_range; refine wpList_range_own _ rfl _ 51 rfl 9 3 lawStr Tryz.underlying51 (plainElem (H := Unit) Tryz.prog 3) mb 40 D rfl HM2.out ?_; intro w4 hrg4 hg4 hs4)
            go_frame
            have HRg := hidLL hrg4
            have HB4 := hidLL (And.intro ((HB2.out.1.grown hg4 (by have := HB2.out.2; omega) (fun k hk => by cases hk))) (show mb < w4.heap.size by have := HB2.out.2; omega))
            have hr9 : mb < w3.heap.size := HB2.out.2
            clear hrg4 hg4 hs4
            go_loopw [14] (fun _ wr => ∃ (left : Lit → Bool) (cnt : Nat), wr.ranges Tryz.prog 9 (plainElem (H := Unit) Tryz.prog 3) mb w3.heap.size 40 D left cnt ∧ (∀ a, accIn a ls = true → left (kA a) = false → okC (balE a L + balL a ls) = true) ∧ Below mb w1 wr) (fun _ wr => wr.rangeLeft mb w3.heap.size)
            case atStart => exact ⟨_, _, HRg.out, (fun a ha hl => by rw [HI2.out.has, ha] at hl; cases hl), HB4.out.1⟩
            case round =>
              clear HRg HB4
              obtain ⟨left, cnt, hrg, hok, hb⟩ := hrel
              have HRg := hidLL hrg
              have HOk := hidLL hok
              have HB := hidLL hb
              clear hrg hok hb
              go_wp2_with (at_next; refine wpList_next_si rfl _ rfl mb w3.heap.size 40 D left cnt rfl HRg.out ?_ ?_)
              · intro _ hl0
                have HOk2 : Hid (tooB L ls = false) := List.any_eq_false.2 fun x hx => by rw [HOk.out x.acc (accIn_mem hx) (hl0 _)]; simp
                have hrgo := HRg.out.owns
                have HMo := hidLL hrgo
                clear hl0 hrgo
                have g2 : wr.cell? ⟨5, 0, none⟩ = some (.iface 162 (.pointer (some (p 7)))) := (HB.out.cell (p := ⟨5, 0, none⟩) (show 5 < mb by have := cell_lt HS.out.order; omega)).trans ((HB1.out.cell (p := ⟨5, 0, none⟩) (cell_lt HS.out.order)).trans HS.out.order)
                have HBf : Hid (Below w.heap.size w wr) := HB1.out.trans (HB.out.mono hwm)
                have HNo : Hid (¬ (ls.any badC = true ∨ tooB L ls = true)) := by
                  show ¬ _
                  rw [HBd.out, HOk2.out]
                  simp
                by_cases hy0 : y = 0
                · subst hy0
                  go_wp2
                  go_ret2
                  refine ⟨?_, HBf.out⟩
                  rw [if_neg HNo.out, if_neg (by have := HY2.out; simpa using this.symm)]
                  exact ⟨mb, D, rfl, hwm, HMo.out, HI2.out, HM2.out.tidy lawStr⟩
                · have hyb : (y != 0) = true := by simpa using hy0
                  have HYn : Hid (sumL ls ≠ 0) := by have := HY2.out; show _ ≠ _; rw [← this]; exact hy0
                  clear hy0
                  go_wp2_with fail
                  go_quiet (fail)
                  go_wp2
                  go_ret2
                  refine ⟨?_, bdrewN HBf.out _⟩
                  rw [if_neg HNo.out, if_pos HYn.out]
                  rfl
              · intro x cc w5 cnt5 hlk hat hrg5 hcnt hg5 hs5 hen
                have hhas : Maps.has D (kA x) = true := has_true_of_atKey hat
                rw [HI2.out.has] at hhas
                have hfx : balE x L + balL x ls = cc := by
                  have h1 := HI2.out.at' x hhas
                  rw [hat] at h1
                  injection h1 with h1
                  injection h1 with _ h1
                  exact h1.symm
                have HBf : Hid (Below mb w1 w5) := HB.out.grown hg5 (by have := HRg.out.lt; omega) (fun k hk => by injection hk with hk; omega)
                have HRg5 := hidLL hrg5
                have HIn := hidLL (And.intro hhas (And.intro hfx hcnt))
                have HAm := hidLL (fun w => amount_any cc w)
                cases hcb : okC cc
                · rw [hcb] at HAm
                  have HTo : Hid (tooB L ls = true) := by
                    obtain ⟨z, hz, hza⟩ := List.any_eq_true.1 hhas
                    have hza : z.acc = x := by simpa using hza
                    refine List.any_eq_true.2 ⟨z, hz, ?_⟩
                    rw [hza, hfx, hcb]
                    rfl
                  have g2 : w5.cell? ⟨4, 0, none⟩ = some (.iface 162 (.pointer (some (p 2)))) := (HBf.out.cell (p := ⟨4, 0, none⟩) (show 4 < mb by have := cell_lt HS.out.coin; omega)).trans ((HB1.out.cell (p := ⟨4, 0, none⟩) (cell_lt HS.out.coin)).trans HS.out.coin)
                  clear hlk hat hrg5 hcnt hg5 hs5 hhas hfx hcb
                  go_wp2_with fail
                  refine (HAm.out _).mono ?_
                  rintro e w6 ⟨rfl, ew⟩
                  subst w6
                  go_wp2_with fail
                  go_quiet (fail)
                  go_wp2
                  go_ret2
                  refine ⟨?_, bdrewN (HB1.out.trans (HBf.out.mono hwm)) _⟩
                  rw [if_pos (.inr HTo.out)]
                  rfl
                · rw [hcb] at HAm
                  have HOk5 : Hid (∀ a, accIn a ls = true → (left (kA a) && !(kA a).sameKey (kA x)) = false → okC (balE a L + balL a ls) = true) := fun a ha hl => by
                    by_cases e : a = x
                    · rw [e, hfx]
                      exact hcb
                    · rw [sameKey_ne (fun q => e (kA_inj q))] at hl
                      exact HOk.out a ha (by simpa using hl)
                  clear hlk hat hrg5 hcnt hg5 hs5 hhas hfx hcb
                  go_wp2_with fail
                  refine (HAm.out _).mono ?_
                  rintro e w6 ⟨rfl, ew⟩
                  subst w6
                  go_wp2
                  go_roundw
                  case rel => exact ⟨_, _, HRg5.out, HOk5.out, HBf.out⟩
                  case measure =>
                    rw [HRg5.out.left_eq, HRg.out.left_eq]
                    exact HIn.out.2.2
end Go.Proofs.YtdeccdmplmclmaaGreatDoor
