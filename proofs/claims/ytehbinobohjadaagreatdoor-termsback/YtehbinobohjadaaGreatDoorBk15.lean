/-
  The program's tokens: all of a line.
-/
import Derived.Test.YtehbinobohjadaaGreatDoorBk14
import Derived.Test.YtehbinobohjadaaGreatDoorBk08
import Derived.Test.YtehbinobohjadaaGreatDoorBk09
namespace Go.Proofs.YtehbinobohjadaaGreatDoor
open Go.RowKit Go.Extern.Stop Go.Stop Go.Extern

/-- The token at a place of a line. -/
def qtokAt (l : List UInt8) (p : Nat) : Tok := ⟨(qtokOf l).1, ⟨(l.take (qtokOf l).2).toArray⟩, p, 0⟩
def qtoksGo : Nat → List UInt8 → Nat → List Tok
  | 0, _, p => [⟨.e, ⟨#[]⟩, p, 0⟩]
  | _ + 1, [], p => [⟨.e, ⟨#[]⟩, p, 0⟩]
  | f + 1, c :: r, p => if c = 32 then qtoksGo f r (p + 1) else qtokAt (c :: r) p :: qtoksGo f ((c :: r).drop (qtokOf (c :: r)).2) (p + (qtokOf (c :: r)).2)
/-- The tokens of a line, as the program has them. -/
def qtoks (s : ByteArray) : List Tok := qtoksGo (s.size + 1) s.data.toList 0
def tokE : Enc Tok := ⟨fun t => [.int .i64 (kN t.kind), .string t.text, .int .i64 t.pos], 3, by decide, fun _ => rfl, fun t u h => by
  simp only [List.mem_cons, List.not_mem_nil, or_false] at h
  rcases h with rfl | rfl | rfl <;> rfl⟩
theorem Tryz.infoTk : ∃ i z, Tryz.prog.info? 91 = some i ∧ i.zero = some z ∧ i.size = 3 ∧ i.bytes = 32 ∧ z.cells.size = 3 := by
  have h : (Tryz.prog.info? 91).map (fun i => (i.zero.map (fun z => z.cells.size), i.size, i.bytes)) = some (some 3, 3, 32) := by kernel_rfl
  obtain ⟨i, hi, e⟩ := Option.map_eq_some_iff.1 h
  injection e with e1 e2
  injection e2 with e2 e3
  obtain ⟨z, hz, e4⟩ := Option.map_eq_some_iff.1 e1
  exact ⟨i, z, hi, hz, e2, e3, e4⟩
/-- What the loop keeps: these tokens are made, the rest stands from here on. -/
structure QInv (s : ByteArray) (ts : List Tok) (i : Nat) : Prop where
  le : i ≤ s.size
  few : ts.length ≤ i
  eq : ∃ f, s.size - i < f ∧ qtoks s = ts ++ qtoksGo f (s.data.toList.drop i) i
theorem QInv.start (s : ByteArray) : QInv s [] 0 := ⟨by omega, Nat.le_refl _, s.size + 1, by omega, rfl⟩
theorem QInv.last {s : ByteArray} {ts : List Tok} (h : QInv s ts s.size) : qtoks s = ts ++ [⟨.e, ⟨#[]⟩, s.size, 0⟩] := by
  obtain ⟨f, hf, e⟩ := h.eq
  rw [List.drop_of_length_le (by rw [bl_len]; exact Nat.le_refl _)] at e
  obtain ⟨f, rfl⟩ : ∃ g, f = g + 1 := ⟨f - 1, by omega⟩
  exact e
theorem QInv.blank {s : ByteArray} {ts : List Tok} {i : Nat} (h : QInv s ts i) (hi : i < s.size) (hb : s[i] = 32) : QInv s ts (i + 1) := by
  obtain ⟨f, hf, e⟩ := h.eq
  obtain ⟨f, rfl⟩ : ∃ g, f = g + 1 := ⟨f - 1, by omega⟩
  rw [drop_get s i hi, qtoksGo, if_pos hb] at e
  have := h.few
  exact ⟨hi, by omega, f, by omega, e⟩
theorem QInv.next {s : ByteArray} {ts : List Tok} {i : Nat} (h : QInv s ts i) (hi : i < s.size) (hb : s[i] ≠ 32) : QInv s (ts ++ [qtokAt (s.data.toList.drop i) i]) (i + (qtokOf (s.data.toList.drop i)).2) := by
  obtain ⟨f, hf, e⟩ := h.eq
  obtain ⟨f, rfl⟩ : ∃ g, f = g + 1 := ⟨f - 1, by omega⟩
  have h1 := qtok_le (l := s.data.toList.drop i) (by rw [List.length_drop, bl_len]; omega)
  have h2 := qtok_pos (s.data.toList.drop i)
  rw [List.length_drop, bl_len] at h1
  have h3 := h.few
  rw [drop_get s i hi, qtoksGo, if_neg hb, ← drop_get s i hi, List.drop_drop] at e
  refine ⟨by omega, by simp only [List.length_append, List.length_singleton]; omega, f, by omega, ?_⟩
  rw [e, List.append_assoc]
  rfl
theorem blank_is (s : ByteArray) (i : Nat) (hi : i < s.size) : ((s.extract i (i + 1)).toList == [32]) = decide (s[i] = 32) := by
  rw [Lib.toList_data, ext_list, List.drop_take, show i + 1 - i = 1 by omega, drop_get s i hi]
  rw [Bool.eq_iff_iff]
  simp
def ToksR (s : ByteArray) (w : World) (e : Ending) (w' : World) : Prop := ∃ v, e = .returned v ∧ RowG tokE 91 w' w.heap.size v (qtoks s) ∧ Below w.heap.size w w'
set_option maxRecDepth 20000 in
set_option maxHeartbeats 1000000 in
theorem tokensOf_q (s : ByteArray) (hs : s.size ≤ 10000) (w : World) : Calls Tryz.prog 17 #[.string s] w (ToksR s w) := by
  have HT := hidLL (fun p hp W => tokenAt_q s (by omega) p hp W)
  go_enter Tryz.func17, Tryz.ntmps17
  go_wp2_with fail
  go_loopw [3, 4] (fun lv iv wr => ∃ (i : Nat) (ts : List Tok) (la : Option Addr) (ln lc : Nat), i ≤ s.size ∧ iv = .int .i64 i ∧ lv = .slice la ln lc ∧ ln = ts.length ∧ QInv s ts i ∧ RowG tokE 91 wr w.heap.size (.slice la ln lc) ts ∧ Below w.heap.size w wr) (fun _ iv _ => (s.size - RowKit.intOf iv).toNat)
  case atStart => exact ⟨0, [], none, 0, 0, by omega, rfl, rfl, rfl, QInv.start s, RowG.nil _ _, Below.refl _ _⟩
  case round =>
    obtain ⟨i, ts, la, ln, lc, hi, rfl, rfl, hln, hq, hrow, hb⟩ := hrel
    have HQ := hidLL hq
    have HR := hidLL hrow
    have HB := hidLL hb
    have hfew := hq.few
    have HLn := hidLL hln
    have hsz := hb.size
    have hts : ts.length ≤ 10000 := by omega
    clear hq hrow hb hln hfew
    by_cases hin : i < s.size
    · have hiz : (i : Int) < s.size := by omega
      have hi1 : i + 1 ≤ s.size := hin
      have hi1z : (i : Int) + 1 ≤ s.size := by omega
      have hi2z : ((i : Int) + 1).toNat = i + 1 := by omega
      have hi3z : (0 : Int) ≤ (i : Int) + 1 := by omega
      have hi4z : (i : Int) ≤ (i : Int) + 1 := by omega
      have HBl := hidLL (blank_is s i hin)
      by_cases hbl : s[i] = 32
      · have hb1 : ((s.extract i (i + 1)).toList == [32]) = true := by rw [HBl.out]; exact decide_eq_true hbl
        have HQ2 := hidLL (HQ.out.blank hin hbl)
        clear HBl hbl
        go_wp2
        go_roundw
        case rel => exact ⟨i + 1, ts, la, ln, lc, by omega, by go_num, rfl, HLn.out, HQ2.out, HR.out, HB.out⟩
        case measure => simp [RowKit.intOf]; omega
      · have hb1 : ((s.extract i (i + 1)).toList == [32]) = false := by rw [HBl.out]; exact decide_eq_false hbl
        have HQ2 := hidLL (HQ.out.next hin hbl)
        have h1 := qtok_le (l := s.data.toList.drop i) (by rw [List.length_drop, bl_len]; omega)
        rw [List.length_drop, bl_len] at h1
        have h2 := qtok_pos (s.data.toList.drop i)
        have HX : Hid ((s.extract i s.size).extract 0 (qtokOf (s.data.toList.drop i)).2 = ⟨((s.data.toList.drop i).take (qtokOf (s.data.toList.drop i)).2).toArray⟩) := by
          show _ = _
          apply ByteArray.ext
          apply Array.toList_inj.1
          rw [ext_take, ext_drop]
        have HZ : Hid (((s.extract i s.size).extract 0 (qtokOf (s.data.toList.drop i)).2).size = (qtokOf (s.data.toList.drop i)).2) := by
          show _ = _
          rw [← bl_len, ext_take, ext_drop, List.length_take, List.length_drop, bl_len]
          omega
        have HC := hidLL (HT.out i hin)
        have HA : Hid (qtokAt (s.data.toList.drop i) i = ⟨(qtokOf (s.data.toList.drop i)).1, (s.extract i s.size).extract 0 (qtokOf (s.data.toList.drop i)).2, i, 0⟩) := by
          show _ = _
          rw [HX.out]; rfl
        clear HBl hbl HX
        generalize qtokAt (s.data.toList.drop i) i = tk at *
        generalize (qtokOf (s.data.toList.drop i)).2 = z at *
        generalize (s.extract i s.size).extract 0 z = tx at *
        generalize (qtokOf (s.data.toList.drop i)).1 = kd at *
        have hzz := HZ.out
        clear HZ
        subst hzz
        have h1z : (i : Int) + tx.size ≤ s.size := by omega
        go_wp2_with fail
        refine (HC.out _).mono ?_
        rintro e w1 ⟨rfl, hb1'⟩
        have hw1 := hb1'.size
        have hbA : Below wr.heap.size wr (w1.alloc (.cells #[.int .i64 (kN kd), .string tx, .int .i64 i] 91)) := hb1'.alloc hw1 _
        have HRA := hidLL (HR.out.below hbA)
        have HBA := hidLL (HB.out.trans (hbA.mono hsz))
        have HNew : Hid ((w1.alloc (.cells #[.int .i64 (kN kd), .string tx, .int .i64 i] 91)).cell? ⟨w1.heap.size, 1, none⟩ = some (.string tx)) := alloc_range w1 [.int .i64 (kN kd), .string tx, .int .i64 i] 91 1 _ rfl
        have HOwn : Hid (∀ k, (Value.slice la ln lc).ownBlock = some k → k < wr.heap.size) := fun k hk => (HR.out.blk hk).2
        have hsA : w.heap.size ≤ (w1.alloc (.cells #[.int .i64 (kN kd), .string tx, .int .i64 i] 91)).heap.size := by simp; omega
        clear hb1' hbA
        go_wp2_with (at_builtin; go_loud (refine wpList_push_g (E := tokE) Tryz.infoTk (by decide) Tryz.underlying59 rfl (.tmp 21) (.tmp 23) rfl w.heap.size (.slice la ln lc) ts ⟨kd, tx, i, 0⟩ _ rfl (by simp [Act.eval]) HRA.out (by simp [Act.eval]) hsA (by omega) ?_); intro v' w2 hr2 hb2 hk2 hn2; (obtain ⟨pa, pn, pc, rfl, hpn⟩ := hr2.any3); (have c1 : w2.cell? ⟨w1.heap.size, 1, none⟩ = some (.string tx) := (World.cell?_of_block (a := ⟨w1.heap.size, 1, none⟩) (hk2 w1.heap.size (fun e => by have := HOwn.out _ e; omega) (by simp))).trans HNew.out); have HR2 := hidLL hr2; have HB2 := hidLL (HBA.out.trans hb2); have HPn := hidLL hpn; clear hr2 hb2 hk2 hn2 hpn)
        go_roundw
        case rel => exact ⟨i + tx.size, ts ++ [tk], pa, pn, pc, by omega, by go_num, rfl, by rw [HPn.out]; simp, HQ2.out, by rw [HA.out]; exact HR2.out, HB2.out⟩
        case measure => simp [RowKit.intOf]; omega
    · obtain rfl : i = s.size := by omega
      have HQ2 := hidLL HQ.out.last
      have hsA : w.heap.size ≤ wr.heap.size := hsz
      have hiz : ¬ (s.size : Int) < s.size := by omega
      go_wp2_with (at_builtin; go_loud (refine wpList_push_g (E := tokE) Tryz.infoTk (by decide) Tryz.underlying59 rfl (.tmp 30) (.tmp 34) rfl w.heap.size (.slice la ln lc) ts ⟨.e, ⟨#[]⟩, s.size, 0⟩ _ rfl (by simp [Act.eval]) HR.out (by simp [Act.eval]) hsA (by omega) ?_); intro v' w2 hr2 hb2 hk2 hn2; have HR2 := hidLL hr2; have HB2 := hidLL (HB.out.trans hb2); clear hr2 hb2 hk2 hn2)
      go_ret
      exact ⟨_, rfl, by rw [HQ2.out]; exact HR2.out, HB2.out⟩
end Go.Proofs.YtehbinobohjadaaGreatDoor
namespace Go.Proofs.YtehbinobohjadaaGreatDoor
open Go.RowKit Go.Extern.Stop Go.Stop Go.Extern

theorem hasPoint_q (t : Tok) {ds cs : List UInt8} (hc : NumCut t.text ds cs) (w : World) :
    Calls Tryz.prog 121 #[tokV3 t] w fun e w' => e = .returned (.bool (pointB t.text)) ∧ Below w.heap.size w w' := by
  unfold tokV3
  have hb : decide (0 ≤ Lib.indexByte t.text.data.toList 46) = pointB t.text := by
    have := hc.q
    cases hp : pointB t.text with
    | false => rw [hp] at this; rw [decide_eq_false_iff_not]; have := this.2 rfl; omega
    | true => rw [hp] at this; rw [decide_eq_true_iff]; apply Classical.byContradiction; intro h; exact absurd (this.1 (by omega)) (by simp)
  have HC := hidLL (fun (W : World) => Go.Proofs.Tryz.strings_Contains_one t.text 46 W)
  rw [hb] at HC
  clear hc hb
  generalize pointB t.text = O at *
  generalize kN t.kind = K0 at *
  generalize t.text = K1 at *
  generalize t.pos = K2 at *
  go_enter Tryz.func121, Tryz.ntmps121
  go_wp2_with (go_at_call 144; refine (HC.out _).mono ?_; rintro e w' ⟨rfl, rfl⟩)
  go_ret
  exact ⟨rfl, (Below.refl _ _).alloc (Nat.le_refl _) _⟩
theorem toList_data_mk (l : List UInt8) : (⟨l.toArray⟩ : ByteArray).data.toList = l := by simp
theorem size_mk (l : List UInt8) : (⟨l.toArray⟩ : ByteArray).size = l.length := by simp [ByteArray.size]
set_option maxHeartbeats 1000000 in
theorem hundredths_q (t : Tok) {ds cs : List UInt8} (hs : t.text.size ≤ 400) (hc : NumCut t.text ds cs) (hl : ds.length ≤ 12) (m : Int) (w : World) (hm : w.cell? ⟨12, 0, none⟩ = some (.int .i64 m)) :
    Calls Tryz.prog 164 #[tokV3 t] w fun e w' => e = .returned (.int .i64 (hunB t.text)) ∧ Below w.heap.size w w' := by
  unfold tokV3
  have HC := hidLL (fun (W : World) (hb : Below w.heap.size w W) => cut_q hs hc m W ((hb.cell (p := ⟨12, 0, none⟩) (cell_lt hm)).trans hm))
  have H1 := hidLL (worth_q ⟨ds.toArray⟩ (by rw [size_mk]; exact hl) (by rw [toList_data_mk]; exact hc.d))
  have H2 := hidLL (worth_q ⟨cs.toArray⟩ (by rw [size_mk]; have := hc.l; omega) (by rw [toList_data_mk]; exact hc.e))
  rw [toList_data_mk] at H1 H2
  have b1 := dvL_lt ds hc.d 0
  have b2 := dvL_lt cs hc.e 0
  have c1 : dvL ds 0 < 1000000000000 := Nat.lt_of_lt_of_le b1 (Nat.le_trans (by rw [Nat.zero_add, Nat.one_mul]; exact Nat.pow_le_pow_right (by omega) hl) (by decide))
  have c2 : dvL cs 0 < 100 := Nat.lt_of_lt_of_le b2 (Nat.le_trans (by rw [Nat.zero_add, Nat.one_mul]; exact Nat.pow_le_pow_right (by omega) hc.l) (by decide))
  have HH := hidLL hc.h
  clear hs hc hm b1 b2
  generalize (⟨ds.toArray⟩ : ByteArray) = D at *
  generalize (⟨cs.toArray⟩ : ByteArray) = C at *
  generalize dvL ds 0 = d1 at *
  generalize dvL cs 0 = d2 at *
  generalize hunB t.text = O at *
  generalize kN t.kind = K0 at *
  generalize t.text = K1 at *
  generalize t.pos = K2 at *
  go_enter Tryz.func164, Tryz.ntmps164
  go_upto_region 2 with (go_at_call 33; refine (HC.out _ ((Below.refl _ _).alloc (Nat.le_refl _) _)).mono ?_; rintro e w' ⟨⟨b, rfl⟩, hb⟩; have HB := hidLL hb; clear hb)
  go_wp2_with (first | (go_at_call 123; refine (H1.out _).mono ?_; rintro e w2 ⟨rfl, hb⟩; have HB2 := hidLL hb; clear hb H1) | (go_at_call 123; refine (H2.out _).mono ?_; rintro e w3 ⟨rfl, hb⟩; have HB3 := hidLL hb; clear hb))
  go_ret
  have h1 := HB.out.size
  have h2 := HB2.out.size
  refine ⟨retIQ ?_, (((Below.refl _ _).alloc (Nat.le_refl _) _).trans (HB.out.mono (by simp))).trans ((HB2.out.mono (by have := HB.out.size; simp at this; omega)).trans (HB3.out.mono (by have := HB.out.size; simp at this; omega)))⟩
  have := HH.out
  first | (rw [this]; push_cast; omega) | (rw [this]; go_num)
end Go.Proofs.YtehbinobohjadaaGreatDoor
namespace Go.Proofs.YtehbinobohjadaaGreatDoor
open Go.RowKit Go.Extern.Stop Go.Stop Go.Extern

theorem kN_n {t : TK} : ((kN t : Int) == 2) = decide (t = .n) := by cases t <;> rfl
theorem kN_n' {t : TK} : ((kN t : Int) != 2) = !decide (t = .n) := by cases t <;> rfl
set_option maxHeartbeats 2000000 in
theorem number_q {L : List Tok} {rp tb : Nat} {w : World} {k n : Nat} (h : QS L rp tb w k n) :
    Calls Tryz.prog 155 #[.pointer (some ⟨rp, 0, none⟩)] w fun e w' => QEnd L rp tb w (numberQ L k n) (fun x v _ => v = .int .i64 x) e w' := by
  obtain ⟨m, c, hm, h1, hc, h4, x0, x1, xf⟩ := h.cells
  obtain ⟨y0, y1, y2⟩ := h.tokens
  obtain ⟨W1, hW1⟩ : ∃ W1, W1 = w.alloc (.cells #[.int .i64 (kN (tokAt L k).kind), .string (tokAt L k).text, .int .i64 (tokAt L k).pos] 91) := ⟨_, rfl⟩
  have b1 : Below w.heap.size w W1 := by rw [hW1]; exact (Below.refl _ _).alloc (Nat.le_refl _) _
  have n1 : W1.heap[w.heap.size]? = some (.cells #[.int .i64 (kN (tokAt L k).kind), .string (tokAt L k).text, .int .i64 (tokAt L k).pos] 91 (0, 0)) := by rw [hW1]; exact heap_alloc_new _ _
  have s1 : w.heap.size < W1.heap.size := by rw [hW1]; simp
  have HX := hidLL hW1
  have HW := hidLL (fun (W : World) (hq : QS L rp tb W k n) => wrong_q hq 189)
  have HB := hidLL (And.intro b1 (And.intro n1 (And.intro s1 (And.intro (h.below b1) h.lows))))
  obtain ⟨v0, v1, v2, vf⟩ := threeT n1
  obtain ⟨pt, gt⟩ := (h.below b1).gT
  have hz := kN_n' (t := (tokAt L k).kind)
  unfold numberQ
  by_cases hk : (tokAt L k).kind = .n
  · have hnf := h.ok.num k _ (tokAt_get h.lt) hk
    obtain ⟨ds, cs, hcut⟩ := hnf.cut
    have hk1 := h.moreK (by rw [hk]; intro e; cases e)
    have HS := hidLL (fun (W : World) (hq : QS L rp tb W k n) => skip_q hq hk1)
    have HL := hidLL (fun (W : World) (hq : QS L rp tb W k n) (m : Int) (hm : W.cell? ⟨12, 0, none⟩ = some (.int .i64 m)) => isLong_q (tokAt L k) hnf.1 hcut m W hm)
    have hwn := hcut.w
    rw [decide_eq_true hk] at hz
    simp only [Bool.not_true] at hz
    by_cases hl : 12 < ds.length
    · rw [if_neg (by rw [hwn]; omega)]
      rw [decide_eq_true hl] at HL
      unfold tokV3 at HL
      clear h hk hW1 b1 n1 hk1 hcut hnf hwn
      generalize kN (tokAt L k).kind = K0 at *
      generalize (tokAt L k).text = K1 at *
      generalize (tokAt L k).pos = K2 at *
      go_enter Tryz.func155, Tryz.ntmps155
      go_upto_region 4 with fail
      rw [← HX.out]
      obtain ⟨mm, gm⟩ := HB.out.2.2.2.1.gM
      go_wp2_with (first | (go_at_call 122; refine (HL.out _ HB.out.2.2.2.1 _ gm).mono ?_; rintro e w' ⟨rfl, hb⟩; have hq2 := HB.out.2.2.2.1.below hb; obtain ⟨pb, gb⟩ := hq2.gB; have HQ := hidLL (And.intro hq2 hb); clear hb hq2) | (go_at_call 44; refine (HW.out _ HQ.out.1 _).mono ?_; rintro e w'' ⟨⟨p, rfl⟩, hb⟩; have HE := hidLL hb; clear hb))
      exact ⟨rfl, Below.x ((HB.out.1.trans (HQ.out.2.mono (Nat.le_of_lt s1))).trans (HE.out.mono (by have := HQ.out.2.size; omega))) _ (Nat.le_refl _), ⟨_, rfl⟩⟩
    · have HH := hidLL (fun (W : World) (m : Int) (hm : W.cell? ⟨12, 0, none⟩ = some (.int .i64 m)) => hundredths_q (tokAt L k) hnf.1 hcut (by omega) m W hm)
      rw [decide_eq_false hl] at HL
      unfold tokV3 at HL HH
      have hwl : wholeN (tokAt L k).text ≤ 12 := by rw [hwn]; omega
      by_cases hv : hunB (tokAt L k).text ≤ 1000000000000
      · rw [if_pos ⟨hk, hwl, hv⟩]
        have hvz : ¬ 1000000000000 < hunB (tokAt L k).text := by omega
        clear h hk hW1 b1 n1 hk1 hcut hnf hwn hwl hv
        generalize hunB (tokAt L k).text = O at *
        generalize kN (tokAt L k).kind = K0 at *
        generalize (tokAt L k).text = K1 at *
        generalize (tokAt L k).pos = K2 at *
        go_enter Tryz.func155, Tryz.ntmps155
        go_upto_region 4 with fail
        rw [← HX.out]
        obtain ⟨mm, gm⟩ := HB.out.2.2.2.1.gM
        go_upto_region 7 with (first | (go_at_call 122; refine (HL.out _ HB.out.2.2.2.1 _ gm).mono ?_; rintro e w' ⟨rfl, hb⟩; have hq2 := HB.out.2.2.2.1.below hb; obtain ⟨m2, gm2⟩ := hq2.gM; obtain ⟨z0, z1, z2, zf⟩ := threeT ((hb.block _ s1).trans HB.out.2.1); have HQ := hidLL (And.intro hq2 hb); clear hb hq2) | (go_at_call 164; refine (HH.out _ _ gm2).mono ?_; rintro e w3 ⟨rfl, hb⟩; have hq3 := HQ.out.1.below hb; have HQ3 := hidLL (And.intro hq3 hb); clear hb hq3) | (go_at_call 35; refine (HS.out _ HQ3.out.1).mono ?_; rintro e w4 ⟨rfl, hq4, hb⟩; have HE := hidLL (And.intro hq4 hb); clear hb hq4))
        have i2 := HQ.out.2.size
        have i3 := HQ3.out.2.size
        have i4 := HE.out.2.size
        obtain ⟨m4, gm4⟩ := HE.out.1.gM
        obtain ⟨z0, z1, z2, zf⟩ := threeT (((HE.out.2.block w.heap.size (by omega) (by have := HB.out.2.2.2.2.r; omega)).trans (HQ3.out.2.block _ (by omega))).trans ((HQ.out.2.block _ s1).trans HB.out.2.1))
        go_wp2_with (go_at_call 164; refine (HH.out _ _ gm4).mono ?_; rintro e w5 ⟨rfl, hb⟩; have HQ5 := hidLL hb; clear hb)
        go_ret
        exact ⟨((Below.x ((HB.out.1.trans (HQ.out.2.mono (Nat.le_of_lt s1))).trans (HQ3.out.2.mono (by omega))) _ (Nat.le_refl _)).then HE.out.2 (by omega)).then (Below.x HQ5.out _ (Nat.le_refl _)) (by omega), HE.out.1.below HQ5.out, _, rfl, rfl⟩
      · rw [if_neg (fun h => hv h.2.2)]
        have hvz : 1000000000000 < hunB (tokAt L k).text := by omega
        clear h hk hW1 b1 n1 hk1 hcut hnf hwn hwl hv
        generalize hunB (tokAt L k).text = O at *
        generalize kN (tokAt L k).kind = K0 at *
        generalize (tokAt L k).text = K1 at *
        generalize (tokAt L k).pos = K2 at *
        go_enter Tryz.func155, Tryz.ntmps155
        go_upto_region 4 with fail
        rw [← HX.out]
        obtain ⟨mm, gm⟩ := HB.out.2.2.2.1.gM
        go_wp2_with (first | (go_at_call 122; refine (HL.out _ HB.out.2.2.2.1 _ gm).mono ?_; rintro e w' ⟨rfl, hb⟩; have hq2 := HB.out.2.2.2.1.below hb; obtain ⟨m2, gm2⟩ := hq2.gM; obtain ⟨z0, z1, z2, zf⟩ := threeT ((hb.block _ s1).trans HB.out.2.1); have HQ := hidLL (And.intro hq2 hb); clear hb hq2) | (go_at_call 164; refine (HH.out _ _ gm2).mono ?_; rintro e w3 ⟨rfl, hb⟩; have hq3 := HQ.out.1.below hb; obtain ⟨pb, gb⟩ := hq3.gB; have HQ3 := hidLL (And.intro hq3 hb); clear hb hq3) | (go_at_call 44; refine (HW.out _ HQ3.out.1 _).mono ?_; rintro e w'' ⟨⟨p, rfl⟩, hb⟩; have HE := hidLL hb; clear hb))
        have i2 := HQ.out.2.size
        have i3 := HQ3.out.2.size
        exact ⟨rfl, Below.x (((HB.out.1.trans (HQ.out.2.mono (Nat.le_of_lt s1))).trans (HQ3.out.2.mono (by omega))).trans (HE.out.mono (by omega))) _ (Nat.le_refl _), ⟨_, rfl⟩⟩
  · rw [if_neg (fun h => hk h.1)]
    rw [decide_eq_false hk] at hz
    simp only [Bool.not_false] at hz
    clear h hk hW1 b1 n1
    generalize kN (tokAt L k).kind = K0 at *
    generalize (tokAt L k).text = K1 at *
    generalize (tokAt L k).pos = K2 at *
    go_enter Tryz.func155, Tryz.ntmps155
    go_upto_region 2 with fail
    rw [← HX.out]
    go_wp2_with (go_at_call 44; refine (HW.out _ HB.out.2.2.2.1 _).mono ?_; rintro e w'' ⟨⟨p, rfl⟩, hb⟩; have HE := hidLL hb; clear hb)
    exact ⟨rfl, Below.x (HB.out.1.trans (HE.out.mono (Nat.le_of_lt s1))) _ (Nat.le_refl _), ⟨_, rfl⟩⟩
end Go.Proofs.YtehbinobohjadaaGreatDoor
namespace Go.Proofs.YtehbinobohjadaaGreatDoor
open Go.RowKit Go.Extern.Stop Go.Stop Go.Extern

theorem needQ_not {L : List Tok} {s : ByteArray} {k n : Nat} : needQ L s k n ≠ .out := by unfold needQ; split <;> (intro h; cases h)
theorem nameQ_not {L : List Tok} {k n : Nat} : nameQ L k n ≠ .out := by unfold nameQ; split <;> (intro h; cases h)
theorem numberQ_not {L : List Tok} {k n : Nat} : numberQ L k n ≠ .out := by unfold numberQ; split <;> (intro h; cases h)
theorem enterQ_not {L : List Tok} {k n : Nat} : enterQ L k n ≠ .out := by unfold enterQ; split <;> (intro h; cases h)
set_option maxHeartbeats 1000000 in
theorem rate_q {L : List Tok} {rp tb : Nat} {w : World} {k n : Nat} (h : QS L rp tb w k n) :
    Calls Tryz.prog 143 #[.pointer (some ⟨rp, 0, none⟩)] w fun e w' => QEnd L rp tb w (rateQ L k n) (fun x v _ => v = .int .i64 x) e w' := by
  obtain ⟨m, c, hm, h1, hc, h4, x0, x1, xf⟩ := h.cells
  obtain ⟨y0, y1, y2⟩ := h.tokens
  have HN := hidLL (number_q h)
  unfold rateQ
  cases hr : numberQ L k n with
  | out => exact absurd hr numberQ_not
  | bad c a =>
    rw [hr] at HN
    rw [PR.bind_bad]
    clear h hr
    generalize (tokAt L k).pos = K2 at *
    go_enter Tryz.func143, Tryz.ntmps143
    go_wp2_with (go_at_call 155; refine HN.out.mono ?_; rintro e w' ⟨hb, ⟨p, rfl⟩⟩; have HB := hidLL hb; clear hb)
    exact ⟨rfl, HB.out, ⟨_, rfl⟩⟩
  | ok x k1 n1 =>
    have HE := hidLL (fun (W : World) (hq : QS L rp tb W k1 n1) => need_q hq (sg 37) (by decide))
    unfold sg at HE
    rw [hr] at HN
    rw [PR.bind_ok]
    clear h hr
    generalize (tokAt L k).pos = K2 at *
    show Calls _ _ _ _ fun e w' => QEnd L rp tb w ((needQ L ⟨#[37]⟩ k1 n1).bind _) _ e w'
    cases hr2 : needQ L ⟨#[37]⟩ k1 n1 with
    | out => exact absurd hr2 needQ_not
    | bad c a =>
      rw [hr2] at HE
      rw [PR.bind_bad]
      clear hr2
      go_enter Tryz.func143, Tryz.ntmps143
      go_wp2_with (first | (go_at_call 155; refine HN.out.mono ?_; rintro e w' ⟨hb, hq, v, rfl, rfl⟩; have HB := hidLL (And.intro hq hb); clear hb hq) | (go_at_call 39; refine (HE.out _ HB.out.1).mono ?_; rintro e w2 ⟨hb, ⟨p, rfl⟩⟩; have HB2 := hidLL hb; clear hb))
      exact ⟨rfl, HB.out.2.then HB2.out HB.out.2.size, ⟨_, rfl⟩⟩
    | ok y k2 n2 =>
      rw [hr2] at HE
      rw [PR.bind_ok]
      clear hr2
      by_cases hx : x ≤ 1000000
      · rw [if_pos hx]
        have hz : ¬ (1000000 : Int) < x := by omega
        go_enter Tryz.func143, Tryz.ntmps143
        go_wp2_with (first | (go_at_call 155; refine HN.out.mono ?_; rintro e w' ⟨hb, hq, v, rfl, rfl⟩; have HB := hidLL (And.intro hq hb); clear hb hq) | (go_at_call 39; refine (HE.out _ HB.out.1).mono ?_; rintro e w2 ⟨hb, hq, v, rfl, rfl⟩; have HB2 := hidLL (And.intro hq hb); clear hb hq))
        go_ret
        exact ⟨HB.out.2.then HB2.out.2 HB.out.2.size, HB2.out.1, _, rfl, rfl⟩
      · rw [if_neg hx]
        have hz : (1000000 : Int) < x := by omega
        go_enter Tryz.func143, Tryz.ntmps143
        go_wp2_with (first | (go_at_call 155; refine HN.out.mono ?_; rintro e w' ⟨hb, hq, v, rfl, rfl⟩; have HB := hidLL (And.intro hq hb); clear hb hq) | (go_at_call 39; refine (HE.out _ HB.out.1).mono ?_; rintro e w2 ⟨hb, hq, v, rfl, rfl⟩; have HB2 := hidLL (And.intro hq hb); obtain ⟨pb, gb⟩ := hq.gB; clear hb hq) | (go_at_call 50; refine (throw_q _ _ _).mono ?_; rintro e w3 ⟨rfl, rfl⟩))
        exact ⟨rfl, (HB.out.2.then HB2.out.2 HB.out.2.size).then (Below.x ((Below.refl _ _).alloc (Nat.le_refl _) _) _ (Nat.le_refl _)) (Nat.le_trans HB.out.2.size HB2.out.2.size), ⟨_, rfl⟩⟩
/-- A node that lies in new memory. -/
def NodeV (B : Nat) (x : Nd) (v : Value) (w' : World) : Prop := ∃ (s0 s1 : ByteArray) (n2 : Int) (ka : Option Addr) (kn kc : Nat), v = .agg #[.string s0, .string s1, .int .i64 n2, .slice ka kn kc] ∧ NL w' (fun b => B ≤ b) (nv (.string s0) (.string s1) (.int .i64 n2) (.slice ka kn kc)) x
/-- A rule: its function, what it reads. -/
def QRule (L : List Tok) (rp tb : Nat) (fn : FuncId) (P : Nat → Nat → PR Nd) : Prop := ∀ (w : World) (k n : Nat), QS L rp tb w k n → P k n ≠ .out → Calls Tryz.prog fn #[.pointer (some ⟨rp, 0, none⟩)] w fun e w' => QEnd L rp tb w (P k n) (fun x v w' => NodeV w.heap.size x v w') e w'
structure StartQ (w W1 : World) : Prop where
  blk : W1.heap[w.heap.size]? = some (.cells #[.string ⟨#[]⟩, .string ⟨#[]⟩, .int .i64 0, .slice none 0 0] 25 (0, 0))
  bel : Below w.heap.size w W1
  lt : w.heap.size < W1.heap.size
theorem StartQ.new (w : World) : StartQ w (w.alloc (.cells #[.string ⟨#[]⟩, .string ⟨#[]⟩, .int .i64 0, .slice none 0 0] 25)) :=
  ⟨heap_alloc_new _ _, (Below.refl _ _).alloc (Nat.le_refl _) _, by simp⟩
/-- A rule ends: its node is handed out. -/
theorem fin_q {L : List Tok} {rp tb : Nat} {w W : World} {k n : Nat} {x : Nd} {s0 s1 : ByteArray} {n2 : Int} {ka : Option Addr} {kn kc : Nat} (lo : Lows rp tb w.heap.size) (hB : BelX w.heap.size rp w W) (hq : QS L rp tb W k n)
    (h : NL W (fun b => w.heap.size < b) (nv (.string s0) (.string s1) (.int .i64 n2) (.slice ka kn kc)) x) :
    QEnd L rp tb w (.ok x k n) (fun x v w' => NodeV w.heap.size x v w') (.returned (.agg #[.string s0, .string s1, .int .i64 n2, .slice ka kn kc])) ((((W.setCell ⟨w.heap.size, 0, none⟩ (.string s0)).setCell ⟨w.heap.size, 1, none⟩ (.string s1)).setCell ⟨w.heap.size, 2, none⟩ (.int .i64 n2)).setCell ⟨w.heap.size, 3, none⟩ (.slice ka kn kc)) := by
  refine ⟨belX4 hB _ _ _ _, hq.keep lo (fun b hb => heap4 _ _ _ _ (by omega)), _, rfl, s0, s1, n2, ka, kn, kc, rfl, h.step fun b _ hp => ⟨heap4 _ _ _ _ (by omega), by omega⟩⟩
end Go.Proofs.YtehbinobohjadaaGreatDoor
namespace Go.Proofs.YtehbinobohjadaaGreatDoor
open Go.RowKit Go.Extern.Stop Go.Stop Go.Extern

/-- A rule ends: what is behind it, by the heap alone. -/
theorem fin_gen {L : List Tok} {rp tb : Nat} {w W WF : World} {k n : Nat} {x : Nd} {s0 s1 : ByteArray} {n2 : Int} {ka : Option Addr} {kn kc : Nat} (lo : Lows rp tb w.heap.size) (hB : BelX w.heap.size rp w W) (hq : QS L rp tb W k n) (hF : Below w.heap.size W WF)
    (h : NL WF (fun b => w.heap.size ≤ b) (nv (.string s0) (.string s1) (.int .i64 n2) (.slice ka kn kc)) x) {R : PR Nd} (hR : R = .ok x k n) :
    QEnd L rp tb w R (fun x v w' => NodeV w.heap.size x v w') (.returned (.agg #[.string s0, .string s1, .int .i64 n2, .slice ka kn kc])) WF := by
  subst hR
  exact ⟨hB.then (Below.x hF rp (Nat.le_refl _)) (Nat.le_refl _), hq.keep lo (fun b hb => hF.block b hb), _, rfl, s0, s1, n2, ka, kn, kc, rfl, h⟩
theorem alloc_at {W : World} {g : Nat} {cs : Array Value} {t : TypeId} (h : W.heap.size = g) : (W.alloc (.cells cs t)).heap[g]? = some (.cells cs t (0, 0)) := by
  subst h
  exact heap_alloc_new _ _
theorem four_nv {W : World} {g : Nat} {a b c d : Value} {t : TypeId} (h : W.heap[g]? = some (.cells #[a, b, c, d] t (0, 0))) : ∀ q, q < 4 → W.cell? ⟨g, q, none⟩ = some (nv a b c d q) := by
  intro q hq
  obtain ⟨h0, h1, h2, h3, _⟩ := fourT h
  rcases (show q = 0 ∨ q = 1 ∨ q = 2 ∨ q = 3 by omega) with rfl | rfl | rfl | rfl
  · exact h0
  · exact h1
  · exact h2
  · exact h3
theorem name_c {L : List Tok} {rp tb : Nat} : Hid (∀ (W : World) (k n : Nat), QS L rp tb W k n → Calls Tryz.prog 36 #[.pointer (some ⟨rp, 0, none⟩)] W fun e w' => QEnd L rp tb W (nameQ L k n) (fun x v _ => v = .string x) e w') := fun _ _ _ hq => name_q hq
theorem need_c {L : List Tok} {rp tb : Nat} (s : ByteArray) (hs : s.size ≠ 0) : Hid (∀ (W : World) (k n : Nat), QS L rp tb W k n → Calls Tryz.prog 39 #[.pointer (some ⟨rp, 0, none⟩), .string s] W fun e w' => QEnd L rp tb W (needQ L s k n) (fun _ v _ => v = .tuple #[]) e w') := fun _ _ _ hq => need_q hq s hs
set_option maxHeartbeats 2000000 in
theorem total_q {L : List Tok} {rp tb : Nat} : QRule L rp tb 156 (totalQ L) := by
  intro w k n h hn
  have lo := h.lows
  obtain ⟨R, hR⟩ : ∃ R, R = totalQ L k n := ⟨_, rfl⟩
  rw [← hR] at hn ⊢
  obtain ⟨W1, hW1⟩ : ∃ W1, W1 = w.alloc (.cells #[.string ⟨#[]⟩, .string ⟨#[]⟩, .int .i64 0, .slice none 0 0] 25) := ⟨_, rfl⟩
  have hst : StartQ w W1 := by rw [hW1]; exact StartQ.new w
  have HN := name_c (L := L) (rp := rp) (tb := tb)
  have HE := need_c (L := L) (rp := rp) (tb := tb) ⟨#[111, 102]⟩ (by decide)
  have HX := hidLL hW1
  have HR : Hid (R = (nameQ L k n).bind fun w k n => (needQ L ⟨#[111, 102]⟩ k n).bind fun _ k n => (nameQ L k n).bind fun o k n => .ok (.mk wTotal w 0 [.mk wName o 0 []]) k n) := hR
  have HT := hidLL hst
  have HL := hidLL lo
  have HQ1 := hidLL (And.intro (h.below hst.bel) (Below.x hst.bel rp (Nat.le_refl _)))
  have hs1 := hst.lt
  clear h hW1 hst hR hn lo
  go_enter Tryz.func156, Tryz.ntmps156
  go_upto_region 2 with (first | (rw [← HX.out]; go_at_call 36; refine (HN.out _ _ _ HQ1.out.1).mono ?_; rintro e W2 hE; rcases hr : nameQ L k n with _ | ⟨c, a⟩ | ⟨x1, k1, n1⟩; (· exact absurd hr nameQ_not); (· rw [hr] at hE; obtain ⟨hb, ⟨p, rfl⟩⟩ := hE; obtain rfl : R = .bad c a := (by rw [HR.out, hr, PR.bind_bad]); exact (show _ ∧ _ from ⟨rfl, HQ1.out.2.then hb HQ1.out.2.size, ⟨_, rfl⟩⟩)); rw [hr] at hE; obtain ⟨hb, hq, v, rfl, rfl⟩ := hE; rw [hr, PR.bind_ok] at HR; have HQ2 := hidLL (And.intro hq (HQ1.out.2.then hb HQ1.out.2.size)); have hr2 := HT.out.blk; have HG2 := hidLL ((hb.block _ hs1 (fun e => by have := HL.out.r; omega)).trans HT.out.blk); have hs2 := hb.size; clear hb hq hr))
  obtain ⟨V2, hV2⟩ : ∃ V2, V2 = W2.alloc (.cells #[.string ⟨#[116, 111, 116, 97, 108]⟩, .string x1, .int .i64 0, .slice none 0 0] 25) := ⟨_, rfl⟩
  rw [← hV2]
  have hv2 : Below W2.heap.size W2 V2 := by rw [hV2]; exact (Below.refl _ _).alloc (Nat.le_refl _) _
  have hn2 : V2.heap[W2.heap.size]? = some (.cells #[.string ⟨#[116, 111, 116, 97, 108]⟩, .string x1, .int .i64 0, .slice none 0 0] 25 (0, 0)) := by rw [hV2]; exact heap_alloc_new _ _
  have hl2 : W2.heap.size < V2.heap.size := by rw [hV2]; simp
  have HV2 := hidLL (And.intro (HQ2.out.1.below hv2) (And.intro (HQ2.out.2.then (Below.x hv2 rp (Nat.le_refl _)) HQ2.out.2.size) (And.intro hn2 ((hv2.block _ (by omega)).trans HG2.out))))
  generalize W2.heap.size = g3 at *
  clear hV2 hv2 hn2 HQ2 HG2
  go_upto_region 3 with (first | (go_at_call 39; refine (HE.out _ _ _ HV2.out.1).mono ?_; rintro e W3 hE; rcases hr : needQ L ⟨#[111, 102]⟩ k1 n1 with _ | ⟨c, a⟩ | ⟨x2, k2, n2⟩; (· exact absurd hr needQ_not); (· rw [hr] at hE; obtain ⟨hb, ⟨p, rfl⟩⟩ := hE; obtain rfl : R = .bad c a := (by rw [HR.out, hr, PR.bind_bad]); exact (show _ ∧ _ from ⟨rfl, HV2.out.2.1.then hb HV2.out.2.1.size, ⟨_, rfl⟩⟩)); rw [hr] at hE; obtain ⟨hb, hq, v, rfl, rfl⟩ := hE; rw [hr, PR.bind_ok] at HR; have HQ3 := hidLL (And.intro hq (And.intro (HV2.out.2.1.then hb HV2.out.2.1.size) (And.intro ((hb.block _ hl2 (fun e => by have := HL.out.r; omega)).trans HV2.out.2.2.1) ((hb.block _ (by omega) (fun e => by have := HL.out.r; omega)).trans HV2.out.2.2.2)))); have hs3 := hb.size; clear hb hq hr))
  clear HV2
  go_wp2_with (first | (go_at_call 36; refine (HN.out _ _ _ HQ3.out.1).mono ?_; rintro e W4 hE; rcases hr : nameQ L k2 n2 with _ | ⟨c, a⟩ | ⟨x3, k3, n3⟩; (· exact absurd hr nameQ_not); (· rw [hr] at hE; obtain ⟨hb, ⟨p, rfl⟩⟩ := hE; obtain rfl : R = .bad c a := (by rw [HR.out, hr, PR.bind_bad]); exact (show _ ∧ _ from ⟨rfl, HQ3.out.2.1.then hb HQ3.out.2.1.size, ⟨_, rfl⟩⟩)); rw [hr] at hE; obtain ⟨hb, hq, v, rfl, rfl⟩ := hE; rw [hr, PR.bind_ok] at HR; have h3 := (hb.block _ (by omega) (fun e => by have := HL.out.r; omega)).trans HQ3.out.2.2.1; have h0 := (hb.block _ (by omega) (fun e => by have := HL.out.r; omega)).trans HQ3.out.2.2.2; obtain ⟨z0, z1, z2, z3, zf⟩ := fourT h3; obtain ⟨q0, q1, q2, q3, qf⟩ := fourT h0; have HQ4 := hidLL (And.intro hq (And.intro (HQ3.out.2.1.then hb HQ3.out.2.1.size) (And.intro h3 h0))); have hs4 := hb.size; have hl4 : g3 < W4.heap.size := (by omega); have hl5 : w.heap.size < W4.heap.size := (by omega); have hne : ¬ g3 = w.heap.size := (by omega); clear hb hq hr h3 h0))
  refine bodyPost_ret (v := .agg #[.string ⟨#[116, 111, 116, 97, 108]⟩, .string x1, .int .i64 0, .slice (some ⟨W4.heap.size, 0, none⟩) 1 1]) (by simp [results, Tryz.results156, go_sem, q0, q1, q2, q3, hl5]) rfl ?_
  refine fin_gen HL.out HQ4.out.2.1 HQ4.out.1 ?_ ?_ HR.out
  · exact (((((((Below.refl w.heap.size W4).setCell (by show w.heap.size ≤ g3; omega) _).setCell (Nat.le_refl _) _).setCell (Nat.le_refl _) _).setCell (Nat.le_refl _) _).setCell (Nat.le_refl _) _).alloc (by simp; omega) _)
  · exact NL.one (NL.leaf _ _ wName x3 0) (by omega) (four_nv (alloc_at (by simp))) wTotal x1 0
end Go.Proofs.YtehbinobohjadaaGreatDoor
namespace Go.Proofs.YtehbinobohjadaaGreatDoor
open Go.RowKit Go.Extern.Stop Go.Stop Go.Extern

theorem place_hit {ls : List ByteArray} {s : ByteArray} (l : List UInt8) (h : (s.toList == l) = true) (x : ByteArray) (hx : x ∈ ls) (hl : x.data.toList = l) : (placeIn ls s).isSome = true := by
  unfold placeIn
  rw [List.findIdx?_isSome, List.any_eq_true]
  refine ⟨x, hx, ?_⟩
  have e1 : s.toList = l := by simpa using h
  unfold eqB
  rw [e1, Lib.toList_data, hl]; simp
theorem place_miss {ls : List ByteArray} {s : ByteArray} (h : ∀ x, x ∈ ls → (s.toList == x.data.toList) = false) : (placeIn ls s).isSome = false := by
  unfold placeIn
  rw [List.findIdx?_isSome, List.any_eq_false]
  intro x hx
  have := h x hx
  unfold eqB
  rw [Lib.toList_data x, show (x.data.toList == s.toList) = (s.toList == x.data.toList) from Bool.beq_comm, this]
  simp
theorem isOrder_q (s : ByteArray) (w : World) :
    Calls Tryz.prog 124 #[.string s] w fun e w' => e = .returned (.bool (placeIn ordersW s).isSome) ∧ w' = w := by
  obtain ⟨O, hO⟩ : ∃ O, O = (placeIn ordersW s).isSome := ⟨_, rfl⟩
  rw [← hO]
  have HO := hidLL hO
  clear hO
  cases h0 : (s.toList == [60])
  rotate_left
  · go_enter Tryz.func124, Tryz.ntmps124
    go_wp2
    go_ret
    exact ⟨retB (by rw [HO.out, place_hit _ h0 (sg 60) (by simp [ordersW]) rfl]), rfl⟩
  cases h1 : (s.toList == [60, 61])
  rotate_left
  · go_enter Tryz.func124, Tryz.ntmps124
    go_wp2
    go_ret
    exact ⟨retB (by rw [HO.out, place_hit _ h1 (sg2 60 61) (by simp [ordersW]) rfl]), rfl⟩
  cases h2 : (s.toList == [61])
  rotate_left
  · go_enter Tryz.func124, Tryz.ntmps124
    go_wp2
    go_ret
    exact ⟨retB (by rw [HO.out, place_hit _ h2 (sg 61) (by simp [ordersW]) rfl]), rfl⟩
  cases h3 : (s.toList == [60, 62])
  rotate_left
  · go_enter Tryz.func124, Tryz.ntmps124
    go_wp2
    go_ret
    exact ⟨retB (by rw [HO.out, place_hit _ h3 (sg2 60 62) (by simp [ordersW]) rfl]), rfl⟩
  cases h4 : (s.toList == [62, 61])
  rotate_left
  · go_enter Tryz.func124, Tryz.ntmps124
    go_wp2
    go_ret
    exact ⟨retB (by rw [HO.out, place_hit _ h4 (sg2 62 61) (by simp [ordersW]) rfl]), rfl⟩
  cases h5 : (s.toList == [62])
  rotate_left
  · go_enter Tryz.func124, Tryz.ntmps124
    go_wp2
    go_ret
    exact ⟨retB (by rw [HO.out, place_hit _ h5 (sg 62) (by simp [ordersW]) rfl]), rfl⟩
  have HG : Hid ((placeIn ordersW s).isSome = false) := place_miss (by
    intro x hx
    simp only [ordersW, List.mem_cons, List.not_mem_nil, or_false] at hx
    rcases hx with rfl | rfl | rfl | rfl | rfl | rfl
    · exact h0
    · exact h1
    · exact h2
    · exact h3
    · exact h4
    · exact h5)
  go_enter Tryz.func124, Tryz.ntmps124
  go_wp2
  go_ret
  exact ⟨retB (by rw [HO.out, HG.out]), rfl⟩
theorem isOfSums_q (s : ByteArray) (w : World) :
    Calls Tryz.prog 163 #[.string s] w fun e w' => e = .returned (.bool (placeIn sumsW s).isSome) ∧ w' = w := by
  obtain ⟨O, hO⟩ : ∃ O, O = (placeIn sumsW s).isSome := ⟨_, rfl⟩
  rw [← hO]
  have HO := hidLL hO
  clear hO
  cases h0 : (s.toList == [43])
  rotate_left
  · go_enter Tryz.func163, Tryz.ntmps163
    go_wp2
    go_ret
    exact ⟨retB (by rw [HO.out, place_hit _ h0 (sg 43) (by simp [sumsW]) rfl]), rfl⟩
  cases h1 : (s.toList == [45])
  rotate_left
  · go_enter Tryz.func163, Tryz.ntmps163
    go_wp2
    go_ret
    exact ⟨retB (by rw [HO.out, place_hit _ h1 (sg 45) (by simp [sumsW]) rfl]), rfl⟩
  cases h2 : (s.toList == [42])
  rotate_left
  · go_enter Tryz.func163, Tryz.ntmps163
    go_wp2
    go_ret
    exact ⟨retB (by rw [HO.out, place_hit _ h2 (sg 42) (by simp [sumsW]) rfl]), rfl⟩
  have HG : Hid ((placeIn sumsW s).isSome = false) := place_miss (by
    intro x hx
    simp only [sumsW, List.mem_cons, List.not_mem_nil, or_false] at hx
    rcases hx with rfl | rfl | rfl
    · exact h0
    · exact h1
    · exact h2)
  go_enter Tryz.func163, Tryz.ntmps163
  go_wp2
  go_ret
  exact ⟨retB (by rw [HO.out, HG.out]), rfl⟩
set_option maxHeartbeats 1000000 in
theorem alone_q {L : List Tok} {rp tb : Nat} {w : World} {k n : Nat} (h : QS L rp tb w k n) :
    Calls Tryz.prog 153 #[.pointer (some ⟨rp, 0, none⟩)] w fun e w' => e = .returned (.bool (aloneQ L k)) ∧ Below w.heap.size w w' := by
  obtain ⟨m, c, hm, h1, hc, h4, x0, x1, xf⟩ := h.cells
  obtain ⟨y0, y1, y2⟩ := h.tokens
  have HN := hidLL (isName_q (tokAt L k) (fun hw => h.sized (by rw [hw]; intro e; cases e)))
  rw [← nameTok_is] at HN
  unfold tokV3 at HN
  have HA : Hid (aloneQ L k = (nameTok L k && (placeIn ordersW (tokAt L (k + 1)).text).isNone && (placeIn sumsW (tokAt L (k + 1)).text).isNone)) := rfl
  cases hk : nameTok L k with
  | false =>
    rw [hk] at HN HA
    clear h hk
    generalize aloneQ L k = O at *
    generalize kN (tokAt L k).kind = K0 at *
    generalize (tokAt L k).text = K1 at *
    generalize (tokAt L k).pos = K2 at *
    go_enter Tryz.func153, Tryz.ntmps153
    go_wp2_with (go_at_call 78; refine (HN.out _).mono ?_; rintro e w' ⟨rfl, hb⟩; have HB := hidLL hb; clear hb)
    go_ret
    exact ⟨retB (by rw [HA.out]; rfl), HB.out⟩
  | true =>
    have hw : (tokAt L k).kind = .w := by
      unfold nameTok at hk
      simp only [Bool.and_eq_true, decide_eq_true_eq] at hk
      exact hk.1
    have hk1 := h.moreK (by rw [hw]; intro e; cases e)
    have t1 := h.tok (k + 1) _ (tokAt_get hk1) 1 (by omega)
    have hm2 : 2 ≤ m := by omega
    have e1 : (k + 1) * 3 + 1 = k * 3 + 3 + 1 := by omega
    rw [e1] at t1
    have y3 : w.cell? ⟨tb, k * 3 + 3 + 1, none⟩ = some (.string (tokAt L (k + 1)).text) := t1
    rw [hk] at HN HA
    have HO := hidLL (isOrder_q (tokAt L (k + 1)).text)
    have HS := hidLL (isOfSums_q (tokAt L (k + 1)).text)
    have HP := hidLL (And.intro h (And.intro y3 x0))
    clear h hk hw t1 e1 hk1
    have i1 : ∀ o : Option Nat, o.isNone = !o.isSome := fun o => by cases o <;> rfl
    rw [i1, i1] at HA
    clear i1
    generalize aloneQ L k = O at *
    generalize (placeIn ordersW (tokAt L (k + 1)).text).isSome = B1 at *
    generalize (placeIn sumsW (tokAt L (k + 1)).text).isSome = B2 at *
    generalize kN (tokAt L k).kind = K0 at *
    generalize (tokAt L k).text = K1 at *
    generalize (tokAt L (k + 1)).text = K3 at *
    generalize (tokAt L k).pos = K2 at *
    cases B1
    all_goals (
      go_enter Tryz.func153, Tryz.ntmps153
      go_wp2_with (first | (go_at_call 78; refine (HN.out _).mono ?_; rintro e w' ⟨rfl, hb⟩; have x0' := (hb.cell (p := ⟨rp, 0, none⟩) HP.out.1.in).trans HP.out.2.2; have y3' := (hb.cell (p := ⟨tb, k * 3 + 3 + 1, none⟩) HP.out.1.tin).trans HP.out.2.1; have HB := hidLL hb; clear hb) | (go_at_call 124; refine (HO.out _).mono ?_; rintro e w2 ⟨rfl, rfl⟩) | (go_at_call 163; refine (HS.out _).mono ?_; rintro e w3 ⟨rfl, rfl⟩))
      go_ret
      exact ⟨retB (by rw [HA.out]; simp), HB.out⟩)
end Go.Proofs.YtehbinobohjadaaGreatDoor
namespace Go.Proofs.YtehbinobohjadaaGreatDoor
open Go.RowKit Go.Extern.Stop Go.Stop Go.Extern

/-- All blocks below B but two are as they were. -/
structure BelY (B x y : Nat) (a w : World) : Prop where
  os : w.os = a.os
  tape : w.tape = a.tape
  output : w.output = a.output
  size : a.heap.size ≤ w.heap.size
  block : ∀ k, k < B → k ≠ x → k ≠ y → w.heap[k]? = a.heap[k]?
theorem BelX.y {B x : Nat} {a w : World} (h : BelX B x a w) (y : Nat) : BelY B x y a w := ⟨h.os, h.tape, h.output, h.size, fun k h1 h2 _ => h.block k h1 h2⟩
theorem BelY.refl (B x y : Nat) (a : World) : BelY B x y a a := ⟨rfl, rfl, rfl, Nat.le_refl _, fun _ _ _ _ => rfl⟩
theorem BelY.then {B B' x y : Nat} {a b c : World} (h : BelY B x y a b) (h' : BelY B' x y b c) (hB : B ≤ B') : BelY B x y a c := ⟨h'.os.trans h.os, h'.tape.trans h.tape, h'.output.trans h.output, Nat.le_trans h.size h'.size, fun k hk h1 h2 => (h'.block k (by omega) h1 h2).trans (h.block k hk h1 h2)⟩
theorem BelY.set {B x y : Nat} {a w : World} (h : BelY B x y a w) (i : Nat) (u : Value) : BelY B x y a (w.setCell ⟨y, i, none⟩ u) := ⟨h.os, h.tape, h.output, by simpa using h.size, fun k h1 h2 h3 => (Below.heap_setCell _ _ _ _ h3).trans (h.block k h1 h2 h3)⟩
theorem BelY.x {B B' x y : Nat} {a w : World} (h : BelY B x y a w) (h1 : B' ≤ B) (h2 : B' ≤ y) : BelX B' x a w := ⟨h.os, h.tape, h.output, h.size, fun k hk hx => h.block k (by omega) hx (by omega)⟩
/-- The sentence's block. -/
structure SB (w : World) (sp : Nat) (cs : Array Value) : Prop where
  blk : w.heap[sp]? = some (.cells cs 30 (0, 0))
  size : cs.size = 19
theorem SB.cell {w : World} {sp : Nat} {cs : Array Value} (h : SB w sp cs) {i : Nat} (hi : i < 19) : ∃ v, w.cell? ⟨sp, i, none⟩ = some v := by
  have h1 := h.blk
  have h2 := h.size
  exact ⟨cs[i]'(by omega), by simp [World.cell?, h1]⟩
theorem SB.froz {w : World} {sp : Nat} {cs : Array Value} (h : SB w sp cs) : ∀ i, w.frozen? ⟨sp, i, none⟩ = false := by
  have h1 := h.blk
  simp [World.frozen?, h1]
theorem SB.set {w : World} {sp : Nat} {cs : Array Value} (h : SB w sp cs) (i : Nat) (u : Value) : SB (w.setCell ⟨sp, i, none⟩ u) sp (cs.setIfInBounds i u) := ⟨heap_set h.blk u, by simpa using h.size⟩
theorem SB.keep {w w' : World} {sp : Nat} {cs : Array Value} (h : SB w sp cs) (hb : w'.heap[sp]? = w.heap[sp]?) : SB w' sp cs := ⟨hb.trans h.blk, h.size⟩
theorem SB.in {w : World} {sp : Nat} {cs : Array Value} (h : SB w sp cs) : sp < w.heap.size := by
  have h1 := h.blk
  rcases Nat.lt_or_ge sp w.heap.size with h2 | h2
  · exact h2
  · rw [Array.getElem?_eq_none h2] at h1; cases h1
theorem QS.set {L : List Tok} {rp tb sp : Nat} {w : World} {k n B : Nat} (h : QS L rp tb w k n) (lo : Lows rp tb B) (hB : B ≤ sp) (i : Nat) (u : Value) : QS L rp tb (w.setCell ⟨sp, i, none⟩ u) k n := h.keep lo fun b hb => Below.heap_setCell _ _ _ _ (show b ≠ sp by omega)
def lengthQ (L : List Tok) (k n : Nat) : PR Nat := if (tokAt L k).kind = .n ∧ pointB (tokAt L k).text = false ∧ wholeN (tokAt L k).text ≤ 12 ∧ dvL (tokAt L k).text.data.toList 0 ≤ 100000 then .ok (dvL (tokAt L k).text.data.toList 0) (k + 1) n else badQ
def perhapsQ (L : List Tok) (ls : List ByteArray) (o : Int) (k : Nat) : Int × Nat := if (tokAt L k).kind = .w then (match placeIn ls (tokAt L k).text with
  | none => (o, k)
  | some i => ((i : Int), k + 1)) else (o, k)
def oneOfQ (L : List Tok) (ls : List ByteArray) (k n : Nat) : PR Nat := if (tokAt L k).kind = .w then (match placeIn ls (tokAt L k).text with
  | none => badQ
  | some i => .ok i (k + 1) n) else badQ
theorem kN_w' {t : TK} : ((kN t : Int) != 1) = !decide (t = .w) := by cases t <;> rfl
set_option maxHeartbeats 1000000 in
theorem perhaps_q {L : List Tok} {rp tb : Nat} {w : World} {k n : Nat} (h : QS L rp tb w k n) (ls : List ByteArray) (b c : Nat) (hk : ∀ i s, ls[i]? = some s → w.cell? ⟨b, 0 + i, none⟩ = some (.string s)) (hl : ls.length ≤ 1000) (o : Int) :
    Calls Tryz.prog 37 #[.pointer (some ⟨rp, 0, none⟩), .slice (some ⟨b, 0, none⟩) ls.length c, .int .i64 o] w fun e w' => e = .returned (.int .i64 (perhapsQ L ls o k).1) ∧ QS L rp tb w' (perhapsQ L ls o k).2 n ∧ BelX w.heap.size rp w w' := by
  obtain ⟨m, cc, hm, h1, hc, h4, x0, x1, xf⟩ := h.cells
  obtain ⟨y0, y1, y2⟩ := h.tokens
  have hz := kN_w' (t := (tokAt L k).kind)
  have HI := hidLL (index_q ls b 0 c w hk hl (tokAt L k).text)
  have HP := hidLL h
  unfold perhapsQ
  clear hk
  by_cases hw : (tokAt L k).kind = .w
  · rw [if_pos hw]
    rw [decide_eq_true hw] at hz
    simp only [Bool.not_true] at hz
    have hk1 := h.moreK (by rw [hw]; intro e; cases e)
    have HS := hidLL (skip_q h hk1)
    cases hp : placeIn ls (tokAt L k).text with
    | none =>
      have hv : plcI ls (tokAt L k).text = -1 := by unfold plcI; rw [hp]
      rw [hv] at HI
      clear h hw hk1 hp hv HS
      generalize kN (tokAt L k).kind = K0 at *
      generalize (tokAt L k).text = K1 at *
      generalize ls.length = ll at *
      go_enter Tryz.func37, Tryz.ntmps37
      go_wp2_with (go_at_call 79; refine HI.out.mono ?_; rintro e w' ⟨rfl, rfl⟩)
      go_ret
      exact ⟨rfl, HP.out, BelX.refl _ _ _⟩
    | some i =>
      have hv : plcI ls (tokAt L k).text = i := by unfold plcI; rw [hp]
      rw [hv] at HI
      have hi0 : ¬ (i : Int) < 0 := by omega
      clear h hw hk1 hp hv
      generalize kN (tokAt L k).kind = K0 at *
      generalize (tokAt L k).text = K1 at *
      generalize ls.length = ll at *
      go_enter Tryz.func37, Tryz.ntmps37
      go_wp2_with (first | (go_at_call 79; refine HI.out.mono ?_; rintro e w' ⟨rfl, rfl⟩) | (go_at_call 35; refine HS.out.mono ?_; rintro e w' ⟨rfl, hq, hb⟩; have HQ := hidLL (And.intro hq hb); clear hq hb))
      go_ret
      exact ⟨rfl, HQ.out.1, HQ.out.2⟩
  · rw [if_neg hw]
    rw [decide_eq_false hw] at hz
    simp only [Bool.not_false] at hz
    clear h hw HI
    generalize kN (tokAt L k).kind = K0 at *
    generalize (tokAt L k).text = K1 at *
    generalize ls.length = ll at *
    go_enter Tryz.func37, Tryz.ntmps37
    go_wp2
    go_ret
    exact ⟨rfl, HP.out, BelX.refl _ _ _⟩
set_option maxHeartbeats 1000000 in
theorem oneOf_q {L : List Tok} {rp tb : Nat} {w : World} {k n : Nat} (h : QS L rp tb w k n) (ls : List ByteArray) (b c : Nat) (hk : ∀ i s, ls[i]? = some s → w.cell? ⟨b, 0 + i, none⟩ = some (.string s)) (hl : ls.length ≤ 1000) :
    Calls Tryz.prog 85 #[.pointer (some ⟨rp, 0, none⟩), .slice (some ⟨b, 0, none⟩) ls.length c] w fun e w' => QEnd L rp tb w (oneOfQ L ls k n) (fun x v _ => v = .int .i64 x) e w' := by
  have HP := hidLL (perhaps_q h ls b c hk hl (-1))
  have HW := hidLL (fun (W : World) (hq : QS L rp tb W k n) => wrong_q hq 189)
  obtain ⟨r, hr⟩ : ∃ r, r = perhapsQ L ls (-1) k := ⟨_, rfl⟩
  have hcase : (r = (-1, k) ∧ oneOfQ L ls k n = badQ) ∨ ∃ i : Nat, r = ((i : Int), k + 1) ∧ oneOfQ L ls k n = .ok i (k + 1) n := by
    rw [hr]
    unfold perhapsQ oneOfQ
    by_cases hw : (tokAt L k).kind = .w
    · rw [if_pos hw, if_pos hw]
      cases placeIn ls (tokAt L k).text with
      | none => exact .inl ⟨rfl, rfl⟩
      | some i => exact .inr ⟨i, rfl, rfl⟩
    · rw [if_neg hw, if_neg hw]
      exact .inl ⟨rfl, rfl⟩
  rw [← hr] at HP
  clear h hk hr
  rcases hcase with ⟨e1, e2⟩ | ⟨i, e1, e2⟩
  · rw [e2]
    subst e1
    clear e2
    generalize ls.length = ll at *
    go_enter Tryz.func85, Tryz.ntmps85
    go_wp2_with (first | (go_at_call 37; refine HP.out.mono ?_; rintro e w' ⟨rfl, hq, hb⟩; obtain ⟨pt, gt⟩ := hq.gT; have HQ := hidLL (And.intro hq hb); clear hq hb) | (go_at_call 44; refine (HW.out _ HQ.out.1 _).mono ?_; rintro e w'' ⟨⟨p, rfl⟩, hb⟩; have HE := hidLL hb; clear hb))
    exact ⟨rfl, HQ.out.2.then (Below.x HE.out _ (Nat.le_refl _)) HQ.out.2.size, ⟨_, rfl⟩⟩
  · rw [e2]
    subst e1
    have hi0 : ¬ (i : Int) < 0 := by omega
    clear e2
    generalize ls.length = ll at *
    go_enter Tryz.func85, Tryz.ntmps85
    go_wp2_with (go_at_call 37; refine HP.out.mono ?_; rintro e w' ⟨rfl, hq, hb⟩; have HQ := hidLL (And.intro hq hb); clear hq hb)
    go_ret
    exact ⟨HQ.out.2, HQ.out.1, _, rfl, rfl⟩
end Go.Proofs.YtehbinobohjadaaGreatDoor
