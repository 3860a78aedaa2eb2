/-
  The reference's Blanks, rowText, Form, WriteLaw.
-/
import Derived.Test.YtgfaeeacndpniaaGreatDoorFlatRows
import Derived.Test.YtgfaeeacndpniaaGreatDoorRefRows
import Derived.Test.YtgfaeeacndpniaaGreatDoorPageAll
import Derived.BigQuiet
namespace Go.Proofs.YtgfaeeacndpniaaGreatDoor
open Go.RowKit Go.Extern.Stop Go.Stop Go.Extern

theorem ofL_app (a b : List UInt8) : ofL a ++ ofL b = ofL (a ++ b) := bl_inj (by rw [bl_app, bl_ofL, bl_ofL, bl_ofL])
theorem ofL_size (a : List UInt8) : (ofL a).size = a.length := by rw [← size_bl, bl_ofL]
theorem app_ofL (a : List UInt8) (s : ByteArray) : ofL a ++ s = ofL (a ++ bl s) := by rw [← ofL_app, ofL_bl]
set_option maxHeartbeats 1000000 in
theorem blanks_any (n : Nat) (hn : n ≤ 100000000) (w : World) :
    Calls Tryz.prog 69 #[.int .i64 n] w fun e w' => e = .returned (.string (ofL (List.replicate (2 * n) 32))) ∧ w' = w := by
  go_enter Tryz.func69, Tryz.ntmps69
  go_wp2_with fail
  go_loop [3, 4] (fun o y => ∃ i : Nat, i ≤ n ∧ y = .int .i64 i ∧ o = .string (ofL (List.replicate (2 * i) 32))) (fun _ y => (n - RowKit.intOf y).toNat)
  case atStart => exact ⟨0, by omega, rfl, rfl⟩
  case round =>
    obtain ⟨i, hi, rfl, rfl⟩ := hrel
    have hs : (ofL (List.replicate (2 * i) 32)).size = 2 * i := by rw [ofL_size, List.length_replicate]
    have HN : Hid (ofL (List.replicate (2 * i) 32) ++ (⟨#[32, 32]⟩ : ByteArray) = ofL (List.replicate (2 * (i + 1)) 32)) := by show _ = _; rw [app_ofL, rep_step]
    obtain ⟨o, ho⟩ : ∃ o, o = ofL (List.replicate (2 * i) 32) := ⟨_, rfl⟩
    have HO := hidLL ho
    rw [← ho] at hs HN
    rw [← ho]
    clear ho
    by_cases hin : i < n
    · have hiz : (i : Int) < n := by omega
      have hos : (o.size : Int) + 2 ≤ 9223372036854775807 := by omega
      go_wp2
      go_round
      case rel => exact ⟨i + 1, by omega, by go_num, by rw [← HN.out]⟩
      case measure => simp [RowKit.intOf]; omega
    · obtain rfl : i = n := by omega
      have hiz : ¬ (i : Int) < i := by omega
      clear hs
      go_wp2
      go_ret
      exact ⟨by rw [HO.out]; rfl, rfl⟩
set_option maxHeartbeats 1000000 in
theorem rowText_any (d : Nat) (hd : d ≤ 100000000) (f t : ByteArray) (hf : f.size ≤ 1000000000) (ht : t.size ≤ 1000000000) (w : World) :
    Calls Tryz.prog 38 #[.int .i64 d, .string f, .string t] w fun e w' => e = .returned (.string (ofL (rowL d (bl f) (bl t)))) ∧ w' = w := by
  have HB := hidLL (fun w => blanks_any d hd w)
  have hE := empty_is t
  have HR : Hid (rowL d (bl f) (bl t) = List.replicate (2 * d) 32 ++ (bl f ++ (tailL (bl t) ++ [10]))) := rfl
  have hs : (ofL (List.replicate (2 * d) 32)).size = 2 * d := by rw [ofL_size, List.length_replicate]
  obtain ⟨b, hb⟩ : ∃ b, b = ofL (List.replicate (2 * d) 32) := ⟨_, rfl⟩
  have Hb := hidLL hb
  rw [← hb] at HB hs
  clear hb
  have h1 : (b.size : Int) + (f.size : Int) ≤ 9223372036854775807 := by omega
  have h2 : (b ++ f).size = b.size + f.size := ByteArray.size_append
  have h2z : ((b ++ f).size : Int) = (b.size : Int) + (f.size : Int) := by omega
  by_cases h0 : t.size = 0
  · rw [show decide (t.size = 0) = true by simpa using h0] at hE
    have HO : Hid ((b ++ f) ++ (⟨#[10]⟩ : ByteArray) = ofL (rowL d (bl f) (bl t))) := by
      show _ = _
      rw [HR.out, tail_no h0, Hb.out, app_ofL, app_ofL, List.nil_append, List.append_assoc]
    generalize rowL d (bl f) (bl t) = R at *
    have h3 : ((b ++ f).size : Int) + 1 ≤ 9223372036854775807 := by omega
    clear h0 hs
    go_enter Tryz.func38, Tryz.ntmps38
    go_wp2_with fail
    go_at_call 69
    refine (HB.out _).mono ?_
    rintro e w1 ⟨rfl, ew⟩
    subst w1
    go_wp2
    go_ret
    exact ⟨by rw [← HO.out]; rfl, rfl⟩
  · rw [show decide (t.size = 0) = false by simpa using h0] at hE
    have h3 : (b ++ f ++ (⟨#[32]⟩ : ByteArray)).size = b.size + f.size + 1 := by rw [ByteArray.size_append, h2]; rfl
    have h4 : (b ++ f ++ (⟨#[32]⟩ : ByteArray) ++ t).size = b.size + f.size + 1 + t.size := by rw [ByteArray.size_append, h3]
    have HO : Hid ((b ++ f ++ (⟨#[32]⟩ : ByteArray) ++ t) ++ (⟨#[10]⟩ : ByteArray) = ofL (rowL d (bl f) (bl t))) := by
      show _ = _
      rw [HR.out, tail_yes h0, Hb.out, app_ofL, app_ofL, app_ofL, app_ofL]
      simp only [List.append_assoc]
      rfl
    generalize rowL d (bl f) (bl t) = R at *
    have h5 : ((b ++ f).size : Int) + 1 ≤ 9223372036854775807 := by omega
    have h6 : ((b ++ f ++ (⟨#[32]⟩ : ByteArray)).size : Int) + (t.size : Int) ≤ 9223372036854775807 := by omega
    have h7 : ((b ++ f ++ (⟨#[32]⟩ : ByteArray) ++ t).size : Int) + 1 ≤ 9223372036854775807 := by omega
    clear h0 hs
    go_enter Tryz.func38, Tryz.ntmps38
    go_wp2_with fail
    go_at_call 69
    refine (HB.out _).mono ?_
    rintro e w1 ⟨rfl, ew⟩
    subst w1
    go_wp2
    go_ret
    exact ⟨by rw [← HO.out]; rfl, rfl⟩
theorem wrapD0 (d : Nat) (h : d ≤ 4294967296) : IntKind.i64.wrap (d : Int) = (d : Int) := by
  rw [IntKind.wrap_i64]; omega
/-! The form, row by row. -/
def rowF (i : Nat) (r : FRow) : List UInt8 := (if i = 0 then [] else rowL (r.deep - 1) (bl r.item.label) (bl r.item.head)) ++ linesL r.deep r.item.lines
def accF : Nat → List FRow → List UInt8
  | _, [] => []
  | i, r :: l => rowF i r ++ accF (i + 1) l
theorem accF_app : ∀ (a b : List FRow) (i : Nat), accF i (a ++ b) = accF i a ++ accF (i + a.length) b
  | [], b, i => rfl
  | r :: a, b, i => by rw [List.cons_append, accF, accF, accF_app a b (i + 1), List.append_assoc, List.length_cons, show i + 1 + a.length = i + (a.length + 1) by omega]
theorem accF_take (rows : List FRow) (i : Nat) (r : FRow) (h : rows[i]? = some r) : accF 0 (rows.take (i + 1)) = accF 0 (rows.take i) ++ rowF i r := by
  obtain ⟨hi, e⟩ := List.getElem?_eq_some_iff.1 h
  rw [List.take_succ_eq_append_getElem hi, e, accF_app, accF, accF, List.append_nil, List.length_take, Nat.min_eq_left (by omega), Nat.zero_add]
theorem accF_takeLe (rows : List FRow) (i : Nat) : (accF 0 (rows.take i)).length ≤ (accF 0 rows).length := by
  have : accF 0 rows = accF 0 (rows.take i) ++ accF (0 + (rows.take i).length) (rows.drop i) := by rw [← accF_app, List.take_append_drop]
  rw [this, List.length_append]; omega
theorem accF_form : ∀ (l : List FRow) (i : Nat), accF (i + 1) l = flatForm l
  | [], i => rfl
  | r :: l, i => by
    rw [accF, flatForm, accF_form l (i + 1)]
    unfold rowF rowForm
    rw [if_neg (by omega)]
theorem accF_law (t : It) : accF 0 (flatIt 0 0 [] t) = contL 0 t := by
  rw [flatIt_eq, accF, accF_form, flatForm_ks, contL_eq]
  unfold rowF
  rw [if_pos rfl]
  rfl
theorem linesL_takeLe (d : Nat) (l : List ByteArray) (k : Nat) : (linesL d (l.take k)).length ≤ (linesL d l).length := by
  have : linesL d l = linesL d (l.take k) ++ linesL d (l.drop k) := by rw [← linesL_app, List.take_append_drop]
  rw [this, List.length_append]; omega
set_option maxHeartbeats 8000000 in
set_option maxRecDepth 10000 in
theorem form_any (t : It) (hF : FewIt t) (hsz : sizeIt t ≤ 1048576) (w : World) (P : Nat → Prop) (v : Nat → Value) (hL : Lies w P v t) :
    Calls Tryz.prog 39 #[.agg #[v 0, v 1, v 2, v 3], .int .i64 0] w fun e w' => e = .returned (.string (ofL (contL 0 t))) ∧ Below w.heap.size w w' := by
  obtain ⟨f0, f1, ⟨la, lc, f2⟩, ⟨ka, kc, f3⟩⟩ := hL.forms
  have HO := hidLL (accF_law t)
  have hcb := cont_bd hsz
  rw [← HO.out] at hcb
  have HRk := hidLL (fun i r (h : (flatIt 0 0 [] t)[i]? = some r) => (flat_ok _ t (Nat.le_refl _) hF 0 0 1048576 [] (Nat.le_refl _) (by simp) (by omega) r (List.mem_of_getElem? h)).1)
  have HRf := hidLL (fun i r h => row_first (t := t) (i := i) (r := r) h)
  have hrl := flatIt_len _ t (Nat.le_refl _) 0 0 []
  obtain ⟨W1, hW1⟩ : ∃ W1, W1 = w.alloc (.cells #[.string t.label, .string t.head, .slice la t.lines.length lc, .slice ka t.kids.length kc] 26) := ⟨_, rfl⟩
  have hb1 : Below w.heap.size w W1 := by rw [hW1]; exact (Below.refl _ _).alloc (Nat.le_refl _) _
  have hx1 : W1.heap[w.heap.size]? = some (.cells #[.string t.label, .string t.head, .slice la t.lines.length lc, .slice ka t.kids.length kc] 26 (0, 0)) := by rw [hW1]; exact heap_alloc_new _ _
  have HFl := hidLL (flat_any t hsz W1 P v (hL.bel hb1))
  rw [f0, f1, f2, f3] at HFl
  rw [f0, f1, f2, f3]
  have HB1 := hidLL hb1
  have HW1 := hidLL hW1
  have hs1 := hb1.size
  obtain ⟨x0, x1, x2, x3, xf⟩ := four hx1
  have hrn : (flatIt 0 0 [] t).length ≤ 1048576 := by omega
  clear hL f0 f1 f2 f3 hb1 hx1 hW1 hsz hF hrl
  generalize contL 0 t = O at *
  generalize flatIt 0 0 [] t = rows at *
  have HLe := hidLL (fun i => accF_takeLe rows i)
  have HCb := hidLL hcb
  generalize t.label = l0 at *
  generalize t.head = l1 at *
  generalize t.lines.length = l2 at *
  generalize t.kids.length = l3 at *
  clear hcb
  go_enter Tryz.func39, Tryz.ntmps39
  go_upto_region 1 with fail
  rw [← HW1.out]
  go_wp2_with fail
  go_at_call 41
  refine HFl.out.mono ?_
  rintro e w2 ⟨ra, rc, V, rfl, hFA, hb2⟩
  have HFA := hidLL hFA
  have HB2 := hidLL (HB1.out.trans (hb2.mono hs1))
  have hB2 := hb2.size
  clear hFA hb2 x0 x1 x2 x3 xf
  obtain ⟨rn, hrne⟩ : ∃ rn, rn = rows.length := ⟨_, rfl⟩
  rw [← hrne] at hrn HFA
  rw [← hrne]
  have HRn := hidLL hrne
  clear hrne
  go_wp2_with fail
  go_loopw [6, 7] (fun o y wr => ∃ i : Nat, i ≤ rn ∧ y = .int .i64 i ∧ o = .string (ofL (accF 0 (rows.take i))) ∧ Below w2.heap.size w2 wr) (fun _ y _ => (rn - RowKit.intOf y).toNat)
  case atStart => exact ⟨0, by omega, rfl, by rw [List.take_zero]; rfl, Below.refl _ _⟩
  case round =>
    obtain ⟨i, hi, rfl, rfl, hbw⟩ := hrel
    obtain ⟨wo, ewo⟩ : ∃ wo, wo = wr := ⟨_, rfl⟩
    subst wr
    have HBw := hidLL hbw
    have hsw := hbw.size
    clear hbw
    have hAl := HLe.out i
    by_cases hin : i < rn
    · have hiz : (i : Int) < rn := by omega
      obtain ⟨r, hr⟩ : ∃ r, rows[i]? = some r := ⟨_, List.getElem?_eq_getElem (by rw [← HRn.out]; exact hin)⟩
      have HOk := hidLL (HRk.out i r hr)
      have HFi := hidLL (HRf.out i r hr)
      have HFw := hidLL (HFA.out.on hB2 HBw.out)
      have HRw := hidLL (HFw.out.each i r hr)
      have HAt := hidLL (accF_take rows i r hr)
      have hAl2 := HLe.out (i + 1)
      rw [HAt.out, List.length_append] at hAl2
      obtain ⟨-, g, hra, cx⟩ := HFw.out.get hr
      subst hra
      obtain ⟨g0, g1, ⟨pa, pc, g2⟩, ⟨pk, pkc, g3⟩⟩ := HRw.out.it.forms
      obtain ⟨np, g5⟩ := HRw.out.pa
      obtain ⟨ua, uc, g7, hup⟩ := HRw.out.up
      have g4 := HRw.out.dp
      have g6 := HRw.out.nt
      have y0 : wo.cell? ⟨g, i * 8, none⟩ = some (V i 0) := cx 0 (by omega)
      have y1 := cx 1 (by omega)
      have y2 := cx 2 (by omega)
      have y3 := cx 3 (by omega)
      have y4 := cx 4 (by omega)
      have y5 := cx 5 (by omega)
      have y6 := cx 6 (by omega)
      have y7 := cx 7 (by omega)
      rw [g0] at y0
      rw [g1] at y1
      rw [g2] at y2
      rw [g3] at y3
      rw [g4] at y4
      rw [g5] at y5
      rw [g6] at y6
      rw [g7] at y7
      have HLn := hidLL (HRw.out.it.linesIn g2).2
      have hdp := HOk.out.dp
      obtain ⟨q1, q2, q3, q4, q5, _⟩ := HOk.out.few.get
      have HRF : Hid (rowF i r = (if i = 0 then [] else rowL (r.deep - 1) (bl r.item.label) (bl r.item.head)) ++ linesL r.deep r.item.lines) := rfl
      rw [HRF.out, List.length_append] at hAl2
      rw [HRF.out] at HAt
      obtain ⟨T, hT⟩ : ∃ T, T = r.item := ⟨_, rfl⟩
      rw [← hT] at HLn q1 q3 q4 q5 y0 y1 y2 y3 hAl2 HAt
      clear g0 g1 g2 g3 g4 g5 g6 g7 hup cx hT HRF
      obtain ⟨ln, hln⟩ : ∃ ln, ln = T.lines.length := ⟨_, rfl⟩
      rw [← hln] at y2 q1
      have HLl := hidLL hln
      have HQ3 := hidLL q3
      obtain ⟨W5, hW5⟩ : ∃ W5, W5 = wo.alloc (.cells #[.string T.label, .string T.head, .slice pa ln pc, .slice pk T.kids.length pkc, .int .i64 r.deep, .string np, .int .i64 r.nth, .slice ua r.up.length uc] 91) := ⟨_, rfl⟩
      have hb5 : Below wo.heap.size wo W5 := by rw [hW5]; exact (Below.refl _ _).alloc (Nat.le_refl _) _
      have hx5 : W5.heap[wo.heap.size]? = some (.cells #[.string T.label, .string T.head, .slice pa ln pc, .slice pk T.kids.length pkc, .int .i64 r.deep, .string np, .int .i64 r.nth, .slice ua r.up.length uc] 91 (0, 0)) := by rw [hW5]; exact heap_alloc_new _ _
      have HX5 := hidLL hx5
      have HB5 := hidLL hb5
      have hs5 := lt_of_block hx5
      have HW5 := hidLL (HBw.out.trans (hb5.mono hsw))
      have hd0 := HFi.out.1
      clear hb5 hln q3 hr HRw HOk HFi
      generalize T.kids.length = xk at *
      generalize r.deep = dd at *
      generalize r.nth = nn at *
      generalize r.up.length = un at *
      have HRt := hidLL (fun w (h : dd ≠ 0) => rowText_any (dd - 1) (by omega) T.label T.head (by omega) (by omega) w)
      have HRl := hidLL (fun w x (h : x ∈ T.lines) => rowText_any dd (by omega) ⟨#[124]⟩ x (by decide) (by have := HQ3.out x h; omega) w)
      have hLl := fun k => linesL_takeLe dd T.lines k
      obtain ⟨A, hA⟩ : ∃ A, A = accF 0 (rows.take i) := ⟨_, rfl⟩
      rw [← hA] at hAl hAl2 HAt
      rw [← hA]
      clear hA
      go_upto_region 7 with fail
      rw [← hW5]
      clear hW5 y0 y1 y2 y3 y4 y5 y6 y7
      obtain ⟨z0, z1, z2, z3, z4, z5, z6, z7⟩ := eight hx5
      clear hx5
      obtain ⟨H, hH⟩ : ∃ H : List UInt8, H = if i = 0 then [] else rowL (dd - 1) (bl T.label) (bl T.head) := ⟨_, rfl⟩
      rw [← hH] at hAl2 HAt
      have hCb := HCb.out
      have hst : i = 0 ∧ H = [] ∨ i ≠ 0 ∧ H = rowL (dd - 1) (bl T.label) (bl T.head) := by
        by_cases h0 : i = 0
        · exact .inl ⟨h0, by rw [hH, if_pos h0]⟩
        · exact .inr ⟨h0, by rw [hH, if_neg h0]⟩
      have hAs : (ofL A).size = A.length := ofL_size A
      clear hH
      have hwd : IntKind.i64.wrap ((0 : Int) + (dd : Int)) = (dd : Int) := by rw [Int.zero_add]; exact wrapD0 dd (by omega)
      have hwd2 : IntKind.i64.wrap (dd : Int) = (dd : Int) := wrapD0 dd (by omega)
      rcases hst with ⟨h0, hH⟩ | ⟨h0, hH⟩
      · have h0z : ¬ (0 : Int) < (i : Int) := by omega
        obtain ⟨oA, hoA⟩ : ∃ oA, oA = ofL (A ++ H) := ⟨_, rfl⟩
        have HoA := hidLL hoA
        have hsl : ofL A = oA := by rw [hoA, hH, List.append_nil]
        rw [hsl]
        clear hsl hoA h0 hH hAs
        go_wp2_with fail
        go_loopw [6, 9] (fun o y wr => ∃ k : Nat, k ≤ ln ∧ y = .int .i64 k ∧ o = .string (ofL (A ++ H ++ linesL dd (T.lines.take k))) ∧ Below W5.heap.size W5 wr) (fun _ y _ => (ln - RowKit.intOf y).toNat)
        case atStart => exact ⟨0, by omega, rfl, by rw [List.take_zero, linesL, List.append_nil, ← HoA.out], Below.refl _ _⟩
        case round =>
          obtain ⟨k, hk, rfl, rfl, hb3⟩ := hrel
          obtain ⟨w3, ew3⟩ : ∃ w3, w3 = wr := ⟨_, rfl⟩
          subst wr
          have HB3 := hidLL hb3
          have hx3 := (hb3.block wo.heap.size hs5).trans HX5.out
          clear hb3 z0 z1 z2 z3 z4 z5 z6 z7
          obtain ⟨z0, z1, z2, z3, z4, z5, z6, z7⟩ := eight hx3
          clear hx3
          have hXs : (ofL (A ++ H ++ linesL dd (T.lines.take k))).size = A.length + H.length + (linesL dd (T.lines.take k)).length := by rw [ofL_size, List.length_append, List.length_append]
          have hLk := hLl k
          obtain ⟨oX, hoX⟩ : ∃ oX, oX = ofL (A ++ H ++ linesL dd (T.lines.take k)) := ⟨_, rfl⟩
          have HoX := hidLL hoX
          rw [← hoX] at hXs
          rw [← hoX]
          clear hoX
          by_cases hkl : k < ln
          · have hkz : (k : Int) < ln := by omega
            obtain ⟨x, hx⟩ : ∃ x, T.lines[k]? = some x := ⟨_, List.getElem?_eq_getElem (by rw [← HLl.out]; exact hkl)⟩
            obtain ⟨gb, go, hpa, _, cu⟩ := HLn.out k x hx
            subst hpa
            have dx := (HB3.out.cell (p := ⟨gb, go + k, none⟩) (by have h1 := cell_lt cu; show gb < _; omega)).trans ((HB5.out.cell (p := ⟨gb, go + k, none⟩) (cell_lt cu)).trans cu)
            have HRx := hidLL (fun w => HRl.out w x (List.mem_of_getElem? hx))
            have HT := hidLL (linesL_take dd T.lines k x hx)
            have hRs : (ofL (rowL dd (bl ⟨#[124]⟩) (bl x))).size = (rowL dd (bl ⟨#[124]⟩) (bl x)).length := ofL_size _
            have hLk1 := hLl (k + 1)
            rw [HT.out, List.length_append, show bar = bl ⟨#[124]⟩ from rfl] at hLk1
            have hadd : (oX.size : Int) + ((ofL (rowL dd (bl ⟨#[124]⟩) (bl x))).size : Int) ≤ 9223372036854775807 := by omega
            have HN : Hid (oX ++ ofL (rowL dd (bl ⟨#[124]⟩) (bl x)) = ofL (A ++ H ++ linesL dd (T.lines.take (k + 1)))) := by
              show _ = _
              rw [HT.out, HoX.out, ofL_app, ← List.append_assoc]; rfl
            generalize ofL (rowL dd (bl ⟨#[124]⟩) (bl x)) = oR at *
            clear cu hx hRs hLk1 hLk hXs
            go_wp2_with fail
            go_quiet ((first | (go_at_call 38; exact Calls.quiet_of_same (HRx.out _))))
            go_wp2
            go_roundw
            case rel => exact ⟨k + 1, by omega, by go_num, by rw [← HN.out], bdrewN HB3.out _⟩
            case measure => simp [RowKit.intOf]; omega
          · obtain rfl : k = ln := by omega
            have hkz : ¬ (k : Int) < k := by omega
            have HF9 : Hid (oX = ofL (accF 0 (rows.take (i + 1)))) := by
              show _ = _
              rw [HoX.out, take_all (l := T.lines) HLl.out, HAt.out, List.append_assoc]
            have HW3 := hidLL (HW5.out.trans (HB3.out.mono (by have := HW5.out.size; omega)))
            clear hLk hXs
            go_wp2
            go_roundw
            case rel => exact ⟨i + 1, by omega, by go_num, by rw [← HF9.out], HW3.out⟩
            case measure => simp [RowKit.intOf]; omega
      · have h0z : (0 : Int) < (i : Int) := by omega
        have hdn : dd ≠ 0 := fun e => h0 (hd0.1 e)
        have HR1 := hidLL (fun w => HRt.out w hdn)
        rw [show ((dd - 1 : Nat) : Int) = (dd : Int) - 1 by omega, ← hH] at HR1
        have hHs : (ofL H).size = H.length := ofL_size H
        obtain ⟨oA, hoA⟩ : ∃ oA, oA = ofL (A ++ H) := ⟨_, rfl⟩
        have HoA := hidLL hoA
        have hsl : ofL A ++ ofL H = oA := by rw [hoA, ofL_app]
        have hadd : ((ofL A).size : Int) + ((ofL H).size : Int) ≤ 9223372036854775807 := by omega
        have hdm : (1 : Int) ≤ (dd : Int) := by omega
        clear hoA h0 hH
        generalize ofL A = oa at *
        generalize ofL H = oh at *
        go_wp2_with fail
        go_at_call 38
        refine (HR1.out _).mono ?_
        rintro e w8 ⟨rfl, ew⟩
        subst w8
        go_upto_region 10 with fail
        try rw [hsl]
        clear hsl hadd hHs hAs
        go_wp2_with fail
        go_loopw [6, 9] (fun o y wr => ∃ k : Nat, k ≤ ln ∧ y = .int .i64 k ∧ o = .string (ofL (A ++ H ++ linesL dd (T.lines.take k))) ∧ Below W5.heap.size W5 wr) (fun _ y _ => (ln - RowKit.intOf y).toNat)
        case atStart => exact ⟨0, by omega, rfl, by rw [List.take_zero, linesL, List.append_nil, ← HoA.out], Below.refl _ _⟩
        case round =>
          obtain ⟨k, hk, rfl, rfl, hb3⟩ := hrel
          obtain ⟨w3, ew3⟩ : ∃ w3, w3 = wr := ⟨_, rfl⟩
          subst wr
          have HB3 := hidLL hb3
          have hx3 := (hb3.block wo.heap.size hs5).trans HX5.out
          clear hb3 z0 z1 z2 z3 z4 z5 z6 z7
          obtain ⟨z0, z1, z2, z3, z4, z5, z6, z7⟩ := eight hx3
          clear hx3
          have hXs : (ofL (A ++ H ++ linesL dd (T.lines.take k))).size = A.length + H.length + (linesL dd (T.lines.take k)).length := by rw [ofL_size, List.length_append, List.length_append]
          have hLk := hLl k
          obtain ⟨oX, hoX⟩ : ∃ oX, oX = ofL (A ++ H ++ linesL dd (T.lines.take k)) := ⟨_, rfl⟩
          have HoX := hidLL hoX
          rw [← hoX] at hXs
          rw [← hoX]
          clear hoX
          by_cases hkl : k < ln
          · have hkz : (k : Int) < ln := by omega
            obtain ⟨x, hx⟩ : ∃ x, T.lines[k]? = some x := ⟨_, List.getElem?_eq_getElem (by rw [← HLl.out]; exact hkl)⟩
            obtain ⟨gb, go, hpa, _, cu⟩ := HLn.out k x hx
            subst hpa
            have dx := (HB3.out.cell (p := ⟨gb, go + k, none⟩) (by have h1 := cell_lt cu; show gb < _; omega)).trans ((HB5.out.cell (p := ⟨gb, go + k, none⟩) (cell_lt cu)).trans cu)
            have HRx := hidLL (fun w => HRl.out w x (List.mem_of_getElem? hx))
            have HT := hidLL (linesL_take dd T.lines k x hx)
            have hRs : (ofL (rowL dd (bl ⟨#[124]⟩) (bl x))).size = (rowL dd (bl ⟨#[124]⟩) (bl x)).length := ofL_size _
            have hLk1 := hLl (k + 1)
            rw [HT.out, List.length_append, show bar = bl ⟨#[124]⟩ from rfl] at hLk1
            have hadd : (oX.size : Int) + ((ofL (rowL dd (bl ⟨#[124]⟩) (bl x))).size : Int) ≤ 9223372036854775807 := by omega
            have HN : Hid (oX ++ ofL (rowL dd (bl ⟨#[124]⟩) (bl x)) = ofL (A ++ H ++ linesL dd (T.lines.take (k + 1)))) := by
              show _ = _
              rw [HT.out, HoX.out, ofL_app, ← List.append_assoc]; rfl
            generalize ofL (rowL dd (bl ⟨#[124]⟩) (bl x)) = oR at *
            clear cu hx hRs hLk1 hLk hXs
            go_wp2_with fail
            go_quiet ((first | (go_at_call 38; exact Calls.quiet_of_same (HRx.out _))))
            go_wp2
            go_roundw
            case rel => exact ⟨k + 1, by omega, by go_num, by rw [← HN.out], bdrewN HB3.out _⟩
            case measure => simp [RowKit.intOf]; omega
          · obtain rfl : k = ln := by omega
            have hkz : ¬ (k : Int) < k := by omega
            have HF9 : Hid (oX = ofL (accF 0 (rows.take (i + 1)))) := by
              show _ = _
              rw [HoX.out, take_all (l := T.lines) HLl.out, HAt.out, List.append_assoc]
            have HW3 := hidLL (HW5.out.trans (HB3.out.mono (by have := HW5.out.size; omega)))
            clear hLk hXs
            go_wp2
            go_roundw
            case rel => exact ⟨i + 1, by omega, by go_num, by rw [← HF9.out], HW3.out⟩
            case measure => simp [RowKit.intOf]; omega
    · obtain rfl : i = rn := by omega
      have hiz : ¬ (i : Int) < i := by omega
      have hall := take_all (l := rows) HRn.out
      rw [hall]
      rw [HO.out]
      have HAll := hidLL (HB2.out.trans (HBw.out.mono HB2.out.size))
      clear hAl
      go_wp2
      go_ret
      exact ⟨rfl, HAll.out⟩
end Go.Proofs.YtgfaeeacndpniaaGreatDoor
