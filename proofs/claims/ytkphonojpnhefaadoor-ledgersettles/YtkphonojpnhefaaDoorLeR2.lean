/-
  Settling, the reference: SettleClaims.
-/
import Derived.Test.YtkphonojpnhefaaDoorLeR1
namespace Go.Proofs.YtkphonojpnhefaaDoor
open Go.RowKit Go.Extern.Stop Go.Stop Go.Extern

theorem Tryd.infoLnR : ∃ i z, Tryd.prog.info? 67 = some i ∧ i.zero = some z ∧ i.size = lnE.k ∧ i.bytes = 24 ∧ z.cells.size = lnE.k := by
  have h : (Tryd.prog.info? 67).map (fun i => (i.zero, i.size, i.bytes)) = some (some (.agg #[.string ⟨#[]⟩, .int .i64 0]), 2, 24) := by kernel_rfl
  obtain ⟨i, h1, h2⟩ := Option.map_eq_some_iff.1 h
  simp only [Prod.mk.injEq] at h2
  exact ⟨i, _, h1, h2.1, h2.2.1, h2.2.2, rfl⟩
theorem Tryd.infoEnR : ∃ i z, Tryd.prog.info? 42 = some i ∧ i.zero = some z ∧ i.size = enN.E.k ∧ i.bytes = 48 ∧ z.cells.size = enN.E.k := by
  have h : (Tryd.prog.info? 42).map (fun i => (i.zero, i.size, i.bytes)) = some (some (.agg #[.int .i64 0, .string ⟨#[]⟩, .slice none 0 0]), 3, 48) := by kernel_rfl
  obtain ⟨i, h1, h2⟩ := Option.map_eq_some_iff.1 h
  simp only [Prod.mk.injEq] at h2
  exact ⟨i, _, h1, h2.1, h2.2.1, h2.2.2, rfl⟩
/-- A row of one, which has just been laid. -/
theorem row_one {α : Type} (E : Enc α) (T : Nat) (w : World) (x : α) : RowG E T (w.alloc (.cells (E.f x).toArray T)) w.heap.size (.slice (some ⟨w.heap.size, 0, none⟩) 1 1) [x] := by
  have hl := E.len x
  refine ⟨⟨by rw [E.all_len], .inr ⟨w.heap.size, 1, (E.f x).toArray, rfl, Nat.le_refl _, Go.Deep.blk_alloc_new w _, Nat.le_refl _, by unfold maxLen; omega, by simp [hl], ?_⟩⟩, by simp⟩
  rw [E.all_cons, E.all_nil, List.append_nil]
  rw [List.take_of_length_le (by simp [hl])]
/-- An entry under way, in its box. -/
structure EbS (W0 : World) (xb : Nat) (dy : Int) (ls : List Ln) (a : Option Addr) (n c : Nat) (wk : World) : Prop where
  c0 : wk.cell? ⟨xb, 0, none⟩ = some (.int .i64 dy)
  c1 : wk.cell? ⟨xb, 1, none⟩ = some (.string ⟨#[97, 110, 101, 119]⟩)
  c2 : wk.cell? ⟨xb, 2, none⟩ = some (.slice a n c)
  th : wk.there xb 0 3
  row : RowG lnE 67 wk W0.heap.size (.slice a n c) ls
  ne : (Value.slice a n c).ownBlock ≠ some xb
  bel : Below W0.heap.size W0 wk
  le : W0.heap.size ≤ xb
theorem EbS.lt {W0 wk : World} {xb n c : Nat} {a : Option Addr} {dy : Int} {ls : List Ln} (h : EbS W0 xb dy ls a n c wk) : xb < wk.heap.size := cell_lt h.c0
theorem EbS.start (W0 : World) (dy m : Int) (T : Nat) : EbS W0 (W0.heap.size + 1) dy [⟨tRights, -m⟩] (some ⟨W0.heap.size, 0, none⟩) 1 1 ((W0.alloc (.cells #[.string ⟨#[114, 105, 103, 104, 116, 115]⟩, .int .i64 (-m)] 67)).alloc (.cells #[.int .i64 dy, .string ⟨#[97, 110, 101, 119]⟩, .slice (some ⟨W0.heap.size, 0, none⟩) 1 1] T)) := by
  have hr := alloc_range (W0.alloc (.cells #[.string ⟨#[114, 105, 103, 104, 116, 115]⟩, .int .i64 (-m)] 67)) [.int .i64 dy, .string ⟨#[97, 110, 101, 119]⟩, .slice (some ⟨W0.heap.size, 0, none⟩) 1 1] T
  have ht := alloc_there (W0.alloc (.cells #[.string ⟨#[114, 105, 103, 104, 116, 115]⟩, .int .i64 (-m)] 67)) [.int .i64 dy, .string ⟨#[97, 110, 101, 119]⟩, .slice (some ⟨W0.heap.size, 0, none⟩) 1 1] T
  have hs : (W0.alloc (.cells #[.string ⟨#[114, 105, 103, 104, 116, 115]⟩, .int .i64 (-m)] 67)).heap.size = W0.heap.size + 1 := by simp
  rw [hs] at hr ht
  refine ⟨hr 0 _ rfl, hr 1 _ rfl, hr 2 _ rfl, ht, ?_, ?_, (bel1 _ _).trans ((bel1 _ _).mono (by simp)), by omega⟩
  · exact (row_one lnE 67 W0 ⟨tRights, -m⟩).below (bel1 _ _)
  · intro e
    injection e with e
    have e : W0.heap.size = W0.heap.size + 1 := e
    omega
theorem EbS.next {W0 wk w5 : World} {xb n c : Nat} {a : Option Addr} {dy : Int} {ls : List Ln} (h : EbS W0 xb dy ls a n c wk) {x : Ln} {a' : Option Addr} {n' c' : Nat} (hr : RowG lnE 67 w5 W0.heap.size (.slice a' n' c') (ls ++ [x])) (hb : Below W0.heap.size wk w5) (hk : ∀ k, (Value.slice a n c).ownBlock ≠ some k → k < wk.heap.size → w5.heap[k]? = wk.heap[k]?) (hv : ∀ k, (Value.slice a' n' c').ownBlock = some k → (Value.slice a n c).ownBlock = some k ∨ wk.heap.size ≤ k) :
    EbS W0 xb dy (ls ++ [x]) a' n' c' (w5.setCell ⟨xb, 2, none⟩ (.slice a' n' c')) := by
  have hlt := h.lt
  have hx := hk xb h.ne hlt
  have e0 : w5.cell? ⟨xb, 0, none⟩ = some (.int .i64 dy) := (World.cell?_of_block (a := ⟨xb, 0, none⟩) hx).trans h.c0
  have e1 : w5.cell? ⟨xb, 1, none⟩ = some (.string ⟨#[97, 110, 101, 119]⟩) := (World.cell?_of_block (a := ⟨xb, 1, none⟩) hx).trans h.c1
  have th5 := there_on h.th hx
  have ne' : (Value.slice a' n' c').ownBlock ≠ some xb := fun e => by
    rcases hv xb e with e1 | e1
    · exact h.ne e1
    · omega
  have eS : w5.setCell ⟨xb, 2, none⟩ (.slice a' n' c') = w5.setCells xb 2 [.slice a' n' c'] := rfl
  rw [eS]
  have hr2 : w5.rangeAt xb 0 [.int .i64 dy, .string ⟨#[97, 110, 101, 119]⟩] := fun j v hv => by
    match j, hv with
    | 0, hv =>
      obtain rfl := Option.some.inj hv
      exact e0
    | 1, hv =>
      obtain rfl := Option.some.inj hv
      exact e1
  have hr3 := World.rangeAt_setCells_apart hr2 xb 2 [.slice a' n' c'] (.inr (.inl (by simp)))
  refine ⟨hr3 0 _ rfl, hr3 1 _ rfl, ?_, World.there_setCells th5 _ _ _, ?_, ne', ?_, h.le⟩
  · exact (World.rangeAt_setCells_same w5 xb 2 [.slice a' n' c'] (fun j hj => by
      have := th5 (2 + j) (by simp at hj; omega)
      rwa [Nat.zero_add] at this)) 0 _ rfl
  · exact hr.on fun g hg _ _ => setCells_blk xb _ 2 w5 g (fun e => ne' (by rw [hg, e]))
  · exact (h.bel.trans hb).setCell (p := ⟨xb, 2, none⟩) h.le _
theorem lines_eq {m o : Int} (hm : m ≠ 0) : linesOf m o = ([⟨tRights, -m⟩] ++ (if m - o = 0 then [] else [⟨tPaid, m - o⟩])) ++ (if o = 0 then [] else [⟨tDebts, o⟩]) := by
  have n1 : nz ⟨tRights, -m⟩ = true := by unfold nz; simp; omega
  unfold linesOf
  rw [List.filter_cons, if_pos n1, List.filter_cons]
  by_cases h1 : m - o = 0
  · rw [if_pos h1, if_neg (by unfold nz; simp [h1]), List.filter_cons]
    by_cases h2 : o = 0
    · rw [if_pos h2, if_neg (by unfold nz; simp [h2])]; rfl
    · rw [if_neg h2, if_pos (by unfold nz; simp [h2])]; rfl
  · rw [if_neg h1, if_pos (by unfold nz; simp [h1]), List.filter_cons]
    by_cases h2 : o = 0
    · rw [if_pos h2, if_neg (by unfold nz; simp [h2])]; rfl
    · rw [if_neg h2, if_pos (by unfold nz; simp [h2])]; rfl
/-- What is under way. -/
inductive SeqS (w : World) (rate : Int) (l : List Cl) (n : Nat) : Value → Value → Value → Value → World → Prop
  | mk {i : Nat} {r d : Int} {pre : List En} {a : Option Addr} {m c : Nat} {wr : World} (hi : i ≤ n) (hr : -1000000000000 ≤ r ∧ r ≤ 1000000000000) (hd : 0 ≤ d ∧ d ≤ 1000000000000) (few : pre.length ≤ i)
      (row : NRow enN 42 (fun _ => True) wr w.heap.size (.slice a m c) pre) (all : setL rate 0 0 l = (setL rate r d (l.drop i)).map (pre ++ ·)) (bel : Below w.heap.size w wr) : SeqS w rate l n (.slice a m c) (.int .i64 r) (.int .i64 d) (.int .i64 i) wr
/-- What the reference answers. -/
def SetQ (w : World) : Nat ⊕ List En → Ending → World → Prop
  | .inl k => fun e w' => e = .returned (.tuple #[.slice none 0 0, .int .i64 ((k : Int) + 1)]) ∧ Below w.heap.size w w'
  | .inr es => fun e w' => ∃ a m c, e = .returned (.tuple #[.slice a m c, .int .i64 0]) ∧ NRd enN w' (· < w'.heap.size) (.slice a m c) es ∧ Below w.heap.size w w'
theorem tup2 {a b : Value} (h : a = b) (u : Value) : Ending.returned (.tuple #[u, a]) = .returned (.tuple #[u, b]) := by rw [h]
set_option maxHeartbeats 4000000 in
set_option maxRecDepth 10000 in
theorem settleR_p {B n c : Nat} {a : Option Addr} {l : List Cl} {rate : Int} {w : World} (h : NRd clN w (· < B) (.slice a n c) l) (hB : B ≤ w.heap.size) :
    Calls Tryd.prog 9 #[.slice a n c, .int .i64 rate] w (SetQ w (settleL l rate)) := by
  obtain ⟨hn, hbig⟩ := h.len
  have HC := hidIt (valid_p (rate := rate) h hB)
  have HR := hidIt (And.intro h hn)
  have HSm := hidIt (fun n w => rSmall_any n w)
  clear h hn
  cases hk : claimsK l rate with
  | some k =>
    rw [settleL_bad hk]
    rw [hk] at HC
    clear hk
    have hkk : codeK (some k) = (k : Int) + 1 := rfl
    rw [hkk] at HC
    have hpos : (0 : Int) < (k : Int) + 1 := by omega
    clear hkk
    go_enter Tryd.func9, Tryd.ntmps9
    go_wp2_with fail
    refine HC.out.mono ?_
    rintro e w1 ⟨rfl, hb1⟩
    have HB1 := hidIt hb1
    clear hb1
    go_wp2
    go_ret2
    exact ⟨rfl, HB1.out⟩
  | none =>
    rw [hk] at HC
    have hkk : codeK none = 0 := rfl
    rw [hkk] at HC
    clear hkk
    obtain ⟨k1, k2, _, _, k5, k6, k7⟩ := claimsK_none hk
    have HK := hidIt hk
    have HK2 := hidIt (And.intro k1 (And.intro k2 k5))
    clear hk k1 k2 k5
    go_enter Tryd.func9, Tryd.ntmps9
    go_wp2_with fail
    refine HC.out.mono ?_
    rintro e w1 ⟨rfl, hb1⟩
    have HB1 := hidIt hb1
    clear hb1 HC
    have HStart : Hid (SeqS w rate l n (.slice none 0 0) (.int .i64 0) (.int .i64 0) (.int .i64 0) w1) :=
      SeqS.mk (i := 0) (r := 0) (d := 0) (pre := []) (by omega) (by omega) (by omega) (by simp) (NRow.nil _ _) (by rw [List.drop_zero]; cases setL rate 0 0 l <;> simp) HB1.out
    go_wp2_with fail
    go_loopw [7, 8, 9, 10] (fun x y z t wr => SeqS w rate l n x y z t wr) (fun _ _ _ t _ => n - (RowKit.intOf t).toNat)
    case atStart => exact HStart.out
    case round =>
      clear HStart
      rcases hrel with @⟨i, r, d, pre, ra, rm, rc, wr, hi, hr, hd, few, row, all, bel⟩
      by_cases hlt : i < n
      · have c0 : decide ((i : Int) < n) = true := by simp; omega
        have hiz : (i : Int) < n := by omega
        obtain ⟨x, he, hdr⟩ := get_in (l := l) (i := i) (by have := HR.out.2; omega)
        obtain ⟨g, o, sa, sn, sc, rfl, hg, q0, q1, hdu⟩ := cl_at (HR.out.1.below (bel.mono hB)) he
        have hx := List.mem_of_getElem? he
        have hgr : x.due.any great = false := by simpa using (List.any_eq_false.1 HK2.out.2.2) x hx
        have hmn : x.due.length ≤ 400 := by
          have h1 : many x = false := by simpa using (List.any_eq_false.1 HK2.out.2.1) x hx
          unfold many at h1
          simp at h1
          omega
        have hsn := hdu.len.1
        have hbd := rightL_bd x.day x.due hgr
        have hbd2 : -400000000000000 ≤ x.right ∧ x.right ≤ 400000000000000 := by unfold Cl.right; omega
        have HRt : Hid (Calls Tryd.prog 13 #[.agg #[.int .i64 x.day, .slice sa sn sc]] wr fun e w' => e = .returned (.int .i64 x.right) ∧ Below wr.heap.size wr w') :=
          rightOf_p hdu (Nat.le_trans hB bel.size) hgr (by omega)
        rw [hdr] at all
        obtain ⟨dy, due⟩ := x
        have HAll := hidIt all
        have HRow := hidIt row
        have HBel := hidIt bel
        have HFew := hidIt few
        simp only at q0 HRt
        obtain ⟨N, hN⟩ : ∃ N, N = (Cl.mk dy due).right := ⟨_, rfl⟩
        rw [← hN] at HRt hbd2
        have HN := hidIt hN
        have hgw : g < wr.heap.size := by have := bel.size; omega
        have HQ := hidIt q0
        clear all row bel hx hdu hsn hmn hgr hbd he hdr few hN
        go_wp2_with fail
        refine HRt.out.mono ?_
        rintro e w2 ⟨rfl, hb2⟩
        clear HRt
        have qd : w2.cell? ⟨g, o + i * 2, none⟩ = some (.int .i64 dy) := (hb2.cell (p := ⟨g, o + i * 2, none⟩) hgw).trans q0
        have HRow2 := hidIt (HRow.out.below hb2)
        have HB2 := hidIt (HBel.out.trans (hb2.mono HBel.out.size))
        clear hb2 HRow q0 q1 hgw
        obtain ⟨m, hm⟩ : ∃ m, m = N - r := ⟨_, rfl⟩
        have em : N - r = m := hm.symm
        clear hm
        have H1 := hidIt (fun w => HSm.out N w)
        have H2 := hidIt (fun w => HSm.out m w)
        go_wp2_with fail
        refine (H1.out _).mono ?_
        rintro e w3 ⟨rfl, ew⟩
        subst w3
        go_wp2_with fail
        refine (H2.out _).mono ?_
        rintro e w3 ⟨rfl, ew⟩
        subst w3
        cases hb1 : (okC N && okC m) with
        | false =>
          have HNo : Hid (setL rate 0 0 l = none) := by
            show _ = _
            rw [HAll.out, setL_cons_bad1 (by rw [← HN.out, em]; exact hb1)]
            rfl
          cases h1 : okC N with
          | false =>
            clear hb1
            go_wp2
            go_ret2
            rw [settleL_none HK.out HNo.out]
            exact ⟨rfl, HB2.out⟩
          | true =>
            have h2 : okC m = false := by rw [h1] at hb1; simpa using hb1
            rw [h2]
            clear hb1 h2
            go_wp2
            go_ret2
            rw [settleL_none HK.out HNo.out]
            exact ⟨rfl, HB2.out⟩
        | true =>
          rw [Bool.and_eq_true] at hb1
          obtain ⟨h1, h2⟩ := hb1
          obtain ⟨n1, n2⟩ := okC_iff.1 h1
          obtain ⟨m1, m2⟩ := okC_iff.1 h2
          rw [h1, h2]
          obtain ⟨O, hO⟩ : ∃ O, O = offB d m rate := ⟨_, rfl⟩
          have HO := hidIt hO
          have hle := offB_le (m := m) (rate := rate) hd.1
          have hob := offB_bd (m := m) hd.1 k6
          have hor := offB_rate (m := m) hd.1 k6 k7
          rw [← hO] at hle hob hor
          have HOb := hidIt hob
          obtain ⟨r1, r2⟩ := hr
          obtain ⟨d1, d2⟩ := hd
          have HOk := hidIt (And.intro h1 h2)
          have hObd : -1000000000000 ≤ O ∧ O ≤ 1000000000000 := by omega
          clear hO hob hor h1 h2 H1 H2
          go_upto_if 49 with fail
          go_cut [15] (fun y wx => y = .int .i64 O ∧ wx = w2)
          case first =>
            by_cases hm0 : 0 < m
            · obtain ⟨Q, hQ⟩ : ∃ Q, Q = m * rate / 10000 := ⟨_, rfl⟩
              have hQb : 0 ≤ Q ∧ Q ≤ m := by
                have h3 : m * rate / 10000 ≤ m := Int.ediv_le_of_le_mul (by decide) (Int.mul_le_mul_of_nonneg_left k7 (by omega))
                have : 0 ≤ m * rate / 10000 := Int.ediv_nonneg (Int.mul_nonneg (by omega) k6) (by decide)
                omega
              have HPt : Hid (∀ W, Calls Tryd.prog 19 #[.int .i64 m, .int .i64 rate, .int .i64 2] W fun e w' => e = .returned (.tuple #[.int .i64 Q, .int .i64 0]) ∧ w' = W) := fun W => by
                have := refPart_ok m rate 2 W (by decide) (szB_iff.2 (by omega)) (szB_iff.2 (by omega)) (by rw [rnd_floor, ← hQ]; exact szB_iff.2 (by omega))
                rw [rnd_floor, ← hQ] at this
                exact this
              have HOe : Hid (O = min d Q) := by
                show _ = _
                rw [HO.out]
                unfold offB
                rw [if_pos hm0, hQ]
              clear hQ
              by_cases hgt : d < Q
              · have HE : Hid (O = d) := by show _ = _; rw [HOe.out]; omega
                go_wp2_with fail
                refine (HPt.out _).mono ?_
                rintro e w3 ⟨rfl, ew⟩
                subst w3
                go_wp2
                go_meet
                exact ⟨by rw [HE.out], rfl⟩
              · have HE : Hid (O = Q) := by show _ = _; rw [HOe.out]; omega
                go_wp2_with fail
                refine (HPt.out _).mono ?_
                rintro e w3 ⟨rfl, ew⟩
                subst w3
                go_wp2
                go_meet
                exact ⟨by rw [HE.out], rfl⟩
            · have HE : Hid (O = m) := by
                show _ = _
                rw [HO.out]
                unfold offB
                rw [if_neg hm0]
              go_wp2
              go_meet
              exact ⟨by rw [HE.out], rfl⟩
          case rest =>
            obtain ⟨h15, ewc⟩ := hcut
            subst h15
            subst wc
            obtain ⟨D, hD⟩ : ∃ D, D = d - O := ⟨_, rfl⟩
            have eD : d - O = D := hD.symm
            have H3 := hidIt (fun w => HSm.out D w)
            have H4 := hidIt (fun w => HSm.out (N + D) w)
            clear hD
            go_wp2_with fail
            refine (H3.out _).mono ?_
            rintro e w3 ⟨rfl, ew⟩
            subst w3
            go_wp2_with fail
            refine (H4.out _).mono ?_
            rintro e w3 ⟨rfl, ew⟩
            subst w3
            clear H3 H4
            cases hb2 : (okC D && okC (N + D)) with
            | false =>
              have HNo : Hid (setL rate 0 0 l = none) := by
                show _ = _
                rw [HAll.out, setL_cons_bad2 (by rw [← HN.out, em, ← HO.out, eD]; exact hb2)]
                rfl
              cases h1 : okC D with
              | false =>
                clear hb2
                go_wp2
                go_ret2
                rw [settleL_none HK.out HNo.out]
                exact ⟨rfl, HB2.out⟩
              | true =>
                have h2 : okC (N + D) = false := by rw [h1] at hb2; simpa using hb2
                rw [h2]
                clear hb2 h2
                go_wp2
                go_ret2
                rw [settleL_none HK.out HNo.out]
                exact ⟨rfl, HB2.out⟩
            | true =>
              have hAll2 := setL_cons_ok (rate := rate) (r := r) (d := d) (l := l.drop (i + 1)) (c := ⟨dy, due⟩) (by rw [← HN.out, em, HOk.out.1, HOk.out.2]; rfl) (by rw [← HN.out, em, ← HO.out, eD]; exact hb2)
              rw [← HN.out, em, ← HO.out, eD] at hAll2
              rw [Bool.and_eq_true] at hb2
              obtain ⟨h1, h2⟩ := hb2
              have hd2 := okC_iff.1 h1
              rw [h1, h2]
              have HA2 : Hid (setL rate 0 0 l = (setL rate N D (l.drop (i + 1))).map ((if m = 0 then pre else pre ++ [⟨dy, tAnew, linesOf m O⟩]) ++ ·)) := by
                show _ = _
                rw [HAll.out, hAll2]
                by_cases hz : m = 0
                · simp only [if_pos hz, Option.map_map]
                  congr 1
                · simp only [if_neg hz, Option.map_map]
                  congr 1
                  funext es
                  simp
              have hD0 : 0 ≤ D := by omega
              clear hAll2 h1 h2 HAll HO HOk
              by_cases hz : m = 0
              · have HA3 : Hid (setL rate 0 0 l = (setL rate N D (l.drop (i + 1))).map (pre ++ ·)) := by
                  have := HA2.out
                  rw [if_pos hz] at this
                  exact this
                have hzb : (m == 0) = true := by simpa using hz
                clear hz HA2
                go_wp2
                go_roundw
                case rel => exact .mk (i := i + 1) hlt ⟨n1, n2⟩ ⟨hD0, hd2.2⟩ (Nat.le_succ_of_le HFew.out) HRow2.out HA3.out HB2.out
                case measure => simp [RowKit.intOf]; omega
              · have HA3 : Hid (setL rate 0 0 l = (setL rate N D (l.drop (i + 1))).map ((pre ++ [⟨dy, tAnew, linesOf m O⟩]) ++ ·)) := by
                  have := HA2.out
                  rw [if_neg hz] at this
                  exact this
                have hzb : (m == 0) = false := by simpa using hz
                have HLs := hidIt (lines_eq (o := O) hz)
                have HEb := hidIt (fun T => EbS.start w2 dy m T)
                clear hz HA2
                go_upto_if 91 with fail
                obtain ⟨xb, hxb⟩ : ∃ xb, xb = w2.heap.size + 1 := ⟨_, rfl⟩
                rw [← hxb] at HEb ⊢
                have HE1 := hidIt (HEb.out 42)
                have HXb := hidIt hxb
                clear HEb hxb
                generalize ((w2.alloc (.cells #[.string ⟨#[114, 105, 103, 104, 116, 115]⟩, .int .i64 (-m)] 67)).alloc (.cells #[.int .i64 dy, .string ⟨#[97, 110, 101, 119]⟩, .slice (some ⟨w2.heap.size, 0, none⟩) 1 1] 42)) = wx at *
                obtain ⟨L1, hL1⟩ : ∃ L1, L1 = ([⟨tRights, -m⟩] ++ (if m - O = 0 then [] else [⟨tPaid, m - O⟩]) : List Ln) := ⟨_, rfl⟩
                rw [← hL1] at HLs
                have HL1 := hidIt hL1
                clear hL1
                go_cut [] (fun wy => ∃ (ea : Option Addr) (en ec : Nat), EbS w2 xb dy L1 ea en ec wy)
                case first =>
                  by_cases h1 : m - O = 0
                  · have h1b : (m - O != 0) = false := by simpa using h1
                    have HE2 : Hid (EbS w2 xb dy L1 (some ⟨w2.heap.size, 0, none⟩) 1 1 wx) := by
                      rw [HL1.out, if_pos h1, List.append_nil]
                      exact HE1.out
                    clear h1
                    go_wp2
                    go_meet
                    exact ⟨_, _, _, HE2.out⟩
                  · have h1b : (m - O != 0) = true := by simpa using h1
                    have HL2 : Hid (L1 = [⟨tRights, -m⟩] ++ [⟨tPaid, m - O⟩]) := by
                      show _ = _
                      rw [HL1.out, if_neg h1]
                    have e2 := HE1.out.c2
                    have f2 : wx.frozen? ⟨xb, 2, none⟩ = false := by simpa using (HE1.out.th 2 (by decide)).2
                    have hxl := HE1.out.lt
                    have hsz : w2.heap.size ≤ wx.heap.size := HE1.out.bel.size
                    clear h1
                    go_wp2_with (at_builtin; refine wpList_push_g Tryd.infoLnR (by decide) Tryd.underlying40 rfl (.tmp 93) (.tmp 98) rfl w2.heap.size (.slice (some ⟨w2.heap.size, 0, none⟩) 1 1) [⟨tRights, -m⟩] ⟨tPaid, m - O⟩ _ rfl rfl HE1.out.row (by first | (simp [Act.eval]; done) | simp [Act.eval, Act.put]) hsz (by simp) ?_; intro v' w5 hr5 hb5 hk5 hv5; obtain ⟨pa5, pn5, pc5, rfl, hp5⟩ := hr5.any3; have HN5 := hidIt (HE1.out.next hr5 hb5 hk5 hv5); have hkp := hk5 xb HE1.out.ne hxl; have z1 : w5.cell? ⟨xb, 2, none⟩ = some (.slice (some ⟨w2.heap.size, 0, none⟩) 1 1) := (World.cell?_of_block (a := ⟨xb, 2, none⟩) hkp).trans e2; have z2 : w5.frozen? ⟨xb, 2, none⟩ = false := (World.frozen?_of_block (a := ⟨xb, 2, none⟩) hkp).trans f2; clear hr5 hb5 hp5 hk5 hv5 hkp)
                    go_meet
                    rw [HL2.out]
                    exact ⟨_, _, _, HN5.out⟩
                case rest =>
                  obtain ⟨ea, en, ec, hE2⟩ := hcut
                  have HE2 := hidIt hE2
                  have HLL : Hid (L1.length ≤ 2) := by
                    show _ ≤ _
                    rw [HL1.out]
                    split <;> simp
                  clear hE2 HE1 HL1
                  go_upto_if 102 with fail
                  go_cut [] (fun wy => ∃ (ea : Option Addr) (en ec : Nat), EbS w2 xb dy (linesOf m O) ea en ec wy)
                  case first =>
                    by_cases h1 : O = 0
                    · have h1b : (O != 0) = false := by simpa using h1
                      have HE3 : Hid (EbS w2 xb dy (linesOf m O) ea en ec wc) := by
                        rw [HLs.out, if_pos h1, List.append_nil]
                        exact HE2.out
                      clear h1
                      go_wp2
                      go_meet
                      exact ⟨_, _, _, HE3.out⟩
                    · have h1b : (O != 0) = true := by simpa using h1
                      have HL2 : Hid (linesOf m O = L1 ++ [⟨tDebts, O⟩]) := by
                        show _ = _
                        rw [HLs.out, if_neg h1]
                      have e2 := HE2.out.c2
                      have f2 : wc.frozen? ⟨xb, 2, none⟩ = false := by simpa using (HE2.out.th 2 (by decide)).2
                      have hxl := HE2.out.lt
                      have hsz : w2.heap.size ≤ wc.heap.size := HE2.out.bel.size
                      clear h1
                      go_wp2_with (at_builtin; refine wpList_push_g Tryd.infoLnR (by decide) Tryd.underlying40 rfl (.tmp 104) (.tmp 107) rfl w2.heap.size (.slice ea en ec) L1 ⟨tDebts, O⟩ _ rfl rfl HE2.out.row (by first | (simp [Act.eval]; done) | simp [Act.eval, Act.put]) hsz (by have := HLL.out; omega) ?_; intro v' w5 hr5 hb5 hk5 hv5; obtain ⟨pa5, pn5, pc5, rfl, hp5⟩ := hr5.any3; have HN5 := hidIt (HE2.out.next hr5 hb5 hk5 hv5); have hkp := hk5 xb HE2.out.ne hxl; have z1 : w5.cell? ⟨xb, 2, none⟩ = some (.slice ea en ec) := (World.cell?_of_block (a := ⟨xb, 2, none⟩) hkp).trans e2; have z2 : w5.frozen? ⟨xb, 2, none⟩ = false := (World.frozen?_of_block (a := ⟨xb, 2, none⟩) hkp).trans f2; clear hr5 hb5 hp5 hk5 hv5 hkp)
                      go_meet
                      rw [HL2.out]
                      exact ⟨_, _, _, HN5.out⟩
                  case rest =>
                    clear HE2 HLs HLL
                    rename_i wq
                    obtain ⟨fa, fn, fc, hE3⟩ := hcut
                    have g0 := hE3.c0
                    have g1 := hE3.c1
                    have g2 := hE3.c2
                    have HE3 := hidIt hE3
                    have HSub : Hid (RdS enN.F wc (fun k => k < wc.heap.size ∧ (Value.slice ra rm rc).ownBlock ≠ some k ∧ True) (SlV.v ⟨fa, fn, fc⟩) (enN.sub ⟨dy, tAnew, linesOf m O⟩)) := hE3.row.rdS.mono fun k hk => ⟨hk.2.1, fun e => by
                      have := (HRow2.out.lt e).2
                      omega, trivial⟩
                    have HRow3 := hidIt (HRow2.out.below hE3.bel)
                    have HB3 := hidIt (HB2.out.trans (hE3.bel.mono HB2.out.size))
                    have hszw : w.heap.size ≤ wc.heap.size := HB3.out.size
                    have hpl : pre.length + 1 ≤ 1000000 := by have := HFew.out; have := HK2.out.1; have := HR.out.2; omega
                    clear hE3
                    go_wp2_with (at_builtin; refine wpList_push_n (N := enN) Tryd.infoEnR (by decide) Tryd.underlying32 rfl (.tmp 110) (.tmp 112) rfl w.heap.size (.slice ra rm rc) pre ⟨dy, tAnew, linesOf m O⟩ ⟨fa, fn, fc⟩ _ rfl rfl HRow3.out HSub.out (by first | (simp [Act.eval]; done) | simp [Act.eval, Act.put]) hszw hpl ?_; intro v' w5 hr5 hb5 hsz5 hk5 hv5; obtain ⟨pa5, pn5, pc5, rfl, hp5⟩ := hr5.any3; have HR5 := hidIt hr5; have HB5 := hidIt hb5; clear hr5 hb5 hp5 hsz5 hk5 hv5)
                    go_roundw
                    case rel => exact .mk (i := i + 1) hlt ⟨n1, n2⟩ ⟨hD0, hd2.2⟩ (by rw [List.length_append]; exact Nat.succ_le_succ HFew.out) HR5.out HA3.out (HB3.out.trans HB5.out)
                    case measure => simp [RowKit.intOf]; omega
      · have c0 : decide ((i : Int) < n) = false := by simp; omega
        have HAll : Hid (setL rate 0 0 l = some pre) := by
          show _ = _
          rw [all, List.drop_eq_nil_of_le (by have := HR.out.2; omega)]
          simp [setL]
        have HRow := hidIt row.rd
        have HBel := hidIt bel
        clear all row bel
        go_wp2
        go_ret2
        rw [settleL_some HK.out HAll.out]
        exact ⟨_, _, _, rfl, HRow.out, HBel.out⟩
end Go.Proofs.YtkphonojpnhefaaDoor
