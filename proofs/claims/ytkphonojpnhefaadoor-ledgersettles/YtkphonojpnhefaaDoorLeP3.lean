/-
  Settling, the program: Settle.
-/
import Derived.Test.YtkphonojpnhefaaDoorLeP2
namespace Go.Proofs.YtkphonojpnhefaaDoor
open Go.RowKit Go.Extern.Stop Go.Stop Go.Extern

/-- What comes of a right that becomes another. -/
def BecR (w : World) (sb : Nat) (p : Nat → Addr) (r d n rate : Int) (e : Ending) (w' : World) : Prop :=
  if (okC (d - offB d (n - r) rate) && okC (n + (d - offB d (n - r) rate))) = true then BecOk w sb (n - r) (offB d (n - r) rate) n (n + (d - offB d (n - r) rate)) (d - offB d (n - r) rate) e w' else BecErr w sb p e w'
theorem become_p {sb : Nat} {r d n rate : Int} {p : Nat → Addr} {w : World} (h : St3 w sb r (r + d) d) (hs : Sent w p) (hr : -1000000000000 ≤ r ∧ r ≤ 1000000000000) (hd : 0 ≤ d ∧ d ≤ 1000000000000) (hrt : 0 ≤ rate ∧ rate ≤ 10000) (hk1 : okC n = true) (hk2 : okC (n - r) = true) :
    Calls Tryd.prog 15 #[.pointer (some ⟨sb, 0, none⟩), .int .i64 n, .int .i64 rate] w (BecR w sb p r d n rate) := by
  unfold BecR offB
  by_cases hm : 0 < n - r
  · rw [if_pos hm]
    by_cases hle : d ≤ (n - r) * rate / 10000
    · rw [Int.min_eq_left hle]
      have := become_all h hs hr hd hrt hk1 hk2 rfl hm rfl hle
      rw [show d - d = 0 by omega, show n + 0 = n by omega]
      exact this
    · rw [Int.min_eq_right (by omega)]
      exact become_part h hs hr hd hrt hk1 hk2 rfl hm rfl (by omega)
  · rw [if_neg hm]
    exact become_low h hs hr hd hrt hk1 hk2 rfl (by omega)
theorem Tryd.infoEn : ∃ i z, Tryd.prog.info? 39 = some i ∧ i.zero = some z ∧ i.size = enN.E.k ∧ i.bytes = 48 ∧ z.cells.size = enN.E.k := by
  have h : (Tryd.prog.info? 39).map (fun i => (i.zero, i.size, i.bytes)) = some (some (.agg #[.int .i64 0, .string ⟨#[]⟩, .slice none 0 0]), 3, 48) := by kernel_rfl
  obtain ⟨i, h1, h2⟩ := Option.map_eq_some_iff.1 h
  simp only [Prod.mk.injEq] at h2
  exact ⟨i, _, h1, h2.1, h2.2.1, h2.2.2, rfl⟩
theorem lines_none {m o : Int} (hm : m = 0) (ho : o = 0) : linesOf m o = [] := by
  subst hm ho
  decide
theorem lines_some {m o : Int} (hm : m ≠ 0) : 0 < (linesOf m o).length := by
  unfold linesOf
  rw [List.filter_cons]
  have : nz ⟨tRights, -m⟩ = true := by
    unfold nz
    simp
    omega
  rw [if_pos this]
  simp
/-- What is under way. -/
inductive SetS (w : World) (sb : Nat) (rate : Int) (l : List Cl) (n : Nat) : Value → Value → World → Prop
  | mk {i : Nat} {r d : Int} {pre : List En} {a : Option Addr} {m c : Nat} {wr : World} (hi : i ≤ n) (hr : -1000000000000 ≤ r ∧ r ≤ 1000000000000) (hd : 0 ≤ d ∧ d ≤ 1000000000000) (st : St3 wr sb r (r + d) d) (few : pre.length ≤ i)
      (row : NRow enN 39 (· ≠ sb) wr w.heap.size (.slice a m c) pre) (ne : (Value.slice a m c).ownBlock ≠ some sb) (all : setL rate 0 0 l = (setL rate r d (l.drop i)).map (pre ++ ·)) (bel : Below w.heap.size w wr) : SetS w sb rate l n (.slice a m c) (.int .i64 i) wr
/-- What is answered. -/
def SetR (w : World) (p : Nat → Addr) : Nat ⊕ List En → Ending → World → Prop
  | .inl k => fun e w' => e = .returned (.tuple #[.slice none 0 0, .iface 123 (.pointer (some (p k)))]) ∧ Below w.heap.size w w'
  | .inr es => fun e w' => ∃ a m c, e = .returned (.tuple #[.slice a m c, .nilIface]) ∧ NRd enN w' (· < w'.heap.size) (.slice a m c) es ∧ Below w.heap.size w w'
theorem settleL_bad {l : List Cl} {rate : Int} {k : Nat} (h : claimsK l rate = some k) : settleL l rate = .inl k := by unfold settleL; rw [h]
theorem settleL_none {l : List Cl} {rate : Int} (h : claimsK l rate = none) (h2 : setL rate 0 0 l = none) : settleL l rate = .inl 2 := by unfold settleL; rw [h, h2]
theorem settleL_some {l : List Cl} {rate : Int} {es : List En} (h : claimsK l rate = none) (h2 : setL rate 0 0 l = some es) : settleL l rate = .inr es := by unfold settleL; rw [h, h2]
theorem setL_cons_bad1 {rate r d : Int} {c : Cl} {l : List Cl} (h : (okC c.right && okC (c.right - r)) = false) : setL rate r d (c :: l) = none := by rw [setL, if_neg (by rw [h]; decide)]
theorem setL_cons_bad2 {rate r d : Int} {c : Cl} {l : List Cl} (h : (okC (d - offB d (c.right - r) rate) && okC (c.right + (d - offB d (c.right - r) rate))) = false) : setL rate r d (c :: l) = none := by
  rw [setL]
  split
  · rw [if_neg (by rw [h]; decide)]
  · rfl
theorem setL_cons_ok {rate r d : Int} {c : Cl} {l : List Cl} (h1 : (okC c.right && okC (c.right - r)) = true) (h2 : (okC (d - offB d (c.right - r) rate) && okC (c.right + (d - offB d (c.right - r) rate))) = true) :
    setL rate r d (c :: l) = (setL rate c.right (d - offB d (c.right - r) rate) l).map fun es => if c.right - r = 0 then es else ⟨c.day, tAnew, linesOf (c.right - r) (offB d (c.right - r) rate)⟩ :: es := by rw [setL, if_pos h1, if_pos h2]
set_option maxHeartbeats 4000000 in
set_option maxRecDepth 10000 in
theorem settle_p {B n c : Nat} {a : Option Addr} {l : List Cl} {rate : Int} {p : Nat → Addr} {w : World} (h : NRd clN w (· < B) (.slice a n c) l) (hB : B ≤ w.heap.size) (hs : Sent w p) :
    Calls Tryd.prog 7 #[.slice a n c, .int .i64 rate] w (SetR w p (settleL l rate)) := by
  obtain ⟨hn, hbig⟩ := h.len
  have HC := hidIt (check_p (rate := rate) h hB hs)
  have HS := hidIt hs
  have HR := hidIt (And.intro h hn)
  clear h hn hs
  cases hk : claimsK l rate with
  | some k =>
    rw [settleL_bad hk]
    rw [hk] at HC
    clear hk
    go_enter Tryd.func7, Tryd.ntmps7
    go_wp2_with fail
    refine HC.out.mono ?_
    rintro e w1 ⟨rfl, hb1⟩
    have HB1 := hidIt hb1
    clear hb1
    unfold errV
    go_wp2
    go_ret2
    exact ⟨rfl, HB1.out⟩
  | none =>
    rw [hk] at HC
    obtain ⟨k1, k2, _, _, k5, k6, k7⟩ := claimsK_none hk
    have HK := hidIt hk
    have HK2 := hidIt (And.intro k1 (And.intro k2 k5))
    clear hk k1 k2 k5
    go_enter Tryd.func7, Tryd.ntmps7
    go_wp2_with fail
    refine HC.out.mono ?_
    rintro e w1 ⟨rfl, hb1⟩
    have HB1 := hidIt hb1
    clear hb1 HC
    unfold errV
    obtain ⟨sb, hsb⟩ : ∃ sb, sb = w1.heap.size := ⟨_, rfl⟩
    have hsbw : w.heap.size ≤ sb := by rw [hsb]; exact HB1.out.size
    have HStart : Hid (∀ T, SetS w sb rate l n (.slice none 0 0) (.int .i64 0) (w1.alloc (.cells #[.int .i64 0, .int .i64 0, .int .i64 0] T))) := fun T => by
      refine SetS.mk (i := 0) (r := 0) (d := 0) (pre := []) (by omega) (by omega) (by omega) ?_ (by simp) (NRow.nil _ _) (by intro e; cases e) ?_ (HB1.out.trans ((bel1 w1 _).mono HB1.out.size))
      · subst hsb
        exact ⟨alloc_range w1 [.int .i64 0, .int .i64 0, .int .i64 0] T, alloc_there w1 [.int .i64 0, .int .i64 0, .int .i64 0] T⟩
      · rw [List.drop_zero]
        cases setL rate 0 0 l <;> simp
    go_wp2_with fail
    rw [← hsb]
    clear hsb
    go_loopw [7, 21] (fun x y wr => SetS w sb rate l n x y wr) (fun _ y _ => n - (RowKit.intOf y).toNat)
    case atStart => exact HStart.out _
    case round =>
      clear HStart
      rcases hrel with @⟨i, r, d, pre, ra, rm, rc, wr, hi, hr, hd, st, few, row, ne, all, bel⟩
      by_cases hlt : i < n
      · have c0 : decide ((i : Int) < n) = true := by simp; omega
        have hiz : (i : Int) < n := by omega
        obtain ⟨x, he, hdr⟩ := get_in (l := l) (i := i) (by have := HR.out.2; omega)
        obtain ⟨g, o, sa, sn, sc, rfl, hg, q0, q1, hdu⟩ := cl_at (HR.out.1.below (bel.mono hB)) he
        have hx := List.mem_of_getElem? he
        have hgr : x.due.any great = false := by simpa using (List.any_eq_false.1 HK2.out.2.2) x hx
        have hmn : x.due.length ≤ 400 := by
          have h1 : many x = false := by simpa using (List.any_eq_false.1 HK2.out.2.1) x hx
          unfold many at h1
          simp at h1
          omega
        have hsn := hdu.len.1
        have hbd := rightL_bd x.day x.due hgr
        have hbd2 : -400000000000000 ≤ x.right ∧ x.right ≤ 400000000000000 := by unfold Cl.right; omega
        have HRt : Hid (∀ ob, Calls Tryd.prog 16 #[.agg #[.int .i64 x.day, .slice sa sn sc]] (wr.alloc ob) fun e w' => e = .returned (.int .i64 x.right) ∧ Below (wr.alloc ob).heap.size (wr.alloc ob) w') := fun ob => by
          have hb2 := bel.size
          exact right_p (hdu.below ((bel1 wr ob).mono (by omega))) (by simp; omega) hgr (by omega)
        rw [hdr] at all
        obtain ⟨dy, due⟩ := x
        have HAll := hidIt all
        have HSt := hidIt st
        have HRow := hidIt row
        have HNe := hidIt ne
        have HBel := hidIt bel
        have HFew := hidIt few
        have hsblt := st.lt
        have hne : ¬ sb = wr.heap.size := by omega
        have hbsz := bel.size
        simp only at q0 HRt
        obtain ⟨N, hN⟩ : ∃ N, N = (Cl.mk dy due).right := ⟨_, rfl⟩
        rw [← hN] at HRt hbd2
        clear all st row ne bel hx hdu hsn hmn hgr hbd he hdr few
        have HN := hidIt hN
        clear hN
        go_wp2_with fail
        refine (HRt.out _).mono ?_
        rintro e w2 ⟨rfl, hb2⟩
        clear HRt
        have hcd : w2.cell? ⟨wr.heap.size, 0, none⟩ = some (.int .i64 dy) := (hb2.cell (p := ⟨wr.heap.size, 0, none⟩) (by simp)).trans (by simp)
        have hb12 := (bel1 wr _).trans (hb2.mono (bel1 wr _).size)
        have HSt2 := hidIt (HSt.out.below hb12)
        have HRow2 := hidIt (HRow.out.below hb12)
        have HB2 := hidIt (HBel.out.trans (hb12.mono HBel.out.size))
        have hlt2 : wr.heap.size < w2.heap.size := by have := hb2.size; simp at this; omega
        clear hb2 hb12 HSt HRow q0 q1
        obtain ⟨cb, hcb⟩ : ∃ cb, cb = wr.heap.size := ⟨_, rfl⟩
        rw [← hcb] at hcd hlt2 hne ⊢
        have HCb := hidIt hcb
        clear hcb
        cases hb1 : (okC N && okC (N - r)) with
        | false =>
          have HNo : Hid (setL rate 0 0 l = none) := by
            show _ = _
            rw [HAll.out, setL_cons_bad1 (by rw [← HN.out]; exact hb1)]
            rfl
          have HBe := hidIt (become_err (rate := rate) HSt2.out (HS.out.below HB2.out) hr hbd2 hb1)
          clear hb1
          go_wp2_with fail
          refine HBe.out.mono ?_
          rintro e w3 ⟨rfl, hf3⟩
          have HF3 := hidIt hf3
          clear hf3 HBe
          go_wp2
          go_ret2
          rw [settleL_none HK.out HNo.out]
          exact ⟨rfl, HF3.out.new HB2.out hsbw⟩
        | true =>
          have hb1' := hb1
          rw [Bool.and_eq_true] at hb1'
          have HBe := hidIt (become_p HSt2.out (HS.out.below HB2.out) hr hd ⟨k6, k7⟩ hb1'.1 hb1'.2)
          unfold BecR at HBe
          cases hb2 : (okC (d - offB d (N - r) rate) && okC (N + (d - offB d (N - r) rate))) with
          | false =>
            rw [hb2] at HBe
            have HNo : Hid (setL rate 0 0 l = none) := by
              show _ = _
              rw [HAll.out, setL_cons_bad2 (by rw [← HN.out]; exact hb2)]
              rfl
            clear hb1 hb1' hb2
            go_wp2_with fail
            refine HBe.out.mono ?_
            rintro e w3 ⟨rfl, hf3⟩
            have HF3 := hidIt hf3
            clear hf3 HBe
            go_wp2
            go_ret2
            rw [settleL_none HK.out HNo.out]
            exact ⟨rfl, HF3.out.new HB2.out hsbw⟩
          | true =>
            rw [hb2] at HBe
            have hAll2 := setL_cons_ok (l := l.drop (i + 1)) (c := ⟨dy, due⟩) (by rw [← HN.out]; exact hb1) (by rw [← HN.out]; exact hb2)
            rw [← HN.out] at hAll2
            have hle := offB_le (m := N - r) (rate := rate) hd.1
            have hob := offB_bd (m := N - r) hd.1 k6
            rw [Bool.and_eq_true] at hb2
            have hd2 := okC_iff.1 hb2.1
            have hN2 := okC_iff.1 hb1'.1
            generalize offB d (N - r) rate = O at *
            have HA2 : Hid (setL rate 0 0 l = (setL rate N (d - O) (l.drop (i + 1))).map ((if N - r = 0 then pre else pre ++ [⟨dy, tAnew, linesOf (N - r) O⟩]) ++ ·)) := by
              show _ = _
              rw [HAll.out, hAll2]
              by_cases hz : N - r = 0
              · simp only [if_pos hz, Option.map_map]
                congr 1
              · simp only [if_neg hz, Option.map_map]
                congr 1
                funext es
                simp
            obtain ⟨D, hD⟩ : ∃ D, D = d - O := ⟨_, rfl⟩
            rw [← hD] at HBe HA2 hd2 hle
            have HOb := hidIt hob
            clear hb1 hb1' hb2 hAll2 hob hD HAll
            go_wp2_with fail
            refine HBe.out.mono ?_
            rintro e w3 ⟨la, lk, lc, rfl, hlk, hln, hst3, hf3⟩
            clear HBe
            have HLn := hidIt hln
            have HSt3 := hidIt hst3
            have HLk := hidIt hlk
            have HRow3 := hidIt (HRow2.out.frm hf3 HNe.out)
            have HB3 := hidIt (hf3.new HB2.out hsbw)
            have hcd3 : w3.cell? ⟨cb, 0, none⟩ = some (.int .i64 dy) := (World.cell?_of_block (a := ⟨cb, 0, none⟩) (hf3.block cb hlt2 (fun e => hne e.symm))).trans hcd
            have hsz3 : w2.heap.size ≤ w3.heap.size := hf3.size
            have hszw : w.heap.size ≤ w3.heap.size := HB3.out.size
            have hrlen : ∀ k, (Value.slice ra rm rc).ownBlock = some k → k < w2.heap.size := fun k hk => (HRow2.out.lt hk).2
            clear hln hst3 hlk hf3 hcd HSt2
            by_cases hz : N - r = 0
            · have hk0 : lk = 0 := by
                rw [HLk.out, lines_none hz (by have := HOb.out; omega)]
                rfl
              subst hk0
              have HA3 : Hid (setL rate 0 0 l = (setL rate N D (l.drop (i + 1))).map (pre ++ ·)) := by
                have := HA2.out
                rw [if_pos hz] at this
                exact this
              clear hz HA2
              go_wp2
              go_roundw
              case rel =>
                exact .mk (i := i + 1) hlt hN2 ⟨hle, hd2.2⟩ HSt3.out (Nat.le_succ_of_le HFew.out) HRow3.out HNe.out HA3.out HB3.out
              case measure => simp [RowKit.intOf]; omega
            · have hk0 : 0 < lk := by rw [HLk.out]; exact lines_some hz
              have hk0z : (0 : Int) < (lk : Int) := by omega
              have HA3 : Hid (setL rate 0 0 l = (setL rate N D (l.drop (i + 1))).map ((pre ++ [⟨dy, tAnew, linesOf (N - r) O⟩]) ++ ·)) := by
                have := HA2.out
                rw [if_neg hz] at this
                exact this
              have HSub : Hid (RdS enN.F w3 (fun k => k < w3.heap.size ∧ (Value.slice ra rm rc).ownBlock ≠ some k ∧ k ≠ sb) (SlV.v ⟨la, lk, lc⟩) (enN.sub ⟨dy, tAnew, linesOf (N - r) O⟩)) := HLn.out.mono fun k hk => ⟨hk.2, fun e => by
                have := hrlen k e
                omega, by have := HCb.out; omega⟩
              have hpl : pre.length + 1 ≤ 1000000 := by have := HFew.out; have := HK2.out.1; have := HR.out.2; omega
              clear hz HA2 hrlen HLn
              generalize hMO : linesOf (N - r) O = LL at *
              clear hMO
              go_wp2_with (at_builtin; refine wpList_push_n (N := enN) Tryd.infoEn (by decide) Tryd.underlying25 rfl (.tmp 38) (.tmp 43) rfl w.heap.size (.slice ra rm rc) pre ⟨dy, tAnew, LL⟩ ⟨la, lk, lc⟩ _ rfl rfl HRow3.out HSub.out (by first | (simp [Act.eval]; done) | simp [Act.eval, Act.put]) hszw hpl ?_; intro v' w5 hr5 hb5 hsz5 hk5 hv5; obtain ⟨pa5, pn5, pc5, rfl, hp5⟩ := hr5.any3; have HR5 := hidIt hr5; have HB5 := hidIt hb5; have HK5 := hidIt (And.intro hsz5 (And.intro hk5 hv5)); clear hr5 hb5 hp5 hsz5 hk5 hv5)
              go_roundw
              case rel =>
                refine .mk (i := i + 1) hlt hN2 ⟨hle, hd2.2⟩ (HSt3.out.on (HK5.out.2.1 sb HNe.out HSt3.out.lt)) (by rw [List.length_append]; exact Nat.succ_le_succ HFew.out) HR5.out (fun e => ?_) HA3.out (HB3.out.trans HB5.out)
                rcases HK5.out.2.2 sb e with e1 | e1
                · exact HNe.out e1
                · have := HSt3.out.lt
                  omega
              case measure => simp [RowKit.intOf]; omega
      · have c0 : decide ((i : Int) < n) = false := by simp; omega
        have HAll : Hid (setL rate 0 0 l = some pre) := by
          show _ = _
          rw [all, List.drop_eq_nil_of_le (by have := HR.out.2; omega)]
          simp [setL]
        have HRow := hidIt row.rd
        have HBel := hidIt bel
        clear all st row ne bel
        go_wp2
        go_ret2
        rw [settleL_some HK.out HAll.out]
        exact ⟨_, _, _, rfl, HRow.out, HBel.out⟩
end Go.Proofs.YtkphonojpnhefaaDoor
