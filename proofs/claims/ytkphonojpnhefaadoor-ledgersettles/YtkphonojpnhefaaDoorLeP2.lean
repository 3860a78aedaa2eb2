/-
  Settling, the program: what there is a right to; a right that becomes another (written by tools/genlep2.py).
-/
import Derived.Test.YtkphonojpnhefaaDoorLeDel
import Derived.BigRegion
namespace Go.Proofs.YtkphonojpnhefaaDoor
open Go.RowKit Go.Extern.Stop Go.Stop Go.Extern

theorem right_drop {dy : Int} {l : List Py} {i : Nat} {x : Py} (h : l.drop i = x :: l.drop (i + 1)) : rightL dy (l.drop i) = (if x.til ≤ dy then x.cents else 0) + rightL dy (l.drop (i + 1)) := by rw [h, rightL]
set_option maxHeartbeats 2000000 in
theorem right_p {B n c : Nat} {a : Option Addr} {l : List Py} {dy : Int} {w : World} (h : RdS pyE w (· < B) (.slice a n c) l) (hB : B ≤ w.heap.size) (hg : l.any great = false) (hl : n ≤ 400) :
    Calls Tryd.prog 16 #[.agg #[.int .i64 dy, .slice a n c]] w fun e w' => e = .returned (.int .i64 (rightL dy l)) ∧ Below w.heap.size w w' := by
  obtain ⟨hn, hbig⟩ := h.len
  have HR := hidIt (And.intro h hn)
  have HG : Hid (∀ x, x ∈ l → -1000000000000 ≤ x.cents ∧ x.cents ≤ 1000000000000) := fun x hx => by
    have h1 : great x = false := by simpa using (List.any_eq_false.1 hg) x hx
    exact okC_iff.1 (by unfold great at h1; simpa using h1)
  clear h hn hg
  go_enter Tryd.func16, Tryd.ntmps16
  go_wp2_with fail
  go_loopw [3, 9] (fun s t wr => ∃ (i : Nat) (y : Int), i ≤ n ∧ s = .int .i64 y ∧ t = .int .i64 i ∧ y + rightL dy (l.drop i) = rightL dy l ∧ -(1000000000000 * (i : Int)) ≤ y ∧ y ≤ 1000000000000 * (i : Int) ∧ Below w.heap.size w wr ∧ w.heap.size < wr.heap.size ∧ wr.cell? ⟨w.heap.size, 0, none⟩ = some (.int .i64 dy)) (fun _ t _ => n - (RowKit.intOf t).toNat)
  case atStart => exact ⟨0, 0, by omega, rfl, rfl, by rw [List.drop_zero]; omega, by omega, by omega, bel1 _ _, by simp, by simp⟩
  case round =>
    obtain ⟨i, y, hi, rfl, rfl, hA, hy1, hy2, hb, hsz, hbx⟩ := hrel
    have HA := hidIt hA
    have HB := hidIt hb
    have hne : ¬ w.heap.size = wr.heap.size := by omega
    have hiz4 : (i : Int) ≤ 400 := by omega
    clear hA hb
    by_cases hlt : i < n
    · have c0 : decide ((i : Int) < n) = true := by simp; omega
      obtain ⟨e, he, hdr⟩ := get_in (l := l) (i := i) (by have := HR.out.2; omega)
      obtain ⟨g, o, rfl, hg, hrg⟩ := HR.out.1.at he
      obtain ⟨q0, q1, q2⟩ := py_cells (range_bel hrg (HB.out.mono hB) hg)
      have hk : pyE.k = 3 := rfl
      rw [hk] at q0 q1 q2
      have HD := hidIt (right_drop (dy := dy) hdr)
      obtain ⟨g1, g2⟩ := HG.out e (List.mem_of_getElem? he)
      obtain ⟨ef, et, ec⟩ := e
      simp only at q0 q1 q2 g1 g2 HD
      have hiz : (i : Int) < n := by omega
      have HB1 : Hid (∀ ob, Below w.heap.size w (wr.alloc ob) ∧ w.heap.size < (wr.alloc ob).heap.size ∧ (wr.alloc ob).cell? ⟨w.heap.size, 0, none⟩ = some (.int .i64 dy)) := fun ob =>
        ⟨HB.out.trans ((bel1 wr ob).mono HB.out.size), by simp; omega, ((bel1 wr ob).cell (p := ⟨w.heap.size, 0, none⟩) hsz).trans hbx⟩
      clear hrg he hdr hk hg
      by_cases ht : et ≤ dy
      · have HQ : Hid (y + ec + rightL dy (l.drop (i + 1)) = rightL dy l) := by
          have h1 := HA.out
          rw [HD.out, if_pos ht] at h1
          show _ = _
          omega
        go_wp2
        go_roundw
        case rel => exact ⟨i + 1, y + ec, by omega, by go_num, by go_num, HQ.out, by omega, by omega, HB1.out _⟩
        case measure => simp [RowKit.intOf]; omega
      · have HQ : Hid (y + rightL dy (l.drop (i + 1)) = rightL dy l) := by
          have h1 := HA.out
          rw [HD.out, if_neg ht] at h1
          show _ = _
          omega
        go_wp2
        go_roundw
        case rel => exact ⟨i + 1, y, by omega, rfl, by go_num, HQ.out, by omega, by omega, HB1.out _⟩
        case measure => simp [RowKit.intOf]; omega
    · have c0 : decide ((i : Int) < n) = false := by simp; omega
      have HD : Hid (l.drop i = []) := List.drop_eq_nil_of_le (by have := HR.out.2; omega)
      go_wp2
      go_ret
      refine ⟨?_, HB.out⟩
      have := HA.out
      rw [HD.out, rightL] at this
      rw [← this]
      simp
/-- How somebody stands. -/
structure St3 (w : World) (sb : Nat) (r q d : Int) : Prop where
  rd : w.rangeAt sb 0 [.int .i64 r, .int .i64 q, .int .i64 d]
  th : w.there sb 0 3
theorem St3.lt {w : World} {sb : Nat} {r q d : Int} (h : St3 w sb r q d) : sb < w.heap.size := cell_lt (h.rd 0 _ rfl)
theorem St3.on {w w' : World} {sb : Nat} {r q d : Int} (h : St3 w sb r q d) (hb : w'.heap[sb]? = w.heap[sb]?) : St3 w' sb r q d := ⟨range_on h.rd hb, there_on h.th hb⟩
theorem St3.below {w w' : World} {sb : Nat} {r q d : Int} (h : St3 w sb r q d) (hb : Below w.heap.size w w') : St3 w' sb r q d := h.on (hb.block _ h.lt)
theorem St3.put {w : World} {sb : Nat} {r q d : Int} (h : St3 w sb r q d) (a b c : Int) : St3 (((w.setCell ⟨sb, 0, none⟩ (.int .i64 a)).setCell ⟨sb, 1, none⟩ (.int .i64 b)).setCell ⟨sb, 2, none⟩ (.int .i64 c)) sb a b c := by
  have e : (((w.setCell ⟨sb, 0, none⟩ (.int .i64 a)).setCell ⟨sb, 1, none⟩ (.int .i64 b)).setCell ⟨sb, 2, none⟩ (.int .i64 c)) = w.setCells sb 0 [.int .i64 a, .int .i64 b, .int .i64 c] := rfl
  rw [e]
  exact ⟨World.rangeAt_setCells_same _ _ _ _ h.th, World.there_setCells h.th _ _ _⟩
theorem Frm.put3 {w w' : World} {sb : Nat} (h : Frm sb w w') (a b c : Value) : Frm sb w (((w'.setCell ⟨sb, 0, none⟩ a).setCell ⟨sb, 1, none⟩ b).setCell ⟨sb, 2, none⟩ c) := ((h.setCell rfl a).setCell rfl b).setCell rfl c
theorem rnd_floor (n : Int) : rnd n 2 = n / 10000 := by
  unfold rnd
  split
  · rfl
  · simp
/-- A right that is too great, or something that comes of it. -/
def BecErr (w : World) (sb : Nat) (p : Nat → Addr) (e : Ending) (w' : World) : Prop := e = .returned (.tuple #[.slice none 0 0, .iface 123 (.pointer (some (p 2)))]) ∧ Frm sb w w'
/-- The lines of the entry. -/
def BecOk (w : World) (sb : Nat) (m o n q d : Int) (e : Ending) (w' : World) : Prop :=
  ∃ a k c, e = .returned (.tuple #[.slice a k c, .nilIface]) ∧ k = (linesOf m o).length ∧ RdS lnE w' (fun x => w.heap.size ≤ x ∧ x < w'.heap.size) (.slice a k c) (linesOf m o) ∧ St3 w' sb n q d ∧ Frm sb w w'
/-- The end of become: three lines, of which those of nothing go. -/
theorem three_lines (w : World) (m o : Int) (T : Nat) : RdS lnE (w.alloc (.cells #[.string ⟨#[114, 105, 103, 104, 116, 115]⟩, .int .i64 (-m), .string ⟨#[112, 97, 105, 100]⟩, .int .i64 (m - o), .string ⟨#[100, 101, 98, 116, 115]⟩, .int .i64 o] T)) (· = w.heap.size) (.slice (some ⟨w.heap.size, 0, none⟩) 3 3) [⟨tRights, -m⟩, ⟨tPaid, m - o⟩, ⟨tDebts, o⟩] := by
  refine ⟨_, 3, rfl, by simp, fun j x hj => ⟨w.heap.size, 0, rfl, rfl, ?_⟩⟩
  have hr := alloc_range w [.string ⟨#[114, 105, 103, 104, 116, 115]⟩, .int .i64 (-m), .string ⟨#[112, 97, 105, 100]⟩, .int .i64 (m - o), .string ⟨#[100, 101, 98, 116, 115]⟩, .int .i64 o] T
  have h2 : lnE.k = 2 := rfl
  rw [h2]
  match j, hj with
  | 0, hj =>
    obtain rfl := Option.some.inj hj
    intro k u hu
    match k, hu with
    | 0, hu => exact hr 0 u hu
    | 1, hu => exact hr 1 u hu
  | 1, hj =>
    obtain rfl := Option.some.inj hj
    intro k u hu
    match k, hu with
    | 0, hu => exact hr 2 u hu
    | 1, hu => exact hr 3 u hu
  | 2, hj =>
    obtain rfl := Option.some.inj hj
    intro k u hu
    match k, hu with
    | 0, hu => exact hr 4 u hu
    | 1, hu => exact hr 5 u hu
theorem alloc_there (w : World) (cs : List Value) (T : Nat) : (w.alloc (.cells cs.toArray T)).there w.heap.size 0 cs.length := fun j hj => by
  refine ⟨?_, ?_⟩
  · have := alloc_range w cs T j cs[j] (List.getElem?_eq_getElem hj)
    rw [this]
    rfl
  · exact frozen_of_row _ w.heap.size _ _ _ (Go.Deep.blk_alloc_new w _)
theorem del3 (w : World) (m o : Int) (T : Nat) : Calls Tryd.prog 30 #[.slice (some ⟨w.heap.size, 0, none⟩) 3 3, .func (.func 31) #[] #[]] (w.alloc (.cells #[.string ⟨#[114, 105, 103, 104, 116, 115]⟩, .int .i64 (-m), .string ⟨#[112, 97, 105, 100]⟩, .int .i64 (m - o), .string ⟨#[100, 101, 98, 116, 115]⟩, .int .i64 o] T)) fun e w' =>
    ∃ k, e = .returned (.slice (some ⟨w.heap.size, 0, none⟩) k 3) ∧ k = (linesOf m o).length ∧ RdS lnE w' (fun x => w.heap.size ≤ x ∧ x < w'.heap.size) (.slice (some ⟨w.heap.size, 0, none⟩) k 3) (linesOf m o) ∧ Below w.heap.size w w' := by
  refine (delete_p (three_lines w m o T) (alloc_there w [.string ⟨#[114, 105, 103, 104, 116, 115]⟩, .int .i64 (-m), .string ⟨#[112, 97, 105, 100]⟩, .int .i64 (m - o), .string ⟨#[100, 101, 98, 116, 115]⟩, .int .i64 o] T) (by simp) (by decide)).mono ?_
  rintro e w' ⟨k, rfl, hk, hr, hf⟩
  have hs := hf.size
  simp at hs
  exact ⟨k, rfl, hk, hr.mono fun x hx => by subst hx; exact ⟨Nat.le_refl _, by omega⟩, (bel1 w _).trans (hf.below (Nat.le_refl _) (bel1 w _).size)⟩
set_option maxHeartbeats 2000000 in
theorem become_err {sb : Nat} {r d n rate : Int} {p : Nat → Addr} {w : World} (h : St3 w sb r (r + d) d) (hs : Sent w p) (hr : -1000000000000 ≤ r ∧ r ≤ 1000000000000) (hn : -400000000000000 ≤ n ∧ n ≤ 400000000000000) (hk : (okC n && okC (n - r)) = false) :
    Calls Tryd.prog 15 #[.pointer (some ⟨sb, 0, none⟩), .int .i64 n, .int .i64 rate] w (BecErr w sb p) := by
  have c0 : w.cell? ⟨sb, 0, none⟩ = some (.int .i64 r) := h.rd 0 _ rfl
  have g1 := hs.coin
  obtain ⟨r1, r2⟩ := hr
  obtain ⟨n1, n2⟩ := hn
  have H1 := hidIt (fun w => amount_any n w)
  have H2 := hidIt (fun w => amount_any (n - r) w)
  clear h hs
  generalize okC n = x at *
  generalize okC (n - r) = y at *
  cases x
  · clear hk
    go_enter Tryd.func15, Tryd.ntmps15
    go_wp2_with fail
    refine (H1.out _).mono ?_
    rintro e w' ⟨rfl, ew⟩
    subst w'
    go_wp2_with fail
    go_quiet (fail)
    go_wp2
    go_ret2
    exact ⟨rfl, (Frm.refl _ _).drewN _⟩
  · obtain rfl : y = false := by simpa using hk
    clear hk
    go_enter Tryd.func15, Tryd.ntmps15
    go_wp2_with fail
    refine (H1.out _).mono ?_
    rintro e w' ⟨rfl, ew⟩
    subst w'
    go_wp2_with fail
    refine (H2.out _).mono ?_
    rintro e w' ⟨rfl, ew⟩
    subst w'
    go_wp2_with fail
    go_quiet (fail)
    go_wp2
    go_ret2
    exact ⟨rfl, (Frm.refl _ _).drewN _⟩
set_option maxHeartbeats 4000000 in
set_option maxRecDepth 10000 in
theorem become_low {sb : Nat} {r d n rate m : Int} {p : Nat → Addr} {w : World} (h : St3 w sb r (r + d) d) (hs : Sent w p) (hr : -1000000000000 ≤ r ∧ r ≤ 1000000000000) (hd : 0 ≤ d ∧ d ≤ 1000000000000) (hrt : 0 ≤ rate ∧ rate ≤ 10000) (hk1 : okC n = true) (hk2 : okC m = true) (hm : n - r = m) (hm0 : m ≤ 0) :
    Calls Tryd.prog 15 #[.pointer (some ⟨sb, 0, none⟩), .int .i64 n, .int .i64 rate] w fun e w' => if (okC (d - m) && okC (n + (d - m))) = true then BecOk w sb m m n (n + (d - m)) (d - m) e w' else BecErr w sb p e w' := by
  have c0 : w.cell? ⟨sb, 0, none⟩ = some (.int .i64 r) := h.rd 0 _ rfl
  have c1 : w.cell? ⟨sb, 1, none⟩ = some (.int .i64 (r + d)) := h.rd 1 _ rfl
  have c2 : w.cell? ⟨sb, 2, none⟩ = some (.int .i64 d) := h.rd 2 _ rfl
  have f0 : w.frozen? ⟨sb, 0, none⟩ = false := by simpa using (h.th 0 (by decide)).2
  have f1 : w.frozen? ⟨sb, 1, none⟩ = false := by simpa using (h.th 1 (by decide)).2
  have f2 : w.frozen? ⟨sb, 2, none⟩ = false := by simpa using (h.th 2 (by decide)).2
  obtain ⟨r1, r2⟩ := hr
  obtain ⟨d1, d2⟩ := hd
  obtain ⟨t1, t2⟩ := hrt
  obtain ⟨n1, n2⟩ := okC_iff.1 hk1
  obtain ⟨m1, m2⟩ := okC_iff.1 hk2
  have H1 := hidIt (fun w => amount_any n w)
  have H2 := hidIt (fun w => amount_any m w)
  rw [hk1] at H1
  rw [hk2] at H2
  have hm1 : ¬ (0 : Int) < m := by omega
  have H3 := hidIt (fun w => amount_any (n + (d - m)) w)
  have H4 := hidIt (fun w => amount_any (d - m) w)
  have HS := hidIt hs
  have HSt := hidIt h
  have HDel := hidIt (fun w T => del3 w m m T)
  rw [Int.sub_self] at HDel
  obtain ⟨P, hP⟩ : ∃ P, P = r + d := ⟨_, rfl⟩
  rw [← hP] at c1
  obtain ⟨q, hq⟩ : ∃ q, q = n + (d - m) := ⟨_, rfl⟩
  rw [← hq] at H3 ⊢
  obtain ⟨D, hD⟩ : ∃ D, D = d - m := ⟨_, rfl⟩
  rw [← hD] at H4 ⊢
  have e1 : P + m - m = q := by omega
  have e2 : d - m = D := hD.symm
  have q1 : -3000000000000 ≤ q ∧ q ≤ 3000000000000 := by omega
  have q2 : -3000000000000 ≤ P ∧ P ≤ 3000000000000 := by omega
  have HSb := hidIt h.lt
  clear hs h hk1 hk2 hq hD hP
  generalize okC q = x at *
  generalize okC D = y at *
  go_enter Tryd.func15, Tryd.ntmps15
  go_wp2_with fail
  refine (H1.out _).mono ?_
  rintro e w' ⟨rfl, ew⟩
  subst w'
  go_wp2_with fail
  refine (H2.out _).mono ?_
  rintro e w' ⟨rfl, ew⟩
  subst w'
  clear H1 H2
  go_wp2_with fail

  go_region
  have hst : St3 (((w.setCell ⟨sb, 0, none⟩ (.int .i64 n)).setCell ⟨sb, 1, none⟩ (.int .i64 q)).setCell ⟨sb, 2, none⟩ (.int .i64 D)).drew sb n q D := (St3.put (HSt.out.on (w' := w) rfl) n q D).on rfl
  have hfr : Frm sb w (((w.setCell ⟨sb, 0, none⟩ (.int .i64 n)).setCell ⟨sb, 1, none⟩ (.int .i64 q)).setCell ⟨sb, 2, none⟩ (.int .i64 D)).drew := ((Frm.refl sb w).put3 (.int .i64 n) (.int .i64 q) (.int .i64 D)).drewN 1
  generalize (((w.setCell ⟨sb, 0, none⟩ (.int .i64 n)).setCell ⟨sb, 1, none⟩ (.int .i64 q)).setCell ⟨sb, 2, none⟩ (.int .i64 D)).drew = W2 at *
  have k1 : W2.cell? ⟨sb, 1, none⟩ = some (.int .i64 q) := hst.rd 1 _ rfl
  have k2 : W2.cell? ⟨sb, 2, none⟩ = some (.int .i64 D) := hst.rd 2 _ rfl
  have HT := hidIt hst
  have HF := hidIt hfr
  have hsz : w.heap.size ≤ W2.heap.size := hfr.size
  have HG : Hid (W2.cell? ⟨2, 0, none⟩ = some (.iface 123 (.pointer (some (p 2))))) := by
    refine (World.cell?_of_block (a := ⟨2, 0, none⟩) (hfr.block _ (cell_lt HS.out.coin) ?_)).trans HS.out.coin
    intro e
    have h1 := HS.out.coin
    have h2 := HSt.out.rd 0 _ rfl
    rw [show 2 = sb from e] at h1
    rw [h1] at h2
    cases h2
  clear hst hfr HS HSt c0 c1 c2 f0 f1 f2
  cases x
  · cases y
    · have g1 := HG.out
      go_wp2_with fail
      refine (H3.out _).mono ?_
      rintro e w' ⟨rfl, ew⟩
      subst w'
      go_wp2_with fail
      go_quiet (fail)
      go_wp2
      go_ret2
      exact ⟨rfl, HF.out.drewN _⟩
    · have g1 := HG.out
      go_wp2_with fail
      refine (H3.out _).mono ?_
      rintro e w' ⟨rfl, ew⟩
      subst w'
      go_wp2_with fail
      go_quiet (fail)
      go_wp2
      go_ret2
      exact ⟨rfl, HF.out.drewN _⟩
  · cases y
    · have g1 := HG.out
      go_wp2_with fail
      refine (H3.out _).mono ?_
      rintro e w' ⟨rfl, ew⟩
      subst w'
      go_wp2_with fail
      refine (H4.out _).mono ?_
      rintro e w' ⟨rfl, ew⟩
      subst w'
      go_wp2_with fail
      go_quiet (fail)
      go_wp2
      go_ret2
      exact ⟨rfl, HF.out.drewN _⟩
    · go_wp2_with fail
      refine (H3.out _).mono ?_
      rintro e w' ⟨rfl, ew⟩
      subst w'
      go_wp2_with fail
      refine (H4.out _).mono ?_
      rintro e w' ⟨rfl, ew⟩
      subst w'
      go_wp2_with fail
      refine (HDel.out _ _).mono ?_
      rintro e w3 ⟨k, rfl, hk, hrd, hb⟩
      have HR := hidIt (And.intro hk (And.intro hrd hb))
      clear hk hrd hb
      go_wp2
      go_ret2
      obtain ⟨hk, hrd, hb⟩ := HR.out
      exact ⟨_, _, _, rfl, hk, hrd.mono (fun x hx => ⟨Nat.le_trans HF.out.size hx.1, hx.2⟩), HT.out.below hb, HF.out.trans (.of hb)⟩
set_option maxHeartbeats 4000000 in
set_option maxRecDepth 10000 in
theorem become_all {sb : Nat} {r d n rate m Q : Int} {p : Nat → Addr} {w : World} (h : St3 w sb r (r + d) d) (hs : Sent w p) (hr : -1000000000000 ≤ r ∧ r ≤ 1000000000000) (hd : 0 ≤ d ∧ d ≤ 1000000000000) (hrt : 0 ≤ rate ∧ rate ≤ 10000) (hk1 : okC n = true) (hk2 : okC m = true) (hm : n - r = m) (hm0 : 0 < m) (hQ : Q = m * rate / 10000) (hle : d ≤ Q) :
    Calls Tryd.prog 15 #[.pointer (some ⟨sb, 0, none⟩), .int .i64 n, .int .i64 rate] w fun e w' => if (okC 0 && okC n) = true then BecOk w sb m d n n 0 e w' else BecErr w sb p e w' := by
  have c0 : w.cell? ⟨sb, 0, none⟩ = some (.int .i64 r) := h.rd 0 _ rfl
  have c1 : w.cell? ⟨sb, 1, none⟩ = some (.int .i64 (r + d)) := h.rd 1 _ rfl
  have c2 : w.cell? ⟨sb, 2, none⟩ = some (.int .i64 d) := h.rd 2 _ rfl
  have f0 : w.frozen? ⟨sb, 0, none⟩ = false := by simpa using (h.th 0 (by decide)).2
  have f1 : w.frozen? ⟨sb, 1, none⟩ = false := by simpa using (h.th 1 (by decide)).2
  have f2 : w.frozen? ⟨sb, 2, none⟩ = false := by simpa using (h.th 2 (by decide)).2
  obtain ⟨r1, r2⟩ := hr
  obtain ⟨d1, d2⟩ := hd
  obtain ⟨t1, t2⟩ := hrt
  obtain ⟨n1, n2⟩ := okC_iff.1 hk1
  obtain ⟨m1, m2⟩ := okC_iff.1 hk2
  have H1 := hidIt (fun w => amount_any n w)
  have H2 := hidIt (fun w => amount_any m w)
  rw [hk1] at H1
  rw [hk2] at H2
  have hq0 : Q ≤ m := by
    have h3 : m * rate / 10000 ≤ m := Int.ediv_le_of_le_mul (by decide) (Int.mul_le_mul_of_nonneg_left t2 (by omega))
    omega
  have hq9 : 0 ≤ Q := by
    have : 0 ≤ m * rate / 10000 := Int.ediv_nonneg (Int.mul_nonneg (by omega) t1) (by decide)
    omega
  have HPt : Hid (∀ W, Calls Tryd.prog 29 #[.int .i64 m, .int .i64 rate, .int .i64 2] W fun e w' => e = .returned (.tuple #[.int .i64 Q, .nilIface]) ∧ ∃ k, w' = W.drewN k) := fun W => by
    have := part_ok m rate 2 W (by decide) hk2 (szB_iff.2 (by omega)) (by rw [rnd_floor, ← hQ]; exact szB_iff.2 (by omega))
    rw [rnd_floor, ← hQ] at this
    exact this
  clear hQ
  have hmn : min d Q = d := Int.min_eq_left hle

  have H3 := hidIt (fun w => amount_any n w)
  have H4 := hidIt (fun w => amount_any 0 w)
  have HS := hidIt hs
  have HSt := hidIt h
  have HDel := hidIt (fun w T => del3 w m d T)
  obtain ⟨P, hP⟩ : ∃ P, P = r + d := ⟨_, rfl⟩
  rw [← hP] at c1
  have h30 : okC 0 = true := by decide
  rw [h30] at H4 ⊢
  have e1 : P + m - d = n := by omega
  have q2 : -3000000000000 ≤ P ∧ P ≤ 3000000000000 := by omega
  have HSb := hidIt h.lt
  clear hs h hk1 hk2 hP h30
  generalize okC n = x at *
  go_enter Tryd.func15, Tryd.ntmps15
  go_wp2_with fail
  refine (H1.out _).mono ?_
  rintro e w' ⟨rfl, ew⟩
  subst w'
  go_wp2_with fail
  refine (H2.out _).mono ?_
  rintro e w' ⟨rfl, ew⟩
  subst w'
  clear H1 H2
  go_wp2_with fail
  refine (HPt.out _).mono ?_
  rintro e w' ⟨rfl, nk, rfl⟩
  go_wp2_with fail

  go_region
  have hst : St3 ((((w.drewN (nk + 1)).setCell ⟨sb, 0, none⟩ (.int .i64 n)).setCell ⟨sb, 1, none⟩ (.int .i64 n)).setCell ⟨sb, 2, none⟩ (.int .i64 0)) sb n n 0 := (St3.put (HSt.out.on (w' := (w.drewN (nk + 1))) rfl) n n 0)
  have hfr : Frm sb w ((((w.drewN (nk + 1)).setCell ⟨sb, 0, none⟩ (.int .i64 n)).setCell ⟨sb, 1, none⟩ (.int .i64 n)).setCell ⟨sb, 2, none⟩ (.int .i64 0)) := (((Frm.refl sb w).drewN (nk + 1)).put3 (.int .i64 n) (.int .i64 n) (.int .i64 0))
  generalize ((((w.drewN (nk + 1)).setCell ⟨sb, 0, none⟩ (.int .i64 n)).setCell ⟨sb, 1, none⟩ (.int .i64 n)).setCell ⟨sb, 2, none⟩ (.int .i64 0)) = W2 at *
  have k1 : W2.cell? ⟨sb, 1, none⟩ = some (.int .i64 n) := hst.rd 1 _ rfl
  have k2 : W2.cell? ⟨sb, 2, none⟩ = some (.int .i64 0) := hst.rd 2 _ rfl
  have HT := hidIt hst
  have HF := hidIt hfr
  have hsz : w.heap.size ≤ W2.heap.size := hfr.size
  have HG : Hid (W2.cell? ⟨2, 0, none⟩ = some (.iface 123 (.pointer (some (p 2))))) := by
    refine (World.cell?_of_block (a := ⟨2, 0, none⟩) (hfr.block _ (cell_lt HS.out.coin) ?_)).trans HS.out.coin
    intro e
    have h1 := HS.out.coin
    have h2 := HSt.out.rd 0 _ rfl
    rw [show 2 = sb from e] at h1
    rw [h1] at h2
    cases h2
  clear hst hfr HS HSt c0 c1 c2 f0 f1 f2
  cases x
  · have g1 := HG.out
    go_wp2_with fail
    refine (H3.out _).mono ?_
    rintro e w' ⟨rfl, ew⟩
    subst w'
    go_wp2_with fail
    go_quiet (fail)
    go_wp2
    go_ret2
    exact ⟨rfl, HF.out.drewN _⟩
  · go_wp2_with fail
    refine (H3.out _).mono ?_
    rintro e w' ⟨rfl, ew⟩
    subst w'
    go_wp2_with fail
    refine (H4.out _).mono ?_
    rintro e w' ⟨rfl, ew⟩
    subst w'
    go_wp2_with fail
    refine (HDel.out _ _).mono ?_
    rintro e w3 ⟨k, rfl, hk, hrd, hb⟩
    have HR := hidIt (And.intro hk (And.intro hrd hb))
    clear hk hrd hb
    go_wp2
    go_ret2
    obtain ⟨hk, hrd, hb⟩ := HR.out
    exact ⟨_, _, _, rfl, hk, hrd.mono (fun x hx => ⟨Nat.le_trans HF.out.size hx.1, hx.2⟩), HT.out.below hb, HF.out.trans (.of hb)⟩
set_option maxHeartbeats 4000000 in
set_option maxRecDepth 10000 in
theorem become_part {sb : Nat} {r d n rate m Q : Int} {p : Nat → Addr} {w : World} (h : St3 w sb r (r + d) d) (hs : Sent w p) (hr : -1000000000000 ≤ r ∧ r ≤ 1000000000000) (hd : 0 ≤ d ∧ d ≤ 1000000000000) (hrt : 0 ≤ rate ∧ rate ≤ 10000) (hk1 : okC n = true) (hk2 : okC m = true) (hm : n - r = m) (hm0 : 0 < m) (hQ : Q = m * rate / 10000) (hle : Q < d) :
    Calls Tryd.prog 15 #[.pointer (some ⟨sb, 0, none⟩), .int .i64 n, .int .i64 rate] w fun e w' => if (okC (d - Q) && okC (n + (d - Q))) = true then BecOk w sb m Q n (n + (d - Q)) (d - Q) e w' else BecErr w sb p e w' := by
  have c0 : w.cell? ⟨sb, 0, none⟩ = some (.int .i64 r) := h.rd 0 _ rfl
  have c1 : w.cell? ⟨sb, 1, none⟩ = some (.int .i64 (r + d)) := h.rd 1 _ rfl
  have c2 : w.cell? ⟨sb, 2, none⟩ = some (.int .i64 d) := h.rd 2 _ rfl
  have f0 : w.frozen? ⟨sb, 0, none⟩ = false := by simpa using (h.th 0 (by decide)).2
  have f1 : w.frozen? ⟨sb, 1, none⟩ = false := by simpa using (h.th 1 (by decide)).2
  have f2 : w.frozen? ⟨sb, 2, none⟩ = false := by simpa using (h.th 2 (by decide)).2
  obtain ⟨r1, r2⟩ := hr
  obtain ⟨d1, d2⟩ := hd
  obtain ⟨t1, t2⟩ := hrt
  obtain ⟨n1, n2⟩ := okC_iff.1 hk1
  obtain ⟨m1, m2⟩ := okC_iff.1 hk2
  have H1 := hidIt (fun w => amount_any n w)
  have H2 := hidIt (fun w => amount_any m w)
  rw [hk1] at H1
  rw [hk2] at H2
  have hq0 : Q ≤ m := by
    have h3 : m * rate / 10000 ≤ m := Int.ediv_le_of_le_mul (by decide) (Int.mul_le_mul_of_nonneg_left t2 (by omega))
    omega
  have hq9 : 0 ≤ Q := by
    have : 0 ≤ m * rate / 10000 := Int.ediv_nonneg (Int.mul_nonneg (by omega) t1) (by decide)
    omega
  have HPt : Hid (∀ W, Calls Tryd.prog 29 #[.int .i64 m, .int .i64 rate, .int .i64 2] W fun e w' => e = .returned (.tuple #[.int .i64 Q, .nilIface]) ∧ ∃ k, w' = W.drewN k) := fun W => by
    have := part_ok m rate 2 W (by decide) hk2 (szB_iff.2 (by omega)) (by rw [rnd_floor, ← hQ]; exact szB_iff.2 (by omega))
    rw [rnd_floor, ← hQ] at this
    exact this
  clear hQ
  have hmn : min d Q = Q := Int.min_eq_right (by omega)

  have H3 := hidIt (fun w => amount_any (n + (d - Q)) w)
  have H4 := hidIt (fun w => amount_any (d - Q) w)
  have HS := hidIt hs
  have HSt := hidIt h
  have HDel := hidIt (fun w T => del3 w m Q T)
  obtain ⟨P, hP⟩ : ∃ P, P = r + d := ⟨_, rfl⟩
  rw [← hP] at c1
  obtain ⟨q, hq⟩ : ∃ q, q = n + (d - Q) := ⟨_, rfl⟩
  rw [← hq] at H3 ⊢
  obtain ⟨D, hD⟩ : ∃ D, D = d - Q := ⟨_, rfl⟩
  rw [← hD] at H4 ⊢
  have e1 : P + m - Q = q := by omega
  have e2 : d - Q = D := hD.symm
  have q1 : -3000000000000 ≤ q ∧ q ≤ 3000000000000 := by omega
  have q2 : -3000000000000 ≤ P ∧ P ≤ 3000000000000 := by omega
  have HSb := hidIt h.lt
  clear hs h hk1 hk2 hq hD hP
  generalize okC q = x at *
  generalize okC D = y at *
  go_enter Tryd.func15, Tryd.ntmps15
  go_wp2_with fail
  refine (H1.out _).mono ?_
  rintro e w' ⟨rfl, ew⟩
  subst w'
  go_wp2_with fail
  refine (H2.out _).mono ?_
  rintro e w' ⟨rfl, ew⟩
  subst w'
  clear H1 H2
  go_wp2_with fail
  refine (HPt.out _).mono ?_
  rintro e w' ⟨rfl, nk, rfl⟩
  go_wp2_with fail

  go_region
  have hst : St3 ((((w.drewN (nk + 1)).setCell ⟨sb, 0, none⟩ (.int .i64 n)).setCell ⟨sb, 1, none⟩ (.int .i64 q)).setCell ⟨sb, 2, none⟩ (.int .i64 D)) sb n q D := (St3.put (HSt.out.on (w' := (w.drewN (nk + 1))) rfl) n q D)
  have hfr : Frm sb w ((((w.drewN (nk + 1)).setCell ⟨sb, 0, none⟩ (.int .i64 n)).setCell ⟨sb, 1, none⟩ (.int .i64 q)).setCell ⟨sb, 2, none⟩ (.int .i64 D)) := (((Frm.refl sb w).drewN (nk + 1)).put3 (.int .i64 n) (.int .i64 q) (.int .i64 D))
  generalize ((((w.drewN (nk + 1)).setCell ⟨sb, 0, none⟩ (.int .i64 n)).setCell ⟨sb, 1, none⟩ (.int .i64 q)).setCell ⟨sb, 2, none⟩ (.int .i64 D)) = W2 at *
  have k1 : W2.cell? ⟨sb, 1, none⟩ = some (.int .i64 q) := hst.rd 1 _ rfl
  have k2 : W2.cell? ⟨sb, 2, none⟩ = some (.int .i64 D) := hst.rd 2 _ rfl
  have HT := hidIt hst
  have HF := hidIt hfr
  have hsz : w.heap.size ≤ W2.heap.size := hfr.size
  have HG : Hid (W2.cell? ⟨2, 0, none⟩ = some (.iface 123 (.pointer (some (p 2))))) := by
    refine (World.cell?_of_block (a := ⟨2, 0, none⟩) (hfr.block _ (cell_lt HS.out.coin) ?_)).trans HS.out.coin
    intro e
    have h1 := HS.out.coin
    have h2 := HSt.out.rd 0 _ rfl
    rw [show 2 = sb from e] at h1
    rw [h1] at h2
    cases h2
  clear hst hfr HS HSt c0 c1 c2 f0 f1 f2
  cases x
  · cases y
    · have g1 := HG.out
      go_wp2_with fail
      refine (H3.out _).mono ?_
      rintro e w' ⟨rfl, ew⟩
      subst w'
      go_wp2_with fail
      go_quiet (fail)
      go_wp2
      go_ret2
      exact ⟨rfl, HF.out.drewN _⟩
    · have g1 := HG.out
      go_wp2_with fail
      refine (H3.out _).mono ?_
      rintro e w' ⟨rfl, ew⟩
      subst w'
      go_wp2_with fail
      go_quiet (fail)
      go_wp2
      go_ret2
      exact ⟨rfl, HF.out.drewN _⟩
  · cases y
    · have g1 := HG.out
      go_wp2_with fail
      refine (H3.out _).mono ?_
      rintro e w' ⟨rfl, ew⟩
      subst w'
      go_wp2_with fail
      refine (H4.out _).mono ?_
      rintro e w' ⟨rfl, ew⟩
      subst w'
      go_wp2_with fail
      go_quiet (fail)
      go_wp2
      go_ret2
      exact ⟨rfl, HF.out.drewN _⟩
    · go_wp2_with fail
      refine (H3.out _).mono ?_
      rintro e w' ⟨rfl, ew⟩
      subst w'
      go_wp2_with fail
      refine (H4.out _).mono ?_
      rintro e w' ⟨rfl, ew⟩
      subst w'
      go_wp2_with fail
      refine (HDel.out _ _).mono ?_
      rintro e w3 ⟨k, rfl, hk, hrd, hb⟩
      have HR := hidIt (And.intro hk (And.intro hrd hb))
      clear hk hrd hb
      go_wp2
      go_ret2
      obtain ⟨hk, hrd, hb⟩ := HR.out
      exact ⟨_, _, _, rfl, hk, hrd.mono (fun x hx => ⟨Nat.le_trans HF.out.size hx.1, hx.2⟩), HT.out.below hb, HF.out.trans (.of hb)⟩
end Go.Proofs.YtkphonojpnhefaaDoor
