/-
  Ledgers, the program: lastDay, check.
-/
import Derived.Test.YtdeccdmplmclmaaGreatDoorLkB
namespace Go.Proofs.YtdeccdmplmclmaaGreatDoor
open Go.RowKit Go.Extern.Stop Go.Stop Go.Extern

theorem SentL.below {w w' : World} {p : Nat → Addr} (h : SentL w p) (hb : Below w.heap.size w w') : SentL w' p :=
  ⟨(hb.cell (p := ⟨2, 0, none⟩) (cell_lt h.text)).trans h.text, (hb.cell (p := ⟨0, 0, none⟩) (cell_lt h.bound)).trans h.bound, (hb.cell (p := ⟨4, 0, none⟩) (cell_lt h.coin)).trans h.coin, (hb.cell (p := ⟨1, 0, none⟩) (cell_lt h.day)).trans h.day, (hb.cell (p := ⟨3, 0, none⟩) (cell_lt h.name)).trans h.name, (hb.cell (p := ⟨5, 0, none⟩) (cell_lt h.order)).trans h.order⟩
theorem lastDay_some {L : List En} {e : En} {m : Nat} (hm : L.length = m + 1) (h : L[m]? = some e) : lastDay L = e.day := by
  unfold lastDay
  rw [List.getLast?_eq_getElem?, hm]
  simp only [Nat.add_sub_cancel]
  rw [h]
set_option maxHeartbeats 2000000 in
theorem lastDay_p {gb B : Nat} {v mv : Value} {L : List En} {w : World} (hG : LG w gb B v mv L) : Calls Tryz.prog 31 #[.pointer (some ⟨gb, 0, none⟩)] w fun e w' => e = .returned (.int .i64 (lastDay L)) ∧ ∃ q, w' = w.drewN q := by
  obtain ⟨a, n, c, rfl, hn⟩ := hG.row.any3
  have hbig := hG.rd.len.2
  have c0 := hG.c0
  have HN := hidLL hn
  by_cases h0 : n = 0
  · subst h0
    have HE : Hid (lastDay L = 0) := by
      have : L = [] := List.eq_nil_of_length_eq_zero hn.symm
      rw [this]
      rfl
    rw [HE.out]
    clear hn hG
    go_enter Tryz.func31, Tryz.ntmps31
    go_wp2
    go_ret
    exact ⟨rfl, 0, rfl⟩
  · obtain ⟨m, hm⟩ : ∃ m, m = n - 1 := ⟨_, rfl⟩
    obtain ⟨x, hx⟩ : ∃ x, L[m]? = some x := ⟨_, List.getElem?_eq_getElem (by omega)⟩
    obtain ⟨g, o, sa, sn, sc, rfl, _, q0, _, _, _⟩ := en_at hG.rd hx
    have HE : Hid (lastDay L = x.day) := lastDay_some (by omega) hx
    rw [HE.out]
    have hnz : ((n : Int) == 0) = false := by simpa using h0
    have hmz : (n : Int) - 1 = (m : Int) := by omega
    have hmw : IntKind.i64.wrap (m : Int) = (m : Int) := by rw [IntKind.wrap_i64]; omega
    have hmw2 : IntKind.i64.wrap ((n : Int) - 1) = (m : Int) := by rw [IntKind.wrap_i64]; omega
    have hmn : (m : Int) < (n : Int) := by omega
    clear hn hG hx hm h0 HE
    go_enter Tryz.func31, Tryz.ntmps31
    go_wp2_with fail
    go_quiet (fail)
    go_wp2
    go_ret
    exact ⟨rfl, _, rfl⟩
/-- What check tells. -/
noncomputable def checkK (L : List En) (dy : Int) (tx : ByteArray) (ls : List Ln) : Option Nat :=
  if (decide (400 ≤ L.length) || decide (20 < ls.length)) = true then some 1
  else if (!isDayB dy || decide (dy < lastDay L)) = true then some 3
  else if lineB tx = false then some 0
  else if ls.any badW = true then some 6 else none
def errL (p : Nat → Addr) : Option Nat → Value
  | none => .nilIface
  | some k => .iface 162 (.pointer (some (p k)))
set_option maxHeartbeats 4000000 in
set_option maxRecDepth 10000 in
theorem check_p {gb B n c : Nat} {a : Option Addr} {v mv : Value} {L : List En} {ls : List Ln} {dy : Int} {tx : ByteArray} {p : Nat → Addr} {w : World} (hG : LG w gb B v mv L) (h : RdS lnE w (· < w.heap.size) (.slice a n c) ls) (hs : SentL w p) (htx : tx.size ≤ 9223372036854775807) :
    Calls Tryz.prog 15 #[.pointer (some ⟨gb, 0, none⟩), .agg #[.int .i64 dy, .string tx, .slice a n c]] w fun e w' => e = .returned (errL p (checkK L dy tx ls)) ∧ Below w.heap.size w w' := by
  obtain ⟨hn, hbig⟩ := h.len
  obtain ⟨va, vn, vc, rfl, hvn⟩ := hG.row.any3
  have hvbig := hG.rd.len.2
  obtain ⟨W, hW⟩ : ∃ W, W = w.alloc (.cells #[.int .i64 dy, .string tx, .slice a n c] 36) := ⟨_, rfl⟩
  have hbW : Below w.heap.size w W := by rw [hW]; exact bel1 _ _
  have hlW : w.heap.size < W.heap.size := by rw [hW]; simp
  have z0 : W.cell? ⟨w.heap.size, 0, none⟩ = some (.int .i64 dy) := by rw [hW]; simp
  have z1 : W.cell? ⟨w.heap.size, 1, none⟩ = some (.string tx) := by rw [hW]; simp
  have z2 : W.cell? ⟨w.heap.size, 2, none⟩ = some (.slice a n c) := by rw [hW]; simp
  have hGW := hG.below hbW
  have g0 := hGW.c0
  have HBx : Hid (∀ W', Below W.heap.size W W' → W'.cell? ⟨w.heap.size, 1, none⟩ = some (.string tx) ∧ W'.cell? ⟨w.heap.size, 2, none⟩ = some (.slice a n c)) := fun W' hb => ⟨(hb.cell (p := ⟨w.heap.size, 1, none⟩) hlW).trans z1, (hb.cell (p := ⟨w.heap.size, 2, none⟩) hlW).trans z2⟩
  have HD1 := hidLL (fun w => isDay_any dy w)
  have HD2 : Hid (∀ W', Below W.heap.size W W' → Calls Tryz.prog 31 #[.pointer (some ⟨gb, 0, none⟩)] W' fun e w' => e = .returned (.int .i64 (lastDay L)) ∧ ∃ q, w' = W'.drewN q) := fun W' hb => lastDay_p (hGW.below hb)
  have HLn := hidLL (fun w => isLine_any tx htx w)
  have HWd : Hid (∀ W', Below W.heap.size W W' → Calls Tryz.prog 33 #[.slice a n c, .func (.func 28) #[] #[]] W' fun e w' => e = .returned (.bool (ls.any badW)) ∧ Below W'.heap.size W' w') := fun W' hb =>
    contains_w ((h.below hbW).below (hb.mono (by omega))) (by have := hb.size; omega)
  have HS : Hid (SentL W p) := hs.below hbW
  have HW := hidLL (And.intro hbW hlW)
  have HK : Hid (checkK L dy tx ls = if (decide (400 ≤ vn) || decide (20 < n)) = true then some 1 else if (!isDayB dy || decide (dy < lastDay L)) = true then some 3 else if lineB tx = false then some 0 else if ls.any badW = true then some 6 else none) := by rw [hn, hvn]; rfl
  obtain ⟨R, hR⟩ : ∃ R, R = checkK L dy tx ls := ⟨_, rfl⟩
  rw [← hR]
  have HRr : Hid (R = if (decide (400 ≤ vn) || decide (20 < n)) = true then some 1 else if (!isDayB dy || decide (dy < lastDay L)) = true then some 3 else if lineB tx = false then some 0 else if ls.any badW = true then some 6 else none) := by rw [hR]; exact HK.out
  clear hR
  have HBW : Hid (∀ W', Below W.heap.size W W' → Below w.heap.size w W') := fun W' hb => hbW.trans (hb.mono (by omega))
  clear hG h hs hn hvn hbW hGW HK
  by_cases h4 : 400 ≤ vn
  · have h4z : (400 : Int) ≤ (vn : Int) := by omega
    have g1 := HS.out.bound
    have HE : Hid (R = some 1) := by
      show _ = _
      rw [HRr.out, show decide (400 ≤ vn) = true by simpa using h4, Bool.true_or, if_pos rfl]
    clear h4 HRr
    go_enter Tryz.func15, Tryz.ntmps15
    go_upto_region 2 with fail
    rw [← hW]
    clear hW
    go_wp2
    go_ret
    exact ⟨by rw [HE.out]; rfl, HBW.out _ (Below.refl _ _)⟩
  · have h4z : ¬ (400 : Int) ≤ (vn : Int) := by omega
    by_cases h20 : 20 < n
    · have h20z : (20 : Int) < (n : Int) := by omega
      have g1 := HS.out.bound
      have HE : Hid (R = some 1) := by
        show _ = _
        rw [HRr.out, show decide (20 < n) = true by simpa using h20, Bool.or_true, if_pos rfl]
      clear h20 HRr h4
      go_enter Tryz.func15, Tryz.ntmps15
      go_upto_region 2 with fail
      rw [← hW]
      clear hW
      go_wp2
      go_ret
      exact ⟨by rw [HE.out]; rfl, HBW.out _ (Below.refl _ _)⟩
    · have h20z : ¬ (20 : Int) < (n : Int) := by omega
      obtain ⟨X, hX⟩ : ∃ X, X = (!isDayB dy || decide (dy < lastDay L)) := ⟨_, rfl⟩
      have HR2 : Hid (R = if X = true then some 3 else if lineB tx = false then some 0 else if ls.any badW = true then some 6 else none) := by
        show _ = _
        rw [HRr.out, show decide (400 ≤ vn) = false by simpa using h4, show decide (20 < n) = false by simpa using h20, hX, if_neg (by decide)]
      have HX := hidLL hX
      clear hX HRr h4 h20
      go_enter Tryz.func15, Tryz.ntmps15
      go_upto_region 2 with fail
      rw [← hW]
      clear hW
      go_upto_region 4 with fail
      go_cut [20] (fun y wx => y = .bool X ∧ ∃ q, wx = W.drewN q)
      case first =>
        cases hi : isDayB dy
        · rw [hi] at HD1 HX
          have HE : Hid (X = true) := HX.out
          clear hi HX
          go_quiet ((first | (go_at_call 30; exact Calls.quiet_of_same (HD1.out _))))
          go_wp2
          go_meet
          exact ⟨by rw [HE.out], _, rfl⟩
        · rw [hi] at HD1 HX
          have HE : Hid (X = decide (dy < lastDay L)) := by have := HX.out; show _ = _; simpa using this
          clear hi HX
          go_quiet ((first | (go_at_call 30; exact Calls.quiet_of_same (HD1.out _)) | (go_at_call 31; exact Calls.quiet_of (HD2.out _ (bdrewN (Below.refl _ _) _)))))
          go_wp2
          go_meet
          exact ⟨by rw [HE.out], _, rfl⟩
      case rest =>
        obtain ⟨h20, nq, ewc⟩ := hcut
        subst h20
        obtain ⟨hw1, hw2⟩ := HBx.out wc (by rw [ewc]; exact bdrewN (Below.refl _ _) _)
        have HBc : Hid (Below W.heap.size W wc) := by rw [ewc]; exact bdrewN (Below.refl _ _) _
        clear HX ewc
        cases X
        case true =>
          have HE : Hid (R = some 3) := by show _ = _; rw [HR2.out, if_pos rfl]
          have g3 := (HS.out.below HBc.out).day
          clear HR2
          go_wp2
          go_ret
          exact ⟨by rw [HE.out]; rfl, HBW.out _ HBc.out⟩
        case false =>
          cases hl : lineB tx
          · rw [hl] at HLn
            have HE : Hid (R = some 0) := by show _ = _; rw [HR2.out, hl, if_neg (by decide), if_pos rfl]
            clear hl HR2
            go_wp2_with fail
            refine (HLn.out _).mono ?_
            rintro e w2 ⟨rfl, hb2⟩
            have HB2 := hidLL (HBc.out.trans (hb2.mono HBc.out.size))
            clear hb2
            have g3 := (HS.out.below HB2.out).text
            go_wp2
            go_ret
            exact ⟨by rw [HE.out]; rfl, HBW.out _ HB2.out⟩
          · rw [hl] at HLn
            have HR3 : Hid (R = if ls.any badW = true then some 6 else none) := by show _ = _; rw [HR2.out, hl, if_neg (by decide), if_neg (by decide)]
            clear hl HR2
            go_wp2_with fail
            refine (HLn.out _).mono ?_
            rintro e w2 ⟨rfl, hb2⟩
            have HB2 := hidLL (HBc.out.trans (hb2.mono HBc.out.size))
            clear hb2
            obtain ⟨_, hw3⟩ := HBx.out w2 HB2.out
            generalize ls.any badW = y at *
            go_wp2_with fail
            refine (HWd.out _ HB2.out).mono ?_
            rintro e w3 ⟨rfl, hb3⟩
            have HB3 := hidLL (HB2.out.trans (hb3.mono HB2.out.size))
            clear hb3
            have g3 := (HS.out.below HB3.out).name
            cases y
            · have HE : Hid (R = none) := by show _ = _; rw [HR3.out, if_neg (by decide)]
              clear HR3
              go_wp2
              go_ret
              exact ⟨by rw [HE.out]; rfl, HBW.out _ HB3.out⟩
            · have HE : Hid (R = some 6) := by show _ = _; rw [HR3.out, if_pos rfl]
              clear HR3
              go_wp2
              go_ret
              exact ⟨by rw [HE.out]; rfl, HBW.out _ HB3.out⟩
end Go.Proofs.YtdeccdmplmclmaaGreatDoor
