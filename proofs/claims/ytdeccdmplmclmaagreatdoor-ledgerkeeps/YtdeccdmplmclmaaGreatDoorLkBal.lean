/-
  Ledgers, the program: all, Balance.
-/
import Derived.Test.YtdeccdmplmclmaaGreatDoorLkPost
namespace Go.Proofs.YtdeccdmplmclmaaGreatDoor
open Go.RowKit Go.Extern.Stop Go.Stop Go.Extern

theorem toList_ne {a b : ByteArray} (h : ¬ a = b) : ¬ a.toList = b.toList := fun e => h (by
  rw [Lib.toList_data, Lib.toList_data] at e
  exact ByteArray.ext (Array.toList_inj.1 e))
theorem toListB_ne {a b : ByteArray} (h : ¬ a = b) : (a.toList == b.toList) = false := by simpa using toList_ne h
theorem retI {a b : Int} (h : a = b) : Ending.returned (.int .i64 a) = .returned (.int .i64 b) := by rw [h]
theorem upTo_stop {on : Int} : ∀ {L : List En} {i : Nat} {e : En}, (∀ x, x ∈ L.take i → x.day ≤ on) → L[i]? = some e → on < e.day → upTo on L = L.take i
  | x :: L, 0, e, _, he, hd => by
    obtain rfl : x = e := by simpa using he
    unfold upTo
    rw [List.takeWhile_cons_of_neg (by simp; omega)]
    rfl
  | x :: L, i + 1, e, h, he, hd => by
    unfold upTo
    rw [List.takeWhile_cons_of_pos (by simpa using h x (by simp)), List.take_succ_cons]
    congr 1
    exact upTo_stop (fun y hy => h y (by rw [List.take_succ_cons]; exact List.mem_cons_of_mem _ hy)) (by simpa using he) hd
theorem upTo_all {on : Int} : ∀ {L : List En}, (∀ x, x ∈ L → x.day ≤ on) → upTo on L = L
  | [], _ => rfl
  | x :: L, h => by
    unfold upTo
    rw [List.takeWhile_cons_of_pos (by simpa using h x (by simp))]
    congr 1
    exact upTo_all fun y hy => h y (List.mem_cons_of_mem _ hy)
theorem all_p {gb B : Nat} {v mv : Value} {L : List En} {w : World} (hG : LG w gb B v mv L) : Calls Tryz.prog 25 #[.pointer (some ⟨gb, 0, none⟩)] w fun e w' => e = .returned v ∧ w' = w := by
  obtain ⟨a, n, c, rfl, hn⟩ := hG.row.any3
  have c0 := hG.c0
  clear hG hn
  go_enter Tryz.func25, Tryz.ntmps25
  go_wp2
  go_ret
  exact ⟨rfl, rfl⟩
theorem balL_one' (a : ByteArray) (x : Ln) : balL a [x] = if x.acc = a then x.cents else 0 := by simp [balL]
set_option maxHeartbeats 4000000 in
set_option maxRecDepth 10000 in
theorem balance_p {gb B : Nat} {v mv : Value} {L : List En} {acc : ByteArray} {on : Int} {w : World} (hG : LG w gb B v mv L) (hL : Good L) : Calls Tryz.prog 12 #[.pointer (some ⟨gb, 0, none⟩), .string acc, .int .i64 on] w fun e w' => e = .returned (.int .i64 (balOn acc on L)) ∧ Below w.heap.size w w' := by
  obtain ⟨a, n, c, rfl, hn⟩ := hG.row.any3
  have hbig := hG.rd.len.2
  have HA := hidLL (all_p hG)
  have HR := hidLL (And.intro hG.rd hn)
  have HL := hidLL hL
  rw [hL.on]
  have hn4 : n ≤ 400 := by have := hL.len; omega
  clear hG hL hn
  go_enter Tryz.func12, Tryz.ntmps12
  go_wp2_with fail
  refine HA.out.mono ?_
  rintro e w1 ⟨rfl, ew⟩
  subst w1
  go_wp2_with fail
  go_loopw [7, 15] (fun s t wr => ∃ (i : Nat) (y : Int), i ≤ n ∧ s = .int .i64 y ∧ t = .int .i64 i ∧ y = balE acc (L.take i) ∧ -(20000000000000 * (i : Int)) ≤ y ∧ y ≤ 20000000000000 * (i : Int) ∧ (∀ x, x ∈ L.take i → x.day ≤ on) ∧ Below w.heap.size w wr) (fun _ t _ => n - (RowKit.intOf t).toNat)
  case atStart => exact ⟨0, 0, by omega, rfl, rfl, rfl, by omega, by omega, (fun x hx => by simp at hx), Below.refl _ _⟩
  case round =>
    obtain ⟨i, y, hi, rfl, rfl, hy, hy1, hy2, hd, hb⟩ := hrel
    have HY := hidLL hy
    have HD := hidLL hd
    have HB := hidLL hb
    clear hy hd hb
    obtain ⟨w0, hw0⟩ : ∃ w0 : World, w0 = wr := ⟨_, rfl⟩
    subst wr
    by_cases hlt : i < n
    · have c0 : decide ((i : Int) < n) = true := by simp; omega
      have hiz : (i : Int) < n := by omega
      obtain ⟨x, hx, _⟩ := get_in (l := L) (i := i) (by have := HR.out.2; omega)
      obtain ⟨g, o, sa, sn, sc, rfl, hg, q0, q1, q2, hln⟩ := en_at (HR.out.1.below HB.out) hx
      obtain ⟨x1, _, _, _, x5, _⟩ := HL.out.each x (List.mem_of_getElem? hx)
      have hsn : sn ≤ 20 := by have := hln.len; omega
      have HX := hidLL hx
      have HLn := hidLL (And.intro hln (And.intro hln.len.1 x5))
      have HT := hidLL (take_succ' hx)
      obtain ⟨dy, tx, ls⟩ := x
      simp only at q0 q1
      have hgne : ¬ g = w0.heap.size := by have := HB.out.size; omega
      clear hx hln x1 x5
      by_cases hdy : on < dy
      · have HU : Hid (upTo on L = L.take i) := upTo_stop HD.out HX.out hdy
        go_wp2
        go_ret
        exact ⟨retI (by rw [HU.out]; exact HY.out), HB.out.trans ((bel1 w0 _).mono HB.out.size)⟩
      · have hdy2 : ¬ on < dy := hdy
        go_wp2_with fail
        go_loopw [7, 26] (fun s t wr => ∃ (k : Nat) (z : Int), k ≤ sn ∧ s = .int .i64 z ∧ t = .int .i64 k ∧ z = y + balL acc (ls.take k) ∧ -(20000000000000 * (i : Int) + 1000000000000 * (k : Int)) ≤ z ∧ z ≤ 20000000000000 * (i : Int) + 1000000000000 * (k : Int) ∧ Below w0.heap.size w0 wr) (fun _ t _ => sn - (RowKit.intOf t).toNat)
        case atStart => exact ⟨0, y, by omega, rfl, rfl, by simp [balL], by omega, by omega, bel1 _ _⟩
        case round =>
          obtain ⟨k, z, hk, rfl, rfl, hz, hz1, hz2, hbk⟩ := hrel
          have HZ := hidLL hz
          have HBk := hidLL hbk
          clear hz hbk
          by_cases hltk : k < sn
          · have c1 : decide ((k : Int) < sn) = true := by simp; omega
            have hkz : (k : Int) < sn := by omega
            obtain ⟨u, hu, _⟩ := get_in (l := ls) (i := k) (by have := HLn.out.2.1; show k < ls.length; exact this ▸ hltk)
            obtain ⟨g2, o2, rfl, hg2, hrg⟩ := (HLn.out.1.below (HBk.out.mono HB.out.size)).at hu
            obtain ⟨p0, p1⟩ := ln_cells hrg
            have hk2 : lnE.k = 2 := rfl
            rw [hk2] at p0 p1
            obtain ⟨u1, u2⟩ := HLn.out.2.2 u (List.mem_of_getElem? hu)
            have HU : Hid (balL acc (ls.take (k + 1)) = balL acc (ls.take k) + if u.acc = acc then u.cents else 0) := by
              show _ = _
              rw [take_succ' hu, balL_app', balL_one']
            obtain ⟨ua, uc⟩ := u
            simp only at p0 p1 u1 u2 HU
            have HB1 : Hid (∀ ob, Below w0.heap.size w0 (wr.alloc ob)) := fun ob => HBk.out.trans ((bel1 wr ob).mono HBk.out.size)
            have hg2ne : ¬ g2 = wr.heap.size := by have := HBk.out.size; have := HB.out.size; omega
            clear hrg hu hk2
            by_cases hacc : ua = acc
            · have HQ : Hid (z + uc = y + balL acc (ls.take (k + 1))) := by
                have := HZ.out
                have h2 := HU.out
                rw [if_pos hacc] at h2
                show _ = _
                omega
              subst hacc
              go_wp2
              go_roundw
              case rel => exact ⟨k + 1, z + uc, hltk, by go_num, by go_num, HQ.out, by omega, by omega, HB1.out _⟩
              case measure => simp [RowKit.intOf]; omega
            · have HQ : Hid (z = y + balL acc (ls.take (k + 1))) := by
                have := HZ.out
                have h2 := HU.out
                rw [if_neg hacc] at h2
                show _ = _
                omega
              have h3 := toListB_ne hacc
              clear hacc
              go_wp2
              go_roundw
              case rel => exact ⟨k + 1, z, hltk, rfl, by go_num, HQ.out, by omega, by omega, HB1.out _⟩
              case measure => simp [RowKit.intOf]; omega
          · have c1 : decide ((k : Int) < sn) = false := by simp; omega
            have HQ : Hid (z = balE acc (L.take (i + 1))) := by
              have h1 := HZ.out
              rw [show ls.take k = ls from List.take_of_length_le (by have := HLn.out.2.1; show ls.length ≤ k; exact this ▸ (by omega))] at h1
              show _ = _
              rw [HT.out, balE_app', balE_one', ← HY.out]
              exact h1
            have HD2 : Hid (∀ x, x ∈ L.take (i + 1) → x.day ≤ on) := fun x hx => by
              rw [HT.out] at hx
              rcases List.mem_append.1 hx with h1 | h1
              · exact HD.out x h1
              · obtain rfl : x = ⟨dy, tx, ls⟩ := by simpa using h1
                show dy ≤ on
                omega
            go_wp2
            go_roundw
            case rel => exact ⟨i + 1, z, hlt, rfl, by go_num, HQ.out, by omega, by omega, HD2.out, HB.out.trans (HBk.out.mono HB.out.size)⟩
            case measure => simp [RowKit.intOf]; omega
    · have c0 : decide ((i : Int) < n) = false := by simp; omega
      have HU : Hid (upTo on L = L.take i) := by
        have h1 : L.take i = L := List.take_of_length_le (by have := HR.out.2; omega)
        have h2 := HD.out
        rw [h1] at h2
        show _ = _
        rw [h1]
        exact upTo_all h2
      go_wp2
      go_ret
      exact ⟨retI (by rw [HU.out]; exact HY.out), HB.out⟩
end Go.Proofs.YtdeccdmplmclmaaGreatDoor
