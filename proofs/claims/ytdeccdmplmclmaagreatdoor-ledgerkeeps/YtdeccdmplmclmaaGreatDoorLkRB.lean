/-
  Ledgers, the reference: Balance.
-/
import Derived.Test.YtdeccdmplmclmaaGreatDoorLkSht
namespace Go.Proofs.YtdeccdmplmclmaaGreatDoor
open Go.RowKit Go.Extern.Stop Go.Stop Go.Extern

/-- A ledger of the reference in memory; the lines of its entries lie in blocks below A. -/
structure RG (w : World) (rb B A : Nat) (v : Value) (L : List En) : Prop where
  blk : w.heap[rb]? = some (.cells #[v] 27 (0, 0))
  ge : B ≤ rb
  row : ERow 30 w B (· < A) v L
  ab : A ≤ B
theorem RG.c0 {w : World} {rb B A : Nat} {v : Value} {L : List En} (h : RG w rb B A v L) : w.cell? ⟨rb, 0, none⟩ = some v := by rw [cell_of_row _ rb 0 _ _ _ h.blk]; rfl
theorem RG.f0 {w : World} {rb B A : Nat} {v : Value} {L : List En} (h : RG w rb B A v L) : w.frozen? ⟨rb, 0, none⟩ = false := frozen_of_row _ rb _ _ _ h.blk
theorem RG.lt {w : World} {rb B A : Nat} {v : Value} {L : List En} (h : RG w rb B A v L) : rb < w.heap.size := (Array.getElem?_eq_some_iff.1 h.blk).1
theorem RG.rd {w : World} {rb B A : Nat} {v : Value} {L : List En} (h : RG w rb B A v L) : NRd enN w (· < w.heap.size) v L := h.row.rd (fun k hk => by have := h.lt; have := h.ge; have := h.ab; omega) (fun _ _ hk => hk)
theorem RG.on {w w' : World} {rb B A : Nat} {v : Value} {L : List En} (h : RG w rb B A v L) (hg : w'.heap[rb]? = w.heap[rb]?) (hr : ∀ k, v.ownBlock = some k → w'.heap[k]? = w.heap[k]?) (hl : ∀ k, k < A → w'.heap[k]? = w.heap[k]?) : RG w' rb B A v L :=
  ⟨hg.trans h.blk, h.ge, h.row.on hr (fun k hk => ⟨hk, hl k hk⟩), h.ab⟩
theorem RG.below {w w' : World} {rb B A : Nat} {v : Value} {L : List En} (h : RG w rb B A v L) (hb : Below w.heap.size w w') : RG w' rb B A v L :=
  h.on (hb.block _ h.lt) (fun k hk => hb.block k (h.row.ty hk).2.lt) (fun k hk => hb.block k (by have := h.lt; have := h.ge; have := h.ab; omega))
theorem balOn_snoc (a : ByteArray) (on : Int) (L : List En) (e : En) : balOn a on (L ++ [e]) = balOn a on L + if e.day ≤ on then balL a e.lines else 0 := by
  unfold balOn
  rw [List.filter_append, balE_app']
  congr 1
  by_cases h : e.day ≤ on
  · rw [if_pos h, List.filter_cons_of_pos (by simpa using h)]
    simp [balE]
  · rw [if_neg h, List.filter_cons_of_neg (by simpa using h)]
    rfl
set_option maxHeartbeats 4000000 in
set_option maxRecDepth 10000 in
theorem rBal_p {rb B A : Nat} {v : Value} {L : List En} {acc : ByteArray} {on : Int} {w : World} (hG : RG w rb B A v L) (hL : Good L) : Calls Tryz.prog 14 #[.pointer (some ⟨rb, 0, none⟩), .string acc, .int .i64 on] w fun e w' => e = .returned (.int .i64 (balOn acc on L)) ∧ w' = w := by
  obtain ⟨a, n, c, rfl, hn⟩ := hG.row.any3
  have c0 := hG.c0
  have HR := hidLL (And.intro hG.rd hn)
  have HL := hidLL hL
  have hn4 : n ≤ 400 := by have := hL.len; omega
  clear hG hL hn
  go_enter Tryz.func14, Tryz.ntmps14
  go_wp2_with fail
  go_loopw [7, 8] (fun s t wr => ∃ (i : Nat) (y : Int), i ≤ n ∧ s = .int .i64 y ∧ t = .int .i64 i ∧ y = balOn acc on (L.take i) ∧ -(20000000000000 * (i : Int)) ≤ y ∧ y ≤ 20000000000000 * (i : Int) ∧ wr = w) (fun _ t _ => n - (RowKit.intOf t).toNat)
  case atStart => exact ⟨0, 0, by omega, rfl, rfl, rfl, by omega, by omega, rfl⟩
  case round =>
    obtain ⟨i, y, hi, rfl, rfl, hy, hy1, hy2, ew⟩ := hrel
    subst wr
    have HY := hidLL hy
    clear hy
    by_cases hlt : i < n
    · have c1 : decide ((i : Int) < n) = true := by simp; omega
      have hiz : (i : Int) < n := by omega
      obtain ⟨x, hx, _⟩ := get_in (l := L) (i := i) (by have := HR.out.2; omega)
      obtain ⟨g, o, sa, sn, sc, rfl, hg, q0, q1, q2, hln⟩ := en_at HR.out.1 hx
      obtain ⟨x1, _, _, _, x5, _⟩ := HL.out.each x (List.mem_of_getElem? hx)
      have hsn : sn ≤ 20 := by have := hln.len; omega
      have HX := hidLL hx
      have HLn := hidLL (And.intro hln (And.intro hln.len.1 x5))
      have HT : Hid (balOn acc on (L.take (i + 1)) = balOn acc on (L.take i) + if x.day ≤ on then balL acc x.lines else 0) := by show _ = _; rw [take_succ' hx, balOn_snoc]
      obtain ⟨dy, tx, ls⟩ := x
      simp only at q0 q1 HT
      clear hx hln x1 x5
      by_cases hdy : dy ≤ on
      · go_wp2_with fail
        go_loopw [7, 9] (fun s t wr => ∃ (k : Nat) (z : Int), k ≤ sn ∧ s = .int .i64 z ∧ t = .int .i64 k ∧ z = y + balL acc (ls.take k) ∧ -(20000000000000 * (i : Int) + 1000000000000 * (k : Int)) ≤ z ∧ z ≤ 20000000000000 * (i : Int) + 1000000000000 * (k : Int) ∧ wr = w) (fun _ t _ => sn - (RowKit.intOf t).toNat)
        case atStart => exact ⟨0, y, by omega, rfl, rfl, by simp [balL], by omega, by omega, rfl⟩
        case round =>
          obtain ⟨k, z, hk, rfl, rfl, hz, hz1, hz2, ew⟩ := hrel
          subst wr
          have HZ := hidLL hz
          clear hz
          by_cases hltk : k < sn
          · have c2 : decide ((k : Int) < sn) = true := by simp; omega
            have hkz : (k : Int) < sn := by omega
            obtain ⟨u, hu, _⟩ := get_in (l := ls) (i := k) (by have := HLn.out.2.1; show k < ls.length; exact this ▸ hltk)
            obtain ⟨g2, o2, rfl, hg2, hrg⟩ := HLn.out.1.at hu
            obtain ⟨p0, p1⟩ := ln_cells hrg
            have hk2 : lnE.k = 2 := rfl
            rw [hk2] at p0 p1
            obtain ⟨u1, u2⟩ := HLn.out.2.2 u (List.mem_of_getElem? hu)
            have HU : Hid (balL acc (ls.take (k + 1)) = balL acc (ls.take k) + if u.acc = acc then u.cents else 0) := by
              show _ = _
              rw [take_succ' hu, balL_app', balL_one']
            obtain ⟨ua, uc⟩ := u
            simp only at p0 p1 u1 u2 HU
            clear hrg hu hk2
            by_cases hacc : ua = acc
            · have HQ : Hid (z + uc = y + balL acc (ls.take (k + 1))) := by
                have := HZ.out
                have h2 := HU.out
                rw [if_pos hacc] at h2
                show _ = _
                omega
              subst hacc
              go_wp2
              go_roundw
              case rel => exact ⟨k + 1, z + uc, hltk, by go_num, by go_num, HQ.out, by omega, by omega, by first | rfl | trivial⟩
              case measure => simp [RowKit.intOf]; omega
            · have HQ : Hid (z = y + balL acc (ls.take (k + 1))) := by
                have := HZ.out
                have h2 := HU.out
                rw [if_neg hacc] at h2
                show _ = _
                omega
              have h3 := toListB_ne hacc
              clear hacc
              go_wp2
              go_roundw
              case rel => exact ⟨k + 1, z, hltk, rfl, by go_num, HQ.out, by omega, by omega, by first | rfl | trivial⟩
              case measure => simp [RowKit.intOf]; omega
          · have c2 : decide ((k : Int) < sn) = false := by simp; omega
            have HQ : Hid (z = balOn acc on (L.take (i + 1))) := by
              have h1 := HZ.out
              rw [show ls.take k = ls from List.take_of_length_le (by have := HLn.out.2.1; show ls.length ≤ k; exact this ▸ (by omega))] at h1
              show _ = _
              rw [HT.out, if_pos hdy, ← HY.out]
              exact h1
            go_wp2
            go_roundw
            case rel => exact ⟨i + 1, z, hlt, rfl, by go_num, HQ.out, by omega, by omega, by first | rfl | trivial⟩
            case measure => simp [RowKit.intOf]; omega
      · have HQ : Hid (y = balOn acc on (L.take (i + 1))) := by
          show _ = _
          rw [HT.out, if_neg hdy, ← HY.out]
          omega
        have hdy2 : ¬ dy ≤ on := hdy
        clear hdy
        go_wp2_with fail
        go_loopw [7, 9] (fun s t wr => s = .int .i64 y ∧ t = .int .i64 0 ∧ wr = w) (fun _ t _ => 0)
        case atStart => exact ⟨rfl, rfl, rfl⟩
        case round =>
          obtain ⟨rfl, rfl, ew⟩ := hrel
          subst wr
          by_cases hs0 : 0 < sn
          · have c2 : decide ((0 : Int) < sn) = true := by simp; omega
            go_wp2
            go_roundw
            case rel => exact ⟨i + 1, y, hlt, rfl, by go_num, HQ.out, by omega, by omega, by first | rfl | trivial⟩
            case measure => simp [RowKit.intOf]; omega
          · have c2 : decide ((0 : Int) < sn) = false := by simp; omega
            go_wp2
            go_roundw
            case rel => exact ⟨i + 1, y, hlt, rfl, by go_num, HQ.out, by omega, by omega, by first | rfl | trivial⟩
            case measure => simp [RowKit.intOf]; omega
    · have c1 : decide ((i : Int) < n) = false := by simp; omega
      have HF : Hid (y = balOn acc on L) := by
        have h1 := HY.out
        rw [show L.take i = L from List.take_of_length_le (by have := HR.out.2; omega)] at h1
        exact h1
      go_wp2
      go_ret
      exact ⟨retI HF.out, rfl⟩
end Go.Proofs.YtdeccdmplmclmaaGreatDoor
