/-
  Ledgers, the law's helpers: coded, sameEntry, entry.
-/
import Derived.Test.YtdeccdmplmclmaaGreatDoorLkRP
import Derived.Test.YtdeccdmplmclmaaGreatDoorCode
namespace Go.Proofs.YtdeccdmplmclmaaGreatDoor
open Go.RowKit Go.Extern.Stop Go.Stop Go.Extern

theorem coded_nil (n : Int) (w : World) : Calls Tryz.prog 7 #[.nilIface, .int .i64 n] w fun e w' => e = .returned (.bool ((0 : Int) == n)) ∧ w' = w := by
  go_enter Tryz.func7, Tryz.ntmps7
  go_wp2_with (go_at_call 19; refine (code_nil _).mono ?_; rintro e w' ⟨rfl, rfl⟩)
  go_ret
  exact ⟨rfl, rfl⟩
theorem coded_sent (k : Nat) (hk : k < 11) (n : Int) (p : Nat → Addr) (w : World) (L : Laid w p) :
    Calls Tryz.prog 7 #[.iface 162 (.pointer (some (p k))), .int .i64 n] w fun e w' => e = .returned (.bool (((k : Int) + 1) == n)) ∧ Below w.heap.size w w' := by
  go_enter Tryz.func7, Tryz.ntmps7
  go_wp2_with fail
  refine (code_sent k hk p _ L).mono ?_
  rintro e w' ⟨rfl, hb⟩
  go_wp2
  go_ret
  exact ⟨rfl, hb⟩
set_option maxHeartbeats 2000000 in
/-- Two entries that say the same. -/
theorem same_w {B n c n2 c2 : Nat} {a a2 : Option Addr} {dy : Int} {tx : ByteArray} {ls : List Ln} {w : World} (h1 : RdS lnE w (· < B) (.slice a n c) ls) (h2 : RdS lnE w (· < B) (.slice a2 n2 c2) ls) (hB : B ≤ w.heap.size) :
    Calls Tryz.prog 10 #[.agg #[.int .i64 dy, .string tx, .slice a n c], .agg #[.int .i64 dy, .string tx, .slice a2 n2 c2]] w fun e w' => e = .returned (.bool true) ∧ Below w.heap.size w w' := by
  obtain ⟨e1, hbig⟩ := h1.len
  obtain ⟨e2, _⟩ := h2.len
  obtain rfl : n = n2 := by omega
  have H1 := hidLL h1
  have H2 := hidLL h2
  have HL := hidLL e1
  have d0 : (dy != dy) = false := by simp
  have d1 : (tx.toList != tx.toList) = false := by simp
  have d2 : ((n : Int) != (n : Int)) = false := by simp
  clear h1 h2 e1 e2
  go_enter Tryz.func10, Tryz.ntmps10
  obtain ⟨W, hW⟩ : ∃ W, W = (w.alloc (.cells #[.int .i64 dy, .string tx, .slice a n c] 36)).alloc (.cells #[.int .i64 dy, .string tx, .slice a2 n c2] 30) := ⟨_, rfl⟩
  have HBW : Hid (Below w.heap.size w W) := by rw [hW]; exact (bel1 _ _).trans ((bel1 _ _).mono (by simp))
  have b2 : W.cell? ⟨w.heap.size, 2, none⟩ = some (.slice a n c) := by rw [hW]; simp
  have b3 : W.cell? ⟨w.heap.size + 1, 2, none⟩ = some (.slice a2 n c2) := by rw [hW]; simp
  go_wp2_with fail
  rw [← hW]
  clear hW
  go_loopw [5] (fun t wr => ∃ i q : Nat, i ≤ n ∧ t = .int .i64 i ∧ wr = W.drewN q) (fun t _ => n - (RowKit.intOf t).toNat)
  case atStart => exact ⟨0, 0, by omega, rfl, rfl⟩
  case round =>
    obtain ⟨i, q, hi, rfl, rfl⟩ := hrel
    by_cases hlt : i < n
    · have c0 : decide ((i : Int) < n) = true := by simp; omega
      have hiz : (i : Int) < n := by omega
      obtain ⟨x, hx, _⟩ := get_in (l := ls) (i := i) (by have := HL.out; omega)
      obtain ⟨g, o, rfl, hg, hr⟩ := (H1.out.below (HBW.out.mono hB)).at hx
      obtain ⟨g2, o2, rfl, hg2, hr2⟩ := (H2.out.below (HBW.out.mono hB)).at hx
      obtain ⟨p1, p2⟩ := ln_cells hr
      obtain ⟨r1, r2⟩ := ln_cells hr2
      have hk : lnE.k = 2 := rfl
      rw [hk] at p1 p2 r1 r2
      obtain ⟨xa, xc⟩ := x
      simp only at p1 p2 r1 r2
      have f1 : (xa.toList != xa.toList) = false := by simp
      have f2 : (xc != xc) = false := by simp
      clear hx hr hr2 hk
      go_wp2_with fail
      go_quiet (fail)
      go_wp2
      go_roundw
      case rel => exact ⟨i + 1, _, by omega, by go_num, rfl⟩
      case measure => simp [RowKit.intOf]; omega
    · have c0 : decide ((i : Int) < n) = false := by simp; omega
      go_wp2
      go_ret
      exact ⟨rfl, bdrewN HBW.out _⟩
/-- The entry as it is being made. -/
structure EnS (w wr : World) (eb e1 e2 : Nat) (dy : Int) (tx : ByteArray) (p v : Value) (l : List Ln) : Prop where
  o1 : eb < e1
  o2 : e1 < e2
  b0 : wr.heap[eb]? = some (.cells #[.int .i64 dy, .string tx, p] 30 (0, 0))
  b1 : wr.heap[e1]? = some (.cells #[.int .i64 0, .string ⟨#[]⟩, .slice none 0 0] 36 (0, 0))
  b2 : wr.heap[e2]? = some (.cells #[.int .i64 dy, .string tx, v] 36 (0, 0))
  row : RowG lnE 49 wr (e2 + 1) v l
  bel : Below eb w wr
theorem EnS.push {w w4 w5 : World} {eb e1 e2 : Nat} {dy : Int} {tx : ByteArray} {p v v5 : Value} {l l' : List Ln} (h : EnS w w4 eb e1 e2 dy tx p v l) (hr5 : RowG lnE 49 w5 (e2 + 1) v5 l') (hb5 : Below (e2 + 1) w4 w5) :
    w5.cell? ⟨e2, 2, none⟩ = some v ∧ w5.frozen? ⟨e2, 2, none⟩ = false ∧ EnS w (w5.setCell ⟨e2, 2, none⟩ v5) eb e1 e2 dy tx p v5 l' := by
  have h1 := h.o1
  have h2 := h.o2
  have x2 := (hb5.block e2 (by omega)).trans h.b2
  have hs : ∀ k, k ≠ e2 → (w5.setCell ⟨e2, 2, none⟩ v5).heap[k]? = w5.heap[k]? := fun k hk => Below.heap_setCell _ _ _ _ hk
  refine ⟨?_, frozen_of_row _ _ _ _ _ x2, ⟨h1, h2, (hs eb (by omega)).trans ((hb5.block eb (by omega)).trans h.b0), (hs e1 (by omega)).trans ((hb5.block e1 (by omega)).trans h.b1), three_cells2 x2, hr5.on fun k hk hge _ => hs k (by omega), ?_⟩⟩
  · rw [cell_of_row _ _ 2 _ _ _ x2]; rfl
  · exact (h.bel.trans (hb5.mono (by omega))).setCell (p := ⟨e2, 2, none⟩) (by show eb ≤ e2; omega) _
set_option maxHeartbeats 4000000 in
set_option maxRecDepth 20000 in
theorem entry_w {A n c : Nat} {a : Option Addr} {dy : Int} {tx : ByteArray} {ls : List Ln} {w : World} (h : RdS lnE w (· < A) (.slice a n c) ls) (hA : A ≤ w.heap.size) (hn4 : n ≤ 1000) :
    Calls Tryz.prog 6 #[.agg #[.int .i64 dy, .string tx, .slice a n c]] w fun e w' => (∃ sa sn sc, e = .returned (.agg #[.int .i64 dy, .string tx, .slice sa sn sc]) ∧ RdS lnE w' (· < w'.heap.size) (.slice sa sn sc) ls) ∧ Below w.heap.size w w' := by
  obtain ⟨hn, hbig⟩ := h.len
  obtain ⟨W, hW⟩ : ∃ W, W = ((w.alloc (.cells #[.int .i64 dy, .string tx, .slice a n c] 30)).alloc (.cells #[.int .i64 0, .string ⟨#[]⟩, .slice none 0 0] 36)).alloc (.cells #[.int .i64 dy, .string tx, .slice none 0 0] 36) := ⟨_, rfl⟩
  obtain ⟨eb, heb⟩ : ∃ eb, eb = w.heap.size := ⟨_, rfl⟩
  obtain ⟨e1, he1⟩ : ∃ e1, e1 = w.heap.size + 1 := ⟨_, rfl⟩
  obtain ⟨e2, he2⟩ : ∃ e2, e2 = w.heap.size + 1 + 1 := ⟨_, rfl⟩
  have hS : EnS w W eb e1 e2 dy tx (.slice a n c) (.slice none 0 0) (ls.take 0) := by
    rw [hW, heb, he1, he2]
    refine ⟨by omega, by omega, ?_, ?_, ?_, RowG.nil _ _, ?_⟩
    · rw [Go.Deep.blk_alloc_lt _ _ _ (by simp; omega), Go.Deep.blk_alloc_lt _ _ _ (by simp)]
      exact Go.Deep.blk_alloc_new w _
    · rw [Go.Deep.blk_alloc_lt _ _ _ (by simp)]
      have := Go.Deep.blk_alloc_new (w.alloc (.cells #[.int .i64 dy, .string tx, .slice a n c] 30)) (.cells #[.int .i64 0, .string ⟨#[]⟩, .slice none 0 0] 36)
      simpa using this
    · have := Go.Deep.blk_alloc_new ((w.alloc (.cells #[.int .i64 dy, .string tx, .slice a n c] 30)).alloc (.cells #[.int .i64 0, .string ⟨#[]⟩, .slice none 0 0] 36)) (.cells #[.int .i64 dy, .string tx, .slice none 0 0] 36)
      simpa using this
    · exact (bel1 _ _).trans (((bel1 _ _).mono (by simp)).trans ((bel1 _ _).mono (by simp; omega)))
  have HS := hidLL hS
  have HR := hidLL (And.intro h hn)
  have hAe : A ≤ eb := by omega
  have HEb := hidLL heb
  clear hS h hn
  go_enter Tryz.func6, Tryz.ntmps6
  go_upto_region 2 with fail
  rw [← hW, ← he2, ← he1, ← heb]
  clear hW he2 he1 heb
  go_wp2_with fail
  go_loopw [4] (fun t wr => ∃ (j : Nat) (v : Value), j ≤ n ∧ t = .int .i64 j ∧ EnS w wr eb e1 e2 dy tx (.slice a n c) v (ls.take j)) (fun t _ => n - (RowKit.intOf t).toNat)
  case atStart => exact ⟨0, _, by omega, rfl, HS.out⟩
  case round =>
    clear HS
    obtain ⟨j, v, hj, rfl, hS⟩ := hrel
    obtain ⟨va, vn, vc, rfl, hvn⟩ := hS.row.any3
    have HS := hidLL hS
    have v0 : wr.cell? ⟨eb, 0, none⟩ = some (.int .i64 dy) := by rw [cell_of_row _ eb 0 _ _ _ hS.b0]; rfl
    have v1 : wr.cell? ⟨eb, 1, none⟩ = some (.string tx) := by rw [cell_of_row _ eb 1 _ _ _ hS.b0]; rfl
    have v2 : wr.cell? ⟨eb, 2, none⟩ = some (.slice a n c) := by rw [cell_of_row _ eb 2 _ _ _ hS.b0]; rfl
    have x0 : wr.cell? ⟨e2, 0, none⟩ = some (.int .i64 dy) := by rw [cell_of_row _ e2 0 _ _ _ hS.b2]; rfl
    have x1 : wr.cell? ⟨e2, 1, none⟩ = some (.string tx) := by rw [cell_of_row _ e2 1 _ _ _ hS.b2]; rfl
    have x2 : wr.cell? ⟨e2, 2, none⟩ = some (.slice va vn vc) := by rw [cell_of_row _ e2 2 _ _ _ hS.b2]; rfl
    have he2 : e2 < wr.heap.size := lt_of_block hS.b2
    have hebl : eb < wr.heap.size := lt_of_block hS.b0
    by_cases hlt : j < n
    · have c0 : decide ((j : Int) < n) = true := by simp; omega
      have hjz : (j : Int) < n := by omega
      obtain ⟨u, hu, _⟩ := get_in (l := ls) (i := j) (by have := HR.out.2; omega)
      obtain ⟨g, o, rfl, hg, hrg⟩ := (HR.out.1.below (hS.bel.mono hAe)).at hu
      obtain ⟨p0, p1⟩ := ln_cells hrg
      have hk2 : lnE.k = 2 := rfl
      rw [hk2] at p0 p1
      have HU := hidLL (take_succ' hu)
      obtain ⟨ua, uc⟩ := u
      simp only at p0 p1
      have hB0 : e2 + 1 ≤ wr.heap.size := he2
      have hl0 : (ls.take j).length + 1 ≤ 1000000 := by rw [List.length_take]; omega
      have HRowD : Hid (RowG lnE 49 wr.drew (e2 + 1) (.slice va vn vc) (ls.take j)) := hS.row.on fun _ _ _ _ => rfl
      have hgl : g < wr.heap.size := by omega
      clear hrg hu hk2 hS hvn
      go_upto_region 5 with fail
      go_region_law (refine step_push_g (E := lnE) Tryz.infoLn (by decide) Tryz.underlying34 rfl (.tmp 18) (.tmp 32) rfl (e2 + 1) (.slice va vn vc) (ls.take j) (⟨ua, uc⟩ : Ln) _ rfl (by simp [Act.eval]) HRowD.out (by simp [Act.eval]) hB0 hl0 ?_; intro v5 w5 hr5 hb5 hk5 hv5; obtain ⟨pa, pn, pc, rfl, hpn⟩ := hr5.any3; have hpp := HS.out.push (l' := ls.take (j + 1)) (by rw [HU.out]; exact hr5) ⟨hb5.os, hb5.tape, hb5.output, hb5.size, hb5.block⟩; have HPp := hidLL hpp; have q0 := hpp.1; have q1 := hpp.2.1; clear hr5 hb5 hk5 hv5 hpp hpn)
      all_goals
        go_wp2
        go_roundw
        case rel => exact ⟨j + 1, _, hlt, by go_num, HPp.out.2.2⟩
        case measure => simp [RowKit.intOf]; omega
    · have c0 : decide ((j : Int) < n) = false := by simp; omega
      have k0 : wr.cell? ⟨e1, 0, none⟩ = some (.int .i64 0) := by rw [cell_of_row _ e1 0 _ _ _ hS.b1]; rfl
      have k1 : wr.cell? ⟨e1, 1, none⟩ = some (.string ⟨#[]⟩) := by rw [cell_of_row _ e1 1 _ _ _ hS.b1]; rfl
      have k2 : wr.cell? ⟨e1, 2, none⟩ = some (.slice none 0 0) := by rw [cell_of_row _ e1 2 _ _ _ hS.b1]; rfl
      have kf : ∀ j, wr.frozen? ⟨e1, j, none⟩ = false := fun j => frozen_of_row _ e1 _ _ _ hS.b1
      have kf0 := kf 0
      have kf1 := kf 1
      have kf2 := kf 2
      have he1 : e1 < wr.heap.size := lt_of_block hS.b1
      have HF : Hid (∀ x y z, RdS lnE (((wr.setCell ⟨e1, 0, none⟩ x).setCell ⟨e1, 1, none⟩ y).setCell ⟨e1, 2, none⟩ z) (· < wr.heap.size) (.slice va vn vc) ls ∧ Below w.heap.size w (((wr.setCell ⟨e1, 0, none⟩ x).setCell ⟨e1, 1, none⟩ y).setCell ⟨e1, 2, none⟩ z)) := fun x y z => by
        have hb := hS.bel
        rw [HEb.out] at hb
        have ho1 := hS.o1
        have ho2 := hS.o2
        have heb := HEb.out
        refine ⟨?_, ((hb.setCell (p := ⟨e1, 0, none⟩) (by show w.heap.size ≤ e1; omega) _).setCell (p := ⟨e1, 1, none⟩) (by show w.heap.size ≤ e1; omega) _).setCell (p := ⟨e1, 2, none⟩) (by show w.heap.size ≤ e1; omega) _⟩
        have hr := hS.row
        rw [show ls.take j = ls from List.take_of_length_le (by have := HR.out.2; omega)] at hr
        refine hr.rdS.on fun k hk => ⟨hk.2.1, ?_⟩
        have hke : k ≠ e1 := by have := hk.1; omega
        rw [Below.heap_setCell _ _ _ _ hke, Below.heap_setCell _ _ _ _ hke, Below.heap_setCell _ _ _ _ hke]
      clear kf hS hvn
      go_wp2
      refine bodyPost_ret (v := .agg #[.int .i64 dy, .string tx, .slice va vn vc]) (by simp [results, Tryz.results6, go_sem, k0, k1, k2]) rfl ⟨⟨va, vn, vc, rfl, ?_⟩, ?_⟩
      · simpa using (HF.out _ _ _).1
      · exact (HF.out _ _ _).2
end Go.Proofs.YtdeccdmplmclmaaGreatDoor
