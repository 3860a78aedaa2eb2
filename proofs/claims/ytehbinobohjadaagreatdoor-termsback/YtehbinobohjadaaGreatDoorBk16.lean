/-
  The program's reader: comparison.
-/
import Derived.Test.YtehbinobohjadaaGreatDoorBk15
import Derived.Deep.RegionLaw
import Derived.Deep.DeepCutAuto
namespace Go.Proofs.YtehbinobohjadaaGreatDoor
open Go.RowKit Go.Extern.Stop Go.Stop Go.Extern

theorem eight_nv {W : World} {g : Nat} {a b c d a' b' c' d' : Value} {t : TypeId} (h : W.heap[g]? = some (.cells #[a, b, c, d, a', b', c', d'] t (0, 0))) : (∀ q, q < 4 → W.cell? ⟨g, q, none⟩ = some (nv a b c d q)) ∧ ∀ q, q < 4 → W.cell? ⟨g, 4 + q, none⟩ = some (nv a' b' c' d' q) := by
  constructor
  · intro q hq
    unfold World.cell?
    rw [h]
    rcases (show q = 0 ∨ q = 1 ∨ q = 2 ∨ q = 3 by omega) with rfl | rfl | rfl | rfl <;> rfl
  · intro q hq
    unfold World.cell?
    rw [h]
    rcases (show q = 0 ∨ q = 1 ∨ q = 2 ∨ q = 3 by omega) with rfl | rfl | rfl | rfl <;> rfl
/-- A rule whatever state it begins in. -/
theorem QRule.at {L : List Tok} {rp tb : Nat} {fn : FuncId} {P : Nat → Nat → PR Nd} (h : QRule L rp tb fn P) {W V : World} {k n : Nat} (hq : QS L rp tb W k n) (hn : P k n ≠ .out) (hb : Below W.heap.size W V) : Calls Tryz.prog fn #[.pointer (some ⟨rp, 0, none⟩)] V fun e w' => QEnd L rp tb W (P k n) (fun x v w' => NodeV W.heap.size x v w') e w' := by
  refine (h V k n (hq.below hb) hn).mono ?_
  intro e w' hE
  obtain ⟨h1, h2⟩ := hE
  refine ⟨(Below.x hb rp (Nat.le_refl _)).then h1 hb.size, ?_⟩
  revert h2
  cases P k n with
  | out => exact fun h => h
  | bad c a => exact fun h => h
  | ok x k n =>
    rintro ⟨h3, v, h4, s0, s1, n2, ka, kn, kc, h5, h6⟩
    exact ⟨h3, v, h4, s0, s1, n2, ka, kn, kc, h5, h6.step fun b _ hp => ⟨rfl, Nat.le_trans hb.size hp⟩⟩
set_option maxHeartbeats 4000000 in
theorem comp_rule {L : List Tok} {rp tb f : Nat} (h1 : QRule L rp tb 84 (sumQ L f)) : QRule L rp tb 154 (compQ L (f + 1)) := by
  intro w k n h hn
  have lo := h.lows
  obtain ⟨R, hR⟩ : ∃ R, R = compQ L (f + 1) k n := ⟨_, rfl⟩
  rw [← hR] at hn ⊢
  rw [compQ] at hR
  obtain ⟨W1, hW1⟩ : ∃ W1, W1 = w.alloc (.cells #[.string ⟨#[]⟩, .string ⟨#[]⟩, .int .i64 0, .slice none 0 0] 25) := ⟨_, rfl⟩
  have hst : StartQ w W1 := by rw [hW1]; exact StartQ.new w
  have H1 := hidLL h1
  have HX := hidLL hW1
  have HR := hidLL hR
  have HNo := hidLL hn
  have HT := hidLL hst
  have HL := hidLL lo
  have HQ1 := hidLL (And.intro (h.below hst.bel) (Below.x hst.bel rp (Nat.le_refl _)))
  have hs1 := hst.lt
  clear h hW1 hst hR hn lo h1
  go_enter Tryz.func154, Tryz.ntmps154
  go_upto_region 2 with (rw [← HX.out]; go_at_call 84; refine (H1.out _ _ _ HQ1.out.1 (PR.bind_not (HR.out ▸ HNo.out))).mono ?_; rintro e W2 hE; rcases hr : sumQ L f k n with _ | ⟨c, a⟩ | ⟨x1, k1, n1⟩; (· exact absurd hr (PR.bind_not (HR.out ▸ HNo.out))); (· rw [hr] at hE; obtain ⟨hb, ⟨p, rfl⟩⟩ := hE; obtain rfl : R = .bad c a := (by rw [HR.out, hr, PR.bind_bad]); exact (show _ ∧ _ from ⟨rfl, HQ1.out.2.then hb HQ1.out.2.size, ⟨_, rfl⟩⟩)); rw [hr] at hE; obtain ⟨hb, hq, v, rfl, s0, s1, i2, ka, kn, kc, rfl, hN⟩ := hE; rw [hr, PR.bind_ok] at HR; have HQ2 := hidLL (And.intro hq (And.intro (HQ1.out.2.then hb HQ1.out.2.size) (And.intro ((hb.block _ hs1 (fun e => by have := HL.out.r; omega)).trans HT.out.blk) hN))); have hs2 := hb.size; clear hb hq hr hN)
  obtain ⟨V2, hV2⟩ : ∃ V2, V2 = W2.alloc (.cells #[.string s0, .string s1, .int .i64 i2, .slice ka kn kc] 25) := ⟨_, rfl⟩
  rw [← hV2]
  have hv2 : Below W2.heap.size W2 V2 := by rw [hV2]; exact (Below.refl _ _).alloc (Nat.le_refl _) _
  have hn2 : V2.heap[W2.heap.size]? = some (.cells #[.string s0, .string s1, .int .i64 i2, .slice ka kn kc] 25 (0, 0)) := by rw [hV2]; exact heap_alloc_new _ _
  have hl2 : W2.heap.size < V2.heap.size := by rw [hV2]; simp
  have hqv := HQ2.out.1.below hv2
  have HV2 := hidLL (And.intro hqv (And.intro (HQ2.out.2.1.then (Below.x hv2 rp (Nat.le_refl _)) HQ2.out.2.1.size) (And.intro hn2 (And.intro ((hv2.block _ (by omega)).trans HQ2.out.2.2.1) (HQ2.out.2.2.2.step (P' := fun b => w.heap.size < b ∧ b ≠ W2.heap.size) fun b hb hp => ⟨hv2.block b hb, by omega, by omega⟩)))))
  generalize W2.heap.size = g3 at *
  obtain ⟨m, c, hm, hm1, hc, h4, x0, y1, xf⟩ := hqv.cells
  obtain ⟨y0, yt, y2⟩ := hqv.tokens
  have HO := hidLL (isOrder_q (tokAt L k1).text)
  clear hV2 hv2 hn2 HQ2 hqv
  cases ho : (placeIn ordersW (tokAt L k1).text).isSome with
  | false =>
    rw [ho] at HO
    rw [ho, if_neg (by simp)] at HR
    obtain ⟨pt, gt⟩ := HV2.out.1.gT
    generalize (tokAt L k1).text = K1 at *
    go_wp2_with (first | (go_at_call 124; refine (HO.out _).mono ?_; rintro e w3 ⟨rfl, rfl⟩) | (go_at_call 44; refine (wrong_q HV2.out.1 _ _).mono ?_; rintro e w4 ⟨⟨p, rfl⟩, hb⟩; have HB := hidLL hb; clear hb))
    obtain rfl : R = .bad 0 0 := HR.out
    exact ⟨rfl, HV2.out.2.1.then (Below.x HB.out _ (Nat.le_refl _)) HV2.out.2.1.size, ⟨_, rfl⟩⟩
  | true =>
    have hsz : (tokAt L k1).text.size ≠ 0 := by
      intro h0
      unfold placeIn at ho
      rw [List.findIdx?_isSome, List.any_eq_true] at ho
      obtain ⟨x, hx, he⟩ := ho
      have e1 : x.toList = (tokAt L k1).text.toList := by unfold eqB at he; simpa using he
      have e2 := congrArg List.length e1
      simp only [Lib.toList_data, Array.length_toList] at e2
      have e3 : x.data.size = 0 := e2.trans h0
      simp only [ordersW, List.mem_cons, List.not_mem_nil, or_false] at hx
      rcases hx with rfl | rfl | rfl | rfl | rfl | rfl <;> exact absurd e3 (by decide)
    have hk2 := HV2.out.1.more hsz
    rw [ho] at HO
    rw [ho, if_pos rfl] at HR
    have HS := hidLL (skip_q HV2.out.1 hk2)
    clear ho hsz
    generalize (tokAt L k1).text = K1 at *
    go_upto_region 5 with (first | (go_at_call 124; refine (HO.out _).mono ?_; rintro e w3 ⟨rfl, rfl⟩) | (go_at_call 35; refine HS.out.mono ?_; rintro e W3 ⟨rfl, hq, hb⟩; have hs3 := hb.size; have h3 := (hb.block g3 hl2 (fun e => by have := HL.out.r; omega)).trans HV2.out.2.2.1; have h0 := (hb.block w.heap.size (by omega) (fun e => by have := HL.out.r; omega)).trans HV2.out.2.2.2.1; have hN := HV2.out.2.2.2.2.step (P' := fun b => w.heap.size < b ∧ b ≠ g3) (fun b hb' hp => ⟨hb.block b hb' (fun e => by have := HL.out.r; omega), hp⟩); have HQ3 := hidLL (And.intro hq (And.intro (HV2.out.2.1.then hb HV2.out.2.1.size) (And.intro h3 (And.intro h0 hN)))); obtain ⟨z0, z1, z2, z3, zf⟩ := fourT h3; obtain ⟨q0, q1, q2, q3, qf⟩ := fourT h0; clear hb hq h3 h0 hN))
    have HS2 := hidLL (fun (V : World) (hb : Below W3.heap.size W3 V) => H1.out.at HQ3.out.1 (PR.bind_not (HR.out ▸ HNo.out)) hb)
    clear HV2 y0 yt y2 x0 y1 xf HO HS
    go_region_with (go_at_call 84; refine (HS2.out _ ?_).mono ?_; (· first | exact Below.refl _ _ | exact (Below.refl _ _).drew | exact belN (Below.refl _ _) _); rintro e W4 hE; rcases hr : sumQ L f (k1 + 1) n1 with _ | ⟨c, a⟩ | ⟨x2, k2, n2⟩; (· exact absurd hr (PR.bind_not (HR.out ▸ HNo.out))); (· rw [hr] at hE; obtain ⟨hb, ⟨p, rfl⟩⟩ := hE; obtain rfl : R = .bad c a := (by rw [HR.out, hr, PR.bind_bad]); exact (show _ ∧ _ from ⟨rfl, HQ3.out.2.1.then hb HQ3.out.2.1.size, ⟨_, rfl⟩⟩)); rw [hr] at hE; obtain ⟨hb, hq, v, rfl, t0, t1, j2, la, ln, lc, rfl, hN⟩ := hE; rw [hr, PR.bind_ok] at HR; have hs4 := hb.size; have h3 := (hb.block g3 (by omega) (fun e => by have := HL.out.r; omega)).trans HQ3.out.2.2.1; have h0 := (hb.block w.heap.size (by omega) (fun e => by have := HL.out.r; omega)).trans HQ3.out.2.2.2.1; have hN' := HQ3.out.2.2.2.2.step (P' := fun b => w.heap.size < b ∧ b ≠ g3) (fun b hb' hp => ⟨hb.block b hb' (fun e => by have := HL.out.r; omega), hp⟩); have HQ4 := hidLL (And.intro hq (And.intro (HQ3.out.2.1.then hb HQ3.out.2.1.size) (And.intro hN' hN))); obtain ⟨z0', z1', z2', z3', zf'⟩ := fourT h3; obtain ⟨q0', q1', q2', q3', qf'⟩ := fourT h0; have hl5 : w.heap.size < W4.heap.size := (by omega); clear hb hq h3 h0 hN hN' hr)
    all_goals (
      go_wp2
      refine bodyPost_ret (v := .agg #[.string K1, .string ⟨#[]⟩, .int .i64 0, .slice (some ⟨W4.heap.size, 0, none⟩) 2 2]) (by simp [results, Tryz.results154, go_sem, q0', q1', q2', q3', hl5]) rfl ?_
      have hF : Below w.heap.size W4 (((((W4.setCell ⟨w.heap.size, 0, none⟩ (.string K1)).setCell ⟨w.heap.size, 1, none⟩ (.string ⟨#[]⟩)).setCell ⟨w.heap.size, 2, none⟩ (.int .i64 0)).setCell ⟨w.heap.size, 3, none⟩ (.slice (some ⟨W4.heap.size, 0, none⟩) 2 2)).alloc (.cells #[.string s0, .string s1, .int .i64 i2, .slice ka kn kc, .string t0, .string t1, .int .i64 j2, .slice la ln lc] 25)) := (((((Below.refl w.heap.size W4).setCell (Nat.le_refl _) _).setCell (Nat.le_refl _) _).setCell (Nat.le_refl _) _).setCell (Nat.le_refl _) _).alloc (by simp; omega) _
      have h8 := eight_nv (alloc_at (W := (((W4.setCell ⟨w.heap.size, 0, none⟩ (.string K1)).setCell ⟨w.heap.size, 1, none⟩ (.string ⟨#[]⟩)).setCell ⟨w.heap.size, 2, none⟩ (.int .i64 0)).setCell ⟨w.heap.size, 3, none⟩ (.slice (some ⟨W4.heap.size, 0, none⟩) 2 2)) (g := W4.heap.size) (cs := #[.string s0, .string s1, .int .i64 i2, .slice ka kn kc, .string t0, .string t1, .int .i64 j2, .slice la ln lc]) (t := 25) (by simp))
      have hold : ∀ b, b < W4.heap.size → b ≠ w.heap.size → (((((W4.setCell ⟨w.heap.size, 0, none⟩ (.string K1)).setCell ⟨w.heap.size, 1, none⟩ (.string ⟨#[]⟩)).setCell ⟨w.heap.size, 2, none⟩ (.int .i64 0)).setCell ⟨w.heap.size, 3, none⟩ (.slice (some ⟨W4.heap.size, 0, none⟩) 2 2)).alloc (.cells #[.string s0, .string s1, .int .i64 i2, .slice ka kn kc, .string t0, .string t1, .int .i64 j2, .slice la ln lc] 25)).heap[b]? = W4.heap[b]? := fun b hb hne => by
        rw [((Below.refl _ _).alloc (Nat.le_refl _) _).block b (by simp; omega)]
        exact heap4 _ _ _ _ hne
      refine fin_gen HL.out HQ4.out.2.1 HQ4.out.1 hF ?_ HR.out
      exact NL.two (HQ4.out.2.2.1.step fun b hb hp => ⟨hold b hb (by omega), by omega⟩) (HQ4.out.2.2.2.step fun b hb hp => ⟨hold b hb (by omega), by omega⟩) (by omega) h8.1 h8.2 K1 ⟨#[]⟩ 0)
end Go.Proofs.YtehbinobohjadaaGreatDoor
