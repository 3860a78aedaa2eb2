/-
  The program's reader, plain: how deep it is stays, whatever is read.
-/
import Derived.Test.YtehbinobohjadaaGreatDoorBk00
import Derived.Test.YtehbinobohjadaaGreatDoorBk05
import Derived.Test.YtehbinobohjadaaGreatDoorBk17
import Derived.Deep.RegionLaw
import Derived.Deep.DeepCutAuto
namespace Go.Proofs.YtehbinobohjadaaGreatDoor
open Go.RowKit Go.Extern.Stop Go.Stop Go.Extern

theorem needQ_n {L : List Tok} {s : ByteArray} {k n k' n' : Nat} {x : Unit} (h : needQ L s k n = .ok x k' n') : n' = n := by
  unfold needQ at h
  split at h
  · injection h with _ _ h; exact h.symm
  · cases h
theorem nameQ_n {L : List Tok} {k n k' n' : Nat} {x : ByteArray} (h : nameQ L k n = .ok x k' n') : n' = n := by
  unfold nameQ at h
  split at h
  · injection h with _ _ h; exact h.symm
  · cases h
theorem numberQ_n {L : List Tok} {k n k' n' : Nat} {x : Nat} (h : numberQ L k n = .ok x k' n') : n' = n := by
  unfold numberQ at h
  split at h
  · injection h with _ _ h; exact h.symm
  · cases h
theorem rateQ_n {L : List Tok} {k n k' n' : Nat} {x : Nat} (h : rateQ L k n = .ok x k' n') : n' = n := by
  unfold rateQ at h
  obtain ⟨_, _, _, h1, h⟩ := PR.bind_eq h
  obtain ⟨_, _, _, h2, h⟩ := PR.bind_eq h
  split at h
  · injection h with _ _ h; rw [← h, needQ_n h2, numberQ_n h1]
  · cases h
theorem enterQ_n {L : List Tok} {k n k' n' : Nat} {x : ByteArray} (h : enterQ L k n = .ok x k' n') : n' = n + 1 := by
  unfold enterQ at h
  split at h
  · cases h
  · injection h with _ _ h; exact h.symm
theorem leaveQ_n {L : List Tok} {s : ByteArray} {k n k' n' : Nat} {x : Unit} (h : leaveQ L s k n = .ok x k' n') : n' = n - 1 := by
  unfold leaveQ at h
  obtain ⟨_, _, _, h1, h⟩ := PR.bind_eq h
  injection h with _ _ h; rw [← h, needQ_n h1]
theorem totalQ_n {L : List Tok} {k n k' n' : Nat} {x : Nd} (h : totalQ L k n = .ok x k' n') : n' = n := by
  unfold totalQ at h
  obtain ⟨_, _, _, h1, h⟩ := PR.bind_eq h
  obtain ⟨_, _, _, h2, h⟩ := PR.bind_eq h
  obtain ⟨_, _, _, h3, h⟩ := PR.bind_eq h
  injection h with _ _ h; rw [← h, nameQ_n h3, needQ_n h2, nameQ_n h1]
structure SameNQ (L : List Tok) (f : Nat) : Prop where
  ei : ∀ k n x k' n', eitherQ L f k n = .ok x k' n' → n' = n
  ol : ∀ y k n x k' n', orLoopQ L f y k n = .ok x k' n' → n' = n
  bo : ∀ k n x k' n', bothQ L f k n = .ok x k' n' → n' = n
  al : ∀ y k n x k' n', andLoopQ L f y k n = .ok x k' n' → n' = n
  un : ∀ k n x k' n', unlessQ L f k n = .ok x k' n' → n' = n
  te : ∀ k n x k' n', testQ L f k n = .ok x k' n' → n' = n
  ot : ∀ k n x k' n', othersQ L f k n = .ok x k' n' → n' = n
  co : ∀ k n x k' n', compQ L f k n = .ok x k' n' → n' = n
  su : ∀ k n x k' n', sumQ L f k n = .ok x k' n' → n' = n
  sl : ∀ y k n x k' n', sumLoopQ L f y k n = .ok x k' n' → n' = n
  pa : ∀ k n x k' n', partQ L f k n = .ok x k' n' → n' = n
  pl : ∀ y k n x k' n', partLoopQ L f y k n = .ok x k' n' → n' = n
  fa : ∀ k n x k' n', factorQ L f k n = .ok x k' n' → n' = n
  gr : ∀ k n x k' n', greatQ L f k n = .ok x k' n' → n' = n
theorem sameNQ (L : List Tok) : ∀ f, SameNQ L f
  | 0 => by
    constructor <;> intros <;> rename_i h <;> simp only [eitherQ, orLoopQ, bothQ, andLoopQ, unlessQ, testQ, othersQ, compQ, sumQ, sumLoopQ, partQ, partLoopQ, factorQ, greatQ] at h <;> cases h
  | f + 1 => by
    have ih := sameNQ L f
    constructor
    · intro k n x k' n' h
      rw [eitherQ] at h
      obtain ⟨_, _, _, h1, h2⟩ := PR.bind_eq h
      rw [ih.ol _ _ _ _ _ _ h2, ih.bo _ _ _ _ _ h1]
    · intro y k n x k' n' h
      rw [orLoopQ] at h
      split at h
      · obtain ⟨_, _, _, h3, h4⟩ := PR.bind_eq h
        rw [ih.ol _ _ _ _ _ _ h4, ih.bo _ _ _ _ _ h3]
      · injection h with _ _ h; exact h.symm
    · intro k n x k' n' h
      rw [bothQ] at h
      obtain ⟨_, _, _, h1, h2⟩ := PR.bind_eq h
      rw [ih.al _ _ _ _ _ _ h2, ih.un _ _ _ _ _ h1]
    · intro y k n x k' n' h
      rw [andLoopQ] at h
      split at h
      · obtain ⟨_, _, _, h3, h4⟩ := PR.bind_eq h
        rw [ih.al _ _ _ _ _ _ h4, ih.un _ _ _ _ _ h3]
      · injection h with _ _ h; exact h.symm
    · intro k n x k' n' h
      rw [unlessQ] at h
      split at h
      · obtain ⟨_, _, _, h1, h⟩ := PR.bind_eq h
        obtain ⟨_, _, _, h2, h⟩ := PR.bind_eq h
        injection h with _ _ h
        have := enterQ_n h1; have := ih.un _ _ _ _ _ h2
        omega
      · exact ih.te _ _ _ _ _ h
    · intro k n x k' n' h
      rw [testQ] at h
      split at h
      · obtain ⟨_, _, _, h1, h⟩ := PR.bind_eq h
        obtain ⟨_, _, _, h2, h⟩ := PR.bind_eq h
        obtain ⟨_, _, _, h3, h⟩ := PR.bind_eq h
        injection h with _ _ h
        have := enterQ_n h1; have := ih.ei _ _ _ _ _ h2; have := leaveQ_n h3
        omega
      · split at h
        · exact ih.ot _ _ _ _ _ h
        · split at h
          · obtain ⟨_, _, _, h1, h⟩ := PR.bind_eq h
            injection h with _ _ h; rw [← h, nameQ_n h1]
          · exact ih.co _ _ _ _ _ h
    · intro k n x k' n' h
      rw [othersQ] at h
      obtain ⟨_, _, _, h1, h⟩ := PR.bind_eq h
      obtain ⟨_, _, _, h2, h⟩ := PR.bind_eq h
      obtain ⟨_, _, _, h3, h⟩ := PR.bind_eq h
      obtain ⟨_, _, _, h4, h⟩ := PR.bind_eq h
      obtain ⟨_, _, _, h5, h⟩ := PR.bind_eq h
      injection h with _ _ h
      have := enterQ_n h1; have := nameQ_n h2; have := needQ_n h3; have := ih.ei _ _ _ _ _ h4; have := leaveQ_n h5
      omega
    · intro k n x k' n' h
      rw [compQ] at h
      obtain ⟨_, _, _, h1, h⟩ := PR.bind_eq h
      split at h
      · obtain ⟨_, _, _, h2, h⟩ := PR.bind_eq h
        injection h with _ _ h
        rw [← h, ih.su _ _ _ _ _ h2, ih.su _ _ _ _ _ h1]
      · cases h
    · intro k n x k' n' h
      rw [sumQ] at h
      obtain ⟨_, _, _, h1, h2⟩ := PR.bind_eq h
      rw [ih.sl _ _ _ _ _ _ h2, ih.pa _ _ _ _ _ h1]
    · intro y k n x k' n' h
      rw [sumLoopQ] at h
      split at h
      · obtain ⟨_, _, _, h3, h4⟩ := PR.bind_eq h
        rw [ih.sl _ _ _ _ _ _ h4, ih.pa _ _ _ _ _ h3]
      · injection h with _ _ h; exact h.symm
    · intro k n x k' n' h
      rw [partQ] at h
      obtain ⟨_, _, _, h1, h2⟩ := PR.bind_eq h
      rw [ih.pl _ _ _ _ _ _ h2, ih.fa _ _ _ _ _ h1]
    · intro y k n x k' n' h
      rw [partLoopQ] at h
      split at h
      · obtain ⟨_, _, _, h3, h4⟩ := PR.bind_eq h
        rw [ih.pl _ _ _ _ _ _ h4, rateQ_n h3]
      · injection h with _ _ h; exact h.symm
    · intro k n x k' n' h
      rw [factorQ] at h
      split at h
      · obtain ⟨_, _, _, h1, h⟩ := PR.bind_eq h
        injection h with _ _ h; rw [← h, numberQ_n h1]
      · split at h
        · obtain ⟨_, _, _, h1, h⟩ := PR.bind_eq h
          injection h with _ _ h; rw [← h, nameQ_n h1]
        · split at h
          · exact totalQ_n h
          · split at h
            · exact ih.gr _ _ _ _ _ h
            · split at h
              · obtain ⟨_, _, _, h1, h⟩ := PR.bind_eq h
                obtain ⟨_, _, _, h2, h⟩ := PR.bind_eq h
                obtain ⟨_, _, _, h3, h⟩ := PR.bind_eq h
                injection h with _ _ h
                have := enterQ_n h1; have := ih.su _ _ _ _ _ h2; have := leaveQ_n h3
                omega
              · obtain ⟨_, _, _, h1, h⟩ := PR.bind_eq h
                injection h with _ _ h; rw [← h, nameQ_n h1]
    · intro k n x k' n' h
      rw [greatQ] at h
      obtain ⟨_, _, _, h1, h⟩ := PR.bind_eq h
      obtain ⟨_, _, _, h2, h⟩ := PR.bind_eq h
      obtain ⟨_, _, _, h3, h⟩ := PR.bind_eq h
      obtain ⟨_, _, _, h4, h⟩ := PR.bind_eq h
      obtain ⟨_, _, _, h5, h⟩ := PR.bind_eq h
      obtain ⟨_, _, _, h6, h⟩ := PR.bind_eq h
      injection h with _ _ h
      have := enterQ_n h1; have := needQ_n h2; have := ih.su _ _ _ _ _ h3; have := needQ_n h4; have := ih.su _ _ _ _ _ h5; have := leaveQ_n h6
      omega
end Go.Proofs.YtehbinobohjadaaGreatDoor
namespace Go.Proofs.YtehbinobohjadaaGreatDoor
open Go.RowKit Go.Extern.Stop Go.Stop Go.Extern
theorem enter_c {L : List Tok} {rp tb : Nat} : Hid (∀ (W : World) (k n : Nat), QS L rp tb W k n → k + 1 < L.length → Calls Tryz.prog 141 #[.pointer (some ⟨rp, 0, none⟩)] W fun e w' => QEnd L rp tb W (enterQ L k n) (fun x v _ => v = .string x) e w') := fun _ _ _ hq hk => enter_q hq hk
theorem leave_c {L : List Tok} {rp tb : Nat} (s : ByteArray) (hs : s.size ≠ 0) : Hid (∀ (W : World) (k n : Nat), QS L rp tb W k n → 1 ≤ n → Calls Tryz.prog 151 #[.pointer (some ⟨rp, 0, none⟩), .string s] W fun e w' => QEnd L rp tb W (leaveQ L s k n) (fun _ v _ => v = .tuple #[]) e w') := fun _ _ _ hq hn => leave_q hq s hs hn
theorem leaveQ_not {L : List Tok} {s : ByteArray} {k n : Nat} : leaveQ L s k n ≠ .out := by
  unfold leaveQ
  cases h : needQ L s k n with
  | out => exact absurd h needQ_not
  | bad c a => intro h; cases h
  | ok x k n => intro h; cases h
set_option maxHeartbeats 4000000 in
theorem qunless_rule {L : List Tok} {rp tb f : Nat} (h1 : QRule L rp tb 119 (unlessQ L f)) (h2 : QRule L rp tb 140 (testQ L f)) : QRule L rp tb 119 (unlessQ L (f + 1)) := by
  intro w k n h hn
  have lo := h.lows
  obtain ⟨R, hR⟩ : ∃ R, R = unlessQ L (f + 1) k n := ⟨_, rfl⟩
  rw [← hR] at hn ⊢
  rw [unlessQ] at hR
  obtain ⟨W1, hW1⟩ : ∃ W1, W1 = w.alloc (.cells #[.string ⟨#[]⟩, .string ⟨#[]⟩, .int .i64 0, .slice none 0 0] 25) := ⟨_, rfl⟩
  have hst : StartQ w W1 := by rw [hW1]; exact StartQ.new w
  have HX := hidLL hW1
  have HNo := hidLL hn
  have HL := hidLL lo
  have HQ1 := hidLL (And.intro (h.below hst.bel) (And.intro (Below.x hst.bel rp (Nat.le_refl _)) (And.intro hst.blk True.intro)))
  have hs1 := hst.lt
  have hrp := lo.r
  have hq1 := h.below hst.bel
  clear h hW1 hst hn lo
  have HI := hidLL (is_q hq1 ⟨#[110, 111, 116]⟩)
  have H1 := hidLL h1
  have H2 := hidLL h2
  unfold wNot at hR
  cases hi : isQ L ⟨#[110, 111, 116]⟩ k with
  | false =>
    rw [hi, if_neg (by simp)] at hR
    rw [hi] at HI
    have HR := hidLL hR
    clear hi hq1 hR h1 h2
    go_enter Tryz.func119, Tryz.ntmps119
    go_wp2_with (first | (rw [← HX.out]; go_at_call 118; refine HI.out.mono ?_; rintro e w' ⟨rfl, rfl⟩) | (go_at_call 140; refine (H2.out _ _ _ HQ1.out.1 (HR.out ▸ HNo.out)).mono ?_; rintro e W2 hE; rcases hr : testQ L f k n with _ | ⟨c, a⟩ | ⟨x1, k1, n1⟩; (· exact absurd hr (HR.out ▸ HNo.out)); (· rw [hr] at hE; obtain ⟨hb, ⟨p, rfl⟩⟩ := hE; obtain rfl : R = .bad c a := (by rw [HR.out, hr]); exact (show _ ∧ _ from ⟨rfl, HQ1.out.2.1.then hb HQ1.out.2.1.size, ⟨_, rfl⟩⟩)); rw [hr] at hE HR; obtain ⟨hb, hq, v, rfl, s0, s1, i2, ka, kn, kc, rfl, hN⟩ := hE; obtain ⟨q0, q1, q2, q3, qf⟩ := fourT ((hb.block _ hs1 (by omega)).trans HQ1.out.2.2.1); have HQ2 := hidLL (And.intro hq (And.intro (HQ1.out.2.1.then hb HQ1.out.2.1.size) hN)); clear hb hq hr hN))
    refine bodyPost_ret (v := .agg #[.string s0, .string s1, .int .i64 i2, .slice ka kn kc]) (by simp [results, Tryz.results119, go_sem, q0, q1, q2, q3]) rfl ?_
    obtain rfl : R = .ok x1 k1 n1 := HR.out
    exact fin_q HL.out HQ2.out.2.1 HQ2.out.1 (HQ2.out.2.2.step fun b hb hp => ⟨rfl, by omega⟩)
  | true =>
    have hmore := hq1.more (isQ_size hi (by decide))
    rw [hi, if_pos rfl] at hR
    rw [hi] at HI
    have HR := hidLL hR
    have HE := enter_c (L := L) (rp := rp) (tb := tb)
    clear hi hq1 hR h1 h2
    go_enter Tryz.func119, Tryz.ntmps119
    go_upto_region 5 with (first | (rw [← HX.out]; go_at_call 118; refine HI.out.mono ?_; rintro e w' ⟨rfl, rfl⟩) | (go_at_call 141; refine (HE.out _ _ _ HQ1.out.1 hmore).mono ?_; rintro e W2 hE; rcases hr : enterQ L k n with _ | ⟨c, a⟩ | ⟨x1, k1, n1⟩; (· exact absurd hr enterQ_not); (· rw [hr] at hE; obtain ⟨hb, ⟨p, rfl⟩⟩ := hE; obtain rfl : R = .bad c a := (by rw [HR.out, hr, PR.bind_bad]); exact (show _ ∧ _ from ⟨rfl, HQ1.out.2.1.then hb HQ1.out.2.1.size, ⟨_, rfl⟩⟩)); rw [hr] at hE; obtain ⟨hb, hq, v, rfl, rfl⟩ := hE; rw [hr, PR.bind_ok] at HR; have hs2 := hb.size; have HW2 := hidLL (And.intro hq (And.intro (HQ1.out.2.1.then hb HQ1.out.2.1.size) (And.intro ((hb.block _ (hs1) (by omega)).trans HQ1.out.2.2.1) True.intro))); have EW2 := hidLL hr; clear hb hq hr) | (go_at_call 119; refine (H1.out _ _ _ HW2.out.1 (PR.bind_not (HR.out ▸ HNo.out))).mono ?_; rintro e W3 hE; rcases hr : unlessQ L f k1 n1 with _ | ⟨c, a⟩ | ⟨x2, k2, n2⟩; (· exact absurd hr (PR.bind_not (HR.out ▸ HNo.out))); (· rw [hr] at hE; obtain ⟨hb, ⟨p, rfl⟩⟩ := hE; obtain rfl : R = .bad c a := (by rw [HR.out, hr, PR.bind_bad]); exact (show _ ∧ _ from ⟨rfl, HW2.out.2.1.then hb HW2.out.2.1.size, ⟨_, rfl⟩⟩)); rw [hr] at hE; obtain ⟨hb, hq, v, rfl, s0, s1, s2, sa, sn, sc, rfl, hN⟩ := hE; rw [hr, PR.bind_ok] at HR; have hs3 := hb.size; have HW3 := hidLL (And.intro hq (And.intro (HW2.out.2.1.then hb HW2.out.2.1.size) (And.intro hN (And.intro ((hb.block _ (by omega) (by omega)).trans HW2.out.2.2.1) True.intro)))); have EW3 := hidLL hr; clear hb hq hr hN))
    obtain ⟨V3, hV3⟩ : ∃ V3, V3 = (W3.alloc (.cells #[.string s0, .string s1, .int .i64 s2, .slice sa sn sc] 25)).alloc (.cells #[.string ⟨#[110, 111, 116]⟩, .string ⟨#[]⟩, .int .i64 0, .slice (some ⟨W3.heap.size, 0, none⟩) 1 1] 25) := ⟨_, rfl⟩
    rw [← hV3]
    have hb3 : Below W3.heap.size W3 V3 := by rw [hV3]; exact two_below _ _ _
    have hn3 : V3.heap[W3.heap.size + 1]? = some (.cells #[.string ⟨#[110, 111, 116]⟩, .string ⟨#[]⟩, .int .i64 0, .slice (some ⟨W3.heap.size, 0, none⟩) 1 1] 25 (0, 0)) := by rw [hV3]; exact alloc_at (by simp)
    have hr3 : V3.heap[W3.heap.size]? = some (.cells #[.string s0, .string s1, .int .i64 s2, .slice sa sn sc] 25 (0, 0)) := by rw [hV3, ((Below.refl _ _).alloc (Nat.le_refl _) _).block _ (by simp)]; exact alloc_at rfl
    have hz3 : V3.heap.size = W3.heap.size + 2 := by rw [hV3]; simp
    have hn2 : 1 ≤ n2 := by rw [(sameNQ L f).un _ _ _ _ _ EW3.out, enterQ_n EW2.out]; omega
    have hq3 := HW3.out.1.below hb3
    have h03 := (hb3.block w.heap.size (by omega)).trans HW3.out.2.2.2.1
    obtain ⟨m, c, hm, hc, hblk⟩ := hq3.blk
    have x1' : V3.cell? ⟨rp, 1, none⟩ = some (.int .i64 n2) := by simp [World.cell?, hblk]
    have xf' : ∀ i, V3.frozen? ⟨rp, i, none⟩ = false := by simp [World.frozen?, hblk]
    obtain ⟨z0, z1, z2, z3, zf⟩ := fourT hn3
    obtain ⟨q0, q1, q2, q3, qf⟩ := fourT h03
    have hne1 : ¬ W3.heap.size + 1 = rp := by omega
    have hne2 : ¬ w.heap.size = rp := by omega
    have hne3 : ¬ w.heap.size = W3.heap.size + 1 := by omega
    have HV := hidLL (And.intro (hq3.dec hn2) (And.intro hn3 (And.intro hr3 (And.intro hb3 (HW3.out.2.1.then (Below.x hb3 rp (Nat.le_refl _)) HW3.out.2.1.size)))))
    have hw0 : w.heap.size < W3.heap.size := by omega
    clear hV3 hb3 hn3 hr3 hq3 h03 hblk
    go_wp2
    refine bodyPost_ret (v := .agg #[.string ⟨#[110, 111, 116]⟩, .string ⟨#[]⟩, .int .i64 0, .slice (some ⟨W3.heap.size, 0, none⟩) 1 1]) (by simp [results, Tryz.results119, go_sem, q0, q1, q2, q3]) rfl ?_
    obtain rfl := HR.out
    have hset : ∀ b, b ≠ rp → (V3.setCell ⟨rp, 1, none⟩ (.int .i64 (wrap64 ((n2 : Int) - 1)))).heap[b]? = V3.heap[b]? := fun b hb => Below.heap_setCell _ _ _ _ hb
    refine fin_q HL.out (HV.out.2.2.2.2.then HV.out.1.2 (by omega)) HV.out.1.1 ?_
    exact NL.one (HW3.out.2.2.1.step fun b hb hp => ⟨(hset b (by omega)).trans (HV.out.2.2.2.1.block b hb), by omega⟩) (by omega) (four_nv ((hset _ (by omega)).trans HV.out.2.2.1)) ⟨#[110, 111, 116]⟩ ⟨#[]⟩ 0
end Go.Proofs.YtehbinobohjadaaGreatDoor
namespace Go.Proofs.YtehbinobohjadaaGreatDoor
open Go.RowKit Go.Extern.Stop Go.Stop Go.Extern
set_option maxHeartbeats 4000000 in
theorem others_rule {L : List Tok} {rp tb f : Nat} (h1 : QRule L rp tb 40 (eitherQ L f)) : ∀ (w : World) (k n : Nat), QS L rp tb w k n → k + 1 < L.length → othersQ L (f + 1) k n ≠ .out → Calls Tryz.prog 152 #[.pointer (some ⟨rp, 0, none⟩)] w fun e w' => QEnd L rp tb w (othersQ L (f + 1) k n) (fun x v w' => NodeV w.heap.size x v w') e w' := by
  intro w k n h hmore hn
  have lo := h.lows
  obtain ⟨R, hR⟩ : ∃ R, R = othersQ L (f + 1) k n := ⟨_, rfl⟩
  rw [← hR] at hn ⊢
  rw [othersQ] at hR
  obtain ⟨W1, hW1⟩ : ∃ W1, W1 = w.alloc (.cells #[.string ⟨#[]⟩, .string ⟨#[]⟩, .int .i64 0, .slice none 0 0] 25) := ⟨_, rfl⟩
  have hst : StartQ w W1 := by rw [hW1]; exact StartQ.new w
  have HX := hidLL hW1
  have HNo := hidLL hn
  have HL := hidLL lo
  have HQ1 := hidLL (And.intro (h.below hst.bel) (And.intro (Below.x hst.bel rp (Nat.le_refl _)) (And.intro hst.blk True.intro)))
  have hs1 := hst.lt
  have hrp := lo.r
  have hq1 := h.below hst.bel
  clear h hW1 hst hn lo
  have H1 := hidLL h1
  have HR := hidLL hR
  have HE := enter_c (L := L) (rp := rp) (tb := tb)
  have HN := name_c (L := L) (rp := rp) (tb := tb)
  have HD := need_c (L := L) (rp := rp) (tb := tb) ⟨#[40]⟩ (by decide)
  have HLv := leave_c (L := L) (rp := rp) (tb := tb) ⟨#[41]⟩ (by decide)
  unfold sg at HR
  clear hq1 hR h1
  go_enter Tryz.func152, Tryz.ntmps152
  go_upto_region 2 with (rw [← HX.out]; go_at_call 141; refine (HE.out _ _ _ HQ1.out.1 hmore).mono ?_; rintro e W2 hE; rcases hr : enterQ L k n with _ | ⟨c, a⟩ | ⟨x1, k1, n1⟩; (· exact absurd hr enterQ_not); (· rw [hr] at hE; obtain ⟨hb, ⟨p, rfl⟩⟩ := hE; obtain rfl : R = .bad c a := (by rw [HR.out, hr, PR.bind_bad]); exact (show _ ∧ _ from ⟨rfl, HQ1.out.2.1.then hb HQ1.out.2.1.size, ⟨_, rfl⟩⟩)); rw [hr] at hE; obtain ⟨hb, hq, v, rfl, rfl⟩ := hE; rw [hr, PR.bind_ok] at HR; have hs2 := hb.size; have HW2 := hidLL (And.intro hq (And.intro (HQ1.out.2.1.then hb HQ1.out.2.1.size) (And.intro ((hb.block _ (hs1) (by omega)).trans HQ1.out.2.2.1) True.intro))); have EW2 := hidLL hr; clear hb hq hr)
  obtain ⟨V2, hV2⟩ : ∃ V2, V2 = W2.alloc (.cells #[.string x1, .string ⟨#[]⟩, .int .i64 0, .slice none 0 0] 25) := ⟨_, rfl⟩
  rw [← hV2]
  have hb2 : Below W2.heap.size W2 V2 := by rw [hV2]; exact (Below.refl _ _).alloc (Nat.le_refl _) _
  have hn2 : V2.heap[W2.heap.size]? = some (.cells #[.string x1, .string ⟨#[]⟩, .int .i64 0, .slice none 0 0] 25 (0, 0)) := by rw [hV2]; exact heap_alloc_new _ _
  have hl2 : W2.heap.size < V2.heap.size := by rw [hV2]; simp
  have HV2 := hidLL (And.intro (HW2.out.1.below hb2) (And.intro (HW2.out.2.1.then (Below.x hb2 rp (Nat.le_refl _)) HW2.out.2.1.size) (And.intro hn2 (And.intro ((hb2.block _ (by omega)).trans HW2.out.2.2.1) True.intro))))
  generalize W2.heap.size = g3 at *
  clear hV2 hb2 hn2 HW2
  go_upto_region 3 with (go_at_call 36; refine (HN.out _ _ _ HV2.out.1).mono ?_; rintro e W3 hE; rcases hr : nameQ L k1 n1 with _ | ⟨c, a⟩ | ⟨x2, k2, n2⟩; (· exact absurd hr nameQ_not); (· rw [hr] at hE; obtain ⟨hb, ⟨p, rfl⟩⟩ := hE; obtain rfl : R = .bad c a := (by rw [HR.out, hr, PR.bind_bad]); exact (show _ ∧ _ from ⟨rfl, HV2.out.2.1.then hb HV2.out.2.1.size, ⟨_, rfl⟩⟩)); rw [hr] at hE; obtain ⟨hb, hq, v, rfl, rfl⟩ := hE; rw [hr, PR.bind_ok] at HR; have hs3 := hb.size; have HW3 := hidLL (And.intro hq (And.intro (HV2.out.2.1.then hb HV2.out.2.1.size) (And.intro ((hb.block _ (hl2) (by omega)).trans HV2.out.2.2.1) (And.intro ((hb.block _ (by omega) (by omega)).trans HV2.out.2.2.2.1) True.intro)))); have EW3 := hidLL hr; obtain ⟨z0, z1, z2, z3, zf⟩ := fourT HW3.out.2.2.1; clear hb hq hr)
  obtain ⟨V3, hV3⟩ : ∃ V3, V3 = W3.setCell ⟨g3, 1, none⟩ (.string x2) := ⟨_, rfl⟩
  rw [← hV3]
  have hb3 : ∀ b, b ≠ g3 → V3.heap[b]? = W3.heap[b]? := fun b hb => by rw [hV3]; exact Below.heap_setCell _ _ _ _ hb
  have hn3 : V3.heap[g3]? = some (.cells #[.string x1, .string x2, .int .i64 0, .slice none 0 0] 25 (0, 0)) := by rw [hV3, heap_set HW3.out.2.2.1 _]; simp
  have hz3 : V3.heap.size = W3.heap.size := by rw [hV3]; simp
  have hB3 : Below w.heap.size W3 V3 := by rw [hV3]; exact (Below.refl _ _).setCell (by show w.heap.size ≤ g3; omega) _
  have HV3 := hidLL (And.intro (HW3.out.1.keep HL.out fun b hb => hb3 b (by omega)) (And.intro (HW3.out.2.1.then (Below.x hB3 rp (Nat.le_refl _)) (Nat.le_refl _)) (And.intro hn3 (And.intro ((hb3 _ (by omega)).trans HW3.out.2.2.2.1) True.intro))))
  clear hV3 hb3 hn3 hB3 HW3 HV2
  go_upto_region 4 with (go_at_call 39; refine (HD.out _ _ _ HV3.out.1).mono ?_; rintro e W4 hE; rcases hr : needQ L ⟨#[40]⟩ k2 n2 with _ | ⟨c, a⟩ | ⟨x3, k3, n3⟩; (· exact absurd hr needQ_not); (· rw [hr] at hE; obtain ⟨hb, ⟨p, rfl⟩⟩ := hE; obtain rfl : R = .bad c a := (by rw [HR.out, hr, PR.bind_bad]); exact (show _ ∧ _ from ⟨rfl, HV3.out.2.1.then hb HV3.out.2.1.size, ⟨_, rfl⟩⟩)); rw [hr] at hE; obtain ⟨hb, hq, v, rfl, rfl⟩ := hE; rw [hr, PR.bind_ok] at HR; have hs4 := hb.size; have HW4 := hidLL (And.intro hq (And.intro (HV3.out.2.1.then hb HV3.out.2.1.size) (And.intro ((hb.block _ (by omega) (by omega)).trans HV3.out.2.2.1) (And.intro ((hb.block _ (by omega) (by omega)).trans HV3.out.2.2.2.1) True.intro)))); have EW4 := hidLL hr; clear hb hq hr)
  clear HV3
  go_upto_region 5 with (go_at_call 40; refine (H1.out _ _ _ HW4.out.1 (PR.bind_not (HR.out ▸ HNo.out))).mono ?_; rintro e W5 hE; rcases hr : eitherQ L f k3 n3 with _ | ⟨c, a⟩ | ⟨x4, k4, n4⟩; (· exact absurd hr (PR.bind_not (HR.out ▸ HNo.out))); (· rw [hr] at hE; obtain ⟨hb, ⟨p, rfl⟩⟩ := hE; obtain rfl : R = .bad c a := (by rw [HR.out, hr, PR.bind_bad]); exact (show _ ∧ _ from ⟨rfl, HW4.out.2.1.then hb HW4.out.2.1.size, ⟨_, rfl⟩⟩)); rw [hr] at hE; obtain ⟨hb, hq, v, rfl, s0, s1, s2, sa, sn, sc, rfl, hN⟩ := hE; rw [hr, PR.bind_ok] at HR; have hs5 := hb.size; have HW5 := hidLL (And.intro hq (And.intro (HW4.out.2.1.then hb HW4.out.2.1.size) (And.intro hN (And.intro ((hb.block _ (by omega) (by omega)).trans HW4.out.2.2.1) (And.intro ((hb.block _ (by omega) (by omega)).trans HW4.out.2.2.2.1) True.intro))))); have EW5 := hidLL hr; obtain ⟨z0, z1, z2, z3, zf⟩ := fourT HW5.out.2.2.2.1; have hl5 : g3 < W5.heap.size := (by omega); clear hb hq hr hN)
  obtain ⟨V5, hV5⟩ : ∃ V5, V5 = (W5.setCell ⟨g3, 3, none⟩ (.slice (some ⟨W5.heap.size, 0, none⟩) 1 1)).alloc (.cells #[.string s0, .string s1, .int .i64 s2, .slice sa sn sc] 25) := ⟨_, rfl⟩
  rw [← hV5]
  have hb5 : ∀ b, b < W5.heap.size → b ≠ g3 → V5.heap[b]? = W5.heap[b]? := fun b hb hne => by rw [hV5, ((Below.refl _ _).alloc (Nat.le_refl _) _).block b (by simp; exact hb)]; exact Below.heap_setCell _ _ _ _ hne
  have hn5 : V5.heap[g3]? = some (.cells #[.string x1, .string x2, .int .i64 0, .slice (some ⟨W5.heap.size, 0, none⟩) 1 1] 25 (0, 0)) := by rw [hV5, ((Below.refl _ _).alloc (Nat.le_refl _) _).block g3 (by simp; omega), heap_set HW5.out.2.2.2.1 _]; simp
  have hr5 : V5.heap[W5.heap.size]? = some (.cells #[.string s0, .string s1, .int .i64 s2, .slice sa sn sc] 25 (0, 0)) := by rw [hV5]; exact alloc_at (by simp)
  have hz5 : V5.heap.size = W5.heap.size + 1 := by rw [hV5]; simp
  have hB5 : Below w.heap.size W5 V5 := by rw [hV5]; exact ((Below.refl _ _).setCell (by show w.heap.size ≤ g3; omega) _).alloc (by simp; omega) _
  have hNN : NL V5 (fun b => w.heap.size < b) (nv (.string x1) (.string x2) (.int .i64 0) (.slice (some ⟨W5.heap.size, 0, none⟩) 1 1)) (.mk x1 x2 0 [x4]) := NL.one (HW5.out.2.2.1.step fun b hb hp => ⟨hb5 b hb (by omega), by omega⟩) (by omega) (four_nv hr5) x1 x2 0
  have HV5 := hidLL (And.intro (HW5.out.1.keep HL.out fun b hb => hB5.block b hb) (And.intro (HW5.out.2.1.then (Below.x hB5 rp (Nat.le_refl _)) (Nat.le_refl _)) (And.intro hn5 (And.intro ((hb5 _ (by omega) (by omega)).trans HW5.out.2.2.2.2.1) hNN))))
  have hn4 : 1 ≤ n4 := by rw [(sameNQ L f).ei _ _ _ _ _ EW5.out, needQ_n EW4.out, nameQ_n EW3.out, enterQ_n EW2.out]; omega
  clear hV5 hb5 hn5 hr5 hB5 hNN HW5
  go_wp2_with (go_at_call 151; refine (HLv.out _ _ _ HV5.out.1 hn4).mono ?_; rintro e W6 hE; rcases hr : leaveQ L ⟨#[41]⟩ k4 n4 with _ | ⟨c, a⟩ | ⟨x5, k5, n5⟩; (· exact absurd hr leaveQ_not); (· rw [hr] at hE; obtain ⟨hb, ⟨p, rfl⟩⟩ := hE; obtain rfl : R = .bad c a := (by rw [HR.out, hr, PR.bind_bad]); exact (show _ ∧ _ from ⟨rfl, HV5.out.2.1.then hb HV5.out.2.1.size, ⟨_, rfl⟩⟩)); rw [hr] at hE; obtain ⟨hb, hq, v, rfl, rfl⟩ := hE; rw [hr, PR.bind_ok] at HR; have hs6 := hb.size; have HW6 := hidLL (And.intro hq (And.intro (HV5.out.2.1.then hb HV5.out.2.1.size) (And.intro ((hb.block _ (by omega) (by omega)).trans HV5.out.2.2.1) (And.intro ((hb.block _ (by omega) (by omega)).trans HV5.out.2.2.2.1) True.intro)))); have EW6 := hidLL hr; obtain ⟨z0, z1, z2, z3, zf⟩ := fourT HW6.out.2.2.1; obtain ⟨q0, q1, q2, q3, qf⟩ := fourT HW6.out.2.2.2.1; have HN6 := hidLL (HV5.out.2.2.2.2.step (w' := W6) (P' := fun b => w.heap.size < b) fun b hb' hp => ⟨hb.block b hb' (by omega), hp⟩); clear hb hq hr)
  obtain ⟨q0, q1, q2, q3, qf⟩ := fourT HW6.out.2.2.2.1
  refine bodyPost_ret (v := .agg #[.string x1, .string x2, .int .i64 0, .slice (some ⟨W5.heap.size, 0, none⟩) 1 1]) (by simp [results, Tryz.results152, go_sem, q0, q1, q2, q3]) rfl ?_
  obtain rfl := HR.out
  exact fin_q HL.out HW6.out.2.1 HW6.out.1 HN6.out
end Go.Proofs.YtehbinobohjadaaGreatDoor
namespace Go.Proofs.YtehbinobohjadaaGreatDoor
open Go.RowKit Go.Extern.Stop Go.Stop Go.Extern
set_option maxHeartbeats 4000000 in
theorem qtest_rule {L : List Tok} {rp tb f : Nat} (h1 : QRule L rp tb 40 (eitherQ L f)) (h2 : ∀ (w : World) (k n : Nat), QS L rp tb w k n → k + 1 < L.length → othersQ L f k n ≠ .out → Calls Tryz.prog 152 #[.pointer (some ⟨rp, 0, none⟩)] w fun e w' => QEnd L rp tb w (othersQ L f k n) (fun x v w' => NodeV w.heap.size x v w') e w') (h3 : QRule L rp tb 154 (compQ L f)) : QRule L rp tb 140 (testQ L (f + 1)) := by
  intro w k n h hn
  have lo := h.lows
  obtain ⟨R, hR⟩ : ∃ R, R = testQ L (f + 1) k n := ⟨_, rfl⟩
  rw [← hR] at hn ⊢
  rw [testQ] at hR
  obtain ⟨W1, hW1⟩ : ∃ W1, W1 = w.alloc (.cells #[.string ⟨#[]⟩, .string ⟨#[]⟩, .int .i64 0, .slice none 0 0] 25) := ⟨_, rfl⟩
  have hst : StartQ w W1 := by rw [hW1]; exact StartQ.new w
  have HX := hidLL hW1
  have HNo := hidLL hn
  have HL := hidLL lo
  have HQ1 := hidLL (And.intro (h.below hst.bel) (And.intro (Below.x hst.bel rp (Nat.le_refl _)) (And.intro hst.blk True.intro)))
  have hs1 := hst.lt
  have hrp := lo.r
  have hq1 := h.below hst.bel
  clear h hW1 hst hn lo
  have HI0 := hidLL (is_q hq1 ⟨#[40]⟩)
  have HI1 := hidLL (is_q hq1 ⟨#[115, 111, 109, 101]⟩)
  have HI2 := hidLL (is_q hq1 ⟨#[101, 118, 101, 114, 121]⟩)
  have HA := hidLL (alone_q hq1)
  have H1 := hidLL h1
  have H2 := hidLL h2
  have H3 := hidLL h3
  unfold sg wSome wEvery at hR
  have HE := enter_c (L := L) (rp := rp) (tb := tb)
  have HN := name_c (L := L) (rp := rp) (tb := tb)
  have HLv := leave_c (L := L) (rp := rp) (tb := tb) ⟨#[41]⟩ (by decide)
  clear h1 h2 h3
  by_cases hi0 : isQ L ⟨#[40]⟩ k = true
  · have hmore := hq1.more (isQ_size hi0 (by decide))
    rw [if_pos hi0] at hR
    rw [hi0] at HI0
    have HR := hidLL hR
    clear hi0 hq1 hR HI1 HI2
    go_enter Tryz.func140, Tryz.ntmps140
    go_upto_region 4 with (first | (rw [← HX.out]; go_at_call 118; refine HI0.out.mono ?_; rintro e w' ⟨rfl, rfl⟩; clear HI0) | (go_at_call 141; refine (HE.out _ _ _ HQ1.out.1 hmore).mono ?_; rintro e W2 hE; rcases hr : enterQ L k n with _ | ⟨c, a⟩ | ⟨x1, k1, n1⟩; (· exact absurd hr enterQ_not); (· rw [hr] at hE; obtain ⟨hb, ⟨p, rfl⟩⟩ := hE; obtain rfl : R = .bad c a := (by rw [HR.out, hr, PR.bind_bad]); exact (show _ ∧ _ from ⟨rfl, HQ1.out.2.1.then hb HQ1.out.2.1.size, ⟨_, rfl⟩⟩)); rw [hr] at hE; obtain ⟨hb, hq, v, rfl, rfl⟩ := hE; rw [hr, PR.bind_ok] at HR; have hs2 := hb.size; have HW2 := hidLL (And.intro hq (And.intro (HQ1.out.2.1.then hb HQ1.out.2.1.size) (And.intro ((hb.block _ (hs1) (by omega)).trans HQ1.out.2.2.1) True.intro))); have EW2 := hidLL hr; clear hb hq hr) | (go_at_call 40; refine (H1.out _ _ _ HW2.out.1 (PR.bind_not (HR.out ▸ HNo.out))).mono ?_; rintro e W3 hE; rcases hr : eitherQ L f k1 n1 with _ | ⟨c, a⟩ | ⟨x2, k2, n2⟩; (· exact absurd hr (PR.bind_not (HR.out ▸ HNo.out))); (· rw [hr] at hE; obtain ⟨hb, ⟨p, rfl⟩⟩ := hE; obtain rfl : R = .bad c a := (by rw [HR.out, hr, PR.bind_bad]); exact (show _ ∧ _ from ⟨rfl, HW2.out.2.1.then hb HW2.out.2.1.size, ⟨_, rfl⟩⟩)); rw [hr] at hE; obtain ⟨hb, hq, v, rfl, s0, s1, s2, sa, sn, sc, rfl, hN⟩ := hE; rw [hr, PR.bind_ok] at HR; have hs3 := hb.size; have HW3 := hidLL (And.intro hq (And.intro (HW2.out.2.1.then hb HW2.out.2.1.size) (And.intro hN (And.intro ((hb.block _ (by omega) (by omega)).trans HW2.out.2.2.1) True.intro)))); have EW3 := hidLL hr; clear hb hq hr hN))
    obtain ⟨V3, hV3⟩ : ∃ V3, V3 = W3.alloc (.cells #[.string s0, .string s1, .int .i64 s2, .slice sa sn sc] 25) := ⟨_, rfl⟩
    rw [← hV3]
    have hb3 : Below W3.heap.size W3 V3 := by rw [hV3]; exact (Below.refl _ _).alloc (Nat.le_refl _) _
    have hn3 : V3.heap[W3.heap.size]? = some (.cells #[.string s0, .string s1, .int .i64 s2, .slice sa sn sc] 25 (0, 0)) := by rw [hV3]; exact heap_alloc_new _ _
    have hl3 : W3.heap.size < V3.heap.size := by rw [hV3]; simp
    have hnn : 1 ≤ n2 := by rw [(sameNQ L f).ei _ _ _ _ _ EW3.out, enterQ_n EW2.out]; omega
    have HV3 := hidLL (And.intro (HW3.out.1.below hb3) (And.intro (HW3.out.2.1.then (Below.x hb3 rp (Nat.le_refl _)) HW3.out.2.1.size) (And.intro hn3 (And.intro ((hb3.block _ (by omega)).trans HW3.out.2.2.2.1) (HW3.out.2.2.1.step (w' := V3) (P' := fun b => w.heap.size < b) fun b hb hp => ⟨hb3.block b hb, by omega⟩)))))
    generalize W3.heap.size = g3 at *
    clear hV3 hb3 hn3 HW3
    go_wp2_with (go_at_call 151; refine (HLv.out _ _ _ HV3.out.1 hnn).mono ?_; rintro e W4 hE; rcases hr : leaveQ L ⟨#[41]⟩ k2 n2 with _ | ⟨c, a⟩ | ⟨x5, k5, n5⟩; (· exact absurd hr leaveQ_not); (· rw [hr] at hE; obtain ⟨hb, ⟨p, rfl⟩⟩ := hE; obtain rfl : R = .bad c a := (by rw [HR.out, hr, PR.bind_bad]); exact (show _ ∧ _ from ⟨rfl, HV3.out.2.1.then hb HV3.out.2.1.size, ⟨_, rfl⟩⟩)); rw [hr] at hE; obtain ⟨hb, hq, v, rfl, rfl⟩ := hE; rw [hr, PR.bind_ok] at HR; have hs4 := hb.size; have HW4 := hidLL (And.intro hq (And.intro (HV3.out.2.1.then hb HV3.out.2.1.size) (And.intro ((hb.block _ (by omega) (by omega)).trans HV3.out.2.2.1) (And.intro ((hb.block _ (by omega) (by omega)).trans HV3.out.2.2.2.1) True.intro)))); have EW4 := hidLL hr; obtain ⟨z0, z1, z2, z3, zf⟩ := fourT HW4.out.2.2.1; obtain ⟨q0, q1, q2, q3, qf⟩ := fourT HW4.out.2.2.2.1; have HN4 := hidLL (HV3.out.2.2.2.2.step (w' := W4) (P' := fun b => w.heap.size < b) fun b hb' hp => ⟨hb.block b hb' (by omega), hp⟩); clear hb hq hr)
    obtain ⟨q0, q1, q2, q3, qf⟩ := fourT HW4.out.2.2.2.1
    refine bodyPost_ret (v := .agg #[.string s0, .string s1, .int .i64 s2, .slice sa sn sc]) (by simp [results, Tryz.results140, go_sem, q0, q1, q2, q3]) rfl ?_
    obtain rfl := HR.out
    exact fin_q HL.out HW4.out.2.1 HW4.out.1 HN4.out
  rw [if_neg hi0] at hR
  have e0 : isQ L ⟨#[40]⟩ k = false := Bool.eq_false_iff.2 hi0
  rw [e0] at HI0
  clear hi0 e0
  by_cases hi1 : isQ L ⟨#[115, 111, 109, 101]⟩ k = true ∨ isQ L ⟨#[101, 118, 101, 114, 121]⟩ k = true
  · rw [if_pos hi1] at hR
    have hmore : k + 1 < L.length := by
      rcases hi1 with hi | hi
      · exact hq1.more (isQ_size hi (by decide))
      · exact hq1.more (isQ_size hi (by decide))
    have HR := hidLL hR
    obtain ⟨b1, e1⟩ : ∃ b1, b1 = isQ L ⟨#[115, 111, 109, 101]⟩ k := ⟨_, rfl⟩
    obtain ⟨b2, e2⟩ : ∃ b2, b2 = isQ L ⟨#[101, 118, 101, 114, 121]⟩ k := ⟨_, rfl⟩
    have hbb : (b1 || b2) = true := by rw [e1, e2, Bool.or_eq_true]; exact hi1
    rw [← e1] at HI1
    rw [← e2] at HI2
    clear hi1 hq1 hR e1 e2
    cases b1
    all_goals (
      first | (have hb9 := hbb; simp only [Bool.false_or] at hb9; subst hb9) | skip
      go_enter Tryz.func140, Tryz.ntmps140
      go_wp2_with (first | (rw [← HX.out]; go_at_call 118; refine HI0.out.mono ?_; rintro e w' ⟨rfl, rfl⟩; clear HI0) | (go_at_call 118; refine HI1.out.mono ?_; rintro e w' ⟨rfl, rfl⟩; clear HI1) | (go_at_call 118; refine HI2.out.mono ?_; rintro e w' ⟨rfl, rfl⟩; clear HI2) | (go_at_call 152; refine (H2.out _ _ _ HQ1.out.1 hmore (HR.out ▸ HNo.out)).mono ?_; rintro e W2 hE; rcases hr : othersQ L f k n with _ | ⟨c, a⟩ | ⟨x1, k1, n1⟩; (· exact absurd hr (HR.out ▸ HNo.out)); (· rw [hr] at hE; obtain ⟨hb, ⟨p, rfl⟩⟩ := hE; obtain rfl : R = .bad c a := (by rw [HR.out, hr]); exact (show _ ∧ _ from ⟨rfl, HQ1.out.2.1.then hb HQ1.out.2.1.size, ⟨_, rfl⟩⟩)); rw [hr] at hE HR; obtain ⟨hb, hq, v, rfl, s0, s1, i2, ka, kn, kc, rfl, hN⟩ := hE; obtain ⟨q0, q1, q2, q3, qf⟩ := fourT ((hb.block _ hs1 (by omega)).trans HQ1.out.2.2.1); have HQ2 := hidLL (And.intro hq (And.intro (HQ1.out.2.1.then hb HQ1.out.2.1.size) hN)); clear hb hq hr hN))
      refine bodyPost_ret (v := .agg #[.string s0, .string s1, .int .i64 i2, .slice ka kn kc]) (by simp [results, Tryz.results140, go_sem, q0, q1, q2, q3]) rfl ?_
      obtain rfl : R = .ok x1 k1 n1 := HR.out
      exact fin_q HL.out HQ2.out.2.1 HQ2.out.1 (HQ2.out.2.2.step fun b hb hp => ⟨rfl, by omega⟩))
  rw [if_neg hi1] at hR
  have e1 : isQ L ⟨#[115, 111, 109, 101]⟩ k = false := Bool.eq_false_iff.2 fun h => hi1 (.inl h)
  have e2 : isQ L ⟨#[101, 118, 101, 114, 121]⟩ k = false := Bool.eq_false_iff.2 fun h => hi1 (.inr h)
  rw [e1] at HI1
  rw [e2] at HI2
  clear hi1 e1 e2
  cases ha : aloneQ L k with
  | true =>
    rw [ha, if_pos rfl] at hR
    rw [ha] at HA
    have HR := hidLL hR
    clear ha hq1 hR
    go_enter Tryz.func140, Tryz.ntmps140
    go_wp2_with (first | (rw [← HX.out]; go_at_call 118; refine HI0.out.mono ?_; rintro e w' ⟨rfl, rfl⟩; clear HI0) | (go_at_call 118; refine HI1.out.mono ?_; rintro e w' ⟨rfl, rfl⟩; clear HI1) | (go_at_call 118; refine HI2.out.mono ?_; rintro e w' ⟨rfl, rfl⟩; clear HI2) | (go_at_call 153; refine HA.out.mono ?_; rintro e W8 ⟨rfl, hb⟩; have HQ8 := hidLL (And.intro (HQ1.out.1.below hb) (And.intro (HQ1.out.2.1.then (Below.x hb rp (Nat.le_refl _)) HQ1.out.2.1.size) (And.intro ((hb.block _ hs1).trans HQ1.out.2.2.1) True.intro))); have hs8 := hb.size; clear hb) | (go_at_call 36; refine (HN.out _ _ _ HQ8.out.1).mono ?_; rintro e W2 hE; rcases hr : nameQ L k n with _ | ⟨c, a⟩ | ⟨x1, k1, n1⟩; (· exact absurd hr nameQ_not); (· rw [hr] at hE; obtain ⟨hb, ⟨p, rfl⟩⟩ := hE; obtain rfl : R = .bad c a := (by rw [HR.out, hr, PR.bind_bad]); exact (show _ ∧ _ from ⟨rfl, HQ8.out.2.1.then hb HQ8.out.2.1.size, ⟨_, rfl⟩⟩)); rw [hr] at hE; obtain ⟨hb, hq, v, rfl, rfl⟩ := hE; rw [hr, PR.bind_ok] at HR; have hs2 := hb.size; have HW2 := hidLL (And.intro hq (And.intro (HQ8.out.2.1.then hb HQ8.out.2.1.size) (And.intro ((hb.block _ (by omega) (by omega)).trans HQ8.out.2.2.1) True.intro))); have EW2 := hidLL hr; obtain ⟨q0, q1, q2, q3, qf⟩ := fourT HW2.out.2.2.1; clear hb hq hr))
    obtain ⟨q0, q1, q2, q3, qf⟩ := fourT HW2.out.2.2.1
    refine bodyPost_ret (v := .agg #[.string ⟨#[110, 97, 109, 101]⟩, .string x1, .int .i64 0, .slice none 0 0]) (by simp [results, Tryz.results140, go_sem, q0, q1, q2, q3]) rfl ?_
    obtain rfl := HR.out
    exact fin_q HL.out HW2.out.2.1 HW2.out.1 (NL.leaf _ _ wName x1 0)
  | false =>
    rw [ha, if_neg (by simp)] at hR
    rw [ha] at HA
    have HR := hidLL hR
    clear ha hq1 hR
    go_enter Tryz.func140, Tryz.ntmps140
    go_wp2_with (first | (rw [← HX.out]; go_at_call 118; refine HI0.out.mono ?_; rintro e w' ⟨rfl, rfl⟩; clear HI0) | (go_at_call 118; refine HI1.out.mono ?_; rintro e w' ⟨rfl, rfl⟩; clear HI1) | (go_at_call 118; refine HI2.out.mono ?_; rintro e w' ⟨rfl, rfl⟩; clear HI2) | (go_at_call 153; refine HA.out.mono ?_; rintro e W8 ⟨rfl, hb⟩; have HQ8 := hidLL (And.intro (HQ1.out.1.below hb) (And.intro (HQ1.out.2.1.then (Below.x hb rp (Nat.le_refl _)) HQ1.out.2.1.size) (And.intro ((hb.block _ hs1).trans HQ1.out.2.2.1) True.intro))); have hs8 := hb.size; clear hb) | (go_at_call 154; refine (H3.out _ _ _ HQ8.out.1 (HR.out ▸ HNo.out)).mono ?_; rintro e W2 hE; rcases hr : compQ L f k n with _ | ⟨c, a⟩ | ⟨x1, k1, n1⟩; (· exact absurd hr (HR.out ▸ HNo.out)); (· rw [hr] at hE; obtain ⟨hb, ⟨p, rfl⟩⟩ := hE; obtain rfl : R = .bad c a := (by rw [HR.out, hr]); exact (show _ ∧ _ from ⟨rfl, HQ8.out.2.1.then hb HQ8.out.2.1.size, ⟨_, rfl⟩⟩)); rw [hr] at hE HR; obtain ⟨hb, hq, v, rfl, s0, s1, i2, ka, kn, kc, rfl, hN⟩ := hE; obtain ⟨q0, q1, q2, q3, qf⟩ := fourT ((hb.block _ (by omega) (by omega)).trans HQ8.out.2.2.1); have HQ2 := hidLL (And.intro hq (And.intro (HQ8.out.2.1.then hb HQ8.out.2.1.size) hN)); clear hb hq hr hN))
    refine bodyPost_ret (v := .agg #[.string s0, .string s1, .int .i64 i2, .slice ka kn kc]) (by simp [results, Tryz.results140, go_sem, q0, q1, q2, q3]) rfl ?_
    obtain rfl : R = .ok x1 k1 n1 := HR.out
    exact fin_q HL.out HQ2.out.2.1 HQ2.out.1 (HQ2.out.2.2.step fun b hb hp => ⟨rfl, by omega⟩)
end Go.Proofs.YtehbinobohjadaaGreatDoor
namespace Go.Proofs.YtehbinobohjadaaGreatDoor
open Go.RowKit Go.Extern.Stop Go.Stop Go.Extern
theorem take_no {L : List Tok} {rp tb : Nat} {w : World} {k n : Nat} (h : QS L rp tb w k n) (s : ByteArray) (hi : isQ L s k = false) :
    Calls Tryz.prog 80 #[.pointer (some ⟨rp, 0, none⟩), .string s] w fun e w' => e = .returned (.bool false) ∧ w' = w := by
  have HI := hidLL (is_q h s)
  rw [hi] at HI
  clear h hi
  go_enter Tryz.func80, Tryz.ntmps80
  go_wp2_with (go_at_call 118; refine HI.out.mono ?_; rintro e w' ⟨rfl, rfl⟩)
  go_ret
  exact ⟨rfl, rfl⟩
theorem take_yes {L : List Tok} {rp tb : Nat} {w : World} {k n : Nat} (h : QS L rp tb w k n) (s : ByteArray) (hs : s.size ≠ 0) (hi : isQ L s k = true) :
    Calls Tryz.prog 80 #[.pointer (some ⟨rp, 0, none⟩), .string s] w fun e w' => e = .returned (.bool true) ∧ QS L rp tb w' (k + 1) n ∧ BelX w.heap.size rp w w' := by
  have h1 := take_q h s hs
  rw [hi, if_pos rfl] at h1
  exact h1
set_option maxHeartbeats 4000000 in
theorem qfactor_rule {L : List Tok} {rp tb f : Nat} (h1 : QRule L rp tb 84 (sumQ L f)) (h2 : ∀ (w : World) (k n : Nat), QS L rp tb w k n → k + 1 < L.length → greatQ L f k n ≠ .out → Calls Tryz.prog 157 #[.pointer (some ⟨rp, 0, none⟩)] w fun e w' => QEnd L rp tb w (greatQ L f k n) (fun x v w' => NodeV w.heap.size x v w') e w') : QRule L rp tb 142 (factorQ L (f + 1)) := by
  intro w k n h hn
  have lo := h.lows
  obtain ⟨R, hR⟩ : ∃ R, R = factorQ L (f + 1) k n := ⟨_, rfl⟩
  rw [← hR] at hn ⊢
  rw [factorQ] at hR
  obtain ⟨W1, hW1⟩ : ∃ W1, W1 = w.alloc (.cells #[.string ⟨#[]⟩, .string ⟨#[]⟩, .int .i64 0, .slice none 0 0] 25) := ⟨_, rfl⟩
  have hst : StartQ w W1 := by rw [hW1]; exact StartQ.new w
  have HX := hidLL hW1
  have HNo := hidLL hn
  have HL := hidLL lo
  have HQ1 := hidLL (And.intro (h.below hst.bel) (And.intro (Below.x hst.bel rp (Nat.le_refl _)) (And.intro hst.blk True.intro)))
  have hs1 := hst.lt
  have hrp := lo.r
  have hq1 := h.below hst.bel
  clear h hW1 hst hn lo
  obtain ⟨m, c, hm, hm1, hc, h4, x0, y1, xf⟩ := hq1.cells
  obtain ⟨y0, yt, y2⟩ := hq1.tokens
  have H1 := hidLL h1
  have H2 := hidLL h2
  have HTt := hidLL (total_q (L := L) (rp := rp) (tb := tb))
  have HNm := hidLL (fun (W : World) (k n : Nat) (hq : QS L rp tb W k n) => number_q hq)
  have HE := enter_c (L := L) (rp := rp) (tb := tb)
  have HN := name_c (L := L) (rp := rp) (tb := tb)
  have HLv := leave_c (L := L) (rp := rp) (tb := tb) ⟨#[93]⟩ (by decide)
  have hz := kN_n (t := (tokAt L k).kind)
  unfold sg wCount wTotal wMax wMin at hR
  clear h1 h2
  by_cases hk : (tokAt L k).kind = .n
  · rw [if_pos hk] at hR
    rw [decide_eq_true hk] at hz
    have HR := hidLL hR
    clear hk hq1 hR
    generalize kN (tokAt L k).kind = K0 at *
    go_enter Tryz.func142, Tryz.ntmps142
    go_upto_region 1 with fail
    rw [← HX.out]
    go_wp2_with (go_at_call 155; refine (HNm.out _ _ _ HQ1.out.1).mono ?_; rintro e W2 hE; rcases hr : numberQ L k n with _ | ⟨c, a⟩ | ⟨x1, k1, n1⟩; (· exact absurd hr numberQ_not); (· rw [hr] at hE; obtain ⟨hb, ⟨p, rfl⟩⟩ := hE; obtain rfl : R = .bad c a := (by rw [HR.out, hr, PR.bind_bad]); exact (show _ ∧ _ from ⟨rfl, HQ1.out.2.1.then hb HQ1.out.2.1.size, ⟨_, rfl⟩⟩)); rw [hr] at hE; obtain ⟨hb, hq, v, rfl, rfl⟩ := hE; rw [hr, PR.bind_ok] at HR; have hs2 := hb.size; have HW2 := hidLL (And.intro hq (And.intro (HQ1.out.2.1.then hb HQ1.out.2.1.size) (And.intro ((hb.block _ (hs1) (by omega)).trans HQ1.out.2.2.1) True.intro))); have EW2 := hidLL hr; obtain ⟨q0, q1, q2, q3, qf⟩ := fourT HW2.out.2.2.1; clear hb hq hr)
    obtain ⟨q0, q1, q2, q3, qf⟩ := fourT HW2.out.2.2.1
    refine bodyPost_ret (v := .agg #[.string ⟨#[110, 117, 109, 98, 101, 114]⟩, .string ⟨#[]⟩, .int .i64 x1, .slice none 0 0]) (by simp [results, Tryz.results142, go_sem, q0, q1, q2, q3]) rfl ?_
    obtain rfl := HR.out
    exact fin_q HL.out HW2.out.2.1 HW2.out.1 (NL.leaf _ _ ⟨#[110, 117, 109, 98, 101, 114]⟩ ⟨#[]⟩ x1)
  rw [if_neg hk] at hR
  rw [decide_eq_false hk] at hz
  clear hk
  generalize kN (tokAt L k).kind = K0 at *
  by_cases hi0 : isQ L ⟨#[99, 111, 117, 110, 116]⟩ k = true
  · rw [if_pos hi0] at hR
    have HR := hidLL hR
    have HI0 := hidLL (take_yes hq1 ⟨#[99, 111, 117, 110, 116]⟩ (by decide) hi0)
    clear hi0 hq1 hR
    go_enter Tryz.func142, Tryz.ntmps142
    go_upto_region 1 with fail
    rw [← HX.out]
    go_wp2_with (first | (go_at_call 80; refine HI0.out.mono ?_; rintro e W8 ⟨rfl, hq, hb⟩; have HQ8 := hidLL (And.intro hq (And.intro (HQ1.out.2.1.then hb HQ1.out.2.1.size) (And.intro ((hb.block _ hs1 (by omega)).trans HQ1.out.2.2.1) True.intro))); have hs8 := hb.size; clear hb hq HI0) | (go_at_call 36; refine (HN.out _ _ _ HQ8.out.1).mono ?_; rintro e W2 hE; rcases hr : nameQ L (k + 1) n with _ | ⟨c, a⟩ | ⟨x1, k1, n1⟩; (· exact absurd hr nameQ_not); (· rw [hr] at hE; obtain ⟨hb, ⟨p, rfl⟩⟩ := hE; obtain rfl : R = .bad c a := (by rw [HR.out, hr, PR.bind_bad]); exact (show _ ∧ _ from ⟨rfl, HQ8.out.2.1.then hb HQ8.out.2.1.size, ⟨_, rfl⟩⟩)); rw [hr] at hE; obtain ⟨hb, hq, v, rfl, rfl⟩ := hE; rw [hr, PR.bind_ok] at HR; have hs2 := hb.size; have HW2 := hidLL (And.intro hq (And.intro (HQ8.out.2.1.then hb HQ8.out.2.1.size) (And.intro ((hb.block _ (by omega) (by omega)).trans HQ8.out.2.2.1) True.intro))); have EW2 := hidLL hr; obtain ⟨q0, q1, q2, q3, qf⟩ := fourT HW2.out.2.2.1; clear hb hq hr))
    obtain ⟨q0, q1, q2, q3, qf⟩ := fourT HW2.out.2.2.1
    refine bodyPost_ret (v := .agg #[.string ⟨#[99, 111, 117, 110, 116]⟩, .string x1, .int .i64 0, .slice none 0 0]) (by simp [results, Tryz.results142, go_sem, q0, q1, q2, q3]) rfl ?_
    obtain rfl := HR.out
    exact fin_q HL.out HW2.out.2.1 HW2.out.1 (NL.leaf _ _ ⟨#[99, 111, 117, 110, 116]⟩ x1 0)
  rw [if_neg hi0] at hR
  have HI0 := hidLL (take_no hq1 ⟨#[99, 111, 117, 110, 116]⟩ (Bool.eq_false_iff.2 hi0))
  clear hi0
  by_cases hi1 : isQ L ⟨#[116, 111, 116, 97, 108]⟩ k = true
  · rw [if_pos hi1] at hR
    have HR := hidLL hR
    have HI1 := hidLL (take_yes hq1 ⟨#[116, 111, 116, 97, 108]⟩ (by decide) hi1)
    clear hi1 hq1 hR
    go_enter Tryz.func142, Tryz.ntmps142
    go_upto_region 1 with fail
    rw [← HX.out]
    go_wp2_with (first | (go_at_call 80; refine HI0.out.mono ?_; rintro e w' ⟨rfl, rfl⟩; clear HI0) | (go_at_call 80; refine HI1.out.mono ?_; rintro e W8 ⟨rfl, hq, hb⟩; have HQ8 := hidLL (And.intro hq (And.intro (HQ1.out.2.1.then hb HQ1.out.2.1.size) (And.intro ((hb.block _ hs1 (by omega)).trans HQ1.out.2.2.1) True.intro))); have hs8 := hb.size; clear hb hq HI1) | (go_at_call 156; refine (HTt.out _ _ _ HQ8.out.1 (HR.out ▸ HNo.out)).mono ?_; rintro e W2 hE; rcases hr : totalQ L (k + 1) n with _ | ⟨c, a⟩ | ⟨x1, k1, n1⟩; (· exact absurd hr (HR.out ▸ HNo.out)); (· rw [hr] at hE; obtain ⟨hb, ⟨p, rfl⟩⟩ := hE; obtain rfl : R = .bad c a := (by rw [HR.out, hr]); exact (show _ ∧ _ from ⟨rfl, HQ8.out.2.1.then hb HQ8.out.2.1.size, ⟨_, rfl⟩⟩)); rw [hr] at hE HR; obtain ⟨hb, hq, v, rfl, s0, s1, i2, ka, kn, kc, rfl, hN⟩ := hE; obtain ⟨q0, q1, q2, q3, qf⟩ := fourT ((hb.block _ (by omega) (by omega)).trans HQ8.out.2.2.1); have HQ2 := hidLL (And.intro hq (And.intro (HQ8.out.2.1.then hb HQ8.out.2.1.size) hN)); clear hb hq hr hN))
    refine bodyPost_ret (v := .agg #[.string s0, .string s1, .int .i64 i2, .slice ka kn kc]) (by simp [results, Tryz.results142, go_sem, q0, q1, q2, q3]) rfl ?_
    obtain rfl : R = .ok x1 k1 n1 := HR.out
    exact fin_q HL.out HQ2.out.2.1 HQ2.out.1 (HQ2.out.2.2.step fun b hb hp => ⟨rfl, by omega⟩)
  rw [if_neg hi1] at hR
  have HI1 := hidLL (take_no hq1 ⟨#[116, 111, 116, 97, 108]⟩ (Bool.eq_false_iff.2 hi1))
  clear hi1
  by_cases hi2 : isQ L ⟨#[109, 97, 120]⟩ k = true ∨ isQ L ⟨#[109, 105, 110]⟩ k = true
  · rw [if_pos hi2] at hR
    have hmore : k + 1 < L.length := by
      rcases hi2 with hi | hi
      · exact hq1.more (isQ_size hi (by decide))
      · exact hq1.more (isQ_size hi (by decide))
    have HR := hidLL hR
    have HI2 := hidLL (is_q hq1 ⟨#[109, 97, 120]⟩)
    have HI3 := hidLL (is_q hq1 ⟨#[109, 105, 110]⟩)
    obtain ⟨b1, e1⟩ : ∃ b1, b1 = isQ L ⟨#[109, 97, 120]⟩ k := ⟨_, rfl⟩
    obtain ⟨b2, e2⟩ : ∃ b2, b2 = isQ L ⟨#[109, 105, 110]⟩ k := ⟨_, rfl⟩
    have hbb : (b1 || b2) = true := by rw [e1, e2, Bool.or_eq_true]; exact hi2
    rw [← e1] at HI2
    rw [← e2] at HI3
    clear hi2 hq1 hR e1 e2
    cases b1
    all_goals (
      first | (have hb9 := hbb; simp only [Bool.false_or] at hb9; subst hb9) | skip
      go_enter Tryz.func142, Tryz.ntmps142
      go_upto_region 1 with fail
      rw [← HX.out]
      go_wp2_with (first | (go_at_call 80; refine HI0.out.mono ?_; rintro e w' ⟨rfl, rfl⟩; clear HI0) | (go_at_call 80; refine HI1.out.mono ?_; rintro e w' ⟨rfl, rfl⟩; clear HI1) | (go_at_call 118; refine HI2.out.mono ?_; rintro e w' ⟨rfl, rfl⟩; clear HI2) | (go_at_call 118; refine HI3.out.mono ?_; rintro e w' ⟨rfl, rfl⟩; clear HI3) | (go_at_call 157; refine (H2.out _ _ _ HQ1.out.1 hmore (HR.out ▸ HNo.out)).mono ?_; rintro e W2 hE; rcases hr : greatQ L f k n with _ | ⟨c, a⟩ | ⟨x1, k1, n1⟩; (· exact absurd hr (HR.out ▸ HNo.out)); (· rw [hr] at hE; obtain ⟨hb, ⟨p, rfl⟩⟩ := hE; obtain rfl : R = .bad c a := (by rw [HR.out, hr]); exact (show _ ∧ _ from ⟨rfl, HQ1.out.2.1.then hb HQ1.out.2.1.size, ⟨_, rfl⟩⟩)); rw [hr] at hE HR; obtain ⟨hb, hq, v, rfl, s0, s1, i2, ka, kn, kc, rfl, hN⟩ := hE; obtain ⟨q0, q1, q2, q3, qf⟩ := fourT ((hb.block _ hs1 (by omega)).trans HQ1.out.2.2.1); have HQ2 := hidLL (And.intro hq (And.intro (HQ1.out.2.1.then hb HQ1.out.2.1.size) hN)); clear hb hq hr hN))
      refine bodyPost_ret (v := .agg #[.string s0, .string s1, .int .i64 i2, .slice ka kn kc]) (by simp [results, Tryz.results142, go_sem, q0, q1, q2, q3]) rfl ?_
      obtain rfl : R = .ok x1 k1 n1 := HR.out
      exact fin_q HL.out HQ2.out.2.1 HQ2.out.1 (HQ2.out.2.2.step fun b hb hp => ⟨rfl, by omega⟩))
  rw [if_neg hi2] at hR
  have HI2 := hidLL (is_q hq1 ⟨#[109, 97, 120]⟩)
  have HI3 := hidLL (is_q hq1 ⟨#[109, 105, 110]⟩)
  rw [show isQ L ⟨#[109, 97, 120]⟩ k = false from Bool.eq_false_iff.2 fun h => hi2 (.inl h)] at HI2
  rw [show isQ L ⟨#[109, 105, 110]⟩ k = false from Bool.eq_false_iff.2 fun h => hi2 (.inr h)] at HI3
  clear hi2
  have HI4 := hidLL (is_q hq1 ⟨#[91]⟩)
  by_cases hi3 : isQ L ⟨#[91]⟩ k = true
  · rw [if_pos hi3] at hR
    have hmore : k + 1 < L.length := hq1.more (isQ_size hi3 (by decide))
    rw [hi3] at HI4
    have HR := hidLL hR
    clear hi3 hq1 hR
    go_enter Tryz.func142, Tryz.ntmps142
    go_upto_region 1 with fail
    rw [← HX.out]
    go_upto_region 13 with (first | (go_at_call 80; refine HI0.out.mono ?_; rintro e w' ⟨rfl, rfl⟩; clear HI0) | (go_at_call 80; refine HI1.out.mono ?_; rintro e w' ⟨rfl, rfl⟩; clear HI1) | (go_at_call 118; refine HI2.out.mono ?_; rintro e w' ⟨rfl, rfl⟩; clear HI2) | (go_at_call 118; refine HI3.out.mono ?_; rintro e w' ⟨rfl, rfl⟩; clear HI3) | (go_at_call 118; refine HI4.out.mono ?_; rintro e w' ⟨rfl, rfl⟩; clear HI4) | (go_at_call 141; refine (HE.out _ _ _ HQ1.out.1 hmore).mono ?_; rintro e W2 hE; rcases hr : enterQ L k n with _ | ⟨c, a⟩ | ⟨x1, k1, n1⟩; (· exact absurd hr enterQ_not); (· rw [hr] at hE; obtain ⟨hb, ⟨p, rfl⟩⟩ := hE; obtain rfl : R = .bad c a := (by rw [HR.out, hr, PR.bind_bad]); exact (show _ ∧ _ from ⟨rfl, HQ1.out.2.1.then hb HQ1.out.2.1.size, ⟨_, rfl⟩⟩)); rw [hr] at hE; obtain ⟨hb, hq, v, rfl, rfl⟩ := hE; rw [hr, PR.bind_ok] at HR; have hs2 := hb.size; have HW2 := hidLL (And.intro hq (And.intro (HQ1.out.2.1.then hb HQ1.out.2.1.size) (And.intro ((hb.block _ (hs1) (by omega)).trans HQ1.out.2.2.1) True.intro))); have EW2 := hidLL hr; clear hb hq hr) | (go_at_call 84; refine (H1.out _ _ _ HW2.out.1 (PR.bind_not (HR.out ▸ HNo.out))).mono ?_; rintro e W3 hE; rcases hr : sumQ L f k1 n1 with _ | ⟨c, a⟩ | ⟨x2, k2, n2⟩; (· exact absurd hr (PR.bind_not (HR.out ▸ HNo.out))); (· rw [hr] at hE; obtain ⟨hb, ⟨p, rfl⟩⟩ := hE; obtain rfl : R = .bad c a := (by rw [HR.out, hr, PR.bind_bad]); exact (show _ ∧ _ from ⟨rfl, HW2.out.2.1.then hb HW2.out.2.1.size, ⟨_, rfl⟩⟩)); rw [hr] at hE; obtain ⟨hb, hq, v, rfl, s0, s1, s2, sa, sn, sc, rfl, hN⟩ := hE; rw [hr, PR.bind_ok] at HR; have hs3 := hb.size; have HW3 := hidLL (And.intro hq (And.intro (HW2.out.2.1.then hb HW2.out.2.1.size) (And.intro hN (And.intro ((hb.block _ (by omega) (by omega)).trans HW2.out.2.2.1) True.intro)))); have EW3 := hidLL hr; clear hb hq hr hN))
    obtain ⟨V3, hV3⟩ : ∃ V3, V3 = W3.alloc (.cells #[.string s0, .string s1, .int .i64 s2, .slice sa sn sc] 25) := ⟨_, rfl⟩
    rw [← hV3]
    have hb3 : Below W3.heap.size W3 V3 := by rw [hV3]; exact (Below.refl _ _).alloc (Nat.le_refl _) _
    have hn3 : V3.heap[W3.heap.size]? = some (.cells #[.string s0, .string s1, .int .i64 s2, .slice sa sn sc] 25 (0, 0)) := by rw [hV3]; exact heap_alloc_new _ _
    have hl3 : W3.heap.size < V3.heap.size := by rw [hV3]; simp
    have hnn : 1 ≤ n2 := by rw [(sameNQ L f).su _ _ _ _ _ EW3.out, enterQ_n EW2.out]; omega
    have HV3 := hidLL (And.intro (HW3.out.1.below hb3) (And.intro (HW3.out.2.1.then (Below.x hb3 rp (Nat.le_refl _)) HW3.out.2.1.size) (And.intro hn3 (And.intro ((hb3.block _ (by omega)).trans HW3.out.2.2.2.1) (HW3.out.2.2.1.step (w' := V3) (P' := fun b => w.heap.size < b) fun b hb hp => ⟨hb3.block b hb, by omega⟩)))))
    generalize W3.heap.size = g3 at *
    clear hV3 hb3 hn3 HW3
    go_wp2_with (go_at_call 151; refine (HLv.out _ _ _ HV3.out.1 hnn).mono ?_; rintro e W4 hE; rcases hr : leaveQ L ⟨#[93]⟩ k2 n2 with _ | ⟨c, a⟩ | ⟨x5, k5, n5⟩; (· exact absurd hr leaveQ_not); (· rw [hr] at hE; obtain ⟨hb, ⟨p, rfl⟩⟩ := hE; obtain rfl : R = .bad c a := (by rw [HR.out, hr, PR.bind_bad]); exact (show _ ∧ _ from ⟨rfl, HV3.out.2.1.then hb HV3.out.2.1.size, ⟨_, rfl⟩⟩)); rw [hr] at hE; obtain ⟨hb, hq, v, rfl, rfl⟩ := hE; rw [hr, PR.bind_ok] at HR; have hs4 := hb.size; have HW4 := hidLL (And.intro hq (And.intro (HV3.out.2.1.then hb HV3.out.2.1.size) (And.intro ((hb.block _ (by omega) (by omega)).trans HV3.out.2.2.1) (And.intro ((hb.block _ (by omega) (by omega)).trans HV3.out.2.2.2.1) True.intro)))); have EW4 := hidLL hr; obtain ⟨z0, z1, z2, z3, zf⟩ := fourT HW4.out.2.2.1; obtain ⟨q0, q1, q2, q3, qf⟩ := fourT HW4.out.2.2.2.1; have HN4 := hidLL (HV3.out.2.2.2.2.step (w' := W4) (P' := fun b => w.heap.size < b) fun b hb' hp => ⟨hb.block b hb' (by omega), hp⟩); clear hb hq hr)
    obtain ⟨q0, q1, q2, q3, qf⟩ := fourT HW4.out.2.2.2.1
    refine bodyPost_ret (v := .agg #[.string s0, .string s1, .int .i64 s2, .slice sa sn sc]) (by simp [results, Tryz.results142, go_sem, q0, q1, q2, q3]) rfl ?_
    obtain rfl := HR.out
    exact fin_q HL.out HW4.out.2.1 HW4.out.1 HN4.out
  rw [if_neg hi3] at hR
  rw [show isQ L ⟨#[91]⟩ k = false from Bool.eq_false_iff.2 hi3] at HI4
  have HR := hidLL hR
  clear hi3 hq1 hR
  go_enter Tryz.func142, Tryz.ntmps142
  go_upto_region 1 with fail
  rw [← HX.out]
  go_wp2_with (first | (go_at_call 80; refine HI0.out.mono ?_; rintro e w' ⟨rfl, rfl⟩; clear HI0) | (go_at_call 80; refine HI1.out.mono ?_; rintro e w' ⟨rfl, rfl⟩; clear HI1) | (go_at_call 118; refine HI2.out.mono ?_; rintro e w' ⟨rfl, rfl⟩; clear HI2) | (go_at_call 118; refine HI3.out.mono ?_; rintro e w' ⟨rfl, rfl⟩; clear HI3) | (go_at_call 118; refine HI4.out.mono ?_; rintro e w' ⟨rfl, rfl⟩; clear HI4) | (go_at_call 36; refine (HN.out _ _ _ HQ1.out.1).mono ?_; rintro e W2 hE; rcases hr : nameQ L k n with _ | ⟨c, a⟩ | ⟨x1, k1, n1⟩; (· exact absurd hr nameQ_not); (· rw [hr] at hE; obtain ⟨hb, ⟨p, rfl⟩⟩ := hE; obtain rfl : R = .bad c a := (by rw [HR.out, hr, PR.bind_bad]); exact (show _ ∧ _ from ⟨rfl, HQ1.out.2.1.then hb HQ1.out.2.1.size, ⟨_, rfl⟩⟩)); rw [hr] at hE; obtain ⟨hb, hq, v, rfl, rfl⟩ := hE; rw [hr, PR.bind_ok] at HR; have hs2 := hb.size; have HW2 := hidLL (And.intro hq (And.intro (HQ1.out.2.1.then hb HQ1.out.2.1.size) (And.intro ((hb.block _ (hs1) (by omega)).trans HQ1.out.2.2.1) True.intro))); have EW2 := hidLL hr; obtain ⟨q0, q1, q2, q3, qf⟩ := fourT HW2.out.2.2.1; clear hb hq hr))
  obtain ⟨q0, q1, q2, q3, qf⟩ := fourT HW2.out.2.2.1
  refine bodyPost_ret (v := .agg #[.string ⟨#[110, 97, 109, 101]⟩, .string x1, .int .i64 0, .slice none 0 0]) (by simp [results, Tryz.results142, go_sem, q0, q1, q2, q3]) rfl ?_
  obtain rfl := HR.out
  exact fin_q HL.out HW2.out.2.1 HW2.out.1 (NL.leaf _ _ ⟨#[110, 97, 109, 101]⟩ x1 0)
end Go.Proofs.YtehbinobohjadaaGreatDoor
namespace Go.Proofs.YtehbinobohjadaaGreatDoor
open Go.RowKit Go.Extern.Stop Go.Stop Go.Extern

theorem step_append_where {P : Program} {ops : Array Oper} {o : Oper} {a : Act} {w : World} {K : Act → World → Prop} {Q : Exit → Act → World → Prop} {E : Prop}
    (hgd : o.guard = none) (s x : Operand) (t : TypeId) (ho : o.op = Op.call { callee := Callee.builtin Builtin.append, args := #[s, x], argTypes := #[t, t] })
    (B : Nat) (e : TypeId) (i : TypeInfo) (z : Value) (size bytes : Nat) (ht : P.underlying t = some (.slice e)) (hi : P.info? e = some i) (hz : i.zero = some z) (hsize : i.size = size) (hby : i.bytes = bytes) (hzs : z.cells.size = size) (hsz : 0 < size)
    (v : Value) (n : Nat) (xs : List Value) (hs : a.eval s = v) (hown : w.ownsRow B e size v n xs)
    (ad : Addr) (m c : Nat) (news : List Value) (hx : a.eval x = .slice (some ad) m c) (hl : news.length = m * size) (hnews : ∀ j u, news[j]? = some u → w.cell? (ad.add j) = some u) (h1 : ∀ u ∈ news, u.oneCell' = true) (hm : 0 < m)
    (h63 : n + m ≤ maxLen) (hbytes : (n + m) * bytes ≤ 140737488355328) (hbase : B ≤ w.heap.size)
    (hK : ∀ v' w', w'.ownsRow B e size v' (n + m) (xs ++ news) → w.grownBy w' v.ownBlock → (v'.ownBlock = v.ownBlock ∨ v'.ownBlock = some w.heap.size) → K (a.put o.dst v') w') :
    if Region.wanted o (yielded ops a.tmps) = true then Oper.wp P o a w K Q else E := by
  have hw : Region.wanted o (yielded ops a.tmps) = true := by simp [Region.wanted, hgd]
  rw [if_pos hw]
  obtain ⟨v', w', hr, h2, h3, h4⟩ := run_append_own (P := P) w B t o.type e i z size bytes ht hi hz hsize hby hzs hsz v n xs hown ad m c news hl hnews h1 h63 hbytes hbase
  have h5 := append_where (P := P) w B t o.type e i z size bytes ht hi hz hsize hby v n xs hown ad m c news hl hnews h1 hm h63 hbytes v' w' hr
  unfold Oper.wp
  simp [execOp, ho, resolve, invoke, builtin, hs, hx, hr, Result.andThen]
  exact hK v' w' h2 h3 h5
/-- The same memory. -/
structure LikeW (w' w : World) : Prop where
  os : w'.os = w.os
  tape : w'.tape = w.tape
  output : w'.output = w.output
  heap : w'.heap = w.heap
theorem LikeW.refl (w : World) : LikeW w w := ⟨rfl, rfl, rfl, rfl⟩
theorem LikeW.bel {w' w : World} (h : LikeW w' w) (B : Nat) : Below B w w' := ⟨h.os, h.tape, h.output, by rw [h.heap]; exact Nat.le_refl _, fun k _ => by rw [h.heap]⟩
theorem LikeW.set {w' w : World} (h : LikeW w' w) (a : Addr) (u : Value) : LikeW (w'.setCell a u) (w.setCell a u) := ⟨h.os, h.tape, h.output, by unfold World.setCell; simp only [h.heap]⟩
theorem LikeW.cell {w' w : World} (h : LikeW w' w) (a : Addr) : w'.cell? a = w.cell? a := World.cell?_of_block (by rw [h.heap])
end Go.Proofs.YtehbinobohjadaaGreatDoor
