/-
  The program's reader: part, sum, both, either.
-/
import Derived.Test.YtehbinobohjadaaGreatDoorBk16
import Derived.Deep.LoopGhost
namespace Go.Proofs.YtehbinobohjadaaGreatDoor
open Go.RowKit Go.Extern.Stop Go.Stop Go.Extern

/-- Four cells of a block are written, a row is laid behind. -/
structure SetRow (W WF : World) (g : Nat) (v0 v1 v2 v3 : Value) (cs : Array Value) : Prop where
  old : ∀ b, b < W.heap.size → b ≠ g → WF.heap[b]? = W.heap[b]?
  var : WF.heap[g]? = some (.cells #[v0, v1, v2, v3] 25 (0, 0))
  row : WF.heap[W.heap.size]? = some (.cells cs 25 (0, 0))
  size : WF.heap.size = W.heap.size + 1
  bel : ∀ B, B ≤ g → B ≤ W.heap.size → Below B W WF
theorem setRow {W : World} {g : Nat} {a b c d : Value} (h : W.heap[g]? = some (.cells #[a, b, c, d] 25 (0, 0))) (v0 v1 v2 v3 : Value) (cs : Array Value) :
    SetRow W (((((W.setCell ⟨g, 0, none⟩ v0).setCell ⟨g, 1, none⟩ v1).setCell ⟨g, 2, none⟩ v2).setCell ⟨g, 3, none⟩ v3).alloc (.cells cs 25)) g v0 v1 v2 v3 cs := by
  have hlt : g < W.heap.size := by
    rcases Nat.lt_or_ge g W.heap.size with h2 | h2
    · exact h2
    · rw [Array.getElem?_eq_none h2] at h; cases h
  have hA : ∀ q, q < W.heap.size → (((((W.setCell ⟨g, 0, none⟩ v0).setCell ⟨g, 1, none⟩ v1).setCell ⟨g, 2, none⟩ v2).setCell ⟨g, 3, none⟩ v3).alloc (.cells cs 25)).heap[q]? = ((((W.setCell ⟨g, 0, none⟩ v0).setCell ⟨g, 1, none⟩ v1).setCell ⟨g, 2, none⟩ v2).setCell ⟨g, 3, none⟩ v3).heap[q]? := fun q hq => ((Below.refl _ _).alloc (Nat.le_refl _) _).block q (by rw [size4]; exact hq)
  refine ⟨fun q hq hne => (hA q hq).trans (heap4 _ _ _ _ hne), (hA g hlt).trans (heap4_here h _ _ _ _), alloc_at (size4 _ _ _ _), by simp, fun B h1 h2 => (((((Below.refl B W).setCell h1 _).setCell h1 _).setCell h1 _).setCell h1 _).alloc (by rw [size4]; exact h2) _⟩
theorem QEnd.base {L : List Tok} {rp tb : Nat} {W V w' : World} {α : Type} {r : PR α} {U : α → Value → World → Prop} {e : Ending} (hb : Below W.heap.size W V) (h : QEnd L rp tb V r U e w') : QEnd L rp tb W r U e w' := ⟨(Below.x hb rp (Nat.le_refl _)).then h.1 hb.size, h.2⟩
/-- A rule under way with a node of its own at g3. -/
inductive LoopQ (L : List Tok) (rp tb : Nat) (w : World) (R : PR Nd) (lp : Nat → Nd → Nat → Nat → PR Nd) (F g3 g : Nat) (wr : World) : Prop
  | mk (f : Nat) (x : Nd) (k n : Nat) (s0 s1 : ByteArray) (n2 : Int) (ka : Option Addr) (kn kc : Nat) (hg : f ≤ g) (hF : f ≤ F) (hq : QS L rp tb wr k n)
    (hN : NL wr (fun b => w.heap.size < b ∧ b ≠ g3) (nv (.string s0) (.string s1) (.int .i64 n2) (.slice ka kn kc)) x)
    (hR : lp f x k n = R) (hc : wr.heap[g3]? = some (.cells #[.string s0, .string s1, .int .i64 n2, .slice ka kn kc] 25 (0, 0)))
    (h0 : wr.heap[w.heap.size]? = some (.cells #[.string ⟨#[]⟩, .string ⟨#[]⟩, .int .i64 0, .slice none 0 0] 25 (0, 0))) (hB : BelX w.heap.size rp w wr) (h3 : w.heap.size < g3) (h4 : g3 < wr.heap.size) : LoopQ L rp tb w R lp F g3 g wr
theorem LoopQ.next {L : List Tok} {rp tb : Nat} {w W5 WF : World} {R : PR Nd} {lp : Nat → Nd → Nat → Nat → PR Nd} {F g3 f' k n : Nat} {y : Nd} {s0 s1 : ByteArray} {n2 : Int} {ka : Option Addr} {kn kc : Nat} {cs : Array Value} (lo : Lows rp tb w.heap.size) (h3 : w.heap.size < g3) (h4 : g3 < W5.heap.size) (hB : BelX w.heap.size rp w W5) (hq : QS L rp tb W5 k n)
    (hs : SetRow W5 WF g3 (.string s0) (.string s1) (.int .i64 n2) (.slice ka kn kc) cs) (h0 : W5.heap[w.heap.size]? = some (.cells #[.string ⟨#[]⟩, .string ⟨#[]⟩, .int .i64 0, .slice none 0 0] 25 (0, 0)))
    (hN : NL WF (fun b => w.heap.size < b ∧ b ≠ g3) (nv (.string s0) (.string s1) (.int .i64 n2) (.slice ka kn kc)) y) (hF : f' ≤ F) (hR : lp f' y k n = R) : LoopQ L rp tb w R lp F g3 f' WF := by
  have hb := hs.bel w.heap.size (by omega) (by omega)
  refine .mk f' y k n s0 s1 n2 ka kn kc (Nat.le_refl _) hF (hq.keep lo fun b hb' => hb.block b hb') hN hR hs.var ((hs.old _ (by omega) (by omega)).trans h0) (hB.then (Below.x hb rp (Nat.le_refl _)) (Nat.le_refl _)) h3 (by have := hs.size; omega)

theorem LoopQ.nextA {L : List Tok} {rp tb : Nat} {w W5 : World} {R : PR Nd} {lp : Nat → Nd → Nat → Nat → PR Nd} {F g3 f' k n : Nat} {y : Nd} {s0 s1 : ByteArray} {n2 : Int} {ka : Option Addr} {kn kc : Nat} {a b c d : Value} (lo : Lows rp tb w.heap.size) (h3 : w.heap.size < g3) (h4 : g3 < W5.heap.size) (hB : BelX w.heap.size rp w W5) (hq : QS L rp tb W5 k n)
    (hc : W5.heap[g3]? = some (.cells #[a, b, c, d] 25 (0, 0))) (h0 : W5.heap[w.heap.size]? = some (.cells #[.string ⟨#[]⟩, .string ⟨#[]⟩, .int .i64 0, .slice none 0 0] 25 (0, 0)))
    (hN : NL ((((W5.setCell ⟨g3, 0, none⟩ (.string s0)).setCell ⟨g3, 1, none⟩ (.string s1)).setCell ⟨g3, 2, none⟩ (.int .i64 n2)).setCell ⟨g3, 3, none⟩ (.slice ka kn kc)) (fun b => w.heap.size < b ∧ b ≠ g3) (nv (.string s0) (.string s1) (.int .i64 n2) (.slice ka kn kc)) y) (hF : f' ≤ F) (hR : lp f' y k n = R) :
    LoopQ L rp tb w R lp F g3 f' ((((W5.setCell ⟨g3, 0, none⟩ (.string s0)).setCell ⟨g3, 1, none⟩ (.string s1)).setCell ⟨g3, 2, none⟩ (.int .i64 n2)).setCell ⟨g3, 3, none⟩ (.slice ka kn kc)) := by
  have h9 : w.heap.size ≤ g3 := by omega
  have hb : Below w.heap.size W5 ((((W5.setCell ⟨g3, 0, none⟩ (.string s0)).setCell ⟨g3, 1, none⟩ (.string s1)).setCell ⟨g3, 2, none⟩ (.int .i64 n2)).setCell ⟨g3, 3, none⟩ (.slice ka kn kc)) := ((((Below.refl w.heap.size W5).setCell h9 _).setCell h9 _).setCell h9 _).setCell h9 _
  exact .mk f' y k n s0 s1 n2 ka kn kc (Nat.le_refl _) hF (hq.keep lo fun b hb' => hb.block b hb') hN hR (heap4_here hc _ _ _ _) ((heap4 _ _ _ _ (by omega)).trans h0) (hB.then (Below.x hb rp (Nat.le_refl _)) (Nat.le_refl _)) h3 (by rw [size4]; exact h4)
set_option maxHeartbeats 4000000 in
theorem qeither_rule {L : List Tok} {rp tb f : Nat} (h1 : ∀ f', f' ≤ f → QRule L rp tb 81 (bothQ L f')) : QRule L rp tb 40 (eitherQ L (f + 1)) := by
  intro w k n h hn
  have lo := h.lows
  obtain ⟨R, hR⟩ : ∃ R, R = eitherQ L (f + 1) k n := ⟨_, rfl⟩
  rw [← hR] at hn ⊢
  rw [eitherQ] at hR
  obtain ⟨W1, hW1⟩ : ∃ W1, W1 = w.alloc (.cells #[.string ⟨#[]⟩, .string ⟨#[]⟩, .int .i64 0, .slice none 0 0] 25) := ⟨_, rfl⟩
  have hst : StartQ w W1 := by rw [hW1]; exact StartQ.new w
  have H1 := hidLL h1
  have HX := hidLL hW1
  have HR := hidLL hR
  have HNo := hidLL hn
  have HT := hidLL hst
  have HL := hidLL lo
  have HQ1 := hidLL (And.intro (h.below hst.bel) (Below.x hst.bel rp (Nat.le_refl _)))
  have hs1 := hst.lt
  have hrp := lo.r
  clear h hW1 hst hR hn lo h1
  go_enter Tryz.func40, Tryz.ntmps40
  go_wp2_with (rw [← HX.out]; go_at_call 81; refine (H1.out f (Nat.le_refl _) _ _ _ HQ1.out.1 (PR.bind_not (HR.out ▸ HNo.out))).mono ?_; rintro e W2 hE; rcases hr : bothQ L f k n with _ | ⟨c, a⟩ | ⟨x1, k1, n1⟩; (· exact absurd hr (PR.bind_not (HR.out ▸ HNo.out))); (· rw [hr] at hE; obtain ⟨hb, ⟨p, rfl⟩⟩ := hE; obtain rfl : R = .bad c a := (by rw [HR.out, hr, PR.bind_bad]); exact (show _ ∧ _ from ⟨rfl, HQ1.out.2.then hb HQ1.out.2.size, ⟨_, rfl⟩⟩)); rw [hr] at hE; obtain ⟨hb, hq, v, rfl, s0, s1, i2, ka, kn, kc, rfl, hN⟩ := hE; rw [hr, PR.bind_ok] at HR; have HQ2 := hidLL (And.intro hq (And.intro (HQ1.out.2.then hb HQ1.out.2.size) (And.intro ((hb.block _ hs1 (by omega)).trans HT.out.blk) hN))); have hs2 := hb.size; clear hb hq hr hN)
  obtain ⟨V2, hV2⟩ : ∃ V2, V2 = W2.alloc (.cells #[.string s0, .string s1, .int .i64 i2, .slice ka kn kc] 25) := ⟨_, rfl⟩
  rw [← hV2]
  have HS0 : Hid (LoopQ L rp tb w R (orLoopQ L) f W2.heap.size f V2) := by
    have hv2 : Below W2.heap.size W2 V2 := by rw [hV2]; exact (Below.refl _ _).alloc (Nat.le_refl _) _
    exact .mk f x1 k1 n1 s0 s1 i2 ka kn kc (Nat.le_refl _) (Nat.le_refl _) (HQ2.out.1.below hv2) (HQ2.out.2.2.2.step fun b hb hp => ⟨hv2.block b hb, by omega, by omega⟩) HR.out.symm (by rw [hV2]; exact heap_alloc_new _ _) ((hv2.block _ (by omega)).trans HQ2.out.2.2.1) (HQ2.out.2.1.then (Below.x hv2 rp (Nat.le_refl _)) HQ2.out.2.1.size) (by omega) (by rw [hV2]; simp)
  clear hV2 HR HX HT HQ1 HQ2
  generalize W2.heap.size = g3 at *
  go_loopg [] f (fun g wr => LoopQ L rp tb w R (orLoopQ L) f g3 g wr)
  case atStart => exact HS0.out
  case round =>
    clear HS0
    cases hrel with
    | mk f' x k1 n1 s0 s1 i2 ka kn kc hg hF hq hN hR hc h0 hB h3 h4 =>
    cases f' with
    | zero => exact absurd (hR.symm.trans (by rw [orLoopQ])) HNo.out
    | succ f' =>
      rw [orLoopQ] at hR
      unfold wOr at hR
      have hbg : g3 ≠ rp := by omega
      have hb0 : w.heap.size ≠ rp := by omega
      have hl0 : w.heap.size < wr.heap.size := by omega
      have HC := hidLL (And.intro hc h0)
      have HB := hidLL hB
      have HN := hidLL hN
      have HG := hidLL hg
      have HTk := hidLL (take_q hq ⟨#[111, 114]⟩ (by decide))
      clear hc h0 hB hN hg
      cases hi : isQ L ⟨#[111, 114]⟩ k1 with
      | false =>
        rw [hi, if_neg (by simp)] at HTk
        rw [hi, if_neg (by simp)] at hR
        subst hR
        clear hi hq
        go_wp2_with (go_at_call 80; refine HTk.out.mono ?_; rintro e W4 ⟨rfl, hq4, hb4⟩; obtain ⟨q0, q1, q2, q3, qf⟩ := fourT ((hb4.block _ hl0 hb0).trans HC.out.2); obtain ⟨z0, z1, z2, z3, zf⟩ := fourT ((hb4.block _ h4 hbg).trans HC.out.1); have HQ4 := hidLL (And.intro hq4 hb4); clear hq4 hb4)
        refine bodyPost_ret (v := .agg #[.string s0, .string s1, .int .i64 i2, .slice ka kn kc]) (by simp [results, Tryz.results40, go_sem, q0, q1, q2, q3]) rfl ?_
        exact fin_q HL.out (HB.out.then HQ4.out.2 HB.out.size) HQ4.out.1 (HN.out.step fun b hb hp => ⟨HQ4.out.2.block b hb (by omega), hp.1⟩)
      | true =>
        rw [hi, if_pos rfl] at HTk
        rw [hi, if_pos rfl] at hR
        have HR := hidLL hR
        clear hi hq hR
        go_upto_region 3 with (go_at_call 80; refine HTk.out.mono ?_; rintro e W4 ⟨rfl, hq4, hb4⟩; have h3' := (hb4.block _ h4 hbg).trans HC.out.1; have h0' := (hb4.block _ hl0 hb0).trans HC.out.2; obtain ⟨z0, z1, z2, z3, zf⟩ := fourT h3'; have HQ4 := hidLL (And.intro hq4 (And.intro (HB.out.then hb4 HB.out.size) (And.intro h3' (And.intro h0' (HN.out.step (P' := fun b => w.heap.size < b ∧ b ≠ g3) fun b hb hp => ⟨hb4.block b hb (by omega), hp⟩))))); have hs4 := hb4.size; clear hq4 hb4 h3' h0')
        have HS2 := hidLL (fun (V : World) (hb : Below W4.heap.size W4 V) => (H1.out f' (by omega)).at HQ4.out.1 (PR.bind_not (HR.out.symm ▸ HNo.out)) hb)
        go_region_with (go_at_call 81; refine (HS2.out _ ?_).mono ?_; (· first | exact Below.refl _ _ | exact (Below.refl _ _).drew | exact belN (Below.refl _ _) _); rintro e W5 hE; rcases hr : bothQ L f' (k1 + 1) n1 with _ | ⟨c, a⟩ | ⟨x2, k2, n2⟩; (· exact absurd hr (PR.bind_not (HR.out.symm ▸ HNo.out))); (· rw [hr] at hE; obtain ⟨hb, ⟨p, rfl⟩⟩ := hE; obtain rfl : R = .bad c a := (by rw [← HR.out, hr, PR.bind_bad]); exact (show _ ∧ _ from ⟨rfl, HQ4.out.2.1.then hb HQ4.out.2.1.size, ⟨_, rfl⟩⟩)); rw [hr] at hE; obtain ⟨hb, hq, v, rfl, t0, t1, j2, la, ln, lc, rfl, hM⟩ := hE; rw [hr, PR.bind_ok] at HR; have hs5 := hb.size; have h3' := (hb.block g3 (by omega) hbg).trans HQ4.out.2.2.1; have h0' := (hb.block w.heap.size (by omega) hb0).trans HQ4.out.2.2.2.1; have HQ5 := hidLL (And.intro hq (And.intro (HQ4.out.2.1.then hb HQ4.out.2.1.size) (And.intro h3' (And.intro h0' (And.intro (HQ4.out.2.2.2.2.step (P' := fun b => w.heap.size < b ∧ b ≠ g3) fun b hb' hp => ⟨hb.block b hb' (by omega), hp⟩) (hM.step (P' := fun b => w.heap.size < b ∧ b ≠ g3) fun b hb' hp => ⟨rfl, by omega, by omega⟩)))))); obtain ⟨y0, y1, y2, y3, yf⟩ := fourT h3'; have hl5 : g3 < W5.heap.size := (by omega); clear hb hq h3' h0' hr hM)
        all_goals (
          go_wp2
          go_roundg f'
          case rel =>
            have hsr := setRow HQ5.out.2.2.1 (.string ⟨#[111, 114]⟩) (.string ⟨#[]⟩) (.int .i64 0) (.slice (some ⟨W5.heap.size, 0, none⟩) 2 2) #[.string s0, .string s1, .int .i64 i2, .slice ka kn kc, .string t0, .string t1, .int .i64 j2, .slice la ln lc]
            have h8 := eight_nv hsr.row
            exact LoopQ.next HL.out h3 hl5 HQ5.out.2.1 HQ5.out.1 hsr HQ5.out.2.2.2.1 (NL.two (HQ5.out.2.2.2.2.1.step fun b hb hp => ⟨hsr.old b hb hp.2, hp⟩) (HQ5.out.2.2.2.2.2.step fun b hb hp => ⟨hsr.old b hb hp.2, hp⟩) ⟨by omega, by omega⟩ h8.1 h8.2 ⟨#[111, 114]⟩ ⟨#[]⟩ 0) (by omega) HR.out
          case measure => have := HG.out; omega)
set_option maxHeartbeats 4000000 in
theorem qboth_rule {L : List Tok} {rp tb f : Nat} (h1 : ∀ f', f' ≤ f → QRule L rp tb 119 (unlessQ L f')) : QRule L rp tb 81 (bothQ L (f + 1)) := by
  intro w k n h hn
  have lo := h.lows
  obtain ⟨R, hR⟩ : ∃ R, R = bothQ L (f + 1) k n := ⟨_, rfl⟩
  rw [← hR] at hn ⊢
  rw [bothQ] at hR
  obtain ⟨W1, hW1⟩ : ∃ W1, W1 = w.alloc (.cells #[.string ⟨#[]⟩, .string ⟨#[]⟩, .int .i64 0, .slice none 0 0] 25) := ⟨_, rfl⟩
  have hst : StartQ w W1 := by rw [hW1]; exact StartQ.new w
  have H1 := hidLL h1
  have HX := hidLL hW1
  have HR := hidLL hR
  have HNo := hidLL hn
  have HT := hidLL hst
  have HL := hidLL lo
  have HQ1 := hidLL (And.intro (h.below hst.bel) (Below.x hst.bel rp (Nat.le_refl _)))
  have hs1 := hst.lt
  have hrp := lo.r
  clear h hW1 hst hR hn lo h1
  go_enter Tryz.func81, Tryz.ntmps81
  go_wp2_with (rw [← HX.out]; go_at_call 119; refine (H1.out f (Nat.le_refl _) _ _ _ HQ1.out.1 (PR.bind_not (HR.out ▸ HNo.out))).mono ?_; rintro e W2 hE; rcases hr : unlessQ L f k n with _ | ⟨c, a⟩ | ⟨x1, k1, n1⟩; (· exact absurd hr (PR.bind_not (HR.out ▸ HNo.out))); (· rw [hr] at hE; obtain ⟨hb, ⟨p, rfl⟩⟩ := hE; obtain rfl : R = .bad c a := (by rw [HR.out, hr, PR.bind_bad]); exact (show _ ∧ _ from ⟨rfl, HQ1.out.2.then hb HQ1.out.2.size, ⟨_, rfl⟩⟩)); rw [hr] at hE; obtain ⟨hb, hq, v, rfl, s0, s1, i2, ka, kn, kc, rfl, hN⟩ := hE; rw [hr, PR.bind_ok] at HR; have HQ2 := hidLL (And.intro hq (And.intro (HQ1.out.2.then hb HQ1.out.2.size) (And.intro ((hb.block _ hs1 (by omega)).trans HT.out.blk) hN))); have hs2 := hb.size; clear hb hq hr hN)
  obtain ⟨V2, hV2⟩ : ∃ V2, V2 = W2.alloc (.cells #[.string s0, .string s1, .int .i64 i2, .slice ka kn kc] 25) := ⟨_, rfl⟩
  rw [← hV2]
  have HS0 : Hid (LoopQ L rp tb w R (andLoopQ L) f W2.heap.size f V2) := by
    have hv2 : Below W2.heap.size W2 V2 := by rw [hV2]; exact (Below.refl _ _).alloc (Nat.le_refl _) _
    exact .mk f x1 k1 n1 s0 s1 i2 ka kn kc (Nat.le_refl _) (Nat.le_refl _) (HQ2.out.1.below hv2) (HQ2.out.2.2.2.step fun b hb hp => ⟨hv2.block b hb, by omega, by omega⟩) HR.out.symm (by rw [hV2]; exact heap_alloc_new _ _) ((hv2.block _ (by omega)).trans HQ2.out.2.2.1) (HQ2.out.2.1.then (Below.x hv2 rp (Nat.le_refl _)) HQ2.out.2.1.size) (by omega) (by rw [hV2]; simp)
  clear hV2 HR HX HT HQ1 HQ2
  generalize W2.heap.size = g3 at *
  go_loopg [] f (fun g wr => LoopQ L rp tb w R (andLoopQ L) f g3 g wr)
  case atStart => exact HS0.out
  case round =>
    clear HS0
    cases hrel with
    | mk f' x k1 n1 s0 s1 i2 ka kn kc hg hF hq hN hR hc h0 hB h3 h4 =>
    cases f' with
    | zero => exact absurd (hR.symm.trans (by rw [andLoopQ])) HNo.out
    | succ f' =>
      rw [andLoopQ] at hR
      unfold wAnd at hR
      have hbg : g3 ≠ rp := by omega
      have hb0 : w.heap.size ≠ rp := by omega
      have hl0 : w.heap.size < wr.heap.size := by omega
      have HC := hidLL (And.intro hc h0)
      have HB := hidLL hB
      have HN := hidLL hN
      have HG := hidLL hg
      have HTk := hidLL (take_q hq ⟨#[97, 110, 100]⟩ (by decide))
      clear hc h0 hB hN hg
      cases hi : isQ L ⟨#[97, 110, 100]⟩ k1 with
      | false =>
        rw [hi, if_neg (by simp)] at HTk
        rw [hi, if_neg (by simp)] at hR
        subst hR
        clear hi hq
        go_wp2_with (go_at_call 80; refine HTk.out.mono ?_; rintro e W4 ⟨rfl, hq4, hb4⟩; obtain ⟨q0, q1, q2, q3, qf⟩ := fourT ((hb4.block _ hl0 hb0).trans HC.out.2); obtain ⟨z0, z1, z2, z3, zf⟩ := fourT ((hb4.block _ h4 hbg).trans HC.out.1); have HQ4 := hidLL (And.intro hq4 hb4); clear hq4 hb4)
        refine bodyPost_ret (v := .agg #[.string s0, .string s1, .int .i64 i2, .slice ka kn kc]) (by simp [results, Tryz.results81, go_sem, q0, q1, q2, q3]) rfl ?_
        exact fin_q HL.out (HB.out.then HQ4.out.2 HB.out.size) HQ4.out.1 (HN.out.step fun b hb hp => ⟨HQ4.out.2.block b hb (by omega), hp.1⟩)
      | true =>
        rw [hi, if_pos rfl] at HTk
        rw [hi, if_pos rfl] at hR
        have HR := hidLL hR
        clear hi hq hR
        go_upto_region 3 with (go_at_call 80; refine HTk.out.mono ?_; rintro e W4 ⟨rfl, hq4, hb4⟩; have h3' := (hb4.block _ h4 hbg).trans HC.out.1; have h0' := (hb4.block _ hl0 hb0).trans HC.out.2; obtain ⟨z0, z1, z2, z3, zf⟩ := fourT h3'; have HQ4 := hidLL (And.intro hq4 (And.intro (HB.out.then hb4 HB.out.size) (And.intro h3' (And.intro h0' (HN.out.step (P' := fun b => w.heap.size < b ∧ b ≠ g3) fun b hb hp => ⟨hb4.block b hb (by omega), hp⟩))))); have hs4 := hb4.size; clear hq4 hb4 h3' h0')
        have HS2 := hidLL (fun (V : World) (hb : Below W4.heap.size W4 V) => (H1.out f' (by omega)).at HQ4.out.1 (PR.bind_not (HR.out.symm ▸ HNo.out)) hb)
        go_region_with (go_at_call 119; refine (HS2.out _ ?_).mono ?_; (· first | exact Below.refl _ _ | exact (Below.refl _ _).drew | exact belN (Below.refl _ _) _); rintro e W5 hE; rcases hr : unlessQ L f' (k1 + 1) n1 with _ | ⟨c, a⟩ | ⟨x2, k2, n2⟩; (· exact absurd hr (PR.bind_not (HR.out.symm ▸ HNo.out))); (· rw [hr] at hE; obtain ⟨hb, ⟨p, rfl⟩⟩ := hE; obtain rfl : R = .bad c a := (by rw [← HR.out, hr, PR.bind_bad]); exact (show _ ∧ _ from ⟨rfl, HQ4.out.2.1.then hb HQ4.out.2.1.size, ⟨_, rfl⟩⟩)); rw [hr] at hE; obtain ⟨hb, hq, v, rfl, t0, t1, j2, la, ln, lc, rfl, hM⟩ := hE; rw [hr, PR.bind_ok] at HR; have hs5 := hb.size; have h3' := (hb.block g3 (by omega) hbg).trans HQ4.out.2.2.1; have h0' := (hb.block w.heap.size (by omega) hb0).trans HQ4.out.2.2.2.1; have HQ5 := hidLL (And.intro hq (And.intro (HQ4.out.2.1.then hb HQ4.out.2.1.size) (And.intro h3' (And.intro h0' (And.intro (HQ4.out.2.2.2.2.step (P' := fun b => w.heap.size < b ∧ b ≠ g3) fun b hb' hp => ⟨hb.block b hb' (by omega), hp⟩) (hM.step (P' := fun b => w.heap.size < b ∧ b ≠ g3) fun b hb' hp => ⟨rfl, by omega, by omega⟩)))))); obtain ⟨y0, y1, y2, y3, yf⟩ := fourT h3'; have hl5 : g3 < W5.heap.size := (by omega); clear hb hq h3' h0' hr hM)
        all_goals (
          go_wp2
          go_roundg f'
          case rel =>
            have hsr := setRow HQ5.out.2.2.1 (.string ⟨#[97, 110, 100]⟩) (.string ⟨#[]⟩) (.int .i64 0) (.slice (some ⟨W5.heap.size, 0, none⟩) 2 2) #[.string s0, .string s1, .int .i64 i2, .slice ka kn kc, .string t0, .string t1, .int .i64 j2, .slice la ln lc]
            have h8 := eight_nv hsr.row
            exact LoopQ.next HL.out h3 hl5 HQ5.out.2.1 HQ5.out.1 hsr HQ5.out.2.2.2.1 (NL.two (HQ5.out.2.2.2.2.1.step fun b hb hp => ⟨hsr.old b hb hp.2, hp⟩) (HQ5.out.2.2.2.2.2.step fun b hb hp => ⟨hsr.old b hb hp.2, hp⟩) ⟨by omega, by omega⟩ h8.1 h8.2 ⟨#[97, 110, 100]⟩ ⟨#[]⟩ 0) (by omega) HR.out
          case measure => have := HG.out; omega)
set_option maxHeartbeats 4000000 in
theorem qsum_rule {L : List Tok} {rp tb f : Nat} (h1 : ∀ f', f' ≤ f → QRule L rp tb 120 (partQ L f')) : QRule L rp tb 84 (sumQ L (f + 1)) := by
  intro w k n h hn
  have lo := h.lows
  obtain ⟨R, hR⟩ : ∃ R, R = sumQ L (f + 1) k n := ⟨_, rfl⟩
  rw [← hR] at hn ⊢
  rw [sumQ] at hR
  obtain ⟨W1, hW1⟩ : ∃ W1, W1 = w.alloc (.cells #[.string ⟨#[]⟩, .string ⟨#[]⟩, .int .i64 0, .slice none 0 0] 25) := ⟨_, rfl⟩
  have hst : StartQ w W1 := by rw [hW1]; exact StartQ.new w
  have H1 := hidLL h1
  have HX := hidLL hW1
  have HR := hidLL hR
  have HNo := hidLL hn
  have HT := hidLL hst
  have HL := hidLL lo
  have HQ1 := hidLL (And.intro (h.below hst.bel) (Below.x hst.bel rp (Nat.le_refl _)))
  have hs1 := hst.lt
  have hrp := lo.r
  clear h hW1 hst hR hn lo h1
  go_enter Tryz.func84, Tryz.ntmps84
  go_wp2_with (rw [← HX.out]; go_at_call 120; refine (H1.out f (Nat.le_refl _) _ _ _ HQ1.out.1 (PR.bind_not (HR.out ▸ HNo.out))).mono ?_; rintro e W2 hE; rcases hr : partQ L f k n with _ | ⟨c, a⟩ | ⟨x1, k1, n1⟩; (· exact absurd hr (PR.bind_not (HR.out ▸ HNo.out))); (· rw [hr] at hE; obtain ⟨hb, ⟨p, rfl⟩⟩ := hE; obtain rfl : R = .bad c a := (by rw [HR.out, hr, PR.bind_bad]); exact (show _ ∧ _ from ⟨rfl, HQ1.out.2.then hb HQ1.out.2.size, ⟨_, rfl⟩⟩)); rw [hr] at hE; obtain ⟨hb, hq, v, rfl, s0, s1, i2, ka, kn, kc, rfl, hN⟩ := hE; rw [hr, PR.bind_ok] at HR; have HQ2 := hidLL (And.intro hq (And.intro (HQ1.out.2.then hb HQ1.out.2.size) (And.intro ((hb.block _ hs1 (by omega)).trans HT.out.blk) hN))); have hs2 := hb.size; clear hb hq hr hN)
  obtain ⟨V2, hV2⟩ : ∃ V2, V2 = W2.alloc (.cells #[.string s0, .string s1, .int .i64 i2, .slice ka kn kc] 25) := ⟨_, rfl⟩
  rw [← hV2]
  have HS0 : Hid (LoopQ L rp tb w R (sumLoopQ L) f W2.heap.size f V2) := by
    have hv2 : Below W2.heap.size W2 V2 := by rw [hV2]; exact (Below.refl _ _).alloc (Nat.le_refl _) _
    exact .mk f x1 k1 n1 s0 s1 i2 ka kn kc (Nat.le_refl _) (Nat.le_refl _) (HQ2.out.1.below hv2) (HQ2.out.2.2.2.step fun b hb hp => ⟨hv2.block b hb, by omega, by omega⟩) HR.out.symm (by rw [hV2]; exact heap_alloc_new _ _) ((hv2.block _ (by omega)).trans HQ2.out.2.2.1) (HQ2.out.2.1.then (Below.x hv2 rp (Nat.le_refl _)) HQ2.out.2.1.size) (by omega) (by rw [hV2]; simp)
  clear hV2 HR HX HT HQ1 HQ2
  generalize W2.heap.size = g3 at *
  go_loopg [] f (fun g wr => LoopQ L rp tb w R (sumLoopQ L) f g3 g wr)
  case atStart => exact HS0.out
  case round =>
    clear HS0
    cases hrel with
    | mk f' x k1 n1 s0 s1 i2 ka kn kc hg hF hq hN hR hc h0 hB h3 h4 =>
    cases f' with
    | zero => exact absurd (hR.symm.trans (by rw [sumLoopQ])) HNo.out
    | succ f' =>
      rw [sumLoopQ] at hR
      have hbg : g3 ≠ rp := by omega
      have hb0 : w.heap.size ≠ rp := by omega
      have hl0 : w.heap.size < wr.heap.size := by omega
      have HC := hidLL (And.intro hc h0)
      have HB := hidLL hB
      have HN := hidLL hN
      have HG := hidLL hg
      have HI1 := hidLL (is_q hq ⟨#[43]⟩)
      have HI2 := hidLL (is_q hq ⟨#[45]⟩)
      obtain ⟨q0, q1, q2, q3, qf⟩ := fourT h0
      obtain ⟨z0, z1, z2, z3, zf⟩ := fourT hc
      have HQ := hidLL hq
      have hR' : (if isQ L ⟨#[43]⟩ k1 = true ∨ isQ L ⟨#[45]⟩ k1 = true then (partQ L f' (k1 + 1) n1).bind fun m k1' n => sumLoopQ L f' (.mk (tokAt L k1).text ⟨#[]⟩ 0 [x, m]) k1' n else .ok x k1 n1) = R := hR
      clear hc h0 hB hN hg hR
      by_cases hi : isQ L ⟨#[43]⟩ k1 = true ∨ isQ L ⟨#[45]⟩ k1 = true
      case neg =>
        have i1 : isQ L ⟨#[43]⟩ k1 = false := Bool.eq_false_iff.2 (fun h9 => hi (Or.inl h9))
        have i2' : isQ L ⟨#[45]⟩ k1 = false := Bool.eq_false_iff.2 (fun h9 => hi (Or.inr h9))
        rw [if_neg hi] at hR'
        subst hR'
        rw [i1] at HI1
        rw [i2'] at HI2
        clear hi hq i1 i2'
        go_wp2_with (first | (go_at_call 118; refine HI1.out.mono ?_; rintro e W4 ⟨rfl, rfl⟩; clear HI1) | (go_at_call 118; refine HI2.out.mono ?_; rintro e W4 ⟨rfl, rfl⟩))
        refine bodyPost_ret (v := .agg #[.string s0, .string s1, .int .i64 i2, .slice ka kn kc]) (by simp [results, Tryz.results84, go_sem, q0, q1, q2, q3]) rfl ?_
        exact fin_q HL.out HB.out HQ.out (HN.out.step fun b hb hp => ⟨rfl, hp.1⟩)
      case pos =>
        rw [if_pos hi] at hR'
        have hmore : k1 + 1 < L.length := by
          rcases hi with hi | hi
          · exact hq.more (isQ_size hi (by decide))
          · exact hq.more (isQ_size hi (by decide))
        have HSk := hidLL (skip_q hq hmore)
        have HR := hidLL hR'
        obtain ⟨b1, e1⟩ : ∃ b1, b1 = isQ L ⟨#[43]⟩ k1 := ⟨_, rfl⟩
        obtain ⟨b2, e2⟩ : ∃ b2, b2 = isQ L ⟨#[45]⟩ k1 := ⟨_, rfl⟩
        have hbb : (b1 || b2) = true := by rw [e1, e2, Bool.or_eq_true]; exact hi
        rw [← e1] at HI1
        rw [← e2] at HI2
        clear hi hq hR' hmore e1 e2
        generalize (tokAt L k1).text = K1 at *
        cases b1
        all_goals (
          first | (have hb9 := hbb; simp only [Bool.false_or] at hb9; subst hb9) | skip
          go_upto_region 4 with (first | (go_at_call 118; refine HI1.out.mono ?_; rintro e W4 ⟨rfl, rfl⟩; clear HI1) | (go_at_call 118; refine HI2.out.mono ?_; rintro e W4 ⟨rfl, rfl⟩) | (go_at_call 35; refine HSk.out.mono ?_; rintro e W4 ⟨rfl, hq4, hb4⟩; have h3' := (hb4.block _ h4 hbg).trans HC.out.1; have h0' := (hb4.block _ hl0 hb0).trans HC.out.2; obtain ⟨z0, z1, z2, z3, zf⟩ := fourT h3'; have HQ4 := hidLL (And.intro hq4 (And.intro (HB.out.then hb4 HB.out.size) (And.intro h3' (And.intro h0' (HN.out.step (P' := fun b => w.heap.size < b ∧ b ≠ g3) fun b hb hp => ⟨hb4.block b hb (by omega), hp⟩))))); have hs4 := hb4.size; clear hq4 hb4 h3' h0'))
          have HS2 := hidLL (fun (V : World) (hb : Below W4.heap.size W4 V) => (H1.out f' (by omega)).at HQ4.out.1 (PR.bind_not (HR.out.symm ▸ HNo.out)) hb)
          go_region_with (go_at_call 120; refine (HS2.out _ ?_).mono ?_; (· first | exact Below.refl _ _ | exact (Below.refl _ _).drew | exact belN (Below.refl _ _) _); rintro e W5 hE; rcases hr : partQ L f' (k1 + 1) n1 with _ | ⟨c, a⟩ | ⟨x2, k2, n2⟩; (· exact absurd hr (PR.bind_not (HR.out.symm ▸ HNo.out))); (· rw [hr] at hE; obtain ⟨hb, ⟨p, rfl⟩⟩ := hE; obtain rfl : R = .bad c a := (by rw [← HR.out, hr, PR.bind_bad]); exact (show _ ∧ _ from ⟨rfl, HQ4.out.2.1.then hb HQ4.out.2.1.size, ⟨_, rfl⟩⟩)); rw [hr] at hE; obtain ⟨hb, hq, v, rfl, t0, t1, j2, la, ln, lc, rfl, hM⟩ := hE; rw [hr, PR.bind_ok] at HR; have hs5 := hb.size; have h3' := (hb.block g3 (by omega) hbg).trans HQ4.out.2.2.1; have h0' := (hb.block w.heap.size (by omega) hb0).trans HQ4.out.2.2.2.1; have HQ5 := hidLL (And.intro hq (And.intro (HQ4.out.2.1.then hb HQ4.out.2.1.size) (And.intro h3' (And.intro h0' (And.intro (HQ4.out.2.2.2.2.step (P' := fun b => w.heap.size < b ∧ b ≠ g3) fun b hb' hp => ⟨hb.block b hb' (by omega), hp⟩) (hM.step (P' := fun b => w.heap.size < b ∧ b ≠ g3) fun b hb' hp => ⟨rfl, by omega, by omega⟩)))))); obtain ⟨y0, y1, y2, y3, yf⟩ := fourT h3'; have hl5 : g3 < W5.heap.size := (by omega); clear hb hq h3' h0' hr hM)
          all_goals (
            go_wp2
            go_roundg f'
            case rel =>
              have hsr := setRow HQ5.out.2.2.1 (.string K1) (.string ⟨#[]⟩) (.int .i64 0) (.slice (some ⟨W5.heap.size, 0, none⟩) 2 2) #[.string s0, .string s1, .int .i64 i2, .slice ka kn kc, .string t0, .string t1, .int .i64 j2, .slice la ln lc]
              have h8 := eight_nv hsr.row
              exact LoopQ.next HL.out h3 hl5 HQ5.out.2.1 HQ5.out.1 hsr HQ5.out.2.2.2.1 (NL.two (HQ5.out.2.2.2.2.1.step fun b hb hp => ⟨hsr.old b hb hp.2, hp⟩) (HQ5.out.2.2.2.2.2.step fun b hb hp => ⟨hsr.old b hb hp.2, hp⟩) ⟨by omega, by omega⟩ h8.1 h8.2 K1 ⟨#[]⟩ 0) (by omega) HR.out
            case measure => have := HG.out; omega))
set_option maxHeartbeats 4000000 in
theorem qpart_rule {L : List Tok} {rp tb f : Nat} (h1 : ∀ f', f' ≤ f → QRule L rp tb 142 (factorQ L f')) : QRule L rp tb 120 (partQ L (f + 1)) := by
  intro w k n h hn
  have lo := h.lows
  obtain ⟨R, hR⟩ : ∃ R, R = partQ L (f + 1) k n := ⟨_, rfl⟩
  rw [← hR] at hn ⊢
  rw [partQ] at hR
  obtain ⟨W1, hW1⟩ : ∃ W1, W1 = w.alloc (.cells #[.string ⟨#[]⟩, .string ⟨#[]⟩, .int .i64 0, .slice none 0 0] 25) := ⟨_, rfl⟩
  have hst : StartQ w W1 := by rw [hW1]; exact StartQ.new w
  have H1 := hidLL h1
  have HX := hidLL hW1
  have HR := hidLL hR
  have HNo := hidLL hn
  have HT := hidLL hst
  have HL := hidLL lo
  have HQ1 := hidLL (And.intro (h.below hst.bel) (Below.x hst.bel rp (Nat.le_refl _)))
  have hs1 := hst.lt
  have hrp := lo.r
  clear h hW1 hst hR hn lo h1
  go_enter Tryz.func120, Tryz.ntmps120
  go_wp2_with (rw [← HX.out]; go_at_call 142; refine (H1.out f (Nat.le_refl _) _ _ _ HQ1.out.1 (PR.bind_not (HR.out ▸ HNo.out))).mono ?_; rintro e W2 hE; rcases hr : factorQ L f k n with _ | ⟨c, a⟩ | ⟨x1, k1, n1⟩; (· exact absurd hr (PR.bind_not (HR.out ▸ HNo.out))); (· rw [hr] at hE; obtain ⟨hb, ⟨p, rfl⟩⟩ := hE; obtain rfl : R = .bad c a := (by rw [HR.out, hr, PR.bind_bad]); exact (show _ ∧ _ from ⟨rfl, HQ1.out.2.then hb HQ1.out.2.size, ⟨_, rfl⟩⟩)); rw [hr] at hE; obtain ⟨hb, hq, v, rfl, s0, s1, i2, ka, kn, kc, rfl, hN⟩ := hE; rw [hr, PR.bind_ok] at HR; have HQ2 := hidLL (And.intro hq (And.intro (HQ1.out.2.then hb HQ1.out.2.size) (And.intro ((hb.block _ hs1 (by omega)).trans HT.out.blk) hN))); have hs2 := hb.size; clear hb hq hr hN)
  obtain ⟨V2, hV2⟩ : ∃ V2, V2 = W2.alloc (.cells #[.string s0, .string s1, .int .i64 i2, .slice ka kn kc] 25) := ⟨_, rfl⟩
  rw [← hV2]
  have HS0 : Hid (LoopQ L rp tb w R (partLoopQ L) f W2.heap.size f V2) := by
    have hv2 : Below W2.heap.size W2 V2 := by rw [hV2]; exact (Below.refl _ _).alloc (Nat.le_refl _) _
    exact .mk f x1 k1 n1 s0 s1 i2 ka kn kc (Nat.le_refl _) (Nat.le_refl _) (HQ2.out.1.below hv2) (HQ2.out.2.2.2.step fun b hb hp => ⟨hv2.block b hb, by omega, by omega⟩) HR.out.symm (by rw [hV2]; exact heap_alloc_new _ _) ((hv2.block _ (by omega)).trans HQ2.out.2.2.1) (HQ2.out.2.1.then (Below.x hv2 rp (Nat.le_refl _)) HQ2.out.2.1.size) (by omega) (by rw [hV2]; simp)
  clear hV2 HR HX HT HQ1 HQ2
  generalize W2.heap.size = g3 at *
  go_loopg [] f (fun g wr => LoopQ L rp tb w R (partLoopQ L) f g3 g wr)
  case atStart => exact HS0.out
  case round =>
    clear HS0
    cases hrel with
    | mk f' x k1 n1 s0 s1 i2 ka kn kc hg hF hq hN hR hc h0 hB h3 h4 =>
    cases f' with
    | zero => exact absurd (hR.symm.trans (by rw [partLoopQ])) HNo.out
    | succ f' =>
      rw [partLoopQ] at hR
      unfold sg at hR
      have hbg : g3 ≠ rp := by omega
      have hb0 : w.heap.size ≠ rp := by omega
      have hl0 : w.heap.size < wr.heap.size := by omega
      have HC := hidLL (And.intro hc h0)
      have HB := hidLL hB
      have HN := hidLL hN
      have HG := hidLL hg
      have HTk := hidLL (take_q hq ⟨#[42]⟩ (by decide))
      clear hc h0 hB hN hg
      cases hi : isQ L ⟨#[42]⟩ k1 with
      | false =>
        rw [hi, if_neg (by simp)] at HTk
        rw [hi, if_neg (by simp)] at hR
        subst hR
        clear hi hq
        go_wp2_with (go_at_call 80; refine HTk.out.mono ?_; rintro e W4 ⟨rfl, hq4, hb4⟩; obtain ⟨q0, q1, q2, q3, qf⟩ := fourT ((hb4.block _ hl0 hb0).trans HC.out.2); obtain ⟨z0, z1, z2, z3, zf⟩ := fourT ((hb4.block _ h4 hbg).trans HC.out.1); have HQ4 := hidLL (And.intro hq4 hb4); clear hq4 hb4)
        refine bodyPost_ret (v := .agg #[.string s0, .string s1, .int .i64 i2, .slice ka kn kc]) (by simp [results, Tryz.results120, go_sem, q0, q1, q2, q3]) rfl ?_
        exact fin_q HL.out (HB.out.then HQ4.out.2 HB.out.size) HQ4.out.1 (HN.out.step fun b hb hp => ⟨HQ4.out.2.block b hb (by omega), hp.1⟩)
      | true =>
        rw [hi, if_pos rfl] at HTk
        rw [hi, if_pos rfl] at hR
        have HR := hidLL hR
        clear hi hq hR
        go_upto_region 3 with (go_at_call 80; refine HTk.out.mono ?_; rintro e W4 ⟨rfl, hq4, hb4⟩; have h3' := (hb4.block _ h4 hbg).trans HC.out.1; have h0' := (hb4.block _ hl0 hb0).trans HC.out.2; obtain ⟨z0, z1, z2, z3, zf⟩ := fourT h3'; have HQ4 := hidLL (And.intro hq4 (And.intro (HB.out.then hb4 HB.out.size) (And.intro h3' (And.intro h0' (HN.out.step (P' := fun b => w.heap.size < b ∧ b ≠ g3) fun b hb hp => ⟨hb4.block b hb (by omega), hp⟩))))); have hs4 := hb4.size; clear hq4 hb4 h3' h0')
        have HS2 := hidLL (fun (V : World) (hb : Below W4.heap.size W4 V) => (rate_q (HQ4.out.1.below hb)).mono (fun e w' h => And.intro (QEnd.base (L := L) hb h) h.1))
        go_region_with (go_at_call 143; refine (HS2.out _ ?_).mono ?_; (· first | exact Below.refl _ _ | exact (Below.refl _ _).drew | exact belN (Below.refl _ _) _ | exact (Below.refl _ _).alloc (Nat.le_refl _) _ | exact ((Below.refl _ _).alloc (Nat.le_refl _) _).drew | exact belN ((Below.refl _ _).alloc (Nat.le_refl _) _) _); rintro e W5 ⟨hE, hV⟩; rcases hr : rateQ L (k1 + 1) n1 with _ | ⟨c, a⟩ | ⟨x2, k2, n2⟩; (· exact absurd hr (PR.bind_not (HR.out.symm ▸ HNo.out))); (· rw [hr] at hE; obtain ⟨hb, ⟨p, rfl⟩⟩ := hE; obtain rfl : R = .bad c a := (by rw [← HR.out, hr, PR.bind_bad]); exact (show _ ∧ _ from ⟨rfl, HQ4.out.2.1.then hb HQ4.out.2.1.size, ⟨_, rfl⟩⟩)); rw [hr] at hE; obtain ⟨hb, hq, v, rfl, rfl⟩ := hE; rw [hr, PR.bind_ok] at HR; have hs5 := hb.size; have h3' := (hb.block g3 (by omega) hbg).trans HQ4.out.2.2.1; have h0' := (hb.block w.heap.size (by omega) hb0).trans HQ4.out.2.2.2.1; have HQ5 := hidLL (And.intro hq (And.intro (HQ4.out.2.1.then hb HQ4.out.2.1.size) (And.intro h3' (And.intro h0' (HQ4.out.2.2.2.2.step (P' := fun b => w.heap.size < b ∧ b ≠ g3) fun b hb' hp => ⟨hb.block b hb' (by omega), hp⟩))))); obtain ⟨y0, y1, y2, y3, yf⟩ := fourT h3'; have hl5 : g3 < W5.heap.size := (by omega); have HVb := hidLL hV; clear hb hq h3' h0' hr hV)
        all_goals (
          go_wp2
          go_roundg f'
          case rel =>
            first
              | (have hsr := setRow HQ5.out.2.2.1 (.string ⟨#[42]⟩) (.string ⟨#[]⟩) (.int .i64 x2) (.slice (some ⟨W5.heap.size, 0, none⟩) 1 1) #[.string s0, .string s1, .int .i64 i2, .slice ka kn kc]
                 exact LoopQ.next HL.out h3 hl5 HQ5.out.2.1 HQ5.out.1 hsr HQ5.out.2.2.2.1 (NL.one (HQ5.out.2.2.2.2.step fun b hb hp => ⟨hsr.old b hb hp.2, hp⟩) ⟨by omega, by omega⟩ (four_nv hsr.row) ⟨#[42]⟩ ⟨#[]⟩ x2) (by omega) HR.out)
              | (have hrow : W5.heap[W4.heap.size]? = some (.cells #[.string s0, .string s1, .int .i64 i2, .slice ka kn kc] 25 (0, 0)) := (HVb.out.block W4.heap.size (by simp) (by omega)).trans (by first | exact alloc_at rfl | exact heap_alloc_new _ _)
                 exact LoopQ.nextA HL.out h3 hl5 HQ5.out.2.1 HQ5.out.1 HQ5.out.2.2.1 HQ5.out.2.2.2.1 (NL.one (HQ5.out.2.2.2.2.step fun b hb hp => ⟨heap4 _ _ _ _ hp.2, hp⟩) ⟨by omega, by omega⟩ (four_nv ((heap4 _ _ _ _ (by omega)).trans hrow)) ⟨#[42]⟩ ⟨#[]⟩ x2) (by omega) HR.out)
          case measure => have := HG.out; omega)
end Go.Proofs.YtehbinobohjadaaGreatDoor
