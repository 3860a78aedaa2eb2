/-
  The reference: put.
-/
import Derived.Test.YtgfaeeacndpniaaGreatDoorAtP
import Derived.Test.YtgfaeeacndpniaaGreatDoorMemBase
namespace Go.Proofs.YtgfaeeacndpniaaGreatDoor
open Go.RowKit Go.Extern.Stop Go.Stop Go.Extern

/-- The three boxes of a call of put. -/
structure PutS (w W0 : World) (v : Nat → Value) (lab hd : ByteArray) : Prop where
  l : W0.heap[w.heap.size]? = some (.cells #[v 0, v 1, v 2, v 3] 26 (0, 0))
  k : W0.heap[w.heap.size + 1]? = some (.cells #[.string lab, .string hd, .slice none 0 0, .slice none 0 0] 26 (0, 0))
  r : W0.heap[w.heap.size + 1 + 1]? = some (.cells #[.string ⟨#[]⟩, .string ⟨#[]⟩, .slice none 0 0, .slice none 0 0] 26 (0, 0))
  sz : W0.heap.size = w.heap.size + 3
  bel : Below w.heap.size w W0
theorem PutS.start (w : World) (v : Nat → Value) (lab hd : ByteArray) : PutS w (((w.alloc (.cells #[v 0, v 1, v 2, v 3] 26)).alloc (.cells #[.string lab, .string hd, .slice none 0 0, .slice none 0 0] 26)).alloc (.cells #[.string ⟨#[]⟩, .string ⟨#[]⟩, .slice none 0 0, .slice none 0 0] 26)) v lab hd := by
  have e1 := alloc_two w (.cells #[v 0, v 1, v 2, v 3] 26) (.cells #[.string lab, .string hd, .slice none 0 0, .slice none 0 0] 26)
  have e2 : ((w.alloc (.cells #[v 0, v 1, v 2, v 3] 26)).alloc (.cells #[.string lab, .string hd, .slice none 0 0, .slice none 0 0] 26)).heap.size = w.heap.size + 2 := by simp
  refine ⟨?_, ?_, ?_, by simp, (((Below.refl _ _).alloc (Nat.le_refl _) _).alloc (by simp) _).alloc (by simp; omega) _⟩
  · rw [Below.heap_alloc _ _ _ (by omega)]; exact e1.1
  · rw [Below.heap_alloc _ _ _ (by omega)]; exact e1.2
  · have h := heap_alloc_new ((w.alloc (.cells #[v 0, v 1, v 2, v 3] 26)).alloc (.cells #[.string lab, .string hd, .slice none 0 0, .slice none 0 0] 26)) (.cells #[.string ⟨#[]⟩, .string ⟨#[]⟩, .slice none 0 0, .slice none 0 0] 26)
    rw [e2] at h; exact h
/-- What put answers and leaves. -/
def PutOut (B j : Nat) (w : World) (own : Nat → Nat) (z' : List It) (e : Ending) (w' : World) : Prop :=
  ∃ (v' : Nat → Value) (own' : Nat → Nat), e = .returned (.agg #[v' 0, v' 1, v' 2, v' 3]) ∧ Path B w' own' j z' v' ∧ Kept j w own w' own' ∧ Below B w w'
theorem off4 {B j : Nat} {w w' : World} {own own' : Nat → Nat} {z : List It} {v : Nat → Value} (hp : Path B w' own' j z v) (hk : Kept j w own w' own') (hb : Below B w w') {g : Nat} (h0 : own' g = 0) (hg : w.heap.size ≤ g) (hB : B ≤ w.heap.size) (x : Nat → Value) : Path B (set4 w' g 0 x) own' j z v ∧ Kept j w own (set4 w' g 0 x) own' ∧ Below B w (set4 w' g 0 x) := by
  unfold set4
  refine ⟨(((hp.off ⟨g, 0, none⟩ _ h0).off ⟨g, 0 + 1, none⟩ _ h0).off ⟨g, 0 + 2, none⟩ _ h0).off ⟨g, 0 + 3, none⟩ _ h0, (((hk.off ⟨g, 0, none⟩ _ hg).off ⟨g, 0 + 1, none⟩ _ hg).off ⟨g, 0 + 2, none⟩ _ hg).off ⟨g, 0 + 3, none⟩ _ hg, ?_⟩
  have h2 : B ≤ g := by omega
  exact (((hb.setCell (p := ⟨g, 0, none⟩) h2 _).setCell (p := ⟨g, 0 + 1, none⟩) h2 _).setCell (p := ⟨g, 0 + 2, none⟩) h2 _).setCell (p := ⟨g, 0 + 3, none⟩) h2 _
set_option maxHeartbeats 4000000 in
set_option maxRecDepth 10000 in
theorem put_line (B : Nat) (text lab hd : ByteArray) (a : It) (j : Nat) (own : Nat → Nat) (v : Nat → Value) (w : World) (wa : Option Addr) (wc : Nat) (h : Path B w own j [a] v) (hB : B ≤ w.heap.size) (hl : a.lines.length ≤ 1000) :
    Calls Tryz.prog 64 #[.agg #[v 0, v 1, v 2, v 3], .slice wa 0 wc, .bool true, .string text, .agg #[.string lab, .string hd, .slice none 0 0, .slice none 0 0]] w fun e w' => PutOut B j w own [a.addLine text] e w' := by
  obtain ⟨i0, iz, hi0, hi1, hi2, hi3, hi4⟩ := Tryz.infoStr
  have HI := hidLL (And.intro hi0 (And.intro hi1 (And.intro hi2 (And.intro hi3 hi4))))
  clear hi0 hi1 hi2 hi3 hi4
  cases h with
  | one _ _ _ K hO =>
    obtain ⟨la, lc, f2⟩ := row_any hO.ln
    obtain ⟨ka, kc, f3⟩ := row_any hO.kd
    have f0 := hO.l0
    have f1 := hO.l1
    have HO := hidLL hO
    have HF := hidLL (And.intro f0 (And.intro f1 (And.intro f2 f3)))
    have HPS := hidLL (PutS.start w v lab hd)
    rw [f0, f1, f2, f3] at HPS
    rw [f0, f1, f2, f3]
    clear hO f0 f1 f2 f3
    generalize a.label = lb at *
    generalize a.head = hh at *
    obtain ⟨ln, hln⟩ : ∃ ln, ln = a.lines.length := ⟨_, rfl⟩
    obtain ⟨kn, hkn⟩ : ∃ kn, kn = a.kids.length := ⟨_, rfl⟩
    rw [← hln] at hl
    rw [← hln, ← hkn] at HPS HF
    rw [← hln, ← hkn]
    have HLn := hidLL (And.intro hln hkn)
    clear hln hkn
    go_enter Tryz.func64, Tryz.ntmps64
    go_upto_region 3 with fail
    obtain ⟨W0, hW0⟩ : ∃ W0, W0 = (((w.alloc (.cells #[.string lb, .string hh, .slice la ln lc, .slice ka kn kc] 26)).alloc (.cells #[.string lab, .string hd, .slice none 0 0, .slice none 0 0] 26)).alloc (.cells #[.string ⟨#[]⟩, .string ⟨#[]⟩, .slice none 0 0, .slice none 0 0] 26)) := ⟨_, rfl⟩
    rw [← hW0] at HPS
    rw [← hW0]
    clear hW0
    have hsz := HPS.out.sz
    have hlb := HPS.out.l
    rw [HF.out.1, HF.out.2.1, HF.out.2.2.1, HF.out.2.2.2] at hlb
    obtain ⟨l0, l1, l2, l3, lf⟩ := four hlb
    obtain ⟨k0, k1, k2, k3, kf⟩ := four HPS.out.k
    obtain ⟨r0, r1, r2, r3, rf⟩ := four HPS.out.r
    have HLb := hidLL hlb
    clear hlb
    have HA : Hid (Below W0.heap.size W0 (W0.alloc (.cells #[Value.string text] 9))) := (Below.refl _ _).alloc (Nat.le_refl _) _
    have HKD : Hid (∀ W : World, (∀ k, k < W0.heap.size → W.heap[k]? = W0.heap[k]?) → W.ownsRow B 9 1 (.slice la ln lc) ln (a.lines.map Value.string)) := fun W hW => by
      have h3 := HO.out.ln
      rw [HF.out.2.2.1, ← HLn.out.1] at h3
      exact row_step h3 fun k _ hk => (hW k (by omega)).trans (HPS.out.bel.block k hk)
    have HOw : Hid (∀ k, w.heap.size ≤ k → some k ≠ (Value.slice la ln lc).ownBlock) := fun k hk e => by
      rw [← HF.out.2.2.1] at e
      have := (HO.out.ln.lt k e.symm).2
      omega
    have HNW := hidLL (oneNews W0 text)
    have HOC : Hid (∀ u ∈ [Value.string text], u.oneCell' = true) := by intro u hu; simp at hu; subst hu; rfl
    go_wp2_with (at_builtin; go_loud (refine wpList_append_where _ rfl (.tmp 17) (.tmp 19) 23 rfl B 9 i0 iz 1 16 Tryz.underlying23 HI.out.1 HI.out.2.1 HI.out.2.2.1 HI.out.2.2.2.1 HI.out.2.2.2.2 (by decide) (.slice la ln lc) ln (a.lines.map Value.string) (by simp [Act.eval]) (HKD.out _ (fun k hk => Below.heap_alloc W0 _ k hk)) ⟨W0.heap.size, 0, none⟩ 1 1 [.string text] (by simp [Act.eval]) rfl HNW.out HOC.out (by decide) (by unfold maxLen; omega) (by omega) (by simp; omega) ?_))
    intro v' w' ho hg hw
    obtain ⟨ga, ca, hv'⟩ := row_any ho
    have hgr := fun (b i : Nat) (h1 : w.heap.size ≤ b) (h2 : b < W0.heap.size) => grown_cell (a := ⟨b, i, none⟩) HA.out hg h2 (HOw.out b h1)
    have m0 := (hgr w.heap.size 0 (by omega) (by omega)).1.trans l0
    have m1 := (hgr w.heap.size 1 (by omega) (by omega)).1.trans l1
    have m2 := (hgr w.heap.size 2 (by omega) (by omega)).1.trans l2
    have m3 := (hgr w.heap.size 3 (by omega) (by omega)).1.trans l3
    have mf := fun i => (hgr w.heap.size i (by omega) (by omega)).2.trans (lf i)
    have s0 := (hgr (w.heap.size + 1 + 1) 0 (by omega) (by omega)).1.trans r0
    have s1 := (hgr (w.heap.size + 1 + 1) 1 (by omega) (by omega)).1.trans r1
    have s2 := (hgr (w.heap.size + 1 + 1) 2 (by omega) (by omega)).1.trans r2
    have s3 := (hgr (w.heap.size + 1 + 1) 3 (by omega) (by omega)).1.trans r3
    have sf := fun i => (hgr (w.heap.size + 1 + 1) i (by omega) (by omega)).2.trans (rf i)
    subst hv'
    have HH := hidLL (And.intro ho (And.intro hg hw))
    clear ho hg hw hgr l0 l1 l2 l3 lf k0 k1 k2 k3 kf r0 r1 r2 r3 rf
    go_wp2
    refine bodyPost_ret (v := .agg #[.string lb, .string hh, .slice ga (ln + 1) ca, .slice ka kn kc]) (by simp [results, Tryz.results64, go_sem, s0, s1, s2, s3]) rfl ?_
    obtain ⟨ho, hg, hw⟩ := HH.out
    have hsz2 : (W0.alloc (.cells #[Value.string text] 9)).heap.size = w.heap.size + 4 := by simp; omega
    have hp := Path.lineOne HO.out (HPS.out.bel.trans (HA.out.mono (by omega))) (s := text) (vl := .slice ga (ln + 1) ca) (by rw [← HLn.out.1]; exact ho) (by rw [HF.out.2.2.1]; exact hg) (by rw [HF.out.2.2.1]; rcases hw with hw | hw; exact .inl hw; exact .inr (hw.trans (by rw [hsz2])))
    have hbB : Below B w w' := ((HPS.out.bel.mono hB).trans (HA.out.mono (by omega))).grown hg (by omega) (fun k hk => (HO.out.ln.lt k (by rw [HF.out.2.2.1]; exact hk)).1)
    have q0 : newOwn own w.heap.size (W0.alloc (.cells #[Value.string text] 9)).heap.size (3 * j + 2) w.heap.size = 0 := newOwn_ge _ (by omega) (by omega)
    have q2 : newOwn own w.heap.size (W0.alloc (.cells #[Value.string text] 9)).heap.size (3 * j + 2) (w.heap.size + 1 + 1) = 0 := newOwn_ge _ (by omega) (by omega)
    have hf := off4 (hp.1.off ⟨w.heap.size, 2, none⟩ (.slice ga (ln + 1) ca) q0) (hp.2.off ⟨w.heap.size, 2, none⟩ (.slice ga (ln + 1) ca) (Nat.le_refl _)) (hbB.setCell (p := ⟨w.heap.size, 2, none⟩) hB _) q2 (by omega) hB (vec4 (.string lb) (.string hh) (.slice ga (ln + 1) ca) (.slice ka kn kc))
    refine ⟨putC v 2 (.slice ga (ln + 1) ca), _, ?_, hf.1, hf.2.1, hf.2.2⟩
    rw [putC_at, putC_ne _ _ (by omega), putC_ne _ _ (by omega), putC_ne _ _ (by omega), HF.out.1, HF.out.2.1, HF.out.2.2.2]
theorem fourNews (w : World) (a b c d : Value) : ∀ (j : Nat) (u : Value), [a, b, c, d][j]? = some u → (w.alloc (.cells #[a, b, c, d] 26)).cell? ((⟨w.heap.size, 0, none⟩ : Addr).add j) = some u := by
  intro j u hj
  match j, hj with
  | 0, hj => simp at hj; subst hj; simp [Addr.add]
  | 1, hj => simp at hj; subst hj; simp [Addr.add]
  | 2, hj => simp at hj; subst hj; simp [Addr.add]
  | 3, hj => simp at hj; subst hj; simp [Addr.add]
set_option maxHeartbeats 4000000 in
set_option maxRecDepth 10000 in
theorem put_kid (B : Nat) (text lab hd : ByteArray) (a : It) (j : Nat) (own : Nat → Nat) (v : Nat → Value) (w : World) (wa : Option Addr) (wc : Nat) (h : Path B w own j [a] v) (hB : B ≤ w.heap.size) (hl : a.kids.length ≤ 1000) :
    Calls Tryz.prog 64 #[.agg #[v 0, v 1, v 2, v 3], .slice wa 0 wc, .bool false, .string text, .agg #[.string lab, .string hd, .slice none 0 0, .slice none 0 0]] w fun e w' => PutOut B j w own [a, It.mk lab hd [] []] e w' := by
  obtain ⟨i0, iz, hi0, hi1, hi2, hi3, hi4⟩ := Tryz.infoItem
  have HI := hidLL (And.intro hi0 (And.intro hi1 (And.intro hi2 (And.intro hi3 hi4))))
  clear hi0 hi1 hi2 hi3 hi4
  cases h with
  | one _ _ _ K hO =>
    obtain ⟨la, lc, f2⟩ := row_any hO.ln
    obtain ⟨ka, kc, f3⟩ := row_any hO.kd
    have f0 := hO.l0
    have f1 := hO.l1
    have HO := hidLL hO
    have HF := hidLL (And.intro f0 (And.intro f1 (And.intro f2 f3)))
    have HPS := hidLL (PutS.start w v lab hd)
    rw [f0, f1, f2, f3] at HPS
    rw [f0, f1, f2, f3]
    clear hO f0 f1 f2 f3
    generalize a.label = lb at *
    generalize a.head = hh at *
    obtain ⟨ln, hln⟩ : ∃ ln, ln = a.lines.length := ⟨_, rfl⟩
    obtain ⟨kn, hkn⟩ : ∃ kn, kn = a.kids.length := ⟨_, rfl⟩
    rw [← hkn] at hl
    rw [← hln, ← hkn] at HPS HF
    rw [← hln, ← hkn]
    have HLn := hidLL (And.intro hln hkn)
    clear hln hkn
    go_enter Tryz.func64, Tryz.ntmps64
    go_upto_region 4 with fail
    obtain ⟨W0, hW0⟩ : ∃ W0, W0 = (((w.alloc (.cells #[.string lb, .string hh, .slice la ln lc, .slice ka kn kc] 26)).alloc (.cells #[.string lab, .string hd, .slice none 0 0, .slice none 0 0] 26)).alloc (.cells #[.string ⟨#[]⟩, .string ⟨#[]⟩, .slice none 0 0, .slice none 0 0] 26)) := ⟨_, rfl⟩
    rw [← hW0] at HPS
    rw [← hW0]
    clear hW0
    have hsz := HPS.out.sz
    have hlb := HPS.out.l
    rw [HF.out.1, HF.out.2.1, HF.out.2.2.1, HF.out.2.2.2] at hlb
    obtain ⟨l0, l1, l2, l3, lf⟩ := four hlb
    obtain ⟨k0, k1, k2, k3, kf⟩ := four HPS.out.k
    obtain ⟨r0, r1, r2, r3, rf⟩ := four HPS.out.r
    have HLb := hidLL hlb
    clear hlb
    have HA : Hid (Below W0.heap.size W0 (W0.alloc (.cells #[Value.string lab, .string hd, .slice none 0 0, .slice none 0 0] 26))) := (Below.refl _ _).alloc (Nat.le_refl _) _
    have HKD : Hid (∀ W : World, (∀ k, k < W0.heap.size → W.heap[k]? = W0.heap[k]?) → W.ownsRow B 26 4 (.slice ka kn kc) kn (flat4 K kn)) := fun W hW => by
      have h3 := HO.out.kd
      rw [HF.out.2.2.2, ← HLn.out.2] at h3
      exact row_step h3 fun k _ hk => (hW k (by omega)).trans (HPS.out.bel.block k hk)
    have HOw : Hid (∀ k, w.heap.size ≤ k → some k ≠ (Value.slice ka kn kc).ownBlock) := fun k hk e => by
      rw [← HF.out.2.2.2] at e
      have := (HO.out.kd.lt k e.symm).2
      omega
    have HNW := hidLL (fourNews W0 (.string lab) (.string hd) (.slice none 0 0) (.slice none 0 0))
    have HOC : Hid (∀ u ∈ [Value.string lab, .string hd, .slice none 0 0, .slice none 0 0], u.oneCell' = true) := by
      intro u hu
      simp at hu
      rcases hu with rfl | rfl | rfl <;> rfl
    go_wp2_with (at_builtin; go_loud (refine wpList_append_where _ rfl (.tmp 23) (.tmp 25) 24 rfl B 26 i0 iz 4 80 Tryz.underlying24 HI.out.1 HI.out.2.1 HI.out.2.2.1 HI.out.2.2.2.1 HI.out.2.2.2.2 (by decide) (.slice ka kn kc) kn (flat4 K kn) (by simp [Act.eval]) (HKD.out _ (fun k hk => Below.heap_alloc W0 _ k hk)) ⟨W0.heap.size, 0, none⟩ 1 1 [Value.string lab, .string hd, .slice none 0 0, .slice none 0 0] (by simp [Act.eval]) rfl HNW.out HOC.out (by decide) (by unfold maxLen; omega) (by omega) (by simp; omega) ?_))
    intro v' w' ho hg hw
    obtain ⟨ga, ca, hv'⟩ := row_any ho
    have hgr := fun (b i : Nat) (h1 : w.heap.size ≤ b) (h2 : b < W0.heap.size) => grown_cell (a := ⟨b, i, none⟩) HA.out hg h2 (HOw.out b h1)
    have m0 := (hgr w.heap.size 0 (by omega) (by omega)).1.trans l0
    have m1 := (hgr w.heap.size 1 (by omega) (by omega)).1.trans l1
    have m2 := (hgr w.heap.size 2 (by omega) (by omega)).1.trans l2
    have m3 := (hgr w.heap.size 3 (by omega) (by omega)).1.trans l3
    have mf := fun i => (hgr w.heap.size i (by omega) (by omega)).2.trans (lf i)
    have s0 := (hgr (w.heap.size + 1 + 1) 0 (by omega) (by omega)).1.trans r0
    have s1 := (hgr (w.heap.size + 1 + 1) 1 (by omega) (by omega)).1.trans r1
    have s2 := (hgr (w.heap.size + 1 + 1) 2 (by omega) (by omega)).1.trans r2
    have s3 := (hgr (w.heap.size + 1 + 1) 3 (by omega) (by omega)).1.trans r3
    have sf := fun i => (hgr (w.heap.size + 1 + 1) i (by omega) (by omega)).2.trans (rf i)
    subst hv'
    have HH := hidLL (And.intro ho (And.intro hg hw))
    clear ho hg hw hgr l0 l1 l2 l3 lf k0 k1 k2 k3 kf r0 r1 r2 r3 rf
    go_wp2
    refine bodyPost_ret (v := .agg #[.string lb, .string hh, .slice la ln lc, .slice ga (kn + 1) ca]) (by simp [results, Tryz.results64, go_sem, s0, s1, s2, s3]) rfl ?_
    obtain ⟨ho, hg, hw⟩ := HH.out
    have hsz2 : (W0.alloc (.cells #[Value.string lab, .string hd, .slice none 0 0, .slice none 0 0] 26)).heap.size = w.heap.size + 4 := by simp; omega
    have hp := Path.kidOne HO.out (HPS.out.bel.trans (HA.out.mono (by omega))) (x := vec4 (.string lab) (.string hd) (.slice none 0 0) (.slice none 0 0)) (lab := lab) (hd := hd) rfl rfl rfl rfl (vk := .slice ga (kn + 1) ca) (by rw [← HLn.out.2]; exact ho) (by rw [HF.out.2.2.2]; exact hg) (by rw [HF.out.2.2.2]; rcases hw with hw | hw; exact .inl hw; exact .inr (hw.trans (by rw [hsz2])))
    have hbB : Below B w w' := ((HPS.out.bel.mono hB).trans (HA.out.mono (by omega))).grown hg (by omega) (fun k hk => (HO.out.kd.lt k (by rw [HF.out.2.2.2]; exact hk)).1)
    have q0 : newOwn own w.heap.size (W0.alloc (.cells #[Value.string lab, .string hd, .slice none 0 0, .slice none 0 0] 26)).heap.size (3 * j + 1) w.heap.size = 0 := newOwn_ge _ (by omega) (by omega)
    have q2 : newOwn own w.heap.size (W0.alloc (.cells #[Value.string lab, .string hd, .slice none 0 0, .slice none 0 0] 26)).heap.size (3 * j + 1) (w.heap.size + 1 + 1) = 0 := newOwn_ge _ (by omega) (by omega)
    have hf := off4 (hp.1.off ⟨w.heap.size, 3, none⟩ (.slice ga (kn + 1) ca) q0) (hp.2.off ⟨w.heap.size, 3, none⟩ (.slice ga (kn + 1) ca) (Nat.le_refl _)) (hbB.setCell (p := ⟨w.heap.size, 3, none⟩) hB _) q2 (by omega) hB (vec4 (.string lb) (.string hh) (.slice la ln lc) (.slice ga (kn + 1) ca))
    refine ⟨putC v 3 (.slice ga (kn + 1) ca), _, ?_, hf.1, hf.2.1, hf.2.2⟩
    rw [putC_at, putC_ne _ _ (by omega), putC_ne _ _ (by omega), putC_ne _ _ (by omega), HF.out.1, HF.out.2.1, HF.out.2.2.1]
end Go.Proofs.YtgfaeeacndpniaaGreatDoor
