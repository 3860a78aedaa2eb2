/-
  The reference: put, all the way.
-/
import Derived.Test.YtgfaeeacndpniaaGreatDoorPutP
import Derived.Deep.RegionLaw
import Derived.Deep.DrawnRows
namespace Go.Proofs.YtgfaeeacndpniaaGreatDoor
open Go.RowKit Go.Extern.Stop Go.Stop Go.Extern
attribute [local go_sem ↓] Go.wp_at_zero Go.wp_at_succ

theorem Lies.one {w : World} {P : Nat → Prop} {v : Nat → Value} {t : It} (h : Lies w P v t) : ∀ c, c < 4 → (v c).oneCell' = true := by
  obtain ⟨f0, f1, ⟨la, lc, f2⟩, ⟨ka, kc, f3⟩⟩ := h.forms
  intro c hc
  match c, hc with
  | 0, _ => rw [f0]; rfl
  | 1, _ => rw [f1]; rfl
  | 2, _ => rw [f2]; rfl
  | 3, _ => rw [f3]; rfl
/-- How many kids and lines there are. -/
def FewZ (z : List It) : Prop := ∀ t ∈ z, t.kids.length ≤ 1000 ∧ t.lines.length ≤ 1000
theorem put_end {B : Nat} {line : Bool} {text lab hd : ByteArray} {a b : It} {r : List It} {j : Nat} {own own2 : Nat → Nat} {v v2 : Nat → Value} {K : Nat → Nat → Value} {w W1 w2 wc : World} {kn g' cap' : Nat} (hO : OnWay B w own j v a K (a.kids.length + 1)) (hkn : kn = a.kids.length) (hA1 : Below w.heap.size w W1) (hg : w.heap.size + 3 ≤ g') (hz : w.heap.size + 3 ≤ W1.heap.size) (hB : B ≤ w.heap.size)
    (hrow : W1.ownsRow B 26 4 (.slice (some ⟨g', 0, none⟩) (kn + 1) cap') (kn + 1) (flat4 K (kn + 1))) (hp2 : Path B w2 own2 (j + 1) (putZ line text lab hd (b :: r)) v2) (hk2 : Kept (j + 1) W1 (newOwn own w.heap.size g' (3 * j + 1)) w2 own2) (hb2 : Below B W1 w2) {y : Nat → Value}
    (hl : LikeW wc (set4 ((set4 w2 g' (kn * 4) v2).setCell ⟨w.heap.size, 3, none⟩ (.slice (some ⟨g', 0, none⟩) (kn + 1) cap')) (w.heap.size + 1 + 1) 0 y)) {x0 x1 x2 : Value} (e0 : v 0 = x0) (e1 : v 1 = x1) (e2 : v 2 = x2) :
    PutOut B j w own (a :: putZ line text lab hd (b :: r)) (.returned (.agg #[x0, x1, x2, .slice (some ⟨g', 0, none⟩) (kn + 1) cap'])) wc := by
  subst hkn
  obtain ⟨c, q, hcq⟩ := putZ_cons line text lab hd b r
  rw [hcq] at hp2 ⊢
  have hw := Path.wrap hO rfl hA1 (by omega) hrow hp2 hk2
  have o0 : own2 w.heap.size = 0 := by
    have h1 := newOwn_ge own (n := w.heap.size) (b := g') (c := 3 * j + 1) (k := w.heap.size) (Nat.le_refl _) (by omega)
    rw [hk2.own w.heap.size (by omega) (by rw [h1]; omega), h1]
  have o2 : own2 (w.heap.size + 1 + 1) = 0 := by
    have h1 := newOwn_ge own (n := w.heap.size) (b := g') (c := 3 * j + 1) (k := w.heap.size + 1 + 1) (by omega) (by omega)
    rw [hk2.own (w.heap.size + 1 + 1) (by omega) (by rw [h1]; omega), h1]
  have hb3 : Below B w (set4 w2 g' (a.kids.length * 4) v2) := by
    have h1 := (hA1.mono hB).trans hb2
    have h2 : B ≤ g' := by omega
    unfold set4
    exact (((h1.setCell (p := ⟨g', a.kids.length * 4, none⟩) h2 _).setCell (p := ⟨g', a.kids.length * 4 + 1, none⟩) h2 _).setCell (p := ⟨g', a.kids.length * 4 + 2, none⟩) h2 _).setCell (p := ⟨g', a.kids.length * 4 + 3, none⟩) h2 _
  have hf := off4 (hw.1.off ⟨w.heap.size, 3, none⟩ (.slice (some ⟨g', 0, none⟩) (a.kids.length + 1) cap') o0) (hw.2.off ⟨w.heap.size, 3, none⟩ (.slice (some ⟨g', 0, none⟩) (a.kids.length + 1) cap') (Nat.le_refl _)) (hb3.setCell (p := ⟨w.heap.size, 3, none⟩) hB _) o2 (by omega) hB y
  have hb := hl.bel (set4 ((set4 w2 g' (a.kids.length * 4) v2).setCell ⟨w.heap.size, 3, none⟩ (.slice (some ⟨g', 0, none⟩) (a.kids.length + 1) cap')) (w.heap.size + 1 + 1) 0 y).heap.size
  refine ⟨putC v 3 (.slice (some ⟨g', 0, none⟩) (a.kids.length + 1) cap'), own2, ?_, hf.1.bel hb, hf.2.1.bel hb, hf.2.2.trans (hl.bel _)⟩
  rw [putC_at, putC_ne _ _ (by omega), putC_ne _ _ (by omega), putC_ne _ _ (by omega), e0, e1, e2]
set_option maxHeartbeats 8000000 in
set_option maxRecDepth 10000 in
theorem put_rec (B : Nat) (line : Bool) (text lab hd : ByteArray) (a b : It) (r : List It) (j : Nat) (own : Nat → Nat) (v : Nat → Value) (w : World) (wa : Option Addr) (wl wc : Nat) (h : Path B w own j (a :: b :: r) v) (hB : B ≤ w.heap.size) (hl : a.kids.length ≤ 1000) (hwl : (wayOf (b :: r)).length = wl) (hw : WayAt w own wa (wayOf (a :: b :: r))) (hc : wl + 1 ≤ wc) (hwb : wl ≤ 1000)
    (ih : ∀ (own : Nat → Nat) (v : Nat → Value) (w : World) (wa : Option Addr) (wc : Nat), Path B w own (j + 1) (b :: r) v → B ≤ w.heap.size → WayAt w own wa (wayOf (b :: r)) → wl ≤ wc →
      Calls Tryz.prog 64 #[.agg #[v 0, v 1, v 2, v 3], .slice wa wl wc, .bool line, .string text, .agg #[.string lab, .string hd, .slice none 0 0, .slice none 0 0]] w fun e w' => PutOut B (j + 1) w own (putZ line text lab hd (b :: r)) e w') :
    Calls Tryz.prog 64 #[.agg #[v 0, v 1, v 2, v 3], .slice wa (wl + 1) wc, .bool line, .string text, .agg #[.string lab, .string hd, .slice none 0 0, .slice none 0 0]] w fun e w' => PutOut B j w own (a :: putZ line text lab hd (b :: r)) e w' := by
  obtain ⟨i0, iz, hi0, hi1, hi2, hi3, hi4⟩ := Tryz.infoItem
  have HI := hidLL (And.intro hi0 (And.intro hi1 (And.intro hi2 (And.intro hi3 hi4))))
  clear hi0 hi1 hi2 hi3 hi4
  obtain ⟨wb, wo, rfl, hwo, cw⟩ := hw 0 a.kids.length rfl
  have HW := hidLL hw.tail
  have HIH := hidLL ih
  have HWL := hidLL hwl
  clear ih hw hwl
  cases h with
  | more _ _ _ _ _ K hO hP =>
    have HP := hidLL hP
    obtain ⟨g, gc, hg3, hgl, hgB⟩ := row_form hO.kd (by omega)
    clear hP
    obtain ⟨la, lc, f2⟩ := row_any hO.ln
    have f3 := hg3
    have f0 := hO.l0
    have f1 := hO.l1
    have HO := hidLL hO
    have HF := hidLL (And.intro f0 (And.intro f1 (And.intro f2 f3)))
    have HPS := hidLL (PutS.start w v lab hd)
    rw [f0, f1, f2, f3] at HPS
    rw [f0, f1, f2, f3]
    clear hg3 f0 f1 f2 f3
    generalize a.label = lb at *
    generalize a.head = hh at *
    obtain ⟨ln, hln⟩ : ∃ ln, ln = a.lines.length := ⟨_, rfl⟩
    obtain ⟨kn, hkn⟩ : ∃ kn, kn = a.kids.length := ⟨_, rfl⟩
    rw [← hkn] at hl cw hO HP
    rw [← hln, ← hkn] at HPS HF
    rw [← hln, ← hkn]
    have HLn := hidLL (And.intro hln hkn)
    clear hln hkn
    go_enter Tryz.func64, Tryz.ntmps64
    go_upto_region 7 with fail
    obtain ⟨W0, hW0⟩ : ∃ W0, W0 = (((w.alloc (.cells #[.string lb, .string hh, .slice la ln lc, .slice (some ⟨g, 0, none⟩) (kn + 1) gc] 26)).alloc (.cells #[.string lab, .string hd, .slice none 0 0, .slice none 0 0] 26)).alloc (.cells #[.string ⟨#[]⟩, .string ⟨#[]⟩, .slice none 0 0, .slice none 0 0] 26)) := ⟨_, rfl⟩
    rw [← hW0] at HPS
    rw [← hW0]
    clear hW0
    have hsz := HPS.out.sz
    have hlb := HPS.out.l
    rw [HF.out.1, HF.out.2.1, HF.out.2.2.1, HF.out.2.2.2] at hlb
    obtain ⟨l0, l1, l2, l3, lf⟩ := four hlb
    obtain ⟨k0, k1, k2, k3, kf⟩ := four HPS.out.k
    obtain ⟨r0, r1, r2, r3, rf⟩ := four HPS.out.r
    have HLb := hidLL hlb
    clear hlb
    have HNW : Hid (∀ (j : Nat) (u : Value), (flat4 K (kn + 1))[j]? = some u → W0.cell? ((⟨g, 0, none⟩ : Addr).add j) = some u) := by
      have h3 := HO.out.kd
      rw [HF.out.2.2.2, ← HLn.out.2] at h3
      intro j u hj
      exact (row_step h3 fun k _ hk => HPS.out.bel.block k hk).cells (g := g) rfl j u hj
    have HOC : Hid (∀ u ∈ flat4 K (kn + 1), u.oneCell' = true) := by
      intro u hu
      unfold flat4 at hu
      obtain ⟨q, hq, rfl⟩ := List.mem_map.1 hu
      have hq2 := List.mem_range.1 hq
      rcases Nat.lt_or_ge (q / 4) kn with h1 | h1
      · exact (HO.out.kl (q / 4) _ (List.getElem?_eq_getElem (by rw [← HLn.out.2]; exact h1))).one _ (by omega)
      · rw [show q / 4 = kn by omega]
        exact HP.out.lies.one _ (by omega)
    obtain ⟨wd, rfl⟩ : ∃ wd, wc = wd + 1 := ⟨wc - 1, by omega⟩
    go_wp2_with (at_builtin; go_loud (refine wpList_append_where _ rfl (.tmp 29) (.tmp 31) 24 rfl B 26 i0 iz 4 80 Tryz.underlying24 HI.out.1 HI.out.2.1 HI.out.2.2.1 HI.out.2.2.2.1 HI.out.2.2.2.2 (by decide) (.slice none 0 0) 0 [] (by simp [Act.eval]) (World.ownsRow_nil _ _ _ _) ⟨g, 0, none⟩ (kn + 1) gc (flat4 K (kn + 1)) (by simp [Act.eval]) (flat4_len _ _) HNW.out HOC.out (by omega) (by unfold maxLen; omega) (by omega) (by omega) ?_))
    intro v' W1 ho hg hw
    obtain ⟨g', cap', hv', hl', hB'⟩ := row_form ho (by omega)
    try rw [Nat.zero_add] at hv'
    try rw [Nat.zero_add] at ho
    try rw [List.nil_append] at ho
    subst hv'
    have hg' : g' = W0.heap.size := by
      rcases hw with hw | hw
      · cases hw
      · have hw2 : g' = w.heap.size + 3 := by injection hw
        omega
    have hbW : Below W0.heap.size W0 W1 := (Below.refl _ _).grown hg (Nat.le_refl _) (fun k hk => by cases hk)
    have hA1 : Below w.heap.size w W1 := HPS.out.bel.trans (hbW.mono (by omega))
    have HRow := hidLL ho
    have HBW := hidLL hbW
    have HA1 := hidLL hA1
    have HG := hidLL hg'
    have hbs := hbW.size
    have hgw : w.heap.size + 3 ≤ g' := by omega
    clear ho hg hw hbW hA1 hg'
    have HC : Hid (∀ W : World, Below W1.heap.size W1 W → Calls Tryz.prog 64 #[.agg #[K kn 0, K kn 1, K kn 2, K kn 3], .slice (if wd = 0 then some ⟨wb, wo, none⟩ else some ⟨wb, wo + 1, none⟩) wl wd, .bool line, .string text, .agg #[.string lab, .string hd, .slice none 0 0, .slice none 0 0]] W fun e w' => PutOut B (j + 1) W (newOwn own w.heap.size g' (3 * j + 1)) (putZ line text lab hd (b :: r)) e w') := fun W hW => by
      have hw2 : Below w.heap.size w W := HA1.out.trans (hW.mono (by have := HA1.out.size; omega))
      have := HG.out
      refine HIH.out _ _ _ _ _ (HP.out.step fun k hk _ => ⟨hw2.block k hk, newOwn_lt own hk (by omega)⟩) (by have := hw2.size; omega) ?_ (by omega)
      split
      · have h0 : (wayOf (b :: r)) = [] := List.eq_nil_of_length_eq_zero (by rw [HWL.out]; omega)
        rw [h0]
        intro i x hx
        cases hx
      · exact HW.out.step fun k hk h0 => ⟨hw2.block k hk, by rw [newOwn_lt own hk (by omega)]; exact h0⟩
    obtain ⟨y0, y1, ⟨ya, yc, y2⟩, ⟨za, zc, y3⟩⟩ := HP.out.forms
    have hcell := fun c (hc : c < 4) => (HRow.out.cellAt (kn * 4 + c) (by omega)).trans (flat4_get K (kn + 1) kn c (by omega) hc)
    have x0 : W1.cell? ⟨g', kn * 4, none⟩ = some (K kn 0) := hcell 0 (by omega)
    have x1 := hcell 1 (by omega)
    have x2 := hcell 2 (by omega)
    have x3 := hcell 3 (by omega)
    have xf := fun i => HRow.out.frozenAt i
    rw [y0] at x0
    rw [y1] at x1
    rw [y2] at x2
    rw [y3] at x3
    rw [y0, y1, y2, y3] at HC
    generalize (closeAll (b :: r)).label = n0 at *
    generalize (closeAll (b :: r)).head = n1 at *
    generalize (closeAll (b :: r)).lines.length = n2 at *
    generalize (closeAll (b :: r)).kids.length = n3 at *
    have hold := fun (b i : Nat) (hb : b < W0.heap.size) => HBW.out.cell (p := ⟨b, i, none⟩) hb
    have holf := fun (b i : Nat) (hb : b < W0.heap.size) => HBW.out.frozen (p := ⟨b, i, none⟩) hb
    have e0 := (hold (w.heap.size + 1) 0 (by omega)).trans k0
    have e1 := (hold (w.heap.size + 1) 1 (by omega)).trans k1
    have e2 := (hold (w.heap.size + 1) 2 (by omega)).trans k2
    have e3 := (hold (w.heap.size + 1) 3 (by omega)).trans k3
    have b0 := (hold w.heap.size 0 (by omega)).trans l0
    have b1 := (hold w.heap.size 1 (by omega)).trans l1
    have b2 := (hold w.heap.size 2 (by omega)).trans l2
    have b3 := (hold w.heap.size 3 (by omega)).trans l3
    have bf := fun i => (holf w.heap.size i (by omega)).trans (lf i)
    have t0 := (hold (w.heap.size + 1 + 1) 0 (by omega)).trans r0
    have t1 := (hold (w.heap.size + 1 + 1) 1 (by omega)).trans r1
    have t2 := (hold (w.heap.size + 1 + 1) 2 (by omega)).trans r2
    have t3 := (hold (w.heap.size + 1 + 1) 3 (by omega)).trans r3
    have tf := fun i => (holf (w.heap.size + 1 + 1) i (by omega)).trans (rf i)
    have HBX := hidLL (And.intro b0 (And.intro b1 (And.intro b2 (And.intro b3 (And.intro bf (And.intro t0 (And.intro t1 (And.intro t2 (And.intro t3 tf)))))))))
    have hz1 : w.heap.size + 3 ≤ W1.heap.size := by omega
    clear b0 b1 b2 b3 bf t0 t1 t2 t3 tf
    have cw1 : W1.cell? ⟨wb, wo, none⟩ = some (.int .i64 kn) := (HA1.out.cell (p := ⟨wb, wo + 0, none⟩) (cell_lt cw)).trans cw
    clear y0 y1 y2 y3 hcell hold holf l0 l1 l2 l3 lf k0 k1 k2 k3 kf r0 r1 r2 r3 rf cw hO
    have hi1 : (kn : Int) < (kn : Int) + 1 := by omega
    have hi2 : (0 : Int) < (wl : Int) + 1 := by omega
    have hi3 : (1 : Int) ≤ (wl : Int) + 1 := by omega
    have hi4 : (wl : Int) + 1 ≤ (wd : Int) + 1 := by omega
    obtain ⟨wx, hwx⟩ : ∃ wx, (if wd = 0 then some (⟨wb, wo, none⟩ : Addr) else some ⟨wb, wo + 1, none⟩) = wx := ⟨_, rfl⟩
    rw [hwx] at HC
    clear HW HIH HWL hgl hgB hB' HBW hbs
    have hn0 : g' ≠ w.heap.size := by omega
    have hn1 : g' ≠ w.heap.size + 1 + 1 := by omega
    have hm0 : w.heap.size ≠ g' := by omega
    have hm1 : w.heap.size + 1 + 1 ≠ g' := by omega
    go_wp2_with fail
    go_region_with
      (first
        | (go_at_call 64
           refine (HC.out _ ?_).mono ?_
           · first | exact (Below.refl _ _).drew | exact Below.refl _ _
           rintro e w2 ⟨v2, own2, rfl, hp2, hk2, hb2⟩
           obtain ⟨f0, f1, ⟨fa, fc, f2⟩, ⟨ga, gd, f3⟩⟩ := hp2.forms
           rw [f0, f1, f2, f3]
           have hk3 : ∀ k, k < W1.heap.size → newOwn own w.heap.size g' (3 * j + 1) k < 3 * (j + 1) + 1 → w2.heap[k]? = W1.heap[k]? := hk2.blk
           have HH := hidLL (And.intro hp2 (And.intro hk2 (And.intro hb2 (And.intro f0 (And.intro f1 (And.intro f2 f3))))))
           have x0' := (World.cell?_of_block (a := ⟨g', kn * 4, none⟩) (hk3 g' hl' (by rw [newOwn_at]; omega))).trans x0
           have x1' := (World.cell?_of_block (a := ⟨g', kn * 4 + 1, none⟩) (hk3 g' hl' (by rw [newOwn_at]; omega))).trans x1
           have x2' := (World.cell?_of_block (a := ⟨g', kn * 4 + 2, none⟩) (hk3 g' hl' (by rw [newOwn_at]; omega))).trans x2
           have x3' := (World.cell?_of_block (a := ⟨g', kn * 4 + 3, none⟩) (hk3 g' hl' (by rw [newOwn_at]; omega))).trans x3
           have xf' := fun i => (World.frozen?_of_block (a := ⟨g', i, none⟩) (hk3 g' hl' (by rw [newOwn_at]; omega))).trans (xf i)
           have cw2 : w2.cell? ⟨wb, wo, none⟩ = some (.int .i64 kn) := (World.cell?_of_block (a := ⟨wb, wo, none⟩) (hk3 wb (cell_lt cw1) (by have := HG.out; unfold newOwn; split; omega; split; omega; omega))).trans cw1
           generalize (closeAll (putZ line text lab hd (b :: r))).label = o0 at *
           generalize (closeAll (putZ line text lab hd (b :: r))).head = o1 at *
           generalize (closeAll (putZ line text lab hd (b :: r))).lines.length = o2 at *
           generalize (closeAll (putZ line text lab hd (b :: r))).kids.length = o3 at *
           have ha := fun i => World.cell?_of_block (a := ⟨w.heap.size, i, none⟩) (hk3 w.heap.size (by omega) (by rw [newOwn_ge _ (Nat.le_refl _) hm0]; omega))
           have hb := fun i => World.frozen?_of_block (a := ⟨w.heap.size, i, none⟩) (hk3 w.heap.size (by omega) (by rw [newOwn_ge _ (Nat.le_refl _) hm0]; omega))
           have hc := fun i => World.cell?_of_block (a := ⟨w.heap.size + 1 + 1, i, none⟩) (hk3 (w.heap.size + 1 + 1) (by omega) (by rw [newOwn_ge _ (by omega) hm1]; omega))
           have hd := fun i => World.frozen?_of_block (a := ⟨w.heap.size + 1 + 1, i, none⟩) (hk3 (w.heap.size + 1 + 1) (by omega) (by rw [newOwn_ge _ (by omega) hm1]; omega))
           have b0 := (ha 0).trans HBX.out.1
           have b1 := (ha 1).trans HBX.out.2.1
           have b2 := (ha 2).trans HBX.out.2.2.1
           have b3 := (ha 3).trans HBX.out.2.2.2.1
           have bf := fun i => (hb i).trans (HBX.out.2.2.2.2.1 i)
           have t0 := (hc 0).trans HBX.out.2.2.2.2.2.1
           have t1 := (hc 1).trans HBX.out.2.2.2.2.2.2.1
           have t2 := (hc 2).trans HBX.out.2.2.2.2.2.2.2.1
           have t3 := (hc 3).trans HBX.out.2.2.2.2.2.2.2.2.1
           have tf := fun i => (hd i).trans (HBX.out.2.2.2.2.2.2.2.2.2 i)
           clear hp2 hk2 hb2 f0 f1 f2 f3 hk3 ha hb hc hd))
    all_goals
      go_wp2
      refine bodyPost_ret (v := .agg #[.string lb, .string hh, .slice la ln lc, .slice (some ⟨g', 0, none⟩) (kn + 1) cap']) (by simp [results, Tryz.results64, go_sem, t0, t1, t2, t3]) rfl ?_
      obtain ⟨hp2, hk2, hb2, f0, f1, f2, f3⟩ := HH.out
      refine put_end HO.out HLn.out.2 HA1.out hgw hz1 hB HRow.out hp2 ⟨hk2.blk, hk2.own, hk2.size⟩ ⟨hb2.os, hb2.tape, hb2.output, hb2.size, hb2.block⟩ (y := vec4 (.string lb) (.string hh) (.slice la ln lc) (.slice (some ⟨g', 0, none⟩) (kn + 1) cap')) ?_ HF.out.1 HF.out.2.1 HF.out.2.2.1
      unfold set4
      rw [f0, f1, f2, f3]
      exact ⟨rfl, rfl, rfl, rfl⟩
end Go.Proofs.YtgfaeeacndpniaaGreatDoor
