/-
  Package amend: Apply.
-/
import Derived.Test.YtpbolcjcmkmalaaGreatDoorCo34
import Derived.Test.YtpbolcjcmkmalaaGreatDoorCo16
namespace Go.Proofs.YtpbolcjcmkmalaaGreatDoor
open Go.RowKit Go.Extern.Stop Go.Stop Go.Extern

/-- Changes that lie in memory, as an argument has them. -/
def OpsIn (w : World) (N : Nat) (oa : Option Addr) (ops : List OpW) : Prop := ∀ i op, ops[i]? = some op → ∃ b o iv, oa = some ⟨b, o, none⟩ ∧ b < N ∧ (∀ c u, (opV op iv)[c]? = some u → w.cell? ⟨b, o + i * 10 + c, none⟩ = some u) ∧ SrcT w N False iv op.item ∧ wtI op.item ≤ 600 ∧ FewIt op.item ∧ OpOk op
theorem OpsIn.on {w w' : World} {N : Nat} {oa : Option Addr} {ops : List OpW} (h : OpsIn w N oa ops) (hb : ∀ k, k < N → w'.heap[k]? = w.heap[k]?) : OpsIn w' N oa ops := fun i op hi => by
  obtain ⟨b, o, iv, e, hN, hc, hs, h1, h2, h3⟩ := h i op hi
  exact ⟨b, o, iv, e, hN, fun c u hu => (World.cell?_of_block (a := ⟨b, o + i * 10 + c, none⟩) (hb b hN)).trans (hc c u hu), hs.on hb, h1, h2, h3⟩
/-- What Apply comes to. -/
inductive POut where
  | no (c : Nat)
  | bad (i c : Nat)
  | ok (t : It)
noncomputable def applyC (t : It) (ops : List OpW) : POut := match vIt 0 0 [] t with
  | .bad c => .no c
  | .ok _ => if 100 < ops.length then .no 2 else match allC 0 t ops with
    | .bad i c => .bad i c
    | .ok u => .ok u
def zI : Value := .agg #[.string ⟨#[]⟩, .string ⟨#[]⟩, .slice none 0 0, .slice none 0 0]
def ApR (w : World) (p : Nat → Addr) (r : POut) (e : Ending) (w' : World) : Prop := Below w.heap.size w w' ∧ match r with
  | .no c => ∃ k, c = k + 1 ∧ k < 11 ∧ e = .returned (.tuple #[zI, errI (p k)])
  | .bad i c => ∃ k g, c = k + 1 ∧ k < 11 ∧ e = .returned (.tuple #[zI, .iface 52 (.pointer (some ⟨g, 0, none⟩))]) ∧ w'.heap[g]? = some (.cells #[.int .i64 i, errI (p k)] 54 (0, 0)) ∧ w.heap.size ≤ g
  | .ok u => ∃ v' S, e = .returned (.tuple #[.agg #[v' 0, v' 1, v' 2, v' 3], .nilIface]) ∧ Own w' w.heap.size v' u S
theorem ap_no {t : It} {ops : List OpW} {c : Nat} (h : vIt 0 0 [] t = .bad c) : applyC t ops = .no c := by unfold applyC; rw [h]
theorem ap_many {t : It} {ops : List OpW} {m : Nat} (h : vIt 0 0 [] t = .ok m) (hn : 100 < ops.length) : applyC t ops = .no 2 := by
  unfold applyC; rw [h]; exact if_pos hn
theorem ap_bad {t : It} {ops : List OpW} {m i c : Nat} (h : vIt 0 0 [] t = .ok m) (hn : ¬ 100 < ops.length) (ha : allC 0 t ops = .bad i c) : applyC t ops = .bad i c := by
  unfold applyC; rw [h]; simp only [if_neg hn, ha]
theorem ap_ok {t u : It} {ops : List OpW} {m : Nat} (h : vIt 0 0 [] t = .ok m) (hn : ¬ 100 < ops.length) (ha : allC 0 t ops = .ok u) : applyC t ops = .ok u := by
  unfold applyC; rw [h]; simp only [if_neg hn, ha]
theorem results_cell_two {P : Program} {fn : Func} {p q : Tmp} {ty : TypeId} (h : fn.results = #[.cell p ty, .tmp q]) (tmps : Array Value) (w : World) (g : Nat) (t : TypeId) (cs : Array Value) (fr : Nat × Nat) (d : TypeDesc) (u : Value)
    (hp : tmps.getD p undef = .pointer (some ⟨g, 0, none⟩)) (hq : tmps.getD q undef = u) (hg : w.heap[g]? = some (.cells cs t fr))
    (hu : P.underlying ty = some d) (hd : (match d with | .struct _ | .array _ _ => true | _ => false) = true) (hi : (P.info? ty).map (·.size) = some cs.size) :
    (results fn tmps).run P w = .ok (.tuple #[.agg cs, u]) w := by
  have hp' : tmps[p]?.getD undef = .pointer (some ⟨g, 0, none⟩) := by simpa using hp
  have hq' : tmps[q]?.getD undef = u := by simpa using hq
  simp [results, h, hp', hq', asAddr, run_loadVar_row w g t ty cs fr d hg hu hd hi]
set_option maxHeartbeats 8000000 in
set_option maxRecDepth 20000 in
theorem apply_a {w : World} {N : Nat} {ex : Prop} {t : It} {v : Nat → Value} (hv : SrcT w N ex v t) (hN : N ≤ w.heap.size) (hz : wtI t ≤ 400000) (hx : ex ∨ wtI t ≤ 600) (hF : FewIt t) {ops : List OpW} {oa : Option Addr} {oc : Nat} (ho : OpsIn w N oa ops) (hn : ops.length ≤ 1000) {p : Nat → Addr} {m : Int} (hE : Env w p m) :
    Calls Tryz.prog 9 #[.agg #[v 0, v 1, v 2, v 3], .slice oa ops.length oc] w (ApR w p (applyC t ops)) := by
  have R1 := fun c => ap_no (t := t) (ops := ops) (c := c)
  have R2 := fun m => ap_many (t := t) (ops := ops) (m := m)
  have R3 := fun m i c => ap_bad (t := t) (ops := ops) (m := m) (i := i) (c := c)
  have R4 := fun u m => ap_ok (t := t) (u := u) (ops := ops) (m := m)
  generalize applyC t ops = r at *
  obtain ⟨f0, f1, la, lc, f2, _⟩ := hv.texts
  obtain ⟨ka, kc, K, hfk⟩ := hv.fk
  have f3 := hfk.is
  have hv4 : #[v 0, v 1, v 2, v 3] = #[.string t.label, .string t.head, .slice la t.lines.length lc, .slice ka t.kids.length kc] := by rw [f0, f1, f2, f3]
  obtain ⟨W2, hW2⟩ : ∃ W2, W2 = (w.alloc (.cells #[.string t.label, .string t.head, .slice la t.lines.length lc, .slice ka t.kids.length kc] itT)).alloc (.cells #[.string ⟨#[]⟩, .string ⟨#[]⟩, .slice none 0 0, .slice none 0 0] itT) := ⟨_, rfl⟩
  have hs2 : W2.heap.size = w.heap.size + 2 := by rw [hW2]; simp
  have hb2 : Below w.heap.size w W2 := by rw [hW2]; exact ((Below.refl _ _).alloc (Nat.le_refl _) _).alloc (by simp) _
  have hg0 : W2.heap[w.heap.size]? = some (.cells #[.string t.label, .string t.head, .slice la t.lines.length lc, .slice ka t.kids.length kc] itT (0, 0)) := by
    rw [hW2, Below.heap_alloc _ _ _ (by simp)]
    exact heap_alloc_new _ _
  have hg1 : W2.heap[w.heap.size + 1]? = some (.cells #[.string ⟨#[]⟩, .string ⟨#[]⟩, .slice none 0 0, .slice none 0 0] itT (0, 0)) := by
    rw [hW2]
    have := heap_alloc_new (w.alloc (.cells #[.string t.label, .string t.head, .slice la t.lines.length lc, .slice ka t.kids.length kc] itT)) (.cells #[.string ⟨#[]⟩, .string ⟨#[]⟩, .slice none 0 0, .slice none 0 0] itT)
    rw [show (w.alloc (.cells #[.string t.label, .string t.head, .slice la t.lines.length lc, .slice ka t.kids.length kc] itT)).heap.size = w.heap.size + 1 by simp] at this
    exact this
  have hV := valid_any t hF p m W2 (hE.on hb2) _ v ((hv.on fun k hk => hb2.block k (by omega)).lies)
  have hCp : ∀ W, Below W2.heap.size W2 W → Calls Tryz.prog 17 #[.agg #[.string t.label, .string t.head, .slice la t.lines.length lc, .slice ka t.kids.length kc]] W fun e w' => ∃ v' S, e = .returned (.agg #[v' 0, v' 1, v' 2, v' 3]) ∧ Own w' W.heap.size v' t S ∧ Below W.heap.size W w' := fun W hW => by
    rw [← hv4]
    exact copy_a (hv.on fun q hq => (hW.block q (by omega)).trans (hb2.block q (by omega))) (by have := hW.size; omega) hz hx
  rw [f0, f1, f2, f3] at hV
  rw [hv4]
  obtain ⟨x0, x1, x2, x3, xf⟩ := four hg0
  have HX := hidLL hW2
  have HB := hidLL (And.intro hb2 (And.intro hg1 hs2))
  have HV := hidLL hV
  have HCp := hidLL hCp
  have HEn := hidLL (fun w' (hb : Below w.heap.size w w') => hE.on hb)
  have HOp := hidLL ho
  have HG0 := hidLL hg0
  have hr1 : w.heap.size < W2.heap.size := by omega
  have HR := hidLL (And.intro R1 (And.intro R2 (And.intro R3 R4)))
  have HN := hidLL hN
  obtain ⟨n, hnn⟩ : ∃ n, n = ops.length := ⟨_, rfl⟩
  have HNn := hidLL hnn
  rw [← hnn] at hn ⊢
  clear hW2 hb2 hg0 hg1 hs2 hV hCp hfk f0 f1 f2 f3 hv4 hx hz hN hv R1 R2 R3 R4 hE ho hF hnn
  go_enter Tryz.func9, Tryz.ntmps9
  go_upto_region 1 with fail
  rw [← HX.out]
  go_wp2_with fail
  refine HV.out.mono ?_
  rintro e w3 ⟨hvt, hb3⟩
  have HB3 := hidLL hb3
  clear hb3
  cases hvi : vIt 0 0 [] t with
  | bad c =>
    rw [hvi] at hvt
    obtain ⟨k, hcc, hkk, rfl⟩ := hvt
    have HO := hidLL (HR.out.1 c hvi)
    have HCC := hidLL (And.intro hcc hkk)
    have q1 := (HB3.out.block (w.heap.size + 1) (by have := HB.out.2.2; omega)).trans HB.out.2.1
    obtain ⟨z0, z1, z2, z3, zf⟩ := four q1
    clear hvi hcc hkk x0 x1 x2 x3 xf
    unfold errI
    go_wp2
    refine bodyPost_ret (v := .tuple #[zI, errI (p k)]) (results_cell_two Tryz.results9 _ _ (w.heap.size + 1) itT #[.string ⟨#[]⟩, .string ⟨#[]⟩, .slice none 0 0, .slice none 0 0] (0, 0) _ _ rfl rfl (set4c q1) Tryz.underlying25 rfl rfl) rfl ?_
    rw [HO.out]
    have hb3 := HB.out.1.trans (HB3.out.mono HB.out.1.size)
    exact ⟨⟨hb3.os, hb3.tape, hb3.output, by simpa using hb3.size, fun q hq => (set4_far (by omega)).trans (hb3.block q hq)⟩, k, HCC.out.1, HCC.out.2, rfl⟩
  | ok mm =>
    rw [hvi] at hvt
    have hvt : e = _ := hvt
    subst hvt
    by_cases hbig : 100 < n
    · have hbz : (100 : Int) < (n : Int) := by omega
      have HO := hidLL (HR.out.2.1 mm hvi (by have := HNn.out; omega))
      have q1 := (HB3.out.block (w.heap.size + 1) (by have := HB.out.2.2; omega)).trans HB.out.2.1
      obtain ⟨z0, z1, z2, z3, zf⟩ := four q1
      have hb3 := HB.out.1.trans (HB3.out.mono HB.out.1.size)
      have e1 : w3.cell? ⟨0, 0, none⟩ = some (.iface 214 (.pointer (some (p 1)))) := (HEn.out _ hb3).L.cell 1 (by omega)
      have HBb := hidLL hb3
      have hne : ¬ 0 = w.heap.size + 1 := by have : 0 < w.heap.size := cell_lt ((HEn.out _ (Below.refl _ _)).L.cell 1 (by omega)); omega
      clear hvi hb3 x0 x1 x2 x3 xf
      go_wp2_with fail
      go_region
      all_goals go_wp2
      all_goals refine bodyPost_ret (v := .tuple #[zI, errI (p 1)]) (results_cell_two Tryz.results9 _ _ (w.heap.size + 1) itT #[.string ⟨#[]⟩, .string ⟨#[]⟩, .slice none 0 0, .slice none 0 0] (0, 0) _ _ (by rfl) (by rfl) (set4c (W := w3.drew) q1) Tryz.underlying25 rfl rfl) rfl ?_
      all_goals rw [HO.out]
      all_goals refine ⟨⟨HBb.out.os, HBb.out.tape, HBb.out.output, by simpa using HBb.out.size, fun q hq => (set4_far (W := w3.drew) (by omega)).trans (HBb.out.block q hq)⟩, 1, rfl, by omega, rfl⟩
    · have hbz : ¬ (100 : Int) < (n : Int) := by omega
      have hnb : ¬ 100 < ops.length := by have := HNn.out; omega
      have HR3 := hidLL (fun i c => HR.out.2.2.1 mm i c hvi hnb)
      have HR4 := hidLL (fun u => HR.out.2.2.2 u mm hvi hnb)
      have HLaw : Hid (Law t) := law_iff.2 ⟨mm, hvi⟩
      have z0 := (HB3.out.cell (p := ⟨w.heap.size, 0, none⟩) (cell_lt x0)).trans x0
      have z1 := (HB3.out.cell (p := ⟨w.heap.size, 1, none⟩) (cell_lt x1)).trans x1
      have z2 := (HB3.out.cell (p := ⟨w.heap.size, 2, none⟩) (cell_lt x2)).trans x2
      have z3 := (HB3.out.cell (p := ⟨w.heap.size, 3, none⟩) (cell_lt x3)).trans x3
      have HC3 := hidLL (HCp.out w3 HB3.out)
      clear hvi hnb x0 x1 x2 x3 xf HCp HV HR
      go_wp2_with fail
      refine HC3.out.mono ?_
      rintro e w4 ⟨v', S, rfl, hown, hb4⟩
      obtain ⟨g0, g1, ⟨la', lc', g2⟩, ka', kc', g3⟩ := hown.lies.forms
      have HG := hidLL (And.intro g0 (And.intro g1 (And.intro g2 g3)))
      have HOwn := hidLL hown
      have HB4 := hidLL (HB3.out.trans (hb4.mono HB3.out.size))
      rw [g0, g1, g2, g3]
      clear z0 z1 z2 z3 hown hb4 g0 g1 g2 g3 HC3
      obtain ⟨W5, hW5⟩ : ∃ W5, W5 = w4.alloc (.cells #[.string t.label, .string t.head, .slice la' t.lines.length lc', .slice ka' t.kids.length kc'] itT) := ⟨_, rfl⟩
      have HW5 := hidLL hW5
      clear hW5
      go_upto_region 7 with fail
      rw [← HW5.out]
      have hb5 : Below w4.heap.size w4 W5 := by rw [HW5.out]; exact (Below.refl _ _).alloc (Nat.le_refl _) _
      have hat : ItAt W5 W2.heap.size w4.heap.size 0 t S v' := by
        refine ⟨⟨_, itT, by rw [HW5.out]; exact heap_alloc_new _ _, fun c hc => ?_⟩, ((HOwn.out.base (by have := HB3.out.size; omega)).step (fun g hg => hb5.block g (HOwn.out.in g hg).2) hb5.size), fun e => by have := HOwn.out.in _ e; omega⟩
        match c, hc with
        | 0, _ => rw [HG.out.1]; rfl
        | 1, _ => rw [HG.out.2.1]; rfl
        | 2, _ => rw [HG.out.2.2.1]; rfl
        | 3, _ => rw [HG.out.2.2.2]; rfl
      have hbL : W2.heap.size ≤ w4.heap.size := HB4.out.size
      have HAt := hidLL hat
      have HB5 := hidLL (HB4.out.trans (hb5.mono hbL))
      clear hat hb5 HG HOwn HW5 HB4 HG0 HX
      generalize w4.heap.size = bL at *
      go_wp2_with fail
      go_loopw [26] (fun t' wr => ∃ (j : Nat) (u : It) (S' : Nat → Prop) (vv : Nat → Value), j ≤ n ∧ t' = .int .i64 j ∧ Below W2.heap.size W2 wr ∧ ItAt wr W2.heap.size bL 0 u S' vv ∧ Law u ∧ allC 0 t ops = allC j u (ops.drop j)) (fun t' _ => (n - RowKit.intOf t').toNat)
      case atStart => exact ⟨0, t, S, v', by omega, rfl, HB5.out, HAt.out, HLaw.out, rfl⟩
      case round =>
        obtain ⟨j, u, S', vv, hj, rfl, hb, hat, hlw, hall⟩ := hrel
        have HB6 := hidLL hb
        have HAt6 := hidLL hat
        have HL6 := hidLL hlw
        have HAll := hidLL hall
        clear hb hat hlw hall
        by_cases hjn : j < n
        · have hjz : (j : Int) < n := by omega
          obtain ⟨op, hop⟩ : ∃ op, ops[j]? = some op := ⟨_, List.getElem?_eq_getElem (by have := HNn.out; omega)⟩
          obtain ⟨ob, oo, iv, rfl, hbN, hcs, hsr, hw6, hfi, hok⟩ := HOp.out j op hop
          obtain ⟨f0, f1, ⟨ila, ilc, f2⟩, ika, ikc, f3⟩ := hsr.lies.forms
          have hbw6 : Below w.heap.size w wr := HB.out.1.trans (HB6.out.mono HB.out.1.size)
          have hcw : ∀ c u, (opV op iv)[c]? = some u → wr.cell? ⟨ob, oo + j * 10 + c, none⟩ = some u := fun c u hu => (World.cell?_of_block (a := ⟨ob, oo + j * 10 + c, none⟩) (hbw6.block ob (by have := HN.out; omega))).trans (hcs c u hu)
          unfold opV at hcw
          rw [f0, f1, f2, f3] at hcw
          have y0 := hcw 0 _ rfl
          have y1 := hcw 1 _ rfl
          have y2 := hcw 2 _ rfl
          have y3 := hcw 3 _ rfl
          have y4 := hcw 4 _ rfl
          have y5 := hcw 5 _ rfl
          have y6 := hcw 6 _ rfl
          have y7 := hcw 7 _ rfl
          have y8 := hcw 8 _ rfl
          have y9 := hcw 9 _ rfl
          rw [Nat.add_zero] at y0
          have hB2 : W2.heap.size ≤ wr.heap.size := HB6.out.size
          obtain ⟨Wq, hWq⟩ : ∃ Wq, Wq = wr.alloc (.cells (opV op iv) 46) := ⟨_, rfl⟩
          have hbq : Below wr.heap.size wr Wq := by rw [hWq]; exact (Below.refl _ _).alloc (Nat.le_refl _) _
          have hq1 : Wq.heap[wr.heap.size]? = some (.cells (opV op iv) 46 (0, 0)) := by rw [hWq]; exact heap_alloc_new _ _
          have hbwq : Below W2.heap.size W2 Wq := HB6.out.trans (hbq.mono hB2)
          have hsq : SrcT Wq W2.heap.size False iv op.item := (hsr.on fun k hk => ((hbw6.trans (hbq.mono hbw6.size)).block k (by have := HN.out; omega))).mono (by have := HB.out.2.2; have := HN.out; omega)
          have hch := change_a (HAt6.out.on hbq) HL6.out (Nat.le_trans hB2 hbq.size) hbL (p := p) (m := m) (fun w' hw' => HEn.out w' (HB.out.1.trans ((hbwq.trans hw').mono HB.out.1.size))) op hok iv hsq (by omega) (.inr hw6) hfi
          unfold opV at hch hWq hq1
          rw [f0, f1, f2, f3] at hch hWq hq1
          have HWq := hidLL hWq
          have HQ := hidLL (And.intro hbq (And.intro hbwq hq1))
          have HCh := hidLL hch
          have HOpj := hidLL hop
          clear hop hbN hcs hsr hw6 hfi hok f0 f1 f2 f3 hbw6 hcw hWq hbq hq1 hbwq hsq hch
          generalize hkd : op.kind = kd at *
          generalize hpt : op.path = opt at *
          generalize hat9 : op.at' = oat at *
          generalize htx : op.text = otx at *
          generalize hnw : op.new = onw at *
          generalize hli : op.line = oli at *
          generalize hil : op.item.label = oil at *
          generalize hih : op.item.head = oih at *
          generalize hiln : op.item.lines.length = oiln at *
          generalize hikn : op.item.kids.length = oikn at *
          clear hkd hpt hat9 htx hnw hli hil hih hiln hikn
          go_upto_region 10 with fail
          rw [← HWq.out]
          obtain ⟨x0, x1, x2, x3, x4, x5, x6, x7, x8, x9⟩ := ten HQ.out.2.2
          clear y0 y1 y2 y3 y4 y5 y6 y7 y8 y9
          go_wp2_with fail
          refine HCh.out.mono ?_
          rintro e w7 hch
          clear x0 x1 x2 x3 x4 x5 x6 x7 x8 x9
          have hdrop : ops.drop j = op :: ops.drop (j + 1) := by
            obtain ⟨h1, h2⟩ := List.getElem?_eq_some_iff.1 HOpj.out
            rw [← h2]
            exact List.drop_eq_getElem_cons h1
          cases hone : oneC u op with
          | bad c =>
            rw [hone] at hch
            obtain ⟨hc0, heo, hb7⟩ := hch
            unfold EO at heo
            rw [if_neg hc0] at heo
            obtain ⟨k, hck, hk11, rfl⟩ := heo
            have HO := hidLL (HR3.out j c (by rw [HAll.out, hdrop, allC, hone]))
            have HCK := hidLL (And.intro hck hk11)
            have hbq7 : Below W2.heap.size W2 w7 := HQ.out.2.1.trans hb7
            have q1 := (hbq7.block (w.heap.size + 1) (by have := HB.out.2.2; omega)).trans HB.out.2.1
            obtain ⟨z0, z1, z2, z3, zf⟩ := four q1
            have HB7 := hidLL hbq7
            have hlt7 : w.heap.size + 1 < w7.heap.size := (Array.getElem?_eq_some_iff.1 q1).1
            have hne7 : ¬ w.heap.size + 1 = w7.heap.size := by omega
            have HQ1 := hidLL q1
            clear hone hck hk11 hc0 hb7 hbq7 hdrop q1 HR4 HCh HWq HAll
            unfold errI
            go_wp2
            have h4s : ∀ q, q ≠ w.heap.size + 1 → ((((w7.setCell ⟨w.heap.size + 1, 0, none⟩ (.string ⟨#[]⟩)).setCell ⟨w.heap.size + 1, 1, none⟩ (.string ⟨#[]⟩)).setCell ⟨w.heap.size + 1, 2, none⟩ (.slice none 0 0)).setCell ⟨w.heap.size + 1, 3, none⟩ (.slice none 0 0)).heap[q]? = w7.heap[q]? := fun q hq => set4_far hq
            have hsz : ((((w7.setCell ⟨w.heap.size + 1, 0, none⟩ (.string ⟨#[]⟩)).setCell ⟨w.heap.size + 1, 1, none⟩ (.string ⟨#[]⟩)).setCell ⟨w.heap.size + 1, 2, none⟩ (.slice none 0 0)).setCell ⟨w.heap.size + 1, 3, none⟩ (.slice none 0 0)).heap.size = w7.heap.size := by simp
            have h4c := set4c (W := w7) (u0 := .string ⟨#[]⟩) (u1 := .string ⟨#[]⟩) (u2 := .slice none 0 0) (u3 := .slice none 0 0) HQ1.out
            refine bodyPost_ret (v := .tuple #[zI, .iface 52 (.pointer (some ⟨w7.heap.size, 0, none⟩))]) (results_cell_two Tryz.results9 _ _ (w.heap.size + 1) itT #[.string ⟨#[]⟩, .string ⟨#[]⟩, .slice none 0 0, .slice none 0 0] (0, 0) _ _ rfl rfl ((Below.heap_alloc _ _ _ (by rw [hsz]; omega)).trans h4c) Tryz.underlying25 rfl rfl) rfl ?_
            rw [HO.out]
            have hb8 := HB.out.1.trans (HB7.out.mono HB.out.1.size)
            refine ⟨⟨hb8.os, hb8.tape, hb8.output, by have := hb8.size; simp; omega, fun q hq => ?_⟩, k, w7.heap.size, HCK.out.1, HCK.out.2, rfl, ?_, by omega⟩
            · rw [Below.heap_alloc _ _ _ (by rw [hsz]; omega), h4s q (by omega)]
              exact hb8.block q hq
            · have := heap_alloc_new ((((w7.setCell ⟨w.heap.size + 1, 0, none⟩ (.string ⟨#[]⟩)).setCell ⟨w.heap.size + 1, 1, none⟩ (.string ⟨#[]⟩)).setCell ⟨w.heap.size + 1, 2, none⟩ (.slice none 0 0)).setCell ⟨w.heap.size + 1, 3, none⟩ (.slice none 0 0)) (.cells #[.int .i64 j, errI (p k)] 54)
              rw [hsz] at this
              exact this
          | ok u2 =>
            rw [hone] at hch
            obtain ⟨rfl, S7, v7, hat7, hS7, hu7⟩ := hch
            have HA7 := hidLL (And.intro hat7 (law_one HL6.out hone))
            have HAll7 : Hid (allC 0 t ops = allC (j + 1) u2 (ops.drop (j + 1))) := by
              show _ = _
              rw [HAll.out, hdrop, allC, hone]
            have hb7 : Below W2.heap.size W2 w7 := HQ.out.2.1.trans (hu7.below hbL (fun q hq => (HAt6.out.own.in q hq).1) (Nat.le_trans hB2 HQ.out.1.size))
            have HB7 := hidLL hb7
            clear hone hdrop hat7 hS7 hu7 hb7 HCh HWq HAll
            go_wp2
            go_roundw
            case rel => exact ⟨j + 1, u2, S7, v7, by omega, by go_num, HB7.out, HA7.out.1, HA7.out.2, HAll7.out⟩
            case measure => simp [RowKit.intOf]; omega
        · obtain rfl : j = n := by omega
          have hall2 : allC 0 t ops = .ok u := by
            rw [HAll.out, HNn.out, List.drop_length, allC]
          have HO := hidLL (HR4.out u hall2)
          obtain ⟨g0, g1, ⟨ua, uc, g2⟩, uka, ukc, g3⟩ := HAt6.out.own.lies.forms
          have y0 := HAt6.out.cell (c := 0) (by omega)
          have y1 := HAt6.out.cell (c := 1) (by omega)
          have y2 := HAt6.out.cell (c := 2) (by omega)
          have y3 := HAt6.out.cell (c := 3) (by omega)
          rw [g0] at y0
          rw [g1] at y1
          rw [g2] at y2
          rw [g3] at y3
          have q1 := (HB6.out.block (w.heap.size + 1) (by have := HB.out.2.2; omega)).trans HB.out.2.1
          obtain ⟨z0, z1, z2, z3, zf⟩ := four q1
          have HQ1 := hidLL q1
          have HG := hidLL (And.intro g0 (And.intro g1 (And.intro g2 g3)))
          have hs2 := HB.out.2.2
          clear hall2 g0 g1 g2 g3 q1 HR3 HAll
          go_wp2
          refine bodyPost_ret (v := .tuple #[.agg #[.string u.label, .string u.head, .slice ua u.lines.length uc, .slice uka u.kids.length ukc], .nilIface]) (results_cell_two Tryz.results9 _ _ (w.heap.size + 1) itT #[.string u.label, .string u.head, .slice ua u.lines.length uc, .slice uka u.kids.length ukc] (0, 0) _ _ rfl rfl (set4c HQ1.out) Tryz.underlying25 rfl rfl) rfl ?_
          rw [HO.out]
          have hb8 := HB.out.1.trans (HB6.out.mono HB.out.1.size)
          refine ⟨⟨hb8.os, hb8.tape, hb8.output, by simpa using hb8.size, fun q hq => (set4_far (by omega)).trans (hb8.block q hq)⟩, vv, S', by rw [HG.out.1, HG.out.2.1, HG.out.2.2.1, HG.out.2.2.2], ?_⟩
          exact ((HAt6.out.own.base (by omega)).step (fun q hq => set4_far (by have := (HAt6.out.own.in q hq).1; omega)) (by simp))
end Go.Proofs.YtpbolcjcmkmalaaGreatDoor
