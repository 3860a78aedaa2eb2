/-
  Package amend: Apart: whether nothing that is touched by one of two lists of changes meets what the other one touches.
-/
import Derived.Test.YtpbolcjcmkmalaaGreatDoorCo39
import Derived.Test.YtpbolcjcmkmalaaGreatDoorCo35
import Derived.Test.YtpbolcjcmkmalaaGreatDoorCo15
import Derived.BigQuiet
import Derived.Deep.QuietTactic
import Derived.Test.YtpbolcjcmkmalaaGreatDoorCo36
import Derived.Deep.DeepCutAuto
import Derived.Deep.RegionHeld3
import Derived.Test.YtpbolcjcmkmalaaGreatDoorCo14
import Derived.SevenTiedAt
namespace Go.Proofs.YtpbolcjcmkmalaaGreatDoor
open Go.RowKit Go.Extern.Stop Go.Stop Go.Extern

/-- The things of a row, at their places. -/
def TAt (w : World) (a : Option Addr) (l : List Thg) : Prop := ∀ i x, l[i]? = some x → ∃ g o, a = some ⟨g, o, none⟩ ∧ w.cell? ⟨g, o + i * 2, none⟩ = some (.int .i64 x.1) ∧ w.cell? ⟨g, o + i * 2 + 1, none⟩ = some (.string x.2)
theorem TAt.below {w w' : World} {a : Option Addr} {l : List Thg} (h : TAt w a l) (hb : Below w.heap.size w w') : TAt w' a l := fun i x hi => by
  obtain ⟨g, o, e, h1, h2⟩ := h i x hi
  exact ⟨g, o, e, (hb.cell (p := ⟨g, o + i * 2, none⟩) (cell_lt h1)).trans h1, (hb.cell (p := ⟨g, o + i * 2 + 1, none⟩) (cell_lt h2)).trans h2⟩
theorem TRow.at {w : World} {B : Nat} {v : Value} {l : List Thg} (h : TRow w B v l) : ∃ a c, v = .slice a l.length c ∧ TAt w a l := by
  have h0 := h.row
  rcases h.row.2 with ⟨rfl, e⟩ | ⟨g, cap, cur, rfl, _⟩
  · exact ⟨none, 0, by rw [e], fun i x hi => by have := (List.getElem?_eq_some_iff.1 hi).1; omega⟩
  · refine ⟨_, _, rfl, fun i x hi => ⟨g, 0, rfl, ?_⟩⟩
    obtain ⟨h1, h2⟩ := thC_get l i x hi
    have k1 := World.ownsRow.cells h0 (g := g) rfl _ _ h1
    have k2 := World.ownsRow.cells h0 (g := g) rfl _ _ h2
    rw [addr_plus] at k1 k2
    exact ⟨k1, k2⟩
/-- One of them meets a thing. -/
def MeA (x : Thg) (l : List Thg) : Prop := ∃ y, y ∈ l ∧ MeB x y
theorem MeA.mk {x y : Thg} {l : List Thg} (h : y ∈ l) (hm : MeB x y) : MeA x l := ⟨y, h, hm⟩
theorem MeA.no {x : Thg} {l : List Thg} (h : ∀ (q : Nat) y, q < l.length → l[q]? = some y → ¬ MeB x y) : ¬ MeA x l := fun ⟨y, hy, hm⟩ => by
  obtain ⟨q, hq⟩ := List.mem_iff_getElem?.1 hy
  exact h q y (List.getElem?_eq_some_iff.1 hq).1 hq hm
/-- Nothing that is touched meets. -/
def ApD (la lb : List Thg) : Prop := ∀ x, x ∈ la → ¬ MeA x lb
theorem ApD.mk {la lb : List Thg} (h : ∀ (q : Nat) x, q < la.length → la[q]? = some x → ¬ MeA x lb) : ApD la lb := fun x hx => by
  obtain ⟨q, hq⟩ := List.mem_iff_getElem?.1 hx
  exact h q x (List.getElem?_eq_some_iff.1 hq).1 hq
set_option maxHeartbeats 2000000 in
theorem ixf_w {w : World} {a : Option Addr} {c : Nat} {l : List Thg} (x : Thg) (h : TAt w a l) (hl : l.length ≤ 100000000) :
    Calls Tryz.prog 50 #[.slice a l.length c, .func (.func 23) #[thV x] #[]] w fun e w' => (∃ n : Int, e = .returned (.int .i64 n) ∧ (0 ≤ n ↔ MeA x l)) ∧ Below w.heap.size w w' := by
  have HM := hidLL (fun (y : Thg) (V : World) => meets_w x y V)
  have HR := hidLL h
  obtain ⟨n, hnn⟩ : ∃ n, n = l.length := ⟨_, rfl⟩
  have HN := hidLL hnn
  rw [← hnn] at hl ⊢
  clear h hnn
  obtain ⟨xm, xp⟩ := x
  unfold thV at HM ⊢
  go_enter Tryz.func50, Tryz.ntmps50
  go_wp2_with fail
  go_loopw [8] (fun i wr => ∃ j : Nat, j ≤ n ∧ i = .int .i64 j ∧ (∀ (q : Nat) y, q < j → l[q]? = some y → ¬ MeB (xm, xp) y) ∧ Below w.heap.size w wr) (fun i _ => n - (RowKit.intOf i).toNat)
  case atStart => exact ⟨0, by omega, rfl, fun q y hq => by omega, Below.refl _ _⟩
  case round =>
    obtain ⟨j, hj, rfl, hno, hb⟩ := hrel
    have HB := hidLL (And.intro hno hb)
    clear hno hb
    by_cases hlt : j < n
    · have hjz : (j : Int) < n := by omega
      obtain ⟨y, hm⟩ : ∃ m, l[j]? = some m := ⟨_, List.getElem?_eq_getElem (by have := HN.out; omega)⟩
      obtain ⟨g, o, rfl, y0, y1⟩ := (HR.out.below HB.out.2) j y hm
      have HC := hidLL (HM.out y wr)
      have HY := hidLL hm
      obtain ⟨ym, yp⟩ := y
      clear hm
      go_wp2_with fail
      refine HC.out.mono ?_
      rintro e w2 ⟨⟨b, rfl, hbb⟩, hb2⟩
      have HB2 := hidLL (HB.out.2.trans (hb2.mono HB.out.2.size))
      have HBB := hidLL hbb
      clear hb2 hbb
      cases b with
      | true =>
        go_wp2
        go_ret
        exact ⟨⟨j, rfl, ⟨fun _ => MeA.mk (List.mem_of_getElem? HY.out) (HBB.out.1 (by trivial)), fun _ => by omega⟩⟩, HB2.out⟩
      | false =>
        go_wp2
        go_roundw
        case rel =>
          refine ⟨j + 1, by omega, by go_num, fun q y hq hy => ?_, HB2.out⟩
          rcases Nat.lt_or_ge q j with h | h
          · exact HB.out.1 q y h hy
          · obtain rfl : q = j := by omega
            rw [HY.out] at hy
            injection hy with hy
            subst hy
            intro hme
            have := HBB.out.2 hme
            cases this
        case measure => simp [RowKit.intOf]; omega
    · have hjz : ¬ (j : Int) < n := by omega
      go_wp2
      go_ret
      exact ⟨⟨-1, rfl, ⟨fun h => by omega, fun h => absurd h (MeA.no fun q y hq hy => HB.out.1 q y (by have := HN.out; omega) hy)⟩⟩, HB.out.2⟩
set_option maxHeartbeats 2000000 in
theorem cf_w {w : World} {a : Option Addr} {c : Nat} {l : List Thg} (x : Thg) (h : TAt w a l) (hl : l.length ≤ 100000000) :
    Calls Tryz.prog 22 #[.slice a l.length c, .func (.func 23) #[thV x] #[]] w fun e w' => BoolR (MeA x l) e ∧ Below w.heap.size w w' := by
  have HI := hidLL (ixf_w (c := c) x h hl)
  generalize l.length = n at *
  clear h
  go_enter Tryz.func22, Tryz.ntmps22
  go_wp2_with fail
  refine HI.out.mono ?_
  rintro e w2 ⟨⟨m, rfl, hm⟩, hb2⟩
  have HB2 := hidLL (And.intro hm hb2)
  clear hm hb2
  go_wp2
  go_ret
  exact ⟨⟨_, rfl, by rw [decide_eq_true_iff]; exact HB2.out.1⟩, HB2.out.2⟩
theorem tgB_len (o : OpW) : (tgB o).length ≤ 4 := by
  unfold tgB
  repeat (first | (split; · (first | (simp; done) | simp)) | simp)
theorem tgs_len : ∀ ops : List OpW, (ops.flatMap tgB).length ≤ 4 * ops.length
  | [] => by simp
  | o :: r => by
    have := tgB_len o
    have := tgs_len r
    rw [List.flatMap_cons, List.length_append, List.length_cons]
    omega
theorem tgs_take {ops : List OpW} {j : Nat} {op : OpW} (h : ops[j]? = some op) : (ops.take (j + 1)).flatMap tgB = (ops.take j).flatMap tgB ++ tgB op := by
  rw [List.take_add_one, h, List.flatMap_append]
  simp
/-- What telling what changes touch answers. -/
def TbR (w : World) (l : List Thg) (e : Ending) (w' : World) : Prop := (∃ v, e = .returned v ∧ TRow w' w.heap.size v l) ∧ Below w.heap.size w w'
set_option maxHeartbeats 4000000 in
set_option maxRecDepth 20000 in
theorem touchedBy_w {w : World} {N : Nat} {oa : Option Addr} {oc : Nat} {ops : List OpW} (ho : OpsIn w N oa ops) (hN : N ≤ w.heap.size) (hn : ops.length ≤ 1000) :
    Calls Tryz.prog 21 #[.slice oa ops.length oc] w (TbR w (ops.flatMap tgB)) := by
  have HO := hidLL ho
  obtain ⟨n, hnn⟩ : ∃ n, n = ops.length := ⟨_, rfl⟩
  have HN := hidLL hnn
  rw [← hnn] at hn ⊢
  clear ho hnn
  go_enter Tryz.func21, Tryz.ntmps21
  go_wp2_with fail
  go_loopw [3, 8] (fun s t wr => ∃ j : Nat, j ≤ n ∧ t = .int .i64 j ∧ TRow wr w.heap.size s ((ops.take j).flatMap tgB) ∧ Below w.heap.size w wr) (fun _ t _ => (n - RowKit.intOf t).toNat)
  case atStart => exact ⟨0, by omega, rfl, TRow.nil _ _, Below.refl _ _⟩
  case round =>
    obtain ⟨j, hj, rfl, hrow, hb⟩ := hrel
    have HB := hidLL hb
    have HRow := hidLL hrow
    clear hb hrow
    by_cases hjn : j < n
    · have hjz : (j : Int) < n := by omega
      obtain ⟨op, hop⟩ : ∃ op, ops[j]? = some op := ⟨_, List.getElem?_eq_getElem (by have := HN.out; omega)⟩
      obtain ⟨ob, oo, iv, rfl, hbN, hcs, hsr, hw6, hfi, hok⟩ := HO.out j op hop
      obtain ⟨f0, f1, ⟨ila, ilc, f2⟩, ika, ikc, f3⟩ := hsr.lies.forms
      have hcw : ∀ c u, (opV op iv)[c]? = some u → wr.cell? ⟨ob, oo + j * 10 + c, none⟩ = some u := fun c u hu => (World.cell?_of_block (a := ⟨ob, oo + j * 10 + c, none⟩) (HB.out.block ob (by omega))).trans (hcs c u hu)
      unfold opV at hcw
      rw [f0, f1, f2, f3] at hcw
      have y0 := hcw 0 _ rfl
      have y1 := hcw 1 _ rfl
      have y2 := hcw 2 _ rfl
      have y3 := hcw 3 _ rfl
      have y4 := hcw 4 _ rfl
      have y5 := hcw 5 _ rfl
      have y6 := hcw 6 _ rfl
      have y7 := hcw 7 _ rfl
      have y8 := hcw 8 _ rfl
      have y9 := hcw 9 _ rfl
      rw [Nat.add_zero] at y0
      obtain ⟨Wq, hWq⟩ : ∃ Wq, Wq = wr.alloc (.cells (opV op iv) 46) := ⟨_, rfl⟩
      have hbq : Below wr.heap.size wr Wq := by rw [hWq]; exact (Below.refl _ _).alloc (Nat.le_refl _) _
      have hq1 : Wq.heap[wr.heap.size]? = some (.cells (opV op iv) 46 (0, 0)) := by rw [hWq]; exact heap_alloc_new _ _
      have htc := touched_w hok (by obtain ⟨_, _, _, _, h5, _⟩ := hfi.get; exact h5) f0 f1 f2 f3 Wq
      unfold opV at htc hWq hq1
      rw [f0, f1, f2, f3] at htc hWq hq1
      have HWq := hidLL hWq
      have HQ := hidLL (And.intro hbq hq1)
      have HTc := hidLL htc
      have HTk := hidLL (tgs_take hop)
      have hlt : ((ops.take j).flatMap tgB).length + (tgB op).length ≤ 100000000 := by
        have h1 := tgs_len (ops.take (j + 1))
        rw [HTk.out, List.length_append, List.length_take] at h1
        have := HN.out
        omega
      have HLt := hidLL hlt
      clear hop hbN hcs hsr hw6 hfi hok f0 f1 f2 f3 hcw hWq hbq hq1 htc hlt
      generalize tgB op = tg at *
      generalize hkd : op.kind = kd at *
      generalize hpt : op.path = opt at *
      generalize hat9 : op.at' = oat at *
      generalize htx : op.text = otx at *
      generalize hnw : op.new = onw at *
      generalize hli : op.line = oli at *
      generalize hil : op.item.label = oil at *
      generalize hih : op.item.head = oih at *
      generalize hiln : op.item.lines.length = oiln at *
      generalize hikn : op.item.kids.length = oikn at *
      clear hkd hpt hat9 htx hnw hli hil hih hiln hikn
      generalize (ops.take j).flatMap tgB = L at *
      obtain ⟨sa, sc, rfl⟩ := HRow.out.any
      go_upto_region 5 with fail
      rw [← HWq.out]
      obtain ⟨x0, x1, x2, x3, x4, x5, x6, x7, x8, x9⟩ := ten HQ.out.2
      clear y0 y1 y2 y3 y4 y5 y6 y7 y8 y9
      go_wp2_with fail
      refine HTc.out.mono ?_
      rintro e w7 ⟨⟨u, rfl, hu⟩, hb7⟩
      have hb17 : Below wr.heap.size wr w7 := HQ.out.1.trans (hb7.mono HQ.out.1.size)
      have HB7 := hidLL (HB.out.trans (hb17.mono HB.out.size))
      have HR7 := hidLL (HRow.out.below hb17)
      have HU := hidLL hu
      clear hb7 hb17 hu
      go_wp2_with (at_builtin; go_loud (refine wpList_app_thg rfl (.tmp 12) (.tmp 14) rfl w.heap.size _ _ L tg (by simp [Act.eval]) HR7.out (by simp [Act.eval]) HU.out HB7.out.size HLt.out ?_))
      rintro v' w8 hr8 hb8
      have HB8 := hidLL (HB7.out.trans hb8)
      have HR8 := hidLL hr8
      clear hr8 hb8
      go_wp2
      go_roundw
      case rel => exact ⟨j + 1, by omega, by go_num, by rw [HTk.out]; exact HR8.out, HB8.out⟩
      case measure => simp [RowKit.intOf]; omega
    · have hjz : ¬ (j : Int) < n := by omega
      have hje : j = n := by omega
      have hR := HRow.out
      rw [hje, List.take_of_length_le (by have := HN.out; omega)] at hR
      have HR := hidLL hR
      clear HRow
      generalize ops.flatMap tgB = L2 at *
      obtain ⟨sa, sc, rfl⟩ := hR.any
      clear hR
      go_wp2
      go_ret
      exact ⟨⟨_, rfl, HR.out⟩, HB.out⟩
set_option maxHeartbeats 4000000 in
set_option maxRecDepth 20000 in
theorem apart_w {w : World} {N : Nat} {xa ya : Option Addr} {xc yc : Nat} {a b : List OpW} (hx : OpsIn w N xa a) (hy : OpsIn w N ya b) (hN : N ≤ w.heap.size) (hn : a.length ≤ 1000) (hm : b.length ≤ 1000) :
    Calls Tryz.prog 13 #[.slice xa a.length xc, .slice ya b.length yc] w fun e w' => BoolR (ApD (a.flatMap tgB) (b.flatMap tgB)) e ∧ Below w.heap.size w w' := by
  have HY := hidLL (touchedBy_w (oc := yc) hy hN hm)
  have HX : Hid (∀ W, Below w.heap.size w W → Calls Tryz.prog 21 #[.slice xa a.length xc] W (TbR W (a.flatMap tgB))) := fun W hW => touchedBy_w (oc := xc) (hx.on fun k hk => hW.block k (by omega)) (by have := hW.size; omega) hn
  have HL := hidLL (And.intro (tgs_len a) (tgs_len b))
  have HLn := hidLL (And.intro hn hm)
  clear hx hy
  generalize a.length = an at *
  generalize b.length = bn at *
  generalize a.flatMap tgB = la at *
  generalize b.flatMap tgB = lb at *
  have hla : la.length ≤ 4000 := by have := HL.out.1; omega
  have hlb : lb.length ≤ 4000 := by have := HL.out.2; omega
  clear hn hm
  go_enter Tryz.func13, Tryz.ntmps13
  go_wp2_with fail
  refine HY.out.mono ?_
  rintro e w1 ⟨⟨v1, rfl, hr1⟩, hb1⟩
  obtain ⟨ba, bc, rfl, hat1⟩ := hr1.at
  have HA1 := hidLL (And.intro hat1 hb1)
  clear hr1 hat1 hb1
  go_wp2_with fail
  refine (HX.out w1 HA1.out.2).mono ?_
  rintro e w2 ⟨⟨v2, rfl, hr2⟩, hb2⟩
  obtain ⟨aa, ac, rfl, hat2⟩ := hr2.at
  have HA2 := hidLL (And.intro hat2 (And.intro (HA1.out.1.below hb2) (HA1.out.2.trans (hb2.mono HA1.out.2.size))))
  clear hr2 hat2 hb2
  obtain ⟨n, hnn⟩ : ∃ n, n = la.length := ⟨_, rfl⟩
  have HN := hidLL hnn
  rw [← hnn] at hla ⊢
  obtain ⟨m, hmm⟩ : ∃ m, m = lb.length := ⟨_, rfl⟩
  have HMm := hidLL hmm
  rw [← hmm] at hlb ⊢
  clear hnn hmm
  go_wp2_with fail
  go_loopw [13] (fun t wr => ∃ j : Nat, j ≤ n ∧ t = .int .i64 j ∧ (∀ (q : Nat) x, q < j → la[q]? = some x → ¬ MeA x lb) ∧ Below w2.heap.size w2 wr) (fun t _ => (n - RowKit.intOf t).toNat)
  case atStart => exact ⟨0, by omega, rfl, fun q x hq => by omega, Below.refl _ _⟩
  case round =>
    obtain ⟨j, hj, rfl, hno, hb⟩ := hrel
    have HB := hidLL (And.intro hno hb)
    clear hno hb
    by_cases hjn : j < n
    · have hjz : (j : Int) < n := by omega
      obtain ⟨x, hxj⟩ : ∃ x, la[j]? = some x := ⟨_, List.getElem?_eq_getElem (by have := HN.out; omega)⟩
      obtain ⟨g, o, rfl, y0, y1⟩ := (HA2.out.1.below HB.out.2) j x hxj
      obtain ⟨Wq, hWq⟩ : ∃ Wq, Wq = wr.alloc (.cells #[.int .i64 x.1, .string x.2] 61) := ⟨_, rfl⟩
      have hbq : Below wr.heap.size wr Wq := by rw [hWq]; exact (Below.refl _ _).alloc (Nat.le_refl _) _
      have hq1 : Wq.heap[wr.heap.size]? = some (.cells #[.int .i64 x.1, .string x.2] 61 (0, 0)) := by rw [hWq]; exact heap_alloc_new _ _
      have hb2q : Below w2.heap.size w2 Wq := HB.out.2.trans (hbq.mono HB.out.2.size)
      have hcf := cf_w (c := bc) x (HA2.out.2.1.below hb2q) (by have := HMm.out; omega)
      unfold thV at hcf
      rw [← HMm.out] at hcf
      have HCf := hidLL hcf
      have HWq := hidLL hWq
      have HQ := hidLL (And.intro hb2q hq1)
      have HXj := hidLL hxj
      clear hxj hWq hbq hq1 hb2q hcf
      obtain ⟨xm, xp⟩ := x
      go_upto_region 5 with fail
      rw [← HWq.out]
      obtain ⟨x0, x1⟩ := two HQ.out.2
      clear y0 y1
      go_wp2_with fail
      refine HCf.out.mono ?_
      rintro e w5 ⟨⟨bb, rfl, hbb⟩, hb5⟩
      have HB5 := hidLL (HQ.out.1.trans (hb5.mono HQ.out.1.size))
      have HBB := hidLL hbb
      clear hb5 hbb x0 x1
      cases bb with
      | true =>
        go_wp2
        go_ret
        exact ⟨⟨false, rfl, ⟨fun h => (by cases h), fun h => absurd (HBB.out.1 (by trivial)) (h _ (List.mem_of_getElem? HXj.out))⟩⟩, HA2.out.2.2.trans (HB5.out.mono HA2.out.2.2.size)⟩
      | false =>
        go_wp2
        go_roundw
        case rel =>
          refine ⟨j + 1, by omega, by go_num, fun q y hq hy => ?_, HB5.out⟩
          rcases Nat.lt_or_ge q j with h | h
          · exact HB.out.1 q y h hy
          · obtain rfl : q = j := by omega
            rw [HXj.out] at hy
            injection hy with hy
            subst hy
            intro hme
            have := HBB.out.2 hme
            cases this
        case measure => simp [RowKit.intOf]; omega
    · have hjz : ¬ (j : Int) < n := by omega
      go_wp2
      go_ret
      exact ⟨⟨true, rfl, ⟨fun _ => ApD.mk fun q x hq hx => HB.out.1 q x (by have := HN.out; omega) hx, fun _ => rfl⟩⟩, HA2.out.2.2.trans (HB.out.2.mono HA2.out.2.2.size)⟩
end Go.Proofs.YtpbolcjcmkmalaaGreatDoor
namespace Go.Proofs.YtpbolcjcmkmalaaGreatDoor
open Go.RowKit Go.Extern.Stop Go.Stop Go.Extern

theorem wt_small : ∀ (N : Nat) (t : It), sizeIt t ≤ N → ∀ d, smallN d t ≤ 400 → wtI t ≤ smallN d t
  | 0, t, h, d, _ => by have := sizeIt_eq t; omega
  | N + 1, t, h, d, hs => by
    rw [smallN_eq] at hs ⊢
    split at hs
    · omega
    · rename_i hd
      rw [if_neg hd]
      have hk : ∀ (l : List It) (n : Nat), (∀ k ∈ l, sizeIt k < sizeIt t) → smallK d n l ≤ 400 → n + wtK l ≤ smallK d n l := by
        intro l
        induction l with
        | nil => intro n _ _; rw [smallK, wtK]; omega
        | cons k r ih =>
          intro n hkk hn
          rw [smallK] at hn ⊢
          split at hn
          · rename_i h1
            rw [if_pos h1]
            have h3 := hkk k (by simp)
            have h5 := ih _ (fun x hx => hkk x (List.mem_cons_of_mem _ hx)) hn
            have h4 := wt_small N k (by omega) (d + 1) (by omega)
            rw [wtK]
            omega
          · omega
      have := hk t.kids _ (fun k hk => kid_size hk) hs
      rw [wtI_eq]
      omega
/-- A tree in memory that is not its own, whatever it is. -/
inductive RawT (w : World) (N : Nat) : (Nat → Value) → It → Prop
  | mk (v : Nat → Value) (t : It) (la ka : Option Addr) (lc kc : Nat) (V : Nat → Nat → Value)
    (h0 : v 0 = .string t.label) (h1 : v 1 = .string t.head) (h2 : v 2 = .slice la t.lines.length lc) (h3 : v 3 = .slice ka t.kids.length kc)
    (hl : ∀ i s, t.lines[i]? = some s → ∃ b o, la = some ⟨b, o, none⟩ ∧ b < N ∧ w.cell? ⟨b, o + i, none⟩ = some (.string s))
    (hk : ∀ i, i < t.kids.length → ∃ b o, ka = some ⟨b, o, none⟩ ∧ b < N ∧ UnF w ⟨b, o + i * 4, none⟩ ∧ ∀ c, c < 4 → w.cell? ⟨b, o + i * 4 + c, none⟩ = some (V i c))
    (hr : ∀ i k, t.kids[i]? = some k → RawT w N (V i) k) (cl : la = none → lc = 0) (ck : ka = none → kc = 0) (hlc : t.lines.length ≤ lc) (hkc : t.kids.length ≤ kc) : RawT w N v t
theorem RawT.on {w w' : World} {N : Nat} {v : Nat → Value} {t : It} (h : RawT w N v t) (hb : ∀ k, k < N → w'.heap[k]? = w.heap[k]?) : RawT w' N v t := by
  induction h with
  | mk v t la ka lc kc V h0 h1 h2 h3 hl hk hr cl ck hlc hkc ih =>
    refine .mk v t la ka lc kc V h0 h1 h2 h3 (fun i s hs => ?_) (fun i hi => ?_) ih cl ck hlc hkc
    · obtain ⟨b, o, e, hN, hc⟩ := hl i s hs
      exact ⟨b, o, e, hN, (World.cell?_of_block (a := ⟨b, o + i, none⟩) (hb b hN)).trans hc⟩
    · obtain ⟨b, o, e, hN, hu, hc⟩ := hk i hi
      exact ⟨b, o, e, hN, hu.on (hb b hN), fun c hc' => (World.cell?_of_block (a := ⟨b, o + i * 4 + c, none⟩) (hb b hN)).trans (hc c hc')⟩
theorem RawT.mono {w : World} {N N' : Nat} {v : Nat → Value} {t : It} (h : RawT w N v t) (hN : N ≤ N') : RawT w N' v t := by
  induction h with
  | mk v t la ka lc kc V h0 h1 h2 h3 hl hk hr cl ck hlc hkc ih =>
    refine .mk v t la ka lc kc V h0 h1 h2 h3 (fun i s hs => ?_) (fun i hi => ?_) ih cl ck hlc hkc
    · obtain ⟨b, o, e, hb, hc⟩ := hl i s hs
      exact ⟨b, o, e, Nat.lt_of_lt_of_le hb hN, hc⟩
    · obtain ⟨b, o, e, hb, hu, hc⟩ := hk i hi
      exact ⟨b, o, e, Nat.lt_of_lt_of_le hb hN, hu, hc⟩
theorem RawT.lies {w : World} {N : Nat} {v : Nat → Value} {t : It} (h : RawT w N v t) : Lies w (· < N) v t := by
  induction h with
  | mk v t la ka lc kc V h0 h1 h2 h3 hl hk hr cl ck hlc hkc ih =>
    exact .mk v t la ka lc kc V h0 h1 h2 h3 hl (fun i hi => by obtain ⟨b, o, e, hN, _, hc⟩ := hk i hi; exact ⟨b, o, e, hN, hc⟩) ih hlc hkc
theorem RawT.src {w : World} {N : Nat} {v : Nat → Value} {t : It} (h : RawT w N v t) : FewIt t → SrcT w N False v t := by
  induction h with
  | mk v t la ka lc kc V h0 h1 h2 h3 hl hk hr cl ck hlc hkc ih =>
    intro hF
    obtain ⟨b1, b2, _, _, _, b6⟩ := hF.get
    exact .mk v t la ka lc kc V h0 h1 h2 h3 hl (fun i hi => by obtain ⟨b, o, e, hN, hu, hc⟩ := hk i hi; exact ⟨b, o, e, hN, hu, fun h => h.elim, hc⟩) (fun i k e => ih i k e (b6 k (List.mem_of_getElem? e))) cl ck (by omega) (by omega) hlc hkc
/-- Changes that lie in memory, whatever they are. -/
def OpsRaw (w : World) (N : Nat) (oa : Option Addr) (ops : List OpW) : Prop := ∀ i op, ops[i]? = some op → ∃ b o iv, oa = some ⟨b, o, none⟩ ∧ b < N ∧ (∀ c u, (opV op iv)[c]? = some u → w.cell? ⟨b, o + i * 10 + c, none⟩ = some u) ∧ RawT w N iv op.item ∧ sizeIt op.item ≤ 1048576 ∧ op.path.size ≤ 1048576 ∧ op.text.size ≤ 1048576 ∧ op.new.size ≤ 1048576 ∧ op.at'.size ≤ 1048576 ∧ -9223372036854775808 ≤ op.line ∧ op.line ≤ 9223372036854775807
theorem OpsRaw.on {w w' : World} {N : Nat} {oa : Option Addr} {ops : List OpW} (h : OpsRaw w N oa ops) (hb : ∀ k, k < N → w'.heap[k]? = w.heap[k]?) : OpsRaw w' N oa ops := fun i op hi => by
  obtain ⟨b, o, iv, e, hN, hc, hs, h1⟩ := h i op hi
  exact ⟨b, o, iv, e, hN, fun c u hu => (World.cell?_of_block (a := ⟨b, o + i * 10 + c, none⟩) (hb b hN)).trans (hc c u hu), hs.on hb, h1⟩
/-- Few. -/
def sumO : List OpW → Nat
  | [] => 0
  | o :: r => o.path.size + o.text.size + o.new.size + o.at'.size + sumO r
theorem sumO_app : ∀ (a b : List OpW), sumO (a ++ b) = sumO a + sumO b
  | [], b => by rw [List.nil_append, sumO]; omega
  | o :: r, b => by rw [List.cons_append, sumO, sumO, sumO_app r b]; omega
theorem sumO_mem : ∀ (l : List OpW) (o : OpW), o ∈ l → o.path.size + o.text.size + o.new.size + o.at'.size ≤ sumO l
  | a :: r, o, h => by
    rw [sumO]
    rcases List.mem_cons.1 h with rfl | h
    · omega
    · have := sumO_mem r o h; omega
structure FewO (ops : List OpW) : Prop where
  len : ops.length ≤ 102
  sum : sumO ops ≤ 6000
  it : ∀ o ∈ ops, smallN 0 o.item ≤ 400
theorem FewO.ops {w : World} {N : Nat} {oa : Option Addr} {ops : List OpW} (h : FewO ops) (ho : OpsRaw w N oa ops) : OpsIn w N oa ops := fun i op hi => by
  obtain ⟨b, o, iv, e, hN, hc, hs, h1, h2, h3, h4, h5, h6⟩ := ho i op hi
  have hm := List.mem_of_getElem? hi
  have hsm := h.it op hm
  have hsu := sumO_mem ops op hm
  have := h.sum
  have hw := wt_small _ op.item (Nat.le_refl _) 0 hsm
  have hfi := few_it _ op.item (Nat.le_refl _) 0 hsm
  exact ⟨b, o, iv, e, hN, hc, hs.src hfi, by omega, hfi, ⟨by omega, by omega, by omega, by omega, h6⟩⟩
def FwR (w : World) (ops : List OpW) (e : Ending) (w' : World) : Prop := (∃ r : Bool, e = .returned (.bool r) ∧ (r = true → FewO ops)) ∧ Below w.heap.size w w'
set_option maxHeartbeats 4000000 in
set_option maxRecDepth 20000 in
theorem fewOps_w {w : World} {oa : Option Addr} {oc : Nat} {ops : List OpW} (ho : OpsRaw w w.heap.size oa ops) (hn : ops.length ≤ 1048576) :
    Calls Tryz.prog 8 #[.slice oa ops.length oc] w (FwR w ops) := by
  have HO := hidLL ho
  obtain ⟨n, hnn⟩ : ∃ n, n = ops.length := ⟨_, rfl⟩
  have HN := hidLL hnn
  rw [← hnn] at hn ⊢
  clear ho hnn
  go_enter Tryz.func8, Tryz.ntmps8
  go_wp2_with fail
  go_loopw [3, 4] (fun t3 t4 wr => ∃ (j m : Nat), j ≤ n ∧ t4 = .int .i64 j ∧ t3 = .int .i64 m ∧ m = sumO (ops.take j) ∧ m ≤ j * 4194304 ∧ (∀ o ∈ ops.take j, smallN 0 o.item ≤ 400) ∧ Below w.heap.size w wr) (fun _ t4 _ => (n - RowKit.intOf t4).toNat)
  case atStart => exact ⟨0, 0, by omega, rfl, rfl, rfl, by omega, by simp, Below.refl _ _⟩
  case round =>
    obtain ⟨j, m, hj, rfl, rfl, hm, hmb, hal, hb⟩ := hrel
    have HB := hidLL hb
    have HM := hidLL (And.intro hm hal)
    clear hm hal hb
    by_cases hjn : j < n
    · have hjz : (j : Int) < n := by omega
      obtain ⟨op, hop⟩ : ∃ op, ops[j]? = some op := ⟨_, List.getElem?_eq_getElem (by have := HN.out; omega)⟩
      obtain ⟨ob, oo, iv, rfl, hbN, hcs, hsr, h1, h2, h3, h4, h5, h6⟩ := HO.out j op hop
      obtain ⟨f0, f1, ⟨ila, ilc, f2⟩, ika, ikc, f3⟩ := hsr.lies.forms
      have hcw : ∀ c u, (opV op iv)[c]? = some u → wr.cell? ⟨ob, oo + j * 10 + c, none⟩ = some u := fun c u hu => (World.cell?_of_block (a := ⟨ob, oo + j * 10 + c, none⟩) (HB.out.block ob hbN)).trans (hcs c u hu)
      have hfw := few_any op.item (by omega) iv wr _ ((hsr.on fun k hk => HB.out.block k hk).lies)
      unfold opV at hcw
      rw [f0, f1, f2, f3] at hcw hfw
      have y1 := hcw 1 _ rfl
      have y2 := hcw 2 _ rfl
      have y3 := hcw 3 _ rfl
      have y4 := hcw 4 _ rfl
      have y6 := hcw 6 _ rfl
      have y7 := hcw 7 _ rfl
      have y8 := hcw 8 _ rfl
      have y9 := hcw 9 _ rfl
      have HFw := hidLL hfw
      have HY := hidLL (And.intro y1 (And.intro y2 (And.intro y3 y4)))
      have HOpj := hidLL hop
      have hpz : sumO (ops.take (j + 1)) = sumO (ops.take j) + (op.path.size + op.text.size + op.new.size + op.at'.size) := by
        obtain ⟨hl, e⟩ := List.getElem?_eq_some_iff.1 hop
        rw [List.take_succ_eq_append_getElem hl, e, sumO_app, sumO, sumO]; omega
      have HPz := hidLL hpz
      have HTk : Hid (ops.take (j + 1) = ops.take j ++ [op]) := by
        obtain ⟨hl, e⟩ := List.getElem?_eq_some_iff.1 hop
        show _ = _
        rw [List.take_succ_eq_append_getElem hl, e]
      clear hfw hcs hsr hcw f0 f1 f2 f3 hop h1 h6 y1 y2 y3 y4 hpz
      obtain ⟨sn, hsn⟩ : ∃ sn, sn = smallN 0 op.item := ⟨_, rfl⟩
      have HSn := hidLL hsn
      rw [← hsn] at HFw
      clear hsn
      generalize op.path = opt at *
      generalize op.at' = oat at *
      generalize op.text = otx at *
      generalize op.new = onw at *
      generalize op.item.label = oil at *
      generalize op.item.head = oih at *
      generalize op.item.lines.length = oiln at *
      generalize op.item.kids.length = oikn at *
      go_wp2_with fail
      go_at_call 7
      refine HFw.out.mono ?_
      rintro e w2 ⟨rfl, hb2⟩
      have c4 : ∀ q c u, wr.cell? ⟨q, c, none⟩ = some u → w2.cell? ⟨q, c, none⟩ = some u := fun q c u hc => (hb2.cell (p := ⟨q, c, none⟩) (cell_lt hc)).trans hc
      have z1 := c4 _ _ _ HY.out.1
      have z2 := c4 _ _ _ HY.out.2.1
      have z3 := c4 _ _ _ HY.out.2.2.1
      have z4 := c4 _ _ _ HY.out.2.2.2
      have HB2 := hidLL (HB.out.trans (hb2.mono HB.out.size))
      clear c4 y6 y7 y8 y9 hb2 HFw
      have p1 : IntKind.i64.wrap ((m : Int) + (opt.size : Int)) = (m : Int) + (opt.size : Int) := by rw [IntKind.wrap_i64]; omega
      have p2 : IntKind.i64.wrap ((m : Int) + (opt.size : Int) + (otx.size : Int)) = (m : Int) + (opt.size : Int) + (otx.size : Int) := by rw [IntKind.wrap_i64]; omega
      have p3 : IntKind.i64.wrap ((m : Int) + (opt.size : Int) + (otx.size : Int) + (onw.size : Int)) = (m : Int) + (opt.size : Int) + (otx.size : Int) + (onw.size : Int) := by rw [IntKind.wrap_i64]; omega
      have p4 : IntKind.i64.wrap ((m : Int) + (opt.size : Int) + (otx.size : Int) + (onw.size : Int) + (oat.size : Int)) = (m : Int) + (opt.size : Int) + (otx.size : Int) + (onw.size : Int) + (oat.size : Int) := by rw [IntKind.wrap_i64]; omega
      go_upto_region 6 with fail
      go_quiet (fail)
      clear z1 z2 z3 z4 p1 p2 p3 p4 HY
      by_cases hsm : sn ≤ 400
      · rw [decide_eq_true hsm]
        go_wp2
        go_roundw
        case rel =>
          refine ⟨j + 1, m + (opt.size + otx.size + onw.size + oat.size), by omega, by go_num, ?_, ?_, by omega, ?_, bdrewN HB2.out _⟩
          · first | rfl | (congr 1; omega)
          · rw [HPz.out, ← HM.out.1]
          · rw [HTk.out]
            intro o ho
            rcases List.mem_append.1 ho with h9 | h9
            · exact HM.out.2 o h9
            · rw [List.mem_singleton] at h9
              rw [h9, ← HSn.out]; exact hsm
        case measure => simp [RowKit.intOf]; omega
      · rw [decide_eq_false hsm]
        go_wp2
        go_ret
        exact ⟨⟨false, rfl, fun h => by cases h⟩, bdrewN HB2.out _⟩
    · obtain rfl : j = n := by omega
      have htk : ops.take j = ops := by rw [HN.out]; exact List.take_length
      by_cases h102 : j ≤ 102
      · have h1z : (j : Int) ≤ 102 := by omega
        by_cases h6 : m ≤ 6000
        · have h6z : (m : Int) ≤ 6000 := by omega
          go_wp2
          go_ret
          refine ⟨⟨true, rfl, fun _ => ⟨by have := HN.out; omega, ?_, ?_⟩⟩, HB.out⟩
          · have := HM.out.1; rw [htk] at this; omega
          · have := HM.out.2; rw [htk] at this; exact this
        · have h6z : ¬ (m : Int) ≤ 6000 := by omega
          go_wp2
          go_ret
          exact ⟨⟨false, rfl, fun h => by cases h⟩, HB.out⟩
      · have h1z : ¬ (j : Int) ≤ 102 := by omega
        go_wp2
        go_ret
        exact ⟨⟨false, rfl, fun h => by cases h⟩, HB.out⟩
end Go.Proofs.YtpbolcjcmkmalaaGreatDoor
namespace Go.Proofs.YtpbolcjcmkmalaaGreatDoor
open Go.RowKit Go.Extern.Stop Go.Stop Go.Extern

def lvIt : It := .mk ⟨#[]⟩ ⟨#[97]⟩ [] []
def lvOp : OpW := ⟨1, ⟨#[]⟩, ⟨#[]⟩, ⟨#[98]⟩, ⟨#[]⟩, 0, .mk ⟨#[]⟩ ⟨#[]⟩ [] []⟩
def lvV (s : ByteArray) : Nat → Value
  | 0 => .string ⟨#[]⟩
  | 1 => .string s
  | _ => .slice none 0 0
theorem lv_src (w : World) (N : Nat) (s : ByteArray) : SrcT w N False (lvV s) (.mk ⟨#[]⟩ s [] []) :=
  .mk _ _ none none 0 0 (fun _ _ => .nilIface) rfl rfl rfl rfl (fun i s h => by cases h) (fun i h => absurd h (Nat.not_lt_zero _)) (fun i k h => by cases h) (fun _ => rfl) (fun _ => rfl) (by simp [It.lines]) (by simp [It.kids]) (by simp [It.lines]) (by simp [It.kids])
theorem lv_few (s : ByteArray) (h : s.size ≤ 1) : FewIt (.mk ⟨#[]⟩ s [] []) := .mk _ (by simp [It.lines]) (by simp [It.kids]) (fun s h => by cases h) (by simp [It.head]; omega) (by show (0 : Nat) ≤ _; omega) (fun k h => by cases h)
theorem lv_line (n : UInt8) (h : n = 97 ∨ n = 98) : lineB ⟨#[n]⟩ = true := by
  unfold lineB
  rw [Bool.and_eq_true, Bool.and_eq_true]
  refine ⟨⟨decide_eq_true (by show (1 : Nat) ≤ 300; omega), ?_⟩, ?_⟩
  · unfold plainB
    refine (@decide_eq_true_iff _ (Classical.propDecidable _)).2 fun i hi _ _ => ?_
    have hi' : i < 1 := hi
    obtain rfl : i = 0 := by omega
    show okN n.toNat = true
    rcases h with rfl | rfl <;> decide
  · refine (edgeB_iff _).2 ⟨fun b hb => ?_, fun b hb => ?_⟩
    · have hb : some n = some b := hb
      injection hb with hb
      subst hb
      rcases h with rfl | rfl <;> decide
    · have hb : some n = some b := hb
      injection hb with hb
      subst hb
      rcases h with rfl | rfl <;> decide
theorem lv_fine (n : UInt8) (h : n = 97 ∨ n = 98) : Fine ⟨#[n]⟩ := ⟨by show (1 : Nat) ≤ 300; omega, lv_line n h⟩
theorem lv_law : Law lvIt := by
  refine ⟨.mk 0 lvIt ?_ List.Pairwise.nil (fun k hk => by cases hk), by show cntIt lvIt ≤ 300; unfold lvIt; rw [cntIt]; decide⟩
  obtain ⟨h1, h2⟩ := texts_iff.2 (show lvIt.lines.length ≤ 40 ∧ Fine lvIt.head ∧ ∀ s, s ∈ lvIt.lines → Fine s from ⟨by show (0 : Nat) ≤ 40; omega, lv_fine 97 (.inl rfl), fun s hs => by cases hs⟩)
  exact ⟨by omega, h1, by rw [if_pos rfl]; rfl, h2⟩
theorem lv_all : allC 0 lvIt [lvOp] = .ok (.mk ⟨#[]⟩ ⟨#[98]⟩ [] []) := by
  have h1 : oneC lvIt lvOp = .ok (.mk ⟨#[]⟩ ⟨#[98]⟩ [] []) := by
    have hp : partsB lvOp.path = [] := by unfold partsB lvOp; rfl
    rw [one_text (x := lvIt) ⟨by decide, by decide⟩ (by rw [hp, findW])]
    have hc : chkB lvOp.text = 0 := by
      have hl := lv_line 98 (.inr rfl)
      unfold chkB
      rw [if_neg (by show ¬ (300 : Nat) < 1; omega)]
      exact if_pos hl
    rw [textC_1 (by decide) (by decide) (by decide) (by decide), if_pos hc, hp]
    show COut.ok (setW _ [] lvIt) = _
    rw [setW]
    rfl
  rw [allC, h1]
  show allC 1 _ [] = _
  rw [allC]
theorem lv_apply : applyC lvIt [lvOp] = .ok (.mk ⟨#[]⟩ ⟨#[98]⟩ [] []) := by
  obtain ⟨m, hm⟩ := law_iff.1 lv_law
  exact ap_ok hm (by decide) lv_all
set_option maxHeartbeats 4000000 in
set_option maxRecDepth 20000 in
theorem alive_w {w : World} {p : Nat → Addr} {m : Int} (hE : Env w p m) : Calls Tryz.prog 6 #[] w fun e w' => e = .returned (.bool true) ∧ Below w.heap.size w w' := by
  obtain ⟨W1, hW1⟩ : ∃ W1, W1 = w.alloc (.cells (opV lvOp (lvV ⟨#[]⟩)) 46) := ⟨_, rfl⟩
  have hb1 : Below w.heap.size w W1 := by rw [hW1]; exact (Below.refl _ _).alloc (Nat.le_refl _) _
  have hg1 : W1.heap[w.heap.size]? = some (.cells (opV lvOp (lvV ⟨#[]⟩)) 46 (0, 0)) := by rw [hW1]; exact heap_alloc_new _ _
  have hlt : w.heap.size < W1.heap.size := (Array.getElem?_eq_some_iff.1 hg1).1
  have hops : OpsIn W1 W1.heap.size (some ⟨w.heap.size, 0, none⟩) [lvOp] := fun i op hi => by
    cases i with
    | succ i => simp at hi
    | zero =>
      have hi : some lvOp = some op := hi
      injection hi with hi
      subst hi
      refine ⟨w.heap.size, 0, lvV ⟨#[]⟩, rfl, hlt, fun c u hu => ?_, lv_src _ _ _, by show wtI (.mk _ _ [] []) ≤ 600; rw [wtI, wtK]; decide, lv_few _ (by decide), ⟨by decide, by decide, by decide, by decide, by decide, by decide⟩⟩
      unfold World.cell?
      rw [hg1]
      show (opV lvOp (lvV ⟨#[]⟩))[0 + 0 * 10 + c]? = _
      rw [show 0 + 0 * 10 + c = c by omega]
      exact hu
  have hap := apply_a (lv_src W1 W1.heap.size ⟨#[97]⟩) (Nat.le_refl _) (by show wtI (.mk _ _ [] []) ≤ _; rw [wtI, wtK]; decide) (.inr (by show wtI (.mk _ _ [] []) ≤ _; rw [wtI, wtK]; decide)) (lv_few _ (by decide)) hops (by decide) (hE.on hb1) (oc := 1)
  have hlv : applyC (.mk ⟨#[]⟩ ⟨#[97]⟩ [] []) [lvOp] = _ := lv_apply
  rw [hlv] at hap
  have HAp := hidLL hap
  have HB1 := hidLL hb1
  have hW1' : W1 = w.alloc (.cells #[.int .i64 1, .string ⟨#[]⟩, .string ⟨#[]⟩, .string ⟨#[98]⟩, .string ⟨#[]⟩, .int .i64 0, .string ⟨#[]⟩, .string ⟨#[]⟩, .slice none 0 0, .slice none 0 0] 46) := hW1
  have HW1 := hidLL hW1'
  clear hE hb1 hg1 hlt hops hap hlv hW1 hW1'
  go_enter Tryz.func6, Tryz.ntmps6
  go_wp2_with fail
  rw [← HW1.out]
  refine HAp.out.mono ?_
  rintro e w2 ⟨hb2, v', S, rfl, hown⟩
  obtain ⟨g0, g1, ⟨ga, gc, g2⟩, gk, gkc, g3⟩ := hown.lies.forms
  have HB2 := hidLL (HB1.out.trans (hb2.mono HB1.out.size))
  rw [g0, g1, g2, g3]
  have ht : ((It.mk ⟨#[]⟩ ⟨#[98]⟩ [] []).head.toList == [98]) = true := by kernel_rfl
  generalize (It.mk ⟨#[]⟩ ⟨#[98]⟩ [] []) = t2 at *
  generalize t2.lines.length = n1 at *
  generalize t2.kids.length = n2 at *
  clear hown hb2 HAp HW1 g0 g1 g2 g3
  go_wp2
  go_ret
  exact ⟨rfl, HB2.out.alloc HB2.out.size _⟩
end Go.Proofs.YtpbolcjcmkmalaaGreatDoor
namespace Go.Proofs.YtpbolcjcmkmalaaGreatDoor
open Go.RowKit Go.Extern.Stop Go.Stop Go.Extern

theorem OpsIn.take {w : World} {N : Nat} {oa : Option Addr} {ops : List OpW} (h : OpsIn w N oa ops) (k : Nat) : OpsIn w N oa (ops.take k) := fun i op hi => by
  rw [List.getElem?_take] at hi
  split at hi
  · exact h i op hi
  · cases hi
theorem OpsIn.drop {w : World} {N b o : Nat} {ops : List OpW} (h : OpsIn w N (some ⟨b, o, none⟩) ops) (k : Nat) : OpsIn w N (some ⟨b, o + k * 10, none⟩) (ops.drop k) := fun i op hi => by
  rw [List.getElem?_drop] at hi
  obtain ⟨b', o', iv, e, hN, hc, h1⟩ := h (k + i) op hi
  injection e with e
  injection e with e1 e2 _
  subst e1 e2
  exact ⟨b, o + k * 10, iv, rfl, hN, fun c u hu => by rw [show o + k * 10 + i * 10 + c = o + (k + i) * 10 + c by omega]; exact hc c u hu, h1⟩
theorem OpsIn.from {w : World} {N oc : Nat} {oa : Option Addr} {ops : List OpW} (h : OpsIn w N oa ops) (q : Nat) (hc : ops.length ≤ oc) : OpsIn w N (if oc = q then oa else Option.map (fun x => x.add (q * 10)) oa) (ops.drop q) := fun i op hi => by
  have hi' := hi
  rw [List.getElem?_drop] at hi'
  have hlt := (List.getElem?_eq_some_iff.1 hi').1
  obtain ⟨b, o, iv, e, _⟩ := h (q + i) op hi'
  subst e
  rw [if_neg (by omega)]
  show ∃ b' o' iv', some (Addr.add ⟨b, o, none⟩ (q * 10)) = _ ∧ _
  rw [addr_plus]
  exact h.drop q i op hi
theorem OpsIn.nil (w : World) (N : Nat) (oa : Option Addr) : OpsIn w N oa [] := fun i op hi => by cases hi
theorem OpsIn.mono {w : World} {N N' : Nat} {oa : Option Addr} {ops : List OpW} (h : OpsIn w N oa ops) (hN : N ≤ N') : OpsIn w N' oa ops := fun i op hi => by
  obtain ⟨b, o, iv, e, h1, hc, h2, h3⟩ := h i op hi
  exact ⟨b, o, iv, e, Nat.lt_of_lt_of_le h1 hN, hc, h2.mono hN, h3⟩
theorem POut.inv {t u : It} {ops : List OpW} (h : applyC t ops = .ok u) : Law t ∧ ops.length ≤ 100 ∧ allC 0 t ops = .ok u := by
  unfold applyC at h
  cases hv : vIt 0 0 [] t with
  | bad c => rw [hv] at h; cases h
  | ok m =>
    rw [hv] at h
    have h : (if 100 < ops.length then POut.no 2 else match allC 0 t ops with | .bad i c => .bad i c | .ok u => .ok u) = .ok u := h
    split at h
    · cases h
    · rename_i hn
      refine ⟨law_iff.2 ⟨m, hv⟩, by omega, ?_⟩
      cases ha : allC 0 t ops with
      | bad i c => rw [ha] at h; cases h
      | ok u' => rw [ha] at h; injection h with h; rw [h]
theorem apply_ok {t u : It} {ops : List OpW} (h : Law t) (hn : ops.length ≤ 100) (ha : allC 0 t ops = .ok u) : applyC t ops = .ok u := by
  obtain ⟨m, hm⟩ := law_iff.1 h
  exact ap_ok hm (by omega) ha
/-- What a law that is right weighs. -/
theorem rgt_wt {d : Nat} {t : It} (h : Rgt d t) : wtI t ≤ 41 * (1 + cntIt t) := by
  induction h with
  | mk d t h hd hk ih =>
    obtain ⟨h1, _, _⟩ := texts_iff.1 ⟨h.2.1, h.2.2.2⟩
    rw [wtI_eq, cntIt_eq]
    have hkk : ∀ l : List It, (∀ k, k ∈ l → wtI k ≤ 41 * (1 + cntIt k)) → wtK l ≤ 41 * cntKs l := by
      intro l
      induction l with
      | nil => intro _; rw [wtK, cntKs]; omega
      | cons a r ih2 =>
        intro hl
        have := hl a (by simp)
        have := ih2 (fun k hk => hl k (List.mem_cons_of_mem _ hk))
        rw [wtK, cntKs]
        omega
    have := hkk t.kids ih
    omega
theorem law_wt {t : It} (h : Law t) : wtI t ≤ 400000 := by
  have := rgt_wt h.1
  have := h.2
  omega
theorem few_smallIt {t : It} (h : FewIt t) : SmallIt t := by
  induction h with
  | mk t h1 h2 h3 h4 h5 h6 ih => exact .mk t (by omega) (by omega) ih
theorem law_small {t : It} (h : Law t) : SmallIt t := few_smallIt (law_few h)
/-- What a call owns it can copy, and tell its places apart. -/
theorem Own.src {w : World} {B : Nat} {v : Nat → Value} {t : It} {S : Nat → Prop} (h : Own w B v t S) : FewIt t → SrcT w w.heap.size True v t := by
  induction h with
  | mk v t K T S h0 h1 ln kd sl sk hr hT hd hS ih =>
    intro hF
    obtain ⟨b1, b2, _, _, _, b6⟩ := hF.get
    obtain ⟨la, lc, el⟩ := row_any ln
    obtain ⟨ka, kc, ek⟩ := row_any kd
    refine .mk v t la ka lc kc K h0 h1 el ek (fun i s hs => ?_) (fun i hi => ?_) (fun i k e => ih i k e (b6 k (List.mem_of_getElem? e))) (fun hla => ?_) (fun hka => ?_) (by omega) (by omega) (by rw [el] at ln; exact row_cap ln) (by rw [ek] at kd; exact row_cap kd)
    · obtain ⟨hi, _⟩ := List.getElem?_eq_some_iff.1 hs
      obtain ⟨g, cap, e, hg, hb⟩ := row_form ln (by omega)
      rw [el] at e ln
      injection e with e1 e2 e3
      rw [e1] at ln
      refine ⟨g, 0, e1, hg, ?_⟩
      have := ln.cellAt i (by omega)
      simpa [hs] using this
    · obtain ⟨g, cap, e, hg, hb⟩ := row_form kd (by omega)
      have hp : ∃ cur, w.heap[g]? = some (.cells cur 25 (0, 0)) := by
        rcases kd.2 with ⟨e1, h0⟩ | ⟨g', cap', cur, e1, _, hgg, _⟩
        · omega
        · rw [e] at e1
          injection e1 with e1 _ _
          injection e1 with e1
          injection e1 with e1 _ _
          exact ⟨cur, by rw [e1]; exact hgg⟩
      rw [ek] at e kd
      injection e with e1 e2 e3
      rw [e1] at kd
      have hc : ∀ c, c < 4 → w.cell? ⟨g, 0 + i * 4 + c, none⟩ = some (K i c) := fun c hc => by
        rw [kd.cellAt (0 + i * 4 + c) (by omega), Nat.zero_add]
        exact flat4_get K t.kids.length i c hi hc
      obtain ⟨cur, hp⟩ := hp
      refine ⟨g, 0, e1, hg, ⟨⟨_, hc 0 (by omega)⟩, ?_⟩, fun _ => ⟨cur, _, hp⟩, hc⟩
      unfold World.frozen?
      rw [hp]
      simp
    · rcases ln.2 with ⟨e1, _⟩ | ⟨g, cap, cur, e1, _⟩
      · rw [el] at e1; injection e1 with _ _ e1
      · rw [el, hla] at e1; cases e1
    · rcases kd.2 with ⟨e1, _⟩ | ⟨g, cap, cur, e1, _⟩
      · rw [ek] at e1; injection e1 with _ _ e1
      · rw [ek, hka] at e1; cases e1
end Go.Proofs.YtpbolcjcmkmalaaGreatDoor
namespace Go.Proofs.YtpbolcjcmkmalaaGreatDoor
open Go.RowKit Go.Extern.Stop Go.Stop Go.Extern

/-- What a call owns can be changed again. -/
theorem apply_own {w W : World} {B N : Nat} {v : Nat → Value} {u : It} {S : Nat → Prop} (h : Own w B v u S) (hl : Law u) {s hd : ByteArray} {la ka : Option Addr} {ln lc kn kc : Nat} (hv : #[v 0, v 1, v 2, v 3] = #[Value.string s, .string hd, .slice la ln lc, .slice ka kn kc])
    (hW : Below w.heap.size w W) {oa : Option Addr} {oc : Nat} {ops : List OpW} (ho : OpsIn W N oa ops) (hN : N ≤ w.heap.size) (hn : ops.length ≤ 1000) {p : Nat → Addr} {m : Int} (hE : Env W p m) :
    Calls Tryz.prog 9 #[.agg #[.string s, .string hd, .slice la ln lc, .slice ka kn kc], .slice oa ops.length oc] W (AnsR W p (applyC u ops)) := by
  rw [← hv]
  exact (apply_a ((h.src (law_few hl)).on fun k hk => hW.block k hk) hW.size (law_wt hl) (.inl trivial) (law_few hl) (ho.mono hN) hn hE (oc := oc)).mono fun e w' h => ans_of h
theorem law_iff_apply {t u : It} {a b : List OpW} (h : applyC t a = .ok u) (hb : b.length ≤ 100) : (∃ v, applyC u b = .ok v ∧ allC 0 u b = .ok v) ∨ ∃ i c, applyC u b = .bad i c ∧ allC 0 u b = .bad i c := by
  obtain ⟨h1, h2, h3⟩ := POut.inv h
  obtain ⟨m, hm⟩ := law_iff.1 (law_all _ _ _ _ h1 h3)
  cases ha : allC 0 u b with
  | ok v => exact .inl ⟨v, ap_ok hm (by omega) ha, rfl⟩
  | bad i c => exact .inr ⟨i, c, ap_bad hm (by omega) ha, rfl⟩
/-- Both orders: a bound, or the same law. -/
theorem both_orders {t u w : It} {a b : List OpW} (ha : applyC t a = .ok u) (hb : applyC t b = .ok w) (hd : ApD (a.flatMap tgB) (b.flatMap tgB)) : codeN (applyC u b) = 2 ∨ codeN (applyC w a) = 2 ∨ ∃ v, Law v ∧ applyC u b = .ok v ∧ applyC w a = .ok v := by
  obtain ⟨h1, h2, h3⟩ := POut.inv ha
  obtain ⟨_, k2, k3⟩ := POut.inv hb
  rcases commutes_text h1 (fun x hx y hy hm => hd x hx (MeA.mk hy hm)) h3 k3 with (⟨j, hj⟩ | ⟨j, hj⟩) | ⟨v, hv, hv'⟩
  · refine .inl ?_
    rcases law_iff_apply ha k2 with ⟨v, _, h⟩ | ⟨i, c, h, h'⟩
    · rw [hj] at h; cases h
    · rw [hj] at h'
      injection h' with _ h'
      rw [h, ← h']; rfl
  · refine .inr (.inl ?_)
    rcases law_iff_apply hb h2 with ⟨v, _, h⟩ | ⟨i, c, h, h'⟩
    · rw [hj] at h; cases h
    · rw [hj] at h'
      injection h' with _ h'
      rw [h, ← h']; rfl
  · refine .inr (.inr ⟨v, law_all _ _ _ _ (law_all _ _ _ _ h1 h3) hv, ?_, ?_⟩)
    · rcases law_iff_apply ha k2 with ⟨v', h, h'⟩ | ⟨i, c, h, h'⟩
      · rw [hv] at h'; injection h' with h'; rw [h, ← h']
      · rw [hv] at h'; cases h'
    · rcases law_iff_apply hb h2 with ⟨v', h, h'⟩ | ⟨i, c, h, h'⟩
      · rw [hv'] at h'; injection h' with h'; rw [h, ← h']
      · rw [hv'] at h'; cases h'
theorem raw_ops {w W : World} {N : Nat} {oa : Option Addr} {ops : List OpW} (h : OpsRaw w N oa ops) (hN : N ≤ w.heap.size) (hb : Below w.heap.size w W) : OpsRaw W N oa ops := h.on fun q hq => hb.block q (by omega)
set_option maxHeartbeats 16000000 in
set_option maxRecDepth 20000 in
theorem amendCommutes_walk (t : It) (hsz : sizeIt t ≤ 1048576) (a b : List OpW) (xa ya : Option Addr) (xc yc : Nat) (p : Nat → Addr) (m : Int) (w : World) (hE : Env w p m) (v : Nat → Value) (hs : RawT w w.heap.size v t) (hx : OpsRaw w w.heap.size xa a) (hy : OpsRaw w w.heap.size ya b) (hn : a.length ≤ 1048576) (hm : b.length ≤ 1048576) :
    Calls Tryz.prog 5 #[.agg #[v 0, v 1, v 2, v 3], .slice xa a.length xc, .slice ya b.length yc] w fun e w' => e = .returned (.bool true) ∧ Below w.heap.size w w' := by
  obtain ⟨f0, f1, ⟨la, lc, f2⟩, ka, kc, f3⟩ := hs.lies.forms
  have hsW : ∀ W, Below w.heap.size w W → RawT W w.heap.size v t := fun W hb => hs.on fun q hq => hb.block q hq
  have hfw : ∀ W, Below w.heap.size w W → _ := fun W hb => few_any t (by omega) v W _ (hsW W hb).lies
  have hfx : ∀ W, Below w.heap.size w W → Calls Tryz.prog 8 #[.slice xa a.length xc] W (FwR W a) := fun W hb => fewOps_w (oc := xc) (fun i op hi => by
    obtain ⟨b, o, iv, e, h1, h2, h3, h4⟩ := raw_ops hx (Nat.le_refl _) hb i op hi
    exact ⟨b, o, iv, e, Nat.lt_of_lt_of_le h1 hb.size, h2, h3.mono hb.size, h4⟩) hn
  have hfy : ∀ W, Below w.heap.size w W → Calls Tryz.prog 8 #[.slice ya b.length yc] W (FwR W b) := fun W hb => fewOps_w (oc := yc) (fun i op hi => by
    obtain ⟨b, o, iv, e, h1, h2, h3, h4⟩ := raw_ops hy (Nat.le_refl _) hb i op hi
    exact ⟨b, o, iv, e, Nat.lt_of_lt_of_le h1 hb.size, h2, h3.mono hb.size, h4⟩) hm
  have hlv : ∀ W, Below w.heap.size w W → _ := fun W hb => alive_w (hE.on hb)
  have hap : smallN 0 t ≤ 400 → ∀ W, Below w.heap.size w W → ∀ (ops' : List OpW) (oa' : Option Addr) (oc' : Nat), OpsIn W w.heap.size oa' ops' → ops'.length ≤ 102 → _ := fun h1 W hb ops' oa' oc' h3 h4 => (apply_a ((hsW W hb).src (few_it _ t (Nat.le_refl _) 0 h1)) hb.size (by have := wt_small _ t (Nat.le_refl _) 0 h1; omega) (.inr (by have := wt_small _ t (Nat.le_refl _) 0 h1; omega)) (few_it _ t (Nat.le_refl _) 0 h1) h3 (by omega) (hE.on hb) (oc := oc')).mono fun e w' h => ans_of h
  have hxI : FewO a → ∀ W, Below w.heap.size w W → OpsIn W w.heap.size xa a := fun h W hb => h.ops (raw_ops hx (Nat.le_refl _) hb)
  have hyI : FewO b → ∀ W, Below w.heap.size w W → OpsIn W w.heap.size ya b := fun h W hb => h.ops (raw_ops hy (Nat.le_refl _) hb)
  rw [f0, f1, f2, f3] at hfw hap
  rw [f0, f1, f2, f3]
  obtain ⟨W1, hW1⟩ : ∃ W1, W1 = w.alloc (.cells #[.string t.label, .string t.head, .slice la t.lines.length lc, .slice ka t.kids.length kc] itT) := ⟨_, rfl⟩
  have hb1 : Below w.heap.size w W1 := by rw [hW1]; exact (Below.refl _ _).alloc (Nat.le_refl _) _
  have hx1 : W1.heap[w.heap.size]? = some (.cells #[.string t.label, .string t.head, .slice la t.lines.length lc, .slice ka t.kids.length kc] itT (0, 0)) := by rw [hW1]; exact heap_alloc_new _ _
  have HFw := hidLL hfw
  have HFx := hidLL hfx
  have HFy := hidLL hfy
  have HLv := hidLL hlv
  have HAp := hidLL hap
  have HI := hidLL (And.intro hxI hyI)
  have HB1 := hidLL hb1
  have HX1 := hidLL hx1
  have HW1 := hidLL hW1
  have HE := hidLL hE
  have hs1 : w.heap.size < W1.heap.size := (Array.getElem?_eq_some_iff.1 hx1).1
  have HCl : Hid (∀ W, Below W1.heap.size W1 W → W.cell? ⟨w.heap.size, 0, none⟩ = some (.string t.label) ∧ W.cell? ⟨w.heap.size, 1, none⟩ = some (.string t.head) ∧ W.cell? ⟨w.heap.size, 2, none⟩ = some (.slice la t.lines.length lc) ∧ W.cell? ⟨w.heap.size, 3, none⟩ = some (.slice ka t.kids.length kc)) := fun W hW => by
    obtain ⟨c0, c1, c2, c3, _⟩ := four ((hW.block w.heap.size hs1).trans HX1.out)
    exact ⟨c0, c1, c2, c3⟩
  obtain ⟨an, han⟩ : ∃ n, n = a.length := ⟨_, rfl⟩
  obtain ⟨bn, hbn⟩ : ∃ n, n = b.length := ⟨_, rfl⟩
  have HN := hidLL (And.intro han hbn)
  rw [← han] at hn HFx ⊢
  rw [← hbn] at hm HFy ⊢
  obtain ⟨sn, hsn⟩ : ∃ sn, sn = smallN 0 t := ⟨_, rfl⟩
  rw [← hsn] at HFw HAp
  clear hsz hE hs hx hy f0 f1 f2 f3 hsW hfw hfx hfy hlv hap hxI hyI hb1 hx1 hW1 han hbn hsn
  generalize t.label = tl at *
  generalize t.head = th at *
  generalize t.lines.length = tn at *
  generalize t.kids.length = tk at *
  go_enter Tryz.func5, Tryz.ntmps5
  go_upto_region 1 with fail
  rw [← HW1.out]
  go_wp2_with fail
  refine (HLv.out W1 HB1.out).mono ?_
  rintro e w2 ⟨rfl, hb2⟩
  have HC2 := hidLL hb2
  have HB2 := hidLL (HB1.out.trans (hb2.mono HB1.out.size))
  obtain ⟨x0, x1, x2, x3⟩ := HCl.out w2 hb2
  clear hb2
  go_wp2_with fail
  refine (HFw.out w2 HB2.out).mono ?_
  rintro e w3 ⟨rfl, hb3⟩
  have HC3 := hidLL (HC2.out.trans (hb3.mono HC2.out.size))
  have HB3 := hidLL (HB2.out.trans (hb3.mono HB2.out.size))
  clear hb3 x0 x1 x2 x3
  go_wp2_with fail
  refine (HFx.out w3 HB3.out).mono ?_
  rintro e w4 ⟨⟨r, rfl, hr⟩, hb4⟩
  have HC4 := hidLL (HC3.out.trans (hb4.mono HC3.out.size))
  have HB4 := hidLL (HB3.out.trans (hb4.mono HB3.out.size))
  clear hb4
  go_wp2_with fail
  refine (HFy.out w4 HB4.out).mono ?_
  rintro e w5 ⟨⟨q, rfl, hq⟩, hb5⟩
  have HC5 := hidLL (HC4.out.trans (hb5.mono HC4.out.size))
  have HB5 := hidLL (HB4.out.trans (hb5.mono HB4.out.size))
  clear hb5
  rcases Nat.lt_or_ge 400 sn with hfew | hfew
  · have hfew : ¬ sn ≤ 400 := by omega
    have hfd : decide (sn ≤ 400) = false := decide_eq_false hfew
    rw [hfd]
    clear hfd hfew hr hq
    go_wp2
    go_ret
    exact ⟨rfl, HB5.out⟩
  rw [decide_eq_true hfew]
  cases r
  · clear hr hq
    go_wp2
    go_ret
    exact ⟨rfl, HB5.out⟩
  cases q
  · clear hr hq
    go_wp2
    go_ret
    exact ⟨rfl, HB5.out⟩
  have HFO := hidLL (And.intro (hr rfl) (hq rfl))
  have hIx := HI.out.1 (hr rfl)
  have hIy := HI.out.2 (hq rfl)
  have HPt : Hid (∀ W, Below w.heap.size w W → _) := fun W hW => apart_w (xc := xc) (yc := yc) (hIx W hW) (hIy W hW) hW.size (by have := HFO.out.1.len; omega) (by have := HFO.out.2.len; omega)
  have HA1 : Hid (∀ W, Below w.heap.size w W → _) := fun W hW => HAp.out hfew W hW a xa xc (hIx W hW) HFO.out.1.len
  have HA2 : Hid (∀ W, Below w.heap.size w W → _) := fun W hW => HAp.out hfew W hW b ya yc (hIy W hW) HFO.out.2.len
  rw [← HN.out.1] at HA1
  rw [← HN.out.2] at HA2
  rw [← HN.out.1, ← HN.out.2] at HPt
  have HIx := hidLL (And.intro hIx hIy)
  clear hr hq hfew HAp HFw HFx HFy HLv HI hIx hIy
  go_wp2_with fail
  refine (HPt.out w5 HB5.out).mono ?_
  rintro e w6 ⟨⟨bb, rfl, hbb⟩, hb6⟩
  have HC6 := hidLL (HC5.out.trans (hb6.mono HC5.out.size))
  have HB6 := hidLL (HB5.out.trans (hb6.mono HB5.out.size))
  have HBB := hidLL hbb
  obtain ⟨x0, x1, x2, x3⟩ := HCl.out w6 HC6.out
  clear hb6 hbb HPt
  go_wp2_with fail
  refine (HA1.out w6 HB6.out).mono ?_
  rintro e w7 ⟨hb7, s1, h1, la1, ka1, ln1, lc1, kn1, kc1, er1, rfl, he1, _, ho1⟩
  have HC7 := hidLL (HC6.out.trans (hb7.mono HC6.out.size))
  have HB7 := hidLL (HB6.out.trans (hb7.mono HB6.out.size))
  have HE1 := hidLL he1
  have HO1 := hidLL ho1
  clear hb7 he1 ho1 HA1 x0 x1 x2 x3
  obtain ⟨W8, hW8⟩ : ∃ W8, W8 = w7.alloc (.cells #[.string s1, .string h1, .slice la1 ln1 lc1, .slice ka1 kn1 kc1] itT) := ⟨_, rfl⟩
  have HW8 := hidLL hW8
  have hb8 : Below w7.heap.size w7 W8 := by rw [hW8]; exact (Below.refl _ _).alloc (Nat.le_refl _) _
  have HX8 : Hid (W8.heap[w7.heap.size]? = some (.cells #[.string s1, .string h1, .slice la1 ln1 lc1, .slice ka1 kn1 kc1] itT (0, 0))) := by show _ = _; rw [hW8]; exact heap_alloc_new _ _
  have HC8 := hidLL (HC7.out.trans (hb8.mono HC7.out.size))
  have HB8 := hidLL (HB7.out.trans (hb8.mono HB7.out.size))
  have HD8 := hidLL hb8
  clear hW8 hb8
  go_upto_region 9 with fail
  rw [← HW8.out]
  obtain ⟨x0, x1, x2, x3⟩ := HCl.out W8 HC8.out
  go_wp2_with fail
  refine (HA2.out W8 HB8.out).mono ?_
  rintro e w9 ⟨hb9, s2, h2, la2, ka2, ln2, lc2, kn2, kc2, er2, rfl, he2, _, ho2⟩
  have HC9 := hidLL (HC8.out.trans (hb9.mono HC8.out.size))
  have HB9 := hidLL (HB8.out.trans (hb9.mono HB8.out.size))
  have HD9 := hidLL (HD8.out.trans (hb9.mono HD8.out.size))
  have HX9 := hidLL ((hb9.block w7.heap.size (Array.getElem?_eq_some_iff.1 HX8.out).1).trans HX8.out)
  have HE2 := hidLL he2
  have HO2 := hidLL ho2
  clear hb9 he2 ho2 HA2 x0 x1 x2 x3
  obtain ⟨W10, hW10⟩ : ∃ W10, W10 = w9.alloc (.cells #[.string s2, .string h2, .slice la2 ln2 lc2, .slice ka2 kn2 kc2] itT) := ⟨_, rfl⟩
  have HW10 := hidLL hW10
  have hb10 : Below w9.heap.size w9 W10 := by rw [hW10]; exact (Below.refl _ _).alloc (Nat.le_refl _) _
  have HY10 : Hid (W10.heap[w9.heap.size]? = some (.cells #[.string s2, .string h2, .slice la2 ln2 lc2, .slice ka2 kn2 kc2] itT (0, 0))) := by show _ = _; rw [hW10]; exact heap_alloc_new _ _
  have HX10 := hidLL ((hb10.block w7.heap.size (Array.getElem?_eq_some_iff.1 HX9.out).1).trans HX9.out)
  have HB10 := hidLL (HB9.out.trans (hb10.mono HB9.out.size))
  have HD10 := hidLL (HD9.out.trans (hb10.mono HD9.out.size))
  have HF10 := hidLL hb10
  clear hW10 hb10 HX8 HX9
  go_upto_region 10 with fail
  rw [← HW10.out]
  cases bb
  · go_wp2
    go_ret
    exact ⟨rfl, HB10.out⟩
  have HDj := hidLL (HBB.out.1 (by trivial))
  rcases HE1.out.is with ⟨⟨u, hu⟩, rfl⟩ | ⟨_, _, T, g, rfl⟩
  rotate_left
  · go_wp2
    go_ret
    exact ⟨rfl, HB10.out⟩
  rcases HE2.out.is with ⟨⟨z, hz⟩, rfl⟩ | ⟨_, _, T, g, rfl⟩
  rotate_left
  · go_wp2
    go_ret
    exact ⟨rfl, HB10.out⟩
  obtain ⟨v1, S1, hv1, hown1⟩ := HO1.out u hu
  obtain ⟨v2, S2, hv2, hown2⟩ := HO2.out z hz
  have hBo := both_orders hu hz HDj.out
  have HL := hidLL (And.intro (law_all _ _ _ _ (POut.inv hu).1 (POut.inv hu).2.2) (law_all _ _ _ _ (POut.inv hz).1 (POut.inv hz).2.2))
  have H3 : Hid (∀ W, Below w7.heap.size w7 W → Calls Tryz.prog 9 #[.agg #[.string s1, .string h1, .slice la1 ln1 lc1, .slice ka1 kn1 kc1], .slice ya bn yc] W (AnsR W p (applyC u b))) := fun W hW => by
    have hbW := HB7.out.trans (hW.mono HB7.out.size)
    have := apply_own (oc := yc) hown1 HL.out.1 hv1 hW (HIx.out.2 W hbW) HB7.out.size (by have := HFO.out.2.len; omega) (HE.out.on hbW)
    rw [← HN.out.2] at this
    exact this
  have H4 : Hid (∀ W, Below w9.heap.size w9 W → Calls Tryz.prog 9 #[.agg #[.string s2, .string h2, .slice la2 ln2 lc2, .slice ka2 kn2 kc2], .slice xa an xc] W (AnsR W p (applyC z a))) := fun W hW => by
    have hbW := HB9.out.trans (hW.mono HB9.out.size)
    have := apply_own (oc := xc) hown2 HL.out.2 hv2 hW (HIx.out.1 W hbW) HB9.out.size (by have := HFO.out.1.len; omega) (HE.out.on hbW)
    rw [← HN.out.1] at this
    exact this
  have HBo := hidLL hBo
  clear hv1 hown1 hv2 hown2 hBo hu hz
  generalize applyC u b = r3 at *
  generalize applyC z a = r4 at *
  obtain ⟨x0, x1, x2, x3, _⟩ := four HX10.out
  go_wp2_with fail
  refine (H3.out W10 HD10.out).mono ?_
  rintro e w11 ⟨hb11, s3, h3, la3, ka3, ln3, lc3, kn3, kc3, er3, rfl, he3, _, ho3⟩
  have HB11 := hidLL (HB10.out.trans (hb11.mono HB10.out.size))
  have HF11 := hidLL (HF10.out.trans (hb11.mono HF10.out.size))
  have HY11 := hidLL ((hb11.block w9.heap.size (Array.getElem?_eq_some_iff.1 HY10.out).1).trans HY10.out)
  have HE3 := hidLL he3
  have HO3 := hidLL ho3
  clear hb11 he3 ho3 x0 x1 x2 x3 H3
  obtain ⟨W12, hW12⟩ : ∃ W12, W12 = w11.alloc (.cells #[.string s3, .string h3, .slice la3 ln3 lc3, .slice ka3 kn3 kc3] itT) := ⟨_, rfl⟩
  have HW12 := hidLL hW12
  have hb12 : Below w11.heap.size w11 W12 := by rw [hW12]; exact (Below.refl _ _).alloc (Nat.le_refl _) _
  have HP12 : Hid (W12.heap[w11.heap.size]? = some (.cells #[.string s3, .string h3, .slice la3 ln3 lc3, .slice ka3 kn3 kc3] itT (0, 0))) := by show _ = _; rw [hW12]; exact heap_alloc_new _ _
  have HY12 := hidLL ((hb12.block w9.heap.size (Array.getElem?_eq_some_iff.1 HY11.out).1).trans HY11.out)
  have HB12 := hidLL (HB11.out.trans (hb12.mono HB11.out.size))
  have HF12 := hidLL (HF11.out.trans (hb12.mono HF11.out.size))
  have HG12 := hidLL hb12
  clear hW12 hb12 HY11
  go_upto_region 13 with fail
  rw [← HW12.out]
  obtain ⟨x0, x1, x2, x3, _⟩ := four HY12.out
  go_wp2_with fail
  refine (H4.out W12 HF12.out).mono ?_
  rintro e w13 ⟨hb13, s4, h4, la4, ka4, ln4, lc4, kn4, kc4, er4, rfl, he4, _, ho4⟩
  have HB13 := hidLL (HB12.out.trans (hb13.mono HB12.out.size))
  have HG13 := hidLL (HG12.out.trans (hb13.mono HG12.out.size))
  have HP13 := hidLL ((hb13.block w11.heap.size (Array.getElem?_eq_some_iff.1 HP12.out).1).trans HP12.out)
  have HE4 := hidLL he4
  have HO4 := hidLL ho4
  clear hb13 he4 ho4 x0 x1 x2 x3 H4
  obtain ⟨W14, hW14⟩ : ∃ W14, W14 = w13.alloc (.cells #[.string s4, .string h4, .slice la4 ln4 lc4, .slice ka4 kn4 kc4] itT) := ⟨_, rfl⟩
  have HW14 := hidLL hW14
  have hb14 : Below w13.heap.size w13 W14 := by rw [hW14]; exact (Below.refl _ _).alloc (Nat.le_refl _) _
  have HQ14 : Hid (W14.heap[w13.heap.size]? = some (.cells #[.string s4, .string h4, .slice la4 ln4 lc4, .slice ka4 kn4 kc4] itT (0, 0))) := by show _ = _; rw [hW14]; exact heap_alloc_new _ _
  have HP14 := hidLL ((hb14.block w11.heap.size (Array.getElem?_eq_some_iff.1 HP13.out).1).trans HP13.out)
  have HB14 := hidLL (HB13.out.trans (hb14.mono HB13.out.size))
  have HG14 := hidLL (HG13.out.trans (hb14.mono HG13.out.size))
  have HH14 := hidLL hb14
  clear hW14 hb14 HP13
  have HK3 := hidLL (code_p (HE.out.on HB14.out).L (HE3.out.below HG14.out))
  go_upto_region 14 with fail
  rw [← HW14.out]
  go_wp2_with fail
  refine HK3.out.mono ?_
  rintro e w15 ⟨rfl, hb15⟩
  have HB15 := hidLL (HB14.out.trans (hb15.mono HB14.out.size))
  have HG15 := hidLL (HG14.out.trans (hb15.mono HG14.out.size))
  have HH15 := hidLL (HH14.out.trans (hb15.mono HH14.out.size))
  have HP15 := hidLL ((hb15.block w11.heap.size (Array.getElem?_eq_some_iff.1 HP14.out).1).trans HP14.out)
  have HQ15 := hidLL ((hb15.block w13.heap.size (Array.getElem?_eq_some_iff.1 HQ14.out).1).trans HQ14.out)
  have HK4 := hidLL (code_p (HE.out.on HB15.out).L (HE4.out.below HH15.out))
  clear hb15 HK3
  go_wp2_with fail
  refine HK4.out.mono ?_
  rintro e w16 ⟨rfl, hb16⟩
  have HB16 := hidLL (HB15.out.trans (hb16.mono HB15.out.size))
  have HG16 := hidLL (HG15.out.trans (hb16.mono HG15.out.size))
  have HH16 := hidLL (HH15.out.trans (hb16.mono HH15.out.size))
  have HP16 := hidLL ((hb16.block w11.heap.size (Array.getElem?_eq_some_iff.1 HP15.out).1).trans HP15.out)
  have HQ16 := hidLL ((hb16.block w13.heap.size (Array.getElem?_eq_some_iff.1 HQ15.out).1).trans HQ15.out)
  clear hb16 HK4
  generalize atN r3 = at3 at *
  generalize atN r4 = at4 at *
  rcases Nat.decEq (codeN r3) 2 with c3 | c3
  rotate_left
  · rw [c3]
    go_wp2
    go_ret
    exact ⟨rfl, HB16.out⟩
  rcases Nat.decEq (codeN r4) 2 with c4 | c4
  rotate_left
  · rw [c4]
    have c3' : ¬ (codeN r3 : Int) = 2 := by omega
    generalize codeN r3 = n3 at *
    go_wp2
    go_ret
    exact ⟨rfl, HB16.out⟩
  rcases HBo.out with h | h | ⟨v, hlv, e3, e4⟩
  · exact absurd h c3
  · exact absurd h c4
  subst e3 e4
  have HK : Hid (codeN (.ok v) = 0) := rfl
  rw [HK.out]
  obtain ⟨v3, S3, hv3, hown3⟩ := HO3.out v rfl
  obtain ⟨v4, S4, hv4, hown4⟩ := HO4.out v rfl
  have hl3 : Lies w16 (fun _ => True) v3 v := hown3.lies.step fun q hq _ => ⟨HG16.out.block q hq, trivial⟩
  have hl4 : Lies w16 (fun _ => True) v4 v := hown4.lies.step fun q hq _ => ⟨HH16.out.block q hq, trivial⟩
  have hsm := same_any (law_small hlv) w16 _ _ v3 v4 hl3 hl4
  rw [hv3, hv4] at hsm
  have HSm := hidLL hsm
  obtain ⟨x0, x1, x2, x3, _⟩ := four HP16.out
  obtain ⟨y0, y1, y2, y3, _⟩ := four HQ16.out
  clear hv3 hown3 hv4 hown4 hl3 hl4 hsm c3 c4 hlv
  go_wp2_with fail
  refine HSm.out.mono ?_
  rintro e w17 ⟨rfl, hb17⟩
  have HB17 := hidLL (HB16.out.trans (hb17.mono HB16.out.size))
  clear hb17 x0 x1 x2 x3 y0 y1 y2 y3
  go_wp2
  go_ret
  exact ⟨rfl, HB17.out⟩
end Go.Proofs.YtpbolcjcmkmalaaGreatDoor
namespace Go.Proofs.YtpbolcjcmkmalaaGreatDoor
open Go.ChangeShapes Go.WideShapes Go.ChangeAt Go.WideMaps Go.WideElems Go.RowKit

theorem bulk_pos {H : Type} (d : DataW H) : 1 ≤ Rows.uptoBulk d := by
  unfold Rows.uptoBulk
  split <;> omega
theorem bulk_mem {H : Type} : ∀ {l : List (DataW H)} {d : DataW H}, d ∈ l → Rows.uptoBulk d ≤ Rows.uptoBulkAll l
  | a :: r, d, h => by
    rw [Rows.uptoBulkAll]
    rcases List.mem_cons.1 h with rfl | h
    · omega
    · have := bulk_mem h; omega
theorem bulk_len {H : Type} : ∀ (l : List (DataW H)), l.length ≤ Rows.uptoBulkAll l
  | [] => by simp
  | a :: r => by
    have := bulk_len r
    have := bulk_pos a
    rw [Rows.uptoBulkAll, List.length_cons]
    omega
section
variable {H : Type} {enc : TypeId × Value → H} {W : World}
theorem frz_sub {p q : List MemPlace} (h : W.noneFrozen q) (hs : ∀ x, x ∈ p → x ∈ q) : W.noneFrozen p := fun b o hm => h b o (hs _ hm)
theorem frz_field {xs : List (DataW H × List MemPlace)} (h : W.noneFrozen (xs.flatMap (·.2))) {y : DataW H × List MemPlace} (hy : y ∈ xs) : W.noneFrozen y.2 := frz_sub h fun _ hx => List.mem_flatMap.2 ⟨y, hy, hx⟩
/-- A slice's reading, an element at a time, whatever an element is: by bulk; no place of it is frozen. -/
theorem slice_bulk {α : Type} {t e : TypeId} {k : Nat} (hk : 0 < k) (ht : Tryz.prog.underlying t = some (.slice e)) (hc : Tryz.prog.cellsOf e = k) {fuel : Nat} {v : Value} {x : DataW H × List MemPlace}
    (h : DataW.trod enc Tryz.prog W 0 (fun _ => true) true fuel t [v] = some x) (hz : W.noneFrozen x.2) (M : Nat) (hM : Rows.uptoBulk x.1 ≤ M) (P : α → List Value → Nat → Prop)
    (hone : ∀ n, n < fuel → ∀ cs y, DataW.trod enc Tryz.prog W 0 (fun _ => true) true n e cs = some y → W.noneFrozen y.2 → Rows.uptoBulk y.1 ≤ M → ∃ a, P a cs (Rows.uptoBulk y.1)) :
    ∃ a c, ∃ l : List α, v = .slice a l.length c ∧ (a = none → c = 0) ∧ l.length ≤ c ∧ l.length ≤ M ∧ (∃ zs : List Nat, zs.length = l.length ∧ zs.sum + 1 ≤ Rows.uptoBulk x.1 ∧ ∀ i r z, l[i]? = some r → zs[i]? = some z → ∃ g o cs, a = some ⟨g, o, none⟩ ∧ g < W.heap.size ∧ W.frozen? ⟨g, o + i * k, none⟩ = false ∧ P r cs z ∧ ∀ c, c < k → W.cell? ⟨g, o + i * k + c, none⟩ = cs[c]?) := by
  rcases DataW.trod_slice ht h with ⟨h1, _⟩ | ⟨a, len, cap', elems, rest, m, hfu, h1, hx, _, hlc, _, helen, hel, _⟩
  · injection h1 with h1 _
    subst h1
    exact ⟨none, 0, [], rfl, fun _ => rfl, by simp, by simp, [], rfl, by simpa using bulk_pos x.1, fun i r z hr => by simp at hr⟩
  · injection h1 with h1 _
    subst h1
    subst hx
    rw [Rows.uptoBulk] at hM
    have hone2 : ∀ i, i < len → ∃ (a' : α) (cs : List Value) (z : Nat), P a' cs z ∧ ((elems.map (·.1))[i]?).map Rows.uptoBulk = some z ∧ ∀ c, c < k → W.cell? ((a.add (i * k)).add c) = cs[c]? := fun i hi => by
      have h2 := hel i hi
      obtain ⟨y, hy⟩ : ∃ y, elems[i]? = some y := ⟨_, List.getElem?_eq_getElem (by omega)⟩
      rw [hy, Option.bind_eq_some_iff] at h2
      obtain ⟨cs1, h3, h5⟩ := h2
      rw [hc] at h3
      have hym := List.mem_of_getElem? hy
      have hb := bulk_mem (List.mem_map_of_mem (f := (·.1)) hym)
      obtain ⟨a', ha⟩ := hone m (by omega) _ _ h5 (frz_sub hz fun p hp => List.mem_append_right _ (List.mem_flatMap.2 ⟨y, List.mem_append_left _ hym, hp⟩)) (by omega)
      exact ⟨a', cs1, _, ha, by rw [List.getElem?_map, hy]; rfl, (cells_at h3).2⟩
    refine ⟨some a, cap', ?_⟩
    have hlist : ∀ n, n ≤ len → ∃ l : List α, l.length = n ∧ ∀ i r, l[i]? = some r → ∃ cs z, P r cs z ∧ ((elems.map (·.1))[i]?).map Rows.uptoBulk = some z ∧ ∀ c, c < k → W.cell? ((a.add (i * k)).add c) = cs[c]? := fun n => by
      induction n with
      | zero => exact fun _ => ⟨[], rfl, fun i r hr => by simp at hr⟩
      | succ n ih =>
        intro hn
        obtain ⟨l, hl, hp⟩ := ih (by omega)
        obtain ⟨a', cs, z, h1, h2, h3⟩ := hone2 n (by omega)
        refine ⟨l ++ [a'], by simp [hl], fun i r hr => ?_⟩
        rcases Nat.lt_or_ge i n with hi | hi
        · rw [List.getElem?_append_left (by omega)] at hr
          exact hp i r hr
        · have hin : i = n := by
            have := (List.getElem?_eq_some_iff.1 hr).1
            simp at this
            omega
          subst hin
          rw [← hl] at hr
          simp at hr
          subst hr
          exact ⟨cs, z, h1, h2, h3⟩
    obtain ⟨l, hl, hp⟩ := hlist len (Nat.le_refl _)
    have hbl := bulk_len (elems.map (·.1))
    rw [List.length_map] at hbl
    refine ⟨l, by rw [hl], (fun h => by cases h), (by rw [hl]; exact hlc), (by omega), (elems.map (·.1)).map Rows.uptoBulk, (by simp [helen, hl]), ?_, fun i r z hr hz' => ?_⟩
    · rw [Rows.uptoBulk]
      have hs : ∀ ds : List (DataW H), (ds.map Rows.uptoBulk).sum = Rows.uptoBulkAll ds := by
        intro ds
        induction ds with
        | nil => rfl
        | cons d r ih => rw [List.map_cons, List.sum_cons, Rows.uptoBulkAll, ih]
      rw [hs]
      omega
    · obtain ⟨cs, z2, h1, h2, h3⟩ := hp i r hr
      rw [List.getElem?_map, h2] at hz'
      injection hz' with hz'
      subst hz'
      have hi : i < len := by have := (List.getElem?_eq_some_iff.1 hr).1; omega
      have h4 := hel 0 (by omega)
      obtain ⟨y, hy⟩ : ∃ y, elems[0]? = some y := ⟨_, List.getElem?_eq_getElem (by omega)⟩
      rw [hy, Option.bind_eq_some_iff] at h4
      obtain ⟨cs1, h5, _⟩ := h4
      rw [hc] at h5
      obtain ⟨q1, q2⟩ := cells_at h5
      have q3 := q2 0 hk
      rw [List.getElem?_eq_getElem (by omega), show (a.add (0 * k)).add 0 = a by simp [Addr.add]] at q3
      obtain ⟨ab, ao, hb⟩ := spot_none q3
      subst hb
      refine ⟨ab, ao, cs, rfl, cell_lt q3, hz ab (ao + i * k) (List.mem_append_left _ ?_), h1, fun c hc2 => ?_⟩
      · rw [hc]
        refine List.mem_map.2 ⟨i * k, List.mem_range.2 ?_, rfl⟩
        exact Nat.mul_lt_mul_of_pos_right (by omega) hk
      · rw [← h3 c hc2, addr_plus, addr_plus]
theorem sum_le {α : Type} (f : α → Nat) : ∀ (l : List α) (zs : List Nat), zs.length = l.length → (∀ (i : Nat) (r : α) (z : Nat), l[i]? = some r → zs[i]? = some z → f r ≤ z) → (l.map f).sum ≤ zs.sum
  | [], zs, _, _ => by simp
  | a :: r, [], h, _ => by simp at h
  | a :: r, z :: zs, h, hh => by
    have ih := sum_le f r zs (by simpa using h) fun i r' z' h1 h2 => hh (i + 1) r' z' (by simpa using h1) (by simpa using h2)
    have h0 := hh 0 a z rfl rfl
    rw [List.map_cons, List.sum_cons, List.sum_cons]
    omega
theorem sizeBs_sum : ∀ l : List ByteArray, sizeBs l = (l.map fun s => s.size + 1).sum
  | [] => rfl
  | a :: r => by rw [sizeBs, List.map_cons, List.sum_cons, sizeBs_sum r]
theorem sizeIts_sum : ∀ l : List It, sizeIts l = (l.map sizeIt).sum
  | [] => rfl
  | a :: r => by rw [sizeIts, List.map_cons, List.sum_cons, sizeIts_sum r]
set_option maxRecDepth 100000 in
/-- A law's reading. -/
theorem item_raw (M : Nat) : ∀ (fuel : Nat) (cs : List Value) (x : DataW H × List MemPlace), DataW.trod enc Tryz.prog W 0 (fun _ => true) true fuel 25 cs = some x → W.noneFrozen x.2 → Rows.uptoBulk x.1 ≤ M → ∃ (t : It) (v : Nat → Value), cs = [v 0, v 1, v 2, v 3] ∧ RawT W W.heap.size v t ∧ sizeIt t ≤ Rows.uptoBulk x.1 := by
  intro fuel
  induction fuel using Nat.strongRecOn with
  | ind fuel ih =>
    intro cs x h hz hM
    obtain ⟨xs, n, hfu, rfl, hl, hlen, hf⟩ := DataW.trod_struct Tryz.underlying25 h
    have h4 : Tryz.prog.cellsOf 25 = 4 := by kernel_rfl
    have hcs : Tryz.prog.cellsOf 9 = 1 := by kernel_rfl
    have hcl : Tryz.prog.cellsOf 22 = 1 := by kernel_rfl
    have hck : Tryz.prog.cellsOf 23 = 1 := by kernel_rfl
    rw [h4] at hl
    obtain ⟨c0, c1, c2, c3, rfl⟩ : ∃ c0 c1 c2 c3, cs = [c0, c1, c2, c3] := by
      match cs, hl with
      | [a, b, c, d], _ => exact ⟨a, b, c, d, rfl⟩
    obtain ⟨y0, y1, y2, y3, rfl⟩ : ∃ y0 y1 y2 y3, xs = [y0, y1, y2, y3] := by
      have hlen : xs.length = 4 := hlen
      match xs, hlen with
      | [a, b, c, d], _ => exact ⟨a, b, c, d, rfl⟩
    have t0 := hf 0 _ rfl
    have t1 := hf 1 _ rfl
    have t2 := hf 2 _ rfl
    have t3 := hf 3 _ rfl
    change DataW.trod enc Tryz.prog W 0 (fun _ => true) true n 9 ((List.drop 0 [c0, c1, c2, c3]).take (Tryz.prog.cellsOf 9)) = some y0 at t0
    change DataW.trod enc Tryz.prog W 0 (fun _ => true) true n 9 ((List.drop 1 [c0, c1, c2, c3]).take (Tryz.prog.cellsOf 9)) = some y1 at t1
    change DataW.trod enc Tryz.prog W 0 (fun _ => true) true n 22 ((List.drop 2 [c0, c1, c2, c3]).take (Tryz.prog.cellsOf 22)) = some y2 at t2
    change DataW.trod enc Tryz.prog W 0 (fun _ => true) true n 23 ((List.drop 3 [c0, c1, c2, c3]).take (Tryz.prog.cellsOf 23)) = some y3 at t3
    rw [hcs] at t0 t1
    rw [hcl] at t2
    rw [hck] at t3
    change DataW.trod enc Tryz.prog W 0 (fun _ => true) true n 9 [c0] = some y0 at t0
    change DataW.trod enc Tryz.prog W 0 (fun _ => true) true n 9 [c1] = some y1 at t1
    change DataW.trod enc Tryz.prog W 0 (fun _ => true) true n 22 [c2] = some y2 at t2
    change DataW.trod enc Tryz.prog W 0 (fun _ => true) true n 23 [c3] = some y3 at t3
    obtain ⟨s0, e0, x0, _⟩ := DataW.trod_string Tryz.underlying9 t0
    obtain ⟨s1, e1, x1, _⟩ := DataW.trod_string Tryz.underlying9 t1
    have hbk : Rows.uptoBulk (.agg ([y0, y1, y2, y3].map (·.1)) : DataW H) = Rows.uptoBulk y0.1 + Rows.uptoBulk y1.1 + Rows.uptoBulk y2.1 + Rows.uptoBulk y3.1 + 1 := by
      show Rows.uptoBulk (.agg [y0.1, y1.1, y2.1, y3.1]) = _
      rw [Rows.uptoBulk, Rows.uptoBulkAll, Rows.uptoBulkAll, Rows.uptoBulkAll, Rows.uptoBulkAll, Rows.uptoBulkAll]
      omega
    have hM : Rows.uptoBulk (.agg ([y0, y1, y2, y3].map (·.1)) : DataW H) ≤ M := hM
    rw [hbk] at hM
    obtain ⟨la, lc, ls, e2, hla, hlc, _, zs, hzl, hzs, hls⟩ := slice_bulk (α := ByteArray) (by decide) Tryz.underlying22 hcs t2 (frz_field hz (by simp)) M (by omega) (fun s cs z => cs = [.string s] ∧ s.size + 1 ≤ z) (fun m _ cs y hy _ _ => by
      obtain ⟨s, h1, h2, _⟩ := DataW.trod_string Tryz.underlying9 hy
      refine ⟨s, h1, ?_⟩
      rw [h2]
      show _ ≤ Rows.uptoBulk (.lit (.string s.data.toList))
      rw [Rows.uptoBulk]
      have : s.data.toList.length = s.size := by simp
      omega)
    obtain ⟨ka, kc, ks, e3, hka, hkc, _, zk, hzkl, hzk, hks⟩ := slice_bulk (α := It × (Nat → Value)) (by decide) Tryz.underlying23 h4 t3 (frz_field hz (by simp)) M (by omega) (fun r cs z => cs = [r.2 0, r.2 1, r.2 2, r.2 3] ∧ RawT W W.heap.size r.2 r.1 ∧ sizeIt r.1 ≤ z) (fun m hm cs y hy hyz hyM => by
      obtain ⟨t, v, h1, h2, h3⟩ := ih m (by omega) cs y hy hyz hyM
      exact ⟨(t, v), h1, h2, h3⟩)
    have e0 : c0 = .string s0 := by injection e0
    have e1 : c1 = .string s1 := by injection e1
    subst e0 e1 e2 e3
    have hgl : ∀ i s, ls[i]? = some s → ∃ z, zs[i]? = some z := fun i s hs => ⟨_, List.getElem?_eq_getElem (by rw [hzl]; exact (List.getElem?_eq_some_iff.1 hs).1)⟩
    have hgk : ∀ i r, ks[i]? = some r → ∃ z, zk[i]? = some z := fun i s hs => ⟨_, List.getElem?_eq_getElem (by rw [hzkl]; exact (List.getElem?_eq_some_iff.1 hs).1)⟩
    refine ⟨It.mk s0 s1 ls (ks.map (·.1)), fun i => match i with | 0 => .string s0 | 1 => .string s1 | 2 => .slice la ls.length lc | _ => .slice ka ks.length kc, rfl, ?_, ?_⟩
    · refine .mk _ _ la ka lc kc (fun i c => ((ks[i]?).map fun r => r.2 c).getD .nilIface) rfl rfl rfl (by show Value.slice ka ks.length kc = Value.slice ka (ks.map (·.1)).length kc; rw [List.length_map]) (fun i s hs => ?_) (fun i hi => ?_) (fun i k hk => ?_) hla hka hlc (by show (ks.map (·.1)).length ≤ kc; rw [List.length_map]; exact hkc)
      · have hs : ls[i]? = some s := hs
        obtain ⟨z, hz'⟩ := hgl i s hs
        obtain ⟨g, o, cs, h1, h2, _, h3, h5⟩ := hls i s z hs hz'
        refine ⟨g, o, h1, h2, ?_⟩
        have h6 := h5 0 (by omega)
        rw [h3.1, Nat.mul_one] at h6
        exact h6
      · have hi : i < (ks.map (·.1)).length := hi
        rw [List.length_map] at hi
        obtain ⟨r, hr⟩ : ∃ r, ks[i]? = some r := ⟨_, List.getElem?_eq_getElem hi⟩
        obtain ⟨z, hz'⟩ := hgk i r hr
        obtain ⟨g, o, cs, h1, h2, h3, h5, h6⟩ := hks i r z hr hz'
        have hc : ∀ c, c < 4 → W.cell? ⟨g, o + i * 4 + c, none⟩ = some (((ks[i]?).map fun r => r.2 c).getD .nilIface) := fun c hc => by
          rw [h6 c hc, h5.1, hr]
          match c, hc with
          | 0, _ => rfl
          | 1, _ => rfl
          | 2, _ => rfl
          | 3, _ => rfl
        exact ⟨g, o, h1, h2, ⟨⟨_, hc 0 (by omega)⟩, h3⟩, hc⟩
      · have hk : (ks.map (·.1))[i]? = some k := hk
        rw [List.getElem?_map] at hk
        obtain ⟨r, hr, rfl⟩ := Option.map_eq_some_iff.1 hk
        obtain ⟨z, hz'⟩ := hgk i r hr
        obtain ⟨g, o, cs, _, _, _, h5, _⟩ := hks i r z hr hz'
        have e : (fun c => ((ks[i]?).map fun r => r.2 c).getD .nilIface) = r.2 := by funext c; rw [hr]; rfl
        show RawT W W.heap.size (fun c => ((ks[i]?).map fun r => r.2 c).getD .nilIface) r.1
        rw [e]
        exact h5.2.1
    · have hA := sum_le (fun s : ByteArray => s.size + 1) ls zs hzl fun i r z h1 h2 => by
        obtain ⟨_, _, _, _, _, _, h3, _⟩ := hls i r z h1 h2
        exact h3.2
      have hB := sum_le (fun r : It × (Nat → Value) => sizeIt r.1) ks zk hzkl fun i r z h1 h2 => by
        obtain ⟨_, _, _, _, _, _, h3, _⟩ := hks i r z h1 h2
        exact h3.2.2
      rw [sizeIt, sizeBs_sum, sizeIts_sum, List.map_map]
      have hB' : (ks.map (sizeIt ∘ fun x => x.1)).sum ≤ zk.sum := hB
      show _ ≤ Rows.uptoBulk (.agg ([y0, y1, y2, y3].map (·.1)) : DataW H)
      rw [hbk, x0, x1]
      show _ ≤ Rows.uptoBulk (.lit (.string s0.data.toList)) + Rows.uptoBulk (.lit (.string s1.data.toList)) + _ + _ + 1
      rw [Rows.uptoBulk, Rows.uptoBulk]
      have z0 : s0.data.toList.length = s0.size := by simp
      have z1 : s1.data.toList.length = s1.size := by simp
      omega
set_option maxRecDepth 100000 in
theorem item_rarg {base : Nat} {v : Value} {d : DataW H} {ps : List MemPlace}
    (hval : Value.okWide Tryz.prog W .any base 25 v) (hd : DataW.Trod enc Tryz.prog W 0 (fun _ => true) true 25 v d ps) (hz : W.noneFrozen ps) :
    ∃ t u, v = .agg #[u 0, u 1, u 2, u 3] ∧ RawT W W.heap.size u t ∧ sizeIt t ≤ Rows.uptoBulk d := by
  obtain ⟨cs, rfl, hsz⟩ := okWide_struct Tryz.underlying25 hval
  obtain ⟨fuel, hf⟩ := hd
  obtain ⟨t, u, h1, h2, h3⟩ := item_raw _ fuel _ _ hf hz (Nat.le_refl _)
  refine ⟨t, u, ?_, h2, h3⟩
  have h4 : cs.toList = [u 0, u 1, u 2, u 3] := h1
  rcases cs with ⟨l⟩
  have h5 : l = [u 0, u 1, u 2, u 3] := h4
  rw [h5]
theorem Tryz.c_int : Tryz.prog.cellsOf 3 = 1 := by kernel_rfl
theorem Tryz.c_str : Tryz.prog.cellsOf 9 = 1 := by kernel_rfl
theorem Tryz.c_item : Tryz.prog.cellsOf 25 = 4 := by kernel_rfl
theorem Tryz.c_op : Tryz.prog.cellsOf 46 = 10 := by kernel_rfl
theorem w64 {n : Int} (h : (Lit.int .i64 n).wf = true) : -9223372036854775808 ≤ n ∧ n ≤ 9223372036854775807 := by
  have e1 : IntKind.i64.min = -9223372036854775808 := by decide
  have e2 : IntKind.i64.max = 9223372036854775807 := by decide
  have h : (decide (IntKind.i64.min ≤ n) && decide (n ≤ IntKind.i64.max)) = true := h
  rw [Bool.and_eq_true, decide_eq_true_eq, decide_eq_true_eq, e1, e2] at h
  exact h
theorem bulk_str (s : ByteArray) : Rows.uptoBulk (.lit (.string s.data.toList) : DataW H) = s.size + 1 := by
  rw [Rows.uptoBulk]
  have : s.data.toList.length = s.size := by simp
  omega
set_option maxRecDepth 100000 in
/-- A change's reading. -/
theorem op_raw (M n : Nat) (cs : List Value) (y : DataW H × List MemPlace) (hy : DataW.trod enc Tryz.prog W 0 (fun _ => true) true n 46 cs = some y) (hz : W.noneFrozen y.2) (hM : Rows.uptoBulk y.1 ≤ M) :
    ∃ r : OpW × (Nat → Value), cs = (opV r.1 r.2).toList ∧ RawT W W.heap.size r.2 r.1.item ∧ sizeIt r.1.item ≤ M ∧ r.1.path.size ≤ M ∧ r.1.text.size ≤ M ∧ r.1.new.size ≤ M ∧ r.1.at'.size ≤ M ∧ -9223372036854775808 ≤ r.1.line ∧ r.1.line ≤ 9223372036854775807 := by
  obtain ⟨xs, m, _, hy1, hl, hlen, hf⟩ := DataW.trod_struct Tryz.underlying46 hy
  rw [Tryz.c_op] at hl
  have hlen : xs.length = 7 := hlen
  subst hy1
  match cs, hl, xs, hlen with
  | [u0, u1, u2, u3, u4, u5, u6, u7, u8, u9], _, [y0, y1, y2, y3, y4, y5, y6], _ =>
      have f0 := hf 0 _ rfl
      change DataW.trod enc Tryz.prog W 0 (fun _ => true) true m 3 ((List.drop 0 [u0, u1, u2, u3, u4, u5, u6, u7, u8, u9]).take (Tryz.prog.cellsOf 3)) = some y0 at f0
      rw [Tryz.c_int] at f0
      obtain ⟨m0, e0, x0, w0⟩ := DataW.trod_int Tryz.underlying3 f0
      have e0 : [u0] = [Value.int .i64 m0] := e0
      injection e0 with e0
      have f1 := hf 1 _ rfl
      change DataW.trod enc Tryz.prog W 0 (fun _ => true) true m 9 ((List.drop 1 [u0, u1, u2, u3, u4, u5, u6, u7, u8, u9]).take (Tryz.prog.cellsOf 9)) = some y1 at f1
      rw [Tryz.c_str] at f1
      obtain ⟨m1, e1, x1, w1⟩ := DataW.trod_string Tryz.underlying9 f1
      have e1 : [u1] = [Value.string m1] := e1
      injection e1 with e1
      have f2 := hf 2 _ rfl
      change DataW.trod enc Tryz.prog W 0 (fun _ => true) true m 9 ((List.drop 2 [u0, u1, u2, u3, u4, u5, u6, u7, u8, u9]).take (Tryz.prog.cellsOf 9)) = some y2 at f2
      rw [Tryz.c_str] at f2
      obtain ⟨m2, e2, x2, w2⟩ := DataW.trod_string Tryz.underlying9 f2
      have e2 : [u2] = [Value.string m2] := e2
      injection e2 with e2
      have f3 := hf 3 _ rfl
      change DataW.trod enc Tryz.prog W 0 (fun _ => true) true m 9 ((List.drop 3 [u0, u1, u2, u3, u4, u5, u6, u7, u8, u9]).take (Tryz.prog.cellsOf 9)) = some y3 at f3
      rw [Tryz.c_str] at f3
      obtain ⟨m3, e3, x3, w3⟩ := DataW.trod_string Tryz.underlying9 f3
      have e3 : [u3] = [Value.string m3] := e3
      injection e3 with e3
      have f4 := hf 4 _ rfl
      change DataW.trod enc Tryz.prog W 0 (fun _ => true) true m 9 ((List.drop 4 [u0, u1, u2, u3, u4, u5, u6, u7, u8, u9]).take (Tryz.prog.cellsOf 9)) = some y4 at f4
      rw [Tryz.c_str] at f4
      obtain ⟨m4, e4, x4, w4⟩ := DataW.trod_string Tryz.underlying9 f4
      have e4 : [u4] = [Value.string m4] := e4
      injection e4 with e4
      have f5 := hf 5 _ rfl
      change DataW.trod enc Tryz.prog W 0 (fun _ => true) true m 3 ((List.drop 5 [u0, u1, u2, u3, u4, u5, u6, u7, u8, u9]).take (Tryz.prog.cellsOf 3)) = some y5 at f5
      rw [Tryz.c_int] at f5
      obtain ⟨m5, e5, x5, w5⟩ := DataW.trod_int Tryz.underlying3 f5
      have e5 : [u5] = [Value.int .i64 m5] := e5
      injection e5 with e5
      have f6 := hf 6 _ rfl
      change DataW.trod enc Tryz.prog W 0 (fun _ => true) true m 25 ((List.drop 6 [u0, u1, u2, u3, u4, u5, u6, u7, u8, u9]).take (Tryz.prog.cellsOf 25)) = some y6 at f6
      rw [Tryz.c_item] at f6
      change DataW.trod enc Tryz.prog W 0 (fun _ => true) true m 25 [u6, u7, u8, u9] = some y6 at f6
      have hbk : Rows.uptoBulk (.agg ([y0, y1, y2, y3, y4, y5, y6].map (·.1)) : DataW H) = Rows.uptoBulk y0.1 + Rows.uptoBulk y1.1 + Rows.uptoBulk y2.1 + Rows.uptoBulk y3.1 + Rows.uptoBulk y4.1 + Rows.uptoBulk y5.1 + Rows.uptoBulk y6.1 + 1 := by
        show Rows.uptoBulk (.agg [y0.1, y1.1, y2.1, y3.1, y4.1, y5.1, y6.1]) = _
        rw [Rows.uptoBulk, Rows.uptoBulkAll, Rows.uptoBulkAll, Rows.uptoBulkAll, Rows.uptoBulkAll, Rows.uptoBulkAll, Rows.uptoBulkAll, Rows.uptoBulkAll, Rows.uptoBulkAll]
        omega
      have hM : Rows.uptoBulk (.agg ([y0, y1, y2, y3, y4, y5, y6].map (·.1)) : DataW H) ≤ M := hM
      rw [hbk, x1, x2, x3, x4] at hM
      have hM : _ + Rows.uptoBulk (.lit (.string m1.data.toList) : DataW H) + Rows.uptoBulk (.lit (.string m2.data.toList) : DataW H) + Rows.uptoBulk (.lit (.string m3.data.toList) : DataW H) + Rows.uptoBulk (.lit (.string m4.data.toList) : DataW H) + _ + _ + 1 ≤ M := hM
      rw [bulk_str, bulk_str, bulk_str, bulk_str] at hM
      obtain ⟨t, v, h1, h2, h3⟩ := item_raw M m _ y6 f6 (frz_field hz (by simp)) (by omega)
      have w5 := w64 w5
      refine ⟨(⟨m0, m1, m2, m3, m4, m5, t⟩, v), ?_, h2, by show sizeIt t ≤ M; omega, by show m1.size ≤ M; omega, by show m3.size ≤ M; omega, by show m4.size ≤ M; omega, by show m2.size ≤ M; omega, w5.1, w5.2⟩
      injection h1 with g6 h1
      injection h1 with g7 h1
      injection h1 with g8 h1
      injection h1 with g9 _
      rw [e0, e1, e2, e3, e4, e5, g6, g7, g8, g9]
      rfl
set_option maxRecDepth 100000 in
theorem ops_rarg {base : Nat} {v : Value} {d : DataW H} {ps : List MemPlace}
    (hval : Value.okWide Tryz.prog W .any base 26 v) (hd : DataW.Trod enc Tryz.prog W 0 (fun _ => true) true 26 v d ps) (hz : W.noneFrozen ps) (hM : Rows.uptoBulk d ≤ 1048576) :
    ∃ oa oc ops, v = .slice oa ops.length oc ∧ (oa = none → oc = 0) ∧ ops.length ≤ oc ∧ ops.length ≤ 1048576 ∧ OpsRaw W W.heap.size oa ops := by
  obtain ⟨fuel, hf⟩ := hd
  obtain ⟨a0, n0, c0, rfl⟩ : ∃ a n c, v = .slice a n c := okWide_slice Tryz.underlying26 hval
  obtain ⟨a, c, l, e, h1, h2, h3, zs, hzl, _, hx⟩ := slice_bulk (α := OpW × (Nat → Value)) (by decide) Tryz.underlying26 Tryz.c_op hf hz 1048576 hM (fun r cs _ => cs = (opV r.1 r.2).toList ∧ RawT W W.heap.size r.2 r.1.item ∧ sizeIt r.1.item ≤ 1048576 ∧ r.1.path.size ≤ 1048576 ∧ r.1.text.size ≤ 1048576 ∧ r.1.new.size ≤ 1048576 ∧ r.1.at'.size ≤ 1048576 ∧ -9223372036854775808 ≤ r.1.line ∧ r.1.line ≤ 9223372036854775807) (fun n _ cs y hy hyz hyM => op_raw 1048576 n cs y hy hyz hyM)
  refine ⟨a, c, l.map (·.1), by rw [List.length_map]; exact e, h1, by rw [List.length_map]; exact h2, by rw [List.length_map]; exact h3, fun i op hi => ?_⟩
  rw [List.getElem?_map] at hi
  obtain ⟨r, hr, rfl⟩ := Option.map_eq_some_iff.1 hi
  obtain ⟨z, hz'⟩ : ∃ z, zs[i]? = some z := ⟨_, List.getElem?_eq_getElem (by rw [hzl]; exact (List.getElem?_eq_some_iff.1 hr).1)⟩
  obtain ⟨g, o, cs, q1, q2, _, ⟨q3, q4⟩, q5⟩ := hx i r z hr hz'
  refine ⟨g, o, r.2, q1, q2, fun c u hu => ?_, q4⟩
  have hc : c < 10 := (Array.getElem?_eq_some_iff.1 hu).1
  rw [q5 c hc, q3, Array.getElem?_toList]
  exact hu
end
end Go.Proofs.YtpbolcjcmkmalaaGreatDoor
