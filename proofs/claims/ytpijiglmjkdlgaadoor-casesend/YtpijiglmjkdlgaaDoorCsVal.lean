/-
  Plans: Valid, the program.
-/
import Derived.Test.YtpijiglmjkdlgaaDoorCsRing
namespace Go.Proofs.YtpijiglmjkdlgaaDoor
open Go.RowKit Go.Maps

/-- What is known of a plan that is valid. -/
structure Fit (p : Pn) : Prop where
  mv : p.mvs.length ≤ 120
  st : p.stL.length ≤ 120
  ok : ∀ m, m ∈ p.mvs → 0 ≤ m.most ∧ m.fr ∉ p.fin
  rk : Ranked p.thy
/-- A plan of a start alone. -/
def Bare (p : Pn) : Prop := p.fin = [] ∧ p.mvs = [] ∧ isWordB p.start = true
theorem Bare.all {p : Pn} (h : Bare p) : p.stL.length ≤ 120 ∧ noWordB p = false ∧ p.mvs.any (wrongB p) = false ∧ Ranked p.thy := by
  obtain ⟨h1, h2, h3⟩ := h
  refine ⟨?_, ?_, ?_, ?_⟩
  · have := stL_len p
    rw [h1, h2] at this
    simp at this
    omega
  · unfold noWordB nw
    rw [h1, h2, h3]
    rfl
  · rw [h2]
    rfl
  · refine ⟨fun _ => 0, fun a b hab => ?_⟩
    unfold Ovr at hab
    have e : p.thy.over = [] := by
      show p.free = []
      unfold Pn.free
      rw [h2]
      rfl
    rw [e] at hab
    cases hab
section
variable {w : World} {S : Nat → Prop} {p : Pn} {pf pm : SlV}
def ValR (w : World) (p : Pn) (e : Ending) (w' : World) : Prop := ∃ v, e = .returned v ∧ ErrV v ∧ (v = .nilIface → Fit p) ∧ (Bare p → v = .nilIface) ∧ Below w.heap.size w w'
theorem ValR.bad {w w' : World} {a : Addr} (hB : ¬ Bare p) (hb : Below w.heap.size w w') : ValR w p (.returned (.iface 134 (.pointer (some a)))) w' :=
  ⟨_, rfl, .inr ⟨a, rfl⟩, fun h => (by cases h), fun h => absurd h hB, hb⟩
set_option maxHeartbeats 4000000 in
set_option maxRecDepth 20000 in
theorem valid_p (h : PnAt w S p pf pm) (hsz : ∀ s, s ∈ p.names → s.size ≤ maxLen) {pp : Nat → Addr} (L : Laid w pp) : Calls Tryd.prog 13 #[.agg #[.string p.start, .slice pf.a pf.n pf.c, .slice pm.a pm.n pm.c]] w (ValR w p) := by
  obtain ⟨W, hW⟩ : ∃ W, W = w.alloc (.cells #[.string p.start, .slice pf.a pf.n pf.c, .slice pm.a pm.n pm.c] 33) := ⟨_, rfl⟩
  obtain ⟨ab, hab⟩ : ∃ ab, ab = w.heap.size := ⟨_, rfl⟩
  have H : Hid (PBx w W ab S p pf pm) := by rw [hab]; exact PBx.mk0 h hW
  have HW := hidLL (And.intro hW hab)
  have HL : Hid (∀ V, Below w.heap.size w V → Laid V pp) := fun V hV => L.below hV
  obtain ⟨hpn, hbig⟩ := h.mvs.len
  have HN := hidLL hpn
  have HZ := hidLL hsz
  obtain ⟨c0, c1, c2⟩ := H.out.cells
  have g1 := (HL.out W H.out.bel).cell 1 (by omega)
  have g1 : W.cell? ⟨4, 0, none⟩ = _ := g1
  have HC := hidLL (stages_p H.out.pn hsz)
  clear h L hW hab hpn hsz
  by_cases hm : p.mvs.length ≤ 120
  case neg =>
    have hmz : (120 : Int) < pm.n := by have := HN.out; omega
    have HNB : Hid (¬ Bare p) := fun h9 => hm (by rw [h9.2.1]; simp)
    clear hm
    go_enter Tryd.func13, Tryd.ntmps13
    go_upto_region 1 with fail
    rw [← HW.out.1, ← HW.out.2]
    go_wp2
    go_ret
    exact ValR.bad HNB.out H.out.bel
  case pos =>
  have hmz : ¬ (120 : Int) < pm.n := by have := HN.out; omega
  have HMv := hidLL hm
  clear hm
  go_enter Tryd.func13, Tryd.ntmps13
  go_upto_region 1 with fail
  rw [← HW.out.1, ← HW.out.2]
  go_wp2_with fail
  refine HC.out.mono ?_
  rintro e V1 ⟨mb, rfl, hge, ⟨D, hMD, hID⟩, hb1⟩
  have hln : ∀ ty, (Builtin.len_ #[68] ty #[.map (some mb)]).run Tryd.prog V1 = .ok (.int .i64 (p.stL.length : Int)) V1 := fun ty => by
    rw [← hID.size]
    exact hMD.len Tryd.underlying68 ty
  have HP1 := hidLL (H.out.step hb1)
  clear hge hMD hID hb1 HC c0 c1 c2 g1 H HW hmz
  obtain ⟨c0, c1, c2⟩ := HP1.out.cells
  have g1 : V1.cell? ⟨4, 0, none⟩ = _ := (HL.out V1 HP1.out.bel).cell 1 (by omega)
  by_cases hs : p.stL.length ≤ 120
  case neg =>
    have hsz : (120 : Int) < (p.stL.length : Int) := by omega
    have HNB : Hid (¬ Bare p) := fun h9 => hs h9.all.1
    clear hs
    go_wp2
    go_ret
    exact ValR.bad HNB.out HP1.out.bel
  case pos =>
  have hsz : ¬ (120 : Int) < (p.stL.length : Int) := by omega
  have HSt := hidLL hs
  clear hs
  have HC2 := hidLL (noWord_p HP1.out.pn)
  have HNw : Hid (Bare p → noWordB p = false) := fun h9 => h9.all.2.1
  generalize noWordB p = nb at *
  go_wp2_with fail
  refine HC2.out.mono ?_
  rintro e V2 ⟨rfl, hb2⟩
  have HP2 := hidLL (HP1.out.step hb2)
  clear hb2 HC2 c0 c1 c2 g1 hln hsz
  obtain ⟨c0, c1, c2⟩ := HP2.out.cells
  have g2 : V2.cell? ⟨5, 0, none⟩ = _ := (HL.out V2 HP2.out.bel).cell 6 (by omega)
  cases nb with
  | true =>
    go_wp2
    go_ret
    exact ValR.bad (fun h9 => by have := HNw.out h9; cases this) HP2.out.bel
  | false =>
  have HC3 := hidLL (twice_p HP2.out.pn)
  go_wp2_with fail
  refine HC3.out.mono ?_
  rintro e V3 ⟨tb, rfl, htb, hb3⟩
  have HTb := hidLL htb
  have HP3 := hidLL (HP2.out.step hb3)
  clear htb hb3 HC3 c0 c1 c2 g2
  obtain ⟨c0, c1, c2⟩ := HP3.out.cells
  have g2 : V3.cell? ⟨5, 0, none⟩ = _ := (HL.out V3 HP3.out.bel).cell 6 (by omega)
  cases tb with
  | true =>
    go_wp2
    go_ret
    exact ValR.bad (fun h9 => by have := HTb.out h9.2.1; cases this) HP3.out.bel
  | false =>
  have HC4 := hidLL (wrong_p HP3.out.pn)
  have HWr : Hid (Bare p → p.mvs.any (wrongB p) = false) := fun h9 => h9.all.2.2.1
  obtain ⟨wb, hwb⟩ : ∃ wb, wb = p.mvs.any (wrongB p) := ⟨_, rfl⟩
  rw [← hwb] at HC4 HWr
  have HWb := hidLL hwb
  clear hwb
  go_wp2_with fail
  refine HC4.out.mono ?_
  rintro e V4 ⟨rfl, hb4⟩
  have HP4 := hidLL (HP3.out.step hb4)
  clear hb4 HC4 c0 c1 c2 g2
  obtain ⟨c0, c1, c2⟩ := HP4.out.cells
  have g3 : V4.cell? ⟨2, 0, none⟩ = _ := (HL.out V4 HP4.out.bel).cell 8 (by omega)
  cases wb with
  | true =>
    go_wp2
    go_ret
    exact ValR.bad (fun h9 => by have := HWr.out h9; cases this) HP4.out.bel
  | false =>
  have HC5 := hidLL (ring_p HP4.out.pn HZ.out HSt.out HMv.out)
  go_wp2_with fail
  refine HC5.out.mono ?_
  rintro e V5 ⟨rb, rfl, hrb, hb5⟩
  have HRb := hidLL hrb
  have HP5 := hidLL (HP4.out.step hb5)
  clear hrb hb5 HC5 c0 c1 c2 g3
  obtain ⟨c0, c1, c2⟩ := HP5.out.cells
  have g4 : V5.cell? ⟨3, 0, none⟩ = _ := (HL.out V5 HP5.out.bel).cell 7 (by omega)
  cases rb with
  | true =>
    go_wp2
    go_ret
    exact ValR.bad (fun h9 => by have := HRb.out.2 h9.all.2.2.2; cases this) HP5.out.bel
  | false =>
  have HC6 := hidLL (termErr_p HP5.out.pn (HL.out V5 HP5.out.bel))
  go_wp2_with fail
  refine HC6.out.mono ?_
  rintro e V6 ⟨v, rfl, hv, hn, hb6⟩
  have H6 : Hid (ValR w p (.returned v) V6) := by
    refine ⟨v, rfl, hv, fun _ => ⟨HMv.out, HSt.out, fun m hm => ?_, HRb.out.1 (by trivial)⟩, fun h9 => hn h9.2.1, (HP5.out.step hb6).bel⟩
    have h8 := List.any_eq_false.1 HWb.out.symm m hm
    exact wrongB_no (by simpa using h8)
  clear hv hn hb6
  go_wp2
  go_ret
  exact H6.out
end
end Go.Proofs.YtpijiglmjkdlgaaDoor
