/-
  Cases, the law: how a case goes.
-/
import Derived.Test.YtpijiglmjkdlgaaDoorLB
namespace Go.Proofs.YtpijiglmjkdlgaaDoor
open Go.RowKit

/-- The case, so many steps on. -/
structure GoI (w wr : World) (D : KD) (rk : ByteArray → Nat) (on : Int) (sv : SlV) (ts : List Nat) (stage : ByteArray) (steps : List Stp) (d : Nat) : Prop where
  c : CaseAt wr D sv ts stage on steps
  run : Run D.p rk ts stage d
  len : steps.length = d
  few : ∀ t, t ∈ ts → t ≤ d
  bel : Below w.heap.size w wr
structure GoK (w : World) (D : KD) (rk : ByteArray → Nat) : Prop where
  kb : w.heap.size ≤ D.kb
  tb : w.heap.size ≤ D.tb
  B : w.heap.size ≤ D.B
  fit : Fit D.p
  r1 : ∀ s, s ∈ D.p.stL → rk s + 1 ≤ D.p.stL.length
  r2 : ∀ (i : Nat) (m : Mv), D.p.mvs[i]? = some m → m.most = 0 → rk m.fr < rk m.tt
section
variable {w wr wr' : World} {D : KD} {rk : ByteArray → Nat} {on : Int} {sv sv' : SlV} {ts : List Nat} {stage : ByteArray} {steps : List Stp} {d : Nat}
theorem GoI.step (h : GoI w wr D rk on sv ts stage steps d) (hb : Below wr.heap.size wr wr') : GoI w wr' D rk on sv ts stage steps d := ⟨h.c.step hb, h.run, h.len, h.few, h.bel.trans (hb.mono h.bel.size)⟩
theorem GoI.go (K : GoK w D rk) (h : GoI w wr D rk on sv ts stage steps d) {i t : Nat} {m : Mv} {s : Stp} (hi : D.p.mvs[i]? = some m) (hf : m.fr = stage) (ht : ts[i]? = some t) (hm : m.most ≠ 0 → (t : Int) < m.most) (hc : CaseAt wr' D sv' (ts.set i (t + 1)) m.tt on (steps ++ [s])) (hb : ∀ N, N ≤ D.kb → N ≤ D.tb → N ≤ D.B → Below N wr wr') : GoI w wr' D rk on sv' (ts.set i (t + 1)) m.tt (steps ++ [s]) (d + 1) ∧ stage ∉ D.p.fin := by
  refine ⟨⟨hc, h.run.step K.r1 K.r2 hi ht hf hm, by rw [List.length_append, h.len]; rfl, fun x hx => ?_, h.bel.trans (hb _ K.kb K.tb K.B)⟩, ?_⟩
  · rcases List.mem_or_eq_of_mem_set hx with h9 | h9
    · have := h.few x h9
      omega
    · have := h.few t (List.mem_of_getElem? ht)
      omega
  · rw [← hf]
    exact (K.fit.ok m (List.mem_of_getElem? hi)).2
theorem GoI.start {wr : World} (K : GoK w D rk) (hc : CaseAt wr D sv (List.replicate D.p.mvs.length 0) D.p.start on []) (hb : Below w.heap.size w wr) : GoI w wr D rk on sv (List.replicate D.p.mvs.length 0) D.p.start [] 0 :=
  ⟨hc, Run.start D.p rk fun m hm => (K.fit.ok m hm).1, rfl, fun t ht => by rw [List.eq_of_mem_replicate ht]; exact Nat.le_refl _, hb⟩
end
theorem lmS_app : ∀ (a b : List Mv), lmS (a ++ b) = lmS a + lmS b
  | [], b => by simp [lmS]
  | m :: a, b => by
    rw [List.cons_append, lmS, lmS, lmS_app a b]
    omega
theorem lmS_take {l : List Mv} {j : Nat} {m : Mv} (h : l[j]? = some m) : lmS (l.take (j + 1)) = lmS (l.take j) + m.most := by
  rw [List.take_add_one, h, lmS_app]
  simp [lmS]
end Go.Proofs.YtpijiglmjkdlgaaDoor
namespace Go.Proofs.YtpijiglmjkdlgaaDoor
open Go.RowKit

/-- What Do answers, as a value. -/
def DoV (w : World) (D : KD) (ts : List Nat) (stage : ByteArray) (since : Int) (steps : List Stp) (s : Stp) (v : Value) (w' : World) : Prop :=
  (∃ a, v = .iface 134 (.pointer (some a)) ∧ Below w.heap.size w w') ∨
  ∃ (i : Nat) (m : Mv) (t : Nat) (sv' : SlV), D.p.mvs[i]? = some m ∧ m.fr = stage ∧ ts[i]? = some t ∧ (m.most ≠ 0 → (t : Int) < m.most) ∧ v = .nilIface ∧ CaseAt w' D sv' (ts.set i (t + 1)) m.tt since (steps ++ [s]) ∧ ∀ N, N ≤ D.kb → N ≤ D.tb → N ≤ D.B → Below N w w'
theorem DoR.val {w w' : World} {D : KD} {ts : List Nat} {stage : ByteArray} {since : Int} {steps : List Stp} {s : Stp} {e : Ending} (h : DoR w D ts stage since steps s e w') : ∃ v, e = .returned v ∧ DoV w D ts stage since steps s v w' := by
  rcases h with ⟨a, rfl, hb⟩ | ⟨i, m, t, sv', h1, h2, h3, h4, rfl, h5, h6⟩
  · exact ⟨_, rfl, .inl ⟨a, rfl, hb⟩⟩
  · exact ⟨_, rfl, .inr ⟨i, m, t, sv', h1, h2, h3, h4, rfl, h5, h6⟩⟩
theorem DoV.bel {w0 w w' : World} {D : KD} {rk : ByteArray → Nat} {ts : List Nat} {stage : ByteArray} {since : Int} {steps : List Stp} {s : Stp} {v : Value} (K : GoK w0 D rk) (h0 : Below w0.heap.size w0 w) (h : DoV w D ts stage since steps s v w') : Below w0.heap.size w0 w' := by
  rcases h with ⟨a, _, hb⟩ | ⟨i, m, t, sv', h1, h2, h3, h4, _, h5, h6⟩
  · exact h0.trans (hb.mono h0.size)
  · exact h0.trans (h6 _ K.kb K.tb K.B)
theorem wrap_small {z : Int} (h1 : 0 ≤ z) (h2 : z ≤ 2000000) : IntKind.i64.wrap z = z := by rw [IntKind.wrap_i64]; omega
def TrueR (w : World) (e : Ending) (w' : World) : Prop := e = .returned (.bool true) ∧ Below w.heap.size w w'
set_option maxHeartbeats 1000000 in
set_option maxRecDepth 20000 in
theorem end_nil {w : World} {pp : Nat → Addr} (L : Laid w pp) (on : Int) (v : Value) : Calls Tryd.prog 3 #[.pointer none, .int .i64 on, v] w (TrueR w) := by
  have HO := hidLL (opens_l L)
  clear L
  go_enter Tryd.func3, Tryd.ntmps3
  go_wp2_with fail
  refine HO.out.mono ?_
  rintro e V0 ⟨rfl, hb0⟩
  have HB0 := hidLL hb0
  clear hb0
  go_wp2
  go_ret
  exact ⟨rfl, HB0.out⟩
set_option maxHeartbeats 8000000 in
set_option maxRecDepth 20000 in
theorem end_l {w : World} {S : Nat → Prop} {b o : Nat} {p : Pn} {pf pm : SlV} (h : PlAt w S b o p pf pm) (hsz : ∀ s, s ∈ p.names → s.size ≤ maxLen) {na : Option Addr} {nn nc : Nat} {ns : List ByteArray} (hns : RdS strE w S (.slice na nn nc) ns) {pp : Nat → Addr} (L : Laid w pp) (on : Int) :
    Calls Tryd.prog 3 #[.pointer (some ⟨b, o, none⟩), .int .i64 on, .slice na nn nc] w (TrueR w) := by
  obtain ⟨hpn, hbig⟩ := h.mvs.len
  obtain ⟨hfn, hbigF⟩ := h.fin.len
  obtain ⟨hnn, hbigN⟩ := hns.len
  have HN := hidLL (And.intro hpn (And.intro hfn hnn))
  have HZ := hidLL hsz
  have HPl : Hid (∀ V, Below w.heap.size w V → PlAt V S b o p pf pm) := fun V hV => h.step hV
  have HNs : Hid (∀ V, Below w.heap.size w V → RdS strE V S (.slice na nn nc) ns) := fun V hV => hns.on fun k hk => ⟨hk, hV.block k (h.lt k hk)⟩
  have HL : Hid (∀ V, Below w.heap.size w V → Laid V pp) := fun V hV => L.below hV
  have HO := hidLL (opens_l L)
  have HLow : Hid ((∀ k, S k → k < w.heap.size) ∧ b < w.heap.size) := ⟨h.lt, cell_lt h.c0⟩
  clear h hsz hns L hpn hfn hnn
  go_enter Tryd.func3, Tryd.ntmps3
  go_wp2_with fail
  refine HO.out.mono ?_
  rintro e V0 ⟨rfl, hb0⟩
  have HB0 := hidLL hb0
  have HFw := hidLL (few_l (HPl.out V0 hb0))
  clear hb0 HO
  go_wp2_with fail
  refine HFw.out.mono ?_
  rintro e V1 ⟨fb, rfl, hfew, q, hV1⟩
  have HB1 : Hid (Below w.heap.size w V1) := by rw [hV1]; exact bdrewN HB0.out _
  have HFe := hidLL hfew
  clear hfew hV1 HFw
  cases fb with
  | false =>
    go_wp2
    go_ret
    exact ⟨rfl, HB1.out⟩
  | true =>
  by_cases hn80 : (80 : Int) < nn
  case pos =>
    go_wp2
    go_ret
    exact ⟨rfl, HB1.out⟩
  case neg =>
  have HFe2 : Hid (p.mvs.length ≤ 125 ∧ p.fin.length ≤ 125) := HFe.out (by trivial)
  have HPn := hidLL (plan_l (HPl.out V1 HB1.out) HFe2.out.1 HFe2.out.2)
  go_wp2_with fail
  refine HPn.out.mono ?_
  rintro e V2 ⟨qf, qm, rfl, hpn, hb2⟩
  have HB2 : Hid (Below w.heap.size w V2) := HB1.out.trans (hb2.mono HB1.out.size)
  have HOp := hidLL (open_p hpn HZ.out (by have := hpn.fin.len.1; have := HFe2.out.2; omega) (HL.out V2 HB2.out) on)
  clear hpn hb2 HPn HFe
  go_wp2_with fail
  refine HOp.out.mono ?_
  rintro e V3 (⟨a, rfl, _, hb3⟩ | ⟨D, rfl, hDp, hkb, htb, hDB, hfit, hday, hc, hb3⟩)
  · have HB3 : Hid (Below w.heap.size w V3) := HB2.out.trans (hb3.mono HB2.out.size)
    clear hb3
    go_wp2
    go_ret
    exact ⟨rfl, HB3.out⟩
  have hb3 : Below w.heap.size w V3 := HB2.out.trans (hb3.mono HB2.out.size)
  have hz2 := HB2.out.size
  subst hDp
  obtain ⟨rk, hr1, hr2⟩ := rank_of hfit.rk
  have HK : Hid (GoK w D rk) := ⟨by omega, by omega, by omega, hfit, hr1, hr2⟩
  have HG3 := hidLL (GoI.start HK.out hc hb3)
  have HDy := hidLL hday
  have HSg := hidLL (stages_r (HPl.out V3 hb3) HFe2.out.1 HFe2.out.2)
  clear hb3 hz2 hr1 hr2 hfit hday hc hkb htb hDB HOp
  go_wp2_with fail
  refine HSg.out.mono ?_
  rintro e V4 ⟨sa, sn, sc, rfl, hsn, hb4⟩
  have HG4 := hidLL (HG3.out.step hb4)
  have HSn := hidLL hsn
  have hsn2 : sn ≤ 120 := by have := HK.out.fit.st; omega
  clear hb4 hsn HSg HG3
  have c2 := (HPl.out V4 HG4.out.bel).c2
  go_wp2_with fail
  go_loopw [13, 12] (fun i x wr => ∃ (j : Nat) (y : Int), j ≤ pm.n ∧ i = .int .i64 j ∧ x = .int .i64 y ∧ y = lmS (D.p.mvs.take j) ∧ 0 ≤ y ∧ y ≤ 100 * j ∧ wr = V4) (fun i _ _ => pm.n - (RowKit.intOf i).toNat)
  case atStart => exact ⟨0, 0, by omega, rfl, rfl, by simp [lmS], by omega, by omega, rfl⟩
  case round =>
    obtain ⟨j, y, hj, rfl, rfl, hy, hy0, hy1, h9⟩ := hrel
    subst wr
    have HY := hidLL hy
    clear hy
    have hj125 : j ≤ 125 := by have := HN.out.1; have := HFe2.out.1; omega
    by_cases hlt : j < pm.n
    · have hjz : (j : Int) < pm.n := by omega
      obtain ⟨m, hm⟩ : ∃ m, D.p.mvs[j]? = some m := ⟨_, List.getElem?_eq_getElem (by have := HN.out.1; omega)⟩
      obtain ⟨g, o2, hga, hg, hrg⟩ := (HPl.out V4 HG4.out.bel).mvs.at hm
      rw [show mvE.k = 8 from rfl] at hrg
      obtain ⟨y0, y1, y2, y3, y4, y5, y6, y7⟩ := mv_cells hrg
      rw [hga] at c2
      have hmo := (HK.out.fit.ok m (List.mem_of_getElem? hm)).1
      have HTk := hidLL (lmS_take hm)
      clear hm hrg hg hga y0 y1 y2 y3 y4 y5 y6
      by_cases h100 : (100 : Int) < m.most
      case pos =>
        go_wp2
        go_ret
        exact ⟨rfl, HG4.out.bel⟩
      case neg =>
        go_wp2
        go_roundw
        case rel => exact ⟨j + 1, y + m.most, by omega, by go_num, by go_num, by rw [HTk.out, HY.out], by omega, by omega, by trivial⟩
        case measure => simp [RowKit.intOf]; omega
    · have hjz : ¬ (j : Int) < pm.n := by omega
      have HY2 : Hid (y = lmS D.p.mvs) := by
        have h8 := HY.out
        rw [List.take_of_length_le (by have := HN.out.1; omega)] at h8
        exact h8
      have hy2 : y ≤ 12500 := by omega
      clear HY hy1
      go_wp2_with fail
      clear c2
      go_loopw [15, 14] (fun i dv wr => ∃ (j d : Nat) (sv : SlV) (ts : List Nat) (stage : ByteArray) (steps : List Stp), j ≤ nn ∧ i = .int .i64 j ∧ dv = .int .i64 d ∧ d ≤ j * 125 ∧ GoI w wr D rk on sv ts stage steps d) (fun i _ _ => nn - (RowKit.intOf i).toNat)
      case atStart => exact ⟨0, 0, _, _, _, _, by omega, rfl, rfl, by omega, HG4.out⟩
      case round =>
        obtain ⟨i, d, sv, ts, stage, steps, hi, rfl, rfl, hd, hgo⟩ := hrel
        have HG := hidLL hgo
        clear hgo HG4
        by_cases hlt2 : i < nn
        · have hiz : (i : Int) < nn := by omega
          obtain ⟨nm, hnm⟩ : ∃ nm, ns[i]? = some nm := ⟨_, List.getElem?_eq_getElem (by have := HN.out.2.2; omega)⟩
          have HNm := hidLL hnm
          clear hnm
          go_wp2_with fail
          go_loopw [16, 14] (fun x dv wr => ∃ (k d : Nat) (sv : SlV) (ts : List Nat) (stage : ByteArray) (steps : List Stp), k ≤ pm.n ∧ x = .int .i64 k ∧ dv = .int .i64 d ∧ d ≤ i * 125 + k ∧ GoI w wr D rk on sv ts stage steps d) (fun x _ _ => pm.n - (RowKit.intOf x).toNat)
          case atStart => exact ⟨0, d, _, _, _, _, by omega, rfl, rfl, by omega, HG.out⟩
          case round =>
            clear HG hd
            obtain ⟨k, d, sv, ts, stage, steps, hk, rfl, rfl, hd, hgo⟩ := hrel
            have HG := hidLL hgo
            have c2 := (HPl.out wr hgo.bel).c2
            have hd2 : d ≤ 10125 := by have := HN.out.1; have := HFe2.out.1; omega
            clear hgo
            by_cases hlt3 : k < pm.n
            · have hkz : (k : Int) < pm.n := by omega
              obtain ⟨m, hm⟩ : ∃ m, D.p.mvs[k]? = some m := ⟨_, List.getElem?_eq_getElem (by have := HN.out.1; omega)⟩
              obtain ⟨g, o2, hga, hg, hrg⟩ := (HPl.out wr HG.out.bel).mvs.at hm
              rw [show mvE.k = 8 from rfl] at hrg
              obtain ⟨_, _, _, y3, _, _, _, _⟩ := mv_cells hrg
              obtain ⟨gn, on2, hgn, hgS, hrn⟩ := (HNs.out wr HG.out.bel).at HNm.out
              have z0 : wr.cell? ⟨gn, on2 + i, none⟩ = some (.string nm) := by
                have := hrn 0 _ rfl
                rw [show strE.k = 1 from rfl, Nat.mul_one] at this
                exact this
              subst hgn
              rw [hga] at c2
              have HCl : Hid (∀ V, Below w.heap.size w V → V.cell? ⟨gn, on2 + i, none⟩ = some (.string nm) ∧ V.cell? ⟨b, o + 2, none⟩ = some (.slice (some ⟨g, o2, none⟩) pm.n pm.c) ∧ V.cell? ⟨g, o2 + k * 8 + 3, none⟩ = some (.string m.wh)) := fun V hV => by
                have hx : ∀ (q j : Nat), q < w.heap.size → V.cell? ⟨q, j, none⟩ = wr.cell? ⟨q, j, none⟩ := fun q j hq => (hV.cell (p := ⟨q, j, none⟩) hq).trans (HG.out.bel.cell (p := ⟨q, j, none⟩) hq).symm
                exact ⟨(hx _ _ (HLow.out.1 _ hgS)).trans z0, (hx _ _ HLow.out.2).trans c2, (hx _ _ (HLow.out.1 _ hg)).trans y3⟩
              obtain ⟨ob, hob, hDone⟩ := done_p HG.out.c
              have HOb := hidLL hob
              have HDn := hidLL hDone
              have HSt := hidLL (fun k => stage_p HG.out.c k)
              have HDo : Hid (∀ V, Rch wr V → Calls Tryd.prog 11 #[.pointer (some ⟨D.kb, 0, none⟩), .agg #[.string nm, .string m.wh, .int .i64 on]] V (DoR V D ts stage on steps ⟨nm, m.wh, on⟩)) := fun V hV => do_p (HG.out.step hV).c (HL.out V (HG.out.step hV).bel) HDy.out (fun m' hm' => (HK.out.fit.ok m' hm').1) (by rw [HG.out.len]; omega) (fun t ht => by have := HG.out.few t ht; omega) nm m.wh
              clear hm hrg hg hga hrn hob hDone hgS
              go_wp2_with fail
              refine HDn.out.mono ?_
              rintro e w5 ⟨rfl, q5, h9⟩
              subst w5
              go_wp2_with fail
              refine (HSt.out q5).mono ?_
              rintro e w6 ⟨rfl, h9⟩
              subst w6
              go_wp2_with fail
              go_region_held3 (fun V => V.cell? ⟨gn, on2 + i, none⟩ = some (.string nm) ∧ V.cell? ⟨b, o + 2, none⟩ = some (.slice (some ⟨g, o2, none⟩) pm.n pm.c) ∧ V.cell? ⟨g, o2 + k * 8 + 3, none⟩ = some (.string m.wh)) (first | exact ⟨z0, c2, y3⟩ | exact HCl.out _ hb7 | go_keep) ((go_simp; go_at_call 11; refine (HDo.out _ ?_).mono ?_; (· repeat (first | exact Rch.refl _ | refine Rch.drew ?_ | refine Rch.drewN ?_ _)); rintro e w7 h7; (obtain ⟨v7, rfl, h8⟩ := h7.val); (have hb7 := DoV.bel HK.out (HG.out.step (show Rch wr _ by repeat (first | exact Rch.refl _ | refine Rch.drew ?_ | refine Rch.drewN ?_ _))).bel h8); (have H8 := hidLL (And.intro (show Rch wr _ by repeat (first | exact Rch.refl _ | refine Rch.drew ?_ | refine Rch.drewN ?_ _)) h8)); clear h7 h8))
              all_goals (
                clear z0 c2 y3 hb7
                obtain ⟨_, h8⟩ := H8.out
                have hR8 : Rch wr (wr.drewN (q5 + 1)) := (Rch.refl wr).drewN _
                clear H8
                rcases h8 with ⟨a, rfl, hb8⟩ | ⟨i7, m7, t7, sv7, g1, g2, g3, g4, rfl, hc7, hb8⟩
                · have HG7 : Hid (GoI w w7 D rk on sv ts stage steps d) := HG.out.step (Rch.trans hR8 hb8)
                  have HS7 := hidLL (stage_p HG7.out.c 0)
                  clear hR8 hb8
                  go_wp2_with fail
                  refine HS7.out.mono ?_
                  rintro e w9 ⟨rfl, h9⟩
                  have h9 : w9 = w7 := h9
                  subst w9
                  go_wp2
                  go_roundw
                  case rel => exact ⟨k + 1, d, sv, ts, stage, steps, by omega, by go_num, rfl, by omega, HG7.out⟩
                  case measure => simp [RowKit.intOf]; omega
                · obtain ⟨hG7, hnf⟩ := GoI.go HK.out (HG.out.step hR8) g1 g2 g3 g4 hc7 hb8
                  have HG7 := hidLL hG7
                  have hob : ob = false := by
                    cases hq : ob with
                    | false => rfl
                    | true => exact absurd (HOb.out.1 hq) hnf
                  subst hob
                  clear hR8 g1 g2 g3 g4 hc7 hb8 hG7 hnf
                  go_wp2
                  go_roundw
                  case rel => exact ⟨k + 1, d + 1, sv7, _, _, _, by omega, by go_num, by go_num, by omega, HG7.out⟩
                  case measure => simp [RowKit.intOf]; omega)
            · have hkz : ¬ (k : Int) < pm.n := by omega
              go_wp2
              go_roundw
              case rel => exact ⟨i + 1, d, _, _, _, _, by omega, by go_num, rfl, by have := HN.out.1; have := HFe2.out.1; omega, HG.out⟩
              case measure => simp [RowKit.intOf]; omega
        · have hiz : ¬ (i : Int) < nn := by omega
          have hend := HG.out.run.end HK.out.r1 (fun m hm => (HK.out.fit.ok m hm).1)
          rw [← HY2.out, ← HSn.out] at hend
          have hs1 : 1 ≤ sn := by
            have h8 := HK.out.r1 _ HG.out.run.st
            have := HSn.out
            omega
          have hP0 : 0 ≤ (y + 1) * ((sn : Int) - 1) := Int.mul_nonneg (by omega) (by omega)
          have hP1 : (y + 1) * ((sn : Int) - 1) ≤ 12501 * 119 := Int.mul_le_mul (by omega) (by omega) (by omega) (by omega)
          have hw1 : IntKind.i64.wrap ((y + 1) * ((sn : Int) - 1)) = (y + 1) * ((sn : Int) - 1) := wrap_small hP0 (by omega)
          have hw2 : IntKind.i64.wrap (y + (y + 1) * ((sn : Int) - 1)) = y + (y + 1) * ((sn : Int) - 1) := wrap_small (by omega) (by omega)
          have hd2 : d ≤ 10125 := by omega
          have HSp := hidLL (steps_p HG.out.c (by rw [HG.out.len]; omega))
          go_wp2_with fail
          refine HSp.out.mono ?_
          rintro e w9 ⟨a9, n9, c9, rfl, hn9, hb9⟩
          have HG9 := hidLL (HG.out.step hb9)
          rw [HG.out.len] at hn9
          subst hn9
          clear hb9
          go_wp2
          go_ret
          exact ⟨rfl, HG9.out.bel⟩
end Go.Proofs.YtpijiglmjkdlgaaDoor
