/-
  Package tree: Weigh.
-/
import Derived.Test.YtpbolcjcmkmalaaGreatDoorFo26
import Derived.Deep.LoopGhost
import Derived.Deep.AppendSrc
namespace Go.Proofs.YtpbolcjcmkmalaaGreatDoor
open Go.RowKit Go.Extern.Stop Go.Stop Go.Extern

theorem infoBr : ∃ i z, Tryz.prog.info? brT = some i ∧ i.zero = some z ∧ i.size = encE.k ∧ i.bytes = 40 ∧ z.cells.size = encE.k := by
  have h : (Tryz.prog.info? brT).map (fun i => (i.zero.map (fun z => z.cells.size), i.size, i.bytes)) = some (some 3, 3, 40) := by kernel_rfl
  cases hi : Tryz.prog.info? brT with
  | none => rw [hi] at h; cases h
  | some i =>
    rw [hi] at h
    simp only [Option.map_some, Option.some.injEq, Prod.mk.injEq] at h
    cases hz : i.zero with
    | none => rw [hz] at h; simp at h
    | some z =>
      rw [hz] at h
      simp only [Option.map_some, Option.some.injEq] at h
      exact ⟨i, z, rfl, hz, h.2.1, h.2.2, h.1⟩
theorem BelX.down2 {B x n : Nat} {a w : World} (h : BelX B x a w) (h1 : n ≤ B) (h2 : n ≤ x) : Below n a w := ⟨h.os, h.tape, h.output, h.size, fun k hk => h.block k (by omega) (by omega)⟩
set_option maxHeartbeats 8000000 in
set_option maxRecDepth 20000 in
theorem weigh_a {w : World} {N sb mb b o : Nat} {t : It} {ex : Prop} (h : SC w sb mb ex (fun _ _ => False)) (hN : N ≤ w.heap.size) (hsb : N ≤ sb) (hmb : N ≤ mb) (ht : TreeF w N ex b o t) (hsz : wtI t ≤ 400000) :
    Calls Tryz.prog 67 #[.pointer (some ⟨sb, 0, none⟩), .pointer (some ⟨b, o, none⟩)] w fun e w' => ∃ x : Int, e = .returned (.int .i64 x) ∧ (ex → x = wtI t) ∧ Below N w w' := by
  obtain ⟨ka, kc, hn, hc, hl, hb, hp, hk⟩ := ht.parts
  have HT := hidLL (told_a h hn hp)
  by_cases h0 : t.kids.length = 0
  · have HW : Hid ((1 : Int) + t.lines.length = wtI t) := by
      show _ = _
      have := wtI_eq t
      rw [List.eq_nil_of_length_eq_zero h0, wtK] at this
      omega
    have H0 := hidLL h0
    clear h0 hn hc hl hk ht h
    go_enter Tryz.func67, Tryz.ntmps67
    go_wp2_with fail
    refine HT.out.mono ?_
    rintro e w1 ⟨x, is, k, rfl, h1, _, rfl⟩
    obtain ⟨rfl, rfl⟩ := h1 H0.out
    go_wp2
    go_ret
    exact ⟨_, rfl, fun _ => HW.out, bdrewN (Below.refl _ _) _⟩
  · have hbm : b ≠ mb := by omega
    have HB := hidLL (fun k : Nat => begin_a (ka := ka) (kc := kc) (F' := MF w N ex ([] ++ [⟨b, o, ka, kc, t.kids, 1 + t.lines.length, t⟩])) (h.drewN k) (hn.on (w' := w.drewN k) rfl) hp hbm (fun _ _ h => h.elim) (MF.open (E := []) ht hb).2.1 (fun _ _ h => h.elim))
    have HI : Hid (∀ w2, SC w2 sb mb ex (MF w N ex ([] ++ [⟨b, o, ka, kc, t.kids, 1 + t.lines.length, t⟩])) → BelX w.heap.size mb w w2 → WgI w N sb mb ex (wtI t) 0 (.slice (some ⟨w2.heap.size, 0, none⟩) 1 1) [⟨b, o, ka, kc, t.kids, 1 + t.lines.length, t⟩] (w2.alloc (.cells #[.pointer (some ⟨b, o, none⟩), .slice ka t.kids.length kc, .int .i64 (1 + t.lines.length)] brT))) := fun w2 hs hx => by
      refine ⟨⟨World.ownsRow_lit w2 _ 1 hx.size (by decide) rfl, by simp⟩, hs.below ((Below.refl _ _).alloc (Nat.le_refl _) _), hx.trans (Below.x ((Below.refl _ _).alloc (Nat.le_refl _) _) mb hx.size), fun e he => ?_, by simp, fun _ => ⟨?_, rfl⟩⟩
      · obtain rfl : e = _ := by simpa using he
        exact .of ht hc hl hk (by omega) (by have := wtI_eq t; omega)
      · show (1 : Int) + t.lines.length + wtK t.kids + 0 = wtI t
        have := wtI_eq t
        omega
    have H0 := hidLL h0
    have hmA : mAll [⟨b, o, ka, kc, t.kids, 1 + t.lines.length, t⟩] ≤ 800000 := by
      show 1 + 2 * wtK t.kids + 0 ≤ _
      have := wtI_eq t
      omega
    have HS := hidLL (And.intro h.lt (And.intro h.mp.lt (And.intro hN (And.intro hsb hmb))))
    have HmA := hidLL hmA
    obtain ⟨tot, htot⟩ : ∃ tot, tot = wtI t := ⟨_, rfl⟩
    have HTo : Hid (tot ≤ 400000) := by show _ ≤ _; omega
    rw [← htot] at HI ⊢
    clear h0 hn hc hl hk ht h hmA htot hp hb hsz
    generalize t.kids.length = kn at *
    go_enter Tryz.func67, Tryz.ntmps67
    go_wp2_with fail
    refine HT.out.mono ?_
    rintro e w1 ⟨x, is, k, rfl, _, h1, rfl⟩
    have hi : is = false := by
      cases is
      · rfl
      · obtain ⟨c, hc, _⟩ := h1 H0.out rfl
        exact hc.elim
    subst hi
    clear h1 HT
    go_wp2_with fail
    refine (HB.out k).mono ?_
    rintro e w2 ⟨rfl, hs2, hf2⟩
    have hI := HI.out w2 hs2 ⟨hf2.os, hf2.tape, hf2.output, hf2.size, fun q hq hn => hf2.block q hq hn⟩
    have HI2 := hidLL hI
    clear hI hs2 hf2 HI HB
    go_wp2_with fail
    go_loopg [7] (mAll [⟨b, o, ka, kc, t.kids, 1 + t.lines.length, t⟩]) (fun k v wr => ∃ E, E ≠ [] ∧ mAll E ≤ k ∧ k ≤ 800000 ∧ WgI w N sb mb ex tot 0 v E wr)
    case atStart => exact ⟨_, by simp, Nat.le_refl _, HmA.out, HI2.out⟩
    case round =>
      obtain ⟨E, hE, hm, hk8, hI⟩ := hrel
      clear HI2
      obtain ⟨E0, e, rfl⟩ : ∃ E0 e, E = E0 ++ [e] := by
        rcases List.eq_nil_or_concat E with h1 | ⟨a, b, hab⟩
        · exact absurd h1 hE
        · exact ⟨a, b, by rw [hab, List.concat_eq_append]⟩
      obtain ⟨g, cap, rfl, hgw, hgs, hgm, hgl, hgf, c0, c1, c2, hcap⟩ := hI.top
      obtain ⟨s0, s1, s2, s3, s4, s5⟩ := six hI.sc.bk
      have hok := hI.ok e (by simp)
      obtain ⟨m0, hm0⟩ : ∃ m0, m0 = E0.length := ⟨_, rfl⟩
      rw [← hm0] at c0 c1 c2 hcap ⊢
      have hlen : m0 + 1 ≤ 800000 := by have := mAll_len (E0 ++ [e]); rw [List.length_append] at this; simp at this; omega
      have hmz : (m0 : Int) < (m0 : Int) + 1 := by omega
      have HI := hidLL hI
      have HM := hidLL (And.intro hm (And.intro hk8 hm0))
      have HG := hidLL (And.intro hgw (And.intro hgs (And.intro hgm hgl)))
      clear hI hm hk8 hm0 hE hgw hgs hgl s0 s1 s2 s4
      by_cases hls : e.ls = []
      · have HL := hidLL hls
        rw [hls] at c1
        clear hls
        obtain ⟨w3, hrun, hf3, hx3, hnext⟩ := HI.out.upd HS.out.2.2.1 HS.out.2.2.2.2 HL.out
        have s5' : w3.cell? ⟨sb, 5, none⟩ = some (.map (some mb)) := (World.cell?_of_block (a := ⟨sb, 5, none⟩) (hf3.block sb HI.out.sc.lt HI.out.sc.ne)).trans s5
        have s3' : w3.cell? ⟨sb, 3, none⟩ = some (.int .i64 67108864) := (World.cell?_of_block (a := ⟨sb, 3, none⟩) (hf3.block sb HI.out.sc.lt HI.out.sc.ne)).trans s3
        have c0' : w3.cell? ⟨g, m0 * 3, none⟩ = some (.pointer (some ⟨e.nb, e.no, none⟩)) := (World.cell?_of_block (a := ⟨g, m0 * 3, none⟩) (hf3.block g HG.out.2.2.2 hgm)).trans c0
        have HX := hidLL (And.intro hx3 (hnext g cap rfl))
        have hx01 := And.intro hok.x0 hok.x1
        have HOk := hidLL hok
        clear hf3 hx3 hnext hgm hok
        by_cases h00 : E0 = []
        · subst h00
          have HM0 : Hid (m0 = 0) := by show _ = _; rw [HM.out.2.2]; rfl
          have hm0 := HM0.out
          subst hm0
          clear hx01
          go_wp2_with fail
          go_region_held3 (fun V => V.cell? ⟨sb, 5, none⟩ = some (.map (some mb)) ∧ V.cell? ⟨g, 0 * 3, none⟩ = some (.pointer (some ⟨e.nb, e.no, none⟩))) (first | exact ⟨s5, c0⟩ | exact ⟨s5', c0'⟩ | go_keep) (fail)
          all_goals go_wp2_with fail
          all_goals go_ret
          all_goals exact ⟨e.x, rfl, fun hx => HX.out.2.ch hx, BelX.down2 HX.out.2.fr HS.out.2.2.1 HS.out.2.2.2.2⟩
        · obtain ⟨E1, e1, h01⟩ : ∃ E1 e1, E0 = E1 ++ [e1] := by
            rcases List.eq_nil_or_concat E0 with h1 | ⟨a, b, hab⟩
            · exact absurd h1 h00
            · exact ⟨a, b, by rw [hab, List.concat_eq_append]⟩
          obtain ⟨m1, hm1⟩ : ∃ m1, m1 = E1.length := ⟨_, rfl⟩
          have hm01 : m0 = m1 + 1 := by rw [HM.out.2.2, h01, hm1]; simp
          have hI3 := HX.out.2
          rw [h01] at hI3
          rw [show (E1 ++ [e1]).length = m1 + 1 by rw [hm1]; simp] at hI3
          obtain ⟨g', cap', hv', hgw', hgs', hgm', hgl', hgf', d0, d1, d2, _⟩ := hI3.top
          rw [← hm1] at hv' d0 d1 d2
          injection hv' with hv' _ hv2
          injection hv' with hv'
          injection hv' with hv' _ _
          subst hv' hv2
          have hok1 := hI3.ok e1 (by simp)
          have HA := hidLL (add_a (x := e1.x) (y := e.x) s3' hgs' d1 d2 hgf' (And.intro hok1.x0 hok1.x1) hx01)
          have HN3 : Hid (∀ w4, AddR w3 g (m1 * 3) (min (e1.x + e.x) 67108865) w4 → ∃ E', E' ≠ [] ∧ mAll E' ≤ mAll E0 ∧ WgI w N sb mb ex tot 0 (.slice (some ⟨g, 0, none⟩) (m1 + 1) cap) E' w4) := fun w4 ha => by
            rw [hm1] at ha hI3 ⊢
            obtain ⟨e', h1, h2⟩ := hI3.addR (fun _ => by have := HTo.out; omega) hgw' hgs' hgm' hx01 (fun _ => rfl) ha
            exact ⟨_, by simp, by rw [h01]; exact h2, h1⟩
          have HMl : Hid (mAll E0 < gk ∧ mAll E0 ≤ 800000) := by
            have h1 := HM.out.1
            have h2 := HM.out.2.1
            rw [mAll_snoc] at h1
            exact ⟨by omega, by omega⟩
          have hm1z : (m1 : Int) < (m1 : Int) + 1 := by omega
          subst hm01
          clear hI3 hok1 d0 d1 d2 hgf' hx01 hgw' hgs' hgm' hgl' hm1 h01
          go_wp2_with fail
          go_region_held3 (fun V => V.cell? ⟨sb, 5, none⟩ = some (.map (some mb)) ∧ V.cell? ⟨g, (m1 + 1) * 3, none⟩ = some (.pointer (some ⟨e.nb, e.no, none⟩))) (first | exact ⟨s5, c0⟩ | exact ⟨s5', c0'⟩ | go_keep) (fail)
          all_goals go_wp2_with fail
          all_goals refine HA.out.mono ?_
          all_goals rintro e9 w4 ⟨rfl, ha⟩
          all_goals obtain ⟨E', h91, h92, h93⟩ := HN3.out _ ha
          all_goals go_wp2_with fail
          all_goals go_roundg (mAll E0)
          all_goals first | exact HMl.out.1 | exact ⟨E', h91, h92, HMl.out.2, h93⟩
      · obtain ⟨k, r, hls'⟩ : ∃ k r, e.ls = k :: r := by
          cases hq : e.ls with
          | nil => exact absurd hq hls
          | cons k r => exact ⟨k, r, rfl⟩
        obtain ⟨kg, kq, hla⟩ := hok.ks.a hls
        have hcp := hok.cap
        have hks := hok.ks
        rw [hls', List.length_cons] at hcp c1
        rw [hla] at c1 hks
        rw [hls'] at hks
        obtain ⟨la', hla'⟩ : ∃ la', (if e.lc = 1 then some (⟨kg, kq, none⟩ : Addr) else some ⟨kg, kq + 4, none⟩) = la' := ⟨_, rfl⟩
        have HKr := hidLL (hla' ▸ hks.tail hcp)
        have HKh := hidLL hks.head
        have HLt := hidLL (HI.out.kid_lt hls')
        have HLs := hidLL hls'
        have hcz : (1 : Int) ≤ (e.lc : Int) := by omega
        have hT := HI.out.take HS.out.2.2.1 HG.out.1 HG.out.2.1 hgm hls' HKr.out
        rw [← HM.out.2.2] at hT
        clear hls hls' hks hok
        generalize hrl : r.length = rl at *
        generalize hlc : e.lc = lc at *
        obtain ⟨W2, hW2⟩ : ∃ W2, W2 = wr.setCell ⟨g, m0 * 3 + 1, none⟩ (.slice la' rl (lc - 1)) := ⟨_, rfl⟩
        rw [← hW2] at hT
        obtain ⟨g', cap', hv', _, _, _, hgl2, hgf2, d0, d1, d2, _⟩ := hT.top
        rw [← HM.out.2.2] at hv' d0 d1 d2
        injection hv' with hv' _ hv2
        injection hv' with hv'
        injection hv' with hv' _ _
        subst hv' hv2
        obtain ⟨_, _, _, t3, _, t5⟩ := six hT.sc.bk
        obtain ⟨ka2, kc2, hn2, hc2, hl2, hb2, hp2, hk2⟩ := HKh.out.parts
        have hlow := hT.low HS.out.2.2.1 HS.out.2.2.2.2
        have hn2' := hn2.on (hlow kg hb2)
        have HTo2 := hidLL (told_a hT.sc hn2' (fun hx => (hp2 hx).on (hlow kg hb2)))
        have hlt2 : ∀ a, a ∈ E0 ++ [{ e with la := la', lc := lc - 1, ls := r }] → wtI k < wtI a.t := fun a ha => by
          rcases List.mem_append.1 ha with ha | ha
          · exact HLt.out a (by simp [ha])
          · obtain rfl : a = _ := by simpa using ha
            exact HLt.out e (by simp)
        have HA2 : Hid (∀ (x : Int) (is : Bool), (k.kids.length = 0 → is = true ∧ x = 1 + k.lines.length) → (k.kids.length ≠ 0 → is = true → ∃ c, MF w N ex (E0 ++ [{ e with la := la', lc := lc - 1, ls := r }]) c x ∧ (ex → c = ⟨kg, kq, none⟩)) → is = true → 0 ≤ x ∧ x ≤ 67108865 ∧ (ex → x = wtI k)) := fun x is g1 g2 hi => by
          by_cases hz : k.kids.length = 0
          · obtain ⟨_, rfl⟩ := g1 hz
            have h1 := wtI_eq k
            rw [List.eq_nil_of_length_eq_zero hz, wtK] at h1
            have := hn2.hm
            exact ⟨by omega, by omega, fun _ => by omega⟩
          · obtain ⟨c, hc, hce⟩ := g2 hz hi
            exact hc.told hce HKh.out hlt2 hT.ok
        have HAd : Hid (∀ (y : Int) (k2 : Nat), 0 ≤ y ∧ y ≤ 67108865 → Calls Tryz.prog 105 #[.pointer (some ⟨sb, 0, none⟩), .pointer (some ⟨g, m0 * 3, none⟩), .int .i64 y] (W2.drewN k2) fun e' w' => e' = .returned (.tuple #[]) ∧ AddR (W2.drewN k2) g (m0 * 3) (min (e.x + y) 67108865) w') := fun y k2 hy => add_a (w := W2.drewN k2) t3 HG.out.2.1 d1 d2 hgf2 ⟨(hT.ok { e with la := la', lc := lc - 1, ls := r } (by simp)).x0, (hT.ok { e with la := la', lc := lc - 1, ls := r } (by simp)).x1⟩ hy
        have HBg : Hid (∀ k2 : Nat, Calls Tryz.prog 104 #[.pointer (some ⟨sb, 0, none⟩), .pointer (some ⟨kg, kq, none⟩)] (W2.drewN k2) fun e' w' => e' = .returned (.agg #[.pointer (some ⟨kg, kq, none⟩), .slice ka2 k.kids.length kc2, .int .i64 (1 + k.lines.length)]) ∧ SC w' sb mb ex (MF w N ex (E0 ++ [{ e with la := la', lc := lc - 1, ls := r }] ++ [⟨kg, kq, ka2, kc2, k.kids, 1 + k.lines.length, k⟩])) ∧ MpF (W2.drewN k2) w' mb) := fun k2 => by
          obtain ⟨m1, m2, m3⟩ := MF.open (E := E0 ++ [{ e with la := la', lc := lc - 1, ls := r }]) (ka := ka2) (kc := kc2) (x := 1 + k.lines.length) HKh.out hb2
          exact begin_a (hT.sc.drewN k2) (hn2'.on (w' := W2.drewN k2) rfl) (fun hx => (hp2 hx).on (hlow kg hb2)) (by have := HS.out.2.2.2.2; omega) m1 m2 m3
        have HE : Hid (∀ (y : Int) (w4 : World) (k2 : Nat), 0 ≤ y ∧ y ≤ 67108865 → (ex → y = wtI k) → AddR (W2.drewN k2) g (m0 * 3) (min (e.x + y) 67108865) w4 → ∃ E', E' ≠ [] ∧ mAll E' + 1 ≤ mAll (E0 ++ [e]) ∧ WgI w N sb mb ex tot 0 (.slice (some ⟨g, 0, none⟩) (m0 + 1) cap) E' w4) := fun y w4 k2 hy hyx ha => by
          have ha : AddR W2 g (m0 * 3) (min (e.x + y) 67108865) w4 := ha
          rw [HM.out.2.2] at ha hT ⊢
          obtain ⟨e', h1, h2⟩ := hT.addR (fun _ => by have := HTo.out; omega) HG.out.1 HG.out.2.1 hgm hy hyx ha
          refine ⟨_, by simp, ?_, h1⟩
          rw [mAll_snoc, mAll_snoc] at h2
          rw [mAll_snoc _ e, HLs.out, wtK]
          rw [mAll_snoc]
          have h2 : mAll E0 + (1 + 2 * wtK e'.ls) ≤ mAll E0 + (1 + 2 * wtK r) := h2
          have := wtI_eq k
          omega
        have HMo : Hid (∀ w5 w6 v' (k2 : Nat), SC w5 sb mb ex (MF w N ex (E0 ++ [{ e with la := la', lc := lc - 1, ls := r }] ++ [⟨kg, kq, ka2, kc2, k.kids, 1 + k.lines.length, k⟩])) → MpF (W2.drewN k2) w5 mb → RowG encE brT w6 w.heap.size v' (E0 ++ [{ e with la := la', lc := lc - 1, ls := r }] ++ [⟨kg, kq, ka2, kc2, k.kids, 1 + k.lines.length, k⟩]) → Below w.heap.size w5 w6 → ∃ E', E' ≠ [] ∧ mAll E' + 1 ≤ mAll (E0 ++ [e]) ∧ WgI w N sb mb ex tot 0 v' E' w6) := fun w5 w6 v' k2 h1 h2 h3 h4 => by
          refine ⟨_, by simp, ?_, hT.more HS.out.2.2.1 HS.out.1 HS.out.2.1 HKh.out hc2 hl2 hk2 rfl hn2.hm hlt2 h1 ⟨h2.os, h2.tape, h2.output, h2.size, h2.block⟩ h3 h4⟩
          rw [mAll_snoc, mAll_snoc, mAll_snoc, HLs.out, wtK]
          have := wtI_eq k
          show mAll E0 + (1 + 2 * wtK r) + (1 + 2 * wtK k.kids) + 1 ≤ mAll E0 + (1 + 2 * (wtI k + wtK r))
          omega
        have HRw : Hid (∀ w5 (k2 : Nat), MpF (W2.drewN k2) w5 mb → RowG encE brT w5 w.heap.size (.slice (some ⟨g, 0, none⟩) (m0 + 1) cap) (E0 ++ [{ e with la := la', lc := lc - 1, ls := r }]) ∧ w.heap.size ≤ w5.heap.size) := fun w5 k2 h2 => ⟨hT.row.on fun q hq _ _ => by
          obtain rfl : g = q := Option.some.inj hq
          exact h2.block g hgl2 hgm, Nat.le_trans hT.fr.size h2.size⟩
        have HMl : Hid (mAll (E0 ++ [e]) ≤ gk ∧ gk ≤ 800000 ∧ (E0 ++ [{ e with la := la', lc := lc - 1, ls := r }]).length + 1 ≤ 1000000) := ⟨HM.out.1, HM.out.2.1, by
          have := HM.out.2.2
          rw [List.length_append, List.length_singleton]
          omega⟩
        have HW2 := hidLL hW2
        clear hT hW2 d0 d1 d2 t3 t5 hlow hn2 hn2' hc2 hl2 hb2 hp2 hk2 hlt2 HI HM HLt HKh HKr
        go_upto_region 15 with fail
        rw [← HW2.out]
        go_wp2_with fail
        refine HTo2.out.mono ?_
        rintro e9 w9 ⟨x, is, k2, rfl, g1, g2, rfl⟩
        have hA := HA2.out x is g1 g2
        clear g1 g2 HTo2 HA2
        cases is
        · clear hA
          go_wp2_with fail
          refine (HBg.out k2).mono ?_
          rintro e9 w5 ⟨rfl, hs5, hf5⟩
          obtain ⟨hr5, hb5⟩ := HRw.out w5 k2 hf5
          have HF5 := hidLL (And.intro hs5 hf5)
          have hml := HMl.out.2.2
          clear hs5 hf5
          go_wp2_with (at_builtin; go_loud (refine wpList_push_g infoBr (by decide) Tryz.underlying163 rfl (.tmp 90) (.tmp 94) rfl w.heap.size (.slice (some ⟨g, 0, none⟩) (m0 + 1) cap) _ ⟨kg, kq, ka2, kc2, k.kids, 1 + k.lines.length, k⟩ _ rfl (by simp [Act.eval]) hr5 (by simp [Act.eval]) hb5 hml ?_))
          intro v' w6 hr6 hb6 _ _
          obtain ⟨E', h91, h92, h93⟩ := HMo.out w5 w6 v' k2 HF5.out.1 HF5.out.2 (by rw [List.append_assoc]; exact hr6) hb6
          go_wp2_with fail
          go_roundg (mAll E')
          all_goals first | (have := HMl.out; omega) | exact ⟨E', h91, Nat.le_refl _, by have := HMl.out; omega, h93⟩
        · obtain ⟨x0, x1, x2⟩ := hA rfl
          have HX := hidLL x2
          clear hA x2
          go_wp2_with fail
          refine (HAd.out x k2 ⟨x0, x1⟩).mono ?_
          rintro e9 w4 ⟨rfl, ha⟩
          obtain ⟨E', h91, h92, h93⟩ := HE.out x w4 k2 ⟨x0, x1⟩ HX.out ha
          go_wp2_with fail
          go_roundg (mAll E')
          all_goals first | (have := HMl.out; omega) | exact ⟨E', h91, Nat.le_refl _, by have := HMl.out; omega, h93⟩
end Go.Proofs.YtpbolcjcmkmalaaGreatDoor
namespace Go.Proofs.YtpbolcjcmkmalaaGreatDoor
open Go.RowKit Go.Extern.Stop Go.Stop Go.Extern

/-- One cell of a node is written behind new blocks. -/
structure Wr1 (w w' : World) (b o : Nat) (u : Value) : Prop where
  mid : ∃ w1, Below w.heap.size w w1 ∧ w'.heap = (w1.setCell ⟨b, o, none⟩ u).heap ∧ w'.os = w1.os ∧ w'.tape = w1.tape ∧ w'.output = w1.output
theorem Wr1.of {w w1 : World} (hb : Below w.heap.size w w1) (b o : Nat) (u : Value) (n : Nat) : Wr1 w ((w1.setCell ⟨b, o, none⟩ u).drewN n) b o u := ⟨w1, hb, rfl, rfl, rfl, rfl⟩
set_option maxHeartbeats 2000000 in
theorem own_a {w : World} {b o : Nat} {v : Nat → Value} (hn : NodeAt w b o v) {la : Option Addr} {lc : Nat} {ls : List ByteArray} (h2 : v 2 = .slice la ls.length lc) (hl : ls.length ≤ 1000000) (hr : ∀ i s, ls[i]? = some s → ∃ b o, la = some ⟨b, o, none⟩ ∧ w.cell? ⟨b, o + i, none⟩ = some (.string s)) (ha : la = none → ls = [] ∧ lc = 0) :
    Calls Tryz.prog 63 #[.pointer (some ⟨b, o, none⟩)] w fun e w' => e = .returned (.tuple #[]) ∧ ∃ w1 u, Below w.heap.size w w1 ∧ w1.ownsRow w.heap.size 9 1 u ls.length (ls.map Value.string) ∧ w' = w1.setCell ⟨b, o + 2, none⟩ u := by
  have c2 := hn.cell (c := 2) (by omega)
  rw [h2] at c2
  have HC := hidLL (cloneS_any la lc ls w (by omega) hr ha)
  have HN := hidLL hn
  clear hr ha hn h2
  generalize hnn : ls.length = n at *
  go_enter Tryz.func63, Tryz.ntmps63
  go_wp2_with fail
  refine HC.out.mono ?_
  rintro e w1 ⟨⟨u, rfl, hu⟩, hb⟩
  obtain ⟨ua, uc, rfl⟩ := row_any hu
  have d2 := (hb.cell (p := ⟨b, o + 2, none⟩) (cell_lt c2)).trans c2
  have df : w1.frozen? ⟨b, o + 2, none⟩ = false := by
    rw [World.frozen?_of_block (a := ⟨b, o + 2, none⟩) (hb.block b HN.out.lt)]
    exact HN.out.frozen _
  have HB := hidLL (And.intro hb hu)
  clear hb hu
  go_wp2
  refine bodyPost_end (results_none rfl _ _ _) rfl ⟨rfl, w1, _, HB.out.1, HB.out.2, rfl⟩
/-- What the first nodes of a list weigh by themselves. -/
def ownW : List It → Nat
  | [] => 0
  | t :: r => 1 + t.lines.length + ownW r
theorem ownW_snoc : ∀ (l : List It) (k : It), ownW (l ++ [k]) = ownW l + (1 + k.lines.length)
  | [], k => by rw [List.nil_append, ownW, ownW, ownW]; omega
  | a :: r, k => by rw [List.cons_append, ownW, ownW, ownW_snoc r k]; omega
theorem ownW_take {l : List It} {i : Nat} {k : It} (h : l[i]? = some k) : ownW (l.take (i + 1)) = ownW (l.take i) + (1 + k.lines.length) := by
  obtain ⟨hi, e⟩ := List.getElem?_eq_some_iff.1 h
  rw [List.take_succ_eq_append_getElem hi, e, ownW_snoc]
theorem ownW_le : ∀ (l : List It) (i : Nat), ownW (l.take i) ≤ ownW l
  | [], i => by simp
  | a :: r, 0 => by rw [List.take_zero, ownW]; omega
  | a :: r, i + 1 => by rw [List.take_succ_cons, ownW, ownW]; have := ownW_le r i; omega
set_option maxHeartbeats 4000000 in
set_option maxRecDepth 20000 in
theorem fit_a {w : World} {ka : Option Addr} {kc : Nat} {ks : List It} {most : Nat} (hk : ∀ i k, ks[i]? = some k → ∃ b o la lc, ka = some ⟨b, o, none⟩ ∧ w.cell? ⟨b, o + i * 4 + 2, none⟩ = some (.slice la k.lines.length lc) ∧ k.lines.length ≤ 1000000) (hn : ks.length ≤ 100000) (hm : ownW ks ≤ most) (hm2 : most ≤ 100000000) :
    Calls Tryz.prog 106 #[.agg shpV, .slice ka ks.length kc, .int .i64 most] w fun e w' => e = .returned (.tuple #[.slice ka ks.length kc, .int .i64 ((most - ownW ks : Nat) : Int)]) ∧ Below w.heap.size w w' := by
  obtain ⟨W, hW⟩ : ∃ W, W = w.alloc (.cells shpV 75) := ⟨_, rfl⟩
  have hb0 : Below w.heap.size w W := by rw [hW]; exact (Below.refl _ _).alloc (Nat.le_refl _) _
  have hbx : W.heap[w.heap.size]? = some (.cells shpV 75 (0, 0)) := by rw [hW]; exact heap_alloc_new _ _
  obtain ⟨x0, x1, x2, x3, x4⟩ := five hbx
  have HX := hidLL hW
  have HB := hidLL hb0
  have HK := hidLL hk
  have HM := hidLL (And.intro hm (ownW_le ks))
  obtain ⟨n, hnn⟩ : ∃ n, n = ks.length := ⟨_, rfl⟩
  have HN := hidLL hnn
  rw [← hnn] at hn ⊢
  clear hW hb0 hbx hk hnn hm
  go_enter Tryz.func106, Tryz.ntmps106
  go_upto_region 1 with fail
  rw [← HX.out]
  go_wp2_with fail
  go_loopw [2, 12] (fun mo i wr => ∃ j : Nat, j ≤ n ∧ i = .int .i64 j ∧ mo = .int .i64 ((most - ownW (ks.take j) : Nat) : Int) ∧ ∃ k, wr = W.drewN k) (fun _ i _ => n - (RowKit.intOf i).toNat)
  case atStart => exact ⟨0, by omega, rfl, by rw [List.take_zero, ownW, Nat.sub_zero], 0, rfl⟩
  case round =>
    obtain ⟨j, hj, rfl, rfl, k0, hwr⟩ := hrel
    have y2 : wr.cell? ⟨w.heap.size, 2, none⟩ = some (.func (.func 65) #[] #[]) := by rw [hwr]; exact x2
    have HWr := hidLL hwr
    clear hwr x0 x1 x2 x3 x4
    by_cases hjn : j < n
    · obtain ⟨k, hk⟩ : ∃ k, ks[j]? = some k := ⟨_, List.getElem?_eq_getElem (by have := HN.out; omega)⟩
      obtain ⟨b, o, la, lc, rfl, hc, hl⟩ := HK.out j k hk
      have hjz : (j : Int) < n := by omega
      have hc' : wr.cell? ⟨b, o + j * 4 + 2, none⟩ = some (.slice la k.lines.length lc) := by rw [HWr.out]; exact (HB.out.cell (p := ⟨b, o + j * 4 + 2, none⟩) (cell_lt hc)).trans hc
      have HWt := hidLL (And.intro hc' hl)
      have ht := ownW_take hk
      have hle := HM.out.2 (j + 1)
      have hmm := HM.out.1
      have HT := hidLL ht
      rw [ht] at hle
      obtain ⟨a, haa⟩ : ∃ a, a = most - ownW (ks.take j) := ⟨_, rfl⟩
      have hA : 1 + k.lines.length ≤ a := by omega
      have hA2 : a ≤ 100000000 := by omega
      have hNx : Hid (most - ownW (ks.take (j + 1)) = a - (1 + k.lines.length)) := by show _ = _; rw [ht, haa]; omega
      rw [← haa]
      clear ht hle hmm haa hc hc' hk
      generalize k.lines.length = ln at *
      have hgt : ¬ (a : Int) < 1 + (ln : Int) := by omega
      have hwr : IntKind.i64.wrap ((a : Int) - (1 + (ln : Int))) = (a : Int) - (1 + (ln : Int)) := by rw [IntKind.wrap_i64]; omega
      go_wp2_with fail
      go_region_held3 (fun V => V.cell? ⟨w.heap.size, 2, none⟩ = some (.func (.func 65) #[] #[])) (first | exact y2 | go_keep) ((go_simp; go_at_call 65; refine (weight_a (w := wr.drew) HWt.out.1 HWt.out.2).mono ?_; rintro e w1 ⟨rfl, ew⟩; subst w1))
      all_goals go_wp2_with fail
      all_goals go_roundw
      case rel => exact ⟨j + 1, by omega, by go_num, by rw [hNx.out]; congr 1; omega, k0 + 1, by rw [HWr.out]; rfl⟩
      case measure => simp [RowKit.intOf]; omega
    · obtain rfl : j = n := by omega
      go_wp2
      go_ret2
      refine ⟨?_, ?_⟩
      · rw [HN.out, List.take_length]; rfl
      · rw [HWr.out]; exact bdrewN HB.out _
end Go.Proofs.YtpbolcjcmkmalaaGreatDoor
namespace Go.Proofs.YtpbolcjcmkmalaaGreatDoor
open Go.RowKit Go.Extern.Stop Go.Stop Go.Extern

abbrev ptT : Nat := 51
def ptV (p : Nat × Nat) : Value := .pointer (some ⟨p.1, p.2, none⟩)
structure QRow (w : World) (B : Nat) (v : Value) (ps : List (Nat × Nat)) : Prop where
  is : ∃ a cap, v = .slice a ps.length cap ∧ ps.length ≤ cap ∧ (cap = 0 ∨ ∃ g off cur, a = some ⟨g, off, none⟩ ∧ B ≤ g ∧ w.heap[g]? = some (.cells cur ptT (0, 0)) ∧ off + cap ≤ cur.size ∧ ∀ i p, ps[i]? = some p → cur[off + i]? = some (ptV p))
/-- All stays but rows of places; new blocks. -/
structure QFr (B : Nat) (w w' : World) : Prop where
  os : w'.os = w.os
  tape : w'.tape = w.tape
  output : w'.output = w.output
  size : w.heap.size ≤ w'.heap.size
  block : ∀ k, k < w.heap.size → (B ≤ k → ∀ cur, w.heap[k]? ≠ some (Obj.cells cur ptT (0, 0))) → w'.heap[k]? = w.heap[k]?
theorem QRow.on {w w' : World} {B : Nat} {v : Value} {ps : List (Nat × Nat)} (h : QRow w B v ps) (hk : ∀ (k : Nat) (cur : Array Value), w.heap[k]? = some (Obj.cells cur ptT (0, 0)) → w'.heap[k]? = w.heap[k]?) : QRow w' B v ps := by
  obtain ⟨a, cap, e, hc, h⟩ := h.is
  refine ⟨a, cap, e, hc, h.imp (fun h => h) fun ⟨g, off, cur, e1, hB, hg, h1, h2⟩ => ⟨g, off, cur, e1, hB, (hk g cur hg).trans hg, h1, h2⟩⟩
theorem QRow.new (w : World) (p : Nat × Nat) (B : Nat) (hB : B ≤ w.heap.size) : QRow (w.alloc (.cells #[ptV p] ptT)) B (.slice (some ⟨w.heap.size, 0, none⟩) 1 1) [p] :=
  ⟨_, 1, rfl, Nat.le_refl _, .inr ⟨w.heap.size, 0, #[ptV p], rfl, hB, heap_alloc_new _ _, Nat.le_refl _, fun i q hi => by
    match i, hi with
    | 0, hi => injection hi with hi; subst hi; rfl
    | i + 1, hi => cases hi⟩⟩
/-- The first one. -/
theorem QRow.head {w : World} {B : Nat} {v : Value} {p : Nat × Nat} {r : List (Nat × Nat)} (h : QRow w B v (p :: r)) : ∃ g off cap, v = .slice (some ⟨g, off, none⟩) (r.length + 1) cap ∧ w.cell? ⟨g, off, none⟩ = some (ptV p) ∧ r.length + 1 ≤ cap ∧ QRow w B (.slice (if cap = 1 then some ⟨g, off, none⟩ else some ⟨g, off + 1, none⟩) r.length (cap - 1)) r := by
  obtain ⟨a, cap, e, hc, h⟩ := h.is
  rw [List.length_cons] at hc e
  rcases h with h | ⟨g, off, cur, e1, hB, hg, h1, h2⟩
  · omega
  · subst e1
    refine ⟨g, off, cap, e, ?_, hc, ⟨_, cap - 1, rfl, by omega, ?_⟩⟩
    · unfold World.cell?
      rw [hg]
      exact h2 0 p rfl
    · by_cases hc1 : cap = 1
      · exact .inl (by omega)
      · rw [if_neg hc1]
        refine .inr ⟨g, off + 1, cur, rfl, hB, hg, by omega, fun i q hi => ?_⟩
        have := h2 (i + 1) q (by simpa using hi)
        rwa [show off + 1 + i = off + (i + 1) by omega]
theorem infoPt : ∃ i z, Tryz.prog.info? ptT = some i ∧ i.zero = some z ∧ i.size = 1 ∧ i.bytes = 8 ∧ z.cells.size = 1 := by
  have h : (Tryz.prog.info? ptT).map (fun i => (i.zero.map (fun z => z.cells.size), i.size, i.bytes)) = some (some 1, 1, 8) := by kernel_rfl
  cases hi : Tryz.prog.info? ptT with
  | none => rw [hi] at h; cases h
  | some i =>
    rw [hi] at h
    simp only [Option.map_some, Option.some.injEq, Prod.mk.injEq] at h
    cases hz : i.zero with
    | none => rw [hz] at h; simp at h
    | some z =>
      rw [hz] at h
      simp only [Option.map_some, Option.some.injEq] at h
      exact ⟨i, z, rfl, hz, h.2.1, h.2.2, h.1⟩
/-- One more at the end. -/
theorem QRow.push {W : World} {B : Nat} {v : Value} {ps : List (Nat × Nat)} {p : Nat × Nat} (h : QRow W B v ps) (hB : B ≤ W.heap.size) (hl : ps.length + 1 ≤ 1000000) (ty : TypeId) :
    ∃ v' w', (Builtin.append_ #[166, 166] ty #[v, .slice (some ⟨W.heap.size, 0, none⟩) 1 1]).run Tryz.prog (W.alloc (.cells #[ptV p] ptT)) = .ok v' w' ∧ QRow w' B v' (ps ++ [p]) ∧ QFr B W w' := by
  obtain ⟨a, cap, rfl, hc, hq⟩ := h.is
  obtain ⟨i, z, hi, hz, h1, h8, hzs⟩ := infoPt
  have hu : Tryz.prog.underlying 166 = some (.slice ptT) := Tryz.underlying166
  obtain ⟨W1, hW1⟩ : ∃ W1, W1 = W.alloc (.cells #[ptV p] ptT) := ⟨_, rfl⟩
  have hb1 : ∀ k, k < W.heap.size → W1.heap[k]? = W.heap[k]? := fun k hk => by rw [hW1]; exact Below.heap_alloc _ _ _ hk
  have hs1 : W1.heap.size = W.heap.size + 1 := by rw [hW1]; simp
  have hsrc : Src Tryz.prog i.size 166 (.slice (some ⟨W.heap.size, 0, none⟩) 1 1) 1 [ptV p] W1 := Src.ofSlice W1 hu _ 1 1 _ (by rw [h1]; rfl) (fun j u hj => by
    match j, hj with
    | 0, hj =>
      obtain rfl : ptV p = u := Option.some.inj hj
      rw [hW1]
      show (W.alloc _).cell? ⟨W.heap.size, 0, none⟩ = _
      rw [World.cell?_alloc_at _ _ _ _ rfl]
      rfl
    | j + 1, hj => cases hj) (fun u hu => by obtain rfl : u = ptV p := (by simpa using hu); rfl)
  rw [← hW1]
  by_cases hroom : ps.length + 1 ≤ cap
  · rcases hq with hq | ⟨g, off, cur, rfl, hBg, hg, h2, h3⟩
    · omega
    · have hgl := (Array.getElem?_eq_some_iff.1 hg).1
      have hg1 := (hb1 g hgl).trans hg
      have hrun := run_append_room_src (P := Tryz.prog) W1 166 166 ty ptT i hu hi g off ps.length cap _ 1 _ hsrc hroom (fun j hj => by
        have hj : j = 0 := by simpa using hj
        subst hj
        unfold World.cell?
        rw [hg1, h1]
        show (cur[off + ps.length * 1 + 0]?).isSome = true
        rw [Array.getElem?_eq_getElem (by omega)]
        rfl) (fun j hj => by unfold World.frozen?; rw [hg1]; simp)
      refine ⟨_, _, hrun, ?_, ?_⟩
      · have hnew : (W1.setCells g (off + ps.length * i.size) [ptV p]).heap[g]? = some (.cells (cur.setIfInBounds (off + ps.length) (ptV p)) ptT (0, 0)) := by
          rw [h1, Nat.mul_one]
          exact setCell_row (ptV p) hg1
        refine ⟨_, cap, by rw [List.length_append]; rfl, by rw [List.length_append]; exact hroom, .inr ⟨g, off, _, rfl, hBg, hnew, by simpa using h2, fun j q hj => ?_⟩⟩
        rw [Array.getElem?_setIfInBounds]
        by_cases hjn : j < ps.length
        · rw [if_neg (by omega)]
          rw [List.getElem?_append_left hjn] at hj
          exact h3 j q hj
        · rw [List.getElem?_append_right (by omega)] at hj
          have hj0 : j - ps.length = 0 := by
            rcases Nat.eq_zero_or_pos (j - ps.length) with h | h
            · exact h
            · rw [List.getElem?_eq_none (by simp only [List.length_singleton]; omega)] at hj; cases hj
          rw [hj0] at hj
          have hj : p = q := Option.some.inj hj
          rw [if_pos (by omega), if_pos (by omega), hj]
      · refine ⟨by rw [h1, Nat.mul_one, hW1]; rfl, by rw [h1, Nat.mul_one, hW1]; rfl, by rw [h1, Nat.mul_one, hW1]; rfl, by rw [h1, Nat.mul_one]; show W.heap.size ≤ (W1.setCell ⟨g, off + ps.length, none⟩ (ptV p)).heap.size; simp; omega, fun k hk hne => ?_⟩
        have hkg : k ≠ g := fun e => hne (e ▸ hBg) cur (e ▸ hg)
        rw [h1, Nat.mul_one]
        show (W1.setCell ⟨g, off + ps.length, none⟩ (ptV p)).heap[k]? = _
        rw [Below.heap_setCell _ _ _ _ hkg, hb1 k hk]
  · have hcap : cap = ps.length := by omega
    have hold : (Builtin.firstCells i.size ps.length (.slice a ps.length cap)).run Tryz.prog W1.drew = .ok (ps.map ptV).toArray W1.drew := by
      rcases hq with hq | ⟨g, off, cur, rfl, hBg, hg, h2, h3⟩
      · have hp0 : ps = [] := List.eq_nil_of_length_eq_zero (by omega)
        subst hp0
        cases a with
        | none => exact run_firstCells_none _ _ _ _ _
        | some ad => exact run_firstCells_some _ i.size 0 ad 0 cap [] (by simp) (fun j u hj => by cases hj)
      · have hgl := (Array.getElem?_eq_some_iff.1 hg).1
        refine run_firstCells_some _ i.size ps.length _ ps.length cap (ps.map ptV) (by rw [List.length_map, h1, Nat.mul_one]) (fun j u hj => ?_)
        rw [List.getElem?_map] at hj
        obtain ⟨q, hq, rfl⟩ := Option.map_eq_some_iff.1 hj
        rw [addr_plus]
        show W1.cell? ⟨g, off + j, none⟩ = _
        unfold World.cell?
        rw [hb1 g hgl, hg]
        exact h3 j q hq
    have hrun := run_append_grow_src (P := Tryz.prog) W1 166 166 ty ptT i z hu hi hz a ps.length cap (ps.map ptV) hold _ 1 _ hsrc (by omega) (by omega) (growslice_fits (by omega) (by rw [h8]; omega))
    have hge := grownCap_ge W1 (ps.length + 1) cap ptT
    refine ⟨_, _, hrun, ?_, ?_⟩
    · refine ⟨_, _, by rw [List.length_append]; rfl, by rw [List.length_append]; exact hge, .inr ⟨W1.heap.size, 0, _, rfl, by omega, heap_alloc_new W1.drew _, ?_, fun j q hj => ?_⟩⟩
      · rw [Nat.zero_add, Array.size_append, List.size_toArray, size_zeroCells, hzs, List.length_append, List.length_map]
        show _ ≤ ps.length + 1 + _
        omega
      · have hjl := (List.getElem?_eq_some_iff.1 hj).1
        rw [List.length_append] at hjl
        rw [Nat.zero_add, Array.getElem?_append_left (by rw [List.size_toArray, List.length_append, List.length_map]; exact hjl), List.getElem?_toArray]
        rw [show [ptV p] = [p].map ptV from rfl, ← List.map_append, List.getElem?_map, hj]
        rfl
    · refine ⟨by rw [hW1]; rfl, by rw [hW1]; rfl, by rw [hW1]; rfl, by simp; omega, fun k hk _ => ?_⟩
      rw [Below.heap_alloc _ _ _ (by show k < W1.heap.size; omega)]
      exact hb1 k hk
theorem wpList_push_q {W : World} {ops : Array Oper} {rest : List Oper} {o : Oper} {a : Act} {Q : Exit → Act → World → Prop} (hgd : o.guard = none) (s x : Operand) (ho : o.op = .call { callee := .builtin .append, args := #[s, x], argTypes := #[166, 166] })
    (B : Nat) (v : Value) (ps : List (Nat × Nat)) (p : Nat × Nat) (hs : a.eval s = v) (hq : QRow W B v ps) (hx : a.eval x = .slice (some ⟨W.heap.size, 0, none⟩) 1 1) (hB : B ≤ W.heap.size) (hl : ps.length + 1 ≤ 1000000)
    (h : ∀ v' w', QRow w' B v' (ps ++ [p]) → QFr B W w' → wpList Tryz.prog ops Q rest (a.put o.dst v') w') : wpList Tryz.prog ops Q (o :: rest) a (W.alloc (.cells #[.pointer (some ⟨p.1, p.2, none⟩)] ptT)) := by
  refine wpList_plain hgd fun K hK => ?_
  obtain ⟨v', w', hr, h2, h3⟩ := hq.push (p := p) hB hl o.type
  have hr : (Builtin.append_ #[166, 166] o.type #[v, .slice (some ⟨W.heap.size, 0, none⟩) 1 1]).run Tryz.prog (W.alloc (.cells #[.pointer (some ⟨p.1, p.2, none⟩)] ptT)) = .ok v' w' := hr
  unfold Oper.wp execOp
  simp only [ho, resolve, invoke, builtin, Sem.run_bind, Sem.run_pure, Result.andThen_ok, List.map_toArray, List.map_cons, List.map_nil, hs, hx, hr]
  exact hK _ _ (h v' w' h2 h3)
end Go.Proofs.YtpbolcjcmkmalaaGreatDoor
