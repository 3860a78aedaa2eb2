/-
  FactsLater: the law's walk.
-/
import Derived.Test.YtagdenpmonedlaaDoorFKept
import Derived.Test.YtagdenpmonedlaaDoorFLatPl
namespace Go.Proofs.YtagdenpmonedlaaDoor
open Go.RowKit Go.Extern.Stop Go.Stop Go.Extern

/-- A fact more, behind the others; the row of one's own. -/
theorem wpList_push_fct {W : World} {ops : Array Oper} {rest : List Oper} {o : Oper} {a : Act} {Q : Exit → Act → World → Prop} (hgd : o.guard = none) (s x : Operand)
    (ho : o.op = .call { callee := .builtin .append, args := #[s, x], argTypes := #[22, 22] }) (B : Nat) (v : Value) (L : List Fct) (y : Fct) (hs : a.eval s = v) (hown : FAt 36 B W v L)
    (hx : a.eval x = .slice (some ⟨W.heap.size, 0, none⟩) 1 1) (hB : B ≤ W.heap.size) (hl : L.length ≤ 100000)
    (h : ∀ v' w', FAt 36 B w' v' (L ++ [y]) → Below B W w' → wpList Tryd.prog ops Q rest (a.put o.dst v') w') :
    wpList Tryd.prog ops Q (o :: rest) a (W.alloc (.cells #[.int .i64 y.who, .string y.nm, .int .i64 y.oth, .int .i64 y.val, .int .i64 y.frm, .int .i64 y.til, .int .i64 y.lrn] 36)) := by
  obtain ⟨i0, z, h1, h2, h3, h4, h5⟩ := Tryd.infoFR
  refine wpList_append_own _ hgd s x 22 ho B 36 i0 z 7 64 Tryd.underlying22 h1 h2 h3 h4 h5 (by decide) v L.length (fcells L) hs (World.ownsRow.alloc hown _) ⟨W.heap.size, 0, none⟩ 1 1 (fctC y) hx rfl (fun j u hu => alloc_cell W (fctC y) 36 j u hu) (fctOne y) (by unfold maxLen; omega) (by omega) (by simp; omega) ?_
  intro v' w' hown' hgrow _
  refine h v' w' ?_ (((Below.refl B W).alloc hB _).grown hgrow (by simp; omega) (fun k hk => (World.ownsRow.lt hown k hk).1))
  unfold FAt
  rw [List.length_append, fcells_app]
  exact hown'
theorem early_snoc (l : List Fct) (known : Int) (i : Nat) (x : Fct) (h : l[i]? = some x) : earlyL (l.take (i + 1)) known = earlyL (l.take i) known ++ (if x.lrn ≤ known then [x] else []) := by
  obtain ⟨hi, e⟩ := List.getElem?_eq_some_iff.1 h
  unfold earlyL
  rw [List.take_succ_eq_append_getElem hi, List.filter_append, e]
  congr 1
  by_cases hb : x.lrn ≤ known
  · rw [if_pos hb, List.filter_cons_of_pos (by simpa using hb)]; rfl
  · rw [if_neg hb, List.filter_cons_of_neg (by simpa using hb)]; rfl
theorem early_len (l : List Fct) (known : Int) : (earlyL l known).length ≤ l.length := List.length_filter_le ..
theorem few_early {l : List Fct} (h : ∀ x ∈ l, x.nm.size ≤ 100000) (known : Int) : ∀ x ∈ earlyL l known, x.nm.size ≤ 100000 := fun x hx => h x (List.mem_filter.1 hx).1
set_option maxHeartbeats 8000000 in
set_option maxRecDepth 100000 in
theorem later_walk {w : World} {a : Option Addr} {c : Nat} {l : List Fct} (hr : FRead w a l) (hl : l.length ≤ 9223372036854775807) (p : Nat → Addr) (Lw : Laid w p) (who : Int) (nm : ByteArray) (on known : Int) :
    Calls Tryd.prog 4 #[.slice a l.length c, .int .i64 who, .string nm, .int .i64 on, .int .i64 known] w fun e w' => e = .returned (.bool true) ∧ Below w.heap.size w w' := by
  have HFew := hidLL (few_l (c := c) hr hl)
  have HNil := hidLL (files_l (w := w) (a := none) (c := 0) (l := []) (fun i x hx => by simp at hx) (by simp) (by simp) p Lw)
  have HFil : Hid (fewB l = true → ∀ W : World, Below w.heap.size w W → Calls Tryd.prog 6 #[.slice a l.length c] W fun e w' => ∃ B b1 b2, e = .returned (.tuple #[.pointer (some ⟨b1, 0, none⟩), .pointer (some ⟨b2, 0, none⟩), .bool true]) ∧ Two W.heap.size W w' B b1 b2 (filesL l)) := fun hf W hW =>
    files_l (hr.bel hW) hl (few_short hf).1 p (Lw.below hW)
  have HRd := hidLL hr
  have HLw := hidLL Lw
  clear hr Lw
  obtain ⟨m, hm⟩ : ∃ m, m = l.length := ⟨_, rfl⟩
  have HM := hidLL hm
  rw [← hm] at hl HFew HFil ⊢
  clear hm
  by_cases hgo : fewB l = true ∧ nm.size ≤ 3000 ∧ m ≤ 400
  · obtain ⟨hfw, hlong, hm4⟩ := hgo
    have hlz : ¬ (3000 : Int) < nm.size := by omega
    have hmz : ¬ (400 : Int) < m := by omega
    have HSh := hidLL (few_short hfw).1
    have HFL := hidLL (HFil.out hfw)
    rw [hfw] at HFew
    clear hfw HFil
    have HOk := hidLL (files_ok l)
    have HEok := hidLL (files_ok (earlyL l known))
    have HVE := hidLL (val_early (l := l) (by rw [← HM.out]; exact hm4) who nm on known)
    go_enter Tryd.func4, Tryd.ntmps4
    go_wp2_with fail
    refine HFew.out.mono ?_
    rintro e w1 ⟨rfl, ew⟩
    subst w1
    go_wp2_with fail
    refine HNil.out.mono ?_
    rintro e w1 ⟨B0, b01, b02, rfl, ht⟩
    have HB1 := hidLL ht.bel
    clear ht HNil
    go_wp2_with fail
    refine (HFL.out w1 HB1.out).mono ?_
    rintro e w2 ⟨B, b1, b2, rfl, ht2⟩
    have HT2 := hidLL ht2
    have HB2 := hidLL (HB1.out.trans (ht2.bel.mono HB1.out.size))
    clear ht2 HFL HFew
    go_wp2_with fail
    go_loopw [15, 16] (fun s t wr => ∃ i : Nat, i ≤ m ∧ t = .int .i64 i ∧ FAt 36 w2.heap.size wr s (earlyL (l.take i) known) ∧ Below w2.heap.size w2 wr) (fun _ t _ => (m - RowKit.intOf t).toNat)
    case atStart => exact ⟨0, by omega, rfl, World.ownsRow_nil _ _ _ _, Below.refl _ _⟩
    case round =>
      obtain ⟨i, hi, rfl, hrow, hbel⟩ := hrel
      have HRow := hidLL hrow
      have HB := hidLL hbel
      have hsz := hbel.size
      clear hrow hbel
      by_cases hin : i < m
      · have hiz : (i : Int) < m := by omega
        obtain ⟨x, hx⟩ : ∃ x, l[i]? = some x := ⟨_, List.getElem?_eq_getElem (by have := HM.out; omega)⟩
        have HS := hidLL (early_snoc l known i x hx)
        have HLe : Hid ((earlyL (l.take i) known).length ≤ 100000) := by
          show _ ≤ _
          have := early_len (l.take i) known
          rw [List.length_take] at this
          omega
        obtain ⟨g, o, rfl, hg, x0, x1, x2, x3, x4, x5, x6⟩ := (HRd.out.bel HB2.out).cells hx
        rw [← HB.out.cell (p := ⟨g, o + i * 7, none⟩) hg] at x0
        rw [← HB.out.cell (p := ⟨g, o + i * 7 + 1, none⟩) hg] at x1
        rw [← HB.out.cell (p := ⟨g, o + i * 7 + 2, none⟩) hg] at x2
        rw [← HB.out.cell (p := ⟨g, o + i * 7 + 3, none⟩) hg] at x3
        rw [← HB.out.cell (p := ⟨g, o + i * 7 + 4, none⟩) hg] at x4
        rw [← HB.out.cell (p := ⟨g, o + i * 7 + 5, none⟩) hg] at x5
        rw [← HB.out.cell (p := ⟨g, o + i * 7 + 6, none⟩) hg] at x6
        clear hx
        obtain ⟨xw, xn, xo, xv, xf, xt, xl⟩ := x
        simp only at x0 x1 x2 x3 x4 x5 x6 HS
        by_cases hk : xl ≤ known
        · rw [if_pos hk] at HS
          go_wp2_with (first
            | (at_builtin; refine wpList_push_fct rfl _ _ rfl w2.heap.size u15 (earlyL (l.take i) known) ⟨xw, xn, xo, xv, xf, xt, xl⟩ rfl HRow.out (by simp [Act.eval]) hsz HLe.out ?_; intro v' w3 hr3 hb3)
            | go_in)
          have HR3 := hidLL (And.intro hr3 hb3)
          clear hr3 hb3
          go_roundw
          case rel => exact ⟨i + 1, by omega, by go_num, by rw [HS.out]; exact HR3.out.1, HB.out.trans HR3.out.2⟩
          case measure => simp [RowKit.intOf]; omega
        · rw [if_neg hk] at HS
          have hk2 : known < xl := by omega
          go_wp2_with fail
          go_roundw
          case rel => exact ⟨i + 1, by omega, by go_num, by rw [HS.out]; simpa using HRow.out, HB.out⟩
          case measure => simp [RowKit.intOf]; omega
      · obtain rfl : i = m := by omega
        have HTk : Hid (l.take i = l) := List.take_of_length_le (by rw [HM.out]; exact Nat.le_refl _)
        rw [HTk.out] at HRow
        have HT3 := hidLL (HT2.out.on HB.out)
        have HB3 := hidLL (HB2.out.trans (HB.out.mono HB2.out.size))
        obtain ⟨ea, ec, hev, her, _⟩ := HRow.out.slice
        have HFE := hidLL (files_l (c := ec) her (by have := early_len l known; have := HM.out; omega) (few_early HSh.out known) p (HLw.out.below HB3.out))
        rw [← hev] at HFE
        clear hev her
        go_wp2_with fail
        refine HFE.out.mono ?_
        rintro e w4 ⟨B', c1, c2, rfl, ht4⟩
        have HT4 := hidLL ht4
        have HTa := hidLL (HT3.out.on ht4.bel)
        clear ht4 HFE
        generalize filesL (earlyL l known) = E at *
        have hl5 := HOk.out.1
        have HGd := hidLL HOk.out.2
        have HOkE := hidLL HEok.out
        generalize filesL l = L at *
        obtain ⟨s1, hp⟩ := HTa.out.p
        have HV1 := hidLL (value_f hp HGd.out hl5 who nm on known)
        clear hp
        generalize hvv : valL L who nm on known = vv at *
        go_wp2_with fail
        refine HV1.out.mono ?_
        rintro e w5 ⟨rfl, hb⟩
        have HTb := hidLL (HTa.out.on hb)
        have HT5 := hidLL (HT4.out.on hb)
        clear hb HV1
        obtain ⟨s2, hp⟩ := HT5.out.p
        have HV2 := hidLL (value_f hp HOkE.out.2 HOkE.out.1 who nm on known)
        rw [HVE.out] at HV2
        clear hp HVE
        go_wp2_with fail
        refine HV2.out.mono ?_
        rintro e w6 ⟨rfl, hb⟩
        have HTc := hidLL (HTb.out.on hb)
        clear hb HV2
        obtain ⟨s3, hp⟩ := HTc.out.p
        have HU := hidLL (turns_f hp hl5 who known)
        clear hp
        go_wp2_with fail
        refine HU.out.mono ?_
        rintro e w7 ⟨tv, rfl, hti, hb⟩
        have HTd := hidLL (HTc.out.on hb)
        clear hb HU
        obtain ⟨ta, tc, htv, htr⟩ : ∃ ta tc, tv = .slice ta (turnsL L who known).length tc ∧ ∀ (j : Nat) (x : Int), (turnsL L who known)[j]? = some x → ∃ g, ta = some ⟨g, 0, none⟩ ∧ w7.cell? ⟨g, j, none⟩ = some (.int .i64 x) := by
          rcases hti with ⟨rfl, h0⟩ | ⟨g, c, rfl, _, k2⟩
          · exact ⟨none, 0, by rw [h0]; rfl, fun j x hx => by rw [h0] at hx; simp at hx⟩
          · exact ⟨some ⟨g, 0, none⟩, c, rfl, fun j x hx => ⟨g, rfl, k2 j x hx⟩⟩
        subst htv
        have HTr := hidLL htr
        clear htr hti
        have htl := turns_few hl5 who known
        obtain ⟨q, hq⟩ : ∃ q, q = (turnsL L who known).length := ⟨_, rfl⟩
        rw [← hq] at htl ⊢
        have HQ := hidLL hq
        clear hq
        go_wp2_with fail
        go_loopw [25, 26] (fun s t wr => ∃ j : Nat, j ≤ q ∧ t = .int .i64 j ∧ s = .int .i64 (lastOf ((turnsL L who known).take j) on 1) ∧ wr = w7) (fun _ t _ => (q - RowKit.intOf t).toNat)
        case atStart => exact ⟨0, by omega, rfl, rfl, rfl⟩
        case round =>
          obtain ⟨j, hj, rfl, rfl, ew⟩ := hrel
          subst wr
          by_cases hjq : j < q
          · have hjz : (j : Int) < q := by omega
            obtain ⟨x, hx⟩ : ∃ x, (turnsL L who known)[j]? = some x := ⟨_, List.getElem?_eq_getElem (by have := HQ.out; omega)⟩
            obtain ⟨g, rfl, hcx⟩ := HTr.out j x hx
            have HS := hidLL (last_step (turnsL L who known) j x hx on 1)
            have hg := cell_lt hcx
            clear hx
            by_cases hxo : x ≤ on
            · rw [if_pos hxo] at HS
              go_wp2_with fail
              go_roundw
              case rel => exact ⟨j + 1, by omega, by go_num, by rw [HS.out], trivial⟩
              case measure => simp [RowKit.intOf]; omega
            · rw [if_neg hxo] at HS
              have hxo2 : on < x := by omega
              go_wp2_with fail
              go_roundw
              case rel => exact ⟨j + 1, by omega, by go_num, by rw [HS.out], trivial⟩
              case measure => simp [RowKit.intOf]; omega
          · obtain rfl : j = q := by omega
            have HTk2 : Hid ((turnsL L who known).take j = turnsL L who known) := List.take_of_length_le (by rw [HQ.out]; exact Nat.le_refl _)
            rw [HTk2.out]
            have HBE : Hid (Below w.heap.size w w7) := HB1.out.trans (HTd.out.bel.mono HB1.out.size)
            by_cases hon : on < 1
            · go_wp2
              go_ret
              exact ⟨rfl, HBE.out⟩
            · have hon2 : 1 ≤ on := by omega
              have HVl := hidLL (val_last HGd.out who nm (known := known) hon2)
              have HOl := hidLL (others_last HGd.out who nm (known := known) hon2)
              generalize lastOf (turnsL L who known) on 1 = la at *
              obtain ⟨s4, hp⟩ := HTd.out.p
              have HV3 := hidLL (value_f hp HGd.out hl5 who nm la known)
              rw [HVl.out, hvv] at HV3
              clear hp
              go_wp2_with fail
              refine HV3.out.mono ?_
              rintro e w8 ⟨rfl, hb⟩
              have HTe := hidLL (HTd.out.on hb)
              clear hb HV3
              obtain ⟨s5, hp⟩ := HTe.out.p
              have HO1 := hidLL (others_f hp HGd.out hl5 who nm on known)
              clear hp
              go_wp2_with fail
              refine HO1.out.mono ?_
              rintro e w9 ⟨o1, rfl, hi1, hb⟩
              have HTf := hidLL (HTe.out.on hb)
              have HI1 := hidLL hi1
              clear hb HO1 hi1
              obtain ⟨s6, hp⟩ := HTf.out.p
              have HO2 := hidLL (others_f hp HGd.out hl5 who nm la known)
              rw [HOl.out] at HO2
              clear hp
              go_wp2_with fail
              refine HO2.out.mono ?_
              rintro e w10 ⟨o2, rfl, hi2, hb⟩
              have HTg := hidLL (HTf.out.on hb)
              have HSm := hidLL (same_l (HI1.out.bel hb) hi2 (others_few L who nm on known))
              clear hb HO2 hi2 HI1
              go_wp2_with fail
              refine HSm.out.mono ?_
              rintro e w11 ⟨rfl, hb⟩
              have HTh := hidLL (HTg.out.on hb)
              clear hb HSm
              go_wp2
              go_ret
              exact ⟨retB (by simp), HB1.out.trans (HTh.out.bel.mono HB1.out.size)⟩
  · have HBad : Hid (fewB l = false ∨ (3000 : Int) < nm.size ∨ (400 : Int) < m) := by
      show _ ∨ _
      cases hf : fewB l
      · exact .inl rfl
      · by_cases h1 : nm.size ≤ 3000
        · exact .inr (.inr (by have : ¬ m ≤ 400 := fun h2 => hgo ⟨hf, h1, h2⟩; omega))
        · exact .inr (.inl (by omega))
    clear HFil hgo
    generalize fewB l = F at *
    cases F
    · go_enter Tryd.func4, Tryd.ntmps4
      go_wp2_with fail
      refine HFew.out.mono ?_
      rintro e w1 ⟨rfl, ew⟩
      subst w1
      go_wp2_with fail
      refine HNil.out.mono ?_
      rintro e w1 ⟨B, b1, b2, rfl, ht⟩
      have HB := hidLL ht.bel
      clear ht
      go_wp2
      go_ret
      exact ⟨rfl, HB.out⟩
    · by_cases h1 : (3000 : Int) < nm.size
      · go_enter Tryd.func4, Tryd.ntmps4
        go_wp2_with fail
        refine HFew.out.mono ?_
        rintro e w1 ⟨rfl, ew⟩
        subst w1
        go_wp2_with fail
        refine HNil.out.mono ?_
        rintro e w1 ⟨B, b1, b2, rfl, ht⟩
        have HB := hidLL ht.bel
        clear ht
        go_wp2
        go_ret
        exact ⟨rfl, HB.out⟩
      · have h2 : (400 : Int) < m := by rcases HBad.out with h | h | h; cases h; exact absurd h h1; exact h
        go_enter Tryd.func4, Tryd.ntmps4
        go_wp2_with fail
        refine HFew.out.mono ?_
        rintro e w1 ⟨rfl, ew⟩
        subst w1
        go_wp2_with fail
        refine HNil.out.mono ?_
        rintro e w1 ⟨B, b1, b2, rfl, ht⟩
        have HB := hidLL ht.bel
        clear ht
        go_wp2
        go_ret
        exact ⟨rfl, HB.out⟩
end Go.Proofs.YtagdenpmonedlaaDoor
