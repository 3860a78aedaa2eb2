/-
  Package reason: from which claims one follows: whyHolds.
-/
import Derived.Test.YtmbclnaenjcocaaGreatDoorRsCat
namespace Go.Proofs.YtmbclnaenjcocaaGreatDoor
open Go.RowKit
variable {w : World} {bL bR hi : Nat} {H : Sh} {V : Vs} {s : St}

theorem step_app_clm {W : World} {ops : Array Oper} {o : Oper} {a : Act} {K : Act → World → Prop} {Q : Exit → Act → World → Prop} {E : Prop} (hgd : o.guard = none) (s x : Operand)
    (ho : o.op = Op.call { callee := Callee.builtin Builtin.append, args := #[s, x], argTypes := #[66, 66] }) (B : Nat) (v u : Value) (l m : List Clm) (hs : a.eval s = v) (hown : CRow W B v l)
    (hx : a.eval x = u) (hm : CRd W u m) (hB : B ≤ W.heap.size) (hl : l.length + m.length ≤ 100000000)
    (hK : ∀ v' w', CRow w' B v' (l ++ m) → Below B W w' → K (a.put o.dst v') w') : if Region.wanted o (yielded ops a.tmps) = true then Oper.wp Tryz.prog o a W K Q else E := by
  have hw : Region.wanted o (yielded ops a.tmps) = true := by simp [Region.wanted, hgd]
  rw [if_pos hw]
  obtain ⟨v', w', hr, h2, h3⟩ := run_append_clm W B o.type hown hm hl hB
  unfold Oper.wp
  simp [execOp, ho, resolve, invoke, builtin, hs, hx, hr, Result.andThen]
  exact hK v' w' h2 ((Below.refl B W).grown h3 hB (fun k hk => (hown.row.lt k hk).1))
theorem crd_lit (W : World) (a b : Bool) (q : Int) : CRd (W.alloc (.cells #[.bool a, .bool b, .int .i64 q] 65)) (.slice (some ⟨W.heap.size, 0, none⟩) 1 1) [(a, b, q)] :=
  ⟨some ⟨W.heap.size, 0, none⟩, 1, rfl, (fun e => nomatch e), fun b' e j u hj => by
    injection e with e
    subst e
    exact alloc_cellC W (clmC [(a, b, q)]) 65 j u hj⟩
theorem gWay_bd (hb : ∀ i, i < H.R → (H.bd i).length ≤ 120) (hab : ∀ i, i < H.R → ∀ k, k ∈ H.ab i → k < H.R) {i : Nat} (hi : i < H.R) : (gWay H s i).length ≤ 120 := by
  unfold gWay
  split
  · split
    · rename_i k hk
      unfold allC
      rw [List.length_map]
      exact hb k (hab i hi k (List.mem_of_find?_eq_some hk))
    · simp
  · simp
theorem flat_bd_mem {f : Nat → List Clm} {m : Nat} : ∀ l : List Nat, (∀ i, i ∈ l → (f i).length ≤ m) → (l.flatMap f).length ≤ l.length * m
  | [], _ => by simp
  | x :: l, hf => by
    rw [List.flatMap_cons, List.length_append, List.length_cons, Nat.add_mul]
    have := flat_bd_mem l (fun i hi => hf i (List.mem_cons_of_mem _ hi))
    have := hf x (List.mem_cons_self ..)
    omega
theorem PRow.mem {w : World} {bR hi R : Nat} {v : Value} {l : List Nat} (h : PRow w bR hi R v l) {i : Nat} (hi : i ∈ l) : i < R := by
  obtain ⟨a, c, e, _, hx⟩ := h
  obtain ⟨j, hj⟩ := List.getElem?_of_mem hi
  exact (hx j i hj).1
theorem below_any {w W : World} (h : W.heap = w.heap) (h1 : W.os = w.os) (h2 : W.tape = w.tape) (h3 : W.output = w.output) (B : Nat) : Below B w W := ⟨h1, h2, h3, by rw [h]; exact Nat.le_refl _, fun k _ => by rw [h]⟩
set_option maxHeartbeats 4000000 in
set_option maxRecDepth 100000 in
theorem whyHolds_p (h : Net w bL bR hi H V s) {p : Nat} (hp : p < 2 * H.N) (hq1 : -1000000 ≤ litOf p) (hq2 : litOf p ≤ 1000000) : Calls Tryz.prog 67 #[.pointer (some ⟨bL, p * 6, none⟩)] w (FrR w (fHold H s p) (holdC H s p)) := by
  obtain ⟨x0, x1, x2, x3, x4, x5, xf⟩ := h.lit hp
  obtain ⟨o0, o1, o2, o3, o4, o5, of⟩ := h.lit (opp_lt hp)
  have hr := h.ru p hp
  have hr' := h.ru (opp p) (opp_lt hp)
  have HC := hidLL (ix_car h hr)
  have hr2 := hr
  obtain ⟨ra, rc, er, hrl, _⟩ := hr2
  have hr3 := hr'
  obtain ⟨qa, qc, eq, hql, _⟩ := hr3
  rw [er] at x2 HC hr
  rw [eq] at o2 hr'
  have HR := hidLL hr
  have HR' := hidLL hr'
  have HN := hidLL h
  have HBD : Hid (∀ i, i < H.R → (H.bd i).length ≤ 120) := fun i hi => (h.bd i hi).2
  have HWB : Hid (∀ i, i ∈ H.ru (opp p) → (gWay H s i).length ≤ 120) := fun i hi => gWay_bd (fun i hi => (h.bd i hi).2) (fun i hi k hk => (h.ab i hi).mem hk) (hr'.mem hi)
  have HAll : Hid (∀ W i, Below w.heap.size w W → i < H.R → Calls Tryz.prog 82 #[.pointer (some ⟨bR, i * 7, none⟩), .bool false] W fun e w' => ∃ ad n c, e = .returned (.slice ad n c) ∧ Below W.heap.size W w' ∧ CRow w' W.heap.size (.slice ad n c) (allC H i false) ∧ Below w.heap.size w w') := fun W i hb hi => by
    refine (all_p (h.grown hb) hi false).mono ?_
    rintro e w' ⟨ad, n, c, rfl, h1, h2⟩
    exact ⟨ad, n, c, rfl, h1, h2, hb.trans (h1.mono hb.size)⟩
  have HF : Hid (fHold H s p = (s.su p == 1 || (s.su (opp p) == 2 && (H.ru p).any (bCar H s) && !(H.ru (opp p)).any (bWay H s)))) := rfl
  have HHC : Hid (holdC H s p = if s.su p = 1 then [(true, true, litOf p)] else match (H.ru p).find? (bCar H s) with
    | some i => (allC H i false ++ [(true, false, -litOf p)]) ++ (H.ru (opp p)).flatMap (gWay H s)
    | none => []) := rfl
  have hLw : bL < w.heap.size := h.rowL.lt
  clear h er eq hr hr' x3 x5 xf o0 o1 o3 o5 of
  generalize fHold H s p = F at *
  generalize holdC H s p = Z at *
  generalize s.su p = k1 at *
  generalize s.su (opp p) = k2 at *
  generalize litOf p = q at *
  obtain ⟨X, hX⟩ : ∃ X, X = p * 6 := ⟨_, rfl⟩
  rw [← hX] at x0 x1 x2 x4 ⊢
  obtain ⟨Y, hY⟩ : ∃ Y, Y = opp p * 6 := ⟨_, rfl⟩
  rw [← hY] at x1 o2 o4
  clear hX hY
  obtain ⟨l, hl⟩ : ∃ l, l = H.ru (opp p) := ⟨_, rfl⟩
  rw [← hl] at o2 HR' hql HF HHC HWB
  clear hl
  by_cases h1 : k1 = 1
  · have HZ : Hid (Z = [(true, true, q)]) := by show _ = _; rw [HHC.out, if_pos h1]
    have HF1 : Hid (F = true) := by show _ = _; rw [HF.out, h1]; rfl
    subst h1
    clear HHC HF
    go_enter Tryz.func67, Tryz.ntmps67
    go_wp2
    go_ret2
    refine ⟨_, _, _, by rw [HF1.out]; rfl, (Below.refl _ _).alloc (Nat.le_refl _) _, fun _ => ?_⟩
    rw [HZ.out]
    exact ⟨World.ownsRow_lit (size := 3) w #[.bool true, .bool true, .int .i64 q] 1 (Nat.le_refl _) (by unfold maxLen; omega) rfl, by simp⟩
  · have hk1 : (k1 == 1) = false := by simpa using h1
    rcases ix_cases (bCar H s) (H.ru p) with ⟨e1, e2, e3⟩ | ⟨jc, xc, e1, e2, e3, e4, e5⟩
    · rw [e1] at HC
      have HF2 : Hid (F = false) := by show _ = _; rw [HF.out, e2]; simp [h1]
      clear e1 e2 e3
      generalize (H.ru p).length = L at *
      generalize l.length = L' at *
      go_enter Tryz.func67, Tryz.ntmps67
      go_wp2_with fail
      refine HC.out.mono ?_
      rintro e w' ⟨rfl, ew⟩
      subst w'
      go_wp2
      go_ret2
      exact ⟨none, 0, 0, by rw [HF2.out]; rfl, Below.refl _ _, fun e => by rw [HF2.out] at e; cases e⟩
    · rw [e1] at HC
      by_cases h2 : k2 = 2
      · subst h2
        have HF2 : Hid (F = !l.any (bWay H s)) := by show _ = _; rw [HF.out, e4, hk1]; simp
        have HH2 : Hid (Z = (allC H xc false ++ [(true, false, -q)]) ++ l.flatMap (gWay H s)) := by show _ = _; rw [HHC.out, if_neg h1, e5]
        obtain ⟨hxR, g, eg, _, hgh, cx⟩ := HR.out.at' e2
        subst eg
        have hjl : (jc : Int) < ((H.ru p).length : Int) := by have := (List.getElem?_eq_some_iff.1 e2).1; omega
        have hgw : g < w.heap.size := by have := HN.out.lt3; omega
        have HA0 : Hid (∀ W, Below w.heap.size w W → Calls Tryz.prog 82 #[.pointer (some ⟨bR, xc * 7, none⟩), .bool false] W fun e w' => ∃ ad n c, e = .returned (.slice ad n c) ∧ Below W.heap.size W w' ∧ CRow w' W.heap.size (.slice ad n c) (allC H xc false) ∧ w'.cell? ⟨bL, X, none⟩ = some (.int .i64 q) ∧ Below w.heap.size w w') := fun W hb => by
          refine (HAll.out W xc hb hxR).mono ?_
          rintro e w' ⟨ad, n, c, rfl, g1, g2, g3⟩
          exact ⟨ad, n, c, rfl, g1, g2, (g3.cell (p := ⟨bL, X, none⟩) hLw).trans x0, g3⟩
        have HLA : Hid ((allC H xc false).length ≤ 120) := by show _ ≤ _; unfold allC; rw [List.length_map]; exact HBD.out xc hxR
        obtain ⟨A, hA⟩ : ∃ A, A = allC H xc false := ⟨_, rfl⟩
        rw [← hA] at HA0 HLA HH2
        clear hA e1 e2 e3 e4 e5 HR HF HHC
        generalize (H.ru p).length = L at *
        generalize xc * 7 = Yc at *
        obtain ⟨L', hL'⟩ : ∃ L', L' = l.length := ⟨_, rfl⟩
        rw [← hL'] at o2 HR' hql
        have HL' := hidLL hL'
        clear hL'
        go_enter Tryz.func67, Tryz.ntmps67
        go_wp2_with fail
        refine HC.out.mono ?_
        rintro e w' ⟨rfl, ew⟩
        subst w'
        go_upto_region 6 with fail
        have hwq : IntKind.i64.wrap (-q) = -q := by rw [IntKind.wrap_i64]; omega
        go_cut [5] (fun t5 wx => ∃ ad n c, t5 = .slice ad n c ∧ Below w.heap.size w wx ∧ CRow wx w.heap.size (.slice ad n c) (A ++ [(true, false, -q)]))
        case first =>
          go_region_law
            (first
              | (go_simp
                 go_at_call 82
                 refine (HA0.out _ ?_).mono ?_
                 · first | exact ⟨rfl, rfl, rfl, Nat.le_refl _, fun _ _ => rfl⟩ | exact (Below.refl _ _).drew.alloc (Nat.le_refl _) _ | exact ((Below.refl _ _).alloc (Nat.le_refl _) _).drew
                 rintro e w5 ⟨ad5, n5, c5, rfl, hb5, hr5, xx5, hz5⟩
                 have H5 := hidLL (And.intro hb5 (And.intro hr5 hz5))
                 clear hb5 hr5 hz5)
              | (refine step_app_clm (W := w5.alloc (.cells #[.bool true, .bool false, .int .i64 (-q)] 65)) rfl (.tmp 44) (.tmp 51) rfl w.heap.size (.slice ad5 n5 c5) (.slice (some ⟨w5.heap.size, 0, none⟩) 1 1) A [(true, false, -q)] (by simp [Act.eval]) ((H5.out.2.1.below ((Below.refl _ _).alloc (Nat.le_refl _) _)).mono (by first | exact Nat.le_refl _ | simp)) (by simp [Act.eval]) (crd_lit w5 true false (-q)) (by have := H5.out.2.2.size; simp; omega) (by have := HLA.out; simp; omega) ?_
                 intro v' w8 hr8 hb8
                 have h8 : Below w.heap.size w w8 := (H5.out.2.2.alloc H5.out.2.2.size _).trans hb8
                 obtain ⟨a8, c8, ev8⟩ := hr8.any
                 obtain ⟨n8, hn8⟩ : ∃ n, n = (A ++ [(true, false, -q)]).length := ⟨_, rfl⟩
                 rw [← hn8] at ev8
                 clear hn8
                 subst ev8
                 have H8 := hidLL (And.intro hr8 h8)
                 clear hr8 hb8 h8)
              | (refine step_app_clm (W := w5) rfl (.tmp 44) (.tmp 51) rfl w.heap.size (.slice ad5 n5 c5) (.slice (some ⟨w.heap.size, 0, none⟩) 1 1) A [(true, false, -q)] (by simp [Act.eval]) (H5.out.2.1.mono (by first | exact Nat.le_refl _ | simp)) (by simp [Act.eval]) ((crd_lit w true false (-q)).below ⟨H5.out.1.os, H5.out.1.tape, H5.out.1.output, H5.out.1.size, H5.out.1.block⟩) H5.out.2.2.size (by have := HLA.out; simp; omega) ?_
                 intro v' w8 hr8 hb8
                 have h8 : Below w.heap.size w w8 := H5.out.2.2.trans hb8
                 obtain ⟨a8, c8, ev8⟩ := hr8.any
                 obtain ⟨n8, hn8⟩ : ∃ n, n = (A ++ [(true, false, -q)]).length := ⟨_, rfl⟩
                 rw [← hn8] at ev8
                 clear hn8
                 subst ev8
                 have H8 := hidLL (And.intro hr8 h8)
                 clear hr8 hb8 h8))
          all_goals
            go_wp2
            go_meet
            exact ⟨_, _, _, rfl, H8.out.2, H8.out.1⟩
        case rest =>
          obtain ⟨ad0, m0, c0, ht5, hb0, hr0⟩ := hcut
          subst ht5
          have HB0 := hidLL (And.intro hb0 hr0)
          obtain ⟨z1, z2⟩ : wc.cell? ⟨bL, X + 1, none⟩ = some (.pointer (some ⟨bL, Y, none⟩)) ∧ wc.cell? ⟨bL, Y + 2, none⟩ = some (.slice qa L' qc) := ⟨(hb0.cell (p := ⟨bL, X + 1, none⟩) hLw).trans x1, (hb0.cell (p := ⟨bL, Y + 2, none⟩) hLw).trans o2⟩
          have HCar : Hid (∀ W i, Below w.heap.size w W → i < H.R → ∃ (ba : Option Addr) (bc : Nat), W.cell? ⟨bR, i * 7 + 2, none⟩ = some (.slice ba (H.ab i).length bc) ∧ W.cell? ⟨bR, i * 7 + 6, none⟩ = some (.int .i64 (s.fa i)) ∧ PRow W bR hi H.R (.slice ba (H.ab i).length bc) (H.ab i) ∧ (H.ab i).length ≤ 100000 ∧ Calls Tryz.prog 80 #[.slice ba (H.ab i).length bc, .func (.func 83) #[] #[]] W fun e w' => e = .returned (.int .i64 (ixOf (bCar H s) (H.ab i))) ∧ w' = W) := fun W i hb hi => by
            have hN := HN.out.grown hb
            obtain ⟨y0, y1, y2, y3, y4, y5, y6, yf⟩ := hN.std hi
            have hab := hN.ab i hi
            have hab2 := hab
            obtain ⟨ba, bc, e, hlen, _⟩ := hab2
            have hc := ix_car hN hab
            rw [e] at y2 hab hc
            exact ⟨ba, bc, y2, y6, hab, hlen, hc⟩
          clear hb0 hr0 x0 x1 x2 x4 o2 o4 cx HA0 HC hwq
          go_wp2_with fail
          go_loopw [5, 61] (fun t5 t wr => ∃ (j : Nat) (ad : Option Addr) (n c : Nat), j ≤ L' ∧ t = .int .i64 j ∧ t5 = .slice ad n c ∧ Below w.heap.size w wr ∧ CRow wr w.heap.size (.slice ad n c) (A ++ [(true, false, -q)] ++ (l.take j).flatMap (gWay H s)) ∧ ∀ k x, k < j → l[k]? = some x → bWay H s x = false) (fun _ t _ => L' - (RowKit.intOf t).toNat)
          case atStart => exact ⟨0, _, _, _, by omega, rfl, rfl, HB0.out.1, by rw [List.take_zero, List.flatMap_nil, List.append_nil]; exact HB0.out.2, by intro k x hk; omega⟩
          case round =>
            obtain ⟨j, ad, n, c, hj, rfl, rfl, hbel, hrow, hall⟩ := hrel
            have HA := hidLL hall
            have HQ := hidLL (And.intro hbel hrow)
            have hsz := hbel.size
            clear hall hbel hrow
            by_cases hlt : j < L'
            · have hjz : (j : Int) < L' := by omega
              obtain ⟨i, hi2⟩ : ∃ i, l[j]? = some i := ⟨_, List.getElem?_eq_getElem (by have := HL'.out; omega)⟩
              obtain ⟨hiR, g', eg', _, hgh', cx0⟩ := HR'.out.at' hi2
              subst eg'
              have hgW : g' < w.heap.size := by have := HN.out.lt3; omega
              have cx : wr.cell? ⟨g', j, none⟩ = some (.pointer (some ⟨bR, i * 7, none⟩)) := (HQ.out.1.cell (p := ⟨g', j, none⟩) hgW).trans cx0
              obtain ⟨ba, bc, y2, y6, hab, hlen, hcar⟩ := HCar.out wr i HQ.out.1 hiR
              have HI := hidLL hi2
              have HSn : Hid ((l.take (j + 1)).flatMap (gWay H s) = (l.take j).flatMap (gWay H s) ++ gWay H s i) := flat_snoc hi2
              have HB1 : Hid (bWay H s i = (s.fa i == 0 && !(H.ab i).any (bCar H s))) := rfl
              have HB2 : Hid (gWay H s i = if s.fa i = 0 then (match (H.ab i).find? (bCar H s) with
                | some k => allC H k false
                | none => []) else [(false, false, s.fa i)]) := rfl
              have HLE : Hid (((l.take j).flatMap (gWay H s)).length ≤ 12000000) := by
                show _ ≤ _
                have h5 := flat_bd_mem (f := gWay H s) (m := 120) (l.take j) (fun i hi => HWB.out i (List.mem_of_mem_take hi))
                have h6 : (l.take j).length ≤ 100000 := by rw [List.length_take]; have := HL'.out; omega
                have h7 : (l.take j).length * 120 ≤ 100000 * 120 := Nat.mul_le_mul_right _ h6
                omega
              have HLT : Hid ((A ++ [(true, false, -q)] ++ (l.take j).flatMap (gWay H s)).length ≤ 12000200) := by
                show _ ≤ _
                rw [List.length_append, List.length_append]
                have := HLE.out
                have := HLA.out
                simp only [List.length_cons, List.length_nil]
                omega
              obtain ⟨B, hB⟩ : ∃ B, B = bWay H s i := ⟨_, rfl⟩
              rw [← hB] at HB1
              have HBB := hidLL hB
              have HM : Hid (B = false → ∀ k y, k < j + 1 → l[k]? = some y → bWay H s y = false) := fun hb k y hk hy => by
                rcases Nat.lt_or_ge k j with h | h
                · exact HA.out k y h hy
                · obtain rfl : k = j := by omega
                  rw [HI.out] at hy
                  obtain rfl := Option.some.inj hy
                  rw [← HBB.out]; exact hb
              have HT0 : Hid (B = true → F = false) := fun hb => by rw [HF2.out, any_at HI.out (by rw [← HBB.out]; exact hb)]; rfl
              have HAB := hidLL hab
              have HCAR := hidLL hcar
              obtain ⟨C, hC⟩ : ∃ C, C = A ++ [(true, false, -q)] ++ (l.take j).flatMap (gWay H s) := ⟨_, rfl⟩
              rw [← hC] at HQ HLT
              have HCC := hidLL hC
              clear hi2 cx0 hB hab hcar hC
              generalize gWay H s i = G at *
              generalize s.fa i = n0 at *
              by_cases hn : n0 = 0
              · subst hn
                rcases ix_cases (bCar H s) (H.ab i) with ⟨e1, e2, e3⟩ | ⟨ja, xa, e1, e2, e3, e4, e5⟩
                · rw [e1] at HCAR
                  have HBt : Hid (F = false) := HT0.out (by rw [HB1.out, e2]; rfl)
                  clear e1 e2 e3
                  generalize (H.ab i).length = La at *
                  generalize i * 7 = Yi at *
                  go_wp2_with fail
                  refine HCAR.out.mono ?_
                  rintro e w' ⟨rfl, ew⟩
                  subst w'
                  go_wp2
                  go_ret2
                  exact ⟨none, 0, 0, by rw [HBt.out]; rfl, HQ.out.1, fun e => by rw [HBt.out] at e; cases e⟩
                · rw [e1] at HCAR
                  have hja : (ja : Int) < ((H.ab i).length : Int) := by have := (List.getElem?_eq_some_iff.1 e2).1; omega
                  have hjz0 : ¬ (ja : Int) < 0 := by omega
                  obtain ⟨hxR2, ga, ega, _, hgha, cxa⟩ := HAB.out.at' e2
                  subst ega
                  have HBf : Hid (B = false) := by show _ = _; rw [HB1.out, e4]; rfl
                  have HG : Hid (G = allC H xa false) := by show _ = _; rw [HB2.out, if_pos rfl, e5]
                  have HAL := hidLL (HAll.out wr xa HQ.out.1 hxR2)
                  have HLX : Hid ((allC H xa false).length ≤ 120) := by show _ ≤ _; unfold allC; rw [List.length_map]; exact HBD.out xa hxR2
                  clear e1 e2 e3 e4 e5
                  generalize (H.ab i).length = La at *
                  generalize i * 7 = Yi at *
                  generalize xa * 7 = Yx at *
                  generalize allC H xa false = AX at *
                  go_wp2_with fail
                  refine HCAR.out.mono ?_
                  rintro e w' ⟨rfl, ew⟩
                  subst w'
                  go_wp2_with (first
                    | (go_at_call 82; refine HAL.out.mono ?_; rintro e w5 ⟨ad5, n5, c5, rfl, hb5, hr5, hz5⟩; have hs5 := hb5.size; have H5 := hidLL (And.intro hb5 (And.intro hr5 hz5)); clear hb5 hr5 hz5)
                    | (at_builtin; refine wpList_app_clm rfl (.tmp 87) (.tmp 95) rfl w.heap.size (.slice ad n c) (.slice ad5 n5 c5) C AX rfl (HQ.out.2.below H5.out.1) rfl H5.out.2.1.rd (by omega) (by have := HLT.out; have := HLX.out; omega) ?_; intro v' w3 hr3 hb3)
                    | go_in)
                  obtain ⟨ad', c', ev⟩ := hr3.any
                  subst ev
                  have HR3 := hidLL (And.intro hr3 hb3)
                  clear hr3 hb3
                  go_roundw
                  case rel => exact ⟨j + 1, _, _, _, by omega, by go_num, rfl, H5.out.2.2.trans HR3.out.2, by rw [HSn.out, ← List.append_assoc, HG.out, ← HCC.out]; exact HR3.out.1, HM.out HBf.out⟩
                  case measure => simp [RowKit.intOf]; omega
              · have hn2 : (n0 != 0) = true := by simpa using hn
                have HBf : Hid (B = false) := by show _ = _; rw [HB1.out]; simp [hn]
                have HG : Hid (G = [(false, false, n0)]) := by show _ = _; rw [HB2.out, if_neg hn]
                have HIX : Hid (∃ jx : Int, Calls Tryz.prog 80 #[.slice ba (H.ab i).length bc, .func (.func 83) #[] #[]] wr fun e w' => e = .returned (.int .i64 jx) ∧ w' = wr) := ⟨_, HCAR.out⟩
                clear HCAR
                obtain ⟨jx, hjx⟩ := HIX.out
                have HJX := hidLL hjx
                clear hjx
                generalize (H.ab i).length = La at *
                generalize i * 7 = Yi at *
                go_wp2_with fail
                refine HJX.out.mono ?_
                rintro e w' ⟨rfl, ew⟩
                subst w'
                go_wp2_with (first
                  | (at_builtin; refine wpList_push_clm rfl (.tmp 76) (.tmp 82) rfl w.heap.size (.slice ad n c) C false false n0 rfl HQ.out.2 (by simp [Act.eval]) hsz (by have := HLT.out; omega) ?_; intro v' w3 hr3 hb3)
                  | go_in)
                obtain ⟨ad', c', ev⟩ := hr3.any
                subst ev
                have HR3 := hidLL (And.intro hr3 hb3)
                clear hr3 hb3
                go_roundw
                case rel => exact ⟨j + 1, _, _, _, by omega, by go_num, rfl, HQ.out.1.trans HR3.out.2, by rw [HSn.out, ← List.append_assoc, HG.out, ← HCC.out]; exact HR3.out.1, HM.out HBf.out⟩
                case measure => simp [RowKit.intOf]; omega
            · obtain rfl : j = L' := by omega
              have hge : ¬ (j : Int) < j := by omega
              have HT : Hid (F = true) := by show _ = _; rw [HF2.out, none_any fun k x hk => HA.out k x (by have := (List.getElem?_eq_some_iff.1 hk).1; have := HL'.out; omega) hk]; rfl
              have HFl : Hid (A ++ [(true, false, -q)] ++ (l.take j).flatMap (gWay H s) = Z) := by show _ = _; rw [List.take_of_length_le (by rw [HL'.out]; exact Nat.le_refl _)]; exact HH2.out.symm
              go_wp2
              go_ret2
              exact ⟨_, _, _, by rw [HT.out]; rfl, HQ.out.1, fun _ => by rw [← HFl.out]; exact HQ.out.2⟩
      · have HF2 : Hid (F = false) := by show _ = _; rw [HF.out]; simp [h1, h2]
        have hk2 : (k2 != 2) = true := by simpa using h2
        have hjl : (jc : Int) < ((H.ru p).length : Int) := by have := (List.getElem?_eq_some_iff.1 e2).1; omega
        clear e1 e2 e3 e4 e5
        generalize (H.ru p).length = L at *
        generalize l.length = L' at *
        go_enter Tryz.func67, Tryz.ntmps67
        go_wp2_with fail
        refine HC.out.mono ?_
        rintro e w' ⟨rfl, ew⟩
        subst w'
        go_wp2
        go_ret2
        exact ⟨none, 0, 0, by rw [HF2.out]; rfl, Below.refl _ _, fun e => by rw [HF2.out] at e; cases e⟩
end Go.Proofs.YtmbclnaenjcocaaGreatDoor
