/-
  The reference: the builder's Row.
-/
import Derived.Test.YtgfaeeacndpniaaGreatDoorProvEnd
import Derived.Test.YtgfaeeacndpniaaGreatDoorPlains
import Derived.Test.YtgfaeeacndpniaaGreatDoorRefSmall
import Derived.Test.YtgfaeeacndpniaaGreatDoorKidOfP
import Derived.Test.YtgfaeeacndpniaaGreatDoorLabR2
import Derived.Test.YtgfaeeacndpniaaGreatDoorLineP
import Derived.Deep.CutBlock
import Derived.Deep.DeepCutAuto
namespace Go.Proofs.YtgfaeeacndpniaaGreatDoor
open Go.RowKit Go.Extern.Stop Go.Stop Go.Extern

theorem put_any (B : Nat) (line : Bool) (text lab hd : ByteArray) : ∀ (r : List It) (a : It) (j : Nat) (own : Nat → Nat) (v : Nat → Value) (w : World) (wa : Option Addr) (wc : Nat), Path B w own j (a :: r) v → B ≤ w.heap.size → FewZ (a :: r) → (a :: r).length ≤ 1000 → WayAt w own wa (wayOf (a :: r)) → r.length ≤ wc →
    Calls Tryz.prog 64 #[.agg #[v 0, v 1, v 2, v 3], .slice wa r.length wc, .bool line, .string text, .agg #[.string lab, .string hd, .slice none 0 0, .slice none 0 0]] w fun e w' => PutOut B j w own (putZ line text lab hd (a :: r)) e w'
  | [], a, j, own, v, w, wa, wc, h, hB, hF, hz, hw, hc => by
    have := hF a (by simp)
    cases line
    · exact put_kid B text lab hd a j own v w wa wc h hB this.1
    · exact put_line B text lab hd a j own v w wa wc h hB this.2
  | b :: r, a, j, own, v, w, wa, wc, h, hB, hF, hz, hw, hc => by
    have hl : (wayOf (b :: r)).length = r.length := by rw [wayOf_len]; simp
    refine put_rec B line text lab hd a b r j own v w wa r.length wc h hB (hF a (by simp)).1 hl hw (by simpa using hc) (by simp at hz; omega) ?_
    intro own' v' w' wa' wc' h' hB' hw' hc'
    exact put_any B line text lab hd r b (j + 1) own' v' w' wa' wc' h' hB' (fun t ht => hF t (by simp at ht ⊢; exact .inr ht)) (by simp at hz ⊢; omega) hw' hc'
theorem belQ (w : World) (q : Nat) : Below w.heap.size w (w.drewN q) := ⟨rfl, rfl, rfl, Nat.le_refl _, fun _ _ => rfl⟩
/-- A line is put: the builder behind it. -/
theorem BS.line {B bb n d : Nat} {z : List It} {own own' : Nat → Nat} {v v' : Nat → Value} {wa : Option Addr} {wcp : Nat} {W w' wx : World} {a : It} {r : List It} {t : It} {tt : ByteArray} (h : BS B bb W z n own v wa wcp) (hz : z = a :: r) (hd : r.length = d) (ht : z[d]? = some t) (hp : Path B w' own' 0 (putZ true tt ⟨#[]⟩ ⟨#[]⟩ (a :: r)) v') (hk : Kept 0 W own w' own') (hl : LikeW wx (set4 w' bb 0 v')) : Bd B bb wx (z.set d (t.addLine tt)) n := by
  obtain ⟨h1, h2, h3, h4, h5⟩ := h.stored (fun k hk => hk) hp hk hl
  subst hz hd
  rw [putZ_line tt _ _ a r t ht] at h3
  refine ⟨own', v', wa, wcp, h.hB, ?_, h2, h3, ?_, ?_, h.nb, h5⟩
  · rw [List.length_set]; exact h1
  · have hl2 : (a :: r).length - 1 = r.length := by simp
    have := wayOf_set (a :: r) tt t (by rw [hl2]; exact ht)
    rw [hl2] at this
    rw [this]; exact h4
  · rw [List.length_set]; exact h.cp
theorem labelOf_lab (s : ByteArray) (hs : s.size ≤ 3000) (w : World) : Calls Tryz.prog 42 #[.string s] w fun e w' => (∃ (n : Int) (v1 v2 : ByteArray), e = .returned (.tuple #[.agg #[.int .i64 n, .string v1, .string v2], .bool (isLab s)])) ∧ Below w.heap.size w w' :=
  (labelOf_any s (by omega) w).mono fun e w' ⟨hb, h⟩ => by
    refine ⟨?_, hb⟩
    rcases h with ⟨k, l, hL, rfl⟩ | ⟨hN, n, v1, v2, rfl⟩
    · have e1 : isLab s = true := by unfold isLab; exact @decide_eq_true _ (Classical.propDecidable _) ⟨k, l, hL⟩
      exact ⟨_, _, _, by rw [e1]⟩
    · have e1 : isLab s = false := by unfold isLab; exact @decide_eq_false _ (Classical.propDecidable _) hN
      exact ⟨n, v1, v2, by rw [e1]⟩
theorem nbN_iff (x : Nat) : nbN x = true ↔ x ≠ 32 := by unfold nbN; simp
theorem oneInt (w : World) (k : Nat) : ∀ (j : Nat) (u : Value), [Value.int .i64 (k : Nat)][j]? = some u → (w.alloc (.cells #[Value.int .i64 (k : Nat)] 3)).cell? ((⟨w.heap.size, 0, none⟩ : Addr).add j) = some u := by
  intro j u hj
  match j, hj with
  | 0, hj => simp at hj; subst hj; simp [Addr.add]
/-- What Row answers and leaves. -/
def RowOut (B bb : Nat) (e : Ending) (w' : World) : Step → Prop
  | .bad c => e = .returned (.int .i64 (c : Nat))
  | .good z n => e = .returned (.int .i64 0) ∧ Bd B bb w' z n
set_option maxHeartbeats 16000000 in
set_option maxRecDepth 10000 in
theorem bRow_any (B bb n : Nat) (z : List It) (row : ByteArray) (w : World) (h : Bd B bb w z n) (hB : B ≤ w.heap.size) (hO : OkZ z n) (hBare : Bare z) (hz : 0 < z.length) (hr : row.size ≤ 3000) :
    Calls Tryz.prog 29 #[.pointer (some ⟨bb, 0, none⟩), .string row] w fun e w' => RowOut B bb e w' (takeS z n row) ∧ Below B w w' := by
  have HPr := hidLL (fun w => printed_any row (by omega) w)
  cases hp : plainB row
  · rw [hp] at HPr
    rw [takeS_1 hp]
    clear hp h hO hBare hz
    go_enter Tryz.func29, Tryz.ntmps29
    go_wp2_with fail
    refine (HPr.out _).mono ?_
    rintro e w1 ⟨rfl, ew⟩
    subst w1
    go_wp2
    go_ret
    exact ⟨rfl, Below.refl _ _⟩
  rw [hp] at HPr
  obtain ⟨own, hown, v, wa, wcp, hS⟩ : ∃ own : Nat → Nat, (∀ k, w.heap.size ≤ k → own k = 0) ∧ ∃ v wa wcp, BS B bb w z n own v wa wcp := by
    obtain ⟨own, v, wa, wcp, hS⟩ := h
    exact ⟨_, fun k hk => if_neg (by omega), v, wa, wcp, hS.norm⟩
  have HOwn := hidLL hown
  obtain ⟨zl, hzl⟩ : ∃ zl, z.length = zl + 1 := ⟨z.length - 1, by omega⟩
  have hzl1 : z.length - 1 = zl := by omega
  obtain ⟨c0, c1, c2, c3, c4, c5⟩ := hS.c
  rw [hzl1] at c4
  have hbl := hS.lt
  have hdeep := hO.deep
  have hfew := hO.few
  have HZ := hidLL hzl
  have HS := hidLL hS
  have HO := hidLL hO
  have HBr := hidLL hBare
  have HP := hidLL hp
  clear hS hp hO hBare hzl1 hown
  obtain ⟨S, hSS⟩ : ∃ S, S = takeS z n row := ⟨_, rfl⟩
  rw [← hSS]
  have HSS := hidLL hSS
  clear hSS
  go_enter Tryz.func29, Tryz.ntmps29
  go_wp2_with fail
  refine (HPr.out _).mono ?_
  rintro e w1 ⟨rfl, ew⟩
  subst w1
  obtain ⟨bk, hbk⟩ : ∃ bk, bk = runP blN row := ⟨_, rfl⟩
  obtain ⟨d, hd⟩ : ∃ d, d = bk / 2 := ⟨_, rfl⟩
  obtain ⟨body, hbody⟩ : ∃ body, body = row.extract bk row.size := ⟨_, rfl⟩
  have hble : bk ≤ row.size := by rw [hbk]; exact runP_le _ _
  have hbs : body.size ≤ 3000 := by rw [hbody, ByteArray.size_extract]; omega
  have hs3 := fun (h : bk % 2 ≠ 0 ∨ z.length ≤ d) => HSS.out.trans (takeS_3 (n := n) (row := row) HP.out (by omega) (by rw [← hbk, ← hd]; exact h))
  have hs4 := fun (h : ¬ (bk % 2 ≠ 0 ∨ z.length ≤ d)) (h3 : startsAt body 124 = true) => takeS_4 (z := z) (n := n) (row := row) HP.out (by omega) (by rw [← hbk, ← hd]; exact h) (by rw [← hbk, ← hbody]; exact h3)
  have hs5 := fun (h : ¬ (bk % 2 ≠ 0 ∨ z.length ≤ d)) (h3 : startsAt body 124 = false) => takeS_5 (z := z) (n := n) (row := row) HP.out (by omega) (by rw [← hbk, ← hd]; exact h) (by rw [← hbk, ← hbody]; exact h3)
  rw [← hbk, ← hd, ← hbody] at hs4 hs5
  have HS3 := hidLL hs3
  have HS4 := hidLL (fun h h3 => HSS.out.trans (hs4 h h3))
  have HS5 := hidLL (fun h h3 => HSS.out.trans (hs5 h h3))
  have HBk := hidLL hbk
  have HD := hidLL hd
  have HBd := hidLL hbody
  clear hs3 hs4 hs5 hbk hd hbody hzl
  go_upto_block 0 with fail
  go_cut [6] (fun t wc => t = .int .i64 bk ∧ wc = w)
  case first =>
    go_wp2_with fail
    go_loop [6] (fun t => ∃ i : Nat, i ≤ bk ∧ t = .int .i64 i) (fun t => (bk - RowKit.intOf t).toNat)
    case atStart => exact ⟨0, by omega, rfl⟩
    case round =>
      obtain ⟨i, hi, rfl⟩ := hrel
      by_cases hin : i < bk
      · obtain ⟨h1, h2⟩ := runP_at blN row i (by rw [← HBk.out]; exact hin)
        have h3 := (blN_iff _).1 h2
        have hiz : (i : Int) < row.size := by omega
        have hid : decide ((i : Int) < (row.size : Int)) = true := decide_eq_true hiz
        have hne : (((row[i].toNat : Nat) : Int) == 32) = true := by rw [h3]; rfl
        clear h2 h3
        go_wp2
        go_round
        case rel => exact ⟨i + 1, by omega, by go_num⟩
        case measure => simp [RowKit.intOf]; omega
      · obtain rfl : i = bk := by omega
        by_cases hend : i < row.size
        · have hb := runP_end blN row (by rw [← HBk.out]; exact hend)
          have hb2 : blN row[i].toNat = false := by
            have e := HBk.out
            simp only [← e] at hb
            exact hb
          have hiz : (i : Int) < row.size := by omega
          have hid : decide ((i : Int) < (row.size : Int)) = true := decide_eq_true hiz
          have hne : (((row[i].toNat : Nat) : Int) == 32) = false := by
            rw [beq_eq_false_iff_ne]
            intro e
            have : row[i].toNat = 32 := by omega
            rw [(blN_iff _).2 this] at hb2
            cases hb2
          clear hb hb2
          go_wp2
          go_meet
          exact ⟨rfl, rfl⟩
        · have hid : decide ((i : Int) < (row.size : Int)) = false := decide_eq_false (by omega)
          go_wp2
          go_meet
          exact ⟨rfl, rfl⟩
  case rest =>
    obtain ⟨rfl, ewc⟩ := hcut
    have ewc' := ewc.symm
    subst ewc'
    have hdv : (bk : Int) / 2 = (d : Int) := by have := HD.out; omega
    by_cases hodd : bk % 2 = 1
    · have hodz : ((bk : Int) % 2 == 1) = true := by rw [beq_iff_eq]; omega
      have HV := hidLL (HS3.out (.inl (by omega)))
      clear hodd
      go_wp2
      go_ret
      exact ⟨by rw [HV.out]; exact rfl, Below.refl _ _⟩
    have hodz : ((bk : Int) % 2 == 1) = false := by rw [beq_eq_false_iff_ne]; omega
    by_cases hfar : zl < d
    · have hfz : (zl : Int) < (d : Int) := by omega
      have HV := hidLL (HS3.out (.inr (by have := HZ.out; omega)))
      clear hodd
      go_wp2
      go_ret
      exact ⟨by rw [HV.out]; exact rfl, Below.refl _ _⟩
    have hdz : d < z.length := by have := HZ.out; omega
    have HAt := hidLL (at_any d HS.out hdz (by omega) (fun t ht => by have := HO.out.kid ht; omega))
    have hbe : row.extract bk row.size = body := HBd.out.symm
    have hbk1 : (bk : Int) ≤ (row.size : Int) := by omega
    have hdle : (d : Int) ≤ (zl : Int) := by omega
    have HN : Hid (¬ (bk % 2 ≠ 0 ∨ z.length ≤ d)) := by show ¬ _; omega
    clear hodd
    go_wp2_with fail
    refine HAt.out.mono ?_
    rintro e w1 ⟨⟨u, rfl, hPu⟩, hb1⟩
    obtain ⟨f0, f1, ⟨la, lc, f2⟩, ⟨ka, kc, f3⟩⟩ := hPu.forms
    rw [f0, f1, f2, f3]
    obtain ⟨t, ht⟩ : ∃ t, t = closeAll (z.drop d) := ⟨_, rfl⟩
    rw [← ht] at f0 f1 f2 f3
    simp only [← ht]
    have HT := hidLL ht
    clear ht
    obtain ⟨ln, hln⟩ : ∃ ln, ln = t.lines.length := ⟨_, rfl⟩
    obtain ⟨kn, hkn⟩ : ∃ kn, kn = t.kids.length := ⟨_, rfl⟩
    rw [← hln] at f2
    rw [← hkn] at f3
    rw [← hln, ← hkn]
    have HLk := hidLL (And.intro hln hkn)
    have HF := hidLL (And.intro f0 (And.intro f1 (And.intro f2 f3)))
    generalize t.label = tl at *
    generalize t.head = th at *
    have HPu := hidLL hPu
    clear hln hkn f0 f1 f2 f3 hPu
    go_upto_region 12 with fail
    obtain ⟨W2, hW2⟩ : ∃ W2, W2 = w1.alloc (.cells #[.string tl, .string th, .slice la ln lc, .slice ka kn kc] 26) := ⟨_, rfl⟩
    have hb2 : Below w.heap.size w W2 := by rw [hW2]; exact hb1.alloc hb1.size _
    have hbx : W2.heap[w1.heap.size]? = some (.cells #[.string tl, .string th, .slice la ln lc, .slice ka kn kc] 26 (0, 0)) := by rw [hW2]; exact heap_alloc_new _ _
    have hb9l : w.heap.size ≤ w1.heap.size := hb1.size
    have hb9g : w1.heap.size < W2.heap.size := by rw [hW2]; simp
    rw [← hW2]
    generalize w1.heap.size = b9 at *
    clear hW2 hb1 c0 c1 c2 c3 c4 c5 hbl
    have HS2 := hidLL (HS.out.below hb2)
    have HPu2 := hidLL (HPu.out.bel hb2)
    have HB2 := hidLL (hb2.mono hB)
    have HBx := hidLL hbx
    clear hbx hb2
    go_cut [59] (fun t wx => t = .bool (startsAt body 124) ∧ wx = W2)
    case first =>
      by_cases h0 : body.size = 0
      · have h0z : decide ((0 : Int) < (body.size : Int)) = false := decide_eq_false (by omega)
        have HE0 : Hid (startsAt body 124 = false) := by show _ = _; unfold startsAt; rw [dif_neg (by omega)]
        go_wp2
        go_meet
        exact ⟨by rw [HE0.out], rfl⟩
      · have h0p : 0 < body.size := by omega
        have h0q : (0 : Int) < (body.size : Int) := by omega
        have h0z : decide ((0 : Int) < (body.size : Int)) = true := decide_eq_true h0q
        have HE0 : Hid (startsAt body 124 = ((((body[0].toNat : Nat) : Int)) == 124)) := by
          show _ = _
          rw [startsAt_get h0 124, Bool.eq_iff_iff, beq_iff_eq, beq_iff_eq]
          omega
        clear h0
        go_wp2
        go_meet
        exact ⟨by rw [HE0.out], rfl⟩
    case rest =>
      obtain ⟨rfl, ewx⟩ := hcut
      have ewx' := ewx.symm
      subst ewx'
      obtain ⟨c0, c1, c2, c3, c4, c5⟩ := HS2.out.c
      rw [show z.length - 1 = zl by have := HZ.out; omega] at c4
      obtain ⟨d0, d1, d2, d3, df⟩ := four HBx.out
      cases hst : startsAt body 124
      · have HV := hidLL (HS5.out HN.out hst)
        obtain ⟨k, hk⟩ : ∃ k, k = runP nbN body := ⟨_, rfl⟩
        have hkl : k ≤ body.size := by rw [hk]; exact runP_le _ _
        obtain ⟨lab, hlab⟩ : ∃ lab, lab = body.extract 0 k := ⟨_, rfl⟩
        obtain ⟨rst, hrst⟩ : ∃ rst, rst = body.extract k body.size := ⟨_, rfl⟩
        have HV1 : Hid (S = if isLab lab = false ∨ hasKid t lab = true then .bad 7 else if 6 ≤ d ∨ 300 ≤ n then .bad 2 else if (rt rst).1 = 0 then .good (shutB d z ++ [It.mk lab (rt rst).2 [] []]) (n + 1) else .bad (rt rst).1) := by
          show _ = _
          rw [HV.out, hlab, hrst, hk, HT.out]
          rfl
        have hls : lab.size ≤ 3000 := by rw [hlab, ByteArray.size_extract]; omega
        have hrs : rst.size ≤ 3000 := by rw [hrst, ByteArray.size_extract]; omega
        have hle1 : body.extract 0 k = lab := hlab.symm
        have hle2 : body.extract k body.size = rst := hrst.symm
        have HK := hidLL hk
        have hkz : (k : Int) ≤ (body.size : Int) := by omega
        clear hst hlab hrst hk HS3 HS4 HS5 HV
        go_upto_block 2 with fail
        go_cut [12] (fun t wx => t = .int .i64 k ∧ wx = W2)
        case first =>
          clear c0 c1 c2 c3 c4 c5 d0 d1 d2 d3 df hle1 hle2
          go_wp2_with fail
          go_loop [12] (fun t => ∃ i : Nat, i ≤ k ∧ t = .int .i64 i) (fun t => (k - RowKit.intOf t).toNat)
          case atStart => exact ⟨0, by omega, rfl⟩
          case round =>
            obtain ⟨i, hi, rfl⟩ := hrel
            by_cases hin : i < k
            · obtain ⟨h1, h2⟩ := runP_at nbN body i (by rw [← HK.out]; exact hin)
              have h3 := (nbN_iff _).1 h2
              have hiz : (i : Int) < body.size := by omega
              have hid : decide ((i : Int) < (body.size : Int)) = true := decide_eq_true hiz
              have hne : (((body[i].toNat : Nat) : Int) != 32) = true := by rw [bne_iff_ne]; omega
              clear h2 h3
              go_wp2
              go_round
              case rel => exact ⟨i + 1, by omega, by go_num⟩
              case measure => simp [RowKit.intOf]; omega
            · obtain rfl : i = k := by omega
              by_cases hend : i < body.size
              · have hb := runP_end nbN body (by rw [← HK.out]; exact hend)
                have hb2 : nbN body[i].toNat = false := by
                  have e := HK.out
                  simp only [← e] at hb
                  exact hb
                have hiz : (i : Int) < body.size := by omega
                have hid : decide ((i : Int) < (body.size : Int)) = true := decide_eq_true hiz
                have hne : (((body[i].toNat : Nat) : Int) != 32) = false := by
                  cases hq : (((body[i].toNat : Nat) : Int) != 32)
                  · rfl
                  · rw [bne_iff_ne] at hq
                    rw [(nbN_iff _).2 (by omega)] at hb2
                    cases hb2
                clear hb hb2
                go_wp2
                go_meet
                exact ⟨rfl, rfl⟩
              · have hid : decide ((i : Int) < (body.size : Int)) = false := decide_eq_false (by omega)
                go_wp2
                go_meet
                exact ⟨rfl, rfl⟩
        case rest =>
          obtain ⟨rfl, ewx⟩ := hcut
          have ewx' := ewx.symm
          subst ewx'
          have HLa := hidLL (fun w => labelOf_lab lab hls w)
          cases hil : isLab lab
          · rw [hil] at HLa
            have HV2 : Hid (S = .bad 7) := HV1.out.trans (by rw [if_pos (.inl hil)])
            clear hil
            go_wp2_with fail
            go_at_call 42
            refine (HLa.out _).mono ?_
            rintro e w4 ⟨⟨ni, v1, v2, rfl⟩, hb4⟩
            have HB4 := hidLL hb4
            have hbx4 : w4.heap[b9]? = _ := (hb4.block b9 hb9g).trans HBx.out
            have hb9h : b9 < w4.heap.size := by have := hb4.size; omega
            clear c0 c1 c2 c3 c4 c5 d0 d1 d2 d3 df hb4
            obtain ⟨d0, d1, d2, d3, df⟩ := four hbx4
            have HBx4 := hidLL hbx4
            clear hbx4
            go_wp2_with fail
            go_region
            go_wp2
            go_ret
            refine ⟨by rw [HV2.out]; exact rfl, ?_⟩
            have hbb : Below B w w4 := HB2.out.trans (HB4.out.mono (by have := HB2.out.size; omega))
            first | exact hbb | exact hbb.drew
          rw [hil] at HLa
          have HV2 : Hid (S = if hasKid t lab = true then .bad 7 else if 6 ≤ d ∨ 300 ≤ n then .bad 2 else if (rt rst).1 = 0 then .good (shutB d z ++ [It.mk lab (rt rst).2 [] []]) (n + 1) else .bad (rt rst).1) := HV1.out.trans (by simp only [hil, Bool.true_eq_false, false_or])
          clear hil HV1
          go_wp2_with fail
          go_at_call 42
          refine (HLa.out _).mono ?_
          rintro e w4 ⟨⟨ni, v1, v2, rfl⟩, hb4⟩
          have HB4 := hidLL hb4
          have hbx4 : w4.heap[b9]? = _ := (hb4.block b9 hb9g).trans HBx.out
          have hb9h : b9 < w4.heap.size := by have := hb4.size; omega
          clear c0 c1 c2 c3 c4 c5 d0 d1 d2 d3 df hb4
          obtain ⟨d0, d1, d2, d3, df⟩ := four hbx4
          have HBx4 := hidLL hbx4
          clear hbx4
          have HKid : Hid (∀ W, Below w4.heap.size w4 W → Calls Tryz.prog 65 #[.agg #[.string tl, .string th, .slice la ln lc, .slice ka kn kc], .string lab] W fun e w' => (∃ q : Int, e = .returned (.int .i64 q) ∧ -1 ≤ q ∧ (0 ≤ q ↔ hasKid t lab = true)) ∧ Below W.heap.size W w') := fun W hW => by
            have hP := (HPu2.out.bel HB4.out).bel hW
            have hL := hP.lies
            rw [← HT.out] at hL
            have h := kidOf_lies hL (by have := (HO.out.shut hdz).2.1; rw [← HT.out] at this; omega) lab
            rw [HF.out.1, HF.out.2.1, HF.out.2.2.1, HF.out.2.2.2] at h
            exact h
          generalize hasKid t lab = hk at *
          go_upto_region 25 with fail
          go_cut [133] (fun y wx => y = .bool hk ∧ Below w4.heap.size w4 wx)
          case first =>
            cases hk
            · go_region_with
                (first
                  | (go_at_call 65
                     refine (HKid.out _ ?_).mono ?_
                     · first | exact (Below.refl _ _).drew | exact Below.refl _ _
                     rintro e w5 ⟨⟨qq, rfl, hq1, hq2⟩, hb5⟩
                     have hqn : qq < 0 := by
                       rcases Int.lt_or_le qq 0 with h | h
                       · exact h
                       · have := hq2.1 h
                         cases this
                     have HB5 := hidLL hb5
                     clear hq2 hb5))
              all_goals
                go_wp2
                go_meet
                exact ⟨by first | rfl | rw [decide_eq_false (show ¬ (0 : Int) ≤ qq by omega)], ⟨HB5.out.os, HB5.out.tape, HB5.out.output, HB5.out.size, HB5.out.block⟩⟩
            · go_region_with
                (first
                  | (go_at_call 65
                     refine (HKid.out _ ?_).mono ?_
                     · first | exact (Below.refl _ _).drew | exact Below.refl _ _
                     rintro e w5 ⟨⟨qq, rfl, hq1, hq2⟩, hb5⟩
                     have hqn : 0 ≤ qq := hq2.2 rfl
                     have HB5 := hidLL hb5
                     clear hq2 hb5))
              all_goals
                go_wp2
                go_meet
                exact ⟨rfl, ⟨HB5.out.os, HB5.out.tape, HB5.out.output, HB5.out.size, HB5.out.block⟩⟩
          case rest =>
            obtain ⟨rfl, hb5⟩ := hcut
            cases hk
            · have HV3 : Hid (S = if 6 ≤ d ∨ 300 ≤ n then .bad 2 else if (rt rst).1 = 0 then .good (shutB d z ++ [It.mk lab (rt rst).2 [] []]) (n + 1) else .bad (rt rst).1) := HV2.out.trans (by rw [if_neg (by decide)])
              have HBh := hidLL (fun w => behind_any rst (by omega) w)
              have HB5 := hidLL (HB4.out.trans (hb5.mono (by have := HB4.out.size; omega)))
              clear hb5 HV2 HKid d0 d1 d2 d3 df
              go_wp2_with fail
              go_at_call 31
              refine (HBh.out _).mono ?_
              rintro e w6 ⟨⟨tt, c, rfl, hBH⟩, q, ew⟩
              have hb6 : Below wc.heap.size wc w6 := by rw [ew]; exact belQ _ _
              have hb26 : Below W2.heap.size W2 w6 := HB5.out.trans (hb6.mono (by have := HB5.out.size; omega))
              have HS6 := hidLL (HS2.out.below hb26)
              have HB6 := hidLL (HB2.out.trans (hb26.mono (by have := HB2.out.size; omega)))
              have hbx6 : w6.heap[b9]? = _ := (hb26.block b9 hb9g).trans HBx.out
              have hb9k : b9 < w6.heap.size := by have := hb26.size; omega
              have HBH := hidLL hBH
              have hts := hBH.size
              clear ew hb6 hBH hb26
              obtain ⟨c0, c1, c2, c3, c4, c5⟩ := HS6.out.c
              rw [show z.length - 1 = zl by have := HZ.out; omega] at c4
              obtain ⟨d0, d1, d2, d3, df⟩ := four hbx6
              have HBx6 := hidLL hbx6
              clear hbx6
              by_cases hn3 : 300 ≤ n
              · have hnz : ((n : Int) == 300) = true := by rw [beq_iff_eq]; omega
                have HV4 : Hid (S = .bad 2) := HV3.out.trans (by rw [if_pos (.inr hn3)])
                clear hn3
                go_wp2
                go_ret
                exact ⟨by rw [HV4.out]; exact rfl, HB6.out⟩
              have hnz : ((n : Int) == 300) = false := by rw [beq_eq_false_iff_ne]; omega
              by_cases hd6 : 6 ≤ d
              · have hdz6 : ((d : Int) == 6) = true := by rw [beq_iff_eq]; have := HZ.out; omega
                have HV4 : Hid (S = .bad 2) := HV3.out.trans (by rw [if_pos (.inl hd6)])
                clear hd6 hn3
                go_wp2
                go_ret
                exact ⟨by rw [HV4.out]; exact rfl, HB6.out⟩
              have hdz6 : ((d : Int) == 6) = false := by rw [beq_eq_false_iff_ne]; omega
              have HV4 : Hid (S = if (rt rst).1 = 0 then .good (shutB d z ++ [It.mk lab (rt rst).2 [] []]) (n + 1) else .bad (rt rst).1) := HV3.out.trans (by rw [if_neg (by omega)])
              clear HV3
              by_cases h300 : 300 < tt.size
              · have h300z : (300 : Int) < (tt.size : Int) := by omega
                have HV5 : Hid (S = .bad 2) := HV4.out.trans (by have := HBH.out.long.1 h300; rw [if_neg (by omega), this])
                clear h300 hd6 hn3
                go_wp2
                go_ret
                exact ⟨by rw [HV5.out]; exact rfl, HB6.out⟩
              have h300z : (tt.size : Int) ≤ 300 := by omega
              have hrc : c = (rt rst).1 := HBH.out.code (fun e => h300 (HBH.out.long.2 e))
              by_cases hc0 : c = 0
              · have HV5 : Hid (S = .good (shutB d z ++ [It.mk lab tt [] []]) (n + 1)) := HV4.out.trans (by rw [if_pos (by omega), HBH.out.text hc0])
                subst hc0
                obtain ⟨a, r, hzr⟩ : ∃ a r, shutB d z = a :: r := by
                  cases hq : shutB d z with
                  | nil => have := shutB_len hdz; rw [hq] at this; simp at this
                  | cons a r => exact ⟨a, r, rfl⟩
                have hrl : r.length = d := by have := shutB_len hdz; rw [hzr] at this; simpa using this
                have hfz : FewZ (shutB d z) := fun t ht => ⟨by have := sumK_mem ht; have := (HO.out.shut hdz).1; omega, by have := (HO.out.shut hdz).2.2 t ht; omega⟩
                have HPut : Hid (∀ W, Below w6.heap.size w6 W → Calls Tryz.prog 64 #[.agg #[v 0, v 1, v 2, v 3], .slice wa d wcp, .bool false, .string ⟨#[]⟩, .agg #[.string lab, .string tt, .slice none 0 0, .slice none 0 0]] W fun e w' => PutOut B 0 W (shutOwn own d) (shutB d z ++ [It.mk lab tt [] []]) e w') := fun W hW => by
                  have hS := HS6.out.below hW
                  have hp := hS.pt.shut d hdz
                  rw [Nat.zero_add, hzr] at hp
                  have h := put_any B false ⟨#[]⟩ lab tt r a 0 (shutOwn own d) v W wa wcp hp (by have := HB6.out.size; have := hW.size; omega) (by rw [← hzr]; exact hfz) (by simp; omega) (by rw [← hzr, wayOf_shut z d hdz]; exact (hS.wy.take d).step fun k hk h0 => ⟨rfl, shutOwn_zero own d k h0⟩) (by have := hS.cp; have := HZ.out; omega)
                  rw [hrl, putZ_kid, ← hzr] at h
                  exact h
                have hob := HS6.out.ob
                have hbl6 := HS6.out.lt
                have hbf := fun i => HS6.out.f i
                have hcap : (zl : Int) ≤ (wcp : Int) := by have := HS6.out.cp; have := HZ.out; omega
                have hdcp : (d : Int) ≤ (wcp : Int) := by omega
                have hb90 := HOwn.out b9 hb9l
                have hbne : b9 ≠ bb := by have := HS.out.lt; omega
                obtain ⟨g0, g1, ⟨va, vc, g2⟩, ⟨vka, vkc, g3⟩⟩ := HS6.out.pt.forms
                rw [g0] at c0
                rw [g1] at c1
                rw [g2] at c2
                rw [g3] at c3
                rw [g0, g1, g2, g3] at HPut
                generalize (closeAll z).label = y0 at *
                generalize (closeAll z).head = y1 at *
                generalize (closeAll z).lines.length = y2 at *
                generalize (closeAll z).kids.length = y3 at *
                clear g0 g1 g2 g3 hzr hrl hfz h300 hrc HV4
                go_upto_region 32 with fail
                go_cut [] (fun wx => ∃ (v5 : Nat → Value) (own5 : Nat → Nat), Mid B bb b9 n w wx z (shutB d z ++ [It.mk lab tt [] []]) own5 v5 wa wcp (.cells #[.string tl, .string th, .slice la ln lc, .slice ka kn kc] 26 (0, 0)))
                case first =>
                  go_region_with
                    (first
                      | (go_at_call 64
                         refine (HPut.out _ ?_).mono ?_
                         · first | exact (Below.refl _ _).drew | exact Below.refl _ _
                         rintro e w7 ⟨v7, own7, rfl, hp7, hk7, hb7⟩
                         obtain ⟨e0, e1, ⟨ea, ec, e2⟩, ⟨eka, ekc, e3⟩⟩ := hp7.forms
                         rw [e0, e1, e2, e3]
                         have hk8 : w7.heap[bb]? = w6.heap[bb]? := hk7.blk bb hbl6 (by rw [shutOwn_zero own d bb hob]; omega)
                         have x0 := (World.cell?_of_block (a := ⟨bb, 0, none⟩) hk8).trans c0
                         have x1 := (World.cell?_of_block (a := ⟨bb, 1, none⟩) hk8).trans c1
                         have x2 := (World.cell?_of_block (a := ⟨bb, 2, none⟩) hk8).trans c2
                         have x3 := (World.cell?_of_block (a := ⟨bb, 3, none⟩) hk8).trans c3
                         have xf := fun i => (World.frozen?_of_block (a := ⟨bb, i, none⟩) hk8).trans (hbf i)
                         have HH := hidLL (And.intro hp7 (And.intro hk7 (And.intro hb7 (And.intro e0 (And.intro e1 (And.intro e2 e3))))))
                         generalize (closeAll (shutB d z ++ [It.mk lab tt [] []])).label = o0 at *
                         generalize (closeAll (shutB d z ++ [It.mk lab tt [] []])).head = o1 at *
                         generalize (closeAll (shutB d z ++ [It.mk lab tt [] []])).lines.length = o2 at *
                         generalize (closeAll (shutB d z ++ [It.mk lab tt [] []])).kids.length = o3 at *
                         clear hp7 hk7 hb7 e0 e1 e2 e3 hk8))
                  all_goals
                    go_wp2
                    go_meet
                    obtain ⟨hp7, hk7, hb7, e0, e1, e2, e3⟩ := HH.out
                    refine ⟨v7, own7, Mid.of (d := d) HS6.out hb90 hbne HBx6.out hp7 ⟨hk7.blk, hk7.own, hk7.size⟩ (HB6.out.trans ⟨hb7.os, hb7.tape, hb7.output, hb7.size, hb7.block⟩) ?_⟩
                    unfold set4
                    rw [e0, e1, e2, e3]
                    exact ⟨rfl, rfl, rfl, rfl⟩
                case rest =>
                  obtain ⟨v5, own5, hM⟩ := hcut
                  have HM := hidLL hM
                  have hbs := hM.bel.size
                  have hbbz := lt_of_block hM.st
                  have hb9z := lt_of_block hM.bx
                  obtain ⟨p4, p5, pf⟩ : wc.cell? ⟨bb, 4, none⟩ = some (.slice wa zl wcp) ∧ wc.cell? ⟨bb, 5, none⟩ = some (.int .i64 n) ∧ ∀ i, wc.frozen? ⟨bb, i, none⟩ = false := by
                    have := hM.st
                    rw [show z.length - 1 = zl by have := HZ.out; omega] at this
                    simp [World.cell?, World.frozen?, this]
                  clear c0 c1 c2 c3 c4 c5 d0 d1 d2 d3 df HPut hbf hM
                  obtain ⟨d0, d1, d2, d3, df⟩ := four HM.out.bx
                  obtain ⟨i0, iz, hi0, hi1, hi2, hi3, hi4⟩ := Tryz.infoInt
                  have HI := hidLL (And.intro hi0 (And.intro hi1 (And.intro hi2 (And.intro hi3 hi4))))
                  clear hi0 hi1 hi2 hi3 hi4
                  have hkn3 : kn ≤ 1000 := by
                    have := (HO.out.shut hdz).2.1
                    rw [← HT.out, ← HLk.out.2] at this
                    omega
                  have hnw : (n : Int) + 1 ≤ 1000 := by omega
                  have HOC : Hid (∀ u ∈ [Value.int .i64 (kn : Nat)], u.oneCell' = true) := by intro u hu; simp at hu; subst hu; rfl
                  rcases Nat.eq_zero_or_pos d with hd0 | hd0
                  · subst hd0
                    have HNW := hidLL (oneInt wc kn)
                    go_upto_region 35 with (at_builtin; go_loud (refine wpList_append_none _ rfl (.tmp 177) (.tmp 183) 65 rfl 3 i0 Tryz.underlying65 HI.out.1 (by simp [Act.eval]) wa wcp (by simp [Act.eval]) ?_))
                    go_wp2_with (at_builtin; go_loud (refine wpList_append_where _ rfl (.tmp 186) (.tmp 190) 65 rfl wc.heap.size 3 i0 iz 1 8 Tryz.underlying65 HI.out.1 HI.out.2.1 HI.out.2.2.1 HI.out.2.2.2.1 HI.out.2.2.2.2 (by decide) (.slice none 0 0) 0 [] (by simp [Act.eval]) (World.ownsRow_nil _ _ _ _) ⟨wc.heap.size, 0, none⟩ 1 1 [.int .i64 (kn : Nat)] (by simp [Act.eval]) rfl HNW.out HOC.out (by decide) (by unfold maxLen; omega) (by omega) (by simp) ?_))
                    intro v9 w9 ho9 hg9 hw9
                    obtain ⟨g, cap, hv9, hgl9, hgB9⟩ := row_form ho9 (by omega)
                    subst hv9
                    have hWA : Below wc.heap.size wc (wc.alloc (.cells #[Value.int .i64 (kn : Nat)] 3)) := (Below.refl _ _).alloc (Nat.le_refl _) _
                    have hgr := fun (i : Nat) => grown_cell (a := ⟨bb, i, none⟩) hWA hg9 hbbz (fun e => by cases e)
                    have q4 := (hgr 4).1.trans p4
                    have q5 := (hgr 5).1.trans p5
                    have qf := fun i => (hgr i).2.trans (pf i)
                    have HH := hidLL (And.intro ho9 (And.intro hg9 hWA))
                    clear ho9 hg9 hw9 hWA hgr p4 p5 pf d0 d1 d2 d3 df
                    go_wp2
                    go_ret
                    have hfin := Mid.done HM.out hdz (by rw [HLk.out.2, HT.out]) HS.out.hB (by have := HM.out.bel.size; omega) HH.out.2.2 (g := g) (cap := cap) (kn := kn) (d := 0) (by simpa using HH.out.1) HH.out.2.1 (fun k hk => by cases hk) (LikeW.refl _)
                    exact ⟨by rw [HV5.out]; exact ⟨rfl, hfin.1⟩, hfin.2⟩
                  · have hwl : (wayOf z).length = zl := by rw [wayOf_len]; have := HZ.out; omega
                    obtain ⟨x0, hx0⟩ : ∃ x0, (wayOf z)[0]? = some x0 := ⟨_, List.getElem?_eq_getElem (by omega)⟩
                    obtain ⟨wb, wo, hwa, _, _⟩ := HM.out.wy 0 x0 hx0
                    subst hwa
                    obtain ⟨ws, hws⟩ : ∃ ws, ws = ((wayOf z).take d).map (fun x : Nat => Value.int .i64 x) := ⟨_, rfl⟩
                    have HWn : Hid (ws.length = d * 1) := by show _ = _; rw [hws, List.length_map, List.length_take]; omega
                    have HN1 : Hid (∀ (j : Nat) (u : Value), ws[j]? = some u → wc.cell? ((⟨wb, wo, none⟩ : Addr).add j) = some u) := by
                      intro j u hj
                      rw [hws, List.getElem?_map] at hj
                      obtain ⟨x, hx, rfl⟩ := Option.map_eq_some_iff.1 hj
                      obtain ⟨b, o, e1, _, e3⟩ := HM.out.wy.take d j x hx
                      injection e1 with e1
                      injection e1 with e4 e5
                      subst e4 e5
                      rw [addr_add]
                      exact e3
                    have HO1 : Hid (∀ u ∈ ws, u.oneCell' = true) := by
                      intro u hu
                      rw [hws] at hu
                      obtain ⟨x, _, rfl⟩ := List.mem_map.1 hu
                      rfl
                    have HWs := hidLL hws
                    clear hws hx0 hwl
                    go_upto_region 35 with (at_builtin; go_loud (refine wpList_append_where _ rfl (.tmp 177) (.tmp 183) 65 rfl wc.heap.size 3 i0 iz 1 8 Tryz.underlying65 HI.out.1 HI.out.2.1 HI.out.2.2.1 HI.out.2.2.2.1 HI.out.2.2.2.2 (by decide) (.slice none 0 0) 0 [] (by simp [Act.eval]) (World.ownsRow_nil _ _ _ _) ⟨wb, wo, none⟩ d wcp ws (by simp [Act.eval]) HWn.out HN1.out HO1.out (by omega) (by unfold maxLen; omega) (by omega) (Nat.le_refl _) ?_))
                    intro v8 w8 ho8 hg8 hw8
                    obtain ⟨g8, cap8, hv8, hgl8, hgB8⟩ := row_form ho8 (by omega)
                    try rw [Nat.zero_add] at hv8
                    try rw [Nat.zero_add] at ho8
                    try rw [List.nil_append] at ho8
                    subst hv8
                    have hW8 : Below wc.heap.size wc w8 := (Below.refl _ _).grown hg8 (Nat.le_refl _) (fun k hk => by cases hk)
                    have hs8 := hW8.size
                    have r4 := (hW8.cell (p := ⟨bb, 4, none⟩) hbbz).trans p4
                    have r5 := (hW8.cell (p := ⟨bb, 5, none⟩) hbbz).trans p5
                    have rf := fun i => (hW8.frozen (p := ⟨bb, i, none⟩) hbbz).trans (pf i)
                    have e3 := (hW8.cell (p := ⟨b9, 3, none⟩) hb9z).trans d3
                    have HW8 := hidLL hW8
                    have HO8 := hidLL ho8
                    have hbb8 : bb < w8.heap.size := by omega
                    have hgn : some bb ≠ (Value.slice (some ⟨g8, 0, none⟩) d cap8).ownBlock := fun e => by
                      have : bb = g8 := by injection e
                      omega
                    have HNW := hidLL (oneInt w8 kn)
                    clear ho8 hg8 hw8 hW8 p4 p5 pf d0 d1 d2 d3 df
                    go_wp2_with (at_builtin; go_loud (refine wpList_append_where _ rfl (.tmp 186) (.tmp 190) 65 rfl wc.heap.size 3 i0 iz 1 8 Tryz.underlying65 HI.out.1 HI.out.2.1 HI.out.2.2.1 HI.out.2.2.2.1 HI.out.2.2.2.2 (by decide) (.slice (some ⟨g8, 0, none⟩) d cap8) d ws (by simp [Act.eval]) (HO8.out.alloc _) ⟨w8.heap.size, 0, none⟩ 1 1 [.int .i64 (kn : Nat)] (by simp [Act.eval]) rfl HNW.out HOC.out (by decide) (by unfold maxLen; omega) (by omega) (by simp; omega) ?_))
                    intro v9 w9 ho9 hg9 hw9
                    obtain ⟨g, cap, hv9, hgl9, hgB9⟩ := row_form ho9 (by omega)
                    subst hv9
                    have hWA : Below w8.heap.size w8 (w8.alloc (.cells #[Value.int .i64 (kn : Nat)] 3)) := (Below.refl _ _).alloc (Nat.le_refl _) _
                    have hgr := fun (i : Nat) => grown_cell (a := ⟨bb, i, none⟩) hWA hg9 hbb8 hgn
                    have q4 := (hgr 4).1.trans r4
                    have q5 := (hgr 5).1.trans r5
                    have qf := fun i => (hgr i).2.trans (rf i)
                    have HH := hidLL (And.intro ho9 (And.intro hg9 hWA))
                    clear ho9 hg9 hw9 hWA hgr r4 r5 rf e3
                    go_wp2
                    go_ret
                    have hfin := Mid.done HM.out hdz (by rw [HLk.out.2, HT.out]) HS.out.hB (by have := HM.out.bel.size; omega) (HW8.out.trans (HH.out.2.2.mono (by omega))) (g := g) (cap := cap) (kn := kn) (by rw [← HWs.out]; exact HH.out.1) HH.out.2.1 (fun k hk => by have e : g8 = k := (by injection hk); omega) (LikeW.refl _)
                    exact ⟨by rw [HV5.out]; exact ⟨rfl, hfin.1⟩, hfin.2⟩
              · have hcz : (0 : Int) < (c : Int) := by omega
                have HV5 : Hid (S = .bad c) := HV4.out.trans (by rw [if_neg (by omega), hrc])
                clear hc0 hrc h300 hd6 hn3
                go_wp2
                go_ret
                exact ⟨by rw [HV5.out]; exact rfl, HB6.out⟩
            · have HV3 : Hid (S = .bad 7) := HV2.out.trans (by rw [if_pos rfl])
              have HB5 := hidLL hb5
              clear hb5
              go_wp2
              go_ret
              exact ⟨by rw [HV3.out]; exact rfl, HB2.out.trans ((HB4.out.trans (HB5.out.mono (by have := HB4.out.size; omega))).mono (by have := HB2.out.size; omega))⟩
      · have HV := hidLL (HS4.out HN.out hst)
        have hb0 : 0 < body.size := by
          unfold startsAt at hst
          split at hst
          · assumption
          · cases hst
        obtain ⟨rest, hrest⟩ : ∃ rest, rest = body.extract 1 body.size := ⟨_, rfl⟩
        have hre : body.extract 1 body.size = rest := hrest.symm
        have hrs : rest.size ≤ 3000 := by rw [hrest, ByteArray.size_extract]; omega
        rw [← hrest] at HV
        have hb1z : (1 : Int) ≤ (body.size : Int) := by omega
        clear hst hrest HS3 HS4 HS5
        by_cases hdd : d ≠ zl
        · have hne : ((d : Int) != (zl : Int)) = true := by rw [bne_iff_ne]; omega
          have HV1 := hidLL (HV.out.trans (lineS_no (by have := HZ.out; omega)))
          clear hdd
          go_wp2
          go_ret
          exact ⟨by rw [HV1.out]; exact rfl, HB2.out⟩
        have hdd2 : d = zl := by omega
        have hne : ((d : Int) != (zl : Int)) = false := by rw [hdd2]; simp
        obtain ⟨t0, ht0⟩ : ∃ t0, z[d]? = some t0 := ⟨_, List.getElem?_eq_getElem hdz⟩
        have htt : t = t0 := by rw [HT.out]; exact closeAll_last z d t0 ht0 (by have := HZ.out; omega)
        have hk0 : kn = 0 := by
          have h1 := HBr.out t0 (by rw [show z.length - 1 = d by have := HZ.out; omega]; exact ht0)
          rw [HLk.out.2, htt, h1]; rfl
        rw [hk0] at d3
        have HV1 := hidLL (HV.out.trans (lineS_at (by have := HZ.out; omega) ht0))
        have HT0 := hidLL (And.intro ht0 htt)
        have HDD := hidLL hdd2
        have HBh := hidLL (fun w => behind_any rest (by omega) w)
        clear htt hdd hdd2 hk0 ht0
        go_wp2_with fail
        refine (HBh.out _).mono ?_
        rintro e w3 ⟨⟨tt, c, rfl, hBH⟩, q, ew⟩
        have hb3 : Below W2.heap.size W2 w3 := by rw [ew]; exact belQ _ _
        have HS3 := hidLL (HS2.out.below hb3)
        have HB3 := hidLL (HB2.out.trans (hb3.mono (by have := HB2.out.size; omega)))
        have hbx3 : w3.heap[b9]? = _ := (hb3.block b9 hb9g).trans HBx.out
        have HBH := hidLL hBH
        have hts := hBH.size
        clear c0 c1 c2 c3 c4 c5 d0 d1 d2 d3 df ew hb3 hBH
        obtain ⟨c0, c1, c2, c3, c4, c5⟩ := HS3.out.c
        rw [show z.length - 1 = zl by have := HZ.out; omega] at c4
        obtain ⟨d0, d1, d2, d3, df⟩ := four hbx3
        clear hbx3
        by_cases h40 : ln = 40
        · have h40z : ((ln : Int) == 40) = true := by rw [h40]; rfl
          have HV2 : Hid (S = .bad 2) := HV1.out.trans (by rw [if_pos (by rw [← HT0.out.2, ← HLk.out.1]; exact h40)])
          clear h40
          go_wp2
          go_ret
          exact ⟨by rw [HV2.out]; exact rfl, HB3.out⟩
        have h40z : ((ln : Int) == 40) = false := by rw [beq_eq_false_iff_ne]; omega
        have HV2 : Hid (S = if (rt rest).1 = 0 then .good (z.set d (t0.addLine (rt rest).2)) n else .bad (rt rest).1) := HV1.out.trans (by rw [if_neg (by rw [← HT0.out.2, ← HLk.out.1]; exact h40)])
        clear h40
        by_cases h300 : 300 < tt.size
        · have h300z : (300 : Int) < (tt.size : Int) := by omega
          have HV3 : Hid (S = .bad 2) := HV2.out.trans (by have := HBH.out.long.1 h300; rw [if_neg (by omega), this])
          clear h300
          go_wp2
          go_ret
          exact ⟨by rw [HV3.out]; exact rfl, HB3.out⟩
        have h300z : (tt.size : Int) ≤ 300 := by omega
        have hrc : c = (rt rest).1 := HBH.out.code (fun e => h300 (HBH.out.long.2 e))
        by_cases hc0 : c = 0
        · have HV3 : Hid (S = .good (z.set d (t0.addLine tt)) n) := HV2.out.trans (by rw [if_pos (by omega), HBH.out.text hc0])
          subst hc0
          obtain ⟨a, r, hzr⟩ : ∃ a r, z = a :: r := by
            cases hq : z with
            | nil => rw [hq] at hz; simp at hz
            | cons a r => exact ⟨a, r, rfl⟩
          have hrl : r.length = zl := by have := HZ.out; rw [hzr] at this; simpa using this
          have hfz : FewZ z := fun t ht => ⟨by have := HO.out.kid ht; omega, by have := HO.out.lines t ht; omega⟩
          have HPut : Hid (∀ W, Below w3.heap.size w3 W → Calls Tryz.prog 64 #[.agg #[v 0, v 1, v 2, v 3], .slice wa zl wcp, .bool true, .string tt, .agg #[.string ⟨#[]⟩, .string ⟨#[]⟩, .slice none 0 0, .slice none 0 0]] W fun e w' => PutOut B 0 W own (putZ true tt ⟨#[]⟩ ⟨#[]⟩ (a :: r)) e w') := fun W hW => by
            have hS := HS3.out.below hW
            have h := put_any B true tt ⟨#[]⟩ ⟨#[]⟩ r a 0 own v W wa wcp (by rw [← hzr]; exact hS.pt) (by have := HB3.out.size; have := hW.size; omega) (by rw [← hzr]; exact hfz) (by rw [← hzr]; omega) (by rw [← hzr]; exact hS.wy) (by have := hS.cp; have := HZ.out; omega)
            rw [hrl] at h
            exact h
          have HZR := hidLL (And.intro hzr hrl)
          have hob := HS3.out.ob
          have hbl3 := HS3.out.lt
          have hbf := fun i => HS3.out.f i
          obtain ⟨g0, g1, ⟨va, vc, g2⟩, ⟨vka, vkc, g3⟩⟩ := HS3.out.pt.forms
          rw [g0] at c0
          rw [g1] at c1
          rw [g2] at c2
          rw [g3] at c3
          rw [g0, g1, g2, g3] at HPut
          generalize (closeAll z).label = y0 at *
          generalize (closeAll z).head = y1 at *
          generalize (closeAll z).lines.length = y2 at *
          generalize (closeAll z).kids.length = y3 at *
          clear g0 g1 g2 g3 hzr hrl hfz h300 hrc HV HV1 HV2
          go_wp2_with fail
          go_region_with
            (first
              | (go_at_call 64
                 refine (HPut.out _ ?_).mono ?_
                 · first | exact (Below.refl _ _).drew | exact Below.refl _ _
                 rintro e w5 ⟨v5, own5, rfl, hp5, hk5, hb5⟩
                 obtain ⟨e0, e1, ⟨ea, ec, e2⟩, ⟨eka, ekc, e3⟩⟩ := hp5.forms
                 rw [e0, e1, e2, e3]
                 have hk6 : w5.heap[bb]? = w3.heap[bb]? := hk5.blk bb hbl3 (by omega)
                 have x0 := (World.cell?_of_block (a := ⟨bb, 0, none⟩) hk6).trans c0
                 have x1 := (World.cell?_of_block (a := ⟨bb, 1, none⟩) hk6).trans c1
                 have x2 := (World.cell?_of_block (a := ⟨bb, 2, none⟩) hk6).trans c2
                 have x3 := (World.cell?_of_block (a := ⟨bb, 3, none⟩) hk6).trans c3
                 have xf := fun i => (World.frozen?_of_block (a := ⟨bb, i, none⟩) hk6).trans (hbf i)
                 have HH := hidLL (And.intro hp5 (And.intro hk5 (And.intro hb5 (And.intro e0 (And.intro e1 (And.intro e2 e3))))))
                 generalize (closeAll (putZ true tt ⟨#[]⟩ ⟨#[]⟩ (a :: r))).label = o0 at *
                 generalize (closeAll (putZ true tt ⟨#[]⟩ ⟨#[]⟩ (a :: r))).head = o1 at *
                 generalize (closeAll (putZ true tt ⟨#[]⟩ ⟨#[]⟩ (a :: r))).lines.length = o2 at *
                 generalize (closeAll (putZ true tt ⟨#[]⟩ ⟨#[]⟩ (a :: r))).kids.length = o3 at *
                 clear hp5 hk5 hb5 e0 e1 e2 e3 hk6))
          all_goals
            go_wp2
            go_ret
            obtain ⟨hp5, hk5, hb5, e0, e1, e2, e3⟩ := HH.out
            have hB5 : B ≤ bb := HS3.out.hB
            have hb6 : Below B w w5 := HB3.out.trans ⟨hb5.os, hb5.tape, hb5.output, hb5.size, hb5.block⟩
            refine ⟨?_, (((hb6.setCell (p := ⟨bb, 0, none⟩) hB5 _).setCell (p := ⟨bb, 1, none⟩) hB5 _).setCell (p := ⟨bb, 2, none⟩) hB5 _).setCell (p := ⟨bb, 3, none⟩) hB5 _⟩
            rw [HV3.out]
            refine ⟨rfl, BS.line HS3.out HZR.out.1 (HZR.out.2.trans HDD.out.symm) HT0.out.1 hp5 ⟨hk5.blk, hk5.own, hk5.size⟩ ?_⟩
            unfold set4
            rw [e0, e1, e2, e3]
            exact ⟨rfl, rfl, rfl, rfl⟩
        · have hcz : ((c : Int) == 0) = false := by rw [beq_eq_false_iff_ne]; omega
          have HV3 : Hid (S = .bad c) := HV2.out.trans (by rw [if_neg (by omega), hrc])
          clear hc0 hrc
          go_wp2
          go_ret
          exact ⟨by rw [HV3.out]; exact rfl, HB3.out⟩
end Go.Proofs.YtgfaeeacndpniaaGreatDoor
