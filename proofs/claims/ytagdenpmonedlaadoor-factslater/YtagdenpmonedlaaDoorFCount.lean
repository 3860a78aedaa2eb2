/-
  Facts: the program's counting.
-/
import Derived.Test.YtagdenpmonedlaaDoorFMap
namespace Go.Proofs.YtagdenpmonedlaaDoor
open Go.RowKit Go.Maps

theorem toList_ne {a b : ByteArray} (h : ¬ a = b) : ¬ a.toList = b.toList := fun e => h (by
  rw [Lib.toList_data, Lib.toList_data] at e
  exact ByteArray.ext (Array.toList_inj.1 e))
theorem step_no {L : List Fct} {i : Nat} {x : Fct} (hx : L[i]? = some x) {who : Int} {nm : ByteArray} {on known : Int} (h : soB x who nm on known = false) (o : Int) :
    latestL (L.take (i + 1)) who nm o on known = latestL (L.take i) who nm o on known := by
  rw [latest_snoc L i x hx]
  unfold stepL
  rw [if_neg (by rw [h]; simp)]
theorem step_put {L : List Fct} {i : Nat} {x : Fct} (hx : L[i]? = some x) {who : Int} {nm : ByteArray} {on known : Int} (h : soB x who nm on known = true) (hp : pick (latestL (L.take i) who nm x.oth on known) x = some x) (o : Int) :
    latestL (L.take (i + 1)) who nm o on known = if o = x.oth then some x else latestL (L.take i) who nm o on known := by
  rw [latest_snoc L i x hx]
  unfold stepL
  by_cases e : o = x.oth
  · subst e; rw [if_pos ⟨h, rfl⟩, if_pos rfl, hp]
  · rw [if_neg (fun k => e k.2.symm), if_neg e]
theorem step_old {L : List Fct} {i : Nat} {x y : Fct} (hx : L[i]? = some x) {who : Int} {nm : ByteArray} {on known : Int} (hy : latestL (L.take i) who nm x.oth on known = some y) (hl : ¬ y.lrn ≤ x.lrn) (o : Int) :
    latestL (L.take (i + 1)) who nm o on known = latestL (L.take i) who nm o on known := by
  rw [latest_snoc L i x hx]
  unfold stepL
  split
  · rename_i h
    rw [← h.2, hy]
    unfold pick
    simp only
    rw [if_neg hl]
  · rfl
set_option maxHeartbeats 4000000 in
set_option maxRecDepth 100000 in
theorem counting_f {B b : Nat} {w : World} {L : List Fct} {sv : Value} (h : FFile 32 B w b L sv) (hG : ∀ x ∈ L, Good x) (hl : L.length ≤ 500) (who : Int) (nm : ByteArray) (on known : Int) :
    Calls Tryd.prog 24 #[.pointer (some ⟨b, 0, none⟩), .int .i64 who, .string nm, .int .i64 on, .int .i64 known] w fun e w' => e = .returned (.map (some w.heap.size)) ∧ (∃ D, w'.ownsMap Tryd.prog 3 RF w.heap.size 500 D ∧ MapIs D (fun o => latestL L who nm o on known)) ∧ Below w.heap.size w w' := by
  have hmm := @run_makeMap Tryd.prog
  have HAl : Hid (∀ o : Obj, Calls Tryd.prog 23 #[.pointer (some ⟨b, 0, none⟩)] (w.alloc o) fun e w' => e = .returned sv ∧ w' = w.alloc o) := fun o => all_f (h.bel ((Below.refl _ _).alloc (Nat.le_refl _) o))
  obtain ⟨a, c, rfl, hr, hc, _⟩ := h.row.slice
  have HR := hidLL hr
  have HG := hidLL hG
  clear h hr hG
  obtain ⟨n, hn⟩ : ∃ n, n = L.length := ⟨_, rfl⟩
  rw [← hn] at hl hc HAl
  have HN := hidLL hn
  clear hn
  go_enter Tryd.func24, Tryd.ntmps24
  go_wp2_with (go_at_call 23; refine (HAl.out _).mono ?_; rintro e w1 ⟨rfl, ew⟩; subst w1)
  go_loopw [20] (fun t wr => ∃ (i : Nat) (D : DataW Fct), i ≤ n ∧ t = .int .i64 i ∧ wr.ownsMap Tryd.prog 3 RF w.heap.size i D ∧ MapIs D (fun o => latestL (L.take i) who nm o on known) ∧ Below w.heap.size w wr)
    (fun t _ => (n - RowKit.intOf t).toNat)
  case atStart => exact ⟨0, .map [], Nat.zero_le _, rfl, World.ownsMap_made _ _ _ _, MapIs.start, (Below.refl _ _).alloc (Nat.le_refl _) _⟩
  case round =>
    obtain ⟨i, D, hi, rfl, hown, hmap, hbel⟩ := hrel
    have HO := hidLL hown
    have HM := hidLL hmap
    have HB := hidLL hbel
    clear hown hmap hbel
    by_cases hin : i < n
    · have hiz : (i : Int) < n := by omega
      obtain ⟨x, hx⟩ : ∃ x, L[i]? = some x := ⟨_, List.getElem?_eq_getElem (by have := HN.out; omega)⟩
      have hgx : Good x := HG.out x (List.mem_of_getElem? hx)
      obtain ⟨g, o, rfl, hg, x0, x1, x2, x3, x4, x5, x6⟩ := HR.out.cells hx
      rw [← HB.out.cell (p := ⟨g, o + i * 7, none⟩) hg] at x0
      rw [← HB.out.cell (p := ⟨g, o + i * 7 + 1, none⟩) hg] at x1
      rw [← HB.out.cell (p := ⟨g, o + i * 7 + 2, none⟩) hg] at x2
      rw [← HB.out.cell (p := ⟨g, o + i * 7 + 3, none⟩) hg] at x3
      rw [← HB.out.cell (p := ⟨g, o + i * 7 + 4, none⟩) hg] at x4
      rw [← HB.out.cell (p := ⟨g, o + i * 7 + 5, none⟩) hg] at x5
      rw [← HB.out.cell (p := ⟨g, o + i * 7 + 6, none⟩) hg] at x6
      have hgr : g < wr.heap.size := Nat.lt_of_lt_of_le hg HB.out.size
      have HSo := hidLL (isSo_f x on known)
      have HE := hidLL (soB_eq x who nm on known)
      have HX := hidLL hx
      have HK : Hid (keyOf Tryd.prog 3 (.int .i64 x.oth) = some (.int .i64 x.oth)) := by
        have := hgx.oth
        exact keyInt (by omega) (by omega)
      clear hx hgx
      cases hso : soB x who nm on known
      · have HNo := hidLL (fun o => step_no HX.out hso o)
        rw [hso] at HE
        clear hso
        generalize hS : isSoB x on known = so at *
        clear hS
        obtain ⟨xw, xn, xo, xv, xf, xt, xl⟩ := x
        simp only at x0 x1 x2 x3 x4 x5 x6 HSo HE HNo
        by_cases h1 : xw = who
        · subst h1
          by_cases h2 : xn = nm
          · subst h2
            have hs0 : so = false := by have := HE.out; simpa using this.symm
            subst hs0
            go_wp2_with (go_at_call 38; refine (HSo.out _).mono ?_; rintro e w1 ⟨rfl, ew⟩; subst w1)
            go_roundw
            case rel => exact ⟨i + 1, D, by omega, by go_num, (((HO.out.alloc _).alloc _).mono (by omega)), HM.out.congr HNo.out, (HB.out.alloc HB.out.size _).alloc (by have := HB.out.size; simp; omega) _⟩
            case measure => simp [RowKit.intOf]; omega
          · have h3 := toList_ne h2
            go_wp2_with fail
            go_roundw
            case rel => exact ⟨i + 1, D, by omega, by go_num, ((HO.out.alloc _).mono (by omega)), HM.out.congr HNo.out, HB.out.alloc HB.out.size _⟩
            case measure => simp [RowKit.intOf]; omega
        · go_wp2_with fail
          go_roundw
          case rel => exact ⟨i + 1, D, by omega, by go_num, ((HO.out.alloc _).mono (by omega)), HM.out.congr HNo.out, HB.out.alloc HB.out.size _⟩
          case measure => simp [RowKit.intOf]; omega
      · rw [hso] at HE
        have he := HE.out
        simp at he
        obtain ⟨⟨e1, e2⟩, e3⟩ := he
        subst e1
        subst e2
        rw [e3] at HSo
        have HSB := hidLL hso
        clear hso e3 HE
        cases hla : latestL (L.take i) x.who x.nm x.oth on known with
        | none =>
          have HNo := hidLL (fun o => step_put HX.out HSB.out (by rw [hla]; rfl) o)
          have HL := hidLL (HM.out.none hla (.held fct0))
          have HV := hidLL (RF_mk x)
          unfold fctA at HV
          obtain ⟨xw, xn, xo, xv, xf, xt, xl⟩ := x
          simp only at x0 x1 x2 x3 x4 x5 x6 HSo HNo HL HK HV
          clear hla
          have HB3 : Hid (∀ o1 o2 o3 : Obj, Below w.heap.size w (((wr.alloc o1).alloc o2).alloc o3) ∧ w.heap.size ≤ (((wr.alloc o1).alloc o2).alloc o3).heap.size) := fun o1 o2 o3 => by
            have h0 := HB.out.size
            exact ⟨((HB.out.alloc h0 _).alloc (by simp; omega) _).alloc (by simp; omega) _, by simp; omega⟩
          go_wp2_with (first
            | (go_at_call 38; refine (HSo.out _).mono ?_; rintro e w1 ⟨rfl, ew⟩; subst w1)
            | (at_lookup; refine wpList_lookup_fct _ rfl _ _ 55 rfl 3 32 lawInt Tryd.underlying55 fct0 (zeroFct _) w.heap.size i D rfl ((HO.out.alloc _).alloc _) _ _ rfl HK.out fct0 HL.out.2 false HL.out.1 ?_)
            | (at_mapUpdate; refine wpList_mapUpdate_own _ rfl _ _ _ 55 rfl 3 32 lawInt Tryd.underlying55 _ w.heap.size i D rfl (((HO.out.alloc _).alloc _).alloc _) (by unfold maxLen; omega) _ _ _ rfl rfl HK.out _ [] HV.out ?_; intro w1 hown1 hgrow1)
            | go_in)
          go_roundw
          case rel => exact ⟨i + 1, _, by omega, by go_num, hown1, (HM.out.put xo _).congr HNo.out, (HB3.out _ _ _).1.grown hgrow1 (HB3.out _ _ _).2 (fun j hj => by cases hj; exact Nat.le_refl _)⟩
          case measure => simp [RowKit.intOf]; omega
        | some y =>
          have hh : Maps.has D (.int .i64 x.oth) = true := by rw [HM.out.has, hla]; rfl
          have HL := hidLL (And.intro hh (HM.out.here x.oth y hla (.held fct0)))
          have HB3 : Hid (∀ o1 o2 o3 : Obj, Below w.heap.size w (((wr.alloc o1).alloc o2).alloc o3) ∧ w.heap.size ≤ (((wr.alloc o1).alloc o2).alloc o3).heap.size) := fun o1 o2 o3 => by
            have h0 := HB.out.size
            exact ⟨((HB.out.alloc h0 _).alloc (by simp; omega) _).alloc (by simp; omega) _, by simp; omega⟩
          have HV := hidLL (RF_mk x)
          unfold fctA at HV
          by_cases hyl : y.lrn ≤ x.lrn
          · have HNo := hidLL (fun o => step_put HX.out HSB.out (by rw [hla]; unfold pick; simp only; rw [if_pos hyl]) o)
            obtain ⟨xw, xn, xo, xv, xf, xt, xl⟩ := x
            obtain ⟨yw, yn, yo, yv, yf, yt, yl⟩ := y
            simp only at x0 x1 x2 x3 x4 x5 x6 HSo HNo HL HK HV hyl
            clear hla hh
            go_wp2_with (first
              | (go_at_call 38; refine (HSo.out _).mono ?_; rintro e w1 ⟨rfl, ew⟩; subst w1)
              | (at_lookup; refine wpList_lookup_fct _ rfl _ _ 55 rfl 3 32 lawInt Tryd.underlying55 fct0 (zeroFct _) w.heap.size i D rfl ((HO.out.alloc _).alloc _) _ _ rfl HK.out ⟨yw, yn, yo, yv, yf, yt, yl⟩ HL.out.2 true HL.out.1 ?_)
              | (at_mapUpdate; refine wpList_mapUpdate_own _ rfl _ _ _ 55 rfl 3 32 lawInt Tryd.underlying55 _ w.heap.size i D rfl (((HO.out.alloc _).alloc _).alloc _) (by unfold maxLen; omega) _ _ _ rfl rfl HK.out _ [] HV.out ?_; intro w1 hown1 hgrow1)
              | go_in)
            go_roundw
            case rel => exact ⟨i + 1, _, by omega, by go_num, hown1, (HM.out.put xo _).congr HNo.out, (HB3.out _ _ _).1.grown hgrow1 (HB3.out _ _ _).2 (fun j hj => by cases hj; exact Nat.le_refl _)⟩
            case measure => simp [RowKit.intOf]; omega
          · have HNo := hidLL (fun o => step_old HX.out hla hyl o)
            obtain ⟨xw, xn, xo, xv, xf, xt, xl⟩ := x
            obtain ⟨yw, yn, yo, yv, yf, yt, yl⟩ := y
            simp only at x0 x1 x2 x3 x4 x5 x6 HSo HNo HL HK hyl
            clear hla hh HV
            have hyl2 : xl < yl := by omega
            go_wp2_with (first
              | (go_at_call 38; refine (HSo.out _).mono ?_; rintro e w1 ⟨rfl, ew⟩; subst w1)
              | (at_lookup; refine wpList_lookup_fct _ rfl _ _ 55 rfl 3 32 lawInt Tryd.underlying55 fct0 (zeroFct _) w.heap.size i D rfl ((HO.out.alloc _).alloc _) _ _ rfl HK.out ⟨yw, yn, yo, yv, yf, yt, yl⟩ HL.out.2 true HL.out.1 ?_)
              | go_in)
            go_roundw
            case rel => exact ⟨i + 1, D, by omega, by go_num, ((((HO.out.alloc _).alloc _).alloc _).mono (by omega)), HM.out.congr HNo.out, (HB3.out _ _ _).1⟩
            case measure => simp [RowKit.intOf]; omega
    · obtain rfl : i = n := by omega
      have HT : Hid (L.take i = L) := List.take_of_length_le (by rw [HN.out]; exact Nat.le_refl _)
      go_wp2
      go_ret
      refine ⟨rfl, ⟨D, HO.out.mono (by omega), ?_⟩, HB.out⟩
      have := HM.out
      rw [HT.out] at this
      exact this
end Go.Proofs.YtagdenpmonedlaaDoor
