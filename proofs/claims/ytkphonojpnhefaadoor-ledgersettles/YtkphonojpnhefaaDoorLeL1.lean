/-
  The laws of claims: fewClaims, claims.
-/
import Derived.Test.YtkphonojpnhefaaDoorLeP3
namespace Go.Proofs.YtkphonojpnhefaaDoor
open Go.RowKit Go.Extern.Stop Go.Stop Go.Extern

def totalL : List Cl → Nat
  | [] => 0
  | c :: l => 1 + c.due.length + totalL l
theorem totalL_app : ∀ a b : List Cl, totalL (a ++ b) = totalL a + totalL b
  | [], b => by simp [totalL]
  | c :: a, b => by rw [List.cons_append, totalL, totalL, totalL_app a b]; omega
theorem totalL_due : ∀ (l : List Cl) (c : Cl), c ∈ l → c.due.length ≤ totalL l
  | x :: l, c, h => by
    rcases List.mem_cons.1 h with rfl | h
    · rw [totalL]; omega
    · have := totalL_due l c h
      rw [totalL]; omega
/-- What fewClaims tells. -/
def FewR (w : World) (l : List Cl) (e : Ending) (w' : World) : Prop := ∃ b : Bool, e = .returned (.bool b) ∧ (b = true → l.length ≤ 402 ∧ totalL l ≤ 1500) ∧ w' = w
set_option maxHeartbeats 1000000 in
theorem few_p {B n c : Nat} {a : Option Addr} {l : List Cl} {w : World} (h : NRd clN w (· < B) (.slice a n c) l) :
    Calls Tryd.prog 6 #[.slice a n c] w (FewR w l) := by
  obtain ⟨hn, hbig⟩ := h.len
  have HR := hidIt (And.intro h hn)
  clear h hn
  by_cases h402 : n ≤ 402
  · have hz : (n : Int) ≤ 402 := by omega
    go_enter Tryd.func6, Tryd.ntmps6
    go_wp2_with fail
    go_loopw [3, 4] (fun s t wr => ∃ (i : Nat) (x : Int), i ≤ n ∧ s = .int .i64 x ∧ t = .int .i64 i ∧ x = (totalL (l.take i) : Int) ∧ totalL (l.take i) ≤ i * 17592186044417 ∧ wr = w) (fun _ t _ => n - (RowKit.intOf t).toNat)
    case atStart => exact ⟨0, 0, by omega, rfl, rfl, rfl, by simp [totalL], rfl⟩
    case round =>
      obtain ⟨i, x, hi, rfl, rfl, hx, htb, ew⟩ := hrel
      subst wr
      by_cases hlt : i < n
      · have c0 : decide ((i : Int) < n) = true := by simp; omega
        have hiz : (i : Int) < n := by omega
        obtain ⟨e, he, hdr⟩ := get_in (l := l) (i := i) (by have := HR.out.2; omega)
        obtain ⟨g, o, sa, sn, sc, rfl, hg, q0, q1, hdu⟩ := cl_at HR.out.1 he
        obtain ⟨d1, d2⟩ := hdu.len
        have ht : totalL (l.take (i + 1)) = totalL (l.take i) + (1 + sn) := by rw [take_succ' he, totalL_app, totalL, totalL, ← d1, Nat.add_zero]
        have hxb : 0 ≤ x ∧ x ≤ 9000000000000000 := by omega
        have HX : Hid (x + 1 + (sn : Int) = (totalL (l.take (i + 1)) : Int) ∧ totalL (l.take (i + 1)) ≤ (i + 1) * 17592186044417) := by
          show _ ∧ _
          omega
        clear hx htb ht he hdr hg hdu d1
        go_wp2
        go_roundw
        case rel => exact ⟨i + 1, x + 1 + sn, hlt, by go_num, by go_num, HX.out.1, HX.out.2, by simp⟩
        case measure => simp [RowKit.intOf]; omega
      · have c0 : decide ((i : Int) < n) = false := by simp; omega
        have HT : Hid (x = (totalL l : Int)) := by
          rw [List.take_of_length_le (by have := HR.out.2; omega)] at hx
          exact hx
        clear hx htb
        go_wp2
        go_ret
        refine ⟨_, rfl, fun e => ?_, rfl⟩
        have := HT.out
        have h3 := HR.out.2
        have e2 : x ≤ 1500 := by simpa using e
        exact ⟨by omega, by omega⟩
  · have hz : ¬ (n : Int) ≤ 402 := by omega
    have hzd : decide ((n : Int) ≤ 402) = false := by simpa using hz
    go_enter Tryd.func6, Tryd.ntmps6
    go_wp2_with fail
    go_loopw [3, 4] (fun s t wr => ∃ (i : Nat) (x : Int), i ≤ n ∧ s = .int .i64 x ∧ t = .int .i64 i ∧ wr = w) (fun _ t _ => n - (RowKit.intOf t).toNat)
    case atStart => exact ⟨0, 0, by omega, rfl, rfl, rfl⟩
    case round =>
      obtain ⟨i, x, hi, rfl, rfl, ew⟩ := hrel
      subst wr
      by_cases hlt : i < n
      · have c0 : decide ((i : Int) < n) = true := by simp; omega
        have hiz : (i : Int) < n := by omega
        obtain ⟨e, he, hdr⟩ := get_in (l := l) (i := i) (by have := HR.out.2; omega)
        obtain ⟨g, o, sa, sn, sc, rfl, hg, q0, q1, hdu⟩ := cl_at HR.out.1 he
        clear he hdr hg hdu
        go_wp2
        go_roundw
        case rel => exact ⟨i + 1, _, hlt, rfl, by go_num, by simp⟩
        case measure => simp [RowKit.intOf]; omega
      · have c0 : decide ((i : Int) < n) = false := by simp; omega
        go_wp2
        go_ret
        exact ⟨false, rfl, (fun e => nomatch e), rfl⟩
theorem Tryd.infoPy : ∃ i z, Tryd.prog.info? 52 = some i ∧ i.zero = some z ∧ i.size = pyE.k ∧ i.bytes = 24 ∧ z.cells.size = pyE.k := by
  have h : (Tryd.prog.info? 52).map (fun i => (i.zero, i.size, i.bytes)) = some (some (.agg #[.int .i64 0, .int .i64 0, .int .i64 0]), 3, 24) := by kernel_rfl
  obtain ⟨i, h1, h2⟩ := Option.map_eq_some_iff.1 h
  simp only [Prod.mk.injEq] at h2
  exact ⟨i, _, h1, h2.1, h2.2.1, h2.2.2, rfl⟩
theorem Tryd.infoCl : ∃ i z, Tryd.prog.info? 55 = some i ∧ i.zero = some z ∧ i.size = clN.E.k ∧ i.bytes = 32 ∧ z.cells.size = clN.E.k := by
  have h : (Tryd.prog.info? 55).map (fun i => (i.zero, i.size, i.bytes)) = some (some (.agg #[.int .i64 0, .slice none 0 0]), 2, 32) := by kernel_rfl
  obtain ⟨i, h1, h2⟩ := Option.map_eq_some_iff.1 h
  simp only [Prod.mk.injEq] at h2
  exact ⟨i, _, h1, h2.1, h2.2.1, h2.2.2, rfl⟩
/-- A claim under way, in its box. -/
structure InnS (wr : World) (cb : Nat) (dy : Int) (due : List Py) (k : Nat) (pa : Option Addr) (pm pc : Nat) (wk : World) : Prop where
  c0 : wk.cell? ⟨cb, 0, none⟩ = some (.int .i64 dy)
  c1 : wk.cell? ⟨cb, 1, none⟩ = some (.slice pa pm pc)
  th : wk.there cb 0 2
  row : RowG pyE 52 wk (cb + 1) (.slice pa pm pc) (due.take k)
  bel : Below wr.heap.size wr wk
  eq : cb = wr.heap.size
theorem InnS.lt {wr wk : World} {cb k pm pc : Nat} {pa : Option Addr} {dy : Int} {due : List Py} (h : InnS wr cb dy due k pa pm pc wk) : cb < wk.heap.size := cell_lt h.c0
/-- The box gets a longer row. -/
theorem InnS.next {wr wk W w5 : World} {cb k pm pc : Nat} {pa : Option Addr} {dy : Int} {due : List Py} (h : InnS wr cb dy due k pa pm pc wk) (hW : Below wk.heap.size wk W) {x : Py} (hx : due[k]? = some x) {pa' : Option Addr} {pm' pc' : Nat} (hr : RowG pyE 52 w5 (cb + 1) (.slice pa' pm' pc') (due.take k ++ [x])) (hb : Below (cb + 1) W w5) :
    InnS wr cb dy due (k + 1) pa' pm' pc' (w5.setCell ⟨cb, 1, none⟩ (.slice pa' pm' pc')) := by
  have hlt := h.lt
  have hk : w5.heap[cb]? = wk.heap[cb]? := (hb.block cb (by omega)).trans (hW.block cb hlt)
  have e0 : w5.cell? ⟨cb, 0, none⟩ = some (.int .i64 dy) := (World.cell?_of_block (a := ⟨cb, 0, none⟩) hk).trans h.c0
  have th5 := there_on h.th hk
  have eS : w5.setCell ⟨cb, 1, none⟩ (.slice pa' pm' pc') = w5.setCells cb 1 [.slice pa' pm' pc'] := rfl
  rw [eS]
  refine ⟨?_, ?_, World.there_setCells th5 _ _ _, ?_, ?_, h.eq⟩
  · have : w5.rangeAt cb 0 [.int .i64 dy] := fun j v hv => by
      match j, hv with
      | 0, hv =>
        obtain rfl := Option.some.inj hv
        exact e0
    exact (World.rangeAt_setCells_apart this cb 1 [.slice pa' pm' pc'] (.inr (.inl (by simp)))) 0 _ rfl
  · exact (World.rangeAt_setCells_same w5 cb 1 [.slice pa' pm' pc'] (fun j hj => by
      have := th5 (1 + j) (by simp at hj; omega)
      rwa [Nat.zero_add] at this)) 0 _ rfl
  · rw [take_succ' hx]
    exact hr.on fun g hg hge _ => setCells_blk cb _ 1 w5 g (by omega)
  · have he := h.eq
    have h1 : Below wr.heap.size wr w5 := (h.bel.trans (hW.mono h.bel.size)).trans (hb.mono (by omega))
    exact h1.setCell (p := ⟨cb, 1, none⟩) (by show _ ≤ cb; omega) _
set_option maxHeartbeats 4000000 in
set_option maxRecDepth 10000 in
theorem claims_p {B n c : Nat} {a : Option Addr} {l : List Cl} {w : World} (h : NRd clN w (· < B) (.slice a n c) l) (hB : B ≤ w.heap.size) (h402 : n ≤ 402) (ht : totalL l ≤ 1500) :
    Calls Tryd.prog 8 #[.slice a n c] w fun e w' => (∃ ra rm rc, e = .returned (.slice ra rm rc) ∧ NRd clN w' (· < w'.heap.size) (.slice ra rm rc) l) ∧ Below w.heap.size w w' := by
  obtain ⟨hn, hbig⟩ := h.len
  have HR := hidIt (And.intro h hn)
  have HT := hidIt ht
  have HBw := hidIt hB
  clear h hn ht
  go_enter Tryd.func8, Tryd.ntmps8
  go_wp2_with fail
  go_loopw [3, 4] (fun s t wr => ∃ (i : Nat) (ra : Option Addr) (rm rc : Nat), i ≤ n ∧ s = .slice ra rm rc ∧ t = .int .i64 i ∧ NRow clN 55 (fun _ => True) wr w.heap.size (.slice ra rm rc) (l.take i) ∧ Below w.heap.size w wr) (fun _ t _ => n - (RowKit.intOf t).toNat)
  case atStart => exact ⟨0, none, 0, 0, by omega, rfl, rfl, NRow.nil _ _, Below.refl _ _⟩
  case round =>
    obtain ⟨i, ra, rm, rc, hi, rfl, rfl, row, bel⟩ := hrel
    have HRow := hidIt row
    have HBel := hidIt bel
    clear row bel
    by_cases hlt : i < n
    · have c0 : decide ((i : Int) < n) = true := by simp; omega
      have hiz : (i : Int) < n := by omega
      obtain ⟨x, he, hdr⟩ := get_in (l := l) (i := i) (by have := HR.out.2; omega)
      obtain ⟨g, o, sa, sn, sc, rfl, hg, q0, q1, hdu⟩ := cl_at (HR.out.1.below (HBel.out.mono hB)) he
      obtain ⟨d1, d2⟩ := hdu.len
      have hd15 : x.due.length ≤ 1500 := by have := totalL_due l x (List.mem_of_getElem? he); have := HT.out; omega
      have hgw : g < wr.heap.size := by have := HBel.out.size; omega
      have hgne : ¬ g = wr.heap.size := by omega
      have HE := hidIt he
      have HDu := hidIt hdu
      have HD1 := hidIt d1
      obtain ⟨dy, due⟩ := x
      simp only at q0 hd15 HDu HD1
      clear he hdr hdu d1
      obtain ⟨w0, hw0⟩ : ∃ w0 : World, w0 = wr := ⟨_, rfl⟩
      subst wr
      have HQ := hidIt (And.intro q0 q1)
      have HIn : Hid (∀ T, InnS w0 w0.heap.size dy due 0 none 0 0 (w0.alloc (.cells #[.int .i64 dy, .slice none 0 0] T))) := fun T => by
        have hr := alloc_range w0 [.int .i64 dy, .slice none 0 0] T
        exact ⟨hr 0 _ rfl, hr 1 _ rfl, alloc_there w0 [.int .i64 dy, .slice none 0 0] T, RowG.nil _ _, bel1 _ _, rfl⟩
      go_wp2_with fail
      obtain ⟨cb, hcb⟩ : ∃ cb, cb = w0.heap.size := ⟨_, rfl⟩
      rw [← hcb] at HIn hgne hgw ⊢
      have HCb := hidIt hcb
      clear hcb q0 q1
      go_loopw [6] (fun t wk => ∃ (k : Nat) (pa : Option Addr) (pm pc : Nat), k ≤ sn ∧ t = .int .i64 k ∧ InnS w0 cb dy due k pa pm pc wk) (fun t _ => sn - (RowKit.intOf t).toNat)
      case atStart => exact ⟨0, none, 0, 0, by omega, rfl, HIn.out _⟩
      case round =>
        clear HIn
        obtain ⟨k, pa, pm, pc, hk, rfl, hI⟩ := hrel
        have HI := hidIt hI
        have q0 : wr.cell? ⟨g, o + i * 2, none⟩ = some (.int .i64 dy) := (hI.bel.cell (p := ⟨g, o + i * 2, none⟩) (by rw [← hI.eq]; exact hgw)).trans HQ.out.1
        have q1 : wr.cell? ⟨g, o + i * 2 + 1, none⟩ = some (.slice sa sn sc) := (hI.bel.cell (p := ⟨g, o + i * 2 + 1, none⟩) (by rw [← hI.eq]; exact hgw)).trans HQ.out.2
        have b0 := hI.c0
        have b1 := hI.c1
        have hcl := hI.lt
        clear hI
        by_cases hltk : k < sn
        · have c1 : decide ((k : Int) < sn) = true := by simp; omega
          have hkz : (k : Int) < sn := by omega
          obtain ⟨y, hy, _⟩ := get_in (l := due) (i := k) (by have := HD1.out; omega)
          have hbelw : Below B w0 wr := HI.out.bel.mono (by have := HBel.out.size; have := HBw.out; omega)
          obtain ⟨g2, o2, rfl, hg2, hrg⟩ := (HDu.out.below hbelw).at hy
          obtain ⟨p0, p1, p2⟩ := py_cells hrg
          have hk3 : pyE.k = 3 := rfl
          rw [hk3] at p0 p1 p2
          have HY := hidIt hy
          obtain ⟨yf, yt, yc⟩ := y
          simp only at p0 p1 p2
          have hne1 : ¬ cb = wr.heap.size := by omega
          have hpl : (due.take k).length + 1 ≤ 1000000 := by rw [List.length_take]; omega
          have f1 : wr.frozen? ⟨cb, 1, none⟩ = false := by simpa using (HI.out.th 1 (by decide)).2
          have HW : Hid (∀ ob, RowG pyE 52 (wr.alloc ob) (cb + 1) (.slice pa pm pc) (due.take k)) := fun ob => HI.out.row.below (bel1 wr ob)
          have hszc : cb + 1 ≤ wr.heap.size + 1 := by omega
          clear hrg hy hbelw hk3 hg2
          go_wp2_with (at_builtin; refine wpList_push_g Tryd.infoPy (by decide) Tryd.underlying53 rfl (.tmp 39) (.tmp 47) rfl (cb + 1) (.slice pa pm pc) (due.take k) ⟨yf, yt, yc⟩ _ rfl rfl (HW.out _) (by first | (simp [Act.eval]; done) | simp [Act.eval, Act.put]) (by simp; omega) hpl ?_; intro v' w5 hr5 hb5 hk5 hv5; obtain ⟨pa5, pn5, pc5, rfl, hp5⟩ := hr5.any3; have HN5 := hidIt (HI.out.next (bel1 wr _) HY.out hr5 hb5); have hkp : w5.heap[cb]? = wr.heap[cb]? := (hb5.block cb (by omega)).trans (Below.heap_alloc _ _ _ hcl); have z1 : w5.cell? ⟨cb, 1, none⟩ = some (.slice pa pm pc) := (World.cell?_of_block (a := ⟨cb, 1, none⟩) hkp).trans b1; have z2 : w5.frozen? ⟨cb, 1, none⟩ = false := (World.frozen?_of_block (a := ⟨cb, 1, none⟩) hkp).trans f1; clear hr5 hb5 hp5 hk5 hv5 hkp)
          go_roundw
          case rel => exact ⟨k + 1, _, _, _, hltk, by go_num, HN5.out⟩
          case measure => simp [RowKit.intOf]; omega
        · have c1 : decide ((k : Int) < sn) = false := by simp; omega
          have HSub : Hid (RdS clN.F wr (fun x => x < wr.heap.size ∧ (Value.slice ra rm rc).ownBlock ≠ some x ∧ True) (SlV.v ⟨pa, pm, pc⟩) (clN.sub ⟨dy, due⟩)) := by
            have h1 := HI.out.row
            rw [List.take_of_length_le (by have := HD1.out; omega)] at h1
            refine h1.rdS.mono fun x hx => ⟨hx.2.1, fun e => ?_, trivial⟩
            have := (HRow.out.lt e).2
            have := HCb.out
            omega
          have HRow2 := hidIt (HRow.out.below HI.out.bel)
          have hszw : w.heap.size ≤ wr.heap.size := Nat.le_trans HBel.out.size HI.out.bel.size
          have hpl : (l.take i).length + 1 ≤ 1000000 := by rw [List.length_take]; omega
          go_wp2_with (at_builtin; refine wpList_push_n (N := clN) Tryd.infoCl (by decide) Tryd.underlying30 rfl (.tmp 50) (.tmp 52) rfl w.heap.size (.slice ra rm rc) (l.take i) ⟨dy, due⟩ ⟨pa, pm, pc⟩ _ rfl rfl HRow2.out HSub.out (by first | (simp [Act.eval]; done) | simp [Act.eval, Act.put]) hszw hpl ?_; intro v' w5 hr5 hb5 hsz5 hk5 hv5; obtain ⟨pa5, pn5, pc5, rfl, hp5⟩ := hr5.any3; have HR5 := hidIt hr5; have HB5 := hidIt hb5; clear hr5 hb5 hp5 hsz5 hk5 hv5)
          go_roundw
          case rel =>
            refine ⟨i + 1, _, _, _, hlt, rfl, by go_num, ?_, (HBel.out.trans (HI.out.bel.mono HBel.out.size)).trans HB5.out⟩
            rw [take_succ' HE.out]
            exact HR5.out
          case measure => simp [RowKit.intOf]; omega
    · have c0 : decide ((i : Int) < n) = false := by simp; omega
      have HE : Hid (NRd clN wr (· < wr.heap.size) (.slice ra rm rc) l) := by
        have h1 := HRow.out.rd
        rw [List.take_of_length_le (by have := HR.out.2; omega)] at h1
        exact h1
      go_wp2
      go_ret
      exact ⟨⟨_, _, _, rfl, HE.out⟩, HBel.out⟩
end Go.Proofs.YtkphonojpnhefaaDoor
