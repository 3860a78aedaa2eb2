/-
  The reference: ReadLaw.
-/
import Derived.Test.YtgfaeeacndpniaaGreatDoorRowP
import Derived.Test.YtgfaeeacndpniaaGreatDoorRefRows
import Derived.Test.YtgfaeeacndpniaaGreatDoorReadP
import Derived.Deep.CutBlock
import Derived.Deep.DeepCutAuto
namespace Go.Proofs.YtgfaeeacndpniaaGreatDoor
open Go.RowKit Go.Extern.Stop Go.Stop Go.Extern

/-- What ReadLaw answers. -/
def RLOut (e : Ending) (w' : World) : Out → Prop
  | .bad c i => e = .returned (.tuple #[.agg #[.string ⟨#[]⟩, .string ⟨#[]⟩, .slice none 0 0, .slice none 0 0], .agg #[.int .i64 (c : Nat), .int .i64 (i : Nat)]])
  | .good t => ∃ v : Nat → Value, e = .returned (.tuple #[.agg #[v 0, v 1, v 2, v 3], .agg #[.int .i64 0, .int .i64 (-1)]]) ∧ Lies w' (fun _ => True) v t
/-- The builder ahead of the law's line. -/
def Raw (bb : Nat) (w : World) : Prop := w.heap[bb]? = some (.cells #[.string ⟨#[]⟩, .string ⟨#[]⟩, .slice none 0 0, .slice none 0 0, .slice none 0 0, .int .i64 0] 67 (0, 0))
/-- How far ReadLaw has come. -/
inductive RLAt (B bb : Nat) (w2 : World) (rows : List ByteArray) (O : Out) (t6 t7 : Value) (wr : World) : Prop
  | raw (i : Nat) (h1 : i ≤ rows.length) (h6 : t6 = .bool false) (h7 : t7 = .int .i64 i) (hr : Raw bb wr) (hb : Below B w2 wr) (hs : B < wr.heap.size) (hg : goR [] 0 i (rows.drop i) = O)
  | on (i : Nat) (z : List It) (n : Nat) (h1 : i ≤ rows.length) (h6 : t6 = .bool true) (h7 : t7 = .int .i64 i) (hr : Bd B bb wr z n) (hO : OkZ z n) (hBr : Bare z) (hz : 0 < z.length) (hb : Below B w2 wr) (hs : B ≤ wr.heap.size) (hg : goR z n i (rows.drop i) = O)
/-- The law's line is read: the builder holds it. -/
theorem Bd.first {B bb : Nat} {w : World} {tt : ByteArray} (hB : B ≤ bb) (h : Raw bb w) : Bd B bb (w.setCell ⟨bb, 1, none⟩ (.string tt)) [It.mk ⟨#[]⟩ tt [] []] 0 := by
  have h1 := heap_setCell_same w bb 1 _ _ (.string tt) h
  refine ⟨fun _ => 0, vec4 (.string ⟨#[]⟩) (.string tt) (.slice none 0 0) (.slice none 0 0), none, 0, hB, h1, rfl, ?_, ?_, Nat.zero_le _, ?_, fun _ _ => rfl⟩
  · refine .one 0 _ _ (fun _ _ => .nilIface) ⟨rfl, rfl, World.ownsRow_nil _ _ _ _, ?_, World.ownsRow_nil _ _ _ _, ?_, ?_⟩
    · intro g e; cases e
    · intro g e; cases e
    · intro i k e; cases e
  · intro i x e; cases e
  · intro b o e; cases e
/-- A block of two. -/
theorem two {W : World} {g : Nat} {a b : Value} {t : TypeId} (h : W.heap[g]? = some (.cells #[a, b] t (0, 0))) : W.cell? ⟨g, 0, none⟩ = some a ∧ W.cell? ⟨g, 1, none⟩ = some b ∧ ∀ i, W.frozen? ⟨g, i, none⟩ = false := by
  simp [World.cell?, World.frozen?, h]
set_option maxHeartbeats 4000000 in
set_option maxRecDepth 10000 in
theorem rlaw_long (s : ByteArray) (hs : 30000 < s.size) (w : World) :
    Calls Tryz.prog 9 #[.string s] w fun e w' => RLOut e w' (readB s) ∧ Below w.heap.size w w' := by
  have HO : Hid (readB s = .bad 2 0) := by show _ = _; unfold readB; rw [if_pos hs]
  have hz : (30000 : Int) < s.size := by omega
  clear hs
  go_enter Tryz.func9, Tryz.ntmps9
  go_wp2
  refine bodyPost_ret (v := .tuple #[.agg #[.string ⟨#[]⟩, .string ⟨#[]⟩, .slice none 0 0, .slice none 0 0], .agg #[.int .i64 2, .int .i64 0]]) (by simp [results, Tryz.results9, go_sem]) rfl ?_
  refine ⟨by rw [HO.out]; exact rfl, ?_⟩
  exact ((Below.refl _ _).alloc (Nat.le_refl _) _).alloc (by simp) _
theorem rt_pos {r : ByteArray} (h : (rt r).1 ≠ 0) : 0 < (rt r).1 := Nat.pos_of_ne_zero h
theorem lineS_pos {z : List It} {n d c : Nat} {r : ByteArray} (h : lineS z n d r = .bad c) : 0 < c := by
  unfold lineS at h
  split at h
  · injection h with h; omega
  · split at h
    · injection h with h; omega
    · split at h
      · cases h
      · rename_i h3
        injection h with h
        rw [← h]; exact rt_pos h3
theorem provS_pos {z : List It} {n d c : Nat} {r : ByteArray} (h : provS z n d r = .bad c) : 0 < c := by
  unfold provS at h
  split at h
  · injection h with h; omega
  · split at h
    · injection h with h; omega
    · split at h
      · cases h
      · rename_i h3
        injection h with h
        rw [← h]; exact rt_pos h3
theorem lawS_pos {n c : Nat} {r : ByteArray} (h : lawAt n (lawS r) = .bad c) : 0 < c := by
  unfold lawS at h
  split at h
  · split at h
    · cases h
    · rename_i h3
      injection h with h
      rw [← h]; exact rt_pos h3
  · injection h with h; omega
theorem takeS_pos {z : List It} {n c : Nat} {r : ByteArray} (h : takeS z n r = .bad c) : 0 < c := by
  unfold takeS at h
  split at h
  · injection h with h; omega
  · split at h
    · exact lawS_pos h
    · split at h
      · injection h with h; omega
      · split at h
        · exact lineS_pos h
        · exact provS_pos h
/-- The two results' boxes. -/
structure ResS (w wr : World) : Prop where
  a : wr.heap[w.heap.size]? = some (.cells #[.string ⟨#[]⟩, .string ⟨#[]⟩, .slice none 0 0, .slice none 0 0] 26 (0, 0))
  b : wr.heap[w.heap.size + 1]? = some (.cells #[.int .i64 0, .int .i64 0] 32 (0, 0))
  bel : Below w.heap.size w wr
theorem ResS.six {w wr : World} (h : ResS w wr) (a b c d e f : Value) : Below w.heap.size w ((((((wr.setCell ⟨w.heap.size, 0, none⟩ a).setCell ⟨w.heap.size, 1, none⟩ b).setCell ⟨w.heap.size, 2, none⟩ c).setCell ⟨w.heap.size, 3, none⟩ d).setCell ⟨w.heap.size + 1, 0, none⟩ e).setCell ⟨w.heap.size + 1, 1, none⟩ f) :=
  (((((h.bel.setCell (p := ⟨w.heap.size, 0, none⟩) (Nat.le_refl _) _).setCell (p := ⟨w.heap.size, 1, none⟩) (Nat.le_refl _) _).setCell (p := ⟨w.heap.size, 2, none⟩) (Nat.le_refl _) _).setCell (p := ⟨w.heap.size, 3, none⟩) (Nat.le_refl _) _).setCell (p := ⟨w.heap.size + 1, 0, none⟩) (Nat.le_succ _) _).setCell (p := ⟨w.heap.size + 1, 1, none⟩) (Nat.le_succ _) _
theorem law_pre (x : ByteArray) : Lib.hasPrefix (bl x) [108, 97, 119] = ((x.extract 0 3).toList == [108, 97, 119]) := by
  have e1 : (x.extract 0 3).toList = (bl x).take 3 := by
    rw [Lib.toList_data]
    show bl (x.extract 0 3) = _
    rw [bl_extract]; simp
  rw [e1, Bool.eq_iff_iff]
  unfold Lib.hasPrefix
  rw [List.isPrefixOf_iff_prefix, List.prefix_iff_eq_take, beq_iff_eq]
  simp only [List.length_cons, List.length_nil, Nat.zero_add, Nat.reduceAdd]
  exact ⟨fun h => h.symm, fun h => h.symm⟩
theorem law_short {x : ByteArray} (h : x.size < 3) : Lib.hasPrefix (bl x) [108, 97, 119] = false := by
  cases hq : Lib.hasPrefix (bl x) [108, 97, 119]
  · rfl
  · unfold Lib.hasPrefix at hq
    rw [List.isPrefixOf_iff_prefix] at hq
    have := hq.length_le
    rw [size_bl] at this
    simp at this
    omega
theorem lawS_no {x : ByteArray} (h : Lib.hasPrefix (bl x) [108, 97, 119] = false) : lawS x = .bad 1 := by
  unfold lawS; rw [if_neg (by rw [h]; simp)]
theorem lawS_bh {x rest tt : ByteArray} {c : Nat} (h : Lib.hasPrefix (bl x) [108, 97, 119] = true) (hr : rest = x.extract 3 x.size) (hB : BH rest tt c) : lawS x = if c = 0 then .good [It.mk ⟨#[]⟩ tt [] []] 0 else .bad c := by
  unfold lawS
  rw [← hr]
  by_cases h1 : rest.size = 0 ∨ startsAt rest 32 = true
  · rw [if_pos ⟨h, h1⟩]
    have hc : c = (rt rest).1 := by
      rcases h1 with h1 | h1
      · refine hB.code ?_
        rw [rt_nil h1]; decide
      · exact hB.mark h1
    by_cases h0 : c = 0
    · rw [if_pos (by omega), if_pos h0, hB.text h0]
    · rw [if_neg (by omega), if_neg h0, hc]
  · rw [if_neg (fun h2 => h1 h2.2)]
    have hc : c = 1 := hB.bare (fun e => h1 (.inl e)) (by
      cases hq : startsAt rest 32
      · rfl
      · exact absurd (.inr hq) h1)
    rw [if_neg (by omega), hc]
set_option maxHeartbeats 8000000 in
set_option maxRecDepth 10000 in
theorem rlaw_short (s : ByteArray) (hs : s.size ≤ 3000) (w : World) :
    Calls Tryz.prog 9 #[.string s] w fun e w' => RLOut e w' (readB s) ∧ Below w.heap.size w w' := by
  have HO : Hid (goR [] 0 0 (rowsB s) = readB s) := by show _ = _; unfold readB; rw [if_neg (by omega)]
  have HRo := hidLL (fun w => rows_any s (by omega) w)
  have hz : (s.size : Int) ≤ 30000 := by omega
  have HRS := hidLL (fun x hx => rowsB_size s x hx)
  have hrl := rowsB_len s
  generalize readB s = O at *
  generalize rowsB s = rows at *
  go_enter Tryz.func9, Tryz.ntmps9
  go_wp2_with fail
  obtain ⟨w1, hw1⟩ : ∃ w1, w1 = (w.alloc (.cells #[.string ⟨#[]⟩, .string ⟨#[]⟩, .slice none 0 0, .slice none 0 0] 26)).alloc (.cells #[.int .i64 0, .int .i64 0] 32) := ⟨_, rfl⟩
  have ha := alloc_two w (.cells #[.string ⟨#[]⟩, .string ⟨#[]⟩, .slice none 0 0, .slice none 0 0] 26) (.cells #[.int .i64 0, .int .i64 0] 32)
  have hb1 : Below w.heap.size w ((w.alloc (.cells #[.string ⟨#[]⟩, .string ⟨#[]⟩, .slice none 0 0, .slice none 0 0] 26)).alloc (.cells #[.int .i64 0, .int .i64 0] 32)) := ((Below.refl _ _).alloc (Nat.le_refl _) _).alloc (by simp) _
  have hs1 : ((w.alloc (.cells #[.string ⟨#[]⟩, .string ⟨#[]⟩, .slice none 0 0, .slice none 0 0] 26)).alloc (.cells #[.int .i64 0, .int .i64 0] 32)).heap.size = w.heap.size + 2 := by simp
  rw [← hw1] at ha hb1 hs1
  rw [← hw1]
  clear hw1
  go_at_call 27
  refine (HRo.out _).mono ?_
  rintro e w2 ⟨⟨rv, rfl, hrow⟩, hb2⟩
  obtain ⟨ra, rc, hrv⟩ := row_any hrow
  subst hrv
  have hs2 := hb2.size
  have h0 : w2.heap[w.heap.size]? = _ := (hb2.block w.heap.size (by omega)).trans ha.1
  have h1 : w2.heap[w.heap.size + 1]? = _ := (hb2.block (w.heap.size + 1) (by omega)).trans ha.2
  have HB2 := hidLL (hb1.trans (hb2.mono (by omega)))
  have HRow := hidLL hrow
  have HH0 := hidLL h0
  have HH1 := hidLL h1
  have hlow : w.heap.size + 2 ≤ w2.heap.size := by omega
  clear ha hb1 hb2 h0 h1 hrow hs2
  obtain ⟨rl, hrlen⟩ : ∃ rl, rl = rows.length := ⟨_, rfl⟩
  rw [← hrlen] at hrl HRow
  rw [← hrlen]
  have HRL := hidLL hrlen
  clear hrlen
  have HR0 : Hid (Raw w2.heap.size (w2.alloc (.cells #[.string ⟨#[]⟩, .string ⟨#[]⟩, .slice none 0 0, .slice none 0 0, .slice none 0 0, .int .i64 0] 67))) := heap_alloc_new w2 _
  go_wp2_with fail
  go_loopw [6, 7] (fun b t wr => RLAt w2.heap.size w2.heap.size w2 rows O b t wr) (fun _ t _ => (rl - RowKit.intOf t).toNat)
  case atStart => exact .raw 0 (by omega) rfl rfl HR0.out ((Below.refl _ _).alloc (Nat.le_refl _) _) (by simp) (by rw [List.drop_zero]; exact HO.out)
  case round =>
    have HRes : Hid (∀ wr, Below w2.heap.size w2 wr → ResS w wr) := fun wr hb => ⟨(hb.block w.heap.size (by omega)).trans HH0.out, (hb.block (w.heap.size + 1) (by omega)).trans HH1.out, HB2.out.trans (hb.mono (by omega))⟩
    have HCell : Hid (∀ wr i x, Below w2.heap.size w2 wr → rows[i]? = some x → ∃ g, ra = some ⟨g, 0, none⟩ ∧ wr.cell? ⟨g, i, none⟩ = some (.string x)) := fun wr i x hb hx => by
      have hil := (List.getElem?_eq_some_iff.1 hx).1
      obtain ⟨g, cap, e, hgl, hgB⟩ := row_form HRow.out (by rw [HRL.out]; omega)
      injection e with e1 e2 e3
      refine ⟨g, e1, (hb.cell (p := ⟨g, i, none⟩) hgl).trans ?_⟩
      have h5 := HRow.out
      rw [e1] at h5
      rw [h5.cellAt i (by rw [HRL.out]; omega), List.getElem?_map, hx]
      rfl
    rcases hrel with ⟨i, hi, rfl, rfl, hr, hb, hsz, hg⟩ | ⟨i, z, n, hi, rfl, rfl, hr, hOk, hBr, hz0, hb, hsz, hg⟩
    · rw [← HRL.out] at hi
      have hRs := HRes.out wr hb
      obtain ⟨q0, q1, q2, q3, qf⟩ := four hRs.a
      obtain ⟨x0, x1, xf⟩ := two hRs.b
      have HRs := hidLL hRs
      have HB := hidLL hb
      have HG := hidLL hg
      have HR := hidLL hr
      clear hRs hb hg hr
      by_cases hin : i < rl
      · have hiz : (i : Int) < rl := by omega
        obtain ⟨x, hx⟩ : ∃ x, rows[i]? = some x := ⟨_, List.getElem?_eq_getElem (by rw [← HRL.out]; exact hin)⟩
        have hxs := HRS.out x (List.mem_of_getElem? hx)
        obtain ⟨g, rfl, cx⟩ := HCell.out wr i x HB.out hx
        have HX := hidLL hx
        have HBk := hidLL (fun W => blankRow_any x (by omega) W)
        clear hx
        cases hbl : blankB x
        · rw [hbl] at HBk
          have HBl := hidLL hbl
          have HPr := hidLL (fun W => printed_any x (by omega) W)
          clear hbl
          cases hp : plainB x
          · rw [hp] at HPr
            have HOut := hidLL (HG.out.symm.trans (goR_bad HX.out HBl.out (takeS_1 hp)))
            clear hp
            go_wp2_with fail
            go_at_call 28
            refine (HBk.out _).mono ?_
            rintro e w5 ⟨rfl, ew⟩
            subst w5
            go_wp2_with fail
            go_at_call 30
            refine (HPr.out _).mono ?_
            rintro e w5 ⟨rfl, ew⟩
            subst w5
            go_wp2
            refine bodyPost_ret (v := .tuple #[.agg #[.string ⟨#[]⟩, .string ⟨#[]⟩, .slice none 0 0, .slice none 0 0], .agg #[.int .i64 1, .int .i64 i]]) (by simp [results, Tryz.results9, go_sem, q0, q1, q2, q3, x0, x1]) rfl ?_
            refine ⟨by rw [HOut.out]; exact rfl, HRs.out.six _ _ _ _ _ _⟩
          · rw [hp] at HPr
            have HTk := hidLL (takeS_2 (n := 0) hp)
            clear hp
            by_cases h3 : x.size < 3
            · have h3z : decide ((x.size : Int) < 3) = true := decide_eq_true (by omega)
              have HOut := hidLL (HG.out.symm.trans (goR_bad HX.out HBl.out (c := 1) (by rw [HTk.out, lawS_no (law_short h3)]; rfl)))
              clear h3
              go_wp2_with fail
              go_at_call 28
              refine (HBk.out _).mono ?_
              rintro e w5 ⟨rfl, ew⟩
              subst w5
              go_wp2_with fail
              go_at_call 30
              refine (HPr.out _).mono ?_
              rintro e w5 ⟨rfl, ew⟩
              subst w5
              go_wp2
              refine bodyPost_ret (v := .tuple #[.agg #[.string ⟨#[]⟩, .string ⟨#[]⟩, .slice none 0 0, .slice none 0 0], .agg #[.int .i64 1, .int .i64 i]]) (by simp [results, Tryz.results9, go_sem, q0, q1, q2, q3, x0, x1]) rfl ?_
              refine ⟨by rw [HOut.out]; exact rfl, HRs.out.six _ _ _ _ _ _⟩
            have h3z : decide ((x.size : Int) < 3) = false := decide_eq_false (by omega)
            have h3y : (3 : Int) ≤ (x.size : Int) := by omega
            have hlp := law_pre x
            cases hq : ((x.extract 0 3).toList == [108, 97, 119])
            · rw [hq] at hlp
              have HOut := hidLL (HG.out.symm.trans (goR_bad HX.out HBl.out (c := 1) (by rw [HTk.out, lawS_no hlp]; rfl)))
              clear hlp h3
              go_wp2_with fail
              go_at_call 28
              refine (HBk.out _).mono ?_
              rintro e w5 ⟨rfl, ew⟩
              subst w5
              go_wp2_with fail
              go_at_call 30
              refine (HPr.out _).mono ?_
              rintro e w5 ⟨rfl, ew⟩
              subst w5
              go_wp2
              refine bodyPost_ret (v := .tuple #[.agg #[.string ⟨#[]⟩, .string ⟨#[]⟩, .slice none 0 0, .slice none 0 0], .agg #[.int .i64 1, .int .i64 i]]) (by simp [results, Tryz.results9, go_sem, q0, q1, q2, q3, x0, x1]) rfl ?_
              refine ⟨by rw [HOut.out]; exact rfl, HRs.out.six _ _ _ _ _ _⟩
            · rw [hq] at hlp
              obtain ⟨rest, hrest⟩ : ∃ rest, rest = x.extract 3 x.size := ⟨_, rfl⟩
              have hre : x.extract 3 x.size = rest := hrest.symm
              have hrs : rest.size ≤ 3000 := by rw [hrest, ByteArray.size_extract]; omega
              have HBh := hidLL (fun W => behind_any rest (by omega) W)
              have HLB := hidLL (fun tt c => lawS_bh (tt := tt) (c := c) hlp hrest)
              clear hlp hrest h3
              go_wp2_with fail
              go_at_call 28
              refine (HBk.out _).mono ?_
              rintro e w5 ⟨rfl, ew⟩
              subst w5
              go_wp2_with fail
              go_at_call 30
              refine (HPr.out _).mono ?_
              rintro e w5 ⟨rfl, ew⟩
              subst w5
              go_wp2_with fail
              go_at_call 31
              refine (HBh.out _).mono ?_
              rintro e w5 ⟨⟨tt, c, rfl, hBH⟩, q, ew⟩
              have hb5 : Below wr.heap.size wr w5 := by rw [ew]; exact belQ _ _
              have HLw := hidLL (HLB.out tt c hBH)
              have HB5 := hidLL (HB.out.trans (hb5.mono (by omega)))
              have HR5 : Hid (Raw w2.heap.size w5) := (hb5.block w2.heap.size hsz).trans HR.out
              have hsz5 : w2.heap.size < w5.heap.size := by have := hb5.size; omega
              have hRs5 := HRes.out w5 HB5.out
              clear q0 q1 q2 q3 qf x0 x1 xf hb5 ew hBH
              obtain ⟨q0, q1, q2, q3, qf⟩ := four hRs5.a
              obtain ⟨x0, x1, xf⟩ := two hRs5.b
              have HRs := hidLL hRs5
              clear hRs5
              by_cases hc0 : c = 0
              · have HOut := hidLL ((goR_good HX.out HBl.out (z' := [It.mk ⟨#[]⟩ tt [] []]) (n' := 0) (by rw [HTk.out, HLw.out, if_pos hc0]; rfl)).symm.trans HG.out)
                have HOk0 : Hid (OkZ [It.mk ⟨#[]⟩ tt [] []] 0) := OkZ.take OkZ.start (row := x) (by rw [HTk.out, HLw.out, if_pos hc0]; rfl)
                subst hc0
                obtain ⟨y1, yf⟩ : w5.cell? ⟨w2.heap.size, 1, none⟩ = some (.string ⟨#[]⟩) ∧ ∀ i, w5.frozen? ⟨w2.heap.size, i, none⟩ = false := by
                  have := HR5.out
                  unfold Raw at this
                  simp [World.cell?, World.frozen?, this]
                go_wp2
                go_roundw
                case rel =>
                  refine .on (i + 1) [It.mk ⟨#[]⟩ tt [] []] 0 (by rw [← HRL.out]; omega) rfl (by go_num) (Bd.first (Nat.le_refl _) HR5.out) HOk0.out (Bare.snoc [] _ _) (by simp) (HB5.out.setCell (p := ⟨w2.heap.size, 1, none⟩) (Nat.le_refl _) _) (by simp; omega) HOut.out
                case measure => simp [RowKit.intOf]; omega
              · have hcz : (0 : Int) < (c : Int) := by omega
                have HOut := hidLL (HG.out.symm.trans (goR_bad HX.out HBl.out (c := c) (by rw [HTk.out, HLw.out, if_neg hc0]; rfl)))
                clear hc0
                go_wp2
                refine bodyPost_ret (v := .tuple #[.agg #[.string ⟨#[]⟩, .string ⟨#[]⟩, .slice none 0 0, .slice none 0 0], .agg #[.int .i64 (c : Nat), .int .i64 i]]) (by simp [results, Tryz.results9, go_sem, q0, q1, q2, q3, x0, x1]) rfl ?_
                refine ⟨by rw [HOut.out]; exact rfl, HRs.out.six _ _ _ _ _ _⟩
        · rw [hbl] at HBk
          have HOut := hidLL ((goR_blank (z := []) (n := 0) HX.out hbl).symm.trans HG.out)
          clear hbl
          go_wp2_with fail
          go_at_call 28
          refine (HBk.out _).mono ?_
          rintro e w5 ⟨rfl, ew⟩
          subst w5
          go_wp2
          go_roundw
          case rel => exact .raw (i + 1) (by rw [← HRL.out]; omega) rfl (by go_num) HR.out HB.out hsz HOut.out
          case measure => simp [RowKit.intOf]; omega
      · obtain rfl : i = rl := by omega
        have HOut := hidLL (HG.out.symm.trans (goR_end0 (by rw [← HRL.out]; exact Nat.le_refl _)))
        go_wp2
        refine bodyPost_ret (v := .tuple #[.agg #[.string ⟨#[]⟩, .string ⟨#[]⟩, .slice none 0 0, .slice none 0 0], .agg #[.int .i64 1, .int .i64 i]]) (by simp [results, Tryz.results9, go_sem, q0, q1, q2, q3, x0, x1]) rfl ?_
        refine ⟨by rw [HOut.out]; exact rfl, HRs.out.six _ _ _ _ _ _⟩
    · rw [← HRL.out] at hi
      have hRs := HRes.out wr hb
      obtain ⟨q0, q1, q2, q3, qf⟩ := four hRs.a
      obtain ⟨x0, x1, xf⟩ := two hRs.b
      have HRs := hidLL hRs
      have HB := hidLL hb
      have HG := hidLL hg
      have HR := hidLL hr
      have HOk := hidLL hOk
      have HBr := hidLL hBr
      clear hRs hb hg hr hOk hBr
      by_cases hin : i < rl
      · have hiz : (i : Int) < rl := by omega
        obtain ⟨x, hx⟩ : ∃ x, rows[i]? = some x := ⟨_, List.getElem?_eq_getElem (by rw [← HRL.out]; exact hin)⟩
        have hxs := HRS.out x (List.mem_of_getElem? hx)
        obtain ⟨g, rfl, cx⟩ := HCell.out wr i x HB.out hx
        have HX := hidLL hx
        have HBk := hidLL (fun W => blankRow_any x (by omega) W)
        clear hx
        cases hbl : blankB x
        · rw [hbl] at HBk
          have HBl := hidLL hbl
          have HRw := hidLL (bRow_any w2.heap.size w2.heap.size n z x wr HR.out hsz HOk.out HBr.out hz0 (by omega))
          clear hbl
          go_wp2_with fail
          go_at_call 28
          refine (HBk.out _).mono ?_
          rintro e w5 ⟨rfl, ew⟩
          subst w5
          go_wp2_with fail
          go_at_call 29
          refine HRw.out.mono ?_
          rintro e w5 ⟨hS, hb5⟩
          have HB5 := hidLL (HB.out.trans hb5)
          have hsz5 : w2.heap.size ≤ w5.heap.size := by have := hb5.size; omega
          have hRs5 := HRes.out w5 HB5.out
          clear q0 q1 q2 q3 qf x0 x1 xf hb5
          obtain ⟨q0, q1, q2, q3, qf⟩ := four hRs5.a
          obtain ⟨x0, x1, xf⟩ := two hRs5.b
          have HRs := hidLL hRs5
          clear hRs5
          cases hst : takeS z n x with
          | bad c =>
            rw [hst] at hS
            have hS : e = _ := hS
            subst hS
            have HOut := hidLL (HG.out.symm.trans (goR_bad HX.out HBl.out hst))
            have hcz : (0 : Int) < (c : Int) := by have := takeS_pos hst; omega
            clear hst
            go_wp2
            refine bodyPost_ret (v := .tuple #[.agg #[.string ⟨#[]⟩, .string ⟨#[]⟩, .slice none 0 0, .slice none 0 0], .agg #[.int .i64 (c : Nat), .int .i64 i]]) (by simp [results, Tryz.results9, go_sem, q0, q1, q2, q3, x0, x1]) rfl ?_
            refine ⟨by rw [HOut.out]; exact rfl, HRs.out.six _ _ _ _ _ _⟩
          | good z' n' =>
            rw [hst] at hS
            obtain ⟨rfl, hR'⟩ := hS
            have HR' := hidLL hR'
            have HOut := hidLL ((goR_good HX.out HBl.out hst).symm.trans HG.out)
            have HOk' := hidLL (HOk.out.take hst)
            have HBr' := hidLL (HBr.out.take hst)
            have hz' : 0 < z'.length := by
              obtain ⟨_, _, _, _, hq⟩ := hR'
              exact hq.pt.pos
            clear hst hR'
            go_wp2
            go_roundw
            case rel => exact .on (i + 1) z' n' (by rw [← HRL.out]; omega) rfl (by go_num) HR'.out HOk'.out HBr'.out hz' HB5.out hsz5 HOut.out
            case measure => simp [RowKit.intOf]; omega
        · rw [hbl] at HBk
          have HOut := hidLL ((goR_blank (z := z) (n := n) HX.out hbl).symm.trans HG.out)
          clear hbl
          go_wp2_with fail
          go_at_call 28
          refine (HBk.out _).mono ?_
          rintro e w5 ⟨rfl, ew⟩
          subst w5
          go_wp2
          go_roundw
          case rel => exact .on (i + 1) z n (by rw [← HRL.out]; omega) rfl (by go_num) HR.out HOk.out HBr.out hz0 HB.out hsz HOut.out
          case measure => simp [RowKit.intOf]; omega
      · obtain rfl : i = rl := by omega
        have HOut := hidLL (HG.out.symm.trans (goR_end1 (by rw [← HRL.out]; exact Nat.le_refl _) (by omega)))
        obtain ⟨own, v, wa, wcp, hS⟩ := HR.out
        obtain ⟨c0, c1, c2, c3, _, _⟩ := hS.c
        have HL := hidLL hS.pt.lies
        have ho0 := hS.lw w.heap.size (by omega)
        have ho1 := hS.lw (w.heap.size + 1) (by omega)
        obtain ⟨f0, f1, ⟨la, lc, f2⟩, ⟨ka, kc, f3⟩⟩ := hS.pt.forms
        rw [f0] at c0
        rw [f1] at c1
        rw [f2] at c2
        rw [f3] at c3
        have HF := hidLL (And.intro f0 (And.intro f1 (And.intro f2 f3)))
        clear hS f0 f1 f2 f3
        generalize (closeAll z).label = l0 at *
        generalize (closeAll z).head = l1 at *
        generalize (closeAll z).lines.length = l2 at *
        generalize (closeAll z).kids.length = l3 at *
        go_wp2
        refine bodyPost_ret (v := .tuple #[.agg #[.string l0, .string l1, .slice la l2 lc, .slice ka l3 kc], .agg #[.int .i64 0, .int .i64 (-1)]]) (by simp [results, Tryz.results9, go_sem, q0, q1, q2, q3, x0, x1]) rfl ?_
        refine ⟨?_, HRs.out.six _ _ _ _ _ _⟩
        rw [HOut.out]
        refine ⟨v, by rw [HF.out.1, HF.out.2.1, HF.out.2.2.1, HF.out.2.2.2], HL.out.step fun b _ hp => ⟨?_, trivial⟩⟩
        have hn0 : b ≠ w.heap.size := fun e => by rw [e] at hp; omega
        have hn1 : b ≠ w.heap.size + 1 := fun e => by rw [e] at hp; omega
        rw [Below.heap_setCell _ _ _ _ hn1, Below.heap_setCell _ _ _ _ hn1, Below.heap_setCell _ _ _ _ hn0, Below.heap_setCell _ _ _ _ hn0, Below.heap_setCell _ _ _ _ hn0, Below.heap_setCell _ _ _ _ hn0]
theorem rlaw_any (s : ByteArray) (hs : s.size ≤ 3000 ∨ 30000 < s.size) (w : World) :
    Calls Tryz.prog 9 #[.string s] w fun e w' => RLOut e w' (readB s) ∧ Below w.heap.size w w' := by
  rcases hs with hs | hs
  · exact rlaw_short s hs w
  · exact rlaw_long s hs w
end Go.Proofs.YtgfaeeacndpniaaGreatDoor
