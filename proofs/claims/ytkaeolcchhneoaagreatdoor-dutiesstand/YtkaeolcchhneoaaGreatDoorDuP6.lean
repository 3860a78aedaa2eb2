/-
  Duties, the program: what is to be done instead; States.
-/
import Derived.Test.YtkaeolcchhneoaaGreatDoorDuI
namespace Go.Proofs.YtkaeolcchhneoaaGreatDoor
open Go.RowKit Go.Sort Go.Lib

/-- What is to be done instead of a duty; what is wrong with the terms. -/
def insD (F : Du → DR) (d : Du) : Du :=
  match F d with
  | .ok x => ⟨d.els, d.who, d.til + 1, x, ByteArray.empty, 0, 0, 0⟩
  | .er _ => d
def insK (F : Du → DR) : List Du → Option Nat
  | [] => none
  | d :: l => if d.els = ByteArray.empty then insK F l else match F d with
    | .ok _ => insK F l
    | .er k => some k
theorem insK_skip {F : Du → DR} {d : Du} {l : List Du} (h : d.els = ByteArray.empty) : insK F (d :: l) = insK F l := by rw [insK, if_pos h]
theorem insK_ok {F : Du → DR} {d : Du} {l : List Du} {x : Int} (h : ¬ d.els = ByteArray.empty) (hx : F d = .ok x) : insK F (d :: l) = insK F l := by rw [insK, if_neg h, hx]
theorem insK_er {F : Du → DR} {d : Du} {l : List Du} {k : Nat} (h : ¬ d.els = ByteArray.empty) (hx : F d = .er k) : insK F (d :: l) = some k := by rw [insK, if_neg h, hx]
theorem insD_ok {F : Du → DR} {d : Du} {x : Int} (hx : F d = .ok x) : insD F d = ⟨d.els, d.who, d.til + 1, x, ByteArray.empty, 0, 0, 0⟩ := by rw [insD, hx]
/-- insteadOf under way: i of them are done. -/
structure InsS (w1 W : World) (n : Nat) (F : Du → DR) (l : List Du) (i : Nat) : Prop where
  bel : Below w1.heap.size w1 W
  lt : w1.heap.size < W.heap.size
  th : W.there w1.heap.size 0 (n * 8)
  rd : ∀ j x, j < i → l[j]? = some x → x.els ≠ ByteArray.empty → W.rangeAt w1.heap.size (j * 8) (duE.f (insD F x))
theorem there_on {w w' : World} {b o n : Nat} (h : w.there b o n) (hb : w'.heap[b]? = w.heap[b]?) : w'.there b o n := fun j hj => by
  rw [World.cell?_of_block (a := ⟨b, o + j, none⟩) hb, World.frozen?_of_block (a := ⟨b, o + j, none⟩) hb]
  exact h j hj
theorem InsS.on {w1 W W' : World} {n i : Nat} {F : Du → DR} {l : List Du} (h : InsS w1 W n F l i) (hb : Below W.heap.size W W') : InsS w1 W' n F l i :=
  ⟨h.bel.trans (hb.mono h.bel.size), Nat.lt_of_lt_of_le h.lt hb.size, there_on h.th (hb.block _ h.lt), fun j x hj hx he => range_bel (h.rd j x hj hx he) hb h.lt⟩
theorem InsS.skip {w1 W : World} {n i : Nat} {F : Du → DR} {l : List Du} {d : Du} (h : InsS w1 W n F l i) (hd : l[i]? = some d) (he : d.els = ByteArray.empty) : InsS w1 W n F l (i + 1) :=
  ⟨h.bel, h.lt, h.th, fun j x hj hx hn => by
    rcases Nat.lt_or_ge j i with q | q
    · exact h.rd j x q hx hn
    · obtain rfl : j = i := by omega
      rw [hd] at hx
      obtain rfl := Option.some.inj hx
      exact absurd he hn⟩
theorem setCells_blk (b : Nat) : ∀ (vs : List Value) (o : Nat) (W : World) (k : Nat), k ≠ b → (W.setCells b o vs).heap[k]? = W.heap[k]?
  | [], _, _, _, _ => rfl
  | v :: r, o, W, k, hk => by
    rw [World.setCells, setCells_blk b r (o + 1) _ k hk]
    exact Below.heap_setCell _ _ _ _ hk
theorem setCells_rest (b : Nat) : ∀ (vs : List Value) (o : Nat) (W : World), (W.setCells b o vs).os = W.os ∧ (W.setCells b o vs).tape = W.tape ∧ (W.setCells b o vs).output = W.output ∧ (W.setCells b o vs).heap.size = W.heap.size
  | [], _, _ => ⟨rfl, rfl, rfl, rfl⟩
  | v :: r, o, W => by
    obtain ⟨h1, h2, h3, h4⟩ := setCells_rest b r (o + 1) (W.setCell ⟨b, o, none⟩ v)
    rw [World.setCells]
    exact ⟨h1, h2, h3, h4.trans (by simp)⟩
theorem setCells_below {B b o : Nat} {vs : List Value} (W : World) (hb : B ≤ b) : Below B W (W.setCells b o vs) := by
  obtain ⟨h1, h2, h3, h4⟩ := setCells_rest b vs o W
  exact ⟨h1, h2, h3, by omega, fun k hk => setCells_blk b vs o W k (by omega)⟩
theorem InsS.put {w1 W : World} {n i : Nat} {F : Du → DR} {l : List Du} {d : Du} (h : InsS w1 W n F l i) (hd : l[i]? = some d) (hi : i < n) : InsS w1 (W.setCells w1.heap.size (i * 8) (duE.f (insD F d))) n F l (i + 1) := by
  have hth : W.there w1.heap.size (i * 8) (duE.f (insD F d)).length := fun j hj => by
    have h8 : (duE.f (insD F d)).length = 8 := rfl
    have := h.th (i * 8 + j) (by omega)
    rwa [Nat.zero_add] at this
  refine ⟨h.bel.trans ((setCells_below W (Nat.le_refl _)).mono (Nat.le_refl _)), by rw [(setCells_rest ..).2.2.2]; exact h.lt, ?_, fun j x hj hx hn => ?_⟩
  · exact World.there_setCells h.th _ _ _
  · rcases Nat.lt_or_ge j i with q | q
    · exact World.rangeAt_setCells_apart (h.rd j x q hx hn) _ _ _ (.inr (.inl (by show j * 8 + 8 ≤ i * 8; omega)))
    · obtain rfl : j = i := by omega
      rw [hd] at hx
      obtain rfl := Option.some.inj hx
      exact World.rangeAt_setCells_same _ _ _ _ hth
theorem Tryz.infoDu : ∃ i z, Tryz.prog.info? 57 = some i ∧ i.zero = some z ∧ i.size = 8 ∧ i.bytes = 88 ∧ z.cells.size = 8 := by
  have h : (Tryz.prog.info? 57).map (fun i => (i.zero, i.size, i.bytes)) = some (some (.agg #[.string ⟨#[]⟩, .string ⟨#[]⟩, .int .i64 0, .int .i64 0, .string ⟨#[]⟩, .int .i64 0, .int .i64 0, .int .i64 0]), 8, 88) := by kernel_rfl
  obtain ⟨i, h1, h2⟩ := Option.map_eq_some_iff.1 h
  simp only [Prod.mk.injEq] at h2
  exact ⟨i, _, h1, h2.1, h2.2.1, h2.2.2, rfl⟩
theorem Tryz.sizeDu : (Tryz.prog.info? 57).map (·.size) = some 8 := by
  obtain ⟨i, z, h1, _, h3, _⟩ := Tryz.infoDu
  rw [h1]
  simp [h3]
/-- A row that was made. -/
theorem made_ins {w1 W : World} {n : Nat} {F : Du → DR} {l : List Du} {zs : List Value} (h : W.ownsRow 0 57 8 (.slice (some ⟨w1.heap.size, 0, none⟩) n n) n zs) (hg : w1.grownBy W none) : InsS w1 W n F l 0 := by
  have hc := World.ownsRow.cells h (g := w1.heap.size) rfl
  have hl := h.1
  rcases h.2 with ⟨e, _⟩ | ⟨g, cap, cur, e, hb, hgg, _⟩
  · cases e
  · injection e with e1 _ _
    injection e1 with e1
    injection e1 with e1
    subst e1
    have hlt := (Array.getElem?_eq_some_iff.1 hgg).1
    refine ⟨⟨hg.os, hg.tape, hg.output, hg.size, fun k hk => hg.block k hk (by simp)⟩, hlt, fun j hj => ⟨?_, ?_⟩, fun j x hj => by omega⟩
    · have hj2 : j < zs.length := by omega
      have := hc j zs[j] (List.getElem?_eq_getElem hj2)
      rw [addz] at this
      rw [Nat.zero_add, this]
      rfl
    · exact frozen_of_row W w1.heap.size _ cur _ hgg
def InsR (p : Nat → Addr) (n : Nat) (F : Du → DR) (l : List Du) (e : Ending) (w' : World) : Prop :=
  match insK F l with
  | some k => e = .returned (.tuple #[.slice none 0 0, .iface 173 (.pointer (some (p k)))])
  | none => ∃ g, e = .returned (.tuple #[.slice (some ⟨g, 0, none⟩) n n, .nilIface]) ∧ InsRd w' w'.heap.size g (insD F) l
set_option maxHeartbeats 4000000 in
set_option maxRecDepth 10000 in
theorem insteadOf_p {B n c : Nat} {a ca : Option Addr} {l : List Du} {F : Du → DR} {off : Int → Bool} {xs : List Int} {p : Nat → Addr} {w : World} (h : RdG duE w B (.slice a n c) l) (hB : B ≤ w.heap.size) (hn2 : n ≤ 200) (L : Laid w p) (hF : ∀ d, d ∈ l → DueOK off xs p (d.til + 1) d.n d.u d.r (F d)) (hd : ∀ d, d ∈ l → 1 ≤ d.til ∧ d.til ≤ 3652059) (hP : Calls Tryz.prog 30 #[.pointer ca] w (NewPl off xs w)) :
    Calls Tryz.prog 17 #[.slice a n c, .pointer ca] w fun e w' => InsR p n F l e w' ∧ Below w.heap.size w w' := by
  obtain ⟨hn, _⟩ := h.len
  have HR := hidIt (And.intro h hn)
  have HL := hidIt L
  have HF := hidIt hF
  have HD := hidIt hd
  have HP := hidIt hP
  clear h hn L hF hd hP
  obtain ⟨i0, z0, hI⟩ := Tryz.infoDu
  have HI := hidIt hI
  clear hI
  go_enter Tryz.func17, Tryz.ntmps17
  go_wp2_with fail
  refine HP.out.mono ?_
  rintro e w1 ⟨⟨g0, pa, pk, psa, psn, psc, rfl, hpl⟩, hb1⟩
  have HPl := hidIt hpl
  have HB1 := hidIt hb1
  clear hpl hb1
  go_wp2_with (at_make; refine wpList_make_full _ rfl (.tmp 15) (.tmp 15) 39 rfl 0 57 i0 z0 8 Tryz.underlying39 HI.out.1 HI.out.2.1 HI.out.2.2.1 .i64 .i64 n n n rfl rfl rfl rfl (by rw [HI.out.2.2.2.1]; omega) (by unfold maxLen; omega) (Nat.zero_le _) ?_; intro w2 hown hgrow; have HS0 := hidIt (made_ins (F := F) (l := l) hown hgrow); clear hown hgrow)
  go_loopw [19] (fun t wr => ∃ i : Nat, i ≤ n ∧ t = .int .i64 i ∧ insK F (l.drop i) = insK F l ∧ InsS w1 wr n F l i) (fun t _ => n - (RowKit.intOf t).toNat)
  case atStart => exact ⟨0, by omega, rfl, rfl, HS0.out⟩
  case round =>
    obtain ⟨i, hi, rfl, hK, hS⟩ := hrel
    have HK := hidIt hK
    have HS := hidIt hS
    have hlt1 := hS.lt
    have HBw := hidIt (HB1.out.trans (hS.bel.mono HB1.out.size))
    clear hK hS HS0
    by_cases hlt : i < n
    · have c0 : decide ((i : Int) < n) = true := by simp; omega
      obtain ⟨d, he, hdr⟩ := get_in (l := l) (i := i) (by have := HR.out.2; omega)
      obtain ⟨ga, o, rfl, hg, hrg⟩ := HR.out.1.at he
      obtain ⟨e0, e1, e2, e3, e4, e5, e6, e7⟩ := du_cells (range_bel hrg (HBw.out.mono hB) hg)
      have hk : duE.k = 8 := rfl
      rw [hk] at e0 e1 e2 e3 e4 e5 e6 e7
      rw [hdr] at HK
      have HE := hidIt he
      have hmem := List.mem_of_getElem? he
      obtain ⟨t1, t2⟩ := HD.out d hmem
      have HFd := hidIt (HF.out d hmem)
      have hiz : (i : Int) < n := by omega
      obtain ⟨dn, dw, df, dt, de, dN, dU, dR⟩ := d
      simp only at e0 e1 e2 e3 e4 e5 e6 e7 t1 t2
      clear hrg he hg hk hdr hmem
      by_cases hde : de = ByteArray.empty
      · subst hde
        have HN : Hid (∀ ob, InsS w1 (wr.alloc ob) n F l (i + 1)) := fun ob => (HS.out.on (bel1 wr ob)).skip HE.out rfl
        have HK2 : Hid (insK F (l.drop (i + 1)) = insK F l) := by
          have := HK.out
          rw [insK_skip rfl] at this
          exact this
        go_wp2
        refine ⟨⟨i + 1, by omega, by go_num, HK2.out, HN.out _⟩, by simp [RowKit.intOf]; omega⟩
      · obtain ⟨n1, n2⟩ := els_ne hde
        have HDue : Hid (∀ ob, Calls Tryz.prog 31 #[.pointer (some ⟨g0, 0, none⟩), .int .i64 (dt + 1), .agg #[.int .i64 dN, .int .i64 dU, .int .i64 dR]] (wr.alloc ob) fun e w' => e = .returned ((F ⟨dn, dw, df, dt, de, dN, dU, dR⟩).val p) ∧ Below (wr.alloc ob).heap.size (wr.alloc ob) w') := fun ob => pdue_p ((HPl.out.below HS.out.bel).below (bel1 wr ob)) ((HL.out.below HBw.out).below (bel1 wr ob)) HFd.out
        have HDb : Hid (∀ (T : Nat) (W : World), Below (wr.alloc (.cells #[.string dn, .string dw, .int .i64 df, .int .i64 dt, .string de, .int .i64 dN, .int .i64 dU, .int .i64 dR] T)).heap.size (wr.alloc (.cells #[.string dn, .string dw, .int .i64 df, .int .i64 dt, .string de, .int .i64 dN, .int .i64 dU, .int .i64 dR] T)) W → W.rangeAt wr.heap.size 0 (duE.f ⟨dn, dw, df, dt, de, dN, dU, dR⟩)) := fun T W hW => range_bel (alloc_range wr (duE.f ⟨dn, dw, df, dt, de, dN, dU, dR⟩) T) hW (by simp)
        cases hF : F ⟨dn, dw, df, dt, de, dN, dU, dR⟩ with
        | er k =>
          rw [hF] at HDue
          have HK2 : Hid (insK F l = some k) := by
            have := HK.out
            rw [insK_er hde hF] at this
            exact this.symm
          unfold DR.val at HDue
          clear hF
          go_wp2_with fail
          refine (HDue.out _).mono ?_
          rintro e w2 ⟨rfl, hb2⟩
          have HB2 := hidIt ((HBw.out.trans ((bel1 wr _).mono HBw.out.size)).trans (hb2.mono (HBw.out.trans ((bel1 wr _).mono HBw.out.size)).size))
          clear hb2
          go_wp2
          go_ret2
          refine ⟨?_, HB2.out⟩
          unfold InsR
          rw [HK2.out]
          rfl
        | ok x =>
          rw [hF] at HDue
          have HK2 : Hid (insK F (l.drop (i + 1)) = insK F l) := by
            have := HK.out
            rw [insK_ok hde hF] at this
            exact this
          have HJ := hidIt (insD_ok hF)
          unfold DR.val at HDue
          clear hF
          go_wp2_with fail
          refine (HDue.out _).mono ?_
          rintro e w2 ⟨rfl, hb2⟩
          have HS2 := hidIt ((HS.out.on (bel1 wr _)).on hb2)
          obtain ⟨y0, y1, y2, y3, y4, y5, y6, y7⟩ := du_cells0 (HDb.out _ _ hb2)
          simp only at y0 y1 y2 y3 y4 y5 y6 y7
          have HPut := hidIt (HS2.out.put HE.out hlt)
          have HTh : Hid (w2.there w1.heap.size (i * 8) 8) := fun j hj => by
            have := HS2.out.th (i * 8 + j) (by omega)
            rwa [Nat.zero_add] at this
          clear hb2
          obtain ⟨u0, v0⟩ := Option.isSome_iff_exists.1 (HTh.out 0 (by omega)).1
          have v0 : w2.cell? ⟨w1.heap.size, i * 8, none⟩ = some u0 := v0
          have f0 : w2.frozen? ⟨w1.heap.size, i * 8, none⟩ = false := (HTh.out 0 (by omega)).2
          obtain ⟨u1, v1⟩ := Option.isSome_iff_exists.1 (HTh.out 1 (by omega)).1
          have v1 : w2.cell? ⟨w1.heap.size, i * 8 + 1, none⟩ = some u1 := v1
          have f1 : w2.frozen? ⟨w1.heap.size, i * 8 + 1, none⟩ = false := (HTh.out 1 (by omega)).2
          obtain ⟨u2, v2⟩ := Option.isSome_iff_exists.1 (HTh.out 2 (by omega)).1
          have v2 : w2.cell? ⟨w1.heap.size, i * 8 + 2, none⟩ = some u2 := v2
          have f2 : w2.frozen? ⟨w1.heap.size, i * 8 + 2, none⟩ = false := (HTh.out 2 (by omega)).2
          obtain ⟨u3, v3⟩ := Option.isSome_iff_exists.1 (HTh.out 3 (by omega)).1
          have v3 : w2.cell? ⟨w1.heap.size, i * 8 + 3, none⟩ = some u3 := v3
          have f3 : w2.frozen? ⟨w1.heap.size, i * 8 + 3, none⟩ = false := (HTh.out 3 (by omega)).2
          obtain ⟨u4, v4⟩ := Option.isSome_iff_exists.1 (HTh.out 4 (by omega)).1
          have v4 : w2.cell? ⟨w1.heap.size, i * 8 + 4, none⟩ = some u4 := v4
          have f4 : w2.frozen? ⟨w1.heap.size, i * 8 + 4, none⟩ = false := (HTh.out 4 (by omega)).2
          obtain ⟨u5, v5⟩ := Option.isSome_iff_exists.1 (HTh.out 5 (by omega)).1
          have v5 : w2.cell? ⟨w1.heap.size, i * 8 + 5, none⟩ = some u5 := v5
          have f5 : w2.frozen? ⟨w1.heap.size, i * 8 + 5, none⟩ = false := (HTh.out 5 (by omega)).2
          obtain ⟨u6, v6⟩ := Option.isSome_iff_exists.1 (HTh.out 6 (by omega)).1
          have v6 : w2.cell? ⟨w1.heap.size, i * 8 + 6, none⟩ = some u6 := v6
          have f6 : w2.frozen? ⟨w1.heap.size, i * 8 + 6, none⟩ = false := (HTh.out 6 (by omega)).2
          obtain ⟨u7, v7⟩ := Option.isSome_iff_exists.1 (HTh.out 7 (by omega)).1
          have v7 : w2.cell? ⟨w1.heap.size, i * 8 + 7, none⟩ = some u7 := v7
          have f7 : w2.frozen? ⟨w1.heap.size, i * 8 + 7, none⟩ = false := (HTh.out 7 (by omega)).2
          go_wp2
          rw [HJ.out] at HPut
          exact ⟨⟨i + 1, by omega, by go_num, HK2.out, HPut.out⟩, by simp [RowKit.intOf]; omega⟩
    · have c0 : decide ((i : Int) < n) = false := by simp; omega
      have HE : Hid (insK F l = none) := by
        have := HK.out
        rw [List.drop_eq_nil_of_le (by have := HR.out.2; omega)] at this
        exact this.symm
      go_wp2
      go_ret2
      refine ⟨?_, HBw.out⟩
      unfold InsR
      rw [HE.out]
      exact ⟨_, rfl, hlt1, fun j x hj he => HS.out.rd j x (by have := HR.out.2; have := (List.getElem?_eq_some_iff.1 hj).1; omega) hj he⟩
end Go.Proofs.YtkaeolcchhneoaaGreatDoor
