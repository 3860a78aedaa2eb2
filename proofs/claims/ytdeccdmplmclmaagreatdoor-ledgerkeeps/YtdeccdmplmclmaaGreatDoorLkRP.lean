/-
  Ledgers, the reference: Post.
-/
import Derived.Test.YtdeccdmplmclmaaGreatDoorLkRB
namespace Go.Proofs.YtdeccdmplmclmaaGreatDoor
open Go.RowKit Go.Extern.Stop Go.Stop Go.Extern

/-- What the reference's Post leaves. -/
structure RFr (B : Nat) (w w' : World) : Prop where
  os : w'.os = w.os
  tape : w'.tape = w.tape
  output : w'.output = w.output
  size : w.heap.size ≤ w'.heap.size
  low : ∀ k, k < B → w'.heap[k]? = w.heap[k]?
  ty : ∀ k t, Ty w k t → t ≠ 27 → t ≠ 30 → w'.heap[k]? = w.heap[k]?
  map : ∀ k n D, MapI w k n D → w'.heap[k]? = w.heap[k]?
/-- What the reference's Post answers. -/
def RPR (w : World) (rb B A : Nat) (L : List En) (x : En) (e : Ending) (w' : World) : Prop :=
  match postK L x with
  | some k => e = .returned (.int .i64 ((k : Int) + 1)) ∧ Below w.heap.size w w'
  | none => e = .returned (.int .i64 0) ∧ (∃ v', RG w' rb B A v' (L ++ [x])) ∧ RFr B w w'
theorem RPR.bad {w : World} {rb B A : Nat} {L : List En} {x : En} {e : Ending} {w' : World} {k : Nat} {z : Int} (h : postK L x = some k) (he : e = .returned (.int .i64 z)) (hz : z = (k : Int) + 1) (hb : Below w.heap.size w w') : RPR w rb B A L x e w' := by
  unfold RPR
  rw [h]
  exact ⟨by rw [he, hz], hb⟩
theorem RPR.good {w : World} {rb B A : Nat} {L : List En} {x : En} {e : Ending} {w' : World} (h : postK L x = none) (he : e = .returned (.int .i64 0)) (hg : ∃ v', RG w' rb B A v' (L ++ [x])) (hb : RFr B w w') : RPR w rb B A L x e w' := by
  unfold RPR
  rw [h]
  exact ⟨he, hg, hb⟩
theorem k_bound {L : List En} {dy : Int} {tx : ByteArray} {ls : List Ln} (h : 400 ≤ L.length ∨ 20 < ls.length) : postK L ⟨dy, tx, ls⟩ = some 1 := by
  unfold postK
  rw [if_pos (by simpa using h)]
theorem k_day {L : List En} {dy : Int} {tx : ByteArray} {ls : List Ln} (h : ¬ (400 ≤ L.length ∨ 20 < ls.length)) (h2 : isDayB dy = false ∨ dy < lastDay L) : postK L ⟨dy, tx, ls⟩ = some 3 := by
  unfold postK
  rw [if_neg (by simpa using h), if_pos (by simpa using h2)]
theorem k_text {L : List En} {dy : Int} {tx : ByteArray} {ls : List Ln} (h : ¬ (400 ≤ L.length ∨ 20 < ls.length)) (h2 : ¬ (isDayB dy = false ∨ dy < lastDay L)) (h3 : lineB tx = false) : postK L ⟨dy, tx, ls⟩ = some 0 := by
  unfold postK
  rw [if_neg (by simpa using h), if_neg (by simpa using h2), if_pos h3]
theorem k_name {L : List En} {dy : Int} {tx : ByteArray} {ls : List Ln} (h : ¬ (400 ≤ L.length ∨ 20 < ls.length)) (h2 : ¬ (isDayB dy = false ∨ dy < lastDay L)) (h3 : ¬ lineB tx = false) (h4 : ∃ x, x ∈ ls ∧ isWordB x.acc = false) : postK L ⟨dy, tx, ls⟩ = some 6 := by
  unfold postK
  rw [if_neg (by simpa using h), if_neg (by simpa using h2), if_neg h3, if_pos (by obtain ⟨x, hx, hw⟩ := h4; exact List.any_eq_true.2 ⟨x, hx, by rw [hw]; rfl⟩)]
theorem k_rest {L : List En} {dy : Int} {tx : ByteArray} {ls : List Ln} (h : ¬ (400 ≤ L.length ∨ 20 < ls.length)) (h2 : ¬ (isDayB dy = false ∨ dy < lastDay L)) (h3 : ¬ lineB tx = false) (h4 : ∀ x, x ∈ ls → isWordB x.acc = true) : postK L ⟨dy, tx, ls⟩ = if (ls.any badC || tooB L ls) = true then some 2 else if sumL ls ≠ 0 then some 7 else none := by
  have hk : checkK L dy tx ls = none := by
    unfold checkK
    rw [if_neg (by simpa using h), if_neg (by simpa using h2), if_neg h3, if_neg]
    rw [Bool.not_eq_true]
    exact List.any_eq_false.2 fun x hx => by unfold badW; rw [h4 x hx]; simp
  rw [postK_behind hk]
  simp only [Bool.or_eq_true]
theorem leB_pos {s : ByteArray} : 0 < leB s ↔ lineB s = false := by
  unfold leB
  by_cases h : 300 < s.size
  · rw [if_pos h]
    have : lineB s = false := by
      unfold lineB
      rw [show decide (s.size ≤ 300) = false by simp; omega]
      rfl
    simp [this]
  · rw [if_neg h]
    cases lineB s <;> simp
theorem RFr.of {B : Nat} {w w' : World} (h : Below w.heap.size w w') (hB : B ≤ w.heap.size) : RFr B w w' := ⟨h.os, h.tape, h.output, h.size, fun k hk => h.block k (by omega), fun k t ht _ _ => h.block k ht.lt, fun k _ _ hk => h.block k (MapI.lt' hk)⟩
theorem RFr.trans {B : Nat} {a b c : World} (h : RFr B a b) (k : RFr B b c) : RFr B a c := ⟨k.os.trans h.os, k.tape.trans h.tape, k.output.trans h.output, Nat.le_trans h.size k.size, fun i hi => (k.low i hi).trans (h.low i hi), fun i t ht h1 h2 => (k.ty i t (ht.on (h.ty i t ht h1 h2)) h1 h2).trans (h.ty i t ht h1 h2), fun i n D hk => (k.map i n D (by
    obtain ⟨es, clock, x1, x2⟩ := hk
    exact ⟨es, clock, (h.map i n D ⟨es, clock, x1, x2⟩).trans x1, x2⟩)).trans (h.map i n D hk)⟩
theorem Tryz.infoREn : ∃ i z, Tryz.prog.info? 30 = some i ∧ i.zero = some z ∧ i.size = enE.k ∧ i.bytes = 48 ∧ z.cells.size = enE.k := by
  have h : (Tryz.prog.info? 30).map (fun i => (i.zero, i.size, i.bytes)) = some (some (.agg #[.int .i64 0, .string ⟨#[]⟩, .slice none 0 0]), 3, 48) := by kernel_rfl
  obtain ⟨i, h1, h2⟩ := Option.map_eq_some_iff.1 h
  simp only [Prod.mk.injEq] at h2
  exact ⟨i, _, h1, h2.1, h2.2.1, h2.2.2, rfl⟩
theorem one_cell {w : World} {b : Nat} {v x : Value} {t : TypeId} (h : w.heap[b]? = some (.cells #[v] t (0, 0))) : (w.setCell ⟨b, 0, none⟩ x).heap[b]? = some (.cells #[x] t (0, 0)) := by
  have hlt := lt_of_block h
  have h' : w.heap[b] = .cells #[v] t (0, 0) := by simpa [Array.getElem?_eq_getElem hlt] using h
  show (w.heap.modify b _)[b]? = _
  rw [Array.getElem?_eq_getElem (by simpa using hlt), Array.getElem_modify_self, h']
  rfl
/-- One more entry, in the row and in the ledger. -/
theorem RG.push {w4 w5 : World} {rb B A : Nat} {v v5 : Value} {L : List En} {x : En} {s : SlV} {vs : List SlV} (hG : RG w4 rb B A v L) (hv1 : vs.length = L.length) (hv3 : ∀ (i : Nat) s x, vs[i]? = some s → L[i]? = some x → RdS lnE w4 (· < A) s.v x.lines) (hs : RdS lnE w4 (· < A) s.v x.lines)
    (hr5 : RowG enE 30 w5 B v5 (L.zip vs ++ [(x, s)])) (hb5 : Below B w4 w5) (hk5 : ∀ k, v.ownBlock ≠ some k → k < w4.heap.size → w5.heap[k]? = w4.heap[k]?) (hv5 : ∀ k, v5.ownBlock = some k → v.ownBlock = some k ∨ w4.heap.size ≤ k) :
    w5.cell? ⟨rb, 0, none⟩ = some v ∧ w5.frozen? ⟨rb, 0, none⟩ = false ∧ RG (w5.setCell ⟨rb, 0, none⟩ v5) rb B A v5 (L ++ [x]) ∧ RFr B w4 (w5.setCell ⟨rb, 0, none⟩ v5) := by
  have tE : ∀ k, v.ownBlock = some k → Ty w4 k 30 := fun k hk => (hG.row.ty hk).2
  have tG : Ty w4 rb 27 := ⟨_, _, hG.blk⟩
  have hgo : v.ownBlock ≠ some rb := fun e => by
    have := (tE rb e).one tG
    revert this
    decide
  have hgb5 : w5.heap[rb]? = w4.heap[rb]? := hk5 rb hgo hG.lt
  have blk5 := hgb5.trans hG.blk
  have hne5 : ∀ k t, Ty w4 k t → t ≠ 27 → t ≠ 30 → (w5.setCell ⟨rb, 0, none⟩ v5).heap[k]? = w4.heap[k]? := fun k t ht h1 h2 => (Below.heap_setCell _ _ _ _ (show k ≠ rb from fun e => h1 (by subst e; exact ht.one tG))).trans (hk5 k (fun e => h2 (ht.one (tE k e))) ht.lt)
  have hmp5 : ∀ k m D', MapI w4 k m D' → (w5.setCell ⟨rb, 0, none⟩ v5).heap[k]? = w4.heap[k]? := fun k m D' hk => (Below.heap_setCell _ _ _ _ (show k ≠ rb from fun e => by subst e; exact tG.noMap hk)).trans (hk5 k (fun e => (tE k e).noMap hk) (MapI.lt' hk))
  have hlow : ∀ k, k < B → (w5.setCell ⟨rb, 0, none⟩ v5).heap[k]? = w4.heap[k]? := fun k hk => (Below.heap_setCell _ _ _ _ (show k ≠ rb by have := hG.ge; omega)).trans (hb5.block k hk)
  refine ⟨?_, frozen_of_row _ rb _ _ _ blk5, ⟨one_cell blk5, hG.ge, ⟨vs ++ [s], by simp [hv1], ?_, fun i s' y hs' hy => ?_⟩, hG.ab⟩, ⟨hb5.os, hb5.tape, hb5.output, by have := hb5.size; simp; exact this, hlow, hne5, hmp5⟩⟩
  · rw [cell_of_row _ rb 0 _ _ _ blk5]; rfl
  · rw [List.zip_append hv1.symm]
    refine hr5.on fun k hk _ _ => Below.heap_setCell _ _ _ _ (show k ≠ rb from fun e => ?_)
    subst e
    rcases hv5 k hk with h1 | h1
    · exact hgo h1
    · have := hG.lt
      omega
  · have hold : ∀ (sv : Value) (m : List Ln), RdS lnE w4 (· < A) sv m → RdS lnE (w5.setCell ⟨rb, 0, none⟩ v5) (· < A) sv m := fun sv m hm => hm.on fun k hk => ⟨hk, hlow k (by have := hG.ab; have : k < A := hk; omega)⟩
    rcases Nat.lt_or_ge i L.length with hi | hi
    · rw [List.getElem?_append_left (by omega)] at hs'
      rw [List.getElem?_append_left hi] at hy
      exact hold _ _ (hv3 i s' y hs' hy)
    · have hin : i = L.length := by
        have := (List.getElem?_eq_some_iff.1 hy).1
        simp at this
        omega
      subst hin
      rw [← hv1] at hs'
      simp at hs' hy
      subst hs' hy
      exact hold _ _ hs
theorem last_at {L : List En} {n : Nat} (hn : n = L.length) (h0 : 0 < n) : ∃ x, L[n - 1]? = some x ∧ lastDay L = x.day := by
  subst hn
  have h1 : L[L.length - 1]? = L.getLast? := (List.getLast?_eq_getElem? ..).symm
  have h2 : L ≠ [] := fun e => by rw [e] at h0; simp at h0
  refine ⟨L.getLast h2, ?_, ?_⟩
  · rw [h1, List.getLast?_eq_some_getLast h2]
  · unfold lastDay
    rw [List.getLast?_eq_some_getLast h2]
set_option maxHeartbeats 4000000 in
set_option maxRecDepth 20000 in
theorem rPost_p {rb B A n c : Nat} {a : Option Addr} {v : Value} {L : List En} {ls : List Ln} {dy : Int} {tx : ByteArray} {w : World} (hG : RG w rb B A v L) (hL : Good L) (h : RdS lnE w (· < A) (.slice a n c) ls) (htx : tx.size ≤ 100000) :
    Calls Tryz.prog 8 #[.pointer (some ⟨rb, 0, none⟩), .agg #[.int .i64 dy, .string tx, .slice a n c]] w (RPR w rb B A L ⟨dy, tx, ls⟩) := by
  obtain ⟨hn, hbig⟩ := h.len
  obtain ⟨va, vn, vc, rfl, hvn⟩ := hG.row.any3
  obtain ⟨W, hW⟩ : ∃ W, W = w.alloc (.cells #[.int .i64 dy, .string tx, .slice a n c] 30) := ⟨_, rfl⟩
  have hbW : Below w.heap.size w W := by rw [hW]; exact bel1 _ _
  have hlW : w.heap.size < W.heap.size := by rw [hW]; simp
  obtain ⟨eb, heb⟩ : ∃ eb, eb = w.heap.size := ⟨_, rfl⟩
  have hbk : W.heap[eb]? = some (.cells #[.int .i64 dy, .string tx, .slice a n c] 30 (0, 0)) := by rw [hW, heb]; exact Go.Deep.blk_alloc_new w _
  have hGW := hG.below hbW
  have hAw : A ≤ w.heap.size := by have := hG.lt; have := hG.ge; have := hG.ab; omega
  have hRW : RdS lnE W (· < A) (.slice a n c) ls := h.below (hbW.mono hAw)
  have HBW : Hid (∀ W', Below W.heap.size W W' → Below w.heap.size w W') := fun W' hb => hbW.trans (hb.mono (by omega))
  have HG := hidLL hGW
  have HR := hidLL (And.intro hRW hn)
  have HL := hidLL hL
  have z0 : W.cell? ⟨eb, 0, none⟩ = some (.int .i64 dy) := by rw [cell_of_row _ eb 0 _ _ _ hbk]; rfl
  have z1 : W.cell? ⟨eb, 1, none⟩ = some (.string tx) := by rw [cell_of_row _ eb 1 _ _ _ hbk]; rfl
  have z2 : W.cell? ⟨eb, 2, none⟩ = some (.slice a n c) := by rw [cell_of_row _ eb 2 _ _ _ hbk]; rfl
  have g0 := hGW.c0
  have HBk := hidLL hbk
  have HRl : Hid (∀ k, (Value.slice va vn vc).ownBlock = some k → k ≠ eb) := fun k hk e => by have := (hG.row.ty hk).2.lt; omega
  have hebW : eb < W.heap.size := by omega
  have HAw : Hid (A ≤ W.heap.size) := by show _ ≤ _; omega
  have HBw : Hid (B ≤ w.heap.size) := by show _ ≤ _; have := hG.ge; have := hG.lt; omega
  have HD := hidLL (rIsDay_any dy)
  have HLe := hidLL (lineError_any tx htx)
  have HV := hidLL hvn
  have HN := hidLL hn
  have hvn4 : vn ≤ 400 := by have := hL.len; omega
  clear hG h hL hbW hGW hRW hbk hn hvn htx
  go_enter Tryz.func8, Tryz.ntmps8
  go_upto_region 1 with fail
  rw [← hW, ← heb]
  clear hW heb
  by_cases h4 : 400 ≤ vn
  · have hz4 : (400 : Int) ≤ vn := by omega
    have HK : Hid (postK L ⟨dy, tx, ls⟩ = some 1) := k_bound (.inl (by have := HV.out; omega))
    go_wp2
    go_ret
    exact RPR.bad HK.out rfl (by first | rfl | omega) (HBW.out _ (Below.refl _ _))
  · have c4 : decide ((400 : Int) ≤ vn) = false := by simp; omega
    by_cases h20 : 20 < n
    · have hz20 : (20 : Int) < n := by omega
      have HK : Hid (postK L ⟨dy, tx, ls⟩ = some 1) := k_bound (.inr (by have := HN.out; omega))
      go_wp2
      go_ret
      exact RPR.bad HK.out rfl (by first | rfl | omega) (HBW.out _ (Below.refl _ _))
    · have c20 : decide ((20 : Int) < n) = false := by simp; omega
      have HK0 : Hid (¬ (400 ≤ L.length ∨ 20 < ls.length)) := by show ¬ _; have := HV.out; have := HN.out; omega
      go_wp2_with fail
      refine (HD.out W).mono ?_
      rintro e w1 ⟨rfl, ew⟩
      subst w1
      by_cases hday : isDayB dy = true
      · have c0 : isDayB dy = true := hday
        rw [c0]
        go_upto_region 5 with fail
        go_cut [50] (fun y wx => y = .bool (decide (dy < lastDay L)) ∧ Below W.heap.size W wx)
        case first =>
          by_cases hv0 : 0 < vn
          · have hvz : (0 : Int) < vn := by omega
            obtain ⟨m, hm⟩ : ∃ m, m = vn - 1 := ⟨_, rfl⟩
            obtain ⟨x, hx, hxl⟩ := last_at HV.out hv0
            rw [← hm] at hx
            obtain ⟨g, o, sa, sn, sc, rfl, hg, q0, q1, q2, _⟩ := en_at HG.out.rd hx
            have HXl := hidLL hxl
            obtain ⟨xd, xt, xl⟩ := x
            simp only at q0 q1 HXl
            have hmz : (vn : Int) - 1 = (m : Int) := by omega
            have hmw : IntKind.i64.wrap (m : Int) = (m : Int) := by rw [IntKind.wrap_i64]; omega
            have hmw2 : IntKind.i64.wrap ((vn : Int) - 1) = (m : Int) := by rw [IntKind.wrap_i64]; omega
            have hmn : (m : Int) < (vn : Int) := by omega
            have cv : decide (0 < vn) = true := by simpa using hv0
            clear hx hxl hm
            by_cases hl : dy < xd
            · have hl2 : dy < xd := hl
              have HLd : Hid (decide (dy < lastDay L) = true) := by show _ = _; rw [HXl.out]; simpa using hl
              go_quiet (fail)
              go_wp2
              go_meet
              exact ⟨by rw [HLd.out], by first | exact Below.refl _ _ | exact (Below.refl _ _).drew | exact bdrewN (Below.refl _ _) _⟩
            · have hl2 : ¬ dy < xd := hl
              have HLd : Hid (decide (dy < lastDay L) = false) := by show _ = _; rw [HXl.out]; simpa using hl
              go_quiet (fail)
              go_wp2
              go_meet
              exact ⟨by rw [HLd.out], by first | exact Below.refl _ _ | exact (Below.refl _ _).drew | exact bdrewN (Below.refl _ _) _⟩
          · have cv0 : decide ((0 : Int) < vn) = false := by simp; omega
            have HLd : Hid (decide (dy < lastDay L) = false) := by
              show _ = _
              have : L = [] := List.eq_nil_of_length_eq_zero (by have := HV.out; omega)
              subst this
              have h1 : 1 ≤ dy := by
                unfold isDayB at c0
                rw [Bool.and_eq_true] at c0
                simpa using c0.1
              rw [lastDay_nil]
              simp
              omega
            go_quiet (fail)
            go_wp2
            go_meet
            exact ⟨by rw [HLd.out], by first | exact Below.refl _ _ | exact (Below.refl _ _).drew | exact bdrewN (Below.refl _ _) _⟩
        case rest =>
          obtain ⟨h50, hbc⟩ := hcut
          subst h50
          have y0 : wc.cell? ⟨eb, 0, none⟩ = some (.int .i64 dy) := (hbc.cell (p := ⟨eb, 0, none⟩) hebW).trans z0
          have y1 : wc.cell? ⟨eb, 1, none⟩ = some (.string tx) := (hbc.cell (p := ⟨eb, 1, none⟩) hebW).trans z1
          have y2 : wc.cell? ⟨eb, 2, none⟩ = some (.slice a n c) := (hbc.cell (p := ⟨eb, 2, none⟩) hebW).trans z2
          have HBc := hidLL hbc
          have HGc := hidLL (HG.out.below hbc)
          have HRc : Hid (RdS lnE wc (· < A) (.slice a n c) ls) := HR.out.1.below (hbc.mono HAw.out)
          have HBkc : Hid (wc.heap[eb]? = some (.cells #[.int .i64 dy, .string tx, .slice a n c] 30 (0, 0))) := (hbc.block eb hebW).trans HBk.out
          have HBcw : Hid (∀ W', Below wc.heap.size wc W' → Below w.heap.size w W') := fun W' hb => HBW.out W' (HBc.out.trans (hb.mono HBc.out.size))
          have hebc : eb < wc.heap.size := lt_of_block HBkc.out
          clear z0 z1 z2 g0 hbc
          by_cases hlate : dy < lastDay L
          · have HK : Hid (postK L ⟨dy, tx, ls⟩ = some 3) := k_day HK0.out (.inr hlate)
            rw [show decide (dy < lastDay L) = true by simpa using hlate]
            clear hlate
            go_wp2
            go_ret
            exact RPR.bad HK.out rfl (by first | rfl | omega) (HBcw.out _ (Below.refl _ _))
          · have HK1 : Hid (¬ (isDayB dy = false ∨ dy < lastDay L)) := by show ¬ _; rw [c0]; simp; omega
            rw [show decide (dy < lastDay L) = false by simpa using hlate]
            clear hlate
            go_wp2_with fail
            refine (HLe.out wc).mono ?_
            rintro e w1 ⟨rfl, ew⟩
            subst w1
            have hleb : leB tx ≤ 2 := by unfold leB; split; omega; split <;> omega
            by_cases hle : 0 < leB tx
            · have HK : Hid (postK L ⟨dy, tx, ls⟩ = some 0) := k_text HK0.out HK1.out (leB_pos.1 hle)
              have hlz : (0 : Int) < leB tx := by omega
              generalize leB tx = lb at *
              go_wp2
              go_ret
              exact RPR.bad HK.out rfl (by first | rfl | omega) (HBcw.out _ (Below.refl _ _))
            · have HK2 : Hid (¬ lineB tx = false) := by show ¬ _; rw [← leB_pos]; exact hle
              have hlz : ¬ (0 : Int) < leB tx := by omega
              have clz : decide ((0 : Int) < leB tx) = false := by simpa using hlz
              generalize leB tx = lb at *
              have hn20 : n ≤ 20 := by omega
              have HWd := hidLL (fun s => rIsWord_f s wc)
              have HSm := hidLL rSmall_any
              clear HD HLe HG HBc HBk HR hbig y0 y1 c4 c20
              go_wp2_with fail
              go_loopw [7, 8, 9] (fun s b t wr => ∃ (j : Nat) (y : Int) (bb : Bool), j ≤ n ∧ s = .int .i64 y ∧ b = .bool bb ∧ t = .int .i64 j ∧ bb = !((ls.take j).any badC) ∧ (bb = true → y = sumL (ls.take j)) ∧ -(1000000000000 * (j : Int)) ≤ y ∧ y ≤ 1000000000000 * (j : Int) ∧ (∀ x, x ∈ ls.take j → isWordB x.acc = true) ∧ wr = wc) (fun _ _ t _ => n - (RowKit.intOf t).toNat)
              case atStart => exact ⟨0, 0, true, by omega, rfl, rfl, rfl, rfl, (fun _ => rfl), by omega, by omega, (fun x hx => by simp at hx), rfl⟩
              case round =>
                obtain ⟨j, y, bb, hj, rfl, rfl, rfl, hbb, hy, hy1, hy2, hwd, ew⟩ := hrel
                subst wr
                have HBb := hidLL hbb
                have HY := hidLL hy
                have HWs := hidLL hwd
                clear hbb hy hwd
                by_cases hlt : j < n
                · have c1 : decide ((j : Int) < n) = true := by simp; omega
                  have hjz : (j : Int) < n := by omega
                  obtain ⟨u, hu, _⟩ := get_in (l := ls) (i := j) (by have := HN.out; omega)
                  obtain ⟨g2, o2, rfl, hg2, hrg⟩ := HRc.out.at hu
                  obtain ⟨p0, p1⟩ := ln_cells hrg
                  have hk2 : lnE.k = 2 := rfl
                  rw [hk2] at p0 p1
                  have HU := hidLL (And.intro (List.mem_of_getElem? hu) (take_succ' hu))
                  obtain ⟨ua, uc⟩ := u
                  simp only at p0 p1
                  clear hrg hu hk2
                  go_wp2_with fail
                  refine (HWd.out ua).mono ?_
                  rintro e w1 ⟨rfl, ew⟩
                  subst w1
                  cases hw : isWordB ua with
                  | false =>
                    have HK : Hid (postK L ⟨dy, tx, ls⟩ = some 6) := k_name HK0.out HK1.out HK2.out ⟨_, HU.out.1, hw⟩
                    go_wp2
                    go_ret
                    exact RPR.bad HK.out rfl (by first | rfl | omega) (HBcw.out _ (Below.refl _ _))
                  | true =>
                    have HWs2 : Hid (∀ x, x ∈ ls.take (j + 1) → isWordB x.acc = true) := fun x hx => by
                      rw [HU.out.2] at hx
                      rcases List.mem_append.1 hx with h1 | h1
                      · exact HWs.out x h1
                      · obtain rfl : x = ⟨ua, uc⟩ := by simpa using h1
                        exact hw
                    clear hw
                    go_wp2_with fail
                    refine (HSm.out uc wc).mono ?_
                    rintro e w1 ⟨rfl, ew⟩
                    subst w1
                    cases hc : okC uc with
                    | false =>
                      have HB2 : Hid (false = !((ls.take (j + 1)).any badC)) := by
                        show _ = _
                        rw [HU.out.2, List.any_append]
                        simp [badC, hc]
                      clear hc
                      cases bb with
                      | false =>
                        go_wp2
                        go_roundw
                        case rel => exact ⟨j + 1, y, false, hlt, rfl, rfl, by go_num, HB2.out, (fun h => by cases h), by omega, by omega, HWs2.out, by first | rfl | trivial⟩
                        case measure => simp [RowKit.intOf]; omega
                      | true =>
                        go_wp2
                        go_roundw
                        case rel => exact ⟨j + 1, y, false, hlt, rfl, rfl, by go_num, HB2.out, (fun h => by cases h), by omega, by omega, HWs2.out, by first | rfl | trivial⟩
                        case measure => simp [RowKit.intOf]; omega
                    | true =>
                      obtain ⟨u1, u2⟩ := okC_iff.1 hc
                      have HB2 : Hid (bb = !((ls.take (j + 1)).any badC)) := by
                        show _ = _
                        rw [HU.out.2, List.any_append, HBb.out]
                        simp [badC, hc]
                      have HY2 : Hid (bb = true → y + uc = sumL (ls.take (j + 1))) := fun h => by
                        rw [HU.out.2, sumL_app', ← HY.out h]
                        simp [sumL]
                      clear hc
                      cases bb with
                      | false =>
                        go_wp2
                        go_roundw
                        case rel => exact ⟨j + 1, y + uc, false, hlt, by go_num, rfl, by go_num, HB2.out, HY2.out, by omega, by omega, HWs2.out, by first | rfl | trivial⟩
                        case measure => simp [RowKit.intOf]; omega
                      | true =>
                        go_wp2
                        go_roundw
                        case rel => exact ⟨j + 1, y + uc, true, hlt, by go_num, rfl, by go_num, HB2.out, (fun _ => HY2.out (by first | rfl | trivial)), by omega, by omega, HWs2.out, by first | rfl | trivial⟩
                        case measure => simp [RowKit.intOf]; omega
                · have c1 : decide ((j : Int) < n) = false := by simp; omega
                  have hfull : ls.take j = ls := List.take_of_length_le (by have := HN.out; omega)
                  have HB2 : Hid (bb = !(ls.any badC)) := by have h1 := HBb.out; rw [hfull] at h1; exact h1
                  have HY2 : Hid (bb = true → y = sumL ls) := by have h1 := HY.out; rw [hfull] at h1; exact h1
                  have HKr : Hid (postK L ⟨dy, tx, ls⟩ = if (ls.any badC || tooB L ls) = true then some 2 else if sumL ls ≠ 0 then some 7 else none) := k_rest HK0.out HK1.out HK2.out (by have h1 := HWs.out; rw [hfull] at h1; exact h1)
                  have hyb : -20000000000000 ≤ y ∧ y ≤ 20000000000000 := by omega
                  clear hfull HBb HY HWs HK0 HK1 HK2 hy1 hy2 HWd
                  obtain ⟨b0, hb0⟩ : ∃ b0, b0 = bb := ⟨_, rfl⟩
                  rw [← hb0] at HB2 HY2
                  have HB0 := hidLL hb0
                  clear hb0
                  go_wp2_with fail
                  go_loopw [8, 12] (fun b t wr => ∃ (i : Nat) (bq : Bool), i ≤ n ∧ b = .bool bq ∧ t = .int .i64 i ∧ bq = (b0 && !((ls.take i).any fun x => !okC (balE x.acc L + balL x.acc ls))) ∧ Below wc.heap.size wc wr) (fun _ t _ => n - (RowKit.intOf t).toNat)
                  case atStart => exact ⟨0, bb, by omega, rfl, rfl, by rw [HB0.out]; simp, Below.refl _ _⟩
                  case round =>
                    clear HB0 c1 hj hlt
                    obtain ⟨i, bq, hi, rfl, rfl, hbq, hbr⟩ := hrel
                    have HQ := hidLL hbq
                    have HBr := hidLL hbr
                    have v2 : wr.cell? ⟨eb, 2, none⟩ = some (.slice a n c) := (hbr.cell (p := ⟨eb, 2, none⟩) hebc).trans y2
                    obtain ⟨w0, hw0⟩ : ∃ w0 : World, w0 = wr := ⟨_, rfl⟩
                    subst wr
                    clear hbq hbr
                    cases bq with
                    | false =>
                      have HK : Hid (postK L ⟨dy, tx, ls⟩ = some 2) := by
                        show _ = _
                        rw [HKr.out, if_pos]
                        have h1 := HQ.out
                        rw [HB2.out] at h1
                        cases hc : ls.any badC with
                        | true => rfl
                        | false =>
                          rw [hc] at h1
                          rw [Bool.false_or]
                          have h2 : ((ls.take i).any fun x => !okC (balE x.acc L + balL x.acc ls)) = true := by simpa using h1.symm
                          obtain ⟨x, hx, hx2⟩ := List.any_eq_true.1 h2
                          exact List.any_eq_true.2 ⟨x, List.mem_of_mem_take hx, hx2⟩
                      by_cases hlt : i < n
                      · have c1 : decide ((i : Int) < n) = true := by simp; omega
                        have hiz : (i : Int) < n := by omega
                        go_wp2
                        go_ret
                        exact RPR.bad HK.out rfl (by first | rfl | omega) (HBcw.out _ HBr.out)
                      · have c1 : decide ((i : Int) < n) = false := by simp; omega
                        go_wp2
                        go_ret
                        exact RPR.bad HK.out rfl (by first | rfl | omega) (HBcw.out _ HBr.out)
                    | true =>
                      have hb0t : b0 = true := by
                        have h1 := HQ.out
                        cases b0
                        · cases h1
                        · rfl
                      have HNb : Hid (ls.any badC = false) := by
                        have h1 := HB2.out
                        rw [hb0t] at h1
                        show _ = _
                        simpa using h1.symm
                      have HYs : Hid (y = sumL ls) := HY2.out hb0t
                      have HCt : Hid (∀ x, x ∈ ls → -1000000000000 ≤ x.cents ∧ x.cents ≤ 1000000000000) := fun x hx => by
                        have h1 := List.any_eq_false.1 HNb.out x hx
                        unfold badC at h1
                        exact okC_iff.1 (by simpa using h1)
                      have HQ2 : Hid (((ls.take i).any fun x => !okC (balE x.acc L + balL x.acc ls)) = false) := by
                        have h1 := HQ.out
                        rw [hb0t] at h1
                        show _ = _
                        simpa using h1.symm
                      have Hb0 := hidLL hb0t
                      clear HQ hb0t
                      by_cases hlt : i < n
                      · have c1 : decide ((i : Int) < n) = true := by simp; omega
                        have hiz : (i : Int) < n := by omega
                        have hiz2 : (i : Int) < n ∧ 0 ≤ (i : Int) := by omega
                        obtain ⟨x, hx, _⟩ := get_in (l := ls) (i := i) (by have := HN.out; omega)
                        obtain ⟨g2, o2, rfl, hg2, hrg⟩ := (HRc.out.below (HBr.out.mono (by have := HGc.out.lt; have := HGc.out.ge; have := HGc.out.ab; omega))).at hx
                        obtain ⟨p0, p1⟩ := ln_cells hrg
                        have hk2 : lnE.k = 2 := rfl
                        rw [hk2] at p0 p1
                        have HX := hidLL (And.intro (List.mem_of_getElem? hx) (take_succ' hx))
                        obtain ⟨xa, xc⟩ := x
                        simp only at p0 p1
                        have hbal := rBal_p (acc := xa) (on := 3652059) (HGc.out.below HBr.out) HL.out
                        rw [HL.out.onAll] at hbal
                        have HBal := hidLL hbal
                        obtain ⟨bx1, bx2⟩ := HL.out.bal xa
                        have HAq : Hid (A ≤ wc.heap.size) := by show _ ≤ _; have := HGc.out.lt; have := HGc.out.ge; have := HGc.out.ab; omega
                        obtain ⟨bx, hbx⟩ : ∃ bx, bx = balE xa L := ⟨_, rfl⟩
                        rw [← hbx] at HBal bx1 bx2
                        have HBx := hidLL hbx
                        clear hrg hx hk2 hbal hbx p1
                        go_wp2_with fail
                        refine HBal.out.mono ?_
                        rintro e w1 ⟨rfl, ew⟩
                        subst w1
                        go_wp2_with fail
                        go_loopw [13, 14] (fun s t wq => ∃ (k : Nat) (z : Int), k ≤ n ∧ s = .int .i64 z ∧ t = .int .i64 k ∧ z = bx + balL xa (ls.take k) ∧ -(1000000000000 + 1000000000000 * (k : Int)) ≤ z ∧ z ≤ 1000000000000 + 1000000000000 * (k : Int) ∧ Below w0.heap.size w0 wq) (fun _ t _ => n - (RowKit.intOf t).toNat)
                        case atStart => exact ⟨0, bx, by omega, rfl, rfl, by simp [balL], by omega, by omega, Below.refl _ _⟩
                        case round =>
                          obtain ⟨k, z, hk, rfl, rfl, hz, hz1, hz2, hbq⟩ := hrel
                          have HZ := hidLL hz
                          have HBq := hidLL hbq
                          have HBcq : Hid (Below wc.heap.size wc wr) := HBr.out.trans (hbq.mono HBr.out.size)
                          have hgc : g2 < wc.heap.size := by have := HAq.out; omega
                          have t2 : wr.cell? ⟨eb, 2, none⟩ = some (.slice (some ⟨g2, o2, none⟩) n c) := (HBcq.out.cell (p := ⟨eb, 2, none⟩) hebc).trans y2
                          have t0 : wr.cell? ⟨g2, o2 + i * 2, none⟩ = some (.string xa) := (hbq.cell (p := ⟨g2, o2 + i * 2, none⟩) (show g2 < w0.heap.size by have := HBr.out.size; omega)).trans p0
                          clear hz hbq
                          by_cases hltk : k < n
                          · have c2 : decide ((k : Int) < n) = true := by simp; omega
                            have hkz : (k : Int) < n := by omega
                            obtain ⟨u, hu, _⟩ := get_in (l := ls) (i := k) (by have := HN.out; omega)
                            obtain ⟨g3, o3, eg, hg3, hrg⟩ := (HRc.out.below (HBcq.out.mono HAq.out)).at hu
                            injection eg with eg
                            injection eg with eg1 eg2 _
                            subst eg1 eg2
                            obtain ⟨r0, r1⟩ := ln_cells hrg
                            have hk2 : lnE.k = 2 := rfl
                            rw [hk2] at r0 r1
                            obtain ⟨u1, u2⟩ := HCt.out u (List.mem_of_getElem? hu)
                            have HU : Hid (balL xa (ls.take (k + 1)) = balL xa (ls.take k) + if u.acc = xa then u.cents else 0) := by
                              show _ = _
                              rw [take_succ' hu, balL_app', balL_one']
                            obtain ⟨ua, uc⟩ := u
                            simp only at r0 r1 u1 u2 HU
                            clear hrg hu hk2
                            go_upto_region 28 with fail
                            by_cases hacc : ua = xa
                            · have HQ : Hid (z + uc = bx + balL xa (ls.take (k + 1))) := by
                                have := HZ.out
                                have h2 := HU.out
                                rw [if_pos hacc] at h2
                                show _ = _
                                omega
                              subst hacc
                              go_quiet (fail)
                              go_wp2
                              go_roundw
                              case rel => exact ⟨k + 1, z + uc, hltk, by go_num, by go_num, HQ.out, by omega, by omega, by first | exact HBq.out | exact HBq.out.drew | exact bdrewN HBq.out _⟩
                              case measure => simp [RowKit.intOf]; omega
                            · have HQ : Hid (z = bx + balL xa (ls.take (k + 1))) := by
                                have := HZ.out
                                have h2 := HU.out
                                rw [if_neg hacc] at h2
                                show _ = _
                                omega
                              have h3 := toListB_ne hacc
                              clear hacc
                              go_quiet (fail)
                              go_wp2
                              go_roundw
                              case rel => exact ⟨k + 1, z, hltk, rfl, by go_num, HQ.out, by omega, by omega, by first | exact HBq.out | exact HBq.out.drew | exact bdrewN HBq.out _⟩
                              case measure => simp [RowKit.intOf]; omega
                          · have c2 : decide ((k : Int) < n) = false := by simp; omega
                            have HZ2 : Hid (z = balE xa L + balL xa ls) := by
                              have h1 := HZ.out
                              rw [show ls.take k = ls from List.take_of_length_le (by have := HN.out; omega), HBx.out] at h1
                              exact h1
                            have HS2 : Hid (okC z = (b0 && !((ls.take (i + 1)).any fun x => !okC (balE x.acc L + balL x.acc ls)))) := by
                              show _ = _
                              rw [HX.out.2, List.any_append, HQ2.out, Hb0.out, HZ2.out]
                              simp
                            go_wp2_with fail
                            refine (HSm.out z wr).mono ?_
                            rintro e w1 ⟨rfl, ew⟩
                            subst w1
                            generalize okC z = oz at *
                            go_wp2
                            go_roundw
                            case rel => exact ⟨i + 1, oz, hlt, rfl, by go_num, HS2.out, HBcq.out⟩
                            case measure => simp [RowKit.intOf]; omega
                      · have c1 : decide ((i : Int) < n) = false := by simp; omega
                        have HT0 : Hid (tooB L ls = false) := by
                          have h1 := HQ2.out
                          rw [show ls.take i = ls from List.take_of_length_le (by have := HN.out; omega)] at h1
                          exact h1
                        by_cases hsum : y = 0
                        · subst hsum
                          have HK : Hid (postK L ⟨dy, tx, ls⟩ = none) := by
                            show _ = _
                            rw [HKr.out, HNb.out, HT0.out, if_neg (by simp), if_neg (by rw [← HYs.out]; simp)]
                          have hG0 := HGc.out.below HBr.out
                          have hblk0 := (HBr.out.block eb hebc).trans HBkc.out
                          have v0 : w0.cell? ⟨eb, 0, none⟩ = some (.int .i64 dy) := by rw [cell_of_row _ eb 0 _ _ _ hblk0]; rfl
                          have v1 : w0.cell? ⟨eb, 1, none⟩ = some (.string tx) := by rw [cell_of_row _ eb 1 _ _ _ hblk0]; rfl
                          have g0 := hG0.c0
                          have hg0lt := hG0.lt
                          have heb0 : eb < w0.heap.size := lt_of_block hblk0
                          have hB0 : B ≤ w0.heap.size := Nat.le_trans hG0.ge (Nat.le_of_lt hg0lt)
                          have hs0 : RdS lnE w0 (· < A) (SlV.v ⟨a, n, c⟩) ls := HRc.out.below (HBr.out.mono (by have := HGc.out.lt; have := HGc.out.ge; have := HGc.out.ab; omega))
                          obtain ⟨vs, hv1, hv2, hv3⟩ := hG0.row
                          have HRowD : Hid (RowG enE 30 w0.drew B (.slice va vn vc) (L.zip vs)) := hv2.on fun _ _ _ _ => rfl
                          have hl0 : (L.zip vs).length + 1 ≤ 1000000 := by rw [zip_len hv1]; have := HL.out.len; omega
                          have HPush : Hid (∀ v5 w5, RowG enE 30 w5 B v5 (L.zip vs ++ [((⟨dy, tx, ls⟩ : En), (⟨a, n, c⟩ : SlV))]) → Below B w0 w5 → (∀ k, (Value.slice va vn vc).ownBlock ≠ some k → k < w0.heap.size → w5.heap[k]? = w0.heap[k]?) → (∀ k, v5.ownBlock = some k → (Value.slice va vn vc).ownBlock = some k ∨ w0.heap.size ≤ k) →
                              w5.cell? ⟨rb, 0, none⟩ = some (.slice va vn vc) ∧ w5.frozen? ⟨rb, 0, none⟩ = false ∧ RG (w5.setCell ⟨rb, 0, none⟩ v5) rb B A v5 (L ++ [⟨dy, tx, ls⟩]) ∧ RFr B w0 (w5.setCell ⟨rb, 0, none⟩ v5)) := fun v5 w5 h1 h2 h3 h4 => hG0.push hv1 hv3 hs0 h1 h2 h3 h4
                          have HFw : Hid (RFr B w w0) := RFr.of (HBcw.out _ HBr.out) (by have := hG0.ge; show B ≤ w.heap.size; have := HBw.out; omega)
                          clear hG0 hblk0 hs0 hv1 hv2 hv3 HYs HY2 HCt HQ2 HT0 HNb HKr
                          go_upto_region 35 with fail
                          go_cut [] (fun wx => ∃ v5, RG wx rb B A v5 (L ++ [⟨dy, tx, ls⟩]) ∧ RFr B w0 wx)
                          case first =>
                            go_region_law (refine step_push_g (E := enE) Tryz.infoREn (by decide) Tryz.underlying22 rfl (.tmp 147) (.tmp 149) rfl B (.slice va vn vc) (L.zip vs) ((⟨dy, tx, ls⟩ : En), (⟨a, n, c⟩ : SlV)) _ rfl (by simp [Act.eval]) HRowD.out (by simp [Act.eval]) hB0 hl0 ?_; intro v5 w5 hr5 hb5 hk5 hv5; obtain ⟨pa, pn, pc, rfl, hpn⟩ := hr5.any3; have hpp := HPush.out _ w5 hr5 ⟨hb5.os, hb5.tape, hb5.output, hb5.size, hb5.block⟩ hk5 hv5; have HPp := hidLL hpp; have p0 := hpp.1; have p1 := hpp.2.1; clear hr5 hb5 hk5 hv5 hpp hpn)
                            all_goals
                              go_wp2
                              go_meet
                              exact ⟨_, HPp.out.2.2⟩
                          case rest =>
                            obtain ⟨v5, h5, h6⟩ := hcut
                            have H5 := hidLL (And.intro h5 h6)
                            clear h5 h6
                            go_wp2
                            go_ret
                            exact RPR.good HK.out rfl ⟨_, H5.out.1⟩ (HFw.out.trans H5.out.2)
                        · have HK : Hid (postK L ⟨dy, tx, ls⟩ = some 7) := by
                            show _ = _
                            rw [HKr.out, HNb.out, HT0.out, if_neg (by simp), if_pos (by rw [← HYs.out]; exact hsum)]
                          have hy0 : (y == 0) = false := by simpa using hsum
                          clear HYs HY2
                          go_wp2
                          go_ret
                          exact RPR.bad HK.out rfl (by first | rfl | omega) (HBcw.out _ HBr.out)
      · have c0 : isDayB dy = false := by simpa using hday
        have HK : Hid (postK L ⟨dy, tx, ls⟩ = some 3) := k_day HK0.out (.inl c0)
        rw [c0]
        go_wp2_with fail
        go_quiet (fail)
        go_wp2
        go_ret
        exact RPR.bad HK.out rfl (by first | rfl | omega) (HBW.out _ (by first | exact Below.refl _ _ | exact (Below.refl _ _).drew | exact bdrewN (Below.refl _ _) _))
end Go.Proofs.YtdeccdmplmclmaaGreatDoor
