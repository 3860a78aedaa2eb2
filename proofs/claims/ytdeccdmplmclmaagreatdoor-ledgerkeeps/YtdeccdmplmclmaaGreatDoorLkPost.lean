/-
  Ledgers, the program: Post.
-/
import Derived.Test.YtdeccdmplmclmaaGreatDoorLkCl
import Derived.WalkSpells
namespace Go.Proofs.YtdeccdmplmclmaaGreatDoor
open Go.RowKit Go.Extern.Stop Go.Stop Go.Extern

theorem postK_check {L : List En} {dy : Int} {tx : ByteArray} {ls : List Ln} {k : Nat} (h : checkK L dy tx ls = some k) : postK L ⟨dy, tx, ls⟩ = some k := by
  unfold checkK at h
  unfold postK
  simp only
  split at h
  · rename_i h1; rw [if_pos h1]; exact h
  · rename_i h1
    rw [if_neg h1]
    split at h
    · rename_i h2; rw [if_pos h2]; exact h
    · rename_i h2
      rw [if_neg h2]
      split at h
      · rename_i h3; rw [if_pos h3]; exact h
      · rename_i h3
        rw [if_neg h3]
        split at h
        · rename_i h4
          have : (ls.any fun x => !isWordB x.acc) = true := h4
          rw [if_pos this]; exact h
        · cases h
theorem postK_behind {L : List En} {dy : Int} {tx : ByteArray} {ls : List Ln} (h : checkK L dy tx ls = none) : postK L ⟨dy, tx, ls⟩ = if ls.any badC = true ∨ tooB L ls = true then some 2 else if sumL ls ≠ 0 then some 7 else none := by
  unfold checkK at h
  split at h
  · cases h
  rename_i h1
  split at h
  · cases h
  rename_i h2
  split at h
  · cases h
  rename_i h3
  split at h
  · cases h
  rename_i h4
  unfold postK
  simp only
  have h4' : ¬ (ls.any fun x => !isWordB x.acc) = true := h4
  rw [if_neg h1, if_neg h2, if_neg h3, if_neg h4']
  have e : (ls.any fun x => !okC x.cents) = ls.any badC := rfl
  rw [e]
  cases ls.any badC <;> cases tooB L ls <;> simp
theorem checkK_none {L : List En} {dy : Int} {tx : ByteArray} {ls : List Ln} (h : checkK L dy tx ls = none) : ls.length ≤ 20 ∧ ∀ x, x ∈ ls → isWordB x.acc = true := by
  unfold checkK at h
  split at h
  · cases h
  rename_i h1
  split at h
  · cases h
  split at h
  · cases h
  split at h
  · cases h
  rename_i h4
  rw [Bool.not_eq_true, Bool.or_eq_false_iff] at h1
  rw [Bool.not_eq_true] at h4
  exact ⟨by have := h1.2; simp at this; omega, fun x hx => by have := (List.any_eq_false.1 h4) x hx; unfold badW at this; simpa using this⟩
theorem two_cells {w : World} {b : Nat} {v u x : Value} {t : TypeId} (h : w.heap[b]? = some (.cells #[v, u] t (0, 0))) : (w.setCell ⟨b, 0, none⟩ x).heap[b]? = some (.cells #[x, u] t (0, 0)) := by
  have hlt := lt_of_block h
  have h' : w.heap[b] = .cells #[v, u] t (0, 0) := by simpa [Array.getElem?_eq_getElem hlt] using h
  show (w.heap.modify b _)[b]? = _
  rw [Array.getElem?_eq_getElem (by simpa using hlt), Array.getElem_modify_self, h']
  rfl
theorem two_cells1 {w : World} {b : Nat} {v u x : Value} {t : TypeId} (h : w.heap[b]? = some (.cells #[v, u] t (0, 0))) : (w.setCell ⟨b, 1, none⟩ x).heap[b]? = some (.cells #[v, x] t (0, 0)) := by
  have hlt := lt_of_block h
  have h' : w.heap[b] = .cells #[v, u] t (0, 0) := by simpa [Array.getElem?_eq_getElem hlt] using h
  show (w.heap.modify b _)[b]? = _
  rw [Array.getElem?_eq_getElem (by simpa using hlt), Array.getElem_modify_self, h']
  rfl
theorem three_cells2 {w : World} {b : Nat} {v u y x : Value} {t : TypeId} (h : w.heap[b]? = some (.cells #[v, u, y] t (0, 0))) : (w.setCell ⟨b, 2, none⟩ x).heap[b]? = some (.cells #[v, u, x] t (0, 0)) := by
  have hlt := lt_of_block h
  have h' : w.heap[b] = .cells #[v, u, y] t (0, 0) := by simpa [Array.getElem?_eq_getElem hlt] using h
  show (w.heap.modify b _)[b]? = _
  rw [Array.getElem?_eq_getElem (by simpa using hlt), Array.getElem_modify_self, h']
  rfl
theorem set_alloc (w : World) (a : Addr) (u : Value) (o : Obj) (h : a.block < w.heap.size) : (w.alloc o).setCell a u = (w.setCell a u).alloc o := by
  unfold World.setCell World.alloc
  simp only [World.mk.injEq, and_true]
  apply Array.ext
  · simp
  · intro i h1 h2
    simp only [Array.size_modify, Array.size_push] at h1
    rw [Array.getElem_modify, Array.getElem_push, Array.getElem_push]
    simp only [Array.size_modify]
    by_cases e : i < w.heap.size
    · simp only [dif_pos e, Array.getElem_modify]
    · have : ¬ a.block = i := by omega
      simp only [dif_neg e, if_neg this]
/-- What Post answers. -/
def PostR (w : World) (gb B : Nat) (p : Nat → Addr) (L : List En) (x : En) (e : Ending) (w' : World) : Prop :=
  match postK L x with
  | some k => e = .returned (.iface 162 (.pointer (some (p k)))) ∧ Below w.heap.size w w'
  | none => e = .returned .nilIface ∧ (∃ v' mv', LG w' gb B v' mv' (L ++ [x])) ∧ PFr B w w'
theorem PostR.bad {w : World} {gb B : Nat} {p : Nat → Addr} {L : List En} {x : En} {e : Ending} {w' : World} {k : Nat} (h : postK L x = some k) (he : e = .returned (.iface 162 (.pointer (some (p k))))) (hb : Below w.heap.size w w') : PostR w gb B p L x e w' := by
  unfold PostR
  rw [h]
  exact ⟨he, hb⟩
theorem PostR.good {w : World} {gb B : Nat} {p : Nat → Addr} {L : List En} {x : En} {e : Ending} {w' : World} (h : postK L x = none) (he : e = .returned .nilIface) (hg : ∃ v' mv', LG w' gb B v' mv' (L ++ [x])) (hb : PFr B w w') : PostR w gb B p L x e w' := by
  unfold PostR
  rw [h]
  exact ⟨he, hg, hb⟩
/-- The entry is in the row, the map not yet laid. -/
structure MidP (w4 w5 : World) (gb B : Nat) (v5 mv : Value) (L : List En) (x : En) (mb : Nat) (D : DataW Unit) : Prop where
  blk : w5.heap[gb]? = some (.cells #[v5, mv] 53 (0, 0))
  row : ERow 36 w5 B (fun k => Ty w5 k 49) v5 (L ++ [x])
  map : MapG w5 B mv L
  beh : MapI w5 mb 40 D
  fr : PFr B w4 w5
theorem RowG.rdTy {α : Type} {E : Enc α} {T : Nat} {w : World} {B : Nat} {v : Value} {l : List α} (h : RowG E T w B v l) : RdS E w (fun k => Ty w k T ∧ B ≤ k) v l := by
  obtain ⟨a, c, e, hl, hx⟩ := h.rdS
  refine ⟨a, c, e, hl, fun j x hj => ?_⟩
  obtain ⟨g, o, h1, h2, h3⟩ := hx j x hj
  refine ⟨g, o, h1, ⟨?_, h2.1⟩, h3⟩
  rcases h.row.2 with ⟨e2, _⟩ | ⟨g', cap, cur, e2, _, hg, _⟩
  · rw [e2] at h2
    cases h2.2.2
  · rw [e2] at h2
    have h4 := h2.2.2
    injection h4 with h4
    have h4 : g' = g := h4
    subst h4
    exact ⟨_, _, hg⟩
theorem MidP.done {W w8 w9 : World} {gb B : Nat} {v5 : Value} {L : List En} {x : En} {mb bd nd : Nat} {D Dd : DataW Unit} (h : MidP W w8 gb B v5 (.map (some bd)) L x mb D) (hge : B ≤ gb) (hbd : B ≤ bd) (hMd : MapI w8 bd nd Dd) (hI : IsBal Dd L) (hnd : nd ≤ 40 * L.length) (hB : IsBeh D x.lines (fun a => balE a L + balL a x.lines)) (hT : Go.Maps.Tidy D)
    (hM9 : MapI w9 bd (nd + Go.Maps.size D) (Lib.mergeD Dd D)) (hg : w8.grownBy w9 (some bd)) : LG w9 gb B v5 (.map (some bd)) (L ++ [x]) ∧ PFr B W w9 := by
  have hsz : Go.Maps.size D ≤ 40 := h.beh.size_le
  have hne : ∀ k t, Ty w8 k t → w9.heap[k]? = w8.heap[k]? := fun k t hk => hg.block k hk.lt (fun e => by
    injection e with e
    subst e
    exact hk.noMap hMd)
  have hgt : Ty w8 gb 53 := ⟨_, _, h.blk⟩
  refine ⟨⟨(hne gb _ hgt).trans h.blk, hge, h.row.on (fun k hk => hne k _ (h.row.ty hk).2) (fun k hk => ⟨hk.on (hne k _ hk), hne k _ hk⟩), .inr ⟨bd, _, _, rfl, hbd, hM9, ?_, hI.merge hB hT⟩⟩, h.fr.trans ⟨hg.os, hg.tape, hg.output, hg.size, fun k hk => ?_, fun k t ht _ _ => hne k t ht⟩⟩
  · rw [List.length_append]
    simp
    omega
  · rcases Nat.lt_or_ge k w8.heap.size with h1 | h1
    · exact hg.block k h1 (fun e => by injection e with e; omega)
    · have := MapI.lt' hMd
      have : bd < w8.heap.size := this
      omega
set_option maxRecDepth 20000 in
theorem MidP.made {W w6 : World} {gb B : Nat} {v5 : Value} {L : List En} {x : En} {mb : Nat} {D : DataW Unit} (h : MidP W w6 gb B v5 (.map none) L x mb D) (hge : B ≤ gb) :
    MidP W ((w6.alloc (.map #[] 0)).setCell ⟨gb, 1, none⟩ (.map (some w6.heap.size))) gb B v5 (.map (some w6.heap.size)) L x mb D ∧ MapI ((w6.alloc (.map #[] 0)).setCell ⟨gb, 1, none⟩ (.map (some w6.heap.size))) w6.heap.size 0 (.map []) ∧ L = [] ∧ mb ≠ w6.heap.size := by
  have hgt : Ty w6 gb 53 := ⟨_, _, h.blk⟩
  have hgl := hgt.lt
  have hL : L = [] := by
    rcases h.map with ⟨_, e⟩ | ⟨_, _, _, e, _⟩
    · exact e
    · cases e
  have hk : ∀ k, k < w6.heap.size → k ≠ gb → ((w6.alloc (.map #[] 0)).setCell ⟨gb, 1, none⟩ (.map (some w6.heap.size))).heap[k]? = w6.heap[k]? := fun k hk hne => (Below.heap_setCell _ _ _ _ hne).trans (Below.heap_alloc _ _ _ hk)
  have hty : ∀ k t, Ty w6 k t → t ≠ 53 → ((w6.alloc (.map #[] 0)).setCell ⟨gb, 1, none⟩ (.map (some w6.heap.size))).heap[k]? = w6.heap[k]? := fun k t ht hne => hk k ht.lt (fun e => hne (by subst e; exact ht.one hgt))
  have hmb := MapI.lt' h.beh
  have hmbg : mb ≠ gb := fun e => by
    have h1 := h.beh
    rw [e] at h1
    exact hgt.noMap h1
  have hnew : MapI ((w6.alloc (.map #[] 0)).setCell ⟨gb, 1, none⟩ (.map (some w6.heap.size))) w6.heap.size 0 (.map []) := by
    obtain ⟨es, clock, h1, h2⟩ := World.ownsMap_made (H := Unit) w6 Tryz.prog 9 (Go.plainElem Tryz.prog 3)
    exact ⟨es, clock, (Below.heap_setCell _ _ _ _ (by show w6.heap.size ≠ gb; omega)).trans h1, h2⟩
  have hbeh : MapI ((w6.alloc (.map #[] 0)).setCell ⟨gb, 1, none⟩ (.map (some w6.heap.size))) mb 40 D := by
    obtain ⟨es, clock, h1, h2⟩ := h.beh
    exact ⟨es, clock, (hk mb hmb hmbg).trans h1, h2⟩
  refine ⟨⟨?_, h.row.on (fun k hk' => hty k _ (h.row.ty hk').2 (by decide)) (fun k hk' => ⟨hk'.on (hty k _ hk' (by decide)), hty k _ hk' (by decide)⟩), .inr ⟨w6.heap.size, 0, .map [], rfl, ?_, hnew, by omega, by rw [hL]; exact IsBal.nil⟩, hbeh, h.fr.trans ⟨rfl, rfl, rfl, by simp, fun k hk' => ?_, fun k t ht h1 _ => hty k t ht h1⟩⟩, hnew, hL, by omega⟩
  · exact two_cells1 ((Below.heap_alloc _ _ _ hgl).trans h.blk)
  · omega
  · exact hk k (by omega) (by omega)
set_option maxHeartbeats 4000000 in
set_option maxRecDepth 20000 in
theorem post_p {gb B n c : Nat} {a : Option Addr} {v mv : Value} {L : List En} {ls : List Ln} {dy : Int} {tx : ByteArray} {p : Nat → Addr} {w : World} (hG : LG w gb B v mv L) (hL : Good L) (h : RdS lnE w (· < w.heap.size) (.slice a n c) ls) (hs : SentL w p) (htx : tx.size ≤ 9223372036854775807) (hB : B ≤ w.heap.size) :
    Calls Tryz.prog 5 #[.pointer (some ⟨gb, 0, none⟩), .agg #[.int .i64 dy, .string tx, .slice a n c]] w (PostR w gb B p L ⟨dy, tx, ls⟩) := by
  obtain ⟨hn, hbig⟩ := h.len
  obtain ⟨W, hW⟩ : ∃ W, W = w.alloc (.cells #[.int .i64 dy, .string tx, .slice a n c] 36) := ⟨_, rfl⟩
  have hbW : Below w.heap.size w W := by rw [hW]; exact bel1 _ _
  have hlW : w.heap.size < W.heap.size := by rw [hW]; simp
  obtain ⟨eb, heb⟩ : ∃ eb, eb = w.heap.size := ⟨_, rfl⟩
  have hbk : W.heap[eb]? = some (.cells #[.int .i64 dy, .string tx, .slice a n c] 36 (0, 0)) := by rw [hW, heb]; exact Go.Deep.blk_alloc_new w _
  have hGW := hG.below hbW
  have hRW := h.below hbW
  have HBW : Hid (∀ W', Below W.heap.size W W' → Below w.heap.size w W') := fun W' hb => hbW.trans (hb.mono (by omega))
  have HC := hidLL (check_p (dy := dy) hGW (hRW.mono fun k hk => by omega) (hs.below hbW) htx)
  have HS : Hid (SentL W p) := hs.below hbW
  have HG := hidLL hGW
  have HR := hidLL (And.intro hRW hn)
  have HL := hidLL hL
  have z0 : W.cell? ⟨eb, 0, none⟩ = some (.int .i64 dy) := by rw [cell_of_row _ eb 0 _ _ _ hbk]; rfl
  have z1 : W.cell? ⟨eb, 1, none⟩ = some (.string tx) := by rw [cell_of_row _ eb 1 _ _ _ hbk]; rfl
  have z2 : W.cell? ⟨eb, 2, none⟩ = some (.slice a n c) := by rw [cell_of_row _ eb 2 _ _ _ hbk]; rfl
  have HBk := hidLL hbk
  have HRl : Hid (∀ k, v.ownBlock = some k → k ≠ eb) := fun k hk e => by have := (hG.row.ty hk).2.lt; omega
  have hebW : eb < W.heap.size := by omega
  have hmm := @run_makeMap Tryz.prog
  have hmn := fun (w : World) (r : Option Nat) => run_eql_map_nil (P := Tryz.prog) w 51 9 3 r Tryz.underlying51
  clear hG h hs hL hbW hGW hRW hbk hn
  cases hck : checkK L dy tx ls with
  | some k =>
    rw [hck] at HC
    have HK := hidLL (postK_check hck)
    clear hck
    go_enter Tryz.func5, Tryz.ntmps5
    go_upto_region 1 with fail
    rw [← hW, ← heb]
    clear hW heb
    go_wp2_with fail
    refine HC.out.mono ?_
    rintro e w1 ⟨rfl, hb1⟩
    have HB1 := hidLL hb1
    clear hb1
    unfold errL
    go_wp2
    go_ret
    exact PostR.bad HK.out rfl (HBW.out _ HB1.out)
  | none =>
    rw [hck] at HC
    have HK := hidLL (postK_behind hck)
    obtain ⟨h20, hwd⟩ := checkK_none hck
    have HW := hidLL (And.intro h20 hwd)
    clear hck h20 hwd
    have hn20 : n ≤ 20 := by have := HW.out.1; have := HR.out.2; omega
    go_enter Tryz.func5, Tryz.ntmps5
    go_upto_region 1 with fail
    rw [← hW, ← heb]
    have HEb := hidLL heb
    clear hW heb
    go_wp2_with fail
    refine HC.out.mono ?_
    rintro e w1 ⟨rfl, hb1⟩
    have HB1 := hidLL hb1
    have y2 : w1.cell? ⟨eb, 2, none⟩ = some (.slice a n c) := (hb1.cell (p := ⟨eb, 2, none⟩) hebW).trans z2
    have HG1 := hidLL (HG.out.below hb1)
    have HR1 : Hid (RdS lnE w1 (· < w1.heap.size) (.slice a n c) ls) := HR.out.1.on fun k hk => ⟨by have := hb1.size; omega, hb1.block k (by omega)⟩
    have HBe := hidLL (behind_p HG1.out HL.out HR1.out hn20 HW.out.2 (HS.out.below hb1))
    clear hb1 HC
    unfold errL
    go_wp2_with fail
    refine HBe.out.mono ?_
    clear HBe
    rintro e w2 ⟨he, hb2⟩
    have HB2 := hidLL (HB1.out.trans (hb2.mono HB1.out.size))
    have HB12 := hidLL hb2
    by_cases hbad : ls.any badC = true ∨ tooB L ls = true
    · rw [if_pos hbad] at he
      subst he
      have HK2 : Hid (postK L ⟨dy, tx, ls⟩ = some 2) := by show _ = _; rw [HK.out, if_pos hbad]
      clear hbad HK hb2
      go_wp2
      go_ret
      exact PostR.bad HK2.out rfl (HBW.out _ HB2.out)
    · rw [if_neg hbad] at he
      by_cases hsum : sumL ls ≠ 0
      · rw [if_pos hsum] at he
        subst he
        have HK2 : Hid (postK L ⟨dy, tx, ls⟩ = some 7) := by show _ = _; rw [HK.out, if_neg hbad, if_pos hsum]
        clear hbad hsum HK hb2
        go_wp2
        go_ret
        exact PostR.bad HK2.out rfl (HBW.out _ HB2.out)
      · rw [if_neg hsum] at he
        have HK2 : Hid (postK L ⟨dy, tx, ls⟩ = none) := by show _ = _; rw [HK.out, if_neg hbad, if_neg hsum]
        obtain ⟨mb, D, rfl, hmb, hMb, hIb, hTb⟩ := he
        have HMb := hidLL (And.intro hMb (And.intro hIb hTb))
        have x0 : w2.cell? ⟨eb, 0, none⟩ = some (.int .i64 dy) := (HB2.out.cell (p := ⟨eb, 0, none⟩) hebW).trans z0
        have x1 : w2.cell? ⟨eb, 1, none⟩ = some (.string tx) := (HB2.out.cell (p := ⟨eb, 1, none⟩) hebW).trans z1
        have x2 : w2.cell? ⟨eb, 2, none⟩ = some (.slice a n c) := (HB2.out.cell (p := ⟨eb, 2, none⟩) hebW).trans z2
        have HR2 : Hid (RdS lnE w2 (· < w2.heap.size) (.slice a n c) ls) := HR1.out.on fun k hk => ⟨by have := hb2.size; omega, hb2.block k hk⟩
        have HCl := hidLL (clone_l HR2.out (by omega))
        have hmlt : mb < w2.heap.size := MapI.lt' hMb
        clear hbad hsum HK hb2 hMb hIb hTb
        go_wp2_with fail
        refine HCl.out.mono ?_
        clear HCl
        rintro e w3 ⟨⟨ca, cm, cc, rfl, hcr⟩, hb3⟩
        have hblk3 : w3.heap[eb]? = some (.cells #[.int .i64 dy, .string tx, .slice a n c] 36 (0, 0)) := (hb3.block eb (by have := HB2.out.size; omega)).trans ((HB2.out.block eb hebW).trans HBk.out)
        have k2 : w3.cell? ⟨eb, 2, none⟩ = some (.slice a n c) := by rw [cell_of_row _ eb 2 _ _ _ hblk3]; rfl
        have f2 : w3.frozen? ⟨eb, 2, none⟩ = false := frozen_of_row _ eb _ _ _ hblk3
        have HB23 := hidLL (HB2.out.trans (hb3.mono HB2.out.size))
        obtain ⟨w4, hw4⟩ : ∃ w4, w4 = w3.setCell ⟨eb, 2, none⟩ (.slice ca cm cc) := ⟨_, rfl⟩
        have hblk4 : w4.heap[eb]? = some (.cells #[.int .i64 dy, .string tx, .slice ca cm cc] 36 (0, 0)) := by rw [hw4]; exact three_cells2 hblk3
        have hoth : ∀ k, k ≠ eb → w4.heap[k]? = w3.heap[k]? := fun k hk => by rw [hw4]; exact Below.heap_setCell _ _ _ _ hk
        have hsz4 : w4.heap.size = w3.heap.size := by rw [hw4]; simp
        have hGne : ∀ k, k < W.heap.size → k ≠ eb → w4.heap[k]? = W.heap[k]? := fun k hk hne => (hoth k hne).trans (HB23.out.block k hk)
        have hgbne : gb ≠ eb := fun e => by
          have h1 := HG.out.blk
          rw [e, HBk.out] at h1
          injection h1 with h1
          injection h1 with h1
          cases h1
        have hrowlt : ∀ k, v.ownBlock = some k → k < W.heap.size ∧ k ≠ eb := fun k hk => ⟨(HG.out.row.ty hk).2.lt, HRl.out k hk⟩
        have hlnne : ∀ k, Ty W k 49 → k < W.heap.size ∧ k ≠ eb := fun k hk => ⟨hk.lt, fun e => by
          subst e
          have := hk.one ⟨_, _, HBk.out⟩
          revert this
          decide⟩
        have hmpne : ∀ k m D', MapI W k m D' → k < W.heap.size ∧ k ≠ eb := fun k m D' hk => ⟨MapI.lt' hk, fun e => by
          subst e
          exact Ty.noMap ⟨_, _, HBk.out⟩ hk⟩
        have hG4 : LG w4 gb B v mv L := HG.out.on (hGne gb HG.out.lt hgbne) (fun k hk => hGne k (hrowlt k hk).1 (hrowlt k hk).2) (fun k hk => hGne k (hlnne k hk).1 (hlnne k hk).2) (fun k m D' hk => hGne k (hmpne k m D' hk).1 (hmpne k m D' hk).2)
        have hM4 : MapI w4 mb 40 D := by
          obtain ⟨es, clock, h1, h2⟩ := HMb.out.1
          refine ⟨es, clock, (hoth mb (fun e => ?_)).trans ((hb3.block mb hmlt).trans h1), h2⟩
          subst e
          exact Ty.noMap (w := w2) ⟨_, _, (HB2.out.block mb hebW).trans HBk.out⟩ HMb.out.1
        have hF4 : PFr B W w4 := ⟨by rw [hw4]; exact HB23.out.os, by rw [hw4]; exact HB23.out.tape, by rw [hw4]; exact HB23.out.output, by rw [hsz4]; exact HB23.out.size, fun k hk => hGne k (by have := HEb.out; omega) (by have := HEb.out; omega), fun k t ht h1 h2 => hGne k ht.lt (fun e => by
          subst e
          exact h2 (ht.one ⟨_, _, HBk.out⟩))⟩
        have hcr4 : RdS lnE w4 (fun k => Ty w4 k 49) (.slice ca cm cc) ls := hcr.rdTy.on fun k hk => by
          have hne : k ≠ eb := fun e => by
            subst e
            have := hk.1.one ⟨_, _, hblk3⟩
            revert this
            decide
          exact ⟨hk.1.on (hoth k hne), hoth k hne⟩
        obtain ⟨vs, hv1, hv2, hv3⟩ := hG4.row
        obtain ⟨va, vn, vc, rfl, hvn⟩ := hG4.row.any3
        have e0 : w4.cell? ⟨eb, 0, none⟩ = some (.int .i64 dy) := by rw [cell_of_row _ eb 0 _ _ _ hblk4]; rfl
        have e1 : w4.cell? ⟨eb, 1, none⟩ = some (.string tx) := by rw [cell_of_row _ eb 1 _ _ _ hblk4]; rfl
        have e2 : w4.cell? ⟨eb, 2, none⟩ = some (.slice ca cm cc) := by rw [cell_of_row _ eb 2 _ _ _ hblk4]; rfl
        have g0 := hG4.c0
        have hg4lt := hG4.lt
        have heb4 : eb < w4.heap.size := lt_of_block hblk4
        have HRow := hidLL hv2
        have HRowD : Hid (RowG enE 36 w4.drew B (.slice va vn vc) (L.zip vs)) := hv2.on fun _ _ _ _ => rfl
        have HG4 := hidLL hG4
        have HM4 := hidLL hM4
        have HF4 := hidLL hF4
        have HCr := hidLL hcr4
        have HVs := hidLL (And.intro hv1 hv3)
        have hB4 : B ≤ w4.heap.size := Nat.le_trans HG4.out.ge (Nat.le_of_lt hg4lt)
        have hl4 : (L.zip vs).length + 1 ≤ 1000000 := by rw [zip_len hv1]; have := HL.out.len; omega
        have HPush : Hid (∀ v5 w5, RowG enE 36 w5 B v5 (L.zip vs ++ [((⟨dy, tx, ls⟩ : En), (⟨ca, cm, cc⟩ : SlV))]) → Below B w4 w5 → (∀ k, (Value.slice va vn vc).ownBlock ≠ some k → k < w4.heap.size → w5.heap[k]? = w4.heap[k]?) → (∀ k, v5.ownBlock = some k → (Value.slice va vn vc).ownBlock = some k ∨ w4.heap.size ≤ k) →
            w5.cell? ⟨gb, 0, none⟩ = some (.slice va vn vc) ∧ w5.frozen? ⟨gb, 0, none⟩ = false ∧ MidP W (w5.setCell ⟨gb, 0, none⟩ v5) gb B v5 mv L ⟨dy, tx, ls⟩ mb D) := fun v5 w5 hr5 hb5 hk5 hv5 => by
          have tE : ∀ k, (Value.slice va vn vc).ownBlock = some k → Ty w4 k 36 := fun k hk => (HG4.out.row.ty hk).2
          have tG : Ty w4 gb 53 := ⟨_, _, HG4.out.blk⟩
          have hgo : (Value.slice va vn vc).ownBlock ≠ some gb := fun e => by
            have := (tE gb e).one tG
            revert this
            decide
          have hgb5 : w5.heap[gb]? = w4.heap[gb]? := hk5 gb hgo hg4lt
          have blk5 := hgb5.trans HG4.out.blk
          have hne5 : ∀ k t, Ty w4 k t → t ≠ 53 → t ≠ 36 → (w5.setCell ⟨gb, 0, none⟩ v5).heap[k]? = w4.heap[k]? := fun k t ht h1 h2 => (Below.heap_setCell _ _ _ _ (show k ≠ gb from fun e => h1 (by subst e; exact ht.one tG))).trans (hk5 k (fun e => h2 (ht.one (tE k e))) ht.lt)
          have hmp5 : ∀ k m D', MapI w4 k m D' → (w5.setCell ⟨gb, 0, none⟩ v5).heap[k]? = w4.heap[k]? := fun k m D' hk => (Below.heap_setCell _ _ _ _ (show k ≠ gb from fun e => by subst e; exact tG.noMap hk)).trans (hk5 k (fun e => (tE k e).noMap hk) (MapI.lt' hk))
          refine ⟨?_, frozen_of_row _ gb _ _ _ blk5, ⟨two_cells blk5, ⟨vs ++ [⟨ca, cm, cc⟩], by simp [HVs.out.1], ?_, fun i s y hs hy => ?_⟩, HG4.out.map.on hmp5, ?_, HF4.out.trans ⟨hb5.os, hb5.tape, hb5.output, by have := hb5.size; simp; exact this, fun k hk => ?_, hne5⟩⟩⟩
          · rw [cell_of_row _ gb 0 _ _ _ blk5]; rfl
          · rw [List.zip_append HVs.out.1.symm]
            refine hr5.on fun k hk _ _ => Below.heap_setCell _ _ _ _ (show k ≠ gb from fun e => ?_)
            subst e
            rcases hv5 k hk with h1 | h1
            · exact hgo h1
            · omega
          · have hold : ∀ (sv : Value) (m : List Ln), RdS lnE w4 (fun k => Ty w4 k 49) sv m → RdS lnE (w5.setCell ⟨gb, 0, none⟩ v5) (fun k => Ty (w5.setCell ⟨gb, 0, none⟩ v5) k 49) sv m := fun sv m hm => hm.on fun k hk => ⟨hk.on (hne5 k _ hk (by decide) (by decide)), hne5 k _ hk (by decide) (by decide)⟩
            rcases Nat.lt_or_ge i L.length with hi | hi
            · rw [List.getElem?_append_left (by have := HVs.out.1; omega)] at hs
              rw [List.getElem?_append_left hi] at hy
              exact hold _ _ (HVs.out.2 i s y hs hy)
            · have hin : i = L.length := by
                have := (List.getElem?_eq_some_iff.1 hy).1
                simp at this
                omega
              subst hin
              rw [← HVs.out.1] at hs
              simp at hs hy
              subst hs hy
              exact hold _ _ HCr.out
          · obtain ⟨es, clock, h1, h2⟩ := HM4.out
            exact ⟨es, clock, (hmp5 mb 40 D ⟨es, clock, h1, h2⟩).trans h1, h2⟩
          · exact (Below.heap_setCell _ _ _ _ (show k ≠ gb by have := HG4.out.ge; omega)).trans (hb5.block k hk)
        have HGm : Hid (∀ gm, mv = .map (some gm) → gm < W.heap.size) := fun gm e => by
          rcases HG.out.map with ⟨e2, _⟩ | ⟨mb', _, _, e2, _, hM', _⟩
          · rw [e2] at e; cases e
          · rw [e2] at e
            injection e with e
            injection e with e
            subst e
            exact MapI.lt' hM'
        clear hblk3 hblk4 hoth hGne hgbne hrowlt hlnne hmpne hG4 hM4 hF4 hcr4 hv1 hv2 hv3 hvn hcr hb3 hsz4
        go_upto_region 10 with fail
        rw [← hw4]
        clear hw4
        go_cut [] (fun wx => ∃ v5, MidP W wx gb B v5 mv L ⟨dy, tx, ls⟩ mb D)
        case first =>
          go_region_law (refine step_push_g (E := enE) Tryz.infoEn (by decide) Tryz.underlying40 rfl (.tmp 35) (.tmp 37) rfl B (.slice va vn vc) (L.zip vs) ((⟨dy, tx, ls⟩ : En), (⟨ca, cm, cc⟩ : SlV)) _ rfl (by simp [Act.eval]) HRowD.out (by simp [Act.eval]) hB4 hl4 ?_; intro v5 w5 hr5 hb5 hk5 hv5; obtain ⟨pa, pn, pc, rfl, hpn⟩ := hr5.any3; have hpp := HPush.out _ w5 hr5 ⟨hb5.os, hb5.tape, hb5.output, hb5.size, hb5.block⟩ hk5 hv5; have HPp := hidLL hpp; have p0 := hpp.1; have p1 := hpp.2.1; clear hr5 hb5 hk5 hv5 hpp hpn)
          all_goals
            go_wp2
            go_meet
            exact ⟨_, HPp.out.2.2⟩
        case rest =>
          obtain ⟨v5, hMid⟩ := hcut
          have m1 : wc.cell? ⟨gb, 1, none⟩ = some mv := by rw [cell_of_row _ gb 1 _ _ _ hMid.blk]; rfl
          have mf1 : wc.frozen? ⟨gb, 1, none⟩ = false := frozen_of_row _ gb _ _ _ hMid.blk
          have hgl : gb < wc.heap.size := lt_of_block hMid.blk
          have hge := HG4.out.ge
          have HMd := hidLL hMid
          have HFw : Hid (PFr B w W) := PFr.of (HBW.out W (Below.refl _ _)) hB
          clear HPush HRow HRowD HG4 HM4 HF4 HCr HVs e0 e1 e2 g0 hg4lt heb4 hB4 hl4 k2 f2 x0 x1 x2 y2 z0 z1 z2
          rcases hMid.map with ⟨rfl, hL0⟩ | ⟨gm, nd, Dd, rfl, hgm, hMg, hnd, hIB⟩
          · obtain ⟨q1, q2, q3, q4⟩ := hMid.made hge
            obtain ⟨w8, hw8⟩ : ∃ w8, w8 = (wc.alloc (.map #[] 0)).setCell ⟨gb, 1, none⟩ (.map (some wc.heap.size)) := ⟨_, rfl⟩
            rw [← hw8] at q1 q2
            have HCp := hidLL (Tryz.maps_Copy_L lawStr (Go.plainElem (H := Unit) Tryz.prog 3) wc.heap.size mb 0 40 (.map []) D w8 q2 q1.beh (fun e => q4 e.symm) (by have := q1.beh.size_le; unfold maxLen; omega))
            have m8 : w8.cell? ⟨gb, 1, none⟩ = some (.map (some wc.heap.size)) := by rw [cell_of_row _ gb 1 _ _ _ q1.blk]; rfl
            have HQ := hidLL (And.intro q1 (And.intro q2 q3))
            have hBc : B ≤ wc.heap.size := by omega
            have hgne : ¬ gb = wc.heap.size := by omega
            clear hMid q1 q2 q3 q4 hL0
            have hsw : (wc.setCell ⟨gb, 1, none⟩ (.map (some wc.heap.size))).alloc (.map #[] 0) = w8 := by rw [hw8, set_alloc _ _ _ _ hgl]
            have HSw := hidLL hsw
            clear hw8 hsw
            go_upto_region 13 with fail
            rw [HSw.out]
            clear HSw
            go_wp2_with fail
            refine HCp.out.mono ?_
            rintro e w9 ⟨rfl, h9, h9b, hg9⟩
            clear h9b
            obtain ⟨r1, r2⟩ := HQ.out.1.done hge hBc HQ.out.2.1 (by rw [HQ.out.2.2]; exact IsBal.nil) (by omega) HMb.out.2.1 HMb.out.2.2 h9 hg9
            have HF := hidLL (And.intro r1 r2)
            clear h9 hg9 r1 r2
            go_wp2
            go_ret
            exact PostR.good HK2.out rfl ⟨_, _, HF.out.1⟩ (HFw.out.trans HF.out.2)
          · have hne : gm ≠ mb := fun e => by
              have h1 := HGm.out gm rfl
              have h2 := HB1.out.size
              omega
            have HCp := hidLL (Tryz.maps_Copy_L lawStr (Go.plainElem (H := Unit) Tryz.prog 3) gm mb nd 40 Dd D wc hMg hMid.beh hne (by have := hMid.beh.size_le; have := HL.out.len; unfold maxLen; omega))
            have HQ := hidLL (And.intro hMid (And.intro hMg (And.intro hnd (And.intro hIB hgm))))
            clear hMid hMg hnd hIB hne
            go_wp2_with fail
            refine HCp.out.mono ?_
            rintro e w9 ⟨rfl, h9, h9b, hg9⟩
            clear h9b
            obtain ⟨r1, r2⟩ := HQ.out.1.done hge HQ.out.2.2.2.2 HQ.out.2.1 HQ.out.2.2.2.1 HQ.out.2.2.1 HMb.out.2.1 HMb.out.2.2 h9 hg9
            have HF := hidLL (And.intro r1 r2)
            clear h9 hg9 r1 r2
            go_wp2
            go_ret
            exact PostR.good HK2.out rfl ⟨_, _, HF.out.1⟩ (HFw.out.trans HF.out.2)
end Go.Proofs.YtdeccdmplmclmaaGreatDoor
