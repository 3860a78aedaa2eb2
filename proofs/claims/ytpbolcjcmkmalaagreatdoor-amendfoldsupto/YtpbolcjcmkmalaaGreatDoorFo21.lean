/-
  An item that owns its memory: another heading, another line, other lines, other kids. No walk.
-/
import Derived.Test.YtpbolcjcmkmalaaGreatDoorFo17
import Derived.Test.YtpbolcjcmkmalaaGreatDoorFo20
import Derived.Test.YtpbolcjcmkmalaaGreatDoorFo11
import Derived.Test.YtpbolcjcmkmalaaGreatDoorFo13
import Derived.Test.YtpbolcjcmkmalaaGreatDoorFo09
namespace Go.Proofs.YtpbolcjcmkmalaaGreatDoor
open Go.RowKit Go.Extern.Stop Go.Stop Go.Extern

def updV (v : Nat → Value) (c : Nat) (u : Value) : Nat → Value := fun j => if j = c then u else v j
theorem updV_same (v : Nat → Value) (c : Nat) (u : Value) : updV v c u c = u := by simp [updV]
theorem updV_ne (v : Nat → Value) {c j : Nat} (u : Value) (h : j ≠ c) : updV v c u j = v j := by simp [updV, h]
theorem ins_take {α : Type} : ∀ (l : List α) (i : Nat) (a : α), i ≤ l.length → l.insertIdx i a = l.take i ++ a :: l.drop i
  | l, 0, a, _ => by simp
  | [], i + 1, a, h => by simp at h
  | b :: r, i + 1, a, h => by rw [List.insertIdx_succ_cons, ins_take r i a (by simpa using h)]; rfl
/-- From a world to a later one: all blocks stay but some. -/
structure Fr (X : Nat → Prop) (w w' : World) : Prop where
  os : w'.os = w.os
  tape : w'.tape = w.tape
  output : w'.output = w.output
  size : w.heap.size ≤ w'.heap.size
  block : ∀ k, k < w.heap.size → ¬ X k → w'.heap[k]? = w.heap[k]?
theorem Fr.refl (X : Nat → Prop) (w : World) : Fr X w w := ⟨rfl, rfl, rfl, Nat.le_refl _, fun _ _ _ => rfl⟩
theorem Fr.trans {X : Nat → Prop} {a b c : World} (h : Fr X a b) (k : Fr X b c) : Fr X a c := ⟨k.os.trans h.os, k.tape.trans h.tape, k.output.trans h.output, Nat.le_trans h.size k.size, fun i hi hx => (k.block i (Nat.lt_of_lt_of_le hi h.size) hx).trans (h.block i hi hx)⟩
theorem Fr.mono {X Y : Nat → Prop} {w w' : World} (h : Fr X w w') (hXY : ∀ k, k < w.heap.size → X k → Y k) : Fr Y w w' := ⟨h.os, h.tape, h.output, h.size, fun k hk hy => h.block k hk fun hx => hy (hXY k hk hx)⟩
theorem Fr.of {X : Nat → Prop} {w w' : World} (h : Below w.heap.size w w') : Fr X w w' := ⟨h.os, h.tape, h.output, h.size, fun k hk _ => h.block k hk⟩
theorem Fr.after {X : Nat → Prop} {w w1 w2 : World} (h : Below w.heap.size w w1) (k : Fr X w1 w2) : Fr X w w2 := (Fr.of h).trans k
theorem Fr.bel {X : Nat → Prop} {w w1 w2 : World} (h : Fr X w w1) (k : Below w1.heap.size w1 w2) : Fr X w w2 := h.trans (Fr.of k)
theorem Fr.setCell {X : Nat → Prop} {w w' : World} (h : Fr X w w') {p : Addr} (hp : X p.block ∨ w.heap.size ≤ p.block) (u : Value) : Fr X w (w'.setCell p u) :=
  ⟨h.os, h.tape, h.output, by have := h.size; simp; exact this, fun k hk hx => by rw [Below.heap_setCell _ _ _ _ (fun e => by rcases hp with hp | hp; exact hx (e ▸ hp); omega)]; exact h.block k hk hx⟩
theorem Fr.grown {X : Nat → Prop} {w w1 w2 : World} {row : Option Nat} (h : Fr X w w1) (g : w1.grownBy w2 row) (hr : ∀ k, row = some k → X k ∨ w.heap.size ≤ k) : Fr X w w2 :=
  ⟨g.os.trans h.os, g.tape.trans h.tape, g.output.trans h.output, Nat.le_trans h.size g.size, fun k hk hx => by
    rw [g.block k (Nat.lt_of_lt_of_le hk h.size) (fun e => (hr k e.symm).elim hx (fun h1 => by omega))]
    exact h.block k hk hx⟩
theorem Fr.below {X : Nat → Prop} {w w' : World} {B : Nat} (h : Fr X w w') (hX : ∀ k, k < B → ¬ X k) (hB : B ≤ w.heap.size) : Below B w w' := ⟨h.os, h.tape, h.output, h.size, fun k hk => h.block k (by omega) (hX k hk)⟩
/-- The rows of an item are two. -/
theorem rows_ne {w : World} {B : Nat} {v : Nat → Value} {t : It} {S : Nat → Prop} {K : Nat → Nat → Value} {T : Nat → Nat → Prop} (h : OwnK w B v t S K T) {g : Nat} (h2 : (v 2).ownBlock = some g) : (v 3).ownBlock ≠ some g := by
  intro h3
  rcases h.ln.2 with ⟨e1, _⟩ | ⟨g1, c1, cur1, e1, _, hg1, _⟩
  · rw [e1] at h2; cases h2
  · rcases h.kd.2 with ⟨e2, _⟩ | ⟨g2, c2, cur2, e2, _, hg2, _⟩
    · rw [e2] at h3; cases h3
    · rw [e1] at h2
      rw [e2] at h3
      injection h2 with h2
      injection h3 with h3
      have h2 : g1 = g := h2
      have h3 : g2 = g := h3
      rw [h2] at hg1
      rw [h3, hg1] at hg2
      injection hg2 with hg2
      injection hg2 with _ hg2 _
      exact absurd hg2 (by decide)
/-- A cell of the item is written. -/
theorem here_set {w w' : World} {b o c : Nat} {v : Nat → Value} {u : Value} (h : ∃ cur ty, w.heap[b]? = some (.cells cur ty (0, 0)) ∧ ∀ c, c < 4 → cur[o + c]? = some (v c)) (hc : c < 4) (hb : w'.heap[b]? = (w.setCell ⟨b, o + c, none⟩ u).heap[b]?) : (∃ cur ty, w'.heap[b]? = some (.cells cur ty (0, 0)) ∧ ∀ j, j < 4 → cur[o + j]? = some (updV v c u j)) ∧ ∀ cur ty, w.heap[b]? = some (.cells cur ty (0, 0)) → ∃ cur', w'.heap[b]? = some (.cells cur' ty (0, 0)) ∧ cur'.size = cur.size ∧ ∀ q, (q < o ∨ o + 4 ≤ q) → cur'[q]? = cur[q]? := by
  obtain ⟨cur, ty, e, hcs⟩ := h
  have e1 := hb.trans (setCell_row u e)
  have hlt : o + c < cur.size := by
    have := hcs c hc
    exact (Array.getElem?_eq_some_iff.1 this).1
  refine ⟨⟨_, ty, e1, fun j hj => ?_⟩, fun cur' ty' e' => ?_⟩
  · rw [Array.getElem?_setIfInBounds]
    unfold updV
    by_cases hjc : j = c
    · rw [if_pos (by omega), if_pos hlt, if_pos hjc]
    · rw [if_neg (by omega), if_neg hjc]
      exact hcs j hj
  · rw [e] at e'
    injection e' with e'
    injection e' with h1 h2 _
    subst h1 h2
    refine ⟨_, e1, by simp, fun q hq => ?_⟩
    rw [Array.getElem?_setIfInBounds, if_neg (by omega)]
theorem own_step2 {w w' : World} {B : Nat} {v : Nat → Value} {t : It} {S : Nat → Prop} {K : Nat → Nat → Value} {T : Nat → Nat → Prop} (h : OwnK w B v t S K T) {X : Nat → Prop} (hf : Fr X w w') (hX : ∀ i q, i < t.kids.length → T i q → ¬ X q) : ∀ i k, t.kids[i]? = some k → Own w' B (K i) k (T i) := fun i k e => by
  have hil := (List.getElem?_eq_some_iff.1 e).1
  exact (h.hr i k e).step (fun q hq => hf.block q (h.hS q (h.hT i q hil hq).1).2 (hX i q hil hq)) hf.size
/-- Another heading. -/
theorem ItAt.setHead {w w' : World} {B b o : Nat} {x : It} {S : Nat → Prop} {v : Nat → Value} (h : ItAt w B b o x S v) (s : ByteArray) (hf : Fr (· = b) w w') (hb : w'.heap[b]? = (w.setCell ⟨b, o + 1, none⟩ (.string s)).heap[b]?) :
    ItAt w' B b o (x.setHead s) S (updV v 1 (.string s)) ∧ Upd w w' b o S := by
  obtain ⟨h1, h2⟩ := here_set (u := .string s) h.here (c := 1) (by omega) hb
  obtain ⟨K, T, hk⟩ := h.own.parts
  have hn : ∀ q, S q → q ≠ b := fun q hq e => h.out (e ▸ hq)
  refine ⟨⟨h1, ?_, h.out⟩, ⟨hf.os, hf.tape, hf.output, hf.size, fun k hk _ hne => hf.block k hk hne, h2⟩⟩
  refine .mk _ _ K T S ((updV_ne v _ (by omega)).trans hk.h0) (updV_same _ _ _) ?_ ?_ (fun g hg => hk.sl g (by rw [updV_ne v _ (by omega)] at hg; exact hg)) (fun g hg => hk.sk g (by rw [updV_ne v _ (by omega)] at hg; exact hg)) (fun i k e => own_step2 (t := x) hk hf (fun i q hi hq => hn q (hk.hT i q hi hq).1) i k e) (fun i q hi hq => by rw [updV_ne v _ (by omega), updV_ne v _ (by omega)]; exact hk.hT i q hi hq) hk.hd (fun g hg => ⟨(hk.hS g hg).1, Nat.lt_of_lt_of_le (hk.hS g hg).2 hf.size⟩)
  · rw [updV_ne v _ (by omega)]
    exact row_step hk.ln fun g hg hl => hf.block g hl (hn g (hk.sl g hg))
  · rw [updV_ne v _ (by omega)]
    exact row_step hk.kd fun g hg hl => hf.block g hl (hn g (hk.sk g hg))
/-- Other lines. -/
theorem ItAt.setL {w w' : World} {B b o : Nat} {x : It} {S : Nat → Prop} {v : Nat → Value} (h : ItAt w B b o x S v) {u : Value} {ls : List ByteArray} (hf : Fr (fun k => k = b ∨ (v 2).ownBlock = some k) w w') (hb : w'.heap[b]? = (w.setCell ⟨b, o + 2, none⟩ u).heap[b]?)
    (hr : w'.ownsRow B 9 1 u ls.length (ls.map Value.string)) (hu : u.ownBlock = (v 2).ownBlock ∨ ∃ g, u.ownBlock = some g ∧ w.heap.size ≤ g ∧ g < w'.heap.size) (hB : B ≤ w.heap.size) :
    ∃ S' v', ItAt w' B b o (x.setLines ls) S' v' ∧ (∀ q, S' q → S q ∨ w.heap.size ≤ q) ∧ Upd w w' b o S := by
  obtain ⟨h1, h2⟩ := here_set (u := u) h.here (c := 2) (by omega) hb
  obtain ⟨K, T, hk⟩ := h.own.parts
  have hn : ∀ q, S q → q ≠ b := fun q hq e => h.out (e ▸ hq)
  have hlt := h.lt
  refine ⟨fun q => S q ∨ (w.heap.size ≤ q ∧ q < w'.heap.size), updV v 2 u, ⟨h1, ?_, fun hh => hh.elim h.out (fun e => by omega)⟩, fun q hq => hq.imp (fun h => h) (fun h => h.1), ⟨hf.os, hf.tape, hf.output, hf.size, fun k hk' hs hne => hf.block k hk' (fun e => e.elim hne (fun e => hs (hk.sl k e))), h2⟩⟩
  have hkne : ∀ g, (v 3).ownBlock = some g → ¬ (g = b ∨ (v 2).ownBlock = some g) := fun g hg e => e.elim (hn g (hk.sk g hg)) (fun e => rows_ne hk e hg)
  refine .mk _ _ K T _ ((updV_ne v _ (by omega)).trans hk.h0) ((updV_ne v _ (by omega)).trans hk.h1) ?_ ?_ (fun g hg => ?_) (fun g hg => ?_) (fun i k e => own_step2 (t := x) hk hf (fun i q hi hq e => e.elim (hn q (hk.hT i q hi hq).1) (hk.hT i q hi hq).2.1) i k e) (fun i q hi hq => ?_) hk.hd (fun g hg => ?_)
  · rw [updV_same]; exact hr
  · rw [updV_ne v _ (by omega)]
    exact row_step hk.kd fun g hg hl => hf.block g hl (hkne g hg)
  · rw [updV_same] at hg
    rcases hu with e | ⟨g', e, h3, h4⟩
    · exact .inl (hk.sl g (by rw [← e]; exact hg))
    · rw [e] at hg; injection hg with hg; subst hg; exact .inr ⟨h3, h4⟩
  · rw [updV_ne v _ (by omega)] at hg
    exact .inl (hk.sk g hg)
  · have h9 := hk.hT i q hi hq
    refine ⟨.inl h9.1, ?_, by rw [updV_ne v _ (by omega)]; exact h9.2.2⟩
    rw [updV_same]
    rcases hu with e | ⟨g', e, h3, h4⟩
    · rw [e]; exact h9.2.1
    · rw [e]; intro e2; injection e2 with e2; have := (hk.hS q h9.1).2; omega
  · rcases hg with hg | hg
    · exact ⟨(hk.hS g hg).1, Nat.lt_of_lt_of_le (hk.hS g hg).2 hf.size⟩
    · exact ⟨by omega, hg.2⟩
/-- One line is another. -/
theorem ItAt.setLine {w : World} {B b o : Nat} {x : It} {S : Nat → Prop} {v : Nat → Value} (h : ItAt w B b o x S v) {i : Nat} (hi : i < x.lines.length) (s : ByteArray) : ∃ g cap, v 2 = .slice (some ⟨g, 0, none⟩) x.lines.length cap ∧ w.cell? ⟨g, i, none⟩ = some (.string (x.lines[i])) ∧ w.frozen? ⟨g, i, none⟩ = false ∧ ∀ w', Fr (· = g) w w' → w'.heap[g]? = (w.setCell ⟨g, i, none⟩ (.string s)).heap[g]? → ItAt w' B b o (x.setLines (x.lines.set i s)) S v ∧ Upd w w' b o S := by
  obtain ⟨K, T, hk⟩ := h.own.parts
  obtain ⟨g, cap, cur, e, hr⟩ := row_b hk.ln (by omega)
  have hS := hk.sl g (by rw [e]; rfl)
  have hn : ∀ q, S q → q ≠ b := fun q hq e => h.out (e ▸ hq)
  refine ⟨g, cap, e, hr.cell (by rw [List.getElem?_map, List.getElem?_eq_getElem hi]; rfl), hr.frozen _, fun w' hf hg => ?_⟩
  have hgb : g ≠ b := hn g hS
  have hg := hg.trans (setCell_row _ hr.blk)
  have hbb : w'.heap[b]? = w.heap[b]? := hf.block b h.lt (fun e => hgb e.symm)
  have hilt : i < cur.size := by have := hr.sz; have := hr.le; omega
  refine ⟨⟨?_, ?_, h.out⟩, ⟨hf.os, hf.tape, hf.output, hf.size, fun k hk' hs hne => hf.block k hk' (fun e => hs (e ▸ hS)), fun cur' ty' e' => ⟨cur', hbb.trans e', rfl, fun _ _ => rfl⟩⟩⟩
  · obtain ⟨c0, ty, e0, h0⟩ := h.here
    exact ⟨c0, ty, hbb.trans e0, h0⟩
  · have hl : (x.setLines (x.lines.set i s)).lines.length = x.lines.length := by show (x.lines.set i s).length = _; simp
    refine .mk v _ K T S hk.h0 hk.h1 ?_ ?_ hk.sl hk.sk (fun j k ej => own_step2 (t := x) hk hf (fun j q hj hq e2 => (hk.hT j q hj hq).2.1 (by rw [e, e2]; rfl)) j k ej) hk.hT hk.hd (fun q hq => ⟨(hk.hS q hq).1, Nat.lt_of_lt_of_le (hk.hS q hq).2 hf.size⟩)
    · rw [hl]
      show w'.ownsRow B 9 1 (v 2) x.lines.length ((x.lines.set i s).map Value.string)
      rw [e]
      refine RowB.row (cur := cur.setIfInBounds i (.string s)) ⟨hr.hB, hg, hr.le, hr.mx, by simp [hr.sz], ?_, by simp⟩
      rw [Array.toList_setIfInBounds, List.take_set, hr.is, List.map_set]
    · exact row_step hk.kd fun q hq hl' => hf.block q hl' (fun e2 => rows_ne hk (g := q) (by rw [e, e2]; rfl) hq)
end Go.Proofs.YtpbolcjcmkmalaaGreatDoor
namespace Go.Proofs.YtpbolcjcmkmalaaGreatDoor
open Go.RowKit Go.Extern.Stop Go.Stop Go.Extern

theorem allLines_any (ls : List ByteArray) (la : Option Addr) (lc : Nat) (w : World) (hn : ls.length ≤ 100000) (hL : ∀ s ∈ ls, s.size ≤ 1000000) (hk : ∀ i s, ls[i]? = some s → ∃ b o, la = some ⟨b, o, none⟩ ∧ w.cell? ⟨b, o + i, none⟩ = some (.string s)) :
    Calls Tryz.prog 61 #[.slice la ls.length lc] w fun e w' => e = .returned (.bool (!(ls.any badB))) ∧ Below w.heap.size w w' := by
  have HC := hidLL (bad_has ls la lc w hn hL hk)
  clear hk hL
  generalize ls.length = n at *
  generalize ls.any badB = an at *
  go_enter Tryz.func61, Tryz.ntmps61
  go_wp2_with fail
  refine HC.out.mono ?_
  rintro e w1 ⟨rfl, hb1⟩
  have HB := hidLL hb1
  clear hb1
  go_wp2
  go_ret
  exact ⟨rfl, HB.out⟩
set_option maxHeartbeats 1000000 in
theorem isTooGreat_any (t : It) (hF : FewIt t) (v : Nat → Value) (w : World) (P : Nat → Prop) (hL : Lies w P v t) :
    Calls Tryz.prog 58 #[.agg #[v 0, v 1, v 2, v 3]] w fun e w' => e = .returned (.bool (greatB t)) ∧ Below w.heap.size w w' := by
  obtain ⟨k1, k2, k3, k4, k5, _⟩ := hF.get
  obtain ⟨f0, f1, ⟨la, lc, f2⟩, ⟨ka, kc, f3⟩⟩ := hL.forms
  have hb : Below w.heap.size w (w.alloc (.cells #[v 0, v 1, v 2, v 3] 25)) := (Below.refl _ _).alloc (Nat.le_refl _) _
  rw [f0, f1, f2, f3] at hb
  have hl2 : ∀ i s, t.lines[i]? = some s → ∃ b o, la = some ⟨b, o, none⟩ ∧ (w.alloc (.cells #[.string t.label, .string t.head, .slice la t.lines.length lc, .slice ka t.kids.length kc] 25)).cell? ⟨b, o + i, none⟩ = some (.string s) := fun i s h => by
    obtain ⟨b, o, e1, _, e3⟩ := (hL.linesIn f2).2 i s h
    exact ⟨b, o, e1, (hb.cell (p := ⟨b, o + i, none⟩) (cell_lt e3)).trans e3⟩
  have HH := hidLL (long_has t.lines la lc _ (by omega) k3 hl2)
  have HL1 := hidLL (fun w => longQ_any t.head k4 w)
  rw [f0, f1, f2, f3]
  clear hL hl2 f0 f1 f2 f3 k3 k4 k5 hF
  have HG : Hid (greatB t = (decide (40 < t.lines.length) || (longB t.head || t.lines.any longB))) := rfl
  have h40 : decide (40 < t.lines.length) = decide ((40 : Int) < (t.lines.length : Int)) := by rw [decide_eq_decide]; omega
  rw [h40] at HG
  generalize t.label = lb at *
  generalize t.kids.length = kn at *
  generalize greatB t = g at *
  generalize t.lines.any longB = la2 at *
  generalize longB t.head = lh at *
  generalize t.head = hd at *
  generalize t.lines.length = ln at *
  clear h40
  have HBx := hidLL hb
  clear hb
  by_cases hc : (40 : Int) < (ln : Int)
  · have hcd : decide ((40 : Int) < (ln : Int)) = true := decide_eq_true hc
    rw [hcd] at HG
    go_enter Tryz.func58, Tryz.ntmps58
    go_wp2
    go_ret
    exact ⟨ret_b (by rw [HG.out]; rfl), HBx.out⟩
  · have hcd : decide ((40 : Int) < (ln : Int)) = false := decide_eq_false hc
    rw [hcd] at HG
    cases lh
    · go_enter Tryz.func58, Tryz.ntmps58
      go_wp2_with fail
      go_at_call 97
      refine (HL1.out _).mono ?_
      rintro e w1 ⟨rfl, ew⟩
      subst w1
      go_wp2_with fail
      go_at_call 98
      refine HH.out.mono ?_
      rintro e w1 ⟨rfl, hb1⟩
      have HB1 := hidLL (HBx.out.trans (hb1.mono (by simp)))
      clear hb1
      go_wp2
      go_ret
      exact ⟨ret_b (by rw [HG.out]; rfl), HB1.out⟩
    · go_enter Tryz.func58, Tryz.ntmps58
      go_wp2_with fail
      go_at_call 97
      refine (HL1.out _).mono ?_
      rintro e w1 ⟨rfl, ew⟩
      subst w1
      go_wp2
      go_ret
      exact ⟨ret_b (by rw [HG.out]; rfl), HBx.out⟩
/-- Items in a row: what stands ahead. -/
structure AheadAt (w : World) (P : Nat → Prop) (aa : Option Addr) (ah : List It) (V : Nat → Nat → Value) : Prop where
  hk : ∀ i, i < ah.length → ∃ b o, aa = some ⟨b, o, none⟩ ∧ P b ∧ ∀ c, c < 4 → w.cell? ⟨b, o + i * 4 + c, none⟩ = some (V i c)
  hr : ∀ i k, ah[i]? = some k → Lies w P (V i) k
theorem AheadAt.on {w w' : World} {P : Nat → Prop} {aa : Option Addr} {ah : List It} {V : Nat → Nat → Value} (h : AheadAt w P aa ah V) (hb : ∀ b, b < w.heap.size → P b → w'.heap[b]? = w.heap[b]?) : AheadAt w' P aa ah V where
  hk := fun i hi => by
    obtain ⟨b, o, h1, h2, h3⟩ := h.hk i hi
    exact ⟨b, o, h1, h2, fun c hc => (World.cell?_of_block (a := ⟨b, o + i * 4 + c, none⟩) (hb b (cell_lt (h3 0 (by omega))) h2)).trans (h3 c hc)⟩
  hr := fun i k e => (h.hr i k e).step fun b hb' hp => ⟨hb b hb' hp, hp⟩
theorem ahead_has {w : World} {P : Nat → Prop} {aa : Option Addr} {ah : List It} {V : Nat → Nat → Value} (h : AheadAt w P aa ah V) (s : ByteArray) : (∃ i, i < ah.length ∧ ((strOf (V i 0)).toList == s.toList) = true) ↔ (ah.any fun k => k.label.toList == s.toList) = true := by
  have := kids_has (t := It.mk ⟨#[]⟩ ⟨#[]⟩ [] ah) h.hr s
  exact this.symm
set_option maxHeartbeats 1000000 in
theorem hasRight_any (t : It) (hF : FewIt t) (d : Nat) (hd : d ≤ 1000) (v : Nat → Value) (w : World) (P Q : Nat → Prop) (hL : Lies w P v t) (aa : Option Addr) (ac : Nat) (ah : List It) (V : Nat → Nat → Value) (hA : AheadAt w Q aa ah V) (hn : ah.length ≤ 1000) (hT : Lib.Utf8Tabs 13 14 w) :
    Calls Tryz.prog 59 #[.agg #[v 0, v 1, v 2, v 3], .int .i64 d, .slice aa ah.length ac] w fun e w' => e = .returned (.bool (labelOk d ah t)) ∧ Below w.heap.size w w' := by
  obtain ⟨k1, k2, k3, k4, k5, _⟩ := hF.get
  obtain ⟨f0, f1, ⟨la, lc, f2⟩, ⟨ka, kc, f3⟩⟩ := hL.forms
  have HO : Hid (labelOk d ah t = if d = 0 then decide (t.label.size = 0) else isLab t.label && !(ah.any fun k => k.label.toList == t.label.toList)) := rfl
  have hE := empty_is t.label
  have HLb := hidLL (fun w hT => isLabel_any t.label k5 w hT)
  have HA := hidLL hA
  have HT := hidLL hT
  have HLd : Hid (∀ W, Below w.heap.size w W → Calls Tryz.prog 99 #[.slice aa ah.length ac, .string t.label] W fun e w' => (∃ k : Int, e = .returned (.int .i64 k) ∧ -1 ≤ k ∧ (0 ≤ k ↔ (ah.any fun k => k.label.toList == t.label.toList) = true)) ∧ Below W.heap.size W w') := fun W hW => by
    have hA2 := hA.on (w' := W) (fun b hb _ => hW.block b hb)
    refine (labelled_any ah.length aa ac _ _ _ _ _ _ _ _ t.label W (by omega) (kids_cells hA2.hk hA2.hr)).mono ?_
    rintro e w' ⟨⟨k, h1, h2, h3⟩, h4⟩
    exact ⟨⟨k, h1, h2, h3.trans (ahead_has hA2 t.label)⟩, h4⟩
  rw [f0, f1, f2, f3]
  clear hL f0 f1 f2 f3 hF k1 k2 k3 k4 hA hT
  generalize labelOk d ah t = O at *
  generalize (ah.any fun k => k.label.toList == t.label.toList) = an at *
  generalize isLab t.label = il at *
  generalize t.label = lb at *
  generalize t.head = hd2 at *
  generalize t.lines.length = ln at *
  generalize t.kids.length = kn at *
  generalize ah.length = an2 at *
  have HBx : Hid (Below w.heap.size w (w.alloc (.cells #[.string lb, .string hd2, .slice la ln lc, .slice ka kn kc] 25))) := (Below.refl _ _).alloc (Nat.le_refl _) _
  by_cases h0 : d = 0
  · subst h0
    rw [if_pos rfl] at HO
    generalize decide (lb.size = 0) = z0 at *
    go_enter Tryz.func59, Tryz.ntmps59
    go_wp2
    go_ret
    exact ⟨ret_b HO.out.symm, HBx.out⟩
  · rw [if_neg h0] at HO
    have h0z : ((d : Int) == 0) = false := by rw [beq_eq_false_iff_ne]; omega
    have HLb2 := hidLL (HLb.out (w.alloc (.cells #[.string lb, .string hd2, .slice la ln lc, .slice ka kn kc] 25)) (tabs_below HT.out HBx.out))
    clear hE
    cases il
    · go_enter Tryz.func59, Tryz.ntmps59
      go_wp2_with fail
      go_at_call 80
      refine HLb2.out.mono ?_
      rintro e w1 ⟨rfl, hb1⟩
      have HB1 := hidLL (HBx.out.trans (hb1.mono (by simp)))
      clear hb1
      go_wp2
      go_ret
      exact ⟨ret_b (by rw [HO.out]; rfl), HB1.out⟩
    · go_enter Tryz.func59, Tryz.ntmps59
      go_wp2_with fail
      go_at_call 80
      refine HLb2.out.mono ?_
      rintro e w1 ⟨rfl, hb1⟩
      have y0 : w1.cell? ⟨w.heap.size, 0, none⟩ = some (.string lb) := (hb1.cell (p := ⟨w.heap.size, 0, none⟩) (by simp)).trans (by simp)
      have HB1 := hidLL (HBx.out.trans (hb1.mono (by simp)))
      clear hb1
      go_wp2_with fail
      go_at_call 99
      refine (HLd.out _ HB1.out).mono ?_
      rintro e w2 ⟨⟨k, rfl, hk1, hk2⟩, hb2⟩
      have HB2 := hidLL (HB1.out.trans (hb2.mono HB1.out.size))
      have HR : Hid (decide (k < 0) = !an) := by
        show _ = _
        cases an
        · exact decide_eq_true (by rcases Int.lt_or_le k 0 with h | h; exact h; exact absurd (hk2.1 h) (by decide))
        · exact decide_eq_false (by have := hk2.2 rfl; omega)
      clear hb2 hk2
      go_wp2
      go_ret
      exact ⟨ret_b (by rw [HO.out, ← HR.out]; rfl), HB2.out⟩
end Go.Proofs.YtpbolcjcmkmalaaGreatDoor
namespace Go.Proofs.YtpbolcjcmkmalaaGreatDoor
open Go.RowKit Go.Extern.Stop Go.Stop Go.Extern

theorem Tryz.infoRow : ∃ i z, Tryz.prog.info? 82 = some i ∧ i.zero = some z ∧ i.size = 8 ∧ i.bytes = 136 ∧ z.cells.size = 8 := by
  have h : (Tryz.prog.info? 82).map (fun i => (i.zero.map (fun z => z.cells.size), i.size, i.bytes)) = some (some 8, 8, 136) := by kernel_rfl
  obtain ⟨i, hi, e⟩ := Option.map_eq_some_iff.1 h
  injection e with e1 e2
  injection e2 with e2 e3
  obtain ⟨z, hz, e4⟩ := Option.map_eq_some_iff.1 e1
  exact ⟨i, z, hi, hz, e2, e3, e4⟩
def flat8 (V : Nat → Nat → Value) (n : Nat) : List Value := (List.range (n * 8)).map fun q => V (q / 8) (q % 8)
theorem flat8_len (V : Nat → Nat → Value) (n : Nat) : (flat8 V n).length = n * 8 := by unfold flat8; simp
theorem flat8_get (V : Nat → Nat → Value) (n j c : Nat) (hj : j < n) (hc : c < 8) : (flat8 V n)[j * 8 + c]? = some (V j c) := by
  unfold flat8
  rw [List.getElem?_map, List.getElem?_range (by omega)]
  simp only [Option.map_some, Option.some.injEq]
  rw [show (j * 8 + c) / 8 = j by omega, show (j * 8 + c) % 8 = c by omega]
theorem flat8_snoc (V : Nat → Nat → Value) (n : Nat) (x : Nat → Value) : flat8 V n ++ [x 0, x 1, x 2, x 3, x 4, x 5, x 6, x 7] = flat8 (snocV V n x) (n + 1) := by
  apply List.ext_getElem?
  intro q
  rcases Nat.lt_or_ge q (n * 8) with h | h
  · rw [List.getElem?_append_left (by rw [flat8_len]; exact h)]
    have e : q = q / 8 * 8 + q % 8 := by omega
    rw [e, flat8_get _ _ _ _ (by omega) (by omega), flat8_get _ _ _ _ (by omega) (by omega)]
    unfold snocV
    rw [if_neg (by omega)]
  · rw [List.getElem?_append_right (by rw [flat8_len]; exact h), flat8_len]
    rcases Nat.lt_or_ge q ((n + 1) * 8) with h2 | h2
    · obtain ⟨c, hc⟩ : ∃ c, c = q - n * 8 := ⟨_, rfl⟩
      have e : q = n * 8 + c := by omega
      rw [e, flat8_get _ _ _ _ (by omega) (by omega)]
      unfold snocV
      rw [if_pos rfl, show n * 8 + c - n * 8 = c by omega]
      have : c < 8 := by omega
      match c, this with
      | 0, _ => rfl
      | 1, _ => rfl
      | 2, _ => rfl
      | 3, _ => rfl
      | 4, _ => rfl
      | 5, _ => rfl
      | 6, _ => rfl
      | 7, _ => rfl
    · rw [List.getElem?_eq_none (by simp; omega), List.getElem?_eq_none (by rw [flat8_len]; exact h2)]
/-- A row in memory; the law lies below B. -/
structure RowAt (B : Nat) (w : World) (c : Nat → Value) (r : FRow) : Prop where
  it : Lies w (fun k => k < B) c r.item
  dp : c 4 = .int .i64 r.deep
  pa : ∃ s, c 5 = .string s
  nt : c 6 = .int .i64 r.nth
  up : ∃ ua uc, c 7 = .slice ua r.up.length uc ∧ ∀ k x, r.up[k]? = some x → ∃ b o, ua = some ⟨b, o, none⟩ ∧ b < B ∧ w.cell? ⟨b, o + k * 4, none⟩ = some (.string x.label)
theorem RowAt.on {B : Nat} {w w' : World} {c : Nat → Value} {r : FRow} (h : RowAt B w c r) (hb : Below B w w') : RowAt B w' c r where
  it := h.it.step fun b _ hp => ⟨hb.block b hp, hp⟩
  dp := h.dp
  pa := h.pa
  nt := h.nt
  up := by
    obtain ⟨ua, uc, h1, h2⟩ := h.up
    refine ⟨ua, uc, h1, fun k x hx => ?_⟩
    obtain ⟨b, o, e1, e2, e3⟩ := h2 k x hx
    exact ⟨b, o, e1, e2, (hb.cell (p := ⟨b, o + k * 4, none⟩) e2).trans e3⟩
/-- The rows so far. -/
structure FAt (B : Nat) (w : World) (sv : Value) (rows : List FRow) (V : Nat → Nat → Value) : Prop where
  row : w.ownsRow B 82 8 sv rows.length (flat8 V rows.length)
  each : ∀ i r, rows[i]? = some r → RowAt B w (V i) r
/-- What making rows leaves as it was: all below B, and every block that does not hold rows. -/
structure RStep (B : Nat) (w w' : World) : Prop where
  bel : Below B w w'
  kp : ∀ (k : Nat) cs T fr, w.heap[k]? = some (.cells cs T fr) → T ≠ 82 → w'.heap[k]? = w.heap[k]?
theorem RStep.refl (B : Nat) (w : World) : RStep B w w := ⟨Below.refl _ _, fun _ _ _ _ _ _ => rfl⟩
theorem RStep.trans {B : Nat} {w w' w'' : World} (h : RStep B w w') (h' : RStep B w' w'') : RStep B w w'' :=
  ⟨h.bel.trans h'.bel, fun k cs T fr hc hT => (h'.kp k cs T fr ((h.kp k cs T fr hc hT).trans hc) hT).trans (h.kp k cs T fr hc hT)⟩
theorem RStep.of {B : Nat} {w w' : World} (hw : B ≤ w.heap.size) (h : Below w.heap.size w w') : RStep B w w' :=
  ⟨h.mono hw, fun k _ _ _ hc _ => h.block k (lt_of_block hc)⟩
theorem FAt.on {B : Nat} {w w' : World} {sv : Value} {rows : List FRow} {V : Nat → Nat → Value} (h : FAt B w sv rows V) (hw : B ≤ w.heap.size) (hb : Below w.heap.size w w') : FAt B w' sv rows V :=
  ⟨row_step h.row fun g _ hg => hb.block g hg, fun i r e => (h.each i r e).on (hb.mono hw)⟩
/-- A row more. -/
theorem FAt.push {B : Nat} {w w1 w2 : World} {sv sv' : Value} {rows : List FRow} {V : Nat → Nat → Value} (h : FAt B w sv rows V) (hw : B ≤ w.heap.size) (ha : Below w.heap.size w w1) (x : Nat → Value) (r : FRow)
    (ho : w2.ownsRow B 82 8 sv' (rows.length + 1) (flat8 V rows.length ++ [x 0, x 1, x 2, x 3, x 4, x 5, x 6, x 7])) (hg : w1.grownBy w2 sv.ownBlock) (hr : RowAt B w x r) :
    FAt B w2 sv' (rows ++ [r]) (snocV V rows.length x) ∧ RStep B w w2 := by
  have hs1 : B ≤ w1.heap.size := Nat.le_trans hw ha.size
  have hrow1 : w1.ownsRow B 82 8 sv rows.length (flat8 V rows.length) := row_step h.row fun g _ hg => ha.block g hg
  have hb2 : Below B w w2 := (ha.mono hw).grown hg hs1 (fun k hk => (hrow1.lt k hk).1)
  refine ⟨⟨?_, fun i q e => ?_⟩, hb2, fun k cs T fr hc hT => ?_⟩
  · rw [List.length_append, List.length_singleton, ← flat8_snoc]; exact ho
  · rw [List.getElem?_append] at e
    split at e
    · rename_i hi
      unfold snocV
      rw [if_neg (by omega)]
      exact (h.each i q e).on hb2
    · rename_i hi
      have : i = rows.length := by
        have := (List.getElem?_eq_some_iff.1 e).1
        simp at this; omega
      subst this
      rw [Nat.sub_self] at e
      obtain rfl : r = q := by simpa using e
      unfold snocV
      rw [if_pos rfl]
      exact hr.on hb2
  · have h1 : w1.heap[k]? = some (.cells cs T fr) := (ha.block k (lt_of_block hc)).trans hc
    have hne : sv.ownBlock ≠ some k := by
      rcases hrow1.2 with ⟨rfl, _⟩ | ⟨g, cap, cur, rfl, _, hgg, _⟩
      · simp [Value.ownBlock]
      · intro e
        simp only [Value.ownBlock, Option.some.injEq] at e
        subst e
        rw [hgg] at h1
        simp only [Option.some.injEq, Obj.cells.injEq] at h1
        exact hT h1.2.1.symm
    rw [hg.block k (lt_of_block h1) (fun e => hne e.symm), h1, hc]
theorem FAt.get {B : Nat} {w : World} {a : Option Addr} {n cap : Nat} {rows : List FRow} {V : Nat → Nat → Value} (h : FAt B w (.slice a n cap) rows V) {i : Nat} {r : FRow} (hr : rows[i]? = some r) : n = rows.length ∧ ∃ g, a = some ⟨g, 0, none⟩ ∧ ∀ c, c < 8 → w.cell? ⟨g, i * 8 + c, none⟩ = some (V i c) := by
  have hi := (List.getElem?_eq_some_iff.1 hr).1
  rcases h.row.2 with ⟨_, h0⟩ | ⟨g, cap', cur, e1, _⟩
  · omega
  · injection e1 with e2 e3 e4
    refine ⟨e3, g, e2, fun c hc => ?_⟩
    have hrow := h.row
    rw [e2, e3] at hrow
    have h5 := hrow.cells (g := g) rfl (i * 8 + c) _ (flat8_get V rows.length i c hi hc)
    have h6 : (⟨g, 0, none⟩ : Addr).add (i * 8 + c) = ⟨g, i * 8 + c, none⟩ := by
      unfold Addr.add
      split
      · rename_i h0
        rw [h0]
      · simp
    rw [h6] at h5
    exact h5
theorem flatKs_app (d : Nat) (up : List It) : ∀ (a b : List It) (n : Nat), flatKs d n up (a ++ b) = flatKs d n up a ++ flatKs d (n + a.length) up b
  | [], b, n => by rw [flatKs]; rfl
  | t :: r, b, n => by
    rw [List.cons_append, flatKs, flatKs, flatKs_app d up r b (n + 1), List.append_assoc, List.length_cons, show n + 1 + r.length = n + (r.length + 1) by omega]
theorem flatKs_take (d : Nat) (l : List It) (i : Nat) (t : It) (h : l[i]? = some t) (up : List It) : flatKs d 0 up (l.take (i + 1)) = flatKs d 0 up (l.take i) ++ flatIt d i up t := by
  obtain ⟨hi, e⟩ := List.getElem?_eq_some_iff.1 h
  rw [List.take_succ_eq_append_getElem hi, e, flatKs_app, flatKs, flatKs, List.append_nil, List.length_take, Nat.min_eq_left (by omega), Nat.zero_add]
theorem flatIt_len : ∀ (N : Nat) (t : It), sizeIt t ≤ N → ∀ (d n : Nat) (up : List It), (flatIt d n up t).length ≤ sizeIt t
  | 0, t, h, d, n, up => by have := sizeIt_eq t; omega
  | N + 1, t, h, d, n, up => by
    have hks : ∀ (l all : List It) (j : Nat), (∀ x ∈ l, sizeIt x ≤ N) → (flatKs (d + 1) j all l).length ≤ sizeIts l := by
      intro l
      induction l with
      | nil => intro all j _; rw [flatKs]; simp
      | cons x r ih =>
        intro all j hx
        have h1 := ih all (j + 1) (fun y hy => hx y (List.mem_cons_of_mem _ hy))
        have h2 := flatIt_len N x (hx x (by simp)) (d + 1) j all
        rw [flatKs, List.length_append, sizeIts]
        omega
    have h1 := hks t.kids t.kids 0 (fun x hx => by have := kid_size hx; omega)
    have h2 := sizeIt_eq t
    rw [flatIt_eq, List.length_cons]
    omega
theorem flatKs_len (d : Nat) (up : List It) : ∀ (l : List It) (n : Nat), (flatKs d n up l).length ≤ sizeIts l
  | [], n => by rw [flatKs]; simp
  | x :: r, n => by
    have h1 := flatKs_len d up r (n + 1)
    have h2 := flatIt_len _ x (Nat.le_refl _) d n up
    rw [flatKs, List.length_append, sizeIts]
    omega
theorem sizeIts_take : ∀ (l : List It) (i : Nat) (t : It), l[i]? = some t → sizeIts (l.take (i + 1)) = sizeIts (l.take i) + sizeIt t
  | a :: r, 0, t, h => by
    obtain rfl : a = t := by simpa using h
    simp [sizeIts]
  | a :: r, i + 1, t, h => by
    have := sizeIts_take r i t (by simpa using h)
    rw [List.take_succ_cons, List.take_succ_cons, sizeIts, sizeIts, this]
    omega
theorem sizeIts_takeLe : ∀ (l : List It) (i : Nat), sizeIts (l.take i) ≤ sizeIts l
  | [], i => by simp
  | a :: r, 0 => by simp [sizeIts]
  | a :: r, i + 1 => by
    have := sizeIts_takeLe r i
    rw [List.take_succ_cons, sizeIts, sizeIts]
    omega
end Go.Proofs.YtpbolcjcmkmalaaGreatDoor
