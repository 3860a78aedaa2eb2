/-
  An item that owns its memory: a kid goes, one comes. No walk.
-/
import Derived.Test.YtpbolcjcmkmalaaGreatDoorCo20
import Derived.Test.YtpbolcjcmkmalaaGreatDoorCo16
import Derived.Test.YtpbolcjcmkmalaaGreatDoorCo17
import Derived.Deep.WholeRow
import Derived.Maps.OwnSet
import Derived.ChangeKeysEq
import Derived.Test.YtpbolcjcmkmalaaGreatDoorCo15
import Derived.Test.YtpbolcjcmkmalaaGreatDoorProg
import Derived.Test.YtpbolcjcmkmalaaGreatDoorCo10
import Derived.WalkKit
import Derived.Below
import Derived.Outline
import Derived.Laws.OwnMore
import Derived.OneCell
import Derived.Deep.OwnRows
import Derived.Deep.MidRow
import Derived.Maps.AppendAt
import Derived.Deep.QuietTactic
import Derived.BigQuiet
import Derived.Deep.RegionLaw
import Derived.Deep.RegionWith
import Derived.Deep.DeepCutAuto
import Derived.Deep.RegionHeld3
import Derived.Carry
namespace Go.Proofs.YtpbolcjcmkmalaaGreatDoor
open Go.RowKit Go.Extern.Stop Go.Stop Go.Extern

/-- Other kids. -/
theorem ItAt.setK {W w' : World} {B b o : Nat} {x : It} {S : Nat → Prop} {v : Nat → Value} (h : ItAt W B b o x S v) {u : Value} {ks : List It} {K' : Nat → Nat → Value} {T' : Nat → Nat → Prop} {S' : Nat → Prop} (hf : Fr (fun k => k = b ∨ (v 3).ownBlock = some k) W w') (hb : w'.heap[b]? = (W.setCell ⟨b, o + 3, none⟩ u).heap[b]?)
    (hr : w'.ownsRow B 25 4 u ks.length (flat4 K' ks.length)) (ho : ∀ i k, ks[i]? = some k → Own w' B (K' i) k (T' i)) (hS : ∀ q, S' q → B ≤ q ∧ q < w'.heap.size) (hsl : ∀ g, (v 2).ownBlock = some g → S' g) (hsk : ∀ g, u.ownBlock = some g → S' g)
    (hT : ∀ i q, i < ks.length → T' i q → S' q ∧ (v 2).ownBlock ≠ some q ∧ u.ownBlock ≠ some q) (hd : ∀ i j q, i < ks.length → j < ks.length → T' i q → T' j q → i = j) (hout : ¬ S' b) :
    ItAt w' B b o (x.setKids ks) S' (updV v 3 u) ∧ Upd W w' b o S := by
  obtain ⟨h1, h2⟩ := here_set (u := u) h.here (c := 3) (by omega) hb
  obtain ⟨K, T, hk⟩ := h.own.parts
  have hn : ∀ q, S q → q ≠ b := fun q hq e => h.out (e ▸ hq)
  refine ⟨⟨h1, ?_, hout⟩, ⟨hf.os, hf.tape, hf.output, hf.size, fun k hk' hs hne => hf.block k hk' (fun e => e.elim hne (fun e => hs (hk.sk k e))), h2⟩⟩
  refine .mk _ _ K' T' S' ((updV_ne v _ (by omega)).trans hk.h0) ((updV_ne v _ (by omega)).trans hk.h1) ?_ ?_ (fun g hg => hsl g (by rw [updV_ne v _ (by omega)] at hg; exact hg)) (fun g hg => hsk g (by rw [updV_same] at hg; exact hg)) ho (fun i q hi hq => ?_) hd hS
  · rw [updV_ne v _ (by omega)]
    exact row_step hk.ln fun g hg hl => hf.block g hl (fun e => e.elim (hn g (hk.sl g hg)) (fun e => rows_ne hk hg e))
  · rw [updV_same]; exact hr
  · rw [updV_ne v _ (by omega), updV_same]
    exact hT i q hi hq
def skV {α : Type} (K : Nat → α) (d : Nat) : Nat → α := fun i => if i < d then K i else K (i + 1)
def inV {α : Type} (K : Nat → α) (d : Nat) (y : α) : Nat → α := fun i => if i < d then K i else if i = d then y else K (i - 1)
theorem flat4_at (K : Nat → Nat → Value) {n q : Nat} (h : q < n * 4) : (flat4 K n)[q]? = some (K (q / 4) (q % 4)) := by
  have := flat4_get K n (q / 4) (q % 4) (by omega) (by omega)
  rwa [show q / 4 * 4 + q % 4 = q by omega] at this
theorem flat4_erase (K : Nat → Nat → Value) {n d : Nat} (h : d < n) : (flat4 K n).take (d * 4) ++ (flat4 K n).drop ((d + 1) * 4) = flat4 (skV K d) (n - 1) := by
  apply List.ext_getElem?
  intro q
  have hl : ((flat4 K n).take (d * 4)).length = d * 4 := by rw [List.length_take, flat4_len]; omega
  rcases Nat.lt_or_ge q ((n - 1) * 4) with hq | hq
  · rw [flat4_at _ hq]
    unfold skV
    rcases Nat.lt_or_ge q (d * 4) with h1 | h1
    · rw [List.getElem?_append_left (by omega), List.getElem?_take, if_pos h1, flat4_at K (by omega), if_pos (by omega)]
    · rw [List.getElem?_append_right (by omega), hl, List.getElem?_drop, flat4_at K (by omega), if_neg (by omega)]
      congr 2 <;> omega
  · rw [List.getElem?_eq_none (by rw [List.length_append, hl, List.length_drop, flat4_len]; omega), List.getElem?_eq_none (by rw [flat4_len]; omega)]
theorem flat4_insert (K : Nat → Nat → Value) {n d : Nat} (y : Nat → Value) (h : d ≤ n) : (flat4 K n).take (d * 4) ++ [y 0, y 1, y 2, y 3] ++ (flat4 K n).drop (d * 4) = flat4 (inV K d y) (n + 1) := by
  apply List.ext_getElem?
  intro q
  have hl : ((flat4 K n).take (d * 4)).length = d * 4 := by rw [List.length_take, flat4_len]; omega
  have hl2 : ((flat4 K n).take (d * 4) ++ [y 0, y 1, y 2, y 3]).length = d * 4 + 4 := by rw [List.length_append, hl]; rfl
  rcases Nat.lt_or_ge q ((n + 1) * 4) with hq | hq
  · rw [flat4_at _ hq]
    unfold inV
    rcases Nat.lt_or_ge q (d * 4) with h1 | h1
    · rw [List.getElem?_append_left (by omega), List.getElem?_append_left (by omega), List.getElem?_take, if_pos h1, flat4_at K (by omega), if_pos (by omega)]
    · rcases Nat.lt_or_ge q (d * 4 + 4) with h2 | h2
      · rw [List.getElem?_append_left (by omega), List.getElem?_append_right (by omega), hl, if_neg (by omega), if_pos (by omega)]
        obtain ⟨c, hc⟩ : ∃ c, c = q - d * 4 := ⟨_, rfl⟩
        have e : q % 4 = c := by omega
        rw [e, ← hc]
        have : c < 4 := by omega
        match c, this with
        | 0, _ => rfl
        | 1, _ => rfl
        | 2, _ => rfl
        | 3, _ => rfl
      · rw [List.getElem?_append_right (by omega), hl2, List.getElem?_drop, flat4_at K (by omega), if_neg (by omega), if_neg (by omega)]
        congr 2 <;> omega
  · rw [List.getElem?_eq_none (by rw [List.length_append, hl2, List.length_drop, flat4_len]; omega), List.getElem?_eq_none (by rw [flat4_len]; omega)]
theorem kid_ones {w : World} {B : Nat} {v : Nat → Value} {t : It} {S : Nat → Prop} {K : Nat → Nat → Value} {T : Nat → Nat → Prop} (h : OwnK w B v t S K T) : ∀ u ∈ flat4 K t.kids.length, u.oneCell' = true := by
  intro u hu
  obtain ⟨q, hq, e⟩ := List.getElem_of_mem hu
  have hq' : q < t.kids.length * 4 := by rwa [flat4_len] at hq
  have h1 := flat4_at K hq'
  rw [List.getElem?_eq_getElem hq, e] at h1
  injection h1 with h1
  obtain ⟨f0, f1, ⟨la, lc, f2⟩, ka, kc, f3⟩ := (h.hr (q / 4) _ (List.getElem?_eq_getElem (by omega))).lies.forms
  rw [h1]
  have hc : q % 4 < 4 := Nat.mod_lt _ (by omega)
  generalize q % 4 = c at *
  match c, hc with
  | 0, _ => rw [f0]; rfl
  | 1, _ => rw [f1]; rfl
  | 2, _ => rw [f2]; rfl
  | 3, _ => rw [f3]; rfl
/-- What is left to be done: one cell of the item is written. -/
structure StC (b o c : Nat) (u : Value) (w' : World) (Q : World → Prop) : Prop where
  cell : ∃ old, w'.cell? ⟨b, o + c, none⟩ = some old
  frz : w'.frozen? ⟨b, o + c, none⟩ = false
  fin : ∀ w'', w''.heap = (w'.setCell ⟨b, o + c, none⟩ u).heap → w''.os = w'.os → w''.tape = w'.tape → w''.output = w'.output → Q w''
/-- The kids' cell is to be written behind a step that wrote the kids' row alone. -/
theorem ItAt.stC {W w' : World} {B b o : Nat} {x : It} {S : Nat → Prop} {v : Nat → Value} (h : ItAt W B b o x S v) {K : Nat → Nat → Value} {T : Nat → Nat → Prop} (hk : OwnK W B v x S K T) {u : Value} (hg : W.grownBy w' (v 3).ownBlock) (hu : u.ownBlock = (v 3).ownBlock ∨ ∃ g, u.ownBlock = some g ∧ W.heap.size ≤ g ∧ g < w'.heap.size) {Q : World → Prop}
    (hQ : ∀ w'', Fr (fun k => k = b ∨ (v 3).ownBlock = some k) W w'' → w''.heap[b]? = (W.setCell ⟨b, o + 3, none⟩ u).heap[b]? → w''.heap.size = w'.heap.size → (∀ k, k ≠ b → w''.heap[k]? = w'.heap[k]?) → (∀ g, u.ownBlock = some g → g ≠ b) → Q w'') : StC b o 3 u w' Q := by
  have hbne : ∀ g, (v 3).ownBlock = some g → g ≠ b := fun g hg e => h.out (e ▸ hk.sk g hg)
  have hbb : w'.heap[b]? = W.heap[b]? := hg.block b h.lt (fun e => hbne b e.symm rfl)
  refine ⟨⟨v 3, (World.cell?_of_block (a := ⟨b, o + 3, none⟩) hbb).trans (h.cell (by omega))⟩, (World.frozen?_of_block (a := ⟨b, o + 3, none⟩) hbb).trans (h.frozen _), fun w'' h1 h2 h3 h4 => ?_⟩
  have hsz : w''.heap.size = w'.heap.size := by rw [h1]; simp
  have hblk : ∀ k, k ≠ b → w''.heap[k]? = w'.heap[k]? := fun k hk => by rw [h1]; exact Below.heap_setCell _ _ _ _ hk
  refine hQ w'' ⟨h2.trans hg.os, h3.trans hg.tape, h4.trans hg.output, by rw [hsz]; exact hg.size, fun k hk hx => ?_⟩ ?_ hsz hblk (fun g hg' e => ?_)
  · rw [hblk k (fun e => hx (.inl e)), hg.block k hk (fun e => hx (.inr e.symm))]
  · obtain ⟨cur, ty, e, _⟩ := h.here
    rw [h1, setCell_row u (hbb.trans e), setCell_row u e]
  · rcases hu with e1 | ⟨g', e1, h5, _⟩
    · exact hbne g (by rw [← e1]; exact hg') e
    · rw [e1] at hg'; injection hg' with hg'; have := h.lt; omega
/-- A kid goes. -/
theorem dropI_c {W : World} {B b o d : Nat} {x k : It} {S : Nat → Prop} {v : Nat → Value} {K : Nat → Nat → Value} {T : Nat → Nat → Prop} (h : ItAt W B b o x S v) (hk : OwnK W B v x S K T) (hd : x.kids[d]? = some k) (hn : x.kids.length ≤ 1000000) {ka : Option Addr} {kc : Nat} (e : v 3 = .slice ka x.kids.length kc) :
    Calls Tryz.prog 79 #[.slice ka x.kids.length kc, .int .i64 d, .int .i64 ((d : Int) + 1)] W fun e w' => ∃ a n c, e = .returned (.slice a n c) ∧ StC b o 3 (.slice a n c) w' (fun w'' => ∃ v', ItAt w'' B b o (x.setKids (x.kids.eraseIdx d)) (fun q => S q ∧ ¬ T d q) v' ∧ Own w'' B (K d) k (T d) ∧ Upd W w'' b o S) := by
  have hdl := (List.getElem?_eq_some_iff.1 hd).1
  have hkd := hk.kd
  rw [e] at hkd
  refine (delI_a hkd (kid_ones hk) hdl hn).mono ?_
  rintro e' w' ⟨⟨u, rfl, hu, hr⟩, hg⟩
  rw [flat4_erase K hdl] at hr
  obtain ⟨a, c, rfl⟩ := row_any hr
  refine ⟨a, _, c, rfl, h.stC hk (by rw [e]; exact hg) (.inl (by rw [hu, e])) fun w'' hf hb hsz hblk hub => ?_⟩
  have hl : (x.kids.eraseIdx d).length = x.kids.length - 1 := by rw [List.length_eraseIdx, if_pos hdl]
  have hn' : ∀ q, S q → q ≠ b := fun q hq e => h.out (e ▸ hq)
  have hu3 : ∀ g, (Value.slice a (x.kids.length - 1) c).ownBlock = some g → (v 3).ownBlock = some g := fun g hg => by rw [e, ← hu]; exact hg
  have hst := fun j k' (ej : x.kids[j]? = some k') => own_step2 (t := x) hk hf (fun i q hi hq e2 => e2.elim (hn' q (hk.hT i q hi hq).1) (hk.hT i q hi hq).2.2) j k' ej
  have hsk : ∀ i, i < x.kids.length - 1 → ∃ j, j < x.kids.length ∧ j ≠ d ∧ skV K d i = K j ∧ skV T d i = T j ∧ (j = if i < d then i else i + 1) := fun i hi => by
    unfold skV
    by_cases hid : i < d
    · exact ⟨i, by omega, by omega, by rw [if_pos hid], by rw [if_pos hid], by rw [if_pos hid]⟩
    · exact ⟨i + 1, by omega, by omega, by rw [if_neg hid], by rw [if_neg hid], by rw [if_neg hid]⟩
  have hset : ItAt w'' B b o (x.setKids (x.kids.eraseIdx d)) (fun q => S q ∧ ¬ T d q) (updV v 3 (.slice a (x.kids.length - 1) c)) ∧ Upd W w'' b o S := by
    refine h.setK (u := .slice a (x.kids.length - 1) c) (ks := x.kids.eraseIdx d) (K' := skV K d) (T' := skV T d) (S' := fun q => S q ∧ ¬ T d q) hf hb (by rw [hl]; exact row_step hr fun g hg' hl' => hblk g (hub g hg')) (fun i k' ei => ?_) (fun q hq => ⟨(hk.hS q hq.1).1, Nat.lt_of_lt_of_le (hk.hS q hq.1).2 hf.size⟩) (fun g hg' => ⟨hk.sl g hg', fun e2 => (hk.hT d g hdl e2).2.1 hg'⟩) (fun g hg' => ⟨hk.sk g (hu3 g hg'), fun e2 => (hk.hT d g hdl e2).2.2 (hu3 g hg')⟩) (fun i q hi hq => ?_) (fun i i' q hi hi' hq hq' => ?_) (fun hh => h.out hh.1)
    · have hi : i < x.kids.length - 1 := by rw [← hl]; exact (List.getElem?_eq_some_iff.1 ei).1
      obtain ⟨j, h1, h2, h3, h4, h5⟩ := hsk i hi
      rw [h3, h4]
      rw [List.getElem?_eraseIdx] at ei
      refine hst j k' ?_
      rw [h5]
      split at ei
      · rename_i hid; rw [if_pos hid]; exact ei
      · rename_i hid; rw [if_neg hid]; exact ei
    · rw [hl] at hi
      obtain ⟨j, h1, h2, h3, h4, h5⟩ := hsk i hi
      rw [h4] at hq
      have h9 := hk.hT j q h1 hq
      exact ⟨⟨h9.1, fun e2 => h2 (hk.hd j d q h1 hdl hq e2)⟩, h9.2.1, fun e2 => h9.2.2 (hu3 q e2)⟩
    · rw [hl] at hi hi'
      obtain ⟨j, h1, h2, h3, h4, h5⟩ := hsk i hi
      obtain ⟨j', h1', h2', h3', h4', h5'⟩ := hsk i' hi'
      rw [h4] at hq
      rw [h4'] at hq'
      have e9 := hk.hd j j' q h1 h1' hq hq'
      rw [h5, h5'] at e9
      split at e9 <;> split at e9 <;> omega
  exact ⟨_, hset.1, hst d k hd, hset.2⟩
theorem ins_get {l : List It} {d i : Nat} {k k' : It} (hd : d ≤ l.length) (h : (l.insertIdx d k)[i]? = some k') : (i < d ∧ l[i]? = some k') ∨ (i = d ∧ k' = k) ∨ (d < i ∧ l[i - 1]? = some k') := by
  rw [ins_take l d k hd] at h
  have hlt : (l.take d).length = d := by rw [List.length_take]; omega
  rcases Nat.lt_trichotomy i d with h1 | h1 | h1
  · rw [List.getElem?_append_left (by omega), List.getElem?_take, if_pos h1] at h
    exact .inl ⟨h1, h⟩
  · subst h1
    rw [List.getElem?_append_right (by omega), hlt, Nat.sub_self, List.getElem?_cons_zero] at h
    injection h with h
    exact .inr (.inl ⟨rfl, h.symm⟩)
  · rw [List.getElem?_append_right (by omega), hlt, show i - d = (i - d - 1) + 1 by omega, List.getElem?_cons_succ, List.getElem?_drop] at h
    exact .inr (.inr ⟨h1, by rw [← h]; congr 1; omega⟩)
/-- One kid more, with its blocks. -/
theorem putI_c {W : World} {B b o d vb : Nat} {x k : It} {S Ty : Nat → Prop} {v y : Nat → Value} (h : ItAt W B b o x S v) (hB : B ≤ W.heap.size) (hd : d ≤ x.kids.length) (hn : x.kids.length ≤ 1000000) {ka : Option Addr} {kc : Nat} (e : v 3 = .slice ka x.kids.length kc) (hy : Own W B y k Ty) (hTy : ∀ q, Ty q → ¬ S q ∧ q ≠ b) (hv : W.heap[vb]? = some (.cells #[y 0, y 1, y 2, y 3] 25 (0, 0))) (hvb : ¬ S vb) :
    Calls Tryz.prog 77 #[.slice ka x.kids.length kc, .int .i64 d, .slice (some ⟨vb, 0, none⟩) 1 1] W fun e w' => ∃ a n c, e = .returned (.slice a n c) ∧ StC b o 3 (.slice a n c) w' (fun w'' => ∃ S' v', ItAt w'' B b o (x.setKids (x.kids.insertIdx d k)) S' v' ∧ (∀ q, S' q → S q ∨ Ty q ∨ W.heap.size ≤ q) ∧ Upd W w'' b o S) := by
  obtain ⟨K, T, hk⟩ := h.own.parts
  have hkd := hk.kd
  rw [e] at hkd
  obtain ⟨f0, f1, ⟨fa, fc, f2⟩, fa', fc', f3⟩ := hy.lies.forms
  refine (insI_a (ns := [y 0, y 1, y 2, y 3]) hkd (kid_ones hk) hd hn hv rfl (fun u hu => by simp only [List.mem_cons, List.not_mem_nil, or_false] at hu; rcases hu with rfl | rfl | rfl | rfl; rw [f0]; rfl; rw [f1]; rfl; rw [f2]; rfl; rw [f3]; rfl) (fun e2 => hvb (hk.sk vb (by rw [e]; exact e2))) hB).mono ?_
  rintro e' w' ⟨⟨u, rfl, hu, hr⟩, hg⟩
  rw [flat4_insert K y hd] at hr
  obtain ⟨a, c, rfl⟩ := row_any hr
  refine ⟨a, _, c, rfl, h.stC hk (by rw [e]; exact hg) (by rw [e]; exact hu) fun w'' hf hb hsz hblk hub => ?_⟩
  have hl : (x.kids.insertIdx d k).length = x.kids.length + 1 := by rw [List.length_insertIdx, if_pos hd]
  have hn' : ∀ q, S q → q ≠ b := fun q hq e => h.out (e ▸ hq)
  have hlt := h.lt
  have hu3 : ∀ g, (Value.slice a (x.kids.length + 1) c).ownBlock = some g → (v 3).ownBlock = some g ∨ (W.heap.size ≤ g ∧ g < w''.heap.size) := fun g hg' => by
    rcases hu with e1 | ⟨g', e1, h5, h6⟩
    · exact .inl (by rw [e, ← e1]; exact hg')
    · rw [e1] at hg'; injection hg' with hg'; subst hg'; exact .inr ⟨h5, by rw [hsz]; exact h6⟩
  have hst := fun j k' (ej : x.kids[j]? = some k') => own_step2 (t := x) hk hf (fun i q hi hq e2 => e2.elim (hn' q (hk.hT i q hi hq).1) (hk.hT i q hi hq).2.2) j k' ej
  have hyt : Own w'' B y k Ty := hy.step (fun g hg' => hf.block g (hy.in g hg').2 (fun e2 => e2.elim (hTy g hg').2 (fun e2 => (hTy g hg').1 (hk.sk g e2)))) hf.size
  have hin : ∀ i, i < x.kids.length + 1 → (i = d ∧ inV K d y i = y ∧ inV T d Ty i = Ty) ∨ ∃ j, j < x.kids.length ∧ i ≠ d ∧ inV K d y i = K j ∧ inV T d Ty i = T j ∧ (j = if i < d then i else i - 1) := fun i hi => by
    unfold inV
    rcases Nat.lt_trichotomy i d with h1 | h1 | h1
    · exact .inr ⟨i, by omega, by omega, by rw [if_pos h1], by rw [if_pos h1], by rw [if_pos h1]⟩
    · exact .inl ⟨h1, by rw [if_neg (by omega), if_pos h1], by rw [if_neg (by omega), if_pos h1]⟩
    · exact .inr ⟨i - 1, by omega, by omega, by rw [if_neg (by omega), if_neg (by omega)], by rw [if_neg (by omega), if_neg (by omega)], by rw [if_neg (by omega)]⟩
  have hTS : ∀ j q, j < x.kids.length → T j q → q < W.heap.size := fun j q hj hq => (hk.hS q (hk.hT j q hj hq).1).2
  have hset : ItAt w'' B b o (x.setKids (x.kids.insertIdx d k)) (fun q => S q ∨ Ty q ∨ (W.heap.size ≤ q ∧ q < w''.heap.size)) (updV v 3 (.slice a (x.kids.length + 1) c)) ∧ Upd W w'' b o S := by
    refine h.setK (u := .slice a (x.kids.length + 1) c) (ks := x.kids.insertIdx d k) (K' := inV K d y) (T' := inV T d Ty) (S' := fun q => S q ∨ Ty q ∨ (W.heap.size ≤ q ∧ q < w''.heap.size)) hf hb (by rw [hl]; exact row_step hr fun g hg' hl' => hblk g (hub g hg')) (fun i k' ei => ?_) (fun q hq => ?_) (fun g hg' => .inl (hk.sl g hg')) (fun g hg' => ?_) (fun i q hi hq => ?_) (fun i i' q hi hi' hq hq' => ?_) (fun hh => ?_)
    · have hi : i < x.kids.length + 1 := by rw [← hl]; exact (List.getElem?_eq_some_iff.1 ei).1
      rcases hin i hi with ⟨h1, h2, h3⟩ | ⟨j, h1, h2, h3, h4, h5⟩
      · rw [h2, h3]
        rcases ins_get hd ei with ⟨h6, _⟩ | ⟨_, h7⟩ | ⟨h6, _⟩
        · omega
        · rw [h7]; exact hyt
        · omega
      · rw [h3, h4]
        refine hst j k' ?_
        rcases ins_get hd ei with ⟨h6, h7⟩ | ⟨h6, _⟩ | ⟨h6, h7⟩
        · rw [h5, if_pos h6]; exact h7
        · exact absurd h6 h2
        · rw [h5, if_neg (by omega)]; exact h7
    · rcases hq with hq | hq | hq
      · exact ⟨(hk.hS q hq).1, Nat.lt_of_lt_of_le (hk.hS q hq).2 hf.size⟩
      · exact ⟨(hy.in q hq).1, Nat.lt_of_lt_of_le (hy.in q hq).2 hf.size⟩
      · exact ⟨by omega, hq.2⟩
    · rcases hu3 g hg' with h1 | h1
      · exact .inl (hk.sk g h1)
      · exact .inr (.inr h1)
    · rw [hl] at hi
      rcases hin i hi with ⟨h1, h2, h3⟩ | ⟨j, h1, h2, h3, h4, h5⟩
      · rw [h3] at hq
        refine ⟨.inr (.inl hq), fun e2 => (hTy q hq).1 (hk.sl q e2), fun e2 => ?_⟩
        rcases hu3 q e2 with h6 | h6
        · exact (hTy q hq).1 (hk.sk q h6)
        · have := (hy.in q hq).2; omega
      · rw [h4] at hq
        have h9 := hk.hT j q h1 hq
        refine ⟨.inl h9.1, h9.2.1, fun e2 => ?_⟩
        rcases hu3 q e2 with h6 | h6
        · exact h9.2.2 h6
        · have := hTS j q h1 hq; omega
    · rw [hl] at hi hi'
      rcases hin i hi with ⟨h1, h2, h3⟩ | ⟨j, h1, h2, h3, h4, h5⟩ <;> rcases hin i' hi' with ⟨h1', h2', h3'⟩ | ⟨j', h1', h2', h3', h4', h5'⟩
      · omega
      · rw [h3] at hq
        rw [h4'] at hq'
        exact absurd (hk.hT j' q h1' hq').1 (hTy q hq).1
      · rw [h4] at hq
        rw [h3'] at hq'
        exact absurd (hk.hT j q h1 hq).1 (hTy q hq').1
      · rw [h4] at hq
        rw [h4'] at hq'
        have e9 := hk.hd j j' q h1 h1' hq hq'
        rw [h5, h5'] at e9
        split at e9 <;> split at e9 <;> omega
    · rcases hh with hh | hh | hh
      · exact h.out hh
      · exact (hTy b hh).2 rfl
      · omega
  exact ⟨_, _, hset.1, fun q hq => hq.imp (fun h => h) (fun h => h.imp (fun h => h) (fun h => h.1)), hset.2⟩
end Go.Proofs.YtpbolcjcmkmalaaGreatDoor
namespace Go.Proofs.YtpbolcjcmkmalaaGreatDoor
open Go.RowKit Go.Extern.Stop Go.Stop Go.Extern

/-- The kids of an item, as they are read. -/
theorem ItAt.kidsV {w : World} {B b o : Nat} {x : It} {S : Nat → Prop} {v : Nat → Value} (h : ItAt w B b o x S v) : ∃ ka kc, v 3 = .slice ka x.kids.length kc ∧ w.cell? ⟨b, o + 3, none⟩ = some (.slice ka x.kids.length kc) := by
  obtain ⟨_, _, _, ka, kc, e⟩ := h.own.lies.forms
  exact ⟨ka, kc, e, by rw [← e]; exact h.cell (by omega)⟩
/-- What is done at a place is done to the law. -/
theorem Foc.done {w w1 w2 : World} {B b o : Nat} {t : It} {S : Nat → Prop} {v : Nat → Value} {ps : List ByteArray} {b' o' : Nat} {x y : It} {S' S'' : Nat → Prop} {v' v'' : Nat → Value} (h0 : ItAt w B b o t S v) (hb : Below w.heap.size w w1) (hf : Foc w1 B b o t S ps b' o' x S' v') {p : Nat → Addr} (hu : Upd w1 w2 b' o' S') (hy : ItAt w2 B b' o' y S'' v'') (hS : ∀ q, S'' q → S' q ∨ w1.heap.size ≤ q) : ChO w B b o S p (.ok (setW (fun _ => y) ps t)) (.returned .nilIface) w2 := by
  obtain ⟨S3, v3, q1, q2, q3⟩ := hf.back w2 y S'' v'' (fun _ => False) (fun q => w1.heap.size ≤ q) hu hy (fun q hq => hq.elim) (fun q hq hs => by have := (h0.own.in q hs).2; have := hb.size; omega) (fun e => by have := h0.lt; have := hb.size; omega) (fun q hq => (hS q hq).imp (fun h => ⟨h, fun h => h⟩) (fun h => h))
  exact ⟨rfl, S3, v3, q1, fun q hq => (q2 q hq).imp (fun h => h.1) (fun h => Nat.le_trans hb.size h), q3.after hb h0.lt⟩
set_option maxHeartbeats 2000000 in
set_option maxRecDepth 20000 in
theorem repeal_a {w : World} {B b o : Nat} {t : It} {S : Nat → Prop} {v : Nat → Value} (h : ItAt w B b o t S v) (hF : FewIt t) (hB : B ≤ w.heap.size) {p : Nat → Addr} {m : Int} (hE : Env w p m) (op : OpW) (hok : OpOk op) (iv : Nat → Value) :
    Calls Tryz.prog 33 #[.pointer (some ⟨b, o, none⟩), .agg (opV op iv)] w (ChO w B b o S p (repealC t op)) := by
  have ht := hok.path
  clear hok
  cases op with
  | mk kind path at' text new line item =>
    have ht : path.size ≤ 6000 := ht
    show Calls Tryz.prog 33 #[.pointer (some ⟨b, o, none⟩), .agg #[.int .i64 kind, .string path, .string at', .string text, .string new, .int .i64 line, iv 0, iv 1, iv 2, iv 3]] w (ChO w B b o S p (repealC t ⟨kind, path, at', text, new, line, item⟩))
    generalize iv 0 = i0, iv 1 = i1, iv 2 = i2, iv 3 = i3
    obtain ⟨WB, hWB⟩ : ∃ WB, WB = w.alloc (.cells #[.int .i64 kind, .string path, .string at', .string text, .string new, .int .i64 line, i0, i1, i2, i3] 46) := ⟨_, rfl⟩
    have hb0 : Below w.heap.size w WB := by rw [hWB]; exact (Below.refl _ _).alloc (Nat.le_refl _) _
    have hbx : WB.heap[w.heap.size]? = some (.cells #[.int .i64 kind, .string path, .string at', .string text, .string new, .int .i64 line, i0, i1, i2, i3] 46 (0, 0)) := by rw [hWB]; exact heap_alloc_new _ _
    obtain ⟨y0, y1, y2, y3, y4, y5, y6, y7, y8, y9⟩ := ten hbx
    have HLb := hidLL (labelsOf_a path (by omega) m WB (hE.on hb0).M)
    have HX := hidLL hWB
    have H0 := hidLL h
    have HF := hidLL hF
    have HB0 := hidLL hb0
    have HEn := hidLL (fun w' (hb : Below w.heap.size w w') => hE.on hb)
    have HR : Hid (∀ r, arW t (partsB path) = r → repealC t ⟨kind, path, at', text, new, line, item⟩ = match r with | none => .bad 5 | some (x, i) => .ok (setW (fun _ => x.setKids (x.kids.eraseIdx i)) (partsB path).dropLast t)) := fun r hr => by
      unfold repealC
      show (match arW t (partsB path) with | none => COut.bad 5 | some (x, i) => .ok (setW (fun _ => x.setKids (x.kids.eraseIdx i)) (partsB path).dropLast t)) = _
      rw [hr]
    have HPl : Hid ((partsB path).length ≤ 100000) := by show _ ≤ _; have := parts_len path; omega
    clear hWB h hF hE y0 y2 y3 y4 y5 y6 y7 y8 y9 hbx hb0
    generalize repealC t ⟨kind, path, at', text, new, line, item⟩ = r at *
    generalize partsB path = ps at *
    go_enter Tryz.func33, Tryz.ntmps33
    go_upto_region 1 with fail
    rw [← HX.out]
    go_wp2_with fail
    refine HLb.out.mono ?_
    rintro e w1 ⟨⟨pa, pc, rfl, hst, hpc⟩, hb1⟩
    have hbw1 := HB0.out.trans (hb1.mono HB0.out.size)
    have HAr := hidLL (around_a (H0.out.on hbw1) HF.out hst HPl.out hpc)
    have HB1 := hidLL hbw1
    clear hst hpc hb1 hbw1
    go_wp2_with fail
    refine HAr.out.mono ?_
    rintro e w2 ⟨har, hb2⟩
    unfold ArO at har
    cases hq : arW t ps with
    | none =>
      rw [hq] at har
      have har : e = _ := har
      subst har
      have HO := hidLL (HR.out _ hq)
      have hbw2 := HB1.out.trans (hb2.mono HB1.out.size)
      have e1 : w2.cell? ⟨4, 0, none⟩ = some (.iface 214 (.pointer (some (p 4)))) := (HEn.out _ hbw2).L.cell 4 (by omega)
      have HB2 := hidLL hbw2
      clear hq hb2 hbw2
      go_wp2
      go_ret
      rw [HO.out]
      exact ⟨by omega, EO.err 4 (by omega), HB2.out.mono hB⟩
    | some xi =>
      obtain ⟨x, i⟩ := xi
      rw [hq] at har
      obtain ⟨b', o', S', v', rfl, hf1⟩ := har
      have HO := hidLL (HR.out _ hq)
      have hbw2 := HB1.out.trans (hb2.mono HB1.out.size)
      have hf := hf1.on (by have := H0.out.lt; have := HB1.out.size; omega) hb2
      obtain ⟨p0, l, k, hp, h1, h2, h3, h4⟩ := ar_some hq
      have hx := find_few _ t x HF.out h1
      obtain ⟨K, T, hk⟩ := hf.at'.own.parts
      obtain ⟨ka, kc, hv3, hc3⟩ := hf.at'.kidsV
      have hdl := (List.getElem?_eq_some_iff.1 h3).1
      have hkl := hx.get.2.1
      have HD := hidLL (dropI_c hf.at' hk h3 (by omega) hv3)
      have hwr : IntKind.i64.wrap ((i : Int) + 1) = (i : Int) + 1 := by rw [IntKind.wrap_i64]; omega
      have HFo := hidLL hf
      have HB2 := hidLL hbw2
      clear hq hb2 hbw2 hf1 hf hk h1 h2 h3 h4 hp hx hv3
      generalize hkn : x.kids.length = kn at *
      clear hkn
      go_wp2_with fail
      refine HD.out.mono ?_
      rintro e w3 ⟨ra, rn, rc, rfl, hst⟩
      obtain ⟨old, hcl⟩ := hst.cell
      have hfz := hst.frz
      have HST := hidLL hst.fin
      clear hst
      go_wp2
      go_ret
      rw [HO.out]
      obtain ⟨v'', q1, _, q2⟩ := HST.out _ rfl rfl rfl rfl
      exact HFo.out.done H0.out HB2.out q2 q1 (fun q hq => .inl hq.1)
end Go.Proofs.YtpbolcjcmkmalaaGreatDoor
namespace Go.Proofs.YtpbolcjcmkmalaaGreatDoor
open Go.RowKit Go.Extern.Stop Go.Stop Go.Extern

theorem Upd.then {w w1 w2 : World} {b o : Nat} {S S3 : Nat → Prop} (h1 : Upd w w1 b o S) (h2 : Upd w1 w2 b o S3) (hs : ∀ q, q < w.heap.size → S3 q → S q) : Upd w w2 b o S := by
  refine ⟨h2.os.trans h1.os, h2.tape.trans h1.tape, h2.output.trans h1.output, Nat.le_trans h1.size h2.size, fun k hk hn hne => ?_, fun cur ty e => ?_⟩
  · exact (h2.block k (Nat.lt_of_lt_of_le hk h1.size) (fun hh => hn (hs k hk hh)) hne).trans (h1.block k hk hn hne)
  · obtain ⟨c1, e1, s1, f1⟩ := h1.here cur ty e
    obtain ⟨c2, e2, s2, f2⟩ := h2.here c1 ty e1
    exact ⟨c2, e2, s2.trans s1, fun q hq => (f2 q hq).trans (f1 q hq)⟩
theorem Upd.on {w w1 w2 : World} {b o : Nat} {S : Nat → Prop} (h1 : Upd w w1 b o S) (h2 : Below w1.heap.size w1 w2) (hb : b < w.heap.size) : Upd w w2 b o S := by
  refine ⟨h2.os.trans h1.os, h2.tape.trans h1.tape, h2.output.trans h1.output, Nat.le_trans h1.size h2.size, fun k hk hn hne => ?_, fun cur ty e => ?_⟩
  · exact (h2.block k (Nat.lt_of_lt_of_le hk h1.size)).trans (h1.block k hk hn hne)
  · obtain ⟨c1, e1, s1, f1⟩ := h1.here cur ty e
    exact ⟨c1, (h2.block b (Nat.lt_of_lt_of_le hb h1.size)).trans e1, s1, f1⟩
theorem OwnK.on {w w' : World} {B : Nat} {v : Nat → Value} {t : It} {S : Nat → Prop} {K : Nat → Nat → Value} {T : Nat → Nat → Prop} (h : OwnK w B v t S K T) (hb : Below w.heap.size w w') : OwnK w' B v t S K T :=
  ⟨h.h0, h.h1, row_step h.ln fun g _ hl => hb.block g hl, row_step h.kd fun g _ hl => hb.block g hl, h.sl, h.sk, fun i k hk => (h.hr i k hk).step (fun g hg => hb.block g ((h.hr i k hk).in g hg).2) hb.size, h.hT, h.hd, fun q hq => ⟨(h.hS q hq).1, Nat.lt_of_lt_of_le (h.hS q hq).2 hb.size⟩⟩
/-- The law without the provision. -/
theorem mv_less {w W w' : World} {B b o : Nat} {t : It} {S : Nat → Prop} {v : Nat → Value} (h0 : ItAt w B b o t S v) (hb : Below w.heap.size w W) {p0 : List ByteArray} {b1 o1 i : Nat} {x : It} {S1 : Nat → Prop} {v1 : Nat → Value} (hf : Foc W B b o t S p0 b1 o1 x S1 v1) {K : Nat → Nat → Value} {T : Nat → Nat → Prop} (hk : OwnK W B v1 x S1 K T) (hi : i < x.kids.length) {v' : Nat → Value} (q1 : ItAt w' B b1 o1 (x.setKids (x.kids.eraseIdx i)) (fun q => S1 q ∧ ¬ T i q) v') (q3 : Upd W w' b1 o1 S1) :
    ∃ S3 v3, ItAt w' B b o (lessW t x i p0) S3 v3 ∧ (∀ q, S3 q → S q ∧ ¬ T i q) ∧ Upd w w' b o S ∧ (∀ q, T i q → S q) := by
  have hT : ∀ q, T i q → S1 q := fun q hq => (hk.hT i q hi hq).1
  obtain ⟨S3, v3, e1, e2, e3⟩ := hf.back w' _ _ v' (T i) (fun _ => False) q3 q1 hT (fun _ hq => hq.elim) (fun hq => hq) (fun q hq => .inl hq)
  exact ⟨S3, v3, e1, fun q hq => (e2 q hq).resolve_right (fun h => h), e3.after hb h0.lt, fun q hq => hf.sub q (hT q hq)⟩
/-- The law with the provision at its new place. -/
theorem mv_done {w w1 W w' : World} {B b o : Nat} {t' y : It} {S S3 Ty : Nat → Prop} (hbl : b < w.heap.size) (hSl : ∀ q, S q → q < w.heap.size) (hbn : ¬ S b) (hS3 : ∀ q, S3 q → S q ∧ ¬ Ty q) (hTy : ∀ q, Ty q → S q) (hu : Upd w w1 b o S) (hb : Below w1.heap.size w1 W) {qs : List ByteArray} {b3 o3 : Nat} {z : It} {S4 S' : Nat → Prop} {v4 v' : Nat → Value} (hf : Foc W B b o t' S3 qs b3 o3 z S4 v4) (q1 : ItAt w' B b3 o3 y S' v') (q2 : ∀ q, S' q → S4 q ∨ Ty q ∨ W.heap.size ≤ q) (q3 : Upd W w' b3 o3 S4) {p : Nat → Addr} :
    ChO w B b o S p (.ok (setW (fun _ => y) qs t')) (.returned .nilIface) w' := by
  have h13 := hu.size
  have h1W := hb.size
  have hA : ∀ q, (Ty q ∨ W.heap.size ≤ q) → ¬ S3 q := fun q hq hs => by
    rcases hq with hq | hq
    · exact (hS3 q hs).2 hq
    · have := hSl q (hS3 q hs).1; omega
  have hAb : ¬ (Ty b ∨ W.heap.size ≤ b) := fun hq => by
    rcases hq with hq | hq
    · exact hbn (hTy b hq)
    · omega
  obtain ⟨S5, v5, e1, e2, e3⟩ := hf.back w' y S' v' (fun _ => False) (fun q => Ty q ∨ W.heap.size ≤ q) q3 q1 (fun _ hq => hq.elim) hA hAb (fun q hq => (q2 q hq).imp (fun h => ⟨h, fun h => h⟩) (fun h => h))
  refine ⟨rfl, S5, v5, e1, fun q hq => ?_, (hu.on hb hbl).then e3 (fun q _ hq => (hS3 q hq).1)⟩
  rcases e2 q hq with h9 | h9 | h9
  · exact .inl (hS3 q h9.1).1
  · exact .inl (hTy q h9)
  · exact .inr (by omega)
/-- The provision that goes lies apart from the place to which it goes. -/
theorem mv_apart {W : World} {B b o : Nat} {t' : It} {S S3 Ty : Nat → Prop} (hS3 : ∀ q, S3 q → S q ∧ ¬ Ty q) (hTy : ∀ q, Ty q → S q) (hbn : ¬ S b) {qs : List ByteArray} {b3 o3 : Nat} {z : It} {S4 : Nat → Prop} {v4 : Nat → Value} (hf : Foc W B b o t' S3 qs b3 o3 z S4 v4) : ∀ q, Ty q → ¬ S4 q ∧ q ≠ b3 := fun q hq => by
  refine ⟨fun h => (hS3 q (hf.sub q h)).2 hq, fun e => ?_⟩
  by_cases hq0 : qs = []
  · exact hbn (by rw [← (hf.root hq0).1, ← e]; exact hTy q hq)
  · exact (hS3 b3 (hf.inn hq0)).2 (e ▸ hq)
end Go.Proofs.YtpbolcjcmkmalaaGreatDoor
namespace Go.Proofs.YtpbolcjcmkmalaaGreatDoor
open Go.RowKit
set_option linter.unusedVariables false

def mvC0 : Oper := { dst := some 101, op := Op.move (Operand.tmp 9), type := 51, pos := "amend.go:116", after := #[], guard := none }
def mvC1 : Oper := { dst := some 102, op := Op.move (Operand.tmp 9), type := 51, pos := "amend.go:116", after := #[], guard := none }
def mvC2 : Oper := { dst := some 103, op := Op.nilCheck (Operand.tmp 102), type := 0, pos := "amend.go:116", after := #[{ on := 1, ground := Ground.data }], guard := none }
def mvC3 : Oper := { dst := some 104, op := Op.fieldAddr 25 (Operand.tmp 103) 3, type := 0, pos := "amend.go:116", after := #[{ on := 2, ground := Ground.data }], guard := none }
def mvC4 : Oper := { dst := some 105, op := Op.load 23 (Operand.tmp 104), type := 23, pos := "amend.go:116", after := #[{ on := 3, ground := Ground.data }], guard := none }
def mvC5 : Oper := { dst := some 106, op := Op.move (Operand.tmp 9), type := 51, pos := "amend.go:116", after := #[], guard := none }
def mvC6 : Oper := { dst := some 107, op := Op.nilCheck (Operand.tmp 106), type := 0, pos := "amend.go:116", after := #[{ on := 5, ground := Ground.data }], guard := none }
def mvC7 : Oper := { dst := some 108, op := Op.fieldAddr 25 (Operand.tmp 107) 3, type := 0, pos := "amend.go:116", after := #[{ on := 6, ground := Ground.data }], guard := none }
def mvC8 : Oper := { dst := some 109, op := Op.load 23 (Operand.tmp 108), type := 23, pos := "amend.go:116", after := #[{ on := 7, ground := Ground.data }], guard := none }
def mvC9 : Oper := { dst := some 110, op := Op.fieldAddr 46 (Operand.tmp 3) 2, type := 0, pos := "amend.go:116", after := #[], guard := none }
def mvC10 : Oper := { dst := some 111, op := Op.load 9 (Operand.tmp 110), type := 9, pos := "amend.go:116", after := #[{ on := 9, ground := Ground.data }], guard := none }
def mvC11 : Oper := { dst := some 112, op := Op.call { callee := Callee.value (Operand.func 76), args := #[Operand.tmp 109, Operand.tmp 111], argTypes := #[23, 9] }, type := 3, pos := "amend.go:116", after := #[{ on := 8, ground := Ground.data }, { on := 10, ground := Ground.data }], guard := none }
def mvC12 : Oper := { dst := some 113, op := Op.load 25 (Operand.tmp 10), type := 25, pos := "amend.go:116", after := #[], guard := none }
def mvC13 : Oper := { dst := some 114, op := Op.buildSlice 23 1 #[(0, Operand.tmp 113)], type := 23, pos := "amend.go:116", after := #[{ on := 12, ground := Ground.data }], guard := none }
def mvC14 : Oper := { dst := some 115, op := Op.call { callee := Callee.value (Operand.func 77), args := #[Operand.tmp 105, Operand.tmp 112, Operand.tmp 114], argTypes := #[23, 3, 23] }, type := 23, pos := "amend.go:116", after := #[{ on := 4, ground := Ground.data }, { on := 11, ground := Ground.data }, { on := 13, ground := Ground.data }, { on := 11, ground := Ground.chain }], guard := none }
def mvC15 : Oper := { dst := some 116, op := Op.nilCheck (Operand.tmp 101), type := 0, pos := "amend.go:116", after := #[{ on := 0, ground := Ground.data }, { on := 0, ground := Ground.phase }, { on := 1, ground := Ground.phase }, { on := 2, ground := Ground.phase }, { on := 3, ground := Ground.phase }, { on := 4, ground := Ground.phase }, { on := 5, ground := Ground.phase }, { on := 6, ground := Ground.phase }, { on := 7, ground := Ground.phase }, { on := 8, ground := Ground.phase }, { on := 9, ground := Ground.phase }, { on := 10, ground := Ground.phase }, { on := 11, ground := Ground.phase }, { on := 12, ground := Ground.phase }, { on := 13, ground := Ground.phase }, { on := 14, ground := Ground.phase }], guard := none }
def mvC16 : Oper := { dst := some 117, op := Op.fieldAddr 25 (Operand.tmp 116) 3, type := 0, pos := "amend.go:116", after := #[{ on := 15, ground := Ground.data }, { on := 0, ground := Ground.phase }, { on := 1, ground := Ground.phase }, { on := 2, ground := Ground.phase }, { on := 3, ground := Ground.phase }, { on := 4, ground := Ground.phase }, { on := 5, ground := Ground.phase }, { on := 6, ground := Ground.phase }, { on := 7, ground := Ground.phase }, { on := 8, ground := Ground.phase }, { on := 9, ground := Ground.phase }, { on := 10, ground := Ground.phase }, { on := 11, ground := Ground.phase }, { on := 12, ground := Ground.phase }, { on := 13, ground := Ground.phase }, { on := 14, ground := Ground.phase }], guard := none }
def mvC17 : Oper := { dst := none, op := Op.store 23 (Operand.tmp 117) (Operand.tmp 115), type := 0, pos := "amend.go:116", after := #[{ on := 16, ground := Ground.data }, { on := 14, ground := Ground.data }, { on := 14, ground := Ground.chain }, { on := 0, ground := Ground.phase }, { on := 1, ground := Ground.phase }, { on := 2, ground := Ground.phase }, { on := 3, ground := Ground.phase }, { on := 4, ground := Ground.phase }, { on := 5, ground := Ground.phase }, { on := 6, ground := Ground.phase }, { on := 7, ground := Ground.phase }, { on := 8, ground := Ground.phase }, { on := 9, ground := Ground.phase }, { on := 10, ground := Ground.phase }, { on := 11, ground := Ground.phase }, { on := 12, ground := Ground.phase }, { on := 13, ground := Ground.phase }, { on := 14, ground := Ground.phase }], guard := none }
def mvCL : List Oper := [mvC0, mvC1, mvC2, mvC3, mvC4, mvC5, mvC6, mvC7, mvC8, mvC9, mvC10, mvC11, mvC12, mvC13, mvC14, mvC15, mvC16, mvC17]
theorem seventeen {mid : List Value} (h : mid.length = 17) : ∃ u0 u1 u2 u3 u4 u5 u6 u7 u8 u9 u10 u11 u12 u13 u14 u15 u16 : Value, mid = [u0, u1, u2, u3, u4, u5, u6, u7, u8, u9, u10, u11, u12, u13, u14, u15, u16] := by
  match mid, h with
  | [u0, u1, u2, u3, u4, u5, u6, u7, u8, u9, u10, u11, u12, u13, u14, u15, u16], _ => exact ⟨_, _, _, _, _, _, _, _, _, _, _, _, _, _, _, _, _, rfl⟩
section
variable {ρ : Operand → Value} {dst : Option Tmp} {ty : TypeId} {ps : String} {af : Array Go.Edge} {g : Option (Nat × Bool)} {w : World} {x y z : Operand}
set_option maxRecDepth 20000
theorem x_ldItem {b o : Nat} {c0 c1 c2 c3 : Value} (h : ρ x = .pointer (some ⟨b, o, none⟩)) (h0 : w.cell? ⟨b, o, none⟩ = some c0) (h1 : w.cell? ⟨b, o + 1, none⟩ = some c1) (h2 : w.cell? ⟨b, o + 2, none⟩ = some c2) (h3 : w.cell? ⟨b, o + 3, none⟩ = some c3) : (execOp ρ ⟨dst, .load 25 x, ty, ps, af, g⟩).run Tryz.prog w = .ok (.value (.agg #[c0, c1, c2, c3])) w := by
  simp only [execOp, h]
  go_simp
theorem x_build1 {lab hd : ByteArray} {la ka2 : Option Addr} {ln lc kn kc2 : Nat} (h : ρ x = .agg #[.string lab, .string hd, .slice la ln lc, .slice ka2 kn kc2]) : (execOp ρ ⟨dst, .buildSlice 23 1 #[(0, x)], ty, ps, af, g⟩).run Tryz.prog w = .ok (.value (.slice (some ⟨w.heap.size, 0, none⟩) 1 1)) (w.alloc (.cells #[.string lab, .string hd, .slice la ln lc, .slice ka2 kn kc2] 25)) := by
  simp only [execOp]
  go_simp
theorem x_insert {a b c : Value} {t0 t1 t2 : TypeId} (h : ρ x = a) (h1 : ρ y = b) (h2 : ρ z = c) (hf : ρ (.func 77) = .func (.func 77) #[] #[]) : (execOp ρ ⟨dst, .call { callee := .value (.func 77), args := #[x, y, z], argTypes := #[t0, t1, t2] }, ty, ps, af, g⟩).run Tryz.prog w = .ok (.enter 77 #[a, b, c]) w := by
  simp [execOp, go_sem, h, h1, h2, hf]
theorem x_stK {b o n c : Nat} {p : Option Addr} {old : Value} (h : ρ x = .pointer (some ⟨b, o, none⟩)) (h2 : ρ y = .slice p n c) (ho : w.cell? ⟨b, o, none⟩ = some old) (hf : w.frozen? ⟨b, o, none⟩ = false) : (execOp ρ ⟨dst, .store 23 x y, ty, ps, af, g⟩).run Tryz.prog w = .ok .skip (w.setCell ⟨b, o, none⟩ (.slice p n c)) := by
  simp only [execOp, h, h2]
  go_simp
end
section
variable {S : World → Prop} {L : List Nat} {Q : Exit → Act → World → Prop} {ops : Array Oper} {P : Program} {pre mid suf : List Value} {d : List Deferred}
def NoP (Q : Exit → Act → World → Prop) : Prop := ∀ c (a : Act) (d : Option Tmp) (v : Value) (w : World), Q (.panic c) (a.put d v) w → Q (.panic c) a w
theorem ml_free {k j i n : Nat} {oi : Oper} {done : Array Bool} {w : World} (v : Value) (HP : NoP Q) (hk : pre.length = k) (hi : ops[i]? = some oi) (hd : oi.dst = some j) (hj : k ≤ j) (hm : j - k < mid.length) (hg : oi.guard = none) (hs : Region.noSelect ops = true) (hf : Region.free .any ops done i = true) (hr : (Region.ready .any ops done).contains i = true) (hcl : closedB .any ops done = true) (hy : ∀ w, (execOp (MA pre mid suf d).eval oi).run P w = .ok (.value v) w) (h : wpLast P .any ops Q S L n (done.setIfInBounds i true) (MA pre (mid.set (j - k) v) suf d) w) : wpLast P .any ops Q S L (n + 1) done (MA pre mid suf d) w := by
  refine wpLast_free hi hs hf hr hcl (fun c a w => HP c a _ _ w) hg hy ?_
  rw [hd, MA.put hk hj hm]
  exact h
theorem ml_take {k j i n : Nat} {oi : Oper} {done : Array Bool} {w : World} (v : Value) (HP : NoP Q) (hk : pre.length = k) (hi : ops[i]? = some oi) (hd : oi.dst = some j) (hj : k ≤ j) (hm : j - k < mid.length) (hg : oi.guard = none) (hs : Region.noSelect ops = true) (hf : Region.free .any ops done i = true) (hr : (Region.ready .any ops done).contains i = true) (hL : (L.all fun l => waitsT .any ops i ops.size l) = true) (hcl : closedB .any ops done = true) (hS : S w) (hy : ∀ w, S w → (execOp (MA pre mid suf d).eval oi).run P w = .ok (.value v) w) (h : wpLast P .any ops Q S L n (done.setIfInBounds i true) (MA pre (mid.set (j - k) v) suf d) w) : wpLast P .any ops Q S L (n + 1) done (MA pre mid suf d) w := by
  refine wpLast_take hi hs hf hr hL hcl (fun c a w => HP c a _ _ w) hg hy hS ?_
  rw [hd, MA.put hk hj hm]
  exact h
end
set_option maxRecDepth 20000 in
theorem mvC_end {W0 : World} {Q : Exit → Act → World → Prop} {pre suf : List Value} {d : List Deferred} {b3 o3 g0 zn kc ln lc kn kc2 j : Nat} {ka la ka2 : Option Addr} {lab hd at' : ByteArray} {R : World → Prop} {u14 u15 u16 : Value} (hk : pre.length = 101) (HP : NoP Q) (hI : ∀ V vb, Below W0.heap.size W0 V → V.heap[vb]? = some (.cells #[.string lab, .string hd, .slice la ln lc, .slice ka2 kn kc2] 25 (0, 0)) → W0.heap.size ≤ vb → Calls Tryz.prog 77 #[.slice ka zn kc, .int .i64 j, .slice (some ⟨vb, 0, none⟩) 1 1] V (fun e w' => ∃ a n c, e = .returned (.slice a n c) ∧ StC b3 o3 3 (.slice a n c) w' R))
    (hQ : ∀ m w'', m.length = 17 → R w'' → Q .normal (MA pre m suf d) w'') {V : World} {vb : Nat} (hV : Below W0.heap.size W0 V) (hv : V.heap[vb]? = some (.cells #[.string lab, .string hd, .slice la ln lc, .slice ka2 kn kc2] 25 (0, 0))) (hvb : W0.heap.size ≤ vb) {done : Array Bool}
    (r1 : Region.ready .any mvCL.toArray done = [14]) (r2 : Region.ready .any mvCL.toArray (done.setIfInBounds 14 true) = [15]) (r3 : Region.ready .any mvCL.toArray ((done.setIfInBounds 14 true).setIfInBounds 15 true) = [16]) (r4 : Region.ready .any mvCL.toArray (((done.setIfInBounds 14 true).setIfInBounds 15 true).setIfInBounds 16 true) = [17]) (r5 : Region.ready .any mvCL.toArray ((((done.setIfInBounds 14 true).setIfInBounds 15 true).setIfInBounds 16 true).setIfInBounds 17 true) = []) :
    wpLast Tryz.prog .any mvCL.toArray Q (fun V => Below W0.heap.size W0 V) [14, 15, 16, 17] 4 done (MA pre [.pointer (some ⟨b3, o3, none⟩), .pointer (some ⟨b3, o3, none⟩), .pointer (some ⟨b3, o3, none⟩), .pointer (some ⟨b3, o3 + 3, none⟩), .slice ka zn kc, .pointer (some ⟨b3, o3, none⟩), .pointer (some ⟨b3, o3, none⟩), .pointer (some ⟨b3, o3 + 3, none⟩), .slice ka zn kc, .pointer (some ⟨g0, 2, none⟩), .string at', .int .i64 j, .agg #[.string lab, .string hd, .slice la ln lc, .slice ka2 kn kc2], .slice (some ⟨vb, 0, none⟩) 1 1, u14, u15, u16] suf d) V := by
  refine wpLast_all r1 (by simp) fun j' hj' => ?_
  obtain rfl : j' = 14 := by simpa using hj'
  refine wpOp_call (o := mvC14) rfl rfl (x_insert (MA.hi hk (by decide) rfl) (MA.hi hk (by decide) rfl) (MA.hi hk (by decide) rfl) rfl) (hI V vb hV hv hvb) ?_
  rintro e V1 ⟨ra, rn, rc, rfl, hst⟩
  refine ⟨_, rfl, fun _ => .inl (by decide), ?_⟩
  rw [show (MA pre [.pointer (some ⟨b3, o3, none⟩), .pointer (some ⟨b3, o3, none⟩), .pointer (some ⟨b3, o3, none⟩), .pointer (some ⟨b3, o3 + 3, none⟩), .slice ka zn kc, .pointer (some ⟨b3, o3, none⟩), .pointer (some ⟨b3, o3, none⟩), .pointer (some ⟨b3, o3 + 3, none⟩), .slice ka zn kc, .pointer (some ⟨g0, 2, none⟩), .string at', .int .i64 j, .agg #[.string lab, .string hd, .slice la ln lc, .slice ka2 kn kc2], .slice (some ⟨vb, 0, none⟩) 1 1, u14, u15, u16] suf d).put mvC14.dst (.slice ra rn rc) = MA pre [.pointer (some ⟨b3, o3, none⟩), .pointer (some ⟨b3, o3, none⟩), .pointer (some ⟨b3, o3, none⟩), .pointer (some ⟨b3, o3 + 3, none⟩), .slice ka zn kc, .pointer (some ⟨b3, o3, none⟩), .pointer (some ⟨b3, o3, none⟩), .pointer (some ⟨b3, o3 + 3, none⟩), .slice ka zn kc, .pointer (some ⟨g0, 2, none⟩), .string at', .int .i64 j, .agg #[.string lab, .string hd, .slice la ln lc, .slice ka2 kn kc2], .slice (some ⟨vb, 0, none⟩) 1 1, .slice ra rn rc, u15, u16] suf d from MA.put hk (by decide) (by simp)]
  refine wpLast_all r2 (by simp) fun j' hj' => ?_
  obtain rfl : j' = 15 := by simpa using hj'
  refine wpOp_val (o := mvC15) rfl rfl (x_nil (q := ⟨b3, o3, none⟩) (MA.hi hk (by decide) rfl)) ⟨fun _ => .inl (by decide), ?_⟩
  rw [show (MA pre [.pointer (some ⟨b3, o3, none⟩), .pointer (some ⟨b3, o3, none⟩), .pointer (some ⟨b3, o3, none⟩), .pointer (some ⟨b3, o3 + 3, none⟩), .slice ka zn kc, .pointer (some ⟨b3, o3, none⟩), .pointer (some ⟨b3, o3, none⟩), .pointer (some ⟨b3, o3 + 3, none⟩), .slice ka zn kc, .pointer (some ⟨g0, 2, none⟩), .string at', .int .i64 j, .agg #[.string lab, .string hd, .slice la ln lc, .slice ka2 kn kc2], .slice (some ⟨vb, 0, none⟩) 1 1, .slice ra rn rc, u15, u16] suf d).put mvC15.dst (.pointer (some ⟨b3, o3, none⟩)) = MA pre [.pointer (some ⟨b3, o3, none⟩), .pointer (some ⟨b3, o3, none⟩), .pointer (some ⟨b3, o3, none⟩), .pointer (some ⟨b3, o3 + 3, none⟩), .slice ka zn kc, .pointer (some ⟨b3, o3, none⟩), .pointer (some ⟨b3, o3, none⟩), .pointer (some ⟨b3, o3 + 3, none⟩), .slice ka zn kc, .pointer (some ⟨g0, 2, none⟩), .string at', .int .i64 j, .agg #[.string lab, .string hd, .slice la ln lc, .slice ka2 kn kc2], .slice (some ⟨vb, 0, none⟩) 1 1, .slice ra rn rc, .pointer (some ⟨b3, o3, none⟩), u16] suf d from MA.put hk (by decide) (by simp)]
  refine wpLast_all r3 (by simp) fun j' hj' => ?_
  obtain rfl : j' = 16 := by simpa using hj'
  refine wpOp_val (o := mvC16) rfl rfl (x_kids (b := b3) (o := o3) (MA.hi hk (by decide) rfl)) ⟨fun _ => .inl (by decide), ?_⟩
  rw [show (MA pre [.pointer (some ⟨b3, o3, none⟩), .pointer (some ⟨b3, o3, none⟩), .pointer (some ⟨b3, o3, none⟩), .pointer (some ⟨b3, o3 + 3, none⟩), .slice ka zn kc, .pointer (some ⟨b3, o3, none⟩), .pointer (some ⟨b3, o3, none⟩), .pointer (some ⟨b3, o3 + 3, none⟩), .slice ka zn kc, .pointer (some ⟨g0, 2, none⟩), .string at', .int .i64 j, .agg #[.string lab, .string hd, .slice la ln lc, .slice ka2 kn kc2], .slice (some ⟨vb, 0, none⟩) 1 1, .slice ra rn rc, .pointer (some ⟨b3, o3, none⟩), u16] suf d).put mvC16.dst (.pointer (some ⟨b3, o3 + 3, none⟩)) = MA pre [.pointer (some ⟨b3, o3, none⟩), .pointer (some ⟨b3, o3, none⟩), .pointer (some ⟨b3, o3, none⟩), .pointer (some ⟨b3, o3 + 3, none⟩), .slice ka zn kc, .pointer (some ⟨b3, o3, none⟩), .pointer (some ⟨b3, o3, none⟩), .pointer (some ⟨b3, o3 + 3, none⟩), .slice ka zn kc, .pointer (some ⟨g0, 2, none⟩), .string at', .int .i64 j, .agg #[.string lab, .string hd, .slice la ln lc, .slice ka2 kn kc2], .slice (some ⟨vb, 0, none⟩) 1 1, .slice ra rn rc, .pointer (some ⟨b3, o3, none⟩), .pointer (some ⟨b3, o3 + 3, none⟩)] suf d from MA.put hk (by decide) (by simp)]
  refine wpLast_all r4 (by simp) fun j' hj' => ?_
  obtain rfl : j' = 17 := by simpa using hj'
  obtain ⟨old, ho⟩ := hst.cell
  refine wpOp_skip (o := mvC17) rfl rfl (x_stK (b := b3) (o := o3 + 3) (p := ra) (n := rn) (c := rc) (MA.hi hk (by decide) rfl) (MA.hi hk (by decide) rfl) ho hst.frz) ⟨fun _ => .inl (by decide), ?_⟩
  exact wpLast_done r5 (hQ _ _ rfl (hst.fin _ rfl rfl rfl rfl)) _
set_option maxRecDepth 20000 in
theorem mvC_go {W0 : World} {Q : Exit → Act → World → Prop} {pre mid suf : List Value} {d : List Deferred} {b3 o3 g0 g1 zn kc ln lc kn kc2 j : Nat} {ka la ka2 : Option Addr} {lab hd at' : ByteArray} {R : World → Prop} (hk : pre.length = 101) (hm : mid.length = 17) (HP : NoP Q) (p9 : pre[9]? = some (.pointer (some ⟨b3, o3, none⟩))) (p3 : pre[3]? = some (.pointer (some ⟨g0, 0, none⟩))) (p10 : pre[10]? = some (.pointer (some ⟨g1, 0, none⟩)))
    (hC : ∀ V, Below W0.heap.size W0 V → V.cell? ⟨b3, o3 + 3, none⟩ = some (.slice ka zn kc) ∧ V.cell? ⟨g0, 2, none⟩ = some (.string at') ∧ V.cell? ⟨g1, 0, none⟩ = some (.string lab) ∧ V.cell? ⟨g1, 1, none⟩ = some (.string hd) ∧ V.cell? ⟨g1, 2, none⟩ = some (.slice la ln lc) ∧ V.cell? ⟨g1, 3, none⟩ = some (.slice ka2 kn kc2))
    (hB : ∀ V, Below W0.heap.size W0 V → Calls Tryz.prog 76 #[.slice ka zn kc, .string at'] V fun e w' => e = .returned (.int .i64 j) ∧ Below V.heap.size V w')
    (hI : ∀ V vb, Below W0.heap.size W0 V → V.heap[vb]? = some (.cells #[.string lab, .string hd, .slice la ln lc, .slice ka2 kn kc2] 25 (0, 0)) → W0.heap.size ≤ vb → Calls Tryz.prog 77 #[.slice ka zn kc, .int .i64 j, .slice (some ⟨vb, 0, none⟩) 1 1] V (fun e w' => ∃ a n c, e = .returned (.slice a n c) ∧ StC b3 o3 3 (.slice a n c) w' R))
    (hQ : ∀ m w'', m.length = 17 → R w'' → Q .normal (MA pre m suf d) w'') {V : World} (hV : Below W0.heap.size W0 V) :
    wpLast Tryz.prog .any mvCL.toArray Q (fun V => Below W0.heap.size W0 V) [14, 15, 16, 17] 18 (Array.replicate 18 false) (MA pre mid suf d) V := by
  obtain ⟨u0, u1, u2, u3, u4, u5, u6, u7, u8, u9, u10, u11, u12, u13, u14, u15, u16, rfl⟩ := seventeen hm
  refine ml_free (i := 0) (oi := mvC0) (.pointer (some ⟨b3, o3, none⟩)) HP hk rfl rfl (by decide) (by simp) rfl (by kernel_rfl) (by kernel_rfl) (by kernel_rfl) (by kernel_rfl) (fun W => x_move (MA.lo p9)) ?_
  show wpLast _ _ _ _ _ _ _ _ (MA pre [.pointer (some ⟨b3, o3, none⟩), u1, u2, u3, u4, u5, u6, u7, u8, u9, u10, u11, u12, u13, u14, u15, u16] suf d) _
  refine ml_free (i := 1) (oi := mvC1) (.pointer (some ⟨b3, o3, none⟩)) HP hk rfl rfl (by decide) (by simp) rfl (by kernel_rfl) (by kernel_rfl) (by kernel_rfl) (by kernel_rfl) (fun W => x_move (MA.lo p9)) ?_
  show wpLast _ _ _ _ _ _ _ _ (MA pre [.pointer (some ⟨b3, o3, none⟩), .pointer (some ⟨b3, o3, none⟩), u2, u3, u4, u5, u6, u7, u8, u9, u10, u11, u12, u13, u14, u15, u16] suf d) _
  refine ml_free (i := 2) (oi := mvC2) (.pointer (some ⟨b3, o3, none⟩)) HP hk rfl rfl (by decide) (by simp) rfl (by kernel_rfl) (by kernel_rfl) (by kernel_rfl) (by kernel_rfl) (fun W => x_nil (MA.hi hk (by decide) rfl)) ?_
  show wpLast _ _ _ _ _ _ _ _ (MA pre [.pointer (some ⟨b3, o3, none⟩), .pointer (some ⟨b3, o3, none⟩), .pointer (some ⟨b3, o3, none⟩), u3, u4, u5, u6, u7, u8, u9, u10, u11, u12, u13, u14, u15, u16] suf d) _
  refine ml_free (i := 3) (oi := mvC3) (.pointer (some ⟨b3, o3 + 3, none⟩)) HP hk rfl rfl (by decide) (by simp) rfl (by kernel_rfl) (by kernel_rfl) (by kernel_rfl) (by kernel_rfl) (fun W => x_kids (MA.hi hk (by decide) rfl)) ?_
  show wpLast _ _ _ _ _ _ _ _ (MA pre [.pointer (some ⟨b3, o3, none⟩), .pointer (some ⟨b3, o3, none⟩), .pointer (some ⟨b3, o3, none⟩), .pointer (some ⟨b3, o3 + 3, none⟩), u4, u5, u6, u7, u8, u9, u10, u11, u12, u13, u14, u15, u16] suf d) _
  refine ml_take (i := 4) (oi := mvC4) (.slice ka zn kc) HP hk rfl rfl (by decide) (by simp) rfl (by kernel_rfl) (by kernel_rfl) (by kernel_rfl) (by kernel_rfl) (by kernel_rfl) hV (fun W hW => x_ldK (MA.hi hk (by decide) rfl) (hC W hW).1) ?_
  show wpLast _ _ _ _ _ _ _ _ (MA pre [.pointer (some ⟨b3, o3, none⟩), .pointer (some ⟨b3, o3, none⟩), .pointer (some ⟨b3, o3, none⟩), .pointer (some ⟨b3, o3 + 3, none⟩), .slice ka zn kc, u5, u6, u7, u8, u9, u10, u11, u12, u13, u14, u15, u16] suf d) _
  refine ml_free (i := 5) (oi := mvC5) (.pointer (some ⟨b3, o3, none⟩)) HP hk rfl rfl (by decide) (by simp) rfl (by kernel_rfl) (by kernel_rfl) (by kernel_rfl) (by kernel_rfl) (fun W => x_move (MA.lo p9)) ?_
  show wpLast _ _ _ _ _ _ _ _ (MA pre [.pointer (some ⟨b3, o3, none⟩), .pointer (some ⟨b3, o3, none⟩), .pointer (some ⟨b3, o3, none⟩), .pointer (some ⟨b3, o3 + 3, none⟩), .slice ka zn kc, .pointer (some ⟨b3, o3, none⟩), u6, u7, u8, u9, u10, u11, u12, u13, u14, u15, u16] suf d) _
  refine ml_free (i := 6) (oi := mvC6) (.pointer (some ⟨b3, o3, none⟩)) HP hk rfl rfl (by decide) (by simp) rfl (by kernel_rfl) (by kernel_rfl) (by kernel_rfl) (by kernel_rfl) (fun W => x_nil (MA.hi hk (by decide) rfl)) ?_
  show wpLast _ _ _ _ _ _ _ _ (MA pre [.pointer (some ⟨b3, o3, none⟩), .pointer (some ⟨b3, o3, none⟩), .pointer (some ⟨b3, o3, none⟩), .pointer (some ⟨b3, o3 + 3, none⟩), .slice ka zn kc, .pointer (some ⟨b3, o3, none⟩), .pointer (some ⟨b3, o3, none⟩), u7, u8, u9, u10, u11, u12, u13, u14, u15, u16] suf d) _
  refine ml_free (i := 7) (oi := mvC7) (.pointer (some ⟨b3, o3 + 3, none⟩)) HP hk rfl rfl (by decide) (by simp) rfl (by kernel_rfl) (by kernel_rfl) (by kernel_rfl) (by kernel_rfl) (fun W => x_kids (MA.hi hk (by decide) rfl)) ?_
  show wpLast _ _ _ _ _ _ _ _ (MA pre [.pointer (some ⟨b3, o3, none⟩), .pointer (some ⟨b3, o3, none⟩), .pointer (some ⟨b3, o3, none⟩), .pointer (some ⟨b3, o3 + 3, none⟩), .slice ka zn kc, .pointer (some ⟨b3, o3, none⟩), .pointer (some ⟨b3, o3, none⟩), .pointer (some ⟨b3, o3 + 3, none⟩), u8, u9, u10, u11, u12, u13, u14, u15, u16] suf d) _
  refine ml_take (i := 8) (oi := mvC8) (.slice ka zn kc) HP hk rfl rfl (by decide) (by simp) rfl (by kernel_rfl) (by kernel_rfl) (by kernel_rfl) (by kernel_rfl) (by kernel_rfl) hV (fun W hW => x_ldK (MA.hi hk (by decide) rfl) (hC W hW).1) ?_
  show wpLast _ _ _ _ _ _ _ _ (MA pre [.pointer (some ⟨b3, o3, none⟩), .pointer (some ⟨b3, o3, none⟩), .pointer (some ⟨b3, o3, none⟩), .pointer (some ⟨b3, o3 + 3, none⟩), .slice ka zn kc, .pointer (some ⟨b3, o3, none⟩), .pointer (some ⟨b3, o3, none⟩), .pointer (some ⟨b3, o3 + 3, none⟩), .slice ka zn kc, u9, u10, u11, u12, u13, u14, u15, u16] suf d) _
  refine ml_free (i := 9) (oi := mvC9) (.pointer (some ⟨g0, 2, none⟩)) HP hk rfl rfl (by decide) (by simp) rfl (by kernel_rfl) (by kernel_rfl) (by kernel_rfl) (by kernel_rfl) (fun W => x_opAt (MA.lo p3)) ?_
  show wpLast _ _ _ _ _ _ _ _ (MA pre [.pointer (some ⟨b3, o3, none⟩), .pointer (some ⟨b3, o3, none⟩), .pointer (some ⟨b3, o3, none⟩), .pointer (some ⟨b3, o3 + 3, none⟩), .slice ka zn kc, .pointer (some ⟨b3, o3, none⟩), .pointer (some ⟨b3, o3, none⟩), .pointer (some ⟨b3, o3 + 3, none⟩), .slice ka zn kc, .pointer (some ⟨g0, 2, none⟩), u10, u11, u12, u13, u14, u15, u16] suf d) _
  refine ml_take (i := 10) (oi := mvC10) (.string at') HP hk rfl rfl (by decide) (by simp) rfl (by kernel_rfl) (by kernel_rfl) (by kernel_rfl) (by kernel_rfl) (by kernel_rfl) hV (fun W hW => x_ldS (MA.hi hk (by decide) rfl) (hC W hW).2.1) ?_
  show wpLast _ _ _ _ _ _ _ _ (MA pre [.pointer (some ⟨b3, o3, none⟩), .pointer (some ⟨b3, o3, none⟩), .pointer (some ⟨b3, o3, none⟩), .pointer (some ⟨b3, o3 + 3, none⟩), .slice ka zn kc, .pointer (some ⟨b3, o3, none⟩), .pointer (some ⟨b3, o3, none⟩), .pointer (some ⟨b3, o3 + 3, none⟩), .slice ka zn kc, .pointer (some ⟨g0, 2, none⟩), .string at', u11, u12, u13, u14, u15, u16] suf d) _
  refine ml_take (i := 12) (oi := mvC12) (.agg #[.string lab, .string hd, .slice la ln lc, .slice ka2 kn kc2]) HP hk rfl rfl (by decide) (by simp) rfl (by kernel_rfl) (by kernel_rfl) (by kernel_rfl) (by kernel_rfl) (by kernel_rfl) hV (fun W hW => x_ldItem (MA.lo p10) (hC W hW).2.2.1 (hC W hW).2.2.2.1 (hC W hW).2.2.2.2.1 (hC W hW).2.2.2.2.2) ?_
  show wpLast _ _ _ _ _ _ _ _ (MA pre [.pointer (some ⟨b3, o3, none⟩), .pointer (some ⟨b3, o3, none⟩), .pointer (some ⟨b3, o3, none⟩), .pointer (some ⟨b3, o3 + 3, none⟩), .slice ka zn kc, .pointer (some ⟨b3, o3, none⟩), .pointer (some ⟨b3, o3, none⟩), .pointer (some ⟨b3, o3 + 3, none⟩), .slice ka zn kc, .pointer (some ⟨g0, 2, none⟩), .string at', u11, .agg #[.string lab, .string hd, .slice la ln lc, .slice ka2 kn kc2], u13, u14, u15, u16] suf d) _
  refine wpLast_all (rs := [11, 13]) (by kernel_rfl) (by simp) fun j' hj' => ?_
  rcases (by simpa using hj' : j' = 11 ∨ j' = 13) with rfl | rfl
  · refine wpOp_call (o := mvC11) rfl rfl (x_behind (MA.hi hk (by decide) rfl) (MA.hi hk (by decide) rfl) rfl) (hB V hV) ?_
    rintro e V1 ⟨rfl, hb1⟩
    have hV1 := hV.trans (hb1.mono hV.size)
    refine ⟨_, rfl, fun _ => .inr hV1, ?_⟩
    rw [show (MA pre [.pointer (some ⟨b3, o3, none⟩), .pointer (some ⟨b3, o3, none⟩), .pointer (some ⟨b3, o3, none⟩), .pointer (some ⟨b3, o3 + 3, none⟩), .slice ka zn kc, .pointer (some ⟨b3, o3, none⟩), .pointer (some ⟨b3, o3, none⟩), .pointer (some ⟨b3, o3 + 3, none⟩), .slice ka zn kc, .pointer (some ⟨g0, 2, none⟩), .string at', u11, .agg #[.string lab, .string hd, .slice la ln lc, .slice ka2 kn kc2], u13, u14, u15, u16] suf d).put mvC11.dst (.int .i64 j) = MA pre [.pointer (some ⟨b3, o3, none⟩), .pointer (some ⟨b3, o3, none⟩), .pointer (some ⟨b3, o3, none⟩), .pointer (some ⟨b3, o3 + 3, none⟩), .slice ka zn kc, .pointer (some ⟨b3, o3, none⟩), .pointer (some ⟨b3, o3, none⟩), .pointer (some ⟨b3, o3 + 3, none⟩), .slice ka zn kc, .pointer (some ⟨g0, 2, none⟩), .string at', .int .i64 j, .agg #[.string lab, .string hd, .slice la ln lc, .slice ka2 kn kc2], u13, u14, u15, u16] suf d from MA.put hk (by decide) (by simp)]
    refine wpLast_all (rs := [13]) (by kernel_rfl) (by simp) fun j' hj' => ?_
    obtain rfl : j' = 13 := by simpa using hj'
    refine wpOp_val (o := mvC13) rfl rfl (x_build1 (lab := lab) (hd := hd) (la := la) (ln := ln) (lc := lc) (ka2 := ka2) (kn := kn) (kc2 := kc2) (MA.hi hk (by decide) rfl)) ⟨fun _ => .inr (hV1.alloc hV1.size _), ?_⟩
    rw [show (MA pre [.pointer (some ⟨b3, o3, none⟩), .pointer (some ⟨b3, o3, none⟩), .pointer (some ⟨b3, o3, none⟩), .pointer (some ⟨b3, o3 + 3, none⟩), .slice ka zn kc, .pointer (some ⟨b3, o3, none⟩), .pointer (some ⟨b3, o3, none⟩), .pointer (some ⟨b3, o3 + 3, none⟩), .slice ka zn kc, .pointer (some ⟨g0, 2, none⟩), .string at', .int .i64 j, .agg #[.string lab, .string hd, .slice la ln lc, .slice ka2 kn kc2], u13, u14, u15, u16] suf d).put mvC13.dst (.slice (some ⟨V1.heap.size, 0, none⟩) 1 1) = MA pre [.pointer (some ⟨b3, o3, none⟩), .pointer (some ⟨b3, o3, none⟩), .pointer (some ⟨b3, o3, none⟩), .pointer (some ⟨b3, o3 + 3, none⟩), .slice ka zn kc, .pointer (some ⟨b3, o3, none⟩), .pointer (some ⟨b3, o3, none⟩), .pointer (some ⟨b3, o3 + 3, none⟩), .slice ka zn kc, .pointer (some ⟨g0, 2, none⟩), .string at', .int .i64 j, .agg #[.string lab, .string hd, .slice la ln lc, .slice ka2 kn kc2], .slice (some ⟨V1.heap.size, 0, none⟩) 1 1, u14, u15, u16] suf d from MA.put hk (by decide) (by simp)]
    exact mvC_end hk HP hI hQ (hV1.alloc hV1.size _) (heap_alloc_new _ _) hV1.size (by kernel_rfl) (by kernel_rfl) (by kernel_rfl) (by kernel_rfl) (by kernel_rfl)
  · refine wpOp_val (o := mvC13) rfl rfl (x_build1 (lab := lab) (hd := hd) (la := la) (ln := ln) (lc := lc) (ka2 := ka2) (kn := kn) (kc2 := kc2) (MA.hi hk (by decide) rfl)) ⟨fun _ => .inr (hV.alloc hV.size _), ?_⟩
    rw [show (MA pre [.pointer (some ⟨b3, o3, none⟩), .pointer (some ⟨b3, o3, none⟩), .pointer (some ⟨b3, o3, none⟩), .pointer (some ⟨b3, o3 + 3, none⟩), .slice ka zn kc, .pointer (some ⟨b3, o3, none⟩), .pointer (some ⟨b3, o3, none⟩), .pointer (some ⟨b3, o3 + 3, none⟩), .slice ka zn kc, .pointer (some ⟨g0, 2, none⟩), .string at', u11, .agg #[.string lab, .string hd, .slice la ln lc, .slice ka2 kn kc2], u13, u14, u15, u16] suf d).put mvC13.dst (.slice (some ⟨V.heap.size, 0, none⟩) 1 1) = MA pre [.pointer (some ⟨b3, o3, none⟩), .pointer (some ⟨b3, o3, none⟩), .pointer (some ⟨b3, o3, none⟩), .pointer (some ⟨b3, o3 + 3, none⟩), .slice ka zn kc, .pointer (some ⟨b3, o3, none⟩), .pointer (some ⟨b3, o3, none⟩), .pointer (some ⟨b3, o3 + 3, none⟩), .slice ka zn kc, .pointer (some ⟨g0, 2, none⟩), .string at', u11, .agg #[.string lab, .string hd, .slice la ln lc, .slice ka2 kn kc2], .slice (some ⟨V.heap.size, 0, none⟩) 1 1, u14, u15, u16] suf d from MA.put hk (by decide) (by simp)]
    refine wpLast_all (rs := [11]) (by kernel_rfl) (by simp) fun j' hj' => ?_
    obtain rfl : j' = 11 := by simpa using hj'
    have hvA := heap_alloc_new V (.cells #[.string lab, .string hd, .slice la ln lc, .slice ka2 kn kc2] 25)
    refine wpOp_call (o := mvC11) rfl rfl (x_behind (MA.hi hk (by decide) rfl) (MA.hi hk (by decide) rfl) rfl) (hB _ (hV.alloc hV.size _)) ?_
    rintro e V1 ⟨rfl, hb1⟩
    have hVa := hV.alloc hV.size (.cells #[.string lab, .string hd, .slice la ln lc, .slice ka2 kn kc2] 25)
    have hV1 := hVa.trans (hb1.mono hVa.size)
    refine ⟨_, rfl, fun _ => .inr hV1, ?_⟩
    rw [show (MA pre [.pointer (some ⟨b3, o3, none⟩), .pointer (some ⟨b3, o3, none⟩), .pointer (some ⟨b3, o3, none⟩), .pointer (some ⟨b3, o3 + 3, none⟩), .slice ka zn kc, .pointer (some ⟨b3, o3, none⟩), .pointer (some ⟨b3, o3, none⟩), .pointer (some ⟨b3, o3 + 3, none⟩), .slice ka zn kc, .pointer (some ⟨g0, 2, none⟩), .string at', u11, .agg #[.string lab, .string hd, .slice la ln lc, .slice ka2 kn kc2], .slice (some ⟨V.heap.size, 0, none⟩) 1 1, u14, u15, u16] suf d).put mvC11.dst (.int .i64 j) = MA pre [.pointer (some ⟨b3, o3, none⟩), .pointer (some ⟨b3, o3, none⟩), .pointer (some ⟨b3, o3, none⟩), .pointer (some ⟨b3, o3 + 3, none⟩), .slice ka zn kc, .pointer (some ⟨b3, o3, none⟩), .pointer (some ⟨b3, o3, none⟩), .pointer (some ⟨b3, o3 + 3, none⟩), .slice ka zn kc, .pointer (some ⟨g0, 2, none⟩), .string at', .int .i64 j, .agg #[.string lab, .string hd, .slice la ln lc, .slice ka2 kn kc2], .slice (some ⟨V.heap.size, 0, none⟩) 1 1, u14, u15, u16] suf d from MA.put hk (by decide) (by simp)]
    exact mvC_end hk HP hI hQ hV1 ((hb1.block _ (by simp)).trans hvA) hV.size (by kernel_rfl) (by kernel_rfl) (by kernel_rfl) (by kernel_rfl) (by kernel_rfl)
end Go.Proofs.YtpbolcjcmkmalaaGreatDoor
namespace Go.Proofs.YtpbolcjcmkmalaaGreatDoor
open Go.RowKit Go.Extern.Stop Go.Stop Go.Extern Go.Maps Go.ChangeMaps

/-- A cell that is there and not frozen. -/
def UnF (w : World) (a : Addr) : Prop := (∃ u, w.cell? a = some u) ∧ w.frozen? a = false
theorem UnF.shape {w : World} {a : Addr} (h : UnF w a) : ∃ s, w.shape? a.block = some s := by
  obtain ⟨⟨u, hu⟩, _⟩ := h
  have hc := hu
  unfold World.cell? at hc
  unfold World.shape?
  split at hc
  · rename_i e
    exact ⟨_, rfl⟩
  · cases hc
theorem UnF.on {w w' : World} {a : Addr} (h : UnF w a) (hb : w'.heap[a.block]? = w.heap[a.block]?) : UnF w' a :=
  ⟨by obtain ⟨u, hu⟩ := h.1; exact ⟨u, (World.cell?_of_block hb).trans hu⟩, (World.frozen?_of_block hb).trans h.2⟩
theorem UnF.set {w : World} {a p : Addr} (h : UnF w a) (u : Value) : UnF (w.setCell p u) a := by
  refine ⟨?_, by rw [World.frozen?_setCell]; exact h.2⟩
  obtain ⟨x, hx⟩ := h.1
  by_cases e : p = a
  · subst e
    exact ⟨u, by rw [World.cell?_setCell_same _ _ _ (by rw [hx])]⟩
  · exact ⟨x, by rw [World.cell?_setCell_other _ _ _ _ e]; exact hx⟩
theorem UnF.drewN {w : World} {a : Addr} (h : UnF w a) (n : Nat) : UnF (w.drewN n) a := h
theorem choose_any {P : Program} (q : Question) (w : World) : ∃ n k, (choose q).run P w = .ok n (w.drewN k) := by
  unfold choose Sem.run
  split
  · exact ⟨0, 0, rfl⟩
  · exact ⟨_, 1, rfl⟩
theorem stringish_any {P : Program} (a : Addr) (w : World) : ∃ r, (stringish a).run P w = .ok r w := by
  unfold stringish
  cases h : w.frozen? a
  · cases hs : w.shape? a.block with
    | none => exact ⟨false, by simp [h, hs]⟩
    | some s => exact ⟨w.frozen? { block := a.block, off := s.2 }, by simp [h, hs]⟩
  · exact ⟨true, by simp [h]⟩
theorem sameP_any {P : Program} {a b : Addr} {w : World} (ha : UnF w a) (hb : UnF w b) : ∃ r k, (sameAddr a b).run P w = .ok r (w.drewN k) := by
  obtain ⟨sa, hsa⟩ := ha.shape
  obtain ⟨sb, hsb⟩ := hb.shape
  obtain ⟨ra, hra⟩ := stringish_any (P := P) a w
  obtain ⟨rb, hrb⟩ := stringish_any (P := P) b w
  by_cases hbl : a.block = b.block
  · exact ⟨a == b, 0, by simp [sameAddr, hbl]; rfl⟩
  · have hm : ∃ r, (mayBeOne a b).run P w = .ok r w := by
      unfold mayBeOne
      simp [hra, hrb, shape, hsa, hsb, Sem.run]
    obtain ⟨r, hm⟩ := hm
    cases r
    · exact ⟨false, 0, by simp [sameAddr, hbl, ha.2, noView, viewAt, hsa, hsb, hm]; rfl⟩
    · by_cases hq : (Question.extern "sameAddr.stringBytes" 2).forced = true
      · exact ⟨false, 0, by simp [sameAddr, hbl, ha.2, noView, viewAt, hsa, hsb, hm, hq]; rfl⟩
      · exact ⟨_, 1, by simp [sameAddr, hbl, ha.2, noView, viewAt, hsa, hsb, hm, hq]; exact ⟨rfl, rfl⟩⟩
/-- A place in a block of which nothing is frozen. -/
def PlnF (w : World) (a : Addr) : Prop := ∃ c t, w.heap[a.block]? = some (.cells c t (0, 0))
theorem PlnF.on {w w' : World} {a : Addr} (h : PlnF w a) (hb : w'.heap[a.block]? = w.heap[a.block]?) : PlnF w' a := by
  obtain ⟨c, t, h⟩ := h
  exact ⟨c, t, hb.trans h⟩
theorem PlnF.set {w : World} {a : Addr} (h : PlnF w a) (g o : Nat) (u : Value) : PlnF (w.setCell ⟨g, o, none⟩ u) a := by
  obtain ⟨c, t, h⟩ := h
  by_cases e : a.block = g
  · rw [e] at h
    exact ⟨_, t, by rw [e]; exact setCell_row u h⟩
  · exact ⟨c, t, (Below.heap_setCell _ _ _ _ e).trans h⟩
theorem same_pln {P : Program} {a b : Addr} {w : World} (ha : PlnF w a) (hb : PlnF w b) : (sameAddr a b).run P w = .ok (decide (a = b)) w := by
  obtain ⟨c, t, ha⟩ := ha
  obtain ⟨c', t', hb⟩ := hb
  by_cases e : a = b
  · subst e
    rw [decide_eq_true rfl]
    exact run_sameAddr_same w a
  · rw [decide_eq_false e]
    exact run_sameAddr_other w e ha hb
theorem eq_anyP {P : Program} {tp te : TypeId} {i : TypeInfo} (hp : P.underlying tp = some (.pointer te)) (hte : P.info? te = some i) (hsz : i.size ≠ 0) {a b : Addr} {w : World} (ha : UnF w a) (hb : UnF w b) : ∃ r k, (Op.equal tp (.pointer (some a)) (.pointer (some b))).run P w = .ok r (w.drewN k) ∧ (PlnF w a → PlnF w b → r = decide (a = b)) := by
  obtain ⟨r, k, h⟩ := sameP_any (P := P) ha hb
  have h2 : ∀ d : Nat, (Op.equalIn (d + 1) tp (.pointer (some a)) (.pointer (some b))).run P w = .ok r (w.drewN k) := fun d => by
    simp [Op.equalIn, run_underlying hp, sizeOf, typeInfo, hte, hsz, h]
  refine ⟨r, k, by simp [Op.equal, Op.maxDepth, h2 9999], fun pa pb => ?_⟩
  rw [same_pln pa pb] at h
  injection h with h _
  exact h.symm
theorem eq_any {a b : Addr} {w : World} (ha : UnF w a) (hb : UnF w b) : ∃ r k, (Op.equal 51 (.pointer (some a)) (.pointer (some b))).run Tryz.prog w = .ok r (w.drewN k) ∧ (PlnF w a → PlnF w b → r = decide (a = b)) := by
  obtain ⟨j, hj, hz⟩ := item_info
  exact eq_anyP item_ptr hj hz ha hb
/-- An entry: a place, and a number; ex: whether places can be told apart. -/
def EntP (w : World) (ex : Prop) (F : Addr → Int → Prop) (e : MapEntry) : Prop := ∃ a x, e.key = .pointer (some a) ∧ e.val = .int .i64 x ∧ UnF w a ∧ (ex → PlnF w a) ∧ F a x
theorem asking_any {ex : Prop} {F : Addr → Int → Prop} {a : Addr} : ∀ (es : List MapEntry) (i : Nat) (w : World), UnF w a → (ex → PlnF w a) → (∀ e ∈ es, EntP w ex F e) → ∃ r k, (Instr.findAsking 51 (.pointer (some a)) es i).run Tryz.prog w = .ok r (w.drewN k) ∧ (∀ j u, r = some (j, u) → ∃ e, es[j - i]? = some e ∧ i ≤ j ∧ u = e.val ∧ (ex → e.key = .pointer (some a))) ∧ (r = none → ex → ∀ e ∈ es, e.key ≠ .pointer (some a))
  | [], i, w, _, _, _ => ⟨none, 0, by simp [Instr.findAsking]; rfl, (fun j u h => by cases h), fun _ _ e he => by cases he⟩
  | e :: es, i, w, ha, hp, h => by
    obtain ⟨b, x, hk, hv, hb, hpb, hF⟩ := h e (by simp)
    obtain ⟨r, k, hr, hex⟩ := eq_any ha hb
    cases r
    · obtain ⟨r2, k2, h2, h3, h4⟩ := asking_any (ex := ex) (F := F) es (i + 1) (w.drewN k) (ha.drewN k) hp (fun e he => h e (by simp [he]))
      refine ⟨r2, k + k2, ?_, fun j u hj => ?_, fun hn hx e' he' => ?_⟩
      · rw [Instr.findAsking, Sem.run_bind, hk, hr, Result.andThen_ok]
        simp only [Bool.false_eq_true, if_false]
        rw [h2]
        simp [World.drewN, Nat.add_assoc]
      · obtain ⟨e', h5, h6, h7, h8⟩ := h3 j u hj
        exact ⟨e', by rw [show j - i = (j - (i + 1)) + 1 by omega, List.getElem?_cons_succ]; exact h5, by omega, h7, h8⟩
      · rcases List.mem_cons.1 he' with rfl | he'
        · intro e2
          rw [hk] at e2
          injection e2 with e2
          injection e2 with e2
          have := hex (hp hx) (hpb hx)
          rw [e2, decide_eq_true rfl] at this
          cases this
        · exact h4 hn hx e' he'
    · refine ⟨some (i, e.val), k, ?_, fun j u hj => ?_, fun hn => by cases hn⟩
      · rw [Instr.findAsking, Sem.run_bind, hk, hr, Result.andThen_ok]
        rfl
      · injection hj with hj
        injection hj with h1 h2
        subst h1 h2
        refine ⟨e, by simp, Nat.le_refl _, rfl, fun hx => ?_⟩
        have := of_decide_eq_true (hex (hp hx) (hpb hx)).symm
        rw [hk, this]
theorem findKey_any {ex : Prop} {F : Addr → Int → Prop} {a : Addr} (es : List MapEntry) (w : World) (ha : UnF w a) (hp : ex → PlnF w a) (h : ∀ e ∈ es, EntP w ex F e) : ∃ r k, (Instr.findKey 51 (.pointer (some a)) es).run Tryz.prog w = .ok r (w.drewN k) ∧ (∀ j u, r = some (j, u) → ∃ e, es[j]? = some e ∧ u = e.val ∧ (ex → e.key = .pointer (some a))) ∧ (r = none → ex → ∀ e ∈ es, e.key ≠ .pointer (some a)) := by
  unfold Instr.findKey
  rw [Sem.run_bind, run_underlying item_ptr, Result.andThen_ok]
  match es, h with
  | [], _ => exact ⟨none, 0, by simp [Instr.findNow]; rfl, (fun j u h => by cases h), fun _ _ e he => by cases he⟩
  | e :: es, h =>
    obtain ⟨b, x, hk, _⟩ := h e (by simp)
    have hs : Instr.findNow (.pointer 25) (.pointer (some a)) (e :: es) 0 = none := by
      unfold Instr.findNow
      rw [hk]
      rfl
    rw [hs]
    obtain ⟨r, k, h1, h2, h3⟩ := asking_any (ex := ex) (F := F) (e :: es) 0 w ha hp h
    exact ⟨r, k, h1, fun j u hj => (by obtain ⟨e', h3, _, h4, h5⟩ := h2 j u hj; exact ⟨e', by simpa using h3, h4, h5⟩), h3⟩
/-- The map: what is told of its entries; where places can be told apart, no place twice. -/
def MpP (w : World) (mb : Nat) (ex : Prop) (F : Addr → Int → Prop) : Prop := ∃ es clock, w.heap[mb]? = some (.map es clock) ∧ (∀ e ∈ es.toList, EntP w ex F e) ∧ (ex → es.toList.Pairwise fun x y => x.key ≠ y.key)
section
variable {ex : Prop} {F : Addr → Int → Prop}
theorem MpP.lt {w : World} {mb : Nat} (h : MpP w mb ex F) : mb < w.heap.size := by
  obtain ⟨es, cl, h, _⟩ := h
  exact (Array.getElem?_eq_some_iff.1 h).1
theorem MpP.on {w w' : World} {mb : Nat} (h : MpP w mb ex F) (hb : w'.heap[mb]? = w.heap[mb]?) (hu : ∀ a, UnF w a → UnF w' a) (hp : ∀ a, PlnF w a → PlnF w' a) : MpP w' mb ex F := by
  obtain ⟨es, cl, h1, h2, h3⟩ := h
  exact ⟨es, cl, hb.trans h1, fun e he => (by obtain ⟨a, x, h3, h4, h5, h6, h7⟩ := h2 e he; exact ⟨a, x, h3, h4, hu a h5, fun hx => hp a (h6 hx), h7⟩), h3⟩
theorem MpP.drewN {w : World} {mb : Nat} (h : MpP w mb ex F) (n : Nat) : MpP (w.drewN n) mb ex F := h
theorem MpP.imp {w : World} {mb : Nat} {F' : Addr → Int → Prop} (h : MpP w mb ex F) (hF : ∀ a x, F a x → F' a x) : MpP w mb ex F' := by
  obtain ⟨es, cl, h1, h2, h3⟩ := h
  exact ⟨es, cl, h1, fun e he => (by obtain ⟨a, x, h3, h4, h5, h6, h7⟩ := h2 e he; exact ⟨a, x, h3, h4, h5, h6, hF a x h7⟩), h3⟩
theorem check_any (em : Bool) (a : Addr) (w : World) : (Instr.checkKey em 10000 51 (.pointer (some a))).run Tryz.prog w = .ok () w := by
  show (Instr.checkKey em (9999 + 1) 51 (.pointer (some a))).run Tryz.prog w = .ok () w
  unfold Instr.checkKey
  rw [Sem.run_bind, run_underlying item_ptr, Result.andThen_ok]
  rfl
set_option maxRecDepth 100000 in
theorem und_map : Tryz.prog.underlying 155 = some (.map 51 3) := by rfl
theorem MpP.look {w : World} {mb : Nat} (h : MpP w mb ex F) {a : Addr} (ha : UnF w a) (hp : ex → PlnF w a) : ∃ (x : Int) (is : Bool) (k : Nat), (Instr.lookup 155 (.map (some mb)) (.pointer (some a)) true).run Tryz.prog w = .ok (.tuple #[.int .i64 x, .bool is]) (w.drewN k) ∧ (is = false → x = 0) ∧ (is = true → ∃ b, F b x ∧ (ex → b = a)) := by
  obtain ⟨es, cl, h1, h2, _⟩ := h
  obtain ⟨r, k, hf, hr, _⟩ := findKey_any es.toList w ha hp h2
  unfold Instr.lookup
  cases r with
  | none =>
    refine ⟨0, false, k, ?_, fun _ => rfl, fun e => by cases e⟩
    simp [run_underlying und_map, MapKept.run_getObj_map h1, check_any, hf, Result.andThen]
  | some p =>
    obtain ⟨j, u⟩ := p
    obtain ⟨e, he, rfl, hex⟩ := hr j u rfl
    obtain ⟨b, x, hk, hx, _, _, hF⟩ := h2 e (List.mem_of_getElem? he)
    refine ⟨x, true, k, ?_, (fun e => by cases e), fun _ => ⟨b, hF, fun hh => ?_⟩⟩
    · simp [run_underlying und_map, MapKept.run_getObj_map h1, check_any, hf, hx, Result.andThen]
    · have := hex hh
      rw [hk] at this
      exact Option.some.inj (Value.pointer.inj this)
theorem stays_any {P : Program} (old new : Value) (w : World) : ∃ u k, (Instr.keyThatStays old new).run P w = .ok u (w.drewN k) ∧ (u = old ∨ u = new) := by
  unfold Instr.keyThatStays
  split
  · exact ⟨new, 0, rfl, .inr rfl⟩
  · obtain ⟨n, k, hn⟩ := choose_any (P := P) (.extern "map.whichKeyStays" 2) w
    rw [Sem.run_bind, hn, Result.andThen_ok]
    by_cases h0 : n = 0
    · exact ⟨new, k, by rw [if_pos h0]; rfl, .inr rfl⟩
    · exact ⟨old, k, by rw [if_neg h0]; rfl, .inl rfl⟩
theorem UnF.setBlock {w : World} {mb : Nat} {es : Array MapEntry} {cl : Nat} (hm : w.heap[mb]? = some (.map es cl)) {a : Addr} (h : UnF w a) (o : Obj) : UnF (setBlock w mb o) a := by
  refine h.on (heap_setBlock_other hm _ fun e => ?_)
  obtain ⟨⟨u, hu⟩, _⟩ := h
  unfold World.cell? at hu
  rw [e, hm] at hu
  cases hu
theorem PlnF.setBlock {w : World} {mb : Nat} {es : Array MapEntry} {cl : Nat} (hm : w.heap[mb]? = some (.map es cl)) {a : Addr} (h : PlnF w a) (o : Obj) : PlnF (setBlock w mb o) a := by
  refine h.on (heap_setBlock_other hm _ fun e => ?_)
  obtain ⟨c, t, hu⟩ := h
  rw [e, hm] at hu
  cases hu
/-- 'm[p] = x'. -/
theorem MpP.store {w : World} {mb : Nat} (h : MpP w mb ex F) {a : Addr} (ha : UnF w a) (hp : ex → PlnF w a) {x : Int} {F' : Addr → Int → Prop} (f1 : ∀ b y, F b y → (ex → b ≠ a) → F' b y) (f2 : F' a x) (f3 : ∀ b y, F b y → (ex → b = a) → F' b x) :
    ∃ w', (Instr.mapUpdate 155 (.map (some mb)) (.pointer (some a)) (.int .i64 x)).run Tryz.prog w = .ok () w' ∧ MpP w' mb ex F' ∧ w.grownBy w' (some mb) := by
  obtain ⟨es, cl, h2, h3, h9⟩ := h
  obtain ⟨r, k, hf, hr, hno⟩ := findKey_any es.toList w ha hp h3
  have h2k : (w.drewN k).heap[mb]? = some (.map es cl) := h2
  have hgr : ∀ (n : Nat) (o : Obj), w.grownBy (setBlock (w.drewN n) mb o) (some mb) := fun n o => ⟨rfl, rfl, rfl, by simp [setBlock], fun i _ hi => heap_setBlock_other (w := w.drewN n) h2 _ (fun e => hi (by rw [e]))⟩
  cases r with
  | none =>
    refine ⟨setBlock (w.drewN k) mb (.map (es.push { key := .pointer (some a), val := .int .i64 x, born := cl }) (cl + 1)), ?_, ⟨_, _, heap_setBlock_same h2k _, fun e he => ?_, fun hx => ?_⟩, hgr k _⟩
    · simp [Instr.mapUpdate, run_underlying und_map, MapKept.run_getObj_map h2, check_any, hf, MapKept.run_setObj_map _ h2k, Result.andThen, setBlock]
    · rw [Array.toList_push, List.mem_append] at he
      rcases he with he | he
      · obtain ⟨b, y, h4, h5, h6, h7, h8⟩ := h3 e he
        refine ⟨b, y, h4, h5, UnF.setBlock h2k (h6.drewN k) _, fun hx => PlnF.setBlock h2k (h7 hx) _, f1 b y h8 fun hx e2 => ?_⟩
        exact hno rfl hx e he (by rw [h4, e2])
      · obtain rfl : e = _ := by simpa using he
        exact ⟨a, x, rfl, rfl, UnF.setBlock h2k (ha.drewN k) _, fun hx => PlnF.setBlock h2k (hp hx) _, f2⟩
    · rw [Array.toList_push]
      refine List.pairwise_append.2 ⟨h9 hx, by simp, fun e he e' he' => ?_⟩
      obtain rfl : e' = _ := by simpa using he'
      exact hno rfl hx e he
  | some p =>
    obtain ⟨j, u⟩ := p
    obtain ⟨e0, he0, rfl, hex⟩ := hr j u rfl
    obtain ⟨b0, y0, hk0, hv0, hb0, hp0, hF0⟩ := h3 e0 (List.mem_of_getElem? he0)
    have he0' : es[j]? = some e0 := by simpa using he0
    obtain ⟨u, k2, hs, hu⟩ := stays_any (P := Tryz.prog) e0.key (.pointer (some a)) (w.drewN k)
    have h2k2 : (w.drewN (k + k2)).heap[mb]? = some (.map es cl) := h2
    have hba : ex → b0 = a := fun hx => by
      have := hex hx
      rw [hk0] at this
      exact Option.some.inj (Value.pointer.inj this)
    have hup : ∃ b, u = .pointer (some b) ∧ UnF w b ∧ (ex → PlnF w b) ∧ F' b x ∧ (ex → b = b0) := by
      rcases hu with rfl | rfl
      · exact ⟨b0, hk0, hb0, hp0, f3 b0 y0 hF0 hba, fun _ => rfl⟩
      · exact ⟨a, rfl, ha, hp, f2, fun hx => (hba hx).symm⟩
    obtain ⟨b, rfl, hb, hpb, hFb, hbb⟩ := hup
    refine ⟨setBlock (w.drewN (k + k2)) mb (.map (es.modify j fun e => { e with key := .pointer (some b), val := .int .i64 x }) cl), ?_, ⟨_, _, heap_setBlock_same h2k2 _, fun e he => ?_, fun hx => ?_⟩, ?_⟩
    · simp [Instr.mapUpdate, run_underlying und_map, MapKept.run_getObj_map h2, check_any, hf, he0', hs, MapKept.run_setObj_map _ h2k2, Result.andThen, setBlock]
    · obtain ⟨i, hi⟩ := List.getElem?_of_mem he
      rw [Array.getElem?_toList, Array.getElem?_modify] at hi
      split at hi
      · obtain ⟨e1, h5, rfl⟩ := Option.map_eq_some_iff.1 hi
        exact ⟨b, x, rfl, rfl, UnF.setBlock h2k2 hb _, fun hx => PlnF.setBlock h2k2 (hpb hx) _, hFb⟩
      · rename_i hij
        have hi' : es.toList[i]? = some e := by simpa using hi
        obtain ⟨b1, y1, h4, h5, h6, h7, h8⟩ := h3 e (List.mem_of_getElem? hi')
        refine ⟨b1, y1, h4, h5, UnF.setBlock h2k2 h6 _, fun hx => PlnF.setBlock h2k2 (h7 hx) _, f1 b1 y1 h8 fun hx e2 => ?_⟩
        obtain ⟨hj1, hj2⟩ := List.getElem?_eq_some_iff.1 he0
        obtain ⟨hi1, hi2⟩ := List.getElem?_eq_some_iff.1 hi'
        have hpw := List.pairwise_iff_getElem.1 (h9 hx)
        have hke : e.key = e0.key := by rw [h4, hk0, e2, hba hx]
        rcases Nat.lt_trichotomy i j with hlt | hlt | hlt
        · exact hpw i j hi1 hj1 hlt (by rw [hi2, hj2]; exact hke)
        · exact hij hlt.symm
        · exact hpw j i hj1 hi1 hlt (by rw [hi2, hj2]; exact hke.symm)
    · have hkeys : (es.modify j fun e => { e with key := .pointer (some b), val := .int .i64 x }).toList.map (·.key) = es.toList.map (·.key) := by
        apply List.ext_getElem?
        intro i
        simp only [List.getElem?_map, Array.getElem?_toList, Array.getElem?_modify]
        by_cases hij : j = i
        · subst hij
          simp [he0', hk0, hbb hx]
        · simp [hij]
      have h10 := h9 hx
      rw [← List.pairwise_map (f := fun e : MapEntry => e.key) (R := fun x y => x ≠ y)] at h10 ⊢
      rw [hkeys]
      exact h10
    · exact hgr (k + k2) (.map (es.modify j fun e => { e with key := .pointer (some b), val := .int .i64 x }) cl)
end
end Go.Proofs.YtpbolcjcmkmalaaGreatDoor
namespace Go.Proofs.YtpbolcjcmkmalaaGreatDoor
open Go.RowKit Go.Extern.Stop Go.Stop Go.Extern

/-- Four cells at a place in a row of items. -/
def NodeAt (w : World) (b o : Nat) (v : Nat → Value) : Prop := ∃ cur, w.heap[b]? = some (.cells cur 25 (0, 0)) ∧ ∀ c, c < 4 → cur[o + c]? = some (v c)
theorem NodeAt.cell {w : World} {b o : Nat} {v : Nat → Value} (h : NodeAt w b o v) {c : Nat} (hc : c < 4) : w.cell? ⟨b, o + c, none⟩ = some (v c) := by
  obtain ⟨cur, e, hcs⟩ := h
  unfold World.cell?
  rw [e]
  exact hcs c hc
theorem NodeAt.lt {w : World} {b o : Nat} {v : Nat → Value} (h : NodeAt w b o v) : b < w.heap.size := cell_lt (h.cell (c := 0) (by omega))
theorem NodeAt.frozen {w : World} {b o : Nat} {v : Nat → Value} (h : NodeAt w b o v) (i : Nat) : w.frozen? ⟨b, i, none⟩ = false := by
  obtain ⟨cur, e, hcs⟩ := h
  unfold World.frozen?
  rw [e]
  simp
/-- A row of items, whatever they are. -/
def RowI (w : World) (B : Nat) (v : Value) (n : Nat) : Prop :=
  (v = .slice none 0 0 ∧ n = 0) ∨ ∃ g cap cur, v = .slice (some ⟨g, 0, none⟩) n cap ∧ B ≤ g ∧ w.heap[g]? = some (.cells cur 25 (0, 0)) ∧ n ≤ cap ∧ cap ≤ maxLen ∧ cur.size = cap * 4
theorem RowI.mono {w : World} {B B' : Nat} {v : Value} {n : Nat} (h : RowI w B v n) (hB : B' ≤ B) : RowI w B' v n := by
  rcases h with h | ⟨g, cap, cur, e, hb, r⟩
  · exact .inl h
  · exact .inr ⟨g, cap, cur, e, by omega, r⟩
theorem RowI.in {w : World} {B : Nat} {v : Value} {n : Nat} (h : RowI w B v n) : ∀ g, v.ownBlock = some g → B ≤ g ∧ g < w.heap.size := by
  intro g hg
  rcases h with ⟨rfl, _⟩ | ⟨g', cap, cur, rfl, hb, e, _⟩
  · cases hg
  · injection hg with hg
    have hg : g' = g := hg
    subst hg
    exact ⟨hb, (Array.getElem?_eq_some_iff.1 e).1⟩
theorem RowI.of {w : World} {B : Nat} {v : Value} {n : Nat} {xs : List Value} (h : w.ownsRow B 25 4 v n xs) : RowI w B v n := by
  rcases h.2 with h | ⟨g, cap, cur, e, hb, hg, h1, h2, h3, _⟩
  · exact .inl h
  · exact .inr ⟨g, cap, cur, e, hb, hg, h1, h2, h3⟩
/-- The tree at a place; L: the open provisions, whose kids are not its own yet. -/
inductive Ren (w : World) (B : Nat) (L : List (Nat × Nat × It)) : Nat → Nat → It → (Nat → Prop) → Prop
  | opn (b o : Nat) (t : It) (S : Nat → Prop) (v : Nat → Value) (here : NodeAt w b o v) (h0 : v 0 = .string t.label) (h1 : v 1 = .string t.head)
    (ln : w.ownsRow B 9 1 (v 2) t.lines.length (t.lines.map Value.string)) (sl : ∀ g, (v 2).ownBlock = some g → S g) (hS : ∀ g, S g → B ≤ g ∧ g < w.heap.size) (hb : ¬ S b) (ho : o % 4 = 0) (hm : (b, o, t) ∈ L) : Ren w B L b o t S
  | fin (b o : Nat) (t : It) (S : Nat → Prop) (v : Nat → Value) (here : NodeAt w b o v) (h0 : v 0 = .string t.label) (h1 : v 1 = .string t.head)
    (ln : w.ownsRow B 9 1 (v 2) t.lines.length (t.lines.map Value.string)) (sl : ∀ g, (v 2).ownBlock = some g → S g) (hS : ∀ g, S g → B ≤ g ∧ g < w.heap.size) (hb : ¬ S b) (ho : o % 4 = 0) (hn : ∀ t', (b, o, t') ∉ L)
    (T : Nat → Nat → Prop) (kd : RowI w B (v 3) t.kids.length) (sk : ∀ g, (v 3).ownBlock = some g → S g) (hr : ∀ g i k, (v 3).ownBlock = some g → t.kids[i]? = some k → Ren w B L g (i * 4) k (T i))
    (hT : ∀ i g, i < t.kids.length → T i g → S g ∧ (v 2).ownBlock ≠ some g ∧ (v 3).ownBlock ≠ some g) (hd : ∀ i j g, i < t.kids.length → j < t.kids.length → T i g → T j g → i = j) : Ren w B L b o t S
/-- One cell is another; new blocks; rows of places may have changed. -/
structure One3 (w w' : World) (b o : Nat) (u : Value) : Prop where
  size : w.heap.size ≤ w'.heap.size
  block : ∀ k, k < w.heap.size → k ≠ b → (∀ cur, w.heap[k]? ≠ some (.cells cur 51 (0, 0))) → w'.heap[k]? = w.heap[k]?
  here : ∀ cur ty, w.heap[b]? = some (.cells cur ty (0, 0)) → ∃ cur', w'.heap[b]? = some (.cells cur' ty (0, 0)) ∧ cur'.size = cur.size ∧ (∀ q, q ≠ o → cur'[q]? = cur[q]?) ∧ (o < cur.size → cur'[o]? = some u)
/-- New kids. -/
structure NewK (w w' : World) (B : Nat) (L : List (Nat × Nat × It)) (u : Value) (t : It) (T : Nat → Nat → Prop) : Prop where
  kd : RowI w' w.heap.size u t.kids.length
  hr : ∀ g i k, u.ownBlock = some g → t.kids[i]? = some k → Ren w' B L g (i * 4) k (T i)
  hT : ∀ i g, i < t.kids.length → T i g → w.heap.size ≤ g ∧ g < w'.heap.size ∧ u.ownBlock ≠ some g
  hd : ∀ i j g, i < t.kids.length → j < t.kids.length → T i g → T j g → i = j
theorem item_ne_str : (25 : Nat) ≠ 9 := by decide
theorem item_ne_ptr : (25 : Nat) ≠ 51 := by decide
theorem str_ne_ptr : (9 : Nat) ≠ 51 := by decide
theorem row_own_ty {w : World} {B e s : Nat} {v : Value} {n : Nat} {xs : List Value} (h : w.ownsRow B e s v n xs) {g : Nat} (hg : v.ownBlock = some g) : ∃ cur, w.heap[g]? = some (.cells cur e (0, 0)) := by
  rcases h.2 with ⟨rfl, _⟩ | ⟨g', cap, cur, rfl, _, e1, _⟩
  · cases hg
  · injection hg with hg
    have hg : g' = g := hg
    subst hg
    exact ⟨cur, e1⟩
theorem One3.row {w w' : World} {b o : Nat} {u : Value} (hf : One3 w w' b o u) (hb : ∃ cur, w.heap[b]? = some (.cells cur 25 (0, 0))) {B : Nat} {v : Value} {n : Nat} {xs : List Value} (h : w.ownsRow B 9 1 v n xs) : w'.ownsRow B 9 1 v n xs := by
  refine row_step h fun g hg hl => ?_
  obtain ⟨cur, e⟩ := row_own_ty h hg
  obtain ⟨cur', e'⟩ := hb
  refine hf.block g hl (fun e2 => ?_) (fun c e2 => ?_)
  · subst e2
    rw [e] at e'
    injection e' with e'
    injection e' with _ e' _
    exact item_ne_str e'.symm
  · rw [e] at e2
    injection e2 with e2
    injection e2 with _ e2 _
    exact str_ne_ptr e2
theorem One3.node {w w' : World} {b o o0 : Nat} {u : Value} (hf : One3 w w' b (o0 + 3) u) (h0 : o0 % 4 = 0) {b' : Nat} {v : Nat → Value} (h : NodeAt w b' o v) (ho : o % 4 = 0) (hn : ¬ (b' = b ∧ o = o0)) : NodeAt w' b' o v := by
  obtain ⟨cur, e, hc⟩ := h
  by_cases hb : b' = b
  · subst hb
    obtain ⟨cur', e1, _, e3, _⟩ := hf.here cur _ e
    refine ⟨cur', e1, fun c hc' => ?_⟩
    rw [e3 _ (by
      intro e5
      have : o ≠ o0 := fun e => hn ⟨rfl, e⟩
      omega)]
    exact hc c hc'
  · exact ⟨cur, (hf.block b' (Array.getElem?_eq_some_iff.1 e).1 hb (fun c e2 => by
      rw [e] at e2
      injection e2 with e2
      injection e2 with _ e2 _
      exact item_ne_ptr e2)).trans e, hc⟩
theorem One3.that {w w' : World} {b o : Nat} {u : Value} (hf : One3 w w' b (o + 3) u) {v : Nat → Value} (h : NodeAt w b o v) : NodeAt w' b o (updV v 3 u) := by
  obtain ⟨cur, e, hc⟩ := h
  obtain ⟨cur', e1, e2, e3, e4⟩ := hf.here cur _ e
  refine ⟨cur', e1, fun c hc' => ?_⟩
  by_cases h3 : c = 3
  · subst h3
    rw [updV_same]
    exact e4 ((Array.getElem?_eq_some_iff.1 (hc 3 (by omega))).1)
  · rw [e3 _ (by omega), updV_ne v u h3]
    exact hc c hc'
theorem One3.rowI {w w' : World} {b o : Nat} {u : Value} (hf : One3 w w' b o u) {B : Nat} {v : Value} {n : Nat} (h : RowI w B v n) : RowI w' B v n := by
  rcases h with h | ⟨g, cap, cur, e, hb, hg, h1, h2, h3⟩
  · exact .inl h
  · by_cases hgb : g = b
    · subst hgb
      obtain ⟨cur', e1, e2, _, _⟩ := hf.here cur _ hg
      exact .inr ⟨g, cap, cur', e, hb, e1, h1, h2, by omega⟩
    · exact .inr ⟨g, cap, cur, e, hb, (hf.block g (Array.getElem?_eq_some_iff.1 hg).1 hgb (fun c e2 => by
        rw [hg] at e2
        injection e2 with e2
        injection e2 with _ e2 _
        exact item_ne_ptr e2)).trans hg, h1, h2, h3⟩
theorem Ren.cast {w : World} {B : Nat} {L : List (Nat × Nat × It)} {b o : Nat} {t : It} {S S' : Nat → Prop} (h : Ren w B L b o t S) (e : ∀ q, S q ↔ S' q) : Ren w B L b o t S' := by
  have : S = S' := funext fun q => propext (e q)
  exact this ▸ h
/-- One open provision gets kids of its own. -/
theorem Ren.step {w w' : World} {B : Nat} {L L' : List (Nat × Nat × It)} {b0 o0 : Nat} {t0 : It} {u : Value} {T0 : Nat → Nat → Prop} (hB : B ≤ w.heap.size) (h0 : o0 % 4 = 0) (hb0 : ∃ cur, w.heap[b0]? = some (.cells cur 25 (0, 0)))
    (hf : One3 w w' b0 (o0 + 3) u) (hk : NewK w w' B L' u t0 T0) (hm0 : (b0, o0, t0) ∈ L) (hL : ∀ p, p ∈ L → (p.1 = b0 ∧ p.2.1 = o0 → p.2.2 = t0) ∧ (¬ (p.1 = b0 ∧ p.2.1 = o0) → p ∈ L'))
    (hL0 : ∀ t', (b0, o0, t') ∉ L') (hL' : ∀ p, p ∈ L' → p ∈ L ∨ w.heap.size ≤ p.1) {b o : Nat} {t : It} {S : Nat → Prop} (h : Ren w B L b o t S) :
    Ren w' B L' b o t (fun q => S q ∨ ((b = b0 ∧ o = o0 ∨ S b0) ∧ w.heap.size ≤ q ∧ q < w'.heap.size)) := by
  have hb0l : b0 < w.heap.size := by obtain ⟨cur, e⟩ := hb0; exact (Array.getElem?_eq_some_iff.1 e).1
  induction h with
  | opn b o t S v here f0 f1 ln sl hS hb ho hm =>
    have hbl := here.lt
    by_cases hbo : b = b0 ∧ o = o0
    · obtain ⟨rfl, rfl⟩ := hbo
      obtain rfl : t = t0 := (hL _ hm).1 ⟨rfl, rfl⟩
      refine .fin b o t _ (updV v 3 u) (hf.that here) ((updV_ne v u (by omega)).trans f0) ((updV_ne v u (by omega)).trans f1) ?_ (fun g hg => .inl (sl g (by rw [updV_ne v u (by omega)] at hg; exact hg))) (fun g hg => ?_) (fun hh => ?_) ho hL0 T0 ?_ (fun g hg => ?_) (fun g i k hg hi => ?_) (fun i g hi hg => ?_) hk.hd
      · rw [updV_ne v u (by omega)]
        exact hf.row hb0 ln
      · rcases hg with hg | ⟨_, h1, h2⟩
        · have := hS g hg; have := hf.size; omega
        · omega
      · rcases hh with hh | ⟨_, h1, _⟩
        · exact hb hh
        · omega
      · rw [updV_same]; exact hk.kd.mono hB
      · rw [updV_same] at hg
        exact .inr ⟨.inl ⟨rfl, rfl⟩, hk.kd.in g hg⟩
      · rw [updV_same] at hg
        exact hk.hr g i k hg hi
      · have h9 := hk.hT i g hi hg
        rw [updV_ne v u (by omega), updV_same]
        exact ⟨.inr ⟨.inl ⟨rfl, rfl⟩, h9.1, h9.2.1⟩, fun e => by have := (hS g (sl g e)).2; omega, h9.2.2⟩
    · refine .opn b o t _ v (hf.node h0 here ho hbo) f0 f1 (hf.row hb0 ln) (fun g hg => .inl (sl g hg)) (fun g hg => ?_) (fun hh => ?_) ho ((hL _ hm).2 hbo)
      · rcases hg with hg | ⟨_, h1, h2⟩
        · have := hS g hg; have := hf.size; omega
        · omega
      · rcases hh with hh | ⟨_, h1, _⟩
        · exact hb hh
        · omega
  | fin b o t S v here f0 f1 ln sl hS hb ho hn T kd sk hr hT hd ih =>
    have hbl := here.lt
    have hbo : ¬ (b = b0 ∧ o = o0) := by
      rintro ⟨rfl, rfl⟩
      exact hn t0 hm0
    have hTS : ∀ i q, i < t.kids.length → T i q → q < w.heap.size := fun i q hi hq => (hS q (hT i q hi hq).1).2
    refine .fin b o t _ v (hf.node h0 here ho hbo) f0 f1 (hf.row hb0 ln) (fun g hg => .inl (sl g hg)) (fun g hg => ?_) (fun hh => ?_) ho (fun t' ht => ?_)
      (fun i q => T i q ∨ (((v 3).ownBlock = some b0 ∧ i * 4 = o0 ∨ T i b0) ∧ w.heap.size ≤ q ∧ q < w'.heap.size)) (hf.rowI kd) (fun g hg => .inl (sk g hg)) (fun g i k hg hi => ?_) (fun i g hi hg => ?_) (fun i j g hi hj hg hg' => ?_)
    · rcases hg with hg | ⟨_, h1, h2⟩
      · have := hS g hg; have := hf.size; omega
      · omega
    · rcases hh with hh | ⟨_, h1, _⟩
      · exact hb hh
      · omega
    · rcases hL' _ ht with h1 | h1
      · exact hn t' h1
      · have h1 : w.heap.size ≤ b := h1
        omega
    · refine (ih g i k hg hi).cast fun q => ?_
      rw [hg]
      constructor
      · rintro (h1 | ⟨h1 | h1, h2⟩)
        · exact .inl h1
        · exact .inr ⟨.inl ⟨by rw [h1.1], h1.2⟩, h2⟩
        · exact .inr ⟨.inr h1, h2⟩
      · rintro (h1 | ⟨h1 | h1, h2⟩)
        · exact .inl h1
        · exact .inr ⟨.inl ⟨by have e := h1.1; injection e, h1.2⟩, h2⟩
        · exact .inr ⟨.inr h1, h2⟩
    · rcases hg with hg | ⟨h1, h2, h3⟩
      · have h9 := hT i g hi hg
        exact ⟨.inl h9.1, h9.2⟩
      · refine ⟨.inr ⟨.inr ?_, h2, h3⟩, fun e => ?_, fun e => ?_⟩
        · rcases h1 with h1 | h1
          · exact sk b0 h1.1
          · exact (hT i b0 hi h1).1
        · have := (hS g (sl g e)).2; omega
        · have := (hS g (sk g e)).2; omega
    · rcases hg with hg | ⟨h1, h2, _⟩ <;> rcases hg' with hg' | ⟨h1', h2', _⟩
      · exact hd i j g hi hj hg hg'
      · have := hTS i g hi hg; omega
      · have := hTS j g hj hg'; omega
      · rcases h1 with h1 | h1 <;> rcases h1' with h1' | h1'
        · omega
        · exact absurd h1.1 (hT j b0 hj h1').2.2
        · exact absurd h1'.1 (hT i b0 hi h1).2.2
        · exact hd i j b0 hi hj h1 h1'
/-- Nothing is open any more: it owns its memory. -/
theorem Ren.own {w : World} {B : Nat} {b o : Nat} {t : It} {S : Nat → Prop} (h : Ren w B [] b o t S) : ∃ v, NodeAt w b o v ∧ Own w B v t S ∧ ¬ S b := by
  induction h with
  | opn b o t S v here f0 f1 ln sl hS hb ho hm => cases hm
  | fin b o t S v here f0 f1 ln sl hS hb ho hn T kd sk hr hT hd ih =>
    refine ⟨v, here, ?_, hb⟩
    rcases kd with ⟨e, hz⟩ | ⟨g, cap, cur, e, hBg, hg, h1, h2, h3⟩
    · refine .mk v t (fun _ _ => .nilIface) T S f0 f1 ln ?_ sl sk (fun i k hi => ?_) hT hd hS
      · rw [e, hz]
        exact World.ownsRow_nil _ _ _ _
      · have := (List.getElem?_eq_some_iff.1 hi).1
        omega
    · have hex : ∀ i, ∃ x : Nat → Value, ∀ k, t.kids[i]? = some k → NodeAt w g (i * 4) x ∧ Own w B x k (T i) := fun i => by
        cases hi : t.kids[i]? with
        | none => exact ⟨fun _ => .nilIface, fun k hk => by cases hk⟩
        | some k =>
          obtain ⟨x, hx, ho', _⟩ := ih g i k (by rw [e]; rfl) hi
          exact ⟨x, fun k' hk' => by injection hk' with hk'; subst hk'; exact ⟨hx, ho'⟩⟩
      obtain ⟨K, hK⟩ := Classical.axiomOfChoice hex
      refine .mk v t K T S f0 f1 ln ⟨flat4_len _ _, .inr ⟨g, cap, cur, e, hBg, hg, h1, h2, h3, ?_⟩⟩ sl sk (fun i k hi => (hK i k hi).2) hT hd hS
      apply List.ext_getElem?
      intro q
      rw [List.getElem?_take]
      split
      · rename_i hq
        obtain ⟨k, hk⟩ : ∃ k, t.kids[q / 4]? = some k := ⟨_, List.getElem?_eq_getElem (by omega)⟩
        obtain ⟨cur', e', hc⟩ := (hK (q / 4) k hk).1
        rw [hg] at e'
        injection e' with e'
        injection e' with e' _ _
        subst e'
        have h5 := flat4_get K t.kids.length (q / 4) (q % 4) (by omega) (by omega)
        have h6 := hc (q % 4) (by omega)
        rw [show q / 4 * 4 + q % 4 = q by omega] at h5 h6
        rw [h5, Array.getElem?_toList]
        exact h6
      · rename_i hq
        rw [List.getElem?_eq_none (by rw [flat4_len]; omega)]
end Go.Proofs.YtpbolcjcmkmalaaGreatDoor
namespace Go.Proofs.YtpbolcjcmkmalaaGreatDoor
open Go.RowKit

theorem addz (b j : Nat) : (⟨b, 0, none⟩ : Addr).add j = ⟨b, j, none⟩ := by cases j <;> simp [Addr.add]
theorem addo (b o j : Nat) : (⟨b, o, none⟩ : Addr).add j = ⟨b, o + j, none⟩ := by cases j <;> simp [Addr.add]
theorem range_on {w w' : World} {b o : Nat} {cs : List Value} (h : w.rangeAt b o cs) (hb : w'.heap[b]? = w.heap[b]?) : w'.rangeAt b o cs := fun j v hv => (World.cell?_of_block (a := ⟨b, o + j, none⟩) hb).trans (h j v hv)
theorem alloc_range (W : World) (cs : List Value) (T : Nat) : (W.alloc (.cells cs.toArray T)).rangeAt W.heap.size 0 cs := fun j u h => by
  rw [Nat.zero_add, cell_of_row _ _ j cs.toArray T (0, 0) (Go.Deep.blk_alloc_new W _)]
  simpa using h

/-- How a thing lies in cells. -/
structure Enc (α : Type) where
  f : α → List Value
  k : Nat
  pos : 0 < k
  len : ∀ x, (f x).length = k
  one : ∀ x u, u ∈ f x → u.oneCell' = true
section
variable {α : Type} (E : Enc α)
def Enc.all (l : List α) : List Value := l.flatMap E.f
theorem Enc.all_nil : E.all [] = [] := rfl
theorem Enc.all_cons (x : α) (l : List α) : E.all (x :: l) = E.f x ++ E.all l := rfl
theorem Enc.all_app (a b : List α) : E.all (a ++ b) = E.all a ++ E.all b := by unfold Enc.all; rw [List.flatMap_append]
theorem Enc.all_len : ∀ l : List α, (E.all l).length = l.length * E.k
  | [] => by simp [Enc.all]
  | x :: l => by rw [E.all_cons, List.length_append, E.len, Enc.all_len l, List.length_cons, Nat.succ_mul]; omega
theorem Enc.all_get : ∀ (l : List α) (i : Nat) (x : α), l[i]? = some x → ∀ c u, (E.f x)[c]? = some u → (E.all l)[i * E.k + c]? = some u
  | y :: l, 0, x, h, c, u, hu => by
    obtain rfl : y = x := by simpa using h
    have hc := (List.getElem?_eq_some_iff.1 hu).1
    rw [Nat.zero_mul, Nat.zero_add, E.all_cons, List.getElem?_append_left hc]
    exact hu
  | y :: l, i + 1, x, h, c, u, hu => by
    have h1 := Enc.all_get l i x (by simpa using h) c u hu
    rw [E.all_cons, List.getElem?_append_right (by rw [E.len, Nat.succ_mul]; omega), E.len, show (i + 1) * E.k + c - E.k = i * E.k + c by rw [Nat.succ_mul]; omega]
    exact h1
theorem Enc.all_one (l : List α) (u : Value) (h : u ∈ E.all l) : u.oneCell' = true := by
  obtain ⟨x, _, hx⟩ := List.mem_flatMap.1 h
  exact E.one x u hx
end
/-- Things in a row of the call's own. -/
structure RowG {α : Type} (E : Enc α) (T : Nat) (w : World) (B : Nat) (v : Value) (l : List α) : Prop where
  row : w.ownsRow B T E.k v l.length (E.all l)
  len : l.length ≤ 100000000
/-- Things that can be read at a slice, in blocks below B. -/
def RdG {α : Type} (E : Enc α) (w : World) (B : Nat) (v : Value) (l : List α) : Prop :=
  ∃ a c, v = .slice a l.length c ∧ l.length ≤ 17592186044416 ∧ ∀ j x, l[j]? = some x → ∃ g o, a = some ⟨g, o, none⟩ ∧ g < B ∧ w.rangeAt g (o + j * E.k) (E.f x)
section
variable {α : Type} {E : Enc α} {T : Nat}
theorem RowG.nil (w : World) (B : Nat) : RowG E T w B (.slice none 0 0) [] := ⟨World.ownsRow_nil w B _ _, by simp⟩
theorem RowG.any {w : World} {B : Nat} {v : Value} {l : List α} (h : RowG E T w B v l) : ∃ a c, v = .slice a l.length c := by
  rcases h.row.2 with ⟨rfl, e⟩ | ⟨g, cap, cur, rfl, _⟩
  · exact ⟨_, _, by rw [e]⟩
  · exact ⟨_, _, rfl⟩
theorem RowG.any3 {w : World} {B : Nat} {v : Value} {l : List α} (h : RowG E T w B v l) : ∃ a m c, v = .slice a m c ∧ m = l.length := by
  obtain ⟨a, c, e⟩ := h.any
  exact ⟨a, _, c, e, rfl⟩
theorem RowG.blk {w : World} {B : Nat} {v : Value} {l : List α} (h : RowG E T w B v l) {g : Nat} (hg : v.ownBlock = some g) : B ≤ g ∧ g < w.heap.size := by
  rcases h.row.2 with ⟨rfl, e⟩ | ⟨g', cap, cur, rfl, hb, hgg, _⟩
  · cases hg
  · injection hg with hg
    subst hg
    exact ⟨hb, (Array.getElem?_eq_some_iff.1 hgg).1⟩
theorem RowG.on {w w' : World} {B : Nat} {v : Value} {l : List α} (h : RowG E T w B v l) (hk : ∀ g, v.ownBlock = some g → B ≤ g → g < w.heap.size → w'.heap[g]? = w.heap[g]?) : RowG E T w' B v l := by
  refine ⟨⟨h.row.1, ?_⟩, h.len⟩
  rcases h.row.2 with hn | ⟨g, cap, cur, rfl, hb, hgg, rest⟩
  · exact .inl hn
  · exact .inr ⟨g, cap, cur, rfl, hb, (hk g rfl hb (Array.getElem?_eq_some_iff.1 hgg).1).trans hgg, rest⟩
theorem RowG.below {w w' : World} {B : Nat} {v : Value} {l : List α} (h : RowG E T w B v l) (hb : Below w.heap.size w w') : RowG E T w' B v l := h.on fun g _ _ hl => hb.block g hl
theorem RowG.mono {w : World} {B B' : Nat} {v : Value} {l : List α} (h : RowG E T w B v l) (hB : B' ≤ B) : RowG E T w B' v l := by
  refine ⟨⟨h.row.1, ?_⟩, h.len⟩
  rcases h.row.2 with hn | ⟨g, cap, cur, rfl, hb, rest⟩
  · exact .inl hn
  · exact .inr ⟨g, cap, cur, rfl, by omega, rest⟩
theorem RdG.on {w w' : World} {B : Nat} {v : Value} {l : List α} (h : RdG E w B v l) (hb : ∀ k, k < B → w'.heap[k]? = w.heap[k]?) : RdG E w' B v l := by
  obtain ⟨a, c, e, hl, hx⟩ := h
  refine ⟨a, c, e, hl, fun j x hj => ?_⟩
  obtain ⟨g, o, h1, h2, h3⟩ := hx j x hj
  exact ⟨g, o, h1, h2, range_on h3 (hb g h2)⟩
theorem RdG.below {w w' : World} {B : Nat} {v : Value} {l : List α} (h : RdG E w B v l) (hb : Below B w w') : RdG E w' B v l := h.on hb.block
theorem RdG.mono {w : World} {B B' : Nat} {v : Value} {l : List α} (h : RdG E w B v l) (hB : B ≤ B') : RdG E w B' v l := by
  obtain ⟨a, c, e, hl, hx⟩ := h
  refine ⟨a, c, e, hl, fun j x hj => ?_⟩
  obtain ⟨g, o, h1, h2, h3⟩ := hx j x hj
  exact ⟨g, o, h1, by omega, h3⟩
theorem RdG.nil0 (w : World) (B c : Nat) (a : Option Addr) : RdG E w B (.slice a 0 c) [] := ⟨a, c, rfl, by simp, fun j x h => by simp at h⟩
theorem RdG.at {w : World} {B n c : Nat} {a : Option Addr} {l : List α} (h : RdG E w B (.slice a n c) l) {j : Nat} {x : α} (hj : l[j]? = some x) : ∃ g o, a = some ⟨g, o, none⟩ ∧ g < B ∧ w.rangeAt g (o + j * E.k) (E.f x) := by
  obtain ⟨a', c', e, _, hx⟩ := h
  injection e with e1 _ _
  subst e1
  exact hx j x hj
theorem RdG.len {w : World} {B n c : Nat} {a : Option Addr} {l : List α} (h : RdG E w B (.slice a n c) l) : n = l.length ∧ n ≤ 17592186044416 := by
  obtain ⟨a', c', e, hl, hx⟩ := h
  injection e with _ e2 _
  exact ⟨e2, by omega⟩
theorem RowG.cells {w : World} {B : Nat} {v : Value} {l : List α} (h : RowG E T w B v l) {g n cap : Nat} (hv : v = .slice (some ⟨g, 0, none⟩) n cap) : ∀ j u, (E.all l)[j]? = some u → w.cell? ⟨g, j, none⟩ = some u := fun j u hu => by
  have h0 := h.row
  obtain ⟨a, c, e⟩ := h.any
  rw [hv] at e
  injection e with e1 e2 e3
  subst e2 hv
  have := World.ownsRow.cells h0 (g := g) rfl j u hu
  rwa [addz] at this
theorem RowG.rd {w : World} {B : Nat} {v : Value} {l : List α} (h : RowG E T w B v l) : RdG E w w.heap.size v l := by
  have hlen := h.len
  rcases h.row.2 with ⟨rfl, e⟩ | ⟨g, cap, cur, hv, _, hgg, _⟩
  · exact ⟨.none, 0, by rw [e], by omega, fun j x hx => by rw [List.eq_nil_of_length_eq_zero e] at hx; simp at hx⟩
  · refine ⟨some ⟨g, 0, .none⟩, cap, hv, by omega, fun j x hx => ⟨g, 0, rfl, (Array.getElem?_eq_some_iff.1 hgg).1, fun c u hu => ?_⟩⟩
    rw [Nat.zero_add]
    exact h.cells hv _ _ (E.all_get l j x hx c u hu)
/-- One more, which has just been laid. -/
theorem wpList_push_g {S bytes : Nat} (hI : ∃ i z, Tryz.prog.info? T = some i ∧ i.zero = some z ∧ i.size = E.k ∧ i.bytes = bytes ∧ z.cells.size = E.k) (hby : bytes ≤ 200) (hU : Tryz.prog.underlying S = some (.slice T)) {W : World} {ops : Array Oper} {rest : List Oper} {o : Oper} {a : Act} {Q : Exit → Act → World → Prop} (hgd : o.guard = .none) (s x : Operand)
    (ho : o.op = .call { callee := .builtin .append, args := #[s, x], argTypes := #[S, S] }) (B : Nat) (v : Value) (l : List α) (y : α) (cs : Array Value) (hcs : cs = (E.f y).toArray) (hs : a.eval s = v) (hown : RowG E T W B v l)
    (hx : a.eval x = .slice (some ⟨W.heap.size, 0, .none⟩) 1 1) (hB : B ≤ W.heap.size) (hl : l.length + 1 ≤ 1000000)
    (h : ∀ v' w', RowG E T w' B v' (l ++ [y]) → Below B W w' → (∀ k, v.ownBlock ≠ some k → k < W.heap.size → w'.heap[k]? = W.heap[k]?) → (∀ k, v'.ownBlock = some k → v.ownBlock = some k ∨ W.heap.size ≤ k) → wpList Tryz.prog ops Q rest (a.put o.dst v') w') : wpList Tryz.prog ops Q (o :: rest) a (W.alloc (.cells cs T)) := by
  obtain ⟨i0, z, h1, h2, h3, h4, h5⟩ := hI
  subst hcs
  have hn : ∀ (j : Nat) (u : Value), (E.f y)[j]? = some u → (W.alloc (.cells (E.f y).toArray T)).cell? ((⟨W.heap.size, 0, .none⟩ : Addr).add j) = some u := fun j u hj => by
    have := alloc_range W (E.f y) T j u hj
    rw [addo]
    exact this
  have hal := (hown.below ((Below.refl _ _).alloc (Nat.le_refl _) (.cells (E.f y).toArray T)))
  refine wpList_append_own_at _ hgd s x S ho B T i0 z E.k bytes hU h1 h2 h3 h4 h5 E.pos v l.length (E.all l) hs hal.row ⟨W.heap.size, 0, .none⟩ 1 1 (E.f y) hx (by rw [E.len, Nat.one_mul]) hn (E.one y) (by unfold maxLen; omega) (by have h6 : (l.length + 1) * bytes ≤ 1000000 * 200 := Nat.mul_le_mul hl hby; omega) (by simp; omega) ?_
  intro v' w' hown' hgrow _ hblk
  refine h v' w' ⟨?_, by rw [List.length_append]; simp only [List.length_cons, List.length_nil]; omega⟩ (((Below.refl B W).alloc hB _).grown hgrow (by simp; omega) (fun k hk => (hown.row.lt k hk).1)) (fun k hk hlt => ?_) (fun k hk => ?_)
  · rw [List.length_append, E.all_app, show E.all [y] = E.f y by rw [E.all_cons, E.all_nil, List.append_nil]]
    exact hown'
  · rw [hgrow.block k (by simp; omega) (fun e => hk e.symm), Go.Deep.blk_alloc_lt _ _ _ hlt]
  · rcases hblk with e | e
    · exact .inl (e ▸ hk)
    · rw [hk] at e
      injection e with e
      exact .inr (by simp at e; omega)
end
/-! Things that can be read at a slice, in blocks of a kind. -/
def RdS {α : Type} (E : Enc α) (w : World) (S : Nat → Prop) (v : Value) (l : List α) : Prop :=
  ∃ a c, v = .slice a l.length c ∧ l.length ≤ 17592186044416 ∧ ∀ j x, l[j]? = some x → ∃ g o, a = some ⟨g, o, none⟩ ∧ S g ∧ w.rangeAt g (o + j * E.k) (E.f x)
section
variable {α : Type} {E : Enc α} {T : Nat}
theorem RdS.on {w w' : World} {S S' : Nat → Prop} {v : Value} {l : List α} (h : RdS E w S v l) (hb : ∀ k, S k → S' k ∧ w'.heap[k]? = w.heap[k]?) : RdS E w' S' v l := by
  obtain ⟨a, c, e, hl, hx⟩ := h
  refine ⟨a, c, e, hl, fun j x hj => ?_⟩
  obtain ⟨g, o, h1, h2, h3⟩ := hx j x hj
  exact ⟨g, o, h1, (hb g h2).1, range_on h3 (hb g h2).2⟩
theorem RdS.below {w w' : World} {B : Nat} {v : Value} {l : List α} (h : RdS E w (· < B) v l) (hb : Below B w w') : RdS E w' (· < B) v l := h.on fun k hk => ⟨hk, hb.block k hk⟩
theorem RdS.upto {w w' : World} {B B' : Nat} {v : Value} {l : List α} (h : RdS E w (· < B) v l) (hb : Below B w w') (hB : B ≤ B') : RdS E w' (· < B') v l := h.on fun k hk => ⟨Nat.lt_of_lt_of_le hk hB, hb.block k hk⟩
theorem RdS.mono {w : World} {S S' : Nat → Prop} {v : Value} {l : List α} (h : RdS E w S v l) (hS : ∀ k, S k → S' k) : RdS E w S' v l := h.on fun k hk => ⟨hS k hk, rfl⟩
theorem RdS.nil0 (w : World) (S : Nat → Prop) (c : Nat) (a : Option Addr) : RdS E w S (.slice a 0 c) [] := ⟨a, c, rfl, by simp, fun j x h => by simp at h⟩
theorem RdS.at {w : World} {S : Nat → Prop} {n c : Nat} {a : Option Addr} {l : List α} (h : RdS E w S (.slice a n c) l) {j : Nat} {x : α} (hj : l[j]? = some x) : ∃ g o, a = some ⟨g, o, none⟩ ∧ S g ∧ w.rangeAt g (o + j * E.k) (E.f x) := by
  obtain ⟨a', c', e, _, hx⟩ := h
  injection e with e1 _ _
  subst e1
  exact hx j x hj
theorem RdS.len {w : World} {S : Nat → Prop} {n c : Nat} {a : Option Addr} {l : List α} (h : RdS E w S (.slice a n c) l) : n = l.length ∧ n ≤ 17592186044416 := by
  obtain ⟨a', c', e, hl, hx⟩ := h
  injection e with _ e2 _
  exact ⟨e2, by omega⟩
theorem RdS.form {w : World} {S : Nat → Prop} {v : Value} {l : List α} (h : RdS E w S v l) : ∃ a n c, v = .slice a n c ∧ n = l.length := by
  obtain ⟨a, c, e, _⟩ := h
  exact ⟨a, _, c, e, rfl⟩
theorem RowG.rdS {w : World} {B : Nat} {v : Value} {l : List α} (h : RowG E T w B v l) : RdS E w (fun k => B ≤ k ∧ k < w.heap.size ∧ v.ownBlock = some k) v l := by
  obtain ⟨a, c, e, hl, hx⟩ := h.rd
  refine ⟨a, c, e, hl, fun j x hj => ?_⟩
  obtain ⟨g, o, h1, h2, h3⟩ := hx j x hj
  have ho : v.ownBlock = some g := by
    rw [e, h1]
    rfl
  exact ⟨g, o, h1, ⟨(h.blk ho).1, h2, ho⟩, h3⟩
end
/-! Things with a slice in them. -/
structure SlV where
  a : Option Addr
  n : Nat
  c : Nat
def SlV.v (s : SlV) : Value := .slice s.a s.n s.c
/-- How a thing lies whose last part is a slice of others. -/
structure Nest (X Y : Type) where
  E : Enc (X × SlV)
  F : Enc Y
  sub : X → List Y
def NRd {X Y : Type} (N : Nest X Y) (w : World) (S : Nat → Prop) (v : Value) (l : List X) : Prop :=
  ∃ vs : List SlV, vs.length = l.length ∧ RdS N.E w S v (l.zip vs) ∧ ∀ (i : Nat) s x, vs[i]? = some s → l[i]? = some x → RdS N.F w S s.v (N.sub x)
/-- A row of the call's own, with others in it. -/
def NRow {X Y : Type} (N : Nest X Y) (T : Nat) (K : Nat → Prop) (w : World) (B : Nat) (v : Value) (l : List X) : Prop :=
  ∃ vs : List SlV, vs.length = l.length ∧ RowG N.E T w B v (l.zip vs) ∧ ∀ (i : Nat) s x, vs[i]? = some s → l[i]? = some x → RdS N.F w (fun k => k < w.heap.size ∧ v.ownBlock ≠ some k ∧ K k) s.v (N.sub x)
section
variable {X Y : Type} {N : Nest X Y} {T : Nat} {K : Nat → Prop}
theorem zip_len {l : List X} {vs : List SlV} (h : vs.length = l.length) : (l.zip vs).length = l.length := by rw [List.length_zip]; omega
theorem zip_get {l : List X} {vs : List SlV} (h : vs.length = l.length) {i : Nat} {x : X} (hx : l[i]? = some x) : ∃ s, vs[i]? = some s ∧ (l.zip vs)[i]? = some (x, s) := by
  have hi := (List.getElem?_eq_some_iff.1 hx).1
  obtain ⟨s, hs⟩ : ∃ s, vs[i]? = some s := ⟨_, List.getElem?_eq_getElem (by omega)⟩
  refine ⟨s, hs, ?_⟩
  rw [List.getElem?_zip_eq_some]
  exact ⟨hx, hs⟩
theorem NRd.len {w : World} {S : Nat → Prop} {n c : Nat} {a : Option Addr} {l : List X} (h : NRd N w S (.slice a n c) l) : n = l.length ∧ n ≤ 17592186044416 := by
  obtain ⟨vs, h1, h2, _⟩ := h
  have := h2.len
  rw [zip_len h1] at this
  exact this
theorem NRd.form {w : World} {S : Nat → Prop} {v : Value} {l : List X} (h : NRd N w S v l) : ∃ a n c, v = .slice a n c ∧ n = l.length := by
  obtain ⟨vs, h1, h2, _⟩ := h
  have := h2.form
  rw [zip_len h1] at this
  exact this
theorem NRd.at {w : World} {S : Nat → Prop} {n c : Nat} {a : Option Addr} {l : List X} (h : NRd N w S (.slice a n c) l) {j : Nat} {x : X} (hj : l[j]? = some x) :
    ∃ g o sa sn sc, a = some ⟨g, o, none⟩ ∧ S g ∧ w.rangeAt g (o + j * N.E.k) (N.E.f (x, ⟨sa, sn, sc⟩)) ∧ RdS N.F w S (.slice sa sn sc) (N.sub x) := by
  obtain ⟨vs, h1, h2, h3⟩ := h
  obtain ⟨⟨sa, sn, sc⟩, hs, hz⟩ := zip_get h1 hj
  obtain ⟨g, o, e, hS, hr⟩ := h2.at hz
  exact ⟨g, o, sa, sn, sc, e, hS, hr, h3 j _ x hs hj⟩
theorem NRd.on {w w' : World} {S S' : Nat → Prop} {v : Value} {l : List X} (h : NRd N w S v l) (hb : ∀ k, S k → S' k ∧ w'.heap[k]? = w.heap[k]?) : NRd N w' S' v l := by
  obtain ⟨vs, h1, h2, h3⟩ := h
  exact ⟨vs, h1, h2.on hb, fun i s x hs hx => (h3 i s x hs hx).on hb⟩
theorem NRd.below {w w' : World} {B : Nat} {v : Value} {l : List X} (h : NRd N w (· < B) v l) (hb : Below B w w') : NRd N w' (· < B) v l := h.on fun k hk => ⟨hk, hb.block k hk⟩
theorem NRd.upto {w w' : World} {B B' : Nat} {v : Value} {l : List X} (h : NRd N w (· < B) v l) (hb : Below B w w') (hB : B ≤ B') : NRd N w' (· < B') v l := h.on fun k hk => ⟨Nat.lt_of_lt_of_le hk hB, hb.block k hk⟩
theorem NRd.nil0 (w : World) (S : Nat → Prop) (c : Nat) (a : Option Addr) : NRd N w S (.slice a 0 c) [] := ⟨[], rfl, RdS.nil0 _ _ _ _, fun i s x h => by simp at h⟩
theorem NRow.nil (w : World) (B : Nat) : NRow N T K w B (.slice none 0 0) [] := ⟨[], rfl, RowG.nil _ _, fun i s x h => by simp at h⟩
theorem NRow.any3 {w : World} {B : Nat} {v : Value} {l : List X} (h : NRow N T K w B v l) : ∃ a m c, v = .slice a m c ∧ m = l.length := by
  obtain ⟨vs, h1, h2, _⟩ := h
  have := h2.any3
  rw [zip_len h1] at this
  exact this
theorem NRow.rd {w : World} {B : Nat} {v : Value} {l : List X} (h : NRow N T K w B v l) : NRd N w (· < w.heap.size) v l := by
  obtain ⟨vs, h1, h2, h3⟩ := h
  exact ⟨vs, h1, h2.rdS.mono fun k hk => hk.2.1, fun i s x hs hx => (h3 i s x hs hx).mono fun k hk => hk.1⟩
theorem NRow.below {w w' : World} {B : Nat} {v : Value} {l : List X} (h : NRow N T K w B v l) (hb : Below w.heap.size w w') : NRow N T K w' B v l := by
  obtain ⟨vs, h1, h2, h3⟩ := h
  exact ⟨vs, h1, h2.below hb, fun i s x hs hx => (h3 i s x hs hx).on fun k hk => ⟨⟨Nat.lt_of_lt_of_le hk.1 hb.size, hk.2⟩, hb.block k hk.1⟩⟩
/-- All blocks but one stay. -/
structure Frm (x : Nat) (w w' : World) : Prop where
  os : w'.os = w.os
  tape : w'.tape = w.tape
  output : w'.output = w.output
  size : w.heap.size ≤ w'.heap.size
  block : ∀ k, k < w.heap.size → k ≠ x → w'.heap[k]? = w.heap[k]?
theorem Frm.refl (x : Nat) (w : World) : Frm x w w := ⟨rfl, rfl, rfl, Nat.le_refl _, fun _ _ _ => rfl⟩
theorem Frm.trans {x : Nat} {a b c : World} (h : Frm x a b) (k : Frm x b c) : Frm x a c := ⟨k.os.trans h.os, k.tape.trans h.tape, k.output.trans h.output, Nat.le_trans h.size k.size, fun i hi hx => (k.block i (Nat.lt_of_lt_of_le hi h.size) hx).trans (h.block i hi hx)⟩
theorem Frm.of {x : Nat} {w w' : World} (h : Below w.heap.size w w') : Frm x w w' := ⟨h.os, h.tape, h.output, h.size, fun k hk _ => h.block k hk⟩
theorem Frm.below {x B : Nat} {w w' : World} (h : Frm x w w') (hx : B ≤ x) (hB : B ≤ w.heap.size) : Below B w w' := ⟨h.os, h.tape, h.output, h.size, fun k hk => h.block k (by omega) (by omega)⟩
theorem Frm.new {x : Nat} {a w w' : World} (h : Frm x w w') (ha : Below a.heap.size a w) (hx : a.heap.size ≤ x) : Below a.heap.size a w' := ha.trans (h.below hx ha.size)
theorem Frm.setCell {x : Nat} {w w' : World} (h : Frm x w w') {p : Addr} (hp : p.block = x) (u : Value) : Frm x w (w'.setCell p u) :=
  ⟨h.os, h.tape, h.output, by have := h.size; simp; exact this, fun k hk hx => by rw [Below.heap_setCell _ _ _ _ (by rw [hp]; exact hx)]; exact h.block k hk hx⟩
theorem Frm.drewN {x : Nat} {w w' : World} (h : Frm x w w') (n : Nat) : Frm x w (w'.drewN n) := ⟨h.os, h.tape, h.output, h.size, h.block⟩
theorem NRow.frm {w w' : World} {B x : Nat} {v : Value} {l : List X} (h : NRow N T (· ≠ x) w B v l) (hf : Frm x w w') (hv : v.ownBlock ≠ some x) : NRow N T (· ≠ x) w' B v l := by
  obtain ⟨vs, h1, h2, h3⟩ := h
  exact ⟨vs, h1, h2.on fun g hg _ hl => hf.block g hl (fun e => hv (by rw [hg, e])), fun i s y hs hy => (h3 i s y hs hy).on fun k hk => ⟨⟨Nat.lt_of_lt_of_le hk.1 hf.size, hk.2⟩, hf.block k hk.1 hk.2.2⟩⟩
theorem NRow.lt {w : World} {B : Nat} {v : Value} {l : List X} (h : NRow N T K w B v l) {g : Nat} (hg : v.ownBlock = some g) : B ≤ g ∧ g < w.heap.size := by
  obtain ⟨vs, h1, h2, h3⟩ := h
  exact h2.blk hg
/-- One more, which has just been laid; what is in it lies ahead, elsewhere. -/
theorem wpList_push_n {S bytes : Nat} (hI : ∃ i z, Tryz.prog.info? T = some i ∧ i.zero = some z ∧ i.size = N.E.k ∧ i.bytes = bytes ∧ z.cells.size = N.E.k) (hby : bytes ≤ 200) (hU : Tryz.prog.underlying S = some (.slice T)) {W : World} {ops : Array Oper} {rest : List Oper} {o : Oper} {a : Act} {Q : Exit → Act → World → Prop} (hgd : o.guard = .none) (s x : Operand)
    (ho : o.op = .call { callee := .builtin .append, args := #[s, x], argTypes := #[S, S] }) (B : Nat) (v : Value) (l : List X) (y : X) (sl : SlV) (cs : Array Value) (hcs : cs = (N.E.f (y, sl)).toArray) (hs : a.eval s = v) (hown : NRow N T K W B v l)
    (hsub : RdS N.F W (fun k => k < W.heap.size ∧ v.ownBlock ≠ some k ∧ K k) sl.v (N.sub y))
    (hx : a.eval x = .slice (some ⟨W.heap.size, 0, .none⟩) 1 1) (hB : B ≤ W.heap.size) (hl : l.length + 1 ≤ 1000000)
    (h : ∀ v' w', NRow N T K w' B v' (l ++ [y]) → Below B W w' → W.heap.size ≤ w'.heap.size → (∀ k, v.ownBlock ≠ some k → k < W.heap.size → w'.heap[k]? = W.heap[k]?) → (∀ k, v'.ownBlock = some k → v.ownBlock = some k ∨ W.heap.size ≤ k) → wpList Tryz.prog ops Q rest (a.put o.dst v') w') : wpList Tryz.prog ops Q (o :: rest) a (W.alloc (.cells cs T)) := by
  obtain ⟨vs, h1, h2, h3⟩ := hown
  refine wpList_push_g hI hby hU hgd s x ho B v (l.zip vs) (y, sl) cs hcs hs h2 hx hB (by rw [zip_len h1]; exact hl) ?_
  intro v' w' hr hb hk hv
  refine h v' w' ⟨vs ++ [sl], by simp [h1], ?_, fun i s' x' hs' hx' => ?_⟩ hb hb.size hk hv
  · rw [List.zip_append h1.symm]
    exact hr
  · have hold : ∀ (sv : Value) (m : List Y), RdS N.F W (fun k => k < W.heap.size ∧ v.ownBlock ≠ some k ∧ K k) sv m → RdS N.F w' (fun k => k < w'.heap.size ∧ v'.ownBlock ≠ some k ∧ K k) sv m := fun sv m hm => hm.on fun k hkk => ⟨⟨Nat.lt_of_lt_of_le hkk.1 hb.size, fun e => by
      rcases hv k e with e1 | e1
      · exact hkk.2.1 e1
      · omega, hkk.2.2⟩, hk k hkk.2.1 hkk.1⟩
    rcases Nat.lt_or_ge i l.length with hi | hi
    · rw [List.getElem?_append_left (by omega)] at hs' hx'
      exact hold _ _ (h3 i s' x' hs' hx')
    · have hin : i = l.length := by
        have := (List.getElem?_eq_some_iff.1 hx').1
        simp at this
        omega
      subst hin
      rw [← h1] at hs'
      simp at hs' hx'
      subst hs' hx'
      exact hold _ _ hsub
end
end Go.Proofs.YtpbolcjcmkmalaaGreatDoor
namespace Go.Proofs.YtpbolcjcmkmalaaGreatDoor
open Go.RowKit Go.Extern.Stop Go.Stop Go.Extern

/-- The shape: three functions, two weights. -/
abbrev shpV : Array Value := #[.func (.func 62) #[] #[], .func (.func 63) #[] #[], .func (.func 65) #[] #[], .int .i64 67108864, .int .i64 600]
/-- A scale. -/
structure SC (w : World) (sb mb : Nat) (ex : Prop) (F : Addr → Int → Prop) : Prop where
  bk : w.heap[sb]? = some (.cells #[.func (.func 62) #[] #[], .func (.func 63) #[] #[], .func (.func 65) #[] #[], .int .i64 67108864, .int .i64 600, .map (some mb)] 157 (0, 0))
  mp : MpP w mb ex F
theorem six {W : World} {g : Nat} {c0 c1 c2 c3 c4 c5 : Value} {T : TypeId} (h : W.heap[g]? = some (.cells #[c0, c1, c2, c3, c4, c5] T (0, 0))) : W.cell? ⟨g, 0, none⟩ = some c0 ∧ W.cell? ⟨g, 1, none⟩ = some c1 ∧ W.cell? ⟨g, 2, none⟩ = some c2 ∧ W.cell? ⟨g, 3, none⟩ = some c3 ∧ W.cell? ⟨g, 4, none⟩ = some c4 ∧ W.cell? ⟨g, 5, none⟩ = some c5 := by
  simp [World.cell?, h]
theorem five {W : World} {g : Nat} {a b c d e : Value} {T : TypeId} (h : W.heap[g]? = some (.cells #[a, b, c, d, e] T (0, 0))) : W.cell? ⟨g, 0, none⟩ = some a ∧ W.cell? ⟨g, 1, none⟩ = some b ∧ W.cell? ⟨g, 2, none⟩ = some c ∧ W.cell? ⟨g, 3, none⟩ = some d ∧ W.cell? ⟨g, 4, none⟩ = some e := by
  simp [World.cell?, h]
theorem SC.on {w w' : World} {sb mb : Nat} {ex : Prop} {F F' : Addr → Int → Prop} (h : SC w sb mb ex F) (h1 : w'.heap[sb]? = w.heap[sb]?) (h2 : MpP w' mb ex F') : SC w' sb mb ex F' := ⟨h1.trans h.bk, h2⟩
theorem SC.drewN {w : World} {sb mb : Nat} {ex : Prop} {F : Addr → Int → Prop} (h : SC w sb mb ex F) (n : Nat) : SC (w.drewN n) sb mb ex F := ⟨h.bk, h.mp.drewN n⟩
theorem SC.lt {w : World} {sb mb : Nat} {ex : Prop} {F : Addr → Int → Prop} (h : SC w sb mb ex F) : sb < w.heap.size := (Array.getElem?_eq_some_iff.1 h.bk).1
theorem SC.ne {w : World} {sb mb : Nat} {ex : Prop} {F : Addr → Int → Prop} (h : SC w sb mb ex F) : sb ≠ mb := fun e => by
  obtain ⟨es, cl, h1, _⟩ := h.mp
  have h2 := h.bk
  rw [e, h1] at h2
  cases h2
/-- New blocks alone. -/
theorem UnF.lt {w : World} {a : Addr} (h : UnF w a) : a.block < w.heap.size := by obtain ⟨u, hu⟩ := h.1; exact World.block_lt_of_cell? w a hu
theorem UnF.below {w w' : World} {a : Addr} (h : UnF w a) (hb : Below w.heap.size w w') : UnF w' a := h.on (hb.block _ h.lt)
theorem PlnF.below {w w' : World} {a : Addr} (h : PlnF w a) (hb : Below w.heap.size w w') : PlnF w' a := h.on (hb.block _ (by obtain ⟨c, t, h⟩ := h; exact (Array.getElem?_eq_some_iff.1 h).1))
theorem SC.below {w w' : World} {sb mb : Nat} {ex : Prop} {F : Addr → Int → Prop} (h : SC w sb mb ex F) (hb : Below w.heap.size w w') : SC w' sb mb ex F := h.on (hb.block _ h.lt) (h.mp.on (hb.block _ h.mp.lt) (fun _ ha => ha.below hb) fun _ ha => ha.below hb)
set_option maxRecDepth 20000 in
theorem shape_a (w : World) : Calls Tryz.prog 27 #[] w fun e w' => e = .returned (.agg shpV) ∧ Below w.heap.size w w' := by
  go_enter Tryz.func27, Tryz.ntmps27
  go_wp2_with (refine wpList_store_row rfl 75 (.tmp 0) (.tmp 1) rfl w.heap.size shpV (by simp [Act.eval]) (by simp [Act.eval]) 75 #[.nilFunc, .nilFunc, .nilFunc, .int .i64 0, .int .i64 0] (heap_alloc_new _ _) (by kernel_rfl) rfl (by simp [Value.oneCell']) ?_)
  rw [World.setRow_alloc_new]
  refine bodyPost_ret (v := .agg shpV) (results_cell_row Tryz.results27 _ _ w.heap.size 75 shpV (0, 0) _ (by first | rfl | simp) (heap_alloc_new _ _) Tryz.underlying75 rfl rfl) rfl ?_
  exact ⟨rfl, (Below.refl _ _).alloc (Nat.le_refl _) _⟩
theorem kids_a (b o : Nat) (w : World) : Calls Tryz.prog 62 #[.pointer (some ⟨b, o, none⟩)] w fun e w' => e = .returned (.pointer (some ⟨b, o + 3, none⟩)) ∧ w' = w := by
  go_enter Tryz.func62, Tryz.ntmps62
  go_wp2
  go_ret
  exact ⟨rfl, rfl⟩
theorem weight_a {b o : Nat} {la : Option Addr} {n lc : Nat} {w : World} (hc : w.cell? ⟨b, o + 2, none⟩ = some (.slice la n lc)) (hn : n ≤ 1000000) : Calls Tryz.prog 65 #[.pointer (some ⟨b, o, none⟩)] w fun e w' => e = .returned (.int .i64 (1 + n)) ∧ w' = w := by
  have hw : IntKind.i64.wrap (1 + (n : Int)) = 1 + (n : Int) := by rw [IntKind.wrap_i64]; omega
  go_enter Tryz.func65, Tryz.ntmps65
  go_wp2
  go_ret
  exact ⟨rfl, rfl⟩
theorem tooMuch_a {w : World} {sb : Nat} (c3 : w.cell? ⟨sb, 3, none⟩ = some (.int .i64 67108864)) : Calls Tryz.prog 132 #[.pointer (some ⟨sb, 0, none⟩)] w fun e w' => e = .returned (.int .i64 67108865) ∧ w' = w := by
  go_enter Tryz.func132, Tryz.ntmps132
  go_wp2
  go_ret
  exact ⟨rfl, rfl⟩
set_option maxHeartbeats 1000000 in
theorem scale_a (ex : Prop) (w : World) : Calls Tryz.prog 66 #[.agg shpV] w fun e w' => ∃ sb mb, e = .returned (.pointer (some ⟨sb, 0, none⟩)) ∧ SC w' sb mb ex (fun _ _ => False) ∧ w.heap.size ≤ sb ∧ w.heap.size ≤ mb ∧ Below w.heap.size w w' := by
  have hmm := @run_makeMap Tryz.prog
  go_enter Tryz.func66, Tryz.ntmps66
  go_wp2
  go_ret
  have e2 : ((w.alloc (.cells shpV 75)).alloc (.map #[] 0)).heap.size = w.heap.size + 1 + 1 := by simp
  have e1 : (w.alloc (.cells shpV 75)).heap.size = w.heap.size + 1 := by simp
  refine ⟨w.heap.size + 1 + 1, w.heap.size + 1, rfl, ⟨?_, #[], 0, ?_, (fun _ he => by cases he), fun _ => List.Pairwise.nil⟩, by omega, by omega, (((Below.refl _ _).alloc (Nat.le_refl _) _).alloc (by omega) _).alloc (by omega) _⟩
  · have := heap_alloc_new ((w.alloc (.cells shpV 75)).alloc (.map #[] 0)) (.cells #[.func (.func 62) #[] #[], .func (.func 63) #[] #[], .func (.func 65) #[] #[], .int .i64 67108864, .int .i64 600, .map (some (w.heap.size + 1))] 157)
    rw [e2] at this
    exact this
  · rw [Below.heap_alloc _ _ _ (by omega)]
    have := heap_alloc_new (w.alloc (.cells shpV 75)) (.map #[] 0)
    rw [e1] at this
    exact this
/-- A node that is to be weighed. -/
structure NdW (w : World) (b o m n : Nat) (ka : Option Addr) (kc : Nat) : Prop where
  c2 : ∃ la lc, w.cell? ⟨b, o + 2, none⟩ = some (.slice la m lc)
  hm : m ≤ 1000000
  c3 : w.cell? ⟨b, o + 3, none⟩ = some (.slice ka n kc)
  uf : UnF w ⟨b, o, none⟩
theorem NdW.on {w w' : World} {b o m n kc : Nat} {ka : Option Addr} (h : NdW w b o m n ka kc) (hb : w'.heap[b]? = w.heap[b]?) : NdW w' b o m n ka kc := by
  obtain ⟨la, lc, h2⟩ := h.c2
  exact ⟨⟨la, lc, (World.cell?_of_block (a := ⟨b, o + 2, none⟩) hb).trans h2⟩, h.hm, (World.cell?_of_block (a := ⟨b, o + 3, none⟩) hb).trans h.c3, h.uf.on hb⟩
theorem NdW.lt {w : World} {b o m n kc : Nat} {ka : Option Addr} (h : NdW w b o m n ka kc) : b < w.heap.size := cell_lt h.c3
set_option maxHeartbeats 2000000 in
set_option maxRecDepth 20000 in
theorem told_a {w : World} {sb mb b o m n kc : Nat} {ka : Option Addr} {ex : Prop} {F : Addr → Int → Prop} (h : SC w sb mb ex F) (hn : NdW w b o m n ka kc) (hp : ex → PlnF w ⟨b, o, none⟩) :
    Calls Tryz.prog 103 #[.pointer (some ⟨sb, 0, none⟩), .pointer (some ⟨b, o, none⟩)] w fun e w' => ∃ (x : Int) (is : Bool) (k : Nat), e = .returned (.tuple #[.int .i64 x, .bool is]) ∧ (n = 0 → is = true ∧ x = 1 + m) ∧ (n ≠ 0 → is = true → ∃ c, F c x ∧ (ex → c = ⟨b, o, none⟩)) ∧ w' = w.drewN k := by
  obtain ⟨c0, c1, c2, c3, c4, c5⟩ := six h.bk
  obtain ⟨la, lc, d2⟩ := hn.c2
  have hm := hn.hm
  have d3 := hn.c3
  have HK := hidLL (kids_a b o w)
  by_cases h0 : n = 0
  · subst h0
    have HW := hidLL (weight_a d2 hm)
    have HT := hidLL (tooMuch_a c3)
    have hmin : min (1 + (m : Int)) 67108865 = 1 + (m : Int) := by omega
    clear h hn hm hp
    go_enter Tryz.func103, Tryz.ntmps103
    go_wp2_with (first | (go_at_call 62; refine HK.out.mono ?_; rintro e w1 ⟨rfl, ew⟩; subst w1) | (go_at_call 65; refine HW.out.mono ?_; rintro e w1 ⟨rfl, ew⟩; subst w1) | (go_at_call 132; refine HT.out.mono ?_; rintro e w1 ⟨rfl, ew⟩; subst w1))
    all_goals go_ret2
    all_goals exact ⟨_, true, 0, rfl, fun _ => ⟨rfl, (by first | exact hmin | rfl)⟩, fun e => absurd rfl e, rfl⟩
  · have hnz : ¬ (n : Int) = 0 := by omega
    obtain ⟨x, is, k, hrun, _, h2⟩ := h.mp.look hn.uf hp
    have hB := hidLL h2
    have hz := hidLL h0
    clear h hn h0 h2 d2 hm hp
    go_enter Tryz.func103, Tryz.ntmps103
    go_wp2_with (first | (go_at_call 62; refine HK.out.mono ?_; rintro e w1 ⟨rfl, ew⟩; subst w1))
    go_ret2
    exact ⟨x, is, k, rfl, fun e => absurd e hz.out, fun _ => hB.out, rfl⟩
/-- An open branch: its node, the kids that are left, a sum. -/
structure Ent where
  nb : Nat
  no : Nat
  la : Option Addr
  lc : Nat
  ls : List It
  x : Int
  t : It
def encE : Enc Ent := ⟨fun e => [.pointer (some ⟨e.nb, e.no, none⟩), .slice e.la e.ls.length e.lc, .int .i64 e.x], 3, by decide, fun _ => rfl, fun _ u hu => by
  simp only [List.mem_cons, List.not_mem_nil, or_false] at hu
  rcases hu with rfl | rfl | rfl <;> rfl⟩
/-- What is left of the world when the map was written and blocks were made. -/
structure MpF (w w' : World) (mb : Nat) : Prop where
  os : w'.os = w.os
  tape : w'.tape = w.tape
  output : w'.output = w.output
  size : w.heap.size ≤ w'.heap.size
  block : ∀ k, k < w.heap.size → k ≠ mb → w'.heap[k]? = w.heap[k]?
theorem MpF.refl (w : World) (mb : Nat) : MpF w w mb := ⟨rfl, rfl, rfl, Nat.le_refl _, fun _ _ _ => rfl⟩
theorem MpF.trans {a b c : World} {mb : Nat} (h : MpF a b mb) (k : MpF b c mb) : MpF a c mb := ⟨k.os.trans h.os, k.tape.trans h.tape, k.output.trans h.output, Nat.le_trans h.size k.size, fun i hi hn => (k.block i (Nat.lt_of_lt_of_le hi h.size) hn).trans (h.block i hi hn)⟩
theorem MpF.of {w w' : World} {mb : Nat} (h : w.grownBy w' (some mb)) : MpF w w' mb := ⟨h.os, h.tape, h.output, h.size, fun k hk hn => h.block k hk (fun e => hn (by injection e))⟩
theorem MpF.new {w w' : World} {mb : Nat} (h : Below w.heap.size w w') : MpF w w' mb := ⟨h.os, h.tape, h.output, h.size, fun k hk _ => h.block k hk⟩
end Go.Proofs.YtpbolcjcmkmalaaGreatDoor
