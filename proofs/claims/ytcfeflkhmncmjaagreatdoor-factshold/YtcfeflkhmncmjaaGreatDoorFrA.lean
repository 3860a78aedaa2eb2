/-
  The reference's look, and nodes that are handed in: in memory.
-/
import Derived.Test.YtcfeflkhmncmjaaGreatDoorPlainA
import Derived.Test.YtcfeflkhmncmjaaGreatDoorViewA
import Derived.Test.YtcfeflkhmncmjaaGreatDoorToldA
import Derived.Test.YtcfeflkhmncmjaaGreatDoorLatA
import Derived.Test.YtcfeflkhmncmjaaGreatDoorRightA
namespace Go.Proofs.YtcfeflkhmncmjaaGreatDoor
open Go.RowKit

/-- The kids of a node can be read, and theirs. -/
inductive NR (w : World) : Option Addr → Nat → Tr → Prop
  | mk (ka : Option Addr) (kc : Nat) (t : Tr) (KA : Nat → Option Addr) (KC : Nat → Nat) (hl : t.kids.length ≤ 9223372036854775807) (hc : t.kids.length ≤ kc)
    (hk : ∀ i u, t.kids[i]? = some u → ∃ g o, ka = some ⟨g, o, none⟩ ∧ w.cell? ⟨g, o + i * 4, none⟩ = some (.string u.kind) ∧ w.cell? ⟨g, o + i * 4 + 1, none⟩ = some (.string u.word) ∧ w.cell? ⟨g, o + i * 4 + 2, none⟩ = some (.int .i64 u.num) ∧ w.cell? ⟨g, o + i * 4 + 3, none⟩ = some (.slice (KA i) u.kids.length (KC i)))
    (hr : ∀ i u, t.kids[i]? = some u → NR w (KA i) (KC i) u) : NR w ka kc t
theorem NR.step {w w' : World} {ka : Option Addr} {kc : Nat} {t : Tr} (h : NR w ka kc t) (hb : Below w.heap.size w w') : NR w' ka kc t := by
  induction h with
  | mk ka kc t KA KC hl hc hk hr ih =>
    refine .mk ka kc t KA KC hl hc (fun i u hu => ?_) ih
    obtain ⟨g, o, e, h0, h1, h2, h3⟩ := hk i u hu
    exact ⟨g, o, e, (hb.cell (p := ⟨g, o + i * 4, none⟩) (cell_lt h0)).trans h0, (hb.cell (p := ⟨g, o + i * 4 + 1, none⟩) (cell_lt h1)).trans h1, (hb.cell (p := ⟨g, o + i * 4 + 2, none⟩) (cell_lt h2)).trans h2, (hb.cell (p := ⟨g, o + i * 4 + 3, none⟩) (cell_lt h3)).trans h3⟩
theorem NR.lens {w : World} {ka : Option Addr} {kc : Nat} {t : Tr} (h : NR w ka kc t) : t.kids.length ≤ 9223372036854775807 ∧ t.kids.length ≤ kc := by
  cases h with
  | mk _ _ _ KA KC hl hc hk hr => exact ⟨hl, hc⟩
theorem NR.kid {w : World} {ka : Option Addr} {kc : Nat} {t : Tr} (h : NR w ka kc t) {i : Nat} {u : Tr} (hu : t.kids[i]? = some u) : ∃ g o ka' kc', ka = some ⟨g, o, none⟩ ∧ w.cell? ⟨g, o + i * 4, none⟩ = some (.string u.kind) ∧ w.cell? ⟨g, o + i * 4 + 1, none⟩ = some (.string u.word) ∧ w.cell? ⟨g, o + i * 4 + 2, none⟩ = some (.int .i64 u.num) ∧ w.cell? ⟨g, o + i * 4 + 3, none⟩ = some (.slice ka' u.kids.length kc') ∧ NR w ka' kc' u := by
  cases h with
  | mk _ _ _ KA KC hl hc hk hr =>
    obtain ⟨g, o, e, h0, h1, h2, h3⟩ := hk i u hu
    exact ⟨g, o, _, _, e, h0, h1, h2, h3, hr i u hu⟩
/-- A look of the reference's. -/
structure RLk (w : World) (bk bf : Nat) (who on known : Int) : Prop where
  l0 : w.cell? ⟨bk, 0, none⟩ = some (.pointer (some ⟨bf, 0, none⟩))
  l1 : w.cell? ⟨bk, 1, none⟩ = some (.int .i64 who)
  l2 : w.cell? ⟨bk, 2, none⟩ = some (.int .i64 on)
  l3 : w.cell? ⟨bk, 3, none⟩ = some (.int .i64 known)
  l4 : w.cell? ⟨bk, 4, none⟩ = some (.slice none 0 0)
  l5 : w.cell? ⟨bk, 5, none⟩ = some (.slice none 0 0)
  l6 : w.cell? ⟨bk, 6, none⟩ = some (.slice none 0 0)
  l7 : w.cell? ⟨bk, 7, none⟩ = some (.int .i64 4)
theorem RLk.step {w w' : World} {bk bf : Nat} {who on known : Int} (h : RLk w bk bf who on known) (hb : Below w.heap.size w w') : RLk w' bk bf who on known :=
  have hx := cell_lt h.l0
  ⟨(hb.cell (p := ⟨bk, 0, none⟩) hx).trans h.l0, (hb.cell (p := ⟨bk, 1, none⟩) hx).trans h.l1, (hb.cell (p := ⟨bk, 2, none⟩) hx).trans h.l2, (hb.cell (p := ⟨bk, 3, none⟩) hx).trans h.l3, (hb.cell (p := ⟨bk, 4, none⟩) hx).trans h.l4, (hb.cell (p := ⟨bk, 5, none⟩) hx).trans h.l5, (hb.cell (p := ⟨bk, 6, none⟩) hx).trans h.l6, (hb.cell (p := ⟨bk, 7, none⟩) hx).trans h.l7⟩
def RFl (w : World) (bf : Nat) (L : List Fct) : Prop := ∃ B sv, FFile 55 B w bf L sv
theorem RFl.step {w w' : World} {bf : Nat} {L : List Fct} (h : RFl w bf L) (hb : Below w.heap.size w w') : RFl w' bf L := by
  obtain ⟨B, sv, h⟩ := h
  exact ⟨B, sv, h.bel hb⟩
/-- The look, and its node in a block of its own. -/
structure RS (w0 w : World) (ab bk bf : Nat) (L : List Fct) (who on known : Int) (t : Tr) (ka : Option Addr) (kc : Nat) : Prop where
  lk : RLk w bk bf who on known
  fl : RFl w bf L
  nr : NR w ka kc t
  n0 : w.cell? ⟨ab, 0, none⟩ = some (.string t.kind)
  n1 : w.cell? ⟨ab, 1, none⟩ = some (.string t.word)
  n2 : w.cell? ⟨ab, 2, none⟩ = some (.int .i64 t.num)
  n3 : w.cell? ⟨ab, 3, none⟩ = some (.slice ka t.kids.length kc)
  bel : Below w0.heap.size w0 w
theorem RS.step {w0 w w' : World} {ab bk bf : Nat} {L : List Fct} {who on known : Int} {t : Tr} {ka : Option Addr} {kc : Nat} (h : RS w0 w ab bk bf L who on known t ka kc) (hb : Below w.heap.size w w') : RS w0 w' ab bk bf L who on known t ka kc :=
  have hx := cell_lt h.n0
  ⟨h.lk.step hb, h.fl.step hb, h.nr.step hb, (hb.cell (p := ⟨ab, 0, none⟩) hx).trans h.n0, (hb.cell (p := ⟨ab, 1, none⟩) hx).trans h.n1, (hb.cell (p := ⟨ab, 2, none⟩) hx).trans h.n2, (hb.cell (p := ⟨ab, 3, none⟩) hx).trans h.n3, h.bel.trans (hb.mono h.bel.size)⟩
theorem RS.mk0 {w W : World} {bk bf : Nat} {L : List Fct} {who on known : Int} {t : Tr} {ka : Option Addr} {kc : Nat} (hf : RFl w bf L) (hl : RLk w bk bf who on known) (hn : NR w ka kc t) (hW : W = w.alloc (.cells #[.string t.kind, .string t.word, .int .i64 t.num, .slice ka t.kids.length kc] 25)) : RS w W w.heap.size bk bf L who on known t ka kc := by
  have hb : Below w.heap.size w W := by rw [hW]; exact (Below.refl _ _).alloc (Nat.le_refl _) _
  have hbk : W.heap[w.heap.size]? = some (.cells #[.string t.kind, .string t.word, .int .i64 t.num, .slice ka t.kids.length kc] 25 (0, 0)) := by rw [hW]; exact Go.Deep.blk_alloc_new w _
  refine ⟨hl.step hb, hf.step hb, hn.step hb, ?_, ?_, ?_, ?_, hb⟩
  · rw [cell_of_row _ _ 0 _ _ _ hbk]; rfl
  · rw [cell_of_row _ _ 1 _ _ _ hbk]; rfl
  · rw [cell_of_row _ _ 2 _ _ _ hbk]; rfl
  · rw [cell_of_row _ _ 3 _ _ _ hbk]; rfl
def resT : Rs → Value
  | .err c => .tuple #[.bool false, .int .i64 c]
  | .ok v => .tuple #[.bool (v == 1), .int .i64 0]
def resS : Rs → Value
  | .err c => .tuple #[.int .i64 0, .int .i64 c]
  | .ok v => .tuple #[.int .i64 v, .int .i64 0]
/-- What Truth tells of a node. -/
def TruthIs (L : List Fct) (on known : Int) (f : Nat) (t : Tr) : Prop := ∀ (w : World) (bk bf : Nat) (who : Int) (ka : Option Addr) (kc : Nat), RFl w bf L → RLk w bk bf who on known → NR w ka kc t →
  Calls Tryz.prog f #[.pointer (some ⟨bk, 0, none⟩), .agg #[.string t.kind, .string t.word, .int .i64 t.num, .slice ka t.kids.length kc]] w fun e w' => e = .returned (resT (ev (envOf L on known) t who false)) ∧ Below w.heap.size w w'
def SumIs (L : List Fct) (on known : Int) (f : Nat) (t : Tr) : Prop := ∀ (w : World) (bk bf : Nat) (who : Int) (ka : Option Addr) (kc : Nat), RFl w bf L → RLk w bk bf who on known → NR w ka kc t →
  Calls Tryz.prog f #[.pointer (some ⟨bk, 0, none⟩), .agg #[.string t.kind, .string t.word, .int .i64 t.num, .slice ka t.kids.length kc]] w fun e w' => e = .returned (resS (ev (envOf L on known) t who true)) ∧ Below w.heap.size w w'
theorem fold_err {k : Kd} {n : Int} : ∀ (rs : List Rs) (h : Nat) (val : Int) (c : Nat), foldR k n h val rs = .err c → c = 3 ∨ c = 9 ∨ .err c ∈ rs
  | [], h, val, c, e => by rw [foldR] at e; cases e
  | r :: rs, h, val, c, e => by
    cases r with
    | err c' => rw [foldR] at e; injection e with e; subst e; exact .inr (.inr (by simp))
    | ok x =>
      rw [foldR] at e
      cases hh : hearP k n h val x with
      | err c' =>
        rw [hh] at e
        injection e with e
        subst e
        unfold hearP chk at hh
        split at hh
        all_goals (split at hh)
        all_goals first
          | (cases hh; exact .inl rfl)
          | (cases hh; exact .inr (.inl rfl))
          | cases hh
          | (split at hh
             all_goals first
               | (cases hh; exact .inl rfl)
               | (cases hh; exact .inr (.inl rfl))
               | cases hh)
      | ok v' =>
        rw [hh] at e
        rcases fold_err rs (h + 1) v' c e with h1 | h1 | h1
        · exact .inl h1
        · exact .inr (.inl h1)
        · exact .inr (.inr (List.mem_cons_of_mem _ h1))
theorem asks_mem2 {t : Tr} {sum : Bool} {fs : List (Int → Bool → Rs)} : ∀ (os : List Int) (i : Nat) (r : Rs), r ∈ asks t sum fs i os → ∃ j o, j ≤ t.kids.length - 1 ∧ r = (fs.getD j fun _ _ => .err 0) o (sum || t.kd.isOrd)
  | [], _, _, h => by simp [asks] at h
  | x :: os, i, r, h => by
    rw [asks] at h
    rcases List.mem_cons.1 h with rfl | h
    · exact ⟨_, _, Nat.min_le_right _ _, rfl⟩
    · exact asks_mem2 os (i + 1) r h
theorem ev_err {E : Env} : ∀ (n : Nat) (t : Tr), SizeOf.sizeOf t = n → ∀ who sum c, ev E t who sum = .err c → c = 3 ∨ c = 9 := by
  intro n
  induction n using Nat.strongRecOn with
  | ind n ih =>
    intro t hn who sum c h
    cases hr : rightB sum t with
    | false => rw [ev_wrong hr] at h; injection h with h; omega
    | true =>
      cases hv : valB (startV E t who sum) with
      | false => rw [ev_over hr hv] at h; injection h with h; omega
      | true =>
        rw [ev_right hr hv] at h
        rcases fold_err _ _ _ _ h with h1 | h1 | h1
        · exact .inl h1
        · exact .inr h1
        · obtain ⟨j, o, hj, e⟩ := asks_mem2 _ _ _ h1
          have h0 : 0 < (ofL E t who).length := by
            rw [← asks_len t sum (t.kids.map (ev E)) (ofL E t who) 0]
            exact List.length_pos_of_mem h1
          have hp := right_kids (E := E) hr who (List.getElem?_eq_getElem h0)
          have hg : t.kids[j]? = some t.kids[j] := List.getElem?_eq_getElem (by omega)
          rw [List.getD_eq_getElem?_getD, List.getElem?_map, hg] at e
          exact ih _ (by rw [← hn]; exact kid_size hg) _ rfl o _ c e.symm
theorem ev_err' {E : Env} {t : Tr} {who : Int} {sum : Bool} {c : Nat} (h : ev E t who sum = .err c) : c = 3 ∨ c = 9 := ev_err _ t rfl who sum c h
theorem ev_errz {E : Env} {t : Tr} {who : Int} {sum : Bool} {c : Nat} (h : ev E t who sum = .err c) : (0 : Int) < (c : Int) := by have := ev_err' h; omega
end Go.Proofs.YtcfeflkhmncmjaaGreatDoor
namespace Go.Proofs.YtcfeflkhmncmjaaGreatDoor
open Go.RowKit

theorem bit_b {v : Int} (h : Bit v) : ∃ b : Bool, v = trI b := by
  rcases h with rfl | rfl
  · exact ⟨false, rfl⟩
  · exact ⟨true, rfl⟩
section
variable {L : List Fct} {on known : Int} {f : Nat} {u : Tr} {w : World} {bk bf : Nat} {who : Int} {ka : Option Addr} {kc : Nat}
theorem TruthIs.err (h : TruthIs L on known f u) (hf : RFl w bf L) (hl : RLk w bk bf who on known) (hn : NR w ka kc u) {c : Nat} (he : ev (envOf L on known) u who false = .err c) :
    Calls Tryz.prog f #[.pointer (some ⟨bk, 0, none⟩), .agg #[.string u.kind, .string u.word, .int .i64 u.num, .slice ka u.kids.length kc]] w fun e w' => e = .returned (.tuple #[.bool false, .int .i64 c]) ∧ Below w.heap.size w w' := by
  have := h w bk bf who ka kc hf hl hn
  rw [he] at this
  exact this
theorem TruthIs.ok (h : TruthIs L on known f u) (hf : RFl w bf L) (hl : RLk w bk bf who on known) (hn : NR w ka kc u) {b : Bool} (he : ev (envOf L on known) u who false = .ok (trI b)) :
    Calls Tryz.prog f #[.pointer (some ⟨bk, 0, none⟩), .agg #[.string u.kind, .string u.word, .int .i64 u.num, .slice ka u.kids.length kc]] w fun e w' => e = .returned (.tuple #[.bool b, .int .i64 0]) ∧ Below w.heap.size w w' := by
  have := h w bk bf who ka kc hf hl hn
  rw [he] at this
  cases b <;> exact this
theorem SumIs.err (h : SumIs L on known f u) (hf : RFl w bf L) (hl : RLk w bk bf who on known) (hn : NR w ka kc u) {c : Nat} (he : ev (envOf L on known) u who true = .err c) :
    Calls Tryz.prog f #[.pointer (some ⟨bk, 0, none⟩), .agg #[.string u.kind, .string u.word, .int .i64 u.num, .slice ka u.kids.length kc]] w fun e w' => e = .returned (.tuple #[.int .i64 0, .int .i64 c]) ∧ Below w.heap.size w w' := by
  have := h w bk bf who ka kc hf hl hn
  rw [he] at this
  exact this
theorem SumIs.ok (h : SumIs L on known f u) (hf : RFl w bf L) (hl : RLk w bk bf who on known) (hn : NR w ka kc u) {v : Int} (he : ev (envOf L on known) u who true = .ok v) :
    Calls Tryz.prog f #[.pointer (some ⟨bk, 0, none⟩), .agg #[.string u.kind, .string u.word, .int .i64 u.num, .slice ka u.kids.length kc]] w fun e w' => e = .returned (.tuple #[.int .i64 v, .int .i64 0]) ∧ Below w.heap.size w w' := by
  have := h w bk bf who ka kc hf hl hn
  rw [he] at this
  exact this
end
set_option maxHeartbeats 8000000 in
set_option maxRecDepth 20000 in
theorem truth_oa {L : List Fct} {on known : Int} {t : Tr} (hk : t.kd = .or ∨ t.kd = .and) (ih : ∀ (i : Nat) (u : Tr), t.kids[i]? = some u → TruthIs L on known 10 u) : TruthIs L on known 10 t := by
  intro w bk bf who ka kc hf hl hn
  obtain ⟨W, hW⟩ : ∃ W, W = w.alloc (.cells #[.string t.kind, .string t.word, .int .i64 t.num, .slice ka t.kids.length kc] 25) := ⟨_, rfl⟩
  obtain ⟨ab, hab⟩ : ∃ ab, ab = w.heap.size := ⟨_, rfl⟩
  have HS : Hid (RS w W ab bk bf L who on known t ka kc) := by rw [hab]; exact RS.mk0 hf hl hn hW
  have n0 := HS.out.n0
  have n3 := HS.out.n3
  have HW := hidLL (And.intro hW hab)
  have q0 := kq_or t.kind
  have q1 := kq_and t.kind
  have hkd : t.kd = kdOf t.kind := rfl
  clear hf hl hn hW hab
  by_cases h2 : t.kids.length = 2
  · obtain ⟨a, b, hab⟩ := two_len h2
    have ha : t.kids[0]? = some a := by rw [hab]; rfl
    have hb : t.kids[1]? = some b := by rw [hab]; rfl
    obtain ⟨g, o, ka0, kc0, rfl, a0, a1, a2, a3, har⟩ := HS.out.nr.kid ha
    obtain ⟨g', o', kb0, kcb, e', b0, b1, b2, b3, hbr⟩ := HS.out.nr.kid hb
    injection e' with e'; injection e' with e1 e2
    subst e1 e2
    rw [h2] at n3
    have HL2 := hidLL h2
    have HI := hidLL ih
    have HC : Hid (∀ w2, Below W.heap.size W w2 → RS w w2 ab bk bf L who on known t (some ⟨g, o, none⟩) kc ∧ w2.cell? ⟨g, o + 4, none⟩ = some (.string b.kind) ∧ w2.cell? ⟨g, o + 5, none⟩ = some (.string b.word) ∧ w2.cell? ⟨g, o + 6, none⟩ = some (.int .i64 b.num) ∧ w2.cell? ⟨g, o + 7, none⟩ = some (.slice kb0 b.kids.length kcb) ∧ NR w2 kb0 kcb b) := fun w2 h => by
      obtain h9 := hbr.step h
      refine ⟨HS.out.step h, (h.cell (p := ⟨g, o + 4, none⟩) (cell_lt b0)).trans b0, (h.cell (p := ⟨g, o + 5, none⟩) (cell_lt b0)).trans b1, (h.cell (p := ⟨g, o + 6, none⟩) (cell_lt b0)).trans b2, (h.cell (p := ⟨g, o + 7, none⟩) (cell_lt b0)).trans b3, h9⟩
    simp only [Nat.zero_mul, Nat.add_zero] at a0 a1 a2 a3
    rw [ev_oa hk hab]
    have HR := hidLL har
    have HAB := hidLL (And.intro ha hb)
    clear ih b0 b1 b2 b3 hbr har hab h2 ha hb
    cases hea : ev (envOf L on known) a who false with
    | err c =>
      have HA := hidLL ((HI.out 0 a HAB.out.1).err HS.out.fl HS.out.lk HR.out hea)
      have hcz := ev_errz hea
      rw [show ∀ r f, bind2 (.err c) r f = .err c from fun _ _ => rfl]
      clear hea
      rcases hk with hk | hk <;> rw [← hkd, hk] at q0 q1 <;> simp only [reduceCtorEq, decide_false, decide_true] at q0 q1 <;> clear hk hkd
      all_goals (
        go_enter Tryz.func10, Tryz.ntmps10
        go_upto_region 1 with fail
        rw [← HW.out.1, ← HW.out.2]
        go_wp2_with (go_at_call 10; refine HA.out.mono ?_; rintro e w2 ⟨rfl, hb2⟩; (have HS2 := hidLL (HC.out w2 hb2)); clear hb2)
        go_ret2
        exact ⟨rfl, HS2.out.1.bel⟩)
    | ok x =>
      obtain ⟨bx, rfl⟩ := bit_b (ev_bit' hea)
      have HA := hidLL ((HI.out 0 a HAB.out.1).ok HS.out.fl HS.out.lk HR.out hea)
      cases heb : ev (envOf L on known) b who false with
      | err c =>
        have HB : Hid (∀ w2, Below W.heap.size W w2 → Calls Tryz.prog 10 #[.pointer (some ⟨bk, 0, none⟩), .agg #[.string b.kind, .string b.word, .int .i64 b.num, .slice kb0 b.kids.length kcb]] w2 fun e w' => e = .returned (.tuple #[.bool false, .int .i64 c]) ∧ Below w2.heap.size w2 w') := fun w2 h => (HI.out 1 b HAB.out.2).err (HC.out w2 h).1.fl (HC.out w2 h).1.lk (HC.out w2 h).2.2.2.2.2 heb
        have hcz := ev_errz heb
        rw [show ∀ f, bind2 (.ok (trI bx)) (.err c) f = .err c from fun _ => rfl]
        clear hea heb
        rcases hk with hk | hk <;> rw [← hkd, hk] at q0 q1 <;> simp only [reduceCtorEq, decide_false, decide_true] at q0 q1 <;> clear hk hkd
        all_goals (
          go_enter Tryz.func10, Tryz.ntmps10
          go_upto_region 1 with fail
          rw [← HW.out.1, ← HW.out.2]
          go_wp2_with (first | (go_at_call 10; refine HA.out.mono ?_; rintro e w2 ⟨rfl, hb2⟩; (have HS2 := hidLL (HC.out w2 hb2)); (have HB2 := hidLL (HB.out w2 hb2)); (obtain ⟨c0, c1, c2, c3, _⟩ := HS2.out.2); (have m0 := HS2.out.1.n0); (have m3 := HS2.out.1.n3); rw [HL2.out] at m3; clear hb2 HA) | (go_at_call 10; refine HB2.out.mono ?_; rintro e w3 ⟨rfl, hb3⟩; (have HS3 := hidLL (HS2.out.1.step hb3)); clear hb3))
          go_ret2
          exact ⟨rfl, HS3.out.bel⟩)
      | ok y =>
        obtain ⟨by', rfl⟩ := bit_b (ev_bit' heb)
        have HB : Hid (∀ w2, Below W.heap.size W w2 → Calls Tryz.prog 10 #[.pointer (some ⟨bk, 0, none⟩), .agg #[.string b.kind, .string b.word, .int .i64 b.num, .slice kb0 b.kids.length kcb]] w2 fun e w' => e = .returned (.tuple #[.bool by', .int .i64 0]) ∧ Below w2.heap.size w2 w') := fun w2 h => (HI.out 1 b HAB.out.2).ok (HC.out w2 h).1.fl (HC.out w2 h).1.lk (HC.out w2 h).2.2.2.2.2 heb
        have HV : Hid (resT (bind2 (.ok (trI bx)) (.ok (trI by')) fun x y => .ok (if t.kd = .or then Max.max x y else Min.min x y)) = .tuple #[.bool (if t.kd = .or then bx || by' else bx && by'), .int .i64 0]) := by
          show _ = _
          rcases hk with hk | hk <;> rw [hk] <;> cases bx <;> cases by' <;> rfl
        rw [HV.out]
        clear hea heb
        rcases hk with hk | hk
        · rw [if_pos hk]
          rw [← hkd, hk] at q0 q1
          simp only [reduceCtorEq, decide_false, decide_true] at q0 q1
          clear hk hkd
          cases bx
          all_goals (
            go_enter Tryz.func10, Tryz.ntmps10
            go_upto_region 1 with fail
            rw [← HW.out.1, ← HW.out.2]
            go_wp2_with (first | (go_at_call 10; refine HA.out.mono ?_; rintro e w2 ⟨rfl, hb2⟩; (have HS2 := hidLL (HC.out w2 hb2)); (have HB2 := hidLL (HB.out w2 hb2)); (obtain ⟨c0, c1, c2, c3, _⟩ := HS2.out.2); (have m0 := HS2.out.1.n0); (have m3 := HS2.out.1.n3); rw [HL2.out] at m3; clear hb2 HA) | (go_at_call 10; refine HB2.out.mono ?_; rintro e w3 ⟨rfl, hb3⟩; (have HS3 := hidLL (HS2.out.1.step hb3)); (have k0 := HS3.out.n0); clear hb3))
            go_ret2
            exact ⟨rfl, HS3.out.bel⟩)
        · rw [if_neg (by rw [hk]; decide)]
          rw [← hkd, hk] at q0 q1
          simp only [reduceCtorEq, decide_false, decide_true] at q0 q1
          clear hk hkd
          cases bx
          all_goals (
            go_enter Tryz.func10, Tryz.ntmps10
            go_upto_region 1 with fail
            rw [← HW.out.1, ← HW.out.2]
            go_wp2_with (first | (go_at_call 10; refine HA.out.mono ?_; rintro e w2 ⟨rfl, hb2⟩; (have HS2 := hidLL (HC.out w2 hb2)); (have HB2 := hidLL (HB.out w2 hb2)); (obtain ⟨c0, c1, c2, c3, _⟩ := HS2.out.2); (have m0 := HS2.out.1.n0); (have m3 := HS2.out.1.n3); rw [HL2.out] at m3; clear hb2 HA) | (go_at_call 10; refine HB2.out.mono ?_; rintro e w3 ⟨rfl, hb3⟩; (have HS3 := hidLL (HS2.out.1.step hb3)); (have k0 := HS3.out.n0); clear hb3))
            go_ret2
            exact ⟨rfl, HS3.out.bel⟩)
  · rw [ev_oa_bad hk h2]
    have hlen := HS.out.nr.lens
    have hz : ¬ ((t.kids.length : Int) = 2) := by omega
    have hz2 : ((t.kids.length : Int) != 2) = true := by simpa using hz
    rcases hk with hk | hk <;> rw [← hkd, hk] at q0 q1 <;> simp only [reduceCtorEq, decide_false, decide_true] at q0 q1 <;> clear hk hkd ih
    all_goals (
      go_enter Tryz.func10, Tryz.ntmps10
      go_upto_region 1 with fail
      rw [← HW.out.1, ← HW.out.2]
      go_wp2
      go_ret2
      exact ⟨rfl, HS.out.bel⟩)
end Go.Proofs.YtcfeflkhmncmjaaGreatDoor
namespace Go.Proofs.YtcfeflkhmncmjaaGreatDoor
open Go.RowKit

theorem IRead.form {w : World} {v : Value} {xs : List Int} (h : IRead w v xs) : ∃ a n c, v = .slice a n c ∧ n = xs.length ∧ n ≤ c := by
  rcases h with ⟨rfl, rfl⟩ | ⟨g, c, rfl, hc, _⟩
  · exact ⟨_, _, _, rfl, rfl, Nat.le_refl _⟩
  · exact ⟨_, _, _, rfl, rfl, hc⟩
theorem IRead.at {w : World} {a : Option Addr} {n c : Nat} {xs : List Int} (h : IRead w (.slice a n c) xs) {j : Nat} {x : Int} (hx : xs[j]? = some x) : ∃ g, a = some ⟨g, 0, none⟩ ∧ w.cell? ⟨g, j, none⟩ = some (.int .i64 x) := by
  rcases h with ⟨_, rfl⟩ | ⟨g, c', e, hc, h⟩
  · simp at hx
  · injection e with e1 e2 e3
    exact ⟨g, e1, h j x hx⟩
section
variable {w0 w : World} {ab bk bf : Nat} {L : List Fct} {who on known : Int} {t : Tr} {ka : Option Addr} {kc : Nat}
theorem RS.value (h : RS w0 w ab bk bf L who on known t ka kc) (hl5 : L.length ≤ 500) (o : Int) (nm : ByteArray) : Calls Tryz.prog 24 #[.pointer (some ⟨bf, 0, none⟩), .int .i64 o, .string nm, .int .i64 on, .int .i64 known] w fun e w' => e = .returned (.tuple #[.int .i64 (valL L o nm on known).1, .bool (valL L o nm on known).2]) ∧ Below w.heap.size w w' ∧ RS w0 w' ab bk bf L who on known t ka kc := by
  obtain ⟨B, sv, hf⟩ := h.fl
  refine (value_r hf hl5 o nm on known).mono ?_
  rintro e w' ⟨rfl, hb⟩
  exact ⟨rfl, hb, h.step hb⟩
theorem RS.others (h : RS w0 w ab bk bf L who on known t ka kc) (hl5 : L.length ≤ 500) (o : Int) (nm : ByteArray) : Calls Tryz.prog 31 #[.pointer (some ⟨bf, 0, none⟩), .int .i64 o, .string nm, .int .i64 on, .int .i64 known] w fun e w' => ∃ a n c, e = .returned (.slice a n c) ∧ n = (othersL L o nm on known).length ∧ n ≤ c ∧ IRead w' (.slice a n c) (othersL L o nm on known) ∧ Below w.heap.size w w' ∧ RS w0 w' ab bk bf L who on known t ka kc := by
  obtain ⟨B, sv, hf⟩ := h.fl
  refine (others_r hf hl5 o nm on known).mono ?_
  rintro e w' ⟨sv', rfl, hr, hb⟩
  obtain ⟨a, n, c, rfl, hn, hc⟩ := hr.form
  exact ⟨a, n, c, rfl, hn, hc, hr, hb, h.step hb⟩
end
end Go.Proofs.YtcfeflkhmncmjaaGreatDoor
