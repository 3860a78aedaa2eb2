/-
  A look begins with a node.
-/
import Derived.Test.YtcfeflkhmncmjaaGreatDoorRowA
import Derived.Deep.CutBlock
namespace Go.Proofs.YtcfeflkhmncmjaaGreatDoor
open Go.RowKit

/-- While a question is made. -/
structure BF (w0 w1 W : World) (bl bx bm bv bvm bf : Nat) (L : List Fct) (on known : Int) (v : Value) (m : Met) (fs : List Fr) (ab qb : Nat) (a : Addr) (who : Int) (sum : Bool) (ofv : Value) (val : Int) : Prop where
  lk : LK w0 w1 W bl bx bm bv bvm bf L on known v m fs (fun k => k = qb)
  abk : W.heap[ab]? = some (.cells #[.pointer (some a), .int .i64 who, .bool sum] 88 (0, 0))
  qbk : W.heap[qb]? = some (.cells #[.pointer (some a), .int .i64 who, .bool sum, ofv, .int .i64 0, .int .i64 val] 129 (0, 0))
  loa : w1.heap.size ≤ ab
  ne : ab ≠ qb
  na : v.ownBlock ≠ some ab
section
variable {w0 w1 W W' : World} {bl bx bm bv bvm bf : Nat} {L : List Fct} {on known : Int} {v : Value} {m : Met} {fs : List Fr} {ab qb : Nat} {a : Addr} {who : Int} {sum : Bool} {ofv : Value} {val : Int}
theorem BF.fresh (h : BF w0 w1 W bl bx bm bv bvm bf L on known v m fs ab qb a who sum ofv val) (f : FrX (fun _ => False) W W') : BF w0 w1 W' bl bx bm bv bvm bf L on known v m fs ab qb a who sum ofv val :=
  ⟨h.lk.fresh f, (f.block ab (Array.getElem?_eq_some_iff.1 h.abk).1 id).trans h.abk, (f.block qb (Array.getElem?_eq_some_iff.1 h.qbk).1 id).trans h.qbk, h.loa, h.ne, h.na⟩
theorem BF.drew (h : BF w0 w1 W bl bx bm bv bvm bf L on known v m fs ab qb a who sum ofv val) : BF w0 w1 W.drew bl bx bm bv bvm bf L on known v m fs ab qb a who sum ofv val := h.fresh (FrX.refl _ _).drew
theorem BF.loq (h : BF w0 w1 W bl bx bm bv bvm bf L on known v m fs ab qb a who sum ofv val) : w1.heap.size ≤ qb := h.lk.qlo qb rfl
theorem BF.view (h : BF w0 w1 W bl bx bm bv bvm bf L on known v m fs ab qb a who sum ofv val) (hv : VS w0 W w1.heap.size (fun k => v.ownBlock = some k ∨ k = qb) bv bvm bf L on known W') : BF w0 w1 W' bl bx bm bv bvm bf L on known v m fs ab qb a who sum ofv val := by
  have h1 := h.lk.vw.ltm
  have h2 := h.loa
  have h3 := h.loq
  exact ⟨h.lk.view hv, (hv.fr.block ab (Array.getElem?_eq_some_iff.1 h.abk).1 (by show ab ≠ bvm; omega)).trans h.abk, (hv.fr.block qb (Array.getElem?_eq_some_iff.1 h.qbk).1 (by show qb ≠ bvm; omega)).trans h.qbk, h.loa, h.ne, h.na⟩
theorem BF.set3 (h : BF w0 w1 W bl bx bm bv bvm bf L on known v m fs ab qb a who sum ofv val) (u : Value) : BF w0 w1 (W.setCell ⟨qb, 3, none⟩ u) bl bx bm bv bvm bf L on known v m fs ab qb a who sum u val :=
  ⟨h.lk.write rfl u, (heap_setCell_other _ _ _ _ h.ne).trans h.abk, by rw [heap_setCell_same _ _ _ _ _ _ h.qbk]; rfl, h.loa, h.ne, h.na⟩
theorem BF.set5 (h : BF w0 w1 W bl bx bm bv bvm bf L on known v m fs ab qb a who sum ofv val) (x : Int) : BF w0 w1 (W.setCell ⟨qb, 5, none⟩ (.int .i64 x)) bl bx bm bv bvm bf L on known v m fs ab qb a who sum ofv x :=
  ⟨h.lk.write rfl _, (heap_setCell_other _ _ _ _ h.ne).trans h.abk, by rw [heap_setCell_same _ _ _ _ _ _ h.qbk]; rfl, h.loa, h.ne, h.na⟩
theorem BF.a0 (h : BF w0 w1 W bl bx bm bv bvm bf L on known v m fs ab qb a who sum ofv val) : W.cell? ⟨ab, 0, none⟩ = some (.pointer (some a)) := by rw [cell_of_row _ ab 0 _ _ _ h.abk]; rfl
theorem BF.a1 (h : BF w0 w1 W bl bx bm bv bvm bf L on known v m fs ab qb a who sum ofv val) : W.cell? ⟨ab, 1, none⟩ = some (.int .i64 who) := by rw [cell_of_row _ ab 1 _ _ _ h.abk]; rfl
theorem BF.a2 (h : BF w0 w1 W bl bx bm bv bvm bf L on known v m fs ab qb a who sum ofv val) : W.cell? ⟨ab, 2, none⟩ = some (.bool sum) := by rw [cell_of_row _ ab 2 _ _ _ h.abk]; rfl
theorem BF.q (h : BF w0 w1 W bl bx bm bv bvm bf L on known v m fs ab qb a who sum ofv val) {i : Nat} {u : Value} (hi : #[Value.pointer (some a), .int .i64 who, .bool sum, ofv, .int .i64 0, .int .i64 val][i]? = some u) : W.cell? ⟨qb, i, none⟩ = some u := by rw [cell_of_row _ qb i _ _ _ h.qbk]; exact hi
theorem BF.qf (h : BF w0 w1 W bl bx bm bv bvm bf L on known v m fs ab qb a who sum ofv val) (i : Nat) : W.frozen? ⟨qb, i, none⟩ = false := by simp [World.frozen?, h.qbk]
end
/-- What comes of a beginning. -/
def BegR (w0 w1 : World) (bl bx bm bv bvm bf : Nat) (L : List Fct) (on known : Int) (p : Nat → Addr) (x : Ex) (e : Ending) (w' : World) : Prop :=
  match x with
  | .err c => e = .returned (errV p c) ∧ Below w0.heap.size w0 w'
  | .ok s => e = .returned .nilIface ∧ ∃ v', LK w0 w1 w' bl bx bm bv bvm bf L on known v' s.met s.opn.reverse (fun _ => False)
theorem Laid.on0 {w0 w : World} {p : Nat → Addr} (h : Laid w0 p) (hb : Below w0.heap.size w0 w) : Laid w p := h.below hb
theorem told_p {w0 w : World} {B : Nat} {Z S : Nat → Prop} {bl bx bv bvm bf : Nat} {L : List Fct} {on known : Int} {a : Addr} {t : Tr} (hb : LB w bl bx bv) (h : VW w0 w B Z bv bvm bf L on known) (hZ : ∀ k, Z k → k < w.heap.size) (hS : ∀ k, S k → k ≠ bvm) (hnl : bl ≠ bvm) (hnx : bx ≠ bvm) (hN : NdAt w S a t) (who : Int) (sum : Bool) (hR : rightB sum t = true)
    (hK : t.kd = .name ∨ t.kd = .number ∨ t.kd = .count ∨ t.kd = .total) :
    Calls Tryz.prog 66 #[.pointer (some ⟨bl, 0, none⟩), .agg #[.pointer (some a), .int .i64 who, .bool sum]] w (ToldIs w0 w B Z bv bvm bf L on known (startV (envOf L on known) t who sum)) := by
  rcases hK with hk | hk | hk | hk
  · exact told_a hb h hZ hS hnl hnx hN who sum (.inl hk)
  · exact told_a hb h hZ hS hnl hnx hN who sum (.inr (.inl hk))
  · exact told_a hb h hZ hS hnl hnx hN who sum (.inr (.inr hk))
  · exact told_t hb h hZ hS hnl hnx hN who sum hR hk
theorem right_len {sum : Bool} {t : Tr} (h : rightB sum t = true) (g1 : ¬ (t.kd = .some ∨ t.kd = .every)) (g2 : ¬ (t.kd = .name ∨ t.kd = .number ∨ t.kd = .count ∨ t.kd = .total)) : t.kids.length = 1 ∨ t.kids.length = 2 := by
  unfold rightB at h
  split at h
  · cases h
  · rename_i m hm
    simp only [Bool.and_eq_true, decide_eq_true_eq] at h
    rw [h.1.1]
    unfold kidsN at hm
    cases hk : t.kd <;> rw [hk] at hm g1 g2 <;> cases sum <;> simp [kidsS, kidsC] at hm g1 g2 <;> omega
theorem own_rd {w w' : World} {B C : Nat} {Z : Nat → Prop} {sa : Option Addr} {sn sc : Nat} {xs : List Int} (h : IOwn B w' (.slice sa sn sc) xs) (hl : xs.length ≤ 1000) (hz : ∀ k, Z k → k < B) (hC : C ≤ w.heap.size) (hB : w.heap.size ≤ B) : RdS intE w' (fun k => C ≤ k ∧ k < w'.heap.size ∧ ¬ Z k) (SlV.v ⟨sa, sn, sc⟩) xs := by
  obtain ⟨⟨ta, tn, tc⟩, e, h1⟩ := h.rdS hl
  injection e with e1 e2 e3
  subst e1 e2 e3
  exact h1.mono fun k hk => ⟨by have := hk.1; omega, hk.2, fun e => by have := hz k e; have := hk.1; omega⟩
/-- What the question is asked of, and what its value is at first. -/
structure BR (w0 w1 : World) (bl bx bm bv bvm bf : Nat) (L : List Fct) (on known : Int) (v : Value) (m : Met) (fs : List Fr) (ab qb : Nat) (a : Addr) (t : Tr) (who : Int) (sum : Bool) (s : SlV) (val : Int) (W : World) : Prop where
  bf : BF w0 w1 W bl bx bm bv bvm bf L on known v m fs ab qb a who sum (.slice s.a s.n s.c) val
  of : RdS intE W (fun k => k < W.heap.size ∧ v.ownBlock ≠ some k ∧ w1.heap.size ≤ k ∧ ¬ k = qb) s.v (ofL (envOf L on known) t who)
  val : startV (envOf L on known) t who sum = if t.kd = .and ∨ t.kd = .every then 1 else val
theorem BR.oth {w0 w1 W : World} {bl bx bm bv bvm bf : Nat} {L : List Fct} {on known : Int} {v : Value} {m : Met} {fs : List Fr} {ab qb : Nat} {a : Addr} {t : Tr} {who : Int} {sum : Bool} {ofv : Value} {val : Int} {s : SlV} (h : BF w0 w1 W bl bx bm bv bvm bf L on known v m fs ab qb a who sum ofv val) (hr : RdS intE W (fun k => w1.heap.size ≤ k ∧ k < W.heap.size ∧ ¬ (v.ownBlock = some k ∨ k = qb)) s.v (ofL (envOf L on known) t who)) (hv : startV (envOf L on known) t who sum = if t.kd = .and ∨ t.kd = .every then 1 else val) :
    BR w0 w1 bl bx bm bv bvm bf L on known v m fs ab qb a t who sum s val (W.setCell ⟨qb, 3, none⟩ (.slice s.a s.n s.c)) :=
  ⟨h.set3 _, hr.on fun k hk => ⟨⟨by simp; exact hk.2.1, fun e => hk.2.2 (.inl e), hk.1, fun e => hk.2.2 (.inr e)⟩, heap_setCell_other _ _ _ _ (fun e => hk.2.2 (.inr e))⟩, hv⟩
theorem BR.leaf {w0 w1 W : World} {bl bx bm bv bvm bf : Nat} {L : List Fct} {on known : Int} {v : Value} {m : Met} {fs : List Fr} {ab qb : Nat} {a : Addr} {t : Tr} {who : Int} {sum : Bool} {val x : Int} (h : BF w0 w1 W bl bx bm bv bvm bf L on known v m fs ab qb a who sum (.slice none 0 0) val) (ho : ofL (envOf L on known) t who = []) (hk : ¬ (t.kd = .and ∨ t.kd = .every)) (hx : startV (envOf L on known) t who sum = x) :
    BR w0 w1 bl bx bm bv bvm bf L on known v m fs ab qb a t who sum ⟨none, 0, 0⟩ x (W.setCell ⟨qb, 5, none⟩ (.int .i64 x)) :=
  ⟨h.set5 x, by rw [ho]; exact RdS.nil0 _ _ _ _, by rw [hx, if_neg hk]⟩
end Go.Proofs.YtcfeflkhmncmjaaGreatDoor
namespace Go.Proofs.YtcfeflkhmncmjaaGreatDoor
open Go.RowKit

set_option maxHeartbeats 16000000 in
set_option maxRecDepth 20000 in
theorem begin_p {w0 w1 w : World} {bl bx bm bv bvm bf : Nat} {L : List Fct} {on known : Int} {v : Value} {m : Met} {fs : List Fr} {p : Nat → Addr} (h : LK w0 w1 w bl bx bm bv bvm bf L on known v m fs (fun _ => False)) (hL : Laid w0 p) {a : Addr} {t : Tr} (hN : NdAt w1 (SN w1 bl bm bvm) a t) (who : Int) (sum : Bool) (hfl : fs.length ≤ 1000) :
    Calls Tryz.prog 53 #[.pointer (some ⟨bl, 0, none⟩), .agg #[.pointer (some a), .int .i64 who, .bool sum]] w (BegR w0 w1 bl bx bm bv bvm bf L on known p (beginP (envOf L on known) a t who sum ⟨fs.reverse, m⟩)) := by
  obtain ⟨ab, hab⟩ : ∃ ab, ab = w.heap.size := ⟨_, rfl⟩
  obtain ⟨W, hW⟩ : ∃ W, W = w.alloc (.cells #[.pointer (some a), .int .i64 who, .bool sum] 88) := ⟨_, rfl⟩
  have hbk : W.heap[ab]? = some (.cells #[.pointer (some a), .int .i64 who, .bool sum] 88 (0, 0)) := by rw [hW, hab]; exact Go.Deep.blk_alloc_new w _
  have hlW : LK w0 w1 W bl bx bm bv bvm bf L on known v m fs (fun _ => False) := by rw [hW]; exact h.fresh ((FrX.refl _ _).alloc _)
  have hnW := hlW.node hN
  have HR := hidLL (isRight_p hnW who sum)
  have a0 : W.cell? ⟨ab, 0, none⟩ = some (.pointer (some a)) := by rw [cell_of_row _ ab 0 _ _ _ hbk]; rfl
  have a1 : W.cell? ⟨ab, 1, none⟩ = some (.int .i64 who) := by rw [cell_of_row _ ab 1 _ _ _ hbk]; rfl
  have a2 : W.cell? ⟨ab, 2, none⟩ = some (.bool sum) := by rw [cell_of_row _ ab 2 _ _ _ hbk]; rfl
  have HW := hidLL (And.intro hW hab)
  have HN := hidLL hN
  have HL := hidLL hL
  have HK := hidLL hlW
  have HBk := hidLL hbk
  have hso := h.sz
  have hnow : v.ownBlock ≠ some ab := fun e => by have := (h.row.lt e).2; omega
  have hloa : w1.heap.size ≤ ab := by omega
  have hrow := h.row.any3
  clear h hN hL hbk hlW hnW hW hab hso
  unfold beginP
  cases hr : rightB sum t with
  | false =>
    rw [if_pos rfl]
    rw [hr] at HR
    go_enter Tryz.func53, Tryz.ntmps53
    go_upto_region 1 with fail
    rw [← HW.out.1, ← HW.out.2]
    go_upto_region 2 with (go_at_call 64; refine HR.out.mono ?_; rintro e w2 ⟨rfl, hb2⟩)
    have hbel : Below w0.heap.size w0 w2 := HK.out.vw.bel.trans (hb2.mono HK.out.vw.bel.size)
    have g8 : w2.cell? ⟨2, 0, none⟩ = some (.iface 193 (.pointer (some (p 8)))) := (HL.out.on0 hbel).cell 8 (by decide)
    have HB := hidLL hbel
    clear hbel hb2
    go_wp2
    go_ret
    exact ⟨rfl, HB.out⟩
  | true =>
    rw [if_neg (by decide)]
    rw [hr] at HR
    generalize hRX : (if valB (startV (envOf L on known) t who sum) = false then Ex.err 3 else _) = RX
    have HRX := hidLL hRX
    clear hRX
    go_enter Tryz.func53, Tryz.ntmps53
    go_upto_region 1 with fail
    rw [← HW.out.1, ← HW.out.2]
    go_upto_region 3 with (go_at_call 64; refine HR.out.mono ?_; rintro e w2 ⟨rfl, hb2⟩)
    have HK2 : Hid (LK w0 w1 w2 bl bx bm bv bvm bf L on known v m fs (fun _ => False)) := HK.out.fresh (FrX.of hb2)
    have hbk2 : w2.heap[ab]? = some (.cells #[.pointer (some a), .int .i64 who, .bool sum] 88 (0, 0)) := (hb2.block ab (cell_lt a0)).trans HBk.out
    have e0 : w2.cell? ⟨ab, 0, none⟩ = some (.pointer (some a)) := by rw [cell_of_row _ ab 0 _ _ _ hbk2]; rfl
    have e1 : w2.cell? ⟨ab, 1, none⟩ = some (.int .i64 who) := by rw [cell_of_row _ ab 1 _ _ _ hbk2]; rfl
    have e2 : w2.cell? ⟨ab, 2, none⟩ = some (.bool sum) := by rw [cell_of_row _ ab 2 _ _ _ hbk2]; rfl
    have HBk2 := hidLL hbk2
    clear hb2 hbk2 a0 a1 a2 HK HBk
    go_upto_region 4 with fail
    obtain ⟨W3, hW3⟩ : ∃ W3, W3 = w2.alloc (.cells #[.pointer (some a), .int .i64 who, .bool sum, .slice none 0 0, .int .i64 0, .int .i64 0] 129) := ⟨_, rfl⟩
    obtain ⟨qb, hqb⟩ : ∃ qb, qb = w2.heap.size := ⟨_, rfl⟩
    rw [← hW3, ← hqb]
    have HF : Hid (BF w0 w1 W3 bl bx bm bv bvm bf L on known v m fs ab qb a who sum (.slice none 0 0) 0) := by
      rw [hW3, hqb]
      exact ⟨HK2.out.own _, (Go.Deep.blk_alloc_lt _ _ _ (cell_lt e0)).trans HBk2.out, Go.Deep.blk_alloc_new w2 _, hloa, by have := cell_lt e0; omega, hnow⟩
    clear hW3 hqb e0 e1 e2 HBk2 HK2 HR HW
    have hnd := HF.out.lk.node HN.out
    obtain ⟨b, o, ka, kc, rfl, hnn⟩ := hnd.is
    clear hnd
    have hnd := hnn
    clear hnn
    have z0 := hnd.h0
    have z1 := hnd.h1
    have z3 := hnd.h3
    have a0 := HF.out.a0
    have a1 := HF.out.a1
    have a2 := HF.out.a2
    have l0 := HF.out.lk.lb.l0
    have q3 : W3.cell? ⟨qb, 3, none⟩ = some (.slice none 0 0) := HF.out.q rfl
    have q5 : W3.cell? ⟨qb, 5, none⟩ = some (.int .i64 0) := HF.out.q rfl
    have qf := HF.out.qf
    have HND := hidLL hnd
    clear hnd
    go_upto_block 0 with fail
    go_cut [4] (fun y wx => y = .nilIface ∧ ∃ (s : SlV) (val : Int), BR w0 w1 bl bx bm bv bvm bf L on known v m fs ab qb ⟨b, o, none⟩ t who sum s val wx)
    case first =>
      have qs := kq_some t.kind
      have qe := kq_every t.kind
      have qn := kq_name t.kind
      have qu := kq_number t.kind
      have qc := kq_count t.kind
      have qt := kq_total t.kind
      by_cases g1 : t.kd = .some ∨ t.kd = .every
      · have HO := hidLL (others_l HF.out.drew.lk.lb HF.out.drew.lk.vw HF.out.drew.lk.zz who t.word)
        have HOf : Hid (ofL (envOf L on known) t who = (envOf L on known).oth who t.word) := by
          show _ = _
          unfold ofL
          rcases g1 with g1 | g1 <;> rw [g1]
        have HSt : Hid (startV (envOf L on known) t who sum = if t.kd = .and ∨ t.kd = .every then 1 else 0) := by
          show _ = _
          unfold startV
          rcases g1 with g1 | g1 <;> rw [g1] <;> simp
        rcases g1 with g1 | g1
        all_goals
          rw [show kdOf t.kind = _ from g1] at qs qe
          simp only [reduceCtorEq, decide_false, decide_true] at qs qe
          clear g1
          go_upto_region 8 with fail
          go_region_law (go_simp; go_at_call 65; refine HO.out.mono ?_; rintro e W4 ⟨⟨sa, sn, sc⟩, rfl, hr4, hv4⟩; (have HF4 := hidLL (HF.out.drew.view hv4)); (have HR4 := hidLL hr4); (have d3 := HF4.out.q (i := 3) rfl); (have d4 := HF4.out.qf); clear hr4 hv4)
          all_goals (go_wp2_with fail; go_meet; exact ⟨rfl, ⟨sa, sn, sc⟩, 0, BR.oth HF4.out (by rw [HOf.out]; exact HR4.out) HSt.out⟩)
      · by_cases g2 : t.kd = .name ∨ t.kd = .number ∨ t.kd = .count ∨ t.kd = .total
        · have HT := hidLL (told_p HF.out.lk.lb HF.out.lk.vw HF.out.lk.zz (fun k hk => hk.2.2.2) HF.out.lk.n2 HF.out.lk.n5 (HF.out.lk.node HN.out) who sum hr g2)
          have HOf : Hid (ofL (envOf L on known) t who = []) := by
            show _ = _
            unfold ofL
            rcases g2 with g | g | g | g <;> rw [g]
          have HNk : Hid (¬ (t.kd = .and ∨ t.kd = .every)) := by
            show ¬ _
            rcases g2 with g | g | g | g <;> rw [g] <;> simp
          obtain ⟨X, hX⟩ : ∃ X, startV (envOf L on known) t who sum = X := ⟨_, rfl⟩
          rw [hX] at HT
          have HX := hidLL hX
          clear hX g1
          rcases g2 with g | g | g | g
          all_goals
            rw [show kdOf t.kind = _ from g] at qs qe qn qu qc qt
            simp only [reduceCtorEq, decide_false, decide_true] at qs qe qn qu qc qt
            clear g
            go_wp2_with (go_at_call 66; refine HT.out.mono ?_; rintro e W4 ⟨rfl, hv4⟩; (have HF4 := hidLL (HF.out.view hv4)); (have d5 := HF4.out.q (i := 5) rfl); (have d4 := HF4.out.qf); clear hv4)
            go_meet
            exact ⟨rfl, ⟨none, 0, 0⟩, X, BR.leaf HF4.out HOf.out HNk.out HX.out⟩
        · have hlen : t.kids.length = 1 ∨ t.kids.length = 2 := right_len hr g1 g2
          have HOf : Hid (ofL (envOf L on known) t who = List.replicate t.kids.length who) := by
            show _ = _
            unfold ofL
            split
            · rename_i e; exact absurd (.inl e) g1
            · rename_i e; exact absurd (.inr e) g1
            · rename_i e; exact absurd (.inl e) g2
            · rename_i e; exact absurd (.inr (.inl e)) g2
            · rename_i e; exact absurd (.inr (.inr (.inl e))) g2
            · rename_i e; exact absurd (.inr (.inr (.inr e))) g2
            · rfl
          have HSt : Hid (startV (envOf L on known) t who sum = if t.kd = .and ∨ t.kd = .every then 1 else 0) := by
            show _ = _
            unfold startV
            split
            · rename_i e; exact absurd (.inl e) g2
            · rename_i e; exact absurd (.inr (.inl e)) g2
            · rename_i e; exact absurd (.inr (.inr (.inl e))) g2
            · rename_i e; exact absurd (.inr (.inr (.inr e))) g2
            · rename_i e; rw [e]; simp
            · rename_i e; rw [e]; simp
            · rename_i e1 e2 e3 e4 e5 e6
              rw [if_neg (fun e => e.elim e5 e6)]
          have n1 : decide (kdOf t.kind = .some) = false := decide_eq_false (fun e => g1 (.inl e))
          have n2 : decide (kdOf t.kind = .every) = false := decide_eq_false (fun e => g1 (.inr e))
          have n3 : decide (kdOf t.kind = .name) = false := decide_eq_false (fun e => g2 (.inl e))
          have n4 : decide (kdOf t.kind = .number) = false := decide_eq_false (fun e => g2 (.inr (.inl e)))
          have n5 : decide (kdOf t.kind = .count) = false := decide_eq_false (fun e => g2 (.inr (.inr (.inl e))))
          have n6 : decide (kdOf t.kind = .total) = false := decide_eq_false (fun e => g2 (.inr (.inr (.inr e))))
          rw [n1] at qs
          rw [n2] at qe
          rw [n3] at qn
          rw [n4] at qu
          rw [n5] at qc
          rw [n6] at qt
          have b0 := cellA a0
          have b3 := cellA z3
          have hn1 : ¬ ab = W3.heap.size := by have := cell_lt a0; omega
          have hn2 : ¬ b = W3.heap.size := by have := cell_lt z0; omega
          have hn3 : ¬ qb = W3.heap.size := by have := cell_lt q3; omega
          have HRp : Hid (∀ (W' : World) (g : Nat), W'.cell? ⟨g, 0, none⟩ = some (.int .i64 who) → Calls Tryz.prog 67 #[.slice (some ⟨g, 0, none⟩) 1 1, .int .i64 (t.kids.length : Int)] W' fun e w' => ∃ sv, e = .returned sv ∧ IOwn W'.heap.size w' sv (List.replicate t.kids.length who) ∧ Below W'.heap.size W' w') := fun W' g hg => by
            rcases hlen with e | e
            · rw [e]; exact repeat_1 hg
            · rw [e]; exact repeat_2 hg
          have HA : Hid (∀ ob : Obj, FrX (fun _ => False) W3 (W3.alloc ob).drew) := fun ob => ((FrX.refl _ _).alloc ob).drew
          have HAc : Hid ((W3.alloc (.cells #[.int .i64 who] 3)).drew.cell? ⟨W3.heap.size, 0, none⟩ = some (.int .i64 who)) := by
            show (W3.alloc (.cells #[.int .i64 who] 3)).cell? ⟨W3.heap.size, 0, none⟩ = some (.int .i64 who)
            rw [cell_of_row _ W3.heap.size 0 _ _ _ (Go.Deep.blk_alloc_new W3 _)]
            rfl
          have HLn := hidLL hlen
          clear g1 g2 hlen n1 n2 n3 n4 n5 n6
          go_upto_region 5 with fail
          go_region_law (go_simp; go_at_call 67; refine (HRp.out _ _ HAc.out).mono ?_; rintro e W4 ⟨sv, rfl, ho4, hb4⟩; (obtain ⟨oa, om, oc, e5⟩ := ho4.form); subst e5; (have HF4 := hidLL (HF.out.fresh ((HA.out _).trans (FrX.of hb4)))); (have HO4 := hidLL ho4); (have d3 := HF4.out.q (i := 3) rfl); (have d4 := HF4.out.qf); clear ho4 hb4)
          all_goals (go_wp2_with fail; go_meet; exact ⟨rfl, ⟨oa, om, oc⟩, 0, BR.oth HF4.out (by rw [HOf.out]; exact own_rd HO4.out (by rw [List.length_replicate]; have := HLn.out; omega) (fun k hk => by have := HF.out.lk.zz k hk; simp; omega) HF.out.lk.sz (by simp)) HSt.out⟩)
    case rest =>
      obtain ⟨rfl, ⟨sa, sn, sc⟩, val, hBR⟩ := hcut
      have HB := hidLL hBR
      have hnd2 := (hBR.bf.lk.node HN.out).is
      obtain ⟨b', o', ka', kc', e', hn2⟩ := hnd2
      injection e' with e1 e2
      subst e1 e2
      have y0 := hn2.h0
      have x0 := hBR.bf.a0
      have x1 := hBR.bf.a1
      have x2 := hBR.bf.a2
      have r5 : wc.cell? ⟨qb, 5, none⟩ = some (.int .i64 val) := hBR.bf.q rfl
      have rf := hBR.bf.qf
      have qa := kq_and t.kind
      have qe := kq_every t.kind
      clear hBR hn2 z0 z1 z3 a0 a1 a2 l0 q3 q5 qf HF HND
      obtain ⟨X, hX⟩ : ∃ X, startV (envOf L on known) t who sum = X := ⟨_, rfl⟩
      have HX := hidLL hX
      clear hX
      have HBb := hidLL HB.out.bf
      have HBo := hidLL HB.out.of
      by_cases g : t.kd = .and ∨ t.kd = .every
      · have HX1 : Hid (X = 1) := by
          show _ = _
          rw [← HX.out, HB.out.val, if_pos g]
        have HB5 : Hid (BF w0 w1 (wc.setCell ⟨qb, 5, none⟩ (.int .i64 1)) bl bx bm bv bvm bf L on known v m fs ab qb ⟨b, o, none⟩ who sum (.slice sa sn sc) X) := by
          rw [HX1.out]
          exact HB.out.bf.set5 1
        have HOf5 : Hid (RdS intE (wc.setCell ⟨qb, 5, none⟩ (.int .i64 1)) (fun k => k < (wc.setCell ⟨qb, 5, none⟩ (.int .i64 1)).heap.size ∧ v.ownBlock ≠ some k ∧ w1.heap.size ≤ k ∧ ¬ k = qb) (SlV.v ⟨sa, sn, sc⟩) (ofL (envOf L on known) t who)) :=
          HB.out.of.on fun k hk => ⟨⟨by simp; exact hk.1, hk.2⟩, heap_setCell_other _ _ _ _ hk.2.2.2⟩
        clear HB HBb HBo
        rcases g with g | g
        all_goals
          rw [show kdOf t.kind = _ from g] at qa qe
          simp only [reduceCtorEq, decide_false, decide_true] at qa qe
          clear g
          go_upto_region 18 with fail
          obtain ⟨W6, hW6⟩ : ∃ W6, W6 = wc.setCell ⟨qb, 5, none⟩ (.int .i64 1) := ⟨_, rfl⟩
          rw [← hW6]
          have hbf : BF w0 w1 W6 bl bx bm bv bvm bf L on known v m fs ab qb ⟨b, o, none⟩ who sum (.slice sa sn sc) X := by rw [hW6]; exact HB5.out
          have hof : RdS intE W6 (fun k => k < W6.heap.size ∧ v.ownBlock ≠ some k ∧ w1.heap.size ≤ k ∧ ¬ k = qb) (SlV.v ⟨sa, sn, sc⟩) (ofL (envOf L on known) t who) := by rw [hW6]; exact HOf5.out
          clear hW6 HB5 HOf5 y0 x0 x1 x2 r5 rf
          have HB6 := hidLL hbf
          have HO6 := hidLL hof
          have hinS := HN.out.inS
          have hkey : PlainAt w1 ⟨b, o, none⟩ ∧ b < w1.heap.size ∧ b ≠ bl ∧ b ≠ bm ∧ b ≠ bvm := ⟨HN.out.plain, hinS.2, hinS.1.2.1, hinS.1.2.2.1, hinS.1.2.2.2⟩
          have hpl : PlainAt W6 ⟨b, o, none⟩ := hbf.lk.plain hkey.1 hkey.2.1 hkey.2.2.1 hkey.2.2.2.1 hkey.2.2.2.2
          obtain ⟨w7, hrun, hM7, hg7⟩ := (hbf.drew.lk.met).store Tryz.underlying101 (fun ob k hk => MetIs.set hbf.drew.lk.met ob k hk) (k := ((⟨b, o, none⟩ : Addr), who, sum)) (show PlainAt W6.drew _ from hpl) (0, false)
          replace hrun : (Instr.mapUpdate 101 (.map (some bm)) (.agg #[.pointer (some ⟨b, o, none⟩), .int .i64 who, .bool sum]) (.agg #[.int .i64 0, .bool false])).run Tryz.prog W6.drew = .ok () w7 := hrun
          rw [putK_put] at hM7
          have hlk7 := hbf.drew.lk.put hkey hM7 hg7
          have hb7 : ∀ k, k < W6.heap.size → k ≠ bm → w7.heap[k]? = W6.heap[k]? := fun k hk hn => hg7.block k hk (fun e => hn (by injection e))
          have hqlo := hbf.loq
          have hltm := hbf.lk.ltm
          have HQ7 : Hid (w7.heap[qb]? = some (.cells #[.pointer (some ⟨b, o, none⟩), .int .i64 who, .bool sum, .slice sa sn sc, .int .i64 0, .int .i64 X] 129 (0, 0))) := (hb7 qb (Array.getElem?_eq_some_iff.1 hbf.qbk).1 (by omega)).trans hbf.qbk
          have HO7 : Hid (RdS intE w7 (fun k => k < w7.heap.size ∧ v.ownBlock ≠ some k ∧ w1.heap.size ≤ k ∧ ¬ k = qb) (SlV.v ⟨sa, sn, sc⟩) (ofL (envOf L on known) t who)) := hof.on fun k hk => ⟨⟨Nat.lt_of_lt_of_le hk.1 hg7.size, hk.2⟩, hb7 k hk.1 (by have := hk.2.2.1; omega)⟩
          have HK7 := hidLL hlk7
          have l3 := hbf.lk.l3
          have t0 := hbf.a0
          have t1 := hbf.a1
          have t2 := hbf.a2
          have l4 := hlk7.l4
          have lf := hlk7.frz 4
          have p0 : w7.cell? ⟨qb, 0, none⟩ = some (.pointer (some ⟨b, o, none⟩)) := by rw [cell_of_row _ qb 0 _ _ _ HQ7.out]; rfl
          have p1 : w7.cell? ⟨qb, 1, none⟩ = some (.int .i64 who) := by rw [cell_of_row _ qb 1 _ _ _ HQ7.out]; rfl
          have p2 : w7.cell? ⟨qb, 2, none⟩ = some (.bool sum) := by rw [cell_of_row _ qb 2 _ _ _ HQ7.out]; rfl
          have p3 : w7.cell? ⟨qb, 3, none⟩ = some (.slice sa sn sc) := by rw [cell_of_row _ qb 3 _ _ _ HQ7.out]; rfl
          have p4 : w7.cell? ⟨qb, 4, none⟩ = some (.int .i64 0) := by rw [cell_of_row _ qb 4 _ _ _ HQ7.out]; rfl
          have p5 : w7.cell? ⟨qb, 5, none⟩ = some (.int .i64 X) := by rw [cell_of_row _ qb 5 _ _ _ HQ7.out]; rfl
          clear hbf hof hM7 hg7 hlk7 hb7 hpl hinS hqlo hltm
          go_region
          go_upto_region 19 with fail
          obtain ⟨vs, hv1, hv2, hv3⟩ := HK7.out.row
          obtain ⟨va, vn, vc, rfl, hvn⟩ := hrow
          obtain ⟨Of, hOf⟩ : ∃ Of, Of = ofL (envOf L on known) t who := ⟨_, rfl⟩
          rw [← hOf] at HO7
          have hzl : (fs.zip vs).length + 1 ≤ 1000000 := by rw [zip_len hv1]; omega
          have hB7 : w1.heap.size ≤ w7.heap.size := HK7.out.sz
          have HRowD : Hid (RowG frE 129 w7.drew w1.heap.size (.slice va vn vc) (fs.zip vs)) := hv2.on fun _ _ _ _ => rfl
          have HPush : Hid (∀ v5 w5, RowG frE 129 w5 w1.heap.size v5 (fs.zip vs ++ [((⟨⟨b, o, none⟩, t, who, sum, Of, 0, X⟩ : Fr), (⟨sa, sn, sc⟩ : SlV))]) → Below w1.heap.size w7 w5 → (∀ k, (Value.slice va vn vc).ownBlock ≠ some k → k < w7.heap.size → w5.heap[k]? = w7.heap[k]?) → (∀ k, v5.ownBlock = some k → (Value.slice va vn vc).ownBlock = some k ∨ w7.heap.size ≤ k) →
              w5.cell? ⟨bl, 4, none⟩ = some (.slice va vn vc) ∧ w5.frozen? ⟨bl, 4, none⟩ = false ∧ LK w0 w1 (w5.setCell ⟨bl, 4, none⟩ v5) bl bx bm bv bvm bf L on known v5 (m.put (⟨b, o, none⟩, who, sum) (0, false)) (fs ++ [⟨⟨b, o, none⟩, t, who, sum, Of, 0, X⟩]) (fun k => k = qb) ∧ (w5.setCell ⟨bl, 4, none⟩ v5).cell? ⟨qb, 5, none⟩ = some (.int .i64 X)) := fun v5 w5 hr5 hb5 hk5 hv5 => by
            have hown : ∀ k, (Value.slice va vn vc).ownBlock = some k → w1.heap.size ≤ k := fun k hk => (HK7.out.row.lt hk).1
            have hlb := HK7.out.ltl
            have hbl5 : w5.heap[bl]? = w7.heap[bl]? := hk5 bl (fun e => by have := hown bl e; omega) (by omega)
            have hql := HK7.out.qlt qb rfl
            have hqn := HK7.out.qn qb rfl
            have hqlo := HK7.out.qlo qb rfl
            have hqb5 : (w5.setCell ⟨bl, 4, none⟩ v5).heap[qb]? = w7.heap[qb]? := (heap_setCell_other _ _ _ _ (by show qb ≠ bl; omega)).trans (hk5 qb hqn hql)
            refine ⟨(World.cell?_of_block (a := ⟨bl, 4, none⟩) hbl5).trans l4, (World.frozen?_of_block (a := ⟨bl, 4, none⟩) hbl5).trans lf, HK7.out.open (NRow.snoc hv1 hv3 HO7.out hr5 hb5.size hk5 hv5) ⟨hb5.os, hb5.tape, hb5.output, hb5.size, fun k hk hn => hk5 k hn hk⟩ hv5, (World.cell?_of_block (a := ⟨qb, 5, none⟩) hqb5).trans p5⟩
          have m4 := cellA l4
          have c0' := cellA p0
          have c1' := cellA p1
          have c2' := cellA p2
          have c3' := cellA p3
          have c4' := cellA p4
          have c5' := cellA p5
          have hnb : ¬ bl = w7.heap.size := by have := cell_lt l4; omega
          have hnq : ¬ qb = w7.heap.size := by have := cell_lt p0; omega
          have HFin := hidLL (And.intro HX.out hOf)
          clear hv1 hv2 hv3 hvn hOf
          go_cut [] (fun wx => (∃ v5, LK w0 w1 wx bl bx bm bv bvm bf L on known v5 (m.put (⟨b, o, none⟩, who, sum) (0, false)) (fs ++ [⟨⟨b, o, none⟩, t, who, sum, Of, 0, X⟩]) (fun k => k = qb)) ∧ wx.cell? ⟨qb, 5, none⟩ = some (.int .i64 X))
          case first =>
            go_region_law (refine step_push_g (E := frE) Tryz.infoQu (by decide) Tryz.underlying102 rfl (.tmp 81) (.tmp 83) rfl w1.heap.size (.slice va vn vc) (fs.zip vs) ((⟨⟨b, o, none⟩, t, who, sum, Of, 0, X⟩ : Fr), (⟨sa, sn, sc⟩ : SlV)) _ rfl (by simp [Act.eval]) HRowD.out (by simp [Act.eval]) hB7 hzl ?_; intro v5 w5 hr5 hb5 hk5 hv5; obtain ⟨pa, pn, pc, rfl, hpn⟩ := hr5.any3; have hpp := HPush.out _ w5 hr5 ⟨hb5.os, hb5.tape, hb5.output, hb5.size, hb5.block⟩ hk5 hv5; have HPp := hidLL hpp; have j0 := hpp.1; have j1 := hpp.2.1; clear hr5 hb5 hk5 hv5 hpp hpn)
            all_goals (go_wp2_with fail; go_meet; exact ⟨⟨_, HPp.out.2.2.1⟩, HPp.out.2.2.2⟩)
          case rest =>
            obtain ⟨⟨v5, hlk⟩, hc5⟩ := hcut
            have HLK := hidLL hlk
            have hLd := HL.out.on0 hlk.vw.bel
            have HCk := hidLL (checkSize_f (g := qb) (o := 0) (p := p) hc5 (hLd.cell 2 (by decide)))
            have HRes : Hid (BegR w0 w1 bl bx bm bv bvm bf L on known p RX (.returned (chkE p X)) wc) := by
              rw [← HRX.out, HFin.out.1, ← HFin.out.2]
              unfold chkE
              cases hvx : valB X
              · exact ⟨rfl, hlk.vw.bel⟩
              · refine ⟨rfl, v5, ?_⟩
                show LK w0 w1 wc bl bx bm bv bvm bf L on known v5 _ (_ :: fs.reverse).reverse _
                rw [List.reverse_cons, List.reverse_reverse]
                exact hlk.free
            obtain ⟨CV, hCV⟩ : ∃ CV, CV = chkE p X := ⟨_, rfl⟩
            rw [← hCV] at HCk HRes
            clear hlk hLd hCV
            go_wp2_with (go_at_call 68; refine HCk.out.mono ?_; rintro e w' ⟨rfl, rfl⟩)
            go_ret
            exact HRes.out
      · have HX1 : X = val := by rw [← HX.out, HB.out.val, if_neg g]
        rw [decide_eq_false (fun e : kdOf t.kind = .and => g (.inl e))] at qa
        rw [decide_eq_false (fun e : kdOf t.kind = .every => g (.inr e))] at qe
        clear g
        go_upto_region 18 with fail
        obtain ⟨W6, hW6⟩ : ∃ W6, W6 = wc := ⟨_, rfl⟩
        subst hW6
        have hbf : BF w0 w1 W6 bl bx bm bv bvm bf L on known v m fs ab qb ⟨b, o, none⟩ who sum (.slice sa sn sc) X := by rw [HX1]; exact HBb.out
        have hof := HBo.out
        clear HB HBb HBo HX1 y0 x0 x1 x2 r5 rf
        have HB6 := hidLL hbf
        have HO6 := hidLL hof
        have hinS := HN.out.inS
        have hkey : PlainAt w1 ⟨b, o, none⟩ ∧ b < w1.heap.size ∧ b ≠ bl ∧ b ≠ bm ∧ b ≠ bvm := ⟨HN.out.plain, hinS.2, hinS.1.2.1, hinS.1.2.2.1, hinS.1.2.2.2⟩
        have hpl : PlainAt W6 ⟨b, o, none⟩ := hbf.lk.plain hkey.1 hkey.2.1 hkey.2.2.1 hkey.2.2.2.1 hkey.2.2.2.2
        obtain ⟨w7, hrun, hM7, hg7⟩ := (hbf.drew.lk.met).store Tryz.underlying101 (fun ob k hk => MetIs.set hbf.drew.lk.met ob k hk) (k := ((⟨b, o, none⟩ : Addr), who, sum)) (show PlainAt W6.drew _ from hpl) (0, false)
        replace hrun : (Instr.mapUpdate 101 (.map (some bm)) (.agg #[.pointer (some ⟨b, o, none⟩), .int .i64 who, .bool sum]) (.agg #[.int .i64 0, .bool false])).run Tryz.prog W6.drew = .ok () w7 := hrun
        rw [putK_put] at hM7
        have hlk7 := hbf.drew.lk.put hkey hM7 hg7
        have hb7 : ∀ k, k < W6.heap.size → k ≠ bm → w7.heap[k]? = W6.heap[k]? := fun k hk hn => hg7.block k hk (fun e => hn (by injection e))
        have hqlo := hbf.loq
        have hltm := hbf.lk.ltm
        have HQ7 : Hid (w7.heap[qb]? = some (.cells #[.pointer (some ⟨b, o, none⟩), .int .i64 who, .bool sum, .slice sa sn sc, .int .i64 0, .int .i64 X] 129 (0, 0))) := (hb7 qb (Array.getElem?_eq_some_iff.1 hbf.qbk).1 (by omega)).trans hbf.qbk
        have HO7 : Hid (RdS intE w7 (fun k => k < w7.heap.size ∧ v.ownBlock ≠ some k ∧ w1.heap.size ≤ k ∧ ¬ k = qb) (SlV.v ⟨sa, sn, sc⟩) (ofL (envOf L on known) t who)) := hof.on fun k hk => ⟨⟨Nat.lt_of_lt_of_le hk.1 hg7.size, hk.2⟩, hb7 k hk.1 (by have := hk.2.2.1; omega)⟩
        have HK7 := hidLL hlk7
        have l3 := hbf.lk.l3
        have t0 := hbf.a0
        have t1 := hbf.a1
        have t2 := hbf.a2
        have l4 := hlk7.l4
        have lf := hlk7.frz 4
        have p0 : w7.cell? ⟨qb, 0, none⟩ = some (.pointer (some ⟨b, o, none⟩)) := by rw [cell_of_row _ qb 0 _ _ _ HQ7.out]; rfl
        have p1 : w7.cell? ⟨qb, 1, none⟩ = some (.int .i64 who) := by rw [cell_of_row _ qb 1 _ _ _ HQ7.out]; rfl
        have p2 : w7.cell? ⟨qb, 2, none⟩ = some (.bool sum) := by rw [cell_of_row _ qb 2 _ _ _ HQ7.out]; rfl
        have p3 : w7.cell? ⟨qb, 3, none⟩ = some (.slice sa sn sc) := by rw [cell_of_row _ qb 3 _ _ _ HQ7.out]; rfl
        have p4 : w7.cell? ⟨qb, 4, none⟩ = some (.int .i64 0) := by rw [cell_of_row _ qb 4 _ _ _ HQ7.out]; rfl
        have p5 : w7.cell? ⟨qb, 5, none⟩ = some (.int .i64 X) := by rw [cell_of_row _ qb 5 _ _ _ HQ7.out]; rfl
        clear hbf hof hM7 hg7 hlk7 hb7 hpl hinS hqlo hltm
        go_region
        go_upto_region 19 with fail
        obtain ⟨vs, hv1, hv2, hv3⟩ := HK7.out.row
        obtain ⟨va, vn, vc, rfl, hvn⟩ := hrow
        obtain ⟨Of, hOf⟩ : ∃ Of, Of = ofL (envOf L on known) t who := ⟨_, rfl⟩
        rw [← hOf] at HO7
        have hzl : (fs.zip vs).length + 1 ≤ 1000000 := by rw [zip_len hv1]; omega
        have hB7 : w1.heap.size ≤ w7.heap.size := HK7.out.sz
        have HRowD : Hid (RowG frE 129 w7.drew w1.heap.size (.slice va vn vc) (fs.zip vs)) := hv2.on fun _ _ _ _ => rfl
        have HPush : Hid (∀ v5 w5, RowG frE 129 w5 w1.heap.size v5 (fs.zip vs ++ [((⟨⟨b, o, none⟩, t, who, sum, Of, 0, X⟩ : Fr), (⟨sa, sn, sc⟩ : SlV))]) → Below w1.heap.size w7 w5 → (∀ k, (Value.slice va vn vc).ownBlock ≠ some k → k < w7.heap.size → w5.heap[k]? = w7.heap[k]?) → (∀ k, v5.ownBlock = some k → (Value.slice va vn vc).ownBlock = some k ∨ w7.heap.size ≤ k) →
            w5.cell? ⟨bl, 4, none⟩ = some (.slice va vn vc) ∧ w5.frozen? ⟨bl, 4, none⟩ = false ∧ LK w0 w1 (w5.setCell ⟨bl, 4, none⟩ v5) bl bx bm bv bvm bf L on known v5 (m.put (⟨b, o, none⟩, who, sum) (0, false)) (fs ++ [⟨⟨b, o, none⟩, t, who, sum, Of, 0, X⟩]) (fun k => k = qb) ∧ (w5.setCell ⟨bl, 4, none⟩ v5).cell? ⟨qb, 5, none⟩ = some (.int .i64 X)) := fun v5 w5 hr5 hb5 hk5 hv5 => by
          have hown : ∀ k, (Value.slice va vn vc).ownBlock = some k → w1.heap.size ≤ k := fun k hk => (HK7.out.row.lt hk).1
          have hlb := HK7.out.ltl
          have hbl5 : w5.heap[bl]? = w7.heap[bl]? := hk5 bl (fun e => by have := hown bl e; omega) (by omega)
          have hql := HK7.out.qlt qb rfl
          have hqn := HK7.out.qn qb rfl
          have hqlo := HK7.out.qlo qb rfl
          have hqb5 : (w5.setCell ⟨bl, 4, none⟩ v5).heap[qb]? = w7.heap[qb]? := (heap_setCell_other _ _ _ _ (by show qb ≠ bl; omega)).trans (hk5 qb hqn hql)
          refine ⟨(World.cell?_of_block (a := ⟨bl, 4, none⟩) hbl5).trans l4, (World.frozen?_of_block (a := ⟨bl, 4, none⟩) hbl5).trans lf, HK7.out.open (NRow.snoc hv1 hv3 HO7.out hr5 hb5.size hk5 hv5) ⟨hb5.os, hb5.tape, hb5.output, hb5.size, fun k hk hn => hk5 k hn hk⟩ hv5, (World.cell?_of_block (a := ⟨qb, 5, none⟩) hqb5).trans p5⟩
        have m4 := cellA l4
        have c0' := cellA p0
        have c1' := cellA p1
        have c2' := cellA p2
        have c3' := cellA p3
        have c4' := cellA p4
        have c5' := cellA p5
        have hnb : ¬ bl = w7.heap.size := by have := cell_lt l4; omega
        have hnq : ¬ qb = w7.heap.size := by have := cell_lt p0; omega
        have HFin := hidLL (And.intro HX.out hOf)
        clear hv1 hv2 hv3 hvn hOf
        go_cut [] (fun wx => (∃ v5, LK w0 w1 wx bl bx bm bv bvm bf L on known v5 (m.put (⟨b, o, none⟩, who, sum) (0, false)) (fs ++ [⟨⟨b, o, none⟩, t, who, sum, Of, 0, X⟩]) (fun k => k = qb)) ∧ wx.cell? ⟨qb, 5, none⟩ = some (.int .i64 X))
        case first =>
          go_region_law (refine step_push_g (E := frE) Tryz.infoQu (by decide) Tryz.underlying102 rfl (.tmp 81) (.tmp 83) rfl w1.heap.size (.slice va vn vc) (fs.zip vs) ((⟨⟨b, o, none⟩, t, who, sum, Of, 0, X⟩ : Fr), (⟨sa, sn, sc⟩ : SlV)) _ rfl (by simp [Act.eval]) HRowD.out (by simp [Act.eval]) hB7 hzl ?_; intro v5 w5 hr5 hb5 hk5 hv5; obtain ⟨pa, pn, pc, rfl, hpn⟩ := hr5.any3; have hpp := HPush.out _ w5 hr5 ⟨hb5.os, hb5.tape, hb5.output, hb5.size, hb5.block⟩ hk5 hv5; have HPp := hidLL hpp; have j0 := hpp.1; have j1 := hpp.2.1; clear hr5 hb5 hk5 hv5 hpp hpn)
          all_goals (go_wp2_with fail; go_meet; exact ⟨⟨_, HPp.out.2.2.1⟩, HPp.out.2.2.2⟩)
        case rest =>
          obtain ⟨⟨v5, hlk⟩, hc5⟩ := hcut
          have HLK := hidLL hlk
          have hLd := HL.out.on0 hlk.vw.bel
          have HCk := hidLL (checkSize_f (g := qb) (o := 0) (p := p) hc5 (hLd.cell 2 (by decide)))
          have HRes : Hid (BegR w0 w1 bl bx bm bv bvm bf L on known p RX (.returned (chkE p X)) wc) := by
            rw [← HRX.out, HFin.out.1, ← HFin.out.2]
            unfold chkE
            cases hvx : valB X
            · exact ⟨rfl, hlk.vw.bel⟩
            · refine ⟨rfl, v5, ?_⟩
              show LK w0 w1 wc bl bx bm bv bvm bf L on known v5 _ (_ :: fs.reverse).reverse _
              rw [List.reverse_cons, List.reverse_reverse]
              exact hlk.free
          obtain ⟨CV, hCV⟩ : ∃ CV, CV = chkE p X := ⟨_, rfl⟩
          rw [← hCV] at HCk HRes
          clear hlk hLd hCV
          go_wp2_with (go_at_call 68; refine HCk.out.mono ?_; rintro e w' ⟨rfl, rfl⟩)
          go_ret
          exact HRes.out
end Go.Proofs.YtcfeflkhmncmjaaGreatDoor
