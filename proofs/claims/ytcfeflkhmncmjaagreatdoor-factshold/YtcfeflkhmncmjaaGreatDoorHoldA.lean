/-
  A view is made, and a look.
-/
import Derived.Test.YtcfeflkhmncmjaaGreatDoorFindA
namespace Go.Proofs.YtcfeflkhmncmjaaGreatDoor
open Go.RowKit

/-- A view that has looked nothing up. -/
structure FV (w0 w : World) (bv bvm bf : Nat) (L : List Fct) (on known : Int) : Prop where
  v0 : w.cell? ⟨bv, 0, none⟩ = some (.pointer (some ⟨bf, 0, none⟩))
  v1 : w.cell? ⟨bv, 1, none⟩ = some (.int .i64 on)
  v2 : w.cell? ⟨bv, 2, none⟩ = some (.int .i64 known)
  v3 : w.cell? ⟨bv, 3, none⟩ = some (.map (some bvm))
  file : ∃ Bf sv, FFile 61 Bf w0 bf L sv
  bel : Below w0.heap.size w0 w
  good : ∀ x ∈ L, Good x
  few : L.length ≤ 500
  lov : w0.heap.size ≤ bv
  lom : w0.heap.size ≤ bvm
  ne : bv ≠ bvm
  met : MapK subS entV w bvm (fun _ => none)
theorem FV.ltv {w0 w : World} {bv bvm bf : Nat} {L : List Fct} {on known : Int} (h : FV w0 w bv bvm bf L on known) : bv < w.heap.size := cell_lt h.v0
theorem FV.fresh {w0 w w' : World} {bv bvm bf : Nat} {L : List Fct} {on known : Int} (h : FV w0 w bv bvm bf L on known) (f : FrX (fun _ => False) w w') : FV w0 w' bv bvm bf L on known := by
  have hb : w'.heap[bv]? = w.heap[bv]? := f.block bv h.ltv id
  exact ⟨(World.cell?_of_block (a := ⟨bv, 0, none⟩) hb).trans h.v0, (World.cell?_of_block (a := ⟨bv, 1, none⟩) hb).trans h.v1, (World.cell?_of_block (a := ⟨bv, 2, none⟩) hb).trans h.v2, (World.cell?_of_block (a := ⟨bv, 3, none⟩) hb).trans h.v3, h.file, h.bel.trans (f.below (fun _ _ e => e) h.bel.size), h.good, h.few, h.lov, h.lom, h.ne, h.met.on (f.block bvm h.met.lt id) (fun _ _ e => by cases e)⟩
theorem FV.vw {w0 w : World} {bv bvm bf : Nat} {L : List Fct} {on known : Int} (h : FV w0 w bv bvm bf L on known) (Z : Nat → Prop) : VW w0 w w.heap.size Z bv bvm bf L on known :=
  ⟨h.v0, h.v1, h.v2, h.v3, h.file, h.bel, h.good, h.few, h.lov, h.lom, h.ltv, h.met.lt, h.ne, Nat.le_refl _, _, h.met, fun _ _ e => by cases e⟩
set_option maxHeartbeats 8000000 in
set_option maxRecDepth 20000 in
theorem view_p {w : World} {bf Bf : Nat} {sv : Value} {L : List Fct} (on known : Int) (hf : FFile 61 Bf w bf L sv) (hg : ∀ x ∈ L, Good x) (hl : L.length ≤ 500) :
    Calls Tryz.prog 21 #[.pointer (some ⟨bf, 0, none⟩), .int .i64 on, .int .i64 known] w fun e w' => ∃ bv bvm, e = .returned (.pointer (some ⟨bv, 0, none⟩)) ∧ FV w w' bv bvm bf L on known := by
  have HF := hidLL (And.intro hf (And.intro hg hl))
  clear hf hg hl
  have hmm := @run_makeMap Tryz.prog
  go_enter Tryz.func21, Tryz.ntmps21
  go_wp2
  go_ret
  refine ⟨w.heap.size + 1, w.heap.size, rfl, ?_⟩
  obtain ⟨W1, hW1⟩ : ∃ W1, W1 = w.alloc (.map #[] 0) := ⟨_, rfl⟩
  rw [← hW1]
  have hs1 : W1.heap.size = w.heap.size + 1 := by rw [hW1]; simp
  have hm1 : MapK subS entV W1 w.heap.size (fun _ => none) := by rw [hW1]; exact MapK.made w
  rw [← hs1]
  have hbk := Go.Deep.blk_alloc_new W1 (.cells #[.pointer (some ⟨bf, 0, none⟩), .int .i64 on, .int .i64 known, .map (some w.heap.size)] 82)
  have hb1 : Below w.heap.size w W1 := by rw [hW1]; exact (Below.refl _ _).alloc (Nat.le_refl _) _
  have hne : W1.heap.size ≠ w.heap.size := by omega
  refine ⟨?_, ?_, ?_, ?_, ⟨_, _, HF.out.1⟩, hb1.alloc (by omega) _, HF.out.2.1, HF.out.2.2, by omega, Nat.le_refl _, hne, hm1.on (Go.Deep.blk_alloc_lt W1 _ _ (by omega)) (fun _ _ e => by cases e)⟩
  · rw [cell_of_row _ _ 0 _ _ _ hbk]; rfl
  · rw [cell_of_row _ _ 1 _ _ _ hbk]; rfl
  · rw [cell_of_row _ _ 2 _ _ _ hbk]; rfl
  · rw [cell_of_row _ _ 3 _ _ _ hbk]; rfl
end Go.Proofs.YtcfeflkhmncmjaaGreatDoor
namespace Go.Proofs.YtcfeflkhmncmjaaGreatDoor
open Go.RowKit

/-- A look that has looked for nothing. -/
structure FL (w0 w : World) (bl bx bm bv bvm bf : Nat) (L : List Fct) (on known : Int) : Prop where
  fv : FV w0 w bv bvm bf L on known
  blk : w.heap[bl]? = some (.cells #[.pointer (some ⟨bv, 0, none⟩), .func (.func 51) #[] #[.pointer (some ⟨bx, 0, none⟩)], .int .i64 4, .map (some bm), .slice none 0 0] 104 (0, 0))
  x0 : w.cell? ⟨bx, 0, none⟩ = some (.pointer (some ⟨bv, 0, none⟩))
  met : MetIs w bm (fun _ => none)
  lol : w0.heap.size ≤ bl
  lom : w0.heap.size ≤ bm
  n1 : bl ≠ bv
  n2 : bl ≠ bvm
  n3 : bl ≠ bx
  n4 : bm ≠ bvm
  n5 : bx ≠ bvm
  n6 : bm ≠ bl
  n7 : bm ≠ bx
  n8 : bm ≠ bv
section
variable {w0 w w' : World} {bl bx bm bv bvm bf : Nat} {L : List Fct} {on known : Int}
theorem FL.fresh (h : FL w0 w bl bx bm bv bvm bf L on known) (f : FrX (fun _ => False) w w') : FL w0 w' bl bx bm bv bvm bf L on known :=
  ⟨h.fv.fresh f, (f.block bl (Array.getElem?_eq_some_iff.1 h.blk).1 id).trans h.blk, (World.cell?_of_block (a := ⟨bx, 0, none⟩) (f.block bx (cell_lt h.x0) id)).trans h.x0, h.met.on (f.block bm h.met.lt id) (fun _ _ e => by cases e), h.lol, h.lom, h.n1, h.n2, h.n3, h.n4, h.n5, h.n6, h.n7, h.n8⟩
theorem FL.lk (h : FL w0 w bl bx bm bv bvm bf L on known) : LK w0 w w bl bx bm bv bvm bf L on known (.slice none 0 0) (fun _ => none) [] (fun _ => False) := by
  have c : ∀ i u, #[Value.pointer (some ⟨bv, 0, none⟩), .func (.func 51) #[] #[.pointer (some ⟨bx, 0, none⟩)], .int .i64 4, .map (some bm), .slice none 0 0][i]? = some u → w.cell? ⟨bl, i, none⟩ = some u := fun i u e => by rw [cell_of_row _ bl i _ _ _ h.blk]; exact e
  refine ⟨FrX.refl _ _, ⟨_, _, _, _, h.blk⟩, ⟨c 0 _ rfl, c 1 _ rfl, h.x0⟩, c 2 _ rfl, c 3 _ rfl, h.fv.vw _, h.met, ?_, fun _ e => e.elim, fun _ e => e.elim, fun _ e => e.elim, h.lol, h.lom, (Array.getElem?_eq_some_iff.1 h.blk).1, h.met.lt, cell_lt h.x0, h.n1, h.n2, h.n3, h.n4, h.n5, h.n6, h.n7, h.n8, fun _ _ e => by cases e⟩
  refine ⟨[], rfl, ⟨⟨by rw [Enc.all_len], .inl ⟨rfl, rfl⟩⟩, by simp⟩, fun i s x hs => by simp at hs⟩
end
set_option maxHeartbeats 8000000 in
set_option maxRecDepth 20000 in
theorem look_p {w0 w : World} {bv bvm bf : Nat} {L : List Fct} {on known : Int} (h : FV w0 w bv bvm bf L on known) :
    Calls Tryz.prog 39 #[.pointer (some ⟨bv, 0, none⟩)] w fun e w' => ∃ bl bx bm, e = .returned (.pointer (some ⟨bl, 0, none⟩)) ∧ FL w0 w' bl bx bm bv bvm bf L on known ∧ FrX (fun _ => False) w w' ∧ w.heap.size ≤ bl ∧ w.heap.size ≤ bm := by
  have HF := hidLL h
  clear h
  have hmm := @run_makeMap Tryz.prog
  go_enter Tryz.func39, Tryz.ntmps39
  go_wp2
  go_ret
  refine ⟨w.heap.size + 1 + 1, w.heap.size, w.heap.size + 1, rfl, ?_⟩
  obtain ⟨W1, hW1⟩ : ∃ W1, W1 = w.alloc (.cells #[.pointer (some ⟨bv, 0, none⟩)] 65) := ⟨_, rfl⟩
  rw [← hW1]
  have hs1 : W1.heap.size = w.heap.size + 1 := by rw [hW1]; simp
  rw [← hs1]
  obtain ⟨W2, hW2⟩ : ∃ W2, W2 = W1.alloc (.map #[] 0) := ⟨_, rfl⟩
  rw [← hW2]
  have hs2 : W2.heap.size = W1.heap.size + 1 := by rw [hW2]; simp
  rw [← hs2]
  have hbk := Go.Deep.blk_alloc_new W2 (.cells #[.pointer (some ⟨bv, 0, none⟩), .func (.func 51) #[] #[.pointer (some ⟨w.heap.size, 0, none⟩)], .int .i64 4, .map (some W1.heap.size), .slice none 0 0] 104)
  have hx1 : W1.cell? ⟨w.heap.size, 0, none⟩ = some (.pointer (some ⟨bv, 0, none⟩)) := by
    rw [hW1, cell_of_row _ w.heap.size 0 _ _ _ (Go.Deep.blk_alloc_new w _)]; rfl
  have hm2 : MetIs W2 W1.heap.size (fun _ => none) := by rw [hW2]; exact MapK.made W1
  have f1 : FrX (fun _ => False) w W1 := by rw [hW1]; exact (FrX.refl _ _).alloc _
  have f2 : FrX (fun _ => False) W1 W2 := by rw [hW2]; exact (FrX.refl _ _).alloc _
  have f3 := f1.trans (f2.alloc (.cells #[.pointer (some ⟨bv, 0, none⟩), .func (.func 51) #[] #[.pointer (some ⟨w.heap.size, 0, none⟩)], .int .i64 4, .map (some W1.heap.size), .slice none 0 0] 104))
  have h1 := HF.out.ltv
  have h2 := HF.out.met.lt
  have h3 := HF.out.bel.size
  refine ⟨⟨HF.out.fresh f3, hbk, ?_, hm2.on (Go.Deep.blk_alloc_lt W2 _ _ (by omega)) (fun _ _ e => by cases e), by omega, by omega, by omega, by omega, by omega, by omega, by omega, by omega, by omega, by omega⟩, f3, by omega, by omega⟩
  have h4 : W2.heap[w.heap.size]? = W1.heap[w.heap.size]? := f2.block _ (by omega) id
  exact (World.cell?_of_block (a := ⟨w.heap.size, 0, none⟩) ((Go.Deep.blk_alloc_lt W2 _ _ (by show w.heap.size < W2.heap.size; omega)).trans h4)).trans hx1
end Go.Proofs.YtcfeflkhmncmjaaGreatDoor
namespace Go.Proofs.YtcfeflkhmncmjaaGreatDoor
open Go.RowKit

def askB (who on known : Int) : Bool := perB who && (dyB on && dyB known)
set_option maxHeartbeats 8000000 in
set_option maxRecDepth 20000 in
theorem find_bad {w0 w1 w : World} {bl bx bm bv bvm bf : Nat} {L : List Fct} {on known : Int} {v : Value} {p : Nat → Addr} {a : Addr} (who : Int) (sum : Bool) (hW : w1 = w.alloc (.cells #[.pointer (some a), .int .i64 who, .bool sum] 88)) (h : LK w0 w1 w1 bl bx bm bv bvm bf L on known v (fun _ => none) [] (fun _ => False)) (hL : Laid w0 p) (hb : askB who on known = false) :
    Calls Tryz.prog 40 #[.pointer (some ⟨bl, 0, none⟩), .agg #[.pointer (some a), .int .i64 who, .bool sum]] w (FindR w0 p (.err 9)) := by
  obtain ⟨ab, hbe⟩ : ∃ ab, ab = w.heap.size := ⟨_, rfl⟩
  have hbk : w1.heap[ab]? = some (.cells #[.pointer (some a), .int .i64 who, .bool sum] 88 (0, 0)) := by rw [hW, hbe]; exact Go.Deep.blk_alloc_new w _
  have a0 : w1.cell? ⟨ab, 0, none⟩ = some (.pointer (some a)) := by rw [cell_of_row _ ab 0 _ _ _ hbk]; rfl
  have a1 : w1.cell? ⟨ab, 1, none⟩ = some (.int .i64 who) := by rw [cell_of_row _ ab 1 _ _ _ hbk]; rfl
  have a2 : w1.cell? ⟨ab, 2, none⟩ = some (.bool sum) := by rw [cell_of_row _ ab 2 _ _ _ hbk]; rfl
  have l0 := h.lb.l0
  have v1 := h.vw.v1
  have v2 := h.vw.v2
  have g8 : w1.cell? ⟨2, 0, none⟩ = some (.iface 193 (.pointer (some (p 8)))) := (hL.on0 h.vw.bel).cell 8 (by decide)
  have HP := hidLL (isPerson_f who)
  have HD := hidLL (isDay_f on)
  have HK := hidLL (isDay_f known)
  have HW := hidLL (And.intro hW hbe)
  have HB := hidLL h.vw.bel
  clear h hL hW hbe hbk
  unfold askB at hb
  cases hp : perB who <;> cases ho : dyB on <;> cases hk : dyB known <;> rw [hp, ho, hk] at hb <;> simp at hb <;> rw [hp] at HP <;> rw [ho] at HD <;> rw [hk] at HK <;> clear hp ho hk
  all_goals go_enter Tryz.func40, Tryz.ntmps40
  all_goals go_upto_region 1 with fail
  all_goals rw [← HW.out.1, ← HW.out.2]
  all_goals go_wp2_with (first | (go_at_call 36; refine (HP.out _).mono ?_; rintro e w' ⟨rfl, h9⟩; subst w') | (go_at_call 38; refine (HD.out _).mono ?_; rintro e w' ⟨rfl, h9⟩; subst w') | (go_at_call 38; refine (HK.out _).mono ?_; rintro e w' ⟨rfl, h9⟩; subst w'))
  all_goals go_region
  all_goals (go_wp2; go_ret2; first | exact ⟨rfl, HB.out⟩ | exact ⟨rfl, HB.out.drew⟩)
end Go.Proofs.YtcfeflkhmncmjaaGreatDoor
namespace Go.Proofs.YtcfeflkhmncmjaaGreatDoor
open Go.RowKit

/-- A node as it is handed on. -/
structure NdV (w : World) (S : Nat → Prop) (ka : Option Addr) (kc : Nat) (t : Tr) : Prop where
  hw : t.word.size ≤ 100000
  hl : t.kids.length ≤ 1000
  hc : t.kids.length ≤ kc
  hk : 0 < t.kids.length → ∃ g p, ka = some ⟨g, p, none⟩
  hr : ∀ i u, t.kids[i]? = some u → NdAt w S (kadr ka i) u
def ndv (t : Tr) (ka : Option Addr) (kc : Nat) : Array Value := #[.string t.kind, .string t.word, .int .i64 t.num, .slice ka t.kids.length kc]
theorem NdV.at {w w' : World} {S S' : Nat → Prop} {ka : Option Addr} {kc : Nat} {t : Tr} (h : NdV w S ka kc t) {b : Nat} (hb : w'.heap[b]? = some (.cells (ndv t ka kc) 44 (0, 0))) (hS : S' b) (hs : ∀ k, k < w.heap.size → S k → w'.heap[k]? = w.heap[k]? ∧ S' k) : NdAt w' S' ⟨b, 0, none⟩ t := by
  refine .mk b 0 t ka kc hS ⟨_, _, hb⟩ ?_ ?_ ?_ ?_ h.hw h.hl h.hc h.hk fun i u e => (h.hr i u e).step hs
  · rw [cell_of_row _ b 0 _ _ _ hb]; rfl
  · rw [cell_of_row _ b 1 _ _ _ hb]; rfl
  · rw [cell_of_row _ b 2 _ _ _ hb]; rfl
  · rw [cell_of_row _ b 3 _ _ _ hb]; rfl
/-- What comes of an asking. -/
noncomputable def askR (L : List Fct) (t : Tr) (who on known : Int) (sum : Bool) : Rs := if askB who on known then ev (envOf L on known) t who sum else .err 9
theorem find_any {w0 w wn : World} {bl bx bm bv bvm bf nb : Nat} {L : List Fct} {on known : Int} {p : Nat → Addr} {t : Tr} {ka : Option Addr} {kc : Nat} (h : FL w0 w bl bx bm bv bvm bf L on known) (hL : Laid w0 p) (hN : NdV wn (· < w0.heap.size) ka kc t) (hw : Below w0.heap.size wn w) (hb : w.heap[nb]? = some (.cells (ndv t ka kc) 44 (0, 0))) (n1 : nb ≠ bl) (n2 : nb ≠ bm) (n3 : nb ≠ bvm) (hcn : cnt t ≤ 1000) (who : Int) (sum : Bool) :
    Calls Tryz.prog 40 #[.pointer (some ⟨bl, 0, none⟩), .agg #[.pointer (some ⟨nb, 0, none⟩), .int .i64 who, .bool sum]] w (FindR w0 p (askR L t who on known sum)) := by
  have f : FrX (fun _ => False) w (w.alloc (.cells #[.pointer (some ⟨nb, 0, none⟩), .int .i64 who, .bool sum] 88)) := (FrX.refl _ _).alloc _
  have h1 := (h.fresh f).lk
  unfold askR
  cases hq : askB who on known with
  | false =>
    rw [if_neg (by decide)]
    exact find_bad who sum rfl h1 hL hq
  | true =>
    rw [if_pos rfl]
    unfold askB at hq
    simp only [Bool.and_eq_true] at hq
    have hnb : nb < w.heap.size := (Array.getElem?_eq_some_iff.1 hb).1
    have hbl : bl < w.heap.size := (Array.getElem?_eq_some_iff.1 h.blk).1
    have hbm := h.met.lt
    have hbv := h.fv.met.lt
    have hsz := h.fv.bel.size
    have hl0 := h.lol
    have hm0 := h.lom
    have hv0 := h.fv.lom
    refine find_p who sum rfl h1 ⟨by simp, by omega, by omega, by omega⟩ hL (hN.at ((f.block nb hnb id).trans hb) ⟨Nat.lt_of_lt_of_le hnb f.size, n1, n2, n3⟩ fun k hk hs => ⟨(f.block k (by omega) id).trans (hw.block k hs), ⟨Nat.lt_of_lt_of_le (Nat.lt_of_lt_of_le hs hsz) f.size, by omega, by omega, by omega⟩⟩) hcn hq.1 hq.2.1 hq.2.2
end Go.Proofs.YtcfeflkhmncmjaaGreatDoor
