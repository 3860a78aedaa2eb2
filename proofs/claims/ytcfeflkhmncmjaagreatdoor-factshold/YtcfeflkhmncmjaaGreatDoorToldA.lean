/-
  What a node is worth that has no kids to be asked.
-/
import Derived.Test.YtcfeflkhmncmjaaGreatDoorViewA
import Derived.Test.YtcfeflkhmncmjaaGreatDoorRightA
import Derived.Test.YtcfeflkhmncmjaaGreatDoorBel1
namespace Go.Proofs.YtcfeflkhmncmjaaGreatDoor
open Go.RowKit

theorem field_e0 (x y : Value) (w : World) : (Instr.field 126 (.agg #[x, y]) 0).run Tryz.prog w = .ok x w := by kernel_rfl
theorem field_e1 (x y : Value) (w : World) : (Instr.field 126 (.agg #[x, y]) 1).run Tryz.prog w = .ok y w := by kernel_rfl
/-- What stands behind a look at the view. -/
structure VS (w0 w : World) (B : Nat) (Z : Nat → Prop) (bv bvm bf : Nat) (L : List Fct) (on known : Int) (w' : World) : Prop where
  vw : VW w0 w' B Z bv bvm bf L on known
  fr : FrX (· = bvm) w w'
/-- A look's own cells. -/
structure LB (w : World) (bl bx bv : Nat) : Prop where
  l0 : w.cell? ⟨bl, 0, none⟩ = some (.pointer (some ⟨bv, 0, none⟩))
  l1 : w.cell? ⟨bl, 1, none⟩ = some (.func (.func 51) #[] #[.pointer (some ⟨bx, 0, none⟩)])
  x0 : w.cell? ⟨bx, 0, none⟩ = some (.pointer (some ⟨bv, 0, none⟩))
theorem LB.on {w w' : World} {bl bx bv : Nat} (h : LB w bl bx bv) (h1 : w'.heap[bl]? = w.heap[bl]?) (h2 : w'.heap[bx]? = w.heap[bx]?) : LB w' bl bx bv :=
  ⟨(World.cell?_of_block (a := ⟨bl, 0, none⟩) h1).trans h.l0, (World.cell?_of_block (a := ⟨bl, 1, none⟩) h1).trans h.l1, (World.cell?_of_block (a := ⟨bx, 0, none⟩) h2).trans h.x0⟩
section
variable {w0 w : World} {B : Nat} {Z : Nat → Prop} {bv bvm bf : Nat} {L : List Fct} {on known : Int}
set_option maxRecDepth 20000 in
theorem value_v (h : VW w0 w B Z bv bvm bf L on known) (hZ : ∀ k, Z k → k < w.heap.size) (who : Int) (nm : ByteArray) :
    Calls Tryz.prog 52 #[.pointer (some ⟨bv, 0, none⟩), .int .i64 who, .string nm] w fun e w' => e = .returned (.int .i64 ((envOf L on known).val who nm)) ∧ VS w0 w B Z bv bvm bf L on known w' := by
  have HE := hidLL (entry_p h hZ who nm)
  clear h hZ
  go_enter Tryz.func52, Tryz.ntmps52
  go_wp2_with fail
  refine HE.out.mono ?_
  rintro e w' ⟨⟨sa, sn, sc⟩, rfl, _, h2, h3⟩
  have HR := hidLL (VS.mk h2 h3)
  clear h2 h3
  have hf := field_e0 (.int .i64 ((envOf L on known).val who nm)) (.slice sa sn sc)
  go_wp2
  go_ret
  exact ⟨rfl, HR.out⟩
def OthR (w0 w : World) (B : Nat) (Z : Nat → Prop) (bv bvm bf : Nat) (L : List Fct) (on known : Int) (who : Int) (nm : ByteArray) (e : Ending) (w' : World) : Prop :=
  ∃ s : SlV, e = .returned (.slice s.a s.n s.c) ∧ RdS intE w' (fun k => B ≤ k ∧ k < w'.heap.size ∧ ¬ Z k) s.v ((envOf L on known).oth who nm) ∧ VS w0 w B Z bv bvm bf L on known w'
set_option maxRecDepth 20000 in
theorem others_l {bl bx : Nat} (hb : LB w bl bx bv) (h : VW w0 w B Z bv bvm bf L on known) (hZ : ∀ k, Z k → k < w.heap.size) (who : Int) (nm : ByteArray) :
    Calls Tryz.prog 65 #[.pointer (some ⟨bl, 0, none⟩), .string nm, .int .i64 who] w (OthR w0 w B Z bv bvm bf L on known who nm) := by
  have HE := hidLL (entry_p h hZ who nm)
  have l0 := hb.l0
  clear h hZ hb
  go_enter Tryz.func65, Tryz.ntmps65
  go_wp2_with fail
  refine HE.out.mono ?_
  rintro e w' ⟨⟨sa, sn, sc⟩, rfl, h1, h2, h3⟩
  have HR := hidLL (And.intro h1 (VS.mk h2 h3))
  clear h1 h2 h3
  have hf := field_e1 (.int .i64 ((envOf L on known).val who nm)) (.slice sa sn sc)
  go_wp2
  go_ret
  exact ⟨⟨sa, sn, sc⟩, rfl, HR.out⟩
theorem worth_l {bx : Nat} (hx : w.cell? ⟨bx, 0, none⟩ = some (.pointer (some ⟨bv, 0, none⟩))) (h : VW w0 w B Z bv bvm bf L on known) (hZ : ∀ k, Z k → k < w.heap.size) (who : Int) (nm : ByteArray) :
    Calls Tryz.prog 51 #[.string nm, .int .i64 who, .pointer (some ⟨bx, 0, none⟩)] w fun e w' => e = .returned (.tuple #[.int .i64 ((envOf L on known).val who nm), .nilIface]) ∧ VS w0 w B Z bv bvm bf L on known w' := by
  have HE := hidLL (value_v h hZ who nm)
  clear h hZ
  go_enter Tryz.func51, Tryz.ntmps51
  go_wp2_with fail
  refine HE.out.mono ?_
  rintro e w' ⟨rfl, h2⟩
  have HR := hidLL h2
  clear h2
  go_wp2
  go_ret2
  exact ⟨rfl, HR.out⟩
theorem truth_f (b : Bool) (w : World) : Calls Tryz.prog 78 #[.bool b] w fun e w' => e = .returned (.int .i64 (trI b)) ∧ w' = w := by
  cases b
  all_goals go_enter Tryz.func78, Tryz.ntmps78
  all_goals go_wp2
  all_goals go_ret
  all_goals exact ⟨rfl, rfl⟩
theorem VW.alloc (h : VW w0 w B Z bv bvm bf L on known) (o : Obj) : VW w0 (w.alloc o) B Z bv bvm bf L on known :=
  h.step (X := fun _ => False) ((FrX.refl _ _).alloc o) (fun _ e => e.elim) (fun _ e => .inl e)
theorem VW.drew (h : VW w0 w B Z bv bvm bf L on known) : VW w0 w.drew B Z bv bvm bf L on known :=
  h.step (X := fun _ => False) (FrX.refl _ _).drew (fun _ e => e.elim) (fun _ e => .inl e)
theorem val_bd (L : List Fct) (hG : ∀ x ∈ L, Good x) (who : Int) (nm : ByteArray) (on known : Int) : -1000000000000 ≤ (valL L who nm on known).1 ∧ (valL L who nm on known).1 ≤ 1000000000000 := by
  unfold valL
  cases h : latestL L who nm (-1) on known with
  | none => simp
  | some x =>
    have h1 := (hG x (latest_in h).1).all.2.2.1
    unfold valB at h1
    simp at h1
    exact h1
theorem sum_snoc (l : List Int) (x : Int) : sumI (l ++ [x]) = sumI l + x := by
  unfold sumI
  rw [List.foldl_append]
  rfl
theorem sum_bd0 : ∀ (l : List Int) (acc : Int), (∀ x ∈ l, -1000000000000 ≤ x ∧ x ≤ 1000000000000) → acc - 1000000000000 * (l.length : Int) ≤ l.foldl (· + ·) acc ∧ l.foldl (· + ·) acc ≤ acc + 1000000000000 * (l.length : Int)
  | [], acc, _ => by simp
  | x :: l, acc, h => by
    have h1 := sum_bd0 l (acc + x) fun y hy => h y (List.mem_cons_of_mem _ hy)
    have h2 := h x List.mem_cons_self
    rw [List.foldl_cons, List.length_cons]
    push_cast
    omega
theorem sum_bd (l : List Int) (h : ∀ x ∈ l, -1000000000000 ≤ x ∧ x ≤ 1000000000000) : -(1000000000000 * (l.length : Int)) ≤ sumI l ∧ sumI l ≤ 1000000000000 * (l.length : Int) := by
  have := sum_bd0 l 0 h
  unfold sumI
  omega
end
end Go.Proofs.YtcfeflkhmncmjaaGreatDoor
namespace Go.Proofs.YtcfeflkhmncmjaaGreatDoor
open Go.RowKit

/-- While it is told. -/
structure TF (w0 w W : World) (B : Nat) (Z S : Nat → Prop) (bl bx bv bvm bf ab : Nat) (L : List Fct) (on known : Int) (a : Addr) (t : Tr) (who : Int) (sum : Bool) : Prop where
  vw : VW w0 W B Z bv bvm bf L on known
  fr : FrX (· = bvm) w W
  lb : LB W bl bx bv
  nd : NdAt W S a t
  a0 : W.cell? ⟨ab, 0, none⟩ = some (.pointer (some a))
  a1 : W.cell? ⟨ab, 1, none⟩ = some (.int .i64 who)
  a2 : W.cell? ⟨ab, 2, none⟩ = some (.bool sum)
  hS : ∀ k, S k → k ≠ bvm
  nl : bl ≠ bvm
  nx : bx ≠ bvm
  na : ab ≠ bvm
  hZ : ∀ k, Z k → k < w.heap.size
section
variable {w0 w W W' : World} {B : Nat} {Z S : Nat → Prop} {bl bx bv bvm bf ab : Nat} {L : List Fct} {on known : Int} {a : Addr} {t : Tr} {who : Int} {sum : Bool}
theorem TF.step (h : TF w0 w W B Z S bl bx bv bvm bf ab L on known a t who sum) (hv : VS w0 W B Z bv bvm bf L on known W') : TF w0 w W' B Z S bl bx bv bvm bf ab L on known a t who sum := by
  have hb : ∀ k, k < W.heap.size → k ≠ bvm → W'.heap[k]? = W.heap[k]? := fun k hk hn => hv.fr.block k hk hn
  exact ⟨hv.vw, h.fr.trans hv.fr, h.lb.on (hb _ (cell_lt h.lb.l0) h.nl) (hb _ (cell_lt h.lb.x0) h.nx), h.nd.step fun k hk hs => ⟨hb k hk (h.hS k hs), hs⟩, (World.cell?_of_block (a := ⟨ab, 0, none⟩) (hb _ (cell_lt h.a0) h.na)).trans h.a0, (World.cell?_of_block (a := ⟨ab, 1, none⟩) (hb _ (cell_lt h.a0) h.na)).trans h.a1, (World.cell?_of_block (a := ⟨ab, 2, none⟩) (hb _ (cell_lt h.a0) h.na)).trans h.a2, h.hS, h.nl, h.nx, h.na, h.hZ⟩
theorem TF.drew (h : TF w0 w W B Z S bl bx bv bvm bf ab L on known a t who sum) : TF w0 w W.drew B Z S bl bx bv bvm bf ab L on known a t who sum := h.step ⟨h.vw.drew, (FrX.refl _ _).drew⟩
theorem TF.zz (h : TF w0 w W B Z S bl bx bv bvm bf ab L on known a t who sum) : ∀ k, Z k → k < W.heap.size := fun k hk => Nat.lt_of_lt_of_le (h.hZ k hk) h.fr.size
theorem TF.vs (h : TF w0 w W B Z S bl bx bv bvm bf ab L on known a t who sum) : VS w0 w B Z bv bvm bf L on known W := ⟨h.vw, h.fr⟩
end
theorem oth_len {w : World} {S : Nat → Prop} {L : List Fct} {on known who : Int} {nm : ByteArray} {sa : Option Addr} {sn sc : Nat} (h : RdS intE w S (SlV.v ⟨sa, sn, sc⟩) ((envOf L on known).oth who nm)) : sn = ((envOf L on known).oth who nm).length ∧ sn ≤ 40 := by
  have h1 := h.len.1
  have h2 := others_len L who nm on known
  have h3 : sn = (othersL L who nm on known).length := h1
  exact ⟨h1, by omega⟩
def ToldIs (w0 w : World) (B : Nat) (Z : Nat → Prop) (bv bvm bf : Nat) (L : List Fct) (on known : Int) (v : Int) (e : Ending) (w' : World) : Prop :=
  e = .returned (.tuple #[.int .i64 v, .nilIface]) ∧ VS w0 w B Z bv bvm bf L on known w'
set_option maxHeartbeats 8000000 in
set_option maxRecDepth 20000 in
theorem told_a {w0 w : World} {B : Nat} {Z S : Nat → Prop} {bl bx bv bvm bf : Nat} {L : List Fct} {on known : Int} {a : Addr} {t : Tr} (hb : LB w bl bx bv) (h : VW w0 w B Z bv bvm bf L on known) (hZ : ∀ k, Z k → k < w.heap.size) (hS : ∀ k, S k → k ≠ bvm) (hnl : bl ≠ bvm) (hnx : bx ≠ bvm) (hN : NdAt w S a t) (who : Int) (sum : Bool)
    (hK : t.kd = .name ∨ t.kd = .number ∨ t.kd = .count) :
    Calls Tryz.prog 66 #[.pointer (some ⟨bl, 0, none⟩), .agg #[.pointer (some a), .int .i64 who, .bool sum]] w (ToldIs w0 w B Z bv bvm bf L on known (startV (envOf L on known) t who sum)) := by
  obtain ⟨ab, hab⟩ : ∃ ab, ab = w.heap.size := ⟨_, rfl⟩
  obtain ⟨W, hW⟩ : ∃ W, W = w.alloc (.cells #[.pointer (some a), .int .i64 who, .bool sum] 88) := ⟨_, rfl⟩
  have hbk : W.heap[ab]? = some (.cells #[.pointer (some a), .int .i64 who, .bool sum] 88 (0, 0)) := by rw [hW, hab]; exact Go.Deep.blk_alloc_new w _
  have hlo : ∀ k, k < w.heap.size → W.heap[k]? = w.heap[k]? := fun k hk => by rw [hW]; exact Go.Deep.blk_alloc_lt w _ _ hk
  have HT : Hid (TF w0 w W B Z S bl bx bv bvm bf ab L on known a t who sum) := by
    refine ⟨by rw [hW]; exact h.alloc _, by rw [hW]; exact (FrX.refl _ _).alloc _, hb.on (hlo _ (cell_lt hb.l0)) (hlo _ (cell_lt hb.x0)), hN.step fun k hk hs => ⟨hlo k hk, hs⟩, ?_, ?_, ?_, hS, hnl, hnx, ?_, hZ⟩
    · rw [cell_of_row _ ab 0 _ _ _ hbk]; rfl
    · rw [cell_of_row _ ab 1 _ _ _ hbk]; rfl
    · rw [cell_of_row _ ab 2 _ _ _ hbk]; rfl
    · have := h.ltm
      have := h.leB
      omega
  obtain ⟨b, o, ka, kc, rfl, hnd⟩ := HT.out.nd.is
  have z0 := hnd.h0
  have z1 := hnd.h1
  have z2 := hnd.h2
  have z3 := hnd.h3
  have a0 := HT.out.a0
  have a1 := HT.out.a1
  have a2 := HT.out.a2
  have l0 := HT.out.lb.l0
  have l1 := HT.out.lb.l1
  have x0 := HT.out.lb.x0
  have qn := kq_number t.kind
  have qc := kq_count t.kind
  have qt := kq_total t.kind
  have HW := hidLL (And.intro hW hab)
  have HND := hidLL hnd
  clear hb h hZ hS hN hbk hlo hW hab hnd
  rcases hK with hk | hk | hk
  · -- a name
    rw [show kdOf t.kind = .name from hk] at qn qc qt
    simp only [reduceCtorEq, decide_false] at qn qc qt
    obtain ⟨V, hV⟩ : ∃ V, V = (envOf L on known).val who t.word := ⟨_, rfl⟩
    have e1 : startV (envOf L on known) t who sum = if sum then V else trI (!decide (V = 0)) := by unfold startV; rw [hk, hV]
    rw [e1]
    have HO := hidLL (worth_l HT.out.drew.lb.x0 HT.out.drew.vw HT.out.drew.zz who t.word)
    rw [← hV] at HO
    clear hk e1 hV
    go_enter Tryz.func66, Tryz.ntmps66
    go_upto_region 1 with fail
    rw [← HW.out.1, ← HW.out.2]
    go_upto_region 15 with fail
    go_cut [10, 11] (fun x y wx => x = .int .i64 V ∧ y = .nilIface ∧ TF w0 w wx B Z S bl bx bv bvm bf ab L on known ⟨b, o, none⟩ t who sum)
    case first =>
      go_region_law (go_simp; go_at_call 51; refine HO.out.mono ?_; rintro e W3 ⟨rfl, hv3⟩; (have HV3 := hidLL (HT.out.drew.step hv3)); clear hv3)
      all_goals (go_wp2_with fail; go_meet; exact ⟨rfl, rfl, HV3.out⟩)
    case rest =>
      obtain ⟨rfl, rfl, hc⟩ := hcut
      have HC := hidLL hc
      have d2 := hc.a2
      clear hc
      cases sum with
      | true =>
        go_wp2
        go_ret2
        exact ⟨rfl, HC.out.vs⟩
      | false =>
        by_cases hV : V = 0
        · have hb : (V != 0) = false := by simp [hV]
          have HTr := hidLL (truth_f false)
          go_wp2_with (go_at_call 78; refine (HTr.out _).mono ?_; rintro e w' ⟨rfl, rfl⟩)
          go_ret2
          exact ⟨by simp [trI], HC.out.vs⟩
        · have hb : (V != 0) = true := by simp [hV]
          have HTr := hidLL (truth_f true)
          go_wp2_with (go_at_call 78; refine (HTr.out _).mono ?_; rintro e w' ⟨rfl, rfl⟩)
          go_ret2
          exact ⟨by simp [trI], HC.out.vs⟩
  · have e1 : startV (envOf L on known) t who sum = t.num := by unfold startV; rw [hk]
    rw [show kdOf t.kind = .number from hk] at qn qc qt
    simp only [reduceCtorEq, decide_false, decide_true] at qn qc qt
    rw [e1]
    clear hk e1
    go_enter Tryz.func66, Tryz.ntmps66
    go_upto_region 1 with fail
    rw [← HW.out.1, ← HW.out.2]
    go_wp2
    go_ret2
    exact ⟨rfl, HT.out.vs⟩
  · -- a count
    have e1 : startV (envOf L on known) t who sum = 100 * ((envOf L on known).oth who t.word).length := by unfold startV; rw [hk]
    rw [show kdOf t.kind = .count from hk] at qn qc qt
    simp only [reduceCtorEq, decide_false, decide_true] at qn qc qt
    rw [e1]
    have HO := hidLL (others_l HT.out.drew.lb HT.out.drew.vw HT.out.drew.zz who t.word)
    clear hk e1
    go_enter Tryz.func66, Tryz.ntmps66
    go_upto_region 1 with fail
    rw [← HW.out.1, ← HW.out.2]
    go_upto_region 6 with fail
    go_region_law (go_simp; go_at_call 65; refine HO.out.mono ?_; rintro e W3 ⟨⟨sa, sn, sc⟩, rfl, hr3, hv3⟩; (have hl3 := oth_len hr3); (have hl4 := hl3.2); (have hwr : IntKind.i64.wrap (100 * (sn : Int)) = 100 * (sn : Int) := (by rw [IntKind.wrap_i64]; omega)); (have HV3 := hidLL (And.intro (HT.out.drew.step hv3) hl3.1)); clear hr3 hv3 hl3)
    all_goals (go_wp2; go_ret2; exact ⟨by rw [← HV3.out.2]; rfl, HV3.out.1.vs⟩)
end Go.Proofs.YtcfeflkhmncmjaaGreatDoor
namespace Go.Proofs.YtcfeflkhmncmjaaGreatDoor
open Go.RowKit

set_option maxHeartbeats 8000000 in
set_option maxRecDepth 20000 in
theorem told_t {w0 w : World} {B : Nat} {Z S : Nat → Prop} {bl bx bv bvm bf : Nat} {L : List Fct} {on known : Int} {a : Addr} {t : Tr} (hb : LB w bl bx bv) (h : VW w0 w B Z bv bvm bf L on known) (hZ : ∀ k, Z k → k < w.heap.size) (hS : ∀ k, S k → k ≠ bvm) (hnl : bl ≠ bvm) (hnx : bx ≠ bvm) (hN : NdAt w S a t) (who : Int) (sum : Bool) (hR : rightB sum t = true)
    (hk : t.kd = .total) :
    Calls Tryz.prog 66 #[.pointer (some ⟨bl, 0, none⟩), .agg #[.pointer (some a), .int .i64 who, .bool sum]] w (ToldIs w0 w B Z bv bvm bf L on known (startV (envOf L on known) t who sum)) := by
  obtain ⟨ab, hab⟩ : ∃ ab, ab = w.heap.size := ⟨_, rfl⟩
  obtain ⟨W, hW⟩ : ∃ W, W = w.alloc (.cells #[.pointer (some a), .int .i64 who, .bool sum] 88) := ⟨_, rfl⟩
  have hbk : W.heap[ab]? = some (.cells #[.pointer (some a), .int .i64 who, .bool sum] 88 (0, 0)) := by rw [hW, hab]; exact Go.Deep.blk_alloc_new w _
  have hlo : ∀ k, k < w.heap.size → W.heap[k]? = w.heap[k]? := fun k hk => by rw [hW]; exact Go.Deep.blk_alloc_lt w _ _ hk
  have HT : Hid (TF w0 w W B Z S bl bx bv bvm bf ab L on known a t who sum) := by
    refine ⟨by rw [hW]; exact h.alloc _, by rw [hW]; exact (FrX.refl _ _).alloc _, hb.on (hlo _ (cell_lt hb.l0)) (hlo _ (cell_lt hb.x0)), hN.step fun k hk hs => ⟨hlo k hk, hs⟩, ?_, ?_, ?_, hS, hnl, hnx, ?_, hZ⟩
    · rw [cell_of_row _ ab 0 _ _ _ hbk]; rfl
    · rw [cell_of_row _ ab 1 _ _ _ hbk]; rfl
    · rw [cell_of_row _ ab 2 _ _ _ hbk]; rfl
    · have := h.ltm
      have := h.leB
      omega
  obtain ⟨b, o, ka, kc, rfl, hnd⟩ := HT.out.nd.is
  have z0 := hnd.h0
  have z1 := hnd.h1
  have z2 := hnd.h2
  have z3 := hnd.h3
  have a0 := HT.out.a0
  have a1 := HT.out.a1
  have a2 := HT.out.a2
  have l0 := HT.out.lb.l0
  have l1 := HT.out.lb.l1
  have x0 := HT.out.lb.x0
  have qn := kq_number t.kind
  have qc := kq_count t.kind
  have qt := kq_total t.kind
  have HW := hidLL (And.intro hW hab)
  have HND := hidLL hnd
  clear hb h hZ hS hN hbk hlo hW hab hnd
  rw [show kdOf t.kind = .total from hk] at qn qc qt
  simp only [reduceCtorEq, decide_false, decide_true] at qn qc qt
  have hR2 := hR
  unfold rightB kidsN restB at hR2
  rw [hk] at hR2
  have hs : sum = true := by
    cases sum
    · simp [kidsC] at hR2
    · rfl
  subst hs
  simp only [kidsS, if_true, Bool.and_eq_true, decide_eq_true_eq] at hR2
  obtain ⟨u, hu⟩ : ∃ u, t.kids = [u] := List.length_eq_one_iff.1 hR2.1.1
  obtain ⟨g, p, rfl⟩ := HND.out.hk (by rw [hu]; simp)
  have hU : NdAt W S ⟨g, p, none⟩ u := by simpa [kadr] using HND.out.hr 0 u (by rw [hu]; rfl)
  obtain ⟨b', o', ka', kc', e', hu'⟩ := hU.is
  injection e' with e1 e2
  subst e1 e2
  have y1 := hu'.h1
  rw [hu] at z3
  simp only [List.length_singleton] at z3
  obtain ⟨E, hE⟩ : ∃ E, E = envOf L on known := ⟨_, rfl⟩
  obtain ⟨OS, hOS⟩ : ∃ OS, OS = E.oth who u.word := ⟨_, rfl⟩
  have e1 : startV (envOf L on known) t who true = sumI (OS.map fun x => E.val x t.word) := by
    unfold startV kidW
    rw [hk, hu, hOS, hE]
  rw [e1]
  have HO := hidLL (others_l HT.out.drew.lb HT.out.drew.vw HT.out.drew.zz who u.word)
  have HOS := hidLL (And.intro hE hOS)
  clear hk hR e1 hR2 hu hU hu' hE hOS
  go_enter Tryz.func66, Tryz.ntmps66
  go_upto_region 1 with fail
  rw [← HW.out.1, ← HW.out.2]
  go_upto_region 9 with fail
  go_cut [48, 49, 50] (fun x y i wx => ∃ s : SlV, x = .slice s.a s.n s.c ∧ y = .int .i64 s.n ∧ i = .int .i64 0 ∧ RdS intE wx (fun k => B ≤ k ∧ k < wx.heap.size ∧ ¬ Z k) s.v OS ∧ s.n = OS.length ∧ s.n ≤ 40 ∧ TF w0 w wx B Z S bl bx bv bvm bf ab L on known ⟨b, o, none⟩ t who true)
  case first =>
    go_region_law (go_simp; go_at_call 65; refine HO.out.mono ?_; rintro e W3 ⟨⟨sa, sn, sc⟩, rfl, hr3, hv3⟩; (have hl3 := oth_len hr3); (have HV3 := hidLL (And.intro (HT.out.drew.step hv3) (And.intro hl3 hr3))); clear hr3 hv3 hl3)
    all_goals (go_wp2_with fail; go_meet; exact ⟨⟨sa, sn, sc⟩, rfl, rfl, rfl, by rw [HOS.out.2, HOS.out.1]; exact HV3.out.2.2, by rw [HOS.out.2, HOS.out.1]; exact HV3.out.2.1.1, HV3.out.2.1.2, HV3.out.1⟩)
  case rest =>
    obtain ⟨⟨sa, sn, sc⟩, rfl, rfl, rfl, hrd, hsn, hs40, hc⟩ := hcut
    simp only at hsn hs40
    have HC := hidLL (And.intro hc (And.intro hrd hsn))
    clear hc hrd hsn
    have HVb : Hid (∀ x, -1000000000000 ≤ E.val x t.word ∧ E.val x t.word ≤ 1000000000000) := fun x => by
      rw [HOS.out.1]
      exact val_bd L HT.out.vw.good x t.word on known
    have HSb : Hid (∀ j, -(1000000000000 * ((OS.take j).length : Int)) ≤ sumI ((OS.take j).map fun x => E.val x t.word) ∧ sumI ((OS.take j).map fun x => E.val x t.word) ≤ 1000000000000 * ((OS.take j).length : Int)) := fun j => by
      have := sum_bd ((OS.take j).map fun x => E.val x t.word) (fun y hy => by obtain ⟨x, _, rfl⟩ := List.mem_map.1 hy; exact HVb.out x)
      rw [List.length_map] at this
      exact this
    obtain ⟨wz, hwz⟩ : ∃ wz, wz = wc := ⟨_, rfl⟩
    subst hwz
    go_wp2_with fail
    go_loopw [50, 7] (fun i s wr => ∃ (j : Nat) (y : Int), j ≤ sn ∧ i = .int .i64 j ∧ s = .int .i64 y ∧ y = sumI ((OS.take j).map fun x => E.val x t.word) ∧ VS w0 wz B Z bv bvm bf L on known wr) (fun i _ _ => sn - (RowKit.intOf i).toNat)
    case atStart => exact ⟨0, 0, by omega, rfl, rfl, by simp [sumI], HC.out.1.vw, FrX.refl _ _⟩
    case round =>
      obtain ⟨j, y, hj, rfl, rfl, hy, hv⟩ := hrel
      obtain ⟨w5, hw5⟩ : ∃ w5 : World, w5 = wr := ⟨_, rfl⟩
      subst wr
      have HY := hidLL hy
      have HT5 := hidLL (HC.out.1.step hv)
      have HRd5 : Hid (RdS intE w5 (fun k => B ≤ k ∧ k < w5.heap.size ∧ ¬ Z k) (SlV.v ⟨sa, sn, sc⟩) OS) := HC.out.2.1.on fun k hk => ⟨⟨hk.1, Nat.lt_of_lt_of_le hk.2.1 hv.fr.size, hk.2.2⟩, hv.fr.block k hk.2.1 (fun e => by have := HC.out.1.vw.ltm; omega)⟩
      have HvF := hidLL hv.fr
      clear hy hv
      by_cases hlt : j < sn
      · have c0 : decide ((j : Int) < sn) = true := by simp; omega
        have hjz : (j : Int) < sn := by omega
        obtain ⟨x, hx⟩ : ∃ x, OS[j]? = some x := ⟨_, List.getElem?_eq_getElem (by have := HC.out.2.2; omega)⟩
        obtain ⟨g2, o2, rfl, hg2, hrg⟩ := HRd5.out.at (n := sn) hx
        have p0 : w5.cell? ⟨g2, o2 + j, none⟩ = some (.int .i64 x) := by
          have := hrg 0 (.int .i64 x) rfl
          simpa [intE] using this
        have HVal := hidLL (value_v HT5.out.drew.vw HT5.out.drew.zz x t.word)
        rw [← HOS.out.1] at HVal
        obtain ⟨V, hV⟩ : ∃ V, V = E.val x t.word := ⟨_, rfl⟩
        rw [← hV] at HVal
        have hVb := HVb.out x
        rw [← hV] at hVb
        have hSb := HSb.out j
        rw [← HY.out, List.length_take] at hSb
        have hy1 : -40000000000000 ≤ y := by omega
        have hy2 : y ≤ 40000000000000 := by omega
        have hwr : IntKind.i64.wrap (y + V) = y + V := by rw [IntKind.wrap_i64]; omega
        have HN : Hid (y + V = sumI ((OS.take (j + 1)).map fun x => E.val x t.word)) := by
          show _ = _
          rw [List.take_add_one, hx, List.map_append]
          show _ = sumI (_ ++ [E.val x t.word])
          rw [sum_snoc, ← HY.out, hV]
        have l0' := HT5.out.lb.l0
        obtain ⟨b9, o9, ka9, kc9, e9, hn9⟩ := HT5.out.nd.is
        injection e9 with e91 e92
        subst e91 e92
        have z1' := hn9.h1
        clear hx hrg hg2 hV hVb hSb hn9
        go_wp2_with fail
        go_region_law (go_simp; go_at_call 52; refine HVal.out.mono ?_; rintro e W6 ⟨rfl, hv6⟩; (have HV6 := hidLL (HT5.out.drew.step hv6)); (have HR6 := hidLL (HvF.out.trans ((FrX.refl _ _).drew.trans hv6.fr))); clear hv6)
        all_goals (go_wp2; go_roundw)
        all_goals first | (show _ < _; simp [RowKit.intOf]; omega) | exact ⟨j + 1, y + V, by omega, by simp, rfl, HN.out, HV6.out.vw, HR6.out⟩
      · have hjs : j = sn := by omega
        have c0 : decide ((j : Int) < sn) = false := by simp; omega
        have hjz : ¬ (j : Int) < sn := by omega
        have HFin : Hid (y = sumI (OS.map fun x => E.val x t.word)) := by
          show _ = _
          rw [HY.out, List.take_of_length_le (by have := HC.out.2.2; omega)]
        clear hjs
        go_wp2
        go_ret2
        exact ⟨by rw [← HFin.out]; rfl, HT5.out.vs⟩
end Go.Proofs.YtcfeflkhmncmjaaGreatDoor
