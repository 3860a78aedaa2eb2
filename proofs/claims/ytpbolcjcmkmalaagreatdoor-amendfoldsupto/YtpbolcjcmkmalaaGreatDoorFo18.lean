/-
  Acts in three parts: slots ahead of a region's own, the region's own, those behind. Quiet steps over them. No function of the program.
-/
import Derived.Test.YtpbolcjcmkmalaaGreatDoorFo17
import Derived.Test.YtpbolcjcmkmalaaGreatDoorShelfR
namespace Go.Proofs.YtpbolcjcmkmalaaGreatDoor
open Go.RowKit

/-- An act whose slots from 'pre.length' on are 'mid'. -/
def MA (pre mid suf : List Value) (d : List Deferred) : Act := ⟨(pre ++ mid ++ suf).toArray, d⟩
theorem MA.lo {pre mid suf : List Value} {d : List Deferred} {j : Nat} {v : Value} (h : pre[j]? = some v) : (MA pre mid suf d).eval (.tmp j) = v := by
  obtain ⟨hj, h⟩ := List.getElem?_eq_some_iff.1 h
  show (pre ++ mid ++ suf).toArray.getD j undef = v
  simp only [Array.getD_eq_getD_getElem?, List.getElem?_toArray]
  rw [List.append_assoc, List.getElem?_append_left hj, List.getElem?_eq_getElem hj, h]
  rfl
theorem MA.get {pre mid suf : List Value} {d : List Deferred} {k j : Nat} {v : Value} (hk : pre.length = k) (hj : k ≤ j) (h : mid[j - k]? = some v) : (MA pre mid suf d).tmps[j]? = some v := by
  obtain ⟨hl, h'⟩ := List.getElem?_eq_some_iff.1 h
  show (pre ++ mid ++ suf).toArray[j]? = some v
  rw [List.getElem?_toArray, List.append_assoc, List.getElem?_append_right (by omega), hk, List.getElem?_append_left hl, h]
theorem MA.hi {pre mid suf : List Value} {d : List Deferred} {k j : Nat} {v : Value} (hk : pre.length = k) (hj : k ≤ j) (h : mid[j - k]? = some v) : (MA pre mid suf d).eval (.tmp j) = v := by
  have := MA.get (suf := suf) (d := d) hk hj h
  show (MA pre mid suf d).tmps.getD j undef = v
  rw [Array.getD_eq_getD_getElem?, this]
  rfl
theorem MA.put {pre mid suf : List Value} {d : List Deferred} {k j : Nat} {v : Value} (hk : pre.length = k) (hj : k ≤ j) (hm : j - k < mid.length) : (MA pre mid suf d).put (some j) v = MA pre (mid.set (j - k) v) suf d := by
  show Act.mk ((pre ++ mid ++ suf).toArray.setIfInBounds j v) d = _
  unfold MA
  rw [List.setIfInBounds_toArray, List.append_assoc, List.set_append_right _ _ (by omega), List.set_append_left _ _ (by omega), hk, List.append_assoc]
theorem MA.put_lo {pre mid suf : List Value} {d : List Deferred} {j : Nat} {v : Value} (hj : j < pre.length) : (MA pre mid suf d).put (some j) v = MA (pre.set j v) mid suf d := by
  show Act.mk ((pre ++ mid ++ suf).toArray.setIfInBounds j v) d = _
  unfold MA
  rw [List.setIfInBounds_toArray, List.append_assoc, List.set_append_left _ _ (by omega), List.append_assoc]
theorem MA.of (A : Act) (k m : Nat) : A = MA (A.tmps.toList.take k) ((A.tmps.toList.drop k).take m) (A.tmps.toList.drop (k + m)) A.defers := by
  obtain ⟨⟨l⟩, d⟩ := A
  unfold MA
  simp only [Act.mk.injEq, and_true]
  rw [List.append_assoc, show List.drop (k + m) l = ((l.drop k).drop m) by rw [List.drop_drop], List.take_append_drop, List.take_append_drop]
theorem MA.pre {A : Act} {k j : Nat} {v : Value} (h : A.tmps[j]? = some v) (hj : j < k) : (A.tmps.toList.take k)[j]? = some v := by
  rw [List.getElem?_take_of_lt hj, Array.getElem?_toList, h]
theorem want0 {o : Oper} {f : Nat → Option Bool} (h : o.guard = none) : Region.wanted o f = true := by simp [Region.wanted, h]
theorem wantG {ops : Array Oper} {o : Oper} {pre mid suf : List Value} {d : List Deferred} {n k j : Nat} {b c r : Bool} (hg : o.guard = some (n, b)) (hd : (ops[n]?).bind (·.dst) = some j) (hk : pre.length = k) (hj : k ≤ j) (hm : mid[j - k]? = some (.bool c)) (hr : (c == b) = r) : Region.wanted o (yielded ops (MA pre mid suf d).tmps) = r := by
  have := MA.get (suf := suf) (d := d) hk hj hm
  simp only [Region.wanted, hg, yielded, hd, Option.bind_some, this]
  cases c <;> cases b <;> first | exact hr | (rw [← hr]; rfl)
/-- A guard that has yielded no Boolean (its own operation was not wanted). -/
theorem wantU {ops : Array Oper} {o : Oper} {pre mid suf : List Value} {d : List Deferred} {n k j : Nat} {b : Bool} (hg : o.guard = some (n, b)) (hd : (ops[n]?).bind (·.dst) = some j) (hk : pre.length = k) (hj : k ≤ j) (hm : mid[j - k]? = some undef) : Region.wanted o (yielded ops (MA pre mid suf d).tmps) = false := by
  have := MA.get (suf := suf) (d := d) hk hj hm
  simp only [Region.wanted, hg, yielded, hd, Option.bind_some, this]
  rfl
section
variable {P : Program} {ops : Array Oper} {C : World → Prop} {Q : Act → Prop} {o : Oper} {rest : List Oper} {pre mid suf : List Value} {d : List Deferred} {k j : Nat}
theorem mq_val (v : Value) (hk : pre.length = k) (hd : o.dst = some j) (hj : k ≤ j) (hm : j - k < mid.length) (hw : Region.wanted o (yielded ops (MA pre mid suf d).tmps) = true) (h : ∀ w, C w → (execOp (MA pre mid suf d).eval o).run P w = .ok (.value v) w) (hn : wpQuiet P ops C Q rest (MA pre (mid.set (j - k) v) suf d)) : wpQuiet P ops C Q (o :: rest) (MA pre mid suf d) := by
  refine quiet_val v hw h ?_
  rw [hd, MA.put hk hj hm]
  exact hn
theorem mq_call (f : FuncId) (args : Array Value) (v : Value) (hk : pre.length = k) (hd : o.dst = some j) (hj : k ≤ j) (hm : j - k < mid.length) (hw : Region.wanted o (yielded ops (MA pre mid suf d).tmps) = true) (h : ∀ w, C w → (execOp (MA pre mid suf d).eval o).run P w = .ok (.enter f args) w) (hc : ∀ w, C w → Calls P f args w fun e w' => e = .returned v ∧ C w') (hn : wpQuiet P ops C Q rest (MA pre (mid.set (j - k) v) suf d)) : wpQuiet P ops C Q (o :: rest) (MA pre mid suf d) := by
  refine quiet_call f args v hw h hc ?_
  rw [hd, MA.put hk hj hm]
  exact hn
theorem mq_lo (v : Value) (hd : o.dst = some j) (hj : j < pre.length) (hw : Region.wanted o (yielded ops (MA pre mid suf d).tmps) = true) (h : ∀ w, C w → (execOp (MA pre mid suf d).eval o).run P w = .ok (.value v) w) (hn : wpQuiet P ops C Q rest (MA (pre.set j v) mid suf d)) : wpQuiet P ops C Q (o :: rest) (MA pre mid suf d) := by
  refine quiet_val v hw h ?_
  rw [hd, MA.put_lo hj]
  exact hn
theorem mq_off (hk : pre.length = k) (hd : o.dst = some j) (hj : k ≤ j) (hm : j - k < mid.length) (hw : Region.wanted o (yielded ops (MA pre mid suf d).tmps) = false) (hn : wpQuiet P ops C Q rest (MA pre (mid.set (j - k) undef) suf d)) : wpQuiet P ops C Q (o :: rest) (MA pre mid suf d) := by
  refine quiet_off hw ?_
  rw [hd, MA.put hk hj hm]
  exact hn
end
theorem quiet_MA {P : Program} {ops : Array Oper} {C : World → Prop} {Q : Act → Prop} {l : List Oper} {A : Act} (k m : Nat) (h : wpQuiet P ops C Q l (MA (A.tmps.toList.take k) ((A.tmps.toList.drop k).take m) (A.tmps.toList.drop (k + m)) A.defers)) : wpQuiet P ops C Q l A := by
  rw [MA.of A k m]; exact h
section
variable {P : Program} {ρ : Operand → Value} {dst : Option Tmp} {ty : TypeId} {ps : String} {af : Array Go.Edge} {g : Option (Nat × Bool)} {w : World} {x y z : Operand}
theorem x_move {v : Value} (h : ρ x = v) : (execOp ρ ⟨dst, .move x, ty, ps, af, g⟩).run P w = .ok (.value v) w := by
  simp only [execOp, h]; rfl
theorem x_assign {v : Value} (h : ρ x = v) : (execOp ρ ⟨dst, .assign x, ty, ps, af, g⟩).run P w = .ok (.value v) w := by
  simp only [execOp, h]; rfl
theorem x_pick {c : Bool} {u v r : Value} (hc : ρ x = .bool c) (hu : ρ y = u) (hv : ρ z = v) (hr : (if c then u else v) = r) : (execOp ρ ⟨dst, .pick x y z, ty, ps, af, g⟩).run P w = .ok (.value r) w := by
  simp only [execOp, hc, hu, hv, asBool]
  rw [← hr]
  cases c <;> rfl
theorem x_nil {q : Addr} (h : ρ x = .pointer (some q)) : (execOp ρ ⟨dst, .nilCheck x, ty, ps, af, g⟩).run P w = .ok (.value (.pointer (some q))) w := by
  simp only [execOp, h]; rfl
end
end Go.Proofs.YtpbolcjcmkmalaaGreatDoor
namespace Go.Proofs.YtpbolcjcmkmalaaGreatDoor
open Go.RowKit Go.Extern.Stop Go.Stop Go.Extern

theorem splitB_parts (s : ByteArray) (h : s.size ≠ 0) : Lib.splitB ⟨#[47]⟩ 0 (Lib.countB s ⟨#[47]⟩) s = partsB s := by
  have h1 := Lib.splitB_data ⟨#[47]⟩ 0 (Lib.countB s ⟨#[47]⟩) s
  have h2 := spls_splitK _ (bl s) (Nat.le_refl _)
  have h3 : (Lib.splitB ⟨#[47]⟩ 0 (Lib.countB s ⟨#[47]⟩) s).map bl = spls (bl s) := by
    rw [← h2]
    exact h1
  unfold partsB
  rw [if_neg h, ← h3, List.map_map]
  conv => lhs; rw [← List.map_id (Lib.splitB _ _ _ _)]
  refine List.map_congr_left fun a _ => ?_
  rfl
theorem strs_alloc (w : World) (xs : List ByteArray) (t : TypeId) : StrsAt (w.alloc (.cells (xs.map Value.string).toArray t)) (some ⟨w.heap.size, 0, none⟩) xs := by
  intro i x e
  refine ⟨w.heap.size, 0, rfl, ?_⟩
  rw [World.cell?_alloc_at _ _ _ _ rfl]
  simp [e]
theorem parts_len (s : ByteArray) : (partsB s).length ≤ s.size + 1 := by
  unfold partsB
  split
  · simp
  · have := spls_len (bl s)
    rw [size_bl] at this
    simpa using this
set_option maxHeartbeats 1000000 in
theorem labelsOf_a (s : ByteArray) (hs : s.size ≤ 1000000) (m : Int) (w : World) (hm : w.cell? ⟨12, 0, none⟩ = some (.int .i64 m)) :
    Calls Tryz.prog 30 #[.string s] w fun e w' => (∃ a c, e = .returned (.slice a (partsB s).length c) ∧ StrsAt w' a (partsB s) ∧ (partsB s).length ≤ c) ∧ Below w.heap.size w w' := by
  have hE : s.toList.isEmpty = decide (s.size = 0) := size_empty
  by_cases h0 : s.size = 0
  · have HR : Hid (partsB s = []) := by show _ = _; unfold partsB; rw [if_pos h0]
    rw [show decide (s.size = 0) = true by simpa using h0] at hE
    clear h0
    go_enter Tryz.func30, Tryz.ntmps30
    go_wp2
    go_ret
    rw [HR.out]
    exact ⟨⟨none, 0, rfl, (fun i s h => by cases h), Nat.le_refl _⟩, Below.refl _ _⟩
  · rw [show decide (s.size = 0) = false by simpa using h0] at hE
    have h2 := Go.Proofs.Tryz.strings_Split s ⟨#[47]⟩ m w (by omega) hm (by decide)
    have hl := Lib.splitB_all ⟨#[47]⟩ (by decide) 0 _ s rfl
    rw [← hl, splitB_parts s h0] at h2
    have HSp := hidLL h2
    have HA := hidLL (strs_alloc w (partsB s) 9)
    clear h2 hl hm h0
    generalize partsB s = ps at *
    go_enter Tryz.func30, Tryz.ntmps30
    go_wp2_with fail
    refine HSp.out.mono ?_
    rintro e w1 ⟨rfl, ew⟩
    go_wp2
    go_ret
    refine ⟨⟨_, _, rfl, ?_, Nat.le_refl _⟩, ?_⟩
    · first | exact HA.out | (rw [ew]; exact HA.out)
    · first | exact (Below.refl _ _).alloc (Nat.le_refl _) _ | (rw [ew]; exact (Below.refl _ _).alloc (Nat.le_refl _) _)
/-- What around answers. -/
def ArO (w : World) (B b o : Nat) (t : It) (S : Nat → Prop) (ps : List ByteArray) (e : Ending) : Prop := match arW t ps with
  | none => e = .returned (.tuple #[.pointer none, .int .i64 0])
  | some (x, i) => ∃ b' o' S' v', e = .returned (.tuple #[.pointer (some ⟨b', o', none⟩), .int .i64 i]) ∧ Foc w B b o t S ps.dropLast b' o' x S' v'
set_option maxHeartbeats 2000000 in
theorem around_a {w : World} {B b o : Nat} {t : It} {S : Nat → Prop} {v : Nat → Value} (h : ItAt w B b o t S v) (hF : FewIt t) {ps : List ByteArray} {pa : Option Addr} {pc : Nat} (hp : StrsAt w pa ps) (hn : ps.length ≤ 100000) (hpc : ps.length ≤ pc) :
    Calls Tryz.prog 78 #[.pointer (some ⟨b, o, none⟩), .slice pa ps.length pc] w fun e w' => ArO w B b o t S ps e ∧ Below w.heap.size w w' := by
  by_cases h0 : ps = []
  · subst h0
    clear hp hF h
    go_enter Tryz.func78, Tryz.ntmps78
    go_wp2
    go_ret2
    exact ⟨rfl, Below.refl _ _⟩
  · obtain ⟨p0, l, rfl⟩ : ∃ p0 l, ps = p0 ++ [l] := by
      rcases List.eq_nil_or_concat ps with h1 | ⟨a, b, hab⟩
      · exact absurd h1 h0
      · exact ⟨a, b, by rw [hab, List.concat_eq_append]⟩
    have hlen : (p0 ++ [l]).length = p0.length + 1 := by simp
    rw [hlen] at hn hpc ⊢
    obtain ⟨pb, po, rfl, hcl⟩ := hp p0.length l (by simp)
    have hp0 : StrsAt w (some ⟨pb, po, none⟩) p0 := fun i s hs => hp i s (by rw [List.getElem?_append_left (List.getElem?_eq_some_iff.1 hs).1]; exact hs)
    have HCf := hidLL (find_a (pc := pc) h hF hp0 (by omega))
    have H0 := hidLL h
    have HF := hidLL hF
    have hz1 : ¬ ((p0.length : Int) + 1 = 0) := by omega
    have hz2 : (((p0.length : Int) + 1) == 0) = false := by rw [beq_eq_false_iff_ne]; omega
    have HAr : Hid (∀ x i, findW t p0 = some x → kidIx x.kids l = some i → arW t (p0 ++ [l]) = some (x, i)) := fun x i h1 h2 => ar_of h1 h2
    have HAn : Hid (findW t p0 = none → arW t (p0 ++ [l]) = none) := fun h1 => by
      unfold arW
      rw [if_neg (by simp), List.dropLast_concat, h1]
    have HAk : Hid (∀ x, findW t p0 = some x → kidIx x.kids l = none → arW t (p0 ++ [l]) = none) := fun x h1 h2 => by
      unfold arW
      rw [if_neg (by simp), List.dropLast_concat, h1]
      show (match kidIx x.kids ((p0 ++ [l]).getLast?.getD _) with | none => none | some i => some (x, i)) = none
      rw [List.getLast?_concat]
      show (match kidIx x.kids l with | none => none | some i => some (x, i)) = none
      rw [h2]
    have HD : Hid ((p0 ++ [l]).dropLast = p0) := List.dropLast_concat
    clear h hF hp hp0 h0
    generalize hps : p0 ++ [l] = ps at *
    clear hps
    generalize p0.length = n at *
    go_enter Tryz.func78, Tryz.ntmps78
    go_wp2_with fail
    refine HCf.out.mono ?_
    rintro e w1 ⟨hf, hb1⟩
    unfold FindO at hf
    cases hq : findW t p0 with
    | none =>
      rw [hq] at hf
      have hf : e = _ := hf
      subst hf
      have HN := hidLL (HAn.out hq)
      have H1 := hidLL hb1
      clear hq hb1
      go_wp2
      go_ret2
      refine ⟨?_, H1.out⟩
      unfold ArO
      rw [HN.out]
      rfl
    | some x =>
      rw [hq] at hf
      obtain ⟨b', o', S', v', rfl, hf⟩ := hf
      have hx := find_few _ t x HF.out hq
      have hkl := hx.get.2.1
      have hfw := hf.on H0.out.lt hb1
      obtain ⟨_, _, _, ka, kc, hk3⟩ := hfw.at'.own.lies.forms
      have hc3 := hfw.at'.cell (c := 3) (by omega)
      rw [hk3] at hc3
      have hcl' := (hb1.cell (p := ⟨pb, po + n, none⟩) (cell_lt hcl)).trans hcl
      have HC : Hid (∀ W, Below w1.heap.size w1 W → Calls Tryz.prog 69 #[.slice ka x.kids.length kc, .string l] W fun e w' => e = .returned (.int .i64 (ixI (kidIx x.kids l))) ∧ Below w1.heap.size w1 w') := fun W hW => (amLab_lies (hfw.at'.on hW).own.lies hk3 (by omega) l).mono fun e w' h => ⟨h.1, hW.trans (h.2.mono hW.size)⟩
      have HFo := hidLL hf
      have H1 := hidLL hb1
      have HQ := hidLL hq
      clear hq hb1 hf hfw hx hk3 hcl
      have hn0 : (n : Int) < (n : Int) + 1 := by omega
      cases hr : kidIx x.kids l with
      | none =>
        rw [hr] at HC
        have HR := hidLL (HAk.out x HQ.out hr)
        clear hr
        generalize x.kids.length = kl at *
        unfold ixI at HC
        go_wp2
        go_region_with (go_at_call 69; refine (HC.out _ ?_).mono ?_; (· first | exact Below.refl _ _ | exact (Below.refl _ _).drew | exact bdrewN (Below.refl _ _) _); rintro e w2 ⟨rfl, hb2⟩; have H2 := hidLL hb2; clear hb2)
        all_goals go_wp2
        all_goals go_ret2
        all_goals (refine ⟨?_, H1.out.trans (H2.out.mono H1.out.size)⟩; unfold ArO; rw [HR.out]; rfl)
      | some i =>
        rw [hr] at HC
        have HR := hidLL (HAr.out x i HQ.out hr)
        obtain ⟨k, hk, _⟩ := kidIx_some hr
        have hil := (List.getElem?_eq_some_iff.1 hk).1
        have hi0 : ¬ ((i : Int) < 0) := by omega
        clear hr hk
        generalize x.kids.length = kl at *
        unfold ixI at HC
        go_wp2
        go_region_with (go_at_call 69; refine (HC.out _ ?_).mono ?_; (· first | exact Below.refl _ _ | exact (Below.refl _ _).drew | exact bdrewN (Below.refl _ _) _); rintro e w2 ⟨rfl, hb2⟩; have H2 := hidLL hb2; clear hb2)
        all_goals go_wp2
        all_goals go_ret2
        all_goals (refine ⟨?_, H1.out.trans (H2.out.mono H1.out.size)⟩; unfold ArO; rw [HR.out, HD.out]; exact ⟨b', o', S', v', rfl, HFo.out⟩)
end Go.Proofs.YtpbolcjcmkmalaaGreatDoor
namespace Go.Proofs.YtpbolcjcmkmalaaGreatDoor
open Go.RowKit Go.Extern.Stop Go.Stop Go.Extern

def eqBl : List ByteArray → List ByteArray → Bool
  | [], [] => true
  | x :: l, y :: m => (x.toList == y.toList) && eqBl l m
  | [], _ :: _ => false
  | _ :: _, [] => false
theorem eqBl_len : ∀ (l m : List ByteArray), l.length ≠ m.length → eqBl l m = false
  | [], [], h => absurd rfl h
  | [], _ :: _, _ => rfl
  | _ :: _, [], _ => rfl
  | x :: l, y :: m, h => by
    rw [eqBl, eqBl_len l m (fun e => h (by simp [e]))]
    simp
theorem list_injA {x y : ByteArray} (h : x.toList = y.toList) : x = y := by
  rw [Lib.toList_data, Lib.toList_data, Array.toList_inj] at h
  exact ByteArray.ext h
theorem eqBl_iff : ∀ (l m : List ByteArray), eqBl l m = true ↔ l = m
  | [], [] => by simp [eqBl]
  | [], _ :: _ => by simp [eqBl]
  | _ :: _, [] => by simp [eqBl]
  | x :: l, y :: m => by
    rw [eqBl, Bool.and_eq_true, eqBl_iff l m, List.cons.injEq, beq_iff_eq]
    exact ⟨fun h => ⟨list_injA h.1, h.2⟩, fun h => ⟨by rw [h.1], h.2⟩⟩
theorem eqBl_drop {l m : List ByteArray} {i : Nat} {x y : ByteArray} (hx : l[i]? = some x) (hy : m[i]? = some y) : eqBl (l.drop i) (m.drop i) = ((x.toList == y.toList) && eqBl (l.drop (i + 1)) (m.drop (i + 1))) := by
  obtain ⟨h1, e1⟩ := List.getElem?_eq_some_iff.1 hx
  obtain ⟨h2, e2⟩ := List.getElem?_eq_some_iff.1 hy
  rw [List.drop_eq_getElem_cons h1, List.drop_eq_getElem_cons h2, e1, e2, eqBl]
theorem retBA {a b : Bool} (h : a = b) : Ending.returned (.bool a) = .returned (.bool b) := by rw [h]
set_option maxHeartbeats 2000000 in
theorem equalS_a {l r : List ByteArray} {w : World} {ka kb : Option Addr} {kc kd : Nat} (ht : StrsAt w ka l) (hu : StrsAt w kb r) (hl : l.length ≤ 100000) (hl2 : r.length ≤ 100000) :
    Calls Tryz.prog 117 #[.slice ka l.length kc, .slice kb r.length kd] w fun e w' => e = .returned (.bool (eqBl l r)) ∧ Below w.heap.size w w' := by
  obtain ⟨n, hn⟩ : ∃ n, n = l.length := ⟨_, rfl⟩
  obtain ⟨m, hm⟩ : ∃ m, m = r.length := ⟨_, rfl⟩
  rw [← hn] at hl ⊢
  rw [← hm] at hl2 ⊢
  have HT := hidLL ht
  have HU := hidLL hu
  obtain ⟨R, hR⟩ : ∃ R, R = eqBl l r := ⟨_, rfl⟩
  rw [← hR]
  by_cases hnm : n = m
  · subst hnm
    have HN := hidLL (And.intro hn hm)
    have HR := hidLL hR
    clear hn hm hR ht hu
    go_enter Tryz.func117, Tryz.ntmps117
    go_wp2_with fail
    go_loopw [13] (fun i wr => ∃ j : Nat, j ≤ n ∧ i = .int .i64 j ∧ R = eqBl (l.drop j) (r.drop j) ∧ Below w.heap.size w wr) (fun i _ => n - (RowKit.intOf i).toNat)
    case atStart => exact ⟨0, by omega, rfl, HR.out, Below.refl _ _⟩
    case round =>
      obtain ⟨j, hj, rfl, hno, hb⟩ := hrel
      have HB := hidLL hb
      have HD := hidLL hno
      clear hno hb
      by_cases hlt : j < n
      · have hjz : (j : Int) < n := by omega
        obtain ⟨x, hx⟩ : ∃ x, l[j]? = some x := ⟨_, List.getElem?_eq_getElem (by have := HN.out.1; omega)⟩
        obtain ⟨y, hy⟩ : ∃ y, r[j]? = some y := ⟨_, List.getElem?_eq_getElem (by have := HN.out.2; omega)⟩
        obtain ⟨b, o, rfl, x0⟩ := (HT.out.on HB.out) j x hx
        obtain ⟨b2, o2, rfl, y0⟩ := (HU.out.on HB.out) j y hy
        have HE := hidLL (eqBl_drop hx hy)
        clear hx hy
        cases hf : (x.toList == y.toList)
        · rw [hf] at HE
          go_upto_region 6 with fail
          go_quiet (fail)
          go_wp2
          go_ret
          exact ⟨retBA (by rw [HD.out, HE.out]; rfl), bdrewN HB.out _⟩
        · rw [hf] at HE
          have hf' : x = y := list_injA (by simpa using hf)
          subst hf'
          clear hf
          go_upto_region 6 with fail
          go_quiet (fail)
          go_wp2
          go_roundw
          case rel => exact ⟨j + 1, by omega, by go_num, by rw [HD.out, HE.out]; rfl, bdrewN HB.out _⟩
          case measure => simp [RowKit.intOf]; omega
      · have hjz : ¬ (j : Int) < n := by omega
        obtain rfl : j = n := by omega
        go_wp2
        go_ret
        refine ⟨retBA ?_, HB.out⟩
        rw [HD.out, List.drop_eq_nil_of_le (by have := HN.out.1; omega), List.drop_eq_nil_of_le (by have := HN.out.2; omega), eqBl]
  · have HR : Hid (R = false) := by show _ = _; rw [hR]; exact eqBl_len _ _ (by omega)
    have hne : ¬ (n : Int) = m := by omega
    clear hn hm hR ht hu HT HU
    go_enter Tryz.func117, Tryz.ntmps117
    go_wp2
    go_ret
    exact ⟨retBA HR.out.symm, Below.refl _ _⟩
/-- Whether a path is another one, or leads into it. -/
def liesB (ps qs : List ByteArray) : Bool := decide (qs.length ≤ ps.length) && eqBl (ps.take qs.length) qs
theorem liesB_iff (ps qs : List ByteArray) : liesB ps qs = true ↔ qs <+: ps := by
  unfold liesB
  rw [Bool.and_eq_true, eqBl_iff, decide_eq_true_eq]
  exact ⟨fun h => List.prefix_iff_eq_take.2 h.2.symm, fun h => ⟨h.length_le, (List.prefix_iff_eq_take.1 h).symm⟩⟩
set_option maxHeartbeats 2000000 in
theorem lies_a {ps qs : List ByteArray} {w : World} {pa qa : Option Addr} {pc qc : Nat} (hp : StrsAt w pa ps) (hq : StrsAt w qa qs) (hl2 : qs.length ≤ 100000) (hpc : ps.length ≤ pc) :
    Calls Tryz.prog 81 #[.slice pa ps.length pc, .slice qa qs.length qc] w fun e w' => e = .returned (.bool (liesB ps qs)) ∧ Below w.heap.size w w' := by
  have HR : Hid (liesB ps qs = (decide (qs.length ≤ ps.length) && eqBl (ps.take qs.length) qs)) := rfl
  generalize liesB ps qs = R at *
  by_cases hle : qs.length ≤ ps.length
  · have hpt : StrsAt w pa (ps.take qs.length) := fun i s hs => hp i s (by
      rw [List.getElem?_take] at hs
      split at hs
      · exact hs
      · cases hs)
    have HE := hidLL (equalS_a (kc := pc) (kd := qc) hpt hq (by rw [List.length_take]; omega) hl2)
    rw [show (ps.take qs.length).length = qs.length by rw [List.length_take]; omega] at HE
    rw [show decide (qs.length ≤ ps.length) = true by simpa using hle, Bool.true_and] at HR
    have hz : (qs.length : Int) ≤ ps.length := by omega
    have hz2 : ¬ (ps.length : Int) < qs.length := by omega
    clear hp hq hpt
    generalize eqBl (ps.take qs.length) qs = R2 at *
    generalize ps.length = n at *
    generalize qs.length = m at *
    go_enter Tryz.func81, Tryz.ntmps81
    go_wp2_with fail
    refine HE.out.mono ?_
    rintro e w1 ⟨rfl, hb1⟩
    have H1 := hidLL hb1
    clear hb1
    go_wp2
    go_ret
    exact ⟨retBA HR.out.symm, H1.out⟩
  · rw [show decide (qs.length ≤ ps.length) = false by simpa using hle, Bool.false_and] at HR
    have hz : ¬ (qs.length : Int) ≤ ps.length := by omega
    have hz2 : (ps.length : Int) < qs.length := by omega
    clear hp hq
    generalize ps.length = n at *
    generalize qs.length = m at *
    go_enter Tryz.func81, Tryz.ntmps81
    go_wp2
    go_ret
    exact ⟨retBA HR.out.symm, Below.refl _ _⟩
end Go.Proofs.YtpbolcjcmkmalaaGreatDoor
