/-
  Package amend: repeal.
-/
import Derived.Test.YtpbolcjcmkmalaaGreatDoorFo23
import Derived.Test.YtpbolcjcmkmalaaGreatDoorFo18
import Derived.Test.YtpbolcjcmkmalaaGreatDoorFo19
import Derived.Test.YtpbolcjcmkmalaaGreatDoorFo20
namespace Go.Proofs.YtpbolcjcmkmalaaGreatDoor
open Go.RowKit Go.Extern.Stop Go.Stop Go.Extern

/-- The kids of an item, as they are read. -/
theorem ItAt.kidsV {w : World} {B b o : Nat} {x : It} {S : Nat → Prop} {v : Nat → Value} (h : ItAt w B b o x S v) : ∃ ka kc, v 3 = .slice ka x.kids.length kc ∧ w.cell? ⟨b, o + 3, none⟩ = some (.slice ka x.kids.length kc) := by
  obtain ⟨_, _, _, ka, kc, e⟩ := h.own.lies.forms
  exact ⟨ka, kc, e, by rw [← e]; exact h.cell (by omega)⟩
/-- What is done at a place is done to the law. -/
theorem Foc.done {w w1 w2 : World} {B b o : Nat} {t : It} {S : Nat → Prop} {v : Nat → Value} {ps : List ByteArray} {b' o' : Nat} {x y : It} {S' S'' : Nat → Prop} {v' v'' : Nat → Value} (h0 : ItAt w B b o t S v) (hb : Below w.heap.size w w1) (hf : Foc w1 B b o t S ps b' o' x S' v') {p : Nat → Addr} (hu : Upd w1 w2 b' o' S') (hy : ItAt w2 B b' o' y S'' v'') (hS : ∀ q, S'' q → S' q ∨ w1.heap.size ≤ q) : ChO w B b o S p (.ok (setW (fun _ => y) ps t)) (.returned .nilIface) w2 := by
  obtain ⟨S3, v3, q1, q2, q3⟩ := hf.back w2 y S'' v'' (fun _ => False) (fun q => w1.heap.size ≤ q) hu hy (fun q hq => hq.elim) (fun q hq hs => by have := (h0.own.in q hs).2; have := hb.size; omega) (fun e => by have := h0.lt; have := hb.size; omega) (fun q hq => (hS q hq).imp (fun h => ⟨h, fun h => h⟩) (fun h => h))
  exact ⟨rfl, S3, v3, q1, fun q hq => (q2 q hq).imp (fun h => h.1) (fun h => Nat.le_trans hb.size h), q3.after hb h0.lt⟩
set_option maxHeartbeats 2000000 in
set_option maxRecDepth 20000 in
theorem repeal_a {w : World} {B b o : Nat} {t : It} {S : Nat → Prop} {v : Nat → Value} (h : ItAt w B b o t S v) (hF : FewIt t) (hB : B ≤ w.heap.size) {p : Nat → Addr} {m : Int} (hE : Env w p m) (op : OpW) (hok : OpOk op) (iv : Nat → Value) :
    Calls Tryz.prog 33 #[.pointer (some ⟨b, o, none⟩), .agg (opV op iv)] w (ChO w B b o S p (repealC t op)) := by
  have ht := hok.path
  clear hok
  cases op with
  | mk kind path at' text new line item =>
    have ht : path.size ≤ 6000 := ht
    show Calls Tryz.prog 33 #[.pointer (some ⟨b, o, none⟩), .agg #[.int .i64 kind, .string path, .string at', .string text, .string new, .int .i64 line, iv 0, iv 1, iv 2, iv 3]] w (ChO w B b o S p (repealC t ⟨kind, path, at', text, new, line, item⟩))
    generalize iv 0 = i0, iv 1 = i1, iv 2 = i2, iv 3 = i3
    obtain ⟨WB, hWB⟩ : ∃ WB, WB = w.alloc (.cells #[.int .i64 kind, .string path, .string at', .string text, .string new, .int .i64 line, i0, i1, i2, i3] 46) := ⟨_, rfl⟩
    have hb0 : Below w.heap.size w WB := by rw [hWB]; exact (Below.refl _ _).alloc (Nat.le_refl _) _
    have hbx : WB.heap[w.heap.size]? = some (.cells #[.int .i64 kind, .string path, .string at', .string text, .string new, .int .i64 line, i0, i1, i2, i3] 46 (0, 0)) := by rw [hWB]; exact heap_alloc_new _ _
    obtain ⟨y0, y1, y2, y3, y4, y5, y6, y7, y8, y9⟩ := ten hbx
    have HLb := hidLL (labelsOf_a path (by omega) m WB (hE.on hb0).M)
    have HX := hidLL hWB
    have H0 := hidLL h
    have HF := hidLL hF
    have HB0 := hidLL hb0
    have HEn := hidLL (fun w' (hb : Below w.heap.size w w') => hE.on hb)
    have HR : Hid (∀ r, arW t (partsB path) = r → repealC t ⟨kind, path, at', text, new, line, item⟩ = match r with | none => .bad 5 | some (x, i) => .ok (setW (fun _ => x.setKids (x.kids.eraseIdx i)) (partsB path).dropLast t)) := fun r hr => by
      unfold repealC
      show (match arW t (partsB path) with | none => COut.bad 5 | some (x, i) => .ok (setW (fun _ => x.setKids (x.kids.eraseIdx i)) (partsB path).dropLast t)) = _
      rw [hr]
    have HPl : Hid ((partsB path).length ≤ 100000) := by show _ ≤ _; have := parts_len path; omega
    clear hWB h hF hE y0 y2 y3 y4 y5 y6 y7 y8 y9 hbx hb0
    generalize repealC t ⟨kind, path, at', text, new, line, item⟩ = r at *
    generalize partsB path = ps at *
    go_enter Tryz.func33, Tryz.ntmps33
    go_upto_region 1 with fail
    rw [← HX.out]
    go_wp2_with fail
    refine HLb.out.mono ?_
    rintro e w1 ⟨⟨pa, pc, rfl, hst, hpc⟩, hb1⟩
    have hbw1 := HB0.out.trans (hb1.mono HB0.out.size)
    have HAr := hidLL (around_a (H0.out.on hbw1) HF.out hst HPl.out hpc)
    have HB1 := hidLL hbw1
    clear hst hpc hb1 hbw1
    go_wp2_with fail
    refine HAr.out.mono ?_
    rintro e w2 ⟨har, hb2⟩
    unfold ArO at har
    cases hq : arW t ps with
    | none =>
      rw [hq] at har
      have har : e = _ := har
      subst har
      have HO := hidLL (HR.out _ hq)
      have hbw2 := HB1.out.trans (hb2.mono HB1.out.size)
      have e1 : w2.cell? ⟨4, 0, none⟩ = some (.iface 214 (.pointer (some (p 4)))) := (HEn.out _ hbw2).L.cell 4 (by omega)
      have HB2 := hidLL hbw2
      clear hq hb2 hbw2
      go_wp2
      go_ret
      rw [HO.out]
      exact ⟨by omega, EO.err 4 (by omega), HB2.out.mono hB⟩
    | some xi =>
      obtain ⟨x, i⟩ := xi
      rw [hq] at har
      obtain ⟨b', o', S', v', rfl, hf1⟩ := har
      have HO := hidLL (HR.out _ hq)
      have hbw2 := HB1.out.trans (hb2.mono HB1.out.size)
      have hf := hf1.on (by have := H0.out.lt; have := HB1.out.size; omega) hb2
      obtain ⟨p0, l, k, hp, h1, h2, h3, h4⟩ := ar_some hq
      have hx := find_few _ t x HF.out h1
      obtain ⟨K, T, hk⟩ := hf.at'.own.parts
      obtain ⟨ka, kc, hv3, hc3⟩ := hf.at'.kidsV
      have hdl := (List.getElem?_eq_some_iff.1 h3).1
      have hkl := hx.get.2.1
      have HD := hidLL (dropI_c hf.at' hk h3 (by omega) hv3)
      have hwr : IntKind.i64.wrap ((i : Int) + 1) = (i : Int) + 1 := by rw [IntKind.wrap_i64]; omega
      have HFo := hidLL hf
      have HB2 := hidLL hbw2
      clear hq hb2 hbw2 hf1 hf hk h1 h2 h3 h4 hp hx hv3
      generalize hkn : x.kids.length = kn at *
      clear hkn
      go_wp2_with fail
      refine HD.out.mono ?_
      rintro e w3 ⟨ra, rn, rc, rfl, hst⟩
      obtain ⟨old, hcl⟩ := hst.cell
      have hfz := hst.frz
      have HST := hidLL hst.fin
      clear hst
      go_wp2
      go_ret
      rw [HO.out]
      obtain ⟨v'', q1, _, q2⟩ := HST.out _ rfl rfl rfl rfl
      exact HFo.out.done H0.out HB2.out q2 q1 (fun q hq => .inl hq.1)
end Go.Proofs.YtpbolcjcmkmalaaGreatDoor
namespace Go.Proofs.YtpbolcjcmkmalaaGreatDoor
open Go.RowKit Go.Extern.Stop Go.Stop Go.Extern

theorem Upd.then {w w1 w2 : World} {b o : Nat} {S S3 : Nat → Prop} (h1 : Upd w w1 b o S) (h2 : Upd w1 w2 b o S3) (hs : ∀ q, q < w.heap.size → S3 q → S q) : Upd w w2 b o S := by
  refine ⟨h2.os.trans h1.os, h2.tape.trans h1.tape, h2.output.trans h1.output, Nat.le_trans h1.size h2.size, fun k hk hn hne => ?_, fun cur ty e => ?_⟩
  · exact (h2.block k (Nat.lt_of_lt_of_le hk h1.size) (fun hh => hn (hs k hk hh)) hne).trans (h1.block k hk hn hne)
  · obtain ⟨c1, e1, s1, f1⟩ := h1.here cur ty e
    obtain ⟨c2, e2, s2, f2⟩ := h2.here c1 ty e1
    exact ⟨c2, e2, s2.trans s1, fun q hq => (f2 q hq).trans (f1 q hq)⟩
theorem Upd.on {w w1 w2 : World} {b o : Nat} {S : Nat → Prop} (h1 : Upd w w1 b o S) (h2 : Below w1.heap.size w1 w2) (hb : b < w.heap.size) : Upd w w2 b o S := by
  refine ⟨h2.os.trans h1.os, h2.tape.trans h1.tape, h2.output.trans h1.output, Nat.le_trans h1.size h2.size, fun k hk hn hne => ?_, fun cur ty e => ?_⟩
  · exact (h2.block k (Nat.lt_of_lt_of_le hk h1.size)).trans (h1.block k hk hn hne)
  · obtain ⟨c1, e1, s1, f1⟩ := h1.here cur ty e
    exact ⟨c1, (h2.block b (Nat.lt_of_lt_of_le hb h1.size)).trans e1, s1, f1⟩
theorem OwnK.on {w w' : World} {B : Nat} {v : Nat → Value} {t : It} {S : Nat → Prop} {K : Nat → Nat → Value} {T : Nat → Nat → Prop} (h : OwnK w B v t S K T) (hb : Below w.heap.size w w') : OwnK w' B v t S K T :=
  ⟨h.h0, h.h1, row_step h.ln fun g _ hl => hb.block g hl, row_step h.kd fun g _ hl => hb.block g hl, h.sl, h.sk, fun i k hk => (h.hr i k hk).step (fun g hg => hb.block g ((h.hr i k hk).in g hg).2) hb.size, h.hT, h.hd, fun q hq => ⟨(h.hS q hq).1, Nat.lt_of_lt_of_le (h.hS q hq).2 hb.size⟩⟩
/-- The law without the provision. -/
theorem mv_less {w W w' : World} {B b o : Nat} {t : It} {S : Nat → Prop} {v : Nat → Value} (h0 : ItAt w B b o t S v) (hb : Below w.heap.size w W) {p0 : List ByteArray} {b1 o1 i : Nat} {x : It} {S1 : Nat → Prop} {v1 : Nat → Value} (hf : Foc W B b o t S p0 b1 o1 x S1 v1) {K : Nat → Nat → Value} {T : Nat → Nat → Prop} (hk : OwnK W B v1 x S1 K T) (hi : i < x.kids.length) {v' : Nat → Value} (q1 : ItAt w' B b1 o1 (x.setKids (x.kids.eraseIdx i)) (fun q => S1 q ∧ ¬ T i q) v') (q3 : Upd W w' b1 o1 S1) :
    ∃ S3 v3, ItAt w' B b o (lessW t x i p0) S3 v3 ∧ (∀ q, S3 q → S q ∧ ¬ T i q) ∧ Upd w w' b o S ∧ (∀ q, T i q → S q) := by
  have hT : ∀ q, T i q → S1 q := fun q hq => (hk.hT i q hi hq).1
  obtain ⟨S3, v3, e1, e2, e3⟩ := hf.back w' _ _ v' (T i) (fun _ => False) q3 q1 hT (fun _ hq => hq.elim) (fun hq => hq) (fun q hq => .inl hq)
  exact ⟨S3, v3, e1, fun q hq => (e2 q hq).resolve_right (fun h => h), e3.after hb h0.lt, fun q hq => hf.sub q (hT q hq)⟩
/-- The law with the provision at its new place. -/
theorem mv_done {w w1 W w' : World} {B b o : Nat} {t' y : It} {S S3 Ty : Nat → Prop} (hbl : b < w.heap.size) (hSl : ∀ q, S q → q < w.heap.size) (hbn : ¬ S b) (hS3 : ∀ q, S3 q → S q ∧ ¬ Ty q) (hTy : ∀ q, Ty q → S q) (hu : Upd w w1 b o S) (hb : Below w1.heap.size w1 W) {qs : List ByteArray} {b3 o3 : Nat} {z : It} {S4 S' : Nat → Prop} {v4 v' : Nat → Value} (hf : Foc W B b o t' S3 qs b3 o3 z S4 v4) (q1 : ItAt w' B b3 o3 y S' v') (q2 : ∀ q, S' q → S4 q ∨ Ty q ∨ W.heap.size ≤ q) (q3 : Upd W w' b3 o3 S4) {p : Nat → Addr} :
    ChO w B b o S p (.ok (setW (fun _ => y) qs t')) (.returned .nilIface) w' := by
  have h13 := hu.size
  have h1W := hb.size
  have hA : ∀ q, (Ty q ∨ W.heap.size ≤ q) → ¬ S3 q := fun q hq hs => by
    rcases hq with hq | hq
    · exact (hS3 q hs).2 hq
    · have := hSl q (hS3 q hs).1; omega
  have hAb : ¬ (Ty b ∨ W.heap.size ≤ b) := fun hq => by
    rcases hq with hq | hq
    · exact hbn (hTy b hq)
    · omega
  obtain ⟨S5, v5, e1, e2, e3⟩ := hf.back w' y S' v' (fun _ => False) (fun q => Ty q ∨ W.heap.size ≤ q) q3 q1 (fun _ hq => hq.elim) hA hAb (fun q hq => (q2 q hq).imp (fun h => ⟨h, fun h => h⟩) (fun h => h))
  refine ⟨rfl, S5, v5, e1, fun q hq => ?_, (hu.on hb hbl).then e3 (fun q _ hq => (hS3 q hq).1)⟩
  rcases e2 q hq with h9 | h9 | h9
  · exact .inl (hS3 q h9.1).1
  · exact .inl (hTy q h9)
  · exact .inr (by omega)
/-- The provision that goes lies apart from the place to which it goes. -/
theorem mv_apart {W : World} {B b o : Nat} {t' : It} {S S3 Ty : Nat → Prop} (hS3 : ∀ q, S3 q → S q ∧ ¬ Ty q) (hTy : ∀ q, Ty q → S q) (hbn : ¬ S b) {qs : List ByteArray} {b3 o3 : Nat} {z : It} {S4 : Nat → Prop} {v4 : Nat → Value} (hf : Foc W B b o t' S3 qs b3 o3 z S4 v4) : ∀ q, Ty q → ¬ S4 q ∧ q ≠ b3 := fun q hq => by
  refine ⟨fun h => (hS3 q (hf.sub q h)).2 hq, fun e => ?_⟩
  by_cases hq0 : qs = []
  · exact hbn (by rw [← (hf.root hq0).1, ← e]; exact hTy q hq)
  · exact (hS3 b3 (hf.inn hq0)).2 (e ▸ hq)
end Go.Proofs.YtpbolcjcmkmalaaGreatDoor
namespace Go.Proofs.YtpbolcjcmkmalaaGreatDoor
open Go.RowKit
set_option linter.unusedVariables false

def mvC0 : Oper := { dst := some 101, op := Op.move (Operand.tmp 9), type := 51, pos := "amend.go:116", after := #[], guard := none }
def mvC1 : Oper := { dst := some 102, op := Op.move (Operand.tmp 9), type := 51, pos := "amend.go:116", after := #[], guard := none }
def mvC2 : Oper := { dst := some 103, op := Op.nilCheck (Operand.tmp 102), type := 0, pos := "amend.go:116", after := #[{ on := 1, ground := Ground.data }], guard := none }
def mvC3 : Oper := { dst := some 104, op := Op.fieldAddr 25 (Operand.tmp 103) 3, type := 0, pos := "amend.go:116", after := #[{ on := 2, ground := Ground.data }], guard := none }
def mvC4 : Oper := { dst := some 105, op := Op.load 23 (Operand.tmp 104), type := 23, pos := "amend.go:116", after := #[{ on := 3, ground := Ground.data }], guard := none }
def mvC5 : Oper := { dst := some 106, op := Op.move (Operand.tmp 9), type := 51, pos := "amend.go:116", after := #[], guard := none }
def mvC6 : Oper := { dst := some 107, op := Op.nilCheck (Operand.tmp 106), type := 0, pos := "amend.go:116", after := #[{ on := 5, ground := Ground.data }], guard := none }
def mvC7 : Oper := { dst := some 108, op := Op.fieldAddr 25 (Operand.tmp 107) 3, type := 0, pos := "amend.go:116", after := #[{ on := 6, ground := Ground.data }], guard := none }
def mvC8 : Oper := { dst := some 109, op := Op.load 23 (Operand.tmp 108), type := 23, pos := "amend.go:116", after := #[{ on := 7, ground := Ground.data }], guard := none }
def mvC9 : Oper := { dst := some 110, op := Op.fieldAddr 46 (Operand.tmp 3) 2, type := 0, pos := "amend.go:116", after := #[], guard := none }
def mvC10 : Oper := { dst := some 111, op := Op.load 9 (Operand.tmp 110), type := 9, pos := "amend.go:116", after := #[{ on := 9, ground := Ground.data }], guard := none }
def mvC11 : Oper := { dst := some 112, op := Op.call { callee := Callee.value (Operand.func 76), args := #[Operand.tmp 109, Operand.tmp 111], argTypes := #[23, 9] }, type := 3, pos := "amend.go:116", after := #[{ on := 8, ground := Ground.data }, { on := 10, ground := Ground.data }], guard := none }
def mvC12 : Oper := { dst := some 113, op := Op.load 25 (Operand.tmp 10), type := 25, pos := "amend.go:116", after := #[], guard := none }
def mvC13 : Oper := { dst := some 114, op := Op.buildSlice 23 1 #[(0, Operand.tmp 113)], type := 23, pos := "amend.go:116", after := #[{ on := 12, ground := Ground.data }], guard := none }
def mvC14 : Oper := { dst := some 115, op := Op.call { callee := Callee.value (Operand.func 77), args := #[Operand.tmp 105, Operand.tmp 112, Operand.tmp 114], argTypes := #[23, 3, 23] }, type := 23, pos := "amend.go:116", after := #[{ on := 4, ground := Ground.data }, { on := 11, ground := Ground.data }, { on := 13, ground := Ground.data }, { on := 11, ground := Ground.chain }], guard := none }
def mvC15 : Oper := { dst := some 116, op := Op.nilCheck (Operand.tmp 101), type := 0, pos := "amend.go:116", after := #[{ on := 0, ground := Ground.data }, { on := 0, ground := Ground.phase }, { on := 1, ground := Ground.phase }, { on := 2, ground := Ground.phase }, { on := 3, ground := Ground.phase }, { on := 4, ground := Ground.phase }, { on := 5, ground := Ground.phase }, { on := 6, ground := Ground.phase }, { on := 7, ground := Ground.phase }, { on := 8, ground := Ground.phase }, { on := 9, ground := Ground.phase }, { on := 10, ground := Ground.phase }, { on := 11, ground := Ground.phase }, { on := 12, ground := Ground.phase }, { on := 13, ground := Ground.phase }, { on := 14, ground := Ground.phase }], guard := none }
def mvC16 : Oper := { dst := some 117, op := Op.fieldAddr 25 (Operand.tmp 116) 3, type := 0, pos := "amend.go:116", after := #[{ on := 15, ground := Ground.data }, { on := 0, ground := Ground.phase }, { on := 1, ground := Ground.phase }, { on := 2, ground := Ground.phase }, { on := 3, ground := Ground.phase }, { on := 4, ground := Ground.phase }, { on := 5, ground := Ground.phase }, { on := 6, ground := Ground.phase }, { on := 7, ground := Ground.phase }, { on := 8, ground := Ground.phase }, { on := 9, ground := Ground.phase }, { on := 10, ground := Ground.phase }, { on := 11, ground := Ground.phase }, { on := 12, ground := Ground.phase }, { on := 13, ground := Ground.phase }, { on := 14, ground := Ground.phase }], guard := none }
def mvC17 : Oper := { dst := none, op := Op.store 23 (Operand.tmp 117) (Operand.tmp 115), type := 0, pos := "amend.go:116", after := #[{ on := 16, ground := Ground.data }, { on := 14, ground := Ground.data }, { on := 14, ground := Ground.chain }, { on := 0, ground := Ground.phase }, { on := 1, ground := Ground.phase }, { on := 2, ground := Ground.phase }, { on := 3, ground := Ground.phase }, { on := 4, ground := Ground.phase }, { on := 5, ground := Ground.phase }, { on := 6, ground := Ground.phase }, { on := 7, ground := Ground.phase }, { on := 8, ground := Ground.phase }, { on := 9, ground := Ground.phase }, { on := 10, ground := Ground.phase }, { on := 11, ground := Ground.phase }, { on := 12, ground := Ground.phase }, { on := 13, ground := Ground.phase }, { on := 14, ground := Ground.phase }], guard := none }
def mvCL : List Oper := [mvC0, mvC1, mvC2, mvC3, mvC4, mvC5, mvC6, mvC7, mvC8, mvC9, mvC10, mvC11, mvC12, mvC13, mvC14, mvC15, mvC16, mvC17]
theorem seventeen {mid : List Value} (h : mid.length = 17) : ∃ u0 u1 u2 u3 u4 u5 u6 u7 u8 u9 u10 u11 u12 u13 u14 u15 u16 : Value, mid = [u0, u1, u2, u3, u4, u5, u6, u7, u8, u9, u10, u11, u12, u13, u14, u15, u16] := by
  match mid, h with
  | [u0, u1, u2, u3, u4, u5, u6, u7, u8, u9, u10, u11, u12, u13, u14, u15, u16], _ => exact ⟨_, _, _, _, _, _, _, _, _, _, _, _, _, _, _, _, _, rfl⟩
section
variable {ρ : Operand → Value} {dst : Option Tmp} {ty : TypeId} {ps : String} {af : Array Go.Edge} {g : Option (Nat × Bool)} {w : World} {x y z : Operand}
set_option maxRecDepth 20000
theorem x_ldItem {b o : Nat} {c0 c1 c2 c3 : Value} (h : ρ x = .pointer (some ⟨b, o, none⟩)) (h0 : w.cell? ⟨b, o, none⟩ = some c0) (h1 : w.cell? ⟨b, o + 1, none⟩ = some c1) (h2 : w.cell? ⟨b, o + 2, none⟩ = some c2) (h3 : w.cell? ⟨b, o + 3, none⟩ = some c3) : (execOp ρ ⟨dst, .load 25 x, ty, ps, af, g⟩).run Tryz.prog w = .ok (.value (.agg #[c0, c1, c2, c3])) w := by
  simp only [execOp, h]
  go_simp
theorem x_build1 {lab hd : ByteArray} {la ka2 : Option Addr} {ln lc kn kc2 : Nat} (h : ρ x = .agg #[.string lab, .string hd, .slice la ln lc, .slice ka2 kn kc2]) : (execOp ρ ⟨dst, .buildSlice 23 1 #[(0, x)], ty, ps, af, g⟩).run Tryz.prog w = .ok (.value (.slice (some ⟨w.heap.size, 0, none⟩) 1 1)) (w.alloc (.cells #[.string lab, .string hd, .slice la ln lc, .slice ka2 kn kc2] 25)) := by
  simp only [execOp]
  go_simp
theorem x_insert {a b c : Value} {t0 t1 t2 : TypeId} (h : ρ x = a) (h1 : ρ y = b) (h2 : ρ z = c) (hf : ρ (.func 77) = .func (.func 77) #[] #[]) : (execOp ρ ⟨dst, .call { callee := .value (.func 77), args := #[x, y, z], argTypes := #[t0, t1, t2] }, ty, ps, af, g⟩).run Tryz.prog w = .ok (.enter 77 #[a, b, c]) w := by
  simp [execOp, go_sem, h, h1, h2, hf]
theorem x_stK {b o n c : Nat} {p : Option Addr} {old : Value} (h : ρ x = .pointer (some ⟨b, o, none⟩)) (h2 : ρ y = .slice p n c) (ho : w.cell? ⟨b, o, none⟩ = some old) (hf : w.frozen? ⟨b, o, none⟩ = false) : (execOp ρ ⟨dst, .store 23 x y, ty, ps, af, g⟩).run Tryz.prog w = .ok .skip (w.setCell ⟨b, o, none⟩ (.slice p n c)) := by
  simp only [execOp, h, h2]
  go_simp
end
section
variable {S : World → Prop} {L : List Nat} {Q : Exit → Act → World → Prop} {ops : Array Oper} {P : Program} {pre mid suf : List Value} {d : List Deferred}
def NoP (Q : Exit → Act → World → Prop) : Prop := ∀ c (a : Act) (d : Option Tmp) (v : Value) (w : World), Q (.panic c) (a.put d v) w → Q (.panic c) a w
theorem ml_free {k j i n : Nat} {oi : Oper} {done : Array Bool} {w : World} (v : Value) (HP : NoP Q) (hk : pre.length = k) (hi : ops[i]? = some oi) (hd : oi.dst = some j) (hj : k ≤ j) (hm : j - k < mid.length) (hg : oi.guard = none) (hs : Region.noSelect ops = true) (hf : Region.free .any ops done i = true) (hr : (Region.ready .any ops done).contains i = true) (hcl : closedB .any ops done = true) (hy : ∀ w, (execOp (MA pre mid suf d).eval oi).run P w = .ok (.value v) w) (h : wpLast P .any ops Q S L n (done.setIfInBounds i true) (MA pre (mid.set (j - k) v) suf d) w) : wpLast P .any ops Q S L (n + 1) done (MA pre mid suf d) w := by
  refine wpLast_free hi hs hf hr hcl (fun c a w => HP c a _ _ w) hg hy ?_
  rw [hd, MA.put hk hj hm]
  exact h
theorem ml_take {k j i n : Nat} {oi : Oper} {done : Array Bool} {w : World} (v : Value) (HP : NoP Q) (hk : pre.length = k) (hi : ops[i]? = some oi) (hd : oi.dst = some j) (hj : k ≤ j) (hm : j - k < mid.length) (hg : oi.guard = none) (hs : Region.noSelect ops = true) (hf : Region.free .any ops done i = true) (hr : (Region.ready .any ops done).contains i = true) (hL : (L.all fun l => waitsT .any ops i ops.size l) = true) (hcl : closedB .any ops done = true) (hS : S w) (hy : ∀ w, S w → (execOp (MA pre mid suf d).eval oi).run P w = .ok (.value v) w) (h : wpLast P .any ops Q S L n (done.setIfInBounds i true) (MA pre (mid.set (j - k) v) suf d) w) : wpLast P .any ops Q S L (n + 1) done (MA pre mid suf d) w := by
  refine wpLast_take hi hs hf hr hL hcl (fun c a w => HP c a _ _ w) hg hy hS ?_
  rw [hd, MA.put hk hj hm]
  exact h
end
set_option maxRecDepth 20000 in
theorem mvC_end {W0 : World} {Q : Exit → Act → World → Prop} {pre suf : List Value} {d : List Deferred} {b3 o3 g0 zn kc ln lc kn kc2 j : Nat} {ka la ka2 : Option Addr} {lab hd at' : ByteArray} {R : World → Prop} {u14 u15 u16 : Value} (hk : pre.length = 101) (HP : NoP Q) (hI : ∀ V vb, Below W0.heap.size W0 V → V.heap[vb]? = some (.cells #[.string lab, .string hd, .slice la ln lc, .slice ka2 kn kc2] 25 (0, 0)) → W0.heap.size ≤ vb → Calls Tryz.prog 77 #[.slice ka zn kc, .int .i64 j, .slice (some ⟨vb, 0, none⟩) 1 1] V (fun e w' => ∃ a n c, e = .returned (.slice a n c) ∧ StC b3 o3 3 (.slice a n c) w' R))
    (hQ : ∀ m w'', m.length = 17 → R w'' → Q .normal (MA pre m suf d) w'') {V : World} {vb : Nat} (hV : Below W0.heap.size W0 V) (hv : V.heap[vb]? = some (.cells #[.string lab, .string hd, .slice la ln lc, .slice ka2 kn kc2] 25 (0, 0))) (hvb : W0.heap.size ≤ vb) {done : Array Bool}
    (r1 : Region.ready .any mvCL.toArray done = [14]) (r2 : Region.ready .any mvCL.toArray (done.setIfInBounds 14 true) = [15]) (r3 : Region.ready .any mvCL.toArray ((done.setIfInBounds 14 true).setIfInBounds 15 true) = [16]) (r4 : Region.ready .any mvCL.toArray (((done.setIfInBounds 14 true).setIfInBounds 15 true).setIfInBounds 16 true) = [17]) (r5 : Region.ready .any mvCL.toArray ((((done.setIfInBounds 14 true).setIfInBounds 15 true).setIfInBounds 16 true).setIfInBounds 17 true) = []) :
    wpLast Tryz.prog .any mvCL.toArray Q (fun V => Below W0.heap.size W0 V) [14, 15, 16, 17] 4 done (MA pre [.pointer (some ⟨b3, o3, none⟩), .pointer (some ⟨b3, o3, none⟩), .pointer (some ⟨b3, o3, none⟩), .pointer (some ⟨b3, o3 + 3, none⟩), .slice ka zn kc, .pointer (some ⟨b3, o3, none⟩), .pointer (some ⟨b3, o3, none⟩), .pointer (some ⟨b3, o3 + 3, none⟩), .slice ka zn kc, .pointer (some ⟨g0, 2, none⟩), .string at', .int .i64 j, .agg #[.string lab, .string hd, .slice la ln lc, .slice ka2 kn kc2], .slice (some ⟨vb, 0, none⟩) 1 1, u14, u15, u16] suf d) V := by
  refine wpLast_all r1 (by simp) fun j' hj' => ?_
  obtain rfl : j' = 14 := by simpa using hj'
  refine wpOp_call (o := mvC14) rfl rfl (x_insert (MA.hi hk (by decide) rfl) (MA.hi hk (by decide) rfl) (MA.hi hk (by decide) rfl) rfl) (hI V vb hV hv hvb) ?_
  rintro e V1 ⟨ra, rn, rc, rfl, hst⟩
  refine ⟨_, rfl, fun _ => .inl (by decide), ?_⟩
  rw [show (MA pre [.pointer (some ⟨b3, o3, none⟩), .pointer (some ⟨b3, o3, none⟩), .pointer (some ⟨b3, o3, none⟩), .pointer (some ⟨b3, o3 + 3, none⟩), .slice ka zn kc, .pointer (some ⟨b3, o3, none⟩), .pointer (some ⟨b3, o3, none⟩), .pointer (some ⟨b3, o3 + 3, none⟩), .slice ka zn kc, .pointer (some ⟨g0, 2, none⟩), .string at', .int .i64 j, .agg #[.string lab, .string hd, .slice la ln lc, .slice ka2 kn kc2], .slice (some ⟨vb, 0, none⟩) 1 1, u14, u15, u16] suf d).put mvC14.dst (.slice ra rn rc) = MA pre [.pointer (some ⟨b3, o3, none⟩), .pointer (some ⟨b3, o3, none⟩), .pointer (some ⟨b3, o3, none⟩), .pointer (some ⟨b3, o3 + 3, none⟩), .slice ka zn kc, .pointer (some ⟨b3, o3, none⟩), .pointer (some ⟨b3, o3, none⟩), .pointer (some ⟨b3, o3 + 3, none⟩), .slice ka zn kc, .pointer (some ⟨g0, 2, none⟩), .string at', .int .i64 j, .agg #[.string lab, .string hd, .slice la ln lc, .slice ka2 kn kc2], .slice (some ⟨vb, 0, none⟩) 1 1, .slice ra rn rc, u15, u16] suf d from MA.put hk (by decide) (by simp)]
  refine wpLast_all r2 (by simp) fun j' hj' => ?_
  obtain rfl : j' = 15 := by simpa using hj'
  refine wpOp_val (o := mvC15) rfl rfl (x_nil (q := ⟨b3, o3, none⟩) (MA.hi hk (by decide) rfl)) ⟨fun _ => .inl (by decide), ?_⟩
  rw [show (MA pre [.pointer (some ⟨b3, o3, none⟩), .pointer (some ⟨b3, o3, none⟩), .pointer (some ⟨b3, o3, none⟩), .pointer (some ⟨b3, o3 + 3, none⟩), .slice ka zn kc, .pointer (some ⟨b3, o3, none⟩), .pointer (some ⟨b3, o3, none⟩), .pointer (some ⟨b3, o3 + 3, none⟩), .slice ka zn kc, .pointer (some ⟨g0, 2, none⟩), .string at', .int .i64 j, .agg #[.string lab, .string hd, .slice la ln lc, .slice ka2 kn kc2], .slice (some ⟨vb, 0, none⟩) 1 1, .slice ra rn rc, u15, u16] suf d).put mvC15.dst (.pointer (some ⟨b3, o3, none⟩)) = MA pre [.pointer (some ⟨b3, o3, none⟩), .pointer (some ⟨b3, o3, none⟩), .pointer (some ⟨b3, o3, none⟩), .pointer (some ⟨b3, o3 + 3, none⟩), .slice ka zn kc, .pointer (some ⟨b3, o3, none⟩), .pointer (some ⟨b3, o3, none⟩), .pointer (some ⟨b3, o3 + 3, none⟩), .slice ka zn kc, .pointer (some ⟨g0, 2, none⟩), .string at', .int .i64 j, .agg #[.string lab, .string hd, .slice la ln lc, .slice ka2 kn kc2], .slice (some ⟨vb, 0, none⟩) 1 1, .slice ra rn rc, .pointer (some ⟨b3, o3, none⟩), u16] suf d from MA.put hk (by decide) (by simp)]
  refine wpLast_all r3 (by simp) fun j' hj' => ?_
  obtain rfl : j' = 16 := by simpa using hj'
  refine wpOp_val (o := mvC16) rfl rfl (x_kids (b := b3) (o := o3) (MA.hi hk (by decide) rfl)) ⟨fun _ => .inl (by decide), ?_⟩
  rw [show (MA pre [.pointer (some ⟨b3, o3, none⟩), .pointer (some ⟨b3, o3, none⟩), .pointer (some ⟨b3, o3, none⟩), .pointer (some ⟨b3, o3 + 3, none⟩), .slice ka zn kc, .pointer (some ⟨b3, o3, none⟩), .pointer (some ⟨b3, o3, none⟩), .pointer (some ⟨b3, o3 + 3, none⟩), .slice ka zn kc, .pointer (some ⟨g0, 2, none⟩), .string at', .int .i64 j, .agg #[.string lab, .string hd, .slice la ln lc, .slice ka2 kn kc2], .slice (some ⟨vb, 0, none⟩) 1 1, .slice ra rn rc, .pointer (some ⟨b3, o3, none⟩), u16] suf d).put mvC16.dst (.pointer (some ⟨b3, o3 + 3, none⟩)) = MA pre [.pointer (some ⟨b3, o3, none⟩), .pointer (some ⟨b3, o3, none⟩), .pointer (some ⟨b3, o3, none⟩), .pointer (some ⟨b3, o3 + 3, none⟩), .slice ka zn kc, .pointer (some ⟨b3, o3, none⟩), .pointer (some ⟨b3, o3, none⟩), .pointer (some ⟨b3, o3 + 3, none⟩), .slice ka zn kc, .pointer (some ⟨g0, 2, none⟩), .string at', .int .i64 j, .agg #[.string lab, .string hd, .slice la ln lc, .slice ka2 kn kc2], .slice (some ⟨vb, 0, none⟩) 1 1, .slice ra rn rc, .pointer (some ⟨b3, o3, none⟩), .pointer (some ⟨b3, o3 + 3, none⟩)] suf d from MA.put hk (by decide) (by simp)]
  refine wpLast_all r4 (by simp) fun j' hj' => ?_
  obtain rfl : j' = 17 := by simpa using hj'
  obtain ⟨old, ho⟩ := hst.cell
  refine wpOp_skip (o := mvC17) rfl rfl (x_stK (b := b3) (o := o3 + 3) (p := ra) (n := rn) (c := rc) (MA.hi hk (by decide) rfl) (MA.hi hk (by decide) rfl) ho hst.frz) ⟨fun _ => .inl (by decide), ?_⟩
  exact wpLast_done r5 (hQ _ _ rfl (hst.fin _ rfl rfl rfl rfl)) _
set_option maxRecDepth 20000 in
theorem mvC_go {W0 : World} {Q : Exit → Act → World → Prop} {pre mid suf : List Value} {d : List Deferred} {b3 o3 g0 g1 zn kc ln lc kn kc2 j : Nat} {ka la ka2 : Option Addr} {lab hd at' : ByteArray} {R : World → Prop} (hk : pre.length = 101) (hm : mid.length = 17) (HP : NoP Q) (p9 : pre[9]? = some (.pointer (some ⟨b3, o3, none⟩))) (p3 : pre[3]? = some (.pointer (some ⟨g0, 0, none⟩))) (p10 : pre[10]? = some (.pointer (some ⟨g1, 0, none⟩)))
    (hC : ∀ V, Below W0.heap.size W0 V → V.cell? ⟨b3, o3 + 3, none⟩ = some (.slice ka zn kc) ∧ V.cell? ⟨g0, 2, none⟩ = some (.string at') ∧ V.cell? ⟨g1, 0, none⟩ = some (.string lab) ∧ V.cell? ⟨g1, 1, none⟩ = some (.string hd) ∧ V.cell? ⟨g1, 2, none⟩ = some (.slice la ln lc) ∧ V.cell? ⟨g1, 3, none⟩ = some (.slice ka2 kn kc2))
    (hB : ∀ V, Below W0.heap.size W0 V → Calls Tryz.prog 76 #[.slice ka zn kc, .string at'] V fun e w' => e = .returned (.int .i64 j) ∧ Below V.heap.size V w')
    (hI : ∀ V vb, Below W0.heap.size W0 V → V.heap[vb]? = some (.cells #[.string lab, .string hd, .slice la ln lc, .slice ka2 kn kc2] 25 (0, 0)) → W0.heap.size ≤ vb → Calls Tryz.prog 77 #[.slice ka zn kc, .int .i64 j, .slice (some ⟨vb, 0, none⟩) 1 1] V (fun e w' => ∃ a n c, e = .returned (.slice a n c) ∧ StC b3 o3 3 (.slice a n c) w' R))
    (hQ : ∀ m w'', m.length = 17 → R w'' → Q .normal (MA pre m suf d) w'') {V : World} (hV : Below W0.heap.size W0 V) :
    wpLast Tryz.prog .any mvCL.toArray Q (fun V => Below W0.heap.size W0 V) [14, 15, 16, 17] 18 (Array.replicate 18 false) (MA pre mid suf d) V := by
  obtain ⟨u0, u1, u2, u3, u4, u5, u6, u7, u8, u9, u10, u11, u12, u13, u14, u15, u16, rfl⟩ := seventeen hm
  refine ml_free (i := 0) (oi := mvC0) (.pointer (some ⟨b3, o3, none⟩)) HP hk rfl rfl (by decide) (by simp) rfl (by kernel_rfl) (by kernel_rfl) (by kernel_rfl) (by kernel_rfl) (fun W => x_move (MA.lo p9)) ?_
  show wpLast _ _ _ _ _ _ _ _ (MA pre [.pointer (some ⟨b3, o3, none⟩), u1, u2, u3, u4, u5, u6, u7, u8, u9, u10, u11, u12, u13, u14, u15, u16] suf d) _
  refine ml_free (i := 1) (oi := mvC1) (.pointer (some ⟨b3, o3, none⟩)) HP hk rfl rfl (by decide) (by simp) rfl (by kernel_rfl) (by kernel_rfl) (by kernel_rfl) (by kernel_rfl) (fun W => x_move (MA.lo p9)) ?_
  show wpLast _ _ _ _ _ _ _ _ (MA pre [.pointer (some ⟨b3, o3, none⟩), .pointer (some ⟨b3, o3, none⟩), u2, u3, u4, u5, u6, u7, u8, u9, u10, u11, u12, u13, u14, u15, u16] suf d) _
  refine ml_free (i := 2) (oi := mvC2) (.pointer (some ⟨b3, o3, none⟩)) HP hk rfl rfl (by decide) (by simp) rfl (by kernel_rfl) (by kernel_rfl) (by kernel_rfl) (by kernel_rfl) (fun W => x_nil (MA.hi hk (by decide) rfl)) ?_
  show wpLast _ _ _ _ _ _ _ _ (MA pre [.pointer (some ⟨b3, o3, none⟩), .pointer (some ⟨b3, o3, none⟩), .pointer (some ⟨b3, o3, none⟩), u3, u4, u5, u6, u7, u8, u9, u10, u11, u12, u13, u14, u15, u16] suf d) _
  refine ml_free (i := 3) (oi := mvC3) (.pointer (some ⟨b3, o3 + 3, none⟩)) HP hk rfl rfl (by decide) (by simp) rfl (by kernel_rfl) (by kernel_rfl) (by kernel_rfl) (by kernel_rfl) (fun W => x_kids (MA.hi hk (by decide) rfl)) ?_
  show wpLast _ _ _ _ _ _ _ _ (MA pre [.pointer (some ⟨b3, o3, none⟩), .pointer (some ⟨b3, o3, none⟩), .pointer (some ⟨b3, o3, none⟩), .pointer (some ⟨b3, o3 + 3, none⟩), u4, u5, u6, u7, u8, u9, u10, u11, u12, u13, u14, u15, u16] suf d) _
  refine ml_take (i := 4) (oi := mvC4) (.slice ka zn kc) HP hk rfl rfl (by decide) (by simp) rfl (by kernel_rfl) (by kernel_rfl) (by kernel_rfl) (by kernel_rfl) (by kernel_rfl) hV (fun W hW => x_ldK (MA.hi hk (by decide) rfl) (hC W hW).1) ?_
  show wpLast _ _ _ _ _ _ _ _ (MA pre [.pointer (some ⟨b3, o3, none⟩), .pointer (some ⟨b3, o3, none⟩), .pointer (some ⟨b3, o3, none⟩), .pointer (some ⟨b3, o3 + 3, none⟩), .slice ka zn kc, u5, u6, u7, u8, u9, u10, u11, u12, u13, u14, u15, u16] suf d) _
  refine ml_free (i := 5) (oi := mvC5) (.pointer (some ⟨b3, o3, none⟩)) HP hk rfl rfl (by decide) (by simp) rfl (by kernel_rfl) (by kernel_rfl) (by kernel_rfl) (by kernel_rfl) (fun W => x_move (MA.lo p9)) ?_
  show wpLast _ _ _ _ _ _ _ _ (MA pre [.pointer (some ⟨b3, o3, none⟩), .pointer (some ⟨b3, o3, none⟩), .pointer (some ⟨b3, o3, none⟩), .pointer (some ⟨b3, o3 + 3, none⟩), .slice ka zn kc, .pointer (some ⟨b3, o3, none⟩), u6, u7, u8, u9, u10, u11, u12, u13, u14, u15, u16] suf d) _
  refine ml_free (i := 6) (oi := mvC6) (.pointer (some ⟨b3, o3, none⟩)) HP hk rfl rfl (by decide) (by simp) rfl (by kernel_rfl) (by kernel_rfl) (by kernel_rfl) (by kernel_rfl) (fun W => x_nil (MA.hi hk (by decide) rfl)) ?_
  show wpLast _ _ _ _ _ _ _ _ (MA pre [.pointer (some ⟨b3, o3, none⟩), .pointer (some ⟨b3, o3, none⟩), .pointer (some ⟨b3, o3, none⟩), .pointer (some ⟨b3, o3 + 3, none⟩), .slice ka zn kc, .pointer (some ⟨b3, o3, none⟩), .pointer (some ⟨b3, o3, none⟩), u7, u8, u9, u10, u11, u12, u13, u14, u15, u16] suf d) _
  refine ml_free (i := 7) (oi := mvC7) (.pointer (some ⟨b3, o3 + 3, none⟩)) HP hk rfl rfl (by decide) (by simp) rfl (by kernel_rfl) (by kernel_rfl) (by kernel_rfl) (by kernel_rfl) (fun W => x_kids (MA.hi hk (by decide) rfl)) ?_
  show wpLast _ _ _ _ _ _ _ _ (MA pre [.pointer (some ⟨b3, o3, none⟩), .pointer (some ⟨b3, o3, none⟩), .pointer (some ⟨b3, o3, none⟩), .pointer (some ⟨b3, o3 + 3, none⟩), .slice ka zn kc, .pointer (some ⟨b3, o3, none⟩), .pointer (some ⟨b3, o3, none⟩), .pointer (some ⟨b3, o3 + 3, none⟩), u8, u9, u10, u11, u12, u13, u14, u15, u16] suf d) _
  refine ml_take (i := 8) (oi := mvC8) (.slice ka zn kc) HP hk rfl rfl (by decide) (by simp) rfl (by kernel_rfl) (by kernel_rfl) (by kernel_rfl) (by kernel_rfl) (by kernel_rfl) hV (fun W hW => x_ldK (MA.hi hk (by decide) rfl) (hC W hW).1) ?_
  show wpLast _ _ _ _ _ _ _ _ (MA pre [.pointer (some ⟨b3, o3, none⟩), .pointer (some ⟨b3, o3, none⟩), .pointer (some ⟨b3, o3, none⟩), .pointer (some ⟨b3, o3 + 3, none⟩), .slice ka zn kc, .pointer (some ⟨b3, o3, none⟩), .pointer (some ⟨b3, o3, none⟩), .pointer (some ⟨b3, o3 + 3, none⟩), .slice ka zn kc, u9, u10, u11, u12, u13, u14, u15, u16] suf d) _
  refine ml_free (i := 9) (oi := mvC9) (.pointer (some ⟨g0, 2, none⟩)) HP hk rfl rfl (by decide) (by simp) rfl (by kernel_rfl) (by kernel_rfl) (by kernel_rfl) (by kernel_rfl) (fun W => x_opAt (MA.lo p3)) ?_
  show wpLast _ _ _ _ _ _ _ _ (MA pre [.pointer (some ⟨b3, o3, none⟩), .pointer (some ⟨b3, o3, none⟩), .pointer (some ⟨b3, o3, none⟩), .pointer (some ⟨b3, o3 + 3, none⟩), .slice ka zn kc, .pointer (some ⟨b3, o3, none⟩), .pointer (some ⟨b3, o3, none⟩), .pointer (some ⟨b3, o3 + 3, none⟩), .slice ka zn kc, .pointer (some ⟨g0, 2, none⟩), u10, u11, u12, u13, u14, u15, u16] suf d) _
  refine ml_take (i := 10) (oi := mvC10) (.string at') HP hk rfl rfl (by decide) (by simp) rfl (by kernel_rfl) (by kernel_rfl) (by kernel_rfl) (by kernel_rfl) (by kernel_rfl) hV (fun W hW => x_ldS (MA.hi hk (by decide) rfl) (hC W hW).2.1) ?_
  show wpLast _ _ _ _ _ _ _ _ (MA pre [.pointer (some ⟨b3, o3, none⟩), .pointer (some ⟨b3, o3, none⟩), .pointer (some ⟨b3, o3, none⟩), .pointer (some ⟨b3, o3 + 3, none⟩), .slice ka zn kc, .pointer (some ⟨b3, o3, none⟩), .pointer (some ⟨b3, o3, none⟩), .pointer (some ⟨b3, o3 + 3, none⟩), .slice ka zn kc, .pointer (some ⟨g0, 2, none⟩), .string at', u11, u12, u13, u14, u15, u16] suf d) _
  refine ml_take (i := 12) (oi := mvC12) (.agg #[.string lab, .string hd, .slice la ln lc, .slice ka2 kn kc2]) HP hk rfl rfl (by decide) (by simp) rfl (by kernel_rfl) (by kernel_rfl) (by kernel_rfl) (by kernel_rfl) (by kernel_rfl) hV (fun W hW => x_ldItem (MA.lo p10) (hC W hW).2.2.1 (hC W hW).2.2.2.1 (hC W hW).2.2.2.2.1 (hC W hW).2.2.2.2.2) ?_
  show wpLast _ _ _ _ _ _ _ _ (MA pre [.pointer (some ⟨b3, o3, none⟩), .pointer (some ⟨b3, o3, none⟩), .pointer (some ⟨b3, o3, none⟩), .pointer (some ⟨b3, o3 + 3, none⟩), .slice ka zn kc, .pointer (some ⟨b3, o3, none⟩), .pointer (some ⟨b3, o3, none⟩), .pointer (some ⟨b3, o3 + 3, none⟩), .slice ka zn kc, .pointer (some ⟨g0, 2, none⟩), .string at', u11, .agg #[.string lab, .string hd, .slice la ln lc, .slice ka2 kn kc2], u13, u14, u15, u16] suf d) _
  refine wpLast_all (rs := [11, 13]) (by kernel_rfl) (by simp) fun j' hj' => ?_
  rcases (by simpa using hj' : j' = 11 ∨ j' = 13) with rfl | rfl
  · refine wpOp_call (o := mvC11) rfl rfl (x_behind (MA.hi hk (by decide) rfl) (MA.hi hk (by decide) rfl) rfl) (hB V hV) ?_
    rintro e V1 ⟨rfl, hb1⟩
    have hV1 := hV.trans (hb1.mono hV.size)
    refine ⟨_, rfl, fun _ => .inr hV1, ?_⟩
    rw [show (MA pre [.pointer (some ⟨b3, o3, none⟩), .pointer (some ⟨b3, o3, none⟩), .pointer (some ⟨b3, o3, none⟩), .pointer (some ⟨b3, o3 + 3, none⟩), .slice ka zn kc, .pointer (some ⟨b3, o3, none⟩), .pointer (some ⟨b3, o3, none⟩), .pointer (some ⟨b3, o3 + 3, none⟩), .slice ka zn kc, .pointer (some ⟨g0, 2, none⟩), .string at', u11, .agg #[.string lab, .string hd, .slice la ln lc, .slice ka2 kn kc2], u13, u14, u15, u16] suf d).put mvC11.dst (.int .i64 j) = MA pre [.pointer (some ⟨b3, o3, none⟩), .pointer (some ⟨b3, o3, none⟩), .pointer (some ⟨b3, o3, none⟩), .pointer (some ⟨b3, o3 + 3, none⟩), .slice ka zn kc, .pointer (some ⟨b3, o3, none⟩), .pointer (some ⟨b3, o3, none⟩), .pointer (some ⟨b3, o3 + 3, none⟩), .slice ka zn kc, .pointer (some ⟨g0, 2, none⟩), .string at', .int .i64 j, .agg #[.string lab, .string hd, .slice la ln lc, .slice ka2 kn kc2], u13, u14, u15, u16] suf d from MA.put hk (by decide) (by simp)]
    refine wpLast_all (rs := [13]) (by kernel_rfl) (by simp) fun j' hj' => ?_
    obtain rfl : j' = 13 := by simpa using hj'
    refine wpOp_val (o := mvC13) rfl rfl (x_build1 (lab := lab) (hd := hd) (la := la) (ln := ln) (lc := lc) (ka2 := ka2) (kn := kn) (kc2 := kc2) (MA.hi hk (by decide) rfl)) ⟨fun _ => .inr (hV1.alloc hV1.size _), ?_⟩
    rw [show (MA pre [.pointer (some ⟨b3, o3, none⟩), .pointer (some ⟨b3, o3, none⟩), .pointer (some ⟨b3, o3, none⟩), .pointer (some ⟨b3, o3 + 3, none⟩), .slice ka zn kc, .pointer (some ⟨b3, o3, none⟩), .pointer (some ⟨b3, o3, none⟩), .pointer (some ⟨b3, o3 + 3, none⟩), .slice ka zn kc, .pointer (some ⟨g0, 2, none⟩), .string at', .int .i64 j, .agg #[.string lab, .string hd, .slice la ln lc, .slice ka2 kn kc2], u13, u14, u15, u16] suf d).put mvC13.dst (.slice (some ⟨V1.heap.size, 0, none⟩) 1 1) = MA pre [.pointer (some ⟨b3, o3, none⟩), .pointer (some ⟨b3, o3, none⟩), .pointer (some ⟨b3, o3, none⟩), .pointer (some ⟨b3, o3 + 3, none⟩), .slice ka zn kc, .pointer (some ⟨b3, o3, none⟩), .pointer (some ⟨b3, o3, none⟩), .pointer (some ⟨b3, o3 + 3, none⟩), .slice ka zn kc, .pointer (some ⟨g0, 2, none⟩), .string at', .int .i64 j, .agg #[.string lab, .string hd, .slice la ln lc, .slice ka2 kn kc2], .slice (some ⟨V1.heap.size, 0, none⟩) 1 1, u14, u15, u16] suf d from MA.put hk (by decide) (by simp)]
    exact mvC_end hk HP hI hQ (hV1.alloc hV1.size _) (heap_alloc_new _ _) hV1.size (by kernel_rfl) (by kernel_rfl) (by kernel_rfl) (by kernel_rfl) (by kernel_rfl)
  · refine wpOp_val (o := mvC13) rfl rfl (x_build1 (lab := lab) (hd := hd) (la := la) (ln := ln) (lc := lc) (ka2 := ka2) (kn := kn) (kc2 := kc2) (MA.hi hk (by decide) rfl)) ⟨fun _ => .inr (hV.alloc hV.size _), ?_⟩
    rw [show (MA pre [.pointer (some ⟨b3, o3, none⟩), .pointer (some ⟨b3, o3, none⟩), .pointer (some ⟨b3, o3, none⟩), .pointer (some ⟨b3, o3 + 3, none⟩), .slice ka zn kc, .pointer (some ⟨b3, o3, none⟩), .pointer (some ⟨b3, o3, none⟩), .pointer (some ⟨b3, o3 + 3, none⟩), .slice ka zn kc, .pointer (some ⟨g0, 2, none⟩), .string at', u11, .agg #[.string lab, .string hd, .slice la ln lc, .slice ka2 kn kc2], u13, u14, u15, u16] suf d).put mvC13.dst (.slice (some ⟨V.heap.size, 0, none⟩) 1 1) = MA pre [.pointer (some ⟨b3, o3, none⟩), .pointer (some ⟨b3, o3, none⟩), .pointer (some ⟨b3, o3, none⟩), .pointer (some ⟨b3, o3 + 3, none⟩), .slice ka zn kc, .pointer (some ⟨b3, o3, none⟩), .pointer (some ⟨b3, o3, none⟩), .pointer (some ⟨b3, o3 + 3, none⟩), .slice ka zn kc, .pointer (some ⟨g0, 2, none⟩), .string at', u11, .agg #[.string lab, .string hd, .slice la ln lc, .slice ka2 kn kc2], .slice (some ⟨V.heap.size, 0, none⟩) 1 1, u14, u15, u16] suf d from MA.put hk (by decide) (by simp)]
    refine wpLast_all (rs := [11]) (by kernel_rfl) (by simp) fun j' hj' => ?_
    obtain rfl : j' = 11 := by simpa using hj'
    have hvA := heap_alloc_new V (.cells #[.string lab, .string hd, .slice la ln lc, .slice ka2 kn kc2] 25)
    refine wpOp_call (o := mvC11) rfl rfl (x_behind (MA.hi hk (by decide) rfl) (MA.hi hk (by decide) rfl) rfl) (hB _ (hV.alloc hV.size _)) ?_
    rintro e V1 ⟨rfl, hb1⟩
    have hVa := hV.alloc hV.size (.cells #[.string lab, .string hd, .slice la ln lc, .slice ka2 kn kc2] 25)
    have hV1 := hVa.trans (hb1.mono hVa.size)
    refine ⟨_, rfl, fun _ => .inr hV1, ?_⟩
    rw [show (MA pre [.pointer (some ⟨b3, o3, none⟩), .pointer (some ⟨b3, o3, none⟩), .pointer (some ⟨b3, o3, none⟩), .pointer (some ⟨b3, o3 + 3, none⟩), .slice ka zn kc, .pointer (some ⟨b3, o3, none⟩), .pointer (some ⟨b3, o3, none⟩), .pointer (some ⟨b3, o3 + 3, none⟩), .slice ka zn kc, .pointer (some ⟨g0, 2, none⟩), .string at', u11, .agg #[.string lab, .string hd, .slice la ln lc, .slice ka2 kn kc2], .slice (some ⟨V.heap.size, 0, none⟩) 1 1, u14, u15, u16] suf d).put mvC11.dst (.int .i64 j) = MA pre [.pointer (some ⟨b3, o3, none⟩), .pointer (some ⟨b3, o3, none⟩), .pointer (some ⟨b3, o3, none⟩), .pointer (some ⟨b3, o3 + 3, none⟩), .slice ka zn kc, .pointer (some ⟨b3, o3, none⟩), .pointer (some ⟨b3, o3, none⟩), .pointer (some ⟨b3, o3 + 3, none⟩), .slice ka zn kc, .pointer (some ⟨g0, 2, none⟩), .string at', .int .i64 j, .agg #[.string lab, .string hd, .slice la ln lc, .slice ka2 kn kc2], .slice (some ⟨V.heap.size, 0, none⟩) 1 1, u14, u15, u16] suf d from MA.put hk (by decide) (by simp)]
    exact mvC_end hk HP hI hQ hV1 ((hb1.block _ (by simp)).trans hvA) hV.size (by kernel_rfl) (by kernel_rfl) (by kernel_rfl) (by kernel_rfl) (by kernel_rfl)
end Go.Proofs.YtpbolcjcmkmalaaGreatDoor
