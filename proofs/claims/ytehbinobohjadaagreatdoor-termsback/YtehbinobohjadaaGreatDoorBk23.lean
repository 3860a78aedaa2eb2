/-
  The program's Read: is a line a sentence; what is caught.
-/
import Derived.Test.YtehbinobohjadaaGreatDoorBk15
import Derived.Test.YtehbinobohjadaaGreatDoorBk22
import Derived.Defers
import Derived.Recover
import Derived.Stop.Asserts
import Derived.Laws.Tables
import Derived.Test.YtehbinobohjadaaGreatDoorBk00
import Derived.Lib.Bytes
namespace Go.Proofs.YtehbinobohjadaaGreatDoor
open Go.RowKit Go.Extern.Stop Go.Stop Go.Extern

/-- What stands ahead of the first blank. -/
def cutL (s : ByteArray) : ByteArray := ⟨(Lib.cut s.data.toList [32]).1.toArray⟩
def isSentB (s : ByteArray) : Bool := (Lib.cut s.data.toList [32]).2.2 && (placeIn kindsW (cutL s)).isSome
set_option maxHeartbeats 1000000 in
theorem isSentence_q (s : ByteArray) (hs : s.size ≤ 100000) (m : Int) (w : World) (hm : w.cell? ⟨12, 0, none⟩ = some (.int .i64 m)) :
    Calls Tryz.prog 14 #[.string s] w fun e w' => e = .returned (.bool (isSentB s)) ∧ ∃ n, w' = w.drewN n := by
  have HC : Hid (Calls Tryz.prog 33 #[.string s, .string ⟨#[32]⟩] w fun e w' => e = .returned (.tuple #[.string (cutL s), .string ⟨(Lib.cut s.data.toList [32]).2.1.toArray⟩, .bool (Lib.cut s.data.toList [32]).2.2]) ∧ ∃ n, w' = w.drewN n) := Go.Proofs.Tryz.strings_Cut s ⟨#[32]⟩ m w (by omega) hm
  obtain ⟨O, hO⟩ : ∃ O, O = isSentB s := ⟨_, rfl⟩
  rw [← hO]
  unfold isSentB at hO
  have HO := hidLL hO
  clear hO hm hs
  generalize cutL s = x at *
  generalize (⟨(Lib.cut s.data.toList [32]).2.1.toArray⟩ : ByteArray) = y at *
  cases hb : (Lib.cut s.data.toList [32]).2.2
  · rw [hb] at HC HO
    clear hb
    go_enter Tryz.func14, Tryz.ntmps14
    go_wp2_with (go_at_call 33; refine HC.out.mono ?_; rintro e w' ⟨rfl, n, h9⟩; have HW := hidLL h9; clear h9)
    go_ret
    exact ⟨retB (by rw [HO.out]; rfl), _, HW.out⟩
  · rw [hb] at HC HO
    clear hb
    cases h0 : (x.toList == [100, 101, 102, 105, 110, 101])
    · cases h1 : (x.toList == [114, 117, 108, 101])
      · cases h2 : (x.toList == [97, 109, 111, 117, 110, 116])
        · cases h3 : (x.toList == [100, 117, 116, 121])
          · have HR : Hid ((placeIn kindsW x).isSome = false) := place_miss (by
              intro z hz
              simp only [kindsW, List.mem_cons, List.not_mem_nil, or_false] at hz
              rcases hz with rfl | rfl | rfl | rfl
              · exact h0
              · exact h1
              · exact h2
              · exact h3)
            go_enter Tryz.func14, Tryz.ntmps14
            go_wp2_with (go_at_call 33; refine HC.out.mono ?_; rintro e w' ⟨rfl, n, h9⟩; have HW := hidLL h9; clear h9)
            go_ret
            exact ⟨retB (by rw [HO.out, HR.out]; rfl), _, HW.out⟩
          · have HR : Hid ((placeIn kindsW x).isSome = true) := place_hit _ h3 wDuty (by simp [kindsW]) rfl
            go_enter Tryz.func14, Tryz.ntmps14
            go_wp2_with (go_at_call 33; refine HC.out.mono ?_; rintro e w' ⟨rfl, n, h9⟩; have HW := hidLL h9; clear h9)
            go_ret
            exact ⟨retB (by rw [HO.out, HR.out]; rfl), _, HW.out⟩
        · have HR : Hid ((placeIn kindsW x).isSome = true) := place_hit _ h2 wAmount (by simp [kindsW]) rfl
          go_enter Tryz.func14, Tryz.ntmps14
          go_wp2_with (go_at_call 33; refine HC.out.mono ?_; rintro e w' ⟨rfl, n, h9⟩; have HW := hidLL h9; clear h9)
          go_ret
          exact ⟨retB (by rw [HO.out, HR.out]; rfl), _, HW.out⟩
      · have HR : Hid ((placeIn kindsW x).isSome = true) := place_hit _ h1 wRule (by simp [kindsW]) rfl
        go_enter Tryz.func14, Tryz.ntmps14
        go_wp2_with (go_at_call 33; refine HC.out.mono ?_; rintro e w' ⟨rfl, n, h9⟩; have HW := hidLL h9; clear h9)
        go_ret
        exact ⟨retB (by rw [HO.out, HR.out]; rfl), _, HW.out⟩
    · have HR : Hid ((placeIn kindsW x).isSome = true) := place_hit _ h0 wDefine (by simp [kindsW]) rfl
      go_enter Tryz.func14, Tryz.ntmps14
      go_wp2_with (go_at_call 33; refine HC.out.mono ?_; rintro e w' ⟨rfl, n, h9⟩; have HW := hidLL h9; clear h9)
      go_ret
      exact ⟨retB (by rw [HO.out, HR.out]; rfl), _, HW.out⟩
theorem Tryz.asThrown (v : Value) (xT : TypeId) (w : World) : (Instr.typeAssert (.iface 88 v) xT 88 true).run Tryz.prog w = .ok (.tuple #[v, .bool true]) w := by
  simp [Instr.typeAssert, run_underlying Tryz.underlying88]
set_option maxHeartbeats 1000000 in
theorem caught_q (t : TypeId) (p : Value) (w : World) :
    Calls Tryz.prog 16 #[.iface 88 (.agg #[.iface t p])] w fun e w' => e = .returned (.iface t p) ∧ Below w.heap.size w w' := by
  have hta := Tryz.asThrown
  go_enter Tryz.func16, Tryz.ntmps16
  go_wp2
  go_ret
  exact ⟨rfl, (Below.refl _ _).alloc (Nat.le_refl _) _⟩
end Go.Proofs.YtehbinobohjadaaGreatDoor
namespace Go.Proofs.YtehbinobohjadaaGreatDoor
open Go.RowKit Go.Extern.Stop Go.Stop Go.Extern

/-- No sentence, cell by cell. -/
def zS : Array Value := #[.string ⟨#[]⟩, .string ⟨#[]⟩, .int .i64 0, .bool false, .string ⟨#[]⟩, .string ⟨#[]⟩, .string ⟨#[]⟩, .int .i64 0, .slice none 0 0, .string ⟨#[]⟩, .string ⟨#[]⟩, .int .i64 0, .slice none 0 0, .int .i64 0, .slice none 0 0, .int .i64 0, .int .i64 0, .int .i64 0, .string ⟨#[]⟩]
theorem zS_size : zS.size = 19 := rfl
theorem zS_one : zS.all (·.oneCell') = true := by unfold zS; simp [Value.oneCell']
theorem builtZ : Tryz.prog.built 30 [] = some zS := by kernel_rfl
theorem wpList_buildZ {ops : Array Oper} {rest : List Oper} {o : Oper} {a : Act} {w : World} {Q : Exit → Act → World → Prop} (hg : o.guard = none) (ho : o.op = .build 30 #[])
    (h : wpList Tryz.prog ops Q rest (a.put o.dst (.agg zS)) w) : wpList Tryz.prog ops Q (o :: rest) a w :=
  have hp : ((#[] : Array (Nat × Operand)).map fun (i, x) => (i, a.eval x)).toList = [] := by simp
  wpList_build hg 30 #[] ho (by rw [hp, builtZ]; rfl) (by rw [hp, builtZ]; exact h)
/-- The three boxes of what Read answers. -/
structure RBx (w : World) (bs bi be : Nat) (cs : Array Value) (b : Bool) (ev : Value) : Prop where
  s : w.heap[bs]? = some (.cells cs 30 (0, 0))
  i : w.heap[bi]? = some (.cells #[.bool b] 4 (0, 0))
  e : w.heap[be]? = some (.cells #[ev] 32 (0, 0))
  z : cs.size = 19
/-- All blocks but the three stay. -/
structure Fr3 (bs bi be : Nat) (w w' : World) : Prop where
  os : w'.os = w.os
  tape : w'.tape = w.tape
  output : w'.output = w.output
  size : w.heap.size ≤ w'.heap.size
  block : ∀ k, k < w.heap.size → k ≠ bs → k ≠ bi → k ≠ be → w'.heap[k]? = w.heap[k]?
theorem RBx.cell_i {w : World} {bs bi be : Nat} {cs : Array Value} {b : Bool} {ev : Value} (h : RBx w bs bi be cs b ev) : w.cell? ⟨bi, 0, none⟩ = some (.bool b) ∧ w.frozen? ⟨bi, 0, none⟩ = false := by
  constructor <;> simp [World.cell?, World.frozen?, h.i]
theorem RBx.cell_e {w : World} {bs bi be : Nat} {cs : Array Value} {b : Bool} {ev : Value} (h : RBx w bs bi be cs b ev) : w.cell? ⟨be, 0, none⟩ = some ev ∧ w.frozen? ⟨be, 0, none⟩ = false := by
  constructor <;> simp [World.cell?, World.frozen?, h.e]
theorem Fr3.setRow {bs bi be : Nat} {w w' : World} (h : Fr3 bs bi be w w') (cs : Array Value) : Fr3 bs bi be w (w'.setRow bs cs) := ⟨h.os, h.tape, h.output, by rw [size_setRow]; exact h.size, fun k hk h1 h2 h3 => (heap_setRow_ne h1).trans (h.block k hk h1 h2 h3)⟩
theorem Fr3.set {bs bi be : Nat} {w w' : World} (h : Fr3 bs bi be w w') {b : Nat} (hb : b = bi ∨ b = be) (v : Value) : Fr3 bs bi be w (w'.setCell ⟨b, 0, none⟩ v) := ⟨h.os, h.tape, h.output, by simpa using h.size, fun k hk h1 h2 h3 => (Below.heap_setCell _ _ _ _ (by rcases hb with rfl | rfl <;> assumption)).trans (h.block k hk h1 h2 h3)⟩
theorem Fr3.of {bs bi be : Nat} {w w' : World} (h : Below w.heap.size w w') : Fr3 bs bi be w w' := ⟨h.os, h.tape, h.output, h.size, fun k hk _ _ _ => h.block k hk⟩
theorem Fr3.trans {bs bi be : Nat} {a b c : World} (h : Fr3 bs bi be a b) (k : Fr3 bs bi be b c) : Fr3 bs bi be a c := ⟨k.os.trans h.os, k.tape.trans h.tape, k.output.trans h.output, Nat.le_trans h.size k.size, fun i hi h1 h2 h3 => (k.block i (Nat.lt_of_lt_of_le hi h.size) h1 h2 h3).trans (h.block i hi h1 h2 h3)⟩
theorem Fr3.below {bs bi be : Nat} {w w' : World} {B : Nat} (h : Fr3 bs bi be w w') (hB : B ≤ w.heap.size) (h1 : B ≤ bs) (h2 : B ≤ bi) (h3 : B ≤ be) : Below B w w' := ⟨h.os, h.tape, h.output, h.size, fun k hk => h.block k (by omega) (by omega) (by omega) (by omega)⟩
theorem RBx.below {w w' : World} {bs bi be : Nat} {cs : Array Value} {b : Bool} {ev : Value} (h : RBx w bs bi be cs b ev) (hb : Below w.heap.size w w') : RBx w' bs bi be cs b ev :=
  ⟨(hb.block bs (Array.getElem?_eq_some_iff.1 h.s).1).trans h.s, (hb.block bi (Array.getElem?_eq_some_iff.1 h.i).1).trans h.i, (hb.block be (Array.getElem?_eq_some_iff.1 h.e).1).trans h.e, h.z⟩
theorem RBx.setRow {w : World} {bs bi be : Nat} {cs : Array Value} {b : Bool} {ev : Value} (h : RBx w bs bi be cs b ev) (h1 : bs ≠ bi) (h2 : bs ≠ be) {cs' : Array Value} (hz : cs'.size = 19 := by rfl) : RBx (w.setRow bs cs') bs bi be cs' b ev :=
  ⟨heap_setRow h.s, (heap_setRow_ne h1.symm).trans h.i, (heap_setRow_ne h2.symm).trans h.e, hz⟩
theorem RBx.setI {w : World} {bs bi be : Nat} {cs : Array Value} {b : Bool} {ev : Value} (h : RBx w bs bi be cs b ev) (h1 : bs ≠ bi) (h3 : bi ≠ be) (b' : Bool) : RBx (w.setCell ⟨bi, 0, none⟩ (.bool b')) bs bi be cs b' ev :=
  ⟨(Below.heap_setCell _ _ _ _ h1).trans h.s, heap_set h.i _, (Below.heap_setCell _ _ _ _ h3.symm).trans h.e, h.z⟩
theorem RBx.setE {w : World} {bs bi be : Nat} {cs : Array Value} {b : Bool} {ev : Value} (h : RBx w bs bi be cs b ev) (h2 : bs ≠ be) (h3 : bi ≠ be) (ev' : Value) : RBx (w.setCell ⟨be, 0, none⟩ ev') bs bi be cs b ev' :=
  ⟨(Below.heap_setCell _ _ _ _ h2).trans h.s, (Below.heap_setCell _ _ _ _ h3).trans h.i, heap_set h.e _, h.z⟩
def isThrown (t : TypeId) (p : Value) (r : Bool) : PanicEntry := { v := .iface 88 (.agg #[.iface t p]), recovered := r }
def CatR (bs bi be : Nat) (t : TypeId) (p : Value) (older : List PanicEntry) (w : World) (e : Ending) (u' : FrameMode) (w' : World) : Prop :=
  e = .returned (.tuple #[]) ∧ u' = .panicking (isThrown t p true :: older) ∧ RBx w' bs bi be zS true (.iface t p) ∧ Fr3 bs bi be w w'
set_option maxHeartbeats 1000000 in
theorem catch_p {bs bi be : Nat} {cs : Array Value} {b : Bool} {ev : Value} {w : World} (h : RBx w bs bi be cs b ev) (h1 : bs ≠ bi) (h2 : bs ≠ be) (h3 : bi ≠ be) (t : TypeId) (p : Value) (older : List PanicEntry) :
    CallsD Tryz.prog 15 #[.pointer (some ⟨bs, 0, none⟩), .pointer (some ⟨bi, 0, none⟩), .pointer (some ⟨be, 0, none⟩)] (.panicking (isThrown t p false :: older)) w (CatR bs bi be t p older w) := by
  have hci := h.cell_i
  have hce := h.cell_e
  refine callsD_of_wpS Tryz.func15 rfl fun c₀ fs hu => ?_
  apply wpS_seq
  apply wpS_region
  simp [wpOpsS, go_sem, recoverD, hu, isThrown, Tryz.ntmps15, Exit.thenS]
  apply wpS_seq
  apply wpS_region
  simp [wpOpsS, go_sem, Exit.thenS]
  refine wpS_cond (t := true) (by simp [Act.eval, Array.replicate]) ?_
  simp only [if_true]
  refine wpS_of_wp ?_
  have et : (#[Value.pointer (some ⟨bs, 0, none⟩), Value.pointer (some ⟨bi, 0, none⟩), Value.pointer (some ⟨be, 0, none⟩)] ++ ((((Array.replicate 7 undef).setIfInBounds 1 (Value.iface 88 (Value.agg #[Value.iface t p]))).setIfInBounds 0 (Value.iface 88 (Value.agg #[Value.iface t p]))).setIfInBounds 2 (Value.iface 88 (Value.agg #[Value.iface t p]))).setIfInBounds 3 (Value.bool true)) = #[Value.pointer (some ⟨bs, 0, none⟩), Value.pointer (some ⟨bi, 0, none⟩), Value.pointer (some ⟨be, 0, none⟩), .iface 88 (.agg #[.iface t p]), .iface 88 (.agg #[.iface t p]), .iface 88 (.agg #[.iface t p]), .bool true, undef, undef, undef] := rfl
  rw [et]
  clear et
  have HC := hidLL (fun W => caught_q t p W)
  have HF : Hid (∀ W, Below w.heap.size w W → RBx W bs bi be cs b ev) := fun W hb => h.below hb
  have hz := h.z
  clear hci hce
  go_wp2_with (first | (refine wpList_buildZ rfl rfl ?_) | (go_at_call 16; refine (HC.out _).mono ?_; rintro e w1 ⟨rfl, hb1⟩; (have HB := hidLL hb1); (have HX := hidLL (HF.out w1 hb1)); (have HY := hidLL (HX.out.setRow h1 h2 (cs' := zS))); (obtain ⟨ci, fi⟩ := HY.out.cell_i); (obtain ⟨ce, fe⟩ := HY.out.cell_e); clear hb1) | (refine wpList_store_row rfl 30 (.tmp 0) (.tmp 7) rfl bs zS (by simp [Act.eval]) (by simp [Act.eval]) 30 cs HX.out.s (infoSent.trans (by rw [zS_size])) (by rw [hz, zS_size]) zS_one ?_))
  have hR : CatR bs bi be t p older w (.returned (.tuple #[])) (.panicking (isThrown t p true :: older)) (((w1.setRow bs zS).setCell ⟨bi, 0, none⟩ (.bool true)).setCell ⟨be, 0, none⟩ (.iface t p)) :=
    ⟨rfl, rfl, (HY.out.setI h1 h3 true).setE h2 h3 _, (((Fr3.of HB.out).setRow zS).set (.inl rfl) _).set (.inr rfl) _⟩
  simp [bodyPostS, results, Tryz.results15]
  exact hR
theorem catch_i (bs bi be : Nat) (w : World) :
    CallsD Tryz.prog 15 #[.pointer (some ⟨bs, 0, none⟩), .pointer (some ⟨bi, 0, none⟩), .pointer (some ⟨be, 0, none⟩)] .returning w fun e u' w' => e = .returned (.tuple #[]) ∧ u' = .returning ∧ w' = w := by
  refine callsD_of_wpS Tryz.func15 rfl fun c₀ fs hu => ?_
  apply wpS_seq
  apply wpS_region
  simp [wpOpsS, go_sem, recoverD, hu, Tryz.ntmps15, Exit.thenS]
  apply wpS_seq
  apply wpS_region
  simp [wpOpsS, go_sem, Exit.thenS]
  refine wpS_cond (t := false) (by simp [Act.eval, Array.replicate]) ?_
  simp only [Bool.false_eq_true, if_false]
  refine wpS_of_wp (wp_skip ?_)
  cases c₀
  simp_all [bodyPostS, results, Tryz.results15]
end Go.Proofs.YtehbinobohjadaaGreatDoor
namespace Go.Proofs.YtehbinobohjadaaGreatDoor
open Go.RowKit Go.Extern.Stop Go.Stop Go.Extern

theorem PR.bind_okE {α β : Type} {r : PR α} {f : α → Nat → Nat → PR β} {y : β} {k n : Nat} (h : r.bind f = .ok y k n) : ∃ x k1 n1, r = .ok x k1 n1 ∧ f x k1 n1 = .ok y k n := by
  cases r with
  | out => cases h
  | bad c a => cases h
  | ok x k1 n1 => exact ⟨x, k1, n1, rfl, h⟩
/-- Tokens of which none is a bad one; the last is the end. -/
structure GoodL (L : List Tok) : Prop where
  nx : ∀ k, k < L.length → (tokAt L k).kind ≠ .e → k + 1 < L.length
  tx : ∀ k, (tokAt L k).kind = .e → (tokAt L k).text.toList = []
  nb : ∀ k, (tokAt L k).kind ≠ .b
  fw : ∀ k, (tokAt L k).kind = .w → ∃ c r, (tokAt L k).text.toList = c :: r ∧ lowC c = true
  fn : ∀ k, (tokAt L k).kind = .n → ∃ c r, (tokAt L k).text.toList = c :: r ∧ numC c = true
theorem tok_lt {L : List Tok} {k : Nat} (h : (tokAt L k).text.toList ≠ []) : k < L.length := by
  rcases Nat.lt_or_ge k L.length with q | q
  · exact q
  · exfalso
    apply h
    unfold tokAt
    rw [List.getElem?_eq_none q]
    show (ByteArray.toList ⟨#[]⟩) = []
    rw [Lib.toList_data]
theorem GoodL.step {L : List Tok} (h : GoodL L) {k : Nat} (n : Nat) (ht : (tokAt L k).text.toList ≠ []) : stepP L k n = .ok () (k + 1) n := by
  have h1 := tok_lt ht
  have h2 : (tokAt L k).kind ≠ .e := fun e => ht (h.tx k e)
  have h3 := h.nx k h1 h2
  have h4 : nextK L k = k + 1 := by unfold nextK; rw [if_pos h3]
  unfold stepP
  rw [h4, if_neg (h.nb _)]
theorem eq_text {L : List Tok} {s : ByteArray} {k : Nat} (h : isQ L s k = true) : (tokAt L k).text.toList = s.toList := by
  unfold isQ eqB at h
  simpa using h
theorem GoodL.is {L : List Tok} (h : GoodL L) {s : ByteArray} (hs : s.toList ≠ []) (k : Nat) : isP L s k = isQ L s k := by
  unfold isP
  cases hq : isQ L s k
  · unfold isQ at hq; rw [hq]; simp
  · have h1 : (tokAt L k).kind ≠ .e := fun e => hs (by rw [← eq_text hq]; exact h.tx k e)
    unfold isQ at hq
    rw [hq, decide_eq_true h1]; rfl
theorem GoodL.need {L : List Tok} (h : GoodL L) {s : ByteArray} (hs : s.toList ≠ []) {k n k' n' : Nat} {x : Unit} (e : needQ L s k n = .ok x k' n') (m : Nat) : needP L s k m = .ok () (k + 1) m ∧ k' = k + 1 ∧ n' = n := by
  unfold needQ at e
  split at e
  · rename_i hq
    injection e with _ e1 e2
    unfold needP
    rw [h.is hs, if_pos hq]
    exact ⟨h.step m (by rw [eq_text hq]; exact hs), e1.symm, e2.symm⟩
  · cases e
theorem GoodL.take {L : List Tok} (h : GoodL L) {s : ByteArray} (hs : s.toList ≠ []) (k n : Nat) : takeP L s k n = if isQ L s k = true then .ok true (k + 1) n else .ok false k n := by
  unfold takeP
  rw [h.is hs]
  by_cases hq : isQ L s k = true
  · rw [if_pos hq, if_pos hq, h.step n (by rw [eq_text hq]; exact hs)]; rfl
  · rw [if_neg hq, if_neg hq]
theorem GoodL.word {L : List Tok} (h : GoodL L) {k : Nat} (hk : (tokAt L k).kind = .w) : (tokAt L k).text.toList ≠ [] := by
  obtain ⟨c, r, e, _⟩ := h.fw k hk
  rw [e]; simp
theorem GoodL.name {L : List Tok} (h : GoodL L) {k n k' n' : Nat} {x : ByteArray} (e : nameQ L k n = .ok x k' n') : nameP L k n = .ok x k' n' ∧ k' = k + 1 ∧ n' = n ∧ x = (tokAt L k).text := by
  unfold nameQ at e
  split at e
  · rename_i hq
    injection e with e0 e1 e2
    have h1 := hq.1
    unfold nameTok at h1
    simp at h1
    have h5 : nameP L k n = .ok x k' n' := by
      unfold nameP
      rw [if_pos ⟨h1.1, h1.2⟩, h.step n (h.word h1.1), PR.bind_ok, e0, e1, e2]
    exact ⟨h5, e1.symm, e2.symm, e0.symm⟩
  · cases e
theorem GoodL.sign {L : List Tok} (h : GoodL L) {k : Nat} {c : UInt8} {r : List UInt8} (e : (tokAt L k).text.toList = c :: r) (h1 : lowC c = false) (h2 : numC c = false) : (tokAt L k).kind = .s := by
  cases hk : (tokAt L k).kind with
  | w => obtain ⟨d, r', e', hd⟩ := h.fw k hk; rw [e] at e'; injection e' with e1 _; rw [← e1, h1] at hd; cases hd
  | n => obtain ⟨d, r', e', hd⟩ := h.fn k hk; rw [e] at e'; injection e' with e1 _; rw [← e1, h2] at hd; cases hd
  | s => rfl
  | e => rw [h.tx k hk] at e; cases e
  | b => exact absurd hk (h.nb k)
theorem sg_list (c : UInt8) : (sg c).toList = [c] := by unfold sg; rw [Lib.toList_data]
theorem sg_ne' (c : UInt8) : (sg c).toList ≠ [] := by rw [sg_list]; simp
theorem GoodL.sg {L : List Tok} (h : GoodL L) {k : Nat} {c : UInt8} (e : isQ L (sg c) k = true) (h1 : lowC c = false) (h2 : numC c = false) : (tokAt L k).kind = .s := h.sign (by rw [eq_text e, sg_list]) h1 h2
/-- What the program takes with some fuel the reference takes with a little more. -/
structure Agr (L : List Tok) (f : Nat) : Prop where
  eith : ∀ g k n x k' n', f + 8 ≤ g → eitherQ L f k n = .ok x k' n' → eitherP L g k n = .ok x k' n'
  orL : ∀ g y k n x k' n', f + 8 ≤ g → orLoopQ L f y k n = .ok x k' n' → orLoop L g y k n = .ok x k' n'
  both : ∀ g k n x k' n', f + 8 ≤ g → bothQ L f k n = .ok x k' n' → bothP L g k n = .ok x k' n'
  andL : ∀ g y k n x k' n', f + 8 ≤ g → andLoopQ L f y k n = .ok x k' n' → andLoop L g y k n = .ok x k' n'
  unl : ∀ g k n x k' n', f + 8 ≤ g → unlessQ L f k n = .ok x k' n' → unlessP L g k n = .ok x k' n'
  test : ∀ g k n x k' n', f + 8 ≤ g → testQ L f k n = .ok x k' n' → testP L g k n = .ok x k' n'
  sum : ∀ g k n x k' n', f + 8 ≤ g → sumQ L f k n = .ok x k' n' → sumP L g k n = .ok x k' n'
  sumL : ∀ g y k n x k' n', f + 8 ≤ g → sumLoopQ L f y k n = .ok x k' n' → sumLoop L g y k n = .ok x k' n'
  part : ∀ g k n x k' n', f + 8 ≤ g → partQ L f k n = .ok x k' n' → partP L g k n = .ok x k' n'
  partL : ∀ g y k n x k' n', f + 8 ≤ g → partLoopQ L f y k n = .ok x k' n' → partLoop L g y k n = .ok x k' n'
  fac : ∀ g k n x k' n', f + 8 ≤ g → factorQ L f k n = .ok x k' n' → factorP L g k n = .ok x k' n'
theorem wOr_ne : wOr.toList ≠ [] := by unfold wOr; rw [Lib.toList_data]; simp
theorem wAnd_ne : wAnd.toList ≠ [] := by unfold wAnd; rw [Lib.toList_data]; simp
theorem wNot_ne : wNot.toList ≠ [] := by unfold wNot; rw [Lib.toList_data]; simp
theorem wSome_ne : wSome.toList ≠ [] := by unfold wSome; rw [Lib.toList_data]; simp
theorem wEvery_ne : wEvery.toList ≠ [] := by unfold wEvery; rw [Lib.toList_data]; simp
theorem wOf_ne : wOf.toList ≠ [] := by unfold wOf; rw [Lib.toList_data]; simp
theorem wMax_ne : wMax.toList ≠ [] := by unfold wMax; rw [Lib.toList_data]; simp
theorem wMin_ne : wMin.toList ≠ [] := by unfold wMin; rw [Lib.toList_data]; simp
theorem GoodL.enter {L : List Tok} (h : GoodL L) {k n k' n' : Nat} {d : ByteArray} (ht : (tokAt L k).text.toList ≠ []) (e : enterQ L k n = .ok d k' n') : deeperP L k n = .ok () k (n + 1) ∧ stepP L k (n + 1) = .ok () (k + 1) (n + 1) ∧ d = (tokAt L k).text ∧ k' = k + 1 ∧ n' = n + 1 := by
  unfold enterQ at e
  split at e
  · cases e
  · rename_i hn
    injection e with e0 e1 e2
    unfold deeperP
    rw [if_neg hn]
    exact ⟨rfl, h.step _ ht, e0.symm, e1.symm, e2.symm⟩
theorem GoodL.leave {L : List Tok} (h : GoodL L) {s : ByteArray} (hs : s.toList ≠ []) {k n k' n' : Nat} {x : Unit} (e : leaveQ L s k n = .ok x k' n') : needP L s k (n - 1) = .ok () (k + 1) (n - 1) ∧ k' = k + 1 ∧ n' = n - 1 := by
  unfold leaveQ at e
  obtain ⟨_, k1, n1, e1, e2⟩ := PR.bind_okE e
  obtain ⟨_, rfl, rfl⟩ := h.need hs e1 0
  injection e2 with _ e3 e4
  exact ⟨(h.need hs e1 (n1 - 1)).1, e3.symm, e4.symm⟩
theorem q1 {L : List Tok} {s : ByteArray} {k : Nat} (h : isQ L s k = true) : eqB (tokAt L k).text s = true := h
theorem q0 {L : List Tok} {s : ByteArray} {k : Nat} (h : ¬ isQ L s k = true) : ¬ eqB (tokAt L k).text s = true := h
theorem q2 {L : List Tok} {s t : ByteArray} {k : Nat} (h : isQ L s k = true ∨ isQ L t k = true) : eqB (tokAt L k).text s = true ∨ eqB (tokAt L k).text t = true := h
theorem q3 {L : List Tok} {s t : ByteArray} {k : Nat} (h : ¬ (isQ L s k = true ∨ isQ L t k = true)) : ¬ (eqB (tokAt L k).text s = true ∨ eqB (tokAt L k).text t = true) := h
end Go.Proofs.YtehbinobohjadaaGreatDoor
namespace Go.Proofs.YtehbinobohjadaaGreatDoor
open Go.RowKit Go.Extern.Stop Go.Stop Go.Extern

theorem kind_lt {L : List Tok} {k : Nat} (h : (tokAt L k).kind ≠ .e) : k < L.length := by
  rcases Nat.lt_or_ge k L.length with q | q
  · exact q
  · exfalso
    apply h
    unfold tokAt
    rw [List.getElem?_eq_none q]
    rfl
theorem isQ_lt {L : List Tok} {s : ByteArray} {k : Nat} (hs : s.toList ≠ []) (h : isQ L s k = true) : k < L.length := tok_lt (by rw [eq_text h]; exact hs)
theorem needQ_a {L : List Tok} {s : ByteArray} (hs : s.toList ≠ []) {k n k' n' : Nat} {x : Unit} (h : needQ L s k n = .ok x k' n') : k' = k + 1 ∧ k < L.length := by
  unfold needQ at h
  split at h
  · rename_i hi
    injection h with _ h _
    exact ⟨h.symm, isQ_lt hs hi⟩
  · cases h
theorem nameQ_a {L : List Tok} {k n k' n' : Nat} {x : ByteArray} (h : nameQ L k n = .ok x k' n') : k' = k + 1 ∧ k < L.length := by
  unfold nameQ at h
  split at h
  · rename_i hi
    injection h with _ h _
    have h1 := hi.1
    unfold nameTok at h1
    simp at h1
    exact ⟨h.symm, kind_lt (by rw [h1.1]; intro e; cases e)⟩
  · cases h
theorem numberQ_a {L : List Tok} {k n k' n' : Nat} {x : Nat} (h : numberQ L k n = .ok x k' n') : k' = k + 1 ∧ k < L.length := by
  unfold numberQ at h
  split at h
  · rename_i hi
    injection h with _ h _
    exact ⟨h.symm, kind_lt (by rw [hi.1]; intro e; cases e)⟩
  · cases h
theorem rateQ_a {L : List Tok} {k n k' n' : Nat} {x : Nat} (h : rateQ L k n = .ok x k' n') : k < k' ∧ k < L.length := by
  unfold rateQ at h
  obtain ⟨y, k1, n1, e1, h⟩ := PR.bind_okE h
  obtain ⟨_, k2, n2, e2, h⟩ := PR.bind_okE h
  have a1 := numberQ_a e1
  have a2 := needQ_a (sg_ne' _) e2
  split at h
  · injection h with _ h _
    omega
  · cases h
theorem enterQ_a {L : List Tok} {k n k' n' : Nat} {x : ByteArray} (h : enterQ L k n = .ok x k' n') : k' = k + 1 := by
  unfold enterQ at h
  split at h
  · cases h
  · injection h with _ h _
    exact h.symm
theorem leaveQ_a {L : List Tok} {s : ByteArray} (hs : s.toList ≠ []) {k n k' n' : Nat} {x : Unit} (h : leaveQ L s k n = .ok x k' n') : k' = k + 1 ∧ k < L.length := by
  unfold leaveQ at h
  obtain ⟨_, k1, n1, e1, h⟩ := PR.bind_okE h
  injection h with _ h _
  have := needQ_a hs e1
  omega
theorem totalQ_a {L : List Tok} {k n k' n' : Nat} {x : Nd} (h : totalQ L k n = .ok x k' n') : k < k' ∧ k < L.length := by
  unfold totalQ at h
  obtain ⟨_, k1, n1, e1, h⟩ := PR.bind_okE h
  obtain ⟨_, k2, n2, e2, h⟩ := PR.bind_okE h
  obtain ⟨_, k3, n3, e3, h⟩ := PR.bind_okE h
  injection h with _ h _
  have := nameQ_a e1
  have := needQ_a wOf_ne e2
  have := nameQ_a e3
  omega
/-- Each rule reads on. -/
structure AdvQ (L : List Tok) (f : Nat) : Prop where
  ei : ∀ k n x k' n', eitherQ L f k n = .ok x k' n' → k < k' ∧ k < L.length
  ol : ∀ y k n x k' n', orLoopQ L f y k n = .ok x k' n' → k ≤ k'
  bo : ∀ k n x k' n', bothQ L f k n = .ok x k' n' → k < k' ∧ k < L.length
  al : ∀ y k n x k' n', andLoopQ L f y k n = .ok x k' n' → k ≤ k'
  un : ∀ k n x k' n', unlessQ L f k n = .ok x k' n' → k < k' ∧ k < L.length
  te : ∀ k n x k' n', testQ L f k n = .ok x k' n' → k < k' ∧ k < L.length
  ot : ∀ k n x k' n', othersQ L f k n = .ok x k' n' → k < k' ∧ k < L.length
  co : ∀ k n x k' n', compQ L f k n = .ok x k' n' → k < k' ∧ k < L.length
  su : ∀ k n x k' n', sumQ L f k n = .ok x k' n' → k < k' ∧ k < L.length
  sl : ∀ y k n x k' n', sumLoopQ L f y k n = .ok x k' n' → k ≤ k'
  pa : ∀ k n x k' n', partQ L f k n = .ok x k' n' → k < k' ∧ k < L.length
  pl : ∀ y k n x k' n', partLoopQ L f y k n = .ok x k' n' → k ≤ k'
  fa : ∀ k n x k' n', factorQ L f k n = .ok x k' n' → k < k' ∧ k < L.length
  gr : ∀ k n x k' n', greatQ L f k n = .ok x k' n' → k < k' ∧ k < L.length
theorem advQ (L : List Tok) : ∀ f, AdvQ L f
  | 0 => by
    constructor <;> intros <;> rename_i h <;> simp only [eitherQ, orLoopQ, bothQ, andLoopQ, unlessQ, testQ, othersQ, compQ, sumQ, sumLoopQ, partQ, partLoopQ, factorQ, greatQ] at h <;> cases h
  | f + 1 => by
    have ih := advQ L f
    constructor
    · intro k n x k' n' h
      rw [eitherQ] at h
      obtain ⟨_, k1, n1, e1, h⟩ := PR.bind_okE h
      have := ih.bo _ _ _ _ _ e1
      have := ih.ol _ _ _ _ _ _ h
      omega
    · intro y k n x k' n' h
      rw [orLoopQ] at h
      split at h
      · obtain ⟨_, k1, n1, e1, h⟩ := PR.bind_okE h
        have := ih.bo _ _ _ _ _ e1
        have := ih.ol _ _ _ _ _ _ h
        omega
      · injection h with _ h _; omega
    · intro k n x k' n' h
      rw [bothQ] at h
      obtain ⟨_, k1, n1, e1, h⟩ := PR.bind_okE h
      have := ih.un _ _ _ _ _ e1
      have := ih.al _ _ _ _ _ _ h
      omega
    · intro y k n x k' n' h
      rw [andLoopQ] at h
      split at h
      · obtain ⟨_, k1, n1, e1, h⟩ := PR.bind_okE h
        have := ih.un _ _ _ _ _ e1
        have := ih.al _ _ _ _ _ _ h
        omega
      · injection h with _ h _; omega
    · intro k n x k' n' h
      rw [unlessQ] at h
      split at h
      · rename_i hi
        have := isQ_lt wNot_ne hi
        obtain ⟨_, k1, n1, e1, h⟩ := PR.bind_okE h
        obtain ⟨_, k2, n2, e2, h⟩ := PR.bind_okE h
        injection h with _ h _
        have := enterQ_a e1
        have := ih.un _ _ _ _ _ e2
        omega
      · exact ih.te _ _ _ _ _ h
    · intro k n x k' n' h
      rw [testQ] at h
      split at h
      · rename_i hi
        have := isQ_lt (sg_ne' _) hi
        obtain ⟨_, k1, n1, e1, h⟩ := PR.bind_okE h
        obtain ⟨_, k2, n2, e2, h⟩ := PR.bind_okE h
        obtain ⟨_, k3, n3, e3, h⟩ := PR.bind_okE h
        injection h with _ h _
        have := enterQ_a e1
        have := ih.ei _ _ _ _ _ e2
        have := leaveQ_a (sg_ne' _) e3
        omega
      · split at h
        · exact ih.ot _ _ _ _ _ h
        · split at h
          · obtain ⟨_, k1, n1, e1, h⟩ := PR.bind_okE h
            injection h with _ h _
            have := nameQ_a e1
            omega
          · exact ih.co _ _ _ _ _ h
    · intro k n x k' n' h
      rw [othersQ] at h
      obtain ⟨_, k1, n1, e1, h⟩ := PR.bind_okE h
      obtain ⟨_, k2, n2, e2, h⟩ := PR.bind_okE h
      obtain ⟨_, k3, n3, e3, h⟩ := PR.bind_okE h
      obtain ⟨_, k4, n4, e4, h⟩ := PR.bind_okE h
      obtain ⟨_, k5, n5, e5, h⟩ := PR.bind_okE h
      injection h with _ h _
      have := enterQ_a e1
      have := nameQ_a e2
      have := needQ_a (sg_ne' _) e3
      have := ih.ei _ _ _ _ _ e4
      have := leaveQ_a (sg_ne' _) e5
      omega
    · intro k n x k' n' h
      rw [compQ] at h
      obtain ⟨_, k1, n1, e1, h⟩ := PR.bind_okE h
      have := ih.su _ _ _ _ _ e1
      split at h
      · obtain ⟨_, k2, n2, e2, h⟩ := PR.bind_okE h
        injection h with _ h _
        have := ih.su _ _ _ _ _ e2
        omega
      · cases h
    · intro k n x k' n' h
      rw [sumQ] at h
      obtain ⟨_, k1, n1, e1, h⟩ := PR.bind_okE h
      have := ih.pa _ _ _ _ _ e1
      have := ih.sl _ _ _ _ _ _ h
      omega
    · intro y k n x k' n' h
      rw [sumLoopQ] at h
      split at h
      · obtain ⟨_, k1, n1, e1, h⟩ := PR.bind_okE h
        have := ih.pa _ _ _ _ _ e1
        have := ih.sl _ _ _ _ _ _ h
        omega
      · injection h with _ h _; omega
    · intro k n x k' n' h
      rw [partQ] at h
      obtain ⟨_, k1, n1, e1, h⟩ := PR.bind_okE h
      have := ih.fa _ _ _ _ _ e1
      have := ih.pl _ _ _ _ _ _ h
      omega
    · intro y k n x k' n' h
      rw [partLoopQ] at h
      split at h
      · obtain ⟨_, k1, n1, e1, h⟩ := PR.bind_okE h
        have := rateQ_a e1
        have := ih.pl _ _ _ _ _ _ h
        omega
      · injection h with _ h _; omega
    · intro k n x k' n' h
      rw [factorQ] at h
      split at h
      · obtain ⟨_, k1, n1, e1, h⟩ := PR.bind_okE h
        injection h with _ h _
        have := numberQ_a e1
        omega
      · split at h
        · obtain ⟨_, k1, n1, e1, h⟩ := PR.bind_okE h
          injection h with _ h _
          have := nameQ_a e1
          omega
        · split at h
          · have := totalQ_a h
            omega
          · split at h
            · exact ih.gr _ _ _ _ _ h
            · split at h
              · rename_i hi
                have := isQ_lt (sg_ne' _) hi
                obtain ⟨_, k1, n1, e1, h⟩ := PR.bind_okE h
                obtain ⟨_, k2, n2, e2, h⟩ := PR.bind_okE h
                obtain ⟨_, k3, n3, e3, h⟩ := PR.bind_okE h
                injection h with _ h _
                have := enterQ_a e1
                have := ih.su _ _ _ _ _ e2
                have := leaveQ_a (sg_ne' _) e3
                omega
              · obtain ⟨_, k1, n1, e1, h⟩ := PR.bind_okE h
                injection h with _ h _
                have := nameQ_a e1
                omega
    · intro k n x k' n' h
      rw [greatQ] at h
      obtain ⟨_, k1, n1, e1, h⟩ := PR.bind_okE h
      obtain ⟨_, k2, n2, e2, h⟩ := PR.bind_okE h
      obtain ⟨_, k3, n3, e3, h⟩ := PR.bind_okE h
      obtain ⟨_, k4, n4, e4, h⟩ := PR.bind_okE h
      obtain ⟨_, k5, n5, e5, h⟩ := PR.bind_okE h
      obtain ⟨_, k6, n6, e6, h⟩ := PR.bind_okE h
      injection h with _ h _
      have := enterQ_a e1
      have := needQ_a (sg_ne' _) e2
      have := ih.su _ _ _ _ _ e3
      have := needQ_a (sg_ne' _) e4
      have := ih.su _ _ _ _ _ e5
      have := leaveQ_a (sg_ne' _) e6
      omega
theorem bindNO {α β : Type} {r : PR α} {f : α → Nat → Nat → PR β} (h : r ≠ .out) (h2 : ∀ x k n, r = .ok x k n → f x k n ≠ .out) : r.bind f ≠ .out := by
  cases r with
  | out => exact absurd rfl h
  | bad c a => intro e; cases e
  | ok x k n => exact h2 x k n rfl
theorem okNO {α : Type} {x : α} {k n : Nat} : (PR.ok x k n) ≠ .out := fun e => by cases e
theorem badNO {α : Type} {c a : Nat} : (PR.bad c a : PR α) ≠ .out := fun e => by cases e
theorem needNO {L : List Tok} {s : ByteArray} {k n : Nat} : needQ L s k n ≠ .out := by unfold needQ; split <;> (intro h; cases h)
theorem nameNO {L : List Tok} {k n : Nat} : nameQ L k n ≠ .out := by unfold nameQ; split <;> (intro h; cases h)
theorem numberNO {L : List Tok} {k n : Nat} : numberQ L k n ≠ .out := by unfold numberQ; split <;> (intro h; cases h)
theorem enterNO {L : List Tok} {k n : Nat} : enterQ L k n ≠ .out := by unfold enterQ; split <;> (intro h; cases h)
theorem leaveNO {L : List Tok} {s : ByteArray} {k n : Nat} : leaveQ L s k n ≠ .out := bindNO needNO fun _ _ _ _ => okNO
theorem rateNO {L : List Tok} {k n : Nat} : rateQ L k n ≠ .out := bindNO numberNO fun _ _ _ _ => bindNO needNO fun _ _ _ _ => by split <;> (intro h; cases h)
theorem totalNO {L : List Tok} {k n : Nat} : totalQ L k n ≠ .out := bindNO nameNO fun _ _ _ _ => bindNO needNO fun _ _ _ _ => bindNO nameNO fun _ _ _ _ => okNO
/-- No rule runs out of fuel from a token on. -/
structure FineQ (L : List Tok) (k : Nat) : Prop where
  gr : ∀ f n, 20 * (L.length - k) + 1 ≤ f → k < L.length → greatQ L f k n ≠ .out
  fa : ∀ f n, 20 * (L.length - k) + 2 ≤ f → factorQ L f k n ≠ .out
  pl : ∀ f y n, 20 * (L.length - k) + 1 ≤ f → partLoopQ L f y k n ≠ .out
  pa : ∀ f n, 20 * (L.length - k) + 3 ≤ f → partQ L f k n ≠ .out
  sl : ∀ f y n, 20 * (L.length - k) + 1 ≤ f → sumLoopQ L f y k n ≠ .out
  su : ∀ f n, 20 * (L.length - k) + 5 ≤ f → sumQ L f k n ≠ .out
  co : ∀ f n, 20 * (L.length - k) + 6 ≤ f → compQ L f k n ≠ .out
  ot : ∀ f n, 20 * (L.length - k) + 6 ≤ f → k < L.length → othersQ L f k n ≠ .out
  te : ∀ f n, 20 * (L.length - k) + 7 ≤ f → testQ L f k n ≠ .out
  un : ∀ f n, 20 * (L.length - k) + 9 ≤ f → unlessQ L f k n ≠ .out
  al : ∀ f y n, 20 * (L.length - k) + 1 ≤ f → andLoopQ L f y k n ≠ .out
  bo : ∀ f n, 20 * (L.length - k) + 11 ≤ f → bothQ L f k n ≠ .out
  ol : ∀ f y n, 20 * (L.length - k) + 1 ≤ f → orLoopQ L f y k n ≠ .out
  ei : ∀ f n, 20 * (L.length - k) + 13 ≤ f → eitherQ L f k n ≠ .out
theorem fineQ (L : List Tok) : ∀ m k, L.length - k ≤ m → FineQ L k
  | m, k, hm => by
    have ih : ∀ k', k < k' → k < L.length → FineQ L k' := fun k' h1 h2 => by
      cases m with
      | zero => omega
      | succ m => exact fineQ L m k' (by omega)
    have gr : ∀ f n, 20 * (L.length - k) + 1 ≤ f → k < L.length → greatQ L f k n ≠ .out := by
      intro f n hf hk
      obtain ⟨f, rfl⟩ : ∃ g, f = g + 1 := ⟨f - 1, by omega⟩
      rw [greatQ]
      refine bindNO enterNO fun _ k1 n1 e1 => bindNO needNO fun _ k2 n2 e2 => ?_
      have a1 := enterQ_a e1
      have a2 := needQ_a (sg_ne' _) e2
      refine bindNO ((ih k2 (by omega) hk).su _ _ (by omega)) fun _ k3 n3 e3 => bindNO needNO fun _ k4 n4 e4 => ?_
      have a3 := (advQ L f).su _ _ _ _ _ e3
      have a4 := needQ_a (sg_ne' _) e4
      exact bindNO ((ih k4 (by omega) hk).su _ _ (by omega)) fun _ _ _ _ => bindNO leaveNO fun _ _ _ _ => okNO
    have fa : ∀ f n, 20 * (L.length - k) + 2 ≤ f → factorQ L f k n ≠ .out := by
      intro f n hf
      obtain ⟨f, rfl⟩ : ∃ g, f = g + 1 := ⟨f - 1, by omega⟩
      rw [factorQ]
      split
      · exact bindNO numberNO fun _ _ _ _ => okNO
      · split
        · exact bindNO nameNO fun _ _ _ _ => okNO
        · split
          · exact totalNO
          · split
            · rename_i hi
              exact gr f n (by omega) (by rcases hi with hi | hi; exact isQ_lt wMax_ne hi; exact isQ_lt wMin_ne hi)
            · split
              · rename_i hi
                have hk := isQ_lt (sg_ne' _) hi
                refine bindNO enterNO fun _ k1 n1 e1 => ?_
                have a1 := enterQ_a e1
                exact bindNO ((ih k1 (by omega) hk).su _ _ (by omega)) fun _ _ _ _ => bindNO leaveNO fun _ _ _ _ => okNO
              · exact bindNO nameNO fun _ _ _ _ => okNO
    have pl : ∀ f y n, 20 * (L.length - k) + 1 ≤ f → partLoopQ L f y k n ≠ .out := by
      intro f y n hf
      obtain ⟨f, rfl⟩ : ∃ g, f = g + 1 := ⟨f - 1, by omega⟩
      rw [partLoopQ]
      split
      · rename_i hi
        have hk := isQ_lt (sg_ne' _) hi
        refine bindNO rateNO fun _ k1 n1 e1 => ?_
        have a1 := rateQ_a e1
        exact (ih k1 (by omega) hk).pl _ _ _ (by omega)
      · exact okNO
    have pa : ∀ f n, 20 * (L.length - k) + 3 ≤ f → partQ L f k n ≠ .out := by
      intro f n hf
      obtain ⟨f, rfl⟩ : ∃ g, f = g + 1 := ⟨f - 1, by omega⟩
      rw [partQ]
      refine bindNO (fa f n (by omega)) fun _ k1 n1 e1 => ?_
      have a1 := (advQ L f).fa _ _ _ _ _ e1
      exact (ih k1 a1.1 a1.2).pl _ _ _ (by omega)
    have sl : ∀ f y n, 20 * (L.length - k) + 1 ≤ f → sumLoopQ L f y k n ≠ .out := by
      intro f y n hf
      obtain ⟨f, rfl⟩ : ∃ g, f = g + 1 := ⟨f - 1, by omega⟩
      rw [sumLoopQ]
      split
      · rename_i hi
        have hk : k < L.length := by rcases hi with hi | hi <;> exact isQ_lt (sg_ne' _) hi
        refine bindNO ((ih (k + 1) (by omega) hk).pa _ _ (by omega)) fun _ k1 n1 e1 => ?_
        have a1 := (advQ L f).pa _ _ _ _ _ e1
        exact (ih k1 (by omega) hk).sl _ _ _ (by omega)
      · exact okNO
    have su : ∀ f n, 20 * (L.length - k) + 5 ≤ f → sumQ L f k n ≠ .out := by
      intro f n hf
      obtain ⟨f, rfl⟩ : ∃ g, f = g + 1 := ⟨f - 1, by omega⟩
      rw [sumQ]
      refine bindNO (pa f n (by omega)) fun _ k1 n1 e1 => ?_
      have a1 := (advQ L f).pa _ _ _ _ _ e1
      exact (ih k1 a1.1 a1.2).sl _ _ _ (by omega)
    have co : ∀ f n, 20 * (L.length - k) + 6 ≤ f → compQ L f k n ≠ .out := by
      intro f n hf
      obtain ⟨f, rfl⟩ : ∃ g, f = g + 1 := ⟨f - 1, by omega⟩
      rw [compQ]
      refine bindNO (su f n (by omega)) fun _ k1 n1 e1 => ?_
      have a1 := (advQ L f).su _ _ _ _ _ e1
      split
      · exact bindNO ((ih (k1 + 1) (by omega) a1.2).su _ _ (by omega)) fun _ _ _ _ => okNO
      · exact badNO
    have ot : ∀ f n, 20 * (L.length - k) + 6 ≤ f → k < L.length → othersQ L f k n ≠ .out := by
      intro f n hf hk
      obtain ⟨f, rfl⟩ : ∃ g, f = g + 1 := ⟨f - 1, by omega⟩
      rw [othersQ]
      refine bindNO enterNO fun _ k1 n1 e1 => bindNO nameNO fun _ k2 n2 e2 => bindNO needNO fun _ k3 n3 e3 => ?_
      have a1 := enterQ_a e1
      have a2 := nameQ_a e2
      have a3 := needQ_a (sg_ne' _) e3
      exact bindNO ((ih k3 (by omega) hk).ei _ _ (by omega)) fun _ _ _ _ => bindNO leaveNO fun _ _ _ _ => okNO
    have te : ∀ f n, 20 * (L.length - k) + 7 ≤ f → testQ L f k n ≠ .out := by
      intro f n hf
      obtain ⟨f, rfl⟩ : ∃ g, f = g + 1 := ⟨f - 1, by omega⟩
      rw [testQ]
      split
      · rename_i hi
        have hk := isQ_lt (sg_ne' _) hi
        refine bindNO enterNO fun _ k1 n1 e1 => ?_
        have a1 := enterQ_a e1
        exact bindNO ((ih k1 (by omega) hk).ei _ _ (by omega)) fun _ _ _ _ => bindNO leaveNO fun _ _ _ _ => okNO
      · split
        · rename_i hi
          exact ot f n (by omega) (by rcases hi with hi | hi; exact isQ_lt wSome_ne hi; exact isQ_lt wEvery_ne hi)
        · split
          · exact bindNO nameNO fun _ _ _ _ => okNO
          · exact co f n (by omega)
    have un : ∀ f n, 20 * (L.length - k) + 9 ≤ f → unlessQ L f k n ≠ .out := by
      intro f n hf
      obtain ⟨f, rfl⟩ : ∃ g, f = g + 1 := ⟨f - 1, by omega⟩
      rw [unlessQ]
      split
      · rename_i hi
        have hk := isQ_lt wNot_ne hi
        refine bindNO enterNO fun _ k1 n1 e1 => ?_
        have a1 := enterQ_a e1
        exact bindNO ((ih k1 (by omega) hk).un _ _ (by omega)) fun _ _ _ _ => okNO
      · exact te f n (by omega)
    have al : ∀ f y n, 20 * (L.length - k) + 1 ≤ f → andLoopQ L f y k n ≠ .out := by
      intro f y n hf
      obtain ⟨f, rfl⟩ : ∃ g, f = g + 1 := ⟨f - 1, by omega⟩
      rw [andLoopQ]
      split
      · rename_i hi
        have hk := isQ_lt wAnd_ne hi
        refine bindNO ((ih (k + 1) (by omega) hk).un _ _ (by omega)) fun _ k1 n1 e1 => ?_
        have a1 := (advQ L f).un _ _ _ _ _ e1
        exact (ih k1 (by omega) hk).al _ _ _ (by omega)
      · exact okNO
    have bo : ∀ f n, 20 * (L.length - k) + 11 ≤ f → bothQ L f k n ≠ .out := by
      intro f n hf
      obtain ⟨f, rfl⟩ : ∃ g, f = g + 1 := ⟨f - 1, by omega⟩
      rw [bothQ]
      refine bindNO (un f n (by omega)) fun _ k1 n1 e1 => ?_
      have a1 := (advQ L f).un _ _ _ _ _ e1
      exact (ih k1 a1.1 a1.2).al _ _ _ (by omega)
    have ol : ∀ f y n, 20 * (L.length - k) + 1 ≤ f → orLoopQ L f y k n ≠ .out := by
      intro f y n hf
      obtain ⟨f, rfl⟩ : ∃ g, f = g + 1 := ⟨f - 1, by omega⟩
      rw [orLoopQ]
      split
      · rename_i hi
        have hk := isQ_lt wOr_ne hi
        refine bindNO ((ih (k + 1) (by omega) hk).bo _ _ (by omega)) fun _ k1 n1 e1 => ?_
        have a1 := (advQ L f).bo _ _ _ _ _ e1
        exact (ih k1 (by omega) hk).ol _ _ _ (by omega)
      · exact okNO
    have ei : ∀ f n, 20 * (L.length - k) + 13 ≤ f → eitherQ L f k n ≠ .out := by
      intro f n hf
      obtain ⟨f, rfl⟩ : ∃ g, f = g + 1 := ⟨f - 1, by omega⟩
      rw [eitherQ]
      refine bindNO (bo f n (by omega)) fun _ k1 n1 e1 => ?_
      have a1 := (advQ L f).bo _ _ _ _ _ e1
      exact (ih k1 a1.1 a1.2).ol _ _ _ (by omega)
    exact ⟨gr, fa, pl, pa, sl, su, co, ot, te, un, al, bo, ol, ei⟩
theorem fine_all (L : List Tok) (k : Nat) : FineQ L k := fineQ L _ k (Nat.le_refl _)
end Go.Proofs.YtehbinobohjadaaGreatDoor
namespace Go.Proofs.YtehbinobohjadaaGreatDoor
open Go.RowKit Go.Extern.Stop Go.Stop Go.Extern

theorem commaQ_a {L : List Tok} : ∀ (f : Nat) (l : List ByteArray) (k n : Nat) (x : List ByteArray) (k' n' : Nat), commaQ L f l k n = .ok x k' n' → k ≤ k'
  | 0, l, k, n, x, k', n', h => by cases h
  | f + 1, l, k, n, x, k', n', h => by
    rw [commaQ] at h
    split at h
    · obtain ⟨_, k1, n1, e1, h⟩ := PR.bind_okE h
      have := nameQ_a e1
      have := commaQ_a f _ _ _ _ _ _ h
      omega
    · injection h with _ h _; omega
theorem commaNO {L : List Tok} : ∀ (f : Nat) (l : List ByteArray) (k n : Nat), L.length - k < f → commaQ L f l k n ≠ .out
  | 0, l, k, n, h => by omega
  | f + 1, l, k, n, h => by
    rw [commaQ]
    split
    · rename_i hi
      have hk := isQ_lt (sg_ne' 44) hi
      refine bindNO nameNO fun _ k1 n1 e1 => ?_
      have := nameQ_a e1
      exact commaNO f _ _ _ (by omega)
    · exact okNO
theorem overNO {L : List Tok} : ∀ (f : Nat) (l : List ByteArray) (k n : Nat), L.length - k + 1 < f → overQ L f l k n ≠ .out
  | 0, l, k, n, h => by omega
  | f + 1, l, k, n, h => by
    rw [overQ]
    split
    · rename_i hi
      have hk := isQ_lt (sg_ne' 59) hi
      refine bindNO needNO fun _ k1 n1 e1 => bindNO nameNO fun _ k2 n2 e2 => ?_
      have a1 := needQ_a (s := ⟨#[111, 118, 101, 114]⟩) (by rw [Lib.toList_data]; simp) e1
      have a2 := nameQ_a e2
      refine bindNO (commaNO f _ _ _ (by omega)) fun _ k3 n3 e3 => ?_
      have a3 := commaQ_a _ _ _ _ _ _ _ e3
      exact overNO f _ _ _ (by omega)
    · exact okNO
theorem litNO {L : List Tok} {k n : Nat} : litQ L k n ≠ .out := bindNO nameNO fun _ _ _ _ => okNO
theorem oneNO {L : List Tok} {ls : List ByteArray} {k n : Nat} : oneOfQ L ls k n ≠ .out := oneOfQ_not
/-- There is fuel for a sentence. -/
theorem sentNO (L : List Tok) (k n : Nat) : sentQ L (20 * L.length + 20) k n ≠ .out := by
  have F := fun k => fine_all L k
  have hc : ∀ k n, condQ L (20 * L.length + 20) k n ≠ .out := fun k n => by
    unfold condQ
    split
    · exact (F _).ei _ _ (by omega)
    · exact okNO
  unfold sentQ
  refine bindNO nameNO fun _ k1 n1 _ => bindNO needNO fun _ k2 n2 _ => bindNO ?_ fun _ k3 n3 _ => ?_
  · unfold bodyQ
    split
    · exact bindNO ((F k2).ei _ _ (by omega)) fun _ _ _ _ => okNO
    · split
      · exact bindNO (bindNO litNO fun _ _ _ _ => bindNO (hc _ _) fun _ _ _ _ => bindNO (overNO _ _ _ _ (by omega)) fun _ _ _ _ => okNO) fun _ _ _ _ => okNO
      · split
        · refine bindNO (bindNO ((F k2).su _ _ (by omega)) fun _ _ _ _ => bindNO (hc _ _) fun _ _ _ _ => ?_) fun _ _ _ _ => okNO
          split
          · exact bindNO needNO fun _ _ _ _ => bindNO oneNO fun _ _ _ _ => okNO
          · exact okNO
        · split
          · refine bindNO (bindNO litNO fun _ _ _ _ => bindNO needNO fun _ _ _ _ => bindNO ?_ fun _ _ _ _ => bindNO oneNO fun _ _ _ _ => bindNO ?_ fun _ _ _ _ => bindNO ?_ fun _ _ _ _ => okNO) fun _ _ _ _ => okNO
            · unfold lengthQ
              split
              · exact okNO
              · exact badNO
            · unfold rollQ
              split
              · exact oneNO
              · exact okNO
            · unfold tailQ
              split
              · exact nameNO
              · exact okNO
          · exact okNO
  · split
    · exact okNO
    · exact badNO
theorem tw_mem : ∀ (l : List UInt8) (c : UInt8), c ∈ l.takeWhile numC → numC c = true
  | [], c, h => by cases h
  | x :: l, c, h => by
    cases hx : numC x with
    | false => rw [List.takeWhile_cons_of_neg (by rw [hx]; simp)] at h; cases h
    | true =>
      rw [List.takeWhile_cons_of_pos hx] at h
      rcases List.mem_cons.1 h with rfl | h
      · exact hx
      · exact tw_mem l c h
/-- A number's text. -/
theorem num_form (l : List UInt8) (h : l.length ≤ 400) : NumForm ⟨(l.take (numEnd l)).toArray⟩ := by
  refine ⟨?_, l.takeWhile numC, tw_mem l, ?_⟩
  · simp only [ByteArray.size, List.size_toArray, List.length_take]
    omega
  · have e0 : l.take (l.takeWhile numC).length = l.takeWhile numC := by
      conv => lhs; arg 2; rw [← List.takeWhile_append_dropWhile (p := numC) (l := l)]
      rw [List.take_left' rfl]
    show (l.take (numEnd l)).toArray.toList = _ ∨ _
    unfold numEnd
    split
    · rename_i hp
      right
      have e1 : l = l.takeWhile numC ++ l.drop (l.takeWhile numC).length := by
        conv => lhs; rw [← List.take_append_drop (l.takeWhile numC).length l, e0]
      match hd : l.drop (l.takeWhile numC).length, hp with
      | a :: b :: c :: r, hp =>
        rw [pointL] at hp
        simp only [Bool.and_eq_true, decide_eq_true_eq] at hp
        refine ⟨b, c, hp.1.2, hp.2, ?_⟩
        have ea : a = 46 := UInt8.toNat_inj.1 hp.1.1
        show (l.take _).toArray.toList = _
        rw [List.toList_toArray]
        conv => lhs; arg 2; rw [e1, hd]
        rw [List.take_append, List.take_of_length_le (by omega), show (l.takeWhile numC).length + 3 - (l.takeWhile numC).length = 3 by omega, ea]
        rfl
    · left
      rw [List.toList_toArray, e0]
structure TokOk (n : Nat) (t : Tok) : Prop where
  k : t.kind ≠ .e
  s : t.text.size ≠ 0
  m : t.kind = .n → NumForm t.text
theorem tok_ok (l : List UInt8) (p : Nat) (h1 : 1 ≤ l.length) (h : l.length ≤ 400) : TokOk 400 (qtokAt l p) := by
  have hz : (qtokAt l p).text.size = (qtokOf l).2 := by
    show (l.take (qtokOf l).2).toArray.size = _
    rw [List.size_toArray, List.length_take]
    have := qtok_le h1
    omega
  refine ⟨?_, by rw [hz]; have := qtok_pos l; omega, ?_⟩
  · show (qtokOf l).1 ≠ _
    match l, h1 with
    | c :: r, _ =>
      rw [qtok_cons]
      split
      · intro e; cases e
      · split
        · intro e; cases e
        · split <;> (intro e; cases e)
  · intro hk
    have hk : (qtokOf l).1 = .n := hk
    show NumForm ⟨(l.take (qtokOf l).2).toArray⟩
    match l, h1 with
    | c :: r, _ =>
      rw [qtok_cons] at hk ⊢
      split at hk
      · cases hk
      · rename_i h2
        split at hk
        · rename_i h3
          rw [if_neg h2, if_pos h3]
          exact num_form _ h
        · split at hk <;> cases hk
/-- The tokens of a line: the end stands last, and there alone. -/
theorem qtoks_go : ∀ (f : Nat) (l : List UInt8) (p : Nat), l.length < f → l.length ≤ 400 → ∃ ts, qtoksGo f l p = ts ++ [⟨.e, ⟨#[]⟩, p + l.length, 0⟩] ∧ ts.length ≤ l.length ∧ ∀ t, t ∈ ts → TokOk 400 t
  | 0, l, p, h, _ => by omega
  | f + 1, [], p, h, _ => ⟨[], rfl, Nat.le_refl _, fun t ht => by cases ht⟩
  | f + 1, c :: r, p, h, h4 => by
    rw [qtoksGo]
    simp only [List.length_cons] at h h4
    split
    · obtain ⟨ts, e, hl, ht⟩ := qtoks_go f r (p + 1) (by omega) (by omega)
      refine ⟨ts, ?_, by simp only [List.length_cons]; omega, ht⟩
      rw [e, List.length_cons, show p + 1 + r.length = p + (r.length + 1) by omega]
    · have h1 := qtok_le (l := c :: r) (by simp)
      have h2 := qtok_pos (c :: r)
      simp only [List.length_cons] at h1
      obtain ⟨ts, e, hl, ht⟩ := qtoks_go f ((c :: r).drop (qtokOf (c :: r)).2) (p + (qtokOf (c :: r)).2) (by rw [List.length_drop, List.length_cons]; omega) (by rw [List.length_drop, List.length_cons]; omega)
      rw [List.length_drop, List.length_cons] at hl e
      refine ⟨qtokAt (c :: r) p :: ts, ?_, by simp only [List.length_cons]; omega, fun t h9 => ?_⟩
      · rw [e, List.cons_append, List.length_cons, show p + (qtokOf (c :: r)).2 + (r.length + 1 - (qtokOf (c :: r)).2) = p + (r.length + 1) by omega]
      · rcases List.mem_cons.1 h9 with rfl | h9
        · exact tok_ok _ _ (by simp) (by simp only [List.length_cons]; omega)
        · exact ht t h9
theorem lok_of {ts : List Tok} {p : Nat} (hl : ts.length ≤ 399) (ht : ∀ t, t ∈ ts → TokOk 400 t) : LOk (ts ++ [⟨.e, ⟨#[]⟩, p, 0⟩]) := by
  have hg : ∀ (i : Nat) (t : Tok), (ts ++ [(⟨.e, ⟨#[]⟩, p, 0⟩ : Tok)])[i]? = some t → (i < ts.length ∧ TokOk 400 t) ∨ (i = ts.length ∧ t = ⟨.e, ⟨#[]⟩, p, 0⟩) := fun i t h => by
    rcases Nat.lt_or_ge i ts.length with hi | hi
    · rw [List.getElem?_append_left hi] at h
      exact .inl ⟨hi, ht t (List.mem_of_getElem? h)⟩
    · have hlt := (List.getElem?_eq_some_iff.1 h).1
      simp only [List.length_append, List.length_singleton] at hlt
      have hi2 : i = ts.length := by omega
      subst hi2
      rw [List.getElem?_append_right (Nat.le_refl _)] at h
      simp at h
      exact .inr ⟨rfl, h.symm⟩
  have hlen : (ts ++ [(⟨.e, ⟨#[]⟩, p, 0⟩ : Tok)]).length = ts.length + 1 := by simp
  refine ⟨by rw [hlen]; omega, fun i t h => ?_, fun i t h => ?_, fun i t h hk => ?_⟩
  · rw [hlen]
    rcases hg i t h with ⟨h1, h2⟩ | ⟨rfl, rfl⟩
    · exact ⟨fun e => by omega, fun e => absurd e h2.s⟩
    · exact ⟨fun _ => rfl, fun _ => rfl⟩
  · rw [hlen]
    rcases hg i t h with ⟨h1, h2⟩ | ⟨rfl, rfl⟩
    · exact ⟨fun e => by omega, fun e => absurd e h2.k⟩
    · exact ⟨fun _ => rfl, fun _ => rfl⟩
  · rcases hg i t h with ⟨h1, h2⟩ | ⟨rfl, rfl⟩
    · exact h2.m hk
    · cases hk
theorem qtoks_lok (s : ByteArray) (hs : s.size ≤ 390) : LOk (qtoks s) ∧ 1 ≤ (qtoks s).length := by
  obtain ⟨ts, e, hl, ht⟩ := qtoks_go (s.size + 1) s.data.toList 0 (by rw [bl_len]; omega) (by rw [bl_len]; omega)
  rw [bl_len] at hl
  have e' : qtoks s = ts ++ [⟨.e, ⟨#[]⟩, 0 + s.data.toList.length, 0⟩] := e
  rw [e']
  exact ⟨lok_of (by omega) ht, by simp⟩
/-- What a sentence begins with. -/
theorem sent_cut {s : ByteArray} (h : isSentB s = true) : ∃ (K r : List UInt8), s.data.toList = K ++ 32 :: r ∧ (K = wDefine.data.toList ∨ K = wRule.data.toList ∨ K = wAmount.data.toList ∨ K = wDuty.data.toList) := by
  unfold isSentB at h
  rw [Bool.and_eq_true] at h
  obtain ⟨h1, h2⟩ := h
  unfold placeIn at h2
  rw [List.findIdx?_isSome] at h2
  simp only [kindsW, List.any_cons, List.any_nil, Bool.or_false, Bool.or_eq_true, eqB, beq_iff_eq, Lib.toList_data] at h2
  have e0 : (cutL s).data.toList = (Lib.cut s.data.toList [32]).1 := by unfold cutL; simp
  rw [e0] at h2
  unfold Lib.cut at h1 h2
  split at h1
  · rename_i hi
    rw [if_pos hi] at h2
    rw [Lib.index_one] at hi h2
    obtain ⟨o, ho⟩ : ∃ o : Nat, Lib.indexByte s.data.toList 32 = o := ⟨(Lib.indexByte s.data.toList 32).toNat, by omega⟩
    obtain ⟨h3, _⟩ := Lib.indexByte_some ho
    rw [ho] at h2
    have h2 : wDefine.data.toList = s.data.toList.take o ∨ wRule.data.toList = s.data.toList.take o ∨ wAmount.data.toList = s.data.toList.take o ∨ wDuty.data.toList = s.data.toList.take o := by
      simpa using h2
    have hlt := (List.getElem?_eq_some_iff.1 h3).1
    have hd : s.data.toList.drop o = 32 :: s.data.toList.drop (o + 1) := by
      rw [List.drop_eq_getElem_cons hlt]
      congr 1
      exact (List.getElem?_eq_some_iff.1 h3).2
    refine ⟨s.data.toList.take o, s.data.toList.drop (o + 1), ?_, ?_⟩
    · rw [← hd, List.take_append_drop]
    · rcases h2 with h | h | h | h
      · exact .inl h.symm
      · exact .inr (.inl h.symm)
      · exact .inr (.inr (.inl h.symm))
      · exact .inr (.inr (.inr h.symm))
  · cases h1
theorem tw_word {K r : List UInt8} (h : ∀ c, c ∈ K → wordC c = true) : (K ++ 32 :: r).takeWhile wordC = K := by
  rw [List.takeWhile_append_of_pos h, List.takeWhile_cons_of_neg (by decide), List.append_nil]
/-- The first token is the kind. -/
theorem sent_first {s : ByteArray} (h : isSentB s = true) : ∃ (K : ByteArray) (ts : List Tok), qtoks s = ⟨.w, K, 0, 0⟩ :: ts ∧ (K = wDefine ∨ K = wRule ∨ K = wAmount ∨ K = wDuty) := by
  obtain ⟨K, r, e, hK⟩ := sent_cut h
  have hK2 : ∃ c K', K = c :: K' ∧ lowC c = true ∧ c ≠ 32 ∧ ∀ x, x ∈ K → wordC x = true := by
    rcases hK with rfl | rfl | rfl | rfl
    · exact ⟨100, [101, 102, 105, 110, 101], rfl, by decide, by decide, by decide⟩
    · exact ⟨114, [117, 108, 101], rfl, by decide, by decide, by decide⟩
    · exact ⟨97, [109, 111, 117, 110, 116], rfl, by decide, by decide, by decide⟩
    · exact ⟨100, [117, 116, 121], rfl, by decide, by decide, by decide⟩
  obtain ⟨c, K', eK, hc, h32, hw⟩ := hK2
  have e1 : qtokOf s.data.toList = (.w, K.length) := by
    rw [e]
    have e2 : K ++ 32 :: r = c :: (K' ++ 32 :: r) := by rw [eK]; rfl
    rw [e2, qtok_cons, if_pos hc, ← e2, tw_word hw]
  have e3 : qtoks s = qtokAt s.data.toList 0 :: qtoksGo s.size (s.data.toList.drop K.length) (0 + K.length) := by
    unfold qtoks
    have e4 : s.data.toList = c :: (K' ++ 32 :: r) := by rw [e, eK]; rfl
    conv => lhs; rw [e4, qtoksGo, if_neg h32, ← e4, e1]
  refine ⟨⟨K.toArray⟩, qtoksGo s.size (s.data.toList.drop K.length) (0 + K.length), ?_, ?_⟩
  · rw [e3]
    congr 1
    unfold qtokAt
    rw [e1, e, List.take_left' rfl]
  · rcases hK with rfl | rfl | rfl | rfl
    · exact .inl rfl
    · exact .inr (.inl rfl)
    · exact .inr (.inr (.inl rfl))
    · exact .inr (.inr (.inr rfl))
end Go.Proofs.YtehbinobohjadaaGreatDoor
namespace Go.Proofs.YtehbinobohjadaaGreatDoor
open Go.RowKit Go.Extern.Stop Go.Stop Go.Extern

/-- What Read answers of a line. -/
inductive RO where
  | none
  | bad
  | ok (x : SentW)
def readQ (s : ByteArray) (f : Nat) : RO := if isSentB s = true then (if 300 < s.size then .bad else match sentQ (qtoks s) f 0 0 with
    | .ok x _ _ => .ok x
    | _ => .bad) else .none
def ReadR (s : ByteArray) (f : Nat) (w : World) (e : Ending) (w' : World) : Prop :=
  Below w.heap.size w w' ∧ match readQ s f with
    | .none => e = .returned (.tuple #[.agg zS, .bool false, .nilIface])
    | .bad => ∃ a, e = .returned (.tuple #[.agg zS, .bool true, .iface 55 (.pointer (some a))])
    | .ok x => ∃ cs, e = .returned (.tuple #[.agg cs, .bool true, .nilIface]) ∧ SentC w.heap.size x cs w'
structure GlobQ (w : World) : Prop where
  t : ∃ p, w.cell? ⟨1, 0, none⟩ = some (.iface 189 (.pointer (some p)))
  b : ∃ p, w.cell? ⟨0, 0, none⟩ = some (.iface 189 (.pointer (some p)))
  m : ∃ m, w.cell? ⟨12, 0, none⟩ = some (.int .i64 m)
theorem GlobQ.below {w w' : World} {B : Nat} (h : GlobQ w) (hB2 : 1 < B ∧ 0 < B ∧ 12 < B) (hb : Below B w w') : GlobQ w' := by
  obtain ⟨p, h1⟩ := h.t
  obtain ⟨q, h2⟩ := h.b
  obtain ⟨m, h3⟩ := h.m
  exact ⟨⟨p, (hb.cell (p := ⟨1, 0, none⟩) hB2.1).trans h1⟩, ⟨q, (hb.cell (p := ⟨0, 0, none⟩) hB2.2.1).trans h2⟩, ⟨m, (hb.cell (p := ⟨12, 0, none⟩) hB2.2.2).trans h3⟩⟩
theorem GlobQ.lt {w : World} (h : GlobQ w) : 1 < w.heap.size ∧ 0 < w.heap.size ∧ 12 < w.heap.size := by
  obtain ⟨p, h1⟩ := h.t
  obtain ⟨q, h2⟩ := h.b
  obtain ⟨m, h3⟩ := h.m
  exact ⟨cell_lt h1, cell_lt h2, cell_lt h3⟩
theorem GlobQ.step {w w' : World} (h : GlobQ w) (hb : Below w.heap.size w w') : GlobQ w' := h.below h.lt hb
theorem boxes_new (w : World) : RBx (((w.alloc (.cells zS 30)).alloc (.cells #[.bool false] 4)).alloc (.cells #[.nilIface] 32)) w.heap.size (w.heap.size + 1) (w.heap.size + 1 + 1) zS false .nilIface ∧ Below w.heap.size w (((w.alloc (.cells zS 30)).alloc (.cells #[.bool false] 4)).alloc (.cells #[.nilIface] 32)) := by
  refine ⟨⟨?_, ?_, ?_, rfl⟩, (((Below.refl _ _).alloc (Nat.le_refl _) _).alloc (by simp) _).alloc (by simp; omega) _⟩
  · rw [Go.Deep.blk_alloc_lt _ _ _ (by simp; omega), Go.Deep.blk_alloc_lt _ _ _ (by simp)]
    exact heap_alloc_new _ _
  · rw [Go.Deep.blk_alloc_lt _ _ _ (by simp)]
    have := heap_alloc_new (w.alloc (.cells zS 30)) (.cells #[.bool false] 4)
    simpa using this
  · have := heap_alloc_new ((w.alloc (.cells zS 30)).alloc (.cells #[.bool false] 4)) (.cells #[.nilIface] 32)
    simpa using this
theorem results_three {w : World} {bs bi be : Nat} {cs : Array Value} {b : Bool} {ev : Value} (h : RBx w bs bi be cs b ev) (tmps : Array Value) (h2 : tmps[2]?.getD undef = .pointer (some ⟨bs, 0, none⟩)) (h3 : tmps[3]?.getD undef = .pointer (some ⟨bi, 0, none⟩)) (h4 : tmps[4]?.getD undef = .pointer (some ⟨be, 0, none⟩)) :
    (results Tryz.f6 tmps).run Tryz.prog w = .ok (.tuple #[.agg cs, .bool b, ev]) w := by
  have c1 := h.cell_i.1
  have c2 := h.cell_e.1
  have c0 := run_loadVar_row (P := Tryz.prog) w bs 30 30 cs (0, 0) _ h.s Tryz.underlying30 rfl (infoSent.trans (by rw [h.z]))
  have d1 : (loadVar 4 ⟨bi, 0, none⟩).run Tryz.prog w = .ok (.bool b) w := by simp [go_sem, c1]
  have d2 : (loadVar 32 ⟨be, 0, none⟩).run Tryz.prog w = .ok ev w := by simp [go_sem, c2]
  simp [results, Tryz.results6, h2, h3, h4, asAddr, c0, d1, d2]
set_option maxHeartbeats 1000000 in
theorem read_none {s : ByteArray} (hs : s.size ≤ 100000) {w : World} (hg : GlobQ w) (hr : isSentB s = false) :
    Calls Tryz.prog 6 #[.string s] w fun e w' => e = .returned (.tuple #[.agg zS, .bool false, .nilIface]) ∧ Below w.heap.size w w' := by
  obtain ⟨hbx, hb0⟩ := boxes_new w
  obtain ⟨W, hW⟩ : ∃ W, W = (((w.alloc (.cells zS 30)).alloc (.cells #[.bool false] 4)).alloc (.cells #[.nilIface] 32)) := ⟨_, rfl⟩
  rw [← hW] at hbx hb0
  have HW : Hid (W = (((w.alloc (.cells #[.string ⟨#[]⟩, .string ⟨#[]⟩, .int .i64 0, .bool false, .string ⟨#[]⟩, .string ⟨#[]⟩, .string ⟨#[]⟩, .int .i64 0, .slice none 0 0, .string ⟨#[]⟩, .string ⟨#[]⟩, .int .i64 0, .slice none 0 0, .int .i64 0, .slice none 0 0, .int .i64 0, .int .i64 0, .int .i64 0, .string ⟨#[]⟩] 30)).alloc (.cells #[.bool false] 4)).alloc (.cells #[.nilIface] 32))) := hW
  obtain ⟨m, hm⟩ := (hg.step hb0).m
  have HI := hidLL (isSentence_q s hs m W hm)
  rw [hr] at HI
  clear hW hm hg
  go_enter_defers Tryz.func6, Tryz.ntmps6
  go_upto_region 1 with fail
  rw [← HW.out]
  have hz := hbx.z
  have HX := hidLL hbx
  have HB0 := hidLL hb0
  have n1 : w.heap.size ≠ w.heap.size + 1 := by omega
  have n2 : w.heap.size ≠ w.heap.size + 1 + 1 := by omega
  have n3 : w.heap.size + 1 ≠ w.heap.size + 1 + 1 := by omega
  clear hbx hb0
  go_wp2_with (first | (go_at_call 14; refine HI.out.mono ?_; rintro e w' ⟨rfl, n, h9⟩; subst h9; (have HX1 := hidLL (HX.out.below (Below.drewN_ W n))); (have HY := hidLL (HX1.out.setRow n1 n2 (cs' := zS))); (obtain ⟨ci, fi⟩ := HY.out.cell_i); (obtain ⟨ce, fe⟩ := HY.out.cell_e)) | (refine wpList_buildZ rfl rfl ?_) | (refine wpList_store_row rfl 30 (.tmp 2) (.tmp 9) rfl w.heap.size zS (by first | (simp [Act.eval]; done) | simp [Act.eval, Act.put]) (by first | (simp [Act.eval]; done) | simp [Act.eval, Act.put]) 30 zS HX1.out.s (infoSent.trans (by rw [zS_size])) rfl zS_one ?_))
  refine ⟨_, results_three ((HY.out.setI n1 n3 false).setE n2 n3 .nilIface) _ rfl rfl rfl, rfl, ?_⟩
  exact HB0.out.trans (((((Fr3.of (Below.drewN_ W n)).setRow zS).set (.inl rfl) _).set (.inr rfl) _).below (bs := w.heap.size) (bi := w.heap.size + 1) (be := w.heap.size + 1 + 1) HB0.out.size (Nat.le_refl _) (by omega) (by omega))
end Go.Proofs.YtehbinobohjadaaGreatDoor
namespace Go.Proofs.YtehbinobohjadaaGreatDoor
open Go.RowKit Go.Extern.Stop Go.Stop Go.Extern

theorem RBx.drew {w : World} {bs bi be : Nat} {cs : Array Value} {b : Bool} {ev : Value} (h : RBx w bs bi be cs b ev) : RBx w.drew bs bi be cs b ev := ⟨h.s, h.i, h.e, h.z⟩
theorem Fr3.drew {bs bi be : Nat} {w w' : World} (h : Fr3 bs bi be w w') : Fr3 bs bi be w w'.drew := ⟨h.os, h.tape, h.output, h.size, h.block⟩
theorem Fr3.refl (bs bi be : Nat) (w : World) : Fr3 bs bi be w w := ⟨rfl, rfl, rfl, Nat.le_refl _, fun _ _ _ _ _ => rfl⟩
theorem wp_buildZ {o : Oper} {a : Act} {w : World} {K : Act → World → Prop} {Q : Exit → Act → World → Prop} (ho : o.op = .build 30 #[]) (h : K (a.put o.dst (.agg zS)) w) : o.wp Tryz.prog a w K Q := by
  have hp : ((#[] : Array (Nat × Operand)).map fun (i, x) => (i, a.eval x)).toList = [] := by simp
  exact wp_build 30 #[] ho (by rw [hp, builtZ]; rfl) (by rw [hp, builtZ]; exact h)
def ops4 : Array Oper := #[{ dst := some 13, op := Op.build 30 #[], type := 30, pos := "terms.go:53", after := #[], guard := none },
  { dst := some 14, op := Op.load 32 (Operand.global 0), type := 32, pos := "terms.go:53", after := #[], guard := none },
  { dst := some 15, op := Op.build 57 #[(0, Operand.const (Value.int IntKind.i64 0)), (1, Operand.tmp 14)], type := 57, pos := "terms.go:53", after := #[{ on := 1, ground := Ground.data }], guard := none },
  { dst := some 16, op := Op.box 57 (Operand.tmp 15), type := 55, pos := "terms.go:53", after := #[{ on := 2, ground := Ground.data }], guard := none },
  { dst := some 17, op := Op.makeInterface 55 (Operand.tmp 16), type := 32, pos := "terms.go:53", after := #[{ on := 3, ground := Ground.data }], guard := none },
  { dst := none, op := Op.store 30 (Operand.tmp 2) (Operand.tmp 13), type := 0, pos := "terms.go:53", after := #[{ on := 0, ground := Ground.data }, { on := 0, ground := Ground.phase }, { on := 1, ground := Ground.textOnly Departure.lateStoresUnsure }, { on := 2, ground := Ground.textOnly Departure.lateStoresUnsure }, { on := 3, ground := Ground.textOnly Departure.lateStoresUnsure }, { on := 4, ground := Ground.textOnly Departure.lateStoresUnsure }], guard := none },
  { dst := none, op := Op.store 4 (Operand.tmp 3) (Operand.const (Value.bool true)), type := 0, pos := "terms.go:53", after := #[{ on := 5, ground := Ground.chain }, { on := 0, ground := Ground.phase }, { on := 1, ground := Ground.textOnly Departure.lateStoresUnsure }, { on := 2, ground := Ground.textOnly Departure.lateStoresUnsure }, { on := 3, ground := Ground.textOnly Departure.lateStoresUnsure }, { on := 4, ground := Ground.textOnly Departure.lateStoresUnsure }, { on := 5, ground := Ground.phase }], guard := none },
  { dst := none, op := Op.store 32 (Operand.tmp 4) (Operand.tmp 17), type := 0, pos := "terms.go:53", after := #[{ on := 4, ground := Ground.data }, { on := 6, ground := Ground.chain }, { on := 0, ground := Ground.phase }, { on := 1, ground := Ground.phase }, { on := 2, ground := Ground.phase }, { on := 3, ground := Ground.phase }, { on := 4, ground := Ground.phase }, { on := 5, ground := Ground.phase }, { on := 6, ground := Ground.phase }], guard := none }]
/-- The world on the way. -/
structure R4U (V : World) (bs bi be : Nat) (pB : Addr) (b : Bool) (U : World) : Prop where
  bx : RBx U bs bi be zS b .nilIface
  fr : Fr3 bs bi be V U
  ce : U.cell? ⟨0, 0, none⟩ = some (.iface 189 (.pointer (some pB)))
/-- What is known of the boxes' places. -/
structure R4C (V : World) (bs bi be : Nat) : Prop where
  q1 : bs ≠ bi
  q2 : bs ≠ be
  q3 : bi ≠ be
  g : 0 < V.heap.size
  g1 : 0 ≠ bs
  g2 : 0 ≠ bi
theorem R4U.alloc {V : World} {bs bi be : Nat} {pB : Addr} {b : Bool} {U : World} (h : R4U V bs bi be pB b U) (o : Obj) : R4U V bs bi be pB b (U.alloc o) :=
  have hb : Below U.heap.size U (U.alloc o) := (Below.refl _ _).alloc (Nat.le_refl _) _
  ⟨h.bx.below hb, h.fr.trans (Fr3.of hb), (hb.cell (p := ⟨0, 0, none⟩) (cell_lt h.ce)).trans h.ce⟩
theorem R4U.row {V : World} {bs bi be : Nat} {pB : Addr} {b : Bool} {U : World} (C : R4C V bs bi be) (h : R4U V bs bi be pB b U) : R4U V bs bi be pB b (U.setRow bs zS) :=
  ⟨h.bx.setRow C.q1 C.q2, h.fr.setRow zS, (World.cell?_of_block (a := ⟨0, 0, none⟩) (heap_setRow_ne C.g1)).trans h.ce⟩
theorem R4U.flag {V : World} {bs bi be : Nat} {pB : Addr} {b : Bool} {U : World} (C : R4C V bs bi be) (h : R4U V bs bi be pB b U) : R4U V bs bi be pB true (U.setCell ⟨bi, 0, none⟩ (.bool true)) :=
  ⟨h.bx.setI C.q1 C.q3 true, h.fr.set (.inl rfl) _, (World.cell?_of_block (a := ⟨0, 0, none⟩) (Below.heap_setCell _ _ _ _ C.g2)).trans h.ce⟩
section
variable {Q : Exit → Act → World → Prop} {V : World} {bs bi be : Nat} {s : ByteArray} {pB : Addr} {ds : List Deferred}
set_option maxRecDepth 20000 in
set_option maxHeartbeats 1000000 in
theorem r4_end (C : R4C V bs bi be) (HQ : ∀ (U : World) (pa : Addr), RBx U bs bi be zS true (.iface 55 (.pointer (some pa))) → Fr3 bs bi be V U → Q .normal { tmps := #[.string s, undef, .pointer (some ⟨bs, 0, none⟩), .pointer (some ⟨bi, 0, none⟩), .pointer (some ⟨be, 0, none⟩), undef, .string s, .bool true, .bool false, undef, .string s, .int .i64 s.size, .bool true, .agg zS, (.iface 189 (.pointer (some pB))), .agg #[.int .i64 0, (.iface 189 (.pointer (some pB)))], .pointer (some pa), .iface 55 (.pointer (some pa)), undef, undef, undef, undef, undef], defers := ds } U) (pa : Addr) (U : World) (h : R4U V bs bi be pB true U) : wpAny Tryz.prog .any ops4 Q 1 #[true, true, true, true, true, true, true, false] { tmps := #[.string s, undef, .pointer (some ⟨bs, 0, none⟩), .pointer (some ⟨bi, 0, none⟩), .pointer (some ⟨be, 0, none⟩), undef, .string s, .bool true, .bool false, undef, .string s, .int .i64 s.size, .bool true, .agg zS, (.iface 189 (.pointer (some pB))), .agg #[.int .i64 0, (.iface 189 (.pointer (some pB)))], .pointer (some pa), .iface 55 (.pointer (some pa)), undef, undef, undef, undef, undef], defers := ds } U := by
  obtain ⟨ce, fe⟩ := h.bx.cell_e
  refine wpAny_ready (rs := [7]) (by kernel_rfl) (by simp) ?_
  refine AllReady.cons (o := { dst := none, op := Op.store 32 (Operand.tmp 4) (Operand.tmp 17), type := 0, pos := "terms.go:53", after := #[{ on := 4, ground := Ground.data }, { on := 6, ground := Ground.chain }, { on := 0, ground := Ground.phase }, { on := 1, ground := Ground.phase }, { on := 2, ground := Ground.phase }, { on := 3, ground := Ground.phase }, { on := 4, ground := Ground.phase }, { on := 5, ground := Ground.phase }, { on := 6, ground := Ground.phase }], guard := none }) rfl (fun K hK => ?_) AllReady.nil
  have HK : Hid (K { tmps := #[.string s, undef, .pointer (some ⟨bs, 0, none⟩), .pointer (some ⟨bi, 0, none⟩), .pointer (some ⟨be, 0, none⟩), undef, .string s, .bool true, .bool false, undef, .string s, .int .i64 s.size, .bool true, .agg zS, (.iface 189 (.pointer (some pB))), .agg #[.int .i64 0, (.iface 189 (.pointer (some pB)))], .pointer (some pa), .iface 55 (.pointer (some pa)), undef, undef, undef, undef, undef], defers := ds } (U.setCell ⟨be, 0, none⟩ (.iface 55 (.pointer (some pa))))) := hK _ _ (wpAny_done (by kernel_rfl) (HQ _ pa (h.bx.setE C.q2 C.q3 _) (h.fr.set (.inr rfl) _)) _)
  clear hK
  go_simp
  exact HK.out
set_option maxRecDepth 20000 in
set_option maxHeartbeats 1000000 in
theorem r4_42 (C : R4C V bs bi be) (HQ : ∀ (U : World) (pa : Addr), RBx U bs bi be zS true (.iface 55 (.pointer (some pa))) → Fr3 bs bi be V U → Q .normal { tmps := #[.string s, undef, .pointer (some ⟨bs, 0, none⟩), .pointer (some ⟨bi, 0, none⟩), .pointer (some ⟨be, 0, none⟩), undef, .string s, .bool true, .bool false, undef, .string s, .int .i64 s.size, .bool true, .agg zS, (.iface 189 (.pointer (some pB))), .agg #[.int .i64 0, (.iface 189 (.pointer (some pB)))], .pointer (some pa), .iface 55 (.pointer (some pa)), undef, undef, undef, undef, undef], defers := ds } U) (pa : Addr) (U : World) (h : R4U V bs bi be pB false U) : wpAny Tryz.prog .any ops4 Q 2 #[true, true, true, true, true, true, false, false] { tmps := #[.string s, undef, .pointer (some ⟨bs, 0, none⟩), .pointer (some ⟨bi, 0, none⟩), .pointer (some ⟨be, 0, none⟩), undef, .string s, .bool true, .bool false, undef, .string s, .int .i64 s.size, .bool true, .agg zS, (.iface 189 (.pointer (some pB))), .agg #[.int .i64 0, (.iface 189 (.pointer (some pB)))], .pointer (some pa), .iface 55 (.pointer (some pa)), undef, undef, undef, undef, undef], defers := ds } U := by
  have ce := h.ce
  refine wpAny_ready (rs := [6]) (by kernel_rfl) (by simp) ?_
  refine AllReady.cons (o := { dst := none, op := Op.store 4 (Operand.tmp 3) (Operand.const (Value.bool true)), type := 0, pos := "terms.go:53", after := #[{ on := 5, ground := Ground.chain }, { on := 0, ground := Ground.phase }, { on := 1, ground := Ground.textOnly Departure.lateStoresUnsure }, { on := 2, ground := Ground.textOnly Departure.lateStoresUnsure }, { on := 3, ground := Ground.textOnly Departure.lateStoresUnsure }, { on := 4, ground := Ground.textOnly Departure.lateStoresUnsure }, { on := 5, ground := Ground.phase }], guard := none }) rfl (fun K hK => ?_) AllReady.nil
  have HK : Hid (K { tmps := #[.string s, undef, .pointer (some ⟨bs, 0, none⟩), .pointer (some ⟨bi, 0, none⟩), .pointer (some ⟨be, 0, none⟩), undef, .string s, .bool true, .bool false, undef, .string s, .int .i64 s.size, .bool true, .agg zS, (.iface 189 (.pointer (some pB))), .agg #[.int .i64 0, (.iface 189 (.pointer (some pB)))], .pointer (some pa), .iface 55 (.pointer (some pa)), undef, undef, undef, undef, undef], defers := ds } (U.setCell ⟨bi, 0, none⟩ (.bool true))) := hK _ _ (r4_end C HQ pa _ (h.flag C))
  clear hK
  obtain ⟨ci, fi⟩ := h.bx.cell_i
  go_simp
  exact HK.out
set_option maxRecDepth 20000 in
set_option maxHeartbeats 1000000 in
theorem r4_33 (C : R4C V bs bi be) (HQ : ∀ (U : World) (pa : Addr), RBx U bs bi be zS true (.iface 55 (.pointer (some pa))) → Fr3 bs bi be V U → Q .normal { tmps := #[.string s, undef, .pointer (some ⟨bs, 0, none⟩), .pointer (some ⟨bi, 0, none⟩), .pointer (some ⟨be, 0, none⟩), undef, .string s, .bool true, .bool false, undef, .string s, .int .i64 s.size, .bool true, .agg zS, (.iface 189 (.pointer (some pB))), .agg #[.int .i64 0, (.iface 189 (.pointer (some pB)))], .pointer (some pa), .iface 55 (.pointer (some pa)), undef, undef, undef, undef, undef], defers := ds } U) (pa : Addr) (U : World) (h : R4U V bs bi be pB true U) : wpAny Tryz.prog .any ops4 Q 2 #[true, true, true, true, false, true, true, false] { tmps := #[.string s, undef, .pointer (some ⟨bs, 0, none⟩), .pointer (some ⟨bi, 0, none⟩), .pointer (some ⟨be, 0, none⟩), undef, .string s, .bool true, .bool false, undef, .string s, .int .i64 s.size, .bool true, .agg zS, (.iface 189 (.pointer (some pB))), .agg #[.int .i64 0, (.iface 189 (.pointer (some pB)))], .pointer (some pa), undef, undef, undef, undef, undef, undef], defers := ds } U := by
  have ce := h.ce
  refine wpAny_ready (rs := [4]) (by kernel_rfl) (by simp) ?_
  refine AllReady.cons (o := { dst := some 17, op := Op.makeInterface 55 (Operand.tmp 16), type := 32, pos := "terms.go:53", after := #[{ on := 3, ground := Ground.data }], guard := none }) rfl (fun K hK => ?_) AllReady.nil
  have HK : Hid (K { tmps := #[.string s, undef, .pointer (some ⟨bs, 0, none⟩), .pointer (some ⟨bi, 0, none⟩), .pointer (some ⟨be, 0, none⟩), undef, .string s, .bool true, .bool false, undef, .string s, .int .i64 s.size, .bool true, .agg zS, (.iface 189 (.pointer (some pB))), .agg #[.int .i64 0, (.iface 189 (.pointer (some pB)))], .pointer (some pa), .iface 55 (.pointer (some pa)), undef, undef, undef, undef, undef], defers := ds } U) := hK _ _ (r4_end C HQ pa _ h)
  clear hK
  go_simp
  exact HK.out
set_option maxRecDepth 20000 in
set_option maxHeartbeats 1000000 in
theorem r4_41 (C : R4C V bs bi be) (HQ : ∀ (U : World) (pa : Addr), RBx U bs bi be zS true (.iface 55 (.pointer (some pa))) → Fr3 bs bi be V U → Q .normal { tmps := #[.string s, undef, .pointer (some ⟨bs, 0, none⟩), .pointer (some ⟨bi, 0, none⟩), .pointer (some ⟨be, 0, none⟩), undef, .string s, .bool true, .bool false, undef, .string s, .int .i64 s.size, .bool true, .agg zS, (.iface 189 (.pointer (some pB))), .agg #[.int .i64 0, (.iface 189 (.pointer (some pB)))], .pointer (some pa), .iface 55 (.pointer (some pa)), undef, undef, undef, undef, undef], defers := ds } U) (pa : Addr) (U : World) (h : R4U V bs bi be pB false U) : wpAny Tryz.prog .any ops4 Q 3 #[true, true, true, true, true, false, false, false] { tmps := #[.string s, undef, .pointer (some ⟨bs, 0, none⟩), .pointer (some ⟨bi, 0, none⟩), .pointer (some ⟨be, 0, none⟩), undef, .string s, .bool true, .bool false, undef, .string s, .int .i64 s.size, .bool true, .agg zS, (.iface 189 (.pointer (some pB))), .agg #[.int .i64 0, (.iface 189 (.pointer (some pB)))], .pointer (some pa), .iface 55 (.pointer (some pa)), undef, undef, undef, undef, undef], defers := ds } U := by
  have ce := h.ce
  refine wpAny_ready (rs := [5]) (by kernel_rfl) (by simp) ?_
  refine AllReady.cons (o := { dst := none, op := Op.store 30 (Operand.tmp 2) (Operand.tmp 13), type := 0, pos := "terms.go:53", after := #[{ on := 0, ground := Ground.data }, { on := 0, ground := Ground.phase }, { on := 1, ground := Ground.textOnly Departure.lateStoresUnsure }, { on := 2, ground := Ground.textOnly Departure.lateStoresUnsure }, { on := 3, ground := Ground.textOnly Departure.lateStoresUnsure }, { on := 4, ground := Ground.textOnly Departure.lateStoresUnsure }], guard := none }) rfl (fun K hK => ?_) AllReady.nil
  have HK : Hid (K { tmps := #[.string s, undef, .pointer (some ⟨bs, 0, none⟩), .pointer (some ⟨bi, 0, none⟩), .pointer (some ⟨be, 0, none⟩), undef, .string s, .bool true, .bool false, undef, .string s, .int .i64 s.size, .bool true, .agg zS, (.iface 189 (.pointer (some pB))), .agg #[.int .i64 0, (.iface 189 (.pointer (some pB)))], .pointer (some pa), .iface 55 (.pointer (some pa)), undef, undef, undef, undef, undef], defers := ds } (U.setRow bs zS)) := hK _ _ (r4_42 C HQ pa _ (h.row C))
  clear hK
  rw [if_pos (by simp [Region.wanted])]
  exact wp_store_row 30 (.tmp 2) (.tmp 13) rfl bs zS (by simp [Act.eval]) (by simp [Act.eval]) 30 zS h.bx.s (infoSent.trans (by rw [zS_size])) rfl zS_one HK.out
set_option maxRecDepth 20000 in
set_option maxHeartbeats 1000000 in
theorem r4_32 (C : R4C V bs bi be) (HQ : ∀ (U : World) (pa : Addr), RBx U bs bi be zS true (.iface 55 (.pointer (some pa))) → Fr3 bs bi be V U → Q .normal { tmps := #[.string s, undef, .pointer (some ⟨bs, 0, none⟩), .pointer (some ⟨bi, 0, none⟩), .pointer (some ⟨be, 0, none⟩), undef, .string s, .bool true, .bool false, undef, .string s, .int .i64 s.size, .bool true, .agg zS, (.iface 189 (.pointer (some pB))), .agg #[.int .i64 0, (.iface 189 (.pointer (some pB)))], .pointer (some pa), .iface 55 (.pointer (some pa)), undef, undef, undef, undef, undef], defers := ds } U) (pa : Addr) (U : World) (h : R4U V bs bi be pB false U) : wpAny Tryz.prog .any ops4 Q 3 #[true, true, true, true, false, true, false, false] { tmps := #[.string s, undef, .pointer (some ⟨bs, 0, none⟩), .pointer (some ⟨bi, 0, none⟩), .pointer (some ⟨be, 0, none⟩), undef, .string s, .bool true, .bool false, undef, .string s, .int .i64 s.size, .bool true, .agg zS, (.iface 189 (.pointer (some pB))), .agg #[.int .i64 0, (.iface 189 (.pointer (some pB)))], .pointer (some pa), undef, undef, undef, undef, undef, undef], defers := ds } U := by
  have ce := h.ce
  refine wpAny_ready (rs := [4, 6]) (by kernel_rfl) (by simp) ?_
  refine AllReady.cons (o := { dst := some 17, op := Op.makeInterface 55 (Operand.tmp 16), type := 32, pos := "terms.go:53", after := #[{ on := 3, ground := Ground.data }], guard := none }) rfl (fun K hK => ?_) ?_
  · have HK : Hid (K { tmps := #[.string s, undef, .pointer (some ⟨bs, 0, none⟩), .pointer (some ⟨bi, 0, none⟩), .pointer (some ⟨be, 0, none⟩), undef, .string s, .bool true, .bool false, undef, .string s, .int .i64 s.size, .bool true, .agg zS, (.iface 189 (.pointer (some pB))), .agg #[.int .i64 0, (.iface 189 (.pointer (some pB)))], .pointer (some pa), .iface 55 (.pointer (some pa)), undef, undef, undef, undef, undef], defers := ds } U) := hK _ _ (r4_42 C HQ pa _ h)
    clear hK
    go_simp
    exact HK.out
  refine AllReady.cons (o := { dst := none, op := Op.store 4 (Operand.tmp 3) (Operand.const (Value.bool true)), type := 0, pos := "terms.go:53", after := #[{ on := 5, ground := Ground.chain }, { on := 0, ground := Ground.phase }, { on := 1, ground := Ground.textOnly Departure.lateStoresUnsure }, { on := 2, ground := Ground.textOnly Departure.lateStoresUnsure }, { on := 3, ground := Ground.textOnly Departure.lateStoresUnsure }, { on := 4, ground := Ground.textOnly Departure.lateStoresUnsure }, { on := 5, ground := Ground.phase }], guard := none }) rfl (fun K hK => ?_) AllReady.nil
  have HK : Hid (K { tmps := #[.string s, undef, .pointer (some ⟨bs, 0, none⟩), .pointer (some ⟨bi, 0, none⟩), .pointer (some ⟨be, 0, none⟩), undef, .string s, .bool true, .bool false, undef, .string s, .int .i64 s.size, .bool true, .agg zS, (.iface 189 (.pointer (some pB))), .agg #[.int .i64 0, (.iface 189 (.pointer (some pB)))], .pointer (some pa), undef, undef, undef, undef, undef, undef], defers := ds } (U.setCell ⟨bi, 0, none⟩ (.bool true))) := hK _ _ (r4_33 C HQ pa _ (h.flag C))
  clear hK
  obtain ⟨ci, fi⟩ := h.bx.cell_i
  go_simp
  exact HK.out
set_option maxRecDepth 20000 in
set_option maxHeartbeats 1000000 in
theorem r4_23 (C : R4C V bs bi be) (HQ : ∀ (U : World) (pa : Addr), RBx U bs bi be zS true (.iface 55 (.pointer (some pa))) → Fr3 bs bi be V U → Q .normal { tmps := #[.string s, undef, .pointer (some ⟨bs, 0, none⟩), .pointer (some ⟨bi, 0, none⟩), .pointer (some ⟨be, 0, none⟩), undef, .string s, .bool true, .bool false, undef, .string s, .int .i64 s.size, .bool true, .agg zS, (.iface 189 (.pointer (some pB))), .agg #[.int .i64 0, (.iface 189 (.pointer (some pB)))], .pointer (some pa), .iface 55 (.pointer (some pa)), undef, undef, undef, undef, undef], defers := ds } U) (_ : Addr) (U : World) (h : R4U V bs bi be pB true U) : wpAny Tryz.prog .any ops4 Q 3 #[true, true, true, false, false, true, true, false] { tmps := #[.string s, undef, .pointer (some ⟨bs, 0, none⟩), .pointer (some ⟨bi, 0, none⟩), .pointer (some ⟨be, 0, none⟩), undef, .string s, .bool true, .bool false, undef, .string s, .int .i64 s.size, .bool true, .agg zS, (.iface 189 (.pointer (some pB))), .agg #[.int .i64 0, (.iface 189 (.pointer (some pB)))], undef, undef, undef, undef, undef, undef, undef], defers := ds } U := by
  have ce := h.ce
  refine wpAny_ready (rs := [3]) (by kernel_rfl) (by simp) ?_
  refine AllReady.cons (o := { dst := some 16, op := Op.box 57 (Operand.tmp 15), type := 55, pos := "terms.go:53", after := #[{ on := 2, ground := Ground.data }], guard := none }) rfl (fun K hK => ?_) AllReady.nil
  have HK : Hid (K { tmps := #[.string s, undef, .pointer (some ⟨bs, 0, none⟩), .pointer (some ⟨bi, 0, none⟩), .pointer (some ⟨be, 0, none⟩), undef, .string s, .bool true, .bool false, undef, .string s, .int .i64 s.size, .bool true, .agg zS, (.iface 189 (.pointer (some pB))), .agg #[.int .i64 0, (.iface 189 (.pointer (some pB)))], .pointer (some ⟨U.heap.size, 0, none⟩), undef, undef, undef, undef, undef, undef], defers := ds } (U.alloc (.cells #[.int .i64 0, (.iface 189 (.pointer (some pB)))] 57))) := hK _ _ (r4_33 C HQ ⟨U.heap.size, 0, none⟩ _ (h.alloc _))
  clear hK
  go_simp
  exact HK.out
set_option maxRecDepth 20000 in
set_option maxHeartbeats 1000000 in
theorem r4_40 (C : R4C V bs bi be) (HQ : ∀ (U : World) (pa : Addr), RBx U bs bi be zS true (.iface 55 (.pointer (some pa))) → Fr3 bs bi be V U → Q .normal { tmps := #[.string s, undef, .pointer (some ⟨bs, 0, none⟩), .pointer (some ⟨bi, 0, none⟩), .pointer (some ⟨be, 0, none⟩), undef, .string s, .bool true, .bool false, undef, .string s, .int .i64 s.size, .bool true, .agg zS, (.iface 189 (.pointer (some pB))), .agg #[.int .i64 0, (.iface 189 (.pointer (some pB)))], .pointer (some pa), .iface 55 (.pointer (some pa)), undef, undef, undef, undef, undef], defers := ds } U) (pa : Addr) (U : World) (h : R4U V bs bi be pB false U) : wpAny Tryz.prog .any ops4 Q 4 #[false, true, true, true, true, false, false, false] { tmps := #[.string s, undef, .pointer (some ⟨bs, 0, none⟩), .pointer (some ⟨bi, 0, none⟩), .pointer (some ⟨be, 0, none⟩), undef, .string s, .bool true, .bool false, undef, .string s, .int .i64 s.size, .bool true, undef, (.iface 189 (.pointer (some pB))), .agg #[.int .i64 0, (.iface 189 (.pointer (some pB)))], .pointer (some pa), .iface 55 (.pointer (some pa)), undef, undef, undef, undef, undef], defers := ds } U := by
  have ce := h.ce
  refine wpAny_ready (rs := [0]) (by kernel_rfl) (by simp) ?_
  refine AllReady.cons (o := { dst := some 13, op := Op.build 30 #[], type := 30, pos := "terms.go:53", after := #[], guard := none }) rfl (fun K hK => ?_) AllReady.nil
  have HK : Hid (K { tmps := #[.string s, undef, .pointer (some ⟨bs, 0, none⟩), .pointer (some ⟨bi, 0, none⟩), .pointer (some ⟨be, 0, none⟩), undef, .string s, .bool true, .bool false, undef, .string s, .int .i64 s.size, .bool true, .agg zS, (.iface 189 (.pointer (some pB))), .agg #[.int .i64 0, (.iface 189 (.pointer (some pB)))], .pointer (some pa), .iface 55 (.pointer (some pa)), undef, undef, undef, undef, undef], defers := ds } U) := hK _ _ (r4_41 C HQ pa _ h)
  clear hK
  rw [if_pos (by simp [Region.wanted])]
  exact wp_buildZ rfl HK.out
set_option maxRecDepth 20000 in
set_option maxHeartbeats 1000000 in
theorem r4_31 (C : R4C V bs bi be) (HQ : ∀ (U : World) (pa : Addr), RBx U bs bi be zS true (.iface 55 (.pointer (some pa))) → Fr3 bs bi be V U → Q .normal { tmps := #[.string s, undef, .pointer (some ⟨bs, 0, none⟩), .pointer (some ⟨bi, 0, none⟩), .pointer (some ⟨be, 0, none⟩), undef, .string s, .bool true, .bool false, undef, .string s, .int .i64 s.size, .bool true, .agg zS, (.iface 189 (.pointer (some pB))), .agg #[.int .i64 0, (.iface 189 (.pointer (some pB)))], .pointer (some pa), .iface 55 (.pointer (some pa)), undef, undef, undef, undef, undef], defers := ds } U) (pa : Addr) (U : World) (h : R4U V bs bi be pB false U) : wpAny Tryz.prog .any ops4 Q 4 #[true, true, true, true, false, false, false, false] { tmps := #[.string s, undef, .pointer (some ⟨bs, 0, none⟩), .pointer (some ⟨bi, 0, none⟩), .pointer (some ⟨be, 0, none⟩), undef, .string s, .bool true, .bool false, undef, .string s, .int .i64 s.size, .bool true, .agg zS, (.iface 189 (.pointer (some pB))), .agg #[.int .i64 0, (.iface 189 (.pointer (some pB)))], .pointer (some pa), undef, undef, undef, undef, undef, undef], defers := ds } U := by
  have ce := h.ce
  refine wpAny_ready (rs := [4, 5]) (by kernel_rfl) (by simp) ?_
  refine AllReady.cons (o := { dst := some 17, op := Op.makeInterface 55 (Operand.tmp 16), type := 32, pos := "terms.go:53", after := #[{ on := 3, ground := Ground.data }], guard := none }) rfl (fun K hK => ?_) ?_
  · have HK : Hid (K { tmps := #[.string s, undef, .pointer (some ⟨bs, 0, none⟩), .pointer (some ⟨bi, 0, none⟩), .pointer (some ⟨be, 0, none⟩), undef, .string s, .bool true, .bool false, undef, .string s, .int .i64 s.size, .bool true, .agg zS, (.iface 189 (.pointer (some pB))), .agg #[.int .i64 0, (.iface 189 (.pointer (some pB)))], .pointer (some pa), .iface 55 (.pointer (some pa)), undef, undef, undef, undef, undef], defers := ds } U) := hK _ _ (r4_41 C HQ pa _ h)
    clear hK
    go_simp
    exact HK.out
  refine AllReady.cons (o := { dst := none, op := Op.store 30 (Operand.tmp 2) (Operand.tmp 13), type := 0, pos := "terms.go:53", after := #[{ on := 0, ground := Ground.data }, { on := 0, ground := Ground.phase }, { on := 1, ground := Ground.textOnly Departure.lateStoresUnsure }, { on := 2, ground := Ground.textOnly Departure.lateStoresUnsure }, { on := 3, ground := Ground.textOnly Departure.lateStoresUnsure }, { on := 4, ground := Ground.textOnly Departure.lateStoresUnsure }], guard := none }) rfl (fun K hK => ?_) AllReady.nil
  have HK : Hid (K { tmps := #[.string s, undef, .pointer (some ⟨bs, 0, none⟩), .pointer (some ⟨bi, 0, none⟩), .pointer (some ⟨be, 0, none⟩), undef, .string s, .bool true, .bool false, undef, .string s, .int .i64 s.size, .bool true, .agg zS, (.iface 189 (.pointer (some pB))), .agg #[.int .i64 0, (.iface 189 (.pointer (some pB)))], .pointer (some pa), undef, undef, undef, undef, undef, undef], defers := ds } (U.setRow bs zS)) := hK _ _ (r4_32 C HQ pa _ (h.row C))
  clear hK
  rw [if_pos (by simp [Region.wanted])]
  exact wp_store_row 30 (.tmp 2) (.tmp 13) rfl bs zS (by simp [Act.eval]) (by simp [Act.eval]) 30 zS h.bx.s (infoSent.trans (by rw [zS_size])) rfl zS_one HK.out
set_option maxRecDepth 20000 in
set_option maxHeartbeats 1000000 in
theorem r4_22 (C : R4C V bs bi be) (HQ : ∀ (U : World) (pa : Addr), RBx U bs bi be zS true (.iface 55 (.pointer (some pa))) → Fr3 bs bi be V U → Q .normal { tmps := #[.string s, undef, .pointer (some ⟨bs, 0, none⟩), .pointer (some ⟨bi, 0, none⟩), .pointer (some ⟨be, 0, none⟩), undef, .string s, .bool true, .bool false, undef, .string s, .int .i64 s.size, .bool true, .agg zS, (.iface 189 (.pointer (some pB))), .agg #[.int .i64 0, (.iface 189 (.pointer (some pB)))], .pointer (some pa), .iface 55 (.pointer (some pa)), undef, undef, undef, undef, undef], defers := ds } U) (pa : Addr) (U : World) (h : R4U V bs bi be pB false U) : wpAny Tryz.prog .any ops4 Q 4 #[true, true, true, false, false, true, false, false] { tmps := #[.string s, undef, .pointer (some ⟨bs, 0, none⟩), .pointer (some ⟨bi, 0, none⟩), .pointer (some ⟨be, 0, none⟩), undef, .string s, .bool true, .bool false, undef, .string s, .int .i64 s.size, .bool true, .agg zS, (.iface 189 (.pointer (some pB))), .agg #[.int .i64 0, (.iface 189 (.pointer (some pB)))], undef, undef, undef, undef, undef, undef, undef], defers := ds } U := by
  have ce := h.ce
  refine wpAny_ready (rs := [3, 6]) (by kernel_rfl) (by simp) ?_
  refine AllReady.cons (o := { dst := some 16, op := Op.box 57 (Operand.tmp 15), type := 55, pos := "terms.go:53", after := #[{ on := 2, ground := Ground.data }], guard := none }) rfl (fun K hK => ?_) ?_
  · have HK : Hid (K { tmps := #[.string s, undef, .pointer (some ⟨bs, 0, none⟩), .pointer (some ⟨bi, 0, none⟩), .pointer (some ⟨be, 0, none⟩), undef, .string s, .bool true, .bool false, undef, .string s, .int .i64 s.size, .bool true, .agg zS, (.iface 189 (.pointer (some pB))), .agg #[.int .i64 0, (.iface 189 (.pointer (some pB)))], .pointer (some ⟨U.heap.size, 0, none⟩), undef, undef, undef, undef, undef, undef], defers := ds } (U.alloc (.cells #[.int .i64 0, (.iface 189 (.pointer (some pB)))] 57))) := hK _ _ (r4_32 C HQ ⟨U.heap.size, 0, none⟩ _ (h.alloc _))
    clear hK
    go_simp
    exact HK.out
  refine AllReady.cons (o := { dst := none, op := Op.store 4 (Operand.tmp 3) (Operand.const (Value.bool true)), type := 0, pos := "terms.go:53", after := #[{ on := 5, ground := Ground.chain }, { on := 0, ground := Ground.phase }, { on := 1, ground := Ground.textOnly Departure.lateStoresUnsure }, { on := 2, ground := Ground.textOnly Departure.lateStoresUnsure }, { on := 3, ground := Ground.textOnly Departure.lateStoresUnsure }, { on := 4, ground := Ground.textOnly Departure.lateStoresUnsure }, { on := 5, ground := Ground.phase }], guard := none }) rfl (fun K hK => ?_) AllReady.nil
  have HK : Hid (K { tmps := #[.string s, undef, .pointer (some ⟨bs, 0, none⟩), .pointer (some ⟨bi, 0, none⟩), .pointer (some ⟨be, 0, none⟩), undef, .string s, .bool true, .bool false, undef, .string s, .int .i64 s.size, .bool true, .agg zS, (.iface 189 (.pointer (some pB))), .agg #[.int .i64 0, (.iface 189 (.pointer (some pB)))], undef, undef, undef, undef, undef, undef, undef], defers := ds } (U.setCell ⟨bi, 0, none⟩ (.bool true))) := hK _ _ (r4_23 C HQ pa _ (h.flag C))
  clear hK
  obtain ⟨ci, fi⟩ := h.bx.cell_i
  go_simp
  exact HK.out
set_option maxRecDepth 20000 in
set_option maxHeartbeats 1000000 in
theorem r4_13 (C : R4C V bs bi be) (HQ : ∀ (U : World) (pa : Addr), RBx U bs bi be zS true (.iface 55 (.pointer (some pa))) → Fr3 bs bi be V U → Q .normal { tmps := #[.string s, undef, .pointer (some ⟨bs, 0, none⟩), .pointer (some ⟨bi, 0, none⟩), .pointer (some ⟨be, 0, none⟩), undef, .string s, .bool true, .bool false, undef, .string s, .int .i64 s.size, .bool true, .agg zS, (.iface 189 (.pointer (some pB))), .agg #[.int .i64 0, (.iface 189 (.pointer (some pB)))], .pointer (some pa), .iface 55 (.pointer (some pa)), undef, undef, undef, undef, undef], defers := ds } U) (pa : Addr) (U : World) (h : R4U V bs bi be pB true U) : wpAny Tryz.prog .any ops4 Q 4 #[true, true, false, false, false, true, true, false] { tmps := #[.string s, undef, .pointer (some ⟨bs, 0, none⟩), .pointer (some ⟨bi, 0, none⟩), .pointer (some ⟨be, 0, none⟩), undef, .string s, .bool true, .bool false, undef, .string s, .int .i64 s.size, .bool true, .agg zS, (.iface 189 (.pointer (some pB))), undef, undef, undef, undef, undef, undef, undef, undef], defers := ds } U := by
  have ce := h.ce
  refine wpAny_ready (rs := [2]) (by kernel_rfl) (by simp) ?_
  refine AllReady.cons (o := { dst := some 15, op := Op.build 57 #[(0, Operand.const (Value.int IntKind.i64 0)), (1, Operand.tmp 14)], type := 57, pos := "terms.go:53", after := #[{ on := 1, ground := Ground.data }], guard := none }) rfl (fun K hK => ?_) AllReady.nil
  have HK : Hid (K { tmps := #[.string s, undef, .pointer (some ⟨bs, 0, none⟩), .pointer (some ⟨bi, 0, none⟩), .pointer (some ⟨be, 0, none⟩), undef, .string s, .bool true, .bool false, undef, .string s, .int .i64 s.size, .bool true, .agg zS, (.iface 189 (.pointer (some pB))), .agg #[.int .i64 0, (.iface 189 (.pointer (some pB)))], undef, undef, undef, undef, undef, undef, undef], defers := ds } U) := hK _ _ (r4_23 C HQ pa _ h)
  clear hK
  go_simp
  exact HK.out
set_option maxRecDepth 20000 in
set_option maxHeartbeats 1000000 in
theorem r4_30 (C : R4C V bs bi be) (HQ : ∀ (U : World) (pa : Addr), RBx U bs bi be zS true (.iface 55 (.pointer (some pa))) → Fr3 bs bi be V U → Q .normal { tmps := #[.string s, undef, .pointer (some ⟨bs, 0, none⟩), .pointer (some ⟨bi, 0, none⟩), .pointer (some ⟨be, 0, none⟩), undef, .string s, .bool true, .bool false, undef, .string s, .int .i64 s.size, .bool true, .agg zS, (.iface 189 (.pointer (some pB))), .agg #[.int .i64 0, (.iface 189 (.pointer (some pB)))], .pointer (some pa), .iface 55 (.pointer (some pa)), undef, undef, undef, undef, undef], defers := ds } U) (pa : Addr) (U : World) (h : R4U V bs bi be pB false U) : wpAny Tryz.prog .any ops4 Q 5 #[false, true, true, true, false, false, false, false] { tmps := #[.string s, undef, .pointer (some ⟨bs, 0, none⟩), .pointer (some ⟨bi, 0, none⟩), .pointer (some ⟨be, 0, none⟩), undef, .string s, .bool true, .bool false, undef, .string s, .int .i64 s.size, .bool true, undef, (.iface 189 (.pointer (some pB))), .agg #[.int .i64 0, (.iface 189 (.pointer (some pB)))], .pointer (some pa), undef, undef, undef, undef, undef, undef], defers := ds } U := by
  have ce := h.ce
  refine wpAny_ready (rs := [0, 4]) (by kernel_rfl) (by simp) ?_
  refine AllReady.cons (o := { dst := some 13, op := Op.build 30 #[], type := 30, pos := "terms.go:53", after := #[], guard := none }) rfl (fun K hK => ?_) ?_
  · have HK : Hid (K { tmps := #[.string s, undef, .pointer (some ⟨bs, 0, none⟩), .pointer (some ⟨bi, 0, none⟩), .pointer (some ⟨be, 0, none⟩), undef, .string s, .bool true, .bool false, undef, .string s, .int .i64 s.size, .bool true, .agg zS, (.iface 189 (.pointer (some pB))), .agg #[.int .i64 0, (.iface 189 (.pointer (some pB)))], .pointer (some pa), undef, undef, undef, undef, undef, undef], defers := ds } U) := hK _ _ (r4_31 C HQ pa _ h)
    clear hK
    rw [if_pos (by simp [Region.wanted])]
    exact wp_buildZ rfl HK.out
  refine AllReady.cons (o := { dst := some 17, op := Op.makeInterface 55 (Operand.tmp 16), type := 32, pos := "terms.go:53", after := #[{ on := 3, ground := Ground.data }], guard := none }) rfl (fun K hK => ?_) AllReady.nil
  have HK : Hid (K { tmps := #[.string s, undef, .pointer (some ⟨bs, 0, none⟩), .pointer (some ⟨bi, 0, none⟩), .pointer (some ⟨be, 0, none⟩), undef, .string s, .bool true, .bool false, undef, .string s, .int .i64 s.size, .bool true, undef, (.iface 189 (.pointer (some pB))), .agg #[.int .i64 0, (.iface 189 (.pointer (some pB)))], .pointer (some pa), .iface 55 (.pointer (some pa)), undef, undef, undef, undef, undef], defers := ds } U) := hK _ _ (r4_40 C HQ pa _ h)
  clear hK
  go_simp
  exact HK.out
set_option maxRecDepth 20000 in
set_option maxHeartbeats 1000000 in
theorem r4_21 (C : R4C V bs bi be) (HQ : ∀ (U : World) (pa : Addr), RBx U bs bi be zS true (.iface 55 (.pointer (some pa))) → Fr3 bs bi be V U → Q .normal { tmps := #[.string s, undef, .pointer (some ⟨bs, 0, none⟩), .pointer (some ⟨bi, 0, none⟩), .pointer (some ⟨be, 0, none⟩), undef, .string s, .bool true, .bool false, undef, .string s, .int .i64 s.size, .bool true, .agg zS, (.iface 189 (.pointer (some pB))), .agg #[.int .i64 0, (.iface 189 (.pointer (some pB)))], .pointer (some pa), .iface 55 (.pointer (some pa)), undef, undef, undef, undef, undef], defers := ds } U) (pa : Addr) (U : World) (h : R4U V bs bi be pB false U) : wpAny Tryz.prog .any ops4 Q 5 #[true, true, true, false, false, false, false, false] { tmps := #[.string s, undef, .pointer (some ⟨bs, 0, none⟩), .pointer (some ⟨bi, 0, none⟩), .pointer (some ⟨be, 0, none⟩), undef, .string s, .bool true, .bool false, undef, .string s, .int .i64 s.size, .bool true, .agg zS, (.iface 189 (.pointer (some pB))), .agg #[.int .i64 0, (.iface 189 (.pointer (some pB)))], undef, undef, undef, undef, undef, undef, undef], defers := ds } U := by
  have ce := h.ce
  refine wpAny_ready (rs := [3, 5]) (by kernel_rfl) (by simp) ?_
  refine AllReady.cons (o := { dst := some 16, op := Op.box 57 (Operand.tmp 15), type := 55, pos := "terms.go:53", after := #[{ on := 2, ground := Ground.data }], guard := none }) rfl (fun K hK => ?_) ?_
  · have HK : Hid (K { tmps := #[.string s, undef, .pointer (some ⟨bs, 0, none⟩), .pointer (some ⟨bi, 0, none⟩), .pointer (some ⟨be, 0, none⟩), undef, .string s, .bool true, .bool false, undef, .string s, .int .i64 s.size, .bool true, .agg zS, (.iface 189 (.pointer (some pB))), .agg #[.int .i64 0, (.iface 189 (.pointer (some pB)))], .pointer (some ⟨U.heap.size, 0, none⟩), undef, undef, undef, undef, undef, undef], defers := ds } (U.alloc (.cells #[.int .i64 0, (.iface 189 (.pointer (some pB)))] 57))) := hK _ _ (r4_31 C HQ ⟨U.heap.size, 0, none⟩ _ (h.alloc _))
    clear hK
    go_simp
    exact HK.out
  refine AllReady.cons (o := { dst := none, op := Op.store 30 (Operand.tmp 2) (Operand.tmp 13), type := 0, pos := "terms.go:53", after := #[{ on := 0, ground := Ground.data }, { on := 0, ground := Ground.phase }, { on := 1, ground := Ground.textOnly Departure.lateStoresUnsure }, { on := 2, ground := Ground.textOnly Departure.lateStoresUnsure }, { on := 3, ground := Ground.textOnly Departure.lateStoresUnsure }, { on := 4, ground := Ground.textOnly Departure.lateStoresUnsure }], guard := none }) rfl (fun K hK => ?_) AllReady.nil
  have HK : Hid (K { tmps := #[.string s, undef, .pointer (some ⟨bs, 0, none⟩), .pointer (some ⟨bi, 0, none⟩), .pointer (some ⟨be, 0, none⟩), undef, .string s, .bool true, .bool false, undef, .string s, .int .i64 s.size, .bool true, .agg zS, (.iface 189 (.pointer (some pB))), .agg #[.int .i64 0, (.iface 189 (.pointer (some pB)))], undef, undef, undef, undef, undef, undef, undef], defers := ds } (U.setRow bs zS)) := hK _ _ (r4_22 C HQ pa _ (h.row C))
  clear hK
  rw [if_pos (by simp [Region.wanted])]
  exact wp_store_row 30 (.tmp 2) (.tmp 13) rfl bs zS (by simp [Act.eval]) (by simp [Act.eval]) 30 zS h.bx.s (infoSent.trans (by rw [zS_size])) rfl zS_one HK.out
set_option maxRecDepth 20000 in
set_option maxHeartbeats 1000000 in
theorem r4_12 (C : R4C V bs bi be) (HQ : ∀ (U : World) (pa : Addr), RBx U bs bi be zS true (.iface 55 (.pointer (some pa))) → Fr3 bs bi be V U → Q .normal { tmps := #[.string s, undef, .pointer (some ⟨bs, 0, none⟩), .pointer (some ⟨bi, 0, none⟩), .pointer (some ⟨be, 0, none⟩), undef, .string s, .bool true, .bool false, undef, .string s, .int .i64 s.size, .bool true, .agg zS, (.iface 189 (.pointer (some pB))), .agg #[.int .i64 0, (.iface 189 (.pointer (some pB)))], .pointer (some pa), .iface 55 (.pointer (some pa)), undef, undef, undef, undef, undef], defers := ds } U) (pa : Addr) (U : World) (h : R4U V bs bi be pB false U) : wpAny Tryz.prog .any ops4 Q 5 #[true, true, false, false, false, true, false, false] { tmps := #[.string s, undef, .pointer (some ⟨bs, 0, none⟩), .pointer (some ⟨bi, 0, none⟩), .pointer (some ⟨be, 0, none⟩), undef, .string s, .bool true, .bool false, undef, .string s, .int .i64 s.size, .bool true, .agg zS, (.iface 189 (.pointer (some pB))), undef, undef, undef, undef, undef, undef, undef, undef], defers := ds } U := by
  have ce := h.ce
  refine wpAny_ready (rs := [2, 6]) (by kernel_rfl) (by simp) ?_
  refine AllReady.cons (o := { dst := some 15, op := Op.build 57 #[(0, Operand.const (Value.int IntKind.i64 0)), (1, Operand.tmp 14)], type := 57, pos := "terms.go:53", after := #[{ on := 1, ground := Ground.data }], guard := none }) rfl (fun K hK => ?_) ?_
  · have HK : Hid (K { tmps := #[.string s, undef, .pointer (some ⟨bs, 0, none⟩), .pointer (some ⟨bi, 0, none⟩), .pointer (some ⟨be, 0, none⟩), undef, .string s, .bool true, .bool false, undef, .string s, .int .i64 s.size, .bool true, .agg zS, (.iface 189 (.pointer (some pB))), .agg #[.int .i64 0, (.iface 189 (.pointer (some pB)))], undef, undef, undef, undef, undef, undef, undef], defers := ds } U) := hK _ _ (r4_22 C HQ pa _ h)
    clear hK
    go_simp
    exact HK.out
  refine AllReady.cons (o := { dst := none, op := Op.store 4 (Operand.tmp 3) (Operand.const (Value.bool true)), type := 0, pos := "terms.go:53", after := #[{ on := 5, ground := Ground.chain }, { on := 0, ground := Ground.phase }, { on := 1, ground := Ground.textOnly Departure.lateStoresUnsure }, { on := 2, ground := Ground.textOnly Departure.lateStoresUnsure }, { on := 3, ground := Ground.textOnly Departure.lateStoresUnsure }, { on := 4, ground := Ground.textOnly Departure.lateStoresUnsure }, { on := 5, ground := Ground.phase }], guard := none }) rfl (fun K hK => ?_) AllReady.nil
  have HK : Hid (K { tmps := #[.string s, undef, .pointer (some ⟨bs, 0, none⟩), .pointer (some ⟨bi, 0, none⟩), .pointer (some ⟨be, 0, none⟩), undef, .string s, .bool true, .bool false, undef, .string s, .int .i64 s.size, .bool true, .agg zS, (.iface 189 (.pointer (some pB))), undef, undef, undef, undef, undef, undef, undef, undef], defers := ds } (U.setCell ⟨bi, 0, none⟩ (.bool true))) := hK _ _ (r4_13 C HQ pa _ (h.flag C))
  clear hK
  obtain ⟨ci, fi⟩ := h.bx.cell_i
  go_simp
  exact HK.out
set_option maxRecDepth 20000 in
set_option maxHeartbeats 1000000 in
theorem r4_03 (C : R4C V bs bi be) (HQ : ∀ (U : World) (pa : Addr), RBx U bs bi be zS true (.iface 55 (.pointer (some pa))) → Fr3 bs bi be V U → Q .normal { tmps := #[.string s, undef, .pointer (some ⟨bs, 0, none⟩), .pointer (some ⟨bi, 0, none⟩), .pointer (some ⟨be, 0, none⟩), undef, .string s, .bool true, .bool false, undef, .string s, .int .i64 s.size, .bool true, .agg zS, (.iface 189 (.pointer (some pB))), .agg #[.int .i64 0, (.iface 189 (.pointer (some pB)))], .pointer (some pa), .iface 55 (.pointer (some pa)), undef, undef, undef, undef, undef], defers := ds } U) (pa : Addr) (U : World) (h : R4U V bs bi be pB true U) : wpAny Tryz.prog .any ops4 Q 5 #[true, false, false, false, false, true, true, false] { tmps := #[.string s, undef, .pointer (some ⟨bs, 0, none⟩), .pointer (some ⟨bi, 0, none⟩), .pointer (some ⟨be, 0, none⟩), undef, .string s, .bool true, .bool false, undef, .string s, .int .i64 s.size, .bool true, .agg zS, undef, undef, undef, undef, undef, undef, undef, undef, undef], defers := ds } U := by
  have ce := h.ce
  refine wpAny_ready (rs := [1]) (by kernel_rfl) (by simp) ?_
  refine AllReady.cons (o := { dst := some 14, op := Op.load 32 (Operand.global 0), type := 32, pos := "terms.go:53", after := #[], guard := none }) rfl (fun K hK => ?_) AllReady.nil
  have HK : Hid (K { tmps := #[.string s, undef, .pointer (some ⟨bs, 0, none⟩), .pointer (some ⟨bi, 0, none⟩), .pointer (some ⟨be, 0, none⟩), undef, .string s, .bool true, .bool false, undef, .string s, .int .i64 s.size, .bool true, .agg zS, (.iface 189 (.pointer (some pB))), undef, undef, undef, undef, undef, undef, undef, undef], defers := ds } U) := hK _ _ (r4_13 C HQ pa _ h)
  clear hK
  go_simp
  exact HK.out
set_option maxRecDepth 20000 in
set_option maxHeartbeats 1000000 in
theorem r4_20 (C : R4C V bs bi be) (HQ : ∀ (U : World) (pa : Addr), RBx U bs bi be zS true (.iface 55 (.pointer (some pa))) → Fr3 bs bi be V U → Q .normal { tmps := #[.string s, undef, .pointer (some ⟨bs, 0, none⟩), .pointer (some ⟨bi, 0, none⟩), .pointer (some ⟨be, 0, none⟩), undef, .string s, .bool true, .bool false, undef, .string s, .int .i64 s.size, .bool true, .agg zS, (.iface 189 (.pointer (some pB))), .agg #[.int .i64 0, (.iface 189 (.pointer (some pB)))], .pointer (some pa), .iface 55 (.pointer (some pa)), undef, undef, undef, undef, undef], defers := ds } U) (pa : Addr) (U : World) (h : R4U V bs bi be pB false U) : wpAny Tryz.prog .any ops4 Q 6 #[false, true, true, false, false, false, false, false] { tmps := #[.string s, undef, .pointer (some ⟨bs, 0, none⟩), .pointer (some ⟨bi, 0, none⟩), .pointer (some ⟨be, 0, none⟩), undef, .string s, .bool true, .bool false, undef, .string s, .int .i64 s.size, .bool true, undef, (.iface 189 (.pointer (some pB))), .agg #[.int .i64 0, (.iface 189 (.pointer (some pB)))], undef, undef, undef, undef, undef, undef, undef], defers := ds } U := by
  have ce := h.ce
  refine wpAny_ready (rs := [0, 3]) (by kernel_rfl) (by simp) ?_
  refine AllReady.cons (o := { dst := some 13, op := Op.build 30 #[], type := 30, pos := "terms.go:53", after := #[], guard := none }) rfl (fun K hK => ?_) ?_
  · have HK : Hid (K { tmps := #[.string s, undef, .pointer (some ⟨bs, 0, none⟩), .pointer (some ⟨bi, 0, none⟩), .pointer (some ⟨be, 0, none⟩), undef, .string s, .bool true, .bool false, undef, .string s, .int .i64 s.size, .bool true, .agg zS, (.iface 189 (.pointer (some pB))), .agg #[.int .i64 0, (.iface 189 (.pointer (some pB)))], undef, undef, undef, undef, undef, undef, undef], defers := ds } U) := hK _ _ (r4_21 C HQ pa _ h)
    clear hK
    rw [if_pos (by simp [Region.wanted])]
    exact wp_buildZ rfl HK.out
  refine AllReady.cons (o := { dst := some 16, op := Op.box 57 (Operand.tmp 15), type := 55, pos := "terms.go:53", after := #[{ on := 2, ground := Ground.data }], guard := none }) rfl (fun K hK => ?_) AllReady.nil
  have HK : Hid (K { tmps := #[.string s, undef, .pointer (some ⟨bs, 0, none⟩), .pointer (some ⟨bi, 0, none⟩), .pointer (some ⟨be, 0, none⟩), undef, .string s, .bool true, .bool false, undef, .string s, .int .i64 s.size, .bool true, undef, (.iface 189 (.pointer (some pB))), .agg #[.int .i64 0, (.iface 189 (.pointer (some pB)))], .pointer (some ⟨U.heap.size, 0, none⟩), undef, undef, undef, undef, undef, undef], defers := ds } (U.alloc (.cells #[.int .i64 0, (.iface 189 (.pointer (some pB)))] 57))) := hK _ _ (r4_30 C HQ ⟨U.heap.size, 0, none⟩ _ (h.alloc _))
  clear hK
  go_simp
  exact HK.out
set_option maxRecDepth 20000 in
set_option maxHeartbeats 1000000 in
theorem r4_11 (C : R4C V bs bi be) (HQ : ∀ (U : World) (pa : Addr), RBx U bs bi be zS true (.iface 55 (.pointer (some pa))) → Fr3 bs bi be V U → Q .normal { tmps := #[.string s, undef, .pointer (some ⟨bs, 0, none⟩), .pointer (some ⟨bi, 0, none⟩), .pointer (some ⟨be, 0, none⟩), undef, .string s, .bool true, .bool false, undef, .string s, .int .i64 s.size, .bool true, .agg zS, (.iface 189 (.pointer (some pB))), .agg #[.int .i64 0, (.iface 189 (.pointer (some pB)))], .pointer (some pa), .iface 55 (.pointer (some pa)), undef, undef, undef, undef, undef], defers := ds } U) (pa : Addr) (U : World) (h : R4U V bs bi be pB false U) : wpAny Tryz.prog .any ops4 Q 6 #[true, true, false, false, false, false, false, false] { tmps := #[.string s, undef, .pointer (some ⟨bs, 0, none⟩), .pointer (some ⟨bi, 0, none⟩), .pointer (some ⟨be, 0, none⟩), undef, .string s, .bool true, .bool false, undef, .string s, .int .i64 s.size, .bool true, .agg zS, (.iface 189 (.pointer (some pB))), undef, undef, undef, undef, undef, undef, undef, undef], defers := ds } U := by
  have ce := h.ce
  refine wpAny_ready (rs := [2, 5]) (by kernel_rfl) (by simp) ?_
  refine AllReady.cons (o := { dst := some 15, op := Op.build 57 #[(0, Operand.const (Value.int IntKind.i64 0)), (1, Operand.tmp 14)], type := 57, pos := "terms.go:53", after := #[{ on := 1, ground := Ground.data }], guard := none }) rfl (fun K hK => ?_) ?_
  · have HK : Hid (K { tmps := #[.string s, undef, .pointer (some ⟨bs, 0, none⟩), .pointer (some ⟨bi, 0, none⟩), .pointer (some ⟨be, 0, none⟩), undef, .string s, .bool true, .bool false, undef, .string s, .int .i64 s.size, .bool true, .agg zS, (.iface 189 (.pointer (some pB))), .agg #[.int .i64 0, (.iface 189 (.pointer (some pB)))], undef, undef, undef, undef, undef, undef, undef], defers := ds } U) := hK _ _ (r4_21 C HQ pa _ h)
    clear hK
    go_simp
    exact HK.out
  refine AllReady.cons (o := { dst := none, op := Op.store 30 (Operand.tmp 2) (Operand.tmp 13), type := 0, pos := "terms.go:53", after := #[{ on := 0, ground := Ground.data }, { on := 0, ground := Ground.phase }, { on := 1, ground := Ground.textOnly Departure.lateStoresUnsure }, { on := 2, ground := Ground.textOnly Departure.lateStoresUnsure }, { on := 3, ground := Ground.textOnly Departure.lateStoresUnsure }, { on := 4, ground := Ground.textOnly Departure.lateStoresUnsure }], guard := none }) rfl (fun K hK => ?_) AllReady.nil
  have HK : Hid (K { tmps := #[.string s, undef, .pointer (some ⟨bs, 0, none⟩), .pointer (some ⟨bi, 0, none⟩), .pointer (some ⟨be, 0, none⟩), undef, .string s, .bool true, .bool false, undef, .string s, .int .i64 s.size, .bool true, .agg zS, (.iface 189 (.pointer (some pB))), undef, undef, undef, undef, undef, undef, undef, undef], defers := ds } (U.setRow bs zS)) := hK _ _ (r4_12 C HQ pa _ (h.row C))
  clear hK
  rw [if_pos (by simp [Region.wanted])]
  exact wp_store_row 30 (.tmp 2) (.tmp 13) rfl bs zS (by simp [Act.eval]) (by simp [Act.eval]) 30 zS h.bx.s (infoSent.trans (by rw [zS_size])) rfl zS_one HK.out
set_option maxRecDepth 20000 in
set_option maxHeartbeats 1000000 in
theorem r4_02 (C : R4C V bs bi be) (HQ : ∀ (U : World) (pa : Addr), RBx U bs bi be zS true (.iface 55 (.pointer (some pa))) → Fr3 bs bi be V U → Q .normal { tmps := #[.string s, undef, .pointer (some ⟨bs, 0, none⟩), .pointer (some ⟨bi, 0, none⟩), .pointer (some ⟨be, 0, none⟩), undef, .string s, .bool true, .bool false, undef, .string s, .int .i64 s.size, .bool true, .agg zS, (.iface 189 (.pointer (some pB))), .agg #[.int .i64 0, (.iface 189 (.pointer (some pB)))], .pointer (some pa), .iface 55 (.pointer (some pa)), undef, undef, undef, undef, undef], defers := ds } U) (pa : Addr) (U : World) (h : R4U V bs bi be pB false U) : wpAny Tryz.prog .any ops4 Q 6 #[true, false, false, false, false, true, false, false] { tmps := #[.string s, undef, .pointer (some ⟨bs, 0, none⟩), .pointer (some ⟨bi, 0, none⟩), .pointer (some ⟨be, 0, none⟩), undef, .string s, .bool true, .bool false, undef, .string s, .int .i64 s.size, .bool true, .agg zS, undef, undef, undef, undef, undef, undef, undef, undef, undef], defers := ds } U := by
  have ce := h.ce
  refine wpAny_ready (rs := [1, 6]) (by kernel_rfl) (by simp) ?_
  refine AllReady.cons (o := { dst := some 14, op := Op.load 32 (Operand.global 0), type := 32, pos := "terms.go:53", after := #[], guard := none }) rfl (fun K hK => ?_) ?_
  · have HK : Hid (K { tmps := #[.string s, undef, .pointer (some ⟨bs, 0, none⟩), .pointer (some ⟨bi, 0, none⟩), .pointer (some ⟨be, 0, none⟩), undef, .string s, .bool true, .bool false, undef, .string s, .int .i64 s.size, .bool true, .agg zS, (.iface 189 (.pointer (some pB))), undef, undef, undef, undef, undef, undef, undef, undef], defers := ds } U) := hK _ _ (r4_12 C HQ pa _ h)
    clear hK
    go_simp
    exact HK.out
  refine AllReady.cons (o := { dst := none, op := Op.store 4 (Operand.tmp 3) (Operand.const (Value.bool true)), type := 0, pos := "terms.go:53", after := #[{ on := 5, ground := Ground.chain }, { on := 0, ground := Ground.phase }, { on := 1, ground := Ground.textOnly Departure.lateStoresUnsure }, { on := 2, ground := Ground.textOnly Departure.lateStoresUnsure }, { on := 3, ground := Ground.textOnly Departure.lateStoresUnsure }, { on := 4, ground := Ground.textOnly Departure.lateStoresUnsure }, { on := 5, ground := Ground.phase }], guard := none }) rfl (fun K hK => ?_) AllReady.nil
  have HK : Hid (K { tmps := #[.string s, undef, .pointer (some ⟨bs, 0, none⟩), .pointer (some ⟨bi, 0, none⟩), .pointer (some ⟨be, 0, none⟩), undef, .string s, .bool true, .bool false, undef, .string s, .int .i64 s.size, .bool true, .agg zS, undef, undef, undef, undef, undef, undef, undef, undef, undef], defers := ds } (U.setCell ⟨bi, 0, none⟩ (.bool true))) := hK _ _ (r4_03 C HQ pa _ (h.flag C))
  clear hK
  obtain ⟨ci, fi⟩ := h.bx.cell_i
  go_simp
  exact HK.out
set_option maxRecDepth 20000 in
set_option maxHeartbeats 1000000 in
theorem r4_10 (C : R4C V bs bi be) (HQ : ∀ (U : World) (pa : Addr), RBx U bs bi be zS true (.iface 55 (.pointer (some pa))) → Fr3 bs bi be V U → Q .normal { tmps := #[.string s, undef, .pointer (some ⟨bs, 0, none⟩), .pointer (some ⟨bi, 0, none⟩), .pointer (some ⟨be, 0, none⟩), undef, .string s, .bool true, .bool false, undef, .string s, .int .i64 s.size, .bool true, .agg zS, (.iface 189 (.pointer (some pB))), .agg #[.int .i64 0, (.iface 189 (.pointer (some pB)))], .pointer (some pa), .iface 55 (.pointer (some pa)), undef, undef, undef, undef, undef], defers := ds } U) (pa : Addr) (U : World) (h : R4U V bs bi be pB false U) : wpAny Tryz.prog .any ops4 Q 7 #[false, true, false, false, false, false, false, false] { tmps := #[.string s, undef, .pointer (some ⟨bs, 0, none⟩), .pointer (some ⟨bi, 0, none⟩), .pointer (some ⟨be, 0, none⟩), undef, .string s, .bool true, .bool false, undef, .string s, .int .i64 s.size, .bool true, undef, (.iface 189 (.pointer (some pB))), undef, undef, undef, undef, undef, undef, undef, undef], defers := ds } U := by
  have ce := h.ce
  refine wpAny_ready (rs := [0, 2]) (by kernel_rfl) (by simp) ?_
  refine AllReady.cons (o := { dst := some 13, op := Op.build 30 #[], type := 30, pos := "terms.go:53", after := #[], guard := none }) rfl (fun K hK => ?_) ?_
  · have HK : Hid (K { tmps := #[.string s, undef, .pointer (some ⟨bs, 0, none⟩), .pointer (some ⟨bi, 0, none⟩), .pointer (some ⟨be, 0, none⟩), undef, .string s, .bool true, .bool false, undef, .string s, .int .i64 s.size, .bool true, .agg zS, (.iface 189 (.pointer (some pB))), undef, undef, undef, undef, undef, undef, undef, undef], defers := ds } U) := hK _ _ (r4_11 C HQ pa _ h)
    clear hK
    rw [if_pos (by simp [Region.wanted])]
    exact wp_buildZ rfl HK.out
  refine AllReady.cons (o := { dst := some 15, op := Op.build 57 #[(0, Operand.const (Value.int IntKind.i64 0)), (1, Operand.tmp 14)], type := 57, pos := "terms.go:53", after := #[{ on := 1, ground := Ground.data }], guard := none }) rfl (fun K hK => ?_) AllReady.nil
  have HK : Hid (K { tmps := #[.string s, undef, .pointer (some ⟨bs, 0, none⟩), .pointer (some ⟨bi, 0, none⟩), .pointer (some ⟨be, 0, none⟩), undef, .string s, .bool true, .bool false, undef, .string s, .int .i64 s.size, .bool true, undef, (.iface 189 (.pointer (some pB))), .agg #[.int .i64 0, (.iface 189 (.pointer (some pB)))], undef, undef, undef, undef, undef, undef, undef], defers := ds } U) := hK _ _ (r4_20 C HQ pa _ h)
  clear hK
  go_simp
  exact HK.out
set_option maxRecDepth 20000 in
set_option maxHeartbeats 1000000 in
theorem r4_01 (C : R4C V bs bi be) (HQ : ∀ (U : World) (pa : Addr), RBx U bs bi be zS true (.iface 55 (.pointer (some pa))) → Fr3 bs bi be V U → Q .normal { tmps := #[.string s, undef, .pointer (some ⟨bs, 0, none⟩), .pointer (some ⟨bi, 0, none⟩), .pointer (some ⟨be, 0, none⟩), undef, .string s, .bool true, .bool false, undef, .string s, .int .i64 s.size, .bool true, .agg zS, (.iface 189 (.pointer (some pB))), .agg #[.int .i64 0, (.iface 189 (.pointer (some pB)))], .pointer (some pa), .iface 55 (.pointer (some pa)), undef, undef, undef, undef, undef], defers := ds } U) (pa : Addr) (U : World) (h : R4U V bs bi be pB false U) : wpAny Tryz.prog .any ops4 Q 7 #[true, false, false, false, false, false, false, false] { tmps := #[.string s, undef, .pointer (some ⟨bs, 0, none⟩), .pointer (some ⟨bi, 0, none⟩), .pointer (some ⟨be, 0, none⟩), undef, .string s, .bool true, .bool false, undef, .string s, .int .i64 s.size, .bool true, .agg zS, undef, undef, undef, undef, undef, undef, undef, undef, undef], defers := ds } U := by
  have ce := h.ce
  refine wpAny_ready (rs := [1, 5]) (by kernel_rfl) (by simp) ?_
  refine AllReady.cons (o := { dst := some 14, op := Op.load 32 (Operand.global 0), type := 32, pos := "terms.go:53", after := #[], guard := none }) rfl (fun K hK => ?_) ?_
  · have HK : Hid (K { tmps := #[.string s, undef, .pointer (some ⟨bs, 0, none⟩), .pointer (some ⟨bi, 0, none⟩), .pointer (some ⟨be, 0, none⟩), undef, .string s, .bool true, .bool false, undef, .string s, .int .i64 s.size, .bool true, .agg zS, (.iface 189 (.pointer (some pB))), undef, undef, undef, undef, undef, undef, undef, undef], defers := ds } U) := hK _ _ (r4_11 C HQ pa _ h)
    clear hK
    go_simp
    exact HK.out
  refine AllReady.cons (o := { dst := none, op := Op.store 30 (Operand.tmp 2) (Operand.tmp 13), type := 0, pos := "terms.go:53", after := #[{ on := 0, ground := Ground.data }, { on := 0, ground := Ground.phase }, { on := 1, ground := Ground.textOnly Departure.lateStoresUnsure }, { on := 2, ground := Ground.textOnly Departure.lateStoresUnsure }, { on := 3, ground := Ground.textOnly Departure.lateStoresUnsure }, { on := 4, ground := Ground.textOnly Departure.lateStoresUnsure }], guard := none }) rfl (fun K hK => ?_) AllReady.nil
  have HK : Hid (K { tmps := #[.string s, undef, .pointer (some ⟨bs, 0, none⟩), .pointer (some ⟨bi, 0, none⟩), .pointer (some ⟨be, 0, none⟩), undef, .string s, .bool true, .bool false, undef, .string s, .int .i64 s.size, .bool true, .agg zS, undef, undef, undef, undef, undef, undef, undef, undef, undef], defers := ds } (U.setRow bs zS)) := hK _ _ (r4_02 C HQ pa _ (h.row C))
  clear hK
  rw [if_pos (by simp [Region.wanted])]
  exact wp_store_row 30 (.tmp 2) (.tmp 13) rfl bs zS (by simp [Act.eval]) (by simp [Act.eval]) 30 zS h.bx.s (infoSent.trans (by rw [zS_size])) rfl zS_one HK.out
set_option maxRecDepth 20000 in
set_option maxHeartbeats 1000000 in
theorem r4_00 (C : R4C V bs bi be) (HQ : ∀ (U : World) (pa : Addr), RBx U bs bi be zS true (.iface 55 (.pointer (some pa))) → Fr3 bs bi be V U → Q .normal { tmps := #[.string s, undef, .pointer (some ⟨bs, 0, none⟩), .pointer (some ⟨bi, 0, none⟩), .pointer (some ⟨be, 0, none⟩), undef, .string s, .bool true, .bool false, undef, .string s, .int .i64 s.size, .bool true, .agg zS, (.iface 189 (.pointer (some pB))), .agg #[.int .i64 0, (.iface 189 (.pointer (some pB)))], .pointer (some pa), .iface 55 (.pointer (some pa)), undef, undef, undef, undef, undef], defers := ds } U) (pa : Addr) (U : World) (h : R4U V bs bi be pB false U) : wpAny Tryz.prog .any ops4 Q 8 #[false, false, false, false, false, false, false, false] { tmps := #[.string s, undef, .pointer (some ⟨bs, 0, none⟩), .pointer (some ⟨bi, 0, none⟩), .pointer (some ⟨be, 0, none⟩), undef, .string s, .bool true, .bool false, undef, .string s, .int .i64 s.size, .bool true, undef, undef, undef, undef, undef, undef, undef, undef, undef, undef], defers := ds } U := by
  have ce := h.ce
  refine wpAny_ready (rs := [0, 1]) (by kernel_rfl) (by simp) ?_
  refine AllReady.cons (o := { dst := some 13, op := Op.build 30 #[], type := 30, pos := "terms.go:53", after := #[], guard := none }) rfl (fun K hK => ?_) ?_
  · have HK : Hid (K { tmps := #[.string s, undef, .pointer (some ⟨bs, 0, none⟩), .pointer (some ⟨bi, 0, none⟩), .pointer (some ⟨be, 0, none⟩), undef, .string s, .bool true, .bool false, undef, .string s, .int .i64 s.size, .bool true, .agg zS, undef, undef, undef, undef, undef, undef, undef, undef, undef], defers := ds } U) := hK _ _ (r4_01 C HQ pa _ h)
    clear hK
    rw [if_pos (by simp [Region.wanted])]
    exact wp_buildZ rfl HK.out
  refine AllReady.cons (o := { dst := some 14, op := Op.load 32 (Operand.global 0), type := 32, pos := "terms.go:53", after := #[], guard := none }) rfl (fun K hK => ?_) AllReady.nil
  have HK : Hid (K { tmps := #[.string s, undef, .pointer (some ⟨bs, 0, none⟩), .pointer (some ⟨bi, 0, none⟩), .pointer (some ⟨be, 0, none⟩), undef, .string s, .bool true, .bool false, undef, .string s, .int .i64 s.size, .bool true, undef, (.iface 189 (.pointer (some pB))), undef, undef, undef, undef, undef, undef, undef, undef], defers := ds } U) := hK _ _ (r4_10 C HQ pa _ h)
  clear hK
  go_simp
  exact HK.out
end
set_option maxHeartbeats 1000000 in
theorem read_long {s : ByteArray} (hs : s.size ≤ 100000) {w : World} (hg : GlobQ w) (hr : isSentB s = true) (hl : 300 < s.size) :
    Calls Tryz.prog 6 #[.string s] w fun e w' => (∃ a, e = .returned (.tuple #[.agg zS, .bool true, .iface 55 (.pointer (some a))])) ∧ Below w.heap.size w w' := by
  obtain ⟨hbx, hb0⟩ := boxes_new w
  obtain ⟨W, hW⟩ : ∃ W, W = (((w.alloc (.cells zS 30)).alloc (.cells #[.bool false] 4)).alloc (.cells #[.nilIface] 32)) := ⟨_, rfl⟩
  rw [← hW] at hbx hb0
  have HW : Hid (W = (((w.alloc (.cells #[.string ⟨#[]⟩, .string ⟨#[]⟩, .int .i64 0, .bool false, .string ⟨#[]⟩, .string ⟨#[]⟩, .string ⟨#[]⟩, .int .i64 0, .slice none 0 0, .string ⟨#[]⟩, .string ⟨#[]⟩, .int .i64 0, .slice none 0 0, .int .i64 0, .slice none 0 0, .int .i64 0, .int .i64 0, .int .i64 0, .string ⟨#[]⟩] 30)).alloc (.cells #[.bool false] 4)).alloc (.cells #[.nilIface] 32))) := hW
  obtain ⟨m, hm⟩ := (hg.step hb0).m
  have HI := hidLL (isSentence_q s hs m W hm)
  rw [hr] at HI
  have HG := hidLL (hg.step hb0)
  have HGl := hidLL hg.lt
  clear hW hm hg
  go_enter_defers Tryz.func6, Tryz.ntmps6
  go_upto_region 1 with fail
  rw [← HW.out]
  have hz := hbx.z
  have HX := hidLL hbx
  have HB0 := hidLL hb0
  have n1 : w.heap.size ≠ w.heap.size + 1 := by omega
  have n2 : w.heap.size ≠ w.heap.size + 1 + 1 := by omega
  have n3 : w.heap.size + 1 ≠ w.heap.size + 1 + 1 := by omega
  clear hbx hb0
  have hlz : (300 : Int) < s.size := by omega
  go_upto_region 4 with (go_at_call 14; refine HI.out.mono ?_; rintro e w' ⟨rfl, n, h9⟩; subst h9)
  have HX1 := hidLL (HX.out.below (Below.drewN_ W n))
  have hg1 := (HG.out.step (Below.drewN_ W n)).b
  obtain ⟨pB, hpB⟩ := hg1
  have HD := hidLL (HB0.out.trans ((Below.drewN_ W n).mono HB0.out.size))
  have hgl := HGl.out
  generalize W.drewN n = V at *
  have HC : Hid (R4C V w.heap.size (w.heap.size + 1) (w.heap.size + 1 + 1)) := ⟨n1, n2, n3, Nat.lt_of_lt_of_le hgl.2.1 HD.out.size, by omega, by omega⟩
  refine wp_region_any (by kernel_rfl) ?_
  refine r4_00 (s := s) (pB := pB) HC.out ?_ ⟨0, 0, none⟩ V.drew ⟨HX1.out.drew, (Fr3.refl _ _ _ V).drew, hpB⟩
  intro U pa hx hf
  go_wp2
  exact ⟨_, results_three hx _ rfl rfl rfl, ⟨_, rfl⟩, HD.out.trans (hf.below HD.out.size (Nat.le_refl _) (by omega) (by omega))⟩
end Go.Proofs.YtehbinobohjadaaGreatDoor
namespace Go.Proofs.YtehbinobohjadaaGreatDoor
open Go.RowKit Go.Extern.Stop Go.Stop Go.Extern

theorem tokRow_at {s : ByteArray} (hs : s.size ≤ 390) {w W : World} {v : Value} (h : RowG tokE 91 W w.heap.size v (qtoks s)) : ∃ tb c, v = .slice (some ⟨tb, 0, none⟩) (qtoks s).length c ∧ w.heap.size ≤ tb ∧ tb < W.heap.size ∧ (qtoks s).length ≤ c ∧ ∀ i t, (qtoks s)[i]? = some t → ∀ k, k < 3 → W.cell? ⟨tb, i * 3 + k, none⟩ = some (tokQ t k) := by
  have hl := (qtoks_lok s hs).2
  rcases h.row.2 with ⟨_, e⟩ | ⟨g, cap, cur, hv, hb, hgg, hc⟩
  · omega
  · have hcap : (qtoks s).length ≤ cap := by
      have := h.row.1
      obtain ⟨h1, h2, h3⟩ := hc
      omega
    refine ⟨g, cap, hv, hb, (Array.getElem?_eq_some_iff.1 hgg).1, hcap, fun i t ht k hk => ?_⟩
    refine h.cells hv (i * 3 + k) (tokQ t k) (tokE.all_get (qtoks s) i t ht k _ ?_)
    match k, hk with
    | 0, _ => rfl
    | 1, _ => rfl
    | 2, _ => rfl
/-- The reader as Read makes it. -/
theorem reader_new {s : ByteArray} (hs : s.size ≤ 390) {W : World} {tb c : Nat} (hg : GlobQ W) (hc : (qtoks s).length ≤ c) (htb : tb < W.heap.size) (ht : ∀ i t, (qtoks s)[i]? = some t → ∀ k, k < 3 → W.cell? ⟨tb, i * 3 + k, none⟩ = some (tokQ t k)) :
    QS (qtoks s) W.heap.size tb (W.alloc (.cells #[.slice (some ⟨tb, 0, none⟩) (qtoks s).length c, .int .i64 0] 62)) 0 0 := by
  have hl := qtoks_lok s hs
  have hlt := hg.lt
  obtain ⟨p, h1⟩ := hg.t
  obtain ⟨q, h2⟩ := hg.b
  obtain ⟨m, h3⟩ := hg.m
  have hb : Below W.heap.size W (W.alloc (.cells #[.slice (some ⟨tb, 0, none⟩) (qtoks s).length c, .int .i64 0] 62)) := (Below.refl _ _).alloc (Nat.le_refl _) _
  refine ⟨⟨(qtoks s).length, c, by omega, hc, ?_⟩, fun i t e k hk => (hb.cell (p := ⟨tb, i * 3 + k, none⟩) htb).trans (ht i t e k hk), by omega, by have := hl.2; omega, by omega, hl.1, ⟨p, (hb.cell (p := ⟨1, 0, none⟩) hlt.1).trans h1⟩, ⟨q, (hb.cell (p := ⟨0, 0, none⟩) hlt.2.1).trans h2⟩, ⟨m, (hb.cell (p := ⟨12, 0, none⟩) hlt.2.2).trans h3⟩, by omega⟩
  rw [Nat.zero_mul]
  exact heap_alloc_new _ _
theorem RBx.x {w w' : World} {bs bi be rp : Nat} {cs : Array Value} {b : Bool} {ev : Value} (h : RBx w bs bi be cs b ev) (hb : BelX w.heap.size rp w w') (h1 : bs ≠ rp) (h2 : bi ≠ rp) (h3 : be ≠ rp) : RBx w' bs bi be cs b ev :=
  ⟨(hb.block bs (Array.getElem?_eq_some_iff.1 h.s).1 h1).trans h.s, (hb.block bi (Array.getElem?_eq_some_iff.1 h.i).1 h2).trans h.i, (hb.block be (Array.getElem?_eq_some_iff.1 h.e).1 h3).trans h.e, h.z⟩
theorem Fr3.x {bs bi be rp : Nat} {w a b : World} (h : Fr3 bs bi be w a) (hb : BelX a.heap.size rp a b) (hr : w.heap.size ≤ rp) : Fr3 bs bi be w b := ⟨hb.os.trans h.os, hb.tape.trans h.tape, hb.output.trans h.output, Nat.le_trans h.size hb.size, fun k hk h1 h2 h3 => (hb.block k (Nat.lt_of_lt_of_le hk h.size) (by omega)).trans (h.block k hk h1 h2 h3)⟩
def ShortR (r : PR SentW) (w : World) (e : Ending) (w' : World) : Prop :=
  Below w.heap.size w w' ∧ match r with
    | .ok x _ _ => ∃ cs, e = .returned (.tuple #[.agg cs, .bool true, .nilIface]) ∧ SentC w.heap.size x cs w'
    | _ => ∃ a, e = .returned (.tuple #[.agg zS, .bool true, .iface 55 (.pointer (some a))])
set_option maxHeartbeats 2000000 in
theorem read_short {s : ByteArray} (hs : s.size ≤ 300) {w : World} (hg : GlobQ w) (hr : isSentB s = true) {f : Nat} (hf : sentQ (qtoks s) f 0 0 ≠ .out) :
    Calls Tryz.prog 6 #[.string s] w (ShortR (sentQ (qtoks s) f 0 0) w) := by
  have hmf : ∀ (fn : Fn) (first cap : Array Value) (w : World), (Instr.makeFunc fn first cap).run Tryz.prog w = .ok (.func fn first cap) w := fun _ _ _ _ => rfl
  obtain ⟨hbx, hb0⟩ := boxes_new w
  obtain ⟨W, hW⟩ : ∃ W, W = (((w.alloc (.cells zS 30)).alloc (.cells #[.bool false] 4)).alloc (.cells #[.nilIface] 32)) := ⟨_, rfl⟩
  rw [← hW] at hbx hb0
  have HW : Hid (W = (((w.alloc (.cells #[.string ⟨#[]⟩, .string ⟨#[]⟩, .int .i64 0, .bool false, .string ⟨#[]⟩, .string ⟨#[]⟩, .string ⟨#[]⟩, .int .i64 0, .slice none 0 0, .string ⟨#[]⟩, .string ⟨#[]⟩, .int .i64 0, .slice none 0 0, .int .i64 0, .slice none 0 0, .int .i64 0, .int .i64 0, .int .i64 0, .string ⟨#[]⟩] 30)).alloc (.cells #[.bool false] 4)).alloc (.cells #[.nilIface] 32))) := hW
  have hgw := hg.step hb0
  obtain ⟨m, hm⟩ := hgw.m
  have HI := hidLL (isSentence_q s (by omega) m W hm)
  rw [hr] at HI
  have HG := hidLL hgw
  have HK : Hid (0 + 1 < (qtoks s).length) := by
    obtain ⟨K, ts, e, _⟩ := sent_first hr
    have h1 := (qtoks_lok s (by omega)).1.lastE 0 ⟨.w, K, 0, 0⟩ (by rw [e]; rfl)
    have h2 : ¬ 0 + 1 = (qtoks s).length := fun h => by have := h1.1 h; cases this
    have h3 := (qtoks_lok s (by omega)).2
    show _ < _
    omega
  have HNo := hidLL hf
  obtain ⟨R, hR⟩ : ∃ R, R = sentQ (qtoks s) f 0 0 := ⟨_, rfl⟩
  rw [← hR]
  have HR := hidLL hR
  clear hW hm hg hf hgw hR
  have hsz : ¬ (300 : Int) < s.size := by omega
  have HX := hidLL hbx
  have HB0 := hidLL hb0
  have hbl : w.heap.size + 1 + 1 < W.heap.size := (Array.getElem?_eq_some_iff.1 hbx.e).1
  have HT := hidLL (fun V => tokensOf_q s (by omega) V)
  clear hbx hb0
  go_enter_defers Tryz.func6, Tryz.ntmps6
  go_upto_region 1 with fail
  rw [← HW.out]
  clear HW
  go_upto_region 6 with (go_at_call 14; refine HI.out.mono ?_; rintro e w' ⟨rfl, n, h9⟩; subst h9)
  have HX1 := hidLL (HX.out.below (Below.drewN_ W n))
  have HB1 := hidLL (HB0.out.trans ((Below.drewN_ W n).mono HB0.out.size))
  have HG1 := hidLL (HG.out.step (Below.drewN_ W n))
  have hbl1 : w.heap.size + 1 + 1 < (W.drewN n).heap.size := hbl
  generalize W.drewN n = V at *
  clear HX HB0 HG HI hbl
  obtain ⟨be, hbe⟩ : ∃ be, be = w.heap.size + 1 + 1 := ⟨_, rfl⟩
  obtain ⟨bi, hbi⟩ : ∃ bi, bi = w.heap.size + 1 := ⟨_, rfl⟩
  obtain ⟨bs, hbs⟩ : ∃ bs, bs = w.heap.size := ⟨_, rfl⟩
  rw [← hbe, ← hbi, ← hbs]
  rw [← hbe, ← hbi, ← hbs] at HX1
  have q4 : ¬ bs = bi := by omega
  have q5 : ¬ bs = be := by omega
  have q6 : ¬ bi = be := by omega
  have z1 : bs < V.heap.size := by omega
  have z2 : bi < V.heap.size := by omega
  have z3 : be < V.heap.size := by omega
  have HBB := hidLL (And.intro hbs (And.intro hbi hbe))
  have HFin : Hid (∀ U, Fr3 bs bi be V U → Below w.heap.size w U) := fun U hU => HB1.out.trans (hU.below HB1.out.size (by omega) (by omega) (by omega))
  clear hbe hbi hbs hbl1
  have hzs : ((300 : Int) < s.size) ↔ False := ⟨fun h => (by omega), False.elim⟩
  go_wp2_with (first
    | (go_at_call 17; refine (HT.out _).mono ?_; rintro e V1 ⟨v, rfl, hrow, hb1⟩; (obtain ⟨tb, tc, rfl, h1, h2, h3, h4⟩ := tokRow_at (by omega) hrow); (have HQ := hidLL (reader_new (s := s) (by omega) (HG1.out.step hb1) h3 h2 h4)); (have hv1 := hb1.size); (have HF2 : Hid (Fr3 bs bi be V (V1.alloc (.cells #[.slice (some ⟨tb, 0, none⟩) (qtoks s).length tc, .int .i64 0] 62))) := Fr3.of (hb1.alloc hb1.size _)); (have HX2 := hidLL (HX1.out.below (hb1.alloc hb1.size (.cells #[.slice (some ⟨tb, 0, none⟩) (qtoks s).length tc, .int .i64 0] 62)))); clear h1 h2 h3 h4 hrow hb1)
    | (go_at_call 18; refine (sentence_q HQ.out HK.out HNo.out).mono ?_; rintro e V3 hE; rcases hr9 : sentQ (qtoks s) f 0 0 with _ | ⟨c9, a9⟩ | ⟨x, k3, n3⟩; (· exact absurd hr9 HNo.out); (· rw [hr9] at hE; (obtain ⟨hb3, ⟨p, rfl⟩⟩ := hE); (obtain rfl : R = .bad c9 a9 := (by rw [HR.out, hr9])); refine leaves_cons (f := 15) (args := #[.pointer (some ⟨bs, 0, none⟩), .pointer (some ⟨bi, 0, none⟩), .pointer (some ⟨be, 0, none⟩)]) (by simp) (by simp [go_sem]) ?_; refine (catch_p (HX2.out.x hb3 (by omega) (by omega) (by omega)) q4 q5 q6 _ _ []).mono ?_; rintro e u' w9 ⟨rfl, rfl, hx9, hf9⟩; exact ⟨_, results_three hx9 _ rfl rfl rfl, HFin.out _ ((HF2.out.x hb3 hv1).trans hf9), ⟨_, rfl⟩⟩); rw [hr9] at hE; (obtain ⟨hb3, hq3, v, rfl, cs, rfl, hsc⟩ := hE); (obtain rfl : R = .ok x k3 n3 := (by rw [HR.out, hr9])); (have HX3 := hidLL (HX2.out.x hb3 (by omega) (by omega) (by omega))); (have HY := hidLL (HX3.out.setRow q4 q5 (cs' := cs) hsc.size)); (obtain ⟨ci, fi⟩ := HY.out.cell_i); (obtain ⟨ce, fe⟩ := HY.out.cell_e); (have HS := hidLL hsc); (have HF3 := hidLL (HF2.out.x hb3 hv1)); clear hsc hb3 hq3)
    | (refine wpList_store_row rfl 30 (.tmp 2) (.tmp 22) rfl bs cs (by simp [Act.eval]) (by simp [Act.eval]) 30 zS HX3.out.s (infoSent.trans (by rw [HS.out.size])) (by rw [zS_size, HS.out.size]) HS.out.one ?_))
  refine leaves_cons (f := 15) (args := #[.pointer (some ⟨bs, 0, none⟩), .pointer (some ⟨bi, 0, none⟩), .pointer (some ⟨be, 0, none⟩)]) (by simp) (by simp [go_sem]) ?_
  refine (catch_i bs bi be _).mono ?_
  rintro e u' w9 ⟨rfl, rfl, rfl⟩
  refine ⟨_, results_three ((HY.out.setI q4 q6 true).setE q5 q6 .nilIface) _ rfl rfl rfl, HFin.out _ (((HF3.out.setRow cs).set (.inl rfl) _).set (.inr rfl) _), cs, rfl, HS.out.to ?_ fun b hb1 hb2 => ?_⟩
  · have := HB1.out.size
    simp
    omega
  · have hb1 : V1.heap.size + 1 ≤ b := by simpa using hb1
    rw [Below.heap_setCell _ _ _ _ (by show b ≠ be; omega), Below.heap_setCell _ _ _ _ (by show b ≠ bi; omega), heap_setRow_ne (by omega)]
end Go.Proofs.YtehbinobohjadaaGreatDoor
namespace Go.Proofs.YtehbinobohjadaaGreatDoor
open Go.RowKit Go.Extern.Stop Go.Stop Go.Extern

theorem read_q {s : ByteArray} (hs : s.size ≤ 100000) {w : World} (hg : GlobQ w) {f : Nat} (hf : isSentB s = true → s.size ≤ 300 → sentQ (qtoks s) f 0 0 ≠ .out) : Calls Tryz.prog 6 #[.string s] w (ReadR s f w) := by
  cases hr : isSentB s with
  | false =>
    refine (read_none hs hg hr).mono ?_
    rintro e w' ⟨rfl, hb⟩
    refine ⟨hb, ?_⟩
    rw [readQ, hr]
    rfl
  | true =>
    rcases Nat.lt_or_ge 300 s.size with hl | hl
    · refine (read_long hs hg hr hl).mono ?_
      rintro e w' ⟨h, hb⟩
      refine ⟨hb, ?_⟩
      rw [readQ, hr, if_pos rfl, if_pos hl]
      exact h
    · refine (read_short hl hg hr (hf hr hl)).mono ?_
      rintro e w' ⟨hb, h⟩
      refine ⟨hb, ?_⟩
      rw [readQ, hr, if_pos rfl, if_neg (by omega)]
      rcases hq : sentQ (qtoks s) f 0 0 with _ | ⟨c, a⟩ | ⟨x, k, n⟩ <;> rw [hq] at h <;> exact h
/-- With fuel that is enough for any line. -/
def fuelQ (s : ByteArray) : Nat := 20 * (qtoks s).length + 20
theorem read_any {s : ByteArray} (hs : s.size ≤ 100000) {w : World} (hg : GlobQ w) : Calls Tryz.prog 6 #[.string s] w (ReadR s (fuelQ s) w) := read_q hs hg fun _ _ => sentNO _ _ _
end Go.Proofs.YtehbinobohjadaaGreatDoor
namespace Go.Proofs.YtehbinobohjadaaGreatDoor
open Go.RowKit Go.Extern.Stop Go.Stop Go.Extern

def stE : Enc ByteArray := ⟨fun s => [.string s], 1, by decide, fun _ => rfl, fun s u h => by
  obtain rfl : u = .string s := by simpa using h
  rfl⟩
/-- The writer lies in block wp. -/
structure WR (w : World) (wp : Nat) (s : WS) : Prop where
  blk : ∃ a n c, w.heap[wp]? = some (.cells #[.slice a n c, .int .i64 s.z, .int .i64 s.d] 65 (0, 0)) ∧ RowG stE 9 w (wp + 1) (.slice a n c) s.ts
  z : s.z ≤ 300
  d : s.d ≤ 300
  l : s.ts.length ≤ s.z
  g : ∃ p, w.cell? ⟨1, 0, none⟩ = some (.iface 189 (.pointer (some p)))
  lo : 1 < wp
/-- What writing leaves as it was: all below the writer, and all that holds no texts. -/
structure WFr (wp : Nat) (w w' : World) : Prop where
  os : w'.os = w.os
  tape : w'.tape = w.tape
  output : w'.output = w.output
  size : w.heap.size ≤ w'.heap.size
  low : ∀ k, k < wp → w'.heap[k]? = w.heap[k]?
  ty : ∀ k cs t fr, k ≠ wp → w.heap[k]? = some (.cells cs t fr) → t ≠ 9 → w'.heap[k]? = some (.cells cs t fr)
theorem WFr.refl (wp : Nat) (w : World) : WFr wp w w := ⟨rfl, rfl, rfl, Nat.le_refl _, fun _ _ => rfl, fun _ _ _ _ _ h _ => h⟩
theorem WFr.trans {wp : Nat} {a b c : World} (h : WFr wp a b) (k : WFr wp b c) : WFr wp a c := ⟨k.os.trans h.os, k.tape.trans h.tape, k.output.trans h.output, Nat.le_trans h.size k.size, fun i hi => (k.low i hi).trans (h.low i hi), fun i cs t fr h1 h2 h3 => k.ty i cs t fr h1 (h.ty i cs t fr h1 h2 h3) h3⟩
theorem WFr.of {wp : Nat} {w w' : World} (h : Below w.heap.size w w') (hw : wp ≤ w.heap.size) : WFr wp w w' := ⟨h.os, h.tape, h.output, h.size, fun k hk => h.block k (by omega), fun k cs t fr _ h2 _ => (h.block k (Array.getElem?_eq_some_iff.1 h2).1).trans h2⟩
theorem WFr.alloc {wp : Nat} {w w' : World} (h : WFr wp w w') (hw : wp ≤ w'.heap.size) (o : Obj) : WFr wp w (w'.alloc o) := h.trans (WFr.of ((Below.refl _ _).alloc (Nat.le_refl _) _) hw)
theorem WFr.below {wp : Nat} {w w' : World} (h : WFr wp w w') : Below wp w w' := ⟨h.os, h.tape, h.output, h.size, h.low⟩
theorem WFr.box {wp : Nat} {w w' : World} (h : WFr wp w w') {b : Nat} {cs : Array Value} (hb : w.heap[b]? = some (.cells cs 25 (0, 0))) (hw : b ≠ wp) : w'.heap[b]? = some (.cells cs 25 (0, 0)) := h.ty b cs _ _ hw hb (by decide)
theorem WR.in {w : World} {wp : Nat} {s : WS} (h : WR w wp s) : wp < w.heap.size := by
  obtain ⟨a, n, c, h1, _⟩ := h.blk
  exact (Array.getElem?_eq_some_iff.1 h1).1
theorem WR.below {w w' : World} {wp : Nat} {s : WS} (h : WR w wp s) (hb : Below w.heap.size w w') : WR w' wp s := by
  obtain ⟨a, n, c, h1, h2⟩ := h.blk
  obtain ⟨p, h3⟩ := h.g
  exact ⟨⟨a, n, c, (hb.block wp h.in).trans h1, h2.below hb⟩, h.z, h.d, h.l, ⟨p, (hb.cell (p := ⟨1, 0, none⟩) (cell_lt h3)).trans h3⟩, h.lo⟩
theorem WR.alloc {w : World} {wp : Nat} {s : WS} (h : WR w wp s) (o : Obj) : WR (w.alloc o) wp s := h.below ((Below.refl _ _).alloc (Nat.le_refl _) _)
/-- ErrText is thrown. -/
def ThrT (e : Ending) : Prop := ∃ p, e = .panicked [{ v := .iface 88 (.agg #[.iface 189 (.pointer (some p))]), recovered := false }]
/-- What writing comes to. -/
def WEnd (wp : Nat) (w : World) (r : Option WS) (e : Ending) (w' : World) : Prop :=
  WFr wp w w' ∧ match r with
    | none => ThrT e
    | some s => e = .returned (.tuple #[]) ∧ WR w' wp s
theorem Tryz.infoSt : ∃ i z, Tryz.prog.info? 9 = some i ∧ i.zero = some z ∧ i.size = stE.k ∧ i.bytes = 16 ∧ z.cells.size = stE.k := by
  have h : (Tryz.prog.info? 9).map (fun i => (i.zero.map (fun z => z.cells.size), i.size, i.bytes)) = some (some 1, 1, 16) := by kernel_rfl
  obtain ⟨i, hi, e⟩ := Option.map_eq_some_iff.1 h
  injection e with e1 e2
  injection e2 with e2 e3
  obtain ⟨z, hz, e4⟩ := Option.map_eq_some_iff.1 e1
  exact ⟨i, z, hi, hz, e2, e3, e4⟩
theorem WR.cells {w : World} {wp : Nat} {s : WS} (h : WR w wp s) : ∃ a n c, w.cell? ⟨wp, 0, none⟩ = some (.slice a n c) ∧ w.cell? ⟨wp, 1, none⟩ = some (.int .i64 s.z) ∧ w.cell? ⟨wp, 2, none⟩ = some (.int .i64 s.d) ∧ (∀ i, w.frozen? ⟨wp, i, none⟩ = false) ∧ RowG stE 9 w (wp + 1) (.slice a n c) s.ts ∧ w.heap[wp]? = some (.cells #[.slice a n c, .int .i64 s.z, .int .i64 s.d] 65 (0, 0)) := by
  obtain ⟨a, n, c, h1, h2⟩ := h.blk
  exact ⟨a, n, c, by simp [World.cell?, h1], by simp [World.cell?, h1], by simp [World.cell?, h1], by simp [World.frozen?, h1], h2, h1⟩
/-- A number of the writer's own becomes another one. -/
theorem wr_setZ {w : World} {wp : Nat} {s : WS} {a : Option Addr} {n c : Nat} (hb : w.heap[wp]? = some (.cells #[.slice a n c, .int .i64 s.z, .int .i64 s.d] 65 (0, 0))) (z : Int) :
    (w.setCell ⟨wp, 1, none⟩ (.int .i64 z)).heap[wp]? = some (.cells #[.slice a n c, .int .i64 z, .int .i64 s.d] 65 (0, 0)) ∧ WFr wp w (w.setCell ⟨wp, 1, none⟩ (.int .i64 z)) := by
  refine ⟨by rw [heap_set hb]; rfl, rfl, rfl, rfl, by simp, fun k hk => Below.heap_setCell _ _ _ _ (by show k ≠ wp; omega), fun k cs t fr h1 h2 _ => (Below.heap_setCell _ _ _ _ h1).trans h2⟩
theorem WR.setD {w : World} {wp : Nat} {s : WS} (h : WR w wp s) (d : Nat) (hd : d ≤ 300) : WR (w.setCell ⟨wp, 2, none⟩ (.int .i64 d)) wp ⟨s.ts, s.z, d⟩ ∧ WFr wp w (w.setCell ⟨wp, 2, none⟩ (.int .i64 d)) := by
  obtain ⟨a, n, c, h1, h2⟩ := h.blk
  obtain ⟨p, h3⟩ := h.g
  have hk : ∀ k, k ≠ wp → (w.setCell ⟨wp, 2, none⟩ (.int .i64 d)).heap[k]? = w.heap[k]? := fun k hk => Below.heap_setCell _ _ _ _ hk
  have := h.lo
  refine ⟨⟨⟨a, n, c, by rw [heap_set h1]; rfl, h2.on fun g _ hg _ => hk g (by omega)⟩, h.z, hd, h.l, ⟨p, (World.cell?_of_block (a := ⟨1, 0, none⟩) (hk _ (by show 1 ≠ wp; omega))).trans h3⟩, h.lo⟩, rfl, rfl, rfl, by simp, fun k hk2 => hk k (by omega), fun k cs t fr h5 h6 _ => (hk k h5).trans h6⟩
/-- A node lies in memory, all its rows in blocks of a kind. -/
inductive NT (w : World) (P : Nat → Prop) : Option Addr → Nat → Tn → Prop
  | mk (t : Tn) (ka : Option Addr) (kc : Nat) (A : Nat → Option Addr) (C : Nat → Nat)
    (hk : ∀ i k, t.kids[i]? = some k → ∃ b o, ka = some ⟨b, o, none⟩ ∧ P b ∧ w.rangeAt b (o + i * 4) [.string k.kind, .string k.word, .int .i64 k.num, .slice (A i) k.kids.length (C i)])
    (hr : ∀ i k, t.kids[i]? = some k → NT w P (A i) (C i) k) (hc : t.kids.length ≤ kc) (hl : t.kids.length ≤ 17592186044416) : NT w P ka kc t
theorem NT.step {w w' : World} {P P' : Nat → Prop} {ka : Option Addr} {kc : Nat} {t : Tn} (h : NT w P ka kc t) : (∀ b, P b → w'.heap[b]? = w.heap[b]? ∧ P' b) → NT w' P' ka kc t := by
  induction h with
  | mk t ka kc A C hk hr hc hl ih =>
    intro hb
    refine .mk t ka kc A C (fun i k e => ?_) (fun i k e => ih i k e hb) hc hl
    obtain ⟨b, o, e1, p, c⟩ := hk i k e
    have h9 := hb b p
    exact ⟨b, o, e1, h9.2, range_on c h9.1⟩
theorem NT.is {w : World} {P : Nat → Prop} {ka : Option Addr} {kc : Nat} {t : Tn} (h : NT w P ka kc t) : t.kids.length ≤ kc ∧ t.kids.length ≤ 17592186044416 ∧ ∀ i k, t.kids[i]? = some k → ∃ b o a c, ka = some ⟨b, o, none⟩ ∧ P b ∧ w.rangeAt b (o + i * 4) [.string k.kind, .string k.word, .int .i64 k.num, .slice a k.kids.length c] ∧ NT w P a c k := by
  cases h with
  | mk _ _ _ A C hk hr hc hl =>
    refine ⟨hc, hl, fun i k e => ?_⟩
    obtain ⟨b, o, e1, p, c⟩ := hk i k e
    exact ⟨b, o, A i, C i, e1, p, c, hr i k e⟩
/-- The values of a node. -/
def ndT (t : Tn) (ka : Option Addr) (kc : Nat) : Array Value := #[.string t.kind, .string t.word, .int .i64 t.num, .slice ka t.kids.length kc]
end Go.Proofs.YtehbinobohjadaaGreatDoor
namespace Go.Proofs.YtehbinobohjadaaGreatDoor
open Go.RowKit Go.Extern.Stop Go.Stop Go.Extern

theorem puts_snoc : ∀ (l : List ByteArray) (s : WS) (x : ByteArray), putsR s (l ++ [x]) = (putsR s l).bind fun s => putR s x
  | [], s, x => by simp only [List.nil_append, putsR, Option.bind_some]; cases putR s x <;> rfl
  | y :: l, s, x => by
    simp only [List.cons_append, putsR]
    cases h : putR s y with
    | none => rfl
    | some s' => simp only [Option.bind_some]; exact puts_snoc l s' x
theorem puts_none {s : WS} {xs : List ByteArray} {j : Nat} {x : ByteArray} {st : WS} (hj : xs[j]? = some x) (h : putsR s (xs.take j) = some st) (hx : putR st x = none) : putsR s xs = none := by
  have e : xs = (xs.take j ++ [x]) ++ xs.drop (j + 1) := by
    have hlt := (List.getElem?_eq_some_iff.1 hj).1
    conv => lhs; rw [← List.take_append_drop j xs, List.drop_eq_getElem_cons hlt]
    rw [(List.getElem?_eq_some_iff.1 hj).2]
    simp
  have : ∀ (l : List ByteArray) (r : List ByteArray) (s : WS), putsR s l = none → putsR s (l ++ r) = none := by
    intro l
    induction l with
    | nil => intro r s h; cases h
    | cons y l ih =>
      intro r s h
      simp only [List.cons_append, putsR] at h ⊢
      cases hy : putR s y with
      | none => rfl
      | some s' => rw [hy] at h; exact ih r s' h
  rw [e]
  exact this _ _ _ (by rw [puts_snoc, h]; exact hx)
theorem puts_take {s : WS} {xs : List ByteArray} {j : Nat} {x : ByteArray} {st st' : WS} (hj : xs[j]? = some x) (h : putsR s (xs.take j) = some st) (hx : putR st x = some st') : putsR s (xs.take (j + 1)) = some st' := by
  rw [List.take_add_one, hj]
  show putsR s (xs.take j ++ [x]) = _
  rw [puts_snoc, h]
  exact hx
theorem row_ty {α : Type} {E : Enc α} {T : Nat} {w : World} {B : Nat} {v : Value} {l : List α} (h : RowG E T w B v l) {k : Nat} (hk : v.ownBlock = some k) : ∃ cs, w.heap[k]? = some (.cells cs T (0, 0)) := by
  rcases h.row.2 with ⟨rfl, e⟩ | ⟨g, cap, cur, rfl, hb, hgg, _⟩
  · cases hk
  · injection hk with hk
    subst hk
    exact ⟨_, hgg⟩
/-- The tokens' row has grown: what that leaves. -/
theorem wfr_push {wp : Nat} {W w2 : World} {v : Value} {l : List ByteArray} (hr : RowG stE 9 W (wp + 1) v l) (hb : Below (wp + 1) W w2) (hk : ∀ k, v.ownBlock ≠ some k → k < W.heap.size → w2.heap[k]? = W.heap[k]?) : WFr wp W w2 :=
  ⟨hb.os, hb.tape, hb.output, hb.size, fun k h1 => hb.block k (by omega), fun k cs t fr _ h2 h3 => by
    refine (hk k (fun e => ?_) (Array.getElem?_eq_some_iff.1 h2).1).trans h2
    obtain ⟨cs', h4⟩ := row_ty hr e
    rw [h2] at h4
    injection h4 with h4
    injection h4 with _ h4 _
    exact h3 h4⟩
theorem wfr_set0 {wp : Nat} {W : World} (v : Value) : WFr wp W (W.setCell ⟨wp, 0, none⟩ v) := ⟨rfl, rfl, rfl, by simp, fun k hk => Below.heap_setCell _ _ _ _ (by show k ≠ wp; omega), fun k cs t fr h1 h2 _ => (Below.heap_setCell _ _ _ _ h1).trans h2⟩
/-- The writer, the tokens' slice told, and a block that is none of the tokens'. -/
structure WRg (w : World) (wp : Nat) (s : WS) (a : Option Addr) (n c g : Nat) : Prop where
  blk : w.heap[wp]? = some (.cells #[.slice a n c, .int .i64 s.z, .int .i64 s.d] 65 (0, 0))
  row : RowG stE 9 w (wp + 1) (.slice a n c) s.ts
  ne : ∀ k, (Value.slice a n c).ownBlock = some k → k ≠ g
  z : s.z ≤ 300
  d : s.d ≤ 300
  l : s.ts.length ≤ s.z
  g : ∃ p, w.cell? ⟨1, 0, none⟩ = some (.iface 189 (.pointer (some p)))
  lo : 1 < wp
theorem WRg.wr {w : World} {wp : Nat} {s : WS} {a : Option Addr} {n c g : Nat} (h : WRg w wp s a n c g) : WR w wp s := ⟨⟨a, n, c, h.blk, h.row⟩, h.z, h.d, h.l, h.g, h.lo⟩
theorem WRg.start {w : World} {wp : Nat} {s : WS} (h : WR w wp s) (o : Obj) : ∃ a n c, WRg (w.alloc o) wp s a n c w.heap.size := by
  obtain ⟨a, n, c, h1, h2⟩ := h.blk
  have h' := h.alloc o
  have hb : Below w.heap.size w (w.alloc o) := (Below.refl _ _).alloc (Nat.le_refl _) _
  exact ⟨a, n, c, (hb.block wp h.in).trans h1, h2.below hb, fun k hk => by have := (h2.blk hk).2; omega, h.z, h.d, h.l, h'.g, h.lo⟩
theorem WRg.pushed {w0 W w2 : World} {wp : Nat} {st : WS} {a : Option Addr} {n c g : Nat} {x : ByteArray} {ys : Array Value} {pa : Option Addr} {pn pc : Nat} (h : WRg w0 wp st a n c g) (hz : W.heap[wp]? = some (.cells #[.slice a n c, .int .i64 ((st.z : Int) + x.size), .int .i64 st.d] 65 (0, 0)))
    (hgw : g < W.heap.size) (hgb : W.heap[g]? = some (.cells ys 9 (0, 0))) (hgt : wp < g) (hr2 : RowG stE 9 w2 (wp + 1) (.slice pa pn pc) (st.ts ++ [x])) (hb2 : Below (wp + 1) W w2)
    (hk2 : ∀ k, (Value.slice a n c).ownBlock ≠ some k → k < W.heap.size → w2.heap[k]? = W.heap[k]?) (hn2 : ∀ k, (Value.slice pa pn pc).ownBlock = some k → (Value.slice a n c).ownBlock = some k ∨ W.heap.size ≤ k) (h3 : 1 ≤ x.size ∧ st.z + x.size ≤ 300)
    {p : Addr} (hp : W.cell? ⟨1, 0, none⟩ = some (.iface 189 (.pointer (some p)))) :
    WRg (w2.setCell ⟨wp, 0, none⟩ (.slice pa pn pc)) wp ⟨st.ts ++ [x], st.z + x.size, st.d⟩ pa pn pc g ∧ (w2.setCell ⟨wp, 0, none⟩ (.slice pa pn pc)).heap[g]? = some (.cells ys 9 (0, 0)) := by
  have hs : ∀ k, k ≠ wp → (w2.setCell ⟨wp, 0, none⟩ (.slice pa pn pc)).heap[k]? = w2.heap[k]? := fun k hk => Below.heap_setCell _ _ _ _ hk
  have hl := h.l
  have hlo := h.lo
  refine ⟨⟨?_, hr2.on fun k _ hk _ => hs k (by omega), fun k hk => ?_, h3.2, h.d, ?_, ⟨p, ?_⟩, hlo⟩, ?_⟩
  · rw [heap_set ((hb2.block wp (by omega)).trans hz)]
    show some (Obj.cells #[_, .int .i64 ((st.z : Int) + x.size), _] _ _) = some (Obj.cells #[_, .int .i64 ((st.z + x.size : Nat) : Int), _] _ _)
    rw [Int.natCast_add]
  · rcases hn2 k hk with e | e
    · exact h.ne k e
    · omega
  · rw [List.length_append]
    simp only [List.length_singleton]
    omega
  · rw [World.cell?_of_block (a := ⟨1, 0, none⟩) ((hs _ (by show 1 ≠ wp; omega)).trans (hb2.block _ (by show 1 < _; omega)))]
    exact hp
  · rw [hs g (by omega), hk2 g (fun e => h.ne g e rfl) hgw]
    exact hgb
set_option maxHeartbeats 2000000 in
theorem put_q {w0 : World} {wp : Nat} {s : WS} (h : WR w0 wp s) (xs : List ByteArray) (hn : xs.length ≤ 1000) (hx : ∀ x, x ∈ xs → x.size ≤ 281474976710656) :
    Calls Tryz.prog 45 #[.pointer (some ⟨wp, 0, none⟩), .slice (some ⟨w0.heap.size, 0, none⟩) xs.length xs.length] (w0.alloc (.cells (xs.map Value.string).toArray 9)) (WEnd wp w0 (putsR s xs)) := by
  obtain ⟨R, hR⟩ : ∃ R, R = putsR s xs := ⟨_, rfl⟩
  rw [← hR]
  have HR := hidLL hR
  have hwp : wp ≤ w0.heap.size := Nat.le_of_lt h.in
  have hf0 : WFr wp w0 (w0.alloc (.cells (xs.map Value.string).toArray 9)) := (WFr.refl _ _).alloc hwp _
  obtain ⟨a0, n0, c0, hst⟩ := WRg.start h (.cells (xs.map Value.string).toArray 9)
  have HS := hidLL hst
  have HF := hidLL hf0
  have hgb : (w0.alloc (.cells (xs.map Value.string).toArray 9)).heap[w0.heap.size]? = some (.cells (xs.map Value.string).toArray 9 (0, 0)) := heap_alloc_new _ _
  have HGb := hidLL hgb
  have hgt : wp < w0.heap.size := h.in
  clear hst hf0 hgb hR
  generalize w0.alloc (.cells (xs.map Value.string).toArray 9) = w at *
  generalize hg : w0.heap.size = g at *
  have HX := hidLL hx
  obtain ⟨m, hm⟩ : ∃ m, m = xs.length := ⟨_, rfl⟩
  rw [← hm]
  rw [← hm] at hn
  have HM := hidLL hm
  clear hm hx hg
  go_enter Tryz.func45, Tryz.ntmps45
  go_wp2_with fail
  go_loopw [8] (fun iv wr => ∃ (j : Nat) (st : WS) (a : Option Addr) (n c : Nat), j ≤ m ∧ iv = .int .i64 j ∧ putsR s (xs.take j) = some st ∧ WRg wr wp st a n c g ∧ WFr wp w0 wr ∧ wr.heap[g]? = some (.cells (xs.map Value.string).toArray 9 (0, 0))) (fun iv _ => (m - RowKit.intOf iv).toNat)
  case atStart => exact ⟨0, s, a0, n0, c0, by omega, rfl, rfl, HS.out, HF.out, HGb.out⟩
  case round =>
    obtain ⟨j, st, a, n, c, hj, rfl, hp, hw, hf, hgb⟩ := hrel
    have HP := hidLL hp
    have HW := hidLL hw
    have HF1 := hidLL hf
    have HG1 := hidLL hgb
    clear hp hf
    by_cases hin : j < m
    · have hjz : (j : Int) < m := by omega
      obtain ⟨x, hxj⟩ : ∃ x, xs[j]? = some x := ⟨_, List.getElem?_eq_getElem (by have := HM.out; omega)⟩
      have HXj := hidLL hxj
      have hxz := HX.out x (List.mem_of_getElem? hxj)
      have cx : wr.cell? ⟨g, 0 + j, none⟩ = some (.string x) := by
        rw [Nat.zero_add]
        simp [World.cell?, hgb, hxj]
      rw [Nat.zero_add] at cx
      obtain ⟨p, ct⟩ := hw.g
      have c0 : wr.cell? ⟨wp, 0, none⟩ = some (.slice a n c) := by simp [World.cell?, hw.blk]
      have c1 : wr.cell? ⟨wp, 1, none⟩ = some (.int .i64 st.z) := by simp [World.cell?, hw.blk]
      have f1 : wr.frozen? ⟨wp, 1, none⟩ = false := by simp [World.frozen?, hw.blk]
      have hz := hw.z
      clear hw hgb hxj
      have HZ := hidLL (wr_setZ HW.out.blk ((st.z : Int) + x.size))
      have HT := hidLL (fun W => throw_q 189 p W)
      have ct2 : (wr.setCell ⟨wp, 1, none⟩ (.int .i64 ((st.z : Int) + x.size))).cell? ⟨1, 0, none⟩ = some (.iface 189 (.pointer (some p))) := (HZ.out.2.below.cell (p := ⟨1, 0, none⟩) HW.out.lo).trans ct
      by_cases h0 : x.size = 0
      · have ct3 : (wr.setCell ⟨wp, 1, none⟩ (.int .i64 (st.z : Int))).cell? ⟨1, 0, none⟩ = some (.iface 189 (.pointer (some p))) := ((wr_setZ HW.out.blk (st.z : Int)).2.below.cell (p := ⟨1, 0, none⟩) HW.out.lo).trans ct
        have he : x.toList.isEmpty = true := by rw [Lib.toList_data, List.isEmpty_iff]; exact List.eq_nil_of_length_eq_zero (by rw [bl_len]; exact h0)
        have HN : Hid (R = none) := by
          show _ = _
          rw [HR.out]
          exact puts_none HXj.out HP.out (by unfold putR; rw [if_pos (.inl h0)])
        go_wp2_with (go_at_call 50; refine (HT.out _).mono ?_; rintro e w' ⟨rfl, h9⟩; subst w')
        rw [HN.out]
        exact ⟨rfl, HF1.out.trans (wr_setZ HW.out.blk (st.z : Int)).2, _, rfl⟩
      · have he : x.toList.isEmpty = false := by
          rw [Lib.toList_data]
          match hd : x.data.toList with
          | [] => exact absurd (by rw [← bl_len, hd]; rfl) h0
          | _ :: _ => rfl
        by_cases h3 : 300 < st.z + x.size
        · have h3z : (300 : Int) < (st.z : Int) + x.size := by omega
          have HN : Hid (R = none) := by
            show _ = _
            rw [HR.out]
            exact puts_none HXj.out HP.out (by unfold putR; rw [if_pos (.inr h3)])
          go_wp2_with (go_at_call 50; refine (HT.out _).mono ?_; rintro e w' ⟨rfl, h9⟩; subst w')
          rw [HN.out]
          exact ⟨rfl, HF1.out.trans HZ.out.2, _, rfl⟩
        · have h3z : ¬ (300 : Int) < (st.z : Int) + x.size := by omega
          have HPn : Hid (putR st x = some ⟨st.ts ++ [x], st.z + x.size, st.d⟩) := by
            show _ = _
            unfold putR
            rw [if_neg (by omega)]
          have HPt := hidLL (puts_take HXj.out HP.out HPn.out)
          have hl := HW.out.l
          have hln : st.ts.length + 1 ≤ 1000000 := by omega
          obtain ⟨W1, hW1⟩ : ∃ W1, W1 = wr.setCell ⟨wp, 1, none⟩ (.int .i64 ((st.z : Int) + x.size)) := ⟨_, rfl⟩
          rw [← hW1] at HZ ct2
          have hs1 : W1.heap.size = wr.heap.size := by rw [hW1]; simp
          have hk1 : ∀ k, k ≠ wp → W1.heap[k]? = wr.heap[k]? := fun k hk => by rw [hW1]; exact Below.heap_setCell _ _ _ _ hk
          have HRow := hidLL (HW.out.row.on (w' := W1) fun g' _ hg' _ => hk1 g' (by omega))
          have hwr : wp < wr.heap.size := (Array.getElem?_eq_some_iff.1 HW.out.blk).1
          have HG2 : Hid (W1.heap[g]? = some (.cells (xs.map Value.string).toArray 9 (0, 0))) := (hk1 g (by omega)).trans HG1.out
          have hgw : g < W1.heap.size := (Array.getElem?_eq_some_iff.1 HG2.out).1
          have hB1 : wp + 1 ≤ W1.heap.size := by omega
          have d0 : W1.cell? ⟨wp, 0, none⟩ = some (.slice a n c) := by simp [World.cell?, HZ.out.1]
          have HW1 := hidLL hW1
          clear hW1 hk1
          have HSz : Hid (W1.heap.size = wr.heap.size) := hs1
          clear hs1
          go_upto_region 6 with fail
          rw [← HW1.out]
          go_wp2_with (at_builtin; go_loud (refine wpList_push_g (E := stE) Tryz.infoSt (by decide) Tryz.underlying26 rfl (.tmp 36) (.tmp 38) rfl (wp + 1) (.slice a n c) st.ts x _ rfl (by simp [Act.eval]) HRow.out (by simp [Act.eval]) hB1 hln ?_); intro v' w2 hr2 hb2 hk2 hn2; (obtain ⟨pa, pn, pc, rfl, hpn⟩ := hr2.any3); (have HN := hidLL (WRg.pushed HW.out HZ.out.1 hgw HG2.out hgt hr2 hb2 hk2 hn2 (by omega) ct2)); (have e0 : w2.cell? ⟨wp, 0, none⟩ = some (.slice a n c) := by simp [World.cell?, (hb2.block wp (by omega)).trans HZ.out.1]); (have e1 : w2.frozen? ⟨wp, 0, none⟩ = false := by simp [World.frozen?, (hb2.block wp (by omega)).trans HZ.out.1]); have HF2 := hidLL ((HF1.out.trans HZ.out.2).trans (wfr_push HRow.out hb2 hk2)); clear hr2 hb2 hk2 hn2 hpn)
          go_roundw
          case rel => exact ⟨j + 1, _, pa, pn, pc, by omega, by go_num, HPt.out, HN.out.1, HF2.out.trans (wfr_set0 _), HN.out.2⟩
          case measure => simp [RowKit.intOf]; omega
    · obtain rfl : j = m := by omega
      have hjz : ¬ (j : Int) < j := by omega
      have HE : Hid (R = some st) := by
        have := HP.out
        rw [HM.out, List.take_length] at this
        show _ = _
        rw [HR.out, this]
      go_wp2
      rw [HE.out]
      go_end0
      exact ⟨HF1.out, rfl, HW.out.wr⟩
end Go.Proofs.YtehbinobohjadaaGreatDoor
