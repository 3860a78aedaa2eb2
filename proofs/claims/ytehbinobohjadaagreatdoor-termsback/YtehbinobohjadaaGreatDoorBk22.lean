/-
  The program's reader: sentences.
-/
import Derived.Test.YtehbinobohjadaaGreatDoorBk21
import Derived.Deep.WholeRow
namespace Go.Proofs.YtehbinobohjadaaGreatDoor
open Go.RowKit Go.Extern.Stop Go.Stop Go.Extern

/-- What stands behind a sentence's colon. -/
def bodyQ (L : List Tok) (f : Nat) (s : SentW) (k n : Nat) : PR SentW :=
  if eqB s.kind wDefine = true then (eitherQ L f k n).bind fun x k n => .ok { s with cond := x } k n
  else if eqB s.kind wRule = true then (ruleQ L f k n).bind fun x k n => .ok { s with positive := x.1.1, head := x.1.2, cond := x.2.1, over := x.2.2 } k n
  else if eqB s.kind wAmount = true then (amountQ L f k n).bind fun x k n => .ok { s with sum := x.1, cond := x.2.1, way := x.2.2 } k n
  else if eqB s.kind wDuty = true then (dutyQ L k n).bind fun x k n => .ok { s with positive := x.1.1, head := x.1.2, tn := x.2.1, tu := x.2.2.1, tr := x.2.2.2.1, els := x.2.2.2.2 } k n
  else .ok s k n
def strongQ (L : List Tok) (kind : ByteArray) (k : Nat) : Int × Nat := if eqB kind wRule = true then perhapsQ L strengthsQ 1 k else (0, k)
def sentQ (L : List Tok) (f : Nat) (k n : Nat) : PR SentW :=
  (nameQ L (k + 1) n).bind fun name k1 n1 => (needQ L ⟨#[58]⟩ (strongQ L (tokAt L k).text k1).2 n1).bind fun _ k2 n2 => (bodyQ L f { kind := (tokAt L k).text, name := name, strength := (strongQ L (tokAt L k).text k1).1.toNat } k2 n2).bind fun s k3 n3 => if (tokAt L k3).kind = .e then .ok s k3 n3 else badQ
/-- A sentence's cells. -/
structure SentC (B : Nat) (s : SentW) (cs : Array Value) (w : World) : Prop where
  size : cs.size = 19
  c0 : cs[0]? = some (.string s.kind)
  c1 : cs[1]? = some (.string s.name)
  c2 : cs[2]? = some (.int .i64 s.strength)
  c3 : cs[3]? = some (.bool s.positive)
  c4 : cs[4]? = some (.string s.head)
  nc : ∃ v, (∀ i, i < 4 → cs[5 + i]? = some (v i)) ∧ NL w (fun b => B ≤ b) v s.cond
  ns : ∃ v, (∀ i, i < 4 → cs[9 + i]? = some (v i)) ∧ NL w (fun b => B ≤ b) v s.sum
  c13 : cs[13]? = some (.int .i64 s.way)
  ov : ∃ v B2, cs[14]? = some v ∧ B ≤ B2 ∧ w.ownsRow B2 9 1 v s.over.length (s.over.map Value.string)
  c15 : cs[15]? = some (.int .i64 s.tn)
  c16 : cs[16]? = some (.int .i64 s.tu)
  c17 : cs[17]? = some (.int .i64 s.tr)
  c18 : cs[18]? = some (.string s.els)
def SentV (B : Nat) (s : SentW) (v : Value) (w : World) : Prop := ∃ cs, v = .agg cs ∧ SentC B s cs w
def csQ (a b : ByteArray) : Array Value := #[.string a, .string b, .int .i64 0, .bool false, .string ⟨#[]⟩, .string ⟨#[]⟩, .string ⟨#[]⟩, .int .i64 0, .slice none 0 0, .string ⟨#[]⟩, .string ⟨#[]⟩, .int .i64 0, .slice none 0 0, .int .i64 4, .slice none 0 0, .int .i64 0, .int .i64 0, .int .i64 0, .string ⟨#[]⟩]
theorem builtSent (a b : ByteArray) : Tryz.prog.built 30 [(0, .string a), (1, .string b), (7, .int .i64 4)] = some (csQ a b) := by kernel_rfl
theorem wpList_buildS {ops : Array Oper} {rest : List Oper} {o : Oper} {a : Act} {w : World} {Q : Exit → Act → World → Prop} (hg : o.guard = none) (parts : Array (Nat × Operand)) (ho : o.op = .build 30 parts) (x y : ByteArray)
    (hp : (parts.map fun (i, x) => (i, a.eval x)).toList = [(0, .string x), (1, .string y), (7, .int .i64 4)]) (h : wpList Tryz.prog ops Q rest (a.put o.dst (.agg (csQ x y))) w) : wpList Tryz.prog ops Q (o :: rest) a w :=
  wpList_build hg 30 parts ho (by rw [hp, builtSent]; rfl) (by rw [hp, builtSent]; exact h)
theorem csQ_size (a b : ByteArray) : (csQ a b).size = 19 := rfl
theorem csQ_one (a b : ByteArray) : (csQ a b).all (·.oneCell') = true := by unfold csQ; simp [Value.oneCell']
theorem infoSent : (Tryz.prog.info? 30).map (·.size) = some 19 := by kernel_rfl
theorem heap_setRow {w : World} {g : Nat} {cs cs' : Array Value} {t : TypeId} {fr : Nat × Nat} (h : w.heap[g]? = some (.cells cs t fr)) : (w.setRow g cs').heap[g]? = some (.cells cs' t fr) := by
  unfold World.setRow
  simp [Array.getElem?_modify, h]
theorem heap_setRow_ne {w : World} {g : Nat} {cs' : Array Value} {q : Nat} (h : q ≠ g) : (w.setRow g cs').heap[q]? = w.heap[q]? := by
  unfold World.setRow
  rw [Array.getElem?_modify, if_neg (fun e => h e.symm)]
theorem size_setRow (w : World) (g : Nat) (cs : Array Value) : (w.setRow g cs).heap.size = w.heap.size := by unfold World.setRow; simp
theorem SentC.to {B B' : Nat} {s : SentW} {cs : Array Value} {W WF : World} (h : SentC B s cs W) (hB : B' ≤ B) (hb : ∀ b, B ≤ b → b < W.heap.size → WF.heap[b]? = W.heap[b]?) : SentC B' s cs WF := by
  obtain ⟨v, h1, h2⟩ := h.nc
  obtain ⟨u, h3, h4⟩ := h.ns
  obtain ⟨o, B2, h5, h6, h7⟩ := h.ov
  exact ⟨h.size, h.c0, h.c1, h.c2, h.c3, h.c4, ⟨v, h1, h2.step fun b hl hp => ⟨hb b hp hl, by omega⟩⟩, ⟨u, h3, h4.step fun b hl hp => ⟨hb b hp hl, by omega⟩⟩, h.c13, ⟨o, B2, h5, by omega, row_step h7 fun g hg hl => hb g (by have := (h7.lt g hg).1; omega) hl⟩, h.c15, h.c16, h.c17, h.c18⟩
theorem NL.one' {w : World} {P : Nat → Prop} {v : Nat → Value} {t : Nd} (h : NL w P v t) : ∀ i, i < 4 → (v i).oneCell' = true := by
  cases h with
  | mk _ _ ka kc V h0 h1 h2 h3 hk hr hc =>
    intro i hi
    rcases (show i = 0 ∨ i = 1 ∨ i = 2 ∨ i = 3 by omega) with rfl | rfl | rfl | rfl
    · rw [h0]; rfl
    · rw [h1]; rfl
    · rw [h2]; rfl
    · rw [h3]; rfl
theorem SentC.one {B : Nat} {s : SentW} {cs : Array Value} {W : World} (h : SentC B s cs W) : cs.all (·.oneCell') = true := by
  have hs := h.size
  obtain ⟨v, h1, h2⟩ := h.nc
  obtain ⟨u, h3, h4⟩ := h.ns
  obtain ⟨o, B2, h5, h6, h7⟩ := h.ov
  have key : ∀ (i : Nat) (x : Value), cs[i]? = some x → x.oneCell' = true := by
    intro i x hx
    have hi : i < 19 := by
      rcases Nat.lt_or_ge i 19 with h9 | h9
      · exact h9
      · rw [Array.getElem?_eq_none (by omega)] at hx; cases hx
    have use : ∀ y, cs[i]? = some y → y.oneCell' = true → x.oneCell' = true := fun y e1 e2 => by rw [e1] at hx; injection hx with e; rw [← e]; exact e2
    rcases (show i = 0 ∨ i = 1 ∨ i = 2 ∨ i = 3 ∨ i = 4 ∨ (∃ j, j < 4 ∧ i = 5 + j) ∨ (∃ j, j < 4 ∧ i = 9 + j) ∨ i = 13 ∨ i = 14 ∨ i = 15 ∨ i = 16 ∨ i = 17 ∨ i = 18 by
      rcases Nat.lt_or_ge i 5 with a | a
      · omega
      · rcases Nat.lt_or_ge i 9 with b | b
        · exact .inr (.inr (.inr (.inr (.inr (.inl ⟨i - 5, by omega, by omega⟩)))))
        · rcases Nat.lt_or_ge i 13 with c | c
          · exact .inr (.inr (.inr (.inr (.inr (.inr (.inl ⟨i - 9, by omega, by omega⟩))))))
          · omega) with rfl | rfl | rfl | rfl | rfl | ⟨j, hj, rfl⟩ | ⟨j, hj, rfl⟩ | rfl | rfl | rfl | rfl | rfl | rfl
    · exact use _ h.c0 rfl
    · exact use _ h.c1 rfl
    · exact use _ h.c2 rfl
    · exact use _ h.c3 rfl
    · exact use _ h.c4 rfl
    · exact use _ (h1 j hj) (h2.one' j hj)
    · exact use _ (h3 j hj) (h4.one' j hj)
    · exact use _ h.c13 rfl
    · refine use _ h5 ?_
      rcases h7.2 with ⟨e, _⟩ | ⟨g, cap, cur, e, _⟩
      · rw [e]; rfl
      · rw [e]; rfl
    · exact use _ h.c15 rfl
    · exact use _ h.c16 rfl
    · exact use _ h.c17 rfl
    · exact use _ h.c18 rfl
  rw [Array.all_eq_true]
  intro i hi
  exact key i _ (Array.getElem?_eq_getElem hi)
theorem strong_nat (L : List Tok) (kind : ByteArray) (k : Nat) : (((strongQ L kind k).1.toNat : Nat) : Int) = (strongQ L kind k).1 := by
  have : 0 ≤ (strongQ L kind k).1 := by
    unfold strongQ perhapsQ
    split
    · split
      · split
        · show (0 : Int) ≤ 1; omega
        · exact Int.natCast_nonneg _
      · show (0 : Int) ≤ 1; omega
    · show (0 : Int) ≤ 0; omega
  omega
theorem kN_e {t : TK} : ((kN t : Int) != 4) = !decide (t = .e) := by cases t <;> rfl
set_option maxRecDepth 100000 in
set_option maxHeartbeats 8000000 in
theorem sentence_q {L : List Tok} {rp tb f : Nat} {w : World} {k n : Nat} (h : QS L rp tb w k n) (hk : k + 1 < L.length) (hn : sentQ L f k n ≠ .out) :
    Calls Tryz.prog 18 #[.pointer (some ⟨rp, 0, none⟩)] w fun e w' => QEnd L rp tb w (sentQ L f k n) (fun s v w' => SentV w.heap.size s v w') e w' := by
  have lo := h.lows
  obtain ⟨R, hR⟩ : ∃ R, R = sentQ L f k n := ⟨_, rfl⟩
  rw [← hR] at hn ⊢
  unfold sentQ at hR
  obtain ⟨Z, hZ⟩ : ∃ Z : Array Value, Z = #[.string ⟨#[]⟩, .string ⟨#[]⟩, .int .i64 0, .bool false, .string ⟨#[]⟩, .string ⟨#[]⟩, .string ⟨#[]⟩, .int .i64 0, .slice none 0 0, .string ⟨#[]⟩, .string ⟨#[]⟩, .int .i64 0, .slice none 0 0, .int .i64 0, .slice none 0 0, .int .i64 0, .int .i64 0, .int .i64 0, .string ⟨#[]⟩] := ⟨_, rfl⟩
  have hZs : Z.size = 19 := by rw [hZ]; rfl
  obtain ⟨W1, hW1⟩ : ∃ W1, W1 = w.alloc (.cells Z 30) := ⟨_, rfl⟩
  have hb1 : Below w.heap.size w W1 := by rw [hW1]; exact (Below.refl _ _).alloc (Nat.le_refl _) _
  have hn1 : W1.heap[w.heap.size]? = some (.cells Z 30 (0, 0)) := by rw [hW1]; exact heap_alloc_new _ _
  have hs1 : w.heap.size < W1.heap.size := by rw [hW1]; simp
  have hrp := lo.r
  have HX := hidLL hW1
  have HZ := hidLL hZ
  have HNo := hidLL hn
  have HL := hidLL lo
  have HR := hidLL hR
  have HQ1 := hidLL (And.intro (h.below hb1) (And.intro (Below.x hb1 rp (Nat.le_refl _)) (And.intro hn1 True.intro)))
  have HSk := hidLL (skip_q (h.below hb1) hk)
  have HN := name_c (L := L) (rp := rp) (tb := tb)
  have HD := need_c (L := L) (rp := rp) (tb := tb) ⟨#[58]⟩ (by decide)
  clear h hW1 hb1 hn1 hn lo hR hZ
  obtain ⟨K0, hK0⟩ : ∃ K0, K0 = (tokAt L k).text := ⟨_, rfl⟩
  rw [← hK0] at HR HSk
  clear hK0
  go_enter Tryz.func18, Tryz.ntmps18
  cases hkr : (K0.toList == [114, 117, 108, 101])
  rotate_left
  · have hstr : ∀ k', strongQ L K0 k' = perhapsQ L strengthsQ 1 k' := fun k' => by unfold strongQ; rw [if_pos]; unfold eqB; rw [Lib.toList_data wRule]; show (K0.toList == [114, 117, 108, 101]) = true; exact hkr
    have hkd0 : (K0.toList == [100, 101, 102, 105, 110, 101]) = false := by
      have e : K0.toList = [114, 117, 108, 101] := by simpa using hkr
      rw [e]; decide
    have hbd : ∀ nm st k n, bodyQ L f { kind := K0, name := nm, strength := st } k n = (ruleQ L f k n).bind fun x k n => .ok { kind := K0, name := nm, strength := st, positive := x.1.1, head := x.1.2, cond := x.2.1, over := x.2.2 } k n := fun nm st k n => by
      unfold bodyQ
      rw [if_neg (by unfold eqB; rw [Lib.toList_data wDefine]; show ¬ (K0.toList == [100, 101, 102, 105, 110, 101]) = true; rw [hkd0]; simp), if_pos (by unfold eqB; rw [Lib.toList_data wRule]; show (K0.toList == [114, 117, 108, 101]) = true; exact hkr)]
    have HBd := hidLL hbd
    have HStr := hidLL hstr
    clear hbd hstr
    go_wp2_with (first | (rw [← HZ.out, ← HX.out]; go_at_call 35; refine HSk.out.mono ?_; rintro e W2 ⟨rfl, hq, hb⟩; have hs2 := hb.size; have HW2 := hidLL (And.intro hq (And.intro (HQ1.out.2.1.then hb HQ1.out.2.1.size) (And.intro ((hb.block _ hs1 (by omega)).trans HQ1.out.2.2.1) True.intro))); clear hq hb) | (go_at_call 36; refine (HN.out _ _ _ HW2.out.1).mono ?_; rintro e W3 hE; rcases hr : nameQ L (k + 1) n with _ | ⟨c, a⟩ | ⟨x2, k2, n2⟩; (· exact absurd hr nameQ_not); (· rw [hr] at hE; obtain ⟨hb, ⟨p, rfl⟩⟩ := hE; obtain rfl : R = .bad c a := (by rw [HR.out, hr, PR.bind_bad]); exact (show _ ∧ _ from ⟨rfl, HW2.out.2.1.then hb HW2.out.2.1.size, ⟨_, rfl⟩⟩)); rw [hr] at hE; obtain ⟨hb, hq, v, rfl, rfl⟩ := hE; rw [hr, PR.bind_ok] at HR; have hs3 := hb.size; have HW3 := hidLL (And.intro hq (And.intro (HW2.out.2.1.then hb HW2.out.2.1.size) (And.intro ((hb.block _ (by omega) (by omega)).trans HW2.out.2.2.1) True.intro))); have EW3 := hidLL hr; clear hb hq hr) | (refine wpList_buildS rfl _ rfl K0 x2 (by first | rfl | simp [Act.eval]) ?_) | (refine wpList_store_row rfl 30 (.tmp 3) (.tmp 8) rfl W3.heap.size (csQ K0 x2) (by first | (simp [Act.eval]; done) | simp [Act.eval, Act.put]) (by first | (simp [Act.eval]; done) | simp [Act.eval, Act.put]) 30 _ (heap_alloc_last _ _) (infoSent.trans (by rw [csQ_size])) (by rw [csQ_size]; rfl) (csQ_one _ _) ?_; rw [World.setRow_alloc_new]; obtain ⟨V3, hV3⟩ : ∃ V3, V3 = W3.alloc (.cells (csQ K0 x2) 30) := ⟨_, rfl⟩; rw [← hV3]; have hb3 : Below W3.heap.size W3 V3 := (by rw [hV3]; exact (Below.refl _ _).alloc (Nat.le_refl _) _); have hn3 : SB V3 W3.heap.size (csQ K0 x2) := ⟨(by rw [hV3]; exact heap_alloc_new _ _), rfl⟩; have hl3 : W3.heap.size < V3.heap.size := (by rw [hV3]; simp); have z0 : V3.cell? ⟨W3.heap.size, 0, none⟩ = some (.string K0) := (by rw [cell_of_row _ _ 0 _ _ _ hn3.blk]; rfl); have zf := hn3.froz; have HV3 := hidLL (And.intro (HW3.out.1.below hb3) (And.intro (HW3.out.2.1.then (Below.x hb3 rp (Nat.le_refl _)) HW3.out.2.1.size) (And.intro ((hb3.block _ (by omega)).trans HW3.out.2.2.1) hn3))); clear hV3 hb3 hn3) | (go_at_call 38; refine (strengths_q _).mono ?_; rintro e W4 hrow; have he := hrow.e; subst he; have HPh := hidLL (perhaps_q (HV3.out.1.below hrow.b) strengthsQ V3.heap.size strengthsQ.length (fun i s hs => by rw [Nat.zero_add]; exact hrow.c i s hs) (by decide) 1); have HB4 := hidLL hrow.b; clear hrow) | (go_at_call 37; refine HPh.out.mono ?_; rintro e W5 ⟨rfl, hq, hb⟩; have hbt := (Below.x HB4.out rp (Nat.le_refl _)).then hb HB4.out.size; have hs5 := hbt.size; have hsb := HV3.out.2.2.2.keep (hbt.block W3.heap.size hl3 (by omega)); obtain ⟨c2, xx2⟩ := hsb.cell (i := 2) (by omega); have xxf := hsb.froz; have HW5 := hidLL (And.intro hq (And.intro (HV3.out.2.1.then hbt HV3.out.2.1.size) (And.intro ((hbt.block _ (by omega) (by omega)).trans HV3.out.2.2.1) hsb))); clear hq hb hbt hsb))
    have hnat := strong_nat L K0 k2
    rw [HStr.out] at hnat HR
    generalize hS : perhapsQ L strengthsQ 1 k2 = S at *
    obtain ⟨sv, ks⟩ := S
    generalize hg3 : W3.heap.size = g3 at *
    obtain ⟨VS, hVS⟩ : ∃ VS, VS = W5.setCell ⟨g3, 2, none⟩ (.int .i64 sv) := ⟨_, rfl⟩
    rw [← hVS]
    have HV3' : Hid (QS L rp tb VS ks n2 ∧ BelX w.heap.size rp w VS ∧ VS.heap[w.heap.size]? = some (.cells Z 30 (0, 0)) ∧ SB VS g3 ((csQ K0 x2).setIfInBounds 2 (.int .i64 sv))) := by
      rw [hVS]
      have ho : ∀ b, b ≠ g3 → (W5.setCell ⟨g3, 2, none⟩ (.int .i64 sv)).heap[b]? = W5.heap[b]? := fun b hb => Below.heap_setCell _ _ _ _ hb
      exact ⟨HW5.out.1.keep HL.out fun b hb => ho b (by omega), ⟨HW5.out.2.1.os, HW5.out.2.1.tape, HW5.out.2.1.output, by simpa using HW5.out.2.1.size, fun b hb hne => (ho b (by omega)).trans (HW5.out.2.1.block b hb hne)⟩, (ho _ (by omega)).trans HW5.out.2.2.1, HW5.out.2.2.2.set 2 _⟩
    have hsVS : VS.heap.size = W5.heap.size := by rw [hVS]; simp
    have HSv := hidLL (And.intro hnat hS)
    clear hVS HW5 HV3 HW3 HW2 HQ1 HSk HPh HB4 z0 zf xx2 xxf hnat hS
    replace HR : Hid (R = (needQ L ⟨#[58]⟩ ks n2).bind fun x k2 n2 => (bodyQ L f { kind := K0, name := x2, strength := sv.toNat } k2 n2).bind fun s k3 n3 => if (tokAt L k3).kind = TK.e then PR.ok s k3 n3 else badQ) := HR
    have hsv : ((sv.toNat : Nat) : Int) = sv := HSv.out.1
    go_upto_region 14 with (first | (go_at_call 39; refine (HD.out _ _ _ HV3'.out.1).mono ?_; rintro e W6 hE; rcases hr : needQ L ⟨#[58]⟩ ks n2 with _ | ⟨c, a⟩ | ⟨x5, k5, n5⟩; (· exact absurd hr needQ_not); (· rw [hr] at hE; obtain ⟨hb, ⟨p, rfl⟩⟩ := hE; obtain rfl : R = .bad c a := (by rw [HR.out, hr, PR.bind_bad]); exact (show _ ∧ _ from ⟨rfl, HV3'.out.2.1.then hb HV3'.out.2.1.size, ⟨_, rfl⟩⟩)); rw [hr] at hE; obtain ⟨hb, hq, v, rfl, rfl⟩ := hE; rw [hr, PR.bind_ok] at HR; have hs6 := hb.size; have HW6 := hidLL (And.intro hq (And.intro (HV3'.out.2.1.then hb HV3'.out.2.1.size) (And.intro ((hb.block _ (by omega) (by omega)).trans HV3'.out.2.2.1) (HV3'.out.2.2.2.keep (hb.block _ (by omega) (by omega)))))); have z0 : W6.cell? ⟨g3, 0, none⟩ = some (.string K0) := (by rw [cell_of_row _ _ 0 _ _ _ HW6.out.2.2.2.blk]; rfl); have zf := HW6.out.2.2.2.froz; clear hb hq hr) | (go_at_call 41; have hno : ruleQ L f k5 n5 ≠ .out := (by intro h9; apply HNo.out; rw [HR.out, HBd.out, h9]; rfl); refine (rule_q HW6.out.1 HW6.out.2.2.2 HL.out (by omega) ⟨by simp [csQ], by simp [csQ], by simp [csQ], by simp [csQ]⟩ (by simp [csQ]) hno).mono ?_; rintro e VF hE; rcases hr : ruleQ L f k5 n5 with _ | ⟨c, a⟩ | ⟨x6, kF, nF⟩; (· exact absurd hr hno); (· rw [hr] at hE; obtain ⟨hb, ⟨p, rfl⟩⟩ := hE; obtain rfl : R = .bad c a := (by rw [HR.out, HBd.out, hr]; rfl); exact (show _ ∧ _ from ⟨rfl, HW6.out.2.1.then (hb.x (B' := w.heap.size) (by omega) (by omega)) (Nat.le_refl _), ⟨_, rfl⟩⟩)); rw [hr] at hE; obtain ⟨hb, hq, rfl, u0, u1, u2, ua, un, uc, ovv, cc1, hsb, hM, hcc, hov⟩ := hE; rw [HBd.out, hr, PR.bind_ok, PR.bind_ok] at HR; have HW7 := hidLL (And.intro hq (And.intro hb (And.intro hsb (And.intro hM (And.intro hcc hov))))); clear hb hq hr hM hsb hcc hov))
    obtain ⟨cF, hcF⟩ : ∃ cF, cF = (put4 ((((csQ K0 x2).setIfInBounds 2 (.int .i64 sv)).setIfInBounds 3 (.bool x6.1.1)).setIfInBounds 4 (.string x6.1.2)) 5 (.string u0) (.string u1) (.int .i64 u2) (.slice ua un uc)).setIfInBounds 14 ovv := ⟨_, rfl⟩
    have HF : Hid (QS L rp tb VF kF nF ∧ BelX w.heap.size rp w VF ∧ VF.heap[w.heap.size]? = some (.cells Z 30 (0, 0)) ∧ SB VF g3 cF ∧ SentC (w.heap.size + 1) { kind := K0, name := x2, strength := sv.toNat, positive := x6.1.1, head := x6.1.2, cond := x6.2.1, over := x6.2.2 } cF VF) := by
      refine ⟨HW7.out.1, HW6.out.2.1.then (HW7.out.2.1.x (B' := w.heap.size) (by omega) (by omega)) (Nat.le_refl _), (HW7.out.2.1.block _ (by omega) (by omega) (by omega)).trans HW6.out.2.2.1, by rw [hcF]; exact HW7.out.2.2.1, ?_⟩
      rw [hcF]
      exact ⟨HW7.out.2.2.1.size, by simp [put4, csQ], by simp [put4, csQ], by simp [put4, csQ, hsv], by simp [put4, csQ], by simp [put4, csQ], ⟨nv (.string u0) (.string u1) (.int .i64 u2) (.slice ua un uc), fun i hi => by rcases (show i = 0 ∨ i = 1 ∨ i = 2 ∨ i = 3 by omega) with rfl | rfl | rfl | rfl <;> simp [put4, csQ, nv], HW7.out.2.2.2.1.step fun b hb hp => ⟨rfl, by omega⟩⟩, ⟨nv (.string ⟨#[]⟩) (.string ⟨#[]⟩) (.int .i64 0) (.slice none 0 0), fun i hi => by rcases (show i = 0 ∨ i = 1 ∨ i = 2 ∨ i = 3 by omega) with rfl | rfl | rfl | rfl <;> simp [put4, csQ, nv], NL.leaf _ _ ⟨#[]⟩ ⟨#[]⟩ 0⟩, by simp [put4, csQ], ⟨ovv, cc1, by simp [put4, csQ], by have := HW7.out.2.2.2.2.1; omega, HW7.out.2.2.2.2.2⟩, by simp [put4, csQ], by simp [put4, csQ], by simp [put4, csQ], by simp [put4, csQ]⟩
    clear hcF HW7 HW6 HV3' z0 zf
    obtain ⟨m, c, hm, hm1, hc, h4, y8, y9, yf⟩ := HF.out.1.cells
    obtain ⟨t0, t1, t2⟩ := HF.out.1.tokens
    have hze := kN_e (t := (tokAt L kF).kind)
    by_cases hend : (tokAt L kF).kind = .e
    · rw [if_pos hend] at HR
      rw [decide_eq_true hend] at hze
      simp only [Bool.not_true] at hze
      clear hend
      generalize kN (tokAt L kF).kind = KK at *
      go_wp2_with (first | (refine wpList_load_row rfl 30 (.tmp 3) rfl g3 (by first | (simp [Act.eval]; done) | simp [Act.eval, Act.put]) 30 cF (0, 0) _ HF.out.2.2.2.1.blk Tryz.underlying30 rfl (infoSent.trans (by rw [HF.out.2.2.2.1.size])) ?_) | (refine wpList_store_row rfl 30 (.tmp 2) (.tmp 48) rfl w.heap.size cF (by first | (simp [Act.eval]; done) | simp [Act.eval, Act.put]) (by first | (simp [Act.eval]; done) | simp [Act.eval, Act.put]) 30 Z HF.out.2.2.1 (infoSent.trans (by rw [HF.out.2.2.2.1.size])) (by rw [hZs, HF.out.2.2.2.1.size]) HF.out.2.2.2.2.one ?_))
      refine bodyPost_ret (v := .agg cF) (results_cell_row Tryz.results18 _ _ w.heap.size 30 cF (0, 0) _ (by first | rfl | simp) (heap_setRow HF.out.2.2.1) Tryz.underlying30 rfl (infoSent.trans (by rw [HF.out.2.2.2.1.size]))) rfl ?_
      obtain rfl := HR.out
      refine ⟨HF.out.2.1.then ⟨rfl, rfl, rfl, by rw [size_setRow]; exact Nat.le_refl _, fun b hb _ => heap_setRow_ne (by omega)⟩ (Nat.le_refl _), HF.out.1.keep HL.out (fun b hb => heap_setRow_ne (by omega)), _, rfl, cF, rfl, HF.out.2.2.2.2.to (by omega) (fun b hb _ => heap_setRow_ne (by omega))⟩
    · rw [if_neg hend] at HR
      rw [decide_eq_false hend] at hze
      simp only [Bool.not_false] at hze
      obtain ⟨pt, gt⟩ := HF.out.1.gT
      clear hend
      generalize kN (tokAt L kF).kind = KK at *
      go_wp2_with (go_at_call 44; refine (wrong_q HF.out.1 _ _).mono ?_; rintro e w4 ⟨⟨p, rfl⟩, hb⟩; have HB := hidLL hb; clear hb)
      obtain rfl : R = .bad 0 0 := HR.out
      exact ⟨rfl, HF.out.2.1.then (Below.x HB.out _ (Nat.le_refl _)) HF.out.2.1.size, ⟨_, rfl⟩⟩
  go_wp2_with (first | (rw [← HZ.out, ← HX.out]; go_at_call 35; refine HSk.out.mono ?_; rintro e W2 ⟨rfl, hq, hb⟩; have hs2 := hb.size; have HW2 := hidLL (And.intro hq (And.intro (HQ1.out.2.1.then hb HQ1.out.2.1.size) (And.intro ((hb.block _ hs1 (by omega)).trans HQ1.out.2.2.1) True.intro))); clear hq hb) | (go_at_call 36; refine (HN.out _ _ _ HW2.out.1).mono ?_; rintro e W3 hE; rcases hr : nameQ L (k + 1) n with _ | ⟨c, a⟩ | ⟨x2, k2, n2⟩; (· exact absurd hr nameQ_not); (· rw [hr] at hE; obtain ⟨hb, ⟨p, rfl⟩⟩ := hE; obtain rfl : R = .bad c a := (by rw [HR.out, hr, PR.bind_bad]); exact (show _ ∧ _ from ⟨rfl, HW2.out.2.1.then hb HW2.out.2.1.size, ⟨_, rfl⟩⟩)); rw [hr] at hE; obtain ⟨hb, hq, v, rfl, rfl⟩ := hE; rw [hr, PR.bind_ok] at HR; have hs3 := hb.size; have HW3 := hidLL (And.intro hq (And.intro (HW2.out.2.1.then hb HW2.out.2.1.size) (And.intro ((hb.block _ (by omega) (by omega)).trans HW2.out.2.2.1) True.intro))); have EW3 := hidLL hr; clear hb hq hr) | (refine wpList_buildS rfl _ rfl K0 x2 (by first | rfl | simp [Act.eval]) ?_) | (refine wpList_store_row rfl 30 (.tmp 3) (.tmp 8) rfl W3.heap.size (csQ K0 x2) (by first | (simp [Act.eval]; done) | simp [Act.eval, Act.put]) (by first | (simp [Act.eval]; done) | simp [Act.eval, Act.put]) 30 _ (heap_alloc_last _ _) (infoSent.trans (by rw [csQ_size])) (by rw [csQ_size]; rfl) (csQ_one _ _) ?_; rw [World.setRow_alloc_new]; obtain ⟨V3, hV3⟩ : ∃ V3, V3 = W3.alloc (.cells (csQ K0 x2) 30) := ⟨_, rfl⟩; rw [← hV3]; have hb3 : Below W3.heap.size W3 V3 := (by rw [hV3]; exact (Below.refl _ _).alloc (Nat.le_refl _) _); have hn3 : SB V3 W3.heap.size (csQ K0 x2) := ⟨(by rw [hV3]; exact heap_alloc_new _ _), rfl⟩; have hl3 : W3.heap.size < V3.heap.size := (by rw [hV3]; simp); have z0 : V3.cell? ⟨W3.heap.size, 0, none⟩ = some (.string K0) := (by rw [cell_of_row _ _ 0 _ _ _ hn3.blk]; rfl); have zf := hn3.froz; have HV3 := hidLL (And.intro (HW3.out.1.below hb3) (And.intro (HW3.out.2.1.then (Below.x hb3 rp (Nat.le_refl _)) HW3.out.2.1.size) (And.intro ((hb3.block _ (by omega)).trans HW3.out.2.2.1) hn3))); clear hV3 hb3 hn3))
  generalize W3.heap.size = g3 at *
  clear HW3 HW2 HQ1 HSk
  have hst : strongQ L K0 k2 = (0, k2) := by unfold strongQ; rw [if_neg]; unfold eqB; rw [Lib.toList_data wRule]; show ¬ (K0.toList == [114, 117, 108, 101]) = true; rw [hkr]; simp
  rw [hst] at HR
  clear hst
  cases hkd : (K0.toList == [100, 101, 102, 105, 110, 101])
  rotate_left
  · have hbd : ∀ k n, bodyQ L f { kind := K0, name := x2, strength := (0 : Int).toNat } k n = (eitherQ L f k n).bind fun x k n => .ok { kind := K0, name := x2, strength := 0, cond := x } k n := fun k n => by
      unfold bodyQ; rw [if_pos]; rfl; unfold eqB; rw [Lib.toList_data wDefine]; show (K0.toList == [100, 101, 102, 105, 110, 101]) = true; exact hkd
    have HBd := hidLL hbd
    have HA := hidLL ((allQ (L := L) (rp := rp) (tb := tb) f f (Nat.le_refl _)).ei)
    clear hbd
    go_upto_region 14 with (first | (go_at_call 39; refine (HD.out _ _ _ HV3.out.1).mono ?_; rintro e W5 hE; rcases hr : needQ L ⟨#[58]⟩ k2 n2 with _ | ⟨c, a⟩ | ⟨x5, k5, n5⟩; (· exact absurd hr needQ_not); (· rw [hr] at hE; obtain ⟨hb, ⟨p, rfl⟩⟩ := hE; obtain rfl : R = .bad c a := (by rw [HR.out, hr, PR.bind_bad]); exact (show _ ∧ _ from ⟨rfl, HV3.out.2.1.then hb HV3.out.2.1.size, ⟨_, rfl⟩⟩)); rw [hr] at hE; obtain ⟨hb, hq, v, rfl, rfl⟩ := hE; rw [hr, PR.bind_ok] at HR; have hs5 := hb.size; have HW5 := hidLL (And.intro hq (And.intro (HV3.out.2.1.then hb HV3.out.2.1.size) (And.intro ((hb.block _ (by omega) (by omega)).trans HV3.out.2.2.1) (HV3.out.2.2.2.keep (hb.block _ (by omega) (by omega)))))); have z0 : W5.cell? ⟨g3, 0, none⟩ = some (.string K0) := (by rw [cell_of_row _ _ 0 _ _ _ HW5.out.2.2.2.blk]; rfl); have zf := HW5.out.2.2.2.froz; clear hb hq hr) | (go_at_call 40; have hno : eitherQ L f k5 n5 ≠ .out := (by intro h9; apply HNo.out; rw [HR.out, HBd.out, h9]; rfl); refine (HA.out _ _ _ HW5.out.1 hno).mono ?_; rintro e W6 hE; rcases hr : eitherQ L f k5 n5 with _ | ⟨c, a⟩ | ⟨x6, kF, nF⟩; (· exact absurd hr hno); (· rw [hr] at hE; obtain ⟨hb, ⟨p, rfl⟩⟩ := hE; obtain rfl : R = .bad c a := (by rw [HR.out, HBd.out, hr]; rfl); exact (show _ ∧ _ from ⟨rfl, HW5.out.2.1.then hb HW5.out.2.1.size, ⟨_, rfl⟩⟩)); rw [hr] at hE; obtain ⟨hb, hq, v, rfl, s0, s1, i2, ka, kn, kc, rfl, hN⟩ := hE; rw [HBd.out, hr, PR.bind_ok, PR.bind_ok] at HR; have hs6 := hb.size; have hsb := HW5.out.2.2.2.keep (hb.block g3 (by omega) (by omega)); obtain ⟨c5, x5'⟩ := hsb.cell (i := 5) (by omega); obtain ⟨c6, x6'⟩ := hsb.cell (i := 6) (by omega); obtain ⟨c7, x7'⟩ := hsb.cell (i := 7) (by omega); obtain ⟨c8, x8'⟩ := hsb.cell (i := 8) (by omega); have xf' := hsb.froz; have HW6 := hidLL (And.intro hq (And.intro (HW5.out.2.1.then hb HW5.out.2.1.size) (And.intro ((hb.block _ (by omega) (by omega)).trans HW5.out.2.2.1) (And.intro hsb hN)))); clear hb hq hr hN hsb))
    obtain ⟨cF, hcF⟩ : ∃ cF, cF = put4 (csQ K0 x2) 5 (.string s0) (.string s1) (.int .i64 i2) (.slice ka kn kc) := ⟨_, rfl⟩
    obtain ⟨VF, hVF⟩ : ∃ VF, VF = (((W6.setCell ⟨g3, 5, none⟩ (.string s0)).setCell ⟨g3, 6, none⟩ (.string s1)).setCell ⟨g3, 7, none⟩ (.int .i64 i2)).setCell ⟨g3, 8, none⟩ (.slice ka kn kc) := ⟨_, rfl⟩
    rw [← hVF]
    have hsn : SetNode W6 VF g3 5 (csQ K0 x2) (.string s0) (.string s1) (.int .i64 i2) (.slice ka kn kc) := by rw [hVF]; exact setNode HW6.out.2.2.2.1 5 _ _ _ _
    have HF : Hid (QS L rp tb VF kF nF ∧ BelX w.heap.size rp w VF ∧ VF.heap[w.heap.size]? = some (.cells Z 30 (0, 0)) ∧ SB VF g3 cF ∧ SentC (w.heap.size + 1) { kind := K0, name := x2, strength := 0, cond := x6 } cF VF) := by
      refine ⟨HW6.out.1.keep HL.out fun b hb => hsn.old b (by omega), ⟨by rw [hVF]; exact HW6.out.2.1.os, by rw [hVF]; exact HW6.out.2.1.tape, by rw [hVF]; exact HW6.out.2.1.output, by rw [hsn.size]; exact HW6.out.2.1.size, fun b hb hne => (hsn.old b (by omega)).trans (HW6.out.2.1.block b hb hne)⟩, (hsn.old _ (by omega)).trans HW6.out.2.2.1, by rw [hcF]; exact hsn.sb, ?_⟩
      rw [hcF]
      exact ⟨hsn.sb.size, by simp [put4, csQ], by simp [put4, csQ], by simp [put4, csQ], by simp [put4, csQ], by simp [put4, csQ], ⟨nv (.string s0) (.string s1) (.int .i64 i2) (.slice ka kn kc), fun i hi => by rcases (show i = 0 ∨ i = 1 ∨ i = 2 ∨ i = 3 by omega) with rfl | rfl | rfl | rfl <;> simp [put4, csQ, nv], HW6.out.2.2.2.2.step fun b hb hp => ⟨hsn.old b (by omega), by omega⟩⟩, ⟨nv (.string ⟨#[]⟩) (.string ⟨#[]⟩) (.int .i64 0) (.slice none 0 0), fun i hi => by rcases (show i = 0 ∨ i = 1 ∨ i = 2 ∨ i = 3 by omega) with rfl | rfl | rfl | rfl <;> simp [put4, csQ, nv], NL.leaf _ _ ⟨#[]⟩ ⟨#[]⟩ 0⟩, by simp [put4, csQ], ⟨.slice none 0 0, w.heap.size + 1, by simp [put4, csQ], Nat.le_refl _, ⟨rfl, .inl ⟨rfl, rfl⟩⟩⟩, by simp [put4, csQ], by simp [put4, csQ], by simp [put4, csQ], by simp [put4, csQ]⟩
    clear hVF hcF hsn HW6 HW5 x5' x6' x7' x8' xf'
    obtain ⟨m, c, hm, hm1, hc, h4, y8, y9, yf⟩ := HF.out.1.cells
    obtain ⟨t0, t1, t2⟩ := HF.out.1.tokens
    have hze := kN_e (t := (tokAt L kF).kind)
    by_cases hend : (tokAt L kF).kind = .e
    · rw [if_pos hend] at HR
      rw [decide_eq_true hend] at hze
      simp only [Bool.not_true] at hze
      clear hend
      generalize kN (tokAt L kF).kind = KK at *
      go_wp2_with (first | (refine wpList_load_row rfl 30 (.tmp 3) rfl g3 (by first | (simp [Act.eval]; done) | simp [Act.eval, Act.put]) 30 cF (0, 0) _ HF.out.2.2.2.1.blk Tryz.underlying30 rfl (infoSent.trans (by rw [HF.out.2.2.2.1.size])) ?_) | (refine wpList_store_row rfl 30 (.tmp 2) (.tmp 48) rfl w.heap.size cF (by first | (simp [Act.eval]; done) | simp [Act.eval, Act.put]) (by first | (simp [Act.eval]; done) | simp [Act.eval, Act.put]) 30 Z HF.out.2.2.1 (infoSent.trans (by rw [HF.out.2.2.2.1.size])) (by rw [hZs, HF.out.2.2.2.1.size]) HF.out.2.2.2.2.one ?_))
      refine bodyPost_ret (v := .agg cF) (results_cell_row Tryz.results18 _ _ w.heap.size 30 cF (0, 0) _ (by first | rfl | simp) (heap_setRow HF.out.2.2.1) Tryz.underlying30 rfl (infoSent.trans (by rw [HF.out.2.2.2.1.size]))) rfl ?_
      obtain rfl := HR.out
      refine ⟨HF.out.2.1.then ⟨rfl, rfl, rfl, by rw [size_setRow]; exact Nat.le_refl _, fun b hb _ => heap_setRow_ne (by omega)⟩ (Nat.le_refl _), HF.out.1.keep HL.out (fun b hb => heap_setRow_ne (by omega)), _, rfl, cF, rfl, HF.out.2.2.2.2.to (by omega) (fun b hb _ => heap_setRow_ne (by omega))⟩
    · rw [if_neg hend] at HR
      rw [decide_eq_false hend] at hze
      simp only [Bool.not_false] at hze
      obtain ⟨pt, gt⟩ := HF.out.1.gT
      clear hend
      generalize kN (tokAt L kF).kind = KK at *
      go_wp2_with (go_at_call 44; refine (wrong_q HF.out.1 _ _).mono ?_; rintro e w4 ⟨⟨p, rfl⟩, hb⟩; have HB := hidLL hb; clear hb)
      obtain rfl : R = .bad 0 0 := HR.out
      exact ⟨rfl, HF.out.2.1.then (Below.x HB.out _ (Nat.le_refl _)) HF.out.2.1.size, ⟨_, rfl⟩⟩
  cases hka : (K0.toList == [97, 109, 111, 117, 110, 116])
  rotate_left
  · have hbd : ∀ k n, bodyQ L f { kind := K0, name := x2, strength := (0 : Int).toNat } k n = (amountQ L f k n).bind fun x k n => .ok { kind := K0, name := x2, strength := 0, sum := x.1, cond := x.2.1, way := x.2.2 } k n := fun k n => by
      unfold bodyQ
      rw [if_neg (by unfold eqB; rw [Lib.toList_data wDefine]; show ¬ (K0.toList == [100, 101, 102, 105, 110, 101]) = true; rw [hkd]; simp), if_neg (by unfold eqB; rw [Lib.toList_data wRule]; show ¬ (K0.toList == [114, 117, 108, 101]) = true; rw [hkr]; simp), if_pos (by unfold eqB; rw [Lib.toList_data wAmount]; show (K0.toList == [97, 109, 111, 117, 110, 116]) = true; exact hka)]
      rfl
    have HBd := hidLL hbd
    clear hbd
    go_upto_region 14 with (first | (go_at_call 39; refine (HD.out _ _ _ HV3.out.1).mono ?_; rintro e W5 hE; rcases hr : needQ L ⟨#[58]⟩ k2 n2 with _ | ⟨c, a⟩ | ⟨x5, k5, n5⟩; (· exact absurd hr needQ_not); (· rw [hr] at hE; obtain ⟨hb, ⟨p, rfl⟩⟩ := hE; obtain rfl : R = .bad c a := (by rw [HR.out, hr, PR.bind_bad]); exact (show _ ∧ _ from ⟨rfl, HV3.out.2.1.then hb HV3.out.2.1.size, ⟨_, rfl⟩⟩)); rw [hr] at hE; obtain ⟨hb, hq, v, rfl, rfl⟩ := hE; rw [hr, PR.bind_ok] at HR; have hs5 := hb.size; have HW5 := hidLL (And.intro hq (And.intro (HV3.out.2.1.then hb HV3.out.2.1.size) (And.intro ((hb.block _ (by omega) (by omega)).trans HV3.out.2.2.1) (HV3.out.2.2.2.keep (hb.block _ (by omega) (by omega)))))); have z0 : W5.cell? ⟨g3, 0, none⟩ = some (.string K0) := (by rw [cell_of_row _ _ 0 _ _ _ HW5.out.2.2.2.blk]; rfl); have zf := HW5.out.2.2.2.froz; clear hb hq hr) | (go_at_call 42; have hno : amountQ L f k5 n5 ≠ .out := (by intro h9; apply HNo.out; rw [HR.out, HBd.out, h9]; rfl); refine (amount_q HW5.out.1 HW5.out.2.2.2 HL.out (by omega) ⟨by simp [csQ], by simp [csQ], by simp [csQ], by simp [csQ]⟩ (by simp [csQ]) hno).mono ?_; rintro e VF hE; rcases hr : amountQ L f k5 n5 with _ | ⟨c, a⟩ | ⟨x6, kF, nF⟩; (· exact absurd hr hno); (· rw [hr] at hE; obtain ⟨hb, ⟨p, rfl⟩⟩ := hE; obtain rfl : R = .bad c a := (by rw [HR.out, HBd.out, hr]; rfl); exact (show _ ∧ _ from ⟨rfl, HW5.out.2.1.then (hb.x (B' := w.heap.size) (by omega) (by omega)) (Nat.le_refl _), ⟨_, rfl⟩⟩)); rw [hr] at hE; obtain ⟨hb, hq, rfl, s0, s1, s2, sa, sn, sc, u0, u1, u2, ua, un, uc, hsb, hN, hM⟩ := hE; rw [HBd.out, hr, PR.bind_ok, PR.bind_ok] at HR; have HW6 := hidLL (And.intro hq (And.intro hb (And.intro hsb (And.intro hN hM)))); clear hb hq hr hN hM hsb))
    obtain ⟨cF, hcF⟩ : ∃ cF, cF = (put4 (put4 (csQ K0 x2) 9 (.string s0) (.string s1) (.int .i64 s2) (.slice sa sn sc)) 5 (.string u0) (.string u1) (.int .i64 u2) (.slice ua un uc)).setIfInBounds 13 (.int .i64 x6.2.2) := ⟨_, rfl⟩
    have HF : Hid (QS L rp tb VF kF nF ∧ BelX w.heap.size rp w VF ∧ VF.heap[w.heap.size]? = some (.cells Z 30 (0, 0)) ∧ SB VF g3 cF ∧ SentC (w.heap.size + 1) { kind := K0, name := x2, strength := 0, sum := x6.1, cond := x6.2.1, way := x6.2.2 } cF VF) := by
      refine ⟨HW6.out.1, HW5.out.2.1.then (HW6.out.2.1.x (B' := w.heap.size) (by omega) (by omega)) (Nat.le_refl _), (HW6.out.2.1.block _ (by omega) (by omega) (by omega)).trans HW5.out.2.2.1, by rw [hcF]; exact HW6.out.2.2.1, ?_⟩
      rw [hcF]
      exact ⟨HW6.out.2.2.1.size, by simp [put4, csQ], by simp [put4, csQ], by simp [put4, csQ], by simp [put4, csQ], by simp [put4, csQ], ⟨nv (.string u0) (.string u1) (.int .i64 u2) (.slice ua un uc), fun i hi => by rcases (show i = 0 ∨ i = 1 ∨ i = 2 ∨ i = 3 by omega) with rfl | rfl | rfl | rfl <;> simp [put4, csQ, nv], HW6.out.2.2.2.2.step fun b hb hp => ⟨rfl, by omega⟩⟩, ⟨nv (.string s0) (.string s1) (.int .i64 s2) (.slice sa sn sc), fun i hi => by rcases (show i = 0 ∨ i = 1 ∨ i = 2 ∨ i = 3 by omega) with rfl | rfl | rfl | rfl <;> simp [put4, csQ, nv], HW6.out.2.2.2.1.step fun b hb hp => ⟨rfl, by omega⟩⟩, by simp [put4, csQ], ⟨.slice none 0 0, w.heap.size + 1, by simp [put4, csQ], Nat.le_refl _, ⟨rfl, .inl ⟨rfl, rfl⟩⟩⟩, by simp [put4, csQ], by simp [put4, csQ], by simp [put4, csQ], by simp [put4, csQ]⟩
    clear hcF HW6 HW5 z0 zf
    obtain ⟨m, c, hm, hm1, hc, h4, y8, y9, yf⟩ := HF.out.1.cells
    obtain ⟨t0, t1, t2⟩ := HF.out.1.tokens
    have hze := kN_e (t := (tokAt L kF).kind)
    by_cases hend : (tokAt L kF).kind = .e
    · rw [if_pos hend] at HR
      rw [decide_eq_true hend] at hze
      simp only [Bool.not_true] at hze
      clear hend
      generalize kN (tokAt L kF).kind = KK at *
      go_wp2_with (first | (refine wpList_load_row rfl 30 (.tmp 3) rfl g3 (by first | (simp [Act.eval]; done) | simp [Act.eval, Act.put]) 30 cF (0, 0) _ HF.out.2.2.2.1.blk Tryz.underlying30 rfl (infoSent.trans (by rw [HF.out.2.2.2.1.size])) ?_) | (refine wpList_store_row rfl 30 (.tmp 2) (.tmp 48) rfl w.heap.size cF (by first | (simp [Act.eval]; done) | simp [Act.eval, Act.put]) (by first | (simp [Act.eval]; done) | simp [Act.eval, Act.put]) 30 Z HF.out.2.2.1 (infoSent.trans (by rw [HF.out.2.2.2.1.size])) (by rw [hZs, HF.out.2.2.2.1.size]) HF.out.2.2.2.2.one ?_))
      refine bodyPost_ret (v := .agg cF) (results_cell_row Tryz.results18 _ _ w.heap.size 30 cF (0, 0) _ (by first | rfl | simp) (heap_setRow HF.out.2.2.1) Tryz.underlying30 rfl (infoSent.trans (by rw [HF.out.2.2.2.1.size]))) rfl ?_
      obtain rfl := HR.out
      refine ⟨HF.out.2.1.then ⟨rfl, rfl, rfl, by rw [size_setRow]; exact Nat.le_refl _, fun b hb _ => heap_setRow_ne (by omega)⟩ (Nat.le_refl _), HF.out.1.keep HL.out (fun b hb => heap_setRow_ne (by omega)), _, rfl, cF, rfl, HF.out.2.2.2.2.to (by omega) (fun b hb _ => heap_setRow_ne (by omega))⟩
    · rw [if_neg hend] at HR
      rw [decide_eq_false hend] at hze
      simp only [Bool.not_false] at hze
      obtain ⟨pt, gt⟩ := HF.out.1.gT
      clear hend
      generalize kN (tokAt L kF).kind = KK at *
      go_wp2_with (go_at_call 44; refine (wrong_q HF.out.1 _ _).mono ?_; rintro e w4 ⟨⟨p, rfl⟩, hb⟩; have HB := hidLL hb; clear hb)
      obtain rfl : R = .bad 0 0 := HR.out
      exact ⟨rfl, HF.out.2.1.then (Below.x HB.out _ (Nat.le_refl _)) HF.out.2.1.size, ⟨_, rfl⟩⟩
  cases hkt : (K0.toList == [100, 117, 116, 121])
  rotate_left
  · have hbd : ∀ k n, bodyQ L f { kind := K0, name := x2, strength := (0 : Int).toNat } k n = (dutyQ L k n).bind fun x k n => .ok { kind := K0, name := x2, strength := 0, positive := x.1.1, head := x.1.2, tn := x.2.1, tu := x.2.2.1, tr := x.2.2.2.1, els := x.2.2.2.2 } k n := fun k n => by
      unfold bodyQ
      rw [if_neg (by unfold eqB; rw [Lib.toList_data wDefine]; show ¬ (K0.toList == [100, 101, 102, 105, 110, 101]) = true; rw [hkd]; simp), if_neg (by unfold eqB; rw [Lib.toList_data wRule]; show ¬ (K0.toList == [114, 117, 108, 101]) = true; rw [hkr]; simp), if_neg (by unfold eqB; rw [Lib.toList_data wAmount]; show ¬ (K0.toList == [97, 109, 111, 117, 110, 116]) = true; rw [hka]; simp), if_pos (by unfold eqB; rw [Lib.toList_data wDuty]; show (K0.toList == [100, 117, 116, 121]) = true; exact hkt)]
      rfl
    have HBd := hidLL hbd
    clear hbd
    go_upto_region 14 with (first | (go_at_call 39; refine (HD.out _ _ _ HV3.out.1).mono ?_; rintro e W5 hE; rcases hr : needQ L ⟨#[58]⟩ k2 n2 with _ | ⟨c, a⟩ | ⟨x5, k5, n5⟩; (· exact absurd hr needQ_not); (· rw [hr] at hE; obtain ⟨hb, ⟨p, rfl⟩⟩ := hE; obtain rfl : R = .bad c a := (by rw [HR.out, hr, PR.bind_bad]); exact (show _ ∧ _ from ⟨rfl, HV3.out.2.1.then hb HV3.out.2.1.size, ⟨_, rfl⟩⟩)); rw [hr] at hE; obtain ⟨hb, hq, v, rfl, rfl⟩ := hE; rw [hr, PR.bind_ok] at HR; have hs5 := hb.size; have HW5 := hidLL (And.intro hq (And.intro (HV3.out.2.1.then hb HV3.out.2.1.size) (And.intro ((hb.block _ (by omega) (by omega)).trans HV3.out.2.2.1) (HV3.out.2.2.2.keep (hb.block _ (by omega) (by omega)))))); have z0 : W5.cell? ⟨g3, 0, none⟩ = some (.string K0) := (by rw [cell_of_row _ _ 0 _ _ _ HW5.out.2.2.2.blk]; rfl); have zf := HW5.out.2.2.2.froz; clear hb hq hr) | (go_at_call 43; have hno : dutyQ L k5 n5 ≠ .out := (by intro h9; apply HNo.out; rw [HR.out, HBd.out, h9]; rfl); refine (duty_q HW5.out.1 HW5.out.2.2.2 HL.out (by omega) (by simp [csQ]) (by simp [csQ])).mono ?_; rintro e VF hE; rcases hr : dutyQ L k5 n5 with _ | ⟨c, a⟩ | ⟨x6, kF, nF⟩; (· exact absurd hr hno); (· rw [hr] at hE; obtain ⟨hb, ⟨p, rfl⟩⟩ := hE; obtain rfl : R = .bad c a := (by rw [HR.out, HBd.out, hr]; rfl); exact (show _ ∧ _ from ⟨rfl, HW5.out.2.1.then (hb.x (B' := w.heap.size) (by omega) (by omega)) (Nat.le_refl _), ⟨_, rfl⟩⟩)); rw [hr] at hE; obtain ⟨hb, hq, rfl, hsb⟩ := hE; rw [HBd.out, hr, PR.bind_ok, PR.bind_ok] at HR; have HW6 := hidLL (And.intro hq (And.intro hb hsb)); clear hb hq hr hsb))
    obtain ⟨cF, hcF⟩ : ∃ cF, cF = ((((((csQ K0 x2).setIfInBounds 3 (.bool x6.1.1)).setIfInBounds 4 (.string x6.1.2)).setIfInBounds 15 (.int .i64 x6.2.1)).setIfInBounds 16 (.int .i64 x6.2.2.1)).setIfInBounds 17 (.int .i64 x6.2.2.2.1)).setIfInBounds 18 (.string x6.2.2.2.2) := ⟨_, rfl⟩
    have HF : Hid (QS L rp tb VF kF nF ∧ BelX w.heap.size rp w VF ∧ VF.heap[w.heap.size]? = some (.cells Z 30 (0, 0)) ∧ SB VF g3 cF ∧ SentC (w.heap.size + 1) { kind := K0, name := x2, strength := 0, positive := x6.1.1, head := x6.1.2, tn := x6.2.1, tu := x6.2.2.1, tr := x6.2.2.2.1, els := x6.2.2.2.2 } cF VF) := by
      refine ⟨HW6.out.1, HW5.out.2.1.then (HW6.out.2.1.x (B' := w.heap.size) (by omega) (by omega)) (Nat.le_refl _), (HW6.out.2.1.block _ (by omega) (by omega) (by omega)).trans HW5.out.2.2.1, by rw [hcF]; exact HW6.out.2.2, ?_⟩
      rw [hcF]
      exact ⟨HW6.out.2.2.size, by simp [csQ], by simp [csQ], by simp [csQ], by simp [csQ], by simp [csQ], ⟨nv (.string ⟨#[]⟩) (.string ⟨#[]⟩) (.int .i64 0) (.slice none 0 0), fun i hi => by rcases (show i = 0 ∨ i = 1 ∨ i = 2 ∨ i = 3 by omega) with rfl | rfl | rfl | rfl <;> simp [csQ, nv], NL.leaf _ _ ⟨#[]⟩ ⟨#[]⟩ 0⟩, ⟨nv (.string ⟨#[]⟩) (.string ⟨#[]⟩) (.int .i64 0) (.slice none 0 0), fun i hi => by rcases (show i = 0 ∨ i = 1 ∨ i = 2 ∨ i = 3 by omega) with rfl | rfl | rfl | rfl <;> simp [csQ, nv], NL.leaf _ _ ⟨#[]⟩ ⟨#[]⟩ 0⟩, by simp [csQ], ⟨.slice none 0 0, w.heap.size + 1, by simp [csQ], Nat.le_refl _, ⟨rfl, .inl ⟨rfl, rfl⟩⟩⟩, by simp [csQ], by simp [csQ], by simp [csQ], by simp [csQ]⟩
    clear hcF HW6 HW5 z0 zf
    obtain ⟨m, c, hm, hm1, hc, h4, y8, y9, yf⟩ := HF.out.1.cells
    obtain ⟨t0, t1, t2⟩ := HF.out.1.tokens
    have hze := kN_e (t := (tokAt L kF).kind)
    by_cases hend : (tokAt L kF).kind = .e
    · rw [if_pos hend] at HR
      rw [decide_eq_true hend] at hze
      simp only [Bool.not_true] at hze
      clear hend
      generalize kN (tokAt L kF).kind = KK at *
      go_wp2_with (first | (refine wpList_load_row rfl 30 (.tmp 3) rfl g3 (by first | (simp [Act.eval]; done) | simp [Act.eval, Act.put]) 30 cF (0, 0) _ HF.out.2.2.2.1.blk Tryz.underlying30 rfl (infoSent.trans (by rw [HF.out.2.2.2.1.size])) ?_) | (refine wpList_store_row rfl 30 (.tmp 2) (.tmp 48) rfl w.heap.size cF (by first | (simp [Act.eval]; done) | simp [Act.eval, Act.put]) (by first | (simp [Act.eval]; done) | simp [Act.eval, Act.put]) 30 Z HF.out.2.2.1 (infoSent.trans (by rw [HF.out.2.2.2.1.size])) (by rw [hZs, HF.out.2.2.2.1.size]) HF.out.2.2.2.2.one ?_))
      refine bodyPost_ret (v := .agg cF) (results_cell_row Tryz.results18 _ _ w.heap.size 30 cF (0, 0) _ (by first | rfl | simp) (heap_setRow HF.out.2.2.1) Tryz.underlying30 rfl (infoSent.trans (by rw [HF.out.2.2.2.1.size]))) rfl ?_
      obtain rfl := HR.out
      refine ⟨HF.out.2.1.then ⟨rfl, rfl, rfl, by rw [size_setRow]; exact Nat.le_refl _, fun b hb _ => heap_setRow_ne (by omega)⟩ (Nat.le_refl _), HF.out.1.keep HL.out (fun b hb => heap_setRow_ne (by omega)), _, rfl, cF, rfl, HF.out.2.2.2.2.to (by omega) (fun b hb _ => heap_setRow_ne (by omega))⟩
    · rw [if_neg hend] at HR
      rw [decide_eq_false hend] at hze
      simp only [Bool.not_false] at hze
      obtain ⟨pt, gt⟩ := HF.out.1.gT
      clear hend
      generalize kN (tokAt L kF).kind = KK at *
      go_wp2_with (go_at_call 44; refine (wrong_q HF.out.1 _ _).mono ?_; rintro e w4 ⟨⟨p, rfl⟩, hb⟩; have HB := hidLL hb; clear hb)
      obtain rfl : R = .bad 0 0 := HR.out
      exact ⟨rfl, HF.out.2.1.then (Below.x HB.out _ (Nat.le_refl _)) HF.out.2.1.size, ⟨_, rfl⟩⟩
  have hbd : ∀ k n, bodyQ L f { kind := K0, name := x2, strength := (0 : Int).toNat } k n = .ok { kind := K0, name := x2, strength := 0 } k n := fun k n => by
      unfold bodyQ
      rw [if_neg (by unfold eqB; rw [Lib.toList_data wDefine]; show ¬ (K0.toList == [100, 101, 102, 105, 110, 101]) = true; rw [hkd]; simp), if_neg (by unfold eqB; rw [Lib.toList_data wRule]; show ¬ (K0.toList == [114, 117, 108, 101]) = true; rw [hkr]; simp), if_neg (by unfold eqB; rw [Lib.toList_data wAmount]; show ¬ (K0.toList == [97, 109, 111, 117, 110, 116]) = true; rw [hka]; simp), if_neg (by unfold eqB; rw [Lib.toList_data wDuty]; show ¬ (K0.toList == [100, 117, 116, 121]) = true; rw [hkt]; simp)]
      rfl
  have HBd := hidLL hbd
  clear hbd
  go_upto_region 14 with (go_at_call 39; refine (HD.out _ _ _ HV3.out.1).mono ?_; rintro e W5 hE; rcases hr : needQ L ⟨#[58]⟩ k2 n2 with _ | ⟨c, a⟩ | ⟨x5, k5, n5⟩; (· exact absurd hr needQ_not); (· rw [hr] at hE; obtain ⟨hb, ⟨p, rfl⟩⟩ := hE; obtain rfl : R = .bad c a := (by rw [HR.out, hr, PR.bind_bad]); exact (show _ ∧ _ from ⟨rfl, HV3.out.2.1.then hb HV3.out.2.1.size, ⟨_, rfl⟩⟩)); rw [hr] at hE; obtain ⟨hb, hq, v, rfl, rfl⟩ := hE; rw [hr, PR.bind_ok] at HR; have hs5 := hb.size; have HW5 := hidLL (And.intro hq (And.intro (HV3.out.2.1.then hb HV3.out.2.1.size) (And.intro ((hb.block _ (by omega) (by omega)).trans HV3.out.2.2.1) (HV3.out.2.2.2.keep (hb.block _ (by omega) (by omega)))))); have z0 : W5.cell? ⟨g3, 0, none⟩ = some (.string K0) := (by rw [cell_of_row _ _ 0 _ _ _ HW5.out.2.2.2.blk]; rfl); have zf := HW5.out.2.2.2.froz; clear hb hq hr)
  rw [HBd.out, PR.bind_ok] at HR
  obtain ⟨cF, hcF⟩ : ∃ cF, cF = csQ K0 x2 := ⟨_, rfl⟩
  have HF : Hid (QS L rp tb W5 k5 n5 ∧ BelX w.heap.size rp w W5 ∧ W5.heap[w.heap.size]? = some (.cells Z 30 (0, 0)) ∧ SB W5 g3 cF ∧ SentC (w.heap.size + 1) { kind := K0, name := x2, strength := 0 } cF W5) := by
    refine ⟨HW5.out.1, HW5.out.2.1, HW5.out.2.2.1, by rw [hcF]; exact HW5.out.2.2.2, ?_⟩
    rw [hcF]
    exact ⟨rfl, by simp [csQ], by simp [csQ], by simp [csQ], by simp [csQ], by simp [csQ], ⟨nv (.string ⟨#[]⟩) (.string ⟨#[]⟩) (.int .i64 0) (.slice none 0 0), fun i hi => by rcases (show i = 0 ∨ i = 1 ∨ i = 2 ∨ i = 3 by omega) with rfl | rfl | rfl | rfl <;> simp [csQ, nv], NL.leaf _ _ ⟨#[]⟩ ⟨#[]⟩ 0⟩, ⟨nv (.string ⟨#[]⟩) (.string ⟨#[]⟩) (.int .i64 0) (.slice none 0 0), fun i hi => by rcases (show i = 0 ∨ i = 1 ∨ i = 2 ∨ i = 3 by omega) with rfl | rfl | rfl | rfl <;> simp [csQ, nv], NL.leaf _ _ ⟨#[]⟩ ⟨#[]⟩ 0⟩, by simp [csQ], ⟨.slice none 0 0, w.heap.size + 1, by simp [csQ], Nat.le_refl _, ⟨rfl, .inl ⟨rfl, rfl⟩⟩⟩, by simp [csQ], by simp [csQ], by simp [csQ], by simp [csQ]⟩
  clear hcF HW5 z0 zf
  obtain ⟨m, c, hm, hm1, hc, h4, y8, y9, yf⟩ := HF.out.1.cells
  obtain ⟨t0, t1, t2⟩ := HF.out.1.tokens
  have hze := kN_e (t := (tokAt L k5).kind)
  by_cases hend : (tokAt L k5).kind = .e
  · rw [if_pos hend] at HR
    rw [decide_eq_true hend] at hze
    simp only [Bool.not_true] at hze
    clear hend
    generalize kN (tokAt L k5).kind = KK at *
    go_wp2_with (first | (refine wpList_load_row rfl 30 (.tmp 3) rfl g3 (by first | (simp [Act.eval]; done) | simp [Act.eval, Act.put]) 30 cF (0, 0) _ HF.out.2.2.2.1.blk Tryz.underlying30 rfl (infoSent.trans (by rw [HF.out.2.2.2.1.size])) ?_) | (refine wpList_store_row rfl 30 (.tmp 2) (.tmp 48) rfl w.heap.size cF (by first | (simp [Act.eval]; done) | simp [Act.eval, Act.put]) (by first | (simp [Act.eval]; done) | simp [Act.eval, Act.put]) 30 Z HF.out.2.2.1 (infoSent.trans (by rw [HF.out.2.2.2.1.size])) (by rw [hZs, HF.out.2.2.2.1.size]) HF.out.2.2.2.2.one ?_))
    refine bodyPost_ret (v := .agg cF) (results_cell_row Tryz.results18 _ _ w.heap.size 30 cF (0, 0) _ (by first | rfl | simp) (heap_setRow HF.out.2.2.1) Tryz.underlying30 rfl (infoSent.trans (by rw [HF.out.2.2.2.1.size]))) rfl ?_
    obtain rfl := HR.out
    refine ⟨HF.out.2.1.then ⟨rfl, rfl, rfl, by rw [size_setRow]; exact Nat.le_refl _, fun b hb _ => heap_setRow_ne (by omega)⟩ (Nat.le_refl _), HF.out.1.keep HL.out (fun b hb => heap_setRow_ne (by omega)), _, rfl, cF, rfl, HF.out.2.2.2.2.to (by omega) (fun b hb _ => heap_setRow_ne (by omega))⟩
  · rw [if_neg hend] at HR
    rw [decide_eq_false hend] at hze
    simp only [Bool.not_false] at hze
    obtain ⟨pt, gt⟩ := HF.out.1.gT
    clear hend
    generalize kN (tokAt L k5).kind = KK at *
    go_wp2_with (go_at_call 44; refine (wrong_q HF.out.1 _ _).mono ?_; rintro e w4 ⟨⟨p, rfl⟩, hb⟩; have HB := hidLL hb; clear hb)
    obtain rfl : R = .bad 0 0 := HR.out
    exact ⟨rfl, HF.out.2.1.then (Below.x HB.out _ (Nat.le_refl _)) HF.out.2.1.size, ⟨_, rfl⟩⟩
end Go.Proofs.YtehbinobohjadaaGreatDoor
