/-
  The program's reader: rules.
-/
import Derived.Test.YtehbinobohjadaaGreatDoorBk20
import Derived.Test.YtehbinobohjadaaGreatDoorBk18
import Derived.Deep.LoopGhost
namespace Go.Proofs.YtehbinobohjadaaGreatDoor
open Go.RowKit Go.Extern.Stop Go.Stop Go.Extern

def commaQ (L : List Tok) : Nat → List ByteArray → Nat → Nat → PR (List ByteArray)
  | 0, _, _, _ => .out
  | f + 1, l, k, n => if isQ L ⟨#[44]⟩ k = true then (nameQ L (k + 1) n).bind fun x k n => commaQ L f (l ++ [x]) k n else .ok l k n
def overQ (L : List Tok) : Nat → List ByteArray → Nat → Nat → PR (List ByteArray)
  | 0, _, _, _ => .out
  | f + 1, l, k, n => if isQ L ⟨#[59]⟩ k = true then (needQ L ⟨#[111, 118, 101, 114]⟩ (k + 1) n).bind fun _ k n => (nameQ L k n).bind fun x k n => (commaQ L f (l ++ [x]) k n).bind fun l k n => overQ L f l k n else .ok l k n
def ruleQ (L : List Tok) (f k n : Nat) : PR ((Bool × ByteArray) × Nd × List ByteArray) := (litQ L k n).bind fun l k n => (condQ L f k n).bind fun c k n => (overQ L f [] k n).bind fun o k n => .ok (l, c, o) k n
theorem Tryz.infoStrQ : ∃ i z, Tryz.prog.info? 9 = some i ∧ i.zero = some z ∧ i.size = 1 ∧ i.bytes = 16 ∧ z.cells.size = 1 := by
  have h : (Tryz.prog.info? 9).map (fun i => (i.zero.map (fun z => z.cells.size), i.size, i.bytes)) = some (some 1, 1, 16) := by kernel_rfl
  obtain ⟨i, hi, e⟩ := Option.map_eq_some_iff.1 h
  injection e with e1 e2
  injection e2 with e2 e3
  obtain ⟨z, hz, e4⟩ := Option.map_eq_some_iff.1 e1
  exact ⟨i, z, hi, hz, e2, e3, e4⟩
theorem oneNewsQ (w : World) (s : ByteArray) (t : TypeId) : ∀ (j : Nat) (u : Value), [Value.string s][j]? = some u → (w.alloc (.cells #[Value.string s] t)).cell? ((⟨w.heap.size, 0, none⟩ : Addr).add j) = some u := by
  intro j u hj
  match j, hj with
  | 0, hj => simp at hj; subst hj; simp [Addr.add]
theorem needQ_k {L : List Tok} {s : ByteArray} {k n k' n' : Nat} {x : Unit} (h : needQ L s k n = .ok x k' n') : k' = k + 1 := by
  unfold needQ at h
  split at h
  · injection h with _ h _; exact h.symm
  · cases h
theorem nameQ_k {L : List Tok} {k n k' n' : Nat} {x : ByteArray} (h : nameQ L k n = .ok x k' n') : k' = k + 1 := by
  unfold nameQ at h
  split at h
  · injection h with _ h _; exact h.symm
  · cases h
theorem PR.bind_assoc {α β γ : Type} (r : PR α) (f : α → Nat → Nat → PR β) (g : β → Nat → Nat → PR γ) : (r.bind f).bind g = r.bind fun x k n => (f x k n).bind g := by cases r <;> rfl
theorem SB.at14 {w : World} {sp : Nat} {cs : Array Value} {v : Value} (h : SB w sp (cs.setIfInBounds 14 v)) : w.cell? ⟨sp, 14, none⟩ = some v := by
  have h1 := h.blk
  have h2 := h.size
  have h3 : 14 < cs.size := by simp at h2; omega
  simp [World.cell?, h1, h3]
/-- Names that a rule is over, as far as they are read. -/
structure OvAt (L : List Tok) (rp tb sp c1 : Nat) (W2 wr : World) (k n : Nat) (cs : Array Value) (v : Value) (l : List ByteArray) : Prop where
  q : QS L rp tb wr k n
  b : BelY c1 rp sp W2 wr
  s : SB wr sp (cs.setIfInBounds 14 v)
  o : wr.ownsRow c1 9 1 v l.length (l.map Value.string)
  len : l.length ≤ k
  sl : ∃ va vc, v = .slice va l.length vc
  le : c1 ≤ wr.heap.size
theorem OvAt.step {L : List Tok} {rp tb sp c1 : Nat} {W2 wr W' : World} {k n k' n' : Nat} {cs : Array Value} {v : Value} {l : List ByteArray} (h : OvAt L rp tb sp c1 W2 wr k n cs v l) (hb : BelX wr.heap.size rp wr W') (hq : QS L rp tb W' k' n') (hk : k ≤ k') (hne : sp ≠ rp) (hrp : rp < c1) : OvAt L rp tb sp c1 W2 W' k' n' cs v l :=
  ⟨hq, h.b.then (hb.y sp) h.le, h.s.keep (hb.block sp h.s.in hne), row_step h.o fun g hg hl => hb.block g hl (by have := (h.o.lt g hg).1; omega), by have := h.len; omega, h.sl, by have := hb.size; have := h.le; omega⟩
theorem OvAt.push {L : List Tok} {rp tb sp c1 B : Nat} {W2 wr W4 : World} {k n : Nat} {cs : Array Value} {v v' : Value} {l : List ByteArray} {x : ByteArray} (h : OvAt L rp tb sp c1 W2 wr k n cs v l) (lo : Lows rp tb B) (hB : B ≤ sp) (hsp : sp < c1) (hk : l.length + 1 ≤ k)
    (ho : W4.ownsRow c1 9 1 v' (l.length + 1) (l.map Value.string ++ [Value.string x])) (hg : (wr.alloc (.cells #[Value.string x] 9)).grownBy W4 v.ownBlock) : OvAt L rp tb sp c1 W2 (W4.setCell ⟨sp, 14, none⟩ v') k n cs v' (l ++ [x]) := by
  have hs4 : wr.heap.size < W4.heap.size := by have := hg.size; simp at this; omega
  have hb4 : ∀ b, b < c1 → W4.heap[b]? = wr.heap[b]? := fun b hb => (hg.block b (by simp; have := h.le; omega) (by intro e; have := (h.o.lt b e.symm).1; omega)).trans (((Below.refl _ _).alloc (Nat.le_refl _) _).block b (by have := h.le; omega))
  have hset : ∀ b, b ≠ sp → (W4.setCell ⟨sp, 14, none⟩ v').heap[b]? = W4.heap[b]? := fun b hb => Below.heap_setCell _ _ _ _ hb
  have hle := h.le
  refine ⟨h.q.keep lo fun b hb => (hset b (by omega)).trans (hb4 b (by omega)), ⟨hg.os.trans h.b.os, hg.tape.trans h.b.tape, hg.output.trans h.b.output, by have := h.b.size; simp; omega, fun b h1 h2 h3 => (hset b h3).trans ((hb4 b h1).trans (h.b.block b h1 h2 h3))⟩, ?_, ?_, by rw [List.length_append, List.length_singleton]; exact hk, ?_, by simp; omega⟩
  · have h1 := (h.s.keep (hb4 sp hsp)).set 14 v'
    have e : (cs.setIfInBounds 14 v).setIfInBounds 14 v' = cs.setIfInBounds 14 v' := by
      apply Array.ext_getElem?
      intro j
      simp only [Array.getElem?_setIfInBounds, Array.size_setIfInBounds]
      split <;> rfl
    rw [e] at h1
    exact h1
  · rw [List.length_append, List.length_singleton, List.map_append]
    exact row_step ho fun g hg' _ => hset g (by have := (ho.lt g hg').1; omega)
  · rw [List.length_append, List.length_singleton]
    exact row_any ho
inductive CommaAt (L : List Tok) (rp tb sp c1 : Nat) (W2 : World) (cs : Array Value) (N : List ByteArray → Nat → Nat → PR ((Bool × ByteArray) × Nd × List ByteArray)) (R : PR ((Bool × ByteArray) × Nd × List ByteArray)) (g : Nat) (wr : World) : Prop
  | mk (f : Nat) (l : List ByteArray) (k n : Nat) (v : Value) (hg : f ≤ g) (h : OvAt L rp tb sp c1 W2 wr k n cs v l) (hR : ((commaQ L f l k n).bind fun l k n => N l k n) = R) : CommaAt L rp tb sp c1 W2 cs N R g wr
inductive OverAt (L : List Tok) (rp tb sp c1 : Nat) (W2 : World) (cs : Array Value) (N : List ByteArray → Nat → Nat → PR ((Bool × ByteArray) × Nd × List ByteArray)) (R : PR ((Bool × ByteArray) × Nd × List ByteArray)) (g : Nat) (wr : World) : Prop
  | mk (f : Nat) (l : List ByteArray) (k n : Nat) (v : Value) (hg : f ≤ g) (h : OvAt L rp tb sp c1 W2 wr k n cs v l) (hR : ((overQ L f l k n).bind fun l k n => N l k n) = R) : OverAt L rp tb sp c1 W2 cs N R g wr
set_option maxHeartbeats 8000000 in
theorem rule_q {L : List Tok} {rp tb sp B f : Nat} {w : World} {k n : Nat} {cs : Array Value} (h : QS L rp tb w k n) (hs : SB w sp cs) (lo : Lows rp tb B) (hB : B ≤ sp) (hz : Empty4 cs 5) (h14 : cs[14]? = some (.slice none 0 0)) (hn : ruleQ L f k n ≠ .out) :
    Calls Tryz.prog 41 #[.pointer (some ⟨rp, 0, none⟩), .pointer (some ⟨sp, 0, none⟩)] w fun e w' => QEndY L rp tb sp w (ruleQ L f k n) (fun x w' => ∃ (t0 t1 : ByteArray) (m2 : Int) (la : Option Addr) (ln lc : Nat) (v : Value) (c1 : Nat), SB w' sp ((put4 ((cs.setIfInBounds 3 (.bool x.1.1)).setIfInBounds 4 (.string x.1.2)) 5 (.string t0) (.string t1) (.int .i64 m2) (.slice la ln lc)).setIfInBounds 14 v) ∧ NL w' (fun b => w.heap.size ≤ b) (nv (.string t0) (.string t1) (.int .i64 m2) (.slice la ln lc)) x.2.1 ∧ w.heap.size ≤ c1 ∧ w'.ownsRow c1 9 1 v x.2.2.length (x.2.2.map Value.string)) e w' := by
  have hne : sp ≠ rp := by have := lo.r; omega
  have HL := hidLL lo
  have hin := hs.in
  have hrin := h.in
  obtain ⟨R, hR⟩ : ∃ R, R = ruleQ L f k n := ⟨_, rfl⟩
  rw [← hR] at hn ⊢
  unfold ruleQ at hR
  have HR := hidLL hR
  have HNo := hidLL hn
  have HLi := hidLL (literal_q h hs lo hB)
  have HN := name_c (L := L) (rp := rp) (tb := tb)
  have HD := need_c (L := L) (rp := rp) (tb := tb) ⟨#[111, 118, 101, 114]⟩ (by decide)
  have HZ := hidLL (And.intro hz h14)
  obtain ⟨i0, iz, hi0⟩ := Tryz.infoStrQ
  have HI := hidLL hi0
  clear h hs lo hR hn hz h14 hi0
  go_enter Tryz.func41, Tryz.ntmps41
  go_upto_region 1 with (go_at_call 82; refine HLi.out.mono ?_; rintro e W1 hE; rcases hr : litQ L k n with _ | ⟨c, a⟩ | ⟨x1, k1, n1⟩; (· exact absurd hr litQ_not); (· rw [hr] at hE; obtain ⟨hb, ⟨p, rfl⟩⟩ := hE; obtain rfl : R = .bad c a := (by rw [HR.out, hr, PR.bind_bad]); exact (show _ ∧ _ from ⟨rfl, hb, ⟨_, rfl⟩⟩)); rw [hr] at hE; obtain ⟨hb, hq, rfl, hs1⟩ := hE; rw [hr, PR.bind_ok] at HR; have HW1 := hidLL (show Way L rp tb sp w W1 k1 n1 _ from ⟨hq, hb, hs1⟩); clear hb hq hr hs1)
  obtain ⟨D, hD⟩ : ∃ D, D = (cs.setIfInBounds 3 (.bool x1.1)).setIfInBounds 4 (.string x1.2) := ⟨_, rfl⟩
  rw [← hD] at HW1
  have hz5 : Empty4 D 5 := by rw [hD]; exact ⟨by simp [HZ.out.1.a], by simp [HZ.out.1.b], by simp [HZ.out.1.c], by simp [HZ.out.1.d]⟩
  have hD14 : D[14]? = some (.slice none 0 0) := by rw [hD]; simp [HZ.out.2]
  have HCo := hidLL (condition_q (f := f) HW1.out.1 HW1.out.2.2 HL.out hB hz5 (PR.bind_not (HR.out ▸ HNo.out)))
  have HDD := hidLL (And.intro hD hD14)
  clear hz5 hD hD14 HLi
  have hsz1 := HW1.out.2.1.size
  go_wp2_with (go_at_call 83; refine HCo.out.mono ?_; rintro e W2 hE; rcases hr : condQ L f k1 n1 with _ | ⟨c, a⟩ | ⟨x2, k2, n2⟩; (· exact absurd hr (PR.bind_not (HR.out ▸ HNo.out))); (· rw [hr] at hE; obtain ⟨hb, ⟨p, rfl⟩⟩ := hE; obtain rfl : R = .bad c a := (by rw [HR.out, hr, PR.bind_bad]); exact (show _ ∧ _ from ⟨rfl, HW1.out.2.1.then hb (by omega), ⟨_, rfl⟩⟩)); rw [hr] at hE; obtain ⟨hb, hq, rfl, t0, t1, j2, la, ln, lc, hs2, hM⟩ := hE; rw [hr, PR.bind_ok] at HR; have hsz2 := hb.size; have HW2 := hidLL (And.intro (show Way L rp tb sp w W2 k2 n2 _ from ⟨hq, HW1.out.2.1.then hb (by omega), hs2⟩) (hM.step (w' := W2) (P' := fun b => w.heap.size ≤ b ∧ b < W2.heap.size) fun b hb' hp => ⟨rfl, by omega, hb'⟩)); clear hb hq hr hs2 hM)
  clear HCo HW1
  obtain ⟨E, hE⟩ : ∃ E, E = put4 D 5 (.string t0) (.string t1) (.int .i64 j2) (.slice la ln lc) := ⟨_, rfl⟩
  rw [← hE] at HW2
  have hE14 : E[14]? = some (.slice none 0 0) := by rw [hE, put4_get (by omega)]; exact HDD.out.2
  have HEE := hidLL hE
  have hsp2 : sp < W2.heap.size := HW2.out.1.2.2.in
  have hrp2 : rp < W2.heap.size := HW2.out.1.1.in
  have HS0 : Hid (OverAt L rp tb sp W2.heap.size W2 E (fun o k n => .ok (x1, x2, o) k n) R f W2) := .mk f [] k2 n2 (.slice none 0 0) (Nat.le_refl _) ⟨HW2.out.1.1, BelY.refl _ _ _ _, by rw [set_same hE14]; exact HW2.out.1.2.2, ⟨rfl, .inl ⟨rfl, rfl⟩⟩, Nat.zero_le _, ⟨none, 0, rfl⟩, Nat.le_refl _⟩ HR.out.symm
  clear hE hE14
  obtain ⟨c1, hc1⟩ : ∃ c1, c1 = W2.heap.size := ⟨_, rfl⟩
  rw [← hc1] at HS0 hsp2 hrp2
  have HC1 := hidLL hc1
  clear hc1
  go_loopg [] f (fun g wr => OverAt L rp tb sp c1 W2 E (fun o k n => .ok (x1, x2, o) k n) R g wr)
  case atStart => exact HS0.out
  case round =>
    clear HS0
    cases hrel with
    | mk f' l k3 n3 v hg h hR =>
    have hk400 : k3 < 400 := by have := h.q.lt; have := h.q.ok.len; omega
    have hlk := h.len
    cases f' with
    | zero => exact absurd (hR.symm.trans (by rw [overQ]; rfl)) HNo.out
    | succ f' =>
      rw [overQ] at hR
      have HG := hidLL hg
      have HO := hidLL h
      cases hi : isQ L ⟨#[59]⟩ k3 with
      | false =>
        rw [hi, if_neg (by simp)] at hR
        have HT := hidLL (take_no h.q ⟨#[59]⟩ hi)
        have HR2 := hidLL hR
        clear hi h hg hR
        go_wp2_with (go_at_call 80; refine HT.out.mono ?_; rintro e W4 ⟨rfl, rfl⟩)
        go_end0
        obtain rfl : R = .ok (x1, x2, l) k3 n3 := HR2.out.symm
        have hc := HC1.out
        refine ⟨HW2.out.1.2.1.then HO.out.b (by omega), HO.out.q, rfl, t0, t1, j2, la, ln, lc, v, c1, ?_, HW2.out.2.step fun b hb hp => ⟨HO.out.b.block b (by omega) (by omega) (by omega), hp.1⟩, by omega, HO.out.o⟩
        have h9 := HO.out.s
        rw [HEE.out, HDD.out.1] at h9
        exact h9
      | true =>
        rw [hi, if_pos rfl] at hR
        have HT := hidLL (take_yes h.q ⟨#[59]⟩ (by decide) hi)
        have HR2 := hidLL hR
        clear hi h hg hR
        obtain ⟨va, vc, rfl⟩ := HO.out.sl
        go_upto_region 4 with (first | (go_at_call 80; refine HT.out.mono ?_; rintro e W4 ⟨rfl, hq, hb⟩; have HO4 := hidLL (HO.out.step hb hq (by omega) hne hrp2); clear hq hb) | (go_at_call 39; refine (HD.out _ _ _ HO4.out.q).mono ?_; rintro e W5 hE; rcases hr : needQ L ⟨#[111, 118, 101, 114]⟩ (k3 + 1) n3 with _ | ⟨c, a⟩ | ⟨x5, k5, n5⟩; (· exact absurd hr needQ_not); (· rw [hr] at hE; obtain ⟨hb, ⟨p, rfl⟩⟩ := hE; obtain rfl : R = .bad c a := (by rw [← HR2.out, hr, PR.bind_bad, PR.bind_bad]); exact (show _ ∧ _ from ⟨rfl, (HW2.out.1.2.1.then HO4.out.b (by have := HC1.out; omega)).then (hb.y sp) (by have := HO4.out.le; have := HC1.out; omega), ⟨_, rfl⟩⟩)); rw [hr] at hE; obtain ⟨hb, hq, v, rfl, rfl⟩ := hE; rw [hr, PR.bind_ok] at HR2; have hk5 := needQ_k hr; have HO5 := hidLL (HO4.out.step hb hq (by omega) hne hrp2); clear hb hq hr))
        clear HO HO4 HT
        have HNm := hidLL (fun (V : World) (hb : Below W5.heap.size W5 V) => (name_q (HO5.out.q.below hb)).mono (fun e w' h => QEnd.base (L := L) hb h))
        have y14 := HO5.out.s.at14
        have yf := HO5.out.s.froz
        go_region_law
          (first
            | (go_simp; go_at_call 36; refine (HNm.out _ ?_).mono ?_; (· first | exact Below.refl _ _ | exact (Below.refl _ _).drew | exact belN (Below.refl _ _) _); rintro e W6 hE; rcases hr : nameQ L k5 n5 with _ | ⟨c, a⟩ | ⟨x6, k6, n6⟩; (· exact absurd hr nameQ_not); (· rw [hr] at hE; obtain ⟨hb, ⟨p, rfl⟩⟩ := hE; obtain rfl : R = .bad c a := (by rw [← HR2.out, hr, PR.bind_bad, PR.bind_bad]); exact (show _ ∧ _ from ⟨rfl, (HW2.out.1.2.1.then HO5.out.b (by have := HC1.out; omega)).then (hb.y sp) (by have := HO5.out.le; have := HC1.out; omega), ⟨_, rfl⟩⟩)); rw [hr] at hE; obtain ⟨hb, hq, v, rfl, rfl⟩ := hE; rw [hr, PR.bind_ok] at HR2; have hkk := nameQ_k hr; have HW6 := hidLL (HO5.out.step hb hq (by omega) hne hrp2); have x14 := HW6.out.s.at14; have xf := HW6.out.s.froz; have x14a := (((Below.refl W6.heap.size W6).alloc (Nat.le_refl _) (.cells #[Value.string x6] 9)).cell (p := ⟨sp, 14, none⟩) (show sp < W6.heap.size from HW6.out.s.in)).trans x14; have hle7 := HW6.out.le; have hll := HW6.out.len; have hkl : k6 < 400 := (by have := hq.lt; have := hq.ok.len; omega); clear hb hq hr)
            | (refine step_append_where rfl (.tmp 18) (.tmp 21) 26 rfl c1 9 i0 iz 1 16 Tryz.underlying26 HI.out.1 HI.out.2.1 HI.out.2.2.1 HI.out.2.2.2.1 HI.out.2.2.2.2 (by decide) (.slice va l.length vc) l.length (l.map Value.string) (by first | (simp [Act.eval]; done) | simp [Act.eval, Act.put]) (row_step HW6.out.o fun g _ hl => ((Below.refl _ _).alloc (Nat.le_refl _) _).block g hl) ⟨W6.heap.size, 0, none⟩ 1 1 [.string x6] (by first | (simp [Act.eval]; done) | simp [Act.eval, Act.put]) rfl (oneNewsQ _ _ _) (by intro u hu; simp only [List.mem_cons, List.not_mem_nil, or_false] at hu; rcases hu with rfl; rfl) (by decide) (by unfold maxLen; omega) (by omega) (by simp; omega) ?_
               intro v' W7 ho hg hw
               obtain ⟨va', vc', hv'⟩ := row_any ho
               subst hv'
               have hbs : W7.heap[sp]? = W6.heap[sp]? := (hg.block sp (by simp; omega) (by intro e; have := (HW6.out.o.lt sp e.symm).1; omega)).trans (((Below.refl _ _).alloc (Nat.le_refl _) _).block sp (by omega))
               have w14 := (HW6.out.s.keep hbs).at14
               have wf := (HW6.out.s.keep hbs).froz
               have HW7 := hidLL (HW6.out.push HL.out hB hsp2 (by omega) ho hg)
               clear ho hg hw hbs))
        all_goals (
          obtain ⟨V7, hV7⟩ : ∃ V7, V7 = W7.setCell ⟨sp, 14, none⟩ (.slice va' (l.length + 1) vc') := ⟨_, rfl⟩
          rw [← hV7] at HW7
          first | rw [← hV7] | skip
          have HS7 : Hid (CommaAt L rp tb sp c1 W2 E (fun l k n => (overQ L f' l k n).bind fun o k n => .ok (x1, x2, o) k n) R f' V7) := .mk f' (l ++ [x6]) k6 n6 _ (Nat.le_refl _) HW7.out (by rw [← HR2.out]; exact (PR.bind_assoc _ _ _).symm)
          clear hV7 y14 yf x14 xf x14a w14 wf HW7 HW6 HO5 HNm HR2
          go_wp2_with fail
          go_loopg [] f' (fun g wr => CommaAt L rp tb sp c1 W2 E (fun l k n => (overQ L f' l k n).bind fun o k n => .ok (x1, x2, o) k n) R g wr)
          case atStart => exact HS7.out
          case round =>
            clear HS7
            cases hrel with
            | mk f2 l k3 n3 v hg h hR =>
            have hk400' : k3 < 400 := by have := h.q.lt; have := h.q.ok.len; omega
            have hlk' := h.len
            cases f2 with
            | zero => exact absurd (hR.symm.trans (by rw [commaQ]; rfl)) HNo.out
            | succ f2 =>
              rw [commaQ] at hR
              have HG2 := hidLL hg
              have HO := hidLL h
              cases hi : isQ L ⟨#[44]⟩ k3 with
              | false =>
                rw [hi, if_neg (by simp), PR.bind_ok] at hR
                have HT := hidLL (take_no h.q ⟨#[44]⟩ hi)
                have HR2 := hidLL hR
                clear hi h hg hR
                go_wp2_with (go_at_call 80; refine HT.out.mono ?_; rintro e W4 ⟨rfl, rfl⟩)
                go_roundg f'
                case rel => exact .mk f' l k3 n3 v (Nat.le_refl _) HO.out HR2.out
                case measure => have := HG.out; omega
              | true =>
                rw [hi, if_pos rfl] at hR
                have HT := hidLL (take_yes h.q ⟨#[44]⟩ (by decide) hi)
                have HR2 := hidLL hR
                clear hi h hg hR
                obtain ⟨va, vc, rfl⟩ := HO.out.sl
                go_upto_region 6 with (go_at_call 80; refine HT.out.mono ?_; rintro e W4 ⟨rfl, hq, hb⟩; have HO4 := hidLL (HO.out.step hb hq (by omega) hne hrp2); clear hq hb)
                clear HO HT
                have HNm := hidLL (fun (V : World) (hb : Below W4.heap.size W4 V) => (name_q (HO4.out.q.below hb)).mono (fun e w' h => QEnd.base (L := L) hb h))
                have y14 := HO4.out.s.at14
                have yf := HO4.out.s.froz
                go_region_law
                  (first
                    | (go_simp; go_at_call 36; refine (HNm.out _ ?_).mono ?_; (· first | exact Below.refl _ _ | exact (Below.refl _ _).drew | exact belN (Below.refl _ _) _); rintro e W6 hE; rcases hr : nameQ L (k3 + 1) n3 with _ | ⟨c, a⟩ | ⟨x6, k6, n6⟩; (· exact absurd hr nameQ_not); (· rw [hr] at hE; obtain ⟨hb, ⟨p, rfl⟩⟩ := hE; obtain rfl : R = .bad c a := (by rw [← HR2.out, hr, PR.bind_bad, PR.bind_bad]); exact (show _ ∧ _ from ⟨rfl, (HW2.out.1.2.1.then HO4.out.b (by have := HC1.out; omega)).then (hb.y sp) (by have := HO4.out.le; have := HC1.out; omega), ⟨_, rfl⟩⟩)); rw [hr] at hE; obtain ⟨hb, hq, v, rfl, rfl⟩ := hE; rw [hr, PR.bind_ok] at HR2; have hkk := nameQ_k hr; have HW6 := hidLL (HO4.out.step hb hq (by omega) hne hrp2); have x14 := HW6.out.s.at14; have xf := HW6.out.s.froz; have x14a := (((Below.refl W6.heap.size W6).alloc (Nat.le_refl _) (.cells #[Value.string x6] 9)).cell (p := ⟨sp, 14, none⟩) (show sp < W6.heap.size from HW6.out.s.in)).trans x14; have hle7 := HW6.out.le; have hll := HW6.out.len; have hkl : k6 < 400 := (by have := hq.lt; have := hq.ok.len; omega); clear hb hq hr)
                    | (refine step_append_where rfl (.tmp 31) (.tmp 34) 26 rfl c1 9 i0 iz 1 16 Tryz.underlying26 HI.out.1 HI.out.2.1 HI.out.2.2.1 HI.out.2.2.2.1 HI.out.2.2.2.2 (by decide) (.slice va l.length vc) l.length (l.map Value.string) (by first | (simp [Act.eval]; done) | simp [Act.eval, Act.put]) (row_step HW6.out.o fun g _ hl => ((Below.refl _ _).alloc (Nat.le_refl _) _).block g hl) ⟨W6.heap.size, 0, none⟩ 1 1 [.string x6] (by first | (simp [Act.eval]; done) | simp [Act.eval, Act.put]) rfl (oneNewsQ _ _ _) (by intro u hu; simp only [List.mem_cons, List.not_mem_nil, or_false] at hu; rcases hu with rfl; rfl) (by decide) (by unfold maxLen; omega) (by omega) (by simp; omega) ?_
                       intro v' W7 ho hg hw
                       obtain ⟨va', vc', hv'⟩ := row_any ho
                       subst hv'
                       have hbs : W7.heap[sp]? = W6.heap[sp]? := (hg.block sp (by simp; omega) (by intro e; have := (HW6.out.o.lt sp e.symm).1; omega)).trans (((Below.refl _ _).alloc (Nat.le_refl _) _).block sp (by omega))
                       have w14 := (HW6.out.s.keep hbs).at14
                       have wf := (HW6.out.s.keep hbs).froz
                       have HW7 := hidLL (HW6.out.push HL.out hB hsp2 (by omega) ho hg)
                       clear ho hg hw hbs))
                all_goals (
                  go_wp2
                  go_roundg f2
                  case rel => exact .mk f2 (l ++ [x6]) k6 n6 _ (Nat.le_refl _) HW7.out HR2.out
                  case measure => have := HG2.out; omega))
end Go.Proofs.YtehbinobohjadaaGreatDoor
