/-
  The reference's parser: oneOf, hundredths.
-/
import Derived.Test.YtehbinobohjadaaGreatDoorBk04
import Derived.Test.YtehbinobohjadaaGreatDoorBk00
import Derived.Lib.Bytes
import Derived.WalkLawsBesides
import Derived.Deep.LoopGhost
import Derived.BigQuiet
namespace Go.Proofs.YtehbinobohjadaaGreatDoor
open Go.RowKit Go.Extern.Stop Go.Stop Go.Extern

end Go.Proofs.YtehbinobohjadaaGreatDoor
namespace Go.Proofs.YtehbinobohjadaaGreatDoor
open Go.RowKit Go.Extern.Stop Go.Stop Go.Extern

theorem drop_get (s : ByteArray) (i : Nat) (h : i < s.size) : s.data.toList.drop i = s[i] :: s.data.toList.drop (i + 1) := by
  have h1 : i < s.data.toList.length := by simpa using h
  rw [List.drop_eq_getElem_cons h1]
  congr 1
structure HunAt (s : ByteArray) (i m : Nat) (p : Int) : Prop where
  eq : hunGo (s.data.toList.drop i) m (decide (0 ≤ p)) = hunGo s.data.toList 0 false
  lt : m < 10 ^ i
  lo : -1 ≤ p
  hi : p ≤ i
theorem HunAt.point {s : ByteArray} {i m : Nat} {p : Int} (h : HunAt s i m p) (hi : i < s.size) (hc : s[i].toNat = 46) : HunAt s (i + 1) m 0 := by
  refine ⟨?_, Nat.lt_of_lt_of_le h.lt (Nat.pow_le_pow_right (by omega) (by omega)), by omega, by omega⟩
  have h1 := h.eq
  rw [drop_get s i hi, hunGo, if_pos (by apply UInt8.toNat_inj.1; rw [hc]; rfl)] at h1
  exact h1
end Go.Proofs.YtehbinobohjadaaGreatDoor
namespace Go.Proofs.YtehbinobohjadaaGreatDoor
open Go.RowKit Go.Extern.Stop Go.Stop Go.Extern

section
variable {L : List Tok} {bp tb cp : Nat} {w : World} {α : Type} {r : PR α} {V : α → Prop}
theorem PSt.below {w' : World} (h : PSt L bp tb cp w r V) (hb : Below w.heap.size w w') : PSt L bp tb cp w' r V := by
  cases r with
  | out => exact trivial
  | bad c a => exact PBad.below h hb
  | ok x k n => exact ⟨h.1.below hb, h.2⟩
theorem PSt.to {V' : α → Prop} (h : PSt L bp tb cp w r V) (hv : ∀ x k n, r = .ok x k n → V x → V' x) : PSt L bp tb cp w r V' := by
  cases r with
  | out => exact trivial
  | bad c a => exact h
  | ok x k n => exact ⟨h.1, hv x k n rfl h.2⟩
end
end Go.Proofs.YtehbinobohjadaaGreatDoor
namespace Go.Proofs.YtehbinobohjadaaGreatDoor
open Go.RowKit Go.Extern.Stop Go.Stop Go.Extern

/-- A node lies in memory, all its rows in blocks of a kind. -/
inductive NL (w : World) (P : Nat → Prop) : (Nat → Value) → Nd → Prop
  | mk (v : Nat → Value) (t : Nd) (ka : Option Addr) (kc : Nat) (V : Nat → Nat → Value)
    (h0 : v 0 = .string t.kind) (h1 : v 1 = .string t.word) (h2 : v 2 = .int .i64 t.num) (h3 : v 3 = .slice ka t.kids.length kc)
    (hk : ∀ i, i < t.kids.length → ∃ b o, ka = some ⟨b, o, none⟩ ∧ P b ∧ ∀ c, c < 4 → w.cell? ⟨b, o + i * 4 + c, none⟩ = some (V i c))
    (hr : ∀ i k, t.kids[i]? = some k → NL w P (V i) k) (hc : t.kids.length ≤ kc) : NL w P v t
theorem NL.step {w w' : World} {P P' : Nat → Prop} {v : Nat → Value} {t : Nd} (h : NL w P v t) : (∀ b, b < w.heap.size → P b → w'.heap[b]? = w.heap[b]? ∧ P' b) → NL w' P' v t := by
  induction h with
  | mk v t ka kc V h0 h1 h2 h3 hk hr hc ih =>
    intro hb
    refine .mk v t ka kc V h0 h1 h2 h3 (fun i hi => ?_) (fun i k e => ih i k e hb) hc
    obtain ⟨b, o, e, p, c⟩ := hk i hi
    have h9 := hb b (cell_lt (c 0 (by omega))) p
    exact ⟨b, o, e, h9.2, fun q hq => (World.cell?_of_block (a := ⟨b, o + i * 4 + q, none⟩) h9.1).trans (c q hq)⟩
/-- The values of a node, laid out. -/
def nv (a b c d : Value) : Nat → Value
  | 0 => a
  | 1 => b
  | 2 => c
  | _ => d
theorem NL.leaf (w : World) (P : Nat → Prop) (k s : ByteArray) (n : Nat) : NL w P (nv (.string k) (.string s) (.int .i64 n) (.slice none 0 0)) (.mk k s n []) :=
  .mk _ _ none 0 (fun _ _ => .nilIface) rfl rfl rfl rfl (fun i hi => absurd hi (Nat.not_lt_zero _)) (fun i k e => by cases e) (Nat.le_refl _)
/-- A node with one kid, its row a block. -/
theorem NL.one {w : World} {P : Nat → Prop} {g : Nat} {a : Nat → Value} {x : Nd} (h : NL w P a x) (hg : P g) (hc : ∀ c, c < 4 → w.cell? ⟨g, c, none⟩ = some (a c)) (k s : ByteArray) (n : Nat) : NL w P (nv (.string k) (.string s) (.int .i64 n) (.slice (some ⟨g, 0, none⟩) 1 1)) (.mk k s n [x]) := by
  refine .mk _ _ (some ⟨g, 0, none⟩) 1 (fun _ => a) rfl rfl rfl rfl (fun i hi => ⟨g, 0, rfl, hg, fun c hc' => ?_⟩) (fun i k e => ?_) (Nat.le_refl _)
  · have hi : i < 1 := hi
    obtain rfl : i = 0 := by omega
    simpa using hc c hc'
  · match i, e with
    | 0, e => injection e with e; subst e; exact h
    | _ + 1, e => cases e
theorem NL.two {w : World} {P : Nat → Prop} {g : Nat} {a b : Nat → Value} {x y : Nd} (h : NL w P a x) (h' : NL w P b y) (hg : P g) (hc : ∀ c, c < 4 → w.cell? ⟨g, c, none⟩ = some (a c)) (hc' : ∀ c, c < 4 → w.cell? ⟨g, 4 + c, none⟩ = some (b c)) (k s : ByteArray) (n : Nat) : NL w P (nv (.string k) (.string s) (.int .i64 n) (.slice (some ⟨g, 0, none⟩) 2 2)) (.mk k s n [x, y]) := by
  refine .mk _ _ (some ⟨g, 0, none⟩) 2 (fun i => if i = 0 then a else b) rfl rfl rfl rfl (fun i hi => ⟨g, 0, rfl, hg, fun c hq => ?_⟩) (fun i k e => ?_) (Nat.le_refl _)
  · have hi : i < 2 := hi
    rcases (show i = 0 ∨ i = 1 by omega) with rfl | rfl
    · simpa using hc c hq
    · simpa using hc' c hq
  · match i, e with
    | 0, e => injection e with e; subst e; exact h
    | 1, e => injection e with e; subst e; exact h'
    | _ + 2, e => cases e
theorem PR.bind_eq {α β : Type} {r : PR α} {f : α → Nat → Nat → PR β} {y : β} {k n : Nat} (h : r.bind f = .ok y k n) : ∃ x k' n', r = .ok x k' n' ∧ f x k' n' = .ok y k n := by
  cases r with
  | out => cases h
  | bad c a => cases h
  | ok x k' n' => exact ⟨x, k', n', rfl, h⟩
/-- How deep it is stays, whatever is read. -/
structure SameN (L : List Tok) (f : Nat) : Prop where
  ei : ∀ k n x k' n', eitherP L f k n = .ok x k' n' → n' = n
  ol : ∀ y k n x k' n', orLoop L f y k n = .ok x k' n' → n' = n
  bo : ∀ k n x k' n', bothP L f k n = .ok x k' n' → n' = n
  al : ∀ y k n x k' n', andLoop L f y k n = .ok x k' n' → n' = n
  un : ∀ k n x k' n', unlessP L f k n = .ok x k' n' → n' = n
  te : ∀ k n x k' n', testP L f k n = .ok x k' n' → n' = n
  su : ∀ k n x k' n', sumP L f k n = .ok x k' n' → n' = n
  sl : ∀ y k n x k' n', sumLoop L f y k n = .ok x k' n' → n' = n
  pa : ∀ k n x k' n', partP L f k n = .ok x k' n' → n' = n
  pl : ∀ y k n x k' n', partLoop L f y k n = .ok x k' n' → n' = n
  fa : ∀ k n x k' n', factorP L f k n = .ok x k' n' → n' = n
end Go.Proofs.YtehbinobohjadaaGreatDoor
namespace Go.Proofs.YtehbinobohjadaaGreatDoor
open Go.RowKit Go.Extern.Stop Go.Stop Go.Extern

def kN : TK → Nat
  | .b => 0
  | .w => 1
  | .n => 2
  | .s => 3
  | .e => 4
def tokQ (t : Tok) : Nat → Value
  | 0 => .int .i64 (kN t.kind)
  | 1 => .string t.text
  | _ => .int .i64 t.pos
/-- A number's text: digits, and perhaps a point and two digits. -/
def NumForm (s : ByteArray) : Prop := s.size ≤ 400 ∧ ∃ ds : List UInt8, (∀ c, c ∈ ds → numC c = true) ∧ (s.data.toList = ds ∨ ∃ a b, numC a = true ∧ numC b = true ∧ s.data.toList = ds ++ [46, a, b])
/-- The tokens of a line: the last one, and it alone, is the end, and has no text. -/
structure LOk (L : List Tok) : Prop where
  len : L.length ≤ 400
  last : ∀ (i : Nat) (t : Tok), L[i]? = some t → (i + 1 = L.length ↔ t.text.size = 0)
  lastE : ∀ (i : Nat) (t : Tok), L[i]? = some t → (i + 1 = L.length ↔ t.kind = TK.e)
  num : ∀ (i : Nat) (t : Tok), L[i]? = some t → t.kind = TK.n → NumForm t.text
/-- The reader lies in block rp, its tokens in tb: at token k, n deep. -/
structure QS (L : List Tok) (rp tb : Nat) (w : World) (k n : Nat) : Prop where
  blk : ∃ m c, m + k = L.length ∧ m ≤ c ∧ w.heap[rp]? = some (.cells #[.slice (some ⟨tb, k * 3, none⟩) m c, .int .i64 n] 62 (0, 0))
  tok : ∀ i t, L[i]? = some t → ∀ c, c < 3 → w.cell? ⟨tb, i * 3 + c, none⟩ = some (tokQ t c)
  ne : tb ≠ rp
  lt : k < L.length
  nd : n ≤ 40
  ok : LOk L
  gT : ∃ p, w.cell? ⟨1, 0, none⟩ = some (.iface 189 (.pointer (some p)))
  gB : ∃ p, w.cell? ⟨0, 0, none⟩ = some (.iface 189 (.pointer (some p)))
  gM : ∃ m, w.cell? ⟨12, 0, none⟩ = some (.int .i64 m)
  gr : rp ≠ 1 ∧ rp ≠ 0 ∧ rp ≠ 12
/-- All that the reader stands on lies below B. -/
structure Lows (rp tb B : Nat) : Prop where
  r : rp < B
  t : tb < B
  g : 1 < B
  b : 0 < B
  m : 12 < B
theorem Lows.mono {rp tb B C : Nat} (h : Lows rp tb B) (hB : B ≤ C) : Lows rp tb C := ⟨Nat.lt_of_lt_of_le h.r hB, Nat.lt_of_lt_of_le h.t hB, Nat.lt_of_lt_of_le h.g hB, Nat.lt_of_lt_of_le h.b hB, Nat.lt_of_lt_of_le h.m hB⟩
theorem QS.in {L : List Tok} {rp tb : Nat} {w : World} {k n : Nat} (h : QS L rp tb w k n) : rp < w.heap.size := by
  obtain ⟨m, c, _, _, h1⟩ := h.blk
  rcases Nat.lt_or_ge rp w.heap.size with h2 | h2
  · exact h2
  · rw [Array.getElem?_eq_none h2] at h1; cases h1
theorem QS.cells {L : List Tok} {rp tb : Nat} {w : World} {k n : Nat} (h : QS L rp tb w k n) : ∃ m c, m + k = L.length ∧ 1 ≤ m ∧ m ≤ c ∧ m ≤ 400 ∧ w.cell? ⟨rp, 0, none⟩ = some (.slice (some ⟨tb, k * 3, none⟩) m c) ∧ w.cell? ⟨rp, 1, none⟩ = some (.int .i64 n) ∧ ∀ i, w.frozen? ⟨rp, i, none⟩ = false := by
  obtain ⟨m, c, hm, hc, h1⟩ := h.blk
  have := h.lt
  have := h.ok.len
  exact ⟨m, c, hm, by omega, hc, by omega, by simp [World.cell?, h1], by simp [World.cell?, h1], by simp [World.frozen?, h1]⟩
theorem QS.tokens {L : List Tok} {rp tb : Nat} {w : World} {k n : Nat} (h : QS L rp tb w k n) :
    w.cell? ⟨tb, k * 3, none⟩ = some (.int .i64 (kN (tokAt L k).kind)) ∧ w.cell? ⟨tb, k * 3 + 1, none⟩ = some (.string (tokAt L k).text) ∧ w.cell? ⟨tb, k * 3 + 2, none⟩ = some (.int .i64 (tokAt L k).pos) := by
  have h1 := h.tok k _ (tokAt_get h.lt)
  exact ⟨h1 0 (by omega), h1 1 (by omega), h1 2 (by omega)⟩
theorem QS.tin {L : List Tok} {rp tb : Nat} {w : World} {k n : Nat} (h : QS L rp tb w k n) : tb < w.heap.size := cell_lt h.tokens.1
theorem QS.lows {L : List Tok} {rp tb : Nat} {w : World} {k n : Nat} (h : QS L rp tb w k n) : Lows rp tb w.heap.size := by
  obtain ⟨p, h1⟩ := h.gT
  obtain ⟨q, h2⟩ := h.gB
  obtain ⟨mm, h9⟩ := h.gM
  exact ⟨h.in, h.tin, cell_lt h1, cell_lt h2, cell_lt h9⟩
theorem QS.turn {L : List Tok} {rp tb : Nat} {w w' : World} {k n : Nat} (h : QS L rp tb w k n) (hb : BelX w.heap.size rp w w') {k' n' : Nat} (hk : k' < L.length) (hn : n' ≤ 40)
    (hc : ∃ m c, m + k' = L.length ∧ m ≤ c ∧ w'.heap[rp]? = some (.cells #[.slice (some ⟨tb, k' * 3, none⟩) m c, .int .i64 n'] 62 (0, 0))) : QS L rp tb w' k' n' := by
  obtain ⟨p, h1⟩ := h.gT
  obtain ⟨q, h2⟩ := h.gB
  obtain ⟨mm, h9⟩ := h.gM
  exact ⟨hc, fun i t e c hc => (hb.cell (p := ⟨tb, i * 3 + c, none⟩) h.tin h.ne).trans (h.tok i t e c hc), h.ne, hk, hn, h.ok, ⟨p, (hb.cell (p := ⟨1, 0, none⟩) h.lows.g (fun e => h.gr.1 e.symm)).trans h1⟩, ⟨q, (hb.cell (p := ⟨0, 0, none⟩) h.lows.b (fun e => h.gr.2.1 e.symm)).trans h2⟩, ⟨mm, (hb.cell (p := ⟨12, 0, none⟩) h.lows.m (fun e => h.gr.2.2 e.symm)).trans h9⟩, h.gr⟩
/-- What changes nothing of what the reader stands on leaves it. -/
theorem QS.keep {L : List Tok} {rp tb : Nat} {w w' : World} {k n B : Nat} (h : QS L rp tb w k n) (lo : Lows rp tb B) (hb : ∀ b, b < B → w'.heap[b]? = w.heap[b]?) : QS L rp tb w' k n := by
  obtain ⟨m, c, h3, h4, h5⟩ := h.blk
  obtain ⟨p, h1⟩ := h.gT
  obtain ⟨q, h2⟩ := h.gB
  obtain ⟨mm, h9⟩ := h.gM
  exact ⟨⟨m, c, h3, h4, (hb rp lo.r).trans h5⟩, fun i t e c hc => (World.cell?_of_block (a := ⟨tb, i * 3 + c, none⟩) (hb tb lo.t)).trans (h.tok i t e c hc), h.ne, h.lt, h.nd, h.ok, ⟨p, (World.cell?_of_block (a := ⟨1, 0, none⟩) (hb _ lo.g)).trans h1⟩, ⟨q, (World.cell?_of_block (a := ⟨0, 0, none⟩) (hb _ lo.b)).trans h2⟩, ⟨mm, (World.cell?_of_block (a := ⟨12, 0, none⟩) (hb _ lo.m)).trans h9⟩, h.gr⟩
theorem QS.below {L : List Tok} {rp tb : Nat} {w w' : World} {k n : Nat} (h : QS L rp tb w k n) (hb : Below w.heap.size w w') : QS L rp tb w' k n := h.keep h.lows fun b h1 => hb.block b h1
theorem QS.more {L : List Tok} {rp tb : Nat} {w : World} {k n : Nat} (h : QS L rp tb w k n) (hs : (tokAt L k).text.size ≠ 0) : k + 1 < L.length := by
  have h1 := h.ok.last k _ (tokAt_get h.lt)
  have := h.lt
  omega
theorem QS.moreK {L : List Tok} {rp tb : Nat} {w : World} {k n : Nat} (h : QS L rp tb w k n) (hs : (tokAt L k).kind ≠ .e) : k + 1 < L.length := by
  have h1 := h.ok.lastE k _ (tokAt_get h.lt)
  have := h.lt
  rcases Nat.lt_or_ge (k + 1) L.length with h2 | h2
  · exact h2
  · exact absurd (h1.1 (by omega)) hs
theorem isQ_size {L : List Tok} {s : ByteArray} {k : Nat} (h : isQ L s k = true) (hs : s.size ≠ 0) : (tokAt L k).text.size ≠ 0 := by
  unfold isQ eqB at h
  have h1 : (tokAt L k).text.toList = s.toList := by simpa using h
  have h2 := congrArg List.length h1
  simp only [Lib.toList_data, Array.length_toList] at h2
  show (tokAt L k).text.data.size ≠ 0
  rw [h2]; exact hs
/-- What was thrown. -/
def Thr (e : Ending) : Prop := ∃ p, e = .panicked [{ v := .iface 88 (.agg #[.iface 55 (.pointer (some p))]), recovered := false }]
/-- What a step says: a fault is thrown; or an answer, and the state behind it. -/
def QEnd (L : List Tok) (rp tb : Nat) (w : World) {α : Type} (r : PR α) (V : α → Value → World → Prop) (e : Ending) (w' : World) : Prop :=
  BelX w.heap.size rp w w' ∧ match r with
    | .out => True
    | .bad _ _ => Thr e
    | .ok x k n => QS L rp tb w' k n ∧ ∃ v, e = .returned v ∧ V x v w'
end Go.Proofs.YtehbinobohjadaaGreatDoor
namespace Go.Proofs.YtehbinobohjadaaGreatDoor
open Go.RowKit Go.Extern.Stop Go.Stop Go.Extern

theorem is_q {L : List Tok} {rp tb : Nat} {w : World} {k n : Nat} (h : QS L rp tb w k n) (s : ByteArray) :
    Calls Tryz.prog 118 #[.pointer (some ⟨rp, 0, none⟩), .string s] w fun e w' => e = .returned (.bool (isQ L s k)) ∧ w' = w := by
  obtain ⟨m, c, hm, h1, hc, h4, x0, x1, xf⟩ := h.cells
  obtain ⟨y0, y1, y2⟩ := h.tokens
  have hO : Hid (isQ L s k = ((tokAt L k).text.toList == s.toList)) := rfl
  clear h
  generalize isQ L s k = O at *
  generalize (tokAt L k).text = K1 at *
  go_enter Tryz.func118, Tryz.ntmps118
  go_wp2
  go_ret
  exact ⟨retB hO.out.symm, rfl⟩
theorem throw_q (t : Nat) (p : Addr) (w : World) :
    Calls Tryz.prog 50 #[.iface t (.pointer (some p))] w fun e w' => e = .panicked [{ v := .iface 88 (.agg #[.iface t (.pointer (some p))]), recovered := false }] ∧ w' = w := by
  go_enter Tryz.func50, Tryz.ntmps50
  go_wp2
  exact ⟨rfl, rfl, rfl⟩
theorem wrong_q {L : List Tok} {rp tb : Nat} {w : World} {k n : Nat} (h : QS L rp tb w k n) (t : Nat) (p : Addr) :
    Calls Tryz.prog 44 #[.pointer (some ⟨rp, 0, none⟩), .iface t (.pointer (some p))] w fun e w' => Thr e ∧ Below w.heap.size w w' := by
  obtain ⟨m, c, hm, h1, hc, h4, x0, x1, xf⟩ := h.cells
  obtain ⟨y0, y1, y2⟩ := h.tokens
  clear h
  generalize (tokAt L k).pos = K1 at *
  go_enter Tryz.func44, Tryz.ntmps44
  go_wp2_with (go_at_call 50; refine (throw_q _ _ _).mono ?_; rintro e w' ⟨rfl, rfl⟩)
  exact ⟨rfl, ⟨_, rfl⟩, (Below.refl _ _).alloc (Nat.le_refl _) _⟩
theorem skip_q {L : List Tok} {rp tb : Nat} {w : World} {k n : Nat} (h : QS L rp tb w k n) (hk : k + 1 < L.length) :
    Calls Tryz.prog 35 #[.pointer (some ⟨rp, 0, none⟩)] w fun e w' => e = .returned (.string (tokAt L k).text) ∧ QS L rp tb w' (k + 1) n ∧ BelX w.heap.size rp w w' := by
  obtain ⟨m, c, hm, hc, hblk⟩ := h.blk
  obtain ⟨x0, x1, xf⟩ : w.cell? ⟨rp, 0, none⟩ = some (.slice (some ⟨tb, k * 3, none⟩) m c) ∧ w.cell? ⟨rp, 1, none⟩ = some (.int .i64 n) ∧ ∀ i, w.frozen? ⟨rp, i, none⟩ = false := ⟨by simp [World.cell?, hblk], by simp [World.cell?, hblk], by simp [World.frozen?, hblk]⟩
  have hl4 := h.ok.len
  have h2 : 2 ≤ m := by omega
  have h4 : m ≤ 400 := by omega
  obtain ⟨y0, y1, y2⟩ := h.tokens
  have HP := hidLL (And.intro h hblk)
  clear h hblk
  generalize (tokAt L k).text = K1 at *
  go_enter Tryz.func35, Tryz.ntmps35
  go_wp2
  go_ret
  have hb : BelX w.heap.size rp w (w.setCell ⟨rp, 0, none⟩ (.slice (some ⟨tb, k * 3 + 3, none⟩) (m - 1) (c - 1))) := (BelX.refl w.heap.size rp w).setCell (p := ⟨rp, 0, none⟩) (.inr rfl) _
  refine ⟨rfl, HP.out.1.turn hb hk HP.out.1.nd ⟨m - 1, c - 1, by omega, by omega, ?_⟩, hb⟩
  rw [heap_set HP.out.2 _, show (k + 1) * 3 = k * 3 + 3 by omega]
  simp
theorem take_q {L : List Tok} {rp tb : Nat} {w : World} {k n : Nat} (h : QS L rp tb w k n) (s : ByteArray) (hs : s.size ≠ 0) :
    Calls Tryz.prog 80 #[.pointer (some ⟨rp, 0, none⟩), .string s] w fun e w' => e = .returned (.bool (isQ L s k)) ∧ QS L rp tb w' (if isQ L s k = true then k + 1 else k) n ∧ BelX w.heap.size rp w w' := by
  have HI := hidLL (is_q h s)
  cases hi : isQ L s k with
  | false =>
    have HP := hidLL h
    rw [hi] at HI
    clear h hi
    go_enter Tryz.func80, Tryz.ntmps80
    go_wp2_with (go_at_call 118; refine HI.out.mono ?_; rintro e w' ⟨rfl, rfl⟩)
    go_ret
    exact ⟨rfl, HP.out, BelX.refl _ _ _⟩
  | true =>
    have HS := hidLL (skip_q h (h.more (isQ_size hi hs)))
    rw [hi] at HI
    clear h hi
    generalize (tokAt L k).text = K1 at *
    go_enter Tryz.func80, Tryz.ntmps80
    go_wp2_with (first | (go_at_call 118; refine HI.out.mono ?_; rintro e w' ⟨rfl, rfl⟩) | (go_at_call 35; refine HS.out.mono ?_; rintro e w' ⟨rfl, hq, hb⟩; have HQ := hidLL (And.intro hq hb); clear hq hb))
    go_ret
    exact ⟨rfl, HQ.out.1, HQ.out.2⟩
theorem need_q {L : List Tok} {rp tb : Nat} {w : World} {k n : Nat} (h : QS L rp tb w k n) (s : ByteArray) (hs : s.size ≠ 0) :
    Calls Tryz.prog 39 #[.pointer (some ⟨rp, 0, none⟩), .string s] w fun e w' => QEnd L rp tb w (needQ L s k n) (fun _ v _ => v = .tuple #[]) e w' := by
  have HT := hidLL (take_q h s hs)
  unfold needQ
  cases hi : isQ L s k with
  | true =>
    rw [hi, if_pos rfl] at HT
    rw [if_pos rfl]
    clear h hi
    go_enter Tryz.func39, Tryz.ntmps39
    go_wp2_with (go_at_call 80; refine HT.out.mono ?_; rintro e w' ⟨rfl, hq, hb⟩; have HQ := hidLL (And.intro hq hb); clear hq hb)
    go_end0
    exact ⟨HQ.out.2, HQ.out.1, _, rfl, rfl⟩
  | false =>
    rw [hi, if_neg (by simp)] at HT
    rw [if_neg (by simp)]
    have HW := hidLL (fun (W : World) (hq : QS L rp tb W k n) => wrong_q hq 189)
    clear h hi
    go_enter Tryz.func39, Tryz.ntmps39
    go_wp2_with (first | (go_at_call 80; refine HT.out.mono ?_; rintro e w' ⟨rfl, hq, hb⟩; have HQ := hidLL (And.intro hq hb); obtain ⟨pt, gt⟩ := hq.gT; clear hq hb) | (go_at_call 44; refine (HW.out _ HQ.out.1 _).mono ?_; rintro e w' ⟨⟨p, rfl⟩, hb⟩; have HB := hidLL hb; clear hb))
    exact ⟨rfl, HQ.out.2.then (Below.x HB.out _ (Nat.le_refl _)) HQ.out.2.size, ⟨_, rfl⟩⟩
theorem enter_q {L : List Tok} {rp tb : Nat} {w : World} {k n : Nat} (h : QS L rp tb w k n) (hk : k + 1 < L.length) :
    Calls Tryz.prog 141 #[.pointer (some ⟨rp, 0, none⟩)] w fun e w' => QEnd L rp tb w (enterQ L k n) (fun x v _ => v = .string x) e w' := by
  obtain ⟨m, c, hm, hc, hblk⟩ := h.blk
  obtain ⟨x0, x1, xf⟩ : w.cell? ⟨rp, 0, none⟩ = some (.slice (some ⟨tb, k * 3, none⟩) m c) ∧ w.cell? ⟨rp, 1, none⟩ = some (.int .i64 n) ∧ ∀ i, w.frozen? ⟨rp, i, none⟩ = false := ⟨by simp [World.cell?, hblk], by simp [World.cell?, hblk], by simp [World.frozen?, hblk]⟩
  obtain ⟨pt, gt⟩ := h.gT
  obtain ⟨pb, gb⟩ := h.gB
  have hn := h.nd
  unfold enterQ
  by_cases h40 : n = 40
  · have HW := hidLL (fun (W : World) (hq : QS L rp tb W k n) => wrong_q hq 189)
    have HP := hidLL h
    rw [if_pos h40]
    have hz : ((n : Int) == 40) = true := by rw [h40]; rfl
    clear h hblk
    go_enter Tryz.func141, Tryz.ntmps141
    go_wp2_with (go_at_call 44; refine (HW.out _ HP.out _).mono ?_; rintro e w' ⟨⟨p, rfl⟩, hb⟩; have HB := hidLL hb; clear hb)
    exact ⟨rfl, Below.x HB.out _ (Nat.le_refl _), ⟨_, rfl⟩⟩
  · have hz : ((n : Int) == 40) = false := by rw [beq_eq_false_iff_ne]; omega
    rw [if_neg h40]
    have hb : BelX w.heap.size rp w (w.setCell ⟨rp, 1, none⟩ (.int .i64 ((n : Int) + 1))) := (BelX.refl w.heap.size rp w).setCell (p := ⟨rp, 1, none⟩) (.inr rfl) _
    have hq1 : QS L rp tb (w.setCell ⟨rp, 1, none⟩ (.int .i64 ((n : Int) + 1))) k (n + 1) := h.turn hb h.lt (by omega) ⟨m, c, hm, hc, by rw [heap_set hblk _]; simp⟩
    have HS := hidLL (skip_q hq1 hk)
    have HB := hidLL hb
    generalize hW : w.setCell ⟨rp, 1, none⟩ (.int .i64 ((n : Int) + 1)) = W at *
    have HX := hidLL hW
    clear h hblk hq1 hb hW
    generalize (tokAt L k).text = K1 at *
    go_enter Tryz.func141, Tryz.ntmps141
    go_wp2_with (go_at_call 35; rw [HX.out]; refine HS.out.mono ?_; rintro e w' ⟨rfl, hq, hb⟩; have HQ := hidLL (And.intro hq hb); clear hq hb)
    go_ret
    exact ⟨HB.out.then HQ.out.2 HB.out.size, HQ.out.1, _, rfl, rfl⟩
theorem dec_wrap {n : Nat} (h1 : 1 ≤ n) (h2 : n ≤ 40) : wrap64 ((n : Int) - 1) = ((n - 1 : Nat) : Int) := by
  unfold wrap64
  omega
theorem QS.dec {L : List Tok} {rp tb : Nat} {w : World} {k n : Nat} (h : QS L rp tb w k n) (hn : 1 ≤ n) : QS L rp tb (w.setCell ⟨rp, 1, none⟩ (.int .i64 (wrap64 ((n : Int) - 1)))) k (n - 1) ∧ BelX w.heap.size rp w (w.setCell ⟨rp, 1, none⟩ (.int .i64 (wrap64 ((n : Int) - 1)))) := by
  obtain ⟨m, c, hm, hc, hblk⟩ := h.blk
  have hb : BelX w.heap.size rp w (w.setCell ⟨rp, 1, none⟩ (.int .i64 (wrap64 ((n : Int) - 1)))) := (BelX.refl w.heap.size rp w).setCell (p := ⟨rp, 1, none⟩) (.inr rfl) _
  have := h.nd
  refine ⟨h.turn hb h.lt (by omega) ⟨m, c, hm, hc, ?_⟩, hb⟩
  rw [heap_set hblk _, dec_wrap hn h.nd]
  simp
theorem leave_q {L : List Tok} {rp tb : Nat} {w : World} {k n : Nat} (h : QS L rp tb w k n) (s : ByteArray) (hs : s.size ≠ 0) (hn : 1 ≤ n) :
    Calls Tryz.prog 151 #[.pointer (some ⟨rp, 0, none⟩), .string s] w fun e w' => QEnd L rp tb w (leaveQ L s k n) (fun _ v _ => v = .tuple #[]) e w' := by
  have HN := hidLL (need_q h s hs)
  unfold leaveQ
  cases hr : needQ L s k n with
  | out => exact absurd hr (by unfold needQ; split <;> (intro h; cases h))
  | bad c a =>
    rw [hr] at HN
    clear h hr
    rw [PR.bind_bad]
    go_enter Tryz.func151, Tryz.ntmps151
    go_wp2_with (go_at_call 39; refine HN.out.mono ?_; rintro e w' ⟨hb, ⟨p, rfl⟩⟩; have HB := hidLL hb; clear hb)
    exact ⟨rfl, HB.out, ⟨_, rfl⟩⟩
  | ok x k1 n1 =>
    have hn1 : n1 = n := by
      unfold needQ at hr
      split at hr
      · injection hr with _ _ h; exact h.symm
      · cases hr
    subst hn1
    rw [hr] at HN
    clear h hr
    rw [PR.bind_ok]
    go_enter Tryz.func151, Tryz.ntmps151
    go_wp2_with (go_at_call 39; refine HN.out.mono ?_; rintro e w' ⟨hb, hq, v, rfl, rfl⟩; have HQ := hidLL (And.intro hq hb); obtain ⟨m, c, hm, hc, hblk⟩ := hq.blk; have x1 : w'.cell? ⟨rp, 1, none⟩ = some (.int .i64 n1) := (by simp [World.cell?, hblk]); have xf : ∀ i, w'.frozen? ⟨rp, i, none⟩ = false := (by simp [World.frozen?, hblk]); have HBk := hidLL hblk; clear hq hb hblk)
    go_end0
    have hd := HQ.out.1.dec hn
    exact ⟨HQ.out.2.then hd.2 HQ.out.2.size, hd.1, _, rfl, rfl⟩
end Go.Proofs.YtehbinobohjadaaGreatDoor
namespace Go.Proofs.YtehbinobohjadaaGreatDoor
open Go.RowKit Go.Extern.Stop Go.Stop Go.Extern

theorem index_q (ls : List ByteArray) (b o c : Nat) (w : World) (hk : ∀ i s, ls[i]? = some s → w.cell? ⟨b, o + i, none⟩ = some (.string s)) (hn : ls.length ≤ 1000) (s : ByteArray) :
    Calls Tryz.prog 79 #[.slice (some ⟨b, o, none⟩) ls.length c, .string s] w fun e w' => e = .returned (.int .i64 (plcI ls s)) ∧ w' = w := by
  have HK := hidLL hk
  obtain ⟨n, hnn⟩ : ∃ n, n = ls.length := ⟨_, rfl⟩
  have HL := hidLL hnn
  rw [← hnn] at hn ⊢
  clear hk hnn
  go_enter Tryz.func79, Tryz.ntmps79
  go_wp2_with fail
  go_loopw [8] (fun t wr => ∃ i : Nat, i ≤ n ∧ t = .int .i64 i ∧ wr = w ∧ ∀ (j : Nat) y, j < i → ls[j]? = some y → (y.toList == s.toList) = false) (fun t _ => (n - RowKit.intOf t).toNat)
  case atStart => exact ⟨0, by omega, rfl, rfl, fun j y hj => by omega⟩
  case round =>
    obtain ⟨i, hi, rfl, rfl, hno⟩ := hrel
    have HN := hidLL hno
    clear hno
    by_cases hin : i < n
    · have hiz : (i : Int) < n := by omega
      obtain ⟨x, hx⟩ : ∃ x, ls[i]? = some x := ⟨_, List.getElem?_eq_getElem (by have := HL.out; omega)⟩
      have y0 := HK.out i x hx
      have HX := hidLL hx
      clear hx
      cases hq : (s.toList == x.toList)
      · have HQ := hidLL (show (x.toList == s.toList) = false by rw [← hq]; exact Bool.beq_comm)
        go_wp2
        go_roundw
        case rel =>
          refine ⟨i + 1, by omega, by go_num, trivial, fun j y hj hy => ?_⟩
          rcases Nat.lt_or_ge j i with h | h
          · exact HN.out j y h hy
          · obtain rfl : j = i := by omega
            rw [HX.out] at hy
            injection hy with hy
            subst hy
            exact HQ.out
        case measure => simp [RowKit.intOf]; omega
      · have HQ := hidLL (show (x.toList == s.toList) = true by rw [← hq]; exact Bool.beq_comm)
        go_wp2
        go_ret
        refine ⟨?_, rfl⟩
        rw [plcI_some HX.out HQ.out HN.out]
        rfl
    · obtain rfl : i = n := by omega
      go_wp2
      go_ret
      refine ⟨?_, rfl⟩
      rw [plcI_none fun j y hy => HN.out j y (by have := (List.getElem?_eq_some_iff.1 hy).1; have := HL.out; omega) hy]
      rfl
theorem contains_q (ls : List ByteArray) (b o c : Nat) (w : World) (hk : ∀ i s, ls[i]? = some s → w.cell? ⟨b, o + i, none⟩ = some (.string s)) (hn : ls.length ≤ 1000) (s : ByteArray) :
    Calls Tryz.prog 139 #[.slice (some ⟨b, o, none⟩) ls.length c, .string s] w fun e w' => e = .returned (.bool (decide (0 ≤ plcI ls s))) ∧ w' = w := by
  have HI := hidLL (index_q ls b o c w hk hn s)
  clear hk
  generalize plcI ls s = O at *
  generalize ls.length = n at *
  go_enter Tryz.func139, Tryz.ntmps139
  go_wp2_with (go_at_call 79; refine HI.out.mono ?_; rintro e w' ⟨rfl, rfl⟩)
  go_ret
  refine ⟨retB ?_, rfl⟩
  simp
def strengthsQ : List ByteArray := [wStrict, ⟨#[]⟩, wDefeater]
def rollsQ : List ByteArray := [⟨#[]⟩, wNext, wBefore]
/-- A row of words in a new block. -/
structure NewRow (ls : List ByteArray) (w : World) (e : Ending) (w' : World) : Prop where
  e : e = .returned (.slice (some ⟨w.heap.size, 0, none⟩) ls.length ls.length)
  b : Below w.heap.size w w'
  c : ∀ i s, ls[i]? = some s → w'.cell? ⟨w.heap.size, i, none⟩ = some (.string s)
  s : w'.heap.size = w.heap.size + 1
theorem newRow (ls : List ByteArray) (w : World) (t : TypeId) : NewRow ls w (.returned (.slice (some ⟨w.heap.size, 0, none⟩) ls.length ls.length)) (w.alloc (.cells (ls.map Value.string).toArray t)) := by
  refine ⟨rfl, (Below.refl _ _).alloc (Nat.le_refl _) _, fun i s h => ?_, by simp⟩
  have h1 := heap_alloc_new w (.cells (ls.map Value.string).toArray t)
  unfold World.cell?
  rw [h1]
  simp [h]
theorem ways_q (w : World) : Calls Tryz.prog 86 #[] w (NewRow waysW w) := by
  go_enter Tryz.func86, Tryz.ntmps86
  go_wp2
  go_ret
  exact newRow waysW w _
theorem units_q (w : World) : Calls Tryz.prog 88 #[] w (NewRow unitsW w) := by
  go_enter Tryz.func88, Tryz.ntmps88
  go_wp2
  go_ret
  exact newRow unitsW w _
theorem rolls_q (w : World) : Calls Tryz.prog 89 #[] w (NewRow rollsQ w) := by
  go_enter Tryz.func89, Tryz.ntmps89
  go_wp2
  go_ret
  exact newRow rollsQ w _
theorem strengths_q (w : World) : Calls Tryz.prog 38 #[] w (NewRow strengthsQ w) := by
  go_enter Tryz.func38, Tryz.ntmps38
  go_wp2
  go_ret
  exact newRow strengthsQ w _
end Go.Proofs.YtehbinobohjadaaGreatDoor
namespace Go.Proofs.YtehbinobohjadaaGreatDoor
open Go.RowKit Go.Extern.Stop Go.Stop Go.Extern

def gramIs (s : ByteArray) : Bool := (placeIn gramW s).isSome
theorem gram_iff (s : ByteArray) : gramIs s = true ↔ ∃ x, x ∈ gramW ∧ (s.toList == x.toList) = true := by
  unfold gramIs placeIn
  rw [List.findIdx?_isSome, List.any_eq_true]
  constructor
  · rintro ⟨x, h1, h2⟩
    exact ⟨x, h1, by rw [← h2]; exact Bool.beq_comm⟩
  · rintro ⟨x, h1, h2⟩
    exact ⟨x, h1, by rw [← h2]; exact Bool.beq_comm⟩
theorem gram_hit {s : ByteArray} (l : List UInt8) (h : (s.toList == l) = true) (x : ByteArray) (hx : x ∈ gramW) (hl : x.data.toList = l) : gramIs s = true := by
  rw [gram_iff]
  refine ⟨x, hx, ?_⟩
  have e1 : s.toList = l := by simpa using h
  rw [e1, Lib.toList_data, hl]; simp
theorem plc_hit {ls : List ByteArray} {s : ByteArray} (h : 0 ≤ plcI ls s) (hm : ∀ x, x ∈ ls → x.size ≠ 0 → x ∈ gramW) (hs : s.size ≠ 0) : gramIs s = true := by
  cases hp : placeIn ls s with
  | none => have := plcI_neg.2 hp; omega
  | some i =>
    unfold placeIn at hp
    rw [List.findIdx?_eq_some_iff_getElem] at hp
    obtain ⟨hi, h1, _⟩ := hp
    have e : ls[i].toList = s.toList := by unfold eqB at h1; simpa using h1
    rw [gram_iff]
    refine ⟨ls[i], hm _ (List.getElem_mem hi) ?_, by rw [e]; simp⟩
    intro h0
    apply hs
    have h2 := congrArg List.length e
    simp only [Lib.toList_data, Array.length_toList] at h2
    show s.data.size = 0
    rw [← h2]; exact h0
theorem plc_miss {ls : List ByteArray} {s x : ByteArray} (h : plcI ls s < 0) (hx : x ∈ ls) : (s.toList == x.toList) = false := by
  have h1 := plcI_neg.1 h
  unfold placeIn at h1
  have h2 := List.findIdx?_eq_none_iff.1 h1 x hx
  unfold eqB at h2
  rw [← h2]; exact Bool.beq_comm
/-- The four lists. -/
def listQ : Nat → List ByteArray
  | 0 => waysW
  | 1 => unitsW
  | 2 => rollsQ
  | _ => strengthsQ
theorem listQ_len (i : Nat) : (listQ i).length ≤ 1000 := by
  unfold listQ
  split <;> decide
theorem listQ_gram (i : Nat) (x : ByteArray) (h : x ∈ listQ i) (hs : x.size ≠ 0) : x ∈ gramW := by
  unfold listQ at h
  split at h
  · simp only [waysW, List.mem_cons, List.not_mem_nil, or_false] at h
    rcases h with h | h | h | h | h | h <;> (subst h; simp [gramW])
  · simp only [unitsW, List.mem_cons, List.not_mem_nil, or_false] at h
    rcases h with h | h | h | h | h <;> (subst h; simp [gramW])
  · simp only [rollsQ, List.mem_cons, List.not_mem_nil, or_false] at h
    rcases h with h | h | h
    · subst h; exact absurd rfl hs
    all_goals (subst h; simp [gramW])
  · simp only [strengthsQ, List.mem_cons, List.not_mem_nil, or_false] at h
    rcases h with h | h | h
    · subst h; simp [gramW]
    · subst h; exact absurd rfl hs
    · subst h; simp [gramW]
theorem gram_none {s : ByteArray} (h0 : (s.toList == [100, 101, 102, 105, 110, 101]) = false) (h1 : (s.toList == [114, 117, 108, 101]) = false) (h2 : (s.toList == [97, 109, 111, 117, 110, 116]) = false) (h3 : (s.toList == [100, 117, 116, 121]) = false) (h4 : (s.toList == [105, 102]) = false) (h5 : (s.toList == [111, 118, 101, 114]) = false) (h6 : (s.toList == [114, 111, 117, 110, 100]) = false) (h7 : (s.toList == [119, 105, 116, 104, 105, 110]) = false) (h8 : (s.toList == [101, 108, 115, 101]) = false) (h9 : (s.toList == [111, 114]) = false) (h10 : (s.toList == [97, 110, 100]) = false) (h11 : (s.toList == [110, 111, 116]) = false) (h12 : (s.toList == [115, 111, 109, 101]) = false) (h13 : (s.toList == [101, 118, 101, 114, 121]) = false) (h14 : (s.toList == [99, 111, 117, 110, 116]) = false) (h15 : (s.toList == [116, 111, 116, 97, 108]) = false) (h16 : (s.toList == [111, 102]) = false) (h17 : (s.toList == [109, 97, 120]) = false) (h18 : (s.toList == [109, 105, 110]) = false) (hl : ∀ i, i < 4 → plcI (listQ i) s < 0) : gramIs s = false := by
  rw [Bool.eq_false_iff]
  intro hg
  obtain ⟨x, hx, he⟩ := (gram_iff s).1 hg
  have l0 := hl 0 (by omega)
  have l1 := hl 1 (by omega)
  have l2 := hl 2 (by omega)
  have l3 := hl 3 (by omega)
  simp only [gramW, List.mem_cons, List.not_mem_nil, or_false] at hx
  rcases hx with h | h | h | h | h | h | h | h | h | h | h | h | h | h | h | h | h | h | h | h | h | h | h | h | h | h | h | h | h | h | h | h | h | h
  · subst h; rw [Lib.toList_data wDefine] at he; exact Bool.false_ne_true (h0.symm.trans he)
  · subst h; rw [Lib.toList_data wRule] at he; exact Bool.false_ne_true (h1.symm.trans he)
  · subst h; rw [Lib.toList_data wAmount] at he; exact Bool.false_ne_true (h2.symm.trans he)
  · subst h; rw [Lib.toList_data wDuty] at he; exact Bool.false_ne_true (h3.symm.trans he)
  · subst h; exact Bool.false_ne_true ((plc_miss l3 (by simp [listQ, strengthsQ])).symm.trans he)
  · subst h; exact Bool.false_ne_true ((plc_miss l3 (by simp [listQ, strengthsQ])).symm.trans he)
  · subst h; rw [Lib.toList_data wIf] at he; exact Bool.false_ne_true (h4.symm.trans he)
  · subst h; rw [Lib.toList_data wOver] at he; exact Bool.false_ne_true (h5.symm.trans he)
  · subst h; rw [Lib.toList_data wRound] at he; exact Bool.false_ne_true (h6.symm.trans he)
  · subst h; rw [Lib.toList_data wWithin] at he; exact Bool.false_ne_true (h7.symm.trans he)
  · subst h; rw [Lib.toList_data wElse] at he; exact Bool.false_ne_true (h8.symm.trans he)
  · subst h; rw [Lib.toList_data wNot] at he; exact Bool.false_ne_true (h11.symm.trans he)
  · subst h; rw [Lib.toList_data wOr] at he; exact Bool.false_ne_true (h9.symm.trans he)
  · subst h; rw [Lib.toList_data wAnd] at he; exact Bool.false_ne_true (h10.symm.trans he)
  · subst h; rw [Lib.toList_data wSome] at he; exact Bool.false_ne_true (h12.symm.trans he)
  · subst h; rw [Lib.toList_data wEvery] at he; exact Bool.false_ne_true (h13.symm.trans he)
  · subst h; rw [Lib.toList_data wCount] at he; exact Bool.false_ne_true (h14.symm.trans he)
  · subst h; rw [Lib.toList_data wTotal] at he; exact Bool.false_ne_true (h15.symm.trans he)
  · subst h; rw [Lib.toList_data wOf] at he; exact Bool.false_ne_true (h16.symm.trans he)
  · subst h; rw [Lib.toList_data wMax] at he; exact Bool.false_ne_true (h17.symm.trans he)
  · subst h; rw [Lib.toList_data wMin] at he; exact Bool.false_ne_true (h18.symm.trans he)
  · subst h; exact Bool.false_ne_true ((plc_miss l0 (by simp [listQ, waysW])).symm.trans he)
  · subst h; exact Bool.false_ne_true ((plc_miss l0 (by simp [listQ, waysW])).symm.trans he)
  · subst h; exact Bool.false_ne_true ((plc_miss l0 (by simp [listQ, waysW])).symm.trans he)
  · subst h; exact Bool.false_ne_true ((plc_miss l0 (by simp [listQ, waysW])).symm.trans he)
  · subst h; exact Bool.false_ne_true ((plc_miss l0 (by simp [listQ, waysW])).symm.trans he)
  · subst h; exact Bool.false_ne_true ((plc_miss l0 (by simp [listQ, waysW])).symm.trans he)
  · subst h; exact Bool.false_ne_true ((plc_miss l1 (by simp [listQ, unitsW])).symm.trans he)
  · subst h; exact Bool.false_ne_true ((plc_miss l1 (by simp [listQ, unitsW])).symm.trans he)
  · subst h; exact Bool.false_ne_true ((plc_miss l1 (by simp [listQ, unitsW])).symm.trans he)
  · subst h; exact Bool.false_ne_true ((plc_miss l1 (by simp [listQ, unitsW])).symm.trans he)
  · subst h; exact Bool.false_ne_true ((plc_miss l1 (by simp [listQ, unitsW])).symm.trans he)
  · subst h; exact Bool.false_ne_true ((plc_miss l2 (by simp [listQ, rollsQ])).symm.trans he)
  · subst h; exact Bool.false_ne_true ((plc_miss l2 (by simp [listQ, rollsQ])).symm.trans he)
set_option maxHeartbeats 8000000 in
theorem isOfGrammar_q (s : ByteArray) (hs : s.size ≠ 0) (w : World) :
    Calls Tryz.prog 117 #[.string s] w fun e w' => e = .returned (.bool (gramIs s)) ∧ Below w.heap.size w w' := by
  obtain ⟨O, hO⟩ : ∃ O, O = gramIs s := ⟨_, rfl⟩
  rw [← hO]
  have HO := hidLL hO
  clear hO
  cases h0 : (s.toList == [100, 101, 102, 105, 110, 101])
  rotate_left
  · go_enter Tryz.func117, Tryz.ntmps117
    go_wp2
    go_ret
    exact ⟨retB (by rw [HO.out, gram_hit _ h0 wDefine (by simp [gramW]) rfl]), Below.refl _ _⟩
  cases h1 : (s.toList == [114, 117, 108, 101])
  rotate_left
  · go_enter Tryz.func117, Tryz.ntmps117
    go_wp2
    go_ret
    exact ⟨retB (by rw [HO.out, gram_hit _ h1 wRule (by simp [gramW]) rfl]), Below.refl _ _⟩
  cases h2 : (s.toList == [97, 109, 111, 117, 110, 116])
  rotate_left
  · go_enter Tryz.func117, Tryz.ntmps117
    go_wp2
    go_ret
    exact ⟨retB (by rw [HO.out, gram_hit _ h2 wAmount (by simp [gramW]) rfl]), Below.refl _ _⟩
  cases h3 : (s.toList == [100, 117, 116, 121])
  rotate_left
  · go_enter Tryz.func117, Tryz.ntmps117
    go_wp2
    go_ret
    exact ⟨retB (by rw [HO.out, gram_hit _ h3 wDuty (by simp [gramW]) rfl]), Below.refl _ _⟩
  cases h4 : (s.toList == [105, 102])
  rotate_left
  · go_enter Tryz.func117, Tryz.ntmps117
    go_wp2
    go_ret
    exact ⟨retB (by rw [HO.out, gram_hit _ h4 wIf (by simp [gramW]) rfl]), Below.refl _ _⟩
  cases h5 : (s.toList == [111, 118, 101, 114])
  rotate_left
  · go_enter Tryz.func117, Tryz.ntmps117
    go_wp2
    go_ret
    exact ⟨retB (by rw [HO.out, gram_hit _ h5 wOver (by simp [gramW]) rfl]), Below.refl _ _⟩
  cases h6 : (s.toList == [114, 111, 117, 110, 100])
  rotate_left
  · go_enter Tryz.func117, Tryz.ntmps117
    go_wp2
    go_ret
    exact ⟨retB (by rw [HO.out, gram_hit _ h6 wRound (by simp [gramW]) rfl]), Below.refl _ _⟩
  cases h7 : (s.toList == [119, 105, 116, 104, 105, 110])
  rotate_left
  · go_enter Tryz.func117, Tryz.ntmps117
    go_wp2
    go_ret
    exact ⟨retB (by rw [HO.out, gram_hit _ h7 wWithin (by simp [gramW]) rfl]), Below.refl _ _⟩
  cases h8 : (s.toList == [101, 108, 115, 101])
  rotate_left
  · go_enter Tryz.func117, Tryz.ntmps117
    go_wp2
    go_ret
    exact ⟨retB (by rw [HO.out, gram_hit _ h8 wElse (by simp [gramW]) rfl]), Below.refl _ _⟩
  cases h9 : (s.toList == [111, 114])
  rotate_left
  · go_enter Tryz.func117, Tryz.ntmps117
    go_wp2
    go_ret
    exact ⟨retB (by rw [HO.out, gram_hit _ h9 wOr (by simp [gramW]) rfl]), Below.refl _ _⟩
  cases h10 : (s.toList == [97, 110, 100])
  rotate_left
  · go_enter Tryz.func117, Tryz.ntmps117
    go_wp2
    go_ret
    exact ⟨retB (by rw [HO.out, gram_hit _ h10 wAnd (by simp [gramW]) rfl]), Below.refl _ _⟩
  cases h11 : (s.toList == [110, 111, 116])
  rotate_left
  · go_enter Tryz.func117, Tryz.ntmps117
    go_wp2
    go_ret
    exact ⟨retB (by rw [HO.out, gram_hit _ h11 wNot (by simp [gramW]) rfl]), Below.refl _ _⟩
  cases h12 : (s.toList == [115, 111, 109, 101])
  rotate_left
  · go_enter Tryz.func117, Tryz.ntmps117
    go_wp2
    go_ret
    exact ⟨retB (by rw [HO.out, gram_hit _ h12 wSome (by simp [gramW]) rfl]), Below.refl _ _⟩
  cases h13 : (s.toList == [101, 118, 101, 114, 121])
  rotate_left
  · go_enter Tryz.func117, Tryz.ntmps117
    go_wp2
    go_ret
    exact ⟨retB (by rw [HO.out, gram_hit _ h13 wEvery (by simp [gramW]) rfl]), Below.refl _ _⟩
  cases h14 : (s.toList == [99, 111, 117, 110, 116])
  rotate_left
  · go_enter Tryz.func117, Tryz.ntmps117
    go_wp2
    go_ret
    exact ⟨retB (by rw [HO.out, gram_hit _ h14 wCount (by simp [gramW]) rfl]), Below.refl _ _⟩
  cases h15 : (s.toList == [116, 111, 116, 97, 108])
  rotate_left
  · go_enter Tryz.func117, Tryz.ntmps117
    go_wp2
    go_ret
    exact ⟨retB (by rw [HO.out, gram_hit _ h15 wTotal (by simp [gramW]) rfl]), Below.refl _ _⟩
  cases h16 : (s.toList == [111, 102])
  rotate_left
  · go_enter Tryz.func117, Tryz.ntmps117
    go_wp2
    go_ret
    exact ⟨retB (by rw [HO.out, gram_hit _ h16 wOf (by simp [gramW]) rfl]), Below.refl _ _⟩
  cases h17 : (s.toList == [109, 97, 120])
  rotate_left
  · go_enter Tryz.func117, Tryz.ntmps117
    go_wp2
    go_ret
    exact ⟨retB (by rw [HO.out, gram_hit _ h17 wMax (by simp [gramW]) rfl]), Below.refl _ _⟩
  cases h18 : (s.toList == [109, 105, 110])
  rotate_left
  · go_enter Tryz.func117, Tryz.ntmps117
    go_wp2
    go_ret
    exact ⟨retB (by rw [HO.out, gram_hit _ h18 wMin (by simp [gramW]) rfl]), Below.refl _ _⟩
  have HG := hidLL (gram_none h0 h1 h2 h3 h4 h5 h6 h7 h8 h9 h10 h11 h12 h13 h14 h15 h16 h17 h18)
  go_enter Tryz.func117, Tryz.ntmps117
  go_wp2_with (first | (go_at_call 86; refine (ways_q _).mono ?_; rintro e w1 ⟨rfl, b1, c1, s1⟩; have H1 := hidLL (And.intro b1 (And.intro c1 s1)); clear b1 c1 s1) | (go_at_call 88; refine (units_q _).mono ?_; rintro e w2 ⟨rfl, b1, c1, s1⟩; have H2 := hidLL (And.intro b1 (And.intro c1 s1)); clear b1 c1 s1) | (go_at_call 89; refine (rolls_q _).mono ?_; rintro e w3 ⟨rfl, b1, c1, s1⟩; have H3 := hidLL (And.intro b1 (And.intro c1 s1)); clear b1 c1 s1) | (go_at_call 38; refine (strengths_q _).mono ?_; rintro e w4 ⟨rfl, b1, c1, s1⟩; have H4 := hidLL (And.intro b1 (And.intro c1 s1)); clear b1 c1 s1))
  clear h0 h1 h2 h3 h4 h5 h6 h7 h8 h9 h10 h11 h12 h13 h14 h15 h16 h17 h18
  generalize hW5 : World.alloc _ _ = W5
  generalize hg : w4.heap.size = g at *
  have HF : Hid (Below w.heap.size w W5 ∧ ∀ i, i < 4 → ∃ b, W5.cell? ⟨g, i, none⟩ = some (.slice (some ⟨b, 0, none⟩) (listQ i).length (listQ i).length) ∧ ∀ j x, (listQ i)[j]? = some x → W5.cell? ⟨b, 0 + j, none⟩ = some (.string x)) := by
    obtain ⟨b1, c1, s1⟩ := H1.out
    obtain ⟨b2, c2, s2⟩ := H2.out
    obtain ⟨b3, c3, s3⟩ := H3.out
    obtain ⟨b4, c4, s4⟩ := H4.out
    have b5 : Below w4.heap.size w4 W5 := by rw [← hW5]; exact (Below.refl _ _).alloc (Nat.le_refl _) _
    have n5 : W5.heap[g]? = some (.cells #[.slice (some ⟨w.heap.size, 0, none⟩) waysW.length waysW.length, .slice (some ⟨w1.heap.size, 0, none⟩) unitsW.length unitsW.length, .slice (some ⟨w2.heap.size, 0, none⟩) rollsQ.length rollsQ.length, .slice (some ⟨w3.heap.size, 0, none⟩) strengthsQ.length strengthsQ.length] 26 (0, 0)) := by rw [← hW5, ← hg]; exact heap_alloc_new _ _
    refine ⟨⟨by rw [b5.os, b4.os, b3.os, b2.os, b1.os], by rw [b5.tape, b4.tape, b3.tape, b2.tape, b1.tape], by rw [b5.output, b4.output, b3.output, b2.output, b1.output], by have := b5.size; omega, fun q hq => by rw [b5.block q (by omega), b4.block q (by omega), b3.block q (by omega), b2.block q (by omega), b1.block q (by omega)]⟩, fun i hi => ?_⟩
    rcases (show i = 0 ∨ i = 1 ∨ i = 2 ∨ i = 3 by omega) with rfl | rfl | rfl | rfl
    · exact ⟨w.heap.size, by unfold World.cell?; rw [n5]; rfl, fun j x hx => by rw [Nat.zero_add]; exact (World.cell?_of_block (a := ⟨w.heap.size, j, none⟩) (show W5.heap[w.heap.size]? = w1.heap[w.heap.size]? by rw [b5.block _ (by omega), b4.block _ (by omega), b3.block _ (by omega), b2.block _ (by omega)])).trans (c1 j x hx)⟩
    · exact ⟨w1.heap.size, by unfold World.cell?; rw [n5]; rfl, fun j x hx => by rw [Nat.zero_add]; exact (World.cell?_of_block (a := ⟨w1.heap.size, j, none⟩) (show W5.heap[w1.heap.size]? = w2.heap[w1.heap.size]? by rw [b5.block _ (by omega), b4.block _ (by omega), b3.block _ (by omega)])).trans (c2 j x hx)⟩
    · exact ⟨w2.heap.size, by unfold World.cell?; rw [n5]; rfl, fun j x hx => by rw [Nat.zero_add]; exact (World.cell?_of_block (a := ⟨w2.heap.size, j, none⟩) (show W5.heap[w2.heap.size]? = w3.heap[w2.heap.size]? by rw [b5.block _ (by omega), b4.block _ (by omega)])).trans (c3 j x hx)⟩
    · exact ⟨w3.heap.size, by unfold World.cell?; rw [n5]; rfl, fun j x hx => by rw [Nat.zero_add]; exact (World.cell?_of_block (a := ⟨w3.heap.size, j, none⟩) (show W5.heap[w3.heap.size]? = w4.heap[w3.heap.size]? by rw [b5.block _ (by omega)])).trans (c4 j x hx)⟩
  clear H1 H2 H3 H4 hW5 hg
  generalize waysW.length = n1 at *
  generalize unitsW.length = n2 at *
  generalize rollsQ.length = n3 at *
  generalize strengthsQ.length = n4 at *
  go_loopw [33] (fun t wr => ∃ i : Nat, i ≤ 4 ∧ t = .int .i64 i ∧ wr = W5 ∧ ∀ j, j < i → plcI (listQ j) s < 0) (fun t _ => (4 - RowKit.intOf t).toNat)
  case atStart => exact ⟨0, by omega, rfl, rfl, fun j hj => by omega⟩
  case round =>
    obtain ⟨i, hi, rfl, rfl, hno⟩ := hrel
    have HN := hidLL hno
    clear hno
    by_cases hin : i < 4
    · have hiz : (i : Int) < 4 := by omega
      obtain ⟨b, y0, y1⟩ := HF.out.2 i hin
      have HC := hidLL (contains_q (listQ i) b 0 (listQ i).length _ y1 (listQ_len i) s)
      have hL := listQ_len i
      clear y1
      generalize (listQ i).length = ll at *
      cases hq : decide (0 ≤ plcI (listQ i) s)
      · have HQ := hidLL hq
        rw [hq] at HC
        clear hq
        go_wp2_with (go_at_call 139; refine HC.out.mono ?_; rintro e w' ⟨rfl, rfl⟩)
        go_roundw
        case rel =>
          refine ⟨i + 1, by omega, by go_num, trivial, fun j hj => ?_⟩
          rcases Nat.lt_or_ge j i with h | h
          · exact HN.out j h
          · obtain rfl : j = i := by omega
            have h9 := HQ.out
            simpa using h9
        case measure => simp [RowKit.intOf]; omega
      · have HQ := hidLL hq
        rw [hq] at HC
        clear hq
        go_wp2_with (go_at_call 139; refine HC.out.mono ?_; rintro e w' ⟨rfl, rfl⟩)
        go_ret
        have h9 : 0 ≤ plcI (listQ i) s := by have := HQ.out; simpa using this
        exact ⟨retB (by rw [HO.out, plc_hit h9 (listQ_gram i) hs]), HF.out.1⟩
    · obtain rfl : i = 4 := by omega
      go_wp2
      go_ret
      exact ⟨retB (by rw [HO.out, HG.out fun j hj => HN.out j hj]), HF.out.1⟩
end Go.Proofs.YtehbinobohjadaaGreatDoor
