/-
  plain.Code of an *api.Fault; 'faulted' by contracts.
-/
import Derived.Test.YtpbolcjcmkmalaaGreatDoorCo13
import Derived.Test.YtpbolcjcmkmalaaGreatDoorCo10
import Derived.Test.YtpbolcjcmkmalaaGreatDoorCo08
import Derived.Test.YtpbolcjcmkmalaaGreatDoorRows
import Derived.ProofKit
import Derived.LaidMore
import Derived.OpenShut
import Derived.Stop.Joined
import Derived.WideLaws
import Derived.ChangeSlices
import Derived.ChangeSame
import Derived.Test.YtpbolcjcmkmalaaGreatDoorCo12
import Derived.Test.YtpbolcjcmkmalaaGreatDoorCo11
namespace Go.Proofs.YtpbolcjcmkmalaaGreatDoor
open Go.RowKit Go.Extern.Stop Go.Stop Go.Extern

theorem as_hit_b (e t : Addr) (old : Value) (w : World) (p : Nat → Addr) (L : Laid w p) (B : Nat) (hB : B ≤ t.block) (ht0 : w.cell? t = some old) (hf0 : w.frozen? t = false) :
    Calls Tryz.prog 24 #[.iface 52 (.pointer (some e)), .iface 65 (.pointer (some t))] w fun ev w' => ev = .returned (.bool true) ∧ Below B w w' ∧ w'.cell? t = some (.pointer (some e)) := by
  have htl : t.block < w.heap.size := by
    rcases Nat.lt_or_ge t.block w.heap.size with h | h
    · exact h
    · simp [World.cell?, Array.getElem?_eq_none h] at ht0
  refine (as_hit e t old w L.typ ht0 hf0).mono ?_
  rintro ev w' ⟨rfl, rfl⟩
  refine ⟨rfl, (((((Below.refl _ _).alloc (by omega) _).alloc (by simp; omega) _).alloc (by simp; omega) _).alloc (by simp; omega) _).setCell hB _, ?_⟩
  refine World.cell?_setCell_same _ _ _ (u := old) ?_
  rw [World.cell?_alloc_lt _ _ t (by simp; omega), World.cell?_alloc_lt _ _ t (by simp; omega), World.cell?_alloc_lt _ _ t (by simp; omega), World.cell?_alloc_lt _ _ t htl]
  exact ht0

set_option maxHeartbeats 2000000 in
theorem code_fault (k : Nat) (hk : k < 11) (p : Nat → Addr) (blk : Nat) (pos : Int) (w : World) (L : Laid w p) (h0 : w.cell? ⟨blk, 0, none⟩ = some (.int .i64 pos)) (h1 : w.cell? ⟨blk, 0 + 1, none⟩ = some (.iface 214 (.pointer (some (p k))))) :
    Calls Tryz.prog 14 #[.iface 52 (.pointer (some ⟨blk, 0, none⟩))] w fun e w' => e = .returned (.tuple #[.int .i64 (k + 1), .int .i64 pos]) ∧ Below w.heap.size w w' := by
  have hlt : blk < w.heap.size := by
    rcases Nat.lt_or_ge blk w.heap.size with h | h
    · exact h
    · simp [World.cell?, Array.getElem?_eq_none h] at h0
  have La := hidIt (L.alloc (.cells #[.pointer none] 52))
  have HL := hidIt L
  have H0 := hidIt h0
  have H1 := hidIt h1
  clear L h0 h1
  go_enter Tryz.func14, Tryz.ntmps14
  go_wp2_with fail
  refine (as_hit_b _ ⟨w.heap.size, 0, none⟩ (.pointer none) _ p La.out w.heap.size (Nat.le_refl _) (by simp) (by simp)).mono ?_
  rintro e w1 ⟨rfl, hb1, hc1⟩
  have HB1 := hidIt (((Below.refl w.heap.size w).alloc (Nat.le_refl _) (.cells #[.pointer none] 52)).trans hb1)
  have x0 : w1.cell? ⟨blk, 0, none⟩ = some (.int .i64 pos) := (HB1.out.cell (p := ⟨blk, 0, none⟩) hlt).trans H0.out
  have x1 : w1.cell? ⟨blk, 0 + 1, none⟩ = some (.iface 214 (.pointer (some (p k)))) := (HB1.out.cell (p := ⟨blk, 0 + 1, none⟩) hlt).trans H1.out
  have L1 := HL.out.below HB1.out
  have c0 : w1.cell? ⟨1, 0, none⟩ = some (.iface 214 (.pointer (some (p 0)))) := L1.cell 0 (by omega)
  have c1 : w1.cell? ⟨0, 0, none⟩ = some (.iface 214 (.pointer (some (p 1)))) := L1.cell 1 (by omega)
  have c2 : w1.cell? ⟨2, 0, none⟩ = some (.iface 214 (.pointer (some (p 2)))) := L1.cell 2 (by omega)
  have c3 : w1.cell? ⟨3, 0, none⟩ = some (.iface 214 (.pointer (some (p 3)))) := L1.cell 3 (by omega)
  have c4 : w1.cell? ⟨4, 0, none⟩ = some (.iface 214 (.pointer (some (p 4)))) := L1.cell 4 (by omega)
  have c5 : w1.cell? ⟨5, 0, none⟩ = some (.iface 214 (.pointer (some (p 5)))) := L1.cell 5 (by omega)
  have c6 : w1.cell? ⟨6, 0, none⟩ = some (.iface 214 (.pointer (some (p 6)))) := L1.cell 6 (by omega)
  have c7 : w1.cell? ⟨7, 0, none⟩ = some (.iface 214 (.pointer (some (p 7)))) := L1.cell 7 (by omega)
  have c8 : w1.cell? ⟨8, 0, none⟩ = some (.iface 214 (.pointer (some (p 8)))) := L1.cell 8 (by omega)
  have c9 : w1.cell? ⟨9, 0, none⟩ = some (.iface 214 (.pointer (some (p 9)))) := L1.cell 9 (by omega)
  have c10 : w1.cell? ⟨10, 0, none⟩ = some (.iface 214 (.pointer (some (p 10)))) := L1.cell 10 (by omega)
  have hS := sent_cell p w1
  have HL2 := hidIt (L1.alloc (.cells #[.iface 214 (.pointer (some (p 0))), .iface 214 (.pointer (some (p 1))), .iface 214 (.pointer (some (p 2))), .iface 214 (.pointer (some (p 3))), .iface 214 (.pointer (some (p 4))), .iface 214 (.pointer (some (p 5))), .iface 214 (.pointer (some (p 6))), .iface 214 (.pointer (some (p 7))), .iface 214 (.pointer (some (p 8))), .iface 214 (.pointer (some (p 9))), .iface 214 (.pointer (some (p 10)))] 31))
  have HX1 := hidIt ((((Below.refl w1.heap.size w1).alloc (Nat.le_refl _) (.cells #[.iface 214 (.pointer (some (p 0))), .iface 214 (.pointer (some (p 1))), .iface 214 (.pointer (some (p 2))), .iface 214 (.pointer (some (p 3))), .iface 214 (.pointer (some (p 4))), .iface 214 (.pointer (some (p 5))), .iface 214 (.pointer (some (p 6))), .iface 214 (.pointer (some (p 7))), .iface 214 (.pointer (some (p 8))), .iface 214 (.pointer (some (p 9))), .iface 214 (.pointer (some (p 10)))] 31)).cell (p := ⟨blk, 0 + 1, none⟩) (show blk < w1.heap.size by have := HB1.out.size; omega)).trans x1)
  have HF := hidIt (HB1.out.alloc HB1.out.size (.cells #[.iface 214 (.pointer (some (p 0))), .iface 214 (.pointer (some (p 1))), .iface 214 (.pointer (some (p 2))), .iface 214 (.pointer (some (p 3))), .iface 214 (.pointer (some (p 4))), .iface 214 (.pointer (some (p 5))), .iface 214 (.pointer (some (p 6))), .iface 214 (.pointer (some (p 7))), .iface 214 (.pointer (some (p 8))), .iface 214 (.pointer (some (p 9))), .iface 214 (.pointer (some (p 10)))] 31))
  clear hb1 L1 x1
  go_wp2_with fail
  clear c0 c1 c2 c3 c4 c5 c6 c7 c8 c9 c10 hc1 x0
  go_loop [3, 29] (fun a t => a = .int .i64 pos ∧ ∃ i : Nat, i ≤ k ∧ t = .int .i64 i) (fun _ t => 11 - (intOf t).toNat)
  case atStart => exact ⟨rfl, 0, Nat.zero_le _, rfl⟩
  case round =>
    obtain ⟨rfl, i, hik, rfl⟩ := hrel
    have hi : i < 11 := by omega
    have hSi := hS i hi
    by_cases hl : i < k
    · obtain ⟨ca, ta, hca⟩ := HL2.out.blk k hk
      obtain ⟨cb, tb, hcb⟩ := HL2.out.blk i hi
      have hne := HL2.out.ne k i hk hi (by omega)
      go_wp2_with fail
      refine (is_wrap_other blk 0 (p i) (p k) ca cb ta tb _ HX1.out hne hca hcb).mono ?_
      rintro e w' ⟨rfl, rfl⟩
      go_wp2
      go_round
      case rel => exact ⟨rfl, i + 1, by omega, by go_num⟩
      case measure => simp [intOf]; omega
    · obtain rfl : i = k := by omega
      go_wp2_with fail
      refine (is_wrap_same blk 0 (p i) _ HX1.out).mono ?_
      rintro e w' ⟨rfl, rfl⟩
      go_wp2
      go_ret2
      exact ⟨rfl, HF.out⟩

end Go.Proofs.YtpbolcjcmkmalaaGreatDoor
namespace Go.Proofs.YtpbolcjcmkmalaaGreatDoor
open Go.RowKit Go.Extern.Stop Go.Stop Go.Extern

/-- What stands between the marks of a path. -/
def spls : List UInt8 → List (List UInt8)
  | [] => [[]]
  | c :: r => if c = 47 then [] :: spls r else match spls r with | [] => [[c]] | h :: t => (c :: h) :: t
theorem spls_ne : ∀ l, spls l ≠ []
  | [] => by simp [spls]
  | c :: r => by
    rw [spls]
    split
    · simp
    · split <;> simp
theorem spls_47 (r : List UInt8) : spls (47 :: r) = [] :: spls r := by rw [spls, if_pos rfl]
theorem spls_c {c : UInt8} {r : List UInt8} (h : c ≠ 47) {g : List UInt8} {t : List (List UInt8)} (e : spls r = g :: t) : spls (c :: r) = (c :: g) :: t := by rw [spls, if_neg h, e]
theorem spls_snoc47 : ∀ l : List UInt8, spls (l ++ [47]) = spls l ++ [[]]
  | [] => rfl
  | c :: r => by
    have ih := spls_snoc47 r
    by_cases hc : c = 47
    · subst hc
      rw [List.cons_append, spls_47, ih, spls_47]; rfl
    · obtain ⟨g, t, e⟩ : ∃ g t, spls r = g :: t := by
        cases h : spls r with
        | nil => exact absurd h (spls_ne r)
        | cons g t => exact ⟨g, t, rfl⟩
      rw [List.cons_append, spls_c hc (g := g) (t := t ++ [[]]) (by rw [ih, e]; rfl), spls_c hc e]; rfl
theorem spls_snoc {d : UInt8} (hd : d ≠ 47) : ∀ (l : List UInt8) (o : List (List UInt8)) (x : List UInt8), spls l = o ++ [x] → spls (l ++ [d]) = o ++ [x ++ [d]]
  | [], o, x, h => by
    have h : [[]] = o ++ [x] := h
    cases o with
    | nil => simp at h; subst h; rw [List.nil_append, spls, if_neg hd]; rfl
    | cons a o => simp at h
  | c :: r, o, x, h => by
    by_cases hc : c = 47
    · subst hc
      rw [spls_47] at h
      cases o with
      | nil => exact absurd (by simpa using (List.cons.inj h).2) (spls_ne r)
      | cons a o =>
        rw [List.cons_append] at h
        obtain ⟨h1, h2⟩ := List.cons.inj h
        rw [List.cons_append, spls_47, spls_snoc hd r o x h2, ← h1]; rfl
    · obtain ⟨g, t, e⟩ : ∃ g t, spls r = g :: t := by
        cases h : spls r with
        | nil => exact absurd h (spls_ne r)
        | cons g t => exact ⟨g, t, rfl⟩
      rw [spls_c hc e] at h
      cases o with
      | nil =>
        obtain ⟨h1, h2⟩ := List.cons.inj h
        subst h2
        have := spls_snoc hd r [] g e
        rw [List.cons_append, spls_c hc (g := g ++ [d]) (t := []) this, ← h1]; rfl
      | cons a o =>
        rw [List.cons_append] at h
        obtain ⟨h1, h2⟩ := List.cons.inj h
        have := spls_snoc hd r (g :: o) x (by rw [e, h2]; rfl)
        rw [List.cons_append, spls_c hc (g := g) (t := o ++ [x ++ [d]]) this, ← h1]; rfl
theorem ib47_ne (c : UInt8) (r : List UInt8) (h : c ≠ 47) : Lib.indexByte (c :: r) 47 = if Lib.indexByte r 47 = -1 then -1 else Lib.indexByte r 47 + 1 := by
  rw [Lib.indexByte, if_neg (by simpa using h)]
  simp only [beq_iff_eq]
theorem spls_none : ∀ l : List UInt8, Lib.indexByte l 47 = -1 → spls l = [l]
  | [], _ => rfl
  | c :: r, h => by
    by_cases hc : c = 47
    · subst hc
      rw [Lib.indexByte, if_pos (by simp)] at h
      cases h
    · rw [ib47_ne c r hc] at h
      have h2 : Lib.indexByte r 47 = -1 := by
        by_cases h3 : Lib.indexByte r 47 = -1
        · exact h3
        · rw [if_neg h3] at h
          have := Lib.indexByte_ge r 47
          omega
      exact spls_c hc (spls_none r h2)
theorem spls_hit : ∀ (l : List UInt8) (i : Nat), Lib.indexByte l 47 = i → spls l = l.take i :: spls (l.drop (i + 1))
  | [], i, h => by
    rw [Lib.indexByte] at h
    omega
  | c :: r, i, h => by
    by_cases hc : c = 47
    · subst hc
      rw [Lib.indexByte, if_pos (by simp)] at h
      obtain rfl : i = 0 := by omega
      rw [spls_47]; simp
    · rw [ib47_ne c r hc] at h
      have := Lib.indexByte_ge r 47
      have h3 : ¬ Lib.indexByte r 47 = -1 := fun h3 => by rw [if_pos h3] at h; omega
      rw [if_neg h3] at h
      obtain ⟨j, rfl⟩ : ∃ j, i = j + 1 := ⟨i - 1, by omega⟩
      have h2 : Lib.indexByte r 47 = j := by omega
      rw [spls_c hc (spls_hit r j h2)]
      simp
theorem spls_splitK : ∀ (n : Nat) (l : List UInt8), l.length ≤ n → Lib.splitK [47] 0 (Lib.count l [47]) l = spls l
  | n, l, hn => by
    by_cases h : Lib.index l [47] = -1
    · rw [Lib.count_miss h]
      show [l] = _
      rw [Lib.index_one] at h
      exact (spls_none l h).symm
    · have hge := Lib.index_ge l [47]
      obtain ⟨i, hi⟩ : ∃ i : Nat, Lib.index l [47] = i := ⟨(Lib.index l [47]).toNat, by omega⟩
      have hlt := Lib.drop_shorter (s := l) (sub := [47]) (by simp) (by simpa using h)
      rw [hi] at hlt
      rw [Lib.count_hit (by simp) hi, Nat.add_comm 1, Lib.splitK, if_neg (by simpa using h), hi]
      have hi' := hi
      rw [Lib.index_one] at hi'
      rw [spls_hit l i hi']
      simp only [Int.toNat_natCast, List.length_cons, List.length_nil, Nat.zero_add] at hlt ⊢
      cases n with
      | zero => omega
      | succ n =>
        rw [spls_splitK n (l.drop (i + 1)) (by omega)]
        congr 1
theorem spls_len : ∀ l : List UInt8, (spls l).length ≤ l.length + 1
  | [] => by simp [spls]
  | c :: r => by
    have ih := spls_len r
    by_cases hc : c = 47
    · subst hc; rw [spls_47]; simp; omega
    · obtain ⟨g, t, e⟩ : ∃ g t, spls r = g :: t := by
        cases h : spls r with
        | nil => exact absurd h (spls_ne r)
        | cons g t => exact ⟨g, t, rfl⟩
      rw [spls_c hc e]; rw [e] at ih; simp at ih ⊢; omega
theorem spls_size : ∀ (l x : List UInt8), x ∈ spls l → x.length ≤ l.length
  | [], x, h => by simp [spls] at h; subst h; simp
  | c :: r, x, h => by
    by_cases hc : c = 47
    · subst hc; rw [spls_47] at h
      rcases List.mem_cons.1 h with h | h
      · subst h; simp
      · have := spls_size r x h; simp; omega
    · obtain ⟨g, t, e⟩ : ∃ g t, spls r = g :: t := by
        cases h : spls r with
        | nil => exact absurd h (spls_ne r)
        | cons g t => exact ⟨g, t, rfl⟩
      rw [spls_c hc e] at h
      rcases List.mem_cons.1 h with h | h
      · have := spls_size r g (by rw [e]; simp); subst h; simp; omega
      · have := spls_size r x (by rw [e]; simp [h]); simp; omega
theorem spls_ex (l : List UInt8) : ∃ o x, spls l = o ++ [x] := by
  rcases List.eq_nil_or_concat (spls l) with h0 | ⟨a, b, hab⟩
  · exact absurd h0 (spls_ne l)
  · exact ⟨a, b, by rw [hab, List.concat_eq_append]⟩
/-- The parts of a path, as texts. -/
def partsB (s : ByteArray) : List ByteArray := if s.size = 0 then [] else (spls (bl s)).map ofL
end Go.Proofs.YtpbolcjcmkmalaaGreatDoor
namespace Go.Proofs.YtpbolcjcmkmalaaGreatDoor
open Go.RowKit Go.Extern.Stop Go.Stop Go.Extern

def sliceA : Value → Option Addr | .slice a _ _ => a | _ => none
def sliceN : Value → Nat | .slice _ n _ => n | _ => 0
def sliceC : Value → Nat | .slice _ _ c => c | _ => 0
def strOf : Value → ByteArray | .string s => s | _ => ⟨#[]⟩
theorem Lies.forms {w : World} {P : Nat → Prop} {v : Nat → Value} {t : It} (h : Lies w P v t) : v 0 = .string t.label ∧ v 1 = .string t.head ∧ (∃ la lc, v 2 = .slice la t.lines.length lc) ∧ ∃ ka kc, v 3 = .slice ka t.kids.length kc := by
  cases h with
  | mk v t la ka lc kc V h0 h1 h2 h3 hl hk hr hlc hkc => exact ⟨h0, h1, ⟨la, lc, h2⟩, ⟨ka, kc, h3⟩⟩
theorem Lies.caps {w : World} {P : Nat → Prop} {v : Nat → Value} {t : It} (h : Lies w P v t) {la ka : Option Addr} {n m lc kc : Nat} (e : v 2 = .slice la n lc) (e' : v 3 = .slice ka m kc) : t.lines.length ≤ lc ∧ t.kids.length ≤ kc := by
  cases h with
  | mk v t la' ka' lc' kc' V h0 h1 h2 h3 hl hk hr hlc hkc =>
    rw [h2] at e
    rw [h3] at e'
    injection e with _ _ e3
    injection e' with _ _ e4
    exact ⟨by omega, by omega⟩
theorem Lies.kidsAt {w : World} {P : Nat → Prop} {v : Nat → Value} {t : It} (h : Lies w P v t) {ka : Option Addr} {n kc : Nat} (e : v 3 = .slice ka n kc) : n = t.kids.length ∧ ∃ V : Nat → Nat → Value, (∀ i, i < t.kids.length → ∃ b o, ka = some ⟨b, o, none⟩ ∧ P b ∧ ∀ c, c < 4 → w.cell? ⟨b, o + i * 4 + c, none⟩ = some (V i c)) ∧ ∀ i k, t.kids[i]? = some k → Lies w P (V i) k := by
  cases h with
  | mk v t la ka' lc kc' V h0 h1 h2 h3 hl hk hr hlc hkc =>
    rw [h3] at e
    injection e with e1 e2 e3
    subst e1 e2 e3
    exact ⟨rfl, V, hk, hr⟩
theorem kids_cells {w : World} {P : Nat → Prop} {kids : List It} {ka : Option Addr} {V : Nat → Nat → Value} (hk : ∀ i, i < kids.length → ∃ b o, ka = some ⟨b, o, none⟩ ∧ P b ∧ ∀ c, c < 4 → w.cell? ⟨b, o + i * 4 + c, none⟩ = some (V i c)) (hr : ∀ i k, kids[i]? = some k → Lies w P (V i) k) :
    ∀ i, i < kids.length → ∃ b o, ka = some ⟨b, o, none⟩ ∧ w.cell? ⟨b, o + i * 4, none⟩ = some (.string (strOf (V i 0))) ∧ w.cell? ⟨b, o + i * 4 + 1, none⟩ = some (.string (strOf (V i 1))) ∧ w.cell? ⟨b, o + i * 4 + 2, none⟩ = some (.slice (sliceA (V i 2)) (sliceN (V i 2)) (sliceC (V i 2))) ∧ w.cell? ⟨b, o + i * 4 + 3, none⟩ = some (.slice (sliceA (V i 3)) (sliceN (V i 3)) (sliceC (V i 3))) := by
  intro i hi
  obtain ⟨b, o, e, _, hc⟩ := hk i hi
  obtain ⟨f0, f1, ⟨la, lc, f2⟩, ⟨kb, kc, f3⟩⟩ := (hr i _ (List.getElem?_eq_getElem hi)).forms
  refine ⟨b, o, e, ?_, ?_, ?_, ?_⟩
  · have := hc 0 (by omega); rw [f0] at this ⊢; exact this
  · have := hc 1 (by omega); rw [f1] at this ⊢; exact this
  · have := hc 2 (by omega); rw [f2] at this ⊢; exact this
  · have := hc 3 (by omega); rw [f3] at this ⊢; exact this
end Go.Proofs.YtpbolcjcmkmalaaGreatDoor
namespace Go.Proofs.YtpbolcjcmkmalaaGreatDoor
open Go.RowKit Go.Extern.Stop Go.Stop Go.Extern

def longB (s : ByteArray) : Bool := decide (300 < s.size)
noncomputable def badB (s : ByteArray) : Bool := !lineB s
theorem longQ_any (s : ByteArray) (hs : s.size ≤ 1000000) (w : World) : Calls Tryz.prog 97 #[.string s] w fun e w' => e = .returned (.bool (longB s)) ∧ w' = w := by
  have hb : longB s = decide ((300 : Int) < (s.size : Int)) := by unfold longB; rw [decide_eq_decide]; omega
  rw [hb]
  clear hb
  go_enter Tryz.func97, Tryz.ntmps97
  go_wp2
  go_ret
  exact ⟨rfl, rfl⟩
theorem long1_any (s : ByteArray) (hs : s.size ≤ 1000000) (w : World) : Calls Tryz.prog 97 #[.string s] w fun e w' => e = .returned (.bool (longB s)) ∧ Below w.heap.size w w' :=
  (longQ_any s hs w).mono fun e w' ⟨h1, h2⟩ => ⟨h1, by rw [h2]; exact Below.refl _ _⟩
theorem bad1_any (s : ByteArray) (hs : s.size ≤ 1000000) (w : World) : Calls Tryz.prog 102 #[.string s] w fun e w' => e = .returned (.bool (badB s)) ∧ Below w.heap.size w w' := by
  have HC := hidLL (isLine_any s (by omega) w)
  unfold badB
  generalize lineB s = b at *
  go_enter Tryz.func102, Tryz.ntmps102
  go_wp2_with fail
  refine HC.out.mono ?_
  rintro e w1 ⟨rfl, hb1⟩
  have HB := hidLL hb1
  clear hb1
  go_wp2
  go_ret
  exact ⟨rfl, HB.out⟩
set_option maxHeartbeats 1000000 in
theorem long_idx (n : Nat) (la : Option Addr) (lc : Nat) (L : Nat → ByteArray) (w : World) (hn : n ≤ 100000) (hL : ∀ i, i < n → (L i).size ≤ 1000000) (hk : ∀ i, i < n → ∃ b o, la = some ⟨b, o, none⟩ ∧ w.cell? ⟨b, o + i, none⟩ = some (.string (L i))) :
    Calls Tryz.prog 121 #[.slice la n lc, .func (.func 97) #[] #[]] w fun e w' => (∃ k : Int, e = .returned (.int .i64 k) ∧ -1 ≤ k ∧ (0 ≤ k ↔ ∃ i, i < n ∧ longB (L i) = true)) ∧ Below w.heap.size w w' := by
  go_enter Tryz.func121, Tryz.ntmps121
  go_wp2_with fail
  go_loopw [8] (fun t wr => ∃ i : Nat, i ≤ n ∧ t = .int .i64 i ∧ Below w.heap.size w wr ∧ ∀ j, j < i → longB (L j) = false) (fun t _ => (n - RowKit.intOf t).toNat)
  case atStart => exact ⟨0, by omega, rfl, Below.refl _ _, fun j hj => by omega⟩
  case round =>
    obtain ⟨i, hi, rfl, hb, hno⟩ := hrel
    have HB := hidLL hb
    have HN := hidLL hno
    clear hb hno
    by_cases hin : i < n
    · obtain ⟨b, o, rfl, c0⟩ := hk i hin
      have hiz : (i : Int) < n := by omega
      have d0 := (HB.out.cell (p := ⟨b, o + i, none⟩) (cell_lt c0)).trans c0
      have HC := hidLL (fun W => long1_any (L i) (hL i hin) W)
      have HK := hidLL hk
      clear c0 hk
      cases hq : longB (L i)
      · rw [hq] at HC
        have HQ := hidLL hq
        clear hq
        go_wp2_with fail
        refine (HC.out wr).mono ?_
        rintro e w1 ⟨rfl, hb1⟩
        have HB1 := hidLL (HB.out.trans (hb1.mono HB.out.size))
        clear hb1
        go_wp2
        go_roundw
        case rel =>
          refine ⟨i + 1, by omega, by go_num, HB1.out, fun j hj => ?_⟩
          rcases Nat.lt_or_ge j i with h | h
          · exact HN.out j h
          · obtain rfl : j = i := by omega
            exact HQ.out
        case measure => simp [RowKit.intOf]; omega
      · rw [hq] at HC
        have HQ := hidLL hq
        clear hq
        go_wp2_with fail
        refine (HC.out wr).mono ?_
        rintro e w1 ⟨rfl, hb1⟩
        have HB1 := hidLL (HB.out.trans (hb1.mono HB.out.size))
        clear hb1
        go_wp2
        go_ret
        exact ⟨⟨i, rfl, by omega, ⟨fun _ => ⟨i, hin, HQ.out⟩, fun _ => by omega⟩⟩, HB1.out⟩
    · obtain rfl : i = n := by omega
      clear hk
      go_wp2
      go_ret
      refine ⟨⟨-1, rfl, by omega, ⟨fun h => by omega, ?_⟩⟩, HB.out⟩
      rintro ⟨j, hj, hq⟩
      have := HN.out j hj
      rw [this] at hq
      cases hq
theorem long_has (ls : List ByteArray) (la : Option Addr) (lc : Nat) (w : World) (hn : ls.length ≤ 100000) (hL : ∀ s ∈ ls, s.size ≤ 1000000) (hk : ∀ i s, ls[i]? = some s → ∃ b o, la = some ⟨b, o, none⟩ ∧ w.cell? ⟨b, o + i, none⟩ = some (.string s)) :
    Calls Tryz.prog 98 #[.slice la ls.length lc, .func (.func 97) #[] #[]] w fun e w' => e = .returned (.bool (ls.any longB)) ∧ Below w.heap.size w w' := by
  have HC := hidLL (long_idx ls.length la lc (fun i => ls.getD i ⟨#[]⟩) w hn (fun i hi => hL _ (by rw [List.getD_eq_getElem?_getD, List.getElem?_eq_getElem hi]; exact List.getElem_mem hi)) (fun i hi => by
    obtain ⟨b, o, h1, h2⟩ := hk i _ (List.getElem?_eq_getElem hi)
    refine ⟨b, o, h1, ?_⟩
    rw [List.getD_eq_getElem?_getD, List.getElem?_eq_getElem hi]
    exact h2))
  have HA : Hid (∀ k : Int, (0 ≤ k ↔ ∃ i, i < ls.length ∧ longB (ls.getD i ⟨#[]⟩) = true) → decide (0 ≤ k) = ls.any longB) := fun k hk => by
    rw [Bool.eq_iff_iff, decide_eq_true_iff, hk, List.any_eq_true]
    constructor
    · rintro ⟨i, hi, h⟩
      rw [List.getD_eq_getElem?_getD, List.getElem?_eq_getElem hi] at h
      exact ⟨ls[i], List.getElem_mem hi, h⟩
    · rintro ⟨x, hx, h⟩
      obtain ⟨i, hi, rfl⟩ := List.getElem_of_mem hx
      refine ⟨i, hi, ?_⟩
      rw [List.getD_eq_getElem?_getD, List.getElem?_eq_getElem hi]
      exact h
  clear hk hL
  generalize ls.length = n at *
  generalize ls.any longB = an at *
  go_enter Tryz.func98, Tryz.ntmps98
  go_wp2_with fail
  refine HC.out.mono ?_
  rintro e w1 ⟨⟨k, rfl, hk1, hk2⟩, hb1⟩
  have H2 := hidLL (HA.out k hk2)
  have HB := hidLL hb1
  clear hk2 hb1
  go_wp2
  go_ret
  exact ⟨ret_b H2.out, HB.out⟩
set_option maxHeartbeats 1000000 in
theorem bad_idx (n : Nat) (la : Option Addr) (lc : Nat) (L : Nat → ByteArray) (w : World) (hn : n ≤ 100000) (hL : ∀ i, i < n → (L i).size ≤ 1000000) (hk : ∀ i, i < n → ∃ b o, la = some ⟨b, o, none⟩ ∧ w.cell? ⟨b, o + i, none⟩ = some (.string (L i))) :
    Calls Tryz.prog 121 #[.slice la n lc, .func (.func 102) #[] #[]] w fun e w' => (∃ k : Int, e = .returned (.int .i64 k) ∧ -1 ≤ k ∧ (0 ≤ k ↔ ∃ i, i < n ∧ badB (L i) = true)) ∧ Below w.heap.size w w' := by
  go_enter Tryz.func121, Tryz.ntmps121
  go_wp2_with fail
  go_loopw [8] (fun t wr => ∃ i : Nat, i ≤ n ∧ t = .int .i64 i ∧ Below w.heap.size w wr ∧ ∀ j, j < i → badB (L j) = false) (fun t _ => (n - RowKit.intOf t).toNat)
  case atStart => exact ⟨0, by omega, rfl, Below.refl _ _, fun j hj => by omega⟩
  case round =>
    obtain ⟨i, hi, rfl, hb, hno⟩ := hrel
    have HB := hidLL hb
    have HN := hidLL hno
    clear hb hno
    by_cases hin : i < n
    · obtain ⟨b, o, rfl, c0⟩ := hk i hin
      have hiz : (i : Int) < n := by omega
      have d0 := (HB.out.cell (p := ⟨b, o + i, none⟩) (cell_lt c0)).trans c0
      have HC := hidLL (fun W => bad1_any (L i) (hL i hin) W)
      have HK := hidLL hk
      clear c0 hk
      cases hq : badB (L i)
      · rw [hq] at HC
        have HQ := hidLL hq
        clear hq
        go_wp2_with fail
        refine (HC.out wr).mono ?_
        rintro e w1 ⟨rfl, hb1⟩
        have HB1 := hidLL (HB.out.trans (hb1.mono HB.out.size))
        clear hb1
        go_wp2
        go_roundw
        case rel =>
          refine ⟨i + 1, by omega, by go_num, HB1.out, fun j hj => ?_⟩
          rcases Nat.lt_or_ge j i with h | h
          · exact HN.out j h
          · obtain rfl : j = i := by omega
            exact HQ.out
        case measure => simp [RowKit.intOf]; omega
      · rw [hq] at HC
        have HQ := hidLL hq
        clear hq
        go_wp2_with fail
        refine (HC.out wr).mono ?_
        rintro e w1 ⟨rfl, hb1⟩
        have HB1 := hidLL (HB.out.trans (hb1.mono HB.out.size))
        clear hb1
        go_wp2
        go_ret
        exact ⟨⟨i, rfl, by omega, ⟨fun _ => ⟨i, hin, HQ.out⟩, fun _ => by omega⟩⟩, HB1.out⟩
    · obtain rfl : i = n := by omega
      clear hk
      go_wp2
      go_ret
      refine ⟨⟨-1, rfl, by omega, ⟨fun h => by omega, ?_⟩⟩, HB.out⟩
      rintro ⟨j, hj, hq⟩
      have := HN.out j hj
      rw [this] at hq
      cases hq
theorem bad_has (ls : List ByteArray) (la : Option Addr) (lc : Nat) (w : World) (hn : ls.length ≤ 100000) (hL : ∀ s ∈ ls, s.size ≤ 1000000) (hk : ∀ i s, ls[i]? = some s → ∃ b o, la = some ⟨b, o, none⟩ ∧ w.cell? ⟨b, o + i, none⟩ = some (.string s)) :
    Calls Tryz.prog 98 #[.slice la ls.length lc, .func (.func 102) #[] #[]] w fun e w' => e = .returned (.bool (ls.any badB)) ∧ Below w.heap.size w w' := by
  have HC := hidLL (bad_idx ls.length la lc (fun i => ls.getD i ⟨#[]⟩) w hn (fun i hi => hL _ (by rw [List.getD_eq_getElem?_getD, List.getElem?_eq_getElem hi]; exact List.getElem_mem hi)) (fun i hi => by
    obtain ⟨b, o, h1, h2⟩ := hk i _ (List.getElem?_eq_getElem hi)
    refine ⟨b, o, h1, ?_⟩
    rw [List.getD_eq_getElem?_getD, List.getElem?_eq_getElem hi]
    exact h2))
  have HA : Hid (∀ k : Int, (0 ≤ k ↔ ∃ i, i < ls.length ∧ badB (ls.getD i ⟨#[]⟩) = true) → decide (0 ≤ k) = ls.any badB) := fun k hk => by
    rw [Bool.eq_iff_iff, decide_eq_true_iff, hk, List.any_eq_true]
    constructor
    · rintro ⟨i, hi, h⟩
      rw [List.getD_eq_getElem?_getD, List.getElem?_eq_getElem hi] at h
      exact ⟨ls[i], List.getElem_mem hi, h⟩
    · rintro ⟨x, hx, h⟩
      obtain ⟨i, hi, rfl⟩ := List.getElem_of_mem hx
      refine ⟨i, hi, ?_⟩
      rw [List.getD_eq_getElem?_getD, List.getElem?_eq_getElem hi]
      exact h
  clear hk hL
  generalize ls.length = n at *
  generalize ls.any badB = an at *
  go_enter Tryz.func98, Tryz.ntmps98
  go_wp2_with fail
  refine HC.out.mono ?_
  rintro e w1 ⟨⟨k, rfl, hk1, hk2⟩, hb1⟩
  have H2 := hidLL (HA.out k hk2)
  have HB := hidLL hb1
  clear hk2 hb1
  go_wp2
  go_ret
  exact ⟨ret_b H2.out, HB.out⟩
end Go.Proofs.YtpbolcjcmkmalaaGreatDoor
namespace Go.Proofs.YtpbolcjcmkmalaaGreatDoor
open Go.ChangeShapes Go.WideShapes Go.ChangeAt Go.WideMaps Go.WideElems Go.RowKit

def sizeBs : List ByteArray → Nat
  | [] => 0
  | s :: r => s.size + 1 + sizeBs r
mutual
/-- How much there is of a law. -/
def sizeIt : It → Nat
  | .mk a b c d => a.size + b.size + sizeBs c + sizeIts d + 1
def sizeIts : List It → Nat
  | [] => 0
  | t :: r => sizeIt t + sizeIts r
end
/-- The text of a reading. -/
def textOf {H : Type} : DataW H → ByteArray
  | .lit (.string l) => ⟨l.toArray⟩
  | _ => ⟨#[]⟩
theorem textOf_size {H : Type} (d : DataW H) : (textOf d).size + 1 ≤ Rows.uptoBulk d + 1 := by
  unfold textOf
  split
  · rw [Rows.uptoBulk]
    show (List.toArray _).size + 1 ≤ _
    rw [List.size_toArray]; omega
  · show 0 + 1 ≤ _
    omega
theorem texts_size {H : Type} : ∀ (l : List (DataW H)), (∀ d ∈ l, ∃ bs, d = .lit (.string bs)) → sizeBs (l.map textOf) ≤ Rows.uptoBulkAll l
  | [], _ => by simp [sizeBs]
  | d :: r, h => by
    obtain ⟨bs, rfl⟩ := h d (by simp)
    have ih := texts_size r (fun x hx => h x (List.mem_cons_of_mem _ hx))
    rw [List.map_cons, sizeBs, Rows.uptoBulkAll, Rows.uptoBulk]
    have : (textOf (H := H) (.lit (.string bs))).size = bs.length := by
      show (List.toArray _).size = _
      rw [List.size_toArray]
    omega
theorem its_size {H : Type} : ∀ (l : List (DataW H)) (T : Nat → It), (∀ i d, l[i]? = some d → sizeIt (T i) ≤ Rows.uptoBulk d) → sizeIts ((List.range l.length).map T) ≤ Rows.uptoBulkAll l
  | [], T, _ => by simp [sizeIts]
  | d :: r, T, h => by
    have ih := its_size r (fun i => T (i + 1)) (fun i d hd => h (i + 1) d (by simpa using hd))
    have h0 := h 0 d rfl
    rw [List.length_cons, List.range_succ_eq_map, List.map_cons, List.map_map, sizeIts, Rows.uptoBulkAll]
    have e : (T ∘ Nat.succ) = fun i => T (i + 1) := rfl
    rw [e]
    omega
section
variable {H : Type} {enc : TypeId × Value → H} {W : World}
theorem spot_none {a : Addr} {u : Value} (h : W.cell? a = some u) : ∃ b o, a = ⟨b, o, none⟩ := by
  obtain ⟨b, o, sp⟩ := a
  have hs := World.cell?_spot h
  have hs' : sp = none := hs
  subst hs'
  exact ⟨b, o, rfl⟩
theorem addr_plus (b o j : Nat) : (⟨b, o, none⟩ : Addr).add j = ⟨b, o + j, none⟩ := by cases j <;> simp [Addr.add]
theorem cells_at {a : Addr} {n : Nat} {cs : List Value} (h : W.cells? 0 a n = some cs) : cs.length = n ∧ ∀ i, i < n → W.cell? (a.add i) = cs[i]? := by
  unfold World.cells? at h
  rw [if_pos (Nat.zero_le _)] at h
  have hl := mapM_some_length h
  rw [List.length_range] at hl
  exact ⟨hl, fun i hi => mapM_some_get h i i (by rw [List.getElem?_range hi])⟩
/-- A row of texts' reading. -/
theorem lines_trod {fuel : Nat} {cs : List Value} {x : DataW H × List MemPlace} (h : DataW.trod enc Tryz.prog W 0 (fun _ => true) true fuel 22 cs = some x) :
    ∃ (la : Option Addr) (lc : Nat) (ls : List ByteArray), cs = [.slice la ls.length lc] ∧ ls.length ≤ lc ∧ (∀ i s, ls[i]? = some s → ∃ b o, la = some ⟨b, o, none⟩ ∧ W.cell? ⟨b, o + i, none⟩ = some (.string s)) ∧ sizeBs ls ≤ Rows.uptoBulk x.1 := by
  rcases DataW.trod_slice Tryz.underlying22 h with ⟨rfl, rfl⟩ | ⟨a, len, cap, elems, rest, n, rfl, rfl, rfl, _, hlc, hcm, hlen, hel, _⟩
  · refine ⟨none, 0, [], rfl, Nat.le_refl _, ?_, Nat.zero_le _⟩
    intro i s e
    cases e
  · have hc1 : Tryz.prog.cellsOf 9 = 1 := by kernel_rfl
    rw [hc1] at hel
    have hone : ∀ i, i < len → ∃ s : ByteArray, W.cell? (a.add i) = some (.string s) ∧ (elems.map (·.1))[i]? = some (.lit (.string s.data.toList)) := fun i hi => by
      have h1 := hel i hi
      rw [Nat.mul_one] at h1
      obtain ⟨y, hy⟩ : ∃ y, elems[i]? = some y := ⟨_, List.getElem?_eq_getElem (by omega)⟩
      rw [hy, Option.bind_eq_some_iff] at h1
      obtain ⟨c1, h2, h3⟩ := h1
      obtain ⟨s, rfl, hx, _⟩ := DataW.trod_string Tryz.underlying9 h3
      have h4 := (cells_at h2).2 0 (by omega)
      have e0 : (a.add i).add 0 = a.add i := by simp [Addr.add]
      rw [e0] at h4
      exact ⟨s, h4, by rw [List.getElem?_map, hy, hx]; rfl⟩
    refine ⟨some a, cap, (elems.map (·.1)).map textOf, by simp [hlen], by simp [hlen]; exact hlc, fun i s e => ?_, ?_⟩
    · have hi : i < len := by
        have := (List.getElem?_eq_some_iff.1 e).1
        simp at this; omega
      obtain ⟨s', h1, h2⟩ := hone i hi
      rw [List.getElem?_map, h2] at e
      injection e with e
      have es : s = s' := by rw [← e]; rfl
      subst es
      obtain ⟨s0, h10, _⟩ := hone 0 (by omega)
      rw [show a.add 0 = a by simp [Addr.add]] at h10
      obtain ⟨b, o', ha⟩ := spot_none h10
      subst ha
      refine ⟨b, o', rfl, ?_⟩
      rw [addr_plus] at h1
      exact h1
    · rw [Rows.uptoBulk]
      have := texts_size (elems.map (·.1)) (fun d hd => by
        obtain ⟨i, hi, rfl⟩ := List.getElem_of_mem hd
        obtain ⟨s, _, h2⟩ := hone i (by simpa [hlen] using hi)
        rw [List.getElem?_eq_getElem hi] at h2
        injection h2 with h2
        exact ⟨_, h2⟩)
      omega
set_option maxRecDepth 100000 in
/-- An item's reading. -/
theorem item_trod : ∀ (fuel : Nat) (cs : List Value) (x : DataW H × List MemPlace), DataW.trod enc Tryz.prog W 0 (fun _ => true) true fuel 25 cs = some x → ∃ (t : It) (v : Nat → Value), cs = [v 0, v 1, v 2, v 3] ∧ Lies W (fun _ => True) v t ∧ sizeIt t ≤ Rows.uptoBulk x.1 := by
  intro fuel
  induction fuel using Nat.strongRecOn with
  | ind fuel ih =>
    intro cs x h
    obtain ⟨xs, n, hfu, rfl, hl, hlen, hf⟩ := DataW.trod_struct Tryz.underlying25 h
    have h4 : Tryz.prog.cellsOf 25 = 4 := by kernel_rfl
    have hcs : Tryz.prog.cellsOf 9 = 1 := by kernel_rfl
    have hcl : Tryz.prog.cellsOf 22 = 1 := by kernel_rfl
    have hck : Tryz.prog.cellsOf 23 = 1 := by kernel_rfl
    rw [h4] at hl
    obtain ⟨c0, c1, c2, c3, rfl⟩ : ∃ c0 c1 c2 c3, cs = [c0, c1, c2, c3] := by
      match cs, hl with
      | [a, b, c, d], _ => exact ⟨a, b, c, d, rfl⟩
    obtain ⟨y0, y1, y2, y3, rfl⟩ : ∃ y0 y1 y2 y3, xs = [y0, y1, y2, y3] := by
      have hlen : xs.length = 4 := hlen
      match xs, hlen with
      | [a, b, c, d], _ => exact ⟨a, b, c, d, rfl⟩
    have t0 := hf 0 _ rfl
    have t1 := hf 1 _ rfl
    have t2 := hf 2 _ rfl
    have t3 := hf 3 _ rfl
    change DataW.trod enc Tryz.prog W 0 (fun _ => true) true n 9 ((List.drop 0 [c0, c1, c2, c3]).take (Tryz.prog.cellsOf 9)) = some y0 at t0
    change DataW.trod enc Tryz.prog W 0 (fun _ => true) true n 9 ((List.drop 1 [c0, c1, c2, c3]).take (Tryz.prog.cellsOf 9)) = some y1 at t1
    change DataW.trod enc Tryz.prog W 0 (fun _ => true) true n 22 ((List.drop 2 [c0, c1, c2, c3]).take (Tryz.prog.cellsOf 22)) = some y2 at t2
    change DataW.trod enc Tryz.prog W 0 (fun _ => true) true n 23 ((List.drop 3 [c0, c1, c2, c3]).take (Tryz.prog.cellsOf 23)) = some y3 at t3
    rw [hcs] at t0 t1
    rw [hcl] at t2
    rw [hck] at t3
    change DataW.trod enc Tryz.prog W 0 (fun _ => true) true n 9 [c0] = some y0 at t0
    change DataW.trod enc Tryz.prog W 0 (fun _ => true) true n 9 [c1] = some y1 at t1
    change DataW.trod enc Tryz.prog W 0 (fun _ => true) true n 22 [c2] = some y2 at t2
    change DataW.trod enc Tryz.prog W 0 (fun _ => true) true n 23 [c3] = some y3 at t3
    obtain ⟨s0, e0, x0, _⟩ := DataW.trod_string Tryz.underlying9 t0
    obtain ⟨s1, e1, x1, _⟩ := DataW.trod_string Tryz.underlying9 t1
    obtain ⟨la, lc, ls, e2, hlcap, hls, x2⟩ := lines_trod t2
    have e0 : c0 = .string s0 := by injection e0
    have e1 : c1 = .string s1 := by injection e1
    have e2 : c2 = .slice la ls.length lc := by injection e2
    subst e0 e1 e2 x0 x1
    have hK : ∃ (ka : Option Addr) (kc : Nat) (ks : List It) (V : Nat → Nat → Value), c3 = .slice ka ks.length kc ∧ ks.length ≤ kc ∧ (∀ i, i < ks.length → ∃ b o, ka = some ⟨b, o, none⟩ ∧ True ∧ ∀ c, c < 4 → W.cell? ⟨b, o + i * 4 + c, none⟩ = some (V i c)) ∧ (∀ i k, ks[i]? = some k → Lies W (fun _ => True) (V i) k) ∧ sizeIts ks ≤ Rows.uptoBulk y3.1 := by
      rcases DataW.trod_slice Tryz.underlying23 t3 with ⟨h1, rfl⟩ | ⟨a, len, cap, elems, rest, m, hnm, h1, rfl, _, hlc, hcm, helen, hel, _⟩
      · have h1 : c3 = .slice none 0 0 := by injection h1
        refine ⟨none, 0, [], fun _ _ => .nilIface, h1, Nat.le_refl _, ?_, ?_, Nat.zero_le _⟩
        · intro i hi
          exact absurd hi (Nat.not_lt_zero _)
        · intro i k e
          cases e
      · have h1 : c3 = .slice (some a) len cap := by injection h1
        rw [h4] at hel
        have hone : ∀ i, i < len → ∃ (t : It) (v : Nat → Value), (∀ c, c < 4 → W.cell? ((a.add (i * 4)).add c) = some (v c)) ∧ Lies W (fun _ => True) v t ∧ ∀ d, (elems.map (·.1))[i]? = some d → sizeIt t ≤ Rows.uptoBulk d := fun i hi => by
          have h2 := hel i hi
          obtain ⟨y, hy⟩ : ∃ y, elems[i]? = some y := ⟨_, List.getElem?_eq_getElem (by omega)⟩
          rw [hy, Option.bind_eq_some_iff] at h2
          obtain ⟨cs1, h3, h5⟩ := h2
          obtain ⟨t, v, rfl, hL, hz⟩ := ih m (by omega) cs1 y h5
          refine ⟨t, v, fun c hc => ?_, hL, fun d hd => ?_⟩
          · rw [(cells_at h3).2 c hc]
            match c, hc with
            | 0, _ => rfl
            | 1, _ => rfl
            | 2, _ => rfl
            | 3, _ => rfl
          · rw [List.getElem?_map, hy] at hd
            injection hd with hd
            rw [← hd]; exact hz
        let T : Nat → It := fun i => if hi : i < len then Classical.choose (hone i hi) else It.none
        have hT : ∀ i (hi : i < len), T i = Classical.choose (hone i hi) := fun i hi => by simp only [T]; rw [dif_pos hi]
        let V : Nat → Nat → Value := fun i => if hi : i < len then Classical.choose (Classical.choose_spec (hone i hi)) else fun _ => .nilIface
        have hV : ∀ i (hi : i < len), V i = Classical.choose (Classical.choose_spec (hone i hi)) := fun i hi => by simp only [V]; rw [dif_pos hi]
        have hS : ∀ i (hi : i < len), (∀ c, c < 4 → W.cell? ((a.add (i * 4)).add c) = some (V i c)) ∧ Lies W (fun _ => True) (V i) (T i) ∧ ∀ d, (elems.map (·.1))[i]? = some d → sizeIt (T i) ≤ Rows.uptoBulk d := fun i hi => by
          rw [hT i hi, hV i hi]
          exact Classical.choose_spec (Classical.choose_spec (hone i hi))
        refine ⟨some a, cap, (List.range len).map T, V, by rw [List.length_map, List.length_range]; exact h1, by rw [List.length_map, List.length_range]; exact hlc, fun i hi => ?_, fun i k e => ?_, ?_⟩
        · have hi : i < len := by simpa using hi
          obtain ⟨g1, _, _⟩ := hS i hi
          have g0 := (hS 0 (by omega)).1 0 (by omega)
          rw [show (a.add (0 * 4)).add 0 = a by simp [Addr.add]] at g0
          obtain ⟨b, o', ha⟩ := spot_none g0
          refine ⟨b, o', by rw [ha], trivial, fun c hc => ?_⟩
          have g2 := g1 c hc
          rw [ha, addr_plus, addr_plus] at g2
          exact g2
        · have hi : i < len := by
            have := (List.getElem?_eq_some_iff.1 e).1
            simpa using this
          rw [List.getElem?_map, List.getElem?_range hi] at e
          injection e with e
          rw [← e]
          exact (hS i hi).2.1
        · rw [Rows.uptoBulk]
          have hz := its_size (elems.map (·.1)) T (fun i d hd => (hS i (by have := (List.getElem?_eq_some_iff.1 hd).1; simpa [helen] using this)).2.2 d hd)
          rw [List.length_map, helen] at hz
          omega
    obtain ⟨ka, kc, ks, V, e3, hkcap, hk, hr, x3⟩ := hK
    subst e3
    refine ⟨It.mk s0 s1 ls ks, fun i => match i with | 0 => .string s0 | 1 => .string s1 | 2 => .slice la ls.length lc | _ => .slice ka ks.length kc, rfl, ?_, ?_⟩
    · exact .mk _ _ la ka lc kc V rfl rfl rfl rfl (fun i s e => by obtain ⟨b, o, h1, h2⟩ := hls i s e; exact ⟨b, o, h1, trivial, h2⟩) hk hr hlcap hkcap
    · rw [sizeIt]
      show _ ≤ Rows.uptoBulk (.agg [.lit (.string s0.data.toList), .lit (.string s1.data.toList), y2.1, y3.1])
      rw [Rows.uptoBulk, Rows.uptoBulkAll, Rows.uptoBulkAll, Rows.uptoBulkAll, Rows.uptoBulkAll, Rows.uptoBulkAll, Rows.uptoBulk, Rows.uptoBulk]
      have z0 : s0.data.toList.length = s0.size := by simp
      have z1 : s1.data.toList.length = s1.size := by simp
      omega
end
end Go.Proofs.YtpbolcjcmkmalaaGreatDoor
namespace Go.Proofs.YtpbolcjcmkmalaaGreatDoor
open Go.RowKit

def lines400 : List ByteArray → Nat
  | [] => 0
  | s :: r => s.size / 400 + lines400 r
mutual
def smallN : Nat → It → Nat
  | d, .mk a b c k => if 12 < d then 1000 else smallK d (1 + c.length + (b.size + a.size) / 400 + lines400 c) k
def smallK : Nat → Nat → List It → Nat
  | _, n, [] => n
  | d, n, t :: r => if n < 1000 then smallK d (n + smallN (d + 1) t) r else n
end
theorem lines400_le : ∀ l : List ByteArray, l.length + lines400 l ≤ sizeBs l
  | [] => by simp [lines400, sizeBs]
  | s :: r => by
    have := lines400_le r
    rw [lines400, sizeBs, List.length_cons]
    omega
theorem lines400_snoc : ∀ (l : List ByteArray) (s : ByteArray), lines400 (l ++ [s]) = lines400 l + s.size / 400
  | [], s => by simp [lines400]
  | x :: r, s => by rw [List.cons_append, lines400, lines400, lines400_snoc r s]; omega
theorem lines400_take (l : List ByteArray) (i : Nat) (s : ByteArray) (h : l[i]? = some s) : lines400 (l.take (i + 1)) = lines400 (l.take i) + s.size / 400 := by
  obtain ⟨hi, e⟩ := List.getElem?_eq_some_iff.1 h
  rw [List.take_succ_eq_append_getElem hi, e, lines400_snoc]
theorem lines400_all (l : List ByteArray) (i : Nat) : lines400 (l.take i) ≤ lines400 l := by
  have : ∀ (l : List ByteArray) (i : Nat), lines400 (l.take i) ≤ lines400 l := by
    intro l
    induction l with
    | nil => intro i; simp [lines400]
    | cons s r ih =>
      intro i
      cases i with
      | zero => simp [lines400]
      | succ i => rw [List.take_succ_cons, lines400, lines400]; have := ih i; omega
  exact this l i
theorem sizeIt_eq (t : It) : sizeIt t = t.label.size + t.head.size + sizeBs t.lines + sizeIts t.kids + 1 := by
  cases t; rw [sizeIt]; rfl
theorem smallN_eq (d : Nat) (t : It) : smallN d t = if 12 < d then 1000 else smallK d (1 + t.lines.length + (t.head.size + t.label.size) / 400 + lines400 t.lines) t.kids := by
  cases t; rw [smallN]; rfl
theorem sizeIts_mem : ∀ {l : List It} {t : It}, t ∈ l → sizeIt t ≤ sizeIts l
  | a :: r, t, h => by
    rw [sizeIts]
    rcases List.mem_cons.1 h with rfl | h
    · omega
    · have := sizeIts_mem h; omega
theorem sizeIts_len : ∀ l : List It, l.length ≤ sizeIts l
  | [] => by simp [sizeIts]
  | a :: r => by
    have := sizeIts_len r
    have h1 := sizeIt_eq a
    rw [List.length_cons, sizeIts]; omega
theorem kid_size {t k : It} (h : k ∈ t.kids) : sizeIt k < sizeIt t := by
  have := sizeIts_mem h
  have := sizeIt_eq t
  omega
/-- The count is bounded. -/
theorem small_bd : ∀ (N : Nat) (t : It), sizeIt t ≤ N → ∀ d, smallN d t ≤ 1000 * sizeIt t + 1000
  | 0, t, h, d => by have := sizeIt_eq t; omega
  | N + 1, t, h, d => by
    rw [smallN_eq]
    split
    · have := sizeIt_eq t; omega
    · have h1 := sizeIt_eq t
      have h2 := lines400_le t.lines
      have hk : ∀ (l : List It) (n : Nat), (∀ k ∈ l, sizeIt k < sizeIt t) → n ≤ 1000 * sizeIt t + 1000 → smallK d n l ≤ 1000 * sizeIt t + 1000 := by
        intro l
        induction l with
        | nil => intro n _ hn; rw [smallK]; exact hn
        | cons k r ih =>
          intro n hkk hn
          rw [smallK]
          split
          · have h3 := hkk k (by simp)
            have h4 := small_bd N k (by omega) (d + 1)
            exact ih _ (fun x hx => hkk x (List.mem_cons_of_mem _ hx)) (by omega)
          · exact hn
      exact hk t.kids _ (fun k hk => kid_size hk) (by omega)
theorem smallK_step {d n i : Nat} {l : List It} {t : It} (h : l[i]? = some t) (hn : n < 1000) : smallK d n (l.drop i) = smallK d (n + smallN (d + 1) t) (l.drop (i + 1)) := by
  obtain ⟨hi, e⟩ := List.getElem?_eq_some_iff.1 h
  rw [List.drop_eq_getElem_cons hi, e, smallK, if_pos hn]
theorem smallK_stop {d n i : Nat} {l : List It} (h : 1000 ≤ n) : smallK d n (l.drop i) = n := by
  cases l.drop i with
  | nil => rw [smallK]
  | cons a r => rw [smallK, if_neg (by omega)]
theorem smallK_end {d n i : Nat} {l : List It} (h : l.length ≤ i) : smallK d n (l.drop i) = n := by
  rw [List.drop_eq_nil_of_le h, smallK]
end Go.Proofs.YtpbolcjcmkmalaaGreatDoor
namespace Go.Proofs.YtpbolcjcmkmalaaGreatDoor
open Go.RowKit Go.Extern.Stop Go.Stop Go.Extern

def greatB (t : It) : Bool := decide (40 < t.lines.length) || (longB t.head || t.lines.any longB)
noncomputable def labelOk (d : Nat) (ah : List It) (t : It) : Bool := if d = 0 then decide (t.label.size = 0) else isLab t.label && !(ah.any fun k => k.label.toList == t.label.toList)
noncomputable def textsOk (t : It) : Bool := lineB t.head && !(t.lines.any badB)
/-- What a look at a law tells: an error's number, or how many provisions there were. -/
inductive VOut where
  | bad (c : Nat)
  | ok (n : Nat)
mutual
noncomputable def vIt : Nat → Nat → List It → It → VOut
  | d, n, ah, .mk a b c k => if 6 < d ∨ 300 < n ∨ greatB (.mk a b c k) = true then .bad 2 else if labelOk d ah (.mk a b c k) = false then .bad 7 else if textsOk (.mk a b c k) = false then .bad 1 else vKs d n [] k
noncomputable def vKs : Nat → Nat → List It → List It → VOut
  | _, n, _, [] => .ok n
  | d, n, ah, t :: r => match vIt (d + 1) (n + 1) ah t with
    | .bad c => .bad c
    | .ok m => vKs d m (ah ++ [t]) r
end
theorem vIt_eq (d n : Nat) (ah : List It) (t : It) : vIt d n ah t = if 6 < d ∨ 300 < n ∨ greatB t = true then .bad 2 else if labelOk d ah t = false then .bad 7 else if textsOk t = false then .bad 1 else vKs d n [] t.kids := by
  cases t; rw [vIt]; rfl
/-- A law of which there is not too much. -/
inductive FewIt : It → Prop
  | mk (t : It) (h1 : t.lines.length ≤ 1000) (h2 : t.kids.length ≤ 1000) (h3 : ∀ s ∈ t.lines, s.size ≤ 1000000) (h4 : t.head.size ≤ 1000000) (h5 : t.label.size ≤ 1000000) (h6 : ∀ k ∈ t.kids, FewIt k) : FewIt t
theorem FewIt.get {t : It} (h : FewIt t) : t.lines.length ≤ 1000 ∧ t.kids.length ≤ 1000 ∧ (∀ s ∈ t.lines, s.size ≤ 1000000) ∧ t.head.size ≤ 1000000 ∧ t.label.size ≤ 1000000 ∧ ∀ k ∈ t.kids, FewIt k := by
  cases h with
  | mk _ h1 h2 h3 h4 h5 h6 => exact ⟨h1, h2, h3, h4, h5, h6⟩
theorem lines400_mem : ∀ {l : List ByteArray} {s : ByteArray}, s ∈ l → s.size / 400 ≤ lines400 l
  | a :: r, s, h => by
    rw [lines400]
    rcases List.mem_cons.1 h with rfl | h
    · omega
    · have := lines400_mem h; omega
theorem smallK_le : ∀ (l : List It) (d n : Nat), smallK d n l ≤ 400 → n ≤ 400 ∧ l.length + n ≤ 400 + n ∧ ∀ k ∈ l, smallN (d + 1) k ≤ 400
  | [], d, n, h => by rw [smallK] at h; exact ⟨h, by simp, fun k hk => by cases hk⟩
  | t :: r, d, n, h => by
    rw [smallK] at h
    split at h
    · have h1 := smallK_le r d _ h
      refine ⟨by omega, ?_, ?_⟩
      · have h5 : ∀ (l : List It) (n : Nat), smallK d n l ≤ 400 → l.length + n ≤ 400 := by
          intro l
          induction l with
          | nil => intro n hn; rw [smallK] at hn; simpa using hn
          | cons k q ih =>
            intro n hn
            rw [smallK] at hn
            split at hn
            · have h6 := ih _ hn
              have h7 : 1 ≤ smallN (d + 1) k := by
                rw [smallN_eq]
                split
                · omega
                · have h8 : ∀ (l : List It) (n : Nat), n ≤ smallK (d + 1) n l := by
                    intro l
                    induction l with
                    | nil => intro n; rw [smallK]; exact Nat.le_refl _
                    | cons x y iy =>
                      intro n
                      rw [smallK]
                      split
                      · have := iy (n + smallN (d + 1 + 1) x); omega
                      · exact Nat.le_refl _
                  have := h8 k.kids (1 + k.lines.length + (k.head.size + k.label.size) / 400 + lines400 k.lines)
                  omega
              rw [List.length_cons]
              omega
            · omega
        have := h5 (t :: r) n (by rw [smallK, if_pos (by omega)]; exact h)
        omega
      · intro k hk
        rcases List.mem_cons.1 hk with rfl | hk
        · have := h1.1; omega
        · exact h1.2.2 k hk
    · omega
/-- What 'Few' lets by is few. -/
theorem few_it : ∀ (N : Nat) (t : It), sizeIt t ≤ N → ∀ d, smallN d t ≤ 400 → FewIt t
  | 0, t, h, d, _ => by have := sizeIt_eq t; omega
  | N + 1, t, h, d, hs => by
    rw [smallN_eq] at hs
    split at hs
    · omega
    · obtain ⟨h1, h2, h3⟩ := smallK_le _ _ _ hs
      refine .mk t (by omega) (by omega) (fun s hs => ?_) (by omega) (by omega) (fun k hk => few_it N k (by have := kid_size hk; omega) (d + 1) (h3 k hk))
      have := lines400_mem hs
      omega
theorem vKs_le : ∀ (l : List It) (d n : Nat) (ah : List It) (m : Nat), (∀ k ∈ l, ∀ d n ah m, vIt d n ah k = .ok m → m ≤ 300) → n ≤ 300 → vKs d n ah l = .ok m → m ≤ 300
  | [], d, n, ah, m, _, hn, h => by rw [vKs] at h; injection h with h; omega
  | t :: r, d, n, ah, m, hk, hn, h => by
    rw [vKs] at h
    split at h
    · cases h
    · rename_i m' hm'
      exact vKs_le r d m' _ m (fun k hx => hk k (List.mem_cons_of_mem _ hx)) (hk t (by simp) _ _ _ _ hm') h
theorem vIt_le : ∀ (N : Nat) (t : It), sizeIt t ≤ N → ∀ d n ah m, vIt d n ah t = .ok m → m ≤ 300
  | 0, t, h, d, n, ah, m, _ => by have := sizeIt_eq t; omega
  | N + 1, t, h, d, n, ah, m, hv => by
    rw [vIt_eq] at hv
    split at hv
    · cases hv
    · rename_i hc
      split at hv
      · cases hv
      · split at hv
        · cases hv
        · exact vKs_le t.kids d n [] m (fun k hk => vIt_le N k (by have := kid_size hk; omega)) (by omega) hv
theorem vKs_step {d n i : Nat} {l : List It} {t : It} (h : l[i]? = some t) : vKs d n (l.take i) (l.drop i) = match vIt (d + 1) (n + 1) (l.take i) t with | .bad c => .bad c | .ok m => vKs d m (l.take (i + 1)) (l.drop (i + 1)) := by
  obtain ⟨hi, e⟩ := List.getElem?_eq_some_iff.1 h
  rw [List.drop_eq_getElem_cons hi, e, vKs, List.take_succ_eq_append_getElem hi, e]
theorem vKs_end {d n i : Nat} {ah l : List It} (h : l.length ≤ i) : vKs d n ah (l.drop i) = .ok n := by
  rw [List.drop_eq_nil_of_le h, vKs]
end Go.Proofs.YtpbolcjcmkmalaaGreatDoor
namespace Go.Proofs.YtpbolcjcmkmalaaGreatDoor
open Go.RowKit Go.Extern.Stop Go.Stop Go.Extern

/-- A row: its item, how deep, which of its siblings it is, and they. -/
structure FRow where
  item : It
  deep : Nat
  nth : Nat
  up : List It
mutual
def flatIt : Nat → Nat → List It → It → List FRow
  | d, n, up, .mk a b c k => ⟨.mk a b c k, d, n, up⟩ :: flatKs (d + 1) 0 k k
def flatKs : Nat → Nat → List It → List It → List FRow
  | _, _, _, [] => []
  | d, n, up, t :: r => flatIt d n up t ++ flatKs d (n + 1) up r
end
theorem flatIt_eq (d n : Nat) (up : List It) (t : It) : flatIt d n up t = ⟨t, d, n, up⟩ :: flatKs (d + 1) 0 t.kids t.kids := by
  cases t; rw [flatIt]; rfl
/-- What is wrong with a row, if anything. -/
noncomputable def rowE (i : Nat) (r : FRow) : Nat :=
  if 6 < r.deep ∨ 300 < i ∨ greatB r.item = true then 2 else if labelOk r.deep (r.up.take r.nth) r.item = false then 7 else if textsOk r.item = false then 1 else 0
/-- The first row that is wrong; or how many rows there were. -/
noncomputable def scanF : Nat → List FRow → VOut
  | i, [] => .ok i
  | i, r :: l => if rowE i r = 0 then scanF (i + 1) l else .bad (rowE i r)
theorem scanF_app : ∀ (a b : List FRow) (i : Nat), scanF i (a ++ b) = match scanF i a with | .bad c => .bad c | .ok m => scanF m b
  | [], b, i => by rw [scanF]; rfl
  | r :: l, b, i => by
    rw [List.cons_append, scanF, scanF]
    split
    · exact scanF_app l b (i + 1)
    · rfl
def dec : VOut → VOut
  | .bad c => .bad c
  | .ok m => .ok (m - 1)
def inc : VOut → VOut
  | .bad c => .bad c
  | .ok m => .ok (m + 1)
theorem scan_it : ∀ (N : Nat) (t : It), sizeIt t ≤ N → ∀ (d n k : Nat) (up : List It), scanF n (flatIt d k up t) = inc (vIt d n (up.take k) t)
  | 0, t, h, d, n, k, up => by have := sizeIt_eq t; omega
  | N + 1, t, h, d, n, k, up => by
    have hks : ∀ (l all : List It) (m j : Nat), (∀ x ∈ l, sizeIt x ≤ N) → all.drop j = l → scanF (m + 1) (flatKs (d + 1) j all l) = inc (vKs d m (all.take j) l) := by
      intro l
      induction l with
      | nil => intro all m j _ _; rw [flatKs, scanF, vKs]; rfl
      | cons x r ih =>
        intro all m j hx hd
        have hj : all[j]? = some x := by
          have := congrArg (fun l => l[0]?) hd
          simpa using this
        obtain ⟨hjl, hje⟩ := List.getElem?_eq_some_iff.1 hj
        have hd2 : all.drop (j + 1) = r := by
          rw [List.drop_eq_getElem_cons hjl] at hd
          injection hd
        rw [flatKs, scanF_app, scan_it N x (hx x (by simp)) (d + 1) (m + 1) j all, vKs]
        cases hv : vIt (d + 1) (m + 1) (all.take j) x with
        | bad c => rfl
        | ok m' =>
          show scanF (m' + 1) (flatKs (d + 1) (j + 1) all r) = inc (vKs d m' (all.take j ++ [x]) r)
          rw [ih all m' (j + 1) (fun y hy => hx y (List.mem_cons_of_mem _ hy)) hd2, List.take_succ_eq_append_getElem hjl, hje]
    rw [flatIt_eq, scanF, vIt_eq]
    have hE : rowE n ⟨t, d, k, up⟩ = if 6 < d ∨ 300 < n ∨ greatB t = true then 2 else if labelOk d (up.take k) t = false then 7 else if textsOk t = false then 1 else 0 := rfl
    rw [hE]
    by_cases h1 : 6 < d ∨ 300 < n ∨ greatB t = true
    · rw [if_pos h1, if_pos h1, if_neg (by decide)]; rfl
    · rw [if_neg h1, if_neg h1]
      by_cases h2 : labelOk d (up.take k) t = false
      · rw [if_pos h2, if_pos h2, if_neg (by decide)]; rfl
      · rw [if_neg h2, if_neg h2]
        by_cases h3 : textsOk t = false
        · rw [if_pos h3, if_pos h3, if_neg (by decide)]; rfl
        · rw [if_neg h3, if_neg h3, if_pos rfl]
          have := hks t.kids t.kids n 0 (fun x hx => by have := kid_size hx; omega) (by rw [List.drop_zero])
          rw [this, List.take_zero]
/-- The look at the flat rows tells what the look at the law tells. -/
theorem scan_law (t : It) : scanF 0 (flatIt 0 0 [] t) = inc (vIt 0 0 [] t) := scan_it _ t (Nat.le_refl _) 0 0 0 []
end Go.Proofs.YtpbolcjcmkmalaaGreatDoor
namespace Go.Proofs.YtpbolcjcmkmalaaGreatDoor
open Go.RowKit Go.Extern.Stop Go.Stop Go.Extern

theorem bl_len (s : ByteArray) : (bl s).length = s.size := size_bl s
def bar : List UInt8 := [124]
def lawL : List UInt8 := [108, 97, 119]
def tailL (t : List UInt8) : List UInt8 := if t.length = 0 then [] else 32 :: t
/-- A line of the form. -/
def rowL (d : Nat) (f t : List UInt8) : List UInt8 := List.replicate (2 * d) 32 ++ (f ++ (tailL t ++ [10]))
def linesL (d : Nat) : List ByteArray → List UInt8
  | [] => []
  | s :: r => rowL d bar (bl s) ++ linesL d r
mutual
def contL : Nat → It → List UInt8
  | d, .mk _ _ c k => linesL d c ++ contKs d k
def contKs : Nat → List It → List UInt8
  | _, [] => []
  | d, t :: r => (rowL d (bl t.label) (bl t.head) ++ contL (d + 1) t) ++ contKs d r
end
/-- THE FORM. -/
def formL (t : It) : List UInt8 := rowL 0 lawL (bl t.head) ++ contL 0 t
theorem contL_eq (d : Nat) (t : It) : contL d t = linesL d t.lines ++ contKs d t.kids := by cases t; rw [contL]; rfl
theorem linesL_app (d : Nat) : ∀ a b : List ByteArray, linesL d (a ++ b) = linesL d a ++ linesL d b
  | [], b => rfl
  | s :: r, b => by rw [List.cons_append, linesL, linesL, linesL_app d r b, List.append_assoc]
theorem contKs_app (d : Nat) : ∀ a b : List It, contKs d (a ++ b) = contKs d a ++ contKs d b
  | [], b => by rw [contKs]; rfl
  | t :: r, b => by rw [List.cons_append, contKs, contKs, contKs_app d r b]; simp only [List.append_assoc]
theorem linesL_take (d : Nat) (l : List ByteArray) (i : Nat) (s : ByteArray) (h : l[i]? = some s) : linesL d (l.take (i + 1)) = linesL d (l.take i) ++ rowL d bar (bl s) := by
  obtain ⟨hi, e⟩ := List.getElem?_eq_some_iff.1 h
  rw [List.take_succ_eq_append_getElem hi, e, linesL_app, linesL, linesL, List.append_nil]
theorem contKs_take (d : Nat) (l : List It) (i : Nat) (t : It) (h : l[i]? = some t) : contKs d (l.take (i + 1)) = contKs d (l.take i) ++ (rowL d (bl t.label) (bl t.head) ++ contL (d + 1) t) := by
  obtain ⟨hi, e⟩ := List.getElem?_eq_some_iff.1 h
  rw [List.take_succ_eq_append_getElem hi, e, contKs_app, contKs, contKs, List.append_nil]
theorem tailL_len (t : List UInt8) : (tailL t).length ≤ t.length + 1 := by unfold tailL; split <;> simp
theorem rowL_len (d : Nat) (f t : List UInt8) : (rowL d f t).length ≤ 2 * d + f.length + t.length + 2 := by
  have := tailL_len t
  unfold rowL
  simp only [List.length_append, List.length_replicate, List.length_cons, List.length_nil]
  omega
theorem mul_part (D a b : Nat) : (2 * D + 4) * (a + b) = (2 * D + 4) * a + (2 * D + 4) * b := Nat.mul_add _ _ _
theorem mul_one_more (D a : Nat) : a + 2 * D + 4 ≤ (2 * D + 4) * (a + 1) := by
  rw [Nat.mul_add]
  have : a ≤ (2 * D + 4) * a := Nat.le_mul_of_pos_left a (by omega)
  omega
theorem linesL_len (d D : Nat) (h : d ≤ D) : ∀ l : List ByteArray, (linesL d l).length ≤ (2 * D + 4) * sizeBs l
  | [] => by simp [linesL]
  | s :: r => by
    have ih := linesL_len d D h r
    have h1 := rowL_len d bar (bl s)
    rw [bl_len] at h1
    have h2 : bar.length = 1 := rfl
    have h3 := mul_one_more D s.size
    rw [linesL, sizeBs, List.length_append, mul_part]
    omega
theorem cont_len : ∀ (N : Nat) (t : It), sizeIt t ≤ N → ∀ d D, d + (sizeBs t.lines + sizeIts t.kids) ≤ D → (contL d t).length ≤ (2 * D + 4) * (sizeBs t.lines + sizeIts t.kids)
  | 0, t, h, d, D, _ => by have := sizeIt_eq t; omega
  | N + 1, t, h, d, D, hD => by
    have hs := sizeIt_eq t
    have hks : ∀ l : List It, (∀ x ∈ l, sizeIt x ≤ N) → d + sizeIts l ≤ D → (contKs d l).length ≤ (2 * D + 4) * sizeIts l := by
      intro l
      induction l with
      | nil => intro _ _; rw [contKs]; simp
      | cons x r ih =>
        intro hx hl
        rw [sizeIts] at hl
        have h0 := ih (fun y hy => hx y (List.mem_cons_of_mem _ hy)) (by omega)
        have hsx := sizeIt_eq x
        have h1 := cont_len N x (hx x (by simp)) (d + 1) D (by omega)
        have h2 := rowL_len d (bl x.label) (bl x.head)
        rw [bl_len, bl_len] at h2
        have h3 := mul_one_more D (x.label.size + x.head.size)
        rw [contKs, sizeIts, List.length_append, List.length_append, mul_part]
        have h4 : sizeIt x = (x.label.size + x.head.size + 1) + (sizeBs x.lines + sizeIts x.kids) := by omega
        rw [h4, mul_part]
        omega
    have h1 := linesL_len d D (by omega) t.lines
    have h2 := hks t.kids (fun x hx => by have := kid_size hx; omega) (by omega)
    rw [contL_eq, List.length_append, mul_part]
    omega
theorem cont_bd {t : It} (h : sizeIt t ≤ 1048576) : (contL 0 t).length ≤ 2199027449856 := by
  have hs := sizeIt_eq t
  have h1 := cont_len _ t (Nat.le_refl _) 0 1048576 (by omega)
  have h2 : (2 * 1048576 + 4) * (sizeBs t.lines + sizeIts t.kids) ≤ (2 * 1048576 + 4) * 1048576 := Nat.mul_le_mul_left _ (by omega)
  omega
theorem cont_ks_le (d : Nat) (t : It) (i : Nat) : (linesL d t.lines).length + (contKs d (t.kids.take i)).length ≤ (contL d t).length := by
  rw [contL_eq, List.length_append]
  have : contKs d t.kids = contKs d (t.kids.take i) ++ contKs d (t.kids.drop i) := by rw [← contKs_app, List.take_append_drop]
  rw [this, List.length_append]
  omega
theorem lines_le (d : Nat) (t : It) (i : Nat) : (linesL d (t.lines.take i)).length ≤ (contL d t).length := by
  rw [contL_eq, List.length_append]
  have : linesL d t.lines = linesL d (t.lines.take i) ++ linesL d (t.lines.drop i) := by rw [← linesL_app, List.take_append_drop]
  rw [this, List.length_append]
  omega
/-! The form out of the flat rows. -/
def rowForm (r : FRow) : List UInt8 := rowL (r.deep - 1) (bl r.item.label) (bl r.item.head) ++ linesL r.deep r.item.lines
def flatForm : List FRow → List UInt8
  | [] => []
  | r :: l => rowForm r ++ flatForm l
theorem flatForm_app : ∀ a b : List FRow, flatForm (a ++ b) = flatForm a ++ flatForm b
  | [], b => rfl
  | s :: r, b => by rw [List.cons_append, flatForm, flatForm, flatForm_app r b, List.append_assoc]
theorem flatForm_it : ∀ (N : Nat) (t : It), sizeIt t ≤ N → ∀ (d n : Nat) (up : List It), flatForm (flatIt (d + 1) n up t) = rowL d (bl t.label) (bl t.head) ++ contL (d + 1) t
  | 0, t, h, d, n, up => by have := sizeIt_eq t; omega
  | N + 1, t, h, d, n, up => by
    have hks : ∀ (l all : List It) (j : Nat), (∀ x ∈ l, sizeIt x ≤ N) → flatForm (flatKs (d + 2) j all l) = contKs (d + 1) l := by
      intro l
      induction l with
      | nil => intro all j _; rw [flatKs, contKs]; rfl
      | cons x r ih =>
        intro all j hx
        rw [flatKs, contKs, flatForm_app, flatForm_it N x (hx x (by simp)) (d + 1) j all, ih all (j + 1) (fun y hy => hx y (List.mem_cons_of_mem _ hy))]
    rw [flatIt_eq, flatForm, hks t.kids t.kids 0 (fun x hx => by have := kid_size hx; omega), contL_eq]
    show (rowL (d + 1 - 1) _ _ ++ linesL (d + 1) _) ++ _ = _
    rw [Nat.add_sub_cancel, List.append_assoc]
theorem flatForm_ks (d : Nat) : ∀ (l all : List It) (j : Nat), flatForm (flatKs (d + 1) j all l) = contKs d l
  | [], all, j => by rw [flatKs, contKs]; rfl
  | x :: r, all, j => by rw [flatKs, contKs, flatForm_app, flatForm_it _ x (Nat.le_refl _), flatForm_ks d r all (j + 1)]
end Go.Proofs.YtpbolcjcmkmalaaGreatDoor
namespace Go.Proofs.YtpbolcjcmkmalaaGreatDoor
open Go.RowKit Go.Extern.Stop Go.Stop Go.Extern

def isL (s : ByteArray) (t : It) : Bool := t.label.toList == s.toList
/-- The first kid with a label. -/
def kidIx (l : List It) (s : ByteArray) : Option Nat := l.findIdx? (isL s)
theorem kidIx_some {l : List It} {s : ByteArray} {i : Nat} (h : kidIx l s = some i) : ∃ x, l[i]? = some x ∧ isL s x = true ∧ ∀ j y, j < i → l[j]? = some y → isL s y = false := by
  unfold kidIx at h
  rw [List.findIdx?_eq_some_iff_getElem] at h
  obtain ⟨hi, h1, h2⟩ := h
  refine ⟨l[i], List.getElem?_eq_getElem hi, h1, fun j y hj hy => ?_⟩
  obtain ⟨hj', rfl⟩ := List.getElem?_eq_some_iff.1 hy
  have := h2 j hj
  simpa using this
theorem kidIx_of {l : List It} {s : ByteArray} {i : Nat} {x : It} (hx : l[i]? = some x) (h1 : isL s x = true) (h2 : ∀ j y, j < i → l[j]? = some y → isL s y = false) : kidIx l s = some i := by
  unfold kidIx
  rw [List.findIdx?_eq_some_iff_getElem]
  obtain ⟨hi, rfl⟩ := List.getElem?_eq_some_iff.1 hx
  refine ⟨hi, h1, fun j hj => ?_⟩
  have hjl : j < l.length := by omega
  have := h2 j (l[j]'hjl) hj (List.getElem?_eq_getElem hjl)
  simpa using this
theorem kidIx_none {l : List It} {s : ByteArray} (h : ∀ (j : Nat) y, l[j]? = some y → isL s y = false) : kidIx l s = none := by
  unfold kidIx
  rw [List.findIdx?_eq_none_iff]
  intro x hx
  obtain ⟨j, hj, rfl⟩ := List.mem_iff_getElem.1 hx
  exact h j _ (List.getElem?_eq_getElem hj)
/-- What stands at a way of labels. -/
def findW : It → List ByteArray → Option It
  | t, [] => some t
  | t, p :: r => match kidIx t.kids p with
    | none => none
    | some i => match t.kids[i]? with
      | none => none
      | some x => findW x r
/-- The law in which what stands at a way is other things. -/
def replW (x : List It) : List ByteArray → It → It
  | [], t => t
  | [p], t => It.mk t.label t.head t.lines (t.kids.flatMap fun k => if isL p k then x else [k])
  | p :: q :: r, t => It.mk t.label t.head t.lines (t.kids.flatMap fun k => if isL p k then [replW x (q :: r) k] else [k])
theorem findW_cons {t x : It} {p : ByteArray} {r : List ByteArray} {i : Nat} (h : kidIx t.kids p = some i) (hx : t.kids[i]? = some x) : findW t (p :: r) = findW x r := by
  rw [findW, h]
  show (match t.kids[i]? with | none => none | some x => findW x r) = _
  rw [hx]
theorem findW_no {t : It} {p : ByteArray} {r : List ByteArray} (h : kidIx t.kids p = none) : findW t (p :: r) = none := by
  rw [findW, h]
end Go.Proofs.YtpbolcjcmkmalaaGreatDoor
namespace Go.Proofs.YtpbolcjcmkmalaaGreatDoor
open Go.RowKit Go.Extern.Stop Go.Stop Go.Extern

theorem labelled1_any (a h s : ByteArray) (la ka : Option Addr) (n lc m kc : Nat) (bs : Nat) (w : World) (hs : w.cell? ⟨bs, 0, none⟩ = some (.string s)) :
    Calls Tryz.prog 122 #[.agg #[.string a, .string h, .slice la n lc, .slice ka m kc], .pointer (some ⟨bs, 0, none⟩)] w fun e w' => e = .returned (.bool (a.toList == s.toList)) ∧ w' = w.alloc (.cells #[.string a, .string h, .slice la n lc, .slice ka m kc] 25) := by
  have hl := World.block_lt_of_cell? w ⟨bs, 0, none⟩ hs
  have hs2 : (w.alloc (.cells #[.string a, .string h, .slice la n lc, .slice ka m kc] 25)).cell? ⟨bs, 0, none⟩ = some (.string s) := by
    rw [World.cell?_alloc_lt _ _ ⟨bs, 0, none⟩ hl]; exact hs
  go_enter Tryz.func122, Tryz.ntmps122
  go_wp2
  go_ret
  exact ⟨rfl, rfl⟩

set_option maxHeartbeats 1000000 in
theorem indexFunc_any (n : Nat) (ka : Option Addr) (kc : Nat) (L : Nat → ByteArray) (H : Nat → ByteArray) (la ma : Nat → Option Addr) (ln lc mn mc : Nat → Nat) (s : ByteArray) (bs : Nat) (w : World) (hn : n ≤ 100000) (hs : w.cell? ⟨bs, 0, none⟩ = some (.string s))
    (hk : ∀ i, i < n → ∃ b o, ka = some ⟨b, o, none⟩ ∧ w.cell? ⟨b, o + i * 4, none⟩ = some (.string (L i)) ∧ w.cell? ⟨b, o + i * 4 + 1, none⟩ = some (.string (H i)) ∧ w.cell? ⟨b, o + i * 4 + 2, none⟩ = some (.slice (la i) (ln i) (lc i)) ∧ w.cell? ⟨b, o + i * 4 + 3, none⟩ = some (.slice (ma i) (mn i) (mc i))) :
    Calls Tryz.prog 108 #[.slice ka n kc, .func (.func 122) #[] #[.pointer (some ⟨bs, 0, none⟩)]] w fun e w' => (∃ k : Int, e = .returned (.int .i64 k) ∧ -1 ≤ k ∧ (0 ≤ k ↔ ∃ i, i < n ∧ ((L i).toList == s.toList) = true)) ∧ Below w.heap.size w w' := by
  have hl := World.block_lt_of_cell? w ⟨bs, 0, none⟩ hs
  go_enter Tryz.func108, Tryz.ntmps108
  go_wp2_with fail
  go_loopw [8] (fun t wr => ∃ i : Nat, i ≤ n ∧ t = .int .i64 i ∧ Below w.heap.size w wr ∧ ∀ j, j < i → ((L j).toList == s.toList) = false) (fun t _ => (n - RowKit.intOf t).toNat)
  case atStart => exact ⟨0, by omega, rfl, Below.refl _ _, fun j hj => by omega⟩
  case round =>
    obtain ⟨i, hi, rfl, hb, hno⟩ := hrel
    have HB := hidLL hb
    have HN := hidLL hno
    clear hb hno
    by_cases hin : i < n
    · obtain ⟨b, o, rfl, c0, c1, c2, c3⟩ := hk i hin
      have hiz : (i : Int) < n := by omega
      have hbl := World.block_lt_of_cell? w ⟨b, o + i * 4, none⟩ c0
      have d0 := (HB.out.cell (p := ⟨b, o + i * 4, none⟩) hbl).trans c0
      have d1 := (HB.out.cell (p := ⟨b, o + i * 4 + 1, none⟩) hbl).trans c1
      have d2 := (HB.out.cell (p := ⟨b, o + i * 4 + 2, none⟩) hbl).trans c2
      have d3 := (HB.out.cell (p := ⟨b, o + i * 4 + 3, none⟩) hbl).trans c3
      have HC := hidLL (labelled1_any (L i) (H i) s (la i) (ma i) (ln i) (lc i) (mn i) (mc i) bs wr ((HB.out.cell (p := ⟨bs, 0, none⟩) hl).trans hs))
      have HK := hidLL hk
      clear c0 c1 c2 c3 hk
      cases hq : ((L i).toList == s.toList)
      · rw [hq] at HC
        have HQ := hidLL hq
        clear hq
        go_wp2_with fail
        refine HC.out.mono ?_
        rintro e w1 ⟨rfl, ew⟩
        go_wp2
        go_roundw
        case rel =>
          refine ⟨i + 1, by omega, by go_num, ?_, fun j hj => ?_⟩
          · first | exact HB.out.alloc HB.out.size _ | (rw [ew]; exact HB.out.alloc HB.out.size _)
          · rcases Nat.lt_or_ge j i with h | h
            · exact HN.out j h
            · obtain rfl : j = i := by omega
              exact HQ.out
        case measure => simp [RowKit.intOf]; omega
      · rw [hq] at HC
        have HQ := hidLL hq
        clear hq
        go_wp2_with fail
        refine HC.out.mono ?_
        rintro e w1 ⟨rfl, ew⟩
        go_wp2
        go_ret
        refine ⟨⟨i, rfl, by omega, ⟨fun _ => ⟨i, hin, HQ.out⟩, fun _ => by omega⟩⟩, ?_⟩
        first | exact HB.out.alloc HB.out.size _ | (rw [ew]; exact HB.out.alloc HB.out.size _)
    · obtain rfl : i = n := by omega
      clear hk
      go_wp2
      go_ret
      refine ⟨⟨-1, rfl, by omega, ⟨fun h => by omega, ?_⟩⟩, HB.out⟩
      rintro ⟨j, hj, hq⟩
      have := HN.out j hj
      rw [this] at hq
      cases hq
set_option maxHeartbeats 1000000 in
theorem labelled_any (n : Nat) (ka : Option Addr) (kc : Nat) (L : Nat → ByteArray) (H : Nat → ByteArray) (la ma : Nat → Option Addr) (ln lc mn mc : Nat → Nat) (s : ByteArray) (w : World) (hn : n ≤ 100000)
    (hk : ∀ i, i < n → ∃ b o, ka = some ⟨b, o, none⟩ ∧ w.cell? ⟨b, o + i * 4, none⟩ = some (.string (L i)) ∧ w.cell? ⟨b, o + i * 4 + 1, none⟩ = some (.string (H i)) ∧ w.cell? ⟨b, o + i * 4 + 2, none⟩ = some (.slice (la i) (ln i) (lc i)) ∧ w.cell? ⟨b, o + i * 4 + 3, none⟩ = some (.slice (ma i) (mn i) (mc i))) :
    Calls Tryz.prog 99 #[.slice ka n kc, .string s] w fun e w' => (∃ k : Int, e = .returned (.int .i64 k) ∧ -1 ≤ k ∧ (0 ≤ k ↔ ∃ i, i < n ∧ ((L i).toList == s.toList) = true)) ∧ Below w.heap.size w w' := by
  have hb : Below w.heap.size w (w.alloc (.cells #[.string s] 9)) := (Below.refl _ _).alloc (Nat.le_refl _) _
  have HC := hidLL (indexFunc_any n ka kc L H la ma ln lc mn mc s w.heap.size (w.alloc (.cells #[.string s] 9)) hn (by simp) (fun i hi => by
    obtain ⟨b, o, e, c0, c1, c2, c3⟩ := hk i hi
    have hbl := World.block_lt_of_cell? w ⟨b, o + i * 4, none⟩ c0
    exact ⟨b, o, e, (hb.cell (p := ⟨b, o + i * 4, none⟩) hbl).trans c0, (hb.cell (p := ⟨b, o + i * 4 + 1, none⟩) hbl).trans c1, (hb.cell (p := ⟨b, o + i * 4 + 2, none⟩) hbl).trans c2, (hb.cell (p := ⟨b, o + i * 4 + 3, none⟩) hbl).trans c3⟩))
  clear hk
  go_enter Tryz.func99, Tryz.ntmps99
  go_wp2_with fail
  refine HC.out.mono ?_
  rintro e w1 ⟨⟨k, rfl, hk1, hk2⟩, hb1⟩
  have H2 := hidLL hk2
  clear hk2
  go_wp2
  go_ret
  exact ⟨⟨k, rfl, hk1, H2.out⟩, hb.trans (hb1.mono (by simp))⟩
end Go.Proofs.YtpbolcjcmkmalaaGreatDoor
namespace Go.Proofs.YtpbolcjcmkmalaaGreatDoor
open Go.RowKit Go.Extern.Stop Go.Stop Go.Extern

theorem kids_has {w : World} {P : Nat → Prop} {t : It} {V : Nat → Nat → Value} (hr : ∀ i k, t.kids[i]? = some k → Lies w P (V i) k) (s : ByteArray) : hasKid t s = true ↔ ∃ i, i < t.kids.length ∧ ((strOf (V i 0)).toList == s.toList) = true := by
  unfold hasKid
  rw [List.any_eq_true]
  constructor
  · rintro ⟨k, hk, e⟩
    obtain ⟨i, hi, rfl⟩ := List.getElem_of_mem hk
    refine ⟨i, hi, ?_⟩
    rw [(hr i _ (List.getElem?_eq_getElem hi)).forms.1]
    exact e
  · rintro ⟨i, hi, e⟩
    refine ⟨t.kids[i], List.getElem_mem hi, ?_⟩
    rw [(hr i _ (List.getElem?_eq_getElem hi)).forms.1] at e
    exact e
theorem labelled_lies {w : World} {P : Nat → Prop} {v : Nat → Value} {t : It} (h : Lies w P v t) {ka : Option Addr} {n kc : Nat} (e : v 3 = .slice ka n kc) (hn : n ≤ 100000) (s : ByteArray) :
    Calls Tryz.prog 99 #[.slice ka n kc, .string s] w fun e w' => (∃ k : Int, e = .returned (.int .i64 k) ∧ -1 ≤ k ∧ (0 ≤ k ↔ hasKid t s = true)) ∧ Below w.heap.size w w' := by
  obtain ⟨rfl, V, hk, hr⟩ := h.kidsAt e
  refine (labelled_any t.kids.length ka kc _ _ _ _ _ _ _ _ s w hn (kids_cells hk hr)).mono ?_
  rintro e w' ⟨⟨k, h1, h2, h3⟩, hb⟩
  exact ⟨⟨k, h1, h2, h3.trans (kids_has hr s).symm⟩, hb⟩
set_option maxHeartbeats 1000000 in
theorem isLabel_any (s : ByteArray) (hs : s.size ≤ 1000000) (w : World) (hT : Lib.Utf8Tabs 13 14 w) :
    Calls Tryz.prog 80 #[.string s] w fun e w' => e = .returned (.bool (isLab s)) ∧ Below w.heap.size w w' := by
  have HC := hidLL (readLabel_any s hs w hT)
  clear hT
  go_enter Tryz.func80, Tryz.ntmps80
  go_wp2_with fail
  refine HC.out.mono ?_
  rintro e w1 ⟨hb, h | h⟩
  · obtain ⟨k, l, hl, rfl⟩ := h
    have HB := hidLL hb
    have HL := hidLL hl
    clear hb hl
    go_wp2
    go_ret
    refine ⟨ret_b (by unfold isLab; exact (@decide_eq_true _ (Classical.propDecidable _) (⟨k, l, HL.out⟩ : ∃ k l, Lab s k l)).symm), ?_⟩
    exact HB.out.alloc HB.out.size _
  · obtain ⟨hn, v0, v1, v2, rfl⟩ := h
    have HB := hidLL hb
    have HN := hidLL hn
    clear hb hn
    go_wp2
    go_ret
    refine ⟨ret_b (by unfold isLab; exact (@decide_eq_false _ (Classical.propDecidable _) HN.out).symm), ?_⟩
    exact HB.out.alloc HB.out.size _
end Go.Proofs.YtpbolcjcmkmalaaGreatDoor
namespace Go.Proofs.YtpbolcjcmkmalaaGreatDoor
open Go.RowKit Go.Extern.Stop Go.Stop Go.Extern

theorem alloc_two (w : World) (a b : Obj) : ((w.alloc a).alloc b).heap[w.heap.size]? = some a ∧ ((w.alloc a).alloc b).heap[w.heap.size + 1]? = some b := by
  refine ⟨?_, ?_⟩
  · have h1 := Below.heap_alloc (w.alloc a) b w.heap.size (by simp)
    rw [h1]; exact heap_alloc_new w a
  · have h1 := heap_alloc_new (w.alloc a) b
    have h2 : (w.alloc a).heap.size = w.heap.size + 1 := by simp
    rw [h2] at h1; exact h1
/-- The cells of a block of four. -/
theorem four {W : World} {g : Nat} {a b c d : Value} {t : TypeId} (h : W.heap[g]? = some (.cells #[a, b, c, d] t (0, 0))) : W.cell? ⟨g, 0, none⟩ = some a ∧ W.cell? ⟨g, 1, none⟩ = some b ∧ W.cell? ⟨g, 2, none⟩ = some c ∧ W.cell? ⟨g, 3, none⟩ = some d ∧ ∀ i, W.frozen? ⟨g, i, none⟩ = false := by
  simp [World.cell?, World.frozen?, h]
end Go.Proofs.YtpbolcjcmkmalaaGreatDoor
