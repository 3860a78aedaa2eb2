/-
  Ledgers in memory: maps of balances, entries.
-/
import Derived.Test.YtdeccdmplmclmaaGreatDoorLkPl
import Derived.Test.YtdeccdmplmclmaaGreatDoorLeMem
import Derived.Maps.OwnOps
import Derived.Maps.OwnSet
import Derived.Maps.RangeWalk
import Derived.Maps.Ext
import Derived.Lib.SlMapMerge
namespace Go.Proofs.YtdeccdmplmclmaaGreatDoor
open Go.RowKit Go.Maps

def kA (a : ByteArray) : Lit := .string a.data.toList
theorem kA_inj {a b : ByteArray} (h : kA a = kA b) : a = b := by
  injection h with h
  exact ByteArray.ext (Array.toList_inj.1 h)
theorem kA_key (a : ByteArray) : WideAt.IsKeyLit (kA a) := trivial
theorem lawStr : Keyed Tryz.prog 9 := string_keyed Tryz.underlying9
theorem zeroIntW (w : World) : (zeroValue 3).run Tryz.prog w = .ok (.int .i64 0) w := by kernel_rfl
theorem keyA {a : ByteArray} (h : a.size ≤ 1000000) : Go.keyOf Tryz.prog 9 (.string a) = some (kA a) := Go.WideMaps.keyOf_string_mk Tryz.underlying9 (by unfold maxLen; omega)
abbrev i0D : DataW Unit := .lit (.int .i64 0)
abbrev iD (n : Int) : DataW Unit := .lit (.int .i64 n)
/-- A map of numbers under names. -/
abbrev MapI (w : World) (b n : Nat) (D : DataW Unit) : Prop := w.ownsMap Tryz.prog 9 (plainElem (H := Unit) Tryz.prog 3) b n D
/-- The map holds the balance of each account that has lines. -/
structure IsBal (D : DataW Unit) (L : List En) : Prop where
  is : IsMap D
  has : ∀ a, Maps.has D (kA a) = hasL a L
  at' : ∀ a, D.atKey (kA a) i0D = iD (balE a L)
/-- The map holds numbers under the accounts of lines. -/
structure IsBeh (D : DataW Unit) (ls : List Ln) (f : ByteArray → Int) : Prop where
  is : IsMap D
  has : ∀ a, Maps.has D (kA a) = accIn a ls
  at' : ∀ a, accIn a ls = true → D.atKey (kA a) i0D = iD (f a)
theorem IsBal.nil : IsBal (.map []) [] := ⟨isMap_empty, fun _ => rfl, fun _ => rfl⟩
theorem IsBeh.nil (f : ByteArray → Int) : IsBeh (.map []) [] f := ⟨isMap_empty, fun _ => rfl, fun a h => by cases h⟩
theorem accIn_snoc {a : ByteArray} {ls : List Ln} {x : Ln} : accIn a (ls ++ [x]) = (accIn a ls || decide (x.acc = a)) := by unfold accIn; rw [List.any_append]; simp
theorem IsBeh.put {D : DataW Unit} {ls : List Ln} {f : ByteArray → Int} (h : IsBeh D ls f) (x : Ln) : IsBeh (D.put (kA x.acc) (iD (f x.acc))) (ls ++ [x]) f := by
  refine ⟨h.is.put _ _, fun a => ?_, fun a ha => ?_⟩
  · rw [accIn_snoc]
    by_cases e : x.acc = a
    · subst e
      rw [has_put_same h.is (kA_key _)]
      simp
    · rw [has_put_other (fun q => e (kA_inj q).symm), h.has]
      simp [e]
  · by_cases e : x.acc = a
    · subst e
      exact atKey_put_same h.is (kA_key _) _ _
    · rw [atKey_put_other (fun q => e (kA_inj q).symm)]
      rw [accIn_snoc] at ha
      exact h.at' a (by simpa [e] using ha)
/-- One number becomes another. -/
theorem IsBeh.upd {D : DataW Unit} {ls : List Ln} {f : ByteArray → Int} (h : IsBeh D ls f) {b : ByteArray} (hb : accIn b ls = true) (v : Int) : IsBeh (D.put (kA b) (iD v)) ls (fun a => if b = a then v else f a) := by
  refine ⟨h.is.put _ _, fun a => ?_, fun a ha => ?_⟩
  · by_cases e : b = a
    · subst e
      rw [has_put_same h.is (kA_key _), hb]
    · rw [has_put_other (fun q => e (kA_inj q).symm), h.has]
  · by_cases e : b = a
    · subst e
      rw [if_pos rfl]
      exact atKey_put_same h.is (kA_key _) _ _
    · rw [if_neg e, atKey_put_other (fun q => e (kA_inj q).symm)]
      exact h.at' a ha
theorem IsBeh.congr {D : DataW Unit} {ls : List Ln} {f g : ByteArray → Int} (h : IsBeh D ls f) (hf : ∀ a, accIn a ls = true → f a = g a) : IsBeh D ls g := ⟨h.is, h.has, fun a ha => by rw [h.at' a ha, hf a ha]⟩
theorem accIn_mem {x : Ln} {ls : List Ln} (h : x ∈ ls) : accIn x.acc ls = true := List.any_eq_true.2 ⟨x, h, by simp⟩
/-! One map laid into another. -/
theorem fold_has : ∀ (es : List (Lit × DataW Unit)) (D : DataW Unit) (k : Lit), IsMap D → WideAt.IsKeyLit k → Maps.has (es.foldl (fun D p => D.put p.1 p.2) D) k = (Maps.has D k || es.any fun p => p.1.sameKey k)
  | [], D, k, _, _ => by simp
  | p :: es, D, k, hD, hk => by
    rw [List.foldl_cons, fold_has es _ k (hD.put _ _) hk, List.any_cons]
    by_cases e : p.1 = k
    · rw [e, has_put_same hD hk, WideAt.sameKey_self hk]
      simp
    · rw [has_put_other (fun q => e q.symm), sameKey_ne e]
      simp
theorem fold_at : ∀ (es : List (Lit × DataW Unit)) (D : DataW Unit) (k : Lit) (z : DataW Unit), IsMap D → WideAt.IsKeyLit k → es.Pairwise (fun p q => p.1 ≠ q.1) →
    (es.foldl (fun D p => D.put p.1 p.2) D).atKey k z = if es.any (fun p => p.1.sameKey k) = true then (DataW.map es).atKey k z else D.atKey k z
  | [], D, k, z, _, _, _ => by simp
  | p :: es, D, k, z, hD, hk, hp => by
    obtain ⟨h1, h2⟩ := List.pairwise_cons.1 hp
    rw [List.foldl_cons, fold_at es _ k z (hD.put _ _) hk h2, List.any_cons]
    by_cases e : p.1 = k
    · have hno : es.any (fun p => p.1.sameKey k) = false := List.any_eq_false.2 fun q hq => by
        rw [sameKey_ne (fun q2 => h1 q hq (by rw [e, q2]))]
        simp
      rw [hno, if_neg (by decide), e, WideAt.sameKey_self hk, if_pos (by simp), atKey_put_same hD hk]
      unfold DataW.atKey
      simp only
      rw [List.find?_cons_of_pos (by rw [e]; exact WideAt.sameKey_self hk)]
    · rw [sameKey_ne e, Bool.false_or, atKey_put_other (fun q => e q.symm)]
      have : (DataW.map (p :: es)).atKey k z = (DataW.map es).atKey k z := by
        unfold DataW.atKey
        simp only
        rw [List.find?_cons_of_neg (by rw [sameKey_ne e]; decide)]
      rw [this]
theorem IsBal.merge {D Db : DataW Unit} {L : List En} {e : En} (h : IsBal D L) (hb : IsBeh Db e.lines (fun a => balE a L + balL a e.lines)) (ht : Tidy Db) : IsBal (Lib.mergeD D Db) (L ++ [e]) := by
  obtain ⟨es, rfl, hp⟩ := ht
  have hm : Lib.mergeD D (.map es) = es.foldl (fun D p => D.put p.1 p.2) D := rfl
  rw [hm]
  have hany : ∀ a, (es.any fun p => p.1.sameKey (kA a)) = accIn a e.lines := fun a => hb.has a
  refine ⟨?_, fun a => ?_, fun a => ?_⟩
  · clear hm hany hb hp
    have : ∀ (es : List (Lit × DataW Unit)) (D : DataW Unit), IsMap D → IsMap (es.foldl (fun D p => D.put p.1 p.2) D) := by
      intro es
      induction es with
      | nil => exact fun D h => h
      | cons p es ih => exact fun D h => ih _ (h.put _ _)
    exact this es D h.is
  · rw [fold_has es D _ h.is (kA_key a), h.has, hany, hasL_snoc]
  · rw [fold_at es D _ _ h.is (kA_key a) hp, hany, balE_app', balE_one']
    by_cases ha : accIn a e.lines = true
    · rw [if_pos ha]
      exact hb.at' a ha
    · rw [if_neg ha, h.at', balL_none (by simpa using ha), Int.add_zero]
/-! What a block is. -/
def Ty (w : World) (k t : Nat) : Prop := ∃ cs fz, w.heap[k]? = some (.cells cs t fz)
theorem Ty.lt {w : World} {k t : Nat} (h : Ty w k t) : k < w.heap.size := by
  obtain ⟨_, _, h⟩ := h
  exact (Array.getElem?_eq_some_iff.1 h).1
theorem Ty.on {w w' : World} {k t : Nat} (h : Ty w k t) (hb : w'.heap[k]? = w.heap[k]?) : Ty w' k t := by
  obtain ⟨cs, fz, h⟩ := h
  exact ⟨cs, fz, hb.trans h⟩
theorem Ty.one {w : World} {k t t' : Nat} (h : Ty w k t) (h' : Ty w k t') : t = t' := by
  obtain ⟨_, _, h⟩ := h
  obtain ⟨_, _, h'⟩ := h'
  rw [h] at h'
  injection h' with h'
  injection h'
theorem Ty.noMap {w : World} {k t n : Nat} {D : DataW Unit} (h : Ty w k t) (h' : MapI w k n D) : False := by
  obtain ⟨_, _, h⟩ := h
  obtain ⟨_, _, h', _⟩ := h'
  rw [h] at h'
  injection h' with h'
  cases h'
/-- Entries (of type T, their lines in blocks of a kind) in a row of a ledger's own. -/
def ERow (T : Nat) (w : World) (B : Nat) (S : Nat → Prop) (v : Value) (L : List En) : Prop :=
  ∃ vs : List SlV, vs.length = L.length ∧ RowG enE T w B v (L.zip vs) ∧ ∀ (i : Nat) s x, vs[i]? = some s → L[i]? = some x → RdS lnE w S s.v x.lines
theorem ERow.any3 {T : Nat} {w : World} {B : Nat} {S : Nat → Prop} {v : Value} {L : List En} (h : ERow T w B S v L) : ∃ a m c, v = .slice a m c ∧ m = L.length := by
  obtain ⟨vs, h1, h2, _⟩ := h
  have := h2.any3
  rw [zip_len h1] at this
  exact this
theorem ERow.rd {T : Nat} {w : World} {B : Nat} {S S' : Nat → Prop} {v : Value} {L : List En} (h : ERow T w B S v L) (hS : ∀ k, S k → S' k) (hS2 : ∀ k, B ≤ k → k < w.heap.size → S' k) : NRd enN w S' v L := by
  obtain ⟨vs, h1, h2, h3⟩ := h
  exact ⟨vs, h1, h2.rdS.mono fun k hk => hS2 k hk.1 hk.2.1, fun i s x hs hx => (h3 i s x hs hx).mono hS⟩
theorem ERow.nil (T : Nat) (w : World) (B : Nat) (S : Nat → Prop) : ERow T w B S (.slice none 0 0) [] := ⟨[], rfl, RowG.nil _ _, fun i s x h => by simp at h⟩
theorem ERow.on {T : Nat} {w w' : World} {B : Nat} {S S' : Nat → Prop} {v : Value} {L : List En} (h : ERow T w B S v L) (hv : ∀ k, v.ownBlock = some k → w'.heap[k]? = w.heap[k]?) (hS : ∀ k, S k → S' k ∧ w'.heap[k]? = w.heap[k]?) : ERow T w' B S' v L := by
  obtain ⟨vs, h1, h2, h3⟩ := h
  exact ⟨vs, h1, h2.on fun g hg _ _ => hv g hg, fun i s x hs hx => (h3 i s x hs hx).on hS⟩
theorem ERow.ty {T : Nat} {w : World} {B : Nat} {S : Nat → Prop} {v : Value} {L : List En} (h : ERow T w B S v L) {k : Nat} (hk : v.ownBlock = some k) : B ≤ k ∧ Ty w k T := by
  obtain ⟨vs, h1, h2, _⟩ := h
  rcases h2.row.2 with ⟨e, _⟩ | ⟨g, cap, cur, e, hb, hg, _⟩
  · rw [e] at hk
    cases hk
  · rw [e] at hk
    injection hk with hk
    subst hk
    exact ⟨hb, _, _, hg⟩
/-- The map of a ledger: nil as long as nothing is posted. -/
def MapG (w : World) (B : Nat) (mv : Value) (L : List En) : Prop := (mv = .map none ∧ L = []) ∨ ∃ mb n D, mv = .map (some mb) ∧ B ≤ mb ∧ MapI w mb n D ∧ n ≤ 40 * L.length ∧ IsBal D L
/-- A ledger in memory; B: all that is its own lies behind. -/
structure LG (w : World) (gb B : Nat) (v mv : Value) (L : List En) : Prop where
  blk : w.heap[gb]? = some (.cells #[v, mv] 53 (0, 0))
  ge : B ≤ gb
  row : ERow 36 w B (fun k => Ty w k 49) v L
  map : MapG w B mv L
theorem LG.c0 {w : World} {gb B : Nat} {v mv : Value} {L : List En} (h : LG w gb B v mv L) : w.cell? ⟨gb, 0, none⟩ = some v := by rw [cell_of_row _ gb 0 _ _ _ h.blk]; rfl
theorem LG.c1 {w : World} {gb B : Nat} {v mv : Value} {L : List En} (h : LG w gb B v mv L) : w.cell? ⟨gb, 1, none⟩ = some mv := by rw [cell_of_row _ gb 1 _ _ _ h.blk]; rfl
theorem LG.lt {w : World} {gb B : Nat} {v mv : Value} {L : List En} (h : LG w gb B v mv L) : gb < w.heap.size := (Array.getElem?_eq_some_iff.1 h.blk).1
/-- All blocks stay that a ledger's are not, by what they are. -/
structure PFr (B : Nat) (w w' : World) : Prop where
  os : w'.os = w.os
  tape : w'.tape = w.tape
  output : w'.output = w.output
  size : w.heap.size ≤ w'.heap.size
  low : ∀ k, k < B → w'.heap[k]? = w.heap[k]?
  ty : ∀ k t, Ty w k t → t ≠ 53 → t ≠ 36 → w'.heap[k]? = w.heap[k]?
theorem PFr.of {B : Nat} {w w' : World} (h : Below w.heap.size w w') (hB : B ≤ w.heap.size) : PFr B w w' := ⟨h.os, h.tape, h.output, h.size, fun k hk => h.block k (by omega), fun k t ht _ _ => h.block k ht.lt⟩
theorem PFr.trans {B : Nat} {a b c : World} (h : PFr B a b) (k : PFr B b c) : PFr B a c := ⟨k.os.trans h.os, k.tape.trans h.tape, k.output.trans h.output, Nat.le_trans h.size k.size, fun i hi => (k.low i hi).trans (h.low i hi), fun i t ht h1 h2 => (k.ty i t (ht.on (h.ty i t ht h1 h2)) h1 h2).trans (h.ty i t ht h1 h2)⟩
theorem PFr.below {B : Nat} {w w' : World} (h : PFr B w w') : Below B w w' := ⟨h.os, h.tape, h.output, h.size, h.low⟩
/-- A ledger stays where only new blocks come, or blocks of other kinds change. -/
theorem LG.on {w w' : World} {gb B : Nat} {v mv : Value} {L : List En} (h : LG w gb B v mv L) (hg : w'.heap[gb]? = w.heap[gb]?) (hr : ∀ k, v.ownBlock = some k → w'.heap[k]? = w.heap[k]?) (hl : ∀ k, Ty w k 49 → w'.heap[k]? = w.heap[k]?) (hm : ∀ k n D, MapI w k n D → w'.heap[k]? = w.heap[k]?) : LG w' gb B v mv L := by
  refine ⟨hg.trans h.blk, h.ge, h.row.on (fun k hk => hr k hk) (fun k hk => ⟨hk.on (hl k hk), hl k hk⟩), ?_⟩
  rcases h.map with h1 | ⟨mb, n, D, e, hb, hM, hn, hI⟩
  · exact .inl h1
  · obtain ⟨es, clock, hx, hrest⟩ := hM
    exact .inr ⟨mb, n, D, e, hb, ⟨es, clock, (hm mb n D ⟨es, clock, hx, hrest⟩).trans hx, hrest⟩, hn, hI⟩
theorem MapI.lt' {w : World} {k n : Nat} {D : DataW Unit} (h : MapI w k n D) : k < w.heap.size := by
  obtain ⟨_, _, h, _⟩ := h
  exact (Array.getElem?_eq_some_iff.1 h).1
theorem LG.below {w w' : World} {gb B : Nat} {v mv : Value} {L : List En} (h : LG w gb B v mv L) (hb : Below w.heap.size w w') : LG w' gb B v mv L :=
  h.on (hb.block _ h.lt) (fun k hk => hb.block k (h.row.ty hk).2.lt) (fun k hk => hb.block k hk.lt) (fun k _ _ hk => hb.block k (MapI.lt' hk))
theorem LG.rd {w : World} {gb B : Nat} {v mv : Value} {L : List En} (h : LG w gb B v mv L) : NRd enN w (· < w.heap.size) v L := h.row.rd (fun _ hk => hk.lt) (fun _ _ hk => hk)
end Go.Proofs.YtdeccdmplmclmaaGreatDoor
