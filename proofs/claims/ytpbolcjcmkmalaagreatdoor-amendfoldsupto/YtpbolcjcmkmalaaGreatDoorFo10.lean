/-
  What the walks of the reader share.
-/
import Derived.Test.YtpbolcjcmkmalaaGreatDoorFo08
import Derived.Test.YtpbolcjcmkmalaaGreatDoorFo09
import Derived.Test.YtpbolcjcmkmalaaGreatDoorRows
import Derived.Test.YtpbolcjcmkmalaaGreatDoorFo00
import Derived.Test.YtpbolcjcmkmalaaGreatDoorShelfL
import Derived.LaidLaws
import Derived.LaidHandle
import Derived.Stop.LaidErr
import Derived.Lib.LaidU8
import Derived.MakeChecks
import Derived.LaidMore
import Derived.HandedShaped
import Derived.Shelf.Vars
import Derived.Test.YtpbolcjcmkmalaaGreatDoorFo06
namespace Go.Proofs.YtpbolcjcmkmalaaGreatDoor
open Go.RowKit Go.Extern.Stop Go.Stop Go.Extern

/-- What package-level variables hold. -/
structure Env (w : World) (p : Nat → Addr) (m : Int) : Prop where
  L : Laid w p
  T : Lib.Utf8Tabs 13 14 w
  M : w.cell? ⟨12, 0, none⟩ = some (.int .i64 m)
theorem Env.on {w w' : World} {p : Nat → Addr} {m : Int} (h : Env w p m) (hb : Below w.heap.size w w') : Env w' p m :=
  ⟨h.L.below hb, tabs_below h.T hb, (hb.cell (p := ⟨12, 0, none⟩) (World.block_lt_of_cell? w _ h.M)).trans h.M⟩
/-- The zero item. -/
def zItem : List Value := [.string ⟨#[]⟩, .string ⟨#[]⟩, .slice none 0 0, .slice none 0 0]
theorem zNews (wr : World) : ∀ (j : Nat) (u : Value), [Value.string ⟨#[]⟩, .string ⟨#[]⟩, .slice none 0 0, .slice none 0 0][j]? = some u → (wr.alloc (.cells #[Value.string ⟨#[]⟩, .string ⟨#[]⟩, .slice none 0 0, .slice none 0 0] 25)).cell? ((⟨wr.heap.size, 0, none⟩ : Addr).add j) = some u := by
  intro j u hj
  match j, hj with
  | 0, hj => simp at hj; subst hj; simp [Addr.add]
  | 1, hj => simp at hj; subst hj; simp [Addr.add]
  | 2, hj => simp at hj; subst hj; simp [Addr.add]
  | 3, hj => simp at hj; subst hj; simp [Addr.add]
theorem zOne : ∀ u ∈ [Value.string ⟨#[]⟩, .string ⟨#[]⟩, .slice none 0 0, .slice none 0 0], u.oneCell' = true := by
  intro u hu
  simp at hu
  rcases hu with rfl | rfl <;> rfl
end Go.Proofs.YtpbolcjcmkmalaaGreatDoor
namespace Go.Proofs.YtpbolcjcmkmalaaGreatDoor
open Go.RowKit Go.ChangeShapes Go.Lib Go.Proofs

def sentD (t : List UInt8) : DataW Unit := .iface "*errors.errorString" (.ptr (.agg [.lit (.string t)]))

theorem Tryz.star : "*" ++ "errors.errorString" = "*errors.errorString" := by decide
theorem Tryz.rowES (u : TypeId) (h : Tryz.prog.typeName? 3 u = some "*errors.errorString") : u = 214 :=
  typeName_ptr_named (nm := "errors.errorString") (by rw [Tryz.star]; kernel_rfl) (by kernel_rfl) (by decide) u (by rw [Tryz.star]; exact h)
theorem Tryz.cellsES : Tryz.prog.cellsOf 234 = 1 := by kernel_rfl
theorem Tryz.cells9 : Tryz.prog.cellsOf 9 = 1 := by kernel_rfl

theorem sents_of {P : Program} {tp te ts ti : TypeId} {ms : Array (String × TypeId)} {f : Field} (hi : P.underlying ti = some (.interface ms)) (hrow : ∀ u, P.typeName? 3 u = some "*errors.errorString" → u = tp)
    (hp : P.underlying tp = some (.pointer te)) (he : P.underlying te = some (.struct #[f])) (hft : f.type = ts) (hfo : f.offset = 0) (hs : P.underlying ts = some .string) (hc : P.cellsOf te = 1) (hcs : P.cellsOf ts = 1) (W : World) : ∀ (xs : List (String × Nat × List UInt8)) (rest : List (String × DataW Unit)) (ps : List MemPlace),
    (∀ x, x ∈ xs → P.globalNamed x.1 = some x.2.1 ∧ (P.globals[x.2.1]?).map (·.type) = some ti) →
    DataW.LaidVars P W (xs.map (fun x => (x.1, sentD x.2.2)) ++ rest) ps → ps.Nodup →
    (∀ b off, MemPlace.cell b off ∈ ps → (∃ c t, W.heap[b]? = some (.cells c t (0, 0))) ∧ ∀ u v, W.cell? ⟨b, off, none⟩ = some (.iface u v) → Value.okWide P W .any 0 u v) →
    ∃ al : List Addr, al.length = xs.length ∧ (∀ a, a ∈ al → MemPlace.cell a.block a.off ∈ ps) ∧ al.Nodup ∧
      ∀ (i : Nat) (x : String × Nat × List UInt8) (a : Addr), xs[i]? = some x → al[i]? = some a → W.cell? ⟨x.2.1, 0, none⟩ = some (.iface tp (.pointer (some a)))
  | [], _, _, _, _, _, _ => ⟨[], rfl, (by intro a h; cases h), List.nodup_nil, (by intro i x a h; simp at h)⟩
  | x :: xs, rest, ps, hx, hl, hnd, hrows => by
    obtain ⟨n, gn, t⟩ := x
    obtain ⟨g0, t0, cs0, f0, p0, q0, hg0, ht0, hv0, hd0, hq, e0⟩ := hl
    obtain ⟨hg, ht⟩ := hx (n, gn, t) (List.mem_cons_self ..)
    obtain rfl := Option.some.inj (hg.symm.trans hg0)
    obtain rfl := Option.some.inj (ht.symm.trans ht0)
    subst e0
    obtain ⟨l0⟩ := cs0
    have ok0 : ∀ u v, l0 = [.iface u v] → Value.okWide P W .any 0 u v := fun u v e => by
      subst e
      exact (hrows gn 0 (by simp [MemPlace.row])).2 u v (by simpa using World.var?_cell hg0 hv0 0)
    obtain ⟨a0, s0, rfl, hc0, hs0, hz0, rfl⟩ := errorString_of_trod hi hrow hp he hft hfo hs hc hcs hd0 ok0
    have hnd' := (List.nodup_append.1 hnd)
    obtain ⟨al, hlen, hmem, hn, hcell⟩ := sents_of hi hrow hp he hft hfo hs hc hcs W xs rest q0 (fun x h => hx x (List.mem_cons_of_mem _ h)) hq hnd'.2.1 (fun b off h => hrows b off (List.mem_append_right _ h))
    refine ⟨a0 :: al, by simp [hlen], ?_, ?_, ?_⟩
    · intro a ha
      rcases List.mem_cons.1 ha with rfl | h
      · simp [MemPlace.row]
      · exact List.mem_append_right _ (hmem a h)
    · refine List.nodup_cons.2 ⟨fun h => ?_, hn⟩
      exact hnd'.2.2 _ (by simp [MemPlace.row] : MemPlace.cell a0.block a0.off ∈ _) _ (hmem a0 h) rfl
    · intro i x a h1 h2
      cases i with
      | zero =>
        simp only [List.getElem?_cons_zero, Option.some.injEq] at h1 h2
        subst h1 h2
        simpa using World.var?_cell hg0 hv0 0
      | succ i =>
        simp only [List.getElem?_cons_succ] at h1 h2
        exact hcell i x a h1 h2

def sentList : List (String × Nat × List UInt8) := [("statute/api.ErrText", 1, [115, 116, 97, 116, 117, 116, 101, 58, 32, 116, 101, 120, 116]), ("statute/api.ErrBound", 0, [115, 116, 97, 116, 117, 116, 101, 58, 32, 98, 111, 117, 110, 100]), ("statute/api.ErrPath", 4, [115, 116, 97, 116, 117, 116, 101, 58, 32, 112, 97, 116, 104]), ("statute/api.ErrWords", 5, [115, 116, 97, 116, 117, 116, 101, 58, 32, 119, 111, 114, 100, 115]), ("statute/api.ErrName", 6, [115, 116, 97, 116, 117, 116, 101, 58, 32, 110, 97, 109, 101]), ("statute/api.ErrOrder", 7, [115, 116, 97, 116, 117, 116, 101, 58, 32, 111, 114, 100, 101, 114]), ("statute/api.ErrKind", 8, [115, 116, 97, 116, 117, 116, 101, 58, 32, 107, 105, 110, 100])]

theorem sentList_at : ∀ x, x ∈ sentList → Tryz.prog.globalNamed x.1 = some x.2.1 ∧ (Tryz.prog.globals[x.2.1]?).map (·.type) = some 31 := by
  have h1 : (sentList.map fun x => Tryz.prog.globalNamed x.1) = sentList.map fun x => some x.2.1 := by kernel_rfl
  have h2 : (sentList.map fun x => (Tryz.prog.globals[x.2.1]?).map (·.type)) = sentList.map fun _ => some 31 := by kernel_rfl
  intro x hx
  exact ⟨List.map_inj_left.1 h1 x hx, List.map_inj_left.1 h2 x hx⟩
theorem laid_seven {W : World} {rest : List (String × DataW Unit)} (h : laidMet Tryz.prog (sentList.map (fun x => (x.1, sentD x.2.2)) ++ rest) W) : ∃ p, Laid W p := by
  obtain ⟨ps, hl, hnd, hrows⟩ := h
  obtain ⟨al, hlen, hmem, hn, hcell⟩ := sents_of Tryz.underlying31 Tryz.rowES Tryz.underlying214 Tryz.underlying234 rfl rfl Tryz.underlying9 Tryz.cellsES Tryz.cells9 W sentList rest ps sentList_at hl hnd hrows
  have hlen' : al.length = 7 := hlen
  obtain ⟨a0, a1, a2, a3, a4, a5, a6, rfl⟩ : ∃ a0 a1 a2 a3 a4 a5 a6, al = [a0, a1, a2, a3, a4, a5, a6] := by
    match al, hlen' with
    | [a, b, c, d, e, f, g], _ => exact ⟨a, b, c, d, e, f, g, rfl⟩
  have c0 := hcell 0 _ _ rfl rfl
  have c1 := hcell 1 _ _ rfl rfl
  have c2 := hcell 2 _ _ rfl rfl
  have c3 := hcell 3 _ _ rfl rfl
  have c4 := hcell 4 _ _ rfl rfl
  have c5 := hcell 5 _ _ rfl rfl
  have c6 := hcell 6 _ _ rfl rfl
  refine ⟨fun i => match i with | 1 => a1 | 4 => a2 | 5 => a3 | 6 => a4 | 7 => a5 | 8 => a6 | _ => a0, ⟨fun i hi => ?_⟩⟩
  have h : i = 0 ∨ i = 1 ∨ i = 2 ∨ i = 3 ∨ i = 4 ∨ i = 5 ∨ i = 6 ∨ i = 7 ∨ i = 8 ∨ i = 9 ∨ i = 10 := by omega
  rcases h with rfl | rfl | rfl | rfl | rfl | rfl | rfl | rfl | rfl | rfl | rfl
  · exact c0
  · exact c1
  · exact c0
  · exact c0
  · exact c2
  · exact c3
  · exact c4
  · exact c5
  · exact c6
  · exact c0
  · exact c0
theorem folds_laid {W : World} (h : laidMetH Tryz.prog Rows.amendFoldsUptoRow.laid W) : (∃ p, Laid W p) ∧ Lib.Utf8Tabs 13 14 W := by
  rw [Go.MakeChecks.laidMetH_plain _ _ _ (by kernel_rfl)] at h
  have e : Rows.amendFoldsUptoRow.laid = ("unicode/utf8.acceptRanges", Rows.laid_unicode_utf8_acceptRanges) :: (sentList.map (fun x => (x.1, sentD x.2.2)) ++ [("unicode/utf8.first", Rows.laid_unicode_utf8_first)]) := by kernel_rfl
  rw [e] at h
  refine ⟨laid_seven h.tail, ?_⟩
  have e1 : (Rows.laid_unicode_utf8_first : DataW Unit) = firstData := by kernel_rfl
  have e2 : (Rows.laid_unicode_utf8_acceptRanges : DataW Unit) = acceptData := by kernel_rfl
  have h3 : VarReads Tryz.prog W "unicode/utf8.first" firstData := by
    rw [← e1]
    exact Lib.laidMet.reads h (.tail _ (List.mem_append_right _ (.head _)))
  have h4 : VarReads Tryz.prog W "unicode/utf8.acceptRanges" acceptData := by rw [← e2]; exact Lib.laidMet.reads h (.head _)
  exact utf8Tabs_of_reads (ρ := Tryz.lays238_ren) { Tryz.lays238 with } ⟨by kernel_rfl, by kernel_rfl, by kernel_rfl, by kernel_rfl, by kernel_rfl, by kernel_rfl, by kernel_rfl⟩ h3 h4
theorem maxLen_of {W : World} (h : W.ShapedOpen Tryz.prog) : ∃ m, W.cell? ⟨12, 0, none⟩ = some (.int .i64 m) :=
  cell_of_shapedOpen_int (g := 12) (t := 3) (zero := #[.int .i64 0]) h (of_decide_eq_true (by kernel_rfl)) (by kernel_rfl) rfl (by kernel_rfl) (by kernel_rfl) Tryz.underlying3
theorem folds_env {W : World} (h : laidMetH Tryz.prog Rows.amendFoldsUptoRow.laid W) (hs : W.ShapedOpen Tryz.prog) : ∃ p m, Env W p m := by
  obtain ⟨⟨p, hp⟩, ht⟩ := folds_laid h
  obtain ⟨m, hm⟩ := maxLen_of hs
  exact ⟨p, m, hp, ht, hm⟩
end Go.Proofs.YtpbolcjcmkmalaaGreatDoor
namespace Go.Proofs.YtpbolcjcmkmalaaGreatDoor
open Go.RowKit Go.Extern.Stop Go.Stop Go.Extern

/-- What stands between the marks of a path. -/
def spls : List UInt8 → List (List UInt8)
  | [] => [[]]
  | c :: r => if c = 47 then [] :: spls r else match spls r with | [] => [[c]] | h :: t => (c :: h) :: t
theorem spls_ne : ∀ l, spls l ≠ []
  | [] => by simp [spls]
  | c :: r => by
    rw [spls]
    split
    · simp
    · split <;> simp
theorem spls_47 (r : List UInt8) : spls (47 :: r) = [] :: spls r := by rw [spls, if_pos rfl]
theorem spls_c {c : UInt8} {r : List UInt8} (h : c ≠ 47) {g : List UInt8} {t : List (List UInt8)} (e : spls r = g :: t) : spls (c :: r) = (c :: g) :: t := by rw [spls, if_neg h, e]
theorem spls_snoc47 : ∀ l : List UInt8, spls (l ++ [47]) = spls l ++ [[]]
  | [] => rfl
  | c :: r => by
    have ih := spls_snoc47 r
    by_cases hc : c = 47
    · subst hc
      rw [List.cons_append, spls_47, ih, spls_47]; rfl
    · obtain ⟨g, t, e⟩ : ∃ g t, spls r = g :: t := by
        cases h : spls r with
        | nil => exact absurd h (spls_ne r)
        | cons g t => exact ⟨g, t, rfl⟩
      rw [List.cons_append, spls_c hc (g := g) (t := t ++ [[]]) (by rw [ih, e]; rfl), spls_c hc e]; rfl
theorem spls_snoc {d : UInt8} (hd : d ≠ 47) : ∀ (l : List UInt8) (o : List (List UInt8)) (x : List UInt8), spls l = o ++ [x] → spls (l ++ [d]) = o ++ [x ++ [d]]
  | [], o, x, h => by
    have h : [[]] = o ++ [x] := h
    cases o with
    | nil => simp at h; subst h; rw [List.nil_append, spls, if_neg hd]; rfl
    | cons a o => simp at h
  | c :: r, o, x, h => by
    by_cases hc : c = 47
    · subst hc
      rw [spls_47] at h
      cases o with
      | nil => exact absurd (by simpa using (List.cons.inj h).2) (spls_ne r)
      | cons a o =>
        rw [List.cons_append] at h
        obtain ⟨h1, h2⟩ := List.cons.inj h
        rw [List.cons_append, spls_47, spls_snoc hd r o x h2, ← h1]; rfl
    · obtain ⟨g, t, e⟩ : ∃ g t, spls r = g :: t := by
        cases h : spls r with
        | nil => exact absurd h (spls_ne r)
        | cons g t => exact ⟨g, t, rfl⟩
      rw [spls_c hc e] at h
      cases o with
      | nil =>
        obtain ⟨h1, h2⟩ := List.cons.inj h
        subst h2
        have := spls_snoc hd r [] g e
        rw [List.cons_append, spls_c hc (g := g ++ [d]) (t := []) this, ← h1]; rfl
      | cons a o =>
        rw [List.cons_append] at h
        obtain ⟨h1, h2⟩ := List.cons.inj h
        have := spls_snoc hd r (g :: o) x (by rw [e, h2]; rfl)
        rw [List.cons_append, spls_c hc (g := g) (t := o ++ [x ++ [d]]) this, ← h1]; rfl
theorem ib47_ne (c : UInt8) (r : List UInt8) (h : c ≠ 47) : Lib.indexByte (c :: r) 47 = if Lib.indexByte r 47 = -1 then -1 else Lib.indexByte r 47 + 1 := by
  rw [Lib.indexByte, if_neg (by simpa using h)]
  simp only [beq_iff_eq]
theorem spls_none : ∀ l : List UInt8, Lib.indexByte l 47 = -1 → spls l = [l]
  | [], _ => rfl
  | c :: r, h => by
    by_cases hc : c = 47
    · subst hc
      rw [Lib.indexByte, if_pos (by simp)] at h
      cases h
    · rw [ib47_ne c r hc] at h
      have h2 : Lib.indexByte r 47 = -1 := by
        by_cases h3 : Lib.indexByte r 47 = -1
        · exact h3
        · rw [if_neg h3] at h
          have := Lib.indexByte_ge r 47
          omega
      exact spls_c hc (spls_none r h2)
theorem spls_hit : ∀ (l : List UInt8) (i : Nat), Lib.indexByte l 47 = i → spls l = l.take i :: spls (l.drop (i + 1))
  | [], i, h => by
    rw [Lib.indexByte] at h
    omega
  | c :: r, i, h => by
    by_cases hc : c = 47
    · subst hc
      rw [Lib.indexByte, if_pos (by simp)] at h
      obtain rfl : i = 0 := by omega
      rw [spls_47]; simp
    · rw [ib47_ne c r hc] at h
      have := Lib.indexByte_ge r 47
      have h3 : ¬ Lib.indexByte r 47 = -1 := fun h3 => by rw [if_pos h3] at h; omega
      rw [if_neg h3] at h
      obtain ⟨j, rfl⟩ : ∃ j, i = j + 1 := ⟨i - 1, by omega⟩
      have h2 : Lib.indexByte r 47 = j := by omega
      rw [spls_c hc (spls_hit r j h2)]
      simp
theorem spls_splitK : ∀ (n : Nat) (l : List UInt8), l.length ≤ n → Lib.splitK [47] 0 (Lib.count l [47]) l = spls l
  | n, l, hn => by
    by_cases h : Lib.index l [47] = -1
    · rw [Lib.count_miss h]
      show [l] = _
      rw [Lib.index_one] at h
      exact (spls_none l h).symm
    · have hge := Lib.index_ge l [47]
      obtain ⟨i, hi⟩ : ∃ i : Nat, Lib.index l [47] = i := ⟨(Lib.index l [47]).toNat, by omega⟩
      have hlt := Lib.drop_shorter (s := l) (sub := [47]) (by simp) (by simpa using h)
      rw [hi] at hlt
      rw [Lib.count_hit (by simp) hi, Nat.add_comm 1, Lib.splitK, if_neg (by simpa using h), hi]
      have hi' := hi
      rw [Lib.index_one] at hi'
      rw [spls_hit l i hi']
      simp only [Int.toNat_natCast, List.length_cons, List.length_nil, Nat.zero_add] at hlt ⊢
      cases n with
      | zero => omega
      | succ n =>
        rw [spls_splitK n (l.drop (i + 1)) (by omega)]
        congr 1
theorem spls_len : ∀ l : List UInt8, (spls l).length ≤ l.length + 1
  | [] => by simp [spls]
  | c :: r => by
    have ih := spls_len r
    by_cases hc : c = 47
    · subst hc; rw [spls_47]; simp; omega
    · obtain ⟨g, t, e⟩ : ∃ g t, spls r = g :: t := by
        cases h : spls r with
        | nil => exact absurd h (spls_ne r)
        | cons g t => exact ⟨g, t, rfl⟩
      rw [spls_c hc e]; rw [e] at ih; simp at ih ⊢; omega
theorem spls_size : ∀ (l x : List UInt8), x ∈ spls l → x.length ≤ l.length
  | [], x, h => by simp [spls] at h; subst h; simp
  | c :: r, x, h => by
    by_cases hc : c = 47
    · subst hc; rw [spls_47] at h
      rcases List.mem_cons.1 h with h | h
      · subst h; simp
      · have := spls_size r x h; simp; omega
    · obtain ⟨g, t, e⟩ : ∃ g t, spls r = g :: t := by
        cases h : spls r with
        | nil => exact absurd h (spls_ne r)
        | cons g t => exact ⟨g, t, rfl⟩
      rw [spls_c hc e] at h
      rcases List.mem_cons.1 h with h | h
      · have := spls_size r g (by rw [e]; simp); subst h; simp; omega
      · have := spls_size r x (by rw [e]; simp [h]); simp; omega
theorem spls_ex (l : List UInt8) : ∃ o x, spls l = o ++ [x] := by
  rcases List.eq_nil_or_concat (spls l) with h0 | ⟨a, b, hab⟩
  · exact absurd h0 (spls_ne l)
  · exact ⟨a, b, by rw [hab, List.concat_eq_append]⟩
/-- The parts of a path, as texts. -/
def partsB (s : ByteArray) : List ByteArray := if s.size = 0 then [] else (spls (bl s)).map ofL
end Go.Proofs.YtpbolcjcmkmalaaGreatDoor
namespace Go.Proofs.YtpbolcjcmkmalaaGreatDoor
open Go.RowKit Go.Extern.Stop Go.Stop Go.Extern

def sliceA : Value → Option Addr | .slice a _ _ => a | _ => none
def sliceN : Value → Nat | .slice _ n _ => n | _ => 0
def sliceC : Value → Nat | .slice _ _ c => c | _ => 0
def strOf : Value → ByteArray | .string s => s | _ => ⟨#[]⟩
theorem Lies.forms {w : World} {P : Nat → Prop} {v : Nat → Value} {t : It} (h : Lies w P v t) : v 0 = .string t.label ∧ v 1 = .string t.head ∧ (∃ la lc, v 2 = .slice la t.lines.length lc) ∧ ∃ ka kc, v 3 = .slice ka t.kids.length kc := by
  cases h with
  | mk v t la ka lc kc V h0 h1 h2 h3 hl hk hr hlc hkc => exact ⟨h0, h1, ⟨la, lc, h2⟩, ⟨ka, kc, h3⟩⟩
theorem Lies.caps {w : World} {P : Nat → Prop} {v : Nat → Value} {t : It} (h : Lies w P v t) {la ka : Option Addr} {n m lc kc : Nat} (e : v 2 = .slice la n lc) (e' : v 3 = .slice ka m kc) : t.lines.length ≤ lc ∧ t.kids.length ≤ kc := by
  cases h with
  | mk v t la' ka' lc' kc' V h0 h1 h2 h3 hl hk hr hlc hkc =>
    rw [h2] at e
    rw [h3] at e'
    injection e with _ _ e3
    injection e' with _ _ e4
    exact ⟨by omega, by omega⟩
theorem Lies.kidsAt {w : World} {P : Nat → Prop} {v : Nat → Value} {t : It} (h : Lies w P v t) {ka : Option Addr} {n kc : Nat} (e : v 3 = .slice ka n kc) : n = t.kids.length ∧ ∃ V : Nat → Nat → Value, (∀ i, i < t.kids.length → ∃ b o, ka = some ⟨b, o, none⟩ ∧ P b ∧ ∀ c, c < 4 → w.cell? ⟨b, o + i * 4 + c, none⟩ = some (V i c)) ∧ ∀ i k, t.kids[i]? = some k → Lies w P (V i) k := by
  cases h with
  | mk v t la ka' lc kc' V h0 h1 h2 h3 hl hk hr hlc hkc =>
    rw [h3] at e
    injection e with e1 e2 e3
    subst e1 e2 e3
    exact ⟨rfl, V, hk, hr⟩
theorem kids_cells {w : World} {P : Nat → Prop} {kids : List It} {ka : Option Addr} {V : Nat → Nat → Value} (hk : ∀ i, i < kids.length → ∃ b o, ka = some ⟨b, o, none⟩ ∧ P b ∧ ∀ c, c < 4 → w.cell? ⟨b, o + i * 4 + c, none⟩ = some (V i c)) (hr : ∀ i k, kids[i]? = some k → Lies w P (V i) k) :
    ∀ i, i < kids.length → ∃ b o, ka = some ⟨b, o, none⟩ ∧ w.cell? ⟨b, o + i * 4, none⟩ = some (.string (strOf (V i 0))) ∧ w.cell? ⟨b, o + i * 4 + 1, none⟩ = some (.string (strOf (V i 1))) ∧ w.cell? ⟨b, o + i * 4 + 2, none⟩ = some (.slice (sliceA (V i 2)) (sliceN (V i 2)) (sliceC (V i 2))) ∧ w.cell? ⟨b, o + i * 4 + 3, none⟩ = some (.slice (sliceA (V i 3)) (sliceN (V i 3)) (sliceC (V i 3))) := by
  intro i hi
  obtain ⟨b, o, e, _, hc⟩ := hk i hi
  obtain ⟨f0, f1, ⟨la, lc, f2⟩, ⟨kb, kc, f3⟩⟩ := (hr i _ (List.getElem?_eq_getElem hi)).forms
  refine ⟨b, o, e, ?_, ?_, ?_, ?_⟩
  · have := hc 0 (by omega); rw [f0] at this ⊢; exact this
  · have := hc 1 (by omega); rw [f1] at this ⊢; exact this
  · have := hc 2 (by omega); rw [f2] at this ⊢; exact this
  · have := hc 3 (by omega); rw [f3] at this ⊢; exact this
end Go.Proofs.YtpbolcjcmkmalaaGreatDoor
namespace Go.Proofs.YtpbolcjcmkmalaaGreatDoor
open Go.RowKit Go.Extern.Stop Go.Stop Go.Extern

def longB (s : ByteArray) : Bool := decide (300 < s.size)
noncomputable def badB (s : ByteArray) : Bool := !lineB s
theorem longQ_any (s : ByteArray) (hs : s.size ≤ 1000000) (w : World) : Calls Tryz.prog 97 #[.string s] w fun e w' => e = .returned (.bool (longB s)) ∧ w' = w := by
  have hb : longB s = decide ((300 : Int) < (s.size : Int)) := by unfold longB; rw [decide_eq_decide]; omega
  rw [hb]
  clear hb
  go_enter Tryz.func97, Tryz.ntmps97
  go_wp2
  go_ret
  exact ⟨rfl, rfl⟩
theorem long1_any (s : ByteArray) (hs : s.size ≤ 1000000) (w : World) : Calls Tryz.prog 97 #[.string s] w fun e w' => e = .returned (.bool (longB s)) ∧ Below w.heap.size w w' :=
  (longQ_any s hs w).mono fun e w' ⟨h1, h2⟩ => ⟨h1, by rw [h2]; exact Below.refl _ _⟩
theorem bad1_any (s : ByteArray) (hs : s.size ≤ 1000000) (w : World) : Calls Tryz.prog 102 #[.string s] w fun e w' => e = .returned (.bool (badB s)) ∧ Below w.heap.size w w' := by
  have HC := hidLL (isLine_any s (by omega) w)
  unfold badB
  generalize lineB s = b at *
  go_enter Tryz.func102, Tryz.ntmps102
  go_wp2_with fail
  refine HC.out.mono ?_
  rintro e w1 ⟨rfl, hb1⟩
  have HB := hidLL hb1
  clear hb1
  go_wp2
  go_ret
  exact ⟨rfl, HB.out⟩
set_option maxHeartbeats 1000000 in
theorem long_idx (n : Nat) (la : Option Addr) (lc : Nat) (L : Nat → ByteArray) (w : World) (hn : n ≤ 100000) (hL : ∀ i, i < n → (L i).size ≤ 1000000) (hk : ∀ i, i < n → ∃ b o, la = some ⟨b, o, none⟩ ∧ w.cell? ⟨b, o + i, none⟩ = some (.string (L i))) :
    Calls Tryz.prog 121 #[.slice la n lc, .func (.func 97) #[] #[]] w fun e w' => (∃ k : Int, e = .returned (.int .i64 k) ∧ -1 ≤ k ∧ (0 ≤ k ↔ ∃ i, i < n ∧ longB (L i) = true)) ∧ Below w.heap.size w w' := by
  go_enter Tryz.func121, Tryz.ntmps121
  go_wp2_with fail
  go_loopw [8] (fun t wr => ∃ i : Nat, i ≤ n ∧ t = .int .i64 i ∧ Below w.heap.size w wr ∧ ∀ j, j < i → longB (L j) = false) (fun t _ => (n - RowKit.intOf t).toNat)
  case atStart => exact ⟨0, by omega, rfl, Below.refl _ _, fun j hj => by omega⟩
  case round =>
    obtain ⟨i, hi, rfl, hb, hno⟩ := hrel
    have HB := hidLL hb
    have HN := hidLL hno
    clear hb hno
    by_cases hin : i < n
    · obtain ⟨b, o, rfl, c0⟩ := hk i hin
      have hiz : (i : Int) < n := by omega
      have d0 := (HB.out.cell (p := ⟨b, o + i, none⟩) (cell_lt c0)).trans c0
      have HC := hidLL (fun W => long1_any (L i) (hL i hin) W)
      have HK := hidLL hk
      clear c0 hk
      cases hq : longB (L i)
      · rw [hq] at HC
        have HQ := hidLL hq
        clear hq
        go_wp2_with fail
        refine (HC.out wr).mono ?_
        rintro e w1 ⟨rfl, hb1⟩
        have HB1 := hidLL (HB.out.trans (hb1.mono HB.out.size))
        clear hb1
        go_wp2
        go_roundw
        case rel =>
          refine ⟨i + 1, by omega, by go_num, HB1.out, fun j hj => ?_⟩
          rcases Nat.lt_or_ge j i with h | h
          · exact HN.out j h
          · obtain rfl : j = i := by omega
            exact HQ.out
        case measure => simp [RowKit.intOf]; omega
      · rw [hq] at HC
        have HQ := hidLL hq
        clear hq
        go_wp2_with fail
        refine (HC.out wr).mono ?_
        rintro e w1 ⟨rfl, hb1⟩
        have HB1 := hidLL (HB.out.trans (hb1.mono HB.out.size))
        clear hb1
        go_wp2
        go_ret
        exact ⟨⟨i, rfl, by omega, ⟨fun _ => ⟨i, hin, HQ.out⟩, fun _ => by omega⟩⟩, HB1.out⟩
    · obtain rfl : i = n := by omega
      clear hk
      go_wp2
      go_ret
      refine ⟨⟨-1, rfl, by omega, ⟨fun h => by omega, ?_⟩⟩, HB.out⟩
      rintro ⟨j, hj, hq⟩
      have := HN.out j hj
      rw [this] at hq
      cases hq
theorem long_has (ls : List ByteArray) (la : Option Addr) (lc : Nat) (w : World) (hn : ls.length ≤ 100000) (hL : ∀ s ∈ ls, s.size ≤ 1000000) (hk : ∀ i s, ls[i]? = some s → ∃ b o, la = some ⟨b, o, none⟩ ∧ w.cell? ⟨b, o + i, none⟩ = some (.string s)) :
    Calls Tryz.prog 98 #[.slice la ls.length lc, .func (.func 97) #[] #[]] w fun e w' => e = .returned (.bool (ls.any longB)) ∧ Below w.heap.size w w' := by
  have HC := hidLL (long_idx ls.length la lc (fun i => ls.getD i ⟨#[]⟩) w hn (fun i hi => hL _ (by rw [List.getD_eq_getElem?_getD, List.getElem?_eq_getElem hi]; exact List.getElem_mem hi)) (fun i hi => by
    obtain ⟨b, o, h1, h2⟩ := hk i _ (List.getElem?_eq_getElem hi)
    refine ⟨b, o, h1, ?_⟩
    rw [List.getD_eq_getElem?_getD, List.getElem?_eq_getElem hi]
    exact h2))
  have HA : Hid (∀ k : Int, (0 ≤ k ↔ ∃ i, i < ls.length ∧ longB (ls.getD i ⟨#[]⟩) = true) → decide (0 ≤ k) = ls.any longB) := fun k hk => by
    rw [Bool.eq_iff_iff, decide_eq_true_iff, hk, List.any_eq_true]
    constructor
    · rintro ⟨i, hi, h⟩
      rw [List.getD_eq_getElem?_getD, List.getElem?_eq_getElem hi] at h
      exact ⟨ls[i], List.getElem_mem hi, h⟩
    · rintro ⟨x, hx, h⟩
      obtain ⟨i, hi, rfl⟩ := List.getElem_of_mem hx
      refine ⟨i, hi, ?_⟩
      rw [List.getD_eq_getElem?_getD, List.getElem?_eq_getElem hi]
      exact h
  clear hk hL
  generalize ls.length = n at *
  generalize ls.any longB = an at *
  go_enter Tryz.func98, Tryz.ntmps98
  go_wp2_with fail
  refine HC.out.mono ?_
  rintro e w1 ⟨⟨k, rfl, hk1, hk2⟩, hb1⟩
  have H2 := hidLL (HA.out k hk2)
  have HB := hidLL hb1
  clear hk2 hb1
  go_wp2
  go_ret
  exact ⟨ret_b H2.out, HB.out⟩
set_option maxHeartbeats 1000000 in
theorem bad_idx (n : Nat) (la : Option Addr) (lc : Nat) (L : Nat → ByteArray) (w : World) (hn : n ≤ 100000) (hL : ∀ i, i < n → (L i).size ≤ 1000000) (hk : ∀ i, i < n → ∃ b o, la = some ⟨b, o, none⟩ ∧ w.cell? ⟨b, o + i, none⟩ = some (.string (L i))) :
    Calls Tryz.prog 121 #[.slice la n lc, .func (.func 102) #[] #[]] w fun e w' => (∃ k : Int, e = .returned (.int .i64 k) ∧ -1 ≤ k ∧ (0 ≤ k ↔ ∃ i, i < n ∧ badB (L i) = true)) ∧ Below w.heap.size w w' := by
  go_enter Tryz.func121, Tryz.ntmps121
  go_wp2_with fail
  go_loopw [8] (fun t wr => ∃ i : Nat, i ≤ n ∧ t = .int .i64 i ∧ Below w.heap.size w wr ∧ ∀ j, j < i → badB (L j) = false) (fun t _ => (n - RowKit.intOf t).toNat)
  case atStart => exact ⟨0, by omega, rfl, Below.refl _ _, fun j hj => by omega⟩
  case round =>
    obtain ⟨i, hi, rfl, hb, hno⟩ := hrel
    have HB := hidLL hb
    have HN := hidLL hno
    clear hb hno
    by_cases hin : i < n
    · obtain ⟨b, o, rfl, c0⟩ := hk i hin
      have hiz : (i : Int) < n := by omega
      have d0 := (HB.out.cell (p := ⟨b, o + i, none⟩) (cell_lt c0)).trans c0
      have HC := hidLL (fun W => bad1_any (L i) (hL i hin) W)
      have HK := hidLL hk
      clear c0 hk
      cases hq : badB (L i)
      · rw [hq] at HC
        have HQ := hidLL hq
        clear hq
        go_wp2_with fail
        refine (HC.out wr).mono ?_
        rintro e w1 ⟨rfl, hb1⟩
        have HB1 := hidLL (HB.out.trans (hb1.mono HB.out.size))
        clear hb1
        go_wp2
        go_roundw
        case rel =>
          refine ⟨i + 1, by omega, by go_num, HB1.out, fun j hj => ?_⟩
          rcases Nat.lt_or_ge j i with h | h
          · exact HN.out j h
          · obtain rfl : j = i := by omega
            exact HQ.out
        case measure => simp [RowKit.intOf]; omega
      · rw [hq] at HC
        have HQ := hidLL hq
        clear hq
        go_wp2_with fail
        refine (HC.out wr).mono ?_
        rintro e w1 ⟨rfl, hb1⟩
        have HB1 := hidLL (HB.out.trans (hb1.mono HB.out.size))
        clear hb1
        go_wp2
        go_ret
        exact ⟨⟨i, rfl, by omega, ⟨fun _ => ⟨i, hin, HQ.out⟩, fun _ => by omega⟩⟩, HB1.out⟩
    · obtain rfl : i = n := by omega
      clear hk
      go_wp2
      go_ret
      refine ⟨⟨-1, rfl, by omega, ⟨fun h => by omega, ?_⟩⟩, HB.out⟩
      rintro ⟨j, hj, hq⟩
      have := HN.out j hj
      rw [this] at hq
      cases hq
theorem bad_has (ls : List ByteArray) (la : Option Addr) (lc : Nat) (w : World) (hn : ls.length ≤ 100000) (hL : ∀ s ∈ ls, s.size ≤ 1000000) (hk : ∀ i s, ls[i]? = some s → ∃ b o, la = some ⟨b, o, none⟩ ∧ w.cell? ⟨b, o + i, none⟩ = some (.string s)) :
    Calls Tryz.prog 98 #[.slice la ls.length lc, .func (.func 102) #[] #[]] w fun e w' => e = .returned (.bool (ls.any badB)) ∧ Below w.heap.size w w' := by
  have HC := hidLL (bad_idx ls.length la lc (fun i => ls.getD i ⟨#[]⟩) w hn (fun i hi => hL _ (by rw [List.getD_eq_getElem?_getD, List.getElem?_eq_getElem hi]; exact List.getElem_mem hi)) (fun i hi => by
    obtain ⟨b, o, h1, h2⟩ := hk i _ (List.getElem?_eq_getElem hi)
    refine ⟨b, o, h1, ?_⟩
    rw [List.getD_eq_getElem?_getD, List.getElem?_eq_getElem hi]
    exact h2))
  have HA : Hid (∀ k : Int, (0 ≤ k ↔ ∃ i, i < ls.length ∧ badB (ls.getD i ⟨#[]⟩) = true) → decide (0 ≤ k) = ls.any badB) := fun k hk => by
    rw [Bool.eq_iff_iff, decide_eq_true_iff, hk, List.any_eq_true]
    constructor
    · rintro ⟨i, hi, h⟩
      rw [List.getD_eq_getElem?_getD, List.getElem?_eq_getElem hi] at h
      exact ⟨ls[i], List.getElem_mem hi, h⟩
    · rintro ⟨x, hx, h⟩
      obtain ⟨i, hi, rfl⟩ := List.getElem_of_mem hx
      refine ⟨i, hi, ?_⟩
      rw [List.getD_eq_getElem?_getD, List.getElem?_eq_getElem hi]
      exact h
  clear hk hL
  generalize ls.length = n at *
  generalize ls.any badB = an at *
  go_enter Tryz.func98, Tryz.ntmps98
  go_wp2_with fail
  refine HC.out.mono ?_
  rintro e w1 ⟨⟨k, rfl, hk1, hk2⟩, hb1⟩
  have H2 := hidLL (HA.out k hk2)
  have HB := hidLL hb1
  clear hk2 hb1
  go_wp2
  go_ret
  exact ⟨ret_b H2.out, HB.out⟩
end Go.Proofs.YtpbolcjcmkmalaaGreatDoor
