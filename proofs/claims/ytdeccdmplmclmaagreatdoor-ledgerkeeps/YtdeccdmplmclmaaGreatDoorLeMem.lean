/-
  Pays, claims, lines, entries in memory. No walk.
-/
import Derived.Test.YtdeccdmplmclmaaGreatDoorLePl
import Derived.Test.YtdeccdmplmclmaaGreatDoorEncMem
namespace Go.Proofs.YtdeccdmplmclmaaGreatDoor
open Go.RowKit

def pyE : Enc Py := ⟨fun p => [.int .i64 p.frm, .int .i64 p.til, .int .i64 p.cents], 3, by decide, fun _ => rfl, fun _ u h => by
  simp only [List.mem_cons, List.not_mem_nil, or_false] at h
  rcases h with rfl | rfl | rfl <;> rfl⟩
def lnE : Enc Ln := ⟨fun p => [.string p.acc, .int .i64 p.cents], 2, by decide, fun _ => rfl, fun _ u h => by
  simp only [List.mem_cons, List.not_mem_nil, or_false] at h
  rcases h with rfl | rfl <;> rfl⟩
def clE : Enc (Cl × SlV) := ⟨fun p => [.int .i64 p.1.day, p.2.v], 2, by decide, fun _ => rfl, fun _ u h => by
  simp only [List.mem_cons, List.not_mem_nil, or_false] at h
  rcases h with rfl | rfl <;> rfl⟩
def enE : Enc (En × SlV) := ⟨fun p => [.int .i64 p.1.day, .string p.1.text, p.2.v], 3, by decide, fun _ => rfl, fun _ u h => by
  simp only [List.mem_cons, List.not_mem_nil, or_false] at h
  rcases h with rfl | rfl | rfl <;> rfl⟩
def clN : Nest Cl Py := ⟨clE, pyE, Cl.due⟩
def enN : Nest En Ln := ⟨enE, lnE, En.lines⟩
theorem py_cells {w : World} {g b : Nat} {p : Py} (h : w.rangeAt g b (pyE.f p)) : w.cell? ⟨g, b, none⟩ = some (.int .i64 p.frm) ∧ w.cell? ⟨g, b + 1, none⟩ = some (.int .i64 p.til) ∧ w.cell? ⟨g, b + 2, none⟩ = some (.int .i64 p.cents) := ⟨h 0 _ rfl, h 1 _ rfl, h 2 _ rfl⟩
theorem ln_cells {w : World} {g b : Nat} {p : Ln} (h : w.rangeAt g b (lnE.f p)) : w.cell? ⟨g, b, none⟩ = some (.string p.acc) ∧ w.cell? ⟨g, b + 1, none⟩ = some (.int .i64 p.cents) := ⟨h 0 _ rfl, h 1 _ rfl⟩
theorem cl_at {w : World} {S : Nat → Prop} {n c : Nat} {a : Option Addr} {l : List Cl} (h : NRd clN w S (.slice a n c) l) {j : Nat} {x : Cl} (hj : l[j]? = some x) :
    ∃ g o sa sn sc, a = some ⟨g, o, none⟩ ∧ S g ∧ w.cell? ⟨g, o + j * 2, none⟩ = some (.int .i64 x.day) ∧ w.cell? ⟨g, o + j * 2 + 1, none⟩ = some (.slice sa sn sc) ∧ RdS pyE w S (.slice sa sn sc) x.due := by
  obtain ⟨g, o, sa, sn, sc, e, hS, hr, hd⟩ := h.at hj
  exact ⟨g, o, sa, sn, sc, e, hS, hr 0 _ rfl, hr 1 _ rfl, hd⟩
theorem en_at {w : World} {S : Nat → Prop} {n c : Nat} {a : Option Addr} {l : List En} (h : NRd enN w S (.slice a n c) l) {j : Nat} {x : En} (hj : l[j]? = some x) :
    ∃ g o sa sn sc, a = some ⟨g, o, none⟩ ∧ S g ∧ w.cell? ⟨g, o + j * 3, none⟩ = some (.int .i64 x.day) ∧ w.cell? ⟨g, o + j * 3 + 1, none⟩ = some (.string x.text) ∧ w.cell? ⟨g, o + j * 3 + 2, none⟩ = some (.slice sa sn sc) ∧ RdS lnE w S (.slice sa sn sc) x.lines := by
  obtain ⟨g, o, sa, sn, sc, e, hS, hr, hd⟩ := h.at hj
  exact ⟨g, o, sa, sn, sc, e, hS, hr 0 _ rfl, hr 1 _ rfl, hr 2 _ rfl, hd⟩
theorem range_bel {w w' : World} {B b o : Nat} {cs : List Value} (h : w.rangeAt b o cs) (hb : Below B w w') (hl : b < B) : w'.rangeAt b o cs := range_on h (hb.block b hl)
theorem get_in {α : Type} {l : List α} {i : Nat} (h : i < l.length) : ∃ x, l[i]? = some x ∧ l.drop i = x :: l.drop (i + 1) := ⟨l[i], List.getElem?_eq_getElem h, List.drop_eq_getElem_cons h⟩
end Go.Proofs.YtdeccdmplmclmaaGreatDoor
