/-
  A view's sums and conditions: the walks.
-/
import Derived.Test.YtcfeflkhmncmjaaGreatDoorHoldA
namespace Go.Proofs.YtcfeflkhmncmjaaGreatDoor
open Go.RowKit

theorem FindR.ret {w0 w' : World} {p : Nat → Addr} {r : Rs} {e : Ending} (h : FindR w0 p r e w') : ∃ x u, e = .returned (.tuple #[.int .i64 x, u]) := by
  obtain ⟨h, _⟩ := h
  cases r with
  | err c => exact ⟨_, _, h⟩
  | ok v => exact ⟨_, _, h⟩
/-- Whether it holds. -/
def HoldR (w0 : World) (p : Nat → Addr) (r : Rs) (e : Ending) (w' : World) : Prop :=
  (match r with
  | .err c => e = .returned (.tuple #[.bool false, errV p c])
  | .ok v => e = .returned (.tuple #[.bool (v == 1), .nilIface])) ∧ Below w0.heap.size w0 w'
theorem FindR.hold {w0 w' : World} {p : Nat → Addr} {r : Rs} {x : Int} {u : Value} (h : FindR w0 p r (.returned (.tuple #[.int .i64 x, u])) w') : HoldR w0 p r (.returned (.tuple #[.bool (x == 1), u])) w' := by
  obtain ⟨h, hb⟩ := h
  refine ⟨?_, hb⟩
  cases r with
  | err c =>
    injection h with h; injection h with h; injection h with h
    injection h with h1 h2; injection h1 with _ h1; injection h2 with h2
    subst h1 h2
    rfl
  | ok v =>
    injection h with h; injection h with h; injection h with h
    injection h with h1 h2; injection h1 with _ h1; injection h2 with h2
    subst h1 h2
    rfl
set_option maxHeartbeats 8000000 in
set_option maxRecDepth 20000 in
theorem vsum_p {w0 w : World} {bv bvm bf : Nat} {L : List Fct} {on known : Int} {p : Nat → Addr} {t : Tr} {ka : Option Addr} {kc : Nat} (h : FV w0 w bv bvm bf L on known) (hL : Laid w0 p) (hN : NdV w0 (· < w0.heap.size) ka kc t) (hcn : cnt t ≤ 1000) (who : Int) :
    Calls Tryz.prog 28 #[.pointer (some ⟨bv, 0, none⟩), .agg #[.string t.kind, .string t.word, .int .i64 t.num, .slice ka t.kids.length kc], .int .i64 who] w (FindR w0 p (askR L t who on known true)) := by
  obtain ⟨W, hW⟩ : ∃ W, W = w.alloc (.cells #[.string t.kind, .string t.word, .int .i64 t.num, .slice ka t.kids.length kc] 44) := ⟨_, rfl⟩
  have f : FrX (fun _ => False) w W := by rw [hW]; exact (FrX.refl _ _).alloc _
  have hs : W.heap.size = w.heap.size + 1 := by rw [hW]; simp
  have hb : W.heap[w.heap.size]? = some (.cells (ndv t ka kc) 44 (0, 0)) := by rw [hW]; exact Go.Deep.blk_alloc_new w _
  have HLk := hidLL (look_p (h.fresh f))
  have hm := h.met.lt
  have HFd : Hid (∀ bl bx bm w2, FL w0 w2 bl bx bm bv bvm bf L on known → FrX (fun _ => False) W w2 → W.heap.size ≤ bl → W.heap.size ≤ bm → Calls Tryz.prog 40 #[.pointer (some ⟨bl, 0, none⟩), .agg #[.pointer (some ⟨w.heap.size, 0, none⟩), .int .i64 who, .bool true]] w2 (FindR w0 p (askR L t who on known true))) := fun bl bx bm w2 h2 f2 hl hm2 =>
    find_any h2 hL hN h2.fv.bel ((f2.block _ (by omega) id).trans hb) (by omega) (by omega) (by omega) hcn who true
  have HW := hidLL hW
  clear h hL hN hcn hW f hs hb hm
  go_enter Tryz.func28, Tryz.ntmps28
  go_wp2_with (first | (rw [← HW.out]; go_at_call 39; refine HLk.out.mono ?_; rintro e w2 ⟨bl, bx, bm, rfl, hFL, hFr, hl1, hl2⟩; have HC := hidLL (HFd.out bl bx bm w2 hFL hFr hl1 hl2); clear hFL hFr hl1 hl2) | (go_at_call 40; refine HC.out.mono ?_; intro e w9 hr9; obtain ⟨x9, u9, rfl⟩ := hr9.ret; have HR9 := hidLL hr9; clear hr9))
  go_ret2
  exact HR9.out
set_option maxHeartbeats 8000000 in
set_option maxRecDepth 20000 in
theorem vhold_p {w0 w : World} {bv bvm bf : Nat} {L : List Fct} {on known : Int} {p : Nat → Addr} {t : Tr} {ka : Option Addr} {kc : Nat} (h : FV w0 w bv bvm bf L on known) (hL : Laid w0 p) (hN : NdV w0 (· < w0.heap.size) ka kc t) (hcn : cnt t ≤ 1000) (who : Int) :
    Calls Tryz.prog 22 #[.pointer (some ⟨bv, 0, none⟩), .agg #[.string t.kind, .string t.word, .int .i64 t.num, .slice ka t.kids.length kc], .int .i64 who] w (HoldR w0 p (askR L t who on known false)) := by
  obtain ⟨W, hW⟩ : ∃ W, W = w.alloc (.cells #[.string t.kind, .string t.word, .int .i64 t.num, .slice ka t.kids.length kc] 44) := ⟨_, rfl⟩
  have f : FrX (fun _ => False) w W := by rw [hW]; exact (FrX.refl _ _).alloc _
  have hs : W.heap.size = w.heap.size + 1 := by rw [hW]; simp
  have hb : W.heap[w.heap.size]? = some (.cells (ndv t ka kc) 44 (0, 0)) := by rw [hW]; exact Go.Deep.blk_alloc_new w _
  have HLk := hidLL (look_p (h.fresh f))
  have hm := h.met.lt
  have HFd : Hid (∀ bl bx bm w2, FL w0 w2 bl bx bm bv bvm bf L on known → FrX (fun _ => False) W w2 → W.heap.size ≤ bl → W.heap.size ≤ bm → Calls Tryz.prog 40 #[.pointer (some ⟨bl, 0, none⟩), .agg #[.pointer (some ⟨w.heap.size, 0, none⟩), .int .i64 who, .bool false]] w2 (FindR w0 p (askR L t who on known false))) := fun bl bx bm w2 h2 f2 hl hm2 =>
    find_any h2 hL hN h2.fv.bel ((f2.block _ (by omega) id).trans hb) (by omega) (by omega) (by omega) hcn who false
  have HW := hidLL hW
  clear h hL hN hcn hW f hs hb hm
  go_enter Tryz.func22, Tryz.ntmps22
  go_wp2_with (first | (rw [← HW.out]; go_at_call 39; refine HLk.out.mono ?_; rintro e w2 ⟨bl, bx, bm, rfl, hFL, hFr, hl1, hl2⟩; have HC := hidLL (HFd.out bl bx bm w2 hFL hFr hl1 hl2); clear hFL hFr hl1 hl2) | (go_at_call 40; refine HC.out.mono ?_; intro e w9 hr9; obtain ⟨x9, u9, rfl⟩ := hr9.ret; have HR9 := hidLL hr9.hold; clear hr9))
  go_ret2
  exact HR9.out
end Go.Proofs.YtcfeflkhmncmjaaGreatDoor
namespace Go.Proofs.YtcfeflkhmncmjaaGreatDoor
open Go.RowKit

theorem HoldR.ret {w0 w' : World} {p : Nat → Addr} {r : Rs} {e : Ending} (h : HoldR w0 p r e w') : ∃ x u, e = .returned (.tuple #[.bool x, u]) := by
  obtain ⟨h, _⟩ := h
  cases r with
  | err c => exact ⟨_, _, h⟩
  | ok v => exact ⟨_, _, h⟩
set_option maxHeartbeats 8000000 in
set_option maxRecDepth 20000 in
theorem fsum_p {w : World} {bf Bf : Nat} {sv : Value} {L : List Fct} {p : Nat → Addr} {t : Tr} {ka : Option Addr} {kc : Nat} (hf : FFile 61 Bf w bf L sv) (hg : ∀ x ∈ L, Good x) (hl : L.length ≤ 500) (hL : Laid w p) (hN : NdV w (· < w.heap.size) ka kc t) (hcn : cnt t ≤ 1000) (who on known : Int) :
    Calls Tryz.prog 12 #[.pointer (some ⟨bf, 0, none⟩), .agg #[.string t.kind, .string t.word, .int .i64 t.num, .slice ka t.kids.length kc], .int .i64 who, .int .i64 on, .int .i64 known] w (FindR w p (askR L t who on known true)) := by
  obtain ⟨V, hV⟩ : ∃ V, V = w.alloc (.cells #[.string t.kind, .string t.word, .int .i64 t.num, .slice ka t.kids.length kc] 44) := ⟨_, rfl⟩
  have hbV : Below w.heap.size w V := by rw [hV]; exact (Below.refl _ _).alloc (Nat.le_refl _) _
  have hbk : V.heap[w.heap.size]? = some (.cells #[.string t.kind, .string t.word, .int .i64 t.num, .slice ka t.kids.length kc] 44 (0, 0)) := by rw [hV]; exact Go.Deep.blk_alloc_new w _
  have hbD : Below w.heap.size w V.drew := hbV.drew
  have hND : NdV V.drew (· < V.drew.heap.size) ka kc t := ⟨hN.hw, hN.hl, hN.hc, hN.hk, fun i u e => (hN.hr i u e).step fun k hk _ => ⟨hbD.block k hk, Nat.lt_of_lt_of_le hk hbD.size⟩⟩
  have HV := hidLL (view_p on known (hf.bel hbD) hg hl)
  have HS : Hid (∀ bv bvm w2, FV V.drew w2 bv bvm bf L on known → Calls Tryz.prog 28 #[.pointer (some ⟨bv, 0, none⟩), .agg #[.string t.kind, .string t.word, .int .i64 t.num, .slice ka t.kids.length kc], .int .i64 who] w2 (FindR V.drew p (askR L t who on known true))) := fun bv bvm w2 h2 => vsum_p h2 (hL.below hbD) hND hcn who
  have HM : Hid (∀ e w', FindR V.drew p (askR L t who on known true) e w' → FindR w p (askR L t who on known true) e w') := fun e w' h => ⟨h.1, hbD.trans (h.2.mono hbD.size)⟩
  obtain ⟨nb, hnb⟩ : ∃ nb, nb = w.heap.size := ⟨_, rfl⟩
  rw [← hnb] at hbk
  have hlt : nb < V.heap.size := (Array.getElem?_eq_some_iff.1 hbk).1
  have HX : Hid (∀ bv bvm w2, FV V.drew w2 bv bvm bf L on known → w2.heap[nb]? = some (.cells #[.string t.kind, .string t.word, .int .i64 t.num, .slice ka t.kids.length kc] 44 (0, 0))) := fun bv bvm w2 h2 => (h2.bel.block nb hlt).trans hbk
  have n0 : V.cell? ⟨nb, 0, none⟩ = some (.string t.kind) := by rw [cell_of_row _ nb 0 _ _ _ hbk]; rfl
  have n1 : V.cell? ⟨nb, 1, none⟩ = some (.string t.word) := by rw [cell_of_row _ nb 1 _ _ _ hbk]; rfl
  have n2 : V.cell? ⟨nb, 2, none⟩ = some (.int .i64 t.num) := by rw [cell_of_row _ nb 2 _ _ _ hbk]; rfl
  have n3 : V.cell? ⟨nb, 3, none⟩ = some (.slice ka t.kids.length kc) := by rw [cell_of_row _ nb 3 _ _ _ hbk]; rfl
  have HW := hidLL (And.intro hV hnb)
  clear hf hg hl hL hN hcn hV hbV hbk hbD hND hnb hlt
  go_enter Tryz.func12, Tryz.ntmps12
  go_upto_region 1 with fail
  rw [← HW.out.1, ← HW.out.2]
  go_region_law (first | (go_simp; go_at_call 21; refine HV.out.mono ?_; rintro e w2 ⟨bv, bvm, rfl, hFV⟩; (have HC := hidLL (HS.out bv bvm w2 hFV)); (have hbk2 := HX.out bv bvm w2 hFV); (have m0 : w2.cell? ⟨nb, 0, none⟩ = some (.string t.kind) := by rw [cell_of_row _ nb 0 _ _ _ hbk2]; rfl); (have m1 : w2.cell? ⟨nb, 1, none⟩ = some (.string t.word) := by rw [cell_of_row _ nb 1 _ _ _ hbk2]; rfl); (have m2 : w2.cell? ⟨nb, 2, none⟩ = some (.int .i64 t.num) := by rw [cell_of_row _ nb 2 _ _ _ hbk2]; rfl); (have m3 : w2.cell? ⟨nb, 3, none⟩ = some (.slice ka t.kids.length kc) := by rw [cell_of_row _ nb 3 _ _ _ hbk2]; rfl); clear hFV hbk2) | (go_simp; go_at_call 28; refine HC.out.mono ?_; intro e w9 hr9; obtain ⟨x9, u9, rfl⟩ := hr9.ret; (have HR9 := hidLL (HM.out _ _ hr9)); clear hr9))
  all_goals (go_wp2; go_ret2; exact HR9.out)
set_option maxHeartbeats 8000000 in
set_option maxRecDepth 20000 in
theorem fhold_p {w : World} {bf Bf : Nat} {sv : Value} {L : List Fct} {p : Nat → Addr} {t : Tr} {ka : Option Addr} {kc : Nat} (hf : FFile 61 Bf w bf L sv) (hg : ∀ x ∈ L, Good x) (hl : L.length ≤ 500) (hL : Laid w p) (hN : NdV w (· < w.heap.size) ka kc t) (hcn : cnt t ≤ 1000) (who on known : Int) :
    Calls Tryz.prog 8 #[.pointer (some ⟨bf, 0, none⟩), .agg #[.string t.kind, .string t.word, .int .i64 t.num, .slice ka t.kids.length kc], .int .i64 who, .int .i64 on, .int .i64 known] w (HoldR w p (askR L t who on known false)) := by
  obtain ⟨V, hV⟩ : ∃ V, V = w.alloc (.cells #[.string t.kind, .string t.word, .int .i64 t.num, .slice ka t.kids.length kc] 44) := ⟨_, rfl⟩
  have hbV : Below w.heap.size w V := by rw [hV]; exact (Below.refl _ _).alloc (Nat.le_refl _) _
  have hbk : V.heap[w.heap.size]? = some (.cells #[.string t.kind, .string t.word, .int .i64 t.num, .slice ka t.kids.length kc] 44 (0, 0)) := by rw [hV]; exact Go.Deep.blk_alloc_new w _
  have hbD : Below w.heap.size w V.drew := hbV.drew
  have hND : NdV V.drew (· < V.drew.heap.size) ka kc t := ⟨hN.hw, hN.hl, hN.hc, hN.hk, fun i u e => (hN.hr i u e).step fun k hk _ => ⟨hbD.block k hk, Nat.lt_of_lt_of_le hk hbD.size⟩⟩
  have HV := hidLL (view_p on known (hf.bel hbD) hg hl)
  have HS : Hid (∀ bv bvm w2, FV V.drew w2 bv bvm bf L on known → Calls Tryz.prog 22 #[.pointer (some ⟨bv, 0, none⟩), .agg #[.string t.kind, .string t.word, .int .i64 t.num, .slice ka t.kids.length kc], .int .i64 who] w2 (HoldR V.drew p (askR L t who on known false))) := fun bv bvm w2 h2 => vhold_p h2 (hL.below hbD) hND hcn who
  have HM : Hid (∀ e w', HoldR V.drew p (askR L t who on known false) e w' → HoldR w p (askR L t who on known false) e w') := fun e w' h => ⟨h.1, hbD.trans (h.2.mono hbD.size)⟩
  obtain ⟨nb, hnb⟩ : ∃ nb, nb = w.heap.size := ⟨_, rfl⟩
  rw [← hnb] at hbk
  have hlt : nb < V.heap.size := (Array.getElem?_eq_some_iff.1 hbk).1
  have HX : Hid (∀ bv bvm w2, FV V.drew w2 bv bvm bf L on known → w2.heap[nb]? = some (.cells #[.string t.kind, .string t.word, .int .i64 t.num, .slice ka t.kids.length kc] 44 (0, 0))) := fun bv bvm w2 h2 => (h2.bel.block nb hlt).trans hbk
  have n0 : V.cell? ⟨nb, 0, none⟩ = some (.string t.kind) := by rw [cell_of_row _ nb 0 _ _ _ hbk]; rfl
  have n1 : V.cell? ⟨nb, 1, none⟩ = some (.string t.word) := by rw [cell_of_row _ nb 1 _ _ _ hbk]; rfl
  have n2 : V.cell? ⟨nb, 2, none⟩ = some (.int .i64 t.num) := by rw [cell_of_row _ nb 2 _ _ _ hbk]; rfl
  have n3 : V.cell? ⟨nb, 3, none⟩ = some (.slice ka t.kids.length kc) := by rw [cell_of_row _ nb 3 _ _ _ hbk]; rfl
  have HW := hidLL (And.intro hV hnb)
  clear hf hg hl hL hN hcn hV hbV hbk hbD hND hnb hlt
  go_enter Tryz.func8, Tryz.ntmps8
  go_upto_region 1 with fail
  rw [← HW.out.1, ← HW.out.2]
  go_region_law (first | (go_simp; go_at_call 21; refine HV.out.mono ?_; rintro e w2 ⟨bv, bvm, rfl, hFV⟩; (have HC := hidLL (HS.out bv bvm w2 hFV)); (have hbk2 := HX.out bv bvm w2 hFV); (have m0 : w2.cell? ⟨nb, 0, none⟩ = some (.string t.kind) := by rw [cell_of_row _ nb 0 _ _ _ hbk2]; rfl); (have m1 : w2.cell? ⟨nb, 1, none⟩ = some (.string t.word) := by rw [cell_of_row _ nb 1 _ _ _ hbk2]; rfl); (have m2 : w2.cell? ⟨nb, 2, none⟩ = some (.int .i64 t.num) := by rw [cell_of_row _ nb 2 _ _ _ hbk2]; rfl); (have m3 : w2.cell? ⟨nb, 3, none⟩ = some (.slice ka t.kids.length kc) := by rw [cell_of_row _ nb 3 _ _ _ hbk2]; rfl); clear hFV hbk2) | (go_simp; go_at_call 22; refine HC.out.mono ?_; intro e w9 hr9; obtain ⟨x9, u9, rfl⟩ := hr9.ret; (have HR9 := hidLL (HM.out _ _ hr9)); clear hr9))
  all_goals (go_wp2; go_ret2; exact HR9.out)
end Go.Proofs.YtcfeflkhmncmjaaGreatDoor
