/-
  The walk of 'live'.
-/
import Derived.Test.YtgfaeeacndpniaaDoorReadP
import Derived.Test.YtgfaeeacndpniaaDoorLivePlain
namespace Go.Proofs.YtgfaeeacndpniaaDoor
open Go.RowKit Go.Extern.Stop Go.Stop Go.Extern

set_option maxHeartbeats 4000000 in
set_option maxRecDepth 10000 in
theorem live_any (p : Nat → Addr) (m : Int) (w : World) (hE : Env w p m) : Calls Tryd.prog 8 #[] w fun e w' => e = .returned (.bool true) ∧ Below w.heap.size w w' := by
  have HRd := hidLL (read_any ⟨#[108, 97, 119, 32, 97, 10, 49, 32, 98, 10, 32, 32, 124, 32, 99, 10]⟩ (.inl (by decide)) p m w hE)
  rw [live_read] at HRd
  clear hE
  go_enter Tryd.func8, Tryd.ntmps8
  go_wp2_with fail
  go_at_call 11
  refine HRd.out.mono ?_
  rintro e w1 ⟨⟨v, rfl, hL⟩, hb1⟩
  obtain ⟨f0, f1, ⟨la, lc, f2⟩, ⟨ka, kc, f3⟩⟩ := hL.forms
  obtain ⟨_, V, hk, hr⟩ := hL.kidsAt f3
  obtain ⟨b, o, hka, _, hc⟩ := hk 0 (by decide)
  obtain ⟨_, _, ⟨la2, lc2, g2⟩, _⟩ := (hr 0 _ rfl).forms
  have y2 := hc 2 (by omega)
  rw [g2] at y2
  have y2 : w1.cell? ⟨b, o + 2, none⟩ = some (.slice la2 1 lc2) := y2
  have hbl := cell_lt y2
  have f0 : v 0 = .string ⟨#[]⟩ := f0
  have f1 : v 1 = .string ⟨#[97]⟩ := f1
  have f2 : v 2 = .slice la 0 lc := f2
  have f3 : v 3 = .slice ka 1 kc := f3
  rw [f0, f1, f2, f3]
  subst hka
  have HB1 := hidLL hb1
  clear hb1 hL hk hr hc f0 f1 f2 f3 g2
  go_wp2
  go_ret
  exact ⟨rfl, HB1.out.alloc HB1.out.size _⟩
end Go.Proofs.YtgfaeeacndpniaaDoor
