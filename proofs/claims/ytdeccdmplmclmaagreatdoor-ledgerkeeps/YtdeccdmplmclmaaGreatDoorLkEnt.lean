/-
  Ledgers, the program: Entries.
-/
import Derived.Test.YtdeccdmplmclmaaGreatDoorLkAcc
namespace Go.Proofs.YtdeccdmplmclmaaGreatDoor
open Go.RowKit Go.Extern.Stop Go.Stop Go.Extern

theorem all_set : ∀ (L : List En) (us : List SlV) (i : Nat) (s : SlV), us.length = L.length → i < L.length → (enE.all (L.zip us)).set (i * 3 + 2) s.v = enE.all (L.zip (us.set i s))
  | [], _, _, _, _, h => by simp at h
  | x :: L, [], _, _, h, _ => by simp at h
  | x :: L, u :: us, 0, s, h, hi => rfl
  | x :: L, u :: us, i + 1, s, h, hi => by
    have ih := all_set L us i s (by simpa using h) (by simpa using hi)
    rw [List.set_cons_succ, List.zip_cons_cons, List.zip_cons_cons, enE.all_cons, enE.all_cons, ← ih, show (i + 1) * 3 + 2 = (i * 3 + 2) + 1 + 1 + 1 by omega]
    rfl
theorem ERow.at0 {T : Nat} {w : World} {B : Nat} {S : Nat → Prop} {g o n c : Nat} {L : List En} (h : ERow T w B S (.slice (some ⟨g, o, none⟩) n c) L) : o = 0 ∧ ∀ j, w.frozen? ⟨g, j, none⟩ = false := by
  obtain ⟨vs, h1, h2, _⟩ := h
  rcases h2.row.2 with ⟨e, _⟩ | ⟨g', cap, cur, e, _, hg, _⟩
  · cases e
  · injection e with e _ _
    injection e with e
    injection e with e1 e2 _
    subst e1
    exact ⟨e2, fun j => frozen_of_row _ _ _ _ _ hg⟩
theorem ERow.store {w : World} {B g o n c i : Nat} {L : List En} {x : En} {s : SlV} (h : ERow 36 w B (fun k => Ty w k 49) (.slice (some ⟨g, o, none⟩) n c) L) (hx : L[i]? = some x) (hs : RdS lnE w (fun k => Ty w k 49) s.v x.lines) :
    ERow 36 (w.setCell ⟨g, o + i * 3 + 2, none⟩ s.v) B (fun k => Ty (w.setCell ⟨g, o + i * 3 + 2, none⟩ s.v) k 49) (.slice (some ⟨g, o, none⟩) n c) L := by
  obtain ⟨rfl, _⟩ := h.at0
  have hty := (h.ty (k := g) rfl).2
  obtain ⟨vs, h1, h2, h3⟩ := h
  have hil := (List.getElem?_eq_some_iff.1 hx).1
  have hn : n = (L.zip vs).length := by
    obtain ⟨a, m, c', e, hm⟩ := h2.any3
    injection e with _ e _
    rw [e, hm]
  have hr := h2.row
  rw [← hn] at hr
  obtain ⟨h4, h5⟩ := World.ownsRow.stored hr (i * 3 + 2) s.v
  rw [all_set L vs i s h1 hil] at h4
  rw [Nat.zero_add]
  have hl : ∀ k, Ty w k 49 → Ty (w.setCell ⟨g, i * 3 + 2, none⟩ s.v) k 49 ∧ (w.setCell ⟨g, i * 3 + 2, none⟩ s.v).heap[k]? = w.heap[k]? := fun k hk => by
    have hne : k ≠ g := fun e => by
      subst e
      exact absurd (hk.one hty) (by decide)
    have := Below.heap_setCell w ⟨g, i * 3 + 2, none⟩ s.v k hne
    exact ⟨hk.on this, this⟩
  refine ⟨vs.set i s, by rw [List.length_set]; exact h1, ⟨?_, ?_⟩, fun j u y hu hy => ?_⟩
  · have e : (L.zip (vs.set i s)).length = n := by rw [hn, zip_len h1, zip_len (by rw [List.length_set]; exact h1)]
    rw [e]
    exact h4
  · have := h2.len
    rw [zip_len (by rw [List.length_set]; exact h1)]
    rw [zip_len h1] at this
    exact this
  · by_cases e : i = j
    · subst e
      rw [hx] at hy
      injection hy with hy
      subst hy
      obtain rfl : s = u := by
        rw [List.getElem?_set_self (by omega)] at hu
        simpa using hu
      exact hs.on hl
    · rw [List.getElem?_set_ne e] at hu
      exact (h3 j u y hu hy).on hl
/-- What Entries answers. -/
def EntR (w : World) (L : List En) (e : Ending) (w' : World) : Prop := (∃ a m c, e = .returned (.slice a m c) ∧ ERow 36 w' w.heap.size (fun k => Ty w' k 49) (.slice a m c) L) ∧ Below w.heap.size w w'
theorem ERow.below {w w' : World} {B : Nat} {v : Value} {L : List En} (h : ERow 36 w B (fun k => Ty w k 49) v L) (hb : Below w.heap.size w w') : ERow 36 w' B (fun k => Ty w' k 49) v L :=
  h.on (fun k hk => hb.block k (h.ty hk).2.lt) (fun k hk => ⟨hk.on (hb.block k hk.lt), hb.block k hk.lt⟩)
set_option maxHeartbeats 4000000 in
set_option maxRecDepth 10000 in
theorem entries_p {gb B : Nat} {v mv : Value} {L : List En} {w : World} (hG : LG w gb B v mv L) (hL : Good L) : Calls Tryz.prog 9 #[.pointer (some ⟨gb, 0, none⟩)] w (EntR w L) := by
  obtain ⟨va, n, vc, rfl, hn⟩ := hG.row.any3
  have HA := hidLL (all_p hG)
  have hlen := hL.len
  obtain ⟨vs, hv1, hv2, hv3⟩ := hG.row
  have HC := hidLL (clone_e (hv2.rdS.mono fun k hk => hk.2.1) (by omega))
  have HV := hidLL (And.intro hv1 hv3)
  have hn4 : n ≤ 400 := by omega
  have HL : Hid (∀ x, x ∈ L → x.lines.length ≤ 20) := fun x hx => by obtain ⟨x1, _⟩ := hL.each x hx; omega
  have HN := hidLL hn
  clear hG hL hv1 hv2 hv3 hlen hn
  go_enter Tryz.func9, Tryz.ntmps9
  go_wp2_with fail
  refine HA.out.mono ?_
  rintro e w1 ⟨rfl, ew⟩
  subst w1
  go_wp2_with fail
  refine HC.out.mono ?_
  rintro e w1 ⟨⟨a, m, c, rfl, hr⟩, hb⟩
  have hm : m = n := by
    obtain ⟨_, _, _, e, hm⟩ := hr.any3
    injection e with _ e _
    rw [e, hm, zip_len HV.out.1, HN.out]
  have hE : ERow 36 w1 w.heap.size (fun k => Ty w1 k 49) (.slice a m c) L := ⟨vs, HV.out.1, hr, fun i s x hs hx => (HV.out.2 i s x hs hx).on fun k hk => ⟨hk.on (hb.block k hk.lt), hb.block k hk.lt⟩⟩
  subst hm
  have HE := hidLL (And.intro hE hb)
  clear hE hb hr HV HC HA
  go_wp2_with fail
  go_loopw [10] (fun t wr => ∃ (i : Nat), i ≤ m ∧ t = .int .i64 i ∧ ERow 36 wr w.heap.size (fun k => Ty wr k 49) (.slice a m c) L ∧ Below w.heap.size w wr) (fun t _ => m - (RowKit.intOf t).toNat)
  case atStart => exact ⟨0, by omega, rfl, HE.out⟩
  case round =>
    obtain ⟨i, hi, rfl, hE, hb⟩ := hrel
    have HB := hidLL hb
    by_cases hlt : i < m
    · have c0 : decide ((i : Int) < m) = true := by simp; omega
      have hiz : (i : Int) < m := by omega
      obtain ⟨x, hx, _⟩ := get_in (l := L) (i := i) (by have := HN.out; omega)
      obtain ⟨g, o, sa, sn, sc, rfl, hg, q0, q1, q2, hln⟩ := en_at (hE.rd (S' := (· < wr.heap.size)) (fun _ hk => hk.lt) (fun _ _ hk => hk)) hx
      have hf := hE.at0.2 (o + i * 3 + 2)
      have hsn : sn ≤ 20 := by have := hln.len; have := HL.out x (List.mem_of_getElem? hx); have h3 : enN.sub x = x.lines := rfl; omega
      have HC := hidLL (clone_l hln (by omega))
      have HX := hidLL (And.intro hE hx)
      have hB0 := hb.size
      have hgB := (hE.ty (k := g) rfl).1
      clear hE hx hb q0 q1 hln
      go_wp2_with fail
      refine HC.out.mono ?_
      rintro e w2 ⟨⟨ca, cm, cc, rfl, hcr⟩, hb2⟩
      have hf2 : w2.frozen? ⟨g, o + i * 3 + 2, none⟩ = false := (HX.out.1.below hb2).at0.2 _
      have q22 : w2.cell? ⟨g, o + i * 3 + 2, none⟩ = some (.slice sa sn sc) := (hb2.cell (p := ⟨g, o + i * 3 + 2, none⟩) hg).trans q2
      have HS : Hid (ERow 36 (w2.setCell ⟨g, o + i * 3 + 2, none⟩ (.slice ca cm cc)) w.heap.size (fun k => Ty (w2.setCell ⟨g, o + i * 3 + 2, none⟩ (.slice ca cm cc)) k 49) (.slice (some ⟨g, o, none⟩) m c) L) := ERow.store (s := ⟨ca, cm, cc⟩) (HX.out.1.below hb2) HX.out.2 ((RowG.rdTy hcr).mono fun k hk => hk.1)
      have HB2 : Hid (Below w.heap.size w (w2.setCell ⟨g, o + i * 3 + 2, none⟩ (.slice ca cm cc))) := (HB.out.trans (hb2.mono hB0)).setCell (p := ⟨g, o + i * 3 + 2, none⟩) hgB _
      clear hcr hb2
      go_wp2
      go_roundw
      case rel => exact ⟨i + 1, hlt, by go_num, HS.out, HB2.out⟩
      case measure => simp [RowKit.intOf]; omega
    · have c0 : decide ((i : Int) < m) = false := by simp; omega
      have HE2 := hidLL hE
      clear hE hb
      go_wp2
      go_ret
      exact ⟨⟨_, _, _, rfl, HE2.out⟩, HB.out⟩
end Go.Proofs.YtdeccdmplmclmaaGreatDoor
