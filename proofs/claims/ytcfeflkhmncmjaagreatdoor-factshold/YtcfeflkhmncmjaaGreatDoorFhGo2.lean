/-
  A look goes on: the last question asks.
-/
import Derived.Test.YtcfeflkhmncmjaaGreatDoorGoA
import Derived.Test.YtcfeflkhmncmjaaGreatDoorFhNext
namespace Go.Proofs.YtcfeflkhmncmjaaGreatDoor
open Go.RowKit

section
variable {w0 w1 : World} {bl bx bm bv bvm bf : Nat} {L : List Fct} {on known : Int} {p : Nat → Addr} {X : Ex} {e : Ending} {w' : World}
theorem BegR.ret (h : BegR w0 w1 bl bx bm bv bvm bf L on known p X e w') : ∃ u, e = .returned u := by
  unfold BegR at h
  split at h
  · exact ⟨_, h.1⟩
  · exact ⟨_, h.1⟩
theorem BegR.drew (h : BegR w0 w1 bl bx bm bv bvm bf L on known p X e w') : BegR w0 w1 bl bx bm bv bvm bf L on known p X e w'.drew := by
  unfold BegR at h ⊢
  split at h
  · exact ⟨h.1, h.2.drew⟩
  · obtain ⟨h1, v', h2⟩ := h
    exact ⟨h1, v', h2.fresh (FrX.refl _ _).drew⟩
end
set_option maxHeartbeats 8000000 in
set_option maxRecDepth 20000 in
theorem goOn_ask {w0 w1 w : World} {bl bx bm bv bvm bf : Nat} {L : List Fct} {on known : Int} {v : Value} {m : Met} {fs : List Fr} {q : Fr} {p : Nat → Addr} (h : LK w0 w1 w bl bx bm bv bvm bf L on known v m (fs ++ [q]) (fun _ => False)) (hL : Laid w0 p) (hq : FOk (NdAt w1 (SN w1 bl bm bvm)) q) (hfl : fs.length < 1000) {y : Int} (hy : q.of[q.heard]? = some y) {i : Nat} (hi : i = min q.heard (q.t.kids.length - 1)) {u : Tr} (hu : q.t.kids[i]? = some u) {ans : Option (Int × Bool)} (hans : m (kaW w1 q.a i, y, q.sum || q.t.kd.isOrd) = ans) {X : Ex}
    (h1 : ans = none → ∀ w', LK w0 w1 w' bl bx bm bv bvm bf L on known v m (fs ++ [q]) (fun _ => False) → Calls Tryz.prog 53 #[.pointer (some ⟨bl, 0, none⟩), .agg #[.pointer (some (kaW w1 q.a i)), .int .i64 y, .bool (q.sum || q.t.kd.isOrd)]] w' (BegR w0 w1 bl bx bm bv bvm bf L on known p X))
    (h2 : ∀ z, ans = some (z, false) → ∀ w', LK w0 w1 w' bl bx bm bv bvm bf L on known v m (fs ++ [q]) (fun _ => False) → BegR w0 w1 bl bx bm bv bvm bf L on known p X (.returned (errV p 9)) w')
    (h3 : ∀ z, ans = some (z, true) → ∀ w' g N cap, v = .slice (some ⟨g, 0, none⟩) N cap → LK w0 w1 w' bl bx bm bv bvm bf L on known v m (fs ++ [q]) (fun _ => False) → Calls Tryz.prog 70 #[.pointer (some ⟨g, 6 * fs.length, none⟩), .int .i64 z, .int .i64 4] w' (BegR w0 w1 bl bx bm bv bvm bf L on known p X)) :
    Calls Tryz.prog 54 #[.pointer (some ⟨bl, 0, none⟩)] w (BegR w0 w1 bl bx bm bv bvm bf L on known p X) := by
  obtain ⟨g, cap, cur, s, hv, hgB, hgl, hQA, hof, hsz, hcl⟩ := h.top
  obtain ⟨n, hn⟩ : ∃ n, n = fs.length := ⟨_, rfl⟩
  obtain ⟨N, hN⟩ : ∃ N, N = n + 1 := ⟨_, rfl⟩
  rw [← hn, ← hN] at hv
  rw [← hn, Nat.mul_comm] at hQA
  have hhl : q.heard < q.of.length := (List.getElem?_eq_some_iff.1 hy).1
  have hkl : i < q.t.kids.length := (List.getElem?_eq_some_iff.1 hu).1
  have hle := hq.len
  have hnd := h.node hq.nd
  have hinS := hq.nd.inS
  have hkid := (nds w1 (SN w1 bl bm bvm)).kid hq.nd hu
  obtain ⟨ka, hka⟩ : ∃ ka, ka = kaW w1 q.a i := ⟨_, rfl⟩
  rw [← hka] at hans h1 hkid
  have hkinS := hkid.inS
  have HNx : Hid (∀ W, W.heap = w.heap → Calls Tryz.prog 69 #[.pointer (some ⟨g, n * 6, none⟩)] W fun e w' => e = .returned (.agg #[.pointer (some ka), .int .i64 y, .bool (q.sum || q.t.kd.isOrd)]) ∧ Below W.heap.size W w') := fun W hW => by
    have hb : ∀ k : Nat, W.heap[k]? = w.heap[k]? := fun k => by rw [hW]
    have hnW : NdAt W (SN w1 bl bm bvm) q.a q.t := hnd.step fun k _ hs => ⟨hb k, hs⟩
    have h4 := next_p (hQA.on (hb g)) hnW (hof.on fun k hs => ⟨hs, hb k⟩) hy i hi (by omega) (by omega)
    obtain ⟨b9, o9, _, _, e9, _⟩ := hq.nd.is
    rw [e9] at hka h4 hinS
    rw [kaW_on ((hb b9).trans (h.fr.block b9 hinS.2 (fun e => e.elim hinS.1.2.1 (fun e => e.elim hinS.1.2.2.1 hinS.1.2.2.2)))) i, ← hka] at h4
    exact h4
  obtain ⟨sm, hsm⟩ : ∃ sm, sm = (q.sum || q.t.kd.isOrd) := ⟨_, rfl⟩
  rw [← hsm] at HNx hans h1
  have HLk : Hid (∀ W, LK w0 w1 W bl bx bm bv bvm bf L on known v m (fs ++ [q]) (fun _ => False) → (Instr.lookup 101 (.map (some bm)) (.agg #[.pointer (some ka), .int .i64 y, .bool sm]) true).run Tryz.prog W = .ok (.tuple #[ansV (ans.getD (0, false)), .bool ans.isSome]) W) := fun W hW => by
    have h4 := hW.met.look Tryz.underlying101 (zeroAns W) (k := (ka, y, sm)) (hW.plain hkid.plain hkinS.2 hkinS.1.2.1 hkinS.1.2.2.1 hkinS.1.2.2.2) true
    rw [hans, if_pos rfl] at h4
    exact h4
  have HFr : Hid (∀ W, FrX (fun _ => False) w W → LK w0 w1 W bl bx bm bv bvm bf L on known v m (fs ++ [q]) (fun _ => False)) := fun W hW => h.fresh hW
  obtain ⟨sa, sn, sc⟩ := s
  have hsn : sn = q.of.length := hof.len.1
  have l4 := h.l4
  rw [hv] at l4
  have l3 := h.l3
  have l2 := h.l2
  have c3 : w.cell? ⟨g, n * 6 + 3, none⟩ = some (.slice sa sn sc) := hQA.cell hQA.c3
  have c4 := hQA.cell hQA.c4
  have t1 : (N : Int) - 1 = n := by omega
  have t2 : IntKind.i64.wrap (n : Int) = n := by rw [IntKind.wrap_i64]; omega
  have t3 : (n : Int) < N := by omega
  have t4 : (0 : Int) ≤ n := by omega
  have t6 : ((q.heard : Int) == (sn : Int)) = false := by
    have : ¬ ((q.heard : Int) = (sn : Int)) := by omega
    simpa using this
  obtain ⟨hd, hhd⟩ : ∃ hd, hd = q.heard := ⟨_, rfl⟩
  rw [← hhd] at c4 t6
  have H1 := hidLL h1
  have H2 := hidLL h2
  have H3 : Hid _ := hidLL h3
  have HV := hidLL (And.intro hv hn)
  have HL := hidLL hL
  clear h hq hQA hof hsz hsn hnd hinS hkid hkinS hka hans hsm hn hN hgB hgl hy hi hu hhl hkl hle h1 h2 h3 hv hhd hL hcl hfl
  go_enter Tryz.func54, Tryz.ntmps54
  go_upto_region 1 with fail
  go_region
  go_upto_region 2 with fail
  go_region
  go_upto_region 7 with (go_at_call 69; refine (HNx.out w.drew.drew rfl).mono ?_; rintro e w2 ⟨rfl, hb2⟩)
  have f2 : FrX (fun _ => False) w w2 := ⟨hb2.os, hb2.tape, hb2.output, hb2.size, fun k hk _ => hb2.block k hk⟩
  obtain ⟨W, hW⟩ : ∃ W, W = w2.alloc (.cells #[.pointer (some ka), .int .i64 y, .bool sm] 88) := ⟨_, rfl⟩
  obtain ⟨nb, hnb⟩ : ∃ nb, nb = w2.heap.size := ⟨_, rfl⟩
  have hbk : W.heap[nb]? = some (.cells #[.pointer (some ka), .int .i64 y, .bool sm] 88 (0, 0)) := by rw [hW, hnb]; exact Go.Deep.blk_alloc_new w2 _
  have fW : FrX (fun _ => False) w W := by rw [hW]; exact f2.alloc _
  have hKW := HFr.out W fW
  rw [← hW, ← hnb]
  have n0 : W.cell? ⟨nb, 0, none⟩ = some (.pointer (some ka)) := by rw [cell_of_row _ nb 0 _ _ _ hbk]; rfl
  have n1 : W.cell? ⟨nb, 1, none⟩ = some (.int .i64 y) := by rw [cell_of_row _ nb 1 _ _ _ hbk]; rfl
  have n2 : W.cell? ⟨nb, 2, none⟩ = some (.bool sm) := by rw [cell_of_row _ nb 2 _ _ _ hbk]; rfl
  have m2 := hKW.l2
  have m3 := hKW.l3
  have e0 := cellA n0
  have e1 := cellA n1
  have e2 := cellA n2
  have a2 := cellA m2
  have a3 := cellA m3
  have hbl := cell_lt m3
  have hnl := cell_lt n0
  have x1 : ¬ bl = W.heap.size := by omega
  have x2 : ¬ nb = W.heap.size := by omega
  have x3 : ¬ W.heap.size = bl := by omega
  have x4 : ¬ W.heap.size = nb := by omega
  have hrun := HLk.out ((W.alloc (.cells #[.int .i64 0, .bool false] 108)).drew) (HFr.out _ (fW.alloc _).drew)
  have hrun2 := HLk.out W.drew (HFr.out _ fW.drew)
  have HfW := hidLL fW
  clear hb2 f2 hW hnb hbk fW hKW
  rcases ans with _ | ⟨z, _ | _⟩
  · replace hrun : (Instr.lookup 101 (.map (some bm)) (.agg #[.pointer (some ka), .int .i64 y, .bool sm]) true).run Tryz.prog ((W.alloc (.cells #[.int .i64 0, .bool false] 108)).drew) = .ok (.tuple #[.agg #[.int .i64 0, .bool false], .bool false]) ((W.alloc (.cells #[.int .i64 0, .bool false] 108)).drew) := hrun
    replace hrun2 : (Instr.lookup 101 (.map (some bm)) (.agg #[.pointer (some ka), .int .i64 y, .bool sm]) true).run Tryz.prog W.drew = .ok (.tuple #[.agg #[.int .i64 0, .bool false], .bool false]) W.drew := hrun2
    clear l2 l3 l4 c3 c4 HNx HLk HL HV H2 H3
    go_region
    all_goals go_wp2_with (go_at_call 53; refine (H1.out rfl _ (HFr.out _ ?_)).mono ?_; rotate_left; intro e w9 hr9; obtain ⟨u9, rfl⟩ := hr9.ret; have HR9 := hidLL hr9; clear hr9)
    all_goals first | exact (HfW.out.alloc _).drew | (go_ret; exact HR9.out)
  · replace hrun : (Instr.lookup 101 (.map (some bm)) (.agg #[.pointer (some ka), .int .i64 y, .bool sm]) true).run Tryz.prog ((W.alloc (.cells #[.int .i64 0, .bool false] 108)).drew) = .ok (.tuple #[.agg #[.int .i64 z, .bool false], .bool true]) ((W.alloc (.cells #[.int .i64 0, .bool false] 108)).drew) := hrun
    replace hrun2 : (Instr.lookup 101 (.map (some bm)) (.agg #[.pointer (some ka), .int .i64 y, .bool sm]) true).run Tryz.prog W.drew = .ok (.tuple #[.agg #[.int .i64 z, .bool false], .bool true]) W.drew := hrun2
    have hbel := (HFr.out W HfW.out).vw.bel
    have g8 : W.cell? ⟨2, 0, none⟩ = some (.iface 193 (.pointer (some (p 8)))) := (HL.out.on0 hbel).cell 8 (by decide)
    have a8 := cellA g8
    have x5 := cell_lt g8
    have x6 : ¬ 2 = W.heap.size := by have : 2 < W.heap.size := x5; omega
    clear l2 l3 l4 c3 c4 HNx HLk HL HV H1 H3 hbel
    go_region
    all_goals go_wp2
    all_goals (go_ret; exact H2.out z rfl _ (HFr.out _ ((HfW.out.alloc _).drew)))
  · replace hrun : (Instr.lookup 101 (.map (some bm)) (.agg #[.pointer (some ka), .int .i64 y, .bool sm]) true).run Tryz.prog ((W.alloc (.cells #[.int .i64 0, .bool false] 108)).drew) = .ok (.tuple #[.agg #[.int .i64 z, .bool true], .bool true]) ((W.alloc (.cells #[.int .i64 0, .bool false] 108)).drew) := hrun
    replace hrun2 : (Instr.lookup 101 (.map (some bm)) (.agg #[.pointer (some ka), .int .i64 y, .bool sm]) true).run Tryz.prog W.drew = .ok (.tuple #[.agg #[.int .i64 z, .bool true], .bool true]) W.drew := hrun2
    have H4 : Hid (∀ w', FrX (fun _ => False) w w' → Calls Tryz.prog 70 #[.pointer (some ⟨g, n * 6, none⟩), .int .i64 z, .int .i64 4] w' (BegR w0 w1 bl bx bm bv bvm bf L on known p X)) := fun w' f' => by
      have h5 := H3.out z rfl w' g N cap HV.out.1 (HFr.out w' f')
      rw [← HV.out.2, Nat.mul_comm] at h5
      exact h5
    clear l2 l3 l4 c3 c4 HNx HLk HL HV H1 H2 H3 HFr
    go_region
    all_goals go_upto_region 12 with fail
    all_goals go_region_law (go_simp; go_at_call 70; refine (H4.out _ (by first | exact (HfW.out.alloc _).drew.drew | exact (HfW.out.alloc _).drew)).mono ?_; intro e w9 hr9; obtain ⟨u9, rfl⟩ := hr9.ret; (have HR9 := hidLL hr9); clear hr9)
    all_goals (go_wp2; go_ret; exact HR9.out)
end Go.Proofs.YtcfeflkhmncmjaaGreatDoor
