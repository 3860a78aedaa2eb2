/-
  What the program's way keeps: plain.
-/
import Derived.Test.YtcfeflkhmncmjaaGreatDoorPlainA
import Derived.Test.YtcfeflkhmncmjaaGreatDoorBegA
namespace Go.Proofs.YtcfeflkhmncmjaaGreatDoor

structure FOk (R : Addr → Tr → Prop) (q : Fr) : Prop where
  nd : R q.a q.t
  kd : q.of = [] ∨ 0 < q.t.kids.length
  val : valB q.val = true
  len : q.of.length ≤ 1000
  hrd : q.heard ≤ q.of.length
structure StOk (R : Addr → Tr → Prop) (s : St) : Prop where
  opn : ∀ q ∈ s.opn, FOk R q
  met : ∀ k v, s.met k = some (v, true) → valB v = true
theorem chk_ok {x y : Int} (h : chk x = .ok y) : valB y = true := by
  unfold chk at h
  split at h
  · rename_i hv
    injection h with h
    rw [← h]
    exact hv
  · cases h
theorem hear_ok {k : Kd} {n : Int} {h : Nat} {val v y : Int} (e : hearP k n h val v = .ok y) : valB y = true := by
  unfold hearP at e
  cases k <;> simp only at e
  all_goals first
    | exact chk_ok e
    | (split at e <;> first | exact chk_ok e | cases e)
section
variable {E : Env} {R : Addr → Tr → Prop} {ka : Addr → Nat → Addr}
theorem begin_ok (hE : ∀ who nm, (E.oth who nm).length ≤ 40) {a : Addr} {t : Tr} (hR : R a t) (hk : t.kids.length ≤ 1000) {who : Int} {sum : Bool} {s s' : St} (hs : StOk R s) (e : beginP E a t who sum s = .ok s') : StOk R s' := by
  unfold beginP at e
  cases hr : rightB sum t with
  | false => rw [if_pos hr] at e; cases e
  | true =>
    rw [if_neg (by rw [hr]; decide)] at e
    cases hv : valB (startV E t who sum) with
    | false => rw [if_pos hv] at e; cases e
    | true =>
      rw [if_neg (by rw [hv]; decide)] at e
      injection e with e
      subst e
      refine ⟨fun q hq => ?_, fun k v h => ?_⟩
      · rcases List.mem_cons.1 hq with rfl | hq
        · refine ⟨hR, ?_, hv, ?_, Nat.zero_le _⟩
          · show ofL E t who = [] ∨ 0 < t.kids.length
            rcases Nat.eq_zero_or_pos (ofL E t who).length with h0 | h0
            · exact .inl (List.eq_nil_of_length_eq_zero h0)
            · exact .inr (right_kids (E := E) hr who (List.getElem?_eq_getElem h0))
          · show (ofL E t who).length ≤ 1000
            unfold ofL
            split
            · have := hE who t.word; omega
            · have := hE who t.word; omega
            · simp
            · simp
            · simp
            · simp
            · simpa using hk
        · exact hs.opn q hq
      · by_cases ek : k = (a, who, sum)
        · subst ek
          have h : s.met.put (a, who, sum) (0, false) (a, who, sum) = some (v, true) := h
          rw [put_same] at h
          injection h with h
          injection h with _ h
          cases h
        · have h : s.met.put (a, who, sum) (0, false) k = some (v, true) := h
          rw [put_other _ _ ek] at h
          exact hs.met k v h
theorem go_ok (hN : Nds R ka) (hE : ∀ who nm, (E.oth who nm).length ≤ 40) (hR : ∀ a t, R a t → t.kids.length ≤ 1000) {s s' : St} (hs : StOk R s) (e : goP E ka s = .ok s') : StOk R s' := by
  unfold goP at e
  split at e
  · cases e
  · rename_i q rest ho
    have hq := hs.opn q (by rw [ho]; exact List.mem_cons_self)
    have hrest : ∀ q' ∈ rest, FOk R q' := fun q' h => hs.opn q' (by rw [ho]; exact List.mem_cons_of_mem _ h)
    split at e
    · injection e with e
      subst e
      refine ⟨hrest, fun k v h => ?_⟩
      have h : s.met.put q.key (q.val, true) k = some (v, true) := h
      by_cases ek : k = q.key
      · subst ek
        rw [put_same] at h
        injection h with h
        injection h with h _
        rw [← h]
        exact hq.val
      · rw [put_other _ _ ek] at h
        exact hs.met k v h
    · rename_i o hof
      have hlt := (List.getElem?_eq_some_iff.1 hof).1
      split at e
      · cases e
      · rename_i u hu
        have hRu := hN.kid hq.nd hu
        split at e
        · exact begin_ok hE hRu (hR _ _ hRu) hs e
        · cases e
        · split at e
          · cases e
          · rename_i v' hv'
            injection e with e
            subst e
            refine ⟨fun q' h => ?_, hs.met⟩
            rcases List.mem_cons.1 h with rfl | h
            · exact ⟨hq.nd, hq.kd, hear_ok hv', hq.len, hlt⟩
            · exact hrest q' h
end
end Go.Proofs.YtcfeflkhmncmjaaGreatDoor
namespace Go.Proofs.YtcfeflkhmncmjaaGreatDoor
open Go.RowKit

theorem NRow.pop {B g N cap : Nat} {K : Nat → Prop} {w : World} {fs : List Fr} {q : Fr} (h : NRow frN 129 K w B (.slice (some ⟨g, 0, none⟩) N cap) (fs ++ [q])) : NRow frN 129 K w B (.slice (some ⟨g, 0, none⟩) fs.length cap) fs := by
  obtain ⟨vs, h1, h2, h3⟩ := h
  have hlen : (fs ++ [q]).length = fs.length + 1 := by simp
  have hvl : vs.length = fs.length + 1 := by rw [h1, hlen]
  have hz1 : (fs ++ [q]).zip vs = fs.zip (vs.take fs.length) ++ [q].zip (vs.drop fs.length) := by
    conv => lhs; rw [← List.take_append_drop fs.length vs]
    rw [List.zip_append (by rw [List.length_take]; omega)]
  have hpl : (fs.zip (vs.take fs.length)).length = fs.length := by rw [List.length_zip, List.length_take]; omega
  refine ⟨vs.take fs.length, by rw [List.length_take]; omega, ⟨⟨by rw [Enc.all_len], ?_⟩, by rw [hpl]; have := h2.len; rw [zip_len h1, hlen] at this; omega⟩, fun i s x hs hx => ?_⟩
  · rcases h2.row.2 with ⟨e, _⟩ | ⟨g', cap', cur, e, hB, hg, hcap, hmx, hsz, htk⟩
    · cases e
    · injection e with e1 e2 e3
      injection e1 with e1
      injection e1 with e1
      subst e1 e3
      rw [zip_len h1, hlen] at hcap htk
      refine .inr ⟨g, cap, cur, by rw [hpl], hB, hg, by rw [hpl]; omega, hmx, hsz, ?_⟩
      rw [hz1, Enc.all_app] at htk
      have hal : (frN.E.all (fs.zip (vs.take fs.length))).length = fs.length * frN.E.k := by rw [Enc.all_len, hpl]
      have h5 := congrArg (List.take (fs.length * frN.E.k)) htk
      have hle : fs.length * frN.E.k ≤ (fs.length + 1) * frN.E.k := Nat.mul_le_mul_right _ (by omega)
      rw [List.take_take, Nat.min_eq_left hle, List.take_append_of_le_length (Nat.le_of_eq hal.symm)] at h5
      rw [hpl, h5]
      exact List.take_of_length_le (Nat.le_of_eq hal)
  · have hi : i < fs.length := (List.getElem?_eq_some_iff.1 hx).1
    rw [List.getElem?_take_of_lt hi] at hs
    have h5 := h3 i s x hs (by rw [List.getElem?_append_left hi]; exact hx)
    exact h5
/-- What comes of going on. -/
theorem LK.pop {w0 w1 w : World} {bl bx bm bv bvm bf : Nat} {L : List Fct} {on known : Int} {m : Met} {fs : List Fr} {q : Fr} {g N cap : Nat} (h : LK w0 w1 w bl bx bm bv bvm bf L on known (.slice (some ⟨g, 0, none⟩) N cap) m (fs ++ [q]) (fun _ => False)) :
    LK w0 w1 (w.setCell ⟨bl, 4, none⟩ (.slice (some ⟨g, 0, none⟩) fs.length cap)) bl bx bm bv bvm bf L on known (.slice (some ⟨g, 0, none⟩) fs.length cap) m fs (fun _ => False) :=
  h.open h.row.pop (FrX.refl _ _) (fun _ e => .inl e)
end Go.Proofs.YtcfeflkhmncmjaaGreatDoor
namespace Go.Proofs.YtcfeflkhmncmjaaGreatDoor
open Go.RowKit

set_option maxHeartbeats 8000000 in
set_option maxRecDepth 20000 in
theorem goOn_pop {w0 w1 w : World} {bl bx bm bv bvm bf : Nat} {L : List Fct} {on known : Int} {v : Value} {m : Met} {fs : List Fr} {q : Fr} (h : LK w0 w1 w bl bx bm bv bvm bf L on known v m (fs ++ [q]) (fun _ => False)) (hq : FOk (NdAt w1 (SN w1 bl bm bvm)) q) (hfl : fs.length ≤ 1000) (hd : q.heard = q.of.length) :
    Calls Tryz.prog 54 #[.pointer (some ⟨bl, 0, none⟩)] w fun e w' => e = .returned .nilIface ∧ ∃ v', LK w0 w1 w' bl bx bm bv bvm bf L on known v' (m.put q.key (q.val, true)) fs (fun _ => False) := by
  obtain ⟨g, cap, cur, s, hv, hgB, hgl, hQA, hof, hsz, _⟩ := h.top
  obtain ⟨n, hn⟩ : ∃ n, n = fs.length := ⟨_, rfl⟩
  obtain ⟨N, hN⟩ : ∃ N, N = n + 1 := ⟨_, rfl⟩
  rw [← hn, ← hN] at hv
  rw [← hn, Nat.mul_comm] at hQA
  subst hv
  obtain ⟨sa, sn, sc⟩ := s
  have hsn : sn = q.of.length := hof.len.1
  have hcap : n + 1 ≤ cap := by
    have := hQA.sz
    omega
  have l4 := h.l4
  have l3 := h.l3
  have lf := h.frz 4
  have c0 := hQA.cell hQA.c0
  have c1 := hQA.cell hQA.c1
  have c2 := hQA.cell hQA.c2
  have c3 : w.cell? ⟨g, n * 6 + 3, none⟩ = some (.slice sa sn sc) := hQA.cell hQA.c3
  have c4 := hQA.cell hQA.c4
  have c5 := hQA.cell hQA.c5
  obtain ⟨qa, qt, qw, qs, qo, qh, qv⟩ := q
  simp only at c0 c1 c2 c4 c5 hd hsn
  obtain ⟨b, o, ka, kc, e9, hnd⟩ := hq.nd.is
  simp only at e9
  subst e9
  have hinS := hq.nd.inS
  simp only at hinS
  have hkey : PlainAt w1 ⟨b, o, none⟩ ∧ b < w1.heap.size ∧ b ≠ bl ∧ b ≠ bm ∧ b ≠ bvm := ⟨hq.nd.plain, hinS.2, hinS.1.2.1, hinS.1.2.2.1, hinS.1.2.2.2⟩
  have hlk : LK w0 w1 w.drew.drew.drew bl bx bm bv bvm bf L on known (.slice (some ⟨g, 0, none⟩) N cap) m (fs ++ [⟨⟨b, o, none⟩, qt, qw, qs, qo, qh, qv⟩]) (fun _ => False) := h.fresh (((FrX.refl _ _).drew).drew).drew
  have hpl : PlainAt w.drew.drew.drew ⟨b, o, none⟩ := hlk.plain hkey.1 hkey.2.1 hkey.2.2.1 hkey.2.2.2.1 hkey.2.2.2.2
  obtain ⟨w7, hrun, hM7, hg7⟩ := hlk.met.store Tryz.underlying101 (fun ob k hk => MetIs.set hlk.met ob k hk) (k := ((⟨b, o, none⟩ : Addr), qw, qs)) hpl (qv, true)
  replace hrun : (Instr.mapUpdate 101 (.map (some bm)) (.agg #[.pointer (some ⟨b, o, none⟩), .int .i64 qw, .bool qs]) (.agg #[.int .i64 qv, .bool true])).run Tryz.prog w.drew.drew.drew = .ok () w7 := hrun
  rw [putK_put] at hM7
  have hlk7 := hlk.put hkey hM7 hg7
  have k4 := hlk7.l4
  have kf := hlk7.frz 4
  have HP := hidLL hlk7.pop
  rw [← hn] at HP
  have t1 : (N : Int) - 1 = n := by omega
  have t2 : IntKind.i64.wrap (n : Int) = n := by rw [IntKind.wrap_i64]; omega
  have t3 : (n : Int) < N := by omega
  have t4 : (0 : Int) ≤ n := by omega
  have t5 : (n : Int) ≤ cap := by omega
  have t6 : ((qh : Int) == (sn : Int)) = true := by rw [hd, hsn]; simp
  clear h hq hQA hof hsz hsn hcap hnd hinS hkey hlk hpl hM7 hg7 hlk7 hn hN hd hgB hgl
  go_enter Tryz.func54, Tryz.ntmps54
  go_upto_region 1 with fail
  go_region
  go_upto_region 2 with fail
  go_region
  go_upto_region 3 with fail
  go_region
  go_upto_region 4 with fail
  go_region
  go_wp2
  go_ret
  exact ⟨rfl, _, HP.out.fresh (FrX.refl _ _).drew⟩
end Go.Proofs.YtcfeflkhmncmjaaGreatDoor
