/-
  Package script: the walk of readLabel.
-/
import Derived.Test.YtpbolcjcmkmalaaGreatDoorCo08
import Derived.Test.YtpbolcjcmkmalaaGreatDoorCo10
import Derived.Deep.RegionLaw
import Derived.Deep.DeepCutAuto
namespace Go.Proofs.YtpbolcjcmkmalaaGreatDoor
open Go.RowKit Go.Extern.Stop Go.Stop Go.Extern

theorem no_text {t : ByteArray} (h : t.size = 0) : t.toList.isEmpty = true := by
  rw [Lib.toList_data]
  have h2 := size_bl t
  unfold bl at h2
  rw [List.isEmpty_iff]
  exact List.eq_nil_of_length_eq_zero (by omega)
theorem some_text {t : ByteArray} (h : t.size ≠ 0) : t.toList.isEmpty = false := by
  rw [Lib.toList_data, Bool.eq_false_iff]
  intro e
  rw [List.isEmpty_iff] at e
  have h2 := size_bl t
  unfold bl at h2
  rw [e] at h2
  exact h h2.symm
theorem LS.drew {w W : World} {b : Nat} {l : Bool} {t c : ByteArray} (h : LS w W b l t c) : LS w W.drew b l t c :=
  ⟨by simpa using h.r0, by simpa using h.r1, by simpa using h.r2, by simpa using h.g0, by simpa using h.g1, by simpa using h.g2, by simpa using h.c0, by simpa using h.c1, by simpa using h.c2, by simpa using h.f0, h.bel.drew, h.lt, h.lb⟩
theorem LS.res {w W : World} {b : Nat} {l : Bool} {t c : ByteArray} (h : LS w W b l t c) (x y z : Value) {W' : World} (hb : Below (((W.setCell ⟨w.heap.size, 0, none⟩ x).setCell ⟨w.heap.size, 1, none⟩ y).setCell ⟨w.heap.size, 2, none⟩ z).drew.heap.size (((W.setCell ⟨w.heap.size, 0, none⟩ x).setCell ⟨w.heap.size, 1, none⟩ y).setCell ⟨w.heap.size, 2, none⟩ z).drew W') :
    W'.cell? ⟨w.heap.size, 0, none⟩ = some x ∧ W'.cell? ⟨w.heap.size, 1, none⟩ = some y ∧ W'.cell? ⟨w.heap.size, 2, none⟩ = some z := by
  have hl : w.heap.size < (((W.setCell ⟨w.heap.size, 0, none⟩ x).setCell ⟨w.heap.size, 1, none⟩ y).setCell ⟨w.heap.size, 2, none⟩ z).drew.heap.size := by
    have := h.lt
    have := h.lb
    show w.heap.size < (((W.setCell ⟨w.heap.size, 0, none⟩ x).setCell ⟨w.heap.size, 1, none⟩ y).setCell ⟨w.heap.size, 2, none⟩ z).heap.size
    simp
    omega
  refine ⟨(hb.cell (p := ⟨w.heap.size, 0, none⟩) hl).trans ?_, (hb.cell (p := ⟨w.heap.size, 1, none⟩) hl).trans ?_, (hb.cell (p := ⟨w.heap.size, 2, none⟩) hl).trans ?_⟩
  · exact qs0 h.r0 _ _ _
  · exact qs1 h.r1 _ _ _
  · exact qs2 h.r2 _ _ _
/-- What readLabel tells. -/
def RL (s : ByteArray) (w w' : World) (e : Ending) : Prop := Below w.heap.size w w' ∧ ((∃ k l, Lab s k l ∧ e = .returned (.tuple #[.agg #[.bool l, .string (s.extract 0 k), .string (s.extract k s.size)], .bool true])) ∨ ((¬ ∃ k l, Lab s k l) ∧ ∃ v0 v1 v2, e = .returned (.tuple #[.agg #[.bool v0, .string v1, .string v2], .bool false])))
theorem RL.no {s : ByteArray} {w w' : World} {v0 : Bool} {v1 v2 : ByteArray} (hb : Below w.heap.size w w') (hn : ¬ ∃ k l, Lab s k l) : RL s w w' (.returned (.tuple #[.agg #[.bool v0, .string v1, .string v2], .bool false])) := ⟨hb, .inr ⟨hn, v0, v1, v2, rfl⟩⟩
theorem RL.yes {s : ByteArray} {w w' : World} {k : Nat} {l : Bool} {t c : ByteArray} (hb : Below w.heap.size w w') (h : Lab s k l) (ht : t = s.extract 0 k) (hc : c = s.extract k s.size) : RL s w w' (.returned (.tuple #[.agg #[.bool l, .string t, .string c], .bool true])) := ⟨hb, .inl ⟨k, l, h, by rw [ht, hc]⟩⟩

set_option maxHeartbeats 4000000 in
set_option maxRecDepth 10000 in
theorem readLabel_any (s : ByteArray) (hs : s.size ≤ 1000000) (w : World) (hT : Lib.Utf8Tabs 13 14 w) :
    Calls Tryz.prog 116 #[.string s] w fun e w' => RL s w w' e := by
  obtain ⟨k, hk, hr, hcap, huq⟩ := stem_cut s
  have HT := hidL hT
  have HA := hidL (fun W hT => cutCaps s hs W hT)
  rw [hr] at HA
  have HCap := hidL hcap
  have HUq := hidL huq
  obtain ⟨t, ht⟩ : ∃ t, t = s.extract 0 k := ⟨_, rfl⟩
  have hz : t.size = k := by rw [ht]; simp [ByteArray.size_extract]; omega
  have HD := hidL (fun W hT => trimDigits t (by omega) W hT)
  have HM := hidL (fun W hT => trimSmall t (by omega) W hT)
  have HDi : Hid (AllP dgN t 0 t.size ↔ AllP dgN s 0 k) := by show _ ↔ _; rw [ht]; exact allP_ext hk
  have HMi : Hid (AllP smN t 0 t.size ↔ AllP smN s 0 k) := by show _ ↔ _; rw [ht]; exact allP_ext hk
  rw [← ht] at HA
  have HTe := hidL ht
  have hzi : (t.size : Int) ≤ s.size := by omega
  obtain ⟨c, hc⟩ : ∃ c, c = s.extract t.size s.size := ⟨_, rfl⟩
  have hcz : c.size = s.size - k := by rw [hc, hz]; simp [ByteArray.size_extract]
  have HCe := hidL hc
  clear hT hr hcap huq ht
  go_enter Tryz.func116, Tryz.ntmps116
  go_wp2_with fail
  refine (HA.out _ (tabs_below HT.out (belA _ _))).mono ?_
  rintro e W ⟨rfl, hb⟩
  have HS := hidL (LS.start hb t c)
  clear hb
  by_cases k0 : k = 0
  · have e1 := no_text (hz.trans k0)
    have HN : Hid (¬ ∃ k l, Lab s k l) := by
      rintro ⟨k', l, h⟩
      have := HUq.out k' l h
      have := h.k1
      omega
    rw [hc] at HS
    have r0 := HS.out.r0
    have r1 := HS.out.r1
    have r2 := HS.out.r2
    have g0 := HS.out.g0
    have g1 := HS.out.g1
    have g2 := HS.out.g2
    clear hz k0 hcz hc
    go_wp2
    exact bodyPost_ret (v := .tuple #[.agg #[.bool false, .string ⟨#[]⟩, .string ⟨#[]⟩], .bool false]) (by simp [results, Tryz.results116, go_sem, qs0 r0, qs1 r1, qs2 r2]) rfl (RL.no (HS.out.bel3 _ _ _) HN.out)
  · have e1 := some_text (t := t) (by omega)
    have HK0 := hidL k0
    by_cases k4 : 4 < k
    · have h4 : (4 : Int) < t.size := by omega
      have HN : Hid (¬ ∃ k l, Lab s k l) := by
        rintro ⟨k', l, h⟩
        have h1 := HUq.out k' l h
        have h2 := h.k4
        have h3 := h.kc
        omega
      rw [hc] at HS
      clear hz k0 hcz hc k4
      have r0 := HS.out.r0
      have r1 := HS.out.r1
      have r2 := HS.out.r2
      have g0 := HS.out.g0
      have g1 := HS.out.g1
      have g2 := HS.out.g2
      go_wp2
      exact bodyPost_ret (v := .tuple #[.agg #[.bool false, .string ⟨#[]⟩, .string ⟨#[]⟩], .bool false]) (by simp [results, Tryz.results116, go_sem, qs0 r0, qs1 r1, qs2 r2]) rfl (RL.no (HS.out.bel3 _ _ _) HN.out)
    have h4 : (t.size : Int) ≤ 4 := by omega
    have HKz := hidL k4
    by_cases c2 : 2 < c.size
    · have h2 : (2 : Int) < ((s.size - t.size : Nat) : Int) := by omega
      have HN : Hid (¬ ∃ k l, Lab s k l) := by
        rintro ⟨k', l, h⟩
        have h1 := HUq.out k' l h
        have h2 := h.k4
        have h3 := h.kc
        omega
      rw [hc] at HS
      have q2 := HS.out.c2
      clear hz k0 hcz hc k4 c2
      have r0 := HS.out.r0
      have r1 := HS.out.r1
      have r2 := HS.out.r2
      have g0 := HS.out.g0
      have g1 := HS.out.g1
      have g2 := HS.out.g2
      go_wp2
      exact bodyPost_ret (v := .tuple #[.agg #[.bool false, .string ⟨#[]⟩, .string ⟨#[]⟩], .bool false]) (by simp [results, Tryz.results116, go_sem, qs0 r0, qs1 r1, qs2 r2]) rfl (RL.no (HS.out.bel3 _ _ _) HN.out)
    have h2 : ((s.size - t.size : Nat) : Int) ≤ 2 := by omega
    have HC2 : Hid (s.size ≤ k + 2) := by show _ ≤ _; omega
    rw [hc] at HS
    have HZ := hidL hz
    have q2 := HS.out.c2
    by_cases hd : AllP dgN s 0 k
    · have e2 := Lib.toList_data (Lib.trimF dgN t)
      have HD2 := hidL HD.out
      rw [trim_all dgN_hi t (HDi.out.2 hd)] at HD2
      have t0 : 0 < t.size := by omega
      have HT0 : Hid (∀ h : 0 < s.size, t[0] = s[0]) := fun h => by
        have e := HTe.out
        subst e
        simp [ByteArray.getElem_extract]
      have t0' : (0 : Int) < t.size := by omega
      clear hz k0 hcz hc k4 c2 e2
      go_wp2_with fail
      refine (HD2.out _ (tabs_below HT.out HS.out.bel)).mono ?_
      rintro e W2 ⟨rfl, hb⟩
      have HS2 := hidL (HS.out.on hb)
      clear hb q2
      have r0 := HS2.out.r0
      have r1 := HS2.out.r1
      have r2 := HS2.out.r2
      have g0 := HS2.out.g0
      have g1 := HS2.out.g1
      have g2 := HS2.out.g2
      have c0 := HS2.out.c0
      have c1 := HS2.out.c1
      have c2 := HS2.out.c2
      have e3 := no_text (t := ⟨#[]⟩) rfl
      go_wp2_with fail
      by_cases h48 : t[0].toNat = 48
      · have e4 : (((t[0].toNat : Nat) : Int) != 48) = false := by rw [h48]; rfl
        have HN : Hid (¬ ∃ k l, Lab s k l) := by
          rintro ⟨k', l, h⟩
          obtain rfl := HUq.out k' l h
          have hs0 : 0 < s.size := by have := HZ.out; omega
          have hts : s[0].toNat = 48 := by rw [← h48, HT0.out hs0]
          have hb := h.byte 0 hs0
          rcases h.stem with ⟨_, _, hz⟩ | ⟨hl, hsm⟩
          · exact hz hs0 hts
          · have := smN_iff.1 (hsm 0 hs0 (Nat.zero_le _) h.k1)
            omega
        clear h48
        go_region
        all_goals go_wp2
        exact bodyPost_ret (v := .tuple #[.agg #[.bool false, .string t, .string (s.extract t.size s.size)], .bool false]) (by simp [results, Tryz.results116, go_sem, qs0 r0, qs1 r1, qs2 r2]) rfl (RL.no (Below.drew (HS2.out.bel3 _ _ _)) HN.out)
      · have e4 : (((t[0].toNat : Nat) : Int) != 48) = true := by simp; omega
        have HLb : Hid (Lab s k false) := ⟨by have := HK0.out; omega, by have := HKz.out; omega, hk, HC2.out, HCap.out (.inl hd), .inl ⟨rfl, hd, fun h => by rw [← HT0.out h]; exact h48⟩⟩
        clear h48
        go_region
        all_goals go_wp2
        exact bodyPost_ret (v := .tuple #[.agg #[.bool false, .string t, .string (s.extract t.size s.size)], .bool true]) (by simp [results, Tryz.results116, go_sem, qs0 r0, qs1 r1, qs2 r2]) rfl (RL.yes (Below.drew (HS2.out.bel3 _ _ _)) HLb.out HTe.out (by rw [HZ.out]))
    · have HD2 := hidL HD.out
      have e2 := some_text (trim_not dgN_hi t (fun h => hd (HDi.out.1 h)))
      generalize Lib.trimF dgN t = tt at *
      clear hz k0 hcz hc k4 c2
      go_wp2_with fail
      refine (HD2.out _ (tabs_below HT.out HS.out.bel)).mono ?_
      rintro e W2 ⟨rfl, hb⟩
      have HS2 := hidL (HS.out.on hb)
      have HS3 := hidL (HS2.out.setL true)
      clear hb q2
      have q0 := HS2.out.c0
      have f0 := HS2.out.f0
      have r0 := HS3.out.r0
      have r1 := HS3.out.r1
      have r2 := HS3.out.r2
      have g0 := HS3.out.g0
      have g1 := HS3.out.g1
      have g2 := HS3.out.g2
      have c0 := HS3.out.c0
      have c1 := HS3.out.c1
      have c2 := HS3.out.c2
      go_wp2_with fail
      have hW := HS3.out.bel
      have hWs := HS3.out.bel3 (.bool true) (.string t) (.string (s.extract t.size s.size))
      have HM3 := hidL (fun W' (hb : Below w.heap.size w W') => HM.out W' (tabs_below HT.out hb))
      by_cases hm : AllP smN s 0 k
      · have e5 := no_text (t := Lib.trimF smN t) (by rw [trim_all smN_hi t (HMi.out.2 hm)]; rfl)
        have HLb : Hid (Lab s k true) := ⟨by have := HK0.out; omega, by have := HKz.out; omega, hk, HC2.out, HCap.out (.inr hm), .inr ⟨rfl, hm⟩⟩
        clear hm
        generalize Lib.trimF smN t = ts at *
        go_region_with (go_at_call 141; refine (HM3.out _ ?_).mono ?_; (· first | exact hW | exact Below.drew hW | exact hWs | exact Below.drew hWs); rintro e w5 ⟨rfl, hb5⟩; first | (have HS5 := (HS3.out.drew).on hb5; have hBe := HS5.bel3 (.bool true) (.string t) (.string (s.extract t.size s.size)); have r0' := HS5.r0; have r1' := HS5.r1; have r2' := HS5.r2; have g0' := HS5.g0; have g1' := HS5.g1; have g2' := HS5.g2; have c0' := HS5.c0; have c1' := HS5.c1; have c2' := HS5.c2) | (have kk := HS3.out.res _ _ _ hb5; have hBs := (Below.drew hWs).trans (hb5.mono (Below.drew hWs).size)))
        all_goals go_wp2
        all_goals first
          | exact bodyPost_ret (v := .tuple #[.agg #[.bool true, .string t, .string (s.extract t.size s.size)], .bool true]) (by simp [results, Tryz.results116, go_sem, qs0 r0', qs1 r1', qs2 r2']) rfl (RL.yes (by first | exact hBe | exact Below.drew hBe) HLb.out HTe.out (by rw [HZ.out]))
          | exact bodyPost_ret (v := .tuple #[.agg #[.bool true, .string t, .string (s.extract t.size s.size)], .bool true]) (by simp [results, Tryz.results116, go_sem, kk.1, kk.2.1, kk.2.2]) rfl (RL.yes (by first | exact hBs | exact Below.drew hBs) HLb.out HTe.out (by rw [HZ.out]))
      · have e5 := some_text (trim_not smN_hi t (fun h => hm (HMi.out.1 h)))
        have HN : Hid (¬ ∃ k l, Lab s k l) := by
          rintro ⟨k', l, h⟩
          obtain rfl := HUq.out k' l h
          rcases h.stem with ⟨_, hdd, _⟩ | ⟨_, hsm⟩
          · exact hd hdd
          · exact hm hsm
        clear hm
        generalize Lib.trimF smN t = ts at *
        go_region_with (go_at_call 141; refine (HM3.out _ ?_).mono ?_; (· first | exact hW | exact Below.drew hW | exact hWs | exact Below.drew hWs); rintro e w5 ⟨rfl, hb5⟩; first | (have HS5 := (HS3.out.drew).on hb5; have hBe := HS5.bel3 (.bool true) (.string t) (.string (s.extract t.size s.size)); have r0' := HS5.r0; have r1' := HS5.r1; have r2' := HS5.r2; have g0' := HS5.g0; have g1' := HS5.g1; have g2' := HS5.g2; have c0' := HS5.c0; have c1' := HS5.c1; have c2' := HS5.c2) | (have kk := HS3.out.res _ _ _ hb5; have hBs := (Below.drew hWs).trans (hb5.mono (Below.drew hWs).size)))
        all_goals go_wp2
        all_goals first
          | exact bodyPost_ret (v := .tuple #[.agg #[.bool true, .string t, .string (s.extract t.size s.size)], .bool false]) (by simp [results, Tryz.results116, go_sem, qs0 r0', qs1 r1', qs2 r2']) rfl (RL.no (by first | exact hBe | exact Below.drew hBe) HN.out)
          | exact bodyPost_ret (v := .tuple #[.agg #[.bool true, .string t, .string (s.extract t.size s.size)], .bool false]) (by simp [results, Tryz.results116, go_sem, kk.1, kk.2.1, kk.2.2]) rfl (RL.no (by first | exact hBs | exact Below.drew hBs) HN.out)
end Go.Proofs.YtpbolcjcmkmalaaGreatDoor
namespace Go.Proofs.YtpbolcjcmkmalaaGreatDoor
open Go.RowKit Go.Extern.Stop Go.Stop Go.Extern

theorem step_append_where {P : Program} {ops : Array Oper} {o : Oper} {a : Act} {w : World} {K : Act → World → Prop} {Q : Exit → Act → World → Prop} {E : Prop}
    (hgd : o.guard = none) (s x : Operand) (t : TypeId) (ho : o.op = Op.call { callee := Callee.builtin Builtin.append, args := #[s, x], argTypes := #[t, t] })
    (B : Nat) (e : TypeId) (i : TypeInfo) (z : Value) (size bytes : Nat) (ht : P.underlying t = some (.slice e)) (hi : P.info? e = some i) (hz : i.zero = some z) (hsize : i.size = size) (hby : i.bytes = bytes) (hzs : z.cells.size = size) (hsz : 0 < size)
    (v : Value) (n : Nat) (xs : List Value) (hs : a.eval s = v) (hown : w.ownsRow B e size v n xs)
    (ad : Addr) (m c : Nat) (news : List Value) (hx : a.eval x = .slice (some ad) m c) (hl : news.length = m * size) (hnews : ∀ j u, news[j]? = some u → w.cell? (ad.add j) = some u) (h1 : ∀ u ∈ news, u.oneCell' = true) (hm : 0 < m)
    (h63 : n + m ≤ maxLen) (hbytes : (n + m) * bytes ≤ 140737488355328) (hbase : B ≤ w.heap.size)
    (hK : ∀ v' w', w'.ownsRow B e size v' (n + m) (xs ++ news) → w.grownBy w' v.ownBlock → (v'.ownBlock = v.ownBlock ∨ v'.ownBlock = some w.heap.size) → K (a.put o.dst v') w') :
    if Region.wanted o (yielded ops a.tmps) = true then Oper.wp P o a w K Q else E := by
  have hw : Region.wanted o (yielded ops a.tmps) = true := by simp [Region.wanted, hgd]
  rw [if_pos hw]
  obtain ⟨v', w', hr, h2, h3, h4⟩ := run_append_own (P := P) w B t o.type e i z size bytes ht hi hz hsize hby hzs hsz v n xs hown ad m c news hl hnews h1 h63 hbytes hbase
  have h5 := append_where (P := P) w B t o.type e i z size bytes ht hi hz hsize hby v n xs hown ad m c news hl hnews h1 hm h63 hbytes v' w' hr
  unfold Oper.wp
  simp [execOp, ho, resolve, invoke, builtin, hs, hx, hr, Result.andThen]
  exact hK v' w' h2 h3 h5
/-- Four cells, one behind the other. -/
def set4 (w : World) (g o : Nat) (x : Nat → Value) : World := (((w.setCell ⟨g, o, none⟩ (x 0)).setCell ⟨g, o + 1, none⟩ (x 1)).setCell ⟨g, o + 2, none⟩ (x 2)).setCell ⟨g, o + 3, none⟩ (x 3)
theorem set4_flat (V : Nat → Nat → Value) (n : Nat) (a0 a1 a2 a3 : Value) (x : Nat → Value) : ((((flat4 V n ++ [a0, a1, a2, a3]).set (n * 4) (x 0)).set (n * 4 + 1) (x 1)).set (n * 4 + 2) (x 2)).set (n * 4 + 3) (x 3) = flat4 V n ++ [x 0, x 1, x 2, x 3] := by
  have h : ∀ k, k = n * 4 → ∀ l : List Value, l.length = k → (((((l ++ [a0, a1, a2, a3]).set k (x 0)).set (k + 1) (x 1)).set (k + 2) (x 2)).set (k + 3) (x 3)) = l ++ [x 0, x 1, x 2, x 3] := by
    intro k _ l hl
    subst hl
    simp
  exact h (n * 4) rfl (flat4 V n) (flat4_len V n)
theorem fill4 {W1 W2 : World} {B e g n cap : Nat} {V : Nat → Nat → Value} {a0 a1 a2 a3 : Value} {row : Option Nat} (ho : W2.ownsRow B e 4 (.slice (some ⟨g, 0, none⟩) (n + 1) cap) (n + 1) (flat4 V n ++ [a0, a1, a2, a3])) (hg : W1.grownBy W2 row) (hw : some g = row ∨ W1.heap.size ≤ g) (x : Nat → Value) :
    (set4 W2 g (n * 4) x).ownsRow B e 4 (.slice (some ⟨g, 0, none⟩) (n + 1) cap) (n + 1) (flat4 V n ++ [x 0, x 1, x 2, x 3]) ∧ W1.grownBy (set4 W2 g (n * 4) x) row := by
  have h1 := ho.stored (n * 4) (x 0)
  have h2 := h1.1.stored (n * 4 + 1) (x 1)
  have h3 := h2.1.stored (n * 4 + 2) (x 2)
  have h4 := h3.1.stored (n * 4 + 3) (x 3)
  rw [set4_flat] at h4
  refine ⟨h4.1, ?_⟩
  have hs : ∀ {A C : World}, W1.grownBy A row → A.grownBy C (some g) → W1.grownBy C row := fun ha hc => by
    refine ⟨hc.os.trans ha.os, hc.tape.trans ha.tape, hc.output.trans ha.output, Nat.le_trans ha.size hc.size, fun k hk hr => ?_⟩
    rw [hc.block k (Nat.lt_of_lt_of_le hk ha.size) ?_, ha.block k hk hr]
    intro e
    injection e with e
    rcases hw with hw | hw
    · exact hr (by rw [e]; exact hw)
    · omega
  exact hs (hs (hs (hs hg h1.2) h2.2) h3.2) h4.2
theorem fill4_cell {W2 : World} {B e g n cap : Nat} {xs : List Value} (ho : W2.ownsRow B e 4 (.slice (some ⟨g, 0, none⟩) (n + 1) cap) (n + 1) xs) (j : Nat) (hj : j < (n + 1) * 4) : ∃ u, W2.cell? ⟨g, j, none⟩ = some u := by
  rw [ho.cellAt j hj]
  exact ⟨_, List.getElem?_eq_getElem (by rw [ho.1]; exact hj)⟩
theorem setCell_comm (w : World) (a b : Addr) (u v : Value) (h : a.block ≠ b.block) : (w.setCell a u).setCell b v = (w.setCell b v).setCell a u := by
  unfold World.setCell
  simp only [World.mk.injEq, and_true]
  apply Array.ext_getElem?
  intro k
  simp only [Array.getElem?_modify]
  by_cases h1 : a.block = k
  · by_cases h2 : b.block = k
    · exact absurd (h1.trans h2.symm) h
    · simp [h1, h2]
  · by_cases h2 : b.block = k
    · simp [h1, h2]
    · simp [h1, h2]
theorem set4_comm (w : World) (g o : Nat) (x : Nat → Value) (a : Addr) (u : Value) (h : a.block ≠ g) : set4 (w.setCell a u) g o x = (set4 w g o x).setCell a u := by
  unfold set4
  rw [setCell_comm _ a _ _ _ h, setCell_comm _ a _ _ _ h, setCell_comm _ a _ _ _ h, setCell_comm _ a _ _ _ h]
/-- The same memory. -/
structure LikeW (w' w : World) : Prop where
  os : w'.os = w.os
  tape : w'.tape = w.tape
  output : w'.output = w.output
  heap : w'.heap = w.heap
theorem LikeW.refl (w : World) : LikeW w w := ⟨rfl, rfl, rfl, rfl⟩
theorem LikeW.bel {w' w : World} (h : LikeW w' w) (B : Nat) : Below B w w' := ⟨h.os, h.tape, h.output, by rw [h.heap]; exact Nat.le_refl _, fun k _ => by rw [h.heap]⟩
theorem LikeW.set {w' w : World} (h : LikeW w' w) (a : Addr) (u : Value) : LikeW (w'.setCell a u) (w.setCell a u) := ⟨h.os, h.tape, h.output, by unfold World.setCell; simp only [h.heap]⟩
theorem LikeW.cell {w' w : World} (h : LikeW w' w) (a : Addr) : w'.cell? a = w.cell? a := World.cell?_of_block (by rw [h.heap])
theorem LikeW.frz {w' w : World} (h : LikeW w' w) (a : Addr) : w'.frozen? a = w.frozen? a := World.frozen?_of_block (by rw [h.heap])
def vec4 (a b c d : Value) : Nat → Value
  | 0 => a
  | 1 => b
  | 2 => c
  | _ => d
theorem set4_other (w : World) (g o : Nat) (x : Nat → Value) (a : Addr) (h : a.block ≠ g) : (set4 w g o x).cell? a = w.cell? a ∧ (set4 w g o x).frozen? a = w.frozen? a := by
  have hb : (set4 w g o x).heap[a.block]? = w.heap[a.block]? := by
    unfold set4
    rw [Below.heap_setCell _ _ _ _ h, Below.heap_setCell _ _ _ _ h, Below.heap_setCell _ _ _ _ h, Below.heap_setCell _ _ _ _ h]
  exact ⟨World.cell?_of_block hb, World.frozen?_of_block hb⟩
theorem set_other (w : World) (b a : Addr) (u : Value) (h : a.block ≠ b.block) : (w.setCell b u).cell? a = w.cell? a ∧ (w.setCell b u).frozen? a = w.frozen? a :=
  ⟨World.cell?_of_block (Below.heap_setCell _ _ _ _ h), World.frozen?_of_block (Below.heap_setCell _ _ _ _ h)⟩
/-- Behind an 'append' of an empty item: the new row, its last item's cells. -/
theorem app_facts {w' : World} {B kn : Nat} {K : Nat → Nat → Value} {v' : Value} (ho : w'.ownsRow B 25 4 v' (kn + 1) (flat4 K kn ++ [.string ⟨#[]⟩, .string ⟨#[]⟩, .slice none 0 0, .slice none 0 0])) : ∃ g cap, v' = .slice (some ⟨g, 0, none⟩) (kn + 1) cap ∧ g < w'.heap.size ∧ B ≤ g ∧
    w'.cell? ⟨g, kn * 4, none⟩ = some (.string ⟨#[]⟩) ∧ w'.cell? ⟨g, kn * 4 + 1, none⟩ = some (.string ⟨#[]⟩) ∧ w'.cell? ⟨g, kn * 4 + 2, none⟩ = some (.slice none 0 0) ∧ w'.cell? ⟨g, kn * 4 + 3, none⟩ = some (.slice none 0 0) ∧ ∀ i, w'.frozen? ⟨g, i, none⟩ = false := by
  obtain ⟨g, cap, rfl, h1, h2⟩ := row_form ho (by omega)
  have hl := flat4_len K kn
  refine ⟨g, cap, rfl, h1, h2, ?_, ?_, ?_, ?_, fun i => ho.frozenAt i⟩
  · rw [ho.cellAt (kn * 4) (by omega), List.getElem?_append_right (by omega), hl, Nat.sub_self]; rfl
  · rw [ho.cellAt (kn * 4 + 1) (by omega), List.getElem?_append_right (by omega), hl, Nat.add_sub_cancel_left]; rfl
  · rw [ho.cellAt (kn * 4 + 2) (by omega), List.getElem?_append_right (by omega), hl, Nat.add_sub_cancel_left]; rfl
  · rw [ho.cellAt (kn * 4 + 3) (by omega), List.getElem?_append_right (by omega), hl, Nat.add_sub_cancel_left]; rfl
/-- A block that is not the row's own is as it was. -/
theorem grown_cell {w W w' : World} {row : Option Nat} (hA : Below w.heap.size w W) (hg : W.grownBy w' row) {a : Addr} (hl : a.block < w.heap.size) (hne : some a.block ≠ row) : w'.cell? a = w.cell? a ∧ w'.frozen? a = w.frozen? a := by
  have h1 : w'.heap[a.block]? = w.heap[a.block]? := by rw [hg.block a.block (Nat.lt_of_lt_of_le hl hA.size) hne, hA.block a.block hl]
  exact ⟨World.cell?_of_block h1, World.frozen?_of_block h1⟩
theorem own_ne {W : World} {v v' : Value} {w : World} (hA : Below w.heap.size w W) (hw : v'.ownBlock = v.ownBlock ∨ v'.ownBlock = some W.heap.size) {k : Nat} (hk : k < w.heap.size) (hne : some k ≠ v.ownBlock) : v'.ownBlock ≠ some k := by
  intro e
  rcases hw with h | h
  · exact hne (by rw [← h, e])
  · rw [h] at e; injection e with e; have := hA.size; omega
end Go.Proofs.YtpbolcjcmkmalaaGreatDoor
