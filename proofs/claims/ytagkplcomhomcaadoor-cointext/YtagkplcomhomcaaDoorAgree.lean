/-
  coin.Read and the reference's ReadCoin tell the same, whatever the text.
-/
import Derived.Test.YtagkplcomhomcaaDoorRefBad
import Derived.Test.YtagkplcomhomcaaDoorRefA
import Derived.Test.YtagkplcomhomcaaDoorRefB
import Derived.Test.YtagkplcomhomcaaDoorRefC
import Derived.Test.YtagkplcomhomcaaDoorRefD
import Derived.Test.YtagkplcomhomcaaDoorRefE
import Derived.Test.YtagkplcomhomcaaDoorRefF
namespace Go.Proofs.YtagkplcomhomcaaDoor
open Go.RowKit Go.Extern.Stop Go.Stop Go.Extern

def Ready (w : World) (p : Nat → Addr) : Prop := (∃ m, w.cell? ⟨13, 0, none⟩ = some (.int .i64 m)) ∧ w.cell? ⟨0, 0, none⟩ = some (.iface 144 (.pointer (some (p 0)))) ∧ w.cell? ⟨2, 0, none⟩ = some (.iface 144 (.pointer (some (p 2))))

/-- Both tell a fault: of error k, at a place. -/
structure BothFault (s : ByteArray) (p : Nat → Addr) (k : Nat) (pos : Int) : Prop where
  read : ∀ w, Ready w p → Calls Tryd.prog 12 #[.string s] w fun e w' => IsFault w w' e pos (p k)
  ref : ∀ w, Calls Tryd.prog 13 #[.string s] w fun e w' => e = .returned (.tuple #[.int .i64 0, .agg #[.int .i64 (k + 1), .int .i64 pos]]) ∧ Below w.heap.size w w'
structure BothFine (s : ByteArray) (p : Nat → Addr) (n : Int) : Prop where
  read : ∀ w, Ready w p → Calls Tryd.prog 12 #[.string s] w fun e w' => e = .returned (.tuple #[.int .i64 n, .nilIface]) ∧ Below w.heap.size w w'
  ref : ∀ w, Calls Tryd.prog 13 #[.string s] w fun e w' => e = .returned (.tuple #[.int .i64 n, .agg #[.int .i64 0, .int .i64 (-1)]]) ∧ Below w.heap.size w w'

theorem cf_nodot {c : UInt8} (r : List UInt8) (h : isDot c = false) : cf (c :: r) = 0 := by
  have h1 : c ≠ 46 := by simpa [isDot] using h
  simp [cf, h1]
theorem run_cons {p : UInt8 → Bool} {c : UInt8} (r : List UInt8) (h : p c = true) : runLen p (c :: r) = runLen p r + 1 := by
  unfold runLen; rw [List.takeWhile_cons_of_pos h]; rfl
theorem run_no {p : UInt8 → Bool} {c : UInt8} (r : List UInt8) (h : p c = false) : runLen p (c :: r) = 0 := by
  unfold runLen; rw [List.takeWhile_cons_of_neg (by simp [h])]; rfl
theorem cf_dot0 : cf [46] = 1 := by decide
theorem cf_dotn {d : UInt8} (t : List UInt8) (h : isDg d = false) : cf (46 :: d :: t) = 1 := by
  simp [cf, run_no t h]
theorem cf_dot1 {d : UInt8} (h : isDg d = true) : cf [46, d] = 2 := by
  have : runLen isDg [d] = 1 := by rw [run_cons [] h]; rfl
  simp [cf, this]
theorem cf_dot1n {d1 d2 : UInt8} (t : List UInt8) (h1 : isDg d1 = true) (h2 : isDg d2 = false) : cf (46 :: d1 :: d2 :: t) = 2 := by
  simp [cf, run_cons _ h1, run_no t h2]
theorem cf_dot2 {d1 d2 : UInt8} (h1 : isDg d1 = true) (h2 : isDg d2 = true) : cf [46, d1, d2] = -1 := by
  have : runLen isDg [d1, d2] = 2 := by rw [run_cons _ h1, run_cons [] h2]; rfl
  simp [cf, this]
theorem cf_dot3 {d1 d2 x : UInt8} (t : List UInt8) (h1 : isDg d1 = true) (h2 : isDg d2 = true) : cf (46 :: d1 :: d2 :: x :: t) = 3 := by
  simp [cf, run_cons _ h1, run_cons _ h2]

theorem drop_at (s : ByteArray) (P : Nat) (h : P < s.size) : (bl s).drop P = s[P] :: (bl s).drop (P + 1) := by
  have hl : P < (bl s).length := by rw [size_bl]; exact h
  rw [List.drop_eq_getElem_cons hl]
  have := bl_get s P h
  rw [List.getElem?_eq_getElem hl] at this
  rw [Option.some.inj this]
theorem drop_end (s : ByteArray) (P : Nat) (h : s.size ≤ P) : (bl s).drop P = [] := List.drop_eq_nil_of_le (by rw [size_bl]; exact h)
theorem at_or (s : ByteArray) (P : Nat) (f : UInt8 → Bool) : s.size ≤ P ∨ At s P f true ∨ At s P f false := by
  by_cases h : P < s.size
  · cases e : f s[P]
    · exact .inr (.inr ⟨h, e⟩)
    · exact .inr (.inl ⟨h, e⟩)
  · exact .inl (by omega)
theorem pv_two {d1 d2 : UInt8} (h1 : isDg d1 = true) (h2 : isDg d2 = true) : pv [46, d1, d2] = ((d1.toNat : Int) - 48) * 10 + (d2.toNat - 48) := by
  have b1 := dg_bd h1
  have b2 := dg_bd h2
  have e46 : isDg 46 = false := by decide
  have s1 : pstep 0 46 = 0 := by unfold pstep; rw [e46]; rfl
  have s2 : pstep 0 d1 = (d1.toNat : Int) - 48 := by unfold pstep; rw [if_pos h1, Int.min_def]; split <;> omega
  have s3 : pstep ((d1.toNat : Int) - 48) d2 = ((d1.toNat : Int) - 48) * 10 + (d2.toNat - 48) := by unfold pstep; rw [if_pos h2, Int.min_def]; split <;> omega
  show pstep (pstep (pstep 0 46) d1) d2 = _
  rw [s1, s2, s3]

theorem cut_off (s : ByteArray) (hs : s.size ≤ 3000) : ∃ b neg ahead, Cut s b neg ahead ∧ Off s b neg ahead := by
  by_cases h : (bl s).head? = some 45
  · have h0 : 0 < s.size := by
      rw [← size_bl]
      cases e : bl s with
      | nil => rw [e] at h; cases h
      | cons c r => simp
    have hb : bl (s.extract 1 s.size) = (bl s).drop 1 := Lib.extract_to_end s 1
    have hz : s.size = 1 + (s.extract 1 s.size).size := by
      rw [← size_bl (s.extract 1 s.size), hb, List.length_drop, size_bl]; omega
    refine ⟨s.extract 1 s.size, true, 1, ⟨fun w => cut_yes s w h, hz, hs⟩, ⟨rfl, hb, fun _ => ⟨h0, ?_⟩, (fun e => by cases e), hz, hs⟩⟩
    have := bl_get s 0 h0
    rw [← List.head?_eq_getElem?, h] at this
    exact (Option.some.inj this).symm
  · refine ⟨s, false, 0, ⟨fun w => cut_no s w h, by omega, hs⟩, ⟨rfl, by simp, (fun e => by cases e), fun _ h0 e => h ?_, by omega, hs⟩⟩
    rw [List.head?_eq_getElem?, bl_get s 0 h0, e]

theorem agree (s : ByteArray) (p : Nat → Addr) (hs : s.size ≤ 3000) : (∃ k pos, (k = 0 ∨ k = 2) ∧ BothFault s p k pos) ∨ ∃ n, BothFine s p n := by
  obtain ⟨b, neg, ahead, C, O⟩ := cut_off s hs
  have hsz := O.size
  have hel : runLen isW (bl b) ≤ b.size := by rw [← size_bl]; exact runLen_le _ _
  have hwl := bl_whole b
  have hce : bl (b.extract (runLen isW (bl b)) b.size) = (bl s).drop (ahead + runLen isW (bl b)) := by
    show (b.extract (runLen isW (bl b)) b.size).data.toList = _
    rw [Lib.extract_to_end]
    show List.drop _ (bl b) = _
    rw [O.bytes, List.drop_drop]
  by_cases hdig : At s ahead isDg true
  · -- the first byte is a digit
    obtain ⟨hd1, hd2⟩ := hdig
    have hbc : bl b = s[ahead] :: (bl s).drop (ahead + 1) := by rw [O.bytes, drop_at s ahead hd1]
    have hW : isW s[ahead] = true := by simp [isW, hd2]
    have hl : bl (b.extract 0 (runLen isW (bl b))) = s[ahead] :: ((bl s).drop (ahead + 1)).takeWhile isW := by
      rw [hwl, hbc, List.takeWhile_cons_of_pos hW]
    have hsc : sc b ahead (ahead + runLen isW (bl b)) = scan ⟨-1, 0, false, 0⟩ ahead (bl (b.extract 0 (runLen isW (bl b)))) := by
      unfold sc S0
      rw [Nat.add_sub_cancel_left, take_run, hwl]
    have hall : ∀ c, c ∈ bl (b.extract 0 (runLen isW (bl b))) → isW c = true := fun c hc => all_run isW (bl b) c (by rw [← hwl]; exact hc)
    obtain ⟨w1, w2⟩ := scan_wf _ ahead (by omega) hall _ _ hl hd2
    rw [← hsc] at w1 w2
    by_cases hw : 0 ≤ wf (bl (b.extract 0 (runLen isW (bl b))))
    · obtain ⟨hb1, hb2⟩ := w2 hw
      refine .inl ⟨0, (ahead : Int) + wf (bl (b.extract 0 (runLen isW (bl b)))), .inl rfl, ⟨fun w R => ?_, fun w => ?_⟩⟩
      · obtain ⟨⟨m, hm⟩, ht, _⟩ := R
        exact read_whole s b neg ahead C m (p 0) w hm ht hw
      · have := ref_bad s b neg ahead O w ⟨hd1, hd2⟩ hb1
        rw [hb2] at this
        exact this
    · have hw' : wf (bl (b.extract 0 (runLen isW (bl b)))) < 0 := by omega
      have hnb := w1 hw'
      have hsame : Same (pv (bl (b.extract 0 (runLen isW (bl b))))) (sc b ahead (ahead + runLen isW (bl b))).n := by
        rw [hsc]
        exact same_scan _ _ _ 0 hall (.inl ⟨rfl, by decide, by decide⟩)
      have hdg : ∃ h : ahead < s.size, isDg s[ahead] = true := ⟨hd1, hd2⟩
      have mkF : ∀ pos : Int, 0 ≤ cf (bl (b.extract (runLen isW (bl b)) b.size)) → (ahead : Int) + runLen isW (bl b) + cf (bl (b.extract (runLen isW (bl b)) b.size)) = pos →
          (∀ w, Calls Tryd.prog 13 #[.string s] w fun e w' => e = .returned (.tuple #[.int .i64 0, .agg #[.int .i64 1, .int .i64 pos]]) ∧ Below w.heap.size w w') →
          (∃ k pos, (k = 0 ∨ k = 2) ∧ BothFault s p k pos) ∨ ∃ n, BothFine s p n := fun pos h1 h2 h3 => by
        refine .inl ⟨0, pos, .inl rfl, ⟨fun w R => ?_, h3⟩⟩
        obtain ⟨⟨m, hm⟩, ht, _⟩ := R
        have := read_cents s b neg ahead C m (p 0) w hm ht hw' h1
        rw [h2] at this
        exact this
      have mkG : cf (bl (b.extract (runLen isW (bl b)) b.size)) < 0 → 1000000000000 < pv (bl (b.extract 0 (runLen isW (bl b)))) * 100 + pv (bl (b.extract (runLen isW (bl b)) b.size)) →
          (∀ w, Calls Tryd.prog 13 #[.string s] w fun e w' => e = .returned (.tuple #[.int .i64 0, .agg #[.int .i64 3, .int .i64 0]]) ∧ Below w.heap.size w w') →
          (∃ k pos, (k = 0 ∨ k = 2) ∧ BothFault s p k pos) ∨ ∃ n, BothFine s p n := fun h1 h2 h3 => by
        refine .inl ⟨2, 0, .inr rfl, ⟨fun w R => ?_, h3⟩⟩
        obtain ⟨⟨m, hm⟩, _, ht⟩ := R
        exact read_great s b neg ahead C m (p 2) w hm ht hw' h1 h2
      have mkH : ∀ n : Int, cf (bl (b.extract (runLen isW (bl b)) b.size)) < 0 → pv (bl (b.extract 0 (runLen isW (bl b)))) * 100 + pv (bl (b.extract (runLen isW (bl b)) b.size)) = n → n ≤ 1000000000000 →
          (∀ w, Calls Tryd.prog 13 #[.string s] w fun e w' => e = .returned (.tuple #[.int .i64 (if neg then -n else n), .agg #[.int .i64 0, .int .i64 (-1)]]) ∧ Below w.heap.size w w') →
          (∃ k pos, (k = 0 ∨ k = 2) ∧ BothFault s p k pos) ∨ ∃ n, BothFine s p n := fun n h1 h2 h3 h4 => by
        refine .inr ⟨if neg then -n else n, ⟨fun w R => ?_, h4⟩⟩
        obtain ⟨⟨m, hm⟩, _, ht⟩ := R
        have := read_fine s b neg ahead C m (p 2) w hm ht hw' h1 (by rw [h2]; exact h3)
        rw [h2] at this
        exact this
      rw [hce] at mkF mkG mkH
      have hel' : ahead + runLen isW (bl b) ≤ s.size := by omega
      generalize hx : pv (bl (b.extract 0 (runLen isW (bl b)))) = x at *
      clear hx hall hl hwl hce hbc w1 w2 hw C
      have R1 := fun w (h : ahead + runLen isW (bl b) = s.size) hn => ref_o1_great s b neg ahead O w hdg hnb h hn
      have R1' := fun w (h : ahead + runLen isW (bl b) = s.size) hn => ref_o1_fine s b neg ahead O w hdg hnb h hn
      have R2 := fun w h => ref_o2 s b neg ahead O w hdg hnb h
      have R3 := fun w h h' => ref_o3 s b neg ahead O w hdg hnb h h'
      have R4 := fun w h h' => ref_o4 s b neg ahead O w hdg hnb h h'
      have R5 := fun w h h' h'' => ref_o5 s b neg ahead O w hdg hnb h h' h''
      have R6 := fun w h h' h'' => ref_o6 s b neg ahead O w hdg hnb h h' h''
      have R7 := fun w h h' h'' h3 => ref_o7 s b neg ahead O w hdg hnb h h' h'' h3
      have R8 := fun w h h' h'' h3 hn => ref_o8_great s b neg ahead O w hdg hnb h h' h'' h3 hn
      have R8' := fun w h h' h'' h3 hn => ref_o8_fine s b neg ahead O w hdg hnb h h' h'' h3 hn
      clear hdg hnb hsc O
      generalize (sc b ahead (ahead + runLen isW (bl b))).n = y at *
      have eP : (ahead : Int) + runLen isW (bl b) = ((ahead + runLen isW (bl b) : Nat) : Int) := by omega
      rw [eP] at mkF
      clear eP
      generalize ahead + runLen isW (bl b) = P at *
      unfold Same at hsame
      rcases at_or s P isDot with h | h | h
      · -- nothing behind
        have hP : P = s.size := by omega
        rw [drop_end s P h] at mkF mkG mkH
        by_cases hn : 1000000000000 < y * 100
        · exact mkG (by decide) (by show _ < x * 100 + 0; omega) (fun w => R1 w hP hn)
        · have hxy : x = y := by omega
          refine mkH (y * 100) (by decide) (by show x * 100 + 0 = _; omega) (by omega) (fun w => R1' w hP (by omega))
      · obtain ⟨hP, hd⟩ := h
        have e46 : s[P] = 46 := by simpa [isDot] using hd
        have hD : At s P isDot true := ⟨hP, hd⟩
        rw [drop_at s P hP, e46] at mkF mkG mkH
        rcases at_or s (P + 1) isDg with h1 | h1 | h1
        · rw [drop_end s (P + 1) h1] at mkF
          rw [cf_dot0] at mkF
          have : s.size = P + 1 := by omega
          exact mkF s.size (by decide) (by omega) (fun w => R3 w hD h1)
        · have hA1 := h1
          obtain ⟨hP1, hd1⟩ := h1
          rw [drop_at s (P + 1) hP1] at mkF mkG mkH
          rcases at_or s (P + 2) isDg with h2 | h2 | h2
          · rw [drop_end s (P + 1 + 1) h2, cf_dot1 hd1] at mkF
            have : s.size = P + 2 := by omega
            exact mkF s.size (by decide) (by omega) (fun w => R5 w hD hA1 h2)
          · have hA2 := h2
            obtain ⟨hP2, hd2⟩ := h2
            rw [drop_at s (P + 1 + 1) hP2] at mkF mkG mkH
            by_cases hP3 : P + 3 < s.size
            · rw [drop_at s (P + 1 + 1 + 1) hP3, cf_dot3 _ hd1 hd2] at mkF
              exact mkF ((P + 3 : Nat) : Int) (by decide) (by omega) (fun w => R7 w hD hA1 hA2 hP3)
            · rw [drop_end s (P + 1 + 1 + 1) (by omega)] at mkG mkH
              have hv : pv [46, s[P + 1], s[P + 1 + 1]] = dv s (P + 1) * 10 + dv s (P + 2) := by
                rw [pv_two hd1 hd2, dv_at s (P + 1) hP1, dv_at s (P + 2) hP2]
              have hcf := cf_dot2 hd1 hd2
              have b1 := dg_bd hd1
              have b2 := dg_bd hd2
              have v1 := dv_at s (P + 1) hP1
              have v2 := dv_at s (P + 2) hP2
              by_cases hn : 1000000000000 < y * 100 + (dv s (P + 1) * 10 + dv s (P + 2))
              · exact mkG (by rw [hcf]; decide) (by rw [hv]; omega) (fun w => R8 w hD hA1 hA2 (by omega) hn)
              · have hxy : x = y := by omega
                exact mkH (y * 100 + (dv s (P + 1) * 10 + dv s (P + 2))) (by rw [hcf]; decide) (by rw [hv, hxy]) (by omega) (fun w => R8' w hD hA1 hA2 (by omega) (by omega))
          · have hA2 := h2
            obtain ⟨hP2, hd2⟩ := h2
            rw [drop_at s (P + 1 + 1) hP2, cf_dot1n _ hd1 hd2] at mkF
            exact mkF ((P + 2 : Nat) : Int) (by decide) (by omega) (fun w => R6 w hD hA1 hA2)
        · have hA1 := h1
          obtain ⟨hP1, hd1⟩ := h1
          rw [drop_at s (P + 1) hP1, cf_dotn _ hd1] at mkF
          exact mkF ((P + 1 : Nat) : Int) (by decide) (by omega) (fun w => R4 w hD hA1)
      · have hA := h
        obtain ⟨hP, hd⟩ := h
        rw [drop_at s P hP, cf_nodot _ hd] at mkF
        exact mkF (P : Int) (by decide) (by omega) (fun w => R2 w hA)
  · have hwf : wf (bl (b.extract 0 (runLen isW (bl b)))) = 0 := by
      rw [hwl]
      cases e : (bl b).takeWhile isW with
      | nil => rfl
      | cons c r =>
        have hc : isW c = true := all_run isW (bl b) c (by rw [e]; exact List.mem_cons_self ..)
        have hnd : ¬ isDg c = true := fun h => hdig (by
          have hb0 : (bl b)[0]? = some c := by
            cases e2 : bl b with
            | nil => rw [e2] at e; cases e
            | cons x y =>
              rw [e2] at e
              by_cases hx : isW x = true
              · rw [List.takeWhile_cons_of_pos hx] at e
                rw [(List.cons.inj e).1]; rfl
              · rw [List.takeWhile_cons_of_neg hx] at e; cases e
          have hlt : ahead < s.size := by
            rcases Nat.lt_or_ge ahead s.size with h | h
            · exact h
            · have : bl b = [] := by rw [O.bytes]; exact drop_end s ahead h
              rw [this] at hb0; cases hb0
          have := off_byte O ahead (Nat.le_refl _) hlt
          rw [Nat.sub_self, hb0] at this
          exact ⟨hlt, by rw [← Option.some.inj this]; exact h⟩)
        obtain rfl := w_not hc hnd
        rw [wf_cons rfl (gl_comma r), if_neg (gl_ne r), if_pos (.inl (by omega))]
        rfl
    refine .inl ⟨0, ahead, .inl rfl, ⟨fun w R => ?_, fun w => ?_⟩⟩
    · obtain ⟨⟨m, hm⟩, ht, _⟩ := R
      have := read_whole s b neg ahead C m (p 0) w hm ht (by rw [hwf]; decide)
      rw [hwf, Int.add_zero] at this
      exact this
    · refine ref_none s b neg ahead O w ?_
      rcases at_or s ahead isDg with h | h | h
      · exact .inl (by omega)
      · exact absurd h hdig
      · exact .inr h
end Go.Proofs.YtagkplcomhomcaaDoor
