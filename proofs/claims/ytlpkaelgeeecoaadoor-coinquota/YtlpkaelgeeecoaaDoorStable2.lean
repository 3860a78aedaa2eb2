/-
  The stable sort, walked: twenty by twenty, then merged.
-/
import Derived.Test.YtlpkaelgeeecoaaDoorStable
namespace Go.Proofs.YtlpkaelgeeecoaaDoor
open Go.RowKit Go.Sort Go.Shelf

section
variable {N : Nat} (lt : Fin (N + 1) → Fin (N + 1) → Bool)
/-- How far the sort is: blocks in order, each of its own places; from x on nothing is touched. -/
structure Good (bs : List (Nat × Nat)) (x n : Nat) (d0 d : Array (Fin (N + 1))) : Prop where
  blocks : ∀ p, p ∈ bs → SortedIn lt p.1 p.2 d ∧ ∀ i, p.1 ≤ i → i < p.2 → p.1 ≤ d[i]!.val ∧ d[i]!.val < p.2
  rest : ∀ i, x ≤ i → i < n → d[i]!.val = i
  perm : PermIn 0 n d0 d
variable {lt}
theorem Good.first {n : Nat} {d0 : Array (Fin (N + 1))} (h : ∀ i, i < n → d0[i]!.val = i) : Good lt [] 0 n d0 d0 := ⟨(fun p hp => by cases hp), fun i _ hi => h i hi, permIn_refl _ _ _⟩
theorem Good.inc {bs : List (Nat × Nat)} {x n b : Nat} {d0 d : Array (Fin (N + 1))} (h : Good lt bs x n d0 d) (hb : b ≤ n) : ∀ i j, x ≤ i → i < j → j < b → d[i]!.val < d[j]!.val := fun i j u v z => by
  rw [h.rest i u (by omega), h.rest j (by omega) (by omega)]; exact v
theorem Good.ins {bs : List (Nat × Nat)} {x n b : Nat} {d0 d d1 : Array (Fin (N + 1))} (h : Good lt bs x n d0 d) (hn : n ≤ d0.size) (hx : x ≤ b) (hb : b ≤ n) (hbs : ∀ p, p ∈ bs → p.2 ≤ x) (s : SortedIn lt x b d1) (p : PermIn x b d d1) : Good lt ((x, b) :: bs) b n d0 d1 := by
  have hz : d.size = d0.size := h.perm.1
  refine ⟨fun r hr => ?_, fun i u v => ?_, permIn_trans _ _ _ _ _ h.perm (permIn_mono _ _ _ _ _ _ (Nat.zero_le _) hb (by omega) p)⟩
  · rcases List.mem_cons.1 hr with rfl | hr
    · refine ⟨s, permIn_all _ _ _ _ (fun y => x ≤ y.val ∧ y.val < b) (by omega) p (fun i u v => ?_)⟩
      rw [h.rest i u (by omega)]; exact ⟨u, v⟩
    · obtain ⟨s1, v1⟩ := h.blocks r hr
      have hr2 := hbs r hr
      exact ⟨fun i j u v z => by rw [p.2.1 i (.inl (by omega)), p.2.1 j (.inl (by omega))]; exact s1 i j u v z, fun i u v => by rw [p.2.1 i (.inl (by omega))]; exact v1 i u v⟩
  · rw [p.2.1 i (.inr u)]; exact h.rest i (by omega) v
theorem Good.ahead {bs : List (Nat × Nat)} {x n a m b : Nat} {d0 d : Array (Fin (N + 1))} (h : Good lt bs x n d0 d) (h1 : (a, m) ∈ bs) (h2 : (m, b) ∈ bs) : ∀ i, a ≤ i → i < m → ∀ j, m ≤ j → j < b → d[i]!.val < d[j]!.val := fun i u v j y z => by
  have k1 := (h.blocks _ h1).2 i u v
  have k2 := (h.blocks _ h2).2 j y z
  simp only at k1 k2
  omega
theorem Good.sym {bs bs' : List (Nat × Nat)} {x n a m b : Nat} {d0 d d1 : Array (Fin (N + 1))} (h : Good lt bs x n d0 d) (hn : n ≤ d0.size) (ham : a ≤ m) (hmb : m ≤ b) (hb : b ≤ n) (hbx : b ≤ x) (h1 : (a, m) ∈ bs) (h2 : (m, b) ∈ bs)
    (hbs : ∀ p, p ∈ bs' → p ∈ bs ∧ (p.2 ≤ a ∨ b ≤ p.1)) (s : SortedIn lt a b d1) (p : PermIn a b d d1) : Good lt ((a, b) :: bs') x n d0 d1 := by
  have hz : d.size = d0.size := h.perm.1
  refine ⟨fun r hr => ?_, fun i u v => ?_, permIn_trans _ _ _ _ _ h.perm (permIn_mono _ _ _ _ _ _ (Nat.zero_le _) hb (by omega) p)⟩
  · rcases List.mem_cons.1 hr with rfl | hr
    · refine ⟨s, permIn_all _ _ _ _ (fun y => a ≤ y.val ∧ y.val < b) (by omega) p (fun i u v => ?_)⟩
      rcases Nat.lt_or_ge i m with c | c
      · have := (h.blocks _ h1).2 i u c
        simp only at this
        omega
      · have := (h.blocks _ h2).2 i c v
        simp only at this
        omega
    · obtain ⟨hm, ho⟩ := hbs r hr
      obtain ⟨s1, v1⟩ := h.blocks r hm
      exact ⟨fun i j u v z => by rw [p.2.1 i (by omega), p.2.1 j (by omega)]; exact s1 i j u v z, fun i u v => by rw [p.2.1 i (by omega)]; exact v1 i u v⟩
  · rw [p.2.1 i (.inr (by omega))]; exact h.rest i u v
end


variable {N : Nat} (tk : Fin (N + 1) → Int)
set_option maxHeartbeats 2000000 in
set_option maxRecDepth 100000 in
theorem stable_a (bx tb blk off cap cap' : Nat) (d0 : Array (Fin (N + 1))) (w : World) (hH : Holds ev w blk off d0) (hS : Seen tk w bx tb blk cap') (h1 : 0 ≤ d0.size) (h2 : d0.size ≤ 19) (h0 : ∀ i, i < d0.size → d0[i]!.val = i) :
    Calls Tryd.prog 92 #[.slice (some ⟨blk, off, none⟩) d0.size cap, .int .i64 d0.size, .func (.func 80) #[] #[.pointer (some ⟨bx, 0, none⟩)]] ((putRow ev w blk off d0).drewN 0) fun e w' =>
      e = .returned (.tuple #[]) ∧ ∃ d1 q', SortedIn (ltT tk) 0 d0.size d1 ∧ PermIn 0 d0.size d0 d1 ∧ w' = (putRow ev w blk off d1).drewN q' := by
  have HI := hidIt (fun (d : Array (Fin (N + 1))) (q a b : Nat) (hz : d.size = d0.size) (hab : a ≤ b) (hb : b ≤ d0.size) hI => ins_at tk bx tb blk off cap cap' d0 d w q a b hH hS hz (by omega) hab hb hI)
  have HM := hidIt (show ∀ (a m b : Nat) (d : Array (Fin (N + 1))) (q : Nat), a < m → m < b → b ≤ d0.size → d.size = d0.size → SortedIn (ltT tk) a m d → SortedIn (ltT tk) m b d → (∀ i, a ≤ i → i < m → ∀ j, m ≤ j → j < b → d[i]!.val < d[j]!.val) →
    Calls Tryd.prog 101 #[.slice (some ⟨blk, off, none⟩) d0.size cap, .int .i64 a, .int .i64 m, .int .i64 b, .func (.func 80) #[] #[.pointer (some ⟨bx, 0, none⟩)]] ((putRow ev w blk off d).drewN q) fun e w' =>
      e = .returned (.tuple #[]) ∧ ∃ d1 q', SortedIn (ltT tk) a b d1 ∧ PermIn a b d d1 ∧ w' = (putRow ev w blk off d1).drewN q' from
    fun a m b d q x1 x2 x3 x4 x5 x6 x7 => sym_all (ltT_swo tk) (cfT_agree tk) bx blk off cap d0 w hH (by omega) (Seen.cmps tk hS) (b - a) a m b d q (Nat.le_refl _) x1 x2 x3 x4 x5 x6 x7)
  have G0 := hidIt (Good.first (lt := ltT tk) h0)
  clear hH hS h0
  generalize hn : d0.size = n at *
  have HN := hidIt hn
  have hn' : n ≤ d0.size := by omega
  have HN' := hidIt hn'
  clear hn hn'
  have e20 : decide ((20 : Int) ≤ n) = false := by simp; omega
  have f20 : decide ((20 : Int) < n) = false := by simp; omega
  have e40 : decide ((40 : Int) ≤ n) = false := by simp; omega
  have f40 : decide ((40 : Int) < n) = false := by simp; omega
  have e60 : decide ((60 : Int) ≤ n) = false := by simp; omega
  have f60 : decide ((60 : Int) < n) = false := by simp; omega
  have e80 : decide ((80 : Int) ≤ n) = false := by simp; omega
  have f80 : decide ((80 : Int) < n) = false := by simp; omega
  go_enter Tryd.func92, Tryd.ntmps92
  go_wp2_with fail
  refine wp_loop_rounds 5 ?_
  rw [rounds_succ]
  go_wp2_with fail
  refine (HI.out d0 0 0 n HN.out (by omega) (by omega) (G0.out.inc (by omega))).mono ?_
  rintro ex w1 ⟨rfl, d1, q1, s1, p1, rfl⟩
  have G1 := hidIt (G0.out.ins (b := n) HN'.out (by omega) (by omega) (by simp) s1 p1)
  clear s1 p1
  go_wp2_with fail
  refine wp_loop_rounds 4 ?_
  rw [rounds_succ]
  go_wp2
  go_end0
  exact ⟨rfl, d1, q1, (G1.out.blocks (0, n) (by simp)).1, G1.out.perm, rfl⟩

set_option maxHeartbeats 2000000 in
set_option maxRecDepth 100000 in
theorem stable_b (bx tb blk off cap cap' : Nat) (d0 : Array (Fin (N + 1))) (w : World) (hH : Holds ev w blk off d0) (hS : Seen tk w bx tb blk cap') (h1 : 20 ≤ d0.size) (h2 : d0.size ≤ 20) (h0 : ∀ i, i < d0.size → d0[i]!.val = i) :
    Calls Tryd.prog 92 #[.slice (some ⟨blk, off, none⟩) d0.size cap, .int .i64 d0.size, .func (.func 80) #[] #[.pointer (some ⟨bx, 0, none⟩)]] ((putRow ev w blk off d0).drewN 0) fun e w' =>
      e = .returned (.tuple #[]) ∧ ∃ d1 q', SortedIn (ltT tk) 0 d0.size d1 ∧ PermIn 0 d0.size d0 d1 ∧ w' = (putRow ev w blk off d1).drewN q' := by
  have HI := hidIt (fun (d : Array (Fin (N + 1))) (q a b : Nat) (hz : d.size = d0.size) (hab : a ≤ b) (hb : b ≤ d0.size) hI => ins_at tk bx tb blk off cap cap' d0 d w q a b hH hS hz (by omega) hab hb hI)
  have HM := hidIt (show ∀ (a m b : Nat) (d : Array (Fin (N + 1))) (q : Nat), a < m → m < b → b ≤ d0.size → d.size = d0.size → SortedIn (ltT tk) a m d → SortedIn (ltT tk) m b d → (∀ i, a ≤ i → i < m → ∀ j, m ≤ j → j < b → d[i]!.val < d[j]!.val) →
    Calls Tryd.prog 101 #[.slice (some ⟨blk, off, none⟩) d0.size cap, .int .i64 a, .int .i64 m, .int .i64 b, .func (.func 80) #[] #[.pointer (some ⟨bx, 0, none⟩)]] ((putRow ev w blk off d).drewN q) fun e w' =>
      e = .returned (.tuple #[]) ∧ ∃ d1 q', SortedIn (ltT tk) a b d1 ∧ PermIn a b d d1 ∧ w' = (putRow ev w blk off d1).drewN q' from
    fun a m b d q x1 x2 x3 x4 x5 x6 x7 => sym_all (ltT_swo tk) (cfT_agree tk) bx blk off cap d0 w hH (by omega) (Seen.cmps tk hS) (b - a) a m b d q (Nat.le_refl _) x1 x2 x3 x4 x5 x6 x7)
  have G0 := hidIt (Good.first (lt := ltT tk) h0)
  clear hH hS h0
  generalize hn : d0.size = n at *
  have HN := hidIt hn
  have hn' : n ≤ d0.size := by omega
  have HN' := hidIt hn'
  clear hn hn'
  have e20 : decide ((20 : Int) ≤ n) = true := by simp; omega
  have f20 : decide ((20 : Int) < n) = false := by simp; omega
  have e40 : decide ((40 : Int) ≤ n) = false := by simp; omega
  have f40 : decide ((40 : Int) < n) = false := by simp; omega
  have e60 : decide ((60 : Int) ≤ n) = false := by simp; omega
  have f60 : decide ((60 : Int) < n) = false := by simp; omega
  have e80 : decide ((80 : Int) ≤ n) = false := by simp; omega
  have f80 : decide ((80 : Int) < n) = false := by simp; omega
  go_enter Tryd.func92, Tryd.ntmps92
  go_wp2_with fail
  refine wp_loop_rounds 5 ?_
  rw [rounds_succ]
  go_wp2_with fail
  refine (HI.out d0 0 0 20 HN.out (by omega) (by omega) (G0.out.inc (by omega))).mono ?_
  rintro ex w1 ⟨rfl, d1, q1, s1, p1, rfl⟩
  have G1 := hidIt (G0.out.ins (b := 20) HN'.out (by omega) (by omega) (by simp) s1 p1)
  clear s1 p1
  go_wp2_with fail
  rw [rounds_succ]
  go_wp2_with fail
  refine (HI.out d1 q1 20 n (G1.out.perm.1.trans HN.out) (by omega) (by omega) (G1.out.inc (by omega))).mono ?_
  rintro ex w2 ⟨rfl, d2, q2, s2, p2, rfl⟩
  have G2 := hidIt (G1.out.ins (b := n) HN'.out (by omega) (by omega) (by simp) s2 p2)
  clear s2 p2
  go_wp2_with fail
  refine wp_loop_rounds 4 ?_
  rw [rounds_succ]
  go_wp2
  go_end0
  exact ⟨rfl, d2, q2, (by have hh := (G2.out.blocks (0, 20) (by simp)).1; rwa [show 20 = n by omega] at hh), G2.out.perm, rfl⟩

set_option maxHeartbeats 2000000 in
set_option maxRecDepth 100000 in
theorem stable_c (bx tb blk off cap cap' : Nat) (d0 : Array (Fin (N + 1))) (w : World) (hH : Holds ev w blk off d0) (hS : Seen tk w bx tb blk cap') (h1 : 21 ≤ d0.size) (h2 : d0.size ≤ 39) (h0 : ∀ i, i < d0.size → d0[i]!.val = i) :
    Calls Tryd.prog 92 #[.slice (some ⟨blk, off, none⟩) d0.size cap, .int .i64 d0.size, .func (.func 80) #[] #[.pointer (some ⟨bx, 0, none⟩)]] ((putRow ev w blk off d0).drewN 0) fun e w' =>
      e = .returned (.tuple #[]) ∧ ∃ d1 q', SortedIn (ltT tk) 0 d0.size d1 ∧ PermIn 0 d0.size d0 d1 ∧ w' = (putRow ev w blk off d1).drewN q' := by
  have HI := hidIt (fun (d : Array (Fin (N + 1))) (q a b : Nat) (hz : d.size = d0.size) (hab : a ≤ b) (hb : b ≤ d0.size) hI => ins_at tk bx tb blk off cap cap' d0 d w q a b hH hS hz (by omega) hab hb hI)
  have HM := hidIt (show ∀ (a m b : Nat) (d : Array (Fin (N + 1))) (q : Nat), a < m → m < b → b ≤ d0.size → d.size = d0.size → SortedIn (ltT tk) a m d → SortedIn (ltT tk) m b d → (∀ i, a ≤ i → i < m → ∀ j, m ≤ j → j < b → d[i]!.val < d[j]!.val) →
    Calls Tryd.prog 101 #[.slice (some ⟨blk, off, none⟩) d0.size cap, .int .i64 a, .int .i64 m, .int .i64 b, .func (.func 80) #[] #[.pointer (some ⟨bx, 0, none⟩)]] ((putRow ev w blk off d).drewN q) fun e w' =>
      e = .returned (.tuple #[]) ∧ ∃ d1 q', SortedIn (ltT tk) a b d1 ∧ PermIn a b d d1 ∧ w' = (putRow ev w blk off d1).drewN q' from
    fun a m b d q x1 x2 x3 x4 x5 x6 x7 => sym_all (ltT_swo tk) (cfT_agree tk) bx blk off cap d0 w hH (by omega) (Seen.cmps tk hS) (b - a) a m b d q (Nat.le_refl _) x1 x2 x3 x4 x5 x6 x7)
  have G0 := hidIt (Good.first (lt := ltT tk) h0)
  clear hH hS h0
  generalize hn : d0.size = n at *
  have HN := hidIt hn
  have hn' : n ≤ d0.size := by omega
  have HN' := hidIt hn'
  clear hn hn'
  have e20 : decide ((20 : Int) ≤ n) = true := by simp; omega
  have f20 : decide ((20 : Int) < n) = true := by simp; omega
  have e40 : decide ((40 : Int) ≤ n) = false := by simp; omega
  have f40 : decide ((40 : Int) < n) = false := by simp; omega
  have e60 : decide ((60 : Int) ≤ n) = false := by simp; omega
  have f60 : decide ((60 : Int) < n) = false := by simp; omega
  have e80 : decide ((80 : Int) ≤ n) = false := by simp; omega
  have f80 : decide ((80 : Int) < n) = false := by simp; omega
  go_enter Tryd.func92, Tryd.ntmps92
  go_wp2_with fail
  refine wp_loop_rounds 5 ?_
  rw [rounds_succ]
  go_wp2_with fail
  refine (HI.out d0 0 0 20 HN.out (by omega) (by omega) (G0.out.inc (by omega))).mono ?_
  rintro ex w1 ⟨rfl, d1, q1, s1, p1, rfl⟩
  have G1 := hidIt (G0.out.ins (b := 20) HN'.out (by omega) (by omega) (by simp) s1 p1)
  clear s1 p1
  go_wp2_with fail
  rw [rounds_succ]
  go_wp2_with fail
  refine (HI.out d1 q1 20 n (G1.out.perm.1.trans HN.out) (by omega) (by omega) (G1.out.inc (by omega))).mono ?_
  rintro ex w2 ⟨rfl, d2, q2, s2, p2, rfl⟩
  have G2 := hidIt (G1.out.ins (b := n) HN'.out (by omega) (by omega) (by simp) s2 p2)
  clear s2 p2
  go_wp2_with fail
  refine wp_loop_rounds 4 ?_
  rw [rounds_succ]
  go_wp2_with fail
  refine wp_loop_rounds 4 ?_
  rw [rounds_succ]
  go_wp2_with fail
  refine (HM.out 0 20 n d2 q2 (by omega) (by omega) (by omega) (G2.out.perm.1.trans HN.out) (G2.out.blocks (0, 20) (by simp)).1 (G2.out.blocks (20, n) (by simp)).1 (G2.out.ahead (a := 0) (m := 20) (b := n) (by simp) (by simp))).mono ?_
  rintro ex w3 ⟨rfl, d3, q3, s3, p3, rfl⟩
  have G3 := hidIt (G2.out.sym (a := 0) (m := 20) (b := n) (bs' := []) HN'.out (by omega) (by omega) (by omega) (by omega) (by simp) (by simp) (by simp) s3 p3)
  clear s3 p3
  go_wp2_with fail
  rw [rounds_succ]
  go_wp2
  go_end0
  exact ⟨rfl, d3, q3, (G3.out.blocks (0, n) (by simp)).1, G3.out.perm, rfl⟩

set_option maxHeartbeats 2000000 in
set_option maxRecDepth 100000 in
theorem stable_d (bx tb blk off cap cap' : Nat) (d0 : Array (Fin (N + 1))) (w : World) (hH : Holds ev w blk off d0) (hS : Seen tk w bx tb blk cap') (h1 : 40 ≤ d0.size) (h2 : d0.size ≤ 40) (h0 : ∀ i, i < d0.size → d0[i]!.val = i) :
    Calls Tryd.prog 92 #[.slice (some ⟨blk, off, none⟩) d0.size cap, .int .i64 d0.size, .func (.func 80) #[] #[.pointer (some ⟨bx, 0, none⟩)]] ((putRow ev w blk off d0).drewN 0) fun e w' =>
      e = .returned (.tuple #[]) ∧ ∃ d1 q', SortedIn (ltT tk) 0 d0.size d1 ∧ PermIn 0 d0.size d0 d1 ∧ w' = (putRow ev w blk off d1).drewN q' := by
  have HI := hidIt (fun (d : Array (Fin (N + 1))) (q a b : Nat) (hz : d.size = d0.size) (hab : a ≤ b) (hb : b ≤ d0.size) hI => ins_at tk bx tb blk off cap cap' d0 d w q a b hH hS hz (by omega) hab hb hI)
  have HM := hidIt (show ∀ (a m b : Nat) (d : Array (Fin (N + 1))) (q : Nat), a < m → m < b → b ≤ d0.size → d.size = d0.size → SortedIn (ltT tk) a m d → SortedIn (ltT tk) m b d → (∀ i, a ≤ i → i < m → ∀ j, m ≤ j → j < b → d[i]!.val < d[j]!.val) →
    Calls Tryd.prog 101 #[.slice (some ⟨blk, off, none⟩) d0.size cap, .int .i64 a, .int .i64 m, .int .i64 b, .func (.func 80) #[] #[.pointer (some ⟨bx, 0, none⟩)]] ((putRow ev w blk off d).drewN q) fun e w' =>
      e = .returned (.tuple #[]) ∧ ∃ d1 q', SortedIn (ltT tk) a b d1 ∧ PermIn a b d d1 ∧ w' = (putRow ev w blk off d1).drewN q' from
    fun a m b d q x1 x2 x3 x4 x5 x6 x7 => sym_all (ltT_swo tk) (cfT_agree tk) bx blk off cap d0 w hH (by omega) (Seen.cmps tk hS) (b - a) a m b d q (Nat.le_refl _) x1 x2 x3 x4 x5 x6 x7)
  have G0 := hidIt (Good.first (lt := ltT tk) h0)
  clear hH hS h0
  generalize hn : d0.size = n at *
  have HN := hidIt hn
  have hn' : n ≤ d0.size := by omega
  have HN' := hidIt hn'
  clear hn hn'
  have e20 : decide ((20 : Int) ≤ n) = true := by simp; omega
  have f20 : decide ((20 : Int) < n) = true := by simp; omega
  have e40 : decide ((40 : Int) ≤ n) = true := by simp; omega
  have f40 : decide ((40 : Int) < n) = false := by simp; omega
  have e60 : decide ((60 : Int) ≤ n) = false := by simp; omega
  have f60 : decide ((60 : Int) < n) = false := by simp; omega
  have e80 : decide ((80 : Int) ≤ n) = false := by simp; omega
  have f80 : decide ((80 : Int) < n) = false := by simp; omega
  go_enter Tryd.func92, Tryd.ntmps92
  go_wp2_with fail
  refine wp_loop_rounds 5 ?_
  rw [rounds_succ]
  go_wp2_with fail
  refine (HI.out d0 0 0 20 HN.out (by omega) (by omega) (G0.out.inc (by omega))).mono ?_
  rintro ex w1 ⟨rfl, d1, q1, s1, p1, rfl⟩
  have G1 := hidIt (G0.out.ins (b := 20) HN'.out (by omega) (by omega) (by simp) s1 p1)
  clear s1 p1
  go_wp2_with fail
  rw [rounds_succ]
  go_wp2_with fail
  refine (HI.out d1 q1 20 40 (G1.out.perm.1.trans HN.out) (by omega) (by omega) (G1.out.inc (by omega))).mono ?_
  rintro ex w2 ⟨rfl, d2, q2, s2, p2, rfl⟩
  have G2 := hidIt (G1.out.ins (b := 40) HN'.out (by omega) (by omega) (by simp) s2 p2)
  clear s2 p2
  go_wp2_with fail
  rw [rounds_succ]
  go_wp2_with fail
  refine (HI.out d2 q2 40 n (G2.out.perm.1.trans HN.out) (by omega) (by omega) (G2.out.inc (by omega))).mono ?_
  rintro ex w3 ⟨rfl, d3, q3, s3, p3, rfl⟩
  have G3 := hidIt (G2.out.ins (b := n) HN'.out (by omega) (by omega) (by simp) s3 p3)
  clear s3 p3
  go_wp2_with fail
  refine wp_loop_rounds 4 ?_
  rw [rounds_succ]
  go_wp2_with fail
  refine wp_loop_rounds 4 ?_
  rw [rounds_succ]
  go_wp2_with fail
  refine (HM.out 0 20 40 d3 q3 (by omega) (by omega) (by omega) (G3.out.perm.1.trans HN.out) (G3.out.blocks (0, 20) (by simp)).1 (G3.out.blocks (20, 40) (by simp)).1 (G3.out.ahead (a := 0) (m := 20) (b := 40) (by simp) (by simp))).mono ?_
  rintro ex w4 ⟨rfl, d4, q4, s4, p4, rfl⟩
  have G4 := hidIt (G3.out.sym (a := 0) (m := 20) (b := 40) (bs' := [(40, n)]) HN'.out (by omega) (by omega) (by omega) (by omega) (by simp) (by simp) (by simp; try omega) s4 p4)
  clear s4 p4
  go_wp2_with fail
  rw [rounds_succ]
  go_wp2_with fail
  rw [rounds_succ]
  go_wp2
  go_end0
  exact ⟨rfl, d4, q4, (by have hh := (G4.out.blocks (0, 40) (by simp)).1; rwa [show 40 = n by omega] at hh), G4.out.perm, rfl⟩

set_option maxHeartbeats 2000000 in
set_option maxRecDepth 100000 in
theorem stable_e (bx tb blk off cap cap' : Nat) (d0 : Array (Fin (N + 1))) (w : World) (hH : Holds ev w blk off d0) (hS : Seen tk w bx tb blk cap') (h1 : 41 ≤ d0.size) (h2 : d0.size ≤ 59) (h0 : ∀ i, i < d0.size → d0[i]!.val = i) :
    Calls Tryd.prog 92 #[.slice (some ⟨blk, off, none⟩) d0.size cap, .int .i64 d0.size, .func (.func 80) #[] #[.pointer (some ⟨bx, 0, none⟩)]] ((putRow ev w blk off d0).drewN 0) fun e w' =>
      e = .returned (.tuple #[]) ∧ ∃ d1 q', SortedIn (ltT tk) 0 d0.size d1 ∧ PermIn 0 d0.size d0 d1 ∧ w' = (putRow ev w blk off d1).drewN q' := by
  have HI := hidIt (fun (d : Array (Fin (N + 1))) (q a b : Nat) (hz : d.size = d0.size) (hab : a ≤ b) (hb : b ≤ d0.size) hI => ins_at tk bx tb blk off cap cap' d0 d w q a b hH hS hz (by omega) hab hb hI)
  have HM := hidIt (show ∀ (a m b : Nat) (d : Array (Fin (N + 1))) (q : Nat), a < m → m < b → b ≤ d0.size → d.size = d0.size → SortedIn (ltT tk) a m d → SortedIn (ltT tk) m b d → (∀ i, a ≤ i → i < m → ∀ j, m ≤ j → j < b → d[i]!.val < d[j]!.val) →
    Calls Tryd.prog 101 #[.slice (some ⟨blk, off, none⟩) d0.size cap, .int .i64 a, .int .i64 m, .int .i64 b, .func (.func 80) #[] #[.pointer (some ⟨bx, 0, none⟩)]] ((putRow ev w blk off d).drewN q) fun e w' =>
      e = .returned (.tuple #[]) ∧ ∃ d1 q', SortedIn (ltT tk) a b d1 ∧ PermIn a b d d1 ∧ w' = (putRow ev w blk off d1).drewN q' from
    fun a m b d q x1 x2 x3 x4 x5 x6 x7 => sym_all (ltT_swo tk) (cfT_agree tk) bx blk off cap d0 w hH (by omega) (Seen.cmps tk hS) (b - a) a m b d q (Nat.le_refl _) x1 x2 x3 x4 x5 x6 x7)
  have G0 := hidIt (Good.first (lt := ltT tk) h0)
  clear hH hS h0
  generalize hn : d0.size = n at *
  have HN := hidIt hn
  have hn' : n ≤ d0.size := by omega
  have HN' := hidIt hn'
  clear hn hn'
  have e20 : decide ((20 : Int) ≤ n) = true := by simp; omega
  have f20 : decide ((20 : Int) < n) = true := by simp; omega
  have e40 : decide ((40 : Int) ≤ n) = true := by simp; omega
  have f40 : decide ((40 : Int) < n) = true := by simp; omega
  have e60 : decide ((60 : Int) ≤ n) = false := by simp; omega
  have f60 : decide ((60 : Int) < n) = false := by simp; omega
  have e80 : decide ((80 : Int) ≤ n) = false := by simp; omega
  have f80 : decide ((80 : Int) < n) = false := by simp; omega
  go_enter Tryd.func92, Tryd.ntmps92
  go_wp2_with fail
  refine wp_loop_rounds 5 ?_
  rw [rounds_succ]
  go_wp2_with fail
  refine (HI.out d0 0 0 20 HN.out (by omega) (by omega) (G0.out.inc (by omega))).mono ?_
  rintro ex w1 ⟨rfl, d1, q1, s1, p1, rfl⟩
  have G1 := hidIt (G0.out.ins (b := 20) HN'.out (by omega) (by omega) (by simp) s1 p1)
  clear s1 p1
  go_wp2_with fail
  rw [rounds_succ]
  go_wp2_with fail
  refine (HI.out d1 q1 20 40 (G1.out.perm.1.trans HN.out) (by omega) (by omega) (G1.out.inc (by omega))).mono ?_
  rintro ex w2 ⟨rfl, d2, q2, s2, p2, rfl⟩
  have G2 := hidIt (G1.out.ins (b := 40) HN'.out (by omega) (by omega) (by simp) s2 p2)
  clear s2 p2
  go_wp2_with fail
  rw [rounds_succ]
  go_wp2_with fail
  refine (HI.out d2 q2 40 n (G2.out.perm.1.trans HN.out) (by omega) (by omega) (G2.out.inc (by omega))).mono ?_
  rintro ex w3 ⟨rfl, d3, q3, s3, p3, rfl⟩
  have G3 := hidIt (G2.out.ins (b := n) HN'.out (by omega) (by omega) (by simp) s3 p3)
  clear s3 p3
  go_wp2_with fail
  refine wp_loop_rounds 4 ?_
  rw [rounds_succ]
  go_wp2_with fail
  refine wp_loop_rounds 4 ?_
  rw [rounds_succ]
  go_wp2_with fail
  refine (HM.out 0 20 40 d3 q3 (by omega) (by omega) (by omega) (G3.out.perm.1.trans HN.out) (G3.out.blocks (0, 20) (by simp)).1 (G3.out.blocks (20, 40) (by simp)).1 (G3.out.ahead (a := 0) (m := 20) (b := 40) (by simp) (by simp))).mono ?_
  rintro ex w4 ⟨rfl, d4, q4, s4, p4, rfl⟩
  have G4 := hidIt (G3.out.sym (a := 0) (m := 20) (b := 40) (bs' := [(40, n)]) HN'.out (by omega) (by omega) (by omega) (by omega) (by simp) (by simp) (by simp; try omega) s4 p4)
  clear s4 p4
  go_wp2_with fail
  rw [rounds_succ]
  go_wp2_with fail
  rw [rounds_succ]
  go_wp2_with fail
  refine wp_loop_rounds 4 ?_
  rw [rounds_succ]
  go_wp2_with fail
  refine (HM.out 0 40 n d4 q4 (by omega) (by omega) (by omega) (G4.out.perm.1.trans HN.out) (G4.out.blocks (0, 40) (by simp)).1 (G4.out.blocks (40, n) (by simp)).1 (G4.out.ahead (a := 0) (m := 40) (b := n) (by simp) (by simp))).mono ?_
  rintro ex w5 ⟨rfl, d5, q5, s5, p5, rfl⟩
  have G5 := hidIt (G4.out.sym (a := 0) (m := 40) (b := n) (bs' := []) HN'.out (by omega) (by omega) (by omega) (by omega) (by simp) (by simp) (by simp) s5 p5)
  clear s5 p5
  go_wp2_with fail
  rw [rounds_succ]
  go_wp2
  go_end0
  exact ⟨rfl, d5, q5, (G5.out.blocks (0, n) (by simp)).1, G5.out.perm, rfl⟩

set_option maxHeartbeats 2000000 in
set_option maxRecDepth 100000 in
theorem stable_f (bx tb blk off cap cap' : Nat) (d0 : Array (Fin (N + 1))) (w : World) (hH : Holds ev w blk off d0) (hS : Seen tk w bx tb blk cap') (h1 : 60 ≤ d0.size) (h2 : d0.size ≤ 60) (h0 : ∀ i, i < d0.size → d0[i]!.val = i) :
    Calls Tryd.prog 92 #[.slice (some ⟨blk, off, none⟩) d0.size cap, .int .i64 d0.size, .func (.func 80) #[] #[.pointer (some ⟨bx, 0, none⟩)]] ((putRow ev w blk off d0).drewN 0) fun e w' =>
      e = .returned (.tuple #[]) ∧ ∃ d1 q', SortedIn (ltT tk) 0 d0.size d1 ∧ PermIn 0 d0.size d0 d1 ∧ w' = (putRow ev w blk off d1).drewN q' := by
  have HI := hidIt (fun (d : Array (Fin (N + 1))) (q a b : Nat) (hz : d.size = d0.size) (hab : a ≤ b) (hb : b ≤ d0.size) hI => ins_at tk bx tb blk off cap cap' d0 d w q a b hH hS hz (by omega) hab hb hI)
  have HM := hidIt (show ∀ (a m b : Nat) (d : Array (Fin (N + 1))) (q : Nat), a < m → m < b → b ≤ d0.size → d.size = d0.size → SortedIn (ltT tk) a m d → SortedIn (ltT tk) m b d → (∀ i, a ≤ i → i < m → ∀ j, m ≤ j → j < b → d[i]!.val < d[j]!.val) →
    Calls Tryd.prog 101 #[.slice (some ⟨blk, off, none⟩) d0.size cap, .int .i64 a, .int .i64 m, .int .i64 b, .func (.func 80) #[] #[.pointer (some ⟨bx, 0, none⟩)]] ((putRow ev w blk off d).drewN q) fun e w' =>
      e = .returned (.tuple #[]) ∧ ∃ d1 q', SortedIn (ltT tk) a b d1 ∧ PermIn a b d d1 ∧ w' = (putRow ev w blk off d1).drewN q' from
    fun a m b d q x1 x2 x3 x4 x5 x6 x7 => sym_all (ltT_swo tk) (cfT_agree tk) bx blk off cap d0 w hH (by omega) (Seen.cmps tk hS) (b - a) a m b d q (Nat.le_refl _) x1 x2 x3 x4 x5 x6 x7)
  have G0 := hidIt (Good.first (lt := ltT tk) h0)
  clear hH hS h0
  generalize hn : d0.size = n at *
  have HN := hidIt hn
  have hn' : n ≤ d0.size := by omega
  have HN' := hidIt hn'
  clear hn hn'
  have e20 : decide ((20 : Int) ≤ n) = true := by simp; omega
  have f20 : decide ((20 : Int) < n) = true := by simp; omega
  have e40 : decide ((40 : Int) ≤ n) = true := by simp; omega
  have f40 : decide ((40 : Int) < n) = true := by simp; omega
  have e60 : decide ((60 : Int) ≤ n) = true := by simp; omega
  have f60 : decide ((60 : Int) < n) = false := by simp; omega
  have e80 : decide ((80 : Int) ≤ n) = false := by simp; omega
  have f80 : decide ((80 : Int) < n) = false := by simp; omega
  go_enter Tryd.func92, Tryd.ntmps92
  go_wp2_with fail
  refine wp_loop_rounds 5 ?_
  rw [rounds_succ]
  go_wp2_with fail
  refine (HI.out d0 0 0 20 HN.out (by omega) (by omega) (G0.out.inc (by omega))).mono ?_
  rintro ex w1 ⟨rfl, d1, q1, s1, p1, rfl⟩
  have G1 := hidIt (G0.out.ins (b := 20) HN'.out (by omega) (by omega) (by simp) s1 p1)
  clear s1 p1
  go_wp2_with fail
  rw [rounds_succ]
  go_wp2_with fail
  refine (HI.out d1 q1 20 40 (G1.out.perm.1.trans HN.out) (by omega) (by omega) (G1.out.inc (by omega))).mono ?_
  rintro ex w2 ⟨rfl, d2, q2, s2, p2, rfl⟩
  have G2 := hidIt (G1.out.ins (b := 40) HN'.out (by omega) (by omega) (by simp) s2 p2)
  clear s2 p2
  go_wp2_with fail
  rw [rounds_succ]
  go_wp2_with fail
  refine (HI.out d2 q2 40 60 (G2.out.perm.1.trans HN.out) (by omega) (by omega) (G2.out.inc (by omega))).mono ?_
  rintro ex w3 ⟨rfl, d3, q3, s3, p3, rfl⟩
  have G3 := hidIt (G2.out.ins (b := 60) HN'.out (by omega) (by omega) (by simp) s3 p3)
  clear s3 p3
  go_wp2_with fail
  rw [rounds_succ]
  go_wp2_with fail
  refine (HI.out d3 q3 60 n (G3.out.perm.1.trans HN.out) (by omega) (by omega) (G3.out.inc (by omega))).mono ?_
  rintro ex w4 ⟨rfl, d4, q4, s4, p4, rfl⟩
  have G4 := hidIt (G3.out.ins (b := n) HN'.out (by omega) (by omega) (by simp) s4 p4)
  clear s4 p4
  go_wp2_with fail
  refine wp_loop_rounds 4 ?_
  rw [rounds_succ]
  go_wp2_with fail
  refine wp_loop_rounds 4 ?_
  rw [rounds_succ]
  go_wp2_with fail
  refine (HM.out 0 20 40 d4 q4 (by omega) (by omega) (by omega) (G4.out.perm.1.trans HN.out) (G4.out.blocks (0, 20) (by simp)).1 (G4.out.blocks (20, 40) (by simp)).1 (G4.out.ahead (a := 0) (m := 20) (b := 40) (by simp) (by simp))).mono ?_
  rintro ex w5 ⟨rfl, d5, q5, s5, p5, rfl⟩
  have G5 := hidIt (G4.out.sym (a := 0) (m := 20) (b := 40) (bs' := [(60, n), (40, 60)]) HN'.out (by omega) (by omega) (by omega) (by omega) (by simp) (by simp) (by simp; try omega) s5 p5)
  clear s5 p5
  go_wp2_with fail
  rw [rounds_succ]
  go_wp2_with fail
  rw [rounds_succ]
  go_wp2_with fail
  refine wp_loop_rounds 4 ?_
  rw [rounds_succ]
  go_wp2_with fail
  have G6' := G5.out
  rw [show (60 : Nat) = n by omega] at G6'
  have G6 := hidIt G6'
  clear G6'
  refine (HM.out 0 40 n d5 q5 (by omega) (by omega) (by omega) (G6.out.perm.1.trans HN.out) (G6.out.blocks (0, 40) (by simp)).1 (G6.out.blocks (40, n) (by simp)).1 (G6.out.ahead (a := 0) (m := 40) (b := n) (by simp) (by simp))).mono ?_
  rintro ex w7 ⟨rfl, d7, q7, s7, p7, rfl⟩
  have G7 := hidIt (G6.out.sym (a := 0) (m := 40) (b := n) (bs' := []) HN'.out (by omega) (by omega) (by omega) (by omega) (by simp) (by simp) (by simp) s7 p7)
  clear s7 p7
  go_wp2_with fail
  rw [rounds_succ]
  go_wp2
  go_end0
  exact ⟨rfl, d7, q7, (G7.out.blocks (0, n) (by simp)).1, G7.out.perm, rfl⟩

end Go.Proofs.YtlpkaelgeeecoaaDoor
