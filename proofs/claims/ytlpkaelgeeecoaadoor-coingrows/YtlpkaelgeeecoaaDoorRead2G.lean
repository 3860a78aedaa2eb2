/-
  coin.Read by contracts.
-/
import Derived.Test.YtlpkaelgeeecoaaDoorReadG
namespace Go.Proofs.YtlpkaelgeeecoaaDoor
open Go.RowKit Go.Extern.Stop Go.Stop Go.Extern

/-- What a fault that was made anew looks like. -/
def IsFault (w w' : World) (e : Ending) (pos : Int) (a : Addr) : Prop :=
  ∃ blk : Nat, e = .returned (.tuple #[.int .i64 0, .iface 56 (.pointer (some ⟨blk, 0, none⟩))]) ∧ Below w.heap.size w w' ∧ w.heap.size ≤ blk ∧
    w'.cell? ⟨blk, 0, none⟩ = some (.int .i64 pos) ∧ w'.cell? ⟨blk, 0 + 1, none⟩ = some (.iface 157 (.pointer (some a)))

structure Cut (s b : ByteArray) (neg : Bool) (ahead : Nat) : Prop where
  calls : ∀ w, Calls Tryd.prog 24 #[.string s, .string ⟨#[45]⟩] w fun e w' => e = .returned (.tuple #[.string b, .bool neg]) ∧ w' = w
  size : s.size = ahead + b.size
  small : s.size ≤ 3000

theorem cell_below {w w' : World} {g : Nat} {v : Value} (h : w.cell? ⟨g, 0, none⟩ = some v) (hb : Below w.heap.size w w') : w'.cell? ⟨g, 0, none⟩ = some v := by
  have hlt : g < w.heap.size := by
    rcases Nat.lt_or_ge g w.heap.size with k | k
    · exact k
    · simp [World.cell?, Array.getElem?_eq_none k] at h
  rw [hb.cell (p := ⟨g, 0, none⟩) hlt]; exact h

theorem bl_ext (s : ByteArray) (x y : Nat) : bl (s.extract x y) = ((bl s).drop x).take (y - x) := Lib.extract_data s x y
theorem ext_size (s : ByteArray) (x y : Nat) : (s.extract x y).size ≤ s.size := by
  rw [← size_bl, ← size_bl s, bl_ext]
  simp; omega

theorem gl_head : ∀ (l : List UInt8) (g : Nat) (t : List Nat), gl l = g :: t → g ≤ l.length
  | [], g, t, e => by cases e; simp
  | c :: r, g, t, e => by
    obtain ⟨g1, t1, e1⟩ : ∃ g1 t1, gl r = g1 :: t1 := by
      cases h : gl r with
      | nil => exact absurd h (gl_ne r)
      | cons a b => exact ⟨a, b, rfl⟩
    have := gl_head r g1 t1 e1
    unfold gl at e
    split at e
    · cases e; simp
    · rw [e1] at e
      cases e
      simp; omega
theorem wf_le (l : List UInt8) : wf l ≤ l.length ∧ -1 ≤ wf l := by
  cases l with
  | nil => simp [wf]
  | cons c r =>
    obtain ⟨g, t, e⟩ : ∃ g t, gl (c :: r) = g :: t := by
      cases h : gl (c :: r) with
      | nil => exact absurd h (gl_ne _)
      | cons a b => exact ⟨a, b, rfl⟩
    have h1 := gl_head _ g t e
    rw [wf_cons rfl e]
    (repeat' split) <;> omega

theorem fault_mk {w w3 : World} (hb : Below w.heap.size w w3) (pos : Int) (a : Addr) :
    IsFault w (w3.alloc (.cells #[.int .i64 pos, .iface 157 (.pointer (some a))] 58)).drew (.returned (.tuple #[.int .i64 0, .iface 56 (.pointer (some ⟨w3.heap.size, 0, none⟩))])) pos a :=
  ⟨w3.heap.size, rfl, (hb.alloc hb.size _).drew, hb.size, by simp, by simp⟩

theorem take_run (p : UInt8 → Bool) : ∀ l : List UInt8, l.take (runLen p l) = l.takeWhile p
  | [] => rfl
  | c :: r => by
    have := take_run p r
    unfold runLen at this ⊢
    by_cases h : p c = true
    · rw [List.takeWhile_cons_of_pos h, List.length_cons, List.take_succ_cons, this]
    · rw [List.takeWhile_cons_of_neg h]; rfl
theorem all_run (p : UInt8 → Bool) : ∀ (l : List UInt8) c, c ∈ l.takeWhile p → p c = true
  | [], c, h => by simp at h
  | x :: r, c, h => by
    by_cases hx : p x = true
    · rw [List.takeWhile_cons_of_pos hx] at h
      rcases List.mem_cons.1 h with rfl | h
      · exact hx
      · exact all_run p r c h
    · rw [List.takeWhile_cons_of_neg hx] at h; cases h
theorem bl_whole (b : ByteArray) : bl (b.extract 0 (runLen isW (bl b))) = (bl b).takeWhile isW := by
  rw [bl_ext]; simp [take_run]
theorem w_asc {c : UInt8} (h : isW c = true) : c.toNat < 128 := by
  by_cases hd : isDg c = true
  · have := dg_bd hd; omega
  · rw [w_not h hd]; decide
theorem asc_of (x : ByteArray) (h : ∀ c, c ∈ bl x → c.toNat < 128) : ∀ (k : Nat) (hk : k < x.size), (x[k]'hk).toNat < 128 :=
  fun k hk => h _ (List.mem_of_getElem? (bl_get x k hk))
theorem asc_whole (b : ByteArray) : ∀ (k : Nat) (hk : k < (b.extract 0 (runLen isW (bl b))).size), ((b.extract 0 (runLen isW (bl b)))[k]'hk).toNat < 128 :=
  asc_of _ fun c hc => w_asc (all_run isW (bl b) c (by rw [← bl_whole]; exact hc))

theorem run_all_of (p : UInt8 → Bool) (l : List UInt8) (h : l.length ≤ runLen p l) : ∀ c, c ∈ l → p c = true := fun c hc => by
  have h1 := take_run p l
  rw [List.take_of_length_le h] at h1
  exact all_run p l c (by rw [← h1]; exact hc)
theorem cf_le (l : List UInt8) : -1 ≤ cf l ∧ cf l ≤ 3 := by
  unfold cf
  split
  · omega
  · (repeat' split) <;> omega
theorem cf_fine {l : List UInt8} (h : cf l < 0) : l = [] ∨ ∃ r, l = 46 :: r ∧ r.length = 2 ∧ ∀ c, c ∈ r → isDg c = true := by
  unfold cf at h
  split at h
  · exact .inl rfl
  · rename_i c r
    split at h
    · omega
    · rename_i hc
      split at h
      · rename_i h2
        refine .inr ⟨r, by rw [Decidable.not_not.1 hc], h2.2, run_all_of isDg r (by omega)⟩
      · omega
theorem asc_cents (x : ByteArray) (h : cf (bl x) < 0) : ∀ (k : Nat) (hk : k < x.size), (x[k]'hk).toNat < 128 :=
  asc_of _ fun c hc => by
    rcases cf_fine h with e | ⟨r, e, _, hr⟩
    · rw [e] at hc; cases hc
    · rw [e] at hc
      rcases List.mem_cons.1 hc with rfl | h
      · decide
      · have := dg_bd (hr c h); omega

set_option maxHeartbeats 2000000 in
theorem read_whole (s b : ByteArray) (neg : Bool) (ahead : Nat) (C : Cut s b neg ahead) (m : Int) (a : Addr) (w : World) (hm : w.cell? ⟨13, 0, none⟩ = some (.int .i64 m)) (ht : w.cell? ⟨0, 0, none⟩ = some (.iface 157 (.pointer (some a))))
    (hw : 0 ≤ wf (bl (b.extract 0 (runLen isW (bl b))))) :
    Calls Tryd.prog 10 #[.string s] w fun e w' => IsFault w w' e (ahead + wf (bl (b.extract 0 (runLen isW (bl b))))) a := by
  have hsz := C.size
  have hsm := C.small
  have hle : runLen isW (bl b) ≤ b.size := by rw [← size_bl]; exact runLen_le _ _
  have HW1 := hidIt (fun w => wholeEnd_any b w)
  have HC := hidIt C
  have hxs : (b.extract 0 (runLen isW (bl b))).size ≤ 3000 := by
    have := ext_size b 0 (runLen isW (bl b))
    omega
  have hys : (b.extract (runLen isW (bl b)) b.size).size ≤ 3000 := by
    have := ext_size b (runLen isW (bl b)) b.size
    omega
  have HW2 := hidIt (fun w' hm' => wholeFault_any (b.extract 0 (runLen isW (bl b))) m w' hxs hm')
  have HW3 := hidIt (fun w' => centsFault_any (b.extract (runLen isW (bl b)) b.size) w' hys)
  have HW4 := hidIt (fun w' => worth_any (b.extract 0 (runLen isW (bl b))) w' (asc_whole b))
  have HM := hidIt hm
  have HT := hidIt ht
  clear C hm ht hxs hys
  have wbd : wf (bl (b.extract 0 (runLen isW (bl b)))) ≤ 3000 := by
    have h1 := (wf_le (bl (b.extract 0 (runLen isW (bl b))))).1
    rw [size_bl] at h1
    have := ext_size b 0 (runLen isW (bl b))
    omega
  have cbd := (cf_le (bl (b.extract (runLen isW (bl b)) b.size))).2
  generalize hv : wf (bl (b.extract 0 (runLen isW (bl b)))) = v at *
  generalize hu : cf (bl (b.extract (runLen isW (bl b)) b.size)) = u at *
  clear hv hu
  generalize runLen isW (bl b) = e at *
  go_enter Tryd.func10, Tryd.ntmps10
  go_wp2_with fail
  refine (HC.out.calls _).mono ?_
  rintro ee w1 ⟨rfl, rfl⟩
  go_wp2_with fail
  refine (HW1.out _).mono ?_
  rintro ee w2 ⟨rfl, hb2⟩
  have HB2 := hidIt hb2
  clear hb2
  go_wp2_with fail
  go_quiet (fail)
  go_wp2_with fail
  refine (HW2.out _ (cell_below HM.out (bdrewN HB2.out nq))).mono ?_
  rintro ee w3 ⟨rfl, hb3⟩
  have HB3 := hidIt (HB2.out.trans (((bdrewN (Below.refl _ _) nq).trans hb3).mono HB2.out.size))
  have ht3 := cell_below HT.out HB3.out
  clear hb3
  go_wp2_with fail
  go_region
  go_wp2
  go_ret2
  exact fault_mk HB3.out _ _

set_option maxHeartbeats 2000000 in
theorem read_cents (s b : ByteArray) (neg : Bool) (ahead : Nat) (C : Cut s b neg ahead) (m : Int) (a : Addr) (w : World) (hm : w.cell? ⟨13, 0, none⟩ = some (.int .i64 m)) (ht : w.cell? ⟨0, 0, none⟩ = some (.iface 157 (.pointer (some a))))
    (hw : wf (bl (b.extract 0 (runLen isW (bl b)))) < 0) (hc : 0 ≤ cf (bl (b.extract (runLen isW (bl b)) b.size))) :
    Calls Tryd.prog 10 #[.string s] w fun e w' => IsFault w w' e (ahead + runLen isW (bl b) + cf (bl (b.extract (runLen isW (bl b)) b.size))) a := by
  have hsz := C.size
  have hsm := C.small
  have hle : runLen isW (bl b) ≤ b.size := by rw [← size_bl]; exact runLen_le _ _
  have HW1 := hidIt (fun w => wholeEnd_any b w)
  have HC := hidIt C
  have hxs : (b.extract 0 (runLen isW (bl b))).size ≤ 3000 := by
    have := ext_size b 0 (runLen isW (bl b))
    omega
  have hys : (b.extract (runLen isW (bl b)) b.size).size ≤ 3000 := by
    have := ext_size b (runLen isW (bl b)) b.size
    omega
  have HW2 := hidIt (fun w' hm' => wholeFault_any (b.extract 0 (runLen isW (bl b))) m w' hxs hm')
  have HW3 := hidIt (fun w' => centsFault_any (b.extract (runLen isW (bl b)) b.size) w' hys)
  have HW4 := hidIt (fun w' => worth_any (b.extract 0 (runLen isW (bl b))) w' (asc_whole b))
  have HM := hidIt hm
  have HT := hidIt ht
  clear C hm ht hxs hys
  have wbd : wf (bl (b.extract 0 (runLen isW (bl b)))) ≤ 3000 := by
    have h1 := (wf_le (bl (b.extract 0 (runLen isW (bl b))))).1
    rw [size_bl] at h1
    have := ext_size b 0 (runLen isW (bl b))
    omega
  have cbd := (cf_le (bl (b.extract (runLen isW (bl b)) b.size))).2
  generalize hv : wf (bl (b.extract 0 (runLen isW (bl b)))) = v at *
  generalize hu : cf (bl (b.extract (runLen isW (bl b)) b.size)) = u at *
  clear hv hu
  generalize runLen isW (bl b) = e at *
  go_enter Tryd.func10, Tryd.ntmps10
  go_wp2_with fail
  refine (HC.out.calls _).mono ?_
  rintro ee w1 ⟨rfl, rfl⟩
  go_wp2_with fail
  refine (HW1.out _).mono ?_
  rintro ee w2 ⟨rfl, hb2⟩
  have HB2 := hidIt hb2
  clear hb2
  go_wp2_with fail
  go_quiet (fail)
  go_wp2_with fail
  refine (HW2.out _ (cell_below HM.out (bdrewN HB2.out nq))).mono ?_
  rintro ee w3 ⟨rfl, hb3⟩
  have HB3 := hidIt (HB2.out.trans (((bdrewN (Below.refl _ _) nq).trans hb3).mono HB2.out.size))
  have ht3 := cell_below HT.out HB3.out
  clear hb3
  go_wp2_with fail
  refine (HW3.out _).mono ?_
  rintro ee w4 ⟨rfl, hb4⟩
  have HB4 := hidIt (HB3.out.trans (hb4.mono HB3.out.size))
  have ht4 := cell_below HT.out HB4.out
  clear hb4
  go_wp2_with fail
  go_region
  go_wp2
  go_ret2
  exact fault_mk HB4.out _ _

set_option maxHeartbeats 2000000 in
theorem read_great (s b : ByteArray) (neg : Bool) (ahead : Nat) (C : Cut s b neg ahead) (m : Int) (a : Addr) (w : World) (hm : w.cell? ⟨13, 0, none⟩ = some (.int .i64 m)) (ht : w.cell? ⟨1, 0, none⟩ = some (.iface 157 (.pointer (some a))))
    (hw : wf (bl (b.extract 0 (runLen isW (bl b)))) < 0) (hc : cf (bl (b.extract (runLen isW (bl b)) b.size)) < 0) (hn : 1000000000000 < (pv (bl (b.extract 0 (runLen isW (bl b)))) * 100 + pv (bl (b.extract (runLen isW (bl b)) b.size)))) :
    Calls Tryd.prog 10 #[.string s] w fun e w' => IsFault w w' e 0 a := by
  have hsz := C.size
  have hsm := C.small
  have hle : runLen isW (bl b) ≤ b.size := by rw [← size_bl]; exact runLen_le _ _
  have HW1 := hidIt (fun w => wholeEnd_any b w)
  have HC := hidIt C
  have hxs : (b.extract 0 (runLen isW (bl b))).size ≤ 3000 := by
    have := ext_size b 0 (runLen isW (bl b))
    omega
  have hys : (b.extract (runLen isW (bl b)) b.size).size ≤ 3000 := by
    have := ext_size b (runLen isW (bl b)) b.size
    omega
  have HW2 := hidIt (fun w' hm' => wholeFault_any (b.extract 0 (runLen isW (bl b))) m w' hxs hm')
  have HW3 := hidIt (fun w' => centsFault_any (b.extract (runLen isW (bl b)) b.size) w' hys)
  have HW4 := hidIt (fun w' => worth_any (b.extract 0 (runLen isW (bl b))) w' (asc_whole b))
  have HM := hidIt hm
  have HT := hidIt ht
  clear C hm ht hxs hys
  have wbd : wf (bl (b.extract 0 (runLen isW (bl b)))) ≤ 3000 := by
    have h1 := (wf_le (bl (b.extract 0 (runLen isW (bl b))))).1
    rw [size_bl] at h1
    have := ext_size b 0 (runLen isW (bl b))
    omega
  have cbd := (cf_le (bl (b.extract (runLen isW (bl b)) b.size))).2
  have HW5 := hidIt (fun w' => worth_any (b.extract (runLen isW (bl b)) b.size) w' (asc_cents _ hc))
  obtain ⟨q1, q2⟩ := pv_le (bl (b.extract 0 (runLen isW (bl b))))
  obtain ⟨q3, q4⟩ := pv_le (bl (b.extract (runLen isW (bl b)) b.size))
  generalize hp1 : pv (bl (b.extract 0 (runLen isW (bl b)))) = x at *
  generalize hp2 : pv (bl (b.extract (runLen isW (bl b)) b.size)) = y at *
  clear hp1 hp2
  generalize hv : wf (bl (b.extract 0 (runLen isW (bl b)))) = v at *
  generalize hu : cf (bl (b.extract (runLen isW (bl b)) b.size)) = u at *
  clear hv hu
  generalize runLen isW (bl b) = e at *
  go_enter Tryd.func10, Tryd.ntmps10
  go_wp2_with fail
  refine (HC.out.calls _).mono ?_
  rintro ee w1 ⟨rfl, rfl⟩
  go_wp2_with fail
  refine (HW1.out _).mono ?_
  rintro ee w2 ⟨rfl, hb2⟩
  have HB2 := hidIt hb2
  clear hb2
  go_wp2_with fail
  go_quiet (fail)
  go_wp2_with fail
  refine (HW2.out _ (cell_below HM.out (bdrewN HB2.out nq))).mono ?_
  rintro ee w3 ⟨rfl, hb3⟩
  have HB3 := hidIt (HB2.out.trans (((bdrewN (Below.refl _ _) nq).trans hb3).mono HB2.out.size))
  have ht3 := cell_below HT.out HB3.out
  clear hb3
  go_wp2_with fail
  refine (HW3.out _).mono ?_
  rintro ee w4 ⟨rfl, hb4⟩
  have HB4 := hidIt (HB3.out.trans (hb4.mono HB3.out.size))
  clear hb4
  go_wp2_with fail
  refine (HW4.out _).mono ?_
  rintro ee w5 ⟨rfl, hb5⟩
  have HB5 := hidIt (HB4.out.trans (hb5.mono HB4.out.size))
  clear hb5
  go_wp2_with fail
  refine (HW5.out _).mono ?_
  rintro ee w6 ⟨rfl, hb6⟩
  have HB6 := hidIt (HB5.out.trans (hb6.mono HB5.out.size))
  have ht6 := cell_below HT.out HB6.out
  clear hb6
  go_wp2_with fail
  go_region
  go_wp2
  go_ret2
  exact fault_mk HB6.out _ _

set_option maxHeartbeats 2000000 in
theorem read_fine (s b : ByteArray) (neg : Bool) (ahead : Nat) (C : Cut s b neg ahead) (m : Int) (a : Addr) (w : World) (hm : w.cell? ⟨13, 0, none⟩ = some (.int .i64 m)) (ht : w.cell? ⟨1, 0, none⟩ = some (.iface 157 (.pointer (some a))))
    (hw : wf (bl (b.extract 0 (runLen isW (bl b)))) < 0) (hc : cf (bl (b.extract (runLen isW (bl b)) b.size)) < 0) (hn : (pv (bl (b.extract 0 (runLen isW (bl b)))) * 100 + pv (bl (b.extract (runLen isW (bl b)) b.size))) ≤ 1000000000000) :
    Calls Tryd.prog 10 #[.string s] w fun e w' => e = .returned (.tuple #[.int .i64 (if neg then -(pv (bl (b.extract 0 (runLen isW (bl b)))) * 100 + pv (bl (b.extract (runLen isW (bl b)) b.size))) else (pv (bl (b.extract 0 (runLen isW (bl b)))) * 100 + pv (bl (b.extract (runLen isW (bl b)) b.size)))), .nilIface]) ∧ Below w.heap.size w w' := by
  have hsz := C.size
  have hsm := C.small
  have hle : runLen isW (bl b) ≤ b.size := by rw [← size_bl]; exact runLen_le _ _
  have HW1 := hidIt (fun w => wholeEnd_any b w)
  have HC := hidIt C
  have hxs : (b.extract 0 (runLen isW (bl b))).size ≤ 3000 := by
    have := ext_size b 0 (runLen isW (bl b))
    omega
  have hys : (b.extract (runLen isW (bl b)) b.size).size ≤ 3000 := by
    have := ext_size b (runLen isW (bl b)) b.size
    omega
  have HW2 := hidIt (fun w' hm' => wholeFault_any (b.extract 0 (runLen isW (bl b))) m w' hxs hm')
  have HW3 := hidIt (fun w' => centsFault_any (b.extract (runLen isW (bl b)) b.size) w' hys)
  have HW4 := hidIt (fun w' => worth_any (b.extract 0 (runLen isW (bl b))) w' (asc_whole b))
  have HM := hidIt hm
  have HT := hidIt ht
  clear C hm ht hxs hys
  have wbd : wf (bl (b.extract 0 (runLen isW (bl b)))) ≤ 3000 := by
    have h1 := (wf_le (bl (b.extract 0 (runLen isW (bl b))))).1
    rw [size_bl] at h1
    have := ext_size b 0 (runLen isW (bl b))
    omega
  have cbd := (cf_le (bl (b.extract (runLen isW (bl b)) b.size))).2
  cases neg
  all_goals
    have HW5 := hidIt (fun w' => worth_any (b.extract (runLen isW (bl b)) b.size) w' (asc_cents _ hc))
    obtain ⟨q1, q2⟩ := pv_le (bl (b.extract 0 (runLen isW (bl b))))
    obtain ⟨q3, q4⟩ := pv_le (bl (b.extract (runLen isW (bl b)) b.size))
    generalize hp1 : pv (bl (b.extract 0 (runLen isW (bl b)))) = x at *
    generalize hp2 : pv (bl (b.extract (runLen isW (bl b)) b.size)) = y at *
    clear hp1 hp2
    generalize hv : wf (bl (b.extract 0 (runLen isW (bl b)))) = v at *
    generalize hu : cf (bl (b.extract (runLen isW (bl b)) b.size)) = u at *
    clear hv hu
    generalize runLen isW (bl b) = e at *
    go_enter Tryd.func10, Tryd.ntmps10
    go_wp2_with fail
    refine (HC.out.calls _).mono ?_
    rintro ee w1 ⟨rfl, rfl⟩
    go_wp2_with fail
    refine (HW1.out _).mono ?_
    rintro ee w2 ⟨rfl, hb2⟩
    have HB2 := hidIt hb2
    clear hb2
    go_wp2_with fail
    go_quiet (fail)
    go_wp2_with fail
    refine (HW2.out _ (cell_below HM.out (bdrewN HB2.out nq))).mono ?_
    rintro ee w3 ⟨rfl, hb3⟩
    have HB3 := hidIt (HB2.out.trans (((bdrewN (Below.refl _ _) nq).trans hb3).mono HB2.out.size))
    have ht3 := cell_below HT.out HB3.out
    clear hb3
    go_wp2_with fail
    refine (HW3.out _).mono ?_
    rintro ee w4 ⟨rfl, hb4⟩
    have HB4 := hidIt (HB3.out.trans (hb4.mono HB3.out.size))
    clear hb4
    go_wp2_with fail
    refine (HW4.out _).mono ?_
    rintro ee w5 ⟨rfl, hb5⟩
    have HB5 := hidIt (HB4.out.trans (hb5.mono HB4.out.size))
    clear hb5
    go_wp2_with fail
    refine (HW5.out _).mono ?_
    rintro ee w6 ⟨rfl, hb6⟩
    have HB6 := hidIt (HB5.out.trans (hb6.mono HB5.out.size))
    have ht6 := cell_below HT.out HB6.out
    clear hb6
    go_wp2_with fail
    go_ret2
    exact ⟨rfl, HB6.out⟩

end Go.Proofs.YtlpkaelgeeecoaaDoor
