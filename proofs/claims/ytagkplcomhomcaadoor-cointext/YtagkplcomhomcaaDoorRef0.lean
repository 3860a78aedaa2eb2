/-
  The reference's ReadCoin by contracts.
-/
import Derived.Test.YtagkplcomhomcaaDoorRead2
import Derived.Test.YtagkplcomhomcaaDoorPart
namespace Go.Proofs.YtagkplcomhomcaaDoor
open Go.RowKit Go.Extern.Stop Go.Stop Go.Extern

theorem refDig_any (c : UInt8) (w : World) : Calls Tryd.prog 31 #[.int .u8 c.toNat] w fun e w' => e = .returned (.bool (isDg c)) ∧ w' = w := by
  have hd := dg_low c
  unfold dgR at hd
  by_cases h0 : (48 : Int) ≤ c.toNat
  · have HE : Hid (isDg c = decide ((c.toNat : Int) ≤ 57)) := by show _ = _; rw [← hd]; simp [h0]
    have h1 : decide ((48 : Int) ≤ c.toNat) = true := by simpa using h0
    clear hd
    go_enter Tryd.func31, Tryd.ntmps31
    go_wp2
    go_ret
    exact ⟨ret_bool HE.out.symm, rfl⟩
  · have HE : Hid (isDg c = false) := by show _ = _; rw [← hd]; simp [h0]
    have h1 : decide ((48 : Int) ≤ c.toNat) = false := by simpa using h0
    clear hd
    go_enter Tryd.func31, Tryd.ntmps31
    go_wp2
    go_ret
    exact ⟨ret_bool HE.out.symm, rfl⟩

/-- What is cut off, byte by byte. -/
structure Off (s b : ByteArray) (neg : Bool) (ahead : Nat) : Prop where
  lead : ahead = if neg then 1 else 0
  bytes : bl b = (bl s).drop ahead
  sign : neg = true → ∃ h : 0 < s.size, s[0] = 45
  nosign : neg = false → ∀ h : 0 < s.size, s[0] ≠ 45
  size : s.size = ahead + b.size
  small : s.size ≤ 3000

def S0 : Scan := ⟨-1, 0, false, 0⟩
def sc (b : ByteArray) (ahead p : Nat) : Scan := scan S0 ahead ((bl b).take (p - ahead))

theorem off_byte {s b : ByteArray} {neg : Bool} {ahead : Nat} (O : Off s b neg ahead) (p : Nat) (h1 : ahead ≤ p) (h2 : p < s.size) : (bl b)[p - ahead]? = some s[p] := by
  rw [O.bytes, List.getElem?_drop, Nat.add_sub_cancel' h1, bl_get s p h2]
theorem sc_start (b : ByteArray) (ahead : Nat) : sc b ahead ahead = S0 := by simp [sc, scan]
theorem sc_step {s b : ByteArray} {neg : Bool} {ahead : Nat} (O : Off s b neg ahead) (p : Nat) (h1 : ahead ≤ p) (h2 : p < s.size) : sc b ahead (p + 1) = sstep (sc b ahead p) p s[p] := by
  have h3 := off_byte O p h1 h2
  have h4 : p - ahead < (bl b).length := by
    rcases Nat.lt_or_ge (p - ahead) (bl b).length with h | h
    · exact h
    · rw [List.getElem?_eq_none h] at h3; cases h3
  unfold sc
  rw [show p + 1 - ahead = (p - ahead) + 1 by omega, List.take_succ_eq_append_getElem h4, scan_snoc]
  rw [List.getElem?_eq_getElem h4] at h3
  rw [Option.some.inj h3, List.length_take, Nat.min_eq_left (by omega)]
  congr 1
  omega

/-- The scan stays within bounds. -/
theorem scan_bd : ∀ (l : List UInt8) (s : Scan) (p : Int), 0 ≤ p → -1 ≤ s.comma → s.comma ≤ p → 0 ≤ s.group → s.group ≤ p → 0 ≤ s.n → s.n ≤ 11258999068426250 →
    -1 ≤ (scan s p l).comma ∧ (scan s p l).comma ≤ p + l.length ∧ 0 ≤ (scan s p l).group ∧ (scan s p l).group ≤ p + l.length ∧ 0 ≤ (scan s p l).n ∧ (scan s p l).n ≤ 11258999068426250
  | [], s, p, h0, h1, h2, h3, h4, h5, h6 => by simp [scan]; omega
  | c :: r, s, p, h0, h1, h2, h3, h4, h5, h6 => by
    have ih := scan_bd r (sstep s p c) (p + 1) (by omega)
    rw [scan]
    have hc : -1 ≤ (sstep s p c).comma ∧ (sstep s p c).comma ≤ p + 1 ∧ 0 ≤ (sstep s p c).group ∧ (sstep s p c).group ≤ p + 1 ∧ 0 ≤ (sstep s p c).n ∧ (sstep s p c).n ≤ 11258999068426250 := by
      unfold sstep
      split
      · rename_i hd
        have := dg_bd hd
        simp only [rstep]
        split <;> omega
      · split <;> simp <;> omega
    have := ih hc.1 hc.2.1 hc.2.2.1 hc.2.2.2.1 hc.2.2.2.2.1 hc.2.2.2.2.2
    simp only [List.length_cons]
    omega
theorem sc_bd (b : ByteArray) (ahead p : Nat) (h : ahead ≤ p) :
    -1 ≤ (sc b ahead p).comma ∧ (sc b ahead p).comma ≤ p ∧ 0 ≤ (sc b ahead p).group ∧ (sc b ahead p).group ≤ p ∧ 0 ≤ (sc b ahead p).n ∧ (sc b ahead p).n ≤ 11258999068426250 := by
  have := scan_bd ((bl b).take (p - ahead)) S0 ahead (by omega) (by decide) (by show (-1 : Int) ≤ _; omega) (by decide) (by show (0 : Int) ≤ _; omega) (by decide) (by decide)
  have h2 : ((bl b).take (p - ahead)).length ≤ p - ahead := List.length_take_le _ _
  unfold sc
  omega
theorem w_at {s b : ByteArray} {neg : Bool} {ahead : Nat} (O : Off s b neg ahead) (p : Nat) (h1 : ahead ≤ p) (h2 : p < ahead + runLen isW (bl b)) : ∃ h : p < s.size, isW s[p] = true := by
  have hl : runLen isW (bl b) ≤ (bl b).length := runLen_le _ _
  have hs := O.size
  rw [size_bl] at hl
  have h3 : p < s.size := by omega
  refine ⟨h3, ?_⟩
  have h4 := off_byte O p h1 h3
  have h5 : ((bl b).take (runLen isW (bl b)))[p - ahead]? = some s[p] := by
    rw [List.getElem?_take_of_lt (by omega)]; exact h4
  rw [take_run] at h5
  exact all_run isW _ _ (List.mem_of_getElem? h5)

theorem run_stop (p : UInt8 → Bool) : ∀ (l : List UInt8) (c : UInt8), l[runLen p l]? = some c → p c = false
  | [], c, h => by simp [runLen] at h
  | x :: r, c, h => by
    by_cases hx : p x = true
    · have e : runLen p (x :: r) = runLen p r + 1 := by unfold runLen; rw [List.takeWhile_cons_of_pos hx]; rfl
      rw [e, List.getElem?_cons_succ] at h
      exact run_stop p r c h
    · have e : runLen p (x :: r) = 0 := by unfold runLen; rw [List.takeWhile_cons_of_neg hx]; rfl
      rw [e] at h
      simp at h
      subst h
      simpa using hx
theorem w_none {c : UInt8} (h : isW c = false) : isDg c = false ∧ (((c.toNat : Nat) : Int) != 44) = true := by
  simp [isW] at h
  refine ⟨h.1, ?_⟩
  have : c.toNat ≠ 44 := fun e => h.2 (UInt8.toNat_inj.1 e)
  simp; omega
theorem sstep_dig {c : UInt8} (h : isDg c = true) (c0 g0 : Int) (r0 : Bool) (n0 p : Int) : sstep ⟨c0, g0, r0, n0⟩ p c = ⟨c0, g0 + 1, r0, rstep n0 c⟩ := by simp [sstep, h]
theorem rstep_lo {n : Int} {c : UInt8} (h : n < 1125899906842624) : rstep n c = n * 10 + (c.toNat - 48) := by unfold rstep; rw [if_pos h]
theorem rstep_hi {n : Int} {c : UInt8} (h : ¬ n < 1125899906842624) : rstep n c = n := by unfold rstep; rw [if_neg h]
/-- At a place there is a byte of which a function tells so. -/
def At (s : ByteArray) (p : Nat) (f : UInt8 → Bool) (v : Bool) : Prop := ∃ h : p < s.size, f s[p] = v
def isDot (c : UInt8) : Bool := c == 46
theorem end_at {s b : ByteArray} {neg : Bool} {ahead : Nat} (O : Off s b neg ahead) (h : ahead + runLen isW (bl b) < s.size) : At s (ahead + runLen isW (bl b)) isW false := by
  have h1 := off_byte O (ahead + runLen isW (bl b)) (by omega) h
  rw [Nat.add_sub_cancel_left] at h1
  exact ⟨h, run_stop isW (bl b) _ h1⟩
theorem dot_no {c : UInt8} (h : isDot c = false) : (((c.toNat : Nat) : Int) != 46) = true := by
  have h1 : c ≠ 46 := by simpa [isDot] using h
  have : c.toNat ≠ 46 := fun e => h1 (UInt8.toNat_inj.1 e)
  simp; omega
theorem dot_yes {c : UInt8} (h : isDot c = true) : (((c.toNat : Nat) : Int) != 46) = false := by
  have h1 : c = 46 := by simpa [isDot] using h
  simp [h1]
theorem dot_w {c : UInt8} (h : isDot c = true) : isW c = false := by
  have h1 : c = 46 := by simpa [isDot] using h
  rw [h1]; decide
theorem sstep_first {c : UInt8} (h : isDg c = false) {c0 : Int} (hc : c0 < 0) (g0 : Int) (r0 : Bool) (n0 p : Int) : sstep ⟨c0, g0, r0, n0⟩ p c = ⟨p, 0, decide (3 < g0), n0⟩ := by simp [sstep, h, hc]
theorem sstep_later {c : UInt8} (h : isDg c = false) {c0 : Int} (hc : ¬ c0 < 0) (g0 : Int) (r0 : Bool) (n0 p : Int) : sstep ⟨c0, g0, r0, n0⟩ p c = ⟨c0, 0, r0 || g0 != 3, n0⟩ := by simp [sstep, h, hc]

theorem ret3 {n n' c a a' : Int} (h1 : n = n') (h2 : a = a') : Ending.returned (.tuple #[.int .i64 n, .agg #[.int .i64 c, .int .i64 a]]) = .returned (.tuple #[.int .i64 n', .agg #[.int .i64 c, .int .i64 a']]) := by rw [h1, h2]
end Go.Proofs.YtagkplcomhomcaaDoor
