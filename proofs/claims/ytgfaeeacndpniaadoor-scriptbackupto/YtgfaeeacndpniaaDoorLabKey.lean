/-
  The key of a label; the order of labels is that of their keys. No program.
-/
import Derived.Test.YtgfaeeacndpniaaDoorLabPlain
namespace Go.Proofs.YtgfaeeacndpniaaDoor
open Go.Lib

theorem bl_extract (s : ByteArray) (a b : Nat) : bl (s.extract a b) = ((bl s).take b).drop a := by
  show (s.extract a b).data.toList = _
  rw [ByteArray.data_extract, List.drop_take]
  simp [bl]
theorem bl_stem (s : ByteArray) (k : Nat) : bl (s.extract 0 k) = (bl s).take k := by rw [bl_extract]; rfl
theorem bl_caps (s : ByteArray) (k : Nat) : bl (s.extract k s.size) = (bl s).drop k := by
  rw [bl_extract, ← size_bl s, List.take_length]
theorem mem_take {s : ByteArray} {k : Nat} {c : UInt8} (h : c ∈ (bl s).take k) : ∃ (i : Nat) (hi : i < s.size), i < k ∧ c = s[i] := by
  obtain ⟨i, hi⟩ := List.mem_iff_getElem?.1 h
  rw [List.getElem?_take] at hi
  by_cases hk : i < k
  · rw [if_pos hk] at hi
    have hl := (List.getElem?_eq_some_iff.1 hi).1
    rw [size_bl] at hl
    rw [bl_get s i hl] at hi
    exact ⟨i, hl, hk, (Option.some.inj hi).symm⟩
  · rw [if_neg hk] at hi; cases hi
theorem mem_drop {s : ByteArray} {k : Nat} {c : UInt8} (h : c ∈ (bl s).drop k) : ∃ (i : Nat) (hi : i < s.size), k ≤ i ∧ c = s[i] := by
  obtain ⟨i, hi⟩ := List.mem_iff_getElem?.1 h
  rw [List.getElem?_drop] at hi
  have hl := (List.getElem?_eq_some_iff.1 hi).1
  rw [size_bl] at hl
  rw [bl_get s (k + i) hl] at hi
  exact ⟨k + i, hl, by omega, (Option.some.inj hi).symm⟩
theorem Lab.nz1 {s : ByteArray} {k : Nat} {l : Bool} (h : Lab s k l) : Nz ((bl s).take k) := fun c hc => by
  obtain ⟨i, hi, hk, rfl⟩ := mem_take hc
  have := h.byte i hi
  omega
theorem Lab.nz2 {s : ByteArray} {k : Nat} {l : Bool} (h : Lab s k l) : Nz ((bl s).drop k) := fun c hc => by
  obtain ⟨i, hi, hk, rfl⟩ := mem_drop hc
  have := h.byte i hi
  omega
theorem Lab.dig {s : ByteArray} {k : Nat} (h : Lab s k false) : ∀ c ∈ (bl s).take k, dgN c.toNat = true := fun c hc => by
  obtain ⟨i, hi, hk, rfl⟩ := mem_take hc
  have := h.byte i hi
  refine dgN_iff.2 ?_
  simp at this
  omega
theorem Lab.first {s : ByteArray} {k : Nat} (h : Lab s k false) : ∀ c t, (bl s).take k = c :: t → 49 ≤ c.toNat := fun c t e => by
  have hc : c ∈ (bl s).take k := by rw [e]; exact List.mem_cons_self ..
  have h0 : 0 < s.size := by have := h.k1; have := h.ks; omega
  have h1 : ((bl s).take k)[0]? = some c := by rw [e]; rfl
  rw [List.getElem?_take, if_pos (by have := h.k1; omega), bl_get s 0 h0] at h1
  have hcs := Option.some.inj h1
  have hd := dgN_iff.1 (h.dig c hc)
  rcases h.stem with ⟨_, _, hz⟩ | ⟨hl, _⟩
  · have := hz h0
    rw [hcs] at this
    omega
  · cases hl
def keyOf (s : ByteArray) (k : Nat) (l : Bool) : Nat := (if l then 281474976710656 else 0) + vb ((bl s).take k) * 65536 + vb ((bl s).drop k) + 1
noncomputable def labK (s : ByteArray) : Nat := open Classical in if h : ∃ k l, Lab s k l then keyOf s h.choose h.choose_spec.choose else 0
theorem labK_eq {s : ByteArray} {k : Nat} {l : Bool} (h : Lab s k l) : labK s = keyOf s k l := by
  have hx : ∃ k l, Lab s k l := ⟨k, l, h⟩
  unfold labK
  rw [dif_pos hx]
  obtain ⟨e1, e2⟩ := (hx.choose_spec.choose_spec).uniq h
  rw [e2, e1]
theorem labK_no {s : ByteArray} (h : ¬ ∃ k l, Lab s k l) : labK s = 0 := by unfold labK; rw [dif_neg h]
theorem Lab.bd {s : ByteArray} {k : Nat} {l : Bool} (h : Lab s k l) : vb ((bl s).take k) < 4294967296 ∧ vb ((bl s).drop k) < 65536 := by
  constructor
  · have h1 := vb_lt ((bl s).take k)
    have h2 : 256 ^ ((bl s).take k).length ≤ 256 ^ 4 := Nat.pow_le_pow_right (by decide) (by rw [List.length_take]; have := h.k4; omega)
    have : 256 ^ 4 = 4294967296 := by decide
    omega
  · have h1 := vb_lt ((bl s).drop k)
    have h2 : 256 ^ ((bl s).drop k).length ≤ 256 ^ 2 := Nat.pow_le_pow_right (by decide) (by rw [List.length_drop, size_bl]; have := h.kc; omega)
    have : 256 ^ 2 = 65536 := by decide
    omega
noncomputable def lessB (a b : ByteArray) : Bool := decide (0 < labK a ∧ 0 < labK b ∧ labK a < labK b)
theorem key_diff {a b : ByteArray} {k k' : Nat} {l l' : Bool} (ha : Lab a k l) (hb : Lab b k' l') (h : l ≠ l') : lessB a b = l' := by
  obtain ⟨a1, a2⟩ := ha.bd
  obtain ⟨b1, b2⟩ := hb.bd
  unfold lessB
  rw [labK_eq ha, labK_eq hb]
  unfold keyOf
  cases l <;> cases l' <;> simp at h ⊢ <;> omega
theorem key_same {a b : ByteArray} {k k' : Nat} {l : Bool} (ha : Lab a k l) (hb : Lab b k' l) (c1 c2 c : Int) (h1 : IsCmp c1 ((bl a).take k) ((bl b).take k')) (h2 : IsCmp c2 ((bl a).drop k) ((bl b).drop k')) (hc : (c1 ≠ 0 ∧ c = c1) ∨ (c1 = 0 ∧ c = c2)) : lessB a b = decide (c < 0) := by
  obtain ⟨a1, a2⟩ := ha.bd
  obtain ⟨b1, b2⟩ := hb.bd
  obtain ⟨i1, i2⟩ := h1
  obtain ⟨j1, j2⟩ := h2
  unfold lessB
  rw [labK_eq ha, labK_eq hb]
  unfold keyOf
  rw [decide_eq_decide]
  rcases hc with ⟨n0, rfl⟩ | ⟨n0, rfl⟩
  · have : vb ((bl a).take k) ≠ vb ((bl b).take k') := fun e => n0 (i2.2 e)
    constructor
    · rintro ⟨_, _, h⟩; exact i1.2 (by omega)
    · intro h; have := i1.1 h; omega
  · have := i2.1 n0
    constructor
    · rintro ⟨_, _, h⟩; exact j1.2 (by omega)
    · intro h; have := j1.1 h; omega
theorem key_dec {a b : ByteArray} {k k' : Nat} (ha : Lab a k false) (hb : Lab b k' false) : (vd ((bl a).take k) ≠ vd ((bl b).take k') → lessB a b = decide (vd ((bl a).take k) < vd ((bl b).take k'))) ∧ (vd ((bl a).take k) = vd ((bl b).take k') → IsCmp 0 ((bl a).take k) ((bl b).take k')) := by
  obtain ⟨i1, i2⟩ := dec_cmp ha.dig hb.dig ha.first hb.first
  refine ⟨fun hn => ?_, fun he => ?_⟩
  · have hne : vb ((bl a).take k) ≠ vb ((bl b).take k') := fun e => hn (i2.2 e)
    obtain ⟨a1, a2⟩ := ha.bd
    obtain ⟨b1, b2⟩ := hb.bd
    unfold lessB
    rw [labK_eq ha, labK_eq hb]
    unfold keyOf
    rw [decide_eq_decide]
    constructor
    · rintro ⟨_, _, h⟩; exact i1.2 (by omega)
    · intro h; have := i1.1 h; omega
  · have := i2.1 he
    exact ⟨by omega, by omega⟩
theorem labK_inj {a b : ByteArray} (ha : 0 < labK a) (hb : 0 < labK b) (h : labK a = labK b) : a = b := by
  have hx : ∃ k l, Lab a k l := Classical.byContradiction fun n => by rw [labK_no n] at ha; omega
  have hy : ∃ k l, Lab b k l := Classical.byContradiction fun n => by rw [labK_no n] at hb; omega
  obtain ⟨k, l, hx⟩ := hx
  obtain ⟨k', l', hy⟩ := hy
  rw [labK_eq hx, labK_eq hy] at h
  unfold keyOf at h
  obtain ⟨a1, a2⟩ := hx.bd
  obtain ⟨b1, b2⟩ := hy.bd
  have e1 : vb ((bl a).take k) = vb ((bl b).take k') := by cases l <;> cases l' <;> simp at h <;> omega
  have e2 : vb ((bl a).drop k) = vb ((bl b).drop k') := by cases l <;> cases l' <;> simp at h <;> omega
  have f1 := vb_inj hx.nz1 hy.nz1 e1
  have f2 := vb_inj hx.nz2 hy.nz2 e2
  have : bl a = bl b := by rw [← List.take_append_drop k (bl a), ← List.take_append_drop k' (bl b), f1, f2]
  exact ByteArray.ext (Array.toList_inj.1 this)
end Go.Proofs.YtgfaeeacndpniaaDoor
