/-
  Plans of cases, and how many steps there can be: plain, no program.
-/
import Derived.Test.YtpijiglmjkdlgaaDoorOrMem
namespace Go.Proofs.YtpijiglmjkdlgaaDoor

structure Mv where
  nm : ByteArray
  fr : ByteArray
  tt : ByteArray
  wh : ByteArray
  n : Int
  u : Int
  r : Int
  most : Int
structure Pn where
  start : ByteArray
  fin : List ByteArray
  mvs : List Mv
/-- All names of stages, as they come. -/
def Pn.names (p : Pn) : List ByteArray := p.start :: (p.fin ++ p.mvs.flatMap fun m => [m.fr, m.tt])
open Classical in
noncomputable def addS (l : List ByteArray) (s : ByteArray) : List ByteArray := if s ∈ l then l else l ++ [s]
noncomputable def onceL (l : List ByteArray) : List ByteArray := l.foldl addS []
/-- The stages, each once. -/
noncomputable def Pn.stL (p : Pn) : List ByteArray := onceL p.names
theorem addS_mem {l : List ByteArray} {s x : ByteArray} : x ∈ addS l s ↔ x ∈ l ∨ x = s := by
  unfold addS
  split
  · constructor
    · exact .inl
    · rintro (h | rfl)
      · exact h
      · assumption
  · simp
theorem addS_nodup {l : List ByteArray} {s : ByteArray} (h : l.Nodup) : (addS l s).Nodup := by
  unfold addS
  split
  · exact h
  · rename_i hn
    rw [List.nodup_append]
    refine ⟨h, by simp, fun a ha b hb => ?_⟩
    simp at hb
    subst hb
    intro e
    subst e
    exact hn ha
theorem fold_mem : ∀ (xs l : List ByteArray) (x : ByteArray), x ∈ xs.foldl addS l ↔ x ∈ l ∨ x ∈ xs
  | [], l, x => by simp
  | y :: xs, l, x => by
    rw [List.foldl_cons, fold_mem xs (addS l y) x, addS_mem]
    simp [or_assoc]
theorem fold_nodup : ∀ (xs l : List ByteArray), l.Nodup → (xs.foldl addS l).Nodup
  | [], l, h => h
  | y :: xs, l, h => by
    rw [List.foldl_cons]
    exact fold_nodup xs _ (addS_nodup h)
theorem mem_once {xs : List ByteArray} {x : ByteArray} : x ∈ onceL xs ↔ x ∈ xs := by
  unfold onceL
  rw [fold_mem]
  simp
theorem mem_stL {p : Pn} {x : ByteArray} : x ∈ p.stL ↔ x ∈ p.names := mem_once
theorem fr_in {p : Pn} {i : Nat} {m : Mv} (h : p.mvs[i]? = some m) : m.fr ∈ p.stL ∧ m.tt ∈ p.stL := by
  have hm := List.mem_of_getElem? h
  constructor <;> (rw [mem_stL]; unfold Pn.names; simp only [List.mem_cons, List.mem_append, List.mem_flatMap]; right; right; exact ⟨m, hm, by simp⟩)
theorem start_in (p : Pn) : p.start ∈ p.stL := by
  rw [mem_stL]
  unfold Pn.names
  simp
open Classical in
/-- Where a stage stands among all. -/
noncomputable def ixS (l : List ByteArray) (s : ByteArray) : Nat := l.findIdx fun x => decide (x = s)
theorem ixS_lt {l : List ByteArray} {s : ByteArray} (h : s ∈ l) : ixS l s < l.length := by
  unfold ixS
  exact List.findIdx_lt_length_of_exists ⟨s, h, by simp⟩
theorem ixS_at {l : List ByteArray} {s : ByteArray} (h : s ∈ l) : l[ixS l s]? = some s := by
  have hl := ixS_lt h
  rw [List.getElem?_eq_getElem hl]
  have := List.findIdx_getElem (w := hl) (p := fun x => decide (x = s))
  unfold ixS at hl ⊢
  simp only [decide_eq_true_eq] at this
  rw [this]
theorem ixS_inj {l : List ByteArray} {s t : ByteArray} (hs : s ∈ l) (ht : t ∈ l) (h : ixS l s = ixS l t) : s = t := by
  have h1 := ixS_at hs
  rw [h, ixS_at ht] at h1
  injection h1 with h1
  exact h1.symm
/-- The pairs of the moves that may be done any number of times. -/
noncomputable def Pn.free (p : Pn) : List (Int × Int) := (p.mvs.filter fun m => decide (m.most = 0)).map fun m => ((ixS p.stL m.fr : Int), (ixS p.stL m.tt : Int))
noncomputable def Pn.thy (p : Pn) : Thy := ⟨List.replicate p.stL.length (), p.free⟩
theorem thy_len (p : Pn) : p.thy.rules.length = p.stL.length := by simp [Pn.thy]
theorem free_len (p : Pn) : p.free.length ≤ p.mvs.length := by
  unfold Pn.free
  rw [List.length_map]
  exact List.length_filter_le _ _
theorem thy_ok {p : Pn} (h1 : p.stL.length ≤ 120) (h2 : p.mvs.length ≤ 120) : Okt p.thy := by
  refine ⟨by rw [thy_len]; exact h1, by have := free_len p; show p.free.length ≤ _; omega, fun a b hab => ?_⟩
  have hab : (a, b) ∈ p.free := hab
  unfold Pn.free at hab
  obtain ⟨m, hm, e⟩ := List.mem_map.1 hab
  obtain ⟨hm, _⟩ := List.mem_filter.1 hm
  obtain ⟨i, hi⟩ := List.getElem?_of_mem hm
  obtain ⟨g1, g2⟩ := fr_in hi
  have := ixS_lt g1
  have := ixS_lt g2
  rw [thy_len]
  injection e with e1 e2
  subst e1 e2
  omega
/-- A rank below the stages' number that rises along each free move. -/
theorem rank_of {p : Pn} (h : Ranked p.thy) : ∃ rk : ByteArray → Nat, (∀ s, s ∈ p.stL → rk s + 1 ≤ p.stL.length) ∧ ∀ (i : Nat) (m : Mv), p.mvs[i]? = some m → m.most = 0 → rk m.fr < rk m.tt := by
  obtain ⟨f, hf⟩ := h
  refine ⟨fun s => (p.stL.filter fun x => decide (f (ixS p.stL x) < f (ixS p.stL s))).length, fun s hs => ?_, fun i m hi h0 => ?_⟩
  · have h1 : (p.stL.filter fun x => decide (f (ixS p.stL x) < f (ixS p.stL s))).length < p.stL.length := by
      rw [← List.countP_eq_length_filter]
      refine Nat.lt_of_le_of_ne (List.countP_le_length) fun e => ?_
      have := List.countP_eq_length.1 e s hs
      simp at this
    exact h1
  · obtain ⟨g1, g2⟩ := fr_in hi
    have hlt : f (ixS p.stL m.fr) < f (ixS p.stL m.tt) := by
      refine hf _ _ ?_
      show ((ixS p.stL m.fr : Int), (ixS p.stL m.tt : Int)) ∈ p.free
      unfold Pn.free
      exact List.mem_map.2 ⟨m, List.mem_filter.2 ⟨List.mem_of_getElem? hi, by simp [h0]⟩, rfl⟩
    show (p.stL.filter _).length < (p.stL.filter _).length
    rw [← List.countP_eq_length_filter, ← List.countP_eq_length_filter]
    have key : ∀ (l : List ByteArray), m.fr ∈ l → l.countP (fun x => decide (f (ixS p.stL x) < f (ixS p.stL m.fr))) < l.countP (fun x => decide (f (ixS p.stL x) < f (ixS p.stL m.tt))) := by
      intro l
      induction l with
      | nil => intro h; cases h
      | cons y l ih =>
        intro hm
        have hle : l.countP (fun x => decide (f (ixS p.stL x) < f (ixS p.stL m.fr))) ≤ l.countP (fun x => decide (f (ixS p.stL x) < f (ixS p.stL m.tt))) := List.countP_mono_left fun x _ hx => by
          simp at hx ⊢
          omega
        rw [List.countP_cons, List.countP_cons]
        rcases List.mem_cons.1 hm with rfl | hm
        · have e1 : decide (f (ixS p.stL m.fr) < f (ixS p.stL m.fr)) = false := by simp
          have e2 : decide (f (ixS p.stL m.fr) < f (ixS p.stL m.tt)) = true := by simp [hlt]
          rw [e1, e2]
          simp
          omega
        · have := ih hm
          by_cases h1 : f (ixS p.stL y) < f (ixS p.stL m.fr)
          · have h2 : f (ixS p.stL y) < f (ixS p.stL m.tt) := by omega
            simp [h1, h2]
            omega
          · simp [h1]
            omega
    exact key p.stL g1
/-! How often each move was done. -/
def frS : List Mv → List Nat → Nat
  | m :: ms, t :: ts => (if m.most = 0 then t else 0) + frS ms ts
  | _, _ => 0
def liS : List Mv → List Nat → Nat
  | m :: ms, t :: ts => (if m.most = 0 then 0 else t) + liS ms ts
  | _, _ => 0
def lmS : List Mv → Int
  | [] => 0
  | m :: ms => m.most + lmS ms
theorem frS_set : ∀ (ms : List Mv) (ts : List Nat) (i : Nat) (m : Mv) (t : Nat), ms[i]? = some m → ts[i]? = some t → frS ms (ts.set i (t + 1)) = frS ms ts + (if m.most = 0 then 1 else 0) ∧ liS ms (ts.set i (t + 1)) = liS ms ts + (if m.most = 0 then 0 else 1)
  | [], _, _, _, _, h, _ => by simp at h
  | _ :: _, [], _, _, _, _, h => by simp at h
  | m' :: ms, t' :: ts, 0, m, t, h1, h2 => by
    obtain rfl : m' = m := by simpa using h1
    obtain rfl : t' = t := by simpa using h2
    simp only [List.set_cons_zero, frS, liS]
    by_cases h : m'.most = 0 <;> simp [h] <;> omega
  | m' :: ms, t' :: ts, i + 1, m, t, h1, h2 => by
    have := frS_set ms ts i m t (by simpa using h1) (by simpa using h2)
    simp only [List.set_cons_succ, frS, liS]
    omega
/-- As often as may be, and no more. -/
def Within (ms : List Mv) (ts : List Nat) : Prop := ∀ (i : Nat) (m : Mv) (t : Nat), ms[i]? = some m → ts[i]? = some t → m.most ≠ 0 → (t : Int) ≤ m.most
theorem liS_le : ∀ (ms : List Mv) (ts : List Nat), (∀ m ∈ ms, 0 ≤ m.most) → Within ms ts → (liS ms ts : Int) ≤ lmS ms
  | [], ts, _, _ => by simp [liS, lmS]
  | m :: ms, [], h, _ => by
    have h1 := liS_le ms [] (fun x hx => h x (List.mem_cons_of_mem _ hx)) (fun i m t _ ht => by simp at ht)
    have h2 := h m (by simp)
    have h3 : liS ms [] = 0 := by cases ms <;> rfl
    simp only [liS, lmS]
    omega
  | m :: ms, t :: ts, h, hw => by
    have h1 := liS_le ms ts (fun x hx => h x (List.mem_cons_of_mem _ hx)) (fun i m t hm ht => hw (i + 1) m t (by simpa using hm) (by simpa using ht))
    have h2 := h m (by simp)
    simp only [liS, lmS]
    by_cases h0 : m.most = 0
    · simp [h0]
      omega
    · have := hw 0 m t rfl rfl h0
      simp [h0]
      omega
theorem lmS_nonneg : ∀ ms : List Mv, (∀ m ∈ ms, 0 ≤ m.most) → 0 ≤ lmS ms
  | [], _ => by simp [lmS]
  | m :: ms, h => by
    have h1 := lmS_nonneg ms fun x hx => h x (List.mem_cons_of_mem _ hx)
    have h2 := h m (by simp)
    simp only [lmS]
    omega
/-- A case as it goes. -/
structure Run (p : Pn) (rk : ByteArray → Nat) (ts : List Nat) (stage : ByteArray) (done : Nat) : Prop where
  len : ts.length = p.mvs.length
  st : stage ∈ p.stL
  within : Within p.mvs ts
  sum : done = frS p.mvs ts + liS p.mvs ts
  free : frS p.mvs ts ≤ rk stage + liS p.mvs ts * (p.stL.length - 1)
theorem frS_zero : ∀ (ms : List Mv) (n : Nat), frS ms (List.replicate n 0) = 0 ∧ liS ms (List.replicate n 0) = 0
  | [], n => by cases n <;> exact ⟨rfl, rfl⟩
  | m :: ms, 0 => ⟨rfl, rfl⟩
  | m :: ms, n + 1 => by
    have := frS_zero ms n
    simp only [List.replicate_succ, frS, liS]
    split <;> omega
theorem Run.start (p : Pn) (rk : ByteArray → Nat) (hm : ∀ m ∈ p.mvs, 0 ≤ m.most) : Run p rk (List.replicate p.mvs.length 0) p.start 0 := by
  obtain ⟨h1, h2⟩ := frS_zero p.mvs p.mvs.length
  refine ⟨by simp, start_in p, fun i m t hi ht h0 => ?_, by omega, by omega⟩
  have h3 := hm m (List.mem_of_getElem? hi)
  rw [List.getElem?_replicate] at ht
  split at ht
  · injection ht with ht
    subst ht
    exact h3
  · cases ht
theorem Run.step {p : Pn} {rk : ByteArray → Nat} {ts : List Nat} {stage : ByteArray} {done i t : Nat} {m : Mv} (h : Run p rk ts stage done) (hr1 : ∀ s, s ∈ p.stL → rk s + 1 ≤ p.stL.length) (hr2 : ∀ (i : Nat) (m : Mv), p.mvs[i]? = some m → m.most = 0 → rk m.fr < rk m.tt)
    (hi : p.mvs[i]? = some m) (ht : ts[i]? = some t) (hf : m.fr = stage) (hm : m.most ≠ 0 → (t : Int) < m.most) : Run p rk (ts.set i (t + 1)) m.tt (done + 1) := by
  obtain ⟨g1, g2⟩ := frS_set p.mvs ts i m t hi ht
  have hs := h.sum
  have hfr := h.free
  have hst := hr1 stage h.st
  have hto := hr1 m.tt (fr_in hi).2
  refine ⟨by simp [h.len], (fr_in hi).2, fun j m' t' hm' ht' h0 => ?_, ?_, ?_⟩
  · by_cases hij : i = j
    · subst hij
      rw [hi] at hm'
      injection hm' with hm'
      subst hm'
      rw [List.getElem?_set_self (List.getElem?_eq_some_iff.1 ht).1] at ht'
      injection ht' with ht'
      subst ht'
      have := hm h0
      omega
    · rw [List.getElem?_set_ne hij] at ht'
      exact h.within j m' t' hm' ht' h0
  · rw [g1, g2]
    by_cases h0 : m.most = 0 <;> simp [h0] <;> omega
  · rw [g1, g2]
    by_cases h0 : m.most = 0
    · have := hr2 i m hi h0
      rw [hf] at this
      simp [h0]
      omega
    · simp [h0]
      rw [Nat.add_mul]
      omega
/-- NO MORE STEPS THAN THE LIMITED MOVES, AND THE STAGES BETWEEN THEM. -/
theorem Run.end {p : Pn} {rk : ByteArray → Nat} {ts : List Nat} {stage : ByteArray} {done : Nat} (h : Run p rk ts stage done) (hr1 : ∀ s, s ∈ p.stL → rk s + 1 ≤ p.stL.length) (hm : ∀ m ∈ p.mvs, 0 ≤ m.most) : (done : Int) ≤ lmS p.mvs + (lmS p.mvs + 1) * ((p.stL.length : Int) - 1) := by
  have h1 := liS_le p.mvs ts hm h.within
  have h2 := h.sum
  have h3 := h.free
  have h4 := hr1 stage h.st
  obtain ⟨n, hn⟩ : ∃ n : Nat, p.stL.length = n + 1 := ⟨p.stL.length - 1, by omega⟩
  rw [hn] at h3 h4 ⊢
  have h5 : ((n + 1 : Nat) : Int) - 1 = n := by omega
  rw [h5]
  have h6 : (frS p.mvs ts : Int) ≤ n + (liS p.mvs ts : Int) * n := by
    have h7 : frS p.mvs ts ≤ n + liS p.mvs ts * n := by simp at h3; omega
    have := Int.ofNat_le.2 h7
    push_cast at this
    exact this
  have h8 : (liS p.mvs ts : Int) * n ≤ lmS p.mvs * n := Int.mul_le_mul_of_nonneg_right h1 (by omega)
  rw [Int.add_mul]
  omega
end Go.Proofs.YtpijiglmjkdlgaaDoor
