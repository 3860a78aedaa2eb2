/-
  The program's reader: what digits are worth.
-/
import Derived.Test.YtehbinobohjadaaGreatDoorBk06
import Derived.Test.YtehbinobohjadaaGreatDoorShelfQ
import Derived.Test.YtehbinobohjadaaGreatDoorBk05
namespace Go.Proofs.YtehbinobohjadaaGreatDoor
open Go.RowKit Go.Extern.Stop Go.Stop Go.Extern

theorem retIQ {a b : Int} (h : a = b) : Ending.returned (.int .i64 a) = .returned (.int .i64 b) := by rw [h]
def dvL (l : List UInt8) (n : Nat) : Nat := l.foldl (fun n c => n * 10 + (c.toNat - 48)) n
theorem dvL_snoc (l : List UInt8) (c : UInt8) (n : Nat) : dvL (l ++ [c]) n = dvL l n * 10 + (c.toNat - 48) := by unfold dvL; simp
theorem numC_bd {c : UInt8} (h : numC c = true) : 48 ≤ c.toNat ∧ c.toNat ≤ 57 := by
  unfold numC at h
  simp only [Bool.and_eq_true, decide_eq_true_eq] at h
  exact h
theorem dvL_lt (l : List UInt8) (h : ∀ c, c ∈ l → numC c = true) : ∀ n, dvL l n < (n + 1) * 10 ^ l.length := by
  induction l with
  | nil => intro n; unfold dvL; simp
  | cons c l ih =>
    intro n
    have h1 := ih (fun c hc => h c (List.mem_cons_of_mem _ hc)) (n * 10 + (c.toNat - 48))
    have h2 := numC_bd (h c (List.mem_cons_self ..))
    have e : dvL (c :: l) n = dvL l (n * 10 + (c.toNat - 48)) := rfl
    rw [e, List.length_cons, Nat.pow_succ]
    refine Nat.lt_of_lt_of_le h1 ?_
    calc (n * 10 + (c.toNat - 48) + 1) * 10 ^ l.length ≤ ((n + 1) * 10) * 10 ^ l.length := Nat.mul_le_mul_right _ (by omega)
      _ = (n + 1) * (10 ^ l.length * 10) := by rw [Nat.mul_assoc, Nat.mul_comm 10]
theorem hunGo_digits (l : List UInt8) (h : ∀ c, c ∈ l → numC c = true) : ∀ n p, hunGo l n p = (dvL l n, p) := by
  induction l with
  | nil => intro n p; rfl
  | cons c l ih =>
    intro n p
    have h2 := numC_bd (h c (List.mem_cons_self ..))
    rw [hunGo, if_neg (fun e => by rw [e] at h2; have : (46 : UInt8).toNat = 46 := rfl; omega), ih (fun c hc => h c (List.mem_cons_of_mem _ hc))]
    rfl
theorem hunGo_append (l l' : List UInt8) (h : ∀ c, c ∈ l → numC c = true) : ∀ n p, hunGo (l ++ l') n p = hunGo l' (dvL l n) p := by
  induction l with
  | nil => intro n p; rfl
  | cons c l ih =>
    intro n p
    have h2 := numC_bd (h c (List.mem_cons_self ..))
    rw [List.cons_append, hunGo, if_neg (fun e => by rw [e] at h2; have : (46 : UInt8).toNat = 46 := rfl; omega), ih (fun c hc => h c (List.mem_cons_of_mem _ hc))]
    rfl
theorem take_snocQ (s : ByteArray) (k : Nat) (h : k < s.size) : s.data.toList.take (k + 1) = s.data.toList.take k ++ [s[k]] := by
  rw [List.take_succ_eq_append_getElem (by simpa using h)]; rfl
set_option maxHeartbeats 1000000 in
theorem worth_q (s : ByteArray) (hs : s.size ≤ 12) (hd : ∀ c, c ∈ s.data.toList → numC c = true) (w : World) :
    Calls Tryz.prog 123 #[.string s] w fun e w' => e = .returned (.int .i64 (dvL s.data.toList 0)) ∧ Below w.heap.size w w' := by
  have HS := hidLL hd
  clear hd
  go_enter Tryz.func123, Tryz.ntmps123
  go_wp2_with fail
  go_loopw [3] (fun t w' => ∃ pos : Nat, w' = w.iter s pos ∧ pos ≤ s.size ∧ t = .int .i64 (dvL (s.data.toList.take pos) 0)) (fun _ w' => s.size - w'.iterPos w.heap.size)
  case atStart => exact ⟨0, rfl, Nat.zero_le _, rfl⟩
  case round =>
    obtain ⟨pos, rfl, hle, rfl⟩ := hrel
    by_cases hp : pos < s.size
    · have hm : s[pos] ∈ s.data.toList := by
        rw [List.mem_iff_getElem]
        exact ⟨pos, by simpa using hp, rfl⟩
      obtain ⟨k1, k2⟩ := numC_bd (HS.out _ hm)
      have hnx : ∀ ty, (Instr.next (.pointer (some ⟨w.heap.size, 0, none⟩)) true ty).run Tryz.prog (w.iter s pos) = _ := fun ty => run_next_ascii w s pos ty hp (by omega)
      have hb : dvL (s.data.toList.take pos) 0 < 100000000000 := by
        have h1 := dvL_lt (s.data.toList.take pos) (fun c hc => HS.out c (List.mem_of_mem_take hc)) 0
        have h2 : (s.data.toList.take pos).length ≤ 11 := by rw [List.length_take]; omega
        exact Nat.lt_of_lt_of_le h1 (Nat.le_trans (by rw [Nat.zero_add, Nat.one_mul]; exact Nat.pow_le_pow_right (by omega) h2) (by decide))
      have HN : Hid (dvL (s.data.toList.take (pos + 1)) 0 = dvL (s.data.toList.take pos) 0 * 10 + (s[pos].toNat - 48)) := by show _ = _; rw [take_snocQ s pos hp, dvL_snoc]
      generalize dvL (s.data.toList.take pos) 0 = a at *
      clear hm
      go_wp2
      go_roundw
      case rel => exact ⟨pos + 1, rfl, by omega, by rw [HN.out]; go_num⟩
      case measure => simp; omega
    · have hnx : ∀ ty, (Instr.next (.pointer (some ⟨w.heap.size, 0, none⟩)) true ty).run Tryz.prog (w.iter s pos) = _ := fun ty => run_next_end w s pos ty hp
      have HE : Hid (s.data.toList.take pos = s.data.toList) := List.take_of_length_le (by rw [Array.length_toList]; exact Nat.le_of_not_lt hp)
      go_wp2
      go_ret
      exact ⟨retIQ (by rw [HE.out]), (Below.refl _ _).alloc (Nat.le_refl _) _⟩
theorem ib_none (l : List UInt8) (h : ∀ c, c ∈ l → numC c = true) : Lib.indexByte l 46 = -1 := by
  induction l with
  | nil => rfl
  | cons c l ih =>
    have h2 := numC_bd (h c (List.mem_cons_self ..))
    have hc : ¬ c = 46 := fun e => by rw [e] at h2; have : (46 : UInt8).toNat = 46 := rfl; omega
    rw [Lib.indexByte, if_neg (by simpa using hc), ih (fun c hc => h c (List.mem_cons_of_mem _ hc))]
    rfl
theorem ib_some (l r : List UInt8) (h : ∀ c, c ∈ l → numC c = true) : Lib.indexByte (l ++ 46 :: r) 46 = l.length := by
  induction l with
  | nil => rw [List.nil_append, Lib.indexByte, if_pos (by simp)]; rfl
  | cons c l ih =>
    have h2 := numC_bd (h c (List.mem_cons_self ..))
    have hc : ¬ c = 46 := fun e => by rw [e] at h2; have : (46 : UInt8).toNat = 46 := rfl; omega
    rw [List.cons_append, Lib.indexByte, if_neg (by simpa using hc), ih (fun c hc => h c (List.mem_cons_of_mem _ hc)), if_neg (by simp), List.length_cons]
    omega
/-- A number's parts. -/
structure NumCut (s : ByteArray) (ds cs : List UInt8) : Prop where
  c1 : (Lib.cut s.data.toList [46]).1 = ds
  c2 : (Lib.cut s.data.toList [46]).2.1 = cs
  d : ∀ c, c ∈ ds → numC c = true
  e : ∀ c, c ∈ cs → numC c = true
  l : cs.length ≤ 2
  w : wholeN s = ds.length
  h : hunB s = 100 * dvL ds 0 + dvL cs 0
  p : pointB s = false → s.data.toList = ds ∧ cs = []
  q : Lib.indexByte s.data.toList 46 < 0 ↔ pointB s = false
theorem tw_all (l : List UInt8) (h : ∀ c, c ∈ l → numC c = true) (r : List UInt8) : (l ++ 46 :: r).takeWhile (· != 46) = l := by
  induction l with
  | nil => rfl
  | cons c l ih =>
    have h2 := numC_bd (h c (List.mem_cons_self ..))
    have hc : ¬ c = 46 := fun e => by rw [e] at h2; have : (46 : UInt8).toNat = 46 := rfl; omega
    rw [List.cons_append, List.takeWhile_cons_of_pos (by simpa using hc), ih (fun c hc => h c (List.mem_cons_of_mem _ hc))]
theorem tw_self (l : List UInt8) (h : ∀ c, c ∈ l → numC c = true) : l.takeWhile (· != 46) = l := by
  induction l with
  | nil => rfl
  | cons c l ih =>
    have h2 := numC_bd (h c (List.mem_cons_self ..))
    have hc : ¬ c = 46 := fun e => by rw [e] at h2; have : (46 : UInt8).toNat = 46 := rfl; omega
    rw [List.takeWhile_cons_of_pos (by simpa using hc), ih (fun c hc => h c (List.mem_cons_of_mem _ hc))]
theorem NumForm.cut {s : ByteArray} (h : NumForm s) : ∃ ds cs, NumCut s ds cs := by
  obtain ⟨_, ds, hd, h1 | ⟨a, b, ha, hb, h1⟩⟩ := h
  · refine ⟨ds, [], ?_, ?_, hd, (fun c hc => by cases hc), (by simp), ?_, ?_, (fun _ => ⟨h1, rfl⟩), ?_⟩
    · unfold Lib.cut; rw [Lib.index_one, h1, ib_none ds hd]; rfl
    · unfold Lib.cut; rw [Lib.index_one, h1, ib_none ds hd]; rfl
    · unfold wholeN; rw [h1, tw_self ds hd]
    · unfold hunB; rw [h1, hunGo_digits ds hd]; show dvL ds 0 * 100 = _; unfold dvL; simp; omega
    · rw [h1, ib_none ds hd]
      unfold pointB
      rw [h1]
      refine ⟨fun _ => ?_, fun _ => by omega⟩
      rw [List.any_eq_false]
      intro c hc
      have h2 := numC_bd (hd c hc)
      have : ¬ c = 46 := fun e => by rw [e] at h2; have : (46 : UInt8).toNat = 46 := rfl; omega
      simpa using this
  · refine ⟨ds, [a, b], ?_, ?_, hd, ?_, (by simp), ?_, ?_, ?_, ?_⟩
    · unfold Lib.cut; rw [Lib.index_one, h1, ib_some ds [a, b] hd, if_pos (by omega)]; simp
    · unfold Lib.cut; rw [Lib.index_one, h1, ib_some ds [a, b] hd, if_pos (by omega)]; simp [List.drop_append]
    · intro c hc
      simp only [List.mem_cons, List.not_mem_nil, or_false] at hc
      rcases hc with rfl | rfl
      · exact ha
      · exact hb
    · unfold wholeN; rw [h1, tw_all ds hd]
    · unfold hunB
      have e1 := numC_bd ha
      have e2 := numC_bd hb
      rw [h1, hunGo_append ds _ hd]
      have e3 : hunGo [46, a, b] (dvL ds 0) false = ((dvL ds 0 * 10 + (a.toNat - 48)) * 10 + (b.toNat - 48), true) := by
        rw [hunGo, if_pos rfl, hunGo_digits [a, b] (by
          intro c hc
          simp only [List.mem_cons, List.not_mem_nil, or_false] at hc
          rcases hc with rfl | rfl
          · exact ha
          · exact hb)]
        rfl
      rw [e3]
      have e4 : dvL [a, b] 0 = (a.toNat - 48) * 10 + (b.toNat - 48) := by unfold dvL; simp
      rw [e4]
      show (dvL ds 0 * 10 + (a.toNat - 48)) * 10 + (b.toNat - 48) = _
      omega
    · intro hp
      unfold pointB at hp
      rw [h1, List.any_eq_false] at hp
      exact absurd (by simp) (hp 46 (by simp))
    · rw [h1, ib_some ds [a, b] hd]
      unfold pointB
      rw [h1]
      refine ⟨fun h => by omega, fun h => ?_⟩
      rw [List.any_eq_false] at h
      exact absurd (by simp) (h 46 (by simp))
theorem Below.drewN_ (w : World) (n : Nat) : Below w.heap.size w (w.drewN n) := ⟨rfl, rfl, rfl, Nat.le_refl _, fun _ _ => rfl⟩
theorem cut_q {s : ByteArray} {ds cs : List UInt8} (hs : s.size ≤ 400) (hc : NumCut s ds cs) (m : Int) (w : World) (hm : w.cell? ⟨12, 0, none⟩ = some (.int .i64 m)) :
    Calls Tryz.prog 33 #[.string s, .string ⟨#[46]⟩] w fun e w' => (∃ b, e = .returned (.tuple #[.string ⟨ds.toArray⟩, .string ⟨cs.toArray⟩, .bool b])) ∧ Below w.heap.size w w' := by
  refine (Go.Proofs.Tryz.strings_Cut s ⟨#[46]⟩ m w (by omega) hm).mono ?_
  rintro e w' ⟨rfl, n, rfl⟩
  have e1 := hc.c1
  have e2 := hc.c2
  refine ⟨⟨(Lib.cut s.data.toList [46]).2.2, ?_⟩, Below.drewN_ w n⟩
  show Ending.returned (.tuple #[.string ⟨(Lib.cut s.data.toList [46]).1.toArray⟩, .string ⟨(Lib.cut s.data.toList [46]).2.1.toArray⟩, .bool _]) = _
  rw [e1, e2]
theorem isLong_q (t : Tok) {ds cs : List UInt8} (hs : t.text.size ≤ 400) (hc : NumCut t.text ds cs) (m : Int) (w : World) (hm : w.cell? ⟨12, 0, none⟩ = some (.int .i64 m)) :
    Calls Tryz.prog 122 #[tokV3 t] w fun e w' => e = .returned (.bool (decide (12 < ds.length))) ∧ Below w.heap.size w w' := by
  unfold tokV3
  have HC := hidLL (fun (W : World) (hb : Below w.heap.size w W) => cut_q hs hc m W ((hb.cell (p := ⟨12, 0, none⟩) (cell_lt hm)).trans hm))
  have hd : (⟨ds.toArray⟩ : ByteArray).size = ds.length := by simp [ByteArray.size]
  clear hs hc hm
  generalize (⟨ds.toArray⟩ : ByteArray) = D at *
  generalize (⟨cs.toArray⟩ : ByteArray) = C at *
  generalize ds.length = dl at *
  subst hd
  generalize kN t.kind = K0 at *
  generalize t.text = K1 at *
  generalize t.pos = K2 at *
  go_enter Tryz.func122, Tryz.ntmps122
  go_wp2_with (go_at_call 33; refine (HC.out _ ((Below.refl _ _).alloc (Nat.le_refl _) _)).mono ?_; rintro e w' ⟨⟨b, rfl⟩, hb⟩; have HB := hidLL hb; clear hb)
  go_ret
  refine ⟨retB ?_, ((Below.refl _ _).alloc (Nat.le_refl _) _).trans (HB.out.mono (by simp))⟩
  rw [Bool.eq_iff_iff]; simp; omega
end Go.Proofs.YtehbinobohjadaaGreatDoor
namespace Go.Proofs.YtehbinobohjadaaGreatDoor
open Go.RowKit Go.Extern.Stop Go.Stop Go.Extern

theorem isLetter_q (c : UInt8) (w : World) : Calls Tryz.prog 72 #[.int .u8 c.toNat] w fun e w' => e = .returned (.bool (lowC c)) ∧ w' = w := by
  have hO : Hid (lowC c = (decide (97 ≤ c.toNat) && decide (c.toNat ≤ 122))) := rfl
  generalize lowC c = O at *
  by_cases h1 : 97 ≤ c.toNat
  · go_enter Tryz.func72, Tryz.ntmps72
    go_wp2
    go_ret
    exact ⟨retB (by rw [hO.out, Bool.eq_iff_iff]; simp; try omega), rfl⟩
  · go_enter Tryz.func72, Tryz.ntmps72
    go_wp2
    go_ret
    exact ⟨retB (by rw [hO.out, Bool.eq_iff_iff]; simp; try omega), rfl⟩
theorem isDigit_q (c : UInt8) (w : World) : Calls Tryz.prog 75 #[.int .u8 c.toNat] w fun e w' => e = .returned (.bool (numC c)) ∧ w' = w := by
  have hO : Hid (numC c = (decide (48 ≤ c.toNat) && decide (c.toNat ≤ 57))) := rfl
  generalize numC c = O at *
  by_cases h1 : 48 ≤ c.toNat
  · go_enter Tryz.func75, Tryz.ntmps75
    go_wp2
    go_ret
    exact ⟨retB (by rw [hO.out, Bool.eq_iff_iff]; simp; try omega), rfl⟩
  · go_enter Tryz.func75, Tryz.ntmps75
    go_wp2
    go_ret
    exact ⟨retB (by rw [hO.out, Bool.eq_iff_iff]; simp; try omega), rfl⟩
theorem isInner_q (c : UInt8) (w : World) : Calls Tryz.prog 74 #[.int .u8 c.toNat] w fun e w' => e = .returned (.bool (wordC c)) ∧ w' = w := by
  have hO : Hid (wordC c = (lowC c || numC c || decide (c.toNat = 95))) := rfl
  have HL := hidLL (isLetter_q c)
  have HD := hidLL (isDigit_q c)
  generalize wordC c = O at *
  generalize lowC c = A at *
  generalize numC c = D at *
  cases A
  all_goals cases D
  all_goals (
    go_enter Tryz.func74, Tryz.ntmps74
    go_wp2_with (first | (go_at_call 72; refine (HL.out _).mono ?_; rintro e w' ⟨rfl, rfl⟩) | (go_at_call 75; refine (HD.out _).mono ?_; rintro e w' ⟨rfl, rfl⟩))
    go_ret
    exact ⟨retB (by rw [hO.out, Bool.eq_iff_iff]; simp; try omega), rfl⟩)
end Go.Proofs.YtehbinobohjadaaGreatDoor
namespace Go.Proofs.YtehbinobohjadaaGreatDoor
open Go.RowKit Go.Extern.Stop Go.Stop Go.Extern

set_option maxHeartbeats 1000000 in
theorem countDigit_q (s : ByteArray) (hs : s.size ≤ 100000) (w : World) :
    Calls Tryz.prog 73 #[.string s, .func (.func 75) #[] #[]] w fun e w' => e = .returned (.int .i64 (s.data.toList.takeWhile numC).length) ∧ w' = w := by
  have HF := hidLL isDigit_q
  go_enter Tryz.func73, Tryz.ntmps73
  go_wp2_with fail
  go_loopw [8] (fun t wr => ∃ i : Nat, i ≤ s.size ∧ t = .int .i64 i ∧ wr = w ∧ ((s.data.toList.takeWhile numC).length = i + ((s.data.toList.drop i).takeWhile numC).length)) (fun t _ => (s.size - RowKit.intOf t).toNat)
  case atStart => exact ⟨0, by omega, rfl, rfl, by simp⟩
  case round =>
    obtain ⟨i, hi, rfl, rfl, hno⟩ := hrel
    have HN := hidLL hno
    clear hno
    by_cases hin : i < s.size
    · have hiz : (i : Int) < s.size := by omega
      have HG := hidLL (drop_get s i hin)
      cases hp : numC s[i]
      · have HC := hidLL (HF.out s[i] wr)
        rw [hp] at HC
        have HE : Hid ((s.data.toList.takeWhile numC).length = i) := by show _ = _; rw [HN.out, HG.out, List.takeWhile_cons_of_neg (by rw [hp]; simp)]; rfl
        clear hp
        go_wp2_with fail
        refine HC.out.mono ?_
        rintro e w' ⟨rfl, rfl⟩
        go_wp2
        go_ret
        exact ⟨retIQ (by rw [HE.out]), rfl⟩
      · have HC := hidLL (HF.out s[i] wr)
        rw [hp] at HC
        have HE : Hid ((s.data.toList.takeWhile numC).length = i + 1 + ((s.data.toList.drop (i + 1)).takeWhile numC).length) := by show _ = _; rw [HN.out, HG.out, List.takeWhile_cons_of_pos hp, List.length_cons]; omega
        clear hp
        go_wp2_with fail
        refine HC.out.mono ?_
        rintro e w' ⟨rfl, rfl⟩
        go_wp2
        go_roundw
        case rel => exact ⟨i + 1, by omega, by go_num, trivial, HE.out⟩
        case measure => simp [RowKit.intOf]; omega
    · obtain rfl : i = s.size := by omega
      have HE : Hid ((s.data.toList.takeWhile numC).length = s.size) := by show _ = _; rw [HN.out, List.drop_eq_nil_of_le (by rw [Array.length_toList]; exact Nat.le_refl _)]; rfl
      go_wp2
      go_ret
      exact ⟨retIQ (by rw [HE.out]), rfl⟩
set_option maxHeartbeats 1000000 in
theorem countInner_q (s : ByteArray) (hs : s.size ≤ 100000) (w : World) :
    Calls Tryz.prog 73 #[.string s, .func (.func 74) #[] #[]] w fun e w' => e = .returned (.int .i64 (s.data.toList.takeWhile wordC).length) ∧ w' = w := by
  have HF := hidLL isInner_q
  go_enter Tryz.func73, Tryz.ntmps73
  go_wp2_with fail
  go_loopw [8] (fun t wr => ∃ i : Nat, i ≤ s.size ∧ t = .int .i64 i ∧ wr = w ∧ ((s.data.toList.takeWhile wordC).length = i + ((s.data.toList.drop i).takeWhile wordC).length)) (fun t _ => (s.size - RowKit.intOf t).toNat)
  case atStart => exact ⟨0, by omega, rfl, rfl, by simp⟩
  case round =>
    obtain ⟨i, hi, rfl, rfl, hno⟩ := hrel
    have HN := hidLL hno
    clear hno
    by_cases hin : i < s.size
    · have hiz : (i : Int) < s.size := by omega
      have HG := hidLL (drop_get s i hin)
      cases hp : wordC s[i]
      · have HC := hidLL (HF.out s[i] wr)
        rw [hp] at HC
        have HE : Hid ((s.data.toList.takeWhile wordC).length = i) := by show _ = _; rw [HN.out, HG.out, List.takeWhile_cons_of_neg (by rw [hp]; simp)]; rfl
        clear hp
        go_wp2_with fail
        refine HC.out.mono ?_
        rintro e w' ⟨rfl, rfl⟩
        go_wp2
        go_ret
        exact ⟨retIQ (by rw [HE.out]), rfl⟩
      · have HC := hidLL (HF.out s[i] wr)
        rw [hp] at HC
        have HE : Hid ((s.data.toList.takeWhile wordC).length = i + 1 + ((s.data.toList.drop (i + 1)).takeWhile wordC).length) := by show _ = _; rw [HN.out, HG.out, List.takeWhile_cons_of_pos hp, List.length_cons]; omega
        clear hp
        go_wp2_with fail
        refine HC.out.mono ?_
        rintro e w' ⟨rfl, rfl⟩
        go_wp2
        go_roundw
        case rel => exact ⟨i + 1, by omega, by go_num, trivial, HE.out⟩
        case measure => simp [RowKit.intOf]; omega
    · obtain rfl : i = s.size := by omega
      have HE : Hid ((s.data.toList.takeWhile wordC).length = s.size) := by show _ = _; rw [HN.out, List.drop_eq_nil_of_le (by rw [Array.length_toList]; exact Nat.le_refl _)]; rfl
      go_wp2
      go_ret
      exact ⟨retIQ (by rw [HE.out]), rfl⟩
end Go.Proofs.YtehbinobohjadaaGreatDoor
namespace Go.Proofs.YtehbinobohjadaaGreatDoor
open Go.RowKit Go.Extern.Stop Go.Stop Go.Extern

/-- The last token is the end, and it has no text. -/
structure Ends (L : List Tok) : Prop where
  nx : ∀ k, k < L.length → (tokAt L k).kind ≠ .e → k + 1 < L.length
  tx : ∀ k, k < L.length → (tokAt L k).kind = .e → (tokAt L k).text.toList = []
theorem stepP_k {L : List Tok} (h : Ends L) {k n k' n' : Nat} {x : Unit} (hk : k < L.length) (he : (tokAt L k).kind ≠ .e) (e : stepP L k n = .ok x k' n') : k' = k + 1 ∧ k' < L.length := by
  have h1 := h.nx k hk he
  unfold stepP at e
  have h2 : nextK L k = k + 1 := by unfold nextK; rw [if_pos h1]
  split at e
  · cases e
  · injection e with _ e _
    omega
theorem text_ne {L : List Tok} (h : Ends L) {k : Nat} (hk : k < L.length) {l : List UInt8} (hl : l ≠ []) (e : (tokAt L k).text.toList = l) : (tokAt L k).kind ≠ .e := by
  intro h9
  rw [h.tx k hk h9] at e
  exact hl e.symm
theorem eqB_ne {L : List Tok} (h : Ends L) {k : Nat} (hk : k < L.length) {s : ByteArray} (hs : s.toList ≠ []) (e : eqB (tokAt L k).text s = true) : (tokAt L k).kind ≠ .e := by
  unfold eqB at e
  exact text_ne h hk hs (by simpa using e)
theorem isP_ne {L : List Tok} {k : Nat} {s : ByteArray} (e : isP L s k = true) : (tokAt L k).kind ≠ .e := by
  unfold isP at e
  simp at e
  exact e.1
theorem takeP_k {L : List Tok} (h : Ends L) {s : ByteArray} {k n k' n' : Nat} {b : Bool} (hk : k < L.length) (e : takeP L s k n = .ok b k' n') : (b = true → k' = k + 1) ∧ (b = false → k' = k) ∧ k' < L.length := by
  unfold takeP at e
  split at e
  · rename_i hi
    obtain ⟨_, _, _, h1, h2⟩ := PR.bind_eq e
    injection h2 with h2 h3 _
    have := stepP_k h hk (isP_ne hi) h1
    subst h2
    exact ⟨fun _ => (by omega), fun e => (by cases e), by omega⟩
  · injection e with e1 e2 _
    subst e1
    exact ⟨fun e => (by cases e), fun _ => e2.symm, by omega⟩
theorem needP_k {L : List Tok} (h : Ends L) {s : ByteArray} {k n k' n' : Nat} {x : Unit} (hk : k < L.length) (e : needP L s k n = .ok x k' n') : k' = k + 1 ∧ k' < L.length := by
  unfold needP at e
  split at e
  · rename_i hi
    exact stepP_k h hk (isP_ne hi) e
  · cases e
theorem nameP_k {L : List Tok} (h : Ends L) {k n k' n' : Nat} {x : ByteArray} (hk : k < L.length) (e : nameP L k n = .ok x k' n') : k' = k + 1 ∧ k' < L.length := by
  unfold nameP at e
  split at e
  · rename_i hi
    obtain ⟨_, _, _, h1, h2⟩ := PR.bind_eq e
    injection h2 with _ h3 _
    have := stepP_k h hk (by rw [hi.1]; intro h; cases h) h1
    omega
  · cases e
theorem deeperP_k {L : List Tok} {k n k' n' : Nat} {x : Unit} (e : deeperP L k n = .ok x k' n') : k' = k := by
  unfold deeperP at e
  split at e
  · cases e
  · injection e with _ e _; exact e.symm
theorem sg_ne (c : UInt8) : (sg c).toList ≠ [] := by unfold sg; rw [Lib.toList_data]; intro h; cases h
structure Mono (L : List Tok) (f : Nat) : Prop where
  ei : ∀ k n x k' n', k < L.length → eitherP L f k n = .ok x k' n' → k < k' ∧ k' < L.length
  ol : ∀ y k n x k' n', k < L.length → orLoop L f y k n = .ok x k' n' → k ≤ k' ∧ k' < L.length
  bo : ∀ k n x k' n', k < L.length → bothP L f k n = .ok x k' n' → k < k' ∧ k' < L.length
  al : ∀ y k n x k' n', k < L.length → andLoop L f y k n = .ok x k' n' → k ≤ k' ∧ k' < L.length
  un : ∀ k n x k' n', k < L.length → unlessP L f k n = .ok x k' n' → k < k' ∧ k' < L.length
  te : ∀ k n x k' n', k < L.length → testP L f k n = .ok x k' n' → k < k' ∧ k' < L.length
  su : ∀ k n x k' n', k < L.length → sumP L f k n = .ok x k' n' → k < k' ∧ k' < L.length
  sl : ∀ y k n x k' n', k < L.length → sumLoop L f y k n = .ok x k' n' → k ≤ k' ∧ k' < L.length
  pa : ∀ k n x k' n', k < L.length → partP L f k n = .ok x k' n' → k < k' ∧ k' < L.length
  pl : ∀ y k n x k' n', k < L.length → partLoop L f y k n = .ok x k' n' → k ≤ k' ∧ k' < L.length
  fa : ∀ k n x k' n', k < L.length → factorP L f k n = .ok x k' n' → k < k' ∧ k' < L.length
theorem mono {L : List Tok} (hE : Ends L) : ∀ f, Mono L f
  | 0 => by
    constructor <;> intros <;> rename_i h <;> simp only [eitherP, orLoop, bothP, andLoop, unlessP, testP, sumP, sumLoop, partP, partLoop, factorP] at h <;> cases h
  | f + 1 => by
    have ih := mono hE f
    constructor
    · intro k n x k' n' hk h
      rw [eitherP] at h
      obtain ⟨_, _, _, h1, h2⟩ := PR.bind_eq h
      have a1 := ih.bo _ _ _ _ _ hk h1
      have a2 := ih.ol _ _ _ _ _ _ a1.2 h2
      omega
    · intro y k n x k' n' hk h
      rw [orLoop] at h
      obtain ⟨b, _, _, h1, h2⟩ := PR.bind_eq h
      have a1 := takeP_k hE hk h1
      split at h2
      · rename_i hb
        obtain ⟨_, _, _, h3, h4⟩ := PR.bind_eq h2
        have a2 := ih.bo _ _ _ _ _ a1.2.2 h3
        have a3 := ih.ol _ _ _ _ _ _ a2.2 h4
        have a4 := a1.1 hb
        omega
      · rename_i hb
        injection h2 with _ h2 _
        have a4 := a1.2.1 (by simpa using hb)
        omega
    · intro k n x k' n' hk h
      rw [bothP] at h
      obtain ⟨_, _, _, h1, h2⟩ := PR.bind_eq h
      have a1 := ih.un _ _ _ _ _ hk h1
      have a2 := ih.al _ _ _ _ _ _ a1.2 h2
      omega
    · intro y k n x k' n' hk h
      rw [andLoop] at h
      obtain ⟨b, _, _, h1, h2⟩ := PR.bind_eq h
      have a1 := takeP_k hE hk h1
      split at h2
      · rename_i hb
        obtain ⟨_, _, _, h3, h4⟩ := PR.bind_eq h2
        have a2 := ih.un _ _ _ _ _ a1.2.2 h3
        have a3 := ih.al _ _ _ _ _ _ a2.2 h4
        have a4 := a1.1 hb
        omega
      · rename_i hb
        injection h2 with _ h2 _
        have a4 := a1.2.1 (by simpa using hb)
        omega
    · intro k n x k' n' hk h
      rw [unlessP] at h
      split at h
      · rename_i hi
        obtain ⟨_, _, _, h1, h⟩ := PR.bind_eq h
        obtain ⟨_, _, _, h2, h⟩ := PR.bind_eq h
        obtain ⟨_, _, _, h3, h⟩ := PR.bind_eq h
        injection h with _ h _
        have a1 := deeperP_k h1
        subst a1
        have a2 := stepP_k hE hk (isP_ne hi) h2
        have a3 := ih.un _ _ _ _ _ a2.2 h3
        omega
      · exact ih.te _ _ _ _ _ hk h
    · intro k n x k' n' hk h
      rw [testP] at h
      split at h
      · rename_i hi
        obtain ⟨_, _, _, h1, h⟩ := PR.bind_eq h
        obtain ⟨_, _, _, h2, h⟩ := PR.bind_eq h
        obtain ⟨_, _, _, h3, h⟩ := PR.bind_eq h
        obtain ⟨_, _, _, h4, h⟩ := PR.bind_eq h
        injection h with _ h _
        have a1 := deeperP_k h1
        subst a1
        have a2 := stepP_k hE hk (eqB_ne hE hk (sg_ne _) hi) h2
        have a3 := ih.ei _ _ _ _ _ a2.2 h3
        have a4 := needP_k hE a3.2 h4
        omega
      · split at h
        · rename_i hi
          have hne : (tokAt L k).kind ≠ .e := by
            rcases hi with hi | hi
            · exact eqB_ne hE hk (by unfold wSome; rw [Lib.toList_data]; intro h; cases h) hi
            · exact eqB_ne hE hk (by unfold wEvery; rw [Lib.toList_data]; intro h; cases h) hi
          obtain ⟨_, _, _, h1, h⟩ := PR.bind_eq h
          obtain ⟨_, _, _, h2, h⟩ := PR.bind_eq h
          obtain ⟨_, _, _, h3, h⟩ := PR.bind_eq h
          obtain ⟨_, _, _, h4, h⟩ := PR.bind_eq h
          obtain ⟨_, _, _, h5, h⟩ := PR.bind_eq h
          obtain ⟨_, _, _, h6, h⟩ := PR.bind_eq h
          injection h with _ h _
          have a1 := deeperP_k h1
          subst a1
          have a2 := stepP_k hE hk hne h2
          have a3 := nameP_k hE a2.2 h3
          have a4 := needP_k hE a3.2 h4
          have a5 := ih.ei _ _ _ _ _ a4.2 h5
          have a6 := needP_k hE a5.2 h6
          omega
        · obtain ⟨_, _, _, h1, h⟩ := PR.bind_eq h
          have a1 := ih.su _ _ _ _ _ hk h1
          split at h
          · rename_i hi
            obtain ⟨_, _, _, h2, h⟩ := PR.bind_eq h
            obtain ⟨_, _, _, h3, h⟩ := PR.bind_eq h
            injection h with _ h _
            have a2 := stepP_k hE a1.2 (by rw [hi.1]; intro h; cases h) h2
            have a3 := ih.su _ _ _ _ _ a2.2 h3
            omega
          · split at h
            · injection h with _ h _; omega
            · cases h
    · intro k n x k' n' hk h
      rw [sumP] at h
      obtain ⟨_, _, _, h1, h2⟩ := PR.bind_eq h
      have a1 := ih.pa _ _ _ _ _ hk h1
      have a2 := ih.sl _ _ _ _ _ _ a1.2 h2
      omega
    · intro y k n x k' n' hk h
      rw [sumLoop] at h
      split at h
      · rename_i hi
        obtain ⟨_, _, _, h1, h⟩ := PR.bind_eq h
        obtain ⟨_, _, _, h2, h⟩ := PR.bind_eq h
        have a1 := stepP_k hE hk (by rw [hi.1]; intro h; cases h) h1
        have a2 := ih.pa _ _ _ _ _ a1.2 h2
        have a3 := ih.sl _ _ _ _ _ _ a2.2 h
        omega
      · injection h with _ h _; omega
    · intro k n x k' n' hk h
      rw [partP] at h
      obtain ⟨_, _, _, h1, h2⟩ := PR.bind_eq h
      have a1 := ih.fa _ _ _ _ _ hk h1
      have a2 := ih.pl _ _ _ _ _ _ a1.2 h2
      omega
    · intro y k n x k' n' hk h
      rw [partLoop] at h
      obtain ⟨b, _, _, h1, h⟩ := PR.bind_eq h
      have a1 := takeP_k hE hk h1
      split at h
      · rename_i hb
        split at h
        · rename_i hi
          split at h
          · cases h
          · obtain ⟨_, _, _, h2, h⟩ := PR.bind_eq h
            obtain ⟨_, _, _, h3, h⟩ := PR.bind_eq h
            have a2 := stepP_k hE a1.2.2 (by rw [hi]; intro h; cases h) h2
            have a3 := needP_k hE a2.2 h3
            have a4 := ih.pl _ _ _ _ _ _ a3.2 h
            have a5 := a1.1 hb
            omega
        · cases h
      · rename_i hb
        injection h with _ h _
        have a5 := a1.2.1 (by simpa using hb)
        omega
    · intro k n x k' n' hk h
      rw [factorP] at h
      split at h
      · rename_i hi
        split at h
        · cases h
        · obtain ⟨_, _, _, h1, h⟩ := PR.bind_eq h
          injection h with _ h _
          have := stepP_k hE hk (by rw [hi]; intro h; cases h) h1
          omega
      · split at h
        · rename_i hi
          obtain ⟨_, _, _, h1, h⟩ := PR.bind_eq h
          obtain ⟨_, _, _, h2, h⟩ := PR.bind_eq h
          injection h with _ h _
          have a1 := stepP_k hE hk (eqB_ne hE hk (by unfold wCount; rw [Lib.toList_data]; intro h; cases h) hi) h1
          have a2 := nameP_k hE a1.2 h2
          omega
        · split at h
          · rename_i hi
            obtain ⟨_, _, _, h1, h⟩ := PR.bind_eq h
            obtain ⟨_, _, _, h2, h⟩ := PR.bind_eq h
            obtain ⟨_, _, _, h3, h⟩ := PR.bind_eq h
            obtain ⟨_, _, _, h4, h⟩ := PR.bind_eq h
            injection h with _ h _
            have a1 := stepP_k hE hk (eqB_ne hE hk (by unfold wTotal; rw [Lib.toList_data]; intro h; cases h) hi) h1
            have a2 := nameP_k hE a1.2 h2
            have a3 := needP_k hE a2.2 h3
            have a4 := nameP_k hE a3.2 h4
            omega
          · split at h
            · rename_i hi
              have hne : (tokAt L k).kind ≠ .e := by
                rcases hi with hi | hi
                · exact eqB_ne hE hk (by unfold wMax; rw [Lib.toList_data]; intro h; cases h) hi
                · exact eqB_ne hE hk (by unfold wMin; rw [Lib.toList_data]; intro h; cases h) hi
              obtain ⟨_, _, _, h1, h⟩ := PR.bind_eq h
              obtain ⟨_, _, _, h2, h⟩ := PR.bind_eq h
              obtain ⟨_, _, _, h3, h⟩ := PR.bind_eq h
              obtain ⟨_, _, _, h4, h⟩ := PR.bind_eq h
              obtain ⟨_, _, _, h5, h⟩ := PR.bind_eq h
              obtain ⟨_, _, _, h6, h⟩ := PR.bind_eq h
              obtain ⟨_, _, _, h7, h⟩ := PR.bind_eq h
              injection h with _ h _
              have a1 := deeperP_k h1
              subst a1
              have a2 := stepP_k hE hk hne h2
              have a3 := needP_k hE a2.2 h3
              have a4 := ih.su _ _ _ _ _ a3.2 h4
              have a5 := needP_k hE a4.2 h5
              have a6 := ih.su _ _ _ _ _ a5.2 h6
              have a7 := needP_k hE a6.2 h7
              omega
            · split at h
              · rename_i hi
                obtain ⟨_, _, _, h1, h⟩ := PR.bind_eq h
                obtain ⟨_, _, _, h2, h⟩ := PR.bind_eq h
                obtain ⟨_, _, _, h3, h⟩ := PR.bind_eq h
                obtain ⟨_, _, _, h4, h⟩ := PR.bind_eq h
                injection h with _ h _
                have a1 := deeperP_k h1
                subst a1
                have a2 := stepP_k hE hk (eqB_ne hE hk (sg_ne _) hi) h2
                have a3 := ih.su _ _ _ _ _ a2.2 h3
                have a4 := needP_k hE a3.2 h4
                omega
              · obtain ⟨_, _, _, h1, h⟩ := PR.bind_eq h
                injection h with _ h _
                have a1 := nameP_k hE hk h1
                omega
end Go.Proofs.YtehbinobohjadaaGreatDoor
