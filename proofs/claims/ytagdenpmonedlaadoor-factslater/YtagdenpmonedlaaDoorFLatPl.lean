/-
  Facts: what is learnt later was not known; between the turns nothing changes. Plain: no program.
-/
import Derived.Test.YtagdenpmonedlaaDoorFactPlain
namespace Go.Proofs.YtagdenpmonedlaaDoor

def goodB (x : Fct) : Bool := decide (addC 0 x = 0)
theorem keep_good {L : List Fct} (h : L.length < 500) (x : Fct) : keep L x = L ++ (if goodB x = true then [x] else []) := by
  rcases keep_cases L x with ⟨h1, e⟩ | ⟨h1, e⟩
  · have : goodB x = true := by unfold goodB; simpa [Good] using addC_good h1
    rw [e, if_pos this]
  · have : ¬ goodB x = true := fun k => h1 (addC_of_good (by unfold goodB at k; simpa [Good] using k) h)
    rw [e, if_neg this, List.append_nil]
theorem files_filter : ∀ (l L : List Fct), L.length + l.length ≤ 500 → l.foldl keep L = L ++ l.filter goodB
  | [], L, _ => by simp
  | x :: r, L, h => by
    rw [List.length_cons] at h
    rw [List.foldl_cons, keep_good (by omega) x]
    by_cases hg : goodB x = true
    · rw [if_pos hg, files_filter r (L ++ [x]) (by rw [List.length_append, List.length_singleton]; omega), List.filter_cons_of_pos hg]; simp
    · rw [if_neg hg, List.append_nil, files_filter r L (by omega), List.filter_cons_of_neg hg]
theorem files_of {l : List Fct} (h : l.length ≤ 400) : filesL l = l.filter goodB := by
  unfold filesL
  rw [files_filter l [] (by simp; omega)]
  simp
theorem latest_skip (who : Int) (nm : ByteArray) (oth on known : Int) : ∀ (l : List Fct) (b : Option Fct), (l.filter (fun x => decide (x.lrn ≤ known))).foldl (stepL who nm oth on known) b = l.foldl (stepL who nm oth on known) b
  | [], b => rfl
  | x :: r, b => by
    by_cases h : x.lrn ≤ known
    · rw [List.filter_cons_of_pos (by simpa using h), List.foldl_cons, List.foldl_cons, latest_skip who nm oth on known r]
    · have hs : stepL who nm oth on known b x = b := by
        unfold stepL
        rw [if_neg]
        rintro ⟨h1, _⟩
        unfold soB at h1
        simp [h] at h1
      rw [List.filter_cons_of_neg (by simpa using h), List.foldl_cons, hs, latest_skip who nm oth on known r]
def earlyL (l : List Fct) (known : Int) : List Fct := l.filter (fun x => decide (x.lrn ≤ known))
theorem val_early {l : List Fct} (h : l.length ≤ 400) (who : Int) (nm : ByteArray) (on known : Int) : valL (filesL (earlyL l known)) who nm on known = valL (filesL l) who nm on known := by
  have h2 : (earlyL l known).length ≤ 400 := Nat.le_trans (List.length_filter_le ..) h
  have e : latestL (filesL (earlyL l known)) who nm (-1) on known = latestL (filesL l) who nm (-1) on known := by
    rw [files_of h, files_of h2]
    unfold earlyL latestL
    rw [List.filter_filter, show (fun a => goodB a && decide (a.lrn ≤ known)) = (fun a => decide (a.lrn ≤ known) && goodB a) from funext fun a => Bool.and_comm .., ← List.filter_filter]
    exact latest_skip who nm (-1) on known _ none
  unfold valL
  rw [e]
/-- The last turn up to a day. -/
def lastOf (ts : List Int) (on : Int) (b : Int) : Int := ts.foldl (fun b t => if t ≤ on then t else b) b
theorem last_step (ts : List Int) (i : Nat) (t : Int) (h : ts[i]? = some t) (on b : Int) : lastOf (ts.take (i + 1)) on b = if t ≤ on then t else lastOf (ts.take i) on b := by
  obtain ⟨hi, e⟩ := List.getElem?_eq_some_iff.1 h
  unfold lastOf
  rw [List.take_succ_eq_append_getElem hi, List.foldl_append, e]
  rfl
theorem last_ge (on : Int) : ∀ (ts : List Int) (b : Int), Rise (b :: ts) → b ≤ lastOf ts on b
  | [], b, _ => Int.le_refl _
  | a :: r, b, h => by
    unfold Rise at h
    have h1 := List.pairwise_cons.1 h
    have hab := h1.1 a (List.mem_cons_self ..)
    unfold lastOf
    rw [List.foldl_cons]
    by_cases ha : a ≤ on
    · rw [if_pos ha]
      have := last_ge on r a h1.2
      unfold lastOf at this
      omega
    · rw [if_neg ha]
      exact last_ge on r b (List.pairwise_cons.2 ⟨fun y hy => h1.1 y (List.mem_cons_of_mem _ hy), (List.pairwise_cons.1 h1.2).2⟩)
theorem last_max (on : Int) : ∀ (ts : List Int) (b : Int), Rise ts → ∀ t ∈ ts, t ≤ on → t ≤ lastOf ts on b
  | a :: r, b, h, t, ht, hto => by
    unfold Rise at h
    have h1 := List.pairwise_cons.1 h
    unfold lastOf
    rw [List.foldl_cons]
    rcases List.mem_cons.1 ht with rfl | hr
    · rw [if_pos hto]
      exact last_ge on r t h
    · exact last_max on r _ h1.2 t hr hto
theorem last_le (on : Int) : ∀ (ts : List Int) (b : Int), b ≤ on → lastOf ts on b ≤ on
  | [], b, h => h
  | a :: r, b, h => by
    unfold lastOf
    rw [List.foldl_cons]
    by_cases ha : a ≤ on
    · rw [if_pos ha]; exact last_le on r a ha
    · rw [if_neg ha]; exact last_le on r b h
theorem turn_mem {L : List Fct} {who known : Int} {x : Fct} (hx : x ∈ L) (h1 : x.lrn ≤ known) (h2 : x.who = who) : x.frm ∈ turnsL L who known ∧ (x.til ≠ 0 → x.til ∈ turnsL L who known) := by
  have hr : ∀ m, m ∈ turnsL L who known ↔ m ∈ turnsRaw L who known := fun m => by unfold turnsL; rw [insF_mem]; simp
  have hf : x ∈ L.filter (fun x => turnB x who known) := List.mem_filter.2 ⟨hx, by unfold turnB; simp [h1, h2]⟩
  rw [hr, hr]
  unfold turnsRaw
  refine ⟨List.mem_flatMap.2 ⟨x, hf, ?_⟩, fun ht => List.mem_flatMap.2 ⟨x, hf, ?_⟩⟩
  · unfold daysOf; split <;> simp
  · unfold daysOf; rw [if_neg ht]; simp
theorem so_last {L : List Fct} (hG : ∀ x ∈ L, Good x) {who : Int} (nm : ByteArray) {on known : Int} (hon : 1 ≤ on) {x : Fct} (hx : x ∈ L) :
    soB x who nm (lastOf (turnsL L who known) on 1) known = soB x who nm on known := by
  have hR : Rise (turnsL L who known) := insF_rise _ _ (by simp [Rise])
  have hle := last_le on (turnsL L who known) 1 hon
  have hd := (hG x hx).days
  unfold soB
  by_cases h1 : x.who = who
  · by_cases h2 : x.lrn ≤ known
    · obtain ⟨m1, m2⟩ := turn_mem hx h2 h1
      generalize hla : lastOf (turnsL L who known) on 1 = la at *
      have e1 : decide (x.frm ≤ la) = decide (x.frm ≤ on) := by
        rw [decide_eq_decide]
        constructor
        · intro h; omega
        · intro h; rw [← hla]; exact last_max on _ 1 hR _ m1 h
      have e2 : (decide (x.til = 0) || decide (la < x.til)) = (decide (x.til = 0) || decide (on < x.til)) := by
        by_cases ht : x.til = 0
        · simp [ht]
        · rw [decide_eq_false ht, Bool.false_or, Bool.false_or, decide_eq_decide]
          constructor
          · intro h
            rcases Int.lt_or_le on x.til with q | q
            · exact q
            · have := last_max on _ 1 hR _ (m2 ht) q
              rw [hla] at this
              omega
          · intro h; omega
      rw [e1, e2]
    · simp [h2]
  · simp [h1]
theorem latest_congr (who : Int) (nm : ByteArray) (oth on on' known : Int) : ∀ (l : List Fct) (b : Option Fct), (∀ x ∈ l, soB x who nm on known = soB x who nm on' known) → l.foldl (stepL who nm oth on known) b = l.foldl (stepL who nm oth on' known) b
  | [], b, _ => rfl
  | x :: r, b, h => by
    have e : stepL who nm oth on known b x = stepL who nm oth on' known b x := by unfold stepL; rw [h x (List.mem_cons_self ..)]
    rw [List.foldl_cons, List.foldl_cons, e, latest_congr who nm oth on on' known r _ (fun y hy => h y (List.mem_cons_of_mem _ hy))]
theorem val_last {L : List Fct} (hG : ∀ x ∈ L, Good x) (who : Int) (nm : ByteArray) {on known : Int} (hon : 1 ≤ on) : valL L who nm (lastOf (turnsL L who known) on 1) known = valL L who nm on known := by
  unfold valL latestL
  rw [latest_congr who nm (-1) _ on known L none (fun x hx => so_last hG nm hon hx)]
theorem others_last {L : List Fct} (hG : ∀ x ∈ L, Good x) (who : Int) (nm : ByteArray) {on known : Int} (hon : 1 ≤ on) : othersL L who nm (lastOf (turnsL L who known) on 1) known = othersL L who nm on known := by
  unfold othersL
  congr 2
  funext o
  unfold stands latestL
  rw [latest_congr who nm o _ on known L none (fun x hx => so_last hG nm hon hx)]
end Go.Proofs.YtagdenpmonedlaaDoor
