/-
  What is read is valid, and its form is no longer than the text. Plain.
-/
import Derived.Test.YtgfaeeacndpniaaDoorParsePlain
import Derived.Test.YtgfaeeacndpniaaDoorValidP2
namespace Go.Proofs.YtgfaeeacndpniaaDoor
open Go.RowKit Go.Extern.Stop Go.Stop Go.Extern

theorem closeAll_cons (a : It) : ∀ r : List It, r ≠ [] → closeAll (a :: r) = a.addKid (closeAll r)
  | [], h => absurd rfl h
  | b :: r, _ => closeAll_two a b r
theorem closeAll_top (a : It) : ∀ r : List It, (closeAll (a :: r)).label = a.label ∧ (closeAll (a :: r)).head = a.head
  | [] => by rw [closeAll_one]; exact ⟨rfl, rfl⟩
  | b :: r => by rw [closeAll_two]; exact ⟨rfl, rfl⟩
theorem closeAll_end : ∀ (zs : List It) (c k : It), closeAll (zs ++ [c, k]) = closeAll (zs ++ [c.addKid k])
  | [], c, k => by rw [List.nil_append, List.nil_append, closeAll_two, closeAll_one, closeAll_one]
  | a :: zs, c, k => by
    rw [List.cons_append, List.cons_append, closeAll_cons a _ (by simp), closeAll_cons a _ (by simp), closeAll_end zs c k]
theorem closeAll_shut : ∀ (z : List It) (d : Nat), d < z.length → closeAll (z.take d ++ [closeAll (z.drop d)]) = closeAll z
  | [], d, h => by simp at h
  | a :: z, 0, _ => by rw [List.take_zero, List.drop_zero, List.nil_append, closeAll_one]
  | a :: z, d + 1, h => by
    have hz : d < z.length := by simpa using h
    have hne : z ≠ [] := fun e => by rw [e] at hz; simp at hz
    rw [List.take_succ_cons, List.drop_succ_cons, List.cons_append, closeAll_cons a _ (by simp), closeAll_shut z d hz, closeAll_cons a z hne]
theorem vKs_snoc (d : Nat) (k : It) : ∀ (l ah : List It) (n : Nat), vKs d n ah (l ++ [k]) = match vKs d n ah l with | .bad c => .bad c | .ok m => vIt (d + 1) (m + 1) (ah ++ l) k
  | [], ah, n => by
    rw [List.nil_append, vKs, vKs, List.append_nil]
    have h : ∀ o : VOut, (match o with | .bad c => VOut.bad c | .ok m => vKs d m (ah ++ [k]) []) = o := fun o => by
      cases o with
      | bad c => rfl
      | ok m => show vKs d m (ah ++ [k]) [] = _; rw [vKs]
    exact h _
  | x :: r, ah, n => by
    rw [List.cons_append, vKs, vKs]
    cases vIt (d + 1) (n + 1) ah x with
    | bad c => rfl
    | ok m =>
      show vKs d m (ah ++ [x]) (r ++ [k]) = _
      rw [vKs_snoc d k r (ah ++ [x]) m, List.append_assoc]
      rfl
theorem vIt_ok {d n m : Nat} {ah : List It} {t : It} (h1 : ¬ (6 < d ∨ 300 < n ∨ greatB t = true)) (h2 : labelOk d ah t = true) (h3 : textsOk t = true) (h4 : vKs d n [] t.kids = .ok m) : vIt d n ah t = .ok m := by
  rw [vIt_eq, if_neg h1, if_neg (by rw [h2]; decide), if_neg (by rw [h3]; decide)]; exact h4
theorem vIt_split {d n m : Nat} {ah : List It} {t : It} (h : vIt d n ah t = .ok m) : ¬ (6 < d ∨ 300 < n ∨ greatB t = true) ∧ labelOk d ah t = true ∧ textsOk t = true ∧ vKs d n [] t.kids = .ok m := by
  rw [vIt_eq] at h
  split at h
  · cases h
  · rename_i h1
    split at h
    · cases h
    · rename_i h2
      split at h
      · cases h
      · rename_i h3
        rw [Bool.not_eq_false] at h2 h3
        exact ⟨h1, h2, h3, h⟩
theorem great_kid (a k : It) : greatB (a.addKid k) = greatB a := rfl
theorem texts_kid (a k : It) : textsOk (a.addKid k) = textsOk a := rfl
theorem label_kid (d : Nat) (ah : List It) (a k : It) : labelOk d ah (a.addKid k) = labelOk d ah a := rfl
/-- A change at the end of the way inwards. -/
theorem v_spine (c c' : It) (m m' : Nat) : ∀ (zs : List It) (d n : Nat) (ah : List It), (∀ n ah, vIt (d + zs.length) n ah c = .ok m → vIt (d + zs.length) n ah c' = .ok m') → vIt d n ah (closeAll (zs ++ [c])) = .ok m → vIt d n ah (closeAll (zs ++ [c'])) = .ok m'
  | [], d, n, ah, hc, h => by
    rw [List.nil_append, closeAll_one] at h ⊢
    exact hc n ah h
  | a :: zs, d, n, ah, hc, h => by
    rw [List.cons_append, closeAll_cons a _ (by simp)] at h ⊢
    obtain ⟨h1, h2, h3, h4⟩ := vIt_split h
    have hk : ∀ K : It, (a.addKid K).kids = a.kids ++ [K] := fun K => rfl
    rw [hk, vKs_snoc] at h4
    refine vIt_ok h1 h2 h3 ?_
    rw [hk, vKs_snoc]
    cases hv : vKs d n [] a.kids with
    | bad c => rw [hv] at h4; cases h4
    | ok q =>
      rw [hv] at h4
      have h4 : vIt (d + 1) (q + 1) ([] ++ a.kids) (closeAll (zs ++ [c])) = .ok m := h4
      exact v_spine c c' m m' zs (d + 1) (q + 1) _ (fun n ah h => by
        have e : d + 1 + zs.length = d + (a :: zs).length := by rw [List.length_cons]; omega
        rw [e] at h ⊢
        exact hc n ah h) h4
theorem line_size {s : ByteArray} (h : lineB s = true) : s.size ≤ 300 := by
  unfold lineB at h
  simp only [Bool.and_eq_true, decide_eq_true_eq] at h
  exact h.1.1
theorem v_addLine {d n m : Nat} {ah : List It} {c : It} {s : ByteArray} (h : vIt d n ah c = .ok m) (hl : c.lines.length < 40) (hs : lineB s = true) : vIt d n ah (c.addLine s) = .ok m := by
  obtain ⟨h1, h2, h3, h4⟩ := vIt_split h
  refine vIt_ok ?_ h2 ?_ h4
  · rintro (e | e | e)
    · exact h1 (.inl e)
    · exact h1 (.inr (.inl e))
    · refine h1 (.inr (.inr ?_))
      unfold greatB at e ⊢
      have e1 : (c.addLine s).lines = c.lines ++ [s] := rfl
      have e2 : (c.addLine s).head = c.head := rfl
      have e3 : longB s = false := by unfold longB; apply decide_eq_false; have := line_size hs; omega
      rw [e1, e2, List.any_append, List.length_append, List.length_singleton] at e
      have e4 : decide (40 < c.lines.length + 1) = false := decide_eq_false (by omega)
      rw [e4] at e
      simp only [List.any_cons, List.any_nil, e3, Bool.or_false, Bool.false_or] at e
      rw [e, Bool.or_true]
  · unfold textsOk at h3 ⊢
    have e1 : (c.addLine s).lines = c.lines ++ [s] := rfl
    have e2 : (c.addLine s).head = c.head := rfl
    have e3 : badB s = false := by unfold badB; rw [hs]; rfl
    rw [e1, e2, List.any_append]
    simp only [List.any_cons, List.any_nil, e3, Bool.or_false]
    exact h3
theorem v_addKid {d n m : Nat} {ah : List It} {c : It} {a b : ByteArray} (h : vIt d n ah c = .ok m) (hd : d < 6) (hm : m < 300) (ha : isLab a = true) (hb : lineB b = true) (hk : hasKid c a = false) : vIt d n ah (c.addKid (It.mk a b [] [])) = .ok (m + 1) := by
  obtain ⟨h1, h2, h3, h4⟩ := vIt_split h
  refine vIt_ok h1 h2 h3 ?_
  show vKs d n [] (c.kids ++ [It.mk a b [] []]) = _
  rw [vKs_snoc, h4]
  show vIt (d + 1) (m + 1) ([] ++ c.kids) (It.mk a b [] []) = _
  refine vIt_ok ?_ ?_ ?_ ?_
  · rintro (e | e | e)
    · omega
    · omega
    · unfold greatB at e
      have e1 : (It.mk a b [] []).lines = [] := rfl
      have e2 : (It.mk a b [] []).head = b := rfl
      have e3 : longB b = false := by unfold longB; apply decide_eq_false; have := line_size hb; omega
      rw [e1, e2, e3] at e
      simp at e
  · unfold labelOk
    rw [if_neg (by omega)]
    show (isLab a && !(List.any ([] ++ c.kids) fun k => k.label.toList == a.toList)) = true
    rw [ha]
    have : (List.any ([] ++ c.kids) fun k => k.label.toList == a.toList) = false := hk
    rw [this]; rfl
  · unfold textsOk
    show (lineB b && !(List.any [] badB)) = true
    rw [hb]; rfl
  · show vKs (d + 1) (m + 1) [] [] = _
    rw [vKs]
/-- How much longer the form becomes. -/
theorem f_spine (c c' : It) (x : Nat) (hl : c'.label = c.label) (hh : c'.head = c.head) : ∀ (zs : List It) (d : Nat), (contL (d + zs.length) c').length = (contL (d + zs.length) c).length + x → (contL d (closeAll (zs ++ [c']))).length = (contL d (closeAll (zs ++ [c]))).length + x
  | [], d, h => by
    rw [List.nil_append, List.nil_append, closeAll_one, closeAll_one]
    exact h
  | a :: zs, d, h => by
    have ih := f_spine c c' x hl hh zs (d + 1) (by
      have e : d + 1 + zs.length = d + (a :: zs).length := by rw [List.length_cons]; omega
      rw [e]; exact h)
    have hlab : (closeAll (zs ++ [c'])).label = (closeAll (zs ++ [c])).label ∧ (closeAll (zs ++ [c'])).head = (closeAll (zs ++ [c])).head := by
      cases zs with
      | nil => rw [List.nil_append, List.nil_append, closeAll_one, closeAll_one]; exact ⟨hl, hh⟩
      | cons b r =>
        rw [List.cons_append, List.cons_append]
        have h1 := closeAll_top b (r ++ [c'])
        have h2 := closeAll_top b (r ++ [c])
        exact ⟨h1.1.trans h2.1.symm, h1.2.trans h2.2.symm⟩
    have hk : ∀ K : It, (contL d (a.addKid K)).length = (linesL d a.lines).length + (contKs d a.kids).length + (rowL d (bl K.label) (bl K.head)).length + (contL (d + 1) K).length := fun K => by
      rw [contL_eq]
      show (linesL d a.lines ++ contKs d (a.kids ++ [K])).length = _
      rw [contKs_app, contKs, contKs, List.append_nil, List.length_append, List.length_append, List.length_append]
      omega
    rw [List.cons_append, List.cons_append, closeAll_cons a _ (by simp), closeAll_cons a _ (by simp), hk, hk, hlab.1, hlab.2, ih]
    omega
theorem c_addLine (d : Nat) (c : It) (s : ByteArray) : (contL d (c.addLine s)).length = (contL d c).length + (rowL d bar (bl s)).length := by
  rw [contL_eq, contL_eq]
  show (linesL d (c.lines ++ [s]) ++ contKs d c.kids).length = _
  rw [linesL_app, linesL, linesL, List.append_nil, List.length_append, List.length_append, List.length_append]
  omega
theorem c_addKid (d : Nat) (c : It) (a b : ByteArray) : (contL d (c.addKid (It.mk a b [] []))).length = (contL d c).length + (rowL d (bl a) (bl b)).length := by
  rw [contL_eq, contL_eq]
  show (linesL d c.lines ++ contKs d (c.kids ++ [It.mk a b [] []])).length = _
  have e : contL (d + 1) (It.mk a b [] []) = [] := by rw [contL_eq]; show linesL (d + 1) [] ++ contKs (d + 1) [] = []; rw [linesL, contKs]; rfl
  rw [contKs_app, contKs, contKs, e, List.append_nil, List.append_nil, List.length_append, List.length_append, List.length_append]
  show _ + (_ + (rowL d (bl a) (bl b)).length) = _
  omega
theorem rowL_len2 (d : Nat) (f t : List UInt8) : (rowL d f t).length = 2 * d + f.length + (tailL t).length + 1 := by
  unfold rowL
  simp only [List.length_append, List.length_replicate, List.length_cons, List.length_nil]
  omega
theorem rt_inv {r s : ByteArray} (h : rt r = (0, s)) : lineB s = true ∧ r.size = (tailL (bl s)).length := by
  unfold rt at h
  by_cases h0 : r.size = 0
  · rw [dif_pos h0] at h
    injection h with _ h
    subst h
    exact ⟨by unfold lineB; rw [(plain_iff _).2 (fun c hc => by cases hc), (edgeB_iff _).2 (And.intro (fun b hb => (by cases hb)) (fun b hb => (by cases hb)))]; rfl, by rw [h0]; rfl⟩
  · rw [dif_neg h0] at h
    split at h
    · split at h
      · injection h with h; omega
      · split at h
        · injection h with h; omega
        · rename_i h3
          injection h with _ h
          subst h
          have h4 : (r.extract 1 r.size).size ≠ 0 ∧ lineB (r.extract 1 r.size) = true := by
            refine ⟨fun e => h3 (.inl e), ?_⟩
            cases e : lineB (r.extract 1 r.size)
            · exact absurd (.inr e) h3
            · rfl
          refine ⟨h4.2, ?_⟩
          unfold tailL
          rw [if_neg (by rw [bl_len]; exact h4.1), List.length_cons, bl_ext, List.length_take, List.length_drop, size_bl]
          omega
    · split at h
      · injection h with h; omega
      · injection h with h; omega
/-- What the reader holds so far. -/
def VZ (z : List It) (n L : Nat) : Prop := (z = [] ∧ n = 0) ∨ (z ≠ [] ∧ vIt 0 0 [] (closeAll z) = .ok n ∧ (formL (closeAll z)).length ≤ L)
theorem vz_law {row : ByteArray} {z' : List It} {n' L : Nat} (h : lawAt 0 (lawS row) = .good z' n') : VZ z' n' (L + (row.size + 1)) := by
  unfold lawS at h
  split at h
  · rename_i hp
    split at h
    · rename_i h0
      have h1 : rt (row.extract 3 row.size) = (0, (rt (row.extract 3 row.size)).2) := by rw [← h0]
      obtain ⟨h2, h3⟩ := rt_inv h1
      generalize (rt (row.extract 3 row.size)).2 = b at *
      injection h with e1 e2
      subst e1 e2
      have hs : row.size = 3 + (tailL (bl b)).length := by
        have h5 : 3 ≤ row.size := by
          have := hp.1
          rw [← size_bl]
          match hb : bl row, this with
          | [], h => simp [Lib.hasPrefix] at h
          | [_], h => simp [Lib.hasPrefix] at h
          | [_, _], h => simp [Lib.hasPrefix] at h
          | _ :: _ :: _ :: _, _ => simp
        have h6 : (row.extract 3 row.size).size = row.size - 3 := by rw [← size_bl, bl_ext, List.length_take, List.length_drop, size_bl]; omega
        omega
      refine .inr ⟨by simp, ?_, ?_⟩
      · rw [closeAll_one]
        refine vIt_ok ?_ ?_ ?_ ?_
        · rintro (e | e | e)
          · omega
          · omega
          · unfold greatB at e
            have e3 : longB b = false := by unfold longB; apply decide_eq_false; have := line_size h2; omega
            have e1 : (It.mk ⟨#[]⟩ b [] []).lines = [] := rfl
            have e2 : (It.mk ⟨#[]⟩ b [] []).head = b := rfl
            rw [e1, e2, e3] at e
            simp at e
        · rfl
        · unfold textsOk
          show (lineB b && !(List.any [] badB)) = true
          rw [h2]; rfl
        · show vKs 0 0 [] [] = _
          rw [vKs]
      · rw [closeAll_one]
        unfold formL
        have e : contL 0 (It.mk ⟨#[]⟩ b [] []) = [] := by rw [contL_eq]; show linesL 0 [] ++ contKs 0 [] = []; rw [linesL, contKs]; rfl
        rw [e, List.append_nil, rowL_len2]
        show 2 * 0 + 3 + (tailL (bl b)).length + 1 ≤ _
        omega
    · cases h
  · cases h
theorem vz_line {z : List It} {n d L : Nat} {rest row : ByteArray} {z' : List It} {n' : Nat} (hv : VZ z n L) (hz : z ≠ []) (hs : row.size = 2 * d + 1 + rest.size) (h : lineS z n d rest = .good z' n') : VZ z' n' (L + (row.size + 1)) := by
  rcases hv with ⟨e, _⟩ | ⟨_, hv, hf⟩
  · exact absurd e hz
  unfold lineS at h
  split at h
  · cases h
  · rename_i hd
    split at h
    · cases h
    · rename_i hl
      split at h
      · rename_i h0
        have h1 : rt rest = (0, (rt rest).2) := by rw [← h0]
        obtain ⟨h2, h3⟩ := rt_inv h1
        generalize (rt rest).2 = s at *
        injection h with e1 e2
        subst e1 e2
        have hdl : d < z.length := by omega
        have hsh := shutB_last (z := z) (k := d) (by omega)
        unfold shutB at hsh
        generalize hc : closeAll (z.drop d) = c at *
        obtain ⟨zs, hzs⟩ : ∃ zs, zs = z.take d := ⟨_, rfl⟩
        rw [← hzs] at hsh
        have hzl : zs.length = d := by rw [hzs, List.length_take]; omega
        have hset : z.set d (c.addLine s) = zs ++ [c.addLine s] := by
          rw [← hsh, List.set_append_right _ _ (by omega), hzl, Nat.sub_self]; rfl
        have hcl : c.lines.length ≤ 40 := by
          have hcase : ∀ (zs : List It) (d n m : Nat) (ah : List It), vIt d n ah (closeAll (zs ++ [c])) = .ok m → c.lines.length ≤ 40 := by
            intro zs
            induction zs with
            | nil => intro d n m ah h; rw [List.nil_append, closeAll_one] at h; exact (v_parts h).2.2.1
            | cons a r ih =>
              intro d n m ah h
              rw [List.cons_append, closeAll_cons a _ (by simp)] at h
              obtain ⟨_, _, _, h4⟩ := vIt_split h
              have h4 : vKs d n [] (a.kids ++ [closeAll (r ++ [c])]) = .ok m := h4
              rw [vKs_snoc] at h4
              cases hv : vKs d n [] a.kids with
              | bad c => rw [hv] at h4; cases h4
              | ok q => rw [hv] at h4; exact ih (d + 1) (q + 1) m _ h4
          rw [← hsh] at hv
          exact hcase zs 0 0 _ [] hv
        rw [hset]
        rw [← hsh] at hv hf
        refine .inr ⟨by simp, v_spine c (c.addLine s) n n zs 0 0 [] (fun n ah h => v_addLine h (by omega) h2) hv, ?_⟩
        have h5 := f_spine c (c.addLine s) (rowL d bar (bl s)).length rfl rfl zs 0 (by rw [hzl, Nat.zero_add]; exact c_addLine d c s)
        have h6 : (closeAll (zs ++ [c.addLine s])).head = (closeAll (zs ++ [c])).head := by
          cases zs with
          | nil => rw [List.nil_append, List.nil_append, closeAll_one, closeAll_one]; rfl
          | cons b r => rw [List.cons_append, List.cons_append]; exact (closeAll_top b _).2.trans (closeAll_top b _).2.symm
        unfold formL at hf ⊢
        rw [List.length_append] at hf ⊢
        rw [h6, h5]
        have h7 := rowL_len2 d bar (bl s)
        have : bar.length = 1 := rfl
        omega
      · cases h
theorem vz_prov {z : List It} {n d L : Nat} {body row : ByteArray} {z' : List It} {n' : Nat} (hv : VZ z n L) (hz : z ≠ []) (hd : d < z.length) (hs : row.size = 2 * d + body.size) (h : provS z n d body = .good z' n') : VZ z' n' (L + (row.size + 1)) := by
  rcases hv with ⟨e, _⟩ | ⟨_, hv, hf⟩
  · exact absurd e hz
  unfold provS at h
  split at h
  · cases h
  · rename_i h7
    split at h
    · cases h
    · rename_i hb
      split at h
      · rename_i h0
        have h1 : rt (body.extract (runP nbN body) body.size) = (0, (rt (body.extract (runP nbN body) body.size)).2) := by rw [← h0]
        obtain ⟨h2, h3⟩ := rt_inv h1
        generalize (rt (body.extract (runP nbN body) body.size)).2 = s at *
        have hk := runP_le nbN body
        have hbs : body.size = (body.extract 0 (runP nbN body)).size + (tailL (bl s)).length := by
          rw [← h3, ← size_bl (body.extract 0 _), ← size_bl (body.extract (runP nbN body) _), bl_ext, bl_ext, List.length_take, List.length_take, List.length_drop, List.length_drop, size_bl]
          omega
        generalize body.extract 0 (runP nbN body) = a at *
        injection h with e1 e2
        subst e1 e2
        have hla : isLab a = true := by cases e : isLab a; exact absurd (.inl e) h7; rfl
        have hhk : hasKid (closeAll (z.drop d)) a = false := by cases e : hasKid (closeAll (z.drop d)) a; rfl; exact absurd (.inr e) h7
        have hsh := closeAll_shut z d hd
        generalize hc : closeAll (z.drop d) = c at *
        obtain ⟨zs, hzs⟩ : ∃ zs, zs = z.take d := ⟨_, rfl⟩
        rw [← hzs] at hsh
        have hzl : zs.length = d := by rw [hzs, List.length_take]; omega
        have hz' : shutB d z ++ [It.mk a s [] []] = zs ++ [c, It.mk a s [] []] := by unfold shutB; rw [hc, ← hzs, List.append_assoc]; rfl
        rw [hz']
        rw [← hsh] at hv hf
        refine .inr ⟨by simp, ?_, ?_⟩
        · rw [closeAll_end]
          refine v_spine c (c.addKid (It.mk a s [] [])) n (n + 1) zs 0 0 [] (fun n' ah h => ?_) hv
          rw [hzl, Nat.zero_add] at h ⊢
          exact v_addKid h (by omega) (by omega) hla h2 hhk
        · rw [closeAll_end]
          have h5 := f_spine c (c.addKid (It.mk a s [] [])) (rowL d (bl a) (bl s)).length rfl rfl zs 0 (by rw [hzl, Nat.zero_add]; exact c_addKid d c a s)
          have h6 : (closeAll (zs ++ [c.addKid (It.mk a s [] [])])).head = (closeAll (zs ++ [c])).head := by
            cases zs with
            | nil => rw [List.nil_append, List.nil_append, closeAll_one, closeAll_one]; rfl
            | cons b r => rw [List.cons_append, List.cons_append]; exact (closeAll_top b _).2.trans (closeAll_top b _).2.symm
          unfold formL at hf ⊢
          rw [List.length_append] at hf ⊢
          rw [h6, h5]
          have h7 := rowL_len2 d (bl a) (bl s)
          rw [bl_len] at h7
          omega
      · cases h
theorem vz_take {z : List It} {n L : Nat} {row : ByteArray} {z' : List It} {n' : Nat} (hv : VZ z n L) (h : takeS z n row = .good z' n') : VZ z' n' (L + (row.size + 1)) := by
  unfold takeS at h
  split at h
  · cases h
  · split at h
    · rename_i h0
      have hz : z = [] := List.eq_nil_of_length_eq_zero h0
      have hn : n = 0 := by
        rcases hv with ⟨_, e⟩ | ⟨e, _⟩
        · exact e
        · exact absurd hz e
      subst hn
      exact vz_law h
    · rename_i hz0
      have hz : z ≠ [] := fun e => hz0 (by rw [e]; rfl)
      split at h
      · cases h
      · rename_i h2
        have hr := runP_le blN row
        have hev : 2 * (runP blN row / 2) = runP blN row := by omega
        have hes : (row.extract (runP blN row) row.size).size = row.size - runP blN row := by rw [← size_bl, bl_ext, List.length_take, List.length_drop, size_bl]; omega
        split at h
        · rename_i h3
          have h4 : 0 < (row.extract (runP blN row) row.size).size := by
            unfold startsAt at h3
            by_cases h5 : 0 < (row.extract (runP blN row) row.size).size
            · exact h5
            · rw [dif_neg h5] at h3; cases h3
          have h6 : ((row.extract (runP blN row) row.size).extract 1 (row.extract (runP blN row) row.size).size).size = (row.extract (runP blN row) row.size).size - 1 := by rw [← size_bl, bl_ext, List.length_take, List.length_drop, size_bl]; omega
          exact vz_line hv hz (by omega) h
        · exact vz_prov hv hz (by omega) (by omega) h
theorem vz_goR : ∀ (rows : List ByteArray) (z : List It) (n i L : Nat) (t : It), VZ z n L → goR z n i rows = .good t → ∃ m, vIt 0 0 [] t = .ok m ∧ (formL t).length ≤ L + (rows.map fun r => r.size + 1).sum
  | [], z, n, i, L, t, hv, h => by
    rw [goR] at h
    split at h
    · cases h
    · rename_i h0
      injection h with h
      subst h
      rcases hv with ⟨e, _⟩ | ⟨_, h1, h2⟩
      · exact absurd (by rw [e]; rfl) h0
      · exact ⟨n, h1, by simpa using h2⟩
  | row :: r, z, n, i, L, t, hv, h => by
    rw [goR] at h
    rw [List.map_cons, List.sum_cons]
    split at h
    · obtain ⟨m, h1, h2⟩ := vz_goR r z n (i + 1) L t hv h
      exact ⟨m, h1, by omega⟩
    · cases ht : takeS z n row with
      | bad c => rw [ht] at h; cases h
      | good z' n' =>
        rw [ht] at h
        obtain ⟨m, h1, h2⟩ := vz_goR r z' n' (i + 1) (L + (row.size + 1)) t (vz_take hv ht) h
        exact ⟨m, h1, by omega⟩
theorem spl_sum : ∀ l : List UInt8, ((spl l).map fun r => r.length + 1).sum = l.length + 1
  | [] => rfl
  | c :: r => by
    have ih := spl_sum r
    by_cases hc : c = 10
    · subst hc; rw [spl_10, List.map_cons, List.sum_cons, ih, List.length_cons]; simp; omega
    · obtain ⟨g, t, e⟩ : ∃ g t, spl r = g :: t := by
        cases h : spl r with
        | nil => exact absurd h (spl_ne r)
        | cons g t => exact ⟨g, t, rfl⟩
      rw [spl_c hc e]
      rw [e, List.map_cons, List.sum_cons] at ih
      rw [List.map_cons, List.sum_cons, List.length_cons, List.length_cons]
      omega
theorem rows_sum (s : ByteArray) : ((rowsB s).map fun r => r.size + 1).sum ≤ s.size + 1 := by
  have h := spl_sum (bl s)
  rw [size_bl] at h
  unfold rowsB
  rw [List.map_map]
  have e : ((fun r : ByteArray => r.size + 1) ∘ ofL) = fun r : List UInt8 => r.length + 1 := by
    funext r
    show (ofL r).size + 1 = _
    rw [ofL_len]
  rw [e]
  unfold rowsL
  split
  · rename_i h1
    obtain ⟨o, x, e2⟩ : ∃ o x, spl (bl s) = o ++ [x] := by
      rcases List.eq_nil_or_concat (spl (bl s)) with h0 | ⟨a, b, hab⟩
      · exact absurd h0 (spl_ne _)
      · exact ⟨a, b, by rw [hab]; simp⟩
    rw [e2] at h ⊢
    rw [List.dropLast_concat]
    rw [List.map_append, List.sum_append] at h
    omega
  · omega
/-- What is read is valid; its form is no longer than the text and one byte. -/
theorem read_valid {s : ByteArray} {t : It} (h : readB s = .good t) : ∃ m, vIt 0 0 [] t = .ok m ∧ (formL t).length ≤ s.size + 1 := by
  unfold readB at h
  split at h
  · cases h
  · obtain ⟨m, h1, h2⟩ := vz_goR _ [] 0 0 0 t (.inl ⟨rfl, rfl⟩) h
    have := rows_sum s
    exact ⟨m, h1, by omega⟩
theorem size_cont : ∀ (N : Nat) (t : It), sizeIt t ≤ N → ∀ d, sizeBs t.lines + sizeIts t.kids ≤ (contL d t).length
  | 0, t, h, d => by have := sizeIt_eq t; omega
  | N + 1, t, h, d => by
    have hl : ∀ l : List ByteArray, sizeBs l ≤ (linesL d l).length := by
      intro l
      induction l with
      | nil => simp [sizeBs]
      | cons s r ih =>
        rw [sizeBs, linesL, List.length_append, rowL_len2]
        have : s.size ≤ (tailL (bl s)).length := by unfold tailL; split; rename_i h; rw [bl_len] at h; omega; rw [List.length_cons, bl_len]; omega
        omega
    have hk : ∀ l : List It, (∀ x ∈ l, sizeIt x ≤ N) → sizeIts l ≤ (contKs d l).length := by
      intro l
      induction l with
      | nil => intro _; simp [sizeIts]
      | cons x r ih =>
        intro hx
        have h1 := ih (fun y hy => hx y (List.mem_cons_of_mem _ hy))
        have h2 := size_cont N x (hx x (by simp)) (d + 1)
        have h3 := sizeIt_eq x
        rw [sizeIts, contKs, List.length_append, List.length_append, rowL_len2, bl_len]
        have : x.head.size ≤ (tailL (bl x.head)).length := by unfold tailL; split; rename_i h; rw [bl_len] at h; omega; rw [List.length_cons, bl_len]; omega
        omega
    have h1 := hl t.lines
    have h2 := hk t.kids (fun x hx => by have := kid_size hx; omega)
    rw [contL_eq, List.length_append]
    omega
theorem v_count : ∀ (N : Nat) (t : It), sizeIt t ≤ N → ∀ (d n m : Nat) (ah : List It), vIt d n ah t = .ok m → n ≤ m
  | 0, t, h, d, n, m, ah, _ => by have := sizeIt_eq t; omega
  | N + 1, t, h, d, n, m, ah, hv => by
    have hks : ∀ (l ah : List It) (n : Nat), (∀ x ∈ l, sizeIt x ≤ N) → vKs d n ah l = .ok m → n ≤ m := by
      intro l
      induction l with
      | nil => intro ah n _ h; rw [vKs] at h; injection h with h; omega
      | cons x r ih =>
        intro ah n hx h
        rw [vKs] at h
        cases hvx : vIt (d + 1) (n + 1) ah x with
        | bad c => rw [hvx] at h; cases h
        | ok q =>
          rw [hvx] at h
          have h1 := v_count N x (hx x (by simp)) (d + 1) (n + 1) q ah hvx
          have h2 := ih (ah ++ [x]) q (fun y hy => hx y (List.mem_cons_of_mem _ hy)) h
          omega
    exact hks t.kids [] n (fun x hx => by have := kid_size hx; omega) (v_parts hv).2.2.2.2.2.2
theorem vKs_count : ∀ (l : List It) (d n m : Nat) (ah : List It), vKs d n ah l = .ok m → n + l.length ≤ m
  | [], d, n, m, ah, h => by rw [vKs] at h; injection h with h; simp; omega
  | x :: r, d, n, m, ah, h => by
    rw [vKs] at h
    cases hv : vIt (d + 1) (n + 1) ah x with
    | bad c => rw [hv] at h; cases h
    | ok q =>
      rw [hv] at h
      have h1 := vKs_count r d q m (ah ++ [x]) h
      have h2 := v_count _ x (Nat.le_refl _) (d + 1) (n + 1) q ah hv
      rw [List.length_cons]
      omega
theorem few_valid : ∀ (N : Nat) (t : It), sizeIt t ≤ N → ∀ (d n m : Nat) (ah : List It), vIt d n ah t = .ok m → FewIt t
  | 0, t, h, d, n, m, ah, _ => by have := sizeIt_eq t; omega
  | N + 1, t, h, d, n, m, ah, hv => by
    obtain ⟨_, _, hl, hlo, hh, hlb, hks⟩ := v_parts hv
    have hm := vIt_le _ t (Nat.le_refl _) d n ah m hv
    have hc := vKs_count t.kids d n m [] hks
    have hlab : t.label.size ≤ 6 := by
      unfold labelOk at hlo
      split at hlo
      · have := of_decide_eq_true hlo; omega
      · rw [Bool.and_eq_true] at hlo
        obtain ⟨_, _, _, _, _, _, _, h6⟩ := lab_first hlo.1
        exact h6
    have hks2 : ∀ (l ah : List It) (n : Nat), (∀ x ∈ l, sizeIt x ≤ N) → vKs d n ah l = .ok m → ∀ x ∈ l, FewIt x := by
      intro l
      induction l with
      | nil => intro ah n _ _ x hx; cases hx
      | cons x r ih =>
        intro ah n hx hv y hy
        rw [vKs] at hv
        cases hvx : vIt (d + 1) (n + 1) ah x with
        | bad c => rw [hvx] at hv; cases hv
        | ok q =>
          rw [hvx] at hv
          rcases List.mem_cons.1 hy with rfl | hy
          · exact few_valid N y (hx y (by simp)) (d + 1) (n + 1) q ah hvx
          · exact ih (ah ++ [x]) q (fun z hz => hx z (List.mem_cons_of_mem _ hz)) hv y hy
    refine .mk t (by omega) (by omega) (fun s hs => by have := line_size (hlb s hs); omega) (by have := line_size hh; omega) (by omega) ?_
    exact hks2 t.kids [] n (fun x hx => by have := kid_size hx; omega) hks
theorem scan_pos : ∀ (l : List FRow) (i c : Nat), scanF i l = .bad c → c ≠ 0
  | [], i, c, h => by rw [scanF] at h; cases h
  | r :: l, i, c, h => by
    rw [scanF] at h
    split at h
    · exact scan_pos l (i + 1) c h
    · rename_i hn
      injection h with h
      subst h
      exact hn
theorem vIt_pos {t : It} {c : Nat} (h : vIt 0 0 [] t = .bad c) : c ≠ 0 := by
  have := scan_law t
  rw [h] at this
  exact scan_pos _ _ _ this
theorem size_form {t : It} {m : Nat} (hv : vIt 0 0 [] t = .ok m) : sizeIt t ≤ (formL t).length := by
  have h1 := sizeIt_eq t
  have h2 := size_cont _ t (Nat.le_refl _) 0
  have h3 : t.label.size = 0 := by
    have hlo := (v_parts hv).2.2.2.1
    unfold labelOk at hlo
    rw [if_pos rfl, decide_eq_true_eq] at hlo
    exact hlo
  have h4 : t.head.size ≤ (tailL (bl t.head)).length := by unfold tailL; split; rename_i h; rw [bl_len] at h; omega; rw [List.length_cons, bl_len]; omega
  unfold formL
  rw [List.length_append, rowL_len2]
  have : lawL.length = 3 := rfl
  omega
end Go.Proofs.YtgfaeeacndpniaaDoor
