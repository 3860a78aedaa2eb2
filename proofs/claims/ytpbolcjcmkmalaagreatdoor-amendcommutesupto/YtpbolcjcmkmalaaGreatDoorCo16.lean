/-
  What comes of changes is right: so changes together are the first ones, and then the others. Plain.
-/
import Derived.Test.YtpbolcjcmkmalaaGreatDoorCo15
import Derived.LaidEqlPtr
import Derived.Deep.Quiet
import Derived.Test.YtpbolcjcmkmalaaGreatDoorShelfR
namespace Go.Proofs.YtpbolcjcmkmalaaGreatDoor
open Go.RowKit Go.Extern.Stop Go.Stop Go.Extern

/-- A law that is right. -/
def Law (t : It) : Prop := Rgt 0 t ∧ cntIt t ≤ 300
theorem law_iff {t : It} : Law t ↔ ∃ m, vIt 0 0 [] t = .ok m := valid_iff.symm
theorem law_set {t x y : It} {p : List ByteArray} (h : Law t) (hx : findW t p = some x) (hy : Rgt (0 + p.length) y) (hl : y.label = x.label) (hc : cntIt y ≤ cntIt x) : Law (setW (fun _ => y) p t) := by
  refine ⟨set_rgt p 0 t x y h.1 hx hy hl, ?_⟩
  have := set_cnt p t x y hx
  have := h.2
  omega
theorem law_one {t u : It} {o : OpW} (h : Law t) (e : oneC t o = .ok u) : Law u := by
  unfold oneC at e
  split at e
  · split at e
    · cases e
    · rename_i x hx
      split at e
      · cases e
      · rename_i y hy
        injection e with e
        subst e
        have hxr := find_rgt _ 0 t x h.1 hx
        obtain ⟨h1, h2, h3⟩ := rg_text hxr.rg hy
        refine law_set h hx (h1.rgt _ ?_ ?_) h2 ?_
        · rw [h2]; exact hxr.is.1.2.2.1
        · have := hxr.deep
          rw [levIt_eq] at this ⊢
          rw [h3]
          exact this
        · rw [cntIt_eq, cntIt_eq x, h3]
          exact Nat.le_refl _
  · split at e
    · unfold putC at e
      split at e
      · cases e
      · split at e
        · cases e
        · split at e
          · cases e
          · split at e
            · cases e
            · rename_i m hv
              injection e with e
              subst e
              exact law_iff.2 ⟨m, hv⟩
    · split at e
      · unfold repealC at e
        split at e
        · cases e
        · rename_i x i hx
          obtain ⟨p0, l, k, hp, h1, h2, h3, h4⟩ := ar_some hx
          injection e with e
          rw [hp, List.dropLast_concat] at e
          subst e
          refine law_set h h1 (rgt_erase (find_rgt _ 0 t x h.1 h1) i) rfl ?_
          rw [cntIt_eq, cntIt_eq x]
          have := cntKs_erase x.kids i k h3
          show cntKs (x.kids.eraseIdx i) ≤ _
          omega
      · split at e
        · unfold labelC at e
          split at e
          · cases e
          · rename_i x i hx
            obtain ⟨p0, l, k, hp, h1, h2, h3, h4⟩ := ar_some hx
            split at e
            · cases e
            · rename_i hc
              injection e with e
              rw [hp, List.dropLast_concat, h3] at e
              have h5 : (some k).getD It.none = k := rfl
              rw [h5] at e
              subst e
              have hs : isLab o.text = true := by
                cases hb : isLab o.text
                · exact absurd (.inl hb) hc
                · rfl
              have hxr := find_rgt _ 0 t x h.1 h1
              refine law_set h h1 (rgt_relabel hxr h3 hs fun j y hy hj => ?_) rfl ?_
              · cases hb : (y.label.toList == o.text.toList)
                · rfl
                · refine absurd (.inr ?_) hc
                  have hyl := same_bytes.1 hb
                  obtain ⟨j', hj'⟩ := idxL_mem.2 (hyl ▸ List.mem_map.2 ⟨y, List.mem_of_getElem? hy, rfl⟩ : o.text ∈ labs x.kids)
                  refine ⟨j', by rw [kidIx_idx]; exact hj', fun e2 => hj ?_⟩
                  subst e2
                  obtain ⟨hjl, e3⟩ := List.getElem?_eq_some_iff.1 (idxL_some hj')
                  obtain ⟨hyl2, e4⟩ := List.getElem?_eq_some_iff.1 hy
                  refine nodup_inj (nodup_of hxr.is.2.1) (by simpa [labs] using hyl2) hjl ?_
                  rw [e3, ← hyl, ← e4]
                  simp [labs]
              · rw [cntIt_eq, cntIt_eq x]
                have h6 := cntKs_set x.kids i k (k.setLabel o.text) h3
                have h7 : cntIt (k.setLabel o.text) = cntIt k := by rw [cntIt_eq, cntIt_eq k]; rfl
                show cntKs (x.kids.set i (k.setLabel o.text)) ≤ _
                omega
        · split at e
          · rename_i hk
            have hX := x_of_c (t := t) (u := u) (o := o) (by unfold oneC; rw [hk, if_neg (by omega), if_neg (by omega), if_neg (by omega), if_neg (by omega), if_pos rfl]; exact e)
            unfold oneX at hX
            rw [hk, if_neg (by omega), if_pos rfl] at hX
            obtain ⟨p0, l, x, i, k, y, z, j, hp, h1, h2, h3, h4, hy, c1, c2, c3, c4, hz, hj, rfl⟩ := move_some hX
            have hdeep : ¬ 6 < (partsB o.new).length + levIt k := by
              unfold moveC at e
              have h5 : (x.kids[i]?).getD It.none = k := by rw [h3]; rfl
              rw [hp, ar_of h1 h2, hy] at e
              simp only [List.dropLast_concat, h5] at e
              rw [if_neg c1, if_neg (fun e => e.elim c2 (by rw [h4]; exact c3)), if_neg (fun e => c4 e.1 (by rw [← h4]; exact ix_some.1 e.2))] at e
              split at e
              · cases e
              · assumption
            have hrg := (rg_x (t := t) (o := o) h.1.rg (by unfold oneX; rw [hk, if_neg (by omega), if_pos rfl]; exact hX)).1
            have hxr := find_rgt _ 0 t x h.1 h1
            have hless : Law (lessW t x i p0) := law_set h h1 (rgt_erase hxr i) rfl (by
              rw [cntIt_eq, cntIt_eq x]
              have := cntKs_erase x.kids i k h3
              show cntKs (x.kids.eraseIdx i) ≤ _
              omega)
            have hcl : cntIt (lessW t x i p0) + 1 + cntIt k = cntIt t := by
              have h5 := set_cnt p0 t x (x.setKids (x.kids.eraseIdx i)) h1
              have h6 := cntKs_erase x.kids i k h3
              have h7 : cntIt (x.setKids (x.kids.eraseIdx i)) = cntKs (x.kids.eraseIdx i) := cntIt_eq _
              rw [cntIt_eq x] at h5
              show cntIt (setW (fun _ => x.setKids (x.kids.eraseIdx i)) p0 t) + 1 + cntIt k = _
              omega
            have hzr := find_rgt _ 0 _ z hless.1 hz
            have hle : j ≤ z.kids.length := by
              rw [behIx_beh] at hj
              have := behB_le hj
              simpa [labs] using this
            have hkr := rgt_lev (hxr.is.2.2 k (List.mem_of_getElem? h3)) (0 + (partsB o.new).length + 1) (by omega) (by omega) (by omega)
            have hnew := find_rg _ _ _ hrg (findW_at (y := z.setKids (z.kids.insertIdx j k)) hz rfl)
            have hnn : k.label ∉ labs z.kids := by
              have h8 : (labs (z.kids.insertIdx j k)).Nodup := hnew.is.2.1
              rw [labs_insert] at h8
              exact (List.nodup_cons.1 ((List.perm_insertIdx k.label (labs z.kids) (by simpa [labs] using hle)).nodup_iff.1 h8)).1
            refine ⟨set_rgt _ 0 _ z _ hless.1 hz (rgt_insert hzr hkr hle fun y hy => ?_) rfl, ?_⟩
            · cases hb : (y.label.toList == k.label.toList)
              · rfl
              · exact absurd (same_bytes.1 hb ▸ List.mem_map.2 ⟨y, hy, rfl⟩) hnn
            · have h5 := set_cnt _ _ z (z.setKids (z.kids.insertIdx j k)) hz
              have h6 := cntKs_insert z.kids j k hle
              have h7 : cntIt (z.setKids (z.kids.insertIdx j k)) = cntKs (z.kids.insertIdx j k) := cntIt_eq _
              rw [cntIt_eq z] at h5
              have := h.2
              omega
          · cases e
theorem law_all : ∀ (ops : List OpW) (i : Nat) (t u : It), Law t → allC i t ops = .ok u → Law u
  | [], i, t, u, h, e => by rw [allC] at e; injection e with e; exact e ▸ h
  | o :: r, i, t, u, h, e => by
    rw [allC] at e
    cases hc : oneC t o with
    | bad c => rw [hc] at e; cases e
    | ok x => rw [hc] at e; exact law_all r (i + 1) x u (law_one h hc) e
/-- CONSOLIDATION IS A FOLD. -/
theorem folds {t u : It} {ops : List OpW} (h : Law t) (e : allC 0 t ops = .ok u) (k : Nat) : ∃ y, allC 0 t (ops.take k) = .ok y ∧ Law y ∧ allC 0 y (ops.drop k) = .ok u := by
  rw [← List.take_append_drop k ops, allC_append] at e
  cases hc : allC 0 t (ops.take k) with
  | bad j c => rw [hc] at e; cases e
  | ok y =>
    rw [hc] at e
    exact ⟨y, rfl, law_all _ 0 t y h hc, allC_ok _ _ 0 y u e⟩
end Go.Proofs.YtpbolcjcmkmalaaGreatDoor
namespace Go.Proofs.YtpbolcjcmkmalaaGreatDoor
open Go.RowKit Go.Extern.Stop Go.Stop Go.Extern

theorem ItAt.on {w w' : World} {B b o : Nat} {t : It} {S : Nat → Prop} {v : Nat → Value} (h : ItAt w B b o t S v) (hb : Below w.heap.size w w') : ItAt w' B b o t S v := by
  obtain ⟨cur, ty, e, hc⟩ := h.here
  exact ⟨⟨cur, ty, (hb.block b h.lt).trans e, hc⟩, h.own.step (fun g hg => hb.block g (h.own.in g hg).2) hb.size, h.out⟩
/-- New blocks alone: the same provision. -/
theorem Foc.on {w w' : World} {B b o : Nat} {t : It} {S : Nat → Prop} {p : List ByteArray} {b' o' : Nat} {x : It} {S' : Nat → Prop} {v' : Nat → Value} (h : Foc w B b o t S p b' o' x S' v') (hbl : b < w.heap.size) (hb : Below w.heap.size w w') : Foc w' B b o t S p b' o' x S' v' := by
  have key : ∀ w'', Upd w' w'' b' o' S' → Upd w w'' b' o' S' := fun w'' hu => by
    refine ⟨hu.os.trans hb.os, hu.tape.trans hb.tape, hu.output.trans hb.output, Nat.le_trans hb.size hu.size, fun k hk hn hne => (hu.block k (Nat.lt_of_lt_of_le hk hb.size) hn hne).trans (hb.block k hk), fun cur ty e => ?_⟩
    exact hu.here cur ty ((hb.block b' h.at'.lt).trans e)
  have key2 : ∀ w'', Upd w' w'' b' o' S' → Upd w w'' b o S → Upd w' w'' b o S := fun w'' hu hu2 => by
    refine ⟨hu.os, hu.tape, hu.output, hu.size, fun k hk hn hne => hu.block k hk (fun e => hn (h.sub k e)) (fun e => ?_), fun cur ty e => hu2.here cur ty ((hb.block b hbl).symm.trans e)⟩
    by_cases hp : p = []
    · exact hne (e.trans (h.root hp).1)
    · exact hn (e ▸ h.inn hp)
  refine ⟨h.fnd, h.at'.on hb, h.sub, h.root, h.inn, fun w'' y S'' v'' Xr A hu hy hX hA hAb hS => ?_, fun w'' y hu hy => ?_, plc_on hb _ _ _ _ h.pl⟩
  · obtain ⟨S3, v3, h1, h2, h3⟩ := h.back w'' y S'' v'' Xr A (key w'' hu) hy hX hA hAb hS
    exact ⟨S3, v3, h1, h2, key2 w'' hu h3⟩
  · obtain ⟨h1, h3⟩ := h.backL w'' y (key w'' hu) hy
    exact ⟨h1, key2 w'' hu h3⟩
theorem lab_size {s : ByteArray} (h : isLab s = true) : s.size ≤ 6 := by
  unfold isLab at h
  obtain ⟨k, l, h⟩ := @of_decide_eq_true _ (Classical.propDecidable _) h
  have h1 := h.k4
  have h2 := h.kc
  omega
theorem kids_cnt (l : List It) : l.length ≤ cntKs l := by
  induction l with
  | nil => simp
  | cons a r ih => rw [cntKs, List.length_cons]; omega
theorem cnt_mem : ∀ (l : List It) (k : It), k ∈ l → cntIt k ≤ cntKs l
  | a :: r, k, h => by
    rw [cntKs]
    rcases List.mem_cons.1 h with rfl | h
    · omega
    · have := cnt_mem r k h; omega
/-- A law that is right is few. -/
theorem rgt_few {d : Nat} {t : It} (h : Rgt d t) : cntIt t ≤ 300 → FewIt t := by
  induction h with
  | mk d t h hd hk ih =>
    intro hc
    rw [cntIt_eq] at hc
    obtain ⟨h1, h2, h3⟩ := texts_iff.1 ⟨h.2.1, h.2.2.2⟩
    refine .mk t (by omega) (by have := kids_cnt t.kids; omega) (fun s hs => by have := (h3 s hs).1; omega) (by have := h2.1; omega) ?_ (fun k hkm => ih k hkm (by have := cnt_mem t.kids k hkm; omega))
    have h4 := h.2.2.1
    split at h4
    · have := of_decide_eq_true h4; omega
    · have := lab_size h4; omega
theorem law_few {t : It} (h : Law t) : FewIt t := rgt_few h.1 h.2
theorem find_few : ∀ (p : List ByteArray) (t x : It), FewIt t → findW t p = some x → FewIt x
  | [], t, x, h, e => by rw [findW] at e; injection e with e; exact e ▸ h
  | q :: r, t, x, h, e => by
    obtain ⟨i, y, _, hy, e⟩ := find_step e
    exact find_few r y x (h.get.2.2.2.2.2 y (List.mem_of_getElem? hy)) e
/-- Labels that can be read. -/
def StrsAt (w : World) (a : Option Addr) (ps : List ByteArray) : Prop := ∀ i s, ps[i]? = some s → ∃ b o, a = some ⟨b, o, none⟩ ∧ w.cell? ⟨b, o + i, none⟩ = some (.string s)
theorem StrsAt.on {w w' : World} {a : Option Addr} {ps : List ByteArray} (h : StrsAt w a ps) (hb : Below w.heap.size w w') : StrsAt w' a ps := fun i s hs => by
  obtain ⟨b, o, e, hc⟩ := h i s hs
  exact ⟨b, o, e, (hb.cell (p := ⟨b, o + i, none⟩) (cell_lt hc)).trans hc⟩
/-- What find answers. -/
def FindO (w : World) (B b o : Nat) (t : It) (S : Nat → Prop) (ps : List ByteArray) (e : Ending) : Prop := match findW t ps with
  | none => e = .returned (.pointer none)
  | some x => ∃ b' o' S' v', e = .returned (.pointer (some ⟨b', o', none⟩)) ∧ Foc w B b o t S ps b' o' x S' v'
set_option maxHeartbeats 2000000 in
theorem find_a {w : World} {B b o : Nat} {t : It} {S : Nat → Prop} {v : Nat → Value} (h : ItAt w B b o t S v) (hF : FewIt t) {ps : List ByteArray} {pa : Option Addr} {pc : Nat} (hp : StrsAt w pa ps) (hn : ps.length ≤ 100000) :
    Calls Tryz.prog 29 #[.pointer (some ⟨b, o, none⟩), .slice pa ps.length pc] w fun e w' => FindO w B b o t S ps e ∧ Below w.heap.size w w' := by
  have H0 := hidLL h
  have HF := hidLL hF
  have HP := hidLL hp
  obtain ⟨n, hnn⟩ : ∃ n, n = ps.length := ⟨_, rfl⟩
  have HN := hidLL hnn
  rw [← hnn] at hn ⊢
  clear h hF hp hnn
  go_enter Tryz.func29, Tryz.ntmps29
  go_wp2_with fail
  go_loopw [0, 10] (fun l t' wr => ∃ (j b' o' : Nat) (x : It) (S' : Nat → Prop) (v' : Nat → Value), j ≤ n ∧ t' = .int .i64 j ∧ l = .pointer (some ⟨b', o', none⟩) ∧ Below w.heap.size w wr ∧ Foc w B b o t S (ps.take j) b' o' x S' v') (fun _ t' _ => (n - RowKit.intOf t').toNat)
  case atStart => exact ⟨0, b, o, t, S, v, by omega, rfl, rfl, Below.refl _ _, Foc.nil H0.out⟩
  case round =>
    obtain ⟨j, b', o', x, S', v', hj, rfl, rfl, hb, hf⟩ := hrel
    have HB := hidLL hb
    have HFo := hidLL hf
    clear hb hf
    by_cases hjn : j < n
    · have hjz : (j : Int) < n := by omega
      obtain ⟨s, hs⟩ : ∃ s, ps[j]? = some s := ⟨_, List.getElem?_eq_getElem (by have := HN.out; omega)⟩
      obtain ⟨pb, po, rfl, hcs⟩ := HP.out j s hs
      have hcs' := (HB.out.cell (p := ⟨pb, po + j, none⟩) (cell_lt hcs)).trans hcs
      have HTk : Hid (ps.take (j + 1) = ps.take j ++ [s]) := by
        obtain ⟨hl, e⟩ := List.getElem?_eq_some_iff.1 hs
        show _ = _
        rw [List.take_succ_eq_append_getElem hl, e]
      have hx := find_few _ t x HF.out HFo.out.fnd
      have hfw := HFo.out.on H0.out.lt HB.out
      obtain ⟨_, _, _, ka, kc, hk3⟩ := hfw.at'.own.lies.forms
      have hc3 := hfw.at'.cell (c := 3) (by omega)
      rw [hk3] at hc3
      have HC := hidLL (amLab_lies hfw.at'.own.lies hk3 (by have := hx.get.2.1; omega) s)
      have HFw := hidLL hfw
      have hkl := hx.get.2.1
      have HX := hidLL hx
      have HSs := hidLL hs
      have HK3 := hidLL hk3
      clear hcs hx hfw hs hk3
      cases hq : kidIx x.kids s with
      | none =>
        rw [hq] at HC
        have HQ := hidLL hq
        clear hq
        go_wp2_with fail
        refine HC.out.mono ?_
        rintro e w1 ⟨rfl, hb1⟩
        have H1 := hidLL hb1
        clear hb1
        unfold ixI
        go_wp2
        go_ret
        refine ⟨?_, HB.out.trans (H1.out.mono HB.out.size)⟩
        unfold FindO
        have e1 : findW t (ps.take (j + 1)) = none := by
          rw [HTk.out, findW_snoc _ t x s HFo.out.fnd]
          exact findW_no HQ.out
        have e2 : findW t ps = none := by
          have := findW_none _ t (ps.drop (j + 1)) e1
          rwa [List.take_append_drop] at this
        rw [e2]
        rfl
      | some i =>
        rw [hq] at HC
        obtain ⟨k, hk, _⟩ := kidIx_some hq
        obtain ⟨g, cap, T, V, hv3, hfk⟩ := HFo.out.kid hq hk
        have hil := (List.getElem?_eq_some_iff.1 hk).1
        have hi0 : ¬ ((i : Int) < 0) := by omega
        have hiz : (i : Int) < (x.kids.length : Int) := by omega
        have hka : ka = some ⟨g, 0, none⟩ := by
          have e := HK3.out
          rw [hv3] at e
          injection e with e _ _
          exact e.symm
        subst hka
        have HFk := hidLL hfk
        clear hq hk hfk hv3
        generalize x.kids.length = kl at *
        go_wp2_with fail
        refine HC.out.mono ?_
        rintro e w1 ⟨rfl, hb1⟩
        have hc3' := (hb1.cell (p := ⟨b', o' + 3, none⟩) (cell_lt hc3)).trans hc3
        have H1 := hidLL hb1
        clear hb1
        unfold ixI
        go_wp2
        go_roundw
        case rel =>
          refine ⟨j + 1, g, i * 4, k, T, V, by omega, by go_num, ?_, HB.out.trans (H1.out.mono HB.out.size), ?_⟩
          · first | rfl | simp
          · rw [HTk.out]; exact HFk.out
        case measure => simp [RowKit.intOf]; omega
    · obtain rfl : j = n := by omega
      go_wp2
      go_ret
      refine ⟨?_, HB.out⟩
      unfold FindO
      have e : ps.take j = ps := by rw [HN.out]; exact List.take_length
      have hf := HFo.out
      rw [e] at hf
      rw [hf.fnd]
      exact ⟨b', o', S', v', rfl, hf⟩
end Go.Proofs.YtpbolcjcmkmalaaGreatDoor
namespace Go.Proofs.YtpbolcjcmkmalaaGreatDoor
open Go.RowKit Go.Extern.Stop Go.Stop Go.Extern

set_option maxRecDepth 100000 in
theorem item_ptr : Tryz.prog.underlying 51 = some (.pointer 25) := by rfl
set_option maxRecDepth 100000 in
theorem item_info : ∃ j, Tryz.prog.info? 25 = some j ∧ j.size ≠ 0 := ⟨_, rfl, by decide⟩
theorem ptr_same (a : Addr) (w : World) : (binOp .eql 51 (.pointer (some a)) (.pointer (some a))).run Tryz.prog w = .ok (.bool true) w := by
  obtain ⟨j, h, _⟩ := item_info
  exact run_eql_ptr_same w a item_ptr h
theorem ptr_other {w : World} {B b o b' o' : Nat} {x x' : It} {S S' : Nat → Prop} {v v' : Nat → Value} (h : ItAt w B b o x S v) (h' : ItAt w B b' o' x' S' v') (hn : ¬ (b = b' ∧ o = o')) : (binOp .eql 51 (.pointer (some ⟨b, o, none⟩)) (.pointer (some ⟨b', o', none⟩))).run Tryz.prog w = .ok (.bool false) w := by
  obtain ⟨j, hj, hz⟩ := item_info
  obtain ⟨cur, ty, e, _⟩ := h.here
  obtain ⟨cur', ty', e', _⟩ := h'.here
  exact run_eql_ptr_other w item_ptr hj hz (fun e => hn (by injection e with e1 e2; exact ⟨e1, e2⟩)) e e'
theorem ptr_nsame (a : Addr) (w : World) : (binOp .neq 51 (.pointer (some a)) (.pointer (some a))).run Tryz.prog w = .ok (.bool false) w := by
  have h := ptr_same a w
  simp only [binOp] at h ⊢
  simp only [Sem.run_bind] at h ⊢
  revert h
  cases (Op.equal 51 (.pointer (some a)) (.pointer (some a))).run Tryz.prog w <;> simp
theorem ptr_nother {w : World} {B b o b' o' : Nat} {x x' : It} {S S' : Nat → Prop} {v v' : Nat → Value} (h : ItAt w B b o x S v) (h' : ItAt w B b' o' x' S' v') (hn : ¬ (b = b' ∧ o = o')) : (binOp .neq 51 (.pointer (some ⟨b, o, none⟩)) (.pointer (some ⟨b', o', none⟩))).run Tryz.prog w = .ok (.bool true) w := by
  have h := ptr_other h h' hn
  simp only [binOp] at h ⊢
  simp only [Sem.run_bind] at h ⊢
  revert h
  cases (Op.equal 51 (.pointer (some ⟨b, o, none⟩)) (.pointer (some ⟨b', o', none⟩))).run Tryz.prog w <;> simp
end Go.Proofs.YtpbolcjcmkmalaaGreatDoor
namespace Go.Proofs.YtpbolcjcmkmalaaGreatDoor
open Go.RowKit

section
variable {P : Program} {ops : Array Oper} {C : World → Prop} {Q : Act → Prop} {o : Oper} {rest : List Oper} {a : Act}
theorem quiet_val (v : Value) (hw : Region.wanted o (yielded ops a.tmps) = true) (h : ∀ w, C w → (execOp a.eval o).run P w = .ok (.value v) w) (hk : wpQuiet P ops C Q rest (a.put o.dst v)) : wpQuiet P ops C Q (o :: rest) a := by
  unfold wpQuiet
  rw [if_pos hw]
  refine ⟨v, fun w hC => ?_, hk⟩
  unfold Oper.quietAt
  rw [h w hC]
  exact ⟨rfl, rfl⟩
theorem quiet_call (f : FuncId) (args : Array Value) (v : Value) (hw : Region.wanted o (yielded ops a.tmps) = true) (h : ∀ w, C w → (execOp a.eval o).run P w = .ok (.enter f args) w) (hc : ∀ w, C w → Calls P f args w fun e w' => e = .returned v ∧ C w') (hk : wpQuiet P ops C Q rest (a.put o.dst v)) : wpQuiet P ops C Q (o :: rest) a := by
  unfold wpQuiet
  rw [if_pos hw]
  refine ⟨v, fun w hC => ?_, hk⟩
  unfold Oper.quietAt
  rw [h w hC]
  exact ⟨rfl, hc w hC⟩
theorem quiet_off (hw : Region.wanted o (yielded ops a.tmps) = false) (hk : wpQuiet P ops C Q rest (a.put o.dst undef)) : wpQuiet P ops C Q (o :: rest) a := by
  unfold wpQuiet
  rw [if_neg (by rw [hw]; simp)]
  exact hk
end
theorem wp_region_quiet_C {P : Program} {C : World → Prop} {id : Nat} {Q : Exit → Act → World → Prop} {a : Act} {w : World} {l : List Oper} (hm : P.follows .mixedOrders = true) (hB : Region.lexB .any l.toArray = true) (hC : C { w with drawn := w.drawn + 1 })
    (h : wpQuiet P l.toArray C (fun a' => ∀ w', C w' → Q .normal a' w') l a) : (Code.region id l.toArray true).wp P Q a w := wp_region_quiet (C := C) hm hB hC (by simpa using h)
end Go.Proofs.YtpbolcjcmkmalaaGreatDoor
namespace Go.Proofs.YtpbolcjcmkmalaaGreatDoor
open Go.RowKit

/-- An act whose slots from 'pre.length' on are 'mid'. -/
def MA (pre mid suf : List Value) (d : List Deferred) : Act := ⟨(pre ++ mid ++ suf).toArray, d⟩
theorem MA.lo {pre mid suf : List Value} {d : List Deferred} {j : Nat} {v : Value} (h : pre[j]? = some v) : (MA pre mid suf d).eval (.tmp j) = v := by
  obtain ⟨hj, h⟩ := List.getElem?_eq_some_iff.1 h
  show (pre ++ mid ++ suf).toArray.getD j undef = v
  simp only [Array.getD_eq_getD_getElem?, List.getElem?_toArray]
  rw [List.append_assoc, List.getElem?_append_left hj, List.getElem?_eq_getElem hj, h]
  rfl
theorem MA.get {pre mid suf : List Value} {d : List Deferred} {k j : Nat} {v : Value} (hk : pre.length = k) (hj : k ≤ j) (h : mid[j - k]? = some v) : (MA pre mid suf d).tmps[j]? = some v := by
  obtain ⟨hl, h'⟩ := List.getElem?_eq_some_iff.1 h
  show (pre ++ mid ++ suf).toArray[j]? = some v
  rw [List.getElem?_toArray, List.append_assoc, List.getElem?_append_right (by omega), hk, List.getElem?_append_left hl, h]
theorem MA.hi {pre mid suf : List Value} {d : List Deferred} {k j : Nat} {v : Value} (hk : pre.length = k) (hj : k ≤ j) (h : mid[j - k]? = some v) : (MA pre mid suf d).eval (.tmp j) = v := by
  have := MA.get (suf := suf) (d := d) hk hj h
  show (MA pre mid suf d).tmps.getD j undef = v
  rw [Array.getD_eq_getD_getElem?, this]
  rfl
theorem MA.put {pre mid suf : List Value} {d : List Deferred} {k j : Nat} {v : Value} (hk : pre.length = k) (hj : k ≤ j) (hm : j - k < mid.length) : (MA pre mid suf d).put (some j) v = MA pre (mid.set (j - k) v) suf d := by
  show Act.mk ((pre ++ mid ++ suf).toArray.setIfInBounds j v) d = _
  unfold MA
  rw [List.setIfInBounds_toArray, List.append_assoc, List.set_append_right _ _ (by omega), List.set_append_left _ _ (by omega), hk, List.append_assoc]
theorem MA.put_lo {pre mid suf : List Value} {d : List Deferred} {j : Nat} {v : Value} (hj : j < pre.length) : (MA pre mid suf d).put (some j) v = MA (pre.set j v) mid suf d := by
  show Act.mk ((pre ++ mid ++ suf).toArray.setIfInBounds j v) d = _
  unfold MA
  rw [List.setIfInBounds_toArray, List.append_assoc, List.set_append_left _ _ (by omega), List.append_assoc]
theorem MA.of (A : Act) (k m : Nat) : A = MA (A.tmps.toList.take k) ((A.tmps.toList.drop k).take m) (A.tmps.toList.drop (k + m)) A.defers := by
  obtain ⟨⟨l⟩, d⟩ := A
  unfold MA
  simp only [Act.mk.injEq, and_true]
  rw [List.append_assoc, show List.drop (k + m) l = ((l.drop k).drop m) by rw [List.drop_drop], List.take_append_drop, List.take_append_drop]
theorem MA.pre {A : Act} {k j : Nat} {v : Value} (h : A.tmps[j]? = some v) (hj : j < k) : (A.tmps.toList.take k)[j]? = some v := by
  rw [List.getElem?_take_of_lt hj, Array.getElem?_toList, h]
theorem want0 {o : Oper} {f : Nat → Option Bool} (h : o.guard = none) : Region.wanted o f = true := by simp [Region.wanted, h]
theorem wantG {ops : Array Oper} {o : Oper} {pre mid suf : List Value} {d : List Deferred} {n k j : Nat} {b c r : Bool} (hg : o.guard = some (n, b)) (hd : (ops[n]?).bind (·.dst) = some j) (hk : pre.length = k) (hj : k ≤ j) (hm : mid[j - k]? = some (.bool c)) (hr : (c == b) = r) : Region.wanted o (yielded ops (MA pre mid suf d).tmps) = r := by
  have := MA.get (suf := suf) (d := d) hk hj hm
  simp only [Region.wanted, hg, yielded, hd, Option.bind_some, this]
  cases c <;> cases b <;> first | exact hr | (rw [← hr]; rfl)
/-- A guard that has yielded no Boolean (its own operation was not wanted). -/
theorem wantU {ops : Array Oper} {o : Oper} {pre mid suf : List Value} {d : List Deferred} {n k j : Nat} {b : Bool} (hg : o.guard = some (n, b)) (hd : (ops[n]?).bind (·.dst) = some j) (hk : pre.length = k) (hj : k ≤ j) (hm : mid[j - k]? = some undef) : Region.wanted o (yielded ops (MA pre mid suf d).tmps) = false := by
  have := MA.get (suf := suf) (d := d) hk hj hm
  simp only [Region.wanted, hg, yielded, hd, Option.bind_some, this]
  rfl
section
variable {P : Program} {ops : Array Oper} {C : World → Prop} {Q : Act → Prop} {o : Oper} {rest : List Oper} {pre mid suf : List Value} {d : List Deferred} {k j : Nat}
theorem mq_val (v : Value) (hk : pre.length = k) (hd : o.dst = some j) (hj : k ≤ j) (hm : j - k < mid.length) (hw : Region.wanted o (yielded ops (MA pre mid suf d).tmps) = true) (h : ∀ w, C w → (execOp (MA pre mid suf d).eval o).run P w = .ok (.value v) w) (hn : wpQuiet P ops C Q rest (MA pre (mid.set (j - k) v) suf d)) : wpQuiet P ops C Q (o :: rest) (MA pre mid suf d) := by
  refine quiet_val v hw h ?_
  rw [hd, MA.put hk hj hm]
  exact hn
theorem mq_call (f : FuncId) (args : Array Value) (v : Value) (hk : pre.length = k) (hd : o.dst = some j) (hj : k ≤ j) (hm : j - k < mid.length) (hw : Region.wanted o (yielded ops (MA pre mid suf d).tmps) = true) (h : ∀ w, C w → (execOp (MA pre mid suf d).eval o).run P w = .ok (.enter f args) w) (hc : ∀ w, C w → Calls P f args w fun e w' => e = .returned v ∧ C w') (hn : wpQuiet P ops C Q rest (MA pre (mid.set (j - k) v) suf d)) : wpQuiet P ops C Q (o :: rest) (MA pre mid suf d) := by
  refine quiet_call f args v hw h hc ?_
  rw [hd, MA.put hk hj hm]
  exact hn
theorem mq_lo (v : Value) (hd : o.dst = some j) (hj : j < pre.length) (hw : Region.wanted o (yielded ops (MA pre mid suf d).tmps) = true) (h : ∀ w, C w → (execOp (MA pre mid suf d).eval o).run P w = .ok (.value v) w) (hn : wpQuiet P ops C Q rest (MA (pre.set j v) mid suf d)) : wpQuiet P ops C Q (o :: rest) (MA pre mid suf d) := by
  refine quiet_val v hw h ?_
  rw [hd, MA.put_lo hj]
  exact hn
theorem mq_off (hk : pre.length = k) (hd : o.dst = some j) (hj : k ≤ j) (hm : j - k < mid.length) (hw : Region.wanted o (yielded ops (MA pre mid suf d).tmps) = false) (hn : wpQuiet P ops C Q rest (MA pre (mid.set (j - k) undef) suf d)) : wpQuiet P ops C Q (o :: rest) (MA pre mid suf d) := by
  refine quiet_off hw ?_
  rw [hd, MA.put hk hj hm]
  exact hn
end
theorem quiet_MA {P : Program} {ops : Array Oper} {C : World → Prop} {Q : Act → Prop} {l : List Oper} {A : Act} (k m : Nat) (h : wpQuiet P ops C Q l (MA (A.tmps.toList.take k) ((A.tmps.toList.drop k).take m) (A.tmps.toList.drop (k + m)) A.defers)) : wpQuiet P ops C Q l A := by
  rw [MA.of A k m]; exact h
section
variable {P : Program} {ρ : Operand → Value} {dst : Option Tmp} {ty : TypeId} {ps : String} {af : Array Go.Edge} {g : Option (Nat × Bool)} {w : World} {x y z : Operand}
theorem x_move {v : Value} (h : ρ x = v) : (execOp ρ ⟨dst, .move x, ty, ps, af, g⟩).run P w = .ok (.value v) w := by
  simp only [execOp, h]; rfl
theorem x_assign {v : Value} (h : ρ x = v) : (execOp ρ ⟨dst, .assign x, ty, ps, af, g⟩).run P w = .ok (.value v) w := by
  simp only [execOp, h]; rfl
theorem x_pick {c : Bool} {u v r : Value} (hc : ρ x = .bool c) (hu : ρ y = u) (hv : ρ z = v) (hr : (if c then u else v) = r) : (execOp ρ ⟨dst, .pick x y z, ty, ps, af, g⟩).run P w = .ok (.value r) w := by
  simp only [execOp, hc, hu, hv, asBool]
  rw [← hr]
  cases c <;> rfl
theorem x_nil {q : Addr} (h : ρ x = .pointer (some q)) : (execOp ρ ⟨dst, .nilCheck x, ty, ps, af, g⟩).run P w = .ok (.value (.pointer (some q))) w := by
  simp only [execOp, h]; rfl
end
end Go.Proofs.YtpbolcjcmkmalaaGreatDoor
namespace Go.Proofs.YtpbolcjcmkmalaaGreatDoor
open Go.RowKit Go.Extern.Stop Go.Stop Go.Extern

theorem splitB_parts (s : ByteArray) (h : s.size ≠ 0) : Lib.splitB ⟨#[47]⟩ 0 (Lib.countB s ⟨#[47]⟩) s = partsB s := by
  have h1 := Lib.splitB_data ⟨#[47]⟩ 0 (Lib.countB s ⟨#[47]⟩) s
  have h2 := spls_splitK _ (bl s) (Nat.le_refl _)
  have h3 : (Lib.splitB ⟨#[47]⟩ 0 (Lib.countB s ⟨#[47]⟩) s).map bl = spls (bl s) := by
    rw [← h2]
    exact h1
  unfold partsB
  rw [if_neg h, ← h3, List.map_map]
  conv => lhs; rw [← List.map_id (Lib.splitB _ _ _ _)]
  refine List.map_congr_left fun a _ => ?_
  rfl
theorem strs_alloc (w : World) (xs : List ByteArray) (t : TypeId) : StrsAt (w.alloc (.cells (xs.map Value.string).toArray t)) (some ⟨w.heap.size, 0, none⟩) xs := by
  intro i x e
  refine ⟨w.heap.size, 0, rfl, ?_⟩
  rw [World.cell?_alloc_at _ _ _ _ rfl]
  simp [e]
theorem parts_len (s : ByteArray) : (partsB s).length ≤ s.size + 1 := by
  unfold partsB
  split
  · simp
  · have := spls_len (bl s)
    rw [size_bl] at this
    simpa using this
set_option maxHeartbeats 1000000 in
theorem labelsOf_a (s : ByteArray) (hs : s.size ≤ 1000000) (m : Int) (w : World) (hm : w.cell? ⟨12, 0, none⟩ = some (.int .i64 m)) :
    Calls Tryz.prog 30 #[.string s] w fun e w' => (∃ a c, e = .returned (.slice a (partsB s).length c) ∧ StrsAt w' a (partsB s) ∧ (partsB s).length ≤ c) ∧ Below w.heap.size w w' := by
  have hE : s.toList.isEmpty = decide (s.size = 0) := size_empty
  by_cases h0 : s.size = 0
  · have HR : Hid (partsB s = []) := by show _ = _; unfold partsB; rw [if_pos h0]
    rw [show decide (s.size = 0) = true by simpa using h0] at hE
    clear h0
    go_enter Tryz.func30, Tryz.ntmps30
    go_wp2
    go_ret
    rw [HR.out]
    exact ⟨⟨none, 0, rfl, (fun i s h => by cases h), Nat.le_refl _⟩, Below.refl _ _⟩
  · rw [show decide (s.size = 0) = false by simpa using h0] at hE
    have h2 := Go.Proofs.Tryz.strings_Split s ⟨#[47]⟩ m w (by omega) hm (by decide)
    have hl := Lib.splitB_all ⟨#[47]⟩ (by decide) 0 _ s rfl
    rw [← hl, splitB_parts s h0] at h2
    have HSp := hidLL h2
    have HA := hidLL (strs_alloc w (partsB s) 9)
    clear h2 hl hm h0
    generalize partsB s = ps at *
    go_enter Tryz.func30, Tryz.ntmps30
    go_wp2_with fail
    refine HSp.out.mono ?_
    rintro e w1 ⟨rfl, ew⟩
    go_wp2
    go_ret
    refine ⟨⟨_, _, rfl, ?_, Nat.le_refl _⟩, ?_⟩
    · first | exact HA.out | (rw [ew]; exact HA.out)
    · first | exact (Below.refl _ _).alloc (Nat.le_refl _) _ | (rw [ew]; exact (Below.refl _ _).alloc (Nat.le_refl _) _)
/-- What around answers. -/
def ArO (w : World) (B b o : Nat) (t : It) (S : Nat → Prop) (ps : List ByteArray) (e : Ending) : Prop := match arW t ps with
  | none => e = .returned (.tuple #[.pointer none, .int .i64 0])
  | some (x, i) => ∃ b' o' S' v', e = .returned (.tuple #[.pointer (some ⟨b', o', none⟩), .int .i64 i]) ∧ Foc w B b o t S ps.dropLast b' o' x S' v'
set_option maxHeartbeats 2000000 in
theorem around_a {w : World} {B b o : Nat} {t : It} {S : Nat → Prop} {v : Nat → Value} (h : ItAt w B b o t S v) (hF : FewIt t) {ps : List ByteArray} {pa : Option Addr} {pc : Nat} (hp : StrsAt w pa ps) (hn : ps.length ≤ 100000) (hpc : ps.length ≤ pc) :
    Calls Tryz.prog 78 #[.pointer (some ⟨b, o, none⟩), .slice pa ps.length pc] w fun e w' => ArO w B b o t S ps e ∧ Below w.heap.size w w' := by
  by_cases h0 : ps = []
  · subst h0
    clear hp hF h
    go_enter Tryz.func78, Tryz.ntmps78
    go_wp2
    go_ret2
    exact ⟨rfl, Below.refl _ _⟩
  · obtain ⟨p0, l, rfl⟩ : ∃ p0 l, ps = p0 ++ [l] := by
      rcases List.eq_nil_or_concat ps with h1 | ⟨a, b, hab⟩
      · exact absurd h1 h0
      · exact ⟨a, b, by rw [hab, List.concat_eq_append]⟩
    have hlen : (p0 ++ [l]).length = p0.length + 1 := by simp
    rw [hlen] at hn hpc ⊢
    obtain ⟨pb, po, rfl, hcl⟩ := hp p0.length l (by simp)
    have hp0 : StrsAt w (some ⟨pb, po, none⟩) p0 := fun i s hs => hp i s (by rw [List.getElem?_append_left (List.getElem?_eq_some_iff.1 hs).1]; exact hs)
    have HCf := hidLL (find_a (pc := pc) h hF hp0 (by omega))
    have H0 := hidLL h
    have HF := hidLL hF
    have hz1 : ¬ ((p0.length : Int) + 1 = 0) := by omega
    have hz2 : (((p0.length : Int) + 1) == 0) = false := by rw [beq_eq_false_iff_ne]; omega
    have HAr : Hid (∀ x i, findW t p0 = some x → kidIx x.kids l = some i → arW t (p0 ++ [l]) = some (x, i)) := fun x i h1 h2 => ar_of h1 h2
    have HAn : Hid (findW t p0 = none → arW t (p0 ++ [l]) = none) := fun h1 => by
      unfold arW
      rw [if_neg (by simp), List.dropLast_concat, h1]
    have HAk : Hid (∀ x, findW t p0 = some x → kidIx x.kids l = none → arW t (p0 ++ [l]) = none) := fun x h1 h2 => by
      unfold arW
      rw [if_neg (by simp), List.dropLast_concat, h1]
      show (match kidIx x.kids ((p0 ++ [l]).getLast?.getD _) with | none => none | some i => some (x, i)) = none
      rw [List.getLast?_concat]
      show (match kidIx x.kids l with | none => none | some i => some (x, i)) = none
      rw [h2]
    have HD : Hid ((p0 ++ [l]).dropLast = p0) := List.dropLast_concat
    clear h hF hp hp0 h0
    generalize hps : p0 ++ [l] = ps at *
    clear hps
    generalize p0.length = n at *
    go_enter Tryz.func78, Tryz.ntmps78
    go_wp2_with fail
    refine HCf.out.mono ?_
    rintro e w1 ⟨hf, hb1⟩
    unfold FindO at hf
    cases hq : findW t p0 with
    | none =>
      rw [hq] at hf
      have hf : e = _ := hf
      subst hf
      have HN := hidLL (HAn.out hq)
      have H1 := hidLL hb1
      clear hq hb1
      go_wp2
      go_ret2
      refine ⟨?_, H1.out⟩
      unfold ArO
      rw [HN.out]
      rfl
    | some x =>
      rw [hq] at hf
      obtain ⟨b', o', S', v', rfl, hf⟩ := hf
      have hx := find_few _ t x HF.out hq
      have hkl := hx.get.2.1
      have hfw := hf.on H0.out.lt hb1
      obtain ⟨_, _, _, ka, kc, hk3⟩ := hfw.at'.own.lies.forms
      have hc3 := hfw.at'.cell (c := 3) (by omega)
      rw [hk3] at hc3
      have hcl' := (hb1.cell (p := ⟨pb, po + n, none⟩) (cell_lt hcl)).trans hcl
      have HC : Hid (∀ W, Below w1.heap.size w1 W → Calls Tryz.prog 69 #[.slice ka x.kids.length kc, .string l] W fun e w' => e = .returned (.int .i64 (ixI (kidIx x.kids l))) ∧ Below w1.heap.size w1 w') := fun W hW => (amLab_lies (hfw.at'.on hW).own.lies hk3 (by omega) l).mono fun e w' h => ⟨h.1, hW.trans (h.2.mono hW.size)⟩
      have HFo := hidLL hf
      have H1 := hidLL hb1
      have HQ := hidLL hq
      clear hq hb1 hf hfw hx hk3 hcl
      have hn0 : (n : Int) < (n : Int) + 1 := by omega
      cases hr : kidIx x.kids l with
      | none =>
        rw [hr] at HC
        have HR := hidLL (HAk.out x HQ.out hr)
        clear hr
        generalize x.kids.length = kl at *
        unfold ixI at HC
        go_wp2
        go_region_with (go_at_call 69; refine (HC.out _ ?_).mono ?_; (· first | exact Below.refl _ _ | exact (Below.refl _ _).drew | exact bdrewN (Below.refl _ _) _); rintro e w2 ⟨rfl, hb2⟩; have H2 := hidLL hb2; clear hb2)
        all_goals go_wp2
        all_goals go_ret2
        all_goals (refine ⟨?_, H1.out.trans (H2.out.mono H1.out.size)⟩; unfold ArO; rw [HR.out]; rfl)
      | some i =>
        rw [hr] at HC
        have HR := hidLL (HAr.out x i HQ.out hr)
        obtain ⟨k, hk, _⟩ := kidIx_some hr
        have hil := (List.getElem?_eq_some_iff.1 hk).1
        have hi0 : ¬ ((i : Int) < 0) := by omega
        clear hr hk
        generalize x.kids.length = kl at *
        unfold ixI at HC
        go_wp2
        go_region_with (go_at_call 69; refine (HC.out _ ?_).mono ?_; (· first | exact Below.refl _ _ | exact (Below.refl _ _).drew | exact bdrewN (Below.refl _ _) _); rintro e w2 ⟨rfl, hb2⟩; have H2 := hidLL hb2; clear hb2)
        all_goals go_wp2
        all_goals go_ret2
        all_goals (refine ⟨?_, H1.out.trans (H2.out.mono H1.out.size)⟩; unfold ArO; rw [HR.out, HD.out]; exact ⟨b', o', S', v', rfl, HFo.out⟩)
end Go.Proofs.YtpbolcjcmkmalaaGreatDoor
namespace Go.Proofs.YtpbolcjcmkmalaaGreatDoor
open Go.RowKit Go.Extern.Stop Go.Stop Go.Extern

def eqBl : List ByteArray → List ByteArray → Bool
  | [], [] => true
  | x :: l, y :: m => (x.toList == y.toList) && eqBl l m
  | [], _ :: _ => false
  | _ :: _, [] => false
theorem eqBl_len : ∀ (l m : List ByteArray), l.length ≠ m.length → eqBl l m = false
  | [], [], h => absurd rfl h
  | [], _ :: _, _ => rfl
  | _ :: _, [], _ => rfl
  | x :: l, y :: m, h => by
    rw [eqBl, eqBl_len l m (fun e => h (by simp [e]))]
    simp
theorem list_injA {x y : ByteArray} (h : x.toList = y.toList) : x = y := by
  rw [Lib.toList_data, Lib.toList_data, Array.toList_inj] at h
  exact ByteArray.ext h
theorem eqBl_iff : ∀ (l m : List ByteArray), eqBl l m = true ↔ l = m
  | [], [] => by simp [eqBl]
  | [], _ :: _ => by simp [eqBl]
  | _ :: _, [] => by simp [eqBl]
  | x :: l, y :: m => by
    rw [eqBl, Bool.and_eq_true, eqBl_iff l m, List.cons.injEq, beq_iff_eq]
    exact ⟨fun h => ⟨list_injA h.1, h.2⟩, fun h => ⟨by rw [h.1], h.2⟩⟩
theorem eqBl_drop {l m : List ByteArray} {i : Nat} {x y : ByteArray} (hx : l[i]? = some x) (hy : m[i]? = some y) : eqBl (l.drop i) (m.drop i) = ((x.toList == y.toList) && eqBl (l.drop (i + 1)) (m.drop (i + 1))) := by
  obtain ⟨h1, e1⟩ := List.getElem?_eq_some_iff.1 hx
  obtain ⟨h2, e2⟩ := List.getElem?_eq_some_iff.1 hy
  rw [List.drop_eq_getElem_cons h1, List.drop_eq_getElem_cons h2, e1, e2, eqBl]
theorem retBA {a b : Bool} (h : a = b) : Ending.returned (.bool a) = .returned (.bool b) := by rw [h]
set_option maxHeartbeats 2000000 in
theorem equalS_a {l r : List ByteArray} {w : World} {ka kb : Option Addr} {kc kd : Nat} (ht : StrsAt w ka l) (hu : StrsAt w kb r) (hl : l.length ≤ 100000) (hl2 : r.length ≤ 100000) :
    Calls Tryz.prog 117 #[.slice ka l.length kc, .slice kb r.length kd] w fun e w' => e = .returned (.bool (eqBl l r)) ∧ Below w.heap.size w w' := by
  obtain ⟨n, hn⟩ : ∃ n, n = l.length := ⟨_, rfl⟩
  obtain ⟨m, hm⟩ : ∃ m, m = r.length := ⟨_, rfl⟩
  rw [← hn] at hl ⊢
  rw [← hm] at hl2 ⊢
  have HT := hidLL ht
  have HU := hidLL hu
  obtain ⟨R, hR⟩ : ∃ R, R = eqBl l r := ⟨_, rfl⟩
  rw [← hR]
  by_cases hnm : n = m
  · subst hnm
    have HN := hidLL (And.intro hn hm)
    have HR := hidLL hR
    clear hn hm hR ht hu
    go_enter Tryz.func117, Tryz.ntmps117
    go_wp2_with fail
    go_loopw [13] (fun i wr => ∃ j : Nat, j ≤ n ∧ i = .int .i64 j ∧ R = eqBl (l.drop j) (r.drop j) ∧ Below w.heap.size w wr) (fun i _ => n - (RowKit.intOf i).toNat)
    case atStart => exact ⟨0, by omega, rfl, HR.out, Below.refl _ _⟩
    case round =>
      obtain ⟨j, hj, rfl, hno, hb⟩ := hrel
      have HB := hidLL hb
      have HD := hidLL hno
      clear hno hb
      by_cases hlt : j < n
      · have hjz : (j : Int) < n := by omega
        obtain ⟨x, hx⟩ : ∃ x, l[j]? = some x := ⟨_, List.getElem?_eq_getElem (by have := HN.out.1; omega)⟩
        obtain ⟨y, hy⟩ : ∃ y, r[j]? = some y := ⟨_, List.getElem?_eq_getElem (by have := HN.out.2; omega)⟩
        obtain ⟨b, o, rfl, x0⟩ := (HT.out.on HB.out) j x hx
        obtain ⟨b2, o2, rfl, y0⟩ := (HU.out.on HB.out) j y hy
        have HE := hidLL (eqBl_drop hx hy)
        clear hx hy
        cases hf : (x.toList == y.toList)
        · rw [hf] at HE
          go_upto_region 6 with fail
          go_quiet (fail)
          go_wp2
          go_ret
          exact ⟨retBA (by rw [HD.out, HE.out]; rfl), bdrewN HB.out _⟩
        · rw [hf] at HE
          have hf' : x = y := list_injA (by simpa using hf)
          subst hf'
          clear hf
          go_upto_region 6 with fail
          go_quiet (fail)
          go_wp2
          go_roundw
          case rel => exact ⟨j + 1, by omega, by go_num, by rw [HD.out, HE.out]; rfl, bdrewN HB.out _⟩
          case measure => simp [RowKit.intOf]; omega
      · have hjz : ¬ (j : Int) < n := by omega
        obtain rfl : j = n := by omega
        go_wp2
        go_ret
        refine ⟨retBA ?_, HB.out⟩
        rw [HD.out, List.drop_eq_nil_of_le (by have := HN.out.1; omega), List.drop_eq_nil_of_le (by have := HN.out.2; omega), eqBl]
  · have HR : Hid (R = false) := by show _ = _; rw [hR]; exact eqBl_len _ _ (by omega)
    have hne : ¬ (n : Int) = m := by omega
    clear hn hm hR ht hu HT HU
    go_enter Tryz.func117, Tryz.ntmps117
    go_wp2
    go_ret
    exact ⟨retBA HR.out.symm, Below.refl _ _⟩
/-- Whether a path is another one, or leads into it. -/
def liesB (ps qs : List ByteArray) : Bool := decide (qs.length ≤ ps.length) && eqBl (ps.take qs.length) qs
theorem liesB_iff (ps qs : List ByteArray) : liesB ps qs = true ↔ qs <+: ps := by
  unfold liesB
  rw [Bool.and_eq_true, eqBl_iff, decide_eq_true_eq]
  exact ⟨fun h => List.prefix_iff_eq_take.2 h.2.symm, fun h => ⟨h.length_le, (List.prefix_iff_eq_take.1 h).symm⟩⟩
set_option maxHeartbeats 2000000 in
theorem lies_a {ps qs : List ByteArray} {w : World} {pa qa : Option Addr} {pc qc : Nat} (hp : StrsAt w pa ps) (hq : StrsAt w qa qs) (hl2 : qs.length ≤ 100000) (hpc : ps.length ≤ pc) :
    Calls Tryz.prog 81 #[.slice pa ps.length pc, .slice qa qs.length qc] w fun e w' => e = .returned (.bool (liesB ps qs)) ∧ Below w.heap.size w w' := by
  have HR : Hid (liesB ps qs = (decide (qs.length ≤ ps.length) && eqBl (ps.take qs.length) qs)) := rfl
  generalize liesB ps qs = R at *
  by_cases hle : qs.length ≤ ps.length
  · have hpt : StrsAt w pa (ps.take qs.length) := fun i s hs => hp i s (by
      rw [List.getElem?_take] at hs
      split at hs
      · exact hs
      · cases hs)
    have HE := hidLL (equalS_a (kc := pc) (kd := qc) hpt hq (by rw [List.length_take]; omega) hl2)
    rw [show (ps.take qs.length).length = qs.length by rw [List.length_take]; omega] at HE
    rw [show decide (qs.length ≤ ps.length) = true by simpa using hle, Bool.true_and] at HR
    have hz : (qs.length : Int) ≤ ps.length := by omega
    have hz2 : ¬ (ps.length : Int) < qs.length := by omega
    clear hp hq hpt
    generalize eqBl (ps.take qs.length) qs = R2 at *
    generalize ps.length = n at *
    generalize qs.length = m at *
    go_enter Tryz.func81, Tryz.ntmps81
    go_wp2_with fail
    refine HE.out.mono ?_
    rintro e w1 ⟨rfl, hb1⟩
    have H1 := hidLL hb1
    clear hb1
    go_wp2
    go_ret
    exact ⟨retBA HR.out.symm, H1.out⟩
  · rw [show decide (qs.length ≤ ps.length) = false by simpa using hle, Bool.false_and] at HR
    have hz : ¬ (qs.length : Int) ≤ ps.length := by omega
    have hz2 : (ps.length : Int) < qs.length := by omega
    clear hp hq
    generalize ps.length = n at *
    generalize qs.length = m at *
    go_enter Tryz.func81, Tryz.ntmps81
    go_wp2
    go_ret
    exact ⟨retBA HR.out.symm, Below.refl _ _⟩
end Go.Proofs.YtpbolcjcmkmalaaGreatDoor
namespace Go.Proofs.YtpbolcjcmkmalaaGreatDoor
open Go.RowKit Go.Extern.Stop Go.Stop Go.Extern

theorem beh_some {l : List It} {s : ByteArray} : behIx l s ≠ none ↔ s.size = 0 ∨ s ∈ labs l := by
  unfold behIx
  by_cases h : s.size = 0
  · rw [if_pos h]
    exact ⟨fun _ => .inl h, fun _ e => by cases e⟩
  · rw [if_neg h, ← ix_some]
    cases kidIx l s with
    | none => exact ⟨fun e => absurd rfl e, fun e => e.elim (fun e => absurd e h) (fun e => by cases e)⟩
    | some i => exact ⟨fun _ => .inr rfl, fun _ e => by cases e⟩
theorem less_law {t x k : It} {p0 : List ByteArray} {i : Nat} (h : Law t) (h1 : findW t p0 = some x) (h3 : x.kids[i]? = some k) : Law (lessW t x i p0) :=
  law_set h h1 (rgt_erase (find_rgt p0 0 t x h.1 h1) i) rfl (by
    rw [cntIt_eq, cntIt_eq x]
    have := cntKs_erase x.kids i k h3
    show cntKs (x.kids.eraseIdx i) ≤ _
    omega)
theorem find_app : ∀ (r q : List ByteArray) (t x : It), findW t r = some x → findW t (r ++ q) = findW x q
  | [], q, t, x, h => by rw [findW] at h; injection h with h; rw [h]; rfl
  | a :: r, q, t, x, h => by
    obtain ⟨i, y, hi, hy, h⟩ := find_step h
    rw [List.cons_append, findW_cons hi hy, find_app r q y x h]
/-- The views from elsewhere are as they were. -/
theorem less_view {t x k : It} {p0 q : List ByteArray} {l : ByteArray} {i : Nat} (h : Ds t) (h1 : findW t p0 = some x) (h3 : x.kids[i]? = some k) (h4 : k.label = l) (hn : ¬ (p0 ++ [l]) <+: q) (hq : q ≠ p0) (c : Pt) : X (lessW t x i p0) q c = X t q c := by
  unfold lessW
  by_cases hp : p0 <+: q
  · obtain ⟨r, rfl⟩ := hp
    cases r with
    | nil => exact absurd (List.append_nil p0) hq
    | cons s r =>
      have hs : s ≠ k.label := fun e => hn ⟨r, by rw [e, h4]; simp⟩
      rw [find_in p0 (s :: r) t x (x.setKids (x.kids.eraseIdx i)) h1 rfl, X_cons]
      show (kidOf (x.kids.eraseIdx i) s).bind _ = _
      rw [kidOf_erase (Ds.find h h1).is.1 h3, if_neg hs, ← X_cons]
      unfold X
      rw [find_app p0 (s :: r) t x h1]
  · exact find_out p0 q t x (x.setKids (x.kids.eraseIdx i)) h1 rfl hp c
theorem move_goes {t x k y : It} {p0 q : List ByteArray} {l a : ByteArray} {i : Nat} (h : Ds t) (h1 : findW t p0 = some x) (h3 : x.kids[i]? = some k) (h4 : k.label = l) (hn : ¬ (p0 ++ [l]) <+: q) (hy : findW t q = some y) (hb : behIx y.kids a ≠ none) (hs : ¬ (p0 = q ∧ a = l)) : ∃ (z : It) (j : Nat), findW (lessW t x i p0) q = some z ∧ behIx z.kids a = some j ∧ j ≤ z.kids.length := by
  have hle : ∀ (z : It) (j : Nat), behIx z.kids a = some j → j ≤ z.kids.length := fun z j e => by
    rw [behIx_beh] at e
    have := behB_le e
    unfold labs at this
    rwa [List.length_map] at this
  by_cases hq : q = p0
  · subst hq
    rw [hy] at h1
    injection h1 with h1
    subst h1
    have hz : behIx (y.setKids (y.kids.eraseIdx i)).kids a ≠ none := by
      rw [beh_some] at hb ⊢
      refine hb.imp (fun e => e) (fun e => ?_)
      have h9 := kidOf_erase (Ds.find h hy).is.1 h3 a
      rw [if_neg (fun e => hs ⟨rfl, e.trans h4⟩)] at h9
      by_cases hc : a ∈ labs (y.kids.eraseIdx i)
      · exact hc
      · rw [kidOf_none.2 hc] at h9
        exact absurd e (kidOf_none.1 h9.symm)
    cases hj : behIx (y.setKids (y.kids.eraseIdx i)).kids a with
    | none => exact absurd hj hz
    | some j => exact ⟨_, j, findW_at hy rfl, hj, hle _ j hj⟩
  · have hv := less_view (i := i) h h1 h3 h4 hn hq .k
    rw [X_some hy] at hv
    cases hf : findW (lessW t x i p0) q with
    | none => unfold X at hv; rw [hf] at hv; cases hv
    | some z =>
      rw [X_some hf] at hv
      injection hv with hv
      have hv : labs z.kids = labs y.kids := hv
      rw [behIx_beh, ← hv, ← behIx_beh] at hb
      cases hj : behIx z.kids a with
      | none => exact absurd hj hb
      | some j => exact ⟨z, j, rfl, hj, hle z j hj⟩
end Go.Proofs.YtpbolcjcmkmalaaGreatDoor
namespace Go.Proofs.YtpbolcjcmkmalaaGreatDoor
open Go.RowKit Go.Extern.Stop Go.Stop Go.Extern

theorem isL_eq {s s' : ByteArray} {x : It} (h : isL s x = true) (h' : isL s' x = true) : s = s' := by
  unfold isL at h h'
  rw [beq_iff_eq] at h h'
  have e := h.symm.trans h'
  rw [Lib.toList_data, Lib.toList_data, Array.toList_inj] at e
  exact ByteArray.ext e
theorem plc_in {w : World} {B : Nat} : ∀ (p : List ByteArray) (b o : Nat) (t : It) (S : Nat → Prop) (v : Nat → Value) (x : It) (b' o' : Nat), ItAt w B b o t S v → findW t p = some x → p ≠ [] → plc w b o (ixs t p) = some (b', o') → S b'
  | [], b, o, t, S, v, x, b', o', h, hf, hp, hpl => absurd rfl hp
  | s :: r, b, o, t, S, v, x, b', o', h, hf, hp, hpl => by
    obtain ⟨i, k, hi, hk, hf⟩ := find_step hf
    obtain ⟨g, cap, K, T, e, ho, hat⟩ := h.kid hk
    rw [ixs_cons hi hk, plc_cons (h.cell (c := 3) (by omega)) (by rw [e]; rfl)] at hpl
    by_cases hr : r = []
    · subst hr
      rw [ixs, plc] at hpl
      injection hpl with hpl
      injection hpl with h1 _
      exact h1 ▸ ho.sk g (by rw [e]; rfl)
    · exact (ho.hT i b' (List.getElem?_eq_some_iff.1 hk).1 (plc_in r g (i * 4) k (T i) (K i) x b' o' hat hf hr hpl)).1
theorem plc_inj {w : World} {B : Nat} : ∀ (p q : List ByteArray) (b o : Nat) (t : It) (S : Nat → Prop) (v : Nat → Value) (x y : It) (b' o' : Nat), ItAt w B b o t S v → findW t p = some x → findW t q = some y → plc w b o (ixs t p) = some (b', o') → plc w b o (ixs t q) = some (b', o') → p = q
  | [], [], _, _, _, _, _, _, _, _, _, _, _, _, _, _ => rfl
  | [], s :: r, b, o, t, S, v, x, y, b', o', h, hf, hg, hp, hq => by
    rw [ixs, plc] at hp
    injection hp with hp
    injection hp with h1 _
    exact absurd (plc_in (s :: r) b o t S v y b' o' h hg (by simp) hq) (h1 ▸ h.out)
  | s :: r, [], b, o, t, S, v, x, y, b', o', h, hf, hg, hp, hq => by
    rw [ixs, plc] at hq
    injection hq with hq
    injection hq with h1 _
    exact absurd (plc_in (s :: r) b o t S v x b' o' h hf (by simp) hp) (h1 ▸ h.out)
  | s :: r, s' :: r', b, o, t, S, v, x, y, b', o', h, hf, hg, hp, hq => by
    obtain ⟨i, k, hi, hk, hf⟩ := find_step hf
    obtain ⟨j, k', hj, hk', hg⟩ := find_step hg
    obtain ⟨g, cap, K, T, e, ho, hat⟩ := h.kid hk
    have hjl := (List.getElem?_eq_some_iff.1 hk').1
    have hil := (List.getElem?_eq_some_iff.1 hk).1
    have hat' : ItAt w B g (j * 4) k' (T j) (K j) := by
      obtain ⟨g2, cap2, K2, T2, e2, ho2, hat2⟩ := h.kid hk'
      obtain ⟨cur, ty, eb, _⟩ := hat.here
      refine ⟨?_, ho.hr j k' hk', fun hT => (ho.hT j g hjl hT).2.2 (by rw [e]; rfl)⟩
      rcases ho.kd.2 with ⟨e1, h0⟩ | ⟨g', cap', cur', e1, hb', hgg, h1, h2, h3, h4⟩
      · omega
      · rw [e] at e1
        injection e1 with e1 _ _
        injection e1 with e1
        injection e1 with e1 _ _
        subst e1
        refine ⟨cur', _, hgg, fun c hc => ?_⟩
        have h5 := flat4_get K t.kids.length j c hjl hc
        rw [← h4, List.getElem?_take] at h5
        split at h5
        · simpa using h5
        · cases h5
    rw [ixs_cons hi hk, plc_cons (h.cell (c := 3) (by omega)) (by rw [e]; rfl)] at hp
    rw [ixs_cons hj hk', plc_cons (h.cell (c := 3) (by omega)) (by rw [e]; rfl)] at hq
    by_cases hij : i = j
    · subst hij
      rw [hk] at hk'
      injection hk' with hk'
      subst hk'
      obtain ⟨x1, e1, l1, _⟩ := kidIx_some hi
      obtain ⟨x2, e2, l2, _⟩ := kidIx_some hj
      rw [e1] at e2
      injection e2 with e2
      subst e2
      rw [isL_eq l1 l2, plc_inj r r' g (i * 4) k (T i) (K i) x y b' o' hat hf hg hp hq]
    · exfalso
      by_cases hr : r = []
      · subst hr
        rw [ixs, plc] at hp
        injection hp with hp
        injection hp with h1 h2
        by_cases hr' : r' = []
        · subst hr'
          rw [ixs, plc] at hq
          injection hq with hq
          injection hq with _ h4
          omega
        · have h5 := plc_in r' g (j * 4) k' (T j) (K j) y b' o' hat' hg hr' hq
          exact (ho.hT j b' hjl h5).2.2 (by rw [e, ← h1]; rfl)
      · have h5 := plc_in r g (i * 4) k (T i) (K i) x b' o' hat hf hr hp
        by_cases hr' : r' = []
        · subst hr'
          rw [ixs, plc] at hq
          injection hq with hq
          injection hq with h3 _
          exact (ho.hT i b' hil h5).2.2 (by rw [e, ← h3]; rfl)
        · have h6 := plc_in r' g (j * 4) k' (T j) (K j) y b' o' hat' hg hr' hq
          exact hij (ho.hd i j b' hil hjl h5 h6)
/-- Whether two places are one. -/
theorem Foc.same {w : World} {B b o : Nat} {t : It} {S : Nat → Prop} {v : Nat → Value} (h : ItAt w B b o t S v) {p q : List ByteArray} {b1 o1 b2 o2 : Nat} {x y : It} {S1 S2 : Nat → Prop} {v1 v2 : Nat → Value} (h1 : Foc w B b o t S p b1 o1 x S1 v1) (h2 : Foc w B b o t S q b2 o2 y S2 v2) : (b1 = b2 ∧ o1 = o2) ↔ p = q := by
  constructor
  · rintro ⟨rfl, rfl⟩
    exact plc_inj p q b o t S v x y b1 o1 h h1.fnd h2.fnd h1.pl h2.pl
  · rintro rfl
    have e := h1.pl.symm.trans h2.pl
    injection e with e
    injection e with e1 e2
    exact ⟨e1, e2⟩
end Go.Proofs.YtpbolcjcmkmalaaGreatDoor
namespace Go.Proofs.YtpbolcjcmkmalaaGreatDoor
open Go.RowKit Go.Extern.Stop Go.Stop Go.Extern

/-- Labels in memory that is new. -/
structure StrsN (n : Nat) (w : World) (a : Option Addr) (ps : List ByteArray) : Prop where
  at' : StrsAt w a ps
  new : ∀ g o, a = some ⟨g, o, none⟩ → n ≤ g
theorem StrsN.on {n : Nat} {w w' : World} {a : Option Addr} {ps : List ByteArray} (h : StrsN n w a ps) (hb : Below w.heap.size w w') : StrsN n w' a ps := ⟨h.at'.on hb, h.new⟩
theorem StrsN.upd {n b o : Nat} {w w' : World} {a : Option Addr} {ps : List ByteArray} {S : Nat → Prop} (h : StrsN n w a ps) (hu : Upd w w' b o S) (hb : b < n) (hS : ∀ q, S q → q < n) : StrsN n w' a ps := by
  refine ⟨fun i s hs => ?_, h.new⟩
  obtain ⟨g, o', e, hc⟩ := h.at' i s hs
  have hg := h.new g o' e
  exact ⟨g, o', e, (World.cell?_of_block (a := ⟨g, o' + i, none⟩) (hu.block g (cell_lt hc) (fun e => by have := hS g e; omega) (by omega))).trans hc⟩
set_option maxHeartbeats 1000000 in
theorem labelsOf_b (s : ByteArray) (hs : s.size ≤ 1000000) (m : Int) (n : Nat) (w : World) (hnw : n ≤ w.heap.size) (hm : w.cell? ⟨12, 0, none⟩ = some (.int .i64 m)) :
    Calls Tryz.prog 30 #[.string s] w fun e w' => (∃ a c, e = .returned (.slice a (partsB s).length c) ∧ StrsN n w' a (partsB s) ∧ (partsB s).length ≤ c) ∧ Below w.heap.size w w' := by
  have hE : s.toList.isEmpty = decide (s.size = 0) := size_empty
  by_cases h0 : s.size = 0
  · have HR : Hid (partsB s = []) := by show _ = _; unfold partsB; rw [if_pos h0]
    rw [show decide (s.size = 0) = true by simpa using h0] at hE
    clear h0
    go_enter Tryz.func30, Tryz.ntmps30
    go_wp2
    go_ret
    rw [HR.out]
    exact ⟨⟨none, 0, rfl, ⟨(fun i s h => by cases h), (fun g o h => by cases h)⟩, Nat.le_refl _⟩, Below.refl _ _⟩
  · rw [show decide (s.size = 0) = false by simpa using h0] at hE
    have h2 := Go.Proofs.Tryz.strings_Split s ⟨#[47]⟩ m w (by omega) hm (by decide)
    have hl := Lib.splitB_all ⟨#[47]⟩ (by decide) 0 _ s rfl
    rw [← hl, splitB_parts s h0] at h2
    have HSp := hidLL h2
    have HA := hidLL (strs_alloc w (partsB s) 9)
    clear h2 hl hm h0
    generalize partsB s = ps at *
    go_enter Tryz.func30, Tryz.ntmps30
    go_wp2_with fail
    refine HSp.out.mono ?_
    rintro e w1 ⟨rfl, ew⟩
    go_wp2
    go_ret
    refine ⟨⟨_, _, rfl, ?_, Nat.le_refl _⟩, ?_⟩
    · refine ⟨?_, fun g o h => by injection h with h; injection h with h _ _; omega⟩
      first | exact HA.out | (rw [ew]; exact HA.out)
    · first | exact (Below.refl _ _).alloc (Nat.le_refl _) _ | (rw [ew]; exact (Below.refl _ _).alloc (Nat.le_refl _) _)

theorem mv_no1 {t : It} {o : OpW} (h : arW t (partsB o.path) = none) : moveC t o = .bad 5 := by
  unfold moveC
  rw [h]
theorem mv_no2 {t : It} {o : OpW} (h : findW t (partsB o.new) = none) : moveC t o = .bad 5 := by
  unfold moveC
  rw [h]
  cases arW t (partsB o.path) <;> rfl
/-- What is found. -/
structure Mv (t : It) (ps qs : List ByteArray) (x : It) (i : Nat) (k y : It) : Prop where
  ar : arW t ps = some (x, i)
  fd : findW t qs = some y
  kd : x.kids[i]? = some k
section
variable {t x k y : It} {o : OpW} {i : Nat} (h : Mv t (partsB o.path) (partsB o.new) x i k y)
include h
theorem mv_in (h1 : partsB o.path <+: partsB o.new) : moveC t o = .bad 5 := by
  unfold moveC
  rw [h.ar, h.fd]
  exact if_pos h1
theorem mv_at (h1 : ¬ partsB o.path <+: partsB o.new) (h2 : behIx y.kids o.at' = none ∨ (partsB o.path).dropLast = partsB o.new ∧ o.at' = k.label) : moveC t o = .bad 5 := by
  unfold moveC
  rw [h.ar, h.fd]
  have e : (x.kids[i]?).getD It.none = k := by rw [h.kd]; rfl
  simp only [e]
  rw [if_neg h1, if_pos h2]
theorem mv_name (h1 : ¬ partsB o.path <+: partsB o.new) (h2 : ¬ (behIx y.kids o.at' = none ∨ (partsB o.path).dropLast = partsB o.new ∧ o.at' = k.label)) (h3 : (partsB o.path).dropLast ≠ partsB o.new ∧ (kidIx y.kids k.label).isSome) : moveC t o = .bad 7 := by
  unfold moveC
  rw [h.ar, h.fd]
  have e : (x.kids[i]?).getD It.none = k := by rw [h.kd]; rfl
  simp only [e]
  rw [if_neg h1, if_neg h2, if_pos h3]
theorem mv_deep (h1 : ¬ partsB o.path <+: partsB o.new) (h2 : ¬ (behIx y.kids o.at' = none ∨ (partsB o.path).dropLast = partsB o.new ∧ o.at' = k.label)) (h3 : ¬ ((partsB o.path).dropLast ≠ partsB o.new ∧ (kidIx y.kids k.label).isSome)) (h4 : 6 < (partsB o.new).length + levIt k) : moveC t o = .bad 2 := by
  unfold moveC
  rw [h.ar, h.fd]
  have e : (x.kids[i]?).getD It.none = k := by rw [h.kd]; rfl
  simp only [e]
  rw [if_neg h1, if_neg h2, if_neg h3, if_pos h4]
theorem mv_ok (h1 : ¬ partsB o.path <+: partsB o.new) (h2 : ¬ (behIx y.kids o.at' = none ∨ (partsB o.path).dropLast = partsB o.new ∧ o.at' = k.label)) (h3 : ¬ ((partsB o.path).dropLast ≠ partsB o.new ∧ (kidIx y.kids k.label).isSome)) (h4 : ¬ 6 < (partsB o.new).length + levIt k) (z : It) (j : Nat) (hz : findW (lessW t x i (partsB o.path).dropLast) (partsB o.new) = some z) (hj : behIx z.kids o.at' = some j) : moveC t o = .ok (setW (fun _ => z.setKids (z.kids.insertIdx j k)) (partsB o.new) (lessW t x i (partsB o.path).dropLast)) := by
  unfold moveC
  rw [h.ar, h.fd]
  have e : (x.kids[i]?).getD It.none = k := by rw [h.kd]; rfl
  simp only [e]
  rw [if_neg h1, if_neg h2, if_neg h3, if_neg h4, hz]
  simp only [hj]
end
end Go.Proofs.YtpbolcjcmkmalaaGreatDoor
namespace Go.Proofs.YtpbolcjcmkmalaaGreatDoor
open Go.RowKit
section
variable {ρ : Operand → Value} {dst : Option Tmp} {ty : TypeId} {ps : String} {af : Array Go.Edge} {g : Option (Nat × Bool)} {w : World} {x y z : Operand}
set_option maxRecDepth 20000
theorem x_kids {b o : Nat} (h : ρ x = .pointer (some ⟨b, o, none⟩)) : (execOp ρ ⟨dst, .fieldAddr 25 x 3, ty, ps, af, g⟩).run Tryz.prog w = .ok (.value (.pointer (some ⟨b, o + 3, none⟩))) w := by
  simp only [execOp, h]
  go_simp
theorem x_label {b o : Nat} (h : ρ x = .pointer (some ⟨b, o, none⟩)) : (execOp ρ ⟨dst, .fieldAddr 25 x 0, ty, ps, af, g⟩).run Tryz.prog w = .ok (.value (.pointer (some ⟨b, o, none⟩))) w := by
  simp only [execOp, h]
  go_simp
theorem x_opAt {b : Nat} (h : ρ x = .pointer (some ⟨b, 0, none⟩)) : (execOp ρ ⟨dst, .fieldAddr 46 x 2, ty, ps, af, g⟩).run Tryz.prog w = .ok (.value (.pointer (some ⟨b, 2, none⟩))) w := by
  simp only [execOp, h]
  go_simp
theorem x_ldS {a : Addr} {s : ByteArray} (h : ρ x = .pointer (some a)) (hc : w.cell? a = some (.string s)) : (execOp ρ ⟨dst, .load 9 x, ty, ps, af, g⟩).run Tryz.prog w = .ok (.value (.string s)) w := by
  simp only [execOp, h]
  go_simp
theorem x_ldK {a : Addr} {p : Option Addr} {n c : Nat} (h : ρ x = .pointer (some a)) (hc : w.cell? a = some (.slice p n c)) : (execOp ρ ⟨dst, .load 23 x, ty, ps, af, g⟩).run Tryz.prog w = .ok (.value (.slice p n c)) w := by
  simp only [execOp, h]
  go_simp
theorem x_lss {n : Int} {r : Bool} (h : ρ x = .int .i64 n) (hz : ρ y = .int .i64 0) (hr : decide (n < 0) = r) : (execOp ρ ⟨dst, .binOp .lss 3 x y 3, ty, ps, af, g⟩).run Tryz.prog w = .ok (.value (.bool r)) w := by
  subst hr
  simp only [execOp, h, hz]
  go_simp
theorem x_geq {n : Int} {r : Bool} (h : ρ x = .int .i64 n) (hz : ρ y = .int .i64 0) (hr : decide (0 ≤ n) = r) : (execOp ρ ⟨dst, .binOp .geq 3 x y 3, ty, ps, af, g⟩).run Tryz.prog w = .ok (.value (.bool r)) w := by
  subst hr
  simp only [execOp, h, hz]
  go_simp
theorem x_eqS {s t : ByteArray} {r : Bool} (h : ρ x = .string s) (h2 : ρ y = .string t) (hr : (s.toList == t.toList) = r) : (execOp ρ ⟨dst, .binOp .eql 9 x y 9, ty, ps, af, g⟩).run Tryz.prog w = .ok (.value (.bool r)) w := by
  subst hr
  simp only [execOp, h, h2]
  go_simp
theorem x_bin {op : BinOp} {t u : TypeId} {a b v : Value} (h : ρ x = a) (h2 : ρ y = b) (hg : (eqGuard op t x y a b).run Tryz.prog w = .ok () w) (hr : (binOp op t a b).run Tryz.prog w = .ok v w) : (execOp ρ ⟨dst, .binOp op t x y u, ty, ps, af, g⟩).run Tryz.prog w = .ok (.value v) w := by
  simp only [execOp, h, h2]
  simp only [Sem.run_bind, hg]
  show Result.andThen ((binOp op t a b).run Tryz.prog w) _ = _
  rw [hr]
  rfl
end
end Go.Proofs.YtpbolcjcmkmalaaGreatDoor
