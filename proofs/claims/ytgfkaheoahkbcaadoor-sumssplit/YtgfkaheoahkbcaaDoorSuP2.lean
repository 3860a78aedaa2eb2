/-
  sums.monthly, sums.Months.
-/
import Derived.Test.YtgfkaheoahkbcaaDoorSuP1
namespace Go.Proofs.YtgfkaheoahkbcaaDoor
open Go.RowKit Go.Extern.Stop Go.Stop Go.Extern

theorem IRd.take {w : World} {B n c : Nat} {a : Option Addr} {l : List Int} (h : IRd w B (.slice a n c) l) {k : Nat} (hk : k ≤ l.length) (hk0 : 0 < k) : IRd w B (.slice a k c) (l.take k) := by
  obtain ⟨a', c', e, hl, hc, hn, hx⟩ := h
  injection e with e1 e2 e3
  subst e1 e3
  have hlen : (l.take k).length = k := by rw [List.length_take]; omega
  refine ⟨a, c, by rw [hlen], by omega, by omega, fun e => ?_, fun j x hj => ?_⟩
  · have := (hn e).1
    rw [this] at hk
    simp at hk
    omega
  · rw [List.getElem?_take] at hj
    split at hj
    · exact hx j x hj
    · cases hj
theorem IRd.drop {w : World} {B n c g o : Nat} {l : List Int} (h : IRd w B (.slice (some ⟨g, o, none⟩) n c) l) {k : Nat} (hk : k ≤ l.length) : ∀ q, q = n - k → IRd w B (.slice (if c = k then some ⟨g, o, none⟩ else some ⟨g, o + k, none⟩) q (c - k)) (l.drop k) := by
  rintro q rfl
  obtain ⟨a', c', e, hl, hc, hn, hx⟩ := h
  injection e with e1 e2 e3
  subst e1 e2 e3
  have hlen : (l.drop k).length = l.length - k := by rw [List.length_drop]
  refine ⟨_, c - k, by rw [hlen], by omega, by omega, fun e => ?_, fun j x hj => ?_⟩
  · split at e <;> cases e
  · have hj2 := (List.getElem?_eq_some_iff.1 hj).1
    rw [List.getElem?_drop] at hj
    obtain ⟨g', o', h1, h2, h3⟩ := hx (k + j) x hj
    injection h1 with h1
    injection h1 with h4 h5
    subst h4 h5
    refine ⟨g, o + k, by rw [if_neg (by omega)], h2, ?_⟩
    rw [show o + k + j = o + (k + j) by omega]
    exact h3
def slLen : Value → Nat
  | .slice _ n _ => n
  | _ => 0
/-- What is under way: the days that are left, the pays so far. -/
inductive MonS (w : World) (B : Nat) (way : Int) (ps : List Py) : Value → Value → Value → World → Prop
  | mk {ad : Option Addr} {n cp : Nat} {f : Int} {l : List Int} {pa : Option Addr} {pn pc : Nat} {pre suf : List Py} {wr : World} (rd : IRd wr B (.slice ad n cp) l) (len : n = l.length) (few : n ≤ 4000)
      (bd : ∀ x, x ∈ l → -1000000000000 ≤ x ∧ x ≤ 1000000000000) (mo : MoR way f l suf) (all : ps = pre ++ suf) (plen : pn = pre.length) (row : PyRow 40 wr w.heap.size (.slice pa pn pc) pre) (bel : Below w.heap.size w wr) :
      MonS w B way ps (.slice ad n cp) (.int .i64 f) (.slice pa pn pc) wr
/-- What is answered: pays in memory of the call's own. -/
def PayR (w : World) (ps : List Py) (e : Ending) (w' : World) : Prop := ∃ ad m cc, e = .returned (.tuple #[.slice ad m cc, .nilIface]) ∧ m = ps.length ∧ Below w.heap.size w w' ∧ PyRow 40 w' w.heap.size (.slice ad m cc) ps
set_option maxHeartbeats 2000000 in
theorem monthly_p {B n c : Nat} {a : Option Addr} {l : List Int} {w : World} {f way : Int} {ps : List Py} (h : IRd w B (.slice a n c) l) (hn : n = l.length) (hB : B ≤ w.heap.size) (hl : ∀ x, x ∈ l → -1000000000000 ≤ x ∧ x ≤ 1000000000000)
    (hlen : n ≤ 4000) (hw : wyB way = true) (hm : MoR way f l ps) : Calls Tryd.prog 18 #[.slice a n c, .int .i64 f, .int .i64 way] w (PayR w ps) := by
  have HS : Hid (MonS w B way ps (.slice a n c) (.int .i64 f) (.slice none 0 0) w) := .mk h hn hlen hl hm (pre := []) rfl rfl (PyRow.nil _ _) (Below.refl _ _)
  have HPl : Hid (ps.length ≤ 4000) := by have := hm.len; show _ ≤ _; omega
  have HW := hidIt hw
  have HB := hidIt hB
  clear h hn hl hlen hm hw hB
  go_enter Tryd.func18, Tryd.ntmps18
  go_wp2_with fail
  go_loopw [0, 1, 8] (fun x y z wr => MonS w B way ps x y z wr) (fun x _ _ _ => slLen x)
  case atStart => exact HS.out
  case round =>
    clear HS
    rcases hrel with @⟨ad, n, cp, f, l, pa, pn, pc, pre, suf, wr, rd, len, few, bd, mo, all, plen, row, bel⟩
    have HR := hidIt rd
    have HL := hidIt len
    have HBd := hidIt bd
    have HAll := hidIt all
    have HPn := hidIt plen
    have HRow := hidIt row
    have HBel := hidIt bel
    by_cases h0 : n = 0
    · have HPs : Hid (ps = pre) := by
        have hl0 : l = [] := List.eq_nil_of_length_eq_zero (by omega)
        subst hl0
        have := mo.inv_nil
        rw [all, this, List.append_nil]
        rfl
      subst h0
      clear rd len bd mo all plen row bel
      go_wp2
      go_ret2
      exact ⟨_, _, _, rfl, by rw [HPs.out]; exact HPn.out, HBel.out, by rw [HPs.out]; exact HRow.out⟩
    · have hl0 : l ≠ [] := fun e => h0 (by rw [len, e]; rfl)
      obtain ⟨y, m, d, k, qs, hD, hf, hc, hk1, hk2, rfl, mo2⟩ := mo.inv hl0
      obtain ⟨x0, hx0⟩ : ∃ x, l[0]? = some x := ⟨_, List.getElem?_eq_getElem (by omega)⟩
      obtain ⟨g, o, rfl, hg, _⟩ := rd.at hx0
      have hcap : n ≤ cp := by
        obtain ⟨_, _, e, _, hc2, _⟩ := rd
        injection e with _ _ e3
        omega
      have HT := hidIt (rd.take hk2 hk1)
      have HDr := hidIt (rd.drop hk2)
      have HE := hidIt (fun W => monthEnd_p y m d W hD)
      have hLa := (hD.later (k := mlen y m - d) (by have := hD.d2; omega) (by omega))
      have HP := hidIt (fun W => parts_ok y m (d + (mlen y m - d)) W hLa.1)
      have hd1 := hD.d1
      have hd2 := hD.d2
      have hi := hD.isDay
      rw [hLa.2] at HP
      rw [show d + (mlen y m - d) = mlen y m by omega] at HP
      rw [hf] at HE HP hi
      rw [show f + (mlen y m - d) = f - d + mlen y m by omega] at HP
      have hL := mlen_bd y m
      have hc4 := mlen_cases y m
      have hsum := sum_abs 1000000000000 (by decide) (l.take k) (fun x hx => bd x (List.mem_of_mem_take hx))
      rw [List.length_take, show min k l.length = k by omega] at hsum
      have hkL : (k : Int) ≤ mlen y m := by omega
      have hr := rnd_bd (l.take k).sum (mlen y m) way 1000000000000 (by omega) (by omega) (by omega)
      have HO := hidIt (fun W => over_p (l.take k).sum (mlen y m) way W hc4 (by omega) (by omega) HW.out (szB_iff.2 hr))
      have HTg : Hid (∀ W, Below wr.heap.size wr W → Calls Tryd.prog 34 #[.slice (some ⟨g, o, none⟩) k cp] W fun e w' => e = .returned (.int .i64 (l.take k).sum) ∧ w' = W) := fun W hW =>
        together_p (HT.out.on fun i hi => hW.block i (by have := HB.out; have := bel.size; omega)) (by rw [List.length_take]; omega) (fun x hx => bd x (List.mem_of_mem_take hx)) (by omega)
      have hmin : min (f - d + mlen y m - f + 1) (n : Int) = (k : Int) := by rw [len]; omega
      have hD2 : Hid (MoR way (f + k) (l.drop k) qs) := mo2
      have HBd2 : Hid (∀ x, x ∈ l.drop k → -1000000000000 ≤ x ∧ x ≤ 1000000000000) := fun x hx => bd x (List.mem_of_mem_drop hx)
      have HLd : Hid (n - k = (l.drop k).length) := by show _ = _; rw [List.length_drop, ← len]
      have hpl : pre.length + 1 ≤ 4000 := by
        have := HPl.out
        rw [all, List.length_append, List.length_cons] at this
        omega
      have hsz : w.heap.size ≤ wr.heap.size := bel.size
      have hkn : k ≤ n := by omega
      have hkc : k ≤ cp := by omega
      have hcn : n ≤ cp := hcap
      have hn0 : 0 < n := by omega
      clear rd bd mo mo2 all plen row bel hx0 hl0 hD hf hc hLa hsum hr hc4 hcap len h0 hk2
      generalize mlen y m = L at *
      generalize (l.take k).sum = S at *
      generalize hrr : rnd S L way = rr at *
      clear hrr
      by_cases hle : f - d + L - f + 1 ≤ (n : Int)
      · have HK : Hid (f - d + L - f + 1 = (k : Int)) := by show _ = _; omega
        clear hmin
        go_wp2_with fail
        refine (HE.out _).mono ?_
        rintro e w1 ⟨rfl, rfl⟩
        clear HE
        go_wp2_with fail
        rw [HK.out]
        clear hle
        refine (HP.out _).mono ?_
        rintro e w2 ⟨rfl, rfl⟩
        clear HP
        go_wp2_with fail
        refine (HTg.out _ (Below.refl _ _)).mono ?_
        rintro e w3 ⟨rfl, rfl⟩
        clear HTg
        go_wp2_with fail
        refine (HO.out _).mono ?_
        rintro e w4 ⟨rfl, nk, rfl⟩
        clear HO
        go_wp2_with (at_builtin; refine wpList_push_py Tryd.infoPay Tryd.underlying24 rfl (.tmp 47) (.tmp 54) rfl w.heap.size (.slice pa pn pc) pre f (f + k) rr rfl (HRow.out.below (bdrewN (Below.refl _ _) nk)) (by first | (simp [Act.eval]; done) | simp [Act.eval, Act.put]) (by simp; omega) (by omega) ?_; intro v' w5 hr5 hb5; obtain ⟨pa5, pn5, pc5, rfl, hp5⟩ := hr5.any3; have HR5 := hidIt hr5; have HB5 := hidIt hb5; have HP5 := hidIt hp5; clear hr5 hb5 hp5)
        go_roundw
        case rel =>
          have hbel5 : Below w.heap.size w w5 := (bdrewN HBel.out nk).trans HB5.out
          refine .mk ((HDr.out _ (by omega)).on fun i hi => ?_) (by have := HLd.out; omega) (by omega) HBd2.out hD2.out (by rw [HAll.out, List.append_assoc]; rfl) HP5.out HR5.out hbel5
          have := HB.out
          exact HB5.out.block i (by omega)
        case measure => simp [slLen]; omega
      · obtain rfl : k = n := by omega
        clear hmin
        go_wp2_with fail
        refine (HE.out _).mono ?_
        rintro e w1 ⟨rfl, rfl⟩
        clear HE
        go_wp2_with fail
        clear hle
        refine (HP.out _).mono ?_
        rintro e w2 ⟨rfl, rfl⟩
        clear HP
        go_wp2_with fail
        refine (HTg.out _ (Below.refl _ _)).mono ?_
        rintro e w3 ⟨rfl, rfl⟩
        clear HTg
        go_wp2_with fail
        refine (HO.out _).mono ?_
        rintro e w4 ⟨rfl, nk, rfl⟩
        clear HO
        go_wp2_with (at_builtin; refine wpList_push_py Tryd.infoPay Tryd.underlying24 rfl (.tmp 47) (.tmp 54) rfl w.heap.size (.slice pa pn pc) pre f (f + k) rr rfl (HRow.out.below (bdrewN (Below.refl _ _) nk)) (by first | (simp [Act.eval]; done) | simp [Act.eval, Act.put]) (by simp; omega) (by omega) ?_; intro v' w5 hr5 hb5; obtain ⟨pa5, pn5, pc5, rfl, hp5⟩ := hr5.any3; have HR5 := hidIt hr5; have HB5 := hidIt hb5; have HP5 := hidIt hp5; clear hr5 hb5 hp5)
        go_roundw
        case rel =>
          have hbel5 : Below w.heap.size w w5 := (bdrewN HBel.out nk).trans HB5.out
          refine .mk ((HDr.out _ (by omega)).on fun i hi => ?_) (by have := HLd.out; omega) (by omega) HBd2.out hD2.out (by rw [HAll.out, List.append_assoc]; rfl) HP5.out HR5.out hbel5
          have := HB.out
          exact HB5.out.block i (by omega)
        case measure => simp [slLen]; omega
/-- What is answered where something is wrong: the sentinel k's. -/
def ErrR (w : World) (p : Nat → Addr) (k : Nat) (e : Ending) (w' : World) : Prop := e = .returned (.tuple #[.slice none 0 0, .iface 92 (.pointer (some (p k)))]) ∧ Below w.heap.size w w'
/-- What is wrong with days, a way: the first that is so. -/
def errM (l : List Int) (f way : Int) : Option Nat := if wyB way = false then some 8 else if 4000 < l.length then some 1 else if ¬ (l.length = 0 ∨ 1 ≤ f ∧ f + l.length - 1 ≤ 3652059) then some 3 else if badA l = true then some 2 else none
/-- The four sentinels. -/
structure Sent (w : World) (p : Nat → Addr) : Prop where
  kind : w.cell? ⟨0, 0, none⟩ = some (.iface 92 (.pointer (some (p 8))))
  bound : w.cell? ⟨1, 0, none⟩ = some (.iface 92 (.pointer (some (p 1))))
  day : w.cell? ⟨2, 0, none⟩ = some (.iface 92 (.pointer (some (p 3))))
  coin : w.cell? ⟨3, 0, none⟩ = some (.iface 92 (.pointer (some (p 2))))
theorem Sent.below {w w' : World} {p : Nat → Addr} (h : Sent w p) (hb : Below w.heap.size w w') : Sent w' p :=
  ⟨(hb.cell (p := ⟨0, 0, none⟩) (cell_lt h.kind)).trans h.kind, (hb.cell (p := ⟨1, 0, none⟩) (cell_lt h.bound)).trans h.bound, (hb.cell (p := ⟨2, 0, none⟩) (cell_lt h.day)).trans h.day, (hb.cell (p := ⟨3, 0, none⟩) (cell_lt h.coin)).trans h.coin⟩
set_option maxHeartbeats 1000000 in
theorem months_err {B n c k : Nat} {a : Option Addr} {l : List Int} {w : World} {f way : Int} {p : Nat → Addr} (h : IRd w B (.slice a n c) l) (hn : n = l.length) (hs : Sent w p) (hk : errM l f way = some k) :
    Calls Tryd.prog 6 #[.slice a n c, .int .i64 f, .int .i64 way] w (ErrR w p k) := by
  have hbig : n ≤ 17592186044416 := by obtain ⟨_, _, _, hl, _⟩ := h; omega
  have H1 := hidIt (fun W => isWay_p way W)
  obtain ⟨cK, cB, cD, cC⟩ := hs
  unfold errM at hk
  cases hw : wyB way
  · rw [if_pos hw] at hk
    obtain rfl : 8 = k := Option.some.inj hk
    rw [hw] at H1
    clear hk hw h hn
    go_enter Tryd.func6, Tryd.ntmps6
    go_wp2_with (go_at_call 15; refine (H1.out _).mono ?_; rintro e w' ⟨rfl, rfl⟩)
    go_quiet (fail)
    go_wp2
    go_ret2
    exact ⟨rfl, bdrewN (Below.refl _ _) _⟩
  · rw [if_neg (by rw [hw]; decide)] at hk
    rw [hw] at H1
    by_cases h4 : 4000 < l.length
    · rw [if_pos h4] at hk
      obtain rfl : 1 = k := Option.some.inj hk
      have h4z : (4000 : Int) < (n : Int) := by omega
      clear hk hw h hn h4
      go_enter Tryd.func6, Tryd.ntmps6
      go_wp2_with (go_at_call 15; refine (H1.out _).mono ?_; rintro e w' ⟨rfl, rfl⟩)
      go_quiet (fail)
      go_wp2
      go_ret2
      exact ⟨rfl, bdrewN (Below.refl _ _) _⟩
    · rw [if_neg h4] at hk
      have h4z : ¬ (4000 : Int) < (n : Int) := by omega
      have h4n : n ≤ 4000 := by omega
      have H2 := hidIt (fun W => areDays_p f n W hbig)
      have HC := hidIt (fun W hW => contains_p (w := W) (IRd.on (w' := W) h hW) hn h4n)
      rw [← hn] at hk
      by_cases hd : n = 0 ∨ 1 ≤ f ∧ f + n - 1 ≤ 3652059
      · rw [if_neg (fun q => q hd)] at hk
        rw [decide_eq_true hd] at H2
        cases hb : badA l
        · rw [if_neg (by rw [hb]; decide)] at hk
          cases hk
        · rw [if_pos hb] at hk
          obtain rfl : 2 = k := Option.some.inj hk
          rw [hb] at HC
          clear hk hw h hn h4 hd hb
          go_enter Tryd.func6, Tryd.ntmps6
          go_wp2_with (first
            | (go_at_call 15; refine (H1.out _).mono ?_; rintro e w' ⟨rfl, rfl⟩)
            | (go_at_call 16; refine (H2.out _).mono ?_; rintro e w' ⟨rfl, rfl⟩)
            | (go_at_call 17; refine (HC.out _ (fun _ _ => rfl)).mono ?_; rintro e w' ⟨rfl, rfl⟩))
          go_quiet (fail)
          go_wp2
          go_ret2
          exact ⟨rfl, bdrewN (Below.refl _ _) _⟩
      · rw [if_pos hd] at hk
        obtain rfl : 3 = k := Option.some.inj hk
        rw [decide_eq_false hd] at H2
        clear hk hw h hn h4 hd HC
        go_enter Tryd.func6, Tryd.ntmps6
        go_wp2_with (first
          | (go_at_call 15; refine (H1.out _).mono ?_; rintro e w' ⟨rfl, rfl⟩)
          | (go_at_call 16; refine (H2.out _).mono ?_; rintro e w' ⟨rfl, rfl⟩))
        go_quiet (fail)
        go_wp2
        go_ret2
        exact ⟨rfl, bdrewN (Below.refl _ _) _⟩
theorem errM_none {l : List Int} {f way : Int} (h : errM l f way = none) : wyB way = true ∧ l.length ≤ 4000 ∧ (l.length = 0 ∨ 1 ≤ f ∧ f + l.length - 1 ≤ 3652059) ∧ badA l = false := by
  unfold errM at h
  cases hw : wyB way
  · rw [if_pos hw] at h; cases h
  · rw [if_neg (by rw [hw]; decide)] at h
    by_cases h4 : 4000 < l.length
    · rw [if_pos h4] at h; cases h
    · rw [if_neg h4] at h
      by_cases hd : l.length = 0 ∨ 1 ≤ f ∧ f + l.length - 1 ≤ 3652059
      · rw [if_neg (fun q => q hd)] at h
        cases hb : badA l
        · exact ⟨rfl, by omega, hd, rfl⟩
        · rw [if_pos hb] at h; cases h
      · rw [if_pos hd] at h; cases h
theorem badA_f {l : List Int} (h : badA l = false) : ∀ x, x ∈ l → -1000000000000 ≤ x ∧ x ≤ 1000000000000 := fun x hx => by
  have := (List.any_eq_false.1 h) x hx
  cases hz : szB x 1000000000000
  · rw [hz] at this; exact absurd rfl this
  · exact szB_iff.1 hz
set_option maxHeartbeats 1000000 in
theorem months_ok {B n c : Nat} {a : Option Addr} {l : List Int} {w : World} {f way : Int} {ps : List Py} (h : IRd w B (.slice a n c) l) (hn : n = l.length) (hB : B ≤ w.heap.size) (hk : errM l f way = none) (hm : MoR way f l ps) :
    Calls Tryd.prog 6 #[.slice a n c, .int .i64 f, .int .i64 way] w (PayR w ps) := by
  obtain ⟨hw, h4, hd, hb⟩ := errM_none hk
  have hbig : n ≤ 17592186044416 := by omega
  have H1 := hidIt (fun W => isWay_p way W)
  have h4z : ¬ (4000 : Int) < (n : Int) := by omega
  have H2 := hidIt (fun W => areDays_p f n W hbig)
  have HC := hidIt (contains_p h hn (by omega))
  rw [hn, decide_eq_true hd, ← hn] at H2
  rw [hb] at HC
  rw [hw] at H1
  have HM := hidIt (monthly_p h hn hB (badA_f hb) (by omega) hw hm)
  clear h hn hB hk hm hw h4 hd hb
  go_enter Tryd.func6, Tryd.ntmps6
  go_wp2_with (first
    | (go_at_call 15; refine (H1.out _).mono ?_; rintro e w' ⟨rfl, rfl⟩)
    | (go_at_call 16; refine (H2.out _).mono ?_; rintro e w' ⟨rfl, rfl⟩)
    | (go_at_call 17; refine HC.out.mono ?_; rintro e w' ⟨rfl, rfl⟩)
    | (go_at_call 18; refine HM.out.mono ?_; rintro e w4 ⟨ad, m, cc, rfl, hm5, hb5, hr5⟩; have H5 := hidIt (And.intro hm5 (And.intro hb5 hr5)); clear hm5 hb5 hr5))
  go_ret2
  exact ⟨_, _, _, rfl, H5.out⟩
end Go.Proofs.YtgfkaheoahkbcaaDoor
