/-
  Package slices: IndexFunc, DeleteFunc, of lines.
-/
import Derived.Test.YtkphonojpnhefaaDoorLeP1
import Derived.Lib.SliceRun
import Derived.BigFrame
namespace Go.Proofs.YtkphonojpnhefaaDoor
open Go.RowKit Go.Extern.Stop Go.Stop Go.Extern

theorem setCells_blk (b : Nat) : ∀ (vs : List Value) (o : Nat) (W : World) (k : Nat), k ≠ b → (W.setCells b o vs).heap[k]? = W.heap[k]?
  | [], _, _, _, _ => rfl
  | v :: r, o, W, k, hk => by
    rw [World.setCells, setCells_blk b r (o + 1) _ k hk]
    exact Below.heap_setCell _ _ _ _ hk
theorem setCells_rest (b : Nat) : ∀ (vs : List Value) (o : Nat) (W : World), (W.setCells b o vs).os = W.os ∧ (W.setCells b o vs).tape = W.tape ∧ (W.setCells b o vs).output = W.output ∧ (W.setCells b o vs).heap.size = W.heap.size
  | [], _, _ => ⟨rfl, rfl, rfl, rfl⟩
  | v :: r, o, W => by
    obtain ⟨h1, h2, h3, h4⟩ := setCells_rest b r (o + 1) (W.setCell ⟨b, o, none⟩ v)
    rw [World.setCells]
    exact ⟨h1, h2, h3, h4.trans (by simp)⟩
theorem Frm.setCells {x : Nat} {w w' : World} (h : Frm x w w') (o : Nat) (vs : List Value) : Frm x w (w'.setCells x o vs) := by
  obtain ⟨h1, h2, h3, h4⟩ := setCells_rest x vs o w'
  exact ⟨h1.trans h.os, h2.trans h.tape, h3.trans h.output, by rw [h4]; exact h.size, fun k hk hx => (setCells_blk x vs o w' k hx).trans (h.block k hk hx)⟩
theorem there_on {w w' : World} {b o n : Nat} (h : w.there b o n) (hb : w'.heap[b]? = w.heap[b]?) : w'.there b o n := fun j hj => by
  rw [World.cell?_of_block (a := ⟨b, o + j, none⟩) hb, World.frozen?_of_block (a := ⟨b, o + j, none⟩) hb]
  exact h j hj
/-- What clear leaves of elements of two cells. -/
theorem run_clear2 {P : Program} (w : World) (t e ty : TypeId) (z u0 u1 : Value) (ht : P.underlying t = some (.slice e)) (hv : ∀ w, (zeroValue e).run P w = .ok z w) (hz : z.cells = #[u0, u1]) (h0 : u0.oneCell' = true) (h1 : u1.oneCell' = true) (b o n c : Nat) (hn : 0 < n) (hth : w.there b o (n * 2)) :
    ∃ zs : List Value, zs.length = n * 2 ∧ (Builtin.clear_ #[t] ty #[.slice (some ⟨b, o, none⟩) n c]).run P w = .ok (.tuple #[]) (w.setCells b o zs) := by
  refine ⟨(Builtin.zeroCells z.cells n).toList, by rw [hz]; simp [Builtin.zeroCells], ?_⟩
  have hl : (Builtin.zeroCells z.cells n).toList.length = n * 2 := by rw [hz]; simp [Builtin.zeroCells]
  have hone : ∀ v ∈ (Builtin.zeroCells z.cells n).toList, v.oneCell' = true := fun v hv' => by
    rw [hz] at hv'
    simp only [Builtin.zeroCells, Array.toList_map, List.mem_map] at hv'
    obtain ⟨i, _, rfl⟩ := hv'
    have hi : i % 2 = 0 ∨ i % 2 = 1 := by omega
    have hs : (#[u0, u1] : Array Value).size = 2 := rfl
    rw [hs]
    rcases hi with hi | hi
    · rw [hi]; exact h0
    · rw [hi]; exact h1
  have hst := run_storeCells_cells (P := P) b o (Builtin.zeroCells z.cells n).toList 0 w (fun j hj => by rw [Nat.add_zero]; exact (hth j (by omega)).1) (fun j hj => by rw [Nat.add_zero]; exact (hth j (by omega)).2) hone
  simp only [Nat.add_zero] at hst
  obtain ⟨m, rfl⟩ : ∃ m, n = m + 1 := ⟨n - 1, by omega⟩
  simp [Builtin.clear_, run_underlying ht, hv, hst]
theorem zero_p (a : ByteArray) (c : Int) (w : World) : Calls Tryd.prog 31 #[.agg #[.string a, .int .i64 c]] w fun e w' => e = .returned (.bool (c == 0)) ∧ Below w.heap.size w w' := by
  go_enter Tryd.func31, Tryd.ntmps31
  go_wp2
  go_ret
  exact ⟨rfl, bel1 _ _⟩
theorem take_succ' {α : Type} {l : List α} {i : Nat} {x : α} (h : l[i]? = some x) : l.take (i + 1) = l.take i ++ [x] := by
  rw [List.take_add_one, h]; rfl
/-- Which is the first that is nothing. -/
def FirstZ (xs : List Ln) (r : Int) : Prop := r = -1 ∧ xs.filter nz = xs ∨ ∃ i : Nat, r = i ∧ i < xs.length ∧ (xs.take i).filter nz = xs.take i ∧ (xs.take (i + 1)).filter nz = xs.take i
set_option maxHeartbeats 1000000 in
theorem index_l {g n cp : Nat} {xs : List Ln} {w : World} (h : RdS lnE w (· = g) (.slice (some ⟨g, 0, none⟩) n cp) xs) (hg : g < w.heap.size) :
    Calls Tryd.prog 43 #[.slice (some ⟨g, 0, none⟩) n cp, .func (.func 31) #[] #[]] w fun e w' => (∃ r : Int, e = .returned (.int .i64 r) ∧ FirstZ xs r) ∧ Below w.heap.size w w' := by
  obtain ⟨hn, hbig⟩ := h.len
  have HR := hidIt (And.intro h hn)
  have HW := hidIt (fun x y w => zero_p x y w)
  clear h hn
  go_enter Tryd.func43, Tryd.ntmps43
  go_wp2_with fail
  go_loopw [8] (fun t wr => ∃ i : Nat, i ≤ n ∧ t = .int .i64 i ∧ (xs.take i).filter nz = xs.take i ∧ Below w.heap.size w wr) (fun t _ => n - (RowKit.intOf t).toNat)
  case atStart => exact ⟨0, by omega, rfl, rfl, Below.refl _ _⟩
  case round =>
    obtain ⟨i, hi, rfl, hA, hb⟩ := hrel
    have HA := hidIt hA
    have HB := hidIt hb
    clear hA hb
    by_cases hlt : i < n
    · have c0 : decide ((i : Int) < n) = true := by simp; omega
      obtain ⟨e, he, hdr⟩ := get_in (l := xs) (i := i) (by have := HR.out.2; omega)
      obtain ⟨g', o, ee, hg', hrg⟩ := HR.out.1.at he
      injection ee with ee
      injection ee with e1 e2 _
      subst e1 e2
      obtain ⟨q0, q1⟩ := ln_cells (range_bel hrg HB.out hg)
      have hk : lnE.k = 2 := rfl
      rw [hk, Nat.zero_add] at q0 q1
      have hiz : (i : Int) < n := by omega
      have HT := hidIt (take_succ' he)
      obtain ⟨ea, ec⟩ := e
      simp only at q0 q1
      clear hrg he hdr hk hg'
      by_cases hz : ec = 0
      · have HQ : Hid (nz ⟨ea, ec⟩ = false) := by show nz _ = _; simp [nz, hz]
        have hzb : (ec == 0) = true := by simpa using hz
        clear hz
        go_wp2_with fail
        refine (HW.out _ _ _).mono ?_
        rw [hzb]
        clear hzb
        rintro x w1 ⟨rfl, hb1⟩
        have HB1 := hidIt (HB.out.trans (hb1.mono HB.out.size))
        clear hb1
        go_wp2
        go_ret
        refine ⟨⟨_, rfl, .inr ⟨i, rfl, by have := HR.out.2; omega, HA.out, ?_⟩⟩, HB1.out⟩
        rw [HT.out, List.filter_append, HA.out, List.filter_cons, HQ.out]
        simp
      · have HQ : Hid (nz ⟨ea, ec⟩ = true) := by show nz _ = _; simp [nz, hz]
        have hzb : (ec == 0) = false := by simpa using hz
        clear hz
        go_wp2_with fail
        refine (HW.out _ _ _).mono ?_
        rw [hzb]
        clear hzb
        rintro x w1 ⟨rfl, hb1⟩
        have HB1 := hidIt (HB.out.trans (hb1.mono HB.out.size))
        clear hb1
        go_wp2
        go_roundw
        case rel =>
          refine ⟨i + 1, by omega, by go_num, ?_, HB1.out⟩
          rw [HT.out, List.filter_append, HA.out, List.filter_cons, HQ.out]
          simp
        case measure => simp [RowKit.intOf]; omega
    · have c0 : decide ((i : Int) < n) = false := by simp; omega
      have HD : Hid (xs.take i = xs) := List.take_of_length_le (by have := HR.out.2; omega)
      go_wp2
      go_ret
      refine ⟨⟨_, rfl, .inl ⟨rfl, ?_⟩⟩, HB.out⟩
      have := HA.out
      rwa [HD.out] at this
/-- Deleting under way. -/
structure DelS (w : World) (g : Nat) (xs : List Ln) (i j : Nat) (wr : World) (ys : List Ln) : Prop where
  len : ys.length = xs.length
  th : wr.there g 0 (xs.length * 2)
  rd : ∀ (k : Nat) x, ys[k]? = some x → wr.rangeAt g (k * 2) (lnE.f x)
  pre : ys.take i = (xs.take j).filter nz
  rest : ys.drop j = xs.drop j
  frm : Frm g w wr
  lt : g < wr.heap.size
  ij : i < j
  jn : j ≤ xs.length
theorem DelS.on {w wr w' : World} {g i j : Nat} {xs ys : List Ln} (h : DelS w g xs i j wr ys) (hb : Below wr.heap.size wr w') : DelS w g xs i j w' ys :=
  ⟨h.len, there_on h.th (hb.block _ h.lt), fun k x hx => range_bel (h.rd k x hx) hb h.lt, h.pre, h.rest, h.frm.trans (.of hb), Nat.lt_of_lt_of_le h.lt hb.size, h.ij, h.jn⟩
theorem DelS.get {w wr : World} {g i j : Nat} {xs ys : List Ln} (h : DelS w g xs i j wr ys) {x : Ln} (hx : xs[j]? = some x) : wr.rangeAt g (j * 2) (lnE.f x) := by
  refine h.rd j x ?_
  have h1 : (ys.drop j)[0]? = (xs.drop j)[0]? := by rw [h.rest]
  rw [List.getElem?_drop, List.getElem?_drop, Nat.add_zero] at h1
  rw [h1]; exact hx
theorem DelS.skip {w wr : World} {g i j : Nat} {xs ys : List Ln} (h : DelS w g xs i j wr ys) {x : Ln} (hx : xs[j]? = some x) (hz : nz x = false) : DelS w g xs i (j + 1) wr ys := by
  have hj := (List.getElem?_eq_some_iff.1 hx).1
  refine ⟨h.len, h.th, h.rd, ?_, ?_, h.frm, h.lt, by have := h.ij; omega, by omega⟩
  · rw [h.pre, take_succ' hx, List.filter_append, List.filter_cons, hz]
    simp
  · have := congrArg (List.drop 1) h.rest
    rw [List.drop_drop, List.drop_drop] at this
    exact this
theorem DelS.put {w wr : World} {g i j : Nat} {xs ys : List Ln} (h : DelS w g xs i j wr ys) {x : Ln} (hx : xs[j]? = some x) (hz : nz x = true) : DelS w g xs (i + 1) (j + 1) (wr.setCells g (i * 2) (lnE.f x)) (ys.set i x) := by
  have hj := (List.getElem?_eq_some_iff.1 hx).1
  have hij := h.ij
  have hl := h.len
  have hth : wr.there g (i * 2) (lnE.f x).length := fun k hk => by
    have h2 : (lnE.f x).length = 2 := rfl
    have := h.th (i * 2 + k) (by omega)
    rwa [Nat.zero_add] at this
  refine ⟨by rw [List.length_set]; exact hl, World.there_setCells h.th _ _ _, fun k y hy => ?_, ?_, ?_, h.frm.setCells _ _, by rw [(setCells_rest ..).2.2.2]; exact h.lt, by omega, by omega⟩
  · rw [List.getElem?_set] at hy
    by_cases hk : i = k
    · rw [if_pos hk, if_pos (by omega)] at hy
      obtain rfl := Option.some.inj hy
      subst hk
      exact World.rangeAt_setCells_same _ _ _ _ hth
    · rw [if_neg hk] at hy
      have h2 : ∀ z, (lnE.f z).length = 2 := fun _ => rfl
      exact World.rangeAt_setCells_apart (h.rd k y hy) _ _ _ (.inr (by rw [h2, h2]; omega))
  · rw [take_succ' (x := x) (by rw [List.getElem?_set_self (by omega)]), List.take_set_of_le (by omega), h.pre, take_succ' hx, List.filter_append, List.filter_cons, hz]
    simp
  · rw [List.drop_set_of_lt (by omega)]
    have := congrArg (List.drop 1) h.rest
    rw [List.drop_drop, List.drop_drop] at this
    exact this
theorem DelS.done {w wr : World} {g i j m cp : Nat} {xs ys : List Ln} (h : DelS w g xs i j wr ys) (hj : xs.length ≤ j) (hm : xs.length ≤ 1000) (zs : List Value) (hm2 : m = i) : RdS lnE (wr.setCells g (i * 2) zs) (· = g) (.slice (some ⟨g, 0, none⟩) m cp) (xs.filter nz) := by
  have h1 := h.pre
  rw [List.take_of_length_le hj] at h1
  have hij := h.ij
  have hjn := h.jn
  have hl : (xs.filter nz).length = i := by rw [← h1, List.length_take, h.len]; omega
  refine ⟨_, cp, by rw [hl, hm2], by omega, fun k x hx => ⟨g, 0, rfl, rfl, ?_⟩⟩
  rw [← h1, List.getElem?_take] at hx
  split at hx
  case isFalse => cases hx
  case isTrue hk =>
    rw [Nat.zero_add]
    have h2 : (lnE.f x).length = 2 := rfl
    exact World.rangeAt_setCells_apart (h.rd k x hx) _ _ _ (.inr (.inl (by rw [h2]; show k * 2 + 2 ≤ i * 2; omega)))
theorem Tryd.zeroLn : ∀ w, (zeroValue 45).run Tryd.prog w = .ok (.agg #[.string ⟨#[]⟩, .int .i64 0]) w := fun w => by
  have h : Tryd.t45.zero = some (.agg #[.string ⟨#[]⟩, .int .i64 0]) := by kernel_rfl
  simp [zeroValue, h]
def DelR (w : World) (g cp : Nat) (xs : List Ln) (e : Ending) (w' : World) : Prop := ∃ m, e = .returned (.slice (some ⟨g, 0, none⟩) m cp) ∧ m = (xs.filter nz).length ∧ RdS lnE w' (· = g) (.slice (some ⟨g, 0, none⟩) m cp) (xs.filter nz) ∧ Frm g w w'
set_option maxHeartbeats 2000000 in
theorem delete_p {g n : Nat} {xs : List Ln} {w : World} (h : RdS lnE w (· = g) (.slice (some ⟨g, 0, none⟩) n n) xs) (hth : w.there g 0 (xs.length * 2)) (hg : g < w.heap.size) (hn9 : n ≤ 100) :
    Calls Tryd.prog 30 #[.slice (some ⟨g, 0, none⟩) n n, .func (.func 31) #[] #[]] w (DelR w g n xs) := by
  obtain ⟨hn, hbig⟩ := h.len
  have HI := hidIt (index_l h hg)
  have HR := hidIt (And.intro h (And.intro hn hth))
  have HW := hidIt (fun x y w => zero_p x y w)
  clear h hn hth
  go_enter Tryd.func30, Tryd.ntmps30
  go_wp2_with fail
  refine HI.out.mono ?_
  rintro e w1 ⟨⟨r, rfl, hr⟩, hb1⟩
  have HB1 := hidIt hb1
  rcases hr with ⟨rfl, hf⟩ | ⟨i0, rfl, hi0, hp0, hp1⟩
  · have HF := hidIt hf
    clear hf hb1
    go_wp2
    go_ret
    refine ⟨n, rfl, by rw [HF.out]; exact HR.out.2.1, ?_, .of HB1.out⟩
    rw [HF.out]
    exact HR.out.1.on fun k hk => ⟨hk, HB1.out.block k (by omega)⟩
  · have hS0 : DelS w g xs i0 (i0 + 1) w1 xs := by
      obtain ⟨h1, h2, h3⟩ := HR.out
      refine ⟨rfl, there_on h3 (hb1.block _ hg), fun k x hx => ?_, hp1.symm ▸ rfl, rfl, .of hb1, Nat.lt_of_lt_of_le hg hb1.size, by omega, by omega⟩
      obtain ⟨g', o, ee, hg', hrg⟩ := h1.at hx
      injection ee with ee
      injection ee with e1 e2 _
      subst e1 e2
      rw [Nat.zero_add] at hrg
      exact range_bel hrg hb1 hg
    have HS0 := hidIt hS0
    have hi0n : i0 < n := by have := HR.out.2.1; omega
    have hne1 : ((i0 : Int) == -1) = false := by simp
    clear hS0 hb1 hp0 hp1 hi0
    go_wp2_with fail
    go_loopw [5, 6] (fun s t wr => ∃ (i j : Nat) (ys : List Ln), s = .int .i64 i ∧ t = .int .i64 j ∧ DelS w g xs i j wr ys) (fun _ t _ => n - (RowKit.intOf t).toNat)
    case atStart => exact ⟨i0, i0 + 1, xs, rfl, rfl, HS0.out⟩
    case round =>
      obtain ⟨i, j, ys, rfl, rfl, hS⟩ := hrel
      have HS := hidIt hS
      have hij := hS.ij
      have hjn := hS.jn
      have hlen := HR.out.2.1
      rw [← hlen] at hjn
      clear hS hlen
      by_cases hlt : j < n
      · have c0 : decide ((j : Int) < n) = true := by simp; omega
        have hjz : (j : Int) < n := by omega
        obtain ⟨e, he, hdr⟩ := get_in (l := xs) (i := j) (by have := HR.out.2.1; omega)
        obtain ⟨q0, q1⟩ := ln_cells (HS.out.get he)
        have HE := hidIt he
        obtain ⟨ea, ec⟩ := e
        simp only at q0 q1
        have hgl := HS.out.lt
        have hgne : ¬ g = wr.heap.size := by omega
        clear he hdr
        by_cases hz : ec = 0
        · have HQ : Hid (nz ⟨ea, ec⟩ = false) := by show nz _ = _; simp [nz, hz]
          have hzb : (ec == 0) = true := by simpa using hz
          clear hz
          go_wp2_with fail
          refine (HW.out _ _ _).mono ?_
          rw [hzb]
          clear hzb
          rintro x w2 ⟨rfl, hb2⟩
          have HB2 := hidIt ((bel1 wr _).trans (hb2.mono (bel1 wr _).size))
          clear hb2
          go_wp2
          go_roundw
          case rel => exact ⟨i, j + 1, ys, rfl, by go_num, (HS.out.on HB2.out).skip HE.out HQ.out⟩
          case measure => simp [RowKit.intOf]; omega
        · have HQ : Hid (nz ⟨ea, ec⟩ = true) := by show nz _ = _; simp [nz, hz]
          have hzb : (ec == 0) = false := by simpa using hz
          clear hz
          go_wp2_with fail
          refine (HW.out _ _ _).mono ?_
          rw [hzb]
          clear hzb
          rintro x w2 ⟨rfl, hb2⟩
          have hq0 : w2.cell? ⟨wr.heap.size, 0, none⟩ = some (.string ea) := (hb2.cell (p := ⟨wr.heap.size, 0, none⟩) (by simp)).trans (by simp)
          have hq1 : w2.cell? ⟨wr.heap.size, 1, none⟩ = some (.int .i64 ec) := (hb2.cell (p := ⟨wr.heap.size, 1, none⟩) (by simp)).trans (by simp)
          have hS2 := HS.out.on ((bel1 wr _).trans (hb2.mono (bel1 wr _).size))
          have HP := hidIt (hS2.put HE.out HQ.out)
          have t0 := hS2.th (i * 2) (by have := hS2.jn; omega)
          have t1 := hS2.th (i * 2 + 1) (by have := hS2.jn; omega)
          rw [Nat.zero_add] at t0 t1
          obtain ⟨t00, t01⟩ := t0
          obtain ⟨t10, t11⟩ := t1
          obtain ⟨u0, hu0⟩ := Option.isSome_iff_exists.1 t00
          obtain ⟨u1, hu1⟩ := Option.isSome_iff_exists.1 t10
          have hin : (i : Int) < n := by omega
          generalize wr.heap.size = sz at *
          clear hb2 hS2 t00 t10 q0 q1
          go_wp2
          go_roundw
          case rel => exact ⟨i + 1, j + 1, _, by go_num, by go_num, HP.out⟩
          case measure => simp [RowKit.intOf]; omega
      · have c0 : decide ((j : Int) < n) = false := by simp; omega
        have hin : i < n := by omega
        have hinz : (i : Int) ≤ n := by omega
        have hnei : ¬ n = i := by omega
        have hcl := fun ty => run_clear2 (P := Tryd.prog) wr 37 45 ty _ (.string ⟨#[]⟩) (.int .i64 0) Tryd.underlying37 Tryd.zeroLn rfl rfl rfl g (i * 2) (n - i) (n - i) (by omega) (fun k hk => by
          have := HS.out.th (i * 2 + k) (by have := HR.out.2.1; omega)
          rwa [Nat.zero_add] at this)
        obtain ⟨zs, hzl, hclr⟩ := hcl 0
        have HD : Hid (∀ m, m = i → RdS lnE (wr.setCells g (i * 2) zs) (· = g) (.slice (some ⟨g, 0, none⟩) m n) (xs.filter nz)) := fun m hm => HS.out.done (by have := HR.out.2.1; omega) (by have := HR.out.2.1; omega) zs hm
        have HFr : Hid (Frm g w (wr.setCells g (i * 2) zs)) := HS.out.frm.setCells _ _
        clear hcl hzl
        go_wp2
        go_ret
        exact ⟨i, rfl, (HD.out i rfl).len.1, HD.out i rfl, HFr.out⟩
end Go.Proofs.YtkphonojpnhefaaDoor
