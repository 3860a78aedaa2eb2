/-
  Facts: Add of both sides by one contract (written by tools/genfaddany.py).
-/
import Derived.Test.YtagdenpmonedlaaDoorFAddP1
import Derived.Test.YtagdenpmonedlaaDoorFAddP2
import Derived.Test.YtagdenpmonedlaaDoorFAddP3
import Derived.Test.YtagdenpmonedlaaDoorFAddP4
import Derived.Test.YtagdenpmonedlaaDoorFAddR1
import Derived.Test.YtagdenpmonedlaaDoorFAddR2
import Derived.Test.YtagdenpmonedlaaDoorFAddR3
import Derived.Test.YtagdenpmonedlaaDoorFAddR4
namespace Go.Proofs.YtagdenpmonedlaaDoor
open Go.RowKit Go.Extern.Stop Go.Stop Go.Extern

theorem heap_set_other (w : World) (b i k : Nat) (u : Value) (h : k ≠ b) : (w.setCell ⟨b, i, none⟩ u).heap[k]? = w.heap[k]? := Below.heap_setCell _ _ _ _ h
theorem per_ne {n : Int} (h : perB n = true) : ¬ (-1 : Int) = n := by
  unfold perB at h
  simp at h
  omega
/-- A fact has been kept. -/
theorem add_done {T B b n c : Nat} {w w1 w2 : World} {sa : Option Addr} {L : List Fct} {x : Fct} {v' : Value} (h : FFile T B w b L (.slice sa n c)) (hn : n = L.length) (ho : w2.ownsRow B T 7 v' (n + 1) (fcells L ++ fctC x)) (hb : Below w.heap.size w w1) (hg : w1.grownBy w2 (Value.slice sa n c).ownBlock) :
    FFile T B (w2.setCell ⟨b, 0, none⟩ v') b (L ++ [x]) v' ∧ FStep T B b w (w2.setCell ⟨b, 0, none⟩ v') := by
  have hne : some b ≠ (Value.slice sa n c).ownBlock := fun e => by
    have h1 := (h.row.block e.symm).1
    have h2 := h.lt
    omega
  have e1 : w2.heap[b]? = w.heap[b]? := (hg.block b (Nat.lt_of_lt_of_le h.inH hb.size) hne).trans (hb.block b h.inH)
  have hs : w.heap.size ≤ w2.heap.size := Nat.le_trans hb.size hg.size
  refine ⟨⟨h.lt, by simp; exact Nat.lt_of_lt_of_le h.inH hs, ?_, ?_, ?_⟩, ⟨hg.os.trans hb.os, hg.tape.trans hb.tape, hg.output.trans hb.output, by simpa using hs, fun k hk hkb hc => ?_⟩⟩
  · exact World.cell?_setCell_same _ _ _ ((World.cell?_of_block (a := ⟨b, 0, none⟩) e1).trans h.cell)
  · have := (World.frozen?_of_block (a := ⟨b, 0, none⟩) e1).trans h.frz
    simpa using this
  · unfold FAt
    rw [List.length_append, fcells_app, ← hn]
    refine row_step ho fun k hk _ => heap_set_other _ _ _ _ _ (fun e => ?_)
    have h1 := (ho.lt k hk).1
    have h2 := h.lt
    omega
  · rw [heap_set_other _ _ _ _ _ hkb, hg.block k (Nat.lt_of_lt_of_le hk hb.size) (fun e => ?_), hb.block k hk]
    obtain ⟨h1, cs, h2⟩ := h.row.block e.symm
    rcases hc with hc | hc
    · omega
    · exact hc cs _ h2
theorem pAdd_any {B b : Nat} {w : World} {L : List Fct} {sv : Value} (h : FFile 32 B w b L sv) (hB : B ≤ w.heap.size) (p : Nat → Addr) (Lw : Laid w p) (x : Fct) (hs : x.nm.size ≤ 100000) :
    Calls Tryd.prog 20 #[.pointer (some ⟨b, 0, none⟩), .agg #[.int .i64 x.who, .string x.nm, .int .i64 x.oth, .int .i64 x.val, .int .i64 x.frm, .int .i64 x.til, .int .i64 x.lrn]] w fun e w' =>
      (addC L.length x = 0 ∧ e = .returned .nilIface ∧ (∃ sv', FFile 32 B w' b (L ++ [x]) sv') ∧ FStep 32 B b w w') ∨ (∃ k, addC L.length x = k + 1 ∧ k < 11 ∧ e = .returned (.iface 127 (.pointer (some (p k)))) ∧ Below w.heap.size w w') := by
  obtain ⟨a, c, rfl, _⟩ := h.row.slice
  obtain ⟨xw, xn, xo, xv, xf, xt, xl⟩ := x
  simp only at hs ⊢
  by_cases hn : 500 ≤ L.length
  · have hc : addC L.length ⟨xw, xn, xo, xv, xf, xt, xl⟩ = 2 := by unfold addC badKind badDay; simp [*]
    refine (pAdd_0 xw xo xv xf xt xl xn hs p Lw h.cell h.inH hn).mono ?_
    rintro e w' ⟨rfl, hb⟩
    exact .inr ⟨1, hc, by omega, rfl, hb⟩
  · cases hm : isWordB xn
    · have hc : addC L.length ⟨xw, xn, xo, xv, xf, xt, xl⟩ = 7 := by unfold addC badKind badDay; simp [*]
      refine (pAdd_1 xw xo xv xf xt xl xn hs p Lw h.cell h.inH hn hm).mono ?_
      rintro e w' ⟨rfl, hb⟩
      exact .inr ⟨6, hc, by omega, rfl, hb⟩
    · cases hk : perB xw
      · have hc : addC L.length ⟨xw, xn, xo, xv, xf, xt, xl⟩ = 9 := by unfold addC badKind badDay; simp [*]
        refine (pAdd_2 xw xo xv xf xt xl xn hs p Lw h.cell h.inH hn hm hk).mono ?_
        rintro e w' ⟨rfl, hb⟩
        exact .inr ⟨8, hc, by omega, rfl, hb⟩
      · by_cases ho : xo = -1
        · have hw : ¬ (-1 : Int) = xw := per_ne hk
          cases hv : valB xv
          · have hc : addC L.length ⟨xw, xn, xo, xv, xf, xt, xl⟩ = 3 := by unfold addC badKind badDay; simp [*]
            subst ho
            refine (pAdd_5 xw xv xf xt xl xn hs p Lw h.cell h.inH hn hm hk hw hv).mono ?_
            rintro e w' ⟨rfl, hb⟩
            exact .inr ⟨2, hc, by omega, rfl, hb⟩
          · cases hf : dyB xf
            · have hc : addC L.length ⟨xw, xn, xo, xv, xf, xt, xl⟩ = 4 := by unfold addC badKind badDay; simp [*]
              subst ho
              refine (pAdd_6 xw xv xf xt xl xn hs p Lw h.cell h.inH hn hm hk hw hv hf).mono ?_
              rintro e w' ⟨rfl, hb⟩
              exact .inr ⟨3, hc, by omega, rfl, hb⟩
            · cases hl : dyB xl
              · have hc : addC L.length ⟨xw, xn, xo, xv, xf, xt, xl⟩ = 4 := by unfold addC badKind badDay; simp [*]
                subst ho
                refine (pAdd_7 xw xv xf xt xl xn hs p Lw h.cell h.inH hn hm hk hw hv hf hl).mono ?_
                rintro e w' ⟨rfl, hb⟩
                exact .inr ⟨3, hc, by omega, rfl, hb⟩
              · by_cases ht : xt = 0
                · have hc : addC L.length ⟨xw, xn, xo, xv, xf, xt, xl⟩ = 0 := by unfold addC badKind badDay; simp [*]
                  subst ho
                  subst ht
                  refine (pAdd_10 xw xv xf xl xn hs L rfl h hB hn hm hk hw hv hf hl).mono ?_
                  rintro e w' ⟨rfl, v', w1, w2, rfl, ho, hb, hg⟩
                  obtain ⟨h1, h2⟩ := add_done (x := ⟨xw, xn, -1, xv, xf, 0, xl⟩) h rfl ho hb hg
                  exact .inl ⟨hc, rfl, ⟨_, h1⟩, h2⟩
                · cases hx : dyB xt
                  · have hc : addC L.length ⟨xw, xn, xo, xv, xf, xt, xl⟩ = 4 := by unfold addC badKind badDay; simp [*]
                    subst ho
                    refine (pAdd_8 xw xv xf xt xl xn hs p Lw h.cell h.inH hn hm hk hw hv hf hl ht hx).mono ?_
                    rintro e w' ⟨rfl, hb⟩
                    exact .inr ⟨3, hc, by omega, rfl, hb⟩
                  · by_cases hy : xt ≤ xf
                    · have hc : addC L.length ⟨xw, xn, xo, xv, xf, xt, xl⟩ = 4 := by unfold addC badKind badDay; simp [*]
                      subst ho
                      refine (pAdd_9 xw xv xf xt xl xn hs p Lw h.cell h.inH hn hm hk hw hv hf hl ht hx hy).mono ?_
                      rintro e w' ⟨rfl, hb⟩
                      exact .inr ⟨3, hc, by omega, rfl, hb⟩
                    · have hc : addC L.length ⟨xw, xn, xo, xv, xf, xt, xl⟩ = 0 := by unfold addC badKind badDay; simp [*]
                      subst ho
                      refine (pAdd_11 xw xv xf xt xl xn hs L rfl h hB hn hm hk hw hv hf hl ht hx hy).mono ?_
                      rintro e w' ⟨rfl, v', w1, w2, rfl, ho, hb, hg⟩
                      obtain ⟨h1, h2⟩ := add_done (x := ⟨xw, xn, -1, xv, xf, xt, xl⟩) h rfl ho hb hg
                      exact .inl ⟨hc, rfl, ⟨_, h1⟩, h2⟩
        · cases hq : perB xo
          · have hc : addC L.length ⟨xw, xn, xo, xv, xf, xt, xl⟩ = 9 := by unfold addC badKind badDay; simp [*]
            refine (pAdd_3 xw xo xv xf xt xl xn hs p Lw h.cell h.inH hn hm hk ho hq).mono ?_
            rintro e w' ⟨rfl, hb⟩
            exact .inr ⟨8, hc, by omega, rfl, hb⟩
          · by_cases hw : xo = xw
            · have hc : addC L.length ⟨xw, xn, xo, xv, xf, xt, xl⟩ = 9 := by unfold addC badKind badDay; simp [*]
              subst xo
              refine (pAdd_4 xw xv xf xt xl xn hs p Lw h.cell h.inH hn hm hk ho).mono ?_
              rintro e w' ⟨rfl, hb⟩
              exact .inr ⟨8, hc, by omega, rfl, hb⟩
            · cases hv : valB xv
              · have hc : addC L.length ⟨xw, xn, xo, xv, xf, xt, xl⟩ = 3 := by unfold addC badKind badDay; simp [*]
                refine (pAdd_12 xw xo xv xf xt xl xn hs p Lw h.cell h.inH hn hm hk ho hq hw hv).mono ?_
                rintro e w' ⟨rfl, hb⟩
                exact .inr ⟨2, hc, by omega, rfl, hb⟩
              · cases hf : dyB xf
                · have hc : addC L.length ⟨xw, xn, xo, xv, xf, xt, xl⟩ = 4 := by unfold addC badKind badDay; simp [*]
                  refine (pAdd_13 xw xo xv xf xt xl xn hs p Lw h.cell h.inH hn hm hk ho hq hw hv hf).mono ?_
                  rintro e w' ⟨rfl, hb⟩
                  exact .inr ⟨3, hc, by omega, rfl, hb⟩
                · cases hl : dyB xl
                  · have hc : addC L.length ⟨xw, xn, xo, xv, xf, xt, xl⟩ = 4 := by unfold addC badKind badDay; simp [*]
                    refine (pAdd_14 xw xo xv xf xt xl xn hs p Lw h.cell h.inH hn hm hk ho hq hw hv hf hl).mono ?_
                    rintro e w' ⟨rfl, hb⟩
                    exact .inr ⟨3, hc, by omega, rfl, hb⟩
                  · by_cases ht : xt = 0
                    · have hc : addC L.length ⟨xw, xn, xo, xv, xf, xt, xl⟩ = 0 := by unfold addC badKind badDay; simp [*]
                      subst ht
                      refine (pAdd_17 xw xo xv xf xl xn hs L rfl h hB hn hm hk ho hq hw hv hf hl).mono ?_
                      rintro e w' ⟨rfl, v', w1, w2, rfl, ho, hb, hg⟩
                      obtain ⟨h1, h2⟩ := add_done (x := ⟨xw, xn, xo, xv, xf, 0, xl⟩) h rfl ho hb hg
                      exact .inl ⟨hc, rfl, ⟨_, h1⟩, h2⟩
                    · cases hx : dyB xt
                      · have hc : addC L.length ⟨xw, xn, xo, xv, xf, xt, xl⟩ = 4 := by unfold addC badKind badDay; simp [*]
                        refine (pAdd_15 xw xo xv xf xt xl xn hs p Lw h.cell h.inH hn hm hk ho hq hw hv hf hl ht hx).mono ?_
                        rintro e w' ⟨rfl, hb⟩
                        exact .inr ⟨3, hc, by omega, rfl, hb⟩
                      · by_cases hy : xt ≤ xf
                        · have hc : addC L.length ⟨xw, xn, xo, xv, xf, xt, xl⟩ = 4 := by unfold addC badKind badDay; simp [*]
                          refine (pAdd_16 xw xo xv xf xt xl xn hs p Lw h.cell h.inH hn hm hk ho hq hw hv hf hl ht hx hy).mono ?_
                          rintro e w' ⟨rfl, hb⟩
                          exact .inr ⟨3, hc, by omega, rfl, hb⟩
                        · have hc : addC L.length ⟨xw, xn, xo, xv, xf, xt, xl⟩ = 0 := by unfold addC badKind badDay; simp [*]
                          refine (pAdd_18 xw xo xv xf xt xl xn hs L rfl h hB hn hm hk ho hq hw hv hf hl ht hx hy).mono ?_
                          rintro e w' ⟨rfl, v', w1, w2, rfl, ho, hb, hg⟩
                          obtain ⟨h1, h2⟩ := add_done (x := ⟨xw, xn, xo, xv, xf, xt, xl⟩) h rfl ho hb hg
                          exact .inl ⟨hc, rfl, ⟨_, h1⟩, h2⟩
theorem rAdd_any {B b : Nat} {w : World} {L : List Fct} {sv : Value} (h : FFile 36 B w b L sv) (hB : B ≤ w.heap.size) (x : Fct) :
    Calls Tryd.prog 22 #[.pointer (some ⟨b, 0, none⟩), .agg #[.int .i64 x.who, .string x.nm, .int .i64 x.oth, .int .i64 x.val, .int .i64 x.frm, .int .i64 x.til, .int .i64 x.lrn]] w fun e w' =>
      (addC L.length x = 0 ∧ e = .returned (.int .i64 0) ∧ (∃ sv', FFile 36 B w' b (L ++ [x]) sv') ∧ FStep 36 B b w w') ∨ (addC L.length x ≠ 0 ∧ e = .returned (.int .i64 (addC L.length x)) ∧ Below w.heap.size w w') := by
  obtain ⟨a, c, rfl, _⟩ := h.row.slice
  obtain ⟨xw, xn, xo, xv, xf, xt, xl⟩ := x
  simp only
  by_cases hn : 500 ≤ L.length
  · have hc : addC L.length ⟨xw, xn, xo, xv, xf, xt, xl⟩ = 2 := by unfold addC badKind badDay; simp [*]
    refine (rAdd_0 xw xo xv xf xt xl xn h.cell h.inH hn).mono ?_
    rintro e w' ⟨rfl, hb⟩
    exact .inr ⟨by rw [hc]; decide, by rw [hc]; rfl, hb⟩
  · cases hm : isWordB xn
    · have hc : addC L.length ⟨xw, xn, xo, xv, xf, xt, xl⟩ = 7 := by unfold addC badKind badDay; simp [*]
      refine (rAdd_1 xw xo xv xf xt xl xn h.cell h.inH hn hm).mono ?_
      rintro e w' ⟨rfl, hb⟩
      exact .inr ⟨by rw [hc]; decide, by rw [hc]; rfl, hb⟩
    · cases hk : perB xw
      · have hc : addC L.length ⟨xw, xn, xo, xv, xf, xt, xl⟩ = 9 := by unfold addC badKind badDay; simp [*]
        refine (rAdd_2 xw xo xv xf xt xl xn h.cell h.inH hn hm hk).mono ?_
        rintro e w' ⟨rfl, hb⟩
        exact .inr ⟨by rw [hc]; decide, by rw [hc]; rfl, hb⟩
      · by_cases ho : xo = -1
        · have hw : ¬ (-1 : Int) = xw := per_ne hk
          cases hv : valB xv
          · have hc : addC L.length ⟨xw, xn, xo, xv, xf, xt, xl⟩ = 3 := by unfold addC badKind badDay; simp [*]
            subst ho
            refine (rAdd_5 xw xv xf xt xl xn h.cell h.inH hn hm hk hw hv).mono ?_
            rintro e w' ⟨rfl, hb⟩
            exact .inr ⟨by rw [hc]; decide, by rw [hc]; rfl, hb⟩
          · cases hf : dyB xf
            · have hc : addC L.length ⟨xw, xn, xo, xv, xf, xt, xl⟩ = 4 := by unfold addC badKind badDay; simp [*]
              subst ho
              refine (rAdd_6 xw xv xf xt xl xn h.cell h.inH hn hm hk hw hv hf).mono ?_
              rintro e w' ⟨rfl, hb⟩
              exact .inr ⟨by rw [hc]; decide, by rw [hc]; rfl, hb⟩
            · cases hl : dyB xl
              · have hc : addC L.length ⟨xw, xn, xo, xv, xf, xt, xl⟩ = 4 := by unfold addC badKind badDay; simp [*]
                subst ho
                refine (rAdd_7 xw xv xf xt xl xn h.cell h.inH hn hm hk hw hv hf hl).mono ?_
                rintro e w' ⟨rfl, hb⟩
                exact .inr ⟨by rw [hc]; decide, by rw [hc]; rfl, hb⟩
              · by_cases ht : xt = 0
                · have hc : addC L.length ⟨xw, xn, xo, xv, xf, xt, xl⟩ = 0 := by unfold addC badKind badDay; simp [*]
                  subst ho
                  subst ht
                  refine (rAdd_10 xw xv xf xl xn L rfl h hB hn hm hk hw hv hf hl).mono ?_
                  rintro e w' ⟨rfl, v', w1, w2, rfl, ho, hb, hg⟩
                  obtain ⟨h1, h2⟩ := add_done (x := ⟨xw, xn, -1, xv, xf, 0, xl⟩) h rfl ho hb hg
                  exact .inl ⟨hc, rfl, ⟨_, h1⟩, h2⟩
                · cases hx : dyB xt
                  · have hc : addC L.length ⟨xw, xn, xo, xv, xf, xt, xl⟩ = 4 := by unfold addC badKind badDay; simp [*]
                    subst ho
                    refine (rAdd_8 xw xv xf xt xl xn h.cell h.inH hn hm hk hw hv hf hl ht hx).mono ?_
                    rintro e w' ⟨rfl, hb⟩
                    exact .inr ⟨by rw [hc]; decide, by rw [hc]; rfl, hb⟩
                  · by_cases hy : xt ≤ xf
                    · have hc : addC L.length ⟨xw, xn, xo, xv, xf, xt, xl⟩ = 4 := by unfold addC badKind badDay; simp [*]
                      subst ho
                      refine (rAdd_9 xw xv xf xt xl xn h.cell h.inH hn hm hk hw hv hf hl ht hx hy).mono ?_
                      rintro e w' ⟨rfl, hb⟩
                      exact .inr ⟨by rw [hc]; decide, by rw [hc]; rfl, hb⟩
                    · have hc : addC L.length ⟨xw, xn, xo, xv, xf, xt, xl⟩ = 0 := by unfold addC badKind badDay; simp [*]
                      subst ho
                      refine (rAdd_11 xw xv xf xt xl xn L rfl h hB hn hm hk hw hv hf hl ht hx hy).mono ?_
                      rintro e w' ⟨rfl, v', w1, w2, rfl, ho, hb, hg⟩
                      obtain ⟨h1, h2⟩ := add_done (x := ⟨xw, xn, -1, xv, xf, xt, xl⟩) h rfl ho hb hg
                      exact .inl ⟨hc, rfl, ⟨_, h1⟩, h2⟩
        · cases hq : perB xo
          · have hc : addC L.length ⟨xw, xn, xo, xv, xf, xt, xl⟩ = 9 := by unfold addC badKind badDay; simp [*]
            refine (rAdd_3 xw xo xv xf xt xl xn h.cell h.inH hn hm hk ho hq).mono ?_
            rintro e w' ⟨rfl, hb⟩
            exact .inr ⟨by rw [hc]; decide, by rw [hc]; rfl, hb⟩
          · by_cases hw : xo = xw
            · have hc : addC L.length ⟨xw, xn, xo, xv, xf, xt, xl⟩ = 9 := by unfold addC badKind badDay; simp [*]
              subst xo
              refine (rAdd_4 xw xv xf xt xl xn h.cell h.inH hn hm hk ho).mono ?_
              rintro e w' ⟨rfl, hb⟩
              exact .inr ⟨by rw [hc]; decide, by rw [hc]; rfl, hb⟩
            · cases hv : valB xv
              · have hc : addC L.length ⟨xw, xn, xo, xv, xf, xt, xl⟩ = 3 := by unfold addC badKind badDay; simp [*]
                refine (rAdd_12 xw xo xv xf xt xl xn h.cell h.inH hn hm hk ho hq hw hv).mono ?_
                rintro e w' ⟨rfl, hb⟩
                exact .inr ⟨by rw [hc]; decide, by rw [hc]; rfl, hb⟩
              · cases hf : dyB xf
                · have hc : addC L.length ⟨xw, xn, xo, xv, xf, xt, xl⟩ = 4 := by unfold addC badKind badDay; simp [*]
                  refine (rAdd_13 xw xo xv xf xt xl xn h.cell h.inH hn hm hk ho hq hw hv hf).mono ?_
                  rintro e w' ⟨rfl, hb⟩
                  exact .inr ⟨by rw [hc]; decide, by rw [hc]; rfl, hb⟩
                · cases hl : dyB xl
                  · have hc : addC L.length ⟨xw, xn, xo, xv, xf, xt, xl⟩ = 4 := by unfold addC badKind badDay; simp [*]
                    refine (rAdd_14 xw xo xv xf xt xl xn h.cell h.inH hn hm hk ho hq hw hv hf hl).mono ?_
                    rintro e w' ⟨rfl, hb⟩
                    exact .inr ⟨by rw [hc]; decide, by rw [hc]; rfl, hb⟩
                  · by_cases ht : xt = 0
                    · have hc : addC L.length ⟨xw, xn, xo, xv, xf, xt, xl⟩ = 0 := by unfold addC badKind badDay; simp [*]
                      subst ht
                      refine (rAdd_17 xw xo xv xf xl xn L rfl h hB hn hm hk ho hq hw hv hf hl).mono ?_
                      rintro e w' ⟨rfl, v', w1, w2, rfl, ho, hb, hg⟩
                      obtain ⟨h1, h2⟩ := add_done (x := ⟨xw, xn, xo, xv, xf, 0, xl⟩) h rfl ho hb hg
                      exact .inl ⟨hc, rfl, ⟨_, h1⟩, h2⟩
                    · cases hx : dyB xt
                      · have hc : addC L.length ⟨xw, xn, xo, xv, xf, xt, xl⟩ = 4 := by unfold addC badKind badDay; simp [*]
                        refine (rAdd_15 xw xo xv xf xt xl xn h.cell h.inH hn hm hk ho hq hw hv hf hl ht hx).mono ?_
                        rintro e w' ⟨rfl, hb⟩
                        exact .inr ⟨by rw [hc]; decide, by rw [hc]; rfl, hb⟩
                      · by_cases hy : xt ≤ xf
                        · have hc : addC L.length ⟨xw, xn, xo, xv, xf, xt, xl⟩ = 4 := by unfold addC badKind badDay; simp [*]
                          refine (rAdd_16 xw xo xv xf xt xl xn h.cell h.inH hn hm hk ho hq hw hv hf hl ht hx hy).mono ?_
                          rintro e w' ⟨rfl, hb⟩
                          exact .inr ⟨by rw [hc]; decide, by rw [hc]; rfl, hb⟩
                        · have hc : addC L.length ⟨xw, xn, xo, xv, xf, xt, xl⟩ = 0 := by unfold addC badKind badDay; simp [*]
                          refine (rAdd_18 xw xo xv xf xt xl xn L rfl h hB hn hm hk ho hq hw hv hf hl ht hx hy).mono ?_
                          rintro e w' ⟨rfl, v', w1, w2, rfl, ho, hb, hg⟩
                          obtain ⟨h1, h2⟩ := add_done (x := ⟨xw, xn, xo, xv, xf, xt, xl⟩) h rfl ho hb hg
                          exact .inl ⟨hc, rfl, ⟨_, h1⟩, h2⟩
end Go.Proofs.YtagdenpmonedlaaDoor
