/-
  The program's writer: a sentence in its box; words by their numbers; literals; conditions that may be there.
-/
import Derived.Test.YtehbinobohjadaaGreatDoorBk28
namespace Go.Proofs.YtehbinobohjadaaGreatDoor
open Go.RowKit Go.Sort Go.Extern.Stop Go.Stop Go.Extern

set_option maxHeartbeats 1000000 in
theorem wordOf_some {W : World} {ls : List ByteArray} {b c : Nat} (hc : ∀ (i : Nat) (s : ByteArray), ls[i]? = some s → W.cell? ⟨b, 0 + i, none⟩ = some (.string s)) {n : Int} {x : ByteArray} (hx : wordR ls n = some x) :
    Calls Tryz.prog 95 #[.slice (some ⟨b, 0, none⟩) ls.length c, .int .i64 n] W fun e w' => e = .returned (.string x) ∧ w' = W := by
  unfold wordR at hx
  split at hx
  · cases hx
  · rename_i hn
    have hlt := (List.getElem?_eq_some_iff.1 hx).1
    have hcx := hc _ _ hx
    obtain ⟨k, rfl⟩ : ∃ k : Nat, n = k := ⟨n.toNat, by omega⟩
    simp only [Int.toNat_natCast, Nat.zero_add] at hcx hlt
    have h1 : ¬ (k : Int) < 0 := by omega
    have h2 : ¬ ((ls.length : Nat) : Int) ≤ k := by omega
    have h3 : (k : Int) < ls.length := by omega
    clear hx hc
    generalize ls.length = m at *
    go_enter Tryz.func95, Tryz.ntmps95
    go_wp2
    go_ret
    exact ⟨rfl, rfl⟩
set_option maxHeartbeats 1000000 in
theorem wordOf_none {W : World} {ls : List ByteArray} {a : Option Addr} {c : Nat} {p : Addr} (ct : W.cell? ⟨1, 0, none⟩ = some (.iface 189 (.pointer (some p)))) {n : Int} (hx : wordR ls n = none) :
    Calls Tryz.prog 95 #[.slice a ls.length c, .int .i64 n] W fun e w' => ThrT e ∧ w' = W := by
  have HT := hidLL (fun W => throw_q 189 p W)
  unfold wordR at hx
  generalize hm : ls.length = m at *
  split at hx
  · rename_i hn
    clear hx hm
    go_enter Tryz.func95, Tryz.ntmps95
    go_wp2_with (go_at_call 50; refine (HT.out _).mono ?_; rintro e w' ⟨rfl, h9⟩; subst w')
    exact ⟨rfl, ⟨_, rfl⟩, rfl⟩
  · rename_i hn
    have h2 : (m : Int) ≤ n := by
      rcases Nat.lt_or_ge n.toNat ls.length with h | h
      · rw [List.getElem?_eq_getElem h] at hx; cases hx
      · omega
    clear hx hm
    go_enter Tryz.func95, Tryz.ntmps95
    go_wp2_with (go_at_call 50; refine (HT.out _).mono ?_; rintro e w' ⟨rfl, h9⟩; subst w')
    exact ⟨rfl, ⟨_, rfl⟩, rfl⟩
/-- A sentence's cells, whatever its numbers; all that it leads to in blocks of a kind. -/
structure STc (w : World) (P : Nat → Prop) (x : SentT) (ca sa : Option Addr) (cc sc : Nat) (oa : Option Addr) (oc : Nat) (cs : Array Value) : Prop where
  eq : cs = #[.string x.kind, .string x.name, .int .i64 x.strength, .bool x.positive, .string x.head, .string x.cond.kind, .string x.cond.word, .int .i64 x.cond.num, .slice ca x.cond.kids.length cc, .string x.sum.kind, .string x.sum.word, .int .i64 x.sum.num, .slice sa x.sum.kids.length sc, .int .i64 x.way, .slice oa x.over.length oc, .int .i64 x.tn, .int .i64 x.tu, .int .i64 x.tr, .string x.els]
  nc : NT w P ca cc x.cond
  ns : NT w P sa sc x.sum
  ov : RdS stE w P (.slice oa x.over.length oc) x.over
theorem STc.step {w w' : World} {P P' : Nat → Prop} {x : SentT} {ca sa : Option Addr} {cc sc : Nat} {oa : Option Addr} {oc : Nat} {cs : Array Value} (h : STc w P x ca sa cc sc oa oc cs) (hb : ∀ b, P b → w'.heap[b]? = w.heap[b]? ∧ P' b) : STc w' P' x ca sa cc sc oa oc cs := ⟨h.eq, h.nc.step hb, h.ns.step hb, h.ov.on fun k hk => ⟨(hb k hk).2, (hb k hk).1⟩⟩
/-- A sentence whose texts and numbers are such as a program has. -/
structure SOk (x : SentT) : Prop where
  kind : x.kind.size ≤ 281474976710656
  name : x.name.size ≤ 281474976710656
  head : x.head.size ≤ 281474976710656
  els : x.els.size ≤ 281474976710656
  over : ∀ y, y ∈ x.over → y.size ≤ 281474976710656
  cond : TnOk x.cond
  sum : TnOk x.sum
  n0 : -9223372036854775808 ≤ x.tn
  n1 : x.tn ≤ 9223372036854775807
/-- The sentence's box. -/
structure SX (W : World) (wp b : Nat) (x : SentT) (ca sa : Option Addr) (cc sc : Nat) (oa : Option Addr) (oc : Nat) (cs : Array Value) : Prop where
  bx : W.heap[b]? = some (.cells cs 30 (0, 0))
  st : STc W (· < wp) x ca sa cc sc oa oc cs
  ne : wp < b
theorem SX.step {W W' : World} {wp b : Nat} {x : SentT} {ca sa : Option Addr} {cc sc : Nat} {oa : Option Addr} {oc : Nat} {cs : Array Value} (h : SX W wp b x ca sa cc sc oa oc cs) (hf : WFr wp W W') : SX W' wp b x ca sa cc sc oa oc cs :=
  ⟨hf.ty b cs _ _ (by have := h.ne; omega) h.bx (by decide), h.st.step fun k hk => ⟨hf.low k hk, hk⟩, h.ne⟩
theorem SX.new {w : World} {wp : Nat} {x : SentT} {ca sa : Option Addr} {cc sc : Nat} {oa : Option Addr} {oc : Nat} {cs : Array Value} (h : STc w (· < wp) x ca sa cc sc oa oc cs) (hw : wp < w.heap.size) : SX (w.alloc (.cells cs 30)) wp w.heap.size x ca sa cc sc oa oc cs :=
  ⟨heap_alloc_new _ _, h.step fun k hk => ⟨Go.Deep.blk_alloc_lt _ _ _ (by omega), hk⟩, hw⟩
theorem SX.at {W : World} {wp b : Nat} {x : SentT} {ca sa : Option Addr} {cc sc : Nat} {oa : Option Addr} {oc : Nat} {cs : Array Value} (h : SX W wp b x ca sa cc sc oa oc cs) (i : Nat) (v : Value) (hv : cs[i]? = some v) : W.cell? ⟨b, i, none⟩ = some v := by
  simp [World.cell?, h.bx, hv]
def LitI (x : SentT) : Prop := ∀ (w : World) (wp : Nat) (s : WS) (ca sa : Option Addr) (cc sc : Nat) (oa : Option Addr) (oc : Nat) (cs : Array Value), SW w w wp s → STc w (· < wp) x ca sa cc sc oa oc cs → Calls Tryz.prog 96 #[.pointer (some ⟨wp, 0, none⟩), .agg cs] w (WEnd wp w (litR x s))
set_option maxHeartbeats 2000000 in
theorem wliteral_q {x : SentT} (hO : SOk x) : LitI x := by
  intro w wp s ca sa cc sc oa oc cs hS hT
  have hwp := hS.wr.in
  have HX0 := hidLL (SX.new hT hwp)
  have HS0 := hidLL (hS.alloc (.cells cs 30))
  obtain ⟨W0, hW0⟩ : ∃ W0, W0 = w.alloc (.cells cs 30) := ⟨_, rfl⟩
  rw [← hW0] at HX0 HS0
  have HW := hidLL hW0
  have e3 : cs[3]? = some (.bool x.positive) := by rw [hT.eq]; rfl
  have e4 : cs[4]? = some (.string x.head) := by rw [hT.eq]; rfl
  have HC : Hid (∀ V, SX V wp w.heap.size x ca sa cc sc oa oc cs → V.cell? ⟨w.heap.size, 3, none⟩ = some (.bool x.positive) ∧ V.cell? ⟨w.heap.size, 4, none⟩ = some (.string x.head)) := fun V h => ⟨h.at 3 _ e3, h.at 4 _ e4⟩
  obtain ⟨c3, c4⟩ := HC.out _ HX0.out
  have hh := hO.head
  obtain ⟨R, hR⟩ : ∃ R, R = litR x s := ⟨_, rfl⟩
  rw [← hR]
  unfold litR at hR
  have HR := hidLL hR
  clear hR hW0 hT e3 e4
  cases hp : x.positive
  · rw [hp] at HR c3
    have hR1 : R = (putR s wNot).bind fun s => putR s x.head := HR.out
    clear HR
    have HR := hidLL hR1
    clear hR1
    go_enter Tryz.func96, Tryz.ntmps96
    go_upto_region 1 with fail
    rw [← HW.out]
    go_wp2_with (first
      | (go_at_call 45; refine (put1_q HS1.out.wr hh).mono ?_; rintro e W2 ⟨hf, hr⟩; rcases hq1 : putR s1 x.head with _ | s2; (· rw [hq1] at hr; (obtain ⟨p, rfl⟩ := hr); (obtain rfl : R = none := (by rw [HR.out, hq1])); exact (show _ ∧ _ from ⟨rfl, HS1.out.fr.trans hf, ⟨_, rfl⟩⟩)); rw [hq1] at hr HR; (obtain ⟨rfl, hr⟩ := hr); have HS2 := hidLL (HS1.out.step hf hr); clear hf hr)
      | (go_at_call 45; refine (put1_q HS0.out.wr (x := wNot) (by decide)).mono ?_; rintro e W1 ⟨hf, hr⟩; rcases hq0 : putR s wNot with _ | s1; (· rw [hq0] at hr; (obtain ⟨p, rfl⟩ := hr); (obtain rfl : R = none := (by rw [HR.out, hq0]; try rfl)); exact (show _ ∧ _ from ⟨rfl, HS0.out.fr.trans hf, ⟨_, rfl⟩⟩)); rw [hq0] at hr; rw [hq0, Option.bind_some] at HR; (obtain ⟨rfl, hr⟩ := hr); (have HS1 := hidLL (HS0.out.step hf hr)); (have HX1 := hidLL (HX0.out.step hf)); (obtain ⟨c3, c4⟩ := HC.out _ HX1.out); clear hf hr))
    go_end0
    (obtain rfl : R = some s2 := HR.out)
    exact ⟨HS2.out.fr, rfl, HS2.out.wr⟩
  · rw [hp] at HR c3
    have hR1 : R = putR s x.head := HR.out
    clear HR
    have HR := hidLL hR1
    clear hR1
    go_enter Tryz.func96, Tryz.ntmps96
    go_upto_region 1 with fail
    rw [← HW.out]
    go_wp2_with (go_at_call 45; refine (put1_q HS0.out.wr hh).mono ?_; rintro e W2 ⟨hf, hr⟩; rcases hq1 : putR s x.head with _ | s2; (· rw [hq1] at hr; (obtain ⟨p, rfl⟩ := hr); (obtain rfl : R = none := (by rw [HR.out, hq1])); exact (show _ ∧ _ from ⟨rfl, HS0.out.fr.trans hf, ⟨_, rfl⟩⟩)); rw [hq1] at hr HR; (obtain ⟨rfl, hr⟩ := hr); have HS2 := hidLL (HS0.out.step hf hr); clear hf hr)
    go_end0
    (obtain rfl : R = some s2 := HR.out)
    exact ⟨HS2.out.fr, rfl, HS2.out.wr⟩
set_option maxHeartbeats 2000000 in
theorem perhapsIf_q {t : Tn} (hO : TnOk t) {w : World} {wp : Nat} {s : WS} {ka : Option Addr} {kc : Nat} (hS : SW w w wp s) (hN : NT w (· < wp) ka kc t) : Calls Tryz.prog 97 #[.pointer (some ⟨wp, 0, none⟩), .agg (ndT t ka kc)] w (WEnd wp w (ifR t s)) := by
  have hwp := hS.wr.in
  have HX0 := hidLL (BX.new hN hwp)
  have HS0 := hidLL (hS.alloc (.cells (ndT t ka kc) 25))
  obtain ⟨W0, hW0⟩ : ∃ W0, W0 = w.alloc (.cells (ndT t ka kc) 25) := ⟨_, rfl⟩
  rw [← hW0] at HX0 HS0
  have HW : Hid (W0 = w.alloc (.cells #[.string t.kind, .string t.word, .int .i64 t.num, .slice ka t.kids.length kc] 25)) := hW0
  obtain ⟨c0, c1, c2, c3⟩ := HX0.out.cells
  have HCo := hidLL (cond_q _ t rfl hO)
  by_cases hz : t.kind.size = 0
  · have he : t.kind.toList.isEmpty = true := by rw [Lib.toList_data, List.isEmpty_iff]; exact List.eq_nil_of_length_eq_zero (by rw [bl_len]; exact hz)
    have e : ifR t s = some s := by unfold ifR; rw [if_pos hz]
    rw [e]
    clear e hW0 hz hN
    unfold ndT
    go_enter Tryz.func97, Tryz.ntmps97
    go_upto_region 1 with fail
    rw [← HW.out]
    go_wp2
    go_end0
    exact ⟨HS0.out.fr, rfl, HS0.out.wr⟩
  · have he : t.kind.toList.isEmpty = false := by
      rw [Lib.toList_data]
      match hd : t.kind.data.toList with
      | [] => exact absurd (by rw [← bl_len, hd]; rfl) hz
      | _ :: _ => rfl
    obtain ⟨R, hR⟩ : ∃ R, R = ifR t s := ⟨_, rfl⟩
    rw [← hR]
    unfold ifR at hR
    rw [if_neg hz] at hR
    have HR := hidLL hR
    clear hR hW0 hz hN
    unfold ndT
    go_enter Tryz.func97, Tryz.ntmps97
    go_upto_region 1 with fail
    rw [← HW.out]
    go_wp2_with (first
      | (go_at_call 46; refine (HCo.out _ _ _ _ _ 0 0 rfl HS1.out.here HX1.out.nt (by decide)).mono ?_; rintro e W2 ⟨hf, hr⟩; rcases hq1 : condR t 0 s1 with _ | s2; (· rw [hq1] at hr; (obtain ⟨p, rfl⟩ := hr); (obtain rfl : R = none := (by rw [HR.out, hq1])); exact (show _ ∧ _ from ⟨rfl, HS1.out.fr.trans hf, ⟨_, rfl⟩⟩)); rw [hq1] at hr HR; (obtain ⟨rfl, hr⟩ := hr); have HS2 := hidLL (HS1.out.step hf hr); clear hf hr)
      | (go_at_call 45; refine (put1_q HS0.out.wr (x := wIf) (by decide)).mono ?_; rintro e W1 ⟨hf, hr⟩; rcases hq0 : putR s wIf with _ | s1; (· rw [hq0] at hr; (obtain ⟨p, rfl⟩ := hr); (obtain rfl : R = none := (by rw [HR.out, hq0]; try rfl)); exact (show _ ∧ _ from ⟨rfl, HS0.out.fr.trans hf, ⟨_, rfl⟩⟩)); rw [hq0] at hr; rw [hq0, Option.bind_some] at HR; (obtain ⟨rfl, hr⟩ := hr); (have HS1 := hidLL (HS0.out.step hf hr)); (have HX1 := hidLL (HX0.out.step hf)); (obtain ⟨c0, c1, c2, c3⟩ := HX1.out.cells); clear hf hr))
    go_end0
    (obtain rfl : R = some s2 := HR.out)
    exact ⟨HS2.out.fr, rfl, HS2.out.wr⟩
end Go.Proofs.YtehbinobohjadaaGreatDoor
