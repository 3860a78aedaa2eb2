/-
  Package script: the reader's take.
-/
import Derived.Test.YtgfaeeacndpniaaDoorPlains2
import Derived.Test.YtgfaeeacndpniaaDoorLawP
import Derived.Test.YtgfaeeacndpniaaDoorLineP
import Derived.Test.YtgfaeeacndpniaaDoorProvP
namespace Go.Proofs.YtgfaeeacndpniaaDoor
open Go.RowKit Go.Extern.Stop Go.Stop Go.Extern

theorem StepOut.val {B br : Nat} {p : Nat → Addr} {e : Ending} {w' : World} : ∀ {S : Step}, StepOut B br p e w' S → ∃ v, e = .returned v ∧ (v = .nilIface ∨ ∃ a, v = .iface 129 (.pointer (some a)))
  | .bad _, ⟨_, _, _, h⟩ => ⟨_, h, .inr ⟨_, rfl⟩⟩
  | .good _ _, ⟨h, _⟩ => ⟨_, h, .inl rfl⟩
set_option maxHeartbeats 8000000 in
set_option maxRecDepth 10000 in
theorem take_any (B br n : Nat) (z : List It) (row : ByteArray) (p : Nat → Addr) (m : Int) (W0 w : World) (hR : Rd B br w z n) (hE0 : Env W0 p m) (hB0 : W0.heap.size ≤ B ∧ W0.heap.size ≤ br) (hW : Below W0.heap.size W0 w) (hBw : B ≤ w.heap.size) (hr : row.size ≤ 30000) (hO : OkZ z n) :
    Calls Tryd.prog 27 #[.pointer (some ⟨br, 0, none⟩), .string row] w fun e w' => StepOut B br p e w' (takeS z n row) ∧ BelX B br w w' := by
  have HPl := hidLL (fun w => isPlain_any row w)
  have HE := hidLL (fun w' (h : Below W0.heap.size W0 w') => hE0.on (w' := w') h)
  have HB0 := hidLL hB0
  have HR := hidLL hR
  have HW := hidLL hW
  cases hp : plainB row
  · rw [hp] at HPl
    rw [takeS_1 hp]
    clear hp hR hW hE0
    go_enter Tryd.func27, Tryd.ntmps27
    go_wp2_with fail
    refine (HPl.out _).mono ?_
    rintro e w1 ⟨rfl, hb1⟩
    have HB1 := hidLL (Below.x hb1 br hBw)
    have c0 : w1.cell? ⟨1, 0, none⟩ = some (.iface 129 (.pointer (some (p 0)))) := (HE.out _ (HW.out.trans (HB1.out.down HB0.out.1 HB0.out.2))).L.cell 0 (by omega)
    clear hb1
    go_wp2
    go_ret
    exact ⟨⟨0, rfl, by omega, rfl⟩, HB1.out⟩
  rw [hp] at HPl
  by_cases hz : z.length = 0
  · obtain rfl : z = [] := List.eq_nil_of_length_eq_zero hz
    rw [takeS_2 hp]
    have HLaw := hidLL (fun w hR hE hB => law_any B br n row p m w hR hE hr hB)
    clear hp hR hW hE0 hz
    generalize lawAt n (lawS row) = S at *
    go_enter Tryd.func27, Tryd.ntmps27
    go_wp2_with fail
    refine (HPl.out _).mono ?_
    rintro e w1 ⟨rfl, hb1⟩
    have HB1 := hidLL (Below.x hb1 br hBw)
    obtain ⟨own, vo, V, K, hRS⟩ := HR.out
    have HRS1 := hidLL (hRS.below hb1)
    have hB1 : B ≤ w1.heap.size := by have := hb1.size; omega
    obtain ⟨sa, sc, hvo⟩ := row_any HRS1.out.row
    have cb := HRS1.out.c0
    rw [hvo] at cb
    have cb : w1.cell? ⟨br, 0, none⟩ = some (.slice sa 0 sc) := cb
    clear hb1 hRS hvo
    go_wp2_with fail
    refine (HLaw.out _ ⟨own, vo, V, K, HRS1.out⟩ (HE.out _ (HW.out.trans (HB1.out.down HB0.out.1 HB0.out.2))) hB1).mono ?_
    rintro e w2 ⟨hS, hb2⟩
    have HS := hidLL hS
    have HB2 := hidLL (HB1.out.trans hb2)
    obtain ⟨v, rfl, hv⟩ := hS.val
    clear hS hb2
    rcases hv with rfl | ⟨a, rfl⟩
    all_goals
      go_wp2
      go_ret
      exact ⟨HS.out, HB2.out⟩
  obtain ⟨bk, hbk⟩ : ∃ bk, bk = runP blN row := ⟨_, rfl⟩
  obtain ⟨d, hd⟩ : ∃ d, d = bk / 2 := ⟨_, rfl⟩
  obtain ⟨body, hbody⟩ : ∃ body, body = row.extract bk row.size := ⟨_, rfl⟩
  have hbl : bk ≤ row.size := by rw [hbk]; exact runP_le _ _
  have hbs : body.size = row.size - bk := by rw [hbody, ByteArray.size_extract]; omega
  have HTr := hidLL (fun w => Go.Proofs.Tryd.strings_TrimLeft_one row 32 (by decide) w)
  rw [trimLeft_ext, ← hbk, ← hbody] at HTr
  have hsub : (row.size : Int) - (body.size : Int) = (bk : Int) := by omega
  have hdv : (bk : Int) / 2 = (d : Int) := by omega
  have hs3 := fun (h : bk % 2 ≠ 0 ∨ z.length ≤ d) => takeS_3 (n := n) (row := row) hp hz (by rw [← hbk, ← hd]; exact h)
  have hs4 := fun (h : ¬ (bk % 2 ≠ 0 ∨ z.length ≤ d)) (h3 : startsAt body 124 = true) => takeS_4 (n := n) (row := row) hp hz (by rw [← hbk, ← hd]; exact h) (by rw [← hbk, ← hbody]; exact h3)
  have hs5 := fun (h : ¬ (bk % 2 ≠ 0 ∨ z.length ≤ d)) (h3 : startsAt body 124 = false) => takeS_5 (n := n) (row := row) hp hz (by rw [← hbk, ← hd]; exact h) (by rw [← hbk, ← hbody]; exact h3)
  rw [← hbk, ← hd, ← hbody] at hs4 hs5
  have HS3 := hidLL hs3
  have HS4 := hidLL hs4
  have HS5 := hidLL hs5
  clear hs3 hs4 hs5 hp hbk hd hbody
  obtain ⟨j, hj⟩ : ∃ j, z.length = j + 1 := ⟨z.length - 1, by omega⟩
  have hz7 := hO.deep
  have hin := fun w a cap h => innermost_any br a j cap w (by omega) h
  have HIN := hidLL hin
  have HO := hidLL hO
  have hE1 := hE0
  have HLi := hidLL (fun w rest (hrest : rest.size ≤ 30000) hR hE hB hd => line_any B br n d z rest p m w hR hE hrest hB hd (by omega) hO.lines)
  have HPr := hidLL (fun w hR hW hBw hd => provision_any B br n d z body p m W0 w hR hE1 hB0 hW hBw (by omega) hd (by omega) (by have := hO.few; omega) (fun t ht => by have := hO.kid ht; omega) (by have := (hO.shut hd).2.1; omega))
  have HCP := hidLL (fun w => Go.Proofs.Tryd.strings_CutPrefix body ⟨#[124]⟩ w)
  have hbsz : body.size ≤ 30000 := by omega
  generalize takeS z n row = S at *
  clear hR hW hE0 hE1 hin hO hbs
  have HJ := hidLL hj
  have hj0 : ((j : Int) + 1 == 0) = false := by simp; omega
  clear hj hz
  by_cases hodd : bk % 2 ≠ 0
  · rw [HS3.out (.inl hodd)]
    have hodz : ((bk : Int) % 2 != 0) = true := by simp; omega
    clear hodd
    go_enter Tryd.func27, Tryd.ntmps27
    go_wp2_with fail
    refine (HPl.out _).mono ?_
    rintro e w1 ⟨rfl, hb1⟩
    have HB1 := hidLL (Below.x hb1 br hBw)
    obtain ⟨own, vo, V, K, hRS⟩ := HR.out
    have HRS1 := hidLL (hRS.below hb1)
    obtain ⟨sa, sc, hvo⟩ := row_any HRS1.out.row
    have cb := HRS1.out.c0
    rw [hvo, HJ.out] at cb
    have hB1 : B ≤ w1.heap.size := by have := hb1.size; omega
    have c0 : w1.cell? ⟨1, 0, none⟩ = some (.iface 129 (.pointer (some (p 0)))) := (HE.out _ (HW.out.trans (HB1.out.down HB0.out.1 HB0.out.2))).L.cell 0 (by omega)
    clear hb1 hRS hvo
    go_wp2_with fail
    refine (HTr.out _).mono ?_
    rintro e w2 ⟨rfl, ew⟩
    subst w2
    go_wp2
    go_ret
    exact ⟨⟨0, rfl, by omega, rfl⟩, HB1.out⟩
  have hevz : ((bk : Int) % 2 != 0) = false := by simp; omega
  by_cases hfar : z.length ≤ d
  · rw [HS3.out (.inr hfar)]
    have hfz : (j : Int) < (d : Int) := by have := HJ.out; omega
    clear hodd hfar
    go_enter Tryd.func27, Tryd.ntmps27
    go_wp2_with fail
    refine (HPl.out _).mono ?_
    rintro e w1 ⟨rfl, hb1⟩
    have HB1 := hidLL (Below.x hb1 br hBw)
    obtain ⟨own, vo, V, K, hRS⟩ := HR.out
    have HRS1 := hidLL (hRS.below hb1)
    obtain ⟨sa, sc, hvo⟩ := row_any HRS1.out.row
    have cb := HRS1.out.c0
    rw [hvo, HJ.out] at cb
    have hB1 : B ≤ w1.heap.size := by have := hb1.size; omega
    have c0 : w1.cell? ⟨1, 0, none⟩ = some (.iface 129 (.pointer (some (p 0)))) := (HE.out _ (HW.out.trans (HB1.out.down HB0.out.1 HB0.out.2))).L.cell 0 (by omega)
    clear hb1 hRS hvo
    go_wp2_with fail
    refine (HTr.out _).mono ?_
    rintro e w2 ⟨rfl, ew⟩
    subst w2
    go_wp2_with fail
    refine (HIN.out _ _ _ cb).mono ?_
    rintro e w2 ⟨rfl, ew⟩
    subst w2
    go_wp2
    go_ret
    exact ⟨⟨0, rfl, by omega, rfl⟩, HB1.out⟩
  have hfz : (d : Int) ≤ (j : Int) := by have := HJ.out; omega
  have HN : Hid (¬ (bk % 2 ≠ 0 ∨ z.length ≤ d)) := by show ¬ _; omega
  have hdz : d < z.length := by omega
  clear hodd hfar
  have e2 : Lib.hasPrefix body.data.toList (⟨#[124]⟩ : ByteArray).data.toList = startsAt body 124 := starts_pre body 124
  rw [e2] at HCP
  cases hst : startsAt body 124
  · rw [HS5.out HN.out hst]
    rw [hst] at HCP
    rw [hst] at e2
    have e3 : (⟨(Lib.trimPrefix body.data.toList (⟨#[124]⟩ : ByteArray).data.toList).toArray⟩ : ByteArray) = body := cutP_no body [124] e2
    rw [e3] at HCP
    clear e2 e3 hst HLi HS3 HS4 HS5
    generalize provS z n d body = S2 at *
    go_enter Tryd.func27, Tryd.ntmps27
    go_wp2_with fail
    refine (HPl.out _).mono ?_
    rintro e w1 ⟨rfl, hb1⟩
    have HB1 := hidLL (Below.x hb1 br hBw)
    obtain ⟨own, vo, V, K, hRS⟩ := HR.out
    have HRS1 := hidLL (hRS.below hb1)
    obtain ⟨sa, sc, hvo⟩ := row_any HRS1.out.row
    have cb := HRS1.out.c0
    rw [hvo, HJ.out] at cb
    have hB1 : B ≤ w1.heap.size := by have := hb1.size; omega
    have c0 : w1.cell? ⟨1, 0, none⟩ = some (.iface 129 (.pointer (some (p 0)))) := (HE.out _ (HW.out.trans (HB1.out.down HB0.out.1 HB0.out.2))).L.cell 0 (by omega)
    clear hb1 hRS hvo
    go_wp2_with fail
    refine (HTr.out _).mono ?_
    rintro e w2 ⟨rfl, ew⟩
    subst w2
    go_wp2_with fail
    refine (HIN.out _ _ _ cb).mono ?_
    rintro e w2 ⟨rfl, ew⟩
    subst w2
    go_wp2_with fail
    refine (HCP.out _).mono ?_
    rintro e w2 ⟨rfl, ew⟩
    subst w2
    go_wp2_with fail
    refine (HPr.out _ ⟨own, vo, V, K, HRS1.out⟩ (HW.out.trans (HB1.out.down HB0.out.1 HB0.out.2)) hB1 hdz).mono ?_
    rintro e w3 ⟨hS, hb3⟩
    have HS := hidLL hS
    have HB3 := hidLL (HB1.out.trans hb3)
    obtain ⟨v, rfl, hv⟩ := hS.val
    clear hS hb3
    rcases hv with rfl | ⟨a, rfl⟩
    all_goals
      go_wp2
      go_ret
      exact ⟨HS.out, HB3.out⟩
  · rw [HS4.out HN.out hst]
    rw [hst] at HCP
    rw [hst] at e2
    have e3 : (⟨(Lib.trimPrefix body.data.toList (⟨#[124]⟩ : ByteArray).data.toList).toArray⟩ : ByteArray) = body.extract 1 body.size := cutP_yes body [124] e2
    rw [e3] at HCP
    have hrs : (body.extract 1 body.size).size ≤ 30000 := by rw [ByteArray.size_extract]; omega
    clear e2 e3 hst HPr HS3 HS4 HS5
    generalize body.extract 1 body.size = rest at *
    obtain ⟨S2, hS2⟩ : ∃ S2, S2 = lineS z n d rest := ⟨_, rfl⟩
    rw [← hS2]
    have HS2 := hidLL hS2
    clear hS2
    go_enter Tryd.func27, Tryd.ntmps27
    go_wp2_with fail
    refine (HPl.out _).mono ?_
    rintro e w1 ⟨rfl, hb1⟩
    have HB1 := hidLL (Below.x hb1 br hBw)
    obtain ⟨own, vo, V, K, hRS⟩ := HR.out
    have HRS1 := hidLL (hRS.below hb1)
    obtain ⟨sa, sc, hvo⟩ := row_any HRS1.out.row
    have cb := HRS1.out.c0
    rw [hvo, HJ.out] at cb
    have hB1 : B ≤ w1.heap.size := by have := hb1.size; omega
    have c0 : w1.cell? ⟨1, 0, none⟩ = some (.iface 129 (.pointer (some (p 0)))) := (HE.out _ (HW.out.trans (HB1.out.down HB0.out.1 HB0.out.2))).L.cell 0 (by omega)
    clear hb1 hRS hvo
    go_wp2_with fail
    refine (HTr.out _).mono ?_
    rintro e w2 ⟨rfl, ew⟩
    subst w2
    go_wp2_with fail
    refine (HIN.out _ _ _ cb).mono ?_
    rintro e w2 ⟨rfl, ew⟩
    subst w2
    go_wp2_with fail
    refine (HCP.out _).mono ?_
    rintro e w2 ⟨rfl, ew⟩
    subst w2
    go_wp2_with fail
    refine (HLi.out _ _ hrs ⟨own, vo, V, K, HRS1.out⟩ (HE.out _ (HW.out.trans (HB1.out.down HB0.out.1 HB0.out.2))) hB1 hdz).mono ?_
    rintro e w3 ⟨hS, hb3⟩
    have HS := hidLL hS
    have HB3 := hidLL (HB1.out.trans hb3)
    obtain ⟨v, rfl, hv⟩ := hS.val
    clear hS hb3
    rcases hv with rfl | ⟨a, rfl⟩
    all_goals
      go_wp2
      go_ret
      exact ⟨by rw [HS2.out]; exact HS.out, HB3.out⟩
end Go.Proofs.YtgfaeeacndpniaaDoor
