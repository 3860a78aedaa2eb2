/-
  What the law's first text says: plain.
-/
import Derived.Test.YtgfaeeacndpniaaDoorPlains2
import Derived.Test.YtgfaeeacndpniaaDoorPlainB
import Derived.Test.YtgfaeeacndpniaaDoorLineP
namespace Go.Proofs.YtgfaeeacndpniaaDoor
open Go.RowKit Go.Extern.Stop Go.Stop Go.Extern

theorem allP_of {p : Nat → Bool} {s : ByteArray} (h : (bl s).all (fun c => p c.toNat) = true) : AllP p s 0 s.size := fun i hi _ _ => List.all_eq_true.1 h s[i] (List.mem_of_getElem? (bl_get s i hi))
theorem plain_of {s : ByteArray} (h : (bl s).all (fun c => okN c.toNat) = true) : plainB s = true := plainB_true (allP_of h)
theorem line_of {s : ByteArray} (h0 : s.size ≤ 300) (h1 : (bl s).all (fun c => okN c.toNat) = true) (h2 : (bl s).head? ≠ some 32) (h3 : (bl s).reverse.head? ≠ some 32) : lineB s = true := by
  unfold lineB
  rw [plain_of h1, (edgeB_iff s).2 ⟨fun b e => by rintro rfl; exact h2 e, fun b e => by rintro rfl; exact h3 e⟩]
  simp [h0]
theorem ext_of {s : ByteArray} {a b : Nat} {t : ByteArray} (h : ((bl s).take b).drop a = bl t) : s.extract a b = t := bl_inj (by rw [bl_extract]; exact h)
theorem rt_lit {c : UInt8} (h : okN c.toNat = true) (h2 : c ≠ 32) : rt ⟨#[32, c]⟩ = (0, ⟨#[c]⟩) := by
  have s1 : (⟨#[c]⟩ : ByteArray).size = 1 := rfl
  have s2 : (⟨#[32, c]⟩ : ByteArray).size = 2 := rfl
  have s3 : startsAt ⟨#[32, c]⟩ 32 = true := rfl
  have e : tx ⟨#[32, c]⟩ = ⟨#[c]⟩ := by
    unfold tx
    rw [if_pos s3]
    exact ext_of rfl
  have hl : lineB ⟨#[c]⟩ = true := by
    refine line_of (by rw [s1]; decide) ?_ ?_ ?_
    · show (okN c.toNat && true) = true
      rw [h]; rfl
    · intro e2
      have : some c = some 32 := e2
      injection this with this
      exact h2 this
    · intro e2
      have : some c = some 32 := e2
      injection this with this
      exact h2 this
  rw [rt_good (r := ⟨#[32, c]⟩) (by rw [s2]; decide) s3 (by rw [e, s1]; decide) (by rw [e, s1]; decide) (by rw [e]; exact hl), e]
theorem live_rows : rowsB ⟨#[108, 97, 119, 32, 97, 10, 49, 32, 98, 10, 32, 32, 124, 32, 99, 10]⟩ = [⟨#[108, 97, 119, 32, 97]⟩, ⟨#[49, 32, 98]⟩, ⟨#[32, 32, 124, 32, 99]⟩] := by
  unfold rowsB
  rfl
theorem live_1 : takeS [] 0 ⟨#[108, 97, 119, 32, 97]⟩ = .good [It.mk ⟨#[]⟩ ⟨#[97]⟩ [] []] 0 := by
  rw [takeS_2 (plain_of rfl)]
  unfold lawS
  have e : (⟨#[108, 97, 119, 32, 97]⟩ : ByteArray).extract 3 (⟨#[108, 97, 119, 32, 97]⟩ : ByteArray).size = ⟨#[32, 97]⟩ := ext_of rfl
  rw [e, rt_lit (c := 97) rfl (by decide), if_pos ⟨rfl, .inr rfl⟩, if_pos rfl]
  rfl
theorem lab_1 : Lab ⟨#[49]⟩ 1 false := by
  refine ⟨by decide, by decide, by decide, by decide, fun i hi a b => ?_, .inl ⟨rfl, fun i hi a b => ?_, fun h => of_decide_eq_true rfl⟩⟩
  · have : i < 1 := hi
    omega
  · obtain rfl : i = 0 := by omega
    rfl
theorem isLab_1 : isLab ⟨#[49]⟩ = true := by unfold isLab; exact @decide_eq_true _ (Classical.propDecidable _) ⟨1, false, lab_1⟩
theorem live_2 : takeS [It.mk ⟨#[]⟩ ⟨#[97]⟩ [] []] 0 ⟨#[49, 32, 98]⟩ = .good [It.mk ⟨#[]⟩ ⟨#[97]⟩ [] [], It.mk ⟨#[49]⟩ ⟨#[98]⟩ [] []] 1 := by
  have e0 : runP blN ⟨#[49, 32, 98]⟩ = 0 := rfl
  have e1 : (⟨#[49, 32, 98]⟩ : ByteArray).extract 0 (⟨#[49, 32, 98]⟩ : ByteArray).size = ⟨#[49, 32, 98]⟩ := ext_of rfl
  have e2 : runP nbN ⟨#[49, 32, 98]⟩ = 1 := rfl
  have e3 : (⟨#[49, 32, 98]⟩ : ByteArray).extract 0 1 = ⟨#[49]⟩ := ext_of rfl
  have e4 : (⟨#[49, 32, 98]⟩ : ByteArray).extract 1 (⟨#[49, 32, 98]⟩ : ByteArray).size = ⟨#[32, 98]⟩ := ext_of rfl
  have h5 := takeS_5 (z := [It.mk ⟨#[]⟩ ⟨#[97]⟩ [] []]) (n := 0) (row := ⟨#[49, 32, 98]⟩) (plain_of rfl) (by decide) (by rw [e0]; decide) (by rw [e0, e1]; rfl)
  rw [h5, e0, e1]
  unfold provS
  rw [e2, e3, e4, isLab_1, rt_lit (c := 98) rfl (by decide), if_neg (by
    rintro (h | h)
    · cases h
    · have h : false = true := h
      cases h), if_neg (by decide), if_pos rfl]
  rfl
theorem live_3 : takeS [It.mk ⟨#[]⟩ ⟨#[97]⟩ [] [], It.mk ⟨#[49]⟩ ⟨#[98]⟩ [] []] 1 ⟨#[32, 32, 124, 32, 99]⟩ = .good [It.mk ⟨#[]⟩ ⟨#[97]⟩ [] [], It.mk ⟨#[49]⟩ ⟨#[98]⟩ [⟨#[99]⟩] []] 1 := by
  have e0 : runP blN ⟨#[32, 32, 124, 32, 99]⟩ = 2 := rfl
  have e1 : (⟨#[32, 32, 124, 32, 99]⟩ : ByteArray).extract 2 (⟨#[32, 32, 124, 32, 99]⟩ : ByteArray).size = ⟨#[124, 32, 99]⟩ := ext_of rfl
  have e2 : (⟨#[124, 32, 99]⟩ : ByteArray).extract 1 (⟨#[124, 32, 99]⟩ : ByteArray).size = ⟨#[32, 99]⟩ := ext_of rfl
  have h4 := takeS_4 (z := [It.mk ⟨#[]⟩ ⟨#[97]⟩ [] [], It.mk ⟨#[49]⟩ ⟨#[98]⟩ [] []]) (n := 1) (row := ⟨#[32, 32, 124, 32, 99]⟩) (plain_of rfl) (by decide) (by rw [e0]; decide) (by rw [e0, e1]; rfl)
  rw [h4, e0, e1, e2, lineS_at (t := It.mk ⟨#[49]⟩ ⟨#[98]⟩ [] []) rfl rfl, rt_lit (c := 99) rfl (by decide), if_neg (by decide), if_pos rfl]
  rfl
theorem live_read : readB ⟨#[108, 97, 119, 32, 97, 10, 49, 32, 98, 10, 32, 32, 124, 32, 99, 10]⟩ = .good (It.mk ⟨#[]⟩ ⟨#[97]⟩ [] [It.mk ⟨#[49]⟩ ⟨#[98]⟩ [⟨#[99]⟩] []]) := by
  unfold readB
  rw [if_neg (by decide), live_rows, goR, if_neg (by decide), live_1]
  show goR _ _ _ _ = _
  rw [goR, if_neg (by decide), live_2]
  show goR _ _ _ _ = _
  rw [goR, if_neg (by decide), live_3]
  show goR _ _ _ _ = _
  rw [goR, if_neg (by decide)]
  rfl
end Go.Proofs.YtgfaeeacndpniaaDoor
