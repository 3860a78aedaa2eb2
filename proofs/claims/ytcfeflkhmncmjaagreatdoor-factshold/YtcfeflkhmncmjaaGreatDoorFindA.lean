/-
  A look finds what is asked for.
-/
import Derived.Test.YtcfeflkhmncmjaaGreatDoorGoB
import Derived.Test.YtcfeflkhmncmjaaGreatDoorFTok
import Derived.Deep.LoopGhost
namespace Go.Proofs.YtcfeflkhmncmjaaGreatDoor
open Go.RowKit

/-- What is found. -/
def FindR (w0 : World) (p : Nat → Addr) (r : Rs) (e : Ending) (w' : World) : Prop :=
  (match r with
  | .err c => e = .returned (.tuple #[.int .i64 0, errV p c])
  | .ok v => e = .returned (.tuple #[.int .i64 v, .nilIface])) ∧ Below w0.heap.size w0 w'
theorem LK.form {w0 w1 w : World} {bl bx bm bv bvm bf : Nat} {L : List Fct} {on known : Int} {v : Value} {m : Met} {fs : List Fr} {Q : Nat → Prop} (h : LK w0 w1 w bl bx bm bv bvm bf L on known v m fs Q) : ∃ va cap, v = .slice va fs.length cap := by
  obtain ⟨vs, h1, h2, h3⟩ := h.row
  have hz := zip_len h1
  rcases h2.row.2 with ⟨ev, e⟩ | ⟨g, cap, cur, hv, _⟩
  · rw [hz] at e
    exact ⟨none, 0, by rw [ev, e]⟩
  · rw [hz] at hv
    exact ⟨_, cap, hv⟩
/-- While it is looked for. -/
def LoopI (w0 w1 : World) (bl bx bm bv bvm bf : Nat) (L : List Fct) (on known : Int) (p : Nat → Addr) (key : Ky) (r : Rs) (k : Nat) (ev : Value) (wr : World) : Prop :=
  (∃ c, r = .err c ∧ ev = errV p c ∧ Below w0.heap.size w0 wr) ∨ ∃ s v, ev = .nilIface ∧ GoM (envOf L on known) (kaW w1) 1000 key s k r ∧ StOk (NdAt w1 (SN w1 bl bm bvm)) s ∧ LK w0 w1 wr bl bx bm bv bvm bf L on known v s.met s.opn.reverse (fun _ => False)
section
variable {w0 w1 : World} {bl bx bm bv bvm bf : Nat} {L : List Fct} {on known : Int} {p : Nat → Addr} {key : Ky} {r : Rs}
theorem LoopI.at0 {a : Addr} {t : Tr} (hN : NdAt w1 (SN w1 bl bm bvm) a t) (hcn : cnt t ≤ 1000) (who : Int) (sum : Bool) {u : Value} {w' : World} (h : BegR w0 w1 bl bx bm bv bvm bf L on known p (beginP (envOf L on known) a t who sum ⟨[], fun _ => none⟩) (.returned u) w') : ∃ k, LoopI w0 w1 bl bx bm bv bvm bf L on known p (a, who, sum) (ev (envOf L on known) t who sum) k u w' := by
  obtain ⟨_, _, _, _, _, hn⟩ := hN.is
  rcases find_run (E := envOf L on known) (nds w1 (SN w1 bl bm bvm)) hN hcn who sum with ⟨c, h1, h2⟩ | ⟨s, k, h1, h2⟩
  · rw [h2] at h
    obtain ⟨he, hb⟩ := h
    injection he with he
    exact ⟨0, .inl ⟨c, h1, he, hb⟩⟩
  · rw [h1] at h
    obtain ⟨he, v', hl⟩ := h
    injection he with he
    exact ⟨k, .inr ⟨s, v', he, h2, begin_ok (fun _ _ => others_len _ _ _ _ _) hN hn.hl (s := ⟨[], fun _ => none⟩) ⟨(fun _ h => by cases h), (fun _ _ h => by cases h)⟩ h1, hl⟩⟩
theorem NdAt.few {w : World} {S : Nat → Prop} {a : Addr} {t : Tr} (h : NdAt w S a t) : t.kids.length ≤ 1000 := by
  obtain ⟨_, _, _, _, _, hn⟩ := h.is
  exact hn.hl
/-- A round: it goes on, and there is less to do. -/
theorem GoM.next {s : St} {k : Nat} (g : GoM (envOf L on known) (kaW w1) 1000 key s k r) (hs : StOk (NdAt w1 (SN w1 bl bm bvm)) s) (hne : s.opn ≠ []) : s.opn.length ≤ 1000 ∧ ∀ u w', BegR w0 w1 bl bx bm bv bvm bf L on known p (goP (envOf L on known) (kaW w1) s) (.returned u) w' → ∃ k', k' < k ∧ LoopI w0 w1 bl bx bm bv bvm bf L on known p key r k' u w' := by
  cases g with
  | fin h hv => exact absurd h hne
  | bad hn hl h =>
    refine ⟨hl, fun u w' hb => ?_⟩
    rw [h] at hb
    obtain ⟨he, hb⟩ := hb
    injection he with he
    exact ⟨0, by omega, .inl ⟨_, rfl, he, hb⟩⟩
  | step hn hl h g' =>
    refine ⟨hl, fun u w' hb => ?_⟩
    rw [h] at hb
    obtain ⟨he, v', hk⟩ := hb
    injection he with he
    exact ⟨_, Nat.lt_succ_self _, .inr ⟨_, v', he, g', go_ok (nds w1 _) (fun _ _ => others_len _ _ _ _ _) (fun _ _ h => h.few) hs h, hk⟩⟩
end
end Go.Proofs.YtcfeflkhmncmjaaGreatDoor
namespace Go.Proofs.YtcfeflkhmncmjaaGreatDoor
open Go.RowKit

theorem field_ans (z : Int) (d : Bool) (w : World) : (Instr.field 108 (.agg #[.int .i64 z, .bool d]) 0).run Tryz.prog w = .ok (.int .i64 z) w := by kernel_rfl
set_option maxHeartbeats 8000000 in
set_option maxRecDepth 20000 in
theorem find_p {w0 w1 w : World} {bl bx bm bv bvm bf : Nat} {L : List Fct} {on known : Int} {v : Value} {p : Nat → Addr} {a : Addr} {t : Tr} (who : Int) (sum : Bool) (hW : w1 = w.alloc (.cells #[.pointer (some a), .int .i64 who, .bool sum] 88)) (h : LK w0 w1 w1 bl bx bm bv bvm bf L on known v (fun _ => none) [] (fun _ => False)) (hab : SN w1 bl bm bvm w.heap.size) (hL : Laid w0 p) (hN : NdAt w1 (SN w1 bl bm bvm) a t) (hcn : cnt t ≤ 1000) (hp : perB who = true) (ho : dyB on = true) (hk : dyB known = true) :
    Calls Tryz.prog 40 #[.pointer (some ⟨bl, 0, none⟩), .agg #[.pointer (some a), .int .i64 who, .bool sum]] w (FindR w0 p (ev (envOf L on known) t who sum)) := by
  obtain ⟨ab, hbe⟩ : ∃ ab, ab = w.heap.size := ⟨_, rfl⟩
  rw [← hbe] at hab
  have hbk : w1.heap[ab]? = some (.cells #[.pointer (some a), .int .i64 who, .bool sum] 88 (0, 0)) := by rw [hW, hbe]; exact Go.Deep.blk_alloc_new w _
  have a0 : w1.cell? ⟨ab, 0, none⟩ = some (.pointer (some a)) := by rw [cell_of_row _ ab 0 _ _ _ hbk]; rfl
  have a1 : w1.cell? ⟨ab, 1, none⟩ = some (.int .i64 who) := by rw [cell_of_row _ ab 1 _ _ _ hbk]; rfl
  have a2 : w1.cell? ⟨ab, 2, none⟩ = some (.bool sum) := by rw [cell_of_row _ ab 2 _ _ _ hbk]; rfl
  have l0 := h.lb.l0
  have v1 := h.vw.v1
  have v2 := h.vw.v2
  have HP := hidLL (isPerson_f who)
  have HD := hidLL (isDay_f on)
  have HK := hidLL (isDay_f known)
  rw [hp] at HP
  rw [ho] at HD
  rw [hk] at HK
  have HB := hidLL (begin_p h hL hN who sum (by simp))
  have H0 : Hid (∀ u w', BegR w0 w1 bl bx bm bv bvm bf L on known p (beginP (envOf L on known) a t who sum ⟨[], fun _ => none⟩) (.returned u) w' → ∃ k, LoopI w0 w1 bl bx bm bv bvm bf L on known p (a, who, sum) (ev (envOf L on known) t who sum) k u w') := fun u w' hb => LoopI.at0 hN hcn who sum hb
  have hpl := hN.plain
  have hin := hN.inS
  have HPl := hidLL (And.intro hpl hin)
  have HW := hidLL (And.intro hW hbe)
  have HA := hidLL (And.intro hab hbk)
  have HL := hidLL hL
  obtain ⟨R, hR⟩ : ∃ R, R = ev (envOf L on known) t who sum := ⟨_, rfl⟩
  rw [← hR] at H0 ⊢
  clear h hL hN hcn hp ho hk hW hbe hab hbk hpl hin hR
  go_enter Tryz.func40, Tryz.ntmps40
  go_upto_region 1 with fail
  rw [← HW.out.1, ← HW.out.2]
  go_wp2_with (first | (go_at_call 36; refine (HP.out _).mono ?_; rintro e w' ⟨rfl, h9⟩; subst w') | (go_at_call 38; refine (HD.out _).mono ?_; rintro e w' ⟨rfl, h9⟩; subst w') | (go_at_call 38; refine (HK.out _).mono ?_; rintro e w' ⟨rfl, h9⟩; subst w') | (go_at_call 53; refine HB.out.mono ?_; intro e w3 hr3; obtain ⟨u3, rfl⟩ := hr3.ret; obtain ⟨k0, hk0⟩ := H0.out _ _ hr3; have HI := hidLL hk0; clear hr3 hk0))
  clear HP HD HK HB H0 HW
  go_loopg [6] k0 (fun k e wr => LoopI w0 w1 bl bx bm bv bvm bf L on known p (a, who, sum) R k e wr)
  case atStart => exact HI.out
  case round =>
    clear HI a0 a1 a2 l0 v1 v2
    rcases hrel with ⟨c, hRc, he, hb⟩ | ⟨s, v', he, hg, hs, hl⟩
    · subst he
      have HBb := hidLL (And.intro hRc hb)
      clear hRc hb
      unfold errV
      go_wp2
      go_ret2
      rw [HBb.out.1]
      exact ⟨rfl, HBb.out.2⟩
    · subst he
      obtain ⟨va, cap, hf⟩ := hl.form
      rw [List.length_reverse] at hf
      have l4 := hl.l4
      rw [hf] at l4
      by_cases hne : s.opn = []
      · have hfin : ∃ z, R = .ok z ∧ s.met (a, who, sum) = some (z, true) := by
          cases hg with
          | fin h hv => exact ⟨_, rfl, hv⟩
          | bad h => exact absurd hne h
          | step h => exact absurd hne h
        obtain ⟨z, hz, hm⟩ := hfin
        rw [hne] at l4
        have l4' : wr.cell? ⟨bl, 4, none⟩ = some (.slice va 0 cap) := l4
        have l3 := hl.l3
        have hbk : wr.heap[ab]? = some (.cells #[.pointer (some a), .int .i64 who, .bool sum] 88 (0, 0)) := (hl.fr.block ab HA.out.1.1 (fun e => e.elim HA.out.1.2.1 (fun e => e.elim HA.out.1.2.2.1 HA.out.1.2.2.2))).trans HA.out.2
        have a0 : wr.cell? ⟨ab, 0, none⟩ = some (.pointer (some a)) := by rw [cell_of_row _ ab 0 _ _ _ hbk]; rfl
        have a1 : wr.cell? ⟨ab, 1, none⟩ = some (.int .i64 who) := by rw [cell_of_row _ ab 1 _ _ _ hbk]; rfl
        have a2 : wr.cell? ⟨ab, 2, none⟩ = some (.bool sum) := by rw [cell_of_row _ ab 2 _ _ _ hbk]; rfl
        have hld : LK w0 w1 wr.drew bl bx bm bv bvm bf L on known v' s.met s.opn.reverse (fun _ => False) := hl.fresh (FrX.refl _ _).drew
        have hrun := hld.met.look Tryz.underlying101 (zeroAns wr.drew) (k := (a, who, sum)) (hld.plain HPl.out.1 HPl.out.2.2 HPl.out.2.1.2.1 HPl.out.2.1.2.2.1 HPl.out.2.1.2.2.2) false
        rw [hm, if_neg (by decide)] at hrun
        replace hrun : (Instr.lookup 101 (.map (some bm)) (.agg #[.pointer (some a), .int .i64 who, .bool sum]) false).run Tryz.prog wr.drew = .ok (.agg #[.int .i64 z, .bool true]) wr.drew := hrun
        have hfld : (Instr.field 108 (.agg #[.int .i64 z, .bool true]) 0).run Tryz.prog wr.drew = .ok (.int .i64 z) wr.drew := field_ans _ _ _
        have HF := hidLL (And.intro hz hld.vw.bel)
        clear hz hm l4 hbk hf hne hs hl hg hld
        go_wp2
        go_region
        all_goals (go_wp2; go_ret2; rw [HF.out.1]; exact ⟨rfl, HF.out.2⟩)
      · have hn0 : 0 < s.opn.length := List.length_pos_iff.2 hne
        obtain ⟨n, hn⟩ : ∃ n, n = s.opn.length := ⟨_, rfl⟩
        rw [← hn] at l4 hn0
        have hnz : (0 : Int) < n := by omega
        obtain ⟨hle, hnext⟩ := GoM.next (w0 := w0) (p := p) (bx := bx) (bv := bv) (bf := bf) hg hs hne
        have HG := hidLL (goOn_p hl HL.out hs hne hle)
        have HN := hidLL hnext
        clear hf hg hs hl hne hle hnext hn hn0
        go_wp2_with (go_at_call 54; refine HG.out.mono ?_; intro e w5 hr5; obtain ⟨u5, rfl⟩ := hr5.ret; obtain ⟨k5, hk5, hI5⟩ := HN.out _ _ hr5; have HI5 := hidLL (And.intro hk5 hI5); clear hr5 hk5 hI5)
        go_roundg k5
        all_goals first | exact HI5.out.1 | exact HI5.out.2
end Go.Proofs.YtcfeflkhmncmjaaGreatDoor
