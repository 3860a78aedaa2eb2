/-
  Conditions and sums: plain, no program.
-/
import Derived.Test.YtcfeflkhmncmjaaGreatDoorSentA
import Derived.Test.YtcfeflkhmncmjaaGreatDoorRoundA
namespace Go.Proofs.YtcfeflkhmncmjaaGreatDoor

/-- A node of a condition, or of a sum. -/
inductive Tr where
  | mk (kind word : ByteArray) (n : Int) (kids : List Tr)
def Tr.kind : Tr → ByteArray | .mk a _ _ _ => a
def Tr.word : Tr → ByteArray | .mk _ b _ _ => b
def Tr.num : Tr → Int | .mk _ _ c _ => c
def Tr.kids : Tr → List Tr | .mk _ _ _ d => d
inductive Kd where
  | or | and | not | some | every | name | lt | le | eq | ne | ge | gt | number | count | total | plus | minus | times | max | min | bad
  deriving DecidableEq
def kinds : List (List UInt8 × Kd) := [([111, 114], .or), ([97, 110, 100], .and), ([110, 111, 116], .not), ([115, 111, 109, 101], .some), ([101, 118, 101, 114, 121], .every), ([110, 97, 109, 101], .name), ([60], .lt), ([60, 61], .le), ([61], .eq), ([60, 62], .ne), ([62, 61], .ge), ([62], .gt), ([110, 117, 109, 98, 101, 114], .number), ([99, 111, 117, 110, 116], .count), ([116, 111, 116, 97, 108], .total), ([43], .plus), ([45], .minus), ([42], .times), ([109, 97, 120], .max), ([109, 105, 110], .min)]
def kdOf (s : ByteArray) : Kd := ((kinds.find? fun p => p.1 == s.toList).map (·.2)).getD .bad
def Tr.kd (t : Tr) : Kd := kdOf t.kind
/-- What comes of a look: an error's number, or a value. -/
inductive Rs where
  | err (c : Nat)
  | ok (v : Int)
structure Env where
  val : Int → ByteArray → Int
  oth : Int → ByteArray → List Int
def Kd.isOrd : Kd → Bool | .lt | .le | .eq | .ne | .ge | .gt => true | _ => false
def Kd.hasW : Kd → Bool | .some | .every | .name | .count | .total => true | _ => false
def kidsC : Kd → Option Nat
  | .name => some 0
  | .not | .some | .every => some 1
  | .or | .and | .lt | .le | .eq | .ne | .ge | .gt => some 2
  | _ => none
def kidsS : Kd → Option Nat
  | .number | .name | .count => some 0
  | .times | .total => some 1
  | .plus | .minus | .max | .min => some 2
  | _ => none
def kidsN (sum : Bool) (k : Kd) : Option Nat := if sum then kidsS k else kidsC k
def nameB (x : Tr) : Bool := decide (x.kd = .name) && decide (x.kids.length = 0) && isWordB x.word
def restB (t : Tr) : Bool := match t.kd with
  | .number => decide (0 ≤ t.num) && decide (t.num ≤ 1000000000000)
  | .total => match t.kids with | x :: _ => nameB x | [] => false
  | _ => true
def rightB (sum : Bool) (t : Tr) : Bool := match kidsN sum t.kd with
  | none => false
  | some m => decide (t.kids.length = m) && (!t.kd.hasW || isWordB t.word) && restB t
def trI (b : Bool) : Int := if b then 1 else 0
def kidW (t : Tr) : ByteArray := match t.kids with | x :: _ => x.word | [] => ⟨#[]⟩
def sumI (l : List Int) : Int := l.foldl (· + ·) 0
def startV (E : Env) (t : Tr) (who : Int) (sum : Bool) : Int := match t.kd with
  | .name => if sum then E.val who t.word else trI (!decide (E.val who t.word = 0))
  | .number => t.num
  | .count => 100 * (E.oth who t.word).length
  | .total => sumI ((E.oth who (kidW t)).map fun o => E.val o t.word)
  | .and | .every => 1
  | _ => 0
def ofL (E : Env) (t : Tr) (who : Int) : List Int := match t.kd with
  | .some | .every => E.oth who t.word
  | .name | .number | .count | .total => []
  | _ => List.replicate t.kids.length who
def chk (x : Int) : Rs := if valB x then .ok x else .err 3
def ordI (k : Kd) (a b : Int) : Bool := match k with
  | .lt => decide (a < b)
  | .le => decide (a ≤ b)
  | .eq => decide (a = b)
  | .ne => !decide (a = b)
  | .ge => decide (b ≤ a)
  | _ => decide (b < a)
def two (k : Kd) (a b : Int) : Int := match k with
  | .plus => a + b
  | .minus => a - b
  | .max => Max.max a b
  | .min => Min.min a b
  | k => trI (ordI k a b)
def hearP (k : Kd) (n : Int) (heard : Nat) (val v : Int) : Rs := match k with
  | .or | .some => chk (Max.max val v)
  | .and | .every => chk (Min.min val v)
  | .not => chk (1 - v)
  | .times => if n < 0 ∨ 1000000 < n then .err 9 else chk (rnd (v * n) 4)
  | k => if heard = 0 then chk v else chk (two k val v)
def foldR (k : Kd) (n : Int) : Nat → Int → List Rs → Rs
  | _, val, [] => .ok val
  | h, val, r :: rs => match r with
    | .err c => .err c
    | .ok v => match hearP k n h val v with
      | .err c => .err c
      | .ok v' => foldR k n (h + 1) v' rs
/-- What the kids are asked, one after the other. -/
def asks (t : Tr) (sum : Bool) (fs : List (Int → Bool → Rs)) : Nat → List Int → List Rs
  | _, [] => []
  | i, o :: os => (fs.getD (min i (t.kids.length - 1)) fun _ _ => .err 0) o (sum || t.kd.isOrd) :: asks t sum fs (i + 1) os
def evN (E : Env) (t : Tr) (fs : List (Int → Bool → Rs)) (who : Int) (sum : Bool) : Rs :=
  if rightB sum t = false then .err 9
  else if valB (startV E t who sum) = false then .err 3
  else foldR t.kd t.num 0 (startV E t who sum) (asks t sum fs 0 (ofL E t who))
/-- THE WORTH of a node: of a sum its value; of a condition 1, if it holds, else 0. -/
def ev (E : Env) : Tr → Int → Bool → Rs
  | .mk k w n kids => evN E (.mk k w n kids) (kids.attach.map fun x => ev E x.1)
termination_by t => SizeOf.sizeOf t
decreasing_by
  have := List.sizeOf_lt_of_mem x.2
  simp
  omega
theorem ev_eq (E : Env) (t : Tr) : ev E t = evN E t (t.kids.map (ev E)) := by
  cases t with
  | mk k w n kids =>
    rw [ev]
    congr 1
    show (kids.attach.map fun x => ev E x.1) = kids.map (ev E)
    simp
/-- How many nodes there are. -/
def cnt : Tr → Nat
  | .mk _ _ _ kids => 1 + (kids.attach.map fun x => cnt x.1).sum
termination_by t => SizeOf.sizeOf t
decreasing_by
  have := List.sizeOf_lt_of_mem x.2
  simp
  omega
theorem cnt_eq (t : Tr) : cnt t = 1 + (t.kids.map cnt).sum := by
  cases t with
  | mk k w n kids =>
    rw [cnt]
    show 1 + (kids.attach.map fun x => cnt x.1).sum = 1 + (kids.map cnt).sum
    simp
theorem cnt_kid {t u : Tr} {i : Nat} (h : t.kids[i]? = some u) : cnt u < cnt t := by
  rw [cnt_eq t]
  have h1 : cnt u ∈ t.kids.map cnt := List.mem_map.2 ⟨u, List.mem_of_getElem? h, rfl⟩
  have h2 : ∀ (l : List Nat) (x : Nat), x ∈ l → x ≤ l.sum := by
    intro l
    induction l with
    | nil => intro x hx; cases hx
    | cons y l ih =>
      intro x hx
      rw [List.sum_cons]
      rcases List.mem_cons.1 hx with rfl | hx
      · omega
      · have := ih x hx
        omega
  have := h2 _ _ h1
  omega
theorem asks_drop (t : Tr) (sum : Bool) (fs : List (Int → Bool → Rs)) : ∀ (os : List Int) (i h : Nat) (o : Int), os[h]? = some o → (asks t sum fs i os).drop h = (fs.getD (min (i + h) (t.kids.length - 1)) fun _ _ => .err 0) o (sum || t.kd.isOrd) :: (asks t sum fs i os).drop (h + 1)
  | [], _, _, _, h => by simp at h
  | x :: os, i, 0, o, h => by
    obtain rfl : x = o := by simpa using h
    simp [asks]
  | x :: os, i, h + 1, o, e => by
    have := asks_drop t sum fs os (i + 1) h o (by simpa using e)
    simp only [asks, List.drop_succ_cons]
    rw [this, show i + 1 + h = i + (h + 1) by omega]
theorem asks_len (t : Tr) (sum : Bool) (fs : List (Int → Bool → Rs)) : ∀ (os : List Int) (i : Nat), (asks t sum fs i os).length = os.length
  | [], _ => rfl
  | x :: os, i => by simp [asks, asks_len t sum fs os (i + 1)]

/-! The way that the program goes. -/
abbrev Ky := Addr × Int × Bool
structure Fr where
  a : Addr
  t : Tr
  who : Int
  sum : Bool
  of : List Int
  heard : Nat
  val : Int
def Fr.key (q : Fr) : Ky := (q.a, q.who, q.sum)
abbrev Met := Ky → Option (Int × Bool)
open Classical in
noncomputable def Met.put (m : Met) (k : Ky) (x : Int × Bool) : Met := fun k' => if k' = k then some x else m k'
structure St where
  opn : List Fr
  met : Met
inductive Ex where
  | err (c : Nat)
  | ok (s : St)
noncomputable def beginP (E : Env) (a : Addr) (t : Tr) (who : Int) (sum : Bool) (s : St) : Ex :=
  if rightB sum t = false then .err 9
  else if valB (startV E t who sum) = false then .err 3
  else .ok ⟨⟨a, t, who, sum, ofL E t who, 0, startV E t who sum⟩ :: s.opn, s.met.put (a, who, sum) (0, false)⟩
noncomputable def goP (E : Env) (ka : Addr → Nat → Addr) (s : St) : Ex := match s.opn with
  | [] => .err 0
  | q :: rest =>
    match q.of[q.heard]? with
    | none => .ok ⟨rest, s.met.put q.key (q.val, true)⟩
    | some o =>
      match q.t.kids[min q.heard (q.t.kids.length - 1)]? with
      | none => .err 0
      | some u =>
        match s.met (ka q.a (min q.heard (q.t.kids.length - 1)), o, q.sum || q.t.kd.isOrd) with
        | none => beginP E (ka q.a (min q.heard (q.t.kids.length - 1))) u o (q.sum || q.t.kd.isOrd) s
        | some (_, false) => .err 9
        | some (v, true) => match hearP q.t.kd q.t.num q.heard q.val v with
          | .err c => .err c
          | .ok v' => .ok ⟨{ q with heard := q.heard + 1, val := v' } :: rest, s.met⟩
/-- It comes to an end, so many steps on, with this. -/
inductive GoM (E : Env) (ka : Addr → Nat → Addr) (N : Nat) (key : Ky) : St → Nat → Rs → Prop
  | fin {s : St} {v : Int} (h : s.opn = []) (hv : s.met key = some (v, true)) : GoM E ka N key s 0 (.ok v)
  | bad {s : St} {c : Nat} (hn : s.opn ≠ []) (hl : s.opn.length ≤ N) (h : goP E ka s = .err c) : GoM E ka N key s 1 (.err c)
  | step {s s' : St} {k : Nat} {r : Rs} (hn : s.opn ≠ []) (hl : s.opn.length ≤ N) (h : goP E ka s = .ok s') (g : GoM E ka N key s' k r) : GoM E ka N key s (k + 1) r
/-- Nodes at places. -/
structure Nds (R : Addr → Tr → Prop) (ka : Addr → Nat → Addr) : Prop where
  one : ∀ {a t t'}, R a t → R a t' → t = t'
  kid : ∀ {a t i u}, R a t → t.kids[i]? = some u → R (ka a i) u
section
variable {E : Env} {R : Addr → Tr → Prop} {ka : Addr → Nat → Addr}
/-- What was found is right. -/
def InvD (E : Env) (R : Addr → Tr → Prop) (m : Met) : Prop := ∀ k v, m k = some (v, true) → ∃ t, R k.1 t ∧ ev E t k.2.1 k.2.2 = .ok v
/-- What is open is no smaller. -/
def OpN (R : Addr → Tr → Prop) (m : Met) (n : Nat) : Prop := ∀ k v, m k = some (v, false) → ∃ t, R k.1 t ∧ n ≤ SizeOf.sizeOf t
/-- What is open was so. -/
def OpM (m m' : Met) : Prop := ∀ k v, m' k = some (v, false) → m k = some (v, false)
theorem put_same (m : Met) (k : Ky) (x : Int × Bool) : m.put k x k = some x := by simp [Met.put]
theorem put_other (m : Met) {k k' : Ky} (x : Int × Bool) (h : k' ≠ k) : m.put k x k' = m k' := by simp [Met.put, h]
theorem kid_size {t u : Tr} {i : Nat} (h : t.kids[i]? = some u) : SizeOf.sizeOf u < SizeOf.sizeOf t := by
  cases t with
  | mk k w n kids =>
    have : SizeOf.sizeOf u < SizeOf.sizeOf kids := List.sizeOf_lt_of_mem (List.mem_of_getElem? h)
    simp
    omega
theorem OpM.refl (a : Met) : OpM a a := fun _ _ e => e
theorem OpM.trans {a b c : Met} (h : OpM a b) (k : OpM b c) : OpM a c := fun x v e => h x v (k x v e)
theorem OpN.of {m m' : Met} {n : Nat} (h : OpN R m n) (k : OpM m m') : OpN R m' n := fun x v e => h x v (k x v e)
/-- What one frame comes to. -/
def FrameIs (E : Env) (R : Addr → Tr → Prop) (ka : Addr → Nat → Addr) (N : Nat) (key : Ky) (q : Fr) (S : List Fr) (m : Met) : Rs → Prop
  | .err c => ∃ k, GoM E ka N key ⟨q :: S, m⟩ k (.err c)
  | .ok v => ∀ r, (∀ m', InvD E R m' → OpM m m' → m' q.key = some (v, true) → ∃ k, GoM E ka N key ⟨S, m'⟩ k r) → ∃ k, GoM E ka N key ⟨q :: S, m⟩ k r
def BeginIs (E : Env) (R : Addr → Tr → Prop) (ka : Addr → Nat → Addr) (N : Nat) (key : Ky) (a : Addr) (t : Tr) (who : Int) (sum : Bool) (S : List Fr) (m : Met) : Rs → Prop
  | .err c => beginP E a t who sum ⟨S, m⟩ = .err c ∨ ∃ s, beginP E a t who sum ⟨S, m⟩ = .ok s ∧ ∃ k, GoM E ka N key s k (.err c)
  | .ok v => ∃ s, beginP E a t who sum ⟨S, m⟩ = .ok s ∧ ∀ r, (∀ m', InvD E R m' → OpM m m' → m' (a, who, sum) = some (v, true) → ∃ k, GoM E ka N key ⟨S, m'⟩ k r) → ∃ k, GoM E ka N key s k r
theorem right_kids {sum : Bool} {t : Tr} (h : rightB sum t = true) (who : Int) {o : Int} {i : Nat} (ho : (ofL E t who)[i]? = some o) : 0 < t.kids.length := by
  unfold rightB at h
  split at h
  · cases h
  · rename_i m hm
    simp only [Bool.and_eq_true, decide_eq_true_eq] at h
    rw [h.1.1]
    unfold ofL at ho
    unfold kidsN at hm
    cases hk : t.kd <;> rw [hk] at hm ho <;> cases sum <;> simp [kidsS, kidsC] at hm <;> first | omega | (simp at ho)
theorem frame_run (hN : Nds R ka) (N : Nat) (key : Ky) (t : Tr)
    (ih : ∀ u, SizeOf.sizeOf u < SizeOf.sizeOf t → ∀ a who sum S m, R a u → S.length + cnt u ≤ N → InvD E R m → OpN R m (SizeOf.sizeOf u + 1) → m (a, who, sum) = none → BeginIs E R ka N key a u who sum S m (ev E u who sum)) :
    ∀ (left : Nat) (q : Fr) (S : List Fr) (m : Met), q.t = t → R q.a t → S.length + cnt t ≤ N → (left = 0 ∨ 0 < t.kids.length) → q.of.length = q.heard + left → InvD E R m → OpN R m (SizeOf.sizeOf t) →
      foldR t.kd t.num q.heard q.val ((asks t q.sum (t.kids.map (ev E)) 0 q.of).drop q.heard) = ev E t q.who q.sum →
      FrameIs E R ka N key q S m (ev E t q.who q.sum) := by
  have hc1 : 1 ≤ cnt t := by rw [cnt_eq]; omega
  intro left
  induction left with
  | zero =>
    intro q S m ht hR hcn _ hl hI hO hev
    rw [List.drop_eq_nil_of_le (by rw [asks_len]; omega), foldR] at hev
    rw [← hev]
    intro r hr
    have hno : q.of[q.heard]? = none := List.getElem?_eq_none (by omega)
    obtain ⟨k, hk⟩ := hr (m.put q.key (q.val, true)) (fun x v e => by
        by_cases ex : x = q.key
        · subst ex
          rw [put_same] at e
          injection e with e
          injection e with e1 e2
          subst e1
          exact ⟨t, hR, hev.symm⟩
        · rw [put_other _ _ ex] at e
          exact hI x v e)
      (fun x v e => by
        by_cases ex : x = q.key
        · subst ex
          rw [put_same] at e
          injection e with e
          injection e with e1 e2
          cases e2
        · rw [put_other _ _ ex] at e
          exact e)
      (put_same _ _ _)
    refine ⟨k + 1, .step (by simp) (by simp; omega) ?_ hk⟩
    unfold goP
    simp only [hno]
  | succ left il =>
    intro q S m ht hR hcn hp hl hI hO hev
    have hp : 0 < t.kids.length := by omega
    obtain ⟨o, ho⟩ : ∃ o, q.of[q.heard]? = some o := ⟨_, List.getElem?_eq_getElem (by omega)⟩
    obtain ⟨u, hu⟩ : ∃ u, t.kids[min q.heard (t.kids.length - 1)]? = some u := ⟨_, List.getElem?_eq_getElem (by omega)⟩
    have hRu := hN.kid hR hu
    have hsz := kid_size hu
    have hck := cnt_kid hu
    rw [asks_drop t q.sum _ q.of 0 q.heard o ho, Nat.zero_add] at hev
    have hfs : (t.kids.map (ev E)).getD (min q.heard (t.kids.length - 1)) (fun _ _ => .err 0) = ev E u := by
      rw [List.getD_eq_getElem?_getD, List.getElem?_map, hu]
      rfl
    rw [hfs] at hev
    -- what is heard
    have hear : ∀ m1, InvD E R m1 → OpM m m1 → ∀ v, m1 (ka q.a (min q.heard (t.kids.length - 1)), o, q.sum || t.kd.isOrd) = some (v, true) → ev E u o (q.sum || t.kd.isOrd) = .ok v → FrameIs E R ka N key q S m1 (ev E t q.who q.sum) := by
      intro m1 hI1 hM1 v hv hevu
      rw [hevu, foldR] at hev
      have hgo : goP E ka ⟨q :: S, m1⟩ = match hearP q.t.kd q.t.num q.heard q.val v with
          | .err c => .err c
          | .ok v' => .ok ⟨{ q with heard := q.heard + 1, val := v' } :: S, m1⟩ := by
        unfold goP
        simp only [ho, ht, hu, hv]
      rw [show hearP q.t.kd q.t.num q.heard q.val v = hearP t.kd t.num q.heard q.val v by rw [ht]] at hgo
      cases hh : hearP t.kd t.num q.heard q.val v with
      | err c =>
        rw [hh] at hev hgo
        simp only at hev hgo
        rw [← hev]
        exact ⟨1, .bad (by simp) (by simp; omega) hgo⟩
      | ok v' =>
        rw [hh] at hev hgo
        simp only at hev hgo
        have hf := il { q with heard := q.heard + 1, val := v' } S m1 ht hR hcn (.inr hp) (by show q.of.length = _; simp only; omega) hI1 (hO.of hM1) hev
        revert hf
        show FrameIs E R ka N key _ S m1 (ev E t q.who q.sum) → FrameIs E R ka N key q S m1 (ev E t q.who q.sum)
        cases ev E t q.who q.sum with
        | err c =>
          rintro ⟨k, hk⟩
          exact ⟨k + 1, .step (by simp) (by simp; omega) hgo hk⟩
        | ok w =>
          intro hf r hr
          obtain ⟨k, hk⟩ := hf r hr
          exact ⟨k + 1, .step (by simp) (by simp; omega) hgo hk⟩
    cases hm : m (ka q.a (min q.heard (t.kids.length - 1)), o, q.sum || t.kd.isOrd) with
    | some x =>
      obtain ⟨v, b⟩ := x
      cases b with
      | false =>
        obtain ⟨u', h1, h2⟩ := hO _ _ hm
        rw [hN.one hRu h1] at hsz
        omega
      | true =>
        obtain ⟨u', h1, h2⟩ := hI _ _ hm
        obtain rfl := hN.one hRu h1
        exact hear m hI (OpM.refl m) v hm h2
    | none =>
      have hgo : goP E ka ⟨q :: S, m⟩ = beginP E (ka q.a (min q.heard (t.kids.length - 1))) u o (q.sum || t.kd.isOrd) ⟨q :: S, m⟩ := by
        unfold goP
        simp only [ho, ht, hu, hm]
      have hb := ih u hsz _ o (q.sum || t.kd.isOrd) (q :: S) m hRu (by simp; omega) hI (fun x v e => by obtain ⟨y, h1, h2⟩ := hO x v e; exact ⟨y, h1, by omega⟩) hm
      cases hevu : ev E u o (q.sum || t.kd.isOrd) with
      | err c =>
        rw [hevu] at hb hev
        rw [foldR] at hev
        rw [← hev]
        rcases hb with hb | ⟨s, hs, k, hk⟩
        · exact ⟨1, .bad (by simp) (by simp; omega) (hgo.trans hb)⟩
        · exact ⟨k + 1, .step (by simp) (by simp; omega) (hgo.trans hs) hk⟩
      | ok v =>
        rw [hevu] at hb
        obtain ⟨s, hs, hb⟩ := hb
        have hgo := hgo.trans hs
        have all : ∀ m1, InvD E R m1 → OpM m m1 → m1 (ka q.a (min q.heard (t.kids.length - 1)), o, q.sum || t.kd.isOrd) = some (v, true) → FrameIs E R ka N key q S m1 (ev E t q.who q.sum) := fun m1 h1 h2 h3 => hear m1 h1 h2 v h3 hevu
        revert all
        cases ev E t q.who q.sum with
        | err c =>
          intro all
          obtain ⟨k, hk⟩ := hb (.err c) all
          exact ⟨k + 1, .step (by simp) (by simp; omega) hgo hk⟩
        | ok x =>
          intro all r hr
          obtain ⟨k, hk⟩ := hb r fun m1 h1 h2 h3 => all m1 h1 h2 h3 r fun m2 k1 k2 k3 => hr m2 k1 (h2.trans k2) k3
          exact ⟨k + 1, .step (by simp) (by simp; omega) hgo hk⟩
theorem begin_run (hN : Nds R ka) (N : Nat) (key : Ky) : ∀ (n : Nat) (t : Tr), SizeOf.sizeOf t = n → ∀ a who sum S m, R a t → S.length + cnt t ≤ N → InvD E R m → OpN R m (SizeOf.sizeOf t + 1) → m (a, who, sum) = none → BeginIs E R ka N key a t who sum S m (ev E t who sum) := by
  intro n
  induction n using Nat.strongRecOn with
  | ind n ih =>
    intro t hn a who sum S m hR hcn hI hO hno
    have hev : ev E t who sum = evN E t (t.kids.map (ev E)) who sum := by rw [ev_eq]
    unfold evN at hev
    cases hr : rightB sum t with
    | false =>
      rw [if_pos hr] at hev
      rw [hev]
      left
      unfold beginP
      rw [if_pos hr]
    | true =>
      rw [if_neg (by rw [hr]; decide)] at hev
      cases hv : valB (startV E t who sum) with
      | false =>
        rw [if_pos hv] at hev
        rw [hev]
        left
        unfold beginP
        rw [if_neg (by rw [hr]; decide), if_pos hv]
      | true =>
        rw [if_neg (by rw [hv]; decide)] at hev
        have hb : beginP E a t who sum ⟨S, m⟩ = .ok ⟨⟨a, t, who, sum, ofL E t who, 0, startV E t who sum⟩ :: S, m.put (a, who, sum) (0, false)⟩ := by
          unfold beginP
          rw [if_neg (by rw [hr]; decide), if_neg (by rw [hv]; decide)]
        have hop : ∀ m', OpM (m.put (a, who, sum) (0, false)) m' → (∃ v, m' (a, who, sum) = some (v, true)) → OpM m m' := fun m' h he x v e => by
          by_cases ex : x = (a, who, sum)
          · subst ex
            obtain ⟨v', he⟩ := he
            rw [he] at e
            injection e with e
            injection e with _ e
            cases e
          · have := h x v e
            rwa [put_other _ _ ex] at this
        have hf := frame_run hN N key t (fun u hu a' who' sum' S' m' => ih (SizeOf.sizeOf u) (by omega) u rfl a' who' sum' S' m') (ofL E t who).length ⟨a, t, who, sum, ofL E t who, 0, startV E t who sum⟩ S (m.put (a, who, sum) (0, false)) rfl hR hcn
          (by
            rcases Nat.eq_zero_or_pos (ofL E t who).length with h | h
            · exact .inl h
            · exact .inr (right_kids (E := E) hr who (List.getElem?_eq_getElem h)))
          (Nat.zero_add _).symm
          (fun x v e => by
            by_cases ex : x = (a, who, sum)
            · subst ex
              rw [put_same] at e
              injection e with e
              injection e with _ e
              cases e
            · rw [put_other _ _ ex] at e
              exact hI x v e)
          (fun x v e => by
            by_cases ex : x = (a, who, sum)
            · subst ex
              exact ⟨t, hR, Nat.le_refl _⟩
            · rw [put_other _ _ ex] at e
              obtain ⟨y, h1, h2⟩ := hO x v e
              exact ⟨y, h1, by omega⟩)
          (by rw [List.drop_zero]; exact hev.symm)
        revert hf
        show FrameIs E R ka N key _ S _ (ev E t who sum) → _
        cases ev E t who sum with
        | err c =>
          rintro ⟨k, hk⟩
          exact .inr ⟨_, hb, k, hk⟩
        | ok v =>
          intro hf
          refine ⟨_, hb, fun r hr2 => ?_⟩
          exact hf r fun m' h1 h2 h3 => hr2 m' h1 (hop m' h2 ⟨v, h3⟩) h3
/-- THE PROGRAM'S WAY COMES TO THE WORTH. -/
theorem find_run (hN : Nds R ka) {a : Addr} {t : Tr} (hR : R a t) {N : Nat} (hcn : cnt t ≤ N) (who : Int) (sum : Bool) :
    (∃ c, ev E t who sum = .err c ∧ beginP E a t who sum ⟨[], fun _ => none⟩ = .err c) ∨ ∃ s k, beginP E a t who sum ⟨[], fun _ => none⟩ = .ok s ∧ GoM E ka N (a, who, sum) s k (ev E t who sum) := by
  have h := begin_run (E := E) hN N (a, who, sum) (SizeOf.sizeOf t) t rfl a who sum [] (fun _ => none) hR (by simpa using hcn) (fun _ _ e => by cases e) (fun _ _ e => by cases e) rfl
  revert h
  cases ev E t who sum with
  | err c =>
    rintro (h | ⟨s, h, k, g⟩)
    · exact .inl ⟨c, rfl, h⟩
    · exact .inr ⟨s, k, h, g⟩
  | ok v =>
    rintro ⟨s, h, g⟩
    obtain ⟨k, hk⟩ := g (.ok v) fun m' h1 h2 h3 => ⟨0, .fin rfl h3⟩
    exact .inr ⟨s, k, h, hk⟩
end
end Go.Proofs.YtcfeflkhmncmjaaGreatDoor
namespace Go.Proofs.YtcfeflkhmncmjaaGreatDoor

def Bit (v : Int) : Prop := v = 0 ∨ v = 1
theorem Bit.val {v : Int} (h : Bit v) : valB v = true := by rcases h with rfl | rfl <;> decide
theorem bit_trI (b : Bool) : Bit (trI b) := by cases b <;> simp [Bit, trI]
theorem chk_fine {x : Int} (h : valB x = true) : chk x = .ok x := by unfold chk; rw [if_pos h]
theorem chk_val {x v : Int} (h : chk x = .ok v) : v = x ∧ valB v = true := by
  unfold chk at h
  split at h
  · injection h with h; subst h; exact ⟨rfl, by assumption⟩
  · cases h
theorem valB_iff {x : Int} : valB x = true ↔ -1000000000000 ≤ x ∧ x ≤ 1000000000000 := by simp [valB]
theorem hear_val {k : Kd} {n : Int} {h : Nat} {val v v' : Int} (e : hearP k n h val v = .ok v') : valB v' = true := by
  unfold hearP at e
  split at e
  all_goals first
    | exact (chk_val e).2
    | (split at e
       all_goals first
         | exact (chk_val e).2
         | cases e)
theorem fold_val {k : Kd} {n : Int} : ∀ (rs : List Rs) (h : Nat) (val v : Int), valB val = true → foldR k n h val rs = .ok v → valB v = true
  | [], h, val, v, hv, e => by
    rw [foldR] at e
    injection e with e
    subst e
    exact hv
  | r :: rs, h, val, v, hv, e => by
    cases r with
    | err c => rw [foldR] at e; cases e
    | ok x =>
      rw [foldR] at e
      cases hh : hearP k n h val x with
      | err c => rw [hh] at e; cases e
      | ok v' =>
        rw [hh] at e
        exact fold_val rs (h + 1) v' v (hear_val hh) e
theorem ev_val {E : Env} {t : Tr} {who : Int} {sum : Bool} {v : Int} (h : ev E t who sum = .ok v) : valB v = true := by
  rw [ev_eq] at h
  unfold evN at h
  split at h
  · cases h
  · split at h
    · cases h
    · rename_i h2
      exact fold_val _ _ _ _ (by cases hv : valB (startV E t who sum) with | true => rfl | false => exact absurd hv h2) h
theorem fold_bit {k : Kd} {n : Int} (hk : k = .or ∨ k = .and ∨ k = .some ∨ k = .every ∨ k = .not) : ∀ (rs : List Rs) (h : Nat) (val v : Int), (∀ r ∈ rs, ∀ x, r = .ok x → Bit x) → Bit val → foldR k n h val rs = .ok v → Bit v
  | [], h, val, v, _, hb, e => by
    rw [foldR] at e
    injection e with e
    subst e
    exact hb
  | r :: rs, h, val, v, hr, hb, e => by
    cases r with
    | err c => rw [foldR] at e; cases e
    | ok x =>
      have hx : Bit x := hr _ (by simp) x rfl
      rw [foldR] at e
      cases hh : hearP k n h val x with
      | err c => rw [hh] at e; cases e
      | ok v' =>
        rw [hh] at e
        refine fold_bit hk rs (h + 1) v' v (fun r' h' => hr r' (List.mem_cons_of_mem _ h')) ?_ e
        unfold hearP at hh
        rcases hk with rfl | rfl | rfl | rfl | rfl <;> rcases hb with rfl | rfl <;> rcases hx with rfl | rfl <;> (simp only at hh; have := (chk_val hh).1; subst this; first | exact .inl rfl | exact .inr rfl)
theorem asks_mem {t : Tr} {sum : Bool} {fs : List (Int → Bool → Rs)} : ∀ (os : List Int) (i : Nat) (r : Rs), r ∈ asks t sum fs i os → ∃ j o, r = (fs.getD j fun _ _ => .err 0) o (sum || t.kd.isOrd)
  | [], _, _, h => by simp [asks] at h
  | x :: os, i, r, h => by
    rw [asks] at h
    rcases List.mem_cons.1 h with rfl | h
    · exact ⟨_, _, rfl⟩
    · exact asks_mem os (i + 1) r h
theorem getD_ev (E : Env) (kids : List Tr) (j : Nat) (o : Int) (s : Bool) : (∃ u ∈ kids, ((kids.map (ev E)).getD j fun _ _ => .err 0) o s = ev E u o s) ∨ ((kids.map (ev E)).getD j fun _ _ => .err 0) o s = .err 0 := by
  rw [List.getD_eq_getElem?_getD, List.getElem?_map]
  cases h : kids[j]? with
  | none => exact .inr rfl
  | some u => exact .inl ⟨u, List.mem_of_getElem? h, rfl⟩
theorem asks_two {E : Env} {t a b : Tr} {sum : Bool} {who : Int} (h : t.kids = [a, b]) : asks t sum (t.kids.map (ev E)) 0 [who, who] = [ev E a who (sum || t.kd.isOrd), ev E b who (sum || t.kd.isOrd)] := by simp [asks, h]
theorem asks_one {E : Env} {t a : Tr} {sum : Bool} (h : t.kids = [a]) : ∀ (os : List Int) (i : Nat), asks t sum (t.kids.map (ev E)) i os = os.map fun o => ev E a o (sum || t.kd.isOrd)
  | [], _ => rfl
  | x :: os, i => by
    rw [asks, asks_one h os (i + 1)]
    simp [h]
theorem ev_wrong {E : Env} {t : Tr} {who : Int} {sum : Bool} (h : rightB sum t = false) : ev E t who sum = .err 9 := by
  rw [ev_eq]
  unfold evN
  rw [if_pos h]
theorem ev_over {E : Env} {t : Tr} {who : Int} {sum : Bool} (h : rightB sum t = true) (hv : valB (startV E t who sum) = false) : ev E t who sum = .err 3 := by
  rw [ev_eq]
  unfold evN
  rw [if_neg (by rw [h]; decide), if_pos hv]
theorem ev_right {E : Env} {t : Tr} {who : Int} {sum : Bool} (h : rightB sum t = true) (hv : valB (startV E t who sum) = true) : ev E t who sum = foldR t.kd t.num 0 (startV E t who sum) (asks t sum (t.kids.map (ev E)) 0 (ofL E t who)) := by
  rw [ev_eq]
  unfold evN
  rw [if_neg (by rw [h]; decide), if_neg (by rw [hv]; decide)]
/-- Both, or the first error. -/
def bind2 (r s : Rs) (f : Int → Int → Rs) : Rs := match r with
  | .err c => .err c
  | .ok x => match s with
    | .err c => .err c
    | .ok y => f x y
theorem two_len {t : Tr} (h : t.kids.length = 2) : ∃ a b, t.kids = [a, b] := by
  match hk : t.kids, h with
  | [a, b], _ => exact ⟨a, b, rfl⟩
theorem one_len {t : Tr} (h : t.kids.length = 1) : ∃ a, t.kids = [a] := List.length_eq_one_iff.1 h
theorem ord_kids {k : Kd} (h : k.isOrd = true) : kidsC k = some 2 ∧ k.hasW = false ∧ k ≠ .number ∧ k ≠ .total ∧ k ≠ .name ∧ k ≠ .count ∧ k ≠ .some ∧ k ≠ .every ∧ k ≠ .and := by cases k <;> simp_all [Kd.isOrd, kidsC, Kd.hasW]
theorem right_ord {t : Tr} (h : t.kd.isOrd = true) : rightB false t = decide (t.kids.length = 2) := by
  obtain ⟨h1, h2, h3, h4, _⟩ := ord_kids h
  unfold rightB kidsN restB
  rw [if_neg (by decide), h1, h2]
  cases hk : t.kd <;> rw [hk] at h3 h4 <;> simp_all
theorem ev_ord {E : Env} {t a b : Tr} {who : Int} (hk : t.kd.isOrd = true) (h : t.kids = [a, b]) : ev E t who false = bind2 (ev E a who true) (ev E b who true) fun x y => .ok (trI (ordI t.kd x y)) := by
  have hr : rightB false t = true := by rw [right_ord hk, h]; rfl
  have hs : startV E t who false = 0 := by cases hq : t.kd <;> rw [hq] at hk <;> simp [Kd.isOrd] at hk <;> simp [startV, hq]
  have ho : ofL E t who = [who, who] := by cases hq : t.kd <;> rw [hq] at hk <;> simp [Kd.isOrd] at hk <;> simp [ofL, hq, h, List.replicate]
  rw [ev_right hr (by rw [hs]; decide), hs, ho, asks_two h, hk]
  simp only [Bool.or_true]
  unfold bind2
  cases ha : ev E a who true with
  | err c => rfl
  | ok x =>
    have hx := ev_val ha
    cases hb : ev E b who true with
    | err c =>
      rw [foldR]
      cases hq : t.kd <;> rw [hq] at hk <;> simp [Kd.isOrd] at hk <;> simp [hearP, chk_fine hx, foldR]
    | ok y =>
      rw [foldR]
      have hB := fun b : Bool => chk_fine (bit_trI b).val
      cases hq : t.kd <;> rw [hq] at hk <;> simp [Kd.isOrd] at hk <;> simp [hearP, chk_fine hx, foldR, two, hB]
theorem ev_bit {E : Env} : ∀ (n : Nat) (t : Tr), SizeOf.sizeOf t = n → ∀ who v, ev E t who false = .ok v → Bit v := by
  intro n
  induction n using Nat.strongRecOn with
  | ind n ih =>
    intro t hn who v h
    cases hr : rightB false t with
    | false => rw [ev_wrong hr] at h; cases h
    | true =>
      cases ho : t.kd.isOrd with
      | true =>
        rw [right_ord ho, decide_eq_true_eq] at hr
        obtain ⟨a, b, hab⟩ := two_len hr
        rw [ev_ord ho hab] at h
        unfold bind2 at h
        split at h
        · cases h
        · split at h
          · cases h
          · injection h with h
            subst h
            exact bit_trI _
      | false =>
        cases hv : valB (startV E t who false) with
        | false => rw [ev_over hr hv] at h; cases h
        | true =>
          rw [ev_right hr hv] at h
          have hm : ∀ r ∈ asks t false (t.kids.map (ev E)) 0 (ofL E t who), ∀ x, r = .ok x → Bit x := by
            intro r hr2 x hx
            obtain ⟨j, o, rfl⟩ := asks_mem _ _ _ hr2
            rw [ho] at hx
            rcases getD_ev E t.kids j o (false || false) with ⟨u, hu, e⟩ | e
            · rw [e] at hx
              obtain ⟨i, hi⟩ := List.getElem?_of_mem hu
              exact ih _ (by rw [← hn]; exact kid_size hi) u rfl o x hx
            · rw [e] at hx; cases hx
          have hs : Bit (startV E t who false) := by
            unfold rightB kidsN at hr
            unfold startV
            cases hq : t.kd <;> rw [hq] at hr <;> simp [kidsC] at hr <;> simp [Bit, trI]
            omega
          cases hq : t.kd with
          | or => rw [hq] at h; exact fold_bit (by simp) _ _ _ _ hm hs h
          | and => rw [hq] at h; exact fold_bit (by simp) _ _ _ _ hm hs h
          | some => rw [hq] at h; exact fold_bit (by simp) _ _ _ _ hm hs h
          | every => rw [hq] at h; exact fold_bit (by simp) _ _ _ _ hm hs h
          | not => rw [hq] at h; exact fold_bit (by simp) _ _ _ _ hm hs h
          | name =>
            have he : ofL E t who = [] := by simp [ofL, hq]
            rw [he, asks, foldR] at h
            injection h with h
            subst h
            exact hs
          | _ =>
            exfalso
            unfold rightB kidsN at hr
            rw [hq] at hr ho
            simp [kidsC, Kd.isOrd] at hr ho
theorem ev_bit' {E : Env} {t : Tr} {who v : Int} (h : ev E t who false = .ok v) : Bit v := ev_bit _ t rfl who v h
/-! Conditions. -/
theorem ev_oa {E : Env} {t a b : Tr} {who : Int} (hk : t.kd = .or ∨ t.kd = .and) (h : t.kids = [a, b]) : ev E t who false = bind2 (ev E a who false) (ev E b who false) fun x y => .ok (if t.kd = .or then Max.max x y else Min.min x y) := by
  have hr : rightB false t = true := by unfold rightB kidsN restB; rcases hk with hk | hk <;> rw [hk, h] <;> rfl
  have hv : valB (startV E t who false) = true := by unfold startV; rcases hk with hk | hk <;> rw [hk] <;> rfl
  have ho : ofL E t who = [who, who] := by rcases hk with hk | hk <;> simp [ofL, hk, h, List.replicate]
  have hd : (false || t.kd.isOrd) = false := by rcases hk with hk | hk <;> rw [hk] <;> rfl
  rw [ev_right hr hv, ho, asks_two h, hd]
  unfold bind2 startV
  cases ha : ev E a who false with
  | err c => rcases hk with hk | hk <;> rw [hk] <;> rfl
  | ok x =>
    have hx := ev_bit' ha
    cases hb : ev E b who false with
    | err c => rcases hk with hk | hk <;> rw [hk] <;> rcases hx with rfl | rfl <;> rfl
    | ok y =>
      have hy := ev_bit' hb
      rcases hk with hk | hk <;> rw [hk] <;> rcases hx with rfl | rfl <;> rcases hy with rfl | rfl <;> rfl
theorem ev_oa_bad {E : Env} {t : Tr} {who : Int} (hk : t.kd = .or ∨ t.kd = .and) (h : t.kids.length ≠ 2) : ev E t who false = .err 9 := by
  apply ev_wrong
  unfold rightB kidsN restB
  rcases hk with hk | hk <;> rw [hk] <;> simp [kidsC, h]
theorem ev_not {E : Env} {t a : Tr} {who : Int} (hk : t.kd = .not) (h : t.kids = [a]) : ev E t who false = match ev E a who false with | .err c => .err c | .ok x => .ok (1 - x) := by
  have hr : rightB false t = true := by unfold rightB kidsN restB; rw [hk, h]; rfl
  have hv : valB (startV E t who false) = true := by unfold startV; rw [hk]; rfl
  have ho : ofL E t who = [who] := by simp [ofL, hk, h]
  rw [ev_right hr hv, ho, asks_one h, hk]
  cases ha : ev E a who false with
  | err c => simp [foldR, Kd.isOrd, ha]
  | ok x => rcases ev_bit' ha with rfl | rfl <;> simp [foldR, Kd.isOrd, ha, hearP, chk, valB]
theorem ev_not_bad {E : Env} {t : Tr} {who : Int} (hk : t.kd = .not) (h : t.kids.length ≠ 1) : ev E t who false = .err 9 := by
  apply ev_wrong
  unfold rightB kidsN restB
  rw [hk]; simp [kidsC, h]
theorem ev_nameC {E : Env} {t : Tr} {who : Int} (hk : t.kd = .name) : ev E t who false = if t.kids.length = 0 ∧ isWordB t.word = true then .ok (trI (!decide (E.val who t.word = 0))) else .err 9 := by
  have hr : rightB false t = (decide (t.kids.length = 0) && isWordB t.word) := by unfold rightB kidsN restB; rw [hk]; simp [kidsC, Kd.hasW]
  by_cases hc : t.kids.length = 0 ∧ isWordB t.word = true
  · rw [if_pos hc]
    have hs : startV E t who false = trI (!decide (E.val who t.word = 0)) := by unfold startV; rw [hk]; rfl
    have ho : ofL E t who = [] := by simp [ofL, hk]
    rw [ev_right (by rw [hr, hc.2]; simp [hc.1]) (by rw [hs]; exact (bit_trI _).val), ho, asks, foldR, hs]
  · rw [if_neg hc]
    apply ev_wrong
    rw [hr]
    cases hw : isWordB t.word <;> simp_all
def firstE : List Rs → Option Nat
  | [] => none
  | .err c :: _ => some c
  | .ok _ :: r => firstE r
def ones : List Rs → Nat
  | [] => 0
  | .err _ :: r => ones r
  | .ok v :: r => (if v = 1 then 1 else 0) + ones r
def eachR (k : Kd) (rs : List Rs) : Rs := match firstE rs with
  | some c => .err c
  | none => .ok (trI (if k = .every then decide (ones rs = rs.length) else decide (0 < ones rs)))
theorem ones_le : ∀ rs : List Rs, ones rs ≤ rs.length
  | [] => Nat.le_refl _
  | .err _ :: r => by have := ones_le r; simp [ones]; omega
  | .ok v :: r => by have := ones_le r; simp only [ones, List.length_cons]; split <;> omega
theorem fold_some (n : Int) : ∀ (rs : List Rs) (h : Nat) (v : Int), (∀ r ∈ rs, ∀ x, r = .ok x → Bit x) → Bit v → foldR .some n h v rs = match firstE rs with | some c => .err c | none => .ok (trI (decide (v = 1) || decide (0 < ones rs)))
  | [], h, v, _, hb => by rcases hb with rfl | rfl <;> rfl
  | .err c :: rs, h, v, _, _ => rfl
  | .ok x :: rs, h, v, hr, hb => by
    have hx : Bit x := hr _ (by simp) x rfl
    have hi := fun v' hv' => fold_some n rs (h + 1) v' (fun r h' => hr r (List.mem_cons_of_mem _ h')) hv'
    have e : foldR .some n h v (.ok x :: rs) = foldR .some n (h + 1) (Max.max v x) rs := by
      rw [foldR]
      rcases hb with rfl | rfl <;> rcases hx with rfl | rfl <;> rfl
    rw [e, hi _ (by rcases hb with rfl | rfl <;> rcases hx with rfl | rfl <;> first | exact .inl rfl | exact .inr rfl)]
    rw [show firstE (.ok x :: rs) = firstE rs from rfl]
    cases firstE rs with
    | some c => rfl
    | none =>
      simp only [ones]
      rcases hb with rfl | rfl <;> rcases hx with rfl | rfl <;> first | (simp; done) | (show Rs.ok (trI (decide ((1 : Int) = 1) || _)) = _; simp; done) | (show Rs.ok (trI (decide ((1 : Int) = 1) || _)) = Rs.ok (trI (_ || decide (0 < 1 + ones rs))); rw [decide_eq_true (show 0 < 1 + ones rs by omega)]; simp)
theorem fold_every (n : Int) : ∀ (rs : List Rs) (h : Nat) (v : Int), (∀ r ∈ rs, ∀ x, r = .ok x → Bit x) → Bit v → foldR .every n h v rs = match firstE rs with | some c => .err c | none => .ok (trI (decide (v = 1) && decide (ones rs = rs.length)))
  | [], h, v, _, hb => by rcases hb with rfl | rfl <;> rfl
  | .err c :: rs, h, v, _, _ => rfl
  | .ok x :: rs, h, v, hr, hb => by
    have hx : Bit x := hr _ (by simp) x rfl
    have hi := fun v' hv' => fold_every n rs (h + 1) v' (fun r h' => hr r (List.mem_cons_of_mem _ h')) hv'
    have hle := ones_le rs
    have e : foldR .every n h v (.ok x :: rs) = foldR .every n (h + 1) (Min.min v x) rs := by
      rw [foldR]
      rcases hb with rfl | rfl <;> rcases hx with rfl | rfl <;> rfl
    rw [e, hi _ (by rcases hb with rfl | rfl <;> rcases hx with rfl | rfl <;> first | exact .inl rfl | exact .inr rfl)]
    rw [show firstE (.ok x :: rs) = firstE rs from rfl]
    cases firstE rs with
    | some c => rfl
    | none =>
      simp only [ones, List.length_cons]
      rcases hb with rfl | rfl <;> rcases hx with rfl | rfl
      · show Rs.ok (trI (decide ((0 : Int) = 1) && _)) = _; simp
      · show Rs.ok (trI (decide ((0 : Int) = 1) && _)) = _; simp
      · show Rs.ok (trI (decide ((0 : Int) = 1) && _)) = _; simp; rw [decide_eq_false (by omega)]
      · show Rs.ok (trI (decide ((1 : Int) = 1) && _)) = _; simp; rw [show decide (1 + ones rs = rs.length + 1) = decide (ones rs = rs.length) by congr 1; simp; omega]
theorem right_each {t : Tr} (hk : t.kd = .some ∨ t.kd = .every) : rightB false t = (decide (t.kids.length = 1) && isWordB t.word) := by
  unfold rightB kidsN restB
  rcases hk with hk | hk <;> rw [hk] <;> simp [kidsC, Kd.hasW]
theorem ev_each {E : Env} {t a : Tr} {who : Int} (hk : t.kd = .some ∨ t.kd = .every) (h : t.kids = [a]) (hw : isWordB t.word = true) : ev E t who false = eachR t.kd ((E.oth who t.word).map fun o => ev E a o false) := by
  have hr : rightB false t = true := by rw [right_each hk, h, hw]; rfl
  have hv : valB (startV E t who false) = true := by unfold startV; rcases hk with hk | hk <;> rw [hk] <;> rfl
  have ho : ofL E t who = E.oth who t.word := by rcases hk with hk | hk <;> simp [ofL, hk]
  have hd : (false || t.kd.isOrd) = false := by rcases hk with hk | hk <;> rw [hk] <;> rfl
  have hm : ∀ r ∈ (E.oth who t.word).map fun o => ev E a o false, ∀ x, r = .ok x → Bit x := by
    intro r hr x hx
    obtain ⟨o, _, rfl⟩ := List.mem_map.1 hr
    exact ev_bit' hx
  rw [ev_right hr hv, ho, asks_one h, hd]
  unfold startV eachR
  rcases hk with hk | hk
  · rw [hk, fold_some _ _ _ _ hm (by simp [Bit])]
    cases firstE _ with
    | some c => rfl
    | none => simp
  · rw [hk, fold_every _ _ _ _ hm (by simp [Bit])]
    cases firstE _ with
    | some c => rfl
    | none => simp
theorem ev_each_bad {E : Env} {t : Tr} {who : Int} (hk : t.kd = .some ∨ t.kd = .every) (h : ¬ (t.kids.length = 1 ∧ isWordB t.word = true)) : ev E t who false = .err 9 := by
  apply ev_wrong
  rw [right_each hk]
  cases hw : isWordB t.word <;> simp_all
theorem firstE_at : ∀ (rs : List Rs) (i c : Nat), firstE (rs.take i) = none → rs[i]? = some (.err c) → firstE rs = some c
  | [], _, _, _, h => by simp at h
  | r :: rs, 0, c, _, h => by
    obtain rfl : r = .err c := by simpa using h
    rfl
  | .err _ :: rs, i + 1, c, h0, _ => by simp [firstE] at h0
  | .ok v :: rs, i + 1, c, h0, h => firstE_at rs i c (by simpa [firstE] using h0) (by simpa using h)
theorem firstE_snoc : ∀ (rs : List Rs) (v : Int), firstE rs = none → firstE (rs ++ [.ok v]) = none
  | [], _, _ => rfl
  | .err _ :: rs, _, h => by simp [firstE] at h
  | .ok x :: rs, v, h => firstE_snoc rs v (by simpa [firstE] using h)
theorem ones_snoc : ∀ (rs : List Rs) (v : Int), ones (rs ++ [.ok v]) = ones rs + if v = 1 then 1 else 0
  | [], v => by simp [ones]
  | .err _ :: rs, v => ones_snoc rs v
  | .ok x :: rs, v => by
    show _ + ones (rs ++ [.ok v]) = _
    rw [ones_snoc rs v]
    simp only [ones]
    omega
theorem ev_ord_bad {E : Env} {t : Tr} {who : Int} (hk : t.kd.isOrd = true) (h : t.kids.length ≠ 2) : ev E t who false = .err 9 := by
  apply ev_wrong
  rw [right_ord hk]
  simp [h]
theorem ev_noC {E : Env} {t : Tr} {who : Int} (h : kidsC t.kd = none) : ev E t who false = .err 9 := by
  apply ev_wrong
  unfold rightB kidsN
  rw [if_neg (by decide), h]
/-! Sums. -/
theorem ev_noS {E : Env} {t : Tr} {who : Int} (h : kidsS t.kd = none) : ev E t who true = .err 9 := by
  apply ev_wrong
  unfold rightB kidsN
  rw [if_pos rfl, h]
theorem ev_number {E : Env} {t : Tr} {who : Int} (hk : t.kd = .number) : ev E t who true = if t.kids.length = 0 ∧ 0 ≤ t.num ∧ t.num ≤ 1000000000000 then .ok t.num else .err 9 := by
  have hr : rightB true t = (decide (t.kids.length = 0) && (decide (0 ≤ t.num) && decide (t.num ≤ 1000000000000))) := by unfold rightB kidsN restB; rw [hk]; simp [kidsS, Kd.hasW]
  by_cases hc : t.kids.length = 0 ∧ 0 ≤ t.num ∧ t.num ≤ 1000000000000
  · rw [if_pos hc]
    have hs : startV E t who true = t.num := by unfold startV; rw [hk]
    have ho : ofL E t who = [] := by simp [ofL, hk]
    rw [ev_right (by rw [hr]; simp [hc]) (by rw [hs, valB_iff]; omega), ho, asks, foldR, hs]
  · rw [if_neg hc]
    apply ev_wrong
    rw [hr]
    cases h1 : decide (t.kids.length = 0) <;> cases h2 : decide (0 ≤ t.num) <;> cases h3 : decide (t.num ≤ 1000000000000) <;> first | rfl | (exfalso; simp only [decide_eq_true_eq] at h1 h2 h3; exact hc ⟨h1, h2, h3⟩)
theorem ev_nameS {E : Env} {t : Tr} {who : Int} (hk : t.kd = .name) (hv : valB (E.val who t.word) = true) : ev E t who true = if t.kids.length = 0 ∧ isWordB t.word = true then .ok (E.val who t.word) else .err 9 := by
  have hr : rightB true t = (decide (t.kids.length = 0) && isWordB t.word) := by unfold rightB kidsN restB; rw [hk]; simp [kidsS, Kd.hasW]
  by_cases hc : t.kids.length = 0 ∧ isWordB t.word = true
  · rw [if_pos hc]
    have hs : startV E t who true = E.val who t.word := by unfold startV; rw [hk]; rfl
    have ho : ofL E t who = [] := by simp [ofL, hk]
    rw [ev_right (by rw [hr, hc.2]; simp [hc.1]) (by rw [hs]; exact hv), ho, asks, foldR, hs]
  · rw [if_neg hc]
    apply ev_wrong
    rw [hr]
    cases hw : isWordB t.word <;> simp_all
theorem ev_count {E : Env} {t : Tr} {who : Int} (hk : t.kd = .count) (hl : (E.oth who t.word).length ≤ 40) : ev E t who true = if t.kids.length = 0 ∧ isWordB t.word = true then .ok (100 * (E.oth who t.word).length) else .err 9 := by
  have hr : rightB true t = (decide (t.kids.length = 0) && isWordB t.word) := by unfold rightB kidsN restB; rw [hk]; simp [kidsS, Kd.hasW]
  by_cases hc : t.kids.length = 0 ∧ isWordB t.word = true
  · rw [if_pos hc]
    have hs : startV E t who true = 100 * (E.oth who t.word).length := by unfold startV; rw [hk]
    have ho : ofL E t who = [] := by simp [ofL, hk]
    rw [ev_right (by rw [hr, hc.2]; simp [hc.1]) (by rw [hs, valB_iff]; omega), ho, asks, foldR, hs]
  · rw [if_neg hc]
    apply ev_wrong
    rw [hr]
    cases hw : isWordB t.word <;> simp_all
theorem ev_total {E : Env} {t a : Tr} {who : Int} (hk : t.kd = .total) (h : t.kids = [a]) (hw : isWordB t.word = true) (hn : nameB a = true) : ev E t who true = chk (sumI ((E.oth who a.word).map fun o => E.val o t.word)) := by
  have hr : rightB true t = true := by unfold rightB kidsN restB; rw [hk, h]; simp [kidsS, Kd.hasW, hw, hn]
  have hs : startV E t who true = sumI ((E.oth who a.word).map fun o => E.val o t.word) := by unfold startV kidW; rw [hk, h]
  have ho : ofL E t who = [] := by simp [ofL, hk]
  cases hv : valB (startV E t who true) with
  | false =>
    rw [ev_over hr hv, ← hs]
    unfold chk
    rw [if_neg (by rw [hv]; decide)]
  | true => rw [ev_right hr hv, ho, asks, foldR, ← hs, chk_fine hv]
theorem ev_total_bad {E : Env} {t : Tr} {who : Int} (hk : t.kd = .total) (h : ¬ (isWordB t.word = true ∧ ∃ a, t.kids = [a] ∧ nameB a = true)) : ev E t who true = .err 9 := by
  apply ev_wrong
  unfold rightB kidsN restB
  rw [hk]
  cases hw : isWordB t.word with
  | false => simp [kidsS, Kd.hasW]
  | true =>
    match hq : t.kids with
    | [] => simp [kidsS]
    | [a] =>
      cases hn : nameB a with
      | false => simp [kidsS, Kd.hasW, hn]
      | true => exact absurd ⟨hw, a, hq, hn⟩ h
    | a :: b :: r => simp [kidsS]
theorem ev_times {E : Env} {t a : Tr} {who : Int} (hk : t.kd = .times) (h : t.kids = [a]) : ev E t who true = match ev E a who true with | .err c => .err c | .ok x => if t.num < 0 ∨ 1000000 < t.num then .err 9 else chk (rnd (x * t.num) 4) := by
  have hr : rightB true t = true := by unfold rightB kidsN restB; rw [hk, h]; rfl
  have hv : valB (startV E t who true) = true := by unfold startV; rw [hk]; rfl
  have ho : ofL E t who = [who] := by simp [ofL, hk, h]
  rw [ev_right hr hv, ho, asks_one h, hk]
  simp only [List.map_cons, List.map_nil, Bool.true_or]
  cases ha : ev E a who true with
  | err c => rfl
  | ok x =>
    simp only [foldR, hearP]
    by_cases hc : t.num < 0 ∨ 1000000 < t.num
    · rw [if_pos hc]
    · rw [if_neg hc]
      cases chk (rnd (x * t.num) 4) <;> rfl
theorem ev_times_bad {E : Env} {t : Tr} {who : Int} (hk : t.kd = .times) (h : t.kids.length ≠ 1) : ev E t who true = .err 9 := by
  apply ev_wrong
  unfold rightB kidsN restB
  rw [hk]; simp [kidsS, h]
def isTwo (k : Kd) : Bool := match k with | .plus | .minus | .max | .min => true | _ => false
theorem right_two {t : Tr} (hk : isTwo t.kd = true) : rightB true t = decide (t.kids.length = 2) := by
  unfold rightB kidsN restB
  cases hq : t.kd <;> rw [hq] at hk <;> simp [isTwo] at hk <;> simp [kidsS, Kd.hasW]
theorem ev_two {E : Env} {t a b : Tr} {who : Int} (hk : isTwo t.kd = true) (h : t.kids = [a, b]) : ev E t who true = bind2 (ev E a who true) (ev E b who true) fun x y => chk (two t.kd x y) := by
  have hr : rightB true t = true := by rw [right_two hk, h]; rfl
  have hs : startV E t who true = 0 := by cases hq : t.kd <;> rw [hq] at hk <;> simp [isTwo] at hk <;> simp [startV, hq]
  have ho : ofL E t who = [who, who] := by cases hq : t.kd <;> rw [hq] at hk <;> simp [isTwo] at hk <;> simp [ofL, hq, h, List.replicate]
  rw [ev_right hr (by rw [hs]; decide), hs, ho, asks_two h]
  simp only [Bool.true_or]
  unfold bind2
  cases ha : ev E a who true with
  | err c => rfl
  | ok x =>
    have hx := ev_val ha
    cases hb : ev E b who true with
    | err c =>
      rw [foldR]
      cases hq : t.kd <;> rw [hq] at hk <;> simp [isTwo] at hk <;> simp [hearP, chk_fine hx, foldR]
    | ok y =>
      rw [foldR]
      cases hq : t.kd <;> rw [hq] at hk <;> simp [isTwo] at hk <;> simp only [hearP, if_true, chk_fine hx, foldR, Nat.zero_add, Nat.one_ne_zero, if_false] <;> (cases chk (two _ x y) <;> rfl)
theorem ev_two_bad {E : Env} {t : Tr} {who : Int} (hk : isTwo t.kd = true) (h : t.kids.length ≠ 2) : ev E t who true = .err 9 := by
  apply ev_wrong
  rw [right_two hk]
  simp [h]
end Go.Proofs.YtcfeflkhmncmjaaGreatDoor
