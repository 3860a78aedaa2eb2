import Derived.Test.YtpbolcjcmkmalaaGreatDoorAq00
import Derived.Test.YtpbolcjcmkmalaaGreatDoorAq04
import Derived.Test.YtpbolcjcmkmalaaGreatDoorAq03
import Derived.Test.YtpbolcjcmkmalaaGreatDoorAq01
set_option maxHeartbeats 20000000
set_option maxRecDepth 20000
namespace Go.Proofs.YtpbolcjcmkmalaaGreatDoor
open Go.RowKit Go.Extern.Stop Go.Stop Go.Extern
def iB(s:ByteArray):Bool:=decide (300<s.size)
noncomputable def badB (s:ByteArray):Bool:=!lineB s
theorem TI(s:ByteArray)(hs:s.size≤1000000)(w:World):Calls Tryz.prog 97 #[.string s] w fun e w'=>e=.returned (.bool (iB s))∧w'=w:=by
 have hb:iB s=decide ((300:Int)<(s.size:Int)):=by unfold iB;rw[decide_eq_decide];omega
 rw[hb]
 clear hb
 go_enter Tryz.func97,Tryz.ntmps97
 go_wp2
 go_ret
 exact⟨rfl,rfl⟩
theorem oN(s:ByteArray)(hs:s.size≤1000000)(w:World):Calls Tryz.prog 97 #[.string s] w fun e w'=>e=.returned (.bool (iB s))∧Below w.heap.size w w':=
 (TI s hs w).mono fun e w' ⟨h1,h2⟩=>⟨h1,by rw[h2];exact Below.refl _ _⟩
theorem YN(s:ByteArray)(hs:s.size≤1000000)(w:World):Calls Tryz.prog 102 #[.string s] w fun e w'=>e=.returned (.bool (badB s))∧Below w.heap.size w w':=by
 have HC:=aA (UE s (by omega) w)
 unfold badB
 generalize lineB s=b at *
 go_enter Tryz.func102,Tryz.ntmps102
 go_wp2_with fail
 refine HC.out.mono ?_
 rintro e w1 ⟨rfl,hb1⟩
 have HB:=aA hb1
 clear hb1
 go_wp2
 go_ret
 exact⟨rfl,HB.out⟩
theorem KO(n:Nat)(la:Option Addr)(lc:Nat)(L:Nat→ByteArray)(w:World)(hn:n≤100000)(hL:∀i,i<n→(L i).size≤1000000)(hk:∀i,i<n→∃b o,la=some ⟨b,o,none⟩∧w.cell? ⟨b,o+i,none⟩=some (.string (L i))):
 Calls Tryz.prog 121 #[.slice la n lc,.func (.func 97) #[] #[]] w fun e w'=>(∃k:Int,e=.returned (.int .i64 k)∧-1≤k∧(0≤k↔∃i,i<n∧iB (L i)=true))∧Below w.heap.size w w':=by
 go_enter Tryz.func121,Tryz.ntmps121
 go_wp2_with fail
 go_loopw [8] (fun t wr=>∃i:Nat,i≤n∧t=.int .i64 i∧Below w.heap.size w wr∧∀j,j<i→iB (L j)=false) (fun t _=>(n - RowKit.intOf t).toNat)
 case atStart=>exact⟨0,by omega,rfl,Below.refl _ _,fun j hj=>by omega⟩
 case round=>
  obtain⟨i,hi,rfl,hb,hno⟩:=hrel
  have HB:=aA hb
  have HN:=aA hno
  clear hb hno
  by_cases hin:i<n
  ·obtain⟨b,o,rfl,c0⟩:=hk i hin
   have hiz:(i:Int)<n:=by omega
   have d0:=(HB.out.cell (p:=⟨b,o+i,none⟩) (dA c0)).trans c0
   have HC:=aA (fun W=>oN (L i) (hL i hin) W)
   have HK:=aA hk
   clear c0 hk
   cases hq:iB (L i)
   ·rw[hq] at HC
    have HQ:=aA hq
    clear hq
    go_wp2_with fail
    refine(HC.out wr).mono ?_
    rintro e w1 ⟨rfl,hb1⟩
    have HB1:=aA (HB.out.trans (hb1.mono HB.out.size))
    clear hb1
    go_wp2
    go_roundw
    case rel=>
     refine⟨i+1,by omega,by go_num,HB1.out,fun j hj=>?_⟩
     rcases Nat.lt_or_ge j i with h|h
     ·exact HN.out j h
     ·obtain rfl:j=i:=by omega
      exact HQ.out
    case measure=>simp[RowKit.intOf];omega
   ·rw[hq] at HC
    have HQ:=aA hq
    clear hq
    go_wp2_with fail
    refine(HC.out wr).mono ?_
    rintro e w1 ⟨rfl,hb1⟩
    have HB1:=aA (HB.out.trans (hb1.mono HB.out.size))
    clear hb1
    go_wp2
    go_ret
    exact⟨⟨i,rfl,by omega,⟨fun _=>⟨i,hin,HQ.out⟩,fun _=>by omega⟩⟩,HB1.out⟩
  ·obtain rfl:i=n:=by omega
   clear hk
   go_wp2
   go_ret
   refine⟨⟨-1,rfl,by omega,⟨fun h=>by omega,?_⟩⟩,HB.out⟩
   rintro ⟨j,hj,hq⟩
   have:=HN.out j hj
   rw[this] at hq
   cases hq
theorem JO(ls:List ByteArray)(la:Option Addr)(lc:Nat)(w:World)(hn:ls.length≤100000)(hL:∀s∈ls,s.size≤1000000)(hk:∀i s,ls[i]?=some s→∃b o,la=some ⟨b,o,none⟩∧w.cell? ⟨b,o+i,none⟩=some (.string s)):
 Calls Tryz.prog 98 #[.slice la ls.length lc,.func (.func 97) #[] #[]] w fun e w'=>e=.returned (.bool (ls.any iB))∧Below w.heap.size w w':=by
 have HC:=aA (KO ls.length la lc (fun i=>ls.getD i ⟨#[]⟩) w hn (fun i hi=>hL _ (by rw[List.getD_eq_getElem?_getD,List.getElem?_eq_getElem hi];exact List.getElem_mem hi)) (fun i hi=>by
  obtain⟨b,o,h1,h2⟩:=hk i _ (List.getElem?_eq_getElem hi)
  refine⟨b,o,h1,?_⟩
  rw[List.getD_eq_getElem?_getD,List.getElem?_eq_getElem hi]
  exact h2))
 have HA:Hid (∀k:Int,(0≤k↔∃i,i<ls.length∧iB (ls.getD i ⟨#[]⟩)=true)→decide (0≤k)=ls.any iB):=fun k hk=>by
  rw[Bool.eq_iff_iff,decide_eq_true_iff,hk,List.any_eq_true]
  constructor
  ·rintro ⟨i,hi,h⟩
   rw[List.getD_eq_getElem?_getD,List.getElem?_eq_getElem hi] at h
   exact⟨ls[i],List.getElem_mem hi,h⟩
  ·rintro ⟨x,hx,h⟩
   obtain⟨i,hi,rfl⟩:=List.getElem_of_mem hx
   refine⟨i,hi,?_⟩
   rw[List.getD_eq_getElem?_getD,List.getElem?_eq_getElem hi]
   exact h
 clear hk hL
 generalize ls.length=n at *
 generalize ls.any iB=an at *
 go_enter Tryz.func98,Tryz.ntmps98
 go_wp2_with fail
 refine HC.out.mono ?_
 rintro e w1 ⟨⟨k,rfl,hk1,hk2⟩,hb1⟩
 have H2:=aA (HA.out k hk2)
 have HB:=aA hb1
 clear hk2 hb1
 go_wp2
 go_ret
 exact⟨rC H2.out,HB.out⟩
theorem ZP(n:Nat)(la:Option Addr)(lc:Nat)(L:Nat→ByteArray)(w:World)(hn:n≤100000)(hL:∀i,i<n→(L i).size≤1000000)(hk:∀i,i<n→∃b o,la=some ⟨b,o,none⟩∧w.cell? ⟨b,o+i,none⟩=some (.string (L i))):
 Calls Tryz.prog 121 #[.slice la n lc,.func (.func 102) #[] #[]] w fun e w'=>(∃k:Int,e=.returned (.int .i64 k)∧-1≤k∧(0≤k↔∃i,i<n∧badB (L i)=true))∧Below w.heap.size w w':=by
 go_enter Tryz.func121,Tryz.ntmps121
 go_wp2_with fail
 go_loopw [8] (fun t wr=>∃i:Nat,i≤n∧t=.int .i64 i∧Below w.heap.size w wr∧∀j,j<i→badB (L j)=false) (fun t _=>(n - RowKit.intOf t).toNat)
 case atStart=>exact⟨0,by omega,rfl,Below.refl _ _,fun j hj=>by omega⟩
 case round=>
  obtain⟨i,hi,rfl,hb,hno⟩:=hrel
  have HB:=aA hb
  have HN:=aA hno
  clear hb hno
  by_cases hin:i<n
  ·obtain⟨b,o,rfl,c0⟩:=hk i hin
   have hiz:(i:Int)<n:=by omega
   have d0:=(HB.out.cell (p:=⟨b,o+i,none⟩) (dA c0)).trans c0
   have HC:=aA (fun W=>YN (L i) (hL i hin) W)
   have HK:=aA hk
   clear c0 hk
   cases hq:badB (L i)
   ·rw[hq] at HC
    have HQ:=aA hq
    clear hq
    go_wp2_with fail
    refine(HC.out wr).mono ?_
    rintro e w1 ⟨rfl,hb1⟩
    have HB1:=aA (HB.out.trans (hb1.mono HB.out.size))
    clear hb1
    go_wp2
    go_roundw
    case rel=>
     refine⟨i+1,by omega,by go_num,HB1.out,fun j hj=>?_⟩
     rcases Nat.lt_or_ge j i with h|h
     ·exact HN.out j h
     ·obtain rfl:j=i:=by omega
      exact HQ.out
    case measure=>simp[RowKit.intOf];omega
   ·rw[hq] at HC
    have HQ:=aA hq
    clear hq
    go_wp2_with fail
    refine(HC.out wr).mono ?_
    rintro e w1 ⟨rfl,hb1⟩
    have HB1:=aA (HB.out.trans (hb1.mono HB.out.size))
    clear hb1
    go_wp2
    go_ret
    exact⟨⟨i,rfl,by omega,⟨fun _=>⟨i,hin,HQ.out⟩,fun _=>by omega⟩⟩,HB1.out⟩
  ·obtain rfl:i=n:=by omega
   clear hk
   go_wp2
   go_ret
   refine⟨⟨-1,rfl,by omega,⟨fun h=>by omega,?_⟩⟩,HB.out⟩
   rintro ⟨j,hj,hq⟩
   have:=HN.out j hj
   rw[this] at hq
   cases hq
theorem YP(ls:List ByteArray)(la:Option Addr)(lc:Nat)(w:World)(hn:ls.length≤100000)(hL:∀s∈ls,s.size≤1000000)(hk:∀i s,ls[i]?=some s→∃b o,la=some ⟨b,o,none⟩∧w.cell? ⟨b,o+i,none⟩=some (.string s)):
 Calls Tryz.prog 98 #[.slice la ls.length lc,.func (.func 102) #[] #[]] w fun e w'=>e=.returned (.bool (ls.any badB))∧Below w.heap.size w w':=by
 have HC:=aA (ZP ls.length la lc (fun i=>ls.getD i ⟨#[]⟩) w hn (fun i hi=>hL _ (by rw[List.getD_eq_getElem?_getD,List.getElem?_eq_getElem hi];exact List.getElem_mem hi)) (fun i hi=>by
  obtain⟨b,o,h1,h2⟩:=hk i _ (List.getElem?_eq_getElem hi)
  refine⟨b,o,h1,?_⟩
  rw[List.getD_eq_getElem?_getD,List.getElem?_eq_getElem hi]
  exact h2))
 have HA:Hid (∀k:Int,(0≤k↔∃i,i<ls.length∧badB (ls.getD i ⟨#[]⟩)=true)→decide (0≤k)=ls.any badB):=fun k hk=>by
  rw[Bool.eq_iff_iff,decide_eq_true_iff,hk,List.any_eq_true]
  constructor
  ·rintro ⟨i,hi,h⟩
   rw[List.getD_eq_getElem?_getD,List.getElem?_eq_getElem hi] at h
   exact⟨ls[i],List.getElem_mem hi,h⟩
  ·rintro ⟨x,hx,h⟩
   obtain⟨i,hi,rfl⟩:=List.getElem_of_mem hx
   refine⟨i,hi,?_⟩
   rw[List.getD_eq_getElem?_getD,List.getElem?_eq_getElem hi]
   exact h
 clear hk hL
 generalize ls.length=n at *
 generalize ls.any badB=an at *
 go_enter Tryz.func98,Tryz.ntmps98
 go_wp2_with fail
 refine HC.out.mono ?_
 rintro e w1 ⟨⟨k,rfl,hk1,hk2⟩,hb1⟩
 have H2:=aA (HA.out k hk2)
 have HB:=aA hb1
 clear hk2 hb1
 go_wp2
 go_ret
 exact⟨rC H2.out,HB.out⟩
def OB(t:It):Bool:=decide (40<t.lines.length)||(iB t.head||t.lines.any iB)
noncomputable def labelOk (d:Nat) (ah:List It) (t:It):Bool:=if d=0 then decide (t.label.size=0) else isLab t.label&&!(ah.any fun k=>k.label.toList==t.label.toList)
noncomputable def textsOk (t:It):Bool:=lineB t.head&&!(t.lines.any badB)
inductive VOut where
 |bad (c:Nat)
 |ok (n:Nat)
mutual
noncomputable def vIt:Nat→Nat→List It→It→VOut
 |d,n,ah,.mk a b c k=>if 6<d∨300<n∨OB (.mk a b c k)=true then .bad 2 else if labelOk d ah (.mk a b c k)=false then .bad 7 else if textsOk (.mk a b c k)=false then .bad 1 else vKs d n [] k
noncomputable def vKs:Nat→Nat→List It→List It→VOut
 |_,n,_,[]=>.ok n
 |d,n,ah,t::r=>match vIt (d+1) (n+1) ah t with
  | .bad c=>.bad c
  | .ok m=>vKs d m (ah++[t]) r
end
theorem MJ(d n:Nat)(ah:List It)(t:It):vIt d n ah t=if 6<d∨300<n∨OB t=true then .bad 2 else if labelOk d ah t=false then .bad 7 else if textsOk t=false then .bad 1 else vKs d n [] t.kids:=by
 cases t;rw[vIt];rfl
inductive FewIt:It→Prop
 |mk (t:It) (h1:t.lines.length≤1000) (h2:t.kids.length≤1000) (h3:∀s∈t.lines,s.size≤1000000) (h4:t.head.size≤1000000) (h5:t.label.size≤1000000) (h6:∀k∈t.kids,FewIt k):FewIt t
theorem FewIt.get{t:It}(h:FewIt t):t.lines.length≤1000∧t.kids.length≤1000∧(∀s∈t.lines,s.size≤1000000)∧t.head.size≤1000000∧t.label.size≤1000000∧∀k∈t.kids,FewIt k:=by
 cases h with
 |mk _ h1 h2 h3 h4 h5 h6=>exact⟨h1,h2,h3,h4,h5,h6⟩
theorem GF:∀{l:List ByteArray} {s:ByteArray},s∈l→s.size / 400≤yA l
 |a::r,s,h=>by
  rw[yA]
  rcases List.mem_cons.1 h with rfl|h
  ·omega
  ·have:=GF h;omega
theorem xG:∀(l:List It) (d n:Nat),QA d n l≤400→n≤400∧l.length+n≤400+n∧∀k∈l,YA (d+1) k≤400
 | [],d,n,h=>by rw[QA] at h;exact⟨h,by simp,fun k hk=>by cases hk⟩
 |t::r,d,n,h=>by
  rw[QA] at h
  split at h
  ·have h1:=xG r d _ h
   refine⟨by omega,?_,?_⟩
   ·have h5:∀(l:List It) (n:Nat),QA d n l≤400→l.length+n≤400:=by
     intro l
     induction l with
     |nil=>intro n hn;rw[QA] at hn;simpa using hn
     |cons k q ih=>
      intro n hn
      rw[QA] at hn
      split at hn
      ·have h6:=ih _ hn
       have h7:1≤YA (d+1) k:=by
        rw[TC]
        split
        ·omega
        ·have h8:∀(l:List It) (n:Nat),n≤QA (d+1) n l:=by
          intro l
          induction l with
          |nil=>intro n;rw[QA];exact nR _
          |cons x y iy=>
           intro n
           rw[QA]
           split
           ·have:=iy (n+YA (d+1+1) x);omega
           ·exact nR _
         have:=h8 k.kids (1+k.lines.length+(k.head.size+k.label.size) / 400+yA k.lines)
         omega
       rw[List.length_cons]
       omega
      ·omega
    have:=h5 (t::r) n (by rw[QA,if_pos (by omega)];exact h)
    omega
   ·intro k hk
    rcases List.mem_cons.1 hk with rfl|hk
    ·have:=h1.1;omega
    ·exact h1.2.2 k hk
  ·omega
theorem tH:∀(N:Nat) (t:It),jA t≤N→∀d,YA d t≤400→FewIt t
 |0,t,h,d,_=>by have:=uA t;omega
 |N+1,t,h,d,hs=>by
  rw[TC] at hs
  split at hs
  ·omega
  ·obtain⟨h1,h2,h3⟩:=xG _ _ _ hs
   refine .mk t (by omega) (by omega) (fun s hs=>?_) (by omega) (by omega) (fun k hk=>tH N k (by have:=rB hk;omega) (d+1) (h3 k hk))
   have:=GF hs
   omega
theorem LP:∀(l:List It) (d n:Nat) (ah:List It) (m:Nat),(∀k∈l,∀d n ah m,vIt d n ah k=.ok m→m≤300)→n≤300→vKs d n ah l=.ok m→m≤300
 | [],d,n,ah,m,_,hn,h=>by rw[vKs] at h;injection h with h;omega
 |t::r,d,n,ah,m,hk,hn,h=>by
  rw[vKs] at h
  split at h
  ·cases h
  ·rename_i m' hm'
   exact LP r d m' _ m (fun k hx=>hk k (List.mem_cons_of_mem _ hx)) (hk t (by simp) _ _ _ _ hm') h
theorem JP:∀(N:Nat) (t:It),jA t≤N→∀d n ah m,vIt d n ah t=.ok m→m≤300
 |0,t,h,d,n,ah,m,_=>by have:=uA t;omega
 |N+1,t,h,d,n,ah,m,hv=>by
  rw[MJ] at hv
  split at hv
  ·cases hv
  ·rename_i hc
   split at hv
   ·cases hv
   ·split at hv
    ·cases hv
    ·exact LP t.kids d n [] m (fun k hk=>JP N k (by have:=rB hk;omega)) (by omega) hv
theorem NP{d n i:Nat}{l:List It}{t:It}(h:l[i]?=some t):vKs d n (l.take i) (l.drop i)=match vIt (d+1) (n+1) (l.take i) t with| .bad c=>.bad c| .ok m=>vKs d m (l.take (i+1)) (l.drop (i+1)):=by
 obtain⟨hi,e⟩:=List.getElem?_eq_some_iff.1 h
 rw[List.drop_eq_getElem_cons hi,e,vKs,List.take_succ_eq_append_getElem hi,e]
theorem YQ{d n i:Nat}{ah l:List It}(h:l.length≤i):vKs d n ah (l.drop i)=.ok n:=by
 rw[List.drop_eq_nil_of_le h,vKs]
structure FRow where
 item:It
 deep:Nat
 nth:Nat
 up:List It
mutual
def NB:Nat→Nat→List It→It→List FRow
 |d,n,up,.mk a b c k=>⟨.mk a b c k,d,n,up⟩::BA (d+1) 0 k k
def BA:Nat→Nat→List It→List It→List FRow
 |_,_,_,[]=>[]
 |d,n,up,t::r=>NB d n up t++BA d (n+1) up r
end
theorem tC(d n:Nat)(up:List It)(t:It):NB d n up t=⟨t,d,n,up⟩::BA (d+1) 0 t.kids t.kids:=by
 cases t;rw[NB];rfl
noncomputable def rowE (i:Nat) (r:FRow):Nat:=
 if 6<r.deep∨300<i∨OB r.item=true then 2 else if labelOk r.deep (r.up.take r.nth) r.item=false then 7 else if textsOk r.item=false then 1 else 0
noncomputable def scanF:Nat→List FRow→VOut
 |i,[]=>.ok i
 |i,r::l=>if rowE i r=0 then scanF (i+1) l else .bad (rowE i r)
theorem cJ:∀(a b:List FRow) (i:Nat),scanF i (a++b)=match scanF i a with| .bad c=>.bad c| .ok m=>scanF m b
 | [],b,i=>by rw[scanF];rfl
 |r::l,b,i=>by
  rw[List.cons_append,scanF,scanF]
  split
  ·exact cJ l b (i+1)
  ·rfl
def dec:VOut→VOut
 | .bad c=>.bad c
 | .ok m=>.ok (m - 1)
def fT:VOut→VOut
 | .bad c=>.bad c
 | .ok m=>.ok (m+1)
theorem AM:∀(N:Nat) (t:It),jA t≤N→∀(d n k:Nat) (up:List It),scanF n (NB d k up t)=fT (vIt d n (up.take k) t)
 |0,t,h,d,n,k,up=>by have:=uA t;omega
 |N+1,t,h,d,n,k,up=>by
  have hks:∀(l all:List It) (m j:Nat),(∀x∈l,jA x≤N)→all.drop j=l→scanF (m+1) (BA (d+1) j all l)=fT (vKs d m (all.take j) l):=by
   intro l
   induction l with
   |nil=>intro all m j _ _;rw[BA,scanF,vKs];rfl
   |cons x r ih=>
    intro all m j hx hd
    have hj:all[j]?=some x:=by
     have:=congrArg (fun l=>l[0]?) hd
     simpa using this
    obtain⟨hjl,hje⟩:=List.getElem?_eq_some_iff.1 hj
    have hd2:all.drop (j+1)=r:=by
     rw[List.drop_eq_getElem_cons hjl] at hd
     injection hd
    rw[BA,cJ,AM N x (hx x (by simp)) (d+1) (m+1) j all,vKs]
    cases hv:vIt (d+1) (m+1) (all.take j) x with
    |bad c=>rfl
    |ok m'=>
     show scanF (m'+1) (BA (d+1) (j+1) all r)=fT (vKs d m' (all.take j++[x]) r)
     rw[ih all m' (j+1) (fun y hy=>hx y (List.mem_cons_of_mem _ hy)) hd2,List.take_succ_eq_append_getElem hjl,hje]
  rw[tC,scanF,MJ]
  have hE:rowE n ⟨t,d,k,up⟩=if 6<d∨300<n∨OB t=true then 2 else if labelOk d (up.take k) t=false then 7 else if textsOk t=false then 1 else 0:=rfl
  rw[hE]
  by_cases h1:6<d∨300<n∨OB t=true
  ·rw[if_pos h1,if_pos h1,if_neg (by decide)];rfl
  ·rw[if_neg h1,if_neg h1]
   by_cases h2:labelOk d (up.take k) t=false
   ·rw[if_pos h2,if_pos h2,if_neg (by decide)];rfl
   ·rw[if_neg h2,if_neg h2]
    by_cases h3:textsOk t=false
    ·rw[if_pos h3,if_pos h3,if_neg (by decide)];rfl
    ·rw[if_neg h3,if_neg h3,if_pos rfl]
     have:=hks t.kids t.kids n 0 (fun x hx=>by have:=rB hx;omega) (by rw[List.drop_zero])
     rw[this,List.take_zero]
theorem sP(t:It):scanF 0 (NB 0 0 [] t)=fT (vIt 0 0 [] t):=AM _ t (nR _) 0 0 0 []
end Go.Proofs.YtpbolcjcmkmalaaGreatDoor
