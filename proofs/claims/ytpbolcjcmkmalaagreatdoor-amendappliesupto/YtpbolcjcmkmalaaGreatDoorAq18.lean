import Derived.Test.YtpbolcjcmkmalaaGreatDoorAq00
import Derived.Test.YtpbolcjcmkmalaaGreatDoorAq16
import Derived.Test.YtpbolcjcmkmalaaGreatDoorAq03
import Derived.Test.YtpbolcjcmkmalaaGreatDoorAq17
set_option maxHeartbeats 20000000
set_option maxRecDepth 20000
namespace Go.Proofs.YtpbolcjcmkmalaaGreatDoor
open Go.RowKit Go.Extern.Stop Go.Stop Go.Extern
def RpOut(P:Nat→Prop)(w:World)(T:It)(e:Ending)(w':World):Prop:=
 (∃v':Nat→Value,e=.returned (.agg #[v' 0,v' 1,v' 2,v' 3])∧Lies w' (fun k=>P k∨w.heap.size≤k) v' T)∧Below w.heap.size w w'
theorem RpAt.one{P:Nat→Prop}{w W1 wr W w':World}{t:It}{f:It→List It}{j:Nat}{K:Nat→Nat→Value}{sa:Option Addr}{sc:Nat}{L:List It}{x:Nat→Value}{y:It}{sv yv:Value}(hy:(t.kids.take (j+1)).flatMap f=L++[y])(hj:j<t.kids.length)(h:KRow P (w.heap.size+2) wr (.slice sa L.length sc) L K)(hb:Below (w.heap.size+2) W1 wr)(h2:w.heap.size+2≤wr.heap.size)(hA:Below wr.heap.size wr W)
 (hx:Lies W (fun k=>(Value.slice sa L.length sc).ownBlock≠some k∧(P k∨w.heap.size+2≤k)∧k<wr.heap.size) x y) (ho:w'.ownsRow (w.heap.size+2) 25 4 sv (L.length+1) (GA K L.length++[x 0,x 1,x 2,x 3])) (hg:W.grownBy w' (Value.slice sa L.length sc).ownBlock) (hw:sv.ownBlock=(Value.slice sa L.length sc).ownBlock∨sv.ownBlock=some W.heap.size) (hyv:yv=.int .i64 ((j+1:Nat):Int)):RpAt P w W1 t f sv yv w':=by
 have hp:=h.push hA hx ho hg hw
 obtain⟨ga,gc,rfl⟩:=tA ho
 refine⟨j+1,mD K L.length x,ga,gc,hj,hyv,?_,?_,?_⟩
 ·rw[hy,List.length_append];rfl
 ·rw[hy,List.length_append];exact hp
 ·exact(hb.trans (hA.mono h2)).grown hg (by have:=hA.size;omega) (fun k hk=>(h.row.lt k hk).1)
theorem KRow.old{P:Nat→Prop}{B1:Nat}{wr:World}{sv:Value}{L:List It}{K:Nat→Nat→Value}(h:KRow P B1 wr sv L K){w W:World}(hB:w.heap.size≤B1)(h1:w.heap.size≤wr.heap.size){x:Nat→Value}{y:It}(hx:Lies w P x y)(hb:Below w.heap.size w W):Lies W (fun k=>sv.ownBlock≠some k∧(P k∨B1≤k)∧k<wr.heap.size) x y:=
 hx.step fun b hb' hp=>⟨hb.block b hb',fun e=>by have:=(h.row.lt b e).1;omega,.inl hp,by omega⟩
theorem iS{w:World}{b o:Nat}{X:Nat→Value}(h:∀c,c<4→w.cell? ⟨b,o+c,none⟩=some (X c)):∀(j:Nat) (u:Value),[X 0,X 1,X 2,X 3][j]?=some u→w.cell? ((⟨b,o,none⟩:Addr).add j)=some u:=by
 intro j u hj
 rw[dC]
 match j,hj with
 |0,hj=>simp at hj;subst hj;exact h 0 (by omega)
 |1,hj=>simp at hj;subst hj;exact h 1 (by omega)
 |2,hj=>simp at hj;subst hj;exact h 2 (by omega)
 |3,hj=>simp at hj;subst hj;exact h 3 (by omega)
theorem tS{X:Nat→Value}(h:∀c,c<4→(X c).oneCell'=true):∀u∈[X 0,X 1,X 2,X 3],u.oneCell'=true:=by
 intro u hu
 simp at hu
 rcases hu with rfl|rfl|rfl|rfl<;>exact h _ (by omega)
theorem Lies.vals{w:World}{P:Nat→Prop}{v:Nat→Value}{t:It}(h:Lies w P v t){a b c d:Value}(h0:v 0=a)(h1:v 1=b)(h2:v 2=c)(h3:v 3=d):Lies w P (wA a b c d) t:=by
 subst h0 h1 h2 h3
 cases h with
 |mk _ _ la ka lc kc V g0 g1 g2 g3 hl hk hr hlc hkc=>exact .mk _ _ la ka lc kc V g0 g1 g2 g3 hl hk hr hlc hkc
theorem uR{W2 W:World}{n m k:Nat}(h:W2.heap.size=n)(h2:W.heap.size=W2.heap.size+k)(h3:m=n+k):m=W.heap.size:=by omega
theorem FSz(w:World)(n:Nat)(a x0 x1 x2 x3:Value)(b:Nat)(h1:b≠n)(h2:b≠n+1):
 (((((w.setCell ⟨n,3,none⟩ a).setCell ⟨n+1,0,none⟩ x0).setCell ⟨n+1,1,none⟩ x1).setCell ⟨n+1,2,none⟩ x2).setCell ⟨n+1,3,none⟩ x3).heap[b]?=w.heap[b]?:=by
 rw[Below.heap_setCell _ _ _ _ h2,Below.heap_setCell _ _ _ _ h2,Below.heap_setCell _ _ _ _ h2,Below.heap_setCell _ _ _ _ h2,Below.heap_setCell _ _ _ _ h1]
set_option maxRecDepth 10000 in
theorem WH(P:Nat→Prop)(xs:List It)(xa:Option Addr)(xc:Nat)(X:Nat→Nat→Value)(p:ByteArray)(r:List ByteArray)(n:Nat)(hP:∀k,P k→k<n)(hr:r.length≤4194304)
 (t:It) (v:Nat→Value) (w:World) (wa:Option Addr) (wc:Nat) (hn:n≤w.heap.size) (hL:Lies w P v t) (hw:WayIs w wa (p::r)) (hwc:r.length+1≤wc) (hX:XIs P w xa xs X) (hs:jA t≤4194304)
 (ih:0<r.length→∀(t:It) (v:Nat→Value) (w:World) (wa:Option Addr) (wc:Nat),n≤w.heap.size→Lies w P v t→WayIs w wa r→r.length≤wc→XIs P w xa xs X→jA t≤4194304→Calls Tryz.prog 46 #[.agg #[v 0,v 1,v 2,v 3],.slice wa r.length wc,.slice xa xs.length xc] w (RpOut P w (lB xs r t))):
 Calls Tryz.prog 46 #[.agg #[v 0,v 1,v 2,v 3],.slice wa (r.length+1) wc,.slice xa xs.length xc] w (RpOut P w (lB xs (p::r) t)):=by
 obtain⟨i0,iz,hi0,hi1,hi2,hi3,hi4⟩:=Tryz.infoItem
 have HI:=aA (aI hi0 (aI hi1 (aI hi2 (aI hi3 hi4))))
 clear hi0 hi1 hi2 hi3 hi4
 obtain⟨f0,f1,⟨la,lc,f2⟩,⟨ka,kc,f3⟩⟩:=hL.forms
 obtain⟨_,V,hk,hkr⟩:=hL.kidsAt f3
 have hkn:t.kids.length≤4194304:=by
  have h1:=uA t
  have h2:=kD t.kids
  omega
 have HSz:Hid (∀i x,t.kids[i]?=some x→jA x≤4194304):=fun i x hx=>by
  have h1:=uA t
  have h2:=lD (List.mem_of_getElem? hx)
  omega
 obtain⟨W1,hW1⟩:∃W1,W1=(w.alloc (.cells #[v 0,v 1,v 2,v 3] 25)).alloc (.cells #[.string ⟨#[]⟩,.string ⟨#[]⟩,.slice none 0 0,.slice none 0 0] 25):=⟨_,rfl⟩
 have ha:=OC w (.cells #[v 0,v 1,v 2,v 3] 25) (.cells #[.string ⟨#[]⟩,.string ⟨#[]⟩,.slice none 0 0,.slice none 0 0] 25)
 have hb1:Below w.heap.size w W1:=by rw[hW1];exact(bA _ _).alloc (by simp) _
 have hs1:W1.heap.size=w.heap.size+2:=by rw[hW1];simp
 rw[←hW1] at ha
 obtain⟨wb,wo,hwa,hwb,cw⟩:=hw.at_ 0 p rfl
 subst hwa
 have HL0:=aA hL
 have HK:=aA (aI hk hkr)
 have HWay:=aA hw
 have HX:=aA hX
 have HIH:=aA ih
 have HA:=aA ha
 have HB1:=aA hb1
 have HW1:=aA hW1
 have HCw:=aA cw
 have HR:=aA (jP xs p r t)
 rw[f0,f1,f2,f3] at HW1 HA
 have HV0:=aA (aI f0 (aI f1 (aI f2 f3)))
 rw[f0,f1,f2,f3]
 clear hL hk hkr hw hX ih ha hb1 hW1 f0 f1 f2 f3 cw hs
 obtain⟨kn,hknn⟩:∃kn,kn=t.kids.length:=⟨_,rfl⟩
 have HKn:=aA hknn
 obtain⟨rn,hrn⟩:∃rn,rn=r.length:=⟨_,rfl⟩
 have HRn:=aA hrn
 obtain⟨xn,hxn⟩:∃xn,xn=xs.length:=⟨_,rfl⟩
 have HXn:=aA hxn
 have hx1:xn≤1:=by rw[hxn];exact HX.out.one
 rw[←hknn] at HW1 HA hkn HV0
 rw[←hrn] at hr hwc
 rw[←hknn,←hrn,←hxn]
 clear hknn hrn hxn
 generalize hlb:t.label=lb at *
 generalize hhd:t.head=hh at *
 generalize hll:t.lines.length=ln at *
 have HLh:=aA (aI hlb hhd)
 clear hlb hhd hll
 go_enter Tryz.func46,Tryz.ntmps46
 go_upto_region 1 with fail
 rw[←HW1.out]
 clear HW1
 go_wp2_with fail
 go_loopw [7,8] (fun s y wr=>RpAt P w W1 t (VE xs p r) s y wr) (fun _ y _=>(kn - RowKit.intOf y).toNat)
 case atStart=>exact⟨0,fun _ _=>.bool false,none,0,Nat.zero_le _,rfl,rfl,KRow.nil _ _ _ _,Below.refl _ _⟩
 case round=>
  obtain⟨j,K,sa,sc,hj,rfl,rfl,hrow,hb⟩:=hrel
  obtain⟨L,hLL⟩:∃L,L=(t.kids.take j).flatMap (VE xs p r):=⟨_,rfl⟩
  have HLL:=aA hLL
  rw[←hLL] at hrow
  rw[←hLL]
  have hLn:L.length≤j:=by
   rw[hLL]
   have h1:=zH HX.out.one p r (t.kids.take j)
   rw[List.length_take] at h1
   omega
  clear hLL
  rw[←HKn.out] at hj
  have HRow:=aA hrow
  have HB:=aA hb
  have HBw:Hid (Below w.heap.size w wr):=HB1.out.trans (hb.mono (by omega))
  have hsw:=hb.size
  have HBx:Hid (wr.heap[w.heap.size]?=some (.cells #[.string lb,.string hh,.slice la ln lc,.slice ka kn kc] 25 (0,0))):=(hb.block w.heap.size (by omega)).trans HA.out.1
  have HRx:Hid (wr.heap[w.heap.size+1]?=some (.cells #[.string ⟨#[]⟩,.string ⟨#[]⟩,.slice none 0 0,.slice none 0 0] 25 (0,0))):=(hb.block (w.heap.size+1) (by omega)).trans HA.out.2
  obtain⟨y0,y1,y2,y3,yf⟩:=gA HBx.out
  obtain⟨Ln,hLn2⟩:∃Ln,Ln=L.length:=⟨_,rfl⟩
  have HLn:=aA hLn2
  rw[←hLn2] at hrow hLn
  rw[←hLn2]
  clear hrow hb hLn2
  by_cases hin:j<kn
  ·have hiz:(j:Int)<kn:=by omega
   have hjl:j<t.kids.length:=by rw[←HKn.out];exact hin
   obtain⟨x,hx⟩:∃x,t.kids[j]?=some x:=⟨_,List.getElem?_eq_getElem hjl⟩
   obtain⟨b,o,hka,_,cx⟩:=HK.out.1 j hjl
   have hbB:=dA (cx 0 (by omega))
   subst hka
   have HLx:=aA (HK.out.2 j x hx)
   obtain⟨u0,u1,⟨ua,uc,u2⟩,⟨uk,ukc,u3⟩⟩:=HLx.out.forms
   have hcc:=fun c (hc:c<4)=>(HBw.out.cell (p:=⟨b,o+j * 4+c,none⟩) (by show b<_;omega)).trans (cx c hc)
   have x0:wr.cell? ⟨b,o+j * 4,none⟩=some (V j 0):=hcc 0 (by omega)
   have x1:=hcc 1 (by omega)
   have x2:=hcc 2 (by omega)
   have x3:=hcc 3 (by omega)
   rw[u0] at x0
   rw[u1] at x1
   rw[u2] at x2
   rw[u3] at x3
   have HU:=aA (aI u0 (aI u1 (aI u2 u3)))
   have HFl:Hid ((t.kids.take (j+1)).flatMap (VE xs p r)=L++VE xs p r x):=by show _=_;rw[HLL.out];exact zF _ _ _ _ hx
   have HSx:=aA (HSz.out j x hx)
   have HLb:Hid (zE p x=(x.label.toList==p.toList)):=rfl
   clear hcc cx hx u0 u1 u2 u3
   generalize x.label=xl at *
   generalize x.head=xh at *
   generalize x.lines.length=xln at *
   generalize x.kids.length=xkn at *
   have hi0:(0:Int)<(rn:Int)+1:=by omega
   go_upto_region 6 with fail
   obtain⟨W2,hW2⟩:∃W2,W2=wr.alloc (.cells #[.string xl,.string xh,.slice ua xln uc,.slice uk xkn ukc] 25):=⟨_,rfl⟩
   have c1:=heap_alloc_new wr (.cells #[.string xl,.string xh,.slice ua xln uc,.slice uk xkn ukc] 25)
   have c2:=(Below.refl wr.heap.size wr).alloc (nR _) (.cells #[.string xl,.string xh,.slice ua xln uc,.slice uk xkn ukc] 25)
   have c3:(wr.alloc (.cells #[.string xl,.string xh,.slice ua xln uc,.slice uk xkn ukc] 25)).heap.size=wr.heap.size+1:=by simp
   rw[←hW2] at c1 c2 c3
   rw[←hW2]
   clear hW2
   have HC2:=aA c2
   have HBw2:Hid (Below w.heap.size w W2):=HBw.out.trans (c2.mono (by omega))
   obtain⟨k0,k1,k2,k3,kf⟩:=gA c1
   have cw2:W2.cell? ⟨wb,wo,none⟩=some (.string p):=(HBw2.out.cell (p:=⟨wb,wo+0,none⟩) (by show wb<_;omega)).trans HCw.out
   have HKD:Hid (∀W:World,(∀k,k<W2.heap.size→W.heap[k]?=W2.heap[k]?)→W.ownsRow (w.heap.size+2) 25 4 (.slice sa Ln sc) Ln (GA K Ln)):=fun W hW=>by
    have h3:=HRow.out.row
    rw[←HLn.out] at h3
    exact CA h3 fun k _ hk=>(hW k (by omega)).trans (c2.block k hk)
   clear c1 c2 x0 x1 x2 x3 y0 y1 y2 y3 yf
   cases hq:(xl.toList==p.toList)
   ·have HKF:Hid (VE xs p r x=[x]):=by show _=_;unfold VE;rw[HLb.out,hq];rfl
    have HNW:=aA (XD W2 (.string xl) (.string xh) (.slice ua xln uc) (.slice uk xkn ukc))
    have HOC:Hid (∀u∈[Value.string xl,.string xh,.slice ua xln uc,.slice uk xkn ukc],u.oneCell'=true):=by
     intro u hu
     simp at hu
     rcases hu with rfl|rfl|rfl|rfl<;>rfl
    go_quiet (fail)
    go_wp2_with (at_builtin;go_loud (refine AA _ rfl (.tmp 28) (.tmp 30) 23 rfl (w.heap.size+2) 25 i0 iz 4 80 Tryz.underlying23 HI.out.1 HI.out.2.1 HI.out.2.2.1 HI.out.2.2.2.1 HI.out.2.2.2.2 (by decide) (.slice sa Ln sc) Ln (GA K Ln) (by simp[Act.eval]) (HKD.out _ (fun k hk=>Below.heap_alloc W2 _ k hk)) ⟨W2.heap.size,0,none⟩ 1 1 [Value.string xl,.string xh,.slice ua xln uc,.slice uk xkn ukc] (by simp[Act.eval]) rfl HNW.out HOC.out (by decide) (by unfold maxLen;omega) (by omega) (by simp;omega) ?_))
    intro v' w' ho hg hw
    obtain⟨ga,ca,hv'⟩:=tA ho
    subst hv'
    have HH:=aA (aI ho (aI hg hw))
    clear ho hg hw
    go_wp2
    go_roundw
    case rel=>
     have e:=HLn.out
     subst e
     refine RpAt.one (W:=(W2.drewN nq).alloc (.cells #[.string xl,.string xh,.slice ua xln uc,.slice uk xkn ukc] 25)) (x:=wA (.string xl) (.string xh) (.slice ua xln uc) (.slice uk xkn ukc)) (y:=x) (HFl.out.trans (by rw[HKF.out])) hjl HRow.out HB.out (by omega) ((HC2.out.trans ((mJ W2 nq).mono (by omega))).alloc (by show _≤W2.heap.size;omega) _) ?_ HH.out.1 HH.out.2.1 (HH.out.2.2.imp id fun h=>h.trans (congrArg some (uR (k:=1) c3 (by rw[World.size_alloc];rfl) rfl))) (by go_num)
     have hx5:Lies w P (wA (.string xl) (.string xh) (.slice ua xln uc) (.slice uk xkn ukc)) x:=HLx.out.vals HU.out.1 HU.out.2.1 HU.out.2.2.1 HU.out.2.2.2
     exact HRow.out.old (by omega) (by omega) hx5 ((HBw2.out.trans ((mJ W2 nq).mono HBw2.out.size)).alloc (by show _≤W2.heap.size;omega) _)
    case measure=>simp[RowKit.intOf];omega
   ·have HQ:=aA hq
    by_cases hr0:rn=0
    ·have HR0:=aA hr0
     have HKF:Hid (VE xs p r x=xs):=by
      show _=_
      have hrr:r=[]:=List.eq_nil_of_length_eq_zero (HRn.out.symm.trans HR0.out)
      unfold VE
      rw[HLb.out,HQ.out,hrr];rfl
     have h01:((rn:Int)+1==1)=true:=by rw[hr0];rfl
     clear hr0
     by_cases hx0:xn=0
     ·subst hx0
      have HXs:Hid (xs=[]):=List.eq_nil_of_length_eq_zero HXn.out.symm
      have hcap:Ln≤sc:=zB (HKD.out W2 (fun _ _=>rfl))
      go_quiet (fail)
      go_wp2_with (at_builtin;go_loud (refine iF _ rfl (.tmp 35) (.tmp 36) 23 rfl 25 i0 Tryz.underlying23 HI.out.1 sa Ln sc hcap (by simp[Act.eval]) xa xc (by simp[Act.eval]) ?_))
      go_roundw
      case rel=>
       have e:=HLn.out
       subst e
       have hfl:=HFl.out.trans (by rw[HKF.out.trans HXs.out,List.append_nil]:_=L)
       refine⟨j+1,K,sa,sc,hjl,by go_num,by rw[hfl],?_,?_⟩
       ·rw[hfl]
        exact(HRow.out.on HC2.out).on (mJ W2 nq)
       ·exact HB.out.trans ((HC2.out.trans ((mJ W2 nq).mono (by omega))).mono (by omega))
      case measure=>simp[RowKit.intOf];omega
     ·obtain rfl:xn=1:=by omega
      obtain⟨y,hy⟩:∃y,xs=[y]:=List.length_eq_one_iff.1 HXn.out.symm
      obtain⟨xb,xo,hxa,hxb,cX⟩:=HX.out.at_ 0 (by rw[←HXn.out];omega)
      subst hxa
      have HLy:=aA (HX.out.li 0 y (by rw[hy];rfl))
      have HY:=aA hy
      have HNW:Hid (∀(j:Nat) (u:Value),[X 0 0,X 0 1,X 0 2,X 0 3][j]?=some u→W2.cell? ((⟨xb,xo,none⟩:Addr).add j)=some u):=iS fun c hc=>by
       have h5:=(HBw2.out.cell (p:=⟨xb,xo+0 * 4+c,none⟩) (by show xb<_;omega)).trans (cX c hc)
       rw[Nat.zero_mul,Nat.add_zero] at h5
       exact h5
      have HOC:=aA (tS HLy.out.one)
      clear cX hy
      go_quiet (fail)
      go_wp2_with (at_builtin;go_loud (refine AA _ rfl (.tmp 35) (.tmp 36) 23 rfl (w.heap.size+2) 25 i0 iz 4 80 Tryz.underlying23 HI.out.1 HI.out.2.1 HI.out.2.2.1 HI.out.2.2.2.1 HI.out.2.2.2.2 (by decide) (.slice sa Ln sc) Ln (GA K Ln) (by simp[Act.eval]) (HKD.out _ (fun k hk=>rfl)) ⟨xb,xo,none⟩ 1 xc [X 0 0,X 0 1,X 0 2,X 0 3] (by simp[Act.eval]) rfl HNW.out HOC.out (by decide) (by unfold maxLen;omega) (by omega) (by simp;omega) ?_))
      intro v' w' ho hg hw
      obtain⟨ga,ca,hv'⟩:=tA ho
      subst hv'
      have HH:=aA (aI ho (aI hg hw))
      clear ho hg hw
      go_wp2
      go_roundw
      case rel=>
       have e:=HLn.out
       subst e
       refine RpAt.one (W:=W2.drewN nq) (x:=X 0) (y:=y) (HFl.out.trans (by rw[HKF.out,HY.out])) hjl HRow.out HB.out (by omega) (HC2.out.trans ((mJ W2 nq).mono (by omega))) ?_ HH.out.1 HH.out.2.1 (HH.out.2.2.imp id fun h=>h.trans (congrArg some (uR (W:=W2.drewN nq) (k:=0) c3 rfl rfl))) (by go_num)
       exact HRow.out.old (by omega) (by omega) HLy.out (HBw2.out.trans ((mJ W2 nq).mono HBw2.out.size))
      case measure=>simp[RowKit.intOf];omega
    ·have h01:((rn:Int)+1==1)=false:=by rw[beq_eq_false_iff_ne];omega
     obtain⟨wd,rfl⟩:∃wd,wc=wd+1:=⟨wc - 1,by omega⟩
     have HKF:Hid (VE xs p r x=[lB xs r x]):=by
      show _=_
      obtain⟨q,r',hrr⟩:∃q r',r=q::r':=List.exists_cons_of_length_pos (by rw[←HRn.out];omega)
      unfold VE
      rw[HLb.out,HQ.out,hrr];rfl
     have HC:Hid (∀W:World,Below W2.heap.size W2 W→Calls Tryz.prog 46 #[.agg #[.string xl,.string xh,.slice ua xln uc,.slice uk xkn ukc],.slice (if wd=0 then some ⟨wb,wo,none⟩ else some ⟨wb,wo+1,none⟩) rn wd,.slice xa xn xc] W (RpOut P W (lB xs r x))):=fun W hW=>by
      have hw5:Below w.heap.size w W:=HBw2.out.trans (hW.mono (by have:=HBw2.out.size;omega))
      rw[if_neg (by omega),HRn.out,HXn.out]
      have h5:=HIH.out (by rw[←HRn.out];omega) x (wA (.string xl) (.string xh) (.slice ua xln uc) (.slice uk xkn ukc)) W (some ⟨wb,wo+1,none⟩) wd (by have:=hw5.size;omega) ((HLx.out.vals HU.out.1 HU.out.2.1 HU.out.2.2.1 HU.out.2.2.2).bel hw5) ⟨fun i s hs=>?_⟩ (by rw[←HRn.out];omega) (HX.out.on hw5) HSx.out
      ·exact h5
      ·obtain⟨b',o',e1,e2,e3⟩:=HWay.out.at_ (i+1) s hs
       injection e1 with e1
       injection e1 with e4 e5
       subst e4 e5
       refine⟨wb,wo+1,rfl,Nat.lt_of_lt_of_le e2 hw5.size,?_⟩
       rw[show wo+1+i=wo+(i+1) by omega]
       exact(hw5.cell (p:=⟨wb,wo+(i+1),none⟩) e2).trans e3
     have hi3:(1:Int)≤(rn:Int)+1:=by omega
     have hi4:(rn:Int)+1≤(wd:Int)+1:=by omega
     obtain⟨wx,hwx⟩:∃wx,(if wd=0 then some (⟨wb,wo,none⟩:Addr) else some ⟨wb,wo+1,none⟩)=wx:=⟨_,rfl⟩
     rw[hwx] at HC
     obtain⟨TT,hTT⟩:∃TT,TT=lB xs r x:=⟨_,rfl⟩
     rw[←hTT] at HC HKF
     clear hTT hr0
     go_quiet (fail)
     go_wp2_with fail
     go_region_law
      (first
        |(go_simp
          go_at_call 46
          refine(HC.out _ ?_).mono ?_
          ·exact⟨rfl,rfl,rfl,nR _,fun _ _=>rfl⟩
          rintro e w5 ⟨⟨v5,rfl,hL5⟩,hb5⟩
          have HL5:Hid (Lies w5 (fun k=>P k∨W2.heap.size≤k) v5 TT):=hL5
          have HB5:Hid (Below W2.heap.size W2 w5):=⟨hb5.1,hb5.2,hb5.3,hb5.4,hb5.5⟩
          obtain⟨f0,f1,⟨fa,fc,f2⟩,⟨ga5,gd,f3⟩⟩:=hL5.forms
          rw[f0,f1,f2,f3]
          have HF5:=aA (aI f0 (aI f1 (aI f2 f3)))
          clear hL5 hb5 f0 f1 f2 f3
          generalize TT.label=o0 at *
          generalize TT.head=o1 at *
          generalize TT.lines.length=o2 at *
          generalize TT.kids.length=o3 at *
          have HNW:=aA (XD w5 (.string o0) (.string o1) (.slice fa o2 fc) (.slice ga5 o3 gd))
          have HOC:Hid (∀u∈[Value.string o0,.string o1,.slice fa o2 fc,.slice ga5 o3 gd],u.oneCell'=true):=by
           intro u hu
           simp at hu
           rcases hu with rfl|rfl|rfl|rfl<;>rfl
          have hs5:W2.heap.size≤w5.heap.size:=HB5.out.size)
        |(refine nD rfl (.tmp 38) (.tmp 44) 23 rfl (w.heap.size+2) 25 i0 iz 4 80 Tryz.underlying23 HI.out.1 HI.out.2.1 HI.out.2.2.1 HI.out.2.2.2.1 HI.out.2.2.2.2 (by decide) (.slice sa Ln sc) Ln (GA K Ln) (by first|(simp[Act.eval];done)|simp[Act.eval,Act.put]) (HKD.out _ (fun k hk=>(Below.heap_alloc w5 _ k (by omega)).trans (HB5.out.block k hk))) ⟨w5.heap.size,0,none⟩ 1 1 [Value.string o0,.string o1,.slice fa o2 fc,.slice ga5 o3 gd] (by first|(simp[Act.eval];done)|simp[Act.eval,Act.put]) rfl HNW.out HOC.out (by decide) (by unfold maxLen;omega) (by omega) (by simp;omega) ?_
          intro v' w' ho hg hw
          obtain⟨ga,ca,hv'⟩:=tA ho
          subst hv'
          have HH:=aA (aI ho (aI hg hw))
          clear ho hg hw))
     all_goals
      go_wp2
      go_roundw
      case rel=>
       have e:=HLn.out
       subst e
       refine RpAt.one (wr:=w5) (W:=w5.alloc (.cells #[.string o0,.string o1,.slice fa o2 fc,.slice ga5 o3 gd] 25)) (x:=wA (.string o0) (.string o1) (.slice fa o2 fc) (.slice ga5 o3 gd)) (y:=TT) (HFl.out.trans (by rw[HKF.out])) hjl (HRow.out.on (HC2.out.trans (HB5.out.mono (by omega)))) (HB.out.trans ((HC2.out.trans (HB5.out.mono (by omega))).mono (by omega))) (by omega) (bA _ _) ?_ HH.out.1 HH.out.2.1 HH.out.2.2 (by go_num)
       refine(HL5.out.vals HF5.out.1 HF5.out.2.1 HF5.out.2.2.1 HF5.out.2.2.2).step fun b hb hp=>⟨Below.heap_alloc w5 _ b hb,fun e=>?_,hp.imp id (fun h=>by omega),hb⟩
       have h8:=HRow.out.row.lt b e
       rcases hp with hp|hp
       ·have:=hP b hp;omega
       ·omega
      case measure=>simp[RowKit.intOf];omega
  ·obtain rfl:j=kn:=by omega
   have hiz:¬(j:Int)<j:=by omega
   obtain⟨z0,z1,z2,z3,zf⟩:=gA HRx.out
   go_wp2
   refine bodyPost_ret (v:=.agg #[.string lb,.string hh,.slice la ln lc,.slice sa Ln sc]) (by simp[results,Tryz.results46,go_sem,z0,z1,z2,z3]) rfl ?_
   have eL:(t.kids.take j)=t.kids:=by rw[HKn.out];exact List.take_length
   have hLe:L=t.kids.flatMap (VE xs p r):=by rw[HLL.out,eL]
   refine⟨⟨wA (.string lb) (.string hh) (.slice la ln lc) (.slice sa Ln sc),rfl,?_⟩,?_⟩
   ·rw[HR.out,←hLe,←HLh.out.1,←HLh.out.2]
    have h5:=HRow.out.item (HL0.out.bel HBw.out) (fun k _ hp=>.inl hp) (u:=wA (.string lb) (.string hh) (.slice la ln lc) (.slice sa Ln sc)) HV0.out.1.symm HV0.out.2.1.symm HV0.out.2.2.1.symm (by rw[←HLn.out];rfl)
    rw[HLh.out.1,HLh.out.2] at h5 ⊢
    exact h5.step (P':=fun k=>P k∨w.heap.size≤k) fun b hb hp=>⟨FSz wr w.heap.size _ _ _ _ _ b (by rcases hp with hp|hp;have:=hP b hp;omega;omega) (by rcases hp with hp|hp;have:=hP b hp;omega;omega),hp.imp id (fun h=>by omega)⟩
   ·exact((((HBw.out.setCell (p:=⟨w.heap.size,3,none⟩) (nR _) _).setCell (p:=⟨w.heap.size+1,0,none⟩) (Nat.le_succ _) _).setCell (p:=⟨w.heap.size+1,1,none⟩) (Nat.le_succ _) _).setCell (p:=⟨w.heap.size+1,2,none⟩) (Nat.le_succ _) _).setCell (p:=⟨w.heap.size+1,3,none⟩) (Nat.le_succ _) _
theorem RpOut.imp{P Q:Nat→Prop}{w:World}{T:It}{e:Ending}{w':World}(h:RpOut P w T e w')(hPQ:∀k,P k→Q k):RpOut Q w T e w':=by
 obtain⟨⟨v',e1,hl⟩,hb⟩:=h
 exact⟨⟨v',e1,hl.step fun b _ hp=>⟨rfl,hp.imp (hPQ b) id⟩⟩,hb⟩
theorem CN(P:Nat→Prop)(xs:List It)(xa:Option Addr)(xc:Nat)(X:Nat→Nat→Value)(n:Nat)(hP:∀k,P k→k<n):∀(r:List ByteArray) (p:ByteArray) (t:It) (v:Nat→Value) (w:World) (wa:Option Addr) (wc:Nat),n≤w.heap.size→Lies w P v t→WayIs w wa (p::r)→r.length+1≤wc→r.length≤4194304→XIs P w xa xs X→jA t≤4194304→
 Calls Tryz.prog 46 #[.agg #[v 0,v 1,v 2,v 3],.slice wa (r.length+1) wc,.slice xa xs.length xc] w (RpOut P w (lB xs (p::r) t)):=by
 intro r
 induction r with
 |nil=>
  intro p t v w wa wc hn hL hw hwc hr hX hs
  exact WH P xs xa xc X p [] n hP hr t v w wa wc hn hL hw hwc hX hs (fun h=>absurd h (Nat.lt_irrefl 0))
 |cons q r ih=>
  intro p t v w wa wc hn hL hw hwc hr hX hs
  have hr':r.length+1≤4194304:=hr
  exact WH P xs xa xc X p (q::r) n hP hr t v w wa wc hn hL hw hwc hX hs (fun _ t v w wa wc hn hL hw hwc hX hs=>ih q t v w wa wc hn hL hw hwc (by omega) hX hs)
theorem KF(P:Nat→Prop)(xs:List It)(xa:Option Addr)(xc:Nat)(X:Nat→Nat→Value)(r:List ByteArray)(p:ByteArray)(t:It)(v:Nat→Value)(w:World)(wa:Option Addr)(wc:Nat)(hL:Lies w P v t)(hw:WayIs w wa (p::r))(hwc:r.length+1≤wc)(hr:r.length≤4194304)(hX:XIs P w xa xs X)(hs:jA t≤4194304):
 Calls Tryz.prog 46 #[.agg #[v 0,v 1,v 2,v 3],.slice wa (r.length+1) wc,.slice xa xs.length xc] w (RpOut P w (lB xs (p::r) t)):=
 (CN (fun k=>P k∧k<w.heap.size) xs xa xc X w.heap.size (fun _ h=>h.2) r p t v w wa wc (nR _) hL.inn hw hwc hr ⟨hX.one,hX.at_,fun i y hy=>(hX.li i y hy).inn⟩ hs).mono fun _ _ h=>h.imp fun _ hk=>hk.1
end Go.Proofs.YtpbolcjcmkmalaaGreatDoor
