import Derived.Test.YtpbolcjcmkmalaaGreatDoorAq00
import Derived.Test.YtpbolcjcmkmalaaGreatDoorAq08
import Derived.Test.YtpbolcjcmkmalaaGreatDoorAq09
import Derived.Test.YtpbolcjcmkmalaaGreatDoorAq14
import Derived.Deep.RegionWith
set_option maxHeartbeats 20000000
set_option maxRecDepth 20000
namespace Go.Proofs.YtpbolcjcmkmalaaGreatDoor
open Go.RowKit Go.Extern.Stop Go.Stop Go.Extern
def aG(e:Ending)(w':World)(P:Nat→Prop):Option It→Prop
 |none=>e=.returned (.tuple #[.agg #[.string ⟨#[]⟩,.string ⟨#[]⟩,.slice none 0 0,.slice none 0 0],.bool false])
 |some t=>∃v:Nat→Value,e=.returned (.tuple #[.agg #[v 0,v 1,v 2,v 3],.bool true])∧Lies w' P v t
theorem wP{W:World}{g:Nat}{a b c d:Value}{T:TypeId}(h:W.heap[g]?=some (.cells #[a,b,c,d] T (0,0)))(x0 x1 x2 x3:Value):
 ((((W.setCell ⟨g,0,none⟩ x0).setCell ⟨g,1,none⟩ x1).setCell ⟨g,2,none⟩ x2).setCell ⟨g,3,none⟩ x3).heap[g]?=some (.cells #[x0,x1,x2,x3] T (0,0)):=by
 have h0:=heap_setCell_same W g 0 _ _ x0 h
 have h1:=heap_setCell_same _ g 1 _ _ x1 h0
 have h2:=heap_setCell_same _ g 2 _ _ x2 h1
 have h3:=heap_setCell_same _ g 3 _ _ x3 h2
 exact h3
theorem BL{r:List ByteArray}{i:Nat}{p:ByteArray}(h:r[i]?=some p):r.drop i=p::r.drop (i+1):=by
 obtain⟨hi,rfl⟩:=List.getElem?_eq_some_iff.1 h
 exact List.drop_eq_getElem_cons hi
def xU(w w2:World)(n0:Nat)(P:Nat→Prop)(t0:It)(parts:List ByteArray)(O:Option It)(y:Value)(wr:World):Prop:=
 ∃(i:Nat) (t:It) (v:Nat→Value) (r:List ByteArray),i≤parts.length∧y=.int .i64 i∧Lies w P v t∧eA t0 r=some t∧eA t (parts.drop i)=O∧wr.heap[n0]?=some (.cells #[v 0,v 1,v 2,v 3] 25 (0,0))∧BelX w2.heap.size n0 w2 wr
theorem JI:∀(r q:List ByteArray) (t x:It),eA t r=some x→eA t (r++q)=eA x q
 | [],q,t,x,h=>by rw[eA] at h;injection h with h;subst h;rfl
 |p::r,q,t,x,h=>by
  rw[List.cons_append]
  cases hk:iA t.kids p with
  |none=>rw[uH hk] at h;cases h
  |some i=>
   obtain⟨y,hy,_⟩:=SA hk
   rw[MB hk hy] at h ⊢
   exact JI r q y x h
theorem jB(s:ByteArray):(cA s).length≤s.size+1:=by
 unfold cA
 split
 ·simp
 ·rw[List.length_map]
  have:=UF (bl s)
  rw[oA] at this
  exact this
theorem LC{w:World}{B:Nat}{a:Option Addr}{n c:Nat}{ls:List ByteArray}{i:Nat}{s:ByteArray}(h:w.ownsRow B 9 1 (.slice a n c) ls.length (ls.map Value.string))(hs:ls[i]?=some s):∃g,a=some ⟨g,0,none⟩∧B≤g∧g<w.heap.size∧w.cell? ⟨g,i,none⟩=some (.string s):=by
 have hi:=(List.getElem?_eq_some_iff.1 hs).1
 rcases h.2 with ⟨_,h0⟩|⟨g,cap,cur,e1,hB,hg,_⟩
 ·omega
 ·injection e1 with e2 e3 e4
  subst e2
  have h5:=h.cells (g:=g) rfl i (.string s) (by rw[List.getElem?_map,hs];rfl)
  have h6:(⟨g,0,none⟩:Addr).add i=⟨g,i,none⟩:=by unfold Addr.add;split;rename_i h0;rw[h0];simp
  rw[h6] at h5
  exact⟨g,rfl,hB,lt_of_block hg,h5⟩
set_option maxRecDepth 10000 in
theorem AB(t0:It)(path:ByteArray)(hp:path.size≤100000)(hkn:∀t:It,(∃r,eA t0 r=some t)→t.kids.length≤4194304)(w:World)(P:Nat→Prop)(v0:Nat→Value)(hL0:Lies w P v0 t0):
 Calls Tryz.prog 39 #[.agg #[v0 0,v0 1,v0 2,v0 3],.string path] w fun e w'=>aG e w' P (eA t0 (cA path))∧Below w.heap.size w w':=by
 obtain⟨f0,f1,⟨la,lc,f2⟩,⟨ka,kc,f3⟩⟩:=hL0.forms
 obtain⟨W1,hW1⟩:∃W1,W1=(w.alloc (.cells #[v0 0,v0 1,v0 2,v0 3] 25)).alloc (.cells #[.string ⟨#[]⟩,.string ⟨#[]⟩,.slice none 0 0,.slice none 0 0] 25):=⟨_,rfl⟩
 have ha:=OC w (.cells #[v0 0,v0 1,v0 2,v0 3] 25) (.cells #[.string ⟨#[]⟩,.string ⟨#[]⟩,.slice none 0 0,.slice none 0 0] 25)
 have hb1:Below w.heap.size w W1:=by rw[hW1];exact(bA _ _).alloc (by simp) _
 have hs1:W1.heap.size=w.heap.size+2:=by rw[hW1];simp
 rw[←hW1] at ha
 have HPa:=aA (wC path hp W1)
 have HL0:=aA hL0
 have HKn:=aA hkn
 have HA:=aA ha
 have HB1:=aA hb1
 have HW1:=aA hW1
 have hF:eA t0 (cA path)=eA t0 (cA path):=rfl
 obtain⟨O,hO⟩:∃O,O=eA t0 (cA path):=⟨_,rfl⟩
 have HO:=aA hO
 rw[←hO]
 rw[f0,f1,f2,f3] at HW1 HA
 have HV0:=aA (aI f0 (aI f1 (aI f2 f3)))
 rw[f0,f1,f2,f3]
 clear hL0 hkn ha hb1 hW1 hF hO f0 f1 f2 f3
 have hpb:=jB path
 go_enter Tryz.func39,Tryz.ntmps39
 go_upto_region 1 with fail
 rw[←HW1.out]
 go_wp2_with fail
 go_at_call 44
 refine HPa.out.mono ?_
 rintro e w2 ⟨⟨pv,rfl,hrow⟩,hb2⟩
 obtain⟨pa,pc,rfl⟩:=tA hrow
 have HRow:=aA hrow
 have hb02:Below w.heap.size w w2:=HB1.out.trans (hb2.mono (by omega))
 have HB2:=aA hb02
 have hs2:=hb2.size
 have HX2:Hid (w2.heap[w.heap.size]?=some (.cells #[v0 0,v0 1,v0 2,v0 3] 25 (0,0))):=by
  show _=_
  rw[HV0.out.1,HV0.out.2.1,HV0.out.2.2.1,HV0.out.2.2.2]
  exact(hb2.block w.heap.size (by omega)).trans HA.out.1
 have HR2:Hid (w2.heap[w.heap.size+1]?=some (.cells #[.string ⟨#[]⟩,.string ⟨#[]⟩,.slice none 0 0,.slice none 0 0] 25 (0,0))):=(hb2.block (w.heap.size+1) (by omega)).trans HA.out.2
 clear hrow hb2 hb02
 obtain⟨parts,hparts⟩:∃parts,parts=cA path:=⟨_,rfl⟩
 rw[←hparts] at HRow HO hpb
 rw[←hparts]
 have HRk:=aA (fun r x (h:eA t0 r=some x)=>HKn.out x ⟨r,h⟩)
 clear hparts HKn
 obtain⟨pn,hpn⟩:∃pn,pn=parts.length:=⟨_,rfl⟩
 have HPn:=aA hpn
 rw[←hpn] at hpb
 rw[←hpn]
 clear hpn
 go_wp2_with fail
 go_loopw [7] (fun y wr=>xU w w2 w.heap.size P t0 parts O y wr) (fun y _=>(pn - RowKit.intOf y).toNat)
 case atStart=>exact⟨0,t0,v0,[],Nat.zero_le _,rfl,HL0.out,by rw[eA],by rw[List.drop_zero];exact HO.out.symm,HX2.out,BelX.refl _ _ _⟩
 case round=>
  obtain⟨i,t,v,r,hi,rfl,hL,hr,hf,hbx,hX⟩:=hrel
  obtain⟨wo,ewo⟩:∃wo,wo=wr:=⟨_,rfl⟩
  subst wr
  rw[←HPn.out] at hi
  have HL:=aA hL
  have HBX:=aA hbx
  have HXX:=aA hX
  have HBw:=aA (HB2.out.trans (hX.down (by have:=HB2.out.size;omega) (nR _)))
  have hsw:=hX.size
  have HRs:Hid (wo.heap[w.heap.size+1]?=some (.cells #[.string ⟨#[]⟩,.string ⟨#[]⟩,.slice none 0 0,.slice none 0 0] 25 (0,0))):=(hX.block (w.heap.size+1) (by omega) (by omega)).trans HR2.out
  have HRd:=aA hr
  have HFd:=aA hf
  obtain⟨g0,g1,⟨ga,gc,g2⟩,⟨ka',kc',g3⟩⟩:=hL.forms
  obtain⟨_,VK,hk,hkr⟩:=hL.kidsAt g3
  have HK:=aA (aI hk hkr)
  have hkn:=HRk.out r t hr
  have HG:=aA (aI g0 (aI g1 (aI g2 g3)))
  rw[g0,g1,g2,g3] at hbx
  obtain⟨x0,x1,x2,x3,xf⟩:=gA hbx
  clear hbx hX hr hf hk hkr
  by_cases hin:i<pn
  ·have hiz:(i:Int)<pn:=by omega
   obtain⟨p,hpp⟩:∃p,parts[i]?=some p:=⟨_,List.getElem?_eq_getElem (by rw[←HPn.out];exact hin)⟩
   obtain⟨g,hpa,hgB,hgl,cp⟩:=LC HRow.out hpp
   subst hpa
   have dp:=(HXX.out.cell (p:=⟨g,i,none⟩) hgl (by show g≠_;omega)).trans cp
   have HC:=aA (fun W (hb:Below w.heap.size w W)=>DE (HL.out.bel hb) hkn p)
   rw[g0,g1,g2,g3] at HC
   have HD:=aA (BL hpp)
   clear g0 g1 g2 g3 cp hL hpp
   generalize hlb:t.label=lb at *
   generalize hhd:t.head=hh at *
   generalize hll:t.lines.length=ln at *
   obtain⟨kn,hknn⟩:∃kn,kn=t.kids.length:=⟨_,rfl⟩
   have HKN:=aA hknn
   rw[←hknn] at hkn HC x3
   clear hknn hlb hhd hll
   cases hkx:iA t.kids p with
   |none=>
    rw[hkx] at HC
    have HN:Hid (O=none):=by show _=_;rw[←HFd.out,HD.out,uH hkx]
    clear hkx
    go_wp2_with fail
    go_region_with
     (go_at_call 47
      refine(HC.out _ ?_).mono ?_
      ·first
        |exact HBw.out
        |exact Below.drew HBw.out
      rintro e w5 ⟨rfl,hb5⟩
      have HB5:=aA hb5
      have hx5:w5.heap[w.heap.size]?=_:=(hb5.block w.heap.size (lt_of_block HBX.out)).trans HBX.out
      have hr5:w5.heap[w.heap.size+1]?=_:=(hb5.block (w.heap.size+1) (lt_of_block HRs.out)).trans HRs.out
      have hs5:wo.heap.size≤w5.heap.size:=hb5.size
      clear hb5)
    all_goals
     obtain⟨z0,z1,z2,z3,zf⟩:=gA hr5
     have HBf0:Hid (Below w.heap.size w w5):=HBw.out.drew.trans (HB5.out.mono HBw.out.size)
     clear hx5 hr5
     go_wp2
     refine bodyPost_ret (v:=.tuple #[.agg #[.string ⟨#[]⟩,.string ⟨#[]⟩,.slice none 0 0,.slice none 0 0],.bool false]) (by simp[results,Tryz.results39,go_sem,z0,z1,z2,z3]) rfl ?_
     rw[HN.out]
     refine⟨rfl,?_⟩
     exact(((HBf0.out.setCell (p:=⟨w.heap.size+1,0,none⟩) (Nat.le_succ _) _).setCell (p:=⟨w.heap.size+1,1,none⟩) (Nat.le_succ _) _).setCell (p:=⟨w.heap.size+1,2,none⟩) (Nat.le_succ _) _).setCell (p:=⟨w.heap.size+1,3,none⟩) (Nat.le_succ _) _
   |some j=>
    rw[hkx] at HC
    obtain⟨x,hx,_,_⟩:=SA hkx
    have hjl:=(List.getElem?_eq_some_iff.1 hx).1
    obtain⟨b,o,hka,_,cx⟩:=HK.out.1 j hjl
    subst hka
    have HLx:=aA (HK.out.2 j x hx)
    obtain⟨u0,⟨u1,⟨ua,uc,u2⟩,⟨uk,ukc,u3⟩⟩⟩:=HLx.out.forms
    have HU:=aA (aI u0 (aI u1 (aI u2 u3)))
    have HFx:Hid (eA x (parts.drop (i+1))=O):=by show _=_;rw[←HFd.out,HD.out,MB hkx hx]
    have HRx:Hid (eA t0 (r++[p])=some x):=by show _=_;rw[JI r [p] t0 t HRd.out,MB hkx hx,eA]
    have hbl:b<w.heap.size:=dA (cx 0 (by omega))
    rw[←HKN.out] at hjl
    have hjz:(j:Int)<kn:=by omega
    have c0:=cx 0 (by omega)
    have c1:=cx 1 (by omega)
    have c2:=cx 2 (by omega)
    have c3:=cx 3 (by omega)
    rw[u0] at c0
    rw[u1] at c1
    rw[u2] at c2
    rw[u3] at c3
    have HCx:=aA (aI c0 (aI c1 (aI c2 c3)))
    clear hkx hx cx u0 u1 u2 u3 c0 c1 c2 c3
    generalize x.label=xl at *
    generalize x.head=xh at *
    generalize x.lines.length=xn at *
    generalize x.kids.length=xk at *
    have hij:mC (some j)=(j:Int):=rfl
    rw[hij] at HC
    go_wp2_with fail
    go_region_with
     (go_at_call 47
      refine(HC.out _ ?_).mono ?_
      ·first
        |exact HBw.out
        |exact Below.drew HBw.out
      rintro e w5 ⟨rfl,hb5⟩
      have HB5:=aA hb5
      have hx5:w5.heap[w.heap.size]?=_:=(hb5.block w.heap.size (lt_of_block HBX.out)).trans HBX.out
      have hr5:w5.heap[w.heap.size+1]?=_:=(hb5.block (w.heap.size+1) (lt_of_block HRs.out)).trans HRs.out
      have hs5:wo.heap.size≤w5.heap.size:=hb5.size
      clear hb5)
    all_goals
     have HBf0:Hid (Below w.heap.size w w5):=HBw.out.drew.trans (HB5.out.mono HBw.out.size)
     have HX5:=aA hx5
     have hx5':=hx5
     rw[HG.out.1,HG.out.2.1,HG.out.2.2.1,HG.out.2.2.2,←HKN.out] at hx5'
     clear x0 x1 x2 x3 xf
     obtain⟨x0,x1,x2,x3,xf⟩:=gA hx5'
     have d0:=(HBf0.out.cell (p:=⟨b,o+j * 4,none⟩) hbl).trans HCx.out.1
     have d1:=(HBf0.out.cell (p:=⟨b,o+j * 4+1,none⟩) hbl).trans HCx.out.2.1
     have d2:=(HBf0.out.cell (p:=⟨b,o+j * 4+2,none⟩) hbl).trans HCx.out.2.2.1
     have d3:=(HBf0.out.cell (p:=⟨b,o+j * 4+3,none⟩) hbl).trans HCx.out.2.2.2
     clear hx5 hx5' hr5
     go_wp2
     go_roundw
     case rel=>
      refine⟨i+1,x,VK j,r++[p],by rw[←HPn.out];omega,by go_num,HLx.out,HRx.out,HFx.out,?_,?_⟩
      ·rw[HU.out.1,HU.out.2.1,HU.out.2.2.1,HU.out.2.2.2]
       exact wP HX5.out _ _ _ _
      ·have hXd:BelX w2.heap.size w.heap.size w2 w5:=HXX.out.trans (Below.x ((Below.refl _ _).drew.trans (HB5.out.mono (nR _))) w.heap.size hsw)
       exact(((hXd.setCell (p:=⟨w.heap.size,0,none⟩) (.inr rfl) _).setCell (p:=⟨w.heap.size,1,none⟩) (.inr rfl) _).setCell (p:=⟨w.heap.size,2,none⟩) (.inr rfl) _).setCell (p:=⟨w.heap.size,3,none⟩) (.inr rfl) _
     case measure=>simp[RowKit.intOf];omega
  ·obtain rfl:i=pn:=by omega
   have hiz:¬(i:Int)<i:=by omega
   have HN:Hid (O=some t):=by
    show _=_
    rw[←HFd.out,List.drop_eq_nil_of_le (by rw[←HPn.out];exact nR _),eA]
   have z:=gA HRs.out
   obtain⟨z0,z1,z2,z3,zf⟩:=z
   clear hL g0 g1 g2 g3
   generalize hlb:t.label=lb at *
   generalize hhd:t.head=hh at *
   generalize hll:t.lines.length=ln at *
   generalize hkk:t.kids.length=kn at *
   go_wp2
   refine bodyPost_ret (v:=.tuple #[.agg #[.string lb,.string hh,.slice ga ln gc,.slice ka' kn kc'],.bool true]) (by simp[results,Tryz.results39,go_sem,z0,z1,z2,z3]) rfl ?_
   have HBf:=(((HBw.out.setCell (p:=⟨w.heap.size+1,0,none⟩) (Nat.le_succ _) (.string lb)).setCell (p:=⟨w.heap.size+1,1,none⟩) (Nat.le_succ _) (.string hh)).setCell (p:=⟨w.heap.size+1,2,none⟩) (Nat.le_succ _) (.slice ga ln gc)).setCell (p:=⟨w.heap.size+1,3,none⟩) (Nat.le_succ _) (.slice ka' kn kc')
   rw[HN.out]
   exact⟨⟨v,by rw[HG.out.1,HG.out.2.1,HG.out.2.2.1,HG.out.2.2.2],HL.out.bel HBf⟩,HBf⟩
end Go.Proofs.YtpbolcjcmkmalaaGreatDoor
