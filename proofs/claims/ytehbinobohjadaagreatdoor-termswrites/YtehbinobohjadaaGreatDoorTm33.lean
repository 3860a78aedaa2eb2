import Derived.Test.YtehbinobohjadaaGreatDoorTm00
import Derived.Test.YtehbinobohjadaaGreatDoorTm32
import Derived.Test.YtehbinobohjadaaGreatDoorTm21
import Derived.Lib.Builder
import Derived.Lib.AppendStr
import Derived.Lib.UnsafeStr
import Derived.Laws.Externs
import Derived.Shelf.RegionOpenPlain
import Derived.Laws.StructEq
import Derived.ChangeKeysEq
set_option maxHeartbeats 20000000
set_option maxRecDepth 20000
namespace Go.Proofs.YtehbinobohjadaaGreatDoor
open Go.RowKit Go.Sort Go.Extern.Stop Go.Stop Go.Extern
set_option linter.unusedSectionVars false
variable [Inhabited TP]
theorem cJ{l:List ByteArray}{y:ByteArray}(h:l[0]?=some y)(st:WS):lF (decide (0=0)) (l.drop 0) st=(CA st [sg 59,wOver,y]).bind fun s=>lF (decide (0+1=0)) (l.drop (0+1)) s:=by
 match l,h with
 |z::l,h=>
  simp only[List.getElem?_cons_zero,Option.some.injEq] at h
  subst h
  rfl
theorem dJ{l:List ByteArray}{j:Nat}{y:ByteArray}(hj:¬j=0)(h:l[j]?=some y)(st:WS):lF (decide (j=0)) (l.drop j) st=(CA st [sg 44,y]).bind fun s=>lF (decide (j+1=0)) (l.drop (j+1)) s:=by
 obtain⟨hlt,he⟩:=List.getElem?_eq_some_iff.1 h
 rw[List.drop_eq_getElem_cons hlt,he,decide_eq_false hj,decide_eq_false (by omega:¬j+1=0)]
 rfl
theorem IL{l:List ByteArray}{j:Nat}(h:l.length≤j)(b:Bool)(st:WS):lF b (l.drop j) st=some st:=by
 rw[List.drop_eq_nil_of_le h]
 cases b<;>rfl
theorem RdS.st{w:World}{S:Nat→Prop}{a:Option Addr}{n c:Nat}{l:List ByteArray}(h:RdS stE w S (.slice a n c) l){j:Nat}{s:ByteArray}(hj:l[j]?=some s):∃g o,a=some ⟨g,o,none⟩∧S g∧w.cell? ⟨g,o+j,none⟩=some (.string s):=by
 obtain⟨g,o,e,hg,hr⟩:=h.at hj
 refine⟨g,o,e,hg,?_⟩
 have:=hr 0 _ rfl
 simpa [stE] using this
def KW(x:SentT):Prop:=∀(w:World) (wp:Nat) (s:WS) (ca sa:Option Addr) (cc sc:Nat) (oa:Option Addr) (oc:Nat) (cs:Array Value),SW w w wp s→STc w (·<wp) x ca sa cc sc oa oc cs→Calls Tryz.prog 47 #[.pointer (some ⟨wp,0,none⟩),.agg cs] w (JF wp w (jG x s))
theorem IT{x:SentT}(hO:SOk x):KW x:=by
 intro w wp s ca sa cc sc oa oc cs hS hT
 obtain⟨m,hm⟩:∃m,m=x.over.length:=⟨_,rfl⟩
 have HM:=aA hm
 have hm48:m≤17592186044416:=by rw[hm];exact hT.ov.len.2
 by_cases h1:x.strength=1
 ·have hwp:=hS.wr.in
  have HX0:=aA (SX.new hT hwp)
  have HS0:=aA (hS.alloc (.cells cs 30))
  obtain⟨W0,hW0⟩:∃W0,W0=w.alloc (.cells cs 30):=⟨_,rfl⟩
  rw[←hW0] at HX0 HS0
  have HW:=aA hW0
  have HZ:Hid (cs.size=19):=by show _=_;rw[hT.eq];rfl
  have HC2:Hid (∀V,SX V wp w.heap.size x ca sa cc sc oa oc cs→V.cell? ⟨w.heap.size,2,none⟩=some (.int .i64 x.strength)):=fun V h=>h.at 2 _ (by rw[hT.eq];rfl)
  have HC5:Hid (∀V,SX V wp w.heap.size x ca sa cc sc oa oc cs→V.cell? ⟨w.heap.size,5,none⟩=some (.string x.cond.kind)):=fun V h=>h.at 5 _ (by rw[hT.eq];rfl)
  have HC6:Hid (∀V,SX V wp w.heap.size x ca sa cc sc oa oc cs→V.cell? ⟨w.heap.size,6,none⟩=some (.string x.cond.word)):=fun V h=>h.at 6 _ (by rw[hT.eq];rfl)
  have HC7:Hid (∀V,SX V wp w.heap.size x ca sa cc sc oa oc cs→V.cell? ⟨w.heap.size,7,none⟩=some (.int .i64 x.cond.num)):=fun V h=>h.at 7 _ (by rw[hT.eq];rfl)
  have HC8:Hid (∀V,SX V wp w.heap.size x ca sa cc sc oa oc cs→V.cell? ⟨w.heap.size,8,none⟩=some (.slice ca x.cond.kids.length cc)):=fun V h=>h.at 8 _ (by rw[hT.eq];rfl)
  have HC14:Hid (∀V,SX V wp w.heap.size x ca sa cc sc oa oc cs→V.cell? ⟨w.heap.size,14,none⟩=some (.slice oa m oc)):=fun V h=>h.at 14 _ (by rw[hT.eq,hm];rfl)
  have c2:=HC2.out _ HX0.out
  obtain⟨R,hR⟩:∃R,R=jG x s:=⟨_,rfl⟩
  rw[←hR]
  unfold jG at hR
  simp only[if_pos h1,Option.bind_some] at hR
  have HR:=aA hR
  clear hR hW0 hT hS hm
  go_enter Tryz.func47,Tryz.ntmps47
  go_upto_region 1 with fail
  rw[←HW.out]
  go_wp2_with (first
   |(go_at_call 97;revert HX2;intro HX2;refine(wE hO.cond HS2.out.here HX2.out.st.nc).mono ?_;rintro e W3 ⟨hf,hr⟩;rcases hq2:LN x.cond s2 with _|s3;(·rw[hq2] at hr;(obtain⟨p,rfl⟩:=hr);(obtain rfl:R=none:=(by rw[HR.out,hq2];try rfl));exact(show _∧_ from⟨rfl,HS2.out.fr.trans hf,⟨_,rfl⟩⟩));rw[hq2] at hr;(obtain⟨rfl,hr⟩:=hr);(have HS3:=aA (HS2.out.step hf hr));(have HX3:=aA (HX2.out.step hf));clear c5 c6 c7 c8;(have c14:=HC14.out _ HX3.out);rw[hq2,Option.bind_some] at HR;clear hf hr)
   |(go_at_call 96;revert HX1;intro HX1;refine(eG hO _ _ _ _ _ _ _ _ _ _ HS1.out.here HX1.out.st).mono ?_;rintro e W2 ⟨hf,hr⟩;rcases hq1:YI x s1 with _|s2;(·rw[hq1] at hr;(obtain⟨p,rfl⟩:=hr);(obtain rfl:R=none:=(by rw[HR.out,hq1];try rfl));exact(show _∧_ from⟨rfl,HS1.out.fr.trans hf,⟨_,rfl⟩⟩));rw[hq1] at hr;(obtain⟨rfl,hr⟩:=hr);(have HS2:=aA (HS1.out.step hf hr));(have HX2:=aA (HX1.out.step hf));(have c5:=HC5.out _ HX2.out);(have c6:=HC6.out _ HX2.out);(have c7:=HC7.out _ HX2.out);(have c8:=HC8.out _ HX2.out);rw[hq1,Option.bind_some] at HR;clear hf hr)
   |(revert HX1;intro HX1;with_reducible show wpList _ _ _ _ _ _;refine wpList_load_row rfl 30 (.tmp 3) rfl w.heap.size (by first|(simp[Act.eval];done)|simp[Act.eval,Act.put]) 30 cs (0,0) _ HX1.out.bx Tryz.underlying30 rfl (infoSent.trans (by rw[HZ.out])) ?_)
   |(go_at_call 45;revert HX0;intro HX0;refine(XA HS0.out.wr (x:=sg 58) (by decide)).mono ?_;rintro e W1 ⟨hf,hr⟩;rcases hq0:MA s (sg 58) with _|s1;(·rw[hq0] at hr;(obtain⟨p,rfl⟩:=hr);(obtain rfl:R=none:=(by rw[HR.out,hq0];try rfl));exact(show _∧_ from⟨rfl,HS0.out.fr.trans hf,⟨_,rfl⟩⟩));rw[hq0] at hr;(obtain⟨rfl,hr⟩:=hr);(have HS1:=aA (HS0.out.step hf hr));(have HX1:=aA (HX0.out.step hf));rw[hq0,Option.bind_some] at HR;clear hf hr))
  go_loopw [29] (fun iv wr=>∃(j:Nat) (st:WS),j≤m∧iv=.int .i64 j∧R=lF (decide (j=0)) (x.over.drop j) st∧SW w wr wp st∧SX wr wp w.heap.size x ca sa cc sc oa oc cs) (fun iv _=>(m - RowKit.intOf iv).toNat)
  case atStart=>exact⟨0,s3,by omega,rfl,HR.out,HS3.out,HX3.out⟩
  case round=>
   obtain⟨j,st,hj,rfl,hr0,hs0,hx0⟩:=hrel
   have HRj:=aA hr0
   have HSj:=aA hs0
   have HXj:=aA hx0
   clear hr0 hs0 hx0
   by_cases hin:j<m
   ·have hjz:(j:Int)<m:=by omega
    obtain⟨y,hy⟩:∃y,x.over[j]?=some y:=⟨_,List.getElem?_eq_getElem (by have:=HM.out;omega)⟩
    have hyz:=hO.over y (List.mem_of_getElem? hy)
    obtain⟨g,o,hoa,hg,cy⟩:=HXj.out.st.ov.st hy
    subst hoa
    by_cases h0:j=0
    ·subst h0
     rw[Nat.add_zero] at cy
     have HRk:=aA (HRj.out.trans (cJ hy st))
     clear HRj hy
     go_wp2_with (go_at_call 45;refine(VE HSj.out.wr (x:=sg 59) (by decide) (y:=wOver) (by decide) hyz).mono ?_;rintro e V ⟨hf,hr⟩;rcases hq:CA st [sg 59,wOver,y] with _|t1;(·rw[hq] at hr;(obtain⟨p,rfl⟩:=hr);(obtain rfl:R=none:=(by rw[HRk.out,hq];try rfl));exact(show _∧_ from⟨rfl,HSj.out.fr.trans hf,⟨_,rfl⟩⟩));rw[hq] at hr;(obtain⟨rfl,hr⟩:=hr);(have HSk:=aA (HSj.out.step hf hr));(have HXk:=aA (HXj.out.step hf));rw[hq,Option.bind_some] at HRk;clear hf hr)
     go_roundw
     case rel=>exact⟨0+1,t1,by omega,by go_num,HRk.out,HSk.out,HXk.out⟩
     case measure=>simp[RowKit.intOf];omega
    ·have hnz:¬(j:Int)=0:=by omega
     have hnb:((j:Int)==0)=false:=by simp[h0]
     have HRk:=aA (HRj.out.trans (dJ h0 hy st))
     clear HRj hy
     go_wp2_with (go_at_call 45;refine(bD HSj.out.wr (x:=sg 44) (by decide) hyz).mono ?_;rintro e V ⟨hf,hr⟩;rcases hq:CA st [sg 44,y] with _|t1;(·rw[hq] at hr;(obtain⟨p,rfl⟩:=hr);(obtain rfl:R=none:=(by rw[HRk.out,hq];try rfl));exact(show _∧_ from⟨rfl,HSj.out.fr.trans hf,⟨_,rfl⟩⟩));rw[hq] at hr;(obtain⟨rfl,hr⟩:=hr);(have HSk:=aA (HSj.out.step hf hr));(have HXk:=aA (HXj.out.step hf));rw[hq,Option.bind_some] at HRk;clear hf hr)
     go_roundw
     case rel=>exact⟨j+1,t1,by omega,by go_num,HRk.out,HSk.out,HXk.out⟩
     case measure=>simp[RowKit.intOf];omega
   ·obtain rfl:j=m:=by omega
    have hjz:¬(j:Int)<j:=by omega
    have HE:Hid (R=some st):=HRj.out.trans (IL (Nat.le_of_eq HM.out.symm) _ _)
    clear HRj
    go_wp2
    go_end0
    (obtain rfl:R=some st:=HE.out)
    exact⟨HSj.out.fr,rfl,HSj.out.wr⟩
 ·rcases hw:fF [wStrict,⟨#[]⟩,wDefeater] x.strength with _|t
  ·have hwp:=hS.wr.in
   have HX0:=aA (SX.new hT hwp)
   have HS0:=aA (hS.alloc (.cells cs 30))
   obtain⟨W0,hW0⟩:∃W0,W0=w.alloc (.cells cs 30):=⟨_,rfl⟩
   rw[←hW0] at HX0 HS0
   have HW:=aA hW0
   have HZ:Hid (cs.size=19):=by show _=_;rw[hT.eq];rfl
   have HC2:Hid (∀V,SX V wp w.heap.size x ca sa cc sc oa oc cs→V.cell? ⟨w.heap.size,2,none⟩=some (.int .i64 x.strength)):=fun V h=>h.at 2 _ (by rw[hT.eq];rfl)
   have HC5:Hid (∀V,SX V wp w.heap.size x ca sa cc sc oa oc cs→V.cell? ⟨w.heap.size,5,none⟩=some (.string x.cond.kind)):=fun V h=>h.at 5 _ (by rw[hT.eq];rfl)
   have HC6:Hid (∀V,SX V wp w.heap.size x ca sa cc sc oa oc cs→V.cell? ⟨w.heap.size,6,none⟩=some (.string x.cond.word)):=fun V h=>h.at 6 _ (by rw[hT.eq];rfl)
   have HC7:Hid (∀V,SX V wp w.heap.size x ca sa cc sc oa oc cs→V.cell? ⟨w.heap.size,7,none⟩=some (.int .i64 x.cond.num)):=fun V h=>h.at 7 _ (by rw[hT.eq];rfl)
   have HC8:Hid (∀V,SX V wp w.heap.size x ca sa cc sc oa oc cs→V.cell? ⟨w.heap.size,8,none⟩=some (.slice ca x.cond.kids.length cc)):=fun V h=>h.at 8 _ (by rw[hT.eq];rfl)
   have HC14:Hid (∀V,SX V wp w.heap.size x ca sa cc sc oa oc cs→V.cell? ⟨w.heap.size,14,none⟩=some (.slice oa m oc)):=fun V h=>h.at 14 _ (by rw[hT.eq,hm];rfl)
   have c2:=HC2.out _ HX0.out
   obtain⟨R,hR⟩:∃R,R=jG x s:=⟨_,rfl⟩
   rw[←hR]
   unfold jG at hR
   simp only[if_neg h1,hw,Option.bind_none] at hR
   have HR:=aA hR
   clear hR hW0 hT hS hm
   go_enter Tryz.func47,Tryz.ntmps47
   go_upto_region 1 with fail
   rw[←HW.out]
   go_upto_region 2 with fail
   have HSc:=aA (HS0.out.grow ((Below.refl _ W0).drew))
   have HXc:=aA (HX0.out.step (WFr.of ((Below.refl _ W0).drew) (Nat.le_of_lt HS0.out.wr.in)))
   have d2:=HC2.out _ HXc.out
   go_region_with (first
    |(go_at_call 45;revert HF;intro HF;refine(XA HSc.out.wr (x:=⟨#[]⟩) (by decide)).mono ?_;rintro e V ⟨hf,hr⟩;revert hr;(split);(·exact HF.out.elim);rintro ⟨rfl,hr⟩;clear hf hr)
    |(go_at_call 95;revert HN;intro HN;refine(fG HSc.out.wr (ls:=strengthsQ) hw).mono ?_;rintro e w' ⟨⟨p,rfl⟩|⟨rfl,hF⟩,h9⟩;(·subst w';(obtain rfl:R=none:=HR.out);exact(show _∧_ from⟨rfl,HSc.out.fr,⟨_,rfl⟩⟩));subst w';(have HF:=aA hF);clear hF)
    |(go_at_call 38;revert HXc;intro HXc;refine(pF _).mono ?_;rintro e V hn;(obtain rfl:=hn.e);(have hb:=hn.b);(have HN:=aA hn.row);(have HSd:=aA (HSc.out.grow hb));(have HXd:=aA (HXc.out.step (WFr.of hb (Nat.le_of_lt HSc.out.wr.in))));clear HSc HXc;(have HSc:=HSd);(have HXc:=HXd);clear HSd HXd;(have d2:=HC2.out _ HXc.out);clear hn hb))
   all_goals exact HF.out.elim
  ·have hwp:=hS.wr.in
   have HX0:=aA (SX.new hT hwp)
   have HS0:=aA (hS.alloc (.cells cs 30))
   obtain⟨W0,hW0⟩:∃W0,W0=w.alloc (.cells cs 30):=⟨_,rfl⟩
   rw[←hW0] at HX0 HS0
   have HW:=aA hW0
   have HZ:Hid (cs.size=19):=by show _=_;rw[hT.eq];rfl
   have HC2:Hid (∀V,SX V wp w.heap.size x ca sa cc sc oa oc cs→V.cell? ⟨w.heap.size,2,none⟩=some (.int .i64 x.strength)):=fun V h=>h.at 2 _ (by rw[hT.eq];rfl)
   have HC5:Hid (∀V,SX V wp w.heap.size x ca sa cc sc oa oc cs→V.cell? ⟨w.heap.size,5,none⟩=some (.string x.cond.kind)):=fun V h=>h.at 5 _ (by rw[hT.eq];rfl)
   have HC6:Hid (∀V,SX V wp w.heap.size x ca sa cc sc oa oc cs→V.cell? ⟨w.heap.size,6,none⟩=some (.string x.cond.word)):=fun V h=>h.at 6 _ (by rw[hT.eq];rfl)
   have HC7:Hid (∀V,SX V wp w.heap.size x ca sa cc sc oa oc cs→V.cell? ⟨w.heap.size,7,none⟩=some (.int .i64 x.cond.num)):=fun V h=>h.at 7 _ (by rw[hT.eq];rfl)
   have HC8:Hid (∀V,SX V wp w.heap.size x ca sa cc sc oa oc cs→V.cell? ⟨w.heap.size,8,none⟩=some (.slice ca x.cond.kids.length cc)):=fun V h=>h.at 8 _ (by rw[hT.eq];rfl)
   have HC14:Hid (∀V,SX V wp w.heap.size x ca sa cc sc oa oc cs→V.cell? ⟨w.heap.size,14,none⟩=some (.slice oa m oc)):=fun V h=>h.at 14 _ (by rw[hT.eq,hm];rfl)
   have c2:=HC2.out _ HX0.out
   obtain⟨R,hR⟩:∃R,R=jG x s:=⟨_,rfl⟩
   rw[←hR]
   unfold jG at hR
   simp only[if_neg h1,hw,Option.bind_some] at hR
   have HR:=aA hR
   clear hR hW0 hT hS hm
   go_enter Tryz.func47,Tryz.ntmps47
   go_upto_region 1 with fail
   rw[←HW.out]
   go_upto_region 2 with fail
   go_cut [] (fun wx=>∃s1,MA s t=some s1∧SW w wx wp s1∧SX wx wp w.heap.size x ca sa cc sc oa oc cs)
   case first=>
    have HSc:=aA (HS0.out.grow ((Below.refl _ W0).drew))
    have HXc:=aA (HX0.out.step (WFr.of ((Below.refl _ W0).drew) (Nat.le_of_lt HS0.out.wr.in)))
    have d2:=HC2.out _ HXc.out
    go_region_with (first
     |(go_at_call 45;revert HN;intro HN;refine(XA HSc.out.wr (IK _ (OG hw))).mono ?_;rintro e V ⟨hf,hr⟩;rcases hq0:MA s t with _|s1;(·rw[hq0] at hr;(obtain⟨p,rfl⟩:=hr);(obtain rfl:R=none:=(by rw[HR.out,hq0];try rfl));exact(show _∧_ from⟨rfl,HSc.out.fr.trans hf,⟨_,rfl⟩⟩));rw[hq0] at hr;(obtain⟨rfl,hr⟩:=hr);(have HSd:=aA (HSc.out.step hf hr));(have HXd:=aA (HXc.out.step hf));clear hf hr)
     |(go_at_call 95;revert HN;intro HN;refine(qF (ls:=strengthsQ) HN.out.2 hw).mono ?_;rintro e w' ⟨rfl,h9⟩;subst w')
     |(go_at_call 38;revert HXc;intro HXc;refine(pF _).mono ?_;rintro e V hn;(obtain rfl:=hn.e);(have hb:=hn.b);(have HN:=aA hn.row);(have HSd:=aA (HSc.out.grow hb));(have HXd:=aA (HXc.out.step (WFr.of hb (Nat.le_of_lt HSc.out.wr.in))));clear HSc HXc;(have HSc:=HSd);(have HXc:=HXd);clear HSd HXd;(have d2:=HC2.out _ HXc.out);clear hn hb))
    all_goals (go_wp2_with fail;go_meet;exact⟨s1,hq0,HSd.out,HXd.out⟩)
   case rest=>
    obtain⟨s1,hq0,hS1,hX1⟩:=hcut
    have HS1:=aA hS1
    have HX1:=aA hX1
    rw[hq0,Option.bind_some] at HR
    clear hS1 hX1 hw
    go_wp2_with (first
   |(go_at_call 97;revert HX3;intro HX3;refine(wE hO.cond HS3.out.here HX3.out.st.nc).mono ?_;rintro e W4 ⟨hf,hr⟩;rcases hq3:LN x.cond s3 with _|s4;(·rw[hq3] at hr;(obtain⟨p,rfl⟩:=hr);(obtain rfl:R=none:=(by rw[HR.out,hq3];try rfl));exact(show _∧_ from⟨rfl,HS3.out.fr.trans hf,⟨_,rfl⟩⟩));rw[hq3] at hr;(obtain⟨rfl,hr⟩:=hr);(have HS4:=aA (HS3.out.step hf hr));(have HX4:=aA (HX3.out.step hf));clear c5 c6 c7 c8;(have c14:=HC14.out _ HX4.out);rw[hq3,Option.bind_some] at HR;clear hf hr)
   |(go_at_call 96;revert HX2;intro HX2;refine(eG hO _ _ _ _ _ _ _ _ _ _ HS2.out.here HX2.out.st).mono ?_;rintro e W3 ⟨hf,hr⟩;rcases hq2:YI x s2 with _|s3;(·rw[hq2] at hr;(obtain⟨p,rfl⟩:=hr);(obtain rfl:R=none:=(by rw[HR.out,hq2];try rfl));exact(show _∧_ from⟨rfl,HS2.out.fr.trans hf,⟨_,rfl⟩⟩));rw[hq2] at hr;(obtain⟨rfl,hr⟩:=hr);(have HS3:=aA (HS2.out.step hf hr));(have HX3:=aA (HX2.out.step hf));(have c5:=HC5.out _ HX3.out);(have c6:=HC6.out _ HX3.out);(have c7:=HC7.out _ HX3.out);(have c8:=HC8.out _ HX3.out);rw[hq2,Option.bind_some] at HR;clear hf hr)
   |(revert HX2;intro HX2;with_reducible show wpList _ _ _ _ _ _;refine wpList_load_row rfl 30 (.tmp 3) rfl w.heap.size (by first|(simp[Act.eval];done)|simp[Act.eval,Act.put]) 30 cs (0,0) _ HX2.out.bx Tryz.underlying30 rfl (infoSent.trans (by rw[HZ.out])) ?_)
   |(go_at_call 45;revert HX1;intro HX1;refine(XA HS1.out.wr (x:=sg 58) (by decide)).mono ?_;rintro e W2 ⟨hf,hr⟩;rcases hq1:MA s1 (sg 58) with _|s2;(·rw[hq1] at hr;(obtain⟨p,rfl⟩:=hr);(obtain rfl:R=none:=(by rw[HR.out,hq1];try rfl));exact(show _∧_ from⟨rfl,HS1.out.fr.trans hf,⟨_,rfl⟩⟩));rw[hq1] at hr;(obtain⟨rfl,hr⟩:=hr);(have HS2:=aA (HS1.out.step hf hr));(have HX2:=aA (HX1.out.step hf));rw[hq1,Option.bind_some] at HR;clear hf hr))
    go_loopw [29] (fun iv wr=>∃(j:Nat) (st:WS),j≤m∧iv=.int .i64 j∧R=lF (decide (j=0)) (x.over.drop j) st∧SW w wr wp st∧SX wr wp w.heap.size x ca sa cc sc oa oc cs) (fun iv _=>(m - RowKit.intOf iv).toNat)
    case atStart=>exact⟨0,s4,by omega,rfl,HR.out,HS4.out,HX4.out⟩
    case round=>
     obtain⟨j,st,hj,rfl,hr0,hs0,hx0⟩:=hrel
     have HRj:=aA hr0
     have HSj:=aA hs0
     have HXj:=aA hx0
     clear hr0 hs0 hx0
     by_cases hin:j<m
     ·have hjz:(j:Int)<m:=by omega
      obtain⟨y,hy⟩:∃y,x.over[j]?=some y:=⟨_,List.getElem?_eq_getElem (by have:=HM.out;omega)⟩
      have hyz:=hO.over y (List.mem_of_getElem? hy)
      obtain⟨g,o,hoa,hg,cy⟩:=HXj.out.st.ov.st hy
      subst hoa
      by_cases h0:j=0
      ·subst h0
       rw[Nat.add_zero] at cy
       have HRk:=aA (HRj.out.trans (cJ hy st))
       clear HRj hy
       go_wp2_with (go_at_call 45;refine(VE HSj.out.wr (x:=sg 59) (by decide) (y:=wOver) (by decide) hyz).mono ?_;rintro e V ⟨hf,hr⟩;rcases hq:CA st [sg 59,wOver,y] with _|t1;(·rw[hq] at hr;(obtain⟨p,rfl⟩:=hr);(obtain rfl:R=none:=(by rw[HRk.out,hq];try rfl));exact(show _∧_ from⟨rfl,HSj.out.fr.trans hf,⟨_,rfl⟩⟩));rw[hq] at hr;(obtain⟨rfl,hr⟩:=hr);(have HSk:=aA (HSj.out.step hf hr));(have HXk:=aA (HXj.out.step hf));rw[hq,Option.bind_some] at HRk;clear hf hr)
       go_roundw
       case rel=>exact⟨0+1,t1,by omega,by go_num,HRk.out,HSk.out,HXk.out⟩
       case measure=>simp[RowKit.intOf];omega
      ·have hnz:¬(j:Int)=0:=by omega
       have hnb:((j:Int)==0)=false:=by simp[h0]
       have HRk:=aA (HRj.out.trans (dJ h0 hy st))
       clear HRj hy
       go_wp2_with (go_at_call 45;refine(bD HSj.out.wr (x:=sg 44) (by decide) hyz).mono ?_;rintro e V ⟨hf,hr⟩;rcases hq:CA st [sg 44,y] with _|t1;(·rw[hq] at hr;(obtain⟨p,rfl⟩:=hr);(obtain rfl:R=none:=(by rw[HRk.out,hq];try rfl));exact(show _∧_ from⟨rfl,HSj.out.fr.trans hf,⟨_,rfl⟩⟩));rw[hq] at hr;(obtain⟨rfl,hr⟩:=hr);(have HSk:=aA (HSj.out.step hf hr));(have HXk:=aA (HXj.out.step hf));rw[hq,Option.bind_some] at HRk;clear hf hr)
       go_roundw
       case rel=>exact⟨j+1,t1,by omega,by go_num,HRk.out,HSk.out,HXk.out⟩
       case measure=>simp[RowKit.intOf];omega
     ·obtain rfl:j=m:=by omega
      have hjz:¬(j:Int)<j:=by omega
      have HE:Hid (R=some st):=HRj.out.trans (IL (Nat.le_of_eq HM.out.symm) _ _)
      clear HRj
      go_wp2
      go_end0
      (obtain rfl:R=some st:=HE.out)
      exact⟨HSj.out.fr,rfl,HSj.out.wr⟩
def oF(x:SentT)(s:WS):Option WS:=(CA s [x.kind,x.name]).bind fun s=>
 if vA x.kind wDefine=true then (MA s (sg 58)).bind fun s=>SC x.cond 0 s
 else if vA x.kind wRule=true then jG x s
 else if vA x.kind wAmount=true then BD x s
 else if vA x.kind wDuty=true then TG x s
 else none
def LW(x:SentT):Prop:=∀(w:World) (wp:Nat) (s:WS) (ca sa:Option Addr) (cc sc:Nat) (oa:Option Addr) (oc:Nat) (cs:Array Value),SW w w wp s→STc w (·<wp) x ca sa cc sc oa oc cs→Calls Tryz.prog 20 #[.pointer (some ⟨wp,0,none⟩),.agg cs] w (JF wp w (oF x s))
theorem xG{x:SentT}(hO:SOk x):LW x:=by
 intro w wp s ca sa cc sc oa oc cs hS hT
 have HCo:=aA (QP _ x.cond rfl hO.cond)
 have hk:=hO.kind
 have hn:=hO.name
 cases h0:(x.kind.toList==[100,101,102,105,110,101])
 case true=>
  have e0:vA x.kind wDefine=true:=fA h0 rfl
  have hwp:=hS.wr.in
  have HX0:=aA (SX.new hT hwp)
  have HS0:=aA (hS.alloc (.cells cs 30))
  obtain⟨W0,hW0⟩:∃W0,W0=w.alloc (.cells cs 30):=⟨_,rfl⟩
  rw[←hW0] at HX0 HS0
  have HW:=aA hW0
  have HZ:Hid (cs.size=19):=by show _=_;rw[hT.eq];rfl
  have HC0:Hid (∀V,SX V wp w.heap.size x ca sa cc sc oa oc cs→V.cell? ⟨w.heap.size,0,none⟩=some (.string x.kind)):=fun V h=>h.at 0 _ (by rw[hT.eq];rfl)
  have HC1:Hid (∀V,SX V wp w.heap.size x ca sa cc sc oa oc cs→V.cell? ⟨w.heap.size,1,none⟩=some (.string x.name)):=fun V h=>h.at 1 _ (by rw[hT.eq];rfl)
  have HC5:Hid (∀V,SX V wp w.heap.size x ca sa cc sc oa oc cs→V.cell? ⟨w.heap.size,5,none⟩=some (.string x.cond.kind)):=fun V h=>h.at 5 _ (by rw[hT.eq];rfl)
  have HC6:Hid (∀V,SX V wp w.heap.size x ca sa cc sc oa oc cs→V.cell? ⟨w.heap.size,6,none⟩=some (.string x.cond.word)):=fun V h=>h.at 6 _ (by rw[hT.eq];rfl)
  have HC7:Hid (∀V,SX V wp w.heap.size x ca sa cc sc oa oc cs→V.cell? ⟨w.heap.size,7,none⟩=some (.int .i64 x.cond.num)):=fun V h=>h.at 7 _ (by rw[hT.eq];rfl)
  have HC8:Hid (∀V,SX V wp w.heap.size x ca sa cc sc oa oc cs→V.cell? ⟨w.heap.size,8,none⟩=some (.slice ca x.cond.kids.length cc)):=fun V h=>h.at 8 _ (by rw[hT.eq];rfl)
  have c0:=HC0.out _ HX0.out
  have c1:=HC1.out _ HX0.out
  obtain⟨R,hR⟩:∃R,R=oF x s:=⟨_,rfl⟩
  rw[←hR]
  unfold oF at hR
  simp only[e0,if_true] at hR
  have HR:=aA hR
  clear hR hW0 hT hS
  clear e0
  go_enter Tryz.func20,Tryz.ntmps20
  go_upto_region 1 with fail
  rw[←HW.out]
  go_wp2_with (first
   |(go_at_call 46;revert HX2;intro HX2;refine(HCo.out _ _ _ _ _ 0 0 rfl HS2.out.here HX2.out.st.nc (by decide)).mono ?_;rintro e W3 ⟨hf,hr⟩;rcases hq2:SC x.cond 0 s2 with _|s3;(·rw[hq2] at hr;(obtain⟨p,rfl⟩:=hr);(obtain rfl:R=none:=(by rw[HR.out,hq2];try rfl));exact(show _∧_ from⟨rfl,HS2.out.fr.trans hf,⟨_,rfl⟩⟩));rw[hq2] at hr;(obtain⟨rfl,hr⟩:=hr);(have HS3:=aA (HS2.out.step hf hr));(have HX3:=aA (HX2.out.step hf));clear c5 c6 c7 c8;rw[hq2] at HR;clear hf hr)
   |(go_at_call 45;revert HX1;intro HX1;refine(XA HS1.out.wr (x:=sg 58) (by decide)).mono ?_;rintro e W2 ⟨hf,hr⟩;rcases hq1:MA s1 (sg 58) with _|s2;(·rw[hq1] at hr;(obtain⟨p,rfl⟩:=hr);(obtain rfl:R=none:=(by rw[HR.out,hq1];try rfl));exact(show _∧_ from⟨rfl,HS1.out.fr.trans hf,⟨_,rfl⟩⟩));rw[hq1] at hr;(obtain⟨rfl,hr⟩:=hr);(have HS2:=aA (HS1.out.step hf hr));(have HX2:=aA (HX1.out.step hf));clear c0 c5 c6 c7 c8;(have c5:=HC5.out _ HX2.out);(have c6:=HC6.out _ HX2.out);(have c7:=HC7.out _ HX2.out);(have c8:=HC8.out _ HX2.out);rw[hq1,Option.bind_some] at HR;clear hf hr)
   |(go_at_call 45;revert HX0;intro HX0;refine(bD HS0.out.wr hk hn).mono ?_;rintro e W1 ⟨hf,hr⟩;rcases hq0:CA s [x.kind,x.name] with _|s1;(·rw[hq0] at hr;(obtain⟨p,rfl⟩:=hr);(obtain rfl:R=none:=(by rw[HR.out,hq0];try rfl));exact(show _∧_ from⟨rfl,HS0.out.fr.trans hf,⟨_,rfl⟩⟩));rw[hq0] at hr;(obtain⟨rfl,hr⟩:=hr);(have HS1:=aA (HS0.out.step hf hr));(have HX1:=aA (HX0.out.step hf));clear c0 c1;(have c0:=HC0.out _ HX1.out);(have c5:=HC5.out _ HX1.out);(have c6:=HC6.out _ HX1.out);(have c7:=HC7.out _ HX1.out);(have c8:=HC8.out _ HX1.out);rw[hq0,Option.bind_some] at HR;clear hf hr))
  go_end0
  (obtain rfl:R=some s3:=HR.out)
  exact⟨HS3.out.fr,rfl,HS3.out.wr⟩
 case false=>
  cases h1:(x.kind.toList==[114,117,108,101])
  case true=>
   have e0:vA x.kind wDefine=false:=fA h0 rfl
   have e1:vA x.kind wRule=true:=fA h1 rfl
   have hwp:=hS.wr.in
   have HX0:=aA (SX.new hT hwp)
   have HS0:=aA (hS.alloc (.cells cs 30))
   obtain⟨W0,hW0⟩:∃W0,W0=w.alloc (.cells cs 30):=⟨_,rfl⟩
   rw[←hW0] at HX0 HS0
   have HW:=aA hW0
   have HZ:Hid (cs.size=19):=by show _=_;rw[hT.eq];rfl
   have HC0:Hid (∀V,SX V wp w.heap.size x ca sa cc sc oa oc cs→V.cell? ⟨w.heap.size,0,none⟩=some (.string x.kind)):=fun V h=>h.at 0 _ (by rw[hT.eq];rfl)
   have HC1:Hid (∀V,SX V wp w.heap.size x ca sa cc sc oa oc cs→V.cell? ⟨w.heap.size,1,none⟩=some (.string x.name)):=fun V h=>h.at 1 _ (by rw[hT.eq];rfl)
   have HC5:Hid (∀V,SX V wp w.heap.size x ca sa cc sc oa oc cs→V.cell? ⟨w.heap.size,5,none⟩=some (.string x.cond.kind)):=fun V h=>h.at 5 _ (by rw[hT.eq];rfl)
   have HC6:Hid (∀V,SX V wp w.heap.size x ca sa cc sc oa oc cs→V.cell? ⟨w.heap.size,6,none⟩=some (.string x.cond.word)):=fun V h=>h.at 6 _ (by rw[hT.eq];rfl)
   have HC7:Hid (∀V,SX V wp w.heap.size x ca sa cc sc oa oc cs→V.cell? ⟨w.heap.size,7,none⟩=some (.int .i64 x.cond.num)):=fun V h=>h.at 7 _ (by rw[hT.eq];rfl)
   have HC8:Hid (∀V,SX V wp w.heap.size x ca sa cc sc oa oc cs→V.cell? ⟨w.heap.size,8,none⟩=some (.slice ca x.cond.kids.length cc)):=fun V h=>h.at 8 _ (by rw[hT.eq];rfl)
   have c0:=HC0.out _ HX0.out
   have c1:=HC1.out _ HX0.out
   obtain⟨R,hR⟩:∃R,R=oF x s:=⟨_,rfl⟩
   rw[←hR]
   unfold oF at hR
   simp only[e0,e1,Bool.false_eq_true,if_false,if_true] at hR
   have HR:=aA hR
   clear hR hW0 hT hS
   clear e0 e1
   go_enter Tryz.func20,Tryz.ntmps20
   go_upto_region 1 with fail
   rw[←HW.out]
   go_wp2_with (first
   |(go_at_call 47;revert HX1;intro HX1;refine(IT hO _ _ _ _ _ _ _ _ _ _ HS1.out.here HX1.out.st).mono ?_;rintro e W2 ⟨hf,hr⟩;rcases hq1:jG x s1 with _|s2;(·rw[hq1] at hr;(obtain⟨p,rfl⟩:=hr);(obtain rfl:R=none:=(by rw[HR.out,hq1];try rfl));exact(show _∧_ from⟨rfl,HS1.out.fr.trans hf,⟨_,rfl⟩⟩));rw[hq1] at hr;(obtain⟨rfl,hr⟩:=hr);(have HS2:=aA (HS1.out.step hf hr));(have HX2:=aA (HX1.out.step hf));clear c0;rw[hq1] at HR;clear hf hr)
   |(revert HX1;intro HX1;with_reducible show wpList _ _ _ _ _ _;refine wpList_load_row rfl 30 (.tmp 3) rfl w.heap.size (by first|(simp[Act.eval];done)|simp[Act.eval,Act.put]) 30 cs (0,0) _ HX1.out.bx Tryz.underlying30 rfl (infoSent.trans (by rw[HZ.out])) ?_)
   |(go_at_call 45;revert HX0;intro HX0;refine(bD HS0.out.wr hk hn).mono ?_;rintro e W1 ⟨hf,hr⟩;rcases hq0:CA s [x.kind,x.name] with _|s1;(·rw[hq0] at hr;(obtain⟨p,rfl⟩:=hr);(obtain rfl:R=none:=(by rw[HR.out,hq0];try rfl));exact(show _∧_ from⟨rfl,HS0.out.fr.trans hf,⟨_,rfl⟩⟩));rw[hq0] at hr;(obtain⟨rfl,hr⟩:=hr);(have HS1:=aA (HS0.out.step hf hr));(have HX1:=aA (HX0.out.step hf));clear c0 c1;(have c0:=HC0.out _ HX1.out);rw[hq0,Option.bind_some] at HR;clear hf hr))
   go_end0
   (obtain rfl:R=some s2:=HR.out)
   exact⟨HS2.out.fr,rfl,HS2.out.wr⟩
  case false=>
   cases h2:(x.kind.toList==[97,109,111,117,110,116])
   case true=>
    have e0:vA x.kind wDefine=false:=fA h0 rfl
    have e1:vA x.kind wRule=false:=fA h1 rfl
    have e2:vA x.kind wAmount=true:=fA h2 rfl
    have hwp:=hS.wr.in
    have HX0:=aA (SX.new hT hwp)
    have HS0:=aA (hS.alloc (.cells cs 30))
    obtain⟨W0,hW0⟩:∃W0,W0=w.alloc (.cells cs 30):=⟨_,rfl⟩
    rw[←hW0] at HX0 HS0
    have HW:=aA hW0
    have HZ:Hid (cs.size=19):=by show _=_;rw[hT.eq];rfl
    have HC0:Hid (∀V,SX V wp w.heap.size x ca sa cc sc oa oc cs→V.cell? ⟨w.heap.size,0,none⟩=some (.string x.kind)):=fun V h=>h.at 0 _ (by rw[hT.eq];rfl)
    have HC1:Hid (∀V,SX V wp w.heap.size x ca sa cc sc oa oc cs→V.cell? ⟨w.heap.size,1,none⟩=some (.string x.name)):=fun V h=>h.at 1 _ (by rw[hT.eq];rfl)
    have HC5:Hid (∀V,SX V wp w.heap.size x ca sa cc sc oa oc cs→V.cell? ⟨w.heap.size,5,none⟩=some (.string x.cond.kind)):=fun V h=>h.at 5 _ (by rw[hT.eq];rfl)
    have HC6:Hid (∀V,SX V wp w.heap.size x ca sa cc sc oa oc cs→V.cell? ⟨w.heap.size,6,none⟩=some (.string x.cond.word)):=fun V h=>h.at 6 _ (by rw[hT.eq];rfl)
    have HC7:Hid (∀V,SX V wp w.heap.size x ca sa cc sc oa oc cs→V.cell? ⟨w.heap.size,7,none⟩=some (.int .i64 x.cond.num)):=fun V h=>h.at 7 _ (by rw[hT.eq];rfl)
    have HC8:Hid (∀V,SX V wp w.heap.size x ca sa cc sc oa oc cs→V.cell? ⟨w.heap.size,8,none⟩=some (.slice ca x.cond.kids.length cc)):=fun V h=>h.at 8 _ (by rw[hT.eq];rfl)
    have c0:=HC0.out _ HX0.out
    have c1:=HC1.out _ HX0.out
    obtain⟨R,hR⟩:∃R,R=oF x s:=⟨_,rfl⟩
    rw[←hR]
    unfold oF at hR
    simp only[e0,e1,e2,Bool.false_eq_true,if_false,if_true] at hR
    have HR:=aA hR
    clear hR hW0 hT hS
    clear e0 e1 e2
    go_enter Tryz.func20,Tryz.ntmps20
    go_upto_region 1 with fail
    rw[←HW.out]
    go_wp2_with (first
   |(go_at_call 48;revert HX1;intro HX1;refine(sP hO _ _ _ _ _ _ _ _ _ _ HS1.out.here HX1.out.st).mono ?_;rintro e W2 ⟨hf,hr⟩;rcases hq1:BD x s1 with _|s2;(·rw[hq1] at hr;(obtain⟨p,rfl⟩:=hr);(obtain rfl:R=none:=(by rw[HR.out,hq1];try rfl));exact(show _∧_ from⟨rfl,HS1.out.fr.trans hf,⟨_,rfl⟩⟩));rw[hq1] at hr;(obtain⟨rfl,hr⟩:=hr);(have HS2:=aA (HS1.out.step hf hr));(have HX2:=aA (HX1.out.step hf));clear c0;rw[hq1] at HR;clear hf hr)
   |(revert HX1;intro HX1;with_reducible show wpList _ _ _ _ _ _;refine wpList_load_row rfl 30 (.tmp 3) rfl w.heap.size (by first|(simp[Act.eval];done)|simp[Act.eval,Act.put]) 30 cs (0,0) _ HX1.out.bx Tryz.underlying30 rfl (infoSent.trans (by rw[HZ.out])) ?_)
   |(go_at_call 45;revert HX0;intro HX0;refine(bD HS0.out.wr hk hn).mono ?_;rintro e W1 ⟨hf,hr⟩;rcases hq0:CA s [x.kind,x.name] with _|s1;(·rw[hq0] at hr;(obtain⟨p,rfl⟩:=hr);(obtain rfl:R=none:=(by rw[HR.out,hq0];try rfl));exact(show _∧_ from⟨rfl,HS0.out.fr.trans hf,⟨_,rfl⟩⟩));rw[hq0] at hr;(obtain⟨rfl,hr⟩:=hr);(have HS1:=aA (HS0.out.step hf hr));(have HX1:=aA (HX0.out.step hf));clear c0 c1;(have c0:=HC0.out _ HX1.out);rw[hq0,Option.bind_some] at HR;clear hf hr))
    go_end0
    (obtain rfl:R=some s2:=HR.out)
    exact⟨HS2.out.fr,rfl,HS2.out.wr⟩
   case false=>
    cases h3:(x.kind.toList==[100,117,116,121])
    case true=>
     have e0:vA x.kind wDefine=false:=fA h0 rfl
     have e1:vA x.kind wRule=false:=fA h1 rfl
     have e2:vA x.kind wAmount=false:=fA h2 rfl
     have e3:vA x.kind wDuty=true:=fA h3 rfl
     have hwp:=hS.wr.in
     have HX0:=aA (SX.new hT hwp)
     have HS0:=aA (hS.alloc (.cells cs 30))
     obtain⟨W0,hW0⟩:∃W0,W0=w.alloc (.cells cs 30):=⟨_,rfl⟩
     rw[←hW0] at HX0 HS0
     have HW:=aA hW0
     have HZ:Hid (cs.size=19):=by show _=_;rw[hT.eq];rfl
     have HC0:Hid (∀V,SX V wp w.heap.size x ca sa cc sc oa oc cs→V.cell? ⟨w.heap.size,0,none⟩=some (.string x.kind)):=fun V h=>h.at 0 _ (by rw[hT.eq];rfl)
     have HC1:Hid (∀V,SX V wp w.heap.size x ca sa cc sc oa oc cs→V.cell? ⟨w.heap.size,1,none⟩=some (.string x.name)):=fun V h=>h.at 1 _ (by rw[hT.eq];rfl)
     have HC5:Hid (∀V,SX V wp w.heap.size x ca sa cc sc oa oc cs→V.cell? ⟨w.heap.size,5,none⟩=some (.string x.cond.kind)):=fun V h=>h.at 5 _ (by rw[hT.eq];rfl)
     have HC6:Hid (∀V,SX V wp w.heap.size x ca sa cc sc oa oc cs→V.cell? ⟨w.heap.size,6,none⟩=some (.string x.cond.word)):=fun V h=>h.at 6 _ (by rw[hT.eq];rfl)
     have HC7:Hid (∀V,SX V wp w.heap.size x ca sa cc sc oa oc cs→V.cell? ⟨w.heap.size,7,none⟩=some (.int .i64 x.cond.num)):=fun V h=>h.at 7 _ (by rw[hT.eq];rfl)
     have HC8:Hid (∀V,SX V wp w.heap.size x ca sa cc sc oa oc cs→V.cell? ⟨w.heap.size,8,none⟩=some (.slice ca x.cond.kids.length cc)):=fun V h=>h.at 8 _ (by rw[hT.eq];rfl)
     have c0:=HC0.out _ HX0.out
     have c1:=HC1.out _ HX0.out
     obtain⟨R,hR⟩:∃R,R=oF x s:=⟨_,rfl⟩
     rw[←hR]
     unfold oF at hR
     simp only[e0,e1,e2,e3,Bool.false_eq_true,if_false,if_true] at hR
     have HR:=aA hR
     clear hR hW0 hT hS
     clear e0 e1 e2 e3
     go_enter Tryz.func20,Tryz.ntmps20
     go_upto_region 1 with fail
     rw[←HW.out]
     go_wp2_with (first
   |(go_at_call 49;revert HX1;intro HX1;refine(ET hO _ _ _ _ _ _ _ _ _ _ HS1.out.here HX1.out.st).mono ?_;rintro e W2 ⟨hf,hr⟩;rcases hq1:TG x s1 with _|s2;(·rw[hq1] at hr;(obtain⟨p,rfl⟩:=hr);(obtain rfl:R=none:=(by rw[HR.out,hq1];try rfl));exact(show _∧_ from⟨rfl,HS1.out.fr.trans hf,⟨_,rfl⟩⟩));rw[hq1] at hr;(obtain⟨rfl,hr⟩:=hr);(have HS2:=aA (HS1.out.step hf hr));(have HX2:=aA (HX1.out.step hf));clear c0;rw[hq1] at HR;clear hf hr)
   |(revert HX1;intro HX1;with_reducible show wpList _ _ _ _ _ _;refine wpList_load_row rfl 30 (.tmp 3) rfl w.heap.size (by first|(simp[Act.eval];done)|simp[Act.eval,Act.put]) 30 cs (0,0) _ HX1.out.bx Tryz.underlying30 rfl (infoSent.trans (by rw[HZ.out])) ?_)
   |(go_at_call 45;revert HX0;intro HX0;refine(bD HS0.out.wr hk hn).mono ?_;rintro e W1 ⟨hf,hr⟩;rcases hq0:CA s [x.kind,x.name] with _|s1;(·rw[hq0] at hr;(obtain⟨p,rfl⟩:=hr);(obtain rfl:R=none:=(by rw[HR.out,hq0];try rfl));exact(show _∧_ from⟨rfl,HS0.out.fr.trans hf,⟨_,rfl⟩⟩));rw[hq0] at hr;(obtain⟨rfl,hr⟩:=hr);(have HS1:=aA (HS0.out.step hf hr));(have HX1:=aA (HX0.out.step hf));clear c0 c1;(have c0:=HC0.out _ HX1.out);rw[hq0,Option.bind_some] at HR;clear hf hr))
     go_end0
     (obtain rfl:R=some s2:=HR.out)
     exact⟨HS2.out.fr,rfl,HS2.out.wr⟩
    case false=>
     obtain⟨p,ct⟩:=hS.wr.g
     have HT:=aA (fun W=>IE 189 p W)
     have HCt:Hid (∀V,WFr wp w V→V.cell? ⟨1,0,none⟩=some (.iface 189 (.pointer (some p.1)))):=fun V h=>(h.below.cell (p:=⟨1,0,none⟩) hS.wr.lo).trans ct
     have e0:vA x.kind wDefine=false:=fA h0 rfl
     have e1:vA x.kind wRule=false:=fA h1 rfl
     have e2:vA x.kind wAmount=false:=fA h2 rfl
     have e3:vA x.kind wDuty=false:=fA h3 rfl
     have hwp:=hS.wr.in
     have HX0:=aA (SX.new hT hwp)
     have HS0:=aA (hS.alloc (.cells cs 30))
     obtain⟨W0,hW0⟩:∃W0,W0=w.alloc (.cells cs 30):=⟨_,rfl⟩
     rw[←hW0] at HX0 HS0
     have HW:=aA hW0
     have HZ:Hid (cs.size=19):=by show _=_;rw[hT.eq];rfl
     have HC0:Hid (∀V,SX V wp w.heap.size x ca sa cc sc oa oc cs→V.cell? ⟨w.heap.size,0,none⟩=some (.string x.kind)):=fun V h=>h.at 0 _ (by rw[hT.eq];rfl)
     have HC1:Hid (∀V,SX V wp w.heap.size x ca sa cc sc oa oc cs→V.cell? ⟨w.heap.size,1,none⟩=some (.string x.name)):=fun V h=>h.at 1 _ (by rw[hT.eq];rfl)
     have HC5:Hid (∀V,SX V wp w.heap.size x ca sa cc sc oa oc cs→V.cell? ⟨w.heap.size,5,none⟩=some (.string x.cond.kind)):=fun V h=>h.at 5 _ (by rw[hT.eq];rfl)
     have HC6:Hid (∀V,SX V wp w.heap.size x ca sa cc sc oa oc cs→V.cell? ⟨w.heap.size,6,none⟩=some (.string x.cond.word)):=fun V h=>h.at 6 _ (by rw[hT.eq];rfl)
     have HC7:Hid (∀V,SX V wp w.heap.size x ca sa cc sc oa oc cs→V.cell? ⟨w.heap.size,7,none⟩=some (.int .i64 x.cond.num)):=fun V h=>h.at 7 _ (by rw[hT.eq];rfl)
     have HC8:Hid (∀V,SX V wp w.heap.size x ca sa cc sc oa oc cs→V.cell? ⟨w.heap.size,8,none⟩=some (.slice ca x.cond.kids.length cc)):=fun V h=>h.at 8 _ (by rw[hT.eq];rfl)
     have c0:=HC0.out _ HX0.out
     have c1:=HC1.out _ HX0.out
     obtain⟨R,hR⟩:∃R,R=oF x s:=⟨_,rfl⟩
     rw[←hR]
     unfold oF at hR
     simp only[e0,e1,e2,e3,Bool.false_eq_true,if_false] at hR
     have HR:=aA hR
     clear hR hW0 hT hS
     clear e0 e1 e2 e3
     go_enter Tryz.func20,Tryz.ntmps20
     go_upto_region 1 with fail
     rw[←HW.out]
     go_wp2_with (first
   |(go_at_call 50;refine(HT.out _).mono ?_;rintro e w' ⟨rfl,h9⟩;subst w')
   |(go_at_call 45;revert HX0;intro HX0;refine(bD HS0.out.wr hk hn).mono ?_;rintro e W1 ⟨hf,hr⟩;rcases hq0:CA s [x.kind,x.name] with _|s1;(·rw[hq0] at hr;(obtain⟨p,rfl⟩:=hr);(obtain rfl:R=none:=(by rw[HR.out,hq0];try rfl));exact(show _∧_ from⟨rfl,HS0.out.fr.trans hf,⟨_,rfl⟩⟩));rw[hq0] at hr;(obtain⟨rfl,hr⟩:=hr);(have HS1:=aA (HS0.out.step hf hr));(have HX1:=aA (HX0.out.step hf));clear c0 c1;(have c0:=HC0.out _ HX1.out);rw[hq0,Option.bind_some] at HR;clear hf hr;(have ct1:=HCt.out _ HS1.out.fr)))
     (obtain rfl:R=none:=HR.out)
     exact⟨rfl,HS1.out.fr,_,rfl⟩
end Go.Proofs.YtehbinobohjadaaGreatDoor
namespace Go.Proofs.YtehbinobohjadaaGreatDoor
open Go.RowKit Go.Sort Go.Extern.Stop Go.Stop Go.Extern
def aK(a b:ByteArray):Bool:=
 if ((b.toList==[58])||(b.toList==[44])||(b.toList==[59])||(b.toList==[41])||(b.toList==[93])||(b.toList==[37]))=true then false
 else if (b.toList==[40])=true then !(a.toList==[109,97,120])&&!(a.toList==[109,105,110])&&!(a.toList==[40])
 else !(a.toList==[40])&&!(a.toList==[91])
def UK(a:ByteArray):UInt8:=a.data.toList.headD 0
def xJ(a b:ByteArray):Bool:=JA (UK a)&&JA (UK b)
def yJ(a b:ByteArray):Bool:=PB (UK a)&&JA (UK b)
theorem jK{a:ByteArray}(h:0<a.size):a[0]=UK a:=by
 obtain⟨⟨l⟩⟩:=a
 match l,h with
 |c::l,h=>rfl
theorem QI{a b:ByteArray}(ha:0<a.size)(hb:0<b.size)(w:World):Calls Tryz.prog 52 #[.string a,.string b] w fun e w'=>e=.returned (.bool (xJ a b))∧w'=w:=by
 have hO:Hid (xJ a b=(JA a[0]&&JA b[0])):=by show _=_;rw[jK ha,jK hb];rfl
 have HA:=aA (CG a[0])
 have HB:=aA (CG b[0])
 generalize xJ a b=O at *
 generalize JA a[0]=A at *
 generalize JA b[0]=B at *
 cases A
 all_goals (
  go_enter Tryz.func52,Tryz.ntmps52
  go_wp2_with (first|(go_at_call 74;refine(HA.out _).mono ?_;rintro e w' ⟨rfl,h9⟩;subst w';clear HA)|(go_at_call 74;refine(HB.out _).mono ?_;rintro e w' ⟨rfl,h9⟩;subst w'))
  go_ret
  exact⟨CB (by rw[hO.out];simp),rfl⟩)
theorem QK{a b:ByteArray}(ha:0<a.size)(hb:0<b.size)(w:World):Calls Tryz.prog 53 #[.string a,.string b] w fun e w'=>e=.returned (.bool (yJ a b))∧w'=w:=by
 have hO:Hid (yJ a b=(PB a[0]&&JA b[0])):=by show _=_;rw[jK ha,jK hb];rfl
 have HA:=aA (aH a[0])
 have HB:=aA (CG b[0])
 generalize yJ a b=O at *
 generalize PB a[0]=A at *
 generalize JA b[0]=B at *
 cases A
 all_goals (
  go_enter Tryz.func53,Tryz.ntmps53
  go_wp2_with (first|(go_at_call 72;refine(HA.out _).mono ?_;rintro e w' ⟨rfl,h9⟩;subst w')|(go_at_call 74;refine(HB.out _).mono ?_;rintro e w' ⟨rfl,h9⟩;subst w'))
  go_ret
  exact⟨CB (by rw[hO.out];simp),rfl⟩)
theorem BI(a b:ByteArray)(w:World):Calls Tryz.prog 51 #[.string a,.string b] w fun e w'=>e=.returned (.bool (aK a b))∧w'=w:=by
 have hO:Hid (aK a b=if ((b.toList==[58])||(b.toList==[44])||(b.toList==[59])||(b.toList==[41])||(b.toList==[93])||(b.toList==[37]))=true then false else if (b.toList==[40])=true then !(a.toList==[109,97,120])&&!(a.toList==[109,105,110])&&!(a.toList==[40]) else !(a.toList==[40])&&!(a.toList==[91])):=rfl
 generalize aK a b=O at *
 cases h0:(b.toList==[58])
 rotate_left
 ·go_enter Tryz.func51,Tryz.ntmps51;go_wp2;go_ret;exact⟨CB (by rw[hO.out];simp[h0]),rfl⟩
 cases h1:(b.toList==[44])
 rotate_left
 ·go_enter Tryz.func51,Tryz.ntmps51;go_wp2;go_ret;exact⟨CB (by rw[hO.out];simp[h0,h1]),rfl⟩
 cases h2:(b.toList==[59])
 rotate_left
 ·go_enter Tryz.func51,Tryz.ntmps51;go_wp2;go_ret;exact⟨CB (by rw[hO.out];simp[h0,h1,h2]),rfl⟩
 cases h3:(b.toList==[41])
 rotate_left
 ·go_enter Tryz.func51,Tryz.ntmps51;go_wp2;go_ret;exact⟨CB (by rw[hO.out];simp[h0,h1,h2,h3]),rfl⟩
 cases h4:(b.toList==[93])
 rotate_left
 ·go_enter Tryz.func51,Tryz.ntmps51;go_wp2;go_ret;exact⟨CB (by rw[hO.out];simp[h0,h1,h2,h3,h4]),rfl⟩
 cases h5:(b.toList==[37])
 rotate_left
 ·go_enter Tryz.func51,Tryz.ntmps51;go_wp2;go_ret;exact⟨CB (by rw[hO.out];simp[h0,h1,h2,h3,h4,h5]),rfl⟩
 cases h6:(b.toList==[40])
 ·cases k0:(a.toList==[40])
  all_goals cases k1:(a.toList==[91])
  all_goals (go_enter Tryz.func51,Tryz.ntmps51;go_wp2;go_ret;exact⟨CB (by rw[hO.out];simp[h0,h1,h2,h3,h4,h5,h6,k0,k1]),rfl⟩)
 ·cases k0:(a.toList==[109,97,120])
  all_goals cases k1:(a.toList==[109,105,110])
  all_goals cases k2:(a.toList==[40])
  all_goals (go_enter Tryz.func51,Tryz.ntmps51;go_wp2;go_ret;exact⟨CB (by rw[hO.out];simp[h0,h1,h2,h3,h4,h5,h6,k0,k1,k2]),rfl⟩)
end Go.Proofs.YtehbinobohjadaaGreatDoor
namespace Go.Proofs.YtehbinobohjadaaGreatDoor
open Go.RowKit Go.Extern.Stop Go.Stop Go.Extern
theorem Tryz.infoByte:∃i,Tryz.prog.info? 5=some i∧i.zero=some (.int .u8 0)∧i.size=1∧i.bytes=1:=by
 have h:(Tryz.prog.info? 5).map (fun i=>(i.zero,i.size,i.bytes))=some (some (.int .u8 0),1,1):=by kernel_rfl
 obtain⟨i,hi,e⟩:=Option.map_eq_some_iff.1 h
 injection e with e1 e2
 injection e2 with e2 e3
 exact⟨i,hi,e1,e2,e3⟩
theorem Tryz.infoBuilder:∃j,Tryz.prog.info? 130=some j∧j.size=2:=by
 have h:(Tryz.prog.info? 130).map (·.size)=some 2:=by kernel_rfl
 exact Option.map_eq_some_iff.1 h
theorem Tryz.liesBld:liesAt Tryz.prog Tryz.prog.depth 130 (2 / Tryz.prog.cellsOf 130) 0 130 1=true:=by kernel_rfl
theorem Tryz.cellsByte:Tryz.prog.cellsOf 5=1:=by kernel_rfl
structure Pg(B b:Nat)(bs:List UInt8)(w:World):Prop where
 is:Lib.IsBuilder 130 5 B b (Lib.byteCells bs) w
 sz:B≤w.heap.size
structure PgStep(B b:Nat)(w w':World):Prop where
 bel:Below B w w'
 kp:∀k cs T fr,k≠b→w.heap[k]?=some (.cells cs T fr)→T≠5→w'.heap[k]?=w.heap[k]?
theorem PgStep.refl(B b:Nat)(w:World):PgStep B b w w:=⟨Below.refl _ _,fun _ _ _ _ _ _ _=>rfl⟩
set_option maxRecDepth 100000 in
theorem CO(b:Nat)(w:World)(h0:w.cell? ⟨b,0,none⟩=some (.pointer (some ⟨b,0,none⟩))):
 Calls Tryz.prog 129 #[.pointer (some ⟨b,0,none⟩)] w fun e w'=>e=.returned (.tuple #[])∧w'=w:=by
 obtain⟨j,hj,_⟩:=Tryz.infoBuilder
 go_enter Tryz.func129,Tryz.ntmps129
 go_wp2
 rw[Lib.run_neq_ptr_same w _ Tryz.underlying127 hj]
 go_wp2
 go_end0
 exact⟨rfl,rfl⟩
set_option maxRecDepth 100000 in
theorem xM(b:Nat)(w:World)(h0:w.cell? ⟨b,0,none⟩=some (.pointer none))(hsh:w.shape? b=some (130,2))(hfz:w.frozen? ⟨b,0,none⟩=false):
 Calls Tryz.prog 129 #[.pointer (some ⟨b,0,none⟩)] w fun e w'=>e=.returned (.tuple #[])∧w'=w.setCell ⟨b,0,none⟩ (.pointer (some ⟨b,0,none⟩)):=by
 obtain⟨j,hj,hjs⟩:=Tryz.infoBuilder
 go_enter Tryz.func129,Tryz.ntmps129
 go_wp2
 rw[Lib.run_to_unsafe w ⟨b,0,none⟩ Tryz.underlying127 Tryz.underlying134 hj (by rw[hjs];decide) hsh (Nat.zero_lt_succ 1)]
 simp only[Result.andThen]
 rw[Oper.upon_value]
 go_wp2
 rw[run_callFunc_extern Tryz.func146 (by kernel_rfl) (by kernel_rfl) (by kernel_rfl) (e:=Extern.AbiNoEscape.same) (by kernel_rfl)]
 rw[Lib.run_noEscape]
 simp only[Result.andThen]
 rw[Oper.upon_value]
 go_wp2
 rw[Lib.run_from_unsafe w ⟨b,0,none⟩ Tryz.underlying134 Tryz.underlying127 hj hsh Tryz.liesBld]
 simp only[Result.andThen]
 rw[Oper.upon_value]
 go_wp2
 go_end0
 exact⟨rfl,rfl⟩
theorem RP(B b:Nat)(bs:List UInt8)(w:World)(h:Pg B b bs w):
 Calls Tryz.prog 129 #[.pointer (some ⟨b,0,none⟩)] w fun e w'=>e=.returned (.tuple #[])∧Lib.BuilderAt 130 5 B b (.pointer (some ⟨b,0,none⟩)) (Lib.byteCells bs) w'∧PgStep B b w w':=by
 rcases h.is with h'|h'
 ·refine(xM b w h'.cell0 h'.shape h'.frozen0).mono ?_
  rintro e w' ⟨rfl,rfl⟩
  exact⟨rfl,h'.used _,(Below.refl B w).setCell (p:=⟨b,0,none⟩) h'.1 _,fun k cs T fr hk _ _=>Below.heap_setCell _ _ _ _ hk⟩
 ·refine(CO b w h'.cell0).mono ?_
  rintro e w' ⟨rfl,rfl⟩
  exact⟨rfl,h',PgStep.refl _ _ _⟩
theorem CE(B b:Nat)(bs:List UInt8)(s:ByteArray)(w:World)(h:Pg B b bs w)(hlen:bs.length+s.size≤140737488355328):
 Calls Tryz.prog 100 #[.pointer (some ⟨b,0,none⟩),.string s] w fun e w'=>e=.returned (.tuple #[.int .i64 s.size,.nilIface])∧Pg B b (bs++s.data.toList) w'∧PgStep B b w w':=by
 obtain⟨i0,hi,hz0,hz1,hz2⟩:=Tryz.infoByte
 have HSz:=aA h.sz
 have HC:=aA (RP B b bs w h)
 have hbl:(Lib.byteCells bs).length=bs.length:=Lib.byteCells_length _
 go_enter Tryz.func100,Tryz.ntmps100
 go_wp2_with fail
 go_at_call 129
 refine HC.out.mono ?_
 rintro e w1 ⟨rfl,⟨hB,v,hbk,hown,hne⟩,hst⟩
 have HSt:=aA hst
 have hs1:B≤w1.heap.size:=Nat.le_trans HSz.out hst.bel.size
 have c1:w1.cell? ⟨b,1,none⟩=some v:=by rw[Lib.cell_of_heap hbk];rfl
 clear hst HC
 go_wp2_with (at_builtin;refine Lib.wpList_append_own_string _ rfl _ _ 128 9 rfl B 5 i0 Tryz.underlying128 Tryz.underlying9 hi hz0 hz1 hz2 _ _ _ rfl hown s rfl ?c3 ?c4 ?c5 ?_)
 case c3=>unfold maxLen;omega
 case c4=>omega
 case c5=>exact hs1
 intro v' w2 hown' hgrow _
 have hlt:b<w1.heap.size:=lt_of_block hbk
 have hb2:w2.heap[b]?=some (.cells #[.pointer (some ⟨b,0,none⟩),v] 130 (0,0)):=by
  rw[hgrow.block b hlt (fun e=>hne e.symm)]
  exact hbk
 have d1:w2.cell? ⟨b,1,none⟩=some v:=by rw[Lib.cell_of_heap hb2];rfl
 have f1:w2.frozen? ⟨b,1,none⟩=false:=Lib.frozen_of_heap hb2 1
 obtain⟨ao,n',cap,rfl⟩:∃ao n' cap,v'=.slice ao n' cap:=by
  rcases hown'.2 with ⟨hv,_⟩|⟨g,cap,cur,hv,_⟩
  ·exact⟨_,_,_,hv⟩
  ·exact⟨_,_,_,hv⟩
 have HO:=aA hown'
 have HG:=aA hgrow
 have HB2:=aA hb2
 have HW:=aA (aI hown (aI hne hB))
 clear hown' hgrow hb2 hown hne hbk hB
 go_wp2
 go_ret2
 have hput:=Lib.BuilderAt.put (T:=130) (e:=5) HW.out.2.2 HB2.out (bs':=Lib.byteCells (bs++s.data.toList)) (by
  rw[Lib.byteCells_append,List.length_append,Lib.byteCells_length,Lib.byteCells_length,xA]
  exact HO.out) (by decide)
 have hb2':Below B w w2:=HSt.out.bel.grown HG.out hs1 (fun k hk=>(HW.out.1.lt k hk).1)
 refine⟨rfl,⟨.inr hput,by have:=hb2'.size;have:=HSz.out;simp;omega⟩,hb2'.setCell (p:=⟨b,1,none⟩) HW.out.2.2 _,fun k cs T fr hk hc hT=>?_⟩
 have h1:w1.heap[k]?=some (.cells cs T fr):=(HSt.out.kp k cs T fr hk hc hT).trans hc
 rw[Below.heap_setCell _ _ _ _ hk,HG.out.block k (lt_of_block h1) (fun e=>Lib.ownBlock_ne HW.out.1 h1 hT e.symm),h1,hc]
set_option maxRecDepth 100000 in
theorem gH(B b:Nat)(l:List UInt8)(w:World)(h:Pg B b l w)(h0:l≠[]):
 Calls Tryz.prog 101 #[.pointer (some ⟨b,0,none⟩)] w fun e w'=>e=.returned (.string ⟨l.toArray⟩)∧Below B w w':=by
 obtain⟨p,hB,v,hbk,hown,hne⟩:∃p,Lib.BuilderAt 130 5 B b p (Lib.byteCells l) w:=by
  rcases h.is with h|h
  ·exact⟨_,h⟩
  ·exact⟨_,h⟩
 have hl0:l.length≠0:=by simpa using h0
 rw[Lib.byteCells_length] at hown
 obtain⟨g,cap,cur,rfl,hbg,hg,hnc,hcm,hcs,htake⟩:∃g cap cur,v=.slice (some ⟨g,0,none⟩) l.length cap∧B≤g∧w.heap[g]?=some (.cells cur 5 (0,0))∧l.length≤cap∧cap≤maxLen∧cur.size=cap * 1∧cur.toList.take (l.length * 1)=Lib.byteCells l:=by
  rcases hown.2 with ⟨_,hz⟩|⟨g,cap,cur,hv,r⟩
  ·exact absurd hz hl0
  ·exact⟨g,cap,cur,hv,r⟩
 have hbd:w.drew.heap[b]?=some (.cells #[p,.slice (some ⟨g,0,none⟩) l.length cap] 130 (0,0)):=hbk
 have hgd:w.drew.heap[g]?=some (.cells cur 5 (0,0)):=hg
 have c1:w.drew.cell? ⟨b,1,none⟩=some (.slice (some ⟨g,0,none⟩) l.length cap):=by rw[Lib.cell_of_heap hbd];rfl
 have hSD:(Builtin.unsafeSliceData_ #[128] 149 #[.slice (some ⟨g,0,none⟩) l.length cap]).run Tryz.prog w.drew=.ok (.pointer (some ⟨g,0,none⟩)) w.drew:=
  Lib.run_unsafeSliceData_row _ _ _ _ _ _ (by omega)
 have hUS:(Builtin.unsafeString_ #[149,3] 9 #[.pointer (some ⟨g,0,none⟩),.int .i64 l.length]).run Tryz.prog w.drew=.ok (.string ⟨l.toArray⟩) (w.drew.freeze ⟨g,0,none⟩ l.length):=by
  refine Lib.run_unsafeString_row w.drew 149 3 9 5 Tryz.underlying149 Tryz.cellsByte g cur.size (by simp[World.shape?,hgd]) l h0 (by omega) (by unfold maxLen at hcm;omega) ?_
  intro j x hx
  exact hown.cells (g:=g) rfl j (.int .u8 x.toNat) (by simp[Lib.byteCells,hx])
 clear hbk hbd hg hgd hown htake hne h h0
 have mixed:Tryz.prog.follows Departure.mixedOrders=true:=by kernel_rfl
 go_enter Tryz.func101,Tryz.ntmps101
 go_wp2
 go_region_o
 all_goals (go_wp2;go_ret;exact⟨rfl,Lib.below_freeze (Below.drew (Below.refl B w)) (p:=⟨g,0,none⟩) hbg _⟩)
theorem bK{B b:Nat}{w:World}(hB:B≤b)(hw:B≤w.heap.size)(h:w.heap[b]?=some (.cells #[.pointer none,.slice none 0 0] 130 (0,0))):Pg B b [] w:=
 ⟨.inl ⟨hB,_,h,World.ownsRow_nil _ _ _ _,by simp[Value.ownBlock]⟩,hw⟩
end Go.Proofs.YtehbinobohjadaaGreatDoor
namespace Go.Proofs.YtehbinobohjadaaGreatDoor
open Go.RowKit Go.Sort Go.Extern.Stop Go.Stop Go.Extern
def BB(ap:ByteArray→ByteArray→Bool):ByteArray→List ByteArray→List UInt8
 |_,[]=>[]
 |p,x::l=>(if p.size=0 then [] else if ap p x=true then [32] else [])++(x.data.toList++BB ap x l)
theorem fI{ap:ByteArray→ByteArray→Bool}{l:List ByteArray}{j:Nat}{x:ByteArray}(h:l[j]?=some x)(p:ByteArray):BB ap p (l.drop j)=(if p.size=0 then [] else if ap p x=true then [32] else [])++(x.data.toList++BB ap x (l.drop (j+1))):=by
 obtain⟨hlt,he⟩:=List.getElem?_eq_some_iff.1 h
 rw[List.drop_eq_getElem_cons hlt,he]
 rfl
theorem RdG.st{w:World}{B:Nat}{a:Option Addr}{n c:Nat}{l:List ByteArray}(h:RdG stE w B (.slice a n c) l){j:Nat}{s:ByteArray}(hj:l[j]?=some s):∃g o,a=some ⟨g,o,none⟩∧g<B∧w.cell? ⟨g,o+j,none⟩=some (.string s):=by
 obtain⟨g,o,e,hg,hr⟩:=h.at hj
 refine⟨g,o,e,hg,?_⟩
 have:=hr 0 _ rfl
 simpa [stE] using this
set_option linter.unusedSectionVars false
variable [Inhabited TP]
theorem LS{w:World}{wp:Nat}{s:WS}(h:WR w wp s)(hne:∀x,x∈s.ts→0<x.size)(h1:s.ts≠[])(hz:(BB aK ⟨#[]⟩ s.ts).length≤1000000):
 Calls Tryz.prog 54 #[.pointer (some ⟨wp,0,none⟩),.func (.func 51) #[] #[]] w fun e w'=>e=.returned (.string ⟨(BB aK ⟨#[]⟩ s.ts).toArray⟩)∧Below w.heap.size w w':=by
 obtain⟨a,m,c,c0,_,_,_,hrow,_⟩:=h.cells
 have hrd:=hrow.rd
 obtain⟨hm,hm48⟩:=hrd.len
 have hb0:Below w.heap.size w (w.alloc (.cells #[.pointer none,.slice none 0 0] 130)):=bA _ _
 have hpg:Pg w.heap.size w.heap.size [] (w.alloc (.cells #[.pointer none,.slice none 0 0] 130)):=bK (nR _) hb0.size (heap_alloc_new _ _)
 have c0':=(hb0.cell (p:=⟨wp,0,none⟩) h.in).trans c0
 obtain⟨W0,hW0⟩:∃W0,W0=w.alloc (.cells #[.pointer none,.slice none 0 0] 130):=⟨_,rfl⟩
 rw[←hW0] at hb0 hpg c0'
 have HW:=aA hW0
 have HB0:=aA hb0
 have HP0:=aA hpg
 have HRd:=aA hrd
 have HM:=aA hm
 have HNe:=aA hne
 have hT0:BB aK ⟨#[]⟩ s.ts≠[]:=by
  match hs:s.ts with
  | []=>exact absurd hs h1
  |x::l=>
   have:=hne x (by rw[hs];simp)
   intro e
   have e2:=congrArg List.length e
   simp only[BB,List.length_append,List.length_nil,xA] at e2
   omega
 obtain⟨T,hT⟩:∃T,T=BB aK ⟨#[]⟩ s.ts:=⟨_,rfl⟩
 rw[←hT] at hz hT0 ⊢
 have HT:=aA hT
 have HT0:=aA hT0
 have HZ:=aA hz
 obtain⟨bb,hbb⟩:∃bb,bb=w.heap.size:=⟨_,rfl⟩
 have HBB:=aA hbb
 clear hT hW0 hb0 hpg hrd hm hne hT0 hz h h1 hrow c0
 go_enter Tryz.func54,Tryz.ntmps54
 go_upto_region 2 with fail
 rw[←HW.out,←hbb]
 rw[←hbb] at HP0
 clear hbb
 go_wp2_with fail
 go_loopw [6,14] (fun pv iv wr=>∃(j:Nat) (p:ByteArray) (bs:List UInt8),j≤m∧iv=.int .i64 j∧pv=.string p∧T=bs++BB aK p (s.ts.drop j)∧Pg w.heap.size bb bs wr∧Below w.heap.size w wr) (fun _ iv _=>(m - RowKit.intOf iv).toNat)
 case atStart=>exact⟨0,⟨#[]⟩,[],by omega,rfl,rfl,HT.out,by rw[HBB.out] at HP0 ⊢;exact HP0.out,HB0.out⟩
 case round=>
  obtain⟨j,p,bs,hj,rfl,rfl,ht,hp,hb⟩:=hrel
  have HJ:=aA ht
  have HP:=aA hp
  have HB:=aA hb
  have HL:Hid (bs.length≤1000000):=by
   have e:=congrArg List.length ht
   have:=HZ.out
   show _≤_
   simp only[List.length_append] at e
   omega
  clear ht hp hb
  by_cases hin:j<m
  ·have hjz:(j:Int)<m:=by omega
   obtain⟨x,hx⟩:∃x,s.ts[j]?=some x:=⟨_,List.getElem?_eq_getElem (by have:=HM.out;omega)⟩
   have hx0:=HNe.out x (List.mem_of_getElem? hx)
   obtain⟨g,o,hoa,hg,cx⟩:=(HRd.out.below HB.out).st hx
   have HK:=aA (HJ.out.trans (congrArg (bs++·) (fI hx p)))
   have HZx:Hid (bs.length+(1+x.size)≤3000000):=by
    have e:=congrArg List.length HK.out
    have:=HZ.out
    have:=HL.out
    show _≤_
    simp only[List.length_append,xA] at e
    omega
   subst hoa
   clear HJ hx
   by_cases hp0:p.size=0
   ·have he:p.toList.isEmpty=true:=by rw[Lib.toList_data,List.isEmpty_iff];exact List.eq_nil_of_length_eq_zero (by rw[xA];exact hp0)
    have HK2:Hid (T=(bs++x.data.toList)++BB aK x (s.ts.drop (j+1))):=by show _=_;rw[HK.out,if_pos hp0];simp
    clear HK hp0
    go_wp2_with (go_at_call 100;refine(CE _ _ _ _ _ HP.out (by have:=HZx.out;omega)).mono ?_;rintro e W2 ⟨rfl,hp2,hs2⟩;(have HP2:=aA hp2);(have HS2:=aA hs2.bel);clear hp2 hs2)
    go_roundw
    case rel=>exact⟨j+1,x,_,by omega,by go_num,rfl,HK2.out,HP2.out,HB.out.trans HS2.out⟩
    case measure=>simp[RowKit.intOf];omega
   ·have he:p.toList.isEmpty=false:=by
     rw[Lib.toList_data]
     match hd:p.data.toList with
     | []=>exact absurd (by rw[←xA,hd];rfl) hp0
     |_::_=>rfl
    have HA:=aA (fun w=>BI p x w)
    rw[if_neg hp0] at HK
    cases hap:aK p x
    ·rw[hap] at HA HK
     have HK2:Hid (T=(bs++x.data.toList)++BB aK x (s.ts.drop (j+1))):=by show _=_;rw[HK.out];simp
     clear HK hp0 hap
     go_wp2_with (first|(go_at_call 51;refine(HA.out _).mono ?_;rintro e w' ⟨rfl,h9⟩;subst w')|(go_at_call 100;refine(CE _ _ _ _ _ HP.out (by have:=HZx.out;omega)).mono ?_;rintro e W2 ⟨rfl,hp2,hs2⟩;(have HP2:=aA hp2);(have HS2:=aA hs2.bel);clear hp2 hs2))
     go_roundw
     case rel=>exact⟨j+1,x,_,by omega,by go_num,rfl,HK2.out,HP2.out,HB.out.trans HS2.out⟩
     case measure=>simp[RowKit.intOf];omega
    ·rw[hap] at HA HK
     have HK2:Hid (T=((bs++[32])++x.data.toList)++BB aK x (s.ts.drop (j+1))):=by show _=_;rw[HK.out];simp
     clear HK hp0 hap
     go_wp2_with (first|(go_at_call 51;refine(HA.out _).mono ?_;rintro e w' ⟨rfl,h9⟩;subst w')|(go_at_call 100;revert HP2;intro HP2;refine(CE _ _ _ _ _ HP2.out (by have:=HZx.out;simp only[List.length_append,List.length_cons,List.length_nil];omega)).mono ?_;rintro e W3 ⟨rfl,hp2,hs2⟩;(have HP3:=aA hp2);(have HS3:=aA hs2.bel);clear hp2 hs2)|(go_at_call 100;refine(CE _ _ _ (⟨#[32]⟩:ByteArray) _ HP.out (by have:=HZx.out;show _+1≤_;omega)).mono ?_;rintro e W2 ⟨rfl,hp2,hs2⟩;(have HP2:=aA hp2);(have HS2:=aA hs2.bel);clear hp2 hs2))
     go_roundw
     case rel=>exact⟨j+1,x,_,by omega,by go_num,rfl,HK2.out,HP3.out,(HB.out.trans HS2.out).trans HS3.out⟩
     case measure=>simp[RowKit.intOf];omega
  ·obtain rfl:j=m:=by omega
   have hjz:¬(j:Int)<j:=by omega
   have HE:Hid (T=bs):=by
    have:=HJ.out
    rw[List.drop_eq_nil_of_le (Nat.le_of_eq HM.out.symm)] at this
    show _=_
    rw[this]
    simp[BB]
   clear HJ
   obtain rfl:T=bs:=HE.out
   go_wp2_with (go_at_call 101;refine(gH _ _ _ _ HP.out HT0.out).mono ?_;rintro e W2 ⟨rfl,hb2⟩;(have HB2:=aA hb2);clear hb2)
   go_ret
   exact⟨rfl,HB.out.trans HB2.out⟩
theorem MS{w:World}{wp:Nat}{s:WS}(h:WR w wp s)(hne:∀x,x∈s.ts→0<x.size)(h1:s.ts≠[])(hz:(BB xJ ⟨#[]⟩ s.ts).length≤1000000):
 Calls Tryz.prog 54 #[.pointer (some ⟨wp,0,none⟩),.func (.func 52) #[] #[]] w fun e w'=>e=.returned (.string ⟨(BB xJ ⟨#[]⟩ s.ts).toArray⟩)∧Below w.heap.size w w':=by
 obtain⟨a,m,c,c0,_,_,_,hrow,_⟩:=h.cells
 have hrd:=hrow.rd
 obtain⟨hm,hm48⟩:=hrd.len
 have hb0:Below w.heap.size w (w.alloc (.cells #[.pointer none,.slice none 0 0] 130)):=bA _ _
 have hpg:Pg w.heap.size w.heap.size [] (w.alloc (.cells #[.pointer none,.slice none 0 0] 130)):=bK (nR _) hb0.size (heap_alloc_new _ _)
 have c0':=(hb0.cell (p:=⟨wp,0,none⟩) h.in).trans c0
 obtain⟨W0,hW0⟩:∃W0,W0=w.alloc (.cells #[.pointer none,.slice none 0 0] 130):=⟨_,rfl⟩
 rw[←hW0] at hb0 hpg c0'
 have HW:=aA hW0
 have HB0:=aA hb0
 have HP0:=aA hpg
 have HRd:=aA hrd
 have HM:=aA hm
 have HNe:=aA hne
 have hT0:BB xJ ⟨#[]⟩ s.ts≠[]:=by
  match hs:s.ts with
  | []=>exact absurd hs h1
  |x::l=>
   have:=hne x (by rw[hs];simp)
   intro e
   have e2:=congrArg List.length e
   simp only[BB,List.length_append,List.length_nil,xA] at e2
   omega
 obtain⟨T,hT⟩:∃T,T=BB xJ ⟨#[]⟩ s.ts:=⟨_,rfl⟩
 rw[←hT] at hz hT0 ⊢
 have HT:=aA hT
 have HT0:=aA hT0
 have HZ:=aA hz
 obtain⟨bb,hbb⟩:∃bb,bb=w.heap.size:=⟨_,rfl⟩
 have HBB:=aA hbb
 clear hT hW0 hb0 hpg hrd hm hne hT0 hz h h1 hrow c0
 go_enter Tryz.func54,Tryz.ntmps54
 go_upto_region 2 with fail
 rw[←HW.out,←hbb]
 rw[←hbb] at HP0
 clear hbb
 go_wp2_with fail
 go_loopw [6,14] (fun pv iv wr=>∃(j:Nat) (p:ByteArray) (bs:List UInt8),j≤m∧iv=.int .i64 j∧pv=.string p∧T=bs++BB xJ p (s.ts.drop j)∧Pg w.heap.size bb bs wr∧Below w.heap.size w wr) (fun _ iv _=>(m - RowKit.intOf iv).toNat)
 case atStart=>exact⟨0,⟨#[]⟩,[],by omega,rfl,rfl,HT.out,by rw[HBB.out] at HP0 ⊢;exact HP0.out,HB0.out⟩
 case round=>
  obtain⟨j,p,bs,hj,rfl,rfl,ht,hp,hb⟩:=hrel
  have HJ:=aA ht
  have HP:=aA hp
  have HB:=aA hb
  have HL:Hid (bs.length≤1000000):=by
   have e:=congrArg List.length ht
   have:=HZ.out
   show _≤_
   simp only[List.length_append] at e
   omega
  clear ht hp hb
  by_cases hin:j<m
  ·have hjz:(j:Int)<m:=by omega
   obtain⟨x,hx⟩:∃x,s.ts[j]?=some x:=⟨_,List.getElem?_eq_getElem (by have:=HM.out;omega)⟩
   have hx0:=HNe.out x (List.mem_of_getElem? hx)
   obtain⟨g,o,hoa,hg,cx⟩:=(HRd.out.below HB.out).st hx
   have HK:=aA (HJ.out.trans (congrArg (bs++·) (fI hx p)))
   have HZx:Hid (bs.length+(1+x.size)≤3000000):=by
    have e:=congrArg List.length HK.out
    have:=HZ.out
    have:=HL.out
    show _≤_
    simp only[List.length_append,xA] at e
    omega
   subst hoa
   clear HJ hx
   by_cases hp0:p.size=0
   ·have he:p.toList.isEmpty=true:=by rw[Lib.toList_data,List.isEmpty_iff];exact List.eq_nil_of_length_eq_zero (by rw[xA];exact hp0)
    have HK2:Hid (T=(bs++x.data.toList)++BB xJ x (s.ts.drop (j+1))):=by show _=_;rw[HK.out,if_pos hp0];simp
    clear HK hp0
    go_wp2_with (go_at_call 100;refine(CE _ _ _ _ _ HP.out (by have:=HZx.out;omega)).mono ?_;rintro e W2 ⟨rfl,hp2,hs2⟩;(have HP2:=aA hp2);(have HS2:=aA hs2.bel);clear hp2 hs2)
    go_roundw
    case rel=>exact⟨j+1,x,_,by omega,by go_num,rfl,HK2.out,HP2.out,HB.out.trans HS2.out⟩
    case measure=>simp[RowKit.intOf];omega
   ·have he:p.toList.isEmpty=false:=by
     rw[Lib.toList_data]
     match hd:p.data.toList with
     | []=>exact absurd (by rw[←xA,hd];rfl) hp0
     |_::_=>rfl
    have HA:=aA (fun w=>QI (Nat.pos_of_ne_zero hp0) hx0 w)
    rw[if_neg hp0] at HK
    cases hap:xJ p x
    ·rw[hap] at HA HK
     have HK2:Hid (T=(bs++x.data.toList)++BB xJ x (s.ts.drop (j+1))):=by show _=_;rw[HK.out];simp
     clear HK hp0 hap
     go_wp2_with (first|(go_at_call 52;refine(HA.out _).mono ?_;rintro e w' ⟨rfl,h9⟩;subst w')|(go_at_call 100;refine(CE _ _ _ _ _ HP.out (by have:=HZx.out;omega)).mono ?_;rintro e W2 ⟨rfl,hp2,hs2⟩;(have HP2:=aA hp2);(have HS2:=aA hs2.bel);clear hp2 hs2))
     go_roundw
     case rel=>exact⟨j+1,x,_,by omega,by go_num,rfl,HK2.out,HP2.out,HB.out.trans HS2.out⟩
     case measure=>simp[RowKit.intOf];omega
    ·rw[hap] at HA HK
     have HK2:Hid (T=((bs++[32])++x.data.toList)++BB xJ x (s.ts.drop (j+1))):=by show _=_;rw[HK.out];simp
     clear HK hp0 hap
     go_wp2_with (first|(go_at_call 52;refine(HA.out _).mono ?_;rintro e w' ⟨rfl,h9⟩;subst w')|(go_at_call 100;revert HP2;intro HP2;refine(CE _ _ _ _ _ HP2.out (by have:=HZx.out;simp only[List.length_append,List.length_cons,List.length_nil];omega)).mono ?_;rintro e W3 ⟨rfl,hp2,hs2⟩;(have HP3:=aA hp2);(have HS3:=aA hs2.bel);clear hp2 hs2)|(go_at_call 100;refine(CE _ _ _ (⟨#[32]⟩:ByteArray) _ HP.out (by have:=HZx.out;show _+1≤_;omega)).mono ?_;rintro e W2 ⟨rfl,hp2,hs2⟩;(have HP2:=aA hp2);(have HS2:=aA hs2.bel);clear hp2 hs2))
     go_roundw
     case rel=>exact⟨j+1,x,_,by omega,by go_num,rfl,HK2.out,HP3.out,(HB.out.trans HS2.out).trans HS3.out⟩
     case measure=>simp[RowKit.intOf];omega
  ·obtain rfl:j=m:=by omega
   have hjz:¬(j:Int)<j:=by omega
   have HE:Hid (T=bs):=by
    have:=HJ.out
    rw[List.drop_eq_nil_of_le (Nat.le_of_eq HM.out.symm)] at this
    show _=_
    rw[this]
    simp[BB]
   clear HJ
   obtain rfl:T=bs:=HE.out
   go_wp2_with (go_at_call 101;refine(gH _ _ _ _ HP.out HT0.out).mono ?_;rintro e W2 ⟨rfl,hb2⟩;(have HB2:=aA hb2);clear hb2)
   go_ret
   exact⟨rfl,HB.out.trans HB2.out⟩
theorem NS{w:World}{wp:Nat}{s:WS}(h:WR w wp s)(hne:∀x,x∈s.ts→0<x.size)(h1:s.ts≠[])(hz:(BB yJ ⟨#[]⟩ s.ts).length≤1000000):
 Calls Tryz.prog 54 #[.pointer (some ⟨wp,0,none⟩),.func (.func 53) #[] #[]] w fun e w'=>e=.returned (.string ⟨(BB yJ ⟨#[]⟩ s.ts).toArray⟩)∧Below w.heap.size w w':=by
 obtain⟨a,m,c,c0,_,_,_,hrow,_⟩:=h.cells
 have hrd:=hrow.rd
 obtain⟨hm,hm48⟩:=hrd.len
 have hb0:Below w.heap.size w (w.alloc (.cells #[.pointer none,.slice none 0 0] 130)):=bA _ _
 have hpg:Pg w.heap.size w.heap.size [] (w.alloc (.cells #[.pointer none,.slice none 0 0] 130)):=bK (nR _) hb0.size (heap_alloc_new _ _)
 have c0':=(hb0.cell (p:=⟨wp,0,none⟩) h.in).trans c0
 obtain⟨W0,hW0⟩:∃W0,W0=w.alloc (.cells #[.pointer none,.slice none 0 0] 130):=⟨_,rfl⟩
 rw[←hW0] at hb0 hpg c0'
 have HW:=aA hW0
 have HB0:=aA hb0
 have HP0:=aA hpg
 have HRd:=aA hrd
 have HM:=aA hm
 have HNe:=aA hne
 have hT0:BB yJ ⟨#[]⟩ s.ts≠[]:=by
  match hs:s.ts with
  | []=>exact absurd hs h1
  |x::l=>
   have:=hne x (by rw[hs];simp)
   intro e
   have e2:=congrArg List.length e
   simp only[BB,List.length_append,List.length_nil,xA] at e2
   omega
 obtain⟨T,hT⟩:∃T,T=BB yJ ⟨#[]⟩ s.ts:=⟨_,rfl⟩
 rw[←hT] at hz hT0 ⊢
 have HT:=aA hT
 have HT0:=aA hT0
 have HZ:=aA hz
 obtain⟨bb,hbb⟩:∃bb,bb=w.heap.size:=⟨_,rfl⟩
 have HBB:=aA hbb
 clear hT hW0 hb0 hpg hrd hm hne hT0 hz h h1 hrow c0
 go_enter Tryz.func54,Tryz.ntmps54
 go_upto_region 2 with fail
 rw[←HW.out,←hbb]
 rw[←hbb] at HP0
 clear hbb
 go_wp2_with fail
 go_loopw [6,14] (fun pv iv wr=>∃(j:Nat) (p:ByteArray) (bs:List UInt8),j≤m∧iv=.int .i64 j∧pv=.string p∧T=bs++BB yJ p (s.ts.drop j)∧Pg w.heap.size bb bs wr∧Below w.heap.size w wr) (fun _ iv _=>(m - RowKit.intOf iv).toNat)
 case atStart=>exact⟨0,⟨#[]⟩,[],by omega,rfl,rfl,HT.out,by rw[HBB.out] at HP0 ⊢;exact HP0.out,HB0.out⟩
 case round=>
  obtain⟨j,p,bs,hj,rfl,rfl,ht,hp,hb⟩:=hrel
  have HJ:=aA ht
  have HP:=aA hp
  have HB:=aA hb
  have HL:Hid (bs.length≤1000000):=by
   have e:=congrArg List.length ht
   have:=HZ.out
   show _≤_
   simp only[List.length_append] at e
   omega
  clear ht hp hb
  by_cases hin:j<m
  ·have hjz:(j:Int)<m:=by omega
   obtain⟨x,hx⟩:∃x,s.ts[j]?=some x:=⟨_,List.getElem?_eq_getElem (by have:=HM.out;omega)⟩
   have hx0:=HNe.out x (List.mem_of_getElem? hx)
   obtain⟨g,o,hoa,hg,cx⟩:=(HRd.out.below HB.out).st hx
   have HK:=aA (HJ.out.trans (congrArg (bs++·) (fI hx p)))
   have HZx:Hid (bs.length+(1+x.size)≤3000000):=by
    have e:=congrArg List.length HK.out
    have:=HZ.out
    have:=HL.out
    show _≤_
    simp only[List.length_append,xA] at e
    omega
   subst hoa
   clear HJ hx
   by_cases hp0:p.size=0
   ·have he:p.toList.isEmpty=true:=by rw[Lib.toList_data,List.isEmpty_iff];exact List.eq_nil_of_length_eq_zero (by rw[xA];exact hp0)
    have HK2:Hid (T=(bs++x.data.toList)++BB yJ x (s.ts.drop (j+1))):=by show _=_;rw[HK.out,if_pos hp0];simp
    clear HK hp0
    go_wp2_with (go_at_call 100;refine(CE _ _ _ _ _ HP.out (by have:=HZx.out;omega)).mono ?_;rintro e W2 ⟨rfl,hp2,hs2⟩;(have HP2:=aA hp2);(have HS2:=aA hs2.bel);clear hp2 hs2)
    go_roundw
    case rel=>exact⟨j+1,x,_,by omega,by go_num,rfl,HK2.out,HP2.out,HB.out.trans HS2.out⟩
    case measure=>simp[RowKit.intOf];omega
   ·have he:p.toList.isEmpty=false:=by
     rw[Lib.toList_data]
     match hd:p.data.toList with
     | []=>exact absurd (by rw[←xA,hd];rfl) hp0
     |_::_=>rfl
    have HA:=aA (fun w=>QK (Nat.pos_of_ne_zero hp0) hx0 w)
    rw[if_neg hp0] at HK
    cases hap:yJ p x
    ·rw[hap] at HA HK
     have HK2:Hid (T=(bs++x.data.toList)++BB yJ x (s.ts.drop (j+1))):=by show _=_;rw[HK.out];simp
     clear HK hp0 hap
     go_wp2_with (first|(go_at_call 53;refine(HA.out _).mono ?_;rintro e w' ⟨rfl,h9⟩;subst w')|(go_at_call 100;refine(CE _ _ _ _ _ HP.out (by have:=HZx.out;omega)).mono ?_;rintro e W2 ⟨rfl,hp2,hs2⟩;(have HP2:=aA hp2);(have HS2:=aA hs2.bel);clear hp2 hs2))
     go_roundw
     case rel=>exact⟨j+1,x,_,by omega,by go_num,rfl,HK2.out,HP2.out,HB.out.trans HS2.out⟩
     case measure=>simp[RowKit.intOf];omega
    ·rw[hap] at HA HK
     have HK2:Hid (T=((bs++[32])++x.data.toList)++BB yJ x (s.ts.drop (j+1))):=by show _=_;rw[HK.out];simp
     clear HK hp0 hap
     go_wp2_with (first|(go_at_call 53;refine(HA.out _).mono ?_;rintro e w' ⟨rfl,h9⟩;subst w')|(go_at_call 100;revert HP2;intro HP2;refine(CE _ _ _ _ _ HP2.out (by have:=HZx.out;simp only[List.length_append,List.length_cons,List.length_nil];omega)).mono ?_;rintro e W3 ⟨rfl,hp2,hs2⟩;(have HP3:=aA hp2);(have HS3:=aA hs2.bel);clear hp2 hs2)|(go_at_call 100;refine(CE _ _ _ (⟨#[32]⟩:ByteArray) _ HP.out (by have:=HZx.out;show _+1≤_;omega)).mono ?_;rintro e W2 ⟨rfl,hp2,hs2⟩;(have HP2:=aA hp2);(have HS2:=aA hs2.bel);clear hp2 hs2))
     go_roundw
     case rel=>exact⟨j+1,x,_,by omega,by go_num,rfl,HK2.out,HP3.out,(HB.out.trans HS2.out).trans HS3.out⟩
     case measure=>simp[RowKit.intOf];omega
  ·obtain rfl:j=m:=by omega
   have hjz:¬(j:Int)<j:=by omega
   have HE:Hid (T=bs):=by
    have:=HJ.out
    rw[List.drop_eq_nil_of_le (Nat.le_of_eq HM.out.symm)] at this
    show _=_
    rw[this]
    simp[BB]
   clear HJ
   obtain rfl:T=bs:=HE.out
   go_wp2_with (go_at_call 101;refine(gH _ _ _ _ HP.out HT0.out).mono ?_;rintro e W2 ⟨rfl,hb2⟩;(have HB2:=aA hb2);clear hb2)
   go_ret
   exact⟨rfl,HB.out.trans HB2.out⟩
end Go.Proofs.YtehbinobohjadaaGreatDoor
namespace Go.Proofs.YtehbinobohjadaaGreatDoor
open Go.RowKit Go.Sort Go.Extern.Stop Go.Stop Go.Extern
def jB(ap:ByteArray→ByteArray→Bool)(ts:List ByteArray):ByteArray:=⟨(BB ap ⟨#[]⟩ ts).toArray⟩
def EV(ts:List ByteArray):Nat→ByteArray→ByteArray
 |0,_=>if (jB aK ts).size≤300 then jB aK ts else if (jB xJ ts).size≤300 then jB xJ ts else jB yJ ts
 |1,_=>if (jB xJ ts).size≤300 then jB xJ ts else jB yJ ts
 |2,_=>jB yJ ts
 |_,X=>X
def ZB(ts:List ByteArray):ByteArray:=EV ts 0 ⟨#[]⟩
set_option linter.unusedSectionVars false
variable [Inhabited TP]
theorem qQ{w:World}{wp:Nat}{s:WS}(h:WR w wp s)(hne:∀x,x∈s.ts→0<x.size)(h1:s.ts≠[])(z0:(BB aK ⟨#[]⟩ s.ts).length≤1000000)(z1:(BB xJ ⟨#[]⟩ s.ts).length≤1000000)(z2:(BB yJ ⟨#[]⟩ s.ts).length≤1000000):
 Calls Tryz.prog 21 #[.pointer (some ⟨wp,0,none⟩)] w fun e w'=>e=.returned (.string (ZB s.ts))∧Below w.heap.size w w':=by
 have hb0:Below w.heap.size w (w.alloc (.cells #[.func (.func 51) #[] #[],.func (.func 52) #[] #[],.func (.func 53) #[] #[]] 104)):=bA _ _
 have hk0:=heap_alloc_new w (.cells #[.func (.func 51) #[] #[],.func (.func 52) #[] #[],.func (.func 53) #[] #[]] 104)
 obtain⟨W0,hW0⟩:∃W0,W0=w.alloc (.cells #[.func (.func 51) #[] #[],.func (.func 52) #[] #[],.func (.func 53) #[] #[]] 104):=⟨_,rfl⟩
 rw[←hW0] at hb0 hk0
 have HW:=aA hW0
 have HB0:=aA hb0
 have HR0:=aA (h.below hb0)
 obtain⟨bb,hbb⟩:∃bb,bb=w.heap.size:=⟨_,rfl⟩
 rw[←hbb] at hk0
 have HK0:=aA hk0
 have HJ0:=aA (fun W hW=>LS (w:=W) (wp:=wp) hW hne h1 z0)
 have HJ1:=aA (fun W hW=>MS (w:=W) (wp:=wp) hW hne h1 z1)
 have HJ2:=aA (fun W hW=>NS (w:=W) (wp:=wp) hW hne h1 z2)
 obtain⟨T,hT⟩:∃T,T=ZB s.ts:=⟨_,rfl⟩
 rw[←hT]
 have HT:Hid (T=EV s.ts 0 ⟨#[]⟩):=hT
 clear hT hW0 hb0 hk0 h hne h1 z0 z1 z2
 go_enter Tryz.func21,Tryz.ntmps21
 go_wp2_with fail
 rw[←HW.out,←hbb]
 clear hbb
 go_loopw [3,8] (fun lv iv wr=>∃(j:Nat) (X:ByteArray),j≤3∧iv=.int .i64 j∧lv=.string X∧T=EV s.ts j X∧WR wr wp s∧Below w.heap.size w wr∧wr.heap[bb]?=some (.cells #[.func (.func 51) #[] #[],.func (.func 52) #[] #[],.func (.func 53) #[] #[]] 104 (0,0))) (fun _ iv _=>(3 - RowKit.intOf iv).toNat)
 case atStart=>exact⟨0,⟨#[]⟩,by omega,rfl,rfl,HT.out,HR0.out,HB0.out,HK0.out⟩
 case round=>
  obtain⟨j,X,hj,rfl,rfl,ht,hr,hb,hk⟩:=hrel
  have HX:=aA ht
  have HR:=aA hr
  have HB:=aA hb
  have HK:=aA hk
  have k0:wr.cell? ⟨bb,0,none⟩=some (.func (.func 51) #[] #[]):=by simp[World.cell?,hk]
  have k1:wr.cell? ⟨bb,1,none⟩=some (.func (.func 52) #[] #[]):=by simp[World.cell?,hk]
  have k2:wr.cell? ⟨bb,2,none⟩=some (.func (.func 53) #[] #[]):=by simp[World.cell?,hk]
  clear ht hr hb hk
  rcases (by omega:j=0∨j=1∨j=2∨j=3) with hj0|hj0|hj0|hj0
  ·subst hj0
   obtain⟨Y,hY⟩:∃Y,Y=jB aK s.ts:=⟨_,rfl⟩
   have HJ:=aA (HJ0.out wr HR.out)
   have hJ:(⟨(BB aK ⟨#[]⟩ s.ts).toArray⟩:ByteArray)=Y:=hY.symm
   rw[hJ] at HJ
   have HY:=aA hY
   clear hJ hY
   by_cases h3:Y.size≤300
   ·have h3z:(Y.size:Int)≤300:=by omega
    have HE:Hid (T=Y):=by show _=_;rw[HX.out,HY.out] at *;exact if_pos h3
    go_wp2_with (go_at_call 54;refine HJ.out.mono ?_;rintro e W2 ⟨rfl,hb2⟩;(have HB2:=aA hb2);clear hb2)
    go_ret
    (obtain rfl:T=Y:=HE.out)
    exact⟨rfl,HB.out.trans (HB2.out.mono HB.out.size)⟩
   ·have h3z:¬(Y.size:Int)≤300:=by omega
    have HE:Hid (T=EV s.ts (0+1) Y):=by show _=_;rw[HX.out,HY.out] at *;exact if_neg h3
    go_wp2_with (go_at_call 54;refine HJ.out.mono ?_;rintro e W2 ⟨rfl,hb2⟩;(have HB2:=aA hb2);clear hb2)
    go_roundw
    case rel=>exact⟨0+1,Y,by omega,by go_num,rfl,HE.out,HR.out.below HB2.out,HB.out.trans (HB2.out.mono HB.out.size),(HB2.out.block _ (Array.getElem?_eq_some_iff.1 HK.out).1).trans HK.out⟩
    case measure=>simp[RowKit.intOf]
  ·subst hj0
   obtain⟨Y,hY⟩:∃Y,Y=jB xJ s.ts:=⟨_,rfl⟩
   have HJ:=aA (HJ1.out wr HR.out)
   have hJ:(⟨(BB xJ ⟨#[]⟩ s.ts).toArray⟩:ByteArray)=Y:=hY.symm
   rw[hJ] at HJ
   have HY:=aA hY
   clear hJ hY
   by_cases h3:Y.size≤300
   ·have h3z:(Y.size:Int)≤300:=by omega
    have HE:Hid (T=Y):=by show _=_;rw[HX.out,HY.out] at *;exact if_pos h3
    go_wp2_with (go_at_call 54;refine HJ.out.mono ?_;rintro e W2 ⟨rfl,hb2⟩;(have HB2:=aA hb2);clear hb2)
    go_ret
    (obtain rfl:T=Y:=HE.out)
    exact⟨rfl,HB.out.trans (HB2.out.mono HB.out.size)⟩
   ·have h3z:¬(Y.size:Int)≤300:=by omega
    have HE:Hid (T=EV s.ts (1+1) Y):=by show _=_;rw[HX.out,HY.out] at *;exact if_neg h3
    go_wp2_with (go_at_call 54;refine HJ.out.mono ?_;rintro e W2 ⟨rfl,hb2⟩;(have HB2:=aA hb2);clear hb2)
    go_roundw
    case rel=>exact⟨1+1,Y,by omega,by go_num,rfl,HE.out,HR.out.below HB2.out,HB.out.trans (HB2.out.mono HB.out.size),(HB2.out.block _ (Array.getElem?_eq_some_iff.1 HK.out).1).trans HK.out⟩
    case measure=>simp[RowKit.intOf]
  ·subst hj0
   obtain⟨Y,hY⟩:∃Y,Y=jB yJ s.ts:=⟨_,rfl⟩
   have HJ:=aA (HJ2.out wr HR.out)
   have hJ:(⟨(BB yJ ⟨#[]⟩ s.ts).toArray⟩:ByteArray)=Y:=hY.symm
   rw[hJ] at HJ
   have HY:=aA hY
   clear hJ hY
   by_cases h3:Y.size≤300
   ·have h3z:(Y.size:Int)≤300:=by omega
    have HE:Hid (T=Y):=by show _=_;rw[HX.out,HY.out] at *;rfl
    go_wp2_with (go_at_call 54;refine HJ.out.mono ?_;rintro e W2 ⟨rfl,hb2⟩;(have HB2:=aA hb2);clear hb2)
    go_ret
    (obtain rfl:T=Y:=HE.out)
    exact⟨rfl,HB.out.trans (HB2.out.mono HB.out.size)⟩
   ·have h3z:¬(Y.size:Int)≤300:=by omega
    have HE:Hid (T=EV s.ts (2+1) Y):=by show _=_;rw[HX.out,HY.out] at *;rfl
    go_wp2_with (go_at_call 54;refine HJ.out.mono ?_;rintro e W2 ⟨rfl,hb2⟩;(have HB2:=aA hb2);clear hb2)
    go_roundw
    case rel=>exact⟨2+1,Y,by omega,by go_num,rfl,HE.out,HR.out.below HB2.out,HB.out.trans (HB2.out.mono HB.out.size),(HB2.out.block _ (Array.getElem?_eq_some_iff.1 HK.out).1).trans HK.out⟩
    case measure=>simp[RowKit.intOf]
  ·subst hj0
   have HE:Hid (T=X):=HX.out
   go_wp2_with fail
   go_ret
   (obtain rfl:T=X:=HE.out)
   exact⟨rfl,HB.out⟩
end Go.Proofs.YtehbinobohjadaaGreatDoor
namespace Go.Proofs.YtehbinobohjadaaGreatDoor
open Go.RowKit Go.Sort Go.Extern.Stop Go.Stop Go.Extern
mutual
def SK:Tn→Tn→Bool
 | .mk a b c d,.mk a' b' c' d'=>vA a a'&&(vA b b'&&(decide (c=c')&&MF d d'))
def MF:List Tn→List Tn→Bool
 | [],[]=>true
 |x::l,y::m=>SK x y&&MF l m
 | [],_::_=>false
 |_::_,[]=>false
end
theorem OU(t u:Tn):SK t u=(vA t.kind u.kind&&(vA t.word u.word&&(decide (t.num=u.num)&&MF t.kids u.kids))):=by
 cases t;cases u
 rw[SK]
 rfl
theorem gL:∀(l m:List Tn),l.length≠m.length→MF l m=false
 | [],[],h=>absurd rfl h
 | [],_::_,_=>by rw[MF]
 |_::_,[],_=>by rw[MF]
 |x::l,y::m,h=>by
  rw[MF,gL l m (fun e=>h (by simp[e]))]
  simp
theorem GO{l m:List Tn}{i:Nat}{x y:Tn}(hx:l[i]?=some x)(hy:m[i]?=some y):MF (l.drop i) (m.drop i)=(SK x y&&MF (l.drop (i+1)) (m.drop (i+1))):=by
 obtain⟨h1,e1⟩:=List.getElem?_eq_some_iff.1 hx
 obtain⟨h2,e2⟩:=List.getElem?_eq_some_iff.1 hy
 rw[List.drop_eq_getElem_cons h1,List.drop_eq_getElem_cons h2,e1,e2,MF]
def xN(t:Tn):Prop:=∀(u:Tn) (w:World) (ka kb:Option Addr) (kc kd:Nat),NT w (·<w.heap.size) ka kc t→NT w (·<w.heap.size) kb kd u→Calls Tryz.prog 55 #[.agg (RA t ka kc),.agg (RA u kb kd)] w fun e w'=>e=.returned (.bool (SK t u))∧Below w.heap.size w w'
theorem NT.grow{w w':World}{ka:Option Addr}{kc:Nat}{t:Tn}(h:NT w (·<w.heap.size) ka kc t)(hb:Below w.heap.size w w'):NT w' (·<w'.heap.size) ka kc t:=h.step fun b hb1=>⟨hb.block b hb1,Nat.lt_of_lt_of_le hb1 hb.size⟩
theorem lD{a b:Bool}(h:a=b):Ending.returned (.bool a)=.returned (.bool b):=by rw[h]
theorem bQ{t u:Tn}(ih:∀(i:Nat) (k:Tn),t.kids[i]?=some k→xN k){w:World}{ka kb:Option Addr}{kc kd:Nat}(ht:NT w (·<w.heap.size) ka kc t)(hu:NT w (·<w.heap.size) kb kd u):
 Calls Tryz.prog 102 #[.slice ka t.kids.length kc,.slice kb u.kids.length kd,.func (.func 55) #[] #[]] w fun e w'=>e=.returned (.bool (MF t.kids u.kids))∧Below w.heap.size w w':=by
 obtain⟨hc,hl,_⟩:=ht.is
 obtain⟨hc2,hl2,_⟩:=hu.is
 have HI:=aA ih
 have HT:=aA ht
 have HU:=aA hu
 obtain⟨R,hR⟩:∃R,R=MF t.kids u.kids:=⟨_,rfl⟩
 rw[←hR]
 obtain⟨n,hn⟩:∃n,n=t.kids.length:=⟨_,rfl⟩
 obtain⟨m,hm⟩:∃m,m=u.kids.length:=⟨_,rfl⟩
 rw[←hn,←hm]
 rw[←hn] at hc hl
 rw[←hm] at hc2 hl2
 by_cases hnm:n=m
 ·subst hnm
  have HN:=aA (aI hn hm)
  have HR:=aA hR
  clear hn hm hR ht hu ih
  go_enter Tryz.func102,Tryz.ntmps102
  go_wp2_with fail
  go_loopw [17] (fun i wr=>∃j:Nat,j≤n∧i=.int .i64 j∧R=MF (t.kids.drop j) (u.kids.drop j)∧Below w.heap.size w wr) (fun i _=>n - (RowKit.intOf i).toNat)
  case atStart=>exact⟨0,by omega,rfl,HR.out,Below.refl _ _⟩
  case round=>
   obtain⟨j,hj,rfl,hno,hb⟩:=hrel
   have HB:=aA hb
   have HD:=aA hno
   clear hno hb
   by_cases hlt:j<n
   ·have hjz:(j:Int)<n:=by omega
    obtain⟨x,hx⟩:∃x,t.kids[j]?=some x:=⟨_,List.getElem?_eq_getElem (by have:=HN.out.1;omega)⟩
    obtain⟨y,hy⟩:∃y,u.kids[j]?=some y:=⟨_,List.getElem?_eq_getElem (by have:=HN.out.2;omega)⟩
    obtain⟨b,o,a,c,rfl,hb,hrg,hnx⟩:=(HT.out.grow HB.out).is.2.2 j x hx
    obtain⟨b2,o2,a2,c2,rfl,hb2,hrg2,hny⟩:=(HU.out.grow HB.out).is.2.2 j y hy
    have HC:Hid (∀V,Below wr.heap.size wr V→Calls Tryz.prog 55 #[.agg (RA x a c),.agg (RA y a2 c2)] V fun e w'=>e=.returned (.bool (SK x y))∧Below V.heap.size V w'):=fun V hV=>HI.out j x hx y V a a2 c c2 (hnx.grow hV) (hny.grow hV)
    have HE:=aA (GO hx hy)
    have x0:=hrg 0 _ rfl
    have x1:=hrg 1 _ rfl
    have x2:=hrg 2 _ rfl
    have x3:=hrg 3 _ rfl
    rw[Nat.add_zero] at x0
    have y0:=hrg2 0 _ rfl
    have y1:=hrg2 1 _ rfl
    have y2:=hrg2 2 _ rfl
    have y3:=hrg2 3 _ rfl
    rw[Nat.add_zero] at y0
    unfold RA at HC
    clear hx hy hrg hrg2 hnx hny
    generalize x.kind=p0 at *
    generalize x.word=p1 at *
    generalize x.num=p2 at *
    generalize x.kids.length=p3 at *
    generalize y.kind=q0 at *
    generalize y.word=q1 at *
    generalize y.num=q2 at *
    generalize y.kids.length=q3 at *
    have hA:Below wr.heap.size wr (wr.alloc (.cells #[.string p0,.string p1,.int .i64 p2,.slice a p3 c] 25)):=bA _ _
    have z0:=(hA.cell (p:=⟨b2,o2+j * 4,none⟩) hb2).trans y0
    have z1:=(hA.cell (p:=⟨b2,o2+j * 4+1,none⟩) hb2).trans y1
    have z2:=(hA.cell (p:=⟨b2,o2+j * 4+2,none⟩) hb2).trans y2
    have z3:=(hA.cell (p:=⟨b2,o2+j * 4+3,none⟩) hb2).trans y3
    clear hA y0 y1 y2 y3
    cases hf:SK x y
    ·rw[hf] at HC HE
     clear hf
     go_wp2_with (go_at_call 55;refine(HC.out _ ((bA _ _).alloc (by simp) _)).mono ?_;rintro e w2 ⟨rfl,h9⟩;(have HB2:=aA (HB.out.trans (((bA _ _).alloc (by simp) _).trans (h9.mono (by simp;omega))|>.mono HB.out.size)));clear h9)
     go_ret
     exact⟨lD (by rw[HD.out,HE.out];rfl),HB2.out⟩
    ·rw[hf] at HC HE
     clear hf
     go_wp2_with (go_at_call 55;refine(HC.out _ ((bA _ _).alloc (by simp) _)).mono ?_;rintro e w2 ⟨rfl,h9⟩;(have HB2:=aA (HB.out.trans (((bA _ _).alloc (by simp) _).trans (h9.mono (by simp;omega))|>.mono HB.out.size)));clear h9)
     go_roundw
     case rel=>exact⟨j+1,by omega,by go_num,by rw[HD.out,HE.out];rfl,HB2.out⟩
     case measure=>simp[RowKit.intOf];omega
   ·have hjz:¬(j:Int)<n:=by omega
    obtain rfl:j=n:=by omega
    go_wp2
    go_ret
    refine⟨lD ?_,HB.out⟩
    rw[HD.out,List.drop_eq_nil_of_le (by have:=HN.out.1;omega),List.drop_eq_nil_of_le (by have:=HN.out.2;omega),MF]
 ·have HR:Hid (R=false):=by show _=_;rw[hR];exact gL _ _ (by omega)
  have hne:¬(n:Int)=m:=by omega
  clear hn hm hR ht hu ih HT HU HI
  go_enter Tryz.func102,Tryz.ntmps102
  go_wp2
  go_ret
  exact⟨lD HR.out.symm,Below.refl _ _⟩
theorem BS(a b:ByteArray):vA a b=(a.toList==b.toList):=rfl
theorem MD{a b:ByteArray}(h:a.toList=b.toList):a=b:=by
 rw[Lib.toList_data,Lib.toList_data,Array.toList_inj] at h
 exact ByteArray.ext h
theorem CI{t:Tn}(ih:∀(i:Nat) (k:Tn),t.kids[i]?=some k→xN k):xN t:=by
 intro u w ka kb kc kd ht hu
 have hW:Below w.heap.size w ((w.alloc (.cells (RA t ka kc) 25)).alloc (.cells (RA u kb kd) 25)):=(bA _ _).alloc (by simp) _
 have HF:=aA (bQ ih (ht.grow hW) (hu.grow hW))
 have HW:=aA hW
 have HE:=aA (OU t u)
 simp only[BS] at HE
 unfold RA at *
 generalize MF t.kids u.kids=E at *
 generalize t.kids.length=t3 at *
 generalize u.kids.length=u3 at *
 generalize t.kind=t0 at *
 generalize t.word=t1 at *
 generalize t.num=t2 at *
 generalize u.kind=u0 at *
 generalize u.word=u1 at *
 generalize u.num=u2 at *
 generalize SK t u=R at *
 clear ht hu hW ih
 cases h0:(t0.toList==u0.toList)
 ·rw[h0] at HE
  have h0':¬t0.toList=u0.toList:=by simpa using h0
  clear h0
  go_enter Tryz.func55,Tryz.ntmps55
  go_wp2
  go_ret
  exact⟨lD (by rw[HE.out];simp),HW.out⟩
 ·rw[h0] at HE
  have h0':t0.toList=u0.toList:=by simpa using h0
  cases h1:(t1.toList==u1.toList)
  ·rw[h1] at HE
   have h1':¬t1.toList=u1.toList:=by simpa using h1
   clear h0 h1
   go_enter Tryz.func55,Tryz.ntmps55
   go_wp2
   go_ret
   exact⟨lD (by rw[HE.out];simp),HW.out⟩
  ·rw[h1] at HE
   have h1':t1.toList=u1.toList:=by simpa using h1
   clear h0 h1
   by_cases h2:t2=u2
   ·rw[decide_eq_true h2] at HE
    subst h2
    obtain rfl:t0=u0:=MD h0'
    obtain rfl:t1=u1:=MD h1'
    clear h0' h1'
    go_enter Tryz.func55,Tryz.ntmps55
    go_wp2_with (go_at_call 102;refine HF.out.mono ?_;rintro e w2 ⟨rfl,h9⟩;(have HB:=aA (HW.out.trans (h9.mono HW.out.size)));clear h9)
    go_ret
    exact⟨lD (by rw[HE.out];simp),HB.out⟩
   ·rw[decide_eq_false h2] at HE
    go_enter Tryz.func55,Tryz.ntmps55
    go_wp2
    go_ret
    exact⟨lD (by rw[HE.out];simp),HW.out⟩
theorem BH:∀(n:Nat) (t:Tn),SizeOf.sizeOf t=n→xN t:=by
 intro n
 induction n using Nat.strongRecOn with
 |_ n ih=>
  intro t ht
  exact CI fun i k hk=>ih _ (by have:=gE hk;omega) k rfl
end Go.Proofs.YtehbinobohjadaaGreatDoor
namespace Go.Proofs.YtehbinobohjadaaGreatDoor
open Go.RowKit Go.Sort Go.Extern.Stop Go.Stop Go.Extern
set_option linter.unusedSectionVars false
variable [Inhabited TP]
def lG:List ByteArray→List ByteArray→Bool
 | [],[]=>true
 |x::l,y::m=>(x.toList==y.toList)&&lG l m
 | [],_::_=>false
 |_::_,[]=>false
theorem fL:∀(l m:List ByteArray),l.length≠m.length→lG l m=false
 | [],[],h=>absurd rfl h
 | [],_::_,_=>rfl
 |_::_,[],_=>rfl
 |x::l,y::m,h=>by
  rw[lG,fL l m (fun e=>h (by simp[e]))]
  simp
theorem DO{l m:List ByteArray}{i:Nat}{x y:ByteArray}(hx:l[i]?=some x)(hy:m[i]?=some y):lG (l.drop i) (m.drop i)=((x.toList==y.toList)&&lG (l.drop (i+1)) (m.drop (i+1))):=by
 obtain⟨h1,e1⟩:=List.getElem?_eq_some_iff.1 hx
 obtain⟨h2,e2⟩:=List.getElem?_eq_some_iff.1 hy
 rw[List.drop_eq_getElem_cons h1,List.drop_eq_getElem_cons h2,e1,e2,lG]
theorem RdS.grow{w w':World}{v:Value}{l:List ByteArray}(h:RdS stE w (·<w.heap.size) v l)(hb:Below w.heap.size w w'):RdS stE w' (·<w'.heap.size) v l:=h.on fun k hk=>⟨Nat.lt_of_lt_of_le hk hb.size,hb.block k hk⟩
theorem cQ{l r:List ByteArray}{w:World}{ka kb:Option Addr}{n m kc kd:Nat}(ht:RdS stE w (·<w.heap.size) (.slice ka n kc) l)(hu:RdS stE w (·<w.heap.size) (.slice kb m kd) r):
 Calls Tryz.prog 56 #[.slice ka n kc,.slice kb m kd] w fun e w'=>e=.returned (.bool (lG l r))∧Below w.heap.size w w':=by
 obtain⟨hn,hl⟩:=ht.len
 obtain⟨hm,hl2⟩:=hu.len
 have HT:=aA ht
 have HU:=aA hu
 obtain⟨R,hR⟩:∃R,R=lG l r:=⟨_,rfl⟩
 rw[←hR]
 by_cases hnm:n=m
 ·subst hnm
  have HN:=aA (aI hn hm)
  have HR:=aA hR
  clear hn hm hR ht hu
  go_enter Tryz.func56,Tryz.ntmps56
  go_wp2_with fail
  go_loopw [13] (fun i wr=>∃j:Nat,j≤n∧i=.int .i64 j∧R=lG (l.drop j) (r.drop j)∧Below w.heap.size w wr) (fun i _=>n - (RowKit.intOf i).toNat)
  case atStart=>exact⟨0,by omega,rfl,HR.out,Below.refl _ _⟩
  case round=>
   obtain⟨j,hj,rfl,hno,hb⟩:=hrel
   have HB:=aA hb
   have HD:=aA hno
   clear hno hb
   by_cases hlt:j<n
   ·have hjz:(j:Int)<n:=by omega
    obtain⟨x,hx⟩:∃x,l[j]?=some x:=⟨_,List.getElem?_eq_getElem (by have:=HN.out.1;omega)⟩
    obtain⟨y,hy⟩:∃y,r[j]?=some y:=⟨_,List.getElem?_eq_getElem (by have:=HN.out.2;omega)⟩
    obtain⟨b,o,rfl,hb,x0⟩:=(HT.out.grow HB.out).st hx
    obtain⟨b2,o2,rfl,hb2,y0⟩:=(HU.out.grow HB.out).st hy
    have HE:=aA (DO hx hy)
    clear hx hy
    cases hf:(x.toList==y.toList)
    ·rw[hf] at HE
     go_upto_region 6 with fail
     go_quiet (fail)
     go_wp2
     go_ret
     exact⟨lD (by rw[HD.out,HE.out];rfl),HB.out.trans ((Below.drewN_ _ _).mono HB.out.size)⟩
    ·rw[hf] at HE
     have hf':x=y:=MD (by simpa using hf)
     subst hf'
     clear hf
     go_upto_region 6 with fail
     go_quiet (fail)
     go_wp2
     go_roundw
     case rel=>exact⟨j+1,by omega,by go_num,by rw[HD.out,HE.out];rfl,HB.out.trans ((Below.drewN_ _ _).mono HB.out.size)⟩
     case measure=>simp[RowKit.intOf];omega
   ·have hjz:¬(j:Int)<n:=by omega
    obtain rfl:j=n:=by omega
    go_wp2
    go_ret
    refine⟨lD ?_,HB.out⟩
    rw[HD.out,List.drop_eq_nil_of_le (by have:=HN.out.1;omega),List.drop_eq_nil_of_le (by have:=HN.out.2;omega),lG]
 ·have HR:Hid (R=false):=by show _=_;rw[hR];exact fL _ _ (by omega)
  have hne:¬(n:Int)=m:=by omega
  clear hn hm hR ht hu HT HU
  go_enter Tryz.func56,Tryz.ntmps56
  go_wp2
  go_ret
  exact⟨lD HR.out.symm,Below.refl _ _⟩
theorem Tryz.intPlain9:Tryz.prog.plainKey 3=true:=by kernel_rfl
theorem FO(d:Nat)(xs ys:Array Value)(f:Field)(fs:List Field)(w:World)(h:f.name≠ "_"){a b:Value}(ha:(part f.type xs f.offset).run Tryz.prog w=.ok a w)(hb:(part f.type ys f.offset).run Tryz.prog w=.ok b w){r:Bool}(hr:(Op.equalIn d f.type a b).run Tryz.prog w=.ok r w){R:Bool}(hR:(Op.eqFields d xs ys fs).run Tryz.prog w=.ok R w):(Op.eqFields d xs ys (f::fs)).run Tryz.prog w=.ok (r&&R) w:=by
 rw[Op.eqFields,if_pos h,Sem.run_bind,ha,Result.andThen_ok,Sem.run_bind,hb,Result.andThen_ok,Sem.run_bind,hr,Result.andThen_ok]
 cases r
 ·rfl
 ·exact hR
theorem SI(d:Nat)(xs ys:Array Value)(w:World):∀(fs:List Field) (ts:List (String×Nat×Nat)) (rs:List Bool),(fs.map fun f=>(f.name,f.type,f.offset))=ts→ts.length=rs.length→
 (∀(i:Nat) (t:String×Nat×Nat) (r:Bool),ts[i]?=some t→rs[i]?=some r→t.1≠ "_"∧∃a b,(part t.2.1 xs t.2.2).run Tryz.prog w=.ok a w∧(part t.2.1 ys t.2.2).run Tryz.prog w=.ok b w∧(Op.equalIn d t.2.1 a b).run Tryz.prog w=.ok r w)→
 (Op.eqFields d xs ys fs).run Tryz.prog w=.ok (rs.all id) w
 | [],ts,rs,e,hl,_=>by
   subst e
   obtain rfl:=List.eq_nil_of_length_eq_zero hl.symm
   rfl
 |f::fs,ts,rs,e,hl,h=>by
  subst e
  match rs,hl with
  |r::rs,hl=>
   obtain⟨h1,a,b,ha,hb,hr⟩:=h 0 _ r rfl rfl
   have ih:=SI d xs ys w fs _ rs rfl (by simpa using hl) (fun i t r' ht hr'=>h (i+1) t r' (by simpa using ht) (by simpa using hr'))
   rw[List.all_cons]
   exact FO d xs ys f fs w h1 ha hb hr ih
theorem uC{xs:Array Value}{o:Nat}{v:Value}(w:World)(h:xs[o]?=some v):(part 3 xs o).run Tryz.prog w=.ok v w:=run_part_plain w Tryz.intPlain9 h
theorem Tryz.teFieldsP:((Tryz.prog.fieldsOf 28).toList.map fun f=>(f.name,f.type,f.offset))=[("N",3,0),("Unit",3,1),("Roll",3,2)]:=by kernel_rfl
theorem Tryz.teUP:Tryz.prog.underlying 28=some (.struct (Tryz.prog.fieldsOf 28)):=by kernel_rfl
theorem Tryz.teHP:Tryz.prog.stoodInHeld 28=false:=by kernel_rfl
theorem iL(n u r n' u' r':Int)(w:World):(Op.equalIn 10000 28 (.agg #[.int .i64 n,.int .i64 u,.int .i64 r]) (.agg #[.int .i64 n',.int .i64 u',.int .i64 r'])).run Tryz.prog w=.ok ([n==n',u==u',r==r'].all id) w:=by
 rw[run_equalIn_struct w 9999 _ _ _ Tryz.teUP Tryz.teHP]
 refine SI 9999 _ _ w _ _ [n==n',u==u',r==r'] Tryz.teFieldsP rfl fun i t q ht hq=>?_
 match i,ht,hq with
 |0,ht,hq=>injection ht with ht;injection hq with hq;subst ht hq;exact⟨by decide,_,_,uC w rfl,uC w rfl,run_equalIn_int w 9998 _ _ _ _ _ Tryz.underlying3⟩
 |1,ht,hq=>injection ht with ht;injection hq with hq;subst ht hq;exact⟨by decide,_,_,uC w rfl,uC w rfl,run_equalIn_int w 9998 _ _ _ _ _ Tryz.underlying3⟩
 |2,ht,hq=>injection ht with ht;injection hq with hq;subst ht hq;exact⟨by decide,_,_,uC w rfl,uC w rfl,run_equalIn_int w 9998 _ _ _ _ _ Tryz.underlying3⟩
theorem kP(n u r:Int)(w:World):(Op.equalIn 10000 28 (.agg #[.int .i64 n,.int .i64 u,.int .i64 r]) (.agg #[.int .i64 n,.int .i64 u,.int .i64 r])).run Tryz.prog w=.ok true w:=by
 rw[iL]
 simp
theorem JR(n u r n' u' r':Int)(h:¬(n=n'∧u=u'∧r=r'))(w:World):(Op.equalIn 10000 28 (.agg #[.int .i64 n,.int .i64 u,.int .i64 r]) (.agg #[.int .i64 n',.int .i64 u',.int .i64 r'])).run Tryz.prog w=.ok false w:=by
 rw[iL]
 have:([n==n',u==u',r==r'].all id)=false:=by
  rw[Bool.eq_false_iff]
  intro e
  simp at e
  exact h e
 rw[this]
theorem Tryz.teFieldsR:((Tryz.prog.fieldsOf 45).toList.map fun f=>(f.name,f.type,f.offset))=[("N",3,0),("Unit",3,1),("Roll",3,2)]:=by kernel_rfl
theorem Tryz.teUR:Tryz.prog.underlying 45=some (.struct (Tryz.prog.fieldsOf 45)):=by kernel_rfl
theorem Tryz.teHR:Tryz.prog.stoodInHeld 45=false:=by kernel_rfl
theorem aQ(n u r n' u' r':Int)(w:World):(Op.equalIn 10000 45 (.agg #[.int .i64 n,.int .i64 u,.int .i64 r]) (.agg #[.int .i64 n',.int .i64 u',.int .i64 r'])).run Tryz.prog w=.ok ([n==n',u==u',r==r'].all id) w:=by
 rw[run_equalIn_struct w 9999 _ _ _ Tryz.teUR Tryz.teHR]
 refine SI 9999 _ _ w _ _ [n==n',u==u',r==r'] Tryz.teFieldsR rfl fun i t q ht hq=>?_
 match i,ht,hq with
 |0,ht,hq=>injection ht with ht;injection hq with hq;subst ht hq;exact⟨by decide,_,_,uC w rfl,uC w rfl,run_equalIn_int w 9998 _ _ _ _ _ Tryz.underlying3⟩
 |1,ht,hq=>injection ht with ht;injection hq with hq;subst ht hq;exact⟨by decide,_,_,uC w rfl,uC w rfl,run_equalIn_int w 9998 _ _ _ _ _ Tryz.underlying3⟩
 |2,ht,hq=>injection ht with ht;injection hq with hq;subst ht hq;exact⟨by decide,_,_,uC w rfl,uC w rfl,run_equalIn_int w 9998 _ _ _ _ _ Tryz.underlying3⟩
theorem lP(n u r:Int)(w:World):(Op.equalIn 10000 45 (.agg #[.int .i64 n,.int .i64 u,.int .i64 r]) (.agg #[.int .i64 n,.int .i64 u,.int .i64 r])).run Tryz.prog w=.ok true w:=by
 rw[aQ]
 simp
end Go.Proofs.YtehbinobohjadaaGreatDoor
