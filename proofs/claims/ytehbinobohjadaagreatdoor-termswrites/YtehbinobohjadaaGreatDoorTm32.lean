import Derived.Test.YtehbinobohjadaaGreatDoorTm00
import Derived.Test.YtehbinobohjadaaGreatDoorTm31
import Derived.Test.YtehbinobohjadaaGreatDoorTm14
import Derived.Deep.RegionWith
set_option maxHeartbeats 20000000
set_option maxRecDepth 20000
namespace Go.Proofs.YtehbinobohjadaaGreatDoor
open Go.RowKit Go.Sort Go.Extern.Stop Go.Stop Go.Extern
set_option linter.unusedSectionVars false
variable [Inhabited TP]
theorem OG{l:List ByteArray}{n:Int}{t:ByteArray}(h:fF l n=some t):t∈l:=by
 unfold fF at h
 split at h
 ·cases h
 ·exact List.mem_of_getElem? h
theorem DT:∀t∈waysW,t.size≤281474976710656:=by decide
theorem ZR:∀t∈unitsW,t.size≤281474976710656:=by decide
theorem wR:∀t∈rollsQ,t.size≤281474976710656:=by decide
theorem IK:∀t∈strengthsQ,t.size≤281474976710656:=by decide
theorem NewRow.at{ls:List ByteArray}{w w':World}{e:Ending}(h:NewRow ls w e w'){b:Nat}(hb:b=w.heap.size)(i:Nat)(s:ByteArray)(hi:ls[i]?=some s):w'.cell? ⟨b,0+i,none⟩=some (.string s):=by
 rw[Nat.zero_add,hb]
 exact h.c i s hi
theorem fG{W:World}{wp:Nat}{s:WS}(h:WR W wp s){ls:List ByteArray}{a:Option Addr}{c:Nat}{n:Int}(hx:fF ls n=none):
 Calls Tryz.prog 95 #[.slice a ls.length c,.int .i64 n] W fun e w'=>(CP e∨(e=.returned (.string ⟨#[]⟩)∧False))∧w'=W:=by
 obtain⟨p,ct⟩:=h.g
 exact(qM ct hx).mono fun e w' h=>⟨.inl h.1,h.2⟩
def GW(x:SentT):Prop:=∀(w:World) (wp:Nat) (s:WS) (ca sa:Option Addr) (cc sc:Nat) (oa:Option Addr) (oc:Nat) (cs:Array Value),SW w w wp s→STc w (·<wp) x ca sa cc sc oa oc cs→Calls Tryz.prog 48 #[.pointer (some ⟨wp,0,none⟩),.agg cs] w (JF wp w (BD x s))
theorem sP{x:SentT}(hO:SOk x):GW x:=by
 intro w wp s ca sa cc sc oa oc cs hS hT
 have HSm:=aA (rU _ x.sum rfl hO.sum)
 by_cases h4:x.way=4
 ·have hwp:=hS.wr.in
  have HX0:=aA (SX.new hT hwp)
  have HS0:=aA (hS.alloc (.cells cs 30))
  obtain⟨W0,hW0⟩:∃W0,W0=w.alloc (.cells cs 30):=⟨_,rfl⟩
  rw[←hW0] at HX0 HS0
  have HW:=aA hW0
  have HZ:Hid (cs.size=19):=by show _=_;rw[hT.eq];rfl
  have HC5:Hid (∀V,SX V wp w.heap.size x ca sa cc sc oa oc cs→V.cell? ⟨w.heap.size,5,none⟩=some (.string x.cond.kind)):=fun V h=>h.at 5 _ (by rw[hT.eq];rfl)
  have HC6:Hid (∀V,SX V wp w.heap.size x ca sa cc sc oa oc cs→V.cell? ⟨w.heap.size,6,none⟩=some (.string x.cond.word)):=fun V h=>h.at 6 _ (by rw[hT.eq];rfl)
  have HC7:Hid (∀V,SX V wp w.heap.size x ca sa cc sc oa oc cs→V.cell? ⟨w.heap.size,7,none⟩=some (.int .i64 x.cond.num)):=fun V h=>h.at 7 _ (by rw[hT.eq];rfl)
  have HC8:Hid (∀V,SX V wp w.heap.size x ca sa cc sc oa oc cs→V.cell? ⟨w.heap.size,8,none⟩=some (.slice ca x.cond.kids.length cc)):=fun V h=>h.at 8 _ (by rw[hT.eq];rfl)
  have HC9:Hid (∀V,SX V wp w.heap.size x ca sa cc sc oa oc cs→V.cell? ⟨w.heap.size,9,none⟩=some (.string x.sum.kind)):=fun V h=>h.at 9 _ (by rw[hT.eq];rfl)
  have HC10:Hid (∀V,SX V wp w.heap.size x ca sa cc sc oa oc cs→V.cell? ⟨w.heap.size,10,none⟩=some (.string x.sum.word)):=fun V h=>h.at 10 _ (by rw[hT.eq];rfl)
  have HC11:Hid (∀V,SX V wp w.heap.size x ca sa cc sc oa oc cs→V.cell? ⟨w.heap.size,11,none⟩=some (.int .i64 x.sum.num)):=fun V h=>h.at 11 _ (by rw[hT.eq];rfl)
  have HC12:Hid (∀V,SX V wp w.heap.size x ca sa cc sc oa oc cs→V.cell? ⟨w.heap.size,12,none⟩=some (.slice sa x.sum.kids.length sc)):=fun V h=>h.at 12 _ (by rw[hT.eq];rfl)
  have HC13:Hid (∀V,SX V wp w.heap.size x ca sa cc sc oa oc cs→V.cell? ⟨w.heap.size,13,none⟩=some (.int .i64 x.way)):=fun V h=>h.at 13 _ (by rw[hT.eq];rfl)
  obtain⟨R,hR⟩:∃R,R=BD x s:=⟨_,rfl⟩
  rw[←hR]
  unfold BD at hR
  simp only[if_pos h4] at hR
  have HR:=aA hR
  clear hR hW0 hT hS
  go_enter Tryz.func48,Tryz.ntmps48
  go_upto_region 1 with fail
  rw[←HW.out]
  go_wp2_with (first
   |(go_at_call 97;revert HX2;intro HX2;refine(wE hO.cond HS2.out.here HX2.out.st.nc).mono ?_;rintro e W3 ⟨hf,hr⟩;rcases hq2:LN x.cond s2 with _|s3;(·rw[hq2] at hr;(obtain⟨p,rfl⟩:=hr);(obtain rfl:R=none:=(by rw[HR.out,hq2];try rfl));exact(show _∧_ from⟨rfl,HS2.out.fr.trans hf,⟨_,rfl⟩⟩));rw[hq2] at hr;(obtain⟨rfl,hr⟩:=hr);(have HS3:=aA (HS2.out.step hf hr));(have HX3:=aA (HX2.out.step hf));clear c5 c6 c7 c8;(have c13:=HC13.out _ HX3.out);rw[hq2,Option.bind_some] at HR;clear hf hr)
   |(go_at_call 98;revert HX1;intro HX1;refine(HSm.out _ _ _ _ _ 0 0 rfl HS1.out.here HX1.out.st.ns (by decide)).mono ?_;rintro e W2 ⟨hf,hr⟩;rcases hq1:uD x.sum 0 s1 with _|s2;(·rw[hq1] at hr;(obtain⟨p,rfl⟩:=hr);(obtain rfl:R=none:=(by rw[HR.out,hq1];try rfl));exact(show _∧_ from⟨rfl,HS1.out.fr.trans hf,⟨_,rfl⟩⟩));rw[hq1] at hr;(obtain⟨rfl,hr⟩:=hr);(have HS2:=aA (HS1.out.step hf hr));(have HX2:=aA (HX1.out.step hf));clear c9 c10 c11 c12;(have c5:=HC5.out _ HX2.out);(have c6:=HC6.out _ HX2.out);(have c7:=HC7.out _ HX2.out);(have c8:=HC8.out _ HX2.out);rw[hq1,Option.bind_some] at HR;clear hf hr)
   |(go_at_call 45;revert HX0;intro HX0;refine(XA HS0.out.wr (x:=sg 58) (by decide)).mono ?_;rintro e W1 ⟨hf,hr⟩;rcases hq0:MA s (sg 58) with _|s1;(·rw[hq0] at hr;(obtain⟨p,rfl⟩:=hr);(obtain rfl:R=none:=(by rw[HR.out,hq0];try rfl));exact(show _∧_ from⟨rfl,HS0.out.fr.trans hf,⟨_,rfl⟩⟩));rw[hq0] at hr;(obtain⟨rfl,hr⟩:=hr);(have HS1:=aA (HS0.out.step hf hr));(have HX1:=aA (HX0.out.step hf));(have c9:=HC9.out _ HX1.out);(have c10:=HC10.out _ HX1.out);(have c11:=HC11.out _ HX1.out);(have c12:=HC12.out _ HX1.out);rw[hq0,Option.bind_some] at HR;clear hf hr))
  go_end0
  (obtain rfl:R=some s3:=HR.out)
  exact⟨HS3.out.fr,rfl,HS3.out.wr⟩
 ·rcases hw:fF waysW x.way with _|t
  ·have hwp:=hS.wr.in
   have HX0:=aA (SX.new hT hwp)
   have HS0:=aA (hS.alloc (.cells cs 30))
   obtain⟨W0,hW0⟩:∃W0,W0=w.alloc (.cells cs 30):=⟨_,rfl⟩
   rw[←hW0] at HX0 HS0
   have HW:=aA hW0
   have HZ:Hid (cs.size=19):=by show _=_;rw[hT.eq];rfl
   have HC5:Hid (∀V,SX V wp w.heap.size x ca sa cc sc oa oc cs→V.cell? ⟨w.heap.size,5,none⟩=some (.string x.cond.kind)):=fun V h=>h.at 5 _ (by rw[hT.eq];rfl)
   have HC6:Hid (∀V,SX V wp w.heap.size x ca sa cc sc oa oc cs→V.cell? ⟨w.heap.size,6,none⟩=some (.string x.cond.word)):=fun V h=>h.at 6 _ (by rw[hT.eq];rfl)
   have HC7:Hid (∀V,SX V wp w.heap.size x ca sa cc sc oa oc cs→V.cell? ⟨w.heap.size,7,none⟩=some (.int .i64 x.cond.num)):=fun V h=>h.at 7 _ (by rw[hT.eq];rfl)
   have HC8:Hid (∀V,SX V wp w.heap.size x ca sa cc sc oa oc cs→V.cell? ⟨w.heap.size,8,none⟩=some (.slice ca x.cond.kids.length cc)):=fun V h=>h.at 8 _ (by rw[hT.eq];rfl)
   have HC9:Hid (∀V,SX V wp w.heap.size x ca sa cc sc oa oc cs→V.cell? ⟨w.heap.size,9,none⟩=some (.string x.sum.kind)):=fun V h=>h.at 9 _ (by rw[hT.eq];rfl)
   have HC10:Hid (∀V,SX V wp w.heap.size x ca sa cc sc oa oc cs→V.cell? ⟨w.heap.size,10,none⟩=some (.string x.sum.word)):=fun V h=>h.at 10 _ (by rw[hT.eq];rfl)
   have HC11:Hid (∀V,SX V wp w.heap.size x ca sa cc sc oa oc cs→V.cell? ⟨w.heap.size,11,none⟩=some (.int .i64 x.sum.num)):=fun V h=>h.at 11 _ (by rw[hT.eq];rfl)
   have HC12:Hid (∀V,SX V wp w.heap.size x ca sa cc sc oa oc cs→V.cell? ⟨w.heap.size,12,none⟩=some (.slice sa x.sum.kids.length sc)):=fun V h=>h.at 12 _ (by rw[hT.eq];rfl)
   have HC13:Hid (∀V,SX V wp w.heap.size x ca sa cc sc oa oc cs→V.cell? ⟨w.heap.size,13,none⟩=some (.int .i64 x.way)):=fun V h=>h.at 13 _ (by rw[hT.eq];rfl)
   obtain⟨R,hR⟩:∃R,R=BD x s:=⟨_,rfl⟩
   rw[←hR]
   unfold BD at hR
   simp only[if_neg h4,hw,Option.bind_none] at hR
   have HR:=aA hR
   clear hR hW0 hT hS
   go_enter Tryz.func48,Tryz.ntmps48
   go_upto_region 1 with fail
   rw[←HW.out]
   go_upto_region 5 with (first
   |(go_at_call 97;revert HX2;intro HX2;refine(wE hO.cond HS2.out.here HX2.out.st.nc).mono ?_;rintro e W3 ⟨hf,hr⟩;rcases hq2:LN x.cond s2 with _|s3;(·rw[hq2] at hr;(obtain⟨p,rfl⟩:=hr);(obtain rfl:R=none:=(by rw[HR.out,hq2];try rfl));exact(show _∧_ from⟨rfl,HS2.out.fr.trans hf,⟨_,rfl⟩⟩));rw[hq2] at hr;(obtain⟨rfl,hr⟩:=hr);(have HS3:=aA (HS2.out.step hf hr));(have HX3:=aA (HX2.out.step hf));clear c5 c6 c7 c8;(have c13:=HC13.out _ HX3.out);rw[hq2,Option.bind_some] at HR;clear hf hr)
   |(go_at_call 98;revert HX1;intro HX1;refine(HSm.out _ _ _ _ _ 0 0 rfl HS1.out.here HX1.out.st.ns (by decide)).mono ?_;rintro e W2 ⟨hf,hr⟩;rcases hq1:uD x.sum 0 s1 with _|s2;(·rw[hq1] at hr;(obtain⟨p,rfl⟩:=hr);(obtain rfl:R=none:=(by rw[HR.out,hq1];try rfl));exact(show _∧_ from⟨rfl,HS1.out.fr.trans hf,⟨_,rfl⟩⟩));rw[hq1] at hr;(obtain⟨rfl,hr⟩:=hr);(have HS2:=aA (HS1.out.step hf hr));(have HX2:=aA (HX1.out.step hf));clear c9 c10 c11 c12;(have c5:=HC5.out _ HX2.out);(have c6:=HC6.out _ HX2.out);(have c7:=HC7.out _ HX2.out);(have c8:=HC8.out _ HX2.out);rw[hq1,Option.bind_some] at HR;clear hf hr)
   |(go_at_call 45;revert HX0;intro HX0;refine(XA HS0.out.wr (x:=sg 58) (by decide)).mono ?_;rintro e W1 ⟨hf,hr⟩;rcases hq0:MA s (sg 58) with _|s1;(·rw[hq0] at hr;(obtain⟨p,rfl⟩:=hr);(obtain rfl:R=none:=(by rw[HR.out,hq0];try rfl));exact(show _∧_ from⟨rfl,HS0.out.fr.trans hf,⟨_,rfl⟩⟩));rw[hq0] at hr;(obtain⟨rfl,hr⟩:=hr);(have HS1:=aA (HS0.out.step hf hr));(have HX1:=aA (HX0.out.step hf));(have c9:=HC9.out _ HX1.out);(have c10:=HC10.out _ HX1.out);(have c11:=HC11.out _ HX1.out);(have c12:=HC12.out _ HX1.out);rw[hq0,Option.bind_some] at HR;clear hf hr))
   have HS4:=aA (HS3.out.grow ((Below.refl _ W3).drew))
   have HX4:=aA (HX3.out.step (WFr.of ((Below.refl _ W3).drew) (Nat.le_of_lt HS3.out.wr.in)))
   have c13:=HC13.out _ HX4.out
   go_region_with (first
   |(go_at_call 45;revert HF;intro HF;refine(VE HS5.out.wr (x:=sg 59) (by decide) (y:=AE) (by decide) (z:=⟨#[]⟩) (by decide)).mono ?_;rintro e W6 ⟨hf,hr⟩;revert hr;(split);(·exact HF.out.elim);rintro ⟨rfl,hr⟩;clear hf hr)
   |(go_at_call 95;revert HX5;intro HX5;refine(fG HS5.out.wr (ls:=waysW) hw).mono ?_;rintro e w' ⟨⟨p,rfl⟩|⟨rfl,hF⟩,h9⟩;(·subst w';(obtain rfl:R=none:=HR.out);exact(show _∧_ from⟨rfl,HS5.out.fr,⟨_,rfl⟩⟩));subst w';(have HF:=aA hF);clear hF)
   |(go_at_call 86;revert HX4;intro HX4;refine(NK _).mono ?_;rintro e W5 hn;(obtain rfl:=hn.e);(have HN:=aA hn);(have HS5:=aA (HS4.out.grow hn.b));(have HX5:=aA (HX4.out.step (WFr.of hn.b (Nat.le_of_lt HS4.out.wr.in))));(have d13:=HC13.out _ HX5.out);clear hn))
   all_goals exact HF.out.elim
  ·have hwp:=hS.wr.in
   have HX0:=aA (SX.new hT hwp)
   have HS0:=aA (hS.alloc (.cells cs 30))
   obtain⟨W0,hW0⟩:∃W0,W0=w.alloc (.cells cs 30):=⟨_,rfl⟩
   rw[←hW0] at HX0 HS0
   have HW:=aA hW0
   have HZ:Hid (cs.size=19):=by show _=_;rw[hT.eq];rfl
   have HC5:Hid (∀V,SX V wp w.heap.size x ca sa cc sc oa oc cs→V.cell? ⟨w.heap.size,5,none⟩=some (.string x.cond.kind)):=fun V h=>h.at 5 _ (by rw[hT.eq];rfl)
   have HC6:Hid (∀V,SX V wp w.heap.size x ca sa cc sc oa oc cs→V.cell? ⟨w.heap.size,6,none⟩=some (.string x.cond.word)):=fun V h=>h.at 6 _ (by rw[hT.eq];rfl)
   have HC7:Hid (∀V,SX V wp w.heap.size x ca sa cc sc oa oc cs→V.cell? ⟨w.heap.size,7,none⟩=some (.int .i64 x.cond.num)):=fun V h=>h.at 7 _ (by rw[hT.eq];rfl)
   have HC8:Hid (∀V,SX V wp w.heap.size x ca sa cc sc oa oc cs→V.cell? ⟨w.heap.size,8,none⟩=some (.slice ca x.cond.kids.length cc)):=fun V h=>h.at 8 _ (by rw[hT.eq];rfl)
   have HC9:Hid (∀V,SX V wp w.heap.size x ca sa cc sc oa oc cs→V.cell? ⟨w.heap.size,9,none⟩=some (.string x.sum.kind)):=fun V h=>h.at 9 _ (by rw[hT.eq];rfl)
   have HC10:Hid (∀V,SX V wp w.heap.size x ca sa cc sc oa oc cs→V.cell? ⟨w.heap.size,10,none⟩=some (.string x.sum.word)):=fun V h=>h.at 10 _ (by rw[hT.eq];rfl)
   have HC11:Hid (∀V,SX V wp w.heap.size x ca sa cc sc oa oc cs→V.cell? ⟨w.heap.size,11,none⟩=some (.int .i64 x.sum.num)):=fun V h=>h.at 11 _ (by rw[hT.eq];rfl)
   have HC12:Hid (∀V,SX V wp w.heap.size x ca sa cc sc oa oc cs→V.cell? ⟨w.heap.size,12,none⟩=some (.slice sa x.sum.kids.length sc)):=fun V h=>h.at 12 _ (by rw[hT.eq];rfl)
   have HC13:Hid (∀V,SX V wp w.heap.size x ca sa cc sc oa oc cs→V.cell? ⟨w.heap.size,13,none⟩=some (.int .i64 x.way)):=fun V h=>h.at 13 _ (by rw[hT.eq];rfl)
   obtain⟨R,hR⟩:∃R,R=BD x s:=⟨_,rfl⟩
   rw[←hR]
   unfold BD at hR
   simp only[if_neg h4,hw,Option.bind_some] at hR
   have HR:=aA hR
   clear hR hW0 hT hS
   go_enter Tryz.func48,Tryz.ntmps48
   go_upto_region 1 with fail
   rw[←HW.out]
   go_upto_region 5 with (first
   |(go_at_call 97;revert HX2;intro HX2;refine(wE hO.cond HS2.out.here HX2.out.st.nc).mono ?_;rintro e W3 ⟨hf,hr⟩;rcases hq2:LN x.cond s2 with _|s3;(·rw[hq2] at hr;(obtain⟨p,rfl⟩:=hr);(obtain rfl:R=none:=(by rw[HR.out,hq2];try rfl));exact(show _∧_ from⟨rfl,HS2.out.fr.trans hf,⟨_,rfl⟩⟩));rw[hq2] at hr;(obtain⟨rfl,hr⟩:=hr);(have HS3:=aA (HS2.out.step hf hr));(have HX3:=aA (HX2.out.step hf));clear c5 c6 c7 c8;(have c13:=HC13.out _ HX3.out);rw[hq2,Option.bind_some] at HR;clear hf hr)
   |(go_at_call 98;revert HX1;intro HX1;refine(HSm.out _ _ _ _ _ 0 0 rfl HS1.out.here HX1.out.st.ns (by decide)).mono ?_;rintro e W2 ⟨hf,hr⟩;rcases hq1:uD x.sum 0 s1 with _|s2;(·rw[hq1] at hr;(obtain⟨p,rfl⟩:=hr);(obtain rfl:R=none:=(by rw[HR.out,hq1];try rfl));exact(show _∧_ from⟨rfl,HS1.out.fr.trans hf,⟨_,rfl⟩⟩));rw[hq1] at hr;(obtain⟨rfl,hr⟩:=hr);(have HS2:=aA (HS1.out.step hf hr));(have HX2:=aA (HX1.out.step hf));clear c9 c10 c11 c12;(have c5:=HC5.out _ HX2.out);(have c6:=HC6.out _ HX2.out);(have c7:=HC7.out _ HX2.out);(have c8:=HC8.out _ HX2.out);rw[hq1,Option.bind_some] at HR;clear hf hr)
   |(go_at_call 45;revert HX0;intro HX0;refine(XA HS0.out.wr (x:=sg 58) (by decide)).mono ?_;rintro e W1 ⟨hf,hr⟩;rcases hq0:MA s (sg 58) with _|s1;(·rw[hq0] at hr;(obtain⟨p,rfl⟩:=hr);(obtain rfl:R=none:=(by rw[HR.out,hq0];try rfl));exact(show _∧_ from⟨rfl,HS0.out.fr.trans hf,⟨_,rfl⟩⟩));rw[hq0] at hr;(obtain⟨rfl,hr⟩:=hr);(have HS1:=aA (HS0.out.step hf hr));(have HX1:=aA (HX0.out.step hf));(have c9:=HC9.out _ HX1.out);(have c10:=HC10.out _ HX1.out);(have c11:=HC11.out _ HX1.out);(have c12:=HC12.out _ HX1.out);rw[hq0,Option.bind_some] at HR;clear hf hr))
   have HS4:=aA (HS3.out.grow ((Below.refl _ W3).drew))
   have HX4:=aA (HX3.out.step (WFr.of ((Below.refl _ W3).drew) (Nat.le_of_lt HS3.out.wr.in)))
   have c13:=HC13.out _ HX4.out
   go_region_with (first
   |(go_at_call 45;revert HX5;intro HX5;refine(VE HS5.out.wr (x:=sg 59) (by decide) (y:=AE) (by decide) (DT _ (OG hw))).mono ?_;rintro e W6 ⟨hf,hr⟩;rcases hq3:CA s3 [sg 59,AE,t] with _|s4;(·rw[hq3] at hr;(obtain⟨p,rfl⟩:=hr);(obtain rfl:R=none:=(by rw[HR.out,hq3];try rfl));exact(show _∧_ from⟨rfl,HS5.out.fr.trans hf,⟨_,rfl⟩⟩));rw[hq3] at hr;(obtain⟨rfl,hr⟩:=hr);(have HS6:=aA (HS5.out.step hf hr));(have HX6:=aA (HX5.out.step hf));rw[hq3] at HR;clear hf hr)
   |(go_at_call 95;revert HX5;intro HX5;refine(qF (ls:=waysW) (HN.out.at rfl) hw).mono ?_;rintro e w' ⟨rfl,h9⟩;subst w')
   |(go_at_call 86;revert HX4;intro HX4;refine(NK _).mono ?_;rintro e W5 hn;(obtain rfl:=hn.e);(have HN:=aA hn);(have HS5:=aA (HS4.out.grow hn.b));(have HX5:=aA (HX4.out.step (WFr.of hn.b (Nat.le_of_lt HS4.out.wr.in))));(have d13:=HC13.out _ HX5.out);clear hn))
   all_goals go_wp2
   all_goals go_end0
   all_goals (obtain rfl:R=some s4:=HR.out)
   all_goals exact⟨HS6.out.fr,rfl,HS6.out.wr⟩
def OV(ls:List ByteArray)(b:Nat)(V:World):Prop:=b<V.heap.size∧∀i s,ls[i]?=some s→V.cell? ⟨b,0+i,none⟩=some (.string s)
theorem NewRow.row{ls:List ByteArray}{w w':World}{e:Ending}(h:NewRow ls w e w'):OV ls w.heap.size w':=⟨by rw[h.s];omega,fun i s hi=>h.at rfl i s hi⟩
def IW(x:SentT):Prop:=∀(w:World) (wp:Nat) (s:WS) (ca sa:Option Addr) (cc sc:Nat) (oa:Option Addr) (oc:Nat) (cs:Array Value),SW w w wp s→STc w (·<wp) x ca sa cc sc oa oc cs→Calls Tryz.prog 49 #[.pointer (some ⟨wp,0,none⟩),.agg cs] w (JF wp w (TG x s))
theorem ET{x:SentT}(hO:SOk x):IW x:=by
 intro w wp s ca sa cc sc oa oc cs hS hT
 have n0:=hO.n0
 have n1:=hO.n1
 rcases hw:fF unitsW x.tu with _|u
 ·have hwp:=hS.wr.in
  have HX0:=aA (SX.new hT hwp)
  have HS0:=aA (hS.alloc (.cells cs 30))
  obtain⟨W0,hW0⟩:∃W0,W0=w.alloc (.cells cs 30):=⟨_,rfl⟩
  rw[←hW0] at HX0 HS0
  have HW:=aA hW0
  have HZ:Hid (cs.size=19):=by show _=_;rw[hT.eq];rfl
  have HC15:Hid (∀V,SX V wp w.heap.size x ca sa cc sc oa oc cs→V.cell? ⟨w.heap.size,15,none⟩=some (.int .i64 x.tn)):=fun V h=>h.at 15 _ (by rw[hT.eq];rfl)
  have HC16:Hid (∀V,SX V wp w.heap.size x ca sa cc sc oa oc cs→V.cell? ⟨w.heap.size,16,none⟩=some (.int .i64 x.tu)):=fun V h=>h.at 16 _ (by rw[hT.eq];rfl)
  have HC17:Hid (∀V,SX V wp w.heap.size x ca sa cc sc oa oc cs→V.cell? ⟨w.heap.size,17,none⟩=some (.int .i64 x.tr)):=fun V h=>h.at 17 _ (by rw[hT.eq];rfl)
  have HC18:Hid (∀V,SX V wp w.heap.size x ca sa cc sc oa oc cs→V.cell? ⟨w.heap.size,18,none⟩=some (.string x.els)):=fun V h=>h.at 18 _ (by rw[hT.eq];rfl)
  obtain⟨R,hR⟩:∃R,R=TG x s:=⟨_,rfl⟩
  rw[←hR]
  unfold TG at hR
  simp only[hw,Option.bind_none] at hR
  have HR:=aA hR
  clear hR hW0 hT hS
  go_enter Tryz.func49,Tryz.ntmps49
  go_upto_region 1 with fail
  rw[←HW.out]
  go_upto_region 3 with (first
   |(go_at_call 96;revert HX1;intro HX1;refine(eG hO _ _ _ _ _ _ _ _ _ _ HS1.out.here HX1.out.st).mono ?_;rintro e W2 ⟨hf,hr⟩;rcases hq1:YI x s1 with _|s2;(·rw[hq1] at hr;(obtain⟨p,rfl⟩:=hr);(obtain rfl:R=none:=(by rw[HR.out,hq1];try rfl));exact(show _∧_ from⟨rfl,HS1.out.fr.trans hf,⟨_,rfl⟩⟩));rw[hq1] at hr;(obtain⟨rfl,hr⟩:=hr);(have HS2:=aA (HS1.out.step hf hr));(have HX2:=aA (HX1.out.step hf));rw[hq1,Option.bind_some] at HR;clear hf hr)
   |(revert HX1;intro HX1;with_reducible show wpList _ _ _ _ _ _;refine wpList_load_row rfl 30 (.tmp 3) rfl w.heap.size (by first|(simp[Act.eval];done)|simp[Act.eval,Act.put]) 30 cs (0,0) _ HX1.out.bx Tryz.underlying30 rfl (infoSent.trans (by rw[HZ.out])) ?_)
   |(go_at_call 45;revert HX0;intro HX0;refine(XA HS0.out.wr (x:=sg 58) (by decide)).mono ?_;rintro e W1 ⟨hf,hr⟩;rcases hq0:MA s (sg 58) with _|s1;(·rw[hq0] at hr;(obtain⟨p,rfl⟩:=hr);(obtain rfl:R=none:=(by rw[HR.out,hq0];try rfl));exact(show _∧_ from⟨rfl,HS0.out.fr.trans hf,⟨_,rfl⟩⟩));rw[hq0] at hr;(obtain⟨rfl,hr⟩:=hr);(have HS1:=aA (HS0.out.step hf hr));(have HX1:=aA (HX0.out.step hf));rw[hq0,Option.bind_some] at HR;clear hf hr))
  have HSc:=aA (HS2.out.grow ((Below.refl _ W2).drew))
  have HXc:=aA (HX2.out.step (WFr.of ((Below.refl _ W2).drew) (Nat.le_of_lt HS2.out.wr.in)))
  have d15:=HC15.out _ HXc.out
  have d16:=HC16.out _ HXc.out
  go_region_with (first
   |(go_at_call 45;revert HF;intro HF;refine(VE HSc.out.wr (x:=ED) (by decide) (y:=TC x.tn) (Nat.le_trans (iD n0 n1).2 (by decide)) (z:=⟨#[]⟩) (by decide)).mono ?_;rintro e V ⟨hf,hr⟩;revert hr;(split);(·exact HF.out.elim);rintro ⟨rfl,hr⟩;clear hf hr)
   |(go_at_call 99;revert HN;intro HN;refine(bH HSc.out.tb n0 n1).mono ?_;rintro e V ⟨rfl,hb⟩;(have HM:=aA (HN.out.step hb));clear HN;(have HN:=HM);clear HM;(have HSd:=aA (HSc.out.grow hb));(have HXd:=aA (HXc.out.step (WFr.of hb (Nat.le_of_lt HSc.out.wr.in))));clear HSc HXc;(have HSc:=HSd);(have HXc:=HXd);clear HSd HXd;(have d15:=HC15.out _ HXc.out);(have d16:=HC16.out _ HXc.out);clear hb)
   |(go_at_call 99;refine(bH HSc.out.tb n0 n1).mono ?_;rintro e V ⟨rfl,hb⟩;(have HSd:=aA (HSc.out.grow hb));(have HXd:=aA (HXc.out.step (WFr.of hb (Nat.le_of_lt HSc.out.wr.in))));clear HSc HXc;(have HSc:=HSd);(have HXc:=HXd);clear HSd HXd;(have d15:=HC15.out _ HXc.out);(have d16:=HC16.out _ HXc.out);clear hb)
   |(go_at_call 95;revert HN;intro HN;refine(fG HSc.out.wr (ls:=unitsW) hw).mono ?_;rintro e w' ⟨⟨p,rfl⟩|⟨rfl,hF⟩,h9⟩;(·subst w';(obtain rfl:R=none:=HR.out);exact(show _∧_ from⟨rfl,HSc.out.fr,⟨_,rfl⟩⟩));subst w';(have HF:=aA hF);clear hF)
   |(go_at_call 88;revert HXc;intro HXc;refine(PI _).mono ?_;rintro e V hn;(obtain rfl:=hn.e);(have hb:=hn.b);(have HN:=aA hn.row);(have HSd:=aA (HSc.out.grow hb));(have HXd:=aA (HXc.out.step (WFr.of hb (Nat.le_of_lt HSc.out.wr.in))));clear HSc HXc;(have HSc:=HSd);(have HXc:=HXd);clear HSd HXd;(have d15:=HC15.out _ HXc.out);(have d16:=HC16.out _ HXc.out);clear hn hb))
  all_goals exact HF.out.elim
 ·have hwp:=hS.wr.in
  have HX0:=aA (SX.new hT hwp)
  have HS0:=aA (hS.alloc (.cells cs 30))
  obtain⟨W0,hW0⟩:∃W0,W0=w.alloc (.cells cs 30):=⟨_,rfl⟩
  rw[←hW0] at HX0 HS0
  have HW:=aA hW0
  have HZ:Hid (cs.size=19):=by show _=_;rw[hT.eq];rfl
  have HC15:Hid (∀V,SX V wp w.heap.size x ca sa cc sc oa oc cs→V.cell? ⟨w.heap.size,15,none⟩=some (.int .i64 x.tn)):=fun V h=>h.at 15 _ (by rw[hT.eq];rfl)
  have HC16:Hid (∀V,SX V wp w.heap.size x ca sa cc sc oa oc cs→V.cell? ⟨w.heap.size,16,none⟩=some (.int .i64 x.tu)):=fun V h=>h.at 16 _ (by rw[hT.eq];rfl)
  have HC17:Hid (∀V,SX V wp w.heap.size x ca sa cc sc oa oc cs→V.cell? ⟨w.heap.size,17,none⟩=some (.int .i64 x.tr)):=fun V h=>h.at 17 _ (by rw[hT.eq];rfl)
  have HC18:Hid (∀V,SX V wp w.heap.size x ca sa cc sc oa oc cs→V.cell? ⟨w.heap.size,18,none⟩=some (.string x.els)):=fun V h=>h.at 18 _ (by rw[hT.eq];rfl)
  obtain⟨R,hR⟩:∃R,R=TG x s:=⟨_,rfl⟩
  rw[←hR]
  unfold TG at hR
  simp only[hw,Option.bind_some] at hR
  have HR:=aA hR
  clear hR hW0 hT hS
  go_enter Tryz.func49,Tryz.ntmps49
  go_upto_region 1 with fail
  rw[←HW.out]
  go_upto_region 3 with (first
   |(go_at_call 96;revert HX1;intro HX1;refine(eG hO _ _ _ _ _ _ _ _ _ _ HS1.out.here HX1.out.st).mono ?_;rintro e W2 ⟨hf,hr⟩;rcases hq1:YI x s1 with _|s2;(·rw[hq1] at hr;(obtain⟨p,rfl⟩:=hr);(obtain rfl:R=none:=(by rw[HR.out,hq1];try rfl));exact(show _∧_ from⟨rfl,HS1.out.fr.trans hf,⟨_,rfl⟩⟩));rw[hq1] at hr;(obtain⟨rfl,hr⟩:=hr);(have HS2:=aA (HS1.out.step hf hr));(have HX2:=aA (HX1.out.step hf));rw[hq1,Option.bind_some] at HR;clear hf hr)
   |(revert HX1;intro HX1;with_reducible show wpList _ _ _ _ _ _;refine wpList_load_row rfl 30 (.tmp 3) rfl w.heap.size (by first|(simp[Act.eval];done)|simp[Act.eval,Act.put]) 30 cs (0,0) _ HX1.out.bx Tryz.underlying30 rfl (infoSent.trans (by rw[HZ.out])) ?_)
   |(go_at_call 45;revert HX0;intro HX0;refine(XA HS0.out.wr (x:=sg 58) (by decide)).mono ?_;rintro e W1 ⟨hf,hr⟩;rcases hq0:MA s (sg 58) with _|s1;(·rw[hq0] at hr;(obtain⟨p,rfl⟩:=hr);(obtain rfl:R=none:=(by rw[HR.out,hq0];try rfl));exact(show _∧_ from⟨rfl,HS0.out.fr.trans hf,⟨_,rfl⟩⟩));rw[hq0] at hr;(obtain⟨rfl,hr⟩:=hr);(have HS1:=aA (HS0.out.step hf hr));(have HX1:=aA (HX0.out.step hf));rw[hq0,Option.bind_some] at HR;clear hf hr))
  go_cut [] (fun wx=>∃s3,CA s2 [ED,TC x.tn,u]=some s3∧SW w wx wp s3∧SX wx wp w.heap.size x ca sa cc sc oa oc cs)
  case first=>
   have HSc:=aA (HS2.out.grow ((Below.refl _ W2).drew))
   have HXc:=aA (HX2.out.step (WFr.of ((Below.refl _ W2).drew) (Nat.le_of_lt HS2.out.wr.in)))
   have d15:=HC15.out _ HXc.out
   have d16:=HC16.out _ HXc.out
   go_region_with (first
    |(go_at_call 45;revert HN;intro HN;refine(VE HSc.out.wr (x:=ED) (by decide) (Nat.le_trans (iD n0 n1).2 (by decide)) (ZR _ (OG hw))).mono ?_;rintro e V ⟨hf,hr⟩;rcases hq2:CA s2 [ED,TC x.tn,u] with _|s3;(·rw[hq2] at hr;(obtain⟨p,rfl⟩:=hr);(obtain rfl:R=none:=(by rw[HR.out,hq2];try rfl));exact(show _∧_ from⟨rfl,HSc.out.fr.trans hf,⟨_,rfl⟩⟩));rw[hq2] at hr;(obtain⟨rfl,hr⟩:=hr);(have HSd:=aA (HSc.out.step hf hr));(have HXd:=aA (HXc.out.step hf));clear hf hr)
    |(go_at_call 99;revert HN;intro HN;refine(bH HSc.out.tb n0 n1).mono ?_;rintro e V ⟨rfl,hb⟩;(have HM:=aA (HN.out.step hb));clear HN;(have HN:=HM);clear HM;(have HSd:=aA (HSc.out.grow hb));(have HXd:=aA (HXc.out.step (WFr.of hb (Nat.le_of_lt HSc.out.wr.in))));clear HSc HXc;(have HSc:=HSd);(have HXc:=HXd);clear HSd HXd;(have d15:=HC15.out _ HXc.out);(have d16:=HC16.out _ HXc.out);clear hb)
    |(go_at_call 99;refine(bH HSc.out.tb n0 n1).mono ?_;rintro e V ⟨rfl,hb⟩;(have HSd:=aA (HSc.out.grow hb));(have HXd:=aA (HXc.out.step (WFr.of hb (Nat.le_of_lt HSc.out.wr.in))));clear HSc HXc;(have HSc:=HSd);(have HXc:=HXd);clear HSd HXd;(have d15:=HC15.out _ HXc.out);(have d16:=HC16.out _ HXc.out);clear hb)
    |(go_at_call 95;revert HN;intro HN;refine(qF (ls:=unitsW) HN.out.2 hw).mono ?_;rintro e w' ⟨rfl,h9⟩;subst w')
    |(go_at_call 88;revert HXc;intro HXc;refine(PI _).mono ?_;rintro e V hn;(obtain rfl:=hn.e);(have hb:=hn.b);(have HN:=aA hn.row);(have HSd:=aA (HSc.out.grow hb));(have HXd:=aA (HXc.out.step (WFr.of hb (Nat.le_of_lt HSc.out.wr.in))));clear HSc HXc;(have HSc:=HSd);(have HXc:=HXd);clear HSd HXd;(have d15:=HC15.out _ HXc.out);(have d16:=HC16.out _ HXc.out);clear hn hb))
   all_goals (go_wp2_with fail;go_meet;exact⟨s3,hq2,HSd.out,HXd.out⟩)
  case rest=>
   obtain⟨s3,hq2,hS3,hX3⟩:=hcut
   have HS3:=aA hS3
   have HX3:=aA hX3
   rw[hq2,Option.bind_some] at HR
   clear hS3 hX3 hw
   have c17:=HC17.out _ HX3.out
   by_cases h0:x.tr=0
   ·have hb0:(x.tr==0)=true:=by simp[h0]
    have hb1:(x.tr !=0)=false:=by simp[h0]
    have hR1:=HR.out
    simp only[if_pos h0,Option.bind_some] at hR1
    clear HR
    have HR:=aA hR1
    clear hR1
    rw[h0] at c17
    clear hb0 hb1
    have c18:=HC18.out _ HX3.out
    by_cases hz:x.els.size=0
    ·have he:x.els.toList.isEmpty=true:=by rw[Lib.toList_data,List.isEmpty_iff];exact List.eq_nil_of_length_eq_zero (by rw[xA];exact hz)
     have hR1:=HR.out
     simp only[if_pos hz] at hR1
     clear HR
     have HR:=aA hR1
     clear hR1
     clear hz
     go_wp2
     go_end0
     (obtain rfl:R=some s3:=HR.out)
     exact⟨HS3.out.fr,rfl,HS3.out.wr⟩
    ·have he:x.els.toList.isEmpty=false:=by
      rw[Lib.toList_data]
      match hd:x.els.data.toList with
      | []=>exact absurd (by rw[←xA,hd];rfl) hz
      |_::_=>rfl
     have hR1:=HR.out
     simp only[if_neg hz] at hR1
     clear HR
     have HR:=aA hR1
     clear hR1
     clear hz
     have hel:=hO.els
     go_wp2_with (go_at_call 45;refine(bD HS3.out.wr (x:=dF) (by decide) hel).mono ?_;rintro e V ⟨hf,hr⟩;rcases hq9:CA s3 [dF,x.els] with _|s9;(·rw[hq9] at hr;(obtain⟨p,rfl⟩:=hr);(obtain rfl:R=none:=(by rw[HR.out,hq9];try rfl));exact(show _∧_ from⟨rfl,HS3.out.fr.trans hf,⟨_,rfl⟩⟩));rw[hq9] at hr;(obtain⟨rfl,hr⟩:=hr);(have HS9:=aA (HS3.out.step hf hr));rw[hq9] at HR;clear hf hr)
     go_end0
     (obtain rfl:R=some s9:=HR.out)
     exact⟨HS9.out.fr,rfl,HS9.out.wr⟩
   ·have hb0:(x.tr==0)=false:=by simp[h0]
    have hb1:(x.tr !=0)=true:=by simp[h0]
    rcases hw:fF [⟨#[]⟩,nM,XH] x.tr with _|v
    ·have hR1:=HR.out
     simp only[if_neg h0,hw,Option.bind_none] at hR1
     clear HR
     have HR:=aA hR1
     clear hR1
     go_upto_region 5 with fail
     have HSc:=aA (HS3.out.grow ((Below.refl _ wc).drew))
     have HXc:=aA (HX3.out.step (WFr.of ((Below.refl _ wc).drew) (Nat.le_of_lt HS3.out.wr.in)))
     have d17:=HC17.out _ HXc.out
     go_region_with (first
      |(go_at_call 45;revert HF;intro HF;refine(bD HSc.out.wr (x:=sg 44) (by decide) (y:=⟨#[]⟩) (by decide)).mono ?_;rintro e V ⟨hf,hr⟩;revert hr;(split);(·exact HF.out.elim);rintro ⟨rfl,hr⟩;clear hf hr)
      |(go_at_call 95;revert HN;intro HN;refine(fG HSc.out.wr (ls:=rollsQ) hw).mono ?_;rintro e w' ⟨⟨p,rfl⟩|⟨rfl,hF⟩,h9⟩;(·subst w';(obtain rfl:R=none:=HR.out);exact(show _∧_ from⟨rfl,HSc.out.fr,⟨_,rfl⟩⟩));subst w';(have HF:=aA hF);clear hF)
      |(go_at_call 89;revert HXc;intro HXc;refine(MI _).mono ?_;rintro e V hn;(obtain rfl:=hn.e);(have hb:=hn.b);(have HN:=aA hn.row);(have HSd:=aA (HSc.out.grow hb));(have HXd:=aA (HXc.out.step (WFr.of hb (Nat.le_of_lt HSc.out.wr.in))));clear HSc HXc;(have HSc:=HSd);(have HXc:=HXd);clear HSd HXd;(have d17:=HC17.out _ HXc.out);clear hn hb))
     all_goals exact HF.out.elim
    ·have hR1:=HR.out
     simp only[if_neg h0,hw,Option.bind_some] at hR1
     clear HR
     have HR:=aA hR1
     clear hR1
     go_upto_region 5 with fail
     go_cut [] (fun wx=>∃s4,CA s3 [sg 44,v]=some s4∧SW w wx wp s4∧SX wx wp w.heap.size x ca sa cc sc oa oc cs)
     case first=>
      have HSc:=aA (HS3.out.grow ((Below.refl _ wc).drew))
      have HXc:=aA (HX3.out.step (WFr.of ((Below.refl _ wc).drew) (Nat.le_of_lt HS3.out.wr.in)))
      have d17:=HC17.out _ HXc.out
      go_region_with (first
       |(go_at_call 45;revert HN;intro HN;refine(bD HSc.out.wr (x:=sg 44) (by decide) (wR _ (OG hw))).mono ?_;rintro e V ⟨hf,hr⟩;rcases hq3:CA s3 [sg 44,v] with _|s4;(·rw[hq3] at hr;(obtain⟨p,rfl⟩:=hr);(obtain rfl:R=none:=(by rw[HR.out,hq3];try rfl));exact(show _∧_ from⟨rfl,HSc.out.fr.trans hf,⟨_,rfl⟩⟩));rw[hq3] at hr;(obtain⟨rfl,hr⟩:=hr);(have HSd:=aA (HSc.out.step hf hr));(have HXd:=aA (HXc.out.step hf));clear hf hr)
       |(go_at_call 95;revert HN;intro HN;refine(qF (ls:=rollsQ) HN.out.2 hw).mono ?_;rintro e w' ⟨rfl,h9⟩;subst w')
       |(go_at_call 89;revert HXc;intro HXc;refine(MI _).mono ?_;rintro e V hn;(obtain rfl:=hn.e);(have hb:=hn.b);(have HN:=aA hn.row);(have HSd:=aA (HSc.out.grow hb));(have HXd:=aA (HXc.out.step (WFr.of hb (Nat.le_of_lt HSc.out.wr.in))));clear HSc HXc;(have HSc:=HSd);(have HXc:=HXd);clear HSd HXd;(have d17:=HC17.out _ HXc.out);clear hn hb))
      all_goals (go_wp2_with fail;go_meet;exact⟨s4,hq3,HSd.out,HXd.out⟩)
     case rest=>
      obtain⟨s4,hq3,hS4,hX4⟩:=hcut
      have HS4:=aA hS4
      have HX4:=aA hX4
      rw[hq3,Option.bind_some] at HR
      clear hS4 hX4 hw c17
      have c18:=HC18.out _ HX4.out
      by_cases hz:x.els.size=0
      ·have he:x.els.toList.isEmpty=true:=by rw[Lib.toList_data,List.isEmpty_iff];exact List.eq_nil_of_length_eq_zero (by rw[xA];exact hz)
       have hR1:=HR.out
       simp only[if_pos hz] at hR1
       clear HR
       have HR:=aA hR1
       clear hR1
       clear hz
       go_wp2
       go_end0
       (obtain rfl:R=some s4:=HR.out)
       exact⟨HS4.out.fr,rfl,HS4.out.wr⟩
      ·have he:x.els.toList.isEmpty=false:=by
        rw[Lib.toList_data]
        match hd:x.els.data.toList with
        | []=>exact absurd (by rw[←xA,hd];rfl) hz
        |_::_=>rfl
       have hR1:=HR.out
       simp only[if_neg hz] at hR1
       clear HR
       have HR:=aA hR1
       clear hR1
       clear hz
       have hel:=hO.els
       go_wp2_with (go_at_call 45;refine(bD HS4.out.wr (x:=dF) (by decide) hel).mono ?_;rintro e V ⟨hf,hr⟩;rcases hq9:CA s4 [dF,x.els] with _|s9;(·rw[hq9] at hr;(obtain⟨p,rfl⟩:=hr);(obtain rfl:R=none:=(by rw[HR.out,hq9];try rfl));exact(show _∧_ from⟨rfl,HS4.out.fr.trans hf,⟨_,rfl⟩⟩));rw[hq9] at hr;(obtain⟨rfl,hr⟩:=hr);(have HS9:=aA (HS4.out.step hf hr));rw[hq9] at HR;clear hf hr)
       go_end0
       (obtain rfl:R=some s9:=HR.out)
       exact⟨HS9.out.fr,rfl,HS9.out.wr⟩
end Go.Proofs.YtehbinobohjadaaGreatDoor
