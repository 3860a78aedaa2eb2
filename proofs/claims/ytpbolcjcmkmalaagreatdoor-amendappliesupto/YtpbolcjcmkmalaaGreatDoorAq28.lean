import Derived.Test.YtpbolcjcmkmalaaGreatDoorAq00
import Derived.Test.YtpbolcjcmkmalaaGreatDoorAq09
import Derived.Test.YtpbolcjcmkmalaaGreatDoorAq17
import Derived.Test.YtpbolcjcmkmalaaGreatDoorAq27
import Derived.Test.YtpbolcjcmkmalaaGreatDoorAq06
set_option maxHeartbeats 20000000
set_option maxRecDepth 20000
namespace Go.Proofs.YtpbolcjcmkmalaaGreatDoor
open Go.RowKit Go.Extern.Stop Go.Stop Go.Extern
def EO(p:Nat→Addr)(c:Nat)(e:Ending):Prop:=if c=0 then e=.returned .nilIface else ∃k,c=k+1∧k<11∧e=.returned (fD (p k))
theorem EO.nil{p:Nat→Addr}:EO p 0 (.returned .nilIface):=by unfold EO;rw[if_pos rfl]
theorem EO.err{p:Nat→Addr}(k:Nat)(hk:k<11):EO p (k+1) (.returned (fD (p k))):=by unfold EO;rw[if_neg (by omega)];exact⟨k,rfl,hk,rfl⟩
theorem AC(s:ByteArray)(hs:s.size≤1000000){p:Nat→Addr}{m:Int}(w:World)(hE:Env w p m):
 Calls Tryz.prog 75 #[.string s] w fun e w'=>EO p (chkB s) e∧Below w.heap.size w w':=by
 by_cases h3:300<s.size
 ·have hz:(300:Int)<(s.size:Int):=by omega
  have e1:w.cell? ⟨0,0,none⟩=some (.iface 214 (.pointer (some (p 1)))):=hE.L.cell 1 (by omega)
  have HC:Hid (chkB s=2):=by show _=_;unfold chkB;rw[if_pos h3]
  clear h3 hE
  go_enter Tryz.func75,Tryz.ntmps75
  go_wp2
  go_ret
  rw[HC.out]
  exact⟨EO.err 1 (by omega),Below.refl _ _⟩
 ·have hz:¬(300:Int)<(s.size:Int):=by omega
  have HI:=aA (UE s (by omega) w)
  have HEn:=aA (fun w' (hb:Below w.heap.size w w')=>hE.on hb)
  cases hl:lineB s
  ·rw[hl] at HI
   have HC:Hid (chkB s=1):=by show _=_;unfold chkB;rw[if_neg h3,if_neg (by rw[hl];simp)]
   clear hl h3 hE
   go_enter Tryz.func75,Tryz.ntmps75
   go_wp2_with fail
   refine HI.out.mono ?_
   rintro e w1 ⟨rfl,hb1⟩
   have e1:w1.cell? ⟨1,0,none⟩=some (.iface 214 (.pointer (some (p 0)))):=(HEn.out w1 hb1).L.cell 0 (by omega)
   have H1:=aA hb1
   clear hb1
   go_wp2
   go_ret
   rw[HC.out]
   exact⟨EO.err 0 (by omega),H1.out⟩
  ·rw[hl] at HI
   have HC:Hid (chkB s=0):=by show _=_;unfold chkB;rw[if_neg h3,if_pos hl]
   clear hl h3 hE
   go_enter Tryz.func75,Tryz.ntmps75
   go_wp2_with fail
   refine HI.out.mono ?_
   rintro e w1 ⟨rfl,hb1⟩
   have H1:=aA hb1
   clear hb1
   go_wp2
   go_ret
   rw[HC.out]
   exact⟨EO.nil,H1.out⟩
theorem ItAt.lines{w:World}{B b o:Nat}{x:It}{S:Nat→Prop}{v:Nat→Value}(h:ItAt w B b o x S v):∃la lc,v 2=.slice la x.lines.length lc∧w.cell? ⟨b,o+2,none⟩=some (.slice la x.lines.length lc):=by
 obtain⟨_,_,⟨la,lc,e⟩,_⟩:=h.own.lies.forms
 exact⟨la,lc,e,by rw[←e];exact h.cell (by omega)⟩
theorem kG{w:World}{b o la lc n:_}{x:It}(hc:w.cell? ⟨b,o+2,none⟩=some (.slice la x.lines.length lc)):
 Calls Tryz.prog 111 #[.pointer (some ⟨b,o,none⟩),.int .i64 n] w fun e w'=>e=.returned (.bool (VB x n))∧w'=w:=by
 have HL:Hid (VB x n=(decide (0≤n)&&decide (n<(x.lines.length:Int)))):=rfl
 generalize VB x n=hh at *
 generalize x.lines.length=ln at *
 by_cases h0:(0:Int)≤n
 ·have d0:decide ((0:Int)≤n)=true:=decide_eq_true h0
  by_cases h1:n<(ln:Int)
  ·have d1:decide (n<(ln:Int))=true:=decide_eq_true h1
   rw[d0,d1] at HL
   go_enter Tryz.func111,Tryz.ntmps111
   go_wp2
   go_ret
   rw[HL.out]
   exact⟨rfl,rfl⟩
  ·have d1:decide (n<(ln:Int))=false:=decide_eq_false h1
   rw[d0,d1] at HL
   go_enter Tryz.func111,Tryz.ntmps111
   go_wp2
   go_ret
   rw[HL.out]
   exact⟨rfl,rfl⟩
 ·have d0:decide ((0:Int)≤n)=false:=decide_eq_false h0
  rw[d0] at HL
  go_enter Tryz.func111,Tryz.ntmps111
  go_wp2
  go_ret
  rw[HL.out]
  exact⟨rfl,rfl⟩
def FB(o:OpW)(iv:Nat→Value):Array Value:=#[.int .i64 o.kind,.string o.path,.string o.at',.string o.text,.string o.new,.int .i64 o.line,iv 0,iv 1,iv 2,iv 3]
structure OpOk(o:OpW):Prop where
 path:o.path.size≤6000
 at':o.at'.size≤6000
 text:o.text.size≤6000
 new:o.new.size≤6000
 line:-9223372036854775808≤o.line∧o.line≤9223372036854775807
def ChO(w:World)(B b o:Nat)(S:Nat→Prop)(p:Nat→Addr)(r:COut)(e:Ending)(w':World):Prop:=match r with
 | .bad c=>c≠0∧EO p c e∧Below B w w'
 | .ok y=>e=.returned .nilIface∧∃S' v',ItAt w' B b o y S' v'∧(∀q,S' q→S q∨w.heap.size≤q)∧Upd w w' b o S
theorem Upd.after{w w1 w2:World}{b o:Nat}{S:Nat→Prop}(hb:Below w.heap.size w w1)(hbl:b<w.heap.size)(hu:Upd w1 w2 b o S):Upd w w2 b o S:=
 ⟨hu.os.trans hb.os,hu.tape.trans hb.tape,hu.output.trans hb.output,Nat.le_trans hb.size hu.size,fun k hk hn hne=>(hu.block k (Nat.lt_of_lt_of_le hk hb.size) hn hne).trans (hb.block k hk),fun cur ty e=>hu.here cur ty ((hb.block b hbl).trans e)⟩
theorem ChO.after{w w1:World}{B b o:Nat}{S:Nat→Prop}{p:Nat→Addr}{r:COut}{e:Ending}{w':World}(hb:Below w.heap.size w w1)(hbl:b<w.heap.size)(hB:B≤w.heap.size)(h:ChO w1 B b o S p r e w'):ChO w B b o S p r e w':=by
 cases r with
 |bad c=>exact⟨h.1,h.2.1,(hb.mono hB).trans h.2.2⟩
 |ok y=>
  obtain⟨h1,S',v',h2,h3,h4⟩:=h
  exact⟨h1,S',v',h2,fun q hq=>(h3 q hq).imp (fun h=>h) (fun h=>Nat.le_trans hb.size h),h4.after hb hbl⟩
theorem ChO.drew{w:World}{B b o:Nat}{S:Nat→Prop}{p:Nat→Addr}{r:COut}{e:Ending}{w':World}(h:ChO w B b o S p r e w'):ChO w B b o S p r e w'.drew:=by
 cases r with
 |bad c=>exact⟨h.1,h.2.1,h.2.2.drew⟩
 |ok y=>
  obtain⟨h1,S',v',h2,h3,h4⟩:=h
  exact⟨h1,S',v',⟨h2.here,h2.own.step (fun _ _=>rfl) (nR _),h2.out⟩,h3,⟨h4.os,h4.tape,h4.output,h4.size,h4.block,h4.here⟩⟩
theorem yB{W:World}{g:Nat}{a b c d e f q r s t:Value}{T:TypeId}(h:W.heap[g]?=some (.cells #[a,b,c,d,e,f,q,r,s,t] T (0,0))):W.cell? ⟨g,0,none⟩=some a∧W.cell? ⟨g,1,none⟩=some b∧W.cell? ⟨g,2,none⟩=some c∧W.cell? ⟨g,3,none⟩=some d∧W.cell? ⟨g,4,none⟩=some e∧W.cell? ⟨g,5,none⟩=some f∧W.cell? ⟨g,6,none⟩=some q∧W.cell? ⟨g,7,none⟩=some r∧W.cell? ⟨g,8,none⟩=some s∧W.cell? ⟨g,9,none⟩=some t:=by
 simp[World.cell?,h]
noncomputable def lineC (x:It) (line:Int) (text:ByteArray):COut:=if VB x line=false then .bad 8 else if chkB text=0 then .ok (x.setLines (x.lines.set line.toNat text)) else .bad (chkB text)
theorem AH{x:It}{n:Int}(h:VB x n=true):∃i:Nat,n=i∧i<x.lines.length:=by
 unfold VB at h
 simp only[Bool.and_eq_true,decide_eq_true_eq] at h
 exact⟨n.toNat,by omega,by omega⟩
theorem oJ{w:World}{B b o:Nat}{x:It}{S:Nat→Prop}{v:Nat→Value}(h:ItAt w B b o x S v)(hB:B≤w.heap.size){p:Nat→Addr}{m:Int}(hE:Env w p m)(op:OpW)(hok:OpOk op)(iv:Nat→Value):
 Calls Tryz.prog 71 #[.pointer (some ⟨b,o,none⟩),.agg (FB op iv)] w (ChO w B b o S p (lineC x op.line op.text)):=by
 have ht:=hok.text
 clear hok
 cases op with
 |mk kind path at' text new line item=>
  have ht:text.size≤6000:=ht
  show Calls Tryz.prog 71 #[.pointer (some ⟨b,o,none⟩),.agg #[.int .i64 kind,.string path,.string at',.string text,.string new,.int .i64 line,iv 0,iv 1,iv 2,iv 3]] w (ChO w B b o S p (lineC x line text))
  generalize iv 0=i0,iv 1=i1,iv 2=i2,iv 3=i3
  obtain⟨WB,hWB⟩:∃WB,WB=w.alloc (.cells #[.int .i64 kind,.string path,.string at',.string text,.string new,.int .i64 line,i0,i1,i2,i3] 46):=⟨_,rfl⟩
  have hb0:Below w.heap.size w WB:=by rw[hWB];exact bA _ _
  have hbx:WB.heap[w.heap.size]?=some (.cells #[.int .i64 kind,.string path,.string at',.string text,.string new,.int .i64 line,i0,i1,i2,i3] 46 (0,0)):=by rw[hWB];exact heap_alloc_new _ _
  obtain⟨y0,y1,y2,y3,y4,y5,y6,y7,y8,y9⟩:=yB hbx
  obtain⟨la,lc,hv2,hc2⟩:=(h.on hb0).lines
  have HHas:=aA (kG (n:=line) hc2)
  have HX:=aA hWB
  have H0:=aA h
  have HB0:=aA hb0
  have HEn:=aA (fun w' (hb:Below w.heap.size w w')=>hE.on hb)
  clear hWB h hE y0 y1 y2 y4 y6 y7 y8 y9
  cases hh:VB x line
  ·rw[hh] at HHas
   have HO:Hid (lineC x line text=.bad 8):=by show _=_;unfold lineC;rw[if_pos hh]
   have e1:WB.cell? ⟨7,0,none⟩=some (.iface 214 (.pointer (some (p 7)))):=(HEn.out _ HB0.out).L.cell 7 (by omega)
   clear hh hc2 hv2 hb0 hbx
   generalize lineC x line text=r at *
   go_enter Tryz.func71,Tryz.ntmps71
   go_upto_region 1 with fail
   rw[←HX.out]
   go_wp2_with fail
   refine HHas.out.mono ?_
   rintro e w1 ⟨rfl,ew⟩
   subst w1
   go_wp2
   go_ret
   rw[HO.out]
   exact⟨by omega,EO.err 7 (by omega),HB0.out.mono hB⟩
  ·rw[hh] at HHas
   obtain⟨i,rfl,hil⟩:=AH hh
   have HCk:=aA (AC text (by omega) WB (hE:=HEn.out _ HB0.out))
   by_cases hc:chkB text=0
   ·rw[hc] at HCk
    have HO:Hid (lineC x (i:Int) text=.ok (x.setLines (x.lines.set i text))):=by show _=_;unfold lineC;rw[if_neg (by rw[hh];simp),if_pos hc];rfl
    clear hh hc hb0 hbx
    generalize lineC x (i:Int) text=r at *
    go_enter Tryz.func71,Tryz.ntmps71
    go_upto_region 1 with fail
    rw[←HX.out]
    go_wp2_with fail
    refine HHas.out.mono ?_
    rintro e w1 ⟨rfl,ew⟩
    subst w1
    go_wp2_with fail
    refine HCk.out.mono ?_
    rintro e w1 ⟨he,hb1⟩
    unfold EO at he
    rw[if_pos rfl] at he
    subst he
    have hbw:=HB0.out.trans (hb1.mono HB0.out.size)
    obtain⟨g,cap,hg2,hgc,hgf,hgo⟩:=(H0.out.on hbw).setLine hil text
    have z2:=(H0.out.on hbw).cell (c:=2) (by omega)
    rw[hg2] at z2
    have z3:=(hb1.cell (p:=⟨w.heap.size,3,none⟩) (dA y3)).trans y3
    have z5:=(hb1.cell (p:=⟨w.heap.size,5,none⟩) (dA y5)).trans y5
    have hiz:(i:Int)<(x.lines.length:Int):=by omega
    have HBw:=aA hbw
    have HGo:=aA hgo
    clear hb1 y3 y5 hgo hg2 hbw hc2 hv2
    generalize x.lines[i]=old at *
    generalize x.lines.length=ln at *
    go_wp2
    go_region
    all_goals go_wp2
    all_goals go_ret
    all_goals rw[HO.out]
    all_goals (refine ChO.after HBw.out H0.out.lt hB ⟨rfl,?_⟩)
    all_goals (obtain⟨q1,q2⟩:=HGo.out _ (Fr.setCell (X:=(· =g)) (Fr.refl _ w1) (p:=⟨g,i,none⟩) (.inl rfl) (.string text)) rfl;exact⟨S,v,⟨q1.here,q1.own.step (fun _ _=>rfl) (nR _),q1.out⟩,fun q hq=>.inl hq,⟨q2.os,q2.tape,q2.output,q2.size,q2.block,q2.here⟩⟩)
   ·have HO:Hid (lineC x (i:Int) text=.bad (chkB text)):=by show _=_;unfold lineC;rw[if_neg (by rw[hh];simp),if_neg hc]
    have HC:=aA hc
    clear hh hb0 hbx hc2 hv2 hc
    generalize lineC x (i:Int) text=r at *
    generalize chkB text=c at *
    go_enter Tryz.func71,Tryz.ntmps71
    go_upto_region 1 with fail
    rw[←HX.out]
    go_wp2_with fail
    refine HHas.out.mono ?_
    rintro e w1 ⟨rfl,ew⟩
    subst w1
    go_wp2_with fail
    refine HCk.out.mono ?_
    rintro e w1 ⟨he,hb1⟩
    unfold EO at he
    rw[if_neg HC.out] at he
    obtain⟨k,hk1,hk2,rfl⟩:=he
    have H1:=aA hb1
    have HK:=aA hk1
    clear hb1 hk1
    unfold fD
    go_wp2
    go_ret
    rw[HO.out,HK.out]
    exact⟨by omega,EO.err k hk2,(HB0.out.trans (H1.out.mono HB0.out.size)).mono hB⟩
structure StO(W:World)(B b o c:Nat)(S:Nat→Prop)(y:It)(u:Value)(w':World):Prop where
 cell:∃old,w'.cell? ⟨b,o+c,none⟩=some old
 frz:w'.frozen? ⟨b,o+c,none⟩=false
 fin:∀w'',w''.heap=(w'.setCell ⟨b,o+c,none⟩ u).heap→w''.os=w'.os→w''.tape=w'.tape→w''.output=w'.output→∃S' v',ItAt w'' B b o y S' v'∧(∀q,S' q→S q∨W.heap.size≤q)∧Upd W w'' b o S
theorem fL(l:List ByteArray):∀u∈l.map Value.string,u.oneCell'=true:=by
 intro u hu
 obtain⟨s,_,rfl⟩:=List.mem_map.1 hu
 rfl
theorem ItAt.stL{W w':World}{B b o:Nat}{x:It}{S:Nat→Prop}{v:Nat→Value}(h:ItAt W B b o x S v)(hB:B≤W.heap.size){u:Value}{ls:List ByteArray}(hg:W.grownBy w' (v 2).ownBlock)(hr:w'.ownsRow B 9 1 u ls.length (ls.map Value.string))(hu:u.ownBlock=(v 2).ownBlock∨∃g,u.ownBlock=some g∧W.heap.size≤g∧g<w'.heap.size):StO W B b o 2 S (x.setLines ls) u w':=by
 obtain⟨K,T,hk⟩:=h.own.parts
 have hbne:∀g,(v 2).ownBlock=some g→g≠b:=fun g hg e=>h.out (e▸hk.sl g hg)
 have hbb:w'.heap[b]?=W.heap[b]?:=hg.block b h.lt (fun e=>hbne b e.symm rfl)
 refine⟨⟨v 2,(World.cell?_of_block (a:=⟨b,o+2,none⟩) hbb).trans (h.cell (by omega))⟩,(World.frozen?_of_block (a:=⟨b,o+2,none⟩) hbb).trans (h.frozen _),fun w'' h1 h2 h3 h4=>?_⟩
 have hub:∀g,u.ownBlock=some g→g≠b:=fun g hg' e=>by
  rcases hu with e1|⟨g',e1,h5,_⟩
  ·exact hbne g (by rw[←e1];exact hg') e
  ·rw[e1] at hg';injection hg' with hg';have:=h.lt;omega
 have hsz:w''.heap.size=w'.heap.size:=by rw[h1];simp
 have hblk:∀k,k≠b→w''.heap[k]?=w'.heap[k]?:=fun k hk=>by rw[h1];exact Below.heap_setCell _ _ _ _ hk
 refine h.setL (u:=u) (ls:=ls) ⟨h2.trans hg.os,h3.trans hg.tape,h4.trans hg.output,by rw[hsz];exact hg.size,fun k hk hx=>?_⟩ ?_ ?_ ?_ hB
 ·rw[hblk k (fun e=>hx (.inl e)),hg.block k hk (fun e=>hx (.inr e.symm))]
 ·obtain⟨cur,ty,e,_⟩:=h.here
  rw[h1,OA u (hbb.trans e),OA u e]
 ·exact CA hr fun g hg' hl=>hblk g (hub g hg')
 ·rcases hu with e1|⟨g',e1,h5,h6⟩
  ·exact .inl e1
  ·exact .inr ⟨g',e1,h5,by rw[hsz];exact h6⟩
theorem eQ{W:World}{B b o i:Nat}{x:It}{S:Nat→Prop}{v:Nat→Value}(h:ItAt W B b o x S v)(hB:B≤W.heap.size)(hi:i<x.lines.length)(hn:x.lines.length≤1000000){la:Option Addr}{lc:Nat}(e:v 2=.slice la x.lines.length lc):
 Calls Tryz.prog 113 #[.slice la x.lines.length lc,.int .i64 i,.int .i64 ((i:Int)+1)] W fun e w'=>∃a n c,e=.returned (.slice a n c)∧StO W B b o 2 S (x.setLines (x.lines.eraseIdx i)) (.slice a n c) w':=by
 obtain⟨K,T,hk⟩:=h.own.parts
 have hln:=hk.ln
 rw[e] at hln
 refine(NR hln (fL _) hi hn).mono ?_
 rintro e' w' ⟨⟨u,rfl,hu,hr⟩,hg⟩
 obtain⟨a,c,rfl⟩:=tA hr
 have hl:(x.lines.eraseIdx i).length=x.lines.length - 1:=by rw[List.length_eraseIdx,if_pos hi]
 refine⟨a,_,c,rfl,h.stL hB (by rw[e];exact hg) ?_ (.inl (by rw[hu,e]))⟩
 rw[hl,List.eraseIdx_eq_take_drop_succ,List.map_append,List.map_take,List.map_drop]
 exact hr
theorem SN{W:World}{B b o i vb:Nat}{x:It}{S:Nat→Prop}{v:Nat→Value}(h:ItAt W B b o x S v)(hB:B≤W.heap.size)(hi:i≤x.lines.length)(hn:x.lines.length≤1000000){la:Option Addr}{lc:Nat}(e:v 2=.slice la x.lines.length lc){s:ByteArray}(hv:W.heap[vb]?=some (.cells #[.string s] 9 (0,0)))(hvb:¬S vb):
 Calls Tryz.prog 112 #[.slice la x.lines.length lc,.int .i64 i,.slice (some ⟨vb,0,none⟩) 1 1] W fun e w'=>∃a n c,e=.returned (.slice a n c)∧StO W B b o 2 S (x.setLines (x.lines.insertIdx i s)) (.slice a n c) w':=by
 obtain⟨K,T,hk⟩:=h.own.parts
 have hln:=hk.ln
 rw[e] at hln
 refine(WR (ns:=[.string s]) hln (fL _) hi hn hv rfl (fun u hu=>by simp at hu;subst hu;rfl) (fun e2=>hvb (hk.sl vb (by rw[e];exact e2))) hB).mono ?_
 rintro e' w' ⟨⟨u,rfl,hu,hr⟩,hg⟩
 obtain⟨a,c,rfl⟩:=tA hr
 have hl:(x.lines.insertIdx i s).length=x.lines.length+1:=by rw[List.length_insertIdx,if_pos hi]
 refine⟨a,_,c,rfl,h.stL hB (by rw[e];exact hg) ?_ (by rw[e];exact hu)⟩
 have hm:(x.lines.insertIdx i s).map Value.string=(x.lines.map Value.string).take i++[.string s]++(x.lines.map Value.string).drop i:=by
  rw[ZE,DF _ _ _ (by simpa using hi)]
  simp
 rw[hl,hm]
 exact hr
noncomputable def dropC (x:It) (line:Int):COut:=if VB x line=false then .bad 8 else .ok (x.setLines (x.lines.eraseIdx line.toNat))
theorem AL{w:World}{B b o:Nat}{x:It}{S:Nat→Prop}{v:Nat→Value}(h:ItAt w B b o x S v)(hB:B≤w.heap.size)(hn:x.lines.length≤1000000){p:Nat→Addr}{m:Int}(hE:Env w p m)(op:OpW)(iv:Nat→Value):
 Calls Tryz.prog 73 #[.pointer (some ⟨b,o,none⟩),.agg (FB op iv)] w (ChO w B b o S p (dropC x op.line)):=by
 cases op with
 |mk kind path at' text new line item=>
  show Calls Tryz.prog 73 #[.pointer (some ⟨b,o,none⟩),.agg #[.int .i64 kind,.string path,.string at',.string text,.string new,.int .i64 line,iv 0,iv 1,iv 2,iv 3]] w (ChO w B b o S p (dropC x line))
  generalize iv 0=i0,iv 1=i1,iv 2=i2,iv 3=i3
  obtain⟨WB,hWB⟩:∃WB,WB=w.alloc (.cells #[.int .i64 kind,.string path,.string at',.string text,.string new,.int .i64 line,i0,i1,i2,i3] 46):=⟨_,rfl⟩
  have hb0:Below w.heap.size w WB:=by rw[hWB];exact bA _ _
  have hbx:WB.heap[w.heap.size]?=some (.cells #[.int .i64 kind,.string path,.string at',.string text,.string new,.int .i64 line,i0,i1,i2,i3] 46 (0,0)):=by rw[hWB];exact heap_alloc_new _ _
  obtain⟨y0,y1,y2,y3,y4,y5,y6,y7,y8,y9⟩:=yB hbx
  obtain⟨la,lc,hv2,hc2⟩:=(h.on hb0).lines
  have HHas:=aA (kG (n:=line) hc2)
  have HX:=aA hWB
  have H0:=aA h
  have HB0:=aA hb0
  have HEn:=aA (fun w' (hb:Below w.heap.size w w')=>hE.on hb)
  have HV2:=aA hv2
  clear hWB h hE y0 y1 y2 y3 y4 y6 y7 y8 y9 hv2
  cases hh:VB x line
  ·rw[hh] at HHas
   have HO:Hid (dropC x line=.bad 8):=by show _=_;unfold dropC;rw[if_pos hh]
   have e1:WB.cell? ⟨7,0,none⟩=some (.iface 214 (.pointer (some (p 7)))):=(HEn.out _ HB0.out).L.cell 7 (by omega)
   clear hh hc2 hb0 hbx
   generalize dropC x line=r at *
   go_enter Tryz.func73,Tryz.ntmps73
   go_upto_region 1 with fail
   rw[←HX.out]
   go_wp2_with fail
   refine HHas.out.mono ?_
   rintro e w1 ⟨rfl,ew⟩
   subst w1
   go_wp2
   go_ret
   rw[HO.out]
   exact⟨by omega,EO.err 7 (by omega),HB0.out.mono hB⟩
  ·rw[hh] at HHas
   obtain⟨i,rfl,hil⟩:=AH hh
   have HO:Hid (dropC x (i:Int)=.ok (x.setLines (x.lines.eraseIdx i))):=by show _=_;unfold dropC;rw[if_neg (by rw[hh];simp)];rfl
   have HD:Hid (∀W,Below WB.heap.size WB W→Calls Tryz.prog 113 #[.slice la x.lines.length lc,.int .i64 i,.int .i64 ((i:Int)+1)] W fun e w'=>∃a n c,e=.returned (.slice a n c)∧StO W B b o 2 S (x.setLines (x.lines.eraseIdx i)) (.slice a n c) w'∧Below w.heap.size w W):=fun W hW=>by
    have hbw:=HB0.out.trans (hW.mono HB0.out.size)
    refine(eQ (H0.out.on hbw) (Nat.le_trans hB hbw.size) hil hn HV2.out).mono ?_
    rintro e w' ⟨a,n,c,h1,h2⟩
    exact⟨a,n,c,h1,h2,hbw⟩
   have hwr:IntKind.i64.wrap ((i:Int)+1)=(i:Int)+1:=by rw[IntKind.wrap_i64];omega
   clear hh hb0 hbx
   generalize x.lines.length=ln at *
   generalize x.setLines (x.lines.eraseIdx i)=y at *
   generalize dropC x (i:Int)=r at *
   go_enter Tryz.func73,Tryz.ntmps73
   go_upto_region 1 with fail
   rw[←HX.out]
   go_wp2_with fail
   refine HHas.out.mono ?_
   rintro e w1 ⟨rfl,ew⟩
   subst w1
   go_wp2
   go_region_with (go_at_call 113;refine(HD.out _ ?_).mono ?_;(· first|exact Below.refl _ _|exact(Below.refl _ _).drew|exact FA (Below.refl _ _) _);rintro e w2 ⟨ra,rn,rc,rfl,hst,hbw⟩;obtain⟨old,hcl⟩:=hst.cell;have hfz:=hst.frz;have HST:=aA (aI hst.fin hbw);clear hst hbw)
   all_goals go_wp2
   all_goals go_ret
   all_goals rw[HO.out]
   all_goals (obtain⟨S',v',q1,q2,q3⟩:=HST.out.1 _ rfl rfl rfl rfl;exact ChO.after HST.out.2 H0.out.lt hB ⟨rfl,S',v',q1,q2,q3⟩)
noncomputable def addC (x:It) (line:Int) (text:ByteArray):COut:=if line≠x.lines.length∧VB x line=false then .bad 8 else if x.lines.length=40 then .bad 2 else if chkB text=0 then .ok (x.setLines (x.lines.insertIdx line.toNat text)) else .bad (chkB text)
theorem PM{w:World}{B b o:Nat}{x:It}{S:Nat→Prop}{v:Nat→Value}(h:ItAt w B b o x S v)(hB:B≤w.heap.size)(hn:x.lines.length≤1000000){p:Nat→Addr}{m:Int}(hE:Env w p m)(op:OpW)(hok:OpOk op)(iv:Nat→Value):
 Calls Tryz.prog 72 #[.pointer (some ⟨b,o,none⟩),.agg (FB op iv)] w (ChO w B b o S p (addC x op.line op.text)):=by
 have ht:=hok.text
 clear hok
 cases op with
 |mk kind path at' text new line item=>
  have ht:text.size≤6000:=ht
  show Calls Tryz.prog 72 #[.pointer (some ⟨b,o,none⟩),.agg #[.int .i64 kind,.string path,.string at',.string text,.string new,.int .i64 line,iv 0,iv 1,iv 2,iv 3]] w (ChO w B b o S p (addC x line text))
  generalize iv 0=i0,iv 1=i1,iv 2=i2,iv 3=i3
  obtain⟨WB,hWB⟩:∃WB,WB=w.alloc (.cells #[.int .i64 kind,.string path,.string at',.string text,.string new,.int .i64 line,i0,i1,i2,i3] 46):=⟨_,rfl⟩
  have hb0:Below w.heap.size w WB:=by rw[hWB];exact bA _ _
  have hbx:WB.heap[w.heap.size]?=some (.cells #[.int .i64 kind,.string path,.string at',.string text,.string new,.int .i64 line,i0,i1,i2,i3] 46 (0,0)):=by rw[hWB];exact heap_alloc_new _ _
  obtain⟨y0,y1,y2,y3,y4,y5,y6,y7,y8,y9⟩:=yB hbx
  obtain⟨la,lc,hv2,hc2⟩:=(h.on hb0).lines
  have HHas:Hid (∀W,Below WB.heap.size WB W→Calls Tryz.prog 111 #[.pointer (some ⟨b,o,none⟩),.int .i64 line] W fun e w'=>e=.returned (.bool (VB x line))∧w'=W):=fun W hW=>kG ((hW.cell (p:=⟨b,o+2,none⟩) (dA hc2)).trans hc2)
  have HX:=aA hWB
  have H0:=aA h
  have HB0:=aA hb0
  have HEn:=aA (fun w' (hb:Below w.heap.size w w')=>hE.on hb)
  have HV2:=aA hv2
  clear hWB h hE y0 y1 y2 y4 y6 y7 y8 y9 hv2
  by_cases hne:line=(x.lines.length:Int)
  ·subst hne
   have hil:x.lines.length≤x.lines.length:=nR _
   have HG:Hid (¬((x.lines.length:Int)≠x.lines.length∧VB x (x.lines.length:Int)=false)):=fun e=>e.1 rfl
   by_cases h40:x.lines.length=40
   ·have HO:Hid (addC x (x.lines.length:Int) text=.bad 2):=by show _=_;unfold addC;rw[if_neg HG.out,if_pos h40]
    have e1:WB.cell? ⟨0,0,none⟩=some (.iface 214 (.pointer (some (p 1)))):=(HEn.out _ HB0.out).L.cell 1 (by omega)
    have z40:((x.lines.length:Int)==40)=true:=by rw[beq_iff_eq];omega
    clear hb0 hbx h40
    generalize addC x (x.lines.length:Int) text=r at *
    generalize x.lines.length=ln at *
    go_enter Tryz.func72,Tryz.ntmps72
    go_upto_region 1 with fail
    rw[←HX.out]
    go_quiet (fail)
    go_wp2
    go_ret
    rw[HO.out]
    exact⟨by omega,EO.err 1 (by omega),(FA HB0.out _).mono hB⟩
   ·have z40:¬(x.lines.length:Int)=40:=by omega
    have z41:((x.lines.length:Int)==40)=false:=by rw[beq_eq_false_iff_ne];omega
    have HCk:=aA (fun W (hW:Below WB.heap.size WB W)=>AC text (by omega) W (hE:=HEn.out _ (HB0.out.trans (hW.mono HB0.out.size))))
    by_cases hc:chkB text=0
    ·rw[hc] at HCk
     have HO:Hid (addC x (x.lines.length:Int) text=.ok (x.setLines (x.lines.insertIdx x.lines.length text))):=by show _=_;unfold addC;rw[if_neg HG.out,if_neg h40,if_pos hc];rfl
     have HD:Hid (∀W vb,Below WB.heap.size WB W→W.heap[vb]?=some (.cells #[.string text] 9 (0,0))→WB.heap.size≤vb→Calls Tryz.prog 112 #[.slice la x.lines.length lc,.int .i64 x.lines.length,.slice (some ⟨vb,0,none⟩) 1 1] W fun e w'=>∃a n c,e=.returned (.slice a n c)∧StO W B b o 2 S (x.setLines (x.lines.insertIdx x.lines.length text)) (.slice a n c) w'∧Below w.heap.size w W):=fun W vb hW hv hvb=>by
      have hbw:=HB0.out.trans (hW.mono HB0.out.size)
      refine(SN (H0.out.on hbw) (Nat.le_trans hB hbw.size) hil hn HV2.out hv (fun e=>by have:=(H0.out.own.in vb e).2;have:=HB0.out.size;omega)).mono ?_
      rintro e w' ⟨a,n,c,h1,h2⟩
      exact⟨a,n,c,h1,h2,hbw⟩
     clear hc hb0 hbx
     generalize addC x (x.lines.length:Int) text=r at *
     generalize x.setLines (x.lines.insertIdx x.lines.length text)=y at *
     generalize x.lines.length=ln at *
     go_enter Tryz.func72,Tryz.ntmps72
     go_upto_region 1 with fail
     rw[←HX.out]
     go_quiet (fail)
     go_wp2_with fail
     refine(HCk.out _ (by first|exact Below.refl _ _|exact FA (Below.refl _ _) _)).mono ?_
     rintro e w1 ⟨he,hb1⟩
     unfold EO at he
     rw[if_pos rfl] at he
     subst he
     have hb2:Below WB.heap.size WB w1:=(FA (Below.refl _ _) _).trans hb1
     have z2:=(hb2.cell (p:=⟨b,o+2,none⟩) (dA hc2)).trans hc2
     have z3:=(hb2.cell (p:=⟨w.heap.size,3,none⟩) (dA y3)).trans y3
     have z5:=(hb2.cell (p:=⟨w.heap.size,5,none⟩) (dA y5)).trans y5
     have hba:Below WB.heap.size WB (w1.alloc (.cells #[.string text] 9)):=hb2.alloc hb2.size _
     have hnb:=heap_alloc_new w1 (.cells #[.string text] 9)
     have hbs:=hb2.size
     have x2:=(hba.cell (p:=⟨b,o+2,none⟩) (dA hc2)).trans hc2
     have x3:=(hba.cell (p:=⟨w.heap.size,3,none⟩) (dA y3)).trans y3
     have x5:=(hba.cell (p:=⟨w.heap.size,5,none⟩) (dA y5)).trans y5
     have HN:=aA (aI hba (aI hnb hbs))
     have H2:=aA hb2
     clear hb1 hb2 y3 y5 hc2 hba hnb hbs
     go_wp2
     go_region_with (go_at_call 112;refine(HD.out _ w1.heap.size ?_ ?_ ?_).mono ?_;(· first|exact HN.out.1|exact HN.out.1.drew|exact FA HN.out.1 _);(· exact HN.out.2.1);(· exact HN.out.2.2);rintro e w2 ⟨ra,rn,rc,rfl,hst,hbw⟩;obtain⟨old,hcl⟩:=hst.cell;have hfz:=hst.frz;have HST:=aA (aI hst.fin hbw);clear hst hbw)
     all_goals go_wp2
     all_goals go_ret
     all_goals rw[HO.out]
     all_goals (obtain⟨S',v',q1,q2,q3⟩:=HST.out.1 _ rfl rfl rfl rfl;exact ChO.after HST.out.2 H0.out.lt hB ⟨rfl,S',v',q1,q2,q3⟩)
    ·have HO:Hid (addC x (x.lines.length:Int) text=.bad (chkB text)):=by show _=_;unfold addC;rw[if_neg HG.out,if_neg h40,if_neg hc]
     have HC:=aA hc
     clear hb0 hbx hc
     generalize addC x (x.lines.length:Int) text=r at *
     generalize chkB text=c at *
     generalize x.lines.length=ln at *
     go_enter Tryz.func72,Tryz.ntmps72
     go_upto_region 1 with fail
     rw[←HX.out]
     go_quiet (fail)
     go_wp2_with fail
     refine(HCk.out _ (by first|exact Below.refl _ _|exact FA (Below.refl _ _) _)).mono ?_
     rintro e w1 ⟨he,hb1⟩
     unfold EO at he
     rw[if_neg HC.out] at he
     obtain⟨k,hk1,hk2,rfl⟩:=he
     have hb2:Below WB.heap.size WB w1:=(FA (Below.refl _ _) _).trans hb1
     have H1:=aA hb2
     have HK:=aA hk1
     clear hb1 hb2 hk1
     unfold fD
     go_wp2
     go_ret
     rw[HO.out,HK.out]
     exact⟨by omega,EO.err k hk2,(HB0.out.trans (H1.out.mono HB0.out.size)).mono hB⟩
  ·have n1:(line==(x.lines.length:Int))=false:=by rw[beq_eq_false_iff_ne];exact hne
   have n2:(line !=(x.lines.length:Int))=true:=by rw[bne_iff_ne];exact hne
   cases hh:VB x line
   ·rw[hh] at HHas
    have HO:Hid (addC x line text=.bad 8):=by show _=_;unfold addC;rw[if_pos ⟨hne,hh⟩]
    have e1:WB.cell? ⟨7,0,none⟩=some (.iface 214 (.pointer (some (p 7)))):=(HEn.out _ HB0.out).L.cell 7 (by omega)
    clear hh hb0 hbx
    generalize addC x line text=r at *
    generalize x.lines.length=ln at *
    go_enter Tryz.func72,Tryz.ntmps72
    go_upto_region 1 with fail
    rw[←HX.out]
    go_quiet ((go_at_call 111;exact Calls.quiet_of_same (HHas.out _ (by first|exact Below.refl _ _|exact FA (Below.refl _ _) _|exact(Below.refl _ _).drew))))
    go_wp2
    go_ret
    rw[HO.out]
    exact⟨by omega,EO.err 7 (by omega),(FA HB0.out _).mono hB⟩
   ·rw[hh] at HHas
    obtain⟨i,rfl,hil0⟩:=AH hh
    have hil:i≤x.lines.length:=by omega
    have HG:Hid (¬((i:Int)≠x.lines.length∧VB x (i:Int)=false)):=fun e=>by rw[hh] at e;cases e.2
    clear hh
    by_cases h40:x.lines.length=40
    ·have HO:Hid (addC x (i:Int) text=.bad 2):=by show _=_;unfold addC;rw[if_neg HG.out,if_pos h40]
     have e1:WB.cell? ⟨0,0,none⟩=some (.iface 214 (.pointer (some (p 1)))):=(HEn.out _ HB0.out).L.cell 1 (by omega)
     have z40:((x.lines.length:Int)==40)=true:=by rw[beq_iff_eq];omega
     clear hb0 hbx h40
     generalize addC x (i:Int) text=r at *
     generalize x.lines.length=ln at *
     go_enter Tryz.func72,Tryz.ntmps72
     go_upto_region 1 with fail
     rw[←HX.out]
     go_quiet ((go_at_call 111;exact Calls.quiet_of_same (HHas.out _ (by first|exact Below.refl _ _|exact FA (Below.refl _ _) _|exact(Below.refl _ _).drew))))
     go_wp2
     go_ret
     rw[HO.out]
     exact⟨by omega,EO.err 1 (by omega),(FA HB0.out _).mono hB⟩
    ·have z40:¬(x.lines.length:Int)=40:=by omega
     have z41:((x.lines.length:Int)==40)=false:=by rw[beq_eq_false_iff_ne];omega
     have HCk:=aA (fun W (hW:Below WB.heap.size WB W)=>AC text (by omega) W (hE:=HEn.out _ (HB0.out.trans (hW.mono HB0.out.size))))
     by_cases hc:chkB text=0
     ·rw[hc] at HCk
      have HO:Hid (addC x (i:Int) text=.ok (x.setLines (x.lines.insertIdx i text))):=by show _=_;unfold addC;rw[if_neg HG.out,if_neg h40,if_pos hc];rfl
      have HD:Hid (∀W vb,Below WB.heap.size WB W→W.heap[vb]?=some (.cells #[.string text] 9 (0,0))→WB.heap.size≤vb→Calls Tryz.prog 112 #[.slice la x.lines.length lc,.int .i64 i,.slice (some ⟨vb,0,none⟩) 1 1] W fun e w'=>∃a n c,e=.returned (.slice a n c)∧StO W B b o 2 S (x.setLines (x.lines.insertIdx i text)) (.slice a n c) w'∧Below w.heap.size w W):=fun W vb hW hv hvb=>by
       have hbw:=HB0.out.trans (hW.mono HB0.out.size)
       refine(SN (H0.out.on hbw) (Nat.le_trans hB hbw.size) hil hn HV2.out hv (fun e=>by have:=(H0.out.own.in vb e).2;have:=HB0.out.size;omega)).mono ?_
       rintro e w' ⟨a,n,c,h1,h2⟩
       exact⟨a,n,c,h1,h2,hbw⟩
      clear hc hb0 hbx
      generalize addC x (i:Int) text=r at *
      generalize x.setLines (x.lines.insertIdx i text)=y at *
      generalize x.lines.length=ln at *
      go_enter Tryz.func72,Tryz.ntmps72
      go_upto_region 1 with fail
      rw[←HX.out]
      go_quiet ((go_at_call 111;exact Calls.quiet_of_same (HHas.out _ (by first|exact Below.refl _ _|exact FA (Below.refl _ _) _|exact(Below.refl _ _).drew))))
      go_wp2_with fail
      refine(HCk.out _ (by first|exact Below.refl _ _|exact FA (Below.refl _ _) _)).mono ?_
      rintro e w1 ⟨he,hb1⟩
      unfold EO at he
      rw[if_pos rfl] at he
      subst he
      have hb2:Below WB.heap.size WB w1:=(FA (Below.refl _ _) _).trans hb1
      have z2:=(hb2.cell (p:=⟨b,o+2,none⟩) (dA hc2)).trans hc2
      have z3:=(hb2.cell (p:=⟨w.heap.size,3,none⟩) (dA y3)).trans y3
      have z5:=(hb2.cell (p:=⟨w.heap.size,5,none⟩) (dA y5)).trans y5
      have hba:Below WB.heap.size WB (w1.alloc (.cells #[.string text] 9)):=hb2.alloc hb2.size _
      have hnb:=heap_alloc_new w1 (.cells #[.string text] 9)
      have hbs:=hb2.size
      have x2:=(hba.cell (p:=⟨b,o+2,none⟩) (dA hc2)).trans hc2
      have x3:=(hba.cell (p:=⟨w.heap.size,3,none⟩) (dA y3)).trans y3
      have x5:=(hba.cell (p:=⟨w.heap.size,5,none⟩) (dA y5)).trans y5
      have HN:=aA (aI hba (aI hnb hbs))
      have H2:=aA hb2
      clear hb1 hb2 y3 y5 hc2 hba hnb hbs
      go_wp2
      go_region_with (go_at_call 112;refine(HD.out _ w1.heap.size ?_ ?_ ?_).mono ?_;(· first|exact HN.out.1|exact HN.out.1.drew|exact FA HN.out.1 _);(· exact HN.out.2.1);(· exact HN.out.2.2);rintro e w2 ⟨ra,rn,rc,rfl,hst,hbw⟩;obtain⟨old,hcl⟩:=hst.cell;have hfz:=hst.frz;have HST:=aA (aI hst.fin hbw);clear hst hbw)
      all_goals go_wp2
      all_goals go_ret
      all_goals rw[HO.out]
      all_goals (obtain⟨S',v',q1,q2,q3⟩:=HST.out.1 _ rfl rfl rfl rfl;exact ChO.after HST.out.2 H0.out.lt hB ⟨rfl,S',v',q1,q2,q3⟩)
     ·have HO:Hid (addC x (i:Int) text=.bad (chkB text)):=by show _=_;unfold addC;rw[if_neg HG.out,if_neg h40,if_neg hc]
      have HC:=aA hc
      clear hb0 hbx hc
      generalize addC x (i:Int) text=r at *
      generalize chkB text=c at *
      generalize x.lines.length=ln at *
      go_enter Tryz.func72,Tryz.ntmps72
      go_upto_region 1 with fail
      rw[←HX.out]
      go_quiet ((go_at_call 111;exact Calls.quiet_of_same (HHas.out _ (by first|exact Below.refl _ _|exact FA (Below.refl _ _) _|exact(Below.refl _ _).drew))))
      go_wp2_with fail
      refine(HCk.out _ (by first|exact Below.refl _ _|exact FA (Below.refl _ _) _)).mono ?_
      rintro e w1 ⟨he,hb1⟩
      unfold EO at he
      rw[if_neg HC.out] at he
      obtain⟨k,hk1,hk2,rfl⟩:=he
      have hb2:Below WB.heap.size WB w1:=(FA (Below.refl _ _) _).trans hb1
      have H1:=aA hb2
      have HK:=aA hk1
      clear hb1 hb2 hk1
      unfold fD
      go_wp2
      go_ret
      rw[HO.out,HK.out]
      exact⟨by omega,EO.err k hk2,(HB0.out.trans (H1.out.mono HB0.out.size)).mono hB⟩
end Go.Proofs.YtpbolcjcmkmalaaGreatDoor
