import Derived.Test.YtpbolcjcmkmalaaGreatDoorAq00
import Derived.Test.YtpbolcjcmkmalaaGreatDoorAq28
import Derived.Test.YtpbolcjcmkmalaaGreatDoorAq16
import Derived.Test.YtpbolcjcmkmalaaGreatDoorShelfR
import Derived.Laws.RangeString
import Derived.Laws.RangeAny
set_option maxHeartbeats 20000000
set_option maxRecDepth 20000
namespace Go.Proofs.YtpbolcjcmkmalaaGreatDoor
open Go.RowKit Go.Extern.Stop Go.Stop Go.Extern
theorem CL{s:ByteArray}(h:RD s)(i:Nat)(hi:i<s.size):s[i].toNat<128:=by
 have h1:=h.2
 unfold lineB at h1
 simp only[Bool.and_eq_true] at h1
 have h2:=h1.1.2
 unfold plainB at h2
 have h3:=@of_decide_eq_true _ (Classical.propDecidable _) h2
 have h4:=okN_iff.1 (h3 i hi (by omega) hi)
 omega
theorem xN(s t:ByteArray)(k:Nat):Lib.hasPrefix (s.extract k s.size).data.toList t.data.toList=t.toList.isPrefixOf (s.toList.drop k):=by
 unfold Lib.hasPrefix
 rw[Lib.toList_data,Lib.toList_data,Lib.extract_to_end]
theorem DD(W:World)(s:ByteArray)(k n:Nat)(h:W.heap.size=n):(W.iter s k).iterPos n=k:=by
 subst h
 simp[World.iterPos,World.iter_heap]
def WS(H:List (Nat×Nat))(a b c:Value):Prop:=a=.int .i64 (H.length:Nat)∧b=.int .i64 ((JC H).1:Nat)∧c=.int .i64 ((JC H).2:Nat)
theorem rI{w:World}{B b o:Nat}{x:It}{S:Nat→Prop}{v:Nat→Value}(h:ItAt w B b o x S v)(hB:B≤w.heap.size)(hn:x.lines.length≤40)(hfi:∀s,s∈x.lines→RD s){p:Nat→Addr}{m:Int}(hE:Env w p m)(op:OpW)(hok:OpOk op)(iv:Nat→Value):
 Calls Tryz.prog 74 #[.pointer (some ⟨b,o,none⟩),.agg (FB op iv)] w (ChO w B b o S p (wordsC x op)):=by
 have ht:=hok.text
 have htn:=hok.new
 clear hok
 cases op with
 |mk kind path at' text new line item=>
  have ht:text.size≤6000:=ht
  have htn:new.size≤6000:=htn
  show Calls Tryz.prog 74 #[.pointer (some ⟨b,o,none⟩),.agg #[.int .i64 kind,.string path,.string at',.string text,.string new,.int .i64 line,iv 0,iv 1,iv 2,iv 3]] w (ChO w B b o S p (wordsC x ⟨kind,path,at',text,new,line,item⟩))
  generalize iv 0=i0,iv 1=i1,iv 2=i2,iv 3=i3
  obtain⟨WB,hWB⟩:∃WB,WB=w.alloc (.cells #[.int .i64 kind,.string path,.string at',.string text,.string new,.int .i64 line,i0,i1,i2,i3] 46):=⟨_,rfl⟩
  have hb0:Below w.heap.size w WB:=by rw[hWB];exact bA _ _
  have hbx:WB.heap[w.heap.size]?=some (.cells #[.int .i64 kind,.string path,.string at',.string text,.string new,.int .i64 line,i0,i1,i2,i3] 46 (0,0)):=by rw[hWB];exact heap_alloc_new _ _
  have hs0:WB.heap.size=w.heap.size+1:=by rw[hWB];simp
  obtain⟨y0,y1,y2,y3,y4,y5,y6,y7,y8,y9⟩:=yB hbx
  obtain⟨la,lc,hv2,hc2⟩:=(h.on hb0).lines
  obtain⟨K,T,hk⟩:=h.own.parts
  have hln:=hk.ln
  have hll:=(h.own.lies.linesIn hv2).2
  have HX:=aA hWB
  have H0:=aA h
  have HB0:=aA hb0
  have HEn:=aA (fun w' (hb:Below w.heap.size w w')=>hE.on hb)
  have HV2:=aA hv2
  have HLl:=aA hll
  have HFi:=aA hfi
  have HM:Hid (∀i,(tB x.lines i).length≤300):=fun i=>by
   unfold tB
   cases hq:x.lines[i]? with
   |none=>simp[Lib.toList_data]
   |some s=>
    have:=(hfi s (List.mem_of_getElem? hq)).1
    show s.toList.length≤300
    rw[Lib.toList_data]
    simpa using this
  have hsz0:=hs0
  clear hWB h hE y0 y1 y2 y5 y6 y7 y8 y9 hv2 hk hln hll hfi hbx hs0
  generalize hkn:x.lines.length=n at *
  have HKn:=aA hkn
  clear hkn
  go_enter Tryz.func74,Tryz.ntmps74
  go_upto_region 1 with fail
  rw[←HX.out]
  go_wp2_with fail
  go_loopw [5,6,7,19] (fun a1 a2 a3 t' wr=>∃i:Nat,i≤n∧t'=.int .i64 i∧WS (mB text.toList x.lines i) a1 a2 a3∧Below WB.heap.size WB wr) (fun _ _ _ t' _=>(n - RowKit.intOf t').toNat)
  case atStart=>exact⟨0,by omega,rfl,⟨rfl,rfl,rfl⟩,Below.refl _ _⟩
  case round=>
   obtain⟨i,hi,rfl,⟨rfl,rfl,rfl⟩,hb⟩:=hrel
   obtain⟨w0,hw0⟩:∃w0,w0=wr:=⟨_,rfl⟩
   subst hw0
   by_cases hin:i<n
   ·have hiz:(i:Int)<n:=by omega
    obtain⟨s,hs⟩:∃s,x.lines[i]?=some s:=⟨_,List.getElem?_eq_getElem (by have:=HKn.out;omega)⟩
    obtain⟨lb,lo,rfl,_,hcs⟩:=HLl.out i s hs
    have hbw:=HB0.out.trans (hb.mono HB0.out.size)
    have hcs':=(hbw.cell (p:=⟨lb,lo+i,none⟩) (dA hcs)).trans hcs
    have HAs:Hid (∀k (hk:k<s.size),s[k].toNat<128):=fun k hk=>CL (HFi.out s (List.mem_of_getElem? hs)) k hk
    have hss:s.size≤300:=(HFi.out s (List.mem_of_getElem? hs)).1
    have HLn:Hid (tB x.lines i=s.toList):=by show _=_;unfold tB;rw[hs];rfl
    have HHP:Hid (∀k W,Calls Tryz.prog 94 #[.string (s.extract k s.size),.string text] W fun e w'=>e=.returned (.bool (text.toList.isPrefixOf (s.toList.drop k)))∧w'=W):=fun k W=>by
     rw[←xN s text k]
     exact Go.Proofs.Tryz.strings_HasPrefix _ _ W
    have HBw:=aA hb
    have hn0:=hb.size
    clear hb hbw hcs
    go_wp2_with fail
    go_loopw [5,6,7] (fun a1 a2 a3 wr2=>∃(k:Nat) (W':World),k≤s.size∧W'.heap.size=w0.heap.size∧Below WB.heap.size WB W'∧wr2=W'.iter s k∧WS (XB text.toList x.lines i k) a1 a2 a3) (fun _ _ _ wr2=>s.size - wr2.iterPos w0.heap.size)
    case atStart=>exact⟨0,w0,by omega,rfl,HBw.out,rfl,by rw[LG];exact⟨rfl,rfl,rfl⟩⟩
    case round=>
     obtain⟨k,W',hk,hsz,hbW,rfl,⟨rfl,rfl,rfl⟩⟩:=hrel
     have hlen:=JL text.toList x.lines 300 HM.out i k (by omega)
     have HSz:=aA hsz
     by_cases hkn:k<s.size
     ·have hnx:∀ty,(Instr.next (.pointer (some ⟨w0.heap.size,0,none⟩)) true ty).run Tryz.prog (W'.iter s k)=.ok (.tuple #[.bool true,.int .i64 k,.int .i32 (s[k]'hkn).toNat]) (W'.iter s (k+1)):=fun ty=>by rw[←hsz];exact run_next_ascii W' s k ty hkn (HAs.out k hkn)
      have hbI:Below WB.heap.size WB (W'.iter s (k+1)):=hbW.alloc hbW.size _
      have z3:(W'.iter s (k+1)).cell? ⟨w.heap.size,3,none⟩=some (.string text):=(hbI.cell (p:=⟨w.heap.size,3,none⟩) (by show w.heap.size<_;omega)).trans y3
      have hkz:(k:Int)≤(s.size:Int):=by omega
      have HC:=aA (HHP.out k)
      have HSu:=aA (aE text.toList x.lines i k)
      rw[HLn.out] at HSu
      have HBW:=aA hbW
      clear hbW hbI hsz
      cases hp:text.toList.isPrefixOf (s.toList.drop k)
      ·rw[hp] at HC
       rw[hp,if_neg (by simp),List.append_nil] at HSu
       clear hp
       go_wp2
       go_quiet ((go_at_call 94;exact Calls.quiet_of_same (HC.out _)))
       go_wp2
       go_roundw
       case rel=>exact⟨k+1,W'.drewN nq,by omega,HSz.out,FA HBW.out _,rfl,by rw[HSu.out];exact⟨rfl,rfl,rfl⟩⟩
       case measure=>
        show s.size - ((W'.drewN nq).iter s (k+1)).iterPos w0.heap.size<s.size - (W'.iter s k).iterPos w0.heap.size
        rw[DD _ _ _ _ HSz.out,DD (W'.drewN nq) _ _ _ HSz.out]
        omega
      ·rw[hp] at HC
       rw[hp,if_pos rfl] at HSu
       clear hp
       have hw1:IntKind.i64.wrap (((XB text.toList x.lines i k).length:Int)+1)=((XB text.toList x.lines i k).length:Int)+1:=by rw[IntKind.wrap_i64];omega
       go_wp2
       go_quiet ((go_at_call 94;exact Calls.quiet_of_same (HC.out _)))
       go_wp2
       go_roundw
       case rel=>
        refine⟨k+1,W'.drewN nq,by omega,HSz.out,FA HBW.out _,rfl,?_⟩
        rw[HSu.out]
        refine⟨?_,?_,?_⟩
        ·rw[List.length_append];go_num
        ·rw[FD]
        ·rw[FD]
       case measure=>
        show s.size - ((W'.drewN nq).iter s (k+1)).iterPos w0.heap.size<s.size - (W'.iter s k).iterPos w0.heap.size
        rw[DD _ _ _ _ HSz.out,DD (W'.drewN nq) _ _ _ HSz.out]
        omega
     ·obtain rfl:k=s.size:=by omega
      have hnx:∀ty,(Instr.next (.pointer (some ⟨w0.heap.size,0,none⟩)) true ty).run Tryz.prog (W'.iter s s.size)=.ok (.tuple #[.bool false]) (W'.iter s s.size):=fun ty=>by rw[←hsz];exact run_next_end W' s s.size ty (by omega)
      have hbI:Below WB.heap.size WB (W'.iter s s.size):=hbW.alloc hbW.size _
      have HBI:=aA hbI
      have HEn2:Hid (XB text.toList x.lines i s.size=mB text.toList x.lines (i+1)):=by
       show _=_
       rw[←IL,HLn.out,show s.toList.length=s.size by rw[Lib.toList_data];simp]
      clear hbW hbI hsz
      go_wp2
      go_roundw
      case rel=>exact⟨i+1,by omega,by go_num,by rw[←HEn2.out];exact⟨rfl,rfl,rfl⟩,HBI.out⟩
      case measure=>simp[RowKit.intOf];omega
   ·obtain rfl:i=n:=by omega
    have HH:Hid (mB text.toList x.lines i=lC text.toList x.lines):=by show _=_;rw[←CH,HKn.out]
    have hlen:=TE text.toList x.lines 300 HM.out i
    have z3:=(hb.cell (p:=⟨w.heap.size,3,none⟩) (by show w.heap.size<_;omega)).trans y3
    have z4:=(hb.cell (p:=⟨w.heap.size,4,none⟩) (by show w.heap.size<_;omega)).trans y4
    have hbw:=HB0.out.trans (hb.mono HB0.out.size)
    have hemp:text.toList.isEmpty=decide (text.size=0):=dD
    by_cases hgood:text.size≠0∧∃q,lC text.toList x.lines=[q]
    ·obtain⟨h0,⟨li,at9⟩,hq⟩:=hgood
     obtain⟨g1,g2,g3⟩:=lK hq
     obtain⟨s,hs⟩:∃s,x.lines[li]?=some s:=⟨_,List.getElem?_eq_getElem g1⟩
     have hla:tB x.lines li=s.toList:=by unfold tB;rw[hs];rfl
     have hsl:s.toList.length=s.size:=by rw[Lib.toList_data];simp
     have htl:text.toList.length=text.size:=by rw[Lib.toList_data];simp
     rw[hla] at g2 g3
     have hfit:at9+text.size≤s.size:=by
      have:=(List.isPrefixOf_iff_prefix.1 g3).length_le
      rw[List.length_drop,hsl,htl] at this
      omega
     have e1:(mB text.toList x.lines i).length=1:=by rw[HH.out,hq];rfl
     have e2:(JC (mB text.toList x.lines i)).1=li:=by rw[HH.out,hq];rfl
     have e3:(JC (mB text.toList x.lines i)).2=at9:=by rw[HH.out,hq];rfl
     rw[e1,e2,e3]
     rw[decide_eq_false h0] at hemp
     obtain⟨u,hu⟩:∃u,u=s.extract 0 at9++new++s.extract (at9+text.size) s.size:=⟨_,rfl⟩
     have hss:s.size≤300:=(HFi.out s (List.mem_of_getElem? hs)).1
     have husz:u.size≤10000:=by
      rw[hu]
      simp only[ByteArray.size_append,ByteArray.size_extract]
      omega
     have HO:Hid (wordsC x ⟨kind,path,at',text,new,line,item⟩=if chkB u=0 then .ok (x.setLines (x.lines.set li u)) else .bad (chkB u)):=by
      show _=_
      unfold wordsC
      show (match lC text.toList x.lines with| [(i,k)]=>_|_=>COut.bad 6)=_
      rw[hq]
      show (if text.size=0 then COut.bad 6 else _)=_
      rw[if_neg h0]
      simp only[hs,Option.getD_some,←hu]
     have HCk:=aA (fun W (hW:Below w.heap.size w W)=>AC u (by omega) W (hE:=HEn.out _ hW))
     obtain⟨gl,cap,hg2,hgc,_,_⟩:=(H0.out.on hbw).setLine g1 u
     have z2:=(H0.out.on hbw).cell (c:=2) (by omega)
     rw[hg2,HKn.out] at z2
     have hgs:x.lines[li]=s:=(List.getElem?_eq_some_iff.1 hs).2
     rw[hgs] at hgc
     have HSt:=aA (fun W (hW:Below w.heap.size w W)=>(H0.out.on hW).setLine g1 u)
     have HBw:=aA hbw
     have HU:=aA hu
     have HG2:=aA hg2
     have g1':li<i:=by have:=HKn.out;omega
     have hliz:(li:Int)<(i:Int):=by omega
     have a1:(at9:Int)≤(s.size:Int):=by omega
     have a2:IntKind.i64.wrap ((at9:Int)+(text.size:Int))=(at9:Int)+(text.size:Int):=by rw[IntKind.wrap_i64];omega
     have a3:(0:Int)≤(at9:Int)+(text.size:Int):=by omega
     have a4:(at9:Int)+(text.size:Int)≤(s.size:Int):=by omega
     have a5:((at9:Int)+(text.size:Int)).toNat=at9+text.size:=by omega
     have a6:at9≤s.size:=by omega
     clear hq hs hla hsl htl g2 g3 hbw hb hu hg2 e1 e2 e3 y3 y4 h0 HH hgs
     generalize wordsC x ⟨kind,path,at',text,new,line,item⟩=r at *
     by_cases hc:chkB u=0
     ·rw[hc,if_pos rfl] at HO
      rw[hc] at HCk
      clear hc
      go_wp2
      go_quiet (fail)
      rw[←HU.out]
      go_wp2_with fail
      refine(HCk.out _ (FA HBw.out _)).mono ?_
      rintro e w5 ⟨he,hb5⟩
      unfold EO at he
      rw[if_pos rfl] at he
      subst he
      have hbw5:=(FA HBw.out _).trans (hb5.mono HBw.out.size)
      obtain⟨g5,cap5,q2,qc,qf,qo⟩:=HSt.out w5 hbw5
      have hgg:g5=gl∧cap5=cap:=by
       have e9:=q2.symm.trans HG2.out
       injection e9 with e9 _ e8
       injection e9 with e9
       injection e9 with e9 _ _
       exact⟨e9,e8⟩
      obtain⟨rfl,rfl⟩:=hgg
      have x2:=(H0.out.on hbw5).cell (c:=2) (by omega)
      rw[q2,HKn.out] at x2
      have HQo:=aA qo
      have HB5:=aA hbw5
      clear hb5 hbw5 q2 qo
      generalize x.lines[li]=old5 at *
      go_wp2
      go_ret
      rw[HO.out]
      obtain⟨r1,r2⟩:=HQo.out _ (Fr.setCell (X:=(· =g5)) (Fr.refl _ w5) (p:=⟨g5,li,none⟩) (.inl rfl) (.string u)) rfl
      exact ChO.after HB5.out H0.out.lt hB ⟨rfl,S,v,r1,fun q hq=>.inl hq,r2⟩
     ·rw[if_neg hc] at HO
      have HC:=aA hc
      clear hc
      generalize chkB u=cu at *
      go_wp2
      go_quiet (fail)
      rw[←HU.out]
      go_wp2_with fail
      refine(HCk.out _ (FA HBw.out _)).mono ?_
      rintro e w5 ⟨he,hb5⟩
      unfold EO at he
      rw[if_neg HC.out] at he
      obtain⟨k,hk1,hk2,rfl⟩:=he
      have H5:=aA ((FA HBw.out _).trans (hb5.mono HBw.out.size))
      have HK:=aA hk1
      clear hb5 hk1
      unfold fD
      go_wp2
      go_ret
      rw[HO.out,HK.out]
      exact⟨by omega,EO.err k hk2,H5.out.mono hB⟩
    ·have HO:Hid (wordsC x ⟨kind,path,at',text,new,line,item⟩=.bad 6):=by
      show _=_
      unfold wordsC
      show (match lC text.toList x.lines with| [(i,k)]=>_|_=>COut.bad 6)=_
      rcases hq:lC text.toList x.lines with _|⟨⟨a9,b9⟩,_|⟨c9,d9⟩⟩
      ·rfl
      ·show (if text.size=0 then COut.bad 6 else _)=_
       rw[if_pos]
       exact Classical.byContradiction fun e=>hgood ⟨e,_,hq⟩
      ·rfl
     have e1:w0.cell? ⟨5,0,none⟩=some (.iface 214 (.pointer (some (p 5)))):=(HEn.out _ hbw).L.cell 5 (by omega)
     have HBw:=aA hbw
     generalize wordsC x ⟨kind,path,at',text,new,line,item⟩=r at *
     by_cases h0:text.size=0
     ·rw[decide_eq_true h0] at hemp
      clear hgood hb hbw h0 y3 y4
      generalize (mB text.toList x.lines i).length=c1 at *
      generalize (JC (mB text.toList x.lines i)).1=c2 at *
      generalize (JC (mB text.toList x.lines i)).2=c3 at *
      go_wp2
      go_ret
      rw[HO.out]
      exact⟨by omega,EO.err 5 (by omega),HBw.out.mono hB⟩
     ·rw[decide_eq_false h0] at hemp
      have hne:(mB text.toList x.lines i).length≠1:=fun e=>by
       rw[HH.out] at e
       obtain⟨q,hq⟩:=List.length_eq_one_iff.1 e
       exact hgood ⟨h0,q,hq⟩
      clear hgood hb hbw h0 y3 y4 HH
      generalize (JC (mB text.toList x.lines i)).1=c2 at *
      generalize (JC (mB text.toList x.lines i)).2=c3 at *
      generalize (mB text.toList x.lines i).length=c1 at *
      have n1:((c1:Int)==1)=false:=by rw[beq_eq_false_iff_ne];omega
      have n2:((c1:Int) !=1)=true:=by rw[bne_iff_ne];omega
      have n3:¬((c1:Int)=1):=by omega
      go_wp2
      go_ret
      rw[HO.out]
      exact⟨by omega,EO.err 5 (by omega),HBw.out.mono hB⟩
end Go.Proofs.YtpbolcjcmkmalaaGreatDoor
