import Derived.Test.YtpbolcjcmkmalaaGreatDoorAq00
import Derived.Test.YtpbolcjcmkmalaaGreatDoorAq35
import Derived.Test.YtpbolcjcmkmalaaGreatDoorAq16
import Derived.Deep.LoopGhost
set_option maxHeartbeats 20000000
set_option maxRecDepth 20000
namespace Go.Proofs.YtpbolcjcmkmalaaGreatDoor
open Go.RowKit Go.Extern.Stop Go.Stop Go.Extern
theorem DQ(s t:ByteArray)(k:Nat):((s.extract k (k+t.size)).toList==t.toList)=t.toList.isPrefixOf (s.toList.drop k):=by
 rw[Bool.eq_iff_iff,same_bytes,List.isPrefixOf_iff_prefix,List.prefix_iff_eq_take,Lib.toList_data,Lib.toList_data]
 have hl:t.data.toList.length=t.size:=oA t
 rw[hl]
 have he:bl (s.extract k (k+t.size))=(s.data.toList.drop k).take t.size:=by
  rw[PE,List.drop_take,Nat.add_sub_cancel_left]
 constructor
 ·intro e
  rw[←he,e]
 ·intro e
  exact VD (he.trans e.symm)
theorem GL{p l:List UInt8}{k:Nat}(hp:p≠[])(h:l.length<k+p.length)(hk:k≤l.length):ZD p l k=jK p l:=by
 have hd:∀d,ZD p l (k+d)=ZD p l k:=fun d=>by
  induction d with
  |zero=>rfl
  |succ d ih=>
   rw[←Nat.add_assoc,BH,ih]
   have:p.isPrefixOf (l.drop (k+d))=false:=by
    cases e:p.isPrefixOf (l.drop (k+d)) with
    |false=>rfl
    |true=>
     have:=(List.isPrefixOf_iff_prefix.1 e).length_le
     rw[List.length_drop] at this
     have h0:0<p.length:=List.length_pos_iff.2 hp
     omega
   rw[this]
   simp
 have:=hd (l.length - k)
 rw[show k+(l.length - k)=l.length by omega,LI] at this
 exact this.symm
theorem kK{p:List UInt8}{ls:List ByteArray}{i k:Nat}(hp:p≠[])(h:(tB ls i).length<k+p.length)(hk:k≤(tB ls i).length):XB p ls i k=mB p ls (i+1):=by
 unfold XB
 rw[GL hp h hk,bE]
def iR(H:List (Nat×Nat)):Int:=if H=[] then -1 else (JC H).1
theorem GO(H:List (Nat×Nat))(i k:Nat):iR (H++[(i,k)])=i:=by
 unfold iR
 rw[if_neg (by simp),FD]
theorem QC{ls:List ByteArray}{i:Nat}{s:ByteArray}(h:ls[i]?=some s):tB ls i=s.toList∧(tB ls i).length=s.size:=by
 unfold tB
 rw[h]
 refine⟨rfl,?_⟩
 show s.toList.length=s.size
 rw[Lib.toList_data]
 exact oA s
theorem MN{x:It}{o:OpW}(h:o.text.size=0):wordsC x o=.bad 6:=by
 unfold wordsC
 split
 ·rw[if_pos h]
 ·rfl
theorem NN{x:It}{o:OpW}(h:(lC o.text.toList x.lines).length≠1):wordsC x o=.bad 6:=by
 unfold wordsC
 split
 ·rename_i i k e
  rw[e] at h
  exact absurd rfl h
 ·rfl
theorem RP{x:It}{o:OpW}{i k:Nat}{s:ByteArray}(h:lC o.text.toList x.lines=[(i,k)])(h0:o.text.size≠0)(hs:x.lines[i]?=some s):wordsC x o=if chkB (s.extract 0 k++o.new++s.extract (k+o.text.size) s.size)=0 then .ok (x.setLines (x.lines.set i (s.extract 0 k++o.new++s.extract (k+o.text.size) s.size))) else .bad (chkB (s.extract 0 k++o.new++s.extract (k+o.text.size) s.size)):=by
 unfold wordsC
 rw[h]
 show (if o.text.size=0 then COut.bad 6 else _)=_
 rw[if_neg h0,hs]
 rfl
theorem EM{w:World}{la:Option Addr}{ls:List ByteArray}(h:StrsAt w la ls){i:Nat}{s:ByteArray}(hi:ls[i]?=some s):∃b o,la=some ⟨b,o,none⟩∧w.cell? ⟨b,o+i,none⟩=some (.string s):=h i s hi
theorem LnR.any{w w':World}{P:Nat→Prop}{a:Option Addr}{n c code:Nat}{x:It}{L:List ByteArray}(h:Below w.heap.size w w')(hr:SRow w' w.heap.size (.slice a n c) L):LnR w P x (if code=0 then .ok (x.setLines L) else .bad code) (.returned (.tuple #[.slice a n c,.int .i64 code])) w':=by
 obtain⟨a',c',e,hlc⟩:=hr.any
 injection e with e1 e2 e3
 subst e1 e2 e3
 refine⟨h,_,_,L,code,rfl,hlc,hr.strs.on fun b hb hp=>⟨rfl,.inr hp⟩,?_⟩
 by_cases h0:code=0
 ·rw[if_pos h0];exact⟨by omega,rfl⟩
 ·rw[if_neg h0];exact⟨rfl,by omega⟩
def hb(i:Nat):Nat:=i * 2000000
theorem iQ(i:Nat):hb (i+1)=hb i+2000000:=by unfold hb;omega
theorem bT{i:Nat}(h:i≤1000):hb i≤2000000000:=by unfold hb;omega
theorem QP{x:It}{o:OpW}(ht:o.text.size≤6000)(hw:o.new.size≤6000){w:World}{la:Option Addr}{lc:Nat}{P:Nat→Prop}(hlp:StrsP w P la x.lines)(hc:x.lines.length≤lc)(hn:x.lines.length≤1000)(hz:∀s,s∈x.lines→s.size≤1000000)(hfin:∀s,s∈x.lines→s.size≤80000):
 Calls Tryz.prog 42 #[.slice la x.lines.length lc,.string o.text,.string o.new] w (LnR w P x (wordsC x o)):=by
 have HLp:=aA hlp
 have HCp:=aA hc
 have HL:=aA hlp.strs
 have HZ:=aA (aI hz hfin)
 obtain⟨n,hnn⟩:∃n,n=x.lines.length:=⟨_,rfl⟩
 have HN:=aA hnn
 rw[←hnn] at hc hn ⊢
 have HE:=aA (LB o.text)
 obtain⟨m,hm⟩:∃m,m=o.text.size:=⟨_,rfl⟩
 have HM:=aA hm
 have hmm:m≤6000:=by omega
 have H0:Hid (o.text.size=0→wordsC x o=.bad 6):=fun h=>MN h
 have H1:Hid ((lC o.text.toList x.lines).length≠1→wordsC x o=.bad 6):=fun h=>NN h
 have H2:=aA (fun i k s h h0 hs=>RP (x:=x) (o:=o) (i:=i) (k:=k) (s:=s) h h0 hs)
 have HP:Hid (m≠0→o.text.toList≠[]):=fun h e=>by
  have:=congrArg List.length e
  rw[Lib.toList_data] at this
  have h9:=oA o.text
  have:(bl o.text).length=0:=this
  omega
 have HX:Hid (∀(s:ByteArray) (k:Nat),((s.extract k (k+m)).toList==o.text.toList)=o.text.toList.isPrefixOf (s.toList.drop k)):=fun s k=>by
  rw[HM.out]
  exact DQ s o.text k
 rw[←hm] at H0 H2 HE
 have HTl:Hid (o.text.toList.length=m):=by
  show _=_
  rw[Lib.toList_data]
  have:=oA o.text
  rw[HM.out]
  exact this
 obtain⟨ls,hls⟩:∃ls,ls=x.lines:=⟨_,rfl⟩
 have HLs:=aA hls
 have HT:Hid ((o.text.size:Int)=m):=by show _=_;rw[HM.out]
 obtain⟨r,hr⟩:∃r,r=wordsC x o:=⟨_,rfl⟩
 rw[←hr] at H0 H1 H2 ⊢
 rw[←hls] at HL HZ HN H1 H2
 have HT9:=HT.out
 clear hnn hm hlp hz hfin hls hr ht
 generalize o.text=tx at *
 generalize o.new=nw at *
 have hnw:nw.size≤6000:=hw
 clear hw
 go_enter Tryz.func42,Tryz.ntmps42
 go_wp2_with fail
 go_loopw [8,9,10,11] (fun a b c t wr=>∃(i:Nat) (H:List (Nat×Nat)),i≤n∧t=.int .i64 i∧w=wr∧(m≠0→H=mB tx.toList ls i)∧H.length≤hb i∧a=.int .i64 (iR H)∧b=.int .i64 ((JC H).2:Nat)∧c=.int .i64 (H.length:Nat)) (fun _ _ _ t _=>(n - RowKit.intOf t).toNat)
 case atStart=>exact⟨0,[],by omega,rfl,rfl,fun _=>rfl,Nat.zero_le _,rfl,rfl,rfl⟩
 case round=>
  obtain⟨i,H,hi,rfl,rfl,hH,hHl,rfl,rfl,rfl⟩:=hrel
  have HH:=aA hH
  clear hH
  by_cases hin:i<n
  ·have hiz:(i:Int)<n:=by omega
   obtain⟨s,hs⟩:∃s,ls[i]?=some s:=⟨_,List.getElem?_eq_getElem (by have:=HN.out;omega)⟩
   obtain⟨b,ob,rfl,hcell⟩:=EM HL.out hs
   have hsz:=HZ.out.1 s (List.mem_of_getElem? hs)
   have HS:=aA hs
   have hnc:n≤1000:=hn
   clear hs
   go_wp2_with fail
   go_loopw [8,9,10,12] (fun a b c t wr=>∃(k:Nat) (H:List (Nat×Nat)),(k=0∨k - 1+m≤s.size)∧t=.int .i64 k∧w=wr∧(m≠0→H=XB tx.toList ls i k)∧H.length≤hb i+k∧a=.int .i64 (iR H)∧b=.int .i64 ((JC H).2:Nat)∧c=.int .i64 (H.length:Nat)) (fun _ _ _ t _=>(s.size+2 - RowKit.intOf t).toNat)
   case atStart=>exact⟨0,H,.inl rfl,rfl,rfl,fun h=>by rw[LG];exact HH.out h,by omega,rfl,rfl,rfl⟩
   case round=>
    obtain⟨k,G,hk,rfl,rfl,hG,hGl,rfl,rfl,rfl⟩:=hrel
    have HG:=aA hG
    have HK:=aA hk
    have hkb:k≤1000001:=by omega
    clear hG hk
    by_cases hkm:k+m≤s.size
    ·have hkz:(k:Int)+m≤s.size:=by omega
     have hkz1:(k:Int)+(tx.size:Int)≤s.size:=by rw[HT9];exact hkz
     have hkz2:(k:Int)≤(k:Int)+m:=by omega
     have hmt:=HX.out s k
     have hGb:((G.length:Nat):Int)+1≤9223372036854775807:=by
      have:=bT (i:=i) (by omega)
      omega
     cases hpf:tx.toList.isPrefixOf (s.toList.drop k) with
     |true=>
      rw[hpf] at hmt
      have HPf:=aA hpf
      clear hpf
      go_wp2
      go_roundw
      case rel=>
       refine⟨k+1,G++[(i,k)],.inr (by omega),by go_num,(by trivial),fun h=>?_,by rw[List.length_append];simp only[List.length_cons,List.length_nil];omega,by rw[GO],by rw[FD],by rw[List.length_append];go_num⟩
       rw[aE,HG.out h,(QC HS.out).1,HPf.out]
       rfl
      case measure=>simp[RowKit.intOf];omega
     |false=>
      rw[hpf] at hmt
      have HPf:=aA hpf
      clear hpf
      go_wp2
      go_roundw
      case rel=>
       refine⟨k+1,G,.inr (by omega),by go_num,(by trivial),fun h=>?_,by omega,rfl,rfl,rfl⟩
       rw[aE,HG.out h,(QC HS.out).1,HPf.out]
       simp
      case measure=>simp[RowKit.intOf];omega
    ·have hkz:¬(k:Int)+m≤s.size:=by omega
     have hkz1:¬(k:Int)+(tx.size:Int)≤s.size:=by rw[HT9];exact hkz
     go_wp2
     go_roundw
     case rel=>
      refine⟨i+1,G,by omega,by go_num,(by trivial),fun h=>?_,(by rw[iQ];have:=HK.out;omega),rfl,rfl,rfl⟩
      rw[HG.out h]
      refine kK (HP.out h) ?_ ?_
      ·rw[(QC HS.out).2,HTl.out];omega
      ·rw[(QC HS.out).2]
       have:=HK.out
       omega
     case measure=>simp[RowKit.intOf];omega
  ·have hiz:¬(i:Int)<n:=by omega
   have hie:i=ls.length:=by have:=HN.out;omega
   by_cases hm0:m=0
   ·have hr:=H0.out hm0
    have hE:=HE.out
    rw[decide_eq_true hm0] at hE
    subst hr
    generalize iR H=ln at *
    generalize (JC H).2=la2 at *
    by_cases h1:H.length=1
    ·have h1z:((H.length:Nat):Int)=1:=by omega
     rw[h1z]
     clear h1z h1
     go_wp2
     go_ret2
     exact LnR.bad HLp.out (by have:=HN.out;omega) (Below.refl _ _) (by omega) (by have:=HN.out;rw[HLs.out] at this;exact this)
    ·have h1z:¬((H.length:Nat):Int)=1:=by omega
     have h1b:(((H.length:Nat):Int)==1)=false:=by simpa using h1z
     go_wp2
     go_ret2
     exact LnR.bad HLp.out (by have:=HN.out;omega) (Below.refl _ _) (by omega) (by have:=HN.out;rw[HLs.out] at this;exact this)
   have hHa:H=lC tx.toList ls:=by rw[HH.out hm0,hie,CH]
   have hE:=HE.out
   rw[decide_eq_false hm0] at hE
   by_cases h1:H.length=1
   rotate_left
   ·have hr:=H1.out (by rw[←hHa];exact h1)
    subst hr
    clear hHa
    generalize iR H=ln at *
    generalize (JC H).2=la2 at *
    have h1z:¬((H.length:Nat):Int)=1:=by omega
    have h1b:(((H.length:Nat):Int)==1)=false:=by simpa using h1z
    go_wp2
    go_ret2
    exact LnR.bad HLp.out (by have:=HN.out;omega) (Below.refl _ _) (by omega) (by have:=HN.out;rw[HLs.out] at this;exact this)
   ·obtain⟨⟨iq,kq⟩,rfl⟩:=List.length_eq_one_iff.1 h1
    obtain⟨hiq,hkq,hpf⟩:=lK hHa.symm
    obtain⟨s,hs⟩:∃s,ls[iq]?=some s:=⟨_,List.getElem?_eq_getElem hiq⟩
    have hkm:kq+m≤s.size:=by
     have:=(List.isPrefixOf_iff_prefix.1 hpf).length_le
     rw[HTl.out,List.length_drop,(QC hs).2] at this
     rw[(QC hs).2] at hkq
     omega
    have hsz:=HZ.out.2 s (List.mem_of_getElem? hs)
    have hr:=H2.out iq kq s hHa.symm hm0 hs
    have hu:(s.extract 0 kq++nw++s.extract (kq+m) s.size).size≤100000:=by
     rw[ByteArray.size_append,ByteArray.size_append,ByteArray.size_extract,ByteArray.size_extract]
     omega
    have e0:(s.extract 0 kq).size=kq:=by rw[ByteArray.size_extract];omega
    have e2:(s.extract (kq+m) s.size).size=s.size - (kq+m):=by rw[ByteArray.size_extract];omega
    have hc1:((s.extract 0 kq).size:Int)+(nw.size:Int)≤9223372036854775807:=by omega
    have hc2:((s.extract 0 kq++nw).size:Int)+((s.extract (kq+m) s.size).size:Int)≤9223372036854775807:=by rw[ByteArray.size_append];omega
    obtain⟨u,hue⟩:∃u,u=s.extract 0 kq++nw++s.extract (kq+m) s.size:=⟨_,rfl⟩
    have HLE:=aA (fun W=>GB u (by rw[hue];exact hu) W)
    rw[←hue] at hr
    have HR:=aA hr
    have HU:=aA hue
    have HSq:=aA hs
    obtain⟨b,ob,rfl,hcell⟩:=EM HL.out hs
    have hiqz:(iq:Int)<n:=by have:=HN.out;omega
    have hkz0:(kq:Int)≤s.size:=by omega
    have hkz1:(kq:Int)+(tx.size:Int)≤s.size:=by rw[HT9];omega
    have hkz2:(kq:Int)+m≤s.size:=by omega
    have hl1:iR [(iq,kq)]=iq:=by unfold iR;rw[if_neg (by simp)];rfl
    have hl2:(JC [(iq,kq)]).2=kq:=rfl
    rw[hl1,hl2]
    rw[hr]
    clear hr hue hu hl1 hl2 hHa hs hpf hkq hie HH h1
    go_wp2_with fail
    go_region
    all_goals rw[←HU.out]
    all_goals
     go_wp2_with (at_builtin;go_loud (refine DA rfl (.tmp 74) (.tmp 75) rfl w.heap.size (.slice none 0 0) [] ls (by simp[Act.eval]) (SRow.nil _ _) ⟨_,_,_,rfl,HN.out,HL.out⟩ (nR _) (by have:=HN.out;simp only[List.length_nil];omega) ?_))
     rintro v1 w1 hr1 hb1
     first|rw[List.nil_append] at hr1|skip
     obtain⟨ra,rc,rfl,hrc⟩:=hr1.any
     obtain⟨g,rfl,hgB,hg,hcg⟩:=LC hr1 HSq.out
     have hfz:w1.frozen? ⟨g,iq,none⟩=false:=World.ownsRow.frozenAt hr1 iq
     have hst:SRow (w1.setCell ⟨g,iq,none⟩ (.string u)) w.heap.size (.slice (some ⟨g,0,none⟩) ls.length rc) (ls.set iq u):=by
      have h9:=(World.ownsRow.stored hr1 iq (.string u)).1
      rw[←List.map_set] at h9
      unfold SRow
      rw[List.length_set]
      exact h9
     have HSt:=aA hst
     have HBs:Hid (Below w.heap.size w (w1.setCell ⟨g,iq,none⟩ (.string u))):=(((Below.refl w.heap.size w).drew).trans hb1).setCell hgB _
     rw[←HN.out] at HSt ⊢
     clear hr1 hb1 hst hgB hg hrc
     go_wp2_with fail
     refine(HLE.out _).mono ?_
     rintro e w2 ⟨rfl,h9⟩
     subst w2
     go_wp2
     go_ret2
     have h9:=LnR.any (x:=x) (P:=P) (code:=chkB u) HBs.out HSt.out
     rw[←HR.out] at h9
     exact h9
end Go.Proofs.YtpbolcjcmkmalaaGreatDoor
