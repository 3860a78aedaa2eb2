import Derived.Test.YtehbinobohjadaaGreatDoorTm00
import Derived.Test.YtehbinobohjadaaGreatDoorTm24
import Derived.Test.YtehbinobohjadaaGreatDoorTm10
import Derived.Test.YtehbinobohjadaaGreatDoorTm19
set_option maxHeartbeats 20000000
set_option maxRecDepth 20000
namespace Go.Proofs.YtehbinobohjadaaGreatDoor
open Go.RowKit Go.Extern.Stop Go.Stop Go.Extern
def wA:List UInt8→TK×Nat
 | []=>(.b,1)
 |c::r=>if PB c=true then (.w,((c::r).takeWhile JA).length) else if lA c=true then (.n,UB (c::r)) else if EA (c::r)=0 then (.b,1) else (.s,EA (c::r))
theorem PC(c:UInt8)(r:List UInt8):wA (c::r)=if PB c=true then (.w,((c::r).takeWhile JA).length) else if lA c=true then (.n,UB (c::r)) else if EA (c::r)=0 then (.b,1) else (.s,EA (c::r)):=rfl
theorem QO(l:List UInt8):UB l≤l.length:=by
 have h1:=(List.takeWhile_sublist lA (l:=l)).length_le
 unfold UB
 split
 ·rename_i hp
  have h3:3≤(l.drop (l.takeWhile lA).length).length:=by
   match l.drop (l.takeWhile lA).length,hp with
   |a::b::c::l,_=>simp
  rw[List.length_drop] at h3
  omega
 ·exact h1
theorem CR(l:List UInt8):EA l≤l.length:=by
 unfold EA
 split
 ·rename_i h
  match l,h with
  |a::b::r,_=>simp
 ·match l with
  | []=>simp
  |c::r=>simp only[List.length_cons];split<;>omega
theorem NH{l:List UInt8}(h:1≤l.length):(wA l).2≤l.length:=by
 match l,h with
 |c::r,h=>
  rw[PC]
  split
  ·exact(List.takeWhile_sublist JA).length_le
  ·split
   ·exact QO _
   ·split
    ·simp
    ·exact CR _
theorem DF(l:List UInt8):1≤(wA l).2:=by
 match l with
 | []=>exact nR 1
 |c::r=>
  rw[PC]
  split
  ·rename_i h
   rw[List.takeWhile_cons_of_pos (by unfold JA;rw[h];rfl)]
   simp
  ·split
   ·rename_i h
    have h1:1≤((c::r).takeWhile lA).length:=by rw[List.takeWhile_cons_of_pos h];simp
    unfold UB
    split<;>omega
   ·split
    ·exact nR 1
    ·dsimp only
     omega
def wW(k:TK)(s:ByteArray)(p:Nat)(w:World)(e:Ending)(w':World):Prop:=e=.returned (.agg #[.int .i64 (kN k),.string s,.int .i64 p])∧Below w.heap.size w w'
theorem pP(s:ByteArray)(hs:s.size≤100000)(p:Nat)(hp:p<s.size)(w:World):
 Calls Tryz.prog 34 #[.string s,.int .i64 p] w (wW (wA (s.data.toList.drop p)).1 ((s.extract p s.size).extract 0 (wA (s.data.toList.drop p)).2) p w):=by
 have hpz:(p:Int)≤s.size:=by omega
 have hr1:1≤(s.extract p s.size).size:=by simp only[ByteArray.size_extract];omega
 have hr2:(s.extract p s.size).size≤100000:=by simp only[ByteArray.size_extract];omega
 have hq:Hid (s.data.toList.drop p=(s.extract p s.size).data.toList):=(OE s p).symm
 rw[hq.out]
 clear hq
 have hrs:(s.extract p s.size).size=s.size - p:=jL s p
 obtain⟨r,hr⟩:∃r,r=s.extract p s.size:=⟨_,rfl⟩
 rw[←hr] at hr1 hr2 hrs ⊢
 have hr0:0<r.size:=by omega
 have hrz:(0:Int)<r.size:=by omega
 have HQ:Hid (r.data.toList=r[0]::r.data.toList.drop 1):=by
  have:=NA r 0 hr0
  rw[List.drop_zero] at this
  exact this
 have HA:=aA (aH r[0])
 have HD:=aA (cI r[0])
 have HT:Hid (wA r.data.toList=if PB r[0]=true then (.w,(r.data.toList.takeWhile JA).length) else if lA r[0]=true then (.n,UB r.data.toList) else if EA r.data.toList=0 then (.b,1) else (.s,EA r.data.toList)):=by
  show _=_
  conv=>lhs;rw[HQ.out]
  rw[PC,←HQ.out]
 have HL:=aA (NH (l:=r.data.toList) (by rw[xA];exact hr1))
 clear HQ
 generalize hX:wA r.data.toList=X at *
 clear hX
 cases ha:PB r[0]
 ·rw[ha] at HA HT
  clear ha
  cases hd:lA r[0]
  ·rw[hd] at HD HT
   clear hd
   have HS:=aA (ZM r hr2 hr1)
   by_cases h0:EA r.data.toList=0
   ·rw[h0] at HS
    have HX:Hid (X=(.b,1)):=by show _=_;rw[HT.out];simp[h0]
    clear HT h0
    rw[HX.out]
    clear HX HL
    subst hr
    go_enter Tryz.func34,Tryz.ntmps34
    go_wp2_with (first|(go_at_call 72;refine(HA.out _).mono ?_;rintro e w' ⟨rfl,h9⟩;subst w')|(go_at_call 75;refine(HD.out _).mono ?_;rintro e w' ⟨rfl,h9⟩;subst w')|(go_at_call 77;refine(HS.out _).mono ?_;rintro e w' ⟨rfl,h9⟩;subst w'))
    refine bodyPost_ret (v:=.agg #[.int .i64 0,.string ((s.extract p s.size).extract 0 1),.int .i64 p]) (by simp[results,Tryz.results34,go_sem]) rfl ?_
    exact⟨rfl,bA _ _⟩
   ·have HX:Hid (X=(.s,EA r.data.toList)):=by show _=_;rw[HT.out];simp[h0]
    rw[HX.out] at HL
    have h0p:0<EA r.data.toList:=by omega
    clear HT h0
    rw[HX.out]
    clear HX
    have hl:EA r.data.toList≤r.size:=by have:=HL.out;rw[xA] at this;exact this
    clear HL
    generalize EA r.data.toList=z at *
    have hzp:(0:Int)<z:=by omega
    have hlz:(z:Int)≤r.size:=by omega
    have hl2:z≤s.size - p:=by omega
    have hl3:(z:Int)≤(s.size - p:Nat):=by omega
    subst hr
    go_enter Tryz.func34,Tryz.ntmps34
    go_wp2_with (first|(go_at_call 72;refine(HA.out _).mono ?_;rintro e w' ⟨rfl,h9⟩;subst w')|(go_at_call 75;refine(HD.out _).mono ?_;rintro e w' ⟨rfl,h9⟩;subst w')|(go_at_call 77;refine(HS.out _).mono ?_;rintro e w' ⟨rfl,h9⟩;subst w'))
    refine bodyPost_ret (v:=.agg #[.int .i64 3,.string ((s.extract p s.size).extract 0 z),.int .i64 p]) (by simp[results,Tryz.results34,go_sem]) rfl ?_
    exact⟨rfl,bA _ _⟩
  ·rw[hd] at HD HT
   clear hd
   have HX:Hid (X=(.n,UB r.data.toList)):=by show _=_;rw[HT.out];simp
   rw[HX.out] at HL
   have HN:=aA (zL r hr2)
   clear HT
   rw[HX.out]
   clear HX
   have hl:UB r.data.toList≤r.size:=by have:=HL.out;rw[xA] at this;exact this
   clear HL
   generalize UB r.data.toList=z at *
   have hlz:(z:Int)≤r.size:=by omega
   have hl2:z≤s.size - p:=by omega
   have hl3:(z:Int)≤(s.size - p:Nat):=by omega
   subst hr
   go_enter Tryz.func34,Tryz.ntmps34
   go_wp2_with (first|(go_at_call 72;refine(HA.out _).mono ?_;rintro e w' ⟨rfl,h9⟩;subst w')|(go_at_call 75;refine(HD.out _).mono ?_;rintro e w' ⟨rfl,h9⟩;subst w')|(go_at_call 76;refine(HN.out _).mono ?_;rintro e w' ⟨rfl,h9⟩;subst w'))
   refine bodyPost_ret (v:=.agg #[.int .i64 2,.string ((s.extract p s.size).extract 0 z),.int .i64 p]) (by simp[results,Tryz.results34,go_sem]) rfl ?_
   exact⟨rfl,bA _ _⟩
 ·rw[ha] at HA HT
  clear ha
  have HX:Hid (X=(.w,(r.data.toList.takeWhile JA).length)):=by show _=_;rw[HT.out];simp
  rw[HX.out] at HL
  have HN:=aA (gK r hr2)
  clear HT
  rw[HX.out]
  clear HX
  have hl:(r.data.toList.takeWhile JA).length≤r.size:=by have:=HL.out;rw[xA] at this;exact this
  clear HL
  generalize (r.data.toList.takeWhile JA).length=z at *
  have hlz:(z:Int)≤r.size:=by omega
  have hl2:z≤s.size - p:=by omega
  have hl3:(z:Int)≤(s.size - p:Nat):=by omega
  subst hr
  go_enter Tryz.func34,Tryz.ntmps34
  go_wp2_with (first|(go_at_call 72;refine(HA.out _).mono ?_;rintro e w' ⟨rfl,h9⟩;subst w')|(go_at_call 73;refine(HN.out _).mono ?_;rintro e w' ⟨rfl,h9⟩;subst w'))
  refine bodyPost_ret (v:=.agg #[.int .i64 1,.string ((s.extract p s.size).extract 0 z),.int .i64 p]) (by simp[results,Tryz.results34,go_sem]) rfl ?_
  exact⟨rfl,bA _ _⟩
def VC(l:List UInt8)(p:Nat):Tok:=⟨(wA l).1,⟨(l.take (wA l).2).toArray⟩,p,0⟩
def DB:Nat→List UInt8→Nat→List Tok
 |0,_,p=>[⟨.e,⟨#[]⟩,p,0⟩]
 |_+1,[],p=>[⟨.e,⟨#[]⟩,p,0⟩]
 |f+1,c::r,p=>if c=32 then DB f r (p+1) else VC (c::r) p::DB f ((c::r).drop (wA (c::r)).2) (p+(wA (c::r)).2)
def dB(s:ByteArray):List Tok:=DB (s.size+1) s.data.toList 0
def tokE:Enc Tok:=⟨fun t=>[.int .i64 (kN t.kind),.string t.text,.int .i64 t.pos],3,by decide,fun _=>rfl,fun t u h=>by
 simp only[List.mem_cons,List.not_mem_nil,or_false] at h
 rcases h with rfl|rfl|rfl<;>rfl⟩
theorem Tryz.infoTk:∃i z,Tryz.prog.info? 91=some i∧i.zero=some z∧i.size=3∧i.bytes=32∧z.cells.size=3:=by
 have h:(Tryz.prog.info? 91).map (fun i=>(i.zero.map (fun z=>z.cells.size),i.size,i.bytes))=some (some 3,3,32):=by kernel_rfl
 obtain⟨i,hi,e⟩:=Option.map_eq_some_iff.1 h
 injection e with e1 e2
 injection e2 with e2 e3
 obtain⟨z,hz,e4⟩:=Option.map_eq_some_iff.1 e1
 exact⟨i,z,hi,hz,e2,e3,e4⟩
structure QInv(s:ByteArray)(ts:List Tok)(i:Nat):Prop where
 le:i≤s.size
 few:ts.length≤i
 eq:∃f,s.size - i<f∧dB s=ts++DB f (s.data.toList.drop i) i
theorem QInv.start(s:ByteArray):QInv s [] 0:=⟨by omega,nR _,s.size+1,by omega,rfl⟩
theorem QInv.last{s:ByteArray}{ts:List Tok}(h:QInv s ts s.size):dB s=ts++[⟨.e,⟨#[]⟩,s.size,0⟩]:=by
 obtain⟨f,hf,e⟩:=h.eq
 rw[List.drop_of_length_le (by rw[xA];exact nR _)] at e
 obtain⟨f,rfl⟩:∃g,f=g+1:=⟨f - 1,by omega⟩
 exact e
theorem QInv.blank{s:ByteArray}{ts:List Tok}{i:Nat}(h:QInv s ts i)(hi:i<s.size)(hb:s[i]=32):QInv s ts (i+1):=by
 obtain⟨f,hf,e⟩:=h.eq
 obtain⟨f,rfl⟩:∃g,f=g+1:=⟨f - 1,by omega⟩
 rw[NA s i hi,DB,if_pos hb] at e
 have:=h.few
 exact⟨hi,by omega,f,by omega,e⟩
theorem QInv.next{s:ByteArray}{ts:List Tok}{i:Nat}(h:QInv s ts i)(hi:i<s.size)(hb:s[i]≠32):QInv s (ts++[VC (s.data.toList.drop i) i]) (i+(wA (s.data.toList.drop i)).2):=by
 obtain⟨f,hf,e⟩:=h.eq
 obtain⟨f,rfl⟩:∃g,f=g+1:=⟨f - 1,by omega⟩
 have h1:=NH (l:=s.data.toList.drop i) (by rw[List.length_drop,xA];omega)
 have h2:=DF (s.data.toList.drop i)
 rw[List.length_drop,xA] at h1
 have h3:=h.few
 rw[NA s i hi,DB,if_neg hb,←NA s i hi,List.drop_drop] at e
 refine⟨by omega,by simp only[List.length_append,List.length_singleton];omega,f,by omega,?_⟩
 rw[e,List.append_assoc]
 rfl
theorem MP(s:ByteArray)(i:Nat)(hi:i<s.size):((s.extract i (i+1)).toList==[32])=decide (s[i]=32):=by
 rw[Lib.toList_data,TI,List.drop_take,show i+1 - i=1 by omega,NA s i hi]
 rw[Bool.eq_iff_iff]
 simp
def RV(s:ByteArray)(w:World)(e:Ending)(w':World):Prop:=∃v,e=.returned v∧RowG tokE 91 w' w.heap.size v (dB s)∧Below w.heap.size w w'
theorem iN(s:ByteArray)(hs:s.size≤10000)(w:World):Calls Tryz.prog 17 #[.string s] w (RV s w):=by
 have HT:=aA (fun p hp W=>pP s (by omega) p hp W)
 go_enter Tryz.func17,Tryz.ntmps17
 go_wp2_with fail
 go_loopw [3,4] (fun lv iv wr=>∃(i:Nat) (ts:List Tok) (la:Option Addr) (ln lc:Nat),i≤s.size∧iv=.int .i64 i∧lv=.slice la ln lc∧ln=ts.length∧QInv s ts i∧RowG tokE 91 wr w.heap.size (.slice la ln lc) ts∧Below w.heap.size w wr) (fun _ iv _=>(s.size - RowKit.intOf iv).toNat)
 case atStart=>exact⟨0,[],none,0,0,by omega,rfl,rfl,rfl,QInv.start s,RowG.nil _ _,Below.refl _ _⟩
 case round=>
  obtain⟨i,ts,la,ln,lc,hi,rfl,rfl,hln,hq,hrow,hb⟩:=hrel
  have HQ:=aA hq
  have HR:=aA hrow
  have HB:=aA hb
  have hfew:=hq.few
  have HLn:=aA hln
  have hsz:=hb.size
  have hts:ts.length≤10000:=by omega
  clear hq hrow hb hln hfew
  by_cases hin:i<s.size
  ·have hiz:(i:Int)<s.size:=by omega
   have hi1:i+1≤s.size:=hin
   have hi1z:(i:Int)+1≤s.size:=by omega
   have hi2z:((i:Int)+1).toNat=i+1:=by omega
   have hi3z:(0:Int)≤(i:Int)+1:=by omega
   have hi4z:(i:Int)≤(i:Int)+1:=by omega
   have HBl:=aA (MP s i hin)
   by_cases hbl:s[i]=32
   ·have hb1:((s.extract i (i+1)).toList==[32])=true:=by rw[HBl.out];exact decide_eq_true hbl
    have HQ2:=aA (HQ.out.blank hin hbl)
    clear HBl hbl
    go_wp2
    go_roundw
    case rel=>exact⟨i+1,ts,la,ln,lc,by omega,by go_num,rfl,HLn.out,HQ2.out,HR.out,HB.out⟩
    case measure=>simp[RowKit.intOf];omega
   ·have hb1:((s.extract i (i+1)).toList==[32])=false:=by rw[HBl.out];exact decide_eq_false hbl
    have HQ2:=aA (HQ.out.next hin hbl)
    have h1:=NH (l:=s.data.toList.drop i) (by rw[List.length_drop,xA];omega)
    rw[List.length_drop,xA] at h1
    have h2:=DF (s.data.toList.drop i)
    have HX:Hid ((s.extract i s.size).extract 0 (wA (s.data.toList.drop i)).2=⟨((s.data.toList.drop i).take (wA (s.data.toList.drop i)).2).toArray⟩):=by
     show _=_
     apply ByteArray.ext
     apply Array.toList_inj.1
     rw[nG,OE]
    have HZ:Hid (((s.extract i s.size).extract 0 (wA (s.data.toList.drop i)).2).size=(wA (s.data.toList.drop i)).2):=by
     show _=_
     rw[←xA,nG,OE,List.length_take,List.length_drop,xA]
     omega
    have HC:=aA (HT.out i hin)
    have HA:Hid (VC (s.data.toList.drop i) i=⟨(wA (s.data.toList.drop i)).1,(s.extract i s.size).extract 0 (wA (s.data.toList.drop i)).2,i,0⟩):=by
     show _=_
     rw[HX.out];rfl
    clear HBl hbl HX
    generalize VC (s.data.toList.drop i) i=tk at *
    generalize (wA (s.data.toList.drop i)).2=z at *
    generalize (s.extract i s.size).extract 0 z=tx at *
    generalize (wA (s.data.toList.drop i)).1=kd at *
    have hzz:=HZ.out
    clear HZ
    subst hzz
    have h1z:(i:Int)+tx.size≤s.size:=by omega
    go_wp2_with fail
    refine(HC.out _).mono ?_
    rintro e w1 ⟨rfl,hb1'⟩
    have hw1:=hb1'.size
    have hbA:Below wr.heap.size wr (w1.alloc (.cells #[.int .i64 (kN kd),.string tx,.int .i64 i] 91)):=hb1'.alloc hw1 _
    have HRA:=aA (HR.out.below hbA)
    have HBA:=aA (HB.out.trans (hbA.mono hsz))
    have HNew:Hid ((w1.alloc (.cells #[.int .i64 (kN kd),.string tx,.int .i64 i] 91)).cell? ⟨w1.heap.size,1,none⟩=some (.string tx)):=sE w1 [.int .i64 (kN kd),.string tx,.int .i64 i] 91 1 _ rfl
    have HOwn:Hid (∀k,(Value.slice la ln lc).ownBlock=some k→k<wr.heap.size):=fun k hk=>(HR.out.blk hk).2
    have hsA:w.heap.size≤(w1.alloc (.cells #[.int .i64 (kN kd),.string tx,.int .i64 i] 91)).heap.size:=by simp;omega
    clear hb1' hbA
    go_wp2_with (at_builtin;go_loud (refine yF (E:=tokE) Tryz.infoTk (by decide) Tryz.underlying59 rfl (.tmp 21) (.tmp 23) rfl w.heap.size (.slice la ln lc) ts ⟨kd,tx,i,0⟩ _ rfl (by simp[Act.eval]) HRA.out (by simp[Act.eval]) hsA (by omega) ?_);intro v' w2 hr2 hb2 hk2 hn2;(obtain⟨pa,pn,pc,rfl,hpn⟩:=hr2.any3);(have c1:w2.cell? ⟨w1.heap.size,1,none⟩=some (.string tx):=(World.cell?_of_block (a:=⟨w1.heap.size,1,none⟩) (hk2 w1.heap.size (fun e=>by have:=HOwn.out _ e;omega) (by simp))).trans HNew.out);have HR2:=aA hr2;have HB2:=aA (HBA.out.trans hb2);have HPn:=aA hpn;clear hr2 hb2 hk2 hn2 hpn)
    go_roundw
    case rel=>exact⟨i+tx.size,ts++[tk],pa,pn,pc,by omega,by go_num,rfl,by rw[HPn.out];simp,HQ2.out,by rw[HA.out];exact HR2.out,HB2.out⟩
    case measure=>simp[RowKit.intOf];omega
  ·obtain rfl:i=s.size:=by omega
   have HQ2:=aA HQ.out.last
   have hsA:w.heap.size≤wr.heap.size:=hsz
   have hiz:¬(s.size:Int)<s.size:=by omega
   go_wp2_with (at_builtin;go_loud (refine yF (E:=tokE) Tryz.infoTk (by decide) Tryz.underlying59 rfl (.tmp 30) (.tmp 34) rfl w.heap.size (.slice la ln lc) ts ⟨.e,⟨#[]⟩,s.size,0⟩ _ rfl (by simp[Act.eval]) HR.out (by simp[Act.eval]) hsA (by omega) ?_);intro v' w2 hr2 hb2 hk2 hn2;have HR2:=aA hr2;have HB2:=aA (HB.out.trans hb2);clear hr2 hb2 hk2 hn2)
   go_ret
   exact⟨_,rfl,by rw[HQ2.out];exact HR2.out,HB2.out⟩
theorem RM{L:List Tok}{rp tb f:Nat}(h1:QRule L rp tb 40 (FA L f))(h2:∀(w:World) (k n:Nat),QS L rp tb w k n→k+1<L.length→iB L f k n≠.out→Calls Tryz.prog 152 #[.pointer (some ⟨rp,0,none⟩)] w fun e w'=>QEnd L rp tb w (iB L f k n) (fun x v w'=>pH w.heap.size x v w') e w')(h3:QRule L rp tb 154 (DC L f)):QRule L rp tb 140 (BC L (f+1)):=by
 intro w k n h hn
 have lo:=h.lows
 obtain⟨R,hR⟩:∃R,R=BC L (f+1) k n:=⟨_,rfl⟩
 rw[←hR] at hn ⊢
 rw[BC] at hR
 obtain⟨W1,hW1⟩:∃W1,W1=w.alloc (.cells #[.string ⟨#[]⟩,.string ⟨#[]⟩,.int .i64 0,.slice none 0 0] 25):=⟨_,rfl⟩
 have hst:StartQ w W1:=by rw[hW1];exact StartQ.new w
 have HX:=aA hW1
 have HNo:=aA hn
 have HL:=aA lo
 have HQ1:=aA (aI (h.below hst.bel) (aI (Below.x hst.bel rp (nR _)) (aI hst.blk True.intro)))
 have hs1:=hst.lt
 have hrp:=lo.r
 have hq1:=h.below hst.bel
 clear h hW1 hst hn lo
 have HI0:=aA (eI hq1 ⟨#[40]⟩)
 have HI1:=aA (eI hq1 ⟨#[115,111,109,101]⟩)
 have HI2:=aA (eI hq1 ⟨#[101,118,101,114,121]⟩)
 have HA:=aA (sS hq1)
 have H1:=aA h1
 have H2:=aA h2
 have H3:=aA h3
 unfold sg wSome wEvery at hR
 have HE:=yH (L:=L) (rp:=rp) (tb:=tb)
 have HN:=rG (L:=L) (rp:=rp) (tb:=tb)
 have HLv:=GI (L:=L) (rp:=rp) (tb:=tb) ⟨#[41]⟩ (by decide)
 clear h1 h2 h3
 by_cases hi0:YB L ⟨#[40]⟩ k=true
 ·have hmore:=hq1.more (AD hi0 (by decide))
  rw[if_pos hi0] at hR
  rw[hi0] at HI0
  have HR:=aA hR
  clear hi0 hq1 hR HI1 HI2
  go_enter Tryz.func140,Tryz.ntmps140
  go_upto_region 4 with (first|(rw[←HX.out];go_at_call 118;refine HI0.out.mono ?_;rintro e w' ⟨rfl,rfl⟩;clear HI0)|(go_at_call 141;refine(HE.out _ _ _ HQ1.out.1 hmore).mono ?_;rintro e W2 hE;rcases hr:TB L k n with _|⟨c,a⟩|⟨x1,k1,n1⟩;(·exact absurd hr NE);(·rw[hr] at hE;obtain⟨hb,⟨p,rfl⟩⟩:=hE;obtain rfl:R=.bad c a:=(by rw[HR.out,hr,PR.bind_bad]);exact(show _∧_ from⟨rfl,HQ1.out.2.1.then hb HQ1.out.2.1.size,⟨_,rfl⟩⟩));rw[hr] at hE;obtain⟨hb,hq,v,rfl,rfl⟩:=hE;rw[hr,PR.bind_ok] at HR;have hs2:=hb.size;have HW2:=aA (aI hq (aI (HQ1.out.2.1.then hb HQ1.out.2.1.size) (aI ((hb.block _ (hs1) (by omega)).trans HQ1.out.2.2.1) True.intro)));have EW2:=aA hr;clear hb hq hr)|(go_at_call 40;refine(H1.out _ _ _ HW2.out.1 (PR.bind_not (HR.out▸HNo.out))).mono ?_;rintro e W3 hE;rcases hr:FA L f k1 n1 with _|⟨c,a⟩|⟨x2,k2,n2⟩;(·exact absurd hr (PR.bind_not (HR.out▸HNo.out)));(·rw[hr] at hE;obtain⟨hb,⟨p,rfl⟩⟩:=hE;obtain rfl:R=.bad c a:=(by rw[HR.out,hr,PR.bind_bad]);exact(show _∧_ from⟨rfl,HW2.out.2.1.then hb HW2.out.2.1.size,⟨_,rfl⟩⟩));rw[hr] at hE;obtain⟨hb,hq,v,rfl,s0,s1,s2,sa,sn,sc,rfl,hN⟩:=hE;rw[hr,PR.bind_ok] at HR;have hs3:=hb.size;have HW3:=aA (aI hq (aI (HW2.out.2.1.then hb HW2.out.2.1.size) (aI hN (aI ((hb.block _ (by omega) (by omega)).trans HW2.out.2.2.1) True.intro))));have EW3:=aA hr;clear hb hq hr hN))
  obtain⟨V3,hV3⟩:∃V3,V3=W3.alloc (.cells #[.string s0,.string s1,.int .i64 s2,.slice sa sn sc] 25):=⟨_,rfl⟩
  rw[←hV3]
  have hb3:Below W3.heap.size W3 V3:=by rw[hV3];exact bA _ _
  have hn3:V3.heap[W3.heap.size]?=some (.cells #[.string s0,.string s1,.int .i64 s2,.slice sa sn sc] 25 (0,0)):=by rw[hV3];exact heap_alloc_new _ _
  have hl3:W3.heap.size<V3.heap.size:=by rw[hV3];simp
  have hnn:1≤n2:=by rw[(YF L f).ei _ _ _ _ _ EW3.out,yD EW2.out];omega
  have HV3:=aA (aI (HW3.out.1.below hb3) (aI (HW3.out.2.1.then (Below.x hb3 rp (nR _)) HW3.out.2.1.size) (aI hn3 (aI ((hb3.block _ (by omega)).trans HW3.out.2.2.2.1) (HW3.out.2.2.1.step (w':=V3) (P':=fun b=>w.heap.size<b) fun b hb hp=>⟨hb3.block b hb,by omega⟩)))))
  generalize W3.heap.size=g3 at *
  clear hV3 hb3 hn3 HW3
  go_wp2_with (go_at_call 151;refine(HLv.out _ _ _ HV3.out.1 hnn).mono ?_;rintro e W4 hE;rcases hr:dC L ⟨#[41]⟩ k2 n2 with _|⟨c,a⟩|⟨x5,k5,n5⟩;(·exact absurd hr OF);(·rw[hr] at hE;obtain⟨hb,⟨p,rfl⟩⟩:=hE;obtain rfl:R=.bad c a:=(by rw[HR.out,hr,PR.bind_bad]);exact(show _∧_ from⟨rfl,HV3.out.2.1.then hb HV3.out.2.1.size,⟨_,rfl⟩⟩));rw[hr] at hE;obtain⟨hb,hq,v,rfl,rfl⟩:=hE;rw[hr,PR.bind_ok] at HR;have hs4:=hb.size;have HW4:=aA (aI hq (aI (HV3.out.2.1.then hb HV3.out.2.1.size) (aI ((hb.block _ (by omega) (by omega)).trans HV3.out.2.2.1) (aI ((hb.block _ (by omega) (by omega)).trans HV3.out.2.2.2.1) True.intro))));have EW4:=aA hr;obtain⟨z0,z1,z2,z3,zf⟩:=tA HW4.out.2.2.1;obtain⟨q0,q1,q2,q3,qf⟩:=tA HW4.out.2.2.2.1;have HN4:=aA (HV3.out.2.2.2.2.step (w':=W4) (P':=fun b=>w.heap.size<b) fun b hb' hp=>⟨hb.block b hb' (by omega),hp⟩);clear hb hq hr)
  obtain⟨q0,q1,q2,q3,qf⟩:=tA HW4.out.2.2.2.1
  refine bodyPost_ret (v:=.agg #[.string s0,.string s1,.int .i64 s2,.slice sa sn sc]) (by simp[results,Tryz.results140,go_sem,q0,q1,q2,q3]) rfl ?_
  obtain rfl:=HR.out
  exact VD HL.out HW4.out.2.1 HW4.out.1 HN4.out
 rw[if_neg hi0] at hR
 have e0:YB L ⟨#[40]⟩ k=false:=Bool.eq_false_iff.2 hi0
 rw[e0] at HI0
 clear hi0 e0
 by_cases hi1:YB L ⟨#[115,111,109,101]⟩ k=true∨YB L ⟨#[101,118,101,114,121]⟩ k=true
 ·rw[if_pos hi1] at hR
  have hmore:k+1<L.length:=by
   rcases hi1 with hi|hi
   ·exact hq1.more (AD hi (by decide))
   ·exact hq1.more (AD hi (by decide))
  have HR:=aA hR
  obtain⟨b1,e1⟩:∃b1,b1=YB L ⟨#[115,111,109,101]⟩ k:=⟨_,rfl⟩
  obtain⟨b2,e2⟩:∃b2,b2=YB L ⟨#[101,118,101,114,121]⟩ k:=⟨_,rfl⟩
  have hbb:(b1||b2)=true:=by rw[e1,e2,Bool.or_eq_true];exact hi1
  rw[←e1] at HI1
  rw[←e2] at HI2
  clear hi1 hq1 hR e1 e2
  cases b1
  all_goals (
   first|(have hb9:=hbb;simp only[Bool.false_or] at hb9;subst hb9)|skip
   go_enter Tryz.func140,Tryz.ntmps140
   go_wp2_with (first|(rw[←HX.out];go_at_call 118;refine HI0.out.mono ?_;rintro e w' ⟨rfl,rfl⟩;clear HI0)|(go_at_call 118;refine HI1.out.mono ?_;rintro e w' ⟨rfl,rfl⟩;clear HI1)|(go_at_call 118;refine HI2.out.mono ?_;rintro e w' ⟨rfl,rfl⟩;clear HI2)|(go_at_call 152;refine(H2.out _ _ _ HQ1.out.1 hmore (HR.out▸HNo.out)).mono ?_;rintro e W2 hE;rcases hr:iB L f k n with _|⟨c,a⟩|⟨x1,k1,n1⟩;(·exact absurd hr (HR.out▸HNo.out));(·rw[hr] at hE;obtain⟨hb,⟨p,rfl⟩⟩:=hE;obtain rfl:R=.bad c a:=(by rw[HR.out,hr]);exact(show _∧_ from⟨rfl,HQ1.out.2.1.then hb HQ1.out.2.1.size,⟨_,rfl⟩⟩));rw[hr] at hE HR;obtain⟨hb,hq,v,rfl,s0,s1,i2,ka,kn,kc,rfl,hN⟩:=hE;obtain⟨q0,q1,q2,q3,qf⟩:=tA ((hb.block _ hs1 (by omega)).trans HQ1.out.2.2.1);have HQ2:=aA (aI hq (aI (HQ1.out.2.1.then hb HQ1.out.2.1.size) hN));clear hb hq hr hN))
   refine bodyPost_ret (v:=.agg #[.string s0,.string s1,.int .i64 i2,.slice ka kn kc]) (by simp[results,Tryz.results140,go_sem,q0,q1,q2,q3]) rfl ?_
   obtain rfl:R=.ok x1 k1 n1:=HR.out
   exact VD HL.out HQ2.out.2.1 HQ2.out.1 (HQ2.out.2.2.step fun b hb hp=>⟨rfl,by omega⟩))
 rw[if_neg hi1] at hR
 have e1:YB L ⟨#[115,111,109,101]⟩ k=false:=Bool.eq_false_iff.2 fun h=>hi1 (.inl h)
 have e2:YB L ⟨#[101,118,101,114,121]⟩ k=false:=Bool.eq_false_iff.2 fun h=>hi1 (.inr h)
 rw[e1] at HI1
 rw[e2] at HI2
 clear hi1 e1 e2
 cases ha:sF L k with
 |true=>
  rw[ha,if_pos rfl] at hR
  rw[ha] at HA
  have HR:=aA hR
  clear ha hq1 hR
  go_enter Tryz.func140,Tryz.ntmps140
  go_wp2_with (first|(rw[←HX.out];go_at_call 118;refine HI0.out.mono ?_;rintro e w' ⟨rfl,rfl⟩;clear HI0)|(go_at_call 118;refine HI1.out.mono ?_;rintro e w' ⟨rfl,rfl⟩;clear HI1)|(go_at_call 118;refine HI2.out.mono ?_;rintro e w' ⟨rfl,rfl⟩;clear HI2)|(go_at_call 153;refine HA.out.mono ?_;rintro e W8 ⟨rfl,hb⟩;have HQ8:=aA (aI (HQ1.out.1.below hb) (aI (HQ1.out.2.1.then (Below.x hb rp (nR _)) HQ1.out.2.1.size) (aI ((hb.block _ hs1).trans HQ1.out.2.2.1) True.intro)));have hs8:=hb.size;clear hb)|(go_at_call 36;refine(HN.out _ _ _ HQ8.out.1).mono ?_;rintro e W2 hE;rcases hr:oB L k n with _|⟨c,a⟩|⟨x1,k1,n1⟩;(·exact absurd hr aC);(·rw[hr] at hE;obtain⟨hb,⟨p,rfl⟩⟩:=hE;obtain rfl:R=.bad c a:=(by rw[HR.out,hr,PR.bind_bad]);exact(show _∧_ from⟨rfl,HQ8.out.2.1.then hb HQ8.out.2.1.size,⟨_,rfl⟩⟩));rw[hr] at hE;obtain⟨hb,hq,v,rfl,rfl⟩:=hE;rw[hr,PR.bind_ok] at HR;have hs2:=hb.size;have HW2:=aA (aI hq (aI (HQ8.out.2.1.then hb HQ8.out.2.1.size) (aI ((hb.block _ (by omega) (by omega)).trans HQ8.out.2.2.1) True.intro)));have EW2:=aA hr;obtain⟨q0,q1,q2,q3,qf⟩:=tA HW2.out.2.2.1;clear hb hq hr))
  obtain⟨q0,q1,q2,q3,qf⟩:=tA HW2.out.2.2.1
  refine bodyPost_ret (v:=.agg #[.string ⟨#[110,97,109,101]⟩,.string x1,.int .i64 0,.slice none 0 0]) (by simp[results,Tryz.results140,go_sem,q0,q1,q2,q3]) rfl ?_
  obtain rfl:=HR.out
  exact VD HL.out HW2.out.2.1 HW2.out.1 (NL.leaf _ _ qB x1 0)
 |false=>
  rw[ha,if_neg (by simp)] at hR
  rw[ha] at HA
  have HR:=aA hR
  clear ha hq1 hR
  go_enter Tryz.func140,Tryz.ntmps140
  go_wp2_with (first|(rw[←HX.out];go_at_call 118;refine HI0.out.mono ?_;rintro e w' ⟨rfl,rfl⟩;clear HI0)|(go_at_call 118;refine HI1.out.mono ?_;rintro e w' ⟨rfl,rfl⟩;clear HI1)|(go_at_call 118;refine HI2.out.mono ?_;rintro e w' ⟨rfl,rfl⟩;clear HI2)|(go_at_call 153;refine HA.out.mono ?_;rintro e W8 ⟨rfl,hb⟩;have HQ8:=aA (aI (HQ1.out.1.below hb) (aI (HQ1.out.2.1.then (Below.x hb rp (nR _)) HQ1.out.2.1.size) (aI ((hb.block _ hs1).trans HQ1.out.2.2.1) True.intro)));have hs8:=hb.size;clear hb)|(go_at_call 154;refine(H3.out _ _ _ HQ8.out.1 (HR.out▸HNo.out)).mono ?_;rintro e W2 hE;rcases hr:DC L f k n with _|⟨c,a⟩|⟨x1,k1,n1⟩;(·exact absurd hr (HR.out▸HNo.out));(·rw[hr] at hE;obtain⟨hb,⟨p,rfl⟩⟩:=hE;obtain rfl:R=.bad c a:=(by rw[HR.out,hr]);exact(show _∧_ from⟨rfl,HQ8.out.2.1.then hb HQ8.out.2.1.size,⟨_,rfl⟩⟩));rw[hr] at hE HR;obtain⟨hb,hq,v,rfl,s0,s1,i2,ka,kn,kc,rfl,hN⟩:=hE;obtain⟨q0,q1,q2,q3,qf⟩:=tA ((hb.block _ (by omega) (by omega)).trans HQ8.out.2.2.1);have HQ2:=aA (aI hq (aI (HQ8.out.2.1.then hb HQ8.out.2.1.size) hN));clear hb hq hr hN))
  refine bodyPost_ret (v:=.agg #[.string s0,.string s1,.int .i64 i2,.slice ka kn kc]) (by simp[results,Tryz.results140,go_sem,q0,q1,q2,q3]) rfl ?_
  obtain rfl:R=.ok x1 k1 n1:=HR.out
  exact VD HL.out HQ2.out.2.1 HQ2.out.1 (HQ2.out.2.2.step fun b hb hp=>⟨rfl,by omega⟩)
end Go.Proofs.YtehbinobohjadaaGreatDoor
