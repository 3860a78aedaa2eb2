import Derived.Test.YtehbinobohjadaaGreatDoorTm00
import Derived.Test.YtehbinobohjadaaGreatDoorTm14
import Derived.Test.YtehbinobohjadaaGreatDoorShelfQ
import Derived.Test.YtehbinobohjadaaGreatDoorTm10
import Derived.Deep.RegionLaw
import Derived.Deep.DeepCutAuto
set_option maxHeartbeats 20000000
set_option maxRecDepth 20000
namespace Go.Proofs.YtehbinobohjadaaGreatDoor
open Go.RowKit Go.Extern.Stop Go.Stop Go.Extern
def GF(t:Tok):Value:=.agg #[.int .i64 (kN t.kind),.string t.text,.int .i64 t.pos]
theorem zW{t:TK}:((kN t:Int)==1)=decide (t=.w):=by cases t<;>rfl
theorem qL(t:Tok)(hs:t.kind=.w→t.text.size≠0)(w:World):
 Calls Tryz.prog 78 #[GF t] w fun e w'=>e=.returned (.bool (decide (t.kind=.w)&&!PE t.text))∧Below w.heap.size w w':=by
 unfold GF
 have hz:=zW (t:=t.kind)
 cases hk:decide (t.kind=.w) with
 |false=>
  rw[hk] at hz
  clear hs hk
  generalize kN t.kind=K0 at *
  generalize t.text=K1 at *
  generalize t.pos=K2 at *
  go_enter Tryz.func78,Tryz.ntmps78
  go_wp2
  go_ret
  exact⟨rfl,bA _ _⟩
 |true=>
  rw[hk] at hz
  have HG:=aA (zJ t.text (hs (by simpa using hk)))
  clear hs hk
  generalize kN t.kind=K0 at *
  generalize t.text=K1 at *
  generalize t.pos=K2 at *
  generalize PE K1=O at *
  go_enter Tryz.func78,Tryz.ntmps78
  go_wp2_with (go_at_call 117;refine(HG.out _).mono ?_;rintro e w' ⟨rfl,hb⟩;have HB:=aA hb;clear hb)
  go_ret
  refine⟨by simp,?_⟩
  exact(bA _ _).trans (HB.out.mono (by simp))
theorem QS.sized{L:List Tok}{rp tb:Nat}{w:World}{k n:Nat}(h:QS L rp tb w k n)(hk:(cA L k).kind≠.e):(cA L k).text.size≠0:=by
 have h1:=h.moreK hk
 have h2:=h.ok.last k _ (vC h.lt)
 intro h0
 have:=h2.2 h0
 omega
theorem aJ(L:List Tok)(k:Nat):dD L k=(decide ((cA L k).kind=.w)&&!PE (cA L k).text):=by
 unfold dD PE
 cases iA gramW (cA L k).text<;>rfl
theorem eE{W:World}{g:Nat}{a b c:Value}{t:TypeId}(h:W.heap[g]?=some (.cells #[a,b,c] t (0,0))):W.cell? ⟨g,0,none⟩=some a∧W.cell? ⟨g,1,none⟩=some b∧W.cell? ⟨g,2,none⟩=some c∧∀i,W.frozen? ⟨g,i,none⟩=false:=by
 simp[World.cell?,World.frozen?,h]
theorem LM{L:List Tok}{rp tb:Nat}{w:World}{k n:Nat}(h:QS L rp tb w k n):
 Calls Tryz.prog 36 #[.pointer (some ⟨rp,0,none⟩)] w fun e w'=>QEnd L rp tb w (oB L k n) (fun x v _=>v=.string x) e w':=by
 obtain⟨m,c,hm,h1,hc,h4,x0,x1,xf⟩:=h.cells
 obtain⟨y0,y1,y2⟩:=h.tokens
 have HN:=aA (qL (cA L k) (fun hw=>h.sized (by rw[hw];intro e;cases e)))
 rw[←aJ] at HN
 obtain⟨W1,hW1⟩:∃W1,W1=w.alloc (.cells #[.int .i64 (kN (cA L k).kind),.string (cA L k).text,.int .i64 (cA L k).pos] 91):=⟨_,rfl⟩
 have b1:Below w.heap.size w W1:=by rw[hW1];exact bA _ _
 have n1:W1.heap[w.heap.size]?=some (.cells #[.int .i64 (kN (cA L k).kind),.string (cA L k).text,.int .i64 (cA L k).pos] 91 (0,0)):=by rw[hW1];exact heap_alloc_new _ _
 have s1:w.heap.size<W1.heap.size:=by rw[hW1];simp
 have HX:=aA hW1
 have HW:=aA (fun (W:World) (hq:QS L rp tb W k n)=>FD hq 189)
 have HB:=aA (aI b1 (aI n1 (aI s1 (aI (h.below b1) h.lows))))
 obtain⟨v0,v1,v2,vf⟩:=eE n1
 unfold GF at HN
 unfold oB
 cases hk:dD L k with
 |false=>
  rw[hk] at HN
  rw[if_neg (by simp)]
  clear h hk hW1 b1 n1
  generalize kN (cA L k).kind=K0 at *
  generalize (cA L k).text=K1 at *
  generalize (cA L k).pos=K2 at *
  go_enter Tryz.func36,Tryz.ntmps36
  go_wp2_with (first|(rw[←HX.out];go_at_call 78;refine(HN.out _).mono ?_;rintro e w' ⟨rfl,hb⟩;have hq2:=HB.out.2.2.2.1.below hb;obtain⟨pt,gt⟩:=hq2.gT;have HQ:=aA (aI hq2 hb);clear hb hq2)|(go_at_call 44;refine(HW.out _ HQ.out.1 _).mono ?_;rintro e w'' ⟨⟨p,rfl⟩,hb⟩;have HE:=aA hb;clear hb))
  exact⟨rfl,Below.x ((HB.out.1.trans (HQ.out.2.mono (Nat.le_of_lt s1))).trans (HE.out.mono (by have:=HQ.out.2.size;omega))) _ (nR _),⟨_,rfl⟩⟩
 |true=>
  rw[hk] at HN
  have hw:(cA L k).kind=.w:=by
   unfold dD at hk
   simp only[Bool.and_eq_true,decide_eq_true_eq] at hk
   exact hk.1
  have hk1:=h.moreK (by rw[hw];intro e;cases e)
  have HS:=aA (fun (W:World) (hq:QS L rp tb W k n)=>ZF hq hk1)
  by_cases h24:(cA L k).text.size≤24
  ·rw[if_pos ⟨rfl,h24⟩]
   have hz:¬24<(cA L k).text.size:=by omega
   clear h hk hW1 b1 n1 hw hk1
   generalize kN (cA L k).kind=K0 at *
   generalize (cA L k).text=K1 at *
   generalize (cA L k).pos=K2 at *
   go_enter Tryz.func36,Tryz.ntmps36
   go_wp2_with (first|(rw[←HX.out];go_at_call 78;refine(HN.out _).mono ?_;rintro e w' ⟨rfl,hb⟩;have hq2:=HB.out.2.2.2.1.below hb;obtain⟨z0,z1,z2,zf⟩:=eE ((hb.block _ s1).trans HB.out.2.1);have HQ:=aA (aI hq2 hb);clear hb hq2)|(go_at_call 35;refine(HS.out _ HQ.out.1).mono ?_;rintro e w'' ⟨rfl,hq3,hb⟩;have HE:=aA (aI hq3 hb);clear hb hq3))
   go_ret
   exact⟨(Below.x (HB.out.1.trans (HQ.out.2.mono (Nat.le_of_lt s1))) _ (nR _)).then HE.out.2 (by have:=HQ.out.2.size;omega),HE.out.1,_,rfl,rfl⟩
  ·rw[if_neg (fun h=>h24 h.2)]
   have hz:24<(cA L k).text.size:=by omega
   clear h hk hW1 b1 n1 hw hk1
   generalize kN (cA L k).kind=K0 at *
   generalize (cA L k).text=K1 at *
   generalize (cA L k).pos=K2 at *
   go_enter Tryz.func36,Tryz.ntmps36
   go_wp2_with (first|(rw[←HX.out];go_at_call 78;refine(HN.out _).mono ?_;rintro e w' ⟨rfl,hb⟩;have hq2:=HB.out.2.2.2.1.below hb;obtain⟨pt,gt⟩:=hq2.gB;obtain⟨z0,z1,z2,zf⟩:=eE ((hb.block _ s1).trans HB.out.2.1);have HQ:=aA (aI hq2 hb);clear hb hq2)|(go_at_call 44;refine(HW.out _ HQ.out.1 _).mono ?_;rintro e w'' ⟨⟨p,rfl⟩,hb⟩;have HE:=aA hb;clear hb))
   exact⟨rfl,Below.x ((HB.out.1.trans (HQ.out.2.mono (Nat.le_of_lt s1))).trans (HE.out.mono (by have:=HQ.out.2.size;omega))) _ (nR _),⟨_,rfl⟩⟩
theorem GB{a b:Int}(h:a=b):Ending.returned (.int .i64 a)=.returned (.int .i64 b):=by rw[h]
def kG(l:List UInt8)(n:Nat):Nat:=l.foldl (fun n c=>n * 10+(c.toNat - 48)) n
theorem XP(l:List UInt8)(c:UInt8)(n:Nat):kG (l++[c]) n=kG l n * 10+(c.toNat - 48):=by unfold kG;simp
theorem QD{c:UInt8}(h:lA c=true):48≤c.toNat∧c.toNat≤57:=by
 unfold lA at h
 simp only[Bool.and_eq_true,decide_eq_true_eq] at h
 exact h
theorem yM(l:List UInt8)(h:∀c,c∈l→lA c=true):∀n,kG l n<(n+1) * 10 ^ l.length:=by
 induction l with
 |nil=>intro n;unfold kG;simp
 |cons c l ih=>
  intro n
  have h1:=ih (fun c hc=>h c (List.mem_cons_of_mem _ hc)) (n * 10+(c.toNat - 48))
  have h2:=QD (h c (List.mem_cons_self ..))
  have e:kG (c::l) n=kG l (n * 10+(c.toNat - 48)):=rfl
  rw[e,List.length_cons,Nat.pow_succ]
  refine Nat.lt_of_lt_of_le h1 ?_
  calc (n * 10+(c.toNat - 48)+1) * 10 ^ l.length≤((n+1) * 10) * 10 ^ l.length:=Nat.mul_le_mul_right _ (by omega)
   _=(n+1) * (10 ^ l.length * 10):=by rw[Nat.mul_assoc,Nat.mul_comm 10]
theorem AH(l:List UInt8)(h:∀c,c∈l→lA c=true):∀n p,zD l n p=(kG l n,p):=by
 induction l with
 |nil=>intro n p;rfl
 |cons c l ih=>
  intro n p
  have h2:=QD (h c (List.mem_cons_self ..))
  rw[zD,if_neg (fun e=>by rw[e] at h2;have:(46:UInt8).toNat=46:=rfl;omega),ih (fun c hc=>h c (List.mem_cons_of_mem _ hc))]
  rfl
theorem kK(l l':List UInt8)(h:∀c,c∈l→lA c=true):∀n p,zD (l++l') n p=zD l' (kG l n) p:=by
 induction l with
 |nil=>intro n p;rfl
 |cons c l ih=>
  intro n p
  have h2:=QD (h c (List.mem_cons_self ..))
  rw[List.cons_append,zD,if_neg (fun e=>by rw[e] at h2;have:(46:UInt8).toNat=46:=rfl;omega),ih (fun c hc=>h c (List.mem_cons_of_mem _ hc))]
  rfl
theorem cN(s:ByteArray)(k:Nat)(h:k<s.size):s.data.toList.take (k+1)=s.data.toList.take k++[s[k]]:=by
 rw[List.take_succ_eq_append_getElem (by simpa using h)];rfl
theorem PK(s:ByteArray)(hs:s.size≤12)(hd:∀c,c∈s.data.toList→lA c=true)(w:World):
 Calls Tryz.prog 123 #[.string s] w fun e w'=>e=.returned (.int .i64 (kG s.data.toList 0))∧Below w.heap.size w w':=by
 have HS:=aA hd
 clear hd
 go_enter Tryz.func123,Tryz.ntmps123
 go_wp2_with fail
 go_loopw [3] (fun t w'=>∃pos:Nat,w'=w.iter s pos∧pos≤s.size∧t=.int .i64 (kG (s.data.toList.take pos) 0)) (fun _ w'=>s.size - w'.iterPos w.heap.size)
 case atStart=>exact⟨0,rfl,Nat.zero_le _,rfl⟩
 case round=>
  obtain⟨pos,rfl,hle,rfl⟩:=hrel
  by_cases hp:pos<s.size
  ·have hm:s[pos]∈s.data.toList:=by
    rw[List.mem_iff_getElem]
    exact⟨pos,by simpa using hp,rfl⟩
   obtain⟨k1,k2⟩:=QD (HS.out _ hm)
   have hnx:∀ty,(Instr.next (.pointer (some ⟨w.heap.size,0,none⟩)) true ty).run Tryz.prog (w.iter s pos)=_:=fun ty=>run_next_ascii w s pos ty hp (by omega)
   have hb:kG (s.data.toList.take pos) 0<100000000000:=by
    have h1:=yM (s.data.toList.take pos) (fun c hc=>HS.out c (List.mem_of_mem_take hc)) 0
    have h2:(s.data.toList.take pos).length≤11:=by rw[List.length_take];omega
    exact Nat.lt_of_lt_of_le h1 (Nat.le_trans (by rw[Nat.zero_add,Nat.one_mul];exact Nat.pow_le_pow_right (by omega) h2) (by decide))
   have HN:Hid (kG (s.data.toList.take (pos+1)) 0=kG (s.data.toList.take pos) 0 * 10+(s[pos].toNat - 48)):=by show _=_;rw[cN s pos hp,XP]
   generalize kG (s.data.toList.take pos) 0=a at *
   clear hm
   go_wp2
   go_roundw
   case rel=>exact⟨pos+1,rfl,by omega,by rw[HN.out];go_num⟩
   case measure=>simp;omega
  ·have hnx:∀ty,(Instr.next (.pointer (some ⟨w.heap.size,0,none⟩)) true ty).run Tryz.prog (w.iter s pos)=_:=fun ty=>run_next_end w s pos ty hp
   have HE:Hid (s.data.toList.take pos=s.data.toList):=List.take_of_length_le (by rw[Array.length_toList];exact Nat.le_of_not_lt hp)
   go_wp2
   go_ret
   exact⟨GB (by rw[HE.out]),bA _ _⟩
theorem oK(l:List UInt8)(h:∀c,c∈l→lA c=true):Lib.indexByte l 46=-1:=by
 induction l with
 |nil=>rfl
 |cons c l ih=>
  have h2:=QD (h c (List.mem_cons_self ..))
  have hc:¬c=46:=fun e=>by rw[e] at h2;have:(46:UInt8).toNat=46:=rfl;omega
  rw[Lib.indexByte,if_neg (by simpa using hc),ih (fun c hc=>h c (List.mem_cons_of_mem _ hc))]
  rfl
theorem pK(l r:List UInt8)(h:∀c,c∈l→lA c=true):Lib.indexByte (l++46::r) 46=l.length:=by
 induction l with
 |nil=>rw[List.nil_append,Lib.indexByte,if_pos (by simp)];rfl
 |cons c l ih=>
  have h2:=QD (h c (List.mem_cons_self ..))
  have hc:¬c=46:=fun e=>by rw[e] at h2;have:(46:UInt8).toNat=46:=rfl;omega
  rw[List.cons_append,Lib.indexByte,if_neg (by simpa using hc),ih (fun c hc=>h c (List.mem_cons_of_mem _ hc)),if_neg (by simp),List.length_cons]
  omega
structure NumCut(s:ByteArray)(ds cs:List UInt8):Prop where
 c1:(Lib.cut s.data.toList [46]).1=ds
 c2:(Lib.cut s.data.toList [46]).2.1=cs
 d:∀c,c∈ds→lA c=true
 e:∀c,c∈cs→lA c=true
 l:cs.length≤2
 w:BE s=ds.length
 h:CC s=100 * kG ds 0+kG cs 0
 p:kD s=false→s.data.toList=ds∧cs=[]
 q:Lib.indexByte s.data.toList 46<0↔kD s=false
theorem CV(l:List UInt8)(h:∀c,c∈l→lA c=true)(r:List UInt8):(l++46::r).takeWhile (·!=46)=l:=by
 induction l with
 |nil=>rfl
 |cons c l ih=>
  have h2:=QD (h c (List.mem_cons_self ..))
  have hc:¬c=46:=fun e=>by rw[e] at h2;have:(46:UInt8).toNat=46:=rfl;omega
  rw[List.cons_append,List.takeWhile_cons_of_pos (by simpa using hc),ih (fun c hc=>h c (List.mem_cons_of_mem _ hc))]
theorem yT(l:List UInt8)(h:∀c,c∈l→lA c=true):l.takeWhile (·!=46)=l:=by
 induction l with
 |nil=>rfl
 |cons c l ih=>
  have h2:=QD (h c (List.mem_cons_self ..))
  have hc:¬c=46:=fun e=>by rw[e] at h2;have:(46:UInt8).toNat=46:=rfl;omega
  rw[List.takeWhile_cons_of_pos (by simpa using hc),ih (fun c hc=>h c (List.mem_cons_of_mem _ hc))]
theorem NumForm.cut{s:ByteArray}(h:NumForm s):∃ds cs,NumCut s ds cs:=by
 obtain⟨_,ds,hd,h1|⟨a,b,ha,hb,h1⟩⟩:=h
 ·refine⟨ds,[],?_,?_,hd,(fun c hc=>by cases hc),(by simp),?_,?_,(fun _=>⟨h1,rfl⟩),?_⟩
  ·unfold Lib.cut;rw[Lib.index_one,h1,oK ds hd];rfl
  ·unfold Lib.cut;rw[Lib.index_one,h1,oK ds hd];rfl
  ·unfold BE;rw[h1,yT ds hd]
  ·unfold CC;rw[h1,AH ds hd];show kG ds 0 * 100=_;unfold kG;simp;omega
  ·rw[h1,oK ds hd]
   unfold kD
   rw[h1]
   refine⟨fun _=>?_,fun _=>by omega⟩
   rw[List.any_eq_false]
   intro c hc
   have h2:=QD (hd c hc)
   have:¬c=46:=fun e=>by rw[e] at h2;have:(46:UInt8).toNat=46:=rfl;omega
   simpa using this
 ·refine⟨ds,[a,b],?_,?_,hd,?_,(by simp),?_,?_,?_,?_⟩
  ·unfold Lib.cut;rw[Lib.index_one,h1,pK ds [a,b] hd,if_pos (by omega)];simp
  ·unfold Lib.cut;rw[Lib.index_one,h1,pK ds [a,b] hd,if_pos (by omega)];simp[List.drop_append]
  ·intro c hc
   simp only[List.mem_cons,List.not_mem_nil,or_false] at hc
   rcases hc with rfl|rfl
   ·exact ha
   ·exact hb
  ·unfold BE;rw[h1,CV ds hd]
  ·unfold CC
   have e1:=QD ha
   have e2:=QD hb
   rw[h1,kK ds _ hd]
   have e3:zD [46,a,b] (kG ds 0) false=((kG ds 0 * 10+(a.toNat - 48)) * 10+(b.toNat - 48),true):=by
    rw[zD,if_pos rfl,AH [a,b] (by
     intro c hc
     simp only[List.mem_cons,List.not_mem_nil,or_false] at hc
     rcases hc with rfl|rfl
     ·exact ha
     ·exact hb)]
    rfl
   rw[e3]
   have e4:kG [a,b] 0=(a.toNat - 48) * 10+(b.toNat - 48):=by unfold kG;simp
   rw[e4]
   show (kG ds 0 * 10+(a.toNat - 48)) * 10+(b.toNat - 48)=_
   omega
  ·intro hp
   unfold kD at hp
   rw[h1,List.any_eq_false] at hp
   exact absurd (by simp) (hp 46 (by simp))
  ·rw[h1,pK ds [a,b] hd]
   unfold kD
   rw[h1]
   refine⟨fun h=>by omega,fun h=>?_⟩
   rw[List.any_eq_false] at h
   exact absurd (by simp) (h 46 (by simp))
theorem Below.drewN_(w:World)(n:Nat):Below w.heap.size w (w.drewN n):=⟨rfl,rfl,rfl,nR _,fun _ _=>rfl⟩
theorem TT{s:ByteArray}{ds cs:List UInt8}(hs:s.size≤400)(hc:NumCut s ds cs)(m:Int)(w:World)(hm:w.cell? ⟨12,0,none⟩=some (.int .i64 m)):
 Calls Tryz.prog 33 #[.string s,.string ⟨#[46]⟩] w fun e w'=>(∃b,e=.returned (.tuple #[.string ⟨ds.toArray⟩,.string ⟨cs.toArray⟩,.bool b]))∧Below w.heap.size w w':=by
 refine(Go.Proofs.Tryz.strings_Cut s ⟨#[46]⟩ m w (by omega) hm).mono ?_
 rintro e w' ⟨rfl,n,rfl⟩
 have e1:=hc.c1
 have e2:=hc.c2
 refine⟨⟨(Lib.cut s.data.toList [46]).2.2,?_⟩,Below.drewN_ w n⟩
 show Ending.returned (.tuple #[.string ⟨(Lib.cut s.data.toList [46]).1.toArray⟩,.string ⟨(Lib.cut s.data.toList [46]).2.1.toArray⟩,.bool _])=_
 rw[e1,e2]
theorem pL(t:Tok){ds cs:List UInt8}(hs:t.text.size≤400)(hc:NumCut t.text ds cs)(m:Int)(w:World)(hm:w.cell? ⟨12,0,none⟩=some (.int .i64 m)):
 Calls Tryz.prog 122 #[GF t] w fun e w'=>e=.returned (.bool (decide (12<ds.length)))∧Below w.heap.size w w':=by
 unfold GF
 have HC:=aA (fun (W:World) (hb:Below w.heap.size w W)=>TT hs hc m W ((hb.cell (p:=⟨12,0,none⟩) (fB hm)).trans hm))
 have hd:(⟨ds.toArray⟩:ByteArray).size=ds.length:=by simp[ByteArray.size]
 clear hs hc hm
 generalize (⟨ds.toArray⟩:ByteArray)=D at *
 generalize (⟨cs.toArray⟩:ByteArray)=C at *
 generalize ds.length=dl at *
 subst hd
 generalize kN t.kind=K0 at *
 generalize t.text=K1 at *
 generalize t.pos=K2 at *
 go_enter Tryz.func122,Tryz.ntmps122
 go_wp2_with (go_at_call 33;refine(HC.out _ (bA _ _)).mono ?_;rintro e w' ⟨⟨b,rfl⟩,hb⟩;have HB:=aA hb;clear hb)
 go_ret
 refine⟨CB ?_,(bA _ _).trans (HB.out.mono (by simp))⟩
 rw[Bool.eq_iff_iff];simp;omega
theorem FM(t:Tok){ds cs:List UInt8}(hc:NumCut t.text ds cs)(w:World):
 Calls Tryz.prog 121 #[GF t] w fun e w'=>e=.returned (.bool (kD t.text))∧Below w.heap.size w w':=by
 unfold GF
 have hb:decide (0≤Lib.indexByte t.text.data.toList 46)=kD t.text:=by
  have:=hc.q
  cases hp:kD t.text with
  |false=>rw[hp] at this;rw[decide_eq_false_iff_not];have:=this.2 rfl;omega
  |true=>rw[hp] at this;rw[decide_eq_true_iff];apply Classical.byContradiction;intro h;exact absurd (this.1 (by omega)) (by simp)
 have HC:=aA (fun (W:World)=>Go.Proofs.Tryz.strings_Contains_one t.text 46 W)
 rw[hb] at HC
 clear hc hb
 generalize kD t.text=O at *
 generalize kN t.kind=K0 at *
 generalize t.text=K1 at *
 generalize t.pos=K2 at *
 go_enter Tryz.func121,Tryz.ntmps121
 go_wp2_with (go_at_call 144;refine(HC.out _).mono ?_;rintro e w' ⟨rfl,rfl⟩)
 go_ret
 exact⟨rfl,bA _ _⟩
theorem bF(l:List UInt8):(⟨l.toArray⟩:ByteArray).data.toList=l:=by simp
theorem fO(l:List UInt8):(⟨l.toArray⟩:ByteArray).size=l.length:=by simp[ByteArray.size]
theorem nK(t:Tok){ds cs:List UInt8}(hs:t.text.size≤400)(hc:NumCut t.text ds cs)(hl:ds.length≤12)(m:Int)(w:World)(hm:w.cell? ⟨12,0,none⟩=some (.int .i64 m)):
 Calls Tryz.prog 164 #[GF t] w fun e w'=>e=.returned (.int .i64 (CC t.text))∧Below w.heap.size w w':=by
 unfold GF
 have HC:=aA (fun (W:World) (hb:Below w.heap.size w W)=>TT hs hc m W ((hb.cell (p:=⟨12,0,none⟩) (fB hm)).trans hm))
 have H1:=aA (PK ⟨ds.toArray⟩ (by rw[fO];exact hl) (by rw[bF];exact hc.d))
 have H2:=aA (PK ⟨cs.toArray⟩ (by rw[fO];have:=hc.l;omega) (by rw[bF];exact hc.e))
 rw[bF] at H1 H2
 have b1:=yM ds hc.d 0
 have b2:=yM cs hc.e 0
 have c1:kG ds 0<1000000000000:=Nat.lt_of_lt_of_le b1 (Nat.le_trans (by rw[Nat.zero_add,Nat.one_mul];exact Nat.pow_le_pow_right (by omega) hl) (by decide))
 have c2:kG cs 0<100:=Nat.lt_of_lt_of_le b2 (Nat.le_trans (by rw[Nat.zero_add,Nat.one_mul];exact Nat.pow_le_pow_right (by omega) hc.l) (by decide))
 have HH:=aA hc.h
 clear hs hc hm b1 b2
 generalize (⟨ds.toArray⟩:ByteArray)=D at *
 generalize (⟨cs.toArray⟩:ByteArray)=C at *
 generalize kG ds 0=d1 at *
 generalize kG cs 0=d2 at *
 generalize CC t.text=O at *
 generalize kN t.kind=K0 at *
 generalize t.text=K1 at *
 generalize t.pos=K2 at *
 go_enter Tryz.func164,Tryz.ntmps164
 go_upto_region 2 with (go_at_call 33;refine(HC.out _ (bA _ _)).mono ?_;rintro e w' ⟨⟨b,rfl⟩,hb⟩;have HB:=aA hb;clear hb)
 go_wp2_with (first|(go_at_call 123;refine(H1.out _).mono ?_;rintro e w2 ⟨rfl,hb⟩;have HB2:=aA hb;clear hb H1)|(go_at_call 123;refine(H2.out _).mono ?_;rintro e w3 ⟨rfl,hb⟩;have HB3:=aA hb;clear hb))
 go_ret
 have h1:=HB.out.size
 have h2:=HB2.out.size
 refine⟨GB ?_,((bA _ _).trans (HB.out.mono (by simp))).trans ((HB2.out.mono (by have:=HB.out.size;simp at this;omega)).trans (HB3.out.mono (by have:=HB.out.size;simp at this;omega)))⟩
 have:=HH.out
 first|(rw[this];push_cast;omega)|(rw[this];go_num)
theorem yW{t:TK}:((kN t:Int)==2)=decide (t=.n):=by cases t<;>rfl
theorem YT{t:TK}:((kN t:Int) !=2)=!decide (t=.n):=by cases t<;>rfl
theorem CL{L:List Tok}{rp tb:Nat}{w:World}{k n:Nat}(h:QS L rp tb w k n):
 Calls Tryz.prog 155 #[.pointer (some ⟨rp,0,none⟩)] w fun e w'=>QEnd L rp tb w (cC L k n) (fun x v _=>v=.int .i64 x) e w':=by
 obtain⟨m,c,hm,h1,hc,h4,x0,x1,xf⟩:=h.cells
 obtain⟨y0,y1,y2⟩:=h.tokens
 obtain⟨W1,hW1⟩:∃W1,W1=w.alloc (.cells #[.int .i64 (kN (cA L k).kind),.string (cA L k).text,.int .i64 (cA L k).pos] 91):=⟨_,rfl⟩
 have b1:Below w.heap.size w W1:=by rw[hW1];exact bA _ _
 have n1:W1.heap[w.heap.size]?=some (.cells #[.int .i64 (kN (cA L k).kind),.string (cA L k).text,.int .i64 (cA L k).pos] 91 (0,0)):=by rw[hW1];exact heap_alloc_new _ _
 have s1:w.heap.size<W1.heap.size:=by rw[hW1];simp
 have HX:=aA hW1
 have HW:=aA (fun (W:World) (hq:QS L rp tb W k n)=>FD hq 189)
 have HB:=aA (aI b1 (aI n1 (aI s1 (aI (h.below b1) h.lows))))
 obtain⟨v0,v1,v2,vf⟩:=eE n1
 obtain⟨pt,gt⟩:=(h.below b1).gT
 have hz:=YT (t:=(cA L k).kind)
 unfold cC
 by_cases hk:(cA L k).kind=.n
 ·have hnf:=h.ok.num k _ (vC h.lt) hk
  obtain⟨ds,cs,hcut⟩:=hnf.cut
  have hk1:=h.moreK (by rw[hk];intro e;cases e)
  have HS:=aA (fun (W:World) (hq:QS L rp tb W k n)=>ZF hq hk1)
  have HL:=aA (fun (W:World) (hq:QS L rp tb W k n) (m:Int) (hm:W.cell? ⟨12,0,none⟩=some (.int .i64 m))=>pL (cA L k) hnf.1 hcut m W hm)
  have hwn:=hcut.w
  rw[decide_eq_true hk] at hz
  simp only[Bool.not_true] at hz
  by_cases hl:12<ds.length
  ·rw[if_neg (by rw[hwn];omega)]
   rw[decide_eq_true hl] at HL
   unfold GF at HL
   clear h hk hW1 b1 n1 hk1 hcut hnf hwn
   generalize kN (cA L k).kind=K0 at *
   generalize (cA L k).text=K1 at *
   generalize (cA L k).pos=K2 at *
   go_enter Tryz.func155,Tryz.ntmps155
   go_upto_region 4 with fail
   rw[←HX.out]
   obtain⟨mm,gm⟩:=HB.out.2.2.2.1.gM
   go_wp2_with (first|(go_at_call 122;refine(HL.out _ HB.out.2.2.2.1 _ gm).mono ?_;rintro e w' ⟨rfl,hb⟩;have hq2:=HB.out.2.2.2.1.below hb;obtain⟨pb,gb⟩:=hq2.gB;have HQ:=aA (aI hq2 hb);clear hb hq2)|(go_at_call 44;refine(HW.out _ HQ.out.1 _).mono ?_;rintro e w'' ⟨⟨p,rfl⟩,hb⟩;have HE:=aA hb;clear hb))
   exact⟨rfl,Below.x ((HB.out.1.trans (HQ.out.2.mono (Nat.le_of_lt s1))).trans (HE.out.mono (by have:=HQ.out.2.size;omega))) _ (nR _),⟨_,rfl⟩⟩
  ·have HH:=aA (fun (W:World) (m:Int) (hm:W.cell? ⟨12,0,none⟩=some (.int .i64 m))=>nK (cA L k) hnf.1 hcut (by omega) m W hm)
   rw[decide_eq_false hl] at HL
   unfold GF at HL HH
   have hwl:BE (cA L k).text≤12:=by rw[hwn];omega
   by_cases hv:CC (cA L k).text≤1000000000000
   ·rw[if_pos ⟨hk,hwl,hv⟩]
    have hvz:¬1000000000000<CC (cA L k).text:=by omega
    clear h hk hW1 b1 n1 hk1 hcut hnf hwn hwl hv
    generalize CC (cA L k).text=O at *
    generalize kN (cA L k).kind=K0 at *
    generalize (cA L k).text=K1 at *
    generalize (cA L k).pos=K2 at *
    go_enter Tryz.func155,Tryz.ntmps155
    go_upto_region 4 with fail
    rw[←HX.out]
    obtain⟨mm,gm⟩:=HB.out.2.2.2.1.gM
    go_upto_region 7 with (first|(go_at_call 122;refine(HL.out _ HB.out.2.2.2.1 _ gm).mono ?_;rintro e w' ⟨rfl,hb⟩;have hq2:=HB.out.2.2.2.1.below hb;obtain⟨m2,gm2⟩:=hq2.gM;obtain⟨z0,z1,z2,zf⟩:=eE ((hb.block _ s1).trans HB.out.2.1);have HQ:=aA (aI hq2 hb);clear hb hq2)|(go_at_call 164;refine(HH.out _ _ gm2).mono ?_;rintro e w3 ⟨rfl,hb⟩;have hq3:=HQ.out.1.below hb;have HQ3:=aA (aI hq3 hb);clear hb hq3)|(go_at_call 35;refine(HS.out _ HQ3.out.1).mono ?_;rintro e w4 ⟨rfl,hq4,hb⟩;have HE:=aA (aI hq4 hb);clear hb hq4))
    have i2:=HQ.out.2.size
    have i3:=HQ3.out.2.size
    have i4:=HE.out.2.size
    obtain⟨m4,gm4⟩:=HE.out.1.gM
    obtain⟨z0,z1,z2,zf⟩:=eE (((HE.out.2.block w.heap.size (by omega) (by have:=HB.out.2.2.2.2.r;omega)).trans (HQ3.out.2.block _ (by omega))).trans ((HQ.out.2.block _ s1).trans HB.out.2.1))
    go_wp2_with (go_at_call 164;refine(HH.out _ _ gm4).mono ?_;rintro e w5 ⟨rfl,hb⟩;have HQ5:=aA hb;clear hb)
    go_ret
    exact⟨((Below.x ((HB.out.1.trans (HQ.out.2.mono (Nat.le_of_lt s1))).trans (HQ3.out.2.mono (by omega))) _ (nR _)).then HE.out.2 (by omega)).then (Below.x HQ5.out _ (nR _)) (by omega),HE.out.1.below HQ5.out,_,rfl,rfl⟩
   ·rw[if_neg (fun h=>hv h.2.2)]
    have hvz:1000000000000<CC (cA L k).text:=by omega
    clear h hk hW1 b1 n1 hk1 hcut hnf hwn hwl hv
    generalize CC (cA L k).text=O at *
    generalize kN (cA L k).kind=K0 at *
    generalize (cA L k).text=K1 at *
    generalize (cA L k).pos=K2 at *
    go_enter Tryz.func155,Tryz.ntmps155
    go_upto_region 4 with fail
    rw[←HX.out]
    obtain⟨mm,gm⟩:=HB.out.2.2.2.1.gM
    go_wp2_with (first|(go_at_call 122;refine(HL.out _ HB.out.2.2.2.1 _ gm).mono ?_;rintro e w' ⟨rfl,hb⟩;have hq2:=HB.out.2.2.2.1.below hb;obtain⟨m2,gm2⟩:=hq2.gM;obtain⟨z0,z1,z2,zf⟩:=eE ((hb.block _ s1).trans HB.out.2.1);have HQ:=aA (aI hq2 hb);clear hb hq2)|(go_at_call 164;refine(HH.out _ _ gm2).mono ?_;rintro e w3 ⟨rfl,hb⟩;have hq3:=HQ.out.1.below hb;obtain⟨pb,gb⟩:=hq3.gB;have HQ3:=aA (aI hq3 hb);clear hb hq3)|(go_at_call 44;refine(HW.out _ HQ3.out.1 _).mono ?_;rintro e w'' ⟨⟨p,rfl⟩,hb⟩;have HE:=aA hb;clear hb))
    have i2:=HQ.out.2.size
    have i3:=HQ3.out.2.size
    exact⟨rfl,Below.x (((HB.out.1.trans (HQ.out.2.mono (Nat.le_of_lt s1))).trans (HQ3.out.2.mono (by omega))).trans (HE.out.mono (by omega))) _ (nR _),⟨_,rfl⟩⟩
 ·rw[if_neg (fun h=>hk h.1)]
  rw[decide_eq_false hk] at hz
  simp only[Bool.not_false] at hz
  clear h hk hW1 b1 n1
  generalize kN (cA L k).kind=K0 at *
  generalize (cA L k).text=K1 at *
  generalize (cA L k).pos=K2 at *
  go_enter Tryz.func155,Tryz.ntmps155
  go_upto_region 2 with fail
  rw[←HX.out]
  go_wp2_with (go_at_call 44;refine(HW.out _ HB.out.2.2.2.1 _).mono ?_;rintro e w'' ⟨⟨p,rfl⟩,hb⟩;have HE:=aA hb;clear hb)
  exact⟨rfl,Below.x (HB.out.1.trans (HE.out.mono (Nat.le_of_lt s1))) _ (nR _),⟨_,rfl⟩⟩
theorem bC{L:List Tok}{s:ByteArray}{k n:Nat}:bB L s k n≠.out:=by unfold bB;split<;>(intro h;cases h)
theorem aC{L:List Tok}{k n:Nat}:oB L k n≠.out:=by unfold oB;split<;>(intro h;cases h)
theorem yI{L:List Tok}{k n:Nat}:cC L k n≠.out:=by unfold cC;split<;>(intro h;cases h)
theorem NE{L:List Tok}{k n:Nat}:TB L k n≠.out:=by unfold TB;split<;>(intro h;cases h)
theorem pV{L:List Tok}{rp tb:Nat}{w:World}{k n:Nat}(h:QS L rp tb w k n):
 Calls Tryz.prog 143 #[.pointer (some ⟨rp,0,none⟩)] w fun e w'=>QEnd L rp tb w (XE L k n) (fun x v _=>v=.int .i64 x) e w':=by
 obtain⟨m,c,hm,h1,hc,h4,x0,x1,xf⟩:=h.cells
 obtain⟨y0,y1,y2⟩:=h.tokens
 have HN:=aA (CL h)
 unfold XE
 cases hr:cC L k n with
 |out=>exact absurd hr yI
 |bad c a=>
  rw[hr] at HN
  rw[PR.bind_bad]
  clear h hr
  generalize (cA L k).pos=K2 at *
  go_enter Tryz.func143,Tryz.ntmps143
  go_wp2_with (go_at_call 155;refine HN.out.mono ?_;rintro e w' ⟨hb,⟨p,rfl⟩⟩;have HB:=aA hb;clear hb)
  exact⟨rfl,HB.out,⟨_,rfl⟩⟩
 |ok x k1 n1=>
  have HE:=aA (fun (W:World) (hq:QS L rp tb W k1 n1)=>MM hq (sg 37) (by decide))
  unfold sg at HE
  rw[hr] at HN
  rw[PR.bind_ok]
  clear h hr
  generalize (cA L k).pos=K2 at *
  show Calls _ _ _ _ fun e w'=>QEnd L rp tb w ((bB L ⟨#[37]⟩ k1 n1).bind _) _ e w'
  cases hr2:bB L ⟨#[37]⟩ k1 n1 with
  |out=>exact absurd hr2 bC
  |bad c a=>
   rw[hr2] at HE
   rw[PR.bind_bad]
   clear hr2
   go_enter Tryz.func143,Tryz.ntmps143
   go_wp2_with (first|(go_at_call 155;refine HN.out.mono ?_;rintro e w' ⟨hb,hq,v,rfl,rfl⟩;have HB:=aA (aI hq hb);clear hb hq)|(go_at_call 39;refine(HE.out _ HB.out.1).mono ?_;rintro e w2 ⟨hb,⟨p,rfl⟩⟩;have HB2:=aA hb;clear hb))
   exact⟨rfl,HB.out.2.then HB2.out HB.out.2.size,⟨_,rfl⟩⟩
  |ok y k2 n2=>
   rw[hr2] at HE
   rw[PR.bind_ok]
   clear hr2
   by_cases hx:x≤1000000
   ·rw[if_pos hx]
    have hz:¬(1000000:Int)<x:=by omega
    go_enter Tryz.func143,Tryz.ntmps143
    go_wp2_with (first|(go_at_call 155;refine HN.out.mono ?_;rintro e w' ⟨hb,hq,v,rfl,rfl⟩;have HB:=aA (aI hq hb);clear hb hq)|(go_at_call 39;refine(HE.out _ HB.out.1).mono ?_;rintro e w2 ⟨hb,hq,v,rfl,rfl⟩;have HB2:=aA (aI hq hb);clear hb hq))
    go_ret
    exact⟨HB.out.2.then HB2.out.2 HB.out.2.size,HB2.out.1,_,rfl,rfl⟩
   ·rw[if_neg hx]
    have hz:(1000000:Int)<x:=by omega
    go_enter Tryz.func143,Tryz.ntmps143
    go_wp2_with (first|(go_at_call 155;refine HN.out.mono ?_;rintro e w' ⟨hb,hq,v,rfl,rfl⟩;have HB:=aA (aI hq hb);clear hb hq)|(go_at_call 39;refine(HE.out _ HB.out.1).mono ?_;rintro e w2 ⟨hb,hq,v,rfl,rfl⟩;have HB2:=aA (aI hq hb);obtain⟨pb,gb⟩:=hq.gB;clear hb hq)|(go_at_call 50;refine(IE _ _ _).mono ?_;rintro e w3 ⟨rfl,rfl⟩))
    exact⟨rfl,(HB.out.2.then HB2.out.2 HB.out.2.size).then (Below.x (bA _ _) _ (nR _)) (Nat.le_trans HB.out.2.size HB2.out.2.size),⟨_,rfl⟩⟩
def pH(B:Nat)(x:Nd)(v:Value)(w':World):Prop:=∃(s0 s1:ByteArray) (n2:Int) (ka:Option Addr) (kn kc:Nat),v=.agg #[.string s0,.string s1,.int .i64 n2,.slice ka kn kc]∧NL w' (fun b=>B≤b) (nv (.string s0) (.string s1) (.int .i64 n2) (.slice ka kn kc)) x
def QRule(L:List Tok)(rp tb:Nat)(fn:FuncId)(P:Nat→Nat→PR Nd):Prop:=∀(w:World) (k n:Nat),QS L rp tb w k n→P k n≠.out→Calls Tryz.prog fn #[.pointer (some ⟨rp,0,none⟩)] w fun e w'=>QEnd L rp tb w (P k n) (fun x v w'=>pH w.heap.size x v w') e w'
structure StartQ(w W1:World):Prop where
 blk:W1.heap[w.heap.size]?=some (.cells #[.string ⟨#[]⟩,.string ⟨#[]⟩,.int .i64 0,.slice none 0 0] 25 (0,0))
 bel:Below w.heap.size w W1
 lt:w.heap.size<W1.heap.size
theorem StartQ.new(w:World):StartQ w (w.alloc (.cells #[.string ⟨#[]⟩,.string ⟨#[]⟩,.int .i64 0,.slice none 0 0] 25)):=
 ⟨heap_alloc_new _ _,bA _ _,by simp⟩
theorem VD{L:List Tok}{rp tb:Nat}{w W:World}{k n:Nat}{x:Nd}{s0 s1:ByteArray}{n2:Int}{ka:Option Addr}{kn kc:Nat}(lo:Lows rp tb w.heap.size)(hB:BelX w.heap.size rp w W)(hq:QS L rp tb W k n)
 (h:NL W (fun b=>w.heap.size<b) (nv (.string s0) (.string s1) (.int .i64 n2) (.slice ka kn kc)) x):
 QEnd L rp tb w (.ok x k n) (fun x v w'=>pH w.heap.size x v w') (.returned (.agg #[.string s0,.string s1,.int .i64 n2,.slice ka kn kc])) ((((W.setCell ⟨w.heap.size,0,none⟩ (.string s0)).setCell ⟨w.heap.size,1,none⟩ (.string s1)).setCell ⟨w.heap.size,2,none⟩ (.int .i64 n2)).setCell ⟨w.heap.size,3,none⟩ (.slice ka kn kc)):=by
 refine⟨SG hB _ _ _ _,hq.keep lo (fun b hb=>pG _ _ _ _ (by omega)),_,rfl,s0,s1,n2,ka,kn,kc,rfl,h.step fun b _ hp=>⟨pG _ _ _ _ (by omega),by omega⟩⟩
theorem KN{L:List Tok}{rp tb:Nat}{w W WF:World}{k n:Nat}{x:Nd}{s0 s1:ByteArray}{n2:Int}{ka:Option Addr}{kn kc:Nat}(lo:Lows rp tb w.heap.size)(hB:BelX w.heap.size rp w W)(hq:QS L rp tb W k n)(hF:Below w.heap.size W WF)
 (h:NL WF (fun b=>w.heap.size≤b) (nv (.string s0) (.string s1) (.int .i64 n2) (.slice ka kn kc)) x) {R:PR Nd} (hR:R=.ok x k n):
 QEnd L rp tb w R (fun x v w'=>pH w.heap.size x v w') (.returned (.agg #[.string s0,.string s1,.int .i64 n2,.slice ka kn kc])) WF:=by
 subst hR
 exact⟨hB.then (Below.x hF rp (nR _)) (nR _),hq.keep lo (fun b hb=>hF.block b hb),_,rfl,s0,s1,n2,ka,kn,kc,rfl,h⟩
theorem rE{W:World}{g:Nat}{cs:Array Value}{t:TypeId}(h:W.heap.size=g):(W.alloc (.cells cs t)).heap[g]?=some (.cells cs t (0,0)):=by
 subst h
 exact heap_alloc_new _ _
theorem BG{W:World}{g:Nat}{a b c d:Value}{t:TypeId}(h:W.heap[g]?=some (.cells #[a,b,c,d] t (0,0))):∀q,q<4→W.cell? ⟨g,q,none⟩=some (nv a b c d q):=by
 intro q hq
 obtain⟨h0,h1,h2,h3,_⟩:=tA h
 rcases (show q=0∨q=1∨q=2∨q=3 by omega) with rfl|rfl|rfl|rfl
 ·exact h0
 ·exact h1
 ·exact h2
 ·exact h3
theorem rG{L:List Tok}{rp tb:Nat}:Hid (∀(W:World) (k n:Nat),QS L rp tb W k n→Calls Tryz.prog 36 #[.pointer (some ⟨rp,0,none⟩)] W fun e w'=>QEnd L rp tb W (oB L k n) (fun x v _=>v=.string x) e w'):=fun _ _ _ hq=>LM hq
theorem sG{L:List Tok}{rp tb:Nat}(s:ByteArray)(hs:s.size≠0):Hid (∀(W:World) (k n:Nat),QS L rp tb W k n→Calls Tryz.prog 39 #[.pointer (some ⟨rp,0,none⟩),.string s] W fun e w'=>QEnd L rp tb W (bB L s k n) (fun _ v _=>v=.tuple #[]) e w'):=fun _ _ _ hq=>MM hq s hs
theorem wT{L:List Tok}{rp tb:Nat}:QRule L rp tb 156 (JD L):=by
 intro w k n h hn
 have lo:=h.lows
 obtain⟨R,hR⟩:∃R,R=JD L k n:=⟨_,rfl⟩
 rw[←hR] at hn ⊢
 obtain⟨W1,hW1⟩:∃W1,W1=w.alloc (.cells #[.string ⟨#[]⟩,.string ⟨#[]⟩,.int .i64 0,.slice none 0 0] 25):=⟨_,rfl⟩
 have hst:StartQ w W1:=by rw[hW1];exact StartQ.new w
 have HN:=rG (L:=L) (rp:=rp) (tb:=tb)
 have HE:=sG (L:=L) (rp:=rp) (tb:=tb) ⟨#[111,102]⟩ (by decide)
 have HX:=aA hW1
 have HR:Hid (R=(oB L k n).bind fun w k n=>(bB L ⟨#[111,102]⟩ k n).bind fun _ k n=>(oB L k n).bind fun o k n=>.ok (.mk wTotal w 0 [.mk qB o 0 []]) k n):=hR
 have HT:=aA hst
 have HL:=aA lo
 have HQ1:=aA (aI (h.below hst.bel) (Below.x hst.bel rp (nR _)))
 have hs1:=hst.lt
 clear h hW1 hst hR hn lo
 go_enter Tryz.func156,Tryz.ntmps156
 go_upto_region 2 with (first|(rw[←HX.out];go_at_call 36;refine(HN.out _ _ _ HQ1.out.1).mono ?_;rintro e W2 hE;rcases hr:oB L k n with _|⟨c,a⟩|⟨x1,k1,n1⟩;(·exact absurd hr aC);(·rw[hr] at hE;obtain⟨hb,⟨p,rfl⟩⟩:=hE;obtain rfl:R=.bad c a:=(by rw[HR.out,hr,PR.bind_bad]);exact(show _∧_ from⟨rfl,HQ1.out.2.then hb HQ1.out.2.size,⟨_,rfl⟩⟩));rw[hr] at hE;obtain⟨hb,hq,v,rfl,rfl⟩:=hE;rw[hr,PR.bind_ok] at HR;have HQ2:=aA (aI hq (HQ1.out.2.then hb HQ1.out.2.size));have hr2:=HT.out.blk;have HG2:=aA ((hb.block _ hs1 (fun e=>by have:=HL.out.r;omega)).trans HT.out.blk);have hs2:=hb.size;clear hb hq hr))
 obtain⟨V2,hV2⟩:∃V2,V2=W2.alloc (.cells #[.string ⟨#[116,111,116,97,108]⟩,.string x1,.int .i64 0,.slice none 0 0] 25):=⟨_,rfl⟩
 rw[←hV2]
 have hv2:Below W2.heap.size W2 V2:=by rw[hV2];exact bA _ _
 have hn2:V2.heap[W2.heap.size]?=some (.cells #[.string ⟨#[116,111,116,97,108]⟩,.string x1,.int .i64 0,.slice none 0 0] 25 (0,0)):=by rw[hV2];exact heap_alloc_new _ _
 have hl2:W2.heap.size<V2.heap.size:=by rw[hV2];simp
 have HV2:=aA (aI (HQ2.out.1.below hv2) (aI (HQ2.out.2.then (Below.x hv2 rp (nR _)) HQ2.out.2.size) (aI hn2 ((hv2.block _ (by omega)).trans HG2.out))))
 generalize W2.heap.size=g3 at *
 clear hV2 hv2 hn2 HQ2 HG2
 go_upto_region 3 with (first|(go_at_call 39;refine(HE.out _ _ _ HV2.out.1).mono ?_;rintro e W3 hE;rcases hr:bB L ⟨#[111,102]⟩ k1 n1 with _|⟨c,a⟩|⟨x2,k2,n2⟩;(·exact absurd hr bC);(·rw[hr] at hE;obtain⟨hb,⟨p,rfl⟩⟩:=hE;obtain rfl:R=.bad c a:=(by rw[HR.out,hr,PR.bind_bad]);exact(show _∧_ from⟨rfl,HV2.out.2.1.then hb HV2.out.2.1.size,⟨_,rfl⟩⟩));rw[hr] at hE;obtain⟨hb,hq,v,rfl,rfl⟩:=hE;rw[hr,PR.bind_ok] at HR;have HQ3:=aA (aI hq (aI (HV2.out.2.1.then hb HV2.out.2.1.size) (aI ((hb.block _ hl2 (fun e=>by have:=HL.out.r;omega)).trans HV2.out.2.2.1) ((hb.block _ (by omega) (fun e=>by have:=HL.out.r;omega)).trans HV2.out.2.2.2))));have hs3:=hb.size;clear hb hq hr))
 clear HV2
 go_wp2_with (first|(go_at_call 36;refine(HN.out _ _ _ HQ3.out.1).mono ?_;rintro e W4 hE;rcases hr:oB L k2 n2 with _|⟨c,a⟩|⟨x3,k3,n3⟩;(·exact absurd hr aC);(·rw[hr] at hE;obtain⟨hb,⟨p,rfl⟩⟩:=hE;obtain rfl:R=.bad c a:=(by rw[HR.out,hr,PR.bind_bad]);exact(show _∧_ from⟨rfl,HQ3.out.2.1.then hb HQ3.out.2.1.size,⟨_,rfl⟩⟩));rw[hr] at hE;obtain⟨hb,hq,v,rfl,rfl⟩:=hE;rw[hr,PR.bind_ok] at HR;have h3:=(hb.block _ (by omega) (fun e=>by have:=HL.out.r;omega)).trans HQ3.out.2.2.1;have h0:=(hb.block _ (by omega) (fun e=>by have:=HL.out.r;omega)).trans HQ3.out.2.2.2;obtain⟨z0,z1,z2,z3,zf⟩:=tA h3;obtain⟨q0,q1,q2,q3,qf⟩:=tA h0;have HQ4:=aA (aI hq (aI (HQ3.out.2.1.then hb HQ3.out.2.1.size) (aI h3 h0)));have hs4:=hb.size;have hl4:g3<W4.heap.size:=(by omega);have hl5:w.heap.size<W4.heap.size:=(by omega);have hne:¬g3=w.heap.size:=(by omega);clear hb hq hr h3 h0))
 refine bodyPost_ret (v:=.agg #[.string ⟨#[116,111,116,97,108]⟩,.string x1,.int .i64 0,.slice (some ⟨W4.heap.size,0,none⟩) 1 1]) (by simp[results,Tryz.results156,go_sem,q0,q1,q2,q3,hl5]) rfl ?_
 refine KN HL.out HQ4.out.2.1 HQ4.out.1 ?_ ?_ HR.out
 ·exact(((((((Below.refl w.heap.size W4).setCell (by show w.heap.size≤g3;omega) _).setCell (nR _) _).setCell (nR _) _).setCell (nR _) _).setCell (nR _) _).alloc (by simp;omega) _)
 ·exact NL.one (NL.leaf _ _ qB x3 0) (by omega) (BG (rE (by simp))) wTotal x1 0
theorem gC{ls:List ByteArray}{s:ByteArray}(l:List UInt8)(h:(s.toList==l)=true)(x:ByteArray)(hx:x∈ls)(hl:x.data.toList=l):(iA ls s).isSome=true:=by
 unfold iA
 rw[List.findIdx?_isSome,List.any_eq_true]
 refine⟨x,hx,?_⟩
 have e1:s.toList=l:=by simpa using h
 unfold vA
 rw[e1,Lib.toList_data,hl];simp
theorem eH{ls:List ByteArray}{s:ByteArray}(h:∀x,x∈ls→(s.toList==x.data.toList)=false):(iA ls s).isSome=false:=by
 unfold iA
 rw[List.findIdx?_isSome,List.any_eq_false]
 intro x hx
 have:=h x hx
 unfold vA
 rw[Lib.toList_data x,show (x.data.toList==s.toList)=(s.toList==x.data.toList) from Bool.beq_comm,this]
 simp
theorem dI(s:ByteArray)(w:World):
 Calls Tryz.prog 124 #[.string s] w fun e w'=>e=.returned (.bool (iA ordersW s).isSome)∧w'=w:=by
 obtain⟨O,hO⟩:∃O,O=(iA ordersW s).isSome:=⟨_,rfl⟩
 rw[←hO]
 have HO:=aA hO
 clear hO
 cases h0:(s.toList==[60])
 rotate_left
 ·go_enter Tryz.func124,Tryz.ntmps124
  go_wp2
  go_ret
  exact⟨CB (by rw[HO.out,gC _ h0 (sg 60) (by simp[ordersW]) rfl]),rfl⟩
 cases h1:(s.toList==[60,61])
 rotate_left
 ·go_enter Tryz.func124,Tryz.ntmps124
  go_wp2
  go_ret
  exact⟨CB (by rw[HO.out,gC _ h1 (mT 60 61) (by simp[ordersW]) rfl]),rfl⟩
 cases h2:(s.toList==[61])
 rotate_left
 ·go_enter Tryz.func124,Tryz.ntmps124
  go_wp2
  go_ret
  exact⟨CB (by rw[HO.out,gC _ h2 (sg 61) (by simp[ordersW]) rfl]),rfl⟩
 cases h3:(s.toList==[60,62])
 rotate_left
 ·go_enter Tryz.func124,Tryz.ntmps124
  go_wp2
  go_ret
  exact⟨CB (by rw[HO.out,gC _ h3 (mT 60 62) (by simp[ordersW]) rfl]),rfl⟩
 cases h4:(s.toList==[62,61])
 rotate_left
 ·go_enter Tryz.func124,Tryz.ntmps124
  go_wp2
  go_ret
  exact⟨CB (by rw[HO.out,gC _ h4 (mT 62 61) (by simp[ordersW]) rfl]),rfl⟩
 cases h5:(s.toList==[62])
 rotate_left
 ·go_enter Tryz.func124,Tryz.ntmps124
  go_wp2
  go_ret
  exact⟨CB (by rw[HO.out,gC _ h5 (sg 62) (by simp[ordersW]) rfl]),rfl⟩
 have HG:Hid ((iA ordersW s).isSome=false):=eH (by
  intro x hx
  simp only[ordersW,List.mem_cons,List.not_mem_nil,or_false] at hx
  rcases hx with rfl|rfl|rfl|rfl|rfl|rfl
  ·exact h0
  ·exact h1
  ·exact h2
  ·exact h3
  ·exact h4
  ·exact h5)
 go_enter Tryz.func124,Tryz.ntmps124
 go_wp2
 go_ret
 exact⟨CB (by rw[HO.out,HG.out]),rfl⟩
theorem IM(s:ByteArray)(w:World):
 Calls Tryz.prog 163 #[.string s] w fun e w'=>e=.returned (.bool (iA ZE s).isSome)∧w'=w:=by
 obtain⟨O,hO⟩:∃O,O=(iA ZE s).isSome:=⟨_,rfl⟩
 rw[←hO]
 have HO:=aA hO
 clear hO
 cases h0:(s.toList==[43])
 rotate_left
 ·go_enter Tryz.func163,Tryz.ntmps163
  go_wp2
  go_ret
  exact⟨CB (by rw[HO.out,gC _ h0 (sg 43) (by simp[ZE]) rfl]),rfl⟩
 cases h1:(s.toList==[45])
 rotate_left
 ·go_enter Tryz.func163,Tryz.ntmps163
  go_wp2
  go_ret
  exact⟨CB (by rw[HO.out,gC _ h1 (sg 45) (by simp[ZE]) rfl]),rfl⟩
 cases h2:(s.toList==[42])
 rotate_left
 ·go_enter Tryz.func163,Tryz.ntmps163
  go_wp2
  go_ret
  exact⟨CB (by rw[HO.out,gC _ h2 (sg 42) (by simp[ZE]) rfl]),rfl⟩
 have HG:Hid ((iA ZE s).isSome=false):=eH (by
  intro x hx
  simp only[ZE,List.mem_cons,List.not_mem_nil,or_false] at hx
  rcases hx with rfl|rfl|rfl
  ·exact h0
  ·exact h1
  ·exact h2)
 go_enter Tryz.func163,Tryz.ntmps163
 go_wp2
 go_ret
 exact⟨CB (by rw[HO.out,HG.out]),rfl⟩
theorem sS{L:List Tok}{rp tb:Nat}{w:World}{k n:Nat}(h:QS L rp tb w k n):
 Calls Tryz.prog 153 #[.pointer (some ⟨rp,0,none⟩)] w fun e w'=>e=.returned (.bool (sF L k))∧Below w.heap.size w w':=by
 obtain⟨m,c,hm,h1,hc,h4,x0,x1,xf⟩:=h.cells
 obtain⟨y0,y1,y2⟩:=h.tokens
 have HN:=aA (qL (cA L k) (fun hw=>h.sized (by rw[hw];intro e;cases e)))
 rw[←aJ] at HN
 unfold GF at HN
 have HA:Hid (sF L k=(dD L k&&(iA ordersW (cA L (k+1)).text).isNone&&(iA ZE (cA L (k+1)).text).isNone)):=rfl
 cases hk:dD L k with
 |false=>
  rw[hk] at HN HA
  clear h hk
  generalize sF L k=O at *
  generalize kN (cA L k).kind=K0 at *
  generalize (cA L k).text=K1 at *
  generalize (cA L k).pos=K2 at *
  go_enter Tryz.func153,Tryz.ntmps153
  go_wp2_with (go_at_call 78;refine(HN.out _).mono ?_;rintro e w' ⟨rfl,hb⟩;have HB:=aA hb;clear hb)
  go_ret
  exact⟨CB (by rw[HA.out];rfl),HB.out⟩
 |true=>
  have hw:(cA L k).kind=.w:=by
   unfold dD at hk
   simp only[Bool.and_eq_true,decide_eq_true_eq] at hk
   exact hk.1
  have hk1:=h.moreK (by rw[hw];intro e;cases e)
  have t1:=h.tok (k+1) _ (vC hk1) 1 (by omega)
  have hm2:2≤m:=by omega
  have e1:(k+1) * 3+1=k * 3+3+1:=by omega
  rw[e1] at t1
  have y3:w.cell? ⟨tb,k * 3+3+1,none⟩=some (.string (cA L (k+1)).text):=t1
  rw[hk] at HN HA
  have HO:=aA (dI (cA L (k+1)).text)
  have HS:=aA (IM (cA L (k+1)).text)
  have HP:=aA (aI h (aI y3 x0))
  clear h hk hw t1 e1 hk1
  have i1:∀o:Option Nat,o.isNone=!o.isSome:=fun o=>by cases o<;>rfl
  rw[i1,i1] at HA
  clear i1
  generalize sF L k=O at *
  generalize (iA ordersW (cA L (k+1)).text).isSome=B1 at *
  generalize (iA ZE (cA L (k+1)).text).isSome=B2 at *
  generalize kN (cA L k).kind=K0 at *
  generalize (cA L k).text=K1 at *
  generalize (cA L (k+1)).text=K3 at *
  generalize (cA L k).pos=K2 at *
  cases B1
  all_goals (
   go_enter Tryz.func153,Tryz.ntmps153
   go_wp2_with (first|(go_at_call 78;refine(HN.out _).mono ?_;rintro e w' ⟨rfl,hb⟩;have x0':=(hb.cell (p:=⟨rp,0,none⟩) HP.out.1.in).trans HP.out.2.2;have y3':=(hb.cell (p:=⟨tb,k * 3+3+1,none⟩) HP.out.1.tin).trans HP.out.2.1;have HB:=aA hb;clear hb)|(go_at_call 124;refine(HO.out _).mono ?_;rintro e w2 ⟨rfl,rfl⟩)|(go_at_call 163;refine(HS.out _).mono ?_;rintro e w3 ⟨rfl,rfl⟩))
   go_ret
   exact⟨CB (by rw[HA.out];simp),HB.out⟩)
theorem wH{W:World}{g:Nat}{a b c d a' b' c' d':Value}{t:TypeId}(h:W.heap[g]?=some (.cells #[a,b,c,d,a',b',c',d'] t (0,0))):(∀q,q<4→W.cell? ⟨g,q,none⟩=some (nv a b c d q))∧∀q,q<4→W.cell? ⟨g,4+q,none⟩=some (nv a' b' c' d' q):=by
 constructor
 ·intro q hq
  unfold World.cell?
  rw[h]
  rcases (show q=0∨q=1∨q=2∨q=3 by omega) with rfl|rfl|rfl|rfl<;>rfl
 ·intro q hq
  unfold World.cell?
  rw[h]
  rcases (show q=0∨q=1∨q=2∨q=3 by omega) with rfl|rfl|rfl|rfl<;>rfl
theorem QRule.at{L:List Tok}{rp tb:Nat}{fn:FuncId}{P:Nat→Nat→PR Nd}(h:QRule L rp tb fn P){W V:World}{k n:Nat}(hq:QS L rp tb W k n)(hn:P k n≠.out)(hb:Below W.heap.size W V):Calls Tryz.prog fn #[.pointer (some ⟨rp,0,none⟩)] V fun e w'=>QEnd L rp tb W (P k n) (fun x v w'=>pH W.heap.size x v w') e w':=by
 refine(h V k n (hq.below hb) hn).mono ?_
 intro e w' hE
 obtain⟨h1,h2⟩:=hE
 refine⟨(Below.x hb rp (nR _)).then h1 hb.size,?_⟩
 revert h2
 cases P k n with
 |out=>exact fun h=>h
 |bad c a=>exact fun h=>h
 |ok x k n=>
  rintro ⟨h3,v,h4,s0,s1,n2,ka,kn,kc,h5,h6⟩
  exact⟨h3,v,h4,s0,s1,n2,ka,kn,kc,h5,h6.step fun b _ hp=>⟨rfl,Nat.le_trans hb.size hp⟩⟩
theorem AO{L:List Tok}{rp tb f:Nat}(h1:QRule L rp tb 84 (GC L f)):QRule L rp tb 154 (DC L (f+1)):=by
 intro w k n h hn
 have lo:=h.lows
 obtain⟨R,hR⟩:∃R,R=DC L (f+1) k n:=⟨_,rfl⟩
 rw[←hR] at hn ⊢
 rw[DC] at hR
 obtain⟨W1,hW1⟩:∃W1,W1=w.alloc (.cells #[.string ⟨#[]⟩,.string ⟨#[]⟩,.int .i64 0,.slice none 0 0] 25):=⟨_,rfl⟩
 have hst:StartQ w W1:=by rw[hW1];exact StartQ.new w
 have H1:=aA h1
 have HX:=aA hW1
 have HR:=aA hR
 have HNo:=aA hn
 have HT:=aA hst
 have HL:=aA lo
 have HQ1:=aA (aI (h.below hst.bel) (Below.x hst.bel rp (nR _)))
 have hs1:=hst.lt
 clear h hW1 hst hR hn lo h1
 go_enter Tryz.func154,Tryz.ntmps154
 go_upto_region 2 with (rw[←HX.out];go_at_call 84;refine(H1.out _ _ _ HQ1.out.1 (PR.bind_not (HR.out▸HNo.out))).mono ?_;rintro e W2 hE;rcases hr:GC L f k n with _|⟨c,a⟩|⟨x1,k1,n1⟩;(·exact absurd hr (PR.bind_not (HR.out▸HNo.out)));(·rw[hr] at hE;obtain⟨hb,⟨p,rfl⟩⟩:=hE;obtain rfl:R=.bad c a:=(by rw[HR.out,hr,PR.bind_bad]);exact(show _∧_ from⟨rfl,HQ1.out.2.then hb HQ1.out.2.size,⟨_,rfl⟩⟩));rw[hr] at hE;obtain⟨hb,hq,v,rfl,s0,s1,i2,ka,kn,kc,rfl,hN⟩:=hE;rw[hr,PR.bind_ok] at HR;have HQ2:=aA (aI hq (aI (HQ1.out.2.then hb HQ1.out.2.size) (aI ((hb.block _ hs1 (fun e=>by have:=HL.out.r;omega)).trans HT.out.blk) hN)));have hs2:=hb.size;clear hb hq hr hN)
 obtain⟨V2,hV2⟩:∃V2,V2=W2.alloc (.cells #[.string s0,.string s1,.int .i64 i2,.slice ka kn kc] 25):=⟨_,rfl⟩
 rw[←hV2]
 have hv2:Below W2.heap.size W2 V2:=by rw[hV2];exact bA _ _
 have hn2:V2.heap[W2.heap.size]?=some (.cells #[.string s0,.string s1,.int .i64 i2,.slice ka kn kc] 25 (0,0)):=by rw[hV2];exact heap_alloc_new _ _
 have hl2:W2.heap.size<V2.heap.size:=by rw[hV2];simp
 have hqv:=HQ2.out.1.below hv2
 have HV2:=aA (aI hqv (aI (HQ2.out.2.1.then (Below.x hv2 rp (nR _)) HQ2.out.2.1.size) (aI hn2 (aI ((hv2.block _ (by omega)).trans HQ2.out.2.2.1) (HQ2.out.2.2.2.step (P':=fun b=>w.heap.size<b∧b≠W2.heap.size) fun b hb hp=>⟨hv2.block b hb,by omega,by omega⟩)))))
 generalize W2.heap.size=g3 at *
 obtain⟨m,c,hm,hm1,hc,h4,x0,y1,xf⟩:=hqv.cells
 obtain⟨y0,yt,y2⟩:=hqv.tokens
 have HO:=aA (dI (cA L k1).text)
 clear hV2 hv2 hn2 HQ2 hqv
 cases ho:(iA ordersW (cA L k1).text).isSome with
 |false=>
  rw[ho] at HO
  rw[ho,if_neg (by simp)] at HR
  obtain⟨pt,gt⟩:=HV2.out.1.gT
  generalize (cA L k1).text=K1 at *
  go_wp2_with (first|(go_at_call 124;refine(HO.out _).mono ?_;rintro e w3 ⟨rfl,rfl⟩)|(go_at_call 44;refine(FD HV2.out.1 _ _).mono ?_;rintro e w4 ⟨⟨p,rfl⟩,hb⟩;have HB:=aA hb;clear hb))
  obtain rfl:R=.bad 0 0:=HR.out
  exact⟨rfl,HV2.out.2.1.then (Below.x HB.out _ (nR _)) HV2.out.2.1.size,⟨_,rfl⟩⟩
 |true=>
  have hsz:(cA L k1).text.size≠0:=by
   intro h0
   unfold iA at ho
   rw[List.findIdx?_isSome,List.any_eq_true] at ho
   obtain⟨x,hx,he⟩:=ho
   have e1:x.toList=(cA L k1).text.toList:=by unfold vA at he;simpa using he
   have e2:=congrArg List.length e1
   simp only[Lib.toList_data,Array.length_toList] at e2
   have e3:x.data.size=0:=e2.trans h0
   simp only[ordersW,List.mem_cons,List.not_mem_nil,or_false] at hx
   rcases hx with rfl|rfl|rfl|rfl|rfl|rfl<;>exact absurd e3 (by decide)
  have hk2:=HV2.out.1.more hsz
  rw[ho] at HO
  rw[ho,if_pos rfl] at HR
  have HS:=aA (ZF HV2.out.1 hk2)
  clear ho hsz
  generalize (cA L k1).text=K1 at *
  go_upto_region 5 with (first|(go_at_call 124;refine(HO.out _).mono ?_;rintro e w3 ⟨rfl,rfl⟩)|(go_at_call 35;refine HS.out.mono ?_;rintro e W3 ⟨rfl,hq,hb⟩;have hs3:=hb.size;have h3:=(hb.block g3 hl2 (fun e=>by have:=HL.out.r;omega)).trans HV2.out.2.2.1;have h0:=(hb.block w.heap.size (by omega) (fun e=>by have:=HL.out.r;omega)).trans HV2.out.2.2.2.1;have hN:=HV2.out.2.2.2.2.step (P':=fun b=>w.heap.size<b∧b≠g3) (fun b hb' hp=>⟨hb.block b hb' (fun e=>by have:=HL.out.r;omega),hp⟩);have HQ3:=aA (aI hq (aI (HV2.out.2.1.then hb HV2.out.2.1.size) (aI h3 (aI h0 hN))));obtain⟨z0,z1,z2,z3,zf⟩:=tA h3;obtain⟨q0,q1,q2,q3,qf⟩:=tA h0;clear hb hq h3 h0 hN))
  have HS2:=aA (fun (V:World) (hb:Below W3.heap.size W3 V)=>H1.out.at HQ3.out.1 (PR.bind_not (HR.out▸HNo.out)) hb)
  clear HV2 y0 yt y2 x0 y1 xf HO HS
  go_region_with (go_at_call 84;refine(HS2.out _ ?_).mono ?_;(·first|exact Below.refl _ _|exact(Below.refl _ _).drew|exact ME (Below.refl _ _) _);rintro e W4 hE;rcases hr:GC L f (k1+1) n1 with _|⟨c,a⟩|⟨x2,k2,n2⟩;(·exact absurd hr (PR.bind_not (HR.out▸HNo.out)));(·rw[hr] at hE;obtain⟨hb,⟨p,rfl⟩⟩:=hE;obtain rfl:R=.bad c a:=(by rw[HR.out,hr,PR.bind_bad]);exact(show _∧_ from⟨rfl,HQ3.out.2.1.then hb HQ3.out.2.1.size,⟨_,rfl⟩⟩));rw[hr] at hE;obtain⟨hb,hq,v,rfl,t0,t1,j2,la,ln,lc,rfl,hN⟩:=hE;rw[hr,PR.bind_ok] at HR;have hs4:=hb.size;have h3:=(hb.block g3 (by omega) (fun e=>by have:=HL.out.r;omega)).trans HQ3.out.2.2.1;have h0:=(hb.block w.heap.size (by omega) (fun e=>by have:=HL.out.r;omega)).trans HQ3.out.2.2.2.1;have hN':=HQ3.out.2.2.2.2.step (P':=fun b=>w.heap.size<b∧b≠g3) (fun b hb' hp=>⟨hb.block b hb' (fun e=>by have:=HL.out.r;omega),hp⟩);have HQ4:=aA (aI hq (aI (HQ3.out.2.1.then hb HQ3.out.2.1.size) (aI hN' hN)));obtain⟨z0',z1',z2',z3',zf'⟩:=tA h3;obtain⟨q0',q1',q2',q3',qf'⟩:=tA h0;have hl5:w.heap.size<W4.heap.size:=(by omega);clear hb hq h3 h0 hN hN' hr)
  all_goals (
   go_wp2
   refine bodyPost_ret (v:=.agg #[.string K1,.string ⟨#[]⟩,.int .i64 0,.slice (some ⟨W4.heap.size,0,none⟩) 2 2]) (by simp[results,Tryz.results154,go_sem,q0',q1',q2',q3',hl5]) rfl ?_
   have hF:Below w.heap.size W4 (((((W4.setCell ⟨w.heap.size,0,none⟩ (.string K1)).setCell ⟨w.heap.size,1,none⟩ (.string ⟨#[]⟩)).setCell ⟨w.heap.size,2,none⟩ (.int .i64 0)).setCell ⟨w.heap.size,3,none⟩ (.slice (some ⟨W4.heap.size,0,none⟩) 2 2)).alloc (.cells #[.string s0,.string s1,.int .i64 i2,.slice ka kn kc,.string t0,.string t1,.int .i64 j2,.slice la ln lc] 25)):=(((((Below.refl w.heap.size W4).setCell (nR _) _).setCell (nR _) _).setCell (nR _) _).setCell (nR _) _).alloc (by simp;omega) _
   have h8:=wH (rE (W:=(((W4.setCell ⟨w.heap.size,0,none⟩ (.string K1)).setCell ⟨w.heap.size,1,none⟩ (.string ⟨#[]⟩)).setCell ⟨w.heap.size,2,none⟩ (.int .i64 0)).setCell ⟨w.heap.size,3,none⟩ (.slice (some ⟨W4.heap.size,0,none⟩) 2 2)) (g:=W4.heap.size) (cs:=#[.string s0,.string s1,.int .i64 i2,.slice ka kn kc,.string t0,.string t1,.int .i64 j2,.slice la ln lc]) (t:=25) (by simp))
   have hold:∀b,b<W4.heap.size→b≠w.heap.size→(((((W4.setCell ⟨w.heap.size,0,none⟩ (.string K1)).setCell ⟨w.heap.size,1,none⟩ (.string ⟨#[]⟩)).setCell ⟨w.heap.size,2,none⟩ (.int .i64 0)).setCell ⟨w.heap.size,3,none⟩ (.slice (some ⟨W4.heap.size,0,none⟩) 2 2)).alloc (.cells #[.string s0,.string s1,.int .i64 i2,.slice ka kn kc,.string t0,.string t1,.int .i64 j2,.slice la ln lc] 25)).heap[b]?=W4.heap[b]?:=fun b hb hne=>by
    rw[(bA _ _).block b (by simp;omega)]
    exact pG _ _ _ _ hne
   refine KN HL.out HQ4.out.2.1 HQ4.out.1 hF ?_ HR.out
   exact NL.two (HQ4.out.2.2.1.step fun b hb hp=>⟨hold b hb (by omega),by omega⟩) (HQ4.out.2.2.2.step fun b hb hp=>⟨hold b hb (by omega),by omega⟩) (by omega) h8.1 h8.2 K1 ⟨#[]⟩ 0)
end Go.Proofs.YtehbinobohjadaaGreatDoor
