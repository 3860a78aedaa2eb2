import Derived.Test.YtpbolcjcmkmalaaGreatDoorAq00
import Derived.Test.YtpbolcjcmkmalaaGreatDoorAq09
import Derived.Test.YtpbolcjcmkmalaaGreatDoorAq21
import Derived.Deep.Upon
import Derived.OrdersHeld
import Derived.Test.YtpbolcjcmkmalaaGreatDoorAq24
import Derived.Test.YtpbolcjcmkmalaaGreatDoorAq23
import Derived.Test.YtpbolcjcmkmalaaGreatDoorAq14
set_option maxHeartbeats 20000000
set_option maxRecDepth 20000
namespace Go.Proofs.YtpbolcjcmkmalaaGreatDoor
open Go.RowKit Go.Extern.Stop Go.Stop Go.Extern
theorem MK(s:ByteArray)(hs:s.size≤100000)(w:World):Calls Tryz.prog 87 #[.string s] w fun e w'=>e=.returned (.bool (plainB s))∧w'=w:=by
 go_enter Tryz.func87,Tryz.ntmps87
 go_wp2_with fail
 go_loop [3] (fun t=>∃i:Nat,i≤s.size∧t=.int .i64 i∧Hid (AllP pI s 0 i)) (fun t=>(s.size - RowKit.intOf t).toNat)
 case atStart=>exact⟨0,by omega,rfl,fun i _ _ h=>by omega⟩
 case round=>
  obtain⟨i,hi,rfl,HA⟩:=hrel
  by_cases hin:i<s.size
  ·have hiz:(i:Int)<s.size:=by omega
   cases ho:pI s[i].toNat
   ·have HP:=aA (DJ i hin ho)
    rcases Nat.lt_or_ge s[i].toNat 32 with h1|h1
    ·have h1z:((s[i].toNat:Nat):Int)<32:=by omega
     have h1d:decide (((s[i].toNat:Nat):Int)<32)=true:=by simpa using h1z
     clear h1z
     clear ho
     go_wp2
     go_ret
     exact⟨rC HP.out.symm,rfl⟩
    ·have h2:126<s[i].toNat:=by
      rcases Nat.lt_or_ge 126 s[i].toNat with h|h
      ·exact h
      ·rw[okN_iff.2 ⟨h1,h⟩] at ho;cases ho
     have h1d:decide (((s[i].toNat:Nat):Int)<32)=false:=by simp;omega
     have h2z:(126:Int)<((s[i].toNat:Nat):Int):=by omega
     clear ho
     go_wp2
     go_ret
     exact⟨rC HP.out.symm,rfl⟩
   ·obtain⟨h1,h2⟩:=okN_iff.1 ho
    have h1d:decide (((s[i].toNat:Nat):Int)<32)=false:=by simp;omega
    have h2z:((s[i].toNat:Nat):Int)≤126:=by omega
    have HA2:Hid (AllP pI s 0 (i+1)):=HA.out.snoc hin ho
    clear ho
    go_wp2
    go_round
    case rel=>exact⟨i+1,by omega,by go_num,HA2⟩
    case measure=>simp[RowKit.intOf];omega
  ·obtain rfl:i=s.size:=by omega
   go_wp2
   go_ret
   exact⟨rC (KK HA.out).symm,rfl⟩
noncomputable def leB (s:ByteArray):Nat:=if 300<s.size then 2 else if lineB s=true then 0 else 1
theorem YM{s:ByteArray}(h0:0<s.size):edgeB s=(!(s[0].toNat==32)&&!(s[s.size - 1].toNat==32)):=by
 rw[Bool.eq_iff_iff,wE]
 unfold Edge
 have h1:(bl s).head?=some s[0]:=by rw[List.head?_eq_getElem?];exact WC s 0 h0
 have h2:(bl s).reverse.head?=some s[s.size - 1]:=by
  rw[List.head?_reverse,List.getLast?_eq_getElem?,oA];exact WC s (s.size - 1) (by omega)
 rw[h1,h2]
 simp only[Option.some.injEq,forall_eq',Bool.and_eq_true,Bool.not_eq_true',beq_eq_false_iff_ne,ne_eq]
 constructor
 ·rintro ⟨a,b⟩
  exact⟨fun e=>a (UInt8.toNat_inj.1 e),fun e=>b (UInt8.toNat_inj.1 e)⟩
 ·rintro ⟨a,b⟩
  exact⟨fun e=>a (by rw[e];rfl),fun e=>b (by rw[e];rfl)⟩
theorem kO{s:ByteArray}(h0:s.size=0):edgeB s=true:=by
 rw[wE]
 have:bl s=[]:=List.eq_nil_of_length_eq_zero (by rw[oA];exact h0)
 unfold Edge
 rw[this]
 simp
theorem lN{s:ByteArray}(h:s.size≤300):leB s=if (plainB s&&edgeB s)=true then 0 else 1:=by
 unfold leB lineB
 rw[if_neg (by omega)]
 simp[h]
theorem bJ{a b:Int}(h:a=b):Ending.returned (.int .i64 a)=.returned (.int .i64 b):=by rw[h]
theorem GB(s:ByteArray)(hs:s.size≤100000)(w:World):Calls Tryz.prog 38 #[.string s] w fun e w'=>e=.returned (.int .i64 (leB s))∧w'=w:=by
 have HPr:=aA (fun w=>MK s hs w)
 by_cases hl:300<s.size
 ·have hlz:(300:Int)<s.size:=by omega
  have HV:Hid (leB s=2):=by show _=_;unfold leB;rw[if_pos hl]
  go_enter Tryz.func38,Tryz.ntmps38
  go_wp2
  go_ret
  exact⟨bJ (by rw[HV.out];rfl),rfl⟩
 have hlz:(s.size:Int)≤300:=by omega
 have HV:=aA (lN (s:=s) (by omega))
 cases hp:plainB s
 ·rw[hp] at HPr HV
  have HV2:Hid (leB s=1):=HV.out
  clear hp HV
  go_enter Tryz.func38,Tryz.ntmps38
  go_wp2_with fail
  refine(HPr.out _).mono ?_
  rintro e w1 ⟨rfl,ew⟩
  subst w1
  go_wp2
  go_ret
  exact⟨bJ (by rw[HV2.out];rfl),rfl⟩
 ·rw[hp] at HPr HV
  clear hp
  by_cases h0:s.size=0
  ·have HV2:Hid (leB s=0):=by show _=_;rw[HV.out,kO h0];rfl
   have h0e:decide ((0:Int)<(s.size:Int))=false:=decide_eq_false (by omega)
   clear HV
   go_enter Tryz.func38,Tryz.ntmps38
   go_wp2_with fail
   refine(HPr.out _).mono ?_
   rintro e w1 ⟨rfl,ew⟩
   subst w1
   go_wp2
   go_ret
   exact⟨bJ (by rw[HV2.out];rfl),rfl⟩
  ·have h0p:0<s.size:=by omega
   have h0d:decide ((0:Int)<(s.size:Int))=true:=by simp;omega
   have hsub:(s.size:Int) - 1=((s.size - 1:Nat):Int):=by omega
   have hlt:s.size - 1<s.size:=by omega
   have hltz:((s.size - 1:Nat):Int)<(s.size:Int):=by omega
   have he:=YM h0p
   cases h1:(s[0].toNat==32)
   ·cases h2:(s[s.size - 1].toNat==32)
    ·have HV2:Hid (leB s=0):=by show _=_;rw[HV.out,he,h1,h2];rfl
     have h1z:(((s[0].toNat:Nat):Int)==32)=false:=by simp at h1 ⊢;omega
     have h2z:(((s[s.size - 1].toNat:Nat):Int)==32)=false:=by simp at h2 ⊢;omega
     clear HV he h1 h2 h0
     go_enter Tryz.func38,Tryz.ntmps38
     go_wp2_with fail
     refine(HPr.out _).mono ?_
     rintro e w1 ⟨rfl,ew⟩
     subst w1
     go_wp2
     go_ret
     exact⟨bJ (by rw[HV2.out];rfl),rfl⟩
    ·have HV2:Hid (leB s=1):=by show _=_;rw[HV.out,he,h1,h2];rfl
     have h1z:(((s[0].toNat:Nat):Int)==32)=false:=by simp at h1 ⊢;omega
     have h2z:(((s[s.size - 1].toNat:Nat):Int)==32)=true:=by simp at h2 ⊢;omega
     clear HV he h1 h2 h0
     go_enter Tryz.func38,Tryz.ntmps38
     go_wp2_with fail
     refine(HPr.out _).mono ?_
     rintro e w1 ⟨rfl,ew⟩
     subst w1
     go_wp2
     go_ret
     exact⟨bJ (by rw[HV2.out];rfl),rfl⟩
   ·have HV2:Hid (leB s=1):=by show _=_;rw[HV.out,he,h1];rfl
    have h1z:(((s[0].toNat:Nat):Int)==32)=true:=by simp at h1 ⊢;omega
    clear HV he h1 h0
    go_enter Tryz.func38,Tryz.ntmps38
    go_wp2_with fail
    refine(HPr.out _).mono ?_
    rintro e w1 ⟨rfl,ew⟩
    subst w1
    go_wp2
    go_ret
    exact⟨bJ (by rw[HV2.out];rfl),rfl⟩
theorem AG{w:World}{a:Option Addr}{ls:List ByteArray}(h:StrsAt w a ls)(k:Nat):StrsAt w a (ls.take k):=fun i s hs=>by
 rw[List.getElem?_take] at hs
 split at hs
 ·exact h i s hs
 ·cases hs
theorem zG{w:World}{a:Option Addr}{ls:List ByteArray}(h:StrsAt w a ls){c:Nat}(hc:ls.length≤c)(k:Nat):StrsAt w (if c=k then a else Option.map (fun x=>x.add k) a) (ls.drop k):=fun i s hs=>by
 rw[List.getElem?_drop] at hs
 have hlt:=(List.getElem?_eq_some_iff.1 hs).1
 obtain⟨b,o,e,h1⟩:=h (k+i) s hs
 subst e
 rw[if_neg (by omega)]
 refine⟨b,o+k,?_,by rw[Nat.add_assoc];exact h1⟩
 show some (Addr.add ⟨b,o,none⟩ k)=_
 rw[dC]
theorem eI(w:World)(a:Option Addr):StrsAt w a []:=fun i s h=>by cases h
theorem VF(W:World)(s:ByteArray):StrsAt (W.alloc (.cells #[.string s] 9)) (some ⟨W.heap.size,0,none⟩) [s]:=fun i x hx=>by
 match i,hx with
 |0,hx=>injection hx with hx;subst hx;exact⟨_,_,rfl,by simp⟩
def SRow(w:World)(B:Nat)(v:Value)(ls:List ByteArray):Prop:=w.ownsRow B 9 1 v ls.length (ls.map Value.string)
theorem SRow.nil(w:World)(B:Nat):SRow w B (.slice none 0 0) []:=World.ownsRow_nil w B _ _
theorem SRow.any{w:World}{B:Nat}{v:Value}{ls:List ByteArray}(h:SRow w B v ls):∃a c,v=.slice a ls.length c∧ls.length≤c:=by
 obtain⟨a,c,rfl⟩:=tA h
 exact⟨a,c,rfl,zB h⟩
theorem SRow.on{w w':World}{B:Nat}{v:Value}{ls:List ByteArray}(h:SRow w B v ls)(hb:Below w.heap.size w w'):SRow w' B v ls:=by
 refine⟨h.1,?_⟩
 rcases h.2 with hn|⟨g,cap,cur,rfl,hB,hgg,rest⟩
 ·exact .inl hn
 ·exact .inr ⟨g,cap,cur,rfl,hB,(hb.block g (Array.getElem?_eq_some_iff.1 hgg).1).trans hgg,rest⟩
theorem WK(w:World)(B:Nat)(ty:TypeId){v:Value}{ls ms:List ByteArray}{xa:Option Addr}{c:Nat}(h:SRow w B v ls)(hm:StrsAt w xa ms)(hl:ls.length+ms.length≤100000000)(hB:B≤w.heap.size):
 ∃v' w',(Builtin.append_ #[22,22] ty #[v,.slice xa ms.length c]).run Tryz.prog w=.ok v' w'∧SRow w' B v' (ls++ms)∧w.grownBy w' v.ownBlock:=by
 obtain⟨i,z,h1,h2,h3,h4,h5⟩:=Tryz.infoStr
 cases ms with
 |nil=>
  obtain⟨a,cc,rfl,hcap⟩:=h.any
  have hsrc:Src Tryz.prog i.size 22 (.slice xa 0 c) 0 [] w:=by
   cases xa with
   |none=>exact Src.ofNil w Tryz.underlying22 c
   |some ad=>exact Src.ofSlice w Tryz.underlying22 ad 0 c [] (by simp) (fun j u hj=>by cases hj) (fun u hu=>by cases hu)
  have hr:=run_append_nothing w 22 22 ty 9 i Tryz.underlying22 h1 a _ cc hcap (.slice xa 0 c) hsrc
  rw[List.append_nil]
  refine⟨.slice a ls.length cc,w,hr,h,?_⟩
  generalize (Value.slice a ls.length cc).ownBlock=ob
  exact⟨rfl,rfl,rfl,nR _,fun _ _ _=>rfl⟩
 |cons m0 mr=>
  obtain⟨b,o,rfl,_⟩:=hm 0 m0 rfl
  obtain⟨v',w',hr,q2,q3,q4⟩:=run_append_own (P:=Tryz.prog) w B 22 ty 9 i z 1 16 Tryz.underlying22 h1 h2 h3 h4 h5 (by omega) v ls.length (ls.map Value.string) h ⟨b,o,none⟩ (m0::mr).length c ((m0::mr).map Value.string) (by simp) (fun j u hj=>by
   rw[List.getElem?_map] at hj
   obtain⟨s,hs,rfl⟩:=Option.map_eq_some_iff.1 hj
   obtain⟨b',o',e,hc⟩:=hm j s hs
   simp only[Option.some.injEq,Addr.mk.injEq] at e
   obtain⟨rfl,rfl,_⟩:=e
   rw[dC]
   exact hc) (fun u hu=>by obtain⟨s,_,rfl⟩:=List.mem_map.1 hu;rfl) (by simp only[maxLen];omega) (by omega) hB
  refine⟨v',w',hr,?_,q3⟩
  unfold SRow
  rw[List.length_append,List.map_append]
  exact q2
def xV(W:World)(u:Value)(ms:List ByteArray):Prop:=∃xa n c,u=.slice xa n c∧n=ms.length∧StrsAt W xa ms
theorem DA{W:World}{ops:Array Oper}{rest:List Oper}{o:Oper}{a:Act}{Q:Exit→Act→World→Prop}(hgd:o.guard=none)(s x:Operand)
 (ho:o.op=.call {callee:=.builtin .append,args:=#[s,x],argTypes:=#[22,22]}) (B:Nat) (v:Value) (ls ms:List ByteArray) (hs:a.eval s=v) (hown:SRow W B v ls)
 (hm:xV W (a.eval x) ms) (hB:B≤W.heap.size) (hl:ls.length+ms.length≤100000000)
 (h:∀v' w',SRow w' B v' (ls++ms)→Below B W w'→wpList Tryz.prog ops Q rest (a.put o.dst v') w'):wpList Tryz.prog ops Q (o::rest) a W:=by
 obtain⟨xa,n,c,hx,hn,hm⟩:=hm
 subst hn
 obtain⟨v',w',hr,h2,h3⟩:=WK (c:=c) W B o.type hown hm hl hB
 refine wpList_plain hgd fun _ hK=>?_
 unfold Oper.wp execOp
 simp only[ho,resolve,invoke,builtin,Sem.run_bind,Sem.run_pure,Result.andThen_ok,List.map_toArray,List.map_cons,List.map_nil,hs,hx,hr]
 refine hK _ _ (h v' w' h2 ((Below.refl B W).grown h3 hB (fun k hk=>?_)))
 exact(World.ownsRow.lt hown k hk).1
end Go.Proofs.YtpbolcjcmkmalaaGreatDoor
namespace Go.Proofs.YtpbolcjcmkmalaaGreatDoor
open Go.RowKit
section
variable {P:Program} {ops:Array Oper} {Q:Exit→Act→World→Prop} {md:Region.Mode} {S:World→Prop} {L:List Nat}
def wpLast(P:Program)(md:Region.Mode)(ops:Array Oper)(Q:Exit→Act→World→Prop)(S:World→Prop)(L:List Nat):Nat→Array Bool→Act→World→Prop
 |0,done,a,w=>Region.ready md ops done=[]∧Q .normal a w
 |n+1,done,a,w=>(Region.ready md ops done=[]→Q .normal a w)∧∀j,j∈Region.ready md ops done→wpOp P ops Q j (fun a' w'=>(S w→j∈L∨S w')∧wpLast P md ops Q S L n (done.setIfInBounds j true) a' w') a w
theorem wpLast.any:∀{n:Nat} {done:Array Bool} {a:Act} {w:World},wpLast P md ops Q S L n done a w→wpAny P md ops Q n done a w
 |0,_,_,_,h=>h
 |_+1,_,_,_,h=>⟨h.1,fun j hj=>wpOp_mono (fun _ _ h'=>h'.2.any) (h.2 j hj)⟩
def ND(md:Region.Mode)(ops:Array Oper)(i:Nat):Nat→Nat→Bool
 |0,_=>false
 |n+1,l=>match ops[l]? with
  |none=>false
  |some o=>o.after.any fun e=>Region.binds md e&&(e.on==i||ND md ops i n e.on)
def tE(md:Region.Mode)(ops:Array Oper)(done:Array Bool):Bool:=(List.range ops.size).all fun k=>match ops[k]? with
 |none=>true
 |some o=>!done.getD k false||o.after.all fun e=>!Region.binds md e||done.getD e.on false
def Closed(md:Region.Mode)(ops:Array Oper)(done:Array Bool):Prop:=∀k o,ops[k]?=some o→done.getD k false=true→∀e∈o.after,Region.binds md e=true→done.getD e.on false=true
theorem uF{done:Array Bool}(h:tE md ops done=true):Closed md ops done:=by
 intro k o hk hd e he hb
 unfold tE at h
 rw[List.all_eq_true] at h
 have h1:=h k (List.mem_range.2 (Array.getElem?_eq_some_iff.1 hk).1)
 rw[hk] at h1
 simp only[hd,Bool.not_true,Bool.false_or,Array.all_eq_true'] at h1
 have h2:=h1 e he
 simpa [hb] using h2
theorem II{done:Array Bool}{i:Nat}(h1:done.getD i false=true)(h2:done.getD i true=false):False:=by
 rcases Nat.lt_or_ge i done.size with hl|hl
 ·rw[Array.getD_eq_getD_getElem?,Array.getElem?_eq_getElem hl] at h1 h2
  simp only[Option.getD_some] at h1 h2
  rw[h1] at h2;cases h2
 ·rw[Array.getD_eq_getD_getElem?,Array.getElem?_eq_none hl] at h1;cases h1
theorem Closed.step{done:Array Bool}(h:Closed md ops done){j:Nat}(hj:j∈Region.ready md ops done):Closed md ops (done.setIfInBounds j true):=by
 intro k o hk hd e he hb
 rcases Nat.decEq j k with hjk|hjk
 ·exact getD_set_true (h k o hk (by rwa [getD_set_ne false hjk] at hd) e he hb)
 ·subst hjk
  obtain⟨_,oj,hoj,hall⟩:=mem_ready.1 hj
  rw[hk] at hoj
  injection hoj with hoj
  subst hoj
  exact getD_set_true (hall e he hb)
theorem jI{done:Array Bool}(hc:Closed md ops done){i:Nat}(hi:done.getD i true=false):∀(n l:Nat),ND md ops i n l=true→∀o,ops[l]?=some o→¬∀e∈o.after,Region.binds md e=true→done.getD e.on false=true
 |0,_,h,_,_,_=>by cases h
 |n+1,l,h,o,ho,hall=>by
  unfold ND at h
  rw[ho] at h
  simp only[Array.any_eq_true',Bool.and_eq_true,Bool.or_eq_true,beq_iff_eq] at h
  obtain⟨e,he,hb,hon⟩:=h
  have h1:=hall e he hb
  rcases hon with hon|hon
  ·rw[hon] at h1
   exact II h1 hi
  ·cases ho':ops[e.on]? with
   |none=>cases n with
    |zero=>cases hon
    |succ n=>unfold ND at hon;rw[ho'] at hon;cases hon
   |some o'=>exact jI hc hi n e.on hon o' ho' (hc e.on o' ho' h1)
theorem OP{i n l:Nat}{done:Array Bool}(hc:Closed md ops done)(h:ND md ops i n l=true)(hi:i∈Region.ready md ops done):l∉Region.ready md ops done:=by
 intro hl
 obtain⟨_,o,ho,hall⟩:=mem_ready.1 hl
 exact jI hc (mem_ready.1 hi).1 n l h o ho hall
theorem XF{i:Nat}{oi:Oper}{v:Value}{S0:World→Prop}(hi:ops[i]?=some oi)(hsel:Region.noSelect ops=true)(hQ:∀c a w,Q (.panic c) (a.put oi.dst v) w→Q (.panic c) a w)(n:Nat):
 ∀(done:Array Bool) (a:Act) (w:World),Closed md ops done→(∀j oj,ops[j]?=some oj→j≠i→done.getD j true=false→(∀e∈oj.after,Region.binds md e=true→e.on≠i)→oi.apart ops oj=true)→i∈Region.ready md ops done→YieldsIf P ops S0 oi v a→((∀w,S0 w)∨((∀l,l∈L→ND md ops i ops.size l=true)∧(∀w,S w→S0 w)∧S w))→wpLast P md ops Q S L n (done.setIfInBounds i true) (a.put oi.dst v) w→wpLast P md ops Q S L (n+1) done a w:=by
 have sel:=Region.noSelect_spec hsel
 have now:∀{w:World},((∀w,S0 w)∨((∀l,l∈L→ND md ops i ops.size l=true)∧(∀w,S w→S0 w)∧S w))→S0 w:=fun h=>h.elim (fun h=>h _) (fun h=>h.2.1 _ h.2.2)
 induction n with
 |zero=>
  intro done a w _ _ hr hy hS H
  refine⟨fun h0=>(by rw[h0] at hr;cases hr),fun j hj=>?_⟩
  rcases Nat.decEq j i with hji|hji
  ·have:=ready_mono hj hji
   rw[H.1] at this
   cases this
  ·subst hji;exact hy.wpOp hi (now hS) ⟨fun h=>.inr h,H⟩
 |succ n ih=>
  intro done a w hcl hfree hr hy hS H
  refine⟨fun h0=>(by rw[h0] at hr;cases hr),fun j hj=>?_⟩
  rcases Nat.decEq j i with hji|hji
  rotate_left
  ·subst hji;exact hy.wpOp hi (now hS) ⟨fun h=>.inr h,H⟩
  ·obtain⟨hjd,oj,hoj,hall⟩:=mem_ready.1 hj
   have hi0:=(mem_ready.1 hr).1
   have hno:∀e∈oj.after,Region.binds md e=true→e.on≠i:=fun e he hb heq=>II (heq▸hall e he hb) hi0
   have step:=wpOp_putIf hoj (hfree j oj hoj hji hjd hno) (fun cs b=>sel i oi cs b hi) (fun cs b=>sel j oj cs b hoj) hQ hy (H.2 j (ready_mono hj hji))
   refine wpOp_mono (fun a' w' h3=>?_) step
   refine⟨h3.2.1,ih (done.setIfInBounds j true) a' w' (hcl.step hj) (fun k ok hk hki hun hkn=>hfree k ok hk hki ?_ hkn) (ready_mono hr (Ne.symm hji)) h3.1 ?_ ?_⟩
   ·rcases Nat.decEq j k with hjk|hjk
    ·rwa [getD_set_ne true hjk] at hun
    ·exact hjk▸hjd
   ·exact hS.imp (fun h=>h) (fun h=>⟨h.1,h.2.1,(h3.2.1 h.2.2).resolve_left fun e=>OP hcl (h.1 j e) hr hj⟩)
   ·rw[Array.setIfInBounds_comm _ _ hji]
    exact h3.2.2
theorem rL{i:Nat}{oi:Oper}{v:Value}{n:Nat}{done:Array Bool}{a:Act}{w:World}(hi:ops[i]?=some oi)(hs:Region.noSelect ops=true)(hf:Region.free md ops done i=true)(hr:(Region.ready md ops done).contains i=true)(hL:(L.all fun l=>ND md ops i ops.size l)=true)(hcl:tE md ops done=true)
 (hQ:∀c a w,Q (.panic c) (a.put oi.dst v) w→Q (.panic c) a w) (hg:oi.guard=none) (hy:∀w,S w→(execOp a.eval oi).run P w=.ok (.value v) w) (hS:S w)
 (h:wpLast P md ops Q S L n (done.setIfInBounds i true) (a.put oi.dst v) w):wpLast P md ops Q S L (n+1) done a w:=
 XF (S0:=S) hi hs hQ n done a w (uF hcl) (Region.free_spec hi hf) (by simpa using hr) (.inl ⟨zA hg,hy⟩) (.inr ⟨fun l hl=>by rw[List.all_eq_true] at hL;exact hL l hl,fun _ h=>h,hS⟩) h
theorem qL{i:Nat}{oi:Oper}{v:Value}{n:Nat}{done:Array Bool}{a:Act}{w:World}(hi:ops[i]?=some oi)(hs:Region.noSelect ops=true)(hf:Region.free md ops done i=true)(hr:(Region.ready md ops done).contains i=true)(hcl:tE md ops done=true)
 (hQ:∀c a w,Q (.panic c) (a.put oi.dst v) w→Q (.panic c) a w) (hg:oi.guard=none) (hy:∀w,(execOp a.eval oi).run P w=.ok (.value v) w)
 (h:wpLast P md ops Q S L n (done.setIfInBounds i true) (a.put oi.dst v) w):wpLast P md ops Q S L (n+1) done a w:=
 XF (S0:=fun _=>True) hi hs hQ n done a w (uF hcl) (Region.free_spec hi hf) (by simpa using hr) (.inl ⟨zA hg,fun w _=>hy w⟩) (.inl fun _=>trivial) h
theorem UA{rs:List Nat}{n:Nat}{done:Array Bool}{a:Act}{w:World}(hr:Region.ready md ops done=rs)(hne:rs≠[])(h:∀j,j∈rs→wpOp P ops Q j (fun a' w'=>(S w→j∈L∨S w')∧wpLast P md ops Q S L n (done.setIfInBounds j true) a' w') a w):wpLast P md ops Q S L (n+1) done a w:=
 ⟨fun h0=>absurd (hr▸h0) hne,hr▸h⟩
theorem qE{done:Array Bool}{a:Act}{w:World}(hr:Region.ready md ops done=[])(h:Q .normal a w):∀n,wpLast P md ops Q S L n done a w
 |0=>⟨hr,h⟩
 |_+1=>⟨fun _=>h,by rw[hr];simp⟩
theorem yJ{A:Act}{n:Nat}{done:Array Bool}{w:World}(k m:Nat)(h:wpLast P md ops Q S L n done (MA (A.tmps.toList.take k) ((A.tmps.toList.drop k).take m) (A.tmps.toList.drop (k+m)) A.defers) w):wpLast P md ops Q S L n done A w:=by
 rw[MA.of A k m];exact h
theorem FC{i:Nat}{o:Oper}{v:Value}{a:Act}{w w':World}{K:Act→World→Prop}(hi:ops[i]?=some o)(hg:o.guard=none)(he:(execOp a.eval o).run P w=.ok (.value v) w')(h:K (a.put o.dst v) w'):wpOp P ops Q i K a w:=by
 unfold wpOp
 simp only[hi,zA hg,if_true]
 refine .inl ?_
 unfold Oper.wp
 rw[he]
 exact h
theorem EG{i:Nat}{o:Oper}{a:Act}{w w':World}{K:Act→World→Prop}(hi:ops[i]?=some o)(hg:o.guard=none)(he:(execOp a.eval o).run P w=.ok .skip w')(h:K (a.put o.dst undef) w'):wpOp P ops Q i K a w:=by
 unfold wpOp
 simp only[hi,zA hg,if_true]
 refine .inl ?_
 unfold Oper.wp
 rw[he]
 exact h
theorem yD{i:Nat}{o:Oper}{a:Act}{w:World}{K:Act→World→Prop}{f:FuncId}{args:Array Value}{R:Ending→World→Prop}(hi:ops[i]?=some o)(hg:o.guard=none)(he:(execOp a.eval o).run P w=.ok (.enter f args) w)(hc:Calls P f args w R)(h:∀e w',R e w'→∃v,e=.returned v∧K (a.put o.dst v) w'):wpOp P ops Q i K a w:=by
 unfold wpOp
 simp only[hi,zA hg,if_true]
 refine .inl ?_
 unfold Oper.wp
 rw[he]
 refine hc.mono ?_
 intro e w' hr
 obtain⟨v,rfl,hk⟩:=h e w' hr
 exact hk
theorem eD{id:Nat}{a:Act}{w:World}{l:List Oper}(hm:P.follows .mixedOrders=true)(h:wpLast P .any l.toArray Q S L l.length (Array.replicate l.length false) a {w with drawn:=w.drawn+1}):(Code.region id l.toArray true).wp P Q a w:=
 wp_region_any hm (by simpa using h.any)
end
end Go.Proofs.YtpbolcjcmkmalaaGreatDoor
namespace Go.Proofs.YtpbolcjcmkmalaaGreatDoor
open Go.RowKit Go.Extern.Stop Go.Stop Go.Extern
def SS(p:Nat→Addr)(e:Ending):VOut→Prop
 | .bad c=>∃k,c=k+1∧k<11∧e=.returned (fD (p k))
 | .ok _=>e=.returned .nilIface
theorem iJ(t:It)(hF:FewIt t)(p:Nat→Addr)(m:Int)(w:World)(hE:Env w p m)(P:Nat→Prop)(v:Nat→Value)(hL:Lies w P v t):
 Calls Tryz.prog 16 #[.agg #[v 0,v 1,v 2,v 3]] w fun e w'=>SS p e (vIt 0 0 [] t)∧Below w.heap.size w w':=by
 obtain⟨f0,f1,⟨la,lc,f2⟩,⟨ka,kc,f3⟩⟩:=hL.forms
 obtain⟨W2,hW2⟩:∃W2,W2=(w.alloc (.cells #[.string t.label,.string t.head,.slice la t.lines.length lc,.slice ka t.kids.length kc] 25)).alloc (.cells #[.int .i64 0] 69):=⟨_,rfl⟩
 have ha:=OC w (.cells #[.string t.label,.string t.head,.slice la t.lines.length lc,.slice ka t.kids.length kc] 25) (.cells #[.int .i64 0] 69)
 have hb:Below w.heap.size w W2:=by rw[hW2];exact(bA _ _).alloc (by simp) _
 have hs2:W2.heap.size=w.heap.size+2:=by rw[hW2];simp
 rw[←hW2] at ha
 have hI:=rK (w.heap.size+1) p m w hE (by omega) _ t (nR _) hF 0 0 v W2 none 0 [] (fun _ _=>.nilIface) (hL.step fun b hb' _=>⟨hb.block b hb',by show b≠w.heap.size+1;omega⟩) ⟨fun i hi=>absurd hi (Nat.not_lt_zero _),fun i k e=>by cases e⟩ ha.2 hb (by omega) (by omega) (by simp)
 rw[f0,f1,f2,f3] at hI
 rw[f0,f1,f2,f3]
 have HI:=aA hI
 have HB:=aA hb
 have HX:=aA hW2
 have HS2:=aA hs2
 obtain⟨x0,x1,x2,x3,xf⟩:=gA ha.1
 clear hI hb hW2 ha hL f0 f1 f2 f3 hF hs2
 generalize vIt 0 0 [] t=O at *
 go_enter Tryz.func16,Tryz.ntmps16
 go_upto_region 2 with fail
 rw[←HX.out]
 go_wp2_with fail
 go_at_call 26
 refine HI.out.mono ?_
 rintro e w3 ⟨hS,hb3⟩
 have HB3:Hid (Below w.heap.size w w3):=HB.out.trans (hb3.down (by have:=HS2.out;omega) (by omega))
 clear hb3
 cases O with
 |bad c=>
  obtain⟨k,hc,hk,rfl⟩:=hS
  have HC:=aA hc
  clear hc
  unfold fD
  go_wp2
  go_ret
  exact⟨⟨k,HC.out,hk,rfl⟩,HB3.out⟩
 |ok n=>
  obtain⟨rfl,_⟩:=hS
  go_wp2
  go_ret
  exact⟨rfl,HB3.out⟩
theorem SrcT.mono{w:World}{N N':Nat}{ex:Prop}{v:Nat→Value}{t:It}(h:SrcT w N ex v t)(hb:N≤N'):SrcT w N' ex v t:=by
 induction h with
 |mk v t la ka lc kc V h0 h1 h2 h3 hl hk hr cl ck bl bk hlc hkc ih=>
  exact .mk v t la ka lc kc V h0 h1 h2 h3 (fun i s hs=>(by obtain⟨b,o,e,hN,hc⟩:=hl i s hs;exact⟨b,o,e,by omega,hc⟩)) (fun i hi=>(by obtain⟨b,o,e,hN,r⟩:=hk i hi;exact⟨b,o,e,by omega,r⟩)) ih cl ck bl bk hlc hkc
theorem ZS{W:World}{g:Nat}{v:Nat→Value}(h:W.heap[g]?=some (Obj.cells #[v 0,v 1,v 2,v 3] rA (0,0))):NodeAt W g 0 v:=⟨_,h,fun c hc=>by
 match c,hc with
 |0,_=>rfl
 |1,_=>rfl
 |2,_=>rfl
 |3,_=>rfl⟩
theorem NA{W:World}{b T:Nat}{x y z q u0 u1 u2 u3:Value}(h:W.heap[b]?=some (.cells #[x,y,z,q] T (0,0))):((((W.setCell ⟨b,0,none⟩ u0).setCell ⟨b,1,none⟩ u1).setCell ⟨b,2,none⟩ u2).setCell ⟨b,3,none⟩ u3).heap[b]?=some (.cells #[u0,u1,u2,u3] T (0,0)):=by
 rw[heap_setCell_same _ _ _ _ _ _ (heap_setCell_same _ _ _ _ _ _ (heap_setCell_same _ _ _ _ _ _ (heap_setCell_same _ _ _ _ _ _ h)))]
 rfl
theorem PA{W:World}{b k:Nat}{u0 u1 u2 u3:Value}(h:k≠b):((((W.setCell ⟨b,0,none⟩ u0).setCell ⟨b,1,none⟩ u1).setCell ⟨b,2,none⟩ u2).setCell ⟨b,3,none⟩ u3).heap[k]?=W.heap[k]?:=by
 rw[Below.heap_setCell _ _ _ _ h,Below.heap_setCell _ _ _ _ h,Below.heap_setCell _ _ _ _ h,Below.heap_setCell _ _ _ _ h]
theorem Own.base{w:World}{B B':Nat}{v:Nat→Value}{t:It}{S:Nat→Prop}(h:Own w B v t S)(hB:B'≤B):Own w B' v t S:=by
 induction h with
 |mk v t K T S h0 h1 ln kd sl sk hr hT hd hS ih=>exact .mk v t K T S h0 h1 (vD ln hB) (vD kd hB) sl sk ih hT hd (fun g hg=>by have:=hS g hg;omega)
theorem yP{w:World}{N:Nat}{ex:Prop}{t:It}{v:Nat→Value}(hv0:SrcT w N ex v t)(hN:N≤w.heap.size)(hz:EB t≤400000)(hx:ex∨EB t≤600):
 Calls Tryz.prog 28 #[.agg iC,.agg #[v 0,v 1,v 2,v 3]] w fun e w'=>∃v' S,e=.returned (.agg #[v' 0,v' 1,v' 2,v' 3])∧Own w' w.heap.size v' t S∧Below w.heap.size w w':=by
 have hv:=hv0.mono hN
 clear hv0
 obtain⟨f0,f1,la,lc,f2,_⟩:=hv.texts
 obtain⟨ka,kc,K,hfk⟩:=hv.fk
 have f3:=hfk.is
 have hv4:#[v 0,v 1,v 2,v 3]=#[.string t.label,.string t.head,.slice la t.lines.length lc,.slice ka t.kids.length kc]:=by rw[f0,f1,f2,f3]
 obtain⟨W3,hW3⟩:∃W3,W3=((w.alloc (.cells iC 75)).alloc (.cells #[.string t.label,.string t.head,.slice la t.lines.length lc,.slice ka t.kids.length kc] rA)).alloc (.cells #[.string ⟨#[]⟩,.string ⟨#[]⟩,.slice none 0 0,.slice none 0 0] rA):=⟨_,rfl⟩
 have hs3:W3.heap.size=w.heap.size+3:=by rw[hW3];simp
 have hb3:Below w.heap.size w W3:=by rw[hW3];exact((bA _ _).alloc (by simp) _).alloc (by simp;omega) _
 have hg0:W3.heap[w.heap.size]?=some (.cells iC 75 (0,0)):=by
  rw[hW3,Below.heap_alloc _ _ _ (by simp;omega),Below.heap_alloc _ _ _ (by simp)]
  exact heap_alloc_new _ _
 have hg1:W3.heap[w.heap.size+1]?=some (.cells #[v 0,v 1,v 2,v 3] rA (0,0)):=by
  rw[hW3,Below.heap_alloc _ _ _ (by simp),hv4]
  have:=heap_alloc_new (w.alloc (.cells iC 75)) (.cells #[.string t.label,.string t.head,.slice la t.lines.length lc,.slice ka t.kids.length kc] rA)
  rw[show (w.alloc (.cells iC 75)).heap.size=w.heap.size+1 by simp] at this
  exact this
 have hg2:W3.heap[w.heap.size+2]?=some (.cells #[.string ⟨#[]⟩,.string ⟨#[]⟩,.slice none 0 0,.slice none 0 0] rA (0,0)):=by
  rw[hW3]
  have:=heap_alloc_new ((w.alloc (.cells iC 75)).alloc (.cells #[.string t.label,.string t.head,.slice la t.lines.length lc,.slice ka t.kids.length kc] rA)) (.cells #[.string ⟨#[]⟩,.string ⟨#[]⟩,.slice none 0 0,.slice none 0 0] rA)
  rw[show ((w.alloc (.cells iC 75)).alloc (.cells #[.string t.label,.string t.head,.slice la t.lines.length lc,.slice ka t.kids.length kc] rA)).heap.size=w.heap.size+2 by simp] at this
  exact this
 rw[hv4]
 obtain⟨y0,y1,y2,y3,y4⟩:=pO hg0
 have hn1:NodeAt W3 (w.heap.size+1) 0 v:=ZS hg1
 have HWg:Hid (∀W sb mb,Below W3.heap.size W3 W→SC W sb mb ex (fun _ _=>False)→W3.heap.size≤sb→W3.heap.size≤mb→Calls Tryz.prog 67 #[.pointer (some ⟨sb,0,none⟩),.pointer (some ⟨w.heap.size+1,0,none⟩)] W fun e w'=>∃x:Int,e=.returned (.int .i64 x)∧(ex→x=EB t)∧Below W3.heap.size W w'):=fun W sb mb hW hS h1 h2=>by
  have hnW:=hn1.on (hW.block _ (by omega))
  have hlw:∀q,q<w.heap.size→W.heap[q]?=w.heap[q]?:=fun q hq=>(hW.block q (by omega)).trans (hb3.block q hq)
  obtain⟨cur,ec,hc⟩:=hnW
  refine bR hS hW.size h1 h2 ((hv.on hlw).tree (N':=W3.heap.size) (by omega) (b:=w.heap.size+1) (o:=0) ?_ ?_ ⟨⟨v 0,?_⟩,?_⟩ (fun _=>⟨cur,_,ec⟩) (by omega)) hz
  ·exact(NodeAt.cell ⟨cur,ec,hc⟩ (c:=2) (by omega))
  ·exact(NodeAt.cell ⟨cur,ec,hc⟩ (c:=3) (by omega))
  ·exact(NodeAt.cell ⟨cur,ec,hc⟩ (c:=0) (by omega))
  ·exact NodeAt.frozen ⟨cur,ec,hc⟩ 0
 have HRn:Hid (∀W (most:Nat),Below W3.heap.size W3 W→JB t.kids≤most→most≤100000000→Calls Tryz.prog 68 #[.agg iC,.pointer (some ⟨w.heap.size+1,0,none⟩),.int .i64 most] W fun e w'=>e=.returned (.tuple #[])∧BelX W.heap.size (w.heap.size+1) W w'∧∃v' S,NodeAt w' (w.heap.size+1) 0 v'∧Own w' W.heap.size v' t S∧¬S (w.heap.size+1)):=fun W most hW h1 h2=>by
  have hlw:∀q,q<w.heap.size→W.heap[q]?=w.heap[q]?:=fun q hq=>(hW.block q (by omega)).trans (hb3.block q hq)
  have:=ZB t
  exact KQ (hv.on hlw) (hn1.on (hW.block _ (by omega))) (by omega) (by have:=hW.size;omega) h1 h2 (by omega)
 have HX:=aA hW3
 have HB:=aA (aI hb3 (aI hg0 (aI hg2 hs3)))
 have HZ:=aA (aI hx (aI hz (ZB t)))
 have hr1:w.heap.size<W3.heap.size:=by omega
 clear hW3 hb3 hg0 hg1 hg2 hs3 hn1 hx hz hv hfk f0 f1 f2 f3 hv4
 go_enter Tryz.func28,Tryz.ntmps28
 go_upto_region 1 with fail
 rw[←HX.out]
 go_upto_region 2 with fail
 go_cut [13] (fun bb wx=>∃x:Int,bb=.bool (decide (x≤67108864))∧(ex→x=EB t)∧Below W3.heap.size W3 wx)
 case first=>
  have HCx:Hid (∀W,Below W3.heap.size W3 W→(W.cell? ⟨w.heap.size,0,none⟩=some (.func (.func 62) #[] #[])∧W.cell? ⟨w.heap.size,1,none⟩=some (.func (.func 63) #[] #[])∧W.cell? ⟨w.heap.size,2,none⟩=some (.func (.func 65) #[] #[])∧W.cell? ⟨w.heap.size,3,none⟩=some (.int .i64 67108864)∧W.cell? ⟨w.heap.size,4,none⟩=some (.int .i64 600))):=fun W hW=>⟨(hW.cell (p:=⟨w.heap.size,0,none⟩) (dA y0)).trans y0,(hW.cell (p:=⟨w.heap.size,1,none⟩) (dA y1)).trans y1,(hW.cell (p:=⟨w.heap.size,2,none⟩) (dA y2)).trans y2,(hW.cell (p:=⟨w.heap.size,3,none⟩) (dA y3)).trans y3,(hW.cell (p:=⟨w.heap.size,4,none⟩) (dA y4)).trans y4⟩
  go_region_held3 (fun V=>V.cell? ⟨w.heap.size,0,none⟩=some (.func (.func 62) #[] #[])∧V.cell? ⟨w.heap.size,1,none⟩=some (.func (.func 63) #[] #[])∧V.cell? ⟨w.heap.size,2,none⟩=some (.func (.func 65) #[] #[])∧V.cell? ⟨w.heap.size,3,none⟩=some (.int .i64 67108864)∧V.cell? ⟨w.heap.size,4,none⟩=some (.int .i64 600)) (first|exact⟨y0,y1,y2,y3,y4⟩|exact⟨z0,z1,z2,z3,z4⟩|go_keep) (first|(go_simp;go_at_call 66;refine(OQ ex W3.drew).mono ?_;rintro e w4 ⟨sb,mb,rfl,hS4,hsb,hmb,hb4⟩;(have hb4':Below W3.heap.size W3 w4:=⟨hb4.os,hb4.tape,hb4.output,hb4.size,hb4.block⟩);(have HW4:=aA (HWg.out w4 sb mb hb4' hS4 hsb hmb));(obtain⟨z0,z1,z2,z3,z4⟩:=HCx.out w4 hb4');(have H4:=aA hb4');clear hS4 hsb hmb hb4 hb4')|(go_simp;go_at_call 67;refine HW4.out.mono ?_;rintro e w5 ⟨x,rfl,hxe,hb5⟩;(have hb5':=H4.out.trans hb5);clear z0 z1 z2 z3 z4;(obtain⟨z0,z1,z2,z3,z4⟩:=HCx.out w5 hb5');(have H5:=aA (aI hxe hb5'));clear hxe hb5 hb5'))
  all_goals go_wp2_with fail
  all_goals go_meet
  all_goals exact⟨x,rfl,H5.out.1,H5.out.2⟩
 case rest=>
  obtain⟨x,rfl,hxe,hbc⟩:=hcut
  have HC:=aA (aI hxe hbc)
  have z0:=(hbc.cell (p:=⟨w.heap.size,0,none⟩) (dA y0)).trans y0
  have z1:=(hbc.cell (p:=⟨w.heap.size,1,none⟩) (dA y1)).trans y1
  have z2:=(hbc.cell (p:=⟨w.heap.size,2,none⟩) (dA y2)).trans y2
  have z3:=(hbc.cell (p:=⟨w.heap.size,3,none⟩) (dA y3)).trans y3
  have z4:=(hbc.cell (p:=⟨w.heap.size,4,none⟩) (dA y4)).trans y4
  have HFin:Hid (∀w',BelX wc.heap.size (w.heap.size+1) wc w'→∀v' S,Own w' wc.heap.size v' t S→w'.heap[w.heap.size+2]?=some (.cells #[.string ⟨#[]⟩,.string ⟨#[]⟩,.slice none 0 0,.slice none 0 0] rA (0,0))∧Below w.heap.size w w'∧Own w' w.heap.size v' t S∧(∀g,S g→g≠w.heap.size+2)):=fun w' hx v' S ho=>by
   have h3:=HB.out.2.2.2
   have hc:=hbc.size
   refine⟨?_,?_,ho.base (by omega),fun g hg=>by have:=ho.in g hg;omega⟩
   ·rw[hx.block _ (by omega) (by omega),hbc.block _ (by omega)]
    exact HB.out.2.2.1
   ·exact HB.out.1.trans ((hbc.mono (by omega)).trans (BelX.down2 hx (by omega) (by omega)))
  have HEnd:Hid (∀w6 v' S,w6.heap[w.heap.size+2]?=some (.cells #[.string ⟨#[]⟩,.string ⟨#[]⟩,.slice none 0 0,.slice none 0 0] rA (0,0))→Below w.heap.size w w6→Own w6 w.heap.size v' t S→(∀g,S g→g≠w.heap.size+2)→∀u0 u1 u2 u3,Own ((((w6.setCell ⟨w.heap.size+2,0,none⟩ u0).setCell ⟨w.heap.size+2,1,none⟩ u1).setCell ⟨w.heap.size+2,2,none⟩ u2).setCell ⟨w.heap.size+2,3,none⟩ u3) w.heap.size v' t S∧Below w.heap.size w ((((w6.setCell ⟨w.heap.size+2,0,none⟩ u0).setCell ⟨w.heap.size+2,1,none⟩ u1).setCell ⟨w.heap.size+2,2,none⟩ u2).setCell ⟨w.heap.size+2,3,none⟩ u3)):=fun w6 v' S _ hb ho hg u0 u1 u2 u3=>
   ⟨ho.step (fun g hgS=>PA (hg g hgS)) (by simp),⟨hb.os,hb.tape,hb.output,by have:=hb.size;simpa using this,fun k hk=>(PA (by omega)).trans (hb.block k hk)⟩⟩
  clear hxe hbc y0 y1 y2 y3 y4
  by_cases hle:x≤67108864
  ·have hdl:decide (x≤67108864)=true:=decide_eq_true hle
   have HM:=aA (HRn.out wc 67108864 HC.out.2 (by have:=HZ.out.2.2;have:=HZ.out.2.1;omega) (by omega))
   rw[hdl]
   clear hle hdl
   go_upto_region 5 with (go_at_call 68;refine HM.out.mono ?_;rintro e w6 ⟨rfl,hbx6,v',S,hn6,ho6,_⟩;(have H6:=aA (HFin.out w6 hbx6 v' S ho6));(have HN6:=aA hn6);clear hbx6 ho6 hn6)
   obtain⟨q0,q1,⟨qa,qc,q2⟩,qka,qkc,q3⟩:=H6.out.2.2.1.lies.forms
   have m0:=HN6.out.cell (c:=0) (by omega)
   have m1:=HN6.out.cell (c:=1) (by omega)
   have m2:=HN6.out.cell (c:=2) (by omega)
   have m3:=HN6.out.cell (c:=3) (by omega)
   rw[q0] at m0
   rw[q1] at m1
   rw[q2] at m2
   rw[q3] at m3
   obtain⟨r0,r1,r2,r3,rf⟩:=gA H6.out.1
   have HQ:=aA (aI q0 (aI q1 (aI q2 q3)))
   clear q0 q1 q2 q3 z0 z1 z2 z3 z4
   go_wp2
   refine bodyPost_ret (v:=.agg #[.string t.label,.string t.head,.slice qa t.lines.length qc,.slice qka t.kids.length qkc]) (results_cell_row Tryz.results28 _ _ (w.heap.size+2) rA #[.string t.label,.string t.head,.slice qa t.lines.length qc,.slice qka t.kids.length qkc] (0,0) _ (by first|rfl|simp) (NA H6.out.1) Tryz.underlying25 rfl rfl) rfl ?_
   refine⟨v',S,?_,HEnd.out w6 v' S H6.out.1 H6.out.2.1 H6.out.2.2.1 H6.out.2.2.2 _ _ _ _⟩
   rw[HQ.out.1,HQ.out.2.1,HQ.out.2.2.1,HQ.out.2.2.2]
  ·have hdl:decide (x≤67108864)=false:=decide_eq_false hle
   have HM:=aA (HRn.out wc 600 HC.out.2 (by
    have h1:=HZ.out.2.2
    have h2:=HZ.out.2.1
    rcases HZ.out.1 with h3|h3
    ·have:=HC.out.1 h3
     omega
    ·omega) (by omega))
   rw[hdl]
   clear hle hdl
   go_upto_region 5 with (go_at_call 68;refine HM.out.mono ?_;rintro e w6 ⟨rfl,hbx6,v',S,hn6,ho6,_⟩;(have H6:=aA (HFin.out w6 hbx6 v' S ho6));(have HN6:=aA hn6);clear hbx6 ho6 hn6)
   obtain⟨q0,q1,⟨qa,qc,q2⟩,qka,qkc,q3⟩:=H6.out.2.2.1.lies.forms
   have m0:=HN6.out.cell (c:=0) (by omega)
   have m1:=HN6.out.cell (c:=1) (by omega)
   have m2:=HN6.out.cell (c:=2) (by omega)
   have m3:=HN6.out.cell (c:=3) (by omega)
   rw[q0] at m0
   rw[q1] at m1
   rw[q2] at m2
   rw[q3] at m3
   obtain⟨r0,r1,r2,r3,rf⟩:=gA H6.out.1
   have HQ:=aA (aI q0 (aI q1 (aI q2 q3)))
   clear q0 q1 q2 q3 z0 z1 z2 z3 z4
   go_wp2
   refine bodyPost_ret (v:=.agg #[.string t.label,.string t.head,.slice qa t.lines.length qc,.slice qka t.kids.length qkc]) (results_cell_row Tryz.results28 _ _ (w.heap.size+2) rA #[.string t.label,.string t.head,.slice qa t.lines.length qc,.slice qka t.kids.length qkc] (0,0) _ (by first|rfl|simp) (NA H6.out.1) Tryz.underlying25 rfl rfl) rfl ?_
   refine⟨v',S,?_,HEnd.out w6 v' S H6.out.1 H6.out.2.1 H6.out.2.2.1 H6.out.2.2.2 _ _ _ _⟩
   rw[HQ.out.1,HQ.out.2.1,HQ.out.2.2.1,HQ.out.2.2.2]
structure RowOk(D:Nat)(r:FRow):Prop where
 few:FewIt r.item
 dp:r.deep≤D
 nt:r.nth≤r.up.length
 ul:r.up.length≤1000
theorem oM:∀(N:Nat) (t:It),jA t≤N→FewIt t→∀(d n D:Nat) (up:List It),n≤up.length→up.length≤1000→d+jA t≤D→∀r∈NB d n up t,RowOk D r∧d≤r.deep
 |0,t,h,_,d,n,D,up,_,_,_=>by have:=uA t;omega
 |N+1,t,h,hF,d,n,D,up,hn,hu,hD=>by
  obtain⟨k1,k2,k3,k4,k5,k6⟩:=hF.get
  intro r hr
  rw[tC] at hr
  rcases List.mem_cons.1 hr with rfl|hr
  ·exact⟨⟨hF,by show d≤D;omega,hn,hu⟩,nR _⟩
  ·have hks:∀(l:List It) (j:Nat),(∀x∈l,x∈t.kids)→j+l.length≤t.kids.length→∀r∈BA (d+1) j t.kids l,RowOk D r∧d≤r.deep:=by
    intro l
    induction l with
    |nil=>intro j _ _ r hr;rw[BA] at hr;cases hr
    |cons x q ih=>
     intro j hx hj r hr
     rw[List.length_cons] at hj
     rw[BA] at hr
     rcases List.mem_append.1 hr with hr|hr
     ·have hxm:=hx x (by simp)
      have hxs:=rB hxm
      have:=oM N x (by omega) (k6 x hxm) (d+1) j D t.kids (by omega) k2 (by omega) r hr
      exact⟨this.1,by have:=this.2;omega⟩
     ·exact ih (j+1) (fun y hy=>hx y (List.mem_cons_of_mem _ hy)) (by omega) r hr
   exact hks t.kids 0 (fun x hx=>hx) (by omega) r hr
theorem KG(d:Nat)(up:List It):∀(l:List It) (n:Nat),∀r∈BA d n up l,d≤r.deep
 | [],n,r,hr=>by rw[BA] at hr;cases hr
 |x::q,n,r,hr=>by
  rw[BA] at hr
  rcases List.mem_append.1 hr with hr|hr
  ·have hd:∀(N:Nat) (t:It),jA t≤N→∀(d n:Nat) (up:List It),∀r∈NB d n up t,d≤r.deep:=by
    intro N
    induction N with
    |zero=>intro t h;have:=uA t;omega
    |succ N ih=>
     intro t h d n up r hr
     rw[tC] at hr
     rcases List.mem_cons.1 hr with rfl|hr
     ·exact nR _
     ·have hks:∀(l:List It) (j:Nat),(∀x∈l,jA x≤N)→∀r∈BA (d+1) j t.kids l,d≤r.deep:=by
       intro l
       induction l with
       |nil=>intro j _ r hr;rw[BA] at hr;cases hr
       |cons x q ih2=>
        intro j hx r hr
        rw[BA] at hr
        rcases List.mem_append.1 hr with hr|hr
        ·have:=ih x (hx x (by simp)) (d+1) j t.kids r hr;omega
        ·exact ih2 (j+1) (fun y hy=>hx y (List.mem_cons_of_mem _ hy)) r hr
      exact hks t.kids 0 (fun x hx=>by have:=rB hx;omega) r hr
   exact hd _ x (nR _) d n up r hr
  ·exact KG d up q (n+1) r hr
theorem DN{t:It}{i:Nat}{r:FRow}(h:(NB 0 0 [] t)[i]?=some r):(r.deep=0↔i=0)∧(i=0→r.nth=0):=by
 rw[tC] at h
 cases i with
 |zero=>
  obtain rfl:(⟨t,0,0,[]⟩:FRow)=r:=by simpa using h
  exact⟨⟨fun _=>rfl,fun _=>rfl⟩,fun _=>rfl⟩
 |succ i=>
  have h1:(BA 1 0 t.kids t.kids)[i]?=some r:=by simpa using h
  have:=KG 1 t.kids t.kids 0 r (List.mem_of_getElem? h1)
  exact⟨⟨fun e=>by omega,fun e=>by omega⟩,fun e=>by omega⟩
def gC:VOut→Nat
 | .bad c=>c
 | .ok _=>0
theorem LN(o:VOut):gC (fT o)=gC o:=by cases o<;>rfl
theorem FN{rows:List FRow}{i:Nat}{r:FRow}(h:rows[i]?=some r):scanF i (rows.drop i)=if rowE i r=0 then scanF (i+1) (rows.drop (i+1)) else .bad (rowE i r):=by
 obtain⟨hi,e⟩:=List.getElem?_eq_some_iff.1 h
 rw[List.drop_eq_getElem_cons hi,e,scanF]
theorem qP{rows:List FRow}{i:Nat}(h:rows.length≤i):scanF i (rows.drop i)=.ok i:=by
 rw[List.drop_eq_nil_of_le h,scanF]
theorem pH{α:Type}(f:α→Bool)(l:List α)(i:Nat)(x:α)(h:l[i]?=some x):(l.take (i+1)).any f=((l.take i).any f||f x):=by
 obtain⟨hi,e⟩:=List.getElem?_eq_some_iff.1 h
 rw[List.take_succ_eq_append_getElem hi,e,List.any_append]
 simp
theorem uL{α:Type}(f:α→Bool)(l:List α)(i:Nat)(h:(l.take i).any f=true):l.any f=true:=by
 rw[List.any_eq_true] at *
 obtain⟨x,hx,e⟩:=h
 exact⟨x,List.mem_of_mem_take hx,e⟩
theorem kL{α:Type}{l:List α}{i:Nat}(h:i=l.length):l.take i=l:=List.take_of_length_le (by omega)
noncomputable def eT (t:It) (k:Nat):Nat:=if lineB t.head=true∧(t.lines.take k).any badB=false then 0 else 1
theorem lO{W:World}{g:Nat}{a0 a1 a2 a3 a4 a5 a6 a7:Value}{t:TypeId}(h:W.heap[g]?=some (.cells #[a0,a1,a2,a3,a4,a5,a6,a7] t (0,0))):
 W.cell? ⟨g,0,none⟩=some a0∧W.cell? ⟨g,1,none⟩=some a1∧W.cell? ⟨g,2,none⟩=some a2∧W.cell? ⟨g,3,none⟩=some a3∧W.cell? ⟨g,4,none⟩=some a4∧W.cell? ⟨g,5,none⟩=some a5∧W.cell? ⟨g,6,none⟩=some a6∧W.cell? ⟨g,7,none⟩=some a7:=by
 refine⟨?_,?_,?_,?_,?_,?_,?_,?_⟩<;>simp[World.cell?,h]
end Go.Proofs.YtpbolcjcmkmalaaGreatDoor
