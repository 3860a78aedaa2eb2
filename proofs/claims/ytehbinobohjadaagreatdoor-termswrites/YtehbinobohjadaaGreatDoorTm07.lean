import Derived.Test.YtehbinobohjadaaGreatDoorTm00
import Derived.Test.YtehbinobohjadaaGreatDoorTm05
set_option maxHeartbeats 20000000
set_option maxRecDepth 20000
namespace Go.Proofs.YtehbinobohjadaaGreatDoor
open Go.RowKit Go.Extern.Stop Go.Stop Go.Extern
theorem sM{L:List Tok}{bp tb cp:Nat}{w:World}{k:Nat}{n:Int}(h:PS L bp tb cp w k n 0 0):
 Calls Tryz.prog 32 #[.pointer (some ⟨bp,0,none⟩)] w fun e w'=>e=.returned (.tuple #[])∧PS L bp tb cp w' k n 1 (cA L k).pos∧BelX w.heap.size bp w w':=by
 obtain⟨x0,x1,x2,x3,x4,xf⟩:=h.cells
 obtain⟨y0,y1,y2,y3⟩:=h.tokens
 have hlt:=h.lt
 have hlen:=h.len
 have HF:=aA (fun W (hW:Below w.heap.size w W)=>oG (h.below hW) 1 (cA L k).pos)
 clear h
 generalize (cA L k).pos=K2 at *
 generalize L.length=LL at *
 go_enter Tryz.func32,Tryz.ntmps32
 go_wp2_with fail
 go_region_with (go_at_call 62;refine(HF.out _ ?_).mono ?_;(·first|exact Below.refl _ _|exact(Below.refl _ _).drew|exact ME (Below.refl _ _) _);rintro e W2 ⟨rfl,hP2,hB2⟩;have HQ:=aA (aI hP2 hB2);clear hP2 hB2)
 all_goals (go_wp2;go_end0;exact⟨rfl,HQ.out.1,⟨HQ.out.2.os,HQ.out.2.tape,HQ.out.2.output,HQ.out.2.size,HQ.out.2.block⟩⟩)
theorem uP{L:List Tok}{bp tb cp:Nat}{w:World}{k:Nat}{n:Int}{cd ps:Nat}(h:PS L bp tb cp w k n cd ps)(hc:0<cd):
 Calls Tryz.prog 32 #[.pointer (some ⟨bp,0,none⟩)] w fun e w'=>e=.returned (.tuple #[])∧Below w.heap.size w w':=by
 obtain⟨x0,x1,x2,x3,x4,xf⟩:=h.cells
 obtain⟨y0,y1,y2,y3⟩:=h.tokens
 have hlt:=h.lt
 have hlen:=h.len
 have HF:=aA (fun W (hW:Below w.heap.size w W) c a=>UI (h.below hW) hc c a)
 clear h
 generalize (cA L k).pos=K2 at *
 generalize L.length=LL at *
 go_enter Tryz.func32,Tryz.ntmps32
 go_wp2_with fail
 go_region_with (go_at_call 62;refine(HF.out _ ?_ _ _).mono ?_;(·first|exact Below.refl _ _|exact(Below.refl _ _).drew|exact ME (Below.refl _ _) _);rintro e W2 ⟨rfl,rfl⟩)
 all_goals (go_wp2;go_end0;refine⟨rfl,?_⟩;first|exact Below.refl _ _|exact(Below.refl _ _).drew|exact ME (Below.refl _ _) _)
theorem XT{L:List Tok}{bp tb cp:Nat}{w:World}{k:Nat}{n:Int}(h:PS L bp tb cp w k n 0 0)(hk:(cA L k).kind≠.b)(s:ByteArray):
 Calls Tryz.prog 111 #[.pointer (some ⟨bp,0,none⟩),.string s] w fun e w'=>e=.returned (.bool (qK L s k))∧Below w.heap.size w w':=by
 have HS:=aA (RD h hk)
 have hO:Hid (qK L s k=(decide ((cA L k).kind≠.e)&&((cA L k).text.toList==s.toList))):=rfl
 have h1:((kB (cA L k).kind).toList==[120])=false:=by
  cases (cA L k).kind<;>(rw[Lib.toList_data];decide)
 have h2:((kB (cA L k).kind).toList==[101])=!decide ((cA L k).kind≠.e):=by
  cases (cA L k).kind<;>(rw[Lib.toList_data];decide)
 unfold sI at HS
 generalize qK L s k=O at *
 generalize decide ((cA L k).kind≠.e)=E at *
 generalize kB (cA L k).kind=K0 at *
 generalize (cA L k).text=K1 at *
 generalize (cA L k).pos=K2 at *
 generalize (cA L k).code=K3 at *
 clear h hk
 cases E
 ·have h2:(K0.toList==[101])=true:=h2
  go_enter Tryz.func111,Tryz.ntmps111
  go_wp2_with (go_at_call 30;refine HS.out.mono ?_;rintro e W2 ⟨rfl,hB2⟩;have HQ:=aA hB2;clear hB2)
  go_ret
  exact⟨CB (by rw[hO.out];simp),HQ.out.alloc HQ.out.size _⟩
 ·have h2:(K0.toList==[101])=false:=h2
  go_enter Tryz.func111,Tryz.ntmps111
  go_wp2_with (go_at_call 30;refine HS.out.mono ?_;rintro e W2 ⟨rfl,hB2⟩;have HQ:=aA hB2;clear hB2)
  go_ret
  exact⟨CB (by rw[hO.out];simp),HQ.out.alloc HQ.out.size _⟩
theorem kQ{L:List Tok}{bp tb cp:Nat}{w:World}{k:Nat}{n:Int}{cd ps:Nat}(h:PS L bp tb cp w k n cd ps)(hc:0<cd)(s:ByteArray):
 Calls Tryz.prog 111 #[.pointer (some ⟨bp,0,none⟩),.string s] w fun e w'=>e=.returned (.bool false)∧Below w.heap.size w w':=by
 have HS:=aA (QL h hc)
 unfold vP at HS
 clear h hc
 go_enter Tryz.func111,Tryz.ntmps111
 go_wp2_with (go_at_call 30;refine HS.out.mono ?_;rintro e W2 ⟨rfl,hB2⟩;have HQ:=aA hB2;clear hB2)
 go_ret
 exact⟨rfl,HQ.out.alloc HQ.out.size _⟩
theorem SH{L:List Tok}{bp tb cp:Nat}{w:World}{k n:Nat}(h:POk L bp tb cp w k n)(s:ByteArray):
 Calls Tryz.prog 64 #[.pointer (some ⟨bp,0,none⟩),.string s] w fun e w'=>(∃b,e=.returned (.bool b)∧PSt L bp tb cp w' (yB L s k n) (fun x=>x=b))∧BelX w.heap.size bp w w':=by
 have HI:=aA (XT h.s h.nb s)
 have HP:=aA h
 have HS:=aA (fun W (hW:Below w.heap.size w W)=>SD (h.below hW))
 have HR:Hid (yB L s k n=if qK L s k=true then (pA L k n).bind fun _ k n=>.ok true k n else .ok false k n):=rfl
 clear h
 generalize qK L s k=b at *
 cases b
 ·go_enter Tryz.func64,Tryz.ntmps64
  go_wp2_with (go_at_call 111;refine HI.out.mono ?_;rintro e W2 ⟨rfl,hB2⟩;have HQ:=aA hB2;clear hB2)
  go_ret
  refine⟨⟨false,rfl,?_⟩,Below.x HQ.out bp (nR _)⟩
  rw[HR.out]
  exact⟨HP.out.below HQ.out,rfl⟩
 ·go_enter Tryz.func64,Tryz.ntmps64
  go_wp2_with (first|(go_at_call 111;refine HI.out.mono ?_;rintro e W2 ⟨rfl,hB2⟩;have HQ:=aA hB2;clear hB2)|(go_at_call 110;refine(HS.out _ HQ.out).mono ?_;rintro e W3 ⟨rfl,hP3,hB3⟩;have HQ3:=aA (aI hP3 hB3);clear hP3 hB3))
  go_ret
  refine⟨⟨true,rfl,?_⟩,(Below.x HQ.out bp (nR _)).then HQ3.out.2 HQ.out.size⟩
  rw[HR.out,if_pos trivial]
  have h3:=HQ3.out.1
  cases hr:pA L k n with
  |out=>exact trivial
  |bad c a=>rw[hr] at h3;exact h3
  |ok x k' n'=>rw[hr] at h3;exact⟨h3.1,rfl⟩
theorem aF{L:List Tok}{bp tb cp:Nat}{w:World}{c a:Nat}(h:PBad L bp tb cp w c a)(s:ByteArray):
 Calls Tryz.prog 64 #[.pointer (some ⟨bp,0,none⟩),.string s] w fun e w'=>e=.returned (.bool false)∧Below w.heap.size w w':=by
 obtain⟨hc,k,n,h⟩:=h
 have HI:=aA (kQ h hc s)
 clear h hc
 go_enter Tryz.func64,Tryz.ntmps64
 go_wp2_with (go_at_call 111;refine HI.out.mono ?_;rintro e W2 ⟨rfl,hB2⟩;have HQ:=aA hB2;clear hB2)
 go_ret
 exact⟨rfl,HQ.out⟩
theorem ZJ{L:List Tok}{bp tb cp:Nat}{w:World}{k n:Nat}{α:Type}(h:POk L bp tb cp w k n)(V:α→Prop):
 Calls Tryz.prog 32 #[.pointer (some ⟨bp,0,none⟩)] w fun e w'=>e=.returned (.tuple #[])∧PSt L bp tb cp w' (RC L k:PR α) V∧BelX w.heap.size bp w w':=by
 refine(sM h.s).mono ?_
 rintro e w' ⟨rfl,h1,h2⟩
 exact⟨rfl,⟨by omega,_,_,h1⟩,h2⟩
theorem DA(L:List Tok)(k n:Nat):pA L k n≠.out:=by
 unfold pA
 split<;>(intro h;cases h)
def yU(L:List Tok)(bp tb cp:Nat)(w':World){α:Type}(r:PR α):Prop:=match r with
 | .out=>True
 | .bad c a=>PBad L bp tb cp w' c a
 | .ok _ k _=>PBad L bp tb cp w' 1 (cA L k).pos
theorem gF{L:List Tok}{bp tb cp:Nat}{w:World}{α:Type}{r:PR α}{V:α→Prop}(h:PSt L bp tb cp w r V)(hr:r≠.out):
 Calls Tryz.prog 32 #[.pointer (some ⟨bp,0,none⟩)] w fun e w'=>e=.returned (.tuple #[])∧yU L bp tb cp w' r∧BelX w.heap.size bp w w':=by
 cases r with
 |out=>exact absurd rfl hr
 |bad c a=>
  obtain⟨hc,k,n,h1⟩:=h
  refine(uP h1 hc).mono ?_
  rintro e w' ⟨rfl,h2⟩
  exact⟨rfl,⟨hc,_,_,h1.below h2⟩,Below.x h2 bp (nR _)⟩
 |ok x k n=>
  refine(sM h.1.s).mono ?_
  rintro e w' ⟨rfl,h1,h2⟩
  exact⟨rfl,⟨by omega,_,_,h1⟩,h2⟩
theorem dE(L:List Tok)(s:ByteArray)(k n:Nat):yB L s k n≠.out:=by
 unfold yB
 split
 ·cases h:pA L k n with
  |out=>exact absurd h (DA L k n)
  |bad c a=>intro h;cases h
  |ok x k n=>intro h;cases h
 ·intro h;cases h
theorem UN{L:List Tok}{bp tb cp:Nat}{w:World}{k n:Nat}(h:POk L bp tb cp w k n)(s:ByteArray):
 Calls Tryz.prog 65 #[.pointer (some ⟨bp,0,none⟩),.string s] w fun e w'=>e=.returned (.tuple #[])∧PSt L bp tb cp w' (oA L s k n) (fun _=>True)∧BelX w.heap.size bp w w':=by
 have HT:=aA (SH h s)
 have HN:Hid (oA L s k n=if qK L s k=true then pA L k n else RC L k):=rfl
 have HR:Hid (yB L s k n=if qK L s k=true then (pA L k n).bind fun _ k n=>.ok true k n else .ok false k n):=rfl
 have HW:=aA (fun (W:World) (V:Bool→Prop) (hW:PSt L bp tb cp W (yB L s k n) V)=>gF hW (dE L s k n))
 clear h
 go_enter Tryz.func65,Tryz.ntmps65
 go_wp2_with (first|(go_at_call 64;refine HT.out.mono ?_;rintro e W2 ⟨⟨b,rfl,hP2⟩,hB2⟩;have HQ:=aA (aI hP2 hB2);clear hP2 hB2)|(go_at_call 32;refine(HW.out _ _ HQ.out.1).mono ?_;rintro e W3 ⟨rfl,hP3,hB3⟩;have HQ3:=aA (aI hP3 hB3);clear hP3 hB3))
 ·go_end0
  have hb:b=false:=by simp_all
  subst hb
  refine⟨rfl,?_,HQ.out.2.then HQ3.out.2 HQ.out.2.size⟩
  have h2:=HQ.out.1
  have h3:=HQ3.out.1
  rw[HR.out] at h2 h3
  rw[HN.out]
  by_cases hi:qK L s k=true
  ·rw[if_pos hi] at h2 h3 ⊢
   cases hr:pA L k n with
   |out=>exact trivial
   |bad c a=>rw[hr] at h3;exact h3
   |ok x k' n'=>rw[hr] at h2;exact absurd h2.2 (by simp)
  ·rw[if_neg hi] at h3 ⊢
   exact h3
 ·go_end0
  have hb:b=true:=by simp_all
  subst hb
  refine⟨rfl,?_,HQ.out.2⟩
  have h2:=HQ.out.1
  rw[HR.out] at h2
  rw[HN.out]
  by_cases hi:qK L s k=true
  ·rw[if_pos hi] at h2 ⊢
   cases hr:pA L k n with
   |out=>exact trivial
   |bad c a=>rw[hr] at h2;exact h2
   |ok x k' n'=>rw[hr] at h2;exact⟨h2.1,trivial⟩
  ·rw[if_neg hi] at h2
   exact absurd h2.2 (by simp)
theorem uQ{L:List Tok}{bp tb cp:Nat}{w:World}{c a:Nat}(h:PBad L bp tb cp w c a)(s:ByteArray):
 Calls Tryz.prog 65 #[.pointer (some ⟨bp,0,none⟩),.string s] w fun e w'=>e=.returned (.tuple #[])∧PBad L bp tb cp w' c a∧BelX w.heap.size bp w w':=by
 have HT:=aA (aF h s)
 have HP:=aA h
 have HW:=aA (fun (W:World) (hW:PBad L bp tb cp W c a)=>gF (r:=(.bad c a:PR Unit)) (V:=fun _=>True) hW (by intro h;cases h))
 clear h
 go_enter Tryz.func65,Tryz.ntmps65
 go_wp2_with (first|(go_at_call 64;refine HT.out.mono ?_;rintro e W2 ⟨rfl,hB2⟩;have HQ:=aA hB2;clear hB2)|(go_at_call 32;refine(HW.out _ (HP.out.below HQ.out)).mono ?_;rintro e W3 ⟨rfl,hP3,hB3⟩;have HQ3:=aA (aI hP3 hB3);clear hP3 hB3))
 go_end0
 exact⟨rfl,HQ3.out.1,(Below.x HQ.out bp (nR _)).then HQ3.out.2 HQ.out.size⟩
def aD(ls:List ByteArray)(s:ByteArray):Int:=match iA ls s with
 |none=>-1
 |some i=>i
theorem PJ{ls:List ByteArray}{s:ByteArray}(h:∀(j:Nat) x,ls[j]?=some x→(x.toList==s.toList)=false):aD ls s=-1:=by
 unfold aD iA
 rw[List.findIdx?_eq_none_iff.2 (fun x hx=>by
  obtain⟨j,hj,rfl⟩:=List.mem_iff_getElem.1 hx
  exact h j _ (List.getElem?_eq_getElem hj))]
theorem QJ{ls:List ByteArray}{s x:ByteArray}{i:Nat}(hx:ls[i]?=some x)(h1:(x.toList==s.toList)=true)(h2:∀(j:Nat) y,j<i→ls[j]?=some y→(y.toList==s.toList)=false):aD ls s=i:=by
 unfold aD iA
 have:ls.findIdx? (fun x=>vA x s)=some i:=by
  rw[List.findIdx?_eq_some_iff_getElem]
  obtain⟨hi,rfl⟩:=List.getElem?_eq_some_iff.1 hx
  refine⟨hi,h1,fun j hj=>?_⟩
  have hjl:j<ls.length:=by omega
  have:=h2 j (ls[j]'hjl) hj (List.getElem?_eq_getElem hjl)
  unfold vA
  simpa using this
 rw[this]
theorem plcI_neg{ls:List ByteArray}{s:ByteArray}:aD ls s<0↔iA ls s=none:=by
 unfold aD
 cases iA ls s with
 |none=>simp
 |some i=>simp
theorem zF(ls:List ByteArray)(b o c:Nat)(w:World)(hk:∀i s,ls[i]?=some s→w.cell? ⟨b,o+i,none⟩=some (.string s))(hn:ls.length≤1000)(s:ByteArray):
 Calls Tryz.prog 28 #[.string s,.slice (some ⟨b,o,none⟩) ls.length c] w fun e w'=>e=.returned (.int .i64 (aD ls s))∧w'=w:=by
 have HK:=aA hk
 obtain⟨n,hnn⟩:∃n,n=ls.length:=⟨_,rfl⟩
 have HL:=aA hnn
 rw[←hnn] at hn ⊢
 clear hk hnn
 go_enter Tryz.func28,Tryz.ntmps28
 go_wp2_with fail
 go_loopw [5] (fun t wr=>∃i:Nat,i≤n∧t=.int .i64 i∧wr=w∧∀(j:Nat) y,j<i→ls[j]?=some y→(y.toList==s.toList)=false) (fun t _=>(n - RowKit.intOf t).toNat)
 case atStart=>exact⟨0,by omega,rfl,rfl,fun j y hj=>by omega⟩
 case round=>
  obtain⟨i,hi,rfl,rfl,hno⟩:=hrel
  have HN:=aA hno
  clear hno
  by_cases hin:i<n
  ·have hiz:(i:Int)<n:=by omega
   obtain⟨x,hx⟩:∃x,ls[i]?=some x:=⟨_,List.getElem?_eq_getElem (by have:=HL.out;omega)⟩
   have y0:=HK.out i x hx
   have HX:=aA hx
   clear hx
   cases hq:(x.toList==s.toList)
   ·have HQ:=aA hq
    go_wp2
    go_roundw
    case rel=>
     refine⟨i+1,by omega,by go_num,trivial,fun j y hj hy=>?_⟩
     rcases Nat.lt_or_ge j i with h|h
     ·exact HN.out j y h hy
     ·obtain rfl:j=i:=by omega
      rw[HX.out] at hy
      injection hy with hy
      subst hy
      exact HQ.out
    case measure=>simp[RowKit.intOf];omega
   ·have HQ:=aA hq
    go_wp2
    go_ret
    refine⟨?_,rfl⟩
    rw[QJ HX.out HQ.out HN.out]
    rfl
  ·obtain rfl:i=n:=by omega
   go_wp2
   go_ret
   refine⟨?_,rfl⟩
   rw[PJ fun j y hy=>HN.out j y (by have:=(List.getElem?_eq_some_iff.1 hy).1;have:=HL.out;omega) hy]
   rfl
theorem tD(w:World)(ls:List ByteArray)(t:TypeId):∀i s,ls[i]?=some s→(w.alloc (.cells (ls.map Value.string).toArray t)).cell? ⟨w.heap.size,0+i,none⟩=some (.string s):=by
 intro i s h
 have h1:=heap_alloc_new w (.cells (ls.map Value.string).toArray t)
 unfold World.cell?
 rw[h1]
 simp[h]
theorem oL(w:World):Calls Tryz.prog 109 #[] w fun e w'=>e=.returned (.slice (some ⟨w.heap.size,0,none⟩) 34 34)∧w'=w.alloc (.cells (gramW.map Value.string).toArray 9):=by
 go_enter Tryz.func109,Tryz.ntmps109
 go_wp2
 go_ret
 exact⟨rfl,rfl⟩
theorem PS.nest{L:List Tok}{bp tb cp:Nat}{w:World}{k:Nat}{n:Int}{cd ps:Nat}(h:PS L bp tb cp w k n cd ps)(n':Int):
 PS L bp tb cp (w.setCell ⟨bp,2,none⟩ (.int .i64 n')) k n' cd ps∧BelX w.heap.size bp w (w.setCell ⟨bp,2,none⟩ (.int .i64 n')):=by
 have hB:BelX w.heap.size bp w (w.setCell ⟨bp,2,none⟩ (.int .i64 n')):=(BelX.refl w.heap.size bp w).setCell (p:=⟨bp,2,none⟩) (.inr rfl) _
 refine⟨h.turn hB h.lt ?_,hB⟩
 rw[LA h.blk _]
 simp
theorem ZD{L:List Tok}{bp tb cp:Nat}{w:World}{k n:Nat}(h:POk L bp tb cp w k n):
 Calls Tryz.prog 148 #[.pointer (some ⟨bp,0,none⟩)] w fun e w'=>e=.returned (.tuple #[])∧PSt L bp tb cp w' (qA L k n) (fun _=>True)∧BelX w.heap.size bp w w':=by
 have HS:=aA (RD h.s h.nb)
 have HP:=aA h
 have hn:=h.nd
 have hw1:IntKind.i64.wrap ((n:Int)+1)=(n:Int)+1:=by unfold IntKind.wrap;simp[IntKind.bits,IntKind.signed];omega
 have HC:=aA (fun W (hW:Below w.heap.size w W)=>(h.s.below hW).cells)
 have HF:=aA (fun W (hW:Below w.heap.size w W)=>oG (h.s.below hW) 2 (cA L k).pos)
 unfold sI at HS
 have HR:Hid (qA L k n=if n=40 then .bad 2 (cA L k).pos else .ok () k (n+1)):=rfl
 clear h
 generalize kB (cA L k).kind=K0 at *
 generalize (cA L k).text=K1 at *
 generalize (cA L k).code=K3 at *
 by_cases h40:n=40
 ·have hz:((n:Int)==40)=true:=by rw[h40];rfl
  rw[if_pos h40] at HR
  go_enter Tryz.func148,Tryz.ntmps148
  go_wp2_with (first|(go_at_call 30;refine HS.out.mono ?_;rintro e W2 ⟨rfl,hB2⟩;have hB3:=hB2.alloc hB2.size (.cells #[.string K0,.string K1,.int .i64 (cA L k).pos,.int .i64 K3] 82);obtain⟨x0,x1,x2,x3,x4,xf⟩:=HC.out _ hB3;have HQ:=aA hB3;clear hB2 hB3)|(go_at_call 62;refine(HF.out _ HQ.out).mono ?_;rintro e W4 ⟨rfl,hP4,hB4⟩;obtain⟨z0,z1,z2,z3,z4,zf⟩:=hP4.cells;have HQ4:=aA (aI hP4 hB4);clear hP4 hB4))
  go_end0
  have h5:=fun m=>HQ4.out.1.nest m
  refine⟨rfl,?_,((Below.x HQ.out bp (nR _)).then HQ4.out.2 HQ.out.size).then (h5 _).2 (Nat.le_trans HQ.out.size HQ4.out.2.size)⟩
  rw[HR.out]
  exact⟨by omega,_,_,(h5 _).1⟩
 ·have hz:((n:Int)==40)=false:=by rw[beq_eq_false_iff_ne];omega
  rw[if_neg h40] at HR
  go_enter Tryz.func148,Tryz.ntmps148
  go_wp2_with (go_at_call 30;refine HS.out.mono ?_;rintro e W2 ⟨rfl,hB2⟩;have hB3:=hB2.alloc hB2.size (.cells #[.string K0,.string K1,.int .i64 (cA L k).pos,.int .i64 K3] 82);obtain⟨x0,x1,x2,x3,x4,xf⟩:=HC.out _ hB3;have HQ:=aA hB3;clear hB2 hB3)
  go_end0
  have h5:=(HP.out.s.below HQ.out).nest ((n:Int)+1)
  refine⟨rfl,?_,(Below.x HQ.out bp (nR _)).then h5.2 HQ.out.size⟩
  rw[HR.out]
  refine⟨⟨?_,HP.out.nb,by omega⟩,trivial⟩
  have h6:=h5.1
  rw[show ((n:Int)+1)=((n+1:Nat):Int) by omega] at h6
  simpa using h6
end Go.Proofs.YtehbinobohjadaaGreatDoor
