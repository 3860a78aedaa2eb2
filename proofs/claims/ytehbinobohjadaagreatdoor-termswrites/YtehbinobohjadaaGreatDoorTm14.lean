import Derived.Test.YtehbinobohjadaaGreatDoorTm00
import Derived.Test.YtehbinobohjadaaGreatDoorTm09
import Derived.WalkLawsBesides
import Derived.Deep.LoopGhost
import Derived.BigQuiet
set_option maxHeartbeats 20000000
set_option maxRecDepth 20000
namespace Go.Proofs.YtehbinobohjadaaGreatDoor
open Go.RowKit Go.Extern.Stop Go.Stop Go.Extern
theorem eI{L:List Tok}{rp tb:Nat}{w:World}{k n:Nat}(h:QS L rp tb w k n)(s:ByteArray):
 Calls Tryz.prog 118 #[.pointer (some ⟨rp,0,none⟩),.string s] w fun e w'=>e=.returned (.bool (YB L s k))∧w'=w:=by
 obtain⟨m,c,hm,h1,hc,h4,x0,x1,xf⟩:=h.cells
 obtain⟨y0,y1,y2⟩:=h.tokens
 have hO:Hid (YB L s k=((cA L k).text.toList==s.toList)):=rfl
 clear h
 generalize YB L s k=O at *
 generalize (cA L k).text=K1 at *
 go_enter Tryz.func118,Tryz.ntmps118
 go_wp2
 go_ret
 exact⟨CB hO.out.symm,rfl⟩
theorem IE(t:Nat)(p:Addr)(w:World):
 Calls Tryz.prog 50 #[.iface t (.pointer (some p))] w fun e w'=>e=.panicked [{v:=.iface 88 (.agg #[.iface t (.pointer (some p))]),recovered:=false}]∧w'=w:=by
 go_enter Tryz.func50,Tryz.ntmps50
 go_wp2
 exact⟨rfl,rfl,rfl⟩
theorem FD{L:List Tok}{rp tb:Nat}{w:World}{k n:Nat}(h:QS L rp tb w k n)(t:Nat)(p:Addr):
 Calls Tryz.prog 44 #[.pointer (some ⟨rp,0,none⟩),.iface t (.pointer (some p))] w fun e w'=>vW e∧Below w.heap.size w w':=by
 obtain⟨m,c,hm,h1,hc,h4,x0,x1,xf⟩:=h.cells
 obtain⟨y0,y1,y2⟩:=h.tokens
 clear h
 generalize (cA L k).pos=K1 at *
 go_enter Tryz.func44,Tryz.ntmps44
 go_wp2_with (go_at_call 50;refine(IE _ _ _).mono ?_;rintro e w' ⟨rfl,rfl⟩)
 exact⟨rfl,⟨_,rfl⟩,bA _ _⟩
theorem ZF{L:List Tok}{rp tb:Nat}{w:World}{k n:Nat}(h:QS L rp tb w k n)(hk:k+1<L.length):
 Calls Tryz.prog 35 #[.pointer (some ⟨rp,0,none⟩)] w fun e w'=>e=.returned (.string (cA L k).text)∧QS L rp tb w' (k+1) n∧BelX w.heap.size rp w w':=by
 obtain⟨m,c,hm,hc,hblk⟩:=h.blk
 obtain⟨x0,x1,xf⟩:w.cell? ⟨rp,0,none⟩=some (.slice (some ⟨tb,k * 3,none⟩) m c)∧w.cell? ⟨rp,1,none⟩=some (.int .i64 n)∧∀i,w.frozen? ⟨rp,i,none⟩=false:=⟨by simp[World.cell?,hblk],by simp[World.cell?,hblk],by simp[World.frozen?,hblk]⟩
 have hl4:=h.ok.len
 have h2:2≤m:=by omega
 have h4:m≤400:=by omega
 obtain⟨y0,y1,y2⟩:=h.tokens
 have HP:=aA (aI h hblk)
 clear h hblk
 generalize (cA L k).text=K1 at *
 go_enter Tryz.func35,Tryz.ntmps35
 go_wp2
 go_ret
 have hb:BelX w.heap.size rp w (w.setCell ⟨rp,0,none⟩ (.slice (some ⟨tb,k * 3+3,none⟩) (m - 1) (c - 1))):=(BelX.refl w.heap.size rp w).setCell (p:=⟨rp,0,none⟩) (.inr rfl) _
 refine⟨rfl,HP.out.1.turn hb hk HP.out.1.nd ⟨m - 1,c - 1,by omega,by omega,?_⟩,hb⟩
 rw[LA HP.out.2 _,show (k+1) * 3=k * 3+3 by omega]
 simp
theorem qI{L:List Tok}{rp tb:Nat}{w:World}{k n:Nat}(h:QS L rp tb w k n)(s:ByteArray)(hs:s.size≠0):
 Calls Tryz.prog 80 #[.pointer (some ⟨rp,0,none⟩),.string s] w fun e w'=>e=.returned (.bool (YB L s k))∧QS L rp tb w' (if YB L s k=true then k+1 else k) n∧BelX w.heap.size rp w w':=by
 have HI:=aA (eI h s)
 cases hi:YB L s k with
 |false=>
  have HP:=aA h
  rw[hi] at HI
  clear h hi
  go_enter Tryz.func80,Tryz.ntmps80
  go_wp2_with (go_at_call 118;refine HI.out.mono ?_;rintro e w' ⟨rfl,rfl⟩)
  go_ret
  exact⟨rfl,HP.out,BelX.refl _ _ _⟩
 |true=>
  have HS:=aA (ZF h (h.more (AD hi hs)))
  rw[hi] at HI
  clear h hi
  generalize (cA L k).text=K1 at *
  go_enter Tryz.func80,Tryz.ntmps80
  go_wp2_with (first|(go_at_call 118;refine HI.out.mono ?_;rintro e w' ⟨rfl,rfl⟩)|(go_at_call 35;refine HS.out.mono ?_;rintro e w' ⟨rfl,hq,hb⟩;have HQ:=aA (aI hq hb);clear hq hb))
  go_ret
  exact⟨rfl,HQ.out.1,HQ.out.2⟩
theorem MM{L:List Tok}{rp tb:Nat}{w:World}{k n:Nat}(h:QS L rp tb w k n)(s:ByteArray)(hs:s.size≠0):
 Calls Tryz.prog 39 #[.pointer (some ⟨rp,0,none⟩),.string s] w fun e w'=>QEnd L rp tb w (bB L s k n) (fun _ v _=>v=.tuple #[]) e w':=by
 have HT:=aA (qI h s hs)
 unfold bB
 cases hi:YB L s k with
 |true=>
  rw[hi,if_pos rfl] at HT
  rw[if_pos rfl]
  clear h hi
  go_enter Tryz.func39,Tryz.ntmps39
  go_wp2_with (go_at_call 80;refine HT.out.mono ?_;rintro e w' ⟨rfl,hq,hb⟩;have HQ:=aA (aI hq hb);clear hq hb)
  go_end0
  exact⟨HQ.out.2,HQ.out.1,_,rfl,rfl⟩
 |false=>
  rw[hi,if_neg (by simp)] at HT
  rw[if_neg (by simp)]
  have HW:=aA (fun (W:World) (hq:QS L rp tb W k n)=>FD hq 189)
  clear h hi
  go_enter Tryz.func39,Tryz.ntmps39
  go_wp2_with (first|(go_at_call 80;refine HT.out.mono ?_;rintro e w' ⟨rfl,hq,hb⟩;have HQ:=aA (aI hq hb);obtain⟨pt,gt⟩:=hq.gT;clear hq hb)|(go_at_call 44;refine(HW.out _ HQ.out.1 _).mono ?_;rintro e w' ⟨⟨p,rfl⟩,hb⟩;have HB:=aA hb;clear hb))
  exact⟨rfl,HQ.out.2.then (Below.x HB.out _ (nR _)) HQ.out.2.size,⟨_,rfl⟩⟩
theorem AS{L:List Tok}{rp tb:Nat}{w:World}{k n:Nat}(h:QS L rp tb w k n)(hk:k+1<L.length):
 Calls Tryz.prog 141 #[.pointer (some ⟨rp,0,none⟩)] w fun e w'=>QEnd L rp tb w (TB L k n) (fun x v _=>v=.string x) e w':=by
 obtain⟨m,c,hm,hc,hblk⟩:=h.blk
 obtain⟨x0,x1,xf⟩:w.cell? ⟨rp,0,none⟩=some (.slice (some ⟨tb,k * 3,none⟩) m c)∧w.cell? ⟨rp,1,none⟩=some (.int .i64 n)∧∀i,w.frozen? ⟨rp,i,none⟩=false:=⟨by simp[World.cell?,hblk],by simp[World.cell?,hblk],by simp[World.frozen?,hblk]⟩
 obtain⟨pt,gt⟩:=h.gT
 obtain⟨pb,gb⟩:=h.gB
 have hn:=h.nd
 unfold TB
 by_cases h40:n=40
 ·have HW:=aA (fun (W:World) (hq:QS L rp tb W k n)=>FD hq 189)
  have HP:=aA h
  rw[if_pos h40]
  have hz:((n:Int)==40)=true:=by rw[h40];rfl
  clear h hblk
  go_enter Tryz.func141,Tryz.ntmps141
  go_wp2_with (go_at_call 44;refine(HW.out _ HP.out _).mono ?_;rintro e w' ⟨⟨p,rfl⟩,hb⟩;have HB:=aA hb;clear hb)
  exact⟨rfl,Below.x HB.out _ (nR _),⟨_,rfl⟩⟩
 ·have hz:((n:Int)==40)=false:=by rw[beq_eq_false_iff_ne];omega
  rw[if_neg h40]
  have hb:BelX w.heap.size rp w (w.setCell ⟨rp,1,none⟩ (.int .i64 ((n:Int)+1))):=(BelX.refl w.heap.size rp w).setCell (p:=⟨rp,1,none⟩) (.inr rfl) _
  have hq1:QS L rp tb (w.setCell ⟨rp,1,none⟩ (.int .i64 ((n:Int)+1))) k (n+1):=h.turn hb h.lt (by omega) ⟨m,c,hm,hc,by rw[LA hblk _];simp⟩
  have HS:=aA (ZF hq1 hk)
  have HB:=aA hb
  generalize hW:w.setCell ⟨rp,1,none⟩ (.int .i64 ((n:Int)+1))=W at *
  have HX:=aA hW
  clear h hblk hq1 hb hW
  generalize (cA L k).text=K1 at *
  go_enter Tryz.func141,Tryz.ntmps141
  go_wp2_with (go_at_call 35;rw[HX.out];refine HS.out.mono ?_;rintro e w' ⟨rfl,hq,hb⟩;have HQ:=aA (aI hq hb);clear hq hb)
  go_ret
  exact⟨HB.out.then HQ.out.2 HB.out.size,HQ.out.1,_,rfl,rfl⟩
theorem VP{n:Nat}(h1:1≤n)(h2:n≤40):wrap64 ((n:Int) - 1)=((n - 1:Nat):Int):=by
 unfold wrap64
 omega
theorem QS.dec{L:List Tok}{rp tb:Nat}{w:World}{k n:Nat}(h:QS L rp tb w k n)(hn:1≤n):QS L rp tb (w.setCell ⟨rp,1,none⟩ (.int .i64 (wrap64 ((n:Int) - 1)))) k (n - 1)∧BelX w.heap.size rp w (w.setCell ⟨rp,1,none⟩ (.int .i64 (wrap64 ((n:Int) - 1)))):=by
 obtain⟨m,c,hm,hc,hblk⟩:=h.blk
 have hb:BelX w.heap.size rp w (w.setCell ⟨rp,1,none⟩ (.int .i64 (wrap64 ((n:Int) - 1)))):=(BelX.refl w.heap.size rp w).setCell (p:=⟨rp,1,none⟩) (.inr rfl) _
 have:=h.nd
 refine⟨h.turn hb h.lt (by omega) ⟨m,c,hm,hc,?_⟩,hb⟩
 rw[LA hblk _,VP hn h.nd]
 simp
theorem RS{L:List Tok}{rp tb:Nat}{w:World}{k n:Nat}(h:QS L rp tb w k n)(s:ByteArray)(hs:s.size≠0)(hn:1≤n):
 Calls Tryz.prog 151 #[.pointer (some ⟨rp,0,none⟩),.string s] w fun e w'=>QEnd L rp tb w (dC L s k n) (fun _ v _=>v=.tuple #[]) e w':=by
 have HN:=aA (MM h s hs)
 unfold dC
 cases hr:bB L s k n with
 |out=>exact absurd hr (by unfold bB;split<;>(intro h;cases h))
 |bad c a=>
  rw[hr] at HN
  clear h hr
  rw[PR.bind_bad]
  go_enter Tryz.func151,Tryz.ntmps151
  go_wp2_with (go_at_call 39;refine HN.out.mono ?_;rintro e w' ⟨hb,⟨p,rfl⟩⟩;have HB:=aA hb;clear hb)
  exact⟨rfl,HB.out,⟨_,rfl⟩⟩
 |ok x k1 n1=>
  have hn1:n1=n:=by
   unfold bB at hr
   split at hr
   ·injection hr with _ _ h;exact h.symm
   ·cases hr
  subst hn1
  rw[hr] at HN
  clear h hr
  rw[PR.bind_ok]
  go_enter Tryz.func151,Tryz.ntmps151
  go_wp2_with (go_at_call 39;refine HN.out.mono ?_;rintro e w' ⟨hb,hq,v,rfl,rfl⟩;have HQ:=aA (aI hq hb);obtain⟨m,c,hm,hc,hblk⟩:=hq.blk;have x1:w'.cell? ⟨rp,1,none⟩=some (.int .i64 n1):=(by simp[World.cell?,hblk]);have xf:∀i,w'.frozen? ⟨rp,i,none⟩=false:=(by simp[World.frozen?,hblk]);have HBk:=aA hblk;clear hq hb hblk)
  go_end0
  have hd:=HQ.out.1.dec hn
  exact⟨HQ.out.2.then hd.2 HQ.out.2.size,hd.1,_,rfl,rfl⟩
theorem NN(ls:List ByteArray)(b o c:Nat)(w:World)(hk:∀i s,ls[i]?=some s→w.cell? ⟨b,o+i,none⟩=some (.string s))(hn:ls.length≤1000)(s:ByteArray):
 Calls Tryz.prog 79 #[.slice (some ⟨b,o,none⟩) ls.length c,.string s] w fun e w'=>e=.returned (.int .i64 (aD ls s))∧w'=w:=by
 have HK:=aA hk
 obtain⟨n,hnn⟩:∃n,n=ls.length:=⟨_,rfl⟩
 have HL:=aA hnn
 rw[←hnn] at hn ⊢
 clear hk hnn
 go_enter Tryz.func79,Tryz.ntmps79
 go_wp2_with fail
 go_loopw [8] (fun t wr=>∃i:Nat,i≤n∧t=.int .i64 i∧wr=w∧∀(j:Nat) y,j<i→ls[j]?=some y→(y.toList==s.toList)=false) (fun t _=>(n - RowKit.intOf t).toNat)
 case atStart=>exact⟨0,by omega,rfl,rfl,fun j y hj=>by omega⟩
 case round=>
  obtain⟨i,hi,rfl,rfl,hno⟩:=hrel
  have HN:=aA hno
  clear hno
  by_cases hin:i<n
  ·have hiz:(i:Int)<n:=by omega
   obtain⟨x,hx⟩:∃x,ls[i]?=some x:=⟨_,List.getElem?_eq_getElem (by have:=HL.out;omega)⟩
   have y0:=HK.out i x hx
   have HX:=aA hx
   clear hx
   cases hq:(s.toList==x.toList)
   ·have HQ:=aA (show (x.toList==s.toList)=false by rw[←hq];exact Bool.beq_comm)
    go_wp2
    go_roundw
    case rel=>
     refine⟨i+1,by omega,by go_num,trivial,fun j y hj hy=>?_⟩
     rcases Nat.lt_or_ge j i with h|h
     ·exact HN.out j y h hy
     ·obtain rfl:j=i:=by omega
      rw[HX.out] at hy
      injection hy with hy
      subst hy
      exact HQ.out
    case measure=>simp[RowKit.intOf];omega
   ·have HQ:=aA (show (x.toList==s.toList)=true by rw[←hq];exact Bool.beq_comm)
    go_wp2
    go_ret
    refine⟨?_,rfl⟩
    rw[QJ HX.out HQ.out HN.out]
    rfl
  ·obtain rfl:i=n:=by omega
   go_wp2
   go_ret
   refine⟨?_,rfl⟩
   rw[PJ fun j y hy=>HN.out j y (by have:=(List.getElem?_eq_some_iff.1 hy).1;have:=HL.out;omega) hy]
   rfl
theorem wM(ls:List ByteArray)(b o c:Nat)(w:World)(hk:∀i s,ls[i]?=some s→w.cell? ⟨b,o+i,none⟩=some (.string s))(hn:ls.length≤1000)(s:ByteArray):
 Calls Tryz.prog 139 #[.slice (some ⟨b,o,none⟩) ls.length c,.string s] w fun e w'=>e=.returned (.bool (decide (0≤aD ls s)))∧w'=w:=by
 have HI:=aA (NN ls b o c w hk hn s)
 clear hk
 generalize aD ls s=O at *
 generalize ls.length=n at *
 go_enter Tryz.func139,Tryz.ntmps139
 go_wp2_with (go_at_call 79;refine HI.out.mono ?_;rintro e w' ⟨rfl,rfl⟩)
 go_ret
 refine⟨CB ?_,rfl⟩
 simp
def strengthsQ:List ByteArray:=[wStrict,⟨#[]⟩,wDefeater]
def rollsQ:List ByteArray:=[⟨#[]⟩,nM,XH]
structure NewRow(ls:List ByteArray)(w:World)(e:Ending)(w':World):Prop where
 e:e=.returned (.slice (some ⟨w.heap.size,0,none⟩) ls.length ls.length)
 b:Below w.heap.size w w'
 c:∀i s,ls[i]?=some s→w'.cell? ⟨w.heap.size,i,none⟩=some (.string s)
 s:w'.heap.size=w.heap.size+1
theorem vK(ls:List ByteArray)(w:World)(t:TypeId):NewRow ls w (.returned (.slice (some ⟨w.heap.size,0,none⟩) ls.length ls.length)) (w.alloc (.cells (ls.map Value.string).toArray t)):=by
 refine⟨rfl,bA _ _,fun i s h=>?_,by simp⟩
 have h1:=heap_alloc_new w (.cells (ls.map Value.string).toArray t)
 unfold World.cell?
 rw[h1]
 simp[h]
theorem NK(w:World):Calls Tryz.prog 86 #[] w (NewRow waysW w):=by
 go_enter Tryz.func86,Tryz.ntmps86
 go_wp2
 go_ret
 exact vK waysW w _
theorem PI(w:World):Calls Tryz.prog 88 #[] w (NewRow unitsW w):=by
 go_enter Tryz.func88,Tryz.ntmps88
 go_wp2
 go_ret
 exact vK unitsW w _
theorem MI(w:World):Calls Tryz.prog 89 #[] w (NewRow rollsQ w):=by
 go_enter Tryz.func89,Tryz.ntmps89
 go_wp2
 go_ret
 exact vK rollsQ w _
theorem pF(w:World):Calls Tryz.prog 38 #[] w (NewRow strengthsQ w):=by
 go_enter Tryz.func38,Tryz.ntmps38
 go_wp2
 go_ret
 exact vK strengthsQ w _
def PE(s:ByteArray):Bool:=(iA gramW s).isSome
theorem VI(s:ByteArray):PE s=true↔∃x,x∈gramW∧(s.toList==x.toList)=true:=by
 unfold PE iA
 rw[List.findIdx?_isSome,List.any_eq_true]
 constructor
 ·rintro ⟨x,h1,h2⟩
  exact⟨x,h1,by rw[←h2];exact Bool.beq_comm⟩
 ·rintro ⟨x,h1,h2⟩
  exact⟨x,h1,by rw[←h2];exact Bool.beq_comm⟩
theorem MB{s:ByteArray}(l:List UInt8)(h:(s.toList==l)=true)(x:ByteArray)(hx:x∈gramW)(hl:x.data.toList=l):PE s=true:=by
 rw[VI]
 refine⟨x,hx,?_⟩
 have e1:s.toList=l:=by simpa using h
 rw[e1,Lib.toList_data,hl];simp
theorem bT{ls:List ByteArray}{s:ByteArray}(h:0≤aD ls s)(hm:∀x,x∈ls→x.size≠0→x∈gramW)(hs:s.size≠0):PE s=true:=by
 cases hp:iA ls s with
 |none=>have:=plcI_neg.2 hp;omega
 |some i=>
  unfold iA at hp
  rw[List.findIdx?_eq_some_iff_getElem] at hp
  obtain⟨hi,h1,_⟩:=hp
  have e:ls[i].toList=s.toList:=by unfold vA at h1;simpa using h1
  rw[VI]
  refine⟨ls[i],hm _ (List.getElem_mem hi) ?_,by rw[e];simp⟩
  intro h0
  apply hs
  have h2:=congrArg List.length e
  simp only[Lib.toList_data,Array.length_toList] at h2
  show s.data.size=0
  rw[←h2];exact h0
theorem lC{ls:List ByteArray}{s x:ByteArray}(h:aD ls s<0)(hx:x∈ls):(s.toList==x.toList)=false:=by
 have h1:=plcI_neg.1 h
 unfold iA at h1
 have h2:=List.findIdx?_eq_none_iff.1 h1 x hx
 unfold vA at h2
 rw[←h2];exact Bool.beq_comm
def xC:Nat→List ByteArray
 |0=>waysW
 |1=>unitsW
 |2=>rollsQ
 |_=>strengthsQ
theorem DJ(i:Nat):(xC i).length≤1000:=by
 unfold xC
 split<;>decide
theorem KM(i:Nat)(x:ByteArray)(h:x∈xC i)(hs:x.size≠0):x∈gramW:=by
 unfold xC at h
 split at h
 ·simp only[waysW,List.mem_cons,List.not_mem_nil,or_false] at h
  rcases h with h|h|h|h|h|h<;>(subst h;simp[gramW])
 ·simp only[unitsW,List.mem_cons,List.not_mem_nil,or_false] at h
  rcases h with h|h|h|h|h<;>(subst h;simp[gramW])
 ·simp only[rollsQ,List.mem_cons,List.not_mem_nil,or_false] at h
  rcases h with h|h|h
  ·subst h;exact absurd rfl hs
  all_goals (subst h;simp[gramW])
 ·simp only[strengthsQ,List.mem_cons,List.not_mem_nil,or_false] at h
  rcases h with h|h|h
  ·subst h;simp[gramW]
  ·subst h;exact absurd rfl hs
  ·subst h;simp[gramW]
theorem JO{s:ByteArray}(h0:(s.toList==[100,101,102,105,110,101])=false)(h1:(s.toList==[114,117,108,101])=false)(h2:(s.toList==[97,109,111,117,110,116])=false)(h3:(s.toList==[100,117,116,121])=false)(h4:(s.toList==[105,102])=false)(h5:(s.toList==[111,118,101,114])=false)(h6:(s.toList==[114,111,117,110,100])=false)(h7:(s.toList==[119,105,116,104,105,110])=false)(h8:(s.toList==[101,108,115,101])=false)(h9:(s.toList==[111,114])=false)(h10:(s.toList==[97,110,100])=false)(h11:(s.toList==[110,111,116])=false)(h12:(s.toList==[115,111,109,101])=false)(h13:(s.toList==[101,118,101,114,121])=false)(h14:(s.toList==[99,111,117,110,116])=false)(h15:(s.toList==[116,111,116,97,108])=false)(h16:(s.toList==[111,102])=false)(h17:(s.toList==[109,97,120])=false)(h18:(s.toList==[109,105,110])=false)(hl:∀i,i<4→aD (xC i) s<0):PE s=false:=by
 rw[Bool.eq_false_iff]
 intro hg
 obtain⟨x,hx,he⟩:=(VI s).1 hg
 have l0:=hl 0 (by omega)
 have l1:=hl 1 (by omega)
 have l2:=hl 2 (by omega)
 have l3:=hl 3 (by omega)
 simp only[gramW,List.mem_cons,List.not_mem_nil,or_false] at hx
 rcases hx with h|h|h|h|h|h|h|h|h|h|h|h|h|h|h|h|h|h|h|h|h|h|h|h|h|h|h|h|h|h|h|h|h|h
 ·subst h;rw[Lib.toList_data wDefine] at he;exact Bool.false_ne_true (h0.symm.trans he)
 ·subst h;rw[Lib.toList_data wRule] at he;exact Bool.false_ne_true (h1.symm.trans he)
 ·subst h;rw[Lib.toList_data wAmount] at he;exact Bool.false_ne_true (h2.symm.trans he)
 ·subst h;rw[Lib.toList_data wDuty] at he;exact Bool.false_ne_true (h3.symm.trans he)
 ·subst h;exact Bool.false_ne_true ((lC l3 (by simp[xC,strengthsQ])).symm.trans he)
 ·subst h;exact Bool.false_ne_true ((lC l3 (by simp[xC,strengthsQ])).symm.trans he)
 ·subst h;rw[Lib.toList_data wIf] at he;exact Bool.false_ne_true (h4.symm.trans he)
 ·subst h;rw[Lib.toList_data wOver] at he;exact Bool.false_ne_true (h5.symm.trans he)
 ·subst h;rw[Lib.toList_data AE] at he;exact Bool.false_ne_true (h6.symm.trans he)
 ·subst h;rw[Lib.toList_data ED] at he;exact Bool.false_ne_true (h7.symm.trans he)
 ·subst h;rw[Lib.toList_data dF] at he;exact Bool.false_ne_true (h8.symm.trans he)
 ·subst h;rw[Lib.toList_data wNot] at he;exact Bool.false_ne_true (h11.symm.trans he)
 ·subst h;rw[Lib.toList_data wOr] at he;exact Bool.false_ne_true (h9.symm.trans he)
 ·subst h;rw[Lib.toList_data wAnd] at he;exact Bool.false_ne_true (h10.symm.trans he)
 ·subst h;rw[Lib.toList_data wSome] at he;exact Bool.false_ne_true (h12.symm.trans he)
 ·subst h;rw[Lib.toList_data wEvery] at he;exact Bool.false_ne_true (h13.symm.trans he)
 ·subst h;rw[Lib.toList_data wCount] at he;exact Bool.false_ne_true (h14.symm.trans he)
 ·subst h;rw[Lib.toList_data wTotal] at he;exact Bool.false_ne_true (h15.symm.trans he)
 ·subst h;rw[Lib.toList_data wOf] at he;exact Bool.false_ne_true (h16.symm.trans he)
 ·subst h;rw[Lib.toList_data wMax] at he;exact Bool.false_ne_true (h17.symm.trans he)
 ·subst h;rw[Lib.toList_data wMin] at he;exact Bool.false_ne_true (h18.symm.trans he)
 ·subst h;exact Bool.false_ne_true ((lC l0 (by simp[xC,waysW])).symm.trans he)
 ·subst h;exact Bool.false_ne_true ((lC l0 (by simp[xC,waysW])).symm.trans he)
 ·subst h;exact Bool.false_ne_true ((lC l0 (by simp[xC,waysW])).symm.trans he)
 ·subst h;exact Bool.false_ne_true ((lC l0 (by simp[xC,waysW])).symm.trans he)
 ·subst h;exact Bool.false_ne_true ((lC l0 (by simp[xC,waysW])).symm.trans he)
 ·subst h;exact Bool.false_ne_true ((lC l0 (by simp[xC,waysW])).symm.trans he)
 ·subst h;exact Bool.false_ne_true ((lC l1 (by simp[xC,unitsW])).symm.trans he)
 ·subst h;exact Bool.false_ne_true ((lC l1 (by simp[xC,unitsW])).symm.trans he)
 ·subst h;exact Bool.false_ne_true ((lC l1 (by simp[xC,unitsW])).symm.trans he)
 ·subst h;exact Bool.false_ne_true ((lC l1 (by simp[xC,unitsW])).symm.trans he)
 ·subst h;exact Bool.false_ne_true ((lC l1 (by simp[xC,unitsW])).symm.trans he)
 ·subst h;exact Bool.false_ne_true ((lC l2 (by simp[xC,rollsQ])).symm.trans he)
 ·subst h;exact Bool.false_ne_true ((lC l2 (by simp[xC,rollsQ])).symm.trans he)
theorem zJ(s:ByteArray)(hs:s.size≠0)(w:World):
 Calls Tryz.prog 117 #[.string s] w fun e w'=>e=.returned (.bool (PE s))∧Below w.heap.size w w':=by
 obtain⟨O,hO⟩:∃O,O=PE s:=⟨_,rfl⟩
 rw[←hO]
 have HO:=aA hO
 clear hO
 cases h0:(s.toList==[100,101,102,105,110,101])
 rotate_left
 ·go_enter Tryz.func117,Tryz.ntmps117
  go_wp2
  go_ret
  exact⟨CB (by rw[HO.out,MB _ h0 wDefine (by simp[gramW]) rfl]),Below.refl _ _⟩
 cases h1:(s.toList==[114,117,108,101])
 rotate_left
 ·go_enter Tryz.func117,Tryz.ntmps117
  go_wp2
  go_ret
  exact⟨CB (by rw[HO.out,MB _ h1 wRule (by simp[gramW]) rfl]),Below.refl _ _⟩
 cases h2:(s.toList==[97,109,111,117,110,116])
 rotate_left
 ·go_enter Tryz.func117,Tryz.ntmps117
  go_wp2
  go_ret
  exact⟨CB (by rw[HO.out,MB _ h2 wAmount (by simp[gramW]) rfl]),Below.refl _ _⟩
 cases h3:(s.toList==[100,117,116,121])
 rotate_left
 ·go_enter Tryz.func117,Tryz.ntmps117
  go_wp2
  go_ret
  exact⟨CB (by rw[HO.out,MB _ h3 wDuty (by simp[gramW]) rfl]),Below.refl _ _⟩
 cases h4:(s.toList==[105,102])
 rotate_left
 ·go_enter Tryz.func117,Tryz.ntmps117
  go_wp2
  go_ret
  exact⟨CB (by rw[HO.out,MB _ h4 wIf (by simp[gramW]) rfl]),Below.refl _ _⟩
 cases h5:(s.toList==[111,118,101,114])
 rotate_left
 ·go_enter Tryz.func117,Tryz.ntmps117
  go_wp2
  go_ret
  exact⟨CB (by rw[HO.out,MB _ h5 wOver (by simp[gramW]) rfl]),Below.refl _ _⟩
 cases h6:(s.toList==[114,111,117,110,100])
 rotate_left
 ·go_enter Tryz.func117,Tryz.ntmps117
  go_wp2
  go_ret
  exact⟨CB (by rw[HO.out,MB _ h6 AE (by simp[gramW]) rfl]),Below.refl _ _⟩
 cases h7:(s.toList==[119,105,116,104,105,110])
 rotate_left
 ·go_enter Tryz.func117,Tryz.ntmps117
  go_wp2
  go_ret
  exact⟨CB (by rw[HO.out,MB _ h7 ED (by simp[gramW]) rfl]),Below.refl _ _⟩
 cases h8:(s.toList==[101,108,115,101])
 rotate_left
 ·go_enter Tryz.func117,Tryz.ntmps117
  go_wp2
  go_ret
  exact⟨CB (by rw[HO.out,MB _ h8 dF (by simp[gramW]) rfl]),Below.refl _ _⟩
 cases h9:(s.toList==[111,114])
 rotate_left
 ·go_enter Tryz.func117,Tryz.ntmps117
  go_wp2
  go_ret
  exact⟨CB (by rw[HO.out,MB _ h9 wOr (by simp[gramW]) rfl]),Below.refl _ _⟩
 cases h10:(s.toList==[97,110,100])
 rotate_left
 ·go_enter Tryz.func117,Tryz.ntmps117
  go_wp2
  go_ret
  exact⟨CB (by rw[HO.out,MB _ h10 wAnd (by simp[gramW]) rfl]),Below.refl _ _⟩
 cases h11:(s.toList==[110,111,116])
 rotate_left
 ·go_enter Tryz.func117,Tryz.ntmps117
  go_wp2
  go_ret
  exact⟨CB (by rw[HO.out,MB _ h11 wNot (by simp[gramW]) rfl]),Below.refl _ _⟩
 cases h12:(s.toList==[115,111,109,101])
 rotate_left
 ·go_enter Tryz.func117,Tryz.ntmps117
  go_wp2
  go_ret
  exact⟨CB (by rw[HO.out,MB _ h12 wSome (by simp[gramW]) rfl]),Below.refl _ _⟩
 cases h13:(s.toList==[101,118,101,114,121])
 rotate_left
 ·go_enter Tryz.func117,Tryz.ntmps117
  go_wp2
  go_ret
  exact⟨CB (by rw[HO.out,MB _ h13 wEvery (by simp[gramW]) rfl]),Below.refl _ _⟩
 cases h14:(s.toList==[99,111,117,110,116])
 rotate_left
 ·go_enter Tryz.func117,Tryz.ntmps117
  go_wp2
  go_ret
  exact⟨CB (by rw[HO.out,MB _ h14 wCount (by simp[gramW]) rfl]),Below.refl _ _⟩
 cases h15:(s.toList==[116,111,116,97,108])
 rotate_left
 ·go_enter Tryz.func117,Tryz.ntmps117
  go_wp2
  go_ret
  exact⟨CB (by rw[HO.out,MB _ h15 wTotal (by simp[gramW]) rfl]),Below.refl _ _⟩
 cases h16:(s.toList==[111,102])
 rotate_left
 ·go_enter Tryz.func117,Tryz.ntmps117
  go_wp2
  go_ret
  exact⟨CB (by rw[HO.out,MB _ h16 wOf (by simp[gramW]) rfl]),Below.refl _ _⟩
 cases h17:(s.toList==[109,97,120])
 rotate_left
 ·go_enter Tryz.func117,Tryz.ntmps117
  go_wp2
  go_ret
  exact⟨CB (by rw[HO.out,MB _ h17 wMax (by simp[gramW]) rfl]),Below.refl _ _⟩
 cases h18:(s.toList==[109,105,110])
 rotate_left
 ·go_enter Tryz.func117,Tryz.ntmps117
  go_wp2
  go_ret
  exact⟨CB (by rw[HO.out,MB _ h18 wMin (by simp[gramW]) rfl]),Below.refl _ _⟩
 have HG:=aA (JO h0 h1 h2 h3 h4 h5 h6 h7 h8 h9 h10 h11 h12 h13 h14 h15 h16 h17 h18)
 go_enter Tryz.func117,Tryz.ntmps117
 go_wp2_with (first|(go_at_call 86;refine(NK _).mono ?_;rintro e w1 ⟨rfl,b1,c1,s1⟩;have H1:=aA (aI b1 (aI c1 s1));clear b1 c1 s1)|(go_at_call 88;refine(PI _).mono ?_;rintro e w2 ⟨rfl,b1,c1,s1⟩;have H2:=aA (aI b1 (aI c1 s1));clear b1 c1 s1)|(go_at_call 89;refine(MI _).mono ?_;rintro e w3 ⟨rfl,b1,c1,s1⟩;have H3:=aA (aI b1 (aI c1 s1));clear b1 c1 s1)|(go_at_call 38;refine(pF _).mono ?_;rintro e w4 ⟨rfl,b1,c1,s1⟩;have H4:=aA (aI b1 (aI c1 s1));clear b1 c1 s1))
 clear h0 h1 h2 h3 h4 h5 h6 h7 h8 h9 h10 h11 h12 h13 h14 h15 h16 h17 h18
 generalize hW5:World.alloc _ _=W5
 generalize hg:w4.heap.size=g at *
 have HF:Hid (Below w.heap.size w W5∧∀i,i<4→∃b,W5.cell? ⟨g,i,none⟩=some (.slice (some ⟨b,0,none⟩) (xC i).length (xC i).length)∧∀j x,(xC i)[j]?=some x→W5.cell? ⟨b,0+j,none⟩=some (.string x)):=by
  obtain⟨b1,c1,s1⟩:=H1.out
  obtain⟨b2,c2,s2⟩:=H2.out
  obtain⟨b3,c3,s3⟩:=H3.out
  obtain⟨b4,c4,s4⟩:=H4.out
  have b5:Below w4.heap.size w4 W5:=by rw[←hW5];exact bA _ _
  have n5:W5.heap[g]?=some (.cells #[.slice (some ⟨w.heap.size,0,none⟩) waysW.length waysW.length,.slice (some ⟨w1.heap.size,0,none⟩) unitsW.length unitsW.length,.slice (some ⟨w2.heap.size,0,none⟩) rollsQ.length rollsQ.length,.slice (some ⟨w3.heap.size,0,none⟩) strengthsQ.length strengthsQ.length] 26 (0,0)):=by rw[←hW5,←hg];exact heap_alloc_new _ _
  refine⟨⟨by rw[b5.os,b4.os,b3.os,b2.os,b1.os],by rw[b5.tape,b4.tape,b3.tape,b2.tape,b1.tape],by rw[b5.output,b4.output,b3.output,b2.output,b1.output],by have:=b5.size;omega,fun q hq=>by rw[b5.block q (by omega),b4.block q (by omega),b3.block q (by omega),b2.block q (by omega),b1.block q (by omega)]⟩,fun i hi=>?_⟩
  rcases (show i=0∨i=1∨i=2∨i=3 by omega) with rfl|rfl|rfl|rfl
  ·exact⟨w.heap.size,by unfold World.cell?;rw[n5];rfl,fun j x hx=>by rw[Nat.zero_add];exact(World.cell?_of_block (a:=⟨w.heap.size,j,none⟩) (show W5.heap[w.heap.size]?=w1.heap[w.heap.size]? by rw[b5.block _ (by omega),b4.block _ (by omega),b3.block _ (by omega),b2.block _ (by omega)])).trans (c1 j x hx)⟩
  ·exact⟨w1.heap.size,by unfold World.cell?;rw[n5];rfl,fun j x hx=>by rw[Nat.zero_add];exact(World.cell?_of_block (a:=⟨w1.heap.size,j,none⟩) (show W5.heap[w1.heap.size]?=w2.heap[w1.heap.size]? by rw[b5.block _ (by omega),b4.block _ (by omega),b3.block _ (by omega)])).trans (c2 j x hx)⟩
  ·exact⟨w2.heap.size,by unfold World.cell?;rw[n5];rfl,fun j x hx=>by rw[Nat.zero_add];exact(World.cell?_of_block (a:=⟨w2.heap.size,j,none⟩) (show W5.heap[w2.heap.size]?=w3.heap[w2.heap.size]? by rw[b5.block _ (by omega),b4.block _ (by omega)])).trans (c3 j x hx)⟩
  ·exact⟨w3.heap.size,by unfold World.cell?;rw[n5];rfl,fun j x hx=>by rw[Nat.zero_add];exact(World.cell?_of_block (a:=⟨w3.heap.size,j,none⟩) (show W5.heap[w3.heap.size]?=w4.heap[w3.heap.size]? by rw[b5.block _ (by omega)])).trans (c4 j x hx)⟩
 clear H1 H2 H3 H4 hW5 hg
 generalize waysW.length=n1 at *
 generalize unitsW.length=n2 at *
 generalize rollsQ.length=n3 at *
 generalize strengthsQ.length=n4 at *
 go_loopw [33] (fun t wr=>∃i:Nat,i≤4∧t=.int .i64 i∧wr=W5∧∀j,j<i→aD (xC j) s<0) (fun t _=>(4 - RowKit.intOf t).toNat)
 case atStart=>exact⟨0,by omega,rfl,rfl,fun j hj=>by omega⟩
 case round=>
  obtain⟨i,hi,rfl,rfl,hno⟩:=hrel
  have HN:=aA hno
  clear hno
  by_cases hin:i<4
  ·have hiz:(i:Int)<4:=by omega
   obtain⟨b,y0,y1⟩:=HF.out.2 i hin
   have HC:=aA (wM (xC i) b 0 (xC i).length _ y1 (DJ i) s)
   have hL:=DJ i
   clear y1
   generalize (xC i).length=ll at *
   cases hq:decide (0≤aD (xC i) s)
   ·have HQ:=aA hq
    rw[hq] at HC
    clear hq
    go_wp2_with (go_at_call 139;refine HC.out.mono ?_;rintro e w' ⟨rfl,rfl⟩)
    go_roundw
    case rel=>
     refine⟨i+1,by omega,by go_num,trivial,fun j hj=>?_⟩
     rcases Nat.lt_or_ge j i with h|h
     ·exact HN.out j h
     ·obtain rfl:j=i:=by omega
      have h9:=HQ.out
      simpa using h9
    case measure=>simp[RowKit.intOf];omega
   ·have HQ:=aA hq
    rw[hq] at HC
    clear hq
    go_wp2_with (go_at_call 139;refine HC.out.mono ?_;rintro e w' ⟨rfl,rfl⟩)
    go_ret
    have h9:0≤aD (xC i) s:=by have:=HQ.out;simpa using this
    exact⟨CB (by rw[HO.out,bT h9 (KM i) hs]),HF.out.1⟩
  ·obtain rfl:i=4:=by omega
   go_wp2
   go_ret
   exact⟨CB (by rw[HO.out,HG.out fun j hj=>HN.out j hj]),HF.out.1⟩
end Go.Proofs.YtehbinobohjadaaGreatDoor
