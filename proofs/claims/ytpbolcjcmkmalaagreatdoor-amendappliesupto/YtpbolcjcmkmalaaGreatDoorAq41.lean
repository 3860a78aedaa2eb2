import Derived.Test.YtpbolcjcmkmalaaGreatDoorAq00
import Derived.Test.YtpbolcjcmkmalaaGreatDoorAq40
import Derived.Test.YtpbolcjcmkmalaaGreatDoorAq04
import Derived.Test.YtpbolcjcmkmalaaGreatDoorAq39
import Derived.Test.YtpbolcjcmkmalaaGreatDoorAq17
import Derived.Test.YtpbolcjcmkmalaaGreatDoorAq03
import Derived.SevenTiedAt
set_option maxHeartbeats 20000000
set_option maxRecDepth 20000
namespace Go.Proofs.YtpbolcjcmkmalaaGreatDoor
open Go.RowKit Go.Extern.Stop Go.Stop Go.Extern
theorem WN(e t:Addr)(old:Value)(w:World)(p:Nat→Addr)(L:Laid w p)(B:Nat)(hB:B≤t.block)(ht0:w.cell? t=some old)(hf0:w.frozen? t=false):
 Calls Tryz.prog 24 #[.iface 52 (.pointer (some e)),.iface 65 (.pointer (some t))] w fun ev w'=>ev=.returned (.bool true)∧Below B w w'∧w'.cell? t=some (.pointer (some e)):=by
 have htl:t.block<w.heap.size:=by
  rcases Nat.lt_or_ge t.block w.heap.size with h|h
  ·exact h
  ·simp[World.cell?,Array.getElem?_eq_none h] at ht0
 refine(CR e t old w L.typ ht0 hf0).mono ?_
 rintro ev w' ⟨rfl,rfl⟩
 refine⟨rfl,(((((Below.refl _ _).alloc (by omega) _).alloc (by simp;omega) _).alloc (by simp;omega) _).alloc (by simp;omega) _).setCell hB _,?_⟩
 refine World.cell?_setCell_same _ _ _ (u:=old) ?_
 rw[World.cell?_alloc_lt _ _ t (by simp;omega),World.cell?_alloc_lt _ _ t (by simp;omega),World.cell?_alloc_lt _ _ t (by simp;omega),World.cell?_alloc_lt _ _ t htl]
 exact ht0
theorem zL(k:Nat)(hk:k<11)(p:Nat→Addr)(blk:Nat)(pos:Int)(w:World)(L:Laid w p)(h0:w.cell? ⟨blk,0,none⟩=some (.int .i64 pos))(h1:w.cell? ⟨blk,0+1,none⟩=some (.iface 214 (.pointer (some (p k))))):
 Calls Tryz.prog 14 #[.iface 52 (.pointer (some ⟨blk,0,none⟩))] w fun e w'=>e=.returned (.tuple #[.int .i64 (k+1),.int .i64 pos])∧Below w.heap.size w w':=by
 have hlt:blk<w.heap.size:=by
  rcases Nat.lt_or_ge blk w.heap.size with h|h
  ·exact h
  ·simp[World.cell?,Array.getElem?_eq_none h] at h0
 have La:=JE (L.alloc (.cells #[.pointer none] 52))
 have HL:=JE L
 have H0:=JE h0
 have H1:=JE h1
 clear L h0 h1
 go_enter Tryz.func14,Tryz.ntmps14
 go_wp2_with fail
 refine(WN _ ⟨w.heap.size,0,none⟩ (.pointer none) _ p La.out w.heap.size (nR _) (by simp) (by simp)).mono ?_
 rintro e w1 ⟨rfl,hb1,hc1⟩
 have HB1:=JE (((Below.refl w.heap.size w).alloc (nR _) (.cells #[.pointer none] 52)).trans hb1)
 have x0:w1.cell? ⟨blk,0,none⟩=some (.int .i64 pos):=(HB1.out.cell (p:=⟨blk,0,none⟩) hlt).trans H0.out
 have x1:w1.cell? ⟨blk,0+1,none⟩=some (.iface 214 (.pointer (some (p k)))):=(HB1.out.cell (p:=⟨blk,0+1,none⟩) hlt).trans H1.out
 have L1:=HL.out.below HB1.out
 have c0:w1.cell? ⟨1,0,none⟩=some (.iface 214 (.pointer (some (p 0)))):=L1.cell 0 (by omega)
 have c1:w1.cell? ⟨0,0,none⟩=some (.iface 214 (.pointer (some (p 1)))):=L1.cell 1 (by omega)
 have c2:w1.cell? ⟨2,0,none⟩=some (.iface 214 (.pointer (some (p 2)))):=L1.cell 2 (by omega)
 have c3:w1.cell? ⟨3,0,none⟩=some (.iface 214 (.pointer (some (p 3)))):=L1.cell 3 (by omega)
 have c4:w1.cell? ⟨4,0,none⟩=some (.iface 214 (.pointer (some (p 4)))):=L1.cell 4 (by omega)
 have c5:w1.cell? ⟨5,0,none⟩=some (.iface 214 (.pointer (some (p 5)))):=L1.cell 5 (by omega)
 have c6:w1.cell? ⟨6,0,none⟩=some (.iface 214 (.pointer (some (p 6)))):=L1.cell 6 (by omega)
 have c7:w1.cell? ⟨7,0,none⟩=some (.iface 214 (.pointer (some (p 7)))):=L1.cell 7 (by omega)
 have c8:w1.cell? ⟨8,0,none⟩=some (.iface 214 (.pointer (some (p 8)))):=L1.cell 8 (by omega)
 have c9:w1.cell? ⟨9,0,none⟩=some (.iface 214 (.pointer (some (p 9)))):=L1.cell 9 (by omega)
 have c10:w1.cell? ⟨10,0,none⟩=some (.iface 214 (.pointer (some (p 10)))):=L1.cell 10 (by omega)
 have hS:=dJ p w1
 have HL2:=JE (L1.alloc (.cells #[.iface 214 (.pointer (some (p 0))),.iface 214 (.pointer (some (p 1))),.iface 214 (.pointer (some (p 2))),.iface 214 (.pointer (some (p 3))),.iface 214 (.pointer (some (p 4))),.iface 214 (.pointer (some (p 5))),.iface 214 (.pointer (some (p 6))),.iface 214 (.pointer (some (p 7))),.iface 214 (.pointer (some (p 8))),.iface 214 (.pointer (some (p 9))),.iface 214 (.pointer (some (p 10)))] 31))
 have HX1:=JE ((((Below.refl w1.heap.size w1).alloc (nR _) (.cells #[.iface 214 (.pointer (some (p 0))),.iface 214 (.pointer (some (p 1))),.iface 214 (.pointer (some (p 2))),.iface 214 (.pointer (some (p 3))),.iface 214 (.pointer (some (p 4))),.iface 214 (.pointer (some (p 5))),.iface 214 (.pointer (some (p 6))),.iface 214 (.pointer (some (p 7))),.iface 214 (.pointer (some (p 8))),.iface 214 (.pointer (some (p 9))),.iface 214 (.pointer (some (p 10)))] 31)).cell (p:=⟨blk,0+1,none⟩) (show blk<w1.heap.size by have:=HB1.out.size;omega)).trans x1)
 have HF:=JE (HB1.out.alloc HB1.out.size (.cells #[.iface 214 (.pointer (some (p 0))),.iface 214 (.pointer (some (p 1))),.iface 214 (.pointer (some (p 2))),.iface 214 (.pointer (some (p 3))),.iface 214 (.pointer (some (p 4))),.iface 214 (.pointer (some (p 5))),.iface 214 (.pointer (some (p 6))),.iface 214 (.pointer (some (p 7))),.iface 214 (.pointer (some (p 8))),.iface 214 (.pointer (some (p 9))),.iface 214 (.pointer (some (p 10)))] 31))
 clear hb1 L1 x1
 go_wp2_with fail
 clear c0 c1 c2 c3 c4 c5 c6 c7 c8 c9 c10 hc1 x0
 go_loop [3,29] (fun a t=>a=.int .i64 pos∧∃i:Nat,i≤k∧t=.int .i64 i) (fun _ t=>11 - (intOf t).toNat)
 case atStart=>exact⟨rfl,0,Nat.zero_le _,rfl⟩
 case round=>
  obtain⟨rfl,i,hik,rfl⟩:=hrel
  have hi:i<11:=by omega
  have hSi:=hS i hi
  by_cases hl:i<k
  ·obtain⟨ca,ta,hca⟩:=HL2.out.blk k hk
   obtain⟨cb,tb,hcb⟩:=HL2.out.blk i hi
   have hne:=HL2.out.ne k i hk hi (by omega)
   go_wp2_with fail
   refine(uI blk 0 (p i) (p k) ca cb ta tb _ HX1.out hne hca hcb).mono ?_
   rintro e w' ⟨rfl,rfl⟩
   go_wp2
   go_round
   case rel=>exact⟨rfl,i+1,by omega,by go_num⟩
   case measure=>simp[intOf];omega
  ·obtain rfl:i=k:=by omega
   go_wp2_with fail
   refine(vJ blk 0 (p i) _ HX1.out).mono ?_
   rintro e w' ⟨rfl,rfl⟩
   go_wp2
   go_ret2
   exact⟨rfl,HF.out⟩
def ErrAt(w:World)(p:Nat→Addr)(r:POut)(v:Value):Prop:=match r with
 | .no c=>∃k,c=k+1∧k<11∧v=fD (p k)
 | .bad i c=>∃k g,c=k+1∧k<11∧v=.iface 52 (.pointer (some ⟨g,0,none⟩))∧w.heap[g]?=some (.cells #[.int .i64 i,fD (p k)] 54 (0,0))
 | .ok _=>v=.nilIface
def PD:POut→Nat
 | .no c=>c
 | .bad _ c=>c
 | .ok _=>0
def XN:POut→Int
 | .no _=>-1
 | .bad i _=>i
 | .ok _=>-1
theorem ErrAt.below{w w':World}{p:Nat→Addr}{r:POut}{v:Value}(h:ErrAt w p r v)(hb:Below w.heap.size w w'):ErrAt w' p r v:=by
 cases r with
 |no c=>exact h
 |ok u=>exact h
 |bad i c=>
  obtain⟨k,g,h1,h2,h3,h4⟩:=h
  exact⟨k,g,h1,h2,h3,(hb.block g (Array.getElem?_eq_some_iff.1 h4).1).trans h4⟩
theorem ErrAt.is{w:World}{p:Nat→Addr}{r:POut}{v:Value}(h:ErrAt w p r v):((∃u,r=.ok u)∧v=.nilIface)∨((∀u,r≠.ok u)∧0<PD r∧∃T q,v=.iface T (.pointer (some q))):=by
 cases r with
 |no c=>
  obtain⟨k,h1,h2,h3⟩:=h
  exact .inr ⟨fun u e=>(by cases e),(by show 0<c;omega),_,_,h3⟩
 |ok u=>exact .inl ⟨⟨u,rfl⟩,h⟩
 |bad i c=>
  obtain⟨k,g,h1,h2,h3,h4⟩:=h
  exact .inr ⟨fun u e=>(by cases e),(by show 0<c;omega),_,_,h3⟩
theorem IR{w:World}{p:Nat→Addr}{r:POut}{v:Value}(L:Laid w p)(h:ErrAt w p r v):
 Calls Tryz.prog 14 #[v] w fun e w'=>e=.returned (.tuple #[.int .i64 (PD r),.int .i64 (XN r)])∧Below w.heap.size w w':=by
 cases r with
 |no c=>
  obtain⟨k,h1,h2,h3⟩:=h
  subst h3
  refine(WM k h2 p w L).mono ?_
  rintro e w' ⟨rfl,hb⟩
  exact⟨by unfold PD XN;rw[h1];rfl,hb⟩
 |ok u=>
  have h:v=.nilIface:=h
  subst h
  refine(eO w).mono ?_
  rintro e w' ⟨rfl,rfl⟩
  exact⟨rfl,Below.refl _ _⟩
 |bad i c=>
  obtain⟨k,g,h1,h2,h3,h4⟩:=h
  subst h3
  have c0:w.cell? ⟨g,0,none⟩=some (.int .i64 i):=by rw[cell_of_row _ g 0 _ _ _ h4];rfl
  have c1:w.cell? ⟨g,0+1,none⟩=some (fD (p k)):=by rw[cell_of_row _ g (0+1) _ _ _ h4];rfl
  refine(zL k h2 p g i w L c0 c1).mono ?_
  rintro e w' ⟨rfl,hb⟩
  exact⟨by unfold PD XN;rw[h1];rfl,hb⟩
def vU(w:World)(p:Nat→Addr)(r:POut)(e:Ending)(w':World):Prop:=Below w.heap.size w w'∧∃(s h:ByteArray) (la ka:Option Addr) (ln lc kn kc:Nat) (er:Value),e=.returned (.tuple #[.agg #[.string s,.string h,.slice la ln lc,.slice ka kn kc],er])∧ErrAt w' p r er∧
 ((∀u,r≠.ok u)→s=⟨#[]⟩∧h=⟨#[]⟩∧la=none∧ka=none∧ln=0∧lc=0∧kn=0∧kc=0)∧
 ∀u,r=.ok u→∃v' S,#[v' 0,v' 1,v' 2,v' 3]=#[.string s,.string h,.slice la ln lc,.slice ka kn kc]∧Own w' w.heap.size v' u S
theorem BR{w:World}{p:Nat→Addr}{r:POut}{e:Ending}{w':World}(h:qV w p r e w'):vU w p r e w':=by
 obtain⟨hb,h⟩:=h
 cases r with
 |no c=>
  obtain⟨k,h1,h2,rfl⟩:=h
  exact⟨hb,_,_,_,_,_,_,_,_,_,rfl,⟨k,h1,h2,rfl⟩,fun _=>⟨rfl,rfl,rfl,rfl,rfl,rfl,rfl,rfl⟩,fun u e=>(by cases e)⟩
 |bad i c=>
  obtain⟨k,g,h1,h2,rfl,h4,_⟩:=h
  exact⟨hb,_,_,_,_,_,_,_,_,_,rfl,⟨k,g,h1,h2,rfl,h4⟩,fun _=>⟨rfl,rfl,rfl,rfl,rfl,rfl,rfl,rfl⟩,fun u e=>(by cases e)⟩
 |ok u=>
  obtain⟨v',S,rfl,hown⟩:=h
  obtain⟨g0,g1,⟨la,lc,g2⟩,ka,kc,g3⟩:=hown.lies.forms
  refine⟨hb,u.label,u.head,la,ka,u.lines.length,lc,u.kids.length,kc,.nilIface,by rw[g0,g1,g2,g3],rfl,fun h=>absurd rfl (h u),fun u' e=>?_⟩
  injection e with e
  subst e
  exact⟨v',S,by rw[g0,g1,g2,g3],hown⟩
end Go.Proofs.YtpbolcjcmkmalaaGreatDoor
namespace Go.Proofs.YtpbolcjcmkmalaaGreatDoor
open Go.ChangeShapes Go.WideShapes Go.ChangeAt Go.WideMaps Go.WideElems Go.RowKit
theorem ZJ{H:Type}(d:DataW H):1≤Rows.uptoBulk d:=by
 unfold Rows.uptoBulk
 split<;>omega
theorem YJ{H:Type}:∀{l:List (DataW H)} {d:DataW H},d∈l→Rows.uptoBulk d≤Rows.uptoBulkAll l
 |a::r,d,h=>by
  rw[Rows.uptoBulkAll]
  rcases List.mem_cons.1 h with rfl|h
  ·omega
  ·have:=YJ h;omega
theorem XJ{H:Type}:∀(l:List (DataW H)),l.length≤Rows.uptoBulkAll l
 | []=>by simp
 |a::r=>by
  have:=XJ r
  have:=ZJ a
  rw[Rows.uptoBulkAll,List.length_cons]
  omega
section
variable {H:Type} {enc:TypeId×Value→H} {W:World}
theorem dH{p q:List MemPlace}(h:W.noneFrozen q)(hs:∀x,x∈p→x∈q):W.noneFrozen p:=fun b o hm=>h b o (hs _ hm)
theorem jG{xs:List (DataW H×List MemPlace)}(h:W.noneFrozen (xs.flatMap (·.2))){y:DataW H×List MemPlace}(hy:y∈xs):W.noneFrozen y.2:=dH h fun _ hx=>List.mem_flatMap.2 ⟨y,hy,hx⟩
theorem cF{α:Type}{t e:TypeId}{k:Nat}(hk:0<k)(ht:Tryz.prog.underlying t=some (.slice e))(hc:Tryz.prog.cellsOf e=k){fuel:Nat}{v:Value}{x:DataW H×List MemPlace}
 (h:DataW.trod enc Tryz.prog W 0 (fun _=>true) true fuel t [v]=some x) (hz:W.noneFrozen x.2) (M:Nat) (hM:Rows.uptoBulk x.1≤M) (P:α→List Value→Nat→Prop)
 (hone:∀n,n<fuel→∀cs y,DataW.trod enc Tryz.prog W 0 (fun _=>true) true n e cs=some y→W.noneFrozen y.2→Rows.uptoBulk y.1≤M→∃a,P a cs (Rows.uptoBulk y.1)):
 ∃a c,∃l:List α,v=.slice a l.length c∧(a=none→c=0)∧l.length≤c∧l.length≤M∧(∃zs:List Nat,zs.length=l.length∧zs.sum+1≤Rows.uptoBulk x.1∧∀i r z,l[i]?=some r→zs[i]?=some z→∃g o cs,a=some ⟨g,o,none⟩∧g<W.heap.size∧W.frozen? ⟨g,o+i * k,none⟩=false∧P r cs z∧∀c,c<k→W.cell? ⟨g,o+i * k+c,none⟩=cs[c]?):=by
 rcases DataW.trod_slice ht h with ⟨h1,_⟩|⟨a,len,cap',elems,rest,m,hfu,h1,hx,_,hlc,_,helen,hel,_⟩
 ·injection h1 with h1 _
  subst h1
  exact⟨none,0,[],rfl,fun _=>rfl,by simp,by simp,[],rfl,by simpa using ZJ x.1,fun i r z hr=>by simp at hr⟩
 ·injection h1 with h1 _
  subst h1
  subst hx
  rw[Rows.uptoBulk] at hM
  have hone2:∀i,i<len→∃(a':α) (cs:List Value) (z:Nat),P a' cs z∧((elems.map (·.1))[i]?).map Rows.uptoBulk=some z∧∀c,c<k→W.cell? ((a.add (i * k)).add c)=cs[c]?:=fun i hi=>by
   have h2:=hel i hi
   obtain⟨y,hy⟩:∃y,elems[i]?=some y:=⟨_,List.getElem?_eq_getElem (by omega)⟩
   rw[hy,Option.bind_eq_some_iff] at h2
   obtain⟨cs1,h3,h5⟩:=h2
   rw[hc] at h3
   have hym:=List.mem_of_getElem? hy
   have hb:=YJ (List.mem_map_of_mem (f:=(·.1)) hym)
   obtain⟨a',ha⟩:=hone m (by omega) _ _ h5 (dH hz fun p hp=>List.mem_append_right _ (List.mem_flatMap.2 ⟨y,List.mem_append_left _ hym,hp⟩)) (by omega)
   exact⟨a',cs1,_,ha,by rw[List.getElem?_map,hy];rfl,(aK h3).2⟩
  refine⟨some a,cap',?_⟩
  have hlist:∀n,n≤len→∃l:List α,l.length=n∧∀i r,l[i]?=some r→∃cs z,P r cs z∧((elems.map (·.1))[i]?).map Rows.uptoBulk=some z∧∀c,c<k→W.cell? ((a.add (i * k)).add c)=cs[c]?:=fun n=>by
   induction n with
   |zero=>exact fun _=>⟨[],rfl,fun i r hr=>by simp at hr⟩
   |succ n ih=>
    intro hn
    obtain⟨l,hl,hp⟩:=ih (by omega)
    obtain⟨a',cs,z,h1,h2,h3⟩:=hone2 n (by omega)
    refine⟨l++[a'],by simp[hl],fun i r hr=>?_⟩
    rcases Nat.lt_or_ge i n with hi|hi
    ·rw[List.getElem?_append_left (by omega)] at hr
     exact hp i r hr
    ·have hin:i=n:=by
      have:=(List.getElem?_eq_some_iff.1 hr).1
      simp at this
      omega
     subst hin
     rw[←hl] at hr
     simp at hr
     subst hr
     exact⟨cs,z,h1,h2,h3⟩
  obtain⟨l,hl,hp⟩:=hlist len (nR _)
  have hbl:=XJ (elems.map (·.1))
  rw[List.length_map] at hbl
  refine⟨l,by rw[hl],(fun h=>by cases h),(by rw[hl];exact hlc),(by omega),(elems.map (·.1)).map Rows.uptoBulk,(by simp[helen,hl]),?_,fun i r z hr hz'=>?_⟩
  ·rw[Rows.uptoBulk]
   have hs:∀ds:List (DataW H),(ds.map Rows.uptoBulk).sum=Rows.uptoBulkAll ds:=by
    intro ds
    induction ds with
    |nil=>rfl
    |cons d r ih=>rw[List.map_cons,List.sum_cons,Rows.uptoBulkAll,ih]
   rw[hs]
   omega
  ·obtain⟨cs,z2,h1,h2,h3⟩:=hp i r hr
   rw[List.getElem?_map,h2] at hz'
   injection hz' with hz'
   subst hz'
   have hi:i<len:=by have:=(List.getElem?_eq_some_iff.1 hr).1;omega
   have h4:=hel 0 (by omega)
   obtain⟨y,hy⟩:∃y,elems[0]?=some y:=⟨_,List.getElem?_eq_getElem (by omega)⟩
   rw[hy,Option.bind_eq_some_iff] at h4
   obtain⟨cs1,h5,_⟩:=h4
   rw[hc] at h5
   obtain⟨q1,q2⟩:=aK h5
   have q3:=q2 0 hk
   rw[List.getElem?_eq_getElem (by omega),show (a.add (0 * k)).add 0=a by simp[Addr.add]] at q3
   obtain⟨ab,ao,hb⟩:=GN q3
   subst hb
   refine⟨ab,ao,cs,rfl,dA q3,hz ab (ao+i * k) (List.mem_append_left _ ?_),h1,fun c hc2=>?_⟩
   ·rw[hc]
    refine List.mem_map.2 ⟨i * k,List.mem_range.2 ?_,rfl⟩
    exact Nat.mul_lt_mul_of_pos_right (by omega) hk
   ·rw[←h3 c hc2,dC,dC]
theorem YL{α:Type}(f:α→Nat):∀(l:List α) (zs:List Nat),zs.length=l.length→(∀(i:Nat) (r:α) (z:Nat),l[i]?=some r→zs[i]?=some z→f r≤z)→(l.map f).sum≤zs.sum
 | [],zs,_,_=>by simp
 |a::r,[],h,_=>by simp at h
 |a::r,z::zs,h,hh=>by
  have ih:=YL f r zs (by simpa using h) fun i r' z' h1 h2=>hh (i+1) r' z' (by simpa using h1) (by simpa using h2)
  have h0:=hh 0 a z rfl rfl
  rw[List.map_cons,List.sum_cons,List.sum_cons]
  omega
theorem YH:∀l:List ByteArray,pC l=(l.map fun s=>s.size+1).sum
 | []=>rfl
 |a::r=>by rw[pC,List.map_cons,List.sum_cons,YH r]
theorem TG:∀l:List It,lA l=(l.map jA).sum
 | []=>rfl
 |a::r=>by rw[lA,List.map_cons,List.sum_cons,TG r]
set_option maxRecDepth 100000 in
theorem sK(M:Nat):∀(fuel:Nat) (cs:List Value) (x:DataW H×List MemPlace),DataW.trod enc Tryz.prog W 0 (fun _=>true) true fuel 25 cs=some x→W.noneFrozen x.2→Rows.uptoBulk x.1≤M→∃(t:It) (v:Nat→Value),cs=[v 0,v 1,v 2,v 3]∧RawT W W.heap.size v t∧jA t≤Rows.uptoBulk x.1:=by
 intro fuel
 induction fuel using Nat.strongRecOn with
 |ind fuel ih=>
  intro cs x h hz hM
  obtain⟨xs,n,hfu,rfl,hl,hlen,hf⟩:=DataW.trod_struct Tryz.underlying25 h
  have h4:Tryz.prog.cellsOf 25=4:=by kernel_rfl
  have hcs:Tryz.prog.cellsOf 9=1:=by kernel_rfl
  have hcl:Tryz.prog.cellsOf 22=1:=by kernel_rfl
  have hck:Tryz.prog.cellsOf 23=1:=by kernel_rfl
  rw[h4] at hl
  obtain⟨c0,c1,c2,c3,rfl⟩:∃c0 c1 c2 c3,cs=[c0,c1,c2,c3]:=by
   match cs,hl with
   | [a,b,c,d],_=>exact⟨a,b,c,d,rfl⟩
  obtain⟨y0,y1,y2,y3,rfl⟩:∃y0 y1 y2 y3,xs=[y0,y1,y2,y3]:=by
   have hlen:xs.length=4:=hlen
   match xs,hlen with
   | [a,b,c,d],_=>exact⟨a,b,c,d,rfl⟩
  have t0:=hf 0 _ rfl
  have t1:=hf 1 _ rfl
  have t2:=hf 2 _ rfl
  have t3:=hf 3 _ rfl
  change DataW.trod enc Tryz.prog W 0 (fun _=>true) true n 9 ((List.drop 0 [c0,c1,c2,c3]).take (Tryz.prog.cellsOf 9))=some y0 at t0
  change DataW.trod enc Tryz.prog W 0 (fun _=>true) true n 9 ((List.drop 1 [c0,c1,c2,c3]).take (Tryz.prog.cellsOf 9))=some y1 at t1
  change DataW.trod enc Tryz.prog W 0 (fun _=>true) true n 22 ((List.drop 2 [c0,c1,c2,c3]).take (Tryz.prog.cellsOf 22))=some y2 at t2
  change DataW.trod enc Tryz.prog W 0 (fun _=>true) true n 23 ((List.drop 3 [c0,c1,c2,c3]).take (Tryz.prog.cellsOf 23))=some y3 at t3
  rw[hcs] at t0 t1
  rw[hcl] at t2
  rw[hck] at t3
  change DataW.trod enc Tryz.prog W 0 (fun _=>true) true n 9 [c0]=some y0 at t0
  change DataW.trod enc Tryz.prog W 0 (fun _=>true) true n 9 [c1]=some y1 at t1
  change DataW.trod enc Tryz.prog W 0 (fun _=>true) true n 22 [c2]=some y2 at t2
  change DataW.trod enc Tryz.prog W 0 (fun _=>true) true n 23 [c3]=some y3 at t3
  obtain⟨s0,e0,x0,_⟩:=DataW.trod_string Tryz.underlying9 t0
  obtain⟨s1,e1,x1,_⟩:=DataW.trod_string Tryz.underlying9 t1
  have hbk:Rows.uptoBulk (.agg ([y0,y1,y2,y3].map (·.1)):DataW H)=Rows.uptoBulk y0.1+Rows.uptoBulk y1.1+Rows.uptoBulk y2.1+Rows.uptoBulk y3.1+1:=by
   show Rows.uptoBulk (.agg [y0.1,y1.1,y2.1,y3.1])=_
   rw[Rows.uptoBulk,Rows.uptoBulkAll,Rows.uptoBulkAll,Rows.uptoBulkAll,Rows.uptoBulkAll,Rows.uptoBulkAll]
   omega
  have hM:Rows.uptoBulk (.agg ([y0,y1,y2,y3].map (·.1)):DataW H)≤M:=hM
  rw[hbk] at hM
  obtain⟨la,lc,ls,e2,hla,hlc,_,zs,hzl,hzs,hls⟩:=cF (α:=ByteArray) (by decide) Tryz.underlying22 hcs t2 (jG hz (by simp)) M (by omega) (fun s cs z=>cs=[.string s]∧s.size+1≤z) (fun m _ cs y hy _ _=>by
   obtain⟨s,h1,h2,_⟩:=DataW.trod_string Tryz.underlying9 hy
   refine⟨s,h1,?_⟩
   rw[h2]
   show _≤Rows.uptoBulk (.lit (.string s.data.toList))
   rw[Rows.uptoBulk]
   have:s.data.toList.length=s.size:=by simp
   omega)
  obtain⟨ka,kc,ks,e3,hka,hkc,_,zk,hzkl,hzk,hks⟩:=cF (α:=It×(Nat→Value)) (by decide) Tryz.underlying23 h4 t3 (jG hz (by simp)) M (by omega) (fun r cs z=>cs=[r.2 0,r.2 1,r.2 2,r.2 3]∧RawT W W.heap.size r.2 r.1∧jA r.1≤z) (fun m hm cs y hy hyz hyM=>by
   obtain⟨t,v,h1,h2,h3⟩:=ih m (by omega) cs y hy hyz hyM
   exact⟨(t,v),h1,h2,h3⟩)
  have e0:c0=.string s0:=by injection e0
  have e1:c1=.string s1:=by injection e1
  subst e0 e1 e2 e3
  have hgl:∀i s,ls[i]?=some s→∃z,zs[i]?=some z:=fun i s hs=>⟨_,List.getElem?_eq_getElem (by rw[hzl];exact(List.getElem?_eq_some_iff.1 hs).1)⟩
  have hgk:∀i r,ks[i]?=some r→∃z,zk[i]?=some z:=fun i s hs=>⟨_,List.getElem?_eq_getElem (by rw[hzkl];exact(List.getElem?_eq_some_iff.1 hs).1)⟩
  refine⟨It.mk s0 s1 ls (ks.map (·.1)),fun i=>match i with|0=>.string s0|1=>.string s1|2=>.slice la ls.length lc|_=>.slice ka ks.length kc,rfl,?_,?_⟩
  ·refine .mk _ _ la ka lc kc (fun i c=>((ks[i]?).map fun r=>r.2 c).getD .nilIface) rfl rfl rfl (by show Value.slice ka ks.length kc=Value.slice ka (ks.map (·.1)).length kc;rw[List.length_map]) (fun i s hs=>?_) (fun i hi=>?_) (fun i k hk=>?_) hla hka hlc (by show (ks.map (·.1)).length≤kc;rw[List.length_map];exact hkc)
   ·have hs:ls[i]?=some s:=hs
    obtain⟨z,hz'⟩:=hgl i s hs
    obtain⟨g,o,cs,h1,h2,_,h3,h5⟩:=hls i s z hs hz'
    refine⟨g,o,h1,h2,?_⟩
    have h6:=h5 0 (by omega)
    rw[h3.1,Nat.mul_one] at h6
    exact h6
   ·have hi:i<(ks.map (·.1)).length:=hi
    rw[List.length_map] at hi
    obtain⟨r,hr⟩:∃r,ks[i]?=some r:=⟨_,List.getElem?_eq_getElem hi⟩
    obtain⟨z,hz'⟩:=hgk i r hr
    obtain⟨g,o,cs,h1,h2,h3,h5,h6⟩:=hks i r z hr hz'
    have hc:∀c,c<4→W.cell? ⟨g,o+i * 4+c,none⟩=some (((ks[i]?).map fun r=>r.2 c).getD .nilIface):=fun c hc=>by
     rw[h6 c hc,h5.1,hr]
     match c,hc with
     |0,_=>rfl
     |1,_=>rfl
     |2,_=>rfl
     |3,_=>rfl
    exact⟨g,o,h1,h2,⟨⟨_,hc 0 (by omega)⟩,h3⟩,hc⟩
   ·have hk:(ks.map (·.1))[i]?=some k:=hk
    rw[List.getElem?_map] at hk
    obtain⟨r,hr,rfl⟩:=Option.map_eq_some_iff.1 hk
    obtain⟨z,hz'⟩:=hgk i r hr
    obtain⟨g,o,cs,_,_,_,h5,_⟩:=hks i r z hr hz'
    have e:(fun c=>((ks[i]?).map fun r=>r.2 c).getD .nilIface)=r.2:=by funext c;rw[hr];rfl
    show RawT W W.heap.size (fun c=>((ks[i]?).map fun r=>r.2 c).getD .nilIface) r.1
    rw[e]
    exact h5.2.1
  ·have hA:=YL (fun s:ByteArray=>s.size+1) ls zs hzl fun i r z h1 h2=>by
    obtain⟨_,_,_,_,_,_,h3,_⟩:=hls i r z h1 h2
    exact h3.2
   have hB:=YL (fun r:It×(Nat→Value)=>jA r.1) ks zk hzkl fun i r z h1 h2=>by
    obtain⟨_,_,_,_,_,_,h3,_⟩:=hks i r z h1 h2
    exact h3.2.2
   rw[jA,YH,TG,List.map_map]
   have hB':(ks.map (jA∘fun x=>x.1)).sum≤zk.sum:=hB
   show _≤Rows.uptoBulk (.agg ([y0,y1,y2,y3].map (·.1)):DataW H)
   rw[hbk,x0,x1]
   show _≤Rows.uptoBulk (.lit (.string s0.data.toList))+Rows.uptoBulk (.lit (.string s1.data.toList))+_+_+1
   rw[Rows.uptoBulk,Rows.uptoBulk]
   have z0:s0.data.toList.length=s0.size:=by simp
   have z1:s1.data.toList.length=s1.size:=by simp
   omega
set_option maxRecDepth 100000 in
theorem iN{base:Nat}{v:Value}{d:DataW H}{ps:List MemPlace}
 (hval:Value.okWide Tryz.prog W .any base 25 v) (hd:DataW.Trod enc Tryz.prog W 0 (fun _=>true) true 25 v d ps) (hz:W.noneFrozen ps):
 ∃t u,v=.agg #[u 0,u 1,u 2,u 3]∧RawT W W.heap.size u t∧jA t≤Rows.uptoBulk d:=by
 obtain⟨cs,rfl,hsz⟩:=okWide_struct Tryz.underlying25 hval
 obtain⟨fuel,hf⟩:=hd
 obtain⟨t,u,h1,h2,h3⟩:=sK _ fuel _ _ hf hz (nR _)
 refine⟨t,u,?_,h2,h3⟩
 have h4:cs.toList=[u 0,u 1,u 2,u 3]:=h1
 rcases cs with ⟨l⟩
 have h5:l=[u 0,u 1,u 2,u 3]:=h4
 rw[h5]
theorem Tryz.c_int:Tryz.prog.cellsOf 3=1:=by kernel_rfl
theorem Tryz.c_str:Tryz.prog.cellsOf 9=1:=by kernel_rfl
theorem Tryz.c_item:Tryz.prog.cellsOf 25=4:=by kernel_rfl
theorem Tryz.c_op:Tryz.prog.cellsOf 46=10:=by kernel_rfl
theorem zV{n:Int}(h:(Lit.int .i64 n).wf=true):-9223372036854775808≤n∧n≤9223372036854775807:=by
 have e1:IntKind.i64.min=-9223372036854775808:=by decide
 have e2:IntKind.i64.max=9223372036854775807:=by decide
 have h:(decide (IntKind.i64.min≤n)&&decide (n≤IntKind.i64.max))=true:=h
 rw[Bool.and_eq_true,decide_eq_true_eq,decide_eq_true_eq,e1,e2] at h
 exact h
theorem sF(s:ByteArray):Rows.uptoBulk (.lit (.string s.data.toList):DataW H)=s.size+1:=by
 rw[Rows.uptoBulk]
 have:s.data.toList.length=s.size:=by simp
 omega
set_option maxRecDepth 100000 in
theorem uS(M n:Nat)(cs:List Value)(y:DataW H×List MemPlace)(hy:DataW.trod enc Tryz.prog W 0 (fun _=>true) true n 46 cs=some y)(hz:W.noneFrozen y.2)(hM:Rows.uptoBulk y.1≤M):
 ∃r:OpW×(Nat→Value),cs=(FB r.1 r.2).toList∧RawT W W.heap.size r.2 r.1.item∧jA r.1.item≤M∧r.1.path.size≤M∧r.1.text.size≤M∧r.1.new.size≤M∧r.1.at'.size≤M∧-9223372036854775808≤r.1.line∧r.1.line≤9223372036854775807:=by
 obtain⟨xs,m,_,hy1,hl,hlen,hf⟩:=DataW.trod_struct Tryz.underlying46 hy
 rw[Tryz.c_op] at hl
 have hlen:xs.length=7:=hlen
 subst hy1
 match cs,hl,xs,hlen with
 | [u0,u1,u2,u3,u4,u5,u6,u7,u8,u9],_,[y0,y1,y2,y3,y4,y5,y6],_=>
     have f0:=hf 0 _ rfl
     change DataW.trod enc Tryz.prog W 0 (fun _=>true) true m 3 ((List.drop 0 [u0,u1,u2,u3,u4,u5,u6,u7,u8,u9]).take (Tryz.prog.cellsOf 3))=some y0 at f0
     rw[Tryz.c_int] at f0
     obtain⟨m0,e0,x0,w0⟩:=DataW.trod_int Tryz.underlying3 f0
     have e0:[u0]=[Value.int .i64 m0]:=e0
     injection e0 with e0
     have f1:=hf 1 _ rfl
     change DataW.trod enc Tryz.prog W 0 (fun _=>true) true m 9 ((List.drop 1 [u0,u1,u2,u3,u4,u5,u6,u7,u8,u9]).take (Tryz.prog.cellsOf 9))=some y1 at f1
     rw[Tryz.c_str] at f1
     obtain⟨m1,e1,x1,w1⟩:=DataW.trod_string Tryz.underlying9 f1
     have e1:[u1]=[Value.string m1]:=e1
     injection e1 with e1
     have f2:=hf 2 _ rfl
     change DataW.trod enc Tryz.prog W 0 (fun _=>true) true m 9 ((List.drop 2 [u0,u1,u2,u3,u4,u5,u6,u7,u8,u9]).take (Tryz.prog.cellsOf 9))=some y2 at f2
     rw[Tryz.c_str] at f2
     obtain⟨m2,e2,x2,w2⟩:=DataW.trod_string Tryz.underlying9 f2
     have e2:[u2]=[Value.string m2]:=e2
     injection e2 with e2
     have f3:=hf 3 _ rfl
     change DataW.trod enc Tryz.prog W 0 (fun _=>true) true m 9 ((List.drop 3 [u0,u1,u2,u3,u4,u5,u6,u7,u8,u9]).take (Tryz.prog.cellsOf 9))=some y3 at f3
     rw[Tryz.c_str] at f3
     obtain⟨m3,e3,x3,w3⟩:=DataW.trod_string Tryz.underlying9 f3
     have e3:[u3]=[Value.string m3]:=e3
     injection e3 with e3
     have f4:=hf 4 _ rfl
     change DataW.trod enc Tryz.prog W 0 (fun _=>true) true m 9 ((List.drop 4 [u0,u1,u2,u3,u4,u5,u6,u7,u8,u9]).take (Tryz.prog.cellsOf 9))=some y4 at f4
     rw[Tryz.c_str] at f4
     obtain⟨m4,e4,x4,w4⟩:=DataW.trod_string Tryz.underlying9 f4
     have e4:[u4]=[Value.string m4]:=e4
     injection e4 with e4
     have f5:=hf 5 _ rfl
     change DataW.trod enc Tryz.prog W 0 (fun _=>true) true m 3 ((List.drop 5 [u0,u1,u2,u3,u4,u5,u6,u7,u8,u9]).take (Tryz.prog.cellsOf 3))=some y5 at f5
     rw[Tryz.c_int] at f5
     obtain⟨m5,e5,x5,w5⟩:=DataW.trod_int Tryz.underlying3 f5
     have e5:[u5]=[Value.int .i64 m5]:=e5
     injection e5 with e5
     have f6:=hf 6 _ rfl
     change DataW.trod enc Tryz.prog W 0 (fun _=>true) true m 25 ((List.drop 6 [u0,u1,u2,u3,u4,u5,u6,u7,u8,u9]).take (Tryz.prog.cellsOf 25))=some y6 at f6
     rw[Tryz.c_item] at f6
     change DataW.trod enc Tryz.prog W 0 (fun _=>true) true m 25 [u6,u7,u8,u9]=some y6 at f6
     have hbk:Rows.uptoBulk (.agg ([y0,y1,y2,y3,y4,y5,y6].map (·.1)):DataW H)=Rows.uptoBulk y0.1+Rows.uptoBulk y1.1+Rows.uptoBulk y2.1+Rows.uptoBulk y3.1+Rows.uptoBulk y4.1+Rows.uptoBulk y5.1+Rows.uptoBulk y6.1+1:=by
      show Rows.uptoBulk (.agg [y0.1,y1.1,y2.1,y3.1,y4.1,y5.1,y6.1])=_
      rw[Rows.uptoBulk,Rows.uptoBulkAll,Rows.uptoBulkAll,Rows.uptoBulkAll,Rows.uptoBulkAll,Rows.uptoBulkAll,Rows.uptoBulkAll,Rows.uptoBulkAll,Rows.uptoBulkAll]
      omega
     have hM:Rows.uptoBulk (.agg ([y0,y1,y2,y3,y4,y5,y6].map (·.1)):DataW H)≤M:=hM
     rw[hbk,x1,x2,x3,x4] at hM
     have hM:_+Rows.uptoBulk (.lit (.string m1.data.toList):DataW H)+Rows.uptoBulk (.lit (.string m2.data.toList):DataW H)+Rows.uptoBulk (.lit (.string m3.data.toList):DataW H)+Rows.uptoBulk (.lit (.string m4.data.toList):DataW H)+_+_+1≤M:=hM
     rw[sF,sF,sF,sF] at hM
     obtain⟨t,v,h1,h2,h3⟩:=sK M m _ y6 f6 (jG hz (by simp)) (by omega)
     have w5:=zV w5
     refine⟨(⟨m0,m1,m2,m3,m4,m5,t⟩,v),?_,h2,by show jA t≤M;omega,by show m1.size≤M;omega,by show m3.size≤M;omega,by show m4.size≤M;omega,by show m2.size≤M;omega,w5.1,w5.2⟩
     injection h1 with g6 h1
     injection h1 with g7 h1
     injection h1 with g8 h1
     injection h1 with g9 _
     rw[e0,e1,e2,e3,e4,e5,g6,g7,g8,g9]
     rfl
set_option maxRecDepth 100000 in
theorem YO{base:Nat}{v:Value}{d:DataW H}{ps:List MemPlace}
 (hval:Value.okWide Tryz.prog W .any base 26 v) (hd:DataW.Trod enc Tryz.prog W 0 (fun _=>true) true 26 v d ps) (hz:W.noneFrozen ps) (hM:Rows.uptoBulk d≤1048576):
 ∃oa oc ops,v=.slice oa ops.length oc∧(oa=none→oc=0)∧ops.length≤oc∧ops.length≤1048576∧OpsRaw W W.heap.size oa ops:=by
 obtain⟨fuel,hf⟩:=hd
 obtain⟨a0,n0,c0,rfl⟩:∃a n c,v=.slice a n c:=okWide_slice Tryz.underlying26 hval
 obtain⟨a,c,l,e,h1,h2,h3,zs,hzl,_,hx⟩:=cF (α:=OpW×(Nat→Value)) (by decide) Tryz.underlying26 Tryz.c_op hf hz 1048576 hM (fun r cs _=>cs=(FB r.1 r.2).toList∧RawT W W.heap.size r.2 r.1.item∧jA r.1.item≤1048576∧r.1.path.size≤1048576∧r.1.text.size≤1048576∧r.1.new.size≤1048576∧r.1.at'.size≤1048576∧-9223372036854775808≤r.1.line∧r.1.line≤9223372036854775807) (fun n _ cs y hy hyz hyM=>uS 1048576 n cs y hy hyz hyM)
 refine⟨a,c,l.map (·.1),by rw[List.length_map];exact e,h1,by rw[List.length_map];exact h2,by rw[List.length_map];exact h3,fun i op hi=>?_⟩
 rw[List.getElem?_map] at hi
 obtain⟨r,hr,rfl⟩:=Option.map_eq_some_iff.1 hi
 obtain⟨z,hz'⟩:∃z,zs[i]?=some z:=⟨_,List.getElem?_eq_getElem (by rw[hzl];exact(List.getElem?_eq_some_iff.1 hr).1)⟩
 obtain⟨g,o,cs,q1,q2,_,⟨q3,q4⟩,q5⟩:=hx i r z hr hz'
 refine⟨g,o,r.2,q1,q2,fun c u hu=>?_,q4⟩
 have hc:c<10:=(Array.getElem?_eq_some_iff.1 hu).1
 rw[q5 c hc,q3,Array.getElem?_toList]
 exact hu
end
end Go.Proofs.YtpbolcjcmkmalaaGreatDoor
