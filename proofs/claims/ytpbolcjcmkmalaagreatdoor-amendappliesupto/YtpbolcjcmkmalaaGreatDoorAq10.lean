import Derived.Test.YtpbolcjcmkmalaaGreatDoorAq00
import Derived.Test.YtpbolcjcmkmalaaGreatDoorAq09
import Derived.Test.YtpbolcjcmkmalaaGreatDoorShelfR
set_option maxHeartbeats 20000000
set_option maxRecDepth 20000
namespace Go.Proofs.YtpbolcjcmkmalaaGreatDoor
open Go.RowKit Go.Extern.Stop Go.Stop Go.Extern
theorem TF(s:ByteArray)(h:s.size≠0):Lib.splitB ⟨#[47]⟩ 0 (Lib.countB s ⟨#[47]⟩) s=cA s:=by
 have h1:=Lib.splitB_data ⟨#[47]⟩ 0 (Lib.countB s ⟨#[47]⟩) s
 have h2:=VG _ (bl s) (nR _)
 have h3:(Lib.splitB ⟨#[47]⟩ 0 (Lib.countB s ⟨#[47]⟩) s).map bl=XA (bl s):=by
  rw[←h2]
  exact h1
 unfold cA
 rw[if_neg h,←h3,List.map_map]
 conv=>lhs;rw[←List.map_id (Lib.splitB _ _ _ _)]
 refine List.map_congr_left fun a _=>?_
 rfl
theorem dI(w:World)(xs:List ByteArray)(t:TypeId):StrsAt (w.alloc (.cells (xs.map Value.string).toArray t)) (some ⟨w.heap.size,0,none⟩) xs:=by
 intro i x e
 refine⟨w.heap.size,0,rfl,?_⟩
 rw[World.cell?_alloc_at _ _ _ _ rfl]
 simp[e]
theorem jB(s:ByteArray):(cA s).length≤s.size+1:=by
 unfold cA
 split
 ·simp
 ·have:=UF (bl s)
  rw[oA] at this
  simpa using this
theorem ED(s:ByteArray)(hs:s.size≤1000000)(m:Int)(w:World)(hm:w.cell? ⟨12,0,none⟩=some (.int .i64 m)):
 Calls Tryz.prog 30 #[.string s] w fun e w'=>(∃a c,e=.returned (.slice a (cA s).length c)∧StrsAt w' a (cA s)∧(cA s).length≤c)∧Below w.heap.size w w':=by
 have hE:s.toList.isEmpty=decide (s.size=0):=dD
 by_cases h0:s.size=0
 ·have HR:Hid (cA s=[]):=by show _=_;unfold cA;rw[if_pos h0]
  rw[show decide (s.size=0)=true by simpa using h0] at hE
  clear h0
  go_enter Tryz.func30,Tryz.ntmps30
  go_wp2
  go_ret
  rw[HR.out]
  exact⟨⟨none,0,rfl,(fun i s h=>by cases h),nR _⟩,Below.refl _ _⟩
 ·rw[show decide (s.size=0)=false by simpa using h0] at hE
  have h2:=Go.Proofs.Tryz.strings_Split s ⟨#[47]⟩ m w (by omega) hm (by decide)
  have hl:=Lib.splitB_all ⟨#[47]⟩ (by decide) 0 _ s rfl
  rw[←hl,TF s h0] at h2
  have HSp:=aA h2
  have HA:=aA (dI w (cA s) 9)
  clear h2 hl hm h0
  generalize cA s=ps at *
  go_enter Tryz.func30,Tryz.ntmps30
  go_wp2_with fail
  refine HSp.out.mono ?_
  rintro e w1 ⟨rfl,ew⟩
  go_wp2
  go_ret
  refine⟨⟨_,_,rfl,?_,nR _⟩,?_⟩
  ·first|exact HA.out|(rw[ew];exact HA.out)
  ·first|exact bA _ _|(rw[ew];exact bA _ _)
def zR(w:World)(B b o:Nat)(t:It)(S:Nat→Prop)(ps:List ByteArray)(e:Ending):Prop:=match kF t ps with
 |none=>e=.returned (.tuple #[.pointer none,.int .i64 0])
 |some (x,i)=>∃b' o' S' v',e=.returned (.tuple #[.pointer (some ⟨b',o',none⟩),.int .i64 i])∧Foc w B b o t S ps.dropLast b' o' x S' v'
theorem qH{w:World}{B b o:Nat}{t:It}{S:Nat→Prop}{v:Nat→Value}(h:ItAt w B b o t S v)(hF:FewIt t){ps:List ByteArray}{pa:Option Addr}{pc:Nat}(hp:StrsAt w pa ps)(hn:ps.length≤100000)(hpc:ps.length≤pc):
 Calls Tryz.prog 78 #[.pointer (some ⟨b,o,none⟩),.slice pa ps.length pc] w fun e w'=>zR w B b o t S ps e∧Below w.heap.size w w':=by
 by_cases h0:ps=[]
 ·subst h0
  clear hp hF h
  go_enter Tryz.func78,Tryz.ntmps78
  go_wp2
  go_ret2
  exact⟨rfl,Below.refl _ _⟩
 ·obtain⟨p0,l,rfl⟩:∃p0 l,ps=p0++[l]:=by
   rcases List.eq_nil_or_concat ps with h1|⟨a,b,hab⟩
   ·exact absurd h1 h0
   ·exact⟨a,b,by rw[hab,List.concat_eq_append]⟩
  have hlen:(p0++[l]).length=p0.length+1:=by simp
  rw[hlen] at hn hpc ⊢
  obtain⟨pb,po,rfl,hcl⟩:=hp p0.length l (by simp)
  have hp0:StrsAt w (some ⟨pb,po,none⟩) p0:=fun i s hs=>hp i s (by rw[List.getElem?_append_left (List.getElem?_eq_some_iff.1 hs).1];exact hs)
  have HCf:=aA (vH (pc:=pc) h hF hp0 (by omega))
  have H0:=aA h
  have HF:=aA hF
  have hz1:¬((p0.length:Int)+1=0):=by omega
  have hz2:(((p0.length:Int)+1)==0)=false:=by rw[beq_eq_false_iff_ne];omega
  have HAr:Hid (∀x i,eA t p0=some x→iA x.kids l=some i→kF t (p0++[l])=some (x,i)):=fun x i h1 h2=>TJ h1 h2
  have HAn:Hid (eA t p0=none→kF t (p0++[l])=none):=fun h1=>by
   unfold kF
   rw[if_neg (by simp),List.dropLast_concat,h1]
  have HAk:Hid (∀x,eA t p0=some x→iA x.kids l=none→kF t (p0++[l])=none):=fun x h1 h2=>by
   unfold kF
   rw[if_neg (by simp),List.dropLast_concat,h1]
   show (match iA x.kids ((p0++[l]).getLast?.getD _) with|none=>none|some i=>some (x,i))=none
   rw[List.getLast?_concat]
   show (match iA x.kids l with|none=>none|some i=>some (x,i))=none
   rw[h2]
  have HD:Hid ((p0++[l]).dropLast=p0):=List.dropLast_concat
  clear h hF hp hp0 h0
  generalize hps:p0++[l]=ps at *
  clear hps
  generalize p0.length=n at *
  go_enter Tryz.func78,Tryz.ntmps78
  go_wp2_with fail
  refine HCf.out.mono ?_
  rintro e w1 ⟨hf,hb1⟩
  unfold lF at hf
  cases hq:eA t p0 with
  |none=>
   rw[hq] at hf
   have hf:e=_:=hf
   subst hf
   have HN:=aA (HAn.out hq)
   have H1:=aA hb1
   clear hq hb1
   go_wp2
   go_ret2
   refine⟨?_,H1.out⟩
   unfold zR
   rw[HN.out]
   rfl
  |some x=>
   rw[hq] at hf
   obtain⟨b',o',S',v',rfl,hf⟩:=hf
   have hx:=BB _ t x HF.out hq
   have hkl:=hx.get.2.1
   have hfw:=hf.on H0.out.lt hb1
   obtain⟨_,_,_,ka,kc,hk3⟩:=hfw.at'.own.lies.forms
   have hc3:=hfw.at'.cell (c:=3) (by omega)
   rw[hk3] at hc3
   have hcl':=(hb1.cell (p:=⟨pb,po+n,none⟩) (dA hcl)).trans hcl
   have HC:Hid (∀W,Below w1.heap.size w1 W→Calls Tryz.prog 69 #[.slice ka x.kids.length kc,.string l] W fun e w'=>e=.returned (.int .i64 (XG (iA x.kids l)))∧Below w1.heap.size w1 w'):=fun W hW=>(sC (hfw.at'.on hW).own.lies hk3 (by omega) l).mono fun e w' h=>⟨h.1,hW.trans (h.2.mono hW.size)⟩
   have HFo:=aA hf
   have H1:=aA hb1
   have HQ:=aA hq
   clear hq hb1 hf hfw hx hk3 hcl
   have hn0:(n:Int)<(n:Int)+1:=by omega
   cases hr:iA x.kids l with
   |none=>
    rw[hr] at HC
    have HR:=aA (HAk.out x HQ.out hr)
    clear hr
    generalize x.kids.length=kl at *
    unfold XG at HC
    go_wp2
    go_region_with (go_at_call 69;refine(HC.out _ ?_).mono ?_;(· first|exact Below.refl _ _|exact(Below.refl _ _).drew|exact FA (Below.refl _ _) _);rintro e w2 ⟨rfl,hb2⟩;have H2:=aA hb2;clear hb2)
    all_goals go_wp2
    all_goals go_ret2
    all_goals (refine⟨?_,H1.out.trans (H2.out.mono H1.out.size)⟩;unfold zR;rw[HR.out];rfl)
   |some i=>
    rw[hr] at HC
    have HR:=aA (HAr.out x i HQ.out hr)
    obtain⟨k,hk,_⟩:=SA hr
    have hil:=(List.getElem?_eq_some_iff.1 hk).1
    have hi0:¬((i:Int)<0):=by omega
    clear hr hk
    generalize x.kids.length=kl at *
    unfold XG at HC
    go_wp2
    go_region_with (go_at_call 69;refine(HC.out _ ?_).mono ?_;(· first|exact Below.refl _ _|exact(Below.refl _ _).drew|exact FA (Below.refl _ _) _);rintro e w2 ⟨rfl,hb2⟩;have H2:=aA hb2;clear hb2)
    all_goals go_wp2
    all_goals go_ret2
    all_goals (refine⟨?_,H1.out.trans (H2.out.mono H1.out.size)⟩;unfold zR;rw[HR.out,HD.out];exact⟨b',o',S',v',rfl,HFo.out⟩)
end Go.Proofs.YtpbolcjcmkmalaaGreatDoor
