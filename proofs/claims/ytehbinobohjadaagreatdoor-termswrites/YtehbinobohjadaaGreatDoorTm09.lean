import Derived.Test.YtehbinobohjadaaGreatDoorTm00
import Derived.Test.YtehbinobohjadaaGreatDoorTm07
import Derived.Test.YtehbinobohjadaaGreatDoorTm06
import Derived.Test.YtehbinobohjadaaGreatDoorTm08
import Derived.Lib.Bytes
set_option maxHeartbeats 20000000
set_option maxRecDepth 20000
namespace Go.Proofs.YtehbinobohjadaaGreatDoor
open Go.RowKit Go.Extern.Stop Go.Stop Go.Extern
theorem tK{L:List Tok}{bp tb cp:Nat}{w:World}{k n:Nat}(h:POk L bp tb cp w k n):
 Calls Tryz.prog 63 #[.pointer (some ⟨bp,0,none⟩)] w fun e w'=>(∃s,e=.returned (.string s)∧PSt L bp tb cp w' (uB L k n) (fun x=>x=s))∧BelX w.heap.size bp w w':=by
 have HS:=aA (RD h.s h.nb)
 have hin:=h.s.in
 have HR:Hid (uB L k n=if (cA L k).kind=.w∧iA gramW (cA L k).text=none then (pA L k n).bind fun _ k' n=>.ok (cA L k).text k' n else RC L k):=rfl
 have HW:=aA (fun W (hW:Below w.heap.size w W)=>ZJ (α:=ByteArray) (h.below hW) (fun x=>x=⟨#[]⟩))
 have HT:=aA (fun W (hW:Below w.heap.size w W)=>SD (h.below hW))
 have HA:=aA (fun (g:Nat) (W:World) hW=>zF gramW g 0 34 W hW (by decide) (cA L k).text)
 have hgl:gramW.length=34:=rfl
 rw[hgl] at HA
 have HG:=aA oL
 unfold sI at HS
 clear h hgl
 by_cases hk:(cA L k).kind=.w
 ·have h1:((kB (cA L k).kind).toList==[119])=true:=by rw[hk,Lib.toList_data];decide
  have HK:=aA hk
  clear hk
  generalize (cA L k).text=K1 at *
  generalize kB (cA L k).kind=K0 at *
  generalize (cA L k).pos=K2 at *
  generalize (cA L k).code=K3 at *
  have HPl:=aA (plcI_neg (ls:=gramW) (s:=K1))
  generalize aD gramW K1=pl at *
  by_cases hp:pl<0
  ·have hpd:decide ((0:Int)≤pl)=false:=by simp;omega
   go_enter Tryz.func63,Tryz.ntmps63
   go_wp2_with (go_at_call 30;refine HS.out.mono ?_;rintro e W2 ⟨rfl,hB2⟩;have hB3:=hB2.alloc hB2.size (.cells #[.string K0,.string K1,.int .i64 K2,.int .i64 K3] 82);have hB2s:=hB2.size;have HQ:=aA hB3;clear hB2 hB3)
   have c0:(W2.alloc (.cells #[.string K0,.string K1,.int .i64 K2,.int .i64 K3] 82)).cell? ⟨W2.heap.size,0,none⟩=some (.string K0):=by simp
   have c1:(W2.alloc (.cells #[.string K0,.string K1,.int .i64 K2,.int .i64 K3] 82)).cell? ⟨W2.heap.size,1,none⟩=some (.string K1):=by simp
   have c2:(W2.alloc (.cells #[.string K0,.string K1,.int .i64 K2,.int .i64 K3] 82)).cell? ⟨W2.heap.size,2,none⟩=some (.int .i64 K2):=by simp
   have hsz:W2.heap.size<(W2.alloc (.cells #[.string K0,.string K1,.int .i64 K2,.int .i64 K3] 82)).heap.size:=by simp
   have hgb:W2.heap.size≠bp:=by omega
   generalize W2.alloc (.cells #[.string K0,.string K1,.int .i64 K2,.int .i64 K3] 82)=W3 at *
   generalize W2.heap.size=g2 at *
   have hG:Below w.heap.size w (W3.alloc (.cells (gramW.map Value.string).toArray 9)):=HQ.out.alloc HQ.out.size _
   have c1G:(W3.alloc (.cells (gramW.map Value.string).toArray 9)).cell? ⟨g2,1,none⟩=some (.string K1):=(((Below.refl W3.heap.size W3).alloc (nR _) _).cell (p:=⟨g2,1,none⟩) hsz).trans c1
   have HG2:=aA hG
   clear hG
   go_region_with (first|(go_at_call 109;refine(HG.out _).mono ?_;rintro e w' ⟨rfl,rfl⟩)|(go_at_call 28;refine(HA.out _ _ ?_).mono ?_;(·intro i s hs;have h9:=tD W3 gramW 9 i s hs;simpa using h9);rintro e w' ⟨rfl,rfl⟩))
   all_goals go_wp2_with (go_at_call 110;refine(HT.out _ ?_).mono ?_;(·first|exact HG2.out|exact HG2.out.drew|exact HG2.out.drew.drew|exact ME HG2.out _|exact(ME HG2.out _).drew);rintro e W5 ⟨rfl,hP5,hB5⟩;have t1:W5.cell? ⟨g2,1,none⟩=some (.string K1):=(hB5.cell (p:=⟨g2,1,none⟩) (by simp;omega) hgb).trans (by simpa using c1G);have HQ5:=aA (aI hP5 hB5);clear hP5 hB5)
   all_goals go_ret
   all_goals (refine⟨⟨K1,rfl,?_⟩,(Below.x HG2.out bp (nR _)).then ⟨HQ5.out.2.os,HQ5.out.2.tape,HQ5.out.2.output,HQ5.out.2.size,HQ5.out.2.block⟩ HG2.out.size⟩)
   all_goals (rw[HR.out,if_pos ⟨HK.out,HPl.out.1 hp⟩];have h3:=HQ5.out.1;cases hr:pA L k n)
   all_goals (rw[hr] at h3)
   all_goals first|exact trivial|exact⟨h3.1,rfl⟩|exact h3
  ·have hpd:decide ((0:Int)≤pl)=true:=by simp;omega
   go_enter Tryz.func63,Tryz.ntmps63
   go_wp2_with (go_at_call 30;refine HS.out.mono ?_;rintro e W2 ⟨rfl,hB2⟩;have hB3:=hB2.alloc hB2.size (.cells #[.string K0,.string K1,.int .i64 K2,.int .i64 K3] 82);have hB2s:=hB2.size;have HQ:=aA hB3;clear hB2 hB3)
   have c0:(W2.alloc (.cells #[.string K0,.string K1,.int .i64 K2,.int .i64 K3] 82)).cell? ⟨W2.heap.size,0,none⟩=some (.string K0):=by simp
   have c1:(W2.alloc (.cells #[.string K0,.string K1,.int .i64 K2,.int .i64 K3] 82)).cell? ⟨W2.heap.size,1,none⟩=some (.string K1):=by simp
   have c2:(W2.alloc (.cells #[.string K0,.string K1,.int .i64 K2,.int .i64 K3] 82)).cell? ⟨W2.heap.size,2,none⟩=some (.int .i64 K2):=by simp
   have hsz:W2.heap.size<(W2.alloc (.cells #[.string K0,.string K1,.int .i64 K2,.int .i64 K3] 82)).heap.size:=by simp
   have hgb:W2.heap.size≠bp:=by omega
   generalize W2.alloc (.cells #[.string K0,.string K1,.int .i64 K2,.int .i64 K3] 82)=W3 at *
   generalize W2.heap.size=g2 at *
   have hG:Below w.heap.size w (W3.alloc (.cells (gramW.map Value.string).toArray 9)):=HQ.out.alloc HQ.out.size _
   have c1G:(W3.alloc (.cells (gramW.map Value.string).toArray 9)).cell? ⟨g2,1,none⟩=some (.string K1):=(((Below.refl W3.heap.size W3).alloc (nR _) _).cell (p:=⟨g2,1,none⟩) hsz).trans c1
   have HG2:=aA hG
   clear hG
   go_region_with (first|(go_at_call 109;refine(HG.out _).mono ?_;rintro e w' ⟨rfl,rfl⟩)|(go_at_call 28;refine(HA.out _ _ ?_).mono ?_;(·intro i s hs;have h9:=tD W3 gramW 9 i s hs;simpa using h9);rintro e w' ⟨rfl,rfl⟩))
   all_goals go_wp2_with (go_at_call 32;refine(HW.out _ ?_).mono ?_;(·first|exact HG2.out|exact HG2.out.drew|exact HG2.out.drew.drew|exact ME HG2.out _|exact(ME HG2.out _).drew);rintro e W5 ⟨rfl,hP5,hB5⟩;have HQ5:=aA (aI hP5 hB5);clear hP5 hB5)
   all_goals go_ret
   all_goals (refine⟨⟨⟨#[]⟩,rfl,?_⟩,(Below.x HG2.out bp (nR _)).then ⟨HQ5.out.2.os,HQ5.out.2.tape,HQ5.out.2.output,HQ5.out.2.size,HQ5.out.2.block⟩ HG2.out.size⟩)
   all_goals (rw[HR.out,if_neg (fun e=>by have:=HPl.out.2 e.2;omega)];exact HQ5.out.1)
 ·have h1:((kB (cA L k).kind).toList==[119])=false:=by
   cases h2:(cA L k).kind<;>first|exact absurd h2 hk|(rw[Lib.toList_data];decide)
  rw[if_neg (fun e=>hk e.1)] at HR
  clear hk
  generalize (cA L k).text=K1 at *
  generalize kB (cA L k).kind=K0 at *
  generalize (cA L k).pos=K2 at *
  generalize (cA L k).code=K3 at *
  go_enter Tryz.func63,Tryz.ntmps63
  go_wp2_with (go_at_call 30;refine HS.out.mono ?_;rintro e W2 ⟨rfl,hB2⟩;have hB3:=hB2.alloc hB2.size (.cells #[.string K0,.string K1,.int .i64 K2,.int .i64 K3] 82);have hB2s:=hB2.size;have HQ:=aA hB3;clear hB2 hB3)
  have c0:(W2.alloc (.cells #[.string K0,.string K1,.int .i64 K2,.int .i64 K3] 82)).cell? ⟨W2.heap.size,0,none⟩=some (.string K0):=by simp
  have c1:(W2.alloc (.cells #[.string K0,.string K1,.int .i64 K2,.int .i64 K3] 82)).cell? ⟨W2.heap.size,1,none⟩=some (.string K1):=by simp
  have c2:(W2.alloc (.cells #[.string K0,.string K1,.int .i64 K2,.int .i64 K3] 82)).cell? ⟨W2.heap.size,2,none⟩=some (.int .i64 K2):=by simp
  have hsz:W2.heap.size<(W2.alloc (.cells #[.string K0,.string K1,.int .i64 K2,.int .i64 K3] 82)).heap.size:=by simp
  have hgb:W2.heap.size≠bp:=by omega
  generalize W2.alloc (.cells #[.string K0,.string K1,.int .i64 K2,.int .i64 K3] 82)=W3 at *
  generalize W2.heap.size=g2 at *
  go_quiet (fail)
  go_wp2_with (go_at_call 32;refine(HW.out _ ?_).mono ?_;(·exact ME HQ.out _);rintro e W5 ⟨rfl,hP5,hB5⟩;have HQ5:=aA (aI hP5 hB5);clear hP5 hB5)
  go_ret
  refine⟨⟨⟨#[]⟩,rfl,?_⟩,(Below.x HQ.out bp (nR _)).then ⟨HQ5.out.2.os,HQ5.out.2.tape,HQ5.out.2.output,HQ5.out.2.size,HQ5.out.2.block⟩ HQ.out.size⟩
  rw[HR.out]
  exact HQ5.out.1
theorem sQ{L:List Tok}{bp tb cp:Nat}{w:World}{c a:Nat}(h:PBad L bp tb cp w c a):
 Calls Tryz.prog 63 #[.pointer (some ⟨bp,0,none⟩)] w fun e w'=>e=.returned (.string ⟨#[]⟩)∧PBad L bp tb cp w' c a∧BelX w.heap.size bp w w':=by
 have HP:=aA h
 have HW:=aA (fun (W:World) (hW:Below w.heap.size w W)=>gF (r:=(.bad c a:PR Unit)) (V:=fun _=>True) (h.below hW) (by intro h;cases h))
 obtain⟨hc,k,n,h⟩:=h
 have HS:=aA (QL h hc)
 have hin:=h.in
 unfold vP at HS
 clear h hc
 go_enter Tryz.func63,Tryz.ntmps63
 go_wp2_with (go_at_call 30;refine HS.out.mono ?_;rintro e W2 ⟨rfl,hB2⟩;have hB3:=hB2.alloc hB2.size (.cells #[.string ⟨#[120]⟩,.string ⟨#[]⟩,.int .i64 0,.int .i64 0] 82);have hB2s:=hB2.size;have HQ:=aA hB3;clear hB2 hB3)
 have c0:(W2.alloc (.cells #[.string ⟨#[120]⟩,.string ⟨#[]⟩,.int .i64 0,.int .i64 0] 82)).cell? ⟨W2.heap.size,0,none⟩=some (.string ⟨#[120]⟩):=by simp
 have c1:(W2.alloc (.cells #[.string ⟨#[120]⟩,.string ⟨#[]⟩,.int .i64 0,.int .i64 0] 82)).cell? ⟨W2.heap.size,1,none⟩=some (.string ⟨#[]⟩):=by simp
 have c2:(W2.alloc (.cells #[.string ⟨#[120]⟩,.string ⟨#[]⟩,.int .i64 0,.int .i64 0] 82)).cell? ⟨W2.heap.size,2,none⟩=some (.int .i64 0):=by simp
 have hsz:W2.heap.size<(W2.alloc (.cells #[.string ⟨#[120]⟩,.string ⟨#[]⟩,.int .i64 0,.int .i64 0] 82)).heap.size:=by simp
 have hgb:W2.heap.size≠bp:=by omega
 generalize W2.alloc (.cells #[.string ⟨#[120]⟩,.string ⟨#[]⟩,.int .i64 0,.int .i64 0] 82)=W3 at *
 generalize W2.heap.size=g2 at *
 go_quiet (fail)
 go_wp2_with (go_at_call 32;refine(HW.out _ ?_).mono ?_;(·exact ME HQ.out _);rintro e W5 ⟨rfl,hP5,hB5⟩;have HQ5:=aA (aI hP5 hB5);clear hP5 hB5)
 go_ret
 exact⟨rfl,HQ5.out.1,(Below.x HQ.out bp (nR _)).then ⟨HQ5.out.2.os,HQ5.out.2.tape,HQ5.out.2.output,HQ5.out.2.size,HQ5.out.2.block⟩ HQ.out.size⟩
theorem AQ{L:List Tok}{bp tb cp:Nat}{w:World}{k n:Nat}(h:POk L bp tb cp w k n)(ls:List ByteArray)(b c:Nat)(hl:ls.length≤1000)(hk:∀i s,ls[i]?=some s→w.cell? ⟨b,0+i,none⟩=some (.string s)):
 Calls Tryz.prog 69 #[.pointer (some ⟨bp,0,none⟩),.slice (some ⟨b,0,none⟩) ls.length c] w fun e w'=>(∃i:Nat,e=.returned (.int .i64 i)∧PSt L bp tb cp w' (aE L ls k n) (fun x=>x=i))∧BelX w.heap.size bp w w':=by
 have HS:=aA (RD h.s h.nb)
 have hin:=h.s.in
 have HR:Hid (aE L ls k n=if (cA L k).kind=.w then match iA ls (cA L k).text with|none=>RC L k|some i=>(pA L k n).bind fun _ k n=>.ok i k n else RC L k):=rfl
 have HW:=aA (fun W (hW:Below w.heap.size w W)=>ZJ (α:=Nat) (h.below hW) (fun x=>x=0))
 have HT:=aA (fun W (hW:Below w.heap.size w W)=>SD (h.below hW))
 have HA:=aA (fun (W:World) (hW:Below w.heap.size w W)=>zF ls b 0 c W (fun i s hs=>(hW.cell (p:=⟨b,0+i,none⟩) (fB (hk i s hs))).trans (hk i s hs)) hl (cA L k).text)
 unfold sI at HS
 clear h hk
 generalize ls.length=ll at *
 by_cases hk:(cA L k).kind=.w
 ·have h1:((kB (cA L k).kind).toList==[119])=true:=by rw[hk,Lib.toList_data];decide
  rw[if_pos hk] at HR
  clear hk
  generalize (cA L k).text=K1 at *
  generalize kB (cA L k).kind=K0 at *
  generalize (cA L k).pos=K2 at *
  generalize (cA L k).code=K3 at *
  have HPl:Hid (aD ls K1=match iA ls K1 with|none=>-1|some i=>(i:Int)):=rfl
  generalize aD ls K1=pl at *
  cases hp:iA ls K1 with
  |none=>
   rw[hp] at HPl HR
   have hpl:pl=-1:=HPl.out
   subst hpl
   clear HPl hp
   go_enter Tryz.func69,Tryz.ntmps69
   go_wp2_with (go_at_call 30;refine HS.out.mono ?_;rintro e W2 ⟨rfl,hB2⟩;have hB3:=hB2.alloc hB2.size (.cells #[.string K0,.string K1,.int .i64 K2,.int .i64 K3] 82);have hB2s:=hB2.size;have HQ:=aA hB3;clear hB2 hB3)
   have c0:(W2.alloc (.cells #[.string K0,.string K1,.int .i64 K2,.int .i64 K3] 82)).cell? ⟨W2.heap.size,0,none⟩=some (.string K0):=by simp
   have c1:(W2.alloc (.cells #[.string K0,.string K1,.int .i64 K2,.int .i64 K3] 82)).cell? ⟨W2.heap.size,1,none⟩=some (.string K1):=by simp
   have c2:(W2.alloc (.cells #[.string K0,.string K1,.int .i64 K2,.int .i64 K3] 82)).cell? ⟨W2.heap.size,2,none⟩=some (.int .i64 K2):=by simp
   have hsz:W2.heap.size<(W2.alloc (.cells #[.string K0,.string K1,.int .i64 K2,.int .i64 K3] 82)).heap.size:=by simp
   have hgb:W2.heap.size≠bp:=by omega
   generalize W2.alloc (.cells #[.string K0,.string K1,.int .i64 K2,.int .i64 K3] 82)=W3 at *
   generalize W2.heap.size=g2 at *
   go_wp2_with (first|(go_at_call 28;refine(HA.out _ HQ.out).mono ?_;rintro e w' ⟨rfl,rfl⟩)|(go_at_call 32;refine(HW.out _ HQ.out).mono ?_;rintro e W5 ⟨rfl,hP5,hB5⟩;have HQ5:=aA (aI hP5 hB5);clear hP5 hB5))
   go_ret
   refine⟨⟨0,rfl,?_⟩,(Below.x HQ.out bp (nR _)).then HQ5.out.2 HQ.out.size⟩
   rw[HR.out]
   exact HQ5.out.1
  |some i=>
   rw[hp] at HPl HR
   have hpl:pl=i:=HPl.out
   subst hpl
   clear HPl hp
   go_enter Tryz.func69,Tryz.ntmps69
   go_wp2_with (go_at_call 30;refine HS.out.mono ?_;rintro e W2 ⟨rfl,hB2⟩;have hB3:=hB2.alloc hB2.size (.cells #[.string K0,.string K1,.int .i64 K2,.int .i64 K3] 82);have hB2s:=hB2.size;have HQ:=aA hB3;clear hB2 hB3)
   have c0:(W2.alloc (.cells #[.string K0,.string K1,.int .i64 K2,.int .i64 K3] 82)).cell? ⟨W2.heap.size,0,none⟩=some (.string K0):=by simp
   have c1:(W2.alloc (.cells #[.string K0,.string K1,.int .i64 K2,.int .i64 K3] 82)).cell? ⟨W2.heap.size,1,none⟩=some (.string K1):=by simp
   have c2:(W2.alloc (.cells #[.string K0,.string K1,.int .i64 K2,.int .i64 K3] 82)).cell? ⟨W2.heap.size,2,none⟩=some (.int .i64 K2):=by simp
   have hsz:W2.heap.size<(W2.alloc (.cells #[.string K0,.string K1,.int .i64 K2,.int .i64 K3] 82)).heap.size:=by simp
   have hgb:W2.heap.size≠bp:=by omega
   generalize W2.alloc (.cells #[.string K0,.string K1,.int .i64 K2,.int .i64 K3] 82)=W3 at *
   generalize W2.heap.size=g2 at *
   go_wp2_with (first|(go_at_call 28;refine(HA.out _ HQ.out).mono ?_;rintro e w' ⟨rfl,rfl⟩)|(go_at_call 110;refine(HT.out _ HQ.out).mono ?_;rintro e W5 ⟨rfl,hP5,hB5⟩;have HQ5:=aA (aI hP5 hB5);clear hP5 hB5))
   go_ret
   refine⟨⟨i,rfl,?_⟩,(Below.x HQ.out bp (nR _)).then HQ5.out.2 HQ.out.size⟩
   rw[HR.out]
   have h3:=HQ5.out.1
   show PSt L bp tb cp W5 ((pA L k n).bind fun _ k n=>PR.ok i k n) _
   cases hr:pA L k n
   all_goals (rw[hr] at h3)
   all_goals first|exact trivial|exact⟨h3.1,rfl⟩|exact h3
 ·have h1:((kB (cA L k).kind).toList==[119])=false:=by
   cases h2:(cA L k).kind<;>first|exact absurd h2 hk|(rw[Lib.toList_data];decide)
  rw[if_neg hk] at HR
  clear hk
  generalize (cA L k).text=K1 at *
  generalize kB (cA L k).kind=K0 at *
  generalize (cA L k).pos=K2 at *
  generalize (cA L k).code=K3 at *
  go_enter Tryz.func69,Tryz.ntmps69
  go_wp2_with (go_at_call 30;refine HS.out.mono ?_;rintro e W2 ⟨rfl,hB2⟩;have hB3:=hB2.alloc hB2.size (.cells #[.string K0,.string K1,.int .i64 K2,.int .i64 K3] 82);have hB2s:=hB2.size;have HQ:=aA hB3;clear hB2 hB3)
  have c0:(W2.alloc (.cells #[.string K0,.string K1,.int .i64 K2,.int .i64 K3] 82)).cell? ⟨W2.heap.size,0,none⟩=some (.string K0):=by simp
  have c1:(W2.alloc (.cells #[.string K0,.string K1,.int .i64 K2,.int .i64 K3] 82)).cell? ⟨W2.heap.size,1,none⟩=some (.string K1):=by simp
  have c2:(W2.alloc (.cells #[.string K0,.string K1,.int .i64 K2,.int .i64 K3] 82)).cell? ⟨W2.heap.size,2,none⟩=some (.int .i64 K2):=by simp
  have hsz:W2.heap.size<(W2.alloc (.cells #[.string K0,.string K1,.int .i64 K2,.int .i64 K3] 82)).heap.size:=by simp
  have hgb:W2.heap.size≠bp:=by omega
  generalize W2.alloc (.cells #[.string K0,.string K1,.int .i64 K2,.int .i64 K3] 82)=W3 at *
  generalize W2.heap.size=g2 at *
  go_wp2_with (go_at_call 32;refine(HW.out _ HQ.out).mono ?_;rintro e W5 ⟨rfl,hP5,hB5⟩;have HQ5:=aA (aI hP5 hB5);clear hP5 hB5)
  go_ret
  refine⟨⟨0,rfl,?_⟩,(Below.x HQ.out bp (nR _)).then HQ5.out.2 HQ.out.size⟩
  rw[HR.out]
  exact HQ5.out.1
section
variable {L:List Tok} {bp tb cp:Nat} {w:World} {α:Type} {r:PR α} {V:α→Prop}
theorem PSt.below{w':World}(h:PSt L bp tb cp w r V)(hb:Below w.heap.size w w'):PSt L bp tb cp w' r V:=by
 cases r with
 |out=>exact trivial
 |bad c a=>exact PBad.below h hb
 |ok x k n=>exact⟨h.1.below hb,h.2⟩
theorem PSt.to{V':α→Prop}(h:PSt L bp tb cp w r V)(hv:∀x k n,r=.ok x k n→V x→V' x):PSt L bp tb cp w r V':=by
 cases r with
 |out=>exact trivial
 |bad c a=>exact h
 |ok x k n=>exact⟨h.1,hv x k n rfl h.2⟩
theorem xE(h:PSt L bp tb cp w r V)(hr:r≠.out):
 Calls Tryz.prog 110 #[.pointer (some ⟨bp,0,none⟩)] w fun e w'=>e=.returned (.tuple #[])∧PSt L bp tb cp w' (r.bind fun _ k n=>pA L k n) (fun _=>True)∧BelX w.heap.size bp w w':=by
 cases r with
 |out=>exact absurd rfl hr
 |bad c a=>
  obtain⟨hc,k,n,h⟩:=h
  refine(DR h hc).mono ?_
  rintro e w' ⟨rfl,⟨k',h1⟩,h2⟩
  exact⟨rfl,⟨hc,_,_,h1⟩,h2⟩
 |ok x k n=>exact SD h.1
theorem yC(h:PSt L bp tb cp w r V)(hr:r≠.out)(s:ByteArray):
 Calls Tryz.prog 65 #[.pointer (some ⟨bp,0,none⟩),.string s] w fun e w'=>e=.returned (.tuple #[])∧PSt L bp tb cp w' (r.bind fun _ k n=>oA L s k n) (fun _=>True)∧BelX w.heap.size bp w w':=by
 cases r with
 |out=>exact absurd rfl hr
 |bad c a=>exact uQ h s
 |ok x k n=>exact UN h.1 s
theorem qG(h:PSt L bp tb cp w r V)(hr:r≠.out):
 Calls Tryz.prog 63 #[.pointer (some ⟨bp,0,none⟩)] w fun e w'=>(∃s,e=.returned (.string s)∧PSt L bp tb cp w' (r.bind fun _ k n=>uB L k n) (fun x=>x=s))∧BelX w.heap.size bp w w':=by
 cases r with
 |out=>exact absurd rfl hr
 |bad c a=>
  refine(sQ h).mono ?_
  rintro e w' ⟨rfl,h1,h2⟩
  exact⟨⟨_,rfl,h1⟩,h2⟩
 |ok x k n=>exact tK h.1
theorem DS(h:PSt L bp tb cp w r V)(hr:r≠.out){β:Type}(U:β→Prop)(c a:Nat)(hc:0<c):
 Calls Tryz.prog 62 #[.pointer (some ⟨bp,0,none⟩),.int .i64 c,.int .i64 a] w fun e w'=>e=.returned (.tuple #[])∧PSt L bp tb cp w' (r.bind fun _ _ _=>(.bad c a:PR β)) U∧BelX w.heap.size bp w w':=by
 cases r with
 |out=>exact absurd rfl hr
 |bad c' a'=>
  obtain⟨hc',k,n,h⟩:=h
  refine(UI h hc' c a).mono ?_
  rintro e w' ⟨rfl,rfl⟩
  exact⟨rfl,⟨hc',_,_,h⟩,BelX.refl _ _ _⟩
 |ok x k n=>
  refine(oG h.1.s c a).mono ?_
  rintro e w' ⟨rfl,h1,h2⟩
  exact⟨rfl,⟨hc,_,_,h1⟩,h2⟩
theorem PSt.nest(h:PSt L bp tb cp w r V)(hr:r≠.out)(hn:∀x k n,r=.ok x k n→1≤n):
 ∃z:Int,w.cell? ⟨bp,2,none⟩=some (.int .i64 z)∧w.frozen? ⟨bp,2,none⟩=false∧PSt L bp tb cp (w.setCell ⟨bp,2,none⟩ (.int .i64 (IntKind.i64.wrap (z - 1)))) (r.bind fun x k n=>.ok x k (n - 1)) V∧BelX w.heap.size bp w (w.setCell ⟨bp,2,none⟩ (.int .i64 (IntKind.i64.wrap (z - 1)))):=by
 cases r with
 |out=>exact absurd rfl hr
 |bad c a=>
  obtain⟨hc,k,n,h⟩:=h
  obtain⟨x0,x1,x2,x3,x4,xf⟩:=h.cells
  exact⟨n,x2,xf 2,⟨hc,_,_,(h.nest _).1⟩,(h.nest _).2⟩
 |ok x k n=>
  obtain⟨x0,x1,x2,x3,x4,xf⟩:=h.1.s.cells
  have h1:=hn x k n rfl
  have h9:=h.1.nd
  have hw:IntKind.i64.wrap ((n:Int) - 1)=((n - 1:Nat):Int):=by unfold IntKind.wrap;simp[IntKind.bits,IntKind.signed];omega
  refine⟨n,x2,xf 2,?_,(h.1.s.nest _).2⟩
  rw[hw]
  exact⟨⟨(h.1.s.nest _).1,h.1.nb,by omega⟩,h.2⟩
end
inductive NL(w:World)(P:Nat→Prop):(Nat→Value)→Nd→Prop
 |mk (v:Nat→Value) (t:Nd) (ka:Option Addr) (kc:Nat) (V:Nat→Nat→Value)
  (h0:v 0=.string t.kind) (h1:v 1=.string t.word) (h2:v 2=.int .i64 t.num) (h3:v 3=.slice ka t.kids.length kc)
  (hk:∀i,i<t.kids.length→∃b o,ka=some ⟨b,o,none⟩∧P b∧∀c,c<4→w.cell? ⟨b,o+i * 4+c,none⟩=some (V i c))
  (hr:∀i k,t.kids[i]?=some k→NL w P (V i) k) (hc:t.kids.length≤kc):NL w P v t
theorem NL.step{w w':World}{P P':Nat→Prop}{v:Nat→Value}{t:Nd}(h:NL w P v t):(∀b,b<w.heap.size→P b→w'.heap[b]?=w.heap[b]?∧P' b)→NL w' P' v t:=by
 induction h with
 |mk v t ka kc V h0 h1 h2 h3 hk hr hc ih=>
  intro hb
  refine .mk v t ka kc V h0 h1 h2 h3 (fun i hi=>?_) (fun i k e=>ih i k e hb) hc
  obtain⟨b,o,e,p,c⟩:=hk i hi
  have h9:=hb b (fB (c 0 (by omega))) p
  exact⟨b,o,e,h9.2,fun q hq=>(World.cell?_of_block (a:=⟨b,o+i * 4+q,none⟩) h9.1).trans (c q hq)⟩
def nv(a b c d:Value):Nat→Value
 |0=>a
 |1=>b
 |2=>c
 |_=>d
theorem NL.leaf(w:World)(P:Nat→Prop)(k s:ByteArray)(n:Nat):NL w P (nv (.string k) (.string s) (.int .i64 n) (.slice none 0 0)) (.mk k s n []):=
 .mk _ _ none 0 (fun _ _=>.nilIface) rfl rfl rfl rfl (fun i hi=>absurd hi (Nat.not_lt_zero _)) (fun i k e=>by cases e) (nR _)
theorem NL.one{w:World}{P:Nat→Prop}{g:Nat}{a:Nat→Value}{x:Nd}(h:NL w P a x)(hg:P g)(hc:∀c,c<4→w.cell? ⟨g,c,none⟩=some (a c))(k s:ByteArray)(n:Nat):NL w P (nv (.string k) (.string s) (.int .i64 n) (.slice (some ⟨g,0,none⟩) 1 1)) (.mk k s n [x]):=by
 refine .mk _ _ (some ⟨g,0,none⟩) 1 (fun _=>a) rfl rfl rfl rfl (fun i hi=>⟨g,0,rfl,hg,fun c hc'=>?_⟩) (fun i k e=>?_) (nR _)
 ·have hi:i<1:=hi
  obtain rfl:i=0:=by omega
  simpa using hc c hc'
 ·match i,e with
  |0,e=>injection e with e;subst e;exact h
  |_+1,e=>cases e
theorem NL.two{w:World}{P:Nat→Prop}{g:Nat}{a b:Nat→Value}{x y:Nd}(h:NL w P a x)(h':NL w P b y)(hg:P g)(hc:∀c,c<4→w.cell? ⟨g,c,none⟩=some (a c))(hc':∀c,c<4→w.cell? ⟨g,4+c,none⟩=some (b c))(k s:ByteArray)(n:Nat):NL w P (nv (.string k) (.string s) (.int .i64 n) (.slice (some ⟨g,0,none⟩) 2 2)) (.mk k s n [x,y]):=by
 refine .mk _ _ (some ⟨g,0,none⟩) 2 (fun i=>if i=0 then a else b) rfl rfl rfl rfl (fun i hi=>⟨g,0,rfl,hg,fun c hq=>?_⟩) (fun i k e=>?_) (nR _)
 ·have hi:i<2:=hi
  rcases (show i=0∨i=1 by omega) with rfl|rfl
  ·simpa using hc c hq
  ·simpa using hc' c hq
 ·match i,e with
  |0,e=>injection e with e;subst e;exact h
  |1,e=>injection e with e;subst e;exact h'
  |_+2,e=>cases e
theorem WB{L:List Tok}{k n k' n':Nat}{x:Unit}(h:pA L k n=.ok x k' n'):n'=n:=by
 unfold pA at h
 split at h
 ·cases h
 ·injection h with _ _ h;exact h.symm
theorem PR.bind_eq{α β:Type}{r:PR α}{f:α→Nat→Nat→PR β}{y:β}{k n:Nat}(h:r.bind f=.ok y k n):∃x k' n',r=.ok x k' n'∧f x k' n'=.ok y k n:=by
 cases r with
 |out=>cases h
 |bad c a=>cases h
 |ok x k' n'=>exact⟨x,k',n',rfl,h⟩
theorem RH{L:List Tok}{s:ByteArray}{k n k' n':Nat}{x:Bool}(h:yB L s k n=.ok x k' n'):n'=n:=by
 unfold yB at h
 split at h
 ·obtain⟨_,_,_,h1,h2⟩:=PR.bind_eq h
  injection h2 with _ _ h2
  rw[←h2]
  exact WB h1
 ·injection h with _ _ h;exact h.symm
theorem UC{L:List Tok}{s:ByteArray}{k n k' n':Nat}{x:Unit}(h:oA L s k n=.ok x k' n'):n'=n:=by
 unfold oA at h
 split at h
 ·exact WB h
 ·cases h
theorem PF{L:List Tok}{k n k' n':Nat}{x:ByteArray}(h:uB L k n=.ok x k' n'):n'=n:=by
 unfold uB at h
 split at h
 ·obtain⟨_,_,_,h1,h2⟩:=PR.bind_eq h
  injection h2 with _ _ h2
  rw[←h2]
  exact WB h1
 ·cases h
theorem tC{L:List Tok}{k n k' n':Nat}{x:Unit}(h:qA L k n=.ok x k' n'):n'=n+1:=by
 unfold qA at h
 split at h
 ·cases h
 ·injection h with _ _ h;exact h.symm
structure SameN(L:List Tok)(f:Nat):Prop where
 ei:∀k n x k' n',zA L f k n=.ok x k' n'→n'=n
 ol:∀y k n x k' n',sC L f y k n=.ok x k' n'→n'=n
 bo:∀k n x k' n',cD L f k n=.ok x k' n'→n'=n
 al:∀y k n x k' n',RB L f y k n=.ok x k' n'→n'=n
 un:∀k n x k' n',lB L f k n=.ok x k' n'→n'=n
 te:∀k n x k' n',XD L f k n=.ok x k' n'→n'=n
 su:∀k n x k' n',IB L f k n=.ok x k' n'→n'=n
 sl:∀y k n x k' n',FB L f y k n=.ok x k' n'→n'=n
 pa:∀k n x k' n',FC L f k n=.ok x k' n'→n'=n
 pl:∀y k n x k' n',cB L f y k n=.ok x k' n'→n'=n
 fa:∀k n x k' n',LB L f k n=.ok x k' n'→n'=n
theorem VG(L:List Tok):∀f,SameN L f
 |0=>by
  constructor<;>intros<;>rename_i h<;>simp only[zA,sC,cD,RB,lB,XD,IB,FB,FC,cB,LB] at h<;>cases h
 |f+1=>by
  have ih:=VG L f
  constructor
  ·intro k n x k' n' h
   rw[zA] at h
   obtain⟨_,_,_,h1,h2⟩:=PR.bind_eq h
   rw[ih.ol _ _ _ _ _ _ h2,ih.bo _ _ _ _ _ h1]
  ·intro y k n x k' n' h
   rw[sC] at h
   obtain⟨b,_,_,h1,h2⟩:=PR.bind_eq h
   split at h2
   ·obtain⟨_,_,_,h3,h4⟩:=PR.bind_eq h2
    rw[ih.ol _ _ _ _ _ _ h4,ih.bo _ _ _ _ _ h3,RH h1]
   ·injection h2 with _ _ h2;rw[←h2,RH h1]
  ·intro k n x k' n' h
   rw[cD] at h
   obtain⟨_,_,_,h1,h2⟩:=PR.bind_eq h
   rw[ih.al _ _ _ _ _ _ h2,ih.un _ _ _ _ _ h1]
  ·intro y k n x k' n' h
   rw[RB] at h
   obtain⟨b,_,_,h1,h2⟩:=PR.bind_eq h
   split at h2
   ·obtain⟨_,_,_,h3,h4⟩:=PR.bind_eq h2
    rw[ih.al _ _ _ _ _ _ h4,ih.un _ _ _ _ _ h3,RH h1]
   ·injection h2 with _ _ h2;rw[←h2,RH h1]
  ·intro k n x k' n' h
   rw[lB] at h
   split at h
   ·obtain⟨_,_,_,h1,h⟩:=PR.bind_eq h
    obtain⟨_,_,_,h2,h⟩:=PR.bind_eq h
    obtain⟨_,_,_,h3,h⟩:=PR.bind_eq h
    injection h with _ _ h
    have:=tC h1;have:=WB h2;have:=ih.un _ _ _ _ _ h3
    omega
   ·exact ih.te _ _ _ _ _ h
  ·intro k n x k' n' h
   rw[XD] at h
   split at h
   ·obtain⟨_,_,_,h1,h⟩:=PR.bind_eq h
    obtain⟨_,_,_,h2,h⟩:=PR.bind_eq h
    obtain⟨_,_,_,h3,h⟩:=PR.bind_eq h
    obtain⟨_,_,_,h4,h⟩:=PR.bind_eq h
    injection h with _ _ h
    have:=tC h1;have:=WB h2;have:=ih.ei _ _ _ _ _ h3;have:=UC h4
    omega
   ·split at h
    ·obtain⟨_,_,_,h1,h⟩:=PR.bind_eq h
     obtain⟨_,_,_,h2,h⟩:=PR.bind_eq h
     obtain⟨_,_,_,h3,h⟩:=PR.bind_eq h
     obtain⟨_,_,_,h4,h⟩:=PR.bind_eq h
     obtain⟨_,_,_,h5,h⟩:=PR.bind_eq h
     obtain⟨_,_,_,h6,h⟩:=PR.bind_eq h
     injection h with _ _ h
     have:=tC h1;have:=WB h2;have:=PF h3;have:=UC h4;have:=ih.ei _ _ _ _ _ h5;have:=UC h6
     omega
    ·obtain⟨_,_,_,h1,h⟩:=PR.bind_eq h
     have:=ih.su _ _ _ _ _ h1
     split at h
     ·obtain⟨_,_,_,h2,h⟩:=PR.bind_eq h
      obtain⟨_,_,_,h3,h⟩:=PR.bind_eq h
      injection h with _ _ h
      have:=WB h2;have:=ih.su _ _ _ _ _ h3
      omega
     ·split at h
      ·injection h with _ _ h;omega
      ·cases h
  ·intro k n x k' n' h
   rw[IB] at h
   obtain⟨_,_,_,h1,h2⟩:=PR.bind_eq h
   rw[ih.sl _ _ _ _ _ _ h2,ih.pa _ _ _ _ _ h1]
  ·intro y k n x k' n' h
   rw[FB] at h
   split at h
   ·obtain⟨_,_,_,h1,h⟩:=PR.bind_eq h
    obtain⟨_,_,_,h2,h⟩:=PR.bind_eq h
    rw[ih.sl _ _ _ _ _ _ h,ih.pa _ _ _ _ _ h2,WB h1]
   ·injection h with _ _ h;exact h.symm
  ·intro k n x k' n' h
   rw[FC] at h
   obtain⟨_,_,_,h1,h2⟩:=PR.bind_eq h
   rw[ih.pl _ _ _ _ _ _ h2,ih.fa _ _ _ _ _ h1]
  ·intro y k n x k' n' h
   rw[cB] at h
   obtain⟨b,_,_,h1,h⟩:=PR.bind_eq h
   have:=RH h1
   split at h
   ·split at h
    ·split at h
     ·cases h
     ·obtain⟨_,_,_,h2,h⟩:=PR.bind_eq h
      obtain⟨_,_,_,h3,h⟩:=PR.bind_eq h
      have:=WB h2;have:=UC h3;have:=ih.pl _ _ _ _ _ _ h
      omega
    ·cases h
   ·injection h with _ _ h;omega
  ·intro k n x k' n' h
   rw[LB] at h
   split at h
   ·split at h
    ·cases h
    ·obtain⟨_,_,_,h1,h⟩:=PR.bind_eq h
     injection h with _ _ h
     have:=WB h1
     omega
   ·split at h
    ·obtain⟨_,_,_,h1,h⟩:=PR.bind_eq h
     obtain⟨_,_,_,h2,h⟩:=PR.bind_eq h
     injection h with _ _ h
     have:=WB h1;have:=PF h2
     omega
    ·split at h
     ·obtain⟨_,_,_,h1,h⟩:=PR.bind_eq h
      obtain⟨_,_,_,h2,h⟩:=PR.bind_eq h
      obtain⟨_,_,_,h3,h⟩:=PR.bind_eq h
      obtain⟨_,_,_,h4,h⟩:=PR.bind_eq h
      injection h with _ _ h
      have:=WB h1;have:=PF h2;have:=UC h3;have:=PF h4
      omega
     ·split at h
      ·obtain⟨_,_,_,h1,h⟩:=PR.bind_eq h
       obtain⟨_,_,_,h2,h⟩:=PR.bind_eq h
       obtain⟨_,_,_,h3,h⟩:=PR.bind_eq h
       obtain⟨_,_,_,h4,h⟩:=PR.bind_eq h
       obtain⟨_,_,_,h5,h⟩:=PR.bind_eq h
       obtain⟨_,_,_,h6,h⟩:=PR.bind_eq h
       obtain⟨_,_,_,h7,h⟩:=PR.bind_eq h
       injection h with _ _ h
       have:=tC h1;have:=WB h2;have:=UC h3;have:=ih.su _ _ _ _ _ h4;have:=UC h5;have:=ih.su _ _ _ _ _ h6;have:=UC h7
       omega
      ·split at h
       ·obtain⟨_,_,_,h1,h⟩:=PR.bind_eq h
        obtain⟨_,_,_,h2,h⟩:=PR.bind_eq h
        obtain⟨_,_,_,h3,h⟩:=PR.bind_eq h
        obtain⟨_,_,_,h4,h⟩:=PR.bind_eq h
        injection h with _ _ h
        have:=tC h1;have:=WB h2;have:=ih.su _ _ _ _ _ h3;have:=UC h4
        omega
       ·obtain⟨_,_,_,h1,h⟩:=PR.bind_eq h
        injection h with _ _ h
        have:=PF h1
        omega
def kN:TK→Nat
 | .b=>0
 | .w=>1
 | .n=>2
 | .s=>3
 | .e=>4
def rT(t:Tok):Nat→Value
 |0=>.int .i64 (kN t.kind)
 |1=>.string t.text
 |_=>.int .i64 t.pos
def NumForm(s:ByteArray):Prop:=s.size≤400∧∃ds:List UInt8,(∀c,c∈ds→lA c=true)∧(s.data.toList=ds∨∃a b,lA a=true∧lA b=true∧s.data.toList=ds++[46,a,b])
structure LOk(L:List Tok):Prop where
 len:L.length≤400
 last:∀(i:Nat) (t:Tok),L[i]?=some t→(i+1=L.length↔t.text.size=0)
 lastE:∀(i:Nat) (t:Tok),L[i]?=some t→(i+1=L.length↔t.kind=TK.e)
 num:∀(i:Nat) (t:Tok),L[i]?=some t→t.kind=TK.n→NumForm t.text
structure QS(L:List Tok)(rp tb:Nat)(w:World)(k n:Nat):Prop where
 blk:∃m c,m+k=L.length∧m≤c∧w.heap[rp]?=some (.cells #[.slice (some ⟨tb,k * 3,none⟩) m c,.int .i64 n] 62 (0,0))
 tok:∀i t,L[i]?=some t→∀c,c<3→w.cell? ⟨tb,i * 3+c,none⟩=some (rT t c)
 ne:tb≠rp
 lt:k<L.length
 nd:n≤40
 ok:LOk L
 gT:∃p,w.cell? ⟨1,0,none⟩=some (.iface 189 (.pointer (some p)))
 gB:∃p,w.cell? ⟨0,0,none⟩=some (.iface 189 (.pointer (some p)))
 gM:∃m,w.cell? ⟨12,0,none⟩=some (.int .i64 m)
 gr:rp≠1∧rp≠0∧rp≠12
structure Lows(rp tb B:Nat):Prop where
 r:rp<B
 t:tb<B
 g:1<B
 b:0<B
 m:12<B
theorem QS.in{L:List Tok}{rp tb:Nat}{w:World}{k n:Nat}(h:QS L rp tb w k n):rp<w.heap.size:=by
 obtain⟨m,c,_,_,h1⟩:=h.blk
 rcases Nat.lt_or_ge rp w.heap.size with h2|h2
 ·exact h2
 ·rw[Array.getElem?_eq_none h2] at h1;cases h1
theorem QS.cells{L:List Tok}{rp tb:Nat}{w:World}{k n:Nat}(h:QS L rp tb w k n):∃m c,m+k=L.length∧1≤m∧m≤c∧m≤400∧w.cell? ⟨rp,0,none⟩=some (.slice (some ⟨tb,k * 3,none⟩) m c)∧w.cell? ⟨rp,1,none⟩=some (.int .i64 n)∧∀i,w.frozen? ⟨rp,i,none⟩=false:=by
 obtain⟨m,c,hm,hc,h1⟩:=h.blk
 have:=h.lt
 have:=h.ok.len
 exact⟨m,c,hm,by omega,hc,by omega,by simp[World.cell?,h1],by simp[World.cell?,h1],by simp[World.frozen?,h1]⟩
theorem QS.tokens{L:List Tok}{rp tb:Nat}{w:World}{k n:Nat}(h:QS L rp tb w k n):
 w.cell? ⟨tb,k * 3,none⟩=some (.int .i64 (kN (cA L k).kind))∧w.cell? ⟨tb,k * 3+1,none⟩=some (.string (cA L k).text)∧w.cell? ⟨tb,k * 3+2,none⟩=some (.int .i64 (cA L k).pos):=by
 have h1:=h.tok k _ (vC h.lt)
 exact⟨h1 0 (by omega),h1 1 (by omega),h1 2 (by omega)⟩
theorem QS.tin{L:List Tok}{rp tb:Nat}{w:World}{k n:Nat}(h:QS L rp tb w k n):tb<w.heap.size:=fB h.tokens.1
theorem QS.lows{L:List Tok}{rp tb:Nat}{w:World}{k n:Nat}(h:QS L rp tb w k n):Lows rp tb w.heap.size:=by
 obtain⟨p,h1⟩:=h.gT
 obtain⟨q,h2⟩:=h.gB
 obtain⟨mm,h9⟩:=h.gM
 exact⟨h.in,h.tin,fB h1,fB h2,fB h9⟩
theorem QS.turn{L:List Tok}{rp tb:Nat}{w w':World}{k n:Nat}(h:QS L rp tb w k n)(hb:BelX w.heap.size rp w w'){k' n':Nat}(hk:k'<L.length)(hn:n'≤40)
 (hc:∃m c,m+k'=L.length∧m≤c∧w'.heap[rp]?=some (.cells #[.slice (some ⟨tb,k' * 3,none⟩) m c,.int .i64 n'] 62 (0,0))):QS L rp tb w' k' n':=by
 obtain⟨p,h1⟩:=h.gT
 obtain⟨q,h2⟩:=h.gB
 obtain⟨mm,h9⟩:=h.gM
 exact⟨hc,fun i t e c hc=>(hb.cell (p:=⟨tb,i * 3+c,none⟩) h.tin h.ne).trans (h.tok i t e c hc),h.ne,hk,hn,h.ok,⟨p,(hb.cell (p:=⟨1,0,none⟩) h.lows.g (fun e=>h.gr.1 e.symm)).trans h1⟩,⟨q,(hb.cell (p:=⟨0,0,none⟩) h.lows.b (fun e=>h.gr.2.1 e.symm)).trans h2⟩,⟨mm,(hb.cell (p:=⟨12,0,none⟩) h.lows.m (fun e=>h.gr.2.2 e.symm)).trans h9⟩,h.gr⟩
theorem QS.keep{L:List Tok}{rp tb:Nat}{w w':World}{k n B:Nat}(h:QS L rp tb w k n)(lo:Lows rp tb B)(hb:∀b,b<B→w'.heap[b]?=w.heap[b]?):QS L rp tb w' k n:=by
 obtain⟨m,c,h3,h4,h5⟩:=h.blk
 obtain⟨p,h1⟩:=h.gT
 obtain⟨q,h2⟩:=h.gB
 obtain⟨mm,h9⟩:=h.gM
 exact⟨⟨m,c,h3,h4,(hb rp lo.r).trans h5⟩,fun i t e c hc=>(World.cell?_of_block (a:=⟨tb,i * 3+c,none⟩) (hb tb lo.t)).trans (h.tok i t e c hc),h.ne,h.lt,h.nd,h.ok,⟨p,(World.cell?_of_block (a:=⟨1,0,none⟩) (hb _ lo.g)).trans h1⟩,⟨q,(World.cell?_of_block (a:=⟨0,0,none⟩) (hb _ lo.b)).trans h2⟩,⟨mm,(World.cell?_of_block (a:=⟨12,0,none⟩) (hb _ lo.m)).trans h9⟩,h.gr⟩
theorem QS.below{L:List Tok}{rp tb:Nat}{w w':World}{k n:Nat}(h:QS L rp tb w k n)(hb:Below w.heap.size w w'):QS L rp tb w' k n:=h.keep h.lows fun b h1=>hb.block b h1
theorem QS.more{L:List Tok}{rp tb:Nat}{w:World}{k n:Nat}(h:QS L rp tb w k n)(hs:(cA L k).text.size≠0):k+1<L.length:=by
 have h1:=h.ok.last k _ (vC h.lt)
 have:=h.lt
 omega
theorem QS.moreK{L:List Tok}{rp tb:Nat}{w:World}{k n:Nat}(h:QS L rp tb w k n)(hs:(cA L k).kind≠.e):k+1<L.length:=by
 have h1:=h.ok.lastE k _ (vC h.lt)
 have:=h.lt
 rcases Nat.lt_or_ge (k+1) L.length with h2|h2
 ·exact h2
 ·exact absurd (h1.1 (by omega)) hs
theorem AD{L:List Tok}{s:ByteArray}{k:Nat}(h:YB L s k=true)(hs:s.size≠0):(cA L k).text.size≠0:=by
 unfold YB vA at h
 have h1:(cA L k).text.toList=s.toList:=by simpa using h
 have h2:=congrArg List.length h1
 simp only[Lib.toList_data,Array.length_toList] at h2
 show (cA L k).text.data.size≠0
 rw[h2];exact hs
def vW(e:Ending):Prop:=∃p,e=.panicked [{v:=.iface 88 (.agg #[.iface 55 (.pointer (some p))]),recovered:=false}]
def QEnd(L:List Tok)(rp tb:Nat)(w:World){α:Type}(r:PR α)(V:α→Value→World→Prop)(e:Ending)(w':World):Prop:=
 BelX w.heap.size rp w w'∧match r with
  | .out=>True
  | .bad _ _=>vW e
  | .ok x k n=>QS L rp tb w' k n∧∃v,e=.returned v∧V x v w'
end Go.Proofs.YtehbinobohjadaaGreatDoor
