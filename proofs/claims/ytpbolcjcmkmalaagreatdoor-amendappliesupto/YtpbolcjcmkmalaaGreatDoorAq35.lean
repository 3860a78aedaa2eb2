import Derived.Test.YtpbolcjcmkmalaaGreatDoorAq00
import Derived.Test.YtpbolcjcmkmalaaGreatDoorAq25
import Derived.Test.YtpbolcjcmkmalaaGreatDoorAq28
import Derived.Deep.RegionHeld3
set_option maxHeartbeats 20000000
set_option maxRecDepth 20000
namespace Go.Proofs.YtpbolcjcmkmalaaGreatDoor
open Go.RowKit Go.Extern.Stop Go.Stop Go.Extern
theorem wL(s:ByteArray):chkB s=leB s:=rfl
def StrsP(w:World)(P:Nat→Prop)(a:Option Addr)(ls:List ByteArray):Prop:=∀i s,ls[i]?=some s→∃b o,a=some ⟨b,o,none⟩∧P b∧w.cell? ⟨b,o+i,none⟩=some (.string s)
theorem StrsP.strs{w:World}{P:Nat→Prop}{a:Option Addr}{ls:List ByteArray}(h:StrsP w P a ls):StrsAt w a ls:=fun i s hs=>by
 obtain⟨b,o,e,_,hc⟩:=h i s hs
 exact⟨b,o,e,hc⟩
theorem StrsP.on{w w':World}{P P':Nat→Prop}{a:Option Addr}{ls:List ByteArray}(h:StrsP w P a ls)(hb:∀b,b<w.heap.size→P b→w'.heap[b]?=w.heap[b]?∧P' b):StrsP w' P' a ls:=fun i s hs=>by
 obtain⟨b,o,e,hp,hc⟩:=h i s hs
 obtain⟨k1,k2⟩:=hb b (dA hc) hp
 exact⟨b,o,e,k2,(World.cell?_of_block (a:=⟨b,o+i,none⟩) k1).trans hc⟩
theorem SRow.strs{w:World}{B:Nat}{a:Option Addr}{n c:Nat}{ls:List ByteArray}(h:SRow w B (.slice a n c) ls):StrsP w (fun b=>B≤b) a ls:=fun i s hs=>by
 obtain⟨a',c',e,_⟩:=h.any
 injection e with e1 e2 e3
 subst e1 e2 e3
 obtain⟨g,e,hB,hg,hc⟩:=LC h hs
 exact⟨g,0,e,hB,by rw[Nat.zero_add];exact hc⟩
def LnR(w:World)(P:Nat→Prop)(x:It)(r:COut)(e:Ending)(w':World):Prop:=Below w.heap.size w w'∧∃(a:Option Addr) (c:Nat) (L:List ByteArray) (code:Int),e=.returned (.tuple #[.slice a L.length c,.int .i64 code])∧L.length≤c∧StrsP w' (fun b=>P b∨w.heap.size≤b) a L∧match r with
 | .bad k=>code=k∧0<k
 | .ok y=>code=0∧y=x.setLines L
theorem LnR.bad{w w':World}{P:Nat→Prop}{la:Option Addr}{lc:Nat}{x:It}{c n:Nat}(hl:StrsP w P la x.lines)(hlc:n≤lc)(h:Below w.heap.size w w')(hc:0<c)(hn:n=x.lines.length):LnR w P x (.bad c) (.returned (.tuple #[.slice la n lc,.int .i64 c])) w':=by
 subst hn
 exact⟨h,la,lc,x.lines,c,rfl,hlc,hl.on fun b hb hp=>⟨h.block b hb,.inl hp⟩,rfl,hc⟩
theorem LnR.ok{w w':World}{P:Nat→Prop}{a:Option Addr}{n c:Nat}{x y:It}{L:List ByteArray}(h:Below w.heap.size w w')(hr:SRow w' w.heap.size (.slice a n c) L)(hy:y=x.setLines L):LnR w P x (.ok y) (.returned (.tuple #[.slice a n c,.int .i64 0])) w':=by
 obtain⟨a',c',e,hlc⟩:=hr.any
 injection e with e1 e2 e3
 subst e1 e2 e3
 exact⟨h,_,_,L,0,rfl,hlc,hr.strs.on fun b hb hp=>⟨rfl,.inr hp⟩,rfl,hy⟩
theorem qJ{x:It}{i:Nat}(h:i<x.lines.length):VB x i=true:=by
 unfold VB
 rw[Bool.and_eq_true]
 exact⟨decide_eq_true (by omega),decide_eq_true (by omega)⟩
theorem sD{x:It}{n:Int}(h:n<0∨x.lines.length≤n):VB x n=false:=by
 unfold VB
 rw[Bool.and_eq_false_iff]
 rcases h with h|h
 ·exact .inl (decide_eq_false (by omega))
 ·exact .inr (decide_eq_false (by omega))
theorem NI(y:ByteArray):∀(l:List ByteArray) (i:Nat),i≤l.length→l.insertIdx i y=l.take i++[y]++l.drop i
 |l,0,_=>by rw[List.insertIdx_zero];rfl
 | [],i+1,h=>by simp at h
 |a::l,i+1,h=>by
  rw[List.insertIdx_succ_cons,NI y l i (by simpa using h)];rfl
theorem SRow.mono{w:World}{B B':Nat}{v:Value}{ls:List ByteArray}(h:SRow w B v ls)(hB:B'≤B):SRow w B' v ls:=by
 refine⟨h.1,?_⟩
 rcases h.2 with hn|⟨g,cap,cur,rfl,hb,rest⟩
 ·exact .inl hn
 ·exact .inr ⟨g,cap,cur,rfl,by omega,rest⟩
theorem nQ{x:It}{o:OpW}(hk:o.kind=2)(ht:o.text.size≤100000){iv:Nat→Value}{il ih:ByteArray}{ia ka:Option Addr}{iln ilc ikn ikc:Nat}(f0:iv 0=.string il)(f1:iv 1=.string ih)(f2:iv 2=.slice ia iln ilc)(f3:iv 3=.slice ka ikn ikc){w:World}{la:Option Addr}{lc:Nat}{P:Nat→Prop}(hlp:StrsP w P la x.lines)(hc:x.lines.length≤lc)(hn:x.lines.length≤1000):
 Calls Tryz.prog 41 #[.slice la x.lines.length lc,.agg (FB o iv)] w (LnR w P x (textC x o)):=by
 have HLp:=aA hlp
 have HCp:=aA hc
 have hl:=hlp.strs
 have HTx:Hid (textC x o=if VB x o.line=false then .bad 8 else if chkB o.text=0 then .ok (x.setLines (x.lines.set o.line.toNat o.text)) else .bad (chkB o.text)):=by
  show _=_
  unfold textC
  rw[if_pos hk]
 rw[HTx.out]
 clear HTx
 have HLE:=aA (fun W=>GB o.text ht W)
 rw[←wL] at HLE
 obtain⟨WB,hWB⟩:∃WB,WB=w.alloc (.cells (FB o iv) 46):=⟨_,rfl⟩
 have hb1:Below w.heap.size w WB:=by rw[hWB];exact bA _ _
 have hg:WB.heap[w.heap.size]?=some (.cells (FB o iv) 46 (0,0)):=by rw[hWB];exact heap_alloc_new _ _
 have hsz:w.heap.size<WB.heap.size:=(Array.getElem?_eq_some_iff.1 hg).1
 unfold FB at hWB hg ⊢
 rw[f0,f1,f2,f3,hk] at hWB hg
 rw[f0,f1,f2,f3,hk]
 obtain⟨x0,x1,x2,x3,x4,x5,x6,x7,x8,x9⟩:=yB hg
 have HW:=aA hWB
 have HB:=aA (aI hb1 hsz)
 have HG:=aA hg
 have HL:=aA (hl.on hb1)
 obtain⟨n,hnn⟩:∃n,n=x.lines.length:=⟨_,rfl⟩
 have HN:=aA hnn
 rw[←hnn] at hc hn ⊢
 clear hWB hb1 hg f0 f1 f2 f3 hk hnn hl hlp hsz
 generalize o.text=tx at *
 generalize o.line=li at *
 generalize o.path=pt at *
 generalize o.at'=oat at *
 generalize o.new=onw at *
 by_cases h0:li<0
 ·have HE:Hid (VB x li=false):=sD (by have:=HN.out;omega)
  rw[if_pos HE.out]
  clear HE
  go_enter Tryz.func41,Tryz.ntmps41
  go_upto_region 1 with fail
  rw[←HW.out]
  go_wp2
  go_ret2
  exact LnR.bad HLp.out (by have:=HN.out;have:=HCp.out;omega) HB.out.1 (by omega) (by have:=HN.out;omega)
 obtain⟨i,rfl⟩:∃i:Nat,li=i:=⟨li.toNat,by omega⟩
 clear h0
 by_cases hi:n≤i
 ·have hiz:((n:Nat):Int)≤(i:Int):=by omega
  have hiz2:(n:Int)≤(i:Int):=by omega
  have HE:Hid (VB x ((i:Nat):Int)=false):=sD (by have:=HN.out;omega)
  rw[if_pos HE.out]
  clear HE
  go_enter Tryz.func41,Tryz.ntmps41
  go_upto_region 1 with fail
  rw[←HW.out]
  go_wp2
  go_ret2
  exact LnR.bad HLp.out (by have:=HN.out;have:=HCp.out;omega) HB.out.1 (by omega) (by have:=HN.out;omega)
 have hiz:¬(n:Int)≤(i:Int):=by omega
 rw[if_neg (by rw[qJ (x:=x) (i:=i) (by have:=HN.out;omega)];decide)]
 rcases Nat.eq_zero_or_pos (chkB tx) with hch|hch
 rotate_left
 ·rw[if_neg (by omega)]
  have hcz:(0:Int)<chkB tx:=by omega
  generalize chkB tx=ck at *
  go_enter Tryz.func41,Tryz.ntmps41
  go_upto_region 1 with fail
  rw[←HW.out]
  go_wp2_with fail
  refine(HLE.out _).mono ?_
  rintro e w2 ⟨rfl,h9⟩
  subst w2
  go_wp2
  go_ret2
  exact LnR.bad HLp.out (by have:=HN.out;have:=HCp.out;omega) HB.out.1 hch (by have:=HN.out;omega)
 rw[if_pos hch]
 rw[hch] at HLE
 clear hch
 obtain⟨ad,rfl⟩:∃ad,la=some ad:=by
  cases la with
  |some a=>exact⟨a,rfl⟩
  |none=>
   obtain⟨_,_,e,_⟩:=HL.out i _ (List.getElem?_eq_getElem (by have:=HN.out;omega))
   cases e
 have hc0:¬lc=0:=by omega
 go_enter Tryz.func41,Tryz.ntmps41
 go_upto_region 1 with fail
 rw[←HW.out]
 go_wp2_with fail
 refine(HLE.out _).mono ?_
 rintro e w2 ⟨rfl,h9⟩
 subst w2
 have hiz2:(i:Int)≤lc:=by omega
 have hA:=AG HL.out i
 have hlt:(x.lines.take i).length=i:=by rw[List.length_take,←HN.out];omega
 have HA:=aA (aI hA hlt)
 clear hA hlt
 go_wp2_with (at_builtin;go_loud (refine DA rfl (.tmp 45) (.tmp 49) rfl WB.heap.size (.slice none 0 0) [] (x.lines.take i) (by simp[Act.eval]) (SRow.nil _ _) ⟨_,_,_,rfl,HA.out.2.symm,HA.out.1⟩ (nR _) (by have:=HA.out.2;simp only[List.length_nil];omega) ?_))
 rintro v1 w1 hr1 hb1
 first|rw[List.nil_append] at hr1|skip
 obtain⟨ra,rc,rfl,hrc⟩:=hr1.any
 rw[HA.out.2] at hrc ⊢
 have HR1:=aA hr1
 have HB1:=aA hb1
 have hg1:=(hb1.block w.heap.size HB.out.2).trans HG.out
 clear hr1 hb1 x0 x1 x2 x3 x4 x5 x6 x7 x8 x9
 obtain⟨x0,x1,x2,x3,x4,x5,x6,x7,x8,x9⟩:=yB hg1
 clear hg1
 obtain⟨W2,hW2⟩:∃W2,W2=w1.alloc (.cells #[.string tx] 9):=⟨_,rfl⟩
 have hb2:Below w1.heap.size w1 W2:=by rw[hW2];exact bA _ _
 have hs2:StrsAt W2 (some ⟨w1.heap.size,0,none⟩) [tx]:=by rw[hW2];exact VF _ _
 have HW2:=aA hW2
 have hr2:=HR1.out.on hb2
 have hl2:((x.lines.take i).length)=i:=HA.out.2
 have HR2:=aA (aI hr2 hs2)
 have HB2:=aA (HB1.out.trans (hb2.mono HB1.out.size))
 clear hW2 hb2 hs2 hr2
 go_wp2_with (at_builtin;rw[←HW2.out];go_loud (refine DA rfl (.tmp 54) (.tmp 57) rfl WB.heap.size (.slice ra i rc) (x.lines.take i) [tx] (by simp[Act.eval]) (by have h:=HR2.out.1;rw[HA.out.2] at h;exact h) ⟨_,_,_,rfl,rfl,HR2.out.2⟩ HB2.out.size (by have:=HA.out.2;simp only[List.length_cons,List.length_nil];omega) ?_))
 rintro v3 w3 hr3 hb3
 have hl3:((x.lines.take i)++[tx]).length=i+1:=by rw[List.length_append,HA.out.2];rfl
 obtain⟨sa,sc,rfl,hsc⟩:=hr3.any
 rw[hl3] at hsc ⊢
 have HL3:=aA hl3
 have HR3:=aA hr3
 have HB3:=aA (HB2.out.trans hb3)
 have hg3:=(HB3.out.block w.heap.size HB.out.2).trans HG.out
 clear hr3 hb3 hl3 x0 x1 x2 x3 x4 x5 x6 x7 x8 x9
 obtain⟨x0,x1,x2,x3,x4,x5,x6,x7,x8,x9⟩:=yB hg3
 clear hg3 hl2
 have HF:Hid (x.lines.set i tx=x.lines.take i++[tx]++x.lines.drop (i+1)):=by show _=_;rw[List.set_eq_take_append_cons_drop,if_pos (by have:=HN.out;omega),List.append_assoc];rfl
 have hS:=zG (HL.out.on HB3.out) (c:=lc) (by have:=HN.out;omega) (i+1)
 have hd:(x.lines.drop (i+1)).length=n - (i+1):=by rw[List.length_drop,←HN.out]
 have HS:=aA (aI hS hd)
 clear hS hd
 have hiz3:(((i+1):Nat):Int)≤(n:Int):=by omega
 have hiz4:(n:Int)≤lc:=by omega
 by_cases hcap:lc=(i+1)
 all_goals
  go_wp2_with (at_builtin;go_loud (refine DA rfl (.tmp 62) (.tmp 67) rfl WB.heap.size (.slice sa (i+1) sc) ((x.lines.take i)++[tx]) (x.lines.drop (i+1)) (by simp[Act.eval]) (by have h:=HR3.out;unfold SRow at h ⊢;rw[HL3.out] at h ⊢;exact h) ⟨_,_,_,rfl,(by have:=HS.out.2;omega),(by have h:=HS.out.1;simp only[hcap,if_true,if_false] at h;first|exact h|simpa using h)⟩ HB3.out.size (by have:=HS.out.2;have:=HL3.out;omega) ?_))
  rintro v5 w5 hr5 hb5
  obtain⟨ya,yc,rfl,hyc⟩:=hr5.any
  have HR5:=aA hr5
  have HB5:=aA (HB3.out.trans hb5)
  clear hr5 hb5
  go_wp2
  go_ret2
  exact LnR.ok (HB.out.1.trans (HB5.out.mono HB.out.1.size)) (HR5.out.mono HB.out.1.size) (by rw[show ((i:Nat):Int).toNat=i from rfl,HF.out];try simp)
theorem oQ{x:It}{o:OpW}(hk:o.kind=3)(ht:o.text.size≤100000){iv:Nat→Value}{il ih:ByteArray}{ia ka:Option Addr}{iln ilc ikn ikc:Nat}(f0:iv 0=.string il)(f1:iv 1=.string ih)(f2:iv 2=.slice ia iln ilc)(f3:iv 3=.slice ka ikn ikc){w:World}{la:Option Addr}{lc:Nat}{P:Nat→Prop}(hlp:StrsP w P la x.lines)(hc:x.lines.length≤lc)(hn:x.lines.length≤1000):
 Calls Tryz.prog 41 #[.slice la x.lines.length lc,.agg (FB o iv)] w (LnR w P x (textC x o)):=by
 have HLp:=aA hlp
 have HCp:=aA hc
 have hl:=hlp.strs
 have HTx:Hid (textC x o=if o.line≠x.lines.length∧VB x o.line=false then .bad 8 else if x.lines.length=40 then .bad 2 else if chkB o.text=0 then .ok (x.setLines (x.lines.insertIdx o.line.toNat o.text)) else .bad (chkB o.text)):=by
  show _=_
  unfold textC
  rw[if_neg (by omega),if_pos hk]
 rw[HTx.out]
 clear HTx
 have HLE:=aA (fun W=>GB o.text ht W)
 rw[←wL] at HLE
 obtain⟨WB,hWB⟩:∃WB,WB=w.alloc (.cells (FB o iv) 46):=⟨_,rfl⟩
 have hb1:Below w.heap.size w WB:=by rw[hWB];exact bA _ _
 have hg:WB.heap[w.heap.size]?=some (.cells (FB o iv) 46 (0,0)):=by rw[hWB];exact heap_alloc_new _ _
 have hsz:w.heap.size<WB.heap.size:=(Array.getElem?_eq_some_iff.1 hg).1
 unfold FB at hWB hg ⊢
 rw[f0,f1,f2,f3,hk] at hWB hg
 rw[f0,f1,f2,f3,hk]
 obtain⟨x0,x1,x2,x3,x4,x5,x6,x7,x8,x9⟩:=yB hg
 have HW:=aA hWB
 have HB:=aA (aI hb1 hsz)
 have HG:=aA hg
 have HL:=aA (hl.on hb1)
 obtain⟨n,hnn⟩:∃n,n=x.lines.length:=⟨_,rfl⟩
 have HN:=aA hnn
 rw[←hnn] at hc hn ⊢
 clear hWB hb1 hg f0 f1 f2 f3 hk hnn hl hlp hsz
 generalize o.text=tx at *
 generalize o.line=li at *
 generalize o.path=pt at *
 generalize o.at'=oat at *
 generalize o.new=onw at *
 by_cases h0:li<0
 ·have HE:Hid ((li:Int)≠n∧VB x li=false):=⟨by omega,sD (by have:=HN.out;omega)⟩
  rw[if_pos HE.out]
  clear HE
  go_enter Tryz.func41,Tryz.ntmps41
  go_upto_region 1 with fail
  rw[←HW.out]
  go_wp2
  go_ret2
  exact LnR.bad HLp.out (by have:=HN.out;have:=HCp.out;omega) HB.out.1 (by omega) (by have:=HN.out;omega)
 obtain⟨i,rfl⟩:∃i:Nat,li=i:=⟨li.toNat,by omega⟩
 clear h0
 by_cases hi:n+1≤i
 ·have hiz:((n+1:Nat):Int)≤(i:Int):=by omega
  have hiz2:(n:Int)+1≤(i:Int):=by omega
  have HE:Hid (((i:Nat):Int)≠n∧VB x ((i:Nat):Int)=false):=⟨by omega,sD (by have:=HN.out;omega)⟩
  rw[if_pos HE.out]
  clear HE
  go_enter Tryz.func41,Tryz.ntmps41
  go_upto_region 1 with fail
  rw[←HW.out]
  go_wp2
  go_ret2
  exact LnR.bad HLp.out (by have:=HN.out;have:=HCp.out;omega) HB.out.1 (by omega) (by have:=HN.out;omega)
 have hiz:¬(n:Int)+1≤(i:Int):=by omega
 rw[if_neg (fun h=>by
  rcases Nat.lt_or_ge i n with h1|h1
  ·have:=qJ (x:=x) (i:=i) (by have:=HN.out;omega)
   rw[h.2] at this
   cases this
  ·exact h.1 (by omega))]
 by_cases h40:n=40
 ·rw[if_pos h40]
  have h40z:(n:Int)=40:=by omega
  have h40b:((n:Int)==40)=true:=by simpa using h40z
  go_enter Tryz.func41,Tryz.ntmps41
  go_upto_region 1 with fail
  rw[←HW.out]
  go_wp2
  go_ret2
  exact LnR.bad HLp.out (by have:=HN.out;have:=HCp.out;omega) HB.out.1 (by omega) (by have:=HN.out;omega)
 rw[if_neg h40]
 have h40z:¬(n:Int)=40:=by omega
 have h40b:((n:Int)==40)=false:=by simpa using h40z
 rcases Nat.eq_zero_or_pos (chkB tx) with hch|hch
 rotate_left
 ·rw[if_neg (by omega)]
  have hcz:(0:Int)<chkB tx:=by omega
  generalize chkB tx=ck at *
  go_enter Tryz.func41,Tryz.ntmps41
  go_upto_region 1 with fail
  rw[←HW.out]
  go_wp2_with fail
  refine(HLE.out _).mono ?_
  rintro e w2 ⟨rfl,h9⟩
  subst w2
  go_wp2
  go_ret2
  exact LnR.bad HLp.out (by have:=HN.out;have:=HCp.out;omega) HB.out.1 hch (by have:=HN.out;omega)
 rw[if_pos hch]
 rw[hch] at HLE
 clear hch
 by_cases hn0:n=0
 ·have hx0:x.lines=[]:=List.eq_nil_of_length_eq_zero (by have:=HN.out;omega)
  have hi0:i=0:=by omega
  subst hn0 hi0
  rw[hx0]
  rw[hx0] at HL
  have hw0:=HW.out
  simp only[Int.natCast_zero] at hw0
  have HW0:=aA hw0
  clear hw0
  rw[show ((0:Nat):Int)=0 from rfl]
  rcases la with _|ad
  ·go_enter Tryz.func41,Tryz.ntmps41
   go_upto_region 1 with fail
   first|rw[←HW.out]|rw[←HW0.out]
   go_wp2_with fail
   refine(HLE.out _).mono ?_
   rintro e w2 ⟨rfl,h9⟩
   subst w2
   obtain⟨W2,hW2⟩:∃W2,W2=WB.alloc (.cells #[.string tx] 9):=⟨_,rfl⟩
   have hb2:Below WB.heap.size WB W2:=by rw[hW2];exact bA _ _
   have hs2:StrsAt W2 (some ⟨WB.heap.size,0,none⟩) [tx]:=by rw[hW2];exact VF _ _
   have HW2:=aA hW2
   have HS2:=aA hs2
   have HB2:=aA hb2
   clear hW2 hb2 hs2
   go_wp2_with (at_builtin;rw[←HW2.out];go_loud (refine DA rfl (.tmp 54) (.tmp 57) rfl WB.heap.size (.slice none 0 0) [] [tx] (by simp[Act.eval]) (SRow.nil _ _) ⟨_,_,_,rfl,rfl,HS2.out⟩ HB2.out.size (by simp) ?_))
   rintro v3 w3 hr3 hb3
   first|rw[List.nil_append] at hr3|skip
   obtain⟨sa,sc,rfl,hsc⟩:=hr3.any
   have HR3:=aA hr3
   have HB3:=aA (HB2.out.trans hb3)
   have hg3:=(HB3.out.block w.heap.size HB.out.2).trans HG.out
   clear hr3 hb3 x0 x1 x2 x3 x4 x5 x6 x7 x8 x9
   obtain⟨x0,x1,x2,x3,x4,x5,x6,x7,x8,x9⟩:=yB hg3
   clear hg3
   by_cases hcap:lc=0
   all_goals
    go_wp2_with (at_builtin;go_loud (refine DA rfl (.tmp 69) (.tmp 73) rfl WB.heap.size (.slice sa 1 sc) [tx] [] (by simp[Act.eval]) HR3.out ⟨_,_,_,rfl,rfl,eI _ _⟩ HB3.out.size (by simp) ?_))
    rintro v5 w5 hr5 hb5
    first|rw[List.append_nil] at hr5|skip
    obtain⟨ya,yc,rfl,hyc⟩:=hr5.any
    have HR5:=aA hr5
    have HB5:=aA (HB3.out.trans hb5)
    clear hr5 hb5
    go_wp2
    go_ret2
    exact LnR.ok (HB.out.1.trans (HB5.out.mono HB.out.1.size)) (HR5.out.mono HB.out.1.size) rfl
  ·by_cases hcap:lc=0
   all_goals
    go_enter Tryz.func41,Tryz.ntmps41
    go_upto_region 1 with fail
    first|rw[←HW.out]|rw[←HW0.out]
    go_wp2_with fail
    refine(HLE.out _).mono ?_
    rintro e w2 ⟨rfl,h9⟩
    subst w2
    go_wp2_with (at_builtin;go_loud (refine DA rfl (.tmp 45) (.tmp 49) rfl WB.heap.size (.slice none 0 0) [] [] (by simp[Act.eval]) (SRow.nil _ _) ⟨_,_,_,rfl,rfl,eI _ _⟩ (nR _) (by simp) ?_))
    rintro v1 w1 hr1 hb1
    first|rw[List.nil_append] at hr1|skip
    obtain⟨ra,rc,rfl,hrc⟩:=hr1.any
    have HR1:=aA hr1
    have HB1:=aA hb1
    have hg1:=(hb1.block w.heap.size HB.out.2).trans HG.out
    clear hr1 hb1 x0 x1 x2 x3 x4 x5 x6 x7 x8 x9
    obtain⟨x0,x1,x2,x3,x4,x5,x6,x7,x8,x9⟩:=yB hg1
    clear hg1
    obtain⟨W2,hW2⟩:∃W2,W2=w1.alloc (.cells #[.string tx] 9):=⟨_,rfl⟩
    have hb2:Below w1.heap.size w1 W2:=by rw[hW2];exact bA _ _
    have hs2:StrsAt W2 (some ⟨w1.heap.size,0,none⟩) [tx]:=by rw[hW2];exact VF _ _
    have HW2:=aA hW2
    have HS2:=aA hs2
    have HR2:=aA (HR1.out.on hb2)
    have HB2:=aA (HB1.out.trans (hb2.mono HB1.out.size))
    clear hW2 hb2 hs2
    go_wp2_with (at_builtin;rw[←HW2.out];go_loud (refine DA rfl (.tmp 54) (.tmp 57) rfl WB.heap.size (.slice ra 0 rc) [] [tx] (by simp[Act.eval]) HR2.out ⟨_,_,_,rfl,rfl,HS2.out⟩ HB2.out.size (by simp) ?_))
    rintro v3 w3 hr3 hb3
    first|rw[List.nil_append] at hr3|skip
    obtain⟨sa,sc,rfl,hsc⟩:=hr3.any
    have HR3:=aA hr3
    have HB3:=aA (HB2.out.trans hb3)
    have hg3:=(HB3.out.block w.heap.size HB.out.2).trans HG.out
    clear hr3 hb3 x0 x1 x2 x3 x4 x5 x6 x7 x8 x9
    obtain⟨x0,x1,x2,x3,x4,x5,x6,x7,x8,x9⟩:=yB hg3
    clear hg3
    go_wp2_with (at_builtin;go_loud (refine DA rfl (.tmp 69) (.tmp 73) rfl WB.heap.size (.slice sa 1 sc) [tx] [] (by simp[Act.eval]) HR3.out ⟨_,_,_,rfl,rfl,eI _ _⟩ HB3.out.size (by simp) ?_))
    rintro v5 w5 hr5 hb5
    first|rw[List.append_nil] at hr5|skip
    obtain⟨ya,yc,rfl,hyc⟩:=hr5.any
    have HR5:=aA hr5
    have HB5:=aA (HB3.out.trans hb5)
    clear hr5 hb5
    go_wp2
    go_ret2
    exact LnR.ok (HB.out.1.trans (HB5.out.mono HB.out.1.size)) (HR5.out.mono HB.out.1.size) rfl
 obtain⟨ad,rfl⟩:∃ad,la=some ad:=by
  cases la with
  |some a=>exact⟨a,rfl⟩
  |none=>
   obtain⟨_,_,e,_⟩:=HL.out 0 _ (List.getElem?_eq_getElem (by have:=HN.out;omega))
   cases e
 have hc0:¬lc=0:=by omega
 go_enter Tryz.func41,Tryz.ntmps41
 go_upto_region 1 with fail
 rw[←HW.out]
 go_wp2_with fail
 refine(HLE.out _).mono ?_
 rintro e w2 ⟨rfl,h9⟩
 subst w2
 have hiz2:(i:Int)≤lc:=by omega
 have hA:=AG HL.out i
 have hlt:(x.lines.take i).length=i:=by rw[List.length_take,←HN.out];omega
 have HA:=aA (aI hA hlt)
 clear hA hlt
 go_wp2_with (at_builtin;go_loud (refine DA rfl (.tmp 45) (.tmp 49) rfl WB.heap.size (.slice none 0 0) [] (x.lines.take i) (by simp[Act.eval]) (SRow.nil _ _) ⟨_,_,_,rfl,HA.out.2.symm,HA.out.1⟩ (nR _) (by have:=HA.out.2;simp only[List.length_nil];omega) ?_))
 rintro v1 w1 hr1 hb1
 first|rw[List.nil_append] at hr1|skip
 obtain⟨ra,rc,rfl,hrc⟩:=hr1.any
 rw[HA.out.2] at hrc ⊢
 have HR1:=aA hr1
 have HB1:=aA hb1
 have hg1:=(hb1.block w.heap.size HB.out.2).trans HG.out
 clear hr1 hb1 x0 x1 x2 x3 x4 x5 x6 x7 x8 x9
 obtain⟨x0,x1,x2,x3,x4,x5,x6,x7,x8,x9⟩:=yB hg1
 clear hg1
 obtain⟨W2,hW2⟩:∃W2,W2=w1.alloc (.cells #[.string tx] 9):=⟨_,rfl⟩
 have hb2:Below w1.heap.size w1 W2:=by rw[hW2];exact bA _ _
 have hs2:StrsAt W2 (some ⟨w1.heap.size,0,none⟩) [tx]:=by rw[hW2];exact VF _ _
 have HW2:=aA hW2
 have hr2:=HR1.out.on hb2
 have hl2:((x.lines.take i).length)=i:=HA.out.2
 have HR2:=aA (aI hr2 hs2)
 have HB2:=aA (HB1.out.trans (hb2.mono HB1.out.size))
 clear hW2 hb2 hs2 hr2
 go_wp2_with (at_builtin;rw[←HW2.out];go_loud (refine DA rfl (.tmp 54) (.tmp 57) rfl WB.heap.size (.slice ra i rc) (x.lines.take i) [tx] (by simp[Act.eval]) (by have h:=HR2.out.1;rw[HA.out.2] at h;exact h) ⟨_,_,_,rfl,rfl,HR2.out.2⟩ HB2.out.size (by have:=HA.out.2;simp only[List.length_cons,List.length_nil];omega) ?_))
 rintro v3 w3 hr3 hb3
 have hl3:((x.lines.take i)++[tx]).length=i+1:=by rw[List.length_append,HA.out.2];rfl
 obtain⟨sa,sc,rfl,hsc⟩:=hr3.any
 rw[hl3] at hsc ⊢
 have HL3:=aA hl3
 have HR3:=aA hr3
 have HB3:=aA (HB2.out.trans hb3)
 have hg3:=(HB3.out.block w.heap.size HB.out.2).trans HG.out
 clear hr3 hb3 hl3 x0 x1 x2 x3 x4 x5 x6 x7 x8 x9
 obtain⟨x0,x1,x2,x3,x4,x5,x6,x7,x8,x9⟩:=yB hg3
 clear hg3 hl2
 have HF:Hid (x.lines.insertIdx i tx=x.lines.take i++[tx]++x.lines.drop i):=by show _=_;exact NI tx x.lines i (by have:=HN.out;omega)
 have hS:=zG (HL.out.on HB3.out) (c:=lc) (by have:=HN.out;omega) i
 have hd:(x.lines.drop i).length=n - i:=by rw[List.length_drop,←HN.out]
 have HS:=aA (aI hS hd)
 clear hS hd
 have hiz3:((i:Nat):Int)≤(n:Int):=by omega
 have hiz4:(n:Int)≤lc:=by omega
 by_cases hcap:lc=i
 all_goals
  go_wp2_with (at_builtin;go_loud (refine DA rfl (.tmp 69) (.tmp 73) rfl WB.heap.size (.slice sa (i+1) sc) ((x.lines.take i)++[tx]) (x.lines.drop i) (by simp[Act.eval]) (by have h:=HR3.out;unfold SRow at h ⊢;rw[HL3.out] at h ⊢;exact h) ⟨_,_,_,rfl,(by have:=HS.out.2;omega),(by have h:=HS.out.1;simp only[hcap,if_true,if_false] at h;first|exact h|simpa using h)⟩ HB3.out.size (by have:=HS.out.2;have:=HL3.out;omega) ?_))
  rintro v5 w5 hr5 hb5
  obtain⟨ya,yc,rfl,hyc⟩:=hr5.any
  have HR5:=aA hr5
  have HB5:=aA (HB3.out.trans hb5)
  clear hr5 hb5
  go_wp2
  go_ret2
  exact LnR.ok (HB.out.1.trans (HB5.out.mono HB.out.1.size)) (HR5.out.mono HB.out.1.size) (by rw[show ((i:Nat):Int).toNat=i from rfl,HF.out];try simp)
theorem pQ{x:It}{o:OpW}(hk:o.kind=4)(_ht:o.text.size≤100000){iv:Nat→Value}{il ih:ByteArray}{ia ka:Option Addr}{iln ilc ikn ikc:Nat}(f0:iv 0=.string il)(f1:iv 1=.string ih)(f2:iv 2=.slice ia iln ilc)(f3:iv 3=.slice ka ikn ikc){w:World}{la:Option Addr}{lc:Nat}{P:Nat→Prop}(hlp:StrsP w P la x.lines)(hc:x.lines.length≤lc)(hn:x.lines.length≤1000):
 Calls Tryz.prog 41 #[.slice la x.lines.length lc,.agg (FB o iv)] w (LnR w P x (textC x o)):=by
 have HLp:=aA hlp
 have HCp:=aA hc
 have hl:=hlp.strs
 have HTx:Hid (textC x o=if VB x o.line=false then .bad 8 else .ok (x.setLines (x.lines.eraseIdx o.line.toNat))):=by
  show _=_
  unfold textC
  rw[if_neg (by omega),if_neg (by omega),if_pos hk]
 rw[HTx.out]
 clear HTx
 obtain⟨WB,hWB⟩:∃WB,WB=w.alloc (.cells (FB o iv) 46):=⟨_,rfl⟩
 have hb1:Below w.heap.size w WB:=by rw[hWB];exact bA _ _
 have hg:WB.heap[w.heap.size]?=some (.cells (FB o iv) 46 (0,0)):=by rw[hWB];exact heap_alloc_new _ _
 have hsz:w.heap.size<WB.heap.size:=(Array.getElem?_eq_some_iff.1 hg).1
 unfold FB at hWB hg ⊢
 rw[f0,f1,f2,f3,hk] at hWB hg
 rw[f0,f1,f2,f3,hk]
 obtain⟨x0,x1,x2,x3,x4,x5,x6,x7,x8,x9⟩:=yB hg
 have HW:=aA hWB
 have HB:=aA (aI hb1 hsz)
 have HG:=aA hg
 have HL:=aA (hl.on hb1)
 obtain⟨n,hnn⟩:∃n,n=x.lines.length:=⟨_,rfl⟩
 have HN:=aA hnn
 rw[←hnn] at hc hn ⊢
 clear hWB hb1 hg f0 f1 f2 f3 hk hnn hl hlp hsz
 generalize o.text=tx at *
 generalize o.line=li at *
 generalize o.path=pt at *
 generalize o.at'=oat at *
 generalize o.new=onw at *
 by_cases h0:li<0
 ·have HE:Hid (VB x li=false):=sD (by have:=HN.out;omega)
  rw[if_pos HE.out]
  clear HE
  go_enter Tryz.func41,Tryz.ntmps41
  go_upto_region 1 with fail
  rw[←HW.out]
  go_wp2
  go_ret2
  exact LnR.bad HLp.out (by have:=HN.out;have:=HCp.out;omega) HB.out.1 (by omega) (by have:=HN.out;omega)
 obtain⟨i,rfl⟩:∃i:Nat,li=i:=⟨li.toNat,by omega⟩
 clear h0
 by_cases hi:n≤i
 ·have hiz:((n:Nat):Int)≤(i:Int):=by omega
  have hiz2:(n:Int)≤(i:Int):=by omega
  have HE:Hid (VB x ((i:Nat):Int)=false):=sD (by have:=HN.out;omega)
  rw[if_pos HE.out]
  clear HE
  go_enter Tryz.func41,Tryz.ntmps41
  go_upto_region 1 with fail
  rw[←HW.out]
  go_wp2
  go_ret2
  exact LnR.bad HLp.out (by have:=HN.out;have:=HCp.out;omega) HB.out.1 (by omega) (by have:=HN.out;omega)
 have hiz:¬(n:Int)≤(i:Int):=by omega
 rw[if_neg (by rw[qJ (x:=x) (i:=i) (by have:=HN.out;omega)];decide)]
 obtain⟨ad,rfl⟩:∃ad,la=some ad:=by
  cases la with
  |some a=>exact⟨a,rfl⟩
  |none=>
   obtain⟨_,_,e,_⟩:=HL.out i _ (List.getElem?_eq_getElem (by have:=HN.out;omega))
   cases e
 have hc0:¬lc=0:=by omega
 go_enter Tryz.func41,Tryz.ntmps41
 go_upto_region 1 with fail
 rw[←HW.out]
 have hiz2:(i:Int)≤lc:=by omega
 have hA:=AG HL.out i
 have hlt:(x.lines.take i).length=i:=by rw[List.length_take,←HN.out];omega
 have HA:=aA (aI hA hlt)
 clear hA hlt
 go_wp2_with (at_builtin;go_loud (refine DA rfl (.tmp 45) (.tmp 49) rfl WB.heap.size (.slice none 0 0) [] (x.lines.take i) (by simp[Act.eval]) (SRow.nil _ _) ⟨_,_,_,rfl,HA.out.2.symm,HA.out.1⟩ (nR _) (by have:=HA.out.2;simp only[List.length_nil];omega) ?_))
 rintro v1 w1 hr1 hb1
 first|rw[List.nil_append] at hr1|skip
 obtain⟨ra,rc,rfl,hrc⟩:=hr1.any
 rw[HA.out.2] at hrc ⊢
 have HR1:=aA hr1
 have HB1:=aA hb1
 have hg1:=(hb1.block w.heap.size HB.out.2).trans HG.out
 clear hr1 hb1 x0 x1 x2 x3 x4 x5 x6 x7 x8 x9
 obtain⟨x0,x1,x2,x3,x4,x5,x6,x7,x8,x9⟩:=yB hg1
 clear hg1
 have HF:Hid (x.lines.eraseIdx i=x.lines.take i++x.lines.drop (i+1)):=by show _=_;rw[List.eraseIdx_eq_take_drop_succ]
 have hS:=zG (HL.out.on HB1.out) (c:=lc) (by have:=HN.out;omega) (i+1)
 have hd:(x.lines.drop (i+1)).length=n - (i+1):=by rw[List.length_drop,←HN.out]
 have HS:=aA (aI hS hd)
 clear hS hd
 have hiz3:(((i+1):Nat):Int)≤(n:Int):=by omega
 have hiz4:(n:Int)≤lc:=by omega
 by_cases hcap:lc=(i+1)
 all_goals
  go_wp2_with (at_builtin;go_loud (refine DA rfl (.tmp 62) (.tmp 67) rfl WB.heap.size (.slice ra i rc) (x.lines.take i) (x.lines.drop (i+1)) (by simp[Act.eval]) (by have h:=HR1.out;unfold SRow at h ⊢;rw[HA.out.2] at h ⊢;exact h) ⟨_,_,_,rfl,(by have:=HS.out.2;omega),(by have h:=HS.out.1;simp only[hcap,if_true,if_false] at h;first|exact h|simpa using h)⟩ HB1.out.size (by have:=HS.out.2;have:=HA.out.2;omega) ?_))
  rintro v5 w5 hr5 hb5
  obtain⟨ya,yc,rfl,hyc⟩:=hr5.any
  have HR5:=aA hr5
  have HB5:=aA (HB1.out.trans hb5)
  clear hr5 hb5
  go_wp2
  go_ret2
  exact LnR.ok (HB.out.1.trans (HB5.out.mono HB.out.1.size)) (HR5.out.mono HB.out.1.size) (by rw[show ((i:Nat):Int).toNat=i from rfl,HF.out];try simp)
end Go.Proofs.YtpbolcjcmkmalaaGreatDoor
