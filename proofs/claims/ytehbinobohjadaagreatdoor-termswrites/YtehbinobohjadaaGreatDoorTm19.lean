import Derived.Test.YtehbinobohjadaaGreatDoorTm00
import Derived.Test.YtehbinobohjadaaGreatDoorTm15
import Derived.Deep.LoopGhost
import Derived.Test.YtehbinobohjadaaGreatDoorTm11
set_option maxHeartbeats 20000000
set_option maxRecDepth 20000
namespace Go.Proofs.YtehbinobohjadaaGreatDoor
open Go.RowKit Go.Extern.Stop Go.Stop Go.Extern
structure SetRow(W WF:World)(g:Nat)(v0 v1 v2 v3:Value)(cs:Array Value):Prop where
 old:∀b,b<W.heap.size→b≠g→WF.heap[b]?=W.heap[b]?
 var:WF.heap[g]?=some (.cells #[v0,v1,v2,v3] 25 (0,0))
 row:WF.heap[W.heap.size]?=some (.cells cs 25 (0,0))
 size:WF.heap.size=W.heap.size+1
 bel:∀B,B≤g→B≤W.heap.size→Below B W WF
theorem setRow{W:World}{g:Nat}{a b c d:Value}(h:W.heap[g]?=some (.cells #[a,b,c,d] 25 (0,0)))(v0 v1 v2 v3:Value)(cs:Array Value):
 SetRow W (((((W.setCell ⟨g,0,none⟩ v0).setCell ⟨g,1,none⟩ v1).setCell ⟨g,2,none⟩ v2).setCell ⟨g,3,none⟩ v3).alloc (.cells cs 25)) g v0 v1 v2 v3 cs:=by
 have hlt:g<W.heap.size:=by
  rcases Nat.lt_or_ge g W.heap.size with h2|h2
  ·exact h2
  ·rw[Array.getElem?_eq_none h2] at h;cases h
 have hA:∀q,q<W.heap.size→(((((W.setCell ⟨g,0,none⟩ v0).setCell ⟨g,1,none⟩ v1).setCell ⟨g,2,none⟩ v2).setCell ⟨g,3,none⟩ v3).alloc (.cells cs 25)).heap[q]?=((((W.setCell ⟨g,0,none⟩ v0).setCell ⟨g,1,none⟩ v1).setCell ⟨g,2,none⟩ v2).setCell ⟨g,3,none⟩ v3).heap[q]?:=fun q hq=>(bA _ _).block q (by rw[lJ];exact hq)
 refine⟨fun q hq hne=>(hA q hq).trans (pG _ _ _ _ hne),(hA g hlt).trans (QE h _ _ _ _),rE (lJ _ _ _ _),by simp,fun B h1 h2=>(((((Below.refl B W).setCell h1 _).setCell h1 _).setCell h1 _).setCell h1 _).alloc (by rw[lJ];exact h2) _⟩
theorem QEnd.base{L:List Tok}{rp tb:Nat}{W V w':World}{α:Type}{r:PR α}{U:α→Value→World→Prop}{e:Ending}(hb:Below W.heap.size W V)(h:QEnd L rp tb V r U e w'):QEnd L rp tb W r U e w':=⟨(Below.x hb rp (nR _)).then h.1 hb.size,h.2⟩
inductive LoopQ(L:List Tok)(rp tb:Nat)(w:World)(R:PR Nd)(lp:Nat→Nd→Nat→Nat→PR Nd)(F g3 g:Nat)(wr:World):Prop
 |mk (f:Nat) (x:Nd) (k n:Nat) (s0 s1:ByteArray) (n2:Int) (ka:Option Addr) (kn kc:Nat) (hg:f≤g) (hF:f≤F) (hq:QS L rp tb wr k n)
  (hN:NL wr (fun b=>w.heap.size<b∧b≠g3) (nv (.string s0) (.string s1) (.int .i64 n2) (.slice ka kn kc)) x)
  (hR:lp f x k n=R) (hc:wr.heap[g3]?=some (.cells #[.string s0,.string s1,.int .i64 n2,.slice ka kn kc] 25 (0,0)))
  (h0:wr.heap[w.heap.size]?=some (.cells #[.string ⟨#[]⟩,.string ⟨#[]⟩,.int .i64 0,.slice none 0 0] 25 (0,0))) (hB:BelX w.heap.size rp w wr) (h3:w.heap.size<g3) (h4:g3<wr.heap.size):LoopQ L rp tb w R lp F g3 g wr
theorem LoopQ.next{L:List Tok}{rp tb:Nat}{w W5 WF:World}{R:PR Nd}{lp:Nat→Nd→Nat→Nat→PR Nd}{F g3 f' k n:Nat}{y:Nd}{s0 s1:ByteArray}{n2:Int}{ka:Option Addr}{kn kc:Nat}{cs:Array Value}(lo:Lows rp tb w.heap.size)(h3:w.heap.size<g3)(h4:g3<W5.heap.size)(hB:BelX w.heap.size rp w W5)(hq:QS L rp tb W5 k n)
 (hs:SetRow W5 WF g3 (.string s0) (.string s1) (.int .i64 n2) (.slice ka kn kc) cs) (h0:W5.heap[w.heap.size]?=some (.cells #[.string ⟨#[]⟩,.string ⟨#[]⟩,.int .i64 0,.slice none 0 0] 25 (0,0)))
 (hN:NL WF (fun b=>w.heap.size<b∧b≠g3) (nv (.string s0) (.string s1) (.int .i64 n2) (.slice ka kn kc)) y) (hF:f'≤F) (hR:lp f' y k n=R):LoopQ L rp tb w R lp F g3 f' WF:=by
 have hb:=hs.bel w.heap.size (by omega) (by omega)
 refine .mk f' y k n s0 s1 n2 ka kn kc (nR _) hF (hq.keep lo fun b hb'=>hb.block b hb') hN hR hs.var ((hs.old _ (by omega) (by omega)).trans h0) (hB.then (Below.x hb rp (nR _)) (nR _)) h3 (by have:=hs.size;omega)
theorem LoopQ.nextA{L:List Tok}{rp tb:Nat}{w W5:World}{R:PR Nd}{lp:Nat→Nd→Nat→Nat→PR Nd}{F g3 f' k n:Nat}{y:Nd}{s0 s1:ByteArray}{n2:Int}{ka:Option Addr}{kn kc:Nat}{a b c d:Value}(lo:Lows rp tb w.heap.size)(h3:w.heap.size<g3)(h4:g3<W5.heap.size)(hB:BelX w.heap.size rp w W5)(hq:QS L rp tb W5 k n)
 (hc:W5.heap[g3]?=some (.cells #[a,b,c,d] 25 (0,0))) (h0:W5.heap[w.heap.size]?=some (.cells #[.string ⟨#[]⟩,.string ⟨#[]⟩,.int .i64 0,.slice none 0 0] 25 (0,0)))
 (hN:NL ((((W5.setCell ⟨g3,0,none⟩ (.string s0)).setCell ⟨g3,1,none⟩ (.string s1)).setCell ⟨g3,2,none⟩ (.int .i64 n2)).setCell ⟨g3,3,none⟩ (.slice ka kn kc)) (fun b=>w.heap.size<b∧b≠g3) (nv (.string s0) (.string s1) (.int .i64 n2) (.slice ka kn kc)) y) (hF:f'≤F) (hR:lp f' y k n=R):
 LoopQ L rp tb w R lp F g3 f' ((((W5.setCell ⟨g3,0,none⟩ (.string s0)).setCell ⟨g3,1,none⟩ (.string s1)).setCell ⟨g3,2,none⟩ (.int .i64 n2)).setCell ⟨g3,3,none⟩ (.slice ka kn kc)):=by
 have h9:w.heap.size≤g3:=by omega
 have hb:Below w.heap.size W5 ((((W5.setCell ⟨g3,0,none⟩ (.string s0)).setCell ⟨g3,1,none⟩ (.string s1)).setCell ⟨g3,2,none⟩ (.int .i64 n2)).setCell ⟨g3,3,none⟩ (.slice ka kn kc)):=((((Below.refl w.heap.size W5).setCell h9 _).setCell h9 _).setCell h9 _).setCell h9 _
 exact .mk f' y k n s0 s1 n2 ka kn kc (nR _) hF (hq.keep lo fun b hb'=>hb.block b hb') hN hR (QE hc _ _ _ _) ((pG _ _ _ _ (by omega)).trans h0) (hB.then (Below.x hb rp (nR _)) (nR _)) h3 (by rw[lJ];exact h4)
theorem zK{L:List Tok}{rp tb f:Nat}(h1:∀f',f'≤f→QRule L rp tb 81 (iC L f')):QRule L rp tb 40 (FA L (f+1)):=by
 intro w k n h hn
 have lo:=h.lows
 obtain⟨R,hR⟩:∃R,R=FA L (f+1) k n:=⟨_,rfl⟩
 rw[←hR] at hn ⊢
 rw[FA] at hR
 obtain⟨W1,hW1⟩:∃W1,W1=w.alloc (.cells #[.string ⟨#[]⟩,.string ⟨#[]⟩,.int .i64 0,.slice none 0 0] 25):=⟨_,rfl⟩
 have hst:StartQ w W1:=by rw[hW1];exact StartQ.new w
 have H1:=aA h1
 have HX:=aA hW1
 have HR:=aA hR
 have HNo:=aA hn
 have HT:=aA hst
 have HL:=aA lo
 have HQ1:=aA (aI (h.below hst.bel) (Below.x hst.bel rp (nR _)))
 have hs1:=hst.lt
 have hrp:=lo.r
 clear h hW1 hst hR hn lo h1
 go_enter Tryz.func40,Tryz.ntmps40
 go_wp2_with (rw[←HX.out];go_at_call 81;refine(H1.out f (nR _) _ _ _ HQ1.out.1 (PR.bind_not (HR.out▸HNo.out))).mono ?_;rintro e W2 hE;rcases hr:iC L f k n with _|⟨c,a⟩|⟨x1,k1,n1⟩;(·exact absurd hr (PR.bind_not (HR.out▸HNo.out)));(·rw[hr] at hE;obtain⟨hb,⟨p,rfl⟩⟩:=hE;obtain rfl:R=.bad c a:=(by rw[HR.out,hr,PR.bind_bad]);exact(show _∧_ from⟨rfl,HQ1.out.2.then hb HQ1.out.2.size,⟨_,rfl⟩⟩));rw[hr] at hE;obtain⟨hb,hq,v,rfl,s0,s1,i2,ka,kn,kc,rfl,hN⟩:=hE;rw[hr,PR.bind_ok] at HR;have HQ2:=aA (aI hq (aI (HQ1.out.2.then hb HQ1.out.2.size) (aI ((hb.block _ hs1 (by omega)).trans HT.out.blk) hN)));have hs2:=hb.size;clear hb hq hr hN)
 obtain⟨V2,hV2⟩:∃V2,V2=W2.alloc (.cells #[.string s0,.string s1,.int .i64 i2,.slice ka kn kc] 25):=⟨_,rfl⟩
 rw[←hV2]
 have HS0:Hid (LoopQ L rp tb w R (zB L) f W2.heap.size f V2):=by
  have hv2:Below W2.heap.size W2 V2:=by rw[hV2];exact bA _ _
  exact .mk f x1 k1 n1 s0 s1 i2 ka kn kc (nR _) (nR _) (HQ2.out.1.below hv2) (HQ2.out.2.2.2.step fun b hb hp=>⟨hv2.block b hb,by omega,by omega⟩) HR.out.symm (by rw[hV2];exact heap_alloc_new _ _) ((hv2.block _ (by omega)).trans HQ2.out.2.2.1) (HQ2.out.2.1.then (Below.x hv2 rp (nR _)) HQ2.out.2.1.size) (by omega) (by rw[hV2];simp)
 clear hV2 HR HX HT HQ1 HQ2
 generalize W2.heap.size=g3 at *
 go_loopg [] f (fun g wr=>LoopQ L rp tb w R (zB L) f g3 g wr)
 case atStart=>exact HS0.out
 case round=>
  clear HS0
  cases hrel with
  |mk f' x k1 n1 s0 s1 i2 ka kn kc hg hF hq hN hR hc h0 hB h3 h4=>
  cases f' with
  |zero=>exact absurd (hR.symm.trans (by rw[zB])) HNo.out
  |succ f'=>
   rw[zB] at hR
   unfold wOr at hR
   have hbg:g3≠rp:=by omega
   have hb0:w.heap.size≠rp:=by omega
   have hl0:w.heap.size<wr.heap.size:=by omega
   have HC:=aA (aI hc h0)
   have HB:=aA hB
   have HN:=aA hN
   have HG:=aA hg
   have HTk:=aA (qI hq ⟨#[111,114]⟩ (by decide))
   clear hc h0 hB hN hg
   cases hi:YB L ⟨#[111,114]⟩ k1 with
   |false=>
    rw[hi,if_neg (by simp)] at HTk
    rw[hi,if_neg (by simp)] at hR
    subst hR
    clear hi hq
    go_wp2_with (go_at_call 80;refine HTk.out.mono ?_;rintro e W4 ⟨rfl,hq4,hb4⟩;obtain⟨q0,q1,q2,q3,qf⟩:=tA ((hb4.block _ hl0 hb0).trans HC.out.2);obtain⟨z0,z1,z2,z3,zf⟩:=tA ((hb4.block _ h4 hbg).trans HC.out.1);have HQ4:=aA (aI hq4 hb4);clear hq4 hb4)
    refine bodyPost_ret (v:=.agg #[.string s0,.string s1,.int .i64 i2,.slice ka kn kc]) (by simp[results,Tryz.results40,go_sem,q0,q1,q2,q3]) rfl ?_
    exact VD HL.out (HB.out.then HQ4.out.2 HB.out.size) HQ4.out.1 (HN.out.step fun b hb hp=>⟨HQ4.out.2.block b hb (by omega),hp.1⟩)
   |true=>
    rw[hi,if_pos rfl] at HTk
    rw[hi,if_pos rfl] at hR
    have HR:=aA hR
    clear hi hq hR
    go_upto_region 3 with (go_at_call 80;refine HTk.out.mono ?_;rintro e W4 ⟨rfl,hq4,hb4⟩;have h3':=(hb4.block _ h4 hbg).trans HC.out.1;have h0':=(hb4.block _ hl0 hb0).trans HC.out.2;obtain⟨z0,z1,z2,z3,zf⟩:=tA h3';have HQ4:=aA (aI hq4 (aI (HB.out.then hb4 HB.out.size) (aI h3' (aI h0' (HN.out.step (P':=fun b=>w.heap.size<b∧b≠g3) fun b hb hp=>⟨hb4.block b hb (by omega),hp⟩)))));have hs4:=hb4.size;clear hq4 hb4 h3' h0')
    have HS2:=aA (fun (V:World) (hb:Below W4.heap.size W4 V)=>(H1.out f' (by omega)).at HQ4.out.1 (PR.bind_not (HR.out.symm▸HNo.out)) hb)
    go_region_with (go_at_call 81;refine(HS2.out _ ?_).mono ?_;(·first|exact Below.refl _ _|exact(Below.refl _ _).drew|exact ME (Below.refl _ _) _);rintro e W5 hE;rcases hr:iC L f' (k1+1) n1 with _|⟨c,a⟩|⟨x2,k2,n2⟩;(·exact absurd hr (PR.bind_not (HR.out.symm▸HNo.out)));(·rw[hr] at hE;obtain⟨hb,⟨p,rfl⟩⟩:=hE;obtain rfl:R=.bad c a:=(by rw[←HR.out,hr,PR.bind_bad]);exact(show _∧_ from⟨rfl,HQ4.out.2.1.then hb HQ4.out.2.1.size,⟨_,rfl⟩⟩));rw[hr] at hE;obtain⟨hb,hq,v,rfl,t0,t1,j2,la,ln,lc,rfl,hM⟩:=hE;rw[hr,PR.bind_ok] at HR;have hs5:=hb.size;have h3':=(hb.block g3 (by omega) hbg).trans HQ4.out.2.2.1;have h0':=(hb.block w.heap.size (by omega) hb0).trans HQ4.out.2.2.2.1;have HQ5:=aA (aI hq (aI (HQ4.out.2.1.then hb HQ4.out.2.1.size) (aI h3' (aI h0' (aI (HQ4.out.2.2.2.2.step (P':=fun b=>w.heap.size<b∧b≠g3) fun b hb' hp=>⟨hb.block b hb' (by omega),hp⟩) (hM.step (P':=fun b=>w.heap.size<b∧b≠g3) fun b hb' hp=>⟨rfl,by omega,by omega⟩))))));obtain⟨y0,y1,y2,y3,yf⟩:=tA h3';have hl5:g3<W5.heap.size:=(by omega);clear hb hq h3' h0' hr hM)
    all_goals (
     go_wp2
     go_roundg f'
     case rel=>
      have hsr:=setRow HQ5.out.2.2.1 (.string ⟨#[111,114]⟩) (.string ⟨#[]⟩) (.int .i64 0) (.slice (some ⟨W5.heap.size,0,none⟩) 2 2) #[.string s0,.string s1,.int .i64 i2,.slice ka kn kc,.string t0,.string t1,.int .i64 j2,.slice la ln lc]
      have h8:=wH hsr.row
      exact LoopQ.next HL.out h3 hl5 HQ5.out.2.1 HQ5.out.1 hsr HQ5.out.2.2.2.1 (NL.two (HQ5.out.2.2.2.2.1.step fun b hb hp=>⟨hsr.old b hb hp.2,hp⟩) (HQ5.out.2.2.2.2.2.step fun b hb hp=>⟨hsr.old b hb hp.2,hp⟩) ⟨by omega,by omega⟩ h8.1 h8.2 ⟨#[111,114]⟩ ⟨#[]⟩ 0) (by omega) HR.out
     case measure=>have:=HG.out;omega)
theorem PM{L:List Tok}{rp tb f:Nat}(h1:∀f',f'≤f→QRule L rp tb 119 (QA L f')):QRule L rp tb 81 (iC L (f+1)):=by
 intro w k n h hn
 have lo:=h.lows
 obtain⟨R,hR⟩:∃R,R=iC L (f+1) k n:=⟨_,rfl⟩
 rw[←hR] at hn ⊢
 rw[iC] at hR
 obtain⟨W1,hW1⟩:∃W1,W1=w.alloc (.cells #[.string ⟨#[]⟩,.string ⟨#[]⟩,.int .i64 0,.slice none 0 0] 25):=⟨_,rfl⟩
 have hst:StartQ w W1:=by rw[hW1];exact StartQ.new w
 have H1:=aA h1
 have HX:=aA hW1
 have HR:=aA hR
 have HNo:=aA hn
 have HT:=aA hst
 have HL:=aA lo
 have HQ1:=aA (aI (h.below hst.bel) (Below.x hst.bel rp (nR _)))
 have hs1:=hst.lt
 have hrp:=lo.r
 clear h hW1 hst hR hn lo h1
 go_enter Tryz.func81,Tryz.ntmps81
 go_wp2_with (rw[←HX.out];go_at_call 119;refine(H1.out f (nR _) _ _ _ HQ1.out.1 (PR.bind_not (HR.out▸HNo.out))).mono ?_;rintro e W2 hE;rcases hr:QA L f k n with _|⟨c,a⟩|⟨x1,k1,n1⟩;(·exact absurd hr (PR.bind_not (HR.out▸HNo.out)));(·rw[hr] at hE;obtain⟨hb,⟨p,rfl⟩⟩:=hE;obtain rfl:R=.bad c a:=(by rw[HR.out,hr,PR.bind_bad]);exact(show _∧_ from⟨rfl,HQ1.out.2.then hb HQ1.out.2.size,⟨_,rfl⟩⟩));rw[hr] at hE;obtain⟨hb,hq,v,rfl,s0,s1,i2,ka,kn,kc,rfl,hN⟩:=hE;rw[hr,PR.bind_ok] at HR;have HQ2:=aA (aI hq (aI (HQ1.out.2.then hb HQ1.out.2.size) (aI ((hb.block _ hs1 (by omega)).trans HT.out.blk) hN)));have hs2:=hb.size;clear hb hq hr hN)
 obtain⟨V2,hV2⟩:∃V2,V2=W2.alloc (.cells #[.string s0,.string s1,.int .i64 i2,.slice ka kn kc] 25):=⟨_,rfl⟩
 rw[←hV2]
 have HS0:Hid (LoopQ L rp tb w R (WA L) f W2.heap.size f V2):=by
  have hv2:Below W2.heap.size W2 V2:=by rw[hV2];exact bA _ _
  exact .mk f x1 k1 n1 s0 s1 i2 ka kn kc (nR _) (nR _) (HQ2.out.1.below hv2) (HQ2.out.2.2.2.step fun b hb hp=>⟨hv2.block b hb,by omega,by omega⟩) HR.out.symm (by rw[hV2];exact heap_alloc_new _ _) ((hv2.block _ (by omega)).trans HQ2.out.2.2.1) (HQ2.out.2.1.then (Below.x hv2 rp (nR _)) HQ2.out.2.1.size) (by omega) (by rw[hV2];simp)
 clear hV2 HR HX HT HQ1 HQ2
 generalize W2.heap.size=g3 at *
 go_loopg [] f (fun g wr=>LoopQ L rp tb w R (WA L) f g3 g wr)
 case atStart=>exact HS0.out
 case round=>
  clear HS0
  cases hrel with
  |mk f' x k1 n1 s0 s1 i2 ka kn kc hg hF hq hN hR hc h0 hB h3 h4=>
  cases f' with
  |zero=>exact absurd (hR.symm.trans (by rw[WA])) HNo.out
  |succ f'=>
   rw[WA] at hR
   unfold wAnd at hR
   have hbg:g3≠rp:=by omega
   have hb0:w.heap.size≠rp:=by omega
   have hl0:w.heap.size<wr.heap.size:=by omega
   have HC:=aA (aI hc h0)
   have HB:=aA hB
   have HN:=aA hN
   have HG:=aA hg
   have HTk:=aA (qI hq ⟨#[97,110,100]⟩ (by decide))
   clear hc h0 hB hN hg
   cases hi:YB L ⟨#[97,110,100]⟩ k1 with
   |false=>
    rw[hi,if_neg (by simp)] at HTk
    rw[hi,if_neg (by simp)] at hR
    subst hR
    clear hi hq
    go_wp2_with (go_at_call 80;refine HTk.out.mono ?_;rintro e W4 ⟨rfl,hq4,hb4⟩;obtain⟨q0,q1,q2,q3,qf⟩:=tA ((hb4.block _ hl0 hb0).trans HC.out.2);obtain⟨z0,z1,z2,z3,zf⟩:=tA ((hb4.block _ h4 hbg).trans HC.out.1);have HQ4:=aA (aI hq4 hb4);clear hq4 hb4)
    refine bodyPost_ret (v:=.agg #[.string s0,.string s1,.int .i64 i2,.slice ka kn kc]) (by simp[results,Tryz.results81,go_sem,q0,q1,q2,q3]) rfl ?_
    exact VD HL.out (HB.out.then HQ4.out.2 HB.out.size) HQ4.out.1 (HN.out.step fun b hb hp=>⟨HQ4.out.2.block b hb (by omega),hp.1⟩)
   |true=>
    rw[hi,if_pos rfl] at HTk
    rw[hi,if_pos rfl] at hR
    have HR:=aA hR
    clear hi hq hR
    go_upto_region 3 with (go_at_call 80;refine HTk.out.mono ?_;rintro e W4 ⟨rfl,hq4,hb4⟩;have h3':=(hb4.block _ h4 hbg).trans HC.out.1;have h0':=(hb4.block _ hl0 hb0).trans HC.out.2;obtain⟨z0,z1,z2,z3,zf⟩:=tA h3';have HQ4:=aA (aI hq4 (aI (HB.out.then hb4 HB.out.size) (aI h3' (aI h0' (HN.out.step (P':=fun b=>w.heap.size<b∧b≠g3) fun b hb hp=>⟨hb4.block b hb (by omega),hp⟩)))));have hs4:=hb4.size;clear hq4 hb4 h3' h0')
    have HS2:=aA (fun (V:World) (hb:Below W4.heap.size W4 V)=>(H1.out f' (by omega)).at HQ4.out.1 (PR.bind_not (HR.out.symm▸HNo.out)) hb)
    go_region_with (go_at_call 119;refine(HS2.out _ ?_).mono ?_;(·first|exact Below.refl _ _|exact(Below.refl _ _).drew|exact ME (Below.refl _ _) _);rintro e W5 hE;rcases hr:QA L f' (k1+1) n1 with _|⟨c,a⟩|⟨x2,k2,n2⟩;(·exact absurd hr (PR.bind_not (HR.out.symm▸HNo.out)));(·rw[hr] at hE;obtain⟨hb,⟨p,rfl⟩⟩:=hE;obtain rfl:R=.bad c a:=(by rw[←HR.out,hr,PR.bind_bad]);exact(show _∧_ from⟨rfl,HQ4.out.2.1.then hb HQ4.out.2.1.size,⟨_,rfl⟩⟩));rw[hr] at hE;obtain⟨hb,hq,v,rfl,t0,t1,j2,la,ln,lc,rfl,hM⟩:=hE;rw[hr,PR.bind_ok] at HR;have hs5:=hb.size;have h3':=(hb.block g3 (by omega) hbg).trans HQ4.out.2.2.1;have h0':=(hb.block w.heap.size (by omega) hb0).trans HQ4.out.2.2.2.1;have HQ5:=aA (aI hq (aI (HQ4.out.2.1.then hb HQ4.out.2.1.size) (aI h3' (aI h0' (aI (HQ4.out.2.2.2.2.step (P':=fun b=>w.heap.size<b∧b≠g3) fun b hb' hp=>⟨hb.block b hb' (by omega),hp⟩) (hM.step (P':=fun b=>w.heap.size<b∧b≠g3) fun b hb' hp=>⟨rfl,by omega,by omega⟩))))));obtain⟨y0,y1,y2,y3,yf⟩:=tA h3';have hl5:g3<W5.heap.size:=(by omega);clear hb hq h3' h0' hr hM)
    all_goals (
     go_wp2
     go_roundg f'
     case rel=>
      have hsr:=setRow HQ5.out.2.2.1 (.string ⟨#[97,110,100]⟩) (.string ⟨#[]⟩) (.int .i64 0) (.slice (some ⟨W5.heap.size,0,none⟩) 2 2) #[.string s0,.string s1,.int .i64 i2,.slice ka kn kc,.string t0,.string t1,.int .i64 j2,.slice la ln lc]
      have h8:=wH hsr.row
      exact LoopQ.next HL.out h3 hl5 HQ5.out.2.1 HQ5.out.1 hsr HQ5.out.2.2.2.1 (NL.two (HQ5.out.2.2.2.2.1.step fun b hb hp=>⟨hsr.old b hb hp.2,hp⟩) (HQ5.out.2.2.2.2.2.step fun b hb hp=>⟨hsr.old b hb hp.2,hp⟩) ⟨by omega,by omega⟩ h8.1 h8.2 ⟨#[97,110,100]⟩ ⟨#[]⟩ 0) (by omega) HR.out
     case measure=>have:=HG.out;omega)
theorem cP{L:List Tok}{rp tb f:Nat}(h1:∀f',f'≤f→QRule L rp tb 120 (fC L f')):QRule L rp tb 84 (GC L (f+1)):=by
 intro w k n h hn
 have lo:=h.lows
 obtain⟨R,hR⟩:∃R,R=GC L (f+1) k n:=⟨_,rfl⟩
 rw[←hR] at hn ⊢
 rw[GC] at hR
 obtain⟨W1,hW1⟩:∃W1,W1=w.alloc (.cells #[.string ⟨#[]⟩,.string ⟨#[]⟩,.int .i64 0,.slice none 0 0] 25):=⟨_,rfl⟩
 have hst:StartQ w W1:=by rw[hW1];exact StartQ.new w
 have H1:=aA h1
 have HX:=aA hW1
 have HR:=aA hR
 have HNo:=aA hn
 have HT:=aA hst
 have HL:=aA lo
 have HQ1:=aA (aI (h.below hst.bel) (Below.x hst.bel rp (nR _)))
 have hs1:=hst.lt
 have hrp:=lo.r
 clear h hW1 hst hR hn lo h1
 go_enter Tryz.func84,Tryz.ntmps84
 go_wp2_with (rw[←HX.out];go_at_call 120;refine(H1.out f (nR _) _ _ _ HQ1.out.1 (PR.bind_not (HR.out▸HNo.out))).mono ?_;rintro e W2 hE;rcases hr:fC L f k n with _|⟨c,a⟩|⟨x1,k1,n1⟩;(·exact absurd hr (PR.bind_not (HR.out▸HNo.out)));(·rw[hr] at hE;obtain⟨hb,⟨p,rfl⟩⟩:=hE;obtain rfl:R=.bad c a:=(by rw[HR.out,hr,PR.bind_bad]);exact(show _∧_ from⟨rfl,HQ1.out.2.then hb HQ1.out.2.size,⟨_,rfl⟩⟩));rw[hr] at hE;obtain⟨hb,hq,v,rfl,s0,s1,i2,ka,kn,kc,rfl,hN⟩:=hE;rw[hr,PR.bind_ok] at HR;have HQ2:=aA (aI hq (aI (HQ1.out.2.then hb HQ1.out.2.size) (aI ((hb.block _ hs1 (by omega)).trans HT.out.blk) hN)));have hs2:=hb.size;clear hb hq hr hN)
 obtain⟨V2,hV2⟩:∃V2,V2=W2.alloc (.cells #[.string s0,.string s1,.int .i64 i2,.slice ka kn kc] 25):=⟨_,rfl⟩
 rw[←hV2]
 have HS0:Hid (LoopQ L rp tb w R (UA L) f W2.heap.size f V2):=by
  have hv2:Below W2.heap.size W2 V2:=by rw[hV2];exact bA _ _
  exact .mk f x1 k1 n1 s0 s1 i2 ka kn kc (nR _) (nR _) (HQ2.out.1.below hv2) (HQ2.out.2.2.2.step fun b hb hp=>⟨hv2.block b hb,by omega,by omega⟩) HR.out.symm (by rw[hV2];exact heap_alloc_new _ _) ((hv2.block _ (by omega)).trans HQ2.out.2.2.1) (HQ2.out.2.1.then (Below.x hv2 rp (nR _)) HQ2.out.2.1.size) (by omega) (by rw[hV2];simp)
 clear hV2 HR HX HT HQ1 HQ2
 generalize W2.heap.size=g3 at *
 go_loopg [] f (fun g wr=>LoopQ L rp tb w R (UA L) f g3 g wr)
 case atStart=>exact HS0.out
 case round=>
  clear HS0
  cases hrel with
  |mk f' x k1 n1 s0 s1 i2 ka kn kc hg hF hq hN hR hc h0 hB h3 h4=>
  cases f' with
  |zero=>exact absurd (hR.symm.trans (by rw[UA])) HNo.out
  |succ f'=>
   rw[UA] at hR
   have hbg:g3≠rp:=by omega
   have hb0:w.heap.size≠rp:=by omega
   have hl0:w.heap.size<wr.heap.size:=by omega
   have HC:=aA (aI hc h0)
   have HB:=aA hB
   have HN:=aA hN
   have HG:=aA hg
   have HI1:=aA (eI hq ⟨#[43]⟩)
   have HI2:=aA (eI hq ⟨#[45]⟩)
   obtain⟨q0,q1,q2,q3,qf⟩:=tA h0
   obtain⟨z0,z1,z2,z3,zf⟩:=tA hc
   have HQ:=aA hq
   have hR':(if YB L ⟨#[43]⟩ k1=true∨YB L ⟨#[45]⟩ k1=true then (fC L f' (k1+1) n1).bind fun m k1' n=>UA L f' (.mk (cA L k1).text ⟨#[]⟩ 0 [x,m]) k1' n else .ok x k1 n1)=R:=hR
   clear hc h0 hB hN hg hR
   by_cases hi:YB L ⟨#[43]⟩ k1=true∨YB L ⟨#[45]⟩ k1=true
   case neg=>
    have i1:YB L ⟨#[43]⟩ k1=false:=Bool.eq_false_iff.2 (fun h9=>hi (Or.inl h9))
    have i2':YB L ⟨#[45]⟩ k1=false:=Bool.eq_false_iff.2 (fun h9=>hi (Or.inr h9))
    rw[if_neg hi] at hR'
    subst hR'
    rw[i1] at HI1
    rw[i2'] at HI2
    clear hi hq i1 i2'
    go_wp2_with (first|(go_at_call 118;refine HI1.out.mono ?_;rintro e W4 ⟨rfl,rfl⟩;clear HI1)|(go_at_call 118;refine HI2.out.mono ?_;rintro e W4 ⟨rfl,rfl⟩))
    refine bodyPost_ret (v:=.agg #[.string s0,.string s1,.int .i64 i2,.slice ka kn kc]) (by simp[results,Tryz.results84,go_sem,q0,q1,q2,q3]) rfl ?_
    exact VD HL.out HB.out HQ.out (HN.out.step fun b hb hp=>⟨rfl,hp.1⟩)
   case pos=>
    rw[if_pos hi] at hR'
    have hmore:k1+1<L.length:=by
     rcases hi with hi|hi
     ·exact hq.more (AD hi (by decide))
     ·exact hq.more (AD hi (by decide))
    have HSk:=aA (ZF hq hmore)
    have HR:=aA hR'
    obtain⟨b1,e1⟩:∃b1,b1=YB L ⟨#[43]⟩ k1:=⟨_,rfl⟩
    obtain⟨b2,e2⟩:∃b2,b2=YB L ⟨#[45]⟩ k1:=⟨_,rfl⟩
    have hbb:(b1||b2)=true:=by rw[e1,e2,Bool.or_eq_true];exact hi
    rw[←e1] at HI1
    rw[←e2] at HI2
    clear hi hq hR' hmore e1 e2
    generalize (cA L k1).text=K1 at *
    cases b1
    all_goals (
     first|(have hb9:=hbb;simp only[Bool.false_or] at hb9;subst hb9)|skip
     go_upto_region 4 with (first|(go_at_call 118;refine HI1.out.mono ?_;rintro e W4 ⟨rfl,rfl⟩;clear HI1)|(go_at_call 118;refine HI2.out.mono ?_;rintro e W4 ⟨rfl,rfl⟩)|(go_at_call 35;refine HSk.out.mono ?_;rintro e W4 ⟨rfl,hq4,hb4⟩;have h3':=(hb4.block _ h4 hbg).trans HC.out.1;have h0':=(hb4.block _ hl0 hb0).trans HC.out.2;obtain⟨z0,z1,z2,z3,zf⟩:=tA h3';have HQ4:=aA (aI hq4 (aI (HB.out.then hb4 HB.out.size) (aI h3' (aI h0' (HN.out.step (P':=fun b=>w.heap.size<b∧b≠g3) fun b hb hp=>⟨hb4.block b hb (by omega),hp⟩)))));have hs4:=hb4.size;clear hq4 hb4 h3' h0'))
     have HS2:=aA (fun (V:World) (hb:Below W4.heap.size W4 V)=>(H1.out f' (by omega)).at HQ4.out.1 (PR.bind_not (HR.out.symm▸HNo.out)) hb)
     go_region_with (go_at_call 120;refine(HS2.out _ ?_).mono ?_;(·first|exact Below.refl _ _|exact(Below.refl _ _).drew|exact ME (Below.refl _ _) _);rintro e W5 hE;rcases hr:fC L f' (k1+1) n1 with _|⟨c,a⟩|⟨x2,k2,n2⟩;(·exact absurd hr (PR.bind_not (HR.out.symm▸HNo.out)));(·rw[hr] at hE;obtain⟨hb,⟨p,rfl⟩⟩:=hE;obtain rfl:R=.bad c a:=(by rw[←HR.out,hr,PR.bind_bad]);exact(show _∧_ from⟨rfl,HQ4.out.2.1.then hb HQ4.out.2.1.size,⟨_,rfl⟩⟩));rw[hr] at hE;obtain⟨hb,hq,v,rfl,t0,t1,j2,la,ln,lc,rfl,hM⟩:=hE;rw[hr,PR.bind_ok] at HR;have hs5:=hb.size;have h3':=(hb.block g3 (by omega) hbg).trans HQ4.out.2.2.1;have h0':=(hb.block w.heap.size (by omega) hb0).trans HQ4.out.2.2.2.1;have HQ5:=aA (aI hq (aI (HQ4.out.2.1.then hb HQ4.out.2.1.size) (aI h3' (aI h0' (aI (HQ4.out.2.2.2.2.step (P':=fun b=>w.heap.size<b∧b≠g3) fun b hb' hp=>⟨hb.block b hb' (by omega),hp⟩) (hM.step (P':=fun b=>w.heap.size<b∧b≠g3) fun b hb' hp=>⟨rfl,by omega,by omega⟩))))));obtain⟨y0,y1,y2,y3,yf⟩:=tA h3';have hl5:g3<W5.heap.size:=(by omega);clear hb hq h3' h0' hr hM)
     all_goals (
      go_wp2
      go_roundg f'
      case rel=>
       have hsr:=setRow HQ5.out.2.2.1 (.string K1) (.string ⟨#[]⟩) (.int .i64 0) (.slice (some ⟨W5.heap.size,0,none⟩) 2 2) #[.string s0,.string s1,.int .i64 i2,.slice ka kn kc,.string t0,.string t1,.int .i64 j2,.slice la ln lc]
       have h8:=wH hsr.row
       exact LoopQ.next HL.out h3 hl5 HQ5.out.2.1 HQ5.out.1 hsr HQ5.out.2.2.2.1 (NL.two (HQ5.out.2.2.2.2.1.step fun b hb hp=>⟨hsr.old b hb hp.2,hp⟩) (HQ5.out.2.2.2.2.2.step fun b hb hp=>⟨hsr.old b hb hp.2,hp⟩) ⟨by omega,by omega⟩ h8.1 h8.2 K1 ⟨#[]⟩ 0) (by omega) HR.out
      case measure=>have:=HG.out;omega))
theorem QM{L:List Tok}{rp tb f:Nat}(h1:∀f',f'≤f→QRule L rp tb 142 (mB L f')):QRule L rp tb 120 (fC L (f+1)):=by
 intro w k n h hn
 have lo:=h.lows
 obtain⟨R,hR⟩:∃R,R=fC L (f+1) k n:=⟨_,rfl⟩
 rw[←hR] at hn ⊢
 rw[fC] at hR
 obtain⟨W1,hW1⟩:∃W1,W1=w.alloc (.cells #[.string ⟨#[]⟩,.string ⟨#[]⟩,.int .i64 0,.slice none 0 0] 25):=⟨_,rfl⟩
 have hst:StartQ w W1:=by rw[hW1];exact StartQ.new w
 have H1:=aA h1
 have HX:=aA hW1
 have HR:=aA hR
 have HNo:=aA hn
 have HT:=aA hst
 have HL:=aA lo
 have HQ1:=aA (aI (h.below hst.bel) (Below.x hst.bel rp (nR _)))
 have hs1:=hst.lt
 have hrp:=lo.r
 clear h hW1 hst hR hn lo h1
 go_enter Tryz.func120,Tryz.ntmps120
 go_wp2_with (rw[←HX.out];go_at_call 142;refine(H1.out f (nR _) _ _ _ HQ1.out.1 (PR.bind_not (HR.out▸HNo.out))).mono ?_;rintro e W2 hE;rcases hr:mB L f k n with _|⟨c,a⟩|⟨x1,k1,n1⟩;(·exact absurd hr (PR.bind_not (HR.out▸HNo.out)));(·rw[hr] at hE;obtain⟨hb,⟨p,rfl⟩⟩:=hE;obtain rfl:R=.bad c a:=(by rw[HR.out,hr,PR.bind_bad]);exact(show _∧_ from⟨rfl,HQ1.out.2.then hb HQ1.out.2.size,⟨_,rfl⟩⟩));rw[hr] at hE;obtain⟨hb,hq,v,rfl,s0,s1,i2,ka,kn,kc,rfl,hN⟩:=hE;rw[hr,PR.bind_ok] at HR;have HQ2:=aA (aI hq (aI (HQ1.out.2.then hb HQ1.out.2.size) (aI ((hb.block _ hs1 (by omega)).trans HT.out.blk) hN)));have hs2:=hb.size;clear hb hq hr hN)
 obtain⟨V2,hV2⟩:∃V2,V2=W2.alloc (.cells #[.string s0,.string s1,.int .i64 i2,.slice ka kn kc] 25):=⟨_,rfl⟩
 rw[←hV2]
 have HS0:Hid (LoopQ L rp tb w R (IA L) f W2.heap.size f V2):=by
  have hv2:Below W2.heap.size W2 V2:=by rw[hV2];exact bA _ _
  exact .mk f x1 k1 n1 s0 s1 i2 ka kn kc (nR _) (nR _) (HQ2.out.1.below hv2) (HQ2.out.2.2.2.step fun b hb hp=>⟨hv2.block b hb,by omega,by omega⟩) HR.out.symm (by rw[hV2];exact heap_alloc_new _ _) ((hv2.block _ (by omega)).trans HQ2.out.2.2.1) (HQ2.out.2.1.then (Below.x hv2 rp (nR _)) HQ2.out.2.1.size) (by omega) (by rw[hV2];simp)
 clear hV2 HR HX HT HQ1 HQ2
 generalize W2.heap.size=g3 at *
 go_loopg [] f (fun g wr=>LoopQ L rp tb w R (IA L) f g3 g wr)
 case atStart=>exact HS0.out
 case round=>
  clear HS0
  cases hrel with
  |mk f' x k1 n1 s0 s1 i2 ka kn kc hg hF hq hN hR hc h0 hB h3 h4=>
  cases f' with
  |zero=>exact absurd (hR.symm.trans (by rw[IA])) HNo.out
  |succ f'=>
   rw[IA] at hR
   unfold sg at hR
   have hbg:g3≠rp:=by omega
   have hb0:w.heap.size≠rp:=by omega
   have hl0:w.heap.size<wr.heap.size:=by omega
   have HC:=aA (aI hc h0)
   have HB:=aA hB
   have HN:=aA hN
   have HG:=aA hg
   have HTk:=aA (qI hq ⟨#[42]⟩ (by decide))
   clear hc h0 hB hN hg
   cases hi:YB L ⟨#[42]⟩ k1 with
   |false=>
    rw[hi,if_neg (by simp)] at HTk
    rw[hi,if_neg (by simp)] at hR
    subst hR
    clear hi hq
    go_wp2_with (go_at_call 80;refine HTk.out.mono ?_;rintro e W4 ⟨rfl,hq4,hb4⟩;obtain⟨q0,q1,q2,q3,qf⟩:=tA ((hb4.block _ hl0 hb0).trans HC.out.2);obtain⟨z0,z1,z2,z3,zf⟩:=tA ((hb4.block _ h4 hbg).trans HC.out.1);have HQ4:=aA (aI hq4 hb4);clear hq4 hb4)
    refine bodyPost_ret (v:=.agg #[.string s0,.string s1,.int .i64 i2,.slice ka kn kc]) (by simp[results,Tryz.results120,go_sem,q0,q1,q2,q3]) rfl ?_
    exact VD HL.out (HB.out.then HQ4.out.2 HB.out.size) HQ4.out.1 (HN.out.step fun b hb hp=>⟨HQ4.out.2.block b hb (by omega),hp.1⟩)
   |true=>
    rw[hi,if_pos rfl] at HTk
    rw[hi,if_pos rfl] at hR
    have HR:=aA hR
    clear hi hq hR
    go_upto_region 3 with (go_at_call 80;refine HTk.out.mono ?_;rintro e W4 ⟨rfl,hq4,hb4⟩;have h3':=(hb4.block _ h4 hbg).trans HC.out.1;have h0':=(hb4.block _ hl0 hb0).trans HC.out.2;obtain⟨z0,z1,z2,z3,zf⟩:=tA h3';have HQ4:=aA (aI hq4 (aI (HB.out.then hb4 HB.out.size) (aI h3' (aI h0' (HN.out.step (P':=fun b=>w.heap.size<b∧b≠g3) fun b hb hp=>⟨hb4.block b hb (by omega),hp⟩)))));have hs4:=hb4.size;clear hq4 hb4 h3' h0')
    have HS2:=aA (fun (V:World) (hb:Below W4.heap.size W4 V)=>(pV (HQ4.out.1.below hb)).mono (fun e w' h=>aI (QEnd.base (L:=L) hb h) h.1))
    go_region_with (go_at_call 143;refine(HS2.out _ ?_).mono ?_;(·first|exact Below.refl _ _|exact(Below.refl _ _).drew|exact ME (Below.refl _ _) _|exact bA _ _|exact(bA _ _).drew|exact ME (bA _ _) _);rintro e W5 ⟨hE,hV⟩;rcases hr:XE L (k1+1) n1 with _|⟨c,a⟩|⟨x2,k2,n2⟩;(·exact absurd hr (PR.bind_not (HR.out.symm▸HNo.out)));(·rw[hr] at hE;obtain⟨hb,⟨p,rfl⟩⟩:=hE;obtain rfl:R=.bad c a:=(by rw[←HR.out,hr,PR.bind_bad]);exact(show _∧_ from⟨rfl,HQ4.out.2.1.then hb HQ4.out.2.1.size,⟨_,rfl⟩⟩));rw[hr] at hE;obtain⟨hb,hq,v,rfl,rfl⟩:=hE;rw[hr,PR.bind_ok] at HR;have hs5:=hb.size;have h3':=(hb.block g3 (by omega) hbg).trans HQ4.out.2.2.1;have h0':=(hb.block w.heap.size (by omega) hb0).trans HQ4.out.2.2.2.1;have HQ5:=aA (aI hq (aI (HQ4.out.2.1.then hb HQ4.out.2.1.size) (aI h3' (aI h0' (HQ4.out.2.2.2.2.step (P':=fun b=>w.heap.size<b∧b≠g3) fun b hb' hp=>⟨hb.block b hb' (by omega),hp⟩)))));obtain⟨y0,y1,y2,y3,yf⟩:=tA h3';have hl5:g3<W5.heap.size:=(by omega);have HVb:=aA hV;clear hb hq h3' h0' hr hV)
    all_goals (
     go_wp2
     go_roundg f'
     case rel=>
      first
       |(have hsr:=setRow HQ5.out.2.2.1 (.string ⟨#[42]⟩) (.string ⟨#[]⟩) (.int .i64 x2) (.slice (some ⟨W5.heap.size,0,none⟩) 1 1) #[.string s0,.string s1,.int .i64 i2,.slice ka kn kc]
         exact LoopQ.next HL.out h3 hl5 HQ5.out.2.1 HQ5.out.1 hsr HQ5.out.2.2.2.1 (NL.one (HQ5.out.2.2.2.2.step fun b hb hp=>⟨hsr.old b hb hp.2,hp⟩) ⟨by omega,by omega⟩ (BG hsr.row) ⟨#[42]⟩ ⟨#[]⟩ x2) (by omega) HR.out)
       |(have hrow:W5.heap[W4.heap.size]?=some (.cells #[.string s0,.string s1,.int .i64 i2,.slice ka kn kc] 25 (0,0)):=(HVb.out.block W4.heap.size (by simp) (by omega)).trans (by first|exact rE rfl|exact heap_alloc_new _ _)
         exact LoopQ.nextA HL.out h3 hl5 HQ5.out.2.1 HQ5.out.1 HQ5.out.2.2.1 HQ5.out.2.2.2.1 (NL.one (HQ5.out.2.2.2.2.step fun b hb hp=>⟨pG _ _ _ _ hp.2,hp⟩) ⟨by omega,by omega⟩ (BG ((pG _ _ _ _ (by omega)).trans hrow)) ⟨#[42]⟩ ⟨#[]⟩ x2) (by omega) HR.out)
     case measure=>have:=HG.out;omega)
theorem yH{L:List Tok}{rp tb:Nat}:Hid (∀(W:World) (k n:Nat),QS L rp tb W k n→k+1<L.length→Calls Tryz.prog 141 #[.pointer (some ⟨rp,0,none⟩)] W fun e w'=>QEnd L rp tb W (TB L k n) (fun x v _=>v=.string x) e w'):=fun _ _ _ hq hk=>AS hq hk
theorem GI{L:List Tok}{rp tb:Nat}(s:ByteArray)(hs:s.size≠0):Hid (∀(W:World) (k n:Nat),QS L rp tb W k n→1≤n→Calls Tryz.prog 151 #[.pointer (some ⟨rp,0,none⟩),.string s] W fun e w'=>QEnd L rp tb W (dC L s k n) (fun _ v _=>v=.tuple #[]) e w'):=fun _ _ _ hq hn=>RS hq s hs hn
theorem OF{L:List Tok}{s:ByteArray}{k n:Nat}:dC L s k n≠.out:=by
 unfold dC
 cases h:bB L s k n with
 |out=>exact absurd h bC
 |bad c a=>intro h;cases h
 |ok x k n=>intro h;cases h
theorem BK{L:List Tok}{rp tb f:Nat}(h1:QRule L rp tb 119 (QA L f))(h2:QRule L rp tb 140 (BC L f)):QRule L rp tb 119 (QA L (f+1)):=by
 intro w k n h hn
 have lo:=h.lows
 obtain⟨R,hR⟩:∃R,R=QA L (f+1) k n:=⟨_,rfl⟩
 rw[←hR] at hn ⊢
 rw[QA] at hR
 obtain⟨W1,hW1⟩:∃W1,W1=w.alloc (.cells #[.string ⟨#[]⟩,.string ⟨#[]⟩,.int .i64 0,.slice none 0 0] 25):=⟨_,rfl⟩
 have hst:StartQ w W1:=by rw[hW1];exact StartQ.new w
 have HX:=aA hW1
 have HNo:=aA hn
 have HL:=aA lo
 have HQ1:=aA (aI (h.below hst.bel) (aI (Below.x hst.bel rp (nR _)) (aI hst.blk True.intro)))
 have hs1:=hst.lt
 have hrp:=lo.r
 have hq1:=h.below hst.bel
 clear h hW1 hst hn lo
 have HI:=aA (eI hq1 ⟨#[110,111,116]⟩)
 have H1:=aA h1
 have H2:=aA h2
 unfold wNot at hR
 cases hi:YB L ⟨#[110,111,116]⟩ k with
 |false=>
  rw[hi,if_neg (by simp)] at hR
  rw[hi] at HI
  have HR:=aA hR
  clear hi hq1 hR h1 h2
  go_enter Tryz.func119,Tryz.ntmps119
  go_wp2_with (first|(rw[←HX.out];go_at_call 118;refine HI.out.mono ?_;rintro e w' ⟨rfl,rfl⟩)|(go_at_call 140;refine(H2.out _ _ _ HQ1.out.1 (HR.out▸HNo.out)).mono ?_;rintro e W2 hE;rcases hr:BC L f k n with _|⟨c,a⟩|⟨x1,k1,n1⟩;(·exact absurd hr (HR.out▸HNo.out));(·rw[hr] at hE;obtain⟨hb,⟨p,rfl⟩⟩:=hE;obtain rfl:R=.bad c a:=(by rw[HR.out,hr]);exact(show _∧_ from⟨rfl,HQ1.out.2.1.then hb HQ1.out.2.1.size,⟨_,rfl⟩⟩));rw[hr] at hE HR;obtain⟨hb,hq,v,rfl,s0,s1,i2,ka,kn,kc,rfl,hN⟩:=hE;obtain⟨q0,q1,q2,q3,qf⟩:=tA ((hb.block _ hs1 (by omega)).trans HQ1.out.2.2.1);have HQ2:=aA (aI hq (aI (HQ1.out.2.1.then hb HQ1.out.2.1.size) hN));clear hb hq hr hN))
  refine bodyPost_ret (v:=.agg #[.string s0,.string s1,.int .i64 i2,.slice ka kn kc]) (by simp[results,Tryz.results119,go_sem,q0,q1,q2,q3]) rfl ?_
  obtain rfl:R=.ok x1 k1 n1:=HR.out
  exact VD HL.out HQ2.out.2.1 HQ2.out.1 (HQ2.out.2.2.step fun b hb hp=>⟨rfl,by omega⟩)
 |true=>
  have hmore:=hq1.more (AD hi (by decide))
  rw[hi,if_pos rfl] at hR
  rw[hi] at HI
  have HR:=aA hR
  have HE:=yH (L:=L) (rp:=rp) (tb:=tb)
  clear hi hq1 hR h1 h2
  go_enter Tryz.func119,Tryz.ntmps119
  go_upto_region 5 with (first|(rw[←HX.out];go_at_call 118;refine HI.out.mono ?_;rintro e w' ⟨rfl,rfl⟩)|(go_at_call 141;refine(HE.out _ _ _ HQ1.out.1 hmore).mono ?_;rintro e W2 hE;rcases hr:TB L k n with _|⟨c,a⟩|⟨x1,k1,n1⟩;(·exact absurd hr NE);(·rw[hr] at hE;obtain⟨hb,⟨p,rfl⟩⟩:=hE;obtain rfl:R=.bad c a:=(by rw[HR.out,hr,PR.bind_bad]);exact(show _∧_ from⟨rfl,HQ1.out.2.1.then hb HQ1.out.2.1.size,⟨_,rfl⟩⟩));rw[hr] at hE;obtain⟨hb,hq,v,rfl,rfl⟩:=hE;rw[hr,PR.bind_ok] at HR;have hs2:=hb.size;have HW2:=aA (aI hq (aI (HQ1.out.2.1.then hb HQ1.out.2.1.size) (aI ((hb.block _ (hs1) (by omega)).trans HQ1.out.2.2.1) True.intro)));have EW2:=aA hr;clear hb hq hr)|(go_at_call 119;refine(H1.out _ _ _ HW2.out.1 (PR.bind_not (HR.out▸HNo.out))).mono ?_;rintro e W3 hE;rcases hr:QA L f k1 n1 with _|⟨c,a⟩|⟨x2,k2,n2⟩;(·exact absurd hr (PR.bind_not (HR.out▸HNo.out)));(·rw[hr] at hE;obtain⟨hb,⟨p,rfl⟩⟩:=hE;obtain rfl:R=.bad c a:=(by rw[HR.out,hr,PR.bind_bad]);exact(show _∧_ from⟨rfl,HW2.out.2.1.then hb HW2.out.2.1.size,⟨_,rfl⟩⟩));rw[hr] at hE;obtain⟨hb,hq,v,rfl,s0,s1,s2,sa,sn,sc,rfl,hN⟩:=hE;rw[hr,PR.bind_ok] at HR;have hs3:=hb.size;have HW3:=aA (aI hq (aI (HW2.out.2.1.then hb HW2.out.2.1.size) (aI hN (aI ((hb.block _ (by omega) (by omega)).trans HW2.out.2.2.1) True.intro))));have EW3:=aA hr;clear hb hq hr hN))
  obtain⟨V3,hV3⟩:∃V3,V3=(W3.alloc (.cells #[.string s0,.string s1,.int .i64 s2,.slice sa sn sc] 25)).alloc (.cells #[.string ⟨#[110,111,116]⟩,.string ⟨#[]⟩,.int .i64 0,.slice (some ⟨W3.heap.size,0,none⟩) 1 1] 25):=⟨_,rfl⟩
  rw[←hV3]
  have hb3:Below W3.heap.size W3 V3:=by rw[hV3];exact tI _ _ _
  have hn3:V3.heap[W3.heap.size+1]?=some (.cells #[.string ⟨#[110,111,116]⟩,.string ⟨#[]⟩,.int .i64 0,.slice (some ⟨W3.heap.size,0,none⟩) 1 1] 25 (0,0)):=by rw[hV3];exact rE (by simp)
  have hr3:V3.heap[W3.heap.size]?=some (.cells #[.string s0,.string s1,.int .i64 s2,.slice sa sn sc] 25 (0,0)):=by rw[hV3,(bA _ _).block _ (by simp)];exact rE rfl
  have hz3:V3.heap.size=W3.heap.size+2:=by rw[hV3];simp
  have hn2:1≤n2:=by rw[(YF L f).un _ _ _ _ _ EW3.out,yD EW2.out];omega
  have hq3:=HW3.out.1.below hb3
  have h03:=(hb3.block w.heap.size (by omega)).trans HW3.out.2.2.2.1
  obtain⟨m,c,hm,hc,hblk⟩:=hq3.blk
  have x1':V3.cell? ⟨rp,1,none⟩=some (.int .i64 n2):=by simp[World.cell?,hblk]
  have xf':∀i,V3.frozen? ⟨rp,i,none⟩=false:=by simp[World.frozen?,hblk]
  obtain⟨z0,z1,z2,z3,zf⟩:=tA hn3
  obtain⟨q0,q1,q2,q3,qf⟩:=tA h03
  have hne1:¬W3.heap.size+1=rp:=by omega
  have hne2:¬w.heap.size=rp:=by omega
  have hne3:¬w.heap.size=W3.heap.size+1:=by omega
  have HV:=aA (aI (hq3.dec hn2) (aI hn3 (aI hr3 (aI hb3 (HW3.out.2.1.then (Below.x hb3 rp (nR _)) HW3.out.2.1.size)))))
  have hw0:w.heap.size<W3.heap.size:=by omega
  clear hV3 hb3 hn3 hr3 hq3 h03 hblk
  go_wp2
  refine bodyPost_ret (v:=.agg #[.string ⟨#[110,111,116]⟩,.string ⟨#[]⟩,.int .i64 0,.slice (some ⟨W3.heap.size,0,none⟩) 1 1]) (by simp[results,Tryz.results119,go_sem,q0,q1,q2,q3]) rfl ?_
  obtain rfl:=HR.out
  have hset:∀b,b≠rp→(V3.setCell ⟨rp,1,none⟩ (.int .i64 (wrap64 ((n2:Int) - 1)))).heap[b]?=V3.heap[b]?:=fun b hb=>Below.heap_setCell _ _ _ _ hb
  refine VD HL.out (HV.out.2.2.2.2.then HV.out.1.2 (by omega)) HV.out.1.1 ?_
  exact NL.one (HW3.out.2.2.1.step fun b hb hp=>⟨(hset b (by omega)).trans (HV.out.2.2.2.1.block b hb),by omega⟩) (by omega) (BG ((hset _ (by omega)).trans HV.out.2.2.1)) ⟨#[110,111,116]⟩ ⟨#[]⟩ 0
theorem FL{L:List Tok}{rp tb f:Nat}(h1:QRule L rp tb 40 (FA L f)):∀(w:World) (k n:Nat),QS L rp tb w k n→k+1<L.length→iB L (f+1) k n≠.out→Calls Tryz.prog 152 #[.pointer (some ⟨rp,0,none⟩)] w fun e w'=>QEnd L rp tb w (iB L (f+1) k n) (fun x v w'=>pH w.heap.size x v w') e w':=by
 intro w k n h hmore hn
 have lo:=h.lows
 obtain⟨R,hR⟩:∃R,R=iB L (f+1) k n:=⟨_,rfl⟩
 rw[←hR] at hn ⊢
 rw[iB] at hR
 obtain⟨W1,hW1⟩:∃W1,W1=w.alloc (.cells #[.string ⟨#[]⟩,.string ⟨#[]⟩,.int .i64 0,.slice none 0 0] 25):=⟨_,rfl⟩
 have hst:StartQ w W1:=by rw[hW1];exact StartQ.new w
 have HX:=aA hW1
 have HNo:=aA hn
 have HL:=aA lo
 have HQ1:=aA (aI (h.below hst.bel) (aI (Below.x hst.bel rp (nR _)) (aI hst.blk True.intro)))
 have hs1:=hst.lt
 have hrp:=lo.r
 have hq1:=h.below hst.bel
 clear h hW1 hst hn lo
 have H1:=aA h1
 have HR:=aA hR
 have HE:=yH (L:=L) (rp:=rp) (tb:=tb)
 have HN:=rG (L:=L) (rp:=rp) (tb:=tb)
 have HD:=sG (L:=L) (rp:=rp) (tb:=tb) ⟨#[40]⟩ (by decide)
 have HLv:=GI (L:=L) (rp:=rp) (tb:=tb) ⟨#[41]⟩ (by decide)
 unfold sg at HR
 clear hq1 hR h1
 go_enter Tryz.func152,Tryz.ntmps152
 go_upto_region 2 with (rw[←HX.out];go_at_call 141;refine(HE.out _ _ _ HQ1.out.1 hmore).mono ?_;rintro e W2 hE;rcases hr:TB L k n with _|⟨c,a⟩|⟨x1,k1,n1⟩;(·exact absurd hr NE);(·rw[hr] at hE;obtain⟨hb,⟨p,rfl⟩⟩:=hE;obtain rfl:R=.bad c a:=(by rw[HR.out,hr,PR.bind_bad]);exact(show _∧_ from⟨rfl,HQ1.out.2.1.then hb HQ1.out.2.1.size,⟨_,rfl⟩⟩));rw[hr] at hE;obtain⟨hb,hq,v,rfl,rfl⟩:=hE;rw[hr,PR.bind_ok] at HR;have hs2:=hb.size;have HW2:=aA (aI hq (aI (HQ1.out.2.1.then hb HQ1.out.2.1.size) (aI ((hb.block _ (hs1) (by omega)).trans HQ1.out.2.2.1) True.intro)));have EW2:=aA hr;clear hb hq hr)
 obtain⟨V2,hV2⟩:∃V2,V2=W2.alloc (.cells #[.string x1,.string ⟨#[]⟩,.int .i64 0,.slice none 0 0] 25):=⟨_,rfl⟩
 rw[←hV2]
 have hb2:Below W2.heap.size W2 V2:=by rw[hV2];exact bA _ _
 have hn2:V2.heap[W2.heap.size]?=some (.cells #[.string x1,.string ⟨#[]⟩,.int .i64 0,.slice none 0 0] 25 (0,0)):=by rw[hV2];exact heap_alloc_new _ _
 have hl2:W2.heap.size<V2.heap.size:=by rw[hV2];simp
 have HV2:=aA (aI (HW2.out.1.below hb2) (aI (HW2.out.2.1.then (Below.x hb2 rp (nR _)) HW2.out.2.1.size) (aI hn2 (aI ((hb2.block _ (by omega)).trans HW2.out.2.2.1) True.intro))))
 generalize W2.heap.size=g3 at *
 clear hV2 hb2 hn2 HW2
 go_upto_region 3 with (go_at_call 36;refine(HN.out _ _ _ HV2.out.1).mono ?_;rintro e W3 hE;rcases hr:oB L k1 n1 with _|⟨c,a⟩|⟨x2,k2,n2⟩;(·exact absurd hr aC);(·rw[hr] at hE;obtain⟨hb,⟨p,rfl⟩⟩:=hE;obtain rfl:R=.bad c a:=(by rw[HR.out,hr,PR.bind_bad]);exact(show _∧_ from⟨rfl,HV2.out.2.1.then hb HV2.out.2.1.size,⟨_,rfl⟩⟩));rw[hr] at hE;obtain⟨hb,hq,v,rfl,rfl⟩:=hE;rw[hr,PR.bind_ok] at HR;have hs3:=hb.size;have HW3:=aA (aI hq (aI (HV2.out.2.1.then hb HV2.out.2.1.size) (aI ((hb.block _ (hl2) (by omega)).trans HV2.out.2.2.1) (aI ((hb.block _ (by omega) (by omega)).trans HV2.out.2.2.2.1) True.intro))));have EW3:=aA hr;obtain⟨z0,z1,z2,z3,zf⟩:=tA HW3.out.2.2.1;clear hb hq hr)
 obtain⟨V3,hV3⟩:∃V3,V3=W3.setCell ⟨g3,1,none⟩ (.string x2):=⟨_,rfl⟩
 rw[←hV3]
 have hb3:∀b,b≠g3→V3.heap[b]?=W3.heap[b]?:=fun b hb=>by rw[hV3];exact Below.heap_setCell _ _ _ _ hb
 have hn3:V3.heap[g3]?=some (.cells #[.string x1,.string x2,.int .i64 0,.slice none 0 0] 25 (0,0)):=by rw[hV3,LA HW3.out.2.2.1 _];simp
 have hz3:V3.heap.size=W3.heap.size:=by rw[hV3];simp
 have hB3:Below w.heap.size W3 V3:=by rw[hV3];exact(Below.refl _ _).setCell (by show w.heap.size≤g3;omega) _
 have HV3:=aA (aI (HW3.out.1.keep HL.out fun b hb=>hb3 b (by omega)) (aI (HW3.out.2.1.then (Below.x hB3 rp (nR _)) (nR _)) (aI hn3 (aI ((hb3 _ (by omega)).trans HW3.out.2.2.2.1) True.intro))))
 clear hV3 hb3 hn3 hB3 HW3 HV2
 go_upto_region 4 with (go_at_call 39;refine(HD.out _ _ _ HV3.out.1).mono ?_;rintro e W4 hE;rcases hr:bB L ⟨#[40]⟩ k2 n2 with _|⟨c,a⟩|⟨x3,k3,n3⟩;(·exact absurd hr bC);(·rw[hr] at hE;obtain⟨hb,⟨p,rfl⟩⟩:=hE;obtain rfl:R=.bad c a:=(by rw[HR.out,hr,PR.bind_bad]);exact(show _∧_ from⟨rfl,HV3.out.2.1.then hb HV3.out.2.1.size,⟨_,rfl⟩⟩));rw[hr] at hE;obtain⟨hb,hq,v,rfl,rfl⟩:=hE;rw[hr,PR.bind_ok] at HR;have hs4:=hb.size;have HW4:=aA (aI hq (aI (HV3.out.2.1.then hb HV3.out.2.1.size) (aI ((hb.block _ (by omega) (by omega)).trans HV3.out.2.2.1) (aI ((hb.block _ (by omega) (by omega)).trans HV3.out.2.2.2.1) True.intro))));have EW4:=aA hr;clear hb hq hr)
 clear HV3
 go_upto_region 5 with (go_at_call 40;refine(H1.out _ _ _ HW4.out.1 (PR.bind_not (HR.out▸HNo.out))).mono ?_;rintro e W5 hE;rcases hr:FA L f k3 n3 with _|⟨c,a⟩|⟨x4,k4,n4⟩;(·exact absurd hr (PR.bind_not (HR.out▸HNo.out)));(·rw[hr] at hE;obtain⟨hb,⟨p,rfl⟩⟩:=hE;obtain rfl:R=.bad c a:=(by rw[HR.out,hr,PR.bind_bad]);exact(show _∧_ from⟨rfl,HW4.out.2.1.then hb HW4.out.2.1.size,⟨_,rfl⟩⟩));rw[hr] at hE;obtain⟨hb,hq,v,rfl,s0,s1,s2,sa,sn,sc,rfl,hN⟩:=hE;rw[hr,PR.bind_ok] at HR;have hs5:=hb.size;have HW5:=aA (aI hq (aI (HW4.out.2.1.then hb HW4.out.2.1.size) (aI hN (aI ((hb.block _ (by omega) (by omega)).trans HW4.out.2.2.1) (aI ((hb.block _ (by omega) (by omega)).trans HW4.out.2.2.2.1) True.intro)))));have EW5:=aA hr;obtain⟨z0,z1,z2,z3,zf⟩:=tA HW5.out.2.2.2.1;have hl5:g3<W5.heap.size:=(by omega);clear hb hq hr hN)
 obtain⟨V5,hV5⟩:∃V5,V5=(W5.setCell ⟨g3,3,none⟩ (.slice (some ⟨W5.heap.size,0,none⟩) 1 1)).alloc (.cells #[.string s0,.string s1,.int .i64 s2,.slice sa sn sc] 25):=⟨_,rfl⟩
 rw[←hV5]
 have hb5:∀b,b<W5.heap.size→b≠g3→V5.heap[b]?=W5.heap[b]?:=fun b hb hne=>by rw[hV5,(bA _ _).block b (by simp;exact hb)];exact Below.heap_setCell _ _ _ _ hne
 have hn5:V5.heap[g3]?=some (.cells #[.string x1,.string x2,.int .i64 0,.slice (some ⟨W5.heap.size,0,none⟩) 1 1] 25 (0,0)):=by rw[hV5,(bA _ _).block g3 (by simp;omega),LA HW5.out.2.2.2.1 _];simp
 have hr5:V5.heap[W5.heap.size]?=some (.cells #[.string s0,.string s1,.int .i64 s2,.slice sa sn sc] 25 (0,0)):=by rw[hV5];exact rE (by simp)
 have hz5:V5.heap.size=W5.heap.size+1:=by rw[hV5];simp
 have hB5:Below w.heap.size W5 V5:=by rw[hV5];exact((Below.refl _ _).setCell (by show w.heap.size≤g3;omega) _).alloc (by simp;omega) _
 have hNN:NL V5 (fun b=>w.heap.size<b) (nv (.string x1) (.string x2) (.int .i64 0) (.slice (some ⟨W5.heap.size,0,none⟩) 1 1)) (.mk x1 x2 0 [x4]):=NL.one (HW5.out.2.2.1.step fun b hb hp=>⟨hb5 b hb (by omega),by omega⟩) (by omega) (BG hr5) x1 x2 0
 have HV5:=aA (aI (HW5.out.1.keep HL.out fun b hb=>hB5.block b hb) (aI (HW5.out.2.1.then (Below.x hB5 rp (nR _)) (nR _)) (aI hn5 (aI ((hb5 _ (by omega) (by omega)).trans HW5.out.2.2.2.2.1) hNN))))
 have hn4:1≤n4:=by rw[(YF L f).ei _ _ _ _ _ EW5.out,EE EW4.out,QF EW3.out,yD EW2.out];omega
 clear hV5 hb5 hn5 hr5 hB5 hNN HW5
 go_wp2_with (go_at_call 151;refine(HLv.out _ _ _ HV5.out.1 hn4).mono ?_;rintro e W6 hE;rcases hr:dC L ⟨#[41]⟩ k4 n4 with _|⟨c,a⟩|⟨x5,k5,n5⟩;(·exact absurd hr OF);(·rw[hr] at hE;obtain⟨hb,⟨p,rfl⟩⟩:=hE;obtain rfl:R=.bad c a:=(by rw[HR.out,hr,PR.bind_bad]);exact(show _∧_ from⟨rfl,HV5.out.2.1.then hb HV5.out.2.1.size,⟨_,rfl⟩⟩));rw[hr] at hE;obtain⟨hb,hq,v,rfl,rfl⟩:=hE;rw[hr,PR.bind_ok] at HR;have hs6:=hb.size;have HW6:=aA (aI hq (aI (HV5.out.2.1.then hb HV5.out.2.1.size) (aI ((hb.block _ (by omega) (by omega)).trans HV5.out.2.2.1) (aI ((hb.block _ (by omega) (by omega)).trans HV5.out.2.2.2.1) True.intro))));have EW6:=aA hr;obtain⟨z0,z1,z2,z3,zf⟩:=tA HW6.out.2.2.1;obtain⟨q0,q1,q2,q3,qf⟩:=tA HW6.out.2.2.2.1;have HN6:=aA (HV5.out.2.2.2.2.step (w':=W6) (P':=fun b=>w.heap.size<b) fun b hb' hp=>⟨hb.block b hb' (by omega),hp⟩);clear hb hq hr)
 obtain⟨q0,q1,q2,q3,qf⟩:=tA HW6.out.2.2.2.1
 refine bodyPost_ret (v:=.agg #[.string x1,.string x2,.int .i64 0,.slice (some ⟨W5.heap.size,0,none⟩) 1 1]) (by simp[results,Tryz.results152,go_sem,q0,q1,q2,q3]) rfl ?_
 obtain rfl:=HR.out
 exact VD HL.out HW6.out.2.1 HW6.out.1 HN6.out
theorem FE{L:List Tok}{rp tb:Nat}{w:World}{k n:Nat}(h:QS L rp tb w k n)(s:ByteArray)(hi:YB L s k=false):
 Calls Tryz.prog 80 #[.pointer (some ⟨rp,0,none⟩),.string s] w fun e w'=>e=.returned (.bool false)∧w'=w:=by
 have HI:=aA (eI h s)
 rw[hi] at HI
 clear h hi
 go_enter Tryz.func80,Tryz.ntmps80
 go_wp2_with (go_at_call 118;refine HI.out.mono ?_;rintro e w' ⟨rfl,rfl⟩)
 go_ret
 exact⟨rfl,rfl⟩
theorem UD{L:List Tok}{rp tb:Nat}{w:World}{k n:Nat}(h:QS L rp tb w k n)(s:ByteArray)(hs:s.size≠0)(hi:YB L s k=true):
 Calls Tryz.prog 80 #[.pointer (some ⟨rp,0,none⟩),.string s] w fun e w'=>e=.returned (.bool true)∧QS L rp tb w' (k+1) n∧BelX w.heap.size rp w w':=by
 have h1:=qI h s hs
 rw[hi,if_pos rfl] at h1
 exact h1
theorem AK{L:List Tok}{rp tb f:Nat}(h1:QRule L rp tb 84 (GC L f))(h2:∀(w:World) (k n:Nat),QS L rp tb w k n→k+1<L.length→KB L f k n≠.out→Calls Tryz.prog 157 #[.pointer (some ⟨rp,0,none⟩)] w fun e w'=>QEnd L rp tb w (KB L f k n) (fun x v w'=>pH w.heap.size x v w') e w'):QRule L rp tb 142 (mB L (f+1)):=by
 intro w k n h hn
 have lo:=h.lows
 obtain⟨R,hR⟩:∃R,R=mB L (f+1) k n:=⟨_,rfl⟩
 rw[←hR] at hn ⊢
 rw[mB] at hR
 obtain⟨W1,hW1⟩:∃W1,W1=w.alloc (.cells #[.string ⟨#[]⟩,.string ⟨#[]⟩,.int .i64 0,.slice none 0 0] 25):=⟨_,rfl⟩
 have hst:StartQ w W1:=by rw[hW1];exact StartQ.new w
 have HX:=aA hW1
 have HNo:=aA hn
 have HL:=aA lo
 have HQ1:=aA (aI (h.below hst.bel) (aI (Below.x hst.bel rp (nR _)) (aI hst.blk True.intro)))
 have hs1:=hst.lt
 have hrp:=lo.r
 have hq1:=h.below hst.bel
 clear h hW1 hst hn lo
 obtain⟨m,c,hm,hm1,hc,h4,x0,y1,xf⟩:=hq1.cells
 obtain⟨y0,yt,y2⟩:=hq1.tokens
 have H1:=aA h1
 have H2:=aA h2
 have HTt:=aA (wT (L:=L) (rp:=rp) (tb:=tb))
 have HNm:=aA (fun (W:World) (k n:Nat) (hq:QS L rp tb W k n)=>CL hq)
 have HE:=yH (L:=L) (rp:=rp) (tb:=tb)
 have HN:=rG (L:=L) (rp:=rp) (tb:=tb)
 have HLv:=GI (L:=L) (rp:=rp) (tb:=tb) ⟨#[93]⟩ (by decide)
 have hz:=yW (t:=(cA L k).kind)
 unfold sg wCount wTotal wMax wMin at hR
 clear h1 h2
 by_cases hk:(cA L k).kind=.n
 ·rw[if_pos hk] at hR
  rw[decide_eq_true hk] at hz
  have HR:=aA hR
  clear hk hq1 hR
  generalize kN (cA L k).kind=K0 at *
  go_enter Tryz.func142,Tryz.ntmps142
  go_upto_region 1 with fail
  rw[←HX.out]
  go_wp2_with (go_at_call 155;refine(HNm.out _ _ _ HQ1.out.1).mono ?_;rintro e W2 hE;rcases hr:cC L k n with _|⟨c,a⟩|⟨x1,k1,n1⟩;(·exact absurd hr yI);(·rw[hr] at hE;obtain⟨hb,⟨p,rfl⟩⟩:=hE;obtain rfl:R=.bad c a:=(by rw[HR.out,hr,PR.bind_bad]);exact(show _∧_ from⟨rfl,HQ1.out.2.1.then hb HQ1.out.2.1.size,⟨_,rfl⟩⟩));rw[hr] at hE;obtain⟨hb,hq,v,rfl,rfl⟩:=hE;rw[hr,PR.bind_ok] at HR;have hs2:=hb.size;have HW2:=aA (aI hq (aI (HQ1.out.2.1.then hb HQ1.out.2.1.size) (aI ((hb.block _ (hs1) (by omega)).trans HQ1.out.2.2.1) True.intro)));have EW2:=aA hr;obtain⟨q0,q1,q2,q3,qf⟩:=tA HW2.out.2.2.1;clear hb hq hr)
  obtain⟨q0,q1,q2,q3,qf⟩:=tA HW2.out.2.2.1
  refine bodyPost_ret (v:=.agg #[.string ⟨#[110,117,109,98,101,114]⟩,.string ⟨#[]⟩,.int .i64 x1,.slice none 0 0]) (by simp[results,Tryz.results142,go_sem,q0,q1,q2,q3]) rfl ?_
  obtain rfl:=HR.out
  exact VD HL.out HW2.out.2.1 HW2.out.1 (NL.leaf _ _ ⟨#[110,117,109,98,101,114]⟩ ⟨#[]⟩ x1)
 rw[if_neg hk] at hR
 rw[decide_eq_false hk] at hz
 clear hk
 generalize kN (cA L k).kind=K0 at *
 by_cases hi0:YB L ⟨#[99,111,117,110,116]⟩ k=true
 ·rw[if_pos hi0] at hR
  have HR:=aA hR
  have HI0:=aA (UD hq1 ⟨#[99,111,117,110,116]⟩ (by decide) hi0)
  clear hi0 hq1 hR
  go_enter Tryz.func142,Tryz.ntmps142
  go_upto_region 1 with fail
  rw[←HX.out]
  go_wp2_with (first|(go_at_call 80;refine HI0.out.mono ?_;rintro e W8 ⟨rfl,hq,hb⟩;have HQ8:=aA (aI hq (aI (HQ1.out.2.1.then hb HQ1.out.2.1.size) (aI ((hb.block _ hs1 (by omega)).trans HQ1.out.2.2.1) True.intro)));have hs8:=hb.size;clear hb hq HI0)|(go_at_call 36;refine(HN.out _ _ _ HQ8.out.1).mono ?_;rintro e W2 hE;rcases hr:oB L (k+1) n with _|⟨c,a⟩|⟨x1,k1,n1⟩;(·exact absurd hr aC);(·rw[hr] at hE;obtain⟨hb,⟨p,rfl⟩⟩:=hE;obtain rfl:R=.bad c a:=(by rw[HR.out,hr,PR.bind_bad]);exact(show _∧_ from⟨rfl,HQ8.out.2.1.then hb HQ8.out.2.1.size,⟨_,rfl⟩⟩));rw[hr] at hE;obtain⟨hb,hq,v,rfl,rfl⟩:=hE;rw[hr,PR.bind_ok] at HR;have hs2:=hb.size;have HW2:=aA (aI hq (aI (HQ8.out.2.1.then hb HQ8.out.2.1.size) (aI ((hb.block _ (by omega) (by omega)).trans HQ8.out.2.2.1) True.intro)));have EW2:=aA hr;obtain⟨q0,q1,q2,q3,qf⟩:=tA HW2.out.2.2.1;clear hb hq hr))
  obtain⟨q0,q1,q2,q3,qf⟩:=tA HW2.out.2.2.1
  refine bodyPost_ret (v:=.agg #[.string ⟨#[99,111,117,110,116]⟩,.string x1,.int .i64 0,.slice none 0 0]) (by simp[results,Tryz.results142,go_sem,q0,q1,q2,q3]) rfl ?_
  obtain rfl:=HR.out
  exact VD HL.out HW2.out.2.1 HW2.out.1 (NL.leaf _ _ ⟨#[99,111,117,110,116]⟩ x1 0)
 rw[if_neg hi0] at hR
 have HI0:=aA (FE hq1 ⟨#[99,111,117,110,116]⟩ (Bool.eq_false_iff.2 hi0))
 clear hi0
 by_cases hi1:YB L ⟨#[116,111,116,97,108]⟩ k=true
 ·rw[if_pos hi1] at hR
  have HR:=aA hR
  have HI1:=aA (UD hq1 ⟨#[116,111,116,97,108]⟩ (by decide) hi1)
  clear hi1 hq1 hR
  go_enter Tryz.func142,Tryz.ntmps142
  go_upto_region 1 with fail
  rw[←HX.out]
  go_wp2_with (first|(go_at_call 80;refine HI0.out.mono ?_;rintro e w' ⟨rfl,rfl⟩;clear HI0)|(go_at_call 80;refine HI1.out.mono ?_;rintro e W8 ⟨rfl,hq,hb⟩;have HQ8:=aA (aI hq (aI (HQ1.out.2.1.then hb HQ1.out.2.1.size) (aI ((hb.block _ hs1 (by omega)).trans HQ1.out.2.2.1) True.intro)));have hs8:=hb.size;clear hb hq HI1)|(go_at_call 156;refine(HTt.out _ _ _ HQ8.out.1 (HR.out▸HNo.out)).mono ?_;rintro e W2 hE;rcases hr:JD L (k+1) n with _|⟨c,a⟩|⟨x1,k1,n1⟩;(·exact absurd hr (HR.out▸HNo.out));(·rw[hr] at hE;obtain⟨hb,⟨p,rfl⟩⟩:=hE;obtain rfl:R=.bad c a:=(by rw[HR.out,hr]);exact(show _∧_ from⟨rfl,HQ8.out.2.1.then hb HQ8.out.2.1.size,⟨_,rfl⟩⟩));rw[hr] at hE HR;obtain⟨hb,hq,v,rfl,s0,s1,i2,ka,kn,kc,rfl,hN⟩:=hE;obtain⟨q0,q1,q2,q3,qf⟩:=tA ((hb.block _ (by omega) (by omega)).trans HQ8.out.2.2.1);have HQ2:=aA (aI hq (aI (HQ8.out.2.1.then hb HQ8.out.2.1.size) hN));clear hb hq hr hN))
  refine bodyPost_ret (v:=.agg #[.string s0,.string s1,.int .i64 i2,.slice ka kn kc]) (by simp[results,Tryz.results142,go_sem,q0,q1,q2,q3]) rfl ?_
  obtain rfl:R=.ok x1 k1 n1:=HR.out
  exact VD HL.out HQ2.out.2.1 HQ2.out.1 (HQ2.out.2.2.step fun b hb hp=>⟨rfl,by omega⟩)
 rw[if_neg hi1] at hR
 have HI1:=aA (FE hq1 ⟨#[116,111,116,97,108]⟩ (Bool.eq_false_iff.2 hi1))
 clear hi1
 by_cases hi2:YB L ⟨#[109,97,120]⟩ k=true∨YB L ⟨#[109,105,110]⟩ k=true
 ·rw[if_pos hi2] at hR
  have hmore:k+1<L.length:=by
   rcases hi2 with hi|hi
   ·exact hq1.more (AD hi (by decide))
   ·exact hq1.more (AD hi (by decide))
  have HR:=aA hR
  have HI2:=aA (eI hq1 ⟨#[109,97,120]⟩)
  have HI3:=aA (eI hq1 ⟨#[109,105,110]⟩)
  obtain⟨b1,e1⟩:∃b1,b1=YB L ⟨#[109,97,120]⟩ k:=⟨_,rfl⟩
  obtain⟨b2,e2⟩:∃b2,b2=YB L ⟨#[109,105,110]⟩ k:=⟨_,rfl⟩
  have hbb:(b1||b2)=true:=by rw[e1,e2,Bool.or_eq_true];exact hi2
  rw[←e1] at HI2
  rw[←e2] at HI3
  clear hi2 hq1 hR e1 e2
  cases b1
  all_goals (
   first|(have hb9:=hbb;simp only[Bool.false_or] at hb9;subst hb9)|skip
   go_enter Tryz.func142,Tryz.ntmps142
   go_upto_region 1 with fail
   rw[←HX.out]
   go_wp2_with (first|(go_at_call 80;refine HI0.out.mono ?_;rintro e w' ⟨rfl,rfl⟩;clear HI0)|(go_at_call 80;refine HI1.out.mono ?_;rintro e w' ⟨rfl,rfl⟩;clear HI1)|(go_at_call 118;refine HI2.out.mono ?_;rintro e w' ⟨rfl,rfl⟩;clear HI2)|(go_at_call 118;refine HI3.out.mono ?_;rintro e w' ⟨rfl,rfl⟩;clear HI3)|(go_at_call 157;refine(H2.out _ _ _ HQ1.out.1 hmore (HR.out▸HNo.out)).mono ?_;rintro e W2 hE;rcases hr:KB L f k n with _|⟨c,a⟩|⟨x1,k1,n1⟩;(·exact absurd hr (HR.out▸HNo.out));(·rw[hr] at hE;obtain⟨hb,⟨p,rfl⟩⟩:=hE;obtain rfl:R=.bad c a:=(by rw[HR.out,hr]);exact(show _∧_ from⟨rfl,HQ1.out.2.1.then hb HQ1.out.2.1.size,⟨_,rfl⟩⟩));rw[hr] at hE HR;obtain⟨hb,hq,v,rfl,s0,s1,i2,ka,kn,kc,rfl,hN⟩:=hE;obtain⟨q0,q1,q2,q3,qf⟩:=tA ((hb.block _ hs1 (by omega)).trans HQ1.out.2.2.1);have HQ2:=aA (aI hq (aI (HQ1.out.2.1.then hb HQ1.out.2.1.size) hN));clear hb hq hr hN))
   refine bodyPost_ret (v:=.agg #[.string s0,.string s1,.int .i64 i2,.slice ka kn kc]) (by simp[results,Tryz.results142,go_sem,q0,q1,q2,q3]) rfl ?_
   obtain rfl:R=.ok x1 k1 n1:=HR.out
   exact VD HL.out HQ2.out.2.1 HQ2.out.1 (HQ2.out.2.2.step fun b hb hp=>⟨rfl,by omega⟩))
 rw[if_neg hi2] at hR
 have HI2:=aA (eI hq1 ⟨#[109,97,120]⟩)
 have HI3:=aA (eI hq1 ⟨#[109,105,110]⟩)
 rw[show YB L ⟨#[109,97,120]⟩ k=false from Bool.eq_false_iff.2 fun h=>hi2 (.inl h)] at HI2
 rw[show YB L ⟨#[109,105,110]⟩ k=false from Bool.eq_false_iff.2 fun h=>hi2 (.inr h)] at HI3
 clear hi2
 have HI4:=aA (eI hq1 ⟨#[91]⟩)
 by_cases hi3:YB L ⟨#[91]⟩ k=true
 ·rw[if_pos hi3] at hR
  have hmore:k+1<L.length:=hq1.more (AD hi3 (by decide))
  rw[hi3] at HI4
  have HR:=aA hR
  clear hi3 hq1 hR
  go_enter Tryz.func142,Tryz.ntmps142
  go_upto_region 1 with fail
  rw[←HX.out]
  go_upto_region 13 with (first|(go_at_call 80;refine HI0.out.mono ?_;rintro e w' ⟨rfl,rfl⟩;clear HI0)|(go_at_call 80;refine HI1.out.mono ?_;rintro e w' ⟨rfl,rfl⟩;clear HI1)|(go_at_call 118;refine HI2.out.mono ?_;rintro e w' ⟨rfl,rfl⟩;clear HI2)|(go_at_call 118;refine HI3.out.mono ?_;rintro e w' ⟨rfl,rfl⟩;clear HI3)|(go_at_call 118;refine HI4.out.mono ?_;rintro e w' ⟨rfl,rfl⟩;clear HI4)|(go_at_call 141;refine(HE.out _ _ _ HQ1.out.1 hmore).mono ?_;rintro e W2 hE;rcases hr:TB L k n with _|⟨c,a⟩|⟨x1,k1,n1⟩;(·exact absurd hr NE);(·rw[hr] at hE;obtain⟨hb,⟨p,rfl⟩⟩:=hE;obtain rfl:R=.bad c a:=(by rw[HR.out,hr,PR.bind_bad]);exact(show _∧_ from⟨rfl,HQ1.out.2.1.then hb HQ1.out.2.1.size,⟨_,rfl⟩⟩));rw[hr] at hE;obtain⟨hb,hq,v,rfl,rfl⟩:=hE;rw[hr,PR.bind_ok] at HR;have hs2:=hb.size;have HW2:=aA (aI hq (aI (HQ1.out.2.1.then hb HQ1.out.2.1.size) (aI ((hb.block _ (hs1) (by omega)).trans HQ1.out.2.2.1) True.intro)));have EW2:=aA hr;clear hb hq hr)|(go_at_call 84;refine(H1.out _ _ _ HW2.out.1 (PR.bind_not (HR.out▸HNo.out))).mono ?_;rintro e W3 hE;rcases hr:GC L f k1 n1 with _|⟨c,a⟩|⟨x2,k2,n2⟩;(·exact absurd hr (PR.bind_not (HR.out▸HNo.out)));(·rw[hr] at hE;obtain⟨hb,⟨p,rfl⟩⟩:=hE;obtain rfl:R=.bad c a:=(by rw[HR.out,hr,PR.bind_bad]);exact(show _∧_ from⟨rfl,HW2.out.2.1.then hb HW2.out.2.1.size,⟨_,rfl⟩⟩));rw[hr] at hE;obtain⟨hb,hq,v,rfl,s0,s1,s2,sa,sn,sc,rfl,hN⟩:=hE;rw[hr,PR.bind_ok] at HR;have hs3:=hb.size;have HW3:=aA (aI hq (aI (HW2.out.2.1.then hb HW2.out.2.1.size) (aI hN (aI ((hb.block _ (by omega) (by omega)).trans HW2.out.2.2.1) True.intro))));have EW3:=aA hr;clear hb hq hr hN))
  obtain⟨V3,hV3⟩:∃V3,V3=W3.alloc (.cells #[.string s0,.string s1,.int .i64 s2,.slice sa sn sc] 25):=⟨_,rfl⟩
  rw[←hV3]
  have hb3:Below W3.heap.size W3 V3:=by rw[hV3];exact bA _ _
  have hn3:V3.heap[W3.heap.size]?=some (.cells #[.string s0,.string s1,.int .i64 s2,.slice sa sn sc] 25 (0,0)):=by rw[hV3];exact heap_alloc_new _ _
  have hl3:W3.heap.size<V3.heap.size:=by rw[hV3];simp
  have hnn:1≤n2:=by rw[(YF L f).su _ _ _ _ _ EW3.out,yD EW2.out];omega
  have HV3:=aA (aI (HW3.out.1.below hb3) (aI (HW3.out.2.1.then (Below.x hb3 rp (nR _)) HW3.out.2.1.size) (aI hn3 (aI ((hb3.block _ (by omega)).trans HW3.out.2.2.2.1) (HW3.out.2.2.1.step (w':=V3) (P':=fun b=>w.heap.size<b) fun b hb hp=>⟨hb3.block b hb,by omega⟩)))))
  generalize W3.heap.size=g3 at *
  clear hV3 hb3 hn3 HW3
  go_wp2_with (go_at_call 151;refine(HLv.out _ _ _ HV3.out.1 hnn).mono ?_;rintro e W4 hE;rcases hr:dC L ⟨#[93]⟩ k2 n2 with _|⟨c,a⟩|⟨x5,k5,n5⟩;(·exact absurd hr OF);(·rw[hr] at hE;obtain⟨hb,⟨p,rfl⟩⟩:=hE;obtain rfl:R=.bad c a:=(by rw[HR.out,hr,PR.bind_bad]);exact(show _∧_ from⟨rfl,HV3.out.2.1.then hb HV3.out.2.1.size,⟨_,rfl⟩⟩));rw[hr] at hE;obtain⟨hb,hq,v,rfl,rfl⟩:=hE;rw[hr,PR.bind_ok] at HR;have hs4:=hb.size;have HW4:=aA (aI hq (aI (HV3.out.2.1.then hb HV3.out.2.1.size) (aI ((hb.block _ (by omega) (by omega)).trans HV3.out.2.2.1) (aI ((hb.block _ (by omega) (by omega)).trans HV3.out.2.2.2.1) True.intro))));have EW4:=aA hr;obtain⟨z0,z1,z2,z3,zf⟩:=tA HW4.out.2.2.1;obtain⟨q0,q1,q2,q3,qf⟩:=tA HW4.out.2.2.2.1;have HN4:=aA (HV3.out.2.2.2.2.step (w':=W4) (P':=fun b=>w.heap.size<b) fun b hb' hp=>⟨hb.block b hb' (by omega),hp⟩);clear hb hq hr)
  obtain⟨q0,q1,q2,q3,qf⟩:=tA HW4.out.2.2.2.1
  refine bodyPost_ret (v:=.agg #[.string s0,.string s1,.int .i64 s2,.slice sa sn sc]) (by simp[results,Tryz.results142,go_sem,q0,q1,q2,q3]) rfl ?_
  obtain rfl:=HR.out
  exact VD HL.out HW4.out.2.1 HW4.out.1 HN4.out
 rw[if_neg hi3] at hR
 rw[show YB L ⟨#[91]⟩ k=false from Bool.eq_false_iff.2 hi3] at HI4
 have HR:=aA hR
 clear hi3 hq1 hR
 go_enter Tryz.func142,Tryz.ntmps142
 go_upto_region 1 with fail
 rw[←HX.out]
 go_wp2_with (first|(go_at_call 80;refine HI0.out.mono ?_;rintro e w' ⟨rfl,rfl⟩;clear HI0)|(go_at_call 80;refine HI1.out.mono ?_;rintro e w' ⟨rfl,rfl⟩;clear HI1)|(go_at_call 118;refine HI2.out.mono ?_;rintro e w' ⟨rfl,rfl⟩;clear HI2)|(go_at_call 118;refine HI3.out.mono ?_;rintro e w' ⟨rfl,rfl⟩;clear HI3)|(go_at_call 118;refine HI4.out.mono ?_;rintro e w' ⟨rfl,rfl⟩;clear HI4)|(go_at_call 36;refine(HN.out _ _ _ HQ1.out.1).mono ?_;rintro e W2 hE;rcases hr:oB L k n with _|⟨c,a⟩|⟨x1,k1,n1⟩;(·exact absurd hr aC);(·rw[hr] at hE;obtain⟨hb,⟨p,rfl⟩⟩:=hE;obtain rfl:R=.bad c a:=(by rw[HR.out,hr,PR.bind_bad]);exact(show _∧_ from⟨rfl,HQ1.out.2.1.then hb HQ1.out.2.1.size,⟨_,rfl⟩⟩));rw[hr] at hE;obtain⟨hb,hq,v,rfl,rfl⟩:=hE;rw[hr,PR.bind_ok] at HR;have hs2:=hb.size;have HW2:=aA (aI hq (aI (HQ1.out.2.1.then hb HQ1.out.2.1.size) (aI ((hb.block _ (hs1) (by omega)).trans HQ1.out.2.2.1) True.intro)));have EW2:=aA hr;obtain⟨q0,q1,q2,q3,qf⟩:=tA HW2.out.2.2.1;clear hb hq hr))
 obtain⟨q0,q1,q2,q3,qf⟩:=tA HW2.out.2.2.1
 refine bodyPost_ret (v:=.agg #[.string ⟨#[110,97,109,101]⟩,.string x1,.int .i64 0,.slice none 0 0]) (by simp[results,Tryz.results142,go_sem,q0,q1,q2,q3]) rfl ?_
 obtain rfl:=HR.out
 exact VD HL.out HW2.out.2.1 HW2.out.1 (NL.leaf _ _ ⟨#[110,97,109,101]⟩ x1 0)
end Go.Proofs.YtehbinobohjadaaGreatDoor
