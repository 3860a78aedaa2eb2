import Derived.Test.YtehbinobohjadaaGreatDoorTm00
import Derived.Test.YtehbinobohjadaaGreatDoorTm10
import Derived.Deep.LoopGhost
set_option maxHeartbeats 20000000
set_option maxRecDepth 20000
namespace Go.Proofs.YtehbinobohjadaaGreatDoor
open Go.RowKit Go.Extern.Stop Go.Stop Go.Extern
theorem FJ{L:List Tok}{bp tb cp:Nat}{W:World}{t:PR Bool}{S:Nat→Nat→PR Nd}{N:Nd→Nat→Nat→PR Nd}{x:Nd}{R:PR Nd}(hR:t.bind (fun b k n=>if b=true then (S k n).bind N else .ok x k n)=R)(hn:R≠.out)(hv:PSt L bp tb cp W t (fun y=>y=true))(ht:t≠.out):
 (t.bind fun _ k n=>S k n)≠.out∧((t.bind fun _ k n=>S k n).bind N)=R:=by
 cases t with
 |out=>exact absurd rfl ht
 |bad c a=>exact⟨(by intro h;cases h),hR⟩
 |ok y k n=>
  have hy:y=true:=hv.2
  subst hy
  have hR:(S k n).bind N=R:=hR
  exact⟨PR.bind_not (hR▸hn),hR⟩
theorem ZI{L:List Tok}{bp tb cp:Nat}{W:World}{t:PR Bool}{S:Nat→Nat→PR Nd}{N:Nd→Nat→Nat→PR Nd}{x:Nd}{R:PR Nd}(hR:t.bind (fun b k n=>if b=true then (S k n).bind N else .ok x k n)=R)(hv:PSt L bp tb cp W t (fun y=>y=false)):
 R=t.bind fun _ k n=>.ok x k n:=by
 cases t with
 |out=>exact hR.symm
 |bad c a=>exact hR.symm
 |ok y k n=>
  have hy:y=false:=hv.2
  subst hy
  exact hR.symm
theorem dL{L:List Tok}{bp tb cp f:Nat}(h1:∀f',f'≤f→OD L bp tb cp 112 (cD L f')):OD L bp tb cp 66 (zA L (f+1)):=by
 intro w k n h hn
 have hR0:zA L (f+1) k n=(cD L f k n).bind fun x k n=>sC L f x k n:=by rw[zA]
 rw[hR0] at hn ⊢
 have hbp:=h.s.in
 have htb:=h.s.tin
 obtain⟨R,hR⟩:∃R,R=(cD L f k n).bind fun x k n=>sC L f x k n:=⟨_,rfl⟩
 rw[←hR] at hn ⊢
 obtain⟨W1,hW1⟩:∃W1,W1=w.alloc (.cells #[.string ⟨#[]⟩,.string ⟨#[]⟩,.int .i64 0,.slice none 0 0] 44):=⟨_,rfl⟩
 have hst:Start w W1:=by rw[hW1];exact Start.new w
 have hlt:=hst.lt
 have HF:=aA (h1 f (nR _) W1 k n (h.below hst.bel) (PR.bind_not (hR▸hn)))
 have H1:=aA h1
 have HX:=aA hW1
 have HT:=aA hst
 have HR:=aA hR
 have HN:=aA hn
 clear h hW1 hst hR0 h1 hR hn
 go_enter Tryz.func66,Tryz.ntmps66
 go_wp2_with (rw[←HX.out];go_at_call 112;refine HF.out.mono ?_;rintro e W2 ⟨⟨s0,s1,n2,ka,kn,kc,rfl,hP2⟩,hB2⟩;have HQ:=aA (aI hP2 hB2);clear hP2 hB2)
 obtain⟨W3,hW3⟩:∃W3,W3=W2.alloc (.cells #[.string s0,.string s1,.int .i64 n2,.slice ka kn kc] 44):=⟨_,rfl⟩
 have h23:Below W2.heap.size W2 W3:=by rw[hW3];exact bA _ _
 have hl3:W2.heap.size<W3.heap.size:=by rw[hW3];simp
 have HS0:Hid (LoopAt L bp tb cp w R (sC L) f W2.heap.size f W3):=by
  refine .mk f (cD L f k n) s0 s1 n2 ka kn kc (nR _) (nR _) ((HQ.out.1.below h23).to fun x k n _ hx=>hx.step fun b hb hp=>⟨h23.block b hb,by omega,by omega⟩) (PR.bind_not (HR.out▸HN.out)) HR.out.symm (by rw[hW3];exact heap_alloc_new _ _) (((h23.block _ (Nat.lt_of_lt_of_le hlt HQ.out.2.size)).trans (HQ.out.2.block _ hlt (by omega))).trans HT.out.blk) (((Below.x HT.out.bel bp (nR _)).then HQ.out.2 HT.out.bel.size).then (Below.x h23 bp (nR _)) (Nat.le_trans HT.out.bel.size HQ.out.2.size)) (Nat.lt_of_lt_of_le hlt HQ.out.2.size) hl3
 rw[←hW3]
 clear hW3 h23 hl3 HX HT hlt
 generalize W2.heap.size=g3 at *
 clear HQ HF
 go_loopg [] f (fun g wr=>LoopAt L bp tb cp w R (sC L) f g3 g wr)
 case atStart=>exact HS0.out
 case round=>
  clear HS0 HR
  cases hrel with
  |mk f' r s0 s1 n2 ka kn kc hg hF hs hr hR hc hq hB h3 h4=>
  have hb3:g3≠bp:=by omega
  have hb4:w.heap.size≠bp:=by omega
  have hl4:w.heap.size<wr.heap.size:=by omega
  have HC:=aA hc
  have HQr:=aA hq
  have HB:=aA hB
  have HGg:=aA hg
  clear hc hq hB hg
  cases r with
  |out=>exact absurd rfl hr
  |bad c a=>
   have HTk:=aA (aF hs wOr)
   unfold wOr at HTk
   have HS:=aA hs
   have hRb:R=.bad c a:=hR.symm
   subst hRb
   clear hs hr hR
   go_wp2_with (go_at_call 64;refine HTk.out.mono ?_;rintro e W4 ⟨rfl,hB4⟩;obtain⟨q0,q1,q2,q3,qf⟩:=gA HQr.out (hB4.block _ hl4);obtain⟨m0,m1,m2,m3,mf⟩:=gA HC.out (hB4.block _ h4);have HQ4:=aA hB4;clear hB4)
   refine bodyPost_ret (v:=.agg #[.string s0,.string s1,.int .i64 n2,.slice ka kn kc]) (by simp[results,Tryz.results66,go_sem,q0,q1,q2,q3]) rfl ?_
   exact vB hbp htb (R:=.bad c a) (P:=fun b=>w.heap.size<b) (PBad.below HS.out HQ4.out) (fun b hb=>hb) (HB.out.then (Below.x HQ4.out bp (nR _)) HB.out.size)
  |ok x k1 n1=>
   cases f' with
   |zero=>exact absurd (hR.symm.trans (by show sC L 0 x k1 n1=.out;rw[sC])) HN.out
   |succ f'=>
    have hR2:(yB L wOr k1 n1).bind (fun b k n=>if b=true then (cD L f' k n).bind fun m k n=>sC L f' (.mk wOr ⟨#[]⟩ 0 [x,m]) k n else .ok x k n)=R:=by
     have h9:sC L (f'+1) x k1 n1=R:=hR
     rw[sC] at h9
     exact h9
    have HTk:=aA (SH hs.1 wOr)
    unfold wOr at HTk
    have HS:=aA hs
    have HR2:=aA hR2
    have HRl:=aA (fun (W:World) (V:Bool→Prop) (hW:PSt L bp tb cp W (yB L wOr k1 n1) V) (ho:((yB L wOr k1 n1).bind fun _ k n=>cD L f' k n)≠.out)=>QC (H1.out f' (by omega)) (fun _ _ _ h=>ZK h) hW ho)
    clear hs hr hR hR2
    go_wp2_with (go_at_call 64;refine HTk.out.mono ?_;rintro e W4 ⟨⟨b,rfl,hP4⟩,hB4⟩;obtain⟨q0,q1,q2,q3,qf⟩:=gA HQr.out (hB4.block _ hl4 hb4);obtain⟨m0,m1,m2c,m3,mf⟩:=gA HC.out (hB4.block _ h4 hb3);have HQ4:=aA (aI hP4 hB4);clear hP4 hB4)
    ·have hbt:b=true:=by assumption
     subst hbt
     have ht:=FJ HR2.out HN.out HQ4.out.1 (dE _ _ _ _)
     refine(HRl.out _ _ HQ4.out.1 ht.1).mono ?_
     rintro e W5 ⟨⟨t0,t1,m2,la,ln,lc,rfl,hP5⟩,hB5⟩
     have hc5:=((hB5.block _ (Nat.lt_of_lt_of_le h4 HQ4.out.2.size) hb3).trans (HQ4.out.2.block _ h4 hb3)).trans HC.out
     have hl5:=Nat.lt_of_lt_of_le (Nat.lt_of_lt_of_le h4 HQ4.out.2.size) hB5.size
     have hb7:=((Below.refl W5.heap.size W5).alloc (nR _) (.cells #[.string t0,.string t1,.int .i64 m2,.slice la ln lc] 44)).alloc (by simp) (.cells #[.string s0,.string s1,.int .i64 n2,.slice ka kn kc,.string t0,.string t1,.int .i64 m2,.slice la ln lc] 44)
     obtain⟨u0,u1,u2,u3,uf⟩:=tA hc5
     have HT5:=aA ht.2
     have HQ5:=aA (aI hP5 (aI hB5 (aI hb7 hc5)))
     clear hP5 hB5 ht hc5 hb7
     simp only[]
     go_wp2
     go_roundg f'
     case rel=>
      have hp2:=LI HQ5.out.2.2.2 (.string wOr) (.string ⟨#[]⟩) (.int .i64 0) (.string s0) (.string s1) (.int .i64 n2) (.slice ka kn kc) (.string t0) (.string t1) (.int .i64 m2) (.slice la ln lc)
      exact VN hbp htb h3 h4 HB.out HQ4.out.2 HQ5.out.2.1 HQr.out HS.out.2 HQ5.out.1 hp2 (by omega) (PR.bind_not (HT5.out▸HN.out)) HT5.out
     case measure=>have:=HGg.out;omega
    ·have hbf:b=false:=by simp_all
     subst hbf
     refine bodyPost_ret (v:=.agg #[.string s0,.string s1,.int .i64 n2,.slice ka kn kc]) (by simp[results,Tryz.results66,go_sem,q0,q1,q2,q3]) rfl ?_
     have h8:=ZI HR2.out HQ4.out.1
     exact vB hbp htb (P:=fun b=>w.heap.size<b∧b≠g3) (gI HS.out HQ4.out.1 h8 hbp HQ4.out.2) (fun b hb=>hb.1) (HB.out.then HQ4.out.2 HB.out.size)
theorem yO{L:List Tok}{bp tb cp f:Nat}(h1:∀f',f'≤f→OD L bp tb cp 132 (lB L f')):OD L bp tb cp 112 (cD L (f+1)):=by
 intro w k n h hn
 have hR0:cD L (f+1) k n=(lB L f k n).bind fun x k n=>RB L f x k n:=by rw[cD]
 rw[hR0] at hn ⊢
 have hbp:=h.s.in
 have htb:=h.s.tin
 obtain⟨R,hR⟩:∃R,R=(lB L f k n).bind fun x k n=>RB L f x k n:=⟨_,rfl⟩
 rw[←hR] at hn ⊢
 obtain⟨W1,hW1⟩:∃W1,W1=w.alloc (.cells #[.string ⟨#[]⟩,.string ⟨#[]⟩,.int .i64 0,.slice none 0 0] 44):=⟨_,rfl⟩
 have hst:Start w W1:=by rw[hW1];exact Start.new w
 have hlt:=hst.lt
 have HF:=aA (h1 f (nR _) W1 k n (h.below hst.bel) (PR.bind_not (hR▸hn)))
 have H1:=aA h1
 have HX:=aA hW1
 have HT:=aA hst
 have HR:=aA hR
 have HN:=aA hn
 clear h hW1 hst hR0 h1 hR hn
 go_enter Tryz.func112,Tryz.ntmps112
 go_wp2_with (rw[←HX.out];go_at_call 132;refine HF.out.mono ?_;rintro e W2 ⟨⟨s0,s1,n2,ka,kn,kc,rfl,hP2⟩,hB2⟩;have HQ:=aA (aI hP2 hB2);clear hP2 hB2)
 obtain⟨W3,hW3⟩:∃W3,W3=W2.alloc (.cells #[.string s0,.string s1,.int .i64 n2,.slice ka kn kc] 44):=⟨_,rfl⟩
 have h23:Below W2.heap.size W2 W3:=by rw[hW3];exact bA _ _
 have hl3:W2.heap.size<W3.heap.size:=by rw[hW3];simp
 have HS0:Hid (LoopAt L bp tb cp w R (RB L) f W2.heap.size f W3):=by
  refine .mk f (lB L f k n) s0 s1 n2 ka kn kc (nR _) (nR _) ((HQ.out.1.below h23).to fun x k n _ hx=>hx.step fun b hb hp=>⟨h23.block b hb,by omega,by omega⟩) (PR.bind_not (HR.out▸HN.out)) HR.out.symm (by rw[hW3];exact heap_alloc_new _ _) (((h23.block _ (Nat.lt_of_lt_of_le hlt HQ.out.2.size)).trans (HQ.out.2.block _ hlt (by omega))).trans HT.out.blk) (((Below.x HT.out.bel bp (nR _)).then HQ.out.2 HT.out.bel.size).then (Below.x h23 bp (nR _)) (Nat.le_trans HT.out.bel.size HQ.out.2.size)) (Nat.lt_of_lt_of_le hlt HQ.out.2.size) hl3
 rw[←hW3]
 clear hW3 h23 hl3 HX HT hlt
 generalize W2.heap.size=g3 at *
 clear HQ HF
 go_loopg [] f (fun g wr=>LoopAt L bp tb cp w R (RB L) f g3 g wr)
 case atStart=>exact HS0.out
 case round=>
  clear HS0 HR
  cases hrel with
  |mk f' r s0 s1 n2 ka kn kc hg hF hs hr hR hc hq hB h3 h4=>
  have hb3:g3≠bp:=by omega
  have hb4:w.heap.size≠bp:=by omega
  have hl4:w.heap.size<wr.heap.size:=by omega
  have HC:=aA hc
  have HQr:=aA hq
  have HB:=aA hB
  have HGg:=aA hg
  clear hc hq hB hg
  cases r with
  |out=>exact absurd rfl hr
  |bad c a=>
   have HTk:=aA (aF hs wAnd)
   unfold wAnd at HTk
   have HS:=aA hs
   have hRb:R=.bad c a:=hR.symm
   subst hRb
   clear hs hr hR
   go_wp2_with (go_at_call 64;refine HTk.out.mono ?_;rintro e W4 ⟨rfl,hB4⟩;obtain⟨q0,q1,q2,q3,qf⟩:=gA HQr.out (hB4.block _ hl4);obtain⟨m0,m1,m2,m3,mf⟩:=gA HC.out (hB4.block _ h4);have HQ4:=aA hB4;clear hB4)
   refine bodyPost_ret (v:=.agg #[.string s0,.string s1,.int .i64 n2,.slice ka kn kc]) (by simp[results,Tryz.results112,go_sem,q0,q1,q2,q3]) rfl ?_
   exact vB hbp htb (R:=.bad c a) (P:=fun b=>w.heap.size<b) (PBad.below HS.out HQ4.out) (fun b hb=>hb) (HB.out.then (Below.x HQ4.out bp (nR _)) HB.out.size)
  |ok x k1 n1=>
   cases f' with
   |zero=>exact absurd (hR.symm.trans (by show RB L 0 x k1 n1=.out;rw[RB])) HN.out
   |succ f'=>
    have hR2:(yB L wAnd k1 n1).bind (fun b k n=>if b=true then (lB L f' k n).bind fun m k n=>RB L f' (.mk wAnd ⟨#[]⟩ 0 [x,m]) k n else .ok x k n)=R:=by
     have h9:RB L (f'+1) x k1 n1=R:=hR
     rw[RB] at h9
     exact h9
    have HTk:=aA (SH hs.1 wAnd)
    unfold wAnd at HTk
    have HS:=aA hs
    have HR2:=aA hR2
    have HRl:=aA (fun (W:World) (V:Bool→Prop) (hW:PSt L bp tb cp W (yB L wAnd k1 n1) V) (ho:((yB L wAnd k1 n1).bind fun _ k n=>lB L f' k n)≠.out)=>QC (H1.out f' (by omega)) (fun _ _ _ h=>kH h) hW ho)
    clear hs hr hR hR2
    go_wp2_with (go_at_call 64;refine HTk.out.mono ?_;rintro e W4 ⟨⟨b,rfl,hP4⟩,hB4⟩;obtain⟨q0,q1,q2,q3,qf⟩:=gA HQr.out (hB4.block _ hl4 hb4);obtain⟨m0,m1,m2c,m3,mf⟩:=gA HC.out (hB4.block _ h4 hb3);have HQ4:=aA (aI hP4 hB4);clear hP4 hB4)
    ·have hbt:b=true:=by assumption
     subst hbt
     have ht:=FJ HR2.out HN.out HQ4.out.1 (dE _ _ _ _)
     refine(HRl.out _ _ HQ4.out.1 ht.1).mono ?_
     rintro e W5 ⟨⟨t0,t1,m2,la,ln,lc,rfl,hP5⟩,hB5⟩
     have hc5:=((hB5.block _ (Nat.lt_of_lt_of_le h4 HQ4.out.2.size) hb3).trans (HQ4.out.2.block _ h4 hb3)).trans HC.out
     have hl5:=Nat.lt_of_lt_of_le (Nat.lt_of_lt_of_le h4 HQ4.out.2.size) hB5.size
     have hb7:=((Below.refl W5.heap.size W5).alloc (nR _) (.cells #[.string t0,.string t1,.int .i64 m2,.slice la ln lc] 44)).alloc (by simp) (.cells #[.string s0,.string s1,.int .i64 n2,.slice ka kn kc,.string t0,.string t1,.int .i64 m2,.slice la ln lc] 44)
     obtain⟨u0,u1,u2,u3,uf⟩:=tA hc5
     have HT5:=aA ht.2
     have HQ5:=aA (aI hP5 (aI hB5 (aI hb7 hc5)))
     clear hP5 hB5 ht hc5 hb7
     simp only[]
     go_wp2
     go_roundg f'
     case rel=>
      have hp2:=LI HQ5.out.2.2.2 (.string wAnd) (.string ⟨#[]⟩) (.int .i64 0) (.string s0) (.string s1) (.int .i64 n2) (.slice ka kn kc) (.string t0) (.string t1) (.int .i64 m2) (.slice la ln lc)
      exact VN hbp htb h3 h4 HB.out HQ4.out.2 HQ5.out.2.1 HQr.out HS.out.2 HQ5.out.1 hp2 (by omega) (PR.bind_not (HT5.out▸HN.out)) HT5.out
     case measure=>have:=HGg.out;omega
    ·have hbf:b=false:=by simp_all
     subst hbf
     refine bodyPost_ret (v:=.agg #[.string s0,.string s1,.int .i64 n2,.slice ka kn kc]) (by simp[results,Tryz.results112,go_sem,q0,q1,q2,q3]) rfl ?_
     have h8:=ZI HR2.out HQ4.out.1
     exact vB hbp htb (P:=fun b=>w.heap.size<b∧b≠g3) (gI HS.out HQ4.out.1 h8 hbp HQ4.out.2) (fun b hb=>hb.1) (HB.out.then HQ4.out.2 HB.out.size)
end Go.Proofs.YtehbinobohjadaaGreatDoor
