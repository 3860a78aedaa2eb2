import Derived.Test.YtehbinobohjadaaGreatDoorTm00
import Derived.Test.YtehbinobohjadaaGreatDoorTm30
set_option maxHeartbeats 20000000
set_option maxRecDepth 20000
namespace Go.Proofs.YtehbinobohjadaaGreatDoor
open Go.RowKit Go.Sort Go.Extern.Stop Go.Stop Go.Extern
set_option linter.unusedSectionVars false
variable [Inhabited TP]
theorem uV{t:Tn}(hO:TnOk t)(ih:∀(i:Nat) (k:Tn),t.kids[i]?=some k→wO k)(hF:JV t):AU t:=by
 intro w wp s ka kc l lv hl hS hN hlv
 cases h0:(t.kind.toList==[43])
 rotate_left
 ·have hL:xL t.kind=0:=by unfold xL;rw[if_pos (.inl (fA h0 rfl))]
  have HLv:=aA (fun W=>PD t.kind W)
  rw[hL] at HLv
  have hll:¬(0:Int)<l:=by omega
  match e:t.kids with
  | []=>
    have HKn:Hid (t.kids[0]?=none):=by show _=_;rw[e];rfl
    obtain⟨z0,z1,n0,n1,hOk⟩:=hO.is
    have hwp:=hS.wr.in
    have HX0:=aA (BX.new hN hwp)
    have HS0:=aA (hS.alloc (.cells (RA t ka kc) 25))
    obtain⟨W0,hW0⟩:∃W0,W0=w.alloc (.cells (RA t ka kc) 25):=⟨_,rfl⟩
    rw[←hW0] at HX0 HS0
    have HW:Hid (W0=w.alloc (.cells #[.string t.kind,.string t.word,.int .i64 t.num,.slice ka t.kids.length kc] 25)):=hW0
    obtain⟨R,hR⟩:∃R,R=cE t s:=⟨_,rfl⟩
    rw[←hR]
    rw[yE (.inl (fA h0 rfl)),e] at hR
    have HR:=aA hR
    obtain⟨c0,c1,c2,c3⟩:=HX0.out.cells
    have HRn:Hid (R=none):=by show _=_;rw[hR];try cases PA s<;>rfl
    clear hR hW0 hN e
    unfold RA
    (obtain rfl:R=none:=HRn.out)
    go_enter Tryz.func98,Tryz.ntmps98
    go_upto_region 1 with fail
    rw[←HW.out]
    go_wp2_with (first
    |(go_at_call 92;refine(NB (i:=0) HS1.out.wr HKn.out).mono ?_;rintro e W2 ⟨⟨p,rfl⟩,hb⟩;exact(show _∧_ from⟨rfl,HS1.out.fr.trans (WFr.of hb (Nat.le_of_lt HS1.out.wr.in)),⟨_,rfl⟩⟩))
    |(go_at_call 91;refine(xB HS0.out.wr).mono ?_;rintro e W1 ⟨hf,hr⟩;revert hr;(split);(·rintro ⟨p,rfl⟩;exact(show _∧_ from⟨rfl,HS0.out.fr.trans hf,⟨_,rfl⟩⟩));rintro ⟨rfl,hr⟩;(have HS1:=aA (HS0.out.step hf hr));(have HX1:=aA (HX0.out.step hf));(obtain⟨c0,c1,c2,c3⟩:=HX1.out.cells);clear hf hr)
    |(go_at_call 125;refine(HLv.out _).mono ?_;rintro e w' ⟨rfl,h9⟩;subst w'))
  | [a]=>
    have HKa:Hid (t.kids[0]?=some a):=by show _=_;rw[e];rfl
    have HIa:=aA (ih 0 a HKa.out)
    have HKn:Hid (t.kids[1]?=none):=by show _=_;rw[e];rfl
    obtain⟨z0,z1,n0,n1,hOk⟩:=hO.is
    have hwp:=hS.wr.in
    have HX0:=aA (BX.new hN hwp)
    have HS0:=aA (hS.alloc (.cells (RA t ka kc) 25))
    obtain⟨W0,hW0⟩:∃W0,W0=w.alloc (.cells (RA t ka kc) 25):=⟨_,rfl⟩
    rw[←hW0] at HX0 HS0
    have HW:Hid (W0=w.alloc (.cells #[.string t.kind,.string t.word,.int .i64 t.num,.slice ka t.kids.length kc] 25)):=hW0
    obtain⟨R,hR⟩:∃R,R=cE t s:=⟨_,rfl⟩
    rw[←hR]
    rw[yE (.inl (fA h0 rfl)),e] at hR
    have HR:=aA hR
    obtain⟨c0,c1,c2,c3⟩:=HX0.out.cells
    have HRn:Hid (R=none):=by show _=_;rw[hR];try cases PA s<;>rfl
    clear hR hW0 hN e
    unfold RA
    (obtain rfl:R=none:=HRn.out)
    go_enter Tryz.func98,Tryz.ntmps98
    go_upto_region 1 with fail
    rw[←HW.out]
    go_wp2_with (first
    |(go_at_call 92;refine(NB (i:=1) HS4.out.wr HKn.out).mono ?_;rintro e W5 ⟨⟨p,rfl⟩,hb⟩;exact(show _∧_ from⟨rfl,HS4.out.fr.trans (WFr.of hb (Nat.le_of_lt HS4.out.wr.in)),⟨_,rfl⟩⟩))
    |(go_at_call 45;refine(XA HS3.out.wr z0).mono ?_;rintro e W4 ⟨hf,hr⟩;revert hr;(split);(·rintro ⟨p,rfl⟩;exact(show _∧_ from⟨rfl,HS3.out.fr.trans hf,⟨_,rfl⟩⟩));rintro ⟨rfl,hr⟩;(have HS4:=aA (HS3.out.step hf hr));(have HX4:=aA (HX3.out.step hf));(obtain⟨c0,c1,c2,c3⟩:=HX4.out.cells);clear hf hr)
    |(go_at_call 98;refine(HIa.out _ _ _ _ _ _ 0 (by first|rfl|simp|omega) HS2.out.here HNa.out (by first|omega|decide)).mono ?_;rintro e W3 ⟨hf,hr⟩;revert hr;(split);(·rintro ⟨p,rfl⟩;exact(show _∧_ from⟨rfl,HS2.out.fr.trans hf,⟨_,rfl⟩⟩));rintro ⟨rfl,hr⟩;(have HS3:=aA (HS2.out.step hf hr));(have HX3:=aA (HX2.out.step hf));(obtain⟨c0,c1,c2,c3⟩:=HX3.out.cells);clear hf hr)
    |(go_at_call 92;revert HX1;intro HX1;(obtain⟨ka0,kc0,hnt,hcall⟩:=ZA (i:=0) HX1.out.nt HKa.out);refine hcall.mono ?_;rintro e W2 ⟨rfl,hb⟩;(have HS2:=aA (HS1.out.grow hb));(have HX2:=aA (HX1.out.step (WFr.of hb (Nat.le_of_lt HS1.out.wr.in))));(have HNa:=aA (hnt.step (P':=(·<wp)) (fun k hk=>⟨hb.block k (Nat.lt_trans hk HS1.out.wr.in),hk⟩)));(obtain⟨c0,c1,c2,c3⟩:=HX2.out.cells);clear hb hnt hcall)
    |(go_at_call 91;refine(xB HS0.out.wr).mono ?_;rintro e W1 ⟨hf,hr⟩;revert hr;(split);(·rintro ⟨p,rfl⟩;exact(show _∧_ from⟨rfl,HS0.out.fr.trans hf,⟨_,rfl⟩⟩));rintro ⟨rfl,hr⟩;(have HS1:=aA (HS0.out.step hf hr));(have HX1:=aA (HX0.out.step hf));(obtain⟨c0,c1,c2,c3⟩:=HX1.out.cells);clear hf hr)
    |(go_at_call 125;refine(HLv.out _).mono ?_;rintro e w' ⟨rfl,h9⟩;subst w'))
  |a::b::r=>
   have HKa:Hid (t.kids[0]?=some a):=by show _=_;rw[e];rfl
   have HIa:=aA (ih 0 a HKa.out)
   have HKb:Hid (t.kids[1]?=some b):=by show _=_;rw[e];rfl
   have HIb:=aA (ih 1 b HKb.out)
   obtain⟨z0,z1,n0,n1,hOk⟩:=hO.is
   have hwp:=hS.wr.in
   have HX0:=aA (BX.new hN hwp)
   have HS0:=aA (hS.alloc (.cells (RA t ka kc) 25))
   obtain⟨W0,hW0⟩:∃W0,W0=w.alloc (.cells (RA t ka kc) 25):=⟨_,rfl⟩
   rw[←hW0] at HX0 HS0
   have HW:Hid (W0=w.alloc (.cells #[.string t.kind,.string t.word,.int .i64 t.num,.slice ka t.kids.length kc] 25)):=hW0
   obtain⟨R,hR⟩:∃R,R=cE t s:=⟨_,rfl⟩
   rw[←hR]
   rw[yE (.inl (fA h0 rfl)),e] at hR
   have HR:=aA hR
   obtain⟨c0,c1,c2,c3⟩:=HX0.out.cells
   clear hR hW0 hN e
   unfold RA
   go_enter Tryz.func98,Tryz.ntmps98
   go_upto_region 1 with fail
   rw[←HW.out]
   go_wp2_with (first
   |(go_at_call 94;refine(qD HS6.out.wr (by omega)).mono ?_;rintro e W7 ⟨hf,rfl,hr⟩;(have HZ:=aA (aI (HS6.out.fr.trans hf) hr));clear hf hr)
   |(go_at_call 98;refine(HIb.out _ _ _ _ _ _ 1 (by first|rfl|simp|omega) HS5.out.here HNb.out (by first|omega|decide)).mono ?_;rintro e W6 ⟨hf,hr⟩;rcases hq3:uD b 1 s3 with _|s4;(·rw[hq3] at hr;(obtain⟨p,rfl⟩:=hr);(obtain rfl:R=none:=(by rw[HR.out,hq3];try rfl));exact(show _∧_ from⟨rfl,HS5.out.fr.trans hf,⟨_,rfl⟩⟩));rw[hq3] at hr;(obtain⟨rfl,hr⟩:=hr);(have HS6:=aA (HS5.out.step hf hr));(have HX6:=aA (HX5.out.step hf));(obtain⟨c0,c1,c2,c3⟩:=HX6.out.cells);rw[hq3] at HR;(have hd4:=oD hq3);clear hf hr)
   |(go_at_call 92;revert HX4;intro HX4;(obtain⟨ka1,kc1,hnt,hcall⟩:=ZA (i:=1) HX4.out.nt HKb.out);refine hcall.mono ?_;rintro e W5 ⟨rfl,hb⟩;(have HS5:=aA (HS4.out.grow hb));(have HX5:=aA (HX4.out.step (WFr.of hb (Nat.le_of_lt HS4.out.wr.in))));(have HNb:=aA (hnt.step (P':=(·<wp)) (fun k hk=>⟨hb.block k (Nat.lt_trans hk HS4.out.wr.in),hk⟩)));(obtain⟨c0,c1,c2,c3⟩:=HX5.out.cells);clear hb hnt hcall)
   |(go_at_call 45;refine(XA HS3.out.wr z0).mono ?_;rintro e W4 ⟨hf,hr⟩;rcases hq2:MA s2 t.kind with _|s3;(·rw[hq2] at hr;(obtain⟨p,rfl⟩:=hr);(obtain rfl:R=none:=(by rw[HR.out,hq2];try rfl));exact(show _∧_ from⟨rfl,HS3.out.fr.trans hf,⟨_,rfl⟩⟩));rw[hq2] at hr;(obtain⟨rfl,hr⟩:=hr);(have HS4:=aA (HS3.out.step hf hr));(have HX4:=aA (HX3.out.step hf));(obtain⟨c0,c1,c2,c3⟩:=HX4.out.cells);rw[hq2,Option.bind_some] at HR;(have hd3:=aB hq2);clear hf hr)
   |(go_at_call 98;refine(HIa.out _ _ _ _ _ _ 0 (by first|rfl|simp|omega) HS2.out.here HNa.out (by first|omega|decide)).mono ?_;rintro e W3 ⟨hf,hr⟩;rcases hq1:uD a 0 s1 with _|s2;(·rw[hq1] at hr;(obtain⟨p,rfl⟩:=hr);(obtain rfl:R=none:=(by rw[HR.out,hq1];try rfl));exact(show _∧_ from⟨rfl,HS2.out.fr.trans hf,⟨_,rfl⟩⟩));rw[hq1] at hr;(obtain⟨rfl,hr⟩:=hr);(have HS3:=aA (HS2.out.step hf hr));(have HX3:=aA (HX2.out.step hf));(obtain⟨c0,c1,c2,c3⟩:=HX3.out.cells);rw[hq1,Option.bind_some] at HR;(have hd2:=oD hq1);clear hf hr)
   |(go_at_call 92;revert HX1;intro HX1;(obtain⟨ka0,kc0,hnt,hcall⟩:=ZA (i:=0) HX1.out.nt HKa.out);refine hcall.mono ?_;rintro e W2 ⟨rfl,hb⟩;(have HS2:=aA (HS1.out.grow hb));(have HX2:=aA (HX1.out.step (WFr.of hb (Nat.le_of_lt HS1.out.wr.in))));(have HNa:=aA (hnt.step (P':=(·<wp)) (fun k hk=>⟨hb.block k (Nat.lt_trans hk HS1.out.wr.in),hk⟩)));(obtain⟨c0,c1,c2,c3⟩:=HX2.out.cells);clear hb hnt hcall)
   |(go_at_call 91;refine(xB HS0.out.wr).mono ?_;rintro e W1 ⟨hf,hr⟩;rcases hq0:PA s with _|s1;(·rw[hq0] at hr;(obtain⟨p,rfl⟩:=hr);(obtain rfl:R=none:=(by rw[HR.out,hq0];try rfl));exact(show _∧_ from⟨rfl,HS0.out.fr.trans hf,⟨_,rfl⟩⟩));rw[hq0] at hr;(obtain⟨rfl,hr⟩:=hr);(have HS1:=aA (HS0.out.step hf hr));(have HX1:=aA (HX0.out.step hf));(obtain⟨c0,c1,c2,c3⟩:=HX1.out.cells);rw[hq0,Option.bind_some] at HR;(have hd1:=fD hq0);clear hf hr)
   |(go_at_call 125;refine(HLv.out _).mono ?_;rintro e w' ⟨rfl,h9⟩;subst w'))
   go_end0
   (obtain rfl:R=some (eC s4):=HR.out)
   exact⟨HZ.out.1,rfl,HZ.out.2⟩
 cases h1:(t.kind.toList==[45])
 rotate_left
 ·have hL:xL t.kind=0:=by unfold xL;rw[if_pos (.inr (fA h1 rfl))]
  have HLv:=aA (fun W=>PD t.kind W)
  rw[hL] at HLv
  have hll:¬(0:Int)<l:=by omega
  match e:t.kids with
  | []=>
    have HKn:Hid (t.kids[0]?=none):=by show _=_;rw[e];rfl
    obtain⟨z0,z1,n0,n1,hOk⟩:=hO.is
    have hwp:=hS.wr.in
    have HX0:=aA (BX.new hN hwp)
    have HS0:=aA (hS.alloc (.cells (RA t ka kc) 25))
    obtain⟨W0,hW0⟩:∃W0,W0=w.alloc (.cells (RA t ka kc) 25):=⟨_,rfl⟩
    rw[←hW0] at HX0 HS0
    have HW:Hid (W0=w.alloc (.cells #[.string t.kind,.string t.word,.int .i64 t.num,.slice ka t.kids.length kc] 25)):=hW0
    obtain⟨R,hR⟩:∃R,R=cE t s:=⟨_,rfl⟩
    rw[←hR]
    rw[yE (.inr (fA h1 rfl)),e] at hR
    have HR:=aA hR
    obtain⟨c0,c1,c2,c3⟩:=HX0.out.cells
    have HRn:Hid (R=none):=by show _=_;rw[hR];try cases PA s<;>rfl
    clear hR hW0 hN e
    unfold RA
    (obtain rfl:R=none:=HRn.out)
    go_enter Tryz.func98,Tryz.ntmps98
    go_upto_region 1 with fail
    rw[←HW.out]
    go_wp2_with (first
    |(go_at_call 92;refine(NB (i:=0) HS1.out.wr HKn.out).mono ?_;rintro e W2 ⟨⟨p,rfl⟩,hb⟩;exact(show _∧_ from⟨rfl,HS1.out.fr.trans (WFr.of hb (Nat.le_of_lt HS1.out.wr.in)),⟨_,rfl⟩⟩))
    |(go_at_call 91;refine(xB HS0.out.wr).mono ?_;rintro e W1 ⟨hf,hr⟩;revert hr;(split);(·rintro ⟨p,rfl⟩;exact(show _∧_ from⟨rfl,HS0.out.fr.trans hf,⟨_,rfl⟩⟩));rintro ⟨rfl,hr⟩;(have HS1:=aA (HS0.out.step hf hr));(have HX1:=aA (HX0.out.step hf));(obtain⟨c0,c1,c2,c3⟩:=HX1.out.cells);clear hf hr)
    |(go_at_call 125;refine(HLv.out _).mono ?_;rintro e w' ⟨rfl,h9⟩;subst w'))
  | [a]=>
    have HKa:Hid (t.kids[0]?=some a):=by show _=_;rw[e];rfl
    have HIa:=aA (ih 0 a HKa.out)
    have HKn:Hid (t.kids[1]?=none):=by show _=_;rw[e];rfl
    obtain⟨z0,z1,n0,n1,hOk⟩:=hO.is
    have hwp:=hS.wr.in
    have HX0:=aA (BX.new hN hwp)
    have HS0:=aA (hS.alloc (.cells (RA t ka kc) 25))
    obtain⟨W0,hW0⟩:∃W0,W0=w.alloc (.cells (RA t ka kc) 25):=⟨_,rfl⟩
    rw[←hW0] at HX0 HS0
    have HW:Hid (W0=w.alloc (.cells #[.string t.kind,.string t.word,.int .i64 t.num,.slice ka t.kids.length kc] 25)):=hW0
    obtain⟨R,hR⟩:∃R,R=cE t s:=⟨_,rfl⟩
    rw[←hR]
    rw[yE (.inr (fA h1 rfl)),e] at hR
    have HR:=aA hR
    obtain⟨c0,c1,c2,c3⟩:=HX0.out.cells
    have HRn:Hid (R=none):=by show _=_;rw[hR];try cases PA s<;>rfl
    clear hR hW0 hN e
    unfold RA
    (obtain rfl:R=none:=HRn.out)
    go_enter Tryz.func98,Tryz.ntmps98
    go_upto_region 1 with fail
    rw[←HW.out]
    go_wp2_with (first
    |(go_at_call 92;refine(NB (i:=1) HS4.out.wr HKn.out).mono ?_;rintro e W5 ⟨⟨p,rfl⟩,hb⟩;exact(show _∧_ from⟨rfl,HS4.out.fr.trans (WFr.of hb (Nat.le_of_lt HS4.out.wr.in)),⟨_,rfl⟩⟩))
    |(go_at_call 45;refine(XA HS3.out.wr z0).mono ?_;rintro e W4 ⟨hf,hr⟩;revert hr;(split);(·rintro ⟨p,rfl⟩;exact(show _∧_ from⟨rfl,HS3.out.fr.trans hf,⟨_,rfl⟩⟩));rintro ⟨rfl,hr⟩;(have HS4:=aA (HS3.out.step hf hr));(have HX4:=aA (HX3.out.step hf));(obtain⟨c0,c1,c2,c3⟩:=HX4.out.cells);clear hf hr)
    |(go_at_call 98;refine(HIa.out _ _ _ _ _ _ 0 (by first|rfl|simp|omega) HS2.out.here HNa.out (by first|omega|decide)).mono ?_;rintro e W3 ⟨hf,hr⟩;revert hr;(split);(·rintro ⟨p,rfl⟩;exact(show _∧_ from⟨rfl,HS2.out.fr.trans hf,⟨_,rfl⟩⟩));rintro ⟨rfl,hr⟩;(have HS3:=aA (HS2.out.step hf hr));(have HX3:=aA (HX2.out.step hf));(obtain⟨c0,c1,c2,c3⟩:=HX3.out.cells);clear hf hr)
    |(go_at_call 92;revert HX1;intro HX1;(obtain⟨ka0,kc0,hnt,hcall⟩:=ZA (i:=0) HX1.out.nt HKa.out);refine hcall.mono ?_;rintro e W2 ⟨rfl,hb⟩;(have HS2:=aA (HS1.out.grow hb));(have HX2:=aA (HX1.out.step (WFr.of hb (Nat.le_of_lt HS1.out.wr.in))));(have HNa:=aA (hnt.step (P':=(·<wp)) (fun k hk=>⟨hb.block k (Nat.lt_trans hk HS1.out.wr.in),hk⟩)));(obtain⟨c0,c1,c2,c3⟩:=HX2.out.cells);clear hb hnt hcall)
    |(go_at_call 91;refine(xB HS0.out.wr).mono ?_;rintro e W1 ⟨hf,hr⟩;revert hr;(split);(·rintro ⟨p,rfl⟩;exact(show _∧_ from⟨rfl,HS0.out.fr.trans hf,⟨_,rfl⟩⟩));rintro ⟨rfl,hr⟩;(have HS1:=aA (HS0.out.step hf hr));(have HX1:=aA (HX0.out.step hf));(obtain⟨c0,c1,c2,c3⟩:=HX1.out.cells);clear hf hr)
    |(go_at_call 125;refine(HLv.out _).mono ?_;rintro e w' ⟨rfl,h9⟩;subst w'))
  |a::b::r=>
   have HKa:Hid (t.kids[0]?=some a):=by show _=_;rw[e];rfl
   have HIa:=aA (ih 0 a HKa.out)
   have HKb:Hid (t.kids[1]?=some b):=by show _=_;rw[e];rfl
   have HIb:=aA (ih 1 b HKb.out)
   obtain⟨z0,z1,n0,n1,hOk⟩:=hO.is
   have hwp:=hS.wr.in
   have HX0:=aA (BX.new hN hwp)
   have HS0:=aA (hS.alloc (.cells (RA t ka kc) 25))
   obtain⟨W0,hW0⟩:∃W0,W0=w.alloc (.cells (RA t ka kc) 25):=⟨_,rfl⟩
   rw[←hW0] at HX0 HS0
   have HW:Hid (W0=w.alloc (.cells #[.string t.kind,.string t.word,.int .i64 t.num,.slice ka t.kids.length kc] 25)):=hW0
   obtain⟨R,hR⟩:∃R,R=cE t s:=⟨_,rfl⟩
   rw[←hR]
   rw[yE (.inr (fA h1 rfl)),e] at hR
   have HR:=aA hR
   obtain⟨c0,c1,c2,c3⟩:=HX0.out.cells
   clear hR hW0 hN e
   unfold RA
   go_enter Tryz.func98,Tryz.ntmps98
   go_upto_region 1 with fail
   rw[←HW.out]
   go_wp2_with (first
   |(go_at_call 94;refine(qD HS6.out.wr (by omega)).mono ?_;rintro e W7 ⟨hf,rfl,hr⟩;(have HZ:=aA (aI (HS6.out.fr.trans hf) hr));clear hf hr)
   |(go_at_call 98;refine(HIb.out _ _ _ _ _ _ 1 (by first|rfl|simp|omega) HS5.out.here HNb.out (by first|omega|decide)).mono ?_;rintro e W6 ⟨hf,hr⟩;rcases hq3:uD b 1 s3 with _|s4;(·rw[hq3] at hr;(obtain⟨p,rfl⟩:=hr);(obtain rfl:R=none:=(by rw[HR.out,hq3];try rfl));exact(show _∧_ from⟨rfl,HS5.out.fr.trans hf,⟨_,rfl⟩⟩));rw[hq3] at hr;(obtain⟨rfl,hr⟩:=hr);(have HS6:=aA (HS5.out.step hf hr));(have HX6:=aA (HX5.out.step hf));(obtain⟨c0,c1,c2,c3⟩:=HX6.out.cells);rw[hq3] at HR;(have hd4:=oD hq3);clear hf hr)
   |(go_at_call 92;revert HX4;intro HX4;(obtain⟨ka1,kc1,hnt,hcall⟩:=ZA (i:=1) HX4.out.nt HKb.out);refine hcall.mono ?_;rintro e W5 ⟨rfl,hb⟩;(have HS5:=aA (HS4.out.grow hb));(have HX5:=aA (HX4.out.step (WFr.of hb (Nat.le_of_lt HS4.out.wr.in))));(have HNb:=aA (hnt.step (P':=(·<wp)) (fun k hk=>⟨hb.block k (Nat.lt_trans hk HS4.out.wr.in),hk⟩)));(obtain⟨c0,c1,c2,c3⟩:=HX5.out.cells);clear hb hnt hcall)
   |(go_at_call 45;refine(XA HS3.out.wr z0).mono ?_;rintro e W4 ⟨hf,hr⟩;rcases hq2:MA s2 t.kind with _|s3;(·rw[hq2] at hr;(obtain⟨p,rfl⟩:=hr);(obtain rfl:R=none:=(by rw[HR.out,hq2];try rfl));exact(show _∧_ from⟨rfl,HS3.out.fr.trans hf,⟨_,rfl⟩⟩));rw[hq2] at hr;(obtain⟨rfl,hr⟩:=hr);(have HS4:=aA (HS3.out.step hf hr));(have HX4:=aA (HX3.out.step hf));(obtain⟨c0,c1,c2,c3⟩:=HX4.out.cells);rw[hq2,Option.bind_some] at HR;(have hd3:=aB hq2);clear hf hr)
   |(go_at_call 98;refine(HIa.out _ _ _ _ _ _ 0 (by first|rfl|simp|omega) HS2.out.here HNa.out (by first|omega|decide)).mono ?_;rintro e W3 ⟨hf,hr⟩;rcases hq1:uD a 0 s1 with _|s2;(·rw[hq1] at hr;(obtain⟨p,rfl⟩:=hr);(obtain rfl:R=none:=(by rw[HR.out,hq1];try rfl));exact(show _∧_ from⟨rfl,HS2.out.fr.trans hf,⟨_,rfl⟩⟩));rw[hq1] at hr;(obtain⟨rfl,hr⟩:=hr);(have HS3:=aA (HS2.out.step hf hr));(have HX3:=aA (HX2.out.step hf));(obtain⟨c0,c1,c2,c3⟩:=HX3.out.cells);rw[hq1,Option.bind_some] at HR;(have hd2:=oD hq1);clear hf hr)
   |(go_at_call 92;revert HX1;intro HX1;(obtain⟨ka0,kc0,hnt,hcall⟩:=ZA (i:=0) HX1.out.nt HKa.out);refine hcall.mono ?_;rintro e W2 ⟨rfl,hb⟩;(have HS2:=aA (HS1.out.grow hb));(have HX2:=aA (HX1.out.step (WFr.of hb (Nat.le_of_lt HS1.out.wr.in))));(have HNa:=aA (hnt.step (P':=(·<wp)) (fun k hk=>⟨hb.block k (Nat.lt_trans hk HS1.out.wr.in),hk⟩)));(obtain⟨c0,c1,c2,c3⟩:=HX2.out.cells);clear hb hnt hcall)
   |(go_at_call 91;refine(xB HS0.out.wr).mono ?_;rintro e W1 ⟨hf,hr⟩;rcases hq0:PA s with _|s1;(·rw[hq0] at hr;(obtain⟨p,rfl⟩:=hr);(obtain rfl:R=none:=(by rw[HR.out,hq0];try rfl));exact(show _∧_ from⟨rfl,HS0.out.fr.trans hf,⟨_,rfl⟩⟩));rw[hq0] at hr;(obtain⟨rfl,hr⟩:=hr);(have HS1:=aA (HS0.out.step hf hr));(have HX1:=aA (HX0.out.step hf));(obtain⟨c0,c1,c2,c3⟩:=HX1.out.cells);rw[hq0,Option.bind_some] at HR;(have hd1:=fD hq0);clear hf hr)
   |(go_at_call 125;refine(HLv.out _).mono ?_;rintro e w' ⟨rfl,h9⟩;subst w'))
   go_end0
   (obtain rfl:R=some (eC s4):=HR.out)
   exact⟨HZ.out.1,rfl,HZ.out.2⟩
 cases h2:(t.kind.toList==[42])
 rotate_left
 ·have hL:xL t.kind=1:=by unfold xL;rw[if_neg (by rw[fA h0 (x:=sg 43) rfl,fA h1 (x:=sg 45) rfl];simp),if_pos (fA h2 rfl)]
  have HLv:=aA (fun W=>PD t.kind W)
  rw[hL] at HLv
  have hll:¬(1:Int)<l:=by omega
  match e:t.kids with
  | []=>
    have HKn:Hid (t.kids[0]?=none):=by show _=_;rw[e];rfl
    obtain⟨z0,z1,n0,n1,hOk⟩:=hO.is
    have hwp:=hS.wr.in
    have HX0:=aA (BX.new hN hwp)
    have HS0:=aA (hS.alloc (.cells (RA t ka kc) 25))
    obtain⟨W0,hW0⟩:∃W0,W0=w.alloc (.cells (RA t ka kc) 25):=⟨_,rfl⟩
    rw[←hW0] at HX0 HS0
    have HW:Hid (W0=w.alloc (.cells #[.string t.kind,.string t.word,.int .i64 t.num,.slice ka t.kids.length kc] 25)):=hW0
    obtain⟨R,hR⟩:∃R,R=cE t s:=⟨_,rfl⟩
    rw[←hR]
    rw[QH (by rw[fA h0 (x:=sg 43) rfl,fA h1 (x:=sg 45) rfl];simp) (fA h2 rfl),e] at hR
    have HR:=aA hR
    obtain⟨c0,c1,c2,c3⟩:=HX0.out.cells
    have HRn:Hid (R=none):=by show _=_;rw[hR];try cases PA s<;>rfl
    clear hR hW0 hN e
    unfold RA
    (obtain rfl:R=none:=HRn.out)
    go_enter Tryz.func98,Tryz.ntmps98
    go_upto_region 1 with fail
    rw[←HW.out]
    go_wp2_with (first
    |(go_at_call 92;refine(NB (i:=0) HS1.out.wr HKn.out).mono ?_;rintro e W2 ⟨⟨p,rfl⟩,hb⟩;exact(show _∧_ from⟨rfl,HS1.out.fr.trans (WFr.of hb (Nat.le_of_lt HS1.out.wr.in)),⟨_,rfl⟩⟩))
    |(go_at_call 91;refine(xB HS0.out.wr).mono ?_;rintro e W1 ⟨hf,hr⟩;revert hr;(split);(·rintro ⟨p,rfl⟩;exact(show _∧_ from⟨rfl,HS0.out.fr.trans hf,⟨_,rfl⟩⟩));rintro ⟨rfl,hr⟩;(have HS1:=aA (HS0.out.step hf hr));(have HX1:=aA (HX0.out.step hf));(obtain⟨c0,c1,c2,c3⟩:=HX1.out.cells);clear hf hr)
    |(go_at_call 125;refine(HLv.out _).mono ?_;rintro e w' ⟨rfl,h9⟩;subst w'))
  |a::r=>
   have HKa:Hid (t.kids[0]?=some a):=by show _=_;rw[e];rfl
   have HIa:=aA (ih 0 a HKa.out)
   obtain⟨z0,z1,n0,n1,hOk⟩:=hO.is
   have hwp:=hS.wr.in
   have HX0:=aA (BX.new hN hwp)
   have HS0:=aA (hS.alloc (.cells (RA t ka kc) 25))
   obtain⟨W0,hW0⟩:∃W0,W0=w.alloc (.cells (RA t ka kc) 25):=⟨_,rfl⟩
   rw[←hW0] at HX0 HS0
   have HW:Hid (W0=w.alloc (.cells #[.string t.kind,.string t.word,.int .i64 t.num,.slice ka t.kids.length kc] 25)):=hW0
   obtain⟨R,hR⟩:∃R,R=cE t s:=⟨_,rfl⟩
   rw[←hR]
   rw[QH (by rw[fA h0 (x:=sg 43) rfl,fA h1 (x:=sg 45) rfl];simp) (fA h2 rfl),e] at hR
   have HR:=aA hR
   obtain⟨c0,c1,c2,c3⟩:=HX0.out.cells
   clear hR hW0 hN e
   unfold RA
   go_enter Tryz.func98,Tryz.ntmps98
   go_upto_region 1 with fail
   rw[←HW.out]
   go_wp2_with (first
   |(go_at_call 94;refine(qD HS5.out.wr (by omega)).mono ?_;rintro e W6 ⟨hf,rfl,hr⟩;(have HZ:=aA (aI (HS5.out.fr.trans hf) hr));clear hf hr)
   |(go_at_call 45;refine(VE HS4.out.wr (x:=sg 42) (by decide) (JJ n0 n1) (z:=sg 37) (by decide)).mono ?_;rintro e W5 ⟨hf,hr⟩;rcases hq2:CA s2 [sg 42,bJ t.num,sg 37] with _|s3;(·rw[hq2] at hr;(obtain⟨p,rfl⟩:=hr);(obtain rfl:R=none:=(by rw[HR.out,hq2];try rfl));exact(show _∧_ from⟨rfl,HS4.out.fr.trans hf,⟨_,rfl⟩⟩));rw[hq2] at hr;(obtain⟨rfl,hr⟩:=hr);(have HS5:=aA (HS4.out.step hf hr));(have HX5:=aA (HX4.out.step hf));(obtain⟨c0,c1,c2,c3⟩:=HX5.out.cells);rw[hq2] at HR;(have hd3:=JC hq2);clear hf hr)
   |(go_at_call 126;refine(KH HS3.out.tb n0 n1).mono ?_;rintro e W4 ⟨rfl,hb⟩;(have HS4:=aA (HS3.out.grow hb));(have HX4:=aA (HX3.out.step (WFr.of hb (Nat.le_of_lt HS3.out.wr.in))));(obtain⟨c0,c1,c2,c3⟩:=HX4.out.cells);clear hb)
   |(go_at_call 98;refine(HIa.out _ _ _ _ _ _ 1 (by first|rfl|simp|omega) HS2.out.here HNa.out (by first|omega|decide)).mono ?_;rintro e W3 ⟨hf,hr⟩;rcases hq1:uD a 1 s1 with _|s2;(·rw[hq1] at hr;(obtain⟨p,rfl⟩:=hr);(obtain rfl:R=none:=(by rw[HR.out,hq1];try rfl));exact(show _∧_ from⟨rfl,HS2.out.fr.trans hf,⟨_,rfl⟩⟩));rw[hq1] at hr;(obtain⟨rfl,hr⟩:=hr);(have HS3:=aA (HS2.out.step hf hr));(have HX3:=aA (HX2.out.step hf));(obtain⟨c0,c1,c2,c3⟩:=HX3.out.cells);rw[hq1,Option.bind_some] at HR;(have hd2:=oD hq1);clear hf hr)
   |(go_at_call 92;revert HX1;intro HX1;(obtain⟨ka0,kc0,hnt,hcall⟩:=ZA (i:=0) HX1.out.nt HKa.out);refine hcall.mono ?_;rintro e W2 ⟨rfl,hb⟩;(have HS2:=aA (HS1.out.grow hb));(have HX2:=aA (HX1.out.step (WFr.of hb (Nat.le_of_lt HS1.out.wr.in))));(have HNa:=aA (hnt.step (P':=(·<wp)) (fun k hk=>⟨hb.block k (Nat.lt_trans hk HS1.out.wr.in),hk⟩)));(obtain⟨c0,c1,c2,c3⟩:=HX2.out.cells);clear hb hnt hcall)
   |(go_at_call 91;refine(xB HS0.out.wr).mono ?_;rintro e W1 ⟨hf,hr⟩;rcases hq0:PA s with _|s1;(·rw[hq0] at hr;(obtain⟨p,rfl⟩:=hr);(obtain rfl:R=none:=(by rw[HR.out,hq0];try rfl));exact(show _∧_ from⟨rfl,HS0.out.fr.trans hf,⟨_,rfl⟩⟩));rw[hq0] at hr;(obtain⟨rfl,hr⟩:=hr);(have HS1:=aA (HS0.out.step hf hr));(have HX1:=aA (HX0.out.step hf));(obtain⟨c0,c1,c2,c3⟩:=HX1.out.cells);rw[hq0,Option.bind_some] at HR;(have hd1:=fD hq0);clear hf hr)
   |(go_at_call 125;refine(HLv.out _).mono ?_;rintro e w' ⟨rfl,h9⟩;subst w'))
   go_end0
   (obtain rfl:R=some (eC s3):=HR.out)
   exact⟨HZ.out.1,rfl,HZ.out.2⟩
 have hL:xL t.kind=2:=by unfold xL;rw[if_neg (by rw[fA h0 (x:=sg 43) rfl,fA h1 (x:=sg 45) rfl];simp),if_neg (by rw[fA h2 (x:=sg 42) rfl];simp)]
 have HLv:=aA (fun W=>PD t.kind W)
 rw[hL] at HLv
 have hll:¬(2:Int)<l:=by omega
 obtain⟨z0,z1,n0,n1,hOk⟩:=hO.is
 have hwp:=hS.wr.in
 have HX0:=aA (BX.new hN hwp)
 have HS0:=aA (hS.alloc (.cells (RA t ka kc) 25))
 obtain⟨W0,hW0⟩:∃W0,W0=w.alloc (.cells (RA t ka kc) 25):=⟨_,rfl⟩
 rw[←hW0] at HX0 HS0
 have HW:Hid (W0=w.alloc (.cells #[.string t.kind,.string t.word,.int .i64 t.num,.slice ka t.kids.length kc] 25)):=hW0
 obtain⟨R,hR⟩:∃R,R=cE t s:=⟨_,rfl⟩
 rw[←hR]
 rw[oJ (by rw[fA h0 (x:=sg 43) rfl,fA h1 (x:=sg 45) rfl];simp) (by rw[fA h2 (x:=sg 42) rfl];simp)] at hR
 have HR:=aA hR
 obtain⟨c0,c1,c2,c3⟩:=HX0.out.cells
 clear hR hW0 hN
 unfold RA
 go_enter Tryz.func98,Tryz.ntmps98
 go_upto_region 1 with fail
 rw[←HW.out]
 go_wp2_with (first
  |(go_at_call 94;refine(qD HS2.out.wr (by omega)).mono ?_;rintro e W3 ⟨hf,rfl,hr⟩;(have HZ:=aA (aI (HS2.out.fr.trans hf) hr));clear hf hr)
  |(go_at_call 127;refine(hF _ _ _ _ _ HS1.out.here HX1.out.nt).mono ?_;rintro e W2 ⟨hf,hr⟩;rcases hq1:ID t s1 with _|s2;(·rw[hq1] at hr;(obtain⟨p,rfl⟩:=hr);(obtain rfl:R=none:=(by rw[HR.out,hq1];try rfl));exact(show _∧_ from⟨rfl,HS1.out.fr.trans hf,⟨_,rfl⟩⟩));rw[hq1] at hr;(obtain⟨rfl,hr⟩:=hr);(have HS2:=aA (HS1.out.step hf hr));(have HX2:=aA (HX1.out.step hf));(obtain⟨c0,c1,c2,c3⟩:=HX2.out.cells);rw[hq1] at HR;(have hd2:=PU hq1);clear hf hr)
  |(go_at_call 91;refine(xB HS0.out.wr).mono ?_;rintro e W1 ⟨hf,hr⟩;rcases hq0:PA s with _|s1;(·rw[hq0] at hr;(obtain⟨p,rfl⟩:=hr);(obtain rfl:R=none:=(by rw[HR.out,hq0];try rfl));exact(show _∧_ from⟨rfl,HS0.out.fr.trans hf,⟨_,rfl⟩⟩));rw[hq0] at hr;(obtain⟨rfl,hr⟩:=hr);(have HS1:=aA (HS0.out.step hf hr));(have HX1:=aA (HX0.out.step hf));(obtain⟨c0,c1,c2,c3⟩:=HX1.out.cells);rw[hq0,Option.bind_some] at HR;(have hd1:=fD hq0);clear hf hr)
  |(go_at_call 125;refine(HLv.out _).mono ?_;rintro e w' ⟨rfl,h9⟩;subst w'))
 go_end0
 (obtain rfl:R=some (eC s2):=HR.out)
 exact⟨HZ.out.1,rfl,HZ.out.2⟩
theorem wV{t:Tn}(hO:TnOk t)(hB:AU t):wO t:=by
 intro w wp s ka kc l lv hl hS hN hlv
 by_cases hlt:xL t.kind<lv
 case neg=>
  have e:uD t lv s=cE t s:=by unfold uD wP;rw[if_neg hlt]
  rw[e]
  exact hB w wp s ka kc l lv hl hS hN (by omega)
 case pos=>
  have e:uD t lv s=(MA s (sg 91)).bind fun s=>(cE t s).bind fun s=>MA s (sg 93):=by unfold uD wP;rw[if_pos hlt]
  have HLv:=aA (fun W=>PD t.kind W)
  have hlb:=VU t.kind
  generalize hLL:xL t.kind=LL at *
  have hll:(LL:Int)<l:=by omega
  have HB:Hid (AU t):=hB
  obtain⟨z0,z1,n0,n1,hOk⟩:=hO.is
  have hwp:=hS.wr.in
  have HX0:=aA (BX.new hN hwp)
  have HS0:=aA (hS.alloc (.cells (RA t ka kc) 25))
  obtain⟨W0,hW0⟩:∃W0,W0=w.alloc (.cells (RA t ka kc) 25):=⟨_,rfl⟩
  rw[←hW0] at HX0 HS0
  have HW:Hid (W0=w.alloc (.cells #[.string t.kind,.string t.word,.int .i64 t.num,.slice ka t.kids.length kc] 25)):=hW0
  obtain⟨R,hR⟩:∃R,R=uD t lv s:=⟨_,rfl⟩
  rw[←hR]
  rw[e] at hR
  have HR:=aA hR
  obtain⟨c0,c1,c2,c3⟩:=HX0.out.cells
  clear hR hW0 hN e hlv hlt
  unfold RA
  go_enter Tryz.func98,Tryz.ntmps98
  go_upto_region 1 with fail
  rw[←HW.out]
  go_wp2_with (first
   |(go_at_call 45;refine(XA HS2.out.wr (x:=sg 93) (by decide)).mono ?_;rintro e W3 ⟨hf,hr⟩;rcases hq2:MA s2 (sg 93) with _|s3;(·rw[hq2] at hr;(obtain⟨p,rfl⟩:=hr);(obtain rfl:R=none:=(by rw[HR.out,hq2];try rfl));exact(show _∧_ from⟨rfl,HS2.out.fr.trans hf,⟨_,rfl⟩⟩));rw[hq2] at hr;(obtain⟨rfl,hr⟩:=hr);(have HS3:=aA (HS2.out.step hf hr));(have HX3:=aA (HX2.out.step hf));(obtain⟨c0,c1,c2,c3⟩:=HX3.out.cells);rw[hq2] at HR;(have hd3:=aB hq2);clear hf hr)
   |(go_at_call 98;refine(HB.out _ _ _ _ _ 0 0 rfl HS1.out.here HX1.out.nt (Nat.zero_le _)).mono ?_;rintro e W2 ⟨hf,hr⟩;rcases hq1:cE t s1 with _|s2;(·rw[hq1] at hr;(obtain⟨p,rfl⟩:=hr);(obtain rfl:R=none:=(by rw[HR.out,hq1];try rfl));exact(show _∧_ from⟨rfl,HS1.out.fr.trans hf,⟨_,rfl⟩⟩));rw[hq1] at hr;(obtain⟨rfl,hr⟩:=hr);(have HS2:=aA (HS1.out.step hf hr));(have HX2:=aA (HX1.out.step hf));(obtain⟨c0,c1,c2,c3⟩:=HX2.out.cells);rw[hq1,Option.bind_some] at HR;(have hd2:=GR _ _ rfl _ _ hq1);clear hf hr)
   |(go_at_call 45;refine(XA HS0.out.wr (x:=sg 91) (by decide)).mono ?_;rintro e W1 ⟨hf,hr⟩;rcases hq0:MA s (sg 91) with _|s1;(·rw[hq0] at hr;(obtain⟨p,rfl⟩:=hr);(obtain rfl:R=none:=(by rw[HR.out,hq0];try rfl));exact(show _∧_ from⟨rfl,HS0.out.fr.trans hf,⟨_,rfl⟩⟩));rw[hq0] at hr;(obtain⟨rfl,hr⟩:=hr);(have HS1:=aA (HS0.out.step hf hr));(have HX1:=aA (HX0.out.step hf));(obtain⟨c0,c1,c2,c3⟩:=HX1.out.cells);rw[hq0,Option.bind_some] at HR;(have hd1:=aB hq0);clear hf hr)
   |(go_at_call 125;refine(HLv.out _).mono ?_;rintro e w' ⟨rfl,h9⟩;subst w'))
  first|go_end0|refine bodyPost_ret (results_none rfl _ _ _) rfl ?_
  (obtain rfl:R=some s3:=HR.out)
  exact⟨HS3.out.fr,rfl,HS3.out.wr⟩
theorem rU:∀(n:Nat) (t:Tn),SizeOf.sizeOf t=n→TnOk t→wO t:=by
 intro n
 induction n using Nat.strongRecOn with
 |_ n ih=>
  intro t ht hO
  have ihk:∀(i:Nat) (k:Tn),t.kids[i]?=some k→wO k:=fun i k hk=>ih _ (by have:=gE hk;omega) k rfl (hO.is.2.2.2.2 i k hk)
  exact wV hO (uV hO ihk (dQ hO ihk))
theorem dK{t:Tn}(hO:TnOk t)(ih:∀(i:Nat) (k:Tn),t.kids[i]?=some k→wO k):IV t:=by
 intro w wp s ka kc hS hN
 have HIs:=aA (fun W=>dI t.kind W)
 cases ho:(iA ordersW t.kind).isSome
 ·rw[ho] at HIs
  obtain⟨z0,z1,n0,n1,hOk⟩:=hO.is
  have hwp:=hS.wr.in
  have HX0:=aA (BX.new hN hwp)
  have HS0:=aA (hS.alloc (.cells (RA t ka kc) 25))
  obtain⟨W0,hW0⟩:∃W0,W0=w.alloc (.cells (RA t ka kc) 25):=⟨_,rfl⟩
  rw[←hW0] at HX0 HS0
  have HW:Hid (W0=w.alloc (.cells #[.string t.kind,.string t.word,.int .i64 t.num,.slice ka t.kids.length kc] 25)):=hW0
  obtain⟨R,hR⟩:∃R,R=RG t s:=⟨_,rfl⟩
  rw[←hR]
  rw[RG,if_neg (by rw[ho];simp)] at hR
  have HR:=aA hR
  obtain⟨c0,c1,c2,c3⟩:=HX0.out.cells
  clear hR hW0 hN
  obtain⟨p,ct⟩:=HS0.out.wr.g
  have HT:=aA (fun W=>IE 189 p W)
  unfold RA
  go_enter Tryz.func93,Tryz.ntmps93
  go_upto_region 1 with fail
  rw[←HW.out]
  go_wp2_with (first|(go_at_call 50;refine(HT.out _).mono ?_;rintro e w' ⟨rfl,h9⟩;subst w')|(go_at_call 124;refine(HIs.out _).mono ?_;rintro e w' ⟨rfl,h9⟩;subst w'))
  (obtain rfl:R=none:=HR.out)
  exact⟨rfl,HS0.out.fr,_,rfl⟩
 ·rw[ho] at HIs
  match e:t.kids with
  | []=>
    have HKn:Hid (t.kids[0]?=none):=by show _=_;rw[e];rfl
    obtain⟨z0,z1,n0,n1,hOk⟩:=hO.is
    have hwp:=hS.wr.in
    have HX0:=aA (BX.new hN hwp)
    have HS0:=aA (hS.alloc (.cells (RA t ka kc) 25))
    obtain⟨W0,hW0⟩:∃W0,W0=w.alloc (.cells (RA t ka kc) 25):=⟨_,rfl⟩
    rw[←hW0] at HX0 HS0
    have HW:Hid (W0=w.alloc (.cells #[.string t.kind,.string t.word,.int .i64 t.num,.slice ka t.kids.length kc] 25)):=hW0
    obtain⟨R,hR⟩:∃R,R=RG t s:=⟨_,rfl⟩
    rw[←hR]
    rw[RG,if_pos ho,e] at hR
    have HR:=aA hR
    obtain⟨c0,c1,c2,c3⟩:=HX0.out.cells
    have HRn:Hid (R=none):=by show _=_;rw[hR];try rfl
    clear hR hW0 hN e
    unfold RA
    (obtain rfl:R=none:=HRn.out)
    go_enter Tryz.func93,Tryz.ntmps93
    go_upto_region 1 with fail
    rw[←HW.out]
    go_wp2_with (first
    |(go_at_call 92;refine(NB (i:=0) HS0.out.wr HKn.out).mono ?_;rintro e W1 ⟨⟨p,rfl⟩,hb⟩;exact(show _∧_ from⟨rfl,HS0.out.fr.trans (WFr.of hb (Nat.le_of_lt HS0.out.wr.in)),⟨_,rfl⟩⟩))
    |(go_at_call 124;refine(HIs.out _).mono ?_;rintro e w' ⟨rfl,h9⟩;subst w'))
  | [a]=>
    have HKa:Hid (t.kids[0]?=some a):=by show _=_;rw[e];rfl
    have HIa:=aA (ih 0 a HKa.out)
    have HKn:Hid (t.kids[1]?=none):=by show _=_;rw[e];rfl
    obtain⟨z0,z1,n0,n1,hOk⟩:=hO.is
    have hwp:=hS.wr.in
    have HX0:=aA (BX.new hN hwp)
    have HS0:=aA (hS.alloc (.cells (RA t ka kc) 25))
    obtain⟨W0,hW0⟩:∃W0,W0=w.alloc (.cells (RA t ka kc) 25):=⟨_,rfl⟩
    rw[←hW0] at HX0 HS0
    have HW:Hid (W0=w.alloc (.cells #[.string t.kind,.string t.word,.int .i64 t.num,.slice ka t.kids.length kc] 25)):=hW0
    obtain⟨R,hR⟩:∃R,R=RG t s:=⟨_,rfl⟩
    rw[←hR]
    rw[RG,if_pos ho,e] at hR
    have HR:=aA hR
    obtain⟨c0,c1,c2,c3⟩:=HX0.out.cells
    have HRn:Hid (R=none):=by show _=_;rw[hR];try rfl
    clear hR hW0 hN e
    unfold RA
    (obtain rfl:R=none:=HRn.out)
    go_enter Tryz.func93,Tryz.ntmps93
    go_upto_region 1 with fail
    rw[←HW.out]
    go_wp2_with (first
    |(go_at_call 92;refine(NB (i:=1) HS3.out.wr HKn.out).mono ?_;rintro e W4 ⟨⟨p,rfl⟩,hb⟩;exact(show _∧_ from⟨rfl,HS3.out.fr.trans (WFr.of hb (Nat.le_of_lt HS3.out.wr.in)),⟨_,rfl⟩⟩))
    |(go_at_call 45;refine(XA HS2.out.wr z0).mono ?_;rintro e W3 ⟨hf,hr⟩;revert hr;(split);(·rintro ⟨p,rfl⟩;exact(show _∧_ from⟨rfl,HS2.out.fr.trans hf,⟨_,rfl⟩⟩));rintro ⟨rfl,hr⟩;(have HS3:=aA (HS2.out.step hf hr));(have HX3:=aA (HX2.out.step hf));(obtain⟨c0,c1,c2,c3⟩:=HX3.out.cells);clear hf hr)
    |(go_at_call 98;refine(HIa.out _ _ _ _ _ _ 0 (by first|rfl|simp|omega) HS1.out.here HNa.out (by first|omega|decide)).mono ?_;rintro e W2 ⟨hf,hr⟩;revert hr;(split);(·rintro ⟨p,rfl⟩;exact(show _∧_ from⟨rfl,HS1.out.fr.trans hf,⟨_,rfl⟩⟩));rintro ⟨rfl,hr⟩;(have HS2:=aA (HS1.out.step hf hr));(have HX2:=aA (HX1.out.step hf));(obtain⟨c0,c1,c2,c3⟩:=HX2.out.cells);clear hf hr)
    |(go_at_call 92;revert HX0;intro HX0;(obtain⟨ka0,kc0,hnt,hcall⟩:=ZA (i:=0) HX0.out.nt HKa.out);refine hcall.mono ?_;rintro e W1 ⟨rfl,hb⟩;(have HS1:=aA (HS0.out.grow hb));(have HX1:=aA (HX0.out.step (WFr.of hb (Nat.le_of_lt HS0.out.wr.in))));(have HNa:=aA (hnt.step (P':=(·<wp)) (fun k hk=>⟨hb.block k (Nat.lt_trans hk HS0.out.wr.in),hk⟩)));(obtain⟨c0,c1,c2,c3⟩:=HX1.out.cells);clear hb hnt hcall)
    |(go_at_call 124;refine(HIs.out _).mono ?_;rintro e w' ⟨rfl,h9⟩;subst w'))
  |a::b::r=>
   have HKa:Hid (t.kids[0]?=some a):=by show _=_;rw[e];rfl
   have HIa:=aA (ih 0 a HKa.out)
   have HKb:Hid (t.kids[1]?=some b):=by show _=_;rw[e];rfl
   have HIb:=aA (ih 1 b HKb.out)
   obtain⟨z0,z1,n0,n1,hOk⟩:=hO.is
   have hwp:=hS.wr.in
   have HX0:=aA (BX.new hN hwp)
   have HS0:=aA (hS.alloc (.cells (RA t ka kc) 25))
   obtain⟨W0,hW0⟩:∃W0,W0=w.alloc (.cells (RA t ka kc) 25):=⟨_,rfl⟩
   rw[←hW0] at HX0 HS0
   have HW:Hid (W0=w.alloc (.cells #[.string t.kind,.string t.word,.int .i64 t.num,.slice ka t.kids.length kc] 25)):=hW0
   obtain⟨R,hR⟩:∃R,R=RG t s:=⟨_,rfl⟩
   rw[←hR]
   rw[RG,if_pos ho,e] at hR
   have HR:=aA hR
   obtain⟨c0,c1,c2,c3⟩:=HX0.out.cells
   clear hR hW0 hN e
   unfold RA
   go_enter Tryz.func93,Tryz.ntmps93
   go_upto_region 1 with fail
   rw[←HW.out]
   go_wp2_with (first
   |(go_at_call 98;refine(HIb.out _ _ _ _ _ _ 0 (by first|rfl|simp|omega) HS4.out.here HNb.out (by first|omega|decide)).mono ?_;rintro e W5 ⟨hf,hr⟩;rcases hq2:uD b 0 s2 with _|s3;(·rw[hq2] at hr;(obtain⟨p,rfl⟩:=hr);(obtain rfl:R=none:=(by rw[HR.out,hq2];try rfl));exact(show _∧_ from⟨rfl,HS4.out.fr.trans hf,⟨_,rfl⟩⟩));rw[hq2] at hr;(obtain⟨rfl,hr⟩:=hr);(have HS5:=aA (HS4.out.step hf hr));(have HX5:=aA (HX4.out.step hf));(obtain⟨c0,c1,c2,c3⟩:=HX5.out.cells);rw[hq2] at HR;(have hd3:=oD hq2);clear hf hr)
   |(go_at_call 92;revert HX3;intro HX3;(obtain⟨ka1,kc1,hnt,hcall⟩:=ZA (i:=1) HX3.out.nt HKb.out);refine hcall.mono ?_;rintro e W4 ⟨rfl,hb⟩;(have HS4:=aA (HS3.out.grow hb));(have HX4:=aA (HX3.out.step (WFr.of hb (Nat.le_of_lt HS3.out.wr.in))));(have HNb:=aA (hnt.step (P':=(·<wp)) (fun k hk=>⟨hb.block k (Nat.lt_trans hk HS3.out.wr.in),hk⟩)));(obtain⟨c0,c1,c2,c3⟩:=HX4.out.cells);clear hb hnt hcall)
   |(go_at_call 45;refine(XA HS2.out.wr z0).mono ?_;rintro e W3 ⟨hf,hr⟩;rcases hq1:MA s1 t.kind with _|s2;(·rw[hq1] at hr;(obtain⟨p,rfl⟩:=hr);(obtain rfl:R=none:=(by rw[HR.out,hq1];try rfl));exact(show _∧_ from⟨rfl,HS2.out.fr.trans hf,⟨_,rfl⟩⟩));rw[hq1] at hr;(obtain⟨rfl,hr⟩:=hr);(have HS3:=aA (HS2.out.step hf hr));(have HX3:=aA (HX2.out.step hf));(obtain⟨c0,c1,c2,c3⟩:=HX3.out.cells);rw[hq1,Option.bind_some] at HR;(have hd2:=aB hq1);clear hf hr)
   |(go_at_call 98;refine(HIa.out _ _ _ _ _ _ 0 (by first|rfl|simp|omega) HS1.out.here HNa.out (by first|omega|decide)).mono ?_;rintro e W2 ⟨hf,hr⟩;rcases hq0:uD a 0 s with _|s1;(·rw[hq0] at hr;(obtain⟨p,rfl⟩:=hr);(obtain rfl:R=none:=(by rw[HR.out,hq0];try rfl));exact(show _∧_ from⟨rfl,HS1.out.fr.trans hf,⟨_,rfl⟩⟩));rw[hq0] at hr;(obtain⟨rfl,hr⟩:=hr);(have HS2:=aA (HS1.out.step hf hr));(have HX2:=aA (HX1.out.step hf));(obtain⟨c0,c1,c2,c3⟩:=HX2.out.cells);rw[hq0,Option.bind_some] at HR;(have hd1:=oD hq0);clear hf hr)
   |(go_at_call 92;revert HX0;intro HX0;(obtain⟨ka0,kc0,hnt,hcall⟩:=ZA (i:=0) HX0.out.nt HKa.out);refine hcall.mono ?_;rintro e W1 ⟨rfl,hb⟩;(have HS1:=aA (HS0.out.grow hb));(have HX1:=aA (HX0.out.step (WFr.of hb (Nat.le_of_lt HS0.out.wr.in))));(have HNa:=aA (hnt.step (P':=(·<wp)) (fun k hk=>⟨hb.block k (Nat.lt_trans hk HS0.out.wr.in),hk⟩)));(obtain⟨c0,c1,c2,c3⟩:=HX1.out.cells);clear hb hnt hcall)
   |(go_at_call 124;refine(HIs.out _).mono ?_;rintro e w' ⟨rfl,h9⟩;subst w'))
   go_end0
   (obtain rfl:R=some s3:=HR.out)
   exact⟨HS5.out.fr,rfl,HS5.out.wr⟩
theorem JU{t:Tn}(hO:TnOk t)(ih:∀(i:Nat) (k:Tn),t.kids[i]?=some k→pS k)(hF:IV t):vU t:=by
 intro w wp s ka kc l lv hl hS hN hlv
 cases h0:(t.kind.toList==[111,114])
 rotate_left
 ·have hL:AJ t.kind=0:=by unfold AJ;rw[if_pos (fA h0 rfl)]
  have HLv:=aA (fun W=>kC t.kind W)
  rw[hL] at HLv
  have hll:¬(0:Int)<l:=by omega
  match e:t.kids with
  | []=>
    have HKn:Hid (t.kids[0]?=none):=by show _=_;rw[e];rfl
    obtain⟨z0,z1,n0,n1,hOk⟩:=hO.is
    have hwp:=hS.wr.in
    have HX0:=aA (BX.new hN hwp)
    have HS0:=aA (hS.alloc (.cells (RA t ka kc) 25))
    obtain⟨W0,hW0⟩:∃W0,W0=w.alloc (.cells (RA t ka kc) 25):=⟨_,rfl⟩
    rw[←hW0] at HX0 HS0
    have HW:Hid (W0=w.alloc (.cells #[.string t.kind,.string t.word,.int .i64 t.num,.slice ka t.kids.length kc] 25)):=hW0
    obtain⟨R,hR⟩:∃R,R=XB t s:=⟨_,rfl⟩
    rw[←hR]
    rw[KD (.inl (fA h0 rfl)),hL,e] at hR
    have HR:=aA hR
    obtain⟨c0,c1,c2,c3⟩:=HX0.out.cells
    have HRn:Hid (R=none):=by show _=_;rw[hR];try cases PA s<;>rfl
    clear hR hW0 hN e
    unfold RA
    (obtain rfl:R=none:=HRn.out)
    go_enter Tryz.func46,Tryz.ntmps46
    go_upto_region 1 with fail
    rw[←HW.out]
    go_wp2_with (first
    |(go_at_call 92;refine(NB (i:=0) HS1.out.wr HKn.out).mono ?_;rintro e W2 ⟨⟨p,rfl⟩,hb⟩;exact(show _∧_ from⟨rfl,HS1.out.fr.trans (WFr.of hb (Nat.le_of_lt HS1.out.wr.in)),⟨_,rfl⟩⟩))
    |(go_at_call 91;refine(xB HS0.out.wr).mono ?_;rintro e W1 ⟨hf,hr⟩;revert hr;(split);(·rintro ⟨p,rfl⟩;exact(show _∧_ from⟨rfl,HS0.out.fr.trans hf,⟨_,rfl⟩⟩));rintro ⟨rfl,hr⟩;(have HS1:=aA (HS0.out.step hf hr));(have HX1:=aA (HX0.out.step hf));(obtain⟨c0,c1,c2,c3⟩:=HX1.out.cells);clear hf hr)
    |(go_at_call 90;refine(HLv.out _).mono ?_;rintro e w' ⟨rfl,h9⟩;subst w'))
  | [a]=>
    have HKa:Hid (t.kids[0]?=some a):=by show _=_;rw[e];rfl
    have HIa:=aA (ih 0 a HKa.out)
    have HKn:Hid (t.kids[1]?=none):=by show _=_;rw[e];rfl
    obtain⟨z0,z1,n0,n1,hOk⟩:=hO.is
    have hwp:=hS.wr.in
    have HX0:=aA (BX.new hN hwp)
    have HS0:=aA (hS.alloc (.cells (RA t ka kc) 25))
    obtain⟨W0,hW0⟩:∃W0,W0=w.alloc (.cells (RA t ka kc) 25):=⟨_,rfl⟩
    rw[←hW0] at HX0 HS0
    have HW:Hid (W0=w.alloc (.cells #[.string t.kind,.string t.word,.int .i64 t.num,.slice ka t.kids.length kc] 25)):=hW0
    obtain⟨R,hR⟩:∃R,R=XB t s:=⟨_,rfl⟩
    rw[←hR]
    rw[KD (.inl (fA h0 rfl)),hL,e] at hR
    have HR:=aA hR
    obtain⟨c0,c1,c2,c3⟩:=HX0.out.cells
    have HRn:Hid (R=none):=by show _=_;rw[hR];try cases PA s<;>rfl
    clear hR hW0 hN e
    unfold RA
    (obtain rfl:R=none:=HRn.out)
    go_enter Tryz.func46,Tryz.ntmps46
    go_upto_region 1 with fail
    rw[←HW.out]
    go_wp2_with (first
    |(go_at_call 92;refine(NB (i:=1) HS4.out.wr HKn.out).mono ?_;rintro e W5 ⟨⟨p,rfl⟩,hb⟩;exact(show _∧_ from⟨rfl,HS4.out.fr.trans (WFr.of hb (Nat.le_of_lt HS4.out.wr.in)),⟨_,rfl⟩⟩))
    |(go_at_call 45;refine(XA HS3.out.wr z0).mono ?_;rintro e W4 ⟨hf,hr⟩;revert hr;(split);(·rintro ⟨p,rfl⟩;exact(show _∧_ from⟨rfl,HS3.out.fr.trans hf,⟨_,rfl⟩⟩));rintro ⟨rfl,hr⟩;(have HS4:=aA (HS3.out.step hf hr));(have HX4:=aA (HX3.out.step hf));(obtain⟨c0,c1,c2,c3⟩:=HX4.out.cells);clear hf hr)
    |(go_at_call 46;refine(HIa.out _ _ _ _ _ _ 0 (by first|rfl|simp|omega) HS2.out.here HNa.out (by first|omega|decide)).mono ?_;rintro e W3 ⟨hf,hr⟩;revert hr;(split);(·rintro ⟨p,rfl⟩;exact(show _∧_ from⟨rfl,HS2.out.fr.trans hf,⟨_,rfl⟩⟩));rintro ⟨rfl,hr⟩;(have HS3:=aA (HS2.out.step hf hr));(have HX3:=aA (HX2.out.step hf));(obtain⟨c0,c1,c2,c3⟩:=HX3.out.cells);clear hf hr)
    |(go_at_call 92;revert HX1;intro HX1;(obtain⟨ka0,kc0,hnt,hcall⟩:=ZA (i:=0) HX1.out.nt HKa.out);refine hcall.mono ?_;rintro e W2 ⟨rfl,hb⟩;(have HS2:=aA (HS1.out.grow hb));(have HX2:=aA (HX1.out.step (WFr.of hb (Nat.le_of_lt HS1.out.wr.in))));(have HNa:=aA (hnt.step (P':=(·<wp)) (fun k hk=>⟨hb.block k (Nat.lt_trans hk HS1.out.wr.in),hk⟩)));(obtain⟨c0,c1,c2,c3⟩:=HX2.out.cells);clear hb hnt hcall)
    |(go_at_call 91;refine(xB HS0.out.wr).mono ?_;rintro e W1 ⟨hf,hr⟩;revert hr;(split);(·rintro ⟨p,rfl⟩;exact(show _∧_ from⟨rfl,HS0.out.fr.trans hf,⟨_,rfl⟩⟩));rintro ⟨rfl,hr⟩;(have HS1:=aA (HS0.out.step hf hr));(have HX1:=aA (HX0.out.step hf));(obtain⟨c0,c1,c2,c3⟩:=HX1.out.cells);clear hf hr)
    |(go_at_call 90;refine(HLv.out _).mono ?_;rintro e w' ⟨rfl,h9⟩;subst w'))
  |a::b::r=>
   have HKa:Hid (t.kids[0]?=some a):=by show _=_;rw[e];rfl
   have HIa:=aA (ih 0 a HKa.out)
   have HKb:Hid (t.kids[1]?=some b):=by show _=_;rw[e];rfl
   have HIb:=aA (ih 1 b HKb.out)
   obtain⟨z0,z1,n0,n1,hOk⟩:=hO.is
   have hwp:=hS.wr.in
   have HX0:=aA (BX.new hN hwp)
   have HS0:=aA (hS.alloc (.cells (RA t ka kc) 25))
   obtain⟨W0,hW0⟩:∃W0,W0=w.alloc (.cells (RA t ka kc) 25):=⟨_,rfl⟩
   rw[←hW0] at HX0 HS0
   have HW:Hid (W0=w.alloc (.cells #[.string t.kind,.string t.word,.int .i64 t.num,.slice ka t.kids.length kc] 25)):=hW0
   obtain⟨R,hR⟩:∃R,R=XB t s:=⟨_,rfl⟩
   rw[←hR]
   rw[KD (.inl (fA h0 rfl)),hL,e] at hR
   have HR:=aA hR
   obtain⟨c0,c1,c2,c3⟩:=HX0.out.cells
   clear hR hW0 hN e
   unfold RA
   go_enter Tryz.func46,Tryz.ntmps46
   go_upto_region 1 with fail
   rw[←HW.out]
   go_wp2_with (first
   |(go_at_call 94;refine(qD HS6.out.wr (by omega)).mono ?_;rintro e W7 ⟨hf,rfl,hr⟩;(have HZ:=aA (aI (HS6.out.fr.trans hf) hr));clear hf hr)
   |(go_at_call 46;refine(HIb.out _ _ _ _ _ _ 1 (by first|rfl|simp|omega) HS5.out.here HNb.out (by first|omega|decide)).mono ?_;rintro e W6 ⟨hf,hr⟩;rcases hq3:SC b 1 s3 with _|s4;(·rw[hq3] at hr;(obtain⟨p,rfl⟩:=hr);(obtain rfl:R=none:=(by rw[HR.out,hq3];try rfl));exact(show _∧_ from⟨rfl,HS5.out.fr.trans hf,⟨_,rfl⟩⟩));rw[hq3] at hr;(obtain⟨rfl,hr⟩:=hr);(have HS6:=aA (HS5.out.step hf hr));(have HX6:=aA (HX5.out.step hf));(obtain⟨c0,c1,c2,c3⟩:=HX6.out.cells);rw[hq3] at HR;(have hd4:=LF hq3);clear hf hr)
   |(go_at_call 92;revert HX4;intro HX4;(obtain⟨ka1,kc1,hnt,hcall⟩:=ZA (i:=1) HX4.out.nt HKb.out);refine hcall.mono ?_;rintro e W5 ⟨rfl,hb⟩;(have HS5:=aA (HS4.out.grow hb));(have HX5:=aA (HX4.out.step (WFr.of hb (Nat.le_of_lt HS4.out.wr.in))));(have HNb:=aA (hnt.step (P':=(·<wp)) (fun k hk=>⟨hb.block k (Nat.lt_trans hk HS4.out.wr.in),hk⟩)));(obtain⟨c0,c1,c2,c3⟩:=HX5.out.cells);clear hb hnt hcall)
   |(go_at_call 45;refine(XA HS3.out.wr z0).mono ?_;rintro e W4 ⟨hf,hr⟩;rcases hq2:MA s2 t.kind with _|s3;(·rw[hq2] at hr;(obtain⟨p,rfl⟩:=hr);(obtain rfl:R=none:=(by rw[HR.out,hq2];try rfl));exact(show _∧_ from⟨rfl,HS3.out.fr.trans hf,⟨_,rfl⟩⟩));rw[hq2] at hr;(obtain⟨rfl,hr⟩:=hr);(have HS4:=aA (HS3.out.step hf hr));(have HX4:=aA (HX3.out.step hf));(obtain⟨c0,c1,c2,c3⟩:=HX4.out.cells);rw[hq2,Option.bind_some] at HR;(have hd3:=aB hq2);clear hf hr)
   |(go_at_call 46;refine(HIa.out _ _ _ _ _ _ 0 (by first|rfl|simp|omega) HS2.out.here HNa.out (by first|omega|decide)).mono ?_;rintro e W3 ⟨hf,hr⟩;rcases hq1:SC a 0 s1 with _|s2;(·rw[hq1] at hr;(obtain⟨p,rfl⟩:=hr);(obtain rfl:R=none:=(by rw[HR.out,hq1];try rfl));exact(show _∧_ from⟨rfl,HS2.out.fr.trans hf,⟨_,rfl⟩⟩));rw[hq1] at hr;(obtain⟨rfl,hr⟩:=hr);(have HS3:=aA (HS2.out.step hf hr));(have HX3:=aA (HX2.out.step hf));(obtain⟨c0,c1,c2,c3⟩:=HX3.out.cells);rw[hq1,Option.bind_some] at HR;(have hd2:=LF hq1);clear hf hr)
   |(go_at_call 92;revert HX1;intro HX1;(obtain⟨ka0,kc0,hnt,hcall⟩:=ZA (i:=0) HX1.out.nt HKa.out);refine hcall.mono ?_;rintro e W2 ⟨rfl,hb⟩;(have HS2:=aA (HS1.out.grow hb));(have HX2:=aA (HX1.out.step (WFr.of hb (Nat.le_of_lt HS1.out.wr.in))));(have HNa:=aA (hnt.step (P':=(·<wp)) (fun k hk=>⟨hb.block k (Nat.lt_trans hk HS1.out.wr.in),hk⟩)));(obtain⟨c0,c1,c2,c3⟩:=HX2.out.cells);clear hb hnt hcall)
   |(go_at_call 91;refine(xB HS0.out.wr).mono ?_;rintro e W1 ⟨hf,hr⟩;rcases hq0:PA s with _|s1;(·rw[hq0] at hr;(obtain⟨p,rfl⟩:=hr);(obtain rfl:R=none:=(by rw[HR.out,hq0];try rfl));exact(show _∧_ from⟨rfl,HS0.out.fr.trans hf,⟨_,rfl⟩⟩));rw[hq0] at hr;(obtain⟨rfl,hr⟩:=hr);(have HS1:=aA (HS0.out.step hf hr));(have HX1:=aA (HX0.out.step hf));(obtain⟨c0,c1,c2,c3⟩:=HX1.out.cells);rw[hq0,Option.bind_some] at HR;(have hd1:=fD hq0);clear hf hr)
   |(go_at_call 90;refine(HLv.out _).mono ?_;rintro e w' ⟨rfl,h9⟩;subst w'))
   go_end0
   (obtain rfl:R=some (eC s4):=HR.out)
   exact⟨HZ.out.1,rfl,HZ.out.2⟩
 cases h1:(t.kind.toList==[97,110,100])
 rotate_left
 ·have hL:AJ t.kind=1:=by unfold AJ;rw[if_neg (by rw[fA h0 (x:=wOr) rfl];simp),if_pos (fA h1 rfl)]
  have HLv:=aA (fun W=>kC t.kind W)
  rw[hL] at HLv
  have hll:¬(1:Int)<l:=by omega
  match e:t.kids with
  | []=>
    have HKn:Hid (t.kids[0]?=none):=by show _=_;rw[e];rfl
    obtain⟨z0,z1,n0,n1,hOk⟩:=hO.is
    have hwp:=hS.wr.in
    have HX0:=aA (BX.new hN hwp)
    have HS0:=aA (hS.alloc (.cells (RA t ka kc) 25))
    obtain⟨W0,hW0⟩:∃W0,W0=w.alloc (.cells (RA t ka kc) 25):=⟨_,rfl⟩
    rw[←hW0] at HX0 HS0
    have HW:Hid (W0=w.alloc (.cells #[.string t.kind,.string t.word,.int .i64 t.num,.slice ka t.kids.length kc] 25)):=hW0
    obtain⟨R,hR⟩:∃R,R=XB t s:=⟨_,rfl⟩
    rw[←hR]
    rw[KD (.inr (fA h1 rfl)),hL,e] at hR
    have HR:=aA hR
    obtain⟨c0,c1,c2,c3⟩:=HX0.out.cells
    have HRn:Hid (R=none):=by show _=_;rw[hR];try cases PA s<;>rfl
    clear hR hW0 hN e
    unfold RA
    (obtain rfl:R=none:=HRn.out)
    go_enter Tryz.func46,Tryz.ntmps46
    go_upto_region 1 with fail
    rw[←HW.out]
    go_wp2_with (first
    |(go_at_call 92;refine(NB (i:=0) HS1.out.wr HKn.out).mono ?_;rintro e W2 ⟨⟨p,rfl⟩,hb⟩;exact(show _∧_ from⟨rfl,HS1.out.fr.trans (WFr.of hb (Nat.le_of_lt HS1.out.wr.in)),⟨_,rfl⟩⟩))
    |(go_at_call 91;refine(xB HS0.out.wr).mono ?_;rintro e W1 ⟨hf,hr⟩;revert hr;(split);(·rintro ⟨p,rfl⟩;exact(show _∧_ from⟨rfl,HS0.out.fr.trans hf,⟨_,rfl⟩⟩));rintro ⟨rfl,hr⟩;(have HS1:=aA (HS0.out.step hf hr));(have HX1:=aA (HX0.out.step hf));(obtain⟨c0,c1,c2,c3⟩:=HX1.out.cells);clear hf hr)
    |(go_at_call 90;refine(HLv.out _).mono ?_;rintro e w' ⟨rfl,h9⟩;subst w'))
  | [a]=>
    have HKa:Hid (t.kids[0]?=some a):=by show _=_;rw[e];rfl
    have HIa:=aA (ih 0 a HKa.out)
    have HKn:Hid (t.kids[1]?=none):=by show _=_;rw[e];rfl
    obtain⟨z0,z1,n0,n1,hOk⟩:=hO.is
    have hwp:=hS.wr.in
    have HX0:=aA (BX.new hN hwp)
    have HS0:=aA (hS.alloc (.cells (RA t ka kc) 25))
    obtain⟨W0,hW0⟩:∃W0,W0=w.alloc (.cells (RA t ka kc) 25):=⟨_,rfl⟩
    rw[←hW0] at HX0 HS0
    have HW:Hid (W0=w.alloc (.cells #[.string t.kind,.string t.word,.int .i64 t.num,.slice ka t.kids.length kc] 25)):=hW0
    obtain⟨R,hR⟩:∃R,R=XB t s:=⟨_,rfl⟩
    rw[←hR]
    rw[KD (.inr (fA h1 rfl)),hL,e] at hR
    have HR:=aA hR
    obtain⟨c0,c1,c2,c3⟩:=HX0.out.cells
    have HRn:Hid (R=none):=by show _=_;rw[hR];try cases PA s<;>rfl
    clear hR hW0 hN e
    unfold RA
    (obtain rfl:R=none:=HRn.out)
    go_enter Tryz.func46,Tryz.ntmps46
    go_upto_region 1 with fail
    rw[←HW.out]
    go_wp2_with (first
    |(go_at_call 92;refine(NB (i:=1) HS4.out.wr HKn.out).mono ?_;rintro e W5 ⟨⟨p,rfl⟩,hb⟩;exact(show _∧_ from⟨rfl,HS4.out.fr.trans (WFr.of hb (Nat.le_of_lt HS4.out.wr.in)),⟨_,rfl⟩⟩))
    |(go_at_call 45;refine(XA HS3.out.wr z0).mono ?_;rintro e W4 ⟨hf,hr⟩;revert hr;(split);(·rintro ⟨p,rfl⟩;exact(show _∧_ from⟨rfl,HS3.out.fr.trans hf,⟨_,rfl⟩⟩));rintro ⟨rfl,hr⟩;(have HS4:=aA (HS3.out.step hf hr));(have HX4:=aA (HX3.out.step hf));(obtain⟨c0,c1,c2,c3⟩:=HX4.out.cells);clear hf hr)
    |(go_at_call 46;refine(HIa.out _ _ _ _ _ _ 1 (by first|rfl|simp|omega) HS2.out.here HNa.out (by first|omega|decide)).mono ?_;rintro e W3 ⟨hf,hr⟩;revert hr;(split);(·rintro ⟨p,rfl⟩;exact(show _∧_ from⟨rfl,HS2.out.fr.trans hf,⟨_,rfl⟩⟩));rintro ⟨rfl,hr⟩;(have HS3:=aA (HS2.out.step hf hr));(have HX3:=aA (HX2.out.step hf));(obtain⟨c0,c1,c2,c3⟩:=HX3.out.cells);clear hf hr)
    |(go_at_call 92;revert HX1;intro HX1;(obtain⟨ka0,kc0,hnt,hcall⟩:=ZA (i:=0) HX1.out.nt HKa.out);refine hcall.mono ?_;rintro e W2 ⟨rfl,hb⟩;(have HS2:=aA (HS1.out.grow hb));(have HX2:=aA (HX1.out.step (WFr.of hb (Nat.le_of_lt HS1.out.wr.in))));(have HNa:=aA (hnt.step (P':=(·<wp)) (fun k hk=>⟨hb.block k (Nat.lt_trans hk HS1.out.wr.in),hk⟩)));(obtain⟨c0,c1,c2,c3⟩:=HX2.out.cells);clear hb hnt hcall)
    |(go_at_call 91;refine(xB HS0.out.wr).mono ?_;rintro e W1 ⟨hf,hr⟩;revert hr;(split);(·rintro ⟨p,rfl⟩;exact(show _∧_ from⟨rfl,HS0.out.fr.trans hf,⟨_,rfl⟩⟩));rintro ⟨rfl,hr⟩;(have HS1:=aA (HS0.out.step hf hr));(have HX1:=aA (HX0.out.step hf));(obtain⟨c0,c1,c2,c3⟩:=HX1.out.cells);clear hf hr)
    |(go_at_call 90;refine(HLv.out _).mono ?_;rintro e w' ⟨rfl,h9⟩;subst w'))
  |a::b::r=>
   have HKa:Hid (t.kids[0]?=some a):=by show _=_;rw[e];rfl
   have HIa:=aA (ih 0 a HKa.out)
   have HKb:Hid (t.kids[1]?=some b):=by show _=_;rw[e];rfl
   have HIb:=aA (ih 1 b HKb.out)
   obtain⟨z0,z1,n0,n1,hOk⟩:=hO.is
   have hwp:=hS.wr.in
   have HX0:=aA (BX.new hN hwp)
   have HS0:=aA (hS.alloc (.cells (RA t ka kc) 25))
   obtain⟨W0,hW0⟩:∃W0,W0=w.alloc (.cells (RA t ka kc) 25):=⟨_,rfl⟩
   rw[←hW0] at HX0 HS0
   have HW:Hid (W0=w.alloc (.cells #[.string t.kind,.string t.word,.int .i64 t.num,.slice ka t.kids.length kc] 25)):=hW0
   obtain⟨R,hR⟩:∃R,R=XB t s:=⟨_,rfl⟩
   rw[←hR]
   rw[KD (.inr (fA h1 rfl)),hL,e] at hR
   have HR:=aA hR
   obtain⟨c0,c1,c2,c3⟩:=HX0.out.cells
   clear hR hW0 hN e
   unfold RA
   go_enter Tryz.func46,Tryz.ntmps46
   go_upto_region 1 with fail
   rw[←HW.out]
   go_wp2_with (first
   |(go_at_call 94;refine(qD HS6.out.wr (by omega)).mono ?_;rintro e W7 ⟨hf,rfl,hr⟩;(have HZ:=aA (aI (HS6.out.fr.trans hf) hr));clear hf hr)
   |(go_at_call 46;refine(HIb.out _ _ _ _ _ _ 2 (by first|rfl|simp|omega) HS5.out.here HNb.out (by first|omega|decide)).mono ?_;rintro e W6 ⟨hf,hr⟩;rcases hq3:SC b 2 s3 with _|s4;(·rw[hq3] at hr;(obtain⟨p,rfl⟩:=hr);(obtain rfl:R=none:=(by rw[HR.out,hq3];try rfl));exact(show _∧_ from⟨rfl,HS5.out.fr.trans hf,⟨_,rfl⟩⟩));rw[hq3] at hr;(obtain⟨rfl,hr⟩:=hr);(have HS6:=aA (HS5.out.step hf hr));(have HX6:=aA (HX5.out.step hf));(obtain⟨c0,c1,c2,c3⟩:=HX6.out.cells);rw[hq3] at HR;(have hd4:=LF hq3);clear hf hr)
   |(go_at_call 92;revert HX4;intro HX4;(obtain⟨ka1,kc1,hnt,hcall⟩:=ZA (i:=1) HX4.out.nt HKb.out);refine hcall.mono ?_;rintro e W5 ⟨rfl,hb⟩;(have HS5:=aA (HS4.out.grow hb));(have HX5:=aA (HX4.out.step (WFr.of hb (Nat.le_of_lt HS4.out.wr.in))));(have HNb:=aA (hnt.step (P':=(·<wp)) (fun k hk=>⟨hb.block k (Nat.lt_trans hk HS4.out.wr.in),hk⟩)));(obtain⟨c0,c1,c2,c3⟩:=HX5.out.cells);clear hb hnt hcall)
   |(go_at_call 45;refine(XA HS3.out.wr z0).mono ?_;rintro e W4 ⟨hf,hr⟩;rcases hq2:MA s2 t.kind with _|s3;(·rw[hq2] at hr;(obtain⟨p,rfl⟩:=hr);(obtain rfl:R=none:=(by rw[HR.out,hq2];try rfl));exact(show _∧_ from⟨rfl,HS3.out.fr.trans hf,⟨_,rfl⟩⟩));rw[hq2] at hr;(obtain⟨rfl,hr⟩:=hr);(have HS4:=aA (HS3.out.step hf hr));(have HX4:=aA (HX3.out.step hf));(obtain⟨c0,c1,c2,c3⟩:=HX4.out.cells);rw[hq2,Option.bind_some] at HR;(have hd3:=aB hq2);clear hf hr)
   |(go_at_call 46;refine(HIa.out _ _ _ _ _ _ 1 (by first|rfl|simp|omega) HS2.out.here HNa.out (by first|omega|decide)).mono ?_;rintro e W3 ⟨hf,hr⟩;rcases hq1:SC a 1 s1 with _|s2;(·rw[hq1] at hr;(obtain⟨p,rfl⟩:=hr);(obtain rfl:R=none:=(by rw[HR.out,hq1];try rfl));exact(show _∧_ from⟨rfl,HS2.out.fr.trans hf,⟨_,rfl⟩⟩));rw[hq1] at hr;(obtain⟨rfl,hr⟩:=hr);(have HS3:=aA (HS2.out.step hf hr));(have HX3:=aA (HX2.out.step hf));(obtain⟨c0,c1,c2,c3⟩:=HX3.out.cells);rw[hq1,Option.bind_some] at HR;(have hd2:=LF hq1);clear hf hr)
   |(go_at_call 92;revert HX1;intro HX1;(obtain⟨ka0,kc0,hnt,hcall⟩:=ZA (i:=0) HX1.out.nt HKa.out);refine hcall.mono ?_;rintro e W2 ⟨rfl,hb⟩;(have HS2:=aA (HS1.out.grow hb));(have HX2:=aA (HX1.out.step (WFr.of hb (Nat.le_of_lt HS1.out.wr.in))));(have HNa:=aA (hnt.step (P':=(·<wp)) (fun k hk=>⟨hb.block k (Nat.lt_trans hk HS1.out.wr.in),hk⟩)));(obtain⟨c0,c1,c2,c3⟩:=HX2.out.cells);clear hb hnt hcall)
   |(go_at_call 91;refine(xB HS0.out.wr).mono ?_;rintro e W1 ⟨hf,hr⟩;rcases hq0:PA s with _|s1;(·rw[hq0] at hr;(obtain⟨p,rfl⟩:=hr);(obtain rfl:R=none:=(by rw[HR.out,hq0];try rfl));exact(show _∧_ from⟨rfl,HS0.out.fr.trans hf,⟨_,rfl⟩⟩));rw[hq0] at hr;(obtain⟨rfl,hr⟩:=hr);(have HS1:=aA (HS0.out.step hf hr));(have HX1:=aA (HX0.out.step hf));(obtain⟨c0,c1,c2,c3⟩:=HX1.out.cells);rw[hq0,Option.bind_some] at HR;(have hd1:=fD hq0);clear hf hr)
   |(go_at_call 90;refine(HLv.out _).mono ?_;rintro e w' ⟨rfl,h9⟩;subst w'))
   go_end0
   (obtain rfl:R=some (eC s4):=HR.out)
   exact⟨HZ.out.1,rfl,HZ.out.2⟩
 cases h2:(t.kind.toList==[110,111,116])
 rotate_left
 ·have hL:AJ t.kind=2:=by unfold AJ;rw[if_neg (by rw[fA h0 (x:=wOr) rfl];simp),if_neg (by rw[fA h1 (x:=wAnd) rfl];simp),if_pos (fA h2 rfl)]
  have HLv:=aA (fun W=>kC t.kind W)
  rw[hL] at HLv
  have hll:¬(2:Int)<l:=by omega
  match e:t.kids with
  | []=>
    have HKn:Hid (t.kids[0]?=none):=by show _=_;rw[e];rfl
    obtain⟨z0,z1,n0,n1,hOk⟩:=hO.is
    have hwp:=hS.wr.in
    have HX0:=aA (BX.new hN hwp)
    have HS0:=aA (hS.alloc (.cells (RA t ka kc) 25))
    obtain⟨W0,hW0⟩:∃W0,W0=w.alloc (.cells (RA t ka kc) 25):=⟨_,rfl⟩
    rw[←hW0] at HX0 HS0
    have HW:Hid (W0=w.alloc (.cells #[.string t.kind,.string t.word,.int .i64 t.num,.slice ka t.kids.length kc] 25)):=hW0
    obtain⟨R,hR⟩:∃R,R=XB t s:=⟨_,rfl⟩
    rw[←hR]
    rw[AG (by rw[fA h0 (x:=wOr) rfl,fA h1 (x:=wAnd) rfl];simp) (fA h2 rfl),e] at hR
    have HR:=aA hR
    obtain⟨c0,c1,c2,c3⟩:=HX0.out.cells
    have HRn:Hid (R=none):=by show _=_;rw[hR];try cases PA s<;>rfl
    clear hR hW0 hN e
    unfold RA
    (obtain rfl:R=none:=HRn.out)
    go_enter Tryz.func46,Tryz.ntmps46
    go_upto_region 1 with fail
    rw[←HW.out]
    go_wp2_with (first
    |(go_at_call 92;refine(NB (i:=0) HS2.out.wr HKn.out).mono ?_;rintro e W3 ⟨⟨p,rfl⟩,hb⟩;exact(show _∧_ from⟨rfl,HS2.out.fr.trans (WFr.of hb (Nat.le_of_lt HS2.out.wr.in)),⟨_,rfl⟩⟩))
    |(go_at_call 45;refine(XA HS1.out.wr (x:=wNot) (by decide)).mono ?_;rintro e W2 ⟨hf,hr⟩;revert hr;(split);(·rintro ⟨p,rfl⟩;exact(show _∧_ from⟨rfl,HS1.out.fr.trans hf,⟨_,rfl⟩⟩));rintro ⟨rfl,hr⟩;(have HS2:=aA (HS1.out.step hf hr));(have HX2:=aA (HX1.out.step hf));(obtain⟨c0,c1,c2,c3⟩:=HX2.out.cells);clear hf hr)
    |(go_at_call 91;refine(xB HS0.out.wr).mono ?_;rintro e W1 ⟨hf,hr⟩;revert hr;(split);(·rintro ⟨p,rfl⟩;exact(show _∧_ from⟨rfl,HS0.out.fr.trans hf,⟨_,rfl⟩⟩));rintro ⟨rfl,hr⟩;(have HS1:=aA (HS0.out.step hf hr));(have HX1:=aA (HX0.out.step hf));(obtain⟨c0,c1,c2,c3⟩:=HX1.out.cells);clear hf hr)
    |(go_at_call 90;refine(HLv.out _).mono ?_;rintro e w' ⟨rfl,h9⟩;subst w'))
  |a::r=>
   have HKa:Hid (t.kids[0]?=some a):=by show _=_;rw[e];rfl
   have HIa:=aA (ih 0 a HKa.out)
   obtain⟨z0,z1,n0,n1,hOk⟩:=hO.is
   have hwp:=hS.wr.in
   have HX0:=aA (BX.new hN hwp)
   have HS0:=aA (hS.alloc (.cells (RA t ka kc) 25))
   obtain⟨W0,hW0⟩:∃W0,W0=w.alloc (.cells (RA t ka kc) 25):=⟨_,rfl⟩
   rw[←hW0] at HX0 HS0
   have HW:Hid (W0=w.alloc (.cells #[.string t.kind,.string t.word,.int .i64 t.num,.slice ka t.kids.length kc] 25)):=hW0
   obtain⟨R,hR⟩:∃R,R=XB t s:=⟨_,rfl⟩
   rw[←hR]
   rw[AG (by rw[fA h0 (x:=wOr) rfl,fA h1 (x:=wAnd) rfl];simp) (fA h2 rfl),e] at hR
   have HR:=aA hR
   obtain⟨c0,c1,c2,c3⟩:=HX0.out.cells
   clear hR hW0 hN e
   unfold RA
   go_enter Tryz.func46,Tryz.ntmps46
   go_upto_region 1 with fail
   rw[←HW.out]
   go_wp2_with (first
   |(go_at_call 94;refine(qD HS4.out.wr (by omega)).mono ?_;rintro e W5 ⟨hf,rfl,hr⟩;(have HZ:=aA (aI (HS4.out.fr.trans hf) hr));clear hf hr)
   |(go_at_call 46;refine(HIa.out _ _ _ _ _ _ 2 (by first|rfl|simp|omega) HS3.out.here HNa.out (by first|omega|decide)).mono ?_;rintro e W4 ⟨hf,hr⟩;rcases hq2:SC a 2 s2 with _|s3;(·rw[hq2] at hr;(obtain⟨p,rfl⟩:=hr);(obtain rfl:R=none:=(by rw[HR.out,hq2];try rfl));exact(show _∧_ from⟨rfl,HS3.out.fr.trans hf,⟨_,rfl⟩⟩));rw[hq2] at hr;(obtain⟨rfl,hr⟩:=hr);(have HS4:=aA (HS3.out.step hf hr));(have HX4:=aA (HX3.out.step hf));(obtain⟨c0,c1,c2,c3⟩:=HX4.out.cells);rw[hq2] at HR;(have hd3:=LF hq2);clear hf hr)
   |(go_at_call 92;revert HX2;intro HX2;(obtain⟨ka0,kc0,hnt,hcall⟩:=ZA (i:=0) HX2.out.nt HKa.out);refine hcall.mono ?_;rintro e W3 ⟨rfl,hb⟩;(have HS3:=aA (HS2.out.grow hb));(have HX3:=aA (HX2.out.step (WFr.of hb (Nat.le_of_lt HS2.out.wr.in))));(have HNa:=aA (hnt.step (P':=(·<wp)) (fun k hk=>⟨hb.block k (Nat.lt_trans hk HS2.out.wr.in),hk⟩)));(obtain⟨c0,c1,c2,c3⟩:=HX3.out.cells);clear hb hnt hcall)
   |(go_at_call 45;refine(XA HS1.out.wr (x:=wNot) (by decide)).mono ?_;rintro e W2 ⟨hf,hr⟩;rcases hq1:MA s1 wNot with _|s2;(·rw[hq1] at hr;(obtain⟨p,rfl⟩:=hr);(obtain rfl:R=none:=(by rw[HR.out,hq1];try rfl));exact(show _∧_ from⟨rfl,HS1.out.fr.trans hf,⟨_,rfl⟩⟩));rw[hq1] at hr;(obtain⟨rfl,hr⟩:=hr);(have HS2:=aA (HS1.out.step hf hr));(have HX2:=aA (HX1.out.step hf));(obtain⟨c0,c1,c2,c3⟩:=HX2.out.cells);rw[hq1,Option.bind_some] at HR;(have hd2:=aB hq1);clear hf hr)
   |(go_at_call 91;refine(xB HS0.out.wr).mono ?_;rintro e W1 ⟨hf,hr⟩;rcases hq0:PA s with _|s1;(·rw[hq0] at hr;(obtain⟨p,rfl⟩:=hr);(obtain rfl:R=none:=(by rw[HR.out,hq0];try rfl));exact(show _∧_ from⟨rfl,HS0.out.fr.trans hf,⟨_,rfl⟩⟩));rw[hq0] at hr;(obtain⟨rfl,hr⟩:=hr);(have HS1:=aA (HS0.out.step hf hr));(have HX1:=aA (HX0.out.step hf));(obtain⟨c0,c1,c2,c3⟩:=HX1.out.cells);rw[hq0,Option.bind_some] at HR;(have hd1:=fD hq0);clear hf hr)
   |(go_at_call 90;refine(HLv.out _).mono ?_;rintro e w' ⟨rfl,h9⟩;subst w'))
   go_end0
   (obtain rfl:R=some (eC s3):=HR.out)
   exact⟨HZ.out.1,rfl,HZ.out.2⟩
 have hL:AJ t.kind=3:=by unfold AJ;rw[if_neg (by rw[fA h0 (x:=wOr) rfl];simp),if_neg (by rw[fA h1 (x:=wAnd) rfl];simp),if_neg (by rw[fA h2 (x:=wNot) rfl];simp)]
 have HLv:=aA (fun W=>kC t.kind W)
 rw[hL] at HLv
 have hll:¬(3:Int)<l:=by omega
 cases h3:(t.kind.toList==[115,111,109,101])
 rotate_left
 ·match e:t.kids with
  | []=>
    have HKn:Hid (t.kids[0]?=none):=by show _=_;rw[e];rfl
    obtain⟨z0,z1,n0,n1,hOk⟩:=hO.is
    have hwp:=hS.wr.in
    have HX0:=aA (BX.new hN hwp)
    have HS0:=aA (hS.alloc (.cells (RA t ka kc) 25))
    obtain⟨W0,hW0⟩:∃W0,W0=w.alloc (.cells (RA t ka kc) 25):=⟨_,rfl⟩
    rw[←hW0] at HX0 HS0
    have HW:Hid (W0=w.alloc (.cells #[.string t.kind,.string t.word,.int .i64 t.num,.slice ka t.kids.length kc] 25)):=hW0
    obtain⟨R,hR⟩:∃R,R=XB t s:=⟨_,rfl⟩
    rw[←hR]
    rw[AF (by rw[fA h0 (x:=wOr) rfl,fA h1 (x:=wAnd) rfl];simp) (by rw[fA h2 (x:=wNot) rfl];simp) (.inl (fA h3 rfl)),e] at hR
    have HR:=aA hR
    obtain⟨c0,c1,c2,c3⟩:=HX0.out.cells
    have HRn:Hid (R=none):=by show _=_;rw[hR];try cases PA s<;>rfl
    clear hR hW0 hN e
    unfold RA
    (obtain rfl:R=none:=HRn.out)
    go_enter Tryz.func46,Tryz.ntmps46
    go_upto_region 1 with fail
    rw[←HW.out]
    go_wp2_with (first
    |(go_at_call 92;refine(NB (i:=0) HS2.out.wr HKn.out).mono ?_;rintro e W3 ⟨⟨p,rfl⟩,hb⟩;exact(show _∧_ from⟨rfl,HS2.out.fr.trans (WFr.of hb (Nat.le_of_lt HS2.out.wr.in)),⟨_,rfl⟩⟩))
    |(go_at_call 45;refine(VE HS1.out.wr z0 z1 (z:=sg 40) (by decide)).mono ?_;rintro e W2 ⟨hf,hr⟩;revert hr;(split);(·rintro ⟨p,rfl⟩;exact(show _∧_ from⟨rfl,HS1.out.fr.trans hf,⟨_,rfl⟩⟩));rintro ⟨rfl,hr⟩;(have HS2:=aA (HS1.out.step hf hr));(have HX2:=aA (HX1.out.step hf));(obtain⟨c0,c1,c2,c3⟩:=HX2.out.cells);clear hf hr)
    |(go_at_call 91;refine(xB HS0.out.wr).mono ?_;rintro e W1 ⟨hf,hr⟩;revert hr;(split);(·rintro ⟨p,rfl⟩;exact(show _∧_ from⟨rfl,HS0.out.fr.trans hf,⟨_,rfl⟩⟩));rintro ⟨rfl,hr⟩;(have HS1:=aA (HS0.out.step hf hr));(have HX1:=aA (HX0.out.step hf));(obtain⟨c0,c1,c2,c3⟩:=HX1.out.cells);clear hf hr)
    |(go_at_call 90;refine(HLv.out _).mono ?_;rintro e w' ⟨rfl,h9⟩;subst w'))
  |a::r=>
   have HKa:Hid (t.kids[0]?=some a):=by show _=_;rw[e];rfl
   have HIa:=aA (ih 0 a HKa.out)
   obtain⟨z0,z1,n0,n1,hOk⟩:=hO.is
   have hwp:=hS.wr.in
   have HX0:=aA (BX.new hN hwp)
   have HS0:=aA (hS.alloc (.cells (RA t ka kc) 25))
   obtain⟨W0,hW0⟩:∃W0,W0=w.alloc (.cells (RA t ka kc) 25):=⟨_,rfl⟩
   rw[←hW0] at HX0 HS0
   have HW:Hid (W0=w.alloc (.cells #[.string t.kind,.string t.word,.int .i64 t.num,.slice ka t.kids.length kc] 25)):=hW0
   obtain⟨R,hR⟩:∃R,R=XB t s:=⟨_,rfl⟩
   rw[←hR]
   rw[AF (by rw[fA h0 (x:=wOr) rfl,fA h1 (x:=wAnd) rfl];simp) (by rw[fA h2 (x:=wNot) rfl];simp) (.inl (fA h3 rfl)),e] at hR
   have HR:=aA hR
   obtain⟨c0,c1,c2,c3⟩:=HX0.out.cells
   clear hR hW0 hN e
   unfold RA
   go_enter Tryz.func46,Tryz.ntmps46
   go_upto_region 1 with fail
   rw[←HW.out]
   go_wp2_with (first
   |(go_at_call 94;refine(qD HS5.out.wr (by omega)).mono ?_;rintro e W6 ⟨hf,rfl,hr⟩;(have HZ:=aA (aI (HS5.out.fr.trans hf) hr));clear hf hr)
   |(go_at_call 45;refine(XA HS4.out.wr (x:=sg 41) (by decide)).mono ?_;rintro e W5 ⟨hf,hr⟩;rcases hq3:MA s3 (sg 41) with _|s4;(·rw[hq3] at hr;(obtain⟨p,rfl⟩:=hr);(obtain rfl:R=none:=(by rw[HR.out,hq3];try rfl));exact(show _∧_ from⟨rfl,HS4.out.fr.trans hf,⟨_,rfl⟩⟩));rw[hq3] at hr;(obtain⟨rfl,hr⟩:=hr);(have HS5:=aA (HS4.out.step hf hr));(have HX5:=aA (HX4.out.step hf));(obtain⟨c0,c1,c2,c3⟩:=HX5.out.cells);rw[hq3] at HR;(have hd4:=aB hq3);clear hf hr)
   |(go_at_call 46;refine(HIa.out _ _ _ _ _ _ 0 (by first|rfl|simp|omega) HS3.out.here HNa.out (by first|omega|decide)).mono ?_;rintro e W4 ⟨hf,hr⟩;rcases hq2:SC a 0 s2 with _|s3;(·rw[hq2] at hr;(obtain⟨p,rfl⟩:=hr);(obtain rfl:R=none:=(by rw[HR.out,hq2];try rfl));exact(show _∧_ from⟨rfl,HS3.out.fr.trans hf,⟨_,rfl⟩⟩));rw[hq2] at hr;(obtain⟨rfl,hr⟩:=hr);(have HS4:=aA (HS3.out.step hf hr));(have HX4:=aA (HX3.out.step hf));(obtain⟨c0,c1,c2,c3⟩:=HX4.out.cells);rw[hq2,Option.bind_some] at HR;(have hd3:=LF hq2);clear hf hr)
   |(go_at_call 92;revert HX2;intro HX2;(obtain⟨ka0,kc0,hnt,hcall⟩:=ZA (i:=0) HX2.out.nt HKa.out);refine hcall.mono ?_;rintro e W3 ⟨rfl,hb⟩;(have HS3:=aA (HS2.out.grow hb));(have HX3:=aA (HX2.out.step (WFr.of hb (Nat.le_of_lt HS2.out.wr.in))));(have HNa:=aA (hnt.step (P':=(·<wp)) (fun k hk=>⟨hb.block k (Nat.lt_trans hk HS2.out.wr.in),hk⟩)));(obtain⟨c0,c1,c2,c3⟩:=HX3.out.cells);clear hb hnt hcall)
   |(go_at_call 45;refine(VE HS1.out.wr z0 z1 (z:=sg 40) (by decide)).mono ?_;rintro e W2 ⟨hf,hr⟩;rcases hq1:CA s1 [t.kind,t.word,sg 40] with _|s2;(·rw[hq1] at hr;(obtain⟨p,rfl⟩:=hr);(obtain rfl:R=none:=(by rw[HR.out,hq1];try rfl));exact(show _∧_ from⟨rfl,HS1.out.fr.trans hf,⟨_,rfl⟩⟩));rw[hq1] at hr;(obtain⟨rfl,hr⟩:=hr);(have HS2:=aA (HS1.out.step hf hr));(have HX2:=aA (HX1.out.step hf));(obtain⟨c0,c1,c2,c3⟩:=HX2.out.cells);rw[hq1,Option.bind_some] at HR;(have hd2:=JC hq1);clear hf hr)
   |(go_at_call 91;refine(xB HS0.out.wr).mono ?_;rintro e W1 ⟨hf,hr⟩;rcases hq0:PA s with _|s1;(·rw[hq0] at hr;(obtain⟨p,rfl⟩:=hr);(obtain rfl:R=none:=(by rw[HR.out,hq0];try rfl));exact(show _∧_ from⟨rfl,HS0.out.fr.trans hf,⟨_,rfl⟩⟩));rw[hq0] at hr;(obtain⟨rfl,hr⟩:=hr);(have HS1:=aA (HS0.out.step hf hr));(have HX1:=aA (HX0.out.step hf));(obtain⟨c0,c1,c2,c3⟩:=HX1.out.cells);rw[hq0,Option.bind_some] at HR;(have hd1:=fD hq0);clear hf hr)
   |(go_at_call 90;refine(HLv.out _).mono ?_;rintro e w' ⟨rfl,h9⟩;subst w'))
   go_end0
   (obtain rfl:R=some (eC s4):=HR.out)
   exact⟨HZ.out.1,rfl,HZ.out.2⟩
 cases h4:(t.kind.toList==[101,118,101,114,121])
 rotate_left
 ·match e:t.kids with
  | []=>
    have HKn:Hid (t.kids[0]?=none):=by show _=_;rw[e];rfl
    obtain⟨z0,z1,n0,n1,hOk⟩:=hO.is
    have hwp:=hS.wr.in
    have HX0:=aA (BX.new hN hwp)
    have HS0:=aA (hS.alloc (.cells (RA t ka kc) 25))
    obtain⟨W0,hW0⟩:∃W0,W0=w.alloc (.cells (RA t ka kc) 25):=⟨_,rfl⟩
    rw[←hW0] at HX0 HS0
    have HW:Hid (W0=w.alloc (.cells #[.string t.kind,.string t.word,.int .i64 t.num,.slice ka t.kids.length kc] 25)):=hW0
    obtain⟨R,hR⟩:∃R,R=XB t s:=⟨_,rfl⟩
    rw[←hR]
    rw[AF (by rw[fA h0 (x:=wOr) rfl,fA h1 (x:=wAnd) rfl];simp) (by rw[fA h2 (x:=wNot) rfl];simp) (.inr (fA h4 rfl)),e] at hR
    have HR:=aA hR
    obtain⟨c0,c1,c2,c3⟩:=HX0.out.cells
    have HRn:Hid (R=none):=by show _=_;rw[hR];try cases PA s<;>rfl
    clear hR hW0 hN e
    unfold RA
    (obtain rfl:R=none:=HRn.out)
    go_enter Tryz.func46,Tryz.ntmps46
    go_upto_region 1 with fail
    rw[←HW.out]
    go_wp2_with (first
    |(go_at_call 92;refine(NB (i:=0) HS2.out.wr HKn.out).mono ?_;rintro e W3 ⟨⟨p,rfl⟩,hb⟩;exact(show _∧_ from⟨rfl,HS2.out.fr.trans (WFr.of hb (Nat.le_of_lt HS2.out.wr.in)),⟨_,rfl⟩⟩))
    |(go_at_call 45;refine(VE HS1.out.wr z0 z1 (z:=sg 40) (by decide)).mono ?_;rintro e W2 ⟨hf,hr⟩;revert hr;(split);(·rintro ⟨p,rfl⟩;exact(show _∧_ from⟨rfl,HS1.out.fr.trans hf,⟨_,rfl⟩⟩));rintro ⟨rfl,hr⟩;(have HS2:=aA (HS1.out.step hf hr));(have HX2:=aA (HX1.out.step hf));(obtain⟨c0,c1,c2,c3⟩:=HX2.out.cells);clear hf hr)
    |(go_at_call 91;refine(xB HS0.out.wr).mono ?_;rintro e W1 ⟨hf,hr⟩;revert hr;(split);(·rintro ⟨p,rfl⟩;exact(show _∧_ from⟨rfl,HS0.out.fr.trans hf,⟨_,rfl⟩⟩));rintro ⟨rfl,hr⟩;(have HS1:=aA (HS0.out.step hf hr));(have HX1:=aA (HX0.out.step hf));(obtain⟨c0,c1,c2,c3⟩:=HX1.out.cells);clear hf hr)
    |(go_at_call 90;refine(HLv.out _).mono ?_;rintro e w' ⟨rfl,h9⟩;subst w'))
  |a::r=>
   have HKa:Hid (t.kids[0]?=some a):=by show _=_;rw[e];rfl
   have HIa:=aA (ih 0 a HKa.out)
   obtain⟨z0,z1,n0,n1,hOk⟩:=hO.is
   have hwp:=hS.wr.in
   have HX0:=aA (BX.new hN hwp)
   have HS0:=aA (hS.alloc (.cells (RA t ka kc) 25))
   obtain⟨W0,hW0⟩:∃W0,W0=w.alloc (.cells (RA t ka kc) 25):=⟨_,rfl⟩
   rw[←hW0] at HX0 HS0
   have HW:Hid (W0=w.alloc (.cells #[.string t.kind,.string t.word,.int .i64 t.num,.slice ka t.kids.length kc] 25)):=hW0
   obtain⟨R,hR⟩:∃R,R=XB t s:=⟨_,rfl⟩
   rw[←hR]
   rw[AF (by rw[fA h0 (x:=wOr) rfl,fA h1 (x:=wAnd) rfl];simp) (by rw[fA h2 (x:=wNot) rfl];simp) (.inr (fA h4 rfl)),e] at hR
   have HR:=aA hR
   obtain⟨c0,c1,c2,c3⟩:=HX0.out.cells
   clear hR hW0 hN e
   unfold RA
   go_enter Tryz.func46,Tryz.ntmps46
   go_upto_region 1 with fail
   rw[←HW.out]
   go_wp2_with (first
   |(go_at_call 94;refine(qD HS5.out.wr (by omega)).mono ?_;rintro e W6 ⟨hf,rfl,hr⟩;(have HZ:=aA (aI (HS5.out.fr.trans hf) hr));clear hf hr)
   |(go_at_call 45;refine(XA HS4.out.wr (x:=sg 41) (by decide)).mono ?_;rintro e W5 ⟨hf,hr⟩;rcases hq3:MA s3 (sg 41) with _|s4;(·rw[hq3] at hr;(obtain⟨p,rfl⟩:=hr);(obtain rfl:R=none:=(by rw[HR.out,hq3];try rfl));exact(show _∧_ from⟨rfl,HS4.out.fr.trans hf,⟨_,rfl⟩⟩));rw[hq3] at hr;(obtain⟨rfl,hr⟩:=hr);(have HS5:=aA (HS4.out.step hf hr));(have HX5:=aA (HX4.out.step hf));(obtain⟨c0,c1,c2,c3⟩:=HX5.out.cells);rw[hq3] at HR;(have hd4:=aB hq3);clear hf hr)
   |(go_at_call 46;refine(HIa.out _ _ _ _ _ _ 0 (by first|rfl|simp|omega) HS3.out.here HNa.out (by first|omega|decide)).mono ?_;rintro e W4 ⟨hf,hr⟩;rcases hq2:SC a 0 s2 with _|s3;(·rw[hq2] at hr;(obtain⟨p,rfl⟩:=hr);(obtain rfl:R=none:=(by rw[HR.out,hq2];try rfl));exact(show _∧_ from⟨rfl,HS3.out.fr.trans hf,⟨_,rfl⟩⟩));rw[hq2] at hr;(obtain⟨rfl,hr⟩:=hr);(have HS4:=aA (HS3.out.step hf hr));(have HX4:=aA (HX3.out.step hf));(obtain⟨c0,c1,c2,c3⟩:=HX4.out.cells);rw[hq2,Option.bind_some] at HR;(have hd3:=LF hq2);clear hf hr)
   |(go_at_call 92;revert HX2;intro HX2;(obtain⟨ka0,kc0,hnt,hcall⟩:=ZA (i:=0) HX2.out.nt HKa.out);refine hcall.mono ?_;rintro e W3 ⟨rfl,hb⟩;(have HS3:=aA (HS2.out.grow hb));(have HX3:=aA (HX2.out.step (WFr.of hb (Nat.le_of_lt HS2.out.wr.in))));(have HNa:=aA (hnt.step (P':=(·<wp)) (fun k hk=>⟨hb.block k (Nat.lt_trans hk HS2.out.wr.in),hk⟩)));(obtain⟨c0,c1,c2,c3⟩:=HX3.out.cells);clear hb hnt hcall)
   |(go_at_call 45;refine(VE HS1.out.wr z0 z1 (z:=sg 40) (by decide)).mono ?_;rintro e W2 ⟨hf,hr⟩;rcases hq1:CA s1 [t.kind,t.word,sg 40] with _|s2;(·rw[hq1] at hr;(obtain⟨p,rfl⟩:=hr);(obtain rfl:R=none:=(by rw[HR.out,hq1];try rfl));exact(show _∧_ from⟨rfl,HS1.out.fr.trans hf,⟨_,rfl⟩⟩));rw[hq1] at hr;(obtain⟨rfl,hr⟩:=hr);(have HS2:=aA (HS1.out.step hf hr));(have HX2:=aA (HX1.out.step hf));(obtain⟨c0,c1,c2,c3⟩:=HX2.out.cells);rw[hq1,Option.bind_some] at HR;(have hd2:=JC hq1);clear hf hr)
   |(go_at_call 91;refine(xB HS0.out.wr).mono ?_;rintro e W1 ⟨hf,hr⟩;rcases hq0:PA s with _|s1;(·rw[hq0] at hr;(obtain⟨p,rfl⟩:=hr);(obtain rfl:R=none:=(by rw[HR.out,hq0];try rfl));exact(show _∧_ from⟨rfl,HS0.out.fr.trans hf,⟨_,rfl⟩⟩));rw[hq0] at hr;(obtain⟨rfl,hr⟩:=hr);(have HS1:=aA (HS0.out.step hf hr));(have HX1:=aA (HX0.out.step hf));(obtain⟨c0,c1,c2,c3⟩:=HX1.out.cells);rw[hq0,Option.bind_some] at HR;(have hd1:=fD hq0);clear hf hr)
   |(go_at_call 90;refine(HLv.out _).mono ?_;rintro e w' ⟨rfl,h9⟩;subst w'))
   go_end0
   (obtain rfl:R=some (eC s4):=HR.out)
   exact⟨HZ.out.1,rfl,HZ.out.2⟩
 cases h5:(t.kind.toList==[110,97,109,101])
 rotate_left
 ·obtain⟨z0,z1,n0,n1,hOk⟩:=hO.is
  have hwp:=hS.wr.in
  have HX0:=aA (BX.new hN hwp)
  have HS0:=aA (hS.alloc (.cells (RA t ka kc) 25))
  obtain⟨W0,hW0⟩:∃W0,W0=w.alloc (.cells (RA t ka kc) 25):=⟨_,rfl⟩
  rw[←hW0] at HX0 HS0
  have HW:Hid (W0=w.alloc (.cells #[.string t.kind,.string t.word,.int .i64 t.num,.slice ka t.kids.length kc] 25)):=hW0
  obtain⟨R,hR⟩:∃R,R=XB t s:=⟨_,rfl⟩
  rw[←hR]
  rw[vM (by rw[fA h0 (x:=wOr) rfl,fA h1 (x:=wAnd) rfl];simp) (by rw[fA h2 (x:=wNot) rfl];simp) (by rw[fA h3 (x:=wSome) rfl,fA h4 (x:=wEvery) rfl];simp) (fA h5 rfl)] at hR
  have HR:=aA hR
  obtain⟨c0,c1,c2,c3⟩:=HX0.out.cells
  clear hR hW0 hN
  unfold RA
  go_enter Tryz.func46,Tryz.ntmps46
  go_upto_region 1 with fail
  rw[←HW.out]
  go_wp2_with (first
   |(go_at_call 94;refine(qD HS2.out.wr (by omega)).mono ?_;rintro e W3 ⟨hf,rfl,hr⟩;(have HZ:=aA (aI (HS2.out.fr.trans hf) hr));clear hf hr)
   |(go_at_call 45;refine(XA HS1.out.wr z1).mono ?_;rintro e W2 ⟨hf,hr⟩;rcases hq1:MA s1 t.word with _|s2;(·rw[hq1] at hr;(obtain⟨p,rfl⟩:=hr);(obtain rfl:R=none:=(by rw[HR.out,hq1];try rfl));exact(show _∧_ from⟨rfl,HS1.out.fr.trans hf,⟨_,rfl⟩⟩));rw[hq1] at hr;(obtain⟨rfl,hr⟩:=hr);(have HS2:=aA (HS1.out.step hf hr));(have HX2:=aA (HX1.out.step hf));(obtain⟨c0,c1,c2,c3⟩:=HX2.out.cells);rw[hq1] at HR;(have hd2:=aB hq1);clear hf hr)
   |(go_at_call 91;refine(xB HS0.out.wr).mono ?_;rintro e W1 ⟨hf,hr⟩;rcases hq0:PA s with _|s1;(·rw[hq0] at hr;(obtain⟨p,rfl⟩:=hr);(obtain rfl:R=none:=(by rw[HR.out,hq0];try rfl));exact(show _∧_ from⟨rfl,HS0.out.fr.trans hf,⟨_,rfl⟩⟩));rw[hq0] at hr;(obtain⟨rfl,hr⟩:=hr);(have HS1:=aA (HS0.out.step hf hr));(have HX1:=aA (HX0.out.step hf));(obtain⟨c0,c1,c2,c3⟩:=HX1.out.cells);rw[hq0,Option.bind_some] at HR;(have hd1:=fD hq0);clear hf hr)
   |(go_at_call 90;refine(HLv.out _).mono ?_;rintro e w' ⟨rfl,h9⟩;subst w'))
  go_end0
  (obtain rfl:R=some (eC s2):=HR.out)
  exact⟨HZ.out.1,rfl,HZ.out.2⟩
 obtain⟨z0,z1,n0,n1,hOk⟩:=hO.is
 have hwp:=hS.wr.in
 have HX0:=aA (BX.new hN hwp)
 have HS0:=aA (hS.alloc (.cells (RA t ka kc) 25))
 obtain⟨W0,hW0⟩:∃W0,W0=w.alloc (.cells (RA t ka kc) 25):=⟨_,rfl⟩
 rw[←hW0] at HX0 HS0
 have HW:Hid (W0=w.alloc (.cells #[.string t.kind,.string t.word,.int .i64 t.num,.slice ka t.kids.length kc] 25)):=hW0
 obtain⟨R,hR⟩:∃R,R=XB t s:=⟨_,rfl⟩
 rw[←hR]
 rw[BO (by rw[fA h0 (x:=wOr) rfl,fA h1 (x:=wAnd) rfl];simp) (by rw[fA h2 (x:=wNot) rfl];simp) (by rw[fA h3 (x:=wSome) rfl,fA h4 (x:=wEvery) rfl];simp) (by rw[fA h5 (x:=qB) rfl];simp)] at hR
 have HR:=aA hR
 obtain⟨c0,c1,c2,c3⟩:=HX0.out.cells
 clear hR hW0 hN
 unfold RA
 go_enter Tryz.func46,Tryz.ntmps46
 go_upto_region 1 with fail
 rw[←HW.out]
 go_wp2_with (first
  |(go_at_call 94;refine(qD HS2.out.wr (by omega)).mono ?_;rintro e W3 ⟨hf,rfl,hr⟩;(have HZ:=aA (aI (HS2.out.fr.trans hf) hr));clear hf hr)
  |(go_at_call 93;refine(hF _ _ _ _ _ HS1.out.here HX1.out.nt).mono ?_;rintro e W2 ⟨hf,hr⟩;rcases hq1:RG t s1 with _|s2;(·rw[hq1] at hr;(obtain⟨p,rfl⟩:=hr);(obtain rfl:R=none:=(by rw[HR.out,hq1];try rfl));exact(show _∧_ from⟨rfl,HS1.out.fr.trans hf,⟨_,rfl⟩⟩));rw[hq1] at hr;(obtain⟨rfl,hr⟩:=hr);(have HS2:=aA (HS1.out.step hf hr));(have HX2:=aA (HX1.out.step hf));(obtain⟨c0,c1,c2,c3⟩:=HX2.out.cells);rw[hq1] at HR;(have hd2:=IU hq1);clear hf hr)
  |(go_at_call 91;refine(xB HS0.out.wr).mono ?_;rintro e W1 ⟨hf,hr⟩;rcases hq0:PA s with _|s1;(·rw[hq0] at hr;(obtain⟨p,rfl⟩:=hr);(obtain rfl:R=none:=(by rw[HR.out,hq0];try rfl));exact(show _∧_ from⟨rfl,HS0.out.fr.trans hf,⟨_,rfl⟩⟩));rw[hq0] at hr;(obtain⟨rfl,hr⟩:=hr);(have HS1:=aA (HS0.out.step hf hr));(have HX1:=aA (HX0.out.step hf));(obtain⟨c0,c1,c2,c3⟩:=HX1.out.cells);rw[hq0,Option.bind_some] at HR;(have hd1:=fD hq0);clear hf hr)
  |(go_at_call 90;refine(HLv.out _).mono ?_;rintro e w' ⟨rfl,h9⟩;subst w'))
 go_end0
 (obtain rfl:R=some (eC s2):=HR.out)
 exact⟨HZ.out.1,rfl,HZ.out.2⟩
theorem KU{t:Tn}(hO:TnOk t)(hB:vU t):pS t:=by
 intro w wp s ka kc l lv hl hS hN hlv
 by_cases hlt:AJ t.kind<lv
 case neg=>
  have e:SC t lv s=XB t s:=by unfold SC NP;rw[if_neg hlt]
  rw[e]
  exact hB w wp s ka kc l lv hl hS hN (by omega)
 case pos=>
  have e:SC t lv s=(MA s (sg 40)).bind fun s=>(XB t s).bind fun s=>MA s (sg 41):=by unfold SC NP;rw[if_pos hlt]
  have HLv:=aA (fun W=>kC t.kind W)
  have hlb:=UU t.kind
  generalize hLL:AJ t.kind=LL at *
  have hll:(LL:Int)<l:=by omega
  have HB:Hid (vU t):=hB
  obtain⟨z0,z1,n0,n1,hOk⟩:=hO.is
  have hwp:=hS.wr.in
  have HX0:=aA (BX.new hN hwp)
  have HS0:=aA (hS.alloc (.cells (RA t ka kc) 25))
  obtain⟨W0,hW0⟩:∃W0,W0=w.alloc (.cells (RA t ka kc) 25):=⟨_,rfl⟩
  rw[←hW0] at HX0 HS0
  have HW:Hid (W0=w.alloc (.cells #[.string t.kind,.string t.word,.int .i64 t.num,.slice ka t.kids.length kc] 25)):=hW0
  obtain⟨R,hR⟩:∃R,R=SC t lv s:=⟨_,rfl⟩
  rw[←hR]
  rw[e] at hR
  have HR:=aA hR
  obtain⟨c0,c1,c2,c3⟩:=HX0.out.cells
  clear hR hW0 hN e hlv hlt
  unfold RA
  go_enter Tryz.func46,Tryz.ntmps46
  go_upto_region 1 with fail
  rw[←HW.out]
  go_wp2_with (first
   |(go_at_call 45;refine(XA HS2.out.wr (x:=sg 41) (by decide)).mono ?_;rintro e W3 ⟨hf,hr⟩;rcases hq2:MA s2 (sg 41) with _|s3;(·rw[hq2] at hr;(obtain⟨p,rfl⟩:=hr);(obtain rfl:R=none:=(by rw[HR.out,hq2];try rfl));exact(show _∧_ from⟨rfl,HS2.out.fr.trans hf,⟨_,rfl⟩⟩));rw[hq2] at hr;(obtain⟨rfl,hr⟩:=hr);(have HS3:=aA (HS2.out.step hf hr));(have HX3:=aA (HX2.out.step hf));(obtain⟨c0,c1,c2,c3⟩:=HX3.out.cells);rw[hq2] at HR;(have hd3:=aB hq2);clear hf hr)
   |(go_at_call 46;refine(HB.out _ _ _ _ _ 0 0 rfl HS1.out.here HX1.out.nt (Nat.zero_le _)).mono ?_;rintro e W2 ⟨hf,hr⟩;rcases hq1:XB t s1 with _|s2;(·rw[hq1] at hr;(obtain⟨p,rfl⟩:=hr);(obtain rfl:R=none:=(by rw[HR.out,hq1];try rfl));exact(show _∧_ from⟨rfl,HS1.out.fr.trans hf,⟨_,rfl⟩⟩));rw[hq1] at hr;(obtain⟨rfl,hr⟩:=hr);(have HS2:=aA (HS1.out.step hf hr));(have HX2:=aA (HX1.out.step hf));(obtain⟨c0,c1,c2,c3⟩:=HX2.out.cells);rw[hq1,Option.bind_some] at HR;(have hd2:=DN _ _ rfl _ _ hq1);clear hf hr)
   |(go_at_call 45;refine(XA HS0.out.wr (x:=sg 40) (by decide)).mono ?_;rintro e W1 ⟨hf,hr⟩;rcases hq0:MA s (sg 40) with _|s1;(·rw[hq0] at hr;(obtain⟨p,rfl⟩:=hr);(obtain rfl:R=none:=(by rw[HR.out,hq0];try rfl));exact(show _∧_ from⟨rfl,HS0.out.fr.trans hf,⟨_,rfl⟩⟩));rw[hq0] at hr;(obtain⟨rfl,hr⟩:=hr);(have HS1:=aA (HS0.out.step hf hr));(have HX1:=aA (HX0.out.step hf));(obtain⟨c0,c1,c2,c3⟩:=HX1.out.cells);rw[hq0,Option.bind_some] at HR;(have hd1:=aB hq0);clear hf hr)
   |(go_at_call 90;refine(HLv.out _).mono ?_;rintro e w' ⟨rfl,h9⟩;subst w'))
  first|go_end0|refine bodyPost_ret (results_none rfl _ _ _) rfl ?_
  (obtain rfl:R=some s3:=HR.out)
  exact⟨HS3.out.fr,rfl,HS3.out.wr⟩
theorem QP:∀(n:Nat) (t:Tn),SizeOf.sizeOf t=n→TnOk t→pS t:=by
 intro n
 induction n using Nat.strongRecOn with
 |_ n ih=>
  intro t ht hO
  have ihk:∀(i:Nat) (k:Tn),t.kids[i]?=some k→pS k:=fun i k hk=>ih _ (by have:=gE hk;omega) k rfl (hO.is.2.2.2.2 i k hk)
  exact KU hO (JU hO ihk (dK hO fun i k hk=>rU _ k rfl (hO.is.2.2.2.2 i k hk)))
end Go.Proofs.YtehbinobohjadaaGreatDoor
namespace Go.Proofs.YtehbinobohjadaaGreatDoor
open Go.RowKit Go.Sort Go.Extern.Stop Go.Stop Go.Extern
theorem qF{W:World}{ls:List ByteArray}{b c:Nat}(hc:∀(i:Nat) (s:ByteArray),ls[i]?=some s→W.cell? ⟨b,0+i,none⟩=some (.string s)){n:Int}{x:ByteArray}(hx:fF ls n=some x):
 Calls Tryz.prog 95 #[.slice (some ⟨b,0,none⟩) ls.length c,.int .i64 n] W fun e w'=>e=.returned (.string x)∧w'=W:=by
 unfold fF at hx
 split at hx
 ·cases hx
 ·rename_i hn
  have hlt:=(List.getElem?_eq_some_iff.1 hx).1
  have hcx:=hc _ _ hx
  obtain⟨k,rfl⟩:∃k:Nat,n=k:=⟨n.toNat,by omega⟩
  simp only[Int.toNat_natCast,Nat.zero_add] at hcx hlt
  have h1:¬(k:Int)<0:=by omega
  have h2:¬((ls.length:Nat):Int)≤k:=by omega
  have h3:(k:Int)<ls.length:=by omega
  clear hx hc
  generalize ls.length=m at *
  go_enter Tryz.func95,Tryz.ntmps95
  go_wp2
  go_ret
  exact⟨rfl,rfl⟩
set_option linter.unusedSectionVars false
variable [Inhabited TP]
theorem qM{W:World}{ls:List ByteArray}{a:Option Addr}{c:Nat}{p:TA}(ct:W.cell? ⟨1,0,none⟩=some (.iface 189 (.pointer (some p.1)))){n:Int}(hx:fF ls n=none):
 Calls Tryz.prog 95 #[.slice a ls.length c,.int .i64 n] W fun e w'=>CP e∧w'=W:=by
 have HT:=aA (fun W=>IE 189 p W)
 unfold fF at hx
 generalize hm:ls.length=m at *
 split at hx
 ·rename_i hn
  clear hx hm
  go_enter Tryz.func95,Tryz.ntmps95
  go_wp2_with (go_at_call 50;refine(HT.out _).mono ?_;rintro e w' ⟨rfl,h9⟩;subst w')
  exact⟨rfl,⟨_,rfl⟩,rfl⟩
 ·rename_i hn
  have h2:(m:Int)≤n:=by
   rcases Nat.lt_or_ge n.toNat ls.length with h|h
   ·rw[List.getElem?_eq_getElem h] at hx;cases hx
   ·omega
  clear hx hm
  go_enter Tryz.func95,Tryz.ntmps95
  go_wp2_with (go_at_call 50;refine(HT.out _).mono ?_;rintro e w' ⟨rfl,h9⟩;subst w')
  exact⟨rfl,⟨_,rfl⟩,rfl⟩
structure STc(w:World)(P:Nat→Prop)(x:SentT)(ca sa:Option Addr)(cc sc:Nat)(oa:Option Addr)(oc:Nat)(cs:Array Value):Prop where
 eq:cs=#[.string x.kind,.string x.name,.int .i64 x.strength,.bool x.positive,.string x.head,.string x.cond.kind,.string x.cond.word,.int .i64 x.cond.num,.slice ca x.cond.kids.length cc,.string x.sum.kind,.string x.sum.word,.int .i64 x.sum.num,.slice sa x.sum.kids.length sc,.int .i64 x.way,.slice oa x.over.length oc,.int .i64 x.tn,.int .i64 x.tu,.int .i64 x.tr,.string x.els]
 nc:NT w P ca cc x.cond
 ns:NT w P sa sc x.sum
 ov:RdS stE w P (.slice oa x.over.length oc) x.over
theorem STc.step{w w':World}{P P':Nat→Prop}{x:SentT}{ca sa:Option Addr}{cc sc:Nat}{oa:Option Addr}{oc:Nat}{cs:Array Value}(h:STc w P x ca sa cc sc oa oc cs)(hb:∀b,P b→w'.heap[b]?=w.heap[b]?∧P' b):STc w' P' x ca sa cc sc oa oc cs:=⟨h.eq,h.nc.step hb,h.ns.step hb,h.ov.on fun k hk=>⟨(hb k hk).2,(hb k hk).1⟩⟩
structure SOk(x:SentT):Prop where
 kind:x.kind.size≤281474976710656
 name:x.name.size≤281474976710656
 head:x.head.size≤281474976710656
 els:x.els.size≤281474976710656
 over:∀y,y∈x.over→y.size≤281474976710656
 cond:TnOk x.cond
 sum:TnOk x.sum
 n0:-9223372036854775808≤x.tn
 n1:x.tn≤9223372036854775807
structure SX(W:World)(wp b:Nat)(x:SentT)(ca sa:Option Addr)(cc sc:Nat)(oa:Option Addr)(oc:Nat)(cs:Array Value):Prop where
 bx:W.heap[b]?=some (.cells cs 30 (0,0))
 st:STc W (·<wp) x ca sa cc sc oa oc cs
 ne:wp<b
theorem SX.step{W W':World}{wp b:Nat}{x:SentT}{ca sa:Option Addr}{cc sc:Nat}{oa:Option Addr}{oc:Nat}{cs:Array Value}(h:SX W wp b x ca sa cc sc oa oc cs)(hf:WFr wp W W'):SX W' wp b x ca sa cc sc oa oc cs:=
 ⟨hf.ty b cs _ _ (by have:=h.ne;omega) h.bx (by decide),h.st.step fun k hk=>⟨hf.low k hk,hk⟩,h.ne⟩
theorem SX.new{w:World}{wp:Nat}{x:SentT}{ca sa:Option Addr}{cc sc:Nat}{oa:Option Addr}{oc:Nat}{cs:Array Value}(h:STc w (·<wp) x ca sa cc sc oa oc cs)(hw:wp<w.heap.size):SX (w.alloc (.cells cs 30)) wp w.heap.size x ca sa cc sc oa oc cs:=
 ⟨heap_alloc_new _ _,h.step fun k hk=>⟨Go.Deep.blk_alloc_lt _ _ _ (by omega),hk⟩,hw⟩
theorem SX.at{W:World}{wp b:Nat}{x:SentT}{ca sa:Option Addr}{cc sc:Nat}{oa:Option Addr}{oc:Nat}{cs:Array Value}(h:SX W wp b x ca sa cc sc oa oc cs)(i:Nat)(v:Value)(hv:cs[i]?=some v):W.cell? ⟨b,i,none⟩=some v:=by
 simp[World.cell?,h.bx,hv]
def tW(x:SentT):Prop:=∀(w:World) (wp:Nat) (s:WS) (ca sa:Option Addr) (cc sc:Nat) (oa:Option Addr) (oc:Nat) (cs:Array Value),SW w w wp s→STc w (·<wp) x ca sa cc sc oa oc cs→Calls Tryz.prog 96 #[.pointer (some ⟨wp,0,none⟩),.agg cs] w (JF wp w (YI x s))
theorem eG{x:SentT}(hO:SOk x):tW x:=by
 intro w wp s ca sa cc sc oa oc cs hS hT
 have hwp:=hS.wr.in
 have HX0:=aA (SX.new hT hwp)
 have HS0:=aA (hS.alloc (.cells cs 30))
 obtain⟨W0,hW0⟩:∃W0,W0=w.alloc (.cells cs 30):=⟨_,rfl⟩
 rw[←hW0] at HX0 HS0
 have HW:=aA hW0
 have e3:cs[3]?=some (.bool x.positive):=by rw[hT.eq];rfl
 have e4:cs[4]?=some (.string x.head):=by rw[hT.eq];rfl
 have HC:Hid (∀V,SX V wp w.heap.size x ca sa cc sc oa oc cs→V.cell? ⟨w.heap.size,3,none⟩=some (.bool x.positive)∧V.cell? ⟨w.heap.size,4,none⟩=some (.string x.head)):=fun V h=>⟨h.at 3 _ e3,h.at 4 _ e4⟩
 obtain⟨c3,c4⟩:=HC.out _ HX0.out
 have hh:=hO.head
 obtain⟨R,hR⟩:∃R,R=YI x s:=⟨_,rfl⟩
 rw[←hR]
 unfold YI at hR
 have HR:=aA hR
 clear hR hW0 hT e3 e4
 cases hp:x.positive
 ·rw[hp] at HR c3
  have hR1:R=(MA s wNot).bind fun s=>MA s x.head:=HR.out
  clear HR
  have HR:=aA hR1
  clear hR1
  go_enter Tryz.func96,Tryz.ntmps96
  go_upto_region 1 with fail
  rw[←HW.out]
  go_wp2_with (first
   |(go_at_call 45;refine(XA HS1.out.wr hh).mono ?_;rintro e W2 ⟨hf,hr⟩;rcases hq1:MA s1 x.head with _|s2;(·rw[hq1] at hr;(obtain⟨p,rfl⟩:=hr);(obtain rfl:R=none:=(by rw[HR.out,hq1]));exact(show _∧_ from⟨rfl,HS1.out.fr.trans hf,⟨_,rfl⟩⟩));rw[hq1] at hr HR;(obtain⟨rfl,hr⟩:=hr);have HS2:=aA (HS1.out.step hf hr);clear hf hr)
   |(go_at_call 45;refine(XA HS0.out.wr (x:=wNot) (by decide)).mono ?_;rintro e W1 ⟨hf,hr⟩;rcases hq0:MA s wNot with _|s1;(·rw[hq0] at hr;(obtain⟨p,rfl⟩:=hr);(obtain rfl:R=none:=(by rw[HR.out,hq0];try rfl));exact(show _∧_ from⟨rfl,HS0.out.fr.trans hf,⟨_,rfl⟩⟩));rw[hq0] at hr;rw[hq0,Option.bind_some] at HR;(obtain⟨rfl,hr⟩:=hr);(have HS1:=aA (HS0.out.step hf hr));(have HX1:=aA (HX0.out.step hf));(obtain⟨c3,c4⟩:=HC.out _ HX1.out);clear hf hr))
  go_end0
  (obtain rfl:R=some s2:=HR.out)
  exact⟨HS2.out.fr,rfl,HS2.out.wr⟩
 ·rw[hp] at HR c3
  have hR1:R=MA s x.head:=HR.out
  clear HR
  have HR:=aA hR1
  clear hR1
  go_enter Tryz.func96,Tryz.ntmps96
  go_upto_region 1 with fail
  rw[←HW.out]
  go_wp2_with (go_at_call 45;refine(XA HS0.out.wr hh).mono ?_;rintro e W2 ⟨hf,hr⟩;rcases hq1:MA s x.head with _|s2;(·rw[hq1] at hr;(obtain⟨p,rfl⟩:=hr);(obtain rfl:R=none:=(by rw[HR.out,hq1]));exact(show _∧_ from⟨rfl,HS0.out.fr.trans hf,⟨_,rfl⟩⟩));rw[hq1] at hr HR;(obtain⟨rfl,hr⟩:=hr);have HS2:=aA (HS0.out.step hf hr);clear hf hr)
  go_end0
  (obtain rfl:R=some s2:=HR.out)
  exact⟨HS2.out.fr,rfl,HS2.out.wr⟩
theorem wE{t:Tn}(hO:TnOk t){w:World}{wp:Nat}{s:WS}{ka:Option Addr}{kc:Nat}(hS:SW w w wp s)(hN:NT w (·<wp) ka kc t):Calls Tryz.prog 97 #[.pointer (some ⟨wp,0,none⟩),.agg (RA t ka kc)] w (JF wp w (LN t s)):=by
 have hwp:=hS.wr.in
 have HX0:=aA (BX.new hN hwp)
 have HS0:=aA (hS.alloc (.cells (RA t ka kc) 25))
 obtain⟨W0,hW0⟩:∃W0,W0=w.alloc (.cells (RA t ka kc) 25):=⟨_,rfl⟩
 rw[←hW0] at HX0 HS0
 have HW:Hid (W0=w.alloc (.cells #[.string t.kind,.string t.word,.int .i64 t.num,.slice ka t.kids.length kc] 25)):=hW0
 obtain⟨c0,c1,c2,c3⟩:=HX0.out.cells
 have HCo:=aA (QP _ t rfl hO)
 by_cases hz:t.kind.size=0
 ·have he:t.kind.toList.isEmpty=true:=by rw[Lib.toList_data,List.isEmpty_iff];exact List.eq_nil_of_length_eq_zero (by rw[xA];exact hz)
  have e:LN t s=some s:=by unfold LN;rw[if_pos hz]
  rw[e]
  clear e hW0 hz hN
  unfold RA
  go_enter Tryz.func97,Tryz.ntmps97
  go_upto_region 1 with fail
  rw[←HW.out]
  go_wp2
  go_end0
  exact⟨HS0.out.fr,rfl,HS0.out.wr⟩
 ·have he:t.kind.toList.isEmpty=false:=by
   rw[Lib.toList_data]
   match hd:t.kind.data.toList with
   | []=>exact absurd (by rw[←xA,hd];rfl) hz
   |_::_=>rfl
  obtain⟨R,hR⟩:∃R,R=LN t s:=⟨_,rfl⟩
  rw[←hR]
  unfold LN at hR
  rw[if_neg hz] at hR
  have HR:=aA hR
  clear hR hW0 hz hN
  unfold RA
  go_enter Tryz.func97,Tryz.ntmps97
  go_upto_region 1 with fail
  rw[←HW.out]
  go_wp2_with (first
   |(go_at_call 46;refine(HCo.out _ _ _ _ _ 0 0 rfl HS1.out.here HX1.out.nt (by decide)).mono ?_;rintro e W2 ⟨hf,hr⟩;rcases hq1:SC t 0 s1 with _|s2;(·rw[hq1] at hr;(obtain⟨p,rfl⟩:=hr);(obtain rfl:R=none:=(by rw[HR.out,hq1]));exact(show _∧_ from⟨rfl,HS1.out.fr.trans hf,⟨_,rfl⟩⟩));rw[hq1] at hr HR;(obtain⟨rfl,hr⟩:=hr);have HS2:=aA (HS1.out.step hf hr);clear hf hr)
   |(go_at_call 45;refine(XA HS0.out.wr (x:=wIf) (by decide)).mono ?_;rintro e W1 ⟨hf,hr⟩;rcases hq0:MA s wIf with _|s1;(·rw[hq0] at hr;(obtain⟨p,rfl⟩:=hr);(obtain rfl:R=none:=(by rw[HR.out,hq0];try rfl));exact(show _∧_ from⟨rfl,HS0.out.fr.trans hf,⟨_,rfl⟩⟩));rw[hq0] at hr;rw[hq0,Option.bind_some] at HR;(obtain⟨rfl,hr⟩:=hr);(have HS1:=aA (HS0.out.step hf hr));(have HX1:=aA (HX0.out.step hf));(obtain⟨c0,c1,c2,c3⟩:=HX1.out.cells);clear hf hr))
  go_end0
  (obtain rfl:R=some s2:=HR.out)
  exact⟨HS2.out.fr,rfl,HS2.out.wr⟩
end Go.Proofs.YtehbinobohjadaaGreatDoor
