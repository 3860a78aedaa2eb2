import Derived.Test.YtehbinobohjadaaGreatDoorTm00
import Derived.Test.YtehbinobohjadaaGreatDoorTm27
import Derived.Test.YtehbinobohjadaaGreatDoorTm08
set_option maxHeartbeats 20000000
set_option maxRecDepth 20000
namespace Go.Proofs.YtehbinobohjadaaGreatDoor
open Go.RowKit Go.Extern.Stop Go.Stop Go.Extern
set_option linter.unusedSectionVars false
variable [Inhabited TP]
theorem oP{s:ByteArray}(hs:s.size≤390){w W:World}{v:Value}(h:RowG tokE 91 W w.heap.size v (dB s)):∃tb c,v=.slice (some ⟨tb,0,none⟩) (dB s).length c∧w.heap.size≤tb∧tb<W.heap.size∧(dB s).length≤c∧∀i t,(dB s)[i]?=some t→∀k,k<3→W.cell? ⟨tb,i * 3+k,none⟩=some (rT t k):=by
 have hl:=(LE s hs).2
 rcases h.row.2 with ⟨_,e⟩|⟨g,cap,cur,hv,hb,hgg,hc⟩
 ·omega
 ·have hcap:(dB s).length≤cap:=by
   have:=h.row.1
   obtain⟨h1,h2,h3⟩:=hc
   omega
  refine⟨g,cap,hv,hb,(Array.getElem?_eq_some_iff.1 hgg).1,hcap,fun i t ht k hk=>?_⟩
  refine h.cells hv (i * 3+k) (rT t k) (tokE.all_get (dB s) i t ht k _ ?_)
  match k,hk with
  |0,_=>rfl
  |1,_=>rfl
  |2,_=>rfl
theorem TM{s:ByteArray}(hs:s.size≤390){W:World}{tb c:Nat}(hg:GlobQ W)(hc:(dB s).length≤c)(htb:tb<W.heap.size)(ht:∀i t,(dB s)[i]?=some t→∀k,k<3→W.cell? ⟨tb,i * 3+k,none⟩=some (rT t k)):
 QS (dB s) W.heap.size tb (W.alloc (.cells #[.slice (some ⟨tb,0,none⟩) (dB s).length c,.int .i64 0] 62)) 0 0:=by
 have hl:=LE s hs
 have hlt:=hg.lt
 obtain⟨p,h1⟩:=hg.t
 obtain⟨q,h2⟩:=hg.b
 obtain⟨m,h3⟩:=hg.m
 have hb:Below W.heap.size W (W.alloc (.cells #[.slice (some ⟨tb,0,none⟩) (dB s).length c,.int .i64 0] 62)):=bA _ _
 refine⟨⟨(dB s).length,c,by omega,hc,?_⟩,fun i t e k hk=>(hb.cell (p:=⟨tb,i * 3+k,none⟩) htb).trans (ht i t e k hk),by omega,by have:=hl.2;omega,by omega,hl.1,⟨p,(hb.cell (p:=⟨1,0,none⟩) hlt.1).trans h1⟩,⟨q,(hb.cell (p:=⟨0,0,none⟩) hlt.2.1).trans h2⟩,⟨m,(hb.cell (p:=⟨12,0,none⟩) hlt.2.2).trans h3⟩,by omega⟩
 rw[Nat.zero_mul]
 exact heap_alloc_new _ _
theorem RBx.x{w w':World}{bs bi be rp:Nat}{cs:Array Value}{b:Bool}{ev:Value}(h:RBx w bs bi be cs b ev)(hb:BelX w.heap.size rp w w')(h1:bs≠rp)(h2:bi≠rp)(h3:be≠rp):RBx w' bs bi be cs b ev:=
 ⟨(hb.block bs (Array.getElem?_eq_some_iff.1 h.s).1 h1).trans h.s,(hb.block bi (Array.getElem?_eq_some_iff.1 h.i).1 h2).trans h.i,(hb.block be (Array.getElem?_eq_some_iff.1 h.e).1 h3).trans h.e,h.z⟩
theorem Fr3.x{bs bi be rp:Nat}{w a b:World}(h:Fr3 bs bi be w a)(hb:BelX a.heap.size rp a b)(hr:w.heap.size≤rp):Fr3 bs bi be w b:=⟨hb.os.trans h.os,hb.tape.trans h.tape,hb.output.trans h.output,Nat.le_trans h.size hb.size,fun k hk h1 h2 h3=>(hb.block k (Nat.lt_of_lt_of_le hk h.size) (by omega)).trans (h.block k hk h1 h2 h3)⟩
def zU(r:PR SentW)(w:World)(e:Ending)(w':World):Prop:=
 Below w.heap.size w w'∧match r with
  | .ok x _ _=>∃cs,e=.returned (.tuple #[.agg cs,.bool true,.nilIface])∧SentC w.heap.size x cs w'
  |_=>∃a,e=.returned (.tuple #[.agg zS,.bool true,.iface 55 (.pointer (some a))])
theorem SM{s:ByteArray}(hs:s.size≤300){w:World}(hg:GlobQ w)(hr:IC s=true){f:Nat}(hf:mD (dB s) f 0 0≠.out):
 Calls Tryz.prog 6 #[.string s] w (zU (mD (dB s) f 0 0) w):=by
 have hmf:∀(fn:Fn) (first cap:Array Value) (w:World),(Instr.makeFunc fn first cap).run Tryz.prog w=.ok (.func fn first cap) w:=fun _ _ _ _=>rfl
 obtain⟨hbx,hb0⟩:=bI w
 obtain⟨W,hW⟩:∃W,W=(((w.alloc (.cells zS 30)).alloc (.cells #[.bool false] 4)).alloc (.cells #[.nilIface] 32)):=⟨_,rfl⟩
 rw[←hW] at hbx hb0
 have HW:Hid (W=(((w.alloc (.cells #[.string ⟨#[]⟩,.string ⟨#[]⟩,.int .i64 0,.bool false,.string ⟨#[]⟩,.string ⟨#[]⟩,.string ⟨#[]⟩,.int .i64 0,.slice none 0 0,.string ⟨#[]⟩,.string ⟨#[]⟩,.int .i64 0,.slice none 0 0,.int .i64 0,.slice none 0 0,.int .i64 0,.int .i64 0,.int .i64 0,.string ⟨#[]⟩] 30)).alloc (.cells #[.bool false] 4)).alloc (.cells #[.nilIface] 32))):=hW
 have hgw:=hg.step hb0
 obtain⟨m,hm⟩:=hgw.m
 have HI:=aA (NF s (by omega) m W hm)
 rw[hr] at HI
 have HG:=aA hgw
 have HK:Hid (0+1<(dB s).length):=by
  obtain⟨K,ts,e,_⟩:=WM hr
  have h1:=(LE s (by omega)).1.lastE 0 ⟨.w,K,0,0⟩ (by rw[e];rfl)
  have h2:¬0+1=(dB s).length:=fun h=>by have:=h1.1 h;cases this
  have h3:=(LE s (by omega)).2
  show _<_
  omega
 have HNo:=aA hf
 obtain⟨R,hR⟩:∃R,R=mD (dB s) f 0 0:=⟨_,rfl⟩
 rw[←hR]
 have HR:=aA hR
 clear hW hm hg hf hgw hR
 have hsz:¬(300:Int)<s.size:=by omega
 have HX:=aA hbx
 have HB0:=aA hb0
 have hbl:w.heap.size+1+1<W.heap.size:=(Array.getElem?_eq_some_iff.1 hbx.e).1
 have HT:=aA (fun V=>iN s (by omega) V)
 clear hbx hb0
 go_enter_defers Tryz.func6,Tryz.ntmps6
 go_upto_region 1 with fail
 rw[←HW.out]
 clear HW
 go_upto_region 6 with (go_at_call 14;refine HI.out.mono ?_;rintro e w' ⟨rfl,n,h9⟩;subst h9)
 have HX1:=aA (HX.out.below (Below.drewN_ W n))
 have HB1:=aA (HB0.out.trans ((Below.drewN_ W n).mono HB0.out.size))
 have HG1:=aA (HG.out.step (Below.drewN_ W n))
 have hbl1:w.heap.size+1+1<(W.drewN n).heap.size:=hbl
 generalize W.drewN n=V at *
 clear HX HB0 HG HI hbl
 obtain⟨be,hbe⟩:∃be,be=w.heap.size+1+1:=⟨_,rfl⟩
 obtain⟨bi,hbi⟩:∃bi,bi=w.heap.size+1:=⟨_,rfl⟩
 obtain⟨bs,hbs⟩:∃bs,bs=w.heap.size:=⟨_,rfl⟩
 rw[←hbe,←hbi,←hbs]
 rw[←hbe,←hbi,←hbs] at HX1
 have q4:¬bs=bi:=by omega
 have q5:¬bs=be:=by omega
 have q6:¬bi=be:=by omega
 have z1:bs<V.heap.size:=by omega
 have z2:bi<V.heap.size:=by omega
 have z3:be<V.heap.size:=by omega
 have HBB:=aA (aI hbs (aI hbi hbe))
 have HFin:Hid (∀U,Fr3 bs bi be V U→Below w.heap.size w U):=fun U hU=>HB1.out.trans (hU.below HB1.out.size (by omega) (by omega) (by omega))
 clear hbe hbi hbs hbl1
 have hzs:((300:Int)<s.size)↔False:=⟨fun h=>(by omega),False.elim⟩
 go_wp2_with (first
  |(go_at_call 17;refine(HT.out _).mono ?_;rintro e V1 ⟨v,rfl,hrow,hb1⟩;(obtain⟨tb,tc,rfl,h1,h2,h3,h4⟩:=oP (by omega) hrow);(have HQ:=aA (TM (s:=s) (by omega) (HG1.out.step hb1) h3 h2 h4));(have hv1:=hb1.size);(have HF2:Hid (Fr3 bs bi be V (V1.alloc (.cells #[.slice (some ⟨tb,0,none⟩) (dB s).length tc,.int .i64 0] 62))):=Fr3.of (hb1.alloc hb1.size _));(have HX2:=aA (HX1.out.below (hb1.alloc hb1.size (.cells #[.slice (some ⟨tb,0,none⟩) (dB s).length tc,.int .i64 0] 62))));clear h1 h2 h3 h4 hrow hb1)
  |(go_at_call 18;refine(XM HQ.out HK.out HNo.out).mono ?_;rintro e V3 hE;rcases hr9:mD (dB s) f 0 0 with _|⟨c9,a9⟩|⟨x,k3,n3⟩;(·exact absurd hr9 HNo.out);(·rw[hr9] at hE;(obtain⟨hb3,⟨p,rfl⟩⟩:=hE);(obtain rfl:R=.bad c9 a9:=(by rw[HR.out,hr9]));refine leaves_cons (f:=15) (args:=#[.pointer (some ⟨bs,0,none⟩),.pointer (some ⟨bi,0,none⟩),.pointer (some ⟨be,0,none⟩)]) (by simp) (by simp[go_sem]) ?_;refine(wS (HX2.out.x hb3 (by omega) (by omega) (by omega)) q4 q5 q6 _ _ []).mono ?_;rintro e u' w9 ⟨rfl,rfl,hx9,hf9⟩;exact⟨_,oE hx9 _ rfl rfl rfl,HFin.out _ ((HF2.out.x hb3 hv1).trans hf9),⟨_,rfl⟩⟩);rw[hr9] at hE;(obtain⟨hb3,hq3,v,rfl,cs,rfl,hsc⟩:=hE);(obtain rfl:R=.ok x k3 n3:=(by rw[HR.out,hr9]));(have HX3:=aA (HX2.out.x hb3 (by omega) (by omega) (by omega)));(have HY:=aA (HX3.out.setRow q4 q5 (cs':=cs) hsc.size));(obtain⟨ci,fi⟩:=HY.out.cell_i);(obtain⟨ce,fe⟩:=HY.out.cell_e);(have HS:=aA hsc);(have HF3:=aA (HF2.out.x hb3 hv1));clear hsc hb3 hq3)
  |(refine wpList_store_row rfl 30 (.tmp 2) (.tmp 22) rfl bs cs (by simp[Act.eval]) (by simp[Act.eval]) 30 zS HX3.out.s (infoSent.trans (by rw[HS.out.size])) (by rw[GD,HS.out.size]) HS.out.one ?_))
 refine leaves_cons (f:=15) (args:=#[.pointer (some ⟨bs,0,none⟩),.pointer (some ⟨bi,0,none⟩),.pointer (some ⟨be,0,none⟩)]) (by simp) (by simp[go_sem]) ?_
 refine(vS bs bi be _).mono ?_
 rintro e u' w9 ⟨rfl,rfl,rfl⟩
 refine⟨_,oE ((HY.out.setI q4 q6 true).setE q5 q6 .nilIface) _ rfl rfl rfl,HFin.out _ (((HF3.out.setRow cs).set (.inl rfl) _).set (.inr rfl) _),cs,rfl,HS.out.to ?_ fun b hb1 hb2=>?_⟩
 ·have:=HB1.out.size
  simp
  omega
 ·have hb1:V1.heap.size+1≤b:=by simpa using hb1
  rw[Below.heap_setCell _ _ _ _ (by show b≠be;omega),Below.heap_setCell _ _ _ _ (by show b≠bi;omega),AA (by omega)]
end Go.Proofs.YtehbinobohjadaaGreatDoor
namespace Go.Proofs.YtehbinobohjadaaGreatDoor
open Go.RowKit Go.Extern.Stop Go.Stop Go.Extern
def ID(t:Tn)(s:WS):Option WS:=
 if vA t.kind JB=true then MA s (bJ t.num)
 else if vA t.kind qB=true then MA s t.word
 else if vA t.kind wCount=true then CA s [wCount,t.word]
 else if vA t.kind wTotal=true then (match t.kids with
  |a::_=>CA s [wTotal,t.word,wOf,a.word]
  |_=>none)
 else if vA t.kind wMax=true∨vA t.kind wMin=true then (match t.kids with
  |a::b::_=>(CA s [t.kind,sg 40]).bind fun s=>(uD a 0 s).bind fun s=>(MA s (sg 44)).bind fun s=>(uD b 0 s).bind fun s=>MA s (sg 41)
  |_=>none)
 else none
def RG(t:Tn)(s:WS):Option WS:=if (iA ordersW t.kind).isSome=true then (match t.kids with
    |a::b::_=>(uD a 0 s).bind fun s=>(MA s t.kind).bind fun s=>uD b 0 s
    |_=>none) else none
theorem yE{t:Tn}(h:vA t.kind (sg 43)=true∨vA t.kind (sg 45)=true)(s:WS):cE t s=(PA s).bind fun s=>Option.map eC (match t.kids with
 |a::b::_=>(uD a 0 s).bind fun s=>(MA s t.kind).bind fun s=>uD b 1 s
 |_=>none):=by
 obtain⟨k,w,n,ks⟩:=t
 have h:vA k (sg 43)=true∨vA k (sg 45)=true:=h
 rw[cE]
 simp only[if_pos h]
 rfl
theorem QH{t:Tn}(h:¬(vA t.kind (sg 43)=true∨vA t.kind (sg 45)=true))(h2:vA t.kind (sg 42)=true)(s:WS):cE t s=(PA s).bind fun s=>Option.map eC (match t.kids with
 |a::_=>(uD a 1 s).bind fun s=>CA s [sg 42,bJ t.num,sg 37]
 |_=>none):=by
 obtain⟨k,w,n,ks⟩:=t
 have h:¬(vA k (sg 43)=true∨vA k (sg 45)=true):=h
 have h2:vA k (sg 42)=true:=h2
 rw[cE]
 simp only[if_neg h,if_pos h2]
 rfl
theorem oJ{t:Tn}(h:¬(vA t.kind (sg 43)=true∨vA t.kind (sg 45)=true))(h2:¬vA t.kind (sg 42)=true)(s:WS):cE t s=(PA s).bind fun s=>Option.map eC (ID t s):=by
 obtain⟨k,w,n,ks⟩:=t
 have h:¬(vA k (sg 43)=true∨vA k (sg 45)=true):=h
 have h2:¬vA k (sg 42)=true:=h2
 rw[cE]
 simp only[if_neg h,if_neg h2]
 rfl
theorem KD{t:Tn}(h:vA t.kind wOr=true∨vA t.kind wAnd=true)(s:WS):XB t s=(PA s).bind fun s=>Option.map eC (match t.kids with
 |a::b::_=>(SC a (AJ t.kind) s).bind fun s=>(MA s t.kind).bind fun s=>SC b (AJ t.kind+1) s
 |_=>none):=by
 obtain⟨k,w,n,ks⟩:=t
 have h:vA k wOr=true∨vA k wAnd=true:=h
 rw[XB]
 simp only[if_pos h]
 rfl
theorem AG{t:Tn}(h:¬(vA t.kind wOr=true∨vA t.kind wAnd=true))(h2:vA t.kind wNot=true)(s:WS):XB t s=(PA s).bind fun s=>Option.map eC (match t.kids with
 |a::_=>(MA s wNot).bind fun s=>SC a 2 s
 |_=>none):=by
 obtain⟨k,w,n,ks⟩:=t
 have h:¬(vA k wOr=true∨vA k wAnd=true):=h
 have h2:vA k wNot=true:=h2
 rw[XB]
 simp only[if_neg h,if_pos h2]
 rfl
theorem AF{t:Tn}(h:¬(vA t.kind wOr=true∨vA t.kind wAnd=true))(h2:¬vA t.kind wNot=true)(h3:vA t.kind wSome=true∨vA t.kind wEvery=true)(s:WS):XB t s=(PA s).bind fun s=>Option.map eC (match t.kids with
 |a::_=>(CA s [t.kind,t.word,sg 40]).bind fun s=>(SC a 0 s).bind fun s=>MA s (sg 41)
 |_=>none):=by
 obtain⟨k,w,n,ks⟩:=t
 have h:¬(vA k wOr=true∨vA k wAnd=true):=h
 have h2:¬vA k wNot=true:=h2
 have h3:vA k wSome=true∨vA k wEvery=true:=h3
 rw[XB]
 simp only[if_neg h,if_neg h2,if_pos h3]
 rfl
theorem KF{t:Tn}(h:¬(vA t.kind wOr=true∨vA t.kind wAnd=true))(h2:¬vA t.kind wNot=true)(h3:¬(vA t.kind wSome=true∨vA t.kind wEvery=true))(s:WS):XB t s=(PA s).bind fun s=>Option.map eC (if vA t.kind qB=true then MA s t.word else RG t s):=by
 obtain⟨k,w,n,ks⟩:=t
 have h:¬(vA k wOr=true∨vA k wAnd=true):=h
 have h2:¬vA k wNot=true:=h2
 have h3:¬(vA k wSome=true∨vA k wEvery=true):=h3
 rw[XB]
 simp only[if_neg h,if_neg h2,if_neg h3]
 rfl
theorem vM{t:Tn}(h:¬(vA t.kind wOr=true∨vA t.kind wAnd=true))(h2:¬vA t.kind wNot=true)(h3:¬(vA t.kind wSome=true∨vA t.kind wEvery=true))(h4:vA t.kind qB=true)(s:WS):XB t s=(PA s).bind fun s=>Option.map eC (MA s t.word):=by
 rw[KF h h2 h3]
 simp only[if_pos h4]
theorem BO{t:Tn}(h:¬(vA t.kind wOr=true∨vA t.kind wAnd=true))(h2:¬vA t.kind wNot=true)(h3:¬(vA t.kind wSome=true∨vA t.kind wEvery=true))(h4:¬vA t.kind qB=true)(s:WS):XB t s=(PA s).bind fun s=>Option.map eC (RG t s):=by
 rw[KF h h2 h3]
 simp only[if_neg h4]
theorem aB{s s':WS}{x:ByteArray}(h:MA s x=some s'):s'.d=s.d:=by
 unfold MA at h
 split at h
 ·cases h
 ·injection h with h;rw[←h]
theorem JC:∀{l:List ByteArray} {s s':WS},CA s l=some s'→s'.d=s.d
 | [],s,s',h=>by injection h with h;rw[h]
 |x::l,s,s',h=>by
  rw[CA,Option.bind_eq_some_iff] at h
  obtain⟨s1,h1,h2⟩:=h
  rw[JC h2,aB h1]
theorem RT{k:ByteArray}{lv:Nat}{go:WS→Option WS}(hg:∀s s',go s=some s'→s'.d=s.d){s s':WS}(h:wP k lv go s=some s'):s'.d=s.d:=by
 unfold wP at h
 split at h
 ·rw[Option.bind_eq_some_iff] at h
  obtain⟨s1,h1,h⟩:=h
  rw[Option.bind_eq_some_iff] at h
  obtain⟨s2,h2,h⟩:=h
  rw[aB h,hg _ _ h2,aB h1]
 ·exact hg _ _ h
theorem OT{k:ByteArray}{lv:Nat}{go:WS→Option WS}(hg:∀s s',go s=some s'→s'.d=s.d){s s':WS}(h:NP k lv go s=some s'):s'.d=s.d:=by
 unfold NP at h
 split at h
 ·rw[Option.bind_eq_some_iff] at h
  obtain⟨s1,h1,h⟩:=h
  rw[Option.bind_eq_some_iff] at h
  obtain⟨s2,h2,h⟩:=h
  rw[aB h,hg _ _ h2,aB h1]
 ·exact hg _ _ h
theorem nH{s s':WS}{f:WS→Option WS}(hf:∀s s',f s=some s'→s'.d=s.d)(h:((PA s).bind fun s=>Option.map eC (f s))=some s'):s'.d=s.d:=by
 rw[Option.bind_eq_some_iff] at h
 obtain⟨s1,h1,h⟩:=h
 rw[Option.map_eq_some_iff] at h
 obtain⟨s2,h2,rfl⟩:=h
 have:=hf _ _ h2
 unfold PA at h1
 split at h1
 ·cases h1
 ·injection h1 with h1
  subst h1
  have this:s2.d=s.d+1:=this
  show s2.d - 1=s.d
  omega
theorem NC{s s':WS}{r:Option WS}{f:WS→Option WS}(hr:∀s1,r=some s1→s1.d=s.d)(hf:∀s1 s',f s1=some s'→s'.d=s1.d)(h:r.bind f=some s'):s'.d=s.d:=by
 rw[Option.bind_eq_some_iff] at h
 obtain⟨s1,h1,h⟩:=h
 rw[hf _ _ h,hr _ h1]
theorem gE{t a:Tn}{i:Nat}(h:t.kids[i]?=some a):SizeOf.sizeOf a<SizeOf.sizeOf t:=by
 obtain⟨k,w,n,ks⟩:=t
 have h1:=List.sizeOf_lt_of_mem (List.mem_of_getElem? h)
 simp only[Tn.mk.sizeOf_spec]
 have:SizeOf.sizeOf (Tn.kids (.mk k w n ks))=SizeOf.sizeOf ks:=rfl
 omega
theorem GR:∀(n:Nat) (t:Tn),SizeOf.sizeOf t=n→∀s s',cE t s=some s'→s'.d=s.d:=by
 intro n
 induction n using Nat.strongRecOn with
 |_ n ih=>
  intro t ht s s' h
  have ihk:∀(i:Nat) (a:Tn) (lv:Nat),t.kids[i]?=some a→∀s s',uD a lv s=some s'→s'.d=s.d:=fun i a lv ha s s' h=>RT (ih _ (by have:=gE ha;omega) a rfl) h
  by_cases h1:vA t.kind (sg 43)=true∨vA t.kind (sg 45)=true
  ·rw[yE h1] at h
   refine nH (fun s s' h=>?_) h
   split at h
   ·rename_i a b r e
    exact NC (fun _ h=>ihk 0 a _ (by rw[e];rfl) _ _ h) (fun _ _ h=>NC (fun _ h=>aB h) (fun _ _ h=>ihk 1 b _ (by rw[e];rfl) _ _ h) h) h
   ·cases h
  ·by_cases h2:vA t.kind (sg 42)=true
   ·rw[QH h1 h2] at h
    refine nH (fun s s' h=>?_) h
    split at h
    ·rename_i a r e
     exact NC (fun _ h=>ihk 0 a _ (by rw[e];rfl) _ _ h) (fun _ _ h=>JC h) h
    ·cases h
   ·rw[oJ h1 h2] at h
    refine nH (fun s s' h=>?_) h
    unfold ID at h
    split at h
    ·exact aB h
    ·split at h
     ·exact aB h
     ·split at h
      ·exact JC h
      ·split at h
       ·split at h
        ·exact JC h
        ·cases h
       ·split at h
        ·split at h
         ·rename_i a b r e
          exact NC (fun _ h=>JC h) (fun _ _ h=>NC (fun _ h=>ihk 0 a _ (by rw[e];rfl) _ _ h) (fun _ _ h=>NC (fun _ h=>aB h) (fun _ _ h=>NC (fun _ h=>ihk 1 b _ (by rw[e];rfl) _ _ h) (fun _ _ h=>aB h) h) h) h) h
         ·cases h
        ·cases h
theorem oD{t:Tn}{lv:Nat}{s s':WS}(h:uD t lv s=some s'):s'.d=s.d:=RT (GR _ t rfl) h
theorem PU{t:Tn}{s s':WS}(h:ID t s=some s'):s'.d=s.d:=by
 unfold ID at h
 split at h
 ·exact aB h
 ·split at h
  ·exact aB h
  ·split at h
   ·exact JC h
   ·split at h
    ·split at h
     ·exact JC h
     ·cases h
    ·split at h
     ·split at h
      ·exact NC (fun _ h=>JC h) (fun _ _ h=>NC (fun _ h=>oD h) (fun _ _ h=>NC (fun _ h=>aB h) (fun _ _ h=>NC (fun _ h=>oD h) (fun _ _ h=>aB h) h) h) h) h
      ·cases h
     ·cases h
theorem IU{t:Tn}{s s':WS}(h:RG t s=some s'):s'.d=s.d:=by
 unfold RG at h
 split at h
 ·split at h
  ·exact NC (fun _ h=>oD h) (fun _ _ h=>NC (fun _ h=>aB h) (fun _ _ h=>oD h) h) h
  ·cases h
 ·cases h
theorem DN:∀(n:Nat) (t:Tn),SizeOf.sizeOf t=n→∀s s',XB t s=some s'→s'.d=s.d:=by
 intro n
 induction n using Nat.strongRecOn with
 |_ n ih=>
  intro t ht s s' h
  have ihk:∀(i:Nat) (a:Tn) (lv:Nat),t.kids[i]?=some a→∀s s',SC a lv s=some s'→s'.d=s.d:=fun i a lv ha s s' h=>OT (ih _ (by have:=gE ha;omega) a rfl) h
  by_cases h1:vA t.kind wOr=true∨vA t.kind wAnd=true
  ·rw[KD h1] at h
   refine nH (fun s s' h=>?_) h
   split at h
   ·rename_i a b r e
    exact NC (fun _ h=>ihk 0 a _ (by rw[e];rfl) _ _ h) (fun _ _ h=>NC (fun _ h=>aB h) (fun _ _ h=>ihk 1 b _ (by rw[e];rfl) _ _ h) h) h
   ·cases h
  ·by_cases h2:vA t.kind wNot=true
   ·rw[AG h1 h2] at h
    refine nH (fun s s' h=>?_) h
    split at h
    ·rename_i a r e
     exact NC (fun _ h=>aB h) (fun _ _ h=>ihk 0 a _ (by rw[e];rfl) _ _ h) h
    ·cases h
   ·by_cases h3:vA t.kind wSome=true∨vA t.kind wEvery=true
    ·rw[AF h1 h2 h3] at h
     refine nH (fun s s' h=>?_) h
     split at h
     ·rename_i a r e
      exact NC (fun _ h=>JC h) (fun _ _ h=>NC (fun _ h=>ihk 0 a _ (by rw[e];rfl) _ _ h) (fun _ _ h=>aB h) h) h
     ·cases h
    ·rw[KF h1 h2 h3] at h
     refine nH (fun s s' h=>?_) h
     split at h
     ·exact aB h
     ·unfold RG at h
      split at h
      ·split at h
       ·exact NC (fun _ h=>oD h) (fun _ _ h=>NC (fun _ h=>aB h) (fun _ _ h=>oD h) h) h
       ·cases h
      ·cases h
theorem LF{t:Tn}{lv:Nat}{s s':WS}(h:SC t lv s=some s'):s'.d=s.d:=OT (DN _ t rfl) h
end Go.Proofs.YtehbinobohjadaaGreatDoor
