import Derived.Test.YtehbinobohjadaaGreatDoorTm00
import Derived.Test.YtehbinobohjadaaGreatDoorTm15
import Derived.Test.YtehbinobohjadaaGreatDoorTm09
import Derived.Test.YtehbinobohjadaaGreatDoorTm17
import Derived.Test.YtehbinobohjadaaGreatDoorTm11
set_option maxHeartbeats 20000000
set_option maxRecDepth 20000
namespace Go.Proofs.YtehbinobohjadaaGreatDoor
open Go.RowKit Go.Extern.Stop Go.Stop Go.Extern
theorem aH(c:UInt8)(w:World):Calls Tryz.prog 72 #[.int .u8 c.toNat] w fun e w'=>e=.returned (.bool (PB c))∧w'=w:=by
 have hO:Hid (PB c=(decide (97≤c.toNat)&&decide (c.toNat≤122))):=rfl
 generalize PB c=O at *
 by_cases h1:97≤c.toNat
 ·go_enter Tryz.func72,Tryz.ntmps72
  go_wp2
  go_ret
  exact⟨CB (by rw[hO.out,Bool.eq_iff_iff];simp;try omega),rfl⟩
 ·go_enter Tryz.func72,Tryz.ntmps72
  go_wp2
  go_ret
  exact⟨CB (by rw[hO.out,Bool.eq_iff_iff];simp;try omega),rfl⟩
theorem cI(c:UInt8)(w:World):Calls Tryz.prog 75 #[.int .u8 c.toNat] w fun e w'=>e=.returned (.bool (lA c))∧w'=w:=by
 have hO:Hid (lA c=(decide (48≤c.toNat)&&decide (c.toNat≤57))):=rfl
 generalize lA c=O at *
 by_cases h1:48≤c.toNat
 ·go_enter Tryz.func75,Tryz.ntmps75
  go_wp2
  go_ret
  exact⟨CB (by rw[hO.out,Bool.eq_iff_iff];simp;try omega),rfl⟩
 ·go_enter Tryz.func75,Tryz.ntmps75
  go_wp2
  go_ret
  exact⟨CB (by rw[hO.out,Bool.eq_iff_iff];simp;try omega),rfl⟩
theorem CG(c:UInt8)(w:World):Calls Tryz.prog 74 #[.int .u8 c.toNat] w fun e w'=>e=.returned (.bool (JA c))∧w'=w:=by
 have hO:Hid (JA c=(PB c||lA c||decide (c.toNat=95))):=rfl
 have HL:=aA (aH c)
 have HD:=aA (cI c)
 generalize JA c=O at *
 generalize PB c=A at *
 generalize lA c=D at *
 cases A
 all_goals cases D
 all_goals (
  go_enter Tryz.func74,Tryz.ntmps74
  go_wp2_with (first|(go_at_call 72;refine(HL.out _).mono ?_;rintro e w' ⟨rfl,rfl⟩)|(go_at_call 75;refine(HD.out _).mono ?_;rintro e w' ⟨rfl,rfl⟩))
  go_ret
  exact⟨CB (by rw[hO.out,Bool.eq_iff_iff];simp;try omega),rfl⟩)
structure Ends(L:List Tok):Prop where
 nx:∀k,k<L.length→(cA L k).kind≠.e→k+1<L.length
 tx:∀k,k<L.length→(cA L k).kind=.e→(cA L k).text.toList=[]
theorem EB{L:List Tok}(h:Ends L){k n k' n':Nat}{x:Unit}(hk:k<L.length)(he:(cA L k).kind≠.e)(e:pA L k n=.ok x k' n'):k'=k+1∧k'<L.length:=by
 have h1:=h.nx k hk he
 unfold pA at e
 have h2:jF L k=k+1:=by unfold jF;rw[if_pos h1]
 split at e
 ·cases e
 ·injection e with _ e _
  omega
theorem oT{L:List Tok}(h:Ends L){k:Nat}(hk:k<L.length){l:List UInt8}(hl:l≠[])(e:(cA L k).text.toList=l):(cA L k).kind≠.e:=by
 intro h9
 rw[h.tx k hk h9] at e
 exact hl e.symm
theorem vD{L:List Tok}(h:Ends L){k:Nat}(hk:k<L.length){s:ByteArray}(hs:s.toList≠[])(e:vA (cA L k).text s=true):(cA L k).kind≠.e:=by
 unfold vA at e
 exact oT h hk hs (by simpa using e)
theorem rK{L:List Tok}{k:Nat}{s:ByteArray}(e:qK L s k=true):(cA L k).kind≠.e:=by
 unfold qK at e
 simp at e
 exact e.1
theorem IG{L:List Tok}(h:Ends L){s:ByteArray}{k n k' n':Nat}{b:Bool}(hk:k<L.length)(e:yB L s k n=.ok b k' n'):(b=true→k'=k+1)∧(b=false→k'=k)∧k'<L.length:=by
 unfold yB at e
 split at e
 ·rename_i hi
  obtain⟨_,_,_,h1,h2⟩:=PR.bind_eq e
  injection h2 with h2 h3 _
  have:=EB h hk (rK hi) h1
  subst h2
  exact⟨fun _=>(by omega),fun e=>(by cases e),by omega⟩
 ·injection e with e1 e2 _
  subst e1
  exact⟨fun e=>(by cases e),fun _=>e2.symm,by omega⟩
theorem pC{L:List Tok}(h:Ends L){s:ByteArray}{k n k' n':Nat}{x:Unit}(hk:k<L.length)(e:oA L s k n=.ok x k' n'):k'=k+1∧k'<L.length:=by
 unfold oA at e
 split at e
 ·rename_i hi
  exact EB h hk (rK hi) e
 ·cases e
theorem iE{L:List Tok}(h:Ends L){k n k' n':Nat}{x:ByteArray}(hk:k<L.length)(e:uB L k n=.ok x k' n'):k'=k+1∧k'<L.length:=by
 unfold uB at e
 split at e
 ·rename_i hi
  obtain⟨_,_,_,h1,h2⟩:=PR.bind_eq e
  injection h2 with _ h3 _
  have:=EB h hk (by rw[hi.1];intro h;cases h) h1
  omega
 ·cases e
theorem YC{L:List Tok}{k n k' n':Nat}{x:Unit}(e:qA L k n=.ok x k' n'):k'=k:=by
 unfold qA at e
 split at e
 ·cases e
 ·injection e with _ e _;exact e.symm
theorem cO(c:UInt8):(sg c).toList≠[]:=by unfold sg;rw[Lib.toList_data];intro h;cases h
structure Mono(L:List Tok)(f:Nat):Prop where
 ei:∀k n x k' n',k<L.length→zA L f k n=.ok x k' n'→k<k'∧k'<L.length
 ol:∀y k n x k' n',k<L.length→sC L f y k n=.ok x k' n'→k≤k'∧k'<L.length
 bo:∀k n x k' n',k<L.length→cD L f k n=.ok x k' n'→k<k'∧k'<L.length
 al:∀y k n x k' n',k<L.length→RB L f y k n=.ok x k' n'→k≤k'∧k'<L.length
 un:∀k n x k' n',k<L.length→lB L f k n=.ok x k' n'→k<k'∧k'<L.length
 te:∀k n x k' n',k<L.length→XD L f k n=.ok x k' n'→k<k'∧k'<L.length
 su:∀k n x k' n',k<L.length→IB L f k n=.ok x k' n'→k<k'∧k'<L.length
 sl:∀y k n x k' n',k<L.length→FB L f y k n=.ok x k' n'→k≤k'∧k'<L.length
 pa:∀k n x k' n',k<L.length→FC L f k n=.ok x k' n'→k<k'∧k'<L.length
 pl:∀y k n x k' n',k<L.length→cB L f y k n=.ok x k' n'→k≤k'∧k'<L.length
 fa:∀k n x k' n',k<L.length→LB L f k n=.ok x k' n'→k<k'∧k'<L.length
theorem mono{L:List Tok}(hE:Ends L):∀f,Mono L f
 |0=>by
  constructor<;>intros<;>rename_i h<;>simp only[zA,sC,cD,RB,lB,XD,IB,FB,FC,cB,LB] at h<;>cases h
 |f+1=>by
  have ih:=mono hE f
  constructor
  ·intro k n x k' n' hk h
   rw[zA] at h
   obtain⟨_,_,_,h1,h2⟩:=PR.bind_eq h
   have a1:=ih.bo _ _ _ _ _ hk h1
   have a2:=ih.ol _ _ _ _ _ _ a1.2 h2
   omega
  ·intro y k n x k' n' hk h
   rw[sC] at h
   obtain⟨b,_,_,h1,h2⟩:=PR.bind_eq h
   have a1:=IG hE hk h1
   split at h2
   ·rename_i hb
    obtain⟨_,_,_,h3,h4⟩:=PR.bind_eq h2
    have a2:=ih.bo _ _ _ _ _ a1.2.2 h3
    have a3:=ih.ol _ _ _ _ _ _ a2.2 h4
    have a4:=a1.1 hb
    omega
   ·rename_i hb
    injection h2 with _ h2 _
    have a4:=a1.2.1 (by simpa using hb)
    omega
  ·intro k n x k' n' hk h
   rw[cD] at h
   obtain⟨_,_,_,h1,h2⟩:=PR.bind_eq h
   have a1:=ih.un _ _ _ _ _ hk h1
   have a2:=ih.al _ _ _ _ _ _ a1.2 h2
   omega
  ·intro y k n x k' n' hk h
   rw[RB] at h
   obtain⟨b,_,_,h1,h2⟩:=PR.bind_eq h
   have a1:=IG hE hk h1
   split at h2
   ·rename_i hb
    obtain⟨_,_,_,h3,h4⟩:=PR.bind_eq h2
    have a2:=ih.un _ _ _ _ _ a1.2.2 h3
    have a3:=ih.al _ _ _ _ _ _ a2.2 h4
    have a4:=a1.1 hb
    omega
   ·rename_i hb
    injection h2 with _ h2 _
    have a4:=a1.2.1 (by simpa using hb)
    omega
  ·intro k n x k' n' hk h
   rw[lB] at h
   split at h
   ·rename_i hi
    obtain⟨_,_,_,h1,h⟩:=PR.bind_eq h
    obtain⟨_,_,_,h2,h⟩:=PR.bind_eq h
    obtain⟨_,_,_,h3,h⟩:=PR.bind_eq h
    injection h with _ h _
    have a1:=YC h1
    subst a1
    have a2:=EB hE hk (rK hi) h2
    have a3:=ih.un _ _ _ _ _ a2.2 h3
    omega
   ·exact ih.te _ _ _ _ _ hk h
  ·intro k n x k' n' hk h
   rw[XD] at h
   split at h
   ·rename_i hi
    obtain⟨_,_,_,h1,h⟩:=PR.bind_eq h
    obtain⟨_,_,_,h2,h⟩:=PR.bind_eq h
    obtain⟨_,_,_,h3,h⟩:=PR.bind_eq h
    obtain⟨_,_,_,h4,h⟩:=PR.bind_eq h
    injection h with _ h _
    have a1:=YC h1
    subst a1
    have a2:=EB hE hk (vD hE hk (cO _) hi) h2
    have a3:=ih.ei _ _ _ _ _ a2.2 h3
    have a4:=pC hE a3.2 h4
    omega
   ·split at h
    ·rename_i hi
     have hne:(cA L k).kind≠.e:=by
      rcases hi with hi|hi
      ·exact vD hE hk (by unfold wSome;rw[Lib.toList_data];intro h;cases h) hi
      ·exact vD hE hk (by unfold wEvery;rw[Lib.toList_data];intro h;cases h) hi
     obtain⟨_,_,_,h1,h⟩:=PR.bind_eq h
     obtain⟨_,_,_,h2,h⟩:=PR.bind_eq h
     obtain⟨_,_,_,h3,h⟩:=PR.bind_eq h
     obtain⟨_,_,_,h4,h⟩:=PR.bind_eq h
     obtain⟨_,_,_,h5,h⟩:=PR.bind_eq h
     obtain⟨_,_,_,h6,h⟩:=PR.bind_eq h
     injection h with _ h _
     have a1:=YC h1
     subst a1
     have a2:=EB hE hk hne h2
     have a3:=iE hE a2.2 h3
     have a4:=pC hE a3.2 h4
     have a5:=ih.ei _ _ _ _ _ a4.2 h5
     have a6:=pC hE a5.2 h6
     omega
    ·obtain⟨_,_,_,h1,h⟩:=PR.bind_eq h
     have a1:=ih.su _ _ _ _ _ hk h1
     split at h
     ·rename_i hi
      obtain⟨_,_,_,h2,h⟩:=PR.bind_eq h
      obtain⟨_,_,_,h3,h⟩:=PR.bind_eq h
      injection h with _ h _
      have a2:=EB hE a1.2 (by rw[hi.1];intro h;cases h) h2
      have a3:=ih.su _ _ _ _ _ a2.2 h3
      omega
     ·split at h
      ·injection h with _ h _;omega
      ·cases h
  ·intro k n x k' n' hk h
   rw[IB] at h
   obtain⟨_,_,_,h1,h2⟩:=PR.bind_eq h
   have a1:=ih.pa _ _ _ _ _ hk h1
   have a2:=ih.sl _ _ _ _ _ _ a1.2 h2
   omega
  ·intro y k n x k' n' hk h
   rw[FB] at h
   split at h
   ·rename_i hi
    obtain⟨_,_,_,h1,h⟩:=PR.bind_eq h
    obtain⟨_,_,_,h2,h⟩:=PR.bind_eq h
    have a1:=EB hE hk (by rw[hi.1];intro h;cases h) h1
    have a2:=ih.pa _ _ _ _ _ a1.2 h2
    have a3:=ih.sl _ _ _ _ _ _ a2.2 h
    omega
   ·injection h with _ h _;omega
  ·intro k n x k' n' hk h
   rw[FC] at h
   obtain⟨_,_,_,h1,h2⟩:=PR.bind_eq h
   have a1:=ih.fa _ _ _ _ _ hk h1
   have a2:=ih.pl _ _ _ _ _ _ a1.2 h2
   omega
  ·intro y k n x k' n' hk h
   rw[cB] at h
   obtain⟨b,_,_,h1,h⟩:=PR.bind_eq h
   have a1:=IG hE hk h1
   split at h
   ·rename_i hb
    split at h
    ·rename_i hi
     split at h
     ·cases h
     ·obtain⟨_,_,_,h2,h⟩:=PR.bind_eq h
      obtain⟨_,_,_,h3,h⟩:=PR.bind_eq h
      have a2:=EB hE a1.2.2 (by rw[hi];intro h;cases h) h2
      have a3:=pC hE a2.2 h3
      have a4:=ih.pl _ _ _ _ _ _ a3.2 h
      have a5:=a1.1 hb
      omega
    ·cases h
   ·rename_i hb
    injection h with _ h _
    have a5:=a1.2.1 (by simpa using hb)
    omega
  ·intro k n x k' n' hk h
   rw[LB] at h
   split at h
   ·rename_i hi
    split at h
    ·cases h
    ·obtain⟨_,_,_,h1,h⟩:=PR.bind_eq h
     injection h with _ h _
     have:=EB hE hk (by rw[hi];intro h;cases h) h1
     omega
   ·split at h
    ·rename_i hi
     obtain⟨_,_,_,h1,h⟩:=PR.bind_eq h
     obtain⟨_,_,_,h2,h⟩:=PR.bind_eq h
     injection h with _ h _
     have a1:=EB hE hk (vD hE hk (by unfold wCount;rw[Lib.toList_data];intro h;cases h) hi) h1
     have a2:=iE hE a1.2 h2
     omega
    ·split at h
     ·rename_i hi
      obtain⟨_,_,_,h1,h⟩:=PR.bind_eq h
      obtain⟨_,_,_,h2,h⟩:=PR.bind_eq h
      obtain⟨_,_,_,h3,h⟩:=PR.bind_eq h
      obtain⟨_,_,_,h4,h⟩:=PR.bind_eq h
      injection h with _ h _
      have a1:=EB hE hk (vD hE hk (by unfold wTotal;rw[Lib.toList_data];intro h;cases h) hi) h1
      have a2:=iE hE a1.2 h2
      have a3:=pC hE a2.2 h3
      have a4:=iE hE a3.2 h4
      omega
     ·split at h
      ·rename_i hi
       have hne:(cA L k).kind≠.e:=by
        rcases hi with hi|hi
        ·exact vD hE hk (by unfold wMax;rw[Lib.toList_data];intro h;cases h) hi
        ·exact vD hE hk (by unfold wMin;rw[Lib.toList_data];intro h;cases h) hi
       obtain⟨_,_,_,h1,h⟩:=PR.bind_eq h
       obtain⟨_,_,_,h2,h⟩:=PR.bind_eq h
       obtain⟨_,_,_,h3,h⟩:=PR.bind_eq h
       obtain⟨_,_,_,h4,h⟩:=PR.bind_eq h
       obtain⟨_,_,_,h5,h⟩:=PR.bind_eq h
       obtain⟨_,_,_,h6,h⟩:=PR.bind_eq h
       obtain⟨_,_,_,h7,h⟩:=PR.bind_eq h
       injection h with _ h _
       have a1:=YC h1
       subst a1
       have a2:=EB hE hk hne h2
       have a3:=pC hE a2.2 h3
       have a4:=ih.su _ _ _ _ _ a3.2 h4
       have a5:=pC hE a4.2 h5
       have a6:=ih.su _ _ _ _ _ a5.2 h6
       have a7:=pC hE a6.2 h7
       omega
      ·split at h
       ·rename_i hi
        obtain⟨_,_,_,h1,h⟩:=PR.bind_eq h
        obtain⟨_,_,_,h2,h⟩:=PR.bind_eq h
        obtain⟨_,_,_,h3,h⟩:=PR.bind_eq h
        obtain⟨_,_,_,h4,h⟩:=PR.bind_eq h
        injection h with _ h _
        have a1:=YC h1
        subst a1
        have a2:=EB hE hk (vD hE hk (cO _) hi) h2
        have a3:=ih.su _ _ _ _ _ a2.2 h3
        have a4:=pC hE a3.2 h4
        omega
       ·obtain⟨_,_,_,h1,h⟩:=PR.bind_eq h
        injection h with _ h _
        have a1:=iE hE hk h1
        omega
theorem PR.bind_outE{α β:Type}{r:PR α}{f:α→Nat→Nat→PR β}(h:r.bind f=.out):r=.out∨∃x k n,r=.ok x k n∧f x k n=.out:=by
 cases r with
 |out=>exact .inl rfl
 |bad c a=>cases h
 |ok x k n=>exact .inr ⟨x,k,n,rfl,h⟩
structure Fine(L:List Tok)(k:Nat):Prop where
 fa:∀f n,20 * (L.length - k)+1≤f→LB L f k n≠.out
 pl:∀f y n,20 * (L.length - k)+1≤f→cB L f y k n≠.out
 pa:∀f n,20 * (L.length - k)+3≤f→FC L f k n≠.out
 sl:∀f y n,20 * (L.length - k)+1≤f→FB L f y k n≠.out
 su:∀f n,20 * (L.length - k)+5≤f→IB L f k n≠.out
 te:∀f n,20 * (L.length - k)+7≤f→XD L f k n≠.out
 un:∀f n,20 * (L.length - k)+9≤f→lB L f k n≠.out
 al:∀f y n,20 * (L.length - k)+1≤f→RB L f y k n≠.out
 bo:∀f n,20 * (L.length - k)+11≤f→cD L f k n≠.out
 ol:∀f y n,20 * (L.length - k)+1≤f→sC L f y k n≠.out
 ei:∀f n,20 * (L.length - k)+13≤f→zA L f k n≠.out
theorem IS{L:List Tok}(hE:Ends L):∀m k,k<L.length→L.length - k≤m→Fine L k
 |0,k,hk,hm=>by omega
 |m+1,k,hk,hm=>by
  have ih:∀k',k<k'→k'<L.length→Fine L k':=fun k' h1 h2=>IS hE m k' h2 (by omega)
  have fa:∀f n,20 * (L.length - k)+1≤f→LB L f k n≠.out:=by
   intro f n hf h
   obtain⟨f,rfl⟩:∃g,f=g+1:=⟨f - 1,by omega⟩
   rw[LB] at h
   split at h
   ·rename_i hi
    split at h
    ·cases h
    ·rcases PR.bind_outE h with h0|⟨_,c1,_,e1,g1⟩
     ·exact DA _ _ _ h0
     have a1:=EB hE hk (by rw[hi];intro h;cases h) e1
     cases g1
   ·split at h
    ·rename_i hi
     rcases PR.bind_outE h with h0|⟨_,c1,_,e1,g1⟩
     ·exact DA _ _ _ h0
     have a1:=EB hE hk (vD hE hk (by unfold wCount;rw[Lib.toList_data];intro h;cases h) hi) e1
     rcases PR.bind_outE g1 with h0|⟨_,c2,_,e2,g2⟩
     ·exact sD _ _ _ h0
     have a2:=iE hE a1.2 e2
     cases g2
    ·split at h
     ·rename_i hi
      rcases PR.bind_outE h with h0|⟨_,c1,_,e1,g1⟩
      ·exact DA _ _ _ h0
      have a1:=EB hE hk (vD hE hk (by unfold wTotal;rw[Lib.toList_data];intro h;cases h) hi) e1
      rcases PR.bind_outE g1 with h0|⟨_,c2,_,e2,g2⟩
      ·exact sD _ _ _ h0
      have a2:=iE hE a1.2 e2
      rcases PR.bind_outE g2 with h0|⟨_,c3,_,e3,g3⟩
      ·exact ZC _ _ _ _ h0
      have a3:=pC hE a2.2 e3
      rcases PR.bind_outE g3 with h0|⟨_,c4,_,e4,g4⟩
      ·exact sD _ _ _ h0
      have a4:=iE hE a3.2 e4
      cases g4
     ·split at h
      ·rename_i hi
       have hne:(cA L k).kind≠.e:=by
        rcases hi with hi|hi
        ·exact vD hE hk (by unfold wMax;rw[Lib.toList_data];intro h;cases h) hi
        ·exact vD hE hk (by unfold wMin;rw[Lib.toList_data];intro h;cases h) hi
       rcases PR.bind_outE h with h0|⟨_,c1,_,e1,g1⟩
       ·exact YA _ _ _ h0
       have d1:=YC e1
       subst d1
       rcases PR.bind_outE g1 with h0|⟨_,c2,_,e2,g2⟩
       ·exact DA _ _ _ h0
       have a2:=EB hE hk hne e2
       rcases PR.bind_outE g2 with h0|⟨_,c3,_,e3,g3⟩
       ·exact ZC _ _ _ _ h0
       have a3:=pC hE a2.2 e3
       rcases PR.bind_outE g3 with h0|⟨_,c4,_,e4,g4⟩
       ·exact(ih _ (by omega) a3.2).su _ _ (by omega) h0
       have a4:=(mono hE _).su _ _ _ _ _ a3.2 e4
       rcases PR.bind_outE g4 with h0|⟨_,c5,_,e5,g5⟩
       ·exact ZC _ _ _ _ h0
       have a5:=pC hE a4.2 e5
       rcases PR.bind_outE g5 with h0|⟨_,c6,_,e6,g6⟩
       ·exact(ih _ (by omega) a5.2).su _ _ (by omega) h0
       have a6:=(mono hE _).su _ _ _ _ _ a5.2 e6
       rcases PR.bind_outE g6 with h0|⟨_,c7,_,e7,g7⟩
       ·exact ZC _ _ _ _ h0
       have a7:=pC hE a6.2 e7
       cases g7
      ·split at h
       ·rename_i hi
        rcases PR.bind_outE h with h0|⟨_,c1,_,e1,g1⟩
        ·exact YA _ _ _ h0
        have d1:=YC e1
        subst d1
        rcases PR.bind_outE g1 with h0|⟨_,c2,_,e2,g2⟩
        ·exact DA _ _ _ h0
        have a2:=EB hE hk (vD hE hk (cO _) hi) e2
        rcases PR.bind_outE g2 with h0|⟨_,c3,_,e3,g3⟩
        ·exact(ih _ (by omega) a2.2).su _ _ (by omega) h0
        have a3:=(mono hE _).su _ _ _ _ _ a2.2 e3
        rcases PR.bind_outE g3 with h0|⟨_,c4,_,e4,g4⟩
        ·exact ZC _ _ _ _ h0
        have a4:=pC hE a3.2 e4
        cases g4
       ·rcases PR.bind_outE h with h0|⟨_,c1,_,e1,g1⟩
        ·exact sD _ _ _ h0
        have a1:=iE hE hk e1
        cases g1
  have pl:∀f y n,20 * (L.length - k)+1≤f→cB L f y k n≠.out:=by
   intro f y n hf h
   obtain⟨f,rfl⟩:∃g,f=g+1:=⟨f - 1,by omega⟩
   rw[cB] at h
   rcases PR.bind_outE h with h0|⟨b,c1,_,e1,h⟩
   ·exact dE _ _ _ _ h0
   have a1:=IG hE hk e1
   split at h
   ·rename_i hb
    have b1:=a1.1 hb
    split at h
    ·rename_i hi
     split at h
     ·cases h
     ·rcases PR.bind_outE h with h0|⟨_,c2,_,e2,h⟩
      ·exact DA _ _ _ h0
      have a2:=EB hE a1.2.2 (by rw[hi];intro h;cases h) e2
      rcases PR.bind_outE h with h0|⟨_,c3,_,e3,h⟩
      ·exact ZC _ _ _ _ h0
      have a3:=pC hE a2.2 e3
      exact(ih _ (by omega) a3.2).pl _ _ _ (by omega) h
    ·cases h
   ·cases h
  have pa:∀f n,20 * (L.length - k)+3≤f→FC L f k n≠.out:=by
   intro f n hf h
   obtain⟨f,rfl⟩:∃g,f=g+1:=⟨f - 1,by omega⟩
   rw[FC] at h
   rcases PR.bind_outE h with h0|⟨_,c1,_,e1,h⟩
   ·exact fa _ _ (by omega) h0
   have a1:=(mono hE _).fa _ _ _ _ _ hk e1
   exact(ih _ a1.1 a1.2).pl _ _ _ (by omega) h
  have sl:∀f y n,20 * (L.length - k)+1≤f→FB L f y k n≠.out:=by
   intro f y n hf h
   obtain⟨f,rfl⟩:∃g,f=g+1:=⟨f - 1,by omega⟩
   rw[FB] at h
   split at h
   ·rename_i hi
    rcases PR.bind_outE h with h0|⟨_,c1,_,e1,h⟩
    ·exact DA _ _ _ h0
    have a1:=EB hE hk (by rw[hi.1];intro h;cases h) e1
    rcases PR.bind_outE h with h0|⟨_,c2,_,e2,h⟩
    ·exact(ih _ (by omega) a1.2).pa _ _ (by omega) h0
    have a2:=(mono hE _).pa _ _ _ _ _ a1.2 e2
    exact(ih _ (by omega) a2.2).sl _ _ _ (by omega) h
   ·cases h
  have su:∀f n,20 * (L.length - k)+5≤f→IB L f k n≠.out:=by
   intro f n hf h
   obtain⟨f,rfl⟩:∃g,f=g+1:=⟨f - 1,by omega⟩
   rw[IB] at h
   rcases PR.bind_outE h with h0|⟨_,c1,_,e1,h⟩
   ·exact pa _ _ (by omega) h0
   have a1:=(mono hE _).pa _ _ _ _ _ hk e1
   exact(ih _ a1.1 a1.2).sl _ _ _ (by omega) h
  have te:∀f n,20 * (L.length - k)+7≤f→XD L f k n≠.out:=by
   intro f n hf h
   obtain⟨f,rfl⟩:∃g,f=g+1:=⟨f - 1,by omega⟩
   rw[XD] at h
   split at h
   ·rename_i hi
    rcases PR.bind_outE h with h0|⟨_,c1,_,e1,g1⟩
    ·exact YA _ _ _ h0
    have d1:=YC e1
    subst d1
    rcases PR.bind_outE g1 with h0|⟨_,c2,_,e2,g2⟩
    ·exact DA _ _ _ h0
    have a2:=EB hE hk (vD hE hk (cO _) hi) e2
    rcases PR.bind_outE g2 with h0|⟨_,c3,_,e3,g3⟩
    ·exact(ih _ (by omega) a2.2).ei _ _ (by omega) h0
    have a3:=(mono hE _).ei _ _ _ _ _ a2.2 e3
    rcases PR.bind_outE g3 with h0|⟨_,c4,_,e4,g4⟩
    ·exact ZC _ _ _ _ h0
    have a4:=pC hE a3.2 e4
    cases g4
   ·split at h
    ·rename_i hi
     have hne:(cA L k).kind≠.e:=by
      rcases hi with hi|hi
      ·exact vD hE hk (by unfold wSome;rw[Lib.toList_data];intro h;cases h) hi
      ·exact vD hE hk (by unfold wEvery;rw[Lib.toList_data];intro h;cases h) hi
     rcases PR.bind_outE h with h0|⟨_,c1,_,e1,g1⟩
     ·exact YA _ _ _ h0
     have d1:=YC e1
     subst d1
     rcases PR.bind_outE g1 with h0|⟨_,c2,_,e2,g2⟩
     ·exact DA _ _ _ h0
     have a2:=EB hE hk hne e2
     rcases PR.bind_outE g2 with h0|⟨_,c3,_,e3,g3⟩
     ·exact sD _ _ _ h0
     have a3:=iE hE a2.2 e3
     rcases PR.bind_outE g3 with h0|⟨_,c4,_,e4,g4⟩
     ·exact ZC _ _ _ _ h0
     have a4:=pC hE a3.2 e4
     rcases PR.bind_outE g4 with h0|⟨_,c5,_,e5,g5⟩
     ·exact(ih _ (by omega) a4.2).ei _ _ (by omega) h0
     have a5:=(mono hE _).ei _ _ _ _ _ a4.2 e5
     rcases PR.bind_outE g5 with h0|⟨_,c6,_,e6,g6⟩
     ·exact ZC _ _ _ _ h0
     have a6:=pC hE a5.2 e6
     cases g6
    ·rcases PR.bind_outE h with h0|⟨_,c1,_,e1,h⟩
     ·exact su _ _ (by omega) h0
     have a1:=(mono hE _).su _ _ _ _ _ hk e1
     split at h
     ·rename_i hi
      rcases PR.bind_outE h with h0|⟨_,c2,_,e2,h⟩
      ·exact DA _ _ _ h0
      have a2:=EB hE a1.2 (by rw[hi.1];intro h;cases h) e2
      rcases PR.bind_outE h with h0|⟨_,c3,_,e3,h⟩
      ·exact(ih _ (by omega) a2.2).su _ _ (by omega) h0
      cases h
     ·split at h
      ·cases h
      ·cases h
  have un:∀f n,20 * (L.length - k)+9≤f→lB L f k n≠.out:=by
   intro f n hf h
   obtain⟨f,rfl⟩:∃g,f=g+1:=⟨f - 1,by omega⟩
   rw[lB] at h
   split at h
   ·rename_i hi
    rcases PR.bind_outE h with h0|⟨_,c1,_,e1,g1⟩
    ·exact YA _ _ _ h0
    have d1:=YC e1
    subst d1
    rcases PR.bind_outE g1 with h0|⟨_,c2,_,e2,g2⟩
    ·exact DA _ _ _ h0
    have a2:=EB hE hk (rK hi) e2
    rcases PR.bind_outE g2 with h0|⟨_,c3,_,e3,g3⟩
    ·exact(ih _ (by omega) a2.2).un _ _ (by omega) h0
    have a3:=(mono hE _).un _ _ _ _ _ a2.2 e3
    cases g3
   ·exact te _ _ (by omega) h
  have al:∀f y n,20 * (L.length - k)+1≤f→RB L f y k n≠.out:=by
   intro f y n hf h
   obtain⟨f,rfl⟩:∃g,f=g+1:=⟨f - 1,by omega⟩
   rw[RB] at h
   rcases PR.bind_outE h with h0|⟨b,c1,_,e1,h⟩
   ·exact dE _ _ _ _ h0
   have a1:=IG hE hk e1
   split at h
   ·rename_i hb
    have b1:=a1.1 hb
    rcases PR.bind_outE h with h0|⟨_,c2,_,e2,h⟩
    ·exact(ih _ (by omega) a1.2.2).un _ _ (by omega) h0
    have a2:=(mono hE _).un _ _ _ _ _ a1.2.2 e2
    exact(ih _ (by omega) a2.2).al _ _ _ (by omega) h
   ·cases h
  have bo:∀f n,20 * (L.length - k)+11≤f→cD L f k n≠.out:=by
   intro f n hf h
   obtain⟨f,rfl⟩:∃g,f=g+1:=⟨f - 1,by omega⟩
   rw[cD] at h
   rcases PR.bind_outE h with h0|⟨_,c1,_,e1,h⟩
   ·exact un _ _ (by omega) h0
   have a1:=(mono hE _).un _ _ _ _ _ hk e1
   exact(ih _ a1.1 a1.2).al _ _ _ (by omega) h
  have ol:∀f y n,20 * (L.length - k)+1≤f→sC L f y k n≠.out:=by
   intro f y n hf h
   obtain⟨f,rfl⟩:∃g,f=g+1:=⟨f - 1,by omega⟩
   rw[sC] at h
   rcases PR.bind_outE h with h0|⟨b,c1,_,e1,h⟩
   ·exact dE _ _ _ _ h0
   have a1:=IG hE hk e1
   split at h
   ·rename_i hb
    have b1:=a1.1 hb
    rcases PR.bind_outE h with h0|⟨_,c2,_,e2,h⟩
    ·exact(ih _ (by omega) a1.2.2).bo _ _ (by omega) h0
    have a2:=(mono hE _).bo _ _ _ _ _ a1.2.2 e2
    exact(ih _ (by omega) a2.2).ol _ _ _ (by omega) h
   ·cases h
  have ei:∀f n,20 * (L.length - k)+13≤f→zA L f k n≠.out:=by
   intro f n hf h
   obtain⟨f,rfl⟩:∃g,f=g+1:=⟨f - 1,by omega⟩
   rw[zA] at h
   rcases PR.bind_outE h with h0|⟨_,c1,_,e1,h⟩
   ·exact bo _ _ (by omega) h0
   have a1:=(mono hE _).bo _ _ _ _ _ hk e1
   exact(ih _ a1.1 a1.2).ol _ _ _ (by omega) h
  exact⟨fa,pl,pa,sl,su,te,un,al,bo,ol,ei⟩
structure LineR(x:SentW)(s:ByteArray)(L:List Tok)(k:Nat):Prop where
 kind:x.kind=wDefine∨x.kind=wRule∨x.kind=wAmount∨x.kind=wDuty
 cut:∃r,s.data.toList=x.kind.data.toList++32::r
 sz:s.size≤300
 tk:VH s x.kind.size=L
 good:GoodL L
 rd:uJ L (1000 * (s.size+1)) x.kind=.ok x k 0
end Go.Proofs.YtehbinobohjadaaGreatDoor
