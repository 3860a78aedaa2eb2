import Derived.Test.YtpbolcjcmkmalaaGreatDoorAq00
import Derived.Test.YtpbolcjcmkmalaaGreatDoorAq16
import Derived.Test.YtpbolcjcmkmalaaGreatDoorShelfL
import Derived.Test.YtpbolcjcmkmalaaGreatDoorAq06
import Derived.Test.YtpbolcjcmkmalaaGreatDoorAq44
import Derived.Test.YtpbolcjcmkmalaaGreatDoorAq41
import Derived.Test.YtpbolcjcmkmalaaGreatDoorTie
import Derived.Test.YtpbolcjcmkmalaaGreatDoorCards
import Derived.Lib.LaidU8
import Derived.MakeChecks
import Derived.LaidMore
import Derived.HandedShaped
import Derived.Shelf.Vars
import Derived.SevenTiedAt
import Derived.Lay
import Derived.JoinedCond
import Derived.Deep.DeepHandedRow
set_option maxHeartbeats 20000000
set_option maxRecDepth 20000
namespace Go.Proofs.YtpbolcjcmkmalaaGreatDoor
open Go.ChangeShapes Go.WideShapes Go.ChangeAt Go.WideMaps Go.WideElems Go.RowKit
open Go.Lib Go.Proofs
open Go.ChangeMaps (open_string shut_string)
theorem pF{W:World}(h:laidMetH Tryz.prog Rows.amendAppliesUptoRow.laid W):(∃p,Laid W p)∧Lib.Utf8Tabs 13 14 W:=by
 obtain⟨h1,h2⟩:=PH (rest:=("unicode/utf8.acceptRanges",Rows.laid_unicode_utf8_acceptRanges)::(sentList.map (fun x=>(x.1,tP x.2.2))++[("unicode/utf8.first",Rows.laid_unicode_utf8_first)])) (h:=("errors.errorType",Rows.laid_errors_errorType)) (hs:=[]) (by kernel_rfl) (by kernel_rfl) h
 refine⟨mQ h1.tail h2,?_⟩
 have e1:(Rows.laid_unicode_utf8_first:DataW Unit)=firstData:=by kernel_rfl
 have e2:(Rows.laid_unicode_utf8_acceptRanges:DataW Unit)=acceptData:=by kernel_rfl
 have h3:VarReads Tryz.prog W "unicode/utf8.first" firstData:=by
  rw[←e1]
  exact Lib.laidMet.reads h1 (.tail _ (List.mem_append_right _ (.head _)))
 have h4:VarReads Tryz.prog W "unicode/utf8.acceptRanges" acceptData:=by rw[←e2];exact Lib.laidMet.reads h1 (.head _)
 exact utf8Tabs_of_reads (ρ:=Tryz.lays238_ren) {Tryz.lays238 with} ⟨by kernel_rfl,by kernel_rfl,by kernel_rfl,by kernel_rfl,by kernel_rfl,by kernel_rfl,by kernel_rfl⟩ h3 h4
theorem qN{W:World}(h:W.ShapedOpen Tryz.prog):∃m,W.cell? ⟨12,0,none⟩=some (.int .i64 m):=
 cell_of_shapedOpen_int (g:=12) (t:=3) (zero:=#[.int .i64 0]) h (of_decide_eq_true (by kernel_rfl)) (by kernel_rfl) rfl (by kernel_rfl) (by kernel_rfl) Tryz.underlying3
theorem dG{W:World}(h:laidMetH Tryz.prog Rows.amendAppliesUptoRow.laid W)(hs:W.ShapedOpen Tryz.prog):∃p m,Env W p m:=by
 obtain⟨⟨p,hp⟩,ht⟩:=pF h
 obtain⟨m,hm⟩:=qN hs
 exact⟨p,m,hp,ht,hm⟩
theorem Tryz.own3:ownKnob Tryz.prog.godebug=none:=by kernel_rfl
theorem Tryz.laidOutW:laidOutB Tryz.prog=true:=by kernel_rfl
theorem UB:((Rows.amendAppliesUptoRow.laid.filter fun x=>x.2.handleName?.isNone).filter fun x=>["unicode/utf8.first"].contains x.1)=[("unicode/utf8.first",Rows.laid_unicode_utf8_first)]:=by kernel_rfl
theorem oF(os:Os):(World.doorLaid Tryz.prog 400 os).layFits Tryz.prog [("unicode/utf8.first",Rows.laid_unicode_utf8_first)] ((List.range (World.doorLaid Tryz.prog 400 os).heap.size).filter fun b=>b !=13)=true:=by kernel_rfl
theorem eG(os:Os)(args:Array Value):laidMet Tryz.prog (Rows.amendAppliesUptoRow.laid.filter fun x=>x.2.handleName?.isNone) (((World.doorLaid Tryz.prog 400 os).layVars Tryz.prog [("unicode/utf8.first",Rows.laid_unicode_utf8_first)]).forCall (fun _ _=>0) ⟨#[],args,[]⟩).memory:=by
 refine laidMet_layVars (w0:=World.doorLaid Tryz.prog 400 os) ["unicode/utf8.first"] ((List.range (World.doorLaid Tryz.prog 400 os).heap.size).filter fun b=>b !=13) ?_ ?_ ?_ ?_
 ·rw[UB];simp[World.memory,World.forCall,Input.heap]
 ·rw[UB];exact oF os
 ·rw[UB];kernel_rfl
 ·exact LaidIn.of_run _ 8 (by kernel_rfl) (by kernel_rfl) (by kernel_rfl) (by kernel_rfl)
theorem nF(os:Os)(args:Array Value):laidMetH Tryz.prog Rows.amendAppliesUptoRow.laid (((World.doorLaid Tryz.prog 400 os).layVars Tryz.prog [("unicode/utf8.first",Rows.laid_unicode_utf8_first)]).forCall (fun _ _=>0) ⟨#[],args,[]⟩).memory:=
 laidMetH_of_parts (eG os args) (by kernel_rfl)
def iG:Value:=.agg #[.string ⟨#[]⟩,.string ⟨#[]⟩,.slice none 0 0,.slice none 0 0]
theorem OE(os:Os){H:Type}(enc:TypeId×Value→H):∃places,DataW.whole enc Tryz.prog (((World.doorLaid Tryz.prog 400 os).layVars Tryz.prog [("unicode/utf8.first",Rows.laid_unicode_utf8_first)]).forCall (fun _ _=>0) ⟨#[],#[iG,.slice none 0 0],[]⟩).memory Tryz.f3.params.toList Rows.amendAppliesSpec.vars false #[iG,.slice none 0 0].toList 8=some ([.agg [.lit (.string []),.lit (.string []),.nil,.nil],.nil],[],places):=
 ⟨[],by kernel_rfl⟩
set_option maxRecDepth 100000 in
theorem GE(os:Os)(started:os.Started)(H:Type)(enc:TypeId×Value→H)(F:Stop.Interp):
 ReturnsInHanded {} Tryz.checked os 3 .any ((Rows.OpenSpec.upto Rows.amendAppliesSpec).preRow enc Tryz.prog Tryz.f3 Rows.amendAppliesUptoRow.domain false Rows.amendAppliesUptoRow.laid) (((Rows.OpenSpec.upto Rows.amendAppliesSpec).at F).post enc Tryz.prog Tryz.f3 false true false false):=by
 obtain⟨places,hx⟩:=OE os enc
 refine returnsInHanded_of_row (C:=Tryz.checked) (s:=Rows.OpenSpec.upto Rows.amendAppliesSpec) Tryz.own3 started (by kernel_rfl) Tryz.func3
  ⟨(World.doorLaid Tryz.prog 400 os).layVars Tryz.prog [("unicode/utf8.first",Rows.laid_unicode_utf8_first)],fun _ _=>0,⟨#[],#[iG,.slice none 0 0],[]⟩,World.layVars_os _ _ _,World.shaped_of_ZipB (by kernel_rfl) (by kernel_rfl),rfl,(Input.okWide_of_okWideB (by kernel_rfl)).2,
    OpenSpec.preRow_of_cond 8 hx (by kernel_rfl) (fun k hkk=>by cases hkk;kernel_rfl) (by kernel_rfl) (nF os _),by
     simp only[Assume.holds]
     exact⟨by simp,by simp,by simp,by simp,by simp⟩⟩ ?_
 intro W base args ds gs before hval0 hW _ hcond _ hL hsh _
 have hW':=hW
 obtain⟨p,q,hA0,hV,rfl,hfz,hnd⟩:=hW
 have hA:DataW.TrodAll enc Tryz.prog W 0 (fun _=>true) true Tryz.f3.params.toList args.toList ds p:=hA0
 have hlt:=DataW.TrodAll.lt hA
 have hval:∀(j:Nat) t v,Tryz.f3.params[j]?=some t→args[j]?=some v→Value.okWide Tryz.prog W .any base t v:=hval0
 rw[Tryz.params3] at hA hval
 obtain⟨v0,v1,d0,d1,p0,p1,rfl,rfl,rfl,h0,h1⟩:=trodAll_two hA
 obtain⟨rfl,rfl⟩:=trodVars_none hV
 have hbd:Rows.uptoBulkAll ([d0,d1]++[])≤1048576:=of_decide_eq_true (hcond _ rfl)
 rw[List.append_nil,Rows.uptoBulkAll,Rows.uptoBulkAll,Rows.uptoBulkAll] at hbd
 obtain⟨t0,u0,hv0,hLi0,hsz0⟩:=iN (hval 0 25 v0 rfl rfl) h0 (dH hfz fun x hx=>by simp[hx])
 obtain⟨oa1,oc1,ops1,hv1,hnil1,hcap1,hlen1,hops1⟩:=YO (hval 1 26 v1 rfl rfl) h1 (dH hfz fun x hx=>by simp[hx]) (by omega)
 obtain⟨pa,m,hE⟩:=dG hL hsh
 have hb0:=qF t0 (by omega) ops1 oa1 oc1 pa m W hE u0 hLi0 hops1 hlen1
 rw[←hv0,←hv1] at hb0
 clear hA0 hval0
 simp only[List.append_nil] at hW'
 refine hb0.mono fun e W' ⟨he,hb⟩=>?_
 subst he
 have e1:Rows.amendAppliesSpec.fn H ([d0,d1]++[])={results:=[.lit (.bool true)],args:=[d0,d1]}:=rfl
 refine⟨_,rfl,_,_,_,[],p0++(p1),[],hW',?_,?_,?_,hb.frame _,fun h=>by cases h⟩
 ·show DataW.TrodAll _ _ _ _ _ _ _ _ (Rows.amendAppliesSpec.fn H ([d0,d1]++[])).results _
  rw[e1];exact trodAll_mk1 (shut_bool Tryz.underlying4 true)
 ·show DataW.TrodAll _ _ _ _ _ _ _ _ (Rows.amendAppliesSpec.fn H ([d0,d1]++[])).args _
  rw[e1];exact trodAll_mk2 (Below.trod Tryz.laidOutW (by kernel_rfl) (of_decide_eq_true (by kernel_rfl)) h0 hb (fun x hx=>hlt x (by simp[hx]))) (Below.trod Tryz.laidOutW (by kernel_rfl) (of_decide_eq_true (by kernel_rfl)) h1 hb (fun x hx=>hlt x (by simp[hx])))
 ·rfl
theorem fG:Rows.AmendAppliesUptoSaid:=
 OpenClaim.holds_of_cond 3 Tryz.f3 rfl rfl rfl rfl rfl rfl rfl ⟨rfl,rfl,rfl,rfl,rfl⟩ rfl rfl rfl rfl rfl (by kernel_rfl) Tryz.func3 (by kernel_rfl)
  (of_decide_eq_true (by kernel_rfl)) (by unfold Func.isWrapper;rw[if_neg (of_decide_eq_false (by kernel_rfl))];exact⟨rfl,rfl⟩)
  (fun os started H enc _ F=>by rw[OpenClaim.pre_eq_preRow];exact GE os started H enc F)
theorem amendApplies_holds:Rows.AmendAppliesUptoCardSaid:=
 Claim7.holds_tied_plain_at .later [] _ _ _ _ fG (fun _ h=>by cases h) (by kernel_rfl) (fun _ h=>by cases h) amendAppliesUpto_row_tie rfl ⟨rfl,rfl⟩ (by kernel_rfl) rfl
  (fun f fn hf hfn=>by
    obtain rfl:f=3:=Option.some.inj ((show Tryz.prog.funcNamed "statute/statutelaw2.AmendApplies"=some 3 by kernel_rfl).symm.trans hf)|>.symm
    obtain rfl:fn=Tryz.f3:=(Option.some.inj (Tryz.func3.symm.trans hfn)).symm
    exact⟨by kernel_rfl,fun j t ht=>by
     rw[Tryz.params3] at ht
     have hm:t∈[25,26]:=by
      have:=Array.mem_of_getElem? ht
      simpa using this
     have hall:([25,26].all fun u=>!Tryz.prog.wantsStandIn u)=true:=by kernel_rfl
     exact(show Tryz.prog.wantsStandIn t=false by simpa using List.all_eq_true.1 hall t hm)⟩)
  (by kernel_rfl)
end Go.Proofs.YtpbolcjcmkmalaaGreatDoor
