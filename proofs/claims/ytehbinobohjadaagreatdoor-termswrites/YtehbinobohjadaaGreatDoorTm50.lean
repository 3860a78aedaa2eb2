import Derived.Test.YtehbinobohjadaaGreatDoorTm00
import Derived.Test.YtehbinobohjadaaGreatDoorTm49
import Derived.Test.YtehbinobohjadaaGreatDoorTm44
import Derived.Test.YtehbinobohjadaaGreatDoorTie
import Derived.Test.YtehbinobohjadaaGreatDoorCards
import Derived.SevenTiedAt
import Derived.Lay
import Derived.ProofKit
import Derived.LaidMore
import Derived.OpenShut
import Derived.Stop.Joined
import Derived.WideLaws
import Derived.ChangeMaps5
set_option maxHeartbeats 20000000
set_option maxRecDepth 20000
namespace Go.Proofs.YtehbinobohjadaaGreatDoor
open Go.ChangeShapes Go.WideShapes Go.ChangeAt Go.WideMaps Go.WideElems Go.RowKit
theorem rI(os:Os)(args:Array Value):laidMetH Tryz.prog Rows.termsWritesRow.laid ((World.doorLaid Tryz.prog 400 os).forCall (fun _ _=>0) ⟨#[],args,[]⟩).memory:=
 laidMetH_of_parts3 (fuel:=8) (laidMet_of_run' 8 (by kernel_rfl) (by kernel_rfl)) (by kernel_rfl) (by kernel_rfl)
set_option maxRecDepth 100000 in
theorem iH(os:Os)(started:os.Started)(H:Type)(enc:TypeId×Value→H):
 ReturnsInHanded {} Tryz.checked os 4 .any (fun w args=>(Rows.termsWritesSpec.pre enc Tryz.prog Tryz.f4 [] false w args∧laidMetH Tryz.prog Rows.termsWritesRow.laid w)∧sizedMet enc Tryz.prog Tryz.f4 (OpenSpec.ofChange Rows.termsWritesSpec) false w args)
  (Rows.termsWritesSpec.post enc Tryz.prog Tryz.f4 false true false false):=by
 refine uG (C:=Tryz.checked) (X:=fun w _=>laidMetH Tryz.prog Rows.termsWritesRow.laid w) (fun _ _ _ hh h=>h.of_heap hh) Tryz.ownAll started (by kernel_rfl) Tryz.func4
  (ChangeSpec.witness_shaped (enc:=enc) (C:=Tryz.checked) (os:=os) (X:=fun w _=>laidMetH Tryz.prog Rows.termsWritesRow.laid w) false (World.doorLaid Tryz.prog 400 os) #[.pointer none] 8 rfl (World.shaped_of_RefB (by kernel_rfl) (by kernel_rfl)) (by kernel_rfl) (by kernel_rfl) (by kernel_rfl) (rI os _)) ?_
 intro W base args ds gs before hval0 hW hwt hL hsh
 have hW':=hW
 obtain⟨p,q,hA0,hV,rfl,hfz,hnd⟩:=hW
 have hA:DataW.TrodAll enc Tryz.prog W 0 (fun _=>true) true Tryz.f4.params.toList args.toList ds p:=hA0
 have hlt:=DataW.TrodAll.lt hA
 have hval:∀(j:Nat) t v,Tryz.f4.params[j]?=some t→args[j]?=some v→Value.okWide Tryz.prog W .any base t v:=hval0
 rw[Tryz.params4] at hA hval
 obtain⟨v0,d0,rfl,rfl,h0⟩:=trodAll_one hA
 obtain⟨rfl,rfl⟩:=trodVars_none hV
 have hwn:∀z,z∈d0.weights Tryz.prog 38→z≤reachBytes:=fun z hz=>by
  have h9:(d0.weights Tryz.prog 38++DataW.weightsEach Tryz.prog _ []).all (·≤reachBytes)=true:=hwt
  have:=List.all_eq_true.1 h9 z (List.mem_append_left _ hz)
  simpa using this
 obtain⟨pp,hE⟩:=uN hL hsh
 letI:Inhabited TP:=⟨⟨pp 0⟩⟩
 have hlaw:Calls Tryz.prog 4 #[v0] W (DP W):=by
  rcases zR (hval 0 38 v0 rfl rfl) h0 hwn with rfl|⟨b,o,x,ca,sa,cc,sc,oa,oc,cs,rfl,hO,hT,hno,hcl⟩
  ·exact wN hE
  ·exact vN hO hE hT hno hcl
 clear hA0 hval0
 simp only[List.append_nil] at hW'
 refine hlaw.mono fun e W' ⟨he,hb⟩=>?_
 subst he
 have e1:Rows.termsWritesSpec.fn H ([d0]++[])={results:=[.lit (.bool true)],args:=[d0]}:=rfl
 refine⟨_,rfl,_,_,_,[],p,[],hW',?_,?_,?_,hb.frame _,fun h=>by cases h⟩
 ·rw[e1];exact trodAll_mk1 (shut_bool Tryz.underlying4 true)
 ·rw[e1]
  exact trodAll_mk1 (Below.trod Tryz.laidOutAll (by kernel_rfl) (of_decide_eq_true (by kernel_rfl)) h0 hb (fun x hx=>hlt x hx))
 ·rw[e1];rfl
theorem DI:Rows.TermsWritesSaid:=
 OpenClaim.holds_of_wide 4 Tryz.f4 rfl rfl rfl rfl rfl rfl rfl ⟨rfl,rfl,rfl,rfl,rfl⟩ rfl rfl rfl rfl rfl (by kernel_rfl) Tryz.func4 (by kernel_rfl)
  (of_decide_eq_true (by kernel_rfl)) (by unfold Func.isWrapper;rw[if_neg (of_decide_eq_false (by kernel_rfl))];exact⟨rfl,rfl⟩)
  (fun os started H enc _=>iH os started H enc)
theorem termsWrites_holds:Rows.TermsWritesCardSaid:=
 Claim7.holds_tied_plain_at .later [] _ _ _ _
  DI (fun _ h=>by cases h) (by kernel_rfl) (fun _ h=>by cases h) termsWrites_row_tie rfl ⟨rfl,rfl⟩ (by kernel_rfl) rfl
  (fun f fn hf hfn=>by
    obtain rfl:f=4:=Option.some.inj ((show Tryz.prog.funcNamed "statute/statutelaw3.TermsWrites"=some 4 by kernel_rfl).symm.trans hf)|>.symm
    obtain rfl:fn=Tryz.f4:=(Option.some.inj (Tryz.func4.symm.trans hfn)).symm
    exact⟨by kernel_rfl,fun j t ht=>by
     rw[Tryz.params4] at ht
     have hm:t∈[38]:=by
      have:=Array.mem_of_getElem? ht
      simpa using this
     have hall:([38].all fun u=>!Tryz.prog.wantsStandIn u)=true:=by kernel_rfl
     exact(show Tryz.prog.wantsStandIn t=false by simpa using List.all_eq_true.1 hall t hm)⟩)
  (by kernel_rfl)
end Go.Proofs.YtehbinobohjadaaGreatDoor
