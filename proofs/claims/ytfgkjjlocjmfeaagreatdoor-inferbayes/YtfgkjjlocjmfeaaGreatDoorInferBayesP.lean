/- InferBayes: for every raw numbers of a net (three lists of numbers and a truth value) and three lists of ints that the form lets be read the law returns true, and all arguments read as before; conditions: the listed tables of Go's library read as the row lists them (the card ties that to the text of the program). -/
import Derived.Test.YtfgkjjlocjmfeaaGreatDoorLimb5
set_option maxRecDepth 100000
set_option maxHeartbeats 400000000
set_option linter.unusedSimpArgs false
set_option linter.unusedVariables false
namespace Go.Proofs.YtfgkjjlocjmfeaaGreatDoor
open Go.ChangeShapes Go.WideShapes Go.ChangeAt Go.RowKit
open Go.ChangeMaps (open_string shut_string)
theorem laidOut:laidOutB Tryz.prog=true:=by kernel_rfl
theorem own:ownKnob Tryz.prog.godebug=none:=by kernel_rfl
theorem lifted (os:Os) (started:os.Started) (H:Type) (enc:TypeId×Value ->H):
  ReturnsInHanded {} Tryz.checked os 5 .any (fun w args=>(Rows.inferBayesSpec.pre enc Tryz.prog Tryz.f5 Rows.inferBayesRow.domain false w args/\laidMetH Tryz.prog Rows.inferBayesRow.laid w)/\sizedMet enc Tryz.prog Tryz.f5 (OpenSpec.ofChange Rows.inferBayesSpec) false w args)
   (Rows.inferBayesSpec.post enc Tryz.prog Tryz.f5 false true false false):=by
 refine agF (C:=Tryz.checked) (X:=fun w _=>laidMetH Tryz.prog Rows.inferBayesRow.laid w) (fun _ _ _ hh h=>h.of_heap hh) own started (by kernel_rfl) Tryz.func5
  (ChangeSpec.witness_shaped (enc:=enc) (C:=Tryz.checked) (os:=os) (X:=fun w _=>laidMetH Tryz.prog Rows.inferBayesRow.laid w) false (World.laidAll Tryz.prog os Rows.inferBayesRow.laid) #[.agg #[.slice none 0 0,.slice none 0 0,.slice none 0 0,.bool false],.slice none 0 0,.slice none 0 0,.slice none 0 0] 8 (World.laidAll_os _ _ _)
   (World.shaped_of_ZipB (by kernel_rfl) (by kernel_rfl)) (by kernel_rfl) (by kernel_rfl) (by kernel_rfl)
   (by rw[MakeChecks.laidMetH_plain _ _ _ (by kernel_rfl)];exact laidMet_laidAll _ (by kernel_rfl) (by kernel_rfl))) ?_
 intro W base args ds gs before ag8 hW wA hL uo;have hval:∀(j:Nat) t v,Tryz.f5.params[j]? =some t ->args[j]? =some v ->Value.okWide Tryz.prog W .any base t v:=ag8;have hsz:(DataW.weightsEach Tryz.prog (Tryz.f5.params.toList++Rows.inferBayesSpec.plain.varTypes Tryz.prog) (ds++gs)).all (·<=reachBytes)=true:=wA;have hW':=hW;obtain⟨p,q,rU,hV,rfl,hfz,jO⟩:=hW;have hA:DataW.TrodAll enc Tryz.prog W 0 (fun _=>true) true Tryz.f5.params.toList args.toList ds p:=rU;have ah6:=fun (W':World) (hb:Below W.heap.size W W')=>aaQ laidOut hb (by kernel_rfl) hA;rw[Tryz.params5] at hA hval hsz;obtain⟨v0,vs0,d0,ds0,p0,q0,al5,rfl,rfl,h0,r0⟩:=trodAll_cons hA;obtain⟨v1,vs1,d1,ds1,p1,q1,rfl,rfl,rfl,h1,r1⟩:=trodAll_cons r0;obtain⟨v2,vs2,d2,ds2,p2,q2,rfl,rfl,rfl,h2,r2⟩:=trodAll_cons r1;obtain⟨v3,vs3,d3,ds3,p3,q3,rfl,rfl,rfl,h3,r3⟩:=trodAll_cons r2;obtain⟨rfl,rfl,rfl⟩:=trodAll_nil r3;obtain rfl:args= #[v0,v1,v2,v3]:=by cases args;simp_all
 obtain⟨rfl,rfl⟩:=trodVars_none hV;obtain⟨k1,k2,k3,e1,e2,e3,L1,L2,L3,bk,f1,f2,f3,f4,rfl,rfl,hJ1,hJ2,hJ3,Ed,hf2,hf3,g1,g2,g3⟩:=afd (hval 0 48 v0 rfl rfl) h0;obtain⟨a1,c1,l1,rfl,QB,_,qu,hr1⟩:=open_ints (hval 1 27 v1 rfl rfl) h1;obtain⟨a2,c2,l2,rfl,Ld,_,pL,hr2⟩:=open_ints (hval 2 27 v2 rfl rfl) h2;obtain⟨a3,c3,l3,rfl,Ho,_,P6,hr3⟩:=open_ints (hval 3 27 v3 rfl rfl) h3;obtain⟨s1,s2,s3⟩:=ac9 hsz (j:=0) rfl rfl Ed hf2 hf3;have t1:=Dp hsz (j:=1) rfl rfl qu;have t2:=Dp hsz (j:=2) rfl rfl pL;have t3:=Dp hsz (j:=3) rfl rfl P6;have walk:=agO k1 k2 k3 a1 a2 a3 e1 e2 e3 c1 c2 c3 L1 L2 L3 l1 l2 l3 bk W hJ1 hJ2 hJ3 QB Ld Ho ⟨s1,g1⟩ ⟨s2,g2⟩ ⟨s3,g3⟩ ⟨t1,hr1⟩ ⟨t2,hr2⟩ ⟨t3,hr3⟩;refine walk.af fun e W' ⟨he,hb⟩=>?_;subst he;exact⟨_,rfl,_,_,_,[],_,[],hW',trodAll_mk1 (shut_bool Tryz.underlying4 _),ah6 W' hb,rfl,hb.frame _,fun h=>by cases h⟩
theorem said:Rows.InferBayesSaid:=
 OpenClaim.holds_of_wide 5 Tryz.f5 rfl rfl rfl rfl rfl rfl rfl ⟨rfl,rfl,rfl,rfl,rfl⟩ rfl rfl rfl rfl rfl (by kernel_rfl) Tryz.func5 (by kernel_rfl)
  (rk (by kernel_rfl)) (by unfold Func.isWrapper;first |(rw[aA (by decide+kernel)];kernel_rfl) |(rw[aD (by decide+kernel)];exact⟨rfl,rfl⟩))
  (fun os started H enc _=>lifted os started H enc)
theorem plain (f:FuncId) (fn:Func) (hf:Tryz.pinned.checked.prog.funcNamed "augur/augurlaw.InferBayes"=some f) (hfn:Tryz.pinned.checked.prog.funcs[f]? =some fn):
  false=Tryz.pinned.checked.prog.looks []/\∀(j:Nat) t,fn.params[j]? =some t ->Tryz.pinned.checked.prog.wantsStandIn t=false:=by
 obtain rfl:f=5:=mS ((show Tryz.prog.funcNamed "augur/augurlaw.InferBayes"=some 5 by kernel_rfl).symm.trans hf) |>.symm;obtain rfl:fn=Tryz.f5:=(mS (Tryz.func5.symm.trans hfn)).symm;refine⟨by kernel_rfl,fun j t ht=>?_⟩;rw[Tryz.params5] at ht;have hm:t∈[48,27,27,27]:=by simpa using Array.mem_of_getElem? ht
 have hall:([48,27,27,27].all fun u=>!Tryz.prog.wantsStandIn u)=true:=by kernel_rfl
 exact(show Tryz.prog.wantsStandIn t=false by simpa using fE.1 hall t hm)
theorem card:Rows.InferBayesCardSaid:=
 Claim7.holds_tied_plain_at .later [] _ _ _ _ said (fun _ h=>by cases h) (by kernel_rfl) (fun _ h=>by cases h) inferBayes_row_tie rfl ⟨rfl,rfl⟩ (by kernel_rfl) rfl plain (by kernel_rfl)
end Go.Proofs.YtfgkjjlocjmfeaaGreatDoor
