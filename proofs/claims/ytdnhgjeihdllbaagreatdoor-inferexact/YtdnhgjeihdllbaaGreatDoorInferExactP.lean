/- InferExact: for every net, list of variables and facts that the form lets be read the law returns true, and all arguments read as before; conditions: the listed tables of Go's library read as the row lists them (the card ties that to the text of the program). -/
import Derived.Test.YtdnhgjeihdllbaaGreatDoorPart6
set_option maxRecDepth 100000
set_option maxHeartbeats 4000000
set_option linter.unusedSimpArgs false
set_option linter.unusedVariables false
namespace Go.Proofs.YtdnhgjeihdllbaaGreatDoor
open Go.ChangeShapes Go.WideShapes Go.ChangeAt Go.RowKit
open Go.ChangeMaps (open_string shut_string)
theorem laidOut:laidOutB Tryz.prog=true:=by kernel_rfl
theorem own:ownKnob Tryz.prog.godebug=none:=by kernel_rfl
theorem lifted (os:Os) (started:os.Started) (H:Type) (enc:TypeId×Value ->H):
  ReturnsInHanded {} Tryz.checked os 3 .any (fun w args=>(Rows.inferExactSpec.pre enc Tryz.prog Tryz.f3 Rows.inferExactRow.domain false w args/\laidMetH Tryz.prog Rows.inferExactRow.laid w)/\sizedMet enc Tryz.prog Tryz.f3 (OpenSpec.ofChange Rows.inferExactSpec) false w args)
   (Rows.inferExactSpec.post enc Tryz.prog Tryz.f3 false true false false):=by
 refine aiG (C:=Tryz.checked) (X:=fun w _=>laidMetH Tryz.prog Rows.inferExactRow.laid w) (fun _ _ _ hh h=>h.of_heap hh) own started (by kernel_rfl) Tryz.func3
  (ChangeSpec.witness_shaped (enc:=enc) (C:=Tryz.checked) (os:=os) (X:=fun w _=>laidMetH Tryz.prog Rows.inferExactRow.laid w) false (World.laidAll Tryz.prog os Rows.inferExactRow.laid) #[.agg #[.slice none 0 0,.slice none 0 0,.slice none 0 0],.slice none 0 0,.slice none 0 0] 8 (World.laidAll_os _ _ _)
   (World.shaped_of_ZipB (by kernel_rfl) (by kernel_rfl)) (by kernel_rfl) (by kernel_rfl) (by kernel_rfl)
   (by rw[MakeChecks.laidMetH_plain _ _ _ (by kernel_rfl)];exact laidMet_laidAll _ (by kernel_rfl) (by kernel_rfl))) ?_
 intro W base args ds gs before aja hW vk hL wL;have hval:∀(j:Nat) t v,Tryz.f3.params[j]? =some t ->args[j]? =some v ->Value.okWide Tryz.prog W .any base t v:=aja;have hsz:(DataW.weightsEach Tryz.prog (Tryz.f3.params.toList++Rows.inferExactSpec.plain.varTypes Tryz.prog) (ds++gs)).all (·<=reachBytes)=true:=vk;have hW':=hW;obtain⟨p,q,A8,hV,rfl,hfz,iZ⟩:=hW;have hA:DataW.TrodAll enc Tryz.prog W 0 (fun _=>true) true Tryz.f3.params.toList args.toList ds p:=A8;have aj3:=fun (W':World) (hb:Below W.heap.size W W')=>acS laidOut hb (by kernel_rfl) hA;rw[Tryz.params3] at hA hval hsz;obtain⟨v0,vs0,d0,ds0,p0,q0,aoo,rfl,rfl,h0,r0⟩:=trodAll_cons hA;obtain⟨v1,vs1,d1,ds1,p1,q1,rfl,rfl,rfl,h1,r1⟩:=trodAll_cons r0;obtain⟨v2,vs2,d2,ds2,p2,q2,rfl,rfl,rfl,h2,r2⟩:=trodAll_cons r1;obtain⟨rfl,rfl,rfl⟩:=trodAll_nil r2;obtain rfl:args= #[v0,v1,v2]:=by cases args;simp_all
 obtain⟨rfl,rfl⟩:=trodVars_none hV;obtain⟨a0,b0,e0,ca0,cb0,ce0,V0,L0,R0,dV,dL,dR,rfl,rfl,hI0,hdV,hdL,hdR,Hv⟩:=ahm (hval 0 26 v0 rfl rfl) h0;obtain⟨a1,c1,l1,rfl,Uq,gh,pj,_⟩:=open_ints (hval 1 27 v1 rfl rfl) h1;obtain⟨a2,c2,l2,rfl,OM,hc2,i7⟩:=ahp (hval 2 28 v2 rfl rfl) h2;have s0:=ae6 hsz (j:=0) rfl rfl hdV hdL hdR;have s1:=Yy hsz (j:=1) rfl rfl pj;have s2:=ae9 hsz (j:=2) rfl rfl i7;have walk:=aiP a0 b0 e0 a1 a2 ca0 cb0 ce0 c1 c2 V0 L0 R0 l1 l2 W hI0 Hv Uq gh OM s0 s1 s2 hc2;refine walk.af fun e W' ⟨he,hb⟩=>?_;subst he;exact⟨_,rfl,_,_,_,[],_,[],hW',trodAll_mk1 (shut_bool Tryz.underlying4 _),aj3 W' hb,rfl,hb.frame _,fun h=>by cases h⟩
theorem said:Rows.InferExactSaid:=
 OpenClaim.holds_of_wide 3 Tryz.f3 rfl rfl rfl rfl rfl rfl rfl ⟨rfl,rfl,rfl,rfl,rfl⟩ rfl rfl rfl rfl rfl (by kernel_rfl) Tryz.func3 (by kernel_rfl)
  (rS (by kernel_rfl)) (by unfold Func.isWrapper;first |(rw[ay (by decide+kernel)];kernel_rfl) |(rw[az (by decide+kernel)];exact⟨rfl,rfl⟩))
  (fun os started H enc _=>lifted os started H enc)
theorem plain (f:FuncId) (fn:Func) (hf:Tryz.pinned.checked.prog.funcNamed "augur/augurlaw.InferExact"=some f) (hfn:Tryz.pinned.checked.prog.funcs[f]? =some fn):
  false=Tryz.pinned.checked.prog.looks []/\∀(j:Nat) t,fn.params[j]? =some t ->Tryz.pinned.checked.prog.wantsStandIn t=false:=by
 obtain rfl:f=3:=lV ((show Tryz.prog.funcNamed "augur/augurlaw.InferExact"=some 3 by kernel_rfl).symm.trans hf) |>.symm;obtain rfl:fn=Tryz.f3:=(lV (Tryz.func3.symm.trans hfn)).symm;refine⟨by kernel_rfl,fun j t ht=>?_⟩;rw[Tryz.params3] at ht;have hm:t∈[26,27,28]:=by simpa using Array.mem_of_getElem? ht
 have hall:([26,27,28].all fun u=>!Tryz.prog.wantsStandIn u)=true:=by kernel_rfl
 exact(show Tryz.prog.wantsStandIn t=false by simpa using eJ.1 hall t hm)
theorem card:Rows.InferExactCardSaid:=
 Claim7.holds_tied_plain_at .later [] _ _ _ _ said (fun _ h=>by cases h) (by kernel_rfl) (fun _ h=>by cases h) inferExact_row_tie rfl ⟨rfl,rfl⟩ (by kernel_rfl) rfl plain (by kernel_rfl)
end Go.Proofs.YtdnhgjeihdllbaaGreatDoor
