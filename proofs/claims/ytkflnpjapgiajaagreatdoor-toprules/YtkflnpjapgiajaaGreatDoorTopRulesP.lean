/- TopRules: for every raw numbers of a net (three lists of numbers and a truth value), an int and two lists of ints that the form lets be read the law returns true, and all arguments read as before; conditions: the listed tables of Go's library read as the row lists them (the card ties that to the program's text). -/
import Derived.Test.YtkflnpjapgiajaaGreatDoorLegT6
set_option maxRecDepth 100000
set_option maxHeartbeats 400000000
set_option linter.unusedSimpArgs false
set_option linter.unusedVariables false
namespace Go.Proofs.YtkflnpjapgiajaaGreatDoor
open Go.ChangeShapes Go.WideShapes Go.ChangeAt Go.RowKit
open Go.ChangeMaps (open_string shut_string)
theorem laidOut:laidOutB Tryz.prog=true:=ao
theorem own:ownKnob Tryz.prog.godebug=none:=ao
theorem lifted (os:Os) (ay:os.Started) (H:Type) (enc:TypeId×Value ->H):
  ReturnsInHanded {} Tryz.checked os 7 .any (fun w a=>(Rows.topRulesSpec.pre enc Tryz.prog Tryz.f7 Rows.topRulesRow.domain false w a/\laidMetH Tryz.prog Rows.topRulesRow.laid w)/\sizedMet enc Tryz.prog Tryz.f7 (OpenSpec.ofChange Rows.topRulesSpec) false w a)
   (Rows.topRulesSpec.post enc Tryz.prog Tryz.f7 false true false false):=by
 refine anz (C:=Tryz.checked) (X:=fun w _=>laidMetH Tryz.prog Rows.topRulesRow.laid w) (fun _ _ _ Q h=>h.of_heap Q) own ay ao Tryz.func7
  (ChangeSpec.witness_shaped (enc:=enc) (C:=Tryz.checked) (os:=os) (X:=fun w _=>laidMetH Tryz.prog Rows.topRulesRow.laid w) false (World.laidAll Tryz.prog os Rows.topRulesRow.laid) #[.agg #[.slice none 0 0,.slice none 0 0,.slice none 0 0,.bool false],.int .i64 0,.slice none 0 0,.slice none 0 0] 8 (World.laidAll_os _ _ _)
   (World.shaped_of_ZipB ao ao) ao ao ao
   (by rw[MakeChecks.laidMetH_plain _ _ _ ao];exact laidMet_laidAll _ ao ao)) ?_
 intro W av a ds gs a8 aa c x hL zo;have l:∀(j:Nat) t v,Tryz.f7.params[j]? =some t ->a[j]? =some v ->Value.okWide Tryz.prog W .any av t v:=aa;have s:(DataW.weightsEach Tryz.prog (Tryz.f7.params.toList++Rows.topRulesSpec.plain.varTypes Tryz.prog) (ds++gs)).all (·<=reachBytes)=true:=x;have aj:=c;obtain⟨p,q,wX,V,rfl,aT,fZ⟩:=c;have A:DataW.TrodAll enc Tryz.prog W 0 (fun _=>true) true Tryz.f7.params.toList a.toList ds p:=wX;have ab:=fun (W':World) (b:db W W')=>agV laidOut b ao A;rw[Tryz.params7] at A l s;obtain⟨d,Qp,d0,aN,p0,q0,aE,rfl,rfl,J,r0⟩:=trodAll_cons A;obtain⟨f,a1,d1,aQ,p1,q1,rfl,rfl,rfl,K,r1⟩:=trodAll_cons r0;obtain⟨g,a6,d2,aR,p2,q2,rfl,rfl,rfl,M,r2⟩:=trodAll_cons r1;obtain⟨v3,a7,d3,aS,p3,q3,rfl,rfl,rfl,O,r3⟩:=trodAll_cons r2;obtain⟨rfl,rfl,rfl⟩:=trodAll_nil r3;obtain rfl:a= #[d,f,g,v3]:=by cases a;simp_all
 obtain⟨rfl,rfl⟩:=trodVars_none V;obtain⟨R,T,U,u,y,z,L,L2,i,bk,f1,f2,f3,f4,rfl,rfl,ad,ae,ai,I,ak,al,D,E,F⟩:=alT (l 0 47 d rfl rfl) J;obtain⟨n1,rfl,rfl,rfl,w1⟩:=open_int Tryz.underlying3 (l 1 3 f rfl rfl) K;obtain⟨m,o,Y,rfl,S,_,pY,an⟩:=open_ints (l 2 27 g rfl rfl) M;obtain⟨n,r,l3,rfl,Z,_,k,aq⟩:=open_ints (l 3 27 v3 rfl rfl) O;obtain⟨s1,s2,s3⟩:=ajp s (j:=0) rfl rfl I ak al;have t2:=Mp s (j:=2) rfl rfl pY;have t3:=Mp s (j:=3) rfl rfl k;have ax:=aim R T U m n u y z o r L L2 i Y l3 bk n1 W ad ae ai S Z ⟨s1,D⟩ ⟨s2,E⟩ ⟨s3,F⟩ ⟨t2,an⟩ ⟨t3,aq⟩ (bounds_i64 w1);refine ax.af fun e W' ⟨P,b⟩=>?_;subst P;exact⟨_,rfl,_,_,_,[],_,[],aj,trodAll_mk1 (shut_bool Tryz.underlying4 _),ab W' b,rfl,b.frame _,fun h=>by cases h⟩
theorem said:Rows.TopRulesSaid:=
 OpenClaim.holds_of_wide 7 Tryz.f7 rfl rfl rfl rfl rfl rfl rfl ⟨rfl,rfl,rfl,rfl,rfl⟩ rfl rfl rfl rfl rfl ao Tryz.func7 ao
  (mg ao) (by unfold Func.isWrapper;first |(rw[aw (by decide+kernel)];kernel_rfl) |(rw[aA (by decide+kernel)];exact⟨rfl,rfl⟩))
  (fun o a H c _=>lifted o a H c)
theorem plain (f:FuncId) (fn:Func) (a:Tryz.pinned.checked.prog.funcNamed "augur/augurtop.TopRules"=some f) (n:Tryz.pinned.checked.prog.funcs[f]? =some fn):
  false=Tryz.pinned.checked.prog.looks []/\∀(j:Nat) t,fn.params[j]? =some t ->Tryz.pinned.checked.prog.wantsStandIn t=false:=by
 obtain rfl:f=7:=ko ((show Tryz.prog.funcNamed "augur/augurtop.TopRules"=some 7 by kernel_rfl).symm.trans a) |>.symm;obtain rfl:fn=Tryz.f7:=(ko (Tryz.func7.symm.trans n)).symm;refine⟨ao,fun j t h=>?_⟩;rw[Tryz.params7] at h;have m:t∈[47,3,27,27]:=by simpa using Array.mem_of_getElem? h
 have l:([47,3,27,27].all fun u=>!Tryz.prog.wantsStandIn u)=true:=ao
 exact(show Tryz.prog.wantsStandIn t=false by simpa using eX.1 l t m)
theorem card:Rows.TopRulesCardSaid:=
 Claim7.holds_tied_plain_at .later [] _ _ _ _ said (fun _ h=>by cases h) ao (fun _ h=>by cases h) topRules_row_tie rfl ⟨rfl,rfl⟩ ao rfl plain ao
end Go.Proofs.YtkflnpjapgiajaaGreatDoor
