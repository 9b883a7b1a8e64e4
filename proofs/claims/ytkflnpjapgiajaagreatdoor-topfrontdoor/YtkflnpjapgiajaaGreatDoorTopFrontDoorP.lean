/- TopFrontDoor: for every raw numbers of a net (three lists of numbers and a truth value) three ints and a list of ints that the form lets be read the law returns true, and all arguments read as before; conditions: the listed tables of Go's library read as the row lists them (the card ties that to the program's text). -/
import Derived.Test.YtkflnpjapgiajaaGreatDoorLegF7
set_option maxRecDepth 100000
set_option maxHeartbeats 400000000
set_option linter.unusedSimpArgs false
set_option linter.unusedVariables false
namespace Go.Proofs.YtkflnpjapgiajaaGreatDoor
open Go.ChangeShapes Go.WideShapes Go.ChangeAt Go.RowKit
open Go.ChangeMaps (open_string shut_string)
theorem laidOut:laidOutB Tryz.prog=true:=ao
theorem own:ownKnob Tryz.prog.godebug=none:=ao
theorem lifted (os:Os) (ay:os.Started) (H:Type) (enc:TypeId×Value ->H):
  ReturnsInHanded {} Tryz.checked os 6 .any (fun w a=>(Rows.topFrontDoorSpec.pre enc Tryz.prog Tryz.f6 Rows.topFrontDoorRow.domain false w a/\laidMetH Tryz.prog Rows.topFrontDoorRow.laid w)/\sizedMet enc Tryz.prog Tryz.f6 (OpenSpec.ofChange Rows.topFrontDoorSpec) false w a)
   (Rows.topFrontDoorSpec.post enc Tryz.prog Tryz.f6 false true false false):=by
 refine apj (B1:=Tryz.checked) (X:=fun w _=>laidMetH Tryz.prog Rows.topFrontDoorRow.laid w) (fun _ _ _ O h=>h.of_heap O) own ay ao Tryz.func6
  (ChangeSpec.witness_shaped (enc:=enc) (C:=Tryz.checked) (os:=os) (X:=fun w _=>laidMetH Tryz.prog Rows.topFrontDoorRow.laid w) false (World.laidAll Tryz.prog os Rows.topFrontDoorRow.laid) #[.agg #[.slice none 0 0,.slice none 0 0,.slice none 0 0,.bool false],.int .i64 0,.int .i64 0,.slice none 0 0,.int .i64 0] 8 (World.laidAll_os _ _ _)
   (World.shaped_of_ZipB ao ao) ao ao ao
   (by rw[MakeChecks.laidMetH_plain _ _ _ ao];exact laidMet_laidAll _ ao ao)) ?_
 intro W av a ds gs bg aa c F hL uo;have l:∀(j:Nat) t v,Tryz.f6.params[j]? =some t ->a[j]? =some v ->Value.okWide Tryz.prog W .any av t v:=aa;have s:(DataW.weightsEach Tryz.prog (Tryz.f6.params.toList++Rows.topFrontDoorSpec.plain.varTypes Tryz.prog) (ds++gs)).all (·<=reachBytes)=true:=F;have ak:=c;obtain⟨p,az,wZ,V,rfl,a6,eJ⟩:=c;have A:DataW.TrodAll enc Tryz.prog W 0 (fun _=>true) true Tryz.f6.params.toList a.toList ds p:=wZ;have ab:=fun (W':World) (b:da W W')=>aik laidOut b ao A;rw[Tryz.params6] at A l s;obtain⟨d,Rl,d0,aI,p0,q0,aE,rfl,rfl,z,r0⟩:=trodAll_cons A;obtain⟨f,bb,d1,aJ,p1,q1,rfl,rfl,rfl,D,r1⟩:=trodAll_cons r0;obtain⟨g,bc,d2,aR,p2,q2,rfl,rfl,rfl,E,r2⟩:=trodAll_cons r1;obtain⟨v3,bd,d3,aY,p3,q3,rfl,rfl,rfl,J,r3⟩:=trodAll_cons r2;obtain⟨i,bf,d4,a1,p4,q4,rfl,rfl,rfl,K,r4⟩:=trodAll_cons r3;obtain⟨rfl,rfl,rfl⟩:=trodAll_nil r4;obtain rfl:a= #[d,f,g,v3,i]:=by cases a;simp_all
 obtain⟨rfl,rfl⟩:=trodVars_none V;obtain⟨Q,R,S,o,q,r,L,L2,k,bk,f1,f2,f3,f4,rfl,rfl,ad,ai,aj,I,al,an,u,x,y⟩:=anw (l 0 47 d rfl rfl) z;obtain⟨U,rfl,rfl,rfl,w1⟩:=open_int Tryz.underlying3 (l 1 3 f rfl rfl) D;obtain⟨Y,rfl,rfl,rfl,w2⟩:=open_int Tryz.underlying3 (l 2 3 g rfl rfl) E;obtain⟨m,n,T,rfl,P,_,Z,aq⟩:=open_ints (l 3 27 v3 rfl rfl) J;obtain⟨n4,rfl,rfl,rfl,w4⟩:=open_int Tryz.underlying3 (l 4 3 i rfl rfl) K;obtain⟨s1,s2,s3⟩:=ak7 s (j:=0) rfl rfl I al an;have t3:=RD s (j:=3) rfl rfl Z;have ax:=ajY Q R S m o q r n L L2 k T bk U Y n4 W ad ai aj P ⟨s1,u⟩ ⟨s2,x⟩ ⟨s3,y⟩ ⟨t3,aq⟩ (bounds_i64 w1) (bounds_i64 w2) (bounds_i64 w4);refine ax.ae fun e W' ⟨M,b⟩=>?_;subst M;exact⟨_,rfl,_,_,_,[],_,[],ak,trodAll_mk1 (shut_bool Tryz.underlying4 _),ab W' b,rfl,b.frame _,fun h=>by cases h⟩
theorem said:Rows.TopFrontDoorSaid:=
 OpenClaim.holds_of_wide 6 Tryz.f6 rfl rfl rfl rfl rfl rfl rfl ⟨rfl,rfl,rfl,rfl,rfl⟩ rfl rfl rfl rfl rfl ao Tryz.func6 ao
  (mJ ao) (by unfold Func.isWrapper;first |(rw[aw (by decide+kernel)];kernel_rfl) |(rw[aC (by decide+kernel)];exact⟨rfl,rfl⟩))
  (fun o a H c _=>lifted o a H c)
theorem plain (f:FuncId) (fn:Func) (a:Tryz.pinned.checked.prog.funcNamed "augur/augurtop.TopFrontDoor"=some f) (n:Tryz.pinned.checked.prog.funcs[f]? =some fn):
  false=Tryz.pinned.checked.prog.looks []/\∀(j:Nat) t,fn.params[j]? =some t ->Tryz.pinned.checked.prog.wantsStandIn t=false:=by
 obtain rfl:f=6:=jO ((show Tryz.prog.funcNamed "augur/augurtop.TopFrontDoor"=some 6 by kernel_rfl).symm.trans a) |>.symm;obtain rfl:fn=Tryz.f6:=(jO (Tryz.func6.symm.trans n)).symm;refine⟨ao,fun j t h=>?_⟩;rw[Tryz.params6] at h;have m:t∈[47,3,3,27,3]:=by simpa using Array.mem_of_getElem? h
 have l:([47,3,3,27,3].all fun u=>!Tryz.prog.wantsStandIn u)=true:=ao
 exact(show Tryz.prog.wantsStandIn t=false by simpa using fM.1 l t m)
theorem card:Rows.TopFrontDoorCardSaid:=
 Claim7.holds_tied_plain_at .later [] _ _ _ _ said (fun _ h=>by cases h) ao (fun _ h=>by cases h) topFrontDoor_row_tie rfl ⟨rfl,rfl⟩ ao rfl plain ao
end Go.Proofs.YtkflnpjapgiajaaGreatDoor
