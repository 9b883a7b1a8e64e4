/- TopBackDoor: for every raw numbers of a net (three lists of numbers and a truth value) three ints and a list of ints that the form lets be read the law returns true, and all arguments read as before; conditions: the listed tables of Go's library read as the row lists them (the card ties that to the program's text). -/
import Derived.Test.YtkflnpjapgiajaaGreatDoorLegB7
set_option maxRecDepth 100000
set_option maxHeartbeats 400000000
set_option linter.unusedSimpArgs false
set_option linter.unusedVariables false
namespace Go.Proofs.YtkflnpjapgiajaaGreatDoor
open Go.ChangeShapes Go.WideShapes Go.ChangeAt Go.RowKit
open Go.ChangeMaps (open_string shut_string)
theorem laidOut:laidOutB Tryz.prog=true:=ao
theorem own:ownKnob Tryz.prog.godebug=none:=ao
theorem lifted (os:Os) (ax:os.Started) (H:Type) (enc:TypeId×Value ->H):
  ReturnsInHanded {} Tryz.checked os 5 .any (fun w a=>(Rows.topBackDoorSpec.pre enc Tryz.prog Tryz.f5 Rows.topBackDoorRow.domain false w a/\laidMetH Tryz.prog Rows.topBackDoorRow.laid w)/\sizedMet enc Tryz.prog Tryz.f5 (OpenSpec.ofChange Rows.topBackDoorSpec) false w a)
   (Rows.topBackDoorSpec.post enc Tryz.prog Tryz.f5 false true false false):=by
 refine aps (C:=Tryz.checked) (X:=fun w _=>laidMetH Tryz.prog Rows.topBackDoorRow.laid w) (fun _ _ _ P h=>h.of_heap P) own ax ao Tryz.func5
  (ChangeSpec.witness_shaped (enc:=enc) (C:=Tryz.checked) (os:=os) (X:=fun w _=>laidMetH Tryz.prog Rows.topBackDoorRow.laid w) false (World.laidAll Tryz.prog os Rows.topBackDoorRow.laid) #[.agg #[.slice none 0 0,.slice none 0 0,.slice none 0 0,.bool false],.int .i64 0,.int .i64 0,.slice none 0 0,.int .i64 0] 8 (World.laidAll_os _ _ _)
   (World.shaped_of_ZipB ao ao) ao ao ao
   (by rw[MakeChecks.laidMetH_plain _ _ _ ao];exact laidMet_laidAll _ ao ao)) ?_
 intro W ar a ds gs bg aa c L hL uA;have l:∀(j:Nat) t v,Tryz.f5.params[j]? =some t ->a[j]? =some v ->Value.okWide Tryz.prog W .any ar t v:=aa;have s:(DataW.weightsEach Tryz.prog (Tryz.f5.params.toList++Rows.topBackDoorSpec.plain.varTypes Tryz.prog) (ds++gs)).all (·<=reachBytes)=true:=L;have aj:=c;obtain⟨p,ay,xB,K,rfl,aZ,eI⟩:=c;have A:DataW.TrodAll enc Tryz.prog W 0 (fun _=>true) true Tryz.f5.params.toList a.toList ds p:=xB;have ab:=fun (W':World) (b:da W W')=>ait laidOut b ao A;rw[Tryz.params5] at A l s;obtain⟨d,a1,d0,aE,p0,q0,az,rfl,rfl,D,r0⟩:=trodAll_cons A;obtain⟨f,a6,d1,aJ,p1,q1,rfl,rfl,rfl,E,r1⟩:=trodAll_cons r0;obtain⟨g,bb,d2,aM,p2,q2,rfl,rfl,rfl,F,r2⟩:=trodAll_cons r1;obtain⟨v3,bd,d3,aR,p3,q3,rfl,rfl,rfl,I,r3⟩:=trodAll_cons r2;obtain⟨i,bf,d4,aW,p4,q4,rfl,rfl,rfl,J,r4⟩:=trodAll_cons r3;obtain⟨rfl,rfl,rfl⟩:=trodAll_nil r4;obtain rfl:a= #[d,f,g,v3,i]:=by cases a;simp_all
 obtain⟨rfl,rfl⟩:=trodVars_none K;obtain⟨Q,R,S,q,r,u,k,L2,m,bk,f1,f2,f3,f4,rfl,rfl,ad,ae,ai,V,al,an,x,y,z⟩:=anG (l 0 47 d rfl rfl) D;obtain⟨U,rfl,rfl,rfl,w1⟩:=open_int Tryz.underlying3 (l 1 3 f rfl rfl) E;obtain⟨Y,rfl,rfl,rfl,w2⟩:=open_int Tryz.underlying3 (l 2 3 g rfl rfl) F;obtain⟨n,o,T,rfl,O,_,Z,aq⟩:=open_ints (l 3 27 v3 rfl rfl) I;obtain⟨n4,rfl,rfl,rfl,w4⟩:=open_int Tryz.underlying3 (l 4 3 i rfl rfl) J;obtain⟨s1,s2,s3⟩:=alh s (j:=0) rfl rfl V al an;have t3:=Ry s (j:=3) rfl rfl Z;have av:=akc Q R S n q r u o k L2 m T bk U Y n4 W ad ae ai O ⟨s1,x⟩ ⟨s2,y⟩ ⟨s3,z⟩ ⟨t3,aq⟩ (bounds_i64 w1) (bounds_i64 w2) (bounds_i64 w4);refine av.af fun e W' ⟨M,b⟩=>?_;subst M;exact⟨_,rfl,_,_,_,[],_,[],aj,trodAll_mk1 (shut_bool Tryz.underlying4 _),ab W' b,rfl,b.frame _,fun h=>by cases h⟩
theorem said:Rows.TopBackDoorSaid:=
 OpenClaim.holds_of_wide 5 Tryz.f5 rfl rfl rfl rfl rfl rfl rfl ⟨rfl,rfl,rfl,rfl,rfl⟩ rfl rfl rfl rfl rfl ao Tryz.func5 ao
  (mS ao) (by unfold Func.isWrapper;first |(rw[aA (by decide+kernel)];kernel_rfl) |(rw[aD (by decide+kernel)];exact⟨rfl,rfl⟩))
  (fun o a H c _=>lifted o a H c)
theorem plain (f:FuncId) (fn:Func) (a:Tryz.pinned.checked.prog.funcNamed "augur/augurtop.TopBackDoor"=some f) (n:Tryz.pinned.checked.prog.funcs[f]? =some fn):
  false=Tryz.pinned.checked.prog.looks []/\∀(j:Nat) t,fn.params[j]? =some t ->Tryz.pinned.checked.prog.wantsStandIn t=false:=by
 obtain rfl:f=5:=kg ((show Tryz.prog.funcNamed "augur/augurtop.TopBackDoor"=some 5 by kernel_rfl).symm.trans a) |>.symm;obtain rfl:fn=Tryz.f5:=(kg (Tryz.func5.symm.trans n)).symm;refine⟨ao,fun j t h=>?_⟩;rw[Tryz.params5] at h;have m:t∈[47,3,3,27,3]:=by simpa using Array.mem_of_getElem? h
 have l:([47,3,3,27,3].all fun u=>!Tryz.prog.wantsStandIn u)=true:=ao
 exact(show Tryz.prog.wantsStandIn t=false by simpa using fG.1 l t m)
theorem card:Rows.TopBackDoorCardSaid:=
 Claim7.holds_tied_plain_at .later [] _ _ _ _ said (fun _ h=>by cases h) ao (fun _ h=>by cases h) topBackDoor_row_tie rfl ⟨rfl,rfl⟩ ao rfl plain ao
end Go.Proofs.YtkflnpjapgiajaaGreatDoor
