/- InferMade: for every raw numbers of a net (three lists of numbers and a truth value) and three lists of ints that the form lets be read the law returns true, and all arguments read as before; conditions: the listed tables of Go's library read as the row lists them (the card ties that to the program's text). -/
import Derived.Test.YtfhdoommfenijaaGreatDoorLegM6
set_option maxRecDepth 100000
set_option maxHeartbeats 400000000
set_option linter.unusedSimpArgs false
set_option linter.unusedVariables false
namespace Go.Proofs.YtfhdoommfenijaaGreatDoor
open Go.ChangeShapes Go.WideShapes Go.ChangeAt Go.RowKit
open Go.ChangeMaps (open_string shut_string)
theorem laidOut:laidOutB Tryz.prog=true:=ao
theorem own:ownKnob Tryz.prog.godebug=none:=ao
theorem lifted (os:Os) (ay:os.Started) (H:Type) (enc:TypeId×Value ->H):
  ReturnsInHanded {} Tryz.checked os 3 .any (fun w a=>(Rows.inferMadeSpec.pre enc Tryz.prog Tryz.f3 Rows.inferMadeRow.domain false w a/\laidMetH Tryz.prog Rows.inferMadeRow.laid w)/\sizedMet enc Tryz.prog Tryz.f3 (OpenSpec.ofChange Rows.inferMadeSpec) false w a)
   (Rows.inferMadeSpec.post enc Tryz.prog Tryz.f3 false true false false):=by
 refine alR (C:=Tryz.checked) (X:=fun w _=>laidMetH Tryz.prog Rows.inferMadeRow.laid w) (fun _ _ _ hh h=>h.of_heap hh) own ay ao Tryz.func3
  (ChangeSpec.witness_shaped (enc:=enc) (C:=Tryz.checked) (os:=os) (X:=fun w _=>laidMetH Tryz.prog Rows.inferMadeRow.laid w) false (World.laidAll Tryz.prog os Rows.inferMadeRow.laid) #[.agg #[.slice none 0 0,.slice none 0 0,.slice none 0 0,.bool false],.slice none 0 0,.slice none 0 0,.slice none 0 0] 8 (World.laidAll_os _ _ _)
   (World.shaped_of_ZipB ao ao) ao ao ao
   (by rw[MakeChecks.laidMetH_plain _ _ _ ao];exact laidMet_laidAll _ ao ao)) ?_
 intro W base a ds P bd aa c xo hL yC;have l:∀(j:Nat) t v,Tryz.f3.params[j]? =some t ->a[j]? =some v ->Value.okWide Tryz.prog W .any base t v:=aa;have s:(DataW.weightsEach Tryz.prog (Tryz.f3.params.toList++Rows.inferMadeSpec.plain.varTypes Tryz.prog) (ds++P)).all (·<=reachBytes)=true:=xo;have aj:=c;obtain⟨p,q,vR,V,rfl,aQ,jE⟩:=c;have A:DataW.TrodAll enc Tryz.prog W 0 (fun _=>true) true Tryz.f3.params.toList a.toList ds p:=vR;have ab:=fun (W':World) (b:c8 W W')=>afN laidOut b ao A;rw[Tryz.params3] at A l s;obtain⟨d,a6,d0,aG,p0,q0,aE,rfl,rfl,Q,r0⟩:=trodAll_cons A;obtain⟨f,a7,d1,aM,p1,q1,rfl,rfl,rfl,S,r1⟩:=trodAll_cons r0;obtain⟨g,a8,d2,aN,p2,q2,rfl,rfl,rfl,T,r2⟩:=trodAll_cons r1;obtain⟨i,bb,d3,aO,p3,q3,rfl,rfl,rfl,U,r3⟩:=trodAll_cons r2;obtain⟨rfl,rfl,rfl⟩:=trodAll_nil r3;obtain rfl:a= #[d,f,g,i]:=by cases a;simp_all
 obtain⟨rfl,rfl⟩:=trodVars_none V;obtain⟨k1,k2,k3,E,F,I,L,m,n,bk,f1,f2,f3,f4,rfl,rfl,ad,ae,ai,k,ak,al,J,K,O⟩:=akr (l 0 24 d rfl rfl) Q;obtain⟨r,y,l1,rfl,o,_,qD,an⟩:=open_ints (l 1 22 f rfl rfl) S;obtain⟨u,z,l2,rfl,R,_,jH,aq⟩:=open_ints (l 2 22 g rfl rfl) T;obtain⟨x,D,l3,rfl,M,_,Y,av⟩:=open_ints (l 3 22 i rfl rfl) U;obtain⟨s1,s2,s3⟩:=ah8 s (j:=0) rfl rfl k ak al;have t1:=I9 s (j:=1) rfl rfl qD;have t2:=I9 s (j:=2) rfl rfl jH;have t3:=I9 s (j:=3) rfl rfl Y;have ax:=al1 k1 k2 k3 r u x E F I y z D L m n l1 l2 l3 bk W ad ae ai o R M ⟨s1,J⟩ ⟨s2,K⟩ ⟨s3,O⟩ ⟨t1,an⟩ ⟨t2,aq⟩ ⟨t3,av⟩;refine ax.af fun e W' ⟨Z,b⟩=>?_;subst Z;exact⟨_,rfl,_,_,_,[],_,[],aj,trodAll_mk1 (shut_bool Tryz.underlying4 _),ab W' b,rfl,b.frame _,fun h=>by cases h⟩
theorem said:Rows.InferMadeSaid:=
 OpenClaim.holds_of_wide 3 Tryz.f3 rfl rfl rfl rfl rfl rfl rfl ⟨rfl,rfl,rfl,rfl,rfl⟩ rfl rfl rfl rfl rfl ao Tryz.func3 ao
  (tW ao) (by unfold Func.isWrapper;first |(rw[aA (by decide+kernel)];kernel_rfl) |(rw[aB (by decide+kernel)];exact⟨rfl,rfl⟩))
  (fun o a H c _=>lifted o a H c)
theorem plain (f:FuncId) (fn:Func) (a:Tryz.pinned.checked.prog.funcNamed "augur/augurlaw.InferMade"=some f) (n:Tryz.pinned.checked.prog.funcs[f]? =some fn):
  false=Tryz.pinned.checked.prog.looks []/\∀(j:Nat) t,fn.params[j]? =some t ->Tryz.pinned.checked.prog.wantsStandIn t=false:=by
 obtain rfl:f=3:=mW ((show Tryz.prog.funcNamed "augur/augurlaw.InferMade"=some 3 by kernel_rfl).symm.trans a) |>.symm;obtain rfl:fn=Tryz.f3:=(mW (Tryz.func3.symm.trans n)).symm;refine⟨ao,fun j t h=>?_⟩;rw[Tryz.params3] at h;have m:t∈[24,22,22,22]:=by simpa using Array.mem_of_getElem? h
 have l:([24,22,22,22].all fun u=>!Tryz.prog.wantsStandIn u)=true:=ao
 exact(show Tryz.prog.wantsStandIn t=false by simpa using gW.1 l t m)
theorem card:Rows.InferMadeCardSaid:=
 Claim7.holds_tied_plain_at .later [] _ _ _ _ said (fun _ h=>by cases h) ao (fun _ h=>by cases h) inferMade_row_tie rfl ⟨rfl,rfl⟩ ao rfl plain ao
end Go.Proofs.YtfhdoommfenijaaGreatDoor
