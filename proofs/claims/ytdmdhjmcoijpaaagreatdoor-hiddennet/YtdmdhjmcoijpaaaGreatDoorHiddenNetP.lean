/- HiddenNet: for every two lists of ints and two ints that the form lets be read the law returns true, and all arguments read as before; conditions: the listed tables of Go's library read as the row lists them (the card ties that to the program's text). -/
import Derived.Test.YtdmdhjmcoijpaaaGreatDoorLegH6
set_option maxRecDepth 100000
set_option maxHeartbeats 400000000
set_option linter.unusedSimpArgs false
set_option linter.unusedVariables false
namespace Go.Proofs.YtdmdhjmcoijpaaaGreatDoor
open Go.ChangeShapes Go.WideShapes Go.ChangeAt Go.RowKit
open Go.ChangeMaps (open_string shut_string)
theorem laidOut:laidOutB Tryz.prog=true:=ao
theorem own:ownKnob Tryz.prog.godebug=none:=ao
theorem lifted (os:Os) (ak:os.Started) (H:Type) (enc:TypeId×Value ->H):
  ReturnsInHanded {} Tryz.checked os 3 .any (fun w a=>(Rows.hiddenNetSpec.pre enc Tryz.prog Tryz.f3 Rows.hiddenNetRow.domain false w a/\laidMetH Tryz.prog Rows.hiddenNetRow.laid w)/\sizedMet enc Tryz.prog Tryz.f3 (OpenSpec.ofChange Rows.hiddenNetSpec) false w a)
   (Rows.hiddenNetSpec.post enc Tryz.prog Tryz.f3 false true false false):=by
 refine aiR (C:=Tryz.checked) (X:=fun w _=>laidMetH Tryz.prog Rows.hiddenNetRow.laid w) (fun _ _ _ M h=>h.of_heap M) own ak ao Tryz.func3
  (ChangeSpec.witness_shaped (enc:=enc) (C:=Tryz.checked) (os:=os) (X:=fun w _=>laidMetH Tryz.prog Rows.hiddenNetRow.laid w) false (World.laidAll Tryz.prog os Rows.hiddenNetRow.laid) #[.slice none 0 0,.int .i64 0,.int .i64 0,.slice none 0 0] 8 (World.laidAll_os _ _ _)
   (World.shaped_of_ZipB ao ao) ao ao ao
   (by rw[MakeChecks.laidMetH_plain _ _ _ ao];exact laidMet_laidAll _ ao ao)) ?_
 intro W base a ds z a1 aa o yZ hL pV;have l:∀(j:Nat) t v,Tryz.f3.params[j]? =some t ->a[j]? =some v ->Value.okWide Tryz.prog W .any base t v:=aa;have s:(DataW.weightsEach Tryz.prog (Tryz.f3.params.toList++Rows.hiddenNetSpec.plain.varTypes Tryz.prog) (ds++z)).all (·<=reachBytes)=true:=yZ;have ae:=o;obtain⟨p,q,P,V,rfl,aC,kP⟩:=o;have A:DataW.TrodAll enc Tryz.prog W 0 (fun _=>true) true Tryz.f3.params.toList a.toList ds p:=P;have ab:=fun (W':World) (b:ef W W')=>acQ laidOut b ao A;rw[Tryz.params3] at A l s;obtain⟨r,aE,d0,av,p0,q0,an,rfl,rfl,F,Q⟩:=trodAll_cons A;obtain⟨u,aO,d1,ax,p1,q1,rfl,rfl,rfl,I,R⟩:=trodAll_cons Q;obtain⟨x,aS,d2,ay,p2,q2,rfl,rfl,rfl,J,S⟩:=trodAll_cons R;obtain⟨y,aT,d3,az,p3,q3,rfl,rfl,rfl,K,U⟩:=trodAll_cons S;obtain⟨rfl,rfl,rfl⟩:=trodAll_nil U;obtain rfl:a= #[r,u,x,y]:=by cases a;simp_all
 obtain⟨rfl,rfl⟩:=trodVars_none V;obtain⟨f,i,c,rfl,ad,_,O,E⟩:=open_ints (l 0 22 r rfl rfl) F;obtain⟨n,rfl,rfl,rfl,w1⟩:=open_int Tryz.underlying3 (l 1 3 u rfl rfl) I;obtain⟨m,rfl,rfl,rfl,w2⟩:=open_int Tryz.underlying3 (l 2 3 x rfl rfl) J;obtain⟨g,k,d,rfl,D,_,T,ah⟩:=open_ints (l 3 22 y rfl rfl) K;have Y:=Yi s (j:=0) rfl rfl O;have Z:=Yi s (j:=3) rfl rfl T
 have aj:du 3 #[.slice f c.length i,.int .i64 n,.int .i64 m,.slice g d.length k] W (eS W (.bool true)):=by
  by_cases ai:256<c.length+d.length
  ·exact ajK f g i k c d n m W Y Z ai
  ·exact ajJ f g i k c d n m W ad D E ah (bounds_i64 w1) (bounds_i64 w2) al
 refine aj.af fun e W' ⟨L,b⟩=>?_;subst L;exact⟨_,rfl,_,_,_,[],_,[],ae,trodAll_mk1 (shut_bool Tryz.underlying4 _),ab W' b,rfl,b.frame _,fun h=>by cases h⟩
theorem said:Rows.HiddenNetSaid:=
 OpenClaim.holds_of_wide 3 Tryz.f3 rfl rfl rfl rfl rfl rfl rfl ⟨rfl,rfl,rfl,rfl,rfl⟩ rfl rfl rfl rfl rfl ao Tryz.func3 ao
  (tW ao) (by unfold Func.isWrapper;first |(rw[aA (by decide+kernel)];kernel_rfl) |(rw[aD (by decide+kernel)];exact⟨rfl,rfl⟩))
  (fun o a H c _=>lifted o a H c)
theorem plain (f:FuncId) (fn:Func) (a:Tryz.pinned.checked.prog.funcNamed "augur/augurlaw.HiddenNet"=some f) (n:Tryz.pinned.checked.prog.funcs[f]? =some fn):
  false=Tryz.pinned.checked.prog.looks []/\∀(j:Nat) t,fn.params[j]? =some t ->Tryz.pinned.checked.prog.wantsStandIn t=false:=by
 obtain rfl:f=3:=oP ((show Tryz.prog.funcNamed "augur/augurlaw.HiddenNet"=some 3 by kernel_rfl).symm.trans a) |>.symm;obtain rfl:fn=Tryz.f3:=(oP (Tryz.func3.symm.trans n)).symm;refine⟨ao,fun j t h=>?_⟩;rw[Tryz.params3] at h;have m:t∈[22,3,3,22]:=by simpa using Array.mem_of_getElem? h
 have l:([22,3,3,22].all fun u=>!Tryz.prog.wantsStandIn u)=true:=ao
 exact(show Tryz.prog.wantsStandIn t=false by simpa using iQ.1 l t m)
theorem card:Rows.HiddenNetCardSaid:=
 Claim7.holds_tied_plain_at .later [] _ _ _ _ said (fun _ h=>by cases h) ao (fun _ h=>by cases h) hiddenNet_row_tie rfl ⟨rfl,rfl⟩ ao rfl plain ao
end Go.Proofs.YtdmdhjmcoijpaaaGreatDoor
