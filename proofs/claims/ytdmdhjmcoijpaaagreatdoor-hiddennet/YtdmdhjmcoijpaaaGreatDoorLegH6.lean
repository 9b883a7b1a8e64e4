/- Part6: part 6. -/
import Derived.Test.YtdmdhjmcoijpaaaGreatDoorLegH5
set_option maxRecDepth 100000
set_option maxHeartbeats 400000000
set_option linter.unusedSimpArgs false
set_option linter.unusedVariables false
namespace Go.Proofs.YtdmdhjmcoijpaaaGreatDoor
open Go.RowKit Go.Shelf Go.Lib
theorem ajM (a b c:Option Addr) (ca cb cc n T:Nat) (l:List Fr) (R1 R2:List (List Fr)) (w:World) (h:xR w a b c l R1 R2) (hs:Pr l R1 R2) (he:C2 l R1 R2 0) (ad:b=none ->cb=0) (ai:c=none ->cc=0) (hn:l.length=n) (h1:1<=T) (h4:T<=4) (aj:n<=ca):
  du 7 #[.agg #[.slice a n ca,.slice b n cb,.slice c n cc],.int .i64 (T:Nat)] w fun e w'=>am8 l R1 R2 T w e w':=by
 obtain⟨av,ax⟩:zq l R1 R2/\EP l R1 R2:=by
  rcases he with ⟨_,h1,h2⟩ |⟨h9,_⟩ |⟨h9,_⟩
  ·exact⟨h1,h2⟩
  ·exact absurd h9 bd
  ·exact absurd h9 bd
 obtain⟨p1,p2,p3,p4,p5,p6,p7,p8⟩:=av;rw[hn] at p1 p2 p3 p4 p7;obtain⟨m,hm⟩:∃m,(R2.headD []).length=m:=⟨_,rfl⟩;rw[hm] at p5 p6 p8
 have gC:Hid (∀U:World,ef w U ->du 14 #[.agg #[.slice a n ca,.slice b n cb,.slice c n cc]] U fun e w'=>e=.returned (.int .i64 0)/\ef U w'):=fun U hU=>by
  have h9:=ajQ a b c ca cb cc l R1 R2 U (h.aa hU) hs ad ai;rw[hn,p3,p4] at h9;refine h9.af ?_;rintro e w' ⟨⟨x,rfl,hx⟩,hb⟩;rw[hx.uniq he];exact⟨rfl,hb⟩
 have ae:Hid (∀(W:World) (G:Nat) (x y z:Value) (Vs:List PV) (Ls:List PL) (Rs:List PR) (nm:ByteArray) (pd:Option Addr) (pn pc:Nat) (ps:List Int),US w W G (.slice a n ca) (.slice b n cb) (.slice c n cc) x y z Vs Ls Rs ->bP W w.heap.size (.slice pd pn pc) ps ->Vs.length<=100 ->Ls.length<=100 ->Rs.length<=100 ->du 15 #[.pointer (some ⟨G,0,none⟩),.string nm,.slice pd pn pc,.slice b n cb] W fun e w'=>Pq w G (.slice a n ca) (.slice b n cb) (.slice c n cc) nm n (.slice pd pn pc) ps (fC R1) Vs Ls Rs e w'):=fun W G x y z Vs Ls Rs nm pd pn pc ps hU hp hV hL hR=>Sx w G _ _ _ x y z Vs Ls Rs nm pd pn pc ps b cb n n R1 W hU hp (h.mv.aa hU.bel) ⟨al,fun r Y=>by rw[p7 r Y];omega,hs.f2⟩ (fun r Y=>by rw[p7 r Y];omega) p3 p1 (by rw[Ex al];exact p7 _ (bF _)) hV hL hR
 have tK:Hid (∀(W:World) (G:Nat) (x y z:Value) (Vs:List PV) (Ls:List PL) (Rs:List PR) (nm:ByteArray) (pd:Option Addr) (pn pc:Nat) (ps:List Int),US w W G (.slice a n ca) (.slice b n cb) (.slice c n cc) x y z Vs Ls Rs ->bP W w.heap.size (.slice pd pn pc) ps ->Vs.length<=100 ->Ls.length<=100 ->Rs.length<=100 ->du 15 #[.pointer (some ⟨G,0,none⟩),.string nm,.slice pd pn pc,.slice c n cc] W fun e w'=>Pq w G (.slice a n ca) (.slice b n cb) (.slice c n cc) nm m (.slice pd pn pc) ps (fC R2) Vs Ls Rs e w'):=fun W G x y z Vs Ls Rs nm pd pn pc ps hU hp hV hL hR=>Sx w G _ _ _ x y z Vs Ls Rs nm pd pn pc ps c cc n m R2 W hU hp (h.sh.aa hU.bel) ⟨al,fun r Y=>by rw[p8 r Y];omega,hs.f3⟩ (fun r Y=>by rw[p8 r Y];omega) p4 p1 hm hV hL hR
 have Ik:Hid (∀(W:World) (G g k:Nat) (x y z:Value) (Vs:List PV) (Ls:List PL) (Rs:List PR) (nm:ByteArray),US w W G (.slice a n ca) (.slice b n cb) (.slice c n cc) x y z Vs Ls Rs ->g<W.heap.size ->W.cell? ⟨g,0,none⟩=some (.slice a n ca) ->Vs.length<=100 ->Ls.length<=100 ->Rs.length<=100 ->du 15 #[.pointer (some ⟨G,0,none⟩),.string nm,.slice none 0 0,.slice (some ⟨g,0,none⟩) 1 k] W fun e w'=>Pq w G (.slice a n ca) (.slice b n cb) (.slice c n cc) nm n (.slice none 0 0) [] (fC [l]) Vs Ls Rs e w'):=fun W G g k x y z Vs Ls Rs nm hU hg hc hV hL hR=>by
  refine Sx w G _ _ _ x y z Vs Ls Rs nm none 0 0 [] (some ⟨g,0,none⟩) k 1 n [l] W hU ⟨rfl,.inl ⟨rfl,rfl⟩⟩ (fun i hi=>?_) ⟨aE,fun r Y=>by rw[dT.1 Y];omega,fun r Y=>by rw[dT.1 Y];exact hs.f1⟩ (fun r Y=>by rw[dT.1 Y];omega) rfl (aq _) hn hV hL hR;obtain rfl:i=0:=by simpa using hi
  exact⟨g,0,a,ca,rfl,hg,by simpa [hn] using hc,by simpa using h.st.aa hU.bel,by simpa [hn] using aj⟩
 have zD:=hid (fun (c:UInt8) (i:Nat) (hi:i<10) (U:World)=>ZB c i hi U);have AX:Hid ((⟨#[115,48]⟩:ByteArray)=kM 115 0):=by show _=_;kernel_rfl
 have HN:=hid hn;have HM:=hid hm;have qa:=(au w.heap.size w).alloc (aq _) (dX (.slice a n ca) (.slice b n cb) (.slice c n cc));have EG:=b6.new w (.slice a n ca) (.slice b n cb) (.slice c n cc);have an:=(au (w.alloc (dX (.slice a n ca) (.slice b n cb) (.slice c n cc))).heap.size (w.alloc (dX (.slice a n ca) (.slice b n cb) (.slice c n cc)))).alloc (aq _) (NC (.slice none 0 0) (.slice none 0 0) (.slice none 0 0));have dO:=EG.aa an EG.lt;have TY:dQ ((w.alloc (dX (.slice a n ca) (.slice b n cb) (.slice c n cc))).alloc (NC (.slice none 0 0) (.slice none 0 0) (.slice none 0 0))) (w.heap.size+1) (.slice none 0 0) (.slice none 0 0) (.slice none 0 0):=dQ.at aE _ _ _;have hA:=qa.alloc qa.size (NC (.slice none 0 0) (.slice none 0 0) (.slice none 0 0));obtain⟨e0,e1,e2⟩:=dO.cells;clear h hs he hn hm ax p3 p4 p7 p8 aj qa EG an ad ai;go_enter Tryz.func7,Tryz.ntmps7;go_wp2_with fail
 generalize ((w.alloc (dX (.slice a n ca) (.slice b n cb) (.slice c n cc))).alloc (NC (.slice none 0 0) (.slice none 0 0) (.slice none 0 0)))=W at *;refine(gC.o _ hA).af ?_;rintro e w1 ⟨rfl,hb⟩;have qU:=hA.trans (hb.af hA.size);have T7:=dO.aa hb dO.lt;have OB:=TY.aa hb TY.lt;have Am:w.heap.size+2<=w1.heap.size:=OB.lt;have D:Hid (US w (w1.alloc (NC (.slice none 0 0) (.slice none 0 0) (.slice none 0 0))) w1.heap.size (.slice a n ca) (.slice b n cb) (.slice c n cc) (.slice none 0 0) (.slice none 0 0) (.slice none 0 0) [] [] []):=⟨T7.aa ((au _ w1).alloc (aq _) _) T7.lt,OB.aa ((au _ w1).alloc (aq _) _) OB.lt,dQ.at rfl _ _ _,vM.nil _ _,vN.nil _ _,kW.nil _ _,qU.alloc qU.size _,Am⟩;clear hA dO hb e0 e1 e2 gC qU T7 TY OB Am;have CB:¬((T:Int)<1):=al
 have Kt:¬((4:Int)<(T:Int)):=al
 go_upto_region 7 with fail
 generalize (w1.alloc (NC (.slice none 0 0) (.slice none 0 0) (.slice none 0 0)))=W1 at *;generalize w1.heap.size=G at *;clear CB Kt;go_wp2_with fail
 go_loopw [25] (fun iv wr=>∃(t:Nat) (x y z:Value) (Vs:List PV) (Ls:List PL) (Rs:List PR),t<=T/\iv=.int .i64 t/\Hid (US w wr G (.slice a n ca) (.slice b n cb) (.slice c n cc) x y z Vs Ls Rs)/\Hid (qE Vs=uV n m t/\rL Ls=uL t/\jE Rs=uR l R1 R2 t)) (fun iv _=>T - (intOf iv).toNat)
 case atStart=>exact⟨0,_,_,_,[],[],[],aV _,rfl,D,⟨rfl,rfl,rfl⟩⟩
 case round=>
  clear D;obtain⟨t,x,y,z,Vs,Ls,Rs,ht,rfl,D,Z⟩:=hrel;by_cases aS:t<T
  ·have rW:Vs.length<=8:=by
    have h9:=dh List.length Z.o.1;rw[sJ,qE,dM] at h9;omega
   have az:Ls.length<=8:=by
    have h9:=dh List.length Z.o.2.1;rw[DL,rL,dM] at h9;omega
   have aO:Rs.length<=8:=by
    have h9:=dh List.length Z.o.2.2;rw[BR,jE,dM] at h9;omega
   (have k1:IntKind.i64.wrap (2*(t:Int))=2*(t:Int):=by rw[fj];omega);(have k2:IntKind.i64.wrap (2*(t:Int)+1)=2*(t:Int)+1:=by rw[fj];omega);(have k3:IntKind.i64.wrap (2*(t:Int) - 2)=2*(t:Int) - 2:=by rw[fj];omega);(have k4:IntKind.i64.wrap (2*(t:Int)+1 - 1)=2*(t:Int):=by rw[fj];omega);by_cases N6:t=0
   focus
    (have ad:((t:Int)==0)=true:=by simp;omega);have tG:=hid N6;clear N6;obtain⟨e0,e1,e2⟩:=D.o.hb.cells;go_wp2_with fail
    have A:=(au wr.heap.size wr).alloc (aq _) (.cells #[.slice a n ca] 24);have mo:=hid (dB wr (.cells #[.slice a n ca] 24));have H:=hid (D.o.step A);clear D A e0 e1 e2;simp only[AX.o];refine(Ik.o _ G wr.heap.size _ _ _ _ _ _ _ (kM 115 0) H.o (cJ.1 mo.o).1 (by rw[bG _ wr.heap.size _ _ _ (0,0) mo.o];rfl) al al al).af ?_;rintro e w3 ⟨rfl,x',y',z',p1,p3,J,L,F⟩;have M:=hid F;have O:=hid J;have E:=hid L;clear F J L H mo ad;obtain⟨pA,Ci⟩:∃p,p1=p:=⟨_,rfl⟩;obtain⟨pC,Ch⟩:∃p,p3=p:=⟨_,rfl⟩;rw[Ci] at M O;rw[Ch] at M E;clear Ci Ch p1 p3;(have Ky:(Vs++[pA]).length<=9:=by rw[bK];simp;omega);(have KA:(Ls++[((.slice none 0 0,[]):PL)]).length<=9:=by rw[bK];simp;omega);(have Kz:(Rs++[pC]).length<=9:=by rw[bK];simp;omega);obtain⟨V2,Q⟩:∃v,Vs++[pA]=v:=⟨_,rfl⟩;obtain⟨L2,P⟩:∃v,Ls++[((.slice none 0 0,[]):PL)]=v:=⟨_,rfl⟩;obtain⟨Q2,R⟩:∃v,Rs++[pC]=v:=⟨_,rfl⟩;rw[Q,P,R] at M;rw[Q] at Ky;rw[P] at KA;rw[R] at Kz;have nC:=hid Q;have k6:=hid P;have iC:=hid R;clear Q P R;go_upto_region 14 with fail
    have H:=M;have A6:=O;have xY:=E;clear M O E;replace H:=hid (H.o.step (au _ _).drew);refine gI (S:=fun u=>(u.cell? ⟨w.heap.size,0,none⟩=some (.slice a n ca)/\u.cell? ⟨w.heap.size,1,none⟩=some (.slice b n cb)/\u.cell? ⟨w.heap.size,2,none⟩=some (.slice c n cc))) ao H.o.hb.cells (fun f=>?_);generalize w3.drew=s at *;refine ar 0 (.int .i64 (t:Nat)) ?_;refine ar 2 (.int .i64 (2*(t:Int)+1)) ?_;refine ar 3 (.int .i64 (2*(t:Int))) ?_;refine ar 5 (.pointer (some ⟨w.heap.size,2,none⟩)) ?_;refine ar 6 (.slice c n cc) ?_;refine aG [1,4] (cA ?_ (cA ?_ aF))
    focus
     intro j K;go_simp;refine(zD.o 111 t al _).af ?_;rintro e u1 ⟨rfl,rfl⟩;refine K.o _ _ H.o.hb.cells (fun d=>?_);clear K j f;have f:=d;clear d;refine aG [4] (cA ?_ aF);intro j K;go_simp;have A:=(au u1.heap.size u1).alloc (aq _) (.cells #[.int .i64 (2*(t:Int))] 3);have I:=hid (yO (bP.one u1 (2*(t:Int))) H.o.bel.size:bP _ w.heap.size (.slice (some ⟨u1.heap.size,0,none⟩) 1 1) [2*(t:Int)]);replace H:=hid (H.o.step A);refine K.o _ _ H.o.hb.cells (fun d=>?_);clear K j f;have f:=d;clear d;obtain⟨X,V⟩:∃x,u1.heap.size=x:=⟨_,rfl⟩;obtain⟨vy,q⟩:∃x,u1.alloc (.cells #[.int .i64 (2*(t:Int))] 3)=x:=⟨_,rfl⟩;rw[V,q] at I;rw[q] at H f;simp only[q];simp only[V];clear V q A;refine aG [7] (cA ?_ aF);intro j K;go_simp;refine(tK.o vy G _ _ _ _ _ _ (kM 111 t) _ _ _ _ H.o I.o al al al).af ?_
    rotate_left
    focus
     intro j K;go_simp;have A:=(au s.heap.size s).alloc (aq _) (.cells #[.int .i64 (2*(t:Int))] 3);have I:=hid (yO (bP.one s (2*(t:Int))) H.o.bel.size:bP _ w.heap.size (.slice (some ⟨s.heap.size,0,none⟩) 1 1) [2*(t:Int)]);replace H:=hid (H.o.step A);refine K.o _ _ H.o.hb.cells (fun d=>?_);clear K j f;have f:=d;clear d;obtain⟨X,V⟩:∃x,s.heap.size=x:=⟨_,rfl⟩;obtain⟨vy,q⟩:∃x,s.alloc (.cells #[.int .i64 (2*(t:Int))] 3)=x:=⟨_,rfl⟩;rw[V,q] at I;rw[q] at H f;simp only[q];simp only[V];clear V q A;refine aG [1] (cA ?_ aF);intro j K;go_simp;refine(zD.o 111 t al _).af ?_;rintro e u9 ⟨rfl,rfl⟩;refine K.o _ _ H.o.hb.cells (fun d=>?_);clear K j f;have f:=d;clear d;refine aG [7] (cA ?_ aF);intro j K;go_simp;refine(tK.o u9 G _ _ _ _ _ _ (kM 111 t) _ _ _ _ H.o I.o al al al).af ?_
    all_goals
     rintro e w5 ⟨rfl,x',y',z',p1,p3,J,L,F⟩;have M:=hid F;have O:=hid J;have E:=hid L;clear F J L;refine K.o _ _ M.o.hb.cells (fun _=>dS ao ?_ _);clear K j f H I
     have Iw:Hid (qE (V2++[p1])=uV n m (t+1)/\rL (L2++[(.slice (some ⟨X,0,none⟩) 1 1,[2*(t:Int)])])=uL (t+1)/\jE (Q2++[p3])=uR l R1 R2 (t+1)):=by
      refine⟨?_,?_,?_⟩
      ·rw[<- nC.o,MV,MV,Z.o.1,uV,lV];show _++[(pA.1,pA.2.2),(p1.1,p1.2.2)]=_;rw[A6.o,O.o];rw[tG.o]
      ·rw[<- k6.o,NU,NU,Z.o.2.1,uL,lV,aA tG.o];rfl
      ·rw[<- iC.o,Ni,Ni,Z.o.2.2,uR,lV,aA tG.o];show _++[pC.2,p3.2]=_;rw[xY.o,E.o]
   rotate_left 2
   focus
    (have ad:((t:Int)==0)=false:=by simp;omega);have tG:=hid N6;clear N6;go_upto_region 13 with fail
    have H:=D;clear D ad;replace H:=hid (H.o.step (au _ _).drew);refine gI (S:=fun u=>(u.cell? ⟨w.heap.size,0,none⟩=some (.slice a n ca)/\u.cell? ⟨w.heap.size,1,none⟩=some (.slice b n cb)/\u.cell? ⟨w.heap.size,2,none⟩=some (.slice c n cc))) ao H.o.hb.cells (fun f=>?_);generalize wr.drew=s at *;refine ar 0 (.int .i64 (t:Nat)) ?_;refine ar 2 (.int .i64 (2*(t:Int))) ?_;refine ar 3 (.int .i64 (2*(t:Int) - 2)) ?_;refine ar 5 (.pointer (some ⟨w.heap.size,1,none⟩)) ?_;refine ar 6 (.slice b n cb) ?_;refine aG [1,4] (cA ?_ (cA ?_ aF))
    focus
     intro j K;go_simp;refine(zD.o 115 t al _).af ?_;rintro e u1 ⟨rfl,rfl⟩;refine K.o _ _ H.o.hb.cells (fun d=>?_);clear K j f;have f:=d;clear d;refine aG [4] (cA ?_ aF);intro j K;go_simp;have A:=(au u1.heap.size u1).alloc (aq _) (.cells #[.int .i64 (2*(t:Int) - 2)] 3);have I:=hid (yO (bP.one u1 (2*(t:Int) - 2)) H.o.bel.size:bP _ w.heap.size (.slice (some ⟨u1.heap.size,0,none⟩) 1 1) [2*(t:Int) - 2]);replace H:=hid (H.o.step A);refine K.o _ _ H.o.hb.cells (fun d=>?_);clear K j f;have f:=d;clear d;obtain⟨X,V⟩:∃x,u1.heap.size=x:=⟨_,rfl⟩;obtain⟨vy,q⟩:∃x,u1.alloc (.cells #[.int .i64 (2*(t:Int) - 2)] 3)=x:=⟨_,rfl⟩;rw[V,q] at I;rw[q] at H f;simp only[q];simp only[V];clear V q A;refine aG [7] (cA ?_ aF);intro j K;go_simp;refine(ae.o vy G _ _ _ _ _ _ (kM 115 t) _ _ _ _ H.o I.o al al al).af ?_;rintro e w3 ⟨rfl,x',y',z',p1,p3,J,L,F⟩;have M:=hid F;have O:=hid J;have E:=hid L;clear F J L;refine K.o _ _ M.o.hb.cells (fun _=>dS ao ?_ _);clear K j f H I;obtain⟨g0,ab⟩:∃g,X=g:=⟨_,rfl⟩;rw[ab] at M;simp only[ab];clear ab X;obtain⟨pA,Ci⟩:∃p,p1=p:=⟨_,rfl⟩;obtain⟨pC,Ch⟩:∃p,p3=p:=⟨_,rfl⟩;rw[Ci] at M O;rw[Ch] at M E;clear Ci Ch p1 p3;(have Ky:(Vs++[pA]).length<=9:=by rw[bK];simp;omega);(have KA:(Ls++[((.slice (some ⟨g0,0,none⟩) 1 1,[2*(t:Int) - 2]):PL)]).length<=9:=by rw[bK];simp;omega);(have Kz:(Rs++[pC]).length<=9:=by rw[bK];simp;omega)
     obtain⟨V2,Q⟩:∃v,Vs++[pA]=v:=⟨_,rfl⟩;obtain⟨L2,P⟩:∃v,Ls++[((.slice (some ⟨g0,0,none⟩) 1 1,[2*(t:Int) - 2]):PL)]=v:=⟨_,rfl⟩;obtain⟨Q2,R⟩:∃v,Rs++[pC]=v:=⟨_,rfl⟩;rw[Q,P,R] at M;rw[Q] at Ky;rw[P] at KA;rw[R] at Kz;have nC:=hid Q;have k6:=hid P;have iC:=hid R;clear Q P R;go_upto_region 14 with fail
     have H:=M;have A6:=O;have xY:=E;clear M O E;replace H:=hid (H.o.step (au _ _).drew);refine gI (S:=fun u=>(u.cell? ⟨w.heap.size,0,none⟩=some (.slice a n ca)/\u.cell? ⟨w.heap.size,1,none⟩=some (.slice b n cb)/\u.cell? ⟨w.heap.size,2,none⟩=some (.slice c n cc))) ao H.o.hb.cells (fun f=>?_);generalize w3.drew=s at *;refine ar 0 (.int .i64 (t:Nat)) ?_;refine ar 2 (.int .i64 (2*(t:Int)+1)) ?_;refine ar 3 (.int .i64 (2*(t:Int))) ?_;refine ar 5 (.pointer (some ⟨w.heap.size,2,none⟩)) ?_;refine ar 6 (.slice c n cc) ?_;refine aG [1,4] (cA ?_ (cA ?_ aF))
     focus
      intro j K;go_simp;refine(zD.o 111 t al _).af ?_;rintro e u1 ⟨rfl,rfl⟩;refine K.o _ _ H.o.hb.cells (fun d=>?_);clear K j f;have f:=d;clear d;refine aG [4] (cA ?_ aF);intro j K;go_simp;have A:=(au u1.heap.size u1).alloc (aq _) (.cells #[.int .i64 (2*(t:Int))] 3);have I:=hid (yO (bP.one u1 (2*(t:Int))) H.o.bel.size:bP _ w.heap.size (.slice (some ⟨u1.heap.size,0,none⟩) 1 1) [2*(t:Int)]);replace H:=hid (H.o.step A);refine K.o _ _ H.o.hb.cells (fun d=>?_);clear K j f;have f:=d;clear d;obtain⟨X,V⟩:∃x,u1.heap.size=x:=⟨_,rfl⟩;obtain⟨vy,q⟩:∃x,u1.alloc (.cells #[.int .i64 (2*(t:Int))] 3)=x:=⟨_,rfl⟩;rw[V,q] at I;rw[q] at H f;simp only[q];simp only[V];clear V q A;refine aG [7] (cA ?_ aF);intro j K;go_simp;refine(tK.o vy G _ _ _ _ _ _ (kM 111 t) _ _ _ _ H.o I.o al al al).af ?_
     rotate_left
     focus
      intro j K;go_simp;have A:=(au s.heap.size s).alloc (aq _) (.cells #[.int .i64 (2*(t:Int))] 3);have I:=hid (yO (bP.one s (2*(t:Int))) H.o.bel.size:bP _ w.heap.size (.slice (some ⟨s.heap.size,0,none⟩) 1 1) [2*(t:Int)]);replace H:=hid (H.o.step A);refine K.o _ _ H.o.hb.cells (fun d=>?_);clear K j f;have f:=d;clear d;obtain⟨X,V⟩:∃x,s.heap.size=x:=⟨_,rfl⟩;obtain⟨vy,q⟩:∃x,s.alloc (.cells #[.int .i64 (2*(t:Int))] 3)=x:=⟨_,rfl⟩;rw[V,q] at I;rw[q] at H f;simp only[q];simp only[V];clear V q A;refine aG [1] (cA ?_ aF);intro j K;go_simp;refine(zD.o 111 t al _).af ?_;rintro e u9 ⟨rfl,rfl⟩;refine K.o _ _ H.o.hb.cells (fun d=>?_);clear K j f;have f:=d;clear d;refine aG [7] (cA ?_ aF);intro j K;go_simp;refine(tK.o u9 G _ _ _ _ _ _ (kM 111 t) _ _ _ _ H.o I.o al al al).af ?_
    rotate_left 2
    focus
     intro j K;go_simp;have A:=(au s.heap.size s).alloc (aq _) (.cells #[.int .i64 (2*(t:Int) - 2)] 3);have I:=hid (yO (bP.one s (2*(t:Int) - 2)) H.o.bel.size:bP _ w.heap.size (.slice (some ⟨s.heap.size,0,none⟩) 1 1) [2*(t:Int) - 2]);replace H:=hid (H.o.step A);refine K.o _ _ H.o.hb.cells (fun d=>?_);clear K j f;have f:=d;clear d;obtain⟨X,V⟩:∃x,s.heap.size=x:=⟨_,rfl⟩;obtain⟨vy,q⟩:∃x,s.alloc (.cells #[.int .i64 (2*(t:Int) - 2)] 3)=x:=⟨_,rfl⟩;rw[V,q] at I;rw[q] at H f;simp only[q];simp only[V];clear V q A;refine aG [1] (cA ?_ aF);intro j K;go_simp;refine(zD.o 115 t al _).af ?_;rintro e u9 ⟨rfl,rfl⟩;refine K.o _ _ H.o.hb.cells (fun d=>?_);clear K j f;have f:=d;clear d;refine aG [7] (cA ?_ aF);intro j K;go_simp;refine(ae.o u9 G _ _ _ _ _ _ (kM 115 t) _ _ _ _ H.o I.o al al al).af ?_;rintro e w3 ⟨rfl,x',y',z',p1,p3,J,L,F⟩;have M:=hid F;have O:=hid J;have E:=hid L;clear F J L;refine K.o _ _ M.o.hb.cells (fun _=>dS ao ?_ _);clear K j f H I;obtain⟨g0,ab⟩:∃g,X=g:=⟨_,rfl⟩;rw[ab] at M;simp only[ab];clear ab X;obtain⟨pA,Ci⟩:∃p,p1=p:=⟨_,rfl⟩;obtain⟨pC,Ch⟩:∃p,p3=p:=⟨_,rfl⟩;rw[Ci] at M O;rw[Ch] at M E;clear Ci Ch p1 p3;(have Ky:(Vs++[pA]).length<=9:=by rw[bK];simp;omega);(have KA:(Ls++[((.slice (some ⟨g0,0,none⟩) 1 1,[2*(t:Int) - 2]):PL)]).length<=9:=by rw[bK];simp;omega);(have Kz:(Rs++[pC]).length<=9:=by rw[bK];simp;omega)
     obtain⟨V2,Q⟩:∃v,Vs++[pA]=v:=⟨_,rfl⟩;obtain⟨L2,P⟩:∃v,Ls++[((.slice (some ⟨g0,0,none⟩) 1 1,[2*(t:Int) - 2]):PL)]=v:=⟨_,rfl⟩;obtain⟨Q2,R⟩:∃v,Rs++[pC]=v:=⟨_,rfl⟩;rw[Q,P,R] at M;rw[Q] at Ky;rw[P] at KA;rw[R] at Kz;have nC:=hid Q;have k6:=hid P;have iC:=hid R;clear Q P R;go_upto_region 14 with fail
     have H:=M;have A6:=O;have xY:=E;clear M O E;replace H:=hid (H.o.step (au _ _).drew);refine gI (S:=fun u=>(u.cell? ⟨w.heap.size,0,none⟩=some (.slice a n ca)/\u.cell? ⟨w.heap.size,1,none⟩=some (.slice b n cb)/\u.cell? ⟨w.heap.size,2,none⟩=some (.slice c n cc))) ao H.o.hb.cells (fun f=>?_);generalize w3.drew=s at *;refine ar 0 (.int .i64 (t:Nat)) ?_;refine ar 2 (.int .i64 (2*(t:Int)+1)) ?_;refine ar 3 (.int .i64 (2*(t:Int))) ?_;refine ar 5 (.pointer (some ⟨w.heap.size,2,none⟩)) ?_;refine ar 6 (.slice c n cc) ?_;refine aG [1,4] (cA ?_ (cA ?_ aF))
     focus
      intro j K;go_simp;refine(zD.o 111 t al _).af ?_;rintro e u1 ⟨rfl,rfl⟩;refine K.o _ _ H.o.hb.cells (fun d=>?_);clear K j f;have f:=d;clear d;refine aG [4] (cA ?_ aF);intro j K;go_simp;have A:=(au u1.heap.size u1).alloc (aq _) (.cells #[.int .i64 (2*(t:Int))] 3);have I:=hid (yO (bP.one u1 (2*(t:Int))) H.o.bel.size:bP _ w.heap.size (.slice (some ⟨u1.heap.size,0,none⟩) 1 1) [2*(t:Int)]);replace H:=hid (H.o.step A);refine K.o _ _ H.o.hb.cells (fun d=>?_);clear K j f;have f:=d;clear d;obtain⟨X,V⟩:∃x,u1.heap.size=x:=⟨_,rfl⟩;obtain⟨vy,q⟩:∃x,u1.alloc (.cells #[.int .i64 (2*(t:Int))] 3)=x:=⟨_,rfl⟩;rw[V,q] at I;rw[q] at H f;simp only[q];simp only[V];clear V q A;refine aG [7] (cA ?_ aF);intro j K;go_simp;refine(tK.o vy G _ _ _ _ _ _ (kM 111 t) _ _ _ _ H.o I.o al al al).af ?_
     rotate_left
     focus
      intro j K;go_simp;have A:=(au s.heap.size s).alloc (aq _) (.cells #[.int .i64 (2*(t:Int))] 3);have I:=hid (yO (bP.one s (2*(t:Int))) H.o.bel.size:bP _ w.heap.size (.slice (some ⟨s.heap.size,0,none⟩) 1 1) [2*(t:Int)]);replace H:=hid (H.o.step A);refine K.o _ _ H.o.hb.cells (fun d=>?_);clear K j f;have f:=d;clear d;obtain⟨X,V⟩:∃x,s.heap.size=x:=⟨_,rfl⟩;obtain⟨vy,q⟩:∃x,s.alloc (.cells #[.int .i64 (2*(t:Int))] 3)=x:=⟨_,rfl⟩;rw[V,q] at I;rw[q] at H f;simp only[q];simp only[V];clear V q A;refine aG [1] (cA ?_ aF);intro j K;go_simp;refine(zD.o 111 t al _).af ?_;rintro e u9 ⟨rfl,rfl⟩;refine K.o _ _ H.o.hb.cells (fun d=>?_);clear K j f;have f:=d;clear d;refine aG [7] (cA ?_ aF);intro j K;go_simp;refine(tK.o u9 G _ _ _ _ _ _ (kM 111 t) _ _ _ _ H.o I.o al al al).af ?_
    all_goals
     rintro e w5 ⟨rfl,x',y',z',p1,p3,J,L,F⟩;have M:=hid F;have O:=hid J;have E:=hid L;clear F J L;refine K.o _ _ M.o.hb.cells (fun _=>dS ao ?_ _);clear K j f H I
     have Iw:Hid (qE (V2++[p1])=uV n m (t+1)/\rL (L2++[(.slice (some ⟨X,0,none⟩) 1 1,[2*(t:Int)])])=uL (t+1)/\jE (Q2++[p3])=uR l R1 R2 (t+1)):=by
      refine⟨?_,?_,?_⟩
      ·rw[<- nC.o,MV,MV,Z.o.1,uV,lV];show _++[(pA.1,pA.2.2),(p1.1,p1.2.2)]=_;rw[A6.o,O.o]
      ·rw[<- k6.o,NU,NU,Z.o.2.1,uL,lV,aD tG.o];rfl
      ·rw[<- iC.o,Ni,Ni,Z.o.2.2,uR,lV,aD tG.o];show _++[pC.2,p3.2]=_;rw[xY.o,E.o]
   all_goals
    clear A6 xY O E Z k1 k2 k3 k4;go_wp2;go_roundw
    case rel=>exact⟨t+1,_,_,_,_,_,_,al,b5,M,Iw⟩
    case measure=>simp[intOf];omega
  ·obtain rfl:t=T:=al
   obtain⟨dx,ay,N1, -⟩:=jm D.o.vs.1;subst N1;obtain⟨dy,cy,NZ, -⟩:=jm D.o.ls.1;subst NZ;obtain⟨dz,cz,NX, -⟩:=jm D.o.rs.1;subst NX;obtain⟨e0,e1,e2⟩:=D.o.box.cells;obtain⟨q0,q1,q2⟩:=D.o.res.cells;have f0:wr.frozen? ⟨w.heap.size+1,0,none⟩=false:=jw _ _ 0 _ _ D.o.res;have f1:wr.frozen? ⟨w.heap.size+1,1,none⟩=false:=jw _ _ 1 _ _ D.o.res;have f2:wr.frozen? ⟨w.heap.size+1,2,none⟩=false:=jw _ _ 2 _ _ D.o.res;obtain⟨o1,o2,o3,o4,o5⟩:=D.o.out3;have nD:=hid o1;have Bc:=hid o2;have LP:=hid o3;have E9:=hid o4;have A9:=hid o5;clear o1 o2 o3 o4 o5;go_wp2;refine cj (nD.o.result2 rfl _ rfl) rfl ?_;exact⟨_,_,_,Vs,Ls,Rs,rfl,by rw[HN.o,HM.o];exact Z.o.1,Z.o.2.1,Z.o.2.2,Bc.o,LP.o,E9.o,A9.o⟩
variable {ops:Array Oper} {Q:Exit ->Act ->World ->Prop} {rest:List Oper} {g k:Nat} {w w':World}
def rY (F:List (Int×Int)):List (Value×Value):=F.map fun p=>(.int .i64 p.1,.int .i64 p.2)
theorem Hn (F:List (Int×Int)):(rY F).length=F.length:=dM _
theorem ab6 {F:List (Int×Int)} (h:k<F.length):(rY F)[k]'(by rw[Hn];exact h)=(.int .i64 F[k].1,.int .i64 F[k].2):=nO _
def qZ (w:World) (B:Nat) (v:Value) (F:List (Int×Int)):Prop:=w.ownsRow B 39 2 v F.length (eM (rY F))
theorem qZ.nil (w:World) (B:Nat):qZ w B (.slice none 0 0) []:=⟨rfl,.inl ⟨rfl,rfl⟩⟩
theorem qZ.aa {B:Nat} {v:Value} {F:List (Int×Int)} (h:qZ w B v F) (b:ef w w'):qZ w' B v F:=Ge h (AV.aa b)
theorem qZ.facts {B:Nat} {v:Value} {F:List (Int×Int)} (h:qZ w B v F):∃d c,v=.slice d F.length c/\kD w d F/\F.length<=c/\(d=none ->c=0):=by
 rcases h.2 with ⟨b,i⟩ |⟨g,cap,x,b,i,l,o,s,t,p⟩
 ·exact⟨none,0,by rw[b,i],(fun k a=>absurd a al),al,fun _=>rfl⟩
 ·refine⟨_,cap,b,fun k a=>?_,o,fun e=>by cases e⟩;have Q:k<(rY F).length:=by rw[Hn];exact a
  obtain⟨q,n⟩:=MX (rY F) k Q;have r:=Jn (rY F)
  have m:∀j u,(eM (rY F))[j]? =some u ->w.cell? ⟨g,j,none⟩=some u:=fun j u f=>by
   rw[bG w g j _ _ (0,0) l];have y:=(mH.1 f).1;rw[<- p,pI,aA (by rw[Hn] at r;omega),uU] at f;exact f
  rw[ab6 a] at q n;exact⟨g,0,rfl,(cJ.1 l).1,by rw[bB];exact m _ _ q,by rw[bB];exact m _ _ n⟩
theorem qZ.own {B:Nat} {v:Value} {F:List (Int×Int)} (h:qZ w B v F):∀k,v.ownBlock=some k ->B<=k:=fun k a=>by
 rcases h.2 with ⟨b,c⟩ |⟨g,cap,r,b,c,_⟩
 ·rw[b] at a;cases a
 ·rw[b] at a;cases a;exact c
theorem Tryz.infoFact:(Tryz.prog.info? 39).map (fun i=>(i.zero,i.size,i.bytes))=some (some (.agg #[.int .i64 0,.int .i64 0]),2,16):=ao
theorem alm {o:Nat} {F:List (Int×Int)} (h:kD w (some ⟨g,o,none⟩) F):∀j u,(eM (rY F))[j]? =some u ->w.cell? ((⟨g,o,none⟩:Addr).add j)=some u:=fun j u a=>by
 have y:=(mH.1 a).1;rw[Jn,Hn] at y;have k:j/2<F.length:=al
 obtain⟨g',o',e,_,c,d⟩:=h (j/2) k;cases e;obtain⟨q,b⟩:=MX (rY F) (j/2) (by rw[Hn];exact k);rw[ab6 k] at q b
 have i:((⟨g,o,none⟩:Addr).add j)=⟨g,o+j,none⟩:=by
  rw[Addr.add];by_cases f:j=0
  ·subst f;simp
  ·simp[f]
 rw[i];rcases WJ j with m |m
 ·have e:j/2*2=j:=al
  rw[e] at q c;rw[q] at a;rw[c,a]
 ·have e:j/2*2+1=j:=al
  rw[e] at b;rw[b] at a;rw[show o+j/2*2+1=o+j by omega] at d;rw[d,a]
theorem alk (F:List (Int×Int)):∀u∈eM (rY F),u.oneCell'=true:=by
 induction F with
 |nil=>intro u a;cases a
 |cons p F ih=>
  intro u a;have y:u=.int .i64 p.1∨u=.int .i64 p.2∨u∈eM (rY F):=by simpa [rY,eM] using a
  rcases y with rfl |rfl |h
  ·rfl
  ·rfl
  ·exact ih u h
theorem ad5 {o:Oper} {a:Act} (m:o.guard=none) (s x:Operand)
  (c:o.op=.call {callee:=.builtin .append,args:= #[s,x],argTypes:= #[37,37]}) (base:Nat) (v:Value) (xs la:List (Int×Int)) (d:a.eval s=v) (n:qZ w base v xs) (p:Option Addr) (ca:Nat) (f:a.eval x=.slice p la.length ca) (i:kD w p la) (D:p=none ->ca=0) (J:xs.length+la.length<=100000) (I:base<=w.heap.size)
  (h:∀v' w',qZ w' base v' (xs++la) ->w.grownBy w' v.ownBlock ->wpList Tryz.prog ops Q rest (a.put o.dst v') w'):wpList Tryz.prog ops Q (o::rest) a w:=by
 obtain⟨k,M,E,F,H⟩:=dJ Tryz.infoFact;cases p with
 |none=>
  have A:la=[]:=by
   cases la with
   |nil=>rfl
   |cons x l=>obtain⟨g,o,e,_⟩:=i 0 aE;cases e
  subst A;have r:=D rfl;subst r;have b:=h v w (by rw[BP];exact n) ⟨rfl,rfl,rfl,aq _,fun _ _ _=>rfl⟩;exact wpList_append_own_none m s x 37 c base 39 k 2 Tryz.underlying37 M v xs.length _ d n f b
 |some ad=>
  have y:∀j u,(eM (rY la))[j]? =some u ->w.cell? (ad.add j)=some u:=by
   cases la with
   |nil=>intro j u z;cases z
   |cons q l=>
    obtain⟨g,o',e,_⟩:=i 0 aE;cases e;exact alm i
  refine FH _ m s x 37 c base 39 k (.agg #[.int .i64 0,.int .i64 0]) 2 16 Tryz.underlying37 M E F H rfl bd v xs.length _ d n ad la.length ca (eM (rY la)) f (by rw[Jn,Hn]) y (alk la) (by unfold maxLen;omega) al I ?_;intro v' w' b t _;refine h v' w' ?_ t;rw[qZ,bK,rY,eP,Jo];exact b
variable {Rs:List PR} {xs:List Value} {n s:Nat} {z:Value}
theorem aiT (d:Option Addr) (M m:Nat) (W:List Int) (w:World) (r:aJ w d W) (s:∀x∈W, -9223372036854775808<=x/\x<=9223372036854775807) (E:1<=m) (hm:m<=4):
  du 6 #[.slice d W.length M,.int .i64 (m:Nat),.int .i64 4] w fun e w'=>∃(v:Value) (Q:List Nat),e=.returned v/\bP w' w.heap.size v (iL Q)/\Q.length<=4/\(∀x∈Q,x<m)/\ef w w':=by
 have K:=hid r;have F:=hid (fun (c:Int) (h: -9223372036854775808<=c/\c<=9223372036854775807) (U:World)=>Nh c m U h.1 h.2 E al);have T:=hid (fun (c:Int)=>JB c (n:=m) E);have J:=hid s;clear r s;go_enter Tryz.func6,Tryz.ntmps6;go_wp2_with fail
 go_loopw [7,8] (fun sv iv wr=>∃(i:Nat) (Q:List Nat),i<=W.length/\i<=4/\iv=.int .i64 i/\Hid (Q.length=i/\∀x∈Q,x<m)/\Hid (bP wr w.heap.size sv (iL Q))/\Hid (ef w wr)) (fun _ iv _=>W.length - (intOf iv).toNat)
 case atStart=>exact⟨0,[],aV _,aV _,rfl,⟨rfl,fun x O=>by cases O⟩,bP.emptyB _ _,au _ _⟩
 case round=>
  obtain⟨i,Q,hi,D,rfl,H,X,b⟩:=hrel;by_cases t:i<W.length/\i<4
  ·obtain⟨l,ai⟩:=t;obtain⟨g',o',rfl,iI,L⟩:=(K.o.aa b.o) i l;have V:=hid (fun U=>F.o W[i] (J.o W[i] (bF l)) U);have ae:=T.o W[i];generalize W[i]=Y at *;generalize Ae Y m=p at *;(have A:(i:Int)<(W.length:Int):=al);(have ab:(i:Int)<4:=al);go_wp2_with fail
   refine(V.o _).af ?_;rintro e g ⟨rfl,q⟩;have u:=hid (X.o.aa q);have j:=hid (b.o.trans (q.af b.o.size));have y:=hid (u.o.aa ((au _ g).alloc (aq _) (.cells #[.int .i64 (p:Int)] 3)));have R:=hid (j.o.alloc j.o.size (.cells #[.int .i64 (p:Int)] 3));have I:=hid (Gg g (p:Int));have z:w.heap.size<=(g.alloc (.cells #[.int .i64 (p:Int)] 3)).heap.size:=R.o.size;(have wY:(iL Q).length=i:=by rw[bI];exact H.o.1);have S:=hid (SC Q p);have Z:Hid ((Q++[p]).length=i+1/\∀x∈Q++[p],x<m):=⟨by simp[H.o.1],fun a f=>by rcases ck.1 f with f |f;exact H.o.2 a f;rw[dT.1 f];exact ae⟩;clear L q X b u j;go_wp2_with (at_builtin;refine I9 rfl _ _ rfl w.heap.size _ (iL Q) [(p:Int)] rfl y.o (some ⟨g.heap.size,0,none⟩) 1 rfl I.o (fun e=>by cases e) (by simp;omega) z ?_;intro v' w3 ah ad;have P:=hid (R.o.grown ad z (fun k e=>y.o.own k e)))
   go_roundw
   case rel=>exact⟨i+1,Q++[p],al,al,b5,Z,by rw[S.o];exact ah,P⟩
   case measure=>simp[intOf];omega
  ·by_cases l:i<W.length
   ·have A:(i:Int)<(W.length:Int):=al
    (have ab:¬(i:Int)<4:=al);clear t;go_wp2;go_ret;exact⟨_,rfl,Q,X.o,by rw[H.o.1];exact D,H.o.2,b.o⟩
   ·have A:¬(i:Int)<(W.length:Int):=al
    clear t;go_wp2;go_ret;exact⟨_,rfl,Q,X.o,by rw[H.o.1];exact D,H.o.2,b.o⟩
theorem kW.rowsZ {W:World} {B:Nat} (h:kW W B z Rs):∃a c,z=.slice a (jE Rs).length c/\gD W a (jE Rs)/\(a=none ->c=0):=by
 obtain⟨a,c,e,f⟩:=h.rows;obtain⟨g,i,b,d⟩:=jm h.1;rw[e] at b;injection b with e1 _ e3;exact⟨a,c,e,f,fun e=>by rw[e3];exact d (by rw[<- e1];exact e)⟩
theorem ahb {B:Nat} {e:TypeId} {v:Value} (h:w.ownsRow B e s v n xs):∀a k c,v=.slice a k c ->k<=c:=fun a k c b=>by
 rcases h.2 with ⟨d,_⟩ |⟨g,cap,r,d,_,_,f,_⟩
 ·rw[d] at b;cases b;exact aq _
 ·rw[d] at b;cases b;exact f
theorem ahQ (w:World) (u v:Int):kD (w.alloc (.cells #[.int .i64 u,.int .i64 v] 39)) (some ⟨w.heap.size,0,none⟩) [(u,v)]:=fun k a=>by
 obtain rfl:k=0:=by simp at a;omega
 have h:=dB w (.cells #[.int .i64 u,.int .i64 v] 39);exact⟨w.heap.size,0,rfl,aE,(bG _ w.heap.size _ _ _ (0,0) h).trans rfl,(bG _ w.heap.size _ _ _ (0,0) h).trans rfl⟩
theorem ajK (c d:Option Addr) (e f:Nat) (a b:List Int) (n g:Int) (w:World) (h0:a.length<=140737488355328) (j:b.length<=140737488355328) (h:256<a.length+b.length):
  du 3 #[.slice c a.length e,.int .i64 n,.int .i64 g,.slice d b.length f] w (eS w (.bool true)):=by
 have i:IntKind.i64.wrap ((a.length:Int)+(b.length:Int))=(a.length:Int)+(b.length:Int):=by rw[fj];omega
 have k:(256:Int)<(a.length:Int)+(b.length:Int):=al
 go_enter Tryz.func3,Tryz.ntmps3;go_wp2;go_ret;exact⟨rfl,au _ _⟩
theorem ajJ (a0 a3:Option Addr) (c0 c3:Nat) (X0 X3:List Int) (n1 n2:Int) (w:World) (h0:aJ w a0 X0) (h3:aJ w a3 X3) (r0:∀x∈X0, -9223372036854775808<=x/\x<=9223372036854775807) (r3:∀x∈X3, -9223372036854775808<=x/\x<=9223372036854775807) (cK: -9223372036854775808<=n1/\n1<=9223372036854775807) (gj: -9223372036854775808<=n2/\n2<=9223372036854775807) (cS:X0.length+X3.length<=256):
  du 3 #[.slice a0 X0.length c0,.int .i64 n1,.int .i64 n2,.slice a3 X3.length c3] w (eS w (.bool true)):=by
 have E6:=hid (fun U:World=>Nh n1 3 U cK.1 cK.2 al al);have PJ:=hid (fun U:World=>Nh n2 3 U gj.1 gj.2 al al);have mg:=JB n1 (n:=3) al;have y5:=JB n2 (n:=3) al;clear cK gj;generalize Ae n1 3=p1 at *;generalize Ae n2 3=p2 at *;obtain⟨n,nZ⟩:∃n,n=1+p1:=⟨_,rfl⟩;obtain⟨m,cL⟩:∃m,m=1+p2:=⟨_,rfl⟩;have Qn:Hid ((1:Int)+(p1:Int)=(n:Int)):=by show _=_;omega
 have Wm:Hid ((1:Int)+(p2:Int)=(m:Int)):=by show _=_;omega
 have cK:1<=n:=al
 have jW:n<=3:=al
 have aT:1<=m:=al
 have G0:m<=3:=al
 have qm:=hid (fun (U:World) (c:ef w U)=>ajI a0 c0 n m X0 U (h0.aa c) r0 al cK al aT al);have r8:=hid (fun (U:World) (c:ef w U)=>aiT a3 c3 m X3 U (h3.aa c) r3 aT al);clear h0 h3 r0 r3 nZ cL;have e1:IntKind.i64.wrap ((X0.length:Int)+(X3.length:Int))=(X0.length:Int)+(X3.length:Int):=by rw[fj];omega
 have hg:¬(256:Int)<(X0.length:Int)+(X3.length:Int):=al
 go_enter Tryz.func3,Tryz.ntmps3;go_wp2_with fail
 refine(E6.o _).af ?_;rintro e w1 ⟨rfl,an⟩;go_wp2_with fail
 refine(PJ.o _).af ?_;rintro e w2 ⟨rfl,Z⟩;have ae:=an.trans (Z.af an.size);clear an Z;go_wp2_with fail
 rw[Qn.o,Wm.o];refine(qm.o _ ae).af ?_;rintro e w3 ⟨x,y,z,Ls,P1,P2,rfl,ca,b3,hx,hy,hz,xw,AA,b⟩;have bT:=ae.trans (b.af ae.size);obtain⟨D,cx,rfl,cb⟩:=hx.fr;obtain⟨E,cy,rfl,cc,vp⟩:=hy.rowsZ;obtain⟨F,cz,rfl,cf,cd⟩:=hz.rowsZ;have o6:=ahb hx _ _ _ rfl;have J:Hid (r6 n m (jD Ls) (jE P1) (jE P2)):=⟨cK,jW,aT,G0,YH jW ca b3,(Ng jW xw).1,(Ng G0 AA).1,(Ng jW xw).2,(Ng G0 AA).2⟩;have HM:Hid (xR w3 D E F (jD Ls) (jE P1) (jE P2)):=⟨cb,cc,cf⟩;have zw:=hid vp;have AX:=hid cd;generalize jD Ls=l at *;generalize jE P1=R1 at *;generalize jE P2=R2 at *;rw[J.o.row.1] at o6;simp only[J.o.row.1,J.o.len1,J.o.len2];have cl:=hid o6;clear ca b3 hx hy hz xw AA b cb cc cf vp cd o6 ae qm E6 PJ Qn Wm;obtain⟨gh,Tq⟩:∃g,w3.heap.size=g:=⟨_,rfl⟩;have A:ef w3 (w3.alloc (dX (.slice D n cx) (.slice E n cy) (.slice F n cz))):=(au _ w3).alloc (aq _) _;have bX:=b6.new w3 (.slice D n cx) (.slice E n cy) (.slice F n cz);obtain⟨W4,Kq⟩:∃U,w3.alloc (.cells #[.slice D n cx,.slice E n cy,.slice F n cz] 27)=U:=⟨_,rfl⟩
 have eW:Hid (ef w W4):=by
  show Below _ _ _;rw[<- Kq];exact bT.trans (A.af bT.size)
 have vV:Hid (xR W4 D E F l R1 R2):=by
  show xR _ _ _ _ _ _ _;rw[<- Kq];exact HM.o.aa A
 have Wa:Hid (b6 W4 gh (.slice D n cx) (.slice E n cy) (.slice F n cz)):=by
  show b6 _ _ _ _ _;rw[<- Kq, <- Tq];exact bX
 have bf:=hid Kq;have a6:=hid Tq;clear A bX HM bT Kq Tq;go_wp2_with fail
 simp only[bf.o,a6.o];refine(r8.o _ eW.o).af ?_;rintro e w4 ⟨v,Q,rfl,hq,En,b1,ai⟩;obtain⟨dq,cq,rfl,hI⟩:=hq.ints;have dI:=hid (eW.o.trans (ai.af eW.o.size));have Dl:=hid hI;have sk:=hid (vV.o.aa ai);have Qe:=hid (Wa.o.aa ai Wa.o.lt);have PG:=hid b1;rw[bI];obtain⟨T,hT⟩:∃T,Q.length=T:=⟨_,rfl⟩;rw[hT] at En⊢;have LJ:=hid hT;clear hq b1 ai hI eW vV Wa hT r8 bf a6;by_cases CC:T=0
 ·subst CC;go_wp2;go_ret;exact⟨rfl,dI.o⟩
 ·have CB:1<=T:=al
  have iM:=hid (fun (U:World) (c:xR U D E F l R1 R2)=>ajM D E F cx cy cz n T l R1 R2 U c J.o.sizes J.o.err zw.o AX.o J.o.row.1 CB En cl.o);obtain⟨k0,k1,k2⟩:=Qe.o.cells;go_wp2_with fail
  refine(iM.o _ sk.o).af ?_;rintro e w5 ⟨xv,yv,zv,Vs,Lz,Rs,rfl,v1,v2,v3,oV,oL,oR,ab⟩;obtain⟨u,V,rfl,qM⟩:=oV.vars;obtain⟨q,R,rfl,rP,JY⟩:=oL.pars;obtain⟨r,P,rfl,wV⟩:=oR.rows;rw[J.o.row.1,J.o.head] at v1;rw[v1] at qM⊢;rw[v2] at rP JY⊢;rw[v3] at wV⊢;have bk:=J.o.ni3 CB En ⟨qM,rP,wV⟩ JY;have iD:=hid (dI.o.trans (ab.af dI.o.size));have a7:=hid bk;have Ih:=hid (sk.o.aa ab);have V7:=hid (Qe.o.aa ab Qe.o.lt);have bJ:=hid (Dl.o.aa ab);clear v1 v2 v3 oV oL oR qM rP JY wV bk ab dI sk Qe k0 k1 k2 iM Dl;rw[sJ,DL,BR];obtain⟨gn,aS⟩:∃g,w5.heap.size=g:=⟨_,rfl⟩;obtain⟨W6,Oz⟩:∃U,w5.alloc (.cells #[.slice u (2*T) V,.slice q (2*T) R,.slice r (2*T) P] 33)=U:=⟨_,rfl⟩
  have A:ef w5 W6:=by
   rw[<- Oz];exact(au _ w5).alloc (aq _) _
  have VK:Hid (dQ W6 gn (.slice u (2*T) V) (.slice q (2*T) R) (.slice r (2*T) P)):=by
   show dQ _ _ _ _ _;rw[<- Oz, <- aS];exact dQ.at (w:=w5) rfl _ _ _
  have tM:=hid (iD.o.trans (A.af iD.o.size));have bb:=hid (a7.o.aa A);have Fe:=hid (Ih.o.aa A);have V6:=hid (V7.o.aa A V7.o.lt);have V0:=hid (bJ.o.aa A);have cm:=hid Oz;have Bo:=hid aS;clear A Oz aS iD a7 Ih V7 bJ;go_wp2_with fail
  simp only[cm.o,Bo.o];obtain⟨B7,tr⟩:∃B,W6.heap.size=B:=⟨_,rfl⟩;have br:=hid tr;clear tr;go_loopw [13,14] (fun fv tv wr=>∃t:Nat,t<=T/\tv=.int .i64 t/\Hid (qZ wr B7 fv (zF (di (fun t=>Q[t]?.getD 0) t)))/\Hid (Below B7 W6 wr)) (fun _ tv _=>T - (intOf tv).toNat)
  case atStart=>exact⟨0,aV _,rfl,qZ.nil _ _,au _ _⟩
  case round=>
   obtain⟨t,ht,rfl,HF,HX⟩:=hrel;(have bL:ef W6 wr:=by have:=HX.o;rwa [<- br.o] at this);by_cases b4:t<T
   ·have b7:t<(iL Q).length:=by rw[bI,LJ.o];exact b4
    obtain⟨gq,oq,eq,y8,cQ⟩:=(V0.o.aa bL) t b7;subst eq;(have b2:t<Q.length:=by rw[LJ.o];exact b4);(have eQ:(iL Q)[t]=((Q[t]:Nat):Int):=by simp[iL]);rw[eQ] at cQ
    have cn:Hid (zF (di (fun t=>Q[t]?.getD 0) (t+1))=zF (di (fun t=>Q[t]?.getD 0) t)++[(2*(t:Int)+1,((Q[t]:Nat):Int))]):=by
     show _=_;rw[di,qC,eP,zF,eP];simp[di,zF,b2]
    have cg:(zF (di (fun t=>Q[t]?.getD 0) t)).length+[(2*(t:Int)+1,((Q[t]:Nat):Int))].length<=100000:=by
     rw[yC,di,dM,wD,IZ];omega
    generalize Q[t]=qt at *;have ch:=ahQ wr (2*(t:Int)+1) (qt:Int);have a:ef wr (wr.alloc (.cells #[.int .i64 (2*(t:Int)+1),.int .i64 (qt:Int)] 39)):=(au _ wr).alloc (aq _) _;have Ub:=HF.o.aa a;(have a1:B7<=wr.heap.size:=by have:=HX.o.size;have:=br.o;omega);have JO:B7<=(wr.alloc (.cells #[.int .i64 (2*(t:Int)+1),.int .i64 (qt:Int)] 39)).heap.size:=aR a1 a.size;have bg:=hid (HX.o.trans (a.af a1));clear a a1 bL b7 b2 eQ;go_wp2_with (at_builtin;refine ad5 rfl _ _ rfl B7 _ _ [(2*(t:Int)+1,(qt:Int))] rfl Ub (some ⟨wr.heap.size,0,none⟩) 1 rfl ch (fun e=>by cases e) cg JO ?_;intro v' w8 Ao Ew)
    have X9:=hid (bg.o.grown Ew JO (fun k e=>Ub.own k e))
    have F9:Hid (qZ w8 B7 v' (zF (di (fun t=>Q[t]?.getD 0) (t+1)))):=by
     show qZ _ _ _ _;rw[cn.o];exact Ao
    clear Ao Ew Ub ch bg cg JO;go_roundw
    case rel=>exact⟨t+1,al,b5,F9,X9⟩
    case measure=>simp[intOf];omega
   ·obtain rfl:t=T:=al
    obtain⟨O,Hs,rfl,Kg,od, -⟩:=HF.o.facts;have eV:=hid (tM.o.trans (bL.af tM.o.size));have rk:=hid (bb.o.aa bL);have vU:=hid (Fe.o.aa bL);have Qd:=hid (V6.o.aa bL V6.o.lt);have PU:=hid (VK.o.aa bL VK.o.lt);have VZ:=hid (V0.o.aa bL);have bm:=hid Kg;have cP:=hid od;obtain⟨h,hh⟩:∃h,Kl n l R1 R2 Q=h:=⟨_,rfl⟩;(have bh:Q.length<=4:=by rw[LJ.o];exact En);have hV:=J.o.vals bh PG.o;have Y:=J.o.hnk bh PG.o;rw[hh] at hV Y;rw[LJ.o] at Y;have h0:=J.o.net CB En;(have b0:h.s=n:=by rw[<- hh];rfl);(have bW:h.L=t:=by rw[<- hh];exact LJ.o);have PZ:Hid (∀U:World,xR U D E F l R1 R2 ->aJ U dq (iL Q) ->du 8 #[.agg #[.slice D n cx,.slice E n cy,.slice F n cz],.slice dq t cq] U fun e w'=>e=.returned (.tuple #[iB (qF h.seen),.int .i64 0])/\ef U w'):=fun U c hQ=>aa9 D E F dq cx cy cz cq n t m l R1 R2 Q h U ⟨c.st,c.mv,c.sh⟩ hV b0 bW zw.o AX.o hQ;have gX:Hid (∀U:World,xR U D E F l R1 R2 ->aJ U dq (iL Q) ->du 10 #[.agg #[.slice D n cx,.slice E n cy,.slice F n cz],.slice dq t cq] U fun e w'=>((h.seen=0/\e=.returned (.tuple #[.slice none 0 0,.int .i64 3]))∨(h.seen≠0/\∃x k,e=.returned (.tuple #[.slice x t k,.int .i64 0])/\gD w' x ((List.range t).map fun t=>lF n fun j=>h.alp t j*h.behind t j/h.seen)))/\ef U w'):=fun U c hQ=>ajN D E F dq cx cy cz cq n t m l R1 R2 Q h U ⟨c.st,c.mv,c.sh⟩ hV b0 bW zw.o AX.o hQ
    have E5:Hid (∀(i G:Nat) (U:World),i< t ->vO U u q r (uV n m t) (uL t) (uR l R1 R2 t) ->kD U O (zF (di (fun t=>Q[t]?.getD 0) t)) ->aJ U (some ⟨G,0,none⟩) [2*(i:Int)] ->du 11 #[.agg #[.slice u (2*t) V,.slice q (2*t) R,.slice r (2*t) P],.slice (some ⟨G,0,none⟩) 1 1,.slice O (zF (di (fun t=>Q[t]?.getD 0) t)).length Hs] U fun e w'=>((h.seen=0 ->rZ [] [] 3 e w')/\(h.seen≠0 ->rZ [2*(i:Int)] (lF n fun j=>h.alp i j*h.behind i j/h.seen) 0 e w'))/\ef U w'):=fun i G U hi c hF hq=>by
     obtain⟨q1,q2,q3⟩:=Y.post CB h0 hi;have:=ajb u q r (some ⟨G,0,none⟩) O V R P 1 Hs _ _ _ [2*(i:Int)] _ U c hq aE hF (by rw[yC,di,dM,wD];omega) od (by rw[q1];omega);rw[sJ,DL,BR,q2] at this;refine this.af fun e w' ⟨X,h2⟩=>⟨⟨fun hs=>?_,fun hs=>?_⟩,h2⟩
     ·rw[aA hs] at X;(have e1:rH (uV n m t) (uL t) (uR l R1 R2 t) [2*(i:Int)] (zF (di (fun t=>Q[t]?.getD 0) t))=([],[]):=by rw[rH,q2,aA hs,aD bd]);rwa [e1] at X
     ·rw[aD hs,q3 hs] at X;exact X
    have pw:Hid (∀U:World,vO U u q r (uV n m t) (uL t) (uR l R1 R2 t) ->kD U O (zF (di (fun t=>Q[t]?.getD 0) t)) ->du 9 #[.agg #[.slice u (2*t) V,.slice q (2*t) R,.slice r (2*t) P],.slice O (zF (di (fun t=>Q[t]?.getD 0) t)).length Hs] U fun e w'=>e=.returned (.tuple #[iB (qF h.seen),.int .i64 0])/\ef U w'):=fun U c hF=>by
     have:=aja u q r O V R P Hs _ _ _ _ U c hF (by rw[yC,di,dM,wD];omega) od;rwa [sJ,DL,BR,(Y.prob CB h0).1,(Y.prob CB h0).2] at this
    clear Kg od bL tM bb Fe V6 VK V0 HF HX;obtain⟨k0,k1,k2⟩:=Qd.o.cells;obtain⟨j0,j1,j2⟩:=PU.o.cells;go_wp2_with fail
    refine(PZ.o _ vU.o VZ.o).af ?_;rintro e w9 ⟨rfl,pZ⟩;have sq:=hid (eV.o.trans (pZ.af eV.o.size));have VO:=hid (rk.o.aa pZ);have Dj:=hid (vU.o.aa pZ);have V5:=hid (Qd.o.aa pZ Qd.o.lt);have LR:=hid (PU.o.aa pZ PU.o.lt);have bA:=hid (VZ.o.aa pZ);have Wl:=hid (bm.o.aa pZ);clear pZ eV rk vU Qd PU VZ bm k0 k1 k2 j0 j1 j2 PZ;obtain⟨lf,Au⟩:∃f,qF h.seen=f:=⟨_,rfl⟩;rw[Au] at pw⊢;have Ij:=hid Au;clear Au;obtain⟨ln,lx,ly⟩:=lf;have A:ef w9 (w9.alloc (FC ln lx ly)):=(au _ w9).alloc (aq _) _;have Ha:=aI.at (w:=w9) rfl ln lx ly;obtain⟨j0,j1,j2⟩:(w9.alloc (.cells #[.bool ln,.string lx,.string ly] 42)).cell? ⟨gn,0,none⟩=some (.slice u (2*t) V)/\(w9.alloc (.cells #[.bool ln,.string lx,.string ly] 42)).cell? ⟨gn,1,none⟩=some (.slice q (2*t) R)/\(w9.alloc (.cells #[.bool ln,.string lx,.string ly] 42)).cell? ⟨gn,2,none⟩=some (.slice r (2*t) P):=(LR.o.aa A LR.o.lt).cells;have dR:=hid A;have qu:=hid Ha;clear A Ha;go_wp2_with fail
    refine(pw.o _ (VO.o.aa dR.o) (Wl.o.aa dR.o)).af ?_;rintro e wA ⟨rfl,jF⟩;have Cy:ef w9 wA:=dR.o.trans (jF.af dR.o.size);have k8:Hid (aI wA w9.heap.size ln lx ly):=qu.o.aa jF qu.o.lt;obtain⟨gp,fM⟩:∃g,w9.heap.size=g:=⟨_,rfl⟩;have WD:=hid (sq.o.trans (Cy.af sq.o.size));have bx:=hid (VO.o.aa Cy);have mz:=hid (Dj.o.aa Cy);have V9:=hid (V5.o.aa Cy V5.o.lt);have VM:=hid (LR.o.aa Cy LR.o.lt);have bM:=hid (bA.o.aa Cy);have bp:=hid (Wl.o.aa Cy);rw[fM] at k8⊢;clear jF Cy sq VO Dj V5 LR bA Wl j0 j1 j2 pw qu dR fM;obtain⟨gq,y8⟩:∃g,wA.heap.size=g:=⟨_,rfl⟩;obtain⟨WB,TQ⟩:∃U,wA.alloc (.cells #[.bool ln,.string lx,.string ly] 42)=U:=⟨_,rfl⟩
    have Aw:ef wA WB:=by
     rw[<- TQ];exact(au _ wA).alloc (aq _) _
    have vB:aI WB gq ln lx ly:=by
     rw[<- TQ];exact aI.at y8 ln lx ly
    have WC:=hid (WD.o.trans (Aw.af WD.o.size));have bu:=hid (bx.o.aa Aw);have bz:=hid (mz.o.aa Aw);have bN:=hid (V9.o.aa Aw V9.o.lt);have VL:=hid (VM.o.aa Aw VM.o.lt);have V1:=hid (bM.o.aa Aw);have bo:=hid (bp.o.aa Aw);have PN:=hid (k8.o.aa Aw k8.o.lt);have p0:=PN.o.c0;have p1:=PN.o.c1;have p2:=PN.o.c2;have q0:=vB.c0;have q1:=vB.c1;have q2:=vB.c2;obtain⟨k0,k1,k2⟩:=bN.o.cells;clear Aw vB WD bx mz V9 VM bM bp k8;go_wp2_with fail
    refine(gX.o _ bz.o V1.o).af ?_;rintro e cU ⟨cO,Hb⟩;have Qt:=hid (WC.o.trans (Hb.af WC.o.size));have PY:=hid (bu.o.aa Hb);have PW:=hid (VL.o.aa Hb VL.o.lt);have Qa:=hid (V1.o.aa Hb);have Qj:=hid (bo.o.aa Hb);clear Hb WC bu bz bN VL V1 bo PN p0 p1 p2 q0 q1 q2 k0 k1 k2 gX y8 TQ;rcases cO with ⟨ad,rfl⟩ |⟨ad,x5,k5,rfl,y9⟩
    ·have Vv:Hid (∀(i G:Nat) (U:World),i< t ->vO U u q r (uV n m t) (uL t) (uR l R1 R2 t) ->kD U O (zF (di (fun t=>Q[t]?.getD 0) t)) ->aJ U (some ⟨G,0,none⟩) [2*(i:Int)] ->du 11 #[.agg #[.slice u (2*t) V,.slice q (2*t) R,.slice r (2*t) P],.slice (some ⟨G,0,none⟩) 1 1,.slice O (zF (di (fun t=>Q[t]?.getD 0) t)).length Hs] U fun e w'=>rZ [] [] 3 e w'/\ef U w'):=fun i G U X h2 h3 h4=>(E5.o i G U X h2 h3 h4).af fun e w' hh=>⟨hh.1.1 ad,hh.2⟩;clear E5 ad;go_wp2_with fail
     go_loopw [19,20,21] (fun tv _ _ wr=>∃i:Nat,i<=t/\tv=.int .i64 i/\Hid (ef w wr)/\Hid (vO wr u q r (uV n m t) (uL t) (uR l R1 R2 t))/\Hid (dQ wr gn (.slice u (2*t) V) (.slice q (2*t) R) (.slice r (2*t) P))/\Hid (aJ wr dq (iL Q))/\Hid (kD wr O (zF (di (fun t=>Q[t]?.getD 0) t)))) (fun tv _ _ _=>t - (intOf tv).toNat)
     case atStart=>exact⟨0,aV _,rfl,Qt,PY,PW,Qa,Qj⟩
     case round=>
      obtain⟨i,hi,rfl,HB,HN,ke,Dl,Fp⟩:=hrel;clear Qt PY PW Qa Qj;by_cases aj:i<t
      ·have a:ef wr (wr.alloc (.cells #[.int .i64 (2*(i:Int))] 3)):=(au _ wr).alloc (aq _) _;have xY:=hid (Vv.o i wr.heap.size _ aj (HN.o.aa a) (Fp.o.aa a) (Gg wr (2*(i:Int))));have Fy:=hid (HB.o.trans (a.af HB.o.size));have LU:=hid (HN.o.aa a);have Bg:=hid (ke.o.aa a ke.o.lt);have Ma:=hid (Dl.o.aa a);have Mi:=hid (Fp.o.aa a);obtain⟨j0,j1,j2⟩:=Bg.o.cells;obtain⟨j3,j4,j5⟩:=ke.o.cells;clear a HB HN ke Dl Fp;go_wp2_with fail
       refine xY.o.af ?_;rintro e I ⟨⟨b8,H,AP,M,rfl, -, -⟩,d⟩;have Z:ef I (I.alloc (.cells #[.slice b8 0 AP,.slice H 0 M] 49)):=(au _ I).alloc (aq _) _;have b:=d.trans ((Z.drew).af d.size);obtain⟨cp,EE⟩:∃U,(I.alloc (.cells #[.slice b8 0 AP,.slice H 0 M] 49)).drew=U:=⟨_,rfl⟩;rw[EE] at b;have Mo:=hid (Fy.o.trans (b.af Fy.o.size));have PX:=hid (LU.o.aa b);have LS:=hid (Bg.o.aa b Bg.o.lt);have P9:=hid (Ma.o.aa b);have Qi:=hid (Mi.o.aa b);have Py:=hid EE;clear d Z b Fy LU Bg Ma Mi j0 j1 j2 j3 j4 j5 xY EE;go_wp2_with fail
       refine gI (S:=fun _=>True) ao trivial (fun ak=>?_);simp only[Py.o];refine ar 0 ((.int .i64 3)) ?_;(try simp only[gE,aP]);refine ar 1 ((.int .i64 3)) ?_;(try simp only[gE,aP]);refine ar 2 ((.bool false)) ?_;(try simp only[gE,aP]);refine ar 3 ((.bool false)) ?_;(try simp only[gE,aP]);refine ar 4 ((.int .i64 3)) ?_;(try simp only[gE,aP]);refine ar 5 ((.bool false)) ?_;(try simp only[gE,aP]);refine ar 6 ((.bool false)) ?_;(try simp only[gE,aP]);refine fE (i:=7) (oi:=_) (v:=undef) rfl ao ao ao (fun _ _ _ h=>h) (Or.inr ⟨by rfl,rfl⟩) dj ?_;(try simp only[gE,aP]);refine fE (i:=8) (oi:=_) (v:=undef) rfl ao ao ao (fun _ _ _ h=>h) (Or.inr ⟨by rfl,rfl⟩) dj ?_;(try simp only[gE,aP]);refine fE (i:=9) (oi:=_) (v:=undef) rfl ao ao ao (fun _ _ _ h=>h) (Or.inr ⟨by rfl,rfl⟩) dj ?_;(try simp only[gE,aP]);refine fE (i:=10) (oi:=_) (v:=undef) rfl ao ao ao (fun _ _ _ h=>h) (Or.inr ⟨by rfl,rfl⟩) dj ?_;(try simp only[gE,aP]);refine fE (i:=11) (oi:=_) (v:=undef) rfl ao ao ao (fun _ _ _ h=>h) (Or.inr ⟨by rfl,rfl⟩) dj ?_;(try simp only[gE,aP]);refine fE (i:=12) (oi:=_) (v:=undef) rfl ao ao ao (fun _ _ _ h=>h) (Or.inr ⟨by rfl,rfl⟩) dj ?_;(try simp only[gE,aP])
       refine fE (i:=13) (oi:=_) (v:=undef) rfl ao ao ao (fun _ _ _ h=>h) (Or.inr ⟨by rfl,rfl⟩) dj ?_;(try simp only[gE,aP]);refine fE (i:=14) (oi:=_) (v:=undef) rfl ao ao ao (fun _ _ _ h=>h) (Or.inr ⟨by rfl,rfl⟩) dj ?_;(try simp only[gE,aP]);refine fE (i:=15) (oi:=_) (v:=undef) rfl ao ao ao (fun _ _ _ h=>h) (Or.inr ⟨by rfl,rfl⟩) dj ?_;(try simp only[gE,aP]);refine fE (i:=16) (oi:=_) (v:=undef) rfl ao ao ao (fun _ _ _ h=>h) (Or.inr ⟨by rfl,rfl⟩) dj ?_;(try simp only[gE,aP]);refine fE (i:=17) (oi:=_) (v:=undef) rfl ao ao ao (fun _ _ _ h=>h) (Or.inr ⟨by rfl,rfl⟩) dj ?_;(try simp only[gE,aP]);refine fE (i:=18) (oi:=_) (v:=undef) rfl ao ao ao (fun _ _ _ h=>h) (Or.inr ⟨by rfl,rfl⟩) dj ?_;(try simp only[gE,aP]);refine fE (i:=19) (oi:=_) (v:=undef) rfl ao ao ao (fun _ _ _ h=>h) (Or.inr ⟨by rfl,rfl⟩) dj ?_;(try simp only[gE,aP]);refine fE (i:=20) (oi:=_) (v:=undef) rfl ao ao ao (fun _ _ _ h=>h) (Or.inr ⟨by rfl,rfl⟩) dj ?_;(try simp only[gE,aP]);refine ar 21 ((.bool false)) ?_;(try simp only[gE,aP]);refine ar 22 ((.bool false)) ?_;(try simp only[gE,aP]);(try simp only[gE,aP])
       refine dS ao ?_ _;clear ak;go_wp2;go_roundw
       case rel=>exact⟨i+1,al,b5,Mo.o,PX.o,LS.o,P9.o,Qi.o⟩
       case measure=>simp[intOf];omega
      ·obtain rfl:i=t:=al
       go_wp2;go_ret;exact⟨rfl,HB.o⟩
    ·obtain⟨K,Y⟩:∃K:Nat ->List Fr,(fun i=>lF n fun j=>h.alp i j*h.behind i j/h.seen)=K:=⟨_,rfl⟩;(have bV:∀i,(K i).length=n:=fun i=>by rw[<- Y];exact iU _ _);have Vv:Hid (∀(i G:Nat) (U:World),i< t ->vO U u q r (uV n m t) (uL t) (uR l R1 R2 t) ->kD U O (zF (di (fun t=>Q[t]?.getD 0) t)) ->aJ U (some ⟨G,0,none⟩) [2*(i:Int)] ->du 11 #[.agg #[.slice u (2*t) V,.slice q (2*t) R,.slice r (2*t) P],.slice (some ⟨G,0,none⟩) 1 1,.slice O (zF (di (fun t=>Q[t]?.getD 0) t)).length Hs] U fun e w'=>rZ [2*(i:Int)] (K i) 0 e w'/\ef U w'):=fun i G U X h2 h3 h4=>(E5.o i G U X h2 h3 h4).af fun e w' hh=>⟨by rw[<- Y];exact hh.1.2 ad,hh.2⟩;rw[Y] at y9;have cr:=y9 0 (by rw[dM,wD];omega);obtain⟨g5,o5,_,_,rfl,vA, -, -, -⟩:=cr;have Ir:=hid y9;have P6:=hid bV;have xZ:Hid (n<=3):=jW;clear E5 ad y9 Y bV;go_wp2_with fail
     go_loopw [19,20,21] (fun tv _ _ wr=>∃i:Nat,i<=t/\tv=.int .i64 i/\Hid (ef w wr)/\Hid (vO wr u q r (uV n m t) (uL t) (uR l R1 R2 t))/\Hid (dQ wr gn (.slice u (2*t) V) (.slice q (2*t) R) (.slice r (2*t) P))/\Hid (aJ wr dq (iL Q))/\Hid (kD wr O (zF (di (fun t=>Q[t]?.getD 0) t)))/\Hid (gD wr (some ⟨g5,o5,none⟩) ((List.range t).map K))) (fun tv _ _ _=>t - (intOf tv).toNat)
     case atStart=>exact⟨0,aV _,rfl,Qt,PY,PW,Qa,Qj,Ir⟩
     case round=>
      obtain⟨i,hi,rfl,HB,HN,ke,Dl,Fp,bO⟩:=hrel;clear Qt PY PW Qa Qj Ir;by_cases aj:i<t
      ·have a:ef wr (wr.alloc (.cells #[.int .i64 (2*(i:Int))] 3)):=(au _ wr).alloc (aq _) _;have xY:=hid (Vv.o i wr.heap.size _ aj (HN.o.aa a) (Fp.o.aa a) (Gg wr (2*(i:Int))));have Fy:=hid (HB.o.trans (a.af HB.o.size));have LU:=hid (HN.o.aa a);have Bg:=hid (ke.o.aa a ke.o.lt);have Ma:=hid (Dl.o.aa a);have Mi:=hid (Fp.o.aa a);have bl:=hid (bO.o.aa a);obtain⟨j0,j1,j2⟩:=Bg.o.cells;obtain⟨j3,j4,j5⟩:=ke.o.cells;clear a HB HN ke Dl Fp bO;go_wp2_with fail
       refine xY.o.af ?_;rintro e I ⟨⟨b8,H,AP,M,rfl, -,Ct⟩,d⟩;rw[P6.o i];have Z:ef I (I.alloc (.cells #[.slice b8 1 AP,.slice H n M] 49)).drew:=((au _ I).alloc (aq _) _).drew;have vw:bE (I.alloc (.cells #[.slice b8 1 AP,.slice H n M] 49)) I.heap.size (.slice b8 1 AP) (.slice H n M):=dB I _;obtain⟨gb,aO⟩:∃g,I.heap.size=g:=⟨_,rfl⟩;rw[aO] at vw;have SK:bE (I.alloc (.cells #[.slice b8 1 AP,.slice H n M] 49)).drew gb (.slice b8 1 AP) (.slice H n M):=vw;obtain⟨cp,EE⟩:∃U,(I.alloc (.cells #[.slice b8 1 AP,.slice H n M] 49)).drew=U:=⟨_,rfl⟩;rw[EE] at Z SK;have b:=d.trans (Z.af d.size);have Mo:=hid (Fy.o.trans (b.af Fy.o.size));have PX:=hid (LU.o.aa b);have LS:=hid (Bg.o.aa b Bg.o.lt);have P9:=hid (Ma.o.aa b);have Qi:=hid (Mi.o.aa b);have Wi:=hid (bl.o.aa b);have zG:=hid (Ct.aa Z);obtain⟨_,_,b9,c9,e9,vA,av,SY, -⟩:=Wi.o i (by rw[dM,wD];exact aj);cases e9;simp only[nO,DF,P6.o] at av SY;have Dn:=hid SY;have Dr:=hid av
       have EZ:Hid (∀U:World,aW U H (K i) ->aW U b9 (K i) ->du 12 #[.slice H n M,.slice b9 n c9] U fun e w'=>e=.returned (.bool true)/\ef U w'):=fun U X h2=>by
        have:=afM H b9 M c9 (K i) U X h2 (by rw[P6.o];have:=xZ.o;omega);rwa [P6.o] at this
       have ek:=hid SK;have Io:=hid aO;have Py:=hid EE;(have cR:(i:Int)<(t:Int):=al);clear d Z b Fy LU Bg Ma Mi bl j0 j1 j2 j3 j4 j5 xY Ct vw SK aO EE SY av;go_wp2_with fail
       refine gI (S:=fun U=>U.cell? ⟨gb,1,none⟩=some (.slice H n M)/\U.cell? ⟨g5,o5+i,none⟩=some (.slice b9 n c9)) ao (by simp only[Py.o];exact⟨ek.o.c1,Dr.o⟩) (fun ak=>?_);simp only[Py.o,Io.o] at ak⊢;refine ar 0 ((.int .i64 0)) ?_;(try simp only[gE,aP]);refine ar 1 ((.int .i64 0)) ?_;(try simp only[gE,aP]);refine ar 2 ((.bool false)) ?_;(try simp only[gE,aP]);refine ar 3 ((.bool false)) ?_;(try simp only[gE,aP]);refine ar 4 ((.int .i64 0)) ?_;(try simp only[gE,aP]);refine ar 5 ((.bool true)) ?_;(try simp only[gE,aP]);refine ar 6 ((.bool true)) ?_;(try simp only[gE,aP]);refine ar 7 ((.int .i64 (i:Nat))) ?_;(try simp only[gE,aP]);refine ar 8 ((.slice (some ⟨g5,o5,none⟩) t k5)) ?_;(try simp only[gE,aP]);refine ar 9 ((.int .i64 (t:Nat))) ?_;(try simp only[gE,aP]);refine ar 10 ((.bool false)) ?_;(try simp only[gE,aP]);refine ar 11 ((.bool false)) ?_;(try simp only[gE,aP]);refine ar 12 ((.pointer (some ⟨gb,1,none⟩))) ?_;(try simp only[gE,aP]);refine ar 13 ((.slice H n M)) ?_;(try simp only[gE,aP]);refine ar 14 ((.slice (some ⟨g5,o5,none⟩) t k5)) ?_;(try simp only[gE,aP]);refine ar 15 ((.int .i64 (i:Nat))) ?_;(try simp only[gE,aP]);refine ar 16 ((.pointer (some ⟨g5,o5+i,none⟩))) ?_;(try simp only[gE,aP]);refine ar 17 ((.slice b9 n c9)) ?_;(try simp only[gE,aP]);refine aG [18] (cA ?_ aF);intro K' bR;go_simp;refine(EZ.o _ zG.o Dn.o).af ?_;rintro e cW ⟨rfl,d⟩;have cC:=hid (Mo.o.trans (d.af Mo.o.size));have cu:=hid (PX.o.aa d);have ct:=hid (LS.o.aa d LS.o.lt)
       have cv:=hid (P9.o.aa d);have cB:=hid (Qi.o.aa d);have cw:=hid (Wi.o.aa d);have bc:=hid (show _/\_ from ⟨(d.cell (p:=⟨gb,1,none⟩) ek.o.lt).trans ek.o.c1,(d.cell (p:=⟨g5,o5+i,none⟩) vA).trans Dr.o⟩);clear d Mo PX LS P9 Qi Wi zG Dn ek Dr;refine bR.o _ _ bc.o (fun ah=>?_);clear bR K' ak bc;(try simp only[gE,aP]);refine ar 19 ((.bool false)) ?_;(try simp only[gE,aP]);refine ar 20 ((.bool false)) ?_;(try simp only[gE,aP]);refine ar 21 ((.bool false)) ?_;(try simp only[gE,aP]);refine ar 22 ((.bool false)) ?_;(try simp only[gE,aP]);(try simp only[gE,aP]);refine dS ao ?_ _;clear ah;go_wp2;go_roundw
       case rel=>exact⟨i+1,al,b5,cC.o,cu.o,ct.o,cv.o,cB.o,cw.o⟩
       case measure=>simp[intOf];omega
      ·obtain rfl:i=t:=al
       go_wp2;go_ret;exact⟨rfl,HB.o⟩
open Go.ChangeShapes Go.WideShapes Go.ChangeAt
variable {fn:Func}
theorem aiR {H:Type} {enc:TypeId×Value ->H} {a:Assume} {C:Checked} {os:Os} {f:FuncId} {s:ChangeSpec} {c:List PathCond} {r d O n:Bool} {X:World ->Array Value ->Prop}
  (k:∀(w w':World) (g:Array Value),w.heap=w'.heap ->X w g ->X w' g)
  (own:ownKnob C.prog.godebug=none) (I:os.Started) (q:C.prog.inits.idxOf? f=none) (A:C.prog.funcs[f]? =some fn)
  (J:∃(w:World) (p:Tape) (i:Input),w.os=os/\(w.forCall p i).Shaped C.prog/\i.vars=[]/\Input.okWide C.prog (w.forCall p i) .any w.heap.size f i/\
   ((s.pre enc C.prog fn c r (w.forCall p i).memory i.args/\X (w.forCall p i).memory i.args)/\sizedMet enc C.prog fn (OpenSpec.ofChange s) r (w.forCall p i).memory i.args)/\a.holds C.prog (lone (Frame.enter C.prog f i.args .normal) [] (w.forCall p i)))
  (F:∀(W:World) (base:Nat) (g:Array Value) (ds b:List (DataW H)) (o:List MemPlace),
   (∀(j:Nat) t v,fn.params[j]? =some t ->g[j]? =some v ->Value.okWide C.prog W .any base t v) ->
   DataW.Whole enc C.prog fn.params.toList s.vars r W g.toList ds b o ->
   (DataW.weightsEach C.prog (fn.params.toList++s.plain.varTypes C.prog) (ds++b)).all (·<=reachBytes)=true ->X W g ->W.ShapedOpen C.prog ->
   Calls C.prog f g W fun e W'=>∃v,e=.returned v/\s.post enc C.prog fn r d O n W g v W'):
  ReturnsInHanded a C os f .any (fun w g=>(s.pre enc C.prog fn c r w g/\X w g)/\sizedMet enc C.prog fn (OpenSpec.ofChange s) r w g) (s.post enc C.prog fn r d O n):=by
 refine returnsInHanded_of_calls own I q J ?_;intro w p i _ V _ T D _;obtain⟨_,_,_,y,u,_,_,_,_,E⟩:=T;obtain rfl:y=fn:=oP (u.symm.trans A);obtain⟨⟨⟨ds,b,o,h,_⟩,x⟩,z⟩:=D;refine(F (w.forCall p i) w.heap.size i.args ds b o E (DataW.Whole.of_heap (w':=w.forCall p i) (by rfl) h) (z.weights h) (k _ _ _ (by rfl) x) V).af fun e W' ⟨v,l,m⟩=>?_;subst l;exact ChangeSpec.post_blind m
theorem amt {a:Addr} {v:Value} (h:w.cell? a=some v):a.block<w.heap.size:=by
 rcases cT a.block w.heap.size with b |b
 ·exact b
 ·simp[World.cell?,Array.getElem?_eq_none b] at h
variable {j:Nat}
def Gs {H:Type} (x:Int):DataW H:=.lit (.int .i64 x)
theorem ams:Tryz.prog.cellsOf 3=1:=ao
theorem aew {H:Type} {enc:TypeId×Value ->H} {W:World} {fuel:Nat} {t:List Value} {x:DataW H×List MemPlace} (J:DataW.trod enc Tryz.prog W 0 (fun _=>true) true fuel 22 t=some x):
  ∃(a:Option Addr) (cap:Nat) (l:List Int),t=[.slice a l.length cap]/\aJ W a l/\(a=none ->cap=0)/\((x.1=.nil/\l=[])∨∃rest,x.1=.slice (l.map Gs) rest)/\∀y∈l, -9223372036854775808<=y/\y<=9223372036854775807:=by
 rcases Deep.open_slice Tryz.underlying22 J with ⟨s,q⟩ |⟨o,b,cap,m,n,D,T,s,U,V,X,O,q,u⟩
 ·exact⟨none,0,[],s,fun k p=>absurd p aE,fun _=>rfl,.inl ⟨by rw[q],rfl⟩,fun _ h=>by cases h⟩
 ·have S:b<=m:=by rw[O];split<;>omega
  rw[ams] at u
  have Q:∀i,i<b ->∃z:Int,(W.cell? (o.add (i*1))=some (.int .i64 z)/\ -9223372036854775808<=z/\z<=9223372036854775807)/\D i=Gs z:=by
   intro i c;obtain⟨Z,F,I⟩:=u i al;obtain⟨_,aa,R⟩:=World.cells?_some F;obtain⟨z,E,v,P⟩:=DataW.trod_int Tryz.underlying3 I;subst E;simp only[Prod.mk.injEq] at v;have g:=R 0 al;rw[Deep.add_add] at g;exact⟨z,⟨by simpa using g,bounds_i64 P⟩,v.1⟩
  obtain⟨f,d⟩:=Deep.choose_lt (α:=Int) Q;refine⟨some o,cap,(List.range b).map f,by rw[s];simp,?_,fun e=>by(cases e),.inr ⟨(List.range (m - b)).map fun j=>D (b+j),?_⟩,?_⟩
  ·intro k p;(have A:k<b:=by simpa using p);obtain⟨⟨g,_⟩,_⟩:=d k A;obtain⟨⟨M,_⟩,_⟩:=d 0 al;have r:=World.cell?_spot M;obtain⟨w,L,Y⟩:=o;rw[jO] at r;simp[Addr.add] at r;subst r;rw[WideShapes.add_plain] at g;refine⟨w,L,rfl,amt g,?_⟩;simpa using g
  ·rw[q];show DataW.slice _ _=DataW.slice _ _;congr 1
   rw[yw];exact sG fun i c=>(d i (cI.1 c)).2
  ·intro y K;obtain⟨i,c,rfl⟩:=ba.1 K;exact(d i (cI.1 c)).1.2
theorem open_ints {H:Type} {enc:TypeId×Value ->H} {W:World} {r:Reach} {b:Nat} {v:Value} {d:DataW H} {p:List MemPlace} (k:Value.okWide Tryz.prog W r b 22 v) (h:DataW.Trod enc Tryz.prog W 0 (fun _=>true) true 22 v d p):
  ∃(a:Option Addr) (cap:Nat) (l:List Int),v=.slice a l.length cap/\aJ W a l/\(a=none ->cap=0)/\((d=.nil/\l=[])∨∃rest,d=.slice (l.map Gs) rest)/\∀x∈l, -9223372036854775808<=x/\x<=9223372036854775807:=by
 obtain⟨a,n,cap,rfl⟩:=okWide_slice Tryz.underlying22 k;obtain⟨u,g⟩:=h;obtain⟨m,o,l,c,i,e,f,j⟩:=aew g;simp[Value.cells] at c;obtain⟨rfl,rfl,rfl⟩:=c;exact⟨a,cap,l,rfl,i,e,f,j⟩
theorem amx:Tryz.prog.bytesOf 3=8:=ao
theorem Yi {H:Type} {s:List TypeId} {ds:List (DataW H)} (h:(DataW.weightsEach Tryz.prog s ds).all (·<=reachBytes)=true) {l:List Int} {d:DataW H} (t:s[j]? =some 22) (c:ds[j]? =some d) (e:(d=.nil/\l=[])∨∃rest,d=.slice (l.map Gs) rest):
  l.length<=140737488355328:=by
 rcases e with ⟨_,rfl⟩ |⟨rest,rfl⟩
 ·simp
 have b:=iQ.1 h _ (DataW.weights_mem_each t c (((l.map (Gs (H:=H))).length+rest.length)*Tryz.prog.bytesOf 3) (by simp[DataW.weights,Tryz.underlying22]));have a:((l.map (Gs (H:=H))).length+rest.length)*Tryz.prog.bytesOf 3<=reachBytes:=by simpa using b
 rw[amx,dM] at a;simp only[reachBytes] at a;omega
variable {W':World}
theorem acQ {H:Type} {enc:TypeId×Value ->H} {P:Program} (l:laidOutB P=true) {W:World} (a:ef W W'):∀ {s:List TypeId} {vs:List Value} {ds:List (DataW H)} {c:List MemPlace},
  (s.all fun t=>P.readableRec t&&decide (t<P.types.size))=true ->DataW.TrodAll enc P W 0 (fun _=>true) true s vs ds c ->DataW.TrodAll enc P W' 0 (fun b=>decide (b<W.heap.size)) true s vs ds c
 |[],[],[],_,_,h=>h
 |t::s,v::vs,d::ds,_,ht,⟨p,q,h,hr,e⟩=>by
  rw[List.all_cons,kj,kj] at ht;refine⟨p,q,Below.trod l ht.1.1 (tW ht.1.2) h a ?_,acQ l a ht.2 hr,e⟩;obtain⟨m,f⟩:=h;exact DataW.trod_lt m _ _ _ f
 |[],_::_,_,_,_,h=>by simp[DataW.TrodAll] at h
 |[],[],_::_,_,_,h=>by simp[DataW.TrodAll] at h
 |_::_,[],_,_,_,h=>by simp[DataW.TrodAll] at h
 |_::_,_::_,[],_,_,h=>by simp[DataW.TrodAll] at h
end Go.Proofs.YtdmdhjmcoijpaaaGreatDoor
