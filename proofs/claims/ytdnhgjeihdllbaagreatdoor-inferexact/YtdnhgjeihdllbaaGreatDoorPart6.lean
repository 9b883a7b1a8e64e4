/- Part6: part 6. -/
import Derived.Test.YtdnhgjeihdllbaaGreatDoorPart5
set_option maxRecDepth 100000
set_option maxHeartbeats 4000000
set_option linter.unusedSimpArgs false
set_option linter.unusedVariables false
namespace Go.Proofs.YtdnhgjeihdllbaaGreatDoor
open Go.RowKit Go.Shelf Go.Lib
variable {R:List (List Fr)} {L:List (List Int)} {V:List Vr} {g:Nat} {p q:Rat} {U U':World}
theorem alM (h:q<p):cQ p q=1:=by rw[cQ,az (B6.2 (Rat.le_of_lt h)),az (fun e=>Rat.lt_irrefl (e▸h))]
theorem alL (h:¬q<p):¬0<cQ p q:=by
 rw[cQ];by_cases h1:p<q
 ·rw[ay h1];decide
 ·rw[az h1,ay (Rat.le_antisymm (B6.1 h) (B6.1 h1))];decide
theorem alq (S:List Nat) (n k:Nat):bM S (List.range n) k=(List.range n).map (aO S (List.range n) k):=by
 refine Gu fun i=>?_;by_cases hi:i<n
 ·rw[Ic pO (by rw[lY];exact hi),qH,oh,QP hi];rfl
 ·rw[iF (by rw[ue,lY];omega),iF (by simp;omega)]
def lj (V:List Vr) (L:List (List Int)) (R:List (List Fr)) (l:List (Nat×Nat)) (k:Nat):Option Nat×Rat:=r5 (fun k=>kP (bM (ah V) (List.range V.length) k) l) (pK V L R) k
theorem YO (h0:aW V L R=0) (hD:mJ V R) (l:List (Nat×Nat)):∀k,k<=cnt (ah V) (List.range V.length) ->qw (lj V L R l k).2<=8003
 |0,_=>by
  show qw 0<=8003;have:=GZ;omega
 |k+1,hk=>by
  rw[lj,r5];split
  ·exact Nx h0 (mi h0) hD (by omega)
  ·exact YO h0 hD l k (by omega)
theorem afp {F:List (Int×Int)} (h:bP V L R F=0):(gw V L R F=0/\lj V L R (nF F) (cnt (ah V) (List.range V.length))=(none,0))∨(gw V L R F≠0/\∃K,K<cnt (ah V) (List.range V.length)/\lj V L R (nF F) (cnt (ah V) (List.range V.length))=(some K,gw V L R F)/\bM (ah V) (List.range V.length) K=lL V.length (vJ V L R F)):=by
 obtain⟨h0,_,hl⟩:=qh h;have hp:=mi h0;have H:=acO h0 (M3 h0) (Xm h0) hl V.length 0 (by omega);rw[yq] at H;have H':rP (ah V) (List.range V.length) (fun v=>!((nF F).map (·.1)).contains v) (pF V L R) (cY (nF F) fun _=>0) (cY (vJ V L R F) fun _=>0):=H;obtain⟨e1,e2⟩:=afo hp hl.nd hl.lt H'
 have e3:lj V L R (nF F) (cnt (ah V) (List.range V.length))=if 0<gw V L R F then(some (pos (ah V) (cY (vJ V L R F) fun _=>0) (List.range V.length)),gw V L R F) else(none,0):=by
  have:(fun k=>kP (bM (ah V) (List.range V.length) k) (nF F))=fun k=>rI (nF F) (aO (ah V) (List.range V.length) k):=funext fun k=>Vs (nF F) k;rw[lj,this];exact e2
 have nB:0<=gw V L R F:=aaK h0 H'.fit (ar _);by_cases hz:gw V L R F=0
 ·refine .inl ⟨hz,?_⟩;rw[e3,az (by rw[hz];decide)]
 ·refine .inr ⟨hz,pos (ah V) (cY (vJ V L R F) fun _=>0) (List.range V.length),p3 _ H'.fit _,?_,?_⟩
  ·rw[e3,ay (Rat.lt_of_le_of_ne nB (fun e=>hz e.symm))]
  ·rw[alq,e1];rfl
def zM (V:List Vr) (bv:Value) (o:Option Nat) (U:World):Prop:=match o with
 |none=>bv=.slice none 0 0
 |some K=>∃d cd,bv=.slice d V.length cd/\ax U d (iL (bM (ah V) (List.range V.length) K))
theorem zM.aa {bv:Value} {o:Option Nat} (h:zM V bv o U) (hb:Below U.heap.size U U'):zM V bv o U':=by
 cases o with
 |none=>exact h
 |some K=>
  obtain⟨d,cd,e,hi⟩:=h;exact⟨d,cd,e,hi.aa hb⟩
theorem zM.slv {bv:Value} {o:Option Nat} (h:zM V bv o U):cM bv:=by
 cases o with
 |none=>exact⟨_,_,_,h⟩
 |some K=>
  obtain⟨d,cd,e,hi⟩:=h;exact⟨_,_,_,e⟩
theorem zM.putF {bv:Value} {o:Option Nat} (h:zM V bv o U) {n:Bool} {x y:ByteArray} (hb:aC U g n x y) (u v s:Value):zM V bv o (((U.setCell ⟨g,0,none⟩ u).setCell ⟨g,1,none⟩ v).setCell ⟨g,2,none⟩ s):=by
 cases o with
 |none=>exact h
 |some K=>
  obtain⟨d,cd,e,hi⟩:=h;exact⟨d,cd,e,AG hi hb u v s⟩
theorem age (a b c f:Option Addr) (ca cb cc cf:Nat) (V:List Vr) (L:List (List Int)) (R:List (List Fr)) (F:List (Int×Int)) (w:World) (h:zk w a b c V L R) (hF:jI w f F) (hn:F.length<=1000):
  Calls Tryz.prog 15 #[.agg #[.slice a V.length ca,.slice b L.length cb,.slice c R.length cc],.slice f F.length cf] w fun e w'=>Xb V L R F e w'/\Below w.heap.size w w':=by
 have oZ:=hid (fun (U:World) (hU:Below w.heap.size w U)=>RL a b c f ca cb cc cf V L R F U (h.net.aa hU) h.sm (hF.aa hU) hn)
 have fB:Hid (bP V L R F≠0 ->jW V L R F=bP V L R F/\pA V L R F=[]/\qi V L R F=(false,⟨#[]⟩,⟨#[]⟩)):=fun e=>by
  have e1:jW V L R F=bP V L R F:=az e;exact⟨e1,by rw[pA,e1,az e],by rw[qi,e1,az e]⟩
 have dZ:Hid (bP V L R F=0 ->gw V L R F=0 ->jW V L R F=3/\pA V L R F=[]/\qi V L R F=(false,⟨#[]⟩,⟨#[]⟩)):=fun e e2=>by
  have e1:jW V L R F=3:=by rw[jW,ay e,ay e2]
  exact⟨e1,by rw[pA,e1,az (by decide)],by rw[qi,e1,az (by decide)]⟩
 have fQ:Hid (bP V L R F=0 ->gw V L R F≠0 ->jW V L R F=0/\pA V L R F=iL (lL V.length (vJ V L R F))/\qi V L R F=qF (gw V L R F)):=fun e e2=>by
  have e1:jW V L R F=0:=by rw[jW,ay e,az e2]
  exact⟨e1,by rw[pA,ay e1],by rw[qi,ay e1]⟩
 have zw:=hid (fun (e:bP V L R F=0)=>afp e)
 have vM:Hid (bP V L R F=0 ->V.length<=8/\1<=V.length):=fun e=>by
  have aM:=gD (qh e).1;have:=aM.fine.one;rw[ba,gR] at this;exact⟨aM.n8,this⟩
 have fT:=hid (fun (U:World) (hU:Below w.heap.size w U)=>Nn a b c ca cb cc L.length R.length V U (h.net.aa hU).vars h.sm.vars.1);have rO:Hid (bP V L R F=0 ->∀(U:World) (s:Option Addr) (cs:Nat),Calls Tryz.prog 56 #[.slice s V.length cs] U fun e w'=>∃s cs,e=.returned (.slice s V.length cs)/\ax w' s (iL (List.range V.length))/\Below U.heap.size U w'):=fun e U s cs=>RQ s cs V.length U (by have:=(vM.o e).1;omega);have jt:=hid (fun (e:bP V L R F=0) (s d:Option Addr) (cs cd:Nat) (U:World)=>RP (qh e).1 s d cs cd U);have uo:=hid (fun (e:bP V L R F=0) (s d:Option Addr) (cs cd k:Nat) (U:World)=>RG (qh e).1 s d cs cd k U);have HJ:=hid (fun (e:bP V L R F=0) (d:Option Addr) (cd k:Nat) (U:World) (hk:k<cnt (ah V) (List.range V.length)) (hU:Below w.heap.size w U)=>RI (qh e).1 h.wt a b c d ca cb cc cd k U hk (h.net.aa hU))
 have BV:Hid (bP V L R F=0 ->∀(d:Option Addr) (cd k:Nat) (U:World),ax U d (iL (bM (ah V) (List.range V.length) k)) ->Below w.heap.size w U ->Calls Tryz.prog 58 #[.slice d V.length cd,.slice f F.length cf] U fun e w'=>e=.returned (.bool (kP (bM (ah V) (List.range V.length) k) (nF F)))/\Below U.heap.size U w'):=fun e d cd k U hA hU=>by
  obtain⟨_,hz,hl⟩:=qh e;have h1:=hF.aa hU;rw[hz] at h1;have:=RR d f cd cf k V (nF F) U hA h1 hl.lt (by rw[<- wu, <- hz];exact hn);rw[<- wu, <- hz] at this;exact this
 have IW:Hid (bP V L R F=0 ->∀k,k<cnt (ah V) (List.range V.length) ->∀U:World,Calls Tryz.prog 21 #[dP (qF (pK V L R k)),.agg #[.bool (aH (lj V L R (nF F) k).2),.string (nu (lj V L R (nF F) k).2),.string (de (lj V L R (nF F) k).2)]] U fun e w'=>e=.returned (.int .i64 (cQ (pK V L R k) (lj V L R (nF F) k).2))/\Below U.heap.size U w'):=fun e k hk U=>by
  obtain⟨h0,_,_⟩:=qh e;have h1:=Nx h0 (mi h0) h.lt hk;have h2:=YO h0 h.lt (nF F) k (by omega);have:=Zc (aH (pK V L R k)) (aH (lj V L R (nF F) k).2) (nu (pK V L R k)) (de (pK V L R k)) (nu (lj V L R (nF F) k).2) (de (lj V L R (nF F) k).2) U (by rw[ng];omega) (by rw[ng];omega);rwa [gC,gC] at this
 have gz:Hid (∀k,kP (bM (ah V) (List.range V.length) k) (nF F)=true ->(lj V L R (nF F) k).2<pK V L R k ->lj V L R (nF F) (k+1)=(some k,pK V L R k)):=fun k h1 h2=>by
  rw[lj,r5,ay];rw[ia,ei];exact⟨h1,h2⟩
 have HKE:Hid (∀k,(kP (bM (ah V) (List.range V.length) k) (nF F)=false∨¬(lj V L R (nF F) k).2<pK V L R k) ->lj V L R (nF F) (k+1)=lj V L R (nF F) k):=fun k h1=>by
  rw[lj,r5,az]
  ·rfl
  ·rw[ia,ei];rintro⟨h2,h3⟩;rcases h1 with h1 |h1
   ·rw[h1] at h2;cases h2
   ·exact h1 h3
 have qZ:Hid (lj V L R (nF F) 0=(none,0)):=rfl;have KY:bP V L R F=0 ->cnt (ah V) (List.range V.length)<=65536:=fun e=>Pz (qh e).1;obtain⟨FE,KW⟩:∃FE,bP V L R F=FE:=⟨_,rfl⟩;rw[KW] at oZ fB dZ fQ zw vM rO jt uo HJ BV IW KY;clear KW;generalize lj V L R (nF F)=SC at *;generalize pK V L R=PK at *;generalize cnt (ah V) (List.range V.length)=C0 at *;have bY:=hid (LK.new w (.slice a V.length ca) (.slice b L.length cb) (.slice c R.length cc));obtain⟨c0,c1,c2⟩:=bY.o.1.1.cells;clear h hF;go_enter Tryz.func15,Tryz.ntmps15;go_wp2_with fail
 generalize ((w.alloc (NC (.slice a V.length ca) (.slice b L.length cb) (.slice c R.length cc))).alloc (FC false ⟨#[]⟩ ⟨#[]⟩))=w00 at *;refine(oZ.o w00 bY.o.1.2).af ?_;rintro e w1 ⟨rfl,hb0⟩;have F0:=hid (bY.o.step hb0);clear c0 c1 c2 hb0 bY oZ;by_cases fN:FE=0
 ·subst fN;replace dZ:=hid (dZ.o rfl);replace fQ:=hid (fQ.o rfl);replace zw:=hid (zw.o rfl);obtain⟨E6,hV1⟩:=vM.o rfl;replace rO:=hid (rO.o rfl);replace jt:=hid (jt.o rfl);replace uo:=hid (uo.o rfl);replace HJ:=hid (HJ.o rfl);replace BV:=hid (BV.o rfl);replace IW:=hid (IW.o rfl);replace KY:=KY rfl;clear fB vM;obtain⟨c0,c1,c2⟩:=F0.o.1.1.cells;go_wp2_with fail
  refine(fT.o w1 F0.o.1.2).af ?_;rintro e w2 ⟨s,cs,rfl,hs2,hb2⟩;have oY:=hid (F0.o.step hb2);clear hb2 F0 fT c0 c1 c2;go_wp2_with fail
  refine(rO.o w2 s cs).af ?_;rintro e w3 ⟨d3,Fq,rfl,sj,hb3⟩;have hs3:=hs2.aa hb3;have nW:=hid (oY.o.step hb3);clear hb3 oY hs2;go_wp2_with fail
  refine(jt.o s d3 cs Fq w3 hs3 sj).af ?_;rintro e w4 ⟨rfl,hb4⟩;have eM:=hs3.aa hb4;have qy:=hid (nW.o.step hb4);clear hb4 nW hs3 sj jt;go_wp2_with fail
  refine(JG _).af ?_;rintro e w5 ⟨rfl,hb5⟩;have hs5:=eM.aa hb5;have aN:=(au _ w5).alloc (ar _) (FC (aH 0) (nu 0) (de 0));have hB2:w.heap.size+1<w5.heap.size:=(qy.o.step hb5).2.lt;have xZ:=hid ((qy.o.step hb5).step aN);have Dr:=hid (aC.new w5 (aH 0) (nu 0) (de 0));have Ix:=hid hs5;have dC:=hid aN;clear hb5 qy eM hs5 aN;go_wp2_with fail
  generalize (w5.alloc (FC (aH 0) (nu 0) (de 0)))=w6 at *;go_loopw [11,13] (fun bv iv wr=>∃k:Nat,k<=C0/\iv=.int .i64 k/\Hid (zM V bv (SC k).1 wr)/\Hid (LK w wr (.slice a V.length ca) (.slice b L.length cb) (.slice c R.length cc))/\Hid (aC wr w5.heap.size (aH (SC k).2) (nu (SC k).2) (de (SC k).2))/\Hid (Below w5.heap.size w5 wr)) (fun _ iv _=>C0 - (intOf iv).toNat)
  case atStart=>exact⟨0,aU _,rfl,by rw[qZ.o];rfl,xZ,by rw[qZ.o];exact Dr,dC⟩
  case round=>
   obtain⟨k,hk,rfl,iV,HK,HX,HB⟩:=hrel;clear xZ Dr dC;obtain⟨vd,vn,vc,rfl⟩:=iV.o.slv;by_cases hlt:k<C0
   ·go_wp2_with fail
    refine(rO.o wr s cs).af ?_;rintro e z1 ⟨d1,zh,rfl,jQ,hb1⟩;have pL:=hid jQ;clear jQ;go_wp2_with fail
    refine(uo.o s d1 cs zh k z1 hlt ((Ix.o.aa HB.o).aa hb1) pL.o).af ?_;rintro e z2 ⟨d2,sM,rfl,jP,hb2⟩;have kN:=hb1.trans (hb2.af hb1.size);have iU:=hid jP;replace iV:=hid (iV.o.aa kN);replace HK:=hid (HK.o.step kN);replace HX:=hid (HX.o.aa kN HX.o.lt);replace HB:=hid (HB.o.trans (kN.af HB.o.size));clear pL jP hb1 hb2 kN;have PU:=hid (gz.o k);have Mi:=hid (HKE.o k);have DT:=hid (BV.o d2 sM k z2 iU.o HK.o.1.2);have zI:=hid (fun U=>HJ.o d2 sM k U hlt);have WT:=hid (IW.o k hlt);have WN:Hid (∀U:World,ax U d2 (iL (bM (ah V) (List.range V.length) k)) ->zM V (.slice d2 V.length sM) (some k) U):=fun U hU=>⟨d2,sM,rfl,hU⟩;generalize bM (ah V) (List.range V.length) k=DG at *;generalize kP DG (nF F)=ab at *;go_wp2_with fail
    refine DT.o.af ?_;rintro e z3 ⟨rfl,hb3⟩;replace iU:=hid (iU.o.aa hb3);replace iV:=hid (iV.o.aa hb3);replace HK:=hid (HK.o.step hb3);replace HX:=hid (HX.o.aa hb3 HX.o.lt);replace HB:=hid (HB.o.trans (hb3.af HB.o.size));clear hb3 DT;obtain⟨c0,c1,c2⟩:=HK.o.1.1.cells;obtain⟨pn,px,py,lC⟩:∃x y z,qF (PK k)=(x,y,z):=⟨_,_,_,rfl⟩
    have aa5:aH (PK k)=pn/\nu (PK k)=px/\de (PK k)=py:=by
     have e:=lC;rw[qF] at e;injection e with e1 e2;injection e2 with e2 e3;exact⟨e1,e2,e3⟩
    have LS:=hid aa5;rw[lC] at zI WT;clear lC aa5;go_wp2_with fail
    refine(zI.o z3 HK.o.1.2 iU.o).af ?_;rintro e z4 ⟨rfl,hb4⟩;have aN:=hb4.alloc hb4.size (FC pn px py);replace iU:=hid (iU.o.aa aN);replace iV:=hid (iV.o.aa aN);replace HK:=hid (HK.o.step aN);replace HX:=hid (HX.o.aa aN HX.o.lt);replace HB:=hid (HB.o.trans (aN.af HB.o.size));have HP:=hid (aC.new z4 pn px py);obtain⟨p0,p1,p2, -⟩:=HP.o.facts;obtain⟨x0,x1,x2, -⟩:=HX.o.facts;clear hb4 aN c0 c1 c2 zI;go_wp2_with fail
    generalize (z4.alloc (FC pn px py))=z5 at *;generalize z4.heap.size=B17 at *;refine(WT.o z5).af ?_;rintro e z6 ⟨rfl,bD⟩;replace iU:=hid (iU.o.aa bD);replace iV:=hid (iV.o.aa bD);replace HK:=hid (HK.o.step bD);replace HX:=hid (HX.o.aa bD HX.o.lt);replace HB:=hid (HB.o.trans (bD.af HB.o.size));replace HP:=hid (HP.o.aa bD HP.o.lt);clear p0 p1 p2 x0 x1 x2 bD WT;by_cases oI:(SC k).2<PK k
    ·have E3:cQ (PK k) (SC k).2=1:=alM oI;rw[E3];cases ab with
     |true=>
      have aX:=PU.o rfl oI;have zu:=hid aX;obtain⟨p0,p1,p2, -⟩:=HP.o.facts;obtain⟨x0,x1,x2,f0,f1,f2⟩:=HX.o.facts;obtain⟨e1,e2,e3⟩:=LS.o;have VJ:=hid (HX.o.put pn px py);have uD:=hid (HK.o.put hB2 pn px py);have WX:=hid (bF HB.o (ar _) (.bool pn) (.string px) (.string py));have anH:=hid ((WN.o z6 iU.o).putF HX.o (.bool pn) (.string px) (.string py));have LW:Hid (aH (PK k)=pn/\nu (PK k)=px/\de (PK k)=py):=⟨e1,e2,e3⟩;clear aX E3 oI PU Mi e1 e2 e3 LS;go_wp2;go_roundw
      case rel=>exact⟨k+1,by omega,by go_num,by rw[zu.o];exact anH,uD,by rw[zu.o,LW.o.1,LW.o.2.1,LW.o.2.2];exact VJ,WX⟩
      case measure=>simp[intOf];omega
     |false=>
      have zu:=hid (Mi.o (.inl rfl));clear E3 oI PU Mi;go_wp2;go_roundw
      case rel=>exact⟨k+1,by omega,by go_num,by rw[zu.o];exact iV,HK,by rw[zu.o];exact HX,HB⟩
      case measure=>simp[intOf];omega
    ·have zu:=hid (Mi.o (.inr oI));obtain⟨cq,E3⟩:∃cq,cQ (PK k) (SC k).2=cq:=⟨_,rfl⟩
     have CR:¬0<cq:=by
      rw[<- E3];exact alL oI
     have hcd:decide (0<cq)=false:=cz CR;rw[E3];clear E3 CR oI PU Mi;cases ab with
     |true=>
      go_wp2;go_roundw
      case rel=>exact⟨k+1,by omega,by go_num,by rw[zu.o];exact iV,HK,by rw[zu.o];exact HX,HB⟩
      case measure=>simp[intOf];omega
     |false=>
      go_wp2;go_roundw
      case rel=>exact⟨k+1,by omega,by go_num,by rw[zu.o];exact iV,HK,by rw[zu.o];exact HX,HB⟩
      case measure=>simp[intOf];omega
   ·obtain rfl:C0=k:=by omega
    rcases zw.o with ⟨hz,hsc⟩ |⟨hz,K,hK,hsc,Kz⟩
    ·rw[hsc] at iV HX;obtain⟨q1,q2,q3⟩:=dZ.o hz;have gA:=hid q1;have fp:=hid q2;have uu:=hid q3;have CT:Value.slice vd vn vc=.slice none 0 0:=iV.o;injection CT with b1 b2 b3;subst b1 b2 b3;obtain⟨k0,k1,k2,f0,f1,f2⟩:=HK.o.2.facts;have bC:=hid (HK.o.2.put false ⟨#[]⟩ ⟨#[]⟩);have yf:=hid (bF HK.o.1.2 (show w.heap.size<=w.heap.size+1 by omega) (.bool false) (.string ⟨#[]⟩) (.string ⟨#[]⟩));clear q1 q2 q3 hz hsc dZ fQ zw iV HX;go_wp2;refine bB (Eo bC.o rfl _ rfl) rfl ?_;exact⟨⟨none,0,by rw[gA.o,fp.o,uu.o];rfl,by rw[fp.o];exact fun k hk=>absurd hk (by simp)⟩,yf.o⟩
    ·rw[hsc] at iV HX;obtain⟨q1,q2,q3⟩:=fQ.o hz;obtain⟨db,Ve,CT,hib⟩:=iV.o;rw[Kz] at hib;injection CT.symm with b1 b2 b3;subst b1 b2 b3;obtain⟨sn,sx,sy,vo⟩:∃x y z,qF (gw V L R F)=(x,y,z):=⟨_,_,_,rfl⟩
     have Oh:aH (gw V L R F)=sn/\nu (gw V L R F)=sx/\de (gw V L R F)=sy:=by
      have e:=vo;rw[qF] at e;injection e with e1 e2;injection e2 with e2 e3;exact⟨e1,e2,e3⟩
     rw[vo] at q3;simp only[Oh.1,Oh.2.1,Oh.2.2] at HX;have gA:=hid q1;have fp:=hid q2;have uu:=hid q3;have BK:=hid hib;(have Ty:(iL (lL V.length (vJ V L R F))).length=V.length:=by rw[ba,Lm]);clear q1 q2 q3 hz hsc dZ fQ zw iV hib Kz vo Oh;go_upto_region 20 with fail
     obtain⟨D9,vB⟩:∃D9,wr.drew=D9:=⟨_,rfl⟩;have iN:=(au wr.heap.size wr).drew;replace HK:=hid (HK.o.step iN);replace HX:=hid (HX.o.aa iN HX.o.lt);replace BK:=hid (BK.o.aa iN);rw[vB] at HK HX BK;clear iN;refine jJ (S:=fun U=>U.cell? ⟨w5.heap.size,0,none⟩=some (.bool sn)/\U.cell? ⟨w5.heap.size,1,none⟩=some (.string sx)/\U.cell? ⟨w5.heap.size,2,none⟩=some (.string sy)) (by kernel_rfl) (by rw[vB];exact⟨HX.o.c0,HX.o.c1,HX.o.c2⟩) (fun aq=>?_);rw[vB] at aq⊢;clear vB;refine aw 0 (.slice db V.length Ve) ?_;refine aw 1 (.agg #[.bool sn,.string sx,.string sy]) ?_;refine aw 2 (.slice db V.length Ve) ?_;(try simp only[gE,aP]);obtain⟨k0,k1,k2,f0,f1,f2⟩:=HK.o.2.facts;refine aF [3] (cA ?_ aD);intro K' hK';go_simp;have Fx:=hid (HX.o.far3 (Nat.ne_of_gt hB2) (.bool sn) (.string sx) (.string sy));have bC:=hid (HK.o.2.put sn sx sy);have yf:=hid (bF HK.o.1.2 (show w.heap.size<=w.heap.size+1 by omega) (.bool sn) (.string sx) (.string sy));have V3:=hid (AG BK.o HK.o.2 (.bool sn) (.string sx) (.string sy));refine hK'.o _ _ ⟨Fx.o.c0,Fx.o.c1,Fx.o.c2⟩ (fun ak=>?_);clear k0 k1 k2 f0 f1 f2;clear hK' K' aq;have aq:=ak;clear ak;refine aw 4 (.int .i64 0) ?_;(try simp only[gE,aP]);refine dW (by kernel_rfl) ?_ _;clear aq;go_wp2;refine bB (Eo bC.o rfl _ rfl) rfl ?_;exact⟨⟨db,Ve,by rw[gA.o,fp.o,uu.o,Ty];rfl,by rw[fp.o];exact V3.o⟩,yf.o⟩
 ·obtain⟨q1,q2,q3⟩:=fB.o fN;have gA:=hid q1;have fp:=hid q2;have uu:=hid q3;have jA:(FE==0)=false:=by simpa using fN
  obtain⟨k0,k1,k2,f0,f1,f2⟩:=F0.o.2.facts;have bC:=hid (F0.o.2.put false ⟨#[]⟩ ⟨#[]⟩);have yf:=hid (bF F0.o.1.2 (show w.heap.size<=w.heap.size+1 by omega) (.bool false) (.string ⟨#[]⟩) (.string ⟨#[]⟩));clear q1 q2 q3 fN fB dZ fQ zw vM rO jt uo HJ BV IW KY;go_wp2;refine bB (Eo bC.o rfl _ rfl) rfl ?_;exact⟨⟨none,0,by rw[gA.o,fp.o,uu.o];rfl,by rw[fp.o];exact fun k hk=>absurd hk (by simp)⟩,yf.o⟩
variable {j v:Nat}
def sumW (R:List (List Fr)) (j:Nat):Nat:=((R.take j).map fun l=>l.length+sw l).sum
theorem Rm (h:j<R.length):sumW R (j+1)=sumW R j+(R[j].length+sw R[j]):=by
 rw[sumW,sumW,fR h,fY,List.sum_append];simp
def yC (V:List Vr):Nat ->Nat
 |0=>1
 |k+1=>yC V k*(if 1<((V[k]?).getD (⟨#[]⟩,[])).2.length then((V[k]?).getD (⟨#[]⟩,[])).2.length else 1)
theorem RY (h:v<V.length):yC V (v+1)=yC V v*(if 1<V[v].2.length then V[v].2.length else 1):=by
 rw[yC,List.getElem?_eq_getElem h];rfl
structure Ie (V:List Vr) (L:List (List Int)) (R:List (List Fr)):Prop where
 li:NLi V L R
 sum:sumW R R.length<=2048
 prod:yC V V.length<=800
def HvS (V:List Vr) (L:List (List Int)) (R:List (List Fr)) (e:Ending):Prop:=∃r:Bool,e=.returned (.bool r)/\(r=false ->Ie V L R)
theorem ajI (a b c:Option Addr) (ca cb cc:Nat) (V:List Vr) (L:List (List Int)) (R:List (List Fr)) (w:World) (h:gP w a b c V L R) (hs:VB V L R):
  Calls Tryz.prog 7 #[.agg #[.slice a V.length ca,.slice b L.length cb,.slice c R.length cc]] w fun e w'=>HvS V L R e/\Below w.heap.size w w':=by
 have HI:=hid h;have hV:=hs.vars.1;have hL:=hs.pars.1;have hR:=hs.rows.1;have Wv:=hid hs;clear h hs;have bY:=hid (NK.new w (.slice a V.length ca) (.slice b L.length cb) (.slice c R.length cc));obtain⟨c0,c1,c2⟩:=bY.o.1.cells;have e1:IntKind.i64.wrap ((V.length:Int)+(L.length:Int))=(V.length:Int)+(L.length:Int):=by rw[eo];omega
 have e2:IntKind.i64.wrap ((V.length:Int)+(L.length:Int)+(R.length:Int))=(V.length:Int)+(L.length:Int)+(R.length:Int):=by rw[eo];omega
 go_enter Tryz.func7,Tryz.ntmps7;go_wp2_with fail
 generalize (w.alloc (NC (.slice a V.length ca) (.slice b L.length cb) (.slice c R.length cc)))=w1 at *;clear c0 c1 c2 e1 e2;go_loopw [3,4,5] (fun kv cv iv wr=>∃v k q:Nat,v<=V.length/\iv=.int .i64 v/\kv=.int .i64 k/\cv=.int .i64 q/\k<=2000000000000000/\q<=200000000000000000/\V.length+L.length+R.length<=k/\Hid (q=yC V v)/\Hid (Lx V v k)/\Hid (NK w wr (.slice a V.length ca) (.slice b L.length cb) (.slice c R.length cc))) (fun _ _ iv _=>V.length - (intOf iv).toNat)
 case atStart=>exact⟨0,V.length+L.length+R.length,1,aU _,rfl,by rw[ru,ru],rfl,by omega,by omega,ar _,rfl,fun _ j _ h=>absurd h (by omega),bY⟩
 case round=>
  obtain⟨v,k,q,hv,rfl,rfl,rfl,hk,hq,hkk,V7,HP,HK⟩:=hrel;clear bY;obtain⟨c0,c1,c2⟩:=HK.o.1.cells;by_cases hgo:v<V.length/\k<=2048/\q<=800
  ·obtain⟨hlt,hk2,hq8⟩:=hgo;obtain⟨g,o,b',c',rfl,hg,d0,d1,A2, -⟩:=(HI.o.aa HK.o.2).vars v hlt;have hsm:=Wv.o.vars.2 V[v] (bH hlt)
   have mE:Hid (∀k',k<=k' ->(k'<=2048 ->V[v].1.size<=2048/\V[v].2.length<=2048/\∀s∈V[v].2,s.size<=2048) ->Lx V (v+1) k'):=fun k' h1 h2 h3 j hj ml=>by
    rcases cD j v with h4 |h4
    ·exact HP.o (by omega) j hj h4
    ·obtain rfl:j=v:=by omega
     exact h2 h3
   (have P7:Hid (1<V[v].2.length ->yC V (v+1)=q*V[v].2.length):=fun e=>by rw[RY hlt,ay e, <- V7.o]);(have P8:Hid (¬1<V[v].2.length ->yC V (v+1)=q):=fun e=>by rw[RY hlt,az e,mN, <- V7.o]);have HST:=hid A2;clear A2;generalize V[v]=x at *;obtain⟨nm,vs⟩:=x;simp only at d0 d1 hsm mE HST P7 P8;have an7:=hsm.1;have ajb:=hsm.2.1;have uq:=hid hsm.2.2;clear hsm;(have hw1:IntKind.i64.wrap ((k:Int)+(nm.size:Int))=(k:Int)+(nm.size:Int):=by rw[eo];omega);(have hw2:IntKind.i64.wrap ((k:Int)+(nm.size:Int)+(vs.length:Int))=(k:Int)+(nm.size:Int)+(vs.length:Int):=by rw[eo];omega);go_upto_region 6 with fail
   go_quiet (fail)
   have xX:=hid (HK.o.drewN nq);have HSn:Hid (my (wr.drewN nq) b' vs):=HST.o;have d1':(wr.drewN nq).cell? ⟨g,o+v*2+1,none⟩=some (.slice b' vs.length c'):=d1;clear c0 c1 c2 d0 d1 hw1 hw2 HK HST;generalize wr.drewN nq=w2 at *;obtain⟨c0,c1,c2⟩:=xX.o.1.cells;go_wp2_with fail
   clear c0 c1 c2;go_loopw [3,6] (fun kv iv wq=>∃i k':Nat,i<=vs.length/\iv=.int .i64 i/\kv=.int .i64 k'/\k+nm.size+vs.length<=k'/\k'<=1000000000000000/\Hid (k'<=2048 ->∀s∈vs.take i,s.size<=2048)/\wq=w2) (fun _ iv _=>vs.length - (intOf iv).toNat)
   case atStart=>exact⟨0,k+nm.size+vs.length,aU _,rfl,by rw[ru,ru],ar _,by omega,fun _ s hs'=>by simp at hs',rfl⟩
   case round=>
    obtain⟨i,k',hi,rfl,rfl,hkm,hkb,HQ,rfl⟩:=hrel;obtain⟨c0,c1,c2⟩:=xX.o.1.cells;by_cases Kt:i<vs.length/\k'<=2048
    ·obtain⟨jB,hk3⟩:=Kt;obtain⟨g2,o2,rfl,hg2,t1⟩:=HSn.o i jB;have hss:=uq.o vs[i] (bH jB)
     have HQX:Hid (∀k'',k'<=k'' ->(k''<=2048 ->vs[i].size<=2048) ->k''<=2048 ->∀s∈vs.take (i+1),s.size<=2048):=fun k'' h1 h2 h3 s hs'=>by
      rw[fR jB] at hs';rcases dz.1 hs' with h4 |h4
      ·exact HQ.o (by omega) s h4
      ·rw[fX.1 h4];exact h2 h3
     generalize vs[i]=s at *;(have hw3:IntKind.i64.wrap ((k':Int)+(s.size:Int))=(k':Int)+(s.size:Int):=by rw[eo];omega);have HX:=hid (HQX.o (k'+s.size) (by omega) (fun h=>by omega));go_wp2;go_roundw
     case rel=>exact⟨i+1,k'+s.size,by omega,by go_num,by rw[ru],by omega,by omega,HX,trivial⟩
     case measure=>simp[intOf];omega
    ·have BF:Hid (Lx V (v+1) k'):=mE.o k' (by omega) fun h3=>⟨by omega,by omega,fun s hs'=>by
      (have jB:i=vs.length:=by omega);have:=HQ.o h3;rw[jB,fJ] at this;exact this s hs'⟩
     have hb1:q*vs.length<=800*140737488355328:=iW hq8 ajb
     have hw4:IntKind.i64.wrap ((q:Int)*(vs.length:Int))=((q*vs.length:Nat):Int):=by
      rw[eo, <- iH];omega
     rcases (show vs.length<=i∨(i<vs.length/\2048<k') by omega) with h5 |⟨h5,h6⟩
     all_goals
      clear Kt;by_cases i6:1<vs.length
      ·have LU:=hid (P7.o i6).symm;clear P7 P8;generalize q*vs.length=q' at *;go_wp2;go_roundw
       case rel=>exact⟨v+1,k',q',by omega,by go_num,rfl,rfl,by omega,by omega,by omega,LU,BF,xX⟩
       case measure=>simp[intOf];omega
      ·clear hb1 hw4;have LU:=hid (P8.o i6).symm;clear P7 P8;go_wp2;go_roundw
       case rel=>exact⟨v+1,k',q,by omega,by go_num,rfl,rfl,by omega,by omega,by omega,LU,BF,xX⟩
       case measure=>simp[intOf];omega
  ·have HLP:Hid (k<=2048 ->q<=800 ->yC V V.length<=800):=fun h1 h2=>by
    (have e:v=V.length:=by omega);rw[<- e, <- V7.o];exact h2
   have FX:Hid (k<=2048 ->q<=800 ->Lx V V.length 0):=fun h1 h2 _ j hj _=>HP.o h1 j hj (by omega);rcases (show V.length<=v∨(v<V.length/\2048<k)∨(v<V.length/\k<=2048/\800<q) by omega) with h5 |⟨h5,h6⟩ |⟨h5,h6,h7⟩
   all_goals
    clear hgo;go_wp2_with fail
    clear c0 c1 c2;go_loopw [3,7] (fun kv iv wq=>∃j k2:Nat,j<=L.length/\iv=.int .i64 j/\kv=.int .i64 k2/\k<=k2/\k2<=3000000000000000/\Hid (PJ L j k2)/\wq=wr) (fun _ iv _=>L.length - (intOf iv).toNat)
    case atStart=>exact⟨0,k,aU _,rfl,rfl,ar _,by omega,fun _ j _ h=>absurd h (by omega),rfl⟩
    case round=>
     obtain⟨j,k2,hj,rfl,rfl,hkm,hkb,LY,rfl⟩:=hrel;obtain⟨c0,c1,c2⟩:=HK.o.1.cells;by_cases Kt:j<L.length/\k2<=2048
     ·try (exfalso;omega)
      all_goals
       obtain⟨oH,hk3⟩:=Kt;obtain⟨g,o,b',c',rfl,hg,d1, -⟩:=(HI.o.aa HK.o.2).pars j oH;have dh:=Wv.o.pars.2 L[j] (bH oH)
       have mE:Hid (∀k',k2<=k' ->(k'<=2048 ->L[j].length<=2048) ->PJ L (j+1) k'):=fun k' h1 h2 h3 i hi ml=>by
        rcases cD i j with h4 |h4
        ·exact LY.o (by omega) i hi h4
        ·obtain rfl:i=j:=by omega
         exact h2 h3
       generalize L[j]=l at *;(have hw3:IntKind.i64.wrap ((k2:Int)+(l.length:Int))=(k2:Int)+(l.length:Int):=by rw[eo];omega);have HX:=hid (mE.o (k2+l.length) (by omega) (fun h=>by omega));go_wp2;go_roundw
       case rel=>exact⟨j+1,k2+l.length,by omega,by go_num,by rw[ru],by omega,by omega,HX,trivial⟩
       case measure=>simp[intOf];omega
     ·have anz:Hid (k2<=2048 ->PJ L L.length 0):=fun h1 _ i hi _=>LY.o h1 i hi (by omega);rcases (show L.length<=j∨(j<L.length/\2048<k2) by omega) with g5 |⟨g5,g6⟩
      all_goals
       clear Kt;go_wp2_with fail
       clear c0 c1 c2;go_loopw [3,8] (fun kv iv wq=>∃j3 k3:Nat,j3<=R.length/\iv=.int .i64 j3/\kv=.int .i64 k3/\k2<=k3/\k3<=5000000000000000/\Hid (k3<=2048 ->sumW R j3<=k3)/\Hid (PG R j3 k3)/\Hid (NK w wq (.slice a V.length ca) (.slice b L.length cb) (.slice c R.length cc))) (fun _ iv _=>R.length - (intOf iv).toNat)
       case atStart=>exact⟨0,k2,aU _,rfl,rfl,ar _,by omega,fun _=>aU _,fun _ j _ h=>absurd h (by omega),HK⟩
       case round=>
        obtain⟨j3,k3,hj3,rfl,rfl,aof,aog,HW3,HP3,nW⟩:=hrel;obtain⟨c0,c1,c2⟩:=nW.o.1.cells;by_cases abp:j3<R.length/\k3<=2048
        ·try (exfalso;omega)
         all_goals
          obtain⟨oH,hk3⟩:=abp;obtain⟨g,o,b',c',rfl,hg,d1,sf, -⟩:=(HI.o.aa nW.o.2).rows j3 oH;have dh:=Wv.o.rows.2 R[j3] (bH oH)
          have mE:Hid (∀k',k3<=k' ->(k'<=2048 ->R[j3].length+sw R[j3]<=2048) ->PG R (j3+1) k'):=fun k' h1 h2 h3 i hi ml=>by
           rcases cD i j3 with h4 |h4
           ·exact HP3.o (by omega) i hi h4
           ·obtain rfl:i=j3:=by omega
            exact h2 h3
          have HWS:Hid (sumW R (j3+1)=sumW R j3+(R[j3].length+sw R[j3])):=Rm oH;have zB:=hid sf;have pJ:=hid dh;clear sf dh;generalize R[j3]=l at *;go_wp2_with fail
          refine(akN b' c' l _ zB.o pJ.o.1 pJ.o.2).af ?_;rintro e w5 ⟨⟨r,rfl,hr1,hr2⟩,hb5⟩;have Mj:=hid (nW.o.step hb5);(have hw3:IntKind.i64.wrap ((k3:Int)+(r:Int))=(k3:Int)+(r:Int):=by rw[eo];omega);have HX:=hid (mE.o (k3+r) (by omega) (fun h=>by have:=hr2 (by omega);omega))
          have HWX:Hid (k3+r<=2048 ->sumW R (j3+1)<=k3+r):=fun h=>by
           have h1:=hr2 (by omega);have h2:=HW3.o (by omega);have h3:=HWS.o;omega
          clear hb5 c0 c1 c2 d1 hr2;go_wp2;go_roundw
          case rel=>exact⟨j3+1,k3+r,by omega,by go_num,by rw[ru],by omega,by omega,HWX,HX,Mj⟩
          case measure=>simp[intOf];omega
        ·have anx:Hid (k3<=2048 ->PG R R.length 0):=fun h1 _ i hi _=>HP3.o h1 i hi (by omega)
         have tj:Hid (k3<=2048 ->q<=800 ->Ie V L R):=fun h1 h2=>⟨⟨by omega,FX.o (by omega) h2,anz.o (by omega),anx.o h1⟩,by
          (have e:j3=R.length:=by omega);have:=HW3.o h1;rw[e] at this;omega,HLP.o (by omega) h2⟩
         rcases (show R.length<=j3∨(j3<R.length/\2048<k3) by omega) with f5 |⟨f5,f6⟩
         all_goals
          clear abp;by_cases hk9:2048<k3
          ·try (exfalso;omega)
           all_goals
            go_wp2;go_ret;exact⟨⟨true,rfl,fun h=>by cases h⟩,nW.o.2⟩
          ·by_cases hq9:800<q
           ·try (exfalso;omega)
            all_goals
             (have an5:(800:Int)<(q:Int):=by omega);(have aju:(k3:Int)<=2048:=by omega);clear hk9;go_wp2;go_ret;exact⟨⟨_,rfl,fun h=>absurd h (by simp)⟩,nW.o.2⟩
           ·try (exfalso;omega)
            all_goals
             have HN:=hid (tj.o (by omega) (by omega));(have aju:(k3:Int)<=2048:=by omega);clear hk9;go_wp2;go_ret;exact⟨⟨_,rfl,fun _=>HN.o⟩,nW.o.2⟩
theorem alu (f:Fr):(B (aT f).den).size<=f.2.2.size+1:=by
 have e:aT f=mkRat (sg f.1 (N f.2.1)) (N f.2.2):=rfl;by_cases h:N f.2.2=0
 ·rw[e,h,Rat.mkRat_zero];have:(B ((0:Rat).den)).size<=1:=by rw[mK];exact qT 1 1 (by decide)
  omega
 ·have h1:eP (N f.2.2) (aT f):=⟨_,e⟩;have h2:=Nat.le_of_dvd (lX h) (h1.dvd h);have h3:=kj h2;have h4:=ju f.2.2;omega
theorem aco (y:Nat):∀l:List Fr,(B (vG l*y)).size<=l.length+sw l+(B y).size
 |[]=>by rw[vG,kB];omega
 |f::l=>by
  rw[vG,il];have h1:=rz (aT f).den (vG l*y);have h2:=alu f;have h3:=aco y l;rw[eU,sw];omega
def wR (R:List (List Fr)):List Nat ->Nat
 |[]=>0
 |v::vs=>(R.getD v []).length+sw (R.getD v [])+wR R vs
theorem acn (R:List (List Fr)):∀us:List Nat,(B (eW R us)).size<=wR R us+1
 |[]=>by
  show (B 1).size<=0+1;rw[mK];exact qT 1 1 (by decide)
 |v::vs=>by
  rw[eW,wR];have h1:=aco (eW R vs) (R.getD v []);have h2:=acn R vs;omega
theorem XB (R:List (List Fr)) (b:List Nat):∀a,wR R (a++b)=wR R a+wR R b
 |[]=>by rw[iD,wR,bT]
 |v::a=>by rw[fg,wR,wR,XB R b a];omega
theorem XA (R:List (List Fr)):∀n,wR R (List.range n)=sumW R n
 |0=>by simp[wR,sumW]
 |n+1=>by
  rw[rT,XB,XA R n,wR,wR,fH];by_cases h:n<R.length
  ·rw[Rm h,List.getD_eq_getElem?_getD,List.getElem?_eq_getElem h];rfl
  ·rw[List.getD_eq_getElem?_getD,iF (by omega)];(have e:R.take (n+1)=R.take n:=by rw[jd (by omega),jd (by omega)]);rw[sumW,sumW,e];rfl
theorem Yb:∀d n,n+d=R.length ->sumW R n<=sumW R R.length
 |0,n,h=>by rw[<- h];exact ar _
 |d+1,n,h=>by
  have h1:sumW R (n+1)<=sumW R R.length:=Yb d (n+1) (by omega);rw[Rm (by omega)] at h1;omega
theorem aeJ (R:List (List Fr)) (n:Nat):sumW R n<=sumW R R.length:=by
 by_cases h:n<=R.length
 ·exact Yb (R.length - n) n (by omega)
 ·have e:R.take n=R.take R.length:=by rw[jd (by omega),fJ]
  rw[sumW,sumW,e];exact ar _
theorem Ie.lite (h:Ie V L R):mJ V R:=by
 have h1:=acn R (List.range V.length);rw[XA] at h1;have h2:=aeJ R V.length;have h3:=h.sum;show (B (eW R (List.range V.length))).size<=4000;omega
theorem alD (S:List Nat) (k:Nat):cnt S [k]=sz S k:=by rw[cnt,cnt,mN]
theorem Zm (hp:Pos (ah V)):∀k,k<=V.length ->cnt (ah V) (List.range k)=yC V k
 |0,_=>rfl
 |k+1,hk=>by
  rw[rT,U8,alD,Zm hp k (by omega),RY (by omega)];have h1:=im hp k;have h2:sz (ah V) k=V[k].2.length:=Rl (by omega);rw[h2] at h1⊢;congr 1
  split
  ·rfl
  ·omega
theorem Ie.few (h:Ie V L R) (h0:aW V L R=0):cnt (ah V) (List.range V.length)<=800:=by
 rw[Zm (mi h0) V.length (ar _)];exact h.prod
theorem agz {Q:List Int} {F:List (Int×Int)} (hQ:Q.length<=64) (hc:aW V L R=0 ->cnt (ah V) (List.range V.length)<=800):(jk V L R Q F).1.length<=100000/\(jk V L R Q F).2.length<=100000:=by
 rw[jk];by_cases h:km V L R Q F=0
 ·rw[ay h]
  have ha:iB V L R Q F=0:=by
   rw[km] at h;by_cases h1:iB V L R Q F=0
   ·exact h1
   ·rw[az h1] at h;exact absurd h h1
  rw[iB] at ha;by_cases h1:bP V L R F=0
  ·rw[ay h1] at ha;by_cases h2:(gm (iL (ah V)) Q).2=0
   ·have h0:=(qh h1).1;have:=Rb h0 (U5 h2) (nF F) (hc h0);simp only[iu,c5];omega
   ·rw[az h2] at ha;exact absurd ha h2
  ·rw[az h1] at ha;exact absurd ha h1
 ·rw[az h];simp
theorem amq {F:List (Int×Int)}:(pA V L R F).length<=100000:=by
 rw[pA];by_cases h:jW V L R F=0
 ·rw[ay h,ba,Lm];rw[jW] at h;by_cases h1:bP V L R F=0
  ·have:=(gD (qh h1).1).n8;omega
  ·rw[az h1] at h;exact absurd h h1
 ·rw[az h];simp
theorem aiP (a b c q f:Option Addr) (ca cb cc cq cf:Nat) (V:List Vr) (L:List (List Int)) (R:List (List Fr)) (Q:List Int) (F:List (Int×Int)) (w:World) (h:gP w a b c V L R) (hN:vK w b L) (hq:ax w q Q) (EO:q=none ->cq=0) (hF:jI w f F) (hu:VB V L R) (hQl:Q.length<=140737488355328) (hFl:F.length<=140737488355328) (vt:F.length<=cf):
  Calls Tryz.prog 3 #[.agg #[.slice a V.length ca,.slice b L.length cb,.slice c R.length cc],.slice q Q.length cq,.slice f F.length cf] w fun e w'=>e=.returned (.bool true)/\Below w.heap.size w w':=by
 have HI:=hid h;have HN:=hid hN;have HQ:=hid hq;have IA:=hid EO;have HF:=hid hF;have HU:=hid hu;clear h hN hq EO hF hu;have HD:=hid (NK.new w (.slice a V.length ca) (.slice b L.length cb) (.slice c R.length cc));obtain⟨c0,c1,c2⟩:=HD.o.1.cells;have o8:IntKind.i64.wrap ((Q.length:Int)+(F.length:Int))=(Q.length:Int)+(F.length:Int):=by rw[eo];omega
 go_enter Tryz.func3,Tryz.ntmps3;go_wp2_with fail
 generalize (w.alloc (NC (.slice a V.length ca) (.slice b L.length cb) (.slice c R.length cc)))=z0 at *;refine(ajI a b c ca cb cc V L R _ (HI.o.aa HD.o.2) HU.o).af ?_;rintro e z1 ⟨⟨r,rfl,hr⟩,hb⟩;replace HD:=hid (HD.o.step hb);clear c0 c1 c2 hb;cases r
 case true=>
  clear hr;go_wp2;go_ret;exact⟨rfl,HD.o.2⟩
 case false=>
  have Kn:=hr rfl;clear hr;by_cases h64:64<Q.length+F.length
  ·have aj6:(64:Int)<(Q.length:Int)+(F.length:Int):=by omega
   clear h64;go_wp2;go_ret;exact⟨rfl,HD.o.2⟩
  ·have aj6:(Q.length:Int)+(F.length:Int)<=64:=by omega
   obtain⟨hsm,hfw⟩:=ahE Kn.li;have h4:zk w a b c V L R:=⟨HI.o,HN.o,hsm,hfw,Kn.lite,Kn.few⟩;have lS:=hid (fun (U:World) (hB:Below w.heap.size w U)=>aiX a b c f ca cb cc cf V L R F U (h4.aa hB) (HF.o.aa hB) (by omega) vt);have LY:=hid (fun (U:World) (hB:Below w.heap.size w U)=>afS a b c f ca cb cc cf V L R F U (h4.aa hB) (HF.o.aa hB) (by omega));have HT1:=hid (fun (U:World) (hB:Below w.heap.size w U)=>aiY a b c q f ca cb cc cq cf V L R Q F U (h4.aa hB) (HQ.o.aa hB) (by omega) (HF.o.aa hB) (by omega) vt);have jZ:=hid (fun (U:World) (hB:Below w.heap.size w U)=>afU a b c q f ca cb cc cq cf V L R Q F U (h4.aa hB) (HQ.o.aa hB) IA.o (by omega) (HF.o.aa hB) (by omega));have eR:=hid (fun (U:World) (hB:Below w.heap.size w U)=>ai1 a b c f ca cb cc cf V L R F U (h4.aa hB) (HF.o.aa hB) (by omega) vt);have bc:=hid (fun (U:World) (hB:Below w.heap.size w U)=>age a b c f ca cb cc cf V L R F U (h4.aa hB) (HF.o.aa hB) (by omega))
   have uw:Hid (∀U:World,Calls Tryz.prog 10 #[dP (qJ V L R F),.int .i64 (bP V L R F),dP (qJ V L R F),.int .i64 (bP V L R F)] U fun e w'=>e=.returned (.bool true)/\Below U.heap.size U w'):=fun U=>by
    by_cases hj:bP V L R F=0
    ·rw[hj];exact Z0 _ _ _ U
    ·have e:qJ V L R F=(false,⟨#[]⟩,⟨#[]⟩):=az hj;rw[e];exact Z1 _ hj U
   have Dy:Hid (∀U:World,Calls Tryz.prog 10 #[dP (qi V L R F),.int .i64 (jW V L R F),dP (qi V L R F),.int .i64 (jW V L R F)] U fun e w'=>e=.returned (.bool true)/\Below U.heap.size U w'):=fun U=>by
    by_cases hj:jW V L R F=0
    ·rw[hj];exact Z0 _ _ _ U
    ·have e:qi V L R F=(false,⟨#[]⟩,⟨#[]⟩):=az hj;rw[e];exact Z1 _ hj U
   obtain⟨i6,hl2⟩:=agz (V:=V) (L:=L) (R:=R) (Q:=Q) (F:=F) (by omega) Kn.few;have rM:=hid (amq (V:=V) (L:=L) (R:=R) (F:=F));have HST:=hid (fun (p1 p2 q1 q2:Option Addr) (Di Dh H9 H8:Nat) (U:World) h1 h2 h3 h5=>afu p1 q1 p2 q2 Di H9 Dh H8 (jk V L R Q F).1 (jk V L R Q F).2 U h1 h2 h3 h5 i6 hl2);have HSI:=hid (fun (p1 p2:Option Addr) (Di Dh:Nat) (U:World) h1 h2=>YR p1 p2 Di Dh (pA V L R F) U h1 h2 rM.o);clear h4 hsm hfw Kn h64 i6 hl2 HI HN HQ IA HF HU rM;simp only[Xb] at eR bc;generalize (jk V L R Q F).1=T at *;generalize (jk V L R Q F).2=C at *;generalize km V L R Q F=pe at *;generalize pA V L R F=BL at *;generalize jW V L R F=be at *;generalize qi V L R F=bf at *;generalize bP V L R F=fe at *;generalize qJ V L R F=pf at *;obtain⟨pn,px,py⟩:=pf;obtain⟨bn,bx,eB⟩:=bf;obtain⟨c0,c1,c2⟩:=HD.o.1.cells;go_wp2_with fail
   refine(lS.o z1 HD.o.2).af ?_;rintro e z2 ⟨rfl,hb2⟩;have HDs:=hid (HD.o.step hb2);have hA:=hb2.alloc hb2.size (FC pn px py);replace HD:=hid (HD.o.step hA);have eY:=hid (aC.new z2 pn px py);have hBw:w.heap.size<z2.heap.size:=HDs.o.1.lt;clear c0 c1 c2 hb2 hA lS;obtain⟨c0,c1,c2⟩:=HD.o.1.cells;go_wp2_with fail
   generalize (z2.alloc (FC pn px py))=z3 at *;generalize z2.heap.size=B7 at *;refine(LY.o z3 HD.o.2).af ?_;rintro e z4 ⟨rfl,hb4⟩;have hA:=hb4.alloc hb4.size (FC pn px py);have abM:B7<z4.heap.size:=(eY.o.aa hb4 eY.o.lt).lt;replace HD:=hid (HD.o.step hA);replace eY:=hid (eY.o.aa hA eY.o.lt);have nS:=hid (aC.new z4 pn px py);clear c0 c1 c2 hb4 hA LY;obtain⟨s0,s1,s2, -⟩:=eY.o.facts;obtain⟨t0,t1,t2, -⟩:=nS.o.facts;go_wp2_with fail
   generalize (z4.alloc (FC pn px py))=z5 at *;generalize z4.heap.size=B9 at *;refine(uw.o z5).af ?_;rintro e z6 ⟨rfl,bD⟩;replace HD:=hid (HD.o.step bD);replace eY:=hid (eY.o.aa bD eY.o.lt);replace nS:=hid (nS.o.aa bD nS.o.lt);clear s0 s1 s2 t0 t1 t2 bD uw;obtain⟨c0,c1,c2⟩:=HD.o.1.cells;go_wp2_with fail
   refine(HT1.o z6 HD.o.2).af ?_;rintro e z7 ⟨⟨p1,q1,Di,H9,rfl,jQ,EY⟩,bK⟩;have aN:=(au _ z7).alloc (ar _) (TC (.slice p1 T.length Di) (.slice q1 C.length H9));have hA:=bK.trans (aN.af bK.size);replace HD:=hid (HD.o.step hA);replace eY:=hid (eY.o.aa hA eY.o.lt);replace nS:=hid (nS.o.aa hA nS.o.lt);have Ii:=hid (bh.at (w:=z7) rfl (.slice p1 T.length Di) (.slice q1 C.length H9));have pL:=hid (jQ.aa aN);have x6:=hid (EY.aa aN);clear c0 c1 c2 bK hA aN jQ EY HT1;obtain⟨c0,c1,c2⟩:=HD.o.1.cells;go_wp2_with fail
   generalize (z7.alloc (TC (.slice p1 T.length Di) (.slice q1 C.length H9)))=z8 at *;generalize z7.heap.size=od at *;refine(jZ.o z8 HD.o.2).af ?_;rintro e z9 ⟨⟨p2,q2,Dh,H8,rfl,jP,hf2⟩,vu⟩;have aN:=(au _ z9).alloc (ar _) (TC (.slice p2 T.length Dh) (.slice q2 C.length H8));have hA:=vu.trans (aN.af vu.size);replace HD:=hid (HD.o.step hA);replace eY:=hid (eY.o.aa hA eY.o.lt);replace nS:=hid (nS.o.aa hA nS.o.lt);replace Ii:=hid (Ii.o.aa hA Ii.o.lt);replace pL:=hid (pL.o.aa hA);replace x6:=hid (x6.o.aa hA);have VI:=hid (bh.at (w:=z9) rfl (.slice p2 T.length Dh) (.slice q2 C.length H8));have iU:=hid (jP.aa aN);have DL:=hid (hf2.aa aN);clear c0 c1 c2 vu hA aN jP hf2 jZ;have y0:=Ii.o.c0;have y1:=Ii.o.c1;have y2:=VI.o.c0;have y3:=VI.o.c1;go_wp2_with fail
   generalize (z9.alloc (TC (.slice p2 T.length Dh) (.slice q2 C.length H8)))=z10 at *;generalize z9.heap.size=Xc at *;refine(HST.o p1 p2 q1 q2 Di Dh H9 H8 z10 pL.o x6.o iU.o DL.o).af ?_;rintro e z11 ⟨rfl,OG⟩;replace HD:=hid (HD.o.step OG);replace eY:=hid (eY.o.aa OG eY.o.lt);replace nS:=hid (nS.o.aa OG nS.o.lt);clear y0 y1 y2 y3 OG HST Ii VI pL x6 iU DL;obtain⟨c0,c1,c2⟩:=HD.o.1.cells;go_wp2_with fail
   refine(eR.o z11 HD.o.2).af ?_;rintro e z12 ⟨⟨d1,zh,rfl,CO⟩,kN⟩;replace HD:=hid (HD.o.step kN);replace eY:=hid (eY.o.aa kN eY.o.lt);replace nS:=hid (nS.o.aa kN nS.o.lt);obtain⟨s0,s1,s2,f0,f1,f2⟩:=eY.o.facts;have LD:=hid (eY.o.put bn bx eB);have Dq:=hid (nS.o.far3 (Nat.ne_of_gt abM) (.bool bn) (.string bx) (.string eB));have Qg:=hid (AG CO eY.o (.bool bn) (.string bx) (.string eB));have IQ:Hid (NK w (((z12.setCell ⟨B7,0,none⟩ (.bool bn)).setCell ⟨B7,1,none⟩ (.string bx)).setCell ⟨B7,2,none⟩ (.string eB)) (.slice a V.length ca) (.slice b L.length cb) (.slice c R.length cc)):=⟨HD.o.1.aa (bF (au B7 z12) (ar B7) (.bool bn) (.string bx) (.string eB)) hBw,bF HD.o.2 (uH hBw) (.bool bn) (.string bx) (.string eB)⟩;clear c0 c1 c2 kN CO eR HD eY nS;obtain⟨c0,c1,c2⟩:=IQ.o.1.cells;go_upto_region 12 with fail
   generalize ai3:(((z12.setCell ⟨B7,0,none⟩ (.bool bn)).setCell ⟨B7,1,none⟩ (.string bx)).setCell ⟨B7,2,none⟩ (.string eB))=z13 at *;clear ai3 s0 s1 s2 f0 f1 f2;go_wp2_with fail
   refine(bc.o z13 IQ.o.2).af ?_;rintro e Xl ⟨⟨d2,sM,rfl,Hp⟩,KF⟩;replace IQ:=hid (IQ.o.step KF);replace LD:=hid (LD.o.aa KF LD.o.lt);replace Dq:=hid (Dq.o.aa KF Dq.o.lt);replace Qg:=hid (Qg.o.aa KF);obtain⟨s0,s1,s2,f0,f1,f2⟩:=Dq.o.facts;have PO:=hid (Dq.o.put bn bx eB);have PQ:=hid (LD.o.far3 (Nat.ne_of_lt abM) (.bool bn) (.string bx) (.string eB));have ado:=hid (AG Qg.o Dq.o (.bool bn) (.string bx) (.string eB));have adn:=hid (AG Hp Dq.o (.bool bn) (.string bx) (.string eB));have Gd:Hid (Below w.heap.size w (((Xl.setCell ⟨B9,0,none⟩ (.bool bn)).setCell ⟨B9,1,none⟩ (.string bx)).setCell ⟨B9,2,none⟩ (.string eB))):=bF IQ.o.2 (by omega) (.bool bn) (.string bx) (.string eB);clear c0 c1 c2 KF Hp bc IQ LD Dq Qg;go_upto_region 13 with fail
   generalize ai2:(((Xl.setCell ⟨B9,0,none⟩ (.bool bn)).setCell ⟨B9,1,none⟩ (.string bx)).setCell ⟨B9,2,none⟩ (.string eB))=z15 at *;clear ai2 s0 s1 s2 f0 f1 f2;go_wp2_with fail
   refine(HSI.o d1 d2 zh sM z15 ado.o adn.o).af ?_;rintro e z16 ⟨rfl,OE⟩;replace PQ:=hid (PQ.o.aa OE PQ.o.lt);replace PO:=hid (PO.o.aa OE PO.o.lt);replace Gd:=hid (Gd.o.trans (OE.af Gd.o.size));obtain⟨s0,s1,s2, -⟩:=PQ.o.facts;obtain⟨t0,t1,t2, -⟩:=PO.o.facts;clear OE HSI ado adn;go_wp2_with fail
   refine(Dy.o z16).af ?_;rintro e z17 ⟨rfl,abF⟩;replace Gd:=hid (Gd.o.trans (abF.af Gd.o.size));clear s0 s1 s2 t0 t1 t2 abF Dy;go_wp2;go_ret;exact⟨rfl,Gd.o⟩
open Go.ChangeShapes Go.WideShapes Go.ChangeAt
variable {fn:Func}
theorem aiG {H:Type} {enc:TypeId×Value ->H} {a:Assume} {C:Checked} {os:Os} {f:FuncId} {s:ChangeSpec} {conds:List PathCond} {apart fresh handsOn again:Bool} {X:World ->Array Value ->Prop}
  (hX:∀(w w':World) (args:Array Value),w.heap=w'.heap ->X w args ->X w' args)
  (own:ownKnob C.prog.godebug=none) (started:os.Started) (ahH:C.prog.inits.idxOf? f=none) (hfn:C.prog.funcs[f]? =some fn)
  (witness:∃(w:World) (tape:Tape) (i:Input),w.os=os/\(w.forCall tape i).Shaped C.prog/\i.vars=[]/\Input.okWide C.prog (w.forCall tape i) .any w.heap.size f i/\
   ((s.pre enc C.prog fn conds apart (w.forCall tape i).memory i.args/\X (w.forCall tape i).memory i.args)/\sizedMet enc C.prog fn (OpenSpec.ofChange s) apart (w.forCall tape i).memory i.args)/\a.holds C.prog (lone (Frame.enter C.prog f i.args .normal) [] (w.forCall tape i)))
  (walk:∀(W:World) (base:Nat) (args:Array Value) (ds gs:List (DataW H)) (before:List MemPlace),
   (∀(j:Nat) t v,fn.params[j]? =some t ->args[j]? =some v ->Value.okWide C.prog W .any base t v) ->
   DataW.Whole enc C.prog fn.params.toList s.vars apart W args.toList ds gs before ->
   (DataW.weightsEach C.prog (fn.params.toList++s.plain.varTypes C.prog) (ds++gs)).all (·<=reachBytes)=true ->X W args ->W.ShapedOpen C.prog ->
   Calls C.prog f args W fun e W'=>∃v,e=.returned v/\s.post enc C.prog fn apart fresh handsOn again W args v W'):
  ReturnsInHanded a C os f .any (fun w args=>(s.pre enc C.prog fn conds apart w args/\X w args)/\sizedMet enc C.prog fn (OpenSpec.ofChange s) apart w args) (s.post enc C.prog fn apart fresh handsOn again):=by
 refine returnsInHanded_of_calls own started ahH witness ?_;intro w tape i _ wL _ aM hpre _;obtain⟨_,_,_,fn',ajG,_,_,_,_,hval⟩:=aM;obtain rfl:fn'=fn:=lV (ajG.symm.trans hfn);obtain⟨⟨⟨ds,gs,before,hw,_⟩,hx⟩,hz⟩:=hpre;refine(walk (w.forCall tape i) w.heap.size i.args ds gs before hval (DataW.Whole.of_heap (w':=w.forCall tape i) (by rfl) hw) (hz.weights hw) (hX _ _ _ (by rfl) hx) wL).af fun e W' ⟨v,he,hp⟩=>?_;subst he;exact ChangeSpec.post_blind hp
theorem amf:Tryz.prog.cellsOf 32=3:=by kernel_rfl
theorem amg:Tryz.prog.cellsOf 4=1:=by kernel_rfl
theorem al9:Tryz.prog.cellsOf 30=1:=by kernel_rfl
variable {n:Nat} {w:World}
theorem Fo {a:Addr} {v:Value} (h:w.cell? a=some v):a.block<w.heap.size:=by
 rcases cD a.block w.heap.size with h1 |h1
 ·exact h1
 ·simp[World.cell?,Array.getElem?_eq_none h1] at h
def fd {H:Type} (f:Fr):DataW H:=.agg [.lit (.bool f.1),.lit (.string f.2.1.data.toList),.lit (.string f.2.2.data.toList)]
theorem Q4 {H:Type} {P:Program} {e:TypeId}:∀ {l:List (DataW H)} {d:DataW H},d∈l ->n∈d.weights P e ->n∈DataW.weightsAll P e l
 |x::l,d,hd,hn=>by
  simp only[DataW.weightsAll,dz];rcases dK.1 hd with rfl |hd
  ·exact .inl hn
  ·exact .inr (Q4 hd hn)
theorem amo:Tryz.prog.bytesOf 32=40:=by kernel_rfl
theorem ae8 {H:Type} {ts:List TypeId} {ds:List (DataW H)} (h:(DataW.weightsEach Tryz.prog ts ds).all (·<=reachBytes)=true) {l:List Fr} {rest:List (DataW H)} (ht:ts[j]? =some 37) (hd:ds[j]? =some (.slice (l.map fd) rest)):
  l.length<=140737488355328/\∀f∈l,f.2.1.size<=140737488355328/\f.2.2.size<=140737488355328:=by
 constructor
 ·have h1:=eJ.1 h _ (MW ht hd (((l.map (fd (H:=H))).length+rest.length)*Tryz.prog.bytesOf 32) (by simp[DataW.weights,Tryz.underlying37]));have h1':((l.map (fd (H:=H))).length+rest.length)*Tryz.prog.bytesOf 32<=reachBytes:=by simpa using h1
  rw[amo,c5] at h1';simp only[reachBytes] at h1';omega
 ·intro f hf
  have hin:∀n,n∈(fd (H:=H) f).weights Tryz.prog 32 ->n<=reachBytes:=fun n hn=>by
   have:=eJ.1 h _ (MW ht hd n (by
    simp only[DataW.weights,Tryz.underlying37,dK,dz];exact .inr (.inl (Q4 (List.mem_map_of_mem hf) hn))))
   simpa using this
  have a1:=hin f.2.1.data.toList.length (by simp[fd,DataW.weights,Tryz.underlying32,DataW.weightsEach]);have a2:=hin f.2.2.data.toList.length (by simp[fd,DataW.weights,Tryz.underlying32,DataW.weightsEach]);rw[vI] at a1 a2;simp only[reachBytes] at a1 a2;constructor<;>omega
variable {l:List Int} {cs:List Value} {b0 cap fuel:Nat} {a:Option Addr}
def AH {H:Type} (x:Int):DataW H:=.lit (.int .i64 x)
theorem acI:Tryz.prog.cellsOf 3=1:=by kernel_rfl
theorem amb:Tryz.prog.cellsOf 27=1:=by kernel_rfl
theorem amc:Tryz.prog.cellsOf 37=1:=by kernel_rfl
theorem XU {H:Type} {enc:TypeId×Value ->H} {W:World} {x:DataW H×List MemPlace} (hf:DataW.trod enc Tryz.prog W 0 (fun _=>true) true fuel 27 cs=some x):
  ∃(a:Option Addr) (cap:Nat) (l:List Int),cs=[.slice a l.length cap]/\ax W a l/\(a=none ->cap=0)/\((x.1=.nil/\l=[])∨∃rest,x.1=.slice (l.map AH) rest)/\∀y∈l, -9223372036854775808<=y/\y<=9223372036854775807:=by
 rcases Ci Tryz.underlying27 hf with ⟨hcs,hx⟩ |⟨a',len,cap,m,n,D,Pl,hcs,hb,hl,hm,hmm,hx,hel⟩
 ·exact⟨none,0,[],hcs,fun k hk=>absurd hk (by simp),fun _=>rfl,.inl ⟨by rw[hx],rfl⟩,fun _ h=>by cases h⟩
 ·have yT:len<=m:=by rw[hmm];split<;>omega
  rw[acI] at hel
  have each:∀i,i<len ->∃z:Int,(W.cell? (a'.add (i*1))=some (.int .i64 z)/\ -9223372036854775808<=z/\z<=9223372036854775807)/\D i=AH z:=by
   intro i hi;obtain⟨cs',h1,h2⟩:=hel i (by omega);obtain⟨_,hlen,hcell⟩:=Gk h1;obtain⟨z,e0,r7,hwf⟩:=DataW.trod_int Tryz.underlying3 h2;subst e0;simp only[zU] at r7;have g0:=hcell 0 (by omega);rw[Gy] at g0;exact⟨z,⟨by simpa using g0,bounds_i64 hwf⟩,r7.1⟩
  obtain⟨f,hf2⟩:=Gx (α:=Int) each;refine⟨some a',cap,(List.range len).map f,by rw[hcs];simp,?_,fun e=>by(cases e),.inr ⟨(List.range (m - len)).map fun j=>D (len+j),?_⟩,?_⟩
  ·intro k hk;(have dH:k<len:=by simpa using hk);obtain⟨⟨g0,_⟩,_⟩:=hf2 k dH;obtain⟨⟨z0,_⟩,_⟩:=hf2 0 (by omega);have hsp:=Gl z0;obtain⟨bb,oo,sp⟩:=a';rw[jw] at hsp;simp[Addr.add] at hsp;subst hsp;rw[WideShapes.add_plain] at g0;refine⟨bb,oo,rfl,Fo g0,?_⟩;simpa using g0
  ·rw[hx];show DataW.slice _ _=DataW.slice _ _;congr 1
   rw[wj];exact rq fun i hi=>(hf2 i (bG.1 hi)).2
  ·intro y hy;obtain⟨i,hi,rfl⟩:=bs.1 hy;exact(hf2 i (bG.1 hi)).1.2
theorem open_ints {H:Type} {enc:TypeId×Value ->H} {W:World} {r:Reach} {v:Value} {d:DataW H} {p:List MemPlace} (hval:Value.okWide Tryz.prog W r b0 27 v) (h:DataW.Trod enc Tryz.prog W 0 (fun _=>true) true 27 v d p):
  ∃(a:Option Addr) (cap:Nat) (l:List Int),v=.slice a l.length cap/\ax W a l/\(a=none ->cap=0)/\((d=.nil/\l=[])∨∃rest,d=.slice (l.map AH) rest)/\∀x∈l, -9223372036854775808<=x/\x<=9223372036854775807:=by
 obtain⟨a,len,cap,rfl⟩:=okWide_slice Tryz.underlying27 hval;obtain⟨fuel,hf⟩:=h;obtain⟨a',cap',l,hcs,hi,h0,hd,hr⟩:=XU hf;simp[Value.cells] at hcs;obtain⟨rfl,rfl,rfl⟩:=hcs;exact⟨a,cap,l,rfl,hi,h0,hd,hr⟩
theorem ahn {H:Type} {enc:TypeId×Value ->H} {W:World} {len:Nat} {d:DataW H} {p:List MemPlace} (h:DataW.Trod enc Tryz.prog W 0 (fun _=>true) true 37 (.slice a len cap) d p):
  ∃(a':Option Addr) (cap':Nat) (l:List Fr),(Value.slice a len cap)=.slice a' l.length cap'/\bZ W a' l/\((d=.nil/\l=[])∨∃rest,d=.slice (l.map fd) rest):=by
 obtain⟨fuel,hf⟩:=h;rcases Ci Tryz.underlying37 hf with ⟨hcs,hx⟩ |⟨a',len',cap',m,n,D,Pl,hcs,hb,hl,hm,hmm,hx,hel⟩
 ·simp[Value.cells] at hcs;obtain⟨rfl,rfl,rfl⟩:=hcs;simp only[zU] at hx;exact⟨none,0,[],rfl,fun k hk=>absurd hk (by simp),.inl ⟨hx.1,rfl⟩⟩
 ·simp[Value.cells] at hcs;obtain⟨rfl,rfl,rfl⟩:=hcs;simp only[zU] at hx;have yT:len<=m:=by rw[hmm];split<;>omega
  rw[amf] at hel
  have each:∀i,i<len ->∃f:Fr,(W.cell? (a'.add (i*3))=some (.bool f.1)/\W.cell? (a'.add (i*3+1))=some (.string f.2.1)/\W.cell? (a'.add (i*3+2))=some (.string f.2.2))/\D i=fd f:=by
   intro i hi;obtain⟨cs',h1,h2⟩:=hel i (by omega);obtain⟨_,hlen,hcell⟩:=Gk h1;match cs',hlen with
   |[c0,c1,c2],_=>
    obtain⟨y0,y1,y2,k,r7,_,oA,hy1,hy2⟩:=Deep.trod_struct3 Tryz.underlying32 h2;obtain⟨nn,e0,rfl⟩:=DataW.trod_bool Tryz.underlying4 oA;obtain⟨x,e1,rfl,hx1⟩:=QR Tryz.underlying30 hy1;obtain⟨y,e2,rfl,hx2⟩:=QR Tryz.underlying30 hy2;simp[amg,al9] at e0 e1 e2;subst e0 e1 e2;simp only[zU] at r7;have g0:=hcell 0 (by omega);have g1:=hcell 1 (by omega);have g2:=hcell 2 (by omega);rw[Gy] at g0 g1 g2;exact⟨(nn,x,y),⟨by simpa using g0,by simpa using g1,by simpa using g2⟩,r7.1⟩
  obtain⟨f,hf2⟩:=Gx (α:=Fr) each;refine⟨some a',cap,(List.range len).map f,by simp,?_,.inr ⟨(List.range (m - len)).map fun j=>D (len+j),?_⟩⟩
  ·intro k hk;(have dH:k<len:=by simpa using hk);obtain⟨⟨g0,g1,g2⟩,_⟩:=hf2 k dH;obtain⟨⟨z0,_,_⟩,_⟩:=hf2 0 (by omega);have hsp:=Gl z0;obtain⟨bb,oo,sp⟩:=a';rw[jw] at hsp;simp[Addr.add] at hsp;subst hsp;rw[WideShapes.add_plain] at g0 g1 g2;refine⟨bb,oo,rfl,Fo g0,?_,?_,?_⟩
   ·simpa using g0
   ·simpa [yo] using g1
   ·simpa [yo] using g2
  ·rw[hx.1];congr 1
   rw[wj];exact rq fun i hi=>(hf2 i (bG.1 hi)).2
theorem aho {H:Type} {enc:TypeId×Value ->H} {W:World} {v:Value} {x:DataW H×List MemPlace} (hf:DataW.trod enc Tryz.prog W 0 (fun _=>true) true fuel 37 [v]=some x):
  ∃(a:Option Addr) (cap:Nat) (l:List Fr),v=.slice a l.length cap/\bZ W a l/\((x.1=.nil/\l=[])∨∃rest,x.1=.slice (l.map fd) rest):=by
 have hs:∃a n c,v=Value.slice a n c:=by
  rcases Ci Tryz.underlying37 hf with ⟨hcs,_⟩ |⟨a',len,cap,m,n,D,Pl,hcs,_⟩
  ·exact⟨_,_,_,by simpa using hcs⟩
  ·exact⟨_,_,_,by simpa using hcs⟩
 obtain⟨a,n,c,rfl⟩:=hs;obtain⟨a',cap',l,h1,h2,h3⟩:=ahn (enc:=enc) (W:=W) (a:=a) (len:=n) (cap:=c) (d:=x.1) (p:=x.2) ⟨fuel,hf⟩;exact⟨a',cap',l,h1,h2,h3⟩
theorem aml:Tryz.prog.bytesOf 3=8:=by kernel_rfl
theorem Yy {H:Type} {ts:List TypeId} {ds:List (DataW H)} (h:(DataW.weightsEach Tryz.prog ts ds).all (·<=reachBytes)=true) {d:DataW H} (ht:ts[j]? =some 27) (hd:ds[j]? =some d) (hl:(d=.nil/\l=[])∨∃rest,d=.slice (l.map AH) rest):
  l.length<=140737488355328:=by
 rcases hl with ⟨_,rfl⟩ |⟨rest,rfl⟩
 ·simp
 have h1:=eJ.1 h _ (MW ht hd (((l.map (AH (H:=H))).length+rest.length)*Tryz.prog.bytesOf 3) (by simp[DataW.weights,Tryz.underlying27]));have h1':((l.map (AH (H:=H))).length+rest.length)*Tryz.prog.bytesOf 3<=reachBytes:=by simpa using h1
 rw[aml,c5] at h1';simp only[reachBytes] at h1';omega
theorem ae7 {H:Type} {ts:List TypeId} {ds:List (DataW H)} (h:(DataW.weightsEach Tryz.prog ts ds).all (·<=reachBytes)=true) {l:List Fr} {d:DataW H} (ht:ts[j]? =some 37) (hd:ds[j]? =some d) (hl:(d=.nil/\l=[])∨∃rest,d=.slice (l.map fd) rest):
  l.length<=140737488355328/\∀f∈l,f.2.1.size<=140737488355328/\f.2.2.size<=140737488355328:=by
 rcases hl with ⟨_,rfl⟩ |⟨rest,rfl⟩
 ·exact⟨by simp,fun f hf=>by cases hf⟩
 ·exact ae8 h ht hd
def La {H:Type} (p:Int×Int):DataW H:=.agg [AH p.1,AH p.2]
theorem ame:Tryz.prog.cellsOf 90=2:=by kernel_rfl
theorem ahp {H:Type} {enc:TypeId×Value ->H} {W:World} {r:Reach} {v:Value} {d:DataW H} {p:List MemPlace} (hval:Value.okWide Tryz.prog W r b0 28 v) (h:DataW.Trod enc Tryz.prog W 0 (fun _=>true) true 28 v d p):
  ∃(a:Option Addr) (cap:Nat) (F:List (Int×Int)),v=.slice a F.length cap/\jI W a F/\F.length<=cap/\((d=.nil/\F=[])∨∃rest,d=.slice (F.map La) rest):=by
 obtain⟨a,len,cap,rfl⟩:=okWide_slice Tryz.underlying28 hval;obtain⟨fuel,hf⟩:=h;rcases Ci Tryz.underlying28 hf with ⟨hcs,hx⟩ |⟨a',len',cap',m,n,D,Pl,hcs,hb,hl,hm,hmm,hx,hel⟩
 ·simp[Value.cells] at hcs;obtain⟨rfl,rfl,rfl⟩:=hcs;simp only[zU] at hx;exact⟨none,0,[],rfl,fun k hk=>absurd hk (by simp),ar _,.inl ⟨hx.1,rfl⟩⟩
 ·simp[Value.cells] at hcs;obtain⟨rfl,rfl,rfl⟩:=hcs;simp only[zU] at hx;have yT:len<=m:=by rw[hmm];split<;>omega
  rw[ame] at hel
  have each:∀i,i<len ->∃f:Int×Int,(W.cell? (a'.add (i*2))=some (.int .i64 f.1)/\W.cell? (a'.add (i*2+1))=some (.int .i64 f.2))/\D i=La f:=by
   intro i hi;obtain⟨cs',h1,h2⟩:=hel i (by omega);obtain⟨_,hlen,hcell⟩:=Gk h1;match cs',hlen with
   |[c0,c1],_=>
    obtain⟨y0,y1,k,r7,_,oA,hy1⟩:=trod_struct2 Tryz.underlying90 h2;obtain⟨z0,e0,hz0,_⟩:=DataW.trod_int Tryz.underlying3 oA;obtain⟨z1,e1,hz1,_⟩:=DataW.trod_int Tryz.underlying3 hy1;simp[acI] at e0 e1;subst e0 e1;simp only[zU] at r7;have g0:=hcell 0 (by omega);have g1:=hcell 1 (by omega);rw[Gy] at g0 g1;refine⟨(z0,z1),⟨by simpa using g0,by simpa using g1⟩,?_⟩;rw[r7.1,hz0,hz1];rfl
  obtain⟨f,hf2⟩:=Gx (α:=Int×Int) each;refine⟨some a',cap,(List.range len).map f,by simp,?_,by simpa using hl,.inr ⟨(List.range (m - len)).map fun j=>D (len+j),?_⟩⟩
  ·intro k hk;(have dH:k<len:=by simpa using hk);obtain⟨⟨g0,g1⟩,_⟩:=hf2 k dH;obtain⟨⟨z0,_⟩,_⟩:=hf2 0 (by omega);have hsp:=Gl z0;obtain⟨bb,oo,sp⟩:=a';rw[jw] at hsp;simp[Addr.add] at hsp;subst hsp;rw[WideShapes.add_plain] at g0 g1;refine⟨bb,oo,rfl,Fo g0,?_,?_⟩
   ·simpa using g0
   ·simpa [yo] using g1
  ·rw[hx.1];congr 1
   rw[wj];exact rq fun i hi=>(hf2 i (bG.1 hi)).2
theorem amn:Tryz.prog.bytesOf 90=16:=by kernel_rfl
theorem ae9 {H:Type} {ts:List TypeId} {ds:List (DataW H)} (h:(DataW.weightsEach Tryz.prog ts ds).all (·<=reachBytes)=true) {l:List (Int×Int)} {d:DataW H} (ht:ts[j]? =some 28) (hd:ds[j]? =some d) (hl:(d=.nil/\l=[])∨∃rest,d=.slice (l.map La) rest):
  l.length<=140737488355328:=by
 rcases hl with ⟨_,rfl⟩ |⟨rest,rfl⟩
 ·simp
 have h1:=eJ.1 h _ (MW ht hd (((l.map (La (H:=H))).length+rest.length)*Tryz.prog.bytesOf 90) (by simp[DataW.weights,Tryz.underlying28]));have h1':((l.map (La (H:=H))).length+rest.length)*Tryz.prog.bytesOf 90<=reachBytes:=by simpa using h1
 rw[amn,c5] at h1';simp only[reachBytes] at h1';omega
def Bl {H:Type} {α:Type} (one:DataW H ->α ->Prop) (d:DataW H) (L:List α):Prop:=(d=.nil/\L=[])∨∃(E rest:List (DataW H)),d=.slice E rest/\E.length=L.length/\∀k (h:k<L.length) (h':k<E.length),one E[k] L[k]
def PL {H:Type} (d:DataW H) (l:List Int):Prop:=(d=.nil/\l=[])∨∃rest,d=.slice (l.map AH) rest
def Qv {H:Type} (d:DataW H) (l:List Fr):Prop:=(d=.nil/\l=[])∨∃rest,d=.slice (l.map fd) rest
def En {H:Type} (s:ByteArray):DataW H:=.lit (.string s.data.toList)
def Vy {H:Type} (d:DataW H) (l:List ByteArray):Prop:=(d=.nil/\l=[])∨∃rest,d=.slice (l.map En) rest
def PB {H:Type} (d:DataW H) (x:Vr):Prop:=∃dv,d=.agg [En x.1,dv]/\Vy dv x.2
theorem acH:Tryz.prog.cellsOf 9=1:=by kernel_rfl
theorem al7:Tryz.prog.cellsOf 67=1:=by kernel_rfl
theorem al6:Tryz.prog.cellsOf 69=2:=by kernel_rfl
theorem al5:Tryz.prog.cellsOf 22=1:=by kernel_rfl
theorem ama:Tryz.prog.cellsOf 23=1:=by kernel_rfl
theorem amd:Tryz.prog.cellsOf 24=1:=by kernel_rfl
theorem al8:Tryz.prog.cellsOf 26=3:=by kernel_rfl
theorem ad4 {H:Type} {enc:TypeId×Value ->H} {W:World} {x:DataW H×List MemPlace} (hf:DataW.trod enc Tryz.prog W 0 (fun _=>true) true fuel 67 cs=some x):
  ∃(a:Option Addr) (cap:Nat) (l:List ByteArray),cs=[.slice a l.length cap]/\my W a l/\l.length<=cap/\Vy x.1 l:=by
 rcases Ci Tryz.underlying67 hf with ⟨hcs,hx⟩ |⟨a',len,cap,m,n,D,Pl,hcs,hb,hl,hm,hmm,hx,hel⟩
 ·exact⟨none,0,[],hcs,fun k hk=>absurd hk (by simp),by simp,.inl ⟨by rw[hx],rfl⟩⟩
 ·have yT:len<=m:=by rw[hmm];split<;>omega
  rw[acH] at hel
  have each:∀i,i<len ->∃z:ByteArray,W.cell? (a'.add (i*1))=some (.string z)/\D i=En z:=by
   intro i hi;obtain⟨cs',h1,h2⟩:=hel i (by omega);obtain⟨_,hlen,hcell⟩:=Gk h1;obtain⟨z,e0,r7,_⟩:=QR Tryz.underlying9 h2;subst e0;simp only[zU] at r7;have g0:=hcell 0 (by omega);rw[Gy] at g0;exact⟨z,by simpa using g0,r7.1⟩
  obtain⟨f,hf2⟩:=Gx (α:=ByteArray) each;refine⟨some a',cap,(List.range len).map f,by rw[hcs];simp,?_,by simpa using hl,.inr ⟨(List.range (m - len)).map fun j=>D (len+j),?_⟩⟩
  ·intro k hk;(have dH:k<len:=by simpa using hk);obtain⟨g0,_⟩:=hf2 k dH;obtain⟨z0,_⟩:=hf2 0 (by omega);have hsp:=Gl z0;obtain⟨bb,oo,sp⟩:=a';rw[jw] at hsp;simp[Addr.add] at hsp;subst hsp;rw[WideShapes.add_plain] at g0;refine⟨bb,oo,rfl,Fo g0,?_⟩;simpa using g0
  ·rw[hx];show DataW.slice _ _=DataW.slice _ _;congr 1
   rw[wj];exact rq fun i hi=>(hf2 i (bG.1 hi)).2
theorem ad5 {H:Type} {enc:TypeId×Value ->H} {W:World} {x:DataW H×List MemPlace} (hf:DataW.trod enc Tryz.prog W 0 (fun _=>true) true fuel 23 cs=some x):
  ∃(a:Option Addr) (cap:Nat) (L:List (List Int)),cs=[.slice a L.length cap]/\fh W a L/\Bl PL x.1 L/\vK W a L:=by
 rcases Ci Tryz.underlying23 hf with ⟨hcs,hx⟩ |⟨a',len,cap,m,n,D,Pl,hcs,hb,hl,hm,hmm,hx,hel⟩
 ·exact⟨none,0,[],hcs,fun k hk=>absurd hk (by simp),.inl ⟨by rw[hx],rfl⟩,fun k hk=>absurd hk (by simp)⟩
 ·have yT:len<=m:=by rw[hmm];split<;>omega
  rw[amb] at hel
  have each:∀i,i<len ->∃z:Option Addr×Nat×List Int,W.cell? (a'.add (i*1))=some (.slice z.1 z.2.2.length z.2.1)/\ax W z.1 z.2.2/\PL (D i) z.2.2/\(z.1=none ->z.2.1=0):=by
   intro i hi;obtain⟨cs',h1,h2⟩:=hel i (by omega);obtain⟨_,hlen,hcell⟩:=Gk h1;obtain⟨b,c,l,e0,h3,h5,h4,_⟩:=XU h2;subst e0;have g0:=hcell 0 (by omega);rw[Gy] at g0;exact⟨(b,c,l),by simpa using g0,h3,h4,h5⟩
  obtain⟨f,hf2⟩:=Gx (α:=Option Addr×Nat×List Int) each;refine⟨some a',cap,(List.range len).map fun i=>(f i).2.2,by rw[hcs];simp,?_,.inr ⟨(List.range len).map D,(List.range (m - len)).map fun j=>D (len+j),by rw[hx],by simp,?_⟩,?_⟩
  ·intro k hk;(have dH:k<len:=by simpa using hk);obtain⟨g0,h3,_⟩:=hf2 k dH;obtain⟨z0,_⟩:=hf2 0 (by omega);have hsp:=Gl z0;obtain⟨bb,oo,sp⟩:=a';rw[jw] at hsp;simp[Addr.add] at hsp;subst hsp;rw[WideShapes.add_plain] at g0;refine⟨bb,oo,(f k).1,(f k).2.1,rfl,Fo g0,?_,?_⟩
   ·simpa using g0
   ·simpa using h3
  ·intro k hk dH;(have hk2:k<len:=by simpa using hk);simpa using (hf2 k hk2).2.2.1
  ·intro k hk g o b' n' c' e hc hn;(have hk2:k<len:=by simpa using hk);obtain⟨g0,_,_,h5⟩:=hf2 k hk2;cases e;rw[WideShapes.add_plain,mN,hc] at g0;cases g0;exact h5 hn
theorem ad6 {H:Type} {enc:TypeId×Value ->H} {W:World} {x:DataW H×List MemPlace} (hf:DataW.trod enc Tryz.prog W 0 (fun _=>true) true fuel 24 cs=some x):
  ∃(a:Option Addr) (cap:Nat) (L:List (List Fr)),cs=[.slice a L.length cap]/\MA W a L/\Bl Qv x.1 L:=by
 rcases Ci Tryz.underlying24 hf with ⟨hcs,hx⟩ |⟨a',len,cap,m,n,D,Pl,hcs,hb,hl,hm,hmm,hx,hel⟩
 ·exact⟨none,0,[],hcs,fun k hk=>absurd hk (by simp),.inl ⟨by rw[hx],rfl⟩⟩
 ·have yT:len<=m:=by rw[hmm];split<;>omega
  rw[amc] at hel
  have each:∀i,i<len ->∃z:Option Addr×Nat×List Fr,W.cell? (a'.add (i*1))=some (.slice z.1 z.2.2.length z.2.1)/\(bZ W z.1 z.2.2/\z.2.2.length<=z.2.1)/\Qv (D i) z.2.2:=by
   intro i hi;obtain⟨cs',h1,h2⟩:=hel i (by omega);obtain⟨_,hlen,hcell⟩:=Gk h1
   have sB:∀a n c,cs'=[Value.slice a n c] ->n<=c:=fun a n c e=>by
    rcases Ci Tryz.underlying37 h2 with ⟨hc,_⟩ |⟨a2,anV,aor,m2,n2,D2,Pl2,hc,_,hl2,_⟩
    ·rw[hc] at e;cases e;exact ar _
    ·rw[hc] at e;cases e;exact hl2
   match cs',hlen with
   |[v],_=>
    obtain⟨b,c,l,e0,h3,h4⟩:=aho h2;subst e0;have g0:=hcell 0 (by omega);rw[Gy] at g0;exact⟨(b,c,l),by simpa using g0,⟨h3,sB _ _ _ rfl⟩,h4⟩
  obtain⟨f,hf2⟩:=Gx (α:=Option Addr×Nat×List Fr) each;refine⟨some a',cap,(List.range len).map fun i=>(f i).2.2,by rw[hcs];simp,?_,.inr ⟨(List.range len).map D,(List.range (m - len)).map fun j=>D (len+j),by rw[hx],by simp,?_⟩⟩
  ·intro k hk;(have dH:k<len:=by simpa using hk);obtain⟨g0,⟨h3,h5⟩,_⟩:=hf2 k dH;obtain⟨z0,_⟩:=hf2 0 (by omega);have hsp:=Gl z0;obtain⟨bb,oo,sp⟩:=a';rw[jw] at hsp;simp[Addr.add] at hsp;subst hsp;rw[WideShapes.add_plain] at g0;refine⟨bb,oo,(f k).1,(f k).2.1,rfl,Fo g0,?_,?_,?_⟩
   ·simpa using g0
   ·simpa using h3
   ·simpa using h5
  ·intro k hk dH;(have hk2:k<len:=by simpa using hk);simpa using (hf2 k hk2).2.2
theorem ad3 {H:Type} {enc:TypeId×Value ->H} {W:World} {x:DataW H×List MemPlace} (hf:DataW.trod enc Tryz.prog W 0 (fun _=>true) true fuel 22 cs=some x):
  ∃(a:Option Addr) (cap:Nat) (V:List Vr),cs=[.slice a V.length cap]/\sO W a V/\Bl PB x.1 V:=by
 rcases Ci Tryz.underlying22 hf with ⟨hcs,hx⟩ |⟨a',len,cap,m,n,D,Pl,hcs,hb,hl,hm,hmm,hx,hel⟩
 ·exact⟨none,0,[],hcs,fun k hk=>absurd hk (by simp),.inl ⟨by rw[hx],rfl⟩⟩
 ·have yT:len<=m:=by rw[hmm];split<;>omega
  rw[al6] at hel
  have each:∀i,i<len ->∃z:ByteArray×Option Addr×Nat×List ByteArray,(W.cell? (a'.add (i*2))=some (.string z.1)/\W.cell? (a'.add (i*2+1))=some (.slice z.2.1 z.2.2.2.length z.2.2.1))/\(my W z.2.1 z.2.2.2/\z.2.2.2.length<=z.2.2.1)/\PB (D i) (z.1,z.2.2.2):=by
   intro i hi;obtain⟨cs',h1,h2⟩:=hel i (by omega);obtain⟨_,hlen,hcell⟩:=Gk h1;match cs',hlen with
   |[c0,c1],_=>
    obtain⟨y0,y1,k,r7,_,oA,hy1⟩:=trod_struct2 Tryz.underlying69 h2;simp[acH,al7] at oA hy1;obtain⟨nm,e0,e1,_⟩:=QR Tryz.underlying9 oA;obtain⟨b,c,l,e2,h3,h4,h5⟩:=ad4 hy1;(obtain rfl:c0=_:=by simpa using e0);(obtain rfl:c1=_:=by simpa using e2);have g0:=hcell 0 (by omega);have g1:=hcell 1 (by omega);rw[Gy] at g0 g1;simp only[zU] at r7;refine⟨(nm,b,c,l),⟨by simpa using g0,by simpa using g1⟩,⟨h3,h4⟩,y1.1,?_,h5⟩;rw[r7.1,e1];rfl
  obtain⟨f,hf2⟩:=Gx (α:=ByteArray×Option Addr×Nat×List ByteArray) each;refine⟨some a',cap,(List.range len).map fun i=>((f i).1,(f i).2.2.2),by rw[hcs];simp,?_,.inr ⟨(List.range len).map D,(List.range (m - len)).map fun j=>D (len+j),by rw[hx],by simp,?_⟩⟩
  ·intro k hk;(have dH:k<len:=by simpa using hk);obtain⟨⟨g0,g1⟩,⟨h3,h5⟩,_⟩:=hf2 k dH;obtain⟨⟨z0,_⟩,_⟩:=hf2 0 (by omega);have hsp:=Gl z0;obtain⟨bb,oo,sp⟩:=a';rw[jw] at hsp;simp[Addr.add] at hsp;subst hsp;rw[WideShapes.add_plain] at g0 g1;refine⟨bb,oo,(f k).2.1,(f k).2.2.1,rfl,Fo g0,?_,?_,?_,?_⟩
   ·simpa using g0
   ·simpa [yo] using g1
   ·simpa using h3
   ·simpa using h5
  ·intro k hk dH;(have hk2:k<len:=by simpa using hk);simpa using (hf2 k hk2).2.2
theorem ahm {H:Type} {enc:TypeId×Value ->H} {W:World} {r:Reach} {v:Value} {d:DataW H} {p:List MemPlace} (hval:Value.okWide Tryz.prog W r b0 26 v) (h:DataW.Trod enc Tryz.prog W 0 (fun _=>true) true 26 v d p):
  ∃(a b c:Option Addr) (ca cb cc:Nat) (V:List Vr) (L:List (List Int)) (R:List (List Fr)) (dV dL dR:DataW H),v=.agg #[.slice a V.length ca,.slice b L.length cb,.slice c R.length cc]/\d=.agg [dV,dL,dR]/\gP W a b c V L R/\Bl PB dV V/\Bl PL dL L/\Bl Qv dR R/\vK W b L:=by
 obtain⟨cs,rfl,hsz⟩:=okWide_struct Tryz.underlying26 hval;rw[al8] at hsz;obtain⟨l⟩:=cs;match l,hsz with
 |[c0,c1,c2],_=>
  obtain⟨fuel,hf⟩:=h;obtain⟨y0,y1,y2,m,hx,_,oA,hy1,hy2⟩:=Deep.trod_struct3 Tryz.underlying26 hf;simp[Value.cells,al5,ama,amd] at oA hy1 hy2;obtain⟨a,ca,V,e0,h0,d0⟩:=ad3 oA;obtain⟨b,cb,L,e1,h1,d1,n1⟩:=ad5 hy1;obtain⟨c,cc,R,e2,h2,d2⟩:=ad6 hy2;obtain rfl:c0=_:=by simpa using e0
  obtain rfl:c1=_:=by simpa using e1
  obtain rfl:c2=_:=by simpa using e2
  simp only[zU] at hx;exact⟨a,b,c,ca,cb,cc,V,L,R,_,_,_,rfl,hx.1,⟨h0,h1,h2⟩,d0,d1,d2,n1⟩
theorem Ng {H:Type} {t e:TypeId} (ht:Tryz.prog.underlying t=some (.slice e)) {E rest:List (DataW H)} (h:(DataW.weightsEach Tryz.prog [t] [.slice E rest]).all (·<=reachBytes)=true) {d:DataW H} (hd:d∈E):(DataW.weightsEach Tryz.prog [e] [d]).all (·<=reachBytes)=true:=by
 rw[eJ];intro n hn;have hn':n∈d.weights Tryz.prog e:=by simpa [DataW.weightsEach] using hn
 have:=eJ.1 h n (by
  simp only[DataW.weightsEach,Eg,DataW.weights,ht,dK,dz];exact .inr (.inl (Q4 hd hn')))
 exact this
theorem Nh {H:Type} {t e:TypeId} (ht:Tryz.prog.underlying t=some (.slice e)) {E rest:List (DataW H)} (h:(DataW.weightsEach Tryz.prog [t] [.slice E rest]).all (·<=reachBytes)=true):E.length*Tryz.prog.bytesOf e<=reachBytes:=by
 have:=eJ.1 h ((E.length+rest.length)*Tryz.prog.bytesOf e) (by simp[DataW.weightsEach,DataW.weights,ht]);have h2:(E.length+rest.length)*Tryz.prog.bytesOf e<=reachBytes:=by simpa using this
 exact aS (jK _ (by omega)) h2
theorem ami:Tryz.prog.bytesOf 69=40:=by kernel_rfl
theorem amk:Tryz.prog.bytesOf 27=24:=by kernel_rfl
theorem amm:Tryz.prog.bytesOf 37=24:=by kernel_rfl
theorem amj:Tryz.prog.bytesOf 9=16:=by kernel_rfl
theorem ae5 {H:Type} {d:DataW H} {l:List ByteArray} (h:(DataW.weightsEach Tryz.prog [67] [d]).all (·<=reachBytes)=true) (hd:Vy d l):l.length<=140737488355328/\∀s∈l,s.size<=140737488355328:=by
 rcases hd with ⟨_,rfl⟩ |⟨rest,rfl⟩
 ·exact⟨by simp,fun s hs=>by cases hs⟩
 ·constructor
  ·have h1:=Nh Tryz.underlying67 h;rw[amj,c5] at h1;simp only[reachBytes] at h1;omega
  ·intro s hs;have h1:=Ng Tryz.underlying67 h (List.mem_map_of_mem (f:=En) hs);have h2:=eJ.1 h1 s.data.toList.length (by simp[DataW.weightsEach,En,DataW.weights]);(have h3:s.data.toList.length<=reachBytes:=by simpa using h2);rw[vI] at h3;simp only[reachBytes] at h3;omega
theorem ae6 {H:Type} {ts:List TypeId} {ds:List (DataW H)} (h:(DataW.weightsEach Tryz.prog ts ds).all (·<=reachBytes)=true) {dV dL dR:DataW H} (ht:ts[j]? =some 26) (hd:ds[j]? =some (.agg [dV,dL,dR])) (hV:Bl PB dV V) (hL:Bl PL dL L) (hR:Bl Qv dR R):VB V L R:=by
 have part:∀(n:Nat),n∈DataW.weightsEach Tryz.prog [22,23,24] [dV,dL,dR] ->n<=reachBytes:=fun n hn=>by
  have:=eJ.1 h n (MW ht hd n (by
   simp only[DataW.weights,Tryz.underlying26];exact hn))
  simpa using this
 have hwV:(DataW.weightsEach Tryz.prog [22] [dV]).all (·<=reachBytes)=true:=eJ.2 fun n hn=>cJ (part n (by simp[DataW.weightsEach] at hn⊢;exact .inl hn));have hwL:(DataW.weightsEach Tryz.prog [23] [dL]).all (·<=reachBytes)=true:=eJ.2 fun n hn=>cJ (part n (by simp[DataW.weightsEach] at hn⊢;exact .inr (.inl hn)));have hwR:(DataW.weightsEach Tryz.prog [24] [dR]).all (·<=reachBytes)=true:=eJ.2 fun n hn=>cJ (part n (by simp[DataW.weightsEach] at hn⊢;exact .inr (.inr hn)));refine⟨?_,?_,?_⟩
 ·rcases hV with ⟨_,rfl⟩ |⟨E,rest,rfl,he,hp⟩
  ·exact⟨by simp,fun x hx=>by cases hx⟩
  ·constructor
   ·have h1:=Nh Tryz.underlying22 hwV;rw[ami,he] at h1;simp only[reachBytes] at h1;omega
   ·intro x hx;obtain⟨k,hk,rfl⟩:=iE hx;obtain⟨dv,e1,e2⟩:=hp k hk (by omega);have h1:=Ng Tryz.underlying22 hwV (bH (show k<E.length by omega));rw[e1] at h1
    have h2:∀n,n∈DataW.weightsEach Tryz.prog [9,67] [En V[k].1,dv] ->n<=reachBytes:=fun n hn=>by
     have:=eJ.1 h1 n (by
      simp only[DataW.weightsEach,Eg,DataW.weights,Tryz.underlying69];simpa [DataW.weightsEach] using hn)
     simpa using this
    have h3:=h2 V[k].1.data.toList.length (by simp[DataW.weightsEach,En,DataW.weights]);rw[vI] at h3;simp only[reachBytes] at h3;have h4:=ae5 (l:=V[k].2) (eJ.2 fun n hn=>cJ (h2 n (by simp[DataW.weightsEach] at hn⊢;exact .inr hn))) e2;exact⟨by omega,h4.1,h4.2⟩
 ·rcases hL with ⟨_,rfl⟩ |⟨E,rest,rfl,he,hp⟩
  ·exact⟨by simp,fun x hx=>by cases hx⟩
  ·constructor
   ·have h1:=Nh Tryz.underlying23 hwL;rw[amk,he] at h1;simp only[reachBytes] at h1;omega
   ·intro x hx;obtain⟨k,hk,rfl⟩:=iE hx;have h1:=Ng Tryz.underlying23 hwL (bH (show k<E.length by omega));exact Yy h1 (j:=0) rfl rfl (hp k hk (by omega))
 ·rcases hR with ⟨_,rfl⟩ |⟨E,rest,rfl,he,hp⟩
  ·exact⟨by simp,fun x hx=>by cases hx⟩
  ·constructor
   ·have h1:=Nh Tryz.underlying24 hwR;rw[amm,he] at h1;simp only[reachBytes] at h1;omega
   ·intro x hx;obtain⟨k,hk,rfl⟩:=iE hx;have h1:=Ng Tryz.underlying24 hwR (bH (show k<E.length by omega));exact ae7 h1 (j:=0) rfl rfl (hp k hk (by omega))
variable {W':World}
theorem acS {H:Type} {enc:TypeId×Value ->H} {P:Program} (hl:laidOutB P=true) {W:World} (hb:Below W.heap.size W W'):∀ {ts:List TypeId} {vs:List Value} {ds:List (DataW H)} {ps:List MemPlace},
  (ts.all fun t=>P.readableRec t&&decide (t<P.types.size))=true ->DataW.TrodAll enc P W 0 (fun _=>true) true ts vs ds ps ->DataW.TrodAll enc P W' 0 (fun b=>decide (b<W.heap.size)) true ts vs ds ps
 |[],[],[],_,_,h=>h
 |t::ts,v::vs,d::ds,_,ht,⟨p,q,h,hr,e⟩=>by
  rw[List.all_cons,ia,ia] at ht;refine⟨p,q,Below.trod hl ht.1.1 (rS ht.1.2) h hb ?_,acS hl hb ht.2 hr,e⟩;obtain⟨m,hm⟩:=h;exact DataW.trod_lt m _ _ _ hm
 |[],_::_,_,_,_,h=>by simp[DataW.TrodAll] at h
 |[],[],_::_,_,_,h=>by simp[DataW.TrodAll] at h
 |_::_,[],_,_,_,h=>by simp[DataW.TrodAll] at h
 |_::_,_::_,[],_,_,h=>by simp[DataW.TrodAll] at h
end Go.Proofs.YtdnhgjeihdllbaaGreatDoor
