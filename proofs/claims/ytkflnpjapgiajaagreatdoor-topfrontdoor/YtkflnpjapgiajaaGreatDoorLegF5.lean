/- Part5: part 5. -/
import Derived.Test.YtkflnpjapgiajaaGreatDoorLegF4
set_option maxRecDepth 100000
set_option maxHeartbeats 400000000
set_option linter.unusedSimpArgs false
set_option linter.unusedVariables false
namespace Go.Proofs.YtkflnpjapgiajaaGreatDoor
open Value renaming slice→Z,int→J,string→zK,pointer→zR,bool→zZ,agg→zd,tuple→zp
open IntKind renaming i64→I,u32→yE
open Obj renaming cells→yM
open Ending renaming returned→yW
open Or renaming inl→yd,inr→yk
open Option renaming none→N,some→M
open Bool renaming true→y6,false→xd
open Go renaming World→E,Value→wF,undef→wQ
open RowKit renaming Hid→wT
open Go.Proofs.Tryz
open _root_.Array renaming size→O
open World renaming heap→T
open List renaming length→C
open Go.RowKit Go.Shelf
theorem amK (a b t:Kd) (ca cb ct:Nat) (S:Ja) (fr:Kx) (P:List Tb) (D c v:Nat) (w:E) (aR:fK (iL S)) (hs:aB w a (iL S)) (hb:aB w b fr) (hP:jn w t P) (bD:i6 S (C S) P D c) (ch:C P<=999) (mh:C fr<=1000) (hm:2*(B D).size+(B c).size+2<=8192) (hv:v<C S) (bt:∃t∈P,v∈af t.1):
  c6 207 #[zd #[Z a (C S) ca,Z b (C fr) cb,Z t (C P) ct],J I (v:Nat),zZ xd] w fun e w'=>∃d Bb t' gO,e=yW (zd #[Z a (C S) ca,Z d (C (cH fr v)) Bb,Z t' (C (rP S v xd P)) gO])/\aB w' d (cH fr v)/\jn w' t' (rP S v xd P)/\i7 (O (T w)) t' gO/\da w w':=by
 have fH:Pos S:=by have:=aR.pos;rwa [jP] at this
 have lJ:=Fa (fun (U:E) (hU:da w U)=>adN (Z a (C S) ca) (Z t (C P) ct) b cb fr (v:Int) U (slv _ _ _) (slv _ _ _) (hb.aa hU) mh)
 have uM:wT (∀(k:Nat) (hk:k<C P) (x:Kd) (cx:Nat) (U:E),aB U x P[k].1 ->c6 98 #[Z x P[k].1.length cx,J I (v:Nat)] U fun e w'=>e=yW (zZ (decide (v∈af P[k].1)))/\da U w'):=fun k hk x cx U h=>by
  have ho:=bD.ok _ (bU hk);have:=Nj x cx P[k].1 (v:Int) U h (by have:=ho.small aR;omega);rwa [agI ho.up] at this
 obtain⟨E1,d1,k1,k2,k3⟩:=bD.filter (fun t=>decide (v∈af t.1))
 have bc:2*(B E1).size+(B d1).size+2<=8192:=by
  have h1:=ku k2;have h2:=ku k3;omega
 have aJ:=k1.part fH bc (C (P.filter fun t=>decide (v∈af t.1)));rw[iD] at aJ
 have bu:v∈af (allT S (P.filter fun t=>decide (v∈af t.1))).1:=((Gk fH k1.ok).2.1 v).2 (by
  obtain⟨t,ht,Dm⟩:=bt;exact⟨t,dC.2 ⟨ht,cJ Dm⟩,Dm⟩)
 have bz:C (P.filter fun t=>decide (v∈af t.1))<=1000:=aM (oT ..) al;have Et:wT (∀(wa:Kd) (cw:Nat) (U:E),da w U ->jn U wa (P.filter fun t=>decide (v∈af t.1)) ->c6 208 #[Z a (C S) ca,Z wa (C (P.filter fun t=>decide (v∈af t.1))) cw] U fun e w'=>∃x y,e=yW (zd #[x,y])/\bJ w' x y (allT S (P.filter fun t=>decide (v∈af t.1)))/\da U w'):=fun wa cw U hU h=>adB a wa ca cw S _ E1 d1 U aR (hs.aa hU) h k1 bz bc;have yR:wT (∀(x y:wF) (U:E),da w U ->bJ U x y (allT S (P.filter fun t=>decide (v∈af t.1))) ->c6 107 #[Z a (C S) ca,zd #[x,y],J I (v:Nat),zZ xd] U fun e w'=>Gl (O (T U)) (outT S v xd (allT S (P.filter fun t=>decide (v∈af t.1)))) e w'/\da U w'):=fun x y U hU h=>ad6 a ca S x y _ v U aR (hs.aa hU) h aJ.1 aJ.2 hv bu;have HP:=Fa hP;clear hs hb hP bD aR fH hm bt k1 k2 k3 bc aJ bu bz;obtain⟨Ba,hT⟩:∃Ba:Nat ->List Tb,∀k,(P.take k).filter (fun t=>!decide (v∈af t.1))=Ba k:=⟨fun k=>(P.take k).filter (fun t=>!decide (v∈af t.1)),fun _=>rfl⟩;obtain⟨B7,hZ⟩:∃B7:Nat ->List Tb,∀k,(P.take k).filter (fun t=>decide (v∈af t.1))=B7 k:=⟨fun k=>(P.take k).filter (fun t=>decide (v∈af t.1)),fun _=>rfl⟩;have xE:wT (Ba 0=[]/\B7 0=[]):=by show _/\_;rw[<- hT, <- hZ];exact⟨rfl,rfl⟩
 have ir:wT (∀k (hk:k<C P),decide (v∈af P[k].1)=y6 ->Ba (k+1)=Ba k/\B7 (k+1)=B7 k++[P[k]]):=fun k hk h=>by
  rw[<- hT, <- hT, <- hZ, <- hZ,gR hk,xP,xP,CQ (by simp only[h];decide),CP (p:=fun t:Tb=>decide (v∈af t.1)) h];simp
 have kZ:wT (∀k (hk:k<C P),decide (v∈af P[k].1)=xd ->Ba (k+1)=Ba k++[P[k]]/\B7 (k+1)=B7 k):=fun k hk h=>by
  rw[<- hT, <- hT, <- hZ, <- hZ,gR hk,xP,xP,CP (by simp only[h];decide),CQ (by simp only[h];decide)];simp
 have sI:wT (Ba (C P)=(P.filter fun t=>!decide (v∈af t.1))/\B7 (C P)=P.filter fun t=>decide (v∈af t.1)):=by show _/\_;rw[<- hT, <- hZ,iD];exact⟨rfl,rfl⟩
 have El:wT (∀k,C (Ba k)<=C P/\(B7 k).length<=C P):=fun k=>by rw[<- hT, <- hZ];exact⟨aM (oT ..) (by rw[fh];omega),aM (oT ..) (by rw[fh];omega)⟩
 clear hT hZ;obtain⟨OP,ZK⟩:∃OP,rP S v xd P=OP:=⟨_,rfl⟩;have Js:wT (OP=Ba (C P)++[outT S v xd (allT S (B7 (C P)))]):=by show _=_;rw[<- ZK,sI.o.1,sI.o.2];rfl
 rw[<- sI.o.2] at Et yR;rw[ZK];generalize outT S v xd (allT S (B7 (C P)))=OT at *;generalize allT S (B7 (C P))=AT at *;clear ZK sI;obtain⟨L,Lm⟩:∃L,cH fr v=L:=⟨_,rfl⟩;rw[Lm] at lJ;rw[Lm];clear Lm;go_enter func207,ntmps207;go_wp2_with fail
 have az:da w ((w.alloc (yM #[Z a (C S) ca,Z b (C fr) cb,Z t (C P) ct] 177)).alloc (yM #[Z N 0 0,Z N 0 0,Z N 0 0] 177)):=by
  have h1:=(au (O (T w)) w).alloc (ah _) (yM #[Z a (C S) ca,Z b (C fr) cb,Z t (C P) ct] 177);exact h1.alloc h1.size _
 have Ae:cI ((w.alloc (yM #[Z a (C S) ca,Z b (C fr) cb,Z t (C P) ct] 177)).alloc (yM #[Z N 0 0,Z N 0 0,Z N 0 0] 177)) (O (T w)) (Z a (C S) ca) (Z b (C fr) cb) (Z t (C P) ct):=(cI.at (w:=w) rfl _ _ _).alloc _;have kV:cI ((w.alloc (yM #[Z a (C S) ca,Z b (C fr) cb,Z t (C P) ct] 177)).alloc (yM #[Z N 0 0,Z N 0 0,Z N 0 0] 177)) (O (T w)+1) (Z N 0 0) (Z N 0 0) (Z N 0 0):=cI.at (w:=w.alloc (yM #[Z a (C S) ca,Z b (C fr) cb,Z t (C P) ct] 177)) aE _ _ _;have Jl:=Fa (lJ.o _ az);clear lJ;generalize ((w.alloc (yM #[Z a (C S) ca,Z b (C fr) cb,Z t (C P) ct] 177)).alloc (yM #[Z N 0 0,Z N 0 0,Z N 0 0] 177))=W0 at *;refine Jl.o.ae ?_;rintro e Bj ⟨d,Bb,rfl,IM,Ot,ax⟩;have cg:=kV.lt;have oA:=(au (O (T Bj)) Bj).alloc (ah _) (yM #[Z a (C S) ca,Z d (C L) Bb,Z N 0 0] 177);have l8:O (T (Bj.alloc (yM #[Z a (C S) ca,Z d (C L) Bb,Z N 0 0] 177)))=O (T Bj)+1:=aE
 have fR:=(az.trans (ax.ae az.size)).trans (oA.ae (aM az.size ax.size));have I3:=(Ae.aa ax Ae.lt).alloc (yM #[Z a (C S) ca,Z d (C L) Bb,Z N 0 0] 177);have yC:=(kV.aa ax kV.lt).alloc (yM #[Z a (C S) ca,Z d (C L) Bb,Z N 0 0] 177);have rh:pM w (Bj.alloc (yM #[Z a (C S) ca,Z d (C L) Bb,Z N 0 0] 177)) (O (T Bj)) (Z a (C S) ca) (Z d (C L) Bb) (Z N 0 0) (Z N 0 0) [] [] [] [] (Bj.alloc (yM #[Z a (C S) ca,Z d (C L) Bb,Z N 0 0] 177)):=pM.start (cI.at (w:=Bj) rfl (Z a (C S) ca) (Z d (C L) Bb) (Z N 0 0));have Pc:=IM.aa oA;have ck:=ax.size
 have bO:wT (∀g an,d=M ⟨g,an,N⟩ ->L≠[] ->M g≠M (O (T Bj))):=fun g an e b6 e2=>by
  obtain⟨g',o',e',iz,_⟩:=IM 0 (by cases hl:L with |nil=>exact absurd hl b6 |cons x l=>simp);rw[e] at e';cases e';cases e2;omega
 have sK:wT (∀g an,d=M ⟨g,an,N⟩ ->L≠[] ->g≠w.heap.size+1):=fun g an e _ e2=>by
  have:=Ot.2 g an e;omega
 clear IM Ot ax az Ae kV oA Jl;have fA:=Fa fR;have Ev:=Fa I3;have jU:=Fa yC;have tO:=Fa rh;have JA:=Fa Pc;have Ds:=I3.cells.2.2;clear fR I3 yC rh Pc;go_wp2_with fail
 generalize (Bj.alloc (yM #[Z a (C S) ca,Z d (C L) Bb,Z N 0 0] 177))=W4 at *;clear Ds;go_loopw [8,19] (fun zv iv wr=>∃(i:Nat) (tv:wF) (Q Q2:List (wF×wF)),i<=C P/\iv=J I i/\wT (pM w W4 (O (T Bj)) (Z a (C S) ca) (Z d (C L) Bb) tv zv Q Q2 (Ba i) (B7 i) wr)) (fun _ iv _=>C P - (intOf iv).toNat)
 case atStart=>exact⟨0,_,_,_,aV _,rfl,by rw[xE.o.1,xE.o.2];exact tO⟩
 case round=>
  obtain⟨i,tv,Q,Q2,hi,rfl,HM⟩:=hrel;have Dy:=HM.o.fr.size;have HB:wT (da w wr):=Pj fA.o HM.o.fr al al;have Qj:wT (cI wr (O (T w)) (Z a (C S) ca) (Z b (C fr) cb) (Z t (C P) ct)):=(HM.o.fr.block _ Ev.o.lt (fun e=>by have:=jO e;omega)).trans Ev.o;have tK:wT (cI wr (O (T w)+1) (Z N 0 0) (Z N 0 0) (Z N 0 0)):=(HM.o.fr.block _ jU.o.lt (fun e=>by have:=jO e;omega)).trans jU.o;have bb:O (T Bj)<O (T W4):=al
  obtain⟨za,zc,rfl⟩:=xW HM.o.own2;by_cases aI:i<C P
  ·obtain⟨g,an,p,aY,rfl,hg,k0,k1,bk⟩:=HP.o i aI;replace k0:=(HB.o.cell (p:=⟨g,_,N⟩) hg).trans k0;replace k1:=(HB.o.cell (p:=⟨g,_,N⟩) hg).trans k1;have bg:=Fa bk;have hA:=(au (O (T wr)) wr).alloc (ah _) (TC p aY);have dS:=Fa (HB.o.trans (hA.ae HB.o.size));(have Dq:O (T (wr.alloc (TC p aY)))=O (T wr)+1:=aE);have bB:=aZ.at (w:=wr) rfl p aY;have b0:=bB.c0;have mF:=Fa (HM.o.under hA);obtain⟨ps,qs,Y,qc,rfl,rfl,Dw,_,_⟩:=bk;have HX:=Fa (uM.o i aI ps Y _ (Dw.aa dS.o));have bX:=Fa bB;have b2:=Fa (ir.o i aI);have b3:=Fa (kZ.o i aI);have uC:=El.o i;clear Dw hA bB HM HB Qj tK;have bN:wT (Below (O (T (wr.alloc (TC (Z ps P[i].1.length Y) (Z qs P[i].2.length qc))))) (wr.alloc (TC (Z ps P[i].1.length Y) (Z qs P[i].2.length qc))) (wr.alloc (TC (Z ps P[i].1.length Y) (Z qs P[i].2.length qc)))):=au _ _;generalize P[i]=A at *;generalize hdc:decide (v∈af A.1)=dc at *;clear hdc;go_wp2_with fail
   refine HX.o.ae ?_;rintro e w7 ⟨rfl,eR⟩;have pU:=Fa (mF.o.under eR);have EG:=Fa (bX.o.aa eR bX.o.lt);have cc:=EG.o.c0;have cf:=EG.o.c1;have BV:=(au (O (T w7)) w7).alloc (ah _) (TC (Z ps A.1.length Y) (Z qs A.2.length qc));have pT:=Fa (pU.o.under BV);have IX:=aZ.at (w:=w7) rfl (Z ps A.1.length Y) (Z qs A.2.length qc);have bo:=Fa IX.c0;have bm:=Fa IX.c1;have Gx:wT (O (T W4)<=O (T (w7.alloc (TC (Z ps A.1.length Y) (Z qs A.2.length qc))))):=pT.o.fr.size;have b8:=pU.o.box.cells.2.2;clear eR BV IX HX mF k0 k1 b0 bX dS EG bN;cases dc with
   |true=>
    obtain⟨e1,e2⟩:=b2.o rfl
    have ay:∀(EU:wF) (F:E),F.ownsRow (O (T W4)) 38 2 EU (C (B7 i)+1) (fV Q2++[Z ps A.1.length Y,Z qs A.2.length qc]) ->(w7.alloc (TC (Z ps A.1.length Y) (Z qs A.2.length qc))).grownBy F (Value.ownBlock (Z za (C (B7 i)) zc)) ->(EU.ownBlock=Value.ownBlock (Z za (C (B7 i)) zc)∨∀k,EU.ownBlock=M k ->O (T (w7.alloc (TC (Z ps A.1.length Y) (Z qs A.2.length qc))))<=k) ->(∃a' c',EU=Value.slice a' (C (B7 i)+1) c')/\pM w W4 (O (T Bj)) (Z a (C S) ca) (Z d (C L) Bb) tv EU Q (Q2++[(Z ps A.1.length Y,Z qs A.2.length qc)]) (Ba (i+1)) (B7 (i+1)) F:=fun EU F V ia ji=>by
     have hM:=pT.o.push2 bb bg.o V ia ji;rw[<- e2, <- e1] at hM;exact⟨xW V,hM⟩
    have HKEY:=Fa ay;clear ay e1 e2 b8;go_wp2_with (at_builtin;refine Rg rfl _ _ rfl (O (T W4)) (Z za (C (B7 i)) zc) (C (B7 i)) (fV Q2) (Z ps A.1.length Y) (Z qs A.2.length qc) rfl pT.o.own2 (O (T w7)) rfl bo.o bm.o (slv _ _ _) (slv _ _ _) al Gx.o ?_;intro EU F V ia ji;obtain⟨⟨A4,A3,rfl⟩,Ag⟩:=HKEY.o EU F V ia ji;have rA:=Fa Ag;clear Ag V ia ji)
    go_roundw
    case rel=>exact⟨i+1,_,_,_,al,bd,rA⟩
    case measure=>simp[intOf];omega
   |false=>
    obtain⟨e1,e2⟩:=b3.o rfl
    have ay:∀(B9:wF) (F:E),F.ownsRow (O (T W4)) 38 2 B9 (C (Ba i)+1) (fV Q++[Z ps A.1.length Y,Z qs A.2.length qc]) ->(w7.alloc (TC (Z ps A.1.length Y) (Z qs A.2.length qc))).grownBy F tv.ownBlock ->(B9.ownBlock=tv.ownBlock∨∀k,B9.ownBlock=M k ->O (T (w7.alloc (TC (Z ps A.1.length Y) (Z qs A.2.length qc))))<=k) ->(∃a' c',B9=Value.slice a' (C (Ba i)+1) c')/\pM w W4 (O (T Bj)) (Z a (C S) ca) (Z d (C L) Bb) B9 (Z za (C (B7 i)) zc) (Q++[(Z ps A.1.length Y,Z qs A.2.length qc)]) Q2 (Ba (i+1)) (B7 (i+1)) (F.setCell ⟨O (T Bj),2,N⟩ B9)/\F.cell? ⟨O (T Bj),2,N⟩=M tv/\F.frozen? ⟨O (T Bj),2,N⟩=false:=fun B9 F V ia ji=>by
     obtain⟨hM,yF⟩:=pT.o.push1 bb bg.o V ia ji;rw[<- e2, <- e1] at hM;rw[e2] at hM;exact⟨xW V,by rw[e2];exact hM,yF.cells.2.2,yF.fz 2⟩
    have HKEY:=Fa ay;clear ay e1 e2;go_wp2_with (at_builtin;refine Rg rfl _ _ rfl (O (T W4)) tv (C (Ba i)) (fV Q) (Z ps A.1.length Y) (Z qs A.2.length qc) rfl pT.o.own (O (T w7)) rfl bo.o bm.o (slv _ _ _) (slv _ _ _) al Gx.o ?_;intro B9 F V ia ji;obtain⟨⟨A4,A3,rfl⟩,Ag,bC,bx⟩:=HKEY.o B9 F V ia ji;have rA:=Fa Ag;clear Ag V ia ji)
    go_roundw
    case rel=>exact⟨i+1,_,_,_,al,bd,rA⟩
    case measure=>simp[intOf];omega
  ·obtain rfl:i=C P:=al
   obtain⟨cq,cr,ez,bw⟩:=HM.o.row2 HB.o al;injection ez with ez1 ez2 ez3;subst ez1 ez3;clear ez2;have kg:=Fa (HM.o.plm HB.o al);have bh:=Fa bw;have uC:=(El.o (C P)).1;clear bw HM tO ir kZ El uM;(have b5:C (Ba (C P))+1=C OP:=by rw[Js.o,cE];rfl);go_upto_region 10 with (go_quiet (fail))
   have Aj:da wr wr.drew:=(au (O (T wr)) wr).drew;have m:wT (da w wr.drew):=HB.o.drew;have Mj:wT (cI wr.drew (O (T w)) (Z a (C S) ca) (Z b (C fr) cb) (Z t (C P) ct)):=Qj.o;have a1:=Fa (kg.o.under Aj);have av:=Fa (bh.o.aa Aj);have IA:O (T W4)<=O (T wr.drew):=Dy;clear kg bh HB Qj tK Aj Dy;obtain⟨H,DW⟩:∃H,wr.drew=H:=⟨_,rfl⟩;rw[DW] at m Mj a1 av IA;have uI:wT (∀U:E,da H U ->U.cell? ⟨O (T w),0,N⟩=M (Z a (C S) ca)):=fun U hU=>(Mj.o.aa hU Mj.o.lt).cells.1;have f:wT (da H H):=au _ _;refine iK (S:=fun U=>U.cell? ⟨O (T w),0,N⟩=M (Z a (C S) ca)) ao (by rw[DW];exact uI.o _ f.o) (fun u=>?_);rw[DW] at u⊢;clear DW;refine ar 0 (zR (M ⟨O (T w),0,N⟩)) ?_;refine ar 1 (Z a (C S) ca) ?_;refine ar 2 (zR (M ⟨O (T w),0,N⟩)) ?_;refine ar 3 (Z a (C S) ca) ?_;refine ar 4 (Z za (C (B7 (C P))) zc) ?_;refine ar 6 (J I (v:Nat)) ?_;refine ar 7 (zZ xd) ?_;refine aF [5,12] (cA ?_ (cA ?_ aG))
   focus
    intro Bh K;go_simp;refine(Et.o za zc H m.o av.o).ae ?_;rintro e u1 ⟨x1,y1,rfl,po,aj⟩;replace m:=Fa (m.o.trans (aj.ae m.o.size));replace f:=Fa (f.o.trans (aj.ae f.o.size));have AB:=Fa po;clear u;refine K.o _ _ (uI.o u1 f.o) (fun u=>?_);clear K Bh aj po;refine aF [8,12] (cA ?_ (cA ?_ aG))
    focus
     intro Bh K;go_simp;refine(yR.o x1 y1 u1 m.o AB.o).ae ?_;rintro e u2 ⟨⟨x2,y2,rfl,ad,iU⟩,ai⟩;have ry:wT (∀R,R<O (T H) ->iA R OT (x2,y2)):=fun R hR=>iU R (aT hR f.o.size);replace m:=Fa (m.o.trans (ai.ae m.o.size));replace f:=Fa (f.o.trans (ai.ae f.o.size));have qI:=Fa ad;obtain⟨xs,o,n,rfl⟩:=ad.slices.1;obtain⟨s,r,q,rfl⟩:=ad.slices.2;clear u;refine K.o _ _ (uI.o u2 f.o) (fun u=>?_);clear K Bh ai ad iU;refine ar 9 (zp #[zd #[Z xs o n,Z s r q],J I 0]) ?_;refine ar 10 (zd #[Z xs o n,Z s r q]) ?_;refine ar 11 (J I 0) ?_;refine aF [12] (cA ?_ aG);intro Bh K;go_simp;have nj:=(au _ u2).alloc (ah _) (TC (Z N 0 0) (Z N 0 0));replace m:=Fa (m.o.trans (nj.ae m.o.size));have cN:O (T H)<=O (T u2):=f.o.size;replace f:=Fa (f.o.trans (nj.ae f.o.size));have Bm:=Fa (aZ.at (w:=u2) rfl (Z N 0 0) (Z N 0 0));(have r6:O (T u2)<O (T (u2.alloc (TC (Z N 0 0) (Z N 0 0)))):=aE);have yS:wT (iA (O (T u2)) OT (Z xs o n,Z s r q)):=qI.o.lt (ah _);replace qI:=Fa (qI.o.aa nj);clear u;refine K.o _ _ (uI.o _ f.o) (fun u=>?_);clear K Bh nj;obtain⟨z,ab⟩:∃z,O (T u2)=z:=⟨_,rfl⟩;obtain⟨u3,X⟩:∃u3,u2.alloc (TC (Z N 0 0) (Z N 0 0))=u3:=⟨_,rfl⟩;have Fu:u2.alloc (yM #[Z N 0 0,Z N 0 0] 38)=u3:=X;(have FX:O (T H)<=z:=al)
     (have FU:z<O (T u3):=by rw[<- ab, <- X];exact r6);rw[ab,X] at Bm;clear cN r6;have cN:=FX;have r6:=FU;clear FX FU;rw[ab] at yS;rw[X] at qI;rw[X] at f m;simp only[Fu] at u⊢;simp only[ab];clear X Fu ab;(try simp only[gE,aP]);obtain⟨b0,b1,D8,D7⟩:=Bm.o.facts;refine aF [13] (cA ?_ aG);intro Bh K;go_simp;have yN:=Fa (Bm.o.put (Z xs o n) (Z s r q));have Vv:=Fa (uF m.o (aM al cN) (Z xs o n) (Z s r q));have Gt:=Fa (uF f.o cN (Z xs o n) (Z s r q));have Ej:=Fa ((qI.o.off (g:=z) (j:=0) (Z xs o n) yS.o).off (g:=z) (j:=1) (Z s r q) yS.o);clear u;refine K.o _ _ (uI.o _ Gt.o) (fun u=>?_);clear K Bh b0 b1 D8 D7 Bm m f qI yS;refine ar 14 (J I 0) ?_;(try simp only[gE,aP]);refine eO ao ?_ _;clear u;obtain⟨u4,yg⟩:∃u4,((u3.setCell ⟨z,0,N⟩ (Z xs o n)).setCell ⟨z,1,N⟩ (Z s r q))=u4:=⟨_,rfl⟩
    rotate_left
    focus
     intro Bh K;go_simp;have nj:=(au _ u1).alloc (ah _) (TC (Z N 0 0) (Z N 0 0));replace m:=Fa (m.o.trans (nj.ae m.o.size));have cN:O (T H)<=O (T u1):=f.o.size;replace f:=Fa (f.o.trans (nj.ae f.o.size));have Bm:=Fa (aZ.at (w:=u1) rfl (Z N 0 0) (Z N 0 0));(have r6:O (T u1)<O (T (u1.alloc (TC (Z N 0 0) (Z N 0 0)))):=aE);replace AB:=Fa (AB.o.aa nj);clear u;refine K.o _ _ (uI.o _ f.o) (fun u=>?_);clear K Bh nj;obtain⟨z,ab⟩:∃z,O (T u1)=z:=⟨_,rfl⟩;obtain⟨u3,X⟩:∃u3,u1.alloc (TC (Z N 0 0) (Z N 0 0))=u3:=⟨_,rfl⟩;have Fu:u1.alloc (yM #[Z N 0 0,Z N 0 0] 38)=u3:=X;(have FX:O (T H)<=z:=al);(have FU:z<O (T u3):=by rw[<- ab, <- X];exact r6);rw[ab,X] at Bm;clear cN r6;have cN:=FX;have r6:=FU;clear FX FU;rw[X] at AB;rw[X] at f m;simp only[Fu] at u⊢;simp only[ab];clear X Fu ab;refine aF [8] (cA ?_ aG);intro Bh K;go_simp;refine(yR.o x1 y1 u3 m.o AB.o).ae ?_;rintro e u2 ⟨⟨x2,y2,rfl,ad,iU⟩,ai⟩;have ry:wT (∀R,R<O (T H) ->iA R OT (x2,y2)):=fun R hR=>iU R (aT hR f.o.size);have yS:wT (iA z OT (x2,y2)):=iU _ r6;replace Bm:=Fa (Bm.o.aa ai Bm.o.lt);replace m:=Fa (m.o.trans (ai.ae m.o.size));replace f:=Fa (f.o.trans (ai.ae f.o.size));have qI:=Fa ad;obtain⟨xs,o,n,rfl⟩:=ad.slices.1;obtain⟨s,r,q,rfl⟩:=ad.slices.2;refine K.o _ _ (uI.o u2 f.o) (fun ak=>?_);clear ai ad iU K Bh u
     have u:=ak;clear ak;refine ar 9 (zp #[zd #[Z xs o n,Z s r q],J I 0]) ?_;refine ar 10 (zd #[Z xs o n,Z s r q]) ?_;refine ar 11 (J I 0) ?_;(try simp only[gE,aP]);obtain⟨b0,b1,D8,D7⟩:=Bm.o.facts;refine aF [13] (cA ?_ aG);intro Bh K;go_simp;have yN:=Fa (Bm.o.put (Z xs o n) (Z s r q));have Vv:=Fa (uF m.o (aM al cN) (Z xs o n) (Z s r q));have Gt:=Fa (uF f.o cN (Z xs o n) (Z s r q));have Ej:=Fa ((qI.o.off (g:=z) (j:=0) (Z xs o n) yS.o).off (g:=z) (j:=1) (Z s r q) yS.o);clear u;refine K.o _ _ (uI.o _ Gt.o) (fun u=>?_);clear K Bh b0 b1 D8 D7 Bm m f qI yS;refine ar 14 (J I 0) ?_;(try simp only[gE,aP]);refine eO ao ?_ _;clear u;obtain⟨u4,yg⟩:∃u4,((u2.setCell ⟨z,0,N⟩ (Z xs o n)).setCell ⟨z,1,N⟩ (Z s r q))=u4:=⟨_,rfl⟩
   rotate_left 2
   focus
    intro Bh K;go_simp;have nj:=(au _ H).alloc (ah _) (TC (Z N 0 0) (Z N 0 0));replace m:=Fa (m.o.trans (nj.ae m.o.size));have cN:O (T H)<=O (T H):=f.o.size;replace f:=Fa (f.o.trans (nj.ae f.o.size));have Bm:=Fa (aZ.at (w:=H) rfl (Z N 0 0) (Z N 0 0));(have r6:O (T H)<O (T (H.alloc (TC (Z N 0 0) (Z N 0 0)))):=aE);replace av:=Fa (av.o.aa nj);clear u;refine K.o _ _ (uI.o _ f.o) (fun u=>?_);clear K Bh nj;obtain⟨z,ab⟩:∃z,O (T H)=z:=⟨_,rfl⟩;obtain⟨u3,X⟩:∃u3,H.alloc (TC (Z N 0 0) (Z N 0 0))=u3:=⟨_,rfl⟩;have Fu:H.alloc (yM #[Z N 0 0,Z N 0 0] 38)=u3:=X;(have FX:O (T H)<=z:=al);(have FU:z<O (T u3):=by rw[<- ab, <- X];exact r6);rw[ab,X] at Bm;clear cN r6;have cN:=FX;have r6:=FU;clear FX FU;rw[X] at av;rw[X] at f m;simp only[Fu] at u⊢;simp only[ab];clear X Fu ab;refine aF [5] (cA ?_ aG);intro Bh K;go_simp;refine(Et.o za zc u3 m.o av.o).ae ?_;rintro e u1 ⟨x1,y1,rfl,po,aj⟩;replace m:=Fa (m.o.trans (aj.ae m.o.size));replace f:=Fa (f.o.trans (aj.ae f.o.size));replace Bm:=Fa (Bm.o.aa aj Bm.o.lt);have AB:=Fa po;clear u;refine K.o _ _ (uI.o u1 f.o) (fun u=>?_);clear K Bh aj po;have bP:z<O (T u1):=Bm.o.lt;refine aF [8] (cA ?_ aG);intro Bh K;go_simp;refine(yR.o x1 y1 u1 m.o AB.o).ae ?_;rintro e u2 ⟨⟨x2,y2,rfl,ad,iU⟩,ai⟩
    have ry:wT (∀R,R<O (T H) ->iA R OT (x2,y2)):=fun R hR=>iU R (aT hR f.o.size);have yS:wT (iA z OT (x2,y2)):=iU _ bP;replace Bm:=Fa (Bm.o.aa ai Bm.o.lt);replace m:=Fa (m.o.trans (ai.ae m.o.size));replace f:=Fa (f.o.trans (ai.ae f.o.size));have qI:=Fa ad;obtain⟨xs,o,n,rfl⟩:=ad.slices.1;obtain⟨s,r,q,rfl⟩:=ad.slices.2;clear u;refine K.o _ _ (uI.o u2 f.o) (fun u=>?_);clear K Bh ai ad iU;refine ar 9 (zp #[zd #[Z xs o n,Z s r q],J I 0]) ?_;refine ar 10 (zd #[Z xs o n,Z s r q]) ?_;refine ar 11 (J I 0) ?_;(try simp only[gE,aP]);obtain⟨b0,b1,D8,D7⟩:=Bm.o.facts;refine aF [13] (cA ?_ aG);intro Bh K;go_simp;have yN:=Fa (Bm.o.put (Z xs o n) (Z s r q));have Vv:=Fa (uF m.o (aM al cN) (Z xs o n) (Z s r q));have Gt:=Fa (uF f.o cN (Z xs o n) (Z s r q));have Ej:=Fa ((qI.o.off (g:=z) (j:=0) (Z xs o n) yS.o).off (g:=z) (j:=1) (Z s r q) yS.o);clear u;refine K.o _ _ (uI.o _ Gt.o) (fun u=>?_);clear K Bh b0 b1 D8 D7 Bm m f qI yS;refine ar 14 (J I 0) ?_;(try simp only[gE,aP]);refine eO ao ?_ _;clear u;obtain⟨u4,yg⟩:∃u4,((u2.setCell ⟨z,0,N⟩ (Z xs o n)).setCell ⟨z,1,N⟩ (Z s r q))=u4:=⟨_,rfl⟩
   all_goals
    rw[yg] at yN Vv Gt Ej⊢;clear yg;have a6:=Fa (a1.o.under Gt.o);have F7:=(au (O (T u4)) u4).alloc (ah _) (TC (Z xs o n) (Z s r q));have lL:=Fa (a6.o.under F7);have UI:=Fa (Ej.o.aa F7);have Zk:=aZ.at (w:=u4) rfl (Z xs o n) (Z s r q);have br:=Fa Zk.c0;have bp:=Fa Zk.c1;have En:wT (O (T W4)<=O (T (u4.alloc (TC (Z xs o n) (Z s r q))))):=lL.o.fr.size;have b7:=a6.o.box.cells.2.2;have g0:=yN.o.c0;have b4:=yN.o.c1;have bf:wT (∀R,tv.ownBlock=M R ->iA R OT ((Z xs o n),(Z s r q))):=fun R hR=>ry.o R (a1.o.own.lt R hR).2;clear F7 Zk yN Gt Ej
    have HKEY:wT (∀(B9:wF) (F:E),F.ownsRow (O (T W4)) 38 2 B9 (C (Ba (C P))+1) (fV Q++[(Z xs o n),(Z s r q)]) ->(u4.alloc (TC (Z xs o n) (Z s r q))).grownBy F tv.ownBlock ->(B9.ownBlock=tv.ownBlock∨∀k,B9.ownBlock=M k ->O (T (u4.alloc (TC (Z xs o n) (Z s r q))))<=k) ->(∃a' c',B9=Value.slice a' (C OP) c')/\vK (O (T w)) W4 (O (T Bj)) (Z a (C S) ca) (Z d (C L) Bb) B9 (Q++[((Z xs o n),(Z s r q))]) OP (F.setCell ⟨O (T Bj),2,N⟩ B9)/\F.cell? ⟨O (T Bj),2,N⟩=M tv/\F.frozen? ⟨O (T Bj),2,N⟩=xd):=fun B9 F V ia ji=>by
     have hM:=lL.o.push al bb UI.o bf.o (fun R _ hR=>ry.o R al) V ia ji;rw[<- Js.o] at hM;have yF:cI F (O (T Bj)) (Z a (C S) ca) (Z d (C L) Bb) tv:=(ia.block _ lL.o.box.lt (fun e=>by have:=(lL.o.own.lt _ e.symm).1;omega)).trans lL.o.box;exact⟨by rw[<- b5];exact xW V,hM,yF.cells.2.2,yF.fz 2⟩
    go_upto_region 12 with (at_builtin;refine Rg rfl _ _ rfl (O (T W4)) tv (C (Ba (C P))) (fV Q) (Z xs o n) (Z s r q) rfl lL.o.own.own (O (T u4)) rfl br.o bp.o (slv _ _ _) (slv _ _ _) al En.o ?_;intro B9 F V ia ji;obtain⟨⟨A4,A3,rfl⟩,Ag,bC,bx⟩:=HKEY.o B9 F V ia ji;have rA:=Fa Ag;clear Ag V ia ji)
    obtain⟨VV,bs⟩:∃VV,F.setCell ⟨O (T Bj),2,N⟩ (Z A4 (C OP) A3)=VV:=⟨_,rfl⟩;rw[bs] at rA⊢;clear bs bC bx b7 g0 b4 HKEY bf En br bp UI lL a6 ry AB Vv;have Dy:=rA.o.fr.size;have yX:wT (da w VV):=Pj fA.o rA.o.fr al al;have Ep:wT (cI VV (O (T w)+1) (Z N 0 0) (Z N 0 0) (Z N 0 0)):=(rA.o.fr.block _ jU.o.lt (fun e=>by have:=jO e;omega)).trans jU.o;have Pb:aB VV d L:=NY JA.o bO.o rA.o.fr;obtain⟨x0,cn,cp⟩:=rA.o.box.cells;obtain⟨r0,r1,r2⟩:=Ep.o.cells;have RN:=Ep.o.fz 0;have RM:=Ep.o.fz 1;have RL:=Ep.o.fz 2;have Es:=Fa (Ep.o.put (Z a (C S) ca) (Z d (C L) Bb) (Z A4 (C OP) A3));have vT:=Fa (eT yX.o (show O (T w)<=O (T w)+1 by omega) (Z a (C S) ca) (Z d (C L) Bb) (Z A4 (C OP) A3))
    have iR:Value.ownBlock (Z A4 (C OP) A3)≠M (O (T w)+1):=fun e=>by
     have:=(rA.o.own.lt _ e).1;omega
    have F4:=((rA.o.own.off (g:=O (T w)+1) (j:=0) (Z a (C S) ca) (rA.o.far _ al al) iR).off (g:=O (T w)+1) (j:=1) (Z d (C L) Bb) (rA.o.far _ al al) iR).off (g:=O (T w)+1) (j:=2) (Z A4 (C OP) A3) (rA.o.far _ al al) iR;obtain⟨cl,cm,e2,Fv⟩:=F4.row;injection e2 with e3 e4 e5;subst e3 e5;clear e4;have tF:=Fa Fv;have Ct:=Fa (((Pb.off (g:=O (T w)+1) (j:=0) (y:=Z a (C S) ca) sK.o).off (g:=O (T w)+1) (j:=1) (y:=Z d (C L) Bb) sK.o).off (g:=O (T w)+1) (j:=2) (y:=Z A4 (C OP) A3) sK.o);have dR:=Fa ((Xn rA.o.own.own).up (show O (T w)<=O (T W4) by omega));clear F4 Fv Pb iR;go_wp2;refine dI (Es.o.result1 rfl _ rfl) rfl ?_;exact⟨d,Bb,A4,A3,rfl,Ct.o,tF.o,dR.o,vT.o⟩
variable {l:Kx} {g j:Nat} {a:Kd} {y z:wF}
theorem adM {V:E} {o:Nat} {x u:wF} (b:cI V g x y z) (h:bV x) (a:bV y) (d:bV z) (c:V.cell? ⟨g,o,N⟩=M u):bV u:=by
 rw[ba V g o _ _ (0,0) b] at c;match o,c with
 |0,c=>cases c;exact h
 |1,c=>cases c;exact a
 |2,c=>cases c;exact d
 |o+3,c=>simp at c
theorem afu {V:E} {b:Kd} {x:wF} (h:aB V b l) (f:cI V g x y z) (j:bV x) (k:bV y) (m:bV z):∀g' o',b=M ⟨g',o',N⟩ ->l≠[] ->g'≠g:=fun g' o' e n c=>by
 obtain⟨o,p,a,_,i⟩:=h 0 (by cases hl:l with |nil=>exact absurd hl n |cons x l=>simp);rw[e] at a;cases a;subst c;obtain⟨_,_,_,d⟩:=adM f j k m i;cases d
theorem arn {V:E} {b:Kd} {l:List Fr} {x:wF} (h:dH V b l) (f:cI V g x y z) (j:bV x) (k:bV y) (m:bV z):∀g' o',b=M ⟨g',o',N⟩ ->l≠[] ->g'≠g:=fun g' o' e n c=>by
 obtain⟨o,p,a,_,i,_⟩:=h 0 (by cases hl:l with |nil=>exact absurd hl n |cons x l=>simp);rw[e] at a;cases a;subst c;obtain⟨_,_,_,d⟩:=adM f j k m i;cases d
theorem Ww {V:E} {t:Tb} {p q:wF} {x:wF} (h:bJ V p q t) (d:cI V g x y z) (f:bV x) (i:bV y) (j:bV z):iA g t (p,q):=by
 obtain⟨b,c,cb,cc,rfl,rfl,l,m,o⟩:=h;exact⟨fun g' o' n k e a=>by injection e with e1 _ _;exact afu l d f i j g' o' e1 a,fun g' o' n k e a=>by injection e with e1 _ _;exact arn m d f i j g' o' e1 a⟩
theorem jn.offP {V:E} {P:List Tb} (u:wF) (h:jn V a P) (n:∀g' o',a=M ⟨g',o',N⟩ ->g'≠g) (t:∀k (b:k<C P) p q,bJ V p q P[k] ->iA g P[k] (p,q)):jn (V.setCell ⟨g,j,N⟩ u) a P:=fun k b=>by
 obtain⟨g',o,p,q,e,l,f,i,c⟩:=h k b;have d:(V.setCell ⟨g,j,N⟩ u).heap[g']? =V.heap[g']?:=eW V ⟨g,j,N⟩ u g' (n g' o e);exact⟨g',o,p,q,e,aT l (jJ V _ _).size,(iM (a:=⟨g',_,N⟩) d).trans f,(iM (a:=⟨g',_,N⟩) d).trans i,c.off u (t k b p q c)⟩
theorem jn.putP {V:E} {P:List Tb} {x:wF} (h:jn V a P) (b:cI V g x y z) (i:bV x) (e:bV y) (c:bV z) (n:∀g' o',a=M ⟨g',o',N⟩ ->g'≠g) {u v:wF} (d:bV u) (f:bV v) (s:wF):jn (((V.setCell ⟨g,0,N⟩ u).setCell ⟨g,1,N⟩ v).setCell ⟨g,2,N⟩ s) a P:=
 ((h.offP u n fun _ _ _ _ t=>Ww t b i e c).offP v n fun _ _ _ _ t=>Ww t (b.set0 u) d e c).offP s n fun _ _ _ _ t=>Ww t ((b.set0 u).set1 v) d f c
theorem aB.putP {V:E} {x:wF} (h:aB V a l) (b:cI V g x y z) (c:bV x) (d:bV y) (e:bV z) (u v s:wF):aB (((V.setCell ⟨g,0,N⟩ u).setCell ⟨g,1,N⟩ v).setCell ⟨g,2,N⟩ s) a l:=by
 have n:=afu h b c d e;exact((h.off n).off n).off n
theorem amM (a b t q:Kd) (ca cb l cq:Nat) (S:Ja) (f Fd:Kx) (P:List Tb) (D:Nat) (c:Nat ->Nat) (j:Nat ->List Tb) (F:Nat ->Kx) (w:E) (aR:fK (iL S)) (hs:aB w a (iL S)) (hb:aB w b f) (hP:jn w t P) (hq:aB w q Fd) (fj:C Fd<=1000)
  (h0:j 0=P/\F 0=f) (hk:∀i (h:i<C f),Fd.contains f[i]=y6 ->j (i+1)=j i/\F (i+1)=F i)
  (ho:∀i (h:i<C f),Fd.contains f[i]=xd ->∃v:Nat,f[i]=(v:Int)/\j (i+1)=rP S v xd (j i)/\F (i+1)=cH (F i) v/\v<C S/\∃t∈j i,v∈af t.1)
  (kT:∀i,i<=C f ->i6 S (C S) (j i) D (c i)/\(j i).length<=999/\(F i).length<=1000/\2*(B D).size+(B (c i)).size+2<=8192):
  c6 152 #[zd #[Z a (C S) ca,Z b (C f) cb,Z t (C P) l],Z q (C Fd) cq,zZ xd] w fun e w'=>∃x y,e=yW (zd #[x,y])/\bJ w' x y (allT S (j (C f)))/\da w w':=by
 have Et:wT (∀(k:Kd) (B9:Nat) (U:E),da w U ->jn U k (j (C f)) ->c6 208 #[Z a (C S) ca,Z k (C (j (C f))) B9] U fun e w'=>∃x y,e=yW (zd #[x,y])/\bJ w' x y (allT S (j (C f)))/\da U w'):=fun k B9 U K h=>by
  obtain⟨z,h2,_,h4⟩:=kT (C f) (ah _);exact adB a k ca B9 S _ D _ U aR (hs.aa K) h z al h4
 have uM:wT (∀(x:Int) (U:E),da w U ->c6 98 #[Z q (C Fd) cq,J I x] U fun e w'=>e=yW (zZ (Fd.contains x))/\da U w'):=fun x U K=>Nj q cq Fd x U (hq.aa K) al
 have Jr:wT (∀(i:Nat) (h:i<C f),Fd.contains f[i]=xd ->∀(m k:Kd) (Bb B9:Nat) (U:E),da w U ->aB U m (F i) ->jn U k (j i) ->c6 207 #[zd #[Z a (C S) ca,Z m (C (F i)) Bb,Z k (C (j i)) B9],J I f[i],zZ xd] U fun e w'=>∃d r k B9,e=yW (zd #[Z a (C S) ca,Z d (C (F (i+1))) r,Z k (C (j (i+1))) B9])/\aB w' d (F (i+1))/\jn w' k (j (i+1))/\i7 (O (T U)) k B9/\da U w'):=fun i h hc m k Bb B9 U K z h2=>by
  obtain⟨v,B7,e2,e3,e4,e5⟩:=ho i h hc;obtain⟨g1,g2,g3,g4⟩:=kT i al;rw[B7,e2,e3];exact amK a m k ca Bb B9 S (F i) (j i) D (c i) v U aR (hs.aa K) z h2 g1 g2 g3 g4 e4 e5
 have HK:=Fa hk;have mh:C f<=1000:=by have:=(kT 0 (aV _)).2.2.1;rwa [h0.2] at this
 have Va:=Fa hb;obtain⟨e0,X⟩:=h0;have H0:wT (cI ((w.alloc (yM #[Z a (C S) ca,Z b (C f) cb,Z t (C P) l] 177)).alloc (TC (Z N 0 0) (Z N 0 0))) (O (T w)) (Z a (C S) ca) (Z b (C (F 0)) cb) (Z t (C (j 0)) l)):=by rw[e0,X];exact(cI.at (w:=w) rfl _ _ _).alloc _
 have hA:da w ((w.alloc (yM #[Z a (C S) ca,Z b (C f) cb,Z t (C P) l] 177)).alloc (TC (Z N 0 0) (Z N 0 0))):=by
  have z:=(au (O (T w)) w).alloc (ah _) (yM #[Z a (C S) ca,Z b (C f) cb,Z t (C P) l] 177);exact z.alloc z.size _
 have JB:wT (aB ((w.alloc (yM #[Z a (C S) ca,Z b (C f) cb,Z t (C P) l] 177)).alloc (TC (Z N 0 0) (Z N 0 0))) b (F 0)):=by rw[X];exact hb.aa hA
 have xE:wT (jn ((w.alloc (yM #[Z a (C S) ca,Z b (C f) cb,Z t (C P) l] 177)).alloc (TC (Z N 0 0) (Z N 0 0))) t (j 0)):=by rw[e0];exact hP.aa hA
 have nM:wT (aZ ((w.alloc (yM #[Z a (C S) ca,Z b (C f) cb,Z t (C P) l] 177)).alloc (TC (Z N 0 0) (Z N 0 0))) (O (T w)+1) (Z N 0 0) (Z N 0 0)):=aZ.at (w:=w.alloc (yM #[Z a (C S) ca,Z b (C f) cb,Z t (C P) l] 177)) aE _ _;have HA:=Fa hA;have aj:=H0.o.cells.2.1;rw[X] at aj;clear hs hb hP hq hk ho kT aR hA e0 X;go_enter func152,ntmps152;go_wp2_with fail
 generalize ((w.alloc (yM #[Z a (C S) ca,Z b (C f) cb,Z t (C P) l] 177)).alloc (TC (Z N 0 0) (Z N 0 0)))=W0 at *;clear aj;go_loopw [12] (fun iv wr=>∃(i:Nat) (m k:Kd) (Bb B9:Nat),i<=C f/\iv=J I i/\wT (cI wr (O (T w)) (Z a (C S) ca) (Z m (C (F i)) Bb) (Z k (C (j i)) B9))/\wT (aB wr m (F i))/\wT (jn wr k (j i))/\wT (aZ wr (O (T w)+1) (Z N 0 0) (Z N 0 0))/\wT (da w wr)) (fun iv _=>C f - (intOf iv).toNat)
 case atStart=>exact⟨0,_,_,_,_,aV _,rfl,H0,JB,xE,nM,HA⟩
 case round=>
  obtain⟨i,m,k,Bb,B9,hi,rfl,u,HI,HT,R,H⟩:=hrel;clear H0 JB xE nM HA;obtain⟨L,Q,Ba⟩:=u.o.cells;have R7:=u.o.fz 0;have R1:=u.o.fz 1;have RZ:=u.o.fz 2;by_cases ad:i<C f
  ·obtain⟨g,an,rfl,hg,k0⟩:=Va.o i ad;replace k0:=(H.o.cell (p:=⟨g,_,N⟩) hg).trans k0;have HC:=Fa (uM.o f[i]);have ai:=Fa (HK.o i ad);have UT:=Fa (Jr.o i ad);generalize f[i]=x at *;generalize vt:Fd.contains x=cx at *;clear vt;go_wp2_with fail
   refine(HC.o wr H.o).ae ?_;rintro e w2 ⟨rfl,A⟩;have Y:=Fa (H.o.trans (A.ae H.o.size));have Bh:=Fa (u.o.aa A u.o.lt);have AO:=Fa (HI.o.aa A);have Cf:=Fa (HT.o.aa A);have gQ:=Fa (R.o.aa A R.o.lt);clear A u HI HT R H L Q Ba R7 R1 RZ;obtain⟨L,Q,Ba⟩:=Bh.o.cells;have ao:=Bh.o.lt;cases cx with
   |true=>
    obtain⟨B7,e2⟩:=ai.o rfl;rw[<- B7] at Cf Bh;rw[<- e2] at AO Bh;clear B7 e2;have HX:=Fa (And.intro Bh.o (And.intro AO.o Cf.o));go_wp2;go_roundw
    case rel=>exact⟨i+1,_,_,_,_,al,bd,HX.o.1,HX.o.2.1,HX.o.2.2,gQ,Y⟩
    case measure=>simp[intOf];omega
   |false=>
    have Qo:=Fa (UT.o rfl m k Bb B9 w2 Y.o AO.o Cf.o);clear UT ai;go_wp2_with fail
    refine Qo.o.ae ?_;rintro e w3 ⟨d,r,V,Bm,rfl,zU,yh,vo,o⟩;have n:=Bh.o.aa o Bh.o.lt;have s:=gQ.o.aa o gQ.o.lt;have Bj:=Y.o.trans (o.ae Y.o.size);clear L Q Ba;obtain⟨L,Q,Ba⟩:=n.cells;have R7:=n.fz 0;have R1:=n.fz 1;have RZ:=n.fz 2;have Mk:=Fa (n.put (Z a (C S) ca) (Z d (C (F (i+1))) r) (Z V (C (j (i+1))) Bm));have Jz:=Fa (zU.putP n (slv _ _ _) (slv _ _ _) (slv _ _ _) (Z a (C S) ca) (Z d (C (F (i+1))) r) (Z V (C (j (i+1))) Bm));have Gu:=Fa (yh.putP n (slv _ _ _) (slv _ _ _) (slv _ _ _) (fun g' o' e=>by have:=vo.2 g' o' e;omega) (slv a (C S) ca) (slv d (C (F (i+1))) r) (Z V (C (j (i+1))) Bm));have xF:=Fa (((s.off (O (T w)) 0 (Z a (C S) ca) al).off (O (T w)) 1 (Z d (C (F (i+1))) r) al).off (O (T w)) 2 (Z V (C (j (i+1))) Bm) al);have fp:=Fa (eT Bj (ah _) (Z a (C S) ca) (Z d (C (F (i+1))) r) (Z V (C (j (i+1))) Bm));clear zU yh vo o n s Bj;go_wp2;go_roundw
    case rel=>exact⟨i+1,_,_,_,_,al,bd,Mk,Jz,Gu,xF,fp⟩
    case measure=>simp[intOf];omega
  ·obtain rfl:i=C f:=al
   have ak:=Fa (Et.o k B9 wr H.o HT.o);go_wp2_with fail
   refine ak.o.ae ?_;rintro e w3 ⟨x,y,rfl,ab,o⟩;obtain⟨xs,xn,xc,rfl⟩:=ab.slices.1;obtain⟨ys,yn,yc,rfl⟩:=ab.slices.2;have s:=R.o.aa o R.o.lt;have Bj:=H.o.trans (o.ae H.o.size);obtain⟨t0,t1,f0,f1⟩:=s.facts;have Ev:=Fa (s.put (Z xs xn xc) (Z ys yn yc));have Ej:=Fa (ab.putT s (slv _ _ _) (slv _ _ _) (slv xs xn xc) (Z ys yn yc));have fA:=Fa (uF (g:=O (T w)+1) Bj al (Z xs xn xc) (Z ys yn yc));clear ab o s Bj L Q Ba R7 R1 RZ;go_wp2;refine dI (Ev.o.result1 rfl _ rfl) rfl ?_;exact⟨_,_,rfl,Ej.o,fA.o⟩
variable {S vs:Ja} {n v:Nat}
def jZ (S:Ja):Ja ->Nat
 |[]=>1
 |v::vs=>sz S v*jZ S vs
theorem acm (h:Pos S):∀l,1<=jZ S l
 |[]=>ah _
 |v::l=>MI (lp h v) (acm h l)
theorem ack (h:Pos S):∀(l:Ja) (k:Nat),jZ S (l.take k)<=jZ S l
 |[],k=>by rw[List.take_nil];exact ah _
 |v::l,0=>acm h _
 |v::l,k+1=>mK _ (ack h l k)
theorem i6.outs (p:Pos S) (e:Nat ->Bool):∀(vs:Ja) {P:List Tb} {D c:Nat},i6 S n P D c ->∃d,i6 S n (nY S xd e vs P) D d/\d<=jZ S vs*c
 |[],P,D,c,h=>⟨c,h,by rw[jZ,k8];exact ah _⟩
 |v::vs,P,D,c,h=>by
  have f:=lp p v;have g:jZ S vs*c<=jZ S (v::vs)*c:=lR _ (EN _ f);rw[nY];cases hk:e v with
  |true=>
   obtain⟨d,a,b⟩:=i6.outs p e vs h;exact⟨d,by rw[aw rfl];exact a,aM b g⟩
  |false=>
   obtain⟨d,a,b⟩:=i6.outs p e vs (h.o p v);refine⟨d,by rw[aC a6];exact a,aM b (Nat.le_of_eq ?_)⟩;show jZ S vs*(sz S v*c)=sz S v*jZ S vs*c;rw[<- jr,eQ (jZ S vs)]
theorem Xo (S:Ja) (m:Bool) (e:Nat ->Bool) (v:Nat):∀(vs:Ja) (P:List Tb),nY S m e (vs++[v]) P=if e v then nY S m e vs P else rP S v m (nY S m e vs P)
 |[],P=>rfl
 |u::vs,P=>by rw[gF,nY,nY,Xo S m e v vs]
theorem ad5 (S:Ja) (m:Bool) (e:Nat ->Bool):∀(vs:Ja) (P:List Tb),C (nY S m e vs P)<=C P+C vs
 |[],P=>ah _
 |v::vs,P=>by
  rw[nY];refine aM (ad5 S m e vs _) ?_
  have:C (rP S v m P)<=C P+1:=by
   rw[rP,cE];exact Nat.add_le_add_right (oT ..) 1
  split
  ·simp only[eA];omega
  ·simp only[eA];omega
def Al (keep:Int ->Bool):Kx ->Kx ->Kx
 |[],f=>f
 |x::l,f=>Al keep l (if keep x then f else cH f x)
theorem Z6 (e:Int ->Bool) (x:Int):∀(l f:Kx),Al e (l++[x]) f=if e x then Al e l f else cH (Al e l f) x
 |[],f=>rfl
 |y::l,f=>by rw[gF,Al,Al,Z6 e x l]
theorem agW (e:Int ->Bool):∀(l f:Kx),C (Al e l f)<=C f
 |[],f=>ah _
 |x::l,f=>by
  rw[Al];refine aM (agW e l _) ?_;split
  ·exact ah _
  ·exact oT ..
theorem PI.gone (p:Pos S) (k:Nat ->Bool) {f:Ja} {P:List Tb} {F:(Nat ->Nat) ->Rat} (h:PI S n f P F) (c:v∈f) (D:¬v∈vs):∃t∈nY S xd k vs P,v∈af t.1:=by
 obtain⟨r,a,b⟩:=PI.outs p k vs h;exact b.sup v ((a v).2 ⟨c,fun e=>absurd e D⟩)
theorem amL (a b t q:Kd) (ca cb r p:Nat) (S:Ja) (f:Ja) (Fd:Kx) (P:List Tb) (F:(Nat ->Nat) ->Rat) (D c:Nat) (w:E) (R:fK (iL S)) (hs:aB w a (iL S)) (K:aB w b (iL f)) (Bj:jn w t P) (L:aB w q Fd) (A:C Fd<=1000)
  (Bh:f.Nodup) (Ba:∀v∈f,v<C S) (Bb:PI S (C S) f P F) (u:i6 S (C S) P D c) (X:C P+C f<=999) (V:2*(B D).size+(B (jZ S f*c)).size+2<=8192):
  c6 152 #[zd #[Z a (C S) ca,Z b (C f) cb,Z t (C P) r],Z q (C Fd) p,zZ xd] w fun e w'=>∃x y,e=yW (zd #[x,y])/\bJ w' x y (allT S (nY S xd (fun v=>Fd.contains (v:Int)) f P))/\da w w':=by
 have H:Pos S:=by have:=R.pos;rwa [jP] at this
 have B9:∀i,∃d,i6 S (C S) (nY S xd (fun v=>Fd.contains (v:Int)) (f.take i) P) D d/\d<=jZ S f*c:=fun i=>by
  obtain⟨d,l,n⟩:=i6.outs H (fun v=>Fd.contains (v:Int)) (f.take i) u;exact⟨d,l,aM n (lR _ (ack H _ _))⟩
 obtain⟨cc,Q⟩:=Classical.axiomOfChoice B9;have o:C (iL f)=C f:=bR f;have s:∀i (h:i<C (iL f)) (g:i<C f),(iL f)[i]=(f[i]:Int):=fun i h g=>by simp[iL]
 have m:∀i (g:i<C f),f.take (i+1)=f.take i++[f[i]]:=fun i g=>gR g
 have:=amM a b t q ca cb r p S (iL f) Fd P D cc (fun i=>nY S xd (fun v=>Fd.contains (v:Int)) (f.take i) P) (fun i=>Al (fun x=>Fd.contains x) (iL (f.take i)) (iL f)) w R hs K Bj L A ⟨rfl,rfl⟩
  (fun i h k=>by
   (have g:i<C f:=by rw[<- o];exact h);rw[s i h g] at k;refine⟨?_,?_⟩
   ·show nY _ _ _ (f.take (i+1)) _=_;rw[m i g,Xo,aw k]
   ·show Al _ (iL (f.take (i+1))) _=_;rw[m i g,iL,gV,gw,oQ,Z6,aw k];rfl)
  (fun i h k=>by
   (have g:i<C f:=by rw[<- o];exact h);rw[s i h g] at k⊢;refine⟨f[i],rfl,?_,?_,Ba _ (bU g),PI.gone H _ Bb (bU g) ?_⟩
   ·show nY _ _ _ (f.take (i+1)) _=_;rw[m i g,Xo,aC (by rw[k];decide)]
   ·show Al _ (iL (f.take (i+1))) _=_;rw[m i g,iL,gV,gw,oQ,Z6,aC (by rw[k];decide)];rfl
   ·intro z;have j:(f.take (i+1)).Nodup:=Bh.sublist (List.take_sublist ..);rw[m i g,nT] at j;exact j.2.2 _ z _ (bA.2 rfl) rfl)
  (fun i _=>by
   obtain⟨l,n⟩:=Q i;have j:=ad5 S xd (fun v=>Fd.contains (v:Int)) (f.take i) P;rw[fh] at j;have Bm:=agW (fun x=>Fd.contains x) (iL (f.take i)) (iL f);rw[bR] at Bm;have U:=ku n;exact⟨l,by show List.length _<=_;omega,by show List.length _<=_;omega,al⟩)
 rw[o] at this;simp only[iD] at this;exact this
variable {F:List (Int×Int)} {V:List Vr} {i:Nat}
def pI (S:Ja) (n:Nat) (F:List (Int×Int)) (i:Nat):Int:=
 if ¬(0<=(F.getD i (0,0)).1/\(F.getD i (0,0)).1<(n:Int)) then 11 else if ¬(0<=(F.getD i (0,0)).2/\(F.getD i (0,0)).2<(sz S (F.getD i (0,0)).1.toNat:Int)) then 12 else if ((F.take i).any fun p=>p.1==(F.getD i (0,0)).1)=y6 then 7 else 0
def mo (V:List Vr) (L:List Kx) (R:List (List Fr)) (F:List (Int×Int)):Int:=if aS V L R=0 then j9 (pI (ag V) (C V) F) (C F) else aS V L R
theorem TP (h:i<C F):F.getD i (0,0)=F[i]:=by rw[cF,a7 h];rfl
theorem ahr (a:i<C F) (h:¬(0<=F[i].1/\F[i].1<(n:Int))):pI S n F i=11:=by rw[pI,TP a,aw h]
theorem ahs (b:i<C F) (h:0<=F[i].1/\F[i].1<(n:Int)) (a:¬(0<=F[i].2/\F[i].2<(sz S F[i].1.toNat:Int))):pI S n F i=12:=by rw[pI,TP b,aC (fun e=>e h),aw a]
theorem aht (c:i<C F) (h:0<=F[i].1/\F[i].1<(n:Int)) (a:0<=F[i].2/\F[i].2<(sz S F[i].1.toNat:Int)) (b:((F.take i).any fun p=>p.1==F[i].1)=y6):pI S n F i=7:=by rw[pI,TP c,aC (fun e=>e h),aC (fun e=>e a),aw b]
theorem ahu (c:i<C F) (h:0<=F[i].1/\F[i].1<(n:Int)) (a:0<=F[i].2/\F[i].2<(sz S F[i].1.toNat:Int)) (b:((F.take i).any fun p=>p.1==F[i].1)=xd):pI S n F i=0:=by rw[pI,TP c,aC (fun e=>e h),aC (fun e=>e a),aC (by rw[b];decide)]
theorem H4 (h:v<C V):sz (ag V) v=V[v].2.length:=by rw[sz,Nk h];rfl
theorem Yd (a b c d:Kd) (ca cb cc n:Nat) (V:List Vr) (L:List Kx) (R:List (List Fr)) (F:List (Int×Int)) (w:E) (h:jo w a b c V L R) (hs:tD V L R) (X:kn w d F) (hn:C F<=1000) (DD:C F<=n):
  c6 36 #[zd #[Z a (C V) ca,Z b (C L) cb,Z c (C R) cc],Z d (C F) n] w (dj w (J I (mo V L R F))):=by
 have A:=(au (O (T w)) w).alloc (ah _) (NC (Z a (C V) ca) (Z b (C L) cb) (Z c (C R) cc));have kL:=Fa (cj.at (w:=w) rfl (Z a (C V) ca) (Z b (C L) cb) (Z c (C R) cc));have jG:=Fa (ah7 a b c ca cb cc V L R _ (h.aa A) hs);have K:=Fa A;have xD:=Fa h.Fd;have HF:=Fa X;have O2:C V<=5000:=hs.Fd.1;have Ei:wT (∀v (l:v<C V),V[v].2.length<=5000):=fun v l=>hs.Fd.2 _ (bU l) |>.2.1;obtain⟨u,y⟩:∃u,mo V L R F=u:=⟨_,rfl⟩;have Mu:wT (aS V L R≠0 ->aS V L R=u):=fun e=>by rw[<- y,mo,aC e]
 have Cx:wT (aS V L R=0 ->∀i,i<C F ->(∀j,j< i ->pI (ag V) (C V) F j=0) ->∀k,pI (ag V) (C V) F i=k ->k≠0 ->k=u):=fun e i hi hz k hk aY=>by rw[<- y,mo,aw e,Pq hz (by rw[hk];exact aY) hi,hk]
 have ai:wT (aS V L R=0 ->(∀j,j<C F ->pI (ag V) (C V) F j=0) ->0=u):=fun e hz=>by rw[<- y,mo,aw e,BX hz]
 have U9:=Fa (fun (i:Nat) (v:Int) (U:E) (Y:da w U)=>Ye d n (F.take i) v U ((X.aa Y).take i) (by rw[fh];omega));rw[y];clear h hs X A y;go_enter func36,ntmps36;go_wp2_with fail
 refine jG.o.ae ?_;rintro e w1 ⟨rfl,ab⟩;have B9:=Fa (K.o.trans (ab.ae K.o.size));have Mo:=Fa (kL.o.aa ab kL.o.lt);clear ab jG kL K;by_cases q:aS V L R=0
 ·rw[q];have AH:=Fa q;clear q;go_wp2_with fail
  go_loopw [15] (fun iv wr=>∃i:Nat,i<=C F/\iv=J I i/\wT (∀j,j< i ->pI (ag V) (C V) F j=0)/\wT (cj wr (O (T w)) (Z a (C V) ca) (Z b (C L) cb) (Z c (C R) cc))/\wT (da w wr)) (fun iv _=>C F - (intOf iv).toNat)
  case atStart=>exact⟨0,aV _,rfl,(fun j hj=>absurd hj al),Mo,B9⟩
  case round=>
   obtain⟨i,hi,rfl,B7,HN,H⟩:=hrel;clear Mo B9;by_cases o:i<C F
   ·obtain⟨g,ad,rfl,hg,h0,h1⟩:=HF.o i o;have k0:=(H.o.cell (p:=⟨g,_,N⟩) hg).trans h0;have k1:=(H.o.cell (p:=⟨g,_,N⟩) hg).trans h1;have Bb:=Fa (Cx.o AH.o i o B7.o);have Vl:wT (¬(0<=F[i].1/\F[i].1<(C V:Int)) ->pI (ag V) (C V) F i=11):=ahr o;have aj:wT (0<=F[i].1/\F[i].1<(C V:Int) ->¬(0<=F[i].2/\F[i].2<(sz (ag V) F[i].1.toNat:Int)) ->pI (ag V) (C V) F i=12):=ahs o;have an:wT (0<=F[i].1/\F[i].1<(C V:Int) ->(0<=F[i].2/\F[i].2<(sz (ag V) F[i].1.toNat:Int)) ->((F.take i).any fun p=>p.1==F[i].1)=y6 ->pI (ag V) (C V) F i=7):=aht o;have Cv:wT (0<=F[i].1/\F[i].1<(C V:Int) ->(0<=F[i].2/\F[i].2<(sz (ag V) F[i].1.toNat:Int)) ->((F.take i).any fun p=>p.1==F[i].1)=xd ->pI (ag V) (C V) F i=0):=ahu o;have vR:wT (pI (ag V) (C V) F i=0 ->∀j,j<i+1 ->pI (ag V) (C V) F j=0):=fun e=>V5 B7.o e;have ax:=Fa (U9.o i F[i].1);(have mY:C (F.take i)=i:=by rw[fh];omega);rw[mY] at ax;generalize pI (ag V) (C V) F i=fe at *;generalize ((F.take i).any fun p=>p.1==F[i].1)=fq at *;generalize F[i].1=f1 at *;generalize F[i].2=f at *;have A:=(au (O (T wr)) wr).alloc (ah _) (yM #[J I f1,J I f] 30);(have Dq:O (T (wr.alloc (yM #[J I f1,J I f] 30)))=O (T wr)+1:=aE);have OL:(wr.alloc (yM #[J I f1,J I f] 30)).heap[O (T wr)]? =M (yM #[J I f1,J I f] 30 (0,0)):=dU wr _;have t:=Fa OL;have Q:=Fa (HN.o.aa A HN.o.lt)
    have m:=Fa (H.o.trans (A.ae H.o.size));have nc:=Q.o.cells.1;clear h0 h1 mY A OL;by_cases l:0<=f1/\f1<(C V:Int)
    ·obtain⟨v,rfl⟩:∃v:Nat,f1=v:=⟨f1.toNat,al⟩;(have Bh:v<C V:=al);obtain⟨gv,ov,bv,cv,rfl,FT,a1,po,_,_⟩:=xD.o v Bh;have zM:sz (ag V) v=V[v].2.length:=H4 Bh;have bb:=Ei.o v Bh;rw[oU,zM] at aj an Cv;have kv:=(m.o.cell (p:=⟨gv,_,N⟩) FT).trans po;generalize V[v].2.length=sv at *;have P:=Fa l;clear a1 po l zM;obtain⟨az,aI⟩:(wr.alloc (yM #[J I (v:Nat),J I f] 30)).cell? ⟨O (T wr),0,N⟩=M (J I (v:Nat))/\(wr.alloc (yM #[J I (v:Nat),J I f] 30)).cell? ⟨O (T wr),1,N⟩=M (J I f):=⟨by rw[ba _ _ 0 _ _ (0,0) t.o];rfl,by rw[ba _ _ 1 _ _ (0,0) t.o];rfl⟩;by_cases x:0<=f/\f<(sv:Int)
     ·obtain⟨z,rfl⟩:∃z:Nat,f=z:=⟨f.toNat,al⟩;(have bg:z<sv:=al);have ay:=Fa x;clear x;go_upto_region 11 with (go_quiet (fail))
      have Vk:wT (((wr.alloc (yM #[J I (v:Nat),J I (z:Nat)] 30)).drewN nq).heap[O (T wr)]? =M (yM #[J I (v:Nat),J I (z:Nat)] 30 (0,0))):=t.o;have sK:wT (cj ((wr.alloc (yM #[J I (v:Nat),J I (z:Nat)] 30)).drewN nq) (O (T w)) (Z (M ⟨gv,ov,N⟩) (C V) ca) (Z b (C L) cb) (Z c (C R) cc)):=Q.o;have Ba:=Fa (below_drewN m.o nq);(have IA:O (T wr)<O (T ((wr.alloc (yM #[J I (v:Nat),J I (z:Nat)] 30)).drewN nq)):=by show O (T wr)<O (T (wr.alloc _));rw[Dq];omega);clear az aI kv nc t Q m Dq;generalize (wr.alloc (yM #[J I (v:Nat),J I (z:Nat)] 30)).drewN nq=W3 at *
      have Bj:wT (∀U:E,Below (O (T W3.drew)) W3.drew U ->U.cell? ⟨O (T wr),0,N⟩=M (J I (v:Nat))):=fun U Y=>(Y.cell (p:=⟨O (T wr),0,N⟩) IA).trans (by
       have:W3.drew.heap[O (T wr)]? =M (yM #[J I (v:Nat),J I (z:Nat)] 30 (0,0)):=Vk.o;rw[ba _ _ 0 _ _ (0,0) this];rfl)
      have av:=Fa (ax.o W3.drew Ba.o.drew);(have bf:(i:Int)<=(n:Int):=al);refine iK (S:=fun U=>U.cell? ⟨O (T wr),0,N⟩=M (J I (v:Nat))) ao (Bj.o _ (au _ _)) (fun aq=>?_);refine ar 0 (Z (M ⟨g,ad,N⟩) (C F) n) ?_;refine ar 1 (J I (i:Nat)) ?_;refine ar 2 (Z (M ⟨g,ad,N⟩) i n) ?_;refine ar 3 (zR (M ⟨O (T wr),0,N⟩)) ?_;refine ar 4 (J I (v:Nat)) ?_;refine aF [5] (cA ?_ aG);intro K' aJ;go_simp;refine av.o.ae ?_;rintro r w5 ⟨rfl,Bm⟩;refine aJ.o _ _ (Bj.o w5 Bm) (fun ak=>?_);clear aJ K' aq;(try simp only[gE,aP]);refine eO ao ?_ _;clear ak;have fp:wT (da w w5):=Ba.o.drew.trans (Bm.ae Ba.o.drew.size);have Ju:wT (cj w5 (O (T w)) (Z (M ⟨gv,ov,N⟩) (C V) ca) (Z b (C L) cb) (Z c (C R) cc)):=cj.aa (w:=W3.drew) sK.o Bm sK.o.lt;clear Bm av Bj;cases fq with
      |true=>
       have s:=Fa (Bb.o 7 (an.o P.o ay.o rfl) a6);go_wp2;go_ret;exact⟨by rw[<- s.o];rfl,fp.o⟩
      |false=>
       have aR:=Fa (vR.o (Cv.o P.o ay.o rfl));go_wp2;go_roundw
       case rel=>exact⟨i+1,al,bd,aR,Ju,fp⟩
       case measure=>simp[intOf];omega
     ·have s:=Fa (Bb.o 12 (aj.o P.o x) a6);rcases Int.lt_or_le f 0 with D |D
      ·have yw:decide (f<0)=true:=cJ D;clear x;go_wp2_with (go_quiet (fail))
       go_ret;exact⟨by rw[<- s.o];rfl,below_drewN m.o _⟩
      ·have yw:decide (f<0)=false:=cX al;have tq:decide ((sv:Int)<=f)=true:=cJ al;clear x;go_wp2_with (go_quiet (fail))
       go_ret;exact⟨by rw[<- s.o];rfl,below_drewN m.o _⟩
    ·have s:=Fa (Bb.o 11 (Vl.o l) a6);obtain⟨az,aI⟩:(wr.alloc (yM #[J I f1,J I f] 30)).cell? ⟨O (T wr),0,N⟩=M (J I f1)/\(wr.alloc (yM #[J I f1,J I f] 30)).cell? ⟨O (T wr),1,N⟩=M (J I f):=⟨by rw[ba _ _ 0 _ _ (0,0) t.o];rfl,by rw[ba _ _ 1 _ _ (0,0) t.o];rfl⟩;rcases Int.lt_or_le f1 0 with D |D
     ·clear l;go_wp2_with fail
      go_ret;exact⟨by rw[<- s.o];rfl,m.o⟩
     ·have h3:(C V:Int)<=f1:=al
      (have h4:¬f1<0:=al);clear l;go_wp2_with fail
      go_ret;exact⟨by rw[<- s.o];rfl,m.o⟩
   ·obtain rfl:i=C F:=al
    have s:=Fa (ai.o AH.o B7.o);go_wp2;go_ret;exact⟨by rw[<- s.o];rfl,H.o⟩
 ·have s:=Fa (Mu.o q);have bc:(aS V L R==0)=false:=by simpa using q
  clear q Mu Cx ai;generalize aS V L R=ne at *;go_wp2;go_ret;exact⟨by rw[<- s.o];rfl,B9.o⟩
open Go.Sort Go.Lib
theorem acM (b:Kd) (cb:Nat) (l:Kx) (x:Int) (w:E) (h:aB w b l) (n:C l<=140737488355328):
  c6 98 #[Z b (C l) cb,J I x] w fun e w'=>e=yW (zZ (l.contains x))/\w'=w:=by
 cases l with
 |nil=>
  refine(Tryz.slices_Contains_int_empty b cb x w).ae ?_;rintro e w' ⟨rfl,rfl⟩;exact⟨rfl,rfl⟩
 |cons y l=>
  obtain⟨g,o,rfl,_⟩:=h 0 aE;refine(Tryz.slices_Contains_int g o (C (y::l)) cb (y::l) x w (ah _) al (Yh h)).ae ?_;rintro e w' ⟨rfl,rfl⟩;rw[iD];exact⟨rfl,rfl⟩
def fN (l m:Kx):Kx:=l.filter fun u=>decide (¬u∈m)
theorem aec (u:Int) (b:Kd) (cb:Nat) (l:Kx) (B:Nat) (W:E) (c:W.cell? ⟨B,0,N⟩=M (Z b (C l) cb)) (h:aB W b l) (n:C l<=140737488355328):
  FnGives prog 131 #[zR (M ⟨B,0,N⟩)] #[J I u] (zZ (l.contains u)) W:=by
 show c6 131 #[J I u,zR (M ⟨B,0,N⟩)] W _;have H:=Fa (acM b cb l u W h n);clear h;go_enter func131,ntmps131;go_wp2_with fail
 refine H.o.ae ?_;rintro e w' ⟨rfl,w⟩;rw[w];clear w w';go_wp2;go_ret;exact⟨aE,0,rfl⟩
theorem ann (b:Kd) (cb:Nat) (l:Kx) (B:Nat) (w:E) (a:B<O (T w)) (c:w.cell? ⟨B,0,N⟩=M (Z b (C l) cb)) (d:aB w b l) (n:C l<=140737488355328):
  PredAt prog 131 #[zR (M ⟨B,0,N⟩)] (Value.int I) (fun u=>l.contains u) w:=
 fun W x h=>aec x b cb l B W ((h.cell (p:=⟨B,0,N⟩) a).trans c) (d.aa h) n
theorem anm (b:Kd) (cb:Nat) (l:Kx) (B a f z:Nat) (w:E) (j:B<O (T w)) (d:B≠a) (m:w.cell? ⟨B,0,N⟩=M (Z b (C l) cb)) (q:aB w b l) (r:C l<=140737488355328) (Ba:∀g o,b=M ⟨g,o,N⟩ ->l≠[] ->g≠a):
  PredOver prog 131 #[zR (M ⟨B,0,N⟩)] (Value.int I) (fun u=>l.contains u) a f z w:=
 fun n s i x _=>by
  have p:∀g o,g<O (T w) ->g≠a ->(sortWorld (Value.int I) w a f n i s).cell? ⟨g,o,N⟩=w.cell? ⟨g,o,N⟩:=fun g o h d=>by
   unfold sortWorld;rw[cell?_grow _ _ _ (by show g<O (T (putRow _ _ _ _ _));rw[size_putRow];exact h),cell?_putRow_other _ _ a f _ _ (Or.inl d)];rfl
  refine aec x b cb l B _ ((p B 0 j d).trans m) (fun k c=>?_) r;obtain⟨g,o,e,h,t⟩:=q k c;refine⟨g,o,e,?_,(p g _ h (Ba g o e (fun e=>by rw[e] at c;exact absurd c aE))).trans t⟩;unfold sortWorld;rw[size_grow,size_putRow];exact aT h (MK _ _)
theorem Xs (b c:Kd) (cb cc:Nat) (l m:Kx) (w:E) (z:aB w b l) (s:aB w c m) (X:C l<=1000000) (Bh:C m<=140737488355328):
  c6 79 #[Z b (C l) cb,Z c (C m) cc] w fun e w'=>∃(d:Kd) (y:Nat),e=yW (Z d (C (fN l m)) y)/\aB w' d (fN l m)/\((d=N ->y=0)/\∀g o,d=M ⟨g,o,N⟩ ->O (T w)<=g)/\da w w':=by
 have V:=Fa z;have Bb:=Fa s;obtain⟨L,p⟩:∃L,L=fN l m:=⟨_,rfl⟩;rw[<- p];have H:=Fa p
 have ab:wT (∀g o,c=M ⟨g,o,N⟩ ->m≠[] ->g<O (T w)):=fun g o e v=>by
  obtain⟨g',o',f,B7,_⟩:=s 0 (by cases m with |nil=>exact absurd rfl v |cons x m=>simp);rw[e] at f;cases f;exact B7
 clear z s p;go_enter func79,ntmps79;go_wp2_with fail
 have a:da w (w.alloc (yM #[Z c (C m) cc] 27)):=(au _ w).alloc (ah _) _;have t:=bF w 27 (Z c (C m) cc);generalize (w.alloc (yM #[Z c (C m) cc] 27))=W at a t⊢;refine(Kl b cb l _ (V.o.aa a) X).ae ?_;rintro e Bm ⟨x,rfl,A,F⟩;have i:=bI t F;have h:=a.trans (F.ae a.size);have ak:=t.lt;have an:=a.size;rcases A.cases with ⟨rfl,rfl⟩ |⟨g,cap,rfl,aj,R,Bj,ai,r⟩
 ·go_wp2_with fail
  refine(WN _ _).ae ?_;rintro e w2 ⟨rfl,ad⟩;go_wp2;go_ret;have Ba:L=[]:=H.o;subst Ba;exact⟨N,0,rfl,fun k U=>absurd U aE,⟨fun _=>rfl,fun g o e=>by cases e⟩,h.trans (ad.ae h.size)⟩
 ·have n:=Tryz.slices_DeleteFunc (Value.int I) (fun _=>rfl) (fun u=>m.contains u) 131 #[zR (M ⟨O (T w),0,N⟩)] (enters_of func131 ao rfl) 0 Tryz.zeroValue3 g 0 cap l.toArray Bm (ann c cc m _ _ i.lt i.cell (Bb.o.aa h) Bh) (anm c cc m _ g 0 _ _ i.lt al i.cell (Bb.o.aa h) Bh (fun g' o' f v=>by have:=ab.o g' o' f v;omega)) r (by simp;omega) (by simpa using Bj);have K:l.toArray.size=C l:=aE
  rw[K] at n
  have D:l.toArray.toList.filter (fun x=>!(m.contains x))=fN l m:=by
   rw[fN];refine VZ fun u _=>?_;by_cases Y:u∈m<;>simp[Y]
  rw[D, <- H.o] at n;have B9:C L<=C l:=by rw[H.o];exact oT _ _
  have P:=Fa n;have Q:=Fa r;have kj:=Fa B9;clear n r A K D Bj ai B9;go_wp2_with fail
  refine P.o.ae ?_;rintro e w2 ⟨rfl,q,rfl⟩;go_wp2;go_ret
  have yj:(L++List.replicate (C l - C L) 0).toArray.size=l.toArray.size:=by
   have:=kj.o;simp;omega
  refine⟨M ⟨g,0,N⟩,cap,rfl,Dt (holds_putRow (Value.int I) (Sort.ahead Bm q) g 0 l.toArray _ Q.o yj) (by rw[size_putRow];exact R) (fun j S=>⟨by simp;omega,by simp[nU,S]⟩),⟨(fun e=>by cases e),fun g' o' e=>by cases e;omega⟩,Us _ h h.size al⟩
variable {la lb:Kx}
theorem akV (e:(la++lb).Nodup):((la++lb).mergeSort fun x y=>decide (x<=y))=aU la lb:=by
 obtain⟨d,f⟩:=C1 la lb;have hs:((la++lb).mergeSort fun x y=>decide (x<=y)).Pairwise (fun x y=>decide (x<=y)=y6):=VR (fun a b c=>by simp;omega) (fun a b=>by simp;omega) _;have p:=QV (la++lb) fun x y=>decide (x<=y);have n:((la++lb).mergeSort fun x y=>decide (x<=y)).Nodup:=p.nodup_iff.2 e;refine WV ?_ d fun x=>?_
 ·refine(hs.and n).imp fun {a b} h=>?_;have g:=mJ h.1;have i:=h.2;omega
 ·rw[p.mem_iff,f,bE]
theorem ab8 (a b:Kd) (ca cb:Nat) (la lb:Kx) (w:E) (F:aB w a la) (Bj:aB w b lb) (R:a=N ->ca=0) (Ba:b=N ->cb=0) (lF:C la<=1000) (kD:C lb<=1000) (Bh:(la++lb).Nodup):
  c6 80 #[Z a (C la) ca,Z b (C lb) cb] w fun e w'=>∃(d:Kd) (Bm:Nat),e=yW (Z d (C (aU la lb)) Bm)/\aB w' d (aU la lb)/\(d=N ->Bm=0)/\da w w':=by
 obtain⟨L,m⟩:∃L,L=aU la lb:=⟨_,rfl⟩;rw[<- m];have H:=Fa m;have f:da w (w.alloc (yM #[Z a (C la) ca,Z b (C lb) cb] 27)):=(au _ w).alloc (ah _) _;have A:(w.alloc (yM #[Z a (C la) ca,Z b (C lb) cb] 27)).heap[O (T w)]? =M (yM #[Z a (C la) ca,Z b (C lb) cb] 27 (0,0)):=dU _ _;have B7:=Fa (acN (O (T w)) a b ca cb la lb (w.alloc (yM #[Z a (C la) ca,Z b (C lb) cb] 27)) aE (by rw[ba _ _ _ _ _ (0,0) A];rfl) (by rw[ba _ _ _ _ _ (0,0) A];rfl) (F.aa f) (Bj.aa f) R Ba lF kD);have S:=Fa (akV Bh);clear m F Bj R Ba A Bh;go_enter func80,ntmps80;go_wp2_with fail
 generalize (w.alloc (yM #[Z a (C la) ca,Z b (C lb) cb] 27))=W at *;refine B7.o.ae ?_;rintro e c ⟨v,rfl,Bb,U⟩;have u:=f.trans (U.ae f.size);have aj:=f.size;rcases Bb.cases with ⟨rfl,X⟩ |⟨g,cap,rfl,ai,p,ad,ab,r⟩
 ·have Y:L=[]:=by
   have h:la=[]:=(V0.1 X).1;have i:lb=[]:=(V0.1 X).2;rw[H.o,h,i,acd]
  subst Y;go_wp2_with fail
  refine(Tryz.slices_Sort_int_none N 0 _).ae ?_;rintro e Q ⟨rfl,rfl⟩;go_wp2;go_ret;exact⟨N,0,rfl,fun k hk=>absurd hk aE,fun _=>rfl,u⟩
 ·have dO:C (la++lb)<=2000:=by rw[cE];omega
  have K:=Tryz.slices_Sort_int g 0 cap (la++lb) c r p al;have z:C ((la++lb).mergeSort fun x y=>decide (x<=y))=C (la++lb):=MQ _;rw[S.o, <- H.o] at z K;have Qd:=Fa K;have B9:=Fa z;have HH:=Fa r;clear K r Bb ab U z S;generalize Ll:C (la++lb)=n at *;have GS:=Fa Ll;clear Ll;go_wp2_with fail
  refine Qd.o.ae ?_;rintro e Q ⟨rfl,q,s,rfl⟩
  have V:L.toArray.size=(la++lb).toArray.size:=by
   have:=B9.o;have:=GS.o;simp only[mL];omega
  have D:Holds (Value.int I) (grow (putRow (Value.int I) (Sort.ahead c q) g 0 L.toArray) s) g 0 L.toArray:=fun j t=>by
   obtain⟨h,i⟩:=holds_putRow (Value.int I) (Sort.ahead c q) g 0 _ L.toArray HH.o V j t;(have P:g<O (T (putRow (Value.int I) (Sort.ahead c q) g 0 L.toArray)):=by rw[size_putRow];exact p);refine⟨(cell?_grow _ _ _ P).trans h,?_⟩;rw[frozen?_grow _ _ _ P];exact i
  have IP:g<O (T (grow (putRow (Value.int I) (Sort.ahead c q) g 0 L.toArray) s)):=aT p (MB (w:=c) (g:=g) (n:=q) (os:=s) L.toArray).size;have aY:=Fa (Ur (n:=q) (os:=s) L.toArray u u.size (show O (T w)<=g by omega));generalize grow (putRow (Value.int I) (Sort.ahead c q) g 0 L.toArray) s=Q at *;have HI:=Fa (Dt (l:=L) D IP fun j t=>⟨by simpa using t,aE⟩);clear D V;go_wp2;go_ret;exact⟨M ⟨g,0,N⟩,cap,by rw[B9.o];rfl,HI.o,(fun e=>by cases e),aY.o⟩
variable {L Ls:List Kx} {c:Nat} {W' w:E}
def rj (W:E) (R:Nat) (vs:List wF) (Ls:List Kx):Prop:=
 vs.length=C Ls/\∀k (h:k<C Ls),∃b c,vs[k]? =M (Z b Ls[k].length c)/\aB W b Ls[k]/\∀g o,b=M ⟨g,o,N⟩ ->Ls[k]≠[] ->g≠R
theorem Yf {W:E} {R:Nat} {b:Kd} (h:aB W b l) (n:∀g o,b=M ⟨g,o,N⟩ ->l≠[] ->g≠R) (f:∀g,g<O (T W) ->g≠R ->W'.heap[g]? =W.heap[g]?) (hs:O (T W)<=O (T W')):aB W' b l:=fun k d=>by
 obtain⟨g,o,e,a,c⟩:=h k d;have i:=n g o e (fun e=>by rw[e] at d;exact absurd d aE);exact⟨g,o,e,aT a hs,(iM (f g a i)).trans c⟩
theorem rj.keep {W:E} {R:Nat} {vs:List wF} (h:rj W R vs Ls) (i:∀g,g<O (T W) ->g≠R ->W'.heap[g]? =W.heap[g]?) (hs:O (T W)<=O (T W')):rj W' R vs Ls:=⟨h.1,fun k d=>by
 obtain⟨b,c,e,f,a⟩:=h.2 k d;exact⟨b,c,e,Yf f a i hs,a⟩⟩
theorem rj.aa {W:E} {R:Nat} {vs:List wF} (h:rj W R vs Ls) (b:da W W'):rj W' R vs Ls:=h.keep (fun g a _=>b.block g a) b.size
theorem rj.lists {W:E} {R:Nat} {vs rest:List wF} (h:rj W R vs Ls) (r:iH W R (vs++rest)):dP W (M ⟨R,0,N⟩) Ls:=fun k d=>by
 obtain⟨b,c,a,e,_⟩:=h.2 k d;have z:k<C vs:=by rw[h.1];exact d
 refine⟨R,0,b,c,rfl,r.lt,?_,e⟩;rw[bQ,r.cell k (by rw[cE];omega),nU z];rw[a7 z] at a;exact a
theorem rj.put {W:E} {R:Nat} {vs rest:List wF} (h:rj W R vs Ls) (u:iH W R (vs++rest)) (w:v<C Ls) {b:Kd} (t:aB W b l) (f:∀g o,b=M ⟨g,o,N⟩ ->l≠[] ->g≠R):
  rj (W.setCell ⟨R,v,N⟩ (Z b (C l) c)) R (vs.set v (Z b (C l) c)) (Ls.set v l)/\iH (W.setCell ⟨R,v,N⟩ (Z b (C l) c)) R (vs.set v (Z b (C l) c)++rest):=by
 have p:∀k,k≠R ->(W.setCell ⟨R,v,N⟩ (Z b (C l) c)).heap[k]? =W.heap[k]?:=fun k a=>eW W ⟨R,v,N⟩ _ k a;have s:=(jJ W ⟨R,v,N⟩ (Z b (C l) c)).size;have j:v<C vs:=by rw[h.1];exact w
 refine⟨⟨by rw[gA,gA];exact h.1,fun k a=>?_⟩,?_⟩
 ·rw[gA] at a;by_cases e:v=k
  ·subst e;refine⟨b,c,?_,?_,?_⟩
   ·rw[Hr j,Hp]
   ·rw[Hp];exact Yf t f (fun g _ n=>p g n) s
   ·rw[Hp];exact f
  ·obtain⟨i,m,q,r,d⟩:=h.2 k a;refine⟨i,m,?_,?_,?_⟩
   ·rw[wj e,MR e];exact q
   ·rw[MR e];exact Yf r d (fun g _ n=>p g n) s
   ·rw[MR e];exact d
 ·have:=u.set v (Z b (C l) c);rwa [List.set_append_left _ _ j] at this
theorem akX (h:dP w a L) (p:0<C L):∃g o,a=M ⟨g,o,N⟩/\g<O (T w):=by
 obtain⟨g,o,_,_,b,c,_⟩:=h 0 p;exact⟨g,o,b,c⟩
theorem ak5 (a:Kd) (ca:Nat) (L:List Kx) (w:E) (h:dP w a L) (S:0<C L) (h8:C L<=1000):
  c6 125 #[Z a (C L) ca] w fun e w'=>∃R cap vs rest,e=yW (Z (M ⟨R,0,N⟩) (C L) cap)/\L.length<=cap/\w.heap.size<=R/\iH w' R (vs++rest)/\rj w' R vs L/\da w w':=by
 obtain⟨U,K,B7,ab,ad⟩:=eC Tryz.infoInts1;obtain⟨g,o,rfl,hg⟩:=akX h S;have HF:=Fa h;obtain⟨vs,D⟩:∃vs:List wF,vs=(List.range (C L)).map fun k=>(w.cell? ⟨g,o+k,N⟩).getD undef:=⟨_,rfl⟩;have Q:C vs=C L:=by rw[D];simp
 have Bh:wT (∀k (d:k<C L),∃b c,vs[k]? =M (Z b L[k].length c)/\aB w b L[k]/\w.cell? ⟨g,o+k,N⟩=M (Z b L[k].length c)):=fun k d=>by
  obtain⟨g',o',b,c,e,_,i,m⟩:=h k d;cases e;refine⟨b,c,?_,m,i⟩;rw[D,k9,MT d,Option.map_some,i];rfl
 have Bm:=Fa Q;clear D h Q;have Xd:∀(w:E) (a:Kd) (n c r q:Nat),(binOp .eql 23 (Z a n c) (Z N r q)).run prog w=.ok (zZ a.isNone) w:=fun w a n c r q=>V1 w _ _ a n c r q underlying23;go_enter func125,ntmps125;go_wp2_with (at_builtin;refine zg _ rfl _ _ 23 rfl (O (T w)) 27 U (Z N 0 0) 1 24 underlying23 K B7 ab ad rfl a6 _ _ _ rfl (VF w #[] 0 (ah _) (aV _) rfl) ⟨g,o,N⟩ (C L) ca vs rfl ?Ie ?Ic ?Ib ?Ia ?H9 ?H8 ?_)
 case Ie=>have:=Bm.o;simp;omega
 case Ic=>
  intro j u z
  have X:j<C L:=by
   have f:=(mO.1 z).1;have i:=Bm.o;omega
  obtain⟨b,c,f,_,m⟩:=Bh.o j X;rw[Addr.add_lit];refine V3 _ ?_;rw[m, <- f];exact z
 case Ib=>
  intro u Ba;obtain⟨k,d,rfl⟩:=iE Ba;have Bb:k<C L:=by have:=Bm.o;omega
  obtain⟨b,c,f,_,_⟩:=Bh.o k Bb;rw[a7 d] at f;rw[jO f];rfl
 case Ia=>unfold maxLen;omega
 case H9=>omega
 case H8=>simp
 intro v' V p F ae;have A:da w V:=((au _ w).alloc (ah _) _).grown F aE (by intro k d;simp[Value.ownBlock] at d;omega);have H:=Fa A;have B9:=Fa p;clear p F ae A;go_wp2;go_ret;have p:=B9.o;rcases p.2 with ⟨f,i⟩ |⟨R,cap,s,f,i,m,P,h5,h6,y⟩
 ·omega
 ·refine⟨R,cap,vs,s.toList.drop (C L),by rw[f];rfl,P,i,?_,?_,H.o⟩
  ·rw[iH,m]
   have e:vs++s.toList.drop (C L)=s.toList:=by
    rw[qM] at y;rw[<- y,zo]
   rw[e]
  ·refine⟨Bm.o,fun k d=>?_⟩;obtain⟨b,c,Bj,t,_⟩:=Bh.o k d;refine⟨b,c,Bj,t.aa H.o,fun g' o' e Y=>?_⟩;obtain⟨g2,o2,v,ai,_⟩:=t 0 (by cases hl:L[k] with |nil=>exact absurd hl Y |cons x l=>simp);rw[e] at v;cases v;omega
theorem asC (L:List Kx):ed L [] []=L:=by
 apply ld (vF L [] []);intro v a h;rw[Pz,aax,aC aE,getD_at h]
theorem asF {d:Kx} (b:i<C d) (c:d[i]=(v:Int)):(ed L (d.take i) []).set v []=ed L (d.take (i+1)) []:=by
 apply ld (by rw[gA,vF,vF]);intro k f g
 have m:((k:Int)∈d.take (i+1))↔((k:Int)∈d.take i∨k=v):=by
  rw[gR b,bE,bA,c];exact or_congr Iff.rfl ⟨fun e=>al,fun e=>al⟩
 rw[Pz,CO,aax];by_cases e:v=k
 ·rw[aw e,aw (m.2 (yk e.symm))]
 ·rw[aC e,Pz,aax];by_cases a:(k:Int)∈d.take i
  ·rw[aw a,aw (m.2 (yd a))]
  ·rw[aC a,aC fun h=>(m.1 h).elim a fun h=>e h.symm]
theorem ajH (a b:Kd) (ca cb:Nat) (L:List Kx) (d:Kx) (w:E) (h:dP w a L) (r:aB w b d) (hp:0<C L) (h8:C L<=8) (u:∀x∈d,0<=x/\x<(C L:Int)) (aj:C d<=1000):
  c6 77 #[Z a (C L) ca,Z b (C d) cb] w fun e w'=>∃R cap,e=yW (Z (M ⟨R,0,N⟩) (C L) cap)/\dP w' (M ⟨R,0,N⟩) (ed L d [])/\da w w':=by
 have z:=Fa (ak5 a ca L w h hp al);have U:=Fa u;have X:=Fa r;have F:=Fa (asC L);have aa:wT (∀(i v:Nat) (n:i<C d),d[i]=(v:Int) ->(ed L (d.take i) []).set v []=ed L (d.take (i+1)) []):=fun i v n f=>asF n f;have q:wT (∀S,C (ed L S [])=C L):=fun S=>vF L S [];clear h r u;go_enter func77,ntmps77;go_wp2_with fail
 refine z.o.ae ?_;rintro e Bj ⟨R,cap,m,rest,rfl,uz,B7,K,D,Bh⟩;have Bm:wT (iH Bj R (m++rest)):=K;have A:wT (rj Bj R m (ed L (d.take 0) [])):=by rw[MN,F.o];exact D
 have Bb:=Fa Bh;clear K D Bh z F;go_wp2_with fail
 go_loopw [12] (fun iv wr=>∃(i:Nat) (vs:List wF),i<=C d/\iv=J I i/\wT (iH wr R (vs++rest))/\wT (rj wr R vs (ed L (d.take i) []))/\wT (da w wr)) (fun iv _=>C d - (intOf iv).toNat)
 case atStart=>exact⟨0,m,aV _,rfl,Bm,A,Bb⟩
 case round=>
  obtain⟨i,vs,n,rfl,H,V,j⟩:=hrel;clear Bm A Bb;by_cases t:i<C d
  ·obtain⟨g,o,rfl,hg,s⟩:=X.o i t;obtain⟨ab,ad⟩:=U.o _ (bU t);obtain⟨v,f⟩:∃v:Nat,d[i]=(v:Int):=⟨d[i].toNat,al⟩;(have Y:v<C L:=al);(have kc:wr.cell? ⟨g,o+i,N⟩=M (J I (v:Nat)):=by rw[<- f];exact(j.o.cell (p:=⟨g,_,N⟩) hg).trans s);have Q:=Fa (aa.o i v t f);have ai:=H.o.fz v;have P:wT (rj (wr.setCell ⟨R,v,N⟩ (Z N 0 0)) R (vs.set v (Z N 0 0)) ((ed L (d.take i) []).set v [])/\iH (wr.setCell ⟨R,v,N⟩ (Z N 0 0)) R (vs.set v (Z N 0 0)++rest)):=V.o.put H.o (by rw[q.o];exact Y) (b:=N) (c:=0) (l:=[]) (fun k hk=>absurd hk aE) (fun g o e=>by cases e);have B9:wT (da w (wr.setCell ⟨R,v,N⟩ (Z N 0 0))):=j.o.setCell (p:=⟨R,v,N⟩) B7 _
   obtain⟨y,ky⟩:∃y,wr.cell? ⟨R,v,N⟩=M y:=by
    have hl:=V.o.1;rw[q.o] at hl;exact⟨_,H.o.cell v (by rw[cE];omega)⟩
   clear s ab ad f;go_wp2;go_roundw
   case rel=>exact⟨i+1,_,al,bd,P.o.2,by rw[<- Q.o];exact P.o.1,B9⟩
   case measure=>simp[intOf];omega
  ·obtain rfl:i=C d:=al
   have Ba:wT (dP wr (M ⟨R,0,N⟩) (ed L d [])):=by
    have:=V.o.lists H.o;rwa [iD] at this
   go_wp2;go_ret;exact⟨R,cap,rfl,Ba.o,j.o⟩
theorem asB {d:Kx} (h:v<C L):((List.range (C L)).map fun k=>if k<v then ri L [] d k else[]).set v (fN L[v] d)=(List.range (C L)).map fun k=>if k<v+1 then ri L [] d k else[]:=by
 apply ld aE;intro k b c;rw[CO];simp only[mN,Hq];by_cases e:v=k
 ·subst e;rw[aw rfl,aw al,asA,getD_at h,fN]
 ·rw[aC e];by_cases a:k<v
  ·rw[aw a,aw al]
  ·rw[aC a,aC al]
theorem abU (a b:Kd) (ca cb:Nat) (L:List Kx) (n:Kx) (w:E) (h:dP w a L) (Bm:aB w b n) (hp:0<C L) (h8:C L<=8) (x:∀l∈L,C l<=1000) (ak:C n<=1000):
  c6 76 #[Z a (C L) ca,Z b (C n) cb] w fun e w'=>∃R cap,e=yW (Z (M ⟨R,0,N⟩) (C L) cap)/\dP w' (M ⟨R,0,N⟩) (ed L [] n)/\da w w':=by
 have ad:=fun V=>QL (P:=prog) 23 27 (Z N 0 0) 24 underlying23 Tryz.infoInts1 rfl I I (C L) al al V;have B7:=Fa h;have QH:=Fa Bm;have yR:wT (∀(v:Nat) (f:v<C L) (d:Kd) (c:Nat) (U:E),da w U ->aB U d L[v] ->c6 79 #[Z d L[v].length c,Z b (C n) cb] U fun e w'=>∃(d:Kd) (K:Nat),e=yW (Z d (C (fN L[v] n)) K)/\aB w' d (fN L[v] n)/\((d=N ->K=0)/\∀g o,d=M ⟨g,o,N⟩ ->O (T U)<=g)/\da U w'):=fun v f d c U hU u=>Xs d b c cb L[v] n U u (Bm.aa hU) (by have:=x _ (bU f);omega) al;have yV:wT (∀(v:Nat) (f:v<C L),((List.range (C L)).map fun k=>if k<v then ri L [] n k else[]).set v (fN L[v] n)=(List.range (C L)).map fun k=>if k<v+1 then ri L [] n k else[]):=fun v f=>asB f;clear h Bm x
 have Bh:wT (iH (w.alloc (yM (madeCells #[Z N 0 0] (C L)) 27)) (O (T w)) (List.replicate (C L) (Z N 0 0))):=by
  have e2:madeCells #[Value.slice N 0 0] (C L)=(List.replicate (C L) (Value.slice N 0 0)).toArray:=by
   have:=SA (C L);rw[qM] at this;rw[<- this];rfl
  show _=_;rw[dU,e2]
 have S:wT (rj (w.alloc (yM (madeCells #[Z N 0 0] (C L)) 27)) (O (T w)) (List.replicate (C L) (Z N 0 0)) ((List.range (C L)).map fun k=>if k<0 then ri L [] n k else[])):=⟨aE,fun k F=>⟨N,0,by
  have cO:k<C L:=by simpa using F
  simp[cO],(fun j hj=>absurd hj aE),fun g o e=>by cases e⟩⟩
 have B9:=Fa ((au (O (T w)) w).alloc (ah _) (yM (madeCells #[Z N 0 0] (C L)) 27));go_enter func76,ntmps76;go_wp2_with fail
 generalize w.alloc (yM (madeCells #[Z N 0 0] (C L)) 27)=W0 at *;clear ad;go_loopw [13] (fun iv wr=>∃(v:Nat) (vs:List wF),v<=C L/\iv=J I v/\wT (iH wr (O (T w)) vs)/\wT (rj wr (O (T w)) vs ((List.range (C L)).map fun k=>if k<v then ri L [] n k else[]))/\wT (da w wr)) (fun iv _=>C L - (intOf iv).toNat)
 case atStart=>exact⟨0,_,aV _,rfl,Bh,S,B9⟩
 case round=>
  obtain⟨v,vs,f,rfl,m,D,H⟩:=hrel;clear Bh S B9;by_cases z:v<C L
  ·obtain⟨g,o,d,c,rfl,hg,Bb,u⟩:=B7.o v z;have kc:wr.cell? ⟨g,o+v,N⟩=M (Z d L[v].length c):=(H.o.cell (p:=⟨g,_,N⟩) hg).trans Bb;have ab:=Fa (yR.o v z d c wr H.o (u.aa H.o));have Y:=Fa (yV.o v z);have Bj:=m.o.lt;generalize fN L[v] n=t at *;generalize L[v].length=lv at *;clear Bb u;go_wp2_with fail
   refine ab.o.ae ?_;rintro e s ⟨r,q,rfl,Q,⟨_,Ba⟩,i⟩;have ai:=(m.o.aa i Bj).fz v;(have gQ:wT (iH s (O (T w)) (vs++[])):=by rw[kq];exact m.o.aa i Bj);have A:wT (rj (s.setCell ⟨O (T w),v,N⟩ (Z r (C t) q)) (O (T w)) (vs.set v (Z r (C t) q)) (((List.range (C L)).map fun k=>if k<v then ri L [] n k else[]).set v t)/\iH (s.setCell ⟨O (T w),v,N⟩ (Z r (C t) q)) (O (T w)) (vs.set v (Z r (C t) q)++[])):=(D.o.aa i).put gQ.o (by simpa using z) Q (fun g' o' e' aj=>by have:=Ba g' o' e';omega);have aY:=Fa (H.o.trans (i.ae H.o.size));have X:wT (da w (s.setCell ⟨O (T w),v,N⟩ (Z r (C t) q))):=aY.o.setCell (p:=⟨O (T w),v,N⟩) (ah _) _
   obtain⟨y,ky⟩:∃y,s.cell? ⟨O (T w),v,N⟩=M y:=by
    have x:=D.o.1;rw[cY,AW] at x;exact⟨_,(m.o.aa i Bj).cell v al⟩
   rw[kq] at A;generalize (C t)=an at *;clear Q i kc Ba;go_wp2;go_roundw
   case rel=>exact⟨v+1,_,al,bd,A.o.2,by rw[<- Y.o];exact A.o.1,X⟩
   case measure=>simp[intOf];omega
  ·obtain rfl:v=C L:=al
   have HL:wT (dP wr (M ⟨O (T w),0,N⟩) (ed L [] n)):=by
    (have h1:iH wr (O (T w)) (vs++[]):=by rw[kq];exact m.o);have:=D.o.lists h1
    have e:((List.range (C L)).map fun k=>if k<C L then ri L [] n k else[])=ed L [] n:=by
     rw[ed];exact mM fun k F=>aw (bS.1 F)
    rwa [e] at this
   go_wp2;go_ret;exact⟨_,_,rfl,HL.o,H.o⟩
variable {kl:Nat×Bool ->Lit} {wv:wF} {V' W3:E}
theorem abz (w:E):(zeroValue 244).run prog w=.ok (zd #[]) w:=by
 obtain⟨a,c,h,z,b⟩:=eC (show (prog.info? 244).map (fun i=>(i.zero,i.size,i.bytes))=M (M (zd #[]),0,0) by kernel_rfl);simp[zeroValue,typeInfo,c,h]
structure xA (kl:Nat×Bool ->Lit) (W3:E) (b:Nat) (S W:List (Nat×Bool)) (D:DataW Unit) (wv:wF) (V:E):Prop where
 map:CA kl V b S D
 row:xu V (O (T W3)) wv W
 fr:W3.grownBy V (M b)
theorem xA.alloc {b:Nat} {S W:List (Nat×Bool)} {D:DataW Unit} {V:E} (h:xA kl W3 b S W D wv V) (o:Obj):xA kl W3 b S W D wv (V.alloc o):=
 ⟨h.map.kept (World.grownBy_alloc V o N) aE,He h.row o,by
  have A:=(au (O (T V)) V).alloc (ah _) o;exact⟨A.os.trans h.fr.os,A.tape.trans h.fr.tape,A.output.trans h.fr.output,aM h.fr.size A.size,fun k a e=>(A.block k (aT a h.fr.size)).trans (h.fr.block k a e)⟩⟩
theorem xA.put (i:∀p:Nat×Bool,p.1< 8 ->keyOf prog 243 (Df p)=M (kl p)) {b:Nat} {S W:List (Nat×Bool)} {D:DataW Unit} {V:E} (h:xA kl W3 b S W D wv V) (l:b<O (T W3)) {p:Nat×Bool} (j:p.1<8) {d:DataW Unit} (o:V'.ownsMap prog 243 (unitElem (H:=Unit)) b (C S+1) (D.put (kl p) d)) (a:V.grownBy V' (M b)):xA kl W3 b (p::S) W (D.put (kl p) d) wv V':=by
 refine⟨h.map.put i j o,QP h.row a ?_,⟨a.os.trans h.fr.os,a.tape.trans h.fr.tape,a.output.trans h.fr.output,aM h.fr.size a.size,fun k c n=>(a.block k (aT c h.fr.size) n).trans (h.fr.block k c n)⟩⟩;cases e:wv.ownBlock with
 |none=>exact yd rfl
 |some g=>
  refine yk fun f=>?_;cases f;have:=ad3 h.row b e;omega
theorem xA.more {b:Nat} {S W W':List (Nat×Bool)} {D:DataW Unit} {v:wF} {V:E} (h:xA kl W3 b S W D wv V) (c:b<O (T W3)) (r:xu V' (O (T W3)) v W') (g:G8 V V' wv v):xA kl W3 b S W' D v V':=by
 have n:∀k,k<O (T W3) ->M k≠wv.ownBlock:=fun k a e=>by
  have:=ad3 h.row k e.symm;omega
 exact⟨h.map.kept g.1 (n b c),r,⟨g.1.os.trans h.fr.os,g.1.tape.trans h.fr.tape,g.1.output.trans h.fr.output,aM h.fr.size g.1.size,fun k a d=>(g.1.block k (aT a h.fr.size) (n k a)).trans (h.fr.block k a d)⟩⟩
theorem xu.init {B:Nat} {d:Kd} {Ba:List (Nat×Bool)} {p:Nat×Bool} (h:xu w B (Z d n c) (Ba++[p])):∃g,d=M ⟨g,0,N⟩/\n=C Ba+1/\Ba.length<=c/\Ba.length+1<=c/\B<=g/\g<O (T w)/\w.cell? ⟨g,C Ba*2,N⟩=M (J I (p.1:Nat))/\w.cell? ⟨g,C Ba*2+1,N⟩=M (zZ p.2)/\xu w B (Z (M ⟨g,0,N⟩) (C Ba) c) Ba:=by
 have m:C (Ba++[p])=C Ba+1:=aE
 have l:=aaF Ba;rcases h.2 with ⟨i,a⟩ |⟨g,cap,r,i,a,e,k,o,q,b⟩
 ·rw[m] at a;omega
 ·injection i with e1 e2 e3;subst e1;subst e3;rw[m] at k b e2;rw[aaG] at b
  have t:∀j u,(uE Ba++uE [p])[j]? =M u ->w.cell? ⟨g,j,N⟩=M u:=fun j u f=>by
   rw[ba w g j _ _ (0,0) e]
   have:j<(C Ba+1)*2:=by
    have:=(mO.1 f).1;rw[cE,l] at this;simp[uE] at this;omega
   rw[<- b,sQ,aw this,wu] at f;exact f
  refine⟨g,rfl,e2,al,k,a,(cS.1 e).1,t _ _ ?_,t _ _ ?_,aaF Ba,yk ⟨g,c,r,rfl,a,e,al,o,q,?_⟩⟩
  ·rw[JU al,l,rE];rfl
  ·rw[JU al,l,show C Ba*2+1 - C Ba*2=1 by omega];rfl
  ·have:=eG (List.take (C Ba*2)) b;rw[List.take_take,show min (C Ba*2) ((C Ba+1)*2)=C Ba*2 by omega] at this;rw[this, <- l,List.take_left]
variable {A:Nat}
theorem TJ {V:E} {row:Option Nat} {v c:wF} {t:TypeId} (h:V.heap[A]? =M (yM #[v,c] t (0,0))) (g:V.grownBy V' row) (e:M A≠row):V'.heap[A]? =M (yM #[v,c] t (0,0)):=(g.block A (cS.1 h).1 e).trans h
theorem Uo {V:E} {v c:wF} {t:TypeId} (h:V.heap[A]? =M (yM #[v,c] t (0,0))):V.cell? ⟨A,0,N⟩=M v/\V.cell? ⟨A,1,N⟩=M c:=
 ⟨by rw[ba V A 0 _ _ (0,0) h];rfl,by rw[ba V A 1 _ _ (0,0) h];rfl⟩
theorem xu.shape {B:Nat} {v:wF} {l:List (Nat×Bool)} (h:xu w B v l):∃d c,v=Z d (C l) c:=by
 rcases h.2 with ⟨a,b⟩ |⟨g,cap,r,a,_⟩
 ·exact⟨N,0,by rw[a,b]⟩
 ·exact⟨_,cap,a⟩
theorem apx (G n cG:Nat) (P:List Ja) (x y z:Ja) (w:E) (hn:C P=n) (h8:n<=8) (hU:dt w G (P.map aA)) (hP:∀v,∀u∈P.getD v [],u<n/\v<n) (ZJ:∀p∈P,∀u∈p,u<n) (hx:∀u∈x,u<n) (hy:∀u∈y,u<n) (a:∀u∈z,u<n):
  c6 178 #[Z (M ⟨G,0,N⟩) n cG,J yE (aA x:Nat),J yE (aA y:Nat),J yE (aA z:Nat)] w fun e w'=>∃aI,e=yW (zZ aI)/\(aI=y6↔∃v c,v∈y/\iJ (fun u v=>u∈P.getD v []) (·∈x) (·∈z) (·∈dK P z n) v c)/\da w w':=by
 obtain⟨kl,dA⟩:=apr;have bb:=Fa dA;have Mx:=Fa (ah6 G n cG P w hn h8 hU ZJ);have vW:=Fa (fun (U:E) (hb:da w U)=>aiC G n cG P z U hn h8 (hU.aa hb hU.lt) ZJ a);have s8:∀ {s:Ja},(∀u∈s,u<n) ->∀u∈s,u<8:=fun h u hu=>by have:=h u hu;omega
 have bp:∀u∈dK P z n,u<n:=LZ (fun v u hu=>(hP v u hu).1) a n;have bf:=Fa (fun (v:Nat) (U:E) (Y:v<8)=>Ko y v U (s8 hy) Y);have Gn:=Fa (fun (v:Nat) (U:E) (Y:v<8)=>Ko z v U (s8 a) Y);have U3:=Fa (fun (v:Nat) (U:E) (Y:v<8)=>Ko (dK P z n) v U (s8 bp) Y);have a1:=Fa (fun (B:Nat) (U:E) (hB:B<=O (T U))=>aaA B (Z N 0 0) [] x y6 U (s8 hx) ⟨rfl,yd ⟨rfl,rfl⟩⟩ aE hB);have aR:wT (∀(v:Nat),v< n ->∀(B:Nat) (Bb:wF) (l:List (Nat×Bool)) (U:E),xu U B Bb l ->C l<=1000 ->B<=O (T U) ->c6 221 #[Bb,J yE (aA (P.getD v []):Nat),zZ y6] U fun e w'=>∃v',e=yW v'/\xu w' B v' (l++(bZ (P.getD v []) 8).map fun u=>(u,y6))/\G8 U w' Bb v'):=fun v _ B Bb l U h1 h2 h3=>aaA B Bb l (P.getD v []) y6 U (s8 fun u hu=>(hP v u hu).1) h1 h2 h3;have aJ:wT (∀(v:Nat),v< n ->∀(B:Nat) (Bb:wF) (l:List (Nat×Bool)) (U:E),xu U B Bb l ->C l<=1000 ->B<=O (T U) ->c6 221 #[Bb,J yE (aA (fg P v n):Nat),zZ xd] U fun e w'=>∃v',e=yW v'/\xu w' B v' (l++(bZ (fg P v n) 8).map fun u=>(u,xd))/\G8 U w' Bb v'):=fun v _ B Bb l U h1 h2 h3=>aaA B Bb l (fg P v n) xd U (s8 fun u hu=>(Gg.1 hu).1) h1 h2 h3
 have bd:wT (∀(U:E),da w U ->∀v,v< n ->U.cell? ⟨G,v,N⟩=M (J yE (aA (P.getD v []):Nat))):=fun U hb v Y=>by
  have:=(hU.aa hb hU.lt).cell v (by rw[cY,hn];exact Y);rw[this,Fk (by rw[hn];exact Y)]
 have a6:wT (∀(U:E) (g:Nat),dt U g ((lG P n n).map aA) ->∀v,v< n ->U.cell? ⟨g,v,N⟩=M (J yE (aA (fg P v n):Nat))):=fun U g h v Y=>by
  have:=h.cell v (by rw[cY,aaI];exact Y);rw[this];simp[lG]
 have mE:=Fa (sH.new (P:=P) (n:=n) (y:=y) (z:=z) (an:=dK P z n) hx h8);have yZ:=Fa (fun (S Ba:List (Nat×Bool)) (p:Nat×Bool) (h:sH P n x y z (dK P z n) S (Ba++[p])) (h1:¬p∈S) (h2:¬p.1∈y)=>h.add hP h1 h2);have JD:=Fa (fun (S:List (Nat×Bool)) (h:sH P n x y z (dK P z n) S [])=>h.fin hP h8);have JG:=Fa (fun (S Ba:List (Nat×Bool)) (h:sH P n x y z (dK P z n) S Ba)=>h.few h8);have Gv:wT (∀p:Nat×Bool,E4 P n z (dK P z n) p=(if (p.2&&!decide (p.1∈z) ||!p.2&&decide (p.1∈dK P z n))=y6 then(bZ (P.getD p.1 []) 8).map fun u=>(u,y6) else[])++(if p.1∈z then[] else(bZ (fg P p.1 n) 8).map fun u=>(u,xd))):=fun p=>rfl;clear hU hP ZJ hx hy a bp s8 dA hn;generalize aA (dK P z n)=ma at *;have b3:= @run_makeMap prog;go_enter func178,ntmps178;go_wp2_with fail
 go_step3
 go_wp2_with fail
 refine Mx.o.ae ?_;rintro e w1 ⟨rfl,bs,aq⟩;have bo:=Fa (vW.o w1 aq);have cM:=Fa aq;have oH:=Fa bs;clear aq bs Mx vW;go_wp2_with fail
 refine bo.o.ae ?_;rintro e b ⟨rfl,av⟩;have aY:=Fa (cM.o.trans (av.ae cM.o.size));have gQ:=Fa (oH.o.aa av oH.o.lt);clear av bo cM oH;have hA:=(au (O (T b)) b).alloc (ah _) (.map #[] 0);have i:O (T (b.alloc (.map #[] 0)))=O (T b)+1:=aE
 have eo:=Fa (aY.o.trans (hA.ae aY.o.size));have jF:=Fa (gQ.o.aa hA gQ.o.lt);have GR:=Fa (CA.new kl b);have bm:=Fa (a1.o (O (T b)+1) (b.alloc (.map #[] 0)) (by rw[i];exact ah _));have bu:O (T w)<=O (T b):=aY.o.size;clear hA a1 aY;go_wp2_with fail
 refine bm.o.ae ?_;rintro e w4 ⟨bD,rfl,YT,br⟩;rw[gS] at YT
 have tO:wT (xA kl (b.alloc (.map #[] 0)) (O (T b)) [] ((bZ x 8).map fun u=>(u,y6)) (.map []) bD w4):=
  (xA.mk (W:=[]) (wv:=Z N 0 0) GR.o ⟨rfl,yd ⟨rfl,rfl⟩⟩ (World.grownBy.refl _ _)).more (by rw[i];omega) (by rw[i];exact YT) br
 clear YT br bm GR;go_wp2_with fail
 go_step3
 go_wp2_with fail
 go_loopg [12] 2000 (fun k wv wr=>∃(S W:List (Nat×Bool)) (D:DataW Unit) (d:Kd) (c:Nat),wv=Z d (C W) c/\wT (sH P n x y z (dK P z n) S W)/\wT (xA kl (b.alloc (.map #[] 0)) (O (T b)) S W D (Z d (C W) c) wr)/\(16 - C S)*100+C W<=k)
 case atStart=>
  obtain⟨d0,c0,rfl⟩:=tO.o.row.shape;refine⟨[],_,_,d0,c0,rfl,mE,tO,?_⟩;have:=ly x 8;simp;omega
 case round=>
  obtain⟨S,W,D,d,c,rfl,Bm,GP,Lc⟩:=hrel;clear tO mE
  have bP:O (T b)+1<=O (T wr):=by
   have:=GP.o.fr.size;rw[i] at this;exact this
  have yX:wT (da w wr):=eo.o.grown GP.o.fr (by rw[i];omega) (fun k e=>by cases e;exact bu);have b1:=JG.o S W Bm.o;have Tt:=Bm.o.len;rcases List.eq_nil_or_concat W with rfl |⟨Ba,p,rfl⟩
  ·go_wp2;rw[Exit.noGoto_ret];go_ret;exact⟨xd,rfl,⟨(fun e=>by cases e),fun e=>absurd e (JD.o S Bm.o)⟩,yX.o⟩
  ·rw[List.concat_eq_append] at Bm GP Lc Tt⊢;obtain⟨g,rfl,bC,b2,bO,b0,r6,b4,b5,hT⟩:=GP.o.row.init;obtain⟨pv,j⟩:=p;have HT:=Fa hT;clear hT bC;(have bw:C (Ba++[(pv,j)])=C Ba+1:=aE);rw[bw] at GP Lc Tt⊢;(have ZC:C Ba<=300:=al);clear bw Tt;have ax:=Bm.o.low (pv,j) (yk (MP _ dJ));have oh:pv<n:=ax.1;have bx:=Fa ax.2;have az:keyOf prog 243 (zd #[J I (pv:Nat),zZ j])=M (kl (pv,j)):=bb.o (pv,j) (by show pv<8;omega);have bc:wT (xA kl (b.alloc (.map #[] 0)) (O (T b)) S Ba D (Z (M ⟨g,0,N⟩) (C Ba) c) wr):=⟨GP.o.map,HT.o,GP.o.fr⟩;have mF:=Fa (bc.o.alloc (yM #[J I (pv:Nat),zZ j] 243));have aj:=Fa (mF.o.alloc (yM #[] 244));have bk:=dU wr (yM #[J I (pv:Nat),zZ j] 243);(have Dq:O (T (wr.alloc (yM #[J I (pv:Nat),zZ j] 243)))=O (T wr)+1:=aE)
   have bB:((wr.alloc (yM #[J I (pv:Nat),zZ j] 243)).alloc (yM #[] 244)).heap[O (T wr)]? =M (yM #[J I (pv:Nat),zZ j] 243 (0,0)):=by
    rw[uP _ _ _ (by rw[Dq];omega)];exact bk
   have bX:=Fa bB;clear ax bk bB Dq GP HT bc;by_cases ab:(pv,j)∈S
   ·have bN:Maps.has D (kl (pv,j))=true:=by rw[mF.o.map.has (pv,j) (by show pv<8;omega),cJ ab]
    have vN:=Fa (Bm.o.skip ab);clear ab
    go_wp2_with (first
     |(at_lookup;refine wpList_lookup_own_unit _ rfl _ _ 239 rfl 243 244 NV underlying239 (abz _) (O (T b)) (C S) D rfl mF.o.map.own _ _ rfl az ?_))
    go_roundg ((16 - C S)*100+C Ba)
    case measure=>omega
    case rel=>exact⟨S,Ba,D,_,c,rfl,vN,aj,ah _⟩
   ·have bN:Maps.has D (kl (pv,j))=false:=by rw[mF.o.map.has (pv,j) (by show pv<8;omega),cX ab]
    have Cu:=Fa ab;clear ab
    go_wp2_with (first
     |(at_lookup;refine wpList_lookup_own_unit _ rfl _ _ 239 rfl 243 244 NV underlying239 (abz _) (O (T b)) (C S) D rfl mF.o.map.own _ _ rfl az ?_)
     |(at_mapUpdate;refine wpList_mapUpdate_own _ rfl _ _ _ 239 rfl 243 244 NV underlying239 (unitElem (H:=Unit)) (O (T b)) (C S) D rfl aj.o.map.own (by unfold maxLen;omega) _ _ _ rfl rfl az _ [] unitElem_mk ?_;intro m FD FV;have L:=Fa (aj.o.put bb.o (by rw[i];omega) (p:=(pv,j)) (by show pv<8;omega) FD FV);have QF:=Fa (TJ bX.o FV (by intro e;injection e with e;omega));obtain⟨Yc,Yb⟩:=Uo QF.o;clear FD FV))
    have ay:O (T wr)+1<=O (T m):=by
     have:=(cS.1 QF.o).1;omega
    have fp:wT (da w m):=eo.o.grown L.o.fr (by rw[i];omega) (fun k e=>by cases e;exact bu);refine(bf.o pv m al).ae ?_;rintro e q ⟨rfl,f⟩;rw[f];clear f q;by_cases hy:pv∈y
    ·rw[cJ hy];have bz:=Fa hy;clear hy;go_wp2;rw[Exit.noGoto_ret];go_ret;exact⟨y6,rfl,⟨fun _=>⟨pv,j,bz.o,bx.o⟩,fun _=>rfl⟩,fp.o⟩
    ·rw[cX hy];have Mm:=Fa hy;have AL:=Fa (bd.o m fp.o pv oh);have ai:wT (∀U:E,(b.alloc (.map #[] 0)).grownBy U (M (O (T b))) ->U.cell? ⟨O (T w),pv,N⟩=M (J yE (aA (fg P pv n):Nat))):=fun U hU=>a6.o U (O (T w)) ((hU.block (O (T w)) jF.o.lt (by intro e;injection e with e;have:=gQ.o.lt;omega)).trans jF.o) pv oh;have ak:=Fa (aR.o pv oh);have ao:=Fa (aJ.o pv oh);clear hy bf bd a6 aR aJ;generalize aA (P.getD pv [])=mu at *;generalize aA (fg P pv n)=md at *;cases j with
     |true=>
      by_cases a:pv∈z
      ·go_wp2_with fail
       refine(Gn.o pv m al).ae ?_;rintro e q ⟨rfl,f⟩;rw[f,cJ a];clear f q;go_wp2_with fail
       refine(Gn.o pv m al).ae ?_;rintro e q ⟨rfl,f⟩;rw[f,cJ a];clear f q;go_wp2;have R:=Fa (yZ.o S Ba (pv,y6) Bm.o Cu.o Mm.o);rw[Gv.o] at R;have V:=JG.o _ _ R.o;(have Bh:(if ((pv,y6).2&&!decide ((pv,y6).1∈z) ||!(pv,y6).2&&decide ((pv,y6).1∈dK P z n))=y6 then(bZ (P.getD (pv,y6).1 []) 8).map (fun u=>(u,y6)) else[])=([]:List (Nat×Bool)):=by simp[a]);(have K:(if (pv,y6).1∈z then[] else(bZ (fg P (pv,y6).1 n) 8).map (fun u=>(u,xd)))=([]:List (Nat×Bool)):=by simp[a]);rw[Bh,K] at R;rw[kq] at R;rw[kq] at R;have ad:=ly (P.getD pv []) 8;have bt:=ly (fg P pv n) 8;skip
       skip
       have ng:C Ba<=C Ba+16:=by
        skip
        skip
        (try simp only[cE,cY])
        omega
       rw[eA] at V;go_roundg ((16 - (C S+1))*100+C Ba)
       case measure=>omega
       case rel=>exact⟨_,_,_,_,_,rfl,R,L,ah _⟩
      ·go_wp2_with fail
       refine(Gn.o pv m al).ae ?_;rintro e q ⟨rfl,f⟩;rw[f,cX a];clear f q;have OA:=AL.o;go_wp2_with fail
       refine(ak.o _ _ Ba m L.o.row al (by rw[i];omega)).ae ?_;rintro e F ⟨v7,rfl,FK,B7⟩;have t:=Fa (L.o.more (by rw[i];omega) FK B7);have EG:=Fa (TJ QF.o B7.1 (fun e=>by have e':O (T wr)=g:=jO e;omega));have vO:=Fa (aM ay B7.1.size);have S3:O (T wr)+1<=O (T F):=vO.o
       have X:wT (C (Ba++(bZ (P.getD pv []) 8).map fun u=>(u,y6))<=400):=by
        have:=ly (P.getD pv []) 8;show _<=_;rw[cE,cY];omega
       obtain⟨bh,bg⟩:=Uo EG.o;clear Yc Yb FK B7 OA;obtain⟨r,Bj⟩:∃r,Ba++(bZ (P.getD pv []) 8).map (fun u=>(u,y6))=r:=⟨_,rfl⟩;rw[Bj] at t X;have Gr:=Fa Bj;have Y4:C r<=400:=X.o;clear Bj;obtain⟨d7,c7,rfl⟩:=t.o.row.shape;go_wp2_with fail
       refine(Gn.o pv F al).ae ?_;rintro e q ⟨rfl,f⟩;rw[f,cX a];clear f q;have OC:=ai.o F t.o.fr;go_wp2_with fail
       refine(ao.o _ _ r F t.o.row (by have:=X.o;omega) (by rw[i];omega)).ae ?_;rintro e w8 ⟨v8,rfl,FH,wP⟩;have B9:=Fa (t.o.more (by rw[i];omega) FH wP);clear FH wP OC;obtain⟨A,Q⟩:∃A,r++(bZ (fg P pv n) 8).map (fun u=>(u,xd))=A:=⟨_,rfl⟩;rw[Q] at B9;have Gq:=Fa Q;clear Q;obtain⟨d8,c8,rfl⟩:=B9.o.row.shape;go_wp2;have R:=Fa (yZ.o S Ba (pv,y6) Bm.o Cu.o Mm.o);rw[Gv.o] at R;have V:=JG.o _ _ R.o;(have Bh:(if ((pv,y6).2&&!decide ((pv,y6).1∈z) ||!(pv,y6).2&&decide ((pv,y6).1∈dK P z n))=y6 then(bZ (P.getD (pv,y6).1 []) 8).map (fun u=>(u,y6)) else[])=(bZ (P.getD pv []) 8).map (fun u=>(u,y6)):=by simp[a]);(have K:(if (pv,y6).1∈z then[] else(bZ (fg P (pv,y6).1 n) 8).map (fun u=>(u,xd)))=(bZ (fg P pv n) 8).map (fun u=>(u,xd)):=by simp[a]);rw[Bh,K] at R;rw[<- p9] at R;have ad:=ly (P.getD pv []) 8;have bt:=ly (fg P pv n) 8;rw[Gr.o] at R;rw[Gq.o] at R
       have ng:C A<=C Ba+16:=by
        rw[<- Gq.o];rw[<- Gr.o];(try simp only[cE,cY])
        omega
       rw[eA] at V;go_roundg ((16 - (C S+1))*100+C A)
       case measure=>omega
       case rel=>exact⟨_,_,_,_,_,rfl,R,B9,ah _⟩
     |false=>
      by_cases ha:pv∈dK P z n
      ·by_cases a:pv∈z
       ·go_wp2_with fail
        refine(U3.o pv m al).ae ?_;rintro e q ⟨rfl,f⟩;rw[f,cJ ha];clear f q;have OA:=AL.o;go_wp2_with fail
        refine(ak.o _ _ Ba m L.o.row al (by rw[i];omega)).ae ?_;rintro e F ⟨v7,rfl,FK,B7⟩;have t:=Fa (L.o.more (by rw[i];omega) FK B7);have EG:=Fa (TJ QF.o B7.1 (fun e=>by have e':O (T wr)=g:=jO e;omega));have vO:=Fa (aM ay B7.1.size);have S3:O (T wr)+1<=O (T F):=vO.o
        have X:wT (C (Ba++(bZ (P.getD pv []) 8).map fun u=>(u,y6))<=400):=by
         have:=ly (P.getD pv []) 8;show _<=_;rw[cE,cY];omega
        obtain⟨bh,bg⟩:=Uo EG.o;clear Yc Yb FK B7 OA;obtain⟨r,Bj⟩:∃r,Ba++(bZ (P.getD pv []) 8).map (fun u=>(u,y6))=r:=⟨_,rfl⟩;rw[Bj] at t X;have Gr:=Fa Bj;have Y4:C r<=400:=X.o;clear Bj;obtain⟨d7,c7,rfl⟩:=t.o.row.shape;go_wp2_with fail
        refine(Gn.o pv F al).ae ?_;rintro e q ⟨rfl,f⟩;rw[f,cJ a];clear f q;go_wp2;have R:=Fa (yZ.o S Ba (pv,xd) Bm.o Cu.o Mm.o);rw[Gv.o] at R;have V:=JG.o _ _ R.o;(have Bh:(if ((pv,xd).2&&!decide ((pv,xd).1∈z) ||!(pv,xd).2&&decide ((pv,xd).1∈dK P z n))=y6 then(bZ (P.getD (pv,xd).1 []) 8).map (fun u=>(u,y6)) else[])=(bZ (P.getD pv []) 8).map (fun u=>(u,y6)):=by simp[ha]);(have K:(if (pv,xd).1∈z then[] else(bZ (fg P (pv,xd).1 n) 8).map (fun u=>(u,xd)))=([]:List (Nat×Bool)):=by simp[a]);rw[Bh,K] at R;rw[kq] at R;have ad:=ly (P.getD pv []) 8;have bt:=ly (fg P pv n) 8;rw[Gr.o] at R;skip
        have ng:C r<=C Ba+16:=by
         skip
         rw[<- Gr.o];(try simp only[cE,cY])
         omega
        rw[eA] at V;go_roundg ((16 - (C S+1))*100+C r)
        case measure=>omega
        case rel=>exact⟨_,_,_,_,_,rfl,R,t,ah _⟩
       ·go_wp2_with fail
        refine(U3.o pv m al).ae ?_;rintro e q ⟨rfl,f⟩;rw[f,cJ ha];clear f q;have OA:=AL.o;go_wp2_with fail
        refine(ak.o _ _ Ba m L.o.row al (by rw[i];omega)).ae ?_;rintro e F ⟨v7,rfl,FK,B7⟩;have t:=Fa (L.o.more (by rw[i];omega) FK B7);have EG:=Fa (TJ QF.o B7.1 (fun e=>by have e':O (T wr)=g:=jO e;omega));have vO:=Fa (aM ay B7.1.size);have S3:O (T wr)+1<=O (T F):=vO.o
        have X:wT (C (Ba++(bZ (P.getD pv []) 8).map fun u=>(u,y6))<=400):=by
         have:=ly (P.getD pv []) 8;show _<=_;rw[cE,cY];omega
        obtain⟨bh,bg⟩:=Uo EG.o;clear Yc Yb FK B7 OA;obtain⟨r,Bj⟩:∃r,Ba++(bZ (P.getD pv []) 8).map (fun u=>(u,y6))=r:=⟨_,rfl⟩;rw[Bj] at t X;have Gr:=Fa Bj;have Y4:C r<=400:=X.o;clear Bj;obtain⟨d7,c7,rfl⟩:=t.o.row.shape;go_wp2_with fail
        refine(Gn.o pv F al).ae ?_;rintro e q ⟨rfl,f⟩;rw[f,cX a];clear f q;have OC:=ai.o F t.o.fr;go_wp2_with fail
        refine(ao.o _ _ r F t.o.row (by have:=X.o;omega) (by rw[i];omega)).ae ?_;rintro e w8 ⟨v8,rfl,FH,wP⟩;have B9:=Fa (t.o.more (by rw[i];omega) FH wP);clear FH wP OC;obtain⟨A,Q⟩:∃A,r++(bZ (fg P pv n) 8).map (fun u=>(u,xd))=A:=⟨_,rfl⟩;rw[Q] at B9;have Gq:=Fa Q;clear Q;obtain⟨d8,c8,rfl⟩:=B9.o.row.shape;go_wp2;have R:=Fa (yZ.o S Ba (pv,xd) Bm.o Cu.o Mm.o);rw[Gv.o] at R;have V:=JG.o _ _ R.o;(have Bh:(if ((pv,xd).2&&!decide ((pv,xd).1∈z) ||!(pv,xd).2&&decide ((pv,xd).1∈dK P z n))=y6 then(bZ (P.getD (pv,xd).1 []) 8).map (fun u=>(u,y6)) else[])=(bZ (P.getD pv []) 8).map (fun u=>(u,y6)):=by simp[ha]);(have K:(if (pv,xd).1∈z then[] else(bZ (fg P (pv,xd).1 n) 8).map (fun u=>(u,xd)))=(bZ (fg P pv n) 8).map (fun u=>(u,xd)):=by simp[a]);rw[Bh,K] at R;rw[<- p9] at R;have ad:=ly (P.getD pv []) 8;have bt:=ly (fg P pv n) 8;rw[Gr.o] at R;rw[Gq.o] at R
        have ng:C A<=C Ba+16:=by
         rw[<- Gq.o];rw[<- Gr.o];(try simp only[cE,cY])
         omega
        rw[eA] at V;go_roundg ((16 - (C S+1))*100+C A)
        case measure=>omega
        case rel=>exact⟨_,_,_,_,_,rfl,R,B9,ah _⟩
      ·by_cases a:pv∈z
       ·go_wp2_with fail
        refine(U3.o pv m al).ae ?_;rintro e q ⟨rfl,f⟩;rw[f,cX ha];clear f q;go_wp2_with fail
        refine(Gn.o pv m al).ae ?_;rintro e q ⟨rfl,f⟩;rw[f,cJ a];clear f q;go_wp2;have R:=Fa (yZ.o S Ba (pv,xd) Bm.o Cu.o Mm.o);rw[Gv.o] at R;have V:=JG.o _ _ R.o;(have Bh:(if ((pv,xd).2&&!decide ((pv,xd).1∈z) ||!(pv,xd).2&&decide ((pv,xd).1∈dK P z n))=y6 then(bZ (P.getD (pv,xd).1 []) 8).map (fun u=>(u,y6)) else[])=([]:List (Nat×Bool)):=by simp[ha]);(have K:(if (pv,xd).1∈z then[] else(bZ (fg P (pv,xd).1 n) 8).map (fun u=>(u,xd)))=([]:List (Nat×Bool)):=by simp[a]);rw[Bh,K] at R;rw[kq] at R;rw[kq] at R;have ad:=ly (P.getD pv []) 8;have bt:=ly (fg P pv n) 8;skip
        skip
        have ng:C Ba<=C Ba+16:=by
         skip
         skip
         (try simp only[cE,cY])
         omega
        rw[eA] at V;go_roundg ((16 - (C S+1))*100+C Ba)
        case measure=>omega
        case rel=>exact⟨_,_,_,_,_,rfl,R,L,ah _⟩
       ·go_wp2_with fail
        refine(U3.o pv m al).ae ?_;rintro e q ⟨rfl,f⟩;rw[f,cX ha];clear f q;go_wp2_with fail
        refine(Gn.o pv m al).ae ?_;rintro e q ⟨rfl,f⟩;rw[f,cX a];clear f q;have OC:=ai.o m L.o.fr;go_wp2_with fail
        refine(ao.o _ _ Ba m L.o.row al (by rw[i];omega)).ae ?_;rintro e w8 ⟨v8,rfl,FH,wP⟩;have B9:=Fa (L.o.more (by rw[i];omega) FH wP);clear FH wP OC;obtain⟨A,Q⟩:∃A,Ba++(bZ (fg P pv n) 8).map (fun u=>(u,xd))=A:=⟨_,rfl⟩;rw[Q] at B9;have Gq:=Fa Q;clear Q;obtain⟨d8,c8,rfl⟩:=B9.o.row.shape;go_wp2;have R:=Fa (yZ.o S Ba (pv,xd) Bm.o Cu.o Mm.o);rw[Gv.o] at R;have V:=JG.o _ _ R.o;(have Bh:(if ((pv,xd).2&&!decide ((pv,xd).1∈z) ||!(pv,xd).2&&decide ((pv,xd).1∈dK P z n))=y6 then(bZ (P.getD (pv,xd).1 []) 8).map (fun u=>(u,y6)) else[])=([]:List (Nat×Bool)):=by simp[ha]);(have K:(if (pv,xd).1∈z then[] else(bZ (fg P (pv,xd).1 n) 8).map (fun u=>(u,xd)))=(bZ (fg P pv n) 8).map (fun u=>(u,xd)):=by simp[a]);rw[Bh,K] at R;rw[gS] at R;have ad:=ly (P.getD pv []) 8;have bt:=ly (fg P pv n) 8;skip
        rw[Gq.o] at R
        have ng:C A<=C Ba+16:=by
         rw[<- Gq.o];skip
         (try simp only[cE,cY])
         omega
        rw[eA] at V;go_roundg ((16 - (C S+1))*100+C A)
        case measure=>omega
        case rel=>exact⟨_,_,_,_,_,rfl,R,B9,ah _⟩
variable {U:E}
def ApR (L:List Kx) (x y z:Kx) (e:Ending):Prop:=
 (bq L≠0/\e=yW (zp #[zZ xd,J I (bq L)]))∨(bq L=0/\jE (C L) [x,y,z]=xd/\e=yW (zp #[zZ xd,J I 11]))∨
 (bq L=0/\jE (C L) [x,y,z]=y6/\e=yW (zp #[zZ (!ug L x y z),J I 0]))
theorem Wv {bx by' bz:Kd} {cx cy cz:Nat} {x y z:Kx} (b:aB U bx x) (c:aB U by' y) (d:aB U bz z):dP (U.alloc (yM #[Z bx (C x) cx,Z by' (C y) cy,Z bz (C z) cz] 27)) (M ⟨O (T U),0,N⟩) [x,y,z]:=fun k a=>by
 have h:=(au (O (T U)) U).alloc (ah _) (yM #[Z bx (C x) cx,Z by' (C y) cy,Z bz (C z) cz] 27);have e:=dU U (yM #[Z bx (C x) cx,Z by' (C y) cy,Z bz (C z) cz] 27);have l:=(cS.1 e).1;match k,a with
 |0,_=>exact⟨_,0,bx,cx,rfl,l,by rw[ba _ (O (T U)) _ _ _ (0,0) e];rfl,b.aa h⟩
 |1,_=>exact⟨_,0,by',cy,rfl,l,by rw[ba _ (O (T U)) _ _ _ (0,0) e];rfl,c.aa h⟩
 |2,_=>exact⟨_,0,bz,cz,rfl,l,by rw[ba _ (O (T U)) _ _ _ (0,0) e];rfl,d.aa h⟩
theorem aq8 (a bx by' bz:Kd) (ca cx cy cz:Nat) (L:List Kx) (x y z:Kx) (w:E) (h:dP w a L) (hl:∀l∈L,C l<=140737488355328) (hx:aB w bx x) (hy:aB w by' y) (hz:aB w bz z) (vd:C x<=140737488355328) (zI:C y<=140737488355328) (bg:C z<=140737488355328):
  c6 124 #[Z a (C L) ca,Z bx (C x) cx,Z by' (C y) cy,Z bz (C z) cz] w fun e w'=>da w w'/\ApR L x y z e:=by
 have HR:=Fa (TU a ca L w h hl);have sL:wT (∀U:E,da w U ->dP (U.alloc (yM #[Z bx (C x) cx,Z by' (C y) cy,Z bz (C z) cz] 27)) (M ⟨O (T U),0,N⟩) [x,y,z]):=fun U f=>Wv (hx.aa f) (hy.aa f) (hz.aa f)
 have yO:wT (bq L=0 ->∀(G:Nat) (U:E),dP U (M ⟨G,0,N⟩) [x,y,z] ->c6 177 #[Z (M ⟨G,0,N⟩) 3 3,J I (C L:Nat)] U fun e w'=>da U w'/\
   ((kK [x,y,z] (C L)=y6/\∃G,e=yW (zp #[Z (M ⟨G,0,N⟩) 3 3,zZ y6])/\U.heap.size<=G/\dt w' G (jw [x,y,z]))∨(kK [x,y,z] (C L)=xd/\e=yW (zp #[Z N 0 0,zZ xd])))):=fun g G U f=>acX (M ⟨G,0,N⟩) 3 (C L) [x,y,z] U f aE (mj (vE g).1).2.1 (fun l an=>by
  simp only[bY,gK,jq] at an;rcases an with rfl |rfl |rfl<;>assumption)
 have bh:kK [x,y,z] (C L)=y6 ->Up x (C L)/\Up y (C L)/\Up z (C L):=fun d=>⟨lr (fM.1 d x aE),lr (fM.1 d y aE),lr (fM.1 d z aE)⟩
 have Q:wT (bq L=0 ->kK [x,y,z] (C L)=y6 ->∀(G c:Nat) (U:E),dt U G (jw L) ->c6 178 #[Z (M ⟨G,0,N⟩) (C L) c,J yE (aA (af x):Nat),J yE (aA (af y):Nat),J yE (aA (af z):Nat)] U fun e w'=>∃q,e=yW (zZ q)/\(jE (C L) [x,y,z]=y6 ->q=ug L x y z)/\da U w'):=fun g d G c U f=>by
  have ab:=(vE g).1;have h8:=(mj ab).2.1;obtain⟨j,k,h3⟩:=bh d;rw[Iu] at f;refine(apx G (C L) c (aH L) (af x) (af y) (af z) U (j5 L) h8 f (fun v u m=>Kz ab m) (Ky ab) (uR j) (uR k) (uR h3)).ae ?_;rintro e w' ⟨q,rfl,Ba,hb⟩;exact⟨q,rfl,fun bb=>wm.2 (Ba.trans (aek g h8 bb).symm),hb⟩
 have P:wT (kK [x,y,z] (C L)=y6 ->(jE (C L) [x,y,z]=y6↔aA ((af x).filter fun v=>decide (v∈af y))=0/\aA ((af x++af y).filter fun v=>decide (v∈af z))=0)):=aiu;have R:wT (kK [x,y,z] (C L)=xd ->jE (C L) [x,y,z]=xd):=fun d=>by rw[jE,d];rfl
 have V:wT (bq L=0 ->kK [x,y,z] (C L)=y6 ->bits BinOp.and IntKind.u32 (aA (af x):Nat) (aA (af y):Nat)=((aA ((af x).filter fun v=>decide (v∈af y)):Nat):Int)/\bits BinOp.or IntKind.u32 (aA (af x):Nat) (aA (af y):Nat)=((aA (af x++af y):Nat):Int)/\bits BinOp.and IntKind.u32 (aA (af x++af y):Nat) (aA (af z):Nat)=((aA ((af x++af y).filter fun v=>decide (v∈af z)):Nat):Int)):=fun g d=>by
  have h8:=(mj (vE g).1).2.1;obtain⟨j,k,h3⟩:=bh d;have n:∀u∈af x,u<8:=fun u m=>by have:=uR j u m;omega
  have s:∀u∈af y,u<8:=fun u m=>by have:=uR k u m;omega
  have k3:∀u∈af z,u<8:=fun u m=>by have:=uR h3 u m;omega
  exact⟨aih _ _ n s,Uq _ _ n s,aih _ _ (aaS n s) k3⟩
 have X:wT (jw [x,y,z]=[aA (af x),aA (af y),aA (af z)]):=rfl;clear h hl hx hy hz bh;go_enter func124,ntmps124;go_wp2_with fail
 refine HR.o.ae ?_;rintro e B7 ⟨K,⟨g,G,rfl,hG,f⟩ |⟨g,rfl⟩⟩
 ·have Bb:=Fa K;have D:=Fa g;have HU:=Fa f;have ir:=Fa (yO.o g (O (T B7)) _ (sL.o B7 K));have hA:=(au (O (T B7)) B7).alloc (ah _) (yM #[Z bx (C x) cx,Z by' (C y) cy,Z bz (C z) cz] 27);have A:=Fa hA;clear K hA HR yO sL g f;go_wp2_with fail
  refine ir.o.ae ?_;rintro e t ⟨B9,⟨d,b,rfl,Ln,Bm⟩ |⟨d,rfl⟩⟩
  ·have Y:=Fa ((Bb.o.trans (A.o.ae Bb.o.size)).trans (B9.ae (aM Bb.o.size A.o.size)));obtain⟨bc,yr,aR⟩:=V.o D.o d;have F:=P.o d;have aj:dt t G (jw L):=((HU.o.aa A.o HU.o.lt)).aa B9 (aT HU.o.lt A.o.size);have aJ:=Fa aj;rw[X.o] at Bm;have Jm:=Fa Bm;have k0:=Bm.cell 0 aE;have n:=Bm.cell 1 aE;have s:=Bm.cell 2 aE;have a1:=Fa (Q.o D.o d G (C L));simp only[List.getElem_cons_zero,VX] at k0 n s;clear d B9 ir Q P V X R Bm aj;generalize aA ((af x).filter fun v=>decide (v∈af y))=ay at *;generalize aA ((af x++af y).filter fun v=>decide (v∈af z))=ai at *;generalize aA (af x++af y)=mu at *;generalize aA (af x)=H at *;generalize aA (af y)=Bj at *;generalize aA (af z)=Bh at *;by_cases j:ay=0
   ·by_cases k:ai=0
    ·have i:=Fa (F.2 ⟨j,k⟩);subst j;subst k;clear F;go_upto_region 7 with (go_quiet (fail))
     have aI:wT (dt (t.drewN nq) b [H,Bj,Bh]):=Jm.o;have a6:wT (dt (t.drewN nq).drew G (jw L)):=aJ.o;have eo:=Fa (below_drewN Y.o nq);have av:(t.drewN nq).drew.cell? ⟨b,0,N⟩=M (J yE (H:Nat)):=k0;have ax:(t.drewN nq).drew.cell? ⟨b,1,N⟩=M (J yE (Bj:Nat)):=n;have NW:(t.drewN nq).drew.cell? ⟨b,2,N⟩=M (J yE (Bh:Nat)):=s;clear k0 n s bc yr aR;generalize t.drewN nq=W3 at *;have ZQ:=aI.o.lt;have az:wT (∀U:E,Below (O (T W3.drew)) W3.drew U ->U.cell? ⟨b,0,N⟩=M (J yE (H:Nat))/\U.cell? ⟨b,1,N⟩=M (J yE (Bj:Nat))/\U.cell? ⟨b,2,N⟩=M (J yE (Bh:Nat))):=fun U f=>⟨(f.cell (p:=⟨b,0,N⟩) ZQ).trans av,(f.cell (p:=⟨b,1,N⟩) ZQ).trans ax,(f.cell (p:=⟨b,2,N⟩) ZQ).trans NW⟩;refine iK (S:=fun U=>U.cell? ⟨b,0,N⟩=M (J yE (H:Nat))/\U.cell? ⟨b,1,N⟩=M (J yE (Bj:Nat))/\U.cell? ⟨b,2,N⟩=M (J yE (Bh:Nat))) ao ⟨av,ax,NW⟩ (fun aq=>?_);refine ar 0 (Z (M ⟨G,0,N⟩) (C L) (C L)) ?_;refine ar 1 (Z (M ⟨b,0,N⟩) 3 3) ?_;refine ar 2 (zR (M ⟨b,0,N⟩)) ?_;refine ar 3 (J yE (H:Nat)) ?_;refine ar 4 (Z (M ⟨b,0,N⟩) 3 3) ?_;refine ar 5 (zR (M ⟨b,1,N⟩)) ?_;refine ar 6 (J yE (Bj:Nat)) ?_;refine ar 7 (Z (M ⟨b,0,N⟩) 3 3) ?_;refine ar 8 (zR (M ⟨b,2,N⟩)) ?_;refine ar 9 (J yE (Bh:Nat)) ?_;refine aF [10] (cA ?_ aG);intro K' al;go_simp
     refine(a1.o W3.drew a6.o).ae ?_;rintro r w5 ⟨q,rfl,Ba,ad⟩;refine al.o _ _ (az.o w5 ad) (fun ak=>?_);clear al K' aq;refine ar 11 (zZ (!q)) ?_;refine ar 12 (zZ (!q)) ?_;refine ar 13 (J I 0) ?_;(try simp only[gE,aP]);refine eO ao ?_ _;clear ak;have fp:wT (da w w5):=eo.o.drew.trans (ad.ae eo.o.drew.size);have HQ:=Fa (Ba i.o);clear Ba ad;go_wp2;go_ret2;exact⟨fp.o,yk (yk ⟨D.o,i.o,by rw[HQ.o];rfl⟩)⟩
    ·have i:wT (jE (C L) [x,y,z]=xd):=V4.2 fun e=>k (F.1 e).2;subst j;(have bf:((ai:Int)==0)=false:=by simp;omega);clear F;go_wp2_with (go_quiet (fail))
     go_ret2;exact⟨below_drewN Y.o _,yk (yd ⟨D.o,i.o,rfl⟩)⟩
   ·have i:wT (jE (C L) [x,y,z]=xd):=V4.2 fun e=>j (F.1 e).1;(have bd:((ay:Int)==0)=false:=by simp;omega);clear F;go_wp2_with (go_quiet (fail))
    go_ret2;exact⟨below_drewN Y.o _,yk (yd ⟨D.o,i.o,rfl⟩)⟩
  ·have i:=Fa (R.o d);have Y:=Fa ((Bb.o.trans (A.o.ae Bb.o.size)).trans (B9.ae (aM Bb.o.size A.o.size)));clear d B9 ir Q P V X R;go_wp2_with (go_quiet (fail))
   go_ret2;exact⟨below_drewN Y.o _,yk (yd ⟨D.o,i.o,rfl⟩)⟩
 ·have Qx:=Fa g;have Bb:=Fa K;have ab:(bq L==0)=false:=by simpa using g
  clear g K sL yO Q P R V X HR;generalize hge:bq L=ge at *;have Qy:=Fa hge;clear hge;go_wp2;go_ret2;exact⟨Bb.o,yd ⟨by rw[Qy.o];exact Qx.o,by rw[Qy.o];rfl⟩⟩
theorem ajS (h:Up l n):C l<=n:=by
 have e:(af l).Nodup:=CN.2 (zq.2 fun i j a b q=>by
  have d:=h.lt i j b q;have f:=h.each i a;omega)
 have:=Fh e (m:=List.range n) fun x c=>by
  have:=uR h x c;exact bS.2 this
 simpa [af] using this
structure vJ (L Ls:List Kx) (i:Nat) (bn:Kx):Prop where
 ok:0< i ->bq L=0
 ris:∀l∈Ls.take i,ei l (C L)=y6
 nd:(Ls.take i).flatten.Nodup
 up:Up bn (C L)
 mem:∀x,x∈bn↔x∈(Ls.take i).flatten
theorem vJ.start (L Ls:List Kx):vJ L Ls 0 []:=⟨fun h=>absurd h al,(fun l a=>by cases a),aE,⟨fun i h=>absurd h aE,fun i j h=>absurd h aE⟩,fun x=>aE⟩
theorem Wx (h:i<C Ls):(Ls.take (i+1)).flatten=(Ls.take i).flatten++Ls[i]:=by
 rw[gR h,List.flatten_append];simp
theorem vJ.disj {bn:Kx} (h:vJ L Ls i bn) (g:i<C Ls) (r:ei Ls[i] (C L)=y6) (f:∀x∈Ls[i],¬x∈bn):(bn++Ls[i]).Nodup:=by
 refine nT.2 ⟨CX h.up,CX (lr r),fun a c b d e=>?_⟩;subst e;exact f a d c
theorem vJ.next {bn:Kx} (h:vJ L Ls i bn) (d:i<C Ls) (k:bq L=0) (r:ei Ls[i] (C L)=y6) (j:∀x∈Ls[i],¬x∈bn):vJ L Ls (i+1) (aU bn Ls[i]):=by
 have u:=lr r;refine⟨fun _=>k,fun l c=>?_,?_,Hy h.up u,fun x=>?_⟩
 ·rw[gR d] at c;rcases bE.1 c with c |c
  ·exact h.ris l c
  ·rw[bA.1 c];exact r
 ·rw[Wx d];refine nT.2 ⟨h.nd,CX u,fun a f b g e=>?_⟩;subst e;exact j a g ((h.mem a).2 f)
 ·rw[(C1 _ _).2,Wx d,bE,h.mem]
theorem vJ.twice {bn:Kx} (h:vJ L Ls i bn) (c:i<C Ls) {x:Int} (d:x∈Ls[i]) (b:x∈bn):jE (C L) Ls=false:=by
 refine V4.2 fun e=>?_;have n:=(D9.1 e).2;rw[<- zo (i+1) Ls,List.flatten_append,Wx c] at n;have a:=(nT.1 (nT.1 n).1).2.2;exact a x ((h.mem x).1 b) x d rfl
theorem vJ.fin {bn:Kx} (h:vJ L Ls (C Ls) bn) (p:0<C Ls):kA L Ls=0:=by
 have a:=h.ris;have b:=h.nd;rw[iD] at a b;rw[kA,aw (h.ok p),aw (D9.2 ⟨a,b⟩)]
theorem acG (g:bq L=0) (h:jE (C L) Ls=xd):kA L Ls=11:=by rw[kA,aw g,aC (by rw[h];decide)]
theorem akQ (g:bq L≠0):kA L Ls=bq L:=by rw[kA,aC g]
theorem atO (a:i<C Ls) (h:ei Ls[i] n=xd):jE n Ls=false:=V4.2 fun e=>by
 have:=(D9.1 e).1 _ (bU a);rw[h] at this;cases this
theorem ano {m:Kx}:C (fN l m)<C l↔∃x∈l,x∈m:=by
 rw[fN];constructor
 ·intro h;refine zt fun n=>?_;have e:l.filter (fun u=>decide (¬u∈m))=l:=List.filter_eq_self.2 fun x b=>cJ fun a=>n ⟨x,b,a⟩;rw[e] at h;omega
 ·rintro⟨x,b,a⟩;exact List.length_filter_lt_length_iff_exists.2 ⟨x,b,by simp[a]⟩
theorem alk (a s:Kd) (ca cs:Nat) (L Ls:List Kx) (w:E) (h:dP w a L) (hl:∀l∈L,C l<=140737488355328) (hs:dP w s Ls) (V:pP w s Ls) (B7:∀l∈Ls,C l<=1000) (hp:0<C Ls) (YR:C Ls<=8):
  c6 73 #[Z a (C L) ca,Z s (C Ls) cs] w (dj w (J I (kA L Ls))):=by
 have HF:wT (∀i (v:i<C Ls),∃g o b c,s=M ⟨g,o,N⟩/\g<O (T w)/\w.cell? ⟨g,o+i,N⟩=M (Z b Ls[i].length c)/\aB w b Ls[i]/\(b=N ->c=0)):=fun i v=>by
  obtain⟨g,o,b,c,h1,h2,h3,h4⟩:=hs i v;exact⟨g,o,b,c,h1,h2,h3,h4,V i v g o b _ c h1 h3⟩
 have AE:=Fa B7;have vW:=Fa (fun (b:Kd) (cb:Nat) (l:Kx) (U:E) (hU:da w U) (m:aB U b l) (hn:C l<=1000)=>aac a b ca cb L l U (h.aa hU) hl m al);have Co:wT (bq L=0 ->C L<=8):=fun F=>(mj (vE F).1).2.1;have kZ:=Fa (vJ.start L Ls);have y:wT (∀n,kA L Ls=n ->(Ending.returned (J I n))=yW (J I (kA L Ls))):=fun n e=>by rw[e]
 clear h hl hs V B7;go_enter func73,ntmps73;go_wp2_with fail
 go_loopw [5,12] (fun bv iv wr=>∃(i:Nat) (bn:Kx) (d:Kd) (c:Nat),i<=C Ls/\iv=J I i/\bv=Z d (C bn) c/\wT (vJ L Ls i bn)/\wT (aB wr d bn)/\wT (d=N ->c=0)/\wT (da w wr)) (fun _ iv _=>C Ls - (intOf iv).toNat)
 case atStart=>exact⟨0,[],N,0,aV _,rfl,rfl,kZ,(fun k hk=>absurd hk aE),(fun _=>rfl),au _ _⟩
 case round=>
  obtain⟨i,bn,d,c,v,rfl,rfl,t,Q,JJ,H⟩:=hrel;clear kZ;by_cases q:i<C Ls
  ·obtain⟨g,o,b,cb,rfl,F,hc,m,aj⟩:=HF.o i q;have kc:wr.cell? ⟨g,o+i,N⟩=M (Z b Ls[i].length cb):=(H.o.cell (p:=⟨g,_,N⟩) F).trans hc;have az:=AE.o _ (bU q);have P:=Fa (vW.o b cb Ls[i] wr H.o (m.aa H.o) az);have X:=Fa (m.aa H.o);have sN:=Fa aj;have ax:wT (ei Ls[i] (C L)=xd ->jE (C L) Ls=xd):=atO q;have aq:wT (∀x∈Ls[i],x∈bn ->jE (C L) Ls=xd):=fun x u m=>t.o.twice q u m;have ao:wT (ei Ls[i] (C L)=y6 ->(∀x∈Ls[i],¬x∈bn) ->(bn++Ls[i]).Nodup):=t.o.disj q;have vR:wT (bq L=0 ->ei Ls[i] (C L)=y6 ->(∀x∈Ls[i],¬x∈bn) ->vJ L Ls (i+1) (aU bn Ls[i])):=t.o.next q;have QG:=Fa (ajS t.o.up);clear hc m aj t;generalize Ls[i]=f at *;go_wp2_with fail
   refine P.o.ae ?_;rintro e w1 ⟨ay,z⟩;have Bb:=Fa (H.o.trans (z.ae H.o.size));have Bm:=Fa (Q.o.aa z);have Bh:=Fa (X.o.aa z);clear z P Q X kc;rcases ay with ⟨j,rfl⟩ |⟨j,r,rfl⟩ |⟨j,r,d2,Ul,rfl,qY⟩
   ·have aJ:(bq L==0)=false:=by simpa using j
    have R:=Fa (y.o _ (akQ j));clear j;generalize bq L=ge at *;go_wp2;go_ret;exact⟨R.o,Bb.o⟩
   ·have R:=Fa (y.o _ (acG j (ax.o r)));clear j r;go_wp2;go_ret;exact⟨R.o,Bb.o⟩
   ·have aI:C bn<=8:=aM QG.o (Co.o j);have S:=Fa (Xs b d cb c f bn w1 Bh.o Bm.o al al);have K:wT (C (fN f bn)<C f↔∃x∈f,x∈bn):=ano;have rB:=Fa j;have ab:=Fa r;generalize (C (fW (dK (aH L) (af f) (C L))))=ml at *;generalize (C (fN f bn))=ol at *;clear qY j r;go_wp2_with fail
    refine S.o.ae ?_;rintro e w2 ⟨d3,c3,rfl,_,_,A⟩;have Y:=Fa (Bb.o.trans (A.ae Bb.o.size));have AO:=Fa (Bm.o.aa A);have av:=Fa (Bh.o.aa A);clear A S Bm Bh;by_cases ad:ol<C f
    ·have R:=Fa (y.o _ (acG rB.o (by obtain⟨x,u,Bj⟩:=K.o.1 ad;exact aq.o x u Bj)));go_wp2;go_ret;exact⟨R.o,Y.o⟩
    ·have D:∀x∈f,¬x∈bn:=fun x u Bj=>ad (K.o.2 ⟨x,u,Bj⟩);have Ba:=Fa (ab8 d b c cb bn f w2 AO.o av.o JJ.o sN.o al al (ao.o ab.o D));have HN:=Fa (vR.o rB.o ab.o D);clear D;go_wp2_with fail
     refine Ba.o.ae ?_;rintro e w3 ⟨d4,c4,rfl,B9,ai,ak⟩;have eo:=Fa (Y.o.trans (ak.ae Y.o.size));have JA:=Fa B9;have an:=Fa ai;clear B9 ai ak Ba;go_wp2;go_roundw
     case rel=>exact⟨i+1,_,d4,c4,al,bd,rfl,HN,JA,an,eo⟩
     case measure=>simp[intOf];omega
  ·obtain rfl:i=C Ls:=al
   have R:=Fa (y.o _ (t.o.fin hp));go_wp2;go_ret;exact⟨R.o,H.o⟩
theorem atp (a bx by' bz:Kd) (ca cx cy cz:Nat) (L:List Kx) (x y z:Kx) (w:E) (h:dP w a L) (b:∀l∈L,C l<=140737488355328) (c:aB w bx x) (d:aB w by' y) (f:aB w bz z) (v:C x<=140737488355328) (Bj:C y<=140737488355328) (j:C z<=140737488355328) (g:bq L=0) (p:jE (C L) [x,y,z]=y6):
  c6 75 #[Z a (C L) ca,Z bx (C x) cx,Z by' (C y) cy,Z bz (C z) cz] w (dj w (zZ (!ug L x y z))):=by
 have A:wT (c6 124 #[Z a (C L) ca,Z bx (C x) cx,Z by' (C y) cy,Z bz (C z) cz] w fun e w'=>e=yW (zp #[zZ (!ug L x y z),J I 0])/\da w w'):=(aq8 a bx by' bz ca cx cy cz L x y z w h b c d f v Bj j).ae fun e w' h=>by
  rcases h.2 with ⟨k,_⟩ |⟨_,k,_⟩ |⟨_,_,k⟩
  ·exact absurd g k
  ·rw[p] at k;cases k
  ·exact⟨k,h.1⟩
 clear h b c d f g p;generalize (!ug L x y z)=q at *;go_enter func75,ntmps75;go_wp2_with fail
 refine A.o.ae ?_;rintro e m ⟨rfl,i⟩;have H:=Fa i;clear i;go_wp2;go_ret;exact⟨rfl,H.o⟩
theorem XY {s:Ja} {u:Nat} (a:u<8):(fW s).contains (u:Int)=decide (u∈s):=by
 refine wm.2 ?_;rw[CR,eP,fW,iL,aN];constructor
 ·rintro⟨v,b,e⟩;obtain rfl:v=u:=al
  exact(uZ.1 b).2
 ·exact fun h=>⟨u,uZ.2 ⟨a,h⟩,rfl⟩
theorem atj (a b:Kd) (ca cb u:Nat) (L:List Kx) (l:Kx) (w:E) (h:dP w a L) (m:∀l∈L,C l<=140737488355328) (i:aB w b l) (B9:C l<=140737488355328) (g:bq L=0) (r:ei l (C L)=y6) (D:u<C L):
  c6 74 #[Z a (C L) ca,J I (u:Nat),Z b (C l) cb] w (dj w (zZ (xp L u (af l)))):=by
 have v:=(mj (vE g).1).2.1
 have A:wT (c6 78 #[Z a (C L) ca,Z b (C l) cb] w fun e w'=>∃d c,e=yW (zp #[Z d (C (fW (dK (aH L) (af l) (C L)))) c,J I 0])/\aB w' d (fW (dK (aH L) (af l) (C L)))/\da w w'):=(aac a b ca cb L l w h m i B9).ae fun e w' h=>by
  rcases h.1 with ⟨k,_⟩ |⟨_,k,_⟩ |⟨_,_,d,c,k,y⟩
  ·exact absurd g k
  ·rw[r] at k;cases k
  ·exact⟨d,c,k,y,h.2⟩
 have f:wT ((fW (dK (aH L) (af l) (C L))).contains (u:Int)=xp L u (af l)):=by
  show _=_;rw[XY al];refine wm.2 ?_;rw[eP,PN g v (uR (lr r))]
 have Q:wT (C (fW (dK (aH L) (af l) (C L)))<=8):=by
  show _<=_;have:=ly (dK (aH L) (af l) (C L)) 8;rw[fW,bR];exact this
 have t:=Fa (fun (d:Kd) (c:Nat) (U:E) (x:aB U d (fW (dK (aH L) (af l) (C L))))=>Nj d c (fW (dK (aH L) (af l) (C L))) (u:Nat) U x (by have:=Q.o;omega));rw[f.o] at t;clear h m i g r;generalize fW (dK (aH L) (af l) (C L))=Bm at *;generalize xp L u (af l)=q at *;go_enter func74,ntmps74;go_wp2_with fail
 refine A.o.ae ?_;rintro e z ⟨d,c,rfl,j,n⟩;have H:=Fa n;have s:=Fa (t.o d c z j);clear n j t f Q A;go_wp2_with fail
 refine s.o.ae ?_;rintro e F ⟨rfl,p⟩;have Y:=Fa (H.o.trans (p.ae H.o.size));clear p;go_wp2;go_ret;exact⟨rfl,Y.o⟩
variable {R:List (List Fr)} {ws:Ja} {m:Nat} {Pa:Nat ->Nat ->Prop}
def zF (l:List (Nat×Nat)):List (Int×Int):=l.map fun p=>((p.1:Int),(p.2:Int))
theorem AY (l:List (Nat×Nat)):C (zF l)=C l:=by simp[zF]
structure fL (S:Ja) (n:Nat) (l:List (Nat×Nat)):Prop where
 nd:(l.map (·.1)).Nodup
 lt:∀p∈l,p.1<n
 val:∀p∈l,p.2<sz S p.1
theorem arS (h:mo V L R F=0):aS V L R=0/\∃l,F=zF l/\fL (ag V) (C V) l:=by
 have n:aS V L R=0:=by
  by_cases e:aS V L R=0
  ·exact e
  ·rw[mo,aC e] at h;exact h
 rw[mo,aw n] at h;have z:=DY h
 have g:∀i (d:i<C F),(0<=F[i].1/\F[i].1<(C V:Int))/\(0<=F[i].2/\F[i].2<(sz (ag V) F[i].1.toNat:Int))/\((F.take i).any fun p=>p.1==F[i].1)=false:=fun i d=>by
  have f:=z i d;by_cases a:0<=F[i].1/\F[i].1<(C V:Int)
  ·by_cases b:0<=F[i].2/\F[i].2<(sz (ag V) F[i].1.toNat:Int)
   ·refine⟨a,b,?_⟩;cases c:(F.take i).any fun p=>p.1==F[i].1 with
    |false=>rfl
    |true=>rw[aht d a b c] at f;exact absurd f a6
   ·rw[ahs d a b] at f;exact absurd f a6
  ·rw[ahr d a] at f;exact absurd f a6
 refine⟨n,F.map fun p=>(p.1.toNat,p.2.toNat),?_,?_,?_,?_⟩
 ·rw[zF,zr];refine ld aE fun i d _=>?_;rw[mN];obtain⟨⟨a,_⟩,⟨b,_⟩,_⟩:=g i d;show F[i]=(((F[i].1.toNat:Nat):Int),((F[i].2.toNat:Nat):Int));rw[Int.toNat_of_nonneg a,Int.toNat_of_nonneg b]
 ·rw[zr,List.Nodup,CN];refine zq.2 fun i j d q X e=>?_;obtain⟨⟨s,_⟩,_,_⟩:=g i d;obtain⟨⟨t,_⟩,_,o⟩:=g j q
  have:=JX.1 o F[i] (by
   (have r:i<C (F.take j):=by rw[fh];omega);have:=bU r;rwa [xO] at this)
  refine this (xL.2 ?_);have u:F[i].1.toNat=F[j].1.toNat:=e;omega
 ·intro p k;obtain⟨x,m,rfl⟩:=aN.1 k;obtain⟨i,d,rfl⟩:=iE m;obtain⟨⟨a,b⟩,_,_⟩:=g i d;show F[i].1.toNat<_;omega
 ·intro p k;obtain⟨x,m,rfl⟩:=aN.1 k;obtain⟨i,d,rfl⟩:=iE m;obtain⟨_,⟨a,b⟩,_⟩:=g i d;show F[i].2.toNat<sz _ F[i].1.toNat;omega
def AZ (L:List Kx) (A:Ja):Ja:=(jK L).filter fun v:Nat=>(fW (dK (aH L) A (C L))).contains (v:Int)
theorem Hw (h:Up l n):∀x∈l,0<=x/\x<n:=(eH.1 h).1
theorem ab6 (h:Up l n):(af l).Pairwise (·<·):=by
 rw[af,CN];refine List.Pairwise.imp_of_mem (fun {a b} c d g=>?_) (eH.1 h).2;have e:=Hw h a c;have f:=Hw h b d;omega
theorem Xl (L:List Kx) (i:Nat):(aH L).getD i []=af (L.getD i []):=by
 rw[aH,cF,k9,cF];cases L[i]? with
 |none=>rfl
 |some x=>rfl
theorem Xy (g:gB L=y6) (h1:1<=C L) (a:C L<=8) (h:v∈jK L):v<C L:=by
 have p:((jK L).filter fun v=>decide (v<C L)).Perm (List.range (C L)):=
  (EP ((aeg g h1 a).sublist JV) qN).2 fun u=>by
   rw[dC,bS,eP];exact⟨fun h=>h.2,fun h=>⟨aeh g h1 a h,h⟩⟩
 have l:=p.length_eq;have n:C (jK L)=C L:=by rw[Sj];simp
 rw[AW] at l;replace l:=l.trans n.symm;exact mJ (List.length_filter_eq_length_iff.1 l v h)
theorem at5 (g:gB L=y6) {A:Ja} (a:∀v∈A,v<C L) (h:v∈dK (aH L) A (C L)):v<C L:=
 LZ (fun x u b=>(XW g x u b).1) a (C L) v h
theorem abC (g:gB L=y6) (h1:1<=C L) (c:C L<=8) {A:Ja} (e:∀v∈A,v<C L):v∈AZ L A↔v∈dK (aH L) A (C L):=by
 rw[AZ,dC];constructor
 ·rintro⟨a,b⟩;have d:=Xy g h1 c a;rw[XY al] at b;exact mJ b
 ·intro h;have d:=at5 g e h;exact⟨aeh g h1 c d,by rw[XY al];exact cJ h⟩
theorem ajj (g:gB L=y6) (h1:1<=C L) (h:C L<=8) (A:Ja):(AZ L A).Nodup:=(aeg g h1 h).sublist JV
theorem ajk (g:gB L=y6) (h1:1<=C L) (a:C L<=8) {A:Ja} (h:v∈AZ L A):v<C L:=Xy g h1 a (dC.1 h).1
theorem atY {u w:Nat} (h:Pa u v) (a:gh Pa v w):gh Pa u w:=by
 induction a using gh.ind with
 |one h3=>exact .more (.one h) h3
 |more _ h3 ih=>exact .more ih h3
theorem ajl (j:bq L=0) (h1:1<=C L) (c:C L<=8) {A:Ja} (d:∀v∈A,v<C L):p6 L (·∈AZ L A):=fun v h u a=>by
 have g:=yG j;show u∈AZ L A;have h:v∈AZ L A:=h;rw[abC g h1 c d,PM j c d] at h⊢;obtain⟨b,f,e⟩:=h;rw[<- Xl] at a;refine⟨b,f,yk ?_⟩;rcases e with rfl |e
 ·exact .one a
 ·exact atY (Pa:=fun u v=>u∈(aH L).getD v []) a e
theorem abD (j:bq L=0) (h1:1<=C L) (h:C L<=8) {A:Ja} (a:∀v∈A,v<C L) (b:v∈A):v∈AZ L A:=by
 rw[abC (yG j) h1 h a,PM j h a];exact⟨v,b,yd rfl⟩
def gT (V:List Vr) (L:List Kx) (R:List (List Fr)) (ws:Ja):List Tb:=ws.map fun v=>(gU L v,gL V L R v)
theorem aq2 (h0:aS V L R=0) (h:∀v∈ws,v<C V) (c:p6 L (·∈ws)):i6 (ag V) (C V) (gT V L R ws) (dW R ws) 1:=
 ⟨(PI.net h0 h c).ok,PD.net h0 h,fun t a=>by
  obtain⟨v,_,rfl⟩:=aN.1 a;exact aq4 V L R v⟩
theorem i6.fixes (a:Pos S):∀ {l:List (Nat×Nat)} {P:List Tb} {D c:Nat},i6 S n P D c ->(∀p∈l,p.2<sz S p.1) ->i6 S n (sj S l P) D c
 |[],_,_,_,h,_=>h
 |p::l,_,_,_,h,hx=>i6.fixes a (l:=l) (h.fix a (hx p dJ)) fun q b=>hx q (dZ _ b)
theorem aah (S:Ja):∀(l:List (Nat×Nat)) (P:List Tb),C (sj S l P)=C P
 |[],_=>rfl
 |p::l,P=>by rw[sj,aah S l,cY]
theorem akv (p:Pos S) {a b:Ja} (h:a.Sublist b):jZ S a<=jZ S b:=by
 induction h with
 |slnil=>exact ah _
 |cons x _ ih=>rw[jZ];exact aM ih (EN _ (lp p x))
 |cons_cons x _ ih=>rw[jZ,jZ];exact mK _ ih
theorem afo:∀(l:List (Nat×Nat)) (fr:Ja),(l5 fr l).Sublist fr
 |[],_=>List.Sublist.refl _
 |_::l,_=>(afo l _).trans JV
def bL (V:List Vr) (L:List Kx) (R:List (List Fr)) (q:Kx) (l:List (Nat×Nat)):Tb:=
 (q,(List.range (cnt (ag V) (af q))).map fun K=>qF (bK V L R (qV (ag V) (af q) K++l)))
theorem Rn {a b:Kx} (c:Up a n) (d:Up b m) (h:∀u,u∈af a↔u∈af b):a=b:=by
 have e:af a=af b:=by
  refine List.Perm.eq_of_pairwise (le:=(·<·)) (fun x y _ _ g i=>al) (ab6 c) (ab6 d) ?_;exact(EP c.nodup d.nodup).2 h
 have g:iL (af a)=a:=by
  rw[iL,af,zr];refine(mM fun x f=>?_).trans (List.map_id _);have:=(Hw c x f).1;show ((x.toNat:Nat):Int)=x;omega
 have i:iL (af b)=b:=by
  rw[iL,af,zr];refine(mM fun x f=>?_).trans (List.map_id _);have:=(Hw d x f).1;show ((x.toNat:Nat):Int)=x;omega
 rw[<- g, <- i,e]
theorem ami {q:Kx} (h:Up q n) (v:Nat):q.contains (v:Int)=(af q).contains v:=by
 rw[wm,CR,CR];constructor
 ·intro a;exact aN.2 ⟨_,a,aE⟩
 ·intro a;obtain⟨x,b,e⟩:=aN.1 a;have:=(Hw h x b).1;have c:x.toNat=v:=e;have:x=(v:Int):=al
  rwa [<- this]
theorem aj3 (h0:aS V L R=0) (d:Pos (ag V)) {l:List (Nat×Nat)} {q:Kx} (x:ws.Nodup) (o:∀v∈ws,v<C V) (k:p6 L (·∈ws)) (f:fL (ag V) (C V) l) (F:∀p∈l,p.1∈ws) (i:Up q (C V)) (D:∀v∈af q,v∈ws/\¬v∈l.map (·.1)):
  allT (ag V) (nY (ag V) xd (fun v=>q.contains (v:Int)) (l5 ws l) (sj (ag V) l (gT V L R ws)))=bL V L R q l:=by
 have r:(fun v:Nat=>q.contains (v:Int))=fun v=>(af q).contains v:=funext (ami i);rw[r];have A:PI (ag V) (C V) (l5 ws l) (sj (ag V) l (gT V L R ws)) (fun g=>fE V L R (eB l g) ws):=(PI.net h0 o k).fixes d f.nd f.val;obtain⟨H,w,m⟩:=PI.outs d (fun v=>(af q).contains v) (l5 ws l) A;have e:=Gk d m.ok
 have Bm:∀u,u∈H↔u∈af q:=fun u=>by
  rw[w u,SI];constructor
  ·rintro⟨⟨a,b⟩,c⟩;exact CR.1 (c ⟨a,b⟩)
  ·intro h;exact⟨D u h,fun _=>CR.2 h⟩
 have n:(allT (ag V) (nY (ag V) xd (fun v=>(af q).contains v) (l5 ws l) (sj (ag V) l (gT V L R ws)))).1=q:=by
  refine Rn e.1.up i fun u=>?_;rw[e.2.1 u, <- Bm u];exact⟨fun ⟨t,y,z⟩=>m.sub t y u z,fun h=>m.sup u h⟩
 refine Prod.ext n ?_;rw[Wy d e.1 (aiA _ _),n];refine mM fun K s=>?_;have j:=bS.1 s;rw[e.2.2 _ (fun u=>sD d _ _ u j),m.val _ (fun u=>sD d _ _ u j)];exact eG qF (ape h0 x o k f.nd F f.val i.nodup D j)
def pK (V:List Vr) (L:List Kx) (R:List (List Fr)) (k:Nat):Rat:=wD V L R (aX (ag V) (List.range (C V)) k) (C V)
theorem NM.fine (h:NM V L R):fK (iL (ag V)):=(gY h.ok).fine
theorem NM.pos (h:NM V L R):Pos (ag V):=by have:=h.fine.pos;rwa [jP] at this
theorem aaD (h:NM V L R):cnt (ag V) (List.range (C V))<=729:=by
 have a:=aaB (S:=ag V) h.szs (List.range (C V));rw[AW] at a;have b:3^C V<=3^6:=k7 a6 h.six;omega
variable {us:Ja} {k:Nat}
theorem NB (a:us.Nodup) (l:∀v∈us,v<n):us.Perm ((List.range n).filter fun v=>us.contains v):=
 (EP a (qN.sublist JV)).2 fun v=>by
  rw[dC,bS,CR];exact⟨fun h=>⟨l v h,h⟩,fun h=>h.2⟩
theorem ase {a b:Ja} (h:a.Perm b):dW R a=dW R b:=by
 induction h with
 |nil=>rfl
 |cons x _ ih=>rw[dW,dW,ih]
 |swap x y l=>simp only[dW];rw[<- jr, <- jr,eQ (qA _) (qA _)]
 |trans _ _ h1 h2=>rw[h1,h2]
theorem asc {a b:Ja} (h:a.Sublist b):dW R a<=dW R b:=by
 induction h with
 |slnil=>exact ah _
 |cons x _ ih=>rw[dW];exact aM ih (EN _ (lO (LI _)))
 |cons_cons x _ ih=>rw[dW,dW];exact mK _ ih
theorem asf (h:us.Nodup) (l:∀v∈us,v<n):dW R us<=dW R (List.range n):=by
 rw[ase (NB h l)];exact asc JV
theorem Ry (S:Ja):∀l,jZ S l=cnt S l
 |[]=>rfl
 |v::l=>by rw[jZ,cnt,Ry S l]
theorem ah1 (h:∀v,sz S v<=4):∀l:Ja,cnt S l<=4^C l
 |[]=>ah _
 |v::l=>by
  rw[cnt,eA,jI,eQ];exact kN (ah1 h l) (h v)
theorem aku (f:fK (iL S)) (v:Nat):sz S v<=4:=by
 by_cases h:v<C S
 ·have a:=(f.each v (by rw[bR];exact h)).2;have b:(iL S)[v]'(by rw[bR];exact h)=(S[v]:Int):=by simp[iL]
  rw[b] at a;rw[sz,a7 h];show S[v]<=4;omega
 ·rw[sz,iT al];decide
theorem aaC (f:fK (iL S)) (n:us.Nodup) (l:∀v∈us,v<C S):cnt S us<=65536:=by
 have c:=(NB n l).length_eq;have d:C ((List.range (C S)).filter fun v=>us.contains v)<=C S:=aM (oT ..) aE;have h:=f.eight;rw[bR] at h;have a:=ah1 (aku f) us;have b:4^C us<=4^8:=k7 a6 al;exact aM a b
theorem VA (h:n<=65536):(B n).size<=3:=by
 have a:=ku h;have b:(B 65536).size<=3:=by rw[nP];exact sA 3 65536 a6
 omega
def pX (V:List Vr) (R:List (List Fr)):Prop:=(B (dW R (List.range (C V)))).size<=4000
theorem pX.at (h:pX V R) (n:us.Nodup) (l:∀v∈us,v<C V):(B (dW R us)).size<=4000:=aM (ku (asf n l)) h
theorem pX.pool (h:pX V R) (h0:aS V L R=0) (n:us.Nodup) (l:∀v∈us,v<C V) (b:vs.Nodup) (f:∀v∈vs,v<C V):2*(B (dW R us)).size+(B (jZ (ag V) vs*1)).size+2<=8192:=by
 have c:=h.at n l
 have a:jZ (ag V) vs*1<=65536:=by
  rw[qM,Ry];exact aaC (gY h0).fine b (by rw[lq];exact f)
 have d:=VA a;omega
theorem ND (h0:aS V L R=0):bq L=0:=by
 rw[aS] at h0;by_cases a:C L=C V/\R.length=C V
 ·rw[aw a] at h0;by_cases h:bq L=0
  ·exact h
  ·rw[aC h] at h0;exact absurd h0 h
 ·rw[aC a] at h0;exact absurd h0 a6
theorem alU (h0:aS V L R=0):p6 L (·∈List.range (C V)):=fun v _ u h=>by
 have b:=gY h0;rw[<- Xl] at h;have:=(XW (yG (ND h0)) v u h).1;rw[b.len] at this;exact bS.2 this
theorem amO (h0:aS V L R=0) (p:Pos (ag V)) (c:k<cnt (ag V) (List.range (C V))):eL (dW R (List.range (C V))) (pK V L R k)/\jN 1 (pK V L R k):=by
 have f:Fit (ag V) (aX (ag V) (List.range (C V)) k):=fun u=>sD p _ _ u c;have a:=(PD.net (R:=R) (L:=L) (ws:=List.range (C V)) h0 (fun v h=>bS.1 h)).prod f;have b:=(PI.net h0 (fun v h=>bS.1 h) (alU h0)).val _ f;rw[b, <- RT] at a;exact a
def aK (V:List Vr) (L:List Kx) (R:List (List Fr)) (l:List (Nat×Nat)) (k:Nat):Rat:=b9 l (aX (ag V) (List.range (C V)) k)*pK V L R k
theorem NS (V:List Vr) (L:List Kx) (R:List (List Fr)) (l:List (Nat×Nat)):bK V L R l=bG (aK V L R l) (cnt (ag V) (List.range (C V))):=rfl
theorem Ux (h0:aS V L R=0) (p:Pos (ag V)) (l:List (Nat×Nat)) (c:k<cnt (ag V) (List.range (C V))):eL (dW R (List.range (C V))) (aK V L R l k)/\jN 1 (aK V L R l k):=by
 obtain⟨a,b⟩:=amO h0 p c;rw[aK,Zs];by_cases h:Lj l (aX (ag V) (List.range (C V)) k)=y6
 ·rw[aw h,nR];exact⟨a,b⟩
 ·rw[aC h,CG];exact⟨eL.zero _,by constructor<;>decide⟩
theorem akB (h0:aS V L R=0) (D:pX V R) {g:Nat ->Rat} (j:n<=65536) (a:∀k,k< n ->eL (dW R (List.range (C V))) (g k)/\jN 1 (g k)):qw (bG g n)<=8003:=by
 have z:dW R (List.range (C V))≠0:=(PD.net (V:=V) (L:=L) h0 (fun v d=>bS.1 d)).nz.1;have b:=eL.sum (k:=n) fun x h=>(a x h).1;have c:=jN.sum (k:=n) fun x h=>(a x h).2;have e:=b.size z c;have f:=VA (n:=n*1) al;have i:(B (dW R (List.range (C V)))).size<=4000:=D;omega
theorem aiy (h0:aS V L R=0):cnt (ag V) (List.range (C V))<=65536:=aaC (gY h0).fine qN fun v h=>by rw[lq];exact bS.1 h
theorem aff (h0:aS V L R=0) (p:Pos (ag V)) (h:pX V R) (l:List (Nat×Nat)) (a:n<=cnt (ag V) (List.range (C V))):qw (bG (aK V L R l) n)<=8003:=
 akB h0 h (aM a (aiy h0)) fun k b=>Ux h0 p l al
theorem xY (h0:aS V L R=0):Pos (ag V):=by have:=(gY h0).fine.pos;rwa [jP] at this
variable {Ba:Nat ->Prop}
theorem C9 (L:List Kx) (v:Nat):(aH L).getD v []=af (L.getD v []):=by
 by_cases h:v<C L
 ·rw[Ii h,cF,a7 h];rfl
 ·rw[cF,iT (by rw[j5];omega),cF,iT al];rfl
theorem at3 {a b:Nat} (h:gh (fun u v=>u∈(aH L).getD v []) a b):eI L Ba b ->eI L Ba a:=by
 induction h using gh.ind with
 |one h1=>exact fun c=>.step c (by rw[<- C9];exact h1)
 |more _ h1 ih=>exact fun c=>ih (.step c (by rw[<- C9];exact h1))
theorem at1 {a b:Nat} (h1:a∈(aH L).getD v []) (h:gh (fun u v=>u∈(aH L).getD v []) v b):gh (fun u v=>u∈(aH L).getD v []) a b:=by
 induction h using gh.ind with
 |one hp=>exact .more (.one h1) hp
 |more _ hp ih=>exact .more ih hp
theorem aaW (h:bq L=0) (e:C L<=8) {s:Ja} (hs:∀v∈s,v<C L) (u:Nat):eI L (·∈s) u↔u∈dK (aH L) s (C L):=by
 rw[PM h e hs];constructor
 ·intro f;induction f using eI.ind with
  |base c=>exact⟨_,c,yd rfl⟩
  |step _ h2 ih=>
   obtain⟨b,a,d⟩:=ih;rw[<- C9] at h2;rcases d with rfl |d
   ·exact⟨_,a,yk (.one h2)⟩
   ·exact⟨b,a,yk (at1 h2 d)⟩
 ·rintro⟨b,a,rfl |c⟩
  ·exact .base a
  ·exact at3 c (.base a)
theorem aej (h:bq L=0) (b:C L<=8) {x y z:Kx} (p:jE (C L) [x,y,z]=y6):ug L x y z=y6↔xw L (C L) (·∈af x) (·∈af y) (·∈af z):=by
 have r:kK [x,y,z] (C L)=true:=by
  rw[jE,iu] at p;exact p.1
 have d:Up z (C L):=lr (fM.1 r z aE);have l:=uR d;have g:=(vE h).1;rw[aek h b p];constructor
 ·rintro⟨v,c,a,w⟩;refine⟨v,c,a,?_⟩;clear a;induction w using iJ.ind with
  |start hx=>exact .start hx
  |up _ h1 h2 ih=>exact .up ih h1 (by rw[<- C9];exact h2)
  |down _ h1 h2 ih=>exact .down ih h1 (Kz g h2).2 (by rw[<- C9];exact h2)
  |meet _ h1 h2 ih=>exact .meet ih ((aaW h b l _).2 h1) (by rw[<- C9];exact h2)
 ·rintro⟨v,c,a,w⟩;refine⟨v,c,a,?_⟩;clear a;induction w using iI.ind with
  |start hx=>exact .start hx
  |up _ h1 h2 ih=>exact .up ih h1 (by rw[C9];exact h2)
  |down _ h1 _ h2 ih=>exact .down ih h1 (by rw[C9];exact h2)
  |meet _ h1 h2 ih=>exact .meet ih ((aaW h b l _).1 h1) (by rw[C9];exact h2)
def rI (n x:Nat):List Fr:=(List.range n).map fun k=>qF (if k=x then 1 else 0)
theorem H5 (n x:Nat):C (rI n x)=n:=by simp[rI]
theorem acn {x:Nat} (h:k<n):aQ (rI n x) k=qF (if k=x then 1 else 0):=by
 rw[mr (by rw[H5];exact h)];simp[rI]
theorem akx {x:Nat} (c:x<n):jf (rI n x)=true:=by
 rw[jf,iu,eP,fM];constructor
 ·intro f a;obtain⟨k,_,rfl⟩:=aN.1 a;rw[eP,jC];split<;>decide
 ·rw[ag4,H5,gM (h:=fun k=>(if k=x then 1 else 0)*1) fun k b=>by rw[acn b,jC,lN]];exact Kh (g:=fun _=>1) c
def xT {α:Type} (f:Nat×Nat ->α) (d:List (Nat×Nat)) (L:List α):List α:=d.foldl (fun L p=>L.set p.1 (f p)) L
theorem Xg {α:Type} (f:Nat×Nat ->α):∀(d:List (Nat×Nat)) (L:List α),C (xT f d L)=C L
 |[],_=>rfl
 |p::d,L=>by rw[xT,tY];exact(Xg f d _).trans gA
theorem Ks {α:Type} [Inhabited α] {f:Nat×Nat ->α} {z:α}:∀ {d:List (Nat×Nat)} {L:List α},¬v∈d.map (·.1) ->(xT f d L).getD v z=L.getD v z
 |[],_,_=>rfl
 |p::d,L,h=>by
  rw[gw,bY,not_or] at h;rw[xT,tY];refine(Ks (d:=d) h.2).trans ?_;rw[cF,cF,wj fun e=>h.1 e.symm]
theorem RS {α:Type} [Inhabited α] {f:Nat×Nat ->α} {z:α} {p:Nat×Nat}:∀ {d:List (Nat×Nat)} {L:List α},(d.map (·.1)).Nodup ->p∈d ->p.1<C L ->(xT f d L).getD p.1 z=f p
 |[],_,_,h,_=>by cases h
 |q::d,L,hn,h,hl=>by
  rw[gw,nS] at hn;rw[xT,tY];rcases bY.1 h with rfl |h
  ·refine(Ks (d:=d) hn.1).trans ?_;rw[cF,Hr hl];rfl
  ·exact RS (d:=d) hn.2 h (by rw[gA];exact hl)
def fZ (d:List (Nat×Nat)) (L:List Kx):List Kx:=xT (fun _=>[]) d L
def fO (V:List Vr) (d:List (Nat×Nat)) (R:List (List Fr)):List (List Fr):=xT (fun p=>rI (sz (ag V) p.1) p.2) d R
theorem Uh (d:List (Nat×Nat)) (L:List Kx):C (fZ d L)=C L:=Xg _ d L
theorem aaq (V:List Vr) (d:List (Nat×Nat)) (R:List (List Fr)):C (fO V d R)=C R:=Xg _ d R
theorem LH {d:List (Nat×Nat)} (v:Nat):(fZ d L).getD v []=if v∈d.map (·.1) then[] else L.getD v []:=by
 by_cases e:v∈d.map (·.1)
 ·rw[aw e]
  have k:∀(d:List (Nat×Nat)) (L:List Kx),v∈d.map (·.1)∨L.getD v []=[] ->(fZ d L).getD v []=[]:=fun d=>by
   induction d with
   |nil=>exact fun L h=>h.elim (fun h=>by cases h) id
   |cons p d ih=>
    intro L h;rw[fZ,xT,tY];refine ih (L.set p.1 []) ?_;by_cases a:p.1=v
    ·refine yk ?_;subst a;rw[cF];by_cases l:p.1<C L
     ·rw[Hr l];rfl
     ·rw[iT (by rw[gA];omega)];rfl
    ·rcases h with h |h
     ·rw[gw,bY] at h;exact yd (h.resolve_left fun b=>a b.symm)
     ·refine yk ?_;rw[cF,wj a, <- cF];exact h
  exact k d L (yd e)
 ·rw[aC e];exact Ks e
theorem aas (d:List (Nat×Nat)) (L:List Kx) (v:Nat):((fZ d L).getD v []).Sublist (L.getD v []):=by
 rw[LH];split
 ·exact List.nil_sublist _
 ·exact List.Sublist.refl _
section
variable {V : List Vr} {L : List Kx} {R : List (List Fr)} {d : List (Nat × Nat)}
theorem Pv (h0:aS V L R=0) (g:fL (ag V) (C V) d):aS V (fZ d L) (fO V d R)=0:=by
 have k:=gY h0;have h:=h0;rw[aS,aw ⟨k.len,k.lenR⟩] at h;by_cases a:bq L=0
 ·rw[aw a] at h;by_cases b:lT V=0
  ·rw[aw b] at h;rw[aS,aw ⟨(Uh d L).trans k.len,(aaq V d R).trans k.lenR⟩,aw (agX a (Uh d L) fun v _=>aas d L v),aw b];refine BX fun v o=>?_;have l:=DY h v o;by_cases e:v∈d.map (·.1)
   ·obtain⟨p,j,rfl⟩:=aN.1 e;have f:(fO V d R).getD p.1 []=rI (sz (ag V) p.1) p.2:=RS g.nd j (by rw[k.lenR];exact g.lt p j);(have c:(fZ d L).getD p.1 []=[]:=by rw[LH,aw e]);rw[ju,f,c,H5];have m:cnt (ag V) (af [])=1:=rfl;rw[m,k8,aw rfl,aw];rw[fM];intro i n;(have:i=0:=by have:=bS.1 n;omega);subst this;rw[gg,oN,ES,kO (by rw[H5];exact ah _)];exact akx (g.val p j)
   ·have f:(fO V d R).getD v []=R.getD v []:=Ks e;(have c:(fZ d L).getD v []=L.getD v []:=by rw[LH,aC e]);rw[ju,f,c];exact l
  ·rw[aC b] at h;exact absurd h b
 ·rw[aC a] at h;exact absurd h a
def qW (V:List Vr) (L:List Kx) (R:List (List Fr)) (v:Nat) (g:Nat ->Nat):Rat:=a8 (fP V L R g v)
theorem Sq (h0:aS V L R=0):eN (ag V) (C V) L (qW V L R):=by
 have k:=gY h0;have b:=ND h0;refine⟨xY h0,fun v h u c a g x=>?_,fun v h g b=>row_one h0 h b,fun v h g b=>X4 h0 h b,fun v h u a=>?_,tZ (aH L),fun v h u a=>?_⟩
 ·show a8 (fP V L R (aO g u x) v)=a8 (fP V L R g v);rw[X5 (fun e=>c e.symm) a]
 ·have D:v<C L:=by rw[k.len];exact h
  rw[cF,a7 D] at a;obtain⟨z,d,rfl⟩:=aN.1 a;have:=(eH.1 (k.up v D)).1 z d;omega
 ·exact H7 b (by rw[Xl];exact a)
theorem adF (g:Nat ->Nat):∀o:Ja,cZ (qW V L R) g o=fE V L R g o
 |[]=>rfl
 |v::o=>by rw[cZ,fE,adF g o];rfl
theorem Bq (_h0:aS V L R=0) (l:List (Nat×Nat)):bK V L R l=cT (ag V) (C V) (qW V L R) l:=by
 have e:=NA (S:=ag V) (fun g=>b9 l g*wD V L R g (C V)) (List.range (C V)) (fun _=>0) qN;rw[gM (h:=fun k=>b9 l (aX (ag V) (List.range (C V)) k)*wD V L R (aX (ag V) (List.range (C V)) k) (C V)) fun k _=>by rw[Sg]] at e;rw[bK,e,cT];congr 1
 funext g
 rw[adF,RT]
theorem afi (h0:aS V L R=0) (h:fL (ag V) (C V) d) (l:List (Nat×Nat)):bK V (fZ d L) (fO V d R) l=cT (ag V) (C V) (dE d (qW V L R)) l:=by
 have k:=gY h0;rw[Bq (Pv h0 h),cT,cT];refine wI (fun g j=>?_) _ _ (fun u=>lp (xY h0) u);congr 1
 refine Nv fun v m=>?_;have F:=bS.1 m;rw[dE];by_cases e:v∈d.map (·.1)
 ·rw[aw e];obtain⟨p,c,rfl⟩:=aN.1 e;have b:(fO V d R).getD p.1 []=rI (sz (ag V) p.1) p.2:=RS h.nd c (by rw[k.lenR];exact h.lt p c);have a:(fZ d L).getD p.1 []=[]:=by rw[LH,aw e]
  have i:=j p.1
  have f:sY (ag V) (af []) g p.1=g p.1:=by
   show 0*_+g p.1=g p.1;rw[oN,bQ]
  rw[qW,fP,b,a,f,acn i,jC,Ih h.nd (x:=p.2) c];rfl
 ·rw[aC e];have b:(fO V d R).getD v []=R.getD v []:=Ks e;have a:(fZ d L).getD v []=L.getD v []:=by rw[LH,aC e]
  rw[qW,qW,fP,fP,b,a]
theorem LG (h0:aS V L R=0) (a:fL (ag V) (C V) d):eN (ag V) (C V) (fZ d L) (dE d (qW V L R)):=by
 refine(Sq h0).isDo a.nd a.val (fun v _ b u h=>?_) (fun v _ u h=>?_)
 ·rw[LH,aC b];exact h
 ·obtain⟨x,c,rfl⟩:=aN.1 h;exact aN.2 ⟨x,(aas d L v).subset c,rfl⟩
theorem ao9 (v:Nat) (g:Nat ->Nat):qW V L (di R) v g=qW V L R v g:=by
 rw[qW,qW,fP,fP,Z8,aQ,aQ,k9];cases (R.getD v [])[sY (ag V) (af (L.getD v [])) g v]? with
 |none=>rfl
 |some f=>exact T2 f
end
variable {fv oB tv oZ u1 u2:wF}
structure nH (W:E) (b:Nat) (x fv tv oB oZ:wF) (l:Kx) (Q:List (wF×wF)) (P:List Tb) (V:E):Prop where
 box:cI V b x fv tv
 fo:bW V (O (T W)) oB l
 own:nI V (O (T W)) oZ Q P
 far:∀R,R<=b ->∀k (h:k<C P) (h':k<C Q),iA R P[k] Q[k]
 farF:∀R,oB.ownBlock=M R ->∀k (h:k<C P) (h':k<C Q),iA R P[k] Q[k]
 ne:∀R,oB.ownBlock=M R ->oZ.ownBlock≠M R
 fr:W.grownBy V (M b)
theorem nH.start {W:E} {b:Nat} {x:wF} (h:cI W b x (Z N 0 0) (Z N 0 0)):nH W b x (Z N 0 0) (Z N 0 0) (Z N 0 0) (Z N 0 0) [] [] [] W:=
 ⟨h,⟨rfl,yd ⟨rfl,rfl⟩⟩,nI.nil _ _,(fun R _ k h=>absurd h aE),(fun R e=>by cases e),(fun R e=>by cases e),Z9 _ _⟩
theorem nH.under {W V:E} {b:Nat} {x:wF} {Q:List (wF×wF)} {P:List Tb} (h:nH W b x fv tv oB oZ l Q P V) (a:da V V'):nH W b x fv tv oB oZ l Q P V':=
 ⟨h.box.aa a h.box.lt,KB h.fo (Ee.aa a),h.own.under a,h.far,h.farF,h.ne,aaa h.fr a⟩
theorem nH.pushF {W V:E} {b:Nat} {x d:wF} {l':Kx} {Q:List (wF×wF)} {P:List Tb} (h:nH W b x fv tv oB oZ l Q P V) (m:b<O (T W)) (o:bW V' (O (T W)) d l') (g:V.grownBy V' oB.ownBlock) (n:d.ownBlock=oB.ownBlock∨∀k,d.ownBlock=M k ->O (T V)<=k):nH W b x fv tv d oZ l' Q P V':=by
 have i:∀k,oB.ownBlock=M k ->O (T W)<=k:=fun k e=>(uf h.fo k e).1;refine⟨(g.block b h.box.lt (fun e=>by have:=i b e.symm;omega)).trans h.box,o,⟨h.own.len,Sc h.own.own g (fun R e f=>h.ne R f e),fun k a c=>(h.own.val k a c).keepR (fun r j=>h.farF r j k a c) g,h.own.far⟩,h.far,fun R e k a c=>?_,fun R e f=>?_,Pk h.fr g i⟩
 ·rcases n with n |n
  ·exact h.farF R (by rw[<- n];exact e) k a c
  ·exact(h.own.val k a c).lt (n R e)
 ·rcases n with n |n
  ·exact h.ne R (by rw[<- n];exact e) f
  ·have a:=n R e;have c:=(h.own.lt R f).2;omega
theorem nH.pushT {W V:E} {b:Nat} {x Bm:wF} {Q:List (wF×wF)} {P:List Tb} {t:Tb} (h:nH W b x fv tv oB oZ l Q P V) (u:b<O (T W)) (r:bJ V u1 u2 t) (p:∀R,oZ.ownBlock=M R ->iA R t (u1,u2)) (F:∀R,oB.ownBlock=M R ->iA R t (u1,u2)) (s:∀R,R<=b ->iA R t (u1,u2)) (q:V'.ownsRow (O (T W)) 38 2 Bm (C P+1) (fV Q++[u1,u2])) (g:V.grownBy V' oZ.ownBlock) (n:Bm.ownBlock=oZ.ownBlock∨∀k,Bm.ownBlock=M k ->O (T V)<=k):nH W b x fv tv oB Bm l (Q++[(u1,u2)]) (P++[t]) V':=by
 have c:∀k,oZ.ownBlock=M k ->O (T W)<=k:=fun k e=>(h.own.lt k e).1
 have j:∀R,(∀k (f:k<C P) (i:k<C Q),iA R P[k] Q[k]) ->iA R t (u1,u2) ->∀k (f:k<C (P++[t])) (i:k<C (Q++[(u1,u2)])),iA R (P++[t])[k] (Q++[(u1,u2)])[k]:=fun R o Ba k f i=>by
  by_cases d:k<C P
  ·have m:k<C Q:=by rw[h.own.len];exact d
   rw[nU m,nU d];exact o k d m
  ·have m:¬k<C Q:=by rw[h.own.len];exact d
   rw[tX al,tX al];simp only[QZ];exact Ba
 refine⟨(g.block b h.box.lt (fun e=>by have:=c b e.symm;omega)).trans h.box,Sc h.fo g (fun R e a=>h.ne R e a),h.own.push r p q g n,(fun R c=>j R (h.far R c) (s R c)),fun R e=>j R (h.farF R e) (F R e),fun R e a=>?_,Pk h.fr g c⟩;rcases n with n |n
 ·rw[n] at a;exact h.ne R e a
 ·have f:=n R a;have i:=(uf h.fo R e).2;omega
theorem nH.set1 {W V:E} {b:Nat} {x:wF} {Q:List (wF×wF)} {P:List Tb} (h:nH W b x fv tv oB oZ l Q P V) (a:b<O (T W)) (u:wF):nH W b x u tv oB oZ l Q P (V.setCell ⟨b,1,N⟩ u):=
 ⟨h.box.set1 u,QM h.fo (fun e=>by have:=(uf h.fo b e).1;omega) u,h.own.off u (h.far b (ah b)) (fun e=>by have:=(h.own.lt b e).1;omega),h.far,h.farF,h.ne,TQ h.fr _ _⟩
theorem nH.set2 {W V:E} {b:Nat} {x:wF} {Q:List (wF×wF)} {P:List Tb} (h:nH W b x fv tv oB oZ l Q P V) (a:b<O (T W)) (u:wF):nH W b x fv u oB oZ l Q P (V.setCell ⟨b,2,N⟩ u):=
 ⟨h.box.set2 u,QM h.fo (fun e=>by have:=(uf h.fo b e).1;omega) u,h.own.off u (h.far b (ah b)) (fun e=>by have:=(h.own.lt b e).1;omega),h.far,h.farF,h.ne,TQ h.fr _ _⟩
theorem aoH (a:Kd) (ca:Nat) (L:List Kx) (w:E) (h:dP w a L) (j:∀l∈L,C l<=140737488355328) (g:bq L=0):
  c6 203 #[Z a (C L) ca] w fun e w'=>∃G,e=yW (zp #[Z (M ⟨G,0,N⟩) (C L) (C L),J I 0])/\dP w' (M ⟨G,0,N⟩) (pj L)/\da w w':=
 (aq3 a ca L w h j).ae fun e w' i=>by
  rcases i with ⟨⟨b,_⟩ |⟨_,G,c,d⟩,f⟩
  ·exact absurd g b
  ·exact⟨G,c,d,f⟩
theorem arD (a:Kd) (ca:Nat) (L:List Kx) (w:E) (h:dP w a (pj L)) (j:gB L=y6) (h1:1<=C L) (g:C L<=8):
  c6 204 #[Z a (C L) ca] w fun e w'=>∃d c G,e=yW (zp #[Z d (C L) c,Z (M ⟨G,0,N⟩) (C L) (C L),J I 0])/\aB w' d (iL (jK L))/\da w w':=by
 have:=aq5 a ca (pj L) w h (fun l m=>by
  obtain⟨s,_,rfl⟩:=aN.1 m;rw[fW,bR,bZ];exact aM (oT ..) aE)
 rw[Dd] at this;refine this.ae fun e w' k=>?_;rcases k with ⟨⟨_,d,c,G,b,f,_⟩ |⟨b,_⟩,i⟩
 ·rw[Dd] at b;exact⟨d,c,G,b,f,i⟩
 ·rw[aoI j h1 g] at b;cases b
theorem aqY (a b c:Kd) (ca cb cc v:Nat) (V:List Vr) (L:List Kx) (R:List (List Fr)) (w:E) (h:jo w a b c V L R) (f:pP w b L) (hs:tD V L R) (i:∀l∈R,fw l<=4200) (h0:aS V L R=0) (g:v<C V) (y:∀U:E,jo U a b c V L R ->c6 81 #[zd #[Z a (C V) ca,Z b (C L) cb,Z c (C R) cc]] U fun e w'=>e=yW (J I (aS V L R))/\da U w'):
  c6 205 #[zd #[Z a (C V) ca,Z b (C L) cb,Z c (C R) cc],J I (v:Nat)] w fun e w'=>Gl (O (T w)) (gU L v,gL V L R v) e w'/\da w w':=
 (aok a b c ca cb cc v V L R w h f hs i h0 g y).ae fun _ _ d=>⟨Av.tb (t:=(gU L v,gL V L R v)) d.1,d.2⟩
variable {K:Act ->E ->Prop} {Q:Exit ->Act ->E ->Prop}
theorem V7 {o:Oper} {a:Act} (s x:Operand)
  (Bj:o.op=.call {callee:=.builtin .append,args:= #[s,x],argTypes:= #[27,27]}) (base:Nat) (v:wF) (l:Kx) (f:Int) (hs:a.eval s=v) (t:bW w base v l) (g:Nat) (Bh:a.eval x=Z (M ⟨g,0,N⟩) 1 1) (H:w.cell? ⟨g,0,N⟩=M (J I f)) (ab:C l+1<=100000) (Ba:base<=O (T w))
  (h:∀v' w',bW w' base v' (l++[f]) ->w.grownBy w' v.ownBlock ->(v'.ownBlock=v.ownBlock∨∀k,v'.ownBlock=M k ->O (T w)<=k) ->K (a.put o.dst v') w'):o.wp prog a w K Q:=by
 obtain⟨i,d,p,z,q⟩:=eC Tryz.infoInt
 have n:∀j u,[Value.int I f][j]? =M u ->w.cell? ((⟨g,0,N⟩:Addr).add j)=M u:=fun j u c=>by
  match j,c with
  |0,c=>cases c;exact H
  |j+1,c=>simp at c
 have A:∀u∈[Value.int I f],u.oneCell'=true:=fun u y=>by
  simp only[bY,gK,jq] at y;subst y;rfl
 have R:C l+1<=maxLen:=by unfold maxLen;omega
 obtain⟨v',w',r,Bm,F, -⟩:=run_append_own (P:=prog) w base 27 o.type 3 i (J I 0) 1 8 underlying27 d p z q rfl a6 v (C l) _ t ⟨g,0,N⟩ 1 1 [J I f] rfl n A R al Ba
 have S:v'.ownBlock=v.ownBlock∨∀k,v'.ownBlock=M k ->O (T w)<=k:=by
  rcases t.2 with ⟨b,X⟩ |⟨g',cap,Bb,b,B7,L,V,aa,B9,Y⟩
  ·right
   have e:=run_append_nil (P:=prog) w 27 o.type 3 i (J I 0) underlying27 d p ⟨g,0,N⟩ 1 1 [J I f] (by rw[z];rfl) n a6 a6 (by rw[q];decide);rw[b] at r;rw[r] at e;cases e;intro k m;cases m;exact ah _
  ·rw[b] at r;by_cases U:C l+1<=cap
   ·left
    have e:=run_append_room (P:=prog) w 27 o.type 3 i underlying27 d g' (C l) cap Bb L ⟨g,0,N⟩ 1 1 [J I f] (by rw[z];rfl) n A U (by rw[z,B9];simp;omega);rw[r] at e;cases e;rw[b];rfl
   ·right
    have D:=t;rw[b] at D;have e:=run_append_grow (P:=prog) w 27 o.type 3 i (J I 0) underlying27 d p ⟨g',0,N⟩ (C l) cap (l.map (Value.int I)) (by rw[z];simp) (World.ownsRow.cells D rfl) ⟨g,0,N⟩ 1 1 [J I f] (by rw[z];rfl) n al al (QN al (by rw[q];omega));rw[r] at e;cases e;intro k m;cases m;exact ah _
 unfold Oper.wp execOp;simp only[Bj,resolve,invoke,builtin,JQ,zi,vZ,JS,gw,oQ,hs,Bh,r];refine h v' w' ?_ F S;rw[bW,cE,gV];exact Bm
theorem V6 {o:Oper} {a:Act} (s x:Operand)
  (e:o.op=.call {callee:=.builtin .append,args:= #[s,x],argTypes:= #[175,175]}) (base:Nat) (v:wF) (n:Nat) (xs:List wF) (u1 u2:wF) (hs:a.eval s=v) (D:w.ownsRow base 38 2 v n xs) (g:Nat) (f:a.eval x=Z (M ⟨g,0,N⟩) 1 1) (h0:w.cell? ⟨g,0,N⟩=M u1) (h1:w.cell? ⟨g,1,N⟩=M u2) (q:bV u1) (t:bV u2) (F:n+1<=100000) (Bm:base<=O (T w))
  (h:∀v' w',w'.ownsRow base 38 2 v' (n+1) (xs++[u1,u2]) ->w.grownBy w' v.ownBlock ->(v'.ownBlock=v.ownBlock∨∀k,v'.ownBlock=M k ->O (T w)<=k) ->K (a.put o.dst v') w'):o.wp prog a w K Q:=by
 obtain⟨i,d,z,y,A⟩:=eC Tryz.infoTable
 obtain⟨v',w',r,l,m,p⟩:=WT (P:=prog) w base 175 o.type 38 i (zd #[Z N 0 0,Z N 0 0]) 2 48 underlying175 d z y A rfl a6 v n xs D ⟨g,0,N⟩ 1 1 [u1,u2] rfl (fun j u b=>by
  match j,b with
  |0,b=>cases b;exact h0
  |1,b=>cases b;exact h1
  |j+2,b=>simp at b) (fun u c=>by
  simp only[bY,gK,jq] at c;rcases c with rfl |rfl
  ·obtain⟨_,_,_,rfl⟩:=q;rfl
  ·obtain⟨_,_,_,rfl⟩:=t;rfl) (by unfold maxLen;omega) al Bm a6
 unfold Oper.wp execOp;simp only[e,resolve,invoke,builtin,JQ,zi,vZ,JS,gw,oQ,hs,f,r];exact h v' w' l m p
variable {rs:Ja} {oi:Oper}
section
variable {P : Program} {ops : Array Oper} {Q : Exit -> Act -> E -> Prop} {md : Region.Mode} {S : Bool -> E -> Prop} {k : Nat}
def wA (P:Program) (md:Region.Mode) (ops:Array Oper) (Q:Exit ->Act ->E ->Prop) (S:Bool ->E ->Prop) (k:Nat):Nat ->Array Bool ->Act ->E ->Prop
 |0,l,a,w=>Region.ready md ops l=[]/\Q .normal a w
 |n+1,l,a,w=>(Region.ready md ops l=[] ->Q .normal a w)/\∀i∈Region.ready md ops l,wpOp P ops Q i (fun a' w'=>S ((l.setIfInBounds i y6).getD k y6) w'/\wA P md ops Q S k n (l.setIfInBounds i y6) a' w') a w
theorem abL:∀(n:Nat) (l:Array Bool) (a:Act) (w:E),wA P md ops Q S k n l a w ->wpAny P md ops Q n l a w
 |0,_,_,_,h=>h
 |n+1,_,_,_,h=>⟨h.1,fun i d=>wpOp_mono (fun b w' c=>abL n _ b w' c.2) (h.2 i d)⟩
theorem ade {l:Array Bool} (h:i∈Region.ready md ops l):l.getD i y6=false:=(mem_ready.1 h).1
theorem abJ {v:wF} (W:Bool ->Prop) (D:ops[i]? =M oi) (B9:∀(j:Nat) (o:Oper) s b,ops[j]? =M o ->o.op≠.select s b)
  (hQ:∀c a w,Q (.panic c) (a.put oi.dst v) w ->Q (.panic c) a w)
  (hW:∀(l:Array Bool) (j:Nat),i∈Region.ready md ops l ->j∈Region.ready md ops l ->j≠i ->W (l.getD k y6) ->W ((l.setIfInBounds j y6).getD k y6)) (Bj:k≠i):
  ∀(n:Nat) (l:Array Bool) (a:Act) (w:E),
   (∀j g,ops[j]? =M g ->j≠i ->l.getD j y6=xd ->(∀e∈g.after,Region.binds md e=y6 ->e.on≠i) ->oi.apart ops g=y6) ->
   i∈Region.ready md ops l ->YieldsIf P ops (fun u=>∃b,W b/\S b u) oi v a ->W (l.getD k y6) ->S (l.getD k y6) w ->
   wA P md ops Q S k n (l.setIfInBounds i y6) (a.put oi.dst v) w ->wA P md ops Q S k (n+1) l a w:=by
 have Bb:∀l:Array Bool,(l.setIfInBounds i y6).getD k y6=l.getD k true:=fun l=>getD_set_ne y6 (Ne.symm Bj);intro n;induction n with
 |zero=>
  intro l a w _ r y t m H;refine⟨fun h=>(by rw[h] at r;cases r),fun j p=>?_⟩;by_cases d:j=i
  ·subst d;exact y.wpOp D ⟨_,t,m⟩ ⟨by rw[Bb];exact m,H⟩
  ·have:=ready_mono p d;rw[H.1] at this;cases this
 |succ n ih=>
  intro l a w Bh r y t m H;refine⟨fun h=>(by rw[h] at r;cases r),fun j p=>?_⟩;by_cases d:j=i
  ·subst d;exact y.wpOp D ⟨_,t,m⟩ ⟨by rw[Bb];exact m,H⟩
  ·have f:=H.2 j (ready_mono p d);obtain⟨L,g,K,ai⟩:=mem_ready.1 p
   have Y:∀e∈g.after,Region.binds md e=y6 ->e.on≠i:=fun e he hb ab=>by
    have f:=ai e he hb;have Bm:=ade r;rw[ab] at f;rcases dX i l.size with z |z
    ·simp[z] at Bm f;rw[Bm] at f;cases f
    ·simp[Array.getElem?_eq_none z] at f
   have B7:=wpOp_putIf K (Bh j g K d L Y) (fun s b=>B9 i oi s b D) (fun s b=>B9 j g s b K) hQ y f
   have aa:∀x q,ops[x]? =M q ->x≠i ->(l.setIfInBounds j y6).getD x y6=xd ->(∀e∈q.after,Region.binds md e=y6 ->e.on≠i) ->oi.apart ops q=true:=fun x q hx V F ad=>by
    refine Bh x q hx V ?_ ad;by_cases U:j=x
    ·subst U;exact L
    ·rw[getD_set_ne y6 U] at F;exact F
   have ae:=hW l j r p d t;have R:(l.setIfInBounds i y6).setIfInBounds j y6=(l.setIfInBounds j y6).setIfInBounds i true:=Array.setIfInBounds_comm _ _ (Ne.symm d);refine wpOp_mono (fun X w' A=>?_) B7
   have Ba:S ((l.setIfInBounds j y6).getD k y6) w':=by
    have:=A.2.1;rwa [R,getD_set_ne y6 (Ne.symm Bj)] at this
   refine⟨Ba,ih (l.setIfInBounds j y6) X w' aa (ready_mono r (Ne.symm d)) A.1 ae Ba ?_⟩;rw[<- R];exact A.2.2
theorem qa {v:wF} {l:Array Bool} {a:Act} (d:ops[i]? =M oi)
  (hs:Region.noSelect ops=y6) (o:Region.free md ops l i=y6) (r:(Region.ready md ops l).contains i=y6) (p:k≠i)
  (g:∀c a w,Q (.panic c) (a.put oi.dst v) w ->Q (.panic c) a w) (y:YieldsIf P ops (fun u=>∃b,S b u) oi v a) {b:Bool} (m:l.getD k y6=b) (j:S b w)
  (h:wA P md ops Q S k n (l.setIfInBounds i y6) (a.put oi.dst v) w):wA P md ops Q S k (n+1) l a w:=
 abJ (fun _=>True) d (Region.noSelect_spec hs) g (fun _ _ _ _ _ h=>h) p n l a w (Region.free_spec d o) (by simpa using r) (y.imp (fun ⟨e,f⟩=>⟨e,fun u ⟨b,_,q⟩=>f u ⟨b,q⟩⟩) id) trivial (by rw[m];exact j) h
theorem V8 {ok:Oper} {v:wF} {l:Array Bool} {a:Act} (p:ops[i]? =M oi)
  (hs:Region.noSelect ops=y6) (Bm:Region.free md ops l i=y6) (Bj:(Region.ready md ops l).contains i=y6) (H:k≠i)
  (D:ops[k]? =M ok) (L:(ok.after.any fun e=>Region.binds md e&&e.on==i)=y6)
  (y:∀c a w,Q (.panic c) (a.put oi.dst v) w ->Q (.panic c) a w) (Bb:YieldsIf P ops (S xd) oi v a) (f:l.getD k y6=xd) (z:S xd w)
  (h:wA P md ops Q S k n (l.setIfInBounds i y6) (a.put oi.dst v) w):wA P md ops Q S k (n+1) l a w:=by
 refine abJ (fun b=>b=xd) p (Region.noSelect_spec hs) y (fun l j r F Ba e=>?_) H n l a w (Region.free_spec p Bm) (by simpa using Bj) (Bb.imp (fun ⟨s,m⟩=>⟨s,fun u ⟨b,f,Bh⟩=>m u (by subst f;exact Bh)⟩) id) f (by rw[f];exact z) h;by_cases q:j=k
 ·subst q;exfalso
  obtain⟨_,R,K,B9⟩:=mem_ready.1 F;rw[D] at K;cases K;obtain⟨e,A,m⟩:=Array.any_eq_true'.1 L;obtain⟨t,x⟩:=Bool.and_eq_true_iff.1 m;have d:=B9 e A t;have o:=ade r;rw[eq_of_beq x] at d;rcases dX i l.size with g |g
  ·simp[g] at o d;rw[o] at d;cases d
  ·simp[Array.getElem?_eq_none g] at d
 ·rw[getD_set_ne y6 q];exact e
def fC (P:Program) (md:Region.Mode) (ops:Array Oper) (Q:Exit ->Act ->E ->Prop) (S:Bool ->E ->Prop) (k n:Nat) (l:Array Bool) (a:Act) (w:E) (rs:Ja):Prop:=
 ∀i∈rs,wpOp P ops Q i (fun a' w'=>S ((l.setIfInBounds i y6).getD k y6) w'/\wA P md ops Q S k n (l.setIfInBounds i y6) a' w') a w
theorem fC.nil {l:Array Bool} {a:Act}:fC P md ops Q S k n l a w []:=fun _ h=>by cases h
theorem fC.cons {l:Array Bool} {a:Act} {o:Oper} {b:Bool} (g:ops[i]? =M o) (f:(l.setIfInBounds i y6).getD k y6=b)
  (h:∀K:Act ->E ->Prop,Go.Shut (∀a w,S b w ->(S b w ->wA P md ops Q S k n (l.setIfInBounds i y6) a w) ->K a w) ->if Region.wanted o (yielded ops a.tmps)=y6 then Oper.wp P o a w K Q else K (a.put o.dst wQ) w)
  (hs:fC P md ops Q S k n l a w rs):fC P md ops Q S k n l a w (i::rs):=fun j c=>by
 rcases bY.1 c with rfl |c
 ·exact wpOp_step g (fun K e=>h K (fun a w d U=>e a w ⟨by rw[f];exact d,U d⟩))
 ·exact hs j c
theorem qd {l:Array Bool} {a:Act} (r:Region.ready md ops l=rs) (e:rs≠[]) (h:fC P md ops Q S k n l a w rs):wA P md ops Q S k (n+1) l a w:=
 ⟨fun b=>absurd (r▸b) e,r▸h⟩
theorem Rf {l:Array Bool} {a:Act} (r:Region.ready md ops l=[]) (h:Q .normal a w):∀n,wA P md ops Q S k n l a w
 |0=>⟨r,h⟩
 |_+1=>⟨fun _=>h,by rw[r];simp⟩
theorem abG {id:Nat} {a:Act} (k:Nat) (S:Bool ->E ->Prop) (m:P.follows .mixedOrders=y6) (b:S xd w.drew) (h:S xd w.drew ->wA P .any ops Q S k ops.size (Array.replicate ops.size xd) a w.drew):(Code.region id ops y6).wp P Q a w:=
 wp_region_any m (abL _ _ _ _ (h b))
end
variable {U':E}
structure pN (U:E) (B:Nat) (u1 u2 fv tv:wF):Prop where
 tb:aZ U B u1 u2
 nf:fv.ownBlock≠M B
 nt:tv.ownBlock≠M B
theorem pN.under {B:Nat} (h:pN U B u1 u2 fv tv) (b:da U U'):pN U' B u1 u2 fv tv:=⟨h.tb.aa b h.tb.lt,h.nf,h.nt⟩
theorem pN.pushF {B:Nat} {a:wF} (h:pN U B u1 u2 fv tv) (g:U.grownBy U' fv.ownBlock) (n:a.ownBlock=fv.ownBlock∨∀k,a.ownBlock=M k ->O (T U)<=k):pN U' B u1 u2 a tv:=
 ⟨(g.block B h.tb.lt (fun e=>h.nf e.symm)).trans h.tb,fun e=>by
  rcases n with n |n
  ·exact h.nf (n▸e)
  ·have:=n B e;have:=h.tb.lt;omega,h.nt⟩
theorem pN.pushT {B:Nat} {Bm:wF} (h:pN U B u1 u2 fv tv) (g:U.grownBy U' tv.ownBlock) (n:Bm.ownBlock=tv.ownBlock∨∀k,Bm.ownBlock=M k ->O (T U)<=k):pN U' B u1 u2 fv Bm:=
 ⟨(g.block B h.tb.lt (fun e=>h.nt e.symm)).trans h.tb,h.nf,fun e=>by
  rcases n with n |n
  ·exact h.nt (n▸e)
  ·have:=n B e;have:=h.tb.lt;omega⟩
theorem pN.off {B:Nat} (h:pN U B u1 u2 fv tv) (b j:Nat) (u:wF) (e:B≠b):pN (U.setCell ⟨b,j,N⟩ u) B u1 u2 fv tv:=⟨(eW U ⟨b,j,N⟩ u B e).trans h.tb,h.nf,h.nt⟩
theorem pN.new {W V:E} {b:Nat} {x:wF} {Q:List (wF×wF)} {P:List Tb} (h:nH W b x fv tv oB oZ l Q P V) (u1 u2:wF):pN (V.alloc (TC u1 u2)) (O (T V)) u1 u2 oB oZ:=
 ⟨aZ.at rfl u1 u2,fun e=>by have:=(uf h.fo _ e).2;omega,fun e=>by have:=(h.own.lt _ e).2;omega⟩
def mC (b B:Nat) (fv tv u1 u2:wF) (c:Bool) (U:E):Prop:=(U.cell? ⟨B,0,N⟩=M u1/\U.cell? ⟨B,1,N⟩=M u2)/\(c=xd ->U.cell? ⟨b,1,N⟩=M fv/\U.cell? ⟨b,2,N⟩=M tv)
theorem mC.of {W:E} {b B:Nat} {x:wF} {Q:List (wF×wF)} {P:List Tb} (h:nH W b x fv tv oB oZ l Q P U) (o:pN U B u1 u2 oB oZ) (c:Bool):mC b B fv tv u1 u2 c U:=⟨⟨o.tb.c0,o.tb.c1⟩,fun _=>h.box.cells.2⟩
theorem mC.late {b B:Nat} (o:pN U B u1 u2 oB oZ):mC b B fv tv u1 u2 y6 U:=⟨⟨o.tb.c0,o.tb.c1⟩,fun e=>by cases e⟩
theorem amz (a b c q:Kd) (ca cb cc cq:Nat) (V:List Vr) (L:List Kx) (R:List (List Fr)) (Fd:Kx) (w:E) (h:jo w a b c V L R) (hN:pP w b L) (hs:tD V L R) (hw:∀l∈R,fw l<=4200) (h0:aS V L R=0) (jl:bq L=0) (h1:1<=C L) (dO:∀l∈L,C l<=140737488355328) (hq:aB w q Fd) (fj:C Fd<=1000) (yD:∀U:E,jo U a b c V L R ->c6 81 #[zd #[Z a (C V) ca,Z b (C L) cb,Z c (C R) cc]] U fun e w'=>e=yW (J I (aS V L R))/\da U w'):
  c6 150 #[zd #[Z a (C V) ca,Z b (C L) cb,Z c (C R) cc],Z q (C Fd) cq] w fun e w'=>∃g d cd t' gO,e=yW (zd #[Z (M ⟨g,0,N⟩) (C V) (C V),Z d (C ((jK L).filter fun v:Nat=>Fd.contains (v:Int))) cd,Z t' (C ((jK L).filter fun v:Nat=>Fd.contains (v:Int))) gO])/\aB w' (M ⟨g,0,N⟩) (iL (ag V))/\aB w' d (iL ((jK L).filter fun v:Nat=>Fd.contains (v:Int)))/\jn w' t' (((jK L).filter fun v:Nat=>Fd.contains (v:Int)).map fun v=>(gU L v,gL V L R v))/\da w w'/\i7 (O (T w)) t' gO:=by
 have bD:=gY h0;have h8:C L<=8:=by rw[bD.len];exact bD.n8
 have bh:=Fa (fun (U:E) (hU:da w U)=>aoH b cb L U (h.aa hU).pars dO jl);have eh:=Fa (fun (x:Kd) (cx:Nat) (U:E) (hx:dP U x (pj L))=>arD x cx L U hx (yG jl) h1 h8);have ik:=Fa (fun (U:E) (hU:da w U)=>NF a b c ca cb cc (C L) (C R) V U (h.aa hU).Fd hs.Fd.1);have az:=Fa (fun (v:Nat) (hv:v<C V) (U:E) (hU:da w U)=>aqY a b c ca cb cc v V L R U (h.aa hU) (hN.aa h.pars hU) hs hw h0 hv yD);have uM:wT (∀(x:Int) (U:E),da w U ->c6 98 #[Z q (C Fd) cq,J I x] U fun e w'=>e=yW (zZ (Fd.contains x))/\da U w'):=fun x U hU=>Nj q cq Fd x U (hq.aa hU) al;have wZ:=(au (O (T w)) w).alloc (ah _) (NC (Z a (C V) ca) (Z b (C L) cb) (Z c (C R) cc));have nB:=wZ.alloc wZ.size (yM #[Z N 0 0,Z N 0 0,Z N 0 0] 177);have ZM:=cj.at (w:=w) rfl (Z a (C V) ca) (Z b (C L) cb) (Z c (C R) cc);have Tv:=ZM.aa ((au _ _).alloc (ah _) (yM #[Z N 0 0,Z N 0 0,Z N 0 0] 177)) ZM.lt;have kV:cI ((w.alloc (NC (Z a (C V) ca) (Z b (C L) cb) (Z c (C R) cc))).alloc (yM #[Z N 0 0,Z N 0 0,Z N 0 0] 177)) (O (T w)+1) (Z N 0 0) (Z N 0 0) (Z N 0 0):=cI.at (w:=w.alloc (NC (Z a (C V) ca) (Z b (C L) cb) (Z c (C R) cc))) aE _ _ _;have n1:=Tv.cells.2.1
 obtain⟨F,F5⟩:∃F:Nat ->Ja,∀k,((jK L).take k).filter (fun v:Nat=>Fd.contains (v:Int))=F k:=⟨fun k=>((jK L).take k).filter (fun v:Nat=>Fd.contains (v:Int)),fun _=>rfl⟩;obtain⟨TL,uC⟩:∃TL:Nat ->List Tb,∀k,(F k).map (fun v=>(gU L v,gL V L R v))=TL k:=⟨fun k=>(F k).map (fun v=>(gU L v,gL V L R v)),fun _=>rfl⟩;have FE:C (jK L)=C L:=by rw[Sj];simp
 have pR:wT (∀i,i<C L ->∃v:Nat,v<C V/\(∀(d1:Kd) (U:E),aB U d1 (iL (jK L)) ->∃g ab,d1=M ⟨g,ab,N⟩/\g<O (T U)/\U.cell? ⟨g,ab+i,N⟩=M (J I (v:Nat)))/\(Fd.contains (v:Int)=y6 ->F (i+1)=F i++[v])/\(Fd.contains (v:Int)=xd ->F (i+1)=F i)):=fun i hi=>by
  have Tf:i<C (jK L):=al
  have OI:i<C (iL (jK L)):=by rw[bR];exact Tf
  refine⟨(jK L)[i],?_,fun d1 U hU=>?_,fun h=>?_,fun h=>?_⟩
  ·rw[<- bD.len];exact Xy (yG jl) h1 h8 (bU Tf)
  ·obtain⟨g,ab,e,hg,hc⟩:=hU i OI;refine⟨g,ab,e,hg,?_⟩;rw[hc];simp[iL]
  ·rw[<- F5, <- F5,gR Tf,xP,CP (p:=fun v:Nat=>Fd.contains (v:Int)) h];rfl
  ·rw[<- F5, <- F5,gR Tf,xP,CQ (p:=fun v:Nat=>Fd.contains (v:Int)) (by rw[h];decide)];simp
 have GY:wT (F 0=[]/\TL 0=[]):=by show _/\_;rw[<- uC, <- F5];exact⟨rfl,rfl⟩
 have k5:wT (∀k,C (F k)<=8):=fun k=>by rw[<- F5];exact aM (oT ..) (by rw[fh];omega)
 have aR:wT (∀k,C (TL k)<=8):=fun k=>by rw[<- uC,cY];exact k5.o k
 have Ce:wT (∀(k v:Nat),F (k+1)=F k++[v] ->iL (F (k+1))=iL (F k)++[(v:Int)]/\TL (k+1)=TL k++[(gU L v,gL V L R v)]):=fun k v h=>by rw[<- uC, <- uC,h,gV,iL,gV];exact⟨rfl,rfl⟩
 have P7:wT (∀k,F (k+1)=F k ->TL (k+1)=TL k):=fun k h=>by rw[<- uC, <- uC,h]
 have ay:wT (F (C L)=(jK L).filter (fun v:Nat=>Fd.contains (v:Int))):=by show _=_;rw[<- F5, <- FE,iD]
 have sI:wT (TL (C L)=((jK L).filter (fun v:Nat=>Fd.contains (v:Int))).map fun v=>(gU L v,gL V L R v)):=by show _=_;rw[<- uC,ay.o]
 have bo:C (TL (C L))=C (F (C L)):=by rw[<- uC,cY]
 rw[<- ay.o] at sI⊢;rw[<- sI.o];clear F5 uC ay sI FE h hN hs hw hq yD wZ ZM;go_enter func150,ntmps150;go_wp2_with fail
 generalize ((w.alloc (NC (Z a (C V) ca) (Z b (C L) cb) (Z c (C R) cc))).alloc (yM #[Z N 0 0,Z N 0 0,Z N 0 0] 177))=W0 at *;refine(bh.o W0 nB).ae ?_;rintro e w1 ⟨G1,rfl,kE,av⟩;have aY:=nB.trans (av.ae nB.size);have BU:=Tv.aa av Tv.lt;have a1:=kV.aa av kV.lt;have Vl:=Fa (eh.o _ (C L) w1 kE);clear n1 Tv kV nB av kE;go_wp2_with fail
 refine Vl.o.ae ?_;rintro e w2 ⟨d1,bz,G2,rfl,qY,ax⟩;have ak:=aY.trans (ax.ae aY.size);have Af:=BU.aa ax BU.lt;have an:=a1.aa ax a1.lt;obtain⟨n0,n1,n2⟩:=Af.cells;have tJ:=Fa (ik.o w2 ak);clear aY BU a1 ax Vl;go_wp2_with fail
 refine tJ.o.ae ?_;rintro e m ⟨G,rfl,hG,bc,aj⟩;have dm:=ak.trans (aj.ae ak.size);have ZL:=Af.aa aj Af.lt;have np:=an.aa aj an.lt;have Pd:=qY.aa aj;have bB:=an.lt;have bC:=aj.size;have oA:=(au (O (T m)) m).alloc (ah _) (yM #[Z (M ⟨G,0,N⟩) (C V) (C V),Z N 0 0,Z N 0 0] 177);have l8:O (T (m.alloc (yM #[Z (M ⟨G,0,N⟩) (C V) (C V),Z N 0 0,Z N 0 0] 177)))=O (T m)+1:=aE
 have fA:=Fa (dm.trans (oA.ae dm.size));have Cp:=Fa (ZL.aa oA ZL.lt);have jU:=Fa (np.alloc (yM #[Z (M ⟨G,0,N⟩) (C V) (C V),Z N 0 0,Z N 0 0] 177));have JA:=Fa (Pd.aa oA);have bw:=Fa (bc.ints.aa oA);have Tz:=bc.lt;have tO:wT (nH (m.alloc (yM #[Z (M ⟨G,0,N⟩) (C V) (C V),Z N 0 0,Z N 0 0] 177)) (O (T m)) (Z (M ⟨G,0,N⟩) (C V) (C V)) (Z N 0 0) (Z N 0 0) (Z N 0 0) (Z N 0 0) (iL []) [] [] (m.alloc (yM #[Z (M ⟨G,0,N⟩) (C V) (C V),Z N 0 0,Z N 0 0] 177))):=nH.start (cI.at (w:=m) rfl (Z (M ⟨G,0,N⟩) (C V) (C V)) (Z N 0 0) (Z N 0 0));have bs:=Fa oA
 have bg:wT (∀U:E,(m.alloc (yM #[Z (M ⟨G,0,N⟩) (C V) (C V),Z N 0 0,Z N 0 0] 177)).grownBy U (M (O (T m))) ->aB U d1 (iL (jK L))):=fun U hU=>NY JA.o (fun g ab e ai e2=>by
  obtain⟨g',o',e',iz,_⟩:=Pd 0 (by cases hl:iL (jK L) with |nil=>exact absurd hl ai |cons x l=>simp);rw[e] at e';cases e';cases e2;omega) hU
 have bu:wT (∀U:E,(m.alloc (yM #[Z (M ⟨G,0,N⟩) (C V) (C V),Z N 0 0,Z N 0 0] 177)).grownBy U (M (O (T m))) ->aB U (M ⟨G,0,N⟩) (iL (ag V))):=fun U hU=>NY bw.o (fun g ab e ai e2=>by
  cases e;cases e2;omega) hU
 clear ak dm Af ZL an np Pd qY oA bc aj n0 n1 n2 tJ ik bh eh h0 jl bD dO;go_wp2_with fail
 generalize (m.alloc (yM #[Z (M ⟨G,0,N⟩) (C V) (C V),Z N 0 0,Z N 0 0] 177))=W4 at *;have ad:O (T m)<O (T W4):=al
 go_loopw [32] (fun iv wr=>∃(i:Nat) (fv tv:wF) (Q:List (wF×wF)),i<=C L/\iv=J I i/\wT (nH W4 (O (T m)) (Z (M ⟨G,0,N⟩) (C V) (C V)) fv tv fv tv (iL (F i)) Q (TL i) wr)) (fun iv _=>C L - (intOf iv).toNat)
 case atStart=>exact⟨0,_,_,_,aV _,rfl,by rw[GY.o.1,GY.o.2];exact tO⟩
 case round=>
  obtain⟨i,fv,tv,Q,hi,rfl,H⟩:=hrel;have Dy:=H.o.fr.size;have HB:wT (da w wr):=Pj fA.o H.o.fr al al;have EF:wT (da m wr):=Pj bs.o H.o.fr al al;have Ml:wT (cj wr (O (T w)) (Z a (C V) ca) (Z b (C L) cb) (Z c (C R) cc)):=(H.o.fr.block _ Cp.o.lt (fun e=>by have:=jO e;omega)).trans Cp.o;have tK:wT (cI wr (O (T w)+1) (Z N 0 0) (Z N 0 0) (Z N 0 0)):=(H.o.fr.block _ jU.o.lt (fun e=>by have:=jO e;omega)).trans jU.o;by_cases bx:i<C L
  ·obtain⟨v,hv,br,bb,tu⟩:=pR.o i bx;obtain⟨g,ab,rfl,hg,hc⟩:=br d1 wr (bg.o wr H.o.fr);have HX:=Fa (uM.o (v:Int) wr HB.o);have bf:=Fa (az.o v hv);have ir:=Fa (fun h=>Ce.o i v (bb h));have kZ:=Fa tu;clear br bb tu jU Cp tK;generalize Fd.contains (v:Int)=bv at *;go_wp2_with fail
   refine HX.o.ae ?_;rintro e w5 ⟨rfl,OY⟩;have lL:=Fa (H.o.under OY);have Ju:=Fa (Ml.o.aa OY Ml.o.lt);have fp:=Fa (HB.o.trans (OY.ae HB.o.size));have bN:=OY.size;have tM:wT (∀B7,fv.ownBlock=M B7 ->B7<O (T wr)):=fun B7 hZ=>(uf H.o.fo B7 hZ).2;have yR:wT (∀B7,tv.ownBlock=M B7 ->B7<O (T wr)):=fun B7 hZ=>(H.o.own.lt B7 hZ).2;clear hc HX H Ml HB OY EF;cases bv with
   |false=>
    replace kZ:=Fa (kZ.o rfl);replace P7:=Fa (P7.o i kZ.o);go_wp2;go_roundw
    case rel=>exact⟨i+1,fv,tv,Q,al,bd,by rw[kZ.o,P7.o];exact lL⟩
    case measure=>simp[intOf];omega
   |true=>
    obtain⟨n0,n1,n2⟩:=Ju.o.cells;have qL:=Fa (bf.o w5 fp.o);replace ir:=Fa (ir.o rfl);clear bf kZ fp az uM P7 Ce;go_wp2_with fail
    refine qL.o.ae ?_;rintro e w6 ⟨⟨u1,u2,rfl,BA,BL⟩,iQ⟩;have AE:=Fa BA.slices;have bO:=iQ.size;have ry:wT (∀B7,B7<O (T wr) ->iA B7 (gU L v,gL V L R v) (u1,u2)):=fun B7 hZ=>BL B7 al;have Jv:=Fa (lL.o.under iQ);have bk:=Fa BA;obtain⟨s,z,D,rfl⟩:=BA.slices.1;obtain⟨t,u,A,rfl⟩:=BA.slices.2;clear BA BL qL n0 n1 n2 Ju lL;go_upto_region 9 with (fail)
    have BV:=(au (O (T w6)) w6).alloc (ah _) (TC (Z s z D) (Z t u A));have B9:=Fa (pN.new Jv.o (Z s z D) (Z t u A));have H:=Fa (Jv.o.under BV);have n:=Fa (bk.o.aa BV);(have ai:O (T w6)≠m.heap.size:=al);clear BV Jv bk iQ;generalize aqQ:O (T w6)=VD at *;obtain⟨W8,uB⟩:∃W8,w6.alloc (TC (Z s z D) (Z t u A))=W8:=⟨_,rfl⟩;have bm:w6.alloc (yM #[Z s z D,Z t u A] 38)=W8:=uB;rw[uB] at B9 H n;simp only[bm];clear uB bm aqQ;have Aj:da W8 W8.drew:=(au (O (T W8)) W8).drew;replace B9:=Fa (B9.o.under Aj);replace H:=Fa (H.o.under Aj);replace n:=Fa (n.o.aa Aj);clear Aj;obtain⟨D5,DW⟩:∃D5,W8.drew=D5:=⟨_,rfl⟩;rw[DW] at B9 H n;refine abG 11 (mC (O (T m)) VD fv tv (Z s z D) (Z t u A)) ao (by rw[DW];exact mC.of H.o B9.o xd) (fun f=>?_);rw[DW] at f⊢;clear DW;(try simp only[gE,aP]);refine qa (i:=0) (oi:=_) (v:=zR (M ⟨O (T m),1,N⟩)) (b:=xd) rfl ao ao ao a6 (fun _ _ _ h=>h) (Or.inl ⟨by rfl,?_⟩) ao b5 ?_
    ·intro u' aJ;go_simp
    (try simp only[gE,aP]);refine V8 (i:=1) (oi:=_) (v:=fv) rfl ao ao ao a6 rfl ao (fun _ _ _ h=>h) (Or.inl ⟨by rfl,?_⟩) ao b5 ?_
    ·intro u' aJ;(try simp only[gE]);obtain⟨⟨_,_⟩,kF⟩:=aJ;obtain⟨nk,q9⟩:=kF rfl;go_simp
    (try simp only[gE,aP]);refine qa (i:=2) (oi:=_) (v:=J I (v:Nat)) (b:=xd) rfl ao ao ao a6 (fun _ _ _ h=>h) (Or.inl ⟨by rfl,?_⟩) ao b5 ?_
    ·intro u' aJ;go_simp
    (try simp only[gE,aP]);refine qa (i:=5) (oi:=_) (v:=zR (M ⟨O (T m),2,N⟩)) (b:=xd) rfl ao ao ao a6 (fun _ _ _ h=>h) (Or.inl ⟨by rfl,?_⟩) ao b5 ?_
    ·intro u' aJ;go_simp
    (try simp only[gE,aP]);refine V8 (i:=6) (oi:=_) (v:=tv) rfl ao ao ao a6 rfl ao (fun _ _ _ h=>h) (Or.inl ⟨by rfl,?_⟩) ao b5 ?_
    ·intro u' aJ;(try simp only[gE]);obtain⟨⟨_,_⟩,kF⟩:=aJ;obtain⟨nk,q9⟩:=kF rfl;go_simp
    (try simp only[gE,aP]);refine qa (i:=7) (oi:=_) (v:=zd #[Z s z D,Z t u A]) (b:=xd) rfl ao ao ao a6 (fun _ _ _ h=>h) (Or.inl ⟨by rfl,?_⟩) ao b5 ?_
    ·intro u' aJ;(try simp only[gE]);obtain⟨_,⟨tu,bb⟩,_⟩:=aJ;go_simp
    (try simp only[gE,aP]);refine qd (rs:=[3,8]) ao aE (fC.cons (b:=xd) rfl ao ?_ (fC.cons (b:=xd) rfl ao ?_ (fC.nil)))
    ·intro o K;go_simp;have Bj:=(au (O (T D5)) D5).alloc (ah _) (yM #[J I (v:Nat)] 3);have mI:=Fa (bF D5 3 (J I (v:Nat))).cell;replace H:=Fa (H.o.under Bj);replace B9:=Fa (B9.o.under Bj);replace n:=Fa (n.o.aa Bj);clear f;refine K.o _ _ (mC.of H.o B9.o xd) (fun f=>?_);clear K o Bj;obtain⟨ga,BP⟩:∃ga,O (T D5)=ga:=⟨_,rfl⟩;obtain⟨ua,od⟩:∃ua,D5.alloc (yM #[J I (v:Nat)] 3)=ua:=⟨_,rfl⟩;rw[BP,od] at mI;rw[od] at H B9 n;simp only[od] at f⊢;simp only[BP];clear od BP;(try simp only[gE,aP]);refine qd (rs:=[4,8]) ao aE (fC.cons (b:=xd) rfl ao ?_ (fC.cons (b:=xd) rfl ao ?_ (fC.nil)))
     ·intro o K;rw[aw (by rfl)];refine V7 _ _ rfl (O (T W4)) fv (iL (F i)) (v:Int) rfl H.o.fo ga rfl mI.o (by rw[bR];have:=k5.o i;omega) H.o.fr.size ?_;intro Gb w9 ur X Y
      have GI:wT (∀B7,Gb.ownBlock=M B7 ->iA B7 (gU L v,gL V L R v) (Z s z D,Z t u A)):=fun B7 hR=>by
       rcases Y with hn |hn
       ·exact ry.o B7 (tM.o B7 (by rw[<- hn];exact hR))
       ·exact n.o.lt (hn B7 hR)
      replace n:=Fa (n.o.keepR (fun r hr=>ry.o r (tM.o r hr)) X);replace B9:=Fa (B9.o.pushF X Y);replace H:=Fa (H.o.pushF ad ur X Y)
      obtain⟨Ba,Bm,Bh,rfl⟩:∃Ba Bm Bh,Gb=Value.slice Bm Ba Bh:=by
       obtain⟨Bm,Bh,e⟩:=xW ur;exact⟨_,Bm,Bh,e⟩
      clear f;refine K.o _ _ (mC.of H.o B9.o xd) (fun f=>?_);clear K o ur X Y mI;(try simp only[gE,aP]);refine qa (i:=10) (oi:=_) (v:=zR (M ⟨O (T m),1,N⟩)) (b:=xd) rfl ao ao ao a6 (fun _ _ _ h=>h) (Or.inl ⟨by rfl,?_⟩) ao b5 ?_
      ·intro u' aJ;go_simp
      (try simp only[gE,aP]);refine qd (rs:=[8]) ao aE (fC.cons (b:=xd) rfl ao ?_ (fC.nil))
      ·intro o K;go_simp;have Bj:=(au (O (T w9)) w9).alloc (ah _) (TC (Z s z D) (Z t u A));have Bb:=Fa (pN.new H.o (Z s z D) (Z t u A));replace H:=Fa (H.o.under Bj);replace B9:=Fa (B9.o.under Bj);replace n:=Fa (n.o.aa Bj);clear f;refine K.o _ _ (mC.of H.o B9.o xd) (fun f=>?_);clear K o Bj;obtain⟨gt,dY⟩:∃gt,O (T w9)=gt:=⟨_,rfl⟩;obtain⟨ut,qo⟩:∃ut,w9.alloc (TC (Z s z D) (Z t u A))=ut:=⟨_,rfl⟩;have Fq:w9.alloc (yM #[Z s z D,Z t u A] 38)=ut:=qo;rw[dY,qo] at Bb;rw[qo] at H B9 n;simp only[Fq] at f⊢;simp only[dY];clear qo Fq dY;(try simp only[gE,aP]);refine qd (rs:=[9]) ao aE (fC.cons (b:=xd) rfl ao ?_ (fC.nil))
       ·intro o K;rw[aw (by rfl)];refine V6 _ _ rfl (O (T W4)) tv (C (TL i)) (fV Q) (Z s z D) (Z t u A) rfl H.o.own.own gt rfl Bb.o.tb.c0 Bb.o.tb.c1 AE.o.1 AE.o.2 (by have:=aR.o i;omega) H.o.fr.size ?_;intro eX dF iy ia ji;replace B9:=Fa (B9.o.pushT ia ji);replace H:=Fa (H.o.pushT ad n.o (fun B7 hZ=>ry.o B7 (yR.o B7 hZ)) GI.o (fun B7 hZ=>ry.o B7 al) iy ia ji);obtain⟨P,S,rfl⟩:=xW iy;clear f;refine K.o _ _ (mC.of H.o B9.o xd) (fun f=>?_);clear K o iy ia ji Bb n GI;have c1:=H.o.box.cells.2.1;have f1:=H.o.box.fz 1;refine qd (rs:=[11]) ao aE (fC.cons (b:=y6) rfl ao ?_ (fC.nil))
        ·intro o K;go_simp;replace H:=Fa (H.o.set1 ad (Z Bm Ba Bh));replace B9:=Fa (B9.o.off (O (T m)) 1 (Z Bm Ba Bh) ai);clear f;refine K.o _ _ (mC.late B9.o) (fun f=>?_);clear K o c1 f1;(try simp only[gE,aP]);refine qa (i:=12) (oi:=_) (v:=zR (M ⟨O (T m),2,N⟩)) (b:=y6) rfl ao ao ao a6 (fun _ _ _ h=>h) (Or.inl ⟨by rfl,?_⟩) ao b5 ?_
         ·intro u' aJ;go_simp
         have c2:=H.o.box.cells.2.2;have f2:=H.o.box.fz 2;refine qd (rs:=[13]) ao aE (fC.cons (b:=y6) rfl ao ?_ (fC.nil))
         ·intro o K;go_simp;replace H:=Fa (H.o.set2 ad (Z P (C (TL i)+1) S));replace B9:=Fa (B9.o.off (O (T m)) 2 (Z P (C (TL i)+1) S) ai);clear f;refine K.o _ _ (mC.late B9.o) (fun f=>?_);clear K o c2 f2;(try simp only[gE,aP]);refine Rf ao ?_ _;clear f B9;generalize (((dF.setCell ⟨O (T m),1,N⟩ (Z Bm Ba Bh))).setCell ⟨O (T m),2,N⟩ (Z P (C (TL i)+1) S))=wB at *;go_wp2;go_roundw
          case rel=>exact⟨i+1,_,_,_,al,bd,by rw[ir.o.1,ir.o.2];exact H⟩
          case measure=>simp[intOf];omega
     ·intro o K;go_simp;have Bj:=(au (O (T ua)) ua).alloc (ah _) (TC (Z s z D) (Z t u A));have Bb:=Fa (pN.new H.o (Z s z D) (Z t u A));replace H:=Fa (H.o.under Bj);replace B9:=Fa (B9.o.under Bj);replace n:=Fa (n.o.aa Bj);replace mI:=Fa (((Bj.cell (p:=⟨ga,0,N⟩) (World.block_lt_of_cell? _ _ mI.o))).trans mI.o);clear f;refine K.o _ _ (mC.of H.o B9.o xd) (fun f=>?_);clear K o Bj;obtain⟨gt,dY⟩:∃gt,O (T ua)=gt:=⟨_,rfl⟩;obtain⟨ut,qo⟩:∃ut,ua.alloc (TC (Z s z D) (Z t u A))=ut:=⟨_,rfl⟩;have Fq:ua.alloc (yM #[Z s z D,Z t u A] 38)=ut:=qo;rw[dY,qo] at Bb;rw[qo] at H B9 n mI;simp only[Fq] at f⊢;simp only[dY];clear qo Fq dY;(try simp only[gE,aP]);refine qd (rs:=[4]) ao aE (fC.cons (b:=xd) rfl ao ?_ (fC.nil))
      ·intro o K;rw[aw (by rfl)];refine V7 _ _ rfl (O (T W4)) fv (iL (F i)) (v:Int) rfl H.o.fo ga rfl mI.o (by rw[bR];have:=k5.o i;omega) H.o.fr.size ?_;intro Gb w9 ur X Y
       have GI:wT (∀B7,Gb.ownBlock=M B7 ->iA B7 (gU L v,gL V L R v) (Z s z D,Z t u A)):=fun B7 hR=>by
        rcases Y with hn |hn
        ·exact ry.o B7 (tM.o B7 (by rw[<- hn];exact hR))
        ·exact n.o.lt (hn B7 hR)
       replace n:=Fa (n.o.keepR (fun r hr=>ry.o r (tM.o r hr)) X);replace Bb:=Fa (Bb.o.pushF X Y);replace B9:=Fa (B9.o.pushF X Y);replace H:=Fa (H.o.pushF ad ur X Y)
       obtain⟨Ba,Bm,Bh,rfl⟩:∃Ba Bm Bh,Gb=Value.slice Bm Ba Bh:=by
        obtain⟨Bm,Bh,e⟩:=xW ur;exact⟨_,Bm,Bh,e⟩
       clear f;refine K.o _ _ (mC.of H.o B9.o xd) (fun f=>?_);clear K o ur X Y mI;(try simp only[gE,aP]);refine qa (i:=10) (oi:=_) (v:=zR (M ⟨O (T m),1,N⟩)) (b:=xd) rfl ao ao ao a6 (fun _ _ _ h=>h) (Or.inl ⟨by rfl,?_⟩) ao b5 ?_
       ·intro u' aJ;go_simp
       (try simp only[gE,aP]);refine qd (rs:=[9]) ao aE (fC.cons (b:=xd) rfl ao ?_ (fC.nil))
       ·intro o K;rw[aw (by rfl)];refine V6 _ _ rfl (O (T W4)) tv (C (TL i)) (fV Q) (Z s z D) (Z t u A) rfl H.o.own.own gt rfl Bb.o.tb.c0 Bb.o.tb.c1 AE.o.1 AE.o.2 (by have:=aR.o i;omega) H.o.fr.size ?_;intro eX dF iy ia ji;replace B9:=Fa (B9.o.pushT ia ji);replace H:=Fa (H.o.pushT ad n.o (fun B7 hZ=>ry.o B7 (yR.o B7 hZ)) GI.o (fun B7 hZ=>ry.o B7 al) iy ia ji);obtain⟨P,S,rfl⟩:=xW iy;clear f;refine K.o _ _ (mC.of H.o B9.o xd) (fun f=>?_);clear K o iy ia ji Bb n GI;have c1:=H.o.box.cells.2.1;have f1:=H.o.box.fz 1;refine qd (rs:=[11]) ao aE (fC.cons (b:=y6) rfl ao ?_ (fC.nil))
        ·intro o K;go_simp;replace H:=Fa (H.o.set1 ad (Z Bm Ba Bh));replace B9:=Fa (B9.o.off (O (T m)) 1 (Z Bm Ba Bh) ai);clear f;refine K.o _ _ (mC.late B9.o) (fun f=>?_);clear K o c1 f1;(try simp only[gE,aP]);refine qa (i:=12) (oi:=_) (v:=zR (M ⟨O (T m),2,N⟩)) (b:=y6) rfl ao ao ao a6 (fun _ _ _ h=>h) (Or.inl ⟨by rfl,?_⟩) ao b5 ?_
         ·intro u' aJ;go_simp
         have c2:=H.o.box.cells.2.2;have f2:=H.o.box.fz 2;refine qd (rs:=[13]) ao aE (fC.cons (b:=y6) rfl ao ?_ (fC.nil))
         ·intro o K;go_simp;replace H:=Fa (H.o.set2 ad (Z P (C (TL i)+1) S));replace B9:=Fa (B9.o.off (O (T m)) 2 (Z P (C (TL i)+1) S) ai);clear f;refine K.o _ _ (mC.late B9.o) (fun f=>?_);clear K o c2 f2;(try simp only[gE,aP]);refine Rf ao ?_ _;clear f B9;generalize (((dF.setCell ⟨O (T m),1,N⟩ (Z Bm Ba Bh))).setCell ⟨O (T m),2,N⟩ (Z P (C (TL i)+1) S))=wB at *;go_wp2;go_roundw
          case rel=>exact⟨i+1,_,_,_,al,bd,by rw[ir.o.1,ir.o.2];exact H⟩
          case measure=>simp[intOf];omega
    ·intro o K;go_simp;have Bj:=(au (O (T D5)) D5).alloc (ah _) (TC (Z s z D) (Z t u A));have Bb:=Fa (pN.new H.o (Z s z D) (Z t u A));replace H:=Fa (H.o.under Bj);replace B9:=Fa (B9.o.under Bj);replace n:=Fa (n.o.aa Bj);clear f;refine K.o _ _ (mC.of H.o B9.o xd) (fun f=>?_);clear K o Bj;obtain⟨gt,dY⟩:∃gt,O (T D5)=gt:=⟨_,rfl⟩;obtain⟨ut,qo⟩:∃ut,D5.alloc (TC (Z s z D) (Z t u A))=ut:=⟨_,rfl⟩;have Fq:D5.alloc (yM #[Z s z D,Z t u A] 38)=ut:=qo;rw[dY,qo] at Bb;rw[qo] at H B9 n;simp only[Fq] at f⊢;simp only[dY];clear qo Fq dY;(try simp only[gE,aP]);refine qd (rs:=[3]) ao aE (fC.cons (b:=xd) rfl ao ?_ (fC.nil))
     ·intro o K;go_simp;have Bj:=(au (O (T ut)) ut).alloc (ah _) (yM #[J I (v:Nat)] 3);have mI:=Fa (bF ut 3 (J I (v:Nat))).cell;replace H:=Fa (H.o.under Bj);replace B9:=Fa (B9.o.under Bj);replace Bb:=Fa (Bb.o.under Bj);replace n:=Fa (n.o.aa Bj);clear f;refine K.o _ _ (mC.of H.o B9.o xd) (fun f=>?_);clear K o Bj;obtain⟨ga,BP⟩:∃ga,O (T ut)=ga:=⟨_,rfl⟩;obtain⟨ua,od⟩:∃ua,ut.alloc (yM #[J I (v:Nat)] 3)=ua:=⟨_,rfl⟩;rw[BP,od] at mI;rw[od] at H B9 n Bb;simp only[od] at f⊢;simp only[BP];clear od BP;(try simp only[gE,aP]);refine qd (rs:=[4]) ao aE (fC.cons (b:=xd) rfl ao ?_ (fC.nil))
      ·intro o K;rw[aw (by rfl)];refine V7 _ _ rfl (O (T W4)) fv (iL (F i)) (v:Int) rfl H.o.fo ga rfl mI.o (by rw[bR];have:=k5.o i;omega) H.o.fr.size ?_;intro Gb w9 ur X Y
       have GI:wT (∀B7,Gb.ownBlock=M B7 ->iA B7 (gU L v,gL V L R v) (Z s z D,Z t u A)):=fun B7 hR=>by
        rcases Y with hn |hn
        ·exact ry.o B7 (tM.o B7 (by rw[<- hn];exact hR))
        ·exact n.o.lt (hn B7 hR)
       replace n:=Fa (n.o.keepR (fun r hr=>ry.o r (tM.o r hr)) X);replace Bb:=Fa (Bb.o.pushF X Y);replace B9:=Fa (B9.o.pushF X Y);replace H:=Fa (H.o.pushF ad ur X Y)
       obtain⟨Ba,Bm,Bh,rfl⟩:∃Ba Bm Bh,Gb=Value.slice Bm Ba Bh:=by
        obtain⟨Bm,Bh,e⟩:=xW ur;exact⟨_,Bm,Bh,e⟩
       clear f;refine K.o _ _ (mC.of H.o B9.o xd) (fun f=>?_);clear K o ur X Y mI;(try simp only[gE,aP]);refine qa (i:=10) (oi:=_) (v:=zR (M ⟨O (T m),1,N⟩)) (b:=xd) rfl ao ao ao a6 (fun _ _ _ h=>h) (Or.inl ⟨by rfl,?_⟩) ao b5 ?_
       ·intro u' aJ;go_simp
       (try simp only[gE,aP]);refine qd (rs:=[9]) ao aE (fC.cons (b:=xd) rfl ao ?_ (fC.nil))
       ·intro o K;rw[aw (by rfl)];refine V6 _ _ rfl (O (T W4)) tv (C (TL i)) (fV Q) (Z s z D) (Z t u A) rfl H.o.own.own gt rfl Bb.o.tb.c0 Bb.o.tb.c1 AE.o.1 AE.o.2 (by have:=aR.o i;omega) H.o.fr.size ?_;intro eX dF iy ia ji;replace B9:=Fa (B9.o.pushT ia ji);replace H:=Fa (H.o.pushT ad n.o (fun B7 hZ=>ry.o B7 (yR.o B7 hZ)) GI.o (fun B7 hZ=>ry.o B7 al) iy ia ji);obtain⟨P,S,rfl⟩:=xW iy;clear f;refine K.o _ _ (mC.of H.o B9.o xd) (fun f=>?_);clear K o iy ia ji Bb n GI;have c1:=H.o.box.cells.2.1;have f1:=H.o.box.fz 1;refine qd (rs:=[11]) ao aE (fC.cons (b:=y6) rfl ao ?_ (fC.nil))
        ·intro o K;go_simp;replace H:=Fa (H.o.set1 ad (Z Bm Ba Bh));replace B9:=Fa (B9.o.off (O (T m)) 1 (Z Bm Ba Bh) ai);clear f;refine K.o _ _ (mC.late B9.o) (fun f=>?_);clear K o c1 f1;(try simp only[gE,aP]);refine qa (i:=12) (oi:=_) (v:=zR (M ⟨O (T m),2,N⟩)) (b:=y6) rfl ao ao ao a6 (fun _ _ _ h=>h) (Or.inl ⟨by rfl,?_⟩) ao b5 ?_
         ·intro u' aJ;go_simp
         have c2:=H.o.box.cells.2.2;have f2:=H.o.box.fz 2;refine qd (rs:=[13]) ao aE (fC.cons (b:=y6) rfl ao ?_ (fC.nil))
         ·intro o K;go_simp;replace H:=Fa (H.o.set2 ad (Z P (C (TL i)+1) S));replace B9:=Fa (B9.o.off (O (T m)) 2 (Z P (C (TL i)+1) S) ai);clear f;refine K.o _ _ (mC.late B9.o) (fun f=>?_);clear K o c2 f2;(try simp only[gE,aP]);refine Rf ao ?_ _;clear f B9;generalize (((dF.setCell ⟨O (T m),1,N⟩ (Z Bm Ba Bh))).setCell ⟨O (T m),2,N⟩ (Z P (C (TL i)+1) S))=wB at *;go_wp2;go_roundw
          case rel=>exact⟨i+1,_,_,_,al,bd,by rw[ir.o.1,ir.o.2];exact H⟩
          case measure=>simp[intOf];omega
  ·obtain rfl:i=C L:=al
   obtain⟨d,cd,rfl,bp⟩:=H.o.fo.ints;obtain⟨P,S,rfl,Fw⟩:=H.o.own.row;obtain⟨x0,s,t⟩:=H.o.box.cells;obtain⟨r0,r1,r2⟩:=tK.o.cells;have RN:=tK.o.fz 0;have RM:=tK.o.fz 1;have RL:=tK.o.fz 2;have e1:C (iL (F (C L)))=C (F (C L)):=bR _;rw[e1] at H s;rw[bo] at H t;have Es:=Fa (tK.o.put (Z (M ⟨G,0,N⟩) (C V) (C V)) (Z d (C (F (C L))) cd) (Z P (C (F (C L))) S));have vT:=Fa (eT HB.o (show O (T w)<=O (T w)+1 by omega) (Z (M ⟨G,0,N⟩) (C V) (C V)) (Z d (C (F (C L))) cd) (Z P (C (F (C L))) S))
   have iR:Value.ownBlock (Z P (C (F (C L))) S)≠M (O (T w)+1):=fun e=>by
    have:=(H.o.own.lt _ e).1;omega
   have F4:=((H.o.own.off (g:=O (T w)+1) (j:=0) (Z (M ⟨G,0,N⟩) (C V) (C V)) (H.o.far _ al) iR).off (g:=O (T w)+1) (j:=1) (Z d (C (F (C L))) cd) (H.o.far _ al) iR).off (g:=O (T w)+1) (j:=2) (Z P (C (F (C L))) S) (H.o.far _ al) iR;obtain⟨bP,bX,e2,Fv⟩:=F4.row;rw[bo] at e2;injection e2 with e3 e4 e5;subst e3 e5;clear e4;have tF:=Fa Fv
   have sK:∀g ab,d=M ⟨g,ab,N⟩ ->iL (F (C L))≠[] ->g≠w.heap.size+1:=fun g ab e _ e2=>by
    subst e;have:=(uf H.o.fo g rfl).1;omega
   have Ct:=Fa (((bp.off (g:=O (T w)+1) (j:=0) (y:=Z (M ⟨G,0,N⟩) (C V) (C V)) sK).off (g:=O (T w)+1) (j:=1) (y:=Z d (C (F (C L))) cd) sK).off (g:=O (T w)+1) (j:=2) (y:=Z P (C (F (C L))) S) sK)
   have EA:∀g ab,(M ⟨G,0,N⟩:Kd)=M ⟨g,ab,N⟩ ->iL (ag V)≠[] ->g≠w.heap.size+1:=fun g ab e _ e2=>by
    cases e;omega
   have bt:=Fa ((((bu.o wr H.o.fr).off (g:=O (T w)+1) (j:=0) (y:=Z (M ⟨G,0,N⟩) (C V) (C V)) EA).off (g:=O (T w)+1) (j:=1) (y:=Z d (C (F (C L))) cd) EA).off (g:=O (T w)+1) (j:=2) (y:=Z P (C (F (C L))) S) EA);have dR:=Fa ((Xn H.o.own.own).up (show O (T w)<=O (T W4) by omega));clear F4 Fv Fw bp EA sK iR H HB EF Ml tK bg pR az uM Ce P7;go_wp2;refine dI (Es.o.result1 rfl _ rfl) rfl ?_;exact⟨G,d,cd,P,S,rfl,bt.o,Ct.o,tF.o,vT.o,dR.o⟩
theorem amA (a b c q:Kd) (ca cb cc i:Nat) (V:List Vr) (L:List Kx) (R:List (List Fr)) (Fd:Kx) (w:E) (h:jo w a b c V L R) (m:pP w b L) (hs:tD V L R) (o:∀l∈R,fw l<=4200) (h0:aS V L R=0) (p:bq L=0) (h1:1<=C L) (j:∀l∈L,C l<=140737488355328) (n:aB w q Fd) (k:C Fd<=1000) (y:∀U:E,jo U a b c V L R ->c6 81 #[zd #[Z a (C V) ca,Z b (C L) cb,Z c (C R) cc]] U fun e w'=>e=yW (J I (aS V L R))/\da U w'):
  c6 150 #[zd #[Z a (C V) ca,Z b (C L) cb,Z c (C R) cc],Z q (C Fd) i] w fun e w'=>∃g d f t B9,e=yW (zd #[Z (M ⟨g,0,N⟩) (C V) (C V),Z d (C ((jK L).filter fun v:Nat=>Fd.contains (v:Int))) f,Z t (C ((jK L).filter fun v:Nat=>Fd.contains (v:Int))) B9])/\aB w' (M ⟨g,0,N⟩) (iL (ag V))/\aB w' d (iL ((jK L).filter fun v:Nat=>Fd.contains (v:Int)))/\jn w' t (((jK L).filter fun v:Nat=>Fd.contains (v:Int)).map fun v=>(gU L v,gL V L R v))/\da w w':=
 (amz a b c q ca cb cc i V L R Fd w h m hs o h0 p h1 j n k y).ae fun _ _ ⟨g,d,f,t,B9,e,r,s,u,x,_⟩=>⟨g,d,f,t,B9,e,r,s,u,x⟩
theorem akY {B:Nat} (d:Kd) (n c:Nat) (l:Kx) (w:E) (h:bW w B (Z d n c) l) (r:B<=O (T w)) (Bm:C l<=100000):
  c6 133 #[Z d n c] w fun e w'=>e=yW (zp #[])/\n=C l/\aB w' d (l.mergeSort fun x y=>decide (x<=y))/\Below B w w':=by
 rcases h.cases with ⟨e,rfl⟩ |⟨g,cap,e,v,a,F,H,f⟩
 ·cases e;refine(Tryz.slices_Sort_int_none N 0 w).ae ?_;rintro e u ⟨rfl,rfl⟩;exact⟨rfl,rfl,fun k t=>absurd t aE,au _ _⟩
 ·cases e;refine(Tryz.slices_Sort_int g 0 c l w f a al).ae ?_;have D:C (l.mergeSort fun x y=>decide (x<=y))=C l:=MQ _;generalize (l.mergeSort fun x y=>decide (x<=y))=s at *;rintro e u ⟨rfl,q,o,rfl⟩;have z:s.toArray.size=l.toArray.size:=by simp;exact D
  have A:Holds (Value.int I) (grow (putRow (Value.int I) (Sort.ahead w q) g 0 s.toArray) o) g 0 s.toArray:=fun j b=>by
   obtain⟨m,p⟩:=holds_putRow (Value.int I) (Sort.ahead w q) g 0 _ s.toArray f z j b;(have i:g<O (T (putRow (Value.int I) (Sort.ahead w q) g 0 s.toArray)):=by rw[size_putRow];exact a);refine⟨(cell?_grow _ _ _ i).trans m,?_⟩;rw[frozen?_grow _ _ _ i];exact p
  have Bj:g<O (T (grow (putRow (Value.int I) (Sort.ahead w q) g 0 s.toArray) o)):=aT a (MB (w:=w) (g:=g) (n:=q) (os:=o) s.toArray).size;exact⟨rfl,rfl,Dt A Bj (fun j b=>⟨by simpa using b,aE⟩),Ur s.toArray (au _ _) r v⟩
theorem akU (d:∀x∈l,0<=x/\x<n) (e:l.Nodup):Up (l.mergeSort fun x y=>decide (x<=y)) n:=by
 have hs:(l.mergeSort fun x y=>decide (x<=y)).Pairwise (fun x y=>decide (x<=y)=y6):=VR (fun a b c=>by simp;omega) (fun a b=>by simp;omega) _;have p:=QV l fun x y=>decide (x<=y);have f:(l.mergeSort fun x y=>decide (x<=y)).Nodup:=p.nodup_iff.2 e;refine eH.2 ⟨fun x g=>d x (p.mem_iff.1 g),(hs.and f).imp fun {a b} h=>?_⟩;have i:=mJ h.1;have j:=h.2;omega
def xo (q:Kx) (l:List (Nat×Nat)):Kx:=q++(zF l).map (·.1)
def Ar (q:Kx) (l:List (Nat×Nat)):Kx:=(xo q l).mergeSort fun x y=>decide (x<=y)
theorem aim {q:Kx} {l:List (Nat×Nat)} (v:Nat):v∈af (Ar q l)↔v∈af q∨v∈l.map (·.1):=by
 have c:=QV (xo q l) fun x y=>decide (x<=y)
 have m:v∈af (Ar q l)↔∃x∈xo q l,x.toNat=v:=by
  rw[Ar,af,aN];exact⟨fun ⟨x,h,e⟩=>⟨x,c.mem_iff.1 h,e⟩,fun ⟨x,h,e⟩=>⟨x,c.mem_iff.2 h,e⟩⟩
 rw[m];constructor
 ·rintro⟨x,a,rfl⟩;rcases bE.1 a with a |a
  ·exact yd (aN.2 ⟨x,a,rfl⟩)
  ·obtain⟨p,d,rfl⟩:=aN.1 a;obtain⟨r,b,rfl⟩:=aN.1 d;exact yk (aN.2 ⟨r,b,aE⟩)
 ·rintro(h |h)
  ·obtain⟨x,a,e⟩:=aN.1 h;exact⟨x,bE.2 (yd a),e⟩
  ·obtain⟨r,b,rfl⟩:=aN.1 h;exact⟨(r.1:Int),bE.2 (yk (aN.2 ⟨_,aN.2 ⟨r,b,rfl⟩,rfl⟩)),aE⟩
theorem atH {q:Kx} {l:List (Nat×Nat)} (i:Up q n) (g:fL S n l) (j:∀v∈af q,¬v∈l.map (·.1)):Up (Ar q l) n:=by
 refine akU (fun x c=>?_) ?_
 ·rcases bE.1 c with c |c
  ·exact Hw i x c
  ·obtain⟨p,f,rfl⟩:=aN.1 c;obtain⟨r,d,rfl⟩:=aN.1 f;have:=g.lt r d;show 0<=(r.1:Int)/\(r.1:Int)<n;omega
 ·refine nT.2 ⟨?_,?_,fun x c y k e=>?_⟩
  ·exact(eH.1 i).2.imp fun h=>al
  ·rw[zF,zr];refine(CN.2 ?_);exact(CN.1 g.nd).imp fun {a b} h e=>h (by have m:(a.1:Int)=(b.1:Int):=e;omega)
  ·subst e;obtain⟨p,f,rfl⟩:=aN.1 k;obtain⟨r,d,rfl⟩:=aN.1 f;exact j r.1 (aN.2 ⟨_,c,aE⟩) (aN.2 ⟨r,d,rfl⟩)
theorem fL.len {l:List (Nat×Nat)} (h:fL S n l):C l<=n:=by
 have a:=(NB h.nd (n:=n) fun v c=>by
  obtain⟨p,b,rfl⟩:=aN.1 c;exact h.lt p b).length_eq
 have d:C ((List.range n).filter fun v=>(l.map (·.1)).contains v)<=n:=aM (oT ..) aE;rw[cY] at a;omega
theorem at4 (b d:Kd) (cb c:Nat) (L:List Kx) (A:Kx) (w:E) (h:dP w b L) (o:∀l∈L,C l<=140737488355328) (j:aB w d A) (m:bq L=0) (u:Up A (C L)) (Bj:C A<=1000):
  c6 78 #[Z b (C L) cb,Z d (C A) c] w fun e w'=>∃d c,e=yW (zp #[Z d (C (fW (dK (aH L) (af A) (C L)))) c,J I 0])/\aB w' d (fW (dK (aH L) (af A) (C L)))/\da w w':=
 (aac b d cb c L A w h o j al).ae fun e w' n=>by
  rcases n with ⟨⟨f,_⟩ |⟨_,a,_⟩ |⟨_,_,d,c,g,i⟩,k⟩
  ·exact absurd m f
  ·rw[ab7 u] at a;cases a
  ·exact⟨d,c,g,i,k⟩
theorem ahe (S:Ja) (p:Nat×Nat):∀(l:List (Nat×Nat)) (P:List Tb),sj S (l++[p]) P=(sj S l P).map (eZ S p.1 p.2)
 |[],_=>rfl
 |x::l,P=>by rw[gF,sj,sj,ahe S p l]
theorem afp (p:Nat×Nat):∀(l:List (Nat×Nat)) (f:Ja),l5 f (l++[p])=(l5 f l).filter fun u=>!(u==p.1)
 |[],_=>rfl
 |x::l,f=>by rw[gF,l5,l5,afp p l]
theorem apk (f:Ja) (v:Nat):cH (iL f) (v:Int)=iL (f.filter fun u=>!(u==v)):=by
 rw[cH,iL,List.filter_map];congr 1
 refine VZ fun x _=>?_;show (!((x:Int)==(v:Int)))=!(x==v);congr 1
 rw[wm,xL,xL];omega
def qu (ws:Ja) (l:List (Nat×Nat)) (i:Nat):Kx:=iL (l5 ws (l.take i))
def pG (V:List Vr) (L:List Kx) (R:List (List Fr)) (ws:Ja) (l:List (Nat×Nat)) (i:Nat):List Tb:=sj (ag V) (l.take i) (gT V L R ws)
theorem arb {l:List (Nat×Nat)} (h:i<C l):qu ws l (i+1)=cH (qu ws l i) (l[i].1:Int):=by
 rw[qu,qu,gR h,afp,apk]
theorem aq9 {l:List (Nat×Nat)} (h:i<C l):pG V L R ws l (i+1)=(pG V L R ws l i).map (eZ (ag V) l[i].1 l[i].2):=by
 rw[pG,pG,gR h,ahe]
theorem agZ (h0:aS V L R=0) (t:∀v∈ws,v<C V) (c:p6 L (·∈ws)) {l:List (Nat×Nat)} (h:fL (ag V) (C V) l) (i:Nat):i6 (ag V) (C V) (pG V L R ws l i) (dW R ws) 1:=
 i6.fixes (xY h0) (aq2 h0 t c) fun p a=>h.val p (QW a)
theorem ara (V:List Vr) (L:List Kx) (R:List (List Fr)) (ws:Ja) (l:List (Nat×Nat)) (i:Nat):C (pG V L R ws l i)=C ws:=by rw[pG,aah,gT,cY]
theorem arc (ws:Ja) (l:List (Nat×Nat)) (i:Nat):C (qu ws l i)<=C ws:=by rw[qu,bR];exact(afo _ _).length_le
theorem XL (h:ws.Nodup) (l:∀v∈ws,v<n):C ws<=n:=by
 have a:=(NB h l).length_eq;have b:C ((List.range n).filter fun v=>ws.contains v)<=n:=aM (oT ..) aE;omega
theorem arx (h0:aS V L R=0) (m:pX V R) (n:ws.Nodup) (g:∀v∈ws,v<C V) (p:p6 L (·∈ws)) {l:List (Nat×Nat)} (a:fL (ag V) (C V) l) (h:i<C l) (s b t:Kd) (c cb j:Nat) (w:E) (hs:aB w s (iL (ag V))) (o:aB w b (qu ws l i)) (P:jn w t (pG V L R ws l i)):
  c6 151 #[zd #[Z s (C V) c,Z b (C (qu ws l i)) cb,Z t (C (pG V L R ws l i)) j],zd #[J I (l[i].1:Nat),J I (l[i].2:Nat)]] w fun e w'=>∃d k f B9,e=yW (zd #[Z s (C V) c,Z d (C (qu ws l (i+1))) k,Z f (C (pG V L R ws l (i+1))) B9])/\aB w' d (qu ws l (i+1))/\jn w' f (pG V L R ws l (i+1))/\i7 (O (T w)) f B9/\da w w':=by
 have D:=gY h0;have Y:C (ag V)=C V:=lq V;have A:=XL n g;have z:=D.n8;have x:=arc ws l i;have y:=ara V L R ws l i;have u:=agZ h0 g p a i;have q:=m.pool h0 n g (vs:=[]) Hl (fun v r=>by cases r);have:=amN s b t c cb j (ag V) (qu ws l i) (pG V L R ws l i) (dW R ws) 1 l[i].1 l[i].2 w D.fine hs o P (by rw[Y];exact u) al al q (by rw[Y];exact a.lt _ (bU h)) (a.val _ (bU h));rw[Y] at this;rw[arb h,aq9 h,cY];exact this
theorem anA (h0:aS V L R=0) (r:pX V R) (n:ws.Nodup) (h:∀v∈ws,v<C V) (c:p6 L (·∈ws)) {l:List (Nat×Nat)} (a:fL (ag V) (C V) l) (F:∀p∈l,p.1∈ws) {Q:Kx} (k:Up Q (C V)) (o:∀v∈af Q,v∈ws/\¬v∈l.map (·.1)) (s b t q:Kd) (f cb g d:Nat) (w:E) (hs:aB w s (iL (ag V))) (i:aB w b (qu ws l (C l))) (P:jn w t (pG V L R ws l (C l))) (u:aB w q Q):
  c6 152 #[zd #[Z s (C V) f,Z b (C (qu ws l (C l))) cb,Z t (C (pG V L R ws l (C l))) g],Z q (C Q) d,zZ xd] w fun e w'=>∃x y,e=yW (zd #[x,y])/\bJ w' x y (bL V L R Q l)/\da w w':=by
 have D:=gY h0;have j:=xY h0;have Y:C (ag V)=C V:=lq V;have Bb:=XL n h;have Bh:=D.n8;have B9:=X8 (l:=l) n;have Bj:∀v∈l5 ws l,v<C V:=fun v z=>h v (SI.1 z).1;have A:qu ws l (C l)=iL (l5 ws l):=by rw[qu,iD]
 have Bm:pG V L R ws l (C l)=sj (ag V) l (gT V L R ws):=by rw[pG,iD]
 have m:=agZ h0 h c a (C l);rw[Bm] at m P⊢;rw[A] at i⊢;have H:=XL B9 Bj;have K:C (sj (ag V) l (gT V L R ws))=C ws:=by rw[aah,gT,cY]
 have:=amL s b t q f cb g d (ag V) (l5 ws l) Q (sj (ag V) l (gT V L R ws)) _ (dW R ws) 1 w D.fine hs i P u (by have:=k.length;omega) B9 (by rw[Y];exact Bj) (by rw[Y];exact(PI.net h0 h c).fixes j a.nd a.val) (by rw[Y];exact m) al (r.pool h0 n h B9 Bj);rw[Y,aj3 h0 j n h c a F k o] at this;rw[bR];exact this
theorem apH (a b c q f:Kd) (ca cb cc cq cf:Nat) (V:List Vr) (L:List Kx) (R:List (List Fr)) (Q:Kx) (l:List (Nat×Nat)) (w:E) (h:jo w a b c V L R) (hN:pP w b L) (hs:tD V L R) (hw:∀l∈R,fw l<=4200) (h0:aS V L R=0) (hD:pX V R) (hq:aB w q Q) (K3:Up Q (C V)) (hF:kn w f (zF l)) (hl:fL (ag V) (C V) l) (hd:∀v∈af Q,¬v∈l.map (·.1)) (yD:∀U:E,jo U a b c V L R ->c6 81 #[zd #[Z a (C V) ca,Z b (C L) cb,Z c (C R) cc]] U fun e w'=>e=yW (J I (aS V L R))/\da U w'):
  c6 95 #[zd #[Z a (C V) ca,Z b (C L) cb,Z c (C R) cc],Z q (C Q) cq,Z f (C l) cf] w fun e w'=>∃x y,e=yW (zd #[x,y])/\bJ w' x y (bL V L R Q l)/\da w w':=by
 have Bm:=gY h0;have h8:=Bm.n8;have Ba:=ND h0;have ak:=yG Ba
 have B9:1<=C L:=by
  have:=Bm.fine.one;rw[bR,lq] at this;rw[Bm.len];exact this
 have DM:C L<=8:=by rw[Bm.len];exact h8
 have dO:∀x∈L,C x<=140737488355328:=fun x hx=>by
  obtain⟨i,m,rfl⟩:=iE hx;have:=(Bm.up i m).length;omega
 have fj:=K3.length;have mh:=hl.len;have Zr:=atH K3 hl hd;have TI:C (Ar Q l)=C (xo Q l):=MQ _;have TH:C (xo Q l)=C Q+C l:=by rw[xo,cE,cY,AY]
 have hA:∀v∈af (Ar Q l),v<C L:=fun v S=>by rw[Bm.len];exact Zr.aa v S
 obtain⟨ws,X⟩:∃ws,AZ L (af (Ar Q l))=ws:=⟨_,rfl⟩;have N5:ws.Nodup:=by rw[<- X];exact ajj ak B9 DM _
 have ao:∀v∈ws,v<C V:=fun v S=>by rw[<- Bm.len];rw[<- X] at S;exact ajk ak B9 DM S
 have an:p6 L (·∈ws):=by rw[<- X];exact ajl Ba B9 DM hA
 have bm:∀p∈l,p.1∈ws:=fun p hp=>by
  rw[<- X];exact abD Ba B9 DM hA ((aim _).2 (yk (aN.2 ⟨p,hp,rfl⟩)))
 have fG:∀v∈af Q,v∈ws/\¬v∈l.map (·.1):=fun v S=>⟨by
  rw[<- X];exact abD Ba B9 DM hA ((aim _).2 (yd S)),hd v S⟩
 have mH:=Fa (fun (U:E) (u:da w U)=>Kl q cq Q U (hq.aa u) al);have az:wT (∀(d:Kd) (n j B:Nat) (U:E),bW U B (Z d n j) (xo Q l) ->B<=O (T U) ->c6 133 #[Z d n j] U fun e w'=>e=yW (zp #[])/\n=C (xo Q l)/\aB w' d (Ar Q l)/\Below B U w'):=fun d n j B U Bh h2=>akY d n j (xo Q l) U Bh h2 al;obtain⟨K,SQ⟩:∃K,fW (dK (aH L) (af (Ar Q l)) (C L))=K:=⟨_,rfl⟩;have fQ:C K<=8:=by rw[<- SQ,fW,bR,bZ];exact aM (oT ..) aE
 have vW:wT (∀(d:Kd) (j:Nat) (U:E),da w U ->aB U d (Ar Q l) ->c6 78 #[Z b (C L) cb,Z d (C (xo Q l)) j] U fun e w'=>∃d j,e=yW (zp #[Z d (C K) j,J I 0])/\aB w' d K/\da U w'):=fun d j U u m=>by
  have:=at4 b d cb j L (Ar Q l) U (h.aa u).pars dO m Ba (by rw[Bm.len];exact Zr) al;rwa [SQ,TI] at this
 have yQ:wT (∀(d:Kd) (j:Nat) (U:E),da w U ->aB U d K ->c6 150 #[zd #[Z a (C V) ca,Z b (C L) cb,Z c (C R) cc],Z d (C K) j] U fun e w'=>∃g d j Bb gO,e=yW (zd #[Z (M ⟨g,0,N⟩) (C V) (C V),Z d (C (qu ws l 0)) j,Z Bb (C (pG V L R ws l 0)) gO])/\aB w' (M ⟨g,0,N⟩) (iL (ag V))/\aB w' d (qu ws l 0)/\jn w' Bb (pG V L R ws l 0)/\da U w'):=fun d j U u m=>by
  have:=amA a b c d ca cb cc j V L R K U (h.aa u) (hN.aa h.pars u) hs hw h0 Ba B9 dO m al yD;have e:(jK L).filter (fun v:Nat=>K.contains (v:Int))=ws:=by rw[<- X,AZ,SQ]
  rw[e] at this;have e1:qu ws l 0=iL ws:=rfl;have e2:pG V L R ws l 0=ws.map fun v=>(gU L v,gL V L R v):=rfl;rw[e1,e2,bR,cY];exact this
 have tP:=Fa (fun (i:Nat) (m:i<C l) (s b ai:Kd) (cs cb ct:Nat) (U:E)=>arx (L:=L) h0 hD N5 ao an hl m s b ai cs cb ct U);have UU:=Fa (fun (s b ai:Kd) (cs cb ct:Nat) (U:E) (u:da w U) Bh h2 h3=>anA h0 hD N5 ao an hl bm K3 fG s b ai q cs cb ct cq U Bh h2 h3 (hq.aa u))
 have HF:wT (∀i (m:i<C l) (U:E),da w U ->∃g o,f=M ⟨g,o,N⟩/\g<O (T U)/\U.cell? ⟨g,o+i*2,N⟩=M (J I (l[i].1:Nat))/\U.cell? ⟨g,o+i*2+1,N⟩=M (J I (l[i].2:Nat))):=fun i m U u=>by
  have hz:i<C (zF l):=by rw[AY];exact m
  obtain⟨g,o,e,hg,h0,Bh⟩:=(hF.aa u) i hz;have e1:(zF l)[i]=((l[i].1:Int),(l[i].2:Int)):=by simp[zF]
  rw[e1] at h0 Bh;exact⟨g,o,e,hg,h0,Bh⟩
 obtain⟨A,Lr⟩:∃A:Nat ->Kx,∀k,Q++(l.take k).map (fun p=>(p.1:Int))=A k:=⟨fun k=>Q++(l.take k).map (fun p=>(p.1:Int)),fun _=>rfl⟩;have Vw:wT (A 0=Q):=by show _=_;rw[<- Lr];simp
 have ax:wT (∀k (hk:k<C l),A (k+1)=A k++[((l[k].1:Nat):Int)]):=fun k hk=>by rw[<- Lr, <- Lr,gR hk,gV,p9];rfl
 have aj:wT (A (C l)=xo Q l):=by show _=_;rw[<- Lr,iD,xo,zF,zr];rfl
 have aq:wT (∀k,C (A k)<=16):=fun k=>by
  rw[<- Lr,cE,cY,fh];omega
 have kL:=Fa (cj.at (w:=w) rfl (Z a (C V) ca) (Z b (C L) cb) (Z c (C R) cc));clear Lr h hN hs hw h0 hD hq K3 hF hl hd yD Bm Ba ak dO Zr TI TH hA X N5 ao an bm fG SQ B9;generalize qu ws l=F at *;generalize pG V L R ws l=P at *;generalize bL V L R Q l=TT at *
 have HA:wT (da w ((w.alloc (NC (Z a (C V) ca) (Z b (C L) cb) (Z c (C R) cc))).alloc (TC (Z N 0 0) (Z N 0 0)))):=by
  have Bh:=(au (O (T w)) w).alloc (ah _) (NC (Z a (C V) ca) (Z b (C L) cb) (Z c (C R) cc));exact Bh.alloc Bh.size _
 have AH:wT (cj ((w.alloc (NC (Z a (C V) ca) (Z b (C L) cb) (Z c (C R) cc))).alloc (TC (Z N 0 0) (Z N 0 0))) (O (T w)) (Z a (C V) ca) (Z b (C L) cb) (Z c (C R) cc)):=kL.o.aa ((au _ _).alloc (ah _) (TC (Z N 0 0) (Z N 0 0))) kL.o.lt;have nM:wT (aZ ((w.alloc (NC (Z a (C V) ca) (Z b (C L) cb) (Z c (C R) cc))).alloc (TC (Z N 0 0) (Z N 0 0))) (O (T w)+1) (Z N 0 0) (Z N 0 0)):=aZ.at (w:=w.alloc (NC (Z a (C V) ca) (Z b (C L) cb) (Z c (C R) cc))) aE _ _;clear kL;go_enter func95,ntmps95;go_wp2_with fail
 generalize ((w.alloc (NC (Z a (C V) ca) (Z b (C L) cb) (Z c (C R) cc))).alloc (TC (Z N 0 0) (Z N 0 0)))=W0 at *;refine(mH.o W0 HA.o).ae ?_;rintro e w1 ⟨av,rfl,bh,a6⟩;have b0:=nM.o.lt;have aJ:=Fa bh;have cM:=Fa a6;clear bh a6 mH;go_wp2_with fail
 go_loopw [7,19] (fun av iv wr=>∃i:Nat,i<=C l/\iv=J I i/\wT (bW wr (O (T W0)) av (A i))/\wT (da W0 wr)) (fun _ iv _=>C l - (intOf iv).toNat)
 case atStart=>exact⟨0,aV _,rfl,by rw[Vw.o];exact aJ,cM⟩
 case round=>
  obtain⟨i,m,rfl,Eo,Y⟩:=hrel;clear aJ cM;have H:=Fa (HA.o.trans (Y.o.ae HA.o.size));obtain⟨d,j,rfl⟩:=xW Eo.o;by_cases bf:i<C l
  ·obtain⟨g,o,rfl,hg,k0,k1⟩:=HF.o i bf wr H.o;have bB:=Fa (ax.o i bf);generalize l[i].1=v at *;generalize l[i].2=z at *;have t:=(au (O (T wr)) wr).alloc (ah _) (yM #[J I (v:Nat),J I (z:Nat)] 30);(have Ub:(wr.alloc (yM #[J I (v:Nat),J I (z:Nat)] 30)).cell? ⟨O (T wr),0,N⟩=M (J I (v:Nat)):=by rw[ba _ _ 0 _ _ (0,0) (dU wr _)];rfl);(have bk:O (T (wr.alloc (yM #[J I (v:Nat),J I (z:Nat)] 30)))=O (T wr)+1:=aE);have bc:=(au _ (wr.alloc (yM #[J I (v:Nat),J I (z:Nat)] 30))).alloc (ah _) (yM #[J I (v:Nat)] 3)
   have bp:wT (((wr.alloc (yM #[J I (v:Nat),J I (z:Nat)] 30)).alloc (yM #[J I (v:Nat)] 3)).cell? ⟨O (T wr)+1,0,N⟩=M (J I (v:Nat))):=by
    have:=(bF (wr.alloc (yM #[J I (v:Nat),J I (z:Nat)] 30)) 3 (J I (v:Nat))).cell;rwa [bk] at this
   have iW:=t.trans (bc.ae t.size);have aI:=Fa (KB Eo.o (Ee.aa iW));have yY:=Fa (Y.o.trans (iW.ae Y.o.size));have bP:=aq.o i;have Gx:wT (O (T W0)<=O (T ((wr.alloc (yM #[J I (v:Nat),J I (z:Nat)] 30)).alloc (yM #[J I (v:Nat)] 3)))):=yY.o.size;clear t bc iW bk Eo Y H;go_wp2_with (at_builtin;refine ajv rfl _ _ rfl (O (T W0)) (Z d (C (A i)) j) (A i) (v:Int) rfl aI.o (O (T wr)+1) rfl bp.o al Gx.o ?_;intro bC w9 ur fJ pw;have bz:=Fa ur;have vU:=Fa (yY.o.grown fJ Gx.o (fun k e=>(uf aI.o k e).1));obtain⟨n9,d9,c9,rfl⟩:∃n d c,bC=Value.slice d n c:=(xW ur).elim fun d h=>h.elim fun c e=>⟨_,d,c,e⟩;clear ur fJ pw)
   go_roundw
   case rel=>exact⟨i+1,al,bd,by rw[bB.o];exact bz,vU⟩
   case measure=>simp[intOf];omega
  ·obtain rfl:i=C l:=al
   rw[aj.o] at Eo;(have e1:C (A (C l))=C (xo Q l):=by rw[aj.o]);rw[e1];clear e1 aj ax aq Vw;have ir:=Fa (az.o d _ j (O (T W0)) wr Eo.o Y.o.size);clear Eo H az;go_wp2_with fail
   refine ir.o.ae ?_;rintro e w2 ⟨rfl, -,qY,bb⟩;have TG:=Y.o.trans bb;have aY:=Fa (HA.o.trans (TG.ae HA.o.size));have pS:=Fa (AH.o.aa TG AH.o.lt);have gQ:=Fa (nM.o.aa TG nM.o.lt);have rp:=Fa (vW.o d j w2 aY.o qY);have n1:=pS.o.cells.2.1;clear qY bb TG Y ir vW AH nM HA;go_wp2_with fail
   refine rp.o.ae ?_;rintro e w3 ⟨d3,bN,rfl,zU,ab⟩;have eo:=Fa (aY.o.trans (ab.ae aY.o.size));have Mn:=Fa (pS.o.aa ab pS.o.lt);have jF:=Fa (gQ.o.aa ab gQ.o.lt);have tE:=Fa (yQ.o d3 bN w3 eo.o zU);clear n1;obtain⟨n0,n1,n2⟩:=Mn.o.cells;clear zU ab rp yQ pS gQ aY;go_wp2_with fail
   refine tE.o.ae ?_;rintro e r ⟨G,d4,Ap,t4,PA,rfl,aR,BO,zL,ad⟩;have oA:=ad.alloc ad.size (yM #[Z (M ⟨G,0,N⟩) (C V) (C V),Z d4 (C (F 0)) Ap,Z t4 (C (P 0)) PA] 177);have F7:=(au (O (T r)) r).alloc (ah _) (yM #[Z (M ⟨G,0,N⟩) (C V) (C V),Z d4 (C (F 0)) Ap,Z t4 (C (P 0)) PA] 177);have fp:=Fa (eo.o.trans (oA.ae eo.o.size));have xF:=Fa (jF.o.aa oA jF.o.lt);have Mk:wT (cI (r.alloc (yM #[Z (M ⟨G,0,N⟩) (C V) (C V),Z d4 (C (F 0)) Ap,Z t4 (C (P 0)) PA] 177)) (O (T r)) (Z (M ⟨G,0,N⟩) (C V) (C V)) (Z d4 (C (F 0)) Ap) (Z t4 (C (P 0)) PA)):=cI.at (w:=r) rfl _ _ _;have qL:=Fa (aR.aa F7);have Jz:=Fa (BO.aa F7);have Gu:=Fa (zL.aa F7);have bX:O (T w)+1<O (T r):=(jF.o.aa ad jF.o.lt).lt;clear aR BO zL ad oA F7 tE eo Mn jF n0 n1 n2;go_wp2_with fail
   generalize (r.alloc (yM #[Z (M ⟨G,0,N⟩) (C V) (C V),Z d4 (C (F 0)) Ap,Z t4 (C (P 0)) PA] 177))=W5 at *;go_loopw [43] (fun iv wr=>∃(i:Nat) (b' Bb:Kd) (eM gO:Nat),i<=C l/\iv=J I i/\wT (cI wr (O (T r)) (Z (M ⟨G,0,N⟩) (C V) (C V)) (Z b' (C (F i)) eM) (Z Bb (C (P i)) gO))/\wT (aB wr (M ⟨G,0,N⟩) (iL (ag V)))/\wT (aB wr b' (F i))/\wT (jn wr Bb (P i))/\wT (aZ wr (O (T w)+1) (Z N 0 0) (Z N 0 0))/\wT (da w wr)) (fun iv _=>C l - (intOf iv).toNat)
   case atStart=>exact⟨0,_,_,_,_,aV _,rfl,Mk,qL,Jz,Gu,xF,fp⟩
   case round=>
    obtain⟨i,b',Bb,eM,gO,m,rfl,vP,HG,HI,HT,HR,H⟩:=hrel;clear Mk qL Jz Gu xF fp;rename E=>W6
    obtain⟨p0,p1,p2⟩:=vP.o.cells;by_cases bo:i<C l
    ·obtain⟨g,o,rfl,hg,k0,k1⟩:=HF.o i bo W6 H.o;have ay:=Fa (tP.o i bo);generalize l[i].1=v at *;generalize l[i].2=z at *;have t:=(au (O (T W6)) W6).alloc (ah _) (yM #[J I (v:Nat),J I (z:Nat)] 30);(have Ub:(W6.alloc (yM #[J I (v:Nat),J I (z:Nat)] 30)).cell? ⟨O (T W6),0,N⟩=M (J I (v:Nat)):=by rw[ba _ _ 0 _ _ (0,0) (dU W6 _)];rfl);(have bO:(W6.alloc (yM #[J I (v:Nat),J I (z:Nat)] 30)).cell? ⟨O (T W6),1,N⟩=M (J I (z:Nat)):=by rw[ba _ _ 1 _ _ (0,0) (dU W6 _)];rfl);have UR:=Fa (vP.o.aa t vP.o.lt);have Vj:=Fa (HG.o.aa t);have oH:=Fa (HR.o.aa t HR.o.lt);have cM:=Fa (H.o.trans (t.ae H.o.size));have HX:=Fa (ay.o (M ⟨G,0,N⟩) b' Bb (C V) eM gO _ Vj.o (HI.o.aa t) (HT.o.aa t));clear p0 p1 p2 vP HG HI HT HR H ay t;obtain⟨p0,p1,p2⟩:=UR.o.cells;go_wp2_with fail
     refine HX.o.ae ?_;rintro e w7 ⟨d7,D6,t7,LO,rfl,FQ,wL,bg,Bj⟩;have D:=UR.o.aa Bj UR.o.lt;have B7:=oH.o.aa Bj oH.o.lt;have Ak:=cM.o.trans (Bj.ae cM.o.size);have a1:=Vj.o.aa Bj;have Y4:=UR.o.lt;clear p0 p1 p2 Ub bO k0 k1;obtain⟨p0,p1,p2⟩:=D.cells;have R7:=D.fz 0;have R1:=D.fz 1;have RZ:=D.fz 2;have bu:=Fa (D.put (Z (M ⟨G,0,N⟩) (C V) (C V)) (Z d7 (C (F (i+1))) D6) (Z t7 (C (P (i+1))) LO));have br:=Fa (a1.putP D (slv _ _ _) (slv _ _ _) (slv _ _ _) (Z (M ⟨G,0,N⟩) (C V) (C V)) (Z d7 (C (F (i+1))) D6) (Z t7 (C (P (i+1))) LO));have bs:=Fa (FQ.putP D (slv _ _ _) (slv _ _ _) (slv _ _ _) (Z (M ⟨G,0,N⟩) (C V) (C V)) (Z d7 (C (F (i+1))) D6) (Z t7 (C (P (i+1))) LO));have bx:=Fa (wL.putP D (slv _ _ _) (slv _ _ _) (slv _ _ _) (fun g' o' e=>by have:=bg.2 g' o' e;omega) (slv (M ⟨G,0,N⟩) (C V) (C V)) (slv d7 (C (F (i+1))) D6) (Z t7 (C (P (i+1))) LO));have UO:=Fa (((B7.off (O (T r)) 0 (Z (M ⟨G,0,N⟩) (C V) (C V)) al).off (O (T r)) 1 (Z d7 (C (F (i+1))) D6) al).off (O (T r)) 2 (Z t7 (C (P (i+1))) LO) al);have yY:=Fa (eT Ak (show O (T w)<=O (T r) by omega) (Z (M ⟨G,0,N⟩) (C V) (C V)) (Z d7 (C (F (i+1))) D6) (Z t7 (C (P (i+1))) LO));clear FQ wL bg Bj D B7 Ak a1 HX;go_wp2;go_roundw
     case rel=>exact⟨i+1,_,_,_,_,al,bd,bu,br,bs,bx,UO,yY⟩
     case measure=>simp[intOf];omega
    ·obtain rfl:i=C l:=al
     have bt:=Fa (UU.o (M ⟨G,0,N⟩) b' Bb (C V) eM gO W6 H.o HG.o HI.o HT.o);go_wp2_with fail
     refine bt.o.ae ?_;rintro e w7 ⟨x,y,rfl,Fp,Bj⟩;obtain⟨xs,xn,xc,rfl⟩:=Fp.slices.1;obtain⟨ys,yn,yc,rfl⟩:=Fp.slices.2;have B7:=HR.o.aa Bj HR.o.lt;have Ak:=H.o.trans (Bj.ae H.o.size);obtain⟨t0,t1,f0,f1⟩:=B7.facts;have bw:=Fa (B7.put (Z xs xn xc) (Z ys yn yc));have P5:=Fa (Fp.putT B7 (slv _ _ _) (slv _ _ _) (slv xs xn xc) (Z ys yn yc));have vU:=Fa (uF (g:=O (T w)+1) Ak al (Z xs xn xc) (Z ys yn yc));clear Fp Bj B7 Ak p0 p1 p2;go_wp2;refine dI (bw.o.result1 rfl _ rfl) rfl ?_;exact⟨_,_,rfl,P5.o,vU.o⟩
variable {w':E}
structure AA (w:E) (a b c:Kd) (V:List Vr) (L:List Kx) (R:List (List Fr)):Prop where
 net:jo w a b c V L R
 ls:pP w b L
 sm:tD V L R
 wt:∀l∈R,fw l<=4200
 lt:pX V R
 few:aS V L R=0 ->cnt (ag V) (List.range (C V))<=800
theorem AA.aa {b c:Kd} (h:AA w a b c V L R) (d:da w w'):AA w' a b c V L R:=⟨h.net.aa d,h.ls.aa h.net.pars d,h.sm,h.wt,h.lt,h.few⟩
def nF (F:List (Int×Int)):List (Nat×Nat):=F.map fun p=>(p.1.toNat,p.2.toNat)
theorem Dc (l:List (Nat×Nat)):nF (zF l)=l:=by
 rw[nF,zF,zr];refine(mM fun p _=>?_).trans (List.map_id l);show (((p.1:Int).toNat),((p.2:Int).toNat))=p;simp
theorem Ua (h:mo V L R F=0):aS V L R=0/\F=zF (nF F)/\fL (ag V) (C V) (nF F):=by
 obtain⟨a,l,rfl,b⟩:=arS h;rw[Dc];exact⟨a,rfl,b⟩
def prF (V:List Vr) (L:List Kx) (R:List (List Fr)) (F:List (Int×Int)):Fr:=if mo V L R F=0 then qF (bK V L R (nF F)) else(xd,⟨#[]⟩,⟨#[]⟩)
variable {cap:Nat}
theorem c5.put {B:Nat} {l:List Fr} (h:c5 w B (Z (M ⟨g,0,N⟩) n cap) l) (k:Nat) (f:Fr):c5 (((w.setCell ⟨g,k*3,N⟩ (zZ f.1)).setCell ⟨g,k*3+1,N⟩ (zK f.2.1)).setCell ⟨g,k*3+2,N⟩ (zK f.2.2)) B (Z (M ⟨g,0,N⟩) n cap) (l.set k f):=by
 obtain⟨o,a⟩:=h;rcases a with ⟨e,_⟩ |⟨g',p,r,e,j,m,b,c,d,i⟩
 ·cases e
 ·injection e with e1 e2 e3;injection e1 with e1;injection e1 with e1;subst e1 e2 e3;refine⟨by rw[yH,gA];omega,yk ⟨g,cap,((r.setIfInBounds (k*3) (zZ f.1)).setIfInBounds (k*3+1) (zK f.2.1)).setIfInBounds (k*3+2) (zK f.2.2),by rw[gA],j,OQ _ _ _ _ _ _ (OQ _ _ _ _ _ _ (OQ _ _ _ _ _ _ m)),by rw[gA];exact b,c,by simp[d],?_⟩⟩;rw[<- aae, <- i,gA];simp only[Array.toList_setIfInBounds,List.take_set]
theorem Nn {B:Nat} {l:List Fr} (h:c5 w B (Z (M ⟨g,0,N⟩) n cap) l) (j:k<C l):w.cell? ⟨g,k*3,N⟩=M (zZ l[k].1)/\w.cell? ⟨g,k*3+1,N⟩=M (zK l[k].2.1)/\w.cell? ⟨g,k*3+2,N⟩=M (zK l[k].2.2)/\w.frozen? ⟨g,k*3,N⟩=xd/\w.frozen? ⟨g,k*3+1,N⟩=xd/\w.frozen? ⟨g,k*3+2,N⟩=false:=by
 obtain⟨m,f⟩:=h;rcases f with ⟨e,_⟩ |⟨g',s,u,e,r,a,o,p,q,i⟩
 ·cases e
 ·injection e with e1 e2 e3;injection e1 with e1;injection e1 with e1;subst e1 e2 e3;obtain⟨b,c,d⟩:=LA l k j;rw[<- i] at b c d;refine⟨?_,?_,?_,gj w g _ _ _ a,gj w g _ _ _ a,gj w g _ _ _ a⟩
  ·rw[ba w g _ _ _ (0,0) a, <- wu];rw[sQ] at b;split at b
   ·exact b
   ·cases b
  ·rw[ba w g _ _ _ (0,0) a, <- wu];rw[sQ] at c;split at c
   ·exact c
   ·cases c
  ·rw[ba w g _ _ _ (0,0) a, <- wu];rw[sQ] at d;split at d
   ·exact d
   ·cases d
theorem aaN {B:Nat} {a:E} (h:Below B a w) (b:B<=g) (j:Nat) (u v x:wF):Below B a (((w.setCell ⟨g,j,N⟩ u).setCell ⟨g,j+1,N⟩ v).setCell ⟨g,j+2,N⟩ x):=((h.setCell b u).setCell b v).setCell b x
theorem asL {q:Ja} (p:Pos (ag V)) (a:q.Nodup) (t:∀v∈q,v<C V):cnt (ag V) q<=cnt (ag V) (List.range (C V)):=by
 rw[<- Ry, <- Ry]
 have h:jZ (ag V) q=jZ (ag V) ((List.range (C V)).filter fun v=>q.contains v):=by
  have e:=NB a t;generalize ((List.range (C V)).filter fun v=>q.contains v)=b at e;clear a t;induction e with
  |nil=>rfl
  |cons x _ ih=>rw[jZ,jZ,ih]
  |swap x y l=>simp only[jZ];rw[<- jr, <- jr,eQ (sz _ _) (sz _ _)]
  |trans _ _ h h2=>rw[h,h2]
 rw[h];exact akv p JV
def Gj (V:List Vr) (L:List Kx) (R:List (List Fr)) (Q:Kx) (F:List (Int×Int)):Int:=
 if mo V L R F=0 then(if (mq (iL (ag V)) Q).2=0 then(if (F.any fun p=>lB p.1 Q)=y6 then 7 else 0) else(mq (iL (ag V)) Q).2) else mo V L R F
def wE (V:List Vr) (L:List Kx) (R:List (List Fr)) (Q:Kx) (F:List (Int×Int)):Int:=
 if Gj V L R Q F=0 then(if bH (bL V L R Q (nF F)).2=0 then 3 else 0) else Gj V L R Q F
def lU (V:List Vr) (L:List Kx) (R:List (List Fr)) (Q:Kx) (F:List (Int×Int)):Tb:=
 if wE V L R Q F=0 then(Q,lu (bL V L R Q (nF F)).2) else([],[])
theorem atP (Q:Kx) (F:List (Int×Int)):(F.any fun p=>lB p.1 Q)=Q.any fun v=>F.any fun p=>p.1==v:=by
 rw[wm,rF,rF];constructor
 ·rintro⟨p,a,h⟩;obtain⟨x,c,e⟩:=rF.1 h;exact⟨x,c,rF.2 ⟨p,a,by rw[xL] at e⊢;exact e.symm⟩⟩
 ·rintro⟨v,b,h⟩;obtain⟨p,a,e⟩:=rF.1 h;exact⟨p,a,rF.2 ⟨v,b,by rw[xL] at e⊢;exact e.symm⟩⟩
theorem asH {Q:Kx} (h:(mq (iL (ag V)) Q).2=0):Up Q (C V):=by
 cases hb:countB (iL (ag V)) Q with
 |false=>rw[LR hb] at h;exact absurd h a6
 |true=>
  rw[countB,iu] at hb;have:=lr hb.2;rwa [bR,lq] at this
theorem atL {Q:Kx} {l:List (Nat×Nat)} (q:Up Q n) (h:((zF l).any fun p=>lB p.1 Q)=xd):∀v∈af Q,¬v∈l.map (·.1):=fun v c m=>by
 obtain⟨p,b,rfl⟩:=aN.1 m;refine JX.1 h ((p.1:Int),(p.2:Int)) (aN.2 ⟨p,b,rfl⟩) ?_;obtain⟨x,a,e⟩:=aN.1 c;have:=(Hw q x a).1;refine rF.2 ⟨x,a,xL.2 ?_⟩;have d:x.toNat=p.1:=e;show x=(p.1:Int);omega
theorem Lu (g:Nat ->Rat):∀n,bH ((List.range n).map fun K=>qF (g K))=bG g n
 |0=>rfl
 |n+1=>by
  rw[xN,gV,List.map_singleton,TZ,Lu g n];show bG g n+a8 (qF (g n))=_;rw[jC];rfl
theorem au4 (h:n<=4294967296):(B n).size<=5:=by
 have a:=ku h;have b:(B 4294967296).size<=5:=by rw[nP];exact sA 5 4294967296 a6
 omega
theorem Wq (h0:aS V L R=0) (D:pX V R) (Q:Kx) (l:List (Nat×Nat)):∀k (h:k<(bL V L R Q l).2.length),(bL V L R Q l).2[k].2.1.size+(bL V L R Q l).2[k].2.2.size<=40000:=fun k h=>by
 have e:(bL V L R Q l).2[k]=qF (bK V L R (qV (ag V) (af Q) k++l)):=by simp[bL]
 rw[e,Ns,NS];have:=aff h0 (xY h0) D (qV (ag V) (af Q) k++l) (ah _);omega
theorem aj0 (h0:aS V L R=0) (D:pX V R) {Q:Kx} (q:Up Q (C V)) (l:List (Nat×Nat)):∀k,k<=(bL V L R Q l).2.length ->qw (bH ((bL V L R Q l).2.take k))<=8005:=fun k o=>by
 have r:(bL V L R Q l).2.length=cnt (ag V) (af Q):=by simp[bL]
 have e:(bL V L R Q l).2.take k=(List.range k).map fun K=>qF (bK V L R (qV (ag V) (af Q) K++l)):=by
  rw[bL, <- QX,List.take_range,uO al]
 rw[e,Lu];have p:=xY h0;have z:dW R (List.range (C V))≠0:=(PD.net (V:=V) (L:=L) h0 (fun v c=>bS.1 c)).nz.1
 have a:eL (dW R (List.range (C V))) (bG (fun K=>bK V L R (qV (ag V) (af Q) K++l)) k):=eL.sum fun K _=>by
  rw[NS];exact eL.sum fun x h=>(Ux h0 p _ h).1
 have b:jN (k*(cnt (ag V) (List.range (C V))*1)) (bG (fun K=>bK V L R (qV (ag V) (af Q) K++l)) k):=jN.sum fun K _=>by
  rw[NS];exact jN.sum fun x h=>(Ux h0 p _ h).2
 have d:=a.size z b;have f:=aiy h0;have g:=aaC (gY h0).fine q.nodup (by rw[lq];exact q.aa);have i:k*(cnt (ag V) (List.range (C V))*1)<=65536*65536:=kN al al;have j:=au4 (n:=k*(cnt (ag V) (List.range (C V))*1)) al;have m:(B (dW R (List.range (C V)))).size<=4000:=D;omega
theorem Wn (h0:aS V L R=0) (h:pX V R) {Q:Kx} (q:Up Q (C V)) (l:List (Nat×Nat)):∀k,k<=(bL V L R Q l).2.length ->qw (bH ((bL V L R Q l).2.take k))<=40000:=fun k a=>aM (aj0 h0 h q l k a) a6
theorem aj7 (h0:aS V L R=0) {Q:Kx} (h:Up Q (C V)) (l:List (Nat×Nat)):kX (iL (ag V)) Q (bL V L R Q l).2.length=0:=
 aaH (LP (gY h0).fine (by rw[bR,lq];exact h)) (by rw[jP];simp[bL])
theorem Wo (h0:aS V L R=0) {Q:Kx} (h:Up Q (C V)) (l:List (Nat×Nat)) (c:cnt (ag V) (List.range (C V))<=800):(bL V L R Q l).2.length<=800/\1<=(bL V L R Q l).2.length:=by
 have e:(bL V L R Q l).2.length=cnt (ag V) (af Q):=by simp[bL]
 have a:=asL (xY h0) h.nodup h.aa;have b:=LS (xY h0) (af Q);omega
theorem ass (f:Fr):(B (a8 f).den).size<=f.2.2.size+1:=by
 have e:a8 f=mkRat (sg f.1 (B2 f.2.1)) (B2 f.2.2):=rfl;by_cases h:B2 f.2.2=0
 ·rw[e,h,Rat.mkRat_zero];have:(B ((0:Rat).den)).size<=1:=by rw[nP];exact sA 1 1 a6
  omega
 ·have a:eL (B2 f.2.2) (a8 f):=⟨_,e⟩;have b:=Nat.le_of_dvd (lO h) (a.dvd h);have c:=ku b;have d:=jV f.2.2;omega
theorem ahJ (y:Nat):∀l:List Fr,(B (qA l*y)).size<=C l+sw l+(B y).size
 |[]=>by rw[qA,k8];omega
 |f::l=>by
  rw[qA,jr];have h:=rH (a8 f).den (qA l*y);have a:=ass f;have b:=ahJ y l;rw[eA,sw];omega
def wR (R:List (List Fr)):Ja ->Nat
 |[]=>0
 |v::vs=>C (R.getD v [])+sw (R.getD v [])+wR R vs
theorem ahG (R:List (List Fr)):∀us:Ja,(B (dW R us)).size<=wR R us+1
 |[]=>by
  show (B 1).size<=0+1;rw[nP];exact sA 1 1 a6
 |v::vs=>by
  rw[dW,wR];have h:=ahJ (dW R vs) (R.getD v []);have a:=ahG R vs;omega
theorem WC:∀l:List Fr,C l+sw l<=fw l
 |[]=>ah _
 |f::l=>by
  have:=WC l;rw[eA,sw,fw];omega
theorem abZ (h:∀l∈R,fw l<=400):∀us:Ja,wR R us<=400*C us
 |[]=>ah _
 |v::vs=>by
  have b:=abZ h vs
  have c:C (R.getD v [])+sw (R.getD v [])<=400:=by
   by_cases a:v<C R
   ·rw[cF,a7 a];exact aM (WC _) (h _ (bU a))
   ·rw[cF,iT al];exact aM (WC _) a6
  rw[wR,eA];omega
theorem NM.lite (h:NM V L R):pX V R:=by
 have b:=ahG R (List.range (C V));have a:=abZ h.light (List.range (C V));have c:=h.six;rw[AW] at a;show (B (dW R (List.range (C V)))).size<=4000;omega
theorem NM.ni4 (h:NM V L R) {b c:Kd} (n:jo w a b c V L R) (d:pP w b L):AA w a b c V L R:=
 ⟨n,d,h.small,fun l e=>by have:=h.light l e;omega,h.lite,fun _=>by have:=aaD h;omega⟩
theorem Xi (h0:aS V L R=0) {l:List (Nat×Nat)} (b:fL (ag V) (C V) l):mo V L R (zF l)=0/\prF V L R (zF l)=qF (bK V L R l):=by
 have e:mo V L R (zF l)=0:=by
  rw[mo,aw h0];refine BX fun j h=>?_;have c:j<C l:=by rw[AY] at h;exact h
  have m:=bU c;have a:(zF l)[j]=((l[j].1:Int),(l[j].2:Int)):=by simp[zF]
  have n:=b.lt _ m;have o:=b.val _ m;refine ahu h (by rw[a];exact⟨Q9 _,by show ((l[j].1:Nat):Int)<_;omega⟩) (by rw[a];exact⟨Q9 _,by show ((l[j].2:Nat):Int)<((sz (ag V) ((l[j].1:Nat):Int).toNat:Nat):Int);rw[oU];omega⟩) ?_;rw[JX];intro p k;obtain⟨i,g,rfl⟩:=iE k;rw[fh,AY] at g;have y:i<C l:=al
  have d:((zF l).take j)[i]'(by rw[fh,AY];omega)=((l[i].1:Int),(l[i].2:Int)):=by rw[xO];simp[zF]
  rw[a,d];have Bh:=zq.1 b.nd i j (by simpa using y) (by simpa using c) al;simp only[mN] at Bh;intro f;have q:((l[i].1:Nat):Int)=((l[j].1:Nat):Int):=by simpa using f
  exact Bh al
 refine⟨e,?_⟩;rw[prF,aw e,Dc]
theorem aiq (h0:aS V L R=0) {Q:Kx} (q:Up Q (C V)) {l:List (Nat×Nat)} (f:fL (ag V) (C V) l) (d:∀v∈af Q,¬v∈l.map (·.1)):Gj V L R Q (zF l)=0:=by
 have c:(mq (iL (ag V)) Q).2=0:=by
  have e:C (iL (ag V))=C V:=by rw[bR,lq]
  have a:=LP (gY h0).fine (by rw[e];exact q);rw[mq,aw a]
 have b:¬((zF l).any fun p=>lB p.1 Q)=true:=fun h=>by
  obtain⟨p,g,n⟩:=rF.1 h;obtain⟨r,i,rfl⟩:=aN.1 g;have a:=apD.1 n;refine d r.1 ?_ (aN.2 ⟨r,i,rfl⟩);exact aN.2 ⟨_,a,oU r.1⟩
 rw[Gj,aw (Xi h0 f).1,aw c,aC b]
theorem Rt (h0:aS V L R=0) {Q:Kx} (h:Up Q (C V)) (l:List (Nat×Nat)):bH (bL V L R Q l).2=bK V L R l:=by
 rw[bL];show bH ((List.range (cnt (ag V) (af Q))).map fun K=>qF (bK V L R (qV (ag V) (af Q) K++l)))=_;rw[Lu (fun K=>bK V L R (qV (ag V) (af Q) K++l)),afj h0 (h.nodup)]
variable {Bj:Kx}
def tz (L:List Kx) (x y:Int) (z:Kx):Bool×Int:=
 if kA L [[x],[y],z]=0 then((!(xp (ed L z []) x.toNat (af [y]))&&!ug (ed L [] [x]) [x] z [])&&!ug (ed L [] z) z [y] [x],0) else(xd,kA L [[x],[y],z])
theorem aeo {x:Int} (h:ei [x] n=y6):0<=x/\x<n:=Hv (lr h) dJ
theorem ahE {x y:Int} {z:Kx} (h:jE n [[x],[y],z]=y6):(0<=x/\x<n)/\(0<=y/\y<n)/\ei z n=y6/\jE n [[x],z,[]]=y6/\jE n [z,[y],[x]]=true:=by
 obtain⟨i,p⟩:=D9.1 h;have j:=i [x] aE;have q:=i [y] aE;have k:=i z aE;simp only[Q5,Q4,kq,nT,bE,bA] at p;obtain⟨m,⟨r,o,s⟩,g⟩:=p;refine⟨aeo j,aeo q,k,D9.2 ⟨fun l f=>?_,?_⟩,D9.2 ⟨fun l f=>?_,?_⟩⟩
 ·simp only[bY,gK,jq] at f;rcases f with rfl |rfl |rfl
  ·exact j
  ·exact k
  ·rfl
 ·simp only[Q5,Q4,kq,nT,bA];exact⟨m,o,fun a d b c=>g a d b (yk c)⟩
 ·simp only[bY,gK,jq] at f;rcases f with rfl |rfl |rfl
  ·exact k
  ·exact q
  ·exact j
 ·simp only[Q5,Q4,kq,nT,bE,bA];refine⟨o,⟨r,m,fun a d b c e=>g b c a (yd d) e.symm⟩,fun a d b c e=>?_⟩;rcases c with c |c
  ·exact s b c a d e.symm
  ·exact g b c a (yk d) e.symm
theorem pP.three {bx by' bz:Kd} {nx ny nz cx cy cz:Nat} (e:C Ls=3) (x:bx=N ->cx=0) (y:by'=N ->cy=0) (z:bz=N ->cz=0):pP (U.alloc (yM #[Z bx nx cx,Z by' ny cy,Z bz nz cz] 27)) (M ⟨O (T U),0,N⟩) Ls:=fun k d g o b n c f h a=>by
 have w:=dU U (yM #[Z bx nx cx,Z by' ny cy,Z bz nz cz] 27);cases f;rw[ba _ (O (T U)) _ _ _ (0,0) w] at h;rw[e] at d;match k,d with
 |0,_=>cases h;exact x a
 |1,_=>cases h;exact y a
 |2,_=>cases h;exact z a
theorem ahS {F:Kx} (h:∀l∈L,C l<=1000):∀l∈ed L Bj F,C l<=140737488355328:=fun l a=>by
 have:=asD h l a;omega
theorem aid {R:Nat} {F:Kx} (bx by' bz:Kd) (cx cy cz:Nat) (x y z:Kx) (w:E) (h:dP w (M ⟨R,0,N⟩) (ed L Bj F)) (a:∀l∈L,C l<=1000) (b:aB w bx x) (c:aB w by' y) (d:aB w bz z) (v:C x<=1000) (e:C y<=1000) (f:C z<=1000) (g:bq L=0) (p:jE (C L) [x,y,z]=y6):
  c6 75 #[Z (M ⟨R,0,N⟩) (C L) cap,Z bx (C x) cx,Z by' (C y) cy,Z bz (C z) cz] w (dj w (zZ (!ug (ed L Bj F) x y z))):=by
 have:=atp (M ⟨R,0,N⟩) bx by' bz cap cx cy cz (ed L Bj F) x y z w h (ahS a) b c d al al al (LM g Bj F) (by rw[vF];exact p)
 rwa [vF] at this
theorem ahD (a bz:Kd) (ca cz:Nat) (L:List Kx) (x y:Int) (z:Kx) (w:E) (h:dP w a L) (g:∀l∈L,C l<=1000) (i:aB w bz z) (m:bz=N ->cz=0) (q:C z<=1000):
  c6 73 #[Z a (C L) ca,Z (M ⟨O (T w)+1+1,0,N⟩) 3 3] (((w.alloc (yM #[J I x] 3)).alloc (yM #[J I y] 3)).alloc (yM #[Z (M ⟨O (T w),0,N⟩) 1 1,Z (M ⟨O (T w)+1,0,N⟩) 1 1,Z bz (C z) cz] 27)) (fun e w'=>e=yW (J I (kA L [[x],[y],z]))/\Below (O (T (((w.alloc (yM #[J I x] 3)).alloc (yM #[J I y] 3)).alloc (yM #[Z (M ⟨O (T w),0,N⟩) 1 1,Z (M ⟨O (T w)+1,0,N⟩) 1 1,Z bz (C z) cz] 27)))) (((w.alloc (yM #[J I x] 3)).alloc (yM #[J I y] 3)).alloc (yM #[Z (M ⟨O (T w),0,N⟩) 1 1,Z (M ⟨O (T w)+1,0,N⟩) 1 1,Z bz (C z) cz] 27)) w')/\da w (((w.alloc (yM #[J I x] 3)).alloc (yM #[J I y] 3)).alloc (yM #[Z (M ⟨O (T w),0,N⟩) 1 1,Z (M ⟨O (T w)+1,0,N⟩) 1 1,Z bz (C z) cz] 27)):=by
 have n:=(au (O (T w)) w).alloc (ah _) (yM #[J I x] 3);have s:O (T (w.alloc (yM #[J I x] 3)))=O (T w)+1:=aE
 have f:=n.alloc n.size (yM #[J I y] 3);have j:O (T ((w.alloc (yM #[J I x] 3)).alloc (yM #[J I y] 3)))=O (T w)+1+1:=aE
 have k:aB ((w.alloc (yM #[J I x] 3)).alloc (yM #[J I y] 3)) (M ⟨O (T w),0,N⟩) [x]:=(rR w x).aa ((au _ _).alloc (ah _) _);have d:=rR (w.alloc (yM #[J I x] 3)) y;rw[s] at d;have p:=i.aa f;have c:=Wv (cx:=1) (cy:=1) (cz:=cz) k d p;have o:=pP.three (U:=(w.alloc (yM #[J I x] 3)).alloc (yM #[J I y] 3)) (bx:=M ⟨O (T w),0,N⟩) (by':=M ⟨O (T w)+1,0,N⟩) (bz:=bz) (nx:=1) (ny:=1) (nz:=z.length) (cx:=1) (cy:=1) (cz:=cz) (Ls:=[[x],[y],z]) rfl (fun e=>by cases e) (fun e=>by cases e) m;rw[j] at c o;have Y:=f.alloc f.size (yM #[Z (M ⟨O (T w),0,N⟩) 1 1,Z (M ⟨O (T w)+1,0,N⟩) 1 1,Z bz (C z) cz] 27)
 refine⟨alk a (M ⟨O (T w)+1+1,0,N⟩) ca 3 L [[x],[y],z] _ (h.aa Y) (fun l b=>by have:=g l b;omega) c o (fun l b=>by
  simp only[bY,gK,jq] at b;rcases b with rfl |rfl |rfl
  ·simp
  ·simp
  ·exact q) aE aE,Y⟩
theorem atl (a bz:Kd) (ca cz:Nat) (L:List Kx) (x y:Int) (z:Kx) (w:E) (h:dP w a L) (hl:∀l∈L,C l<=1000) (hz:aB w bz z) (bd:bz=N ->cz=0) (t:C z<=1000):
  c6 33 #[Z a (C L) ca,J I x,J I y,Z bz (C z) cz] w (dj w (zp #[zZ (tz L x y z).1,J I (tz L x y z).2])):=by
 obtain⟨ak,wY⟩:=ahD a bz ca cz L x y z w h hl hz bd t;have aj:=Fa ak;have F:=Fa wY;have H:=Fa hz;have B9:=Fa h;have n:=Fa hl;obtain⟨rb,r,m⟩:∃rb r,tz L x y z=(rb,r):=⟨_,_,rfl⟩
 have ab:wT (kA L [[x],[y],z]≠0 ->xd=rb/\kA L [[x],[y],z]=r):=fun e=>by
  rw[tz,aC e] at m;exact Prod.mk.inj m
 have ad:wT (kA L [[x],[y],z]=0 ->((!(xp (ed L z []) x.toNat (af [y]))&&!ug (ed L [] [x]) [x] z [])&&!ug (ed L [] z) z [y] [x])=rb/\0=r):=fun e=>by
  rw[tz,aw e] at m;exact Prod.mk.inj m
 rw[m];show c6 33 #[Z a (C L) ca,J I x,J I y,Z bz (C z) cz] w fun e w'=>e=yW (zp #[zZ rb,J I r])/\da w w';clear m ak wY h hz hl;go_enter func33,ntmps33;go_wp2_with fail
 refine aj.o.ae ?_;rintro e w1 ⟨rfl,ax⟩;have g:=Fa (F.o.trans (ax.ae F.o.size));clear ax aj F;by_cases s:kA L [[x],[y],z]=0
 ·obtain⟨hg,ai⟩:=acF s;obtain⟨⟨bg,bh⟩,⟨kQ,bk⟩,Fy,Tr,ao⟩:=ahE ai;obtain⟨u,rfl⟩:∃u:Nat,x=u:=⟨x.toNat,al⟩;rw[s];have hR:=ad.o s;rw[oU] at hR;have Bh:=Fa hR;have K:=Fa hg;have bc:=Fa Tr;have bb:=Fa ao;have f:0<C L/\L.length<=8:=⟨al,(mj (vE hg).1).2.1⟩;have aI:ei [y] (C L)=true:=(D9.1 ai).1 [y] aE;have Jk:=Fa (ajH a bz ca cz L z w1 (B9.o.aa g.o) (H.o.aa g.o) f.1 f.2 (fun v hv=>Hv (lr Fy) hv) t)
  have Va:wT (∀(R cap:Nat) (b:Kd) (U:E),dP U (M ⟨R,0,N⟩) (ed L z []) ->aB U b [y] ->c6 74 #[Z (M ⟨R,0,N⟩) (C L) cap,J I (u:Nat),Z b 1 1] U fun e w'=>e=yW (zZ (xp (ed L z []) u (af [y])))/\da U w'):=fun R cap b U hU hb=>by
   have:=atj (M ⟨R,0,N⟩) b cap 1 u (ed L z []) [y] U hU (ahS n.o) hb aE (LM K.o z []) (by rw[vF];exact aI) (by rw[vF];omega);rwa [vF] at this
  clear s hR hg ai Tr ao Fy aI ab ad;go_wp2_with fail
  refine Jk.o.ae ?_;rintro e D ⟨R,cap,rfl,av,ay⟩;have S:=Fa (g.o.trans (ay.ae g.o.size));have Ba:=(au (O (T D)) D).alloc (ah _) (yM #[J I y] 3);have mG:=Fa (Va.o R cap (M ⟨O (T D),0,N⟩) _ (av.aa Ba) (rR D y));have j:=Fa (S.o.trans (Ba.ae S.o.size));clear ay Ba av Jk Va;generalize xp (ed L z []) u (af [y])=q1 at *;cases q1 with
  |true=>
   go_wp2_with fail
   refine mG.o.ae ?_;rintro e w4 ⟨rfl,q⟩;have A:=Fa (j.o.trans (q.ae j.o.size));clear q;go_wp2;go_ret2;exact⟨by rw[<- Bh.o.1, <- Bh.o.2];rfl,A.o⟩
  |false=>
   go_wp2_with fail
   refine mG.o.ae ?_;rintro e w4 ⟨rfl,q⟩;have A:=Fa (j.o.trans (q.ae j.o.size));clear q mG j S;have hA:=A.o.alloc A.o.size (yM #[J I (u:Nat)] 3);have p:=Fa (abU a (M ⟨O (T w4),0,N⟩) ca 1 L [((u:Nat):Int)] _ (B9.o.aa hA) (rR w4 u) f.1 f.2 n.o aE);have Bj:=Fa hA;clear hA;go_wp2_with fail
   refine p.o.ae ?_;rintro e Bm ⟨R2,a1,rfl,O8,az⟩;have fp:=Fa (Bj.o.trans (az.ae Bj.o.size));have B7:=(au (O (T Bm)) Bm).alloc (ah _) (yM #[J I (u:Nat)] 3);have X:=fp.o.trans (B7.ae fp.o.size);have Bb:=Fa (aid (cap:=a1) (M ⟨O (T Bm),0,N⟩) bz N 1 cz 0 [((u:Nat):Int)] z [] _ (O8.aa B7) n.o (rR Bm u) (H.o.aa X) (fun k hk=>absurd hk aE) aE t aE K.o bc.o);have V:=Fa X;clear B7 X az O8 p Bj fp;generalize ug (ed L [] [((u:Nat):Int)]) [((u:Nat):Int)] z []=q2 at *;cases q2 with
   |true=>
    go_wp2_with fail
    refine Bb.o.ae ?_;rintro e w7 ⟨rfl,i⟩;have d:=Fa (V.o.trans (i.ae V.o.size));clear i;go_wp2;go_ret2;exact⟨by rw[<- Bh.o.1, <- Bh.o.2];rfl,d.o⟩
   |false=>
    go_wp2_with fail
    refine Bb.o.ae ?_;rintro e w7 ⟨rfl,i⟩;have d:=Fa (V.o.trans (i.ae V.o.size));clear i Bb V A;have p:=Fa (abU a bz ca cz L z w7 (B9.o.aa d.o) (H.o.aa d.o) f.1 f.2 n.o t);go_wp2_with fail
    refine p.o.ae ?_;rintro e c ⟨R3,aR,rfl,DM,iW⟩;have yY:=Fa (d.o.trans (iW.ae d.o.size));have P:=(au (O (T c)) c).alloc (ah _) (yM #[J I y] 3);(have aJ:O (T (c.alloc (yM #[J I y] 3)))=O (T c)+1:=aE);have Q:=P.alloc P.size (yM #[J I (u:Nat)] 3);have yF:=yY.o.trans (Q.ae yY.o.size);have Y:=rR (c.alloc (yM #[J I y] 3)) (u:Nat);rw[aJ] at Y;have Bb:=Fa (aid (cap:=aR) bz (M ⟨O (T c),0,N⟩) (M ⟨O (T c)+1,0,N⟩) cz 1 1 z [y] [((u:Nat):Int)] _ (DM.aa Q) n.o (H.o.aa yF) ((rR c y).aa ((au _ _).alloc (ah _) (yM #[J I (u:Nat)] 3))) Y t aE aE K.o bb.o);have aq:=Fa yF;clear P aJ Q yF Y iW DM p;generalize ug (ed L [] z) z [y] [((u:Nat):Int)]=q3 at *;go_wp2_with fail
    refine Bb.o.ae ?_;rintro e wB ⟨rfl,an⟩;have a6:=Fa (aq.o.trans (an.ae aq.o.size));clear an;go_wp2;go_ret2;exact⟨by rw[<- Bh.o.1, <- Bh.o.2];rfl,a6.o⟩
 ·have HE:=Fa (ab.o s);have bf:(kA L [[x],[y],z]==0)=false:=by simpa using s
  clear s ab ad;generalize kA L [[x],[y],z]=st at *;go_wp2;go_ret2;exact⟨by rw[<- HE.o.1, <- HE.o.2];rfl,g.o⟩
section
variable {V : List Vr} {L : List Kx} {R : List (List Fr)} {d : List (Nat × Nat)}
def gC (V:List Vr) (L:List Kx) (R:List (List Fr)) (d l:List (Nat×Nat)):Rat:=cT (ag V) (C V) (dE d (qW V L R)) l
theorem SE (h0:aS V L R=0) (h:fL (ag V) (C V) d) (l:List (Nat×Nat)):bK V (fZ d L) (fO V d (di R)) l=gC V L R d l:=by
 rw[afi (by rw[Sr];exact h0) h]
 have e:qW V L (di R)=qW V L R:=by
  funext v g
  exact ao9 v g
 rw[e,gC]
def nD (V:List Vr) (L:List Kx) (R:List (List Fr)) (d:List (Nat×Nat)) (Y:Kx) (l:List (Nat×Nat)):List Fr:=
 (List.range (cnt (ag V) (af Y))).map fun K=>qF (gC V L R d (qV (ag V) (af Y) K++l)/gC V L R d l)
theorem ar2 (h0:aS V L R=0) (h:fL (ag V) (C V) d) {Y:Kx} (b:Up Y (C V)) {l:List (Nat×Nat)} (c:fL (ag V) (C V) l) (D:∀v∈af Y,¬v∈l.map (·.1)):
  wE V (fZ d L) (fO V d (di R)) Y (zF l)=(if gC V L R d l=0 then 3 else 0)/\(gC V L R d l≠0 ->lU V (fZ d L) (fO V d (di R)) Y (zF l)=(Y,nD V L R d Y l)):=by
 have n:=Pv (R:=di R) (by rw[Sr];exact h0) h;have s:=aiq n b c D;have a:bH (bL V (fZ d L) (fO V d (di R)) Y l).2=gC V L R d l:=by rw[Rt n b,SE h0 h]
 have z:wE V (fZ d L) (fO V d (di R)) Y (zF l)=if gC V L R d l=0 then 3 else 0:=by rw[wE,aw s,Dc,a]
 refine⟨z,fun hs=>?_⟩;rw[lU,z,aC hs,aw rfl,Dc,lu,a,bL,nD];congr 1
 rw[zr];refine mM fun K _=>?_;show qF (a8 (qF _)*(1/_))=_;rw[jC,SE h0 h,jH 1,nR, <- jH]
theorem ao6 {a b:List (Nat×Nat)} (h:∀p,p∈a↔p∈b):gC V L R d a=gC V L R d b:=NQ h
theorem asz {G:List Kx} {F:Kx} (h:v<C G):(ed G Bj F).getD v []=ri G Bj F v:=by
 rw[getD_at (by rw[vF];exact h),Pz]
end
variable {V : List Vr} {L : List Kx} {R : List (List Fr)} {d : List (Nat × Nat)}
theorem afb (h0:aS V L R=0) (h:fL (ag V) (C V) d) {q:Ja} (a:q.Nodup) (l:List (Nat×Nat)):bG (fun K=>gC V L R d (qV (ag V) q K++l)) (cnt (ag V) q)=gC V L R d l:=by
 have:=afj (Pv h0 h) a l;simp only[afi h0 h] at this;exact this
theorem ao7 (h0:aS V L R=0) (a:fL (ag V) (C V) d) (l:List (Nat×Nat)) (y v:Nat) (e:gC V L R d l=0):gC V L R d (l++[(y,v)])=0:=by
 have h:=afh (LG h0 a) y v l;have b:=X1 (LG h0 a) ((y,v)::l);have c:gC V L R d (l++[(y,v)])=gC V L R d ((y,v)::l):=ao6 fun p=>by simp[or_comm]
 rw[c];rw[gC] at e⊢;rw[e] at h;exact Rat.le_antisymm h b
variable {hs:Ja}
theorem abH {P:Program} (w:E) {o:Oper} {a:Act} (l c:Operand) (t:TypeId) (x:o.op=Op.makeSlice t l c)
  (base:Nat) (e:TypeId) (i:TypeInfo) (z:wF) (s:Nat) (h1:P.underlying t=M (.slice e)) (h:P.info? e=M i) (f:i.zero=M z) (g:i.size=s)
  (kl k:IntKind) (L B1:Int) (n:Nat) (r:a.eval l=J kl L) (q:a.eval c=J k B1) (p:L=(n:Int)) (j:B1=(n:Int)) (b2:i.bytes*n<=281474976710656) (b:n<=maxLen) (d:base<=O (T w))
  (m:∀w',w'.ownsRow base e s (Z (M ⟨O (T w),0,N⟩) n n) n (madeCells z.cells (n*s)).toList ->w.grownBy w' N ->K (a.put o.dst (Z (M ⟨O (T w),0,N⟩) n n)) w'):o.wp P a w K Q:=by
 obtain⟨w',y,u,v⟩:=run_make_full (P:=P) w base t e i z s h1 h f g kl k n b2 b d;subst p;subst j;unfold Oper.wp;simp[execOp,x,r,q,y,Result.andThen];exact m w' u v
def pO (gs:Ja) (b:Kd) (n:Nat):Prop:=∀g o,b=M ⟨g,o,N⟩ ->n≠0 ->¬g∈gs
structure eK (gs:Ja) (W U:E):Prop where
 os:U.os=W.os
 tape:U.tape=W.tape
 output:U.output=W.output
 size:O (T W)<=O (T U)
 block:∀g,g<O (T W) ->¬g∈gs ->U.heap[g]? =W.heap[g]?
theorem eK.refl (gs:Ja) (W:E):eK gs W W:=⟨rfl,rfl,rfl,ah _,fun _ _ _=>rfl⟩
theorem eK.aa {gs:Ja} {W:E} (h:da W U):eK gs W U:=⟨h.os,h.tape,h.output,h.size,fun g a _=>h.block g a⟩
theorem eK.trans {gs:Ja} {W:E} (h:eK gs W U) (a:eK gs U U'):eK gs W U':=⟨a.os.trans h.os,a.tape.trans h.tape,a.output.trans h.output,aM h.size a.size,fun g b n=>(a.block g (aT b h.size) n).trans (h.block g b n)⟩
theorem eK.set {gs:Ja} {W:E} {b:Nat} (h:b∈gs) (j:Nat) (y:wF):eK gs W (W.setCell ⟨b,j,N⟩ y):=⟨rfl,rfl,rfl,(jJ W ⟨b,j,N⟩ y).size,fun g _ n=>eW W ⟨b,j,N⟩ y g fun e=>n (by rw[show g=b from e];exact h)⟩
theorem eK.put {gs:Ja} {W:E} (h:eK gs W U) {b:Nat} (a:b∈gs∨O (T W)<=b) (j:Nat) (y:wF):eK gs W (U.setCell ⟨b,j,N⟩ y):=⟨h.os,h.tape,h.output,aM h.size (jJ U ⟨b,j,N⟩ y).size,fun g d n=>(eW U ⟨b,j,N⟩ y g fun e=>by
 have c:g=b:=e;subst c;rcases a with a |a
 ·exact n a
 ·omega).trans (h.block g d n)⟩
theorem eK.grow {gs:Ja} {W:E} (h:eK gs W U) {row:Option Nat} (a:U.grownBy U' row) (r:∀g,row=M g ->g∈gs∨O (T W)<=g):eK gs W U':=⟨a.os.trans h.os,a.tape.trans h.tape,a.output.trans h.output,aM h.size a.size,fun g l n=>(a.block g (aT l h.size) fun e=>by
 rcases r g e.symm with b |b
 ·exact n b
 ·omega).trans (h.block g l n)⟩
theorem eK.low {gs:Ja} {W:E} (h:eK gs W U) (a:da w W) (c:∀g∈gs,O (T w)<=g):da w U:=⟨h.os.trans a.os,h.tape.trans a.tape,h.output.trans a.output,aM a.size h.size,fun k b=>(h.block k (aT b a.size) fun m=>by have:=c k m;omega).trans (a.block k b)⟩
theorem eK.more {gs:Ja} {W:E} (h:eK gs W U) (s:∀g∈gs,g∈hs):eK hs W U:=⟨h.os,h.tape,h.output,h.size,fun g a n=>h.block g a fun m=>n (s g m)⟩
section
variable {gs : Ja} {W U : E}
theorem KR {b:Kd} (h:aB W b l) (i:pO gs b (C l)) (c:eK gs W U):aB U b l:=fun k d=>by
 obtain⟨g,o,e,a,f⟩:=h k d;exact⟨g,o,e,aT a c.size,(iM (c.block g a (i g o e al))).trans f⟩
theorem WH {b:Kd} {l:List ByteArray} (h:jM W b l) (i:pO gs b (C l)) (c:eK gs W U):jM U b l:=fun k d=>by
 obtain⟨g,o,e,a,f⟩:=h k d;exact⟨g,o,e,aT a c.size,(iM (c.block g a (i g o e al))).trans f⟩
theorem Lv {b:Kd} {l:List Fr} (h:dH W b l) (m:pO gs b (C l)) (d:eK gs W U):dH U b l:=fun k A=>by
 obtain⟨g,o,e,c,f,i,j⟩:=h k A;have a:=d.block g c (m g o e al);exact⟨g,o,e,aT c d.size,(iM a).trans f,(iM a).trans i,(iM a).trans j⟩
theorem Sl {b:Kd} {B:Nat} (h:∀g,∀o,b=M ⟨g,o,N⟩ ->B<=g) (a:∀g∈gs,g<B):pO gs b n:=fun g o e _ m=>by
 have:=h g o e;have:=a g m;omega
def sG (W:E) (G:Nat) (X:List wF):Prop:=W.heap[G]? =M (yM X.toArray 60 (0,0))
theorem sG.cell {X:List wF} (h:sG w g X) (j:Nat) (a:j<C X):w.cell? ⟨g,j,N⟩=M X[j]:=by
 rw[ba w g j _ _ (0,0) h,Q1,a7 a]
theorem sG.fz {X:List wF} (h:sG w g X) (j:Nat):w.frozen? ⟨g,j,N⟩=false:=gj w g j _ _ h
theorem sG.lt {X:List wF} (h:sG w g X):g<O (T w):=(cS.1 h).1
theorem sG.set {X:List wF} (h:sG w g X) (j:Nat) (v:wF):sG (w.setCell ⟨g,j,N⟩ v) g (X.set j v):=by
 have a:=jW w g j _ _ v h;rw[sG,a];simp
structure pZ (gs:Ja) (g:Nat) (V:List Vr) (X:List wF) (W:E):Prop where
 row:sG W g X
 len:C V*2<=C X
 at':∀k (h:k<C V),∃b c,X[k*2]? =M (zK V[k].1)/\X[k*2+1]? =M (Z b V[k].2.length c)/\jM W b V[k].2/\V[k].2.length<=c/\pO gs b V[k].2.length
structure nO (gs:Ja) (g:Nat) (L:List Kx) (X:List wF) (W:E):Prop where
 row:iH W g X
 len:C L<=C X
 at':∀k (h:k<C L),∃b c,X[k]? =M (Z b L[k].length c)/\aB W b L[k]/\(b=N ->c=0)/\pO gs b L[k].length
def qD (w:E) (G:Nat) (X:List wF):Prop:=w.heap[G]? =M (yM X.toArray 36 (0,0))
theorem qD.cell {X:List wF} (h:qD w g X) (j:Nat) (a:j<C X):w.cell? ⟨g,j,N⟩=M X[j]:=by
 rw[ba w g j _ _ (0,0) h,Q1,a7 a]
theorem qD.fz {X:List wF} (h:qD w g X) (j:Nat):w.frozen? ⟨g,j,N⟩=false:=gj w g j _ _ h
theorem qD.lt {X:List wF} (h:qD w g X):g<O (T w):=(cS.1 h).1
theorem qD.set {X:List wF} (h:qD w g X) (j:Nat) (v:wF):qD (w.setCell ⟨g,j,N⟩ v) g (X.set j v):=by
 have a:=jW w g j _ _ v h;rw[qD,a];simp
structure p5 (gs:Ja) (g:Nat) (R:List (List Fr)) (X:List wF) (W:E):Prop where
 row:qD W g X
 len:C R<=C X
 at':∀k (h:k<C R),∃b c,X[k]? =M (Z b R[k].length c)/\dH W b R[k]/\R[k].length<=c/\pO gs b R[k].length
variable {g : Nat} {V : List Vr} {L : List Kx} {R : List (List Fr)} {X : List wF}
theorem pZ.keep (h:pZ gs g V X W) (m:eK gs W U) (l:U.heap[g]? =W.heap[g]?):pZ gs g V X U:=⟨l.trans h.row,h.len,fun k d=>by
 obtain⟨b,c,e,f,i,j,a⟩:=h.at' k d;exact⟨b,c,e,f,WH i a m,j,a⟩⟩
theorem nO.keep (h:nO gs g L X W) (l:eK gs W U) (j:U.heap[g]? =W.heap[g]?):nO gs g L X U:=⟨j.trans h.row,h.len,fun k d=>by
 obtain⟨b,c,e,f,i,a⟩:=h.at' k d;exact⟨b,c,e,KR f a l,i,a⟩⟩
theorem p5.keep (h:p5 gs g R X W) (l:eK gs W U) (j:U.heap[g]? =W.heap[g]?):p5 gs g R X U:=⟨j.trans h.row,h.len,fun k d=>by
 obtain⟨b,c,e,f,i,a⟩:=h.at' k d;exact⟨b,c,e,Lv f a l,i,a⟩⟩
theorem pZ.aa (h:pZ gs g V X W) (b:da W U):pZ gs g V X U:=h.keep (.aa b) (b.block g h.row.lt)
theorem nO.aa (h:nO gs g L X W) (b:da W U):nO gs g L X U:=h.keep (.aa b) (b.block g h.row.lt)
theorem p5.aa (h:p5 gs g R X W) (b:da W U):p5 gs g R X U:=h.keep (.aa b) (b.block g h.row.lt)
theorem pZ.set (h:pZ gs g V X W) (q:g∈gs) (s:k<C V) {b:Kd} (hs:jM W b V[k].2) (p:V[k].2.length<=c) (o:pO gs b V[k].2.length):
  pZ gs g V (X.set (k*2+1) (Z b V[k].2.length c)) (W.setCell ⟨g,k*2+1,N⟩ (Z b V[k].2.length c)):=by
 have x:eK gs W (W.setCell ⟨g,k*2+1,N⟩ (Z b V[k].2.length c)):=.set q _ _;have t:=h.len;refine⟨h.row.set _ _,by rw[gA];exact h.len,fun j r=>?_⟩;obtain⟨f,i,a,l,m,n,d⟩:=h.at' j r;by_cases e:k=j
 ·subst e;refine⟨b,c,?_,?_,WH hs o x,p,o⟩
  ·rw[wj al];exact a
  ·rw[Hr al]
 ·refine⟨f,i,?_,?_,WH m d x,n,d⟩
  ·rw[wj al];exact a
  ·rw[wj al];exact l
theorem nO.set (h:nO gs g L X W) (r:g∈gs) {b:Kd} (hs:aB W b l) (q:b=N ->c=0) (o:pO gs b (C l)):
  nO gs g (L.set k l) (X.set k (Z b (C l) c)) (W.setCell ⟨g,k,N⟩ (Z b (C l) c)):=by
 have x:eK gs W (W.setCell ⟨g,k,N⟩ (Z b (C l) c)):=.set r _ _;have s:=h.len;refine⟨h.row.set _ _,by rw[gA,gA];exact h.len,fun j d=>?_⟩;rw[gA] at d;obtain⟨f,i,m,n,p,a⟩:=h.at' j d;by_cases e:k=j
 ·subst e;rw[Hp];refine⟨b,c,?_,KR hs o x,q,o⟩;rw[Hr al]
 ·rw[MR e];refine⟨f,i,?_,KR n a x,p,a⟩;rw[wj e];exact m
theorem p5.set (h:p5 gs g R X W) (r:g∈gs) {l:List Fr} {b:Kd} (hs:dH W b l) (q:C l<=c) (o:pO gs b (C l)):
  p5 gs g (R.set k l) (X.set k (Z b (C l) c)) (W.setCell ⟨g,k,N⟩ (Z b (C l) c)):=by
 have x:eK gs W (W.setCell ⟨g,k,N⟩ (Z b (C l) c)):=.set r _ _;have s:=h.len;refine⟨h.row.set _ _,by rw[gA,gA];exact h.len,fun j d=>?_⟩;rw[gA] at d;obtain⟨f,i,m,n,p,a⟩:=h.at' j d;by_cases e:k=j
 ·subst e;rw[Hp];refine⟨b,c,?_,Lv hs o x,q,o⟩;rw[Hr al]
 ·rw[MR e];refine⟨f,i,?_,Lv n a x,p,a⟩;rw[wj e];exact m
theorem pZ.Fd (h:pZ gs g V X W):tB W (M ⟨g,0,N⟩) V:=fun k i=>by
 obtain⟨b,c,a,d,e,f,_⟩:=h.at' k i;have l:=h.len;refine⟨g,0,b,c,rfl,h.row.lt,?_,?_,e,f⟩
 ·rw[bQ,h.row.cell _ al];rw[a7 al] at a;exact a
 ·rw[bQ,h.row.cell _ al];rw[a7 al] at d;exact d
theorem nO.pars (h:nO gs g L X W):dP W (M ⟨g,0,N⟩) L:=fun k e=>by
 obtain⟨b,c,a,d,_,_⟩:=h.at' k e;have l:=h.len;refine⟨g,0,b,c,rfl,h.row.lt,?_,d⟩;rw[bQ,h.row.cell _ al];rw[a7 al] at a;exact a
theorem nO.lsn (h:nO gs g L X W):pP W (M ⟨g,0,N⟩) L:=fun k i g' o' j o l e a n=>by
 cases e;obtain⟨b,c,d,_,f,_⟩:=h.at' k i;have m:=h.len;rw[bQ,h.row.cell _ al] at a;rw[a7 al] at d;rw[jO d] at a;cases a;exact f n
theorem p5.rows (h:p5 gs g R X W):My W (M ⟨g,0,N⟩) R:=fun k f=>by
 obtain⟨b,c,a,d,e,_⟩:=h.at' k f;have l:=h.len;refine⟨g,0,b,c,rfl,h.row.lt,?_,d,e⟩;rw[bQ,h.row.cell _ al];rw[a7 al] at a;exact a
end
theorem kY.strs {B:Nat} {v:wF} {l:List ByteArray} (h:kY w B v l):∃d f,v=Z d (C l) f/\jM w d l/\l.length<=f/\∀g o,d=M ⟨g,o,N⟩ ->B<=g:=by
 rcases h.2 with ⟨a,b⟩ |⟨g,cap,u,a,b,p,i,q,r,s⟩
 ·have:l=[]:=Q6 b;subst this;exact⟨N,0,a,fun k c=>absurd c aE,ah _,fun g o e=>by cases e⟩
 ·refine⟨M ⟨g,0,N⟩,cap,a,fun k c=>?_,i,fun g' o' e=>by cases e;exact b⟩;subst a;obtain⟨g',e,n,m⟩:=KA h (j:=k) (by rw[cY];exact c);cases e;refine⟨g,0,rfl,n,?_⟩;rw[bQ,m,mN]
theorem bW.ints3 {B:Nat} {v:wF} (h:bW w B v l):∃d f,v=Z d (C l) f/\aB w d l/\(d=N ->f=0)/\∀g o,d=M ⟨g,o,N⟩ ->B<=g:=by
 rcases h.2 with ⟨a,b⟩ |⟨g,cap,u,a,b,n,p,q,r,s⟩
 ·have:l=[]:=Q6 b;subst this;exact⟨N,0,a,fun k c=>absurd c aE,fun _=>rfl,fun g o e=>(by cases e)⟩
 ·refine⟨M ⟨g,0,N⟩,cap,a,fun k c=>?_,(fun e=>by cases e),(fun g' o' e=>by cases e;exact b)⟩;subst a;obtain⟨g',e,m,i⟩:=KA h (j:=k) (by rw[cY];exact c);cases e;refine⟨g,0,rfl,m,?_⟩;rw[bQ,i,mN]
def Uy (w:E) (V:List Vr) (X:List wF):Prop:=∀k (h:k<C V),∃b c,X[k*2]? =M (zK V[k].1)/\X[k*2+1]? =M (Z b V[k].2.length c)/\jM w b V[k].2/\V[k].2.length<=c
theorem akW (h:tB w a V) (p:0<C V):∃g o,a=M ⟨g,o,N⟩/\g<O (T w):=by
 obtain⟨g,o,_,_,b,c,_⟩:=h 0 p;exact⟨g,o,b,c⟩
theorem ak3 (a:Kd) (ca:Nat) (V:List Vr) (w0 w:E) (h:tB w0 a V) (Bm:da w0 w) (hp:0<C V) (h8:C V<=1000):
  c6 83 #[Z a (C V) ca] w fun e w'=>∃R cap X,e=yW (Z (M ⟨R,0,N⟩) (C V) cap)/\w.heap.size<=R/\V.length<=cap/\sG w' R X/\V.length*2<=C X/\Uy w0 V X/\da w w':=by
 obtain⟨i0,cC,ab,ad,ae⟩:=eC Tryz.infoVar;obtain⟨g,o,rfl,Bh⟩:=akW h hp;obtain⟨vs,D⟩:∃vs:List wF,vs=(List.range (C V*2)).map fun k=>(w.cell? ⟨g,o+k,N⟩).getD undef:=⟨_,rfl⟩;have Q:C vs=C V*2:=by rw[D];simp
 have A:∀k (d:k<C V),∃b c,vs[k*2]? =M (zK V[k].1)/\vs[k*2+1]? =M (Z b V[k].2.length c)/\jM w0 b V[k].2/\V[k].2.length<=c/\w.cell? ⟨g,o+k*2,N⟩=M (zK V[k].1)/\w.cell? ⟨g,o+(k*2+1),N⟩=M (Z b V[k].2.length c):=fun k d=>by
  obtain⟨g',o',b,c,e,_,f,x,Bj,q⟩:=h k d;cases e;have H:=(Bm.cell (p:=⟨g,o+k*2,N⟩) Bh).trans f;have v:=(Bm.cell (p:=⟨g,o+k*2+1,N⟩) Bh).trans x;rw[zl] at v;refine⟨b,c,?_,?_,Bj,q,H,v⟩
  ·rw[D,k9,MT al,Option.map_some,H];rfl
  ·rw[D,k9,MT al,Option.map_some,v];rfl
 have Bb:∀j (i:j<C vs),w.cell? ⟨g,o+j,N⟩=M vs[j]/\vs[j].oneCell'=true:=fun j i=>by
  have d:j/2<C V:=al
  obtain⟨b,c,m,f,_,_,q,y⟩:=A (j/2) d;rcases Nat.mod_two_eq_zero_or_one j with e |e
  ·have l:j/2*2=j:=al
   rw[l,a7 i] at m;rw[l] at q;rw[q,jO m];exact⟨rfl,rfl⟩
  ·have l:j/2*2+1=j:=al
   rw[l,a7 i] at f;rw[l] at y;rw[y,jO f];exact⟨rfl,rfl⟩
 have U:=Fa A;have P:=Fa Bb;have F:=Fa Q;clear D h Q A Bb Bm;have Xd:∀(w:E) (a:Kd) (n c z t:Nat),(binOp .eql 22 (Z a n c) (Z N z t)).run prog w=.ok (zZ a.isNone) w:=fun w a n c z t=>V1 w _ _ a n c z t underlying22;go_enter func83,ntmps83;go_wp2_with (at_builtin;refine zg _ rfl _ _ 22 rfl (O (T w)) 60 i0 (zd #[zK ⟨#[]⟩,Z N 0 0]) 2 40 underlying22 cC ab ad ae rfl a6 _ _ _ rfl (VF w #[] 0 (ah _) (aV _) rfl) ⟨g,o,N⟩ (C V) ca vs rfl ?Ie ?Ic ?Ib ?Ia ?H9 ?H8 ?_)
 case Ie=>exact F.o
 case Ic=>
  intro j u i;have L:=(mO.1 i).1;rw[Addr.add_lit];refine V3 _ ?_;rw[(P.o j L).1, <- i,a7 L]
 case Ib=>
  intro u hu;obtain⟨k,d,rfl⟩:=iE hu;exact(P.o k d).2
 case Ia=>unfold maxLen;omega
 case H9=>omega
 case H8=>simp
 intro v' w1 s B9 ai;have K:da w w1:=((au _ w).alloc (ah _) _).grown B9 aE (by intro k d;simp[Value.ownBlock] at d;omega);have S:=Fa K;have Ba:=Fa s;clear s B9 ai K;go_wp2;go_ret;have s:=Ba.o;have Q:=F.o;rcases s.2 with ⟨m,f⟩ |⟨R,cap,r,m,f,x,Bj,q,y,h7⟩
 ·omega
 ·have e:vs++r.toList.drop (C V*2)=r.toList:=by
   have aa:vs=r.toList.take (C V*2):=by
    exact h7.symm
   conv=>lhs;rw[aa]
   exact zo _ _
  refine⟨R,cap,vs++r.toList.drop (C V*2),by rw[m];rfl,f,al,?_,by rw[cE];omega,fun k d=>?_,S.o⟩
  ·rw[sG,x,e]
  ·obtain⟨b,c,Y,B7,a3,a4,_⟩:=U.o k d;exact⟨b,c,by rw[Q3 al];exact Y,by rw[Q3 al];exact B7,a3,a4⟩
theorem ak4 (a:Kd) (ca:Nat) (l:List ByteArray) (w:E) (h:jM w a l) (F:0<C l) (Q:C l<=5000):
  c6 84 #[Z a (C l) ca] w fun e w'=>∃d f,e=yW (Z d (C l) f)/\jM w' d l/\l.length<=f/\(∀g o,d=M ⟨g,o,N⟩ ->O (T w)<=g)/\da w w':=by
 obtain⟨Bh,z,K,L,Bb⟩:=eC Tryz.infoStr;obtain⟨g,o,rfl,R, -⟩:=h 0 F
 have x:∀j (b:j<C l),w.cell? ⟨g,o+j,N⟩=M (zK l[j]):=fun j b=>by
  obtain⟨g',o',e,_,m⟩:=h j b;cases e;exact m
 have A:=Fa x;clear h x;have X:∀(w:E) (a:Kd) (n c p i:Nat),(binOp .eql 58 (Z a n c) (Z N p i)).run prog w=.ok (zZ a.isNone) w:=fun w a n c p i=>V1 w _ _ a n c p i underlying58;go_enter func84,ntmps84;go_wp2_with (at_builtin;refine zg _ rfl _ _ 58 rfl (O (T w)) 9 Bh (zK ⟨#[]⟩) 1 16 underlying58 z K L Bb rfl a6 _ _ _ rfl (VF w #[] 0 (ah _) (aV _) rfl) ⟨g,o,N⟩ (C l) ca (l.map Value.string) rfl ?Ie ?Ic ?Ib ?Ia ?H9 ?H8 ?_)
 case Ie=>simp
 case Ic=>
  intro j u b;have t:j<C l:=by have:=(mO.1 b).1;rwa [cY] at this
  rw[Addr.add_lit];refine V3 _ ?_;rw[A.o j t, <- b,k9,a7 t];rfl
 case Ib=>
  intro u Bj;obtain⟨k,r,rfl⟩:=iE Bj;rw[mN];rfl
 case Ia=>unfold maxLen;omega
 case H9=>omega
 case H8=>simp
 intro v' q v y P;have s:da w q:=((au _ w).alloc (ah _) _).grown y aE (by intro k r;simp[Value.ownBlock] at r;omega);have H:=Fa s
 have B9:wT (kY q (O (T w)) v' l):=by
  show q.ownsRow _ _ _ _ _ _;exact v
 clear v y P s;go_wp2;go_ret;obtain⟨d,f,rfl,D,m,Bm⟩:=B9.o.strs;exact⟨d,f,rfl,D,m,Bm,H.o⟩
end Go.Proofs.YtkflnpjapgiajaaGreatDoor
