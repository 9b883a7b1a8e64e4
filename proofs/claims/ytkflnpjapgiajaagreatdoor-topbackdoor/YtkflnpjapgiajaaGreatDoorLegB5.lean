/- Part5: part 5. -/
import Derived.Test.YtkflnpjapgiajaaGreatDoorLegB4
set_option maxRecDepth 100000
set_option maxHeartbeats 400000000
set_option linter.unusedSimpArgs false
set_option linter.unusedVariables false
namespace Go.Proofs.YtkflnpjapgiajaaGreatDoor
open Value renaming slice→J,int→E,string→zX,pointer→zZ,bool→zd,agg→zp,tuple→zz
open IntKind renaming i64→yR,u32→yW
open Obj renaming cells→yd
open Ending renaming returned→yk
open Or renaming inl→yp,inr→xS
open Option renaming none→O,some→I
open Bool renaming true→xq,false→x3
open Go renaming World→wA,Value→wQ,undef→wd
open RowKit renaming Hid→we
open Go.Proofs.Tryz
open List renaming length→Z
open World renaming alloc→AC
open World renaming setCell→AF
open World renaming cell?→AJ
open Go.RowKit Go.Shelf
theorem amW (a b t:Kd) (ca cb ct:Nat) (S:Jp) (fr:Kx) (P:List Tb) (D c v:Nat) (ai:Bool) (w:wA) (aR:fJ (iL S)) (hs:aC w a (iL S)) (hb:aC w b fr) (hP:jt w t P) (bF:ir S (Z S) P D c) (cj:Z P<=999) (kV:Z fr<=1000) (hm:2*(B D).size+(B c).size+2<=8192) (hv:v<Z S) (bw:∃t∈P,v∈ag t.1):
  c6 207 #[zp #[J a (Z S) ca,J b (Z fr) cb,J t (Z P) ct],E yR (v:Nat),zd ai] w fun e w'=>∃d M t' gO,e=yk (zp #[J a (Z S) ca,J d (Z (bY fr v)) M,J t' (Z (nj S v ai P)) gO])/\aC w' d (bY fr v)/\jt w' t' (nj S v ai P)/\jb w.heap.size t' gO/\da w w':=by
 have fC:Pos S:=by have:=aR.pos;rwa [jL] at this
 have l8:=Fa (fun (U:wA) (hU:da w U)=>adP (J a (Z S) ca) (J t (Z P) ct) b cb fr (v:Int) U (slv _ _ _) (slv _ _ _) (hb.aa hU) kV)
 have uW:we (∀(k:Nat) (hk:k<Z P) (x:Kd) (cx:Nat) (U:wA),aC U x P[k].1 ->c6 98 #[J x P[k].1.length cx,E yR (v:Nat)] U fun e w'=>e=yk (zd (decide (v∈ag P[k].1)))/\da U w'):=fun k hk x cx U h=>by
  have ho:=bF.ok _ (bQ hk);have:=Kp x cx P[k].1 (v:Int) U h (by have:=ho.small aR;omega);rwa [agR ho.up] at this
 obtain⟨E1,d1,k1,k2,k3⟩:=bF.filter (fun t=>decide (v∈ag t.1))
 have bb:2*(B E1).size+(B d1).size+2<=8192:=by
  have h1:=kO k2;have h2:=kO k3;omega
 have aM:=k1.part fC bb (Z (P.filter fun t=>decide (v∈ag t.1)));rw[iP] at aM
 have bx:v∈ag (allT S (P.filter fun t=>decide (v∈ag t.1))).1:=((Ca fC k1.ok).2.1 v).2 (by
  obtain⟨t,ht,Iu⟩:=bw;exact⟨t,cU.2 ⟨ht,cJ Iu⟩,Iu⟩)
 have bC:Z (P.filter fun t=>decide (v∈ag t.1))<=1000:=aO (oq ..) al;have Er:we (∀(wa:Kd) (cw:Nat) (U:wA),da w U ->jt U wa (P.filter fun t=>decide (v∈ag t.1)) ->c6 208 #[J a (Z S) ca,J wa (Z (P.filter fun t=>decide (v∈ag t.1))) cw] U fun e w'=>∃x y,e=yk (zp #[x,y])/\bL w' x y (allT S (P.filter fun t=>decide (v∈ag t.1)))/\da U w'):=fun wa cw U hU h=>adA a wa ca cw S _ E1 d1 U aR (hs.aa hU) h k1 bC bb;have yY:we (∀(x y:wQ) (U:wA),da w U ->bL U x y (allT S (P.filter fun t=>decide (v∈ag t.1))) ->c6 107 #[J a (Z S) ca,zp #[x,y],E yR (v:Nat),zd ai] U fun e w'=>Gp U.heap.size (outT S v ai (allT S (P.filter fun t=>decide (v∈ag t.1)))) e w'/\da U w'):=fun x y U hU h=>ad7 a ca S x y _ v ai U aR (hs.aa hU) h aM.1 aM.2 hv bx;have HP:=Fa hP;clear hs hb hP bF aR fC hm bw k1 k2 k3 bb aM bx bC;obtain⟨T,hT⟩:∃T:Nat ->List Tb,∀k,(P.take k).filter (fun t=>!decide (v∈ag t.1))=T k:=⟨fun k=>(P.take k).filter (fun t=>!decide (v∈ag t.1)),fun _=>rfl⟩;obtain⟨B1,hZ⟩:∃B1:Nat ->List Tb,∀k,(P.take k).filter (fun t=>decide (v∈ag t.1))=B1 k:=⟨fun k=>(P.take k).filter (fun t=>decide (v∈ag t.1)),fun _=>rfl⟩;have xN:we (T 0=[]/\B1 0=[]):=by show _/\_;rw[<- hT, <- hZ];exact⟨rfl,rfl⟩
 have iw:we (∀k (hk:k<Z P),decide (v∈ag P[k].1)=xq ->T (k+1)=T k/\B1 (k+1)=B1 k++[P[k]]):=fun k hk h=>by
  rw[<- hT, <- hT, <- hZ, <- hZ,ig hk,x5,x5,A2 (by simp only[h];decide),A1 (p:=fun t:Tb=>decide (v∈ag t.1)) h];simp
 have lF:we (∀k (hk:k<Z P),decide (v∈ag P[k].1)=x3 ->T (k+1)=T k++[P[k]]/\B1 (k+1)=B1 k):=fun k hk h=>by
  rw[<- hT, <- hT, <- hZ, <- hZ,ig hk,x5,x5,A1 (by simp only[h];decide),A2 (by simp only[h];decide)];simp
 have sY:we (T (Z P)=(P.filter fun t=>!decide (v∈ag t.1))/\B1 (Z P)=P.filter fun t=>decide (v∈ag t.1)):=by show _/\_;rw[<- hT, <- hZ,iP];exact⟨rfl,rfl⟩
 have Ej:we (∀k,Z (T k)<=Z P/\(B1 k).length<=Z P):=fun k=>by rw[<- hT, <- hZ];exact⟨aO (oq ..) (by rw[eZ];omega),aO (oq ..) (by rw[eZ];omega)⟩
 clear hT hZ;obtain⟨OP,ZN⟩:∃OP,nj S v ai P=OP:=⟨_,rfl⟩;have Jq:we (OP=T (Z P)++[outT S v ai (allT S (B1 (Z P)))]):=by show _=_;rw[<- ZN,sY.o.1,sY.o.2];rfl
 rw[<- sY.o.2] at Er yY;rw[ZN];generalize outT S v ai (allT S (B1 (Z P)))=OT at *;generalize allT S (B1 (Z P))=AT at *;clear ZN sY;obtain⟨L,Lq⟩:∃L,bY fr v=L:=⟨_,rfl⟩;rw[Lq] at l8;rw[Lq];clear Lq;go_enter func207,ntmps207;go_wp2_with fail
 have az:da w (AC (AC w (yd #[J a (Z S) ca,J b (Z fr) cb,J t (Z P) ct] 177)) (yd #[J O 0 0,J O 0 0,J O 0 0] 177)):=by
  have h1:=(aw w.heap.size w).alloc (ak _) (yd #[J a (Z S) ca,J b (Z fr) cb,J t (Z P) ct] 177);exact h1.alloc h1.size _
 have Ad:cI (AC (AC w (yd #[J a (Z S) ca,J b (Z fr) cb,J t (Z P) ct] 177)) (yd #[J O 0 0,J O 0 0,J O 0 0] 177)) w.heap.size (J a (Z S) ca) (J b (Z fr) cb) (J t (Z P) ct):=(cI.at (w:=w) rfl _ _ _).alloc _;have ly:cI (AC (AC w (yd #[J a (Z S) ca,J b (Z fr) cb,J t (Z P) ct] 177)) (yd #[J O 0 0,J O 0 0,J O 0 0] 177)) (w.heap.size+1) (J O 0 0) (J O 0 0) (J O 0 0):=cI.at (w:=w.alloc (yd #[J a (Z S) ca,J b (Z fr) cb,J t (Z P) ct] 177)) aE _ _ _;have Ji:=Fa (l8.o _ az);clear l8;generalize (AC (AC w (yd #[J a (Z S) ca,J b (Z fr) cb,J t (Z P) ct] 177)) (yd #[J O 0 0,J O 0 0,J O 0 0] 177))=W0 at *;refine Ji.o.af ?_;rintro e B7 ⟨d,M,rfl,IK,Oo,ax⟩;have ch:=ly.lt;have lA:=(aw B7.heap.size B7).alloc (ak _) (yd #[J a (Z S) ca,J d (Z L) M,J O 0 0] 177);have kR:(AC B7 (yd #[J a (Z S) ca,J d (Z L) M,J O 0 0] 177)).heap.size=B7.heap.size+1:=aE
 have fN:=(az.trans (ax.af az.size)).trans (lA.af (aO az.size ax.size));have IZ:=(Ad.aa ax Ad.lt).alloc (yd #[J a (Z S) ca,J d (Z L) M,J O 0 0] 177);have yH:=(ly.aa ax ly.lt).alloc (yd #[J a (Z S) ca,J d (Z L) M,J O 0 0] 177);have rE:pR w (AC B7 (yd #[J a (Z S) ca,J d (Z L) M,J O 0 0] 177)) B7.heap.size (J a (Z S) ca) (J d (Z L) M) (J O 0 0) (J O 0 0) [] [] [] [] (AC B7 (yd #[J a (Z S) ca,J d (Z L) M,J O 0 0] 177)):=pR.start (cI.at (w:=B7) rfl (J a (Z S) ca) (J d (Z L) M) (J O 0 0));have O7:=IK.aa lA;have ck:=ax.size
 have bO:we (∀g an,d=I ⟨g,an,O⟩ ->L≠[] ->I g≠I B7.heap.size):=fun g an e b7 e2=>by
  obtain⟨g',o',e',iA,_⟩:=IK 0 (by cases hl:L with |nil=>exact absurd hl b7 |cons x l=>simp);rw[e] at e';cases e';cases e2;omega
 have rO:we (∀g an,d=I ⟨g,an,O⟩ ->L≠[] ->g≠w.heap.size+1):=fun g an e _ e2=>by
  have:=Oo.2 g an e;omega
 clear IK Oo ax az Ad ly lA Ji;have gj:=Fa fN;have Eu:=Fa IZ;have jI:=Fa yH;have rP:=Fa rE;have Jz:=Fa O7;have yC:=IZ.cells.2.2;clear fN IZ yH rE O7;go_wp2_with fail
 generalize (AC B7 (yd #[J a (Z S) ca,J d (Z L) M,J O 0 0] 177))=W4 at *;clear yC;go_loopw [8,19] (fun zv iv wr=>∃(i:Nat) (tv:wQ) (Q Q2:List (wQ×wQ)),i<=Z P/\iv=E yR i/\we (pR w W4 B7.heap.size (J a (Z S) ca) (J d (Z L) M) tv zv Q Q2 (T i) (B1 i) wr)) (fun _ iv _=>Z P - (intOf iv).toNat)
 case atStart=>exact⟨0,_,_,_,aX _,rfl,by rw[xN.o.1,xN.o.2];exact rP⟩
 case round=>
  obtain⟨i,tv,Q,Q2,hi,rfl,HM⟩:=hrel;have Du:=HM.o.fr.size;have HB:we (da w wr):=Pe gj.o HM.o.fr al al;have Qf:we (cI wr w.heap.size (J a (Z S) ca) (J b (Z fr) cb) (J t (Z P) ct)):=(HM.o.fr.block _ Eu.o.lt (fun e=>by have:=kg e;omega)).trans Eu.o;have tV:we (cI wr (w.heap.size+1) (J O 0 0) (J O 0 0) (J O 0 0)):=(HM.o.fr.block _ jI.o.lt (fun e=>by have:=kg e;omega)).trans jI.o;have a6:B7.heap.size<W4.heap.size:=al
  obtain⟨za,zc,rfl⟩:=yh HM.o.own2;by_cases aJ:i<Z P
  ·obtain⟨g,an,p,aW,rfl,hg,k0,k1,bm⟩:=HP.o i aJ;replace k0:=(HB.o.cell (p:=⟨g,_,O⟩) hg).trans k0;replace k1:=(HB.o.cell (p:=⟨g,_,O⟩) hg).trans k1;have bg:=Fa bm;have hA:=(aw wr.heap.size wr).alloc (ak _) (TC p aW);have dQ:=Fa (HB.o.trans (hA.af HB.o.size));(have Dm:(wr.alloc (TC p aW)).heap.size=wr.heap.size+1:=aE);have bt:=bh.at (w:=wr) rfl p aW;have b0:=bt.c0;have mP:=Fa (HM.o.under hA);obtain⟨ps,qs,pc,qc,rfl,rfl,Ds,_,_⟩:=bm;have HX:=Fa (uW.o i aJ ps pc _ (Ds.aa dQ.o));have bT:=Fa bt;have b3:=Fa (iw.o i aJ);have b4:=Fa (lF.o i aJ);have uI:=Ej.o i;clear Ds hA bt HM HB Qf tV;have bN:we (Below (wr.alloc (TC (J ps P[i].1.length pc) (J qs P[i].2.length qc))).heap.size (wr.alloc (TC (J ps P[i].1.length pc) (J qs P[i].2.length qc))) (wr.alloc (TC (J ps P[i].1.length pc) (J qs P[i].2.length qc)))):=aw _ _;generalize P[i]=A at *;generalize hdc:decide (v∈ag A.1)=dc at *;clear hdc;go_wp2_with fail
   refine HX.o.af ?_;rintro e w7 ⟨rfl,eR⟩;have pX:=Fa (mP.o.under eR);have EH:=Fa (bT.o.aa eR bT.o.lt);have cf:=EH.o.c0;have cg:=EH.o.c1;have B3:=(aw w7.heap.size w7).alloc (ak _) (TC (J ps A.1.length pc) (J qs A.2.length qc));have pW:=Fa (pX.o.under B3);have IU:=bh.at (w:=w7) rfl (J ps A.1.length pc) (J qs A.2.length qc);have bp:=Fa IU.c0;have bo:=Fa IU.c1;have GH:we (W4.heap.size<=(w7.alloc (TC (J ps A.1.length pc) (J qs A.2.length qc))).heap.size):=pW.o.fr.size;have cc:=pX.o.box.cells.2.2;clear eR B3 IU HX mP k0 k1 b0 bT dQ EH bN;cases dc with
   |true=>
    obtain⟨e1,e2⟩:=b3.o rfl
    have ay:∀(E3:wQ) (F:wA),F.ownsRow W4.heap.size 38 2 E3 (Z (B1 i)+1) (fS Q2++[J ps A.1.length pc,J qs A.2.length qc]) ->(w7.alloc (TC (J ps A.1.length pc) (J qs A.2.length qc))).grownBy F (Value.ownBlock (J za (Z (B1 i)) zc)) ->(E3.ownBlock=Value.ownBlock (J za (Z (B1 i)) zc)∨∀k,E3.ownBlock=I k ->(w7.alloc (TC (J ps A.1.length pc) (J qs A.2.length qc))).heap.size<=k) ->(∃a' c',E3=Value.slice a' (Z (B1 i)+1) c')/\pR w W4 B7.heap.size (J a (Z S) ca) (J d (Z L) M) tv E3 Q (Q2++[(J ps A.1.length pc,J qs A.2.length qc)]) (T (i+1)) (B1 (i+1)) F:=fun E3 F Y gX jo=>by
     have hM:=pW.o.push2 a6 bg.o Y gX jo;rw[<- e2, <- e1] at hM;exact⟨yh Y,hM⟩
    have HKEY:=Fa ay;clear ay e1 e2 cc;go_wp2_with (at_builtin;refine Re rfl _ _ rfl W4.heap.size (J za (Z (B1 i)) zc) (Z (B1 i)) (fS Q2) (J ps A.1.length pc) (J qs A.2.length qc) rfl pW.o.own2 w7.heap.size rfl bp.o bo.o (slv _ _ _) (slv _ _ _) al GH.o ?_;intro E3 F Y gX jo;obtain⟨⟨Bc,A9,rfl⟩,Af⟩:=HKEY.o E3 F Y gX jo;have rQ:=Fa Af;clear Af Y gX jo)
    go_roundw
    case rel=>exact⟨i+1,_,_,_,al,bd,rQ⟩
    case measure=>simp[intOf];omega
   |false=>
    obtain⟨e1,e2⟩:=b4.o rfl
    have ay:∀(X:wQ) (F:wA),F.ownsRow W4.heap.size 38 2 X (Z (T i)+1) (fS Q++[J ps A.1.length pc,J qs A.2.length qc]) ->(w7.alloc (TC (J ps A.1.length pc) (J qs A.2.length qc))).grownBy F tv.ownBlock ->(X.ownBlock=tv.ownBlock∨∀k,X.ownBlock=I k ->(w7.alloc (TC (J ps A.1.length pc) (J qs A.2.length qc))).heap.size<=k) ->(∃a' c',X=Value.slice a' (Z (T i)+1) c')/\pR w W4 B7.heap.size (J a (Z S) ca) (J d (Z L) M) X (J za (Z (B1 i)) zc) (Q++[(J ps A.1.length pc,J qs A.2.length qc)]) Q2 (T (i+1)) (B1 (i+1)) (AF F ⟨B7.heap.size,2,O⟩ X)/\F.cell? ⟨B7.heap.size,2,O⟩=I tv/\F.frozen? ⟨B7.heap.size,2,O⟩=false:=fun X F Y gX jo=>by
     obtain⟨hM,Gc⟩:=pW.o.push1 a6 bg.o Y gX jo;rw[<- e2, <- e1] at hM;rw[e2] at hM;exact⟨yh Y,by rw[e2];exact hM,Gc.cells.2.2,Gc.fz 2⟩
    have HKEY:=Fa ay;clear ay e1 e2;go_wp2_with (at_builtin;refine Re rfl _ _ rfl W4.heap.size tv (Z (T i)) (fS Q) (J ps A.1.length pc) (J qs A.2.length qc) rfl pW.o.own w7.heap.size rfl bp.o bo.o (slv _ _ _) (slv _ _ _) al GH.o ?_;intro X F Y gX jo;obtain⟨⟨Bc,A9,rfl⟩,Af,bJ,bA⟩:=HKEY.o X F Y gX jo;have rQ:=Fa Af;clear Af Y gX jo)
    go_roundw
    case rel=>exact⟨i+1,_,_,_,al,bd,rQ⟩
    case measure=>simp[intOf];omega
  ·obtain rfl:i=Z P:=al
   obtain⟨cq,cr,ez,bz⟩:=HM.o.row2 HB.o al;injection ez with ez1 ez2 ez3;subst ez1 ez3;clear ez2;have jW:=Fa (HM.o.plm HB.o al);have bk:=Fa bz;have uI:=(Ej.o (Z P)).1;clear bz HM rP iw lF Ej uW;(have b6:Z (T (Z P))+1=Z OP:=by rw[Jq.o,cD];rfl);go_upto_region 10 with (go_quiet (fail))
   have Ai:da wr wr.drew:=(aw wr.heap.size wr).drew;have B2:we (da w wr.drew):=HB.o.drew;have Mh:we (cI wr.drew w.heap.size (J a (Z S) ca) (J b (Z fr) cb) (J t (Z P) ct)):=Qf.o;have aZ:=Fa (jW.o.under Ai);have av:=Fa (bk.o.aa Ai);have Iy:W4.heap.size<=wr.drew.heap.size:=Du;clear jW bk HB Qf tV Ai Du;obtain⟨H,DN⟩:∃H,wr.drew=H:=⟨_,rfl⟩;rw[DN] at B2 Mh aZ av Iy;have uQ:we (∀U:wA,da H U ->AJ U ⟨w.heap.size,0,O⟩=I (J a (Z S) ca)):=fun U hU=>(Mh.o.aa hU Mh.o.lt).cells.1;have f:we (da H H):=aw _ _;refine iD (S:=fun U=>AJ U ⟨w.heap.size,0,O⟩=I (J a (Z S) ca)) ao (by rw[DN];exact uQ.o _ f.o) (fun u=>?_);rw[DN] at u⊢;clear DN;refine au 0 (zZ (I ⟨w.heap.size,0,O⟩)) ?_;refine au 1 (J a (Z S) ca) ?_;refine au 2 (zZ (I ⟨w.heap.size,0,O⟩)) ?_;refine au 3 (J a (Z S) ca) ?_;refine au 4 (J za (Z (B1 (Z P))) zc) ?_;refine au 6 (E yR (v:Nat)) ?_;refine au 7 (zd ai) ?_;refine aG [5,12] (cA ?_ (cA ?_ aH))
   focus
    intro B6 K;go_simp;refine(Er.o za zc H B2.o av.o).af ?_;rintro e u1 ⟨x1,y1,rfl,pA,aj⟩;replace B2:=Fa (B2.o.trans (aj.af B2.o.size));replace f:=Fa (f.o.trans (aj.af f.o.size));have Gy:=Fa pA;refine K.o _ _ (uQ.o u1 f.o) (fun r=>?_);clear aj pA K B6 u;have u:=r;clear r;refine aG [8,12] (cA ?_ (cA ?_ aH))
    focus
     intro B6 K;go_simp;refine(yY.o x1 y1 u1 B2.o Gy.o).af ?_;rintro e u2 ⟨⟨x2,y2,rfl,ad,iX⟩,ae⟩;have rN:we (∀R,R<H.heap.size ->iC R OT (x2,y2)):=fun R hR=>iX R (aT hR f.o.size);replace B2:=Fa (B2.o.trans (ae.af B2.o.size));replace f:=Fa (f.o.trans (ae.af f.o.size));have qY:=Fa ad;obtain⟨xs,n,m,rfl⟩:=ad.slices.1;obtain⟨s,q,o,rfl⟩:=ad.slices.2;refine K.o _ _ (uQ.o u2 f.o) (fun r=>?_);clear ae ad iX K B6 u;have u:=r;clear r;refine au 9 (zz #[zp #[J xs n m,J s q o],E yR 0]) ?_;refine au 10 (zp #[J xs n m,J s q o]) ?_;refine au 11 (E yR 0) ?_;refine aG [12] (cA ?_ aH);intro B6 K;go_simp;have nN:=(aw _ u2).alloc (ak _) (TC (J O 0 0) (J O 0 0));replace B2:=Fa (B2.o.trans (nN.af B2.o.size));have cR:H.heap.size<=u2.heap.size:=f.o.size;replace f:=Fa (f.o.trans (nN.af f.o.size));have B9:=Fa (bh.at (w:=u2) rfl (J O 0 0) (J O 0 0));(have oN:u2.heap.size<(u2.alloc (TC (J O 0 0) (J O 0 0))).heap.size:=aE);have yZ:we (iC u2.heap.size OT (J xs n m,J s q o)):=qY.o.lt (ak _);replace qY:=Fa (qY.o.aa nN);refine K.o _ _ (uQ.o _ f.o) (fun r=>?_);clear nN K B6 u;have u:=r;clear r;obtain⟨z,ab⟩:∃z,u2.heap.size=z:=⟨_,rfl⟩;obtain⟨u3,V⟩:∃u3,u2.alloc (TC (J O 0 0) (J O 0 0))=u3:=⟨_,rfl⟩;have FB:AC u2 (yd #[J O 0 0,J O 0 0] 38)=u3:=V;(have F5:H.heap.size<=z:=al)
     (have F3:z<u3.heap.size:=by rw[<- ab, <- V];exact oN);rw[ab,V] at B9;clear cR oN;have cR:=F5;have oN:=F3;clear F5 F3;rw[ab] at yZ;rw[V] at qY;rw[V] at f B2;simp only[FB] at u⊢;simp only[ab];clear V FB ab;(try simp only[gE,aP]);obtain⟨b0,b1,D6,DZ⟩:=B9.o.facts;refine aG [13] (cA ?_ aH);intro B6 K;go_simp;have yS:=Fa (B9.o.put (J xs n m) (J s q o));have Vy:=Fa (rG B2.o (aO al cR) (J xs n m) (J s q o));have GD:=Fa (rG f.o cR (J xs n m) (J s q o));have Eh:=Fa ((qY.o.off (g:=z) (j:=0) (J xs n m) yZ.o).off (g:=z) (j:=1) (J s q o) yZ.o);refine K.o _ _ (uQ.o _ GD.o) (fun r=>?_);clear b0 b1 D6 DZ B9 B2 f qY yZ K B6 u;have u:=r;clear r;refine au 14 (E yR 0) ?_;(try simp only[gE,aP]);refine eV ao ?_ _;clear u;obtain⟨u4,yw⟩:∃u4,(AF (AF u3 ⟨z,0,O⟩ (J xs n m)) ⟨z,1,O⟩ (J s q o))=u4:=⟨_,rfl⟩
    rotate_left
    focus
     intro B6 K;go_simp;have nN:=(aw _ u1).alloc (ak _) (TC (J O 0 0) (J O 0 0));replace B2:=Fa (B2.o.trans (nN.af B2.o.size));have cR:H.heap.size<=u1.heap.size:=f.o.size;replace f:=Fa (f.o.trans (nN.af f.o.size));have B9:=Fa (bh.at (w:=u1) rfl (J O 0 0) (J O 0 0));(have oN:u1.heap.size<(u1.alloc (TC (J O 0 0) (J O 0 0))).heap.size:=aE);replace Gy:=Fa (Gy.o.aa nN);refine K.o _ _ (uQ.o _ f.o) (fun r=>?_);clear nN K B6 u;have u:=r;clear r;obtain⟨z,ab⟩:∃z,u1.heap.size=z:=⟨_,rfl⟩;obtain⟨u3,V⟩:∃u3,u1.alloc (TC (J O 0 0) (J O 0 0))=u3:=⟨_,rfl⟩;have FB:AC u1 (yd #[J O 0 0,J O 0 0] 38)=u3:=V;(have F5:H.heap.size<=z:=al);(have F3:z<u3.heap.size:=by rw[<- ab, <- V];exact oN);rw[ab,V] at B9;clear cR oN;have cR:=F5;have oN:=F3;clear F5 F3;rw[V] at Gy;rw[V] at f B2;simp only[FB] at u⊢;simp only[ab];clear V FB ab;refine aG [8] (cA ?_ aH);intro B6 K;go_simp;refine(yY.o x1 y1 u3 B2.o Gy.o).af ?_;rintro e u2 ⟨⟨x2,y2,rfl,ad,iX⟩,ae⟩;have rN:we (∀R,R<H.heap.size ->iC R OT (x2,y2)):=fun R hR=>iX R (aT hR f.o.size);have yZ:we (iC z OT (x2,y2)):=iX _ oN;replace B9:=Fa (B9.o.aa ae B9.o.lt);replace B2:=Fa (B2.o.trans (ae.af B2.o.size));replace f:=Fa (f.o.trans (ae.af f.o.size));have qY:=Fa ad;obtain⟨xs,n,m,rfl⟩:=ad.slices.1;obtain⟨s,q,o,rfl⟩:=ad.slices.2;refine K.o _ _ (uQ.o u2 f.o) (fun r=>?_);clear ae ad iX K B6 u
     have u:=r;clear r;refine au 9 (zz #[zp #[J xs n m,J s q o],E yR 0]) ?_;refine au 10 (zp #[J xs n m,J s q o]) ?_;refine au 11 (E yR 0) ?_;(try simp only[gE,aP]);obtain⟨b0,b1,D6,DZ⟩:=B9.o.facts;refine aG [13] (cA ?_ aH);intro B6 K;go_simp;have yS:=Fa (B9.o.put (J xs n m) (J s q o));have Vy:=Fa (rG B2.o (aO al cR) (J xs n m) (J s q o));have GD:=Fa (rG f.o cR (J xs n m) (J s q o));have Eh:=Fa ((qY.o.off (g:=z) (j:=0) (J xs n m) yZ.o).off (g:=z) (j:=1) (J s q o) yZ.o);refine K.o _ _ (uQ.o _ GD.o) (fun r=>?_);clear b0 b1 D6 DZ B9 B2 f qY yZ K B6 u;have u:=r;clear r;refine au 14 (E yR 0) ?_;(try simp only[gE,aP]);refine eV ao ?_ _;clear u;obtain⟨u4,yw⟩:∃u4,(AF (AF u2 ⟨z,0,O⟩ (J xs n m)) ⟨z,1,O⟩ (J s q o))=u4:=⟨_,rfl⟩
   rotate_left 2
   focus
    intro B6 K;go_simp;have nN:=(aw _ H).alloc (ak _) (TC (J O 0 0) (J O 0 0));replace B2:=Fa (B2.o.trans (nN.af B2.o.size));have cR:H.heap.size<=H.heap.size:=f.o.size;replace f:=Fa (f.o.trans (nN.af f.o.size));have B9:=Fa (bh.at (w:=H) rfl (J O 0 0) (J O 0 0));(have oN:H.heap.size<(H.alloc (TC (J O 0 0) (J O 0 0))).heap.size:=aE);replace av:=Fa (av.o.aa nN);refine K.o _ _ (uQ.o _ f.o) (fun r=>?_);clear nN K B6 u;have u:=r;clear r;obtain⟨z,ab⟩:∃z,H.heap.size=z:=⟨_,rfl⟩;obtain⟨u3,V⟩:∃u3,H.alloc (TC (J O 0 0) (J O 0 0))=u3:=⟨_,rfl⟩;have FB:AC H (yd #[J O 0 0,J O 0 0] 38)=u3:=V;(have F5:H.heap.size<=z:=al);(have F3:z<u3.heap.size:=by rw[<- ab, <- V];exact oN);rw[ab,V] at B9;clear cR oN;have cR:=F5;have oN:=F3;clear F5 F3;rw[V] at av;rw[V] at f B2;simp only[FB] at u⊢;simp only[ab];clear V FB ab;refine aG [5] (cA ?_ aH);intro B6 K;go_simp;refine(Er.o za zc u3 B2.o av.o).af ?_;rintro e u1 ⟨x1,y1,rfl,pA,aj⟩;replace B2:=Fa (B2.o.trans (aj.af B2.o.size));replace f:=Fa (f.o.trans (aj.af f.o.size));replace B9:=Fa (B9.o.aa aj B9.o.lt);have Gy:=Fa pA;refine K.o _ _ (uQ.o u1 f.o) (fun r=>?_);clear aj pA K B6 u;have u:=r;clear r;have b2:z<u1.heap.size:=B9.o.lt;refine aG [8] (cA ?_ aH);intro B6 K;go_simp;refine(yY.o x1 y1 u1 B2.o Gy.o).af ?_;rintro e u2 ⟨⟨x2,y2,rfl,ad,iX⟩,ae⟩
    have rN:we (∀R,R<H.heap.size ->iC R OT (x2,y2)):=fun R hR=>iX R (aT hR f.o.size);have yZ:we (iC z OT (x2,y2)):=iX _ b2;replace B9:=Fa (B9.o.aa ae B9.o.lt);replace B2:=Fa (B2.o.trans (ae.af B2.o.size));replace f:=Fa (f.o.trans (ae.af f.o.size));have qY:=Fa ad;obtain⟨xs,n,m,rfl⟩:=ad.slices.1;obtain⟨s,q,o,rfl⟩:=ad.slices.2;refine K.o _ _ (uQ.o u2 f.o) (fun r=>?_);clear ae ad iX K B6 u;have u:=r;clear r;refine au 9 (zz #[zp #[J xs n m,J s q o],E yR 0]) ?_;refine au 10 (zp #[J xs n m,J s q o]) ?_;refine au 11 (E yR 0) ?_;(try simp only[gE,aP]);obtain⟨b0,b1,D6,DZ⟩:=B9.o.facts;refine aG [13] (cA ?_ aH);intro B6 K;go_simp;have yS:=Fa (B9.o.put (J xs n m) (J s q o));have Vy:=Fa (rG B2.o (aO al cR) (J xs n m) (J s q o));have GD:=Fa (rG f.o cR (J xs n m) (J s q o));have Eh:=Fa ((qY.o.off (g:=z) (j:=0) (J xs n m) yZ.o).off (g:=z) (j:=1) (J s q o) yZ.o);refine K.o _ _ (uQ.o _ GD.o) (fun r=>?_);clear b0 b1 D6 DZ B9 B2 f qY yZ K B6 u;have u:=r;clear r;refine au 14 (E yR 0) ?_;(try simp only[gE,aP]);refine eV ao ?_ _;clear u;obtain⟨u4,yw⟩:∃u4,(AF (AF u2 ⟨z,0,O⟩ (J xs n m)) ⟨z,1,O⟩ (J s q o))=u4:=⟨_,rfl⟩
   all_goals
    rw[yw] at yS Vy GD Eh⊢;clear yw;have a1:=Fa (aZ.o.under GD.o);have yK:=(aw u4.heap.size u4).alloc (ak _) (TC (J xs n m) (J s q o));have mh:=Fa (a1.o.under yK);have UM:=Fa (Eh.o.aa yK);have Zm:=bh.at (w:=u4) rfl (J xs n m) (J s q o);have bs:=Fa Zm.c0;have br:=Fa Zm.c1;have El:we (W4.heap.size<=(u4.alloc (TC (J xs n m) (J s q o))).heap.size):=mh.o.fr.size;have b8:=a1.o.box.cells.2.2;have g0:=yS.o.c0;have b5:=yS.o.c1;have bf:we (∀R,tv.ownBlock=I R ->iC R OT ((J xs n m),(J s q o))):=fun R hR=>rN.o R (aZ.o.own.lt R hR).2;clear yK Zm yS GD Eh
    have HKEY:we (∀(X:wQ) (F:wA),F.ownsRow W4.heap.size 38 2 X (Z (T (Z P))+1) (fS Q++[(J xs n m),(J s q o)]) ->(u4.alloc (TC (J xs n m) (J s q o))).grownBy F tv.ownBlock ->(X.ownBlock=tv.ownBlock∨∀k,X.ownBlock=I k ->(u4.alloc (TC (J xs n m) (J s q o))).heap.size<=k) ->(∃a' c',X=Value.slice a' (Z OP) c')/\vW w.heap.size W4 B7.heap.size (J a (Z S) ca) (J d (Z L) M) X (Q++[((J xs n m),(J s q o))]) OP (AF F ⟨B7.heap.size,2,O⟩ X)/\F.cell? ⟨B7.heap.size,2,O⟩=I tv/\F.frozen? ⟨B7.heap.size,2,O⟩=x3):=fun X F Y gX jo=>by
     have hM:=mh.o.push al a6 UM.o bf.o (fun R _ hR=>rN.o R al) Y gX jo;rw[<- Jq.o] at hM;have Gc:cI F B7.heap.size (J a (Z S) ca) (J d (Z L) M) tv:=(gX.block _ mh.o.box.lt (fun e=>by have:=(mh.o.own.lt _ e.symm).1;omega)).trans mh.o.box;exact⟨by rw[<- b6];exact yh Y,hM,Gc.cells.2.2,Gc.fz 2⟩
    go_upto_region 12 with (at_builtin;refine Re rfl _ _ rfl W4.heap.size tv (Z (T (Z P))) (fS Q) (J xs n m) (J s q o) rfl mh.o.own.own u4.heap.size rfl bs.o br.o (slv _ _ _) (slv _ _ _) al El.o ?_;intro X F Y gX jo;obtain⟨⟨Bc,A9,rfl⟩,Af,bJ,bA⟩:=HKEY.o X F Y gX jo;have rQ:=Fa Af;clear Af Y gX jo)
    obtain⟨VV,bu⟩:∃VV,AF F ⟨B7.heap.size,2,O⟩ (J Bc (Z OP) A9)=VV:=⟨_,rfl⟩;rw[bu] at rQ⊢;clear bu bJ bA b8 g0 b5 HKEY bf El bs br UM mh a1 rN Gy Vy;have Du:=rQ.o.fr.size;have y9:we (da w VV):=Pe gj.o rQ.o.fr al al;have En:we (cI VV (w.heap.size+1) (J O 0 0) (J O 0 0) (J O 0 0)):=(rQ.o.fr.block _ jI.o.lt (fun e=>by have:=kg e;omega)).trans jI.o;have O6:aC VV d L:=NY Jz.o bO.o rQ.o.fr;obtain⟨x0,cn,cp⟩:=rQ.o.box.cells;obtain⟨r0,r1,r2⟩:=En.o.cells;have RI:=En.o.fz 0;have RH:=En.o.fz 1;have RG:=En.o.fz 2;have Ep:=Fa (En.o.put (J a (Z S) ca) (J d (Z L) M) (J Bc (Z OP) A9));have wC:=Fa (eJ y9.o (show w.heap.size<=w.heap.size+1 by omega) (J a (Z S) ca) (J d (Z L) M) (J Bc (Z OP) A9))
    have jJ:Value.ownBlock (J Bc (Z OP) A9)≠I (w.heap.size+1):=fun e=>by
     have:=(rQ.o.own.lt _ e).1;omega
    have F9:=((rQ.o.own.off (g:=w.heap.size+1) (j:=0) (J a (Z S) ca) (rQ.o.far _ al al) jJ).off (g:=w.heap.size+1) (j:=1) (J d (Z L) M) (rQ.o.far _ al al) jJ).off (g:=w.heap.size+1) (j:=2) (J Bc (Z OP) A9) (rQ.o.far _ al al) jJ;obtain⟨cl,cm,e2,FD⟩:=F9.row;injection e2 with e3 e4 e5;subst e3 e5;clear e4;have tP:=Fa FD;have Cz:=Fa (((O6.off (g:=w.heap.size+1) (j:=0) (y:=J a (Z S) ca) rO.o).off (g:=w.heap.size+1) (j:=1) (y:=J d (Z L) M) rO.o).off (g:=w.heap.size+1) (j:=2) (y:=J Bc (Z OP) A9) rO.o);have dO:=Fa ((Xm rQ.o.own.own).up (show w.heap.size<=W4.heap.size by omega));clear F9 FD O6 jJ;go_wp2;refine cN (Ep.o.result1 rfl _ rfl) rfl ?_;exact⟨d,M,Bc,A9,rfl,Cz.o,tP.o,dO.o,wC.o⟩
variable {l:Kx} {g j:Nat} {a:Kd} {y z:wQ}
theorem adN {V:wA} {o:Nat} {x u:wQ} (b:cI V g x y z) (h:bW x) (a:bW y) (d:bW z) (c:AJ V ⟨g,o,O⟩=I u):bW u:=by
 rw[a8 V g o _ _ (0,0) b] at c;match o,c with
 |0,c=>cases c;exact h
 |1,c=>cases c;exact a
 |2,c=>cases c;exact d
 |o+3,c=>simp at c
theorem afE {V:wA} {b:Kd} {x:wQ} (h:aC V b l) (f:cI V g x y z) (j:bW x) (k:bW y) (m:bW z):∀g' o',b=I ⟨g',o',O⟩ ->l≠[] ->g'≠g:=fun g' o' e n c=>by
 obtain⟨o,p,a,_,i⟩:=h 0 (by cases hl:l with |nil=>exact absurd hl n |cons x l=>simp);rw[e] at a;cases a;subst c;obtain⟨_,_,_,d⟩:=adN f j k m i;cases d
theorem ary {V:wA} {b:Kd} {l:List Fr} {x:wQ} (h:dE V b l) (f:cI V g x y z) (j:bW x) (k:bW y) (m:bW z):∀g' o',b=I ⟨g',o',O⟩ ->l≠[] ->g'≠g:=fun g' o' e n c=>by
 obtain⟨o,p,a,_,i,_⟩:=h 0 (by cases hl:l with |nil=>exact absurd hl n |cons x l=>simp);rw[e] at a;cases a;subst c;obtain⟨_,_,_,d⟩:=adN f j k m i;cases d
theorem Ws {V:wA} {t:Tb} {p q:wQ} {x:wQ} (h:bL V p q t) (d:cI V g x y z) (f:bW x) (i:bW y) (j:bW z):iC g t (p,q):=by
 obtain⟨b,c,cb,cc,rfl,rfl,l,m,o⟩:=h;exact⟨fun g' o' n k e a=>by injection e with e1 _ _;exact afE l d f i j g' o' e1 a,fun g' o' n k e a=>by injection e with e1 _ _;exact ary m d f i j g' o' e1 a⟩
theorem jt.offP {V:wA} {P:List Tb} (u:wQ) (h:jt V a P) (n:∀g' o',a=I ⟨g',o',O⟩ ->g'≠g) (t:∀k (b:k<Z P) p q,bL V p q P[k] ->iC g P[k] (p,q)):jt (AF V ⟨g,j,O⟩ u) a P:=fun k b=>by
 obtain⟨g',o,p,q,e,l,f,i,c⟩:=h k b;have d:(AF V ⟨g,j,O⟩ u).heap[g']? =V.heap[g']?:=eO V ⟨g,j,O⟩ u g' (n g' o e);exact⟨g',o,p,q,e,aT l (kh V _ _).size,(iE (a:=⟨g',_,O⟩) d).trans f,(iE (a:=⟨g',_,O⟩) d).trans i,c.off u (t k b p q c)⟩
theorem jt.putP {V:wA} {P:List Tb} {x:wQ} (h:jt V a P) (b:cI V g x y z) (i:bW x) (e:bW y) (c:bW z) (n:∀g' o',a=I ⟨g',o',O⟩ ->g'≠g) {u v:wQ} (d:bW u) (f:bW v) (s:wQ):jt (AF (AF (AF V ⟨g,0,O⟩ u) ⟨g,1,O⟩ v) ⟨g,2,O⟩ s) a P:=
 ((h.offP u n fun _ _ _ _ t=>Ws t b i e c).offP v n fun _ _ _ _ t=>Ws t (b.set0 u) d e c).offP s n fun _ _ _ _ t=>Ws t ((b.set0 u).set1 v) d f c
theorem aC.putP {V:wA} {x:wQ} (h:aC V a l) (b:cI V g x y z) (c:bW x) (d:bW y) (e:bW z) (u v s:wQ):aC (AF (AF (AF V ⟨g,0,O⟩ u) ⟨g,1,O⟩ v) ⟨g,2,O⟩ s) a l:=by
 have n:=afE h b c d e;exact((h.off n).off n).off n
theorem amY (a b t q:Kd) (ca cb l cq:Nat) (S:Jp) (f Fd:Kx) (P:List Tb) (D:Nat) (c:Nat ->Nat) (ad:Bool) (j:Nat ->List Tb) (F:Nat ->Kx) (w:wA) (aR:fJ (iL S)) (hs:aC w a (iL S)) (hb:aC w b f) (hP:jt w t P) (hq:aC w q Fd) (fg:Z Fd<=1000)
  (h0:j 0=P/\F 0=f) (hk:∀i (h:i<Z f),Fd.contains f[i]=xq ->j (i+1)=j i/\F (i+1)=F i)
  (ho:∀i (h:i<Z f),Fd.contains f[i]=x3 ->∃v:Nat,f[i]=(v:Int)/\j (i+1)=nj S v ad (j i)/\F (i+1)=bY (F i) v/\v<Z S/\∃t∈j i,v∈ag t.1)
  (lu:∀i,i<=Z f ->ir S (Z S) (j i) D (c i)/\(j i).length<=999/\(F i).length<=1000/\2*(B D).size+(B (c i)).size+2<=8192):
  c6 152 #[zp #[J a (Z S) ca,J b (Z f) cb,J t (Z P) l],J q (Z Fd) cq,zd ad] w fun e w'=>∃x y,e=yk (zp #[x,y])/\bL w' x y (allT S (j (Z f)))/\da w w':=by
 have Er:we (∀(k:Kd) (B2:Nat) (U:wA),da w U ->jt U k (j (Z f)) ->c6 208 #[J a (Z S) ca,J k (Z (j (Z f))) B2] U fun e w'=>∃x y,e=yk (zp #[x,y])/\bL w' x y (allT S (j (Z f)))/\da U w'):=fun k B2 U K h=>by
  obtain⟨z,h2,_,h4⟩:=lu (Z f) (ak _);exact adA a k ca B2 S _ D _ U aR (hs.aa K) h z al h4
 have uW:we (∀(x:Int) (U:wA),da w U ->c6 98 #[J q (Z Fd) cq,E yR x] U fun e w'=>e=yk (zd (Fd.contains x))/\da U w'):=fun x U K=>Kp q cq Fd x U (hq.aa K) al
 have Ev:we (∀(i:Nat) (h:i<Z f),Fd.contains f[i]=x3 ->∀(m k:Kd) (T B2:Nat) (U:wA),da w U ->aC U m (F i) ->jt U k (j i) ->c6 207 #[zp #[J a (Z S) ca,J m (Z (F i)) T,J k (Z (j i)) B2],E yR f[i],zd ad] U fun e w'=>∃d r k B2,e=yk (zp #[J a (Z S) ca,J d (Z (F (i+1))) r,J k (Z (j (i+1))) B2])/\aC w' d (F (i+1))/\jt w' k (j (i+1))/\jb U.heap.size k B2/\da U w'):=fun i h hc m k T B2 U K z h2=>by
  obtain⟨v,Y,e2,e3,e4,e5⟩:=ho i h hc;obtain⟨g1,g2,g3,g4⟩:=lu i al;rw[Y,e2,e3];exact amW a m k ca T B2 S (F i) (j i) D (c i) v ad U aR (hs.aa K) z h2 g1 g2 g3 g4 e4 e5
 have HK:=Fa hk;have kV:Z f<=1000:=by have:=(lu 0 (aX _)).2.2.1;rwa [h0.2] at this
 have an:=Fa hb;obtain⟨e0,X⟩:=h0;have H0:we (cI ((AC w (yd #[J a (Z S) ca,J b (Z f) cb,J t (Z P) l] 177)).alloc (TC (J O 0 0) (J O 0 0))) w.heap.size (J a (Z S) ca) (J b (Z (F 0)) cb) (J t (Z (j 0)) l)):=by rw[e0,X];exact(cI.at (w:=w) rfl _ _ _).alloc _
 have hA:da w ((AC w (yd #[J a (Z S) ca,J b (Z f) cb,J t (Z P) l] 177)).alloc (TC (J O 0 0) (J O 0 0))):=by
  have z:=(aw w.heap.size w).alloc (ak _) (yd #[J a (Z S) ca,J b (Z f) cb,J t (Z P) l] 177);exact z.alloc z.size _
 have JA:we (aC ((AC w (yd #[J a (Z S) ca,J b (Z f) cb,J t (Z P) l] 177)).alloc (TC (J O 0 0) (J O 0 0))) b (F 0)):=by rw[X];exact hb.aa hA
 have xN:we (jt ((AC w (yd #[J a (Z S) ca,J b (Z f) cb,J t (Z P) l] 177)).alloc (TC (J O 0 0) (J O 0 0))) t (j 0)):=by rw[e0];exact hP.aa hA
 have nV:we (bh ((AC w (yd #[J a (Z S) ca,J b (Z f) cb,J t (Z P) l] 177)).alloc (TC (J O 0 0) (J O 0 0))) (w.heap.size+1) (J O 0 0) (J O 0 0)):=bh.at (w:=w.alloc (yd #[J a (Z S) ca,J b (Z f) cb,J t (Z P) l] 177)) aE _ _;have HA:=Fa hA;have aj:=H0.o.cells.2.1;rw[X] at aj;clear hs hb hP hq hk ho lu aR hA e0 X;go_enter func152,ntmps152;go_wp2_with fail
 generalize ((AC w (yd #[J a (Z S) ca,J b (Z f) cb,J t (Z P) l] 177)).alloc (TC (J O 0 0) (J O 0 0)))=W0 at *;clear aj;go_loopw [12] (fun iv wr=>∃(i:Nat) (m k:Kd) (T B2:Nat),i<=Z f/\iv=E yR i/\we (cI wr w.heap.size (J a (Z S) ca) (J m (Z (F i)) T) (J k (Z (j i)) B2))/\we (aC wr m (F i))/\we (jt wr k (j i))/\we (bh wr (w.heap.size+1) (J O 0 0) (J O 0 0))/\we (da w wr)) (fun iv _=>Z f - (intOf iv).toNat)
 case atStart=>exact⟨0,_,_,_,_,aX _,rfl,H0,JA,xN,nV,HA⟩
 case round=>
  obtain⟨i,m,k,T,B2,hi,rfl,u,HI,HT,R,H⟩:=hrel;clear H0 JA xN nV HA;obtain⟨L,M,Q⟩:=u.o.cells;have RX:=u.o.fz 0;have RV:=u.o.fz 1;have RU:=u.o.fz 2;by_cases ae:i<Z f
  ·obtain⟨g,aq,rfl,hg,k0⟩:=an.o i ae;replace k0:=(H.o.cell (p:=⟨g,_,O⟩) hg).trans k0;have HC:=Fa (uW.o f[i]);have ai:=Fa (HK.o i ae);have U4:=Fa (Ev.o i ae);generalize f[i]=x at *;generalize vH:Fd.contains x=cx at *;clear vH;go_wp2_with fail
   refine(HC.o wr H.o).af ?_;rintro e w2 ⟨rfl,A⟩;have B1:=Fa (H.o.trans (A.af H.o.size));have B6:=Fa (u.o.aa A u.o.lt);have AH:=Fa (HI.o.aa A);have vZ:=Fa (HT.o.aa A);have eD:=Fa (R.o.aa A R.o.lt);clear A u HI HT R H L M Q RX RV RU;obtain⟨L,M,Q⟩:=B6.o.cells;have ar:=B6.o.lt;cases cx with
   |true=>
    obtain⟨Y,e2⟩:=ai.o rfl;rw[<- Y] at vZ B6;rw[<- e2] at AH B6;clear Y e2;have HX:=Fa (And.intro B6.o (And.intro AH.o vZ.o));go_wp2;go_roundw
    case rel=>exact⟨i+1,_,_,_,_,al,bd,HX.o.1,HX.o.2.1,HX.o.2.2,eD,B1⟩
    case measure=>simp[intOf];omega
   |false=>
    have Ey:=Fa (U4.o rfl m k T B2 w2 B1.o AH.o vZ.o);clear U4 ai;go_wp2_with fail
    refine Ey.o.af ?_;rintro e w3 ⟨d,r,V,B9,rfl,zS,yA,vE,o⟩;have n:=B6.o.aa o B6.o.lt;have s:=eD.o.aa o eD.o.lt;have B7:=B1.o.trans (o.af B1.o.size);clear L M Q;obtain⟨L,M,Q⟩:=n.cells;have RX:=n.fz 0;have RV:=n.fz 1;have RU:=n.fz 2;have Mj:=Fa (n.put (J a (Z S) ca) (J d (Z (F (i+1))) r) (J V (Z (j (i+1))) B9));have Jy:=Fa (zS.putP n (slv _ _ _) (slv _ _ _) (slv _ _ _) (J a (Z S) ca) (J d (Z (F (i+1))) r) (J V (Z (j (i+1))) B9));have Cl:=Fa (yA.putP n (slv _ _ _) (slv _ _ _) (slv _ _ _) (fun g' o' e=>by have:=vE.2 g' o' e;omega) (slv a (Z S) ca) (slv d (Z (F (i+1))) r) (J V (Z (j (i+1))) B9));have uR:=Fa (((s.off w.heap.size 0 (J a (Z S) ca) al).off w.heap.size 1 (J d (Z (F (i+1))) r) al).off w.heap.size 2 (J V (Z (j (i+1))) B9) al);have fh:=Fa (eJ B7 (ak _) (J a (Z S) ca) (J d (Z (F (i+1))) r) (J V (Z (j (i+1))) B9));clear zS yA vE o n s B7;go_wp2;go_roundw
    case rel=>exact⟨i+1,_,_,_,_,al,bd,Mj,Jy,Cl,uR,fh⟩
    case measure=>simp[intOf];omega
  ·obtain rfl:i=Z f:=al
   have ao:=Fa (Er.o k B2 wr H.o HT.o);go_wp2_with fail
   refine ao.o.af ?_;rintro e w3 ⟨x,y,rfl,ab,o⟩;obtain⟨xs,xn,xc,rfl⟩:=ab.slices.1;obtain⟨ys,yn,yc,rfl⟩:=ab.slices.2;have s:=R.o.aa o R.o.lt;have B7:=H.o.trans (o.af H.o.size);obtain⟨t0,t1,f0,f1⟩:=s.facts;have Eu:=Fa (s.put (J xs xn xc) (J ys yn yc));have Eh:=Fa (ab.putT s (slv _ _ _) (slv _ _ _) (slv xs xn xc) (J ys yn yc));have gj:=Fa (rG (g:=w.heap.size+1) B7 al (J xs xn xc) (J ys yn yc));clear ab o s B7 L M Q RX RV RU;go_wp2;refine cN (Eu.o.result1 rfl _ rfl) rfl ?_;exact⟨_,_,rfl,Eh.o,gj.o⟩
variable {S vs:Jp} {n v:Nat}
def kn (S:Jp):Jp ->Nat
 |[]=>1
 |v::vs=>sz S v*kn S vs
theorem acj (h:Pos S):∀l,1<=kn S l
 |[]=>ak _
 |v::l=>MH (jM h v) (acj h l)
theorem aci (h:Pos S):∀(l:Jp) (k:Nat),kn S (l.take k)<=kn S l
 |[],k=>by rw[List.take_nil];exact ak _
 |v::l,0=>acj h _
 |v::l,k+1=>mW _ (aci h l k)
theorem ir.outs (p:Pos S) (m:Bool) (e:Nat ->Bool):∀(vs:Jp) {P:List Tb} {D c:Nat},ir S n P D c ->∃d,ir S n (ll S m e vs P) D d/\d<=kn S vs*c
 |[],P,D,c,h=>⟨c,h,by rw[kn,lK];exact ak _⟩
 |v::vs,P,D,c,h=>by
  have g:=jM p v;have f:kn S vs*c<=kn S (v::vs)*c:=mn _ (ES _ g);rw[ll];cases hk:e v with
  |true=>
   obtain⟨d,a,b⟩:=ir.outs p m e vs h;exact⟨d,by rw[aA rfl];exact a,aO b f⟩
  |false=>
   cases m with
   |true=>
    obtain⟨d,a,b⟩:=ir.outs p xq e vs (h.most p v);exact⟨d,by rw[aD a6];exact a,aO b f⟩
   |false=>
    obtain⟨d,a,b⟩:=ir.outs p x3 e vs (h.o p v);refine⟨d,by rw[aD a6];exact a,aO b (Nat.le_of_eq ?_)⟩;show kn S vs*(sz S v*c)=sz S v*kn S vs*c;rw[<- ju,eN (kn S vs)]
theorem Xn (S:Jp) (m:Bool) (e:Nat ->Bool) (v:Nat):∀(vs:Jp) (P:List Tb),ll S m e (vs++[v]) P=if e v then ll S m e vs P else nj S v m (ll S m e vs P)
 |[],P=>rfl
 |u::vs,P=>by rw[gC,ll,ll,Xn S m e v vs]
theorem ad6 (S:Jp) (m:Bool) (e:Nat ->Bool):∀(vs:Jp) (P:List Tb),Z (ll S m e vs P)<=Z P+Z vs
 |[],P=>ak _
 |v::vs,P=>by
  rw[ll];refine aO (ad6 S m e vs _) ?_
  have:Z (nj S v m P)<=Z P+1:=by
   rw[nj,cD];exact Nat.add_le_add_right (oq ..) 1
  split
  ·simp only[dX];omega
  ·simp only[dX];omega
def Al (keep:Int ->Bool):Kx ->Kx ->Kx
 |[],f=>f
 |x::l,f=>Al keep l (if keep x then f else bY f x)
theorem Z7 (e:Int ->Bool) (x:Int):∀(l f:Kx),Al e (l++[x]) f=if e x then Al e l f else bY (Al e l f) x
 |[],f=>rfl
 |y::l,f=>by rw[gC,Al,Al,Z7 e x l]
theorem ag4 (e:Int ->Bool):∀(l f:Kx),Z (Al e l f)<=Z f
 |[],f=>ak _
 |x::l,f=>by
  rw[Al];refine aO (ag4 e l _) ?_;split
  ·exact ak _
  ·exact oq ..
theorem PI.gone (p:Pos S) (m:Bool) (k:Nat ->Bool) {f:Jp} {P:List Tb} {F:(Nat ->Nat) ->Rat} (h:PI S n f P F) (d:NN S P) (c:v∈f) (H:¬v∈vs):∃t∈ll S m k vs P,v∈ag t.1:=by
 cases m with
 |false=>
  obtain⟨r,a,b⟩:=PI.outs p k vs h;exact b.sup v ((a v).2 ⟨c,fun e=>absurd e H⟩)
 |true=>
  obtain⟨r,a,b,_⟩:=PI.mosts p k vs h d;exact b.sup v ((a v).2 ⟨c,fun e=>absurd e H⟩)
theorem amX (a b t q:Kd) (ca cb u s:Nat) (S:Jp) (f:Jp) (Fd:Kx) (P:List Tb) (F:(Nat ->Nat) ->Rat) (D c:Nat) (m:Bool) (w:wA) (R:fJ (iL S)) (hs:aC w a (iL S)) (L:aC w b (iL f)) (K:jt w t P) (M:aC w q Fd) (H:Z Fd<=1000)
  (B7:f.Nodup) (V:∀v∈f,v<Z S) (U:PI S (Z S) f P F) (B2:NN S P) (B9:ir S (Z S) P D c) (B1:Z P+Z f<=999) (Y:2*(B D).size+(B (kn S f*c)).size+2<=8192):
  c6 152 #[zp #[J a (Z S) ca,J b (Z f) cb,J t (Z P) u],J q (Z Fd) s,zd m] w fun e w'=>∃x y,e=yk (zp #[x,y])/\bL w' x y (allT S (ll S m (fun v=>Fd.contains (v:Int)) f P))/\da w w':=by
 have l:Pos S:=by have:=R.pos;rwa [jL] at this
 have Q:∀i,∃d,ir S (Z S) (ll S m (fun v=>Fd.contains (v:Int)) (f.take i) P) D d/\d<=kn S f*c:=fun i=>by
  obtain⟨d,o,p⟩:=ir.outs l m (fun v=>Fd.contains (v:Int)) (f.take i) B9;exact⟨d,o,aO p (mn _ (aci l _ _))⟩
 obtain⟨cc,T⟩:=Classical.axiomOfChoice Q;have r:Z (iL f)=Z f:=bM f;have z:∀i (h:i<Z (iL f)) (g:i<Z f),(iL f)[i]=(f[i]:Int):=fun i h g=>by simp[iL]
 have n:∀i (g:i<Z f),f.take (i+1)=f.take i++[f[i]]:=fun i g=>ig g
 have:=amY a b t q ca cb u s S (iL f) Fd P D cc m (fun i=>ll S m (fun v=>Fd.contains (v:Int)) (f.take i) P) (fun i=>Al (fun x=>Fd.contains x) (iL (f.take i)) (iL f)) w R hs L K M H ⟨rfl,rfl⟩
  (fun i h k=>by
   (have g:i<Z f:=by rw[<- r];exact h);rw[z i h g] at k;refine⟨?_,?_⟩
   ·show ll _ _ _ (f.take (i+1)) _=_;rw[n i g,Xn,aA k]
   ·show Al _ (iL (f.take (i+1))) _=_;rw[n i g,iL,gK,fR,om,Z7,aA k];rfl)
  (fun i h k=>by
   (have g:i<Z f:=by rw[<- r];exact h);rw[z i h g] at k⊢;refine⟨f[i],rfl,?_,?_,V _ (bQ g),PI.gone l m _ U B2 (bQ g) ?_⟩
   ·show ll _ _ _ (f.take (i+1)) _=_;rw[n i g,Xn,aD (by rw[k];decide)]
   ·show Al _ (iL (f.take (i+1))) _=_;rw[n i g,iL,gK,fR,om,Z7,aD (by rw[k];decide)];rfl
   ·intro A;have j:(f.take (i+1)).Nodup:=B7.sublist (List.take_sublist ..);rw[n i g,oh] at j;exact j.2.2 _ A _ (bD.2 rfl) rfl)
  (fun i _=>by
   obtain⟨o,p⟩:=T i;have j:=ad6 S m (fun v=>Fd.contains (v:Int)) (f.take i) P;rw[eZ] at j;have B6:=ag4 (fun x=>Fd.contains x) (iL (f.take i)) (iL f);rw[bM] at B6;have X:=kO p;exact⟨o,by show List.length _<=_;omega,by show List.length _<=_;omega,al⟩)
 rw[r] at this;simp only[iP] at this;exact this
variable {F:List (Int×Int)} {V:List Vr} {i:Nat}
def pN (S:Jp) (n:Nat) (F:List (Int×Int)) (i:Nat):Int:=
 if ¬(0<=(F.getD i (0,0)).1/\(F.getD i (0,0)).1<(n:Int)) then 11 else if ¬(0<=(F.getD i (0,0)).2/\(F.getD i (0,0)).2<(sz S (F.getD i (0,0)).1.toNat:Int)) then 12 else if ((F.take i).any fun p=>p.1==(F.getD i (0,0)).1)=xq then 7 else 0
def iq (V:List Vr) (L:List Kx) (R:List (List Fr)) (F:List (Int×Int)):Int:=if aU V L R=0 then kD (pN (ah V) (Z V) F) (Z F) else aU V L R
theorem TQ (h:i<Z F):F.getD i (0,0)=F[i]:=by rw[cK,ba h];rfl
theorem ahu (a:i<Z F) (h:¬(0<=F[i].1/\F[i].1<(n:Int))):pN S n F i=11:=by rw[pN,TQ a,aA h]
theorem ahv (b:i<Z F) (h:0<=F[i].1/\F[i].1<(n:Int)) (a:¬(0<=F[i].2/\F[i].2<(sz S F[i].1.toNat:Int))):pN S n F i=12:=by rw[pN,TQ b,aD (fun e=>e h),aA a]
theorem ahw (c:i<Z F) (h:0<=F[i].1/\F[i].1<(n:Int)) (a:0<=F[i].2/\F[i].2<(sz S F[i].1.toNat:Int)) (b:((F.take i).any fun p=>p.1==F[i].1)=xq):pN S n F i=7:=by rw[pN,TQ c,aD (fun e=>e h),aD (fun e=>e a),aA b]
theorem ahx (c:i<Z F) (h:0<=F[i].1/\F[i].1<(n:Int)) (a:0<=F[i].2/\F[i].2<(sz S F[i].1.toNat:Int)) (b:((F.take i).any fun p=>p.1==F[i].1)=x3):pN S n F i=0:=by rw[pN,TQ c,aD (fun e=>e h),aD (fun e=>e a),aD (by rw[b];decide)]
theorem Hx (h:v<Z V):sz (ah V) v=V[v].2.length:=by rw[sz,Ni h];rfl
theorem SJ (a b c d:Kd) (ca cb cc n:Nat) (V:List Vr) (L:List Kx) (R:List (List Fr)) (F:List (Int×Int)) (w:wA) (h:jc w a b c V L R) (hs:sX V L R) (Y:j9 w d F) (hn:Z F<=1000) (zV:Z F<=n):
  c6 36 #[zp #[J a (Z V) ca,J b (Z L) cb,J c (Z R) cc],J d (Z F) n] w (dj w (E yR (iq V L R F))):=by
 have A:=(aw w.heap.size w).alloc (ak _) (NC (J a (Z V) ca) (J b (Z L) cb) (J c (Z R) cc));have k7:=Fa (bZ.at (w:=w) rfl (J a (Z V) ca) (J b (Z L) cb) (J c (Z R) cc));have iO:=Fa (aie a b c ca cb cc V L R _ (h.aa A) hs);have K:=Fa A;have uN:=Fa h.Fd;have HF:=Fa Y;have OZ:Z V<=5000:=hs.Fd.1;have UL:we (∀v (m:v<Z V),V[v].2.length<=5000):=fun v m=>hs.Fd.2 _ (bQ m) |>.2.1;obtain⟨q,u⟩:∃q,iq V L R F=q:=⟨_,rfl⟩;have CC:we (aU V L R≠0 ->aU V L R=q):=fun e=>by rw[<- u,iq,aD e]
 have wB:we (aU V L R=0 ->∀i,i<Z F ->(∀j,j< i ->pN (ah V) (Z V) F j=0) ->∀k,pN (ah V) (Z V) F i=k ->k≠0 ->k=q):=fun e i hi hz k hk aR=>by rw[<- u,iq,aA e,Pn hz (by rw[hk];exact aR) hi,hk]
 have Ms:we (aU V L R=0 ->(∀j,j<Z F ->pN (ah V) (Z V) F j=0) ->0=q):=fun e hz=>by rw[<- u,iq,aA e,B5 hz]
 have Ve:=Fa (fun (i:Nat) (v:Int) (U:wA) (hU:da w U)=>X9 d n (F.take i) v U ((Y.aa hU).take i) (by rw[eZ];omega));rw[u];clear h hs Y A u;go_enter func36,ntmps36;go_wp2_with fail
 refine iO.o.af ?_;rintro e w1 ⟨rfl,ab⟩;have T:=Fa (K.o.trans (ab.af K.o.size));have GR:=Fa (k7.o.aa ab k7.o.lt);clear ab iO k7 K;by_cases o:aU V L R=0
 ·rw[o];have AE:=Fa o;clear o;go_wp2_with fail
  go_loopw [15] (fun iv wr=>∃i:Nat,i<=Z F/\iv=E yR i/\we (∀j,j< i ->pN (ah V) (Z V) F j=0)/\we (bZ wr w.heap.size (J a (Z V) ca) (J b (Z L) cb) (J c (Z R) cc))/\we (da w wr)) (fun iv _=>Z F - (intOf iv).toNat)
  case atStart=>exact⟨0,aX _,rfl,(fun j hj=>absurd hj al),GR,T⟩
  case round=>
   obtain⟨i,hi,rfl,B1,HN,H⟩:=hrel;clear GR T;by_cases t:i<Z F
   ·obtain⟨g,ad,rfl,hg,h0,h1⟩:=HF.o i t;have k0:=(H.o.cell (p:=⟨g,_,O⟩) hg).trans h0;have k1:=(H.o.cell (p:=⟨g,_,O⟩) hg).trans h1;have M:=Fa (wB.o AE.o i t B1.o);have Vm:we (¬(0<=F[i].1/\F[i].1<(Z V:Int)) ->pN (ah V) (Z V) F i=11):=ahu t;have ae:we (0<=F[i].1/\F[i].1<(Z V:Int) ->¬(0<=F[i].2/\F[i].2<(sz (ah V) F[i].1.toNat:Int)) ->pN (ah V) (Z V) F i=12):=ahv t;have ai:we (0<=F[i].1/\F[i].1<(Z V:Int) ->(0<=F[i].2/\F[i].2<(sz (ah V) F[i].1.toNat:Int)) ->((F.take i).any fun p=>p.1==F[i].1)=xq ->pN (ah V) (Z V) F i=7):=ahw t;have CB:we (0<=F[i].1/\F[i].1<(Z V:Int) ->(0<=F[i].2/\F[i].2<(sz (ah V) F[i].1.toNat:Int)) ->((F.take i).any fun p=>p.1==F[i].1)=x3 ->pN (ah V) (Z V) F i=0):=ahx t;have wu:we (pN (ah V) (Z V) F i=0 ->∀j,j<i+1 ->pN (ah V) (Z V) F j=0):=fun e=>V3 B1.o e;have av:=Fa (Ve.o i F[i].1);(have nG:Z (F.take i)=i:=by rw[eZ];omega);rw[nG] at av;generalize pN (ah V) (Z V) F i=fe at *;generalize ((F.take i).any fun p=>p.1==F[i].1)=fq at *;generalize F[i].1=l at *;generalize F[i].2=f at *;have A:=(aw wr.heap.size wr).alloc (ak _) (yd #[E yR l,E yR f] 30);(have Dm:(AC wr (yd #[E yR l,E yR f] 30)).heap.size=wr.heap.size+1:=aE);have OG:(AC wr (yd #[E yR l,E yR f] 30)).heap[wr.heap.size]? =I (yd #[E yR l,E yR f] 30 (0,0)):=dU wr _;have x:=Fa OG;have B2:=Fa (HN.o.aa A HN.o.lt)
    have Q:=Fa (H.o.trans (A.af H.o.size));have nc:=B2.o.cells.1;clear h0 h1 nG A OG;by_cases m:0<=l/\l<(Z V:Int)
    ·obtain⟨v,rfl⟩:∃v:Nat,l=v:=⟨l.toNat,al⟩;(have B6:v<Z V:=al);obtain⟨gv,ov,bv,cv,rfl,F2,aW,pA,_,_⟩:=uN.o v B6;have zK:sz (ah V) v=V[v].2.length:=Hx B6;have aZ:=UL.o v B6;rw[oC,zK] at ae ai CB;have kv:=(Q.o.cell (p:=⟨gv,_,O⟩) F2).trans pA;generalize V[v].2.length=sv at *;have P:=Fa m;clear aW pA m zK;obtain⟨ax,ay⟩:AJ (AC wr (yd #[E yR (v:Nat),E yR f] 30)) ⟨wr.heap.size,0,O⟩=I (E yR (v:Nat))/\(AC wr (yd #[E yR (v:Nat),E yR f] 30)).cell? ⟨wr.heap.size,1,O⟩=I (E yR f):=⟨by rw[a8 _ _ 0 _ _ (0,0) x.o];rfl,by rw[a8 _ _ 1 _ _ (0,0) x.o];rfl⟩;by_cases y:0<=f/\f<(sv:Int)
     ·obtain⟨z,rfl⟩:∃z:Nat,f=z:=⟨f.toNat,al⟩;(have bf:z<sv:=al);have aj:=Fa y;clear y;go_upto_region 11 with (go_quiet (fail))
      have aJ:we (((AC wr (yd #[E yR (v:Nat),E yR (z:Nat)] 30)).drewN nq).heap[wr.heap.size]? =I (yd #[E yR (v:Nat),E yR (z:Nat)] 30 (0,0))):=x.o;have rO:we (bZ ((AC wr (yd #[E yR (v:Nat),E yR (z:Nat)] 30)).drewN nq) w.heap.size (J (I ⟨gv,ov,O⟩) (Z V) ca) (J b (Z L) cb) (J c (Z R) cc)):=B2.o;have X:=Fa (below_drewN Q.o nq);(have Iy:wr.heap.size<((AC wr (yd #[E yR (v:Nat),E yR (z:Nat)] 30)).drewN nq).heap.size:=by show wr.heap.size<(wr.alloc _).heap.size;rw[Dm];omega);clear ax ay kv nc x B2 Q Dm;generalize (AC wr (yd #[E yR (v:Nat),E yR (z:Nat)] 30)).drewN nq=W3 at *
      have B7:we (∀U:wA,Below W3.drew.heap.size W3.drew U ->AJ U ⟨wr.heap.size,0,O⟩=I (E yR (v:Nat))):=fun U hU=>(hU.cell (p:=⟨wr.heap.size,0,O⟩) Iy).trans (by
       have:W3.drew.heap[wr.heap.size]? =I (yd #[E yR (v:Nat),E yR (z:Nat)] 30 (0,0)):=aJ.o;rw[a8 _ _ 0 _ _ (0,0) this];rfl)
      have an:=Fa (av.o W3.drew X.o.drew);(have bb:(i:Int)<=(n:Int):=al);refine iD (S:=fun U=>AJ U ⟨wr.heap.size,0,O⟩=I (E yR (v:Nat))) ao (B7.o _ (aw _ _)) (fun ar=>?_);refine au 0 (J (I ⟨g,ad,O⟩) (Z F) n) ?_;refine au 1 (E yR (i:Nat)) ?_;refine au 2 (J (I ⟨g,ad,O⟩) i n) ?_;refine au 3 (zZ (I ⟨wr.heap.size,0,O⟩)) ?_;refine au 4 (E yR (v:Nat)) ?_;refine aG [5] (cA ?_ aH);intro K' az;go_simp;refine an.o.af ?_;rintro r w5 ⟨rfl,B9⟩;refine az.o _ _ (B7.o w5 B9) (fun aq=>?_);clear az K' ar;(try simp only[gE,aP]);refine eV ao ?_ _;clear aq;have fh:we (da w w5):=X.o.drew.trans (B9.af X.o.drew.size);have Jt:we (bZ w5 w.heap.size (J (I ⟨gv,ov,O⟩) (Z V) ca) (J b (Z L) cb) (J c (Z R) cc)):=bZ.aa (w:=W3.drew) rO.o B9 rO.o.lt;clear B9 an B7;cases fq with
      |true=>
       have s:=Fa (M.o 7 (ai.o P.o aj.o rfl) a6);go_wp2;go_ret;exact⟨by rw[<- s.o];rfl,fh.o⟩
      |false=>
       have aM:=Fa (wu.o (CB.o P.o aj.o rfl));go_wp2;go_roundw
       case rel=>exact⟨i+1,al,bd,aM,Jt,fh⟩
       case measure=>simp[intOf];omega
     ·have s:=Fa (M.o 12 (ae.o P.o y) a6);rcases Int.lt_or_le f 0 with D |D
      ·have xo:decide (f<0)=true:=cJ D;clear y;go_wp2_with (go_quiet (fail))
       go_ret;exact⟨by rw[<- s.o];rfl,below_drewN Q.o _⟩
      ·have xo:decide (f<0)=false:=cT al;have sL:decide ((sv:Int)<=f)=true:=cJ al;clear y;go_wp2_with (go_quiet (fail))
       go_ret;exact⟨by rw[<- s.o];rfl,below_drewN Q.o _⟩
    ·have s:=Fa (M.o 11 (Vm.o m) a6);obtain⟨ax,ay⟩:AJ (AC wr (yd #[E yR l,E yR f] 30)) ⟨wr.heap.size,0,O⟩=I (E yR l)/\(AC wr (yd #[E yR l,E yR f] 30)).cell? ⟨wr.heap.size,1,O⟩=I (E yR f):=⟨by rw[a8 _ _ 0 _ _ (0,0) x.o];rfl,by rw[a8 _ _ 1 _ _ (0,0) x.o];rfl⟩;rcases Int.lt_or_le l 0 with D |D
     ·clear m;go_wp2_with fail
      go_ret;exact⟨by rw[<- s.o];rfl,Q.o⟩
     ·have h3:(Z V:Int)<=l:=al
      (have h4:¬l<0:=al);clear m;go_wp2_with fail
      go_ret;exact⟨by rw[<- s.o];rfl,Q.o⟩
   ·obtain rfl:i=Z F:=al
    have s:=Fa (Ms.o AE.o B1.o);go_wp2;go_ret;exact⟨by rw[<- s.o];rfl,H.o⟩
 ·have s:=Fa (CC.o o);have a1:(aU V L R==0)=false:=by simpa using o
  clear o CC wB Ms;generalize aU V L R=ne at *;go_wp2;go_ret;exact⟨by rw[<- s.o];rfl,T.o⟩
open Go.Sort Go.Lib
theorem acK (b:Kd) (cb:Nat) (l:Kx) (x:Int) (w:wA) (h:aC w b l) (n:Z l<=140737488355328):
  c6 98 #[J b (Z l) cb,E yR x] w fun e w'=>e=yk (zd (l.contains x))/\w'=w:=by
 cases l with
 |nil=>
  refine(Tryz.slices_Contains_int_empty b cb x w).af ?_;rintro e w' ⟨rfl,rfl⟩;exact⟨rfl,rfl⟩
 |cons y l=>
  obtain⟨g,o,rfl,_⟩:=h 0 aE;refine(Tryz.slices_Contains_int g o (Z (y::l)) cb (y::l) x w (ak _) al (Yc h)).af ?_;rintro e w' ⟨rfl,rfl⟩;rw[iP];exact⟨rfl,rfl⟩
def fT (l m:Kx):Kx:=l.filter fun u=>decide (¬u∈m)
theorem aeh (u:Int) (b:Kd) (cb:Nat) (l:Kx) (B:Nat) (W:wA) (c:AJ W ⟨B,0,O⟩=I (J b (Z l) cb)) (h:aC W b l) (n:Z l<=140737488355328):
  FnGives prog 131 #[zZ (I ⟨B,0,O⟩)] #[E yR u] (zd (l.contains u)) W:=by
 show c6 131 #[E yR u,zZ (I ⟨B,0,O⟩)] W _;have H:=Fa (acK b cb l u W h n);clear h;go_enter func131,ntmps131;go_wp2_with fail
 refine H.o.af ?_;rintro e w' ⟨rfl,w⟩;rw[w];clear w w';go_wp2;go_ret;exact⟨aE,0,rfl⟩
theorem anx (b:Kd) (cb:Nat) (l:Kx) (B:Nat) (w:wA) (a:B<w.heap.size) (c:AJ w ⟨B,0,O⟩=I (J b (Z l) cb)) (d:aC w b l) (n:Z l<=140737488355328):
  PredAt prog 131 #[zZ (I ⟨B,0,O⟩)] (Value.int yR) (fun u=>l.contains u) w:=
 fun W x h=>aeh x b cb l B W ((h.cell (p:=⟨B,0,O⟩) a).trans c) (d.aa h) n
theorem anw (b:Kd) (cb:Nat) (l:Kx) (B a f z:Nat) (w:wA) (j:B<w.heap.size) (d:B≠a) (m:AJ w ⟨B,0,O⟩=I (J b (Z l) cb)) (q:aC w b l) (r:Z l<=140737488355328) (s:∀g o,b=I ⟨g,o,O⟩ ->l≠[] ->g≠a):
  PredOver prog 131 #[zZ (I ⟨B,0,O⟩)] (Value.int yR) (fun u=>l.contains u) a f z w:=
 fun n t i x _=>by
  have p:∀g o,g<w.heap.size ->g≠a ->AJ (sortWorld (Value.int yR) w a f n i t) ⟨g,o,O⟩=AJ w ⟨g,o,O⟩:=fun g o h d=>by
   unfold sortWorld;rw[cell?_grow _ _ _ (by show g<(putRow _ _ _ _ _).heap.size;rw[size_putRow];exact h),cell?_putRow_other _ _ a f _ _ (Or.inl d)];rfl
  refine aeh x b cb l B _ ((p B 0 j d).trans m) (fun k c=>?_) r;obtain⟨g,o,e,h,v⟩:=q k c;refine⟨g,o,e,?_,(p g _ h (s g o e (fun e=>by rw[e] at c;exact absurd c aE))).trans v⟩;unfold sortWorld;rw[size_grow,size_putRow];exact aT h (MJ _ _)
theorem Xt (b c:Kd) (cb cc:Nat) (l m:Kx) (w:wA) (z:aC w b l) (s:aC w c m) (Y:Z l<=1000000) (B7:Z m<=140737488355328):
  c6 79 #[J b (Z l) cb,J c (Z m) cc] w fun e w'=>∃(d:Kd) (y:Nat),e=yk (J d (Z (fT l m)) y)/\aC w' d (fT l m)/\((d=O ->y=0)/\∀g o,d=I ⟨g,o,O⟩ ->w.heap.size<=g)/\da w w':=by
 have R:=Fa z;have M:=Fa s;obtain⟨L,p⟩:∃L,L=fT l m:=⟨_,rfl⟩;rw[<- p];have H:=Fa p
 have S:we (∀g o,c=I ⟨g,o,O⟩ ->m≠[] ->g<w.heap.size):=fun g o e v=>by
  obtain⟨g',o',f,iA,_⟩:=s 0 (by cases m with |nil=>exact absurd rfl v |cons x m=>simp);rw[e] at f;cases f;exact iA
 clear z s p;go_enter func79,ntmps79;go_wp2_with fail
 have a:da w (AC w (yd #[J c (Z m) cc] 27)):=(aw _ w).alloc (ak _) _;have t:=bE w 27 (J c (Z m) cc);generalize (AC w (yd #[J c (Z m) cc] 27))=W at a t⊢;refine(Kq b cb l _ (R.o.aa a) Y).af ?_;rintro e D ⟨x,rfl,A,B9⟩;have i:=bB t B9;have h:=a.trans (B9.af a.size);have ai:=t.lt;have aj:=a.size;rcases A.cases with ⟨rfl,rfl⟩ |⟨g,cap,rfl,ae,T,F,ad,r⟩
 ·go_wp2_with fail
  refine(WM _ _).af ?_;rintro e w2 ⟨rfl,ab⟩;go_wp2;go_ret;have B2:L=[]:=H.o;subst B2;exact⟨O,0,rfl,fun k X=>absurd X aE,⟨fun _=>rfl,fun g o e=>by cases e⟩,h.trans (ab.af h.size)⟩
 ·have n:=Tryz.slices_DeleteFunc (Value.int yR) (fun _=>rfl) (fun u=>m.contains u) 131 #[zZ (I ⟨w.heap.size,0,O⟩)] (enters_of func131 ao rfl) 0 Tryz.zeroValue3 g 0 cap l.toArray D (anx c cc m _ _ i.lt i.cell (M.o.aa h) B7) (anw c cc m _ g 0 _ _ i.lt al i.cell (M.o.aa h) B7 (fun g' o' f v=>by have:=S.o g' o' f v;omega)) r (by simp;omega) (by simpa using F);have B6:l.toArray.size=Z l:=aE
  rw[B6] at n
  have V:l.toArray.toList.filter (fun x=>!(m.contains x))=fT l m:=by
   rw[fT];refine VZ fun u _=>?_;by_cases B1:u∈m<;>simp[B1]
  rw[V, <- H.o] at n;have K:Z L<=Z l:=by rw[H.o];exact oq _ _
  have P:=Fa n;have Q:=Fa r;have lG:=Fa K;clear n r A B6 V F ad K;go_wp2_with fail
  refine P.o.af ?_;rintro e w2 ⟨rfl,q,rfl⟩;go_wp2;go_ret
  have yB:(L++List.replicate (Z l - Z L) 0).toArray.size=l.toArray.size:=by
   have:=lG.o;simp;omega
  refine⟨I ⟨g,0,O⟩,cap,rfl,Dp (holds_putRow (Value.int yR) (Sort.ahead D q) g 0 l.toArray _ Q.o yB) (by rw[size_putRow];exact T) (fun j U=>⟨by simp;omega,by simp[ou,U]⟩),⟨(fun e=>by cases e),fun g' o' e=>by cases e;omega⟩,Us _ h h.size al⟩
variable {la lb:Kx}
theorem ak7 (e:(la++lb).Nodup):((la++lb).mergeSort fun x y=>decide (x<=y))=a7 la lb:=by
 obtain⟨d,f⟩:=C2 la lb;have hs:((la++lb).mergeSort fun x y=>decide (x<=y)).Pairwise (fun x y=>decide (x<=y)=xq):=VR (fun a b c=>by simp;omega) (fun a b=>by simp;omega) _;have p:=QU (la++lb) fun x y=>decide (x<=y);have n:((la++lb).mergeSort fun x y=>decide (x<=y)).Nodup:=p.nodup_iff.2 e;refine WS ?_ d fun x=>?_
 ·refine(hs.and n).imp fun {a b} h=>?_;have g:=mS h.1;have i:=h.2;omega
 ·rw[p.mem_iff,f,bH]
theorem ab4 (a b:Kd) (ca cb:Nat) (la lb:Kx) (w:wA) (F:aC w a la) (B6:aC w b lb) (Q:a=O ->ca=0) (R:b=O ->cb=0) (lV:Z la<=1000) (kT:Z lb<=1000) (B7:(la++lb).Nodup):
  c6 80 #[J a (Z la) ca,J b (Z lb) cb] w fun e w'=>∃(d:Kd) (B9:Nat),e=yk (J d (Z (a7 la lb)) B9)/\aC w' d (a7 la lb)/\(d=O ->B9=0)/\da w w':=by
 obtain⟨L,m⟩:∃L,L=a7 la lb:=⟨_,rfl⟩;rw[<- m];have H:=Fa m;have K:da w (AC w (yd #[J a (Z la) ca,J b (Z lb) cb] 27)):=(aw _ w).alloc (ak _) _;have A:(AC w (yd #[J a (Z la) ca,J b (Z lb) cb] 27)).heap[w.heap.size]? =I (yd #[J a (Z la) ca,J b (Z lb) cb] 27 (0,0)):=dU _ _;have Y:=Fa (acL w.heap.size a b ca cb la lb (AC w (yd #[J a (Z la) ca,J b (Z lb) cb] 27)) aE (by rw[a8 _ _ _ _ _ (0,0) A];rfl) (by rw[a8 _ _ _ _ _ (0,0) A];rfl) (F.aa K) (B6.aa K) Q R lV kT);have S:=Fa (ak7 B7);clear m F B6 Q R A B7;go_enter func80,ntmps80;go_wp2_with fail
 generalize (AC w (yd #[J a (Z la) ca,J b (Z lb) cb] 27))=W at *;refine Y.o.af ?_;rintro e c ⟨v,rfl,M,T⟩;have u:=K.trans (T.af K.size);have ai:=K.size;rcases M.cases with ⟨rfl,V⟩ |⟨g,cap,rfl,ae,p,ad,ab,r⟩
 ·have X:L=[]:=by
   have h:la=[]:=(V0.1 V).1;have i:lb=[]:=(V0.1 V).2;rw[H.o,h,i,aca]
  subst X;go_wp2_with fail
  refine(Tryz.slices_Sort_int_none O 0 _).af ?_;rintro e P ⟨rfl,rfl⟩;go_wp2;go_ret;exact⟨O,0,rfl,fun k hk=>absurd hk aE,fun _=>rfl,u⟩
 ·have dK:Z (la++lb)<=2000:=by rw[cD];omega
  have f:=Tryz.slices_Sort_int g 0 cap (la++lb) c r p al;have z:Z ((la++lb).mergeSort fun x y=>decide (x<=y))=Z (la++lb):=MN _;rw[S.o, <- H.o] at z f;have Qa:=Fa f;have B1:=Fa z;have HH:=Fa r;clear f r M ab T z S;generalize Lp:Z (la++lb)=n at *;have Qq:=Fa Lp;clear Lp;go_wp2_with fail
  refine Qa.o.af ?_;rintro e P ⟨rfl,q,s,rfl⟩
  have U:L.toArray.size=(la++lb).toArray.size:=by
   have:=B1.o;have:=Qq.o;simp only[mX];omega
  have D:Holds (Value.int yR) (grow (putRow (Value.int yR) (Sort.ahead c q) g 0 L.toArray) s) g 0 L.toArray:=fun j t=>by
   obtain⟨h,i⟩:=holds_putRow (Value.int yR) (Sort.ahead c q) g 0 _ L.toArray HH.o U j t;(have B2:g<(putRow (Value.int yR) (Sort.ahead c q) g 0 L.toArray).heap.size:=by rw[size_putRow];exact p);refine⟨(cell?_grow _ _ _ B2).trans h,?_⟩;rw[frozen?_grow _ _ _ B2];exact i
  have IL:g<(grow (putRow (Value.int yR) (Sort.ahead c q) g 0 L.toArray) s).heap.size:=aT p (Mz (w:=c) (g:=g) (n:=q) (os:=s) L.toArray).size;have aZ:=Fa (Ur (n:=q) (os:=s) L.toArray u u.size (show w.heap.size<=g by omega));generalize grow (putRow (Value.int yR) (Sort.ahead c q) g 0 L.toArray) s=P at *;have HI:=Fa (Dp (l:=L) D IL fun j t=>⟨by simpa using t,aE⟩);clear D U;go_wp2;go_ret;exact⟨I ⟨g,0,O⟩,cap,by rw[B1.o];rfl,HI.o,(fun e=>by cases e),aZ.o⟩
variable {L Ls:List Kx} {c:Nat} {W':wA}
def vU (W:wA) (R:Nat) (vs:List wQ) (Ls:List Kx):Prop:=
 vs.length=Z Ls/\∀k (h:k<Z Ls),∃b c,vs[k]? =I (J b Ls[k].length c)/\aC W b Ls[k]/\∀g o,b=I ⟨g,o,O⟩ ->Ls[k]≠[] ->g≠R
theorem Ya {W:wA} {R:Nat} {b:Kd} (h:aC W b l) (n:∀g o,b=I ⟨g,o,O⟩ ->l≠[] ->g≠R) (f:∀g,g<W.heap.size ->g≠R ->W'.heap[g]? =W.heap[g]?) (hs:W.heap.size<=W'.heap.size):aC W' b l:=fun k d=>by
 obtain⟨g,o,e,a,c⟩:=h k d;have i:=n g o e (fun e=>by rw[e] at d;exact absurd d aE);exact⟨g,o,e,aT a hs,(iE (f g a i)).trans c⟩
theorem vU.keep {W:wA} {R:Nat} {vs:List wQ} (h:vU W R vs Ls) (i:∀g,g<W.heap.size ->g≠R ->W'.heap[g]? =W.heap[g]?) (hs:W.heap.size<=W'.heap.size):vU W' R vs Ls:=⟨h.1,fun k d=>by
 obtain⟨b,c,e,f,a⟩:=h.2 k d;exact⟨b,c,e,Ya f a i hs,a⟩⟩
theorem vU.aa {W:wA} {R:Nat} {vs:List wQ} (h:vU W R vs Ls) (b:da W W'):vU W' R vs Ls:=h.keep (fun g a _=>b.block g a) b.size
theorem vU.lists {W:wA} {R:Nat} {vs rest:List wQ} (h:vU W R vs Ls) (r:jV W R (vs++rest)):ei W (I ⟨R,0,O⟩) Ls:=fun k d=>by
 obtain⟨b,c,a,e,_⟩:=h.2 k d;have z:k<Z vs:=by rw[h.1];exact d
 refine⟨R,0,b,c,rfl,r.lt,?_,e⟩;rw[bK,r.cell k (by rw[cD];omega),ou z];rw[ba z] at a;exact a
theorem vU.put {W:wA} {R:Nat} {vs rest:List wQ} (h:vU W R vs Ls) (r:jV W R (vs++rest)) (t:v<Z Ls) {b:Kd} (q:aC W b l) (f:∀g o,b=I ⟨g,o,O⟩ ->l≠[] ->g≠R):
  vU (AF W ⟨R,v,O⟩ (J b (Z l) c)) R (vs.set v (J b (Z l) c)) (Ls.set v l)/\jV (AF W ⟨R,v,O⟩ (J b (Z l) c)) R (vs.set v (J b (Z l) c)++rest):=by
 have M:∀k,k≠R ->(AF W ⟨R,v,O⟩ (J b (Z l) c)).heap[k]? =W.heap[k]?:=fun k a=>eO W ⟨R,v,O⟩ _ k a;have s:=(kh W ⟨R,v,O⟩ (J b (Z l) c)).size;have u:v<Z vs:=by rw[h.1];exact t
 refine⟨⟨by rw[gA,gA];exact h.1,fun k a=>?_⟩,?_⟩
 ·rw[gA] at a;by_cases e:v=k
  ·subst e;refine⟨b,c,?_,?_,?_⟩
   ·rw[Ho u,Hn]
   ·rw[Hn];exact Ya q f (fun g _ n=>M g n) s
   ·rw[Hn];exact f
  ·obtain⟨i,j,m,p,d⟩:=h.2 k a;refine⟨i,j,?_,?_,?_⟩
   ·rw[wJ e,MO e];exact m
   ·rw[MO e];exact Ya p d (fun g _ n=>M g n) s
   ·rw[MO e];exact d
 ·have:=r.set v (J b (Z l) c);rwa [List.set_append_left _ _ u] at this
theorem asx {d:Kx} (h:v<Z L):((List.range (Z L)).map fun k=>if k<v then uL L [] d k else[]).set v (fT L[v] d)=(List.range (Z L)).map fun k=>if k<v+1 then uL L [] d k else[]:=by
 apply mZ aE;intro k b c;rw[EX];simp only[mq,EY];by_cases e:v=k
 ·subst e;rw[aA rfl,aA al,aaq,getD_at h,fT]
 ·rw[aD e];by_cases a:k<v
  ·rw[aA a,aA al]
  ·rw[aD a,aD al]
theorem ajT (a b:Kd) (ca cb:Nat) (L:List Kx) (n:Kx) (w:wA) (h:ei w a L) (B9:aC w b n) (hp:0<Z L) (h8:Z L<=8) (x:∀l∈L,Z l<=1000) (an:Z n<=1000):
  c6 76 #[J a (Z L) ca,J b (Z n) cb] w fun e w'=>∃R cap,e=yk (J (I ⟨R,0,O⟩) (Z L) cap)/\ei w' (I ⟨R,0,O⟩) (j6 L [] n)/\da w w':=by
 have ad:=fun V=>QJ (P:=prog) 23 27 (J O 0 0) 24 underlying23 Tryz.infoInts1 rfl yR yR (Z L) al al V;have B1:=Fa h;have ae:=Fa B9;have yY:we (∀(v:Nat) (f:v<Z L) (d:Kd) (c:Nat) (U:wA),da w U ->aC U d L[v] ->c6 79 #[J d L[v].length c,J b (Z n) cb] U fun e w'=>∃(d:Kd) (K:Nat),e=yk (J d (Z (fT L[v] n)) K)/\aC w' d (fT L[v] n)/\((d=O ->K=0)/\∀g o,d=I ⟨g,o,O⟩ ->U.heap.size<=g)/\da U w'):=fun v f d c U hU u=>Xt d b c cb L[v] n U u (B9.aa hU) (by have:=x _ (bQ f);omega) al;have ud:we (∀(v:Nat) (f:v<Z L),((List.range (Z L)).map fun k=>if k<v then uL L [] n k else[]).set v (fT L[v] n)=(List.range (Z L)).map fun k=>if k<v+1 then uL L [] n k else[]):=fun v f=>asx f;clear h B9 x
 have B6:we (jV (AC w (yd (madeCells #[J O 0 0] (Z L)) 27)) w.heap.size (List.replicate (Z L) (J O 0 0))):=by
  have e2:madeCells #[Value.slice O 0 0] (Z L)=(List.replicate (Z L) (Value.slice O 0 0)).toArray:=by
   have:=Sx (Z L);rw[rU] at this;rw[<- this];rfl
  show _=_;rw[dU,e2]
 have S:we (vU (AC w (yd (madeCells #[J O 0 0] (Z L)) 27)) w.heap.size (List.replicate (Z L) (J O 0 0)) ((List.range (Z L)).map fun k=>if k<0 then uL L [] n k else[])):=⟨aE,fun k F=>⟨O,0,by
  have cF:k<Z L:=by simpa using F
  simp[cF],(fun j hj=>absurd hj aE),fun g o e=>by cases e⟩⟩
 have Q:=Fa ((aw w.heap.size w).alloc (ak _) (yd (madeCells #[J O 0 0] (Z L)) 27));go_enter func76,ntmps76;go_wp2_with fail
 generalize w.alloc (yd (madeCells #[J O 0 0] (Z L)) 27)=W0 at *;clear ad;go_loopw [13] (fun iv wr=>∃(v:Nat) (vs:List wQ),v<=Z L/\iv=E yR v/\we (jV wr w.heap.size vs)/\we (vU wr w.heap.size vs ((List.range (Z L)).map fun k=>if k<v then uL L [] n k else[]))/\we (da w wr)) (fun iv _=>Z L - (intOf iv).toNat)
 case atStart=>exact⟨0,_,aX _,rfl,B6,S,Q⟩
 case round=>
  obtain⟨v,vs,f,rfl,m,D,H⟩:=hrel;clear B6 S Q;by_cases z:v<Z L
  ·obtain⟨g,o,d,c,rfl,hg,M,u⟩:=B1.o v z;have kc:AJ wr ⟨g,o+v,O⟩=I (J d L[v].length c):=(H.o.cell (p:=⟨g,_,O⟩) hg).trans M;have ab:=Fa (yY.o v z d c wr H.o (u.aa H.o));have Y:=Fa (ud.o v z);have B7:=m.o.lt;generalize fT L[v] n=t at *;generalize L[v].length=lv at *;clear M u;go_wp2_with fail
   refine ab.o.af ?_;rintro e s ⟨r,q,rfl,B2,⟨_,T⟩,i⟩;have ai:=(m.o.aa i B7).fz v;(have eD:we (jV s w.heap.size (vs++[])):=by rw[lh];exact m.o.aa i B7);have A:we (vU (AF s ⟨w.heap.size,v,O⟩ (J r (Z t) q)) w.heap.size (vs.set v (J r (Z t) q)) (((List.range (Z L)).map fun k=>if k<v then uL L [] n k else[]).set v t)/\jV (AF s ⟨w.heap.size,v,O⟩ (J r (Z t) q)) w.heap.size (vs.set v (J r (Z t) q)++[])):=(D.o.aa i).put eD.o (by simpa using z) B2 (fun g' o' e' aj=>by have:=T g' o' e';omega);have aZ:=Fa (H.o.trans (i.af H.o.size));have X:we (da w (AF s ⟨w.heap.size,v,O⟩ (J r (Z t) q))):=aZ.o.setCell (p:=⟨w.heap.size,v,O⟩) (ak _) _
   obtain⟨y,ky⟩:∃y,AJ s ⟨w.heap.size,v,O⟩=I y:=by
    have x:=D.o.1;rw[dm,A0] at x;exact⟨_,(m.o.aa i B7).cell v al⟩
   rw[lh] at A;generalize (Z t)=ao at *;clear B2 i kc T;go_wp2;go_roundw
   case rel=>exact⟨v+1,_,al,bd,A.o.2,by rw[<- Y.o];exact A.o.1,X⟩
   case measure=>simp[intOf];omega
  ·obtain rfl:v=Z L:=al
   have HL:we (ei wr (I ⟨w.heap.size,0,O⟩) (j6 L [] n)):=by
    (have h1:jV wr w.heap.size (vs++[]):=by rw[lh];exact m.o);have:=D.o.lists h1
    have e:((List.range (Z L)).map fun k=>if k<Z L then uL L [] n k else[])=j6 L [] n:=by
     rw[j6];exact qh fun k F=>aA (bR.1 F)
    rwa [e] at this
   go_wp2;go_ret;exact⟨_,_,rfl,HL.o,H.o⟩
variable {kl:Nat×Bool ->Lit} {wv:wQ} {V' W3 w:wA}
theorem aby (w:wA):(zeroValue 244).run prog w=.ok (zp #[]) w:=by
 obtain⟨a,c,h,z,b⟩:=eo (show (prog.info? 244).map (fun i=>(i.zero,i.size,i.bytes))=I (I (zp #[]),0,0) by kernel_rfl);simp[zeroValue,typeInfo,c,h]
structure xK (kl:Nat×Bool ->Lit) (W3:wA) (b:Nat) (S W:List (Nat×Bool)) (D:DataW Unit) (wv:wQ) (V:wA):Prop where
 map:CJ kl V b S D
 row:xJ V W3.heap.size wv W
 fr:W3.grownBy V (I b)
theorem xK.alloc {b:Nat} {S W:List (Nat×Bool)} {D:DataW Unit} {V:wA} (h:xK kl W3 b S W D wv V) (o:Obj):xK kl W3 b S W D wv (V.alloc o):=
 ⟨h.map.kept (World.grownBy_alloc V o O) aE,He h.row o,by
  have A:=(aw V.heap.size V).alloc (ak _) o;exact⟨A.os.trans h.fr.os,A.tape.trans h.fr.tape,A.output.trans h.fr.output,aO h.fr.size A.size,fun k a e=>(A.block k (aT a h.fr.size)).trans (h.fr.block k a e)⟩⟩
theorem xK.put (i:∀p:Nat×Bool,p.1< 8 ->keyOf prog 243 (Df p)=I (kl p)) {b:Nat} {S W:List (Nat×Bool)} {D:DataW Unit} {V:wA} (h:xK kl W3 b S W D wv V) (l:b<W3.heap.size) {p:Nat×Bool} (j:p.1<8) {d:DataW Unit} (o:V'.ownsMap prog 243 (unitElem (H:=Unit)) b (Z S+1) (D.put (kl p) d)) (a:V.grownBy V' (I b)):xK kl W3 b (p::S) W (D.put (kl p) d) wv V':=by
 refine⟨h.map.put i j o,QN h.row a ?_,⟨a.os.trans h.fr.os,a.tape.trans h.fr.tape,a.output.trans h.fr.output,aO h.fr.size a.size,fun k c n=>(a.block k (aT c h.fr.size) n).trans (h.fr.block k c n)⟩⟩;cases e:wv.ownBlock with
 |none=>exact yp rfl
 |some g=>
  refine xS fun f=>?_;cases f;have:=ad4 h.row b e;omega
theorem xK.more {b:Nat} {S W W':List (Nat×Bool)} {D:DataW Unit} {v:wQ} {V:wA} (h:xK kl W3 b S W D wv V) (c:b<W3.heap.size) (r:xJ V' W3.heap.size v W') (g:G9 V V' wv v):xK kl W3 b S W' D v V':=by
 have n:∀k,k<W3.heap.size ->I k≠wv.ownBlock:=fun k a e=>by
  have:=ad4 h.row k e.symm;omega
 exact⟨h.map.kept g.1 (n b c),r,⟨g.1.os.trans h.fr.os,g.1.tape.trans h.fr.tape,g.1.output.trans h.fr.output,aO h.fr.size g.1.size,fun k a d=>(g.1.block k (aT a h.fr.size) (n k a)).trans (h.fr.block k a d)⟩⟩
theorem xJ.init {B:Nat} {d:Kd} {T:List (Nat×Bool)} {p:Nat×Bool} (h:xJ w B (J d n c) (T++[p])):∃g,d=I ⟨g,0,O⟩/\n=Z T+1/\T.length<=c/\T.length+1<=c/\B<=g/\g<w.heap.size/\w.cell? ⟨g,Z T*2,O⟩=I (E yR (p.1:Nat))/\w.cell? ⟨g,Z T*2+1,O⟩=I (zd p.2)/\xJ w B (J (I ⟨g,0,O⟩) (Z T) c) T:=by
 have m:Z (T++[p])=Z T+1:=aE
 have l:=aay T;rcases h.2 with ⟨i,a⟩ |⟨g,cap,r,i,a,e,k,o,q,b⟩
 ·rw[m] at a;omega
 ·injection i with e1 e2 e3;subst e1;subst e3;rw[m] at k b e2;rw[aaz] at b
  have D:∀j u,(uM T++uM [p])[j]? =I u ->AJ w ⟨g,j,O⟩=I u:=fun j u f=>by
   rw[a8 w g j _ _ (0,0) e]
   have:j<(Z T+1)*2:=by
    have:=(oA.1 f).1;rw[cD,l] at this;simp[uM] at this;omega
   rw[<- b,tu,aA this,wM] at f;exact f
  refine⟨g,rfl,e2,al,k,a,(c5.1 e).1,D _ _ ?_,D _ _ ?_,aay T,xS ⟨g,c,r,rfl,a,e,al,o,q,?_⟩⟩
  ·rw[JX al,l,rT];rfl
  ·rw[JX al,l,show Z T*2+1 - Z T*2=1 by omega];rfl
  ·have:=eG (List.take (Z T*2)) b;rw[List.take_take,show min (Z T*2) ((Z T+1)*2)=Z T*2 by omega] at this;rw[this, <- l,List.take_left]
variable {A:Nat}
theorem TN {V:wA} {row:Option Nat} {v c:wQ} {t:TypeId} (h:V.heap[A]? =I (yd #[v,c] t (0,0))) (g:V.grownBy V' row) (e:I A≠row):V'.heap[A]? =I (yd #[v,c] t (0,0)):=(g.block A (c5.1 h).1 e).trans h
theorem Uo {V:wA} {v c:wQ} {t:TypeId} (h:V.heap[A]? =I (yd #[v,c] t (0,0))):AJ V ⟨A,0,O⟩=I v/\V.cell? ⟨A,1,O⟩=I c:=
 ⟨by rw[a8 V A 0 _ _ (0,0) h];rfl,by rw[a8 V A 1 _ _ (0,0) h];rfl⟩
theorem xJ.shape {B:Nat} {v:wQ} {l:List (Nat×Bool)} (h:xJ w B v l):∃d c,v=J d (Z l) c:=by
 rcases h.2 with ⟨a,b⟩ |⟨g,cap,r,a,_⟩
 ·exact⟨O,0,by rw[a,b]⟩
 ·exact⟨_,cap,a⟩
theorem apG (G n cG:Nat) (P:List Jp) (x y z:Jp) (w:wA) (hn:Z P=n) (h8:n<=8) (hU:dw w G (P.map aB)) (hP:∀v,∀u∈P.getD v [],u<n/\v<n) (ZM:∀p∈P,∀u∈p,u<n) (hx:∀u∈x,u<n) (hy:∀u∈y,u<n) (a:∀u∈z,u<n):
  c6 178 #[J (I ⟨G,0,O⟩) n cG,E yW (aB x:Nat),E yW (aB y:Nat),E yW (aB z:Nat)] w fun e w'=>∃az,e=yk (zd az)/\(az=xq↔∃v c,v∈y/\iN (fun u v=>u∈P.getD v []) (·∈x) (·∈z) (·∈dG P z n) v c)/\da w w':=by
 obtain⟨kl,dD⟩:=apz;have a1:=Fa dD;have Mv:=Fa (aid G n cG P w hn h8 hU ZM);have wD:=Fa (fun (U:wA) (hb:da w U)=>aiO G n cG P z U hn h8 (hU.aa hb hU.lt) ZM a);have s8:∀ {s:Jp},(∀u∈s,u<n) ->∀u∈s,u<8:=fun h u hu=>by have:=h u hu;omega
 have bp:∀u∈dG P z n,u<n:=LZ (fun v u hu=>(hP v u hu).1) a n;have bd:=Fa (fun (v:Nat) (U:wA) (B1:v<8)=>Kt y v U (s8 hy) B1);have Gs:=Fa (fun (v:Nat) (U:wA) (B1:v<8)=>Kt z v U (s8 a) B1);have U8:=Fa (fun (v:Nat) (U:wA) (B1:v<8)=>Kt (dG P z n) v U (s8 bp) B1);have aR:=Fa (fun (B:Nat) (U:wA) (hB:B<=U.heap.size)=>aau B (J O 0 0) [] x xq U (s8 hx) ⟨rfl,yp ⟨rfl,rfl⟩⟩ aE hB);have aM:we (∀(v:Nat),v< n ->∀(B:Nat) (M:wQ) (l:List (Nat×Bool)) (U:wA),xJ U B M l ->Z l<=1000 ->B<=U.heap.size ->c6 221 #[M,E yW (aB (P.getD v []):Nat),zd xq] U fun e w'=>∃v',e=yk v'/\xJ w' B v' (l++(bX (P.getD v []) 8).map fun u=>(u,xq))/\G9 U w' M v'):=fun v _ B M l U h1 h2 h3=>aau B M l (P.getD v []) xq U (s8 fun u hu=>(hP v u hu).1) h1 h2 h3;have aJ:we (∀(v:Nat),v< n ->∀(B:Nat) (M:wQ) (l:List (Nat×Bool)) (U:wA),xJ U B M l ->Z l<=1000 ->B<=U.heap.size ->c6 221 #[M,E yW (aB (eY P v n):Nat),zd x3] U fun e w'=>∃v',e=yk v'/\xJ w' B v' (l++(bX (eY P v n) 8).map fun u=>(u,x3))/\G9 U w' M v'):=fun v _ B M l U h1 h2 h3=>aau B M l (eY P v n) x3 U (s8 fun u hu=>(Gj.1 hu).1) h1 h2 h3
 have bb:we (∀(U:wA),da w U ->∀v,v< n ->AJ U ⟨G,v,O⟩=I (E yW (aB (P.getD v []):Nat))):=fun U hb v B1=>by
  have:=(hU.aa hb hU.lt).cell v (by rw[dm,hn];exact B1);rw[this,Fq (by rw[hn];exact B1)]
 have aW:we (∀(U:wA) (g:Nat),dw U g ((lY P n n).map aB) ->∀v,v< n ->AJ U ⟨g,v,O⟩=I (E yW (aB (eY P v n):Nat))):=fun U g h v B1=>by
  have:=h.cell v (by rw[dm,aaB];exact B1);rw[this];simp[lY]
 have mO:=Fa (sW.new (P:=P) (n:=n) (y:=y) (z:=z) (an:=dG P z n) hx h8);have ze:=Fa (fun (S T:List (Nat×Bool)) (p:Nat×Bool) (h:sW P n x y z (dG P z n) S (T++[p])) (h1:¬p∈S) (h2:¬p.1∈y)=>h.add hP h1 h2);have JC:=Fa (fun (S:List (Nat×Bool)) (h:sW P n x y z (dG P z n) S [])=>h.fin hP h8);have JD:=Fa (fun (S T:List (Nat×Bool)) (h:sW P n x y z (dG P z n) S T)=>h.few h8);have GF:we (∀p:Nat×Bool,Fc P n z (dG P z n) p=(if (p.2&&!decide (p.1∈z) ||!p.2&&decide (p.1∈dG P z n))=xq then(bX (P.getD p.1 []) 8).map fun u=>(u,xq) else[])++(if p.1∈z then[] else(bX (eY P p.1 n) 8).map fun u=>(u,x3))):=fun p=>rfl;clear hU hP ZM hx hy a bp s8 dD hn;generalize aB (dG P z n)=ma at *;have b3:= @run_makeMap prog;go_enter func178,ntmps178;go_wp2_with fail
 go_step3
 go_wp2_with fail
 refine Mv.o.af ?_;rintro e w1 ⟨rfl,bs,aq⟩;have bo:=Fa (wD.o w1 aq);have cO:=Fa aq;have kI:=Fa bs;clear aq bs Mv wD;go_wp2_with fail
 refine bo.o.af ?_;rintro e b ⟨rfl,ar⟩;have aZ:=Fa (cO.o.trans (ar.af cO.o.size));have eD:=Fa (kI.o.aa ar kI.o.lt);clear ar bo cO kI;have hA:=(aw b.heap.size b).alloc (ak _) (.map #[] 0);have i:(b.alloc (.map #[] 0)).heap.size=b.heap.size+1:=aE
 have eE:=Fa (aZ.o.trans (hA.af aZ.o.size));have jd:=Fa (eD.o.aa hA eD.o.lt);have GX:=Fa (CJ.new kl b);have bm:=Fa (aR.o (b.heap.size+1) (b.alloc (.map #[] 0)) (by rw[i];exact ak _));have bu:w.heap.size<=b.heap.size:=aZ.o.size;clear hA aR aZ;go_wp2_with fail
 refine bm.o.af ?_;rintro e w4 ⟨bF,rfl,YS,br⟩;rw[iH] at YS
 have rP:we (xK kl (b.alloc (.map #[] 0)) b.heap.size [] ((bX x 8).map fun u=>(u,xq)) (.map []) bF w4):=
  (xK.mk (W:=[]) (wv:=J O 0 0) GX.o ⟨rfl,yp ⟨rfl,rfl⟩⟩ (World.grownBy.refl _ _)).more (by rw[i];omega) (by rw[i];exact YS) br
 clear YS br bm GX;go_wp2_with fail
 go_step3
 go_wp2_with fail
 go_loopg [12] 2000 (fun k wv wr=>∃(S W:List (Nat×Bool)) (D:DataW Unit) (d:Kd) (c:Nat),wv=J d (Z W) c/\we (sW P n x y z (dG P z n) S W)/\we (xK kl (b.alloc (.map #[] 0)) b.heap.size S W D (J d (Z W) c) wr)/\(16 - Z S)*100+Z W<=k)
 case atStart=>
  obtain⟨d0,c0,rfl⟩:=rP.o.row.shape;refine⟨[],_,_,d0,c0,rfl,mO,rP,?_⟩;have:=lS x 8;simp;omega
 case round=>
  obtain⟨S,W,D,d,c,rfl,B9,GU,Lh⟩:=hrel;clear rP mO
  have bN:b.heap.size+1<=wr.heap.size:=by
   have:=GU.o.fr.size;rw[i] at this;exact this
  have y9:we (da w wr):=eE.o.grown GU.o.fr (by rw[i];omega) (fun k e=>by cases e;exact bu);have b1:=JD.o S W B9.o;have Tv:=B9.o.len;rcases List.eq_nil_or_concat W with rfl |⟨T,p,rfl⟩
  ·go_wp2;rw[Exit.noGoto_ret];go_ret;exact⟨x3,rfl,⟨(fun e=>by cases e),fun e=>absurd e (JC.o S B9.o)⟩,y9.o⟩
  ·rw[List.concat_eq_append] at B9 GU Lh Tv⊢;obtain⟨g,rfl,bC,b2,bO,b0,oN,b4,b5,hT⟩:=GU.o.row.init;obtain⟨pv,j⟩:=p;have HT:=Fa hT;clear hT bC;(have bw:Z (T++[(pv,j)])=Z T+1:=aE);rw[bw] at GU Lh Tv⊢;(have ZG:Z T<=300:=al);clear bw Tv;have av:=B9.o.low (pv,j) (xS (JU _ dA));have oK:pv<n:=av.1;have bx:=Fa av.2;have ay:keyOf prog 243 (zp #[E yR (pv:Nat),zd j])=I (kl (pv,j)):=a1.o (pv,j) (by show pv<8;omega);have a6:we (xK kl (b.alloc (.map #[] 0)) b.heap.size S T D (J (I ⟨g,0,O⟩) (Z T) c) wr):=⟨GU.o.map,HT.o,GU.o.fr⟩;have mP:=Fa (a6.o.alloc (yd #[E yR (pv:Nat),zd j] 243));have ai:=Fa (mP.o.alloc (yd #[] 244));have bk:=dU wr (yd #[E yR (pv:Nat),zd j] 243);(have Dm:(AC wr (yd #[E yR (pv:Nat),zd j] 243)).heap.size=wr.heap.size+1:=aE)
   have bt:(AC (AC wr (yd #[E yR (pv:Nat),zd j] 243)) (yd #[] 244)).heap[wr.heap.size]? =I (yd #[E yR (pv:Nat),zd j] 243 (0,0)):=by
    rw[uY _ _ _ (by rw[Dm];omega)];exact bk
   have bT:=Fa bt;clear av bk bt Dm GU HT a6;by_cases ab:(pv,j)∈S
   ·have bJ:Maps.has D (kl (pv,j))=true:=by rw[mP.o.map.has (pv,j) (by show pv<8;omega),cJ ab]
    have wh:=Fa (B9.o.skip ab);clear ab
    go_wp2_with (first
     |(at_lookup;refine wpList_lookup_own_unit _ rfl _ _ 239 rfl 243 244 NV underlying239 (aby _) b.heap.size (Z S) D rfl mP.o.map.own _ _ rfl ay ?_))
    go_roundg ((16 - Z S)*100+Z T)
    case measure=>omega
    case rel=>exact⟨S,T,D,_,c,rfl,wh,ai,ak _⟩
   ·have bJ:Maps.has D (kl (pv,j))=false:=by rw[mP.o.map.has (pv,j) (by show pv<8;omega),cT ab]
    have CA:=Fa ab;clear ab
    go_wp2_with (first
     |(at_lookup;refine wpList_lookup_own_unit _ rfl _ _ 239 rfl 243 244 NV underlying239 (aby _) b.heap.size (Z S) D rfl mP.o.map.own _ _ rfl ay ?_)
     |(at_mapUpdate;refine wpList_mapUpdate_own _ rfl _ _ _ 239 rfl 243 244 NV underlying239 (unitElem (H:=Unit)) b.heap.size (Z S) D rfl ai.o.map.own (by unfold maxLen;omega) _ _ _ rfl rfl ay _ [] unitElem_mk ?_;intro m FP F4;have F:=Fa (ai.o.put a1.o (by rw[i];omega) (p:=(pv,j)) (by show pv<8;omega) FP F4);have QE:=Fa (TN bT.o F4 (by intro e;injection e with e;omega));obtain⟨X8,X7⟩:=Uo QE.o;clear FP F4))
    have ax:wr.heap.size+1<=m.heap.size:=by
     have:=(c5.1 QE.o).1;omega
    have fh:we (da w m):=eE.o.grown F.o.fr (by rw[i];omega) (fun k e=>by cases e;exact bu);refine(bd.o pv m al).af ?_;rintro e q ⟨rfl,f⟩;rw[f];clear f q;by_cases hy:pv∈y
    ·rw[cJ hy];have bz:=Fa hy;clear hy;go_wp2;rw[Exit.noGoto_ret];go_ret;exact⟨xq,rfl,⟨fun _=>⟨pv,j,bz.o,bx.o⟩,fun _=>rfl⟩,fh.o⟩
    ·rw[cT hy];have Mm:=Fa hy;have AG:=Fa (bb.o m fh.o pv oK);have ae:we (∀U:wA,(b.alloc (.map #[] 0)).grownBy U (I b.heap.size) ->AJ U ⟨w.heap.size,pv,O⟩=I (E yW (aB (eY P pv n):Nat))):=fun U hU=>aW.o U w.heap.size ((hU.block w.heap.size jd.o.lt (by intro e;injection e with e;have:=eD.o.lt;omega)).trans jd.o) pv oK;have aj:=Fa (aM.o pv oK);have ao:=Fa (aJ.o pv oK);clear hy bd bb aW aM aJ;generalize aB (P.getD pv [])=mu at *;generalize aB (eY P pv n)=md at *;cases j with
     |true=>
      by_cases a:pv∈z
      ·go_wp2_with fail
       refine(Gs.o pv m al).af ?_;rintro e q ⟨rfl,f⟩;rw[f,cJ a];clear f q;go_wp2_with fail
       refine(Gs.o pv m al).af ?_;rintro e q ⟨rfl,f⟩;rw[f,cJ a];clear f q;go_wp2;have B2:=Fa (ze.o S T (pv,xq) B9.o CA.o Mm.o);rw[GF.o] at B2;have V:=JD.o _ _ B2.o;(have K:(if ((pv,xq).2&&!decide ((pv,xq).1∈z) ||!(pv,xq).2&&decide ((pv,xq).1∈dG P z n))=xq then(bX (P.getD (pv,xq).1 []) 8).map (fun u=>(u,xq)) else[])=([]:List (Nat×Bool)):=by simp[a]);(have L:(if (pv,xq).1∈z then[] else(bX (eY P (pv,xq).1 n) 8).map (fun u=>(u,x3)))=([]:List (Nat×Bool)):=by simp[a]);rw[K,L] at B2;rw[lh] at B2;rw[lh] at B2;have ad:=lS (P.getD pv []) 8;have bA:=lS (eY P pv n) 8;skip
       skip
       have pF:Z T<=Z T+16:=by
        skip
        skip
        (try simp only[cD,dm])
        omega
       rw[dX] at V;go_roundg ((16 - (Z S+1))*100+Z T)
       case measure=>omega
       case rel=>exact⟨_,_,_,_,_,rfl,B2,F,ak _⟩
      ·go_wp2_with fail
       refine(Gs.o pv m al).af ?_;rintro e q ⟨rfl,f⟩;rw[f,cT a];clear f q;have Ox:=AG.o;go_wp2_with fail
       refine(aj.o _ _ T m F.o.row al (by rw[i];omega)).af ?_;rintro e B7 ⟨v7,rfl,FT,A⟩;have X:=Fa (F.o.more (by rw[i];omega) FT A);have EH:=Fa (TN QE.o A.1 (fun e=>by have e':wr.heap.size=g:=kg e;omega));have wj:=Fa (aO ax A.1.size);have S3:wr.heap.size+1<=B7.heap.size:=wj.o
       have Y:we (Z (T++(bX (P.getD pv []) 8).map fun u=>(u,xq))<=400):=by
        have:=lS (P.getD pv []) 8;show _<=_;rw[cD,dm];omega
       obtain⟨bg,bf⟩:=Uo EH.o;clear X8 X7 FT A Ox;obtain⟨r,B6⟩:∃r,T++(bX (P.getD pv []) 8).map (fun u=>(u,xq))=r:=⟨_,rfl⟩;rw[B6] at X Y;have Gv:=Fa B6;have Y4:Z r<=400:=Y.o;clear B6;obtain⟨d7,c7,rfl⟩:=X.o.row.shape;go_wp2_with fail
       refine(Gs.o pv B7 al).af ?_;rintro e q ⟨rfl,f⟩;rw[f,cT a];clear f q;have Oz:=ae.o B7 X.o.fr;go_wp2_with fail
       refine(ao.o _ _ r B7 X.o.row (by have:=Y.o;omega) (by rw[i];omega)).af ?_;rintro e w8 ⟨v8,rfl,FR,xg⟩;have Q:=Fa (X.o.more (by rw[i];omega) FR xg);clear FR xg Oz;obtain⟨t,R⟩:∃t,r++(bX (eY P pv n) 8).map (fun u=>(u,x3))=t:=⟨_,rfl⟩;rw[R] at Q;have Gu:=Fa R;clear R;obtain⟨d8,c8,rfl⟩:=Q.o.row.shape;go_wp2;have B2:=Fa (ze.o S T (pv,xq) B9.o CA.o Mm.o);rw[GF.o] at B2;have V:=JD.o _ _ B2.o;(have K:(if ((pv,xq).2&&!decide ((pv,xq).1∈z) ||!(pv,xq).2&&decide ((pv,xq).1∈dG P z n))=xq then(bX (P.getD (pv,xq).1 []) 8).map (fun u=>(u,xq)) else[])=(bX (P.getD pv []) 8).map (fun u=>(u,xq)):=by simp[a]);(have L:(if (pv,xq).1∈z then[] else(bX (eY P (pv,xq).1 n) 8).map (fun u=>(u,x3)))=(bX (eY P pv n) 8).map (fun u=>(u,x3)):=by simp[a]);rw[K,L] at B2;rw[<- qj] at B2;have ad:=lS (P.getD pv []) 8;have bA:=lS (eY P pv n) 8;rw[Gv.o] at B2;rw[Gu.o] at B2
       have pF:Z t<=Z T+16:=by
        rw[<- Gu.o];rw[<- Gv.o];(try simp only[cD,dm])
        omega
       rw[dX] at V;go_roundg ((16 - (Z S+1))*100+Z t)
       case measure=>omega
       case rel=>exact⟨_,_,_,_,_,rfl,B2,Q,ak _⟩
     |false=>
      by_cases ha:pv∈dG P z n
      ·by_cases a:pv∈z
       ·go_wp2_with fail
        refine(U8.o pv m al).af ?_;rintro e q ⟨rfl,f⟩;rw[f,cJ ha];clear f q;have Ox:=AG.o;go_wp2_with fail
        refine(aj.o _ _ T m F.o.row al (by rw[i];omega)).af ?_;rintro e B7 ⟨v7,rfl,FT,A⟩;have X:=Fa (F.o.more (by rw[i];omega) FT A);have EH:=Fa (TN QE.o A.1 (fun e=>by have e':wr.heap.size=g:=kg e;omega));have wj:=Fa (aO ax A.1.size);have S3:wr.heap.size+1<=B7.heap.size:=wj.o
        have Y:we (Z (T++(bX (P.getD pv []) 8).map fun u=>(u,xq))<=400):=by
         have:=lS (P.getD pv []) 8;show _<=_;rw[cD,dm];omega
        obtain⟨bg,bf⟩:=Uo EH.o;clear X8 X7 FT A Ox;obtain⟨r,B6⟩:∃r,T++(bX (P.getD pv []) 8).map (fun u=>(u,xq))=r:=⟨_,rfl⟩;rw[B6] at X Y;have Gv:=Fa B6;have Y4:Z r<=400:=Y.o;clear B6;obtain⟨d7,c7,rfl⟩:=X.o.row.shape;go_wp2_with fail
        refine(Gs.o pv B7 al).af ?_;rintro e q ⟨rfl,f⟩;rw[f,cJ a];clear f q;go_wp2;have B2:=Fa (ze.o S T (pv,x3) B9.o CA.o Mm.o);rw[GF.o] at B2;have V:=JD.o _ _ B2.o;(have K:(if ((pv,x3).2&&!decide ((pv,x3).1∈z) ||!(pv,x3).2&&decide ((pv,x3).1∈dG P z n))=xq then(bX (P.getD (pv,x3).1 []) 8).map (fun u=>(u,xq)) else[])=(bX (P.getD pv []) 8).map (fun u=>(u,xq)):=by simp[ha]);(have L:(if (pv,x3).1∈z then[] else(bX (eY P (pv,x3).1 n) 8).map (fun u=>(u,x3)))=([]:List (Nat×Bool)):=by simp[a]);rw[K,L] at B2;rw[lh] at B2;have ad:=lS (P.getD pv []) 8;have bA:=lS (eY P pv n) 8;rw[Gv.o] at B2;skip
        have pF:Z r<=Z T+16:=by
         skip
         rw[<- Gv.o];(try simp only[cD,dm])
         omega
        rw[dX] at V;go_roundg ((16 - (Z S+1))*100+Z r)
        case measure=>omega
        case rel=>exact⟨_,_,_,_,_,rfl,B2,X,ak _⟩
       ·go_wp2_with fail
        refine(U8.o pv m al).af ?_;rintro e q ⟨rfl,f⟩;rw[f,cJ ha];clear f q;have Ox:=AG.o;go_wp2_with fail
        refine(aj.o _ _ T m F.o.row al (by rw[i];omega)).af ?_;rintro e B7 ⟨v7,rfl,FT,A⟩;have X:=Fa (F.o.more (by rw[i];omega) FT A);have EH:=Fa (TN QE.o A.1 (fun e=>by have e':wr.heap.size=g:=kg e;omega));have wj:=Fa (aO ax A.1.size);have S3:wr.heap.size+1<=B7.heap.size:=wj.o
        have Y:we (Z (T++(bX (P.getD pv []) 8).map fun u=>(u,xq))<=400):=by
         have:=lS (P.getD pv []) 8;show _<=_;rw[cD,dm];omega
        obtain⟨bg,bf⟩:=Uo EH.o;clear X8 X7 FT A Ox;obtain⟨r,B6⟩:∃r,T++(bX (P.getD pv []) 8).map (fun u=>(u,xq))=r:=⟨_,rfl⟩;rw[B6] at X Y;have Gv:=Fa B6;have Y4:Z r<=400:=Y.o;clear B6;obtain⟨d7,c7,rfl⟩:=X.o.row.shape;go_wp2_with fail
        refine(Gs.o pv B7 al).af ?_;rintro e q ⟨rfl,f⟩;rw[f,cT a];clear f q;have Oz:=ae.o B7 X.o.fr;go_wp2_with fail
        refine(ao.o _ _ r B7 X.o.row (by have:=Y.o;omega) (by rw[i];omega)).af ?_;rintro e w8 ⟨v8,rfl,FR,xg⟩;have Q:=Fa (X.o.more (by rw[i];omega) FR xg);clear FR xg Oz;obtain⟨t,R⟩:∃t,r++(bX (eY P pv n) 8).map (fun u=>(u,x3))=t:=⟨_,rfl⟩;rw[R] at Q;have Gu:=Fa R;clear R;obtain⟨d8,c8,rfl⟩:=Q.o.row.shape;go_wp2;have B2:=Fa (ze.o S T (pv,x3) B9.o CA.o Mm.o);rw[GF.o] at B2;have V:=JD.o _ _ B2.o;(have K:(if ((pv,x3).2&&!decide ((pv,x3).1∈z) ||!(pv,x3).2&&decide ((pv,x3).1∈dG P z n))=xq then(bX (P.getD (pv,x3).1 []) 8).map (fun u=>(u,xq)) else[])=(bX (P.getD pv []) 8).map (fun u=>(u,xq)):=by simp[ha]);(have L:(if (pv,x3).1∈z then[] else(bX (eY P (pv,x3).1 n) 8).map (fun u=>(u,x3)))=(bX (eY P pv n) 8).map (fun u=>(u,x3)):=by simp[a]);rw[K,L] at B2;rw[<- qj] at B2;have ad:=lS (P.getD pv []) 8;have bA:=lS (eY P pv n) 8;rw[Gv.o] at B2;rw[Gu.o] at B2
        have pF:Z t<=Z T+16:=by
         rw[<- Gu.o];rw[<- Gv.o];(try simp only[cD,dm])
         omega
        rw[dX] at V;go_roundg ((16 - (Z S+1))*100+Z t)
        case measure=>omega
        case rel=>exact⟨_,_,_,_,_,rfl,B2,Q,ak _⟩
      ·by_cases a:pv∈z
       ·go_wp2_with fail
        refine(U8.o pv m al).af ?_;rintro e q ⟨rfl,f⟩;rw[f,cT ha];clear f q;go_wp2_with fail
        refine(Gs.o pv m al).af ?_;rintro e q ⟨rfl,f⟩;rw[f,cJ a];clear f q;go_wp2;have B2:=Fa (ze.o S T (pv,x3) B9.o CA.o Mm.o);rw[GF.o] at B2;have V:=JD.o _ _ B2.o;(have K:(if ((pv,x3).2&&!decide ((pv,x3).1∈z) ||!(pv,x3).2&&decide ((pv,x3).1∈dG P z n))=xq then(bX (P.getD (pv,x3).1 []) 8).map (fun u=>(u,xq)) else[])=([]:List (Nat×Bool)):=by simp[ha]);(have L:(if (pv,x3).1∈z then[] else(bX (eY P (pv,x3).1 n) 8).map (fun u=>(u,x3)))=([]:List (Nat×Bool)):=by simp[a]);rw[K,L] at B2;rw[lh] at B2;rw[lh] at B2;have ad:=lS (P.getD pv []) 8;have bA:=lS (eY P pv n) 8;skip
        skip
        have pF:Z T<=Z T+16:=by
         skip
         skip
         (try simp only[cD,dm])
         omega
        rw[dX] at V;go_roundg ((16 - (Z S+1))*100+Z T)
        case measure=>omega
        case rel=>exact⟨_,_,_,_,_,rfl,B2,F,ak _⟩
       ·go_wp2_with fail
        refine(U8.o pv m al).af ?_;rintro e q ⟨rfl,f⟩;rw[f,cT ha];clear f q;go_wp2_with fail
        refine(Gs.o pv m al).af ?_;rintro e q ⟨rfl,f⟩;rw[f,cT a];clear f q;have Oz:=ae.o m F.o.fr;go_wp2_with fail
        refine(ao.o _ _ T m F.o.row al (by rw[i];omega)).af ?_;rintro e w8 ⟨v8,rfl,FR,xg⟩;have Q:=Fa (F.o.more (by rw[i];omega) FR xg);clear FR xg Oz;obtain⟨t,R⟩:∃t,T++(bX (eY P pv n) 8).map (fun u=>(u,x3))=t:=⟨_,rfl⟩;rw[R] at Q;have Gu:=Fa R;clear R;obtain⟨d8,c8,rfl⟩:=Q.o.row.shape;go_wp2;have B2:=Fa (ze.o S T (pv,x3) B9.o CA.o Mm.o);rw[GF.o] at B2;have V:=JD.o _ _ B2.o;(have K:(if ((pv,x3).2&&!decide ((pv,x3).1∈z) ||!(pv,x3).2&&decide ((pv,x3).1∈dG P z n))=xq then(bX (P.getD (pv,x3).1 []) 8).map (fun u=>(u,xq)) else[])=([]:List (Nat×Bool)):=by simp[ha]);(have L:(if (pv,x3).1∈z then[] else(bX (eY P (pv,x3).1 n) 8).map (fun u=>(u,x3)))=(bX (eY P pv n) 8).map (fun u=>(u,x3)):=by simp[a]);rw[K,L] at B2;rw[iH] at B2;have ad:=lS (P.getD pv []) 8;have bA:=lS (eY P pv n) 8;skip
        rw[Gu.o] at B2
        have pF:Z t<=Z T+16:=by
         rw[<- Gu.o];skip
         (try simp only[cD,dm])
         omega
        rw[dX] at V;go_roundg ((16 - (Z S+1))*100+Z t)
        case measure=>omega
        case rel=>exact⟨_,_,_,_,_,rfl,B2,Q,ak _⟩
variable {U:wA}
def ApR (L:List Kx) (x y z:Kx) (e:Ending):Prop:=
 (bq L≠0/\e=yk (zz #[zd x3,E yR (bq L)]))∨(bq L=0/\js (Z L) [x,y,z]=x3/\e=yk (zz #[zd x3,E yR 11]))∨
 (bq L=0/\js (Z L) [x,y,z]=xq/\e=yk (zz #[zd (!wT L x y z),E yR 0]))
theorem Wq {bx by' bz:Kd} {cx cy cz:Nat} {x y z:Kx} (b:aC U bx x) (c:aC U by' y) (d:aC U bz z):ei (AC U (yd #[J bx (Z x) cx,J by' (Z y) cy,J bz (Z z) cz] 27)) (I ⟨U.heap.size,0,O⟩) [x,y,z]:=fun k a=>by
 have h:=(aw U.heap.size U).alloc (ak _) (yd #[J bx (Z x) cx,J by' (Z y) cy,J bz (Z z) cz] 27);have e:=dU U (yd #[J bx (Z x) cx,J by' (Z y) cy,J bz (Z z) cz] 27);have l:=(c5.1 e).1;match k,a with
 |0,_=>exact⟨_,0,bx,cx,rfl,l,by rw[a8 _ U.heap.size _ _ _ (0,0) e];rfl,b.aa h⟩
 |1,_=>exact⟨_,0,by',cy,rfl,l,by rw[a8 _ U.heap.size _ _ _ (0,0) e];rfl,c.aa h⟩
 |2,_=>exact⟨_,0,bz,cz,rfl,l,by rw[a8 _ U.heap.size _ _ _ (0,0) e];rfl,d.aa h⟩
theorem ark (a bx by' bz:Kd) (ca cx cy cz:Nat) (L:List Kx) (x y z:Kx) (w:wA) (h:ei w a L) (hl:∀l∈L,Z l<=140737488355328) (hx:aC w bx x) (hy:aC w by' y) (hz:aC w bz z) (pz:Z x<=140737488355328) (K0:Z y<=140737488355328) (bg:Z z<=140737488355328):
  c6 124 #[J a (Z L) ca,J bx (Z x) cx,J by' (Z y) cy,J bz (Z z) cz] w fun e w'=>da w w'/\ApR L x y z e:=by
 have HR:=Fa (TX a ca L w h hl);have td:we (∀U:wA,da w U ->ei (AC U (yd #[J bx (Z x) cx,J by' (Z y) cy,J bz (Z z) cz] 27)) (I ⟨U.heap.size,0,O⟩) [x,y,z]):=fun U f=>Wq (hx.aa f) (hy.aa f) (hz.aa f)
 have yT:we (bq L=0 ->∀(G:Nat) (U:wA),ei U (I ⟨G,0,O⟩) [x,y,z] ->c6 177 #[J (I ⟨G,0,O⟩) 3 3,E yR (Z L:Nat)] U fun e w'=>da U w'/\
   ((k5 [x,y,z] (Z L)=xq/\∃G,e=yk (zz #[J (I ⟨G,0,O⟩) 3 3,zd xq])/\U.heap.size<=G/\dw w' G (jB [x,y,z]))∨(k5 [x,y,z] (Z L)=x3/\e=yk (zz #[J O 0 0,zd x3])))):=fun g G U f=>acV (I ⟨G,0,O⟩) 3 (Z L) [x,y,z] U f aE (mK (vR g).1).2.1 (fun l al=>by
  simp only[bU,gw,jf] at al;rcases al with rfl |rfl |rfl<;>assumption)
 have aW:k5 [x,y,z] (Z L)=xq ->Up x (Z L)/\Up y (Z L)/\Up z (Z L):=fun d=>⟨mC (fG.1 d x aE),mC (fG.1 d y aE),mC (fG.1 d z aE)⟩
 have P:we (bq L=0 ->k5 [x,y,z] (Z L)=xq ->∀(G c:Nat) (U:wA),dw U G (jB L) ->c6 178 #[J (I ⟨G,0,O⟩) (Z L) c,E yW (aB (ag x):Nat),E yW (aB (ag y):Nat),E yW (aB (ag z):Nat)] U fun e w'=>∃q,e=yk (zd q)/\(js (Z L) [x,y,z]=xq ->q=wT L x y z)/\da U w'):=fun g d G c U f=>by
  have ab:=(vR g).1;have h8:=(mK ab).2.1;obtain⟨j,k,h3⟩:=aW d;rw[Ih] at f;refine(apG G (Z L) c (aI L) (ag x) (ag y) (ag z) U (kp L) h8 f (fun v u m=>KF ab m) (KE ab) (tA j) (tA k) (tA h3)).af ?_;rintro e w' ⟨q,rfl,T,hb⟩;exact⟨q,rfl,fun a6=>wL.2 (T.trans (aep g h8 a6).symm),hb⟩
 have M:we (k5 [x,y,z] (Z L)=xq ->(js (Z L) [x,y,z]=xq↔aB ((ag x).filter fun v=>decide (v∈ag y))=0/\aB ((ag x++ag y).filter fun v=>decide (v∈ag z))=0)):=aiF;have Q:we (k5 [x,y,z] (Z L)=x3 ->js (Z L) [x,y,z]=x3):=fun d=>by rw[js,d];rfl
 have V:we (bq L=0 ->k5 [x,y,z] (Z L)=xq ->bits BinOp.and IntKind.u32 (aB (ag x):Nat) (aB (ag y):Nat)=((aB ((ag x).filter fun v=>decide (v∈ag y)):Nat):Int)/\bits BinOp.or IntKind.u32 (aB (ag x):Nat) (aB (ag y):Nat)=((aB (ag x++ag y):Nat):Int)/\bits BinOp.and IntKind.u32 (aB (ag x++ag y):Nat) (aB (ag z):Nat)=((aB ((ag x++ag y).filter fun v=>decide (v∈ag z)):Nat):Int)):=fun g d=>by
  have h8:=(mK (vR g).1).2.1;obtain⟨j,k,h3⟩:=aW d;have n:∀u∈ag x,u<8:=fun u m=>by have:=tA j u m;omega
  have s:∀u∈ag y,u<8:=fun u m=>by have:=tA k u m;omega
  have k3:∀u∈ag z,u<8:=fun u m=>by have:=tA h3 u m;omega
  exact⟨aiq _ _ n s,Uq _ _ n s,aiq _ _ (aaL n s) k3⟩
 have X:we (jB [x,y,z]=[aB (ag x),aB (ag y),aB (ag z)]):=rfl;clear h hl hx hy hz aW;go_enter func124,ntmps124;go_wp2_with fail
 refine HR.o.af ?_;rintro e Y ⟨B6,⟨g,G,rfl,hG,f⟩ |⟨g,rfl⟩⟩
 ·have B2:=Fa B6;have R:=Fa g;have HU:=Fa f;have iw:=Fa (yT.o g Y.heap.size _ (td.o Y B6));have hA:=(aw Y.heap.size Y).alloc (ak _) (yd #[J bx (Z x) cx,J by' (Z y) cy,J bz (Z z) cz] 27);have A:=Fa hA;clear B6 hA HR yT td g f;go_wp2_with fail
  refine iw.o.af ?_;rintro e t ⟨K,⟨d,b,rfl,Lt,D⟩ |⟨d,rfl⟩⟩
  ·have B1:=Fa ((B2.o.trans (A.o.af B2.o.size)).trans (K.af (aO B2.o.size A.o.size)));obtain⟨bb,yD,aM⟩:=V.o R.o d;have B9:=M.o d;have ai:dw t G (jB L):=((HU.o.aa A.o HU.o.lt)).aa K (aT HU.o.lt A.o.size);have aJ:=Fa ai;rw[X.o] at D;have Jj:=Fa D;have k0:=D.cell 0 aE;have n:=D.cell 1 aE;have s:=D.cell 2 aE;have aR:=Fa (P.o R.o d G (Z L));simp only[List.getElem_cons_zero,VX] at k0 n s;clear d K iw P M V X Q D ai;generalize aB ((ag x).filter fun v=>decide (v∈ag y))=ax at *;generalize aB ((ag x++ag y).filter fun v=>decide (v∈ag z))=ae at *;generalize aB (ag x++ag y)=mu at *;generalize aB (ag x)=F at *;generalize aB (ag y)=H at *;generalize aB (ag z)=B7 at *;by_cases j:ax=0
   ·by_cases k:ae=0
    ·have i:=Fa (B9.2 ⟨j,k⟩);subst j;subst k;clear B9;go_upto_region 7 with (go_quiet (fail))
     have az:we (dw (t.drewN nq) b [F,H,B7]):=Jj.o;have a1:we (dw (t.drewN nq).drew G (jB L)):=aJ.o;have eE:=Fa (below_drewN B1.o nq);have an:(t.drewN nq).drew.cell? ⟨b,0,O⟩=I (E yW (F:Nat)):=k0;have av:(t.drewN nq).drew.cell? ⟨b,1,O⟩=I (E yW (H:Nat)):=n;have NW:(t.drewN nq).drew.cell? ⟨b,2,O⟩=I (E yW (B7:Nat)):=s;clear k0 n s bb yD aM;generalize t.drewN nq=W3 at *;have ZU:=az.o.lt;have ay:we (∀U:wA,Below W3.drew.heap.size W3.drew U ->AJ U ⟨b,0,O⟩=I (E yW (F:Nat))/\U.cell? ⟨b,1,O⟩=I (E yW (H:Nat))/\U.cell? ⟨b,2,O⟩=I (E yW (B7:Nat))):=fun U f=>⟨(f.cell (p:=⟨b,0,O⟩) ZU).trans an,(f.cell (p:=⟨b,1,O⟩) ZU).trans av,(f.cell (p:=⟨b,2,O⟩) ZU).trans NW⟩;refine iD (S:=fun U=>AJ U ⟨b,0,O⟩=I (E yW (F:Nat))/\U.cell? ⟨b,1,O⟩=I (E yW (H:Nat))/\U.cell? ⟨b,2,O⟩=I (E yW (B7:Nat))) ao ⟨an,av,NW⟩ (fun ar=>?_);refine au 0 (J (I ⟨G,0,O⟩) (Z L) (Z L)) ?_;refine au 1 (J (I ⟨b,0,O⟩) 3 3) ?_;refine au 2 (zZ (I ⟨b,0,O⟩)) ?_;refine au 3 (E yW (F:Nat)) ?_;refine au 4 (J (I ⟨b,0,O⟩) 3 3) ?_;refine au 5 (zZ (I ⟨b,1,O⟩)) ?_;refine au 6 (E yW (H:Nat)) ?_;refine au 7 (J (I ⟨b,0,O⟩) 3 3) ?_;refine au 8 (zZ (I ⟨b,2,O⟩)) ?_;refine au 9 (E yW (B7:Nat)) ?_;refine aG [10] (cA ?_ aH);intro K' aj;go_simp
     refine(aR.o W3.drew a1.o).af ?_;rintro r w5 ⟨q,rfl,T,ad⟩;refine aj.o _ _ (ay.o w5 ad) (fun aq=>?_);clear aj K' ar;refine au 11 (zd (!q)) ?_;refine au 12 (zd (!q)) ?_;refine au 13 (E yR 0) ?_;(try simp only[gE,aP]);refine eV ao ?_ _;clear aq;have fh:we (da w w5):=eE.o.drew.trans (ad.af eE.o.drew.size);have HQ:=Fa (T i.o);clear T ad;go_wp2;go_ret2;exact⟨fh.o,xS (xS ⟨R.o,i.o,by rw[HQ.o];rfl⟩)⟩
    ·have i:we (js (Z L) [x,y,z]=x3):=V1.2 fun e=>k (B9.1 e).2;subst j;(have bf:((ae:Int)==0)=false:=by simp;omega);clear B9;go_wp2_with (go_quiet (fail))
     go_ret2;exact⟨below_drewN B1.o _,xS (yp ⟨R.o,i.o,rfl⟩)⟩
   ·have i:we (js (Z L) [x,y,z]=x3):=V1.2 fun e=>j (B9.1 e).1;(have bd:((ax:Int)==0)=false:=by simp;omega);clear B9;go_wp2_with (go_quiet (fail))
    go_ret2;exact⟨below_drewN B1.o _,xS (yp ⟨R.o,i.o,rfl⟩)⟩
  ·have i:=Fa (Q.o d);have B1:=Fa ((B2.o.trans (A.o.af B2.o.size)).trans (K.af (aO B2.o.size A.o.size)));clear d K iw P M V X Q;go_wp2_with (go_quiet (fail))
   go_ret2;exact⟨below_drewN B1.o _,xS (yp ⟨R.o,i.o,rfl⟩)⟩
 ·have Qu:=Fa g;have B2:=Fa B6;have ab:(bq L==0)=false:=by simpa using g
  clear g B6 td yT P M Q V X HR;generalize hge:bq L=ge at *;have Qv:=Fa hge;clear hge;go_wp2;go_ret2;exact⟨B2.o,yp ⟨by rw[Qv.o];exact Qu.o,by rw[Qv.o];rfl⟩⟩
theorem aj3 (h:Up l n):Z l<=n:=by
 have e:(ag l).Nodup:=CS.2 (zo.2 fun i j a b r=>by
  have d:=h.lt i j b r;have f:=h.each i a;omega)
 have:=Fm e (m:=List.range n) fun x c=>by
  have:=tA h x c;exact bR.2 this
 simpa [ag] using this
structure vV (L Ls:List Kx) (i:Nat) (bn:Kx):Prop where
 ok:0< i ->bq L=0
 ris:∀l∈Ls.take i,dZ l (Z L)=xq
 nd:(Ls.take i).flatten.Nodup
 up:Up bn (Z L)
 mem:∀x,x∈bn↔x∈(Ls.take i).flatten
theorem vV.start (L Ls:List Kx):vV L Ls 0 []:=⟨fun h=>absurd h al,(fun l a=>by cases a),aE,⟨fun i h=>absurd h aE,fun i j h=>absurd h aE⟩,fun x=>aE⟩
theorem Wu (h:i<Z Ls):(Ls.take (i+1)).flatten=(Ls.take i).flatten++Ls[i]:=by
 rw[ig h,List.flatten_append];simp
theorem vV.disj {bn:Kx} (h:vV L Ls i bn) (g:i<Z Ls) (r:dZ Ls[i] (Z L)=xq) (f:∀x∈Ls[i],¬x∈bn):(bn++Ls[i]).Nodup:=by
 refine oh.2 ⟨A8 h.up,A8 (mC r),fun a c b d e=>?_⟩;subst e;exact f a d c
theorem vV.next {bn:Kx} (h:vV L Ls i bn) (d:i<Z Ls) (k:bq L=0) (r:dZ Ls[i] (Z L)=xq) (j:∀x∈Ls[i],¬x∈bn):vV L Ls (i+1) (a7 bn Ls[i]):=by
 have u:=mC r;refine⟨fun _=>k,fun l c=>?_,?_,Hv h.up u,fun x=>?_⟩
 ·rw[ig d] at c;rcases bH.1 c with c |c
  ·exact h.ris l c
  ·rw[bD.1 c];exact r
 ·rw[Wu d];refine oh.2 ⟨h.nd,A8 u,fun a f b g e=>?_⟩;subst e;exact j a g ((h.mem a).2 f)
 ·rw[(C2 _ _).2,Wu d,bH,h.mem]
theorem vV.twice {bn:Kx} (h:vV L Ls i bn) (c:i<Z Ls) {x:Int} (d:x∈Ls[i]) (b:x∈bn):js (Z L) Ls=false:=by
 refine V1.2 fun e=>?_;have n:=(D9.1 e).2;rw[<- AX (i+1) Ls,List.flatten_append,Wu c] at n;have a:=(oh.1 (oh.1 n).1).2.2;exact a x ((h.mem x).1 b) x d rfl
theorem vV.fin {bn:Kx} (h:vV L Ls (Z Ls) bn) (p:0<Z Ls):jX L Ls=0:=by
 have a:=h.ris;have b:=h.nd;rw[iP] at a b;rw[jX,aA (h.ok p),aA (D9.2 ⟨a,b⟩)]
theorem acE (g:bq L=0) (h:js (Z L) Ls=x3):jX L Ls=11:=by rw[jX,aA g,aD (by rw[h];decide)]
theorem ak2 (g:bq L≠0):jX L Ls=bq L:=by rw[jX,aD g]
theorem atE (a:i<Z Ls) (h:dZ Ls[i] n=x3):js n Ls=false:=V1.2 fun e=>by
 have:=(D9.1 e).1 _ (bQ a);rw[h] at this;cases this
theorem anz {m:Kx}:Z (fT l m)<Z l↔∃x∈l,x∈m:=by
 rw[fT];constructor
 ·intro h;refine zq fun n=>?_;have e:l.filter (fun u=>decide (¬u∈m))=l:=List.filter_eq_self.2 fun x b=>cJ fun a=>n ⟨x,b,a⟩;rw[e] at h;omega
 ·rintro⟨x,b,a⟩;exact List.length_filter_lt_length_iff_exists.2 ⟨x,b,by simp[a]⟩
theorem alv (a s:Kd) (ca cs:Nat) (L Ls:List Kx) (w:wA) (h:ei w a L) (hl:∀l∈L,Z l<=140737488355328) (hs:ei w s Ls) (V:pU w s Ls) (X:∀l∈Ls,Z l<=1000) (hp:0<Z Ls) (YQ:Z Ls<=8):
  c6 73 #[J a (Z L) ca,J s (Z Ls) cs] w (dj w (E yR (jX L Ls))):=by
 have HF:we (∀i (v:i<Z Ls),∃g o b c,s=I ⟨g,o,O⟩/\g<w.heap.size/\w.cell? ⟨g,o+i,O⟩=I (J b Ls[i].length c)/\aC w b Ls[i]/\(b=O ->c=0)):=fun i v=>by
  obtain⟨g,o,b,c,Y,h2,h3,h4⟩:=hs i v;exact⟨g,o,b,c,Y,h2,h3,h4,V i v g o b _ c Y h3⟩
 have AA:=Fa X;have wD:=Fa (fun (b:Kd) (cb:Nat) (l:Kx) (U:wA) (hU:da w U) (m:aC U b l) (hn:Z l<=1000)=>aad a b ca cb L l U (h.aa hU) hl m al);have Cu:we (bq L=0 ->Z L<=8):=fun B9=>(mK (vR B9).1).2.1;have lF:=Fa (vV.start L Ls);have P:we (∀n,jX L Ls=n ->(Ending.returned (E yR n))=yk (E yR (jX L Ls))):=fun n e=>by rw[e]
 clear h hl hs V X;go_enter func73,ntmps73;go_wp2_with fail
 go_loopw [5,12] (fun bv iv wr=>∃(i:Nat) (bn:Kx) (d:Kd) (c:Nat),i<=Z Ls/\iv=E yR i/\bv=J d (Z bn) c/\we (vV L Ls i bn)/\we (aC wr d bn)/\we (d=O ->c=0)/\we (da w wr)) (fun _ iv _=>Z Ls - (intOf iv).toNat)
 case atStart=>exact⟨0,[],O,0,aX _,rfl,rfl,lF,(fun k hk=>absurd hk aE),(fun _=>rfl),aw _ _⟩
 case round=>
  obtain⟨i,bn,d,c,v,rfl,rfl,t,M,EE,H⟩:=hrel;clear lF;by_cases q:i<Z Ls
  ·obtain⟨g,o,b,cb,rfl,B9,hc,m,aj⟩:=HF.o i q;have kc:AJ wr ⟨g,o+i,O⟩=I (J b Ls[i].length cb):=(H.o.cell (p:=⟨g,_,O⟩) B9).trans hc;have az:=AA.o _ (bQ q);have K:=Fa (wD.o b cb Ls[i] wr H.o (m.aa H.o) az);have ab:=Fa (m.aa H.o);have tk:=Fa aj;have ax:we (dZ Ls[i] (Z L)=x3 ->js (Z L) Ls=x3):=atE q;have ar:we (∀x∈Ls[i],x∈bn ->js (Z L) Ls=x3):=fun x u m=>t.o.twice q u m;have aq:we (dZ Ls[i] (Z L)=xq ->(∀x∈Ls[i],¬x∈bn) ->(bn++Ls[i]).Nodup):=t.o.disj q;have wu:we (bq L=0 ->dZ Ls[i] (Z L)=xq ->(∀x∈Ls[i],¬x∈bn) ->vV L Ls (i+1) (a7 bn Ls[i])):=t.o.next q;have QF:=Fa (aj3 t.o.up);clear hc m aj t;generalize Ls[i]=f at *;go_wp2_with fail
   refine K.o.af ?_;rintro e w1 ⟨ay,y⟩;have B2:=Fa (H.o.trans (y.af H.o.size));have B1:=Fa (M.o.aa y);have B7:=Fa (ab.o.aa y);clear y K M ab kc;rcases ay with ⟨j,rfl⟩ |⟨j,r,rfl⟩ |⟨j,r,d2,Ul,rfl,nL⟩
   ·have aM:(bq L==0)=false:=by simpa using j
    have R:=Fa (P.o _ (ak2 j));clear j;generalize bq L=ge at *;go_wp2;go_ret;exact⟨R.o,B2.o⟩
   ·have R:=Fa (P.o _ (acE j (ax.o r)));clear j r;go_wp2;go_ret;exact⟨R.o,B2.o⟩
   ·have aJ:Z bn<=8:=aO QF.o (Cu.o j);have Q:=Fa (Xt b d cb c f bn w1 B7.o B1.o al al);have B6:we (Z (fT f bn)<Z f↔∃x∈f,x∈bn):=anz;have rR:=Fa j;have ad:=Fa r;generalize (Z (fV (dG (aI L) (ag f) (Z L))))=ml at *;generalize (Z (fT f bn))=ol at *;clear nL j r;go_wp2_with fail
    refine Q.o.af ?_;rintro e w2 ⟨d3,c3,rfl,_,_,z⟩;have A:=Fa (B2.o.trans (z.af B2.o.size));have AH:=Fa (B1.o.aa z);have av:=Fa (B7.o.aa z);clear z Q B1 B7;by_cases ae:ol<Z f
    ·have R:=Fa (P.o _ (acE rR.o (by obtain⟨x,u,F⟩:=B6.o.1 ae;exact ar.o x u F)));go_wp2;go_ret;exact⟨R.o,A.o⟩
    ·have D:∀x∈f,¬x∈bn:=fun x u F=>ae (B6.o.2 ⟨x,u,F⟩);have T:=Fa (ab4 d b c cb bn f w2 AH.o av.o EE.o tk.o al al (aq.o ad.o D));have HN:=Fa (wu.o rR.o ad.o D);clear D;go_wp2_with fail
     refine T.o.af ?_;rintro e w3 ⟨d4,c4,rfl,S,ai,an⟩;have eE:=Fa (A.o.trans (an.af A.o.size));have Jz:=Fa S;have ao:=Fa ai;clear S ai an T;go_wp2;go_roundw
     case rel=>exact⟨i+1,_,d4,c4,al,bd,rfl,HN,Jz,ao,eE⟩
     case measure=>simp[intOf];omega
  ·obtain rfl:i=Z Ls:=al
   have R:=Fa (P.o _ (t.o.fin hp));go_wp2;go_ret;exact⟨R.o,H.o⟩
theorem atg (a bx by' bz:Kd) (ca cx cy cz:Nat) (L:List Kx) (x y z:Kx) (w:wA) (h:ei w a L) (b:∀l∈L,Z l<=140737488355328) (c:aC w bx x) (d:aC w by' y) (f:aC w bz z) (j:Z x<=140737488355328) (K:Z y<=140737488355328) (m:Z z<=140737488355328) (g:bq L=0) (p:js (Z L) [x,y,z]=xq):
  c6 75 #[J a (Z L) ca,J bx (Z x) cx,J by' (Z y) cy,J bz (Z z) cz] w (dj w (zd (!wT L x y z))):=by
 have A:we (c6 124 #[J a (Z L) ca,J bx (Z x) cx,J by' (Z y) cy,J bz (Z z) cz] w fun e w'=>e=yk (zz #[zd (!wT L x y z),E yR 0])/\da w w'):=(ark a bx by' bz ca cx cy cz L x y z w h b c d f j K m).af fun e w' h=>by
  rcases h.2 with ⟨k,_⟩ |⟨_,k,_⟩ |⟨_,_,k⟩
  ·exact absurd g k
  ·rw[p] at k;cases k
  ·exact⟨k,h.1⟩
 clear h b c d f g p;generalize (!wT L x y z)=q at *;go_enter func75,ntmps75;go_wp2_with fail
 refine A.o.af ?_;rintro e n ⟨rfl,i⟩;have H:=Fa i;clear i;go_wp2;go_ret;exact⟨rfl,H.o⟩
theorem XU {s:Jp} {u:Nat} (a:u<8):(fV s).contains (u:Int)=decide (u∈s):=by
 refine wL.2 ?_;rw[CT,eM,fV,iL,aQ];constructor
 ·rintro⟨v,b,e⟩;obtain rfl:v=u:=al
  exact(vu.1 b).2
 ·exact fun h=>⟨u,vu.2 ⟨a,h⟩,rfl⟩
theorem atb (a b:Kd) (ca cb u:Nat) (L:List Kx) (l:Kx) (w:wA) (h:ei w a L) (m:∀l∈L,Z l<=140737488355328) (i:aC w b l) (K:Z l<=140737488355328) (g:bq L=0) (r:dZ l (Z L)=xq) (D:u<Z L):
  c6 74 #[J a (Z L) ca,E yR (u:Nat),J b (Z l) cb] w (dj w (zd (xF L u (ag l)))):=by
 have t:=(mK (vR g).1).2.1
 have A:we (c6 78 #[J a (Z L) ca,J b (Z l) cb] w fun e w'=>∃d c,e=yk (zz #[J d (Z (fV (dG (aI L) (ag l) (Z L)))) c,E yR 0])/\aC w' d (fV (dG (aI L) (ag l) (Z L)))/\da w w'):=(aad a b ca cb L l w h m i K).af fun e w' h=>by
  rcases h.1 with ⟨k,_⟩ |⟨_,k,_⟩ |⟨_,_,d,c,k,y⟩
  ·exact absurd g k
  ·rw[r] at k;cases k
  ·exact⟨d,c,k,y,h.2⟩
 have Q:we ((fV (dG (aI L) (ag l) (Z L))).contains (u:Int)=xF L u (ag l)):=by
  show _=_;rw[XU al];refine wL.2 ?_;rw[eM,L0 g t (tA (mC r))]
 have f:we (Z (fV (dG (aI L) (ag l) (Z L)))<=8):=by
  show _<=_;have:=lS (dG (aI L) (ag l) (Z L)) 8;rw[fV,bM];exact this
 have x:=Fa (fun (d:Kd) (c:Nat) (U:wA) (v:aC U d (fV (dG (aI L) (ag l) (Z L))))=>Kp d c (fV (dG (aI L) (ag l) (Z L))) (u:Nat) U v (by have:=f.o;omega));rw[Q.o] at x;clear h m i g r;generalize fV (dG (aI L) (ag l) (Z L))=B9 at *;generalize xF L u (ag l)=q at *;go_enter func74,ntmps74;go_wp2_with fail
 refine A.o.af ?_;rintro e z ⟨d,c,rfl,j,n⟩;have H:=Fa n;have s:=Fa (x.o d c z j);clear n j x Q f A;go_wp2_with fail
 refine s.o.af ?_;rintro e F ⟨rfl,p⟩;have B1:=Fa (H.o.trans (p.af H.o.size));clear p;go_wp2;go_ret;exact⟨rfl,B1.o⟩
variable {R:List (List Fr)} {ws:Jp} {m:Nat} {Pa:Nat ->Nat ->Prop}
def zF (l:List (Nat×Nat)):List (Int×Int):=l.map fun p=>((p.1:Int),(p.2:Int))
theorem A4 (l:List (Nat×Nat)):Z (zF l)=Z l:=by simp[zF]
structure fj (S:Jp) (n:Nat) (l:List (Nat×Nat)):Prop where
 nd:(l.map (·.1)).Nodup
 lt:∀p∈l,p.1<n
 val:∀p∈l,p.2<sz S p.1
theorem arS (h:iq V L R F=0):aU V L R=0/\∃l,F=zF l/\fj (ah V) (Z V) l:=by
 have n:aU V L R=0:=by
  by_cases e:aU V L R=0
  ·exact e
  ·rw[iq,aD e] at h;exact h
 rw[iq,aA n] at h;have z:=DU h
 have g:∀i (d:i<Z F),(0<=F[i].1/\F[i].1<(Z V:Int))/\(0<=F[i].2/\F[i].2<(sz (ah V) F[i].1.toNat:Int))/\((F.take i).any fun p=>p.1==F[i].1)=false:=fun i d=>by
  have f:=z i d;by_cases a:0<=F[i].1/\F[i].1<(Z V:Int)
  ·by_cases b:0<=F[i].2/\F[i].2<(sz (ah V) F[i].1.toNat:Int)
   ·refine⟨a,b,?_⟩;cases c:(F.take i).any fun p=>p.1==F[i].1 with
    |false=>rfl
    |true=>rw[ahw d a b c] at f;exact absurd f a6
   ·rw[ahv d a b] at f;exact absurd f a6
  ·rw[ahu d a] at f;exact absurd f a6
 refine⟨n,F.map fun p=>(p.1.toNat,p.2.toNat),?_,?_,?_,?_⟩
 ·rw[zF,AZ];refine mZ aE fun i d _=>?_;rw[mq];obtain⟨⟨a,_⟩,⟨b,_⟩,_⟩:=g i d;show F[i]=(((F[i].1.toNat:Nat):Int),((F[i].2.toNat:Nat):Int));rw[Int.toNat_of_nonneg a,Int.toNat_of_nonneg b]
 ·rw[AZ,List.Nodup,CS];refine zo.2 fun i j d q A e=>?_;obtain⟨⟨s,_⟩,_,_⟩:=g i d;obtain⟨⟨t,_⟩,_,o⟩:=g j q
  have:=J4.1 o F[i] (by
   (have r:i<Z (F.take j):=by rw[eZ];omega);have:=bQ r;rwa [x4] at this)
  refine this (xX.2 ?_);have u:F[i].1.toNat=F[j].1.toNat:=e;omega
 ·intro p k;obtain⟨x,m,rfl⟩:=aQ.1 k;obtain⟨i,d,rfl⟩:=iQ m;obtain⟨⟨a,b⟩,_,_⟩:=g i d;show F[i].1.toNat<_;omega
 ·intro p k;obtain⟨x,m,rfl⟩:=aQ.1 k;obtain⟨i,d,rfl⟩:=iQ m;obtain⟨_,⟨a,b⟩,_⟩:=g i d;show F[i].2.toNat<sz _ F[i].1.toNat;omega
def A5 (L:List Kx) (A:Jp):Jp:=(jP L).filter fun v:Nat=>(fV (dG (aI L) A (Z L))).contains (v:Int)
theorem Ht (h:Up l n):∀x∈l,0<=x/\x<n:=(dY.1 h).1
theorem ab2 (h:Up l n):(ag l).Pairwise (·<·):=by
 rw[ag,CS];refine List.Pairwise.imp_of_mem (fun {a b} c d g=>?_) (dY.1 h).2;have e:=Ht h a c;have f:=Ht h b d;omega
theorem RZ (L:List Kx) (i:Nat):(aI L).getD i []=ag (L.getD i []):=by
 rw[aI,cK,mr,cK];cases L[i]? with
 |none=>rfl
 |some x=>rfl
theorem Xz (g:gB L=xq) (h1:1<=Z L) (a:Z L<=8) (h:v∈jP L):v<Z L:=by
 have p:((jP L).filter fun v=>decide (v<Z L)).Perm (List.range (Z L)):=
  (EU ((ael g h1 a).sublist JY) rh).2 fun u=>by
   rw[cU,bR,eM];exact⟨fun h=>h.2,fun h=>⟨aem g h1 a h,h⟩⟩
 have l:=p.length_eq;have n:Z (jP L)=Z L:=by rw[Si];simp
 rw[A0] at l;replace l:=l.trans n.symm;exact mS (List.length_filter_eq_length_iff.1 l v h)
theorem atW (g:gB L=xq) {A:Jp} (a:∀v∈A,v<Z L) (h:v∈dG (aI L) A (Z L)):v<Z L:=
 LZ (fun x u b=>(XT g x u b).1) a (Z L) v h
theorem abA (g:gB L=xq) (h1:1<=Z L) (c:Z L<=8) {A:Jp} (e:∀v∈A,v<Z L):v∈A5 L A↔v∈dG (aI L) A (Z L):=by
 rw[A5,cU];constructor
 ·rintro⟨a,b⟩;have d:=Xz g h1 c a;rw[XU al] at b;exact mS b
 ·intro h;have d:=atW g e h;exact⟨aem g h1 c d,by rw[XU al];exact cJ h⟩
theorem ajv (g:gB L=xq) (h1:1<=Z L) (h:Z L<=8) (A:Jp):(A5 L A).Nodup:=(ael g h1 h).sublist JY
theorem ajw (g:gB L=xq) (h1:1<=Z L) (a:Z L<=8) {A:Jp} (h:v∈A5 L A):v<Z L:=Xz g h1 a (cU.1 h).1
theorem atP {u w:Nat} (h:Pa u v) (a:fQ Pa v w):fQ Pa u w:=by
 induction a using fQ.ind with
 |one h3=>exact .more (.one h) h3
 |more _ h3 ih=>exact .more ih h3
theorem ajx (j:bq L=0) (h1:1<=Z L) (c:Z L<=8) {A:Jp} (d:∀v∈A,v<Z L):qd L (·∈A5 L A):=fun v h u a=>by
 have g:=yL j;show u∈A5 L A;have h:v∈A5 L A:=h;rw[abA g h1 c d,PJ j c d] at h⊢;obtain⟨b,f,e⟩:=h;rw[<- RZ] at a;refine⟨b,f,xS ?_⟩;rcases e with rfl |e
 ·exact .one a
 ·exact atP (Pa:=fun u v=>u∈(aI L).getD v []) a e
theorem abC (j:bq L=0) (h1:1<=Z L) (h:Z L<=8) {A:Jp} (a:∀v∈A,v<Z L) (b:v∈A):v∈A5 L A:=by
 rw[abA (yL j) h1 h a,PJ j h a];exact⟨v,b,yp rfl⟩
def gT (V:List Vr) (L:List Kx) (R:List (List Fr)) (ws:Jp):List Tb:=ws.map fun v=>(gU L v,gL V L R v)
theorem arc (h0:aU V L R=0) (h:∀v∈ws,v<Z V) (c:qd L (·∈ws)):ir (ah V) (Z V) (gT V L R ws) (ic R ws) 1:=
 ⟨(PI.net h0 h c).ok,PD.net h0 h,fun t a=>by
  obtain⟨v,_,rfl⟩:=aQ.1 a;exact arf V L R v⟩
theorem ir.fixes (a:Pos S):∀ {l:List (Nat×Nat)} {P:List Tb} {D c:Nat},ir S n P D c ->(∀p∈l,p.2<sz S p.1) ->ir S n (qM S l P) D c
 |[],_,_,_,h,_=>h
 |p::l,_,_,_,h,hx=>ir.fixes a (l:=l) (h.fix a (hx p dA)) fun q b=>hx q (dL _ b)
theorem aah (S:Jp):∀(l:List (Nat×Nat)) (P:List Tb),Z (qM S l P)=Z P
 |[],_=>rfl
 |p::l,P=>by rw[qM,aah S l,dm]
theorem akH (p:Pos S) {a b:Jp} (h:a.Sublist b):kn S a<=kn S b:=by
 induction h with
 |slnil=>exact ak _
 |cons x _ ih=>rw[kn];exact aO ih (ES _ (jM p x))
 |cons_cons x _ ih=>rw[kn,kn];exact mW _ ih
theorem afy:∀(l:List (Nat×Nat)) (fr:Jp),(mI fr l).Sublist fr
 |[],_=>List.Sublist.refl _
 |_::l,_=>(afy l _).trans JY
def cP (V:List Vr) (L:List Kx) (R:List (List Fr)) (q:Kx) (l:List (Nat×Nat)):Tb:=
 (q,(List.range (cnt (ah V) (ag q))).map fun K=>qF (cE V L R (qV (ah V) (ag q) K++l)))
theorem Wi {a b:Kx} (c:Up a n) (d:Up b m) (h:∀u,u∈ag a↔u∈ag b):a=b:=by
 have e:ag a=ag b:=by
  refine List.Perm.eq_of_pairwise (le:=(·<·)) (fun x y _ _ g i=>al) (ab2 c) (ab2 d) ?_;exact(EU c.nodup d.nodup).2 h
 have g:iL (ag a)=a:=by
  rw[iL,ag,AZ];refine(qh fun x f=>?_).trans (List.map_id _);have:=(Ht c x f).1;show ((x.toNat:Nat):Int)=x;omega
 have i:iL (ag b)=b:=by
  rw[iL,ag,AZ];refine(qh fun x f=>?_).trans (List.map_id _);have:=(Ht d x f).1;show ((x.toNat:Nat):Int)=x;omega
 rw[<- g, <- i,e]
theorem amt {q:Kx} (h:Up q n) (v:Nat):q.contains (v:Int)=(ag q).contains v:=by
 rw[wL,CT,CT];constructor
 ·intro a;exact aQ.2 ⟨_,a,aE⟩
 ·intro a;obtain⟨x,b,e⟩:=aQ.1 a;have:=(Ht h x b).1;have c:x.toNat=v:=e;have:x=(v:Int):=al
  rwa [<- this]
theorem akh (h0:aU V L R=0) (d:Pos (ah V)) {l:List (Nat×Nat)} {q:Kx} (x:ws.Nodup) (o:∀v∈ws,v<Z V) (m:qd L (·∈ws)) (f:fj (ah V) (Z V) l) (F:∀p∈l,p.1∈ws) (i:Up q (Z V)) (k:∀v∈ag q,v∈ws/\¬v∈l.map (·.1)):
  allT (ah V) (ll (ah V) x3 (fun v=>q.contains (v:Int)) (mI ws l) (qM (ah V) l (gT V L R ws)))=cP V L R q l:=by
 have r:(fun v:Nat=>q.contains (v:Int))=fun v=>(ag q).contains v:=funext (amt i);rw[r];have U:PI (ah V) (Z V) (mI ws l) (qM (ah V) l (gT V L R ws)) (fun g=>fA V L R (ed l g) ws):=(PI.net h0 o m).fixes d f.nd f.val;obtain⟨D,w,B7⟩:=PI.outs d (fun v=>(ag q).contains v) (mI ws l) U;have e:=Ca d B7.ok
 have A:∀u,u∈D↔u∈ag q:=fun u=>by
  rw[w u,SH];constructor
  ·rintro⟨⟨a,b⟩,c⟩;exact CT.1 (c ⟨a,b⟩)
  ·intro h;exact⟨k u h,fun _=>CT.2 h⟩
 have n:(allT (ah V) (ll (ah V) x3 (fun v=>(ag q).contains v) (mI ws l) (qM (ah V) l (gT V L R ws)))).1=q:=by
  refine Wi e.1.up i fun u=>?_;rw[e.2.1 u, <- A u];exact⟨fun ⟨t,y,z⟩=>B7.sub t y u z,fun h=>B7.sup u h⟩
 refine Prod.ext n ?_;rw[Wv d e.1 (aiK _ _),n];refine qh fun K s=>?_;have j:=bR.1 s;rw[e.2.2 _ (fun u=>rI d _ _ u j),B7.val _ (fun u=>rI d _ _ u j)];exact eG qF (apm h0 x o m f.nd F f.val i.nodup k j)
def pK (V:List Vr) (L:List Kx) (R:List (List Fr)) (k:Nat):Rat:=wP V L R (aY (ah V) (List.range (Z V)) k) (Z V)
theorem NM.fine (h:NM V L R):fJ (iL (ah V)):=(fK h.ok).fine
theorem NM.pos (h:NM V L R):Pos (ah V):=by have:=h.fine.pos;rwa [jL] at this
theorem ah8 (h:NM V L R):cnt (ah V) (List.range (Z V))<=729:=by
 have a:=aav (S:=ah V) h.szs (List.range (Z V));rw[A0] at a;have b:3^Z V<=3^6:=lJ a6 h.six;omega
variable {us:Jp} {k:Nat}
theorem NG (a:us.Nodup) (l:∀v∈us,v<n):us.Perm ((List.range n).filter fun v=>us.contains v):=
 (EU a (rh.sublist JY)).2 fun v=>by
  rw[cU,bR,CT];exact⟨fun h=>⟨l v h,h⟩,fun h=>h.2⟩
theorem asc {a b:Jp} (h:a.Perm b):ic R a=ic R b:=by
 induction h with
 |nil=>rfl
 |cons x _ ih=>rw[ic,ic,ih]
 |swap x y l=>simp only[ic];rw[<- ju, <- ju,eN (qN _) (qN _)]
 |trans _ _ h1 h2=>rw[h1,h2]
theorem asb {a b:Jp} (h:a.Sublist b):ic R a<=ic R b:=by
 induction h with
 |slnil=>exact ak _
 |cons x _ ih=>rw[ic];exact aO ih (ES _ (mj (LG _)))
 |cons_cons x _ ih=>rw[ic,ic];exact mW _ ih
theorem ase (h:us.Nodup) (l:∀v∈us,v<n):ic R us<=ic R (List.range n):=by
 rw[asc (NG h l)];exact asb JY
theorem Rt (S:Jp):∀l,kn S l=cnt S l
 |[]=>rfl
 |v::l=>by rw[kn,cnt,Rt S l]
theorem ah7 (h:∀v,sz S v<=4):∀l:Jp,cnt S l<=4^Z l
 |[]=>ak _
 |v::l=>by
  rw[cnt,dX,jK,eN];exact ld (ah7 h l) (h v)
theorem akG (f:fJ (iL S)) (v:Nat):sz S v<=4:=by
 by_cases h:v<Z S
 ·have a:=(f.each v (by rw[bM];exact h)).2;have b:(iL S)[v]'(by rw[bM];exact h)=(S[v]:Int):=by simp[iL]
  rw[b] at a;rw[sz,ba h];show S[v]<=4;omega
 ·rw[sz,jw al];decide
theorem aaw (f:fJ (iL S)) (n:us.Nodup) (l:∀v∈us,v<Z S):cnt S us<=65536:=by
 have c:=(NG n l).length_eq;have d:Z ((List.range (Z S)).filter fun v=>us.contains v)<=Z S:=aO (oq ..) aE;have h:=f.eight;rw[bM] at h;have a:=ah7 (akG f) us;have b:4^Z us<=4^8:=lJ a6 al;exact aO a b
theorem ajt (h:n<=65536):(B n).size<=3:=by
 have a:=kO h;have b:(B 65536).size<=3:=by rw[nZ];exact sQ 3 65536 a6
 omega
def q9 (V:List Vr) (R:List (List Fr)):Prop:=(B (ic R (List.range (Z V)))).size<=4000
theorem q9.at (h:q9 V R) (n:us.Nodup) (l:∀v∈us,v<Z V):(B (ic R us)).size<=4000:=aO (kO (ase n l)) h
theorem q9.pool (h:q9 V R) (h0:aU V L R=0) (n:us.Nodup) (l:∀v∈us,v<Z V) (b:vs.Nodup) (g:∀v∈vs,v<Z V):2*(B (ic R us)).size+(B (kn (ah V) vs*1)).size+2<=8192:=by
 have c:=h.at n l
 have a:kn (ah V) vs*1<=65536:=by
  rw[rU,Rt];exact aaw (fK h0).fine b (by rw[lQ];exact g)
 have d:=ajt a;omega
theorem KP (h0:aU V L R=0):bq L=0:=by
 rw[aU] at h0;by_cases a:Z L=Z V/\R.length=Z V
 ·rw[aA a] at h0;by_cases h:bq L=0
  ·exact h
  ·rw[aD h] at h0;exact absurd h0 h
 ·rw[aD a] at h0;exact absurd h0 a6
theorem al5 (h0:aU V L R=0):qd L (·∈List.range (Z V)):=fun v _ u h=>by
 have b:=fK h0;rw[<- RZ] at h;have:=(XT (yL (KP h0)) v u h).1;rw[b.len] at this;exact bR.2 this
theorem am0 (h0:aU V L R=0) (p:Pos (ah V)) (c:k<cnt (ah V) (List.range (Z V))):gi (ic R (List.range (Z V))) (pK V L R k)/\mR 1 (pK V L R k):=by
 have f:Fit (ah V) (aY (ah V) (List.range (Z V)) k):=fun u=>rI p _ _ u c;have a:=(PD.net (R:=R) (L:=L) (ws:=List.range (Z V)) h0 (fun v h=>bR.1 h)).prod f;have b:=(PI.net h0 (fun v h=>bR.1 h) (al5 h0)).val _ f;rw[b, <- RN] at a;exact a
def aK (V:List Vr) (L:List Kx) (R:List (List Fr)) (l:List (Nat×Nat)) (k:Nat):Rat:=bV l (aY (ah V) (List.range (Z V)) k)*pK V L R k
theorem SB (V:List Vr) (L:List Kx) (R:List (List Fr)) (l:List (Nat×Nat)):cE V L R l=bG (aK V L R l) (cnt (ah V) (List.range (Z V))):=rfl
theorem aaX (h0:aU V L R=0) (p:Pos (ah V)) (l:List (Nat×Nat)) (c:k<cnt (ah V) (List.range (Z V))):gi (ic R (List.range (Z V))) (aK V L R l k)/\mR 1 (aK V L R l k):=by
 obtain⟨a,b⟩:=am0 h0 p c;rw[aK,Zu];by_cases h:Lm l (aY (ah V) (List.range (Z V)) k)=xq
 ·rw[aA h,lI];exact⟨a,b⟩
 ·rw[aD h,uh];exact⟨gi.zero _,by constructor<;>decide⟩
theorem akN (h0:aU V L R=0) (D:q9 V R) {g:Nat ->Rat} (j:n<=65536) (a:∀k,k< n ->gi (ic R (List.range (Z V))) (g k)/\mR 1 (g k)):qw (bG g n)<=8003:=by
 have z:ic R (List.range (Z V))≠0:=(PD.net (V:=V) (L:=L) h0 (fun v d=>bR.1 d)).nz.1;have b:=gi.sum (k:=n) fun x h=>(a x h).1;have c:=mR.sum (k:=n) fun x h=>(a x h).2;have e:=b.size z c;have f:=ajt (n:=n*1) al;have i:(B (ic R (List.range (Z V)))).size<=4000:=D;omega
theorem aiI (h0:aU V L R=0):cnt (ah V) (List.range (Z V))<=65536:=aaw (fK h0).fine rh fun v h=>by rw[lQ];exact bR.1 h
theorem afp (h0:aU V L R=0) (p:Pos (ah V)) (h:q9 V R) (l:List (Nat×Nat)) (a:n<=cnt (ah V) (List.range (Z V))):qw (bG (aK V L R l) n)<=8003:=
 akN h0 h (aO a (aiI h0)) fun k b=>aaX h0 p l al
theorem zA (h0:aU V L R=0):Pos (ah V):=by have:=(fK h0).fine.pos;rwa [jL] at this
variable {T:Nat ->Prop}
theorem C8 (L:List Kx) (v:Nat):(aI L).getD v []=ag (L.getD v []):=by
 by_cases h:v<Z L
 ·rw[H5 h,cK,ba h];rfl
 ·rw[cK,jw (by rw[kp];omega),cK,jw al];rfl
theorem atT {a b:Nat} (h:fQ (fun u v=>u∈(aI L).getD v []) a b):eQ L T b ->eQ L T a:=by
 induction h using fQ.ind with
 |one h1=>exact fun c=>.step c (by rw[<- C8];exact h1)
 |more _ h1 ih=>exact fun c=>ih (.step c (by rw[<- C8];exact h1))
theorem atS {a b:Nat} (h1:a∈(aI L).getD v []) (h:fQ (fun u v=>u∈(aI L).getD v []) v b):fQ (fun u v=>u∈(aI L).getD v []) a b:=by
 induction h using fQ.ind with
 |one hp=>exact .more (.one h1) hp
 |more _ hp ih=>exact .more ih hp
theorem Uw (h:bq L=0) (e:Z L<=8) {s:Jp} (hs:∀v∈s,v<Z L) (u:Nat):eQ L (·∈s) u↔u∈dG (aI L) s (Z L):=by
 rw[PJ h e hs];constructor
 ·intro f;induction f using eQ.ind with
  |base c=>exact⟨_,c,yp rfl⟩
  |step _ h2 ih=>
   obtain⟨b,a,d⟩:=ih;rw[<- C8] at h2;rcases d with rfl |d
   ·exact⟨_,a,xS (.one h2)⟩
   ·exact⟨b,a,xS (atS h2 d)⟩
 ·rintro⟨b,a,rfl |c⟩
  ·exact .base a
  ·exact atT c (.base a)
theorem aeo (h:bq L=0) (b:Z L<=8) {x y z:Kx} (p:js (Z L) [x,y,z]=xq):wT L x y z=xq↔Ce L (Z L) (·∈ag x) (·∈ag y) (·∈ag z):=by
 have r:k5 [x,y,z] (Z L)=true:=by
  rw[js,iI] at p;exact p.1
 have d:Up z (Z L):=mC (fG.1 r z aE);have l:=tA d;have g:=(vR h).1;rw[aep h b p];constructor
 ·rintro⟨v,c,a,w⟩;refine⟨v,c,a,?_⟩;clear a;induction w using iN.ind with
  |start hx=>exact .start hx
  |up _ h1 h2 ih=>exact .up ih h1 (by rw[<- C8];exact h2)
  |down _ h1 h2 ih=>exact .down ih h1 (KF g h2).2 (by rw[<- C8];exact h2)
  |meet _ h1 h2 ih=>exact .meet ih ((Uw h b l _).2 h1) (by rw[<- C8];exact h2)
 ·rintro⟨v,c,a,w⟩;refine⟨v,c,a,?_⟩;clear a;induction w using jH.ind with
  |start hx=>exact .start hx
  |up _ h1 h2 ih=>exact .up ih h1 (by rw[C8];exact h2)
  |down _ h1 _ h2 ih=>exact .down ih h1 (by rw[C8];exact h2)
  |meet _ h1 h2 ih=>exact .meet ih ((Uw h b l _).1 h1) (by rw[C8];exact h2)
def jy (n x:Nat):List Fr:=(List.range n).map fun k=>qF (if k=x then 1 else 0)
theorem Bd (n x:Nat):Z (jy n x)=n:=by simp[jy]
theorem Ru {x:Nat} (h:k<n):aS (jy n x) k=qF (if k=x then 1 else 0):=by
 rw[qP (by rw[Bd];exact h)];simp[jy]
theorem akK {x:Nat} (c:x<n):jl (jy n x)=true:=by
 rw[jl,iI,eM,fG];constructor
 ·intro f a;obtain⟨k,_,rfl⟩:=aQ.1 a;rw[eM,j5];split<;>decide
 ·rw[ahc,Bd,gD (h:=fun k=>(if k=x then 1 else 0)*1) fun k b=>by rw[Ru b,j5,mU]];exact Kl (g:=fun _=>1) c
def ye {α:Type} (f:Nat×Nat ->α) (d:List (Nat×Nat)) (L:List α):List α:=d.foldl (fun L p=>L.set p.1 (f p)) L
theorem Xd {α:Type} (f:Nat×Nat ->α):∀(d:List (Nat×Nat)) (L:List α),Z (ye f d L)=Z L
 |[],_=>rfl
 |p::d,L=>by rw[ye,uk];exact(Xd f d _).trans gA
theorem Kz {α:Type} [Inhabited α] {f:Nat×Nat ->α} {z:α}:∀ {d:List (Nat×Nat)} {L:List α},¬v∈d.map (·.1) ->(ye f d L).getD v z=L.getD v z
 |[],_,_=>rfl
 |p::d,L,h=>by
  rw[fR,bU,not_or] at h;rw[ye,uk];refine(Kz (d:=d) h.2).trans ?_;rw[cK,cK,wJ fun e=>h.1 e.symm]
theorem RM {α:Type} [Inhabited α] {f:Nat×Nat ->α} {z:α} {p:Nat×Nat}:∀ {d:List (Nat×Nat)} {L:List α},(d.map (·.1)).Nodup ->p∈d ->p.1<Z L ->(ye f d L).getD p.1 z=f p
 |[],_,_,h,_=>by cases h
 |q::d,L,hn,h,hl=>by
  rw[fR,mY] at hn;rw[ye,uk];rcases bU.1 h with rfl |h
  ·refine(Kz (d:=d) hn.1).trans ?_;rw[cK,Ho hl];rfl
  ·exact RM (d:=d) hn.2 h (by rw[gA];exact hl)
def eh (d:List (Nat×Nat)) (L:List Kx):List Kx:=ye (fun _=>[]) d L
def dV (V:List Vr) (d:List (Nat×Nat)) (R:List (List Fr)):List (List Fr):=ye (fun p=>jy (sz (ah V) p.1) p.2) d R
theorem Uh (d:List (Nat×Nat)) (L:List Kx):Z (eh d L)=Z L:=Xd _ d L
theorem aam (V:List Vr) (d:List (Nat×Nat)) (R:List (List Fr)):Z (dV V d R)=Z R:=Xd _ d R
theorem I4 {d:List (Nat×Nat)} (v:Nat):(eh d L).getD v []=if v∈d.map (·.1) then[] else L.getD v []:=by
 by_cases e:v∈d.map (·.1)
 ·rw[aA e]
  have k:∀(d:List (Nat×Nat)) (L:List Kx),v∈d.map (·.1)∨L.getD v []=[] ->(eh d L).getD v []=[]:=fun d=>by
   induction d with
   |nil=>exact fun L h=>h.elim (fun h=>by cases h) id
   |cons p d ih=>
    intro L h;rw[eh,ye,uk];refine ih (L.set p.1 []) ?_;by_cases a:p.1=v
    ·refine xS ?_;subst a;rw[cK];by_cases l:p.1<Z L
     ·rw[Ho l];rfl
     ·rw[jw (by rw[gA];omega)];rfl
    ·rcases h with h |h
     ·rw[fR,bU] at h;exact yp (h.resolve_left fun b=>a b.symm)
     ·refine xS ?_;rw[cK,wJ a, <- cK];exact h
  exact k d L (yp e)
 ·rw[aD e];exact Kz e
theorem aan (d:List (Nat×Nat)) (L:List Kx) (v:Nat):((eh d L).getD v []).Sublist (L.getD v []):=by
 rw[I4];split
 ·exact List.nil_sublist _
 ·exact List.Sublist.refl _
section
variable {V : List Vr} {L : List Kx} {R : List (List Fr)} {d : List (Nat × Nat)}
theorem Pt (h0:aU V L R=0) (g:fj (ah V) (Z V) d):aU V (eh d L) (dV V d R)=0:=by
 have k:=fK h0;have h:=h0;rw[aU,aA ⟨k.len,k.lenR⟩] at h;by_cases a:bq L=0
 ·rw[aA a] at h;by_cases b:mA V=0
  ·rw[aA b] at h;rw[aU,aA ⟨(Uh d L).trans k.len,(aam V d R).trans k.lenR⟩,aA (ag5 a (Uh d L) fun v _=>aan d L v),aA b];refine B5 fun v o=>?_;have l:=DU h v o;by_cases e:v∈d.map (·.1)
   ·obtain⟨p,j,rfl⟩:=aQ.1 e;have f:(dV V d R).getD p.1 []=jy (sz (ah V) p.1) p.2:=RM g.nd j (by rw[k.lenR];exact g.lt p j);(have c:(eh d L).getD p.1 []=[]:=by rw[I4,aA e]);rw[jA,f,c,Bd];have m:cnt (ah V) (ag [])=1:=rfl;rw[m,lK,aA rfl,aA];rw[fG];intro i n;(have:i=0:=by have:=bR.1 n;omega);subst this;rw[fX,oY,EZ,lg (by rw[Bd];exact ak _)];exact akK (g.val p j)
   ·have f:(dV V d R).getD v []=R.getD v []:=Kz e;(have c:(eh d L).getD v []=L.getD v []:=by rw[I4,aD e]);rw[jA,f,c];exact l
  ·rw[aD b] at h;exact absurd h b
 ·rw[aD a] at h;exact absurd h a
def sA (V:List Vr) (L:List Kx) (R:List (List Fr)) (v:Nat) (g:Nat ->Nat):Rat:=bj (fL V L R g v)
theorem XM (h0:aU V L R=0):fP (ah V) (Z V) L (sA V L R):=by
 have k:=fK h0;have b:=KP h0;refine⟨zA h0,fun v h u H a g x=>?_,fun v h g b=>row_one h0 h b,fun v h g b=>SC h0 h b,fun v h u a=>?_,qA (aI L),fun v h u a=>?_⟩
 ·show bj (fL V L R (aN g u x) v)=bj (fL V L R g v);rw[X1 (fun e=>H e.symm) a]
 ·have c:v<Z L:=by rw[k.len];exact h
  rw[cK,ba c] at a;obtain⟨z,m,rfl⟩:=aQ.1 a;have:=(dY.1 (k.up v c)).1 z m;omega
 ·exact Hz b (by rw[RZ];exact a)
theorem adE (g:Nat ->Nat):∀o:Jp,cX (sA V L R) g o=fA V L R g o
 |[]=>rfl
 |v::o=>by rw[cX,fA,adE g o];rfl
theorem Ii (_h0:aU V L R=0) (l:List (Nat×Nat)):cE V L R l=dN (ah V) (Z V) (sA V L R) l:=by
 have e:=NF (S:=ah V) (fun g=>bV l g*wP V L R g (Z V)) (List.range (Z V)) (fun _=>0) rh;rw[gD (h:=fun k=>bV l (aY (ah V) (List.range (Z V)) k)*wP V L R (aY (ah V) (List.range (Z V)) k) (Z V)) fun k _=>by rw[Sb]] at e;rw[cE,e,dN];congr 1
 funext g
 rw[adE,RN]
theorem afs (h0:aU V L R=0) (h:fj (ah V) (Z V) d) (l:List (Nat×Nat)):cE V (eh d L) (dV V d R) l=dN (ah V) (Z V) (iM d (sA V L R)) l:=by
 have k:=fK h0;rw[Ii (Pt h0 h),dN,dN];refine wU (fun g j=>?_) _ _ (fun u=>jM (zA h0) u);congr 1
 refine Nx fun v m=>?_;have B6:=bR.1 m;rw[iM];by_cases e:v∈d.map (·.1)
 ·rw[aA e];obtain⟨p,c,rfl⟩:=aQ.1 e;have b:(dV V d R).getD p.1 []=jy (sz (ah V) p.1) p.2:=RM h.nd c (by rw[k.lenR];exact h.lt p c);have a:(eh d L).getD p.1 []=[]:=by rw[I4,aA e]
  have i:=j p.1
  have f:tF (ah V) (ag []) g p.1=g p.1:=by
   show 0*_+g p.1=g p.1;rw[oY,bK]
  rw[sA,fL,b,a,f,Ru i,j5,H4 h.nd (x:=p.2) c];rfl
 ·rw[aD e];have b:(dV V d R).getD v []=R.getD v []:=Kz e;have a:(eh d L).getD v []=L.getD v []:=by rw[I4,aD e]
  rw[sA,sA,fL,fL,b,a]
theorem Pu (h0:aU V L R=0) (a:fj (ah V) (Z V) d):fP (ah V) (Z V) (eh d L) (iM d (sA V L R)):=by
 refine(XM h0).isDo a.nd a.val (fun v _ b u h=>?_) (fun v _ u h=>?_)
 ·rw[I4,aD b];exact h
 ·obtain⟨x,c,rfl⟩:=aQ.1 h;exact aQ.2 ⟨x,(aan d L v).subset c,rfl⟩
theorem apf (v:Nat) (g:Nat ->Nat):sA V L (cC R) v g=sA V L R v g:=by
 rw[sA,sA,fL,fL,Z9,aS,aS,mr];cases (R.getD v [])[tF (ah V) (ag (L.getD v [])) g v]? with
 |none=>rfl
 |some f=>exact T3 f
end
variable {fv oP tv pj u1 u2:wQ}
structure nS (W:wA) (b:Nat) (x fv tv oP pj:wQ) (l:Kx) (Q:List (wQ×wQ)) (P:List Tb) (V:wA):Prop where
 box:cI V b x fv tv
 fo:bS V W.heap.size oP l
 own:nT V W.heap.size pj Q P
 far:∀R,R<=b ->∀k (h:k<Z P) (h':k<Z Q),iC R P[k] Q[k]
 farF:∀R,oP.ownBlock=I R ->∀k (h:k<Z P) (h':k<Z Q),iC R P[k] Q[k]
 ne:∀R,oP.ownBlock=I R ->pj.ownBlock≠I R
 fr:W.grownBy V (I b)
theorem nS.start {W:wA} {b:Nat} {x:wQ} (h:cI W b x (J O 0 0) (J O 0 0)):nS W b x (J O 0 0) (J O 0 0) (J O 0 0) (J O 0 0) [] [] [] W:=
 ⟨h,⟨rfl,yp ⟨rfl,rfl⟩⟩,nT.nil _ _,(fun R _ k h=>absurd h aE),(fun R e=>by cases e),(fun R e=>by cases e),aaa _ _⟩
theorem nS.under {W V:wA} {b:Nat} {x:wQ} {Q:List (wQ×wQ)} {P:List Tb} (h:nS W b x fv tv oP pj l Q P V) (a:da V V'):nS W b x fv tv oP pj l Q P V':=
 ⟨h.box.aa a h.box.lt,KH h.fo (Ec.aa a),h.own.under a,h.far,h.farF,h.ne,aab h.fr a⟩
theorem nS.pushF {W V:wA} {b:Nat} {x f:wQ} {l':Kx} {Q:List (wQ×wQ)} {P:List Tb} (h:nS W b x fv tv oP pj l Q P V) (m:b<W.heap.size) (o:bS V' W.heap.size f l') (g:V.grownBy V' oP.ownBlock) (n:f.ownBlock=oP.ownBlock∨∀k,f.ownBlock=I k ->V.heap.size<=k):nS W b x fv tv f pj l' Q P V':=by
 have i:∀k,oP.ownBlock=I k ->W.heap.size<=k:=fun k e=>(uu h.fo k e).1;refine⟨(g.block b h.box.lt (fun e=>by have:=i b e.symm;omega)).trans h.box,o,⟨h.own.len,R9 h.own.own g (fun R e d=>h.ne R d e),fun k a c=>(h.own.val k a c).keepR (fun r j=>h.farF r j k a c) g,h.own.far⟩,h.far,fun R e k a c=>?_,fun R e d=>?_,Pg h.fr g i⟩
 ·rcases n with n |n
  ·exact h.farF R (by rw[<- n];exact e) k a c
  ·exact(h.own.val k a c).lt (n R e)
 ·rcases n with n |n
  ·exact h.ne R (by rw[<- n];exact e) d
  ·have a:=n R e;have c:=(h.own.lt R d).2;omega
theorem nS.pushT {W V:wA} {b:Nat} {x B9:wQ} {Q:List (wQ×wQ)} {P:List Tb} {t:Tb} (h:nS W b x fv tv oP pj l Q P V) (u:b<W.heap.size) (r:bL V u1 u2 t) (p:∀R,pj.ownBlock=I R ->iC R t (u1,u2)) (F:∀R,oP.ownBlock=I R ->iC R t (u1,u2)) (s:∀R,R<=b ->iC R t (u1,u2)) (q:V'.ownsRow W.heap.size 38 2 B9 (Z P+1) (fS Q++[u1,u2])) (g:V.grownBy V' pj.ownBlock) (n:B9.ownBlock=pj.ownBlock∨∀k,B9.ownBlock=I k ->V.heap.size<=k):nS W b x fv tv oP B9 l (Q++[(u1,u2)]) (P++[t]) V':=by
 have c:∀k,pj.ownBlock=I k ->W.heap.size<=k:=fun k e=>(h.own.lt k e).1
 have m:∀R,(∀k (f:k<Z P) (i:k<Z Q),iC R P[k] Q[k]) ->iC R t (u1,u2) ->∀k (f:k<Z (P++[t])) (i:k<Z (Q++[(u1,u2)])),iC R (P++[t])[k] (Q++[(u1,u2)])[k]:=fun R o T k f i=>by
  by_cases d:k<Z P
  ·have j:k<Z Q:=by rw[h.own.len];exact d
   rw[ou j,ou d];exact o k d j
  ·have j:¬k<Z Q:=by rw[h.own.len];exact d
   rw[uj al,uj al];simp only[QX];exact T
 refine⟨(g.block b h.box.lt (fun e=>by have:=c b e.symm;omega)).trans h.box,R9 h.fo g (fun R e a=>h.ne R e a),h.own.push r p q g n,(fun R c=>m R (h.far R c) (s R c)),fun R e=>m R (h.farF R e) (F R e),fun R e a=>?_,Pg h.fr g c⟩;rcases n with n |n
 ·rw[n] at a;exact h.ne R e a
 ·have f:=n R a;have i:=(uu h.fo R e).2;omega
theorem nS.set1 {W V:wA} {b:Nat} {x:wQ} {Q:List (wQ×wQ)} {P:List Tb} (h:nS W b x fv tv oP pj l Q P V) (a:b<W.heap.size) (u:wQ):nS W b x u tv oP pj l Q P (AF V ⟨b,1,O⟩ u):=
 ⟨h.box.set1 u,QK h.fo (fun e=>by have:=(uu h.fo b e).1;omega) u,h.own.off u (h.far b (ak b)) (fun e=>by have:=(h.own.lt b e).1;omega),h.far,h.farF,h.ne,TR h.fr _ _⟩
theorem nS.set2 {W V:wA} {b:Nat} {x:wQ} {Q:List (wQ×wQ)} {P:List Tb} (h:nS W b x fv tv oP pj l Q P V) (a:b<W.heap.size) (u:wQ):nS W b x fv u oP pj l Q P (AF V ⟨b,2,O⟩ u):=
 ⟨h.box.set2 u,QK h.fo (fun e=>by have:=(uu h.fo b e).1;omega) u,h.own.off u (h.far b (ak b)) (fun e=>by have:=(h.own.lt b e).1;omega),h.far,h.farF,h.ne,TR h.fr _ _⟩
theorem aoP (a:Kd) (ca:Nat) (L:List Kx) (w:wA) (h:ei w a L) (j:∀l∈L,Z l<=140737488355328) (g:bq L=0):
  c6 203 #[J a (Z L) ca] w fun e w'=>∃G,e=yk (zz #[J (I ⟨G,0,O⟩) (Z L) (Z L),E yR 0])/\ei w' (I ⟨G,0,O⟩) (px L)/\da w w':=
 (ard a ca L w h j).af fun e w' i=>by
  rcases i with ⟨⟨b,_⟩ |⟨_,G,c,d⟩,f⟩
  ·exact absurd g b
  ·exact⟨G,c,d,f⟩
theorem arM (a:Kd) (ca:Nat) (L:List Kx) (w:wA) (h:ei w a (px L)) (j:gB L=xq) (h1:1<=Z L) (g:Z L<=8):
  c6 204 #[J a (Z L) ca] w fun e w'=>∃d c G,e=yk (zz #[J d (Z L) c,J (I ⟨G,0,O⟩) (Z L) (Z L),E yR 0])/\aC w' d (iL (jP L))/\da w w':=by
 have:=arh a ca (px L) w h (fun l m=>by
  obtain⟨s,_,rfl⟩:=aQ.1 m;rw[fV,bM,bX];exact aO (oq ..) aE)
 rw[Dc] at this;refine this.af fun e w' k=>?_;rcases k with ⟨⟨_,d,c,G,b,f,_⟩ |⟨b,_⟩,i⟩
 ·rw[Dc] at b;exact⟨d,c,G,b,f,i⟩
 ·rw[aoQ j h1 g] at b;cases b
theorem aq8 (a b c:Kd) (ca cb cc v:Nat) (V:List Vr) (L:List Kx) (R:List (List Fr)) (w:wA) (h:jc w a b c V L R) (f:pU w b L) (hs:sX V L R) (i:∀l∈R,fw l<=4200) (h0:aU V L R=0) (g:v<Z V) (y:∀U:wA,jc U a b c V L R ->c6 81 #[zp #[J a (Z V) ca,J b (Z L) cb,J c (Z R) cc]] U fun e w'=>e=yk (E yR (aU V L R))/\da U w'):
  c6 205 #[zp #[J a (Z V) ca,J b (Z L) cb,J c (Z R) cc],E yR (v:Nat)] w fun e w'=>Gp w.heap.size (gU L v,gL V L R v) e w'/\da w w':=
 (aoq a b c ca cb cc v V L R w h f hs i h0 g y).af fun _ _ d=>⟨xG.tb (t:=(gU L v,gL V L R v)) d.1,d.2⟩
variable {K:Act ->wA ->Prop} {Q:Exit ->Act ->wA ->Prop}
theorem V5 {o:Oper} {a:Act} (s x:Operand)
  (F:o.op=.call {callee:=.builtin .append,args:= #[s,x],argTypes:= #[27,27]}) (base:Nat) (v:wQ) (l:Kx) (f:Int) (hs:a.eval s=v) (q:bS w base v l) (g:Nat) (B7:a.eval x=J (I ⟨g,0,O⟩) 1 1) (B9:AJ w ⟨g,0,O⟩=I (E yR f)) (ab:Z l+1<=100000) (T:base<=w.heap.size)
  (h:∀v' w',bS w' base v' (l++[f]) ->w.grownBy w' v.ownBlock ->(v'.ownBlock=v.ownBlock∨∀k,v'.ownBlock=I k ->w.heap.size<=k) ->K (a.put o.dst v') w'):o.wp prog a w K Q:=by
 obtain⟨i,H,m,z,p⟩:=eo Tryz.infoInt
 have n:∀j u,[Value.int yR f][j]? =I u ->AJ w ((⟨g,0,O⟩:Addr).add j)=I u:=fun j u c=>by
  match j,c with
  |0,c=>cases c;exact B9
  |j+1,c=>simp at c
 have S:∀u∈[Value.int yR f],u.oneCell'=true:=fun u t=>by
  simp only[bU,gw,jf] at t;subst t;rfl
 have B2:Z l+1<=maxLen:=by unfold maxLen;omega
 obtain⟨v',w',r,A,D, -⟩:=run_append_own (P:=prog) w base 27 o.type 3 i (E yR 0) 1 8 underlying27 H m z p rfl a6 v (Z l) _ q ⟨g,0,O⟩ 1 1 [E yR f] rfl n S B2 al T
 have R:v'.ownBlock=v.ownBlock∨∀k,v'.ownBlock=I k ->w.heap.size<=k:=by
  rcases q.2 with ⟨b,X⟩ |⟨g',cap,L,b,B1,B6,V,aa,M,Y⟩
  ·right
   have e:=run_append_nil (P:=prog) w 27 o.type 3 i (E yR 0) underlying27 H m ⟨g,0,O⟩ 1 1 [E yR f] (by rw[z];rfl) n a6 a6 (by rw[p];decide);rw[b] at r;rw[r] at e;cases e;intro k d;cases d;exact ak _
  ·rw[b] at r;by_cases U:Z l+1<=cap
   ·left
    have e:=run_append_room (P:=prog) w 27 o.type 3 i underlying27 H g' (Z l) cap L B6 ⟨g,0,O⟩ 1 1 [E yR f] (by rw[z];rfl) n S U (by rw[z,M];simp;omega);rw[r] at e;cases e;rw[b];rfl
   ·right
    have y:=q;rw[b] at y;have e:=run_append_grow (P:=prog) w 27 o.type 3 i (E yR 0) underlying27 H m ⟨g',0,O⟩ (Z l) cap (l.map (Value.int yR)) (by rw[z];simp) (World.ownsRow.cells y rfl) ⟨g,0,O⟩ 1 1 [E yR f] (by rw[z];rfl) n al al (QL al (by rw[p];omega));rw[r] at e;cases e;intro k d;cases d;exact ak _
 unfold Oper.wp execOp;simp only[F,resolve,invoke,builtin,JQ,zi,wG,JV,fR,om,hs,B7,r];refine h v' w' ?_ D R;rw[bS,cD,gK];exact A
theorem V4 {o:Oper} {a:Act} (s x:Operand)
  (d:o.op=.call {callee:=.builtin .append,args:= #[s,x],argTypes:= #[175,175]}) (base:Nat) (v:wQ) (n:Nat) (xs:List wQ) (u1 u2:wQ) (hs:a.eval s=v) (A:w.ownsRow base 38 2 v n xs) (g:Nat) (e:a.eval x=J (I ⟨g,0,O⟩) 1 1) (h0:AJ w ⟨g,0,O⟩=I u1) (h1:AJ w ⟨g,1,O⟩=I u2) (p:bW u1) (q:bW u2) (B9:n+1<=100000) (D:base<=w.heap.size)
  (h:∀v' w',w'.ownsRow base 38 2 v' (n+1) (xs++[u1,u2]) ->w.grownBy w' v.ownBlock ->(v'.ownBlock=v.ownBlock∨∀k,v'.ownBlock=I k ->w.heap.size<=k) ->K (a.put o.dst v') w'):o.wp prog a w K Q:=by
 obtain⟨i,H,z,t,y⟩:=eo Tryz.infoTable
 obtain⟨v',w',r,f,l,m⟩:=WR (P:=prog) w base 175 o.type 38 i (zp #[J O 0 0,J O 0 0]) 2 48 underlying175 H z t y rfl a6 v n xs A ⟨g,0,O⟩ 1 1 [u1,u2] rfl (fun j u b=>by
  match j,b with
  |0,b=>cases b;exact h0
  |1,b=>cases b;exact h1
  |j+2,b=>simp at b) (fun u c=>by
  simp only[bU,gw,jf] at c;rcases c with rfl |rfl
  ·obtain⟨_,_,_,rfl⟩:=p;rfl
  ·obtain⟨_,_,_,rfl⟩:=q;rfl) (by unfold maxLen;omega) al D a6
 unfold Oper.wp execOp;simp only[d,resolve,invoke,builtin,JQ,zi,wG,JV,fR,om,hs,e,r];exact h v' w' f l m
variable {rs:Jp} {oi:Oper}
section
variable {P : Program} {ops : Array Oper} {Q : Exit -> Act -> wA -> Prop} {md : Region.Mode} {S : Bool -> wA -> Prop} {k : Nat}
def wN (P:Program) (md:Region.Mode) (ops:Array Oper) (Q:Exit ->Act ->wA ->Prop) (S:Bool ->wA ->Prop) (k:Nat):Nat ->Array Bool ->Act ->wA ->Prop
 |0,l,a,w=>Region.ready md ops l=[]/\Q .normal a w
 |n+1,l,a,w=>(Region.ready md ops l=[] ->Q .normal a w)/\∀i∈Region.ready md ops l,wpOp P ops Q i (fun a' w'=>S ((l.setIfInBounds i xq).getD k xq) w'/\wN P md ops Q S k n (l.setIfInBounds i xq) a' w') a w
theorem abJ:∀(n:Nat) (l:Array Bool) (a:Act) (w:wA),wN P md ops Q S k n l a w ->wpAny P md ops Q n l a w
 |0,_,_,_,h=>h
 |n+1,_,_,_,h=>⟨h.1,fun i d=>wpOp_mono (fun b w' c=>abJ n _ b w' c.2) (h.2 i d)⟩
theorem ada {l:Array Bool} (h:i∈Region.ready md ops l):l.getD i xq=false:=(mem_ready.1 h).1
theorem abI {v:wQ} (W:Bool ->Prop) (A:ops[i]? =I oi) (Y:∀(j:Nat) (o:Oper) s b,ops[j]? =I o ->o.op≠.select s b)
  (hQ:∀c a w,Q (.panic c) (a.put oi.dst v) w ->Q (.panic c) a w)
  (hW:∀(l:Array Bool) (j:Nat),i∈Region.ready md ops l ->j∈Region.ready md ops l ->j≠i ->W (l.getD k xq) ->W ((l.setIfInBounds j xq).getD k xq)) (B7:k≠i):
  ∀(n:Nat) (l:Array Bool) (a:Act) (w:wA),
   (∀j f,ops[j]? =I f ->j≠i ->l.getD j xq=x3 ->(∀e∈f.after,Region.binds md e=xq ->e.on≠i) ->oi.apart ops f=xq) ->
   i∈Region.ready md ops l ->YieldsIf P ops (fun u=>∃b,W b/\S b u) oi v a ->W (l.getD k xq) ->S (l.getD k xq) w ->
   wN P md ops Q S k n (l.setIfInBounds i xq) (a.put oi.dst v) w ->wN P md ops Q S k (n+1) l a w:=by
 have M:∀l:Array Bool,(l.setIfInBounds i xq).getD k xq=l.getD k true:=fun l=>getD_set_ne xq (Ne.symm B7);intro n;induction n with
 |zero=>
  intro l a w _ r y q g H;refine⟨fun h=>(by rw[h] at r;cases r),fun j m=>?_⟩;by_cases F:j=i
  ·subst F;exact y.wpOp A ⟨_,q,g⟩ ⟨by rw[M];exact g,H⟩
  ·have:=ready_mono m F;rw[H.1] at this;cases this
 |succ n ih=>
  intro l a w B6 r y q g H;refine⟨fun h=>(by rw[h] at r;cases r),fun j m=>?_⟩;by_cases F:j=i
  ·subst F;exact y.wpOp A ⟨_,q,g⟩ ⟨by rw[M];exact g,H⟩
  ·have d:=H.2 j (ready_mono m F);obtain⟨K,f,L,af⟩:=mem_ready.1 m
   have V:∀e∈f.after,Region.binds md e=xq ->e.on≠i:=fun e he hb ab=>by
    have d:=af e he hb;have B9:=ada r;rw[ab] at d;rcases dR i l.size with t |t
    ·simp[t] at B9 d;rw[B9] at d;cases d
    ·simp[Array.getElem?_eq_none t] at d
   have B1:=wpOp_putIf L (B6 j f L F K V) (fun s b=>Y i oi s b A) (fun s b=>Y j f s b L) hQ y d
   have aa:∀x p,ops[x]? =I p ->x≠i ->(l.setIfInBounds j xq).getD x xq=x3 ->(∀e∈p.after,Region.binds md e=xq ->e.on≠i) ->oi.apart ops p=true:=fun x p hx U D ad=>by
    refine B6 x p hx U ?_ ad;by_cases T:j=x
    ·subst T;exact K
    ·rw[getD_set_ne xq T] at D;exact D
   have ae:=hW l j r m F q;have B2:(l.setIfInBounds i xq).setIfInBounds j xq=(l.setIfInBounds j xq).setIfInBounds i true:=Array.setIfInBounds_comm _ _ (Ne.symm F);refine wpOp_mono (fun X w' z=>?_) B1
   have R:S ((l.setIfInBounds j xq).getD k xq) w':=by
    have:=z.2.1;rwa [B2,getD_set_ne xq (Ne.symm B7)] at this
   refine⟨R,ih (l.setIfInBounds j xq) X w' aa (ready_mono r (Ne.symm F)) z.1 ae R ?_⟩;rw[<- B2];exact z.2.2
theorem qo {v:wQ} {l:Array Bool} {a:Act} (d:ops[i]? =I oi)
  (hs:Region.noSelect ops=xq) (o:Region.free md ops l i=xq) (r:(Region.ready md ops l).contains i=xq) (p:k≠i)
  (g:∀c a w,Q (.panic c) (a.put oi.dst v) w ->Q (.panic c) a w) (y:YieldsIf P ops (fun u=>∃b,S b u) oi v a) {b:Bool} (m:l.getD k xq=b) (j:S b w)
  (h:wN P md ops Q S k n (l.setIfInBounds i xq) (a.put oi.dst v) w):wN P md ops Q S k (n+1) l a w:=
 abI (fun _=>True) d (Region.noSelect_spec hs) g (fun _ _ _ _ _ h=>h) p n l a w (Region.free_spec d o) (by simpa using r) (y.imp (fun ⟨e,f⟩=>⟨e,fun u ⟨b,_,q⟩=>f u ⟨b,q⟩⟩) id) trivial (by rw[m];exact j) h
theorem V6 {ok:Oper} {v:wQ} {l:Array Bool} {a:Act} (p:ops[i]? =I oi)
  (hs:Region.noSelect ops=xq) (D:Region.free md ops l i=xq) (B7:(Region.ready md ops l).contains i=xq) (H:k≠i)
  (F:ops[k]? =I ok) (K:(ok.after.any fun e=>Region.binds md e&&e.on==i)=xq)
  (y:∀c a w,Q (.panic c) (a.put oi.dst v) w ->Q (.panic c) a w) (M:YieldsIf P ops (S x3) oi v a) (f:l.getD k xq=x3) (z:S x3 w)
  (h:wN P md ops Q S k n (l.setIfInBounds i xq) (a.put oi.dst v) w):wN P md ops Q S k (n+1) l a w:=by
 refine abI (fun b=>b=x3) p (Region.noSelect_spec hs) y (fun l j r B9 T e=>?_) H n l a w (Region.free_spec p D) (by simpa using B7) (M.imp (fun ⟨s,m⟩=>⟨s,fun u ⟨b,f,B6⟩=>m u (by subst f;exact B6)⟩) id) f (by rw[f];exact z) h;by_cases q:j=k
 ·subst q;exfalso
  obtain⟨_,R,L,B2⟩:=mem_ready.1 B9;rw[F] at L;cases L;obtain⟨e,A,m⟩:=Array.any_eq_true'.1 K;obtain⟨t,x⟩:=Bool.and_eq_true_iff.1 m;have d:=B2 e A t;have o:=ada r;rw[eq_of_beq x] at d;rcases dR i l.size with g |g
  ·simp[g] at o d;rw[o] at d;cases d
  ·simp[Array.getElem?_eq_none g] at d
 ·rw[getD_set_ne xq q];exact e
def fp (P:Program) (md:Region.Mode) (ops:Array Oper) (Q:Exit ->Act ->wA ->Prop) (S:Bool ->wA ->Prop) (k n:Nat) (l:Array Bool) (a:Act) (w:wA) (rs:Jp):Prop:=
 ∀i∈rs,wpOp P ops Q i (fun a' w'=>S ((l.setIfInBounds i xq).getD k xq) w'/\wN P md ops Q S k n (l.setIfInBounds i xq) a' w') a w
theorem fp.nil {l:Array Bool} {a:Act}:fp P md ops Q S k n l a w []:=fun _ h=>by cases h
theorem fp.cons {l:Array Bool} {a:Act} {o:Oper} {b:Bool} (g:ops[i]? =I o) (f:(l.setIfInBounds i xq).getD k xq=b)
  (h:∀K:Act ->wA ->Prop,Go.Shut (∀a w,S b w ->(S b w ->wN P md ops Q S k n (l.setIfInBounds i xq) a w) ->K a w) ->if Region.wanted o (yielded ops a.tmps)=xq then Oper.wp P o a w K Q else K (a.put o.dst wd) w)
  (hs:fp P md ops Q S k n l a w rs):fp P md ops Q S k n l a w (i::rs):=fun j c=>by
 rcases bU.1 c with rfl |c
 ·exact wpOp_step g (fun K e=>h K (fun a w d U=>e a w ⟨by rw[f];exact d,U d⟩))
 ·exact hs j c
theorem qp {l:Array Bool} {a:Act} (r:Region.ready md ops l=rs) (e:rs≠[]) (h:fp P md ops Q S k n l a w rs):wN P md ops Q S k (n+1) l a w:=
 ⟨fun b=>absurd (r▸b) e,r▸h⟩
theorem Rc {l:Array Bool} {a:Act} (r:Region.ready md ops l=[]) (h:Q .normal a w):∀n,wN P md ops Q S k n l a w
 |0=>⟨r,h⟩
 |_+1=>⟨fun _=>h,by rw[r];simp⟩
theorem abE {id:Nat} {a:Act} (k:Nat) (S:Bool ->wA ->Prop) (m:P.follows .mixedOrders=xq) (b:S x3 w.drew) (h:S x3 w.drew ->wN P .any ops Q S k ops.size (Array.replicate ops.size x3) a w.drew):(Code.region id ops xq).wp P Q a w:=
 wp_region_any m (abJ _ _ _ _ (h b))
end
variable {U':wA}
structure pS (U:wA) (B:Nat) (u1 u2 fv tv:wQ):Prop where
 tb:bh U B u1 u2
 nf:fv.ownBlock≠I B
 nt:tv.ownBlock≠I B
theorem pS.under {B:Nat} (h:pS U B u1 u2 fv tv) (b:da U U'):pS U' B u1 u2 fv tv:=⟨h.tb.aa b h.tb.lt,h.nf,h.nt⟩
theorem pS.pushF {B:Nat} {f:wQ} (h:pS U B u1 u2 fv tv) (g:U.grownBy U' fv.ownBlock) (n:f.ownBlock=fv.ownBlock∨∀k,f.ownBlock=I k ->U.heap.size<=k):pS U' B u1 u2 f tv:=
 ⟨(g.block B h.tb.lt (fun e=>h.nf e.symm)).trans h.tb,fun e=>by
  rcases n with n |n
  ·exact h.nf (n▸e)
  ·have:=n B e;have:=h.tb.lt;omega,h.nt⟩
theorem pS.pushT {B:Nat} {B9:wQ} (h:pS U B u1 u2 fv tv) (g:U.grownBy U' tv.ownBlock) (n:B9.ownBlock=tv.ownBlock∨∀k,B9.ownBlock=I k ->U.heap.size<=k):pS U' B u1 u2 fv B9:=
 ⟨(g.block B h.tb.lt (fun e=>h.nt e.symm)).trans h.tb,h.nf,fun e=>by
  rcases n with n |n
  ·exact h.nt (n▸e)
  ·have:=n B e;have:=h.tb.lt;omega⟩
theorem pS.off {B:Nat} (h:pS U B u1 u2 fv tv) (b j:Nat) (u:wQ) (e:B≠b):pS (AF U ⟨b,j,O⟩ u) B u1 u2 fv tv:=⟨(eO U ⟨b,j,O⟩ u B e).trans h.tb,h.nf,h.nt⟩
theorem pS.new {W V:wA} {b:Nat} {x:wQ} {Q:List (wQ×wQ)} {P:List Tb} (h:nS W b x fv tv oP pj l Q P V) (u1 u2:wQ):pS (V.alloc (TC u1 u2)) V.heap.size u1 u2 oP pj:=
 ⟨bh.at rfl u1 u2,fun e=>by have:=(uu h.fo _ e).2;omega,fun e=>by have:=(h.own.lt _ e).2;omega⟩
def mM (b B:Nat) (fv tv u1 u2:wQ) (c:Bool) (U:wA):Prop:=(AJ U ⟨B,0,O⟩=I u1/\U.cell? ⟨B,1,O⟩=I u2)/\(c=x3 ->AJ U ⟨b,1,O⟩=I fv/\U.cell? ⟨b,2,O⟩=I tv)
theorem mM.of {W:wA} {b B:Nat} {x:wQ} {Q:List (wQ×wQ)} {P:List Tb} (h:nS W b x fv tv oP pj l Q P U) (o:pS U B u1 u2 oP pj) (c:Bool):mM b B fv tv u1 u2 c U:=⟨⟨o.tb.c0,o.tb.c1⟩,fun _=>h.box.cells.2⟩
theorem mM.late {b B:Nat} (o:pS U B u1 u2 oP pj):mM b B fv tv u1 u2 xq U:=⟨⟨o.tb.c0,o.tb.c1⟩,fun e=>by cases e⟩
theorem amK (a b c q:Kd) (ca cb cc cq:Nat) (V:List Vr) (L:List Kx) (R:List (List Fr)) (Fd:Kx) (w:wA) (h:jc w a b c V L R) (hN:pU w b L) (hs:sX V L R) (hw:∀l∈R,fw l<=4200) (h0:aU V L R=0) (jr:bq L=0) (h1:1<=Z L) (dK:∀l∈L,Z l<=140737488355328) (hq:aC w q Fd) (fg:Z Fd<=1000) (yI:∀U:wA,jc U a b c V L R ->c6 81 #[zp #[J a (Z V) ca,J b (Z L) cb,J c (Z R) cc]] U fun e w'=>e=yk (E yR (aU V L R))/\da U w'):
  c6 150 #[zp #[J a (Z V) ca,J b (Z L) cb,J c (Z R) cc],J q (Z Fd) cq] w fun e w'=>∃g d cd t' gO,e=yk (zp #[J (I ⟨g,0,O⟩) (Z V) (Z V),J d (Z ((jP L).filter fun v:Nat=>Fd.contains (v:Int))) cd,J t' (Z ((jP L).filter fun v:Nat=>Fd.contains (v:Int))) gO])/\aC w' (I ⟨g,0,O⟩) (iL (ah V))/\aC w' d (iL ((jP L).filter fun v:Nat=>Fd.contains (v:Int)))/\jt w' t' (((jP L).filter fun v:Nat=>Fd.contains (v:Int)).map fun v=>(gU L v,gL V L R v))/\da w w'/\jb w.heap.size t' gO:=by
 have bF:=fK h0;have h8:Z L<=8:=by rw[bF.len];exact bF.n8
 have bk:=Fa (fun (U:wA) (hU:da w U)=>aoP b cb L U (h.aa hU).pars dK jr);have dP:=Fa (fun (x:Kd) (cx:Nat) (U:wA) (hx:ei U x (px L))=>arM x cx L U hx (yL jr) h1 h8);have ie:=Fa (fun (U:wA) (hU:da w U)=>NI a b c ca cb cc (Z L) (Z R) V U (h.aa hU).Fd hs.Fd.1);have az:=Fa (fun (v:Nat) (hv:v<Z V) (U:wA) (hU:da w U)=>aq8 a b c ca cb cc v V L R U (h.aa hU) (hN.aa h.pars hU) hs hw h0 hv yI);have uW:we (∀(x:Int) (U:wA),da w U ->c6 98 #[J q (Z Fd) cq,E yR x] U fun e w'=>e=yk (zd (Fd.contains x))/\da U w'):=fun x U hU=>Kp q cq Fd x U (hq.aa hU) al;have xB:=(aw w.heap.size w).alloc (ak _) (NC (J a (Z V) ca) (J b (Z L) cb) (J c (Z R) cc));have nP:=xB.alloc xB.size (yd #[J O 0 0,J O 0 0,J O 0 0] 177);have ZP:=bZ.at (w:=w) rfl (J a (Z V) ca) (J b (Z L) cb) (J c (Z R) cc);have Ty:=ZP.aa ((aw _ _).alloc (ak _) (yd #[J O 0 0,J O 0 0,J O 0 0] 177)) ZP.lt;have ly:cI ((w.alloc (NC (J a (Z V) ca) (J b (Z L) cb) (J c (Z R) cc))).alloc (yd #[J O 0 0,J O 0 0,J O 0 0] 177)) (w.heap.size+1) (J O 0 0) (J O 0 0) (J O 0 0):=cI.at (w:=w.alloc (NC (J a (Z V) ca) (J b (Z L) cb) (J c (Z R) cc))) aE _ _ _;have n1:=Ty.cells.2.1
 obtain⟨F,Ga⟩:∃F:Nat ->Jp,∀k,((jP L).take k).filter (fun v:Nat=>Fd.contains (v:Int))=F k:=⟨fun k=>((jP L).take k).filter (fun v:Nat=>Fd.contains (v:Int)),fun _=>rfl⟩;obtain⟨TL,uI⟩:∃TL:Nat ->List Tb,∀k,(F k).map (fun v=>(gU L v,gL V L R v))=TL k:=⟨fun k=>(F k).map (fun v=>(gU L v,gL V L R v)),fun _=>rfl⟩;have FQ:Z (jP L)=Z L:=by rw[Si];simp
 have rM:we (∀i,i<Z L ->∃v:Nat,v<Z V/\(∀(d1:Kd) (U:wA),aC U d1 (iL (jP L)) ->∃g ab,d1=I ⟨g,ab,O⟩/\g<U.heap.size/\U.cell? ⟨g,ab+i,O⟩=I (E yR (v:Nat)))/\(Fd.contains (v:Int)=xq ->F (i+1)=F i++[v])/\(Fd.contains (v:Int)=x3 ->F (i+1)=F i)):=fun i hi=>by
  have Tf:i<Z (jP L):=al
  have OD:i<Z (iL (jP L)):=by rw[bM];exact Tf
  refine⟨(jP L)[i],?_,fun d1 U hU=>?_,fun h=>?_,fun h=>?_⟩
  ·rw[<- bF.len];exact Xz (yL jr) h1 h8 (bQ Tf)
  ·obtain⟨g,ab,e,hg,hc⟩:=hU i OD;refine⟨g,ab,e,hg,?_⟩;rw[hc];simp[iL]
  ·rw[<- Ga, <- Ga,ig Tf,x5,A1 (p:=fun v:Nat=>Fd.contains (v:Int)) h];rfl
  ·rw[<- Ga, <- Ga,ig Tf,x5,A2 (p:=fun v:Nat=>Fd.contains (v:Int)) (by rw[h];decide)];simp
 have JE:we (F 0=[]/\TL 0=[]):=by show _/\_;rw[<- uI, <- Ga];exact⟨rfl,rfl⟩
 have gF:we (∀k,Z (F k)<=8):=fun k=>by rw[<- Ga];exact aO (oq ..) (by rw[eZ];omega)
 have aR:we (∀k,Z (TL k)<=8):=fun k=>by rw[<- uI,dm];exact gF.o k
 have Ck:we (∀(k v:Nat),F (k+1)=F k++[v] ->iL (F (k+1))=iL (F k)++[(v:Int)]/\TL (k+1)=TL k++[(gU L v,gL V L R v)]):=fun k v h=>by rw[<- uI, <- uI,h,gK,iL,gK];exact⟨rfl,rfl⟩
 have P5:we (∀k,F (k+1)=F k ->TL (k+1)=TL k):=fun k h=>by rw[<- uI, <- uI,h]
 have ay:we (F (Z L)=(jP L).filter (fun v:Nat=>Fd.contains (v:Int))):=by show _=_;rw[<- Ga, <- FQ,iP]
 have sY:we (TL (Z L)=((jP L).filter (fun v:Nat=>Fd.contains (v:Int))).map fun v=>(gU L v,gL V L R v)):=by show _=_;rw[<- uI,ay.o]
 have bp:Z (TL (Z L))=Z (F (Z L)):=by rw[<- uI,dm]
 rw[<- ay.o] at sY⊢;rw[<- sY.o];clear Ga uI ay sY FQ h hN hs hw hq yI xB ZP;go_enter func150,ntmps150;go_wp2_with fail
 generalize ((w.alloc (NC (J a (Z V) ca) (J b (Z L) cb) (J c (Z R) cc))).alloc (yd #[J O 0 0,J O 0 0,J O 0 0] 177))=W0 at *;refine(bk.o W0 nP).af ?_;rintro e w1 ⟨G1,rfl,jE,av⟩;have aW:=nP.trans (av.af nP.size);have B0:=Ty.aa av Ty.lt;have aZ:=ly.aa av ly.lt;have Vm:=Fa (dP.o _ (Z L) w1 jE);clear n1 Ty ly nP av jE;go_wp2_with fail
 refine Vm.o.af ?_;rintro e w2 ⟨d1,bA,G2,rfl,nL,ax⟩;have aj:=aW.trans (ax.af aW.size);have Ae:=B0.aa ax B0.lt;have an:=aZ.aa ax aZ.lt;obtain⟨n0,n1,n2⟩:=Ae.cells;have tU:=Fa (ie.o w2 aj);clear aW B0 aZ ax Vm;go_wp2_with fail
 refine tU.o.af ?_;rintro e n ⟨G,rfl,hG,bb,ai⟩;have di:=aj.trans (ai.af aj.size);have ZO:=Ae.aa ai Ae.lt;have nO:=an.aa ai an.lt;have O8:=nL.aa ai;have bC:=an.lt;have bJ:=ai.size;have lA:=(aw n.heap.size n).alloc (ak _) (yd #[J (I ⟨G,0,O⟩) (Z V) (Z V),J O 0 0,J O 0 0] 177);have kR:(AC n (yd #[J (I ⟨G,0,O⟩) (Z V) (Z V),J O 0 0,J O 0 0] 177)).heap.size=n.heap.size+1:=aE
 have gj:=Fa (di.trans (lA.af di.size));have xR:=Fa (ZO.aa lA ZO.lt);have jI:=Fa (nO.alloc (yd #[J (I ⟨G,0,O⟩) (Z V) (Z V),J O 0 0,J O 0 0] 177));have Jz:=Fa (O8.aa lA);have bx:=Fa (bb.ints.aa lA);have TD:=bb.lt;have rP:we (nS (AC n (yd #[J (I ⟨G,0,O⟩) (Z V) (Z V),J O 0 0,J O 0 0] 177)) n.heap.size (J (I ⟨G,0,O⟩) (Z V) (Z V)) (J O 0 0) (J O 0 0) (J O 0 0) (J O 0 0) (iL []) [] [] (AC n (yd #[J (I ⟨G,0,O⟩) (Z V) (Z V),J O 0 0,J O 0 0] 177))):=nS.start (cI.at (w:=n) rfl (J (I ⟨G,0,O⟩) (Z V) (Z V)) (J O 0 0) (J O 0 0));have bt:=Fa lA
 have bg:we (∀U:wA,(AC n (yd #[J (I ⟨G,0,O⟩) (Z V) (Z V),J O 0 0,J O 0 0] 177)).grownBy U (I n.heap.size) ->aC U d1 (iL (jP L))):=fun U hU=>NY Jz.o (fun g ab e ae e2=>by
  obtain⟨g',o',e',iA,_⟩:=O8 0 (by cases hl:iL (jP L) with |nil=>exact absurd hl ae |cons x l=>simp);rw[e] at e';cases e';cases e2;omega) hU
 have bw:we (∀U:wA,(AC n (yd #[J (I ⟨G,0,O⟩) (Z V) (Z V),J O 0 0,J O 0 0] 177)).grownBy U (I n.heap.size) ->aC U (I ⟨G,0,O⟩) (iL (ah V))):=fun U hU=>NY bx.o (fun g ab e ae e2=>by
  cases e;cases e2;omega) hU
 clear aj di Ae ZO an nO O8 nL lA bb ai n0 n1 n2 tU ie bk dP h0 jr bF dK;go_wp2_with fail
 generalize (AC n (yd #[J (I ⟨G,0,O⟩) (Z V) (Z V),J O 0 0,J O 0 0] 177))=W4 at *;have ad:n.heap.size<W4.heap.size:=al
 go_loopw [32] (fun iv wr=>∃(i:Nat) (fv tv:wQ) (Q:List (wQ×wQ)),i<=Z L/\iv=E yR i/\we (nS W4 n.heap.size (J (I ⟨G,0,O⟩) (Z V) (Z V)) fv tv fv tv (iL (F i)) Q (TL i) wr)) (fun iv _=>Z L - (intOf iv).toNat)
 case atStart=>exact⟨0,_,_,_,aX _,rfl,by rw[JE.o.1,JE.o.2];exact rP⟩
 case round=>
  obtain⟨i,fv,tv,Q,hi,rfl,H⟩:=hrel;have Du:=H.o.fr.size;have HB:we (da w wr):=Pe gj.o H.o.fr al al;have EG:we (da n wr):=Pe bt.o H.o.fr al al;have Ml:we (bZ wr w.heap.size (J a (Z V) ca) (J b (Z L) cb) (J c (Z R) cc)):=(H.o.fr.block _ xR.o.lt (fun e=>by have:=kg e;omega)).trans xR.o;have tV:we (cI wr (w.heap.size+1) (J O 0 0) (J O 0 0) (J O 0 0)):=(H.o.fr.block _ jI.o.lt (fun e=>by have:=kg e;omega)).trans jI.o;by_cases bz:i<Z L
  ·obtain⟨v,hv,bs,a1,uJ⟩:=rM.o i bz;obtain⟨g,ab,rfl,hg,hc⟩:=bs d1 wr (bg.o wr H.o.fr);have HX:=Fa (uW.o (v:Int) wr HB.o);have bf:=Fa (az.o v hv);have iw:=Fa (fun h=>Ck.o i v (a1 h));have lF:=Fa uJ;clear bs a1 uJ jI xR tV;generalize Fd.contains (v:Int)=bv at *;go_wp2_with fail
   refine HX.o.af ?_;rintro e w5 ⟨rfl,OW⟩;have mh:=Fa (H.o.under OW);have Jt:=Fa (Ml.o.aa OW Ml.o.lt);have fh:=Fa (HB.o.trans (OW.af HB.o.size));have bN:=OW.size;have tY:we (∀B1,fv.ownBlock=I B1 ->B1<wr.heap.size):=fun B1 hZ=>(uu H.o.fo B1 hZ).2;have yY:we (∀B1,tv.ownBlock=I B1 ->B1<wr.heap.size):=fun B1 hZ=>(H.o.own.lt B1 hZ).2;clear hc HX H Ml HB OW EG;cases bv with
   |false=>
    replace lF:=Fa (lF.o rfl);replace P5:=Fa (P5.o i lF.o);go_wp2;go_roundw
    case rel=>exact⟨i+1,fv,tv,Q,al,bd,by rw[lF.o,P5.o];exact mh⟩
    case measure=>simp[intOf];omega
   |true=>
    obtain⟨n0,n1,n2⟩:=Jt.o.cells;have q7:=Fa (bf.o w5 fh.o);replace iw:=Fa (iw.o rfl);clear bf lF fh az uW P5 Ck;go_wp2_with fail
    refine q7.o.af ?_;rintro e w6 ⟨⟨u1,u2,rfl,BG,zO⟩,gZ⟩;have AA:=Fa BG.slices;have bO:=gZ.size;have rN:we (∀B1,B1<wr.heap.size ->iC B1 (gU L v,gL V L R v) (u1,u2)):=fun B1 hZ=>zO B1 al;have Ju:=Fa (mh.o.under gZ);have bm:=Fa BG;obtain⟨t,M,D,rfl⟩:=BG.slices.1;obtain⟨u,z,A,rfl⟩:=BG.slices.2;clear BG zO q7 n0 n1 n2 Jt mh;go_upto_region 9 with (fail)
    have B3:=(aw w6.heap.size w6).alloc (ak _) (TC (J t M D) (J u z A));have B2:=Fa (pS.new Ju.o (J t M D) (J u z A));have H:=Fa (Ju.o.under B3);have o:=Fa (bm.o.aa B3);(have ae:w6.heap.size≠n.heap.size:=al);clear B3 Ju bm gZ;generalize aqX:w6.heap.size=JM at *;obtain⟨W8,uH⟩:∃W8,w6.alloc (TC (J t M D) (J u z A))=W8:=⟨_,rfl⟩;have bo:AC w6 (yd #[J t M D,J u z A] 38)=W8:=uH;rw[uH] at B2 H o;simp only[bo];clear uH bo aqX;have Ai:da W8 W8.drew:=(aw W8.heap.size W8).drew;replace B2:=Fa (B2.o.under Ai);replace H:=Fa (H.o.under Ai);replace o:=Fa (o.o.aa Ai);clear Ai;obtain⟨D5,DN⟩:∃D5,W8.drew=D5:=⟨_,rfl⟩;rw[DN] at B2 H o;refine abE 11 (mM n.heap.size JM fv tv (J t M D) (J u z A)) ao (by rw[DN];exact mM.of H.o B2.o x3) (fun m=>?_);rw[DN] at m⊢;clear DN;(try simp only[gE,aP]);refine qo (i:=0) (oi:=_) (v:=zZ (I ⟨n.heap.size,1,O⟩)) (b:=x3) rfl ao ao ao a6 (fun _ _ _ h=>h) (Or.inl ⟨by rfl,?_⟩) ao b5 ?_
    ·intro u' aM;go_simp
    (try simp only[gE,aP]);refine V6 (i:=1) (oi:=_) (v:=fv) rfl ao ao ao a6 rfl ao (fun _ _ _ h=>h) (Or.inl ⟨by rfl,?_⟩) ao b5 ?_
    ·intro u' aM;(try simp only[gE]);obtain⟨⟨_,_⟩,qJ⟩:=aM;obtain⟨vM,BZ⟩:=qJ rfl;go_simp
    (try simp only[gE,aP]);refine qo (i:=2) (oi:=_) (v:=E yR (v:Nat)) (b:=x3) rfl ao ao ao a6 (fun _ _ _ h=>h) (Or.inl ⟨by rfl,?_⟩) ao b5 ?_
    ·intro u' aM;go_simp
    (try simp only[gE,aP]);refine qo (i:=5) (oi:=_) (v:=zZ (I ⟨n.heap.size,2,O⟩)) (b:=x3) rfl ao ao ao a6 (fun _ _ _ h=>h) (Or.inl ⟨by rfl,?_⟩) ao b5 ?_
    ·intro u' aM;go_simp
    (try simp only[gE,aP]);refine V6 (i:=6) (oi:=_) (v:=tv) rfl ao ao ao a6 rfl ao (fun _ _ _ h=>h) (Or.inl ⟨by rfl,?_⟩) ao b5 ?_
    ·intro u' aM;(try simp only[gE]);obtain⟨⟨_,_⟩,qJ⟩:=aM;obtain⟨vM,BZ⟩:=qJ rfl;go_simp
    (try simp only[gE,aP]);refine qo (i:=7) (oi:=_) (v:=zp #[J t M D,J u z A]) (b:=x3) rfl ao ao ao a6 (fun _ _ _ h=>h) (Or.inl ⟨by rfl,?_⟩) ao b5 ?_
    ·intro u' aM;(try simp only[gE]);obtain⟨_,⟨uJ,a1⟩,_⟩:=aM;go_simp
    (try simp only[gE,aP]);refine qp (rs:=[3,8]) ao aE (fp.cons (b:=x3) rfl ao ?_ (fp.cons (b:=x3) rfl ao ?_ (fp.nil)))
    ·intro s K;go_simp;have B6:=(aw D5.heap.size D5).alloc (ak _) (yd #[E yR (v:Nat)] 3);have mQ:=Fa (bE D5 3 (E yR (v:Nat))).cell;replace H:=Fa (H.o.under B6);replace B2:=Fa (B2.o.under B6);replace o:=Fa (o.o.aa B6);refine K.o _ _ (mM.of H.o B2.o x3) (fun f=>?_);clear B6 K s m;have m:=f;clear f;obtain⟨ga,BU⟩:∃ga,D5.heap.size=ga:=⟨_,rfl⟩;obtain⟨ua,oJ⟩:∃ua,AC D5 (yd #[E yR (v:Nat)] 3)=ua:=⟨_,rfl⟩;rw[BU,oJ] at mQ;rw[oJ] at H B2 o;simp only[oJ] at m⊢;simp only[BU];clear oJ BU;(try simp only[gE,aP]);refine qp (rs:=[4,8]) ao aE (fp.cons (b:=x3) rfl ao ?_ (fp.cons (b:=x3) rfl ao ?_ (fp.nil)))
     ·intro s K;rw[aA (by rfl)];refine V5 _ _ rfl W4.heap.size fv (iL (F i)) (v:Int) rfl H.o.fo ga rfl mQ.o (by rw[bM];have:=gF.o i;omega) H.o.fr.size ?_;intro Gg w9 uD Y pC
      have GN:we (∀B1,Gg.ownBlock=I B1 ->iC B1 (gU L v,gL V L R v) (J t M D,J u z A)):=fun B1 hR=>by
       rcases pC with hn |hn
       ·exact rN.o B1 (tY.o B1 (by rw[<- hn];exact hR))
       ·exact o.o.lt (hn B1 hR)
      replace o:=Fa (o.o.keepR (fun r hr=>rN.o r (tY.o r hr)) Y);replace B2:=Fa (B2.o.pushF Y pC);replace H:=Fa (H.o.pushF ad uD Y pC)
      obtain⟨X,B9,B7,rfl⟩:∃X B9 B7,Gg=Value.slice B9 X B7:=by
       obtain⟨B9,B7,e⟩:=yh uD;exact⟨_,B9,B7,e⟩
      refine K.o _ _ (mM.of H.o B2.o x3) (fun f=>?_);clear uD Y pC mQ K s m;have m:=f;clear f;(try simp only[gE,aP]);refine qo (i:=10) (oi:=_) (v:=zZ (I ⟨n.heap.size,1,O⟩)) (b:=x3) rfl ao ao ao a6 (fun _ _ _ h=>h) (Or.inl ⟨by rfl,?_⟩) ao b5 ?_
      ·intro u' aM;go_simp
      (try simp only[gE,aP]);refine qp (rs:=[8]) ao aE (fp.cons (b:=x3) rfl ao ?_ (fp.nil))
      ·intro s K;go_simp;have B6:=(aw w9.heap.size w9).alloc (ak _) (TC (J t M D) (J u z A));have P:=Fa (pS.new H.o (J t M D) (J u z A));replace H:=Fa (H.o.under B6);replace B2:=Fa (B2.o.under B6);replace o:=Fa (o.o.aa B6);refine K.o _ _ (mM.of H.o B2.o x3) (fun f=>?_);clear B6 K s m;have m:=f;clear f;obtain⟨gt,fH⟩:∃gt,w9.heap.size=gt:=⟨_,rfl⟩;obtain⟨ut,qG⟩:∃ut,w9.alloc (TC (J t M D) (J u z A))=ut:=⟨_,rfl⟩;have Fz:AC w9 (yd #[J t M D,J u z A] 38)=ut:=qG;rw[fH,qG] at P;rw[qG] at H B2 o;simp only[Fz] at m⊢;simp only[fH];clear qG Fz fH;(try simp only[gE,aP]);refine qp (rs:=[9]) ao aE (fp.cons (b:=x3) rfl ao ?_ (fp.nil))
       ·intro s K;rw[aA (by rfl)];refine V4 _ _ rfl W4.heap.size tv (Z (TL i)) (fS Q) (J t M D) (J u z A) rfl H.o.own.own gt rfl P.o.tb.c0 P.o.tb.c1 AA.o.1 AA.o.2 (by have:=aR.o i;omega) H.o.fr.size ?_;intro eX dF iz gX jo;replace B2:=Fa (B2.o.pushT gX jo);replace H:=Fa (H.o.pushT ad o.o (fun B1 hZ=>rN.o B1 (yY.o B1 hZ)) GN.o (fun B1 hZ=>rN.o B1 al) iz gX jo);obtain⟨S,T,rfl⟩:=yh iz;refine K.o _ _ (mM.of H.o B2.o x3) (fun f=>?_);clear iz gX jo P o GN K s m;have m:=f;clear f;have c1:=H.o.box.cells.2.1;have f1:=H.o.box.fz 1;refine qp (rs:=[11]) ao aE (fp.cons (b:=xq) rfl ao ?_ (fp.nil))
        ·intro s K;go_simp;replace H:=Fa (H.o.set1 ad (J B9 X B7));replace B2:=Fa (B2.o.off n.heap.size 1 (J B9 X B7) ae);refine K.o _ _ (mM.late B2.o) (fun f=>?_);clear c1 f1 K s m;have m:=f;clear f;(try simp only[gE,aP]);refine qo (i:=12) (oi:=_) (v:=zZ (I ⟨n.heap.size,2,O⟩)) (b:=xq) rfl ao ao ao a6 (fun _ _ _ h=>h) (Or.inl ⟨by rfl,?_⟩) ao b5 ?_
         ·intro u' aM;go_simp
         have c2:=H.o.box.cells.2.2;have f2:=H.o.box.fz 2;refine qp (rs:=[13]) ao aE (fp.cons (b:=xq) rfl ao ?_ (fp.nil))
         ·intro s K;go_simp;replace H:=Fa (H.o.set2 ad (J S (Z (TL i)+1) T));replace B2:=Fa (B2.o.off n.heap.size 2 (J S (Z (TL i)+1) T) ae);refine K.o _ _ (mM.late B2.o) (fun f=>?_);clear c2 f2 K s m;have m:=f;clear f;(try simp only[gE,aP]);refine Rc ao ?_ _;clear m B2;generalize (((AF dF ⟨n.heap.size,1,O⟩ (J B9 X B7))).setCell ⟨n.heap.size,2,O⟩ (J S (Z (TL i)+1) T))=x8 at *;go_wp2;go_roundw
          case rel=>exact⟨i+1,_,_,_,al,bd,by rw[iw.o.1,iw.o.2];exact H⟩
          case measure=>simp[intOf];omega
     ·intro s K;go_simp;have B6:=(aw ua.heap.size ua).alloc (ak _) (TC (J t M D) (J u z A));have P:=Fa (pS.new H.o (J t M D) (J u z A));replace H:=Fa (H.o.under B6);replace B2:=Fa (B2.o.under B6);replace o:=Fa (o.o.aa B6);replace mQ:=Fa (((B6.cell (p:=⟨ga,0,O⟩) (World.block_lt_of_cell? _ _ mQ.o))).trans mQ.o);refine K.o _ _ (mM.of H.o B2.o x3) (fun f=>?_);clear B6 K s m;have m:=f;clear f;obtain⟨gt,fH⟩:∃gt,ua.heap.size=gt:=⟨_,rfl⟩;obtain⟨ut,qG⟩:∃ut,ua.alloc (TC (J t M D) (J u z A))=ut:=⟨_,rfl⟩;have Fz:AC ua (yd #[J t M D,J u z A] 38)=ut:=qG;rw[fH,qG] at P;rw[qG] at H B2 o mQ;simp only[Fz] at m⊢;simp only[fH];clear qG Fz fH;(try simp only[gE,aP]);refine qp (rs:=[4]) ao aE (fp.cons (b:=x3) rfl ao ?_ (fp.nil))
      ·intro s K;rw[aA (by rfl)];refine V5 _ _ rfl W4.heap.size fv (iL (F i)) (v:Int) rfl H.o.fo ga rfl mQ.o (by rw[bM];have:=gF.o i;omega) H.o.fr.size ?_;intro Gg w9 uD Y pC
       have GN:we (∀B1,Gg.ownBlock=I B1 ->iC B1 (gU L v,gL V L R v) (J t M D,J u z A)):=fun B1 hR=>by
        rcases pC with hn |hn
        ·exact rN.o B1 (tY.o B1 (by rw[<- hn];exact hR))
        ·exact o.o.lt (hn B1 hR)
       replace o:=Fa (o.o.keepR (fun r hr=>rN.o r (tY.o r hr)) Y);replace P:=Fa (P.o.pushF Y pC);replace B2:=Fa (B2.o.pushF Y pC);replace H:=Fa (H.o.pushF ad uD Y pC)
       obtain⟨X,B9,B7,rfl⟩:∃X B9 B7,Gg=Value.slice B9 X B7:=by
        obtain⟨B9,B7,e⟩:=yh uD;exact⟨_,B9,B7,e⟩
       refine K.o _ _ (mM.of H.o B2.o x3) (fun f=>?_);clear uD Y pC mQ K s m;have m:=f;clear f;(try simp only[gE,aP]);refine qo (i:=10) (oi:=_) (v:=zZ (I ⟨n.heap.size,1,O⟩)) (b:=x3) rfl ao ao ao a6 (fun _ _ _ h=>h) (Or.inl ⟨by rfl,?_⟩) ao b5 ?_
       ·intro u' aM;go_simp
       (try simp only[gE,aP]);refine qp (rs:=[9]) ao aE (fp.cons (b:=x3) rfl ao ?_ (fp.nil))
       ·intro s K;rw[aA (by rfl)];refine V4 _ _ rfl W4.heap.size tv (Z (TL i)) (fS Q) (J t M D) (J u z A) rfl H.o.own.own gt rfl P.o.tb.c0 P.o.tb.c1 AA.o.1 AA.o.2 (by have:=aR.o i;omega) H.o.fr.size ?_;intro eX dF iz gX jo;replace B2:=Fa (B2.o.pushT gX jo);replace H:=Fa (H.o.pushT ad o.o (fun B1 hZ=>rN.o B1 (yY.o B1 hZ)) GN.o (fun B1 hZ=>rN.o B1 al) iz gX jo);obtain⟨S,T,rfl⟩:=yh iz;refine K.o _ _ (mM.of H.o B2.o x3) (fun f=>?_);clear iz gX jo P o GN K s m;have m:=f;clear f;have c1:=H.o.box.cells.2.1;have f1:=H.o.box.fz 1;refine qp (rs:=[11]) ao aE (fp.cons (b:=xq) rfl ao ?_ (fp.nil))
        ·intro s K;go_simp;replace H:=Fa (H.o.set1 ad (J B9 X B7));replace B2:=Fa (B2.o.off n.heap.size 1 (J B9 X B7) ae);refine K.o _ _ (mM.late B2.o) (fun f=>?_);clear c1 f1 K s m;have m:=f;clear f;(try simp only[gE,aP]);refine qo (i:=12) (oi:=_) (v:=zZ (I ⟨n.heap.size,2,O⟩)) (b:=xq) rfl ao ao ao a6 (fun _ _ _ h=>h) (Or.inl ⟨by rfl,?_⟩) ao b5 ?_
         ·intro u' aM;go_simp
         have c2:=H.o.box.cells.2.2;have f2:=H.o.box.fz 2;refine qp (rs:=[13]) ao aE (fp.cons (b:=xq) rfl ao ?_ (fp.nil))
         ·intro s K;go_simp;replace H:=Fa (H.o.set2 ad (J S (Z (TL i)+1) T));replace B2:=Fa (B2.o.off n.heap.size 2 (J S (Z (TL i)+1) T) ae);refine K.o _ _ (mM.late B2.o) (fun f=>?_);clear c2 f2 K s m;have m:=f;clear f;(try simp only[gE,aP]);refine Rc ao ?_ _;clear m B2;generalize (((AF dF ⟨n.heap.size,1,O⟩ (J B9 X B7))).setCell ⟨n.heap.size,2,O⟩ (J S (Z (TL i)+1) T))=x8 at *;go_wp2;go_roundw
          case rel=>exact⟨i+1,_,_,_,al,bd,by rw[iw.o.1,iw.o.2];exact H⟩
          case measure=>simp[intOf];omega
    ·intro s K;go_simp;have B6:=(aw D5.heap.size D5).alloc (ak _) (TC (J t M D) (J u z A));have P:=Fa (pS.new H.o (J t M D) (J u z A));replace H:=Fa (H.o.under B6);replace B2:=Fa (B2.o.under B6);replace o:=Fa (o.o.aa B6);refine K.o _ _ (mM.of H.o B2.o x3) (fun f=>?_);clear B6 K s m;have m:=f;clear f;obtain⟨gt,fH⟩:∃gt,D5.heap.size=gt:=⟨_,rfl⟩;obtain⟨ut,qG⟩:∃ut,D5.alloc (TC (J t M D) (J u z A))=ut:=⟨_,rfl⟩;have Fz:AC D5 (yd #[J t M D,J u z A] 38)=ut:=qG;rw[fH,qG] at P;rw[qG] at H B2 o;simp only[Fz] at m⊢;simp only[fH];clear qG Fz fH;(try simp only[gE,aP]);refine qp (rs:=[3]) ao aE (fp.cons (b:=x3) rfl ao ?_ (fp.nil))
     ·intro s K;go_simp;have B6:=(aw ut.heap.size ut).alloc (ak _) (yd #[E yR (v:Nat)] 3);have mQ:=Fa (bE ut 3 (E yR (v:Nat))).cell;replace H:=Fa (H.o.under B6);replace B2:=Fa (B2.o.under B6);replace P:=Fa (P.o.under B6);replace o:=Fa (o.o.aa B6);refine K.o _ _ (mM.of H.o B2.o x3) (fun f=>?_);clear B6 K s m;have m:=f;clear f;obtain⟨ga,BU⟩:∃ga,ut.heap.size=ga:=⟨_,rfl⟩;obtain⟨ua,oJ⟩:∃ua,AC ut (yd #[E yR (v:Nat)] 3)=ua:=⟨_,rfl⟩;rw[BU,oJ] at mQ;rw[oJ] at H B2 o P;simp only[oJ] at m⊢;simp only[BU];clear oJ BU;(try simp only[gE,aP]);refine qp (rs:=[4]) ao aE (fp.cons (b:=x3) rfl ao ?_ (fp.nil))
      ·intro s K;rw[aA (by rfl)];refine V5 _ _ rfl W4.heap.size fv (iL (F i)) (v:Int) rfl H.o.fo ga rfl mQ.o (by rw[bM];have:=gF.o i;omega) H.o.fr.size ?_;intro Gg w9 uD Y pC
       have GN:we (∀B1,Gg.ownBlock=I B1 ->iC B1 (gU L v,gL V L R v) (J t M D,J u z A)):=fun B1 hR=>by
        rcases pC with hn |hn
        ·exact rN.o B1 (tY.o B1 (by rw[<- hn];exact hR))
        ·exact o.o.lt (hn B1 hR)
       replace o:=Fa (o.o.keepR (fun r hr=>rN.o r (tY.o r hr)) Y);replace P:=Fa (P.o.pushF Y pC);replace B2:=Fa (B2.o.pushF Y pC);replace H:=Fa (H.o.pushF ad uD Y pC)
       obtain⟨X,B9,B7,rfl⟩:∃X B9 B7,Gg=Value.slice B9 X B7:=by
        obtain⟨B9,B7,e⟩:=yh uD;exact⟨_,B9,B7,e⟩
       refine K.o _ _ (mM.of H.o B2.o x3) (fun f=>?_);clear uD Y pC mQ K s m;have m:=f;clear f;(try simp only[gE,aP]);refine qo (i:=10) (oi:=_) (v:=zZ (I ⟨n.heap.size,1,O⟩)) (b:=x3) rfl ao ao ao a6 (fun _ _ _ h=>h) (Or.inl ⟨by rfl,?_⟩) ao b5 ?_
       ·intro u' aM;go_simp
       (try simp only[gE,aP]);refine qp (rs:=[9]) ao aE (fp.cons (b:=x3) rfl ao ?_ (fp.nil))
       ·intro s K;rw[aA (by rfl)];refine V4 _ _ rfl W4.heap.size tv (Z (TL i)) (fS Q) (J t M D) (J u z A) rfl H.o.own.own gt rfl P.o.tb.c0 P.o.tb.c1 AA.o.1 AA.o.2 (by have:=aR.o i;omega) H.o.fr.size ?_;intro eX dF iz gX jo;replace B2:=Fa (B2.o.pushT gX jo);replace H:=Fa (H.o.pushT ad o.o (fun B1 hZ=>rN.o B1 (yY.o B1 hZ)) GN.o (fun B1 hZ=>rN.o B1 al) iz gX jo);obtain⟨S,T,rfl⟩:=yh iz;refine K.o _ _ (mM.of H.o B2.o x3) (fun f=>?_);clear iz gX jo P o GN K s m;have m:=f;clear f;have c1:=H.o.box.cells.2.1;have f1:=H.o.box.fz 1;refine qp (rs:=[11]) ao aE (fp.cons (b:=xq) rfl ao ?_ (fp.nil))
        ·intro s K;go_simp;replace H:=Fa (H.o.set1 ad (J B9 X B7));replace B2:=Fa (B2.o.off n.heap.size 1 (J B9 X B7) ae);refine K.o _ _ (mM.late B2.o) (fun f=>?_);clear c1 f1 K s m;have m:=f;clear f;(try simp only[gE,aP]);refine qo (i:=12) (oi:=_) (v:=zZ (I ⟨n.heap.size,2,O⟩)) (b:=xq) rfl ao ao ao a6 (fun _ _ _ h=>h) (Or.inl ⟨by rfl,?_⟩) ao b5 ?_
         ·intro u' aM;go_simp
         have c2:=H.o.box.cells.2.2;have f2:=H.o.box.fz 2;refine qp (rs:=[13]) ao aE (fp.cons (b:=xq) rfl ao ?_ (fp.nil))
         ·intro s K;go_simp;replace H:=Fa (H.o.set2 ad (J S (Z (TL i)+1) T));replace B2:=Fa (B2.o.off n.heap.size 2 (J S (Z (TL i)+1) T) ae);refine K.o _ _ (mM.late B2.o) (fun f=>?_);clear c2 f2 K s m;have m:=f;clear f;(try simp only[gE,aP]);refine Rc ao ?_ _;clear m B2;generalize (((AF dF ⟨n.heap.size,1,O⟩ (J B9 X B7))).setCell ⟨n.heap.size,2,O⟩ (J S (Z (TL i)+1) T))=x8 at *;go_wp2;go_roundw
          case rel=>exact⟨i+1,_,_,_,al,bd,by rw[iw.o.1,iw.o.2];exact H⟩
          case measure=>simp[intOf];omega
  ·obtain rfl:i=Z L:=al
   obtain⟨d,cd,rfl,br⟩:=H.o.fo.ints;obtain⟨S,T,rfl,FE⟩:=H.o.own.row;obtain⟨x0,t,u⟩:=H.o.box.cells;obtain⟨r0,r1,r2⟩:=tV.o.cells;have RI:=tV.o.fz 0;have RH:=tV.o.fz 1;have RG:=tV.o.fz 2;have e1:Z (iL (F (Z L)))=Z (F (Z L)):=bM _;rw[e1] at H t;rw[bp] at H u;have Ep:=Fa (tV.o.put (J (I ⟨G,0,O⟩) (Z V) (Z V)) (J d (Z (F (Z L))) cd) (J S (Z (F (Z L))) T));have wC:=Fa (eJ HB.o (show w.heap.size<=w.heap.size+1 by omega) (J (I ⟨G,0,O⟩) (Z V) (Z V)) (J d (Z (F (Z L))) cd) (J S (Z (F (Z L))) T))
   have jJ:Value.ownBlock (J S (Z (F (Z L))) T)≠I (w.heap.size+1):=fun e=>by
    have:=(H.o.own.lt _ e).1;omega
   have F9:=((H.o.own.off (g:=w.heap.size+1) (j:=0) (J (I ⟨G,0,O⟩) (Z V) (Z V)) (H.o.far _ al) jJ).off (g:=w.heap.size+1) (j:=1) (J d (Z (F (Z L))) cd) (H.o.far _ al) jJ).off (g:=w.heap.size+1) (j:=2) (J S (Z (F (Z L))) T) (H.o.far _ al) jJ;obtain⟨bT,b0,e2,FD⟩:=F9.row;rw[bp] at e2;injection e2 with e3 e4 e5;subst e3 e5;clear e4;have tP:=Fa FD
   have rO:∀g ab,d=I ⟨g,ab,O⟩ ->iL (F (Z L))≠[] ->g≠w.heap.size+1:=fun g ab e _ e2=>by
    subst e;have:=(uu H.o.fo g rfl).1;omega
   have Cz:=Fa (((br.off (g:=w.heap.size+1) (j:=0) (y:=J (I ⟨G,0,O⟩) (Z V) (Z V)) rO).off (g:=w.heap.size+1) (j:=1) (y:=J d (Z (F (Z L))) cd) rO).off (g:=w.heap.size+1) (j:=2) (y:=J S (Z (F (Z L))) T) rO)
   have EA:∀g ab,(I ⟨G,0,O⟩:Kd)=I ⟨g,ab,O⟩ ->iL (ah V)≠[] ->g≠w.heap.size+1:=fun g ab e _ e2=>by
    cases e;omega
   have bu:=Fa ((((bw.o wr H.o.fr).off (g:=w.heap.size+1) (j:=0) (y:=J (I ⟨G,0,O⟩) (Z V) (Z V)) EA).off (g:=w.heap.size+1) (j:=1) (y:=J d (Z (F (Z L))) cd) EA).off (g:=w.heap.size+1) (j:=2) (y:=J S (Z (F (Z L))) T) EA);have dO:=Fa ((Xm H.o.own.own).up (show w.heap.size<=W4.heap.size by omega));clear F9 FD FE br EA rO jJ H HB EG Ml tV bg rM az uW Ck P5;go_wp2;refine cN (Ep.o.result1 rfl _ rfl) rfl ?_;exact⟨G,d,cd,S,T,rfl,bu.o,Cz.o,tP.o,wC.o,dO.o⟩
theorem amL (a b c q:Kd) (ca cb cc i:Nat) (V:List Vr) (L:List Kx) (R:List (List Fr)) (Fd:Kx) (w:wA) (h:jc w a b c V L R) (k:pU w b L) (hs:sX V L R) (n:∀l∈R,fw l<=4200) (h0:aU V L R=0) (r:bq L=0) (h1:1<=Z L) (K:∀l∈L,Z l<=140737488355328) (m:aC w q Fd) (j:Z Fd<=1000) (y:∀U:wA,jc U a b c V L R ->c6 81 #[zp #[J a (Z V) ca,J b (Z L) cb,J c (Z R) cc]] U fun e w'=>e=yk (E yR (aU V L R))/\da U w'):
  c6 150 #[zp #[J a (Z V) ca,J b (Z L) cb,J c (Z R) cc],J q (Z Fd) i] w fun e w'=>∃g d f t B2,e=yk (zp #[J (I ⟨g,0,O⟩) (Z V) (Z V),J d (Z ((jP L).filter fun v:Nat=>Fd.contains (v:Int))) f,J t (Z ((jP L).filter fun v:Nat=>Fd.contains (v:Int))) B2])/\aC w' (I ⟨g,0,O⟩) (iL (ah V))/\aC w' d (iL ((jP L).filter fun v:Nat=>Fd.contains (v:Int)))/\jt w' t (((jP L).filter fun v:Nat=>Fd.contains (v:Int)).map fun v=>(gU L v,gL V L R v))/\da w w':=
 (amK a b c q ca cb cc i V L R Fd w h k hs n h0 r h1 K m j y).af fun _ _ ⟨g,d,f,t,B2,e,o,p,s,u,_⟩=>⟨g,d,f,t,B2,e,o,p,s,u⟩
theorem ak9 {B:Nat} (d:Kd) (n c:Nat) (l:Kx) (w:wA) (h:bS w B (J d n c) l) (r:B<=w.heap.size) (B9:Z l<=100000):
  c6 133 #[J d n c] w fun e w'=>e=yk (zz #[])/\n=Z l/\aC w' d (l.mergeSort fun x y=>decide (x<=y))/\Below B w w':=by
 rcases h.cases with ⟨e,rfl⟩ |⟨g,cap,e,v,a,F,H,f⟩
 ·cases e;refine(Tryz.slices_Sort_int_none O 0 w).af ?_;rintro e u ⟨rfl,rfl⟩;exact⟨rfl,rfl,fun k t=>absurd t aE,aw _ _⟩
 ·cases e;refine(Tryz.slices_Sort_int g 0 c l w f a al).af ?_;have D:Z (l.mergeSort fun x y=>decide (x<=y))=Z l:=MN _;generalize (l.mergeSort fun x y=>decide (x<=y))=s at *;rintro e u ⟨rfl,q,o,rfl⟩;have z:s.toArray.size=l.toArray.size:=by simp;exact D
  have A:Holds (Value.int yR) (grow (putRow (Value.int yR) (Sort.ahead w q) g 0 s.toArray) o) g 0 s.toArray:=fun j b=>by
   obtain⟨m,p⟩:=holds_putRow (Value.int yR) (Sort.ahead w q) g 0 _ s.toArray f z j b;(have i:g<(putRow (Value.int yR) (Sort.ahead w q) g 0 s.toArray).heap.size:=by rw[size_putRow];exact a);refine⟨(cell?_grow _ _ _ i).trans m,?_⟩;rw[frozen?_grow _ _ _ i];exact p
  have B7:g<(grow (putRow (Value.int yR) (Sort.ahead w q) g 0 s.toArray) o).heap.size:=aT a (Mz (w:=w) (g:=g) (n:=q) (os:=o) s.toArray).size;exact⟨rfl,rfl,Dp A B7 (fun j b=>⟨by simpa using b,aE⟩),Ur s.toArray (aw _ _) r v⟩
theorem ak6 (d:∀x∈l,0<=x/\x<n) (e:l.Nodup):Up (l.mergeSort fun x y=>decide (x<=y)) n:=by
 have hs:(l.mergeSort fun x y=>decide (x<=y)).Pairwise (fun x y=>decide (x<=y)=xq):=VR (fun a b c=>by simp;omega) (fun a b=>by simp;omega) _;have p:=QU l fun x y=>decide (x<=y);have f:(l.mergeSort fun x y=>decide (x<=y)).Nodup:=p.nodup_iff.2 e;refine dY.2 ⟨fun x g=>d x (p.mem_iff.1 g),(hs.and f).imp fun {a b} h=>?_⟩;have i:=mS h.1;have j:=h.2;omega
def xD (q:Kx) (l:List (Nat×Nat)):Kx:=q++(zF l).map (·.1)
def Aq (q:Kx) (l:List (Nat×Nat)):Kx:=(xD q l).mergeSort fun x y=>decide (x<=y)
theorem aix {q:Kx} {l:List (Nat×Nat)} (v:Nat):v∈ag (Aq q l)↔v∈ag q∨v∈l.map (·.1):=by
 have c:=QU (xD q l) fun x y=>decide (x<=y)
 have m:v∈ag (Aq q l)↔∃x∈xD q l,x.toNat=v:=by
  rw[Aq,ag,aQ];exact⟨fun ⟨x,h,e⟩=>⟨x,c.mem_iff.1 h,e⟩,fun ⟨x,h,e⟩=>⟨x,c.mem_iff.2 h,e⟩⟩
 rw[m];constructor
 ·rintro⟨x,a,rfl⟩;rcases bH.1 a with a |a
  ·exact yp (aQ.2 ⟨x,a,rfl⟩)
  ·obtain⟨p,d,rfl⟩:=aQ.1 a;obtain⟨r,b,rfl⟩:=aQ.1 d;exact xS (aQ.2 ⟨r,b,aE⟩)
 ·rintro(h |h)
  ·obtain⟨x,a,e⟩:=aQ.1 h;exact⟨x,bH.2 (yp a),e⟩
  ·obtain⟨r,b,rfl⟩:=aQ.1 h;exact⟨(r.1:Int),bH.2 (xS (aQ.2 ⟨_,aQ.2 ⟨r,b,rfl⟩,rfl⟩)),aE⟩
theorem atx {q:Kx} {l:List (Nat×Nat)} (i:Up q n) (g:fj S n l) (j:∀v∈ag q,¬v∈l.map (·.1)):Up (Aq q l) n:=by
 refine ak6 (fun x c=>?_) ?_
 ·rcases bH.1 c with c |c
  ·exact Ht i x c
  ·obtain⟨p,f,rfl⟩:=aQ.1 c;obtain⟨r,d,rfl⟩:=aQ.1 f;have:=g.lt r d;show 0<=(r.1:Int)/\(r.1:Int)<n;omega
 ·refine oh.2 ⟨?_,?_,fun x c y k e=>?_⟩
  ·exact(dY.1 i).2.imp fun h=>al
  ·rw[zF,AZ];refine(CS.2 ?_);exact(CS.1 g.nd).imp fun {a b} h e=>h (by have m:(a.1:Int)=(b.1:Int):=e;omega)
  ·subst e;obtain⟨p,f,rfl⟩:=aQ.1 k;obtain⟨r,d,rfl⟩:=aQ.1 f;exact j r.1 (aQ.2 ⟨_,c,aE⟩) (aQ.2 ⟨r,d,rfl⟩)
theorem fj.len {l:List (Nat×Nat)} (h:fj S n l):Z l<=n:=by
 have a:=(NG h.nd (n:=n) fun v c=>by
  obtain⟨p,b,rfl⟩:=aQ.1 c;exact h.lt p b).length_eq
 have d:Z ((List.range n).filter fun v=>(l.map (·.1)).contains v)<=n:=aO (oq ..) aE;rw[dm] at a;omega
theorem atU (b d:Kd) (cb c:Nat) (L:List Kx) (A:Kx) (w:wA) (h:ei w b L) (o:∀l∈L,Z l<=140737488355328) (j:aC w d A) (m:bq L=0) (u:Up A (Z L)) (M:Z A<=1000):
  c6 78 #[J b (Z L) cb,J d (Z A) c] w fun e w'=>∃d c,e=yk (zz #[J d (Z (fV (dG (aI L) (ag A) (Z L)))) c,E yR 0])/\aC w' d (fV (dG (aI L) (ag A) (Z L)))/\da w w':=
 (aad b d cb c L A w h o j al).af fun e w' n=>by
  rcases n with ⟨⟨f,_⟩ |⟨_,a,_⟩ |⟨_,_,d,c,g,i⟩,k⟩
  ·exact absurd m f
  ·rw[ab3 u] at a;cases a
  ·exact⟨d,c,g,i,k⟩
theorem ahn (S:Jp) (p:Nat×Nat):∀(l:List (Nat×Nat)) (P:List Tb),qM S (l++[p]) P=(qM S l P).map (eB S p.1 p.2)
 |[],_=>rfl
 |x::l,P=>by rw[gC,qM,qM,ahn S p l]
theorem afz (p:Nat×Nat):∀(l:List (Nat×Nat)) (f:Jp),mI f (l++[p])=(mI f l).filter fun u=>!(u==p.1)
 |[],_=>rfl
 |x::l,f=>by rw[gC,mI,mI,afz p l]
theorem apt (f:Jp) (v:Nat):bY (iL f) (v:Int)=iL (f.filter fun u=>!(u==v)):=by
 rw[bY,iL,Q3];congr 1
 refine VZ fun x _=>?_;show (!((x:Int)==(v:Int)))=!(x==v);congr 1
 rw[wL,xX,xX];omega
def qL (ws:Jp) (l:List (Nat×Nat)) (i:Nat):Kx:=iL (mI ws (l.take i))
def pL (V:List Vr) (L:List Kx) (R:List (List Fr)) (ws:Jp) (l:List (Nat×Nat)) (i:Nat):List Tb:=qM (ah V) (l.take i) (gT V L R ws)
theorem aro {l:List (Nat×Nat)} (h:i<Z l):qL ws l (i+1)=bY (qL ws l i) (l[i].1:Int):=by
 rw[qL,qL,ig h,afz,apt]
theorem arl {l:List (Nat×Nat)} (h:i<Z l):pL V L R ws l (i+1)=(pL V L R ws l i).map (eB (ah V) l[i].1 l[i].2):=by
 rw[pL,pL,ig h,ahn]
theorem ag7 (h0:aU V L R=0) (t:∀v∈ws,v<Z V) (c:qd L (·∈ws)) {l:List (Nat×Nat)} (h:fj (ah V) (Z V) l) (i:Nat):ir (ah V) (Z V) (pL V L R ws l i) (ic R ws) 1:=
 ir.fixes (zA h0) (arc h0 t c) fun p a=>h.val p (QV a)
theorem arn (V:List Vr) (L:List Kx) (R:List (List Fr)) (ws:Jp) (l:List (Nat×Nat)) (i:Nat):Z (pL V L R ws l i)=Z ws:=by rw[pL,aah,gT,dm]
theorem arp (ws:Jp) (l:List (Nat×Nat)) (i:Nat):Z (qL ws l i)<=Z ws:=by rw[qL,bM];exact(afy _ _).length_le
theorem XI (h:ws.Nodup) (l:∀v∈ws,v<n):Z ws<=n:=by
 have a:=(NG h l).length_eq;have b:Z ((List.range n).filter fun v=>ws.contains v)<=n:=aO (oq ..) aE;omega
theorem arG (h0:aU V L R=0) (D:q9 V R) (n:ws.Nodup) (g:∀v∈ws,v<Z V) (p:qd L (·∈ws)) {l:List (Nat×Nat)} (a:fj (ah V) (Z V) l) (h:i<Z l) (s b t:Kd) (c cb j:Nat) (w:wA) (hs:aC w s (iL (ah V))) (o:aC w b (qL ws l i)) (m:jt w t (pL V L R ws l i)):
  c6 151 #[zp #[J s (Z V) c,J b (Z (qL ws l i)) cb,J t (Z (pL V L R ws l i)) j],zp #[E yR (l[i].1:Nat),E yR (l[i].2:Nat)]] w fun e w'=>∃d k f B2,e=yk (zp #[J s (Z V) c,J d (Z (qL ws l (i+1))) k,J f (Z (pL V L R ws l (i+1))) B2])/\aC w' d (qL ws l (i+1))/\jt w' f (pL V L R ws l (i+1))/\jb w.heap.size f B2/\da w w':=by
 have F:=fK h0;have P:Z (ah V)=Z V:=lQ V;have z:=XI n g;have y:=F.n8;have u:=arp ws l i;have x:=arn V L R ws l i;have B7:=ag7 h0 g p a i;have q:=D.pool h0 n g (vs:=[]) JT (fun v r=>by cases r);have:=amZ s b t c cb j (ah V) (qL ws l i) (pL V L R ws l i) (ic R ws) 1 l[i].1 l[i].2 w F.fine hs o m (by rw[P];exact B7) al al q (by rw[P];exact a.lt _ (bQ h)) (a.val _ (bQ h));rw[P] at this;rw[aro h,arl h,dm];exact this
theorem anJ (h0:aU V L R=0) (D:q9 V R) (n:ws.Nodup) (h:∀v∈ws,v<Z V) (c:qd L (·∈ws)) {l:List (Nat×Nat)} (a:fj (ah V) (Z V) l) (X:∀p∈l,p.1∈ws) {Q:Kx} (m:Up Q (Z V)) (o:∀v∈ag Q,v∈ws/\¬v∈l.map (·.1)) (s b t q:Kd) (g cb i f:Nat) (w:wA) (hs:aC w s (iL (ah V))) (k:aC w b (qL ws l (Z l))) (j:jt w t (pL V L R ws l (Z l))) (r:aC w q Q):
  c6 152 #[zp #[J s (Z V) g,J b (Z (qL ws l (Z l))) cb,J t (Z (pL V L R ws l (Z l))) i],J q (Z Q) f,zd x3] w fun e w'=>∃x y,e=yk (zp #[x,y])/\bL w' x y (cP V L R Q l)/\da w w':=by
 have F:=fK h0;have d:=zA h0;have P:Z (ah V)=Z V:=lQ V;have B2:=XI n h;have H:=F.n8;have u:=X4 (l:=l) n;have B9:∀v∈mI ws l,v<Z V:=fun v z=>h v (SH.1 z).1;have A:qL ws l (Z l)=iL (mI ws l):=by rw[qL,iP]
 have M:pL V L R ws l (Z l)=qM (ah V) l (gT V L R ws):=by rw[pL,iP]
 have B7:=ag7 h0 h c a (Z l);rw[M] at B7 j⊢;rw[A] at k⊢;have K:=XI u B9;have B6:Z (qM (ah V) l (gT V L R ws))=Z ws:=by rw[aah,gT,dm]
 have:=amX s b t q g cb i f (ah V) (mI ws l) Q (qM (ah V) l (gT V L R ws)) _ (ic R ws) 1 x3 w F.fine hs k j r (by have:=m.length;omega) u (by rw[P];exact B9) (by rw[P];exact(PI.net h0 h c).fixes d a.nd a.val) (NN.fixes d a.val (PI.net h0 h c).ok (NN.net h0 h)) (by rw[P];exact B7) al (D.pool h0 n h u B9);rw[P,akh h0 d n h c a X m o] at this;rw[bM];exact this
theorem apO (a b c q f:Kd) (ca cb cc cq cf:Nat) (V:List Vr) (L:List Kx) (R:List (List Fr)) (Q:Kx) (l:List (Nat×Nat)) (w:wA) (h:jc w a b c V L R) (hN:pU w b L) (hs:sX V L R) (hw:∀l∈R,fw l<=4200) (h0:aU V L R=0) (hD:q9 V R) (hq:aC w q Q) (K8:Up Q (Z V)) (hF:j9 w f (zF l)) (hl:fj (ah V) (Z V) l) (hd:∀v∈ag Q,¬v∈l.map (·.1)) (yI:∀U:wA,jc U a b c V L R ->c6 81 #[zp #[J a (Z V) ca,J b (Z L) cb,J c (Z R) cc]] U fun e w'=>e=yk (E yR (aU V L R))/\da U w'):
  c6 95 #[zp #[J a (Z V) ca,J b (Z L) cb,J c (Z R) cc],J q (Z Q) cq,J f (Z l) cf] w fun e w'=>∃x y,e=yk (zp #[x,y])/\bL w' x y (cP V L R Q l)/\da w w':=by
 have u:=fK h0;have h8:=u.n8;have S:=KP h0;have aj:=yL S
 have M:1<=Z L:=by
  have:=u.fine.one;rw[bM,lQ] at this;rw[u.len];exact this
 have Lr:Z L<=8:=by rw[u.len];exact h8
 have dK:∀x∈L,Z x<=140737488355328:=fun x hx=>by
  obtain⟨i,m,rfl⟩:=iQ hx;have:=(u.up i m).length;omega
 have fg:=K8.length;have kV:=hl.len;have Zt:=atx K8 hl hd;have TM:Z (Aq Q l)=Z (xD Q l):=MN _;have TJ:Z (xD Q l)=Z Q+Z l:=by rw[xD,cD,dm,A4]
 have hA:∀v∈ag (Aq Q l),v<Z L:=fun v B2=>by rw[u.len];exact Zt.aa v B2
 obtain⟨ws,T⟩:∃ws,A5 L (ag (Aq Q l))=ws:=⟨_,rfl⟩;have Ir:ws.Nodup:=by rw[<- T];exact ajv aj M Lr _
 have ao:∀v∈ws,v<Z V:=fun v B2=>by rw[<- u.len];rw[<- T] at B2;exact ajw aj M Lr B2
 have an:qd L (·∈ws):=by rw[<- T];exact ajx S M Lr hA
 have bm:∀p∈l,p.1∈ws:=fun p hp=>by
  rw[<- T];exact abC S M Lr hA ((aix _).2 (xS (aQ.2 ⟨p,hp,rfl⟩)))
 have fB:∀v∈ag Q,v∈ws/\¬v∈l.map (·.1):=fun v B2=>⟨by
  rw[<- T];exact abC S M Lr hA ((aix _).2 (yp B2)),hd v B2⟩
 have pY:=Fa (fun (U:wA) (t:da w U)=>Kq q cq Q U (hq.aa t) al);have ay:we (∀(d:Kd) (n j B:Nat) (U:wA),bS U B (J d n j) (xD Q l) ->B<=U.heap.size ->c6 133 #[J d n j] U fun e w'=>e=yk (zz #[])/\n=Z (xD Q l)/\aC w' d (Aq Q l)/\Below B U w'):=fun d n j B U B7 h2=>ak9 d n j (xD Q l) U B7 h2 al;obtain⟨B6,SQ⟩:∃B6,fV (dG (aI L) (ag (Aq Q l)) (Z L))=B6:=⟨_,rfl⟩;have gM:Z B6<=8:=by rw[<- SQ,fV,bM,bX];exact aO (oq ..) aE
 have wD:we (∀(d:Kd) (j:Nat) (U:wA),da w U ->aC U d (Aq Q l) ->c6 78 #[J b (Z L) cb,J d (Z (xD Q l)) j] U fun e w'=>∃d j,e=yk (zz #[J d (Z B6) j,E yR 0])/\aC w' d B6/\da U w'):=fun d j U t m=>by
  have:=atU b d cb j L (Aq Q l) U (h.aa t).pars dK m S (by rw[u.len];exact Zt) al;rwa [SQ,TM] at this
 have yX:we (∀(d:Kd) (j:Nat) (U:wA),da w U ->aC U d B6 ->c6 150 #[zp #[J a (Z V) ca,J b (Z L) cb,J c (Z R) cc],J d (Z B6) j] U fun e w'=>∃g d j K gO,e=yk (zp #[J (I ⟨g,0,O⟩) (Z V) (Z V),J d (Z (qL ws l 0)) j,J K (Z (pL V L R ws l 0)) gO])/\aC w' (I ⟨g,0,O⟩) (iL (ah V))/\aC w' d (qL ws l 0)/\jt w' K (pL V L R ws l 0)/\da U w'):=fun d j U t m=>by
  have:=amL a b c d ca cb cc j V L R B6 U (h.aa t) (hN.aa h.pars t) hs hw h0 S M dK m al yI;have e:(jP L).filter (fun v:Nat=>B6.contains (v:Int))=ws:=by rw[<- T,A5,SQ]
  rw[e] at this;have e1:qL ws l 0=iL ws:=rfl;have e2:pL V L R ws l 0=ws.map fun v=>(gU L v,gL V L R v):=rfl;rw[e1,e2,bM,dm];exact this
 have xT:=Fa (fun (i:Nat) (m:i<Z l) (s b ae:Kd) (cs cb ct:Nat) (U:wA)=>arG (L:=L) h0 hD Ir ao an hl m s b ae cs cb ct U);have Mk:=Fa (fun (s b ae:Kd) (cs cb ct:Nat) (U:wA) (t:da w U) B7 h2 h3=>anJ h0 hD Ir ao an hl bm K8 fB s b ae q cs cb ct cq U B7 h2 h3 (hq.aa t))
 have HF:we (∀i (m:i<Z l) (U:wA),da w U ->∃g o,f=I ⟨g,o,O⟩/\g<U.heap.size/\U.cell? ⟨g,o+i*2,O⟩=I (E yR (l[i].1:Nat))/\U.cell? ⟨g,o+i*2+1,O⟩=I (E yR (l[i].2:Nat))):=fun i m U t=>by
  have hz:i<Z (zF l):=by rw[A4];exact m
  obtain⟨g,o,e,hg,h0,B7⟩:=(hF.aa t) i hz;have e1:(zF l)[i]=((l[i].1:Int),(l[i].2:Int)):=by simp[zF]
  rw[e1] at h0 B7;exact⟨g,o,e,hg,h0,B7⟩
 obtain⟨A,Lx⟩:∃A:Nat ->Kx,∀k,Q++(l.take k).map (fun p=>(p.1:Int))=A k:=⟨fun k=>Q++(l.take k).map (fun p=>(p.1:Int)),fun _=>rfl⟩;have Vz:we (A 0=Q):=by show _=_;rw[<- Lx];simp
 have ar:we (∀k (hk:k<Z l),A (k+1)=A k++[((l[k].1:Nat):Int)]):=fun k hk=>by rw[<- Lx, <- Lx,ig hk,gK,qj];rfl
 have ai:we (A (Z l)=xD Q l):=by show _=_;rw[<- Lx,iP,xD,zF,AZ];rfl
 have aq:we (∀k,Z (A k)<=16):=fun k=>by
  rw[<- Lx,cD,dm,eZ];omega
 have k7:=Fa (bZ.at (w:=w) rfl (J a (Z V) ca) (J b (Z L) cb) (J c (Z R) cc));clear Lx h hN hs hw h0 hD hq K8 hF hl hd yI u S aj dK Zt TM TJ hA T Ir ao an bm fB SQ M;generalize qL ws l=F at *;generalize pL V L R ws l=P at *;generalize cP V L R Q l=TT at *
 have HA:we (da w ((w.alloc (NC (J a (Z V) ca) (J b (Z L) cb) (J c (Z R) cc))).alloc (TC (J O 0 0) (J O 0 0)))):=by
  have B7:=(aw w.heap.size w).alloc (ak _) (NC (J a (Z V) ca) (J b (Z L) cb) (J c (Z R) cc));exact B7.alloc B7.size _
 have AE:we (bZ ((w.alloc (NC (J a (Z V) ca) (J b (Z L) cb) (J c (Z R) cc))).alloc (TC (J O 0 0) (J O 0 0))) w.heap.size (J a (Z V) ca) (J b (Z L) cb) (J c (Z R) cc)):=k7.o.aa ((aw _ _).alloc (ak _) (TC (J O 0 0) (J O 0 0))) k7.o.lt;have nV:we (bh ((w.alloc (NC (J a (Z V) ca) (J b (Z L) cb) (J c (Z R) cc))).alloc (TC (J O 0 0) (J O 0 0))) (w.heap.size+1) (J O 0 0) (J O 0 0)):=bh.at (w:=w.alloc (NC (J a (Z V) ca) (J b (Z L) cb) (J c (Z R) cc))) aE _ _;clear k7;go_enter func95,ntmps95;go_wp2_with fail
 generalize ((w.alloc (NC (J a (Z V) ca) (J b (Z L) cb) (J c (Z R) cc))).alloc (TC (J O 0 0) (J O 0 0)))=W0 at *;refine(pY.o W0 HA.o).af ?_;rintro e w1 ⟨av,rfl,bg,aW⟩;have bT:=nV.o.lt;have aJ:=Fa bg;have cO:=Fa aW;clear bg aW pY;go_wp2_with fail
 go_loopw [7,19] (fun av iv wr=>∃i:Nat,i<=Z l/\iv=E yR i/\we (bS wr W0.heap.size av (A i))/\we (da W0 wr)) (fun _ iv _=>Z l - (intOf iv).toNat)
 case atStart=>exact⟨0,aX _,rfl,by rw[Vz.o];exact aJ,cO⟩
 case round=>
  obtain⟨i,m,rfl,Em,X⟩:=hrel;clear aJ cO;have H:=Fa (HA.o.trans (X.o.af HA.o.size));obtain⟨d,j,rfl⟩:=yh Em.o;by_cases bb:i<Z l
  ·obtain⟨g,o,rfl,hg,k0,k1⟩:=HF.o i bb wr H.o;have bx:=Fa (ar.o i bb);generalize l[i].1=v at *;generalize l[i].2=z at *;have B1:=(aw wr.heap.size wr).alloc (ak _) (yd #[E yR (v:Nat),E yR (z:Nat)] 30);(have Ua:AJ (AC wr (yd #[E yR (v:Nat),E yR (z:Nat)] 30)) ⟨wr.heap.size,0,O⟩=I (E yR (v:Nat)):=by rw[a8 _ _ 0 _ _ (0,0) (dU wr _)];rfl);(have bk:(AC wr (yd #[E yR (v:Nat),E yR (z:Nat)] 30)).heap.size=wr.heap.size+1:=aE);have a6:=(aw _ (AC wr (yd #[E yR (v:Nat),E yR (z:Nat)] 30))).alloc (ak _) (yd #[E yR (v:Nat)] 3)
   have bp:we (AJ (AC (AC wr (yd #[E yR (v:Nat),E yR (z:Nat)] 30)) (yd #[E yR (v:Nat)] 3)) ⟨wr.heap.size+1,0,O⟩=I (E yR (v:Nat))):=by
    have:=(bE (AC wr (yd #[E yR (v:Nat),E yR (z:Nat)] 30)) 3 (E yR (v:Nat))).cell;rwa [bk] at this
   have iB:=B1.trans (a6.af B1.size);have az:=Fa (KH Em.o (Ec.aa iB));have EL:=Fa (X.o.trans (iB.af X.o.size));have bN:=aq.o i;have GH:we (W0.heap.size<=(AC (AC wr (yd #[E yR (v:Nat),E yR (z:Nat)] 30)) (yd #[E yR (v:Nat)] 3)).heap.size):=EL.o.size;clear B1 a6 iB bk Em X H;go_wp2_with (at_builtin;refine ajH rfl _ _ rfl W0.heap.size (J d (Z (A i)) j) (A i) (v:Int) rfl az.o (wr.heap.size+1) rfl bp.o al GH.o ?_;intro bA w9 uD fE pC;have bz:=Fa uD;have p5:=Fa (EL.o.grown fE GH.o (fun k e=>(uu az.o k e).1));obtain⟨n9,d9,c9,rfl⟩:∃n d c,bA=Value.slice d n c:=(yh uD).elim fun d h=>h.elim fun c e=>⟨_,d,c,e⟩;clear uD fE pC)
   go_roundw
   case rel=>exact⟨i+1,al,bd,by rw[bx.o];exact bz,p5⟩
   case measure=>simp[intOf];omega
  ·obtain rfl:i=Z l:=al
   rw[ai.o] at Em;(have e1:Z (A (Z l))=Z (xD Q l):=by rw[ai.o]);rw[e1];clear e1 ai ar aq Vz;have iw:=Fa (ay.o d _ j W0.heap.size wr Em.o X.o.size);clear Em H ay;go_wp2_with fail
   refine iw.o.af ?_;rintro e w2 ⟨rfl, -,nL,a1⟩;have TI:=X.o.trans a1;have aZ:=Fa (HA.o.trans (TI.af HA.o.size));have pV:=Fa (AE.o.aa TI AE.o.lt);have eD:=Fa (nV.o.aa TI nV.o.lt);have rJ:=Fa (wD.o d j w2 aZ.o nL);have n1:=pV.o.cells.2.1;clear nL a1 TI X iw wD AE nV HA;go_wp2_with fail
   refine rJ.o.af ?_;rintro e w3 ⟨d3,bC,rfl,zS,ab⟩;have eE:=Fa (aZ.o.trans (ab.af aZ.o.size));have Mn:=Fa (pV.o.aa ab pV.o.lt);have jd:=Fa (eD.o.aa ab eD.o.lt);have tO:=Fa (yX.o d3 bC w3 eE.o zS);clear n1;obtain⟨n0,n1,n2⟩:=Mn.o.cells;clear zS ab rJ yX pV eD aZ;go_wp2_with fail
   refine tO.o.af ?_;rintro e r ⟨G,d4,Ao,t4,Py,rfl,aM,BS,zJ,ad⟩;have lA:=ad.alloc ad.size (yd #[J (I ⟨G,0,O⟩) (Z V) (Z V),J d4 (Z (F 0)) Ao,J t4 (Z (P 0)) Py] 177);have yK:=(aw r.heap.size r).alloc (ak _) (yd #[J (I ⟨G,0,O⟩) (Z V) (Z V),J d4 (Z (F 0)) Ao,J t4 (Z (P 0)) Py] 177);have fh:=Fa (eE.o.trans (lA.af eE.o.size));have uR:=Fa (jd.o.aa lA jd.o.lt);have Mj:we (cI (AC r (yd #[J (I ⟨G,0,O⟩) (Z V) (Z V),J d4 (Z (F 0)) Ao,J t4 (Z (P 0)) Py] 177)) r.heap.size (J (I ⟨G,0,O⟩) (Z V) (Z V)) (J d4 (Z (F 0)) Ao) (J t4 (Z (P 0)) Py)):=cI.at (w:=r) rfl _ _ _;have q7:=Fa (aM.aa yK);have Jy:=Fa (BS.aa yK);have Cl:=Fa (zJ.aa yK);have bO:w.heap.size+1<r.heap.size:=(jd.o.aa ad jd.o.lt).lt;clear aM BS zJ ad lA yK tO eE Mn jd n0 n1 n2;go_wp2_with fail
   generalize (AC r (yd #[J (I ⟨G,0,O⟩) (Z V) (Z V),J d4 (Z (F 0)) Ao,J t4 (Z (P 0)) Py] 177))=W5 at *;go_loopw [43] (fun iv wr=>∃(i:Nat) (b' K:Kd) (eT gO:Nat),i<=Z l/\iv=E yR i/\we (cI wr r.heap.size (J (I ⟨G,0,O⟩) (Z V) (Z V)) (J b' (Z (F i)) eT) (J K (Z (P i)) gO))/\we (aC wr (I ⟨G,0,O⟩) (iL (ah V)))/\we (aC wr b' (F i))/\we (jt wr K (P i))/\we (bh wr (w.heap.size+1) (J O 0 0) (J O 0 0))/\we (da w wr)) (fun iv _=>Z l - (intOf iv).toNat)
   case atStart=>exact⟨0,_,_,_,_,aX _,rfl,Mj,q7,Jy,Cl,uR,fh⟩
   case round=>
    obtain⟨i,b',K,eT,gO,m,rfl,wk,HG,HI,HT,HR,H⟩:=hrel;clear Mj q7 Jy Cl uR fh;rename wA=>W6
    obtain⟨p0,p1,p2⟩:=wk.o.cells;by_cases bo:i<Z l
    ·obtain⟨g,o,rfl,hg,k0,k1⟩:=HF.o i bo W6 H.o;have ax:=Fa (xT.o i bo);generalize l[i].1=v at *;generalize l[i].2=z at *;have B1:=(aw W6.heap.size W6).alloc (ak _) (yd #[E yR (v:Nat),E yR (z:Nat)] 30);(have Ua:AJ (AC W6 (yd #[E yR (v:Nat),E yR (z:Nat)] 30)) ⟨W6.heap.size,0,O⟩=I (E yR (v:Nat)):=by rw[a8 _ _ 0 _ _ (0,0) (dU W6 _)];rfl);(have bJ:AJ (AC W6 (yd #[E yR (v:Nat),E yR (z:Nat)] 30)) ⟨W6.heap.size,1,O⟩=I (E yR (z:Nat)):=by rw[a8 _ _ 1 _ _ (0,0) (dU W6 _)];rfl);have U3:=Fa (wk.o.aa B1 wk.o.lt);have Vl:=Fa (HG.o.aa B1);have kI:=Fa (HR.o.aa B1 HR.o.lt);have cO:=Fa (H.o.trans (B1.af H.o.size));have HX:=Fa (ax.o (I ⟨G,0,O⟩) b' K (Z V) eT gO _ Vl.o (HI.o.aa B1) (HT.o.aa B1));clear p0 p1 p2 wk HG HI HT HR H ax B1;obtain⟨p0,p1,p2⟩:=U3.o.cells;go_wp2_with fail
     refine HX.o.af ?_;rintro e w7 ⟨d7,DY,t7,LJ,rfl,FZ,wX,bf,B9⟩;have D:=U3.o.aa B9 U3.o.lt;have Y:=kI.o.aa B9 kI.o.lt;have Aj:=cO.o.trans (B9.af cO.o.size);have aR:=Vl.o.aa B9;have Y4:=U3.o.lt;clear p0 p1 p2 Ua bJ k0 k1;obtain⟨p0,p1,p2⟩:=D.cells;have RX:=D.fz 0;have RV:=D.fz 1;have RU:=D.fz 2;have bu:=Fa (D.put (J (I ⟨G,0,O⟩) (Z V) (Z V)) (J d7 (Z (F (i+1))) DY) (J t7 (Z (P (i+1))) LJ));have br:=Fa (aR.putP D (slv _ _ _) (slv _ _ _) (slv _ _ _) (J (I ⟨G,0,O⟩) (Z V) (Z V)) (J d7 (Z (F (i+1))) DY) (J t7 (Z (P (i+1))) LJ));have bs:=Fa (FZ.putP D (slv _ _ _) (slv _ _ _) (slv _ _ _) (J (I ⟨G,0,O⟩) (Z V) (Z V)) (J d7 (Z (F (i+1))) DY) (J t7 (Z (P (i+1))) LJ));have bw:=Fa (wX.putP D (slv _ _ _) (slv _ _ _) (slv _ _ _) (fun g' o' e=>by have:=bf.2 g' o' e;omega) (slv (I ⟨G,0,O⟩) (Z V) (Z V)) (slv d7 (Z (F (i+1))) DY) (J t7 (Z (P (i+1))) LJ));have UX:=Fa (((Y.off r.heap.size 0 (J (I ⟨G,0,O⟩) (Z V) (Z V)) al).off r.heap.size 1 (J d7 (Z (F (i+1))) DY) al).off r.heap.size 2 (J t7 (Z (P (i+1))) LJ) al);have EL:=Fa (eJ Aj (show w.heap.size<=r.heap.size by omega) (J (I ⟨G,0,O⟩) (Z V) (Z V)) (J d7 (Z (F (i+1))) DY) (J t7 (Z (P (i+1))) LJ));clear FZ wX bf B9 D Y Aj aR HX;go_wp2;go_roundw
     case rel=>exact⟨i+1,_,_,_,_,al,bd,bu,br,bs,bw,UX,EL⟩
     case measure=>simp[intOf];omega
    ·obtain rfl:i=Z l:=al
     have bt:=Fa (Mk.o (I ⟨G,0,O⟩) b' K (Z V) eT gO W6 H.o HG.o HI.o HT.o);go_wp2_with fail
     refine bt.o.af ?_;rintro e w7 ⟨x,y,rfl,Fy,B9⟩;obtain⟨xs,xn,xc,rfl⟩:=Fy.slices.1;obtain⟨ys,yn,yc,rfl⟩:=Fy.slices.2;have Y:=HR.o.aa B9 HR.o.lt;have Aj:=H.o.trans (B9.af H.o.size);obtain⟨t0,t1,f0,f1⟩:=Y.facts;have Et:=Fa (Y.put (J xs xn xc) (J ys yn yc));have PZ:=Fa (Fy.putT Y (slv _ _ _) (slv _ _ _) (slv xs xn xc) (J ys yn yc));have p5:=Fa (rG (g:=w.heap.size+1) Aj al (J xs xn xc) (J ys yn yc));clear Fy B9 Y Aj p0 p1 p2;go_wp2;refine cN (Et.o.result1 rfl _ rfl) rfl ?_;exact⟨_,_,rfl,PZ.o,p5.o⟩
variable {w':wA}
structure Ay (w:wA) (a b c:Kd) (V:List Vr) (L:List Kx) (R:List (List Fr)):Prop where
 net:jc w a b c V L R
 ls:pU w b L
 sm:sX V L R
 wt:∀l∈R,fw l<=4200
 lt:q9 V R
 few:aU V L R=0 ->cnt (ah V) (List.range (Z V))<=800
theorem Ay.aa {b c:Kd} (h:Ay w a b c V L R) (d:da w w'):Ay w' a b c V L R:=⟨h.net.aa d,h.ls.aa h.net.pars d,h.sm,h.wt,h.lt,h.few⟩
def nF (F:List (Int×Int)):List (Nat×Nat):=F.map fun p=>(p.1.toNat,p.2.toNat)
theorem Db (l:List (Nat×Nat)):nF (zF l)=l:=by
 rw[nF,zF,AZ];refine(qh fun p _=>?_).trans (List.map_id l);show (((p.1:Int).toNat),((p.2:Int).toNat))=p;simp
theorem T9 (h:iq V L R F=0):aU V L R=0/\F=zF (nF F)/\fj (ah V) (Z V) (nF F):=by
 obtain⟨a,l,rfl,b⟩:=arS h;rw[Db];exact⟨a,rfl,b⟩
def prF (V:List Vr) (L:List Kx) (R:List (List Fr)) (F:List (Int×Int)):Fr:=if iq V L R F=0 then qF (cE V L R (nF F)) else(x3,⟨#[]⟩,⟨#[]⟩)
variable {cap:Nat}
theorem dr.put {B:Nat} {l:List Fr} (h:dr w B (J (I ⟨g,0,O⟩) n cap) l) (k:Nat) (f:Fr):dr (AF (AF (AF w ⟨g,k*3,O⟩ (zd f.1)) ⟨g,k*3+1,O⟩ (zX f.2.1)) ⟨g,k*3+2,O⟩ (zX f.2.2)) B (J (I ⟨g,0,O⟩) n cap) (l.set k f):=by
 obtain⟨o,a⟩:=h;rcases a with ⟨e,_⟩ |⟨g',p,r,e,j,m,b,c,d,i⟩
 ·cases e
 ·injection e with e1 e2 e3;injection e1 with e1;injection e1 with e1;subst e1 e2 e3;refine⟨by rw[yM,gA];omega,xS ⟨g,cap,((r.setIfInBounds (k*3) (zd f.1)).setIfInBounds (k*3+1) (zX f.2.1)).setIfInBounds (k*3+2) (zX f.2.2),by rw[gA],j,OM _ _ _ _ _ _ (OM _ _ _ _ _ _ (OM _ _ _ _ _ _ m)),by rw[gA];exact b,c,by simp[d],?_⟩⟩;rw[<- aaf, <- i,gA];simp only[Array.toList_setIfInBounds,List.take_set]
theorem Nk {B:Nat} {l:List Fr} (h:dr w B (J (I ⟨g,0,O⟩) n cap) l) (j:k<Z l):AJ w ⟨g,k*3,O⟩=I (zd l[k].1)/\w.cell? ⟨g,k*3+1,O⟩=I (zX l[k].2.1)/\w.cell? ⟨g,k*3+2,O⟩=I (zX l[k].2.2)/\w.frozen? ⟨g,k*3,O⟩=x3/\w.frozen? ⟨g,k*3+1,O⟩=x3/\w.frozen? ⟨g,k*3+2,O⟩=false:=by
 obtain⟨m,f⟩:=h;rcases f with ⟨e,_⟩ |⟨g',s,u,e,r,a,o,p,q,i⟩
 ·cases e
 ·injection e with e1 e2 e3;injection e1 with e1;injection e1 with e1;subst e1 e2 e3;obtain⟨b,c,d⟩:=LB l k j;rw[<- i] at b c d;refine⟨?_,?_,?_,eA w g _ _ _ a,eA w g _ _ _ a,eA w g _ _ _ a⟩
  ·rw[a8 w g _ _ _ (0,0) a, <- wM];rw[tu] at b;split at b
   ·exact b
   ·cases b
  ·rw[a8 w g _ _ _ (0,0) a, <- wM];rw[tu] at c;split at c
   ·exact c
   ·cases c
  ·rw[a8 w g _ _ _ (0,0) a, <- wM];rw[tu] at d;split at d
   ·exact d
   ·cases d
theorem aaF {B:Nat} {a:wA} (h:Below B a w) (b:B<=g) (j:Nat) (u v x:wQ):Below B a (AF (AF (AF w ⟨g,j,O⟩ u) ⟨g,j+1,O⟩ v) ⟨g,j+2,O⟩ x):=((h.setCell b u).setCell b v).setCell b x
theorem asG {q:Jp} (p:Pos (ah V)) (a:q.Nodup) (t:∀v∈q,v<Z V):cnt (ah V) q<=cnt (ah V) (List.range (Z V)):=by
 rw[<- Rt, <- Rt]
 have h:kn (ah V) q=kn (ah V) ((List.range (Z V)).filter fun v=>q.contains v):=by
  have e:=NG a t;generalize ((List.range (Z V)).filter fun v=>q.contains v)=b at e;clear a t;induction e with
  |nil=>rfl
  |cons x _ ih=>rw[kn,kn,ih]
  |swap x y l=>simp only[kn];rw[<- ju, <- ju,eN (sz _ _) (sz _ _)]
  |trans _ _ h h2=>rw[h,h2]
 rw[h];exact akH p JY
def xE (V:List Vr) (L:List Kx) (R:List (List Fr)) (Q:Kx) (F:List (Int×Int)):Int:=
 if iq V L R F=0 then(if (kE (iL (ah V)) Q).2=0 then(if (F.any fun p=>jQ p.1 Q)=xq then 7 else 0) else(kE (iL (ah V)) Q).2) else iq V L R F
def jO (V:List Vr) (L:List Kx) (R:List (List Fr)) (Q:Kx) (F:List (Int×Int)):Int:=
 if xE V L R Q F=0 then(if b9 (cP V L R Q (nF F)).2=0 then 3 else 0) else xE V L R Q F
def jN (V:List Vr) (L:List Kx) (R:List (List Fr)) (Q:Kx) (F:List (Int×Int)):Tb:=
 if jO V L R Q F=0 then(Q,vo (cP V L R Q (nF F)).2) else([],[])
theorem atF (Q:Kx) (F:List (Int×Int)):(F.any fun p=>jQ p.1 Q)=Q.any fun v=>F.any fun p=>p.1==v:=by
 rw[wL,rV,rV];constructor
 ·rintro⟨p,a,h⟩;obtain⟨x,c,e⟩:=rV.1 h;exact⟨x,c,rV.2 ⟨p,a,by rw[xX] at e⊢;exact e.symm⟩⟩
 ·rintro⟨v,b,h⟩;obtain⟨p,a,e⟩:=rV.1 h;exact⟨p,a,rV.2 ⟨v,b,by rw[xX] at e⊢;exact e.symm⟩⟩
theorem asB {Q:Kx} (h:(kE (iL (ah V)) Q).2=0):Up Q (Z V):=by
 cases hb:countB (iL (ah V)) Q with
 |false=>rw[LO hb] at h;exact absurd h a6
 |true=>
  rw[countB,iI] at hb;have:=mC hb.2;rwa [bM,lQ] at this
theorem atB {Q:Kx} {l:List (Nat×Nat)} (q:Up Q n) (h:((zF l).any fun p=>jQ p.1 Q)=x3):∀v∈ag Q,¬v∈l.map (·.1):=fun v c m=>by
 obtain⟨p,b,rfl⟩:=aQ.1 m;refine J4.1 h ((p.1:Int),(p.2:Int)) (aQ.2 ⟨p,b,rfl⟩) ?_;obtain⟨x,a,e⟩:=aQ.1 c;have:=(Ht q x a).1;refine rV.2 ⟨x,a,xX.2 ?_⟩;have d:x.toNat=p.1:=e;show x=(p.1:Int);omega
theorem Pj (g:Nat ->Rat):∀n,b9 ((List.range n).map fun K=>qF (g K))=bG g n
 |0=>rfl
 |n+1=>by
  rw[xZ,gK,List.map_singleton,T1,Pj g n];show bG g n+bj (qF (g n))=_;rw[j5];rfl
theorem auU (h:n<=4294967296):(B n).size<=5:=by
 have a:=kO h;have b:(B 4294967296).size<=5:=by rw[nZ];exact sQ 5 4294967296 a6
 omega
theorem Rm (h0:aU V L R=0) (D:q9 V R) (Q:Kx) (l:List (Nat×Nat)):∀k (h:k<(cP V L R Q l).2.length),(cP V L R Q l).2[k].2.1.size+(cP V L R Q l).2[k].2.2.size<=40000:=fun k h=>by
 have e:(cP V L R Q l).2[k]=qF (cE V L R (qV (ah V) (ag Q) k++l)):=by simp[cP]
 rw[e,RJ,SB];have:=afp h0 (zA h0) D (qV (ah V) (ag Q) k++l) (ak _);omega
theorem akd (h0:aU V L R=0) (D:q9 V R) {Q:Kx} (q:Up Q (Z V)) (l:List (Nat×Nat)):∀k,k<=(cP V L R Q l).2.length ->qw (b9 ((cP V L R Q l).2.take k))<=8005:=fun k o=>by
 have r:(cP V L R Q l).2.length=cnt (ah V) (ag Q):=by simp[cP]
 have e:(cP V L R Q l).2.take k=(List.range k).map fun K=>qF (cE V L R (qV (ah V) (ag Q) K++l)):=by
  rw[cP, <- List.map_take,List.take_range,wI al]
 rw[e,Pj];have p:=zA h0;have z:ic R (List.range (Z V))≠0:=(PD.net (V:=V) (L:=L) h0 (fun v c=>bR.1 c)).nz.1
 have a:gi (ic R (List.range (Z V))) (bG (fun K=>cE V L R (qV (ah V) (ag Q) K++l)) k):=gi.sum fun K _=>by
  rw[SB];exact gi.sum fun x h=>(aaX h0 p _ h).1
 have b:mR (k*(cnt (ah V) (List.range (Z V))*1)) (bG (fun K=>cE V L R (qV (ah V) (ag Q) K++l)) k):=mR.sum fun K _=>by
  rw[SB];exact mR.sum fun x h=>(aaX h0 p _ h).2
 have d:=a.size z b;have f:=aiI h0;have g:=aaw (fK h0).fine q.nodup (by rw[lQ];exact q.aa);have i:k*(cnt (ah V) (List.range (Z V))*1)<=65536*65536:=ld al al;have j:=auU (n:=k*(cnt (ah V) (List.range (Z V))*1)) al;have m:(B (ic R (List.range (Z V)))).size<=4000:=D;omega
theorem Rl (h0:aU V L R=0) (h:q9 V R) {Q:Kx} (q:Up Q (Z V)) (l:List (Nat×Nat)):∀k,k<=(cP V L R Q l).2.length ->qw (b9 ((cP V L R Q l).2.take k))<=40000:=fun k a=>aO (akd h0 h q l k a) a6
theorem aki (h0:aU V L R=0) {Q:Kx} (h:Up Q (Z V)) (l:List (Nat×Nat)):kZ (iL (ah V)) Q (cP V L R Q l).2.length=0:=
 aaA (LM (fK h0).fine (by rw[bM,lQ];exact h)) (by rw[jL];simp[cP])
theorem ab9 (h0:aU V L R=0) {Q:Kx} (h:Up Q (Z V)) (l:List (Nat×Nat)) (c:cnt (ah V) (List.range (Z V))<=800):(cP V L R Q l).2.length<=800/\1<=(cP V L R Q l).2.length:=by
 have e:(cP V L R Q l).2.length=cnt (ah V) (ag Q):=by simp[cP]
 have a:=asG (zA h0) h.nodup h.aa;have b:=LP (zA h0) (ag Q);omega
theorem asr (f:Fr):(B (bj f).den).size<=f.2.2.size+1:=by
 have e:bj f=mkRat (sg f.1 (N f.2.1)) (N f.2.2):=rfl;by_cases h:N f.2.2=0
 ·rw[e,h,Rat.mkRat_zero];have:(B ((0:Rat).den)).size<=1:=by rw[nZ];exact sQ 1 1 a6
  omega
 ·have a:gi (N f.2.2) (bj f):=⟨_,e⟩;have b:=Nat.le_of_dvd (mj h) (a.dvd h);have c:=kO b;have d:=kd f.2.2;omega
theorem ahN (y:Nat):∀l:List Fr,(B (qN l*y)).size<=Z l+sw l+(B y).size
 |[]=>by rw[qN,lK];omega
 |f::l=>by
  rw[qN,ju];have h:=uo (bj f).den (qN l*y);have a:=asr f;have b:=ahN y l;rw[dX,sw];omega
def wR (R:List (List Fr)):Jp ->Nat
 |[]=>0
 |v::vs=>Z (R.getD v [])+sw (R.getD v [])+wR R vs
theorem ahL (R:List (List Fr)):∀us:Jp,(B (ic R us)).size<=wR R us+1
 |[]=>by
  show (B 1).size<=0+1;rw[nZ];exact sQ 1 1 a6
 |v::vs=>by
  rw[ic,wR];have h:=ahN (ic R vs) (R.getD v []);have a:=ahL R vs;omega
theorem WA:∀l:List Fr,Z l+sw l<=fw l
 |[]=>ak _
 |f::l=>by
  have:=WA l;rw[dX,sw,fw];omega
theorem abV (h:∀l∈R,fw l<=400):∀us:Jp,wR R us<=400*Z us
 |[]=>ak _
 |v::vs=>by
  have b:=abV h vs
  have c:Z (R.getD v [])+sw (R.getD v [])<=400:=by
   by_cases a:v<Z R
   ·rw[cK,ba a];exact aO (WA _) (h _ (bQ a))
   ·rw[cK,jw al];exact aO (WA _) a6
  rw[wR,dX];omega
theorem NM.lite (h:NM V L R):q9 V R:=by
 have b:=ahL R (List.range (Z V));have a:=abV h.light (List.range (Z V));have c:=h.six;rw[A0] at a;show (B (ic R (List.range (Z V)))).size<=4000;omega
theorem NM.ni4 (h:NM V L R) {b c:Kd} (n:jc w a b c V L R) (d:pU w b L):Ay w a b c V L R:=
 ⟨n,d,h.small,fun l B6=>by have:=h.light l B6;omega,h.lite,fun _=>by have:=ah8 h;omega⟩
theorem RQ (h0:aU V L R=0) {l:List (Nat×Nat)} (b:fj (ah V) (Z V) l):iq V L R (zF l)=0/\prF V L R (zF l)=qF (cE V L R l):=by
 have e:iq V L R (zF l)=0:=by
  rw[iq,aA h0];refine B5 fun j h=>?_;have c:j<Z l:=by rw[A4] at h;exact h
  have m:=bQ c;have a:(zF l)[j]=((l[j].1:Int),(l[j].2:Int)):=by simp[zF]
  have o:=b.lt _ m;have q:=b.val _ m;refine ahx h (by rw[a];exact⟨Q7 _,by show ((l[j].1:Nat):Int)<_;omega⟩) (by rw[a];exact⟨Q7 _,by show ((l[j].2:Nat):Int)<((sz (ah V) ((l[j].1:Nat):Int).toNat:Nat):Int);rw[oC];omega⟩) ?_;rw[J4];intro p k;obtain⟨i,g,rfl⟩:=iQ k;rw[eZ,A4] at g;have n:i<Z l:=al
  have d:((zF l).take j)[i]'(by rw[eZ,A4];omega)=((l[i].1:Int),(l[i].2:Int)):=by rw[x4];simp[zF]
  rw[a,d];have B7:=zo.1 b.nd i j (by simpa using n) (by simpa using c) al;simp only[mq] at B7;intro f;have r:((l[i].1:Nat):Int)=((l[j].1:Nat):Int):=by simpa using f
  exact B7 al
 refine⟨e,?_⟩;rw[prF,aA e,Db]
theorem aiB (h0:aU V L R=0) {Q:Kx} (q:Up Q (Z V)) {l:List (Nat×Nat)} (f:fj (ah V) (Z V) l) (d:∀v∈ag Q,¬v∈l.map (·.1)):xE V L R Q (zF l)=0:=by
 have c:(kE (iL (ah V)) Q).2=0:=by
  have e:Z (iL (ah V))=Z V:=by rw[bM,lQ]
  have a:=LM (fK h0).fine (by rw[e];exact q);rw[kE,aA a]
 have b:¬((zF l).any fun p=>jQ p.1 Q)=true:=fun h=>by
  obtain⟨p,g,n⟩:=rV.1 h;obtain⟨r,i,rfl⟩:=aQ.1 g;have a:=apK.1 n;refine d r.1 ?_ (aQ.2 ⟨r,i,rfl⟩);exact aQ.2 ⟨_,a,oC r.1⟩
 rw[xE,aA (RQ h0 f).1,aA c,aD b]
theorem ab8 (h0:aU V L R=0) {Q:Kx} (h:Up Q (Z V)) (l:List (Nat×Nat)):b9 (cP V L R Q l).2=cE V L R l:=by
 rw[cP];show b9 ((List.range (cnt (ah V) (ag Q))).map fun K=>qF (cE V L R (qV (ah V) (ag Q) K++l)))=_;rw[Pj (fun K=>cE V L R (qV (ah V) (ag Q) K++l)),aft h0 (h.nodup)]
variable {B7:Kx}
def rH (L:List Kx) (x y:Int) (z:Kx):Bool×Int:=
 if jX L [[x],[y],z]=0 then(!(xF L x.toNat (ag z))&&!wT (j6 L [] [x]) [x] [y] z,0) else(x3,jX L [[x],[y],z])
theorem aev {x:Int} (h:dZ [x] n=xq):0<=x/\x<n:=Kf (mC h) dA
theorem ahI {x y:Int} {z:Kx} (h:js n [[x],[y],z]=xq):(0<=x/\x<n)/\(0<=y/\y<n)/\dZ z n=xq/\js n [[x],z,[]]=xq/\js n [z,[y],[x]]=true:=by
 obtain⟨i,p⟩:=D9.1 h;have j:=i [x] aE;have q:=i [y] aE;have k:=i z aE;simp only[MR,MQ,lh,oh,bH,bD] at p;obtain⟨m,⟨r,o,s⟩,g⟩:=p;refine⟨aev j,aev q,k,D9.2 ⟨fun l f=>?_,?_⟩,D9.2 ⟨fun l f=>?_,?_⟩⟩
 ·simp only[bU,gw,jf] at f;rcases f with rfl |rfl |rfl
  ·exact j
  ·exact k
  ·rfl
 ·simp only[MR,MQ,lh,oh,bD];exact⟨m,o,fun a d b c=>g a d b (xS c)⟩
 ·simp only[bU,gw,jf] at f;rcases f with rfl |rfl |rfl
  ·exact k
  ·exact q
  ·exact j
 ·simp only[MR,MQ,lh,oh,bH,bD];refine⟨o,⟨r,m,fun a d b c e=>g b c a (yp d) e.symm⟩,fun a d b c e=>?_⟩;rcases c with c |c
  ·exact s b c a d e.symm
  ·exact g b c a (xS d) e.symm
theorem pU.three {bx by' bz:Kd} {nx ny nz cx cy cz:Nat} (e:Z Ls=3) (x:bx=O ->cx=0) (y:by'=O ->cy=0) (z:bz=O ->cz=0):pU (AC U (yd #[J bx nx cx,J by' ny cy,J bz nz cz] 27)) (I ⟨U.heap.size,0,O⟩) Ls:=fun k d g o b n c f h a=>by
 have w:=dU U (yd #[J bx nx cx,J by' ny cy,J bz nz cz] 27);cases f;rw[a8 _ U.heap.size _ _ _ (0,0) w] at h;rw[e] at d;match k,d with
 |0,_=>cases h;exact x a
 |1,_=>cases h;exact y a
 |2,_=>cases h;exact z a
theorem asz {F:Kx} (h:∀l∈L,Z l<=1000):∀l∈j6 L B7 F,Z l<=140737488355328:=fun l a=>by
 have:=asy h l a;omega
theorem ath {R:Nat} {F:Kx} (bx by' bz:Kd) (cx cy cz:Nat) (x y z:Kx) (w:wA) (h:ei w (I ⟨R,0,O⟩) (j6 L B7 F)) (a:∀l∈L,Z l<=1000) (b:aC w bx x) (c:aC w by' y) (d:aC w bz z) (e:Z x<=1000) (K:Z y<=1000) (f:Z z<=1000) (g:bq L=0) (p:js (Z L) [x,y,z]=xq):
  c6 75 #[J (I ⟨R,0,O⟩) (Z L) cap,J bx (Z x) cx,J by' (Z y) cy,J bz (Z z) cz] w (dj w (zd (!wT (j6 L B7 F) x y z))):=by
 have:=atg (I ⟨R,0,O⟩) bx by' bz cap cx cy cz (j6 L B7 F) x y z w h (asz a) b c d al al al (aar g B7 F) (by rw[I7];exact p)
 rwa [I7] at this
theorem ahH (a bz:Kd) (ca cz:Nat) (L:List Kx) (x y:Int) (z:Kx) (w:wA) (h:ei w a L) (f:∀l∈L,Z l<=1000) (i:aC w bz z) (m:bz=O ->cz=0) (p:Z z<=1000):
  c6 73 #[J a (Z L) ca,J (I ⟨w.heap.size+1+1,0,O⟩) 3 3] (AC (AC (AC w (yd #[E yR x] 3)) (yd #[E yR y] 3)) (yd #[J (I ⟨w.heap.size,0,O⟩) 1 1,J (I ⟨w.heap.size+1,0,O⟩) 1 1,J bz (Z z) cz] 27)) (fun e w'=>e=yk (E yR (jX L [[x],[y],z]))/\Below (AC (AC (AC w (yd #[E yR x] 3)) (yd #[E yR y] 3)) (yd #[J (I ⟨w.heap.size,0,O⟩) 1 1,J (I ⟨w.heap.size+1,0,O⟩) 1 1,J bz (Z z) cz] 27)).heap.size (AC (AC (AC w (yd #[E yR x] 3)) (yd #[E yR y] 3)) (yd #[J (I ⟨w.heap.size,0,O⟩) 1 1,J (I ⟨w.heap.size+1,0,O⟩) 1 1,J bz (Z z) cz] 27)) w')/\da w (AC (AC (AC w (yd #[E yR x] 3)) (yd #[E yR y] 3)) (yd #[J (I ⟨w.heap.size,0,O⟩) 1 1,J (I ⟨w.heap.size+1,0,O⟩) 1 1,J bz (Z z) cz] 27)):=by
 have n:=(aw w.heap.size w).alloc (ak _) (yd #[E yR x] 3);have s:(AC w (yd #[E yR x] 3)).heap.size=w.heap.size+1:=aE
 have g:=n.alloc n.size (yd #[E yR y] 3);have j:(AC (AC w (yd #[E yR x] 3)) (yd #[E yR y] 3)).heap.size=w.heap.size+1+1:=aE
 have k:aC (AC (AC w (yd #[E yR x] 3)) (yd #[E yR y] 3)) (I ⟨w.heap.size,0,O⟩) [x]:=(tE w x).aa ((aw _ _).alloc (ak _) _);have d:=tE (AC w (yd #[E yR x] 3)) y;rw[s] at d;have o:=i.aa g;have c:=Wq (cx:=1) (cy:=1) (cz:=cz) k d o;have v:=pU.three (U:=AC (AC w (yd #[E yR x] 3)) (yd #[E yR y] 3)) (bx:=I ⟨w.heap.size,0,O⟩) (by':=I ⟨w.heap.size+1,0,O⟩) (bz:=bz) (nx:=1) (ny:=1) (nz:=z.length) (cx:=1) (cy:=1) (cz:=cz) (Ls:=[[x],[y],z]) rfl (fun e=>by cases e) (fun e=>by cases e) m;rw[j] at c v;have A:=g.alloc g.size (yd #[J (I ⟨w.heap.size,0,O⟩) 1 1,J (I ⟨w.heap.size+1,0,O⟩) 1 1,J bz (Z z) cz] 27)
 refine⟨alv a (I ⟨w.heap.size+1+1,0,O⟩) ca 3 L [[x],[y],z] _ (h.aa A) (fun l b=>by have:=f l b;omega) c v (fun l b=>by
  simp only[bU,gw,jf] at b;rcases b with rfl |rfl |rfl
  ·simp
  ·simp
  ·exact p) aE aE,A⟩
theorem aim (a bz:Kd) (ca cz:Nat) (L:List Kx) (x y:Int) (z:Kx) (w:wA) (h:ei w a L) (n:∀l∈L,Z l<=1000) (p:aC w bz z) (av:bz=O ->cz=0) (ao:Z z<=1000):
  c6 30 #[J a (Z L) ca,E yR x,E yR y,J bz (Z z) cz] w (dj w (zz #[zd (rH L x y z).1,E yR (rH L x y z).2])):=by
 obtain⟨ad,Y⟩:=ahH a bz ca cz L x y z w h n p av ao;have ab:=Fa ad;have i:=Fa Y;have B2:=Fa p;have M:=Fa h;have t:=Fa n;obtain⟨rb,r,d⟩:∃rb r,rH L x y z=(rb,r):=⟨_,_,rfl⟩
 have B9:we (jX L [[x],[y],z]≠0 ->x3=rb/\jX L [[x],[y],z]=r):=fun e=>by
  rw[rH,aD e] at d;exact Prod.mk.inj d
 have H:we (jX L [[x],[y],z]=0 ->(!(xF L x.toNat (ag z))&&!wT (j6 L [] [x]) [x] [y] z)=rb/\0=r):=fun e=>by
  rw[rH,aA e] at d;exact Prod.mk.inj d
 rw[d];show c6 30 #[J a (Z L) ca,E yR x,E yR y,J bz (Z z) cz] w fun e w'=>e=yk (zz #[zd rb,E yR r])/\da w w';clear d ad Y h p n;go_enter func30,ntmps30;go_wp2_with fail
 refine ab.o.af ?_;rintro e w1 ⟨rfl,ai⟩;have c:=Fa (i.o.trans (ai.af i.o.size));clear ai ab i;by_cases s:jX L [[x],[y],z]=0
 ·obtain⟨g,D⟩:=acD s;obtain⟨⟨ay,az⟩,⟨lq,aJ⟩,F,_,_⟩:=ahI D;obtain⟨u,rfl⟩:∃u:Nat,x=u:=⟨x.toNat,al⟩;rw[s];have m:=H.o s;rw[oC] at m;have P:=Fa m;have X:=Fa (atb a bz ca cz u L z w1 (M.o.aa c.o) (fun l ar=>by have:=t.o l ar;omega) (B2.o.aa c.o) al g F al);have HG:=Fa g;have CG:=Fa D;have T:0<Z L/\L.length<=8:=⟨al,(mK (vR g).1).2.1⟩;clear s m g D F B9 H;generalize xF L u (ag z)=q1 at *;cases q1 with
  |true=>
   go_wp2_with fail
   refine X.o.af ?_;rintro e v ⟨rfl,f⟩;have B1:=Fa (c.o.trans (f.af c.o.size));clear f;go_wp2;go_ret2;exact⟨by rw[<- P.o.1, <- P.o.2];rfl,B1.o⟩
  |false=>
   go_wp2_with fail
   refine X.o.af ?_;rintro e v ⟨rfl,f⟩;have B1:=Fa (c.o.trans (f.af c.o.size));clear f;have A:=B1.o.alloc B1.o.size (yd #[E yR (u:Nat)] 3);have V:=Fa (ajT a (I ⟨v.heap.size,0,O⟩) ca 1 L [((u:Nat):Int)] _ (M.o.aa A) (tE v u) T.1 T.2 t.o aE);have B7:=Fa A;clear A;go_wp2_with fail
   refine V.o.af ?_;rintro e b ⟨R,cap,rfl,ae,aj⟩;have Q:=Fa (B7.o.trans (aj.af B7.o.size));have q:=(aw b.heap.size b).alloc (ak _) (yd #[E yR (u:Nat)] 3);(have U:(AC b (yd #[E yR (u:Nat)] 3)).heap.size=b.heap.size+1:=aE);have K:=q.alloc q.size (yd #[E yR y] 3);have k:=Q.o.trans (K.af Q.o.size);have j:=tE (AC b (yd #[E yR (u:Nat)] 3)) y;rw[U] at j;have aq:=Fa (ath (cap:=cap) (I ⟨b.heap.size,0,O⟩) (I ⟨b.heap.size+1,0,O⟩) bz 1 1 cz [((u:Nat):Int)] [y] z _ (ae.aa K) t.o ((tE b u).aa ((aw _ _).alloc (ak _) (yd #[E yR y] 3))) j (B2.o.aa k) aE aE ao HG.o CG.o);have S:=Fa k;clear q U K k j aj ae V;generalize wT (j6 L [] [((u:Nat):Int)]) [((u:Nat):Int)] [y] z=q2 at *;go_wp2_with fail
   refine aq.o.af ?_;rintro e w4 ⟨rfl,an⟩;have CE:=Fa (S.o.trans (an.af S.o.size));clear an;go_wp2;go_ret2;exact⟨by rw[<- P.o.1, <- P.o.2];rfl,CE.o⟩
 ·have B6:=Fa (B9.o s);have ax:(jX L [[x],[y],z]==0)=false:=by simpa using s
  clear s B9 H;generalize jX L [[x],[y],z]=st at *;go_wp2;go_ret2;exact⟨by rw[<- B6.o.1, <- B6.o.2];rfl,c.o⟩
section
variable {V : List Vr} {L : List Kx} {R : List (List Fr)} {d : List (Nat × Nat)}
def ik (V:List Vr) (L:List Kx) (R:List (List Fr)) (d l:List (Nat×Nat)):Rat:=dN (ah V) (Z V) (iM d (sA V L R)) l
theorem SA (h0:aU V L R=0) (h:fj (ah V) (Z V) d) (l:List (Nat×Nat)):cE V (eh d L) (dV V d (cC R)) l=ik V L R d l:=by
 rw[afs (by rw[Sp];exact h0) h]
 have e:sA V L (cC R)=sA V L R:=by
  funext v g
  exact apf v g
 rw[e,ik]
def lX (V:List Vr) (L:List Kx) (R:List (List Fr)) (d:List (Nat×Nat)) (Y:Kx) (l:List (Nat×Nat)):List Fr:=
 (List.range (cnt (ah V) (ag Y))).map fun K=>qF (ik V L R d (qV (ah V) (ag Y) K++l)/ik V L R d l)
theorem ar2 (h0:aU V L R=0) (h:fj (ah V) (Z V) d) {Y:Kx} (b:Up Y (Z V)) {l:List (Nat×Nat)} (c:fj (ah V) (Z V) l) (y:∀v∈ag Y,¬v∈l.map (·.1)):
  jO V (eh d L) (dV V d (cC R)) Y (zF l)=(if ik V L R d l=0 then 3 else 0)/\(ik V L R d l≠0 ->jN V (eh d L) (dV V d (cC R)) Y (zF l)=(Y,lX V L R d Y l)):=by
 have n:=Pt (R:=cC R) (by rw[Sp];exact h0) h;have s:=aiB n b c y;have a:b9 (cP V (eh d L) (dV V d (cC R)) Y l).2=ik V L R d l:=by rw[ab8 n b,SA h0 h]
 have z:jO V (eh d L) (dV V d (cC R)) Y (zF l)=if ik V L R d l=0 then 3 else 0:=by rw[jO,aA s,Db,a]
 refine⟨z,fun hs=>?_⟩;rw[jN,z,aD hs,aA rfl,Db,vo,a,cP,lX];congr 1
 rw[AZ];refine qh fun K _=>?_;show qF (bj (qF _)*(1/_))=_;rw[j5,SA h0 h,k9 1,lI, <- k9]
theorem afl {a b:List (Nat×Nat)} (h:∀p,p∈a↔p∈b):ik V L R d a=ik V L R d b:=afr h
theorem ahW {G:List Kx} {F:Kx} (h:v<Z G):(j6 G B7 F).getD v []=uL G B7 F v:=by
 rw[getD_at (by rw[I7];exact h),ahY]
end
variable {V : List Vr} {L : List Kx} {R : List (List Fr)} {d : List (Nat × Nat)}
theorem afk (h0:aU V L R=0) (h:fj (ah V) (Z V) d) {q:Jp} (a:q.Nodup) (l:List (Nat×Nat)):bG (fun K=>ik V L R d (qV (ah V) q K++l)) (cnt (ah V) q)=ik V L R d l:=by
 have:=aft (Pt h0 h) a l;simp only[afs h0 h] at this;exact this
theorem afm (h0:aU V L R=0) (a:fj (ah V) (Z V) d) (l:List (Nat×Nat)) (y v:Nat) (e:ik V L R d l=0):ik V L R d (l++[(y,v)])=0:=by
 have h:=apj (Pu h0 a) y v l;have b:=api (Pu h0 a) ((y,v)::l);have c:ik V L R d (l++[(y,v)])=ik V L R d ((y,v)::l):=afl fun p=>by simp[or_comm]
 rw[c];rw[ik] at e⊢;rw[e] at h;exact Rat.le_antisymm h b
theorem atK (h0:aU V L R=0) (a:fj (ah V) (Z V) d) {s:Jp} (z:s.Nodup) {y:Nat}
  (j:∀K,K<cnt (ah V) s ->cE V L R (qV (ah V) s K++([(y,v)]++d))*cE V L R (qV (ah V) s K)=ik V L R d (qV (ah V) s K++[(y,v)])*cE V L R (qV (ah V) s K++d)/\ik V L R d (qV (ah V) s K)=cE V L R (qV (ah V) s K))
  (k:∀K,K<cnt (ah V) s ->cE V L R (qV (ah V) s K)≠0 ->cE V L R (qV (ah V) s K++d)≠0):
  bG (fun K=>(if cE V L R (qV (ah V) s K)=0 then 0 else cE V L R (qV (ah V) s K)/cE V L R (qV (ah V) s K++d))*cE V L R (qV (ah V) s K++([(y,v)]++d))) (cnt (ah V) s)=ik V L R d [(y,v)]:=by
 rw[<- afk h0 a z [(y,v)]];refine gD fun K h=>?_;obtain⟨b,c⟩:=j K h;have f:=k K h;by_cases e:cE V L R (qV (ah V) s K)=0
 ·rw[aA e,uh,afm h0 a _ y v (c.trans e)]
 ·rw[aD e];have g:=f e;generalize cE V L R (qV (ah V) s K)=A at *;generalize cE V L R (qV (ah V) s K++d)=B at *;generalize cE V L R (qV (ah V) s K++([(y,v)]++d))=N at *;generalize ik V L R d (qV (ah V) s K++[(y,v)])=D at *;have i:A/B*N=N*A/B:=by rw[k9,k9];grind
  rw[i,b,k9,qg,JR _ g,mU]
variable {V : List Vr} {L : List Kx} {R : List (List Fr)}
variable {vx:Nat}
theorem aiu (h0:aU V L R=0) (k:Z L<=8) {x y:Nat} {z:Kx} (iW:vx<sz (ah V) x) (f:rH L x y z=(xq,0)) (v:Nat) {K:Nat} (hK:K<cnt (ah V) (ag z)):
  cE V L R (qV (ah V) (ag z) K++([(y,v)]++[(x,vx)]))*cE V L R (qV (ah V) (ag z) K)=ik V L R [(x,vx)] (qV (ah V) (ag z) K++[(y,v)])*cE V L R (qV (ah V) (ag z) K++[(x,vx)])/\ik V L R [(x,vx)] (qV (ah V) (ag z) K)=cE V L R (qV (ah V) (ag z) K):=by
 have B6:jX L [[(x:Int)],[(y:Int)],z]=0:=by
  by_cases e:jX L [[(x:Int)],[(y:Int)],z]=0
  ·exact e
  ·rw[rH,aD e] at f;cases f
 rw[rH,aA B6] at f;have F:=(Prod.mk.inj f).1;rw[iI,oC] at F;obtain⟨o,A⟩:=F;obtain⟨l,m⟩:=acD B6;obtain⟨⟨_,hx⟩,⟨_,hy⟩,B2,_,_⟩:=ahI m;have t:Z L=Z V:=(fK h0).len;have Y:x<Z V:=al
 have ab:y<Z V:=al
 have D:=mC B2;rw[t] at D;have X:Pos (ah V):=by have:=(fK h0).fine.pos;rwa [jL] at this
 obtain⟨_,B7⟩:=D9.1 m;simp only[MR,MQ,lh,oh,bH] at B7
 have n:∀u:Nat,u∈ag z↔(u:Int)∈z:=fun u=>by
  rw[ag,aQ];constructor
  ·rintro⟨q,i,e⟩;have:=((dY.1 D).1 q i).1;rw[show (u:Int)=q by omega];exact i
  ·exact fun h=>⟨_,h,aE⟩
 have j3:x≠y:=fun e=>B7.2.2 (x:Int) aE (y:Int) (yp aE) (by rw[e]);have B9:¬x∈ag z:=fun h=>B7.2.2 (x:Int) aE (x:Int) (xS ((n x).1 h)) rfl;have B1:¬y∈ag z:=fun h=>B7.2.1.2.2 (y:Int) aE (y:Int) ((n y).1 h) rfl;have g:fj (ah V) (Z V) [(x,vx)]:=⟨aE,fun p a=>by rw[bD.1 a];exact Y,fun p a=>by rw[bD.1 a];exact iW⟩
 have ad:∀p∈qV (ah V) (ag z) K,p.1∈ag z:=fun p a=>by
  rw[<- Bj (ah V) (ag z) K];exact aQ.2 ⟨p,a,rfl⟩
 have ae:∀p∈qV (ah V) (ag z) K,p.2<sz (ah V) p.1:=fun p a=>by
  rw[qV] at a;obtain⟨u,_,rfl⟩:=aQ.1 a;exact rI X _ _ u hK
 have j:Z (j6 L [] [(x:Int)])=Z L:=I7 _ _ _;have T:bq (j6 L [] [(x:Int)])=0:=aar l _ _
 have hcut:∀w u,w<Z V ->(u∈ag ((j6 L [] [(x:Int)]).getD w [])↔u∈ag (L.getD w [])/\u≠x):=fun w u c=>by
  rw[ahW al,aaq,ag,ag,aQ,aQ];have d:=(fK h0).up w al;rw[<- getD_at al] at d;constructor
  ·rintro⟨q,i,rfl⟩;obtain⟨r,nI⟩:=cU.1 i;have vB:=((dY.1 d).1 q r).1;refine⟨⟨q,r,rfl⟩,fun e=>?_⟩;(have wZ:¬q=(x:Int):=by simpa using nI);omega
  ·rintro⟨⟨q,r,rfl⟩,H⟩;have vB:=((dY.1 d).1 q r).1;refine⟨q,cU.2 ⟨r,?_⟩,rfl⟩;rw[eM,bD];omega
 have aa:¬Ce (j6 L [] [(x:Int)]) (Z V) (fun u=>u∈[(y,v)].map (·.1)) (fun u=>u∈[(x,vx)].map (·.1)) (fun u=>u∈(qV (ah V) (ag z) K).map (·.1)):=fun c=>by
  have hs:=Ce.sym (fun u b=>by simp at b;omega) (fun w c u b=>?_) (fun u b=>by simp at b;subst b;rw[Bj];exact B9) c
  ·have h9:=(aeo T (by rw[j];exact k) (x:=[(x:Int)]) (y:=[(y:Int)]) (z:=z) (by rw[j];exact m)).2 (by
    rw[j,t];(have Q:(fun u=>u∈ag [(x:Int)])=fun u=>u∈[(x,vx)].map (·.1):=by funext u;simp[ag]);(have S:(fun u=>u∈ag [(y:Int)])=fun u=>u∈[(y,v)].map (·.1):=by funext u;simp[ag]);(have U:(fun u=>u∈ag z)=fun u=>u∈(qV (ah V) (ag z) K).map (·.1):=by funext u;rw[Bj]);rw[Q,S,U];exact hs)
   rw[h9] at A;cases A
  ·have:=((hcut w u c).1 b).1;have d:=(fK h0).up w al;rw[<- getD_at al] at d;exact aT (tA d u this) al
 have P:∀u,u∈[(x,vx)].map (·.1) ->¬eQ L (fun u=>u∈(qV (ah V) (ag z) K).map (·.1)) u:=fun u b s=>by
  simp at b;subst b;simp only[Bj] at s;have M:∀w∈ag z,w<Z L:=fun w c=>by have:=tA D w c;omega
  have:=(L0 l k M u).2 ((Uw l k M u).1 s);rw[this] at o;cases o
 have:=atv (XM h0) (Pu h0 g) (L2:=j6 L [] [(x:Int)]) (fun w c u b=>?_) g.nd (fun p a=>⟨g.val p a,g.lt p a⟩) (fun w c u b H=>(hcut w u c).2 ⟨b,by simpa using H⟩) (fun w c u b=>⟨((hcut w u c).1 b).1,by simpa using ((hcut w u c).1 b).2⟩)
  (fy:=[(y,v)]) (fw:=qV (ah V) (ag z) K) (fun p a=>⟨tA D _ (ad p a),ae p a⟩) (fun p a=>by rw[bD.1 a];exact ab) (by rw[Bj];exact D.nodup) (fun p a=>by rw[bD.1 a,Bj];exact B1) (fun p a=>by rw[bD.1 a,Bj];exact B9) (fun p a=>by rw[bD.1 a];simpa using fun e=>j3 e.symm) aa P
 ·simp only[Ii h0];exact this
 ·rw[I4] at b;split at b
  ·cases b
  ·exact b
variable {hs:Jp}
theorem abG {P:Program} (w:wA) {o:Oper} {a:Act} (l c:Operand) (t:TypeId) (x:o.op=Op.makeSlice t l c)
  (base:Nat) (e:TypeId) (i:TypeInfo) (z:wQ) (s:Nat) (h1:P.underlying t=I (.slice e)) (h:P.info? e=I i) (f:i.zero=I z) (g:i.size=s)
  (kl k:IntKind) (L C:Int) (n:Nat) (r:a.eval l=E kl L) (q:a.eval c=E k C) (p:L=(n:Int)) (j:C=(n:Int)) (b2:i.bytes*n<=281474976710656) (b:n<=maxLen) (d:base<=w.heap.size)
  (m:∀w',w'.ownsRow base e s (J (I ⟨w.heap.size,0,O⟩) n n) n (madeCells z.cells (n*s)).toList ->w.grownBy w' O ->K (a.put o.dst (J (I ⟨w.heap.size,0,O⟩) n n)) w'):o.wp P a w K Q:=by
 obtain⟨w',y,u,v⟩:=run_make_full (P:=P) w base t e i z s h1 h f g kl k n b2 b d;subst p;subst j;unfold Oper.wp;simp[execOp,x,r,q,y,Result.andThen];exact m w' u v
def pT (gs:Jp) (b:Kd) (n:Nat):Prop:=∀g o,b=I ⟨g,o,O⟩ ->n≠0 ->¬g∈gs
structure eK (gs:Jp) (W U:wA):Prop where
 os:U.os=W.os
 tape:U.tape=W.tape
 output:U.output=W.output
 size:W.heap.size<=U.heap.size
 block:∀g,g<W.heap.size ->¬g∈gs ->U.heap[g]? =W.heap[g]?
theorem eK.refl (gs:Jp) (W:wA):eK gs W W:=⟨rfl,rfl,rfl,ak _,fun _ _ _=>rfl⟩
theorem eK.aa {gs:Jp} {W:wA} (h:da W U):eK gs W U:=⟨h.os,h.tape,h.output,h.size,fun g a _=>h.block g a⟩
theorem eK.trans {gs:Jp} {W:wA} (h:eK gs W U) (a:eK gs U U'):eK gs W U':=⟨a.os.trans h.os,a.tape.trans h.tape,a.output.trans h.output,aO h.size a.size,fun g b n=>(a.block g (aT b h.size) n).trans (h.block g b n)⟩
theorem eK.set {gs:Jp} {W:wA} {b:Nat} (h:b∈gs) (j:Nat) (y:wQ):eK gs W (AF W ⟨b,j,O⟩ y):=⟨rfl,rfl,rfl,(kh W ⟨b,j,O⟩ y).size,fun g _ n=>eO W ⟨b,j,O⟩ y g fun e=>n (by rw[show g=b from e];exact h)⟩
theorem eK.put {gs:Jp} {W:wA} (h:eK gs W U) {b:Nat} (a:b∈gs∨W.heap.size<=b) (j:Nat) (y:wQ):eK gs W (AF U ⟨b,j,O⟩ y):=⟨h.os,h.tape,h.output,aO h.size (kh U ⟨b,j,O⟩ y).size,fun g d n=>(eO U ⟨b,j,O⟩ y g fun e=>by
 have c:g=b:=e;subst c;rcases a with a |a
 ·exact n a
 ·omega).trans (h.block g d n)⟩
theorem eK.grow {gs:Jp} {W:wA} (h:eK gs W U) {row:Option Nat} (a:U.grownBy U' row) (r:∀g,row=I g ->g∈gs∨W.heap.size<=g):eK gs W U':=⟨a.os.trans h.os,a.tape.trans h.tape,a.output.trans h.output,aO h.size a.size,fun g l n=>(a.block g (aT l h.size) fun e=>by
 rcases r g e.symm with b |b
 ·exact n b
 ·omega).trans (h.block g l n)⟩
theorem eK.low {gs:Jp} {W:wA} (h:eK gs W U) (a:da w W) (c:∀g∈gs,w.heap.size<=g):da w U:=⟨h.os.trans a.os,h.tape.trans a.tape,h.output.trans a.output,aO a.size h.size,fun k b=>(h.block k (aT b a.size) fun m=>by have:=c k m;omega).trans (a.block k b)⟩
theorem eK.more {gs:Jp} {W:wA} (h:eK gs W U) (s:∀g∈gs,g∈hs):eK hs W U:=⟨h.os,h.tape,h.output,h.size,fun g a n=>h.block g a fun m=>n (s g m)⟩
section
variable {gs : Jp} {W U : wA}
theorem KX {b:Kd} (h:aC W b l) (i:pT gs b (Z l)) (c:eK gs W U):aC U b l:=fun k d=>by
 obtain⟨g,o,e,a,f⟩:=h k d;exact⟨g,o,e,aT a c.size,(iE (c.block g a (i g o e al))).trans f⟩
theorem WE {b:Kd} {l:List ByteArray} (h:jU W b l) (i:pT gs b (Z l)) (c:eK gs W U):jU U b l:=fun k d=>by
 obtain⟨g,o,e,a,f⟩:=h k d;exact⟨g,o,e,aT a c.size,(iE (c.block g a (i g o e al))).trans f⟩
theorem LA {b:Kd} {l:List Fr} (h:dE W b l) (m:pT gs b (Z l)) (d:eK gs W U):dE U b l:=fun k D=>by
 obtain⟨g,o,e,c,f,i,j⟩:=h k D;have a:=d.block g c (m g o e al);exact⟨g,o,e,aT c d.size,(iE a).trans f,(iE a).trans i,(iE a).trans j⟩
theorem Sk {b:Kd} {B:Nat} (h:∀g,∀o,b=I ⟨g,o,O⟩ ->B<=g) (a:∀g∈gs,g<B):pT gs b n:=fun g o e _ m=>by
 have:=h g o e;have:=a g m;omega
def sV (W:wA) (G:Nat) (X:List wQ):Prop:=W.heap[G]? =I (yd X.toArray 60 (0,0))
theorem sV.cell {X:List wQ} (h:sV w g X) (j:Nat) (a:j<Z X):AJ w ⟨g,j,O⟩=I X[j]:=by
 rw[a8 w g j _ _ (0,0) h,QY,ba a]
theorem sV.fz {X:List wQ} (h:sV w g X) (j:Nat):w.frozen? ⟨g,j,O⟩=false:=eA w g j _ _ h
theorem sV.lt {X:List wQ} (h:sV w g X):g<w.heap.size:=(c5.1 h).1
theorem sV.set {X:List wQ} (h:sV w g X) (j:Nat) (v:wQ):sV (AF w ⟨g,j,O⟩ v) g (X.set j v):=by
 have a:=ke w g j _ _ v h;rw[sV,a];simp
structure p8 (gs:Jp) (g:Nat) (V:List Vr) (X:List wQ) (W:wA):Prop where
 row:sV W g X
 len:Z V*2<=Z X
 at':∀k (h:k<Z V),∃b c,X[k*2]? =I (zX V[k].1)/\X[k*2+1]? =I (J b V[k].2.length c)/\jU W b V[k].2/\V[k].2.length<=c/\pT gs b V[k].2.length
structure nY (gs:Jp) (g:Nat) (L:List Kx) (X:List wQ) (W:wA):Prop where
 row:jV W g X
 len:Z L<=Z X
 at':∀k (h:k<Z L),∃b c,X[k]? =I (J b L[k].length c)/\aC W b L[k]/\(b=O ->c=0)/\pT gs b L[k].length
def qT (w:wA) (G:Nat) (X:List wQ):Prop:=w.heap[G]? =I (yd X.toArray 36 (0,0))
theorem qT.cell {X:List wQ} (h:qT w g X) (j:Nat) (a:j<Z X):AJ w ⟨g,j,O⟩=I X[j]:=by
 rw[a8 w g j _ _ (0,0) h,QY,ba a]
theorem qT.fz {X:List wQ} (h:qT w g X) (j:Nat):w.frozen? ⟨g,j,O⟩=false:=eA w g j _ _ h
theorem qT.lt {X:List wQ} (h:qT w g X):g<w.heap.size:=(c5.1 h).1
theorem qT.set {X:List wQ} (h:qT w g X) (j:Nat) (v:wQ):qT (AF w ⟨g,j,O⟩ v) g (X.set j v):=by
 have a:=ke w g j _ _ v h;rw[qT,a];simp
structure p9 (gs:Jp) (g:Nat) (R:List (List Fr)) (X:List wQ) (W:wA):Prop where
 row:qT W g X
 len:Z R<=Z X
 at':∀k (h:k<Z R),∃b c,X[k]? =I (J b R[k].length c)/\dE W b R[k]/\R[k].length<=c/\pT gs b R[k].length
variable {g : Nat} {V : List Vr} {L : List Kx} {R : List (List Fr)} {X : List wQ}
theorem p8.keep (h:p8 gs g V X W) (m:eK gs W U) (l:U.heap[g]? =W.heap[g]?):p8 gs g V X U:=⟨l.trans h.row,h.len,fun k d=>by
 obtain⟨b,c,e,f,i,j,a⟩:=h.at' k d;exact⟨b,c,e,f,WE i a m,j,a⟩⟩
theorem nY.keep (h:nY gs g L X W) (l:eK gs W U) (j:U.heap[g]? =W.heap[g]?):nY gs g L X U:=⟨j.trans h.row,h.len,fun k d=>by
 obtain⟨b,c,e,f,i,a⟩:=h.at' k d;exact⟨b,c,e,KX f a l,i,a⟩⟩
theorem p9.keep (h:p9 gs g R X W) (l:eK gs W U) (j:U.heap[g]? =W.heap[g]?):p9 gs g R X U:=⟨j.trans h.row,h.len,fun k d=>by
 obtain⟨b,c,e,f,i,a⟩:=h.at' k d;exact⟨b,c,e,LA f a l,i,a⟩⟩
theorem p8.aa (h:p8 gs g V X W) (b:da W U):p8 gs g V X U:=h.keep (.aa b) (b.block g h.row.lt)
theorem nY.aa (h:nY gs g L X W) (b:da W U):nY gs g L X U:=h.keep (.aa b) (b.block g h.row.lt)
theorem p9.aa (h:p9 gs g R X W) (b:da W U):p9 gs g R X U:=h.keep (.aa b) (b.block g h.row.lt)
theorem p8.set (h:p8 gs g V X W) (q:g∈gs) (s:k<Z V) {b:Kd} (hs:jU W b V[k].2) (p:V[k].2.length<=c) (o:pT gs b V[k].2.length):
  p8 gs g V (X.set (k*2+1) (J b V[k].2.length c)) (AF W ⟨g,k*2+1,O⟩ (J b V[k].2.length c)):=by
 have x:eK gs W (AF W ⟨g,k*2+1,O⟩ (J b V[k].2.length c)):=.set q _ _;have t:=h.len;refine⟨h.row.set _ _,by rw[gA];exact h.len,fun j r=>?_⟩;obtain⟨f,i,a,l,m,n,d⟩:=h.at' j r;by_cases e:k=j
 ·subst e;refine⟨b,c,?_,?_,WE hs o x,p,o⟩
  ·rw[wJ al];exact a
  ·rw[Ho al]
 ·refine⟨f,i,?_,?_,WE m d x,n,d⟩
  ·rw[wJ al];exact a
  ·rw[wJ al];exact l
theorem nY.set (h:nY gs g L X W) (r:g∈gs) {b:Kd} (hs:aC W b l) (q:b=O ->c=0) (o:pT gs b (Z l)):
  nY gs g (L.set k l) (X.set k (J b (Z l) c)) (AF W ⟨g,k,O⟩ (J b (Z l) c)):=by
 have x:eK gs W (AF W ⟨g,k,O⟩ (J b (Z l) c)):=.set r _ _;have s:=h.len;refine⟨h.row.set _ _,by rw[gA,gA];exact h.len,fun j d=>?_⟩;rw[gA] at d;obtain⟨f,i,m,n,p,a⟩:=h.at' j d;by_cases e:k=j
 ·subst e;rw[Hn];refine⟨b,c,?_,KX hs o x,q,o⟩;rw[Ho al]
 ·rw[MO e];refine⟨f,i,?_,KX n a x,p,a⟩;rw[wJ e];exact m
theorem p9.set (h:p9 gs g R X W) (r:g∈gs) {l:List Fr} {b:Kd} (hs:dE W b l) (q:Z l<=c) (o:pT gs b (Z l)):
  p9 gs g (R.set k l) (X.set k (J b (Z l) c)) (AF W ⟨g,k,O⟩ (J b (Z l) c)):=by
 have x:eK gs W (AF W ⟨g,k,O⟩ (J b (Z l) c)):=.set r _ _;have s:=h.len;refine⟨h.row.set _ _,by rw[gA,gA];exact h.len,fun j d=>?_⟩;rw[gA] at d;obtain⟨f,i,m,n,p,a⟩:=h.at' j d;by_cases e:k=j
 ·subst e;rw[Hn];refine⟨b,c,?_,LA hs o x,q,o⟩;rw[Ho al]
 ·rw[MO e];refine⟨f,i,?_,LA n a x,p,a⟩;rw[wJ e];exact m
theorem p8.Fd (h:p8 gs g V X W):tM W (I ⟨g,0,O⟩) V:=fun k i=>by
 obtain⟨b,c,a,d,e,f,_⟩:=h.at' k i;have l:=h.len;refine⟨g,0,b,c,rfl,h.row.lt,?_,?_,e,f⟩
 ·rw[bK,h.row.cell _ al];rw[ba al] at a;exact a
 ·rw[bK,h.row.cell _ al];rw[ba al] at d;exact d
theorem nY.pars (h:nY gs g L X W):ei W (I ⟨g,0,O⟩) L:=fun k e=>by
 obtain⟨b,c,a,d,_,_⟩:=h.at' k e;have l:=h.len;refine⟨g,0,b,c,rfl,h.row.lt,?_,d⟩;rw[bK,h.row.cell _ al];rw[ba al] at a;exact a
theorem nY.lsn (h:nY gs g L X W):pU W (I ⟨g,0,O⟩) L:=fun k i g' o' j o l e a n=>by
 cases e;obtain⟨b,c,d,_,f,_⟩:=h.at' k i;have m:=h.len;rw[bK,h.row.cell _ al] at a;rw[ba al] at d;rw[kg d] at a;cases a;exact f n
theorem p9.rows (h:p9 gs g R X W):Mw W (I ⟨g,0,O⟩) R:=fun k f=>by
 obtain⟨b,c,a,d,e,_⟩:=h.at' k f;have l:=h.len;refine⟨g,0,b,c,rfl,h.row.lt,?_,d,e⟩;rw[bK,h.row.cell _ al];rw[ba al] at a;exact a
end
theorem lD.strs {B:Nat} {v:wQ} {l:List ByteArray} (h:lD w B v l):∃d f,v=J d (Z l) f/\jU w d l/\l.length<=f/\∀g o,d=I ⟨g,o,O⟩ ->B<=g:=by
 rcases h.2 with ⟨a,b⟩ |⟨g,cap,u,a,b,p,i,q,r,s⟩
 ·have:l=[]:=Q4 b;subst this;exact⟨O,0,a,fun k c=>absurd c aE,ak _,fun g o e=>by cases e⟩
 ·refine⟨I ⟨g,0,O⟩,cap,a,fun k c=>?_,i,fun g' o' e=>by cases e;exact b⟩;subst a;obtain⟨g',e,n,m⟩:=KG h (j:=k) (by rw[dm];exact c);cases e;refine⟨g,0,rfl,n,?_⟩;rw[bK,m,mq]
theorem bS.ints3 {B:Nat} {v:wQ} (h:bS w B v l):∃d f,v=J d (Z l) f/\aC w d l/\(d=O ->f=0)/\∀g o,d=I ⟨g,o,O⟩ ->B<=g:=by
 rcases h.2 with ⟨a,b⟩ |⟨g,cap,u,a,b,n,p,q,r,s⟩
 ·have:l=[]:=Q4 b;subst this;exact⟨O,0,a,fun k c=>absurd c aE,fun _=>rfl,fun g o e=>(by cases e)⟩
 ·refine⟨I ⟨g,0,O⟩,cap,a,fun k c=>?_,(fun e=>by cases e),(fun g' o' e=>by cases e;exact b)⟩;subst a;obtain⟨g',e,m,i⟩:=KG h (j:=k) (by rw[dm];exact c);cases e;refine⟨g,0,rfl,m,?_⟩;rw[bK,i,mq]
def UB (w:wA) (V:List Vr) (X:List wQ):Prop:=∀k (h:k<Z V),∃b c,X[k*2]? =I (zX V[k].1)/\X[k*2+1]? =I (J b V[k].2.length c)/\jU w b V[k].2/\V[k].2.length<=c
theorem ak8 (h:tM w a V) (p:0<Z V):∃g o,a=I ⟨g,o,O⟩/\g<w.heap.size:=by
 obtain⟨g,o,_,_,b,c,_⟩:=h 0 p;exact⟨g,o,b,c⟩
theorem ale (a:Kd) (ca:Nat) (V:List Vr) (w0 w:wA) (h:tM w0 a V) (D:da w0 w) (hp:0<Z V) (h8:Z V<=1000):
  c6 83 #[J a (Z V) ca] w fun e w'=>∃R cap X,e=yk (J (I ⟨R,0,O⟩) (Z V) cap)/\w.heap.size<=R/\V.length<=cap/\sV w' R X/\V.length*2<=Z X/\UB w0 V X/\da w w':=by
 obtain⟨i0,cH,ad,ae,af⟩:=eo Tryz.infoVar;obtain⟨g,o,rfl,B7⟩:=ak8 h hp;obtain⟨vs,H⟩:∃vs:List wQ,vs=(List.range (Z V*2)).map fun k=>(AJ w ⟨g,o+k,O⟩).getD undef:=⟨_,rfl⟩;have M:Z vs=Z V*2:=by rw[H];simp
 have A:∀k (d:k<Z V),∃b c,vs[k*2]? =I (zX V[k].1)/\vs[k*2+1]? =I (J b V[k].2.length c)/\jU w0 b V[k].2/\V[k].2.length<=c/\w.cell? ⟨g,o+k*2,O⟩=I (zX V[k].1)/\w.cell? ⟨g,o+(k*2+1),O⟩=I (J b V[k].2.length c):=fun k d=>by
  obtain⟨g',o',b,c,e,_,f,x,F,q⟩:=h k d;cases e;have B9:=(D.cell (p:=⟨g,o+k*2,O⟩) B7).trans f;have v:=(D.cell (p:=⟨g,o+k*2+1,O⟩) B7).trans x;rw[zl] at v;refine⟨b,c,?_,?_,F,q,B9,v⟩
  ·rw[H,mr,QZ al,Option.map_some,B9];rfl
  ·rw[H,mr,QZ al,Option.map_some,v];rfl
 have B2:∀j (i:j<Z vs),AJ w ⟨g,o+j,O⟩=I vs[j]/\vs[j].oneCell'=true:=fun j i=>by
  have d:j/2<Z V:=al
  obtain⟨b,c,m,f,_,_,q,y⟩:=A (j/2) d;rcases Nat.mod_two_eq_zero_or_one j with e |e
  ·have l:j/2*2=j:=al
   rw[l,ba i] at m;rw[l] at q;rw[q,kg m];exact⟨rfl,rfl⟩
  ·have l:j/2*2+1=j:=al
   rw[l,ba i] at f;rw[l] at y;rw[y,kg f];exact⟨rfl,rfl⟩
 have aa:=Fa A;have Q:=Fa B2;have L:=Fa M;clear H h M A B2 D;have aj:∀(w:wA) (a:Kd) (n c z t:Nat),(binOp .eql 22 (J a n c) (J O z t)).run prog w=.ok (zd a.isNone) w:=fun w a n c z t=>Lib.run_eql_slice_nil w _ _ a n c z t underlying22;go_enter func83,ntmps83;go_wp2_with (at_builtin;refine AU _ rfl _ _ 22 rfl w.heap.size 60 i0 (zp #[zX ⟨#[]⟩,J O 0 0]) 2 40 underlying22 cH ad ae af rfl a6 _ _ _ rfl (World.ownsRow_made w #[] 0 (ak _) (aX _) rfl) ⟨g,o,O⟩ (Z V) ca vs rfl ?Nu ?Nt ?Ns ?Nr ?Nq ?Np ?_)
 case Nu=>exact L.o
 case Nt=>
  intro j u i;have K:=(oA.1 i).1;rw[Addr.add_lit];refine Lib.cell?_alloc_some _ ?_;rw[(Q.o j K).1, <- i,ba K]
 case Ns=>
  intro u hu;obtain⟨k,d,rfl⟩:=iQ hu;exact(Q.o k d).2
 case Nr=>unfold maxLen;omega
 case Nq=>omega
 case Np=>simp
 intro v' w1 s P ai;have B6:da w w1:=((aw _ w).alloc (ak _) _).grown P aE (by intro k d;simp[Value.ownBlock] at d;omega);have S:=Fa B6;have T:=Fa s;clear s P ai B6;go_wp2;go_ret;have s:=T.o;have M:=L.o;rcases s.2 with ⟨m,f⟩ |⟨R,cap,r,m,f,x,F,q,y,h7⟩
 ·omega
 ·have e:vs++r.toList.drop (Z V*2)=r.toList:=by
   have ab:vs=r.toList.take (Z V*2):=by
    exact h7.symm
   conv=>lhs;rw[ab]
   exact AX _ _
  refine⟨R,cap,vs++r.toList.drop (Z V*2),by rw[m];rfl,f,al,?_,by rw[cD];omega,fun k d=>?_,S.o⟩
  ·rw[sV,x,e]
  ·obtain⟨b,c,U,Y,B1,a4,_⟩:=aa.o k d;exact⟨b,c,by rw[Q1 al];exact U,by rw[Q1 al];exact Y,B1,a4⟩
theorem alf (a:Kd) (ca:Nat) (l:List ByteArray) (w:wA) (h:jU w a l) (F:0<Z l) (Q:Z l<=5000):
  c6 84 #[J a (Z l) ca] w fun e w'=>∃d f,e=yk (J d (Z l) f)/\jU w' d l/\l.length<=f/\(∀g o,d=I ⟨g,o,O⟩ ->w.heap.size<=g)/\da w w':=by
 obtain⟨B6,z,K,L,M⟩:=eo Tryz.infoStr;obtain⟨g,o,rfl,R, -⟩:=h 0 F
 have x:∀j (b:j<Z l),AJ w ⟨g,o+j,O⟩=I (zX l[j]):=fun j b=>by
  obtain⟨g',o',e,_,m⟩:=h j b;cases e;exact m
 have A:=Fa x;clear h x;have S:∀(w:wA) (a:Kd) (n c p i:Nat),(binOp .eql 58 (J a n c) (J O p i)).run prog w=.ok (zd a.isNone) w:=fun w a n c p i=>Lib.run_eql_slice_nil w _ _ a n c p i underlying58;go_enter func84,ntmps84;go_wp2_with (at_builtin;refine AU _ rfl _ _ 58 rfl w.heap.size 9 B6 (zX ⟨#[]⟩) 1 16 underlying58 z K L M rfl a6 _ _ _ rfl (World.ownsRow_made w #[] 0 (ak _) (aX _) rfl) ⟨g,o,O⟩ (Z l) ca (l.map Value.string) rfl ?Nu ?Nt ?Ns ?Nr ?Nq ?Np ?_)
 case Nu=>simp
 case Nt=>
  intro j u b;have t:j<Z l:=by have:=(oA.1 b).1;rwa [dm] at this
  rw[Addr.add_lit];refine Lib.cell?_alloc_some _ ?_;rw[A.o j t, <- b,mr,ba t];rfl
 case Ns=>
  intro u B7;obtain⟨k,r,rfl⟩:=iQ B7;rw[mq];rfl
 case Nr=>unfold maxLen;omega
 case Nq=>omega
 case Np=>simp
 intro v' q v y P;have s:da w q:=((aw _ w).alloc (ak _) _).grown y aE (by intro k r;simp[Value.ownBlock] at r;omega);have H:=Fa s
 have B2:we (lD q w.heap.size v' l):=by
  show q.ownsRow _ _ _ _ _ _;exact v
 clear v y P s;go_wp2;go_ret;obtain⟨d,f,rfl,D,m,B9⟩:=B2.o.strs;exact⟨d,f,rfl,D,m,B9,H.o⟩
end Go.Proofs.YtkflnpjapgiajaaGreatDoor
