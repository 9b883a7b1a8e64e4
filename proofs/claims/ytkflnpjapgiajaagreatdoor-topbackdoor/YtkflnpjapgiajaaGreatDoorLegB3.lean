/- Part3: part 3. -/
import Derived.Test.YtkflnpjapgiajaaGreatDoorLegB2
set_option maxRecDepth 100000
set_option maxHeartbeats 400000000
set_option linter.unusedSimpArgs false
set_option linter.unusedVariables false
namespace Go.Proofs.YtkflnpjapgiajaaGreatDoor
open Value renaming slice→J,int→E,string→zX,pointer→zZ,bool→zd,agg→zp,tuple→zz,nilFunc→yJ
open IntKind renaming i64→yR
open Obj renaming cells→yd
open Ending renaming returned→yk
open Or renaming inl→yp,inr→xS
open Option renaming none→O,some→I
open Bool renaming true→xq,false→x3
open Go renaming World→wA,Value→wQ,undef→wd
open RowKit renaming Hid→we
open Go.Proofs.Tryz
open List renaming length→Z
open World renaming alloc→AC
open World renaming setCell→AF
open World renaming cell?→AJ
open Go.RowKit Go.Shelf
variable {l other:Kx} {ca cb g j k m n:Nat} {a:Kd} {y z:wQ} {V' w:wA}
def aaZ (w:wA) (g:Nat) (x y z t:wQ):Prop:=w.heap[g]? =I (yd #[x,y,z,t] 38 (0,0))
theorem aaZ.lt {x t:wQ} (h:aaZ w g x y z t):g<w.heap.size:=(c5.1 h).1
def PH (w V:wA) (x y z t:wQ):Prop:=bh V w.heap.size x y/\bh V (w.heap.size+1) z t/\bh V (w.heap.size+1+1) (J O 0 0) (J O 0 0)/\aaZ V (w.heap.size+1+1+1) x y z t/\da w V
theorem PH.step {V:wA} {x t:wQ} (h:PH w V x y z t) (b:da V V'):PH w V' x y z t:=⟨h.1.aa b h.1.lt,h.2.1.aa b h.2.1.lt,h.2.2.1.aa b h.2.2.1.lt,(b.block _ h.2.2.2.1.lt).trans h.2.2.2.1,h.2.2.2.2.trans (b.af h.2.2.2.2.size)⟩
theorem PH.drew {V:wA} {x t:wQ} (h:PH w V x y z t):PH w V.drew x y z t:=⟨h.1,h.2.1,h.2.2.1,h.2.2.2.1,h.2.2.2.2.drew⟩
theorem PH.new (w:wA) (x y z t:wQ):PH w ((((w.alloc (TC x y)).alloc (TC z t)).alloc (TC (J O 0 0) (J O 0 0))).alloc (yd #[x,y,z,t] 38)) x y z t:=by
 refine⟨((bh.at rfl _ _).alloc _ |>.alloc _).alloc _,((bh.at aE _ _).alloc _).alloc _,(bh.at aE _ _).alloc _,?_,((((aw _ w).alloc (ak _) _).alloc aE _).alloc (by simp;omega) _).alloc (by simp;omega) _⟩;have h:=dU (((w.alloc (TC x y)).alloc (TC z t)).alloc (TC (J O 0 0) (J O 0 0))) (yd #[x,y,z,t] 38);rw[eW,eW,eW] at h;exact h
theorem PH.row {V:wA} {x t:wQ} (h:PH w V x y z t):(AJ V ⟨w.heap.size+1+1+1,0,O⟩=I x/\V.cell? ⟨w.heap.size+1+1+1,1,O⟩=I y)/\V.cell? ⟨w.heap.size+1+1+1,2,O⟩=I z/\V.cell? ⟨w.heap.size+1+1+1,3,O⟩=I t:=by
 refine⟨⟨?_,?_⟩,?_,?_⟩<;>(rw[a8 _ _ _ _ _ (0,0) h.2.2.2.1];rfl)
theorem KO {V:wA} {B b:Nat} {t:TypeId} {x:wQ} (h:Boxed V B t yJ) (a:AJ V ⟨b,j,O⟩=I x) (n:x≠yJ):b≠B:=fun e=>by
 subst e;rw[a8 V b j _ _ (0,0) h] at a;match j with
 |0=>simp at a;exact n a.symm
 |j+1=>simp at a
theorem Yb {V:wA} {B:Nat} {t:TypeId} {c:Kd} (h:Boxed V B t yJ) (i:aC V c l) (y:wQ):aC (AF V ⟨B,0,O⟩ y) c l:=fun k b=>by
 obtain⟨g,o,rfl,d,a⟩:=i k b;have n:=KO h a aE;exact⟨g,o,rfl,aT d (kh V _ _).size,(gg _ _ _ _ (fun e=>n (eG Addr.block e).symm)).trans a⟩
theorem pP.nil {V:wA} {B:Nat} {t:TypeId} {f:wQ} {b:Kd} {Fb Fd:Kx} (h:pP V n m f a b ca cb Fb Fd other) (d:Boxed V B t yJ) (y:wQ):pP (AF V ⟨B,0,O⟩ y) n m f a b ca cb Fb Fd other:=by
 obtain⟨v,s,k,g,l,o,c,z,M,p,q,u,w⟩:=h;have r:∀(b j:Nat) (x:wQ),AJ V ⟨b,j,O⟩=I x ->x≠yJ ->AJ (AF V ⟨B,0,O⟩ y) ⟨b,j,O⟩=I x:=fun b j x i c=>(gg _ _ _ _ (fun e=>KO d i c (eG Addr.block e).symm)).trans i;exact⟨v,s,k,g,l,o,c,z,aO M (kh V _ _).size,r _ _ _ p aE,r _ _ _ q aE,r _ _ _ u aE,Yb d w y⟩
theorem PH.nil {V:wA} {x t:wQ} {B:Nat} {f:TypeId} (h:PH w V x y z t) (d:bW x) (e:bW z) (b:Boxed V B f yJ) (c:w.heap.size<=B) (u:wQ):PH w (AF V ⟨B,0,O⟩ u) x y z t:=by
 obtain⟨g,n,j,rfl⟩:=d;obtain⟨i,l,k,rfl⟩:=e;have a:=h.row.1.1;exact⟨h.1.off B 0 u (KO b h.1.c0 aE),h.2.1.off B 0 u (KO b h.2.1.c0 aE),h.2.2.1.off B 0 u (KO b h.2.2.1.c0 aE),(eO V ⟨B,0,O⟩ u _ (KO b a aE)).trans h.2.2.2.1,h.2.2.2.2.setCell (p:=⟨B,0,O⟩) c u⟩
theorem adD (S a b U:Jp) (la lb:List Fr):Z (yf S a b U la lb)=cnt S U:=by simp[yf]
theorem amy (S a b U:Jp) (la lb:List Fr) (h:k<Z (yf S a b U la lb)):(yf S a b U la lb)[k]=qF (bj (aS la (pos S (aY S U k) a))*bj (aS lb (pos S (aY S U k) b))):=by simp[yf]
theorem acC {Fb Fd U:Kx} {K:Nat} (k:kZ Fb Fd m=0) (b:K<cnt (ag Fb) (ag U)):pos (ag Fb) (aY (ag Fb) (ag U) K) (ag Fd)<m:=by
 obtain⟨h,c,a⟩:=DX k;rw[a];exact r8 _ (fun u=>rI h.pos _ _ u b) _
theorem akx (a b c T c':Kd) (ca cb cc X jT:Nat) (Fb D B9:Kx) (la lb:List Fr) (w:wA) (hs:aC w a Fb) (yu:aC w b D) (nD:aC w T B9) (Tl:dE w c la) (aM:dE w c' lb) (hn:Z Fb<=140737488355328) (bw:Z D<=140737488355328) (ID:Z B9<=140737488355328) (ay:b=O ->cb=0) (vK:T=O ->X=0) (aj:kZ Fb D (Z la)=0) (an:kZ Fb B9 (Z lb)=0) (Yq:Cw 100000 la) (aZ:Cw 100000 lb):
  c6 106 #[J a (Z Fb) ca,zp #[J b (Z D) cb,J c (Z la) cc],zp #[J T (Z B9) X,J c' (Z lb) jT]] w fun e w'=>xG w.heap.size (a7 D B9) (yf (ag Fb) (ag D) (ag B9) (ag (a7 D B9)) la lb) 0 e w'/\da w w':=by
 obtain⟨aR,oJ, -⟩:=DX aj;obtain⟨-,uz, -⟩:=DX an;obtain⟨R,ly,av⟩:∃R:Nat ->Int,R 0=kZ Fb D (Z la)/\R 1=kZ Fb B9 (Z lb):=⟨fun i=>if i=0 then kZ Fb D (Z la) else kZ Fb B9 (Z lb),rfl,rfl⟩
 have bf:we (∀i,i< 2 ->R i=0):=by
  intro i s;by_cases h:i=0
  ·subst h;rw[ly];exact aj
  ·obtain rfl:i=1:=al
   rw[av];exact an
 have tJ:=aR.eight;have lV:=oJ.length;have kT:=uz.length;have Jk:=Fa (fun V h1 h2=>aku b T cb X D B9 V h1 h2 ay vK al al);have Es:=Fa (fun K (hK:K<cnt (ag Fb) (ag (a7 D B9)))=>acC aj hK);have wk:=Fa (fun K (hK:K<cnt (ag Fb) (ag (a7 D B9)))=>acC an hK);have gF:=Fa (adD (ag Fb) (ag D) (ag B9) (ag (a7 D B9)) la lb);have AO:=Fa (fun (k:Nat) (h:k<Z (yf (ag Fb) (ag D) (ag B9) (ag (a7 D B9)) la lb))=>amy (ag Fb) (ag D) (ag B9) (ag (a7 D B9)) la lb h);have uO:=Fa (Hv oJ uz);generalize yf (ag Fb) (ag D) (ag B9) (ag (a7 D B9)) la lb=FL at *;generalize a7 D B9=U at *;have P9:=Fa (fun V d F h1 h2=>WI a d b ca F cb Fb U D V h1 h2 aR oJ);have Az:=Fa (fun V d F h1 h2=>WI a d T ca F X Fb U B9 V h1 h2 aR uz);have dP:=Fa aR;have bg:=Fa oJ;have bk:=Fa uz;have a6:=Fa Tl;have bb:=Fa aM;have bm:=Fa Yq;have bo:=Fa aZ;clear aj an aR oJ uz Tl aM Yq aZ ay vK
 have a1:∀i,i< 2 ->∃(p ab:Kd) (n m cp cq:Nat) (r:Int),(∀V,PH w V (J b (Z D) cb) (J c (Z la) cc) (J T (Z B9) X) (J c' (Z lb) jT) ->AJ V ⟨w.heap.size+1+1+1,i*2,O⟩=I (J p n cp)/\V.cell? ⟨w.heap.size+1+1+1,i*2+1,O⟩=I (J ab m cq))/\(∀V,da w V ->c6 114 #[J a (Z Fb) ca,zp #[J p n cp,J ab m cq]] V fun e w'=>e=yk (E yR r)/\da V w')/\R i=r:=by
  intro i s;by_cases h:i=0
  ·subst h;exact⟨b,c,Z D,Z la,cb,cc,_,fun V h=>h.row.1,fun V h=>Hw a b c ca cb cc (Z la) Fb D V (hs.aa h) (yu.aa h) hn bw,ly⟩
  ·obtain rfl:i=1:=al
   exact⟨T,c',Z B9,Z lb,X,jT,_,fun V h=>h.row.2,fun V h=>Hw a T c' ca X jT (Z lb) Fb B9 V (hs.aa h) (nD.aa h) hn ID,av⟩
 have Cs:=Fa a1;have B7:=Fa hs;have Cj:=Fa yu;have B1:=Fa nD;clear a1 ly av hs yu nD;have H:=PH.new w (J b (Z D) cb) (J c (Z la) cc) (J T (Z B9) X) (J c' (Z lb) jT);have c0:=H.1.c0;have c1:=H.1.c1;have c2:=H.2.1.c0;have c3:=H.2.1.c1;go_enter func106,ntmps106;go_wp2_with fail
 generalize ((((w.alloc (TC (J b (Z D) cb) (J c (Z la) cc))).alloc (TC (J T (Z B9) X) (J c' (Z lb) jT))).alloc (TC (J O 0 0) (J O 0 0))).alloc (yd #[J b (Z D) cb,J c (Z la) cc,J T (Z B9) X,J c' (Z lb) jT] 38))=W at *;have ax:=Fa H;clear c0 c1 c2 c3 H;go_loopw [18] (fun iv wr=>∃i:Nat,i<=2/\iv=E yR i/\we (∀j,j< i ->R j=0)/\we (PH w wr (J b (Z D) cb) (J c (Z la) cc) (J T (Z B9) X) (J c' (Z lb) jT))) (fun iv _=>2 - (intOf iv).toNat)
 case atStart=>exact⟨0,al,rfl,fun j hj=>absurd hj al,ax⟩
 case round=>
  obtain⟨i,s,rfl,HZ,HP⟩:=hrel;clear ax;by_cases aW:i<2
  ·obtain⟨p,ab,n,m,cp,cq,r,aJ,aE,hr⟩:=Cs.o i aW;obtain⟨d0,d1⟩:=aJ _ HP.o;have iO:=Fa aE;have HR:=Fa hr;clear aJ aE hr;have ae:da wr (wr.alloc (TC (J p n cp) (J ab m cq))):=(aw _ wr).alloc (ak _) _;have hx:=bh.at (w:=wr) rfl (J p n cp) (J ab m cq);have e0:=hx.c0;have e1:=hx.c1;go_wp2_with fail
   replace HP:=Fa (HP.o.step ae);clear d0 d1 e0 e1 ae;generalize (wr.alloc (TC (J p n cp) (J ab m cq)))=w2 at *;refine(iO.o _ HP.o.2.2.2.2).af ?_;rintro e w3 ⟨rfl,az⟩;replace HP:=Fa (HP.o.step az);clear az hx;by_cases Oe:r=0
   ·subst Oe;go_wp2;go_roundw
    case rel=>exact⟨i+1,al,bd,fun j hj=>by
      by_cases e:j=i
      ·rw[e];exact HR.o
      ·exact HZ.o j al,HP⟩
    case measure=>simp[intOf];omega
   ·have xu:=bf.o i aW;rw[HR.o] at xu;exact absurd xu Oe
  ·obtain rfl:i=2:=al
   have H:=HP.o;have c0:=H.1.c0;have c2:=H.2.1.c0;clear HP HZ Cs;go_wp2_with fail
   refine(Jk.o _ (Cj.o.aa H.2.2.2.2) (B1.o.aa H.2.2.2.2)).af ?_;rintro e w1 ⟨d,F,rfl,s,lW,ae⟩;have EE:=Fa (lW.up H.2.2.2.2.size);clear lW;replace H:=H.step ae;clear c0 c2 ae;go_upto_region 9 with fail
   replace H:=H.drew;replace s:aC w1.drew d U:=s;refine iD (S:=fun u=>AJ u ⟨w.heap.size,0,O⟩=I (J b (Z D) cb)/\u.cell? ⟨w.heap.size+1,0,O⟩=I (J T (Z B9) X)) ao ⟨H.1.c0,H.2.1.c0⟩ (fun x=>?_);generalize w1.drew=Q at *;refine au 0 (J a (Z Fb) ca) ?_;refine au 1 (J d (Z U) F) ?_;refine au 2 (zZ (I ⟨w.heap.size,0,O⟩)) ?_;refine au 3 (J b (Z D) cb) ?_;refine au 5 (J a (Z Fb) ca) ?_;refine au 6 (J d (Z U) F) ?_;refine au 7 (zZ (I ⟨w.heap.size+1,0,O⟩)) ?_;refine au 8 (J T (Z B9) X) ?_;refine aG [4,10,11] (cA ?_ (cA ?_ (cA ?_ aH)))
   focus
    intro v l;go_simp;refine(P9.o _ d F (B7.o.aa H.2.2.2.2) (Cj.o.aa H.2.2.2.2)).af ?_;rintro e u1 ⟨f,rfl,M,g⟩;obtain⟨Y,rfl⟩:=M.shape;replace H:=H.step g;replace s:=s.aa g;refine l.o _ _ ⟨H.1.c0,H.2.1.c0⟩ (fun q=>?_);clear l v x;have x:=q;clear q g;generalize Q.heap.size=na at M;generalize u1.heap.size=ma at M;refine aG [9,10,11] (cA ?_ (cA ?_ (cA ?_ aH)))
    focus
     intro v l;go_simp;refine(Az.o _ d F (B7.o.aa H.2.2.2.2) (B1.o.aa H.2.2.2.2)).af ?_;rintro e u2 ⟨f,rfl,y,g⟩;obtain⟨L,rfl⟩:=y.shape;replace H:=H.step g;replace s:=s.aa g;replace M:=M.aa g;refine l.o _ _ ⟨H.1.c0,H.2.1.c0⟩ (fun q=>?_);clear l v x;have x:=q;clear q g;generalize u1.heap.size=nb at y;generalize u2.heap.size=mb at y;refine aG [10,11] (cA ?_ (cA ?_ aH))
     focus
      intro v l;go_simp;have g:da u2 (AC u2 (yd #[yJ] 187)):=(aw _ u2).alloc (ak _) _;have z:Boxed (AC u2 (yd #[yJ] 187)) u2.heap.size 187 yJ:=bE u2 _ _;have dF:=H.2.2.2.2.size;replace H:=H.step g;replace s:=s.aa g;replace M:=M.aa g;replace y:=y.aa g;refine l.o _ _ ⟨H.1.c0,H.2.1.c0⟩ (fun q=>?_);clear l v x;have x:=q;clear q g;generalize (AC u2 (yd #[yJ] 187))=t at *;generalize u2.heap.size=B6 at *;refine aG [11] (cA ?_ aH);intro v l;go_simp;have g:da t (AC t (yd #[yJ] 187)):=(aw _ t).alloc (ak _) _;have A:Boxed (AC t (yd #[yJ] 187)) t.heap.size 187 yJ:=bE t _ _;have x8:=H.2.2.2.2.size;(have ne:B6≠t.heap.size:=by have:=z.lt;omega);replace H:=H.step g;replace s:=s.aa g;replace M:=M.aa g;replace y:=y.aa g;replace z:=bB z g;refine l.o _ _ ⟨H.1.c0,H.2.1.c0⟩ (fun q=>?_);clear l v x;have x:=q;clear q g;generalize (AC t (yd #[yJ] 187))=P at *;generalize t.heap.size=B2 at *
     rotate_left
     focus
      intro v l;go_simp;have g:da u2 (AC u2 (yd #[yJ] 187)):=(aw _ u2).alloc (ak _) _;have A:Boxed (AC u2 (yd #[yJ] 187)) u2.heap.size 187 yJ:=bE u2 _ _;have x8:=H.2.2.2.2.size;replace H:=H.step g;replace s:=s.aa g;replace M:=M.aa g;replace y:=y.aa g;refine l.o _ _ ⟨H.1.c0,H.2.1.c0⟩ (fun q=>?_);clear l v x;have x:=q;clear q g;generalize (AC u2 (yd #[yJ] 187))=t at *;generalize u2.heap.size=B2 at *;refine aG [10] (cA ?_ aH);intro v l;go_simp;have g:da t (AC t (yd #[yJ] 187)):=(aw _ t).alloc (ak _) _;have z:Boxed (AC t (yd #[yJ] 187)) t.heap.size 187 yJ:=bE t _ _;have dF:=H.2.2.2.2.size;(have ne:B2≠t.heap.size:=by have:=A.lt;omega);replace H:=H.step g;replace s:=s.aa g;replace M:=M.aa g;replace y:=y.aa g;replace A:=bB A g;refine l.o _ _ ⟨H.1.c0,H.2.1.c0⟩ (fun q=>?_);clear l v x;have x:=q;clear q g;generalize (AC t (yd #[yJ] 187))=P at *;generalize t.heap.size=B6 at *
    rotate_left 2
    focus
     intro v l;go_simp;have g:da u1 (AC u1 (yd #[yJ] 187)):=(aw _ u1).alloc (ak _) _;have z:Boxed (AC u1 (yd #[yJ] 187)) u1.heap.size 187 yJ:=bE u1 _ _;have dF:=H.2.2.2.2.size;replace H:=H.step g;replace s:=s.aa g;replace M:=M.aa g;refine l.o _ _ ⟨H.1.c0,H.2.1.c0⟩ (fun q=>?_);clear l v x;have x:=q;clear q g;generalize (AC u1 (yd #[yJ] 187))=u2 at *;generalize u1.heap.size=B6 at *;refine aG [9,11] (cA ?_ (cA ?_ aH))
     focus
      intro v l;go_simp;refine(Az.o _ d F (B7.o.aa H.2.2.2.2) (B1.o.aa H.2.2.2.2)).af ?_;rintro e t ⟨f,rfl,y,g⟩;obtain⟨L,rfl⟩:=y.shape;replace H:=H.step g;replace s:=s.aa g;replace M:=M.aa g;replace z:=bB z g;refine l.o _ _ ⟨H.1.c0,H.2.1.c0⟩ (fun q=>?_);clear l v x;have x:=q;clear q g;generalize u2.heap.size=nb at y;generalize t.heap.size=mb at y;refine aG [11] (cA ?_ aH);intro v l;go_simp;have g:da t (AC t (yd #[yJ] 187)):=(aw _ t).alloc (ak _) _;have A:Boxed (AC t (yd #[yJ] 187)) t.heap.size 187 yJ:=bE t _ _;have x8:=H.2.2.2.2.size;(have ne:B6≠t.heap.size:=by have:=z.lt;omega);replace H:=H.step g;replace s:=s.aa g;replace M:=M.aa g;replace y:=y.aa g;replace z:=bB z g;refine l.o _ _ ⟨H.1.c0,H.2.1.c0⟩ (fun q=>?_);clear l v x;have x:=q;clear q g;generalize (AC t (yd #[yJ] 187))=P at *;generalize t.heap.size=B2 at *
     rotate_left
     focus
      intro v l;go_simp;have g:da u2 (AC u2 (yd #[yJ] 187)):=(aw _ u2).alloc (ak _) _;have A:Boxed (AC u2 (yd #[yJ] 187)) u2.heap.size 187 yJ:=bE u2 _ _;have x8:=H.2.2.2.2.size;(have ne:B6≠u2.heap.size:=by have:=z.lt;omega);replace H:=H.step g;replace s:=s.aa g;replace M:=M.aa g;replace z:=bB z g;refine l.o _ _ ⟨H.1.c0,H.2.1.c0⟩ (fun q=>?_);clear l v x;have x:=q;clear q g;generalize (AC u2 (yd #[yJ] 187))=t at *;generalize u2.heap.size=B2 at *;refine aG [9] (cA ?_ aH);intro v l;go_simp;refine(Az.o _ d F (B7.o.aa H.2.2.2.2) (B1.o.aa H.2.2.2.2)).af ?_;rintro e P ⟨f,rfl,y,g⟩;obtain⟨L,rfl⟩:=y.shape;replace H:=H.step g;replace s:=s.aa g;replace M:=M.aa g;replace z:=bB z g;replace A:=bB A g;refine l.o _ _ ⟨H.1.c0,H.2.1.c0⟩ (fun q=>?_);clear l v x;have x:=q;clear q g;generalize t.heap.size=nb at y;generalize P.heap.size=mb at y
    rotate_left 2
    focus
     intro v l;go_simp;have g:da u1 (AC u1 (yd #[yJ] 187)):=(aw _ u1).alloc (ak _) _;have A:Boxed (AC u1 (yd #[yJ] 187)) u1.heap.size 187 yJ:=bE u1 _ _;have x8:=H.2.2.2.2.size;replace H:=H.step g;replace s:=s.aa g;replace M:=M.aa g;refine l.o _ _ ⟨H.1.c0,H.2.1.c0⟩ (fun q=>?_);clear l v x;have x:=q;clear q g;generalize (AC u1 (yd #[yJ] 187))=u2 at *;generalize u1.heap.size=B2 at *;refine aG [9,10] (cA ?_ (cA ?_ aH))
     focus
      intro v l;go_simp;refine(Az.o _ d F (B7.o.aa H.2.2.2.2) (B1.o.aa H.2.2.2.2)).af ?_;rintro e t ⟨f,rfl,y,g⟩;obtain⟨L,rfl⟩:=y.shape;replace H:=H.step g;replace s:=s.aa g;replace M:=M.aa g;replace A:=bB A g;refine l.o _ _ ⟨H.1.c0,H.2.1.c0⟩ (fun q=>?_);clear l v x;have x:=q;clear q g;generalize u2.heap.size=nb at y;generalize t.heap.size=mb at y;refine aG [10] (cA ?_ aH);intro v l;go_simp;have g:da t (AC t (yd #[yJ] 187)):=(aw _ t).alloc (ak _) _;have z:Boxed (AC t (yd #[yJ] 187)) t.heap.size 187 yJ:=bE t _ _;have dF:=H.2.2.2.2.size;(have ne:B2≠t.heap.size:=by have:=A.lt;omega);replace H:=H.step g;replace s:=s.aa g;replace M:=M.aa g;replace y:=y.aa g;replace A:=bB A g;refine l.o _ _ ⟨H.1.c0,H.2.1.c0⟩ (fun q=>?_);clear l v x;have x:=q;clear q g;generalize (AC t (yd #[yJ] 187))=P at *;generalize t.heap.size=B6 at *
     rotate_left
     focus
      intro v l;go_simp;have g:da u2 (AC u2 (yd #[yJ] 187)):=(aw _ u2).alloc (ak _) _;have z:Boxed (AC u2 (yd #[yJ] 187)) u2.heap.size 187 yJ:=bE u2 _ _;have dF:=H.2.2.2.2.size;(have ne:B2≠u2.heap.size:=by have:=A.lt;omega);replace H:=H.step g;replace s:=s.aa g;replace M:=M.aa g;replace A:=bB A g;refine l.o _ _ ⟨H.1.c0,H.2.1.c0⟩ (fun q=>?_);clear l v x;have x:=q;clear q g;generalize (AC u2 (yd #[yJ] 187))=t at *;generalize u2.heap.size=B6 at *;refine aG [9] (cA ?_ aH);intro v l;go_simp;refine(Az.o _ d F (B7.o.aa H.2.2.2.2) (B1.o.aa H.2.2.2.2)).af ?_;rintro e P ⟨f,rfl,y,g⟩;obtain⟨L,rfl⟩:=y.shape;replace H:=H.step g;replace s:=s.aa g;replace M:=M.aa g;replace z:=bB z g;replace A:=bB A g;refine l.o _ _ ⟨H.1.c0,H.2.1.c0⟩ (fun q=>?_);clear l v x;have x:=q;clear q g;generalize t.heap.size=nb at y;generalize P.heap.size=mb at y
   rotate_left 6
   focus
    intro v l;go_simp;have g:da Q (AC Q (yd #[yJ] 187)):=(aw _ Q).alloc (ak _) _;have z:Boxed (AC Q (yd #[yJ] 187)) Q.heap.size 187 yJ:=bE Q _ _;have dF:=H.2.2.2.2.size;replace H:=H.step g;replace s:=s.aa g;refine l.o _ _ ⟨H.1.c0,H.2.1.c0⟩ (fun q=>?_);clear l v x;have x:=q;clear q g;generalize (AC Q (yd #[yJ] 187))=u1 at *;generalize Q.heap.size=B6 at *;refine aG [4,11] (cA ?_ (cA ?_ aH))
    focus
     intro v l;go_simp;refine(P9.o _ d F (B7.o.aa H.2.2.2.2) (Cj.o.aa H.2.2.2.2)).af ?_;rintro e u2 ⟨f,rfl,M,g⟩;obtain⟨Y,rfl⟩:=M.shape;replace H:=H.step g;replace s:=s.aa g;replace z:=bB z g;refine l.o _ _ ⟨H.1.c0,H.2.1.c0⟩ (fun q=>?_);clear l v x;have x:=q;clear q g;generalize u1.heap.size=na at M;generalize u2.heap.size=ma at M;refine aG [9,11] (cA ?_ (cA ?_ aH))
     focus
      intro v l;go_simp;refine(Az.o _ d F (B7.o.aa H.2.2.2.2) (B1.o.aa H.2.2.2.2)).af ?_;rintro e t ⟨f,rfl,y,g⟩;obtain⟨L,rfl⟩:=y.shape;replace H:=H.step g;replace s:=s.aa g;replace M:=M.aa g;replace z:=bB z g;refine l.o _ _ ⟨H.1.c0,H.2.1.c0⟩ (fun q=>?_);clear l v x;have x:=q;clear q g;generalize u2.heap.size=nb at y;generalize t.heap.size=mb at y;refine aG [11] (cA ?_ aH);intro v l;go_simp;have g:da t (AC t (yd #[yJ] 187)):=(aw _ t).alloc (ak _) _;have A:Boxed (AC t (yd #[yJ] 187)) t.heap.size 187 yJ:=bE t _ _;have x8:=H.2.2.2.2.size;(have ne:B6≠t.heap.size:=by have:=z.lt;omega);replace H:=H.step g;replace s:=s.aa g;replace M:=M.aa g;replace y:=y.aa g;replace z:=bB z g;refine l.o _ _ ⟨H.1.c0,H.2.1.c0⟩ (fun q=>?_);clear l v x;have x:=q;clear q g;generalize (AC t (yd #[yJ] 187))=P at *;generalize t.heap.size=B2 at *
     rotate_left
     focus
      intro v l;go_simp;have g:da u2 (AC u2 (yd #[yJ] 187)):=(aw _ u2).alloc (ak _) _;have A:Boxed (AC u2 (yd #[yJ] 187)) u2.heap.size 187 yJ:=bE u2 _ _;have x8:=H.2.2.2.2.size;(have ne:B6≠u2.heap.size:=by have:=z.lt;omega);replace H:=H.step g;replace s:=s.aa g;replace M:=M.aa g;replace z:=bB z g;refine l.o _ _ ⟨H.1.c0,H.2.1.c0⟩ (fun q=>?_);clear l v x;have x:=q;clear q g;generalize (AC u2 (yd #[yJ] 187))=t at *;generalize u2.heap.size=B2 at *;refine aG [9] (cA ?_ aH);intro v l;go_simp;refine(Az.o _ d F (B7.o.aa H.2.2.2.2) (B1.o.aa H.2.2.2.2)).af ?_;rintro e P ⟨f,rfl,y,g⟩;obtain⟨L,rfl⟩:=y.shape;replace H:=H.step g;replace s:=s.aa g;replace M:=M.aa g;replace z:=bB z g;replace A:=bB A g;refine l.o _ _ ⟨H.1.c0,H.2.1.c0⟩ (fun q=>?_);clear l v x;have x:=q;clear q g;generalize t.heap.size=nb at y;generalize P.heap.size=mb at y
    rotate_left 2
    focus
     intro v l;go_simp;have g:da u1 (AC u1 (yd #[yJ] 187)):=(aw _ u1).alloc (ak _) _;have A:Boxed (AC u1 (yd #[yJ] 187)) u1.heap.size 187 yJ:=bE u1 _ _;have x8:=H.2.2.2.2.size;(have ne:B6≠u1.heap.size:=by have:=z.lt;omega);replace H:=H.step g;replace s:=s.aa g;replace z:=bB z g;refine l.o _ _ ⟨H.1.c0,H.2.1.c0⟩ (fun q=>?_);clear l v x;have x:=q;clear q g;generalize (AC u1 (yd #[yJ] 187))=u2 at *;generalize u1.heap.size=B2 at *;refine aG [4] (cA ?_ aH);intro v l;go_simp;refine(P9.o _ d F (B7.o.aa H.2.2.2.2) (Cj.o.aa H.2.2.2.2)).af ?_;rintro e t ⟨f,rfl,M,g⟩;obtain⟨Y,rfl⟩:=M.shape;replace H:=H.step g;replace s:=s.aa g;replace z:=bB z g;replace A:=bB A g;refine l.o _ _ ⟨H.1.c0,H.2.1.c0⟩ (fun q=>?_);clear l v x;have x:=q;clear q g;generalize u2.heap.size=na at M;generalize t.heap.size=ma at M;refine aG [9] (cA ?_ aH);intro v l;go_simp;refine(Az.o _ d F (B7.o.aa H.2.2.2.2) (B1.o.aa H.2.2.2.2)).af ?_;rintro e P ⟨f,rfl,y,g⟩;obtain⟨L,rfl⟩:=y.shape;replace H:=H.step g;replace s:=s.aa g;replace M:=M.aa g;replace z:=bB z g;replace A:=bB A g;refine l.o _ _ ⟨H.1.c0,H.2.1.c0⟩ (fun q=>?_);clear l v x;have x:=q;clear q g;generalize t.heap.size=nb at y;generalize P.heap.size=mb at y
   rotate_left 3
   focus
    intro v l;go_simp;have g:da Q (AC Q (yd #[yJ] 187)):=(aw _ Q).alloc (ak _) _;have A:Boxed (AC Q (yd #[yJ] 187)) Q.heap.size 187 yJ:=bE Q _ _;have x8:=H.2.2.2.2.size;replace H:=H.step g;replace s:=s.aa g;refine l.o _ _ ⟨H.1.c0,H.2.1.c0⟩ (fun q=>?_);clear l v x;have x:=q;clear q g;generalize (AC Q (yd #[yJ] 187))=u1 at *;generalize Q.heap.size=B2 at *;refine aG [4,10] (cA ?_ (cA ?_ aH))
    focus
     intro v l;go_simp;refine(P9.o _ d F (B7.o.aa H.2.2.2.2) (Cj.o.aa H.2.2.2.2)).af ?_;rintro e u2 ⟨f,rfl,M,g⟩;obtain⟨Y,rfl⟩:=M.shape;replace H:=H.step g;replace s:=s.aa g;replace A:=bB A g;refine l.o _ _ ⟨H.1.c0,H.2.1.c0⟩ (fun q=>?_);clear l v x;have x:=q;clear q g;generalize u1.heap.size=na at M;generalize u2.heap.size=ma at M;refine aG [9,10] (cA ?_ (cA ?_ aH))
     focus
      intro v l;go_simp;refine(Az.o _ d F (B7.o.aa H.2.2.2.2) (B1.o.aa H.2.2.2.2)).af ?_;rintro e t ⟨f,rfl,y,g⟩;obtain⟨L,rfl⟩:=y.shape;replace H:=H.step g;replace s:=s.aa g;replace M:=M.aa g;replace A:=bB A g;refine l.o _ _ ⟨H.1.c0,H.2.1.c0⟩ (fun q=>?_);clear l v x;have x:=q;clear q g;generalize u2.heap.size=nb at y;generalize t.heap.size=mb at y;refine aG [10] (cA ?_ aH);intro v l;go_simp;have g:da t (AC t (yd #[yJ] 187)):=(aw _ t).alloc (ak _) _;have z:Boxed (AC t (yd #[yJ] 187)) t.heap.size 187 yJ:=bE t _ _;have dF:=H.2.2.2.2.size;(have ne:B2≠t.heap.size:=by have:=A.lt;omega);replace H:=H.step g;replace s:=s.aa g;replace M:=M.aa g;replace y:=y.aa g;replace A:=bB A g;refine l.o _ _ ⟨H.1.c0,H.2.1.c0⟩ (fun q=>?_);clear l v x;have x:=q;clear q g;generalize (AC t (yd #[yJ] 187))=P at *;generalize t.heap.size=B6 at *
     rotate_left
     focus
      intro v l;go_simp;have g:da u2 (AC u2 (yd #[yJ] 187)):=(aw _ u2).alloc (ak _) _;have z:Boxed (AC u2 (yd #[yJ] 187)) u2.heap.size 187 yJ:=bE u2 _ _;have dF:=H.2.2.2.2.size;(have ne:B2≠u2.heap.size:=by have:=A.lt;omega);replace H:=H.step g;replace s:=s.aa g;replace M:=M.aa g;replace A:=bB A g;refine l.o _ _ ⟨H.1.c0,H.2.1.c0⟩ (fun q=>?_);clear l v x;have x:=q;clear q g;generalize (AC u2 (yd #[yJ] 187))=t at *;generalize u2.heap.size=B6 at *;refine aG [9] (cA ?_ aH);intro v l;go_simp;refine(Az.o _ d F (B7.o.aa H.2.2.2.2) (B1.o.aa H.2.2.2.2)).af ?_;rintro e P ⟨f,rfl,y,g⟩;obtain⟨L,rfl⟩:=y.shape;replace H:=H.step g;replace s:=s.aa g;replace M:=M.aa g;replace z:=bB z g;replace A:=bB A g;refine l.o _ _ ⟨H.1.c0,H.2.1.c0⟩ (fun q=>?_);clear l v x;have x:=q;clear q g;generalize t.heap.size=nb at y;generalize P.heap.size=mb at y
    rotate_left 2
    focus
     intro v l;go_simp;have g:da u1 (AC u1 (yd #[yJ] 187)):=(aw _ u1).alloc (ak _) _;have z:Boxed (AC u1 (yd #[yJ] 187)) u1.heap.size 187 yJ:=bE u1 _ _;have dF:=H.2.2.2.2.size;(have ne:B2≠u1.heap.size:=by have:=A.lt;omega);replace H:=H.step g;replace s:=s.aa g;replace A:=bB A g;refine l.o _ _ ⟨H.1.c0,H.2.1.c0⟩ (fun q=>?_);clear l v x;have x:=q;clear q g;generalize (AC u1 (yd #[yJ] 187))=u2 at *;generalize u1.heap.size=B6 at *;refine aG [4] (cA ?_ aH);intro v l;go_simp;refine(P9.o _ d F (B7.o.aa H.2.2.2.2) (Cj.o.aa H.2.2.2.2)).af ?_;rintro e t ⟨f,rfl,M,g⟩;obtain⟨Y,rfl⟩:=M.shape;replace H:=H.step g;replace s:=s.aa g;replace z:=bB z g;replace A:=bB A g;refine l.o _ _ ⟨H.1.c0,H.2.1.c0⟩ (fun q=>?_);clear l v x;have x:=q;clear q g;generalize u2.heap.size=na at M;generalize t.heap.size=ma at M;refine aG [9] (cA ?_ aH);intro v l;go_simp;refine(Az.o _ d F (B7.o.aa H.2.2.2.2) (B1.o.aa H.2.2.2.2)).af ?_;rintro e P ⟨f,rfl,y,g⟩;obtain⟨L,rfl⟩:=y.shape;replace H:=H.step g;replace s:=s.aa g;replace M:=M.aa g;replace z:=bB z g;replace A:=bB A g;refine l.o _ _ ⟨H.1.c0,H.2.1.c0⟩ (fun q=>?_);clear l v x;have x:=q;clear q g;generalize t.heap.size=nb at y;generalize P.heap.size=mb at y
   all_goals
    have bp:=z.cell;have bs:=z.frozen;refine aG [12] (cA ?_ aH);intro v l;go_simp;replace H:=H.nil (slv _ _ _) (slv _ _ _) z dF (.func (.func 215) #[] Y);replace s:=Yb z s (.func (.func 215) #[] Y);replace M:=M.nil z (.func (.func 215) #[] Y);replace y:=y.nil z (.func (.func 215) #[] Y);replace A:=i6 A B6 0 (.func (.func 215) #[] Y) al;replace z:=z.set (.func (.func 215) #[] Y);clear bp bs;generalize (AF P ⟨B6,0,O⟩ (.func (.func 215) #[] Y))=v1 at *;refine l.o _ _ ⟨H.1.c0,H.2.1.c0⟩ (fun q=>?_);clear l v x;have x:=q;clear q;have br:=A.cell;have bt:=A.frozen;refine aG [13] (cA ?_ aH);intro v l;go_simp;replace H:=H.nil (slv _ _ _) (slv _ _ _) A x8 (.func (.func 215) #[] L);replace s:=Yb A s (.func (.func 215) #[] L);replace M:=M.nil A (.func (.func 215) #[] L);replace y:=y.nil A (.func (.func 215) #[] L);replace z:=i6 z B2 0 (.func (.func 215) #[] L) al;replace A:=A.set (.func (.func 215) #[] L);clear br bt;generalize (AF v1 ⟨B2,0,O⟩ (.func (.func 215) #[] L))=v2 at *;refine l.o _ _ ⟨H.1.c0,H.2.1.c0⟩ (fun _=>eV ao ?_ _);clear l v x;go_wp2_with fail
    have vG:=Po a d ca F Fb U 163 #[zZ (I ⟨w.heap.size,0,O⟩),zZ (I ⟨B6,0,O⟩),zZ (I ⟨w.heap.size+1,0,O⟩),zZ (I ⟨B2,0,O⟩)] (enters_of func163 ao rfl) FL v2 (B7.o.aa H.2.2.2.2) s dP.o uO.o gF.o (fun k hk V g=>by
     rw[AO.o k hk];(have cF:k<cnt (ag Fb) (ag U):=by rw[<- gF.o];exact hk);have hB:=H.2.2.2.2.trans (g.af H.2.2.2.2.size);refine amz w.heap.size B6 (w.heap.size+1) B2 c c' cc jT Y L la lb k _ _ (Es.o k cF) (wk.o k cF) V (aT H.1.lt g.size) ((g.cell (p:=⟨w.heap.size,1,O⟩) H.1.lt).trans H.1.c1) (aT z.lt g.size) (bB z g).cell (aT H.2.1.lt g.size) ((g.cell (p:=⟨w.heap.size+1,1,O⟩) H.2.1.lt).trans H.2.1.c1) (aT A.lt g.size) (bB A g).cell (a6.o.aa hB) (bb.o.aa hB) bm.o bo.o ?_ ?_
     ·intro V' ad;have ai:=g.trans (ad.af g.size);exact(M.aa ai).calls (B7.o.aa (hB.trans (ad.af hB.size))) (s.aa ai) dP.o uO.o bg.o cF
     ·intro V' ad;have ai:=g.trans (ad.af g.size);exact(y.aa ai).calls (B7.o.aa (hB.trans (ad.af hB.size))) (s.aa ai) dP.o uO.o bk.o cF)
    have EC:=Fa vG;clear vG;refine EC.o.af ?_;rintro e w9 ⟨G,rfl,hG,bx,z7⟩;have IH:=H.2.2.1.lt;replace H:=H.step z7;replace s:=s.aa z7;have bu:NR w w9 w.heap.size (w.heap.size+1+1) (J b (Z D) cb) (J c (Z la) cc):=⟨H.1,H.2.2.1,H.2.2.2.2⟩;obtain⟨k0,k1,f0,f1⟩:=H.2.2.1.facts;obtain⟨e1,e2,e3⟩:=bu.fin al (cb:=F) (cc:=FL.length) EE.o al s bx al (J d (Z U) F) (J (I ⟨G,0,O⟩) (Z FL) (Z FL)) rfl rfl;go_wp2;refine cN (e1.result2 rfl _ rfl) rfl ?_;exact⟨e2,e3⟩
variable {S:Jp} {v:Nat} {f:Nat ->Nat} {h:Nat ->Rat} {p:Rat}
theorem Bl (S:Jp) {g:Nat ->Nat}:∀ {vs:Jp},(∀u∈vs,f u=g u) ->pos S f vs=pos S g vs:=by
 intro vs h
 have e:∀(vs:Jp) (k:Nat),(∀u∈vs,f u=g u) ->vs.foldl (fun k v=>k*sz S v+f v) k=vs.foldl (fun k v=>k*sz S v+g v) k:=by
  intro vs;induction vs with
  |nil=>intro k _;rfl
  |cons v vs ih=>
   intro k h;rw[uk,uk,h v dA,ih _ fun u a=>h u (dL _ a)]
 exact e vs 0 h
theorem adJ (S:Jp) (f:Nat ->Nat) (v:Nat) (vs:Jp):pos S f (v::vs)=f v*cnt S vs+pos S f vs:=by
 show vs.foldl (fun k v=>k*sz S v+f v) (0*sz S v+f v)=_;rw[T4 S f vs,oY,bK]
theorem D8 (p:Pos S) (h:∀u,f u<sz S u):∀ {vs:Jp},vs.Nodup ->∀u∈vs,aY S vs (pos S f vs) u=f u
 |[],_,u,hu=>by cases hu
 |v::vs,hn,u,hu=>by
  rw[mY] at hn;have l:=r8 f h vs;have c:=LP p vs;rw[adJ,aY];by_cases e:u=v
  ·rw[aA e,e,eN,Nat.mul_add_div c,zk l,ji]
  ·rw[aD e,eN,Nat.mul_add_mod,kM l];exact D8 p h hn.2 u ((bU.1 hu).resolve_left e)
theorem LR (g:Nat ->Fr) (h:k<n):aS ((List.range n).map g) k=g k:=by
 rw[qP (by simpa using h)];simp
def H7 (most:Bool) (p q:Rat):Rat:=if most then(if p<q then q else p) else p+q
def lp (most:Bool) (g:Nat ->Rat):Nat ->Rat
 |0=>g 0
 |k+1=>H7 most (lp most g k) (g (k+1))
theorem aib {q:Rat}:jS p q<0↔p<q:=by
 rw[jS];by_cases h:p<q
 ·rw[aA h];exact⟨fun _=>h,fun _=>a6⟩
 ·rw[aD h];by_cases e:p=q
  ·rw[aA e];exact⟨fun h=>absurd h a6,fun a=>absurd a h⟩
  ·rw[aD e];exact⟨fun h=>absurd h a6,fun a=>absurd a h⟩
theorem ahd (m:Bool) (T:Nat ->Fr):∀k,bj (nk m T k)=lp m (fun x=>bj (T x)) k
 |0=>rfl
 |k+1=>by
  rw[nk,lp, <- ahd m T k];cases m with
  |false=>simp only[H7,Bool.false_eq_true,if_false];exact j5 _
  |true=>
   simp only[H7,if_true,great];by_cases h:jS (bj (nk xq T k)) (bj (T (k+1)))<0
   ·rw[aA h,aA (aib.1 h)]
   ·rw[aD h,aD fun e=>h (aib.2 e)]
theorem Sc (m:Bool) {g:Nat ->Rat}:∀ {k:Nat},(∀x,x<=k ->g x=h x) ->lp m g k=lp m h k
 |0,e=>e 0 (ak _)
 |k+1,e=>by rw[lp,lp,Sc m fun x a=>e x al,e (k+1) (ak _)]
theorem Kc (f:Nat ->Nat) {u:Nat} (x y:Nat) (h:u≠v):aN (aN f v x) u y=aN (aN f u y) v x:=by
 funext z
 simp only[aN];by_cases e:z=u
 ·rw[aA e,aD al,aA e]
 ·rw[aD e,aD e]
theorem aea {Fd rest:Jp} (p:Pos S) (r:rest.Nodup) (b:∀u∈Fd,u=v∨u∈rest) (m:Bool) (l:List Fr) (h:∀u,f u<sz S u):
  bj (aS (sf S Fd rest v m l) (pos S f rest))=lp m (fun x=>bj (aS l (pos S (aN f v x) Fd))) (sz S v - 1):=by
 rw[sf,LR _ (r8 f h rest),j5,ahd];refine Sc m fun x _=>?_;rw[Bl S (f:=aN (aY S rest (pos S f rest)) v x) (g:=aN f v x)];intro u a;simp only[aN];by_cases e:u=v
 ·rw[aA e,aA e]
 ·rw[aD e,aD e];exact D8 p h r u ((b u a).resolve_left e)
theorem amx {v b U:Jp} (p:Pos S) (r:U.Nodup) (y:∀u∈v,u∈U) (n:∀u∈b,u∈U) (la lb:List Fr) (h:∀u,f u<sz S u):
  bj (aS (yf S v b U la lb) (pos S f U))=bj (aS la (pos S f v))*bj (aS lb (pos S f b)):=by
 rw[yf,LR _ (r8 f h U),j5,Bl S (f:=aY S U (pos S f U)) (g:=f) fun u a=>D8 p h r u (y u a),Bl S (f:=aY S U (pos S f U)) (g:=f) fun u a=>D8 p h r u (n u a)]
def Sml (s:Nat) (l:List Fr):Prop:=∀f∈l,∃q,f=qF q/\qw q<=s
theorem aav (h:∀v,sz S v<=3):∀vs:Jp,cnt S vs<=3^Z vs
 |[]=>ak _
 |v::vs=>by rw[cnt,dX,jK,eN];exact ld (aav h vs) (h v)
structure TL (Fb Fd:Kx) (l:List Fr) (s:Nat):Prop where
 up:Up Fd (Z Fb)
 len:Z l=cnt (ag Fb) (ag Fd)
 sml:Sml s l
theorem ao2 {x v:Int}:x∈bY l v↔x∈l/\x≠v:=by simp[bY]
theorem Fs {Fd:Kx} (h:Up Fd n) (u:Nat):∀x∈ag Fd,x=u∨x∈ag (bY Fd (u:Int)):=by
 intro x b;obtain⟨y,a,rfl⟩:=aQ.1 b;have c:=(dY.1 h).1 y a;by_cases e:y=(u:Int)
 ·left;omega
 ·exact xS (aQ.2 ⟨y,ao2.2 ⟨a,e⟩,rfl⟩)
theorem an1 (t a:Nat) (c:Kd) (cc:Nat) (l:List Fr) (s:Rat) (k:Nat) (M:k<Z l) (w:wA) (B2:t<w.heap.size) (B9:AJ w ⟨t,1,O⟩=I (J c (Z l) cc)) (hs:aL w a (aV s) (nu s) (de s)) (D:dE w c l) (h1:l[k].2.1.size+l[k].2.2.size<=100000) (z:(nu s).size+(de s).size<=100000):
  c6 116 #[E yR (k:Nat),zZ (I ⟨t,0,O⟩),zZ (I ⟨a,0,O⟩)] w (dj w (lB (qF (bj l[k]*s)))):=by
 obtain⟨g,o,rfl,x,j,m,n⟩:=D k M;have H:=Fa (fun V:wA=>aak (w:=V) (bj l[k]*s) rfl (kN s) rfl h1 z);rw[T2];generalize bj l[k]*s=r at *;clear D h1 z;generalize l[k]=f at *;obtain⟨fn,fx,fy⟩:=f;simp only at j m n H;obtain⟨F,B7,B6, -⟩:=hs.facts;have A:=hs.lt;clear hs;have d:aL (w.alloc (FC x3 ⟨#[]⟩ ⟨#[]⟩)) w.heap.size x3 ⟨#[]⟩ ⟨#[]⟩:=aL.new w _ _ _;have b:da w (w.alloc (FC x3 ⟨#[]⟩ ⟨#[]⟩)):=(aw _ w).alloc (ak _) _;go_enter func116,ntmps116;go_upto_region 1 with fail
 generalize (w.alloc (FC x3 ⟨#[]⟩ ⟨#[]⟩))=W at *;replace d:=d.drew;replace b:=b.drew;have L:∀u,da w u ->AJ u ⟨t,1,O⟩=I (J (I ⟨g,o,O⟩) (Z l) cc)/\u.cell? ⟨g,o+k*3,O⟩=I (zd fn)/\u.cell? ⟨g,o+k*3+1,O⟩=I (zX fx)/\u.cell? ⟨g,o+k*3+2,O⟩=I (zX fy)/\u.cell? ⟨a,0,O⟩=I (zd (aV s))/\u.cell? ⟨a,1,O⟩=I (zX (nu s))/\u.cell? ⟨a,2,O⟩=I (zX (de s)):=fun u h=>⟨(h.cell (p:=⟨t,1,O⟩) B2).trans B9,(h.cell (p:=⟨g,_,O⟩) x).trans j,(h.cell (p:=⟨g,_,O⟩) x).trans m,(h.cell (p:=⟨g,_,O⟩) x).trans n,(h.cell (p:=⟨a,0,O⟩) A).trans F,(h.cell (p:=⟨a,1,O⟩) A).trans B7,(h.cell (p:=⟨a,2,O⟩) A).trans B6⟩;have HELD:=Fa L;clear L j m n F B7 B6 B9;refine iD (S:=fun u=>AJ u ⟨t,1,O⟩=I (J (I ⟨g,o,O⟩) (Z l) cc)/\u.cell? ⟨g,o+k*3,O⟩=I (zd fn)/\u.cell? ⟨g,o+k*3+1,O⟩=I (zX fx)/\u.cell? ⟨g,o+k*3+2,O⟩=I (zX fy)/\u.cell? ⟨a,0,O⟩=I (zd (aV s))/\u.cell? ⟨a,1,O⟩=I (zX (nu s))/\u.cell? ⟨a,2,O⟩=I (zX (de s))) ao (HELD.o _ b) (fun q=>?_);generalize W.drew=u0 at *;refine au 0 (zZ (I ⟨t,1,O⟩)) ?_;refine au 1 (J (I ⟨g,o,O⟩) (Z l) cc) ?_;refine au 2 (E yR (k:Nat)) ?_;refine au 3 (zZ (I ⟨g,o+k*3,O⟩)) ?_;refine au 4 (zp #[zd fn,zX fx,zX fy]) ?_;refine au 5 (zp #[zd (aV s),zX (nu s),zX (de s)]) ?_
 refine aG [6] (cA ?_ aH);intro i K;go_simp;refine(H.o _).af ?_;rintro e u1 ⟨rfl,v⟩;replace d:=d.aa v d.lt;replace b:=b.trans (v.af b.size);refine K.o _ _ (HELD.o _ b) (fun y=>?_);clear K i q;have q:=y;clear y v;try simp only[gE,aP]
 obtain⟨X,Y,B1,R,T,U⟩:=d.facts;refine aG [7] (cA ?_ aH);intro i K;go_simp;have Q:=d.put (aV r) (nu r) (de r);have P:=eJ b (g:=w.heap.size) (ak _) (zd (aV r)) (zX (nu r)) (zX (de r));generalize (AF (AF (AF u1 ⟨w.heap.size,0,O⟩ (zd (aV r))) ⟨w.heap.size,1,O⟩ (zX (nu r))) ⟨w.heap.size,2,O⟩ (zX (de r)))=v9 at *;refine K.o _ _ (HELD.o _ P) (fun _=>eV ao ?_ _);clear K i q;go_wp2;refine cN (Q.result rfl _ rfl) rfl ?_;exact⟨rfl,P⟩
variable {cc:Nat} {w':wA}
theorem aeM (l:List Fr):Z (vo l)=Z l:=by simp[vo]
theorem an0 (l:List Fr) (h:k<Z (vo l)):(vo l)[k]=qF (bj (l[k]'(by rw[aeM] at h;exact h))*(1/b9 l)):=by simp[vo]
theorem adq {q:Rat} (h:q≠0):qw (1/q)<=qw q+1:=by
 have e:val (aV q) (nu q) (de q)≠0:=by rw[kN];exact h
 have a:=fun h=>e (M3.2 h);have b:1/q=val (aV q) (de q) (nu q):=by rw[We _ _ _ (fun h=>a (yp h)) (fun h=>a (xS h)),kN,k9,lI]
 rw[b];refine aO (Fh _ _ _) ?_;show (B q.den).size+(B q.num.natAbs).size+1<=qw q+1;rw[qw];omega
theorem akA (a b c:Kd) (ca cb cc:Nat) (Fb Fd:Kx) (l:List Fr) (w:wA) (hs:aC w a Fb) (hv:aC w b Fd) (Y:dE w c l) (hn:Z Fb<=140737488355328) (B1:Z Fd<=140737488355328) (B9:kZ Fb Fd (Z l)=0) (hw:∀k (h:k<Z l),l[k].2.1.size+l[k].2.2.size<=40000) (L:∀k,k<=Z l ->qw (b9 (l.take k))<=40000) (dK:Z l<=10000) (hz:b9 l=0):
  c6 63 #[J a (Z Fb) ca,zp #[J b (Z Fd) cb,J c (Z l) cc]] w fun e w'=>sU [] [] 3 e w'/\da w w':=by
 obtain⟨aR,aW,ad⟩:=DX B9;have hq:=L (Z l) (ak _);rw[iP] at hq;have B2:=fun V h1 h2=>Hw a b c ca cb cc (Z l) Fb Fd V h1 h2 hn B1;rw[B9] at B2;have B2:=Fa B2;have B6:=Fa (fun V h=>Ub c cc l V h hw L dK);have P:=Fa (fun V:wA=>Gh (k:=1) (w:=V) 1 1 rfl a6 (by rfl));have HS:=Fa hs;have HV:=Fa hv;have F:=Fa Y;have D:=Fa (fun V:wA=>ahz (n:=aV 1) (x:=nu 1) (y:=de 1) (w:=V) ((kN (b9 l)).trans hz));clear hs hv Y hn B1 B9 hw L ad aW aR hz;obtain⟨j,M⟩:∃d,x3=d:=⟨_,rfl⟩;obtain⟨dx,R⟩:∃d:ByteArray,⟨#[]⟩=d:=⟨_,rfl⟩;obtain⟨m,Q⟩:∃d:ByteArray,⟨#[]⟩=d:=⟨_,rfl⟩
 have T:we (∀V:wA,c6 103 #[zp #[zd (aV 1),zX (nu 1),zX (de 1)],zp #[zd (aV (b9 l)),zX (nu (b9 l)),zX (de (b9 l))]] V fun e w'=>e=yk (zz #[zp #[zd j,zX dx,zX m],E yR 3])/\da V w'):=by
  rw[<- M, <- R, <- Q];exact D
 clear D M R Q;have D:=T;clear T;obtain⟨p,B7⟩:∃d:Int,3=d:=⟨_,rfl⟩;rw[B7] at D;have OU:(p==0)=false:=by rw[<- B7];rfl
 have lW:¬p=0:=al
 have H:=NH.new w (J b (Z Fd) cb) (J c (Z l) cc);have c0:=H.1.c0;have c1:=H.1.c1;go_enter func63,ntmps63;go_wp2_with fail
 generalize ((w.alloc (TC (J b (Z Fd) cb) (J c (Z l) cc))).alloc (TC (J O 0 0) (J O 0 0)))=W at *;refine(B2.o _ (HS.o.aa H.2.2) (HV.o.aa H.2.2)).af ?_;rintro e w1 ⟨rfl,ab⟩;replace H:=H.step ab;clear c0 c1 ab B2;go_upto_region 4 with fail
 replace H:=H.drew;refine iD (S:=fun u=>AJ u ⟨w.heap.size,1,O⟩=I (J c (Z l) cc)) ao H.1.c1 (fun r=>?_);generalize w1.drew=v at *;refine au 1 (zZ (I ⟨w.heap.size,1,O⟩)) ?_;refine au 2 (J c (Z l) cc) ?_;refine aG [0,8] (cA ?_ (cA ?_ aH))
 focus
  intro g K;go_simp;refine(P.o _).af ?_;rintro e u1 ⟨rfl,f⟩;replace H:=H.step f;refine K.o _ _ H.1.c1 (fun q=>?_);clear K g r;have r:=q;clear q f;refine aG [3,8] (cA ?_ (cA ?_ aH))
  focus
   intro g K;go_simp;refine(B6.o _ (F.o.aa H.2.2)).af ?_;rintro e u2 ⟨rfl,f⟩;replace H:=H.step f;refine K.o _ _ H.1.c1 (fun q=>?_);clear K g r;have r:=q;clear q f;refine aG [4,8] (cA ?_ (cA ?_ aH))
   focus
    intro g K;go_simp;refine(D.o _).af ?_;rintro e s ⟨rfl,f⟩;replace H:=H.step f;refine K.o _ _ H.1.c1 (fun q=>?_);clear K g r;have r:=q;clear q f;refine au 5 (zz #[zp #[zd j,zX dx,zX m],E yR p]) ?_;refine au 6 (zp #[zd j,zX dx,zX m]) ?_;refine au 7 (E yR p) ?_;refine aG [8] (cA ?_ aH);intro g K;go_simp;have f:da s (s.alloc (FC x3 ⟨#[]⟩ ⟨#[]⟩)):=(aw _ s).alloc (ak _) _;have i:aL (s.alloc (FC x3 ⟨#[]⟩ ⟨#[]⟩)) s.heap.size x3 ⟨#[]⟩ ⟨#[]⟩:=aL.new s _ _ _;have z:=H.lt;replace H:=H.step f;refine K.o _ _ H.1.c1 (fun q=>?_);clear K g r;have r:=q;clear q f;generalize (s.alloc (FC x3 ⟨#[]⟩ ⟨#[]⟩))=A at *;generalize s.heap.size=t at *
   rotate_left
   focus
    intro g K;go_simp;have f:da u2 (u2.alloc (FC x3 ⟨#[]⟩ ⟨#[]⟩)):=(aw _ u2).alloc (ak _) _;have i:aL (u2.alloc (FC x3 ⟨#[]⟩ ⟨#[]⟩)) u2.heap.size x3 ⟨#[]⟩ ⟨#[]⟩:=aL.new u2 _ _ _;have z:=H.lt;replace H:=H.step f;refine K.o _ _ H.1.c1 (fun q=>?_);clear K g r;have r:=q;clear q f;generalize (u2.alloc (FC x3 ⟨#[]⟩ ⟨#[]⟩))=s at *;generalize u2.heap.size=t at *;refine aG [4] (cA ?_ aH);intro g K;go_simp;refine(D.o _).af ?_;rintro e A ⟨rfl,f⟩;replace H:=H.step f;replace i:=i.aa f i.lt;refine K.o _ _ H.1.c1 (fun q=>?_);clear K g r;have r:=q;clear q f;refine au 5 (zz #[zp #[zd j,zX dx,zX m],E yR p]) ?_;refine au 6 (zp #[zd j,zX dx,zX m]) ?_;refine au 7 (E yR p) ?_
  rotate_left 2
  focus
   intro g K;go_simp;have f:da u1 (u1.alloc (FC x3 ⟨#[]⟩ ⟨#[]⟩)):=(aw _ u1).alloc (ak _) _;have i:aL (u1.alloc (FC x3 ⟨#[]⟩ ⟨#[]⟩)) u1.heap.size x3 ⟨#[]⟩ ⟨#[]⟩:=aL.new u1 _ _ _;have z:=H.lt;replace H:=H.step f;refine K.o _ _ H.1.c1 (fun q=>?_);clear K g r;have r:=q;clear q f;generalize (u1.alloc (FC x3 ⟨#[]⟩ ⟨#[]⟩))=u2 at *;generalize u1.heap.size=t at *;refine aG [3] (cA ?_ aH);intro g K;go_simp;refine(B6.o _ (F.o.aa H.2.2)).af ?_;rintro e s ⟨rfl,f⟩;replace H:=H.step f;replace i:=i.aa f i.lt;refine K.o _ _ H.1.c1 (fun q=>?_);clear K g r;have r:=q;clear q f;refine aG [4] (cA ?_ aH);intro g K;go_simp;refine(D.o _).af ?_;rintro e A ⟨rfl,f⟩;replace H:=H.step f;replace i:=i.aa f i.lt;refine K.o _ _ H.1.c1 (fun q=>?_);clear K g r;have r:=q;clear q f;refine au 5 (zz #[zp #[zd j,zX dx,zX m],E yR p]) ?_;refine au 6 (zp #[zd j,zX dx,zX m]) ?_;refine au 7 (E yR p) ?_
 rotate_left 3
 focus
  intro g K;go_simp;have f:da v (v.alloc (FC x3 ⟨#[]⟩ ⟨#[]⟩)):=(aw _ v).alloc (ak _) _;have i:aL (v.alloc (FC x3 ⟨#[]⟩ ⟨#[]⟩)) v.heap.size x3 ⟨#[]⟩ ⟨#[]⟩:=aL.new v _ _ _;have z:=H.lt;replace H:=H.step f;refine K.o _ _ H.1.c1 (fun q=>?_);clear K g r;have r:=q;clear q f;generalize (v.alloc (FC x3 ⟨#[]⟩ ⟨#[]⟩))=u1 at *;generalize v.heap.size=t at *;refine aG [0] (cA ?_ aH);intro g K;go_simp;refine(P.o _).af ?_;rintro e u2 ⟨rfl,f⟩;replace H:=H.step f;replace i:=i.aa f i.lt;refine K.o _ _ H.1.c1 (fun q=>?_);clear K g r;have r:=q;clear q f;refine aG [3] (cA ?_ aH);intro g K;go_simp;refine(B6.o _ (F.o.aa H.2.2)).af ?_;rintro e s ⟨rfl,f⟩;replace H:=H.step f;replace i:=i.aa f i.lt;refine K.o _ _ H.1.c1 (fun q=>?_);clear K g r;have r:=q;clear q f;refine aG [4] (cA ?_ aH);intro g K;go_simp;refine(D.o _).af ?_;rintro e A ⟨rfl,f⟩;replace H:=H.step f;replace i:=i.aa f i.lt;refine K.o _ _ H.1.c1 (fun q=>?_);clear K g r;have r:=q;clear q f;refine au 5 (zz #[zp #[zd j,zX dx,zX m],E yR p]) ?_;refine au 6 (zp #[zd j,zX dx,zX m]) ?_;refine au 7 (E yR p) ?_
 all_goals
  try simp only[gE,aP]
  obtain⟨k0,k1,k2,U,X,f2⟩:=i.facts;refine aG [9] (cA ?_ aH);intro g K;go_simp;have h8:=i.put j dx m;replace H:=((H.off t 0 (zd j) z).off t 1 (zX dx) z).off t 2 (zX m) z;clear k0 k1 k2 U X f2 i;generalize (AF (AF (AF A ⟨t,0,O⟩ (zd j)) ⟨t,1,O⟩ (zX dx)) ⟨t,2,O⟩ (zX m))=v9 at *;refine K.o _ _ H.1.c1 (fun q=>?_);clear K g r;have r:=q;clear q;refine au 10 (E yR p) ?_;try simp only[gE,aP]
  refine eV ao ?_ _;obtain⟨k0,k1,U,X⟩:=H.2.1.facts;go_wp2;refine cN ((H.2.1.put _ _).result2 rfl _ rfl) rfl ?_;exact⟨by rw[<- B7];exact sU.empty 3 _,rG H.2.2 al _ _⟩
def UC (Fd:Kx) (l:List Fr) (k:Int) (e:Ending) (w':wA):Prop:=∃(b c:Kd) (cb cc:Nat),e=yk (zz #[zp #[J b (Z Fd) cb,J c (Z l) cc],E yR k])/\aC w' b Fd/\dE w' c l/\(b=O ->cb=0)
theorem UC.weak {Fd:Kx} {l:List Fr} {k:Int} {e:Ending} (h:UC Fd l k e w'):sU Fd l k e w':=by
 obtain⟨b,c,cb,cc,a,d,f,_⟩:=h;exact⟨b,c,cb,cc,a,d,f⟩
theorem bS.intsN {B:Nat} {v:wQ} (h:bS w B v l):∃d c,v=J d (Z l) c/\aC w d l/\(d=O ->c=0):=by
 rcases h.cases with ⟨rfl,rfl⟩ |⟨g,cap,rfl,_,a,_,_,b⟩
 ·exact⟨O,0,rfl,fun k i=>absurd i aE,fun _=>rfl⟩
 ·exact⟨_,_,rfl,Dp b a fun j f=>⟨by simpa using f,aE⟩,fun e=>by cases e⟩
theorem NH.finN {V:wA} {u v:wQ} {Fd:Kx} {b:Kd} (r:b=O ->cb=0) (h:NH w V u v) {l:List Fr} {G:Nat} (i:aC V b Fd) (a:gR V G l) (e:w.heap.size+1<G) (x y:wQ) (c:x=J b (Z Fd) cb) (d:y=J (I ⟨G,0,O⟩) (Z l) cc):
  bh (AF (AF V ⟨w.heap.size+1,0,O⟩ x) ⟨w.heap.size+1,1,O⟩ y) (w.heap.size+1) x y/\UC Fd l 0 (yk (zz #[zp #[x,y],E yR 0])) (AF (AF V ⟨w.heap.size+1,0,O⟩ x) ⟨w.heap.size+1,1,O⟩ y)/\da w (AF (AF V ⟨w.heap.size+1,0,O⟩ x) ⟨w.heap.size+1,1,O⟩ y):=by
 subst c d;exact⟨h.2.1.put _ _,⟨b,I ⟨G,0,O⟩,cb,cc,rfl,i.putT h.2.1 (slv _ _ _) (slv _ _ _) (slv _ _ _) _,((a.off _ 0 _ al).off _ 1 _ al).fr,r⟩,rG h.2.2 al _ _⟩
theorem akB (a b c:Kd) (ca cb cc:Nat) (Fb Fd:Kx) (l:List Fr) (w:wA) (hs:aC w a Fb) (hv:aC w b Fd) (hf:dE w c l) (hn:Z Fb<=140737488355328) (hm:Z Fd<=140737488355328) (A:kZ Fb Fd (Z l)=0) (hw:∀k (h:k<Z l),l[k].2.1.size+l[k].2.2.size<=40000) (sD:∀k,k<=Z l ->qw (b9 (l.take k))<=40000) (dK:Z l<=10000) (hz:b9 l≠0):
  c6 63 #[J a (Z Fb) ca,zp #[J b (Z Fd) cb,J c (Z l) cc]] w fun e w'=>UC Fd (vo l) 0 e w'/\da w w':=by
 obtain⟨R,T,ai⟩:=DX A;have hq:=sD (Z l) (ak _);rw[iP] at hq;have B2:=fun V Y B1=>Hw a b c ca cb cc (Z l) Fb Fd V Y B1 hn hm;rw[A] at B2;have B2:=Fa B2;have iV:=Fa (fun V h=>Ub c cc l V h hw sD dK);have HO:=Fa (fun V:wA=>Gh (k:=1) (w:=V) 1 1 rfl a6 (by rfl));have HS:=Fa hs;have HV:=Fa hv;have L:=Fa hf;have HN:=Fa (fun V Bs (k:Nat) (A:k<Z l) (Y:w.heap.size<V.heap.size) (B1:AJ V ⟨w.heap.size,1,O⟩=I (J c (Z l) cc)) (h3:aL V Bs (aV (1/b9 l)) (nu (1/b9 l)) (de (1/b9 l))) (h4:dE V c l)=>an1 w.heap.size Bs c cc l (1/b9 l) k A V Y B1 h3 h4 (aO (hw k A) a6) (by have:=adq hz;show qw (1/b9 l)<=100000;omega));have B9:=Fa (fun V:wA=>ahA (n:=aV 1) (x:=nu 1) (y:=de 1) (w:=V) (1/b9 l) (kN 1) (kN (b9 l)) hz rfl (show qw 1<=100000 by have:=Fh x3 (B 1) (B 1);exact aO (by decide+kernel) (ak 100000)) (show qw (b9 l)<=100000 by omega));have U5:we (∀(k:Nat) (h:k<Z (vo l)) (h':k<Z l),(vo l)[k]=qF (bj l[k]*(1/b9 l))):=fun k h _=>an0 l h;have an:=aeM l;clear hs hv hf hn hm A hw sD hz hq;have dP:=Fa R;have mg:=Fa T;have ax:=Fa ai;have Yt:=T.length;have tJ:=R.eight;clear ai T R;generalize vo l=NL at *;generalize 1/b9 l=r at *;obtain⟨s,B6⟩:∃d,aV r=d:=⟨_,rfl⟩;obtain⟨dx,OQ⟩:∃d:ByteArray,nu r=d:=⟨_,rfl⟩;obtain⟨t,OO⟩:∃d:ByteArray,de r=d:=⟨_,rfl⟩;rw[B6,OQ,OO] at B9 HN;clear B6 OQ OO;obtain⟨z,Q⟩:∃d:Int,0=d:=⟨_,rfl⟩;rw[Q] at B9;have OU:(z==0)=true:=by rw[<- Q];rfl
 clear Q;have H:=NH.new w (J b (Z Fd) cb) (J c (Z l) cc);have U:=H.1.c0;have c1:=H.1.c1;go_enter func63,ntmps63;go_wp2_with fail
 generalize ((w.alloc (TC (J b (Z Fd) cb) (J c (Z l) cc))).alloc (TC (J O 0 0) (J O 0 0)))=W at *;refine(B2.o _ (HS.o.aa H.2.2) (HV.o.aa H.2.2)).af ?_;rintro e w1 ⟨rfl,ad⟩;replace H:=H.step ad;clear U c1 ad B2;go_upto_region 4 with fail
 replace H:=H.drew;refine iD (S:=fun u=>AJ u ⟨w.heap.size,1,O⟩=I (J c (Z l) cc)) ao H.1.c1 (fun g=>?_);generalize w1.drew=D at *;refine au 1 (zZ (I ⟨w.heap.size,1,O⟩)) ?_;refine au 2 (J c (Z l) cc) ?_;refine aG [0,8] (cA ?_ (cA ?_ aH))
 focus
  intro i K;go_simp;refine(HO.o _).af ?_;rintro e u1 ⟨rfl,f⟩;replace H:=H.step f;refine K.o _ _ H.1.c1 (fun q=>?_);clear K i g;have g:=q;clear q f;refine aG [3,8] (cA ?_ (cA ?_ aH))
  focus
   intro i K;go_simp;refine(iV.o _ (L.o.aa H.2.2)).af ?_;rintro e u2 ⟨rfl,f⟩;replace H:=H.step f;refine K.o _ _ H.1.c1 (fun q=>?_);clear K i g;have g:=q;clear q f;refine aG [4,8] (cA ?_ (cA ?_ aH))
   focus
    intro i K;go_simp;refine(B9.o _).af ?_;rintro e v ⟨rfl,f⟩;replace H:=H.step f;refine K.o _ _ H.1.c1 (fun q=>?_);clear K i g;have g:=q;clear q f;refine au 5 (zz #[zp #[zd s,zX dx,zX t],E yR z]) ?_;refine au 6 (zp #[zd s,zX dx,zX t]) ?_;refine au 7 (E yR z) ?_;refine aG [8] (cA ?_ aH);intro i K;go_simp;have f:da v (v.alloc (FC x3 ⟨#[]⟩ ⟨#[]⟩)):=(aw _ v).alloc (ak _) _;have j:aL (v.alloc (FC x3 ⟨#[]⟩ ⟨#[]⟩)) v.heap.size x3 ⟨#[]⟩ ⟨#[]⟩:=aL.new v _ _ _;have F:=H.lt;replace H:=H.step f;refine K.o _ _ H.1.c1 (fun q=>?_);clear K i g;have g:=q;clear q f;generalize (v.alloc (FC x3 ⟨#[]⟩ ⟨#[]⟩))=P at *;generalize v.heap.size=m at *
   rotate_left
   focus
    intro i K;go_simp;have f:da u2 (u2.alloc (FC x3 ⟨#[]⟩ ⟨#[]⟩)):=(aw _ u2).alloc (ak _) _;have j:aL (u2.alloc (FC x3 ⟨#[]⟩ ⟨#[]⟩)) u2.heap.size x3 ⟨#[]⟩ ⟨#[]⟩:=aL.new u2 _ _ _;have F:=H.lt;replace H:=H.step f;refine K.o _ _ H.1.c1 (fun q=>?_);clear K i g;have g:=q;clear q f;generalize (u2.alloc (FC x3 ⟨#[]⟩ ⟨#[]⟩))=v at *;generalize u2.heap.size=m at *;refine aG [4] (cA ?_ aH);intro i K;go_simp;refine(B9.o _).af ?_;rintro e P ⟨rfl,f⟩;replace H:=H.step f;replace j:=j.aa f j.lt;refine K.o _ _ H.1.c1 (fun q=>?_);clear K i g;have g:=q;clear q f;refine au 5 (zz #[zp #[zd s,zX dx,zX t],E yR z]) ?_;refine au 6 (zp #[zd s,zX dx,zX t]) ?_;refine au 7 (E yR z) ?_
  rotate_left 2
  focus
   intro i K;go_simp;have f:da u1 (u1.alloc (FC x3 ⟨#[]⟩ ⟨#[]⟩)):=(aw _ u1).alloc (ak _) _;have j:aL (u1.alloc (FC x3 ⟨#[]⟩ ⟨#[]⟩)) u1.heap.size x3 ⟨#[]⟩ ⟨#[]⟩:=aL.new u1 _ _ _;have F:=H.lt;replace H:=H.step f;refine K.o _ _ H.1.c1 (fun q=>?_);clear K i g;have g:=q;clear q f;generalize (u1.alloc (FC x3 ⟨#[]⟩ ⟨#[]⟩))=u2 at *;generalize u1.heap.size=m at *;refine aG [3] (cA ?_ aH);intro i K;go_simp;refine(iV.o _ (L.o.aa H.2.2)).af ?_;rintro e v ⟨rfl,f⟩;replace H:=H.step f;replace j:=j.aa f j.lt;refine K.o _ _ H.1.c1 (fun q=>?_);clear K i g;have g:=q;clear q f;refine aG [4] (cA ?_ aH);intro i K;go_simp;refine(B9.o _).af ?_;rintro e P ⟨rfl,f⟩;replace H:=H.step f;replace j:=j.aa f j.lt;refine K.o _ _ H.1.c1 (fun q=>?_);clear K i g;have g:=q;clear q f;refine au 5 (zz #[zp #[zd s,zX dx,zX t],E yR z]) ?_;refine au 6 (zp #[zd s,zX dx,zX t]) ?_;refine au 7 (E yR z) ?_
 rotate_left 3
 focus
  intro i K;go_simp;have f:da D (D.alloc (FC x3 ⟨#[]⟩ ⟨#[]⟩)):=(aw _ D).alloc (ak _) _;have j:aL (D.alloc (FC x3 ⟨#[]⟩ ⟨#[]⟩)) D.heap.size x3 ⟨#[]⟩ ⟨#[]⟩:=aL.new D _ _ _;have F:=H.lt;replace H:=H.step f;refine K.o _ _ H.1.c1 (fun q=>?_);clear K i g;have g:=q;clear q f;generalize (D.alloc (FC x3 ⟨#[]⟩ ⟨#[]⟩))=u1 at *;generalize D.heap.size=m at *;refine aG [0] (cA ?_ aH);intro i K;go_simp;refine(HO.o _).af ?_;rintro e u2 ⟨rfl,f⟩;replace H:=H.step f;replace j:=j.aa f j.lt;refine K.o _ _ H.1.c1 (fun q=>?_);clear K i g;have g:=q;clear q f;refine aG [3] (cA ?_ aH);intro i K;go_simp;refine(iV.o _ (L.o.aa H.2.2)).af ?_;rintro e v ⟨rfl,f⟩;replace H:=H.step f;replace j:=j.aa f j.lt;refine K.o _ _ H.1.c1 (fun q=>?_);clear K i g;have g:=q;clear q f;refine aG [4] (cA ?_ aH);intro i K;go_simp;refine(B9.o _).af ?_;rintro e P ⟨rfl,f⟩;replace H:=H.step f;replace j:=j.aa f j.lt;refine K.o _ _ H.1.c1 (fun q=>?_);clear K i g;have g:=q;clear q f;refine au 5 (zz #[zp #[zd s,zX dx,zX t],E yR z]) ?_;refine au 6 (zp #[zd s,zX dx,zX t]) ?_;refine au 7 (E yR z) ?_
 all_goals
  try simp only[gE,aP]
  obtain⟨k0,k1,k2,f0,f1,f2⟩:=j.facts;refine aG [9] (cA ?_ aH);intro i K;go_simp;have B7:=j.put s dx t;replace H:=((H.off m 0 (zd s) F).off m 1 (zX dx) F).off m 2 (zX t) F;clear k0 k1 k2 f0 f1 f2 j;generalize (AF (AF (AF P ⟨m,0,O⟩ (zd s)) ⟨m,1,O⟩ (zX dx)) ⟨m,2,O⟩ (zX t))=v9 at *;refine K.o _ _ H.1.c1 (fun q=>?_);clear K i g;have g:=q;clear q;refine au 10 (E yR z) ?_;try simp only[gE,aP]
  refine eV ao ?_ _;have U:=H.1.c0;go_wp2_with fail
  refine(Kq b cb Fd _ (HV.o.aa H.2.2) al).af ?_;rintro e w2 ⟨x,rfl,av,ab⟩;obtain⟨d,X,rfl,M,B6⟩:=av.intsN;clear U av;replace H:=H.step ab;replace B7:=B7.aa ab B7.lt;clear ab;have aj:=H.1.lt;have vG:=Po a d ca X Fb Fd 116 #[zZ (I ⟨w.heap.size,0,O⟩),zZ (I ⟨m,0,O⟩)] (enters_of func116 ao rfl) NL w2 (HS.o.aa H.2.2) M dP.o mg.o (by rw[an];exact ax.o) (fun k A V f=>by rw[U5.o k A al];exact HN.o V m k al (aT aj f.size) ((f.cell (p:=⟨w.heap.size,1,O⟩) aj).trans H.1.c1) (B7.aa f B7.lt) (L.o.aa (H.2.2.trans (f.af H.2.2.size))));have EC:=Fa vG;clear vG;go_wp2_with fail
  refine EC.o.af ?_;rintro e w3 ⟨G,rfl,hG,ay,ae⟩;have az:=H.lt;replace H:=H.step ae;replace M:=M.aa ae;obtain⟨k0,k1,f0,f1⟩:=H.2.1.facts;obtain⟨e1,e2,e3⟩:=H.finN B6 (cb:=X) (cc:=l.length) M ay al (J d (Z Fd) X) (J (I ⟨G,0,O⟩) (Z l) (Z l)) rfl (by rw[an]);go_wp2;refine cN (e1.result2 rfl _ rfl) rfl ?_;exact⟨e2,e3⟩
theorem akC (a b c:Kd) (ca cb cc:Nat) (Fb Fd:Kx) (l:List Fr) (w:wA) (hs:aC w a Fb) (v:aC w b Fd) (f:dE w c l) (n:Z Fb<=140737488355328) (m:Z Fd<=140737488355328) (g:kZ Fb Fd (Z l)=0) (i:∀k (h:k<Z l),l[k].2.1.size+l[k].2.2.size<=40000) (s:∀k,k<=Z l ->qw (b9 (l.take k))<=40000) (K:Z l<=10000) (z:b9 l≠0):
  c6 63 #[J a (Z Fb) ca,zp #[J b (Z Fd) cb,J c (Z l) cc]] w fun e w'=>sU Fd (vo l) 0 e w'/\da w w':=
 (akB a b c ca cb cc Fb Fd l w hs v f n m g i s K z).af fun _ _ d=>⟨d.1.weak,d.2⟩
theorem bS.aa {B:Nat} {v:wQ} (h:bS w B v l) (e:da w w'):bS w' B v l:=by
 refine⟨h.1,h.2.imp id ?_⟩;rintro⟨g,cap,r,b,c,a,d⟩;exact⟨g,cap,r,b,c,(e.block g (c5.1 a).1).trans a,d⟩
theorem bS.intS {B:Nat} {d:Kd} {c:Nat} {U:Kx} (h:bS w B (J d (Z U) c) U):aC w d U:=by
 obtain⟨a,L,e,i⟩:=h.ints;cases e;exact i
def tC (c:Int) (n:Nat):Nat:=(if c<0 then(-(c+1)).toNat else c.toNat) % n
theorem KD (c:Int) (h:1<=n):tC c n<n:=jh _ h
theorem adi (c:Int) (n:Nat) (w:wA) (h1: -9223372036854775808<=c) (f:c<=9223372036854775807) (b:1<=n) (i:n<=1000):
  c6 21 #[E yR c,E yR (n:Nat)] w fun e w'=>e=yk (E yR (tC c n:Nat))/\w'=w:=by
 have H:we (tC c n=(if c<0 then(-(c+1)).toNat else c.toNat) % n):=rfl;have l:=KD c b;generalize tC c n=P at *;by_cases h:c<0
 ·rw[aA h] at H;obtain⟨d,a⟩:∃d:Nat,c= -((d:Int)+1):=⟨(-(c+1)).toNat,al⟩;subst a
  have B9:we ((d:Int) % (n:Int)=(P:Int)):=by
   show _=_;rw[H.o,show (-(-((d:Int)+1)+1)).toNat=d by omega,wK]
  have g:IntKind.i64.wrap (-((d:Int)+1)+1)= -(d:Int):=by rw[jx];omega
  have j:IntKind.i64.wrap (- -(d:Int))=(d:Int):=by rw[jx];omega
  go_enter func21,ntmps21;go_wp2;go_ret;exact⟨by rw[B9.o];rfl,rfl⟩
 ·rw[aD h] at H;obtain⟨d,rfl⟩:∃d:Nat,c=d:=⟨c.toNat,al⟩
  have B9:we ((d:Int) % (n:Int)=(P:Int)):=by
   show _=_;rw[H.o,oC,wK]
  go_enter func21,ntmps21;go_wp2;go_ret;exact⟨by rw[B9.o];rfl,rfl⟩
theorem Ku (c:Int) (n:Nat) (w:wA) (h1: -9223372036854775808<=c) (a:c<=9223372036854775807) (b:1<=n) (d:n<=1000):
  c6 21 #[E yR c,E yR (n:Nat)] w (dj w (E yR (tC c n:Nat))):=by
 refine(adi c n w h1 a b d).af ?_;rintro e w' ⟨h,rfl⟩;exact⟨h,aw _ _⟩
theorem aeR (w:wA) (u:Int):aC (AC w (yd #[E yR u] 3)) (I ⟨w.heap.size,0,O⟩) [u]:=fun k h=>by
 obtain rfl:k=0:=by simp at h;omega
 exact⟨w.heap.size,0,rfl,aE,(bE w _ _).cell⟩
def gU (L:List Kx) (v:Nat):Kx:=a7 (L.getD v []) [(v:Int)]
def gL (V:List Vr) (L:List Kx) (R:List (List Fr)) (v:Nat):List Fr:=(List.range (cnt (ah V) (ag (gU L v)))).map fun K=>qF (bj (fL V L R (aY (ah V) (ag (gU L v)) K) v))
theorem Wj (h:v<n):Up [(v:Int)] n:=dY.2 ⟨fun x a=>by have:=bD.1 a;omega,EW _ _⟩
def GK (w V:wA) (x y z:wQ):Prop:=NK w V x y z/\bh V (w.heap.size+1) (J O 0 0) (J O 0 0)
theorem GK.new (w:wA) (x y z:wQ):GK w ((w.alloc (NC x y z)).alloc (TC (J O 0 0) (J O 0 0))) x y z:=⟨(NK.new w x y z).step ((aw _ _).alloc (ak _) _),bh.at aE _ _⟩
theorem GK.step {V:wA} {x:wQ} (h:GK w V x y z) (b:da V V'):GK w V' x y z:=⟨h.1.step b,h.2.aa b h.2.lt⟩
variable {R:List (List Fr)} {L:List Kx} {vs:Jp} {V:List Vr} {i:Nat}
theorem asI {a b:Jp} (h:a.Perm b):cnt S a=cnt S b:=by
 induction h with
 |nil=>rfl
 |cons x _ ih=>simp only[cnt,ih]
 |swap x y l=>simp only[cnt];rw[CQ]
 |trans _ _ h1 h2=>exact h1.trans h2
theorem aeN (h:aU V L R=0) (d:v<Z L):¬v∈ag L[v]:=by
 rw[aU] at h;by_cases c:Z L=Z V/\R.length=Z V
 ·rw[aA c] at h;by_cases a:bq L=0
  ·rw[bq] at a;by_cases b:gB L=xq
   ·rw[gB,iI,iI,Bp,fG] at b;have:=b.2 v (bR.2 d);rw[cK,ba d] at this;simpa using this
   ·rw[aD b] at a;cases a
  ·rw[aD a] at h;exact absurd h a
 ·rw[aD c] at h;cases h
theorem acH (l:v<Z L) (k:Up L[v] n) (t:¬v∈ag L[v]):(([(v:Int)]++L[v]).mergeSort fun x y=>decide (x<=y))=gU L v:=by
 have s:L.getD v []=L[v]:=by rw[cK,ba l];rfl
 obtain⟨d,e⟩:=C2 L[v] [(v:Int)];rw[gU,s];have Q:¬(v:Int)∈L[v]:=fun h=>t (by rw[ag];exact aQ.2 ⟨_,h,oC v⟩);have p:(([(v:Int)]++L[v]).mergeSort fun x y=>decide (x<=y)).Pairwise (fun x y=>decide (x<=y)=xq):=VR (fun a b c d e=>by simp at d e⊢;omega) (fun a b=>by simp;omega) _
 have o:([(v:Int)]++L[v]).Nodup:=by
  rw[List.singleton_append,mY];exact⟨Q,(dY.1 k).2.imp fun h=>al⟩
 have m:(([(v:Int)]++L[v]).mergeSort fun x y=>decide (x<=y)).Nodup:=(QU _ _).nodup_iff.2 o;refine WS ?_ d fun x=>?_
 ·rw[zo];intro i j f g r;have q:=zo.1 p i j f g r;have u:=zo.1 m i j f g r;have w:=mS q;omega
 ·rw[List.mem_mergeSort,e,bH];exact Or.comm
theorem asJ (S:Jp) (g:v<Z L) (a:Up L[v] n) (o:¬v∈ag L[v]):cnt S (ag (gU L v))=cnt S (ag L[v])*sz S v:=by
 rw[<- acH g a o];have h:(([(v:Int)]++L[v]).mergeSort fun x y=>decide (x<=y)).Perm ([(v:Int)]++L[v]):=QU _ _;have b:=asI (S:=S) (h.map Int.toNat);rw[ag,b,gK,fR,om,List.singleton_append,cnt,oC,eN];rfl
def BC (A f:Nat ->Nat) (vs:Jp) (i:Nat):Nat ->Nat:=fun u=>if u∈vs.take i then f u else A u
theorem aoY (A f:Nat ->Nat) (vs:Jp):BC A f vs 0=A:=by funext u;simp[BC]
theorem aoZ (A f:Nat ->Nat) (n:Nat) (h:i<Z vs):(r5 n (BC A f vs i)).set vs[i] (f vs[i])=r5 n (BC A f vs (i+1)):=by
 rw[ak4];refine ak5 fun u _=>?_;rw[aN,BC,BC,ig h];by_cases e:u=vs[i]
 ·rw[aA e,aA (bH.2 (xS (bD.2 e))),e]
 ·rw[aD e];by_cases b:u∈vs.take i
  ·rw[aA b,aA (bH.2 (yp b))]
  ·rw[aD b,aD (fun a=>by rcases bH.1 a with a |a;exact b a;exact e (bD.1 a))]
theorem ao0 {A:Nat ->Nat} (h:∀u,¬u∈vs ->A u=0) (a:∀u,¬u∈vs ->f u=0):BC A f vs (Z vs)=f:=by
 funext u
 rw[BC,iP];by_cases e:u∈vs
 ·rw[aA e]
 ·rw[aD e,h u e,a u e]
def bG (g:Nat ->Rat):Nat ->Rat
 |0=>0
 |n+1=>bG g n+g n
theorem gD {g:Nat ->Rat}:∀ {n:Nat},(∀x,x< n ->g x=h x) ->bG g n=bG h n
 |0,_=>rfl
 |n+1,e=>by rw[bG,bG,gD fun x a=>e x al,e n al]
theorem Rw:∀n,bG (fun _=>0) n=0
 |0=>rfl
 |n+1=>by rw[bG,Rw n,Rat.add_zero]
theorem acq (g h:Nat ->Rat):∀n,bG (fun x=>g x+h x) n=bG g n+bG h n
 |0=>by simp[bG,Rat.add_zero]
 |n+1=>by
  rw[bG,bG,bG,acq g h n];rw[MF,MF, <- MF (bG h n),Rat.add_comm (bG h n) (g n),MF]
theorem zw (c:Rat) (g:Nat ->Rat):∀n,bG (fun x=>c*g x) n=c*bG g n
 |0=>by simp[bG,Rat.mul_zero]
 |n+1=>by rw[bG,bG,zw c g n,Rat.mul_add]
theorem Rx (g:Nat ->Nat ->Rat) (m:Nat):∀n,bG (fun x=>bG (fun y=>g x y) m) n=bG (fun y=>bG (fun x=>g x y) n) m
 |0=>by simp only[bG];rw[Rw]
 |n+1=>by
  rw[bG,Rx g m n, <- acq];rfl
theorem aco (g:Nat ->Rat) (m:Nat):∀n,bG g (m+n)=bG g m+bG (fun y=>g (m+y)) n
 |0=>by simp[bG,Rat.add_zero]
 |n+1=>by rw[<- zl,bG,aco g m n,bG,MF]
theorem acp (g:Nat ->Rat) (b:Nat):∀a,bG g (a*b)=bG (fun x=>bG (fun y=>g (x*b+y)) b) a
 |0=>by rw[oY];rfl
 |a+1=>by rw[iG,lK,aco,acp g b a,bG]
def dh (S:Jp):Jp ->((Nat ->Nat) ->Rat) ->(Nat ->Nat) ->Rat
 |[],F,f=>F f
 |v::vs,F,f=>bG (fun x=>dh S vs F (aN f v x)) (sz S v)
def over (vs:Jp) (f g:Nat ->Nat):Nat ->Nat:=fun u=>if u∈vs then g u else f u
theorem anm (f g:Nat ->Nat):over [] f g=f:=by funext u;simp[over]
theorem NF (F:(Nat ->Nat) ->Rat):∀(vs:Jp) (f:Nat ->Nat),vs.Nodup ->bG (fun k=>F (over vs f (aY S vs k))) (cnt S vs)=dh S vs F f
 |[],f,_=>by
  show 0+F (over [] f _)=F f;rw[anm,MC]
 |v::vs,f,hn=>by
  rw[mY] at hn;rw[cnt,acp,dh];refine gD fun x g=>?_;rw[<- NF F vs (aN f v x) hn.2];refine gD fun y b=>?_;congr 1
  funext u
  have c:(x*cnt S vs+y)/cnt S vs=x:=by rw[eN,Nat.mul_add_div al,zk b,ji]
  have d:(x*cnt S vs+y) % cnt S vs=y:=by rw[eN,Nat.mul_add_mod,kM b]
  simp only[over,aY,c,d,aN,bU];by_cases e:u=v
  ·subst e;rw[aA (yp rfl),aA rfl,aD hn.1,aA rfl]
  ·rw[aD e];by_cases a:u∈vs
   ·rw[aA (xS a),aA a]
   ·rw[aD (fun h=>h.elim e a),aD a,aD e]
theorem wU {F G:(Nat ->Nat) ->Rat} (h:∀g,(∀u,g u<sz S u) ->F g=G g):∀(vs:Jp) (f:Nat ->Nat),(∀u,f u<sz S u) ->dh S vs F f=dh S vs G f
 |[],f,hf=>h f hf
 |v::vs,f,hf=>by
  rw[dh,dh];refine gD fun x a=>wU h vs _ fun u=>?_;rw[aN];by_cases e:u=v
  ·rw[aA e,e];exact a
  ·rw[aD e];exact hf u
theorem KM (F:(Nat ->Nat) ->Rat) (v:Nat):∀(vs:Jp) (f:Nat ->Nat),dh S (vs++[v]) F f=dh S vs (fun g=>bG (fun x=>F (aN g v x)) (sz S v)) f
 |[],f=>rfl
 |u::vs,f=>by
  rw[gC,dh,dh];exact gD fun x _=>KM F v vs _
theorem H8 (F:(Nat ->Nat) ->Rat) {a b:Jp} (h:a.Perm b):a.Nodup ->∀f,dh S a F f=dh S b F f:=by
 induction h with
 |nil=>intro _ f;rfl
 |cons x _ ih=>
  intro n f;rw[mY] at n;rw[dh,dh];exact gD fun y _=>ih n.2 _
 |swap x y l=>
  intro n f
  have c:y≠x:=by
   rw[mY] at n;exact fun e=>n.1 (by rw[e];exact dA)
  simp only[dh];rw[Rx];refine gD fun p _=>gD fun q _=>?_;rw[Kc f q p (Ne.symm c)]
 |trans h1 _ ih1 Yd=>
  intro n f;rw[ih1 n f,Yd (h1.nodup_iff.1 n) f]
def fA (V:List Vr) (L:List Kx) (R:List (List Fr)) (f:Nat ->Nat):Jp ->Rat
 |[]=>1
 |v::vs=>bj (fL V L R f v)*fA V L R f vs
theorem KB (V:List Vr) (L:List Kx) (R:List (List Fr)) (f:Nat ->Nat) (b:Jp):∀a,fA V L R f (a++b)=fA V L R f a*fA V L R f b
 |[]=>by rw[iH,fA,lI]
 |v::a=>by rw[gC,fA,fA,KB V L R f b a,qg]
theorem RN (V:List Vr) (L:List Kx) (R:List (List Fr)) (f:Nat ->Nat):∀n,wP V L R f n=fA V L R f (List.range n)
 |0=>rfl
 |n+1=>by rw[wP,RN V L R f n,xZ,KB,fA,fA,mU]
theorem adC {a b:Jp} (h:a.Perm b):fA V L R f a=fA V L R f b:=by
 induction h with
 |nil=>rfl
 |cons x _ ih=>rw[fA,fA,ih]
 |swap x y l=>simp only[fA];rw[<- qg, <- qg,Hf (bj (fL V L R f y))]
 |trans _ _ h1 h2=>exact h1.trans h2
theorem X1 {u x:Nat} (h1:u≠v) (h:¬v∈ag (L.getD u [])):fL V L R (aN f v x) u=fL V L R f u:=by
 rw[fL,fL,tF,tF]
 have e:pos (ah V) (aN f v x) (ag (L.getD u []))=pos (ah V) f (ag (L.getD u [])):=Bl _ fun z a=>by
  rw[aN,aD];intro e;exact h (e▸a)
 rw[e,aN,aD h1]
theorem Nv {x:Nat}:∀ {o:Jp},(∀u∈o,u≠v/\¬v∈ag (L.getD u [])) ->fA V L R (aN f v x) o=fA V L R f o
 |[],_=>rfl
 |u::o,h=>by
  obtain⟨a,b⟩:=h u dA;rw[fA,fA,X1 a b,Nv fun z c=>h z (dL _ c)]
theorem ahc:∀(l:List Fr),b9 l=bG (fun x=>bj (aS l x)) (Z l):=by
 intro l
 have e:∀n,n<=Z l ->b9 (l.take n)=bG (fun x=>bj (aS l x)) n:=by
  intro n;induction n with
  |zero=>intro _;rfl
  |succ n ih=>
   intro h;rw[ig al,T1,ih al,bG,qP al];rfl
 have:=e (Z l) (ak _);rwa [iP] at this
theorem row_one (h0:aU V L R=0) (c:v<Z V) (j:∀u,f u<sz (ah V) u):bG (fun x=>bj (fL V L R (aN f v x) v)) (sz (ah V) v)=1:=by
 have F:=fK h0;have g:v<Z L:=by rw[F.len];exact c
 have t:v<Z R:=by rw[F.lenR];exact c
 have n:=aeN h0 g;have l:=F.rows v g t;have p:=r8 f j (ag L[v])
 have o:jl (fX R[v] (sz (ah V) v) (pos (ah V) f (ag L[v])))=true:=by
  have b:kD (jA (ah V) L R) (Z V)=0:=by
   rw[aU] at h0;by_cases b:Z L=Z V/\R.length=Z V
   ·rw[aA b] at h0;by_cases h:bq L=0
    ·rw[aA h] at h0;by_cases a:mA V=0
     ·rwa [aA a] at h0
     ·rw[aD a] at h0;exact absurd h0 a
    ·rw[aD h] at h0;exact absurd h0 h
   ·rw[aD b] at h0;exact absurd h0 a6
  have h:=DU b v c;rw[jA,cK,ba t,cK,ba g] at h;simp only[CP] at h;rw[aA l] at h;by_cases a:((List.range (cnt (ah V) (ag L[v]))).all fun i=>jl (fX R[v] (sz (ah V) v) i))=xq
  ·rw[fG] at a;exact a _ (bR.2 p)
  ·rw[aD a] at h;exact absurd h a6
 rw[jl,iI] at o;have hs:b9 (fX R[v] (sz (ah V) v) (pos (ah V) f (ag L[v])))=1:=mS o.2;have s:(pos (ah V) f (ag L[v])+1)*sz (ah V) v<=R[v].length:=by rw[l];exact mn _ p
 have q:(pos (ah V) f (ag L[v])+1)*sz (ah V) v=pos (ah V) f (ag L[v])*sz (ah V) v+sz (ah V) v:=by rw[iG,lK]
 have m:Z (fX R[v] (sz (ah V) v) (pos (ah V) f (ag L[v])))=sz (ah V) v:=by
  rw[fX,eZ,qi];omega
 rw[ahc,m] at hs;rw[<- hs];refine gD fun x r=>?_;rw[SD g t,tF]
 have d:pos (ah V) (aN f v x) (ag L[v])=pos (ah V) f (ag L[v]):=Bl _ fun z k=>by
  rw[aN,aD];intro e;exact n (e▸k)
 rw[d,aN,aA rfl,qP al,qP al];simp only[fX,x4,List.getElem_drop]
theorem Sh (P:List Jp):∀k,∀u∈bc P k,∀z∈P.getD u [],z∈bc P k
 |0,u,hu=>by cases hu
 |k+1,u,hu=>by
  rw[bc] at hu⊢;cases e:sk P (bc P k) with
  |none=>
   rw[e] at hu;exact Sh P k u hu
  |some v=>
   rw[e] at hu;intro z a;refine bH.2 (yp ?_);rcases bH.1 hu with h |h
   ·exact Sh P k u h z a
   ·obtain rfl:=bD.1 h;have j:iZ P (bc P k) u=true:=List.find?_some e;rw[iZ,iI] at j;exact mS j.2 z a
theorem aeI (h0:aU V L R=0):∀k,Z (bc (aI L) k)=k ->k<=Z L ->(bc (aI L) k).Nodup/\∀f,(∀u,f u<sz (ah V) u) ->dh (ah V) (bc (aI L) k) (fun g=>fA V L R g (bc (aI L) k)) f=1
 |0,_,_=>⟨JT,fun _ _=>rfl⟩
 |k+1,hl,hk=>by
  have F:=fK h0;have q:=KI (aI L) k;cases e:sk (aI L) (bc (aI L) k) with
  |none=>
   rw[bc,e] at hl;exact absurd hl (by show Z (bc (aI L) k)≠_;omega)
  |some v=>
   have i:=Sg e;rw[i] at hl⊢;rw[cD,Hl] at hl;obtain⟨o,hs⟩:=aeI h0 k al al;have j:iZ (aI L) (bc (aI L) k) v=true:=List.find?_some e;rw[iZ,iI] at j;(have Q:¬v∈bc (aI L) k:=by simpa using j.1);(have M:v<Z L:=by have:=bR.1 (abx e);rwa [kp] at this);refine⟨?_,fun f d=>?_⟩
   ·rw[oh];refine⟨o,aE,fun a l b m=>?_⟩;rw[bD.1 m];exact fun e=>Q (e▸l)
   ·rw[KM, <- hs f d];refine wU (fun g n=>?_) _ f d;rw[gD (h:=fun x=>fA V L R g (bc (aI L) k)*bj (fL V L R (aN g v x) v))]
    ·rw[zw,row_one h0 (by rw[<- F.len];exact M) n,mU]
    ·intro x _;rw[KB,fA,fA,mU,Nv];intro u c;refine⟨fun e=>Q (e▸c),fun p=>?_⟩
     exact Q (Sh (aI L) k u c v (by
      have B7:=H6 (aI L) k u c;rw[kp] at B7;rw[H5 B7];rw[cK,ba B7] at p;exact p))
theorem XJ:∀(n:Nat) (l:Jp),l.Nodup ->(∀x∈l,x<n) ->Z l<=n
 |0,l,_,h=>by
  cases l with
  |nil=>exact ak _
  |cons a l=>exact absurd (h a dA) al
 |n+1,l,hn,h=>by
  by_cases m:n∈l
  ·have g:=VU m
   have c:=XJ n (l.erase n) (hn.erase n) (fun x b=>by
    have d:=h x (List.mem_of_mem_erase b);(have f:x≠n:=fun e=>by subst e;exact hn.not_mem_erase b);omega)
   have i:=VT m;omega
  ·have c:=XJ n l hn (fun x b=>by
    have d:=h x b;have f:x≠n:=fun e=>m (e▸b);omega)
   omega
theorem adQ:∀(n:Nat) (l:Jp),l.Nodup ->(∀x∈l,x<n) ->Z l=n ->l.Perm (List.range n)
 |0,l,_,_,h=>by
  have:=Hm.1 h;subst this;exact Q5 _
 |n+1,l,hn,h,hl=>by
  have m:n∈l:=zq fun m=>by
   have:=XJ n l hn (fun x a=>by
    have c:=h x a;have d:x≠n:=fun e=>m (e▸a);omega)
   omega
  have f:=VU m
  have b:=adQ n (l.erase n) (hn.erase n) (fun x a=>by
   have c:=h x (List.mem_of_mem_erase a);(have d:x≠n:=fun e=>by subst e;exact hn.not_mem_erase a);omega) al
  rw[xZ];exact(List.perm_cons_erase m).trans ((b.cons n).trans (List.perm_append_singleton n (List.range n)).symm)
theorem Xy (h:aU V L R=0):Z (bc (aI L) (Z L))=Z L:=by
 rw[aU] at h;by_cases b:Z L=Z V/\R.length=Z V
 ·rw[aA b] at h;by_cases a:bq L=0
  ·rw[bq] at a;by_cases c:gB L=xq
   ·rw[aA c] at a;by_cases d:Z (bc (aI L) (Z L))<Z L
    ·rw[aA d] at a;cases a
    ·have:=KI (aI L) (Z L);omega
   ·rw[aD c] at a;cases a
  ·rw[aD a] at h;exact absurd h a
 ·rw[aD b] at h;cases h
theorem Sb (k:Nat):over vs (fun _=>0) (aY S vs k)=aY S vs k:=by
 funext u
 rw[over];by_cases e:u∈vs
 ·rw[aA e]
 ·rw[aD e,LW e]
theorem aeb (g:Nat ->Rat):∀m,lp x3 g m=bG g (m+1)
 |0=>by show g 0=0+g 0;rw[MC]
 |m+1=>by
  rw[lp,aeb g m];rfl
theorem apr {g:Nat ->Nat} (h:∀u,u=v∨u∈ag (L.getD v []) ->f u=g u):fL V L R f v=fL V L R g v:=by
 rw[fL,fL,tF,tF,Bl (ah V) (f:=f) (g:=g) fun u a=>h u (xS a),h v (yp rfl)]
def xL (A:Nat ->Prop) (G:(Nat ->Nat) ->Rat):Prop:=∀v,¬A v ->∀g x,G (aN g v x)=G g
def qd (L:List Kx) (A:Nat ->Prop):Prop:=∀v,A v ->∀u∈ag (L.getD v []),A u
theorem apn {A:Nat ->Prop} (c:qd L A) (a:A v):xL A (fun g=>bj (fL V L R g v)):=fun u h g x=>by
 show bj (fL V L R (aN g u x) v)=bj (fL V L R g v);have b:v≠u:=fun e=>h (by rw[<- e];exact a);rw[X1 b (fun m=>h (c v a u m))]
theorem Wd (f:Nat ->Nat) (v x y:Nat):aN (aN f v x) v y=aN f v y:=by
 funext u
 simp only[aN];by_cases e:u=v
 ·rw[aA e,aA e]
 ·rw[aD e,aD e,aD e]
theorem xL.sum {A:Nat ->Prop} {G:(Nat ->Nat) ->Rat} (a:xL A G) (v n:Nat):xL A (fun g=>bG (fun x=>G (aN g v x)) n):=fun u b g y=>by
 refine gD fun x _=>?_;by_cases e:u=v
 ·subst e;rw[Wd]
 ·rw[Kc g y x (fun h=>e h.symm)];exact a u b _ _
theorem xL.mul {A:Nat ->Prop} {G H:(Nat ->Nat) ->Rat} (a:xL A G) (b:xL A H):xL A (fun g=>G g*H g):=fun u h g x=>by
 show G (aN g u x)*H (aN g u x)=G g*H g;rw[a u h,b u h]
theorem aaO (h0:aU V L R=0) {b:Nat ->Bool} (A:qd L fun v=>b v=xq):∀k,Z (bc (aI L) k)=k ->k<=Z L ->∀(G:(Nat ->Nat) ->Rat),xL (fun v=>b v=xq) G ->∀f,(∀u,f u<sz (ah V) u) ->
  dh (ah V) (bc (aI L) k) (fun g=>G g*fA V L R g (bc (aI L) k)) f=dh (ah V) ((bc (aI L) k).filter b) (fun g=>G g*fA V L R g ((bc (aI L) k).filter b)) f
 |0,_,_,_,_,_,_=>rfl
 |k+1,hl,hk,G,hG,f,hf=>by
  have d:=fK h0;have o:=KI (aI L) k;cases e:sk (aI L) (bc (aI L) k) with
  |none=>
   rw[bc,e] at hl;exact absurd hl (by show Z (bc (aI L) k)≠_;omega)
  |some v=>
   have l:=Sg e;rw[l] at hl⊢;rw[cD,Hl] at hl;have j:iZ (aI L) (bc (aI L) k) v=true:=List.find?_some e;rw[iZ,iI] at j;(have Q:¬v∈bc (aI L) k:=by simpa using j.1);(have M:v<Z L:=by have:=bR.1 (abx e);rwa [kp] at this)
   have n:∀u∈bc (aI L) k,u≠v/\¬v∈ag (L.getD u []):=fun u a=>by
    refine⟨fun e=>Q (e▸a),fun p=>?_⟩
    exact Q (Sh (aI L) k u a v (by
     have B7:=H6 (aI L) k u a;rw[kp] at B7;rw[H5 B7];rw[cK,ba B7] at p;exact p))
   rw[KM,x5];by_cases c:b v=xq
   ·have i:=aaO h0 A k al al (fun g=>bG (fun x=>G (aN g v x)*bj (fL V L R (aN g v x) v)) (sz (ah V) v)) ((hG.mul (apn A c)).sum v _) f hf;rw[show ([v].filter b)=[v] by simp[c],KM];rw[wU (F:=fun g=>bG (fun x=>G (aN g v x)*fA V L R (aN g v x) (bc (aI L) k++[v])) (sz (ah V) v)) (G:=fun g=>bG (fun x=>G (aN g v x)*bj (fL V L R (aN g v x) v)) (sz (ah V) v)*fA V L R g (bc (aI L) k)) ?_ _ f hf,i]
    ·refine wU ?_ _ f hf;intro g _;rw[Hf, <- zw];refine gD fun x _=>?_;rw[KB,fA,fA,mU,Nv fun u a=>n u (cU.1 a).1];grind
    ·intro g _;rw[Hf, <- zw];refine gD fun x _=>?_;rw[KB,fA,fA,mU,Nv n];grind
   ·have i:=aaO h0 A k al al G hG f hf;rw[show ([v].filter b)=[] by simp[c],lh, <- i];refine wU ?_ _ f hf;intro g m;rw[gD (h:=fun x=>(G g*fA V L R g (bc (aI L) k))*bj (fL V L R (aN g v x) v))]
    ·rw[zw,row_one h0 (by rw[<- d.len];exact M) m,mU]
    ·intro x _;rw[KB,fA,fA,mU,Nv n,hG v c];grind
def Fit (S:Jp) (f:Nat ->Nat):Prop:=∀u,f u<sz S u
theorem Fit.with (h:Fit S f) {x:Nat} (a:x<sz S v):Fit S (aN f v x):=fun u=>by
 rw[aN];by_cases e:u=v
 ·rw[aA e,e];exact a
 ·rw[aD e];exact h u
def tQ (S:Jp) (t:Jp×List Fr) (f:Nat ->Nat):Rat:=bj (aS t.2 (pos S f t.1))
theorem akw {t:Jp×List Fr} {x:Nat} (h:¬v∈t.1):tQ S t (aN f v x)=tQ S t f:=by
 rw[tQ,tQ,Bl S (f:=aN f v x) (g:=f)];intro u a;rw[aN,aD];intro e;exact h (e▸a)
theorem akv {a b U:Jp} (p:Pos S) (r:U.Nodup) (y:∀u∈a,u∈U) (n:∀u∈b,u∈U) (la lb:List Fr) (h:Fit S f):tQ S (U,yf S a b U la lb) f=tQ S (a,la) f*tQ S (b,lb) f:=amx p r y n la lb h
theorem Ww {Fd rest:Jp} (p:Pos S) (r:rest.Nodup) (b:∀u∈Fd,u=v∨u∈rest) (l:List Fr) (a:Fit S f):tQ S (rest,sf S Fd rest v x3 l) f=bG (fun x=>tQ S (Fd,l) (aN f v x)) (sz S v):=by
 have h:=aea p r b x3 l a;rw[aeb,show sz S v - 1+1=sz S v by have:=jM p v;omega] at h;exact h
theorem acf {Fd rest:Jp} (p:Pos S) (r:rest.Nodup) (a:∀u∈Fd,u=v∨u∈rest) (l:List Fr) (h:Fit S f):tQ S (rest,sf S Fd rest v xq l) f=lp xq (fun x=>tQ S (Fd,l) (aN f v x)) (sz S v - 1):=aea p r a xq l h
theorem Rp {Fd rest:Jp} (p:Pos S) (r:rest.Nodup) {x:Nat} (b:∀u∈Fd,u=v∨u∈rest) (l:List Fr) (h:Fit S f):tQ S (rest,yN S Fd rest v x l) f=tQ S (Fd,l) (aN f v x):=by
 rw[tQ,tQ,yN,LR _ (r8 f h rest),j5];rw[Bl S (f:=aN (aY S rest (pos S f rest)) v x) (g:=aN f v x)];intro u a;simp only[aN];by_cases e:u=v
 ·rw[aA e,aA e]
 ·rw[aD e,aD e];exact D8 p h r u ((b u a).resolve_left e)
theorem Wx (h0:aU V L R=0) (d:v<Z V) (c:Fit (ah V) f):tQ (ah V) (ag (gU L v),gL V L R v) f=bj (fL V L R f v):=by
 have b:=fK h0;have g:v<Z L:=by rw[b.len];exact d
 have i:Pos (ah V):=by have:=b.fine.pos;rwa [jL] at this
 have s:L.getD v []=L[v]:=by rw[cK,ba g];rfl
 have e:Up (gU L v) (Z V):=by rw[gU,s];exact Hv (b.up v g) (Wj d)
 have m:∀u,u=v∨u∈ag (L.getD v []) ->u∈ag (gU L v):=fun u h=>by
  obtain⟨_,a⟩:=C2 (L.getD v []) [(v:Int)];rcases h with rfl |h
  ·exact aQ.2 ⟨(u:Int),(a _).2 (xS (bD.2 rfl)),oC u⟩
  ·obtain⟨z,j,rfl⟩:=aQ.1 h;exact aQ.2 ⟨z,(a _).2 (yp j),rfl⟩
 rw[tQ,gL,LR _ (r8 f c _),j5];congr 1
 exact apr fun u h=>D8 i c e.nodup u (m u h)
def pQ (S:Jp) (f:Nat ->Nat):List (Jp×List Fr) ->Rat
 |[]=>1
 |t::P=>tQ S t f*pQ S f P
theorem Xl (S:Jp) (f:Nat ->Nat) (Q:List (Jp×List Fr)):∀P,pQ S f (P++Q)=pQ S f P*pQ S f Q
 |[]=>by rw[iH,pQ,lI]
 |t::P=>by rw[gC,pQ,pQ,Xl S f Q P,qg]
theorem Xk {x:Nat}:∀ {P:List (Jp×List Fr)},(∀t∈P,¬v∈t.1) ->pQ S (aN f v x) P=pQ S f P
 |[],_=>rfl
 |t::P,h=>by rw[pQ,pQ,akw (h t dA),Xk fun s hs=>h s (dL _ hs)]
theorem Xj (S:Jp) (f:Nat ->Nat) (p:Jp×List Fr ->Bool):∀P:List (Jp×List Fr),pQ S f P=pQ S f (P.filter fun t=>!p t)*pQ S f (P.filter p)
 |[]=>by simp[pQ]
 |t::P=>by
  rw[pQ,Xj S f p P];cases h:p t
  ·rw[A1 (by simp[h]),A2 (by simp[h]),pQ,qg]
  ·rw[A2 (by simp[h]),A1 h,pQ, <- qg, <- qg,Hf (tQ S t f)]
theorem ang {P:List (Jp×List Fr)} {q r:Jp×List Fr} (a:∀g,Fit S g ->tQ S q g=pQ S g (P.filter fun t=>decide (v∈t.1))) (b:∀g,Fit S g ->tQ S r g=bG (fun x=>tQ S q (aN g v x)) (sz S v)) (h:Fit S f):
  pQ S f ((P.filter fun t=>!decide (v∈t.1))++[r])=bG (fun x=>pQ S (aN f v x) P) (sz S v):=by
 rw[Xl,pQ,pQ,mU,b f h, <- zw];refine gD fun x d=>?_;have n:=Xk (S:=S) (f:=f) (v:=v) (x:=x) (P:=P.filter fun t=>!decide (v∈t.1)) (fun t c=>by simpa using (cU.1 c).2);rw[Xj S (aN f v x) (fun t=>decide (v∈t.1)) P,a _ (h.with d),n]
variable {ws:Jp}
def LD (S:Jp):Jp ->((Nat ->Nat) ->Rat) ->(Nat ->Nat) ->Rat
 |[],F=>F
 |v::vs,F=>LD S vs fun f=>bG (fun x=>F (aN f v x)) (sz S v)
theorem ahE (S:Jp):∀(vs:Jp) (F:(Nat ->Nat) ->Rat) (f:Nat ->Nat),LD S vs F f=dh S vs.reverse F f
 |[],F,f=>rfl
 |v::vs,F,f=>by rw[LD,ahE S vs,List.reverse_cons,KM]
theorem ar0 (h:vs.Perm ws) (n:vs.Nodup) (F:(Nat ->Nat) ->Rat) (f:Nat ->Nat):LD S vs F f=dh S ws F f:=by
 rw[ahE];exact H8 F ((List.reverse_perm vs).trans h) ((List.reverse_perm vs).nodup_iff.2 n) f
def kP (v x:Nat) (g:Nat ->Nat):Rat:=if g v=x then 1 else 0
theorem aeJ {x y:Nat} (F:(Nat ->Nat) ->Rat):∀(vs:Jp) (f:Nat ->Nat),¬v∈vs ->f v=y ->dh S vs (fun g=>kP v x g*F g) f=(if y=x then 1 else 0)*dh S vs F f
 |[],f,_,hf=>by
  show kP v x f*F f=_;rw[kP,hf];rfl
 |u::vs,f,hv,hf=>by
  rw[dh,dh, <- zw];refine gD fun z _=>?_;refine aeJ F vs _ (fun h=>hv (dL _ h)) ?_;rw[aN,aD (fun e=>hv (by rw[e];exact dA)),hf]
theorem XF {x:Nat} (F:(Nat ->Nat) ->Rat):∀(vs:Jp) (f:Nat ->Nat),¬v∈vs ->dh S vs F (aN f v x)=dh S vs (fun g=>F (aN g v x)) f
 |[],f,_=>rfl
 |u::vs,f,hv=>by
  rw[dh,dh];refine gD fun z _=>?_;have n:v≠u:=fun e=>hv (by rw[e];exact dA);rw[Kc f x z (fun e=>n e.symm),XF F vs _ fun h=>hv (dL _ h)]
theorem Kl {g:Nat ->Rat} {x:Nat}:∀ {n:Nat},x< n ->bG (fun y=>(if y=x then 1 else 0)*g y) n=g x
 |0,h=>al
 |n+1,h=>by
  rw[bG];rcases dR x n with a |a
  ·rw[Kl a,aD al,uh,Rat.add_zero]
  ·obtain rfl:x=n:=al
   rw[aA rfl,lI,gD (h:=fun _=>0) fun y b=>by rw[aD al,uh],Rw,MC]
theorem aeL {x:Nat} (F:(Nat ->Nat) ->Rat) (h:vs.Perm (v::ws)) (n:vs.Nodup) (a:x<sz S v) (f:Nat ->Nat):dh S vs (fun g=>kP v x g*F g) f=dh S ws (fun g=>F (aN g v x)) f:=by
 have i:=h.nodup_iff.1 n;rw[mY] at i;rw[H8 _ h n f,dh, <- XF F ws f i.1];rw[gD (h:=fun y=>(if y=x then 1 else 0)*dh S ws F (aN f v y)) fun y _=>aeJ F ws _ i.1 (by rw[aN,aA rfl])];exact Kl a
def bV:List (Nat×Nat) ->(Nat ->Nat) ->Rat
 |[],_=>1
 |p::l,g=>kP p.1 p.2 g*bV l g
def ed:List (Nat×Nat) ->(Nat ->Nat) ->Nat ->Nat
 |[],g=>g
 |p::l,g=>ed l (aN g p.1 p.2)
theorem Uv {x:Nat}:∀ {l:List (Nat×Nat)},(∀p∈l,p.1≠v) ->∀g,bV l (aN g v x)=bV l g
 |[],_,_=>rfl
 |p::l,h,g=>by
  rw[bV,bV,Uv (fun q a=>h q (dL _ a)),kP,kP,aN,aD (h p dA)]
theorem RL {x:Nat}:∀ {l:List (Nat×Nat)},(∀p∈l,p.1≠v) ->∀g,ed l (aN g v x)=aN (ed l g) v x
 |[],_,_=>rfl
 |p::l,h,g=>by
  rw[ed,ed,Kc g x p.2 (h p dA),RL fun q a=>h q (dL _ a)]
theorem Sl:∀(l:List (Nat×Nat)) (F:(Nat ->Nat) ->Rat) {vs ws:Jp},vs.Perm (l.map (·.1)++ws) ->vs.Nodup ->(∀p∈l,p.2<sz S p.1) ->∀f,dh S vs (fun g=>bV l g*F g) f=dh S ws (fun g=>F (ed l g)) f
 |[],F,vs,ws,h,hn,_,f=>by
  rw[H8 _ h hn f];show dh S ws (fun g=>1*F g) f=_;simp only[lI,ed]
 |p::l,F,vs,ws,h,hn,hx,f=>by
  have i:=h.nodup_iff.1 hn;rw[fR,gC] at i h;rw[mY] at i;have n:∀q∈l,q.1≠p.1:=fun q a e=>i.1 (bH.2 (yp (by rw[<- e];exact aQ.2 ⟨q,a,rfl⟩)))
  have b:(fun g=>bV (p::l) g*F g)=fun g=>kP p.1 p.2 g*(bV l g*F g):=by
   funext g
   rw[bV,qg]
  rw[b,aeL (fun g=>bV l g*F g) h hn (hx p dA) f]
  have c:(fun g=>bV l (aN g p.1 p.2)*F (aN g p.1 p.2))=fun g=>bV l g*F (aN g p.1 p.2):=by
   funext g
   rw[Uv n]
  rw[c,Sl l (fun g=>F (aN g p.1 p.2)) (Q5 _) i.2 (fun q a=>hx q (dL _ a)) f];congr 1
  funext g
  rw[show ed (p::l) g=ed l (aN g p.1 p.2) from rfl];congr 1
  exact(RL n g).symm
variable {As:Jp}
theorem aaJ {A:Nat ->Prop}:∀ {l:List (Nat×Nat)},(∀p∈l,A p.1) ->xL A (bV l)
 |[],_=>fun _ _ _ _=>rfl
 |p::l,h=>fun v b g x=>by
  have n:∀q∈p::l,q.1≠v:=fun q a e=>b (e▸h q a);exact Uv n g
theorem atH (h0:aU V L R=0) (n:As.Nodup) (t:∀v∈As,v<Z V) (i:qd L (·∈As)) {G:(Nat ->Nat) ->Rat} (d:xL (·∈As) G):
  bG (fun k=>G (aY (ah V) (List.range (Z V)) k)*wP V L R (aY (ah V) (List.range (Z V)) k) (Z V)) (cnt (ah V) (List.range (Z V)))=dh (ah V) As (fun g=>G g*fA V L R g As) (fun _=>0):=by
 have F:=fK h0;have c:Pos (ah V):=by have:=F.fine.pos;rwa [jL] at this
 obtain⟨P,_⟩:=aeI h0 (Z L) (Xy h0) (ak _)
 have p:(bc (aI L) (Z L)).Perm (List.range (Z V)):=by
  rw[<- F.len];refine adQ (Z L) _ P (fun x l=>?_) (Xy h0);have:=H6 (aI L) (Z L) x l;rwa [kp] at this
 have z:Fit (ah V) (fun _:Nat=>0):=fun u=>jM c u;have e:=NF (S:=ah V) (fun g=>G g*wP V L R g (Z V)) (List.range (Z V)) (fun _=>0) rh;rw[gD (h:=fun k=>G (aY (ah V) (List.range (Z V)) k)*wP V L R (aY (ah V) (List.range (Z V)) k) (Z V)) fun k _=>by rw[Sb]] at e
 have f:((bc (aI L) (Z L)).filter fun v=>decide (v∈As)).Perm As:=by
  refine(EU (P.filter _) n).2 fun v=>?_;rw[cU,eM];refine⟨fun h=>h.2,fun h=>⟨p.mem_iff.2 (bR.2 (t v h)),h⟩⟩
 rw[e, <- H8 _ p P,wU (G:=fun g=>G g*fA V L R g (bc (aI L) (Z L))) (fun g _=>by rw[RN,adC p]) _ _ z,aaO (b:=fun v=>decide (v∈As)) h0 (fun v a u j=>cJ (i v (mS a) u j)) (Z L) (Xy h0) (ak _) G (fun v a g x=>d v (fun h=>a (cJ h)) g x) _ z,H8 _ f (P.filter _)];refine wU (fun g _=>?_) _ _ z;rw[adC f]
theorem amA (h0:aU V L R=0) {l:List (Nat×Nat)} (n:As.Nodup) (t:∀v∈As,v<Z V) (c:qd L (·∈As)) (h:As.Perm (l.map (·.1)++ws)) (x:∀p∈l,p.2<sz (ah V) p.1):
  bG (fun k=>bV l (aY (ah V) (List.range (Z V)) k)*wP V L R (aY (ah V) (List.range (Z V)) k) (Z V)) (cnt (ah V) (List.range (Z V)))=dh (ah V) ws (fun g=>fA V L R (ed l g) As) (fun _=>0):=by
 rw[atH h0 n t c (aaJ fun p a=>h.mem_iff.2 (bH.2 (yp (aQ.2 ⟨p,a,rfl⟩))))];exact Sl l (fun g=>fA V L R g As) h n x _
def ue (vs:Jp) (F:(Nat ->Nat) ->Rat):Prop:=∀v∈vs,∀g x,F (aN g v x)=F g
theorem ue.mul {F G:(Nat ->Nat) ->Rat} (a:ue vs F) (b:ue vs G):ue vs (fun g=>F g*G g):=fun v h g x=>by
 show F (aN g v x)*G (aN g v x)=F g*G g;rw[a v h,b v h]
theorem aeH {F G:(Nat ->Nat) ->Rat}:∀(vs:Jp) (f:Nat ->Nat),ue vs F ->dh S vs (fun g=>F g*G g) f=F f*dh S vs G f
 |[],_,_=>rfl
 |v::vs,f,hF=>by
  rw[dh,dh, <- zw];refine gD fun x _=>?_;rw[aeH vs _ fun u h=>hF u (dL _ h),hF v dA]
theorem aeK {F:(Nat ->Nat) ->Rat} {x:Nat} (h:∀g x,F (aN g v x)=F g):∀(vs:Jp) (f:Nat ->Nat),dh S vs F (aN f v x)=dh S vs F f
 |[],f=>h f x
 |u::vs,f=>by
  rw[dh,dh];refine gD fun y _=>?_;by_cases e:u=v
  ·subst e;rw[Wd]
  ·rw[Kc f x y e,aeK h vs]
theorem aeF {F G:(Nat ->Nat) ->Rat} (c:Jp):∀(b:Jp) (f:Nat ->Nat),ue c F ->ue b G ->dh S (b++c) (fun g=>F g*G g) f=dh S b F f*dh S c G f
 |[],f,hF,_=>aeH c f hF
 |v::b,f,hF,hG=>by
  rw[gC,dh,dh,Hf, <- zw];refine gD fun x _=>?_;rw[aeF c b _ hF fun u h=>hG u (dL _ h),aeK (fun g y=>hG v dA g y) c f,Hf]
theorem aaK (a b:List (Nat×Nat)) (g:Nat ->Nat):bV (a++b) g=bV a g*bV b g:=by
 induction a with
 |nil=>show bV b g=1*bV b g;rw[lI]
 |cons p a ih=>rw[gC,bV,bV,ih,qg]
theorem aiD {l:List (Nat×Nat)} (h:∀p∈l,¬p.1∈vs):ue vs (bV l):=fun _ v g _=>Uv (fun p a e=>h p a (e▸v)) g
theorem adu {l:List (Nat×Nat)} {x:Nat} (h:∀p∈l,p.1≠v) (g:Nat ->Nat):ed l (aN g v x)=aN (ed l g) v x:=RL h g
theorem ue.put {F:(Nat ->Nat) ->Rat} (b:ue vs F) {l:List (Nat×Nat)} (h:∀p∈l,¬p.1∈vs):ue vs (fun g=>F (ed l g)):=fun v a g x=>by
 show F (ed l (aN g v x))=F (ed l g);rw[adu (fun p c e=>h p c (e▸a)),b v a]
variable {T X Y B1:Nat ->Prop}
def eQ (L:List Kx) (T:Nat ->Prop) (v:Nat):Prop:=∀M:Nat ->Prop,(∀v,T v ->M v) ->(∀v w,M w ->v∈ag (L.getD w []) ->M v) ->M v
theorem eQ.base (h:T v):eQ L T v:=fun _ a _=>a _ h
theorem eQ.step {w:Nat} (h:eQ L T w) (p:v∈ag (L.getD w [])):eQ L T v:=fun M b a=>a _ _ (h M b a) p
theorem eQ.ind {M:∀v,eQ L T v ->Prop} (base:∀ {v:Nat} (h:T v),M v (.base h)) (step:∀ {v w:Nat} (h:eQ L T w) (p:v∈ag (L.getD w [])),M w h ->M v (h.step p)):∀ {v:Nat} (h:eQ L T v),M v h:=fun {_} h=>by
 obtain⟨_,k⟩:=h (fun v=>∃h,M v h) (fun _ h=>⟨_,base h⟩) (fun _ _ ⟨_,i⟩ p=>⟨_,step _ p i⟩);exact k
structure Hb (L:List Kx) (n:Nat) (X Y B1:Nat ->Prop) (r:Nat ->Bool ->Prop):Prop where
 start:∀x,X x ->r x xq
 up:∀v,r v xq ->¬B1 v ->∀p∈ag (L.getD v []),r p xq
 down:∀v c,r v c ->¬B1 v ->∀w,w< n ->v∈ag (L.getD w []) ->r w x3
 meet:∀v,r v x3 ->eQ L B1 v ->∀p∈ag (L.getD v []),r p xq
 none:∀y c,Y y ->¬r y c
theorem eQ.lt (b:∀v,T v ->v<n) (a:∀w,w< n ->∀v∈ag (L.getD w []),v<n) (h:eQ L T v):v<n:=by
 induction h using eQ.ind with
 |base h1=>exact b _ h1
 |step _ h2 ih=>exact a _ ih _ h2
theorem Hb.above {r:Nat ->Bool ->Prop} (h:Hb L n X Y B1 r) (a:eQ L X v) (z:¬eQ L B1 v):r v true:=by
 induction a using eQ.ind with
 |base h1=>exact h.start _ h1
 |step h1 h2 ih=>
  have w:¬eQ L B1 _:=fun m=>z (.step m h2);exact h.up _ (ih w) (fun m=>w (.base m)) _ h2
theorem Hb.aa {r:Nat ->Bool ->Prop} (h:Hb L n X Y B1 r) (d:∀y,Y y ->y<n) (b:∀w,w< n ->∀v∈ag (L.getD w []),v<n) (e:eQ L Y v):∀c,r v c ->¬eQ L B1 v ->False:=by
 induction e using eQ.ind with
 |base h1=>exact fun c a _=>h.none _ c h1 a
 |step h1 h2 ih=>
  intro c a z;have f:¬eQ L B1 _:=fun m=>z (.step m h2);exact ih x3 (h.down _ c a (fun m=>z (.base m)) _ (h1.lt d b) h2) f
theorem Hb.parents {r:Nat ->Bool ->Prop} (h:Hb L n X Y B1 r) (e:∀y,Y y ->y<n) (d:∀w,w< n ->∀v∈ag (L.getD w []),v<n) (f:eQ L (fun u=>X u∨Y u∨B1 u) v) {c:Bool} (b:r v c) (z:¬B1 v):∀p∈ag (L.getD v []),r p true:=by
 cases c with
 |true=>exact h.up v b z
 |false=>
  by_cases m:eQ L B1 v
  ·exact h.meet v b m
  ·have k:eQ L X v∨eQ L Y v:=by
    have l:∀ {u:Nat},eQ L (fun u=>X u∨Y u∨B1 u) u ->eQ L X u∨eQ L Y u∨eQ L B1 u:=by
     intro u g;induction g using eQ.ind with
     |base a=>
      rcases a with a |a |a
      ·exact yp (.base a)
      ·exact xS (yp (.base a))
      ·exact xS (xS (.base a))
     |step _ h2 i=>
      rcases i with i |i |i
      ·exact yp (.step i h2)
      ·exact xS (yp (.step i h2))
      ·exact xS (xS (.step i h2))
    rcases l f with a |a |a
    ·exact yp a
    ·exact xS a
    ·exact absurd a m
   rcases k with x |j
   ·exact h.up v (h.above x m) z
   ·exact(h.aa e d j x3 b m).elim
def jH (L:List Kx) (n:Nat) (X B1:Nat ->Prop) (v:Nat) (c:Bool):Prop:=∀M:Nat ->Bool ->Prop,(∀x,X x ->M x xq) ->(∀v p,M v xq ->¬B1 v ->p∈ag (L.getD v []) ->M p xq) ->(∀v w c,M v c ->¬B1 v ->w< n ->v∈ag (L.getD w []) ->M w x3) ->(∀v p,M v x3 ->eQ L B1 v ->p∈ag (L.getD v []) ->M p xq) ->M v c
theorem jH.start {x:Nat} (h:X x):jH L n X B1 x true:=fun _ a _ _ _=>a _ h
theorem jH.up {p:Nat} (h:jH L n X B1 v xq) (z:¬B1 v) (e:p∈ag (L.getD v [])):jH L n X B1 p true:=fun M b a c d=>a _ _ (h M b a c d) z e
theorem jH.down {w:Nat} {c:Bool} (h:jH L n X B1 v c) (z:¬B1 v) (f:w<n) (p:v∈ag (L.getD w [])):jH L n X B1 w false:=fun M b d a e=>a _ _ _ (h M b d a e) z f p
theorem jH.meet {p:Nat} (h:jH L n X B1 v x3) (e:eQ L B1 v) (f:p∈ag (L.getD v [])):jH L n X B1 p true:=fun M b c d a=>a _ _ (h M b c d a) e f
theorem jH.ind {M:∀v c,jH L n X B1 v c ->Prop} (start:∀ {x:Nat} (h:X x),M x xq (.start h)) (up:∀ {v p:Nat} (h:jH L n X B1 v xq) (z:¬B1 v) (a:p∈ag (L.getD v [])),M v xq h ->M p xq (h.up z a)) (down:∀ {v w:Nat} {c:Bool} (h:jH L n X B1 v c) (z:¬B1 v) (d:w<n) (a:v∈ag (L.getD w [])),M v c h ->M w x3 (h.down z d a)) (meet:∀ {v p:Nat} (h:jH L n X B1 v x3) (b:eQ L B1 v) (a:p∈ag (L.getD v [])),M v x3 h ->M p xq (h.meet b a)):∀ {v:Nat} {c:Bool} (h:jH L n X B1 v c),M v c h:=fun {_ _} h=>by
 obtain⟨_,k⟩:=h (fun v c=>∃h,M v c h) (fun _ h=>⟨_,start h⟩) (fun _ _ ⟨_,i⟩ z a=>⟨_,up _ z a i⟩) (fun _ _ _ ⟨_,i⟩ z d a=>⟨_,down _ z d a i⟩) (fun _ _ ⟨_,i⟩ b a=>⟨_,meet _ b a i⟩);exact k
def Ce (L:List Kx) (n:Nat) (X Y B1:Nat ->Prop):Prop:=∃y c,Y y/\jH L n X B1 y c
theorem jH.ball (h:¬Ce L n X Y B1):Hb L n X Y B1 (jH L n X B1):=
 ⟨fun _ x=>.start x,fun _ r z _ p=>.up r z p,fun _ _ r z _ w p=>.down r z w p,fun _ r m _ p=>.meet r m p,fun y c a r=>h ⟨y,c,a,r⟩⟩
theorem jH.lt (b:∀v,X v ->v<n) (a:∀w,w< n ->∀v∈ag (L.getD w []),v<n) {c:Bool} (h:jH L n X B1 v c):v<n:=by
 induction h using jH.ind with
 |start hx=>exact b _ hx
 |up _ _ hp ih=>exact a _ ih _ hp
 |down _ _ hw _ _=>exact hw
 |meet _ _ hp ih=>exact a _ ih _ hp
theorem jH.back (d:∀v,X v ->v<n) (b:∀w,w< n ->∀v∈ag (L.getD w []),v<n) {c:Bool} (h:jH L n X B1 v c):
  ∀s,jH L n Y B1 v s ->(c=xq ->¬B1 v) ->(c=x3 ->(s=xq/\¬B1 v)∨(s=x3/\eQ L B1 v)) ->Ce L n Y X B1:=by
 induction h using jH.ind with
 |start hx=>exact fun s hs _ _=>⟨_,s,hx,hs⟩
 |up hr hz hp ih=>
  intro s hs a _;exact ih x3 (.down hs (a rfl) (hr.lt d b) hp) (fun _=>hz) (fun e=>by cases e)
 | @down v w c hr hz hw hp ih=>
  intro s hs _ g
  have f:jH L n Y B1 v true:=by
   rcases g rfl with ⟨rfl,z⟩ |⟨rfl,m⟩
   ·exact .up hs z hp
   ·exact .meet hs m hp
  exact ih xq f (fun _=>hz) (fun _=>yp ⟨rfl,hz⟩)
 |meet hr m hp ih=>
  intro s hs a _;exact ih x3 (.down hs (a rfl) (hr.lt d b) hp) (fun e=>by cases e) (fun _=>xS ⟨rfl,m⟩)
theorem Ce.sym (d:∀v,X v ->v<n) (b:∀w,w< n ->∀v∈ag (L.getD w []),v<n) (K:∀v,Y v ->¬B1 v) (h:Ce L n X Y B1):Ce L n Y X B1:=by
 obtain⟨y,c,a,r⟩:=h;exact r.back d b xq (.start a) (fun _=>K y a) (fun _=>yp ⟨rfl,K y a⟩)
theorem aeq (p q:Rat):p<=H7 xq p q/\q<=H7 xq p q:=by
 simp only[H7,if_true];by_cases h:p<q
 ·rw[aA h];exact⟨Rat.le_of_lt h,Hg⟩
 ·rw[aD h];exact⟨Hg,Rat.not_lt.1 h⟩
theorem Xo (g:Nat ->Rat):∀ {k x:Nat},x<=k ->g x<=lp xq g k
 |0,x,h=>by rw[Nat.le_zero.1 h];exact Hg
 |k+1,x,h=>by
  rw[lp];rcases dR k x with a |a
  ·rw[show x=k+1 from by omega];exact(aeq _ _).2
  ·exact ME (Xo g a) (aeq _ _).1
theorem NB (g:Nat ->Rat):∀k,∃x,x<=k/\lp xq g k=g x
 |0=>⟨0,ak _,rfl⟩
 |k+1=>by
  obtain⟨x,a,e⟩:=NB g k;rw[lp];simp only[H7,if_true];by_cases h:lp xq g k<g (k+1)
  ·rw[aA h];exact⟨k+1,ak _,rfl⟩
  ·rw[aD h];exact⟨x,al,e⟩
theorem anp {A:Rat} (a:0<=A) (g:Nat ->Rat) (k:Nat):lp xq (fun x=>A*g x) k=A*lp xq g k:=by
 refine Rat.le_antisymm ?_ ?_
 ·obtain⟨x,h,e⟩:=NB (fun x=>A*g x) k;rw[e];exact Rat.mul_le_mul_of_nonneg_left (Xo g h) a
 ·obtain⟨x,h,e⟩:=NB g k;rw[e];exact Xo (fun x=>A*g x) h
theorem abU (f:Nat ->Nat) (v:Nat):aN f v (f v)=f:=by
 funext u;rw[aN];by_cases h:u=v
 ·rw[aA h,h]
 ·rw[aD h]
theorem MW (f:Nat ->Nat) (v x:Nat):aN f v x v=x:=by rw[aN,aA rfl]
theorem Kb (f:Nat ->Nat) {u:Nat} (x:Nat) (h:u≠v):aN f v x u=f u:=by rw[aN,aD h]
def elimM (S:Jp):Jp ->((Nat ->Nat) ->Rat) ->(Nat ->Nat) ->Rat
 |[],F=>F
 |v::vs,F=>elimM S vs fun f=>lp xq (fun x=>F (aN f v x)) (sz S v - 1)
theorem anh {P:List (Jp×List Fr)} {q r:Jp×List Fr} (p:Pos S) (c:∀g,Fit S g ->tQ S q g=pQ S g (P.filter fun t=>decide (v∈t.1))) (d:∀g,Fit S g ->tQ S r g=lp xq (fun x=>tQ S q (aN g v x)) (sz S v - 1)) (n:∀g,Fit S g ->∀t∈P,0<=tQ S t g) (a:Fit S f):
  pQ S f ((P.filter fun t=>!decide (v∈t.1))++[r])=lp xq (fun x=>pQ S (aN f v x) P) (sz S v - 1):=by
 have i:=jM p v
 have z:∀Q:List (Jp×List Fr),(∀t∈Q,t∈P) ->0<=pQ S f Q:=fun Q=>by
  induction Q with
  |nil=>intro _;rw[pQ];decide
  |cons t Q ih=>intro h;rw[pQ];exact MD (n f a t (h t dA)) (ih fun s hs=>h s (dL _ hs))
 rw[Xl,pQ,pQ,mU,d f a, <- anp (z _ fun t b=>(cU.1 b).1)];refine Sc xq fun x e=>?_;have M:=Xk (S:=S) (f:=f) (v:=v) (x:=x) (P:=P.filter fun t=>!decide (v∈t.1)) (fun t b=>by simpa using (cU.1 b).2);rw[Xj S (aN f v x) (fun t=>decide (v∈t.1)) P,c _ (a.with al),M]
theorem anq {g:Nat ->Rat} (h:∀x,x<=k ->0<=g x):0<=lp xq g k:=by
 obtain⟨x,a,e⟩:=NB g k;rw[e];exact h x a
theorem RT (p:Pos S):∀ {vs:Jp} {k:Nat},vs.Nodup ->k<cnt S vs ->pos S (aY S vs k) vs=k
 |[],k,_,h=>by
  have:k<1:=h;rw[show k=0 from by omega];rfl
 |u::vs,k,hn,h=>by
  rw[mY] at hn;have c:0<cnt S vs:=VL (aX _) (r8 (S:=S) (fun _=>0) (fun u=>jM p u) vs)
  have e:pos S (aY S (u::vs) k) vs=pos S (aY S vs (k % cnt S vs)) vs:=Bl S fun v a=>by
   rw[aY,aD];exact fun e=>hn.1 (e▸a)
  rw[adJ,e,RT p hn.2 (jh _ c),aY,aA rfl,eN];exact QR _ _
theorem SC (h0:aU V L R=0) (c:v<Z V) (d:Fit (ah V) f):0<=bj (fL V L R f v):=by
 have F:=fK h0;have g:v<Z L:=by rw[F.len];exact c
 have t:v<Z R:=by rw[F.lenR];exact c
 have e:=F.rows v g t;have p:=r8 f d (ag L[v])
 have o:jl (fX R[v] (sz (ah V) v) (pos (ah V) f (ag L[v])))=true:=by
  have b:kD (jA (ah V) L R) (Z V)=0:=by
   rw[aU] at h0;by_cases b:Z L=Z V/\R.length=Z V
   ·rw[aA b] at h0;by_cases h:bq L=0
    ·rw[aA h] at h0;by_cases a:mA V=0
     ·rwa [aA a] at h0
     ·rw[aD a] at h0;exact absurd h0 a
    ·rw[aD h] at h0;exact absurd h0 h
   ·rw[aD b] at h0;exact absurd h0 a6
  have h:=DU b v c;rw[jA,cK,ba t,cK,ba g] at h;simp only[CP] at h;rw[aA e] at h;by_cases a:((List.range (cnt (ah V) (ag L[v]))).all fun i=>jl (fX R[v] (sz (ah V) v) i))=xq
  ·rw[fG] at a;exact a _ (bR.2 p)
  ·rw[aD a] at h;exact absurd h a6
 rw[jl,iI,fG] at o;have u:(pos (ah V) f (ag L[v])+1)*sz (ah V) v<=R[v].length:=by rw[e];exact mn _ p
 have j:(pos (ah V) f (ag L[v])+1)*sz (ah V) v=pos (ah V) f (ag L[v])*sz (ah V) v+sz (ah V) v:=by rw[iG,lK]
 have k:Z (fX R[v] (sz (ah V) v) (pos (ah V) f (ag L[v])))=sz (ah V) v:=by
  rw[fX,eZ,qi];omega
 have B7:=d v;have m:=o.1 _ (bQ (l:=fX R[v] (sz (ah V) v) (pos (ah V) f (ag L[v]))) (n:=f v) al);rw[SD g t,tF,qP al];have:=Rat.not_lt.1 (mS m);simpa only[fX,x4,List.getElem_drop] using this
theorem aq7 (h0:aU V L R=0) (a:v<Z V) (h:Fit (ah V) f):0<=tQ (ah V) (ag (gU L v),gL V L R v) f:=by
 rw[Wx h0 a h];exact SC h0 a h
def Lm (l:List (Nat×Nat)) (g:Nat ->Nat):Bool:=l.all fun p=>g p.1==p.2
theorem Zu:∀(l:List (Nat×Nat)) (g:Nat ->Nat),bV l g=if Lm l g then 1 else 0
 |[],_=>rfl
 |p::l,g=>by
  rw[bV,Zu l g,kP,Lm,Lm,List.all_cons];by_cases h:g p.1=p.2
  ·rw[aA h,lI,xX.2 h,Hp]
  ·rw[aD h,uh,Hd.2 h,Bool.false_and];rfl
theorem Xb {u:Nat}:∀ {l:List (Nat×Nat)},¬u∈l.map (·.1) ->∀g,ed l g u=g u
 |[],_,_=>rfl
 |p::l,h,g=>by
  rw[fR,bU,not_or] at h;rw[ed,Xb h.2,Kb g _ h.1]
theorem adv {p:Nat×Nat}:∀ {l:List (Nat×Nat)},(l.map (·.1)).Nodup ->p∈l ->∀g,ed l g p.1=p.2
 |q::l,hn,h,g=>by
  rw[fR,mY] at hn;rcases bU.1 h with rfl |h
  ·rw[ed,Xb hn.1,MW]
  ·exact adv hn.2 h _
abbrev Tb:=Kx×List Fr
def tN (t:Tb):Jp×List Fr:=(ag t.1,t.2)
structure dC (S:Jp) (n:Nat) (t:Tb):Prop where
 up:Up t.1 n
 len:t.2.length=cnt S (ag t.1)
def vr (S:Jp) (a t:Tb):Tb:=(a7 a.1 t.1,yf S (ag a.1) (ag t.1) (ag (a7 a.1 t.1)) a.2 t.2)
def Fk:Tb:=([],[qF 1])
def allT (S:Jp) (P:List Tb):Tb:=P.foldl (vr S) Fk
def outT (S:Jp) (v:Nat) (most:Bool) (t:Tb):Tb:=(bY t.1 v,sf S (ag t.1) (ag (bY t.1 (v:Int))) v most t.2)
def eB (S:Jp) (v x:Nat) (t:Tb):Tb:=(bY t.1 v,yN S (ag t.1) (ag (bY t.1 (v:Int))) v x t.2)
theorem Kj {a b:Kx}:∀u,u∈ag (a7 a b)↔u∈ag a∨u∈ag b:=fun u=>by
 obtain⟨_,h⟩:=C2 a b;simp only[ag,aQ];constructor
 ·rintro⟨x,c,e⟩;rcases (h x).1 c with h |h
  ·exact yp ⟨x,h,e⟩
  ·exact xS ⟨x,h,e⟩
 ·rintro(⟨x,c,e⟩ |⟨x,c,e⟩)
  ·exact⟨x,(h x).2 (yp c),e⟩
  ·exact⟨x,(h x).2 (xS c),e⟩
theorem De {a:Kx} (h:Up a n):∀u,u∈ag (bY a (v:Int))↔u∈ag a/\u≠v:=fun u=>by
 constructor
 ·intro b;refine⟨?_,fun e=>SG h (e▸b)⟩;obtain⟨x,c,e⟩:=aQ.1 b;exact aQ.2 ⟨x,(cU.1 c).1,e⟩
 ·rintro⟨b,d⟩;rcases Fs h v u b with rfl |h
  ·exact absurd rfl d
  ·exact h
theorem dC.mul {a t:Tb} (h:dC S n a) (b:dC S n t):dC S n (vr S a t):=⟨Hv h.up b.up,adD ..⟩
theorem dC.one (S:Jp) (n:Nat):dC S n Fk:=⟨dY.2 ⟨fun _ h=>absurd h gw,List.Pairwise.nil⟩,rfl⟩
theorem dC.o {t:Tb} (h:dC S n t) (v:Nat) (m:Bool):dC S n (outT S v m t):=⟨ru h.up _,Xs ..⟩
theorem dC.fix {t:Tb} (h:dC S n t) (v x:Nat):dC S n (eB S v x t):=⟨ru h.up _,aho ..⟩
theorem aeZ {a t:Tb} (p:Pos S) (b:dC S n a) (d:dC S n t) (c:Fit S f):tQ S (tN (vr S a t)) f=tQ S (tN a) f*tQ S (tN t) f:=
 akv p (Hv b.up d.up).nodup (fun u h=>(Kj u).2 (yp h)) (fun u h=>(Kj u).2 (xS h)) _ _ c
theorem ahj (p:Pos S):∀ {P:List Tb} {a:Tb},dC S n a ->(∀t∈P,dC S n t) ->dC S n (P.foldl (vr S) a)/\(∀u,u∈ag (P.foldl (vr S) a).1↔u∈ag a.1∨∃t∈P,u∈ag t.1)/\∀f,Fit S f ->tQ S (tN (P.foldl (vr S) a)) f=tQ S (tN a) f*pQ S f (P.map tN)
 |[],a,ha,_=>⟨ha,fun u=>⟨yp,fun h=>h.elim id fun ⟨_,b,_⟩=>absurd b gw⟩,fun f _=>by rw[om,pQ,mU];rfl⟩
 |t::P,a,ha,h=>by
  have b:=h t dA;obtain⟨e,g,i⟩:=ahj p (ha.mul b) (fun s hs=>h s (dL _ hs)) (P:=P);refine⟨e,fun u=>?_,fun f c=>?_⟩
  ·rw[uk,g u];show u∈ag (a7 a.1 t.1)∨_↔_;rw[Kj,or_assoc];refine or_congr Iff.rfl ⟨?_,?_⟩
   ·rintro(h |⟨s,hs,h⟩)
    ·exact⟨t,dA,h⟩
    ·exact⟨s,dL _ hs,h⟩
   ·rintro⟨s,hs,d⟩;rcases bU.1 hs with rfl |hs
    ·exact yp d
    ·exact xS ⟨s,hs,d⟩
  ·rw[uk,i f c,aeZ p ha b c,fR,pQ,qg]
theorem Ca (p:Pos S) {P:List Tb} (h:∀t∈P,dC S n t):dC S n (allT S P)/\(∀u,u∈ag (allT S P).1↔∃t∈P,u∈ag t.1)/\∀f,Fit S f ->tQ S (tN (allT S P)) f=pQ S f (P.map tN):=by
 obtain⟨a,b,c⟩:=ahj p (dC.one S n) h;refine⟨a,fun u=>(b u).trans ⟨fun h=>h.elim (fun h=>absurd h gw) id,xS⟩,fun f d=>?_⟩;rw[allT,c f d];have:tQ S (tN Fk) f=1:=j5 1;rw[this,lI]
def nj (S:Jp) (v:Nat) (most:Bool) (P:List Tb):List Tb:=(P.filter fun t=>!decide (v∈ag t.1))++[outT S v most (allT S (P.filter fun t=>decide (v∈ag t.1)))]
structure PI (S:Jp) (n:Nat) (free:Jp) (P:List Tb) (F:(Nat ->Nat) ->Rat):Prop where
 ok:∀t∈P,dC S n t
 sub:∀t∈P,∀u∈ag t.1,u∈free
 sup:∀u∈free,∃t∈P,u∈ag t.1
 val:∀g,Fit S g ->pQ S g (P.map tN)=F g
def NN (S:Jp) (P:List Tb):Prop:=∀t∈P,∀g,Fit S g ->0<=tQ S (tN t) g
theorem ad0 {g:Nat ->Nat} (a:Fit S g):∀ {P:List Tb},NN S P ->0<=pQ S g (P.map tN)
 |[],_=>by rw[om,pQ];decide
 |t::P,h=>by rw[fR,pQ];exact MD (h t dA g a) (ad0 a fun s hs=>h s (dL _ hs))
theorem PI.parts {f:Jp} {P:List Tb} {F:(Nat ->Nat) ->Rat} (p:Pos S) (h:PI S n f P F) (v:Nat) (m:Bool):
  (∀t∈nj S v m P,dC S n t)/\(∀t∈nj S v m P,∀u∈ag t.1,u∈f.filter fun u=>!(u==v))/\∀u∈f.filter (fun u=>!(u==v)),∃t∈nj S v m P,u∈ag t.1:=by
 obtain⟨g,i,_⟩:=Ca p (P:=P.filter fun t=>decide (v∈ag t.1)) (n:=n) fun t a=>h.ok t (cU.1 a).1;have j:∀u,u∈f.filter (fun u=>!(u==v))↔u∈f/\u≠v:=fun u=>by simp[cU]
 have r:=De (v:=v) g.up;refine⟨fun t a=>?_,fun t a u b=>?_,fun u b=>?_⟩
 ·rcases bH.1 a with a |a
  ·exact h.ok t (cU.1 a).1
  ·rw[bD.1 a];exact g.o v m
 ·rw[j];rcases bH.1 a with a |a
  ·obtain⟨a,c⟩:=cU.1 a;exact⟨h.sub t a u b,fun e=>by simp[<- e,b] at c⟩
  ·rw[bD.1 a] at b;obtain⟨b,d⟩:=(r u).1 b;obtain⟨s,hs,b⟩:=(i u).1 b;exact⟨h.sub s (cU.1 hs).1 u b,d⟩
 ·obtain⟨b,d⟩:=(j u).1 b;obtain⟨t,a,q⟩:=h.sup u b;by_cases c:v∈ag t.1
  ·exact⟨_,bH.2 (xS (bD.2 rfl)),(r u).2 ⟨(i u).2 ⟨t,cU.2 ⟨a,cJ c⟩,q⟩,d⟩⟩
  ·exact⟨t,bH.2 (yp (cU.2 ⟨a,by simp[c]⟩)),q⟩
theorem PI.o {j:Jp} {P:List Tb} {F:(Nat ->Nat) ->Rat} (p:Pos S) (h:PI S n j P F) (v:Nat):
  PI S n (j.filter fun u=>!(u==v)) (nj S v x3 P) (fun g=>bG (fun x=>F (aN g v x)) (sz S v)):=by
 obtain⟨a,b,c⟩:=h.parts p v x3;obtain⟨e,z,o⟩:=Ca p (P:=P.filter fun t=>decide (v∈ag t.1)) (n:=n) fun t s=>h.ok t (cU.1 s).1;refine⟨a,b,c,fun g i=>?_⟩;have l:(P.map tN).filter (fun t=>!decide (v∈t.1))=(P.filter fun t=>!decide (v∈ag t.1)).map tN:=by rw[Q3];rfl
 have m:(P.map tN).filter (fun t=>decide (v∈t.1))=(P.filter fun t=>decide (v∈ag t.1)).map tN:=by rw[Q3];rfl
 have y:=ang (S:=S) (f:=g) (v:=v) (P:=P.map tN) (q:=tN (allT S (P.filter fun t=>decide (v∈ag t.1)))) (r:=tN (outT S v x3 (allT S (P.filter fun t=>decide (v∈ag t.1))))) (fun k d=>by rw[m];exact o k d) (fun k d=>Ww p (ru e.up _).nodup (Fs e.up v) _ d) i;rw[l] at y;rw[nj,gK,List.map_singleton,y];exact gD fun x w=>h.val _ (i.with w)
theorem PI.most {w:Jp} {P:List Tb} {F:(Nat ->Nat) ->Rat} (p:Pos S) (h:PI S n w P F) (j:NN S P) (v:Nat):
  PI S n (w.filter fun u=>!(u==v)) (nj S v xq P) (fun g=>lp xq (fun x=>F (aN g v x)) (sz S v - 1))/\NN S (nj S v xq P):=by
 obtain⟨a,b,c⟩:=h.parts p v xq;obtain⟨m,B9,o⟩:=Ca p (P:=P.filter fun t=>decide (v∈ag t.1)) (n:=n) fun t d=>h.ok t (cU.1 d).1;have H:=jM p v;have z:(P.map tN).filter (fun t=>!decide (v∈t.1))=(P.filter fun t=>!decide (v∈ag t.1)).map tN:=by rw[Q3];rfl
 have A:(P.map tN).filter (fun t=>decide (v∈t.1))=(P.filter fun t=>decide (v∈ag t.1)).map tN:=by rw[Q3];rfl
 have l:∀k,Fit S k ->tQ S (tN (outT S v xq (allT S (P.filter fun t=>decide (v∈ag t.1))))) k=lp xq (fun x=>tQ S (tN (allT S (P.filter fun t=>decide (v∈ag t.1)))) (aN k v x)) (sz S v - 1):=fun k i=>acf p (ru m.up _).nodup (Fs m.up v) _ i;refine⟨⟨a,b,c,fun g e=>?_⟩,fun t d g e=>?_⟩
 ·have y:=anh (S:=S) (f:=g) (v:=v) (P:=P.map tN) (q:=tN (allT S (P.filter fun t=>decide (v∈ag t.1)))) (r:=tN (outT S v xq (allT S (P.filter fun t=>decide (v∈ag t.1))))) p (fun k i=>by rw[A];exact o k i) l (fun k i t d=>by
   obtain⟨s,hs,rfl⟩:=aQ.1 d;exact j s hs k i) e
  rw[z] at y;rw[nj,gK,List.map_singleton,y];exact Sc xq fun x D=>h.val _ (e.with al)
 ·rcases bH.1 d with d |d
  ·exact j t (cU.1 d).1 g e
  ·rw[bD.1 d,l g e];refine anq fun x D=>?_;rw[o _ (e.with al)];exact ad0 (e.with al) fun s hs=>j s (cU.1 hs).1
theorem PI.fix {e:Jp} {P:List Tb} {F:(Nat ->Nat) ->Rat} (p:Pos S) (h:PI S n e P F) {x:Nat} (j:x<sz S v):
  PI S n (e.filter fun u=>!(u==v)) (P.map (eB S v x)) (fun g=>F (aN g v x)):=by
 have f:∀u,u∈e.filter (fun u=>!(u==v))↔u∈e/\u≠v:=fun u=>by simp[cU]
 refine⟨fun t b=>?_,fun t b u a=>?_,fun u a=>?_,fun g i=>?_⟩
 ·obtain⟨s,hs,rfl⟩:=aQ.1 b;exact(h.ok s hs).fix v x
 ·obtain⟨s,hs,rfl⟩:=aQ.1 b;obtain⟨a,d⟩:=(De (h.ok s hs).up u).1 a;exact(f u).2 ⟨h.sub s hs u a,d⟩
 ·obtain⟨a,d⟩:=(f u).1 a;obtain⟨t,b,q⟩:=h.sup u a;exact⟨_,aQ.2 ⟨t,b,rfl⟩,(De (h.ok t b).up u).2 ⟨q,d⟩⟩
 ·rw[<- h.val _ (i.with j)]
  have:∀ {Q:List Tb},(∀t∈Q,dC S n t) ->pQ S g ((Q.map (eB S v x)).map tN)=pQ S (aN g v x) (Q.map tN):=fun {Q}=>by
   induction Q with
   |nil=>intro _;rfl
   |cons t Q ih=>
    intro c;rw[fR,fR,fR,pQ,pQ,ih fun s hs=>c s (dL _ hs)];congr 1
    exact Rp p (ru (c t dA).up _).nodup (Fs (c t dA).up v) _ i
  exact this h.ok
theorem NN.fix {P:List Tb} (p:Pos S) (o:∀t∈P,dC S n t) (h:NN S P) {x:Nat} (c:x<sz S v):NN S (P.map (eB S v x)):=fun t b g a=>by
 obtain⟨s,hs,rfl⟩:=aQ.1 b;have e:tQ S (tN (eB S v x s)) g=tQ S (tN s) (aN g v x):=Rp p (ru (o s hs).up _).nodup (Fs (o s hs).up v) _ a;rw[e];exact h s hs _ (a.with c)
def qM (S:Jp):List (Nat×Nat) ->List Tb ->List Tb
 |[],P=>P
 |p::l,P=>qM S l (P.map (eB S p.1 p.2))
def mI (free:Jp):List (Nat×Nat) ->Jp
 |[]=>free
 |p::l=>mI (free.filter fun u=>!(u==p.1)) l
theorem SH {u:Nat}:∀ {l:List (Nat×Nat)} {e:Jp},u∈mI e l↔u∈e/\¬u∈l.map (·.1)
 |[],e=>⟨fun h=>⟨h,gw⟩,fun h=>h.1⟩
 |p::l,e=>by
  rw[mI,SH,fR,bU,not_or,cU,and_assoc];refine and_congr Iff.rfl (and_congr ?_ Iff.rfl);simp
theorem X4:∀ {l:List (Nat×Nat)} {e:Jp},e.Nodup ->(mI e l).Nodup
 |[],_,h=>h
 |p::l,e,h=>by rw[mI];exact X4 (h.filter _)
theorem PI.fixes (b:Pos S):∀ {l:List (Nat×Nat)} {f:Jp} {P:List Tb} {F:(Nat ->Nat) ->Rat},(l.map (·.1)).Nodup ->(∀p∈l,p.2<sz S p.1) ->PI S n f P F ->PI S n (mI f l) (qM S l P) (fun g=>F (ed l g))
 |[],_,_,_,_,_,h=>h
 |p::l,f,P,F,hn,hx,h=>by
  rw[fR,mY] at hn;have M:∀q∈l,q.1≠p.1:=fun q a e=>hn.1 (by rw[<- e];exact aQ.2 ⟨q,a,rfl⟩);have:=PI.fixes b hn.2 (fun q a=>hx q (dL _ a)) (h.fix b (hx p dA));refine⟨this.ok,this.sub,this.sup,fun g c=>?_⟩;rw[qM,this.val g c];show F (aN (ed l g) p.1 p.2)=F (ed l (aN g p.1 p.2));rw[RL M]
theorem NN.fixes (a:Pos S):∀ {l:List (Nat×Nat)} {P:List Tb},(∀p∈l,p.2<sz S p.1) ->(∀t∈P,dC S n t) ->NN S P ->NN S (qM S l P)
 |[],_,_,_,h=>h
 |p::l,P,hx,ho,h=>by
  rw[qM]
  exact NN.fixes a (fun q b=>hx q (dL _ b)) (fun t c=>by
   obtain⟨s,hs,rfl⟩:=aQ.1 c;exact(ho s hs).fix _ _) (h.fix a ho (hx p dA))
def ll (S:Jp) (most:Bool) (keep:Nat ->Bool):Jp ->List Tb ->List Tb
 |[],P=>P
 |v::vs,P=>ll S most keep vs (if keep v then P else nj S v most P)
theorem ad8 {e:Jp} {u:Nat}:u∈e.filter (fun u=>!(u==v))↔u∈e/\u≠v:=by simp[cU]
theorem PI.outs (p:Pos S) (k:Nat ->Bool):∀(vs:Jp) {r:Jp} {P:List Tb} {F:(Nat ->Nat) ->Rat},PI S n r P F ->∃f,(∀u,u∈f↔u∈r/\(u∈vs ->k u=xq))/\PI S n f (ll S x3 k vs P) (LD S (vs.filter fun v=>!k v) F)
 |[],r,P,F,h=>⟨r,fun u=>⟨fun h=>⟨h,fun e=>absurd e gw⟩,fun h=>h.1⟩,h⟩
 |v::vs,r,P,F,h=>by
  cases hk:k v with
  |true=>
   obtain⟨f,b,c⟩:=PI.outs p k vs h;refine⟨f,fun u=>(b u).trans (and_congr Iff.rfl ⟨fun h a=>?_,fun h a=>h (dL _ a)⟩),?_⟩
   ·rcases bU.1 a with rfl |a
    ·exact hk
    ·exact h a
   ·rw[ll,aA hk,A2 (by simp[hk])];exact c
  |false=>
   obtain⟨f,b,c⟩:=PI.outs p k vs (h.o p v);refine⟨f,fun u=>(b u).trans ?_,?_⟩
   ·rw[ad8,and_assoc];refine and_congr Iff.rfl ⟨fun h a=>?_,fun h=>⟨fun e=>?_,fun a=>h (dL _ a)⟩⟩
    ·rcases bU.1 a with e |a
     ·exact absurd e h.1
     ·exact h.2 a
    ·have:=h (by rw[e];exact dA);rw[e,hk] at this;exact absurd this a6
   ·rw[ll,aD (by simp[hk]),A1 (by simp[hk])];exact c
theorem PI.mosts (p:Pos S) (k:Nat ->Bool):∀(vs:Jp) {r:Jp} {P:List Tb} {F:(Nat ->Nat) ->Rat},PI S n r P F ->NN S P ->∃f,(∀u,u∈f↔u∈r/\(u∈vs ->k u=xq))/\PI S n f (ll S xq k vs P) (elimM S (vs.filter fun v=>!k v) F)/\NN S (ll S xq k vs P)
 |[],r,P,F,h,hn=>⟨r,fun u=>⟨fun h=>⟨h,fun e=>absurd e gw⟩,fun h=>h.1⟩,h,hn⟩
 |v::vs,r,P,F,h,hn=>by
  cases hk:k v with
  |true=>
   obtain⟨f,b,c⟩:=PI.mosts p k vs h hn;refine⟨f,fun u=>(b u).trans (and_congr Iff.rfl ⟨fun h a=>?_,fun h a=>h (dL _ a)⟩),?_⟩
   ·rcases bU.1 a with rfl |a
    ·exact hk
    ·exact h a
   ·rw[ll,aA hk,A2 (by simp[hk])];exact c
  |false=>
   obtain⟨f,b,c⟩:=PI.mosts p k vs (h.most p hn v).1 (h.most p hn v).2;refine⟨f,fun u=>(b u).trans ?_,?_⟩
   ·rw[ad8,and_assoc];refine and_congr Iff.rfl ⟨fun h a=>?_,fun h=>⟨fun e=>?_,fun a=>h (dL _ a)⟩⟩
    ·rcases bU.1 a with e |a
     ·exact absurd e h.1
     ·exact h.2 a
    ·have:=h (by rw[e];exact dA);rw[e,hk] at this;exact absurd this a6
   ·rw[ll,aD (by simp[hk]),A1 (by simp[hk])];exact c
def Low (l:List Fr):Prop:=∀f∈l,f=qF (bj f)
theorem aiK (S:Jp) (P:List Tb):Low (allT S P).2:=by
 have:∀(P:List Tb) (a:Tb),Low a.2 ->Low (P.foldl (vr S) a).2:=fun P=>by
  induction P with
  |nil=>exact fun _ h=>h
  |cons t P ih=>
   intro a _;refine ih _ fun f b=>?_;obtain⟨K,_,rfl⟩:=aQ.1 b;rw[j5]
 exact this P Fk fun f b=>by rw[bD.1 b,j5]
theorem Wv (p:Pos S) {t:Tb} (a:dC S n t) (l:Low t.2):t.2=(List.range (cnt S (ag t.1))).map fun K=>qF (tQ S (tN t) (aY S (ag t.1) K)):=by
 refine mZ (by rw[a.len];simp) fun K h c=>?_;have b:K<cnt S (ag t.1):=by rw[<- a.len];exact h
 have e:tQ S (tN t) (aY S (ag t.1) K)=bj (aS t.2 (pos S (aY S (ag t.1) K) (ag t.1))):=rfl;rw[mq,EY,e,RT p a.up.nodup b,qP h];exact l _ (bQ h)
theorem PI.net (h0:aU V L R=0) (l:∀v∈ws,v<Z V) (f:qd L (·∈ws)):PI (ah V) (Z V) ws (ws.map fun v=>(gU L v,gL V L R v)) (fun g=>fA V L R g ws):=by
 have F:=fK h0
 have e:∀v,v<Z V ->Up (gU L v) (Z V):=fun v a=>by
  have d:v<Z L:=by rw[F.len];exact a
  have s:L.getD v []=L[v]:=by rw[cK,ba d];rfl
  rw[gU,s];exact Hv (F.up v d) (Wj a)
 have i:∀v u,u∈ag (gU L v)↔u∈ag (L.getD v [])∨u=v:=fun v u=>by
  rw[gU,Kj];refine or_congr Iff.rfl ?_;simp[ag]
 refine⟨fun t c=>?_,fun t c u b=>?_,fun u b=>?_,fun g j=>?_⟩
 ·obtain⟨v,a,rfl⟩:=aQ.1 c;exact⟨e v (l v a),by simp[gL]⟩
 ·obtain⟨v,a,rfl⟩:=aQ.1 c;rcases (i v u).1 b with h |rfl
  ·exact f v a u h
  ·exact a
 ·exact⟨_,aQ.2 ⟨u,b,rfl⟩,(i u u).2 (xS rfl)⟩
 ·have:∀ {vs:Jp},(∀v∈vs,v<Z V) ->pQ (ah V) g ((vs.map fun v=>((gU L v,gL V L R v):Tb)).map tN)=fA V L R g vs:=fun {vs}=>by
   induction vs with
   |nil=>intro _;rfl
   |cons v vs ih=>
    intro h;rw[fR,fR,pQ,fA,ih fun u b=>h u (dL _ b)];congr 1
    exact Wx h0 (h v dA) j
  exact this l
theorem NN.net (h0:aU V L R=0) (l:∀v∈ws,v<Z V):NN (ah V) (ws.map fun v=>(gU L v,gL V L R v)):=fun t a g h=>by
 obtain⟨v,b,rfl⟩:=aQ.1 a;exact aq7 h0 (l v b) h
theorem aeG:∀(l:List (Nat×Nat)) (F:(Nat ->Nat) ->Rat) (f:Nat ->Nat),(∀p∈l,¬p.1∈ws) ->dh S ws F (ed l f)=dh S ws (fun g=>F (ed l g)) f
 |[],_,_,_=>rfl
 |p::l,F,f,h=>by
  rw[ed,aeG l F _ fun q a=>h q (dL _ a),XF _ ws f (h p dA)];rfl
theorem aiE:∀(a b:List (Nat×Nat)) (g:Nat ->Nat),bV (a++b) g=bV a g*bV b g
 |[],b,g=>by rw[iH,bV,lI]
 |p::a,b,g=>by rw[gC,bV,bV,aiE a b g,qg]
theorem adw:∀(a b:List (Nat×Nat)) (g:Nat ->Nat),ed (a++b) g=ed b (ed a g)
 |[],_,_=>rfl
 |p::a,b,g=>by rw[gC,ed,adw a b];rfl
def qV (S q:Jp) (K:Nat):List (Nat×Nat):=q.map fun v=>(v,aY S q K v)
theorem Bj (S q:Jp) (K:Nat):(qV S q K).map (·.1)=q:=by
 rw[qV,AZ];exact List.map_id' q
theorem amu {q:Jp} (n:q.Nodup) (K:Nat):ed (qV S q K) (fun _=>0)=aY S q K:=funext fun u=>by
 by_cases h:u∈q
 ·exact adv (p:=(u,aY S q K u)) ((Bj S q K).symm▸n) (aQ.2 ⟨u,h,rfl⟩) _
 ·rw[Xb (by rw[Bj];exact h),LW h]
theorem amv {q:Jp} (b:Pos S) (n:q.Nodup) {K:Nat} (c:K<cnt S q) {g:Nat ->Nat} (d:Fit S g):Lm (qV S q K) g=decide (pos S g q=K):=by
 rw[wL,eM,Lm,fG];constructor
 ·intro h;rw[<- RT b n c];refine Bl S fun u a=>?_;exact eq_of_beq (h (u,aY S q K u) (aQ.2 ⟨u,a,rfl⟩))
 ·rintro rfl p m;obtain⟨u,a,rfl⟩:=aQ.1 m;exact xX.2 (D8 b d n u a).symm
theorem apm (h0:aU V L R=0) {q:Jp} {l:List (Nat×Nat)} (n:ws.Nodup) (y:∀v∈ws,v<Z V) (s:qd L (·∈ws)) (t:(l.map (·.1)).Nodup) (F:∀p∈l,p.1∈ws) (x:∀p∈l,p.2<sz (ah V) p.1) (m:q.Nodup) (B7:∀v∈q,v∈ws/\¬v∈l.map (·.1)) {K:Nat} (r:K<cnt (ah V) q):
  LD (ah V) ((mI ws l).filter fun v=>!q.contains v) (fun g=>fA V L R (ed l g) ws) (aY (ah V) q K)=bG (fun k=>bV (qV (ah V) q K++l) (aY (ah V) (List.range (Z V)) k)*wP V L R (aY (ah V) (List.range (Z V)) k) (Z V)) (cnt (ah V) (List.range (Z V))):=by
 have o:Pos (ah V):=by have:=(fK h0).fine.pos;rwa [jL] at this
 have Y:∀u,u∈(mI ws l).filter (fun v=>!q.contains v)↔(u∈ws/\¬u∈l.map (·.1))/\¬u∈q:=fun u=>by
  rw[cU,SH,Bool.not_eq_true', <- MV,CT]
 have S:((mI ws l).filter fun v=>!q.contains v).Nodup:=(X4 n).filter _
 have z:ws.Perm ((qV (ah V) q K++l).map (·.1)++(mI ws l).filter fun v=>!q.contains v):=by
  rw[gK,Bj];refine(EU n ?_).2 fun u=>?_
  ·refine oh.2 ⟨oh.2 ⟨m,t,fun a d b j e=>(B7 a d).2 (e▸j)⟩,S,fun a d b j e=>?_⟩;obtain⟨⟨_,f⟩,i⟩:=(Y b).1 j;rcases bH.1 d with d |d
   ·exact i (e▸d)
   ·exact f (e▸d)
  ·rw[bH,bH,Y];constructor
   ·intro h;by_cases f:u∈q
    ·exact yp (yp f)
    ·by_cases i:u∈l.map (·.1)
     ·exact yp (xS i)
     ·exact xS ⟨⟨h,i⟩,f⟩
   ·rintro((h |h) |h)
    ·exact(B7 u h).1
    ·obtain⟨p,c,rfl⟩:=aQ.1 h;exact F p c
    ·exact h.1.1
 rw[amA h0 n y s z (fun p c=>by
  rcases bH.1 c with c |c
  ·obtain⟨u,_,rfl⟩:=aQ.1 c;exact rI o q K u r
  ·exact x p c),ar0 (Q5 _) S, <- amu m K,aeG _ _ _ fun p c=>?_]
 ·simp only[adw]
 ·obtain⟨u,w,rfl⟩:=aQ.1 c;exact fun h=>((Y u).1 h).2 w
theorem WC {g:Nat ->Rat}:∀ {n:Nat},(∀x,x< n ->g x<=h x) ->bG g n<=bG h n
 |0,_=>Hg
 |n+1,e=>by
  rw[bG,bG];exact ME (Rat.add_le_add_right.2 (WC fun x a=>e x al)) (Rat.add_le_add_left.2 (e n (Nat.lt_succ_self n)))
theorem akP {g:Nat ->Rat} (h:∀x,x< n ->0<=g x):0<=bG g n:=by
 have:=WC (g:=fun _=>0) (h:=g) h;rwa [Rw] at this
def cE (V:List Vr) (L:List Kx) (R:List (List Fr)) (l:List (Nat×Nat)):Rat:=bG (fun k=>bV l (aY (ah V) (List.range (Z V)) k)*wP V L R (aY (ah V) (List.range (Z V)) k) (Z V)) (cnt (ah V) (List.range (Z V)))
theorem aft (h0:aU V L R=0) {q:Jp} (d:q.Nodup) (l:List (Nat×Nat)):bG (fun K=>cE V L R (qV (ah V) q K++l)) (cnt (ah V) q)=cE V L R l:=by
 have f:Pos (ah V):=by have:=(fK h0).fine.pos;rwa [jL] at this
 simp only[cE];rw[Rx];refine gD fun k c=>?_;have a:Fit (ah V) (aY (ah V) (List.range (Z V)) k):=fun u=>rI f _ _ u c;generalize aY (ah V) (List.range (Z V)) k=g at *;have r:=r8 g a q;rw[<- Kl (g:=fun _=>bV l g*wP V L R g (Z V)) r];refine gD fun K b=>?_;rw[aiE,qg,Zu,amv f d b a];congr 1
 by_cases h:pos (ah V) g q=K
 ·simp[h]
 ·simp[h];exact fun e=>h e.symm
variable {fy:List (Nat×Nat)} {bs:Jp} {φ:Nat ->(Nat ->Nat) ->Rat}
structure fP (S:Jp) (n:Nat) (L:List Kx) (φ:Nat ->(Nat ->Nat) ->Rat):Prop where
 pos:Pos S
 only:∀v,v< n ->∀u,u≠v ->¬u∈ag (L.getD v []) ->∀g x,φ v (aN g u x)=φ v g
 one:∀v,v< n ->∀g,Fit S g ->bG (fun x=>φ v (aN g v x)) (sz S v)=1
 nn:∀v,v< n ->∀g,Fit S g ->0<=φ v g
 lt:∀v,v< n ->∀u∈ag (L.getD v []),u<n
 rank:∃rk:Nat ->Nat,∀v,v< n ->∀u∈ag (L.getD v []),rk u<rk v
def cX (φ:Nat ->(Nat ->Nat) ->Rat) (g:Nat ->Nat):Jp ->Rat
 |[]=>1
 |v::o=>φ v g*cX φ g o
def dN (S:Jp) (n:Nat) (φ:Nat ->(Nat ->Nat) ->Rat) (l:List (Nat×Nat)):Rat:=dh S (List.range n) (fun g=>bV l g*cX φ g (List.range n)) fun _=>0
theorem RO (φ:Nat ->(Nat ->Nat) ->Rat) (g:Nat ->Nat) (b:Jp):∀a,cX φ g (a++b)=cX φ g a*cX φ g b
 |[]=>by rw[iH,cX,lI]
 |v::a=>by rw[gC,cX,cX,RO φ g b a,qg]
theorem Nw {g:Nat ->Nat} {a b:Jp} (h:a.Perm b):cX φ g a=cX φ g b:=by
 induction h with
 |nil=>rfl
 |cons x _ ih=>rw[cX,cX,ih]
 |swap x y l=>rw[cX,cX,cX,cX, <- qg, <- qg,Hf (φ y g)]
 |trans _ _ h1 h2=>rw[h1,h2]
theorem Nx {ψ:Nat ->(Nat ->Nat) ->Rat} {g:Nat ->Nat}:∀ {o:Jp},(∀v∈o,φ v g=ψ v g) ->cX φ g o=cX ψ g o
 |[],_=>rfl
 |v::o,h=>by rw[cX,cX,h v dA,Nx fun u a=>h u (dL _ a)]
theorem adH (g:Nat ->Nat) (p:Nat ->Bool):∀o:Jp,cX φ g o=cX φ g (o.filter p)*cX φ g (o.filter fun v=>!p v)
 |[]=>by simp[cX]
 |v::o=>by
  rw[cX,adH g p o];cases h:p v
  ·rw[A2 (by simp[h]),A1 (by simp[h]),cX];grind
  ·rw[A1 h,A2 (by simp[h]),cX];grind
section
variable {S : Jp} {n : Nat} {L : List Kx} {φ : Nat -> (Nat -> Nat) -> Rat}
theorem fP.with (h:fP S n L φ) {x:Nat} {g:Nat ->Nat}:∀ {o:Jp},(∀u∈o,u<n/\u≠v/\¬v∈ag (L.getD u [])) ->cX φ (aN g v x) o=cX φ g o
 |[],_=>rfl
 |u::o,hu=>by
  obtain⟨a,b,c⟩:=hu u dA;rw[cX,cX,h.only u a v (fun e=>b e.symm) c,h.with fun w d=>hu w (dL _ d)]
theorem fP.nonneg (h:fP S n L φ) {g:Nat ->Nat} (a:Fit S g):∀ {o:Jp},(∀u∈o,u<n) ->0<=cX φ g o
 |[],_=>by show (0:Rat)<=1;decide
 |u::o,hu=>MD (h.nn u (hu u dA) g a) (h.nonneg a fun w b=>hu w (dL _ b))
theorem fP.zero (h:fP S n L φ):Fit S fun _=>0:=fun u=>jM h.pos u
theorem aka {l:Jp} (k:Nat ->Nat) (d:l≠[]):∃v∈l,∀u∈l,k u<=k v:=by
 induction l with
 |nil=>exact absurd rfl d
 |cons a l ih=>
  by_cases h:l=[]
  ·subst h;exact⟨a,dA,fun u b=>by rw[bD.1 b];exact ak _⟩
  ·obtain⟨v,f,m⟩:=ih h;rcases Nat.le_total (k a) (k v) with c |c
   ·exact⟨v,dL _ f,fun u b=>(bU.1 b).elim (fun e=>e▸c) (m u)⟩
   ·exact⟨a,dA,fun u b=>(bU.1 b).elim (fun e=>e▸ak _) fun b=>aO (m u b) c⟩
theorem fP.peel (h:fP S n L φ) {G:(Nat ->Nat) ->Rat} (e:v<n) (a:∀g x,G (aN g v x)=G g) (b:∀u∈bs,u<n/\u≠v/\¬v∈ag (L.getD u [])) (c:Fit S f):
  dh S (bs++[v]) (fun g=>G g*cX φ g (bs++[v])) f=dh S bs (fun g=>G g*cX φ g bs) f:=by
 rw[KM];refine wU (fun g d=>?_) _ _ c;rw[gD (h:=fun x=>(G g*cX φ g bs)*φ v (aN g v x)) fun x _=>?_,zw,h.one v e g d,mU];rw[a,RO,h.with b,cX,cX,mU,qg]
theorem fP.anc (h:fP S n L φ) {A:Nat ->Bool} (k:∀v,v< n ->A v=xq ->∀u∈ag (L.getD v []),A u=xq) {G:(Nat ->Nat) ->Rat} (o:xL (fun v=>A v=xq) G):∀(m:Nat) (b:Jp),Z (b.filter fun v=>!A v)=m ->b.Nodup ->(∀u∈b,u<n) ->∀f,Fit S f ->
  dh S b (fun g=>G g*cX φ g b) f=dh S (b.filter A) (fun g=>G g*cX φ g (b.filter A)) f
 |0,b,a,_,_,f,_=>by
  rw[Hm,List.filter_eq_nil_iff] at a;rw[List.filter_eq_self.2 fun u c=>by have:=a u c;simpa using this]
 |m+1,b,a,hn,hlt,f,hf=>by
  obtain⟨s,t⟩:=h.rank;obtain⟨v,r,w⟩:=aka (l:=b.filter fun v=>!A v) s (fun e=>by rw[e] at a;cases a);obtain⟨D,H⟩:=cU.1 r;have d:A v=false:=by simpa using H
  have p:b.Perm (b.erase v++[v]):=(List.perm_cons_erase D).trans (List.perm_append_comm (l₁:=[v]));have B9:(b.erase v).Nodup:=hn.erase v;have B6:¬v∈b.erase v:=fun a=>((List.Nodup.mem_erase_iff hn).1 a).1 rfl
  have Y:∀u∈b.erase v,u<n/\u≠v/\¬v∈ag (L.getD u []):=fun u c=>by
   have z:=List.mem_of_mem_erase c;refine⟨hlt u z,fun e=>B6 (e▸c),fun F=>?_⟩;cases hAu:A u with
   |true=>
    have:=k u (hlt u z) hAu v F;rw[d] at this;cases this
   |false=>
    have K:=w u (cU.2 ⟨z,by rw[hAu];rfl⟩);have M:=t u (hlt u z) v F;omega
  have y:(b.erase v).filter A=b.filter A:=by
   have i:=p.filter A;rw[x5,show [v].filter A=[] by simp[d],lh] at i;rw[<- List.erase_filter,List.erase_of_not_mem];intro a;rw[cU,d] at a;cases a.2
  have B7:Z ((b.erase v).filter fun v=>!A v)=m:=by
   have i:=(p.filter fun v=>!A v).length_eq;rw[x5,show ([v].filter fun v=>!A v)=[v] by simp[d],cD,Hl] at i;omega
  rw[H8 _ p hn f,wU (G:=fun g=>G g*cX φ g (b.erase v++[v])) (fun g _=>by rw[Nw p]) _ f hf,h.peel (hlt v D) (fun g x=>o v (fun q=>by have j:A v=true:=q;rw[d] at j;cases j) g x) Y hf,h.anc k o m _ B7 B9 (fun u c=>(Y u c).1) f hf,y]
theorem fP.like (h:fP S n L φ) (d:As.Nodup) (t:∀v∈As,v<n) (j:qd L (·∈As)) {l:List (Nat×Nat)} (c:∀p∈l,p.1∈As):dN S n φ l=dh S As (fun g=>bV l g*cX φ g As) fun _=>0:=by
 have b:xL (fun v=>(decide (v∈As))=xq) (bV l):=aaJ fun p e=>cJ (c p e);rw[dN,h.anc (A:=fun v=>decide (v∈As)) (fun v _ i u a=>cJ (j v (mS i) u a)) b _ _ rfl rh (fun u a=>bR.1 a) _ h.zero]
 have f:((List.range n).filter fun v=>decide (v∈As)).Perm As:=by
  refine(EU (rh.filter _) d).2 fun v=>?_;rw[cU,eM];exact⟨fun h=>h.2,fun h=>⟨bR.2 (t v h),h⟩⟩
 rw[H8 _ f (rh.filter _)];exact wU (fun g _=>by rw[Nw f]) _ _ h.zero
end
section
variable {S : Jp} {n : Nat} {L : List Kx} {φ : Nat -> (Nat -> Nat) -> Rat}
theorem fP.free (h:fP S n L φ) {o:Jp} (a:∀u∈o,∀v∈vs,u<n/\u≠v/\¬v∈ag (L.getD u [])):ue vs (fun g=>cX φ g o):=fun v c _ _=>h.with fun u b=>a u b v c
theorem fP.part_sum (h:fP S n L φ) {c:Jp} {fb fc fz:List (Nat×Nat)} (b:As.Nodup) (l:∀v∈As,v<n) (t:qd L (·∈As)) (d:As.Perm (fz.map (·.1)++(bs++c))) (x:∀p∈fz,p.2<sz S p.1)
  (j:∀p∈fb,p.1∈bs) (z:∀p∈fc,p.1∈c) (q:Nat ->Bool) (h1:∀u∈As,q u=xq ->∀v∈c,u≠v/\¬v∈ag (L.getD u [])) (r:∀u∈As,q u=x3 ->∀v∈bs,u≠v/\¬v∈ag (L.getD u [])):
  dN S n φ (fz++(fb++fc))=dh S bs (fun g=>bV fb (ed fz g)*cX φ (ed fz g) (As.filter q)) (fun _=>0)*dh S c (fun g=>bV fc (ed fz g)*cX φ (ed fz g) (As.filter fun v=>!q v)) (fun _=>0):=by
 have k:=d.nodup_iff.1 b;rw[oh] at k;obtain⟨_,i,B7⟩:=k;rw[oh] at i;obtain⟨_,_,M⟩:=i;have y:∀p∈fz,¬p.1∈bs:=fun p f m=>B7 p.1 (aQ.2 ⟨p,f,rfl⟩) p.1 (bH.2 (yp m)) rfl;have A:∀p∈fz,¬p.1∈c:=fun p f m=>B7 p.1 (aQ.2 ⟨p,f,rfl⟩) p.1 (bH.2 (xS m)) rfl
 have B9:∀p∈fz++(fb++fc),p.1∈As:=fun p D=>by
  refine d.mem_iff.2 ?_;rcases bH.1 D with h |h
  ·exact bH.2 (yp (aQ.2 ⟨p,h,rfl⟩))
  ·refine bH.2 (xS ?_);rcases bH.1 h with h |h
   ·exact bH.2 (yp (j p h))
   ·exact bH.2 (xS (z p h))
 rw[h.like b l t B9]
 have o:(fun g=>bV (fz++(fb++fc)) g*cX φ g As)=fun g=>bV fz g*((bV fb g*cX φ g (As.filter q))*(bV fc g*cX φ g (As.filter fun v=>!q v))):=by
  funext g
  rw[aaK,aaK,adH g q As];grind
 rw[o,Sl fz (fun g=>(bV fb g*cX φ g (As.filter q))*(bV fc g*cX φ g (As.filter fun v=>!q v))) d b x];refine aeF c bs _ ?_ ?_
 ·refine ue.put (F:=fun g=>bV fb g*cX φ g (As.filter q)) (ue.mul (aiD fun p s m=>?_) (h.free fun u a v e=>⟨l u (cU.1 a).1,h1 u (cU.1 a).1 (cU.1 a).2 v e⟩)) A;exact M p.1 (j p s) p.1 m rfl
 ·refine ue.put (F:=fun g=>bV fc g*cX φ g (As.filter fun v=>!q v)) (ue.mul (aiD fun p w m=>?_) (h.free fun u a v e=>⟨l u (cU.1 a).1,r u (cU.1 a).1 (by simpa using (cU.1 a).2) v e⟩)) y;exact M p.1 m p.1 (z p w) rfl
theorem fP.part (h:fP S n L φ) {s:Jp} {fb fc fz:List (Nat×Nat)} (b:As.Nodup) (t:∀v∈As,v<n) (l:qd L (·∈As)) (c:As.Perm (fz.map (·.1)++(bs++s))) (x:∀p∈fz,p.2<sz S p.1)
  (f:∀p∈fb,p.1∈bs) (z:∀p∈fc,p.1∈s) (q:Nat ->Bool) (h1:∀u∈As,q u=xq ->∀v∈s,u≠v/\¬v∈ag (L.getD u [])) (a:∀u∈As,q u=x3 ->∀v∈bs,u≠v/\¬v∈ag (L.getD u [])):
  dN S n φ (fz++(fb++fc))*dN S n φ (fz++([]++[]))=dN S n φ (fz++(fb++[]))*dN S n φ (fz++([]++fc)):=by
 rw[h.part_sum b t l c x f z q h1 a,h.part_sum b t l c x (fb:=[]) (fc:=[]) (fun p h=>by cases h) (fun p h=>by cases h) q h1 a,h.part_sum b t l c x (fc:=[]) f (fun p h=>by cases h) q h1 a,h.part_sum b t l c x (fb:=[]) (fun p h=>by cases h) z q h1 a];grind
open Classical in
theorem fP.apart (h:fP S n L φ) {fx fz:List (Nat×Nat)} {r:Nat ->Bool ->Prop} (j:Hb L n (fun v=>v∈fx.map (·.1)) (fun v=>v∈fy.map (·.1)) (fun v=>v∈fz.map (·.1)) r)
  (hx:∀p∈fx,p.1<n) (hy:∀p∈fy,p.1<n) (hz:∀p∈fz,p.1<n/\p.2<sz S p.1) (Il:(fz.map (·.1)).Nodup) (yq:∀p∈fx,¬p.1∈fz.map (·.1)) (KZ:∀p∈fy,¬p.1∈fz.map (·.1)):
  dN S n φ (fz++(fx++fy))*dN S n φ (fz++([]++[]))=dN S n φ (fz++(fx++[]))*dN S n φ (fz++([]++fy)):=by
 have H:∀w,w< n ->∀v∈ag (L.getD w []),v<n:=h.lt
 have K:∀ {f:List (Nat×Nat)},(∀p∈f,p.1<n) ->∀v∈f.map (·.1),v<n:=fun hf v b=>by
  obtain⟨p,o,rfl⟩:=aQ.1 b;exact hf p o
 have hY:∀y,y∈fy.map (·.1) ->y<n:=fun y h=>K hy y h;obtain⟨T,k⟩:∃T:Nat ->Prop,T=fun u=>u∈fx.map (·.1)∨u∈fy.map (·.1)∨u∈fz.map (·.1):=⟨_,rfl⟩
 have V:∀v,T v ->v<n:=fun v h=>by
  rw[k] at h;rcases h with h |h |h
  ·exact K hx v h
  ·exact K hy v h
  ·exact K (fun p o=>(hz p o).1) v h
 obtain⟨B1,d⟩:∃B1:Nat ->Prop,B1=fun u=>u∈fz.map (·.1):=⟨_,rfl⟩;obtain⟨B,B9⟩:∃B:Nat ->Prop,B=fun u=>∃c,r u c:=⟨_,rfl⟩;obtain⟨As,aa⟩:∃As:Jp,As=(List.range n).filter fun v=>decide (eQ L T v):=⟨_,rfl⟩
 have B7:∀v,v∈As↔eQ L T v:=fun v=>by
  rw[aa,cU,eM,bR];exact⟨fun h=>h.2,fun h=>⟨h.lt V H,h⟩⟩
 have B6:As.Nodup:=by rw[aa];exact rh.filter _
 have Q:∀v∈As,v<n:=fun v h=>((B7 v).1 h).lt V H;have al:qd L (·∈As):=fun v b u g=>(B7 u).2 (.step ((B7 v).1 b) g);obtain⟨x,X⟩:∃x:Jp,x=As.filter fun v=>decide (¬B1 v/\B v):=⟨_,rfl⟩;obtain⟨z,ab⟩:∃z:Jp,z=As.filter fun v=>decide (¬B1 v/\¬B v):=⟨_,rfl⟩;have D:∀v,v∈x↔v∈As/\¬B1 v/\B v:=fun v=>by rw[X,cU,eM]
 have s:∀v,v∈z↔v∈As/\¬B1 v/\¬B v:=fun v=>by rw[ab,cU,eM]
 have o:As.Perm (fz.map (·.1)++(x++z)):=by
  refine(EU B6 ?_).2 fun v=>?_
  ·rw[oh];refine⟨Il,?_,fun a M ai P e=>?_⟩
   ·rw[oh];refine⟨by rw[X];exact B6.filter _,by rw[ab];exact B6.filter _,fun a M ai P e=>?_⟩;subst e;exact((s a).1 P).2.2 ((D a).1 M).2.2
   ·subst e;(have ae:B1 a:=by rw[d];exact M);rcases bH.1 P with h |h
    ·exact((D a).1 h).2.1 ae
    ·exact((s a).1 h).2.1 ae
  ·rw[bH,bH,D,s];constructor
   ·intro h;by_cases A:B1 v
    ·left;rw[d] at A;exact A
    ·by_cases h2:B v
     ·exact xS (yp ⟨h,A,h2⟩)
     ·exact xS (xS ⟨h,A,h2⟩)
   ·rintro(h |h |h)
    ·exact(B7 v).2 (.base (by rw[k];exact xS (xS h)))
    ·exact h.1
    ·exact h.1
 have U:∀v,v∈As ->eQ L (fun u=>u∈fx.map (·.1)∨u∈fy.map (·.1)∨u∈fz.map (·.1)) v:=fun v h=>by have:=(B7 v).1 h;rwa [k] at this
 have aj:∀v∈As,(∃u,(u=v∨u∈ag (L.getD v []))/\¬B1 u/\B u) ->∀u,(u=v∨u∈ag (L.getD v [])) ->¬B1 u ->B u:=by
  rintro v b ⟨u,g,R,uz⟩ t i an;rw[B9] at uz;obtain⟨c,l⟩:=uz;have uy:v<n:=Q v b;rw[B9];rcases g with rfl |g
  ·rcases i with rfl |i
   ·exact⟨c,l⟩
   ·exact⟨xq,j.parents hY H (U _ b) l (by rw[d] at R;exact R) t i⟩
  ·have Y:r v false:=j.down u c l (by rw[d] at R;exact R) v uy g;rcases i with rfl |i
   ·exact⟨x3,Y⟩
   ·by_cases F:B1 v
    ·exact⟨xq,j.meet v Y (.base (by rw[d] at F;exact F)) t i⟩
    ·exact⟨xq,j.parents hY H (U _ b) Y (by rw[d] at F;exact F) t i⟩
 refine h.part B6 Q al o (fun p h=>(hz p h).2) (fun p h=>?_) (fun p h=>?_) (fun v=>decide (∃u,(u=v∨u∈ag (L.getD v []))/\¬B1 u/\B u)) (fun u g B2 v b=>?_) (fun u g B2 v b=>?_)
 ·have m:p.1∈fx.map (·.1):=aQ.2 ⟨p,h,rfl⟩;exact(D p.1).2 ⟨(B7 p.1).2 (.base (by rw[k];exact yp m)),by rw[d];exact yq p h,by rw[B9];exact⟨xq,j.start p.1 m⟩⟩
 ·have m:p.1∈fy.map (·.1):=aQ.2 ⟨p,h,rfl⟩;refine(s p.1).2 ⟨(B7 p.1).2 (.base (by rw[k];exact xS (yp m))),by rw[d];exact KZ p h,?_⟩;rw[B9];rintro⟨c,l⟩;exact j.none p.1 c m l
 ·obtain⟨_,F,q⟩:=(s v).1 b;have af:=aj u g (mS B2);exact⟨fun e=>q (af v (yp e.symm) F),fun m=>q (af v (xS m) F)⟩
 ·obtain⟨_,F,q⟩:=(D v).1 b;have ad:=of_decide_eq_false B2;exact⟨fun e=>ad ⟨v,yp e.symm,F,q⟩,fun m=>ad ⟨v,xS m,F,q⟩⟩
end
theorem adI {ψ:Nat ->(Nat ->Nat) ->Rat} {g:Nat ->Nat}:∀ {o:Jp},(∀v∈o,φ v g=ψ v f) ->cX φ g o=cX ψ f o
 |[],_=>rfl
 |v::o,h=>by rw[cX,cX,h v dA,adI fun u a=>h u (dL _ a)]
theorem H3:∀ {l:List (Nat×Nat)},(¬v∈l.map (·.1)) ->∀g,ed l g v=g v
 |[],_,_=>rfl
 |p::l,h,g=>by
  rw[fR,bU,not_or] at h;rw[ed,H3 h.2,Kb _ _ h.1]
theorem H4 {x:Nat}:∀ {l:List (Nat×Nat)},(l.map (·.1)).Nodup ->(v,x)∈l ->∀g,ed l g v=x
 |[],_,h,_=>by cases h
 |p::l,hn,h,g=>by
  rw[fR,mY] at hn;rw[ed];rcases bU.1 h with rfl |h
  ·rw[H3 hn.1,MW]
  ·exact H4 hn.2 h _
theorem adx {l:List (Nat×Nat)} (n:(l.map (·.1)).Nodup) (h:v∈l.map (·.1)) (g f:Nat ->Nat):ed l g v=ed l f v:=by
 obtain⟨p,a,rfl⟩:=aQ.1 h;rw[H4 n (x:=p.2) a,H4 n (x:=p.2) a]
theorem Xc:∀ {l:List (Nat×Nat)},(∀p∈l,p.2<sz S p.1) ->∀ {g},Fit S g ->Fit S (ed l g)
 |[],_,_,hg=>hg
 |p::_,h,_,hg=>Xc (fun q a=>h q (dL _ a)) fun u=>E6 hg (h p dA) u
theorem ads {x:Nat} {l:List (Nat×Nat)} (h:¬v∈l.map (·.1)) (g:Nat ->Nat):ed l (aN g v x)=aN (ed l g) v x:=adu (fun p a e=>h (aQ.2 ⟨p,a,e⟩)) g
theorem adt {x:Nat} {l:List (Nat×Nat)} (n:(l.map (·.1)).Nodup) (h:v∈l.map (·.1)) (g:Nat ->Nat):ed l (aN g v x)=ed l g:=by
 funext u
 by_cases e:u∈l.map (·.1)
 ·exact adx n e _ _
 ·rw[H3 e,H3 e,Kb _ _ (fun a=>e (by rw[a];exact h))]
theorem Ja (l:List (Nat×Nat)) (g:Nat ->Nat):bV l g=0∨(bV l g=1/\∀p∈l,g p.1=p.2):=by
 induction l with
 |nil=>exact xS ⟨rfl,fun p c=>by cases c⟩
 |cons p l ih=>
  rw[bV,kP];by_cases e:g p.1=p.2
  ·rw[aA e,lI];rcases ih with h |⟨h,b⟩
   ·exact yp h
   ·exact xS ⟨h,fun q d=>(bU.1 d).elim (fun a=>a▸e) (b q)⟩
  ·rw[aD e,uh];exact yp rfl
theorem aiC {l:List (Nat×Nat)} {g:Nat ->Nat} (h:∀p∈l,g p.1=p.2):bV l g=1:=by
 induction l with
 |nil=>rfl
 |cons p l ih=>rw[bV,kP,aA (h p dA),ih fun q a=>h q (dL _ a),lI]
theorem atC {d:List (Nat×Nat)} {g:Nat ->Nat} (h:∀p∈d,g p.1=p.2) (n:(d.map (·.1)).Nodup):ed d g=g:=by
 funext u
 by_cases e:u∈d.map (·.1)
 ·obtain⟨p,a,rfl⟩:=aQ.1 e;rw[H4 n (x:=p.2) a,h p a]
 ·exact H3 e _
def iM (d:List (Nat×Nat)) (φ:Nat ->(Nat ->Nat) ->Rat) (v:Nat) (g:Nat ->Nat):Rat:=if v∈d.map (·.1) then kP v (ed d g v) g else φ v g
def Bo (d:List (Nat×Nat)) (φ:Nat ->(Nat ->Nat) ->Rat) (v:Nat) (g:Nat ->Nat):Rat:=φ v (aN (ed d g) v (g v))
theorem apE {x:Nat} (a:x<sz S v) (g:Nat ->Nat):bG (fun y=>kP v x (aN g v y)) (sz S v)=1:=by
 rw[gD (h:=fun y=>(if y=x then 1 else 0)*1) fun y _=>?_]
 ·exact Kl (g:=fun _=>1) a
 ·rw[kP,MW,mU]
section
variable {S : Jp} {n : Nat} {L L' : List Kx} {φ : Nat -> (Nat -> Nat) -> Rat} {d : List (Nat × Nat)}
theorem fP.isDo (h:fP S n L φ) (i:(d.map (·.1)).Nodup) (k:∀p∈d,p.2<sz S p.1) (h1:∀v,v< n ->¬v∈d.map (·.1) ->∀u∈ag (L.getD v []),u∈ag (L'.getD v [])) (f:∀v,v< n ->∀u∈ag (L'.getD v []),u∈ag (L.getD v [])):fP S n L' (iM d φ):=by
 obtain⟨r,z⟩:=h.rank;refine⟨h.pos,fun v a u H b g x=>?_,fun v a g c=>?_,fun v a g c=>?_,fun v a u b=>h.lt v a u (f v a u b),r,fun v a u b=>z v a u (f v a u b)⟩
 ·by_cases e:v∈d.map (·.1)
  ·rw[iM,iM,aA e,aA e,kP,kP,Kb _ _ (fun l=>H l.symm),adx i e _ g]
  ·rw[iM,iM,aD e,aD e];exact h.only v a u H (fun m=>b (h1 v a e u m)) g x
 ·by_cases e:v∈d.map (·.1)
  ·obtain⟨p,j,rfl⟩:=aQ.1 e;rw[gD (h:=fun y=>kP p.1 p.2 (aN g p.1 y)) fun y _=>?_]
   ·exact apE (k p j) g
   ·rw[iM,aA e,H4 i (x:=p.2) j]
  ·rw[gD (h:=fun y=>φ v (aN g v y)) fun y _=>by rw[iM,aD e]];exact h.one v a g c
 ·by_cases e:v∈d.map (·.1)
  ·rw[iM,aA e,kP];split
   ·decide
   ·decide
  ·rw[iM,aD e];exact h.nn v a g c
theorem fP.isPin (h:fP S n L φ) (k:(d.map (·.1)).Nodup) (j:∀p∈d,p.2<sz S p.1) (h1:∀v,v< n ->∀u∈ag (L.getD v []),¬u∈d.map (·.1) ->u∈ag (L'.getD v [])) (i:∀v,v< n ->∀u∈ag (L'.getD v []),u∈ag (L.getD v [])):fP S n L' (Bo d φ):=by
 obtain⟨r,z⟩:=h.rank;have U:∀ {g},Fit S g ->∀v,Fit S (aN (ed d g) v (g v)):=fun b v u=>E6 (Xc j b) (b v) u;refine⟨h.pos,fun v a u H c g x=>?_,fun v a g b=>?_,fun v a g b=>h.nn v a _ (U b v),fun v a u c=>h.lt v a u (i v a u c),r,fun v a u c=>z v a u (i v a u c)⟩
 ·rw[Bo,Bo,Kb _ _ (fun f=>H f.symm)];by_cases e:u∈d.map (·.1)
  ·rw[adt k e]
  ·rw[ads e,Kc _ _ _ (fun f=>H f.symm)];exact h.only v a u H (fun m=>c (h1 v a u m e)) _ x
 ·rw[gD (h:=fun y=>φ v (aN (ed d g) v y)) fun y _=>?_]
  ·exact h.one v a _ (Xc j b)
  ·rw[Bo,MW];by_cases e:v∈d.map (·.1)
   ·rw[adt k e]
   ·rw[ads e,Wd]
theorem afq (b:(d.map (·.1)).Nodup) {l:List (Nat×Nat)} (a:∀p∈d,p∈l):dN S n (Bo d φ) l=dN S n φ l:=by
 rw[dN,dN];congr 1
 funext g
 rcases Ja l g with h |⟨_,h⟩
 ·rw[h,uh,uh]
 ·congr 1
  refine Nx fun v _=>?_;rw[Bo,atC (fun p c=>h p (a p c)) b,abU]
theorem adB (n:(d.map (·.1)).Nodup) {g:Nat ->Nat} {o:Jp} (b:o.Perm (d.map (·.1))):cX (iM d φ) g o=bV d g:=by
 rw[Nw b]
 have k:∀e:List (Nat×Nat),(∀p∈e,p∈d) ->cX (iM d φ) g (e.map (·.1))=bV e g:=fun e=>by
  induction e with
  |nil=>exact fun _=>rfl
  |cons p e ih=>
   intro a;rw[fR,cX,bV,ih fun q c=>a q (dL _ c),iM,aA (aQ.2 ⟨p,a p dA,rfl⟩),H4 n (x:=p.2) (a p dA)]
 exact k d fun _ h=>h
theorem ac9 (g:(d.map (·.1)).Nodup) (l:∀p∈d,p.1<n):(List.range n).Perm (d.map (·.1)++(List.range n).filter fun v=>!decide (v∈d.map (·.1))):=by
 refine(EU rh ?_).2 fun v=>?_
 ·rw[oh];refine⟨g,rh.filter _,fun a c b f e=>?_⟩;subst e;have:=(cU.1 f).2;rw[cJ c] at this;cases this
 ·rw[bH,cU];constructor
  ·intro j;by_cases e:v∈d.map (·.1)
   ·exact yp e
   ·exact xS ⟨j,by rw[cT e];rfl⟩
  ·rintro(h |h)
   ·obtain⟨p,i,rfl⟩:=aQ.1 h;exact bR.2 (l p i)
   ·exact h.1
theorem apk (c:(d.map (·.1)).Nodup) (j:∀p∈d,p.2<sz S p.1) (t:∀p∈d,p.1<n) {l:List (Nat×Nat)} (k:∀p∈l,¬p.1∈d.map (·.1)):dN S n (iM d φ) l=dh S ((List.range n).filter fun v=>!decide (v∈d.map (·.1))) (fun g=>bV l g*cX φ (ed d g) ((List.range n).filter fun v=>!decide (v∈d.map (·.1)))) fun _=>0:=by
 have a:=ac9 (n:=n) c t;rw[dN];generalize hr:((List.range n).filter fun v=>!decide (v∈d.map (·.1)))=rs at a⊢
 have f:∀v∈rs,¬v∈d.map (·.1):=fun v h e=>by
  rw[<- hr] at h;have:=(cU.1 h).2;rw[cJ e] at this;cases this
 have i:(fun g=>bV l g*cX (iM d φ) g (List.range n))=fun g=>bV d g*(bV l g*cX φ g rs):=by
  funext g
  rw[Nw a,RO,adB c (Q5 _),Nx (ψ:=φ) (o:=rs) fun v h=>by rw[iM,aD (f v h)]];rw[<- qg,Hf (bV l g),qg]
 rw[i,Sl d (fun g=>bV l g*cX φ g rs) a rh j];congr 1
 funext g
 congr 1
 have y:∀m:List (Nat×Nat),(∀p∈m,¬p.1∈d.map (·.1)) ->bV m (ed d g)=bV m g:=fun m=>by
  induction m with
  |nil=>exact fun _=>rfl
  |cons p m ih=>
   intro b;rw[bV,bV,ih fun q r=>b q (dL _ r),kP,kP,H3 (b p dA)]
 exact y l k
theorem fP.pin_do (h:fP S n L φ) (j:(d.map (·.1)).Nodup) (i:∀p∈d,p.2<sz S p.1) (t:∀p∈d,p.1<n) (a:fP S n L' (Bo d φ)) (o:∀v,v< n ->∀u∈ag (L'.getD v []),¬u∈d.map (·.1)) {l:List (Nat×Nat)} (f:∀p∈l,¬p.1∈d.map (·.1)):dN S n (Bo d φ) l=dN S n (iM d φ) l:=by
 rw[apk j i t f,dN,a.anc (A:=fun v=>!decide (v∈d.map (·.1))) (fun v c _ u b=>by rw[cT (o v c u b)];rfl) (aaJ fun p a=>by rw[cT (f p a)];rfl) _ _ rfl rh (fun u b=>bR.1 b) _ h.zero];congr 1
 funext g
 congr 1
 refine adI fun v c=>?_
 have B6:¬v∈d.map (·.1):=fun e=>by
  have:=(cU.1 c).2;rw[cJ e] at this;cases this
 rw[Bo];congr 1
 funext u
 by_cases e:u=v
 ·rw[e,MW,H3 B6]
 ·rw[Kb _ _ e]
theorem fP.do_above (h:fP S n L φ) (w:fP S n L' (iM d φ)) (B6:As.Nodup) (B7:∀v∈As,v<n) (c:qd L (·∈As)) (q:qd L' (·∈As)) (o:∀v∈As,¬v∈d.map (·.1)) {l:List (Nat×Nat)} (a:∀p∈l,p.1∈As):dN S n (iM d φ) l=dN S n φ l:=by
 rw[h.like B6 B7 c a,w.like B6 B7 q a];congr 1
 funext g
 congr 1
 exact Nx fun v b=>by rw[iM,aD (o v b)]
theorem api (h:fP S n L φ) (l:List (Nat×Nat)):0<=dN S n φ l:=by
 have k:∀(vs:Jp) (f:Nat ->Nat),Fit S f ->0<=dh S vs (fun g=>bV l g*cX φ g (List.range n)) f:=fun vs=>by
  induction vs with
  |nil=>
   intro f a;refine MD ?_ (h.nonneg a fun u b=>bR.1 b);rcases Ja l f with e |⟨e,_⟩<;>rw[e]<;>decide
  |cons v vs ih=>exact fun f a=>akP fun x c=>ih _ fun u=>E6 a c u
 exact k _ _ h.zero
theorem aeE {T:Nat} (F:Nat ->(Nat ->Nat) ->Rat):∀(vs:Jp) (f:Nat ->Nat),dh S vs (fun g=>bG (fun x=>F x g) T) f=bG (fun x=>dh S vs (F x) f) T
 |[],_=>rfl
 |v::vs,f=>by
  rw[dh,gD fun x _=>aeE F vs (aN f v x),Rx];rfl
theorem aph (p:Pos S) (v:Nat) (l:List (Nat×Nat)):bG (fun x=>dN S n φ ((v,x)::l)) (sz S v)=dN S n φ l:=by
 have e:=aeE (S:=S) (T:=sz S v) (fun x g=>bV ((v,x)::l) g*cX φ g (List.range n)) (List.range n) fun _=>0;rw[show bG (fun x=>dN S n φ ((v,x)::l)) (sz S v)=_ from e.symm,dN];refine wU (fun g a=>?_) _ _ fun u=>jM p u;rw[gD (h:=fun x=>(bV l g*cX φ g (List.range n))*((if x=g v then 1 else 0)*1)) fun x _=>?_,zw,Kl (g:=fun _=>1) (a v),mU];rw[bV,kP,mU];by_cases e:g v=x
 ·rw[aA e,aA e.symm];grind
 ·rw[aD e,aD fun b=>e b.symm];grind
theorem apj (h:fP S n L φ) (v x:Nat) (l:List (Nat×Nat)):dN S n φ ((v,x)::l)<=dN S n φ l:=by
 have k:∀(vs:Jp) (f:Nat ->Nat),Fit S f ->dh S vs (fun g=>bV ((v,x)::l) g*cX φ g (List.range n)) f<=dh S vs (fun g=>bV l g*cX φ g (List.range n)) f:=fun vs=>by
  induction vs with
  |nil=>
   intro f a;have b:=h.nonneg a (o:=List.range n) fun u c=>bR.1 c;show bV ((v,x)::l) f*_<=bV l f*_;refine Rat.mul_le_mul_of_nonneg_right ?_ b;rw[bV,kP];split
   ·rw[lI];exact Hg
   ·rw[uh];rcases Ja l f with e |⟨e,_⟩<;>rw[e]<;>decide
  |cons w vs ih=>exact fun f a=>WC fun y d=>ih _ fun u=>E6 a d u
 exact k _ _ h.zero
theorem apl {l m:List (Nat×Nat)} (h:∀g,bV l g=bV m g):dN S n φ l=dN S n φ m:=by
 rw[dN,dN];congr 1
 funext g
 rw[h g]
theorem atD {l m:List (Nat×Nat)} (h:∀p,p∈l↔p∈m) (g:Nat ->Nat):bV l g=bV m g:=by
 rcases Ja l g with e |⟨e,b⟩
 ·rcases Ja m g with f |⟨f,c⟩
  ·rw[e,f]
  ·rw[aiC (l:=l) fun p a=>c p ((h p).1 a),f]
 ·rw[e,aiC fun p a=>b p ((h p).2 a)]
theorem afr {l m:List (Nat×Nat)} (h:∀p,p∈l↔p∈m):dN S n φ l=dN S n φ m:=apl (atD h)
theorem ahJ (h:(d.map (·.1)).Nodup) (t:∀p∈d,p.1<n) (l:List (Nat×Nat)):dN S n (iM d φ) (l++d)=dN S n (iM d φ) l:=by
 rw[dN,dN];congr 1
 funext g
 rw[aaK,Nw (ac9 h t),RO,adB h (Q5 _)];rcases Ja d g with e |⟨e,_⟩<;>rw[e]<;>grind
theorem X0 (h:fP S n L φ):dN S n φ []=1:=by
 rw[h.like (As:=[]) JT (fun v a=>by cases a) (fun v a=>by cases a) (fun p b=>by cases b)];exact mU 1
end
section
variable {S : Jp} {n : Nat} {L L2 : List Kx} {φ : Nat -> (Nat -> Nat) -> Rat} {d : List (Nat × Nat)}
theorem alL (h:fP S n L φ) (b:(d.map (·.1)).Nodup) (c:∀p∈d,p.2<sz S p.1/\p.1<n) (h1:∀v,v< n ->∀u∈ag (L.getD v []),¬u∈d.map (·.1) ->u∈ag (L2.getD v [])) (i:∀v,v< n ->∀u∈ag (L2.getD v []),u∈ag (L.getD v [])/\¬u∈d.map (·.1))
  {fw:List (Nat×Nat)} (t:∀p∈fw,p.1<n/\p.2<sz S p.1) (y:∀p∈fy,p.1<n) (r:(fw.map (·.1)).Nodup) (F:∀p∈fy,¬p.1∈fw.map (·.1)) (T:∀p∈d,¬p.1∈fw.map (·.1)) (Y:∀p∈fy,¬p.1∈d.map (·.1))
  (j:¬Ce L2 n (fun v=>v∈fy.map (·.1)) (fun v=>v∈d.map (·.1)) (fun v=>v∈fw.map (·.1))):
  dN S n φ (fw++(fy++d))*dN S n (iM d φ) fw=dN S n (iM d φ) (fw++fy)*dN S n φ (fw++d):=by
 have a:fP S n L2 (Bo d φ):=h.isPin b (fun p a=>(c p a).1) h1 fun v g u f=>(i v g u f).1;have o:∀v,v< n ->∀u∈ag (L2.getD v []),¬u∈d.map (·.1):=fun v g u f=>(i v g u f).2;have x:=fun p a=>(c p a).2;have k:=fun p a=>(c p a).1
 have w:∀p∈fw,¬p.1∈d.map (·.1):=fun p a m=>by
  obtain⟨q,s,e⟩:=aQ.1 m;exact T q s (aQ.2 ⟨p,a,e.symm⟩)
 have e:=a.apart (fx:=fy) (fy:=d) (fz:=fw) (jH.ball j) y x t r F T;rw[afq b (fun p a=>bH.2 (xS (bH.2 (xS a)))),afq (l:=fw++([]++d)) b (fun p a=>bH.2 (xS (bH.2 (xS a))))] at e
 rw[h.pin_do b k x a o (l:=fw++([]++[])) (fun p D=>w p (by simpa using D)),h.pin_do b k x a o (l:=fw++(fy++[])) (fun p D=>by
  rcases bH.1 D with m |m
  ·exact w p m
  ·exact Y p (by simpa using m))] at e
 simpa using e
end
section
variable {S : Jp} {n : Nat} {L L2 : List Kx} {φ : Nat -> (Nat -> Nat) -> Rat} {d : List (Nat × Nat)}
open Classical in
theorem ar9 (h:fP S n L φ) (w:fP S n L2 (iM d φ)) (hs:∀v,v< n ->∀u∈ag (L2.getD v []),u∈ag (L.getD v [])) {l:List (Nat×Nat)} (g:∀p∈l,p.1<n) (o:∀v,v∈d.map (·.1) ->¬eQ L (fun u=>u∈l.map (·.1)) v):dN S n (iM d φ) l=dN S n φ l:=by
 have T:∀v,v∈l.map (·.1) ->v<n:=fun v a=>by
  obtain⟨p,b,rfl⟩:=aQ.1 a;exact g p b
 have m:∀v,v∈(List.range n).filter (fun v=>decide (eQ L (fun u=>u∈l.map (·.1)) v))↔eQ L (fun u=>u∈l.map (·.1)) v:=fun v=>by
  rw[cU,eM,bR];exact⟨fun h=>h.2,fun e=>⟨e.lt T h.lt,e⟩⟩
 refine h.do_above w (As:=(List.range n).filter fun v=>decide (eQ L (fun u=>u∈l.map (·.1)) v)) (rh.filter _) (fun v a=>bR.1 (cU.1 a).1) (fun v a u c=>?_) (fun v a u c=>?_) (fun v a f=>?_) (fun p b=>(m _).2 (.base (aQ.2 ⟨p,b,rfl⟩)))
 ·exact(m u).2 (.step ((m v).1 a) c)
 ·exact(m u).2 (.step ((m v).1 a) (hs v (bR.1 (cU.1 a).1) u c))
 ·exact o v f ((m v).1 a)
theorem atv (h:fP S n L φ) {a:List Kx} (D:fP S n a (iM d φ)) (s:∀v,v< n ->∀u∈ag (a.getD v []),u∈ag (L.getD v [])) (f:(d.map (·.1)).Nodup) (c:∀p∈d,p.2<sz S p.1/\p.1<n) (h1:∀v,v< n ->∀u∈ag (L.getD v []),¬u∈d.map (·.1) ->u∈ag (L2.getD v [])) (b:∀v,v< n ->∀u∈ag (L2.getD v []),u∈ag (L.getD v [])/\¬u∈d.map (·.1))
  {fw:List (Nat×Nat)} (w:∀p∈fw,p.1<n/\p.2<sz S p.1) (y:∀p∈fy,p.1<n) (r:(fw.map (·.1)).Nodup) (F:∀p∈fy,¬p.1∈fw.map (·.1)) (T:∀p∈d,¬p.1∈fw.map (·.1)) (i:∀p∈fy,¬p.1∈d.map (·.1))
  (o:¬Ce L2 n (fun v=>v∈fy.map (·.1)) (fun v=>v∈d.map (·.1)) (fun v=>v∈fw.map (·.1))) (j:∀v,v∈d.map (·.1) ->¬eQ L (fun u=>u∈fw.map (·.1)) v):
  dN S n φ (fw++(fy++d))*dN S n φ fw=dN S n (iM d φ) (fw++fy)*dN S n φ (fw++d)/\dN S n (iM d φ) fw=dN S n φ fw:=by
 have e:=ar9 h D s (l:=fw) (fun p g=>(w p g).1) j;exact⟨by rw[<- alL h f c h1 b w y r F T i o,e],e⟩
end
open Go
theorem Px {u:Nat} (h:u<10):Lib.decDigits u=[UInt8.ofNat (48+u)]:=by rw[Lib.decDigits,dif_pos h]
theorem ahV {u:Nat} (h:¬u<10):Lib.decDigits u=Lib.decDigits (u/10)++[UInt8.ofNat (48+u % 10)]:=by rw[Lib.decDigits,dif_neg h]
open Go.Lib
theorem ast (k:Nat):∀n,n<10^(k+1) ->Z (decDigits n)<=k+1:=by
 induction k with
 |zero=>intro n h;rw[Px (by simpa using h)];simp
 |succ k ih=>
  intro n h;by_cases a:n<10
  ·rw[Px a];simp
  ·rw[ahV a,cD];have:=ih (n/10) (by rw[jK] at h;omega);simp;omega
theorem asu (h:n<256^k):Z (decDigits n)<=3*k+1:=by
 apply ast;have a:(256:Nat)^k<=(10^3)^k:=Nat.pow_le_pow_left a6 k;rw[<- Nat.pow_mul] at a;have b:10^(3*k)<=10^(3*k+1):=lJ a6 al;omega
def Am (n:Nat):List UInt8:=if n=0 then[] else decDigits n
theorem asq (h:n≠0):Am n=Am (n/10)++[UInt8.ofNat (48+n % 10)]:=by
 rw[Am,aD h];by_cases a:n<10
 ·rw[Px a,Am,aA al,iH,kM a]
 ·rw[ahV a,Am,aD al]
theorem al7 (a:ByteArray) (w:wA) (l:a.size<=500000):
  c6 67 #[zX a] w (dj w (zX ⟨(decDigits (N a)).toArray⟩)):=by
 have H:=aF (po a w al);have y:=aO (kd a) l;have U:=asu (Hc (N a));generalize hA':N a=A at *;clear hA' l;by_cases x:A=0
 ·subst x;rw[CL] at H;have B1:we (decDigits 0=[48]):=Px a6;rw[B1.o];clear U;go_enter func67,ntmps67;go_wp2_with fail
  refine(H.o).af ?_;rintro e m ⟨rfl,f⟩;subst f;go_wp2;go_ret;exact⟨rfl,aw _ _⟩
 ·have q:=EM x;have D:we (Am A=decDigits A):=aD x;have Y:N ⟨#[10]⟩=10:=rfl;go_enter func67,ntmps67;go_wp2_with fail
  refine(H.o).af ?_;rintro e m ⟨rfl,f⟩;subst f;clear H;go_wp2;go_loopg [0,3] A (fun n va vs wr=>∃s:ByteArray,va=zX (B n)/\vs=zX s/\(B n).size<=500000/\we (Am n++s.data.toList=Am A)/\da m wr)
  case atStart=>exact⟨⟨#[]⟩,rfl,rfl,y,(show _=_ by simp),aw _ _⟩
  case round=>
   obtain⟨s,rfl,rfl,b,S,c⟩:=hrel;clear q;by_cases h:gk=0
   ·subst h;rw[CL]
    have B9:we (s=⟨(decDigits A).toArray⟩):=by
     show _=_;have:=S.o;rw[Am,aA rfl,iH,D.o] at this;apply Q9;apply Ra.1;rw[this]
    go_wp2;go_ret;exact⟨by rw[<- B9.o];rfl,c⟩
   ·have q:=EM h;have j:=fun V=>adm (B gk) ⟨#[10]⟩ V b (by show 1<=_;omega) (by rw[Y];decide);rw[cQ,Y] at j;have r:=aF j;have B2:gk % 10<10:=jh _ a6;have B6:(B (gk % 10)).size<=500000:=aO (kO (Nat.mod_le _ _)) b;have g:=fun V=>I5 (B (gk % 10)) 0 V al al;rw[cQ,MG,Hi,kM (show gk % 10<256 by omega)] at g;have u:=aF g;have v:=aO (kO (AW gk 10)) b
    have T:s.size<=1500001:=by
     have e:=eG List.length S.o;rw[cD,B8,D.o] at e;omega
    have B7:gk/10<gk:=Nat.div_lt_self (mj h) a6;have t:=asq h
    have z:we (Am (gk/10)++(strOfNums [48+((gk % 10:Nat):Int)]++s).data.toList=Am A):=by
     show _=_;rw[<- S.o,t,ByteArray.data_append,Array.toList_append,JN,qj];(have this:(48+((gk % 10:Nat):Int)).toNat=48+gk % 10:=al);rw[fR,om,this]
    clear t j g b B6;generalize hd':gk % 10=d at *;clear hd'
    have k:=fun V:wA=>JO (P:=prog) (AC V (yd #[E .u8 (48+(d:Int))] 5)) 148 5 underlying148 underlying5 V.heap.size 0 1 1 [48+(d:Int)] rfl (fun i L=>by
     (obtain rfl:i=0:=al);rw[a8 _ V.heap.size (0+0) _ _ (0,0) (dU _ _)];rfl) 9 underlying9
    have R:(strOfNums [48+(d:Int)]).size=1:=strOfNums_size _;go_wp2_with fail
    refine(r.o _).af ?_;rintro e M ⟨rfl,p⟩;go_wp2_with fail
    refine(u.o _).af ?_;rintro e F ⟨rfl,K⟩;subst K;have Q:=k F;clear k;go_wp2;go_roundg (gk/10)
    case measure=>exact B7
    case rel=>exact⟨strOfNums [48+(d:Int)]++s,rfl,rfl,v,z.o,(c.trans (p.af c.size)).alloc (c.trans (p.af c.size)).size _⟩
def bl (s:ByteArray):List UInt8:=s.data.toList
variable {x':wQ}
theorem dE.farT {V:wA} {c:Kd} {l:List Fr} {x:wQ} (h:dE V c l) (n:bh V g x y) (q:bW x) (r:bW y) (j:Nat) (u:wQ):dE (AF V ⟨g,j,O⟩ u) c l:=fun k p=>by
 obtain⟨g',o,rfl,t,a,b,d⟩:=h k p;obtain⟨v,D,z,rfl⟩:=q;obtain⟨w,B9,A,rfl⟩:=r
 have s:¬g'=g:=fun e=>by
  subst e;rw[a8 V g' _ _ _ (0,0) n] at a;match hm:o+k*3 with
  |0=>rw[hm] at a;simp at a
  |1=>rw[hm] at a;simp at a
  |m+2=>rw[hm] at a;simp at a
 have f:∀i,AJ (AF V ⟨g,j,O⟩ u) ⟨g',i,O⟩=AJ V ⟨g',i,O⟩:=fun i=>gg _ _ _ _ (fun e=>s (eG Addr.block e).symm);exact⟨g',o,rfl,aT t (kh V _ _).size,(f _).trans a,(f _).trans b,(f _).trans d⟩
theorem dE.putT {V:wA} {c:Kd} {l:List Fr} {x:wQ} (h:dE V c l) (b:bh V g x y) (e:bW x) (a:bW y) (i:bW x') (f:wQ):dE (AF (AF V ⟨g,0,O⟩ x') ⟨g,1,O⟩ f) c l:=by
 have d:bh (AF V ⟨g,0,O⟩ x') g x' y:=ke V g 0 _ _ x' b;exact(h.farT b e a 0 _).farT d i a 1 _
variable {K:Act ->wA ->Prop} {Q:Exit ->Act ->wA ->Prop}
theorem ajC {o:Oper} {a:Act} (s x:Operand)
  (k:o.op=.call {callee:=.builtin .append,args:= #[s,x],argTypes:= #[36,36]}) (base:Nat) (v:wQ) (l:List Fr) (f:Fr) (hs:a.eval s=v) (r:dr w base v l) (g:Nat) (m:a.eval x=J (I ⟨g,0,O⟩) 1 1) (c:aL w g f.1 f.2.1 f.2.2) (y:Z l+1<=100000) (t:base<=w.heap.size)
  (h:∀v' w',dr w' base v' (l++[f]) ->w.grownBy w' v.ownBlock ->K (a.put o.dst v') w'):o.wp prog a w K Q:=by
 obtain⟨n,H,z,p,q⟩:=eo Tryz.infoFrac;refine wp_append_own _ s x 36 k base 63 n (zp #[zd x3,zX ⟨#[]⟩,zX ⟨#[]⟩]) 3 40 underlying36 H z p q rfl a6 v (Z l) _ hs r ⟨g,0,O⟩ 1 1 [zd f.1,zX f.2.1,zX f.2.2] m rfl ?_ ?_ (by unfold maxLen;omega) al t ?_
 ·intro j u b;match j,b with
  |0,b=>cases b;exact c.c0
  |1,b=>cases b;exact c.c1
  |2,b=>cases b;exact c.c2
  |j+3,b=>simp at b
 ·intro u d;simp only[bU,gw,jf] at d;rcases d with rfl |rfl |rfl<;>rfl
 ·intro v' w' e i _;refine h v' w' ?_ i;rw[dr,cD,ahg];exact e
theorem aoX (k:Int):mkRat k 1=(k:Rat):=by
 rw[Rat.mkRat_one]
def LH (i:Nat):ByteArray:=⟨(decDigits i).toArray⟩
theorem aap (h:i<10):(LH i).size=1:=by
 rw[LH,Px h];rfl
abbrev kr (c:UInt8) (i:Nat):ByteArray:=⟨#[c]⟩++LH i
def uZ (k:Nat):List ByteArray:=(List.range k).map (kr 118)
theorem ajY (k:Nat):uZ (k+1)=uZ k++[kr 118 k]:=by simp[uZ,xZ]
theorem Rj (k:Nat):Z (uZ k)=k:=by simp[uZ]
theorem adk (i:Nat) (w:wA) (h:i<=1000):c6 68 #[E yR (i:Nat)] w (dj w (zX (B i))):=by
 have:=Kv (i:Int) w al al;rwa [oC] at this
theorem adg (i:Nat) (w:wA) (a:i<=1000):c6 67 #[zX (B i)] w (dj w (zX (LH i))):=by
 have:=al7 (B i) w (by
  have h:(B i).size<=1000:=by rw[nZ];exact aO (sQ 2 i al) al
  omega)
 rwa [cQ] at this
theorem lD.empty (w:wA) (B:Nat):lD w B (J O 0 0) []:=⟨rfl,yp ⟨rfl,rfl⟩⟩
theorem lD.step {B:Nat} {v:wQ} {l:List ByteArray} (h:lD w B v l) (e:da w w'):lD w' B v l:=by
 refine⟨h.1,?_⟩;rcases h.2 with a |⟨g,cap,r,a,c,b,d⟩
 ·exact yp a
 ·exact xS ⟨g,cap,r,a,c,(e.block g (c5.1 b).1).trans b,d⟩
theorem ata (k:Nat) (w:wA) (l:k<=3):
  c6 69 #[E yR (k:Nat)] w fun e w'=>∃x,e=yk x/\lD w' w.heap.size x (uZ k)/\da w w':=by
 have m:=Fa (fun (i:Nat) (h:i<=1000) (U:wA)=>adk i U h);have v:=Fa (fun (i:Nat) (h:i<=1000) (U:wA)=>adg i U h);go_enter func69,ntmps69;go_wp2_with fail
 go_loopw [3,4] (fun x iv wr=>∃i:Nat,i<=k/\iv=E yR i/\we (lD wr w.heap.size x (uZ i))/\we (da w wr)) (fun _ iv _=>k - (intOf iv).toNat)
 case atStart=>exact⟨0,aX _,rfl,lD.empty _ _,aw _ _⟩
 case round=>
  obtain⟨i,h,rfl,R,H⟩:=hrel;by_cases t:i<k
  ·go_wp2_with fail
   refine(m.o i al _).af ?_;rintro e n ⟨rfl,b⟩;go_wp2_with fail
   refine(v.o i al _).af ?_;rintro e a ⟨rfl,c⟩;have B7:=b.trans (c.af b.size);have D:=Fa (R.o.step B7);have B1:=Fa (H.o.trans (B7.af H.o.size));clear b c B7 R H;have r:=Fa (D.o.step ((aw _ a).alloc (ak _) (yd #[zX (kr 118 i)] 9)));have d:=Fa (B1.o.alloc B1.o.size (yd #[zX (kr 118 i)] 9));have Q:=Fa (anN a (kr 118 i));have g:w.heap.size<=(AC a (yd #[zX (kr 118 i)] 9)).heap.size:=d.o.size;have M:=Rj i;have V:=Fa (ajY i);have z:=aap (i:=i) al;go_wp2_with (at_builtin;refine ajE rfl _ _ rfl w.heap.size _ (uZ i) (kr 118 i) rfl r.o a.heap.size rfl Q.o al g ?_;intro v' p j f;have B9:=Fa (d.o.grown f g (fun k e=>r.o.own k e)))
   go_roundw
   case rel=>exact⟨i+1,al,bd,by rw[V.o];exact j,B9⟩
   case measure=>simp[intOf];omega
  ·obtain rfl:i=k:=al
   go_wp2;go_ret;exact⟨_,rfl,R.o,H.o⟩
def r7 (Ls:Jp):List Fr:=Ls.map fun a:Nat=>qF ((a:Rat)/(Ls.sum:Rat))
theorem WV (Ls:Jp):Z (r7 Ls)=Z Ls:=by simp[r7]
theorem adp (h:n<256):qw (n:Rat)<=2:=by
 have a:(n:Rat).num.natAbs=n:=aE
 have b:(n:Rat).den=1:=rfl;rw[qw,a,b,nZ,nZ];have c:=sQ 1 n al;have d:=sQ 1 1 al;omega
theorem Rv:∀ {Ls:Jp},(∀a∈Ls,a<=6) ->Ls.sum<=6*Z Ls
 |[],_=>ak _
 |a::l,h=>by
  have d:=h a dA;have e:=Rv fun b c=>h b (dL _ c);simp only[List.sum_cons,dX];omega
theorem al3 {Ls:Jp} (h:∀a∈Ls,a<=6) (l:Z Ls<=3) (hs:1<=Ls.sum):∀f∈r7 Ls,f.2.1.size+f.2.2.size<=2:=by
 intro f c;obtain⟨a,b,rfl⟩:=aQ.1 c;have e:=Rv h;have d:=h a b;show (nu ((a:Rat)/(Ls.sum:Rat))).size+(de ((a:Rat)/(Ls.sum:Rat))).size<=2;rw[wS];have i:Fits 1 ((a:Rat)/(Ls.sum:Rat)):=⟨(a:Int),Ls.sum,al,by rw[Rat.mkRat_eq_div];rfl,al,by simp;omega⟩;exact T7 i
theorem al4 {Ls:Jp} (hs:1<=Ls.sum):jl (r7 Ls)=true:=by
 have h:(Ls.sum:Rat)≠0:=fun e=>by
  have g:Ls.sum=0:=by exact_mod_cast e
  omega
 have r:(0:Rat)<(Ls.sum:Rat):=Rat.lt_of_le_of_ne Rat.natCast_nonneg (Ne.symm h);rw[jl,iI];constructor
 ·rw[fG];intro f b;obtain⟨a,i,rfl⟩:=aQ.1 b;refine cJ ?_;rw[j5,Rat.not_lt];have d:(0:Rat)<=(a:Rat):=Rat.natCast_nonneg;rw[k9];exact MD d (Rat.le_of_lt (Rat.inv_pos.2 r))
 ·refine cJ ?_
  have k:∀(l:Jp) (s c:Rat),(l.map fun a:Nat=>qF ((a:Rat)/c)).foldl (fun s f=>s+cV f) s=s+(l.sum:Rat)/c:=by
   intro l;induction l with
   |nil=>intro s c;show s=s+((0:Nat):Rat)/c;rw[k9];grind
   |cons a l ih=>
    intro s c;rw[fR,uk,ih,show cV (qF ((a:Rat)/c))=(a:Rat)/c from j5 _,List.sum_cons,k9,k9,k9,Rat.natCast_add,Rat.add_mul,MF]
  rw[b9,r7,k,MC,k9,JR _ h]
variable {B' cap:Nat}
theorem afH (Ls:Jp) (a:Nat):iL (Ls++[a])=iL Ls++[(a:Int)]:=by simp[iL]
theorem bS.put {B:Nat} (h:bS w B (J (I ⟨g,0,O⟩) n cap) l) (j:Nat) (y:Int):bS (AF w ⟨g,j,O⟩ (E yR y)) B (J (I ⟨g,0,O⟩) n cap) (l.set j y):=by
 rcases h.2 with ⟨a,_⟩ |⟨g',p,r,a,b,c,d,e,f,i⟩
 ·cases a
 ·cases a;refine⟨aE,xS ⟨g,cap,_,aE,b,ke w g j _ _ _ c,by simpa using d,e,by simpa using f,?_⟩⟩;rw[Array.toList_setIfInBounds,gA,Hk, <- i,List.take_set]
theorem dr.lower {B:Nat} {v:wQ} {l:List Fr} (h:dr w B v l) (e:B'<=B):dr w B' v l:=by
 refine⟨h.1,?_⟩;rcases h.2 with a |⟨g,cap,r,a,b,c,d⟩
 ·exact yp a
 ·exact xS ⟨g,cap,r,a,aO e b,c,d⟩
theorem bS.emptyB (w:wA) (B:Nat):bS w B (J O 0 0) []:=⟨rfl,yp ⟨rfl,rfl⟩⟩
structure PM (Ls:Jp) (i:Nat):Prop where
 len:Z Ls=i
 six:∀a∈Ls,a<=6
theorem alP (d:Kd) (cd k n:Nat) (W:Kx) (w:wA) (hW:aC w d W) (B7:∀x∈W, -9223372036854775808<=x/\x<=9223372036854775807) (hk:k<=100000) (fW:1<=n) (vE:n<=5) (Tv:Z W<=140737488355328):
  c6 70 #[J d (Z W) cd,E yR (k:Nat),E yR (n:Nat)] w fun e w'=>∃(x:wQ) (Ls:Jp),e=yk x/\dr w' w.heap.size x (r7 Ls)/\PM Ls n/\1<=Ls.sum/\da w w':=by
 have HW:=Fa hW;have HR:=Fa B7;have AD:=Fa (fun (c:Int) (h: -9223372036854775808<=c/\c<=9223372036854775807) (U:wA)=>Ku c 7 U h.1 h.2 al al);have jW:=Fa (fun (c:Int)=>KD c (n:=7) al);have M:=Fa (fun (a:Nat) (h:a<=100) (U:wA)=>WX (a:Int) U al al)
 have aW:we (∀(a:Nat),a<=100 ->∀U:wA,c6 29 #[E yR (a:Nat)] U fun e w'=>e=yk (lB (qF (a:Rat)))/\da U w'):=fun a b U=>by
  have h:=M.o a b U;rw[aoX] at h;exact h
 have JI:we (∀(a s:Nat),a<=100 ->1<=s ->s<=100 ->∀U:wA,c6 65 #[lB (qF (a:Rat)),lB (qF (s:Rat))] U fun e w'=>e=yk (zz #[lB (qF ((a:Rat)/(s:Rat))),E yR 0])/\da U w'):=fun a s b b0 D U=>by
  have bs:(s:Rat)≠0:=fun e=>by
   (have e':s=0:=by exact_mod_cast e);omega
  have h:=amn (aV (a:Rat)) (aV (s:Rat)) (nu (a:Rat)) (de (a:Rat)) (nu (s:Rat)) (de (s:Rat)) U (by rw[kN];exact bs) (by rw[wS];have:=adp (n:=a) al;omega) (by rw[wS];have:=adp (n:=s) al;omega);rw[kN,kN] at h;exact h
 clear M;have M:=aW;clear aW hW B7;go_enter func70,ntmps70;go_wp2_with fail
 go_loopw [7,8,9] (fun x sv iv wr=>∃(i:Nat) (Ls:Jp),i<=n/\iv=E yR i/\sv=E yR (Ls.sum:Nat)/\we (PM Ls i)/\we (bS wr w.heap.size x (iL Ls))/\we (da w wr)) (fun _ _ iv _=>n - (Go.RowKit.intOf iv).toNat)
 case atStart=>exact⟨0,[],aX _,rfl,rfl,⟨rfl,fun a b=>by cases b⟩,bS.emptyB _ _,aw _ _⟩
 case round=>
  obtain⟨i,Ls,hi,rfl,rfl,H,X,f⟩:=hrel;by_cases aj:i<n
  ·have YG:Ls.sum<=100:=by have:=Rv H.o.six;have:=H.o.len;omega
   have K:=H.o.len;by_cases aq:0<Z W
   ·obtain⟨A,Te⟩:∃A,A=k+i:=⟨_,rfl⟩;(have b1:IntKind.i64.wrap ((k:Int)+(i:Int))=(A:Int):=by rw[jx];omega);obtain⟨t,ht⟩:∃t,t=A % Z W:=⟨_,rfl⟩;(have nG:t<Z W:=by rw[ht];exact jh _ aq);(have Od:(A:Int) % (Z W:Int)=(t:Int):=by rw[ht,wK]);obtain⟨g',o',rfl,iA,cW⟩:=(HW.o.aa f.o) t nG;have Yl:=HR.o W[t] (bQ nG);have bO:=jW.o W[t];have Qh:=Fa (fun U=>AD.o W[t] Yl U);(have bA:(0:Int)<(Z W:Int):=al);(have bC:¬(Z W:Int)=0:=al);(have Yo:IntKind.i64.wrap ((A:Int) % (Z W:Int))=(t:Int):=by rw[Od,jx];omega);clear ht Te aq;generalize W[t]=wt at *;generalize tC wt 7=p at *;go_wp2_with fail
    refine(Qh.o _).af ?_;rintro e w1 ⟨rfl,v⟩;have Gt:=Fa (X.o.aa v);have cO:=Fa (f.o.trans (v.af f.o.size));have B6:=Fa (Gt.o.aa ((aw _ w1).alloc (ak _) (yd #[E yR (p:Int)] 3)));have Q:=Fa (cO.o.alloc cO.o.size (yd #[E yR (p:Int)] 3));have nX:=Fa (tE w1 (p:Int));have Y:w.heap.size<=(AC w1 (yd #[E yR (p:Int)] 3)).heap.size:=Q.o.size;(have pG:Z (iL Ls)=i:=by rw[bM];exact K);have iV:=Fa (afH Ls p);(have bw:IntKind.i64.wrap ((Ls.sum:Int)+(p:Int))=(((Ls++[p]).sum:Nat):Int):=by rw[jx];simp;omega);have Jh:we (PM (Ls++[p]) (i+1)):=⟨by simp[K],fun a b=>by rcases bH.1 b with b |b;exact H.o.six a b;rw[bD.1 b];omega⟩;generalize D:(Ls++[p]).sum=s2 at *;have tU:=Fa D;clear D cW v X f Gt cO;go_wp2_with (at_builtin;refine CW rfl _ _ rfl w.heap.size _ (iL Ls) [(p:Int)] rfl B6.o (I ⟨w1.heap.size,0,O⟩) 1 rfl nX.o (fun e=>by cases e) (by simp;omega) Y ?_;intro v' w3 ao ai;have eE:=Fa (Q.o.grown ai Y (fun k e=>B6.o.own k e)))
    go_roundw
    case rel=>exact⟨i+1,Ls++[p],al,bd,by rw[tU.o],Jh,by rw[iV.o];exact ao,eE⟩
    case measure=>simp[Go.RowKit.intOf];omega
   ·have fH:¬(0:Int)<(Z W:Int):=al
    have bz:decide (0<Z W)=false:=cT al;have B6:=Fa (X.o.aa ((aw _ wr).alloc (ak _) (yd #[E yR 1] 3)));have Q:=Fa (f.o.alloc f.o.size (yd #[E yR 1] 3));have nX:=Fa (tE wr 1);have Y:w.heap.size<=(AC wr (yd #[E yR 1] 3)).heap.size:=Q.o.size;(have pG:Z (iL Ls)=i:=by rw[bM];exact K);have iV:=Fa (afH Ls 1);(have bw:IntKind.i64.wrap ((Ls.sum:Int)+1)=(((Ls++[1]).sum:Nat):Int):=by rw[jx];simp;omega);have Jh:we (PM (Ls++[1]) (i+1)):=⟨by simp[K],fun a b=>by rcases bH.1 b with b |b;exact H.o.six a b;rw[bD.1 b];omega⟩;have tU:=Fa (Eq.refl (Ls++[1]).sum);generalize D:(Ls++[1]).sum=s2 at *;have Cp:=Fa D;clear D tU X f aq;go_wp2_with (at_builtin;refine CW rfl _ _ rfl w.heap.size _ (iL Ls) [(1:Int)] rfl B6.o (I ⟨wr.heap.size,0,O⟩) 1 rfl nX.o (fun e=>by cases e) (by simp;omega) Y ?_;intro v' w3 ao ai;have eE:=Fa (Q.o.grown ai Y (fun k e=>B6.o.own k e)))
    go_roundw
    case rel=>exact⟨i+1,Ls++[1],al,bd,by rw[Cp.o],Jh,by rw[iV.o];exact ao,eE⟩
    case measure=>simp[Go.RowKit.intOf];omega
  ·obtain rfl:n=i:=al
   (have YG:Ls.sum<=100:=by have:=Rv H.o.six;have:=H.o.len;omega);have K:=H.o.len;by_cases R:Ls.sum=0
   focus
    (have IG:0<Z (iL Ls):=by rw[bM];omega);rcases X.o.cases with ⟨_,bx⟩ |⟨g,cap,rfl,bp,hg,bJ,bN,hh⟩
    ·rw[bx] at IG;exact absurd IG aE
    focus
     have ar:=X.o.put 0 1;obtain⟨bb,bf⟩:=hh 0 (by simpa using IG);rw[bK] at bb bf;have wC:=Fa (f.o.setCell (p:=⟨g,0,O⟩) bp (E yR 1));(have Y8:Z (iL Ls)=n:=by rw[bM];exact K);rw[Y8]
     obtain⟨B9,r,rfl⟩:∃B9 r,Ls=B9::r:=by
      cases Ls with
      |nil=>rw[<- K] at fW;exact absurd fW aE
      |cons B9 r=>exact⟨B9,r,rfl⟩
     (have a1:B9=0/\r.sum=0:=by simp at R;exact R)
     have UI:we (bS (AF wr ⟨g,0,O⟩ (E yR 1)) w.heap.size (J (I ⟨g,0,O⟩) n cap) (iL (1::r))):=by
      rw[Y8] at ar;exact ar
     have z:we (PM (1::r) n):=⟨by simpa using K,fun a b=>by rcases bU.1 b with rfl |b;omega;exact H.o.six a (dL _ b)⟩;have m:we ((1::r).sum=1/\1<=1/\1<=100):=⟨by simp[a1.2],al,al⟩;(have cH:(0:Int)<(n:Int):=al);rw[R,show ((0:Nat):Int)=0 from rfl];clear R ar hh X f Y8 YG K H;go_upto_region 14 with fail
     clear bb bf a1;generalize (AF wr ⟨g,0,O⟩ (E yR 1))=B2 at *;have rJ:=UI;have T:=wC;obtain⟨S,u⟩:∃S:Nat,S=1:=⟨1,rfl⟩;obtain⟨l,P⟩:∃l,l=1::r:=⟨_,rfl⟩;rw[<- P] at z m rJ;(have aR:we (l.sum=S/\1<=S/\S<=100):=by rw[u];exact m);(have F:(1:Int)=((S:Nat):Int):=by rw[u];rfl);rw[F];clear m UI wC P u F;have m:=aR;clear aR
   rotate_left
   focus
    (have YH:¬(Ls.sum:Int)=0:=al);obtain⟨S,u⟩:∃S,Ls.sum=S:=⟨_,rfl⟩;have m:we (Ls.sum=S/\1<=S/\S<=100):=⟨u,al,al⟩;rw[u] at YH⊢;obtain⟨l,P⟩:∃l,l=Ls:=⟨_,rfl⟩;rw[<- P] at H X m;have z:=H;have rJ:=X;have T:=f;(have YE:((S:Int)==0)=false:=by simpa using YH);clear R u P H X f YG K;go_upto_region 14 with fail
    clear YH YE;generalize wr=B2 at *
   all_goals
    obtain⟨d7,DY,e7,FZ⟩:=rJ.o.ints;have bg:=Fa FZ;(have aM:Z (iL l)=n:=by rw[bM];exact z.o.len);rw[aM] at e7;cases e7;have bo:=m.o.2.1;have qJ:=m.o.2.2;have Jm:=Fa m.o.1;(have gF:we (Z (r7 l)=n):=by show _=_;rw[WV];exact z.o.len);(have AO:we (∀j (h:j<Z l),(r7 l)[j]'(by rw[WV];exact h)=qF ((l[j]:Rat)/(S:Rat))):=fun j h=>by simp[r7,Jm.o]);clear FZ m;go_wp2_with fail
    go_loopw [11,12] (fun x iv wr2=>∃i:Nat,i<=n/\iv=E yR i/\we (dr wr2 B2.heap.size x ((r7 l).take i))/\we (da B2 wr2)) (fun _ iv _=>n - (Go.RowKit.intOf iv).toNat)
    case atStart=>exact⟨0,aX _,rfl,dr.empty _ _,aw _ _⟩
    case round=>
     obtain⟨i,hi,rfl,HY,B1⟩:=hrel;by_cases aj:i<n
     ·have OD:i<Z (iL l):=by rw[aM];exact aj
      (have L:i<Z l:=by rw[<- bM];exact OD);obtain⟨g',o',e8,iA,cL⟩:=(bg.o.aa B1.o) i OD;cases e8;(try rw[bK] at cL)
      (have F:(iL l)[i]'OD=((l[i]'L:Nat):Int):=by simp[iL]);rw[F] at cL;have bF:=z.o.six (l[i]'L) (bQ L);have OJ:=AO.o i L;(have bk:we ((r7 l).take i++[qF (((l[i]'L:Nat):Rat)/(S:Rat))]=(r7 l).take (i+1)):=by show _=_;rw[ig (by rw[gF.o];exact aj),OJ]);clear F OJ;generalize (l[i]'L)=V at *;have rM:=Fa (fun U=>M.o V al U);have Ey:=Fa (fun U=>M.o S al U);have bm:=Fa (fun U=>JI.o V S al al al U);generalize qF ((V:Nat):Rat)=fa at *;generalize qF ((S:Nat):Rat)=fs at *;generalize qF (((V:Nat):Rat)/((S:Nat):Rat))=fq at *;obtain⟨an,ax,ay⟩:=fa;obtain⟨sn,sx,sy⟩:=fs;obtain⟨qn,q,y⟩:=fq;go_wp2_with fail
      refine(rM.o _).af ?_;rintro e v1 ⟨rfl,v⟩;go_wp2_with fail
      refine(Ey.o _).af ?_;rintro e v2 ⟨rfl,ab⟩;go_wp2_with fail
      refine(bm.o _).af ?_;rintro e v3 ⟨rfl,a6⟩;have aJ:=ab.trans (a6.af ab.size);have Zr:=v.trans (aJ.af v.size);clear v ab a6 aJ;have bt:=aL.new v3 qn q y;have ad:=Zr.alloc Zr.size (FC qn q y);obtain⟨k0,k1,k2, -⟩:=bt.facts
      have az:aL ((v3.alloc (FC qn q y)).alloc (FC qn q y)) (v3.heap.size+1) qn q y:=by
       have h:=aL.new (v3.alloc (FC qn q y)) qn q y;rwa [eW] at h
      have ae:=ad.alloc ad.size (FC qn q y);have Mb:=Fa (HY.o.aa ae);have fh:=Fa (B1.o.trans (ae.af B1.o.size));have bT:=Fa az;have Y:B2.heap.size<=((v3.alloc (FC qn q y)).alloc (FC qn q y)).heap.size:=fh.o.size;(have nG:Z ((r7 l).take i)<=5:=by rw[eZ,gF.o];omega);clear Zr ad ae bt az HY B1 cL;go_wp2_with (at_builtin;refine ajJ rfl _ _ rfl B2.heap.size _ ((r7 l).take i) (qn,q,y) rfl Mb.o (v3.heap.size+1) rfl bT.o al Y ?_;intro v' v6 bu br;have CE:=Fa (fh.o.grown br Y (fun k e=>Mb.o.own k e)))
      go_roundw
      case rel=>exact⟨i+1,al,bd,by rw[<- bk.o];exact bu,CE⟩
      case measure=>simp[Go.RowKit.intOf];omega
     ·obtain rfl:i=n:=al
      go_wp2;go_ret;have B7:=HY.o;rw[lg (by rw[gF.o];exact ak _)] at B7;exact⟨_,l,rfl,B7.lower T.o.size,z.o,by rw[Jm.o];exact bo,T.o.trans (B1.o.af T.o.size)⟩
variable {ops:Array Oper} {rest:List Oper} {xs:List wQ} {c:Nat}
def iu (t:TypeId) (w w':wA):Prop:=∀(k:Nat) (c:Array wQ) (fr:Nat×Nat),w.heap[k]? =I (Obj.cells c t fr) ->w'.heap[k]? =I (Obj.cells c t fr)
theorem iu.aa {t:TypeId} (b:da w w'):iu t w w':=fun k _ _ h=>(b.block k (c5.1 h).1).trans h
theorem iu.grown {t b:TypeId} {row:Option Nat} (d:w.grownBy w' row) (r:∀g,row=I g ->∃c f,w.heap[g]? =I (yd c b f)) (n:t≠b):iu t w w':=fun k c f h=>by
 refine(d.block k (c5.1 h).1 fun e=>?_).trans h;obtain⟨i,j,a⟩:=r k e.symm;rw[h] at a;cases a;exact n rfl
theorem iu.set {t d:TypeId} {b:Nat} {f:Array wQ} {r:Nat×Nat} (a:w.heap[b]? =I (yd f d r)) (n:t≠d) (j:Nat) (y:wQ):iu t w (AF w ⟨b,j,O⟩ y):=fun k c i h=>by
 refine(eO w ⟨b,j,O⟩ y k fun e=>?_).trans h;have g:k=b:=e;subst g;rw[h] at a;cases a;exact n rfl
theorem iu.trans {t:TypeId} {a b c:wA} (h:iu t a b) (k:iu t b c):iu t a c:=fun i s f d=>k i s f (h i s f d)
theorem rp {B:Nat} {e:TypeId} {s:Nat} {v:wQ} (h:w.ownsRow B e s v n xs) (k:iu e w w'):w'.ownsRow B e s v n xs:=by
 refine⟨h.1,?_⟩;rcases h.2 with a |⟨g,cap,r,a,b,c,d⟩
 ·exact yp a
 ·exact xS ⟨g,cap,r,a,b,k _ _ _ c,d⟩
theorem R3 {B:Nat} {e:TypeId} {s:Nat} {v:wQ} (h:w.ownsRow B e s v n xs):∀g,v.ownBlock=I g ->∃c f,w.heap[g]? =I (yd c e f):=fun g a=>by
 rcases h.2 with ⟨rfl,_⟩ |⟨g',cap,r,rfl,d,b,i⟩
 ·cases a
 ·cases a;exact⟨_,_,b⟩
theorem R7 {B:Nat} {e:TypeId} {s:Nat} {v:wQ} (h:w.ownsRow B e s v n xs):∀g,v.ownBlock=I g ->B<=g:=fun g a=>by
 rcases h.2 with ⟨rfl,_⟩ |⟨g',cap,r,rfl,b,c,d⟩
 ·cases a
 ·cases a;exact b
theorem rj {B:Nat} {e:TypeId} {s:Nat} {v:wQ} (h:w.ownsRow B e s v n xs):∃a c,v=J a n c/\(a=O ->c=0):=by
 rcases h.2 with ⟨rfl,rfl⟩ |⟨g',cap,r,rfl,b,d,f⟩
 ·exact⟨O,0,rfl,fun _=>rfl⟩
 ·exact⟨_,_,rfl,fun e=>by cases e⟩
theorem Nz {B:Nat} {e:TypeId} {s:Nat} {v:wQ} (h:w.ownsRow B e s v n xs) (f:B'<=B):w.ownsRow B' e s v n xs:=by
 refine⟨h.1,?_⟩;rcases h.2 with a |⟨g,cap,r,a,b,c,d⟩
 ·exact yp a
 ·exact xS ⟨g,cap,r,a,aO f b,c,d⟩
theorem KG {B:Nat} {e:TypeId} {s:Nat} (h:w.ownsRow B e s (J a n c) n xs) (l:j<Z xs):∃g,a=I ⟨g,0,O⟩/\g<w.heap.size/\w.cell? ⟨g,j,O⟩=I xs[j]:=by
 rcases h.2 with ⟨b,d⟩ |⟨g',cap,r,b,d,f,o,p,q,k⟩
 ·have:=h.1;subst d;rw[oY] at this;omega
 ·cases b;refine⟨g',rfl,(c5.1 f).1,?_⟩;have m:j<n*s:=by have:=h.1;omega
  rw[a8 w g' j _ _ (0,0) f]
  have i:r[j]? =(r.toList.take (n*s))[j]?:=by
   rw[tu,aA m,wM]
  rw[i,k,ba l]
abbrev PV:Type:=ByteArray×wQ×List ByteArray
def vC:List PV ->List wQ
 |[]=>[]
 |p::l=>zX p.1::p.2.1::vC l
theorem M5:∀l,Z (vC l)=Z l*2
 |[]=>rfl
 |p::l=>by
  show Z (vC l)+1+1=(Z l+1)*2;rw[M5 l];omega
theorem ab0 (p:PV):∀l,vC (l++[p])=vC l++[zX p.1,p.2.1]
 |[]=>rfl
 |q::l=>by
  show Value.string q.1::q.2.1::vC (l++[p])=_;rw[ab0 p l];rfl
theorem abZ:∀(l:List PV) (k:Nat) (h:k<Z l),(vC l)[k*2]'(by rw[M5];omega)=zX l[k].1/\(vC l)[k*2+1]'(by rw[M5];omega)=l[k].2.1
 |p::l,0,_=>⟨rfl,rfl⟩
 |p::l,k+1,h=>by
  obtain⟨a,b⟩:=abZ l k (by simpa using h);refine⟨?_,?_⟩
  ·simp only[show (k+1)*2=k*2+1+1 by omega];exact a
  ·simp only[show (k+1)*2+1=k*2+1+1+1 by omega];exact b
def Av (w:wA) (B:Nat) (x:wQ) (P:List PV):Prop:=w.ownsRow B 60 2 x (Z P) (vC P)/\∀p∈P,lD w B p.2.1 p.2.2
abbrev PL:Type:=wQ×Kx
def Ax (w:wA) (B:Nat) (y:wQ) (P:List PL):Prop:=w.ownsRow B 27 1 y (Z P) (P.map (·.1))/\∀p∈P,bS w B p.1 p.2
abbrev PR:Type:=wQ×List Fr
def Aw (w:wA) (B:Nat) (z:wQ) (P:List PR):Prop:=w.ownsRow B 36 1 z (Z P) (P.map (·.1))/\∀p∈P,dr w B p.1 p.2
theorem Av.keep {B:Nat} {x:wQ} {P:List PV} (h:Av w B x P) (h1:iu 60 w w') (a:iu 9 w w'):Av w' B x P:=⟨rp h.1 h1,fun p b=>rp (h.2 p b) a⟩
theorem Ax.keep {B:Nat} {x:wQ} {P:List PL} (h:Ax w B x P) (h1:iu 27 w w') (a:iu 3 w w'):Ax w' B x P:=⟨rp h.1 h1,fun p b=>rp (h.2 p b) a⟩
theorem Aw.keep {B:Nat} {x:wQ} {P:List PR} (h:Aw w B x P) (h1:iu 36 w w') (a:iu 63 w w'):Aw w' B x P:=⟨rp h.1 h1,fun p b=>rp (h.2 p b) a⟩
theorem Av.nil (w:wA) (B:Nat):Av w B (J O 0 0) []:=⟨⟨rfl,yp ⟨rfl,rfl⟩⟩,fun p h=>by cases h⟩
theorem Ax.nil (w:wA) (B:Nat):Ax w B (J O 0 0) []:=⟨⟨rfl,yp ⟨rfl,rfl⟩⟩,fun p h=>by cases h⟩
theorem Aw.nil (w:wA) (B:Nat):Aw w B (J O 0 0) []:=⟨⟨rfl,yp ⟨rfl,rfl⟩⟩,fun p h=>by cases h⟩
theorem Tryz.infoInts:(prog.info? 27).map (fun i=>(i.zero,i.size,i.bytes))=I (I (J O 0 0),1,24):=ao
theorem Tryz.infoFracs:(prog.info? 36).map (fun i=>(i.zero,i.size,i.bytes))=I (I (J O 0 0),1,24):=ao
theorem Tryz.infoVar:(prog.info? 60).map (fun i=>(i.zero,i.size,i.bytes))=I (I (zp #[zX ⟨#[]⟩,J O 0 0]),2,40):=ao
theorem ajG {o:Oper} {a:Act} (n:o.guard=O) (s x:Operand)
  (i:o.op=.call {callee:=.builtin .append,args:= #[s,x],argTypes:= #[23,23]}) (base:Nat) (v:wQ) (P:List PL) (q:wQ) (k:bW q) (hs:a.eval s=v) (t:w.ownsRow base 27 1 v (Z P) (P.map (·.1))) (g:Nat) (l:a.eval x=J (I ⟨g,0,O⟩) 1 1) (f:AJ w ⟨g,0,O⟩=I q) (A:Z P+1<=100000) (y:base<=w.heap.size)
  (h:∀v' w',w'.ownsRow base 27 1 v' (Z P+1) (P.map (·.1)++[q]) ->w.grownBy w' v.ownBlock ->wpList prog ops Q rest (a.put o.dst v') w'):wpList prog ops Q (o::rest) a w:=by
 obtain⟨m,H,z,p,r⟩:=eo Tryz.infoInts;refine AU _ n s x 23 i base 27 m (J O 0 0) 1 24 underlying23 H z p r rfl a6 v (Z P) _ hs t ⟨g,0,O⟩ 1 1 [q] l rfl ?_ ?_ (by unfold maxLen;omega) al y ?_
 ·intro j u b;match j,b with
  |0,b=>cases b;exact f
  |j+1,b=>simp at b
 ·intro u c;simp only[bU,gw,jf] at c;subst c;obtain⟨_,_,_,rfl⟩:=k;rfl
 ·intro v' w' d e _;exact h v' w' d e
theorem ajF {o:Oper} {a:Act} (n:o.guard=O) (s x:Operand)
  (i:o.op=.call {callee:=.builtin .append,args:= #[s,x],argTypes:= #[24,24]}) (base:Nat) (v:wQ) (P:List PR) (q:wQ) (k:bW q) (hs:a.eval s=v) (t:w.ownsRow base 36 1 v (Z P) (P.map (·.1))) (g:Nat) (l:a.eval x=J (I ⟨g,0,O⟩) 1 1) (f:AJ w ⟨g,0,O⟩=I q) (A:Z P+1<=100000) (y:base<=w.heap.size)
  (h:∀v' w',w'.ownsRow base 36 1 v' (Z P+1) (P.map (·.1)++[q]) ->w.grownBy w' v.ownBlock ->wpList prog ops Q rest (a.put o.dst v') w'):wpList prog ops Q (o::rest) a w:=by
 obtain⟨m,H,z,p,r⟩:=eo Tryz.infoFracs;refine AU _ n s x 24 i base 36 m (J O 0 0) 1 24 underlying24 H z p r rfl a6 v (Z P) _ hs t ⟨g,0,O⟩ 1 1 [q] l rfl ?_ ?_ (by unfold maxLen;omega) al y ?_
 ·intro j u b;match j,b with
  |0,b=>cases b;exact f
  |j+1,b=>simp at b
 ·intro u c;simp only[bU,gw,jf] at c;subst c;obtain⟨_,_,_,rfl⟩:=k;rfl
 ·intro v' w' d e _;exact h v' w' d e
theorem ajy {o:Oper} {a:Act} (s x:Operand)
  (f:o.op=.call {callee:=.builtin .append,args:= #[s,x],argTypes:= #[22,22]}) (base:Nat) (v:wQ) (P:List PV) (m:ByteArray) (q:wQ) (i:bW q) (hs:a.eval s=v) (y:w.ownsRow base 60 2 v (Z P) (vC P)) (g:Nat) (k:a.eval x=J (I ⟨g,0,O⟩) 1 1) (n:AJ w ⟨g,0,O⟩=I (zX m)) (p:AJ w ⟨g,1,O⟩=I q) (D:Z P+1<=100000) (A:base<=w.heap.size)
  (h:∀v' w',w'.ownsRow base 60 2 v' (Z P+1) (vC P++[zX m,q]) ->w.grownBy w' v.ownBlock ->K (a.put o.dst v') w'):o.wp prog a w K Q:=by
 obtain⟨l,H,z,r,t⟩:=eo Tryz.infoVar;refine wp_append_own _ s x 22 f base 60 l (zp #[zX ⟨#[]⟩,J O 0 0]) 2 40 underlying22 H z r t rfl a6 v (Z P) _ hs y ⟨g,0,O⟩ 1 1 [zX m,q] k rfl ?_ ?_ (by unfold maxLen;omega) al A ?_
 ·intro j u b;match j,b with
  |0,b=>cases b;exact n
  |1,b=>cases b;exact p
  |j+2,b=>simp at b
 ·intro u c;simp only[bU,gw,jf] at c;rcases c with rfl |rfl
  ·rfl
  ·obtain⟨_,_,_,rfl⟩:=i;rfl
 ·intro v' w' d e _;exact h v' w' d e
theorem Pk (a:List Fr):∀l,dI (l++a)=dI l++dI a
 |[]=>rfl
 |f::l=>by
  show Value.bool f.1::Value.string f.2.1::Value.string f.2.2::dI (l++a)=_;rw[Pk a l];rfl
theorem ahi {o:Nat}:∀ {l:List Fr},dE w (I ⟨g,o,O⟩) l ->∀j u,(dI l)[j]? =I u ->AJ w ((⟨g,o,O⟩:Addr).add j)=I u/\u.oneCell'=true:=by
 intro l h j u a;have s:j<Z (dI l):=(oA.1 a).1;rw[yM] at s;have k:j/3<Z l:=al
 obtain⟨g',o',e,_,b,c,d⟩:=h (j/3) k;cases e
 have f:(⟨g,o,O⟩:Addr).add j=⟨g,o+j,O⟩:=by
  rw[Addr.add];by_cases b:j=0
  ·subst b;simp
  ·simp[b]
 have B1:=LB l (j/3) k;rw[f];have m:j % 3=0∨j % 3=1∨j % 3=2:=al
 rcases m with m |m |m
 ·have e:j=j/3*3:=al
  rw[e] at a⊢;rw[B1.1] at a;cases a;exact⟨b,rfl⟩
 ·have e:j=j/3*3+1:=al
  rw[e] at a⊢;rw[B1.2.1] at a;cases a;exact⟨by rw[<- zl];exact c,rfl⟩
 ·have e:j=j/3*3+2:=al
  rw[e] at a⊢;rw[B1.2.2] at a;cases a;exact⟨by rw[<- zl];exact d,rfl⟩
theorem ajI {o:Oper} {a:Act} (p:o.guard=O) (s x:Operand)
  (i:o.op=.call {callee:=.builtin .append,args:= #[s,x],argTypes:= #[36,36]}) (base:Nat) (v:wQ) (l la:List Fr) (hs:a.eval s=v) (t:dr w base v l) (g c ca:Nat) (m:a.eval x=J (I ⟨g,c,O⟩) (Z la) ca) (f:dE w (I ⟨g,c,O⟩) la) (A:Z l+Z la<=100000) (y:base<=w.heap.size)
  (h:∀v' w',dr w' base v' (l++la) ->w.grownBy w' v.ownBlock ->wpList prog ops Q rest (a.put o.dst v') w'):wpList prog ops Q (o::rest) a w:=by
 obtain⟨n,H,z,q,r⟩:=eo Tryz.infoFrac;refine AU _ p s x 36 i base 63 n (zp #[zd x3,zX ⟨#[]⟩,zX ⟨#[]⟩]) 3 40 underlying36 H z q r rfl a6 v (Z l) _ hs t ⟨g,c,O⟩ (Z la) ca (dI la) m (by rw[yM];omega) (fun j u b=>(ahi f j u b).1) (fun u k=>?_) (by unfold maxLen;omega) al y ?_
 ·obtain⟨j,b,rfl⟩:=iQ k;exact(ahi f j _ (ba b)).2
 ·intro v' w' d e _;refine h v' w' ?_ e;rw[dr,cD,Pk];exact d
variable {bk:Bool} {Rs:List PR} {Vs:List PV} {e s v':wQ} {W':wA}
structure MS (w W:wA) (s e t:wQ) (bk:Bool) (x y z:wQ) (Vs:List PV) (Ls:List PL) (Rs:List PR):Prop where
 rb:W.heap[w.heap.size]? =I (yd #[s,e,t,zd bk] 47 (0,0))
 res:bZ W (w.heap.size+1) (J O 0 0) (J O 0 0) (J O 0 0)
 box:bZ W (w.heap.size+2) x y z
 vs:Av W w.heap.size x Vs
 ls:Ax W w.heap.size y Ls
 rs:Aw W w.heap.size z Rs
 bel:da w W
theorem MS.step {W:wA} {t:wQ} {x:wQ} {Ls:List PL} (h:MS w W s e t bk x y z Vs Ls Rs) (b:da W W'):MS w W' s e t bk x y z Vs Ls Rs:=
 ⟨(b.block _ (c5.1 h.rb).1).trans h.rb,h.res.aa b h.res.lt,h.box.aa b h.box.lt,h.vs.keep (.aa b) (.aa b),h.ls.keep (.aa b) (.aa b),h.rs.keep (.aa b) (.aa b),h.bel.trans (b.af h.bel.size)⟩
theorem MS.cells {W:wA} {t:wQ} {x:wQ} {Ls:List PL} (h:MS w W s e t bk x y z Vs Ls Rs):AJ W ⟨w.heap.size,0,O⟩=I s/\W.cell? ⟨w.heap.size,1,O⟩=I e/\W.cell? ⟨w.heap.size,2,O⟩=I t/\W.cell? ⟨w.heap.size,3,O⟩=I (zd bk):=by
 refine⟨?_,?_,?_,?_⟩<;>(rw[a8 W w.heap.size _ _ _ (0,0) h.rb];rfl)
theorem MS.lt {W:wA} {t:wQ} {x:wQ} {Ls:List PL} (h:MS w W s e t bk x y z Vs Ls Rs):w.heap.size+2<W.heap.size:=h.box.lt
theorem Z6 {W:wA} {v:wQ} {t:TypeId} {y:Nat} (b:da w W) (h:W.ownsRow w.heap.size t y v n xs) (g:W.grownBy W' v.ownBlock):da w W':=b.grown g b.size (fun k e=>R7 h k e)
theorem bZ.set0 {W:wA} {x:wQ} (h:bZ W g x y z) (v:wQ):bZ (AF W ⟨g,0,O⟩ v) g v y z:=ke W g 0 _ _ v h
theorem bZ.set1 {W:wA} {x:wQ} (h:bZ W g x y z) (v:wQ):bZ (AF W ⟨g,1,O⟩ v) g x v z:=ke W g 1 _ _ v h
theorem bZ.set2 {W:wA} {x:wQ} (h:bZ W g x y z) (v:wQ):bZ (AF W ⟨g,2,O⟩ v) g x y v:=ke W g 2 _ _ v h
theorem MS.pushV {W:wA} {t:wQ} {x:wQ} {Ls:List PL} (h:MS w W s e t bk x y z Vs Ls Rs) {m:ByteArray} {q:wQ} {l:List ByteArray} (r:W'.ownsRow w.heap.size 60 2 v' (Z Vs+1) (vC Vs++[zX m,q])) (g:W.grownBy W' x.ownBlock) (f:lD W w.heap.size q l):
  bZ W' (w.heap.size+2) x y z/\MS w (AF W' ⟨w.heap.size+2,0,O⟩ v') s e t bk v' y z (Vs++[(m,q,l)]) Ls Rs:=by
 have k:∀b:TypeId,b≠60 ->iu b W W':=fun b n=>iu.grown g (R3 h.vs.1) n;have X:bZ W' (w.heap.size+2) x y z:=k 26 a6 _ _ _ h.box;have a:∀b:TypeId,b≠26 ->iu b W' (AF W' ⟨w.heap.size+2,0,O⟩ v'):=fun b n=>iu.set X n 0 v';refine⟨X,?_,?_,X.set0 v',⟨?_,?_⟩,?_,?_,?_⟩
 ·exact a 47 a6 _ _ _ (k 47 a6 _ _ _ h.rb)
 ·exact(eO W' ⟨w.heap.size+2,0,O⟩ v' (w.heap.size+1) (by show w.heap.size+1≠w.heap.size+2;omega)).trans (k 26 a6 _ _ _ h.res)
 ·rw[ab0,cD];exact rp r (a 60 a6)
 ·intro p c;have d:=(k 9 a6).trans (a 9 a6);rcases bH.1 c with c |c
  ·exact rp (h.vs.2 p c) d
  ·rw[bD.1 c];exact rp f d
 ·exact h.ls.keep ((k _ a6).trans (a _ a6)) ((k _ a6).trans (a _ a6))
 ·exact h.rs.keep ((k _ a6).trans (a _ a6)) ((k _ a6).trans (a _ a6))
 ·exact(Z6 h.bel h.vs.1 g).setCell (p:=⟨w.heap.size+2,0,O⟩) (by show w.heap.size<=w.heap.size+2;omega) _
theorem MS.pushL {W:wA} {t:wQ} {x:wQ} {Ls:List PL} (h:MS w W s e t bk x y z Vs Ls Rs) {q:wQ} (r:W'.ownsRow w.heap.size 27 1 v' (Z Ls+1) (Ls.map (·.1)++[q])) (g:W.grownBy W' y.ownBlock) (f:bS W w.heap.size q l):
  bZ W' (w.heap.size+2) x y z/\MS w (AF W' ⟨w.heap.size+2,1,O⟩ v') s e t bk x v' z Vs (Ls++[(q,l)]) Rs:=by
 have k:∀b:TypeId,b≠27 ->iu b W W':=fun b n=>iu.grown g (R3 h.ls.1) n;have X:bZ W' (w.heap.size+2) x y z:=k 26 a6 _ _ _ h.box;have a:∀b:TypeId,b≠26 ->iu b W' (AF W' ⟨w.heap.size+2,1,O⟩ v'):=fun b n=>iu.set X n 1 v';refine⟨X,?_,?_,X.set1 v',?_,⟨?_,?_⟩,?_,?_⟩
 ·exact a 47 a6 _ _ _ (k 47 a6 _ _ _ h.rb)
 ·exact(eO W' ⟨w.heap.size+2,1,O⟩ v' (w.heap.size+1) (by show w.heap.size+1≠w.heap.size+2;omega)).trans (k 26 a6 _ _ _ h.res)
 ·exact h.vs.keep ((k _ a6).trans (a _ a6)) ((k _ a6).trans (a _ a6))
 ·rw[gK,cD];exact rp r (a 27 a6)
 ·intro p c;have d:=(k 3 a6).trans (a 3 a6);rcases bH.1 c with c |c
  ·exact rp (h.ls.2 p c) d
  ·rw[bD.1 c];exact rp f d
 ·exact h.rs.keep ((k _ a6).trans (a _ a6)) ((k _ a6).trans (a _ a6))
 ·exact(Z6 h.bel h.ls.1 g).setCell (p:=⟨w.heap.size+2,1,O⟩) (by show w.heap.size<=w.heap.size+2;omega) _
theorem MS.pushR {W:wA} {t:wQ} {x:wQ} {Ls:List PL} (h:MS w W s e t bk x y z Vs Ls Rs) {q:wQ} {l:List Fr} (r:W'.ownsRow w.heap.size 36 1 v' (Z Rs+1) (Rs.map (·.1)++[q])) (g:W.grownBy W' z.ownBlock) (f:dr W w.heap.size q l):
  bZ W' (w.heap.size+2) x y z/\MS w (AF W' ⟨w.heap.size+2,2,O⟩ v') s e t bk x y v' Vs Ls (Rs++[(q,l)]):=by
 have k:∀b:TypeId,b≠36 ->iu b W W':=fun b n=>iu.grown g (R3 h.rs.1) n;have X:bZ W' (w.heap.size+2) x y z:=k 26 a6 _ _ _ h.box;have a:∀b:TypeId,b≠26 ->iu b W' (AF W' ⟨w.heap.size+2,2,O⟩ v'):=fun b n=>iu.set X n 2 v';refine⟨X,?_,?_,X.set2 v',?_,?_,⟨?_,?_⟩,?_⟩
 ·exact a 47 a6 _ _ _ (k 47 a6 _ _ _ h.rb)
 ·exact(eO W' ⟨w.heap.size+2,2,O⟩ v' (w.heap.size+1) (by show w.heap.size+1≠w.heap.size+2;omega)).trans (k 26 a6 _ _ _ h.res)
 ·exact h.vs.keep ((k _ a6).trans (a _ a6)) ((k _ a6).trans (a _ a6))
 ·exact h.ls.keep ((k _ a6).trans (a _ a6)) ((k _ a6).trans (a _ a6))
 ·rw[gK,cD];exact rp r (a 36 a6)
 ·intro p c;have d:=(k 63 a6).trans (a 63 a6);rcases bH.1 c with c |c
  ·exact rp (h.rs.2 p c) d
  ·rw[bD.1 c];exact rp f d
 ·exact(Z6 h.bel h.rs.1 g).setCell (p:=⟨w.heap.size+2,2,O⟩) (by show w.heap.size<=w.heap.size+2;omega) _
structure VK (v:Nat) (Vs:List PV):Prop where
 len:Z Vs=v
 each:∀j (h:j<Z Vs),Vs[j].1=kr 110 j/\∃k,1<=k/\k<=3/\Vs[j].2.2=uZ k
theorem VK.snoc (h:VK v Vs) (q:wQ) (h1:1<=k) (a:k<=3):VK (v+1) (Vs++[(kr 110 v,q,uZ k)]):=by
 refine⟨by simp[h.len],fun j b=>?_⟩;rcases dR j (Z Vs) with l |g
 ·rw[ou l];exact h.each j l
 ·rw[uj g];have e:j=v:=by simp at b;have:=h.len;omega
  subst e;simp[h.len];exact⟨k,h1,a,rfl⟩
def iT (Vs:List PV):List Vr:=Vs.map fun p=>(p.1,p.2.2)
def jm (Ls:List PL):List Kx:=Ls.map (·.2)
def qC (Rs:List PR):List (List Fr):=Rs.map (·.2)
structure UD (bk:Bool) (n j:Nat) (l:Kx):Prop where
 up:Up l n
 few:Z l<=3
 rank:∀x∈l,if bk=xq then(j:Int)<x else x<(j:Int)
structure aaY (S:Jp) (j:Nat) (l:Kx) (r:List Fr):Prop where
 len:Z r=cnt S (ag l)*sz S j
 rows:∀i,i<cnt S (ag l) ->jl (fX r (sz S j) i)=xq
 small:∀f∈r,f.2.1.size+f.2.2.size<=2
structure Eb (bk:Bool) (n v:Nat) (S:Jp) (Ls:List PL) (Rs:List PR):Prop where
 len:Z Ls=v
 lenR:Z Rs=v
 pars:∀j (h:j<Z Ls),UD bk n j Ls[j].2
 rows:∀j (h:j<Z Ls) (h':j<Z Rs),aaY S j Ls[j].2 Rs[j].2
theorem Eb.snoc {Ls:List PL} (h:Eb bk n v S Ls Rs) {q c:wQ} {r:List Fr} (h1:UD bk n v l) (b:aaY S v l r):Eb bk n (v+1) S (Ls++[(q,l)]) (Rs++[(c,r)]):=by
 refine⟨by simp[h.len],by simp[h.lenR],fun j a=>?_,fun j a d=>?_⟩
 ·rcases dR j (Z Ls) with t |g
  ·rw[ou t];exact h.pars j t
  ·rw[uj g];(have e:j=v:=by simp at a;have:=h.len;omega);subst e;simpa [h.len] using h1
 ·rcases dR j (Z Ls) with t |g
  ·have z:j<Z Rs:=by have:=h.len;have:=h.lenR;omega
   rw[ou t,ou z];exact h.rows j t z
  ·have u:Z Rs<=j:=by have:=h.len;have:=h.lenR;omega
   rw[uj g,uj u];(have e:j=v:=by simp at a;have:=h.len;omega);subst e;simpa [h.len,h.lenR] using b
structure PP (bk:Bool) (n v u:Nat) (l:Kx):Prop where
 ok:UD bk n v l
 lt:∀x∈l,x<(u:Int)
theorem PP.nil (bk:Bool) (n v:Nat):PP bk n v 0 []:=⟨⟨dY.2 ⟨fun x h=>(gw h).elim,List.Pairwise.nil⟩,aE,fun x h=>(gw h).elim⟩,fun x h=>(gw h).elim⟩
theorem PP.skip {u:Nat} (h:PP bk n v u l):PP bk n v (u+1) l:=⟨h.ok,fun x a=>by have:=h.lt x a;omega⟩
theorem PP.snoc {u:Nat} (h:PP bk n v u l) (d:u<n) (c:Z l≠3) (r:if bk=xq then v<u else u<v):PP bk n v (u+1) (l++[(u:Int)]):=by
 refine⟨⟨dY.2 ⟨fun x a=>?_,?_⟩,?_,fun x a=>?_⟩,fun x a=>?_⟩
 ·rcases bH.1 a with a |a
  ·exact(dY.1 h.ok.up).1 x a
  ·rw[bD.1 a];omega
 ·rw[List.pairwise_append];refine⟨(dY.1 h.ok.up).2,EW _ _,fun x a y b=>?_⟩;rw[bD.1 b];exact h.lt x a
 ·have:=h.ok.few;simp;omega
 ·rcases bH.1 a with a |a
  ·exact h.ok.rank x a
  ·rw[bD.1 a];cases bk
   ·simp at r⊢;exact r
   ·simp at r⊢;exact r
 ·rcases bH.1 a with a |a
  ·have:=h.lt x a;omega
  ·rw[bD.1 a];omega
structure RP (s k:Nat) (r:List Fr):Prop where
 len:Z r=k*s
 rows:∀i,i< k ->jl (fX r s i)=xq
 small:∀f∈r,f.2.1.size+f.2.2.size<=2
theorem RP.nil (s:Nat):RP s 0 []:=⟨aE,fun i a=>al,fun f h=>by cases h⟩
theorem RP.snoc {s:Nat} {r l:List Fr} (h:RP s k r) (c:Z l=s) (o:jl l=xq) (j:∀f∈l,f.2.1.size+f.2.2.size<=2):RP s (k+1) (r++l):=by
 refine⟨by rw[cD,h.len,c,iG,lK],fun i p=>?_,fun f b=>?_⟩
 ·have m:i*s+s<=k*s∨i=k:=by
   rcases dR i k with a |a
   ·left
    have:=mn s a;rw[Nat.succ_mul] at this;exact this
   ·right;omega
  rcases m with m |rfl
  ·have d:i<k:=by
    rcases dR i k with a |a
    ·exact a
    ·have n:=mn s a;by_cases g:s=0
     ·subst g;have:l=[]:=Hm.1 c;subst this;exact absurd o a6
     ·omega
   have e:fX (r++l) s i=fX r s i:=by
    rw[fX,fX,List.drop_append_of_le_length (by rw[h.len];omega),VP (by rw[qi,h.len];omega)]
   rw[e];exact h.rows i d
  ·have e:fX (r++l) s i=l:=by
    rw[fX, <- h.len,List.drop_left, <- c,iP]
   rw[e];exact o
 ·rcases bH.1 b with b |b
  ·exact h.small f b
  ·exact j f b
theorem Av.Fd {W:wA} {B:Nat} {x:wQ} (h:Av W B x Vs):∃a c,x=J a (Z (iT Vs)) c/\tM W a (iT Vs):=by
 have n:Z (iT Vs)=Z Vs:=by simp[iT]
 obtain⟨a,c,rfl,_⟩:=rj h.1;refine⟨a,c,by rw[n],fun k f=>?_⟩;rw[n] at f;obtain⟨p,q⟩:=abZ Vs k f;obtain⟨g,rfl,r,i⟩:=KG h.1 (j:=k*2) (by rw[M5];omega);obtain⟨g',e,_,l⟩:=KG h.1 (j:=k*2+1) (by rw[M5];omega);cases e;rw[p] at i;rw[q] at l;have o:=h.2 Vs[k] (bQ f);obtain⟨b,cb,m,s⟩:=o.st
 have v:Vs[k].2.2.length<=cb:=by
  rcases o.2 with ⟨d,u⟩ |⟨t,cap,y,d,_,_,w,_⟩
  ·omega
  ·rw[m] at d;injection d with _ _ h6;omega
 refine⟨g,0,b,cb,rfl,r,?_,?_,?_,?_⟩
 ·rw[bK,i];simp[iT]
 ·rw[bK,l,m];simp[iT]
 ·simpa [iT] using s
 ·simpa [iT] using v
theorem Ax.pars {W:wA} {B:Nat} {Ls:List PL} (h:Ax W B y Ls):∃a c,y=J a (Z (jm Ls)) c/\ei W a (jm Ls)/\pU W a (jm Ls):=by
 have l:Z (jm Ls)=Z Ls:=by simp[jm]
 obtain⟨a,c,rfl,_⟩:=rj h.1
 have t:∀k (d:k<Z Ls),∃g,a=I ⟨g,0,O⟩/\g<W.heap.size/\∃b cb,AJ W ⟨g,k,O⟩=I (J b Ls[k].2.length cb)/\aC W b Ls[k].2/\(b=O ->cb=0):=fun k d=>by
  obtain⟨g,rfl,f,e⟩:=KG h.1 (j:=k) (by simpa using d);have r:=h.2 Ls[k] (bQ d);obtain⟨b,cb,m,n⟩:=rj r;obtain⟨u,T,q,s⟩:=r.ints;rw[m] at q;cases q;refine⟨g,rfl,f,b,cb,?_,s,n⟩;rw[e];simp[m]
 refine⟨a,c,by rw[l],fun k d=>?_,fun k d g o b z x v p n=>?_⟩
 ·rw[l] at d;obtain⟨g,rfl,f,b,cb,e,s,_⟩:=t k d;exact⟨g,0,b,cb,rfl,f,by rw[bK,e];simp[jm],by simpa [jm] using s⟩
 ·rw[l] at d;obtain⟨g',i,_,u,T,e,_,w⟩:=t k d;rw[v] at i;cases i;rw[bK,e] at p;cases p;exact w n
theorem Aw.rows {W:wA} {B:Nat} (h:Aw W B z Rs):∃a c,z=J a (Z (qC Rs)) c/\Mw W a (qC Rs):=by
 have l:Z (qC Rs)=Z Rs:=by simp[qC]
 obtain⟨a,c,rfl,_⟩:=rj h.1;refine⟨a,c,by rw[l],fun k e=>?_⟩;rw[l] at e;obtain⟨g,rfl,n,m⟩:=KG h.1 (j:=k) (by simpa using e);have i:=h.2 Rs[k] (bQ e);obtain⟨b,cb,f,s⟩:=i.fr
 have v:Rs[k].2.length<=cb:=by
  rcases i.2 with ⟨d,p⟩ |⟨o,cap,r,d,_,_,q,_⟩
  ·omega
  ·rw[f] at d;injection d with _ _ h6;omega
 exact⟨g,0,b,cb,rfl,n,by rw[bK,m];simp[qC,f],by simpa [qC] using s,by simpa [qC] using v⟩
theorem adz {W:wA} {x:wQ} {u:wQ} {a:TypeId} {b n:Nat} (o:W.ownsRow w.heap.size a b u n xs) (g:W.grownBy W' u.ownBlock) (c:bZ W' (w.heap.size+2) x y z) (t:TypeId) (h1:t≠a) (h:t≠26):iu t W (AF W' ⟨w.heap.size+2,j,O⟩ v'):=
 (iu.grown g (R3 o) h1).trans (iu.set c h j v')
structure SK (n:Nat) (S:Jp):Prop where
 len:Z S=n
 each:∀x∈S,1<=x/\x<=3
theorem VK.Fb (h:VK n Vs):SK n (ah (iT Vs)):=by
 refine⟨by simp[ah,iT,h.len],fun x g=>?_⟩;obtain⟨p,d,rfl⟩:=aQ.1 g;obtain⟨q,f,rfl⟩:=aQ.1 d;obtain⟨j,c,rfl⟩:=iQ f;obtain⟨_,k,a,b,e⟩:=h.each j c;show 1<=Vs[j].2.2.length/\Vs[j].2.2.length<=3;rw[e,Rj];exact⟨a,b⟩
theorem SK.fine (h:SK n S) (h1:1<=n) (c:n<=8):fJ (iL S):=by
 have l:=h.len;refine⟨by rw[bM];omega,by rw[bM];omega,fun v a=>?_⟩;have b:v<Z S:=by rw[bM] at a;exact a
 have e:(iL S)[v]=((S[v]'b:Nat):Int):=by simp[iL]
 have:=h.each _ (bQ b);rw[e];omega
theorem SK.sz (h:SK n S) (u:Nat):1<=sz S u/\sz S u<=3:=by
 rw[Go.Proofs.YtkflnpjapgiajaaGreatDoor.sz];cases e:S[u]? with
 |none=>exact⟨a6,a6⟩
 |some x=>exact h.each x (VS e)
theorem ah9 (h:SK n S) {l:Jp} (b:Z l<=3):1<=cnt S l/\cnt S l<=27:=by
 have c:=aav (S:=S) (fun v=>(h.sz v).2) l;have d:3^Z l<=3^3:=lJ al b
 have a:∀l:Jp,1<=cnt S l:=fun l=>by
  induction l with
  |nil=>exact ak _
  |cons v l ih=>exact MH (h.sz v).1 ih
 exact⟨a l,al⟩
theorem MS.out3 {W:wA} {t:wQ} {x:wQ} {Ls:List PL} (h:MS w W s e t bk x y z Vs Ls Rs):
  bZ (AF (AF (AF W ⟨w.heap.size+1,0,O⟩ x) ⟨w.heap.size+1,1,O⟩ y) ⟨w.heap.size+1,2,O⟩ z) (w.heap.size+1) x y z/\Av (AF (AF (AF W ⟨w.heap.size+1,0,O⟩ x) ⟨w.heap.size+1,1,O⟩ y) ⟨w.heap.size+1,2,O⟩ z) w.heap.size x Vs/\Ax (AF (AF (AF W ⟨w.heap.size+1,0,O⟩ x) ⟨w.heap.size+1,1,O⟩ y) ⟨w.heap.size+1,2,O⟩ z) w.heap.size y Ls/\Aw (AF (AF (AF W ⟨w.heap.size+1,0,O⟩ x) ⟨w.heap.size+1,1,O⟩ y) ⟨w.heap.size+1,2,O⟩ z) w.heap.size z Rs/\da w (AF (AF (AF W ⟨w.heap.size+1,0,O⟩ x) ⟨w.heap.size+1,1,O⟩ y) ⟨w.heap.size+1,2,O⟩ z):=by
 have b:=h.res.set0 x;have c:=b.set1 y;have d:=c.set2 z;have k:∀a:TypeId,a≠26 ->iu a W (AF (AF (AF W ⟨w.heap.size+1,0,O⟩ x) ⟨w.heap.size+1,1,O⟩ y) ⟨w.heap.size+1,2,O⟩ z):=fun a n=>((iu.set h.res n 0 x).trans (iu.set b n 1 y)).trans (iu.set c n 2 z);refine⟨d,h.vs.keep (k _ a6) (k _ a6),h.ls.keep (k _ a6) (k _ a6),h.rs.keep (k _ a6) (k _ a6),?_⟩;exact((h.bel.setCell (p:=⟨w.heap.size+1,0,O⟩) (by show w.heap.size<=w.heap.size+1;omega) _).setCell (p:=⟨w.heap.size+1,1,O⟩) (by show w.heap.size<=w.heap.size+1;omega) _).setCell (p:=⟨w.heap.size+1,2,O⟩) (by show w.heap.size<=w.heap.size+1;omega) _
def SI (p:Nat):Nat:=[2,2,3,2,1].getD p 2
theorem apA (p:Nat):1<=SI p/\SI p<=3:=by
 match p with
 |0=>decide
 |1=>decide
 |2=>decide
 |3=>decide
 |4=>decide
 |p+5=>exact⟨by show 1<=2;omega,by show 2<=3;omega⟩
theorem arJ (W:wA) {p:Nat} (h:p<5):AJ (AC W (yd #[E yR 2,E yR 2,E yR 3,E yR 2,E yR 1] 3)) ⟨W.heap.size,p,O⟩=I (E yR (SI p:Nat)):=by
 rw[a8 _ _ _ _ _ (0,0) (dU W _)];match p,h with
 |0,_=>rfl
 |1,_=>rfl
 |2,_=>rfl
 |3,_=>rfl
 |4,_=>rfl
def aug (w:wA) (e:Ending) (w':wA):Prop:=∃(bk:Bool) (n:Nat) (x y z:wQ) (Vs:List PV) (Ls:List PL) (Rs:List PR),e=yk (zp #[x,y,z])/\(1<=n/\n<=6)/\VK n Vs/\Eb bk n n (ah (iT Vs)) Ls Rs/\Av w' w.heap.size x Vs/\Ax w' w.heap.size y Ls/\Aw w' w.heap.size z Rs/\da w w'
def Cc (l:Kx):Prop:=Z l<=140737488355328/\∀x∈l, -9223372036854775808<=x/\x<=9223372036854775807
theorem apc (a1 Q R:Kd) (c1 B9 c3:Nat) (L L2 B2:Kx) (bk:Bool) (w:wA) (h1:aC w a1 L) (h2:aC w Q L2) (h3:aC w R B2) (r1:Cc L) (r2:Cc L2) (r3:Cc B2):
  c6 20 #[zp #[J a1 (Z L) c1,J Q (Z L2) B9,J R (Z B2) c3,zd bk]] w fun e w'=>aug w e w':=by
 have GZ:=Fa h1;have AH:=Fa h2;have cd:=Fa h3;have kI:=Fa r1.2;have eD:=Fa r2.2;have jd:=Fa r3.2;have jE:=r1.1;have dW:=r2.1;have ad:=r3.1;have Cm:=Fa (fun (i:Nat) (hi:i<=1000) (U:wA)=>adk i U hi);have vZ:=Fa (fun (i:Nat) (hi:i<=1000) (U:wA)=>adg i U hi);have pY:=Fa (fun (k:Nat) (hk:k<=3) (U:wA)=>ata k U hk);have Mj:=Fa (fun (c:Int) (h: -9223372036854775808<=c/\c<=9223372036854775807) (U:wA)=>Ku c 5 U h.1 h.2 al al);have xO:=Fa (fun (k:Nat) (hk:k<=100000) (n:Nat) (h1:1<=n) (dF:n<=3) (U:wA) (hU:aC U R B2)=>alP R c3 k n B2 U hU r3.2 hk h1 al r3.1);have bF:=Fa (fun (c:Int) (h: -9223372036854775808<=c/\c<=9223372036854775807) (U:wA)=>Ku c 2 U h.1 h.2 al al);clear h1 h2 h3 r1 r2 r3;have YL:((AC w (yd #[J a1 (Z L) c1,J Q (Z L2) B9,J R (Z B2) c3,zd bk] 47)).alloc (NC (J O 0 0) (J O 0 0) (J O 0 0))).heap[w.heap.size]? =I (yd #[J a1 (Z L) c1,J Q (Z L2) B9,J R (Z B2) c3,zd bk] 47 (0,0)):=(uY _ _ _ aE).trans (dU w _);have c0:AJ ((AC w (yd #[J a1 (Z L) c1,J Q (Z L2) B9,J R (Z B2) c3,zd bk] 47)).alloc (NC (J O 0 0) (J O 0 0) (J O 0 0))) ⟨w.heap.size,0,O⟩=I (J a1 (Z L) c1):=by rw[a8 _ _ _ _ _ (0,0) YL];rfl
 have U9:we (MS w (((AC w (yd #[J a1 (Z L) c1,J Q (Z L2) B9,J R (Z B2) c3,zd bk] 47)).alloc (NC (J O 0 0) (J O 0 0) (J O 0 0))).alloc (NC (J O 0 0) (J O 0 0) (J O 0 0))) (J a1 (Z L) c1) (J Q (Z L2) B9) (J R (Z B2) c3) bk (J O 0 0) (J O 0 0) (J O 0 0) [] [] []):=⟨(uY _ _ _ (by simp;omega)).trans YL,(bZ.at aE _ _ _).aa ((aw _ _).alloc (ak _) _) aE,bZ.at aE _ _ _,Av.nil _ _,Ax.nil _ _,Aw.nil _ _,(((aw _ w).alloc (ak _) _).alloc aE _).alloc (by simp;omega) _⟩;clear YL;go_enter func20,ntmps20;go_upto_if 23 with fail
 clear c0;generalize hW0:((AC w (yd #[J a1 (Z L) c1,J Q (Z L2) B9,J R (Z B2) c3,zd bk] 47)).alloc (NC (J O 0 0) (J O 0 0) (J O 0 0)))=W0 at *;go_cut [3] from 19 to 25 (fun s wx=>∃n:Nat,s=E yR (n:Nat)/\1<=n/\n<=140737488355328/\wx=W0)
 case first=>
  by_cases hl:Z L<1
  ·have bx:(Z L:Int)<1:=al
   go_wp2_with fail
   go_meet
   exact⟨1,rfl,al,al,rfl⟩
  ·have bx:(1:Int)<=(Z L:Int):=al
   go_wp2_with fail
   go_meet
   exact⟨Z L,rfl,al,al,rfl⟩
 case rest=>
 obtain⟨n0,rfl,cu,ct,bb⟩:=hcut;rw[bb];clear bb;go_upto_if 25 with fail
 go_cut [3] from 19 to 25 (fun s wx=>∃n:Nat,s=E yR (n:Nat)/\1<=n/\n<=6/\wx=W0)
 case first=>
  by_cases hl:6<n0
  ·have bx:(6:Int)<(n0:Int):=al
   go_wp2_with fail
   go_meet
   exact⟨6,rfl,al,al,rfl⟩
  ·have bx:(n0:Int)<=6:=al
   go_wp2_with fail
   go_meet
   exact⟨n0,rfl,al,al,rfl⟩
 case rest=>
 obtain⟨n,rfl,fW,zO,bb⟩:=hcut;rw[bb];clear bb cu ct;have cn:W0.heap.size=w.heap.size+2:=by rw[<- hW0];simp
 clear hW0;go_upto_region 7 with fail
 generalize (W0.alloc (NC (J O 0 0) (J O 0 0) (J O 0 0)))=W1 at *;clear cn;go_wp2_with fail
 go_loopw [5] (fun iv wr=>∃(v:Nat) (x:wQ) (Vs:List PV),v<=n/\iv=E yR v/\we (VK v Vs)/\we (MS w wr (J a1 (Z L) c1) (J Q (Z L2) B9) (J R (Z B2) c3) bk x (J O 0 0) (J O 0 0) Vs [] [])) (fun iv _=>n - (intOf iv).toNat)
 case atStart=>exact⟨0,_,[],aX _,rfl,⟨rfl,fun j hj=>absurd hj aE⟩,U9⟩
 case round=>
  obtain⟨v,x,Vs,hv,rfl,PY,m⟩:=hrel;clear U9;by_cases bg:v<n
  ·obtain⟨d0, -, -, -⟩:=m.o.cells;go_upto_if 36 with fail
   clear d0;go_cut [6] from 27 to 58 (fun s wx=>∃k:Nat,s=E yR (k:Nat)/\1<=k/\k<=3/\we (MS w wx (J a1 (Z L) c1) (J Q (Z L2) B9) (J R (Z B2) c3) bk x (J O 0 0) (J O 0 0) Vs [] []))
   case first=>
    by_cases gM:v<Z L
    ·have ck:(v:Int)<(Z L:Int):=al
     have B6:da wr (AC wr (yd #[E yR 2,E yR 2,E yR 3,E yR 2,E yR 1] 3)):=(aw _ wr).alloc (ak _) _;have DG:=m.o.step B6;obtain⟨d0, -, -, -⟩:=DG.cells;obtain⟨g',o',rfl,iA,cs⟩:=(GZ.o.aa DG.bel) v gM;have AD:=Fa (fun U=>Mj.o L[v] (kI.o _ (bQ gM)) U);have c8:=KD L[v] (n:=5) al;have h5:=arJ wr c8;have zR:=apA (tC L[v] 5);generalize L[v]=lv at *;generalize tC lv 5=pk at *;generalize SI pk=kk at *;have mP:=Fa DG;clear DG B6;go_wp2_with (go_at_call 21;refine(AD.o _).af ?_;rintro e w2 ⟨rfl,A⟩;have dK:=(A.cell (p:=⟨wr.heap.size,pk,O⟩) aE).trans h5;have kJ:=Fa (mP.o.step A))
     go_meet
     exact⟨kk,rfl,zR.1,zR.2,kJ⟩
    ·have ck:(Z L:Int)<=(v:Int):=al
     go_wp2_with fail
     go_meet
     exact⟨2,rfl,al,al,m⟩
   case rest=>
   obtain⟨k,rfl,Dr,bw,bC⟩:=hcut;clear m;go_wp2_with fail
   refine(Cm.o v al _).af ?_;rintro e w1 ⟨rfl,aj⟩;go_wp2_with fail
   refine(vZ.o v al _).af ?_;rintro e Jd ⟨rfl,cb⟩;have M:=(bC.o.step aj).step cb;have dO:=aap (i:=v) al;clear aj cb bC;go_upto_region 14 with fail
   replace M:=M.step (aw _ _).drew;refine iD (S:=fun _=>True) ao trivial (fun D=>?_);generalize Jd.drew=u0 at *;have ab:=M.box.cells.1;refine au 0 (zZ (I ⟨w.heap.size+2,0,O⟩)) ?_;(try simp only[gE,aP]);refine au 2 (zX (LH v)) ?_;(try simp only[gE,aP]);refine au 3 (zX (kr 110 v)) ?_;(try simp only[gE,aP]);refine au 4 (E yR (k:Nat)) ?_;(try simp only[gE,aP]);refine aG [1,5] (cA ?_ (cA ?_ aH))
   focus
    intro g K;go_simp;refine K.o _ _ trivial (fun _=>?_);clear K g;(try simp only[gE,aP]);refine aG [5] (cA ?_ aH);intro g K;go_simp;refine(pY.o k bw _).af ?_;rintro e u1 ⟨az,rfl,vB,A⟩;have hq:lD u1 w.heap.size az (uZ k):=Nz vB M.bel.size;replace M:=M.step A;(obtain⟨X,Y,V,rfl⟩:∃a n c,az=J a n c:=by obtain⟨a,c,e,_⟩:=rj hq;exact⟨_,_,_,e⟩);refine K.o _ _ trivial (fun _=>?_);clear A vB ab;have ab:=M.box.cells.1;clear K g;(try simp only[gE,aP]);refine au 6 (zp #[zX (kr 110 v),J X Y V]) ?_;(try simp only[gE,aP]);refine aG [7] (cA ?_ aH);intro g K;go_simp;obtain⟨bm,aj⟩:=Ke u1 (zX (kr 110 v)) (J X Y V);have B6:=(aw _ u1).alloc (ak _) (VC (zX (kr 110 v)) (J X Y V));replace M:=M.step B6;replace hq:=lD.step hq B6;refine K.o _ _ trivial (fun _=>?_);generalize (u1.alloc (VC (zX (kr 110 v)) (J X Y V)))=u2 at *;generalize u1.heap.size=gq at *;clear B6 ab;have ab:=M.box.cells.1
   rotate_left
   focus
    intro g K;go_simp;refine(pY.o k bw _).af ?_;rintro e u1 ⟨az,rfl,vB,A⟩;have hq:lD u1 w.heap.size az (uZ k):=Nz vB M.bel.size;replace M:=M.step A;(obtain⟨X,Y,V,rfl⟩:∃a n c,az=J a n c:=by obtain⟨a,c,e,_⟩:=rj hq;exact⟨_,_,_,e⟩);refine K.o _ _ trivial (fun _=>?_);clear A vB ab;have ab:=M.box.cells.1;clear K g;(try simp only[gE,aP]);refine au 6 (zp #[zX (kr 110 v),J X Y V]) ?_;(try simp only[gE,aP]);refine aG [1,7] (cA ?_ (cA ?_ aH))
    focus
     intro g K;go_simp;refine K.o _ _ trivial (fun _=>?_);clear K g;(try simp only[gE,aP]);refine aG [7] (cA ?_ aH);intro g K;go_simp;obtain⟨bm,aj⟩:=Ke u1 (zX (kr 110 v)) (J X Y V);have B6:=(aw _ u1).alloc (ak _) (VC (zX (kr 110 v)) (J X Y V));replace M:=M.step B6;replace hq:=lD.step hq B6;refine K.o _ _ trivial (fun _=>?_);generalize (u1.alloc (VC (zX (kr 110 v)) (J X Y V)))=u2 at *;generalize u1.heap.size=gq at *;clear B6 ab;have ab:=M.box.cells.1
    rotate_left
    focus
     intro g K;go_simp;obtain⟨bm,aj⟩:=Ke u1 (zX (kr 110 v)) (J X Y V);have B6:=(aw _ u1).alloc (ak _) (VC (zX (kr 110 v)) (J X Y V));replace M:=M.step B6;replace hq:=lD.step hq B6;refine K.o _ _ trivial (fun _=>?_);generalize (u1.alloc (VC (zX (kr 110 v)) (J X Y V)))=u2 at *;generalize u1.heap.size=gq at *;clear B6 ab;have ab:=M.box.cells.1;clear K g;(try simp only[gE,aP]);refine aG [1] (cA ?_ aH);intro g K;go_simp;refine K.o _ _ trivial (fun _=>?_)
   all_goals
    clear K g;(try simp only[gE,aP]);refine aG [8] (cA ?_ aH);intro g K;rw[aA (by rfl)];refine ajy _ _ rfl w.heap.size x Vs (kr 110 v) (J X Y V) ⟨_,_,_,rfl⟩ rfl M.vs.1 gq rfl bm aj (by have:=PY.o.len;omega) (by have:=M.lt;omega) ?_;intro v' u4 an ay;obtain⟨d4,Ao,rfl, -⟩:=rj an;have P:=M.pushV an ay hq;refine K.o _ _ trivial (fun _=>?_);clear M an ay hq bm aj ab K g;(try simp only[gE,aP]);have c4:=P.1.cells.1;have Y0:u4.frozen? ⟨w.heap.size+2,0,O⟩=false:=eA _ _ 0 _ _ P.1;refine au 9 (zZ (I ⟨w.heap.size+2,0,O⟩)) ?_;(try simp only[gE,aP]);refine aG [10] (cA ?_ aH);intro g K;go_simp;refine K.o _ _ trivial (fun _=>eV ao ?_ _);clear K g c4 Y0;have UZ:=Fa P.2;clear P;go_wp2;go_roundw
    case rel=>exact⟨v+1,_,_,al,bd,PY.o.snoc (J X Y V) Dr bw,UZ⟩
    case measure=>simp[intOf];omega
  ·obtain rfl:n=v:=al
   obtain⟨ax,cx,rfl,eH⟩:=m.o.vs.Fd;(have ca:Z (iT Vs)=n:=by simp[iT,PY.o.len]);have ie:=Fa (fun U hU=>ama ax O O cx 0 0 0 0 (iT Vs) U hU al);have b8:=PY.o.Fb;have uN:=Fa eH;have uP:we (ah (iT Vs)=ah (iT Vs)):=rfl;rw[ca] at ie m;generalize H:ah (iT Vs)=S at *;have Jm:=Fa H;have wh:=Fa b8;clear H b8 eH uP;obtain⟨e0,e1,e2⟩:=m.o.box.cells;go_wp2_with fail
   refine(ie.o _ uN.o).af ?_;rintro e W2 ⟨xv,rfl,BM,A⟩;(have cW:Z (iL S)=n:=by rw[bM];exact wh.o.len);obtain⟨aW,LS,DW, -⟩:=rj BM;rw[cW] at DW;subst DW;have lF:we (bS W2 w.heap.size (J aW n LS) (iL S)):=Nz BM m.o.bel.size;have kJ:=Fa (m.o.step A);clear BM A e0 e1 e2 m ie uN ca bg hv;generalize hxg:Value.slice ax n cx=x at *;clear hxg;go_wp2_with fail
   go_loopw [8,9,11] (fun ev av iv wr=>∃(v e aR:Nat) (y z:wQ) (Ls:List PL) (Rs:List PR),v<=n/\iv=E yR v/\ev=E yR (e:Nat)/\av=E yR (aR:Nat)/\e<=6*v/\aR<=81*v/\we (Eb bk n v S Ls Rs)/\we (MS w wr (J a1 (Z L) c1) (J Q (Z L2) B9) (J R (Z B2) c3) bk x y z Vs Ls Rs)/\we (bS wr w.heap.size (J aW n LS) (iL S))) (fun _ _ iv _=>n - (intOf iv).toNat)
   case atStart=>exact⟨0,0,0,_,_,[],[],aX _,rfl,rfl,rfl,ak _,ak _,⟨rfl,rfl,fun j hj=>absurd hj aE,fun j hj=>absurd hj aE⟩,kJ,lF⟩
   case round=>
    obtain⟨v,e,aR,y,z,Ls,Rs,hv,rfl,rfl,rfl,dP,di,Mq,m,HS⟩:=hrel;clear kJ lF;by_cases bg:v<n
    ·go_wp2_with fail
     generalize wr=wb at *;go_loopw [8,12,13] (fun ev pv uv rW=>∃(u q:Nat) (d:Kx),u<=n/\uv=E yR u/\ev=E yR (q:Nat)/\q<=e+u/\we (PP bk n v u d)/\we (bS rW wb.heap.size pv d)/\we (da wb rW)) (fun _ _ uv _=>n - (intOf uv).toNat)
     case atStart=>exact⟨0,e,[],aX _,rfl,rfl,ak _,PP.nil bk n v,bS.emptyB _ _,aw _ _⟩
     case round=>
      obtain⟨u,q,d,hu,rfl,rfl,dS,yV,jW,B1⟩:=hrel;by_cases BI:u<n
      ·generalize wr=rW at *;obtain⟨dp,cp,zM, -⟩:=rj jW.o;subst zM;have f:=m.o.step B1.o;obtain⟨-, -, -,d3⟩:=f.cells;have OL:=yV.o.ok.few;have Li:q<=1000:=al
       cases bk
       case true=>
        by_cases hs:(u:Int)<=(v:Int)
        ·go_wp2;go_roundw
         case rel=>exact⟨u+1,q,d,al,bd,rfl,al,yV.o.skip,jW,B1⟩
         case measure=>simp[intOf];omega
        ·have hk:(v:Int)<(u:Int):=al
         clear hs;by_cases ad:Z d=3
         ·have kT:((Z d:Int)==3)=true:=by rw[ad];rfl
          clear ad;go_wp2;go_roundw
          case rel=>exact⟨u+1,q,d,al,bd,rfl,al,yV.o.skip,jW,B1⟩
          case measure=>simp[intOf];omega
         ·have kT:((Z d:Int)==3)=false:=by
           (have:¬(Z d:Int)=3:=al);simpa using this
          (have vz:if xq=xq then v<u else u<v:=by simp;omega);go_upto_region 26 with fail
          clear d3 kT;have cj:da rW rW.drew:=(aw _ _).drew;go_cut [109] from 66 to 115 (fun s wx=>∃b:Bool,s=zd b/\we (da rW wx))
          case first=>
           by_cases T:0<Z L2
           ·obtain⟨t,ht⟩:∃t,t=q % Z L2:=⟨_,rfl⟩;(have nG:t<Z L2:=by rw[ht];exact jh _ T);(have Od:(q:Int) % (Z L2:Int)=(t:Int):=by rw[ht,wK]);(have ae:IntKind.i64.wrap (t:Int)=(t:Int):=by rw[jx];omega);(have Yo:IntKind.i64.wrap ((q:Int) % (Z L2:Int))=(t:Int):=by rw[Od];exact ae);(have Ow:(0:Int)<(Z L2:Int):=al);(have cB:¬(Z L2:Int)=0:=al);have Qh:=Fa (fun U=>bF.o L2[t] (eD.o _ (bQ nG)) U);obtain⟨B7,F,rfl,bf,cs⟩:=AH.o t nG;have AR:=Fa cs;generalize L2[t]=lt at *;generalize tC lt 2=pk at *;obtain⟨b,sH⟩:∃b:Bool,((pk:Int)==0)=b:=⟨_,rfl⟩;(have cr:(pk==0)=b:=by rw[<- sH];cases pk<;>rfl);have bs:=Fa T;(have GP:we (¬L2=[]):=fun h=>by rw[h] at T;exact absurd T aE);(have P6:we ((q:Int).tmod (Z L2:Int)=(t:Int)):=by rw[ht];rfl);clear cs ht T;replace f:=f.step (aw _ _).drew;refine iD (S:=fun u=>AJ u ⟨w.heap.size,1,O⟩=I (J (I ⟨B7,F,O⟩) (Z L2) B9)/\u.cell? ⟨B7,F+t,O⟩=I (E yR lt)) ao ⟨f.cells.2.1,(f.bel.cell (p:=⟨B7,F+t,O⟩) bf).trans AR.o⟩ (fun D=>?_);generalize rW.drew=u0 at *;refine au 0 (zZ (I ⟨w.heap.size,1,O⟩)) ?_;(try simp only[gE,aP]);refine au 1 (J (I ⟨B7,F,O⟩) (Z L2) B9) ?_;(try simp only[gE,aP]);refine au 2 (E yR (Z L2:Nat)) ?_;(try simp only[gE,aP]);refine dt 3 (zd xq) ?_ ?_
            ·intro u' aM;go_simp;exact bs.o
            (try simp only[gE,aP]);refine au 4 (zd xq) ?_;(try simp only[gE,aP]);refine au 5 (zZ (I ⟨w.heap.size,1,O⟩)) ?_;(try simp only[gE,aP]);refine au 6 (J (I ⟨B7,F,O⟩) (Z L2) B9) ?_;(try simp only[gE,aP]);refine au 7 (E yR (q:Nat)) ?_;(try simp only[gE,aP]);refine au 8 (zZ (I ⟨w.heap.size,1,O⟩)) ?_;(try simp only[gE,aP]);refine au 9 (J (I ⟨B7,F,O⟩) (Z L2) B9) ?_;(try simp only[gE,aP]);refine au 10 (E yR (Z L2:Nat)) ?_;(try simp only[gE,aP]);refine dt 11 (E yR (t:Nat)) ?_ ?_
            ·intro u' aM;go_simp;rw[aD GP.o,P6.o]
            (try simp only[gE,aP]);refine au 12 (zZ (I ⟨B7,F+t,O⟩)) ?_;(try simp only[gE,aP]);refine au 13 (E yR lt) ?_;(try simp only[gE,aP]);refine aG [14] (cA ?_ aH);intro g K;go_simp;refine(Qh.o _).af ?_;rintro _ u1 ⟨rfl,A⟩;replace f:=f.step A;replace cj:=cj.trans (A.af cj.size);refine K.o _ _ ⟨f.cells.2.1,(f.bel.cell (p:=⟨B7,F+t,O⟩) bf).trans AR.o⟩ (fun H=>?_);clear A K g D;have D:=H;clear H;(try simp only[gE,aP]);refine au 15 (zd b) ?_;(try simp only[gE,aP]);refine au 16 (zd b) ?_;(try simp only[gE,aP]);refine eV ao ?_ _;clear D;go_wp2_with fail
            go_meet
            exact⟨b,rfl,cj⟩
           ·have Ow:¬(0:Int)<(Z L2:Int):=al
            have cw:decide ((0:Int)<(Z L2:Int))=false:=cT Ow;have cv:¬0<Z L2:=T;clear T;replace f:=f.step (aw _ _).drew;refine iD (S:=fun u=>AJ u ⟨w.heap.size,1,O⟩=I (J Q (Z L2) B9)) ao f.cells.2.1 (fun D=>?_);generalize rW.drew=u0 at *;refine au 0 (zZ (I ⟨w.heap.size,1,O⟩)) ?_;(try simp only[gE,aP]);refine au 1 (J Q (Z L2) B9) ?_;(try simp only[gE,aP]);refine au 2 (E yR (Z L2:Nat)) ?_;(try simp only[gE,aP]);refine au 3 (zd x3) ?_;(try simp only[gE,aP]);refine au 4 (zd x3) ?_;(try simp only[gE,aP]);refine od (i:=5) (oi:=_) (v:=wd) rfl ao ao ao (fun _ _ _ h=>h) (Or.inr ⟨by rfl,rfl⟩) b5 ?_;(try simp only[gE,aP]);refine od (i:=6) (oi:=_) (v:=wd) rfl ao ao ao (fun _ _ _ h=>h) (Or.inr ⟨by rfl,rfl⟩) b5 ?_;(try simp only[gE,aP]);refine od (i:=7) (oi:=_) (v:=wd) rfl ao ao ao (fun _ _ _ h=>h) (Or.inr ⟨by rfl,rfl⟩) b5 ?_;(try simp only[gE,aP]);refine od (i:=8) (oi:=_) (v:=wd) rfl ao ao ao (fun _ _ _ h=>h) (Or.inr ⟨by rfl,rfl⟩) b5 ?_;(try simp only[gE,aP]);refine od (i:=9) (oi:=_) (v:=wd) rfl ao ao ao (fun _ _ _ h=>h) (Or.inr ⟨by rfl,rfl⟩) b5 ?_;(try simp only[gE,aP])
            refine od (i:=10) (oi:=_) (v:=wd) rfl ao ao ao (fun _ _ _ h=>h) (Or.inr ⟨by rfl,rfl⟩) b5 ?_;(try simp only[gE,aP]);refine od (i:=11) (oi:=_) (v:=wd) rfl ao ao ao (fun _ _ _ h=>h) (Or.inr ⟨by rfl,rfl⟩) b5 ?_;(try simp only[gE,aP]);refine od (i:=12) (oi:=_) (v:=wd) rfl ao ao ao (fun _ _ _ h=>h) (Or.inr ⟨by rfl,rfl⟩) b5 ?_;(try simp only[gE,aP]);refine od (i:=13) (oi:=_) (v:=wd) rfl ao ao ao (fun _ _ _ h=>h) (Or.inr ⟨by rfl,rfl⟩) b5 ?_;(try simp only[gE,aP]);refine aG [14] (cA ?_ aH);intro g K;go_simp;refine K.o _ _ D (fun H=>?_);clear K g D;have D:=H;clear H;(try simp only[gE,aP]);refine od (i:=15) (oi:=_) (v:=wd) rfl ao ao ao (fun _ _ _ h=>h) (Or.inr ⟨by rfl,rfl⟩) b5 ?_;(try simp only[gE,aP]);refine au 16 (zd x3) ?_;(try simp only[gE,aP]);refine eV ao ?_ _;clear D;go_wp2_with fail
            go_meet
            exact⟨x3,rfl,cj⟩
          case rest=>
          obtain⟨b,rfl,tj⟩:=hcut;have Jo:=Fa (jW.o.aa tj.o);have EK:=Fa (B1.o.trans (tj.o.af B1.o.size));clear jW B1 f cj;cases b
          case false=>
           clear tj;go_wp2;go_roundw
           case rel=>exact⟨u+1,q+1,d,al,bd,bd,al,yV.o.skip,Jo,EK⟩
           case measure=>simp[intOf];omega
          case true=>
           clear tj;have l5:=Fa (Jo.o.aa ((aw _ wc).alloc (ak _) (yd #[E yR (u:Int)] 3)));have dQ:=Fa (EK.o.alloc EK.o.size (yd #[E yR (u:Int)] 3));have nX:=Fa (tE wc (u:Int));have gY:wb.heap.size<=(AC wc (yd #[E yR (u:Int)] 3)).heap.size:=dQ.o.size;have uU:=Fa (yV.o.snoc BI ad vz);clear Jo EK;go_wp2_with (at_builtin;refine CW rfl _ _ rfl wb.heap.size _ d [(u:Int)] rfl l5.o (I ⟨wc.heap.size,0,O⟩) 1 rfl nX.o (fun e=>by cases e) (by simp;omega) gY ?_;intro v' w3 bz bu;have eE:=Fa (dQ.o.grown bu gY (fun k e=>R7 l5.o k e)))
           go_roundw
           case rel=>exact⟨u+1,q+1,d++[(u:Int)],al,bd,bd,al,uU,bz,eE⟩
           case measure=>simp[intOf];omega
       case false=>
        by_cases hs:(v:Int)<=(u:Int)
        ·go_wp2;go_roundw
         case rel=>exact⟨u+1,q,d,al,bd,rfl,al,yV.o.skip,jW,B1⟩
         case measure=>simp[intOf];omega
        ·have hk:(u:Int)<(v:Int):=al
         clear hs;by_cases ad:Z d=3
         ·have kT:((Z d:Int)==3)=true:=by rw[ad];rfl
          clear ad;go_wp2;go_roundw
          case rel=>exact⟨u+1,q,d,al,bd,rfl,al,yV.o.skip,jW,B1⟩
          case measure=>simp[intOf];omega
         ·have kT:((Z d:Int)==3)=false:=by
           (have:¬(Z d:Int)=3:=al);simpa using this
          (have vz:if x3=xq then v<u else u<v:=by simp;omega);go_upto_region 26 with fail
          clear d3 kT;have cj:da rW rW.drew:=(aw _ _).drew;go_cut [109] from 66 to 115 (fun s wx=>∃b:Bool,s=zd b/\we (da rW wx))
          case first=>
           by_cases T:0<Z L2
           ·obtain⟨t,ht⟩:∃t,t=q % Z L2:=⟨_,rfl⟩;(have nG:t<Z L2:=by rw[ht];exact jh _ T);(have Od:(q:Int) % (Z L2:Int)=(t:Int):=by rw[ht,wK]);(have ae:IntKind.i64.wrap (t:Int)=(t:Int):=by rw[jx];omega);(have Yo:IntKind.i64.wrap ((q:Int) % (Z L2:Int))=(t:Int):=by rw[Od];exact ae);(have Ow:(0:Int)<(Z L2:Int):=al);(have cB:¬(Z L2:Int)=0:=al);have Qh:=Fa (fun U=>bF.o L2[t] (eD.o _ (bQ nG)) U);obtain⟨B7,F,rfl,bf,cs⟩:=AH.o t nG;have AR:=Fa cs;generalize L2[t]=lt at *;generalize tC lt 2=pk at *;obtain⟨b,sH⟩:∃b:Bool,((pk:Int)==0)=b:=⟨_,rfl⟩;(have cr:(pk==0)=b:=by rw[<- sH];cases pk<;>rfl);have bs:=Fa T;(have GP:we (¬L2=[]):=fun h=>by rw[h] at T;exact absurd T aE);(have P6:we ((q:Int).tmod (Z L2:Int)=(t:Int)):=by rw[ht];rfl);clear cs ht T;replace f:=f.step (aw _ _).drew;refine iD (S:=fun u=>AJ u ⟨w.heap.size,1,O⟩=I (J (I ⟨B7,F,O⟩) (Z L2) B9)/\u.cell? ⟨B7,F+t,O⟩=I (E yR lt)) ao ⟨f.cells.2.1,(f.bel.cell (p:=⟨B7,F+t,O⟩) bf).trans AR.o⟩ (fun D=>?_);generalize rW.drew=u0 at *;refine au 0 (zZ (I ⟨w.heap.size,1,O⟩)) ?_;(try simp only[gE,aP]);refine au 1 (J (I ⟨B7,F,O⟩) (Z L2) B9) ?_;(try simp only[gE,aP]);refine au 2 (E yR (Z L2:Nat)) ?_;(try simp only[gE,aP]);refine dt 3 (zd xq) ?_ ?_
            ·intro u' aM;go_simp;exact bs.o
            (try simp only[gE,aP]);refine au 4 (zd xq) ?_;(try simp only[gE,aP]);refine au 5 (zZ (I ⟨w.heap.size,1,O⟩)) ?_;(try simp only[gE,aP]);refine au 6 (J (I ⟨B7,F,O⟩) (Z L2) B9) ?_;(try simp only[gE,aP]);refine au 7 (E yR (q:Nat)) ?_;(try simp only[gE,aP]);refine au 8 (zZ (I ⟨w.heap.size,1,O⟩)) ?_;(try simp only[gE,aP]);refine au 9 (J (I ⟨B7,F,O⟩) (Z L2) B9) ?_;(try simp only[gE,aP]);refine au 10 (E yR (Z L2:Nat)) ?_;(try simp only[gE,aP]);refine dt 11 (E yR (t:Nat)) ?_ ?_
            ·intro u' aM;go_simp;rw[aD GP.o,P6.o]
            (try simp only[gE,aP]);refine au 12 (zZ (I ⟨B7,F+t,O⟩)) ?_;(try simp only[gE,aP]);refine au 13 (E yR lt) ?_;(try simp only[gE,aP]);refine aG [14] (cA ?_ aH);intro g K;go_simp;refine(Qh.o _).af ?_;rintro _ u1 ⟨rfl,A⟩;replace f:=f.step A;replace cj:=cj.trans (A.af cj.size);refine K.o _ _ ⟨f.cells.2.1,(f.bel.cell (p:=⟨B7,F+t,O⟩) bf).trans AR.o⟩ (fun H=>?_);clear A K g D;have D:=H;clear H;(try simp only[gE,aP]);refine au 15 (zd b) ?_;(try simp only[gE,aP]);refine au 16 (zd b) ?_;(try simp only[gE,aP]);refine eV ao ?_ _;clear D;go_wp2_with fail
            go_meet
            exact⟨b,rfl,cj⟩
           ·have Ow:¬(0:Int)<(Z L2:Int):=al
            have cw:decide ((0:Int)<(Z L2:Int))=false:=cT Ow;have cv:¬0<Z L2:=T;clear T;replace f:=f.step (aw _ _).drew;refine iD (S:=fun u=>AJ u ⟨w.heap.size,1,O⟩=I (J Q (Z L2) B9)) ao f.cells.2.1 (fun D=>?_);generalize rW.drew=u0 at *;refine au 0 (zZ (I ⟨w.heap.size,1,O⟩)) ?_;(try simp only[gE,aP]);refine au 1 (J Q (Z L2) B9) ?_;(try simp only[gE,aP]);refine au 2 (E yR (Z L2:Nat)) ?_;(try simp only[gE,aP]);refine au 3 (zd x3) ?_;(try simp only[gE,aP]);refine au 4 (zd x3) ?_;(try simp only[gE,aP]);refine od (i:=5) (oi:=_) (v:=wd) rfl ao ao ao (fun _ _ _ h=>h) (Or.inr ⟨by rfl,rfl⟩) b5 ?_;(try simp only[gE,aP]);refine od (i:=6) (oi:=_) (v:=wd) rfl ao ao ao (fun _ _ _ h=>h) (Or.inr ⟨by rfl,rfl⟩) b5 ?_;(try simp only[gE,aP]);refine od (i:=7) (oi:=_) (v:=wd) rfl ao ao ao (fun _ _ _ h=>h) (Or.inr ⟨by rfl,rfl⟩) b5 ?_;(try simp only[gE,aP]);refine od (i:=8) (oi:=_) (v:=wd) rfl ao ao ao (fun _ _ _ h=>h) (Or.inr ⟨by rfl,rfl⟩) b5 ?_;(try simp only[gE,aP]);refine od (i:=9) (oi:=_) (v:=wd) rfl ao ao ao (fun _ _ _ h=>h) (Or.inr ⟨by rfl,rfl⟩) b5 ?_;(try simp only[gE,aP])
            refine od (i:=10) (oi:=_) (v:=wd) rfl ao ao ao (fun _ _ _ h=>h) (Or.inr ⟨by rfl,rfl⟩) b5 ?_;(try simp only[gE,aP]);refine od (i:=11) (oi:=_) (v:=wd) rfl ao ao ao (fun _ _ _ h=>h) (Or.inr ⟨by rfl,rfl⟩) b5 ?_;(try simp only[gE,aP]);refine od (i:=12) (oi:=_) (v:=wd) rfl ao ao ao (fun _ _ _ h=>h) (Or.inr ⟨by rfl,rfl⟩) b5 ?_;(try simp only[gE,aP]);refine od (i:=13) (oi:=_) (v:=wd) rfl ao ao ao (fun _ _ _ h=>h) (Or.inr ⟨by rfl,rfl⟩) b5 ?_;(try simp only[gE,aP]);refine aG [14] (cA ?_ aH);intro g K;go_simp;refine K.o _ _ D (fun H=>?_);clear K g D;have D:=H;clear H;(try simp only[gE,aP]);refine od (i:=15) (oi:=_) (v:=wd) rfl ao ao ao (fun _ _ _ h=>h) (Or.inr ⟨by rfl,rfl⟩) b5 ?_;(try simp only[gE,aP]);refine au 16 (zd x3) ?_;(try simp only[gE,aP]);refine eV ao ?_ _;clear D;go_wp2_with fail
            go_meet
            exact⟨x3,rfl,cj⟩
          case rest=>
          obtain⟨b,rfl,tj⟩:=hcut;have Jo:=Fa (jW.o.aa tj.o);have EK:=Fa (B1.o.trans (tj.o.af B1.o.size));clear jW B1 f cj;cases b
          case false=>
           clear tj;go_wp2;go_roundw
           case rel=>exact⟨u+1,q+1,d,al,bd,bd,al,yV.o.skip,Jo,EK⟩
           case measure=>simp[intOf];omega
          case true=>
           clear tj;have l5:=Fa (Jo.o.aa ((aw _ wc).alloc (ak _) (yd #[E yR (u:Int)] 3)));have dQ:=Fa (EK.o.alloc EK.o.size (yd #[E yR (u:Int)] 3));have nX:=Fa (tE wc (u:Int));have gY:wb.heap.size<=(AC wc (yd #[E yR (u:Int)] 3)).heap.size:=dQ.o.size;have uU:=Fa (yV.o.snoc BI ad vz);clear Jo EK;go_wp2_with (at_builtin;refine CW rfl _ _ rfl wb.heap.size _ d [(u:Int)] rfl l5.o (I ⟨wc.heap.size,0,O⟩) 1 rfl nX.o (fun e=>by cases e) (by simp;omega) gY ?_;intro v' w3 bz bu;have eE:=Fa (dQ.o.grown bu gY (fun k e=>R7 l5.o k e)))
           go_roundw
           case rel=>exact⟨u+1,q+1,d++[(u:Int)],al,bd,bd,al,uU,bz,eE⟩
           case measure=>simp[intOf];omega
      ·obtain rfl:n=u:=al
       obtain⟨dp,cp,zM, -⟩:=rj jW.o;subst zM;have f:=m.o.step B1.o;have vM:=HS.o.aa B1.o;have b6:bS wr w.heap.size (J dp (Z d) cp) d:=Nz jW.o m.o.bel.size;obtain⟨dy,cy,Yh, -⟩:=rj f.ls.1;subst Yh;have B6:da wr (AC wr (yd #[J dp (Z d) cp] 27)):=(aw _ wr).alloc (ak _) _;have DG:=f.step B6;have b7:=vM.aa B6;have O3:=b6.aa B6;have dc:=DG.box.cells.2.1;have ch:=f.box.cells.2.1;have mQ:=Fa ((bE wr 27 (J dp (Z d) cp)).cell);have gY:w.heap.size<=(AC wr (yd #[J dp (Z d) cp] 27)).heap.size:=DG.bel.size;have mP:=Fa DG;have k6:=Fa b7;have Es:=Fa O3;clear f vM b6 DG b7 O3 m HS jW B1 dc B6;go_wp2_with (at_builtin;refine ajG rfl _ _ rfl w.heap.size _ Ls (J dp (Z d) cp) ⟨_,_,_,rfl⟩ rfl mP.o.ls.1 wr.heap.size rfl mQ.o (by have:=Mq.o.len;omega) gY ?_;intro v4 W4 an ay;obtain⟨d4,Ao,rfl, -⟩:=rj an;have P:=mP.o.pushL an ay Es.o;have c7:=P.1.cells.2.1;have Y0:W4.frozen? ⟨w.heap.size+2,1,O⟩=false:=eA _ _ 1 _ _ P.1;have UZ:=Fa P.2;have bo:=Fa (adz (j:=1) (v':=J d4 (Z Ls+1) Ao) mP.o.ls.1 ay P.1 3 a6 a6);clear P an ay)
       clear c7 Y0 ch;have El:we (bS (AF W4 ⟨w.heap.size+2,1,O⟩ (J d4 (Z Ls+1) Ao)) w.heap.size (J aW n LS) (iL S)):=rp k6.o bo.o;have b0:we (bS (AF W4 ⟨w.heap.size+2,1,O⟩ (J d4 (Z Ls+1) Ao)) w.heap.size (J dp (Z d) cp) d):=rp Es.o bo.o;generalize (AF W4 ⟨w.heap.size+2,1,O⟩ (J d4 (Z Ls+1) Ao))=W5 at *;clear mP k6 Es bo mQ gY;(have IX:Z (iL S)=n:=by rw[bM];exact wh.o.len)
       have uW:we (c6 55 #[J aW n LS,J dp (Z d) cp] W5 fun e w'=>e=yk (zz #[E yR (cnt S (ag d):Nat),E yR 0])/\da W5 w'):=by
        have h5:=El.o;rw[<- IX] at h5;have h:=amo aW dp LS cp (iL S) d W5 (bS.intS h5) (bS.intS b0.o) (wh.o.fine fW al) (by rw[IX];exact yV.o.ok.up);rwa [IX,jL] at h
       obtain⟨du,ds⟩:=ah9 wh.o (l:=ag d) (by rw[gG];exact yV.o.ok.few);obtain⟨cg,Yy⟩:=wh.o.sz v;(have Yx:v<Z S:=by rw[wh.o.len];exact bg);(have bN:S[v]'Yx=sz S v:=by rw[Go.Proofs.YtkflnpjapgiajaaGreatDoor.sz,ba Yx];rfl);have yX:=Fa yV.o.ok;generalize hcq:cnt S (ag d)=Uj at *;have QB:=Fa hcq;clear hcq;refine uW.o.af ?_;rintro e8 M0 ⟨rfl,iB⟩;have Ju:=Fa (UZ.o.step iB);have O2:=El.o.aa iB;rw[<- IX] at O2;obtain⟨ai,KJ,DW,gX,br⟩:=(bS.intS O2) v (by rw[IX];exact bg);subst DW;(have ee:(iL S)[v]'(by rw[IX];exact bg)=((S[v]'Yx:Nat):Int):=by simp[iL]);rw[ee,bN] at br;rw[IX] at O2;have QC:=Fa br;have rK:=Fa O2;clear iB UZ El b0 uW br O2 ee bN;generalize afO:sz S v=sv at *;have b1:=Fa afO;clear afO;go_wp2_with fail
       go_loopw [9,16,17] (fun av rv kv tx=>∃(k Gl:Nat) (r:List Fr),k<=Uj/\kv=E yR k/\av=E yR (Gl:Nat)/\Gl<=aR+3*k/\we (RP sv k r)/\we (dr tx M0.heap.size rv r)/\we (da M0 tx)) (fun _ _ kv _=>Uj - (intOf kv).toNat)
       case atStart=>exact⟨0,aR,[],aX _,rfl,rfl,ak _,RP.nil sv,dr.empty _ _,aw _ _⟩
       case round=>
        obtain⟨k,Gl,r,hk,rfl,rfl,df,GI,jI,gj⟩:=hrel;obtain⟨aZ,PA,cl, -⟩:=rj jI.o;subst cl;generalize wr=tx at *;by_cases BR:k<Uj
        ·have cF:k<27:=al
         have rE:=Ju.o.step gj.o;have bO:=(gj.o.cell (p:=⟨ai,KJ+v,O⟩) gX).trans QC.o;have cm:=bO;have cG:ai<tx.heap.size:=aT gX gj.o.size;(have dv:Gl<=100000:=al);go_upto_region 35 with fail
         replace rE:=rE.step (aw _ _).drew;have b4:da tx tx.drew:=(aw _ _).drew;refine iD (S:=fun u=>AJ u ⟨w.heap.size,2,O⟩=I (J R (Z B2) c3)/\u.cell? ⟨ai,KJ+v,O⟩=I (E yR (sv:Nat))) ao ⟨rE.cells.2.2.1,bO⟩ (fun D=>?_);generalize tx.drew=u0 at *;refine au 0 (zZ (I ⟨w.heap.size,2,O⟩)) ?_;(try simp only[gE,aP]);refine au 1 (J R (Z B2) c3) ?_;(try simp only[gE,aP]);refine au 2 (E yR (Gl:Nat)) ?_;(try simp only[gE,aP]);refine au 3 (J (I ⟨ai,KJ,O⟩) n LS) ?_;(try simp only[gE,aP]);refine au 4 (E yR (v:Nat)) ?_;(try simp only[gE,aP]);refine au 5 (zZ (I ⟨ai,KJ+v,O⟩)) ?_;(try simp only[gE,aP]);refine au 6 (E yR (sv:Nat)) ?_;(try simp only[gE,aP]);refine aG [7] (cA ?_ aH);intro g K;go_simp;refine(xO.o Gl al sv cg Yy _ (cd.o.aa rE.bel)).af ?_;rintro e9 u1 ⟨ea,bp,rfl,BM,ae,yB,A⟩;have Zs:=b4.trans (A.af b4.size);obtain⟨dD,b2,rfl,Zd⟩:=BM.fr;(have bT:Z (r7 bp)=sv:=by rw[WV];exact ae.len);rw[bT];obtain⟨b3,cc,cS, -, -⟩:=Zd 0 al;subst cS;have cM:=Fa Zd;have Qd:=Fa (al4 yB);have cR:=Fa (al3 ae.six (by rw[ae.len];exact Yy) yB);have bt:=Fa bT;replace rE:=rE.step A;refine K.o _ _ ⟨rE.cells.2.2.1,(Zs.cell (p:=⟨ai,KJ+v,O⟩) cG).trans cm⟩ (fun H=>?_);clear A BM ae yB Zd K g D;have D:=H;clear H;(try simp only[gE,aP]);refine au 8 (J (I ⟨b3,cc,O⟩) sv b2) ?_;(try simp only[gE,aP])
         refine eV ao ?_ _;clear D;have bJ:=Fa (jI.o.aa Zs);have cO:=Fa (gj.o.trans (Zs.af gj.o.size));have gY:M0.heap.size<=u1.heap.size:=cO.o.size;have c9:=GI.o.len;have dT:k*sv<=81:=aO (ld (AV cF) Yy) al;(have dj:Z r<=81:=al);clear c9;go_wp2_with (at_builtin;refine ajI rfl _ _ rfl M0.heap.size _ r (r7 bp) rfl bJ.o b3 cc b2 (by rw[bt.o];rfl) cM.o (by rw[bt.o];omega) gY ?_;intro v9 u2 vA fE;have ZZ:=cO.o.grown fE gY (fun k e=>R7 bJ.o k e);have dn:=(ZZ.cell (p:=⟨ai,KJ+v,O⟩) gX).trans QC.o;have p5:=Fa ZZ;clear ZZ)
         go_roundw
         case rel=>exact⟨k+1,Gl+sv,r++r7 bp,al,bd,bd,al,GI.o.snoc bt.o Qd.o cR.o,vA,p5⟩
         case measure=>simp[intOf];omega
        ·obtain rfl:Uj=k:=al
         have rE:=Ju.o.step gj.o;have BZ:=rK.o.aa gj.o;have yH:dr tx w.heap.size (J aZ (Z r) PA) r:=Nz jI.o Ju.o.bel.size;obtain⟨dz,cz,Yf, -⟩:=rj rE.rs.1;subst Yf;have B6:da tx (AC tx (yd #[J aZ (Z r) PA] 36)):=(aw _ tx).alloc (ak _) _;have mP:=Fa (rE.step B6);have k6:=Fa (BZ.aa B6);have rL:=Fa (yH.aa B6);have dd:=rE.box.cells.2.2;have mQ:=Fa ((bE tx 36 (J aZ (Z r) PA)).cell);have gY:w.heap.size<=(AC tx (yd #[J aZ (Z r) PA] 36)).heap.size:=mP.o.bel.size;have cf:we (aaY S v d r):=⟨by rw[QB.o,b1.o];exact GI.o.len,fun i hi=>by rw[b1.o];exact GI.o.rows i (by rw[<- QB.o];exact hi),GI.o.small⟩;clear rE BZ yH B6 jI gj;go_wp2_with (at_builtin;refine ajF rfl _ _ rfl w.heap.size _ Rs (J aZ (Z r) PA) ⟨_,_,_,rfl⟩ rfl mP.o.rs.1 tx.heap.size rfl mQ.o (by have:=Mq.o.lenR;omega) gY ?_;intro v5 W7 YM rB;obtain⟨d7,DY,rfl, -⟩:=rj YM;have P:=mP.o.pushR YM rB rL.o;have bA:=P.1.cells.2.2;have dk:W7.frozen? ⟨w.heap.size+2,2,O⟩=false:=eA _ _ 2 _ _ P.1;have cH:=Fa P.2;have cL:=Fa (adz (j:=2) (v':=J d7 (Z Rs+1) DY) mP.o.rs.1 rB P.1 3 a6 a6);clear P YM rB)
         go_roundw
         case rel=>exact⟨v+1,q,Gl,_,_,_,_,al,bd,rfl,rfl,al,al,Mq.o.snoc yX.o cf.o,cH,rp k6.o cL.o⟩
         case measure=>simp[intOf];omega
    ·obtain rfl:n=v:=al
     obtain⟨dx,dB,db, -⟩:=rj m.o.vs.1;subst db;obtain⟨dy,cy,Yh, -⟩:=rj m.o.ls.1;subst Yh;obtain⟨dz,cz,Yf, -⟩:=rj m.o.rs.1;subst Yf;obtain⟨e0,e1,e2⟩:=m.o.box.cells;obtain⟨q0,q1,q2⟩:=m.o.res.cells;have f0:wr.frozen? ⟨w.heap.size+1,0,O⟩=false:=eA _ _ 0 _ _ m.o.res;have f1:wr.frozen? ⟨w.heap.size+1,1,O⟩=false:=eA _ _ 1 _ _ m.o.res;have f2:wr.frozen? ⟨w.heap.size+1,2,O⟩=false:=eA _ _ 2 _ _ m.o.res;obtain⟨o1,F,o3,o4,o5⟩:=m.o.out3;have rM:=Fa o1;have Ey:=Fa F;have Qj:=Fa o3;have Jr:=Fa o4;have Ex:=Fa o5;clear o1 F o3 o4 o5;go_wp2;refine cN (EN rfl _ _ (w.heap.size+1) _ _ _ _ rfl rM.o underlying26 rfl ao) rfl ?_;exact⟨bk,n,_,_,_,Vs,Ls,Rs,rfl,⟨fW,zO⟩,PY.o,by rw[Jm.o];exact Mq.o,Ey.o,Qj.o,Jr.o,Ex.o⟩
variable {P:List Jp}
theorem ab3 (a:Up l n):dZ l n=true:=by
 rw[dZ,fG];intro i b;have h:=bR.1 b;rw[mE,eM,getD_eq h];refine⟨(a.each i h).1,(a.each i h).2,fun c=>?_⟩;rw[getD_eq (show i - 1<Z l by omega)];exact a.lt (i - 1) i h al
theorem Xh {Ls:List PL} (h:Eb bk n n S Ls Rs) (a:v<Z (jm Ls)):UD bk n v (jm Ls)[v]:=by
 have b:v<Z Ls:=by simpa [jm] using a
 simpa [jm] using h.pars v b
theorem adf:∀(n:Nat) (l:Jp),(∀v,v< n ->v∈l) ->n<=Z l
 |0,_,_=>aX _
 |n+1,l,h=>by
  have m:=h n al;have a:=adf n (l.erase n) fun v d=>(List.mem_erase_of_ne al).2 (h v al);have b:=VU m;have c:=VT m;omega
theorem aei (r:Nat ->Nat) (h:∀v,v<Z P ->∀u∈P.getD v [],u<Z P/\r u<r v):∀k,k<=Z P ->Z (bc P k)=k
 |0,_=>rfl
 |k+1,hk=>by
  have j:=aei r h k al;cases e:sk P (bc P k) with
  |some v=>rw[Sg e,cD,j];rfl
  |none=>
   exfalso
   have n:∀v,v<Z P ->iZ P (bc P k) v=false:=fun v a=>by
    have:=VY.1 e v (bR.2 a);simpa using this
   have l:∀m v,v<Z P ->r v<=m ->v∈bc P k:=by
    intro m;induction m with
    |zero=>
     intro v a i;refine zq fun b=>?_;have f:=n v a;rw[iZ,Bool.and_eq_false_iff] at f;rcases f with f |f
     ·exact absurd b (by simpa using f)
     ·have d:=of_decide_eq_false f;refine d fun u c=>?_;have:=(h v a u c).2;omega
    |succ m NZ=>
     intro v a i;refine zq fun b=>?_;have f:=n v a;rw[iZ,Bool.and_eq_false_iff] at f;rcases f with f |f
     ·exact absurd b (by simpa using f)
     ·have d:=of_decide_eq_false f;refine d fun u c=>?_;obtain⟨g,o⟩:=h v a u c;exact NZ u g al
   have p:=adf (Z P) (bc P k) fun v a=>l (r v) v a (ak _);omega
theorem apb {Ls:List PL} (h:Eb bk n n S Ls Rs) (h1:1<=n) (j:n<=6):bq (jm Ls)=0:=by
 have d:Z (jm Ls)=n:=by simp[jm,h.len]
 have z:∀v (a:v<Z (jm Ls)),∀x∈(jm Ls)[v],(0<=x/\x<n)/\(if bk=xq then(v:Int)<x else x<(v:Int)):=fun v a x b=>
  ⟨(dY.1 (Xh h a).up).1 x b,(Xh h a).rank x b⟩
 have i:gB (jm Ls)=true:=by
  rw[gB,iI,iI];refine⟨⟨cJ ⟨al,al⟩,?_⟩,?_⟩
  ·rw[k5,fG];intro l B6;obtain⟨v,a,rfl⟩:=iQ B6;rw[d];exact ab3 (Xh h a).up
  ·rw[Bp,fG];intro v a;have c:v<Z (jm Ls):=bR.1 a;rw[cK,ba c];simp only[CP,Bool.not_eq_true',QM];intro m;obtain⟨x,b,e⟩:=aQ.1 m;obtain⟨⟨g,_⟩,r⟩:=z v c x b;cases bk<;>simp at r<;>omega
 rw[bq,aA i,aD];have p:Z (aI (jm Ls))=n:=by rw[kp,d]
 have q:=aei (P:=aI (jm Ls)) (fun v=>if bk=xq then n - v else v) (fun v a u f=>by
  have c:v<Z (jm Ls):=by rw[kp] at a;exact a
  rw[H5 c] at f;obtain⟨x,b,rfl⟩:=aQ.1 f;obtain⟨⟨g,k⟩,r⟩:=z v c x b;refine⟨by rw[p];omega,?_⟩;rw[d] at c;cases bk
  ·simp at r⊢;omega
  ·simp at r⊢;omega) n al
 rw[d,q];omega
theorem aoi (h:VK n Vs):lR (iT Vs)=(List.range n).map (kr 110):=by
 apply mZ
 ·simp[lR,iT,h.len]
 ·intro i a c;have b:i<Z Vs:=by simpa [lR,iT] using a
  simp[lR,iT,(h.each i b).1]
theorem aoh:∀n,n<=6 ->oI ((List.range n).map (kr 110))=0:=by
 intro n a;have h:n=0∨n=1∨n=2∨n=3∨n=4∨n=5∨n=6:=al
 rcases h with rfl |rfl |rfl |rfl |rfl |rfl |rfl<;>decide+kernel
theorem ajX:∀k,k<=3 ->oI (uZ k)=0:=by
 intro n a;have h:n=0∨n=1∨n=2∨n=3:=al
 rcases h with rfl |rfl |rfl |rfl<;>decide+kernel
theorem ao6 (h:VK n Vs) (f:n<=6):mA (iT Vs)=0:=by
 rw[mA,aoi h,aoh n f,aA rfl];refine B5 fun j a=>?_;have g:j<Z Vs:=by simpa [iT] using a
 obtain⟨_,k,c,d,e⟩:=h.each j g
 have b:((iT Vs).getD j (⟨#[]⟩,[])).2=uZ k:=by
  rw[cK,ba a];simp[iT,e]
 rw[tz,b,Rj,aA ⟨c,al⟩,ajX k d]
theorem ao9 {Ls:List PL} (V:VK n Vs) (h:Eb bk n n (ah (iT Vs)) Ls Rs) (h1:1<=n) (a:n<=6):aU (iT Vs) (jm Ls) (qC Rs)=0:=by
 have v:Z (iT Vs)=n:=by simp[iT,V.len]
 have l:Z (jm Ls)=n:=by simp[jm,h.len]
 have r:Z (qC Rs)=n:=by simp[qC,h.lenR]
 rw[aU,aA ⟨al,al⟩,aA (apb h h1 a),aA (ao6 V a)];refine B5 fun j d=>?_;have A:j<Z Ls:=by have:=h.len;omega
 have R:j<Z Rs:=by have:=h.lenR;omega
 have o:=h.rows j A R;have e:(jm Ls).getD j []=Ls[j].2:=by rw[cK,ba (by simpa [jm] using A)];simp[jm]
 have b:(qC Rs).getD j []=Rs[j].2:=by rw[cK,ba (by simpa [qC] using R)];simp[qC]
 rw[jA,e,b,aA o.len,aA];rw[fG];intro i c;exact o.rows i (bR.1 c)
section
attribute [local go_sem] Oper.semAt_some
theorem atw (a b:Kd) (ca cb:Nat) (Fb Fd:Kx) (K:Nat) (w:wA) (hs:aC w a Fb) (hv:aC w b Fd) (R:fJ Fb) (aW:Up Fd (Z Fb)) (A:K<cnt (ag Fb) (ag Fd)):
  c6 285 #[J a (Z Fb) ca,J b (Z Fd) cb,E yR (K:Nat)] w fun e w'=>∃(g:Nat) (cc:Nat),e=yk (J (I ⟨g,0,O⟩) (Z (oQ (ag Fb) (ag Fd) K)) cc)/\w.heap.size<=g/\cZ w' g (oQ (ag Fb) (ag Fd) K)/\da w w':=by
 refine(jg (n:=6)).1 ?_;have tJ:=R.eight;have gM:=aW.length;have aq:cnt (ag Fb) (ag Fd)<=65536:=xC R.sz_le (by rw[gG];omega);have an:=fun V=>QJ (P:=prog) 27 3 (E yR 0) 8 underlying27 Tryz.infoInt rfl yR yR (Z Fd) al al V;have HS:=Fa hs;have HV:=Fa hv;have X:=Fa R;have mg:=Fa aW;have xm:Z (oQ (ag Fb) (ag Fd) K)=Z Fd:=by rw[ahU,gG]
 have xV:=Fa (atA A);rw[gG] at xV;rw[xm];clear hs hv R aW;refine wF func285 rfl trivial ?_ rfl;simp only[ntmps285,mX,dX,mo,Nat.reduceAdd,Nat.reduceSub,o8,o7,o6,oB,iH,gC];gi_wp2_with ((refine⟨trivial,?_⟩;gi_at_call 216;refine(aaH _ _ _ _ _).af ?_;rintro e w2 ⟨rfl,rfl⟩))
 obtain⟨m,q⟩:∃m,m=(AC (AC (AC (AC (AC w (yd #[J a (Z Fb) ca] 27)) (yd #[E yR (K:Nat)] 3)) (yd (madeCells #[E yR 0] (Z Fd)) 3)) (yd #[J (I ⟨w.heap.size+1+1,0,O⟩) (Z Fd) (Z Fd)] 27)) (yd #[J b (Z Fd) cb] 27)):=⟨_,rfl⟩;have BL:m.heap.size=w.heap.size+1+1+1+1+1:=by rw[q];simp
 have b0:Boxed m w.heap.size 27 (J a (Z Fb) ca):=by rw[q];exact((((bE w _ _).alloc _).alloc _).alloc _).alloc _
 have b1:Boxed m (w.heap.size+1) 3 (E yR (K:Nat)):=by
  have h:=((((bE (AC w (yd #[J a (Z Fb) ca] 27)) 3 (E yR (K:Nat))).alloc (yd (madeCells #[E yR 0] (Z Fd)) 3)).alloc (yd #[J (I ⟨w.heap.size+1+1,0,O⟩) (Z Fd) (Z Fd)] 27)).alloc (yd #[J b (Z Fd) cb] 27));rw[eW] at h;rw[q];exact h
 have r2:cZ m (w.heap.size+1+1) (List.replicate (Z Fd) 0):=by
  have h:=((afd (AC (AC w (yd #[J a (Z Fb) ca] 27)) (yd #[E yR (K:Nat)] 3)) (Z Fd)).alloc (yd #[J (I ⟨w.heap.size+1+1,0,O⟩) (Z Fd) (Z Fd)] 27)).alloc (yd #[J b (Z Fd) cb] 27);rw[eW,eW] at h;rw[q];exact h
 have b3:Boxed m (w.heap.size+1+1+1) 27 (J (I ⟨w.heap.size+1+1,0,O⟩) (Z Fd) (Z Fd)):=by
  have h:=(bE (AC (AC (AC w (yd #[J a (Z Fb) ca] 27)) (yd #[E yR (K:Nat)] 3)) (yd (madeCells #[E yR 0] (Z Fd)) 3)) 27 (J (I ⟨w.heap.size+1+1,0,O⟩) (Z Fd) (Z Fd))).alloc (yd #[J b (Z Fd) cb] 27);rw[eW,eW,eW] at h;rw[q];exact h
 have b4:Boxed m (w.heap.size+1+1+1+1) 27 (J b (Z Fd) cb):=by
  have h:=bE (AC (AC (AC (AC w (yd #[J a (Z Fb) ca] 27)) (yd #[E yR (K:Nat)] 3)) (yd (madeCells #[E yR 0] (Z Fd)) 3)) (yd #[J (I ⟨w.heap.size+1+1,0,O⟩) (Z Fd) (Z Fd)] 27)) 27 (J b (Z Fd) cb);rw[eW,eW,eW,eW] at h;rw[q];exact h
 have ad:da w m:=by
  rw[q];exact(((((aw _ w).alloc (ak _) _).alloc aE _).alloc (by simp;omega) _).alloc (by simp;omega) _).alloc (by simp;omega) _
 rw[<- q];clear q
 refine QI (α:=At Fd) rfl al (gf:=263) (lb:= #[zZ (I ⟨w.heap.size+1+1+1+1,0,O⟩)]) rfl trivial (enters_of func263 ao rfl)
  (aaG 5 al (w.heap.size+1+1+1+1) w.heap.size b cb Fd al m al al b4.cell (HV.o.toB.aa ad)) vY.t (vY.b al al) (aw _ _) (fun _=>rfl)
  (fun (d:List (At Fd)) V=>Boxed V w.heap.size 27 (J a (Z Fb) ca)/\Boxed V (w.heap.size+1) 3 (E yR ((sS (ag Fb) (ag Fd) K (Z Fd) (d.map (·.1))).1:Nat))/\cZ V (w.heap.size+1+1) (sS (ag Fb) (ag Fd) K (Z Fd) (d.map (·.1))).2/\Boxed V (w.heap.size+1+1+1) 27 (J (I ⟨w.heap.size+1+1,0,O⟩) (Z Fd) (Z Fd))/\Boxed V (w.heap.size+1+1+1+1) 27 (J b (Z Fd) cb)/\da w V)
  (fun _ _ _=>False)
  (gJ (iF (kL _ _ (fun _=>_)) _) (gJ (iF (kL _ _ (fun d:List (At Fd)=>E yR ((sS (ag Fb) (ag Fd) K (Z Fd) (d.map (·.1))).1:Nat))) _) (gJ (iF (RB _ (fun d:List (At Fd)=>(sS (ag Fb) (ag Fd) K (Z Fd) (d.map (·.1))).2)) _) (gJ (iF (kL _ _ (fun _=>_)) _) (gJ (iF (kL _ _ (fun _=>_)) _) (CO (ak _) al))))))
  (fun _ _ _ _ _ hs _ _=>hs)
  ⟨b0,b1,r2,b3,b4,ad⟩
  (fun x=> {tmps:= #[J a (Z Fb) ca,J b (Z Fd) cb,E yR (K:Nat),zZ (I ⟨w.heap.size,0,O⟩),wd,zZ (I ⟨w.heap.size+1,0,O⟩),J O 0 0,zZ (I ⟨w.heap.size+1+1+1,0,O⟩),E yR (x.1:Nat),E yR (Fd[x.1]'x.2),J b (Z Fd) cb,E yR (Z Fd:Nat),J (I ⟨w.heap.size+1+1,0,O⟩) (Z Fd) (Z Fd),J b (Z Fd) cb,.func (.func 263) #[] #[zZ (I ⟨w.heap.size+1+1+1+1,0,O⟩)],E yR (x.1:Nat),E yR (Fd[x.1]'x.2),wd,wd,wd,wd,wd,wd,wd,wd,wd,wd,wd,wd,wd,wd,wd,wd],defers:=[]}) ?assign ?body ?done ?stop
 case assign=>
  intro l x V K A;gi_wp2
  exact A
 case body=>
  rintro l d ⟨i,B1⟩ V ⟨h0,Q,B6,L,h4,Y⟩ ay;obtain⟨kQ,iJ⟩:=mg.o.nat B1
  have ab:we (sS (ag Fb) (ag Fd) K (Z Fd) ((d++[(⟨i,B1⟩:At Fd)]).map (·.1))=((sS (ag Fb) (ag Fd) K (Z Fd) (d.map (·.1))).1/sz (ag Fb) Fd[i].toNat,(sS (ag Fb) (ag Fd) K (Z Fd) (d.map (·.1))).2.set i ((sS (ag Fb) (ag Fd) K (Z Fd) (d.map (·.1))).1 % sz (ag Fb) Fd[i].toNat))):=by
   show _=_;rw[gK,fR,om,aiz,I8,Gd (show i<Z (ag Fd) by rw[gG];exact B1),wO B1]
  obtain⟨lu,ae⟩:=atz (ag Fb) (ag Fd) K (Z Fd) (d.map (·.1));have hz:=jM X.o.pos Fd[i].toNat;have KY:=X.o.sz_le Fd[i].toNat;generalize hV:Fd[i].toNat=v at *;rw[<- kQ];obtain⟨g',o',rfl,iA,T⟩:=(HS.o.aa Y) v iJ;rw[<- X.o.sz_eq iJ] at T
  have ax:g'<w.heap.size:=by
   obtain⟨g3,o3,e3,L,_⟩:=HS.o v iJ;cases e3;exact L
  clear kQ hV;generalize sS (ag Fb) (ag Fd) K (Z Fd) (d.map (·.1))=st at *;obtain⟨p,I9⟩:=st;simp only at Q B6 lu ae ab;generalize sz (ag Fb) v=s at *;have a6:=B6.cell i al;have av:=B6.fz i;have k0:=h0.cell;have k1:=Q.cell;have k3:=L.cell;have f1:=Q.frozen;have ry:(p:Int) % (s:Int)=((p % s:Nat):Int):=(wK _ _).symm;have nI:(p:Int)/(s:Int)=((p/s:Nat):Int):=(A3 _ _).symm;have az:p % s<=65536:=aO (Nat.mod_le _ _) al;have bA:p/s<=65536:=aO (AW _ _) al;generalize p % s=mm at *;generalize p/s=dd at *;have a1:¬(s:Int)=0:=al
  have S7:¬w.heap.size+1+1=w.heap.size+1:=al
  have YY:¬w.heap.size+1=w.heap.size+1+1:=al
  have lU:i<Z I9:=al
  generalize I9[i]=z at *;have aJ:IntKind.i64.wrap ((p:Int) % (s:Int))=(p:Int) % (s:Int):=by rw[ry,jx];omega
  have aZ:IntKind.i64.wrap ((p:Int)/(s:Int))=(p:Int)/(s:Int):=by rw[nI,jx];omega
  have yU:=Fa ry;have tX:=Fa nI;clear ry nI an b0 b1 r2 b3 b4 ad BL xm xV mg X HV aq A ae;gi_wp2_with fail
  refine Bi (fun u=>AJ u ⟨w.heap.size+1+1+1,0,O⟩=I (J (I ⟨w.heap.size+1+1,0,O⟩) (Z Fd) (Z Fd))/\u.cell? ⟨w.heap.size+1,0,O⟩=I (E yR (p:Nat))/\u.cell? ⟨w.heap.size,0,O⟩=I (J (I ⟨g',o',O⟩) (Z Fb) ca)/\u.cell? ⟨g',o'+v,O⟩=I (E yR (s:Nat))) ao ao (fun ⟨_,_,h⟩=>h) ⟨k3,k1,k0,T⟩ ?_;intro S;refine dt 0 (J (I ⟨w.heap.size+1+1,0,O⟩) (Z Fd) (Z Fd)) ?_ ?_
  ·intro u M;obtain⟨B9,F,f,k⟩:=M;simp only[gE];go_simp
  simp only[gE,aP];refine dt 1 (E yR (i:Nat)) ?_ ?_
  ·intro u M;obtain⟨B9,F,f,k⟩:=M;simp only[gE];go_simp
  simp only[gE,aP];refine dt 2 (E yR (p:Nat)) ?_ ?_
  ·intro u M;obtain⟨B9,F,f,k⟩:=M;simp only[gE];go_simp
  simp only[gE,aP];refine dt 3 (J (I ⟨g',o',O⟩) (Z Fb) ca) ?_ ?_
  ·intro u M;obtain⟨B9,F,f,k⟩:=M;simp only[gE];go_simp
  simp only[gE,aP];refine dt 4 (E yR (v:Nat)) ?_ ?_
  ·intro u M;obtain⟨B9,F,f,k⟩:=M;simp only[gE];go_simp
  simp only[gE,aP];refine dt 5 (zZ (I ⟨g',o'+v,O⟩)) ?_ ?_
  ·intro u M;obtain⟨B9,F,f,k⟩:=M;simp only[gE];go_simp
  simp only[gE,aP];refine dt 6 (E yR (s:Nat)) ?_ ?_
  ·intro u M;obtain⟨B9,F,f,k⟩:=M;simp only[gE];go_simp
  simp only[gE,aP];refine dt 7 (E yR ((p:Int) % (s:Int))) ?_ ?_
  ·intro u M;obtain⟨B9,F,f,k⟩:=M;simp only[gE];go_simp;rw[aD (show ¬s=0 by omega),Int.tmod_eq_emod_of_nonneg (Q7 _)]
  simp only[gE,aP];refine dt 8 (zZ (I ⟨w.heap.size+1+1,i,O⟩)) ?_ ?_
  ·intro u M;obtain⟨B9,F,f,k⟩:=M;simp only[gE];go_simp
  simp only[gE,aP];refine aG [9] (cA ?_ aH);intro B2 B7;simp only[gE];go_simp;have H:∀(b j:Nat) (y:wQ),¬w.heap.size+1+1=b ->(AF V ⟨w.heap.size+1+1,i,O⟩ y).drew.cell? ⟨b,j,O⟩=AJ V ⟨b,j,O⟩:=fun b j y hb=>gg _ _ _ _ (fun e=>hb (by cases e;rfl));refine B7.o _ _ ⟨(H _ _ _ al).trans k3,(H _ _ _ al).trans k1,(H _ _ _ al).trans k0,(H _ _ _ al).trans T⟩ (fun _=>eV ao ?_ _);clear B7 B2 S;have m0:=(H w.heap.size 0 (E yR ((p:Int) % (s:Int))) al).trans k0;have m1:=(H (w.heap.size+1) 0 (E yR ((p:Int) % (s:Int))) al).trans k1;have m2:=(H g' (o'+v) (E yR ((p:Int) % (s:Int))) al).trans T;have ai:=B6.set i mm;rw[<- yU.o] at ai;have q0:Boxed (AF V ⟨w.heap.size+1+1,i,O⟩ (E yR ((p:Int) % (s:Int)))).drew w.heap.size 27 (J (I ⟨g',o',O⟩) (Z Fb) ca):=i6 h0 _ i _ al;have q1:Boxed (AF V ⟨w.heap.size+1+1,i,O⟩ (E yR ((p:Int) % (s:Int)))).drew (w.heap.size+1) 3 (E yR (p:Nat)):=i6 Q _ i _ al;have q3:Boxed (AF V ⟨w.heap.size+1+1,i,O⟩ (E yR ((p:Int) % (s:Int)))).drew (w.heap.size+1+1+1) 27 (J (I ⟨w.heap.size+1+1,0,O⟩) (Z Fd) (Z Fd)):=i6 L _ i _ al;have q4:Boxed (AF V ⟨w.heap.size+1+1,i,O⟩ (E yR ((p:Int) % (s:Int)))).drew (w.heap.size+1+1+1+1) 27 (J b (Z Fd) cb):=i6 h4 _ i _ al
  have q2:cZ (AF V ⟨w.heap.size+1+1,i,O⟩ (E yR ((p:Int) % (s:Int)))).drew (w.heap.size+1+1) (I9.set i mm):=ai;have qB:da w (AF V ⟨w.heap.size+1+1,i,O⟩ (E yR ((p:Int) % (s:Int)))).drew:=(Y.setCell (p:=⟨w.heap.size+1+1,i,O⟩) (by simp;omega) _).drew;have qK:Below w.heap.size V (AF V ⟨w.heap.size+1+1,i,O⟩ (E yR ((p:Int) % (s:Int)))).drew:=((aw w.heap.size V).setCell (p:=⟨w.heap.size+1+1,i,O⟩) (by simp;omega) _).drew;have qO:KeepsOthers V (AF V ⟨w.heap.size+1+1,i,O⟩ (E yR ((p:Int) % (s:Int)))).drew:=(kh V _ _).trans (CU _);have fU:=q1.frozen;have j4:qX (w.heap.size+1+1+1+1) V (AF V ⟨w.heap.size+1+1,i,O⟩ (E yR ((p:Int) % (s:Int)))).drew:=q4.cell.trans h4.cell.symm;clear H;generalize (AF V ⟨w.heap.size+1+1,i,O⟩ (E yR ((p:Int) % (s:Int)))).drew=U at *;gi_wp2_with fail
  refine Bi (fun u=>AJ u ⟨w.heap.size,0,O⟩=I (J (I ⟨g',o',O⟩) (Z Fb) ca)/\u.cell? ⟨g',o'+v,O⟩=I (E yR (s:Nat))) ao ao (fun ⟨_,_,h⟩=>h) ⟨m0,m2⟩ ?_;intro S;refine dt 1 (J (I ⟨g',o',O⟩) (Z Fb) ca) ?_ ?_
  ·intro u M;obtain⟨f,k⟩:=M;simp only[gE];go_simp
  simp only[gE,aP];refine dt 2 (E yR (v:Nat)) ?_ ?_
  ·intro u M;obtain⟨f,k⟩:=M;simp only[gE];go_simp
  simp only[gE,aP];refine dt 3 (zZ (I ⟨g',o'+v,O⟩)) ?_ ?_
  ·intro u M;obtain⟨f,k⟩:=M;simp only[gE];go_simp
  simp only[gE,aP];refine dt 4 (E yR (s:Nat)) ?_ ?_
  ·intro u M;obtain⟨f,k⟩:=M;simp only[gE];go_simp
  simp only[gE,aP];refine aG [0] (cA ?_ aH);intro B2 B7;simp only[gE];go_simp;refine B7.o _ _ S (fun _=>?_);clear B7 B2;refine dt 5 (E yR ((p:Int)/(s:Int))) ?_ ?_
  ·intro u M;obtain⟨f,k⟩:=M;simp only[gE];go_simp;omega
  simp only[gE,aP];refine aG [6] (cA ?_ aH);intro B2 B7;simp only[gE];go_simp;refine B7.o _ _ ⟨(i6 q0 (w.heap.size+1) 0 _ al).cell,(gg _ _ _ _ (fun e=>(show ¬w.heap.size+1=g' by omega) (eG Addr.block e))).trans m2⟩ (fun _=>eV ao ?_ _);clear B7 B2 S;gi_wp2
  rw[tX.o];refine⟨(qO.trans ((kh U _ _).trans (CU _))).from _,⟨j4.t ((i6 q4 (w.heap.size+1) 0 (E yR (dd:Nat)) al).cell.trans q4.cell.symm),(qK.setCell (p:=⟨w.heap.size+1,0,O⟩) aE _).drew⟩,?_⟩;refine⟨i6 q0 _ 0 _ al,?_,?_,i6 q3 _ 0 _ al,i6 q4 _ 0 _ al,(qB.setCell (p:=⟨w.heap.size+1,0,O⟩) aE _).drew⟩
  ·rw[ab.o];exact q1.set _
  ·rw[ab.o];exact q2.off _ 0 _ al
 case done=>
  rintro D ys V hD Fv ⟨h0,Q,B6,L,h4,Y⟩ A;rw[Fv,xV.o] at B6;have hc:=L.cell;gi_wp2
  refine⟨aE,yp ⟨_,_,rfl,CM A,?_⟩⟩;refine⟨_,CN rfl _ _ _,?_⟩;refine⟨w.heap.size+1+1,⟨Z Fd,rfl⟩,al,?_,Y.trans (xY (w:=w) (ak _) V D _ _ al A rfl rfl)⟩;have aj:cZ (V.putObj D (.deferred O)) (w.heap.size+1+1) (oQ (ag Fb) (ag Fd) K):=RB (w.heap.size+1+1) (fun (_:Unit)=>oQ (ag Fb) (ag Fd) K) () V _ (I D) B6 (grownBy_putObj' V D _) (fun r e=>by cases e;exact⟨_,A,rfl⟩);exact aj
 case stop=>
  rintro D c d V _ _ h _;exact h.elim
theorem akt (a b:Kd) (ca cb K:Nat) (Fb Fd:Kx) (w:wA) (hs:aC w a Fb) (v:aC w b Fd) (R:fJ Fb) (d:Up Fd (Z Fb)) (n:K<cnt (ag Fb) (ag Fd)):
  c6 257 #[J a (Z Fb) ca,J b (Z Fd) cb,E yR (K:Nat)] w fun e w'=>∃(g:Nat) (cc:Nat),e=yk (zz #[J (I ⟨g,0,O⟩) (Z Fd) cc,E yR 0])/\w.heap.size<=g/\cZ w' g (oQ (ag Fb) (ag Fd) K)/\da w w':=by
 have t:=R.eight;have M:=d.length;have S:=Fa hs;have j:=Fa v;have k:countB Fb Fd=true:=LM R d;have H:=Fa (fun V f i=>Rq a b ca cb Fb Fd V f i al al);rw[LN k] at H;simp only at H;have A:=Fa (fun V f i=>atw a b ca cb Fb Fd K V f i R d n);have m:Z (oQ (ag Fb) (ag Fd) K)=Z Fd:=by rw[ahU,gG]
 rw[m] at A;clear hs v k R d m;generalize oQ (ag Fb) (ag Fd) K=ds at *;generalize cnt (ag Fb) (ag Fd)=l at *;have x:(0:Int)<=(K:Int):=al
 have r:(K:Int)<(l:Int):=al
 go_enter func257,ntmps257;go_wp2_with fail
 refine(H.o _ S.o j.o).af ?_;rintro e q ⟨rfl,h⟩;go_wp2_with fail
 refine(A.o _ (S.o.aa h) (j.o.aa h)).af ?_;rintro e s ⟨c,cc,rfl,u,L,p⟩;have y:=h.size;go_wp2;go_ret2;exact⟨c,cc,rfl,al,L,h.trans (p.af h.size)⟩
end
open Go.Sort
variable {la:Kx} {Ab D:Nat} {wr wr':wA}
theorem ak3 {a:Addr} (i:aC w (I a) la):∀j u,(la.map (Value.int yR))[j]? =I u ->AJ w (a.add j)=I u:=by
 intro j u h;rw[mr] at h;cases hq:la[j]? with
 |none=>rw[hq] at h;cases h
 |some z=>
  rw[hq] at h;cases h;obtain⟨B7,B2⟩:=oA.1 hq;obtain⟨g,o',e,_,c⟩:=i j B7;cases e;rw[<- B2];rw[Addr.add];by_cases b:j=0
  ·subst b;simpa using c
  ·simpa [b] using c
theorem af8 {c:Array wQ} (h:w.heap[g]? =I (yd c 3 (0,0))) (b:∀j (a:j<Z l),c[j]? =I (E yR l[j])):Holds (Value.int yR) w g 0 l.toArray:=fun j a=>by
 have d:j<Z l:=by simpa using a
 refine⟨?_,eA w g (0+j) _ _ h⟩;rw[bK,a8 w g j _ _ (0,0) h,b j d,MA l.toArray j a];simp
theorem ajA {o:Oper} {a:Act} (s x:Operand)
  (f:o.op=.call {callee:=.builtin .append,args:= #[s,x],argTypes:= #[27,27]}) (gb:Nat) (z:Int) (la:Kx) (hs:a.eval s=J (I ⟨gb,0,O⟩) 1 1) (d:w.heap[gb]? =I (yd #[E yR z] 3 (0,0))) (p:Kd) (ca:Nat) (m:a.eval x=J p (Z la) ca) (r:aC w p la) (A:p=O ->ca=0) (B2:Z la<=100000)
  (h:∀D cap w',(D=gb∨w.heap.size<=D) ->D<w'.heap.size ->Holds (Value.int yR) w' D 0 ([z]++la).toArray ->w.grownBy w' (I gb) ->K (a.put o.dst (J (I ⟨D,0,O⟩) (Z ([z]++la)) cap)) w'):o.wp prog a w K Q:=by
 obtain⟨i,H,F,t,B7⟩:=eo Tryz.infoInt;have B9:gb<w.heap.size:=(c5.1 d).1
 have S:Holds (Value.int yR) w gb 0 ([z]++[]).toArray:=af8 d fun j b=>by
  have:j=0:=by simp at b;omega
  subst this;rfl
 have v:∀(V:la=[]),K (a.put o.dst (J (I ⟨gb,0,O⟩) 1 1)) w:=fun V=>by
  subst V;exact h gb 1 w (yp rfl) B9 S ⟨rfl,rfl,rfl,ak _,fun _ _ _=>rfl⟩
 cases p with
 |none=>
  have c:la=[]:=by
   cases la with
   |nil=>rfl
   |cons x l=>obtain⟨g,o,e,_⟩:=r 0 aE;cases e
  have y:=A rfl;have k:=v c;subst c y;have B6:w.ownsRow gb 3 1 (J (I ⟨gb,0,O⟩) 1 1) 1 [E yR z]:=⟨rfl,xS ⟨gb,1,_,rfl,ak _,d,ak _,by unfold maxLen;omega,rfl,rfl⟩⟩;have n:=run_append_owned_none (P:=prog) (w:=w) gb 27 o.type 3 i 1 underlying27 H (J (I ⟨gb,0,O⟩) 1 1) 1 _ B6;unfold Oper.wp;simp[execOp,f,resolve,invoke,builtin,hs,m,n,Result.andThen];exact k
 |some ad=>
  have L:=ak3 r;have c:Z (la.map (Value.int yR))=Z la*i.size:=by rw[t];simp
  by_cases V:la=[]
  ·have k:=v V;subst V;have n:=run_append_room_cells (P:=prog) (w:=w) 27 o.type 3 i underlying27 H gb 0 1 1 ad 0 ca [] aE aE aE (ak _) aE aE;unfold Oper.wp execOp;simp only[f,resolve,invoke,builtin,JQ,zi,wG,JV,fR,om,hs,m,mo,n];exact k
  ·have M:0<Z la:=List.length_pos_iff.2 V
   have n:=run_append_grow (P:=prog) w 27 o.type 3 i (E yR 0) underlying27 H F ⟨gb,0,O⟩ 1 1 [E yR z] (by rw[t];rfl) (fun j u b=>by
    match j,b with
    |0,b=>cases b;rw[show (⟨gb,0,O⟩:Addr).add 0=⟨gb,0,O⟩ from rfl,a8 w gb 0 _ _ (0,0) d];rfl
    |j+1,b=>simp at b) ad (Z la) ca (la.map (Value.int yR)) c L al al (QL al (by rw[B7];omega))
   unfold Oper.wp execOp;simp only[f,resolve,invoke,builtin,JQ,zi,wG,JV,fR,om,hs,m,n];have q:=h w.heap.size (grownCap w (1+Z la) 1 3) (AC w.drew (yd ([Value.int yR z].toArray++(la.map (Value.int yR)).toArray++Builtin.zeroCells (Value.int yR 0).cells (grownCap w (1+Z la) 1 3 - (1+Z la))) 3)) (xS (ak _)) aE ?_ ⟨rfl,rfl,rfl,aE,fun _ k _=>uY w.drew _ _ k⟩
   ·have e:Z ([z]++la)=1+Z la:=by simp;omega
    rw[e] at q;exact q
   ·refine af8 (dU w.drew _) fun j b=>?_;rw[Array.getElem?_append_left (by simp at b⊢;omega)];simp only[oB,QY];rw[show [Value.int yR z]++la.map (Value.int yR)=([z]++la).map (Value.int yR) by simp,mr,ba b];rfl
theorem alV (g cap:Nat) (l:Kx) (w:wA) (b:Holds (Value.int yR) w g 0 l.toArray) (h:g<w.heap.size) (t:Z l<=100000):
  c6 256 #[J (I ⟨g,0,O⟩) (Z l) cap] w fun e w'=>e=yk (J (I ⟨g,0,O⟩) (Z l) cap)/\aC w' (I ⟨g,0,O⟩) (l.mergeSort fun x y=>decide (x<=y))/\w.grownBy w' (I g):=by
 have Q:=Fa (Tryz.slices_Sort_int g 0 cap l w b h al);have p:Z (l.mergeSort fun x y=>decide (x<=y))=Z l:=MN _;generalize (l.mergeSort fun x y=>decide (x<=y))=s at *;have H:=Fa b;clear b;go_enter func256,ntmps256;go_wp2_with fail
 refine Q.o.af ?_;rintro e k ⟨rfl,q,a,rfl⟩;have z:s.toArray.size=l.toArray.size:=by simp;exact p
 have A:Holds (Value.int yR) (grow (putRow (Value.int yR) (Sort.ahead w q) g 0 s.toArray) a) g 0 s.toArray:=fun j c=>by
  obtain⟨d,f⟩:=holds_putRow (Value.int yR) (Sort.ahead w q) g 0 _ s.toArray H.o z j c;have i:g<(putRow (Value.int yR) (Sort.ahead w q) g 0 s.toArray).heap.size:=by rw[size_putRow];exact h
  refine⟨(cell?_grow _ _ _ i).trans d,?_⟩;rw[frozen?_grow _ _ _ i];exact f
 have r:=Mz (w:=w) (g:=g) (n:=q) (os:=a) s.toArray;have B7:g<(grow (putRow (Value.int yR) (Sort.ahead w q) g 0 s.toArray) a).heap.size:=aT h r.size;generalize grow (putRow (Value.int yR) (Sort.ahead w q) g 0 s.toArray) a=k at *;have m:=Fa A;clear A;go_wp2;go_ret;exact⟨rfl,Dp m.o B7 (fun j c=>⟨by simpa using c,aE⟩),r⟩
structure GV (w:wA) (x y z:wQ) (G D C Ab:Nat) (S:Jp) (U:Kx) (wr:wA) (F:List Fr) (A:Jp):Prop where
 gk:GK w wr x y z
 szs:cZ wr G S
 us:aC wr (I ⟨D,0,O⟩) U
 cs:gR wr C F
 vs:cZ wr Ab A
 oG:w.heap.size+2<=G
 oD:w.heap.size+2<=D
 oGC:G<C
 oDC:D<C
 oCA:C<Ab
theorem GV.step {x:wQ} {G C:Nat} {U:Kx} {F:List Fr} {A:Jp} (h:GV w x y z G D C Ab S U wr F A) (b:da wr wr'):GV w x y z G D C Ab S U wr' F A:=
 ⟨h.gk.step b,h.szs.aa b h.szs.lt,h.us.aa b,h.cs.aa b h.cs.lt,h.vs.aa b h.vs.lt,h.oG,h.oD,h.oGC,h.oDC,h.oCA⟩
theorem aC.far {o:Nat} (h:aC w (I ⟨g,o,O⟩) l) (b j:Nat) (y:wQ) (n:g≠b):aC (AF w ⟨b,j,O⟩ y) (I ⟨g,o,O⟩) l:=fun k d=>by
 obtain⟨g',o',e,a,c⟩:=h k d;cases e;exact⟨g,o,rfl,by simpa using a,(gg _ _ _ _ (fun e=>n (by cases e;rfl))).trans c⟩
theorem GK.far {V:wA} {x:wQ} (h:GK w V x y z) (b j:Nat) (u:wQ) (a:w.heap.size+2<=b):GK w (AF V ⟨b,j,O⟩ u) x y z:=
 ⟨⟨(eO V ⟨b,j,O⟩ u w.heap.size (by show w.heap.size≠b;omega)).trans h.1.1,h.1.2.setCell (p:=⟨b,j,O⟩) (by show w.heap.size<=b;omega) u⟩,h.2.off b j u al⟩
theorem GV.setA {x:wQ} {G C:Nat} {U:Kx} {F:List Fr} {A:Jp} (h:GV w x y z G D C Ab S U wr F A) (j k:Nat):GV w x y z G D C Ab S U (AF wr ⟨Ab,j,O⟩ (E yR (k:Nat))) F (A.set j k):=by
 have:=h.oG;have:=h.oD;have:=h.oGC;have:=h.oDC;have:=h.oCA;exact⟨h.gk.far _ _ _ al,h.szs.off _ _ _ al,h.us.far _ _ _ al,h.cs.off _ _ _ al,h.vs.set _ _,h.oG,h.oD,h.oGC,h.oDC,h.oCA⟩
theorem GV.setC {x:wQ} {G C:Nat} {U:Kx} {F:List Fr} {A:Jp} (h:GV w x y z G D C Ab S U wr F A) (k:Nat) (f:Fr):GV w x y z G D C Ab S U (AF (AF (AF wr ⟨C,k*3,O⟩ (zd f.1)) ⟨C,k*3+1,O⟩ (zX f.2.1)) ⟨C,k*3+2,O⟩ (zX f.2.2)) (F.set k f) A:=by
 have:=h.oG;have:=h.oD;have:=h.oGC;have:=h.oDC;have:=h.oCA;exact⟨((h.gk.far _ _ _ al).far _ _ _ al).far _ _ _ al,((h.szs.off _ _ _ al).off _ _ _ al).off _ _ _ al,((h.us.far _ _ _ al).far _ _ _ al).far _ _ _ al,h.cs.put k f,((h.vs.off _ _ _ al).off _ _ _ al).off _ _ _ al,h.oG,h.oD,h.oGC,h.oDC,h.oCA⟩
theorem GK.grown {V:wA} {x:wQ} (h:GK w V x y z) (c:V.grownBy V' (I g)) (b:w.heap.size+2<=g):GK w V' x y z:=
 have a:Below (w.heap.size+2) V V':=(aw _ V).grown c (by have:=h.2.lt;omega) (fun k e=>by cases e;exact b);⟨h.1.grow (a.af al),h.2.aa a al⟩
theorem aoq (a b c:Kd) (ca cb cc v:Nat) (V:List Vr) (L:List Kx) (R:List (List Fr)) (w:wA) (h:jc w a b c V L R) (hN:pU w b L) (hs:sX V L R) (hw:∀l∈R,fw l<=4200) (h0:aU V L R=0) (hv:v<Z V) (yI:∀U:wA,jc U a b c V L R ->c6 81 #[zp #[J a (Z V) ca,J b (Z L) cb,J c (Z R) cc]] U fun e w'=>e=yk (E yR (aU V L R))/\da U w'):
  c6 205 #[zp #[J a (Z V) ca,J b (Z L) cb,J c (Z R) cc],E yR (v:Nat)] w fun e w'=>xG w.heap.size (gU L v) (gL V L R v) 0 e w'/\da w w':=by
 have B6:=fK h0;have OZ:=hs.Fd.1;have b5:=B6.n8;have r:v<Z L:=by rw[B6.len];exact hv
 have tG:v<Z R:=by rw[B6.lenR];exact hv
 have oJ:=B6.up v r;have ax:=aeN h0 r;have an:=Fa yI;rw[h0] at an;have av:we ((([(v:Int)]++L[v]).mergeSort fun x y=>decide (x<=y))=gU L v):=acH r oJ ax;have bJ:we (Z ([(v:Int)]++L[v])=Z (gU L v)):=by show _=_;rw[<- av.o,MN]
 have bk:gU L v=a7 L[v] [(v:Int)]:=by rw[gU,cK,ba r];rfl
 have uO:we (Up (gU L v) (Z V)):=by rw[bk];exact Hv oJ (Wj hv)
 have b0:we (0<Z (gU L v)):=by show _<_;rw[<- bJ.o];simp
 have aR:=B6.fine;have kR:∀u,sz (ah V) u<=4:=fun u=>by have:=aR.sz_le u;rwa [jL] at this
 have fC:Pos (ah V):=by have:=aR.pos;rwa [jL] at this
 have b7:cnt (ah V) (ag (gU L v))<=65536:=xC kR (by rw[gG];have:=uO.o.length;omega);have gF:we (Z (gL V L R v)=cnt (ah V) (ag (gU L v))):=by show _=_;simp[gL]
 have bg:R[v].length=Z (gL V L R v):=by rw[gF.o,asJ _ r oJ ax];exact B6.rows v r tG
 have AO:we (∀k (h:k<Z (gL V L R v)),(gL V L R v)[k]=qF (bj (fL V L R (aY (ah V) (ag (gU L v)) k) v))):=fun k h=>by simp[gL]
 have td:we (∀K,K<cnt (ah V) (ag (gU L v)) ->(fL V L R (aY (ah V) (ag (gU L v)) K) v).2.1.size+(fL V L R (aY (ah V) (ag (gU L v)) K) v).2.2.size<=4200):=fun K hK=>apq B6 (fun u=>rI fC _ K u hK) hw hv
 have rL:we (∀(K:Nat) (U:wA) (G:Nat),K<cnt (ah V) (ag (gU L v)) ->jc U a b c V L R ->cZ U G (r5 (Z V) (aY (ah V) (ag (gU L v)) K)) ->c6 258 #[zp #[J a (Z V) ca,J b (Z L) cb,J c (Z R) cc],E yR (v:Nat),J (I ⟨G,0,O⟩) (Z V) (Z V)] U fun e w'=>e=yk (lB (fL V L R (aY (ah V) (ag (gU L v)) K) v))/\da U w'):=fun K U G hK h1 h2=>by
  rw[SD r tG];have:=apg a b c (I ⟨G,0,O⟩) ca cb cc (Z V) v V L R (r5 (Z V) (aY (ah V) (ag (gU L v)) K)) U h1 h2.ints (Hy _ _) b5 hv r tG aR oJ (B6.rows v r tG) (aY (ah V) (ag (gU L v)) K) (fun u=>rI fC _ K u hK) (fun u hu=>WL hu);rwa [Hy] at this
 have eP:Z (iL (ah V))=Z V:=by rw[bM,lQ]
 have bx:we (∀(U:wA) (G D cd K:Nat),K<cnt (ah V) (ag (gU L v)) ->cZ U G (ah V) ->aC U (I ⟨D,0,O⟩) (gU L v) ->c6 257 #[J (I ⟨G,0,O⟩) (Z V) (Z V),J (I ⟨D,0,O⟩) (Z (gU L v)) cd,E yR (K:Nat)] U fun e w'=>∃(g:Nat) (cc:Nat),e=yk (zz #[J (I ⟨g,0,O⟩) (Z (gU L v)) cc,E yR 0])/\U.heap.size<=g/\cZ w' g (oQ (ah V) (ag (gU L v)) K)/\da U w'):=fun U G D cd K hK h1 h2=>by
  have:=akt (I ⟨G,0,O⟩) (I ⟨D,0,O⟩) (Z V) cd K (iL (ah V)) (gU L v) U h1.ints h2 aR (by rw[eP];exact uO.o) (by rw[jL];exact hK);rwa [eP,jL] at this
 have bw:we (∀K i (hi:i<Z (ag (gU L v))),(oQ (ah V) (ag (gU L v)) K)[i]? =I (aY (ah V) (ag (gU L v)) K (ag (gU L v))[i])):=fun K i hi=>aiy uO.o.nodup hi;have aJ:we (∀K u,¬u∈ag (gU L v) ->aY (ah V) (ag (gU L v)) K u=0):=fun K u hu=>LW hu;have ie:=Fa (fun (U:wA) (hU:tM U a V)=>NI a b c ca cb cc (Z L) (Z R) V U hU OZ);have Vd:=Fa (h.pars v r);have b6:=hs.pars.2 L[v] (bQ r);replace b6:L[v].length<=50000:=al
 have Ez:=Fa (hN v r);obtain⟨gr,Y,br,cr,rfl,ab,r1, -, -⟩:=h.rows v tG;rw[bg] at r1;have kI:=Fa r1;have HI:=Fa h;generalize gL V L R v=F at *;generalize gU L v=U at *;obtain⟨gp,f,bl,cl,rfl,im,p1,lU⟩:=Vd.o;have U5:=Fa (Ez.o gp f bl _ cl rfl p1);have wm:=Fa p1;have Cr:=Fa lU;generalize aqa:L[v]=pl at *;clear h hs hw h0 B6 oJ bk aR kR fC eP Vd p1 lU aqa ax hN Ez bg r1 yI;have mi:=Fa (GK.new w (J a (Z V) ca) (J (I ⟨gp,f,O⟩) (Z L) cb) (J (I ⟨gr,Y,O⟩) (Z R) cc));obtain⟨M,B2,P⟩:=mi.o.1.1.cells;go_enter func205,ntmps205;go_wp2_with fail
 generalize ((w.alloc (NC (J a (Z V) ca) (J (I ⟨gp,f,O⟩) (Z L) cb) (J (I ⟨gr,Y,O⟩) (Z R) cc))).alloc (TC (J O 0 0) (J O 0 0)))=w1 at *;refine(an.o _ (HI.o.aa mi.o.1.2)).af ?_;rintro e W ⟨rfl,Q⟩;have d:=mi.o.step Q;clear Q mi M B2 P an;obtain⟨M,B2,P⟩:=d.1.1.cells;have cx:(0:Int)<=(v:Int):=al
 have pA:(v:Int)<(Z V:Int):=al
 have aj:=Fa d;clear d;go_upto_region 6 with fail
 clear M B2 P;have xo:decide (Z V<=v)=false:=by simp;exact hv
 have sL:decide ((v:Int)<0)=false:=aE
 simp only[xo,sL,Bool.or_false];go_cut [7,8] from 32 to 42 (fun s t wx=>∃G D cd,s=J (I ⟨G,0,O⟩) (Z V) (Z V)/\t=J (I ⟨D,0,O⟩) (Z U) cd/\w.heap.size+2<=G/\w.heap.size+2<=D/\cZ wx G (ah V)/\aC wx (I ⟨D,0,O⟩) U/\GK w wx (J a (Z V) ca) (J (I ⟨gp,f,O⟩) (Z L) cb) (J (I ⟨gr,Y,O⟩) (Z R) cc))
 case first=>
  have d:=aj.o;clear aj;replace d:GK w W.drew (J a (Z V) ca) (J (I ⟨gp,f,O⟩) (Z L) cb) (J (I ⟨gr,Y,O⟩) (Z R) cc):=⟨⟨d.1.1,d.1.2.drew⟩,d.2⟩;refine iD (S:=fun u=>AJ u ⟨w.heap.size,0,O⟩=I (J a (Z V) ca)/\u.cell? ⟨w.heap.size,1,O⟩=I (J (I ⟨gp,f,O⟩) (Z L) cb)/\u.cell? ⟨w.heap.size,2,O⟩=I (J (I ⟨gr,Y,O⟩) (Z R) cc)/\u.cell? ⟨gp,f+v,O⟩=I (J bl (Z pl) cl)) ao ⟨d.1.1.cells.1,d.1.1.cells.2.1,d.1.1.cells.2.2,(d.1.2.cell (p:=⟨gp,f+v,O⟩) im).trans wm.o⟩ (fun B9=>?_);generalize W.drew=T at *;refine au 0 (zp #[J a (Z V) ca,J (I ⟨gp,f,O⟩) (Z L) cb,J (I ⟨gr,Y,O⟩) (Z R) cc]) ?_;refine au 2 (E yR (v:Nat)) ?_;refine au 4 (zZ (I ⟨w.heap.size,1,O⟩)) ?_;refine au 5 (J (I ⟨gp,f,O⟩) (Z L) cb) ?_;refine au 6 (E yR (v:Nat)) ?_;refine au 7 (zZ (I ⟨gp,f+v,O⟩)) ?_;refine au 8 (J bl (Z pl) cl) ?_;refine aG [1,3] (cA ?_ (cA ?_ aH))
  focus
   intro B7 m;go_simp;refine(ie.o _ (HI.o.aa d.1.2).Fd).af ?_;rintro e B1 ⟨G,rfl,DK,ad,Q⟩;(have Lt:w.heap.size+2<=G:=by have:=d.2.lt;omega);replace d:=d.step Q;refine m.o _ _ ⟨d.1.1.cells.1,d.1.1.cells.2.1,d.1.1.cells.2.2,(d.1.2.cell (p:=⟨gp,f+v,O⟩) im).trans wm.o⟩ (fun q=>?_);clear Q DK m B7 B9;have B9:=q;clear q;refine aG [3] (cA ?_ aH);intro B7 m;go_simp;have ai:(AC B1 (yd #[E yR (v:Int)] 3)).heap[B1.heap.size]? =I (yd #[E yR (v:Int)] 3 (0,0)):=dU B1 _;have bA:G<B1.heap.size:=ad.lt;replace ad:=ad.alloc (yd #[E yR (v:Int)] 3);(have bO:w.heap.size+2<=B1.heap.size:=by have:=d.2.lt;omega);replace d:=d.step ((aw _ B1).alloc (ak _) (yd #[E yR (v:Int)] 3));refine m.o _ _ ⟨d.1.1.cells.1,d.1.1.cells.2.1,d.1.1.cells.2.2,(d.1.2.cell (p:=⟨gp,f+v,O⟩) im).trans wm.o⟩ (fun q=>?_);generalize (AC B1 (yd #[E yR (v:Int)] 3))=u2 at *;generalize B1.heap.size=gb at *
  rotate_left
  focus
   intro B7 m;go_simp;have ai:(AC T (yd #[E yR (v:Int)] 3)).heap[T.heap.size]? =I (yd #[E yR (v:Int)] 3 (0,0)):=dU T _;(have bO:w.heap.size+2<=T.heap.size:=by have:=d.2.lt;omega);(have bN:T.heap.size<(AC T (yd #[E yR (v:Int)] 3)).heap.size:=aE);replace d:=d.step ((aw _ T).alloc (ak _) (yd #[E yR (v:Int)] 3));refine m.o _ _ ⟨d.1.1.cells.1,d.1.1.cells.2.1,d.1.1.cells.2.2,(d.1.2.cell (p:=⟨gp,f+v,O⟩) im).trans wm.o⟩ (fun q=>?_);generalize (AC T (yd #[E yR (v:Int)] 3))=u2 at *;generalize T.heap.size=gb at *;clear m B7 B9;have B9:=q;clear q;refine aG [1] (cA ?_ aH);intro B7 m;go_simp;refine(ie.o _ (HI.o.aa d.1.2).Fd).af ?_;rintro e B1 ⟨G,rfl,DK,ad,Q⟩;(have Lt:w.heap.size+2<=G:=by have:=d.2.lt;omega);(have bA:gb<G:=al);replace d:=d.step Q;replace ai:=(Q.block gb bN).trans ai;refine m.o _ _ ⟨d.1.1.cells.1,d.1.1.cells.2.1,d.1.1.cells.2.2,(d.1.2.cell (p:=⟨gp,f+v,O⟩) im).trans wm.o⟩ (fun q=>?_);clear Q DK
  all_goals
   clear m B7 B9;have B9:=q;clear q;refine aG [9] (cA ?_ aH);intro B7 m;rw[aA (by rfl)];refine ajA _ _ rfl gb (v:Int) pl rfl ai bl cl rfl (Cr.o.aa d.1.2) U5.o al ?_;intro D cap u3 hD b4 bf ab;have Pb:GK w u3 (J a (Z V) ca) (J (I ⟨gp,f,O⟩) (Z L) cb) (J (I ⟨gr,Y,O⟩) (Z R) cc):=d.grown ab al;have YI:cZ u3 G (ah V):=(ab.block G ad.lt (fun e=>by cases e;omega)).trans ad;(have b2:w.heap.size+2<=D:=by have:=d.2.lt;omega);(have b3:D≠G:=by have:=ad.lt;omega);clear d ad ai ab hD;have d:=Pb;clear Pb;refine m.o _ _ ⟨d.1.1.cells.1,d.1.1.cells.2.1,d.1.1.cells.2.2,(d.1.2.cell (p:=⟨gp,f+v,O⟩) im).trans wm.o⟩ (fun q=>?_);clear m B7 B9;have B9:=q;clear q;refine aG [10] (cA ?_ aH);intro B7 m;go_simp;refine(alV D cap ([(v:Int)]++pl) u3 bf b4 (by simp;omega)).af ?_;rintro e u4 ⟨rfl,bt,ab⟩;rw[av.o] at bt;have Pb:GK w u4 (J a (Z V) ca) (J (I ⟨gp,f,O⟩) (Z L) cb) (J (I ⟨gr,Y,O⟩) (Z R) cc):=d.grown ab al;have bz:cZ u4 G (ah V):=(ab.block G YI.lt (fun e=>b3 (kg e).symm)).trans YI;clear d YI ab bf;have d:=Pb;clear Pb;refine m.o _ _ ⟨d.1.1.cells.1,d.1.1.cells.2.1,d.1.1.cells.2.2,(d.1.2.cell (p:=⟨gp,f+v,O⟩) im).trans wm.o⟩ (fun q=>?_);clear m B7 B9;have B9:=q;clear q;refine au 11 (J (I ⟨G,0,O⟩) (Z V) (Z V)) ?_;refine au 12 (J (I ⟨D,0,O⟩) (Z ([(v:Int)]++pl)) cap) ?_;(try simp only[gE,aP])
   refine eV ao ?_ _;clear B9;go_wp2_with fail
   go_meet
   rw[bJ.o];exact⟨G,D,cap,rfl,rfl,Lt,b2,bz,bt,d⟩
 case rest=>
 obtain⟨G,D,cd,rfl,rfl,oG,oD,S2,Iy,d⟩:=hcut;clear xo sL av bJ Cr wm U5 ie aj;have b8:=d.2.lt;obtain⟨M,B2,P⟩:=d.1.1.cells;have r2:=(d.1.2.cell (p:=⟨gr,Y+v,O⟩) ab).trans kI.o;have cm:(v:Int)<(Z R:Int):=al
 obtain⟨i1,Ds,lq,cf,cg⟩:=eo Tryz.infoFrac;obtain⟨i0,cH,ch,cj,ck⟩:=eo Tryz.infoInt;have ct:Z F<=65536:=by rw[gF.o];exact b7
 have HG:=Fa d;clear d
 go_wp2_with (first
  |(at_make;refine oX _ rfl _ _ 36 rfl wc.heap.size 63 i1 (zp #[zd x3,zX ⟨#[]⟩,zX ⟨#[]⟩]) 3 underlying36 Ds lq cf yR yR _ _ (Z F) rfl rfl bd bd (by rw[cg];omega) (by unfold maxLen;omega) (ak _) ?_;intro w3 a1 bb;have di:da wc w3:=(aw _ wc).grown bb (ak _) (fun k e=>by cases e);have TE:=HG.o.step di;clear M B2 P r2;obtain⟨M,B2,P⟩:=TE.1.1.cells)
  |(at_make;refine oX _ rfl _ _ 27 rfl w3.heap.size 3 i0 (E yR 0) 1 underlying27 cH ch cj yR yR _ _ (Z V) rfl rfl bd bd (by rw[ck];omega) (by unfold maxLen;omega) (ak _) ?_;intro w4 sI IM))
 have ay:=aaE a1;rw[NT] at ay;have az:=sR sI;rw[KV] at az;have fN:da w3 w4:=(aw _ w3).grown IM (ak _) (fun k e=>by cases e);have nO:gR w3 wc.heap.size (List.replicate (Z F) tK):=ay;have yH:cZ w4 w3.heap.size (List.replicate (Z V) 0):=az;have bu:=nO.lt;have Z0:=di.trans (fN.af di.size)
 have e0:List.replicate (Z V) 0=r5 (Z V) (fun _=>0):=by
  apply mZ<;>simp[r5]
 rw[e0] at yH;have a6:=S2.lt
 have bs:D<wc.heap.size:=by
  obtain⟨g',o',e,h2,_⟩:=Iy 0 (by have:=b0.o;omega);cases e;exact h2
 have aW:we (GV w (J a (Z V) ca) (J (I ⟨gp,f,O⟩) (Z L) cb) (J (I ⟨gr,Y,O⟩) (Z R) cc) G D wc.heap.size w3.heap.size (ah V) U w4 (List.replicate (Z F) tK) (r5 (Z V) (fun _=>0))):=⟨TE.step fN,S2.aa Z0 S2.lt,Iy.aa Z0,nO.aa fN nO.lt,yH,oG,oD,a6,bs,bu⟩;clear a1 bb sI IM ay az di fN nO yH bu Z0 e0 a6 bs S2 Iy TE HG M B2 P oG oD b8;generalize wc.heap.size=C at *;generalize w3.heap.size=Ab at *;go_wp2_with fail
 go_loopw [56] (fun iv wr=>∃(i:Nat) (A:Nat ->Nat),i<=Z F/\iv=E yR i/\we (∀u,¬u∈ag U ->A u=0)/\we (GV w (J a (Z V) ca) (J (I ⟨gp,f,O⟩) (Z L) cb) (J (I ⟨gr,Y,O⟩) (Z R) cc) G D C Ab (ah V) U wr (uq F i) (r5 (Z V) A))) (fun iv _=>Z F - (intOf iv).toNat)
 case atStart=>exact⟨0,fun _=>0,aX _,rfl,fun _ _=>rfl,by rw[adS];exact aW⟩
 case round=>
  obtain⟨i,A,hi,rfl,Vz,H⟩:=hrel;clear aW;by_cases ae:i<Z F
  ·have Y9:i<cnt (ah V) (ag U):=by rw[<- gF.o];exact ae
   go_wp2_with fail
   refine(bx.o _ G D cd i Y9 H.o.szs H.o.us).af ?_;rintro e u1 ⟨g5,cp,rfl,bC,Th,bm⟩;have I2:=H.o.vs.lt;(have b1:g5≠Ab:=al);have Gt:=Fa (H.o.step bm);have Jy:=Fa Th;clear Th bm H bC I2;go_wp2_with fail
   go_loopw [68] (fun jv wr=>∃j:Nat,j<=Z U/\jv=E yR j/\we (GV w (J a (Z V) ca) (J (I ⟨gp,f,O⟩) (Z L) cb) (J (I ⟨gr,Y,O⟩) (Z R) cc) G D C Ab (ah V) U wr (uq F i) (r5 (Z V) (BC A (aY (ah V) (ag U) i) (ag U) j)))/\we (cZ wr g5 (oQ (ah V) (ag U) i))) (fun jv _=>Z U - (intOf jv).toNat)
   case atStart=>exact⟨0,aX _,rfl,by rw[aoY];exact Gt,Jy⟩
   case round=>
    obtain⟨j,hj,rfl,H,Vn⟩:=hrel;clear Gt Jy;have cw:=uO.o.length;by_cases sJ:j<Z U
    ·obtain⟨kQ,iJ⟩:=uO.o.nat sJ;(have bp:j<Z (ag U):=by rw[gG];exact sJ);have je:=Fa (aoZ A (aY (ah V) (ag U) i) (Z V) bp);have Dy:=bw.o i j bp;rw[wO sJ] at je Dy;obtain⟨g',o',e, -,cu⟩:=H.o.us j sJ;cases e;rw[bK] at cu;generalize U[j].toNat=u at *;rw[<- kQ] at cu;clear kQ;obtain⟨xm,OS⟩:=oA.1 Dy;have cv:=Vn.o.cell j xm;rw[OS] at cv;have cn:=H.o.vs.cell u (by rw[Hy];exact iJ);have cq:=H.o.vs.fz u;generalize aY (ah V) (ag U) i u=z at *;have aZ:=Fa (H.o.setA u z);rw[je.o] at aZ;have bT:=Fa (Vn.o.off Ab u (E yR (z:Nat)) b1);clear Dy OS H Vn;go_wp2;go_roundw
     case rel=>exact⟨j+1,al,bd,aZ,bT⟩
     case measure=>simp[intOf];omega
    ·obtain rfl:j=Z U:=al
     have X:=H.o;rw[show BC A (aY (ah V) (ag U) i) (ag U) (Z U)=aY (ah V) (ag U) i by rw[<- gG U];exact ao0 Vz.o (aJ.o i)] at X;obtain⟨M,B2,P⟩:=X.gk.1.1.cells;have UH:=Fa X;clear X H Vn;go_wp2_with fail
     refine(rL.o i _ Ab Y9 (HI.o.aa UH.o.gk.1.2) UH.o.vs).af ?_;rintro e u3 ⟨rfl,eR⟩;have tO:=Fa (UH.o.step eR);clear M B2 P eR UH;have OJ:=AO.o i ae;have bo:=td.o i Y9;generalize fL V L R (aY (ah V) (ag U) i) v=fr at *;obtain⟨fn,fx,fy⟩:=fr;replace bo:fx.size+fy.size<=4200:=bo;have hq:F[i]=qF (val fn fx fy):=OJ;have HQ:=Fa hq;clear OJ hq;go_wp2_with fail
     refine(VB (n:=fn) (x:=fx) (y:=fy) (w:=u3) (val fn fx fy) rfl al).af ?_;rintro e u5 ⟨rfl,iB⟩;have yQ:=Fa (tO.o.step iB);clear iB tO;have aM:=Fa (adU F ae);rw[HQ.o] at aM;obtain⟨k0,k1,k2⟩:=yQ.o.cs.cells i (by rw[Xg _ hi];exact ae);have f0:=yQ.o.cs.fz (i*3);have f1:=yQ.o.cs.fz (i*3+1);have f2:=yQ.o.cs.fz (i*3+2);generalize (uq F i)[i]'(by rw[Xg _ hi];exact ae)=zf at *;obtain⟨zn,zx,zy⟩:=zf;simp only at k0 k1 k2;have HP:=Fa (yQ.o.setC i (qF (val fn fx fy)));rw[aM.o] at HP;generalize val fn fx fy=qq at *;go_wp2;go_roundw
     case rel=>exact⟨i+1,_,al,bd,aJ.o i,HP⟩
     case measure=>simp[intOf];omega
  ·obtain rfl:i=Z F:=al
   have X:=H.o;rw[adV] at X;obtain⟨k0,k1,f0,f1⟩:=X.gk.2.facts;have h1:=X.oD;have h2:=X.oDC;clear H;go_wp2;refine cN ((X.gk.2.put _ _).result2 rfl _ rfl) rfl ?_;exact⟨⟨I ⟨D,0,O⟩,I ⟨C,0,O⟩,cd,Z F,rfl,(X.us.far _ _ _ al).far _ _ _ al,((X.cs.off _ _ _ al).off _ _ _ al).fr,jb.at al,jb.at al⟩,rG X.gk.1.2 al _ _⟩
theorem aos (a b c:Kd) (ca cb cc:Nat) (V:List Vr) (L:List Kx) (R:List (List Fr)) (w:wA) (h:jc w a b c V L R) (hs:sX V L R)
  (B1:Z L=Z V ->Z R=Z V ->bq L=0 ->mA V=0 ->∀U:wA,jc U a b c V L R ->c6 136 #[zp #[J a (Z V) ca,J b (Z L) cb,J c (Z R) cc]] U fun e w'=>e=yk (E yR (kD (jA (ah V) L R) (Z V)))/\da U w'):
  c6 81 #[zp #[J a (Z V) ca,J b (Z L) cb,J c (Z R) cc]] w (dj w (E yR (aU V L R))):=by
 have B7:=Fa h;have OZ:=hs.Fd.1;have ae:=hs.pars.1;have ai:=hs.rows.1;have u:we (¬(Z L=Z V/\R.length=Z V) ->aU V L R=8):=fun h=>aD h;have P:we (Z L=Z V ->Z R=Z V ->bq L≠0 ->aU V L R=bq L):=fun k n p=>by rw[aU,aA ⟨k,n⟩,aD p]
 have S:we (Z L=Z V ->Z R=Z V ->bq L=0 ->mA V≠0 ->aU V L R=mA V):=fun k n p s=>by rw[aU,aA ⟨k,n⟩,aA p,aD s]
 have T:we (Z L=Z V ->Z R=Z V ->bq L=0 ->mA V=0 ->aU V L R=kD (jA (ah V) L R) (Z V)):=fun k n p s=>by rw[aU,aA ⟨k,n⟩,aA p,aA s]
 have Y:=Fa (fun (U:wA) (x:ei U b L)=>ari b cb L U x (fun l hl=>by have:=hs.pars.2 l hl;omega));have Q:=Fa (fun (U:wA) (x:tM U a V)=>asU a ca V U x hs.Fd);have t:=Fa B1;generalize aU V L R=ne at *;clear h hs B1;have m:=Fa (NK.new w (J a (Z V) ca) (J b (Z L) cb) (J c (Z R) cc));obtain⟨f,g,i⟩:=m.o.1.cells;by_cases v:Z L=Z V
 ·by_cases A:Z R=Z V
  ·have B2:((Z L:Int) !=(Z V:Int))=false:=by rw[v];simp
   (have ab:((Z R:Int) !=(Z V:Int))=false:=by rw[A];simp);have F:=Fa (P.o v A);have z:=Fa (S.o v A);have B9:=Fa (T.o v A);have M:=Fa (t.o v A);clear v A u P S T t;generalize kD (jA (ah V) L R) (Z V)=fe at *;generalize bq L=ge at *;generalize mA V=X at *;go_enter func81,ntmps81;go_wp2_with fail
   generalize (w.alloc (NC (J a (Z V) ca) (J b (Z L) cb) (J c (Z R) cc)))=w1 at *;refine(Y.o _ (B7.o.aa m.o.2).pars).af ?_;rintro e w2 ⟨rfl,d⟩;have K:=m.o.step d;clear d m f g i B2 ab Y;obtain⟨f,g,i⟩:=K.1.cells;by_cases q:ge=0
   ·subst q;have y:=Fa (z.o rfl);have D:=Fa (B9.o rfl);have B6:=Fa (M.o rfl);have j:=Fa K;clear F z B9 M K;go_wp2_with fail
    refine(Q.o _ (B7.o.aa j.o.2).Fd).af ?_;rintro e w3 ⟨rfl,d⟩;have K:=j.o.step d;clear d j f g i Q;obtain⟨f,g,i⟩:=K.1.cells;by_cases r:X=0
    ·subst r;have H:=Fa (D.o rfl);have ad:=Fa (B6.o rfl);have j:=Fa K;clear y D B6 K;go_wp2_with fail
     refine(ad.o _ (B7.o.aa j.o.2)).af ?_;rintro e w4 ⟨rfl,d⟩;have K:=j.o.step d;clear f g i d;go_wp2;go_ret;exact⟨by rw[H.o];rfl,K.2⟩
    ·have H:=Fa (y.o r);(have nD:(X==0)=false:=by simpa using r);clear r y D B6 f g i;go_wp2;go_ret;exact⟨by rw[H.o];rfl,K.2⟩
   ·have H:=Fa (F.o q);(have aj:(ge==0)=false:=by simpa using q);clear q F z B9 M f g i;go_wp2;go_ret;exact⟨by rw[H.o];rfl,K.2⟩
  ·have H:=Fa (u.o fun h=>A h.2);(have B2:((Z L:Int) !=(Z V:Int))=false:=by rw[v];simp)
   have ab:((Z R:Int) !=(Z V:Int))=true:=by
    (have:¬(Z R:Int)=(Z V:Int):=al);simpa using this
   clear v A u t;go_enter func81,ntmps81;go_wp2;go_ret;exact⟨by rw[H.o];rfl,m.o.2⟩
 ·have H:=Fa (u.o fun h=>v h.1)
  have B2:((Z L:Int) !=(Z V:Int))=true:=by
   (have:¬(Z L:Int)=(Z V:Int):=al);simpa using this
  clear v u t;go_enter func81,ntmps81;go_wp2;go_ret;exact⟨by rw[H.o];rfl,m.o.2⟩
end Go.Proofs.YtkflnpjapgiajaaGreatDoor
