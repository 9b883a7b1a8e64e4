/- Part3: part 3. -/
import Derived.Test.YtkflnpjapgiajaaGreatDoorLegF2
set_option maxRecDepth 100000
set_option maxHeartbeats 400000000
set_option linter.unusedSimpArgs false
set_option linter.unusedVariables false
namespace Go.Proofs.YtkflnpjapgiajaaGreatDoor
open Value renaming slice→Z,int→J,string→zK,pointer→zR,bool→zZ,agg→zd,tuple→zp,nilFunc→z7
open IntKind renaming i64→I
open Obj renaming cells→yM
open Ending renaming returned→yW
open Or renaming inl→yd,inr→yk
open Option renaming none→N,some→M
open Bool renaming true→y6,false→xd
open Go renaming World→E,Value→wF,undef→wQ
open RowKit renaming Hid→wT
open Go.Proofs.Tryz
open _root_.Array renaming size→O
open World renaming heap→T
open List renaming length→C
open Go.RowKit Go.Shelf
variable {l other:Kx} {ca cb g j k m n:Nat} {a:Kd} {y z:wF} {V' w:E}
def aa5 (w:E) (g:Nat) (x y z t:wF):Prop:=w.heap[g]? =M (yM #[x,y,z,t] 38 (0,0))
theorem aa5.lt {x t:wF} (h:aa5 w g x y z t):g<O (T w):=(cS.1 h).1
def PH (w V:E) (x y z t:wF):Prop:=aZ V (O (T w)) x y/\aZ V (O (T w)+1) z t/\aZ V (O (T w)+1+1) (Z N 0 0) (Z N 0 0)/\aa5 V (O (T w)+1+1+1) x y z t/\da w V
theorem PH.step {V:E} {x t:wF} (h:PH w V x y z t) (b:da V V'):PH w V' x y z t:=⟨h.1.aa b h.1.lt,h.2.1.aa b h.2.1.lt,h.2.2.1.aa b h.2.2.1.lt,(b.block _ h.2.2.2.1.lt).trans h.2.2.2.1,h.2.2.2.2.trans (b.ae h.2.2.2.2.size)⟩
theorem PH.drew {V:E} {x t:wF} (h:PH w V x y z t):PH w V.drew x y z t:=⟨h.1,h.2.1,h.2.2.1,h.2.2.2.1,h.2.2.2.2.drew⟩
theorem PH.new (w:E) (x y z t:wF):PH w ((((w.alloc (TC x y)).alloc (TC z t)).alloc (TC (Z N 0 0) (Z N 0 0))).alloc (yM #[x,y,z,t] 38)) x y z t:=by
 refine⟨((aZ.at rfl _ _).alloc _ |>.alloc _).alloc _,((aZ.at aE _ _).alloc _).alloc _,(aZ.at aE _ _).alloc _,?_,((((au _ w).alloc (ah _) _).alloc aE _).alloc (by simp;omega) _).alloc (by simp;omega) _⟩;have h:=dU (((w.alloc (TC x y)).alloc (TC z t)).alloc (TC (Z N 0 0) (Z N 0 0))) (yM #[x,y,z,t] 38);rw[eV,eV,eV] at h;exact h
theorem PH.row {V:E} {x t:wF} (h:PH w V x y z t):(V.cell? ⟨O (T w)+1+1+1,0,N⟩=M x/\V.cell? ⟨O (T w)+1+1+1,1,N⟩=M y)/\V.cell? ⟨O (T w)+1+1+1,2,N⟩=M z/\V.cell? ⟨O (T w)+1+1+1,3,N⟩=M t:=by
 refine⟨⟨?_,?_⟩,?_,?_⟩<;>(rw[ba _ _ _ _ _ (0,0) h.2.2.2.1];rfl)
theorem KH {V:E} {B b:Nat} {t:TypeId} {x:wF} (h:Boxed V B t z7) (a:V.cell? ⟨b,j,N⟩=M x) (n:x≠z7):b≠B:=fun e=>by
 subst e;rw[ba V b j _ _ (0,0) h] at a;match j with
 |0=>simp at a;exact n a.symm
 |j+1=>simp at a
theorem Yg {V:E} {B:Nat} {t:TypeId} {c:Kd} (h:Boxed V B t z7) (i:aB V c l) (y:wF):aB (V.setCell ⟨B,0,N⟩ y) c l:=fun k b=>by
 obtain⟨g,o,rfl,d,a⟩:=i k b;have n:=KH h a aE;exact⟨g,o,rfl,aT d (jJ V _ _).size,(fT _ _ _ _ (fun e=>n (eG Addr.block e).symm)).trans a⟩
theorem pL.nil {V:E} {B:Nat} {t:TypeId} {f:wF} {b:Kd} {Fb Fd:Kx} (h:pL V n m f a b ca cb Fb Fd other) (d:Boxed V B t z7) (y:wF):pL (V.setCell ⟨B,0,N⟩ y) n m f a b ca cb Fb Fd other:=by
 obtain⟨v,s,k,g,l,o,c,z,Bb,p,q,u,w⟩:=h;have r:∀(b j:Nat) (x:wF),V.cell? ⟨b,j,N⟩=M x ->x≠z7 ->(V.setCell ⟨B,0,N⟩ y).cell? ⟨b,j,N⟩=M x:=fun b j x i c=>(fT _ _ _ _ (fun e=>KH d i c (eG Addr.block e).symm)).trans i;exact⟨v,s,k,g,l,o,c,z,aM Bb (jJ V _ _).size,r _ _ _ p aE,r _ _ _ q aE,r _ _ _ u aE,Yg d w y⟩
theorem PH.nil {V:E} {x t:wF} {B:Nat} {f:TypeId} (h:PH w V x y z t) (d:bV x) (e:bV z) (b:Boxed V B f z7) (c:O (T w)<=B) (u:wF):PH w (V.setCell ⟨B,0,N⟩ u) x y z t:=by
 obtain⟨g,n,j,rfl⟩:=d;obtain⟨i,l,k,rfl⟩:=e;have a:=h.row.1.1;exact⟨h.1.off B 0 u (KH b h.1.c0 aE),h.2.1.off B 0 u (KH b h.2.1.c0 aE),h.2.2.1.off B 0 u (KH b h.2.2.1.c0 aE),(eW V ⟨B,0,N⟩ u _ (KH b a aE)).trans h.2.2.2.1,h.2.2.2.2.setCell (p:=⟨B,0,N⟩) c u⟩
theorem adE (S a b U:Ja) (la lb:List Fr):C (xU S a b U la lb)=cnt S U:=by simp[xU]
theorem amn (S a b U:Ja) (la lb:List Fr) (h:k<C (xU S a b U la lb)):(xU S a b U la lb)[k]=qF (a8 (aQ la (pos S (aX S U k) a))*a8 (aQ lb (pos S (aX S U k) b))):=by simp[xU]
theorem acE {Fb Fd U:Kx} {K:Nat} (k:kX Fb Fd m=0) (b:K<cnt (af Fb) (af U)):pos (af Fb) (aX (af Fb) (af U) K) (af Fd)<m:=by
 obtain⟨h,c,a⟩:=Gf k;rw[a];exact qQ _ (fun u=>sD h.pos _ _ u b) _
theorem akn (a b c Q c':Kd) (ca cb cc Ba jm:Nat) (Fb D Bm:Kx) (la lb:List Fr) (w:E) (hs:aB w a Fb) (ye:aB w b D) (mW:aB w Q Bm) (Tk:dH w c la) (aJ:dH w c' lb) (hn:C Fb<=140737488355328) (bu:C D<=140737488355328) (IH:C Bm<=140737488355328) (ay:b=N ->cb=0) (vw:Q=N ->Ba=0) (ak:kX Fb D (C la)=0) (an:kX Fb Bm (C lb)=0) (Yu:Cw 100000 la) (a1:Cw 100000 lb):
  c6 106 #[Z a (C Fb) ca,zd #[Z b (C D) cb,Z c (C la) cc],zd #[Z Q (C Bm) Ba,Z c' (C lb) jm]] w fun e w'=>Av (O (T w)) (aU D Bm) (xU (af Fb) (af D) (af Bm) (af (aU D Bm)) la lb) 0 e w'/\da w w':=by
 obtain⟨aR,od, -⟩:=Gf ak;obtain⟨-,uk, -⟩:=Gf an;obtain⟨R,kV,av⟩:∃R:Nat ->Int,R 0=kX Fb D (C la)/\R 1=kX Fb Bm (C lb):=⟨fun i=>if i=0 then kX Fb D (C la) else kX Fb Bm (C lb),rfl,rfl⟩
 have bf:wT (∀i,i< 2 ->R i=0):=by
  intro i q;by_cases h:i=0
  ·subst h;rw[kV];exact ak
  ·obtain rfl:i=1:=al
   rw[av];exact an
 have uu:=aR.eight;have lF:=od.length;have kD:=uk.length;have P8:=Fa (fun V h1 h2=>akj b Q cb Ba D Bm V h1 h2 ay vw al al);have Eu:=Fa (fun K (hK:K<cnt (af Fb) (af (aU D Bm)))=>acE ak hK);have vP:=Fa (fun K (hK:K<cnt (af Fb) (af (aU D Bm)))=>acE an hK);have k5:=Fa (adE (af Fb) (af D) (af Bm) (af (aU D Bm)) la lb);have EC:=Fa (fun (k:Nat) (h:k<C (xU (af Fb) (af D) (af Bm) (af (aU D Bm)) la lb))=>amn (af Fb) (af D) (af Bm) (af (aU D Bm)) la lb h);have uG:=Fa (Hy od uk);generalize xU (af Fb) (af D) (af Bm) (af (aU D Bm)) la lb=FL at *;generalize aU D Bm=U at *;have Qc:=Fa (fun V d F h1 h2=>WL a d b ca F cb Fb U D V h1 h2 aR od);have B7:=Fa (fun V d F h1 h2=>WL a d Q ca F Ba Fb U Bm V h1 h2 aR uk);have eh:=Fa aR;have bg:=Fa od;have bh:=Fa uk;have bb:=Fa Tk;have bc:=Fa aJ;have bk:=Fa Yu;have bm:=Fa a1;clear ak an aR od uk Tk aJ Yu a1 ay vw
 have a6:∀i,i< 2 ->∃(p ab:Kd) (n m cp cq:Nat) (r:Int),(∀V,PH w V (Z b (C D) cb) (Z c (C la) cc) (Z Q (C Bm) Ba) (Z c' (C lb) jm) ->V.cell? ⟨O (T w)+1+1+1,i*2,N⟩=M (Z p n cp)/\V.cell? ⟨O (T w)+1+1+1,i*2+1,N⟩=M (Z ab m cq))/\(∀V,da w V ->c6 114 #[Z a (C Fb) ca,zd #[Z p n cp,Z ab m cq]] V fun e w'=>e=yW (J I r)/\da V w')/\R i=r:=by
  intro i q;by_cases h:i=0
  ·subst h;exact⟨b,c,C D,C la,cb,cc,_,fun V h=>h.row.1,fun V h=>Kg a b c ca cb cc (C la) Fb D V (hs.aa h) (ye.aa h) hn bu,kV⟩
  ·obtain rfl:i=1:=al
   exact⟨Q,c',C Bm,C lb,Ba,jm,_,fun V h=>h.row.2,fun V h=>Kg a Q c' ca Ba jm (C lb) Fb Bm V (hs.aa h) (mW.aa h) hn IH,av⟩
 have Qn:=Fa a6;have Bj:=Fa hs;have Cc:=Fa ye;have Y:=Fa mW;clear a6 kV av hs ye mW;have H:=PH.new w (Z b (C D) cb) (Z c (C la) cc) (Z Q (C Bm) Ba) (Z c' (C lb) jm);have c0:=H.1.c0;have c1:=H.1.c1;have c2:=H.2.1.c0;have c3:=H.2.1.c1;go_enter func106,ntmps106;go_wp2_with fail
 generalize ((((w.alloc (TC (Z b (C D) cb) (Z c (C la) cc))).alloc (TC (Z Q (C Bm) Ba) (Z c' (C lb) jm))).alloc (TC (Z N 0 0) (Z N 0 0))).alloc (yM #[Z b (C D) cb,Z c (C la) cc,Z Q (C Bm) Ba,Z c' (C lb) jm] 38))=W at *;have ax:=Fa H;clear c0 c1 c2 c3 H;go_loopw [18] (fun iv wr=>∃i:Nat,i<=2/\iv=J I i/\wT (∀j,j< i ->R j=0)/\wT (PH w wr (Z b (C D) cb) (Z c (C la) cc) (Z Q (C Bm) Ba) (Z c' (C lb) jm))) (fun iv _=>2 - (intOf iv).toNat)
 case atStart=>exact⟨0,al,rfl,fun j hj=>absurd hj al,ax⟩
 case round=>
  obtain⟨i,q,rfl,HZ,HP⟩:=hrel;clear ax;by_cases aY:i<2
  ·obtain⟨p,ab,n,m,cp,cq,r,aI,aE,hr⟩:=Qn.o i aY;obtain⟨d0,d1⟩:=aI _ HP.o;have jG:=Fa aE;have HR:=Fa hr;clear aI aE hr;have ai:da wr (wr.alloc (TC (Z p n cp) (Z ab m cq))):=(au _ wr).alloc (ah _) _;have hx:=aZ.at (w:=wr) rfl (Z p n cp) (Z ab m cq);have e0:=hx.c0;have e1:=hx.c1;go_wp2_with fail
   replace HP:=Fa (HP.o.step ai);clear d0 d1 e0 e1 ai;generalize (wr.alloc (TC (Z p n cp) (Z ab m cq)))=w2 at *;refine(jG.o _ HP.o.2.2.2.2).ae ?_;rintro e w3 ⟨rfl,az⟩;replace HP:=Fa (HP.o.step az);clear az hx;by_cases Oh:r=0
   ·subst Oh;go_wp2;go_roundw
    case rel=>exact⟨i+1,al,bd,fun j hj=>by
      by_cases e:j=i
      ·rw[e];exact HR.o
      ·exact HZ.o j al,HP⟩
    case measure=>simp[intOf];omega
   ·have wW:=bf.o i aY;rw[HR.o] at wW;exact absurd wW Oh
  ·obtain rfl:i=2:=al
   have H:=HP.o;have c0:=H.1.c0;have c2:=H.2.1.c0;clear HP HZ Qn;go_wp2_with fail
   refine(P8.o _ (Cc.o.aa H.2.2.2.2) (Y.o.aa H.2.2.2.2)).ae ?_;rintro e w1 ⟨d,F,rfl,q,oq,ai⟩;have JJ:=Fa (oq.up H.2.2.2.2.size);clear oq;replace H:=H.step ai;clear c0 c2 ai;go_upto_region 9 with fail
   replace H:=H.drew;replace q:aB w1.drew d U:=q;refine iK (S:=fun u=>u.cell? ⟨O (T w),0,N⟩=M (Z b (C D) cb)/\u.cell? ⟨O (T w)+1,0,N⟩=M (Z Q (C Bm) Ba)) ao ⟨H.1.c0,H.2.1.c0⟩ (fun x=>?_);generalize w1.drew=P at *;refine ar 0 (Z a (C Fb) ca) ?_;refine ar 1 (Z d (C U) F) ?_;refine ar 2 (zR (M ⟨O (T w),0,N⟩)) ?_;refine ar 3 (Z b (C D) cb) ?_;refine ar 5 (Z a (C Fb) ca) ?_;refine ar 6 (Z d (C U) F) ?_;refine ar 7 (zR (M ⟨O (T w)+1,0,N⟩)) ?_;refine ar 8 (Z Q (C Bm) Ba) ?_;refine aF [4,10,11] (cA ?_ (cA ?_ (cA ?_ aG)))
   focus
    intro v l;go_simp;refine(Qc.o _ d F (Bj.o.aa H.2.2.2.2) (Cc.o.aa H.2.2.2.2)).ae ?_;rintro e u1 ⟨f,rfl,t,g⟩;obtain⟨X,rfl⟩:=t.shape;replace H:=H.step g;replace q:=q.aa g;clear x;refine l.o _ _ ⟨H.1.c0,H.2.1.c0⟩ (fun x=>?_);clear l v g;generalize (O (T P))=na at t;generalize (O (T u1))=ma at t;refine aF [9,10,11] (cA ?_ (cA ?_ (cA ?_ aG)))
    focus
     intro v l;go_simp;refine(B7.o _ d F (Bj.o.aa H.2.2.2.2) (Y.o.aa H.2.2.2.2)).ae ?_;rintro e u2 ⟨f,rfl,y,g⟩;obtain⟨L,rfl⟩:=y.shape;replace H:=H.step g;replace q:=q.aa g;replace t:=t.aa g;clear x;refine l.o _ _ ⟨H.1.c0,H.2.1.c0⟩ (fun x=>?_);clear l v g;generalize (O (T u1))=nb at y;generalize (O (T u2))=mb at y;refine aF [10,11] (cA ?_ (cA ?_ aG))
     focus
      intro v l;go_simp;have g:da u2 (u2.alloc (yM #[z7] 187)):=(au _ u2).alloc (ah _) _;have z:Boxed (u2.alloc (yM #[z7] 187)) (O (T u2)) 187 z7:=bF u2 _ _;have dF:=H.2.2.2.2.size;replace H:=H.step g;replace q:=q.aa g;replace t:=t.aa g;replace y:=y.aa g;clear x;refine l.o _ _ ⟨H.1.c0,H.2.1.c0⟩ (fun x=>?_);clear l v g;generalize (u2.alloc (yM #[z7] 187))=s at *;generalize (O (T u2))=Bh at *;refine aF [11] (cA ?_ aG);intro v l;go_simp;have g:da s (s.alloc (yM #[z7] 187)):=(au _ s).alloc (ah _) _;have A:Boxed (s.alloc (yM #[z7] 187)) (O (T s)) 187 z7:=bF s _ _;have wB:=H.2.2.2.2.size;(have ne:Bh≠s.heap.size:=by have:=z.lt;omega);replace H:=H.step g;replace q:=q.aa g;replace t:=t.aa g;replace y:=y.aa g;replace z:=bI z g;clear x;refine l.o _ _ ⟨H.1.c0,H.2.1.c0⟩ (fun x=>?_);clear l v g;generalize (s.alloc (yM #[z7] 187))=B9 at *;generalize (O (T s))=Bb at *
     rotate_left
     focus
      intro v l;go_simp;have g:da u2 (u2.alloc (yM #[z7] 187)):=(au _ u2).alloc (ah _) _;have A:Boxed (u2.alloc (yM #[z7] 187)) (O (T u2)) 187 z7:=bF u2 _ _;have wB:=H.2.2.2.2.size;replace H:=H.step g;replace q:=q.aa g;replace t:=t.aa g;replace y:=y.aa g;clear x;refine l.o _ _ ⟨H.1.c0,H.2.1.c0⟩ (fun x=>?_);clear l v g;generalize (u2.alloc (yM #[z7] 187))=s at *;generalize (O (T u2))=Bb at *;refine aF [10] (cA ?_ aG);intro v l;go_simp;have g:da s (s.alloc (yM #[z7] 187)):=(au _ s).alloc (ah _) _;have z:Boxed (s.alloc (yM #[z7] 187)) (O (T s)) 187 z7:=bF s _ _;have dF:=H.2.2.2.2.size;(have ne:Bb≠s.heap.size:=by have:=A.lt;omega);replace H:=H.step g;replace q:=q.aa g;replace t:=t.aa g;replace y:=y.aa g;replace A:=bI A g;clear x;refine l.o _ _ ⟨H.1.c0,H.2.1.c0⟩ (fun x=>?_);clear l v g;generalize (s.alloc (yM #[z7] 187))=B9 at *;generalize (O (T s))=Bh at *
    rotate_left 2
    focus
     intro v l;go_simp;have g:da u1 (u1.alloc (yM #[z7] 187)):=(au _ u1).alloc (ah _) _;have z:Boxed (u1.alloc (yM #[z7] 187)) (O (T u1)) 187 z7:=bF u1 _ _;have dF:=H.2.2.2.2.size;replace H:=H.step g;replace q:=q.aa g;replace t:=t.aa g;clear x;refine l.o _ _ ⟨H.1.c0,H.2.1.c0⟩ (fun x=>?_);clear l v g;generalize (u1.alloc (yM #[z7] 187))=u2 at *;generalize (O (T u1))=Bh at *;refine aF [9,11] (cA ?_ (cA ?_ aG))
     focus
      intro v l;go_simp;refine(B7.o _ d F (Bj.o.aa H.2.2.2.2) (Y.o.aa H.2.2.2.2)).ae ?_;rintro e s ⟨f,rfl,y,g⟩;obtain⟨L,rfl⟩:=y.shape;replace H:=H.step g;replace q:=q.aa g;replace t:=t.aa g;replace z:=bI z g;clear x;refine l.o _ _ ⟨H.1.c0,H.2.1.c0⟩ (fun x=>?_);clear l v g;generalize (O (T u2))=nb at y;generalize (O (T s))=mb at y;refine aF [11] (cA ?_ aG);intro v l;go_simp;have g:da s (s.alloc (yM #[z7] 187)):=(au _ s).alloc (ah _) _;have A:Boxed (s.alloc (yM #[z7] 187)) (O (T s)) 187 z7:=bF s _ _;have wB:=H.2.2.2.2.size;(have ne:Bh≠s.heap.size:=by have:=z.lt;omega);replace H:=H.step g;replace q:=q.aa g;replace t:=t.aa g;replace y:=y.aa g;replace z:=bI z g;clear x;refine l.o _ _ ⟨H.1.c0,H.2.1.c0⟩ (fun x=>?_);clear l v g;generalize (s.alloc (yM #[z7] 187))=B9 at *;generalize (O (T s))=Bb at *
     rotate_left
     focus
      intro v l;go_simp;have g:da u2 (u2.alloc (yM #[z7] 187)):=(au _ u2).alloc (ah _) _;have A:Boxed (u2.alloc (yM #[z7] 187)) (O (T u2)) 187 z7:=bF u2 _ _;have wB:=H.2.2.2.2.size;(have ne:Bh≠u2.heap.size:=by have:=z.lt;omega);replace H:=H.step g;replace q:=q.aa g;replace t:=t.aa g;replace z:=bI z g;clear x;refine l.o _ _ ⟨H.1.c0,H.2.1.c0⟩ (fun x=>?_);clear l v g;generalize (u2.alloc (yM #[z7] 187))=s at *;generalize (O (T u2))=Bb at *;refine aF [9] (cA ?_ aG);intro v l;go_simp;refine(B7.o _ d F (Bj.o.aa H.2.2.2.2) (Y.o.aa H.2.2.2.2)).ae ?_;rintro e B9 ⟨f,rfl,y,g⟩;obtain⟨L,rfl⟩:=y.shape;replace H:=H.step g;replace q:=q.aa g;replace t:=t.aa g;replace z:=bI z g;replace A:=bI A g;clear x;refine l.o _ _ ⟨H.1.c0,H.2.1.c0⟩ (fun x=>?_);clear l v g;generalize (O (T s))=nb at y;generalize (O (T B9))=mb at y
    rotate_left 2
    focus
     intro v l;go_simp;have g:da u1 (u1.alloc (yM #[z7] 187)):=(au _ u1).alloc (ah _) _;have A:Boxed (u1.alloc (yM #[z7] 187)) (O (T u1)) 187 z7:=bF u1 _ _;have wB:=H.2.2.2.2.size;replace H:=H.step g;replace q:=q.aa g;replace t:=t.aa g;clear x;refine l.o _ _ ⟨H.1.c0,H.2.1.c0⟩ (fun x=>?_);clear l v g;generalize (u1.alloc (yM #[z7] 187))=u2 at *;generalize (O (T u1))=Bb at *;refine aF [9,10] (cA ?_ (cA ?_ aG))
     focus
      intro v l;go_simp;refine(B7.o _ d F (Bj.o.aa H.2.2.2.2) (Y.o.aa H.2.2.2.2)).ae ?_;rintro e s ⟨f,rfl,y,g⟩;obtain⟨L,rfl⟩:=y.shape;replace H:=H.step g;replace q:=q.aa g;replace t:=t.aa g;replace A:=bI A g;clear x;refine l.o _ _ ⟨H.1.c0,H.2.1.c0⟩ (fun x=>?_);clear l v g;generalize (O (T u2))=nb at y;generalize (O (T s))=mb at y;refine aF [10] (cA ?_ aG);intro v l;go_simp;have g:da s (s.alloc (yM #[z7] 187)):=(au _ s).alloc (ah _) _;have z:Boxed (s.alloc (yM #[z7] 187)) (O (T s)) 187 z7:=bF s _ _;have dF:=H.2.2.2.2.size;(have ne:Bb≠s.heap.size:=by have:=A.lt;omega);replace H:=H.step g;replace q:=q.aa g;replace t:=t.aa g;replace y:=y.aa g;replace A:=bI A g;clear x;refine l.o _ _ ⟨H.1.c0,H.2.1.c0⟩ (fun x=>?_);clear l v g;generalize (s.alloc (yM #[z7] 187))=B9 at *;generalize (O (T s))=Bh at *
     rotate_left
     focus
      intro v l;go_simp;have g:da u2 (u2.alloc (yM #[z7] 187)):=(au _ u2).alloc (ah _) _;have z:Boxed (u2.alloc (yM #[z7] 187)) (O (T u2)) 187 z7:=bF u2 _ _;have dF:=H.2.2.2.2.size;(have ne:Bb≠u2.heap.size:=by have:=A.lt;omega);replace H:=H.step g;replace q:=q.aa g;replace t:=t.aa g;replace A:=bI A g;clear x;refine l.o _ _ ⟨H.1.c0,H.2.1.c0⟩ (fun x=>?_);clear l v g;generalize (u2.alloc (yM #[z7] 187))=s at *;generalize (O (T u2))=Bh at *;refine aF [9] (cA ?_ aG);intro v l;go_simp;refine(B7.o _ d F (Bj.o.aa H.2.2.2.2) (Y.o.aa H.2.2.2.2)).ae ?_;rintro e B9 ⟨f,rfl,y,g⟩;obtain⟨L,rfl⟩:=y.shape;replace H:=H.step g;replace q:=q.aa g;replace t:=t.aa g;replace z:=bI z g;replace A:=bI A g;clear x;refine l.o _ _ ⟨H.1.c0,H.2.1.c0⟩ (fun x=>?_);clear l v g;generalize (O (T s))=nb at y;generalize (O (T B9))=mb at y
   rotate_left 6
   focus
    intro v l;go_simp;have g:da P (P.alloc (yM #[z7] 187)):=(au _ P).alloc (ah _) _;have z:Boxed (P.alloc (yM #[z7] 187)) (O (T P)) 187 z7:=bF P _ _;have dF:=H.2.2.2.2.size;replace H:=H.step g;replace q:=q.aa g;clear x;refine l.o _ _ ⟨H.1.c0,H.2.1.c0⟩ (fun x=>?_);clear l v g;generalize (P.alloc (yM #[z7] 187))=u1 at *;generalize (O (T P))=Bh at *;refine aF [4,11] (cA ?_ (cA ?_ aG))
    focus
     intro v l;go_simp;refine(Qc.o _ d F (Bj.o.aa H.2.2.2.2) (Cc.o.aa H.2.2.2.2)).ae ?_;rintro e u2 ⟨f,rfl,t,g⟩;obtain⟨X,rfl⟩:=t.shape;replace H:=H.step g;replace q:=q.aa g;replace z:=bI z g;clear x;refine l.o _ _ ⟨H.1.c0,H.2.1.c0⟩ (fun x=>?_);clear l v g;generalize (O (T u1))=na at t;generalize (O (T u2))=ma at t;refine aF [9,11] (cA ?_ (cA ?_ aG))
     focus
      intro v l;go_simp;refine(B7.o _ d F (Bj.o.aa H.2.2.2.2) (Y.o.aa H.2.2.2.2)).ae ?_;rintro e s ⟨f,rfl,y,g⟩;obtain⟨L,rfl⟩:=y.shape;replace H:=H.step g;replace q:=q.aa g;replace t:=t.aa g;replace z:=bI z g;clear x;refine l.o _ _ ⟨H.1.c0,H.2.1.c0⟩ (fun x=>?_);clear l v g;generalize (O (T u2))=nb at y;generalize (O (T s))=mb at y;refine aF [11] (cA ?_ aG);intro v l;go_simp;have g:da s (s.alloc (yM #[z7] 187)):=(au _ s).alloc (ah _) _;have A:Boxed (s.alloc (yM #[z7] 187)) (O (T s)) 187 z7:=bF s _ _;have wB:=H.2.2.2.2.size;(have ne:Bh≠s.heap.size:=by have:=z.lt;omega);replace H:=H.step g;replace q:=q.aa g;replace t:=t.aa g;replace y:=y.aa g;replace z:=bI z g;clear x;refine l.o _ _ ⟨H.1.c0,H.2.1.c0⟩ (fun x=>?_);clear l v g;generalize (s.alloc (yM #[z7] 187))=B9 at *;generalize (O (T s))=Bb at *
     rotate_left
     focus
      intro v l;go_simp;have g:da u2 (u2.alloc (yM #[z7] 187)):=(au _ u2).alloc (ah _) _;have A:Boxed (u2.alloc (yM #[z7] 187)) (O (T u2)) 187 z7:=bF u2 _ _;have wB:=H.2.2.2.2.size;(have ne:Bh≠u2.heap.size:=by have:=z.lt;omega);replace H:=H.step g;replace q:=q.aa g;replace t:=t.aa g;replace z:=bI z g;clear x;refine l.o _ _ ⟨H.1.c0,H.2.1.c0⟩ (fun x=>?_);clear l v g;generalize (u2.alloc (yM #[z7] 187))=s at *;generalize (O (T u2))=Bb at *;refine aF [9] (cA ?_ aG);intro v l;go_simp;refine(B7.o _ d F (Bj.o.aa H.2.2.2.2) (Y.o.aa H.2.2.2.2)).ae ?_;rintro e B9 ⟨f,rfl,y,g⟩;obtain⟨L,rfl⟩:=y.shape;replace H:=H.step g;replace q:=q.aa g;replace t:=t.aa g;replace z:=bI z g;replace A:=bI A g;clear x;refine l.o _ _ ⟨H.1.c0,H.2.1.c0⟩ (fun x=>?_);clear l v g;generalize (O (T s))=nb at y;generalize (O (T B9))=mb at y
    rotate_left 2
    focus
     intro v l;go_simp;have g:da u1 (u1.alloc (yM #[z7] 187)):=(au _ u1).alloc (ah _) _;have A:Boxed (u1.alloc (yM #[z7] 187)) (O (T u1)) 187 z7:=bF u1 _ _;have wB:=H.2.2.2.2.size;(have ne:Bh≠u1.heap.size:=by have:=z.lt;omega);replace H:=H.step g;replace q:=q.aa g;replace z:=bI z g;clear x;refine l.o _ _ ⟨H.1.c0,H.2.1.c0⟩ (fun x=>?_);clear l v g;generalize (u1.alloc (yM #[z7] 187))=u2 at *;generalize (O (T u1))=Bb at *;refine aF [4] (cA ?_ aG);intro v l;go_simp;refine(Qc.o _ d F (Bj.o.aa H.2.2.2.2) (Cc.o.aa H.2.2.2.2)).ae ?_;rintro e s ⟨f,rfl,t,g⟩;obtain⟨X,rfl⟩:=t.shape;replace H:=H.step g;replace q:=q.aa g;replace z:=bI z g;replace A:=bI A g;clear x;refine l.o _ _ ⟨H.1.c0,H.2.1.c0⟩ (fun x=>?_);clear l v g;generalize (O (T u2))=na at t;generalize (O (T s))=ma at t;refine aF [9] (cA ?_ aG);intro v l;go_simp;refine(B7.o _ d F (Bj.o.aa H.2.2.2.2) (Y.o.aa H.2.2.2.2)).ae ?_;rintro e B9 ⟨f,rfl,y,g⟩;obtain⟨L,rfl⟩:=y.shape;replace H:=H.step g;replace q:=q.aa g;replace t:=t.aa g;replace z:=bI z g;replace A:=bI A g;clear x;refine l.o _ _ ⟨H.1.c0,H.2.1.c0⟩ (fun x=>?_);clear l v g;generalize (O (T s))=nb at y;generalize (O (T B9))=mb at y
   rotate_left 3
   focus
    intro v l;go_simp;have g:da P (P.alloc (yM #[z7] 187)):=(au _ P).alloc (ah _) _;have A:Boxed (P.alloc (yM #[z7] 187)) (O (T P)) 187 z7:=bF P _ _;have wB:=H.2.2.2.2.size;replace H:=H.step g;replace q:=q.aa g;clear x;refine l.o _ _ ⟨H.1.c0,H.2.1.c0⟩ (fun x=>?_);clear l v g;generalize (P.alloc (yM #[z7] 187))=u1 at *;generalize (O (T P))=Bb at *;refine aF [4,10] (cA ?_ (cA ?_ aG))
    focus
     intro v l;go_simp;refine(Qc.o _ d F (Bj.o.aa H.2.2.2.2) (Cc.o.aa H.2.2.2.2)).ae ?_;rintro e u2 ⟨f,rfl,t,g⟩;obtain⟨X,rfl⟩:=t.shape;replace H:=H.step g;replace q:=q.aa g;replace A:=bI A g;clear x;refine l.o _ _ ⟨H.1.c0,H.2.1.c0⟩ (fun x=>?_);clear l v g;generalize (O (T u1))=na at t;generalize (O (T u2))=ma at t;refine aF [9,10] (cA ?_ (cA ?_ aG))
     focus
      intro v l;go_simp;refine(B7.o _ d F (Bj.o.aa H.2.2.2.2) (Y.o.aa H.2.2.2.2)).ae ?_;rintro e s ⟨f,rfl,y,g⟩;obtain⟨L,rfl⟩:=y.shape;replace H:=H.step g;replace q:=q.aa g;replace t:=t.aa g;replace A:=bI A g;clear x;refine l.o _ _ ⟨H.1.c0,H.2.1.c0⟩ (fun x=>?_);clear l v g;generalize (O (T u2))=nb at y;generalize (O (T s))=mb at y;refine aF [10] (cA ?_ aG);intro v l;go_simp;have g:da s (s.alloc (yM #[z7] 187)):=(au _ s).alloc (ah _) _;have z:Boxed (s.alloc (yM #[z7] 187)) (O (T s)) 187 z7:=bF s _ _;have dF:=H.2.2.2.2.size;(have ne:Bb≠s.heap.size:=by have:=A.lt;omega);replace H:=H.step g;replace q:=q.aa g;replace t:=t.aa g;replace y:=y.aa g;replace A:=bI A g;clear x;refine l.o _ _ ⟨H.1.c0,H.2.1.c0⟩ (fun x=>?_);clear l v g;generalize (s.alloc (yM #[z7] 187))=B9 at *;generalize (O (T s))=Bh at *
     rotate_left
     focus
      intro v l;go_simp;have g:da u2 (u2.alloc (yM #[z7] 187)):=(au _ u2).alloc (ah _) _;have z:Boxed (u2.alloc (yM #[z7] 187)) (O (T u2)) 187 z7:=bF u2 _ _;have dF:=H.2.2.2.2.size;(have ne:Bb≠u2.heap.size:=by have:=A.lt;omega);replace H:=H.step g;replace q:=q.aa g;replace t:=t.aa g;replace A:=bI A g;clear x;refine l.o _ _ ⟨H.1.c0,H.2.1.c0⟩ (fun x=>?_);clear l v g;generalize (u2.alloc (yM #[z7] 187))=s at *;generalize (O (T u2))=Bh at *;refine aF [9] (cA ?_ aG);intro v l;go_simp;refine(B7.o _ d F (Bj.o.aa H.2.2.2.2) (Y.o.aa H.2.2.2.2)).ae ?_;rintro e B9 ⟨f,rfl,y,g⟩;obtain⟨L,rfl⟩:=y.shape;replace H:=H.step g;replace q:=q.aa g;replace t:=t.aa g;replace z:=bI z g;replace A:=bI A g;clear x;refine l.o _ _ ⟨H.1.c0,H.2.1.c0⟩ (fun x=>?_);clear l v g;generalize (O (T s))=nb at y;generalize (O (T B9))=mb at y
    rotate_left 2
    focus
     intro v l;go_simp;have g:da u1 (u1.alloc (yM #[z7] 187)):=(au _ u1).alloc (ah _) _;have z:Boxed (u1.alloc (yM #[z7] 187)) (O (T u1)) 187 z7:=bF u1 _ _;have dF:=H.2.2.2.2.size;(have ne:Bb≠u1.heap.size:=by have:=A.lt;omega);replace H:=H.step g;replace q:=q.aa g;replace A:=bI A g;clear x;refine l.o _ _ ⟨H.1.c0,H.2.1.c0⟩ (fun x=>?_);clear l v g;generalize (u1.alloc (yM #[z7] 187))=u2 at *;generalize (O (T u1))=Bh at *;refine aF [4] (cA ?_ aG);intro v l;go_simp;refine(Qc.o _ d F (Bj.o.aa H.2.2.2.2) (Cc.o.aa H.2.2.2.2)).ae ?_;rintro e s ⟨f,rfl,t,g⟩;obtain⟨X,rfl⟩:=t.shape;replace H:=H.step g;replace q:=q.aa g;replace z:=bI z g;replace A:=bI A g;clear x;refine l.o _ _ ⟨H.1.c0,H.2.1.c0⟩ (fun x=>?_);clear l v g;generalize (O (T u2))=na at t;generalize (O (T s))=ma at t;refine aF [9] (cA ?_ aG);intro v l;go_simp;refine(B7.o _ d F (Bj.o.aa H.2.2.2.2) (Y.o.aa H.2.2.2.2)).ae ?_;rintro e B9 ⟨f,rfl,y,g⟩;obtain⟨L,rfl⟩:=y.shape;replace H:=H.step g;replace q:=q.aa g;replace t:=t.aa g;replace z:=bI z g;replace A:=bI A g;clear x;refine l.o _ _ ⟨H.1.c0,H.2.1.c0⟩ (fun x=>?_);clear l v g;generalize (O (T s))=nb at y;generalize (O (T B9))=mb at y
   all_goals
    have bo:=z.cell;have br:=z.frozen;refine aF [12] (cA ?_ aG);intro v l;go_simp;replace H:=H.nil (slv _ _ _) (slv _ _ _) z dF (.func (.func 215) #[] X);replace q:=Yg z q (.func (.func 215) #[] X);replace t:=t.nil z (.func (.func 215) #[] X);replace y:=y.nil z (.func (.func 215) #[] X);replace A:=jD A Bh 0 (.func (.func 215) #[] X) al;replace z:=z.set (.func (.func 215) #[] X);clear bo br;generalize (B9.setCell ⟨Bh,0,N⟩ (.func (.func 215) #[] X))=v1 at *;clear x;refine l.o _ _ ⟨H.1.c0,H.2.1.c0⟩ (fun x=>?_);clear l v;have bp:=A.cell;have bs:=A.frozen;refine aF [13] (cA ?_ aG);intro v l;go_simp;replace H:=H.nil (slv _ _ _) (slv _ _ _) A wB (.func (.func 215) #[] L);replace q:=Yg A q (.func (.func 215) #[] L);replace t:=t.nil A (.func (.func 215) #[] L);replace y:=y.nil A (.func (.func 215) #[] L);replace z:=jD z Bb 0 (.func (.func 215) #[] L) al;replace A:=A.set (.func (.func 215) #[] L);clear bp bs;generalize (v1.setCell ⟨Bb,0,N⟩ (.func (.func 215) #[] L))=v2 at *;refine l.o _ _ ⟨H.1.c0,H.2.1.c0⟩ (fun _=>eO ao ?_ _);clear l v x;go_wp2_with fail
    have zV:=T7 a d ca F Fb U 163 #[zR (M ⟨O (T w),0,N⟩),zR (M ⟨Bh,0,N⟩),zR (M ⟨O (T w)+1,0,N⟩),zR (M ⟨Bb,0,N⟩)] (enters_of func163 ao rfl) FL v2 (Bj.o.aa H.2.2.2.2) q eh.o uG.o k5.o (fun k hk V g=>by
     rw[EC.o k hk];(have cO:k<cnt (af Fb) (af U):=by rw[<- k5.o];exact hk);have hB:=H.2.2.2.2.trans (g.ae H.2.2.2.2.size);refine amo (O (T w)) Bh (O (T w)+1) Bb c c' cc jm X L la lb k _ _ (Eu.o k cO) (vP.o k cO) V (aT H.1.lt g.size) ((g.cell (p:=⟨O (T w),1,N⟩) H.1.lt).trans H.1.c1) (aT z.lt g.size) (bI z g).cell (aT H.2.1.lt g.size) ((g.cell (p:=⟨O (T w)+1,1,N⟩) H.2.1.lt).trans H.2.1.c1) (aT A.lt g.size) (bI A g).cell (bb.o.aa hB) (bc.o.aa hB) bk.o bm.o ?_ ?_
     ·intro V' ad;have aj:=g.trans (ad.ae g.size);exact(t.aa aj).calls (Bj.o.aa (hB.trans (ad.ae hB.size))) (q.aa aj) eh.o uG.o bg.o cO
     ·intro V' ad;have aj:=g.trans (ad.ae g.size);exact(y.aa aj).calls (Bj.o.aa (hB.trans (ad.ae hB.size))) (q.aa aj) eh.o uG.o bh.o cO)
    have JE:=Fa zV;clear zV;refine JE.o.ae ?_;rintro e w9 ⟨G,rfl,hG,bw,F0⟩;have Ox:=H.2.2.1.lt;replace H:=H.step F0;replace q:=q.aa F0;have bt:NR w w9 (O (T w)) (O (T w)+1+1) (Z b (C D) cb) (Z c (C la) cc):=⟨H.1,H.2.2.1,H.2.2.2.2⟩;obtain⟨k0,k1,f0,f1⟩:=H.2.2.1.facts;obtain⟨e1,e2,e3⟩:=bt.fin al (cb:=F) (cc:=FL.length) JJ.o al q bw al (Z d (C U) F) (Z (M ⟨G,0,N⟩) (C FL) (C FL)) rfl rfl;go_wp2;refine dI (e1.result2 rfl _ rfl) rfl ?_;exact⟨e2,e3⟩
variable {S:Ja} {v:Nat} {f:Nat ->Nat} {h:Nat ->Rat} {p:Rat}
theorem A8 (S:Ja) {g:Nat ->Nat}:∀ {vs:Ja},(∀u∈vs,f u=g u) ->pos S f vs=pos S g vs:=by
 intro vs h
 have e:∀(vs:Ja) (k:Nat),(∀u∈vs,f u=g u) ->vs.foldl (fun k v=>k*sz S v+f v) k=vs.foldl (fun k v=>k*sz S v+g v) k:=by
  intro vs;induction vs with
  |nil=>intro k _;rfl
  |cons v vs ih=>
   intro k h;rw[tY,tY,h v dJ,ih _ fun u a=>h u (dZ _ a)]
 exact e vs 0 h
theorem adJ (S:Ja) (f:Nat ->Nat) (v:Nat) (vs:Ja):pos S f (v::vs)=f v*cnt S vs+pos S f vs:=by
 show vs.foldl (fun k v=>k*sz S v+f v) (0*sz S v+f v)=_;rw[T3 S f vs,oN,bQ]
theorem B4 (p:Pos S) (h:∀u,f u<sz S u):∀ {vs:Ja},vs.Nodup ->∀u∈vs,aX S vs (pos S f vs) u=f u
 |[],_,u,hu=>by cases hu
 |v::vs,hn,u,hu=>by
  rw[nS] at hn;have l:=qQ f h vs;have c:=LS p vs;rw[adJ,aX];by_cases e:u=v
  ·rw[aw e,e,eQ,Nat.mul_add_div c,zk l,jd]
  ·rw[aC e,eQ,Nat.mul_add_mod,kp l];exact B4 p h hn.2 u ((bY.1 hu).resolve_left e)
theorem Jb (g:Nat ->Fr) (h:k<n):aQ ((List.range n).map g) k=g k:=by
 rw[mr (by simpa using h)];simp
def Xz (most:Bool) (p q:Rat):Rat:=if most then(if p<q then q else p) else p+q
def Bc (most:Bool) (g:Nat ->Rat):Nat ->Rat
 |0=>g 0
 |k+1=>Xz most (Bc most g k) (g (k+1))
theorem ah4 {q:Rat}:kJ p q<0↔p<q:=by
 rw[kJ];by_cases h:p<q
 ·rw[aw h];exact⟨fun _=>h,fun _=>a6⟩
 ·rw[aC h];by_cases e:p=q
  ·rw[aw e];exact⟨fun h=>absurd h a6,fun a=>absurd a h⟩
  ·rw[aC e];exact⟨fun h=>absurd h a6,fun a=>absurd a h⟩
theorem ag5 (m:Bool) (Ba:Nat ->Fr):∀k,a8 (mR m Ba k)=Bc m (fun x=>a8 (Ba x)) k
 |0=>rfl
 |k+1=>by
  rw[mR,Bc, <- ag5 m Ba k];cases m with
  |false=>simp only[Xz,Bool.false_eq_true,if_false];exact jC _
  |true=>
   simp only[Xz,if_true,great];by_cases h:kJ (a8 (mR y6 Ba k)) (a8 (Ba (k+1)))<0
   ·rw[aw h,aw (ah4.1 h)]
   ·rw[aC h,aC fun e=>h (ah4.2 e)]
theorem ad9 (m:Bool) {g:Nat ->Rat}:∀ {k:Nat},(∀x,x<=k ->g x=h x) ->Bc m g k=Bc m h k
 |0,e=>e 0 (ah _)
 |k+1,e=>by rw[Bc,Bc,ad9 m fun x a=>e x al,e (k+1) (ah _)]
theorem J9 (f:Nat ->Nat) {u:Nat} (x y:Nat) (h:u≠v):aO (aO f v x) u y=aO (aO f u y) v x:=by
 funext z
 simp only[aO];by_cases e:z=u
 ·rw[aw e,aC al,aw e]
 ·rw[aC e,aC e]
theorem am8 {Fd rest:Ja} (p:Pos S) (r:rest.Nodup) (b:∀u∈Fd,u=v∨u∈rest) (m:Bool) (l:List Fr) (h:∀u,f u<sz S u):
  a8 (aQ (wH S Fd rest v m l) (pos S f rest))=Bc m (fun x=>a8 (aQ l (pos S (aO f v x) Fd))) (sz S v - 1):=by
 rw[wH,Jb _ (qQ f h rest),jC,ag5];refine ad9 m fun x _=>?_;rw[A8 S (f:=aO (aX S rest (pos S f rest)) v x) (g:=aO f v x)];intro u a;simp only[aO];by_cases e:u=v
 ·rw[aw e,aw e]
 ·rw[aC e,aC e];exact B4 p h r u ((b u a).resolve_left e)
theorem amm {v b U:Ja} (p:Pos S) (r:U.Nodup) (e:∀u∈v,u∈U) (m:∀u∈b,u∈U) (la lb:List Fr) (h:∀u,f u<sz S u):
  a8 (aQ (xU S v b U la lb) (pos S f U))=a8 (aQ la (pos S f v))*a8 (aQ lb (pos S f b)):=by
 rw[xU,Jb _ (qQ f h U),jC,A8 S (f:=aX S U (pos S f U)) (g:=f) fun u a=>B4 p h r u (e u a),A8 S (f:=aX S U (pos S f U)) (g:=f) fun u a=>B4 p h r u (m u a)]
def Sml (s:Nat) (l:List Fr):Prop:=∀f∈l,∃q,f=qF q/\qw q<=s
theorem aaB (h:∀v,sz S v<=3):∀vs:Ja,cnt S vs<=3^C vs
 |[]=>ah _
 |v::vs=>by rw[cnt,eA,jI,eQ];exact kN (aaB h vs) (h v)
structure TL (Fb Fd:Kx) (l:List Fr) (s:Nat):Prop where
 up:Up Fd (C Fb)
 len:C l=cnt (af Fb) (af Fd)
 sml:Sml s l
theorem aoU {x v:Int}:x∈cH l v↔x∈l/\x≠v:=by simp[cH]
theorem NT {Fd:Kx} (h:Up Fd n) (u:Nat):∀x∈af Fd,x=u∨x∈af (cH Fd (u:Int)):=by
 intro x b;obtain⟨y,a,rfl⟩:=aN.1 b;have c:=(eH.1 h).1 y a;by_cases e:y=(u:Int)
 ·left;omega
 ·exact yk (aN.2 ⟨y,aoU.2 ⟨a,e⟩,rfl⟩)
theorem anV (t a:Nat) (c:Kd) (cc:Nat) (l:List Fr) (s:Rat) (k:Nat) (Bb:k<C l) (w:E) (X:t<O (T w)) (Bm:w.cell? ⟨t,1,N⟩=M (Z c (C l) cc)) (hs:aL w a (aW s) (nu s) (de s)) (A:dH w c l) (h1:l[k].2.1.size+l[k].2.2.size<=100000) (z:(nu s).size+(de s).size<=100000):
  c6 116 #[J I (k:Nat),zR (M ⟨t,0,N⟩),zR (M ⟨a,0,N⟩)] w (dj w (nC (qF (a8 l[k]*s)))):=by
 obtain⟨g,o,rfl,y,m,n,q⟩:=A k Bb;have H:=Fa (fun V:E=>aam (w:=V) (a8 l[k]*s) rfl (kr s) rfl h1 z);rw[T1];generalize a8 l[k]*s=r at *;clear A h1 z;generalize l[k]=f at *;obtain⟨fn,fx,fy⟩:=f;simp only at m n q H;obtain⟨F,Bj,Bh, -⟩:=hs.facts;have i:=hs.lt;clear hs;have d:aL (w.alloc (FC xd ⟨#[]⟩ ⟨#[]⟩)) (O (T w)) xd ⟨#[]⟩ ⟨#[]⟩:=aL.new w _ _ _;have b:da w (w.alloc (FC xd ⟨#[]⟩ ⟨#[]⟩)):=(au _ w).alloc (ah _) _;go_enter func116,ntmps116;go_upto_region 1 with fail
 generalize (w.alloc (FC xd ⟨#[]⟩ ⟨#[]⟩))=W at *;replace d:=d.drew;replace b:=b.drew;have L:∀u,da w u ->u.cell? ⟨t,1,N⟩=M (Z (M ⟨g,o,N⟩) (C l) cc)/\u.cell? ⟨g,o+k*3,N⟩=M (zZ fn)/\u.cell? ⟨g,o+k*3+1,N⟩=M (zK fx)/\u.cell? ⟨g,o+k*3+2,N⟩=M (zK fy)/\u.cell? ⟨a,0,N⟩=M (zZ (aW s))/\u.cell? ⟨a,1,N⟩=M (zK (nu s))/\u.cell? ⟨a,2,N⟩=M (zK (de s)):=fun u h=>⟨(h.cell (p:=⟨t,1,N⟩) X).trans Bm,(h.cell (p:=⟨g,_,N⟩) y).trans m,(h.cell (p:=⟨g,_,N⟩) y).trans n,(h.cell (p:=⟨g,_,N⟩) y).trans q,(h.cell (p:=⟨a,0,N⟩) i).trans F,(h.cell (p:=⟨a,1,N⟩) i).trans Bj,(h.cell (p:=⟨a,2,N⟩) i).trans Bh⟩;have HELD:=Fa L;clear L m n q F Bj Bh Bm;refine iK (S:=fun u=>u.cell? ⟨t,1,N⟩=M (Z (M ⟨g,o,N⟩) (C l) cc)/\u.cell? ⟨g,o+k*3,N⟩=M (zZ fn)/\u.cell? ⟨g,o+k*3+1,N⟩=M (zK fx)/\u.cell? ⟨g,o+k*3+2,N⟩=M (zK fy)/\u.cell? ⟨a,0,N⟩=M (zZ (aW s))/\u.cell? ⟨a,1,N⟩=M (zK (nu s))/\u.cell? ⟨a,2,N⟩=M (zK (de s))) ao (HELD.o _ b) (fun v=>?_);generalize W.drew=U at *;refine ar 0 (zR (M ⟨t,1,N⟩)) ?_;refine ar 1 (Z (M ⟨g,o,N⟩) (C l) cc) ?_;refine ar 2 (J I (k:Nat)) ?_;refine ar 3 (zR (M ⟨g,o+k*3,N⟩)) ?_;refine ar 4 (zd #[zZ fn,zK fx,zK fy]) ?_;refine ar 5 (zd #[zZ (aW s),zK (nu s),zK (de s)]) ?_
 refine aF [6] (cA ?_ aG);intro j K;go_simp;refine(H.o _).ae ?_;rintro e u1 ⟨rfl,x⟩;replace d:=d.aa x d.lt;replace b:=b.trans (x.ae b.size);clear v;refine K.o _ _ (HELD.o _ b) (fun v=>?_);clear K j x;try simp only[gE,aP]
 obtain⟨Q,R,Ba,f0,f1,P⟩:=d.facts;refine aF [7] (cA ?_ aG);intro j K;go_simp;have B9:=d.put (aW r) (nu r) (de r);have D:=eT b (g:=O (T w)) (ah _) (zZ (aW r)) (zK (nu r)) (zK (de r));generalize (((u1.setCell ⟨O (T w),0,N⟩ (zZ (aW r))).setCell ⟨O (T w),1,N⟩ (zK (nu r))).setCell ⟨O (T w),2,N⟩ (zK (de r)))=Y at *;refine K.o _ _ (HELD.o _ D) (fun _=>eO ao ?_ _);clear K j v;go_wp2;refine dI (B9.result rfl _ rfl) rfl ?_;exact⟨rfl,D⟩
variable {cc:Nat} {w':E}
theorem KG (l:List Fr):C (lu l)=C l:=by simp[lu]
theorem XK (l:List Fr) (h:k<C (lu l)):(lu l)[k]=qF (a8 (l[k]'(by rw[KG] at h;exact h))*(1/bH l)):=by simp[lu]
theorem RQ {q:Rat} (h:q≠0):qw (1/q)<=qw q+1:=by
 have e:val (aW q) (nu q) (de q)≠0:=by rw[kr];exact h
 have a:=fun h=>e (M4.2 h);have b:1/q=val (aW q) (de q) (nu q):=by rw[We _ _ _ (fun h=>a (yd h)) (fun h=>a (yk h)),kr,jH,nR]
 rw[b];refine aM (E8 _ _ _) ?_;show (B q.den).size+(B q.num.natAbs).size+1<=qw q+1;rw[qw];omega
theorem akp (a b c:Kd) (ca cb cc:Nat) (Fb Fd:Kx) (l:List Fr) (w:E) (hs:aB w a Fb) (X:aB w b Fd) (P:dH w c l) (R:C Fb<=140737488355328) (Q:C Fd<=140737488355328) (Bm:kX Fb Fd (C l)=0) (B7:∀k (h:k<C l),l[k].2.1.size+l[k].2.2.size<=40000) (U:∀k,k<=C l ->qw (bH (l.take k))<=40000) (dO:C l<=10000) (hz:bH l=0):
  c6 63 #[Z a (C Fb) ca,zd #[Z b (C Fd) cb,Z c (C l) cc]] w fun e w'=>yK [] [] 3 e w'/\da w w':=by
 obtain⟨aR,bh,ad⟩:=Gf Bm;have hq:=U (C l) (ah _);rw[iD] at hq;have z:=fun V h1 h2=>Kg a b c ca cb cc (C l) Fb Fd V h1 h2 R Q;rw[Bm] at z;have z:=Fa z;have Ba:=Fa (fun V h=>Uc c cc l V h B7 U dO);have B9:=Fa (fun V:E=>Gd (k:=1) (w:=V) 1 1 rfl a6 (by rfl));have HS:=Fa hs;have HV:=Fa X;have F:=Fa P;have D:=Fa (fun V:E=>ahw (n:=aW 1) (x:=nu 1) (y:=de 1) (w:=V) ((kr (bH l)).trans hz));clear hs X P R Q Bm B7 U ad bh aR hz;obtain⟨j,Bh⟩:∃d,xd=d:=⟨_,rfl⟩;obtain⟨dx,Y⟩:∃d:ByteArray,⟨#[]⟩=d:=⟨_,rfl⟩;obtain⟨m,L⟩:∃d:ByteArray,⟨#[]⟩=d:=⟨_,rfl⟩
 have Bb:wT (∀V:E,c6 103 #[zd #[zZ (aW 1),zK (nu 1),zK (de 1)],zd #[zZ (aW (bH l)),zK (nu (bH l)),zK (de (bH l))]] V fun e w'=>e=yW (zp #[zd #[zZ j,zK dx,zK m],J I 3])/\da V w'):=by
  rw[<- Bh, <- Y, <- L];exact D
 clear D Bh Y L;have D:=Bb;clear Bb;obtain⟨p,Bj⟩:∃d:Int,3=d:=⟨_,rfl⟩;rw[Bj] at D;have OW:(p==0)=false:=by rw[<- Bj];rfl
 have oq:¬p=0:=al
 have H:=NH.new w (Z b (C Fd) cb) (Z c (C l) cc);have c0:=H.1.c0;have c1:=H.1.c1;go_enter func63,ntmps63;go_wp2_with fail
 generalize ((w.alloc (TC (Z b (C Fd) cb) (Z c (C l) cc))).alloc (TC (Z N 0 0) (Z N 0 0)))=W at *;refine(z.o _ (HS.o.aa H.2.2) (HV.o.aa H.2.2)).ae ?_;rintro e w1 ⟨rfl,ab⟩;replace H:=H.step ab;clear c0 c1 ab z;go_upto_region 4 with fail
 replace H:=H.drew;refine iK (S:=fun u=>u.cell? ⟨O (T w),1,N⟩=M (Z c (C l) cc)) ao H.1.c1 (fun q=>?_);generalize w1.drew=t at *;refine ar 1 (zR (M ⟨O (T w),1,N⟩)) ?_;refine ar 2 (Z c (C l) cc) ?_;refine aF [0,8] (cA ?_ (cA ?_ aG))
 focus
  intro g K;go_simp;refine(B9.o _).ae ?_;rintro e u1 ⟨rfl,f⟩;replace H:=H.step f;clear q;refine K.o _ _ H.1.c1 (fun q=>?_);clear K g f;refine aF [3,8] (cA ?_ (cA ?_ aG))
  focus
   intro g K;go_simp;refine(Ba.o _ (F.o.aa H.2.2)).ae ?_;rintro e u2 ⟨rfl,f⟩;replace H:=H.step f;clear q;refine K.o _ _ H.1.c1 (fun q=>?_);clear K g f;refine aF [4,8] (cA ?_ (cA ?_ aG))
   focus
    intro g K;go_simp;refine(D.o _).ae ?_;rintro e r ⟨rfl,f⟩;replace H:=H.step f;clear q;refine K.o _ _ H.1.c1 (fun q=>?_);clear K g f;refine ar 5 (zp #[zd #[zZ j,zK dx,zK m],J I p]) ?_;refine ar 6 (zd #[zZ j,zK dx,zK m]) ?_;refine ar 7 (J I p) ?_;refine aF [8] (cA ?_ aG);intro g K;go_simp;have f:da r (r.alloc (FC xd ⟨#[]⟩ ⟨#[]⟩)):=(au _ r).alloc (ah _) _;have i:aL (r.alloc (FC xd ⟨#[]⟩ ⟨#[]⟩)) (O (T r)) xd ⟨#[]⟩ ⟨#[]⟩:=aL.new r _ _ _;have v:=H.lt;replace H:=H.step f;clear q;refine K.o _ _ H.1.c1 (fun q=>?_);clear K g f;generalize (r.alloc (FC xd ⟨#[]⟩ ⟨#[]⟩))=A at *;generalize (O (T r))=s at *
   rotate_left
   focus
    intro g K;go_simp;have f:da u2 (u2.alloc (FC xd ⟨#[]⟩ ⟨#[]⟩)):=(au _ u2).alloc (ah _) _;have i:aL (u2.alloc (FC xd ⟨#[]⟩ ⟨#[]⟩)) (O (T u2)) xd ⟨#[]⟩ ⟨#[]⟩:=aL.new u2 _ _ _;have v:=H.lt;replace H:=H.step f;clear q;refine K.o _ _ H.1.c1 (fun q=>?_);clear K g f;generalize (u2.alloc (FC xd ⟨#[]⟩ ⟨#[]⟩))=r at *;generalize (O (T u2))=s at *;refine aF [4] (cA ?_ aG);intro g K;go_simp;refine(D.o _).ae ?_;rintro e A ⟨rfl,f⟩;replace H:=H.step f;replace i:=i.aa f i.lt;clear q;refine K.o _ _ H.1.c1 (fun q=>?_);clear K g f;refine ar 5 (zp #[zd #[zZ j,zK dx,zK m],J I p]) ?_;refine ar 6 (zd #[zZ j,zK dx,zK m]) ?_;refine ar 7 (J I p) ?_
  rotate_left 2
  focus
   intro g K;go_simp;have f:da u1 (u1.alloc (FC xd ⟨#[]⟩ ⟨#[]⟩)):=(au _ u1).alloc (ah _) _;have i:aL (u1.alloc (FC xd ⟨#[]⟩ ⟨#[]⟩)) (O (T u1)) xd ⟨#[]⟩ ⟨#[]⟩:=aL.new u1 _ _ _;have v:=H.lt;replace H:=H.step f;clear q;refine K.o _ _ H.1.c1 (fun q=>?_);clear K g f;generalize (u1.alloc (FC xd ⟨#[]⟩ ⟨#[]⟩))=u2 at *;generalize (O (T u1))=s at *;refine aF [3] (cA ?_ aG);intro g K;go_simp;refine(Ba.o _ (F.o.aa H.2.2)).ae ?_;rintro e r ⟨rfl,f⟩;replace H:=H.step f;replace i:=i.aa f i.lt;clear q;refine K.o _ _ H.1.c1 (fun q=>?_);clear K g f;refine aF [4] (cA ?_ aG);intro g K;go_simp;refine(D.o _).ae ?_;rintro e A ⟨rfl,f⟩;replace H:=H.step f;replace i:=i.aa f i.lt;clear q;refine K.o _ _ H.1.c1 (fun q=>?_);clear K g f;refine ar 5 (zp #[zd #[zZ j,zK dx,zK m],J I p]) ?_;refine ar 6 (zd #[zZ j,zK dx,zK m]) ?_;refine ar 7 (J I p) ?_
 rotate_left 3
 focus
  intro g K;go_simp;have f:da t (t.alloc (FC xd ⟨#[]⟩ ⟨#[]⟩)):=(au _ t).alloc (ah _) _;have i:aL (t.alloc (FC xd ⟨#[]⟩ ⟨#[]⟩)) (O (T t)) xd ⟨#[]⟩ ⟨#[]⟩:=aL.new t _ _ _;have v:=H.lt;replace H:=H.step f;clear q;refine K.o _ _ H.1.c1 (fun q=>?_);clear K g f;generalize (t.alloc (FC xd ⟨#[]⟩ ⟨#[]⟩))=u1 at *;generalize (O (T t))=s at *;refine aF [0] (cA ?_ aG);intro g K;go_simp;refine(B9.o _).ae ?_;rintro e u2 ⟨rfl,f⟩;replace H:=H.step f;replace i:=i.aa f i.lt;clear q;refine K.o _ _ H.1.c1 (fun q=>?_);clear K g f;refine aF [3] (cA ?_ aG);intro g K;go_simp;refine(Ba.o _ (F.o.aa H.2.2)).ae ?_;rintro e r ⟨rfl,f⟩;replace H:=H.step f;replace i:=i.aa f i.lt;clear q;refine K.o _ _ H.1.c1 (fun q=>?_);clear K g f;refine aF [4] (cA ?_ aG);intro g K;go_simp;refine(D.o _).ae ?_;rintro e A ⟨rfl,f⟩;replace H:=H.step f;replace i:=i.aa f i.lt;clear q;refine K.o _ _ H.1.c1 (fun q=>?_);clear K g f;refine ar 5 (zp #[zd #[zZ j,zK dx,zK m],J I p]) ?_;refine ar 6 (zd #[zZ j,zK dx,zK m]) ?_;refine ar 7 (J I p) ?_
 all_goals
  try simp only[gE,aP]
  obtain⟨k0,k1,k2,f0,f1,f2⟩:=i.facts;refine aF [9] (cA ?_ aG);intro g K;go_simp;have h8:=i.put j dx m;replace H:=((H.off s 0 (zZ j) v).off s 1 (zK dx) v).off s 2 (zK m) v;clear k0 k1 k2 f0 f1 f2 i;generalize (((A.setCell ⟨s,0,N⟩ (zZ j)).setCell ⟨s,1,N⟩ (zK dx)).setCell ⟨s,2,N⟩ (zK m))=v9 at *;clear q;refine K.o _ _ H.1.c1 (fun q=>?_);clear K g;refine ar 10 (J I p) ?_;try simp only[gE,aP]
  refine eO ao ?_ _;obtain⟨k0,k1,f0,f1⟩:=H.2.1.facts;go_wp2;refine dI ((H.2.1.put _ _).result2 rfl _ rfl) rfl ?_;exact⟨by rw[<- Bj];exact yK.empty 3 _,uF H.2.2 al _ _⟩
def Uz (Fd:Kx) (l:List Fr) (k:Int) (e:Ending) (w':E):Prop:=∃(b c:Kd) (cb cc:Nat),e=yW (zp #[zd #[Z b (C Fd) cb,Z c (C l) cc],J I k])/\aB w' b Fd/\dH w' c l/\(b=N ->cb=0)
theorem Uz.weak {Fd:Kx} {l:List Fr} {k:Int} {e:Ending} (h:Uz Fd l k e w'):yK Fd l k e w':=by
 obtain⟨b,c,cb,cc,a,d,f,_⟩:=h;exact⟨b,c,cb,cc,a,d,f⟩
theorem bW.intsN {B:Nat} {v:wF} (h:bW w B v l):∃d c,v=Z d (C l) c/\aB w d l/\(d=N ->c=0):=by
 rcases h.cases with ⟨rfl,rfl⟩ |⟨g,cap,rfl,_,a,_,_,b⟩
 ·exact⟨N,0,rfl,fun k i=>absurd i aE,fun _=>rfl⟩
 ·exact⟨_,_,rfl,Dt b a fun j f=>⟨by simpa using f,aE⟩,fun e=>by cases e⟩
theorem NH.finN {V:E} {u v:wF} {Fd:Kx} {b:Kd} (n:b=N ->cb=0) (h:NH w V u v) {l:List Fr} {G:Nat} (i:aB V b Fd) (r:ij V G l) (d:O (T w)+1<G) (x y:wF) (a:x=Z b (C Fd) cb) (c:y=Z (M ⟨G,0,N⟩) (C l) cc):
  aZ ((V.setCell ⟨O (T w)+1,0,N⟩ x).setCell ⟨O (T w)+1,1,N⟩ y) (O (T w)+1) x y/\Uz Fd l 0 (yW (zp #[zd #[x,y],J I 0])) ((V.setCell ⟨O (T w)+1,0,N⟩ x).setCell ⟨O (T w)+1,1,N⟩ y)/\da w ((V.setCell ⟨O (T w)+1,0,N⟩ x).setCell ⟨O (T w)+1,1,N⟩ y):=by
 subst a c;exact⟨h.2.1.put _ _,⟨b,M ⟨G,0,N⟩,cb,cc,rfl,i.putT h.2.1 (slv _ _ _) (slv _ _ _) (slv _ _ _) _,((r.off _ 0 _ al).off _ 1 _ al).fr,n⟩,uF h.2.2 al _ _⟩
theorem ach (a b c:Kd) (ca cb cc:Nat) (Fb Fd:Kx) (l:List Fr) (w:E) (hs:aB w a Fb) (hv:aB w b Fd) (hf:dH w c l) (hn:C Fb<=140737488355328) (hm:C Fd<=140737488355328) (z:kX Fb Fd (C l)=0) (B7:∀k (h:k<C l),l[k].2.1.size+l[k].2.2.size<=40000) (rU:∀k,k<=C l ->qw (bH (l.take k))<=40000) (dO:C l<=10000) (hz:bH l≠0):
  c6 63 #[Z a (C Fb) ca,zd #[Z b (C Fd) cb,Z c (C l) cc]] w fun e w'=>Uz Fd (lu l) 0 e w'/\da w w':=by
 obtain⟨R,P,aj⟩:=Gf z;have hq:=rU (C l) (ah _);rw[iD] at hq;have Bj:=fun V U X=>Kg a b c ca cb cc (C l) Fb Fd V U X hn hm;rw[z] at Bj;have Bj:=Fa Bj;have jT:=Fa (fun V h=>Uc c cc l V h B7 rU dO);have HO:=Fa (fun V:E=>Gd (k:=1) (w:=V) 1 1 rfl a6 (by rfl));have HS:=Fa hs;have HV:=Fa hv;have L:=Fa hf;have HN:=Fa (fun V Bs (k:Nat) (z:k<C l) (U:O (T w)<O (T V)) (X:V.cell? ⟨O (T w),1,N⟩=M (Z c (C l) cc)) (h3:aL V Bs (aW (1/bH l)) (nu (1/bH l)) (de (1/bH l))) (h4:dH V c l)=>anV (O (T w)) Bs c cc l (1/bH l) k z V U X h3 h4 (aM (B7 k z) a6) (by have:=RQ hz;show qw (1/bH l)<=100000;omega));have D:=Fa (fun V:E=>ahx (n:=aW 1) (x:=nu 1) (y:=de 1) (w:=V) (1/bH l) (kr 1) (kr (bH l)) hz rfl (show qw 1<=100000 by have:=E8 xd (B 1) (B 1);exact aM (by decide+kernel) (ah 100000)) (show qw (bH l)<=100000 by omega));have UX:wT (∀(k:Nat) (h:k<C (lu l)) (h':k<C l),(lu l)[k]=qF (a8 l[k]*(1/bH l))):=fun k h _=>XK l h;have an:=KG l;clear hs hv hf hn hm z B7 rU hz hq;have eh:=Fa R;have nL:=Fa P;have ax:=Fa aj;have aE:=P.length;have uu:=R.eight;clear aj P R;generalize lu l=NL at *;generalize 1/bH l=r at *;obtain⟨m,Bh⟩:∃d,aW r=d:=⟨_,rfl⟩;obtain⟨dx,FY⟩:∃d:ByteArray,nu r=d:=⟨_,rfl⟩;obtain⟨s,OS⟩:∃d:ByteArray,de r=d:=⟨_,rfl⟩;rw[Bh,FY,OS] at D HN;clear Bh FY OS;obtain⟨v,B9⟩:∃d:Int,0=d:=⟨_,rfl⟩;rw[B9] at D;have OW:(v==0)=true:=by rw[<- B9];rfl
 clear B9;have H:=NH.new w (Z b (C Fd) cb) (Z c (C l) cc);have Q:=H.1.c0;have c1:=H.1.c1;go_enter func63,ntmps63;go_wp2_with fail
 generalize ((w.alloc (TC (Z b (C Fd) cb) (Z c (C l) cc))).alloc (TC (Z N 0 0) (Z N 0 0)))=W at *;refine(Bj.o _ (HS.o.aa H.2.2) (HV.o.aa H.2.2)).ae ?_;rintro e w1 ⟨rfl,ad⟩;replace H:=H.step ad;clear Q c1 ad Bj;go_upto_region 4 with fail
 replace H:=H.drew;refine iK (S:=fun u=>u.cell? ⟨O (T w),1,N⟩=M (Z c (C l) cc)) ao H.1.c1 (fun q=>?_);generalize w1.drew=A at *;refine ar 1 (zR (M ⟨O (T w),1,N⟩)) ?_;refine ar 2 (Z c (C l) cc) ?_;refine aF [0,8] (cA ?_ (cA ?_ aG))
 focus
  intro g K;go_simp;refine(HO.o _).ae ?_;rintro e u1 ⟨rfl,f⟩;replace H:=H.step f;clear q;refine K.o _ _ H.1.c1 (fun q=>?_);clear K g f;refine aF [3,8] (cA ?_ (cA ?_ aG))
  focus
   intro g K;go_simp;refine(jT.o _ (L.o.aa H.2.2)).ae ?_;rintro e u2 ⟨rfl,f⟩;replace H:=H.step f;clear q;refine K.o _ _ H.1.c1 (fun q=>?_);clear K g f;refine aF [4,8] (cA ?_ (cA ?_ aG))
   focus
    intro g K;go_simp;refine(D.o _).ae ?_;rintro e t ⟨rfl,f⟩;replace H:=H.step f;clear q;refine K.o _ _ H.1.c1 (fun q=>?_);clear K g f;refine ar 5 (zp #[zd #[zZ m,zK dx,zK s],J I v]) ?_;refine ar 6 (zd #[zZ m,zK dx,zK s]) ?_;refine ar 7 (J I v) ?_;refine aF [8] (cA ?_ aG);intro g K;go_simp;have f:da t (t.alloc (FC xd ⟨#[]⟩ ⟨#[]⟩)):=(au _ t).alloc (ah _) _;have i:aL (t.alloc (FC xd ⟨#[]⟩ ⟨#[]⟩)) (O (T t)) xd ⟨#[]⟩ ⟨#[]⟩:=aL.new t _ _ _;have Bm:=H.lt;replace H:=H.step f;clear q;refine K.o _ _ H.1.c1 (fun q=>?_);clear K g f;generalize (t.alloc (FC xd ⟨#[]⟩ ⟨#[]⟩))=Bb at *;generalize (O (T t))=j at *
   rotate_left
   focus
    intro g K;go_simp;have f:da u2 (u2.alloc (FC xd ⟨#[]⟩ ⟨#[]⟩)):=(au _ u2).alloc (ah _) _;have i:aL (u2.alloc (FC xd ⟨#[]⟩ ⟨#[]⟩)) (O (T u2)) xd ⟨#[]⟩ ⟨#[]⟩:=aL.new u2 _ _ _;have Bm:=H.lt;replace H:=H.step f;clear q;refine K.o _ _ H.1.c1 (fun q=>?_);clear K g f;generalize (u2.alloc (FC xd ⟨#[]⟩ ⟨#[]⟩))=t at *;generalize (O (T u2))=j at *;refine aF [4] (cA ?_ aG);intro g K;go_simp;refine(D.o _).ae ?_;rintro e Bb ⟨rfl,f⟩;replace H:=H.step f;replace i:=i.aa f i.lt;clear q;refine K.o _ _ H.1.c1 (fun q=>?_);clear K g f;refine ar 5 (zp #[zd #[zZ m,zK dx,zK s],J I v]) ?_;refine ar 6 (zd #[zZ m,zK dx,zK s]) ?_;refine ar 7 (J I v) ?_
  rotate_left 2
  focus
   intro g K;go_simp;have f:da u1 (u1.alloc (FC xd ⟨#[]⟩ ⟨#[]⟩)):=(au _ u1).alloc (ah _) _;have i:aL (u1.alloc (FC xd ⟨#[]⟩ ⟨#[]⟩)) (O (T u1)) xd ⟨#[]⟩ ⟨#[]⟩:=aL.new u1 _ _ _;have Bm:=H.lt;replace H:=H.step f;clear q;refine K.o _ _ H.1.c1 (fun q=>?_);clear K g f;generalize (u1.alloc (FC xd ⟨#[]⟩ ⟨#[]⟩))=u2 at *;generalize (O (T u1))=j at *;refine aF [3] (cA ?_ aG);intro g K;go_simp;refine(jT.o _ (L.o.aa H.2.2)).ae ?_;rintro e t ⟨rfl,f⟩;replace H:=H.step f;replace i:=i.aa f i.lt;clear q;refine K.o _ _ H.1.c1 (fun q=>?_);clear K g f;refine aF [4] (cA ?_ aG);intro g K;go_simp;refine(D.o _).ae ?_;rintro e Bb ⟨rfl,f⟩;replace H:=H.step f;replace i:=i.aa f i.lt;clear q;refine K.o _ _ H.1.c1 (fun q=>?_);clear K g f;refine ar 5 (zp #[zd #[zZ m,zK dx,zK s],J I v]) ?_;refine ar 6 (zd #[zZ m,zK dx,zK s]) ?_;refine ar 7 (J I v) ?_
 rotate_left 3
 focus
  intro g K;go_simp;have f:da A (A.alloc (FC xd ⟨#[]⟩ ⟨#[]⟩)):=(au _ A).alloc (ah _) _;have i:aL (A.alloc (FC xd ⟨#[]⟩ ⟨#[]⟩)) (O (T A)) xd ⟨#[]⟩ ⟨#[]⟩:=aL.new A _ _ _;have Bm:=H.lt;replace H:=H.step f;clear q;refine K.o _ _ H.1.c1 (fun q=>?_);clear K g f;generalize (A.alloc (FC xd ⟨#[]⟩ ⟨#[]⟩))=u1 at *;generalize (O (T A))=j at *;refine aF [0] (cA ?_ aG);intro g K;go_simp;refine(HO.o _).ae ?_;rintro e u2 ⟨rfl,f⟩;replace H:=H.step f;replace i:=i.aa f i.lt;clear q;refine K.o _ _ H.1.c1 (fun q=>?_);clear K g f;refine aF [3] (cA ?_ aG);intro g K;go_simp;refine(jT.o _ (L.o.aa H.2.2)).ae ?_;rintro e t ⟨rfl,f⟩;replace H:=H.step f;replace i:=i.aa f i.lt;clear q;refine K.o _ _ H.1.c1 (fun q=>?_);clear K g f;refine aF [4] (cA ?_ aG);intro g K;go_simp;refine(D.o _).ae ?_;rintro e Bb ⟨rfl,f⟩;replace H:=H.step f;replace i:=i.aa f i.lt;clear q;refine K.o _ _ H.1.c1 (fun q=>?_);clear K g f;refine ar 5 (zp #[zd #[zZ m,zK dx,zK s],J I v]) ?_;refine ar 6 (zd #[zZ m,zK dx,zK s]) ?_;refine ar 7 (J I v) ?_
 all_goals
  try simp only[gE,aP]
  obtain⟨k0,k1,k2,f0,f1,f2⟩:=i.facts;refine aF [9] (cA ?_ aG);intro g K;go_simp;have F:=i.put m dx s;replace H:=((H.off j 0 (zZ m) Bm).off j 1 (zK dx) Bm).off j 2 (zK s) Bm;clear k0 k1 k2 f0 f1 f2 i;generalize (((Bb.setCell ⟨j,0,N⟩ (zZ m)).setCell ⟨j,1,N⟩ (zK dx)).setCell ⟨j,2,N⟩ (zK s))=v9 at *;clear q;refine K.o _ _ H.1.c1 (fun q=>?_);clear K g;refine ar 10 (J I v) ?_;try simp only[gE,aP]
  refine eO ao ?_ _;have Q:=H.1.c0;go_wp2_with fail
  refine(Kl b cb Fd _ (HV.o.aa H.2.2) al).ae ?_;rintro e w2 ⟨x,rfl,av,ab⟩;obtain⟨d,Ba,rfl,Y,Bh⟩:=av.intsN;clear Q av;replace H:=H.step ab;replace F:=F.aa ab F.lt;clear ab;have ak:=H.1.lt;have zV:=T7 a d ca Ba Fb Fd 116 #[zR (M ⟨O (T w),0,N⟩),zR (M ⟨j,0,N⟩)] (enters_of func116 ao rfl) NL w2 (HS.o.aa H.2.2) Y eh.o nL.o (by rw[an];exact ax.o) (fun k z V f=>by rw[UX.o k z al];exact HN.o V j k al (aT ak f.size) ((f.cell (p:=⟨O (T w),1,N⟩) ak).trans H.1.c1) (F.aa f F.lt) (L.o.aa (H.2.2.trans (f.ae H.2.2.size))));have JE:=Fa zV;clear zV;go_wp2_with fail
  refine JE.o.ae ?_;rintro e w3 ⟨G,rfl,hG,ay,ai⟩;have az:=H.lt;replace H:=H.step ai;replace Y:=Y.aa ai;obtain⟨k0,k1,f0,f1⟩:=H.2.1.facts;obtain⟨e1,e2,e3⟩:=H.finN Bh (cb:=Ba) (cc:=l.length) Y ay al (Z d (C Fd) Ba) (Z (M ⟨G,0,N⟩) (C l) (C l)) rfl (by rw[an]);go_wp2;refine dI (e1.result2 rfl _ rfl) rfl ?_;exact⟨e2,e3⟩
theorem akq (a b c:Kd) (ca cb cc:Nat) (Fb Fd:Kx) (l:List Fr) (w:E) (hs:aB w a Fb) (v:aB w b Fd) (f:dH w c l) (n:C Fb<=140737488355328) (m:C Fd<=140737488355328) (g:kX Fb Fd (C l)=0) (i:∀k (h:k<C l),l[k].2.1.size+l[k].2.2.size<=40000) (r:∀k,k<=C l ->qw (bH (l.take k))<=40000) (B9:C l<=10000) (z:bH l≠0):
  c6 63 #[Z a (C Fb) ca,zd #[Z b (C Fd) cb,Z c (C l) cc]] w fun e w'=>yK Fd (lu l) 0 e w'/\da w w':=
 (ach a b c ca cb cc Fb Fd l w hs v f n m g i r B9 z).ae fun _ _ d=>⟨d.1.weak,d.2⟩
theorem bW.aa {B:Nat} {v:wF} (h:bW w B v l) (e:da w w'):bW w' B v l:=by
 refine⟨h.1,h.2.imp id ?_⟩;rintro⟨g,cap,r,b,c,a,d⟩;exact⟨g,cap,r,b,c,(e.block g (cS.1 a).1).trans a,d⟩
theorem bW.intS {B:Nat} {d:Kd} {c:Nat} {U:Kx} (h:bW w B (Z d (C U) c) U):aB w d U:=by
 obtain⟨a,L,e,i⟩:=h.ints;cases e;exact i
def sV (c:Int) (n:Nat):Nat:=(if c<0 then(-(c+1)).toNat else c.toNat) % n
theorem Kw (c:Int) (h:1<=n):sV c n<n:=jc _ h
theorem adl (c:Int) (n:Nat) (w:E) (h1: -9223372036854775808<=c) (f:c<=9223372036854775807) (b:1<=n) (i:n<=1000):
  c6 21 #[J I c,J I (n:Nat)] w fun e w'=>e=yW (J I (sV c n:Nat))/\w'=w:=by
 have H:wT (sV c n=(if c<0 then(-(c+1)).toNat else c.toNat) % n):=rfl;have l:=Kw c b;generalize sV c n=P at *;by_cases h:c<0
 ·rw[aw h] at H;obtain⟨d,a⟩:∃d:Nat,c= -((d:Int)+1):=⟨(-(c+1)).toNat,al⟩;subst a
  have Bm:wT ((d:Int) % (n:Int)=(P:Int)):=by
   show _=_;rw[H.o,show (-(-((d:Int)+1)+1)).toNat=d by omega,wk]
  have g:IntKind.i64.wrap (-((d:Int)+1)+1)= -(d:Int):=by rw[js];omega
  have j:IntKind.i64.wrap (- -(d:Int))=(d:Int):=by rw[js];omega
  go_enter func21,ntmps21;go_wp2;go_ret;exact⟨by rw[Bm.o];rfl,rfl⟩
 ·rw[aC h] at H;obtain⟨d,rfl⟩:∃d:Nat,c=d:=⟨c.toNat,al⟩
  have Bm:wT ((d:Int) % (n:Int)=(P:Int)):=by
   show _=_;rw[H.o,oU,wk]
  go_enter func21,ntmps21;go_wp2;go_ret;exact⟨by rw[Bm.o];rfl,rfl⟩
theorem Kp (c:Int) (n:Nat) (w:E) (h1: -9223372036854775808<=c) (a:c<=9223372036854775807) (b:1<=n) (d:n<=1000):
  c6 21 #[J I c,J I (n:Nat)] w (dj w (J I (sV c n:Nat))):=by
 refine(adl c n w h1 a b d).ae ?_;rintro e w' ⟨h,rfl⟩;exact⟨h,au _ _⟩
theorem aeH (w:E) (u:Int):aB (w.alloc (yM #[J I u] 3)) (M ⟨O (T w),0,N⟩) [u]:=fun k h=>by
 obtain rfl:k=0:=by simp at h;omega
 exact⟨O (T w),0,rfl,aE,(bF w _ _).cell⟩
def gU (L:List Kx) (v:Nat):Kx:=aU (L.getD v []) [(v:Int)]
def gL (V:List Vr) (L:List Kx) (R:List (List Fr)) (v:Nat):List Fr:=(List.range (cnt (ag V) (af (gU L v)))).map fun K=>qF (a8 (fP V L R (aX (ag V) (af (gU L v)) K) v))
theorem Wi (h:v<n):Up [(v:Int)] n:=eH.2 ⟨fun x a=>by have:=bA.1 a;omega,Hk _ _⟩
def GK (w V:E) (x y z:wF):Prop:=NK w V x y z/\aZ V (O (T w)+1) (Z N 0 0) (Z N 0 0)
theorem GK.new (w:E) (x y z:wF):GK w ((w.alloc (NC x y z)).alloc (TC (Z N 0 0) (Z N 0 0))) x y z:=⟨(NK.new w x y z).step ((au _ _).alloc (ah _) _),aZ.at aE _ _⟩
theorem GK.step {V:E} {x:wF} (h:GK w V x y z) (b:da V V'):GK w V' x y z:=⟨h.1.step b,h.2.aa b h.2.lt⟩
variable {R:List (List Fr)} {L:List Kx} {vs:Ja} {V:List Vr} {i:Nat}
theorem asN {a b:Ja} (h:a.Perm b):cnt S a=cnt S b:=by
 induction h with
 |nil=>rfl
 |cons x _ ih=>simp only[cnt,ih]
 |swap x y l=>simp only[cnt];rw[CL]
 |trans _ _ h1 h2=>exact h1.trans h2
theorem aeD (h:aS V L R=0) (d:v<C L):¬v∈af L[v]:=by
 rw[aS] at h;by_cases c:C L=C V/\R.length=C V
 ·rw[aw c] at h;by_cases a:bq L=0
  ·rw[bq] at a;by_cases b:gB L=y6
   ·rw[gB,iu,iu,Bd,fM] at b;have:=b.2 v (bS.2 d);rw[cF,a7 d] at this;simpa using this
   ·rw[aC b] at a;cases a
  ·rw[aC a] at h;exact absurd h a
 ·rw[aC c] at h;cases h
theorem acJ (D:v<C L) (k:Up L[v] n) (r:¬v∈af L[v]):(([(v:Int)]++L[v]).mergeSort fun x y=>decide (x<=y))=gU L v:=by
 have u:L.getD v []=L[v]:=by rw[cF,a7 D];rfl
 obtain⟨d,e⟩:=C1 L[v] [(v:Int)];rw[gU,u];have Bj:¬(v:Int)∈L[v]:=fun h=>r (by rw[af];exact aN.2 ⟨_,h,oU v⟩);have p:(([(v:Int)]++L[v]).mergeSort fun x y=>decide (x<=y)).Pairwise (fun x y=>decide (x<=y)=y6):=VR (fun a b c d e=>by simp at d e⊢;omega) (fun a b=>by simp;omega) _
 have m:([(v:Int)]++L[v]).Nodup:=by
  rw[List.singleton_append,nS];exact⟨Bj,(eH.1 k).2.imp fun h=>al⟩
 have l:(([(v:Int)]++L[v]).mergeSort fun x y=>decide (x<=y)).Nodup:=(QV _ _).nodup_iff.2 m;refine WV ?_ d fun x=>?_
 ·rw[zq];intro i j f g q;have o:=zq.1 p i j f g q;have s:=zq.1 l i j f g q;have t:=mJ o;omega
 ·rw[List.mem_mergeSort,e,bE];exact Or.comm
theorem asO (S:Ja) (g:v<C L) (b:Up L[v] n) (o:¬v∈af L[v]):cnt S (af (gU L v))=cnt S (af L[v])*sz S v:=by
 rw[<- acJ g b o];have h:(([(v:Int)]++L[v]).mergeSort fun x y=>decide (x<=y)).Perm ([(v:Int)]++L[v]):=QV _ _;have a:=asN (S:=S) (h.map Int.toNat);rw[af,a,gV,gw,oQ,List.singleton_append,cnt,oU,eQ];rfl
def Bp (A f:Nat ->Nat) (vs:Ja) (i:Nat):Nat ->Nat:=fun u=>if u∈vs.take i then f u else A u
theorem aoQ (A f:Nat ->Nat) (vs:Ja):Bp A f vs 0=A:=by funext u;simp[Bp]
theorem aoR (A f:Nat ->Nat) (n:Nat) (h:i<C vs):(rM n (Bp A f vs i)).set vs[i] (f vs[i])=rM n (Bp A f vs (i+1)):=by
 rw[akS];refine akT fun u _=>?_;rw[aO,Bp,Bp,gR h];by_cases e:u=vs[i]
 ·rw[aw e,aw (bE.2 (yk (bA.2 e))),e]
 ·rw[aC e];by_cases b:u∈vs.take i
  ·rw[aw b,aw (bE.2 (yd b))]
  ·rw[aC b,aC (fun a=>by rcases bE.1 a with a |a;exact b a;exact e (bA.1 a))]
theorem aoS {A:Nat ->Nat} (h:∀u,¬u∈vs ->A u=0) (a:∀u,¬u∈vs ->f u=0):Bp A f vs (C vs)=f:=by
 funext u
 rw[Bp,iD];by_cases e:u∈vs
 ·rw[aw e]
 ·rw[aC e,h u e,a u e]
def bG (g:Nat ->Rat):Nat ->Rat
 |0=>0
 |n+1=>bG g n+g n
theorem gM {g:Nat ->Rat}:∀ {n:Nat},(∀x,x< n ->g x=h x) ->bG g n=bG h n
 |0,_=>rfl
 |n+1,e=>by rw[bG,bG,gM fun x a=>e x al,e n al]
theorem RA:∀n,bG (fun _=>0) n=0
 |0=>rfl
 |n+1=>by rw[bG,RA n,Rat.add_zero]
theorem acr (g h:Nat ->Rat):∀n,bG (fun x=>g x+h x) n=bG g n+bG h n
 |0=>by simp[bG,Rat.add_zero]
 |n+1=>by
  rw[bG,bG,bG,acr g h n];rw[MG,MG, <- MG (bG h n),Rat.add_comm (bG h n) (g n),MG]
theorem xS (c:Rat) (g:Nat ->Rat):∀n,bG (fun x=>c*g x) n=c*bG g n
 |0=>by simp[bG,Rat.mul_zero]
 |n+1=>by rw[bG,bG,xS c g n,Rat.mul_add]
theorem RB (g:Nat ->Nat ->Rat) (m:Nat):∀n,bG (fun x=>bG (fun y=>g x y) m) n=bG (fun y=>bG (fun x=>g x y) n) m
 |0=>by simp only[bG];rw[RA]
 |n+1=>by
  rw[bG,RB g m n, <- acr];rfl
theorem acp (g:Nat ->Rat) (m:Nat):∀n,bG g (m+n)=bG g m+bG (fun y=>g (m+y)) n
 |0=>by simp[bG,Rat.add_zero]
 |n+1=>by rw[<- zl,bG,acp g m n,bG,MG]
theorem acq (g:Nat ->Rat) (b:Nat):∀a,bG g (a*b)=bG (fun x=>bG (fun y=>g (x*b+y)) b) a
 |0=>by rw[oN];rfl
 |a+1=>by rw[iC,k8,acp,acq g b a,bG]
def dh (S:Ja):Ja ->((Nat ->Nat) ->Rat) ->(Nat ->Nat) ->Rat
 |[],F,f=>F f
 |v::vs,F,f=>bG (fun x=>dh S vs F (aO f v x)) (sz S v)
def over (vs:Ja) (f g:Nat ->Nat):Nat ->Nat:=fun u=>if u∈vs then g u else f u
theorem am6 (f g:Nat ->Nat):over [] f g=f:=by funext u;simp[over]
theorem NA (F:(Nat ->Nat) ->Rat):∀(vs:Ja) (f:Nat ->Nat),vs.Nodup ->bG (fun k=>F (over vs f (aX S vs k))) (cnt S vs)=dh S vs F f
 |[],f,_=>by
  show 0+F (over [] f _)=F f;rw[am6,Rat.zero_add]
 |v::vs,f,hn=>by
  rw[nS] at hn;rw[cnt,acq,dh];refine gM fun x g=>?_;rw[<- NA F vs (aO f v x) hn.2];refine gM fun y b=>?_;congr 1
  funext u
  have c:(x*cnt S vs+y)/cnt S vs=x:=by rw[eQ,Nat.mul_add_div al,zk b,jd]
  have d:(x*cnt S vs+y) % cnt S vs=y:=by rw[eQ,Nat.mul_add_mod,kp b]
  simp only[over,aX,c,d,aO,bY];by_cases e:u=v
  ·subst e;rw[aw (yd rfl),aw rfl,aC hn.1,aw rfl]
  ·rw[aC e];by_cases a:u∈vs
   ·rw[aw (yk a),aw a]
   ·rw[aC (fun h=>h.elim e a),aC a,aC e]
theorem wI {F G:(Nat ->Nat) ->Rat} (h:∀g,(∀u,g u<sz S u) ->F g=G g):∀(vs:Ja) (f:Nat ->Nat),(∀u,f u<sz S u) ->dh S vs F f=dh S vs G f
 |[],f,hf=>h f hf
 |v::vs,f,hf=>by
  rw[dh,dh];refine gM fun x a=>wI h vs _ fun u=>?_;rw[aO];by_cases e:u=v
  ·rw[aw e,e];exact a
  ·rw[aC e];exact hf u
theorem Ik (F:(Nat ->Nat) ->Rat) (v:Nat):∀(vs:Ja) (f:Nat ->Nat),dh S (vs++[v]) F f=dh S vs (fun g=>bG (fun x=>F (aO g v x)) (sz S v)) f
 |[],f=>rfl
 |u::vs,f=>by
  rw[gF,dh,dh];exact gM fun x _=>Ik F v vs _
theorem Fg (F:(Nat ->Nat) ->Rat) {a b:Ja} (h:a.Perm b):a.Nodup ->∀f,dh S a F f=dh S b F f:=by
 induction h with
 |nil=>intro _ f;rfl
 |cons x _ ih=>
  intro n f;rw[nS] at n;rw[dh,dh];exact gM fun y _=>ih n.2 _
 |swap x y l=>
  intro n f
  have c:y≠x:=by
   rw[nS] at n;exact fun e=>n.1 (by rw[e];exact dJ)
  simp only[dh];rw[RB];refine gM fun p _=>gM fun q _=>?_;rw[J9 f q p (Ne.symm c)]
 |trans h1 _ ih1 Yi=>
  intro n f;rw[ih1 n f,Yi (h1.nodup_iff.1 n) f]
def fE (V:List Vr) (L:List Kx) (R:List (List Fr)) (f:Nat ->Nat):Ja ->Rat
 |[]=>1
 |v::vs=>a8 (fP V L R f v)*fE V L R f vs
theorem Ku (V:List Vr) (L:List Kx) (R:List (List Fr)) (f:Nat ->Nat) (b:Ja):∀a,fE V L R f (a++b)=fE V L R f a*fE V L R f b
 |[]=>by rw[gS,fE,nR]
 |v::a=>by rw[gF,fE,fE,Ku V L R f b a,oM]
theorem RT (V:List Vr) (L:List Kx) (R:List (List Fr)) (f:Nat ->Nat):∀n,wD V L R f n=fE V L R f (List.range n)
 |0=>rfl
 |n+1=>by rw[wD,RT V L R f n,xN,Ku,fE,fE,lN]
theorem adD {a b:Ja} (h:a.Perm b):fE V L R f a=fE V L R f b:=by
 induction h with
 |nil=>rfl
 |cons x _ ih=>rw[fE,fE,ih]
 |swap x y l=>simp only[fE];rw[<- oM, <- oM,Hg (a8 (fP V L R f y))]
 |trans _ _ h1 h2=>exact h1.trans h2
theorem X5 {u x:Nat} (h1:u≠v) (h:¬v∈af (L.getD u [])):fP V L R (aO f v x) u=fP V L R f u:=by
 rw[fP,fP,sY,sY]
 have e:pos (ag V) (aO f v x) (af (L.getD u []))=pos (ag V) f (af (L.getD u [])):=A8 _ fun z a=>by
  rw[aO,aC];intro e;exact h (e▸a)
 rw[e,aO,aC h1]
theorem Nt {x:Nat}:∀ {o:Ja},(∀u∈o,u≠v/\¬v∈af (L.getD u [])) ->fE V L R (aO f v x) o=fE V L R f o
 |[],_=>rfl
 |u::o,h=>by
  obtain⟨a,b⟩:=h u dJ;rw[fE,fE,X5 a b,Nt fun z c=>h z (dZ _ c)]
theorem ag4:∀(l:List Fr),bH l=bG (fun x=>a8 (aQ l x)) (C l):=by
 intro l
 have e:∀n,n<=C l ->bH (l.take n)=bG (fun x=>a8 (aQ l x)) n:=by
  intro n;induction n with
  |zero=>intro _;rfl
  |succ n ih=>
   intro h;rw[gR al,TZ,ih al,bG,mr al];rfl
 have:=e (C l) (ah _);rwa [iD] at this
theorem row_one (h0:aS V L R=0) (c:v<C V) (k:∀u,f u<sz (ag V) u):bG (fun x=>a8 (fP V L R (aO f v x) v)) (sz (ag V) v)=1:=by
 have D:=gY h0;have g:v<C L:=by rw[D.len];exact c
 have d:v<C R:=by rw[D.lenR];exact c
 have q:=aeD h0 g;have l:=D.rows v g d;have p:=qQ f k (af L[v])
 have o:jf (gg R[v] (sz (ag V) v) (pos (ag V) f (af L[v])))=true:=by
  have b:j9 (ju (ag V) L R) (C V)=0:=by
   rw[aS] at h0;by_cases b:C L=C V/\R.length=C V
   ·rw[aw b] at h0;by_cases h:bq L=0
    ·rw[aw h] at h0;by_cases a:lT V=0
     ·rwa [aw a] at h0
     ·rw[aC a] at h0;exact absurd h0 a
    ·rw[aC h] at h0;exact absurd h0 h
   ·rw[aC b] at h0;exact absurd h0 a6
  have h:=DY b v c;rw[ju,cF,a7 d,cF,a7 g] at h;simp only[CH] at h;rw[aw l] at h;by_cases a:((List.range (cnt (ag V) (af L[v]))).all fun i=>jf (gg R[v] (sz (ag V) v) i))=y6
  ·rw[fM] at a;exact a _ (bS.2 p)
  ·rw[aC a] at h;exact absurd h a6
 rw[jf,iu] at o;have hs:bH (gg R[v] (sz (ag V) v) (pos (ag V) f (af L[v])))=1:=mJ o.2;have t:(pos (ag V) f (af L[v])+1)*sz (ag V) v<=R[v].length:=by rw[l];exact lR _ p
 have r:(pos (ag V) f (af L[v])+1)*sz (ag V) v=pos (ag V) f (af L[v])*sz (ag V) v+sz (ag V) v:=by rw[iC,k8]
 have n:C (gg R[v] (sz (ag V) v) (pos (ag V) f (af L[v])))=sz (ag V) v:=by
  rw[gg,fh,p8];omega
 rw[ag4,n] at hs;rw[<- hs];refine gM fun x s=>?_;rw[SG g d,sY]
 have j:pos (ag V) (aO f v x) (af L[v])=pos (ag V) f (af L[v]):=A8 _ fun z m=>by
  rw[aO,aC];intro e;exact q (e▸m)
 rw[j,aO,aw rfl,mr al,mr al];simp only[gg,xO,List.getElem_drop]
theorem Si (P:List Ja):∀k,∀u∈bj P k,∀z∈P.getD u [],z∈bj P k
 |0,u,hu=>by cases hu
 |k+1,u,hu=>by
  rw[bj] at hu⊢;cases e:rS P (bj P k) with
  |none=>
   rw[e] at hu;exact Si P k u hu
  |some v=>
   rw[e] at hu;intro z a;refine bE.2 (yd ?_);rcases bE.1 hu with h |h
   ·exact Si P k u h z a
   ·obtain rfl:=bA.1 h;have w:iX P (bj P k) u=true:=List.find?_some e;rw[iX,iu] at w;exact mJ w.2 z a
theorem aeA (h0:aS V L R=0):∀k,C (bj (aH L) k)=k ->k<=C L ->(bj (aH L) k).Nodup/\∀f,(∀u,f u<sz (ag V) u) ->dh (ag V) (bj (aH L) k) (fun g=>fE V L R g (bj (aH L) k)) f=1
 |0,_,_=>⟨Hl,fun _ _=>rfl⟩
 |k+1,hl,hk=>by
  have D:=gY h0;have q:=KD (aH L) k;cases e:rS (aH L) (bj (aH L) k) with
  |none=>
   rw[bj,e] at hl;exact absurd hl (by show C (bj (aH L) k)≠_;omega)
  |some v=>
   have j:=Sh e;rw[j] at hl⊢;rw[cE,Hn] at hl;obtain⟨o,hs⟩:=aeA h0 k al al;have w:iX (aH L) (bj (aH L) k) v=true:=List.find?_some e;rw[iX,iu] at w;(have Bj:¬v∈bj (aH L) k:=by simpa using w.1);(have Q:v<C L:=by have:=bS.1 (aby e);rwa [j5] at this);refine⟨?_,fun f i=>?_⟩
   ·rw[nT];refine⟨o,aE,fun a l b m=>?_⟩;rw[bA.1 m];exact fun e=>Bj (e▸l)
   ·rw[Ik, <- hs f i];refine wI (fun g n=>?_) _ f i;rw[gM (h:=fun x=>fE V L R g (bj (aH L) k)*a8 (fP V L R (aO g v x) v))]
    ·rw[xS,row_one h0 (by rw[<- D.len];exact Q) n,lN]
    ·intro x _;rw[Ku,fE,fE,lN,Nt];intro u d;refine⟨fun e=>Bj (e▸d),fun p=>?_⟩
     exact Bj (Si (aH L) k u d v (by
      have c:=Ij (aH L) k u d;rw[j5] at c;rw[Ii c];rw[cF,a7 c] at p;exact p))
theorem XM:∀(n:Nat) (l:Ja),l.Nodup ->(∀x∈l,x<n) ->C l<=n
 |0,l,_,h=>by
  cases l with
  |nil=>exact ah _
  |cons a l=>exact absurd (h a dJ) al
 |n+1,l,hn,h=>by
  by_cases m:n∈l
  ·have g:=VU m
   have c:=XM n (l.erase n) (hn.erase n) (fun x b=>by
    have d:=h x (List.mem_of_mem_erase b);(have f:x≠n:=fun e=>by subst e;exact hn.not_mem_erase b);omega)
   have i:=VT m;omega
  ·have c:=XM n l hn (fun x b=>by
    have d:=h x b;have f:x≠n:=fun e=>m (e▸b);omega)
   omega
theorem adO:∀(n:Nat) (l:Ja),l.Nodup ->(∀x∈l,x<n) ->C l=n ->l.Perm (List.range n)
 |0,l,_,_,h=>by
  have:=Ho.1 h;subst this;exact Q7 _
 |n+1,l,hn,h,hl=>by
  have m:n∈l:=zt fun m=>by
   have:=XM n l hn (fun x a=>by
    have c:=h x a;have d:x≠n:=fun e=>m (e▸a);omega)
   omega
  have f:=VU m
  have b:=adO n (l.erase n) (hn.erase n) (fun x a=>by
   have c:=h x (List.mem_of_mem_erase a);(have d:x≠n:=fun e=>by subst e;exact hn.not_mem_erase a);omega) al
  rw[xN];exact(List.perm_cons_erase m).trans ((b.cons n).trans (List.perm_append_singleton n (List.range n)).symm)
theorem Xx (h:aS V L R=0):C (bj (aH L) (C L))=C L:=by
 rw[aS] at h;by_cases b:C L=C V/\R.length=C V
 ·rw[aw b] at h;by_cases a:bq L=0
  ·rw[bq] at a;by_cases c:gB L=y6
   ·rw[aw c] at a;by_cases d:C (bj (aH L) (C L))<C L
    ·rw[aw d] at a;cases a
    ·have:=KD (aH L) (C L);omega
   ·rw[aC c] at a;cases a
  ·rw[aC a] at h;exact absurd h a
 ·rw[aC b] at h;cases h
theorem Sg (k:Nat):over vs (fun _=>0) (aX S vs k)=aX S vs k:=by
 funext u
 rw[over];by_cases e:u∈vs
 ·rw[aw e]
 ·rw[aC e,LX e]
theorem ad8 (g:Nat ->Rat):∀m,Bc xd g m=bG g (m+1)
 |0=>by show g 0=0+g 0;rw[Rat.zero_add]
 |m+1=>by
  rw[Bc,ad8 g m];rfl
theorem api {g:Nat ->Nat} (h:∀u,u=v∨u∈af (L.getD v []) ->f u=g u):fP V L R f v=fP V L R g v:=by
 rw[fP,fP,sY,sY,A8 (ag V) (f:=f) (g:=g) fun u a=>h u (yk a),h v (yd rfl)]
def xB (A:Nat ->Prop) (G:(Nat ->Nat) ->Rat):Prop:=∀v,¬A v ->∀g x,G (aO g v x)=G g
def p6 (L:List Kx) (A:Nat ->Prop):Prop:=∀v,A v ->∀u∈af (L.getD v []),A u
theorem apf {A:Nat ->Prop} (c:p6 L A) (a:A v):xB A (fun g=>a8 (fP V L R g v)):=fun u h g x=>by
 show a8 (fP V L R (aO g u x) v)=a8 (fP V L R g v);have b:v≠u:=fun e=>h (by rw[<- e];exact a);rw[X5 b (fun m=>h (c v a u m))]
theorem Wd (f:Nat ->Nat) (v x y:Nat):aO (aO f v x) v y=aO f v y:=by
 funext u
 simp only[aO];by_cases e:u=v
 ·rw[aw e,aw e]
 ·rw[aC e,aC e,aC e]
theorem xB.sum {A:Nat ->Prop} {G:(Nat ->Nat) ->Rat} (a:xB A G) (v n:Nat):xB A (fun g=>bG (fun x=>G (aO g v x)) n):=fun u b g y=>by
 refine gM fun x _=>?_;by_cases e:u=v
 ·subst e;rw[Wd]
 ·rw[J9 g y x (fun h=>e h.symm)];exact a u b _ _
theorem xB.mul {A:Nat ->Prop} {G H:(Nat ->Nat) ->Rat} (a:xB A G) (b:xB A H):xB A (fun g=>G g*H g):=fun u h g x=>by
 show G (aO g u x)*H (aO g u x)=G g*H g;rw[a u h,b u h]
theorem aaV (h0:aS V L R=0) {b:Nat ->Bool} (A:p6 L fun v=>b v=y6):∀k,C (bj (aH L) k)=k ->k<=C L ->∀(G:(Nat ->Nat) ->Rat),xB (fun v=>b v=y6) G ->∀f,(∀u,f u<sz (ag V) u) ->
  dh (ag V) (bj (aH L) k) (fun g=>G g*fE V L R g (bj (aH L) k)) f=dh (ag V) ((bj (aH L) k).filter b) (fun g=>G g*fE V L R g ((bj (aH L) k).filter b)) f
 |0,_,_,_,_,_,_=>rfl
 |k+1,hl,hk,G,hG,f,hf=>by
  have D:=gY h0;have n:=KD (aH L) k;cases e:rS (aH L) (bj (aH L) k) with
  |none=>
   rw[bj,e] at hl;exact absurd hl (by show C (bj (aH L) k)≠_;omega)
  |some v=>
   have l:=Sh e;rw[l] at hl⊢;rw[cE,Hn] at hl;have w:iX (aH L) (bj (aH L) k) v=true:=List.find?_some e;rw[iX,iu] at w;(have Bj:¬v∈bj (aH L) k:=by simpa using w.1);(have Q:v<C L:=by have:=bS.1 (aby e);rwa [j5] at this)
   have p:∀u∈bj (aH L) k,u≠v/\¬v∈af (L.getD u []):=fun u a=>by
    refine⟨fun e=>Bj (e▸a),fun j=>?_⟩
    exact Bj (Si (aH L) k u a v (by
     have d:=Ij (aH L) k u a;rw[j5] at d;rw[Ii d];rw[cF,a7 d] at j;exact j))
   rw[Ik,xP];by_cases c:b v=y6
   ·have i:=aaV h0 A k al al (fun g=>bG (fun x=>G (aO g v x)*a8 (fP V L R (aO g v x) v)) (sz (ag V) v)) ((hG.mul (apf A c)).sum v _) f hf;rw[show ([v].filter b)=[v] by simp[c],Ik];rw[wI (F:=fun g=>bG (fun x=>G (aO g v x)*fE V L R (aO g v x) (bj (aH L) k++[v])) (sz (ag V) v)) (G:=fun g=>bG (fun x=>G (aO g v x)*a8 (fP V L R (aO g v x) v)) (sz (ag V) v)*fE V L R g (bj (aH L) k)) ?_ _ f hf,i]
    ·refine wI ?_ _ f hf;intro g _;rw[Hg, <- xS];refine gM fun x _=>?_;rw[Ku,fE,fE,lN,Nt fun u a=>p u (dC.1 a).1];grind
    ·intro g _;rw[Hg, <- xS];refine gM fun x _=>?_;rw[Ku,fE,fE,lN,Nt p];grind
   ·have i:=aaV h0 A k al al G hG f hf;rw[show ([v].filter b)=[] by simp[c],kq, <- i];refine wI ?_ _ f hf;intro g m;rw[gM (h:=fun x=>(G g*fE V L R g (bj (aH L) k))*a8 (fP V L R (aO g v x) v))]
    ·rw[xS,row_one h0 (by rw[<- D.len];exact Q) m,lN]
    ·intro x _;rw[Ku,fE,fE,lN,Nt p,hG v c];grind
def Fit (S:Ja) (f:Nat ->Nat):Prop:=∀u,f u<sz S u
theorem Fit.with (h:Fit S f) {x:Nat} (a:x<sz S v):Fit S (aO f v x):=fun u=>by
 rw[aO];by_cases e:u=v
 ·rw[aw e,e];exact a
 ·rw[aC e];exact h u
def tQ (S:Ja) (t:Ja×List Fr) (f:Nat ->Nat):Rat:=a8 (aQ t.2 (pos S f t.1))
theorem akm {t:Ja×List Fr} {x:Nat} (h:¬v∈t.1):tQ S t (aO f v x)=tQ S t f:=by
 rw[tQ,tQ,A8 S (f:=aO f v x) (g:=f)];intro u a;rw[aO,aC];intro e;exact h (e▸a)
theorem akl {a b U:Ja} (p:Pos S) (r:U.Nodup) (e:∀u∈a,u∈U) (m:∀u∈b,u∈U) (la lb:List Fr) (h:Fit S f):tQ S (U,xU S a b U la lb) f=tQ S (a,la) f*tQ S (b,lb) f:=amm p r e m la lb h
theorem WA {Fd rest:Ja} (p:Pos S) (r:rest.Nodup) (b:∀u∈Fd,u=v∨u∈rest) (l:List Fr) (a:Fit S f):tQ S (rest,wH S Fd rest v xd l) f=bG (fun x=>tQ S (Fd,l) (aO f v x)) (sz S v):=by
 have h:=am8 p r b xd l a;rw[ad8,show sz S v - 1+1=sz S v by have:=lp p v;omega] at h;exact h
theorem Rw {Fd rest:Ja} (p:Pos S) (r:rest.Nodup) {x:Nat} (b:∀u∈Fd,u=v∨u∈rest) (l:List Fr) (h:Fit S f):tQ S (rest,xe S Fd rest v x l) f=tQ S (Fd,l) (aO f v x):=by
 rw[tQ,tQ,xe,Jb _ (qQ f h rest),jC];rw[A8 S (f:=aO (aX S rest (pos S f rest)) v x) (g:=aO f v x)];intro u a;simp only[aO];by_cases e:u=v
 ·rw[aw e,aw e]
 ·rw[aC e,aC e];exact B4 p h r u ((b u a).resolve_left e)
theorem acg (h0:aS V L R=0) (d:v<C V) (c:Fit (ag V) f):tQ (ag V) (af (gU L v),gL V L R v) f=a8 (fP V L R f v):=by
 have b:=gY h0;have g:v<C L:=by rw[b.len];exact d
 have H:Pos (ag V):=by have:=b.fine.pos;rwa [jP] at this
 have P:L.getD v []=L[v]:=by rw[cF,a7 g];rfl
 have e:Up (gU L v) (C V):=by rw[gU,P];exact Hy (b.up v g) (Wi d)
 have m:∀u,u=v∨u∈af (L.getD v []) ->u∈af (gU L v):=fun u h=>by
  obtain⟨_,a⟩:=C1 (L.getD v []) [(v:Int)];rcases h with rfl |h
  ·exact aN.2 ⟨(u:Int),(a _).2 (yk (bA.2 rfl)),oU u⟩
  ·obtain⟨z,i,rfl⟩:=aN.1 h;exact aN.2 ⟨z,(a _).2 (yd i),rfl⟩
 rw[tQ,gL,Jb _ (qQ f c _),jC];congr 1
 exact api fun u h=>B4 H c e.nodup u (m u h)
def pQ (S:Ja) (f:Nat ->Nat):List (Ja×List Fr) ->Rat
 |[]=>1
 |t::P=>tQ S t f*pQ S f P
theorem adZ (S:Ja) (f:Nat ->Nat) (Q:List (Ja×List Fr)):∀P,pQ S f (P++Q)=pQ S f P*pQ S f Q
 |[]=>by rw[gS,pQ,nR]
 |t::P=>by rw[gF,pQ,pQ,adZ S f Q P,oM]
theorem adY {x:Nat}:∀ {P:List (Ja×List Fr)},(∀t∈P,¬v∈t.1) ->pQ S (aO f v x) P=pQ S f P
 |[],_=>rfl
 |t::P,h=>by rw[pQ,pQ,akm (h t dJ),adY fun s hs=>h s (dZ _ hs)]
theorem adX (S:Ja) (f:Nat ->Nat) (p:Ja×List Fr ->Bool):∀P:List (Ja×List Fr),pQ S f P=pQ S f (P.filter fun t=>!p t)*pQ S f (P.filter p)
 |[]=>by simp[pQ]
 |t::P=>by
  rw[pQ,adX S f p P];cases h:p t
  ·rw[CP (by simp[h]),CQ (by simp[h]),pQ,oM]
  ·rw[CQ (by simp[h]),CP h,pQ, <- oM, <- oM,Hg (tQ S t f)]
theorem am1 {P:List (Ja×List Fr)} {q r:Ja×List Fr} (a:∀g,Fit S g ->tQ S q g=pQ S g (P.filter fun t=>decide (v∈t.1))) (b:∀g,Fit S g ->tQ S r g=bG (fun x=>tQ S q (aO g v x)) (sz S v)) (h:Fit S f):
  pQ S f ((P.filter fun t=>!decide (v∈t.1))++[r])=bG (fun x=>pQ S (aO f v x) P) (sz S v):=by
 rw[adZ,pQ,pQ,lN,b f h, <- xS];refine gM fun x d=>?_;have p:=adY (S:=S) (f:=f) (v:=v) (x:=x) (P:=P.filter fun t=>!decide (v∈t.1)) (fun t c=>by simpa using (dC.1 c).2);rw[adX S (aO f v x) (fun t=>decide (v∈t.1)) P,a _ (h.with d),p]
variable {ws:Ja}
def LD (S:Ja):Ja ->((Nat ->Nat) ->Rat) ->(Nat ->Nat) ->Rat
 |[],F=>F
 |v::vs,F=>LD S vs fun f=>bG (fun x=>F (aO f v x)) (sz S v)
theorem ahB (S:Ja):∀(vs:Ja) (F:(Nat ->Nat) ->Rat) (f:Nat ->Nat),LD S vs F f=dh S vs.reverse F f
 |[],F,f=>rfl
 |v::vs,F,f=>by rw[LD,ahB S vs,List.reverse_cons,Ik]
theorem ar0 (h:vs.Perm ws) (n:vs.Nodup) (F:(Nat ->Nat) ->Rat) (f:Nat ->Nat):LD S vs F f=dh S ws F f:=by
 rw[ahB];exact Fg F ((List.reverse_perm vs).trans h) ((List.reverse_perm vs).nodup_iff.2 n) f
def mV (v x:Nat) (g:Nat ->Nat):Rat:=if g v=x then 1 else 0
theorem aeB {x y:Nat} (F:(Nat ->Nat) ->Rat):∀(vs:Ja) (f:Nat ->Nat),¬v∈vs ->f v=y ->dh S vs (fun g=>mV v x g*F g) f=(if y=x then 1 else 0)*dh S vs F f
 |[],f,_,hf=>by
  show mV v x f*F f=_;rw[mV,hf];rfl
 |u::vs,f,hv,hf=>by
  rw[dh,dh, <- xS];refine gM fun z _=>?_;refine aeB F vs _ (fun h=>hv (dZ _ h)) ?_;rw[aO,aC (fun e=>hv (by rw[e];exact dJ)),hf]
theorem XH {x:Nat} (F:(Nat ->Nat) ->Rat):∀(vs:Ja) (f:Nat ->Nat),¬v∈vs ->dh S vs F (aO f v x)=dh S vs (fun g=>F (aO g v x)) f
 |[],f,_=>rfl
 |u::vs,f,hv=>by
  rw[dh,dh];refine gM fun z _=>?_;have n:v≠u:=fun e=>hv (by rw[e];exact dJ);rw[J9 f x z (fun e=>n e.symm),XH F vs _ fun h=>hv (dZ _ h)]
theorem Kh {g:Nat ->Rat} {x:Nat}:∀ {n:Nat},x< n ->bG (fun y=>(if y=x then 1 else 0)*g y) n=g x
 |0,h=>al
 |n+1,h=>by
  rw[bG];rcases dX x n with a |a
  ·rw[Kh a,aC al,CG,Rat.add_zero]
  ·obtain rfl:x=n:=al
   rw[aw rfl,nR,gM (h:=fun _=>0) fun y b=>by rw[aC al,CG],RA,Rat.zero_add]
theorem anQ {x:Nat} (F:(Nat ->Nat) ->Rat) (h:vs.Perm (v::ws)) (n:vs.Nodup) (a:x<sz S v) (f:Nat ->Nat):dh S vs (fun g=>mV v x g*F g) f=dh S ws (fun g=>F (aO g v x)) f:=by
 have i:=h.nodup_iff.1 n;rw[nS] at i;rw[Fg _ h n f,dh, <- XH F ws f i.1];rw[gM (h:=fun y=>(if y=x then 1 else 0)*dh S ws F (aO f v y)) fun y _=>aeB F ws _ i.1 (by rw[aO,aw rfl])];exact Kh a
def b9:List (Nat×Nat) ->(Nat ->Nat) ->Rat
 |[],_=>1
 |p::l,g=>mV p.1 p.2 g*b9 l g
def eB:List (Nat×Nat) ->(Nat ->Nat) ->Nat ->Nat
 |[],g=>g
 |p::l,g=>eB l (aO g p.1 p.2)
theorem Uv {x:Nat}:∀ {l:List (Nat×Nat)},(∀p∈l,p.1≠v) ->∀g,b9 l (aO g v x)=b9 l g
 |[],_,_=>rfl
 |p::l,h,g=>by
  rw[b9,b9,Uv (fun q a=>h q (dZ _ a)),mV,mV,aO,aC (h p dJ)]
theorem RR {x:Nat}:∀ {l:List (Nat×Nat)},(∀p∈l,p.1≠v) ->∀g,eB l (aO g v x)=aO (eB l g) v x
 |[],_,_=>rfl
 |p::l,h,g=>by
  rw[eB,eB,J9 g x p.2 (h p dJ),RR fun q a=>h q (dZ _ a)]
theorem Sm:∀(l:List (Nat×Nat)) (F:(Nat ->Nat) ->Rat) {vs ws:Ja},vs.Perm (l.map (·.1)++ws) ->vs.Nodup ->(∀p∈l,p.2<sz S p.1) ->∀f,dh S vs (fun g=>b9 l g*F g) f=dh S ws (fun g=>F (eB l g)) f
 |[],F,vs,ws,h,hn,_,f=>by
  rw[Fg _ h hn f];show dh S ws (fun g=>1*F g) f=_;simp only[nR,eB]
 |p::l,F,vs,ws,h,hn,hx,f=>by
  have i:=h.nodup_iff.1 hn;rw[gw,gF] at i h;rw[nS] at i;have b:∀q∈l,q.1≠p.1:=fun q a e=>i.1 (bE.2 (yd (by rw[<- e];exact aN.2 ⟨q,a,rfl⟩)))
  have c:(fun g=>b9 (p::l) g*F g)=fun g=>mV p.1 p.2 g*(b9 l g*F g):=by
   funext g
   rw[b9,oM]
  rw[c,anQ (fun g=>b9 l g*F g) h hn (hx p dJ) f]
  have d:(fun g=>b9 l (aO g p.1 p.2)*F (aO g p.1 p.2))=fun g=>b9 l g*F (aO g p.1 p.2):=by
   funext g
   rw[Uv b]
  rw[d,Sm l (fun g=>F (aO g p.1 p.2)) (Q7 _) i.2 (fun q a=>hx q (dZ _ a)) f];congr 1
  funext g
  rw[show eB (p::l) g=eB l (aO g p.1 p.2) from rfl];congr 1
  exact(RR b g).symm
variable {As:Ja}
theorem aaQ {A:Nat ->Prop}:∀ {l:List (Nat×Nat)},(∀p∈l,A p.1) ->xB A (b9 l)
 |[],_=>fun _ _ _ _=>rfl
 |p::l,h=>fun v b g x=>by
  have n:∀q∈p::l,q.1≠v:=fun q a e=>b (e▸h q a);exact Uv n g
theorem atS (h0:aS V L R=0) (n:As.Nodup) (t:∀v∈As,v<C V) (i:p6 L (·∈As)) {G:(Nat ->Nat) ->Rat} (d:xB (·∈As) G):
  bG (fun k=>G (aX (ag V) (List.range (C V)) k)*wD V L R (aX (ag V) (List.range (C V)) k) (C V)) (cnt (ag V) (List.range (C V)))=dh (ag V) As (fun g=>G g*fE V L R g As) (fun _=>0):=by
 have D:=gY h0;have c:Pos (ag V):=by have:=D.fine.pos;rwa [jP] at this
 obtain⟨H,_⟩:=aeA h0 (C L) (Xx h0) (ah _)
 have p:(bj (aH L) (C L)).Perm (List.range (C V)):=by
  rw[<- D.len];refine adO (C L) _ H (fun x l=>?_) (Xx h0);have:=Ij (aH L) (C L) x l;rwa [j5] at this
 have z:Fit (ag V) (fun _:Nat=>0):=fun u=>lp c u;have e:=NA (S:=ag V) (fun g=>G g*wD V L R g (C V)) (List.range (C V)) (fun _=>0) qN;rw[gM (h:=fun k=>G (aX (ag V) (List.range (C V)) k)*wD V L R (aX (ag V) (List.range (C V)) k) (C V)) fun k _=>by rw[Sg]] at e
 have f:((bj (aH L) (C L)).filter fun v=>decide (v∈As)).Perm As:=by
  refine(EP (H.filter _) n).2 fun v=>?_;rw[dC,eP];refine⟨fun h=>h.2,fun h=>⟨p.mem_iff.2 (bS.2 (t v h)),h⟩⟩
 rw[e, <- Fg _ p H,wI (G:=fun g=>G g*fE V L R g (bj (aH L) (C L))) (fun g _=>by rw[RT,adD p]) _ _ z,aaV (b:=fun v=>decide (v∈As)) h0 (fun v a u j=>cJ (i v (mJ a) u j)) (C L) (Xx h0) (ah _) G (fun v a g x=>d v (fun h=>a (cJ h)) g x) _ z,Fg _ f (H.filter _)];refine wI (fun g _=>?_) _ _ z;rw[adD f]
theorem amp (h0:aS V L R=0) {l:List (Nat×Nat)} (n:As.Nodup) (t:∀v∈As,v<C V) (c:p6 L (·∈As)) (h:As.Perm (l.map (·.1)++ws)) (x:∀p∈l,p.2<sz (ag V) p.1):
  bG (fun k=>b9 l (aX (ag V) (List.range (C V)) k)*wD V L R (aX (ag V) (List.range (C V)) k) (C V)) (cnt (ag V) (List.range (C V)))=dh (ag V) ws (fun g=>fE V L R (eB l g) As) (fun _=>0):=by
 rw[atS h0 n t c (aaQ fun p a=>h.mem_iff.2 (bE.2 (yd (aN.2 ⟨p,a,rfl⟩))))];exact Sm l (fun g=>fE V L R g As) h n x _
def tU (vs:Ja) (F:(Nat ->Nat) ->Rat):Prop:=∀v∈vs,∀g x,F (aO g v x)=F g
theorem tU.mul {F G:(Nat ->Nat) ->Rat} (a:tU vs F) (b:tU vs G):tU vs (fun g=>F g*G g):=fun v h g x=>by
 show F (aO g v x)*G (aO g v x)=F g*G g;rw[a v h,b v h]
theorem aez {F G:(Nat ->Nat) ->Rat}:∀(vs:Ja) (f:Nat ->Nat),tU vs F ->dh S vs (fun g=>F g*G g) f=F f*dh S vs G f
 |[],_,_=>rfl
 |v::vs,f,hF=>by
  rw[dh,dh, <- xS];refine gM fun x _=>?_;rw[aez vs _ fun u h=>hF u (dZ _ h),hF v dJ]
theorem aeC {F:(Nat ->Nat) ->Rat} {x:Nat} (h:∀g x,F (aO g v x)=F g):∀(vs:Ja) (f:Nat ->Nat),dh S vs F (aO f v x)=dh S vs F f
 |[],f=>h f x
 |u::vs,f=>by
  rw[dh,dh];refine gM fun y _=>?_;by_cases e:u=v
  ·subst e;rw[Wd]
  ·rw[J9 f x y e,aeC h vs]
theorem aex {F G:(Nat ->Nat) ->Rat} (c:Ja):∀(b:Ja) (f:Nat ->Nat),tU c F ->tU b G ->dh S (b++c) (fun g=>F g*G g) f=dh S b F f*dh S c G f
 |[],f,hF,_=>aez c f hF
 |v::b,f,hF,hG=>by
  rw[gF,dh,dh,Hg, <- xS];refine gM fun x _=>?_;rw[aex c b _ hF fun u h=>hG u (dZ _ h),aeC (fun g y=>hG v dJ g y) c f,Hg]
theorem aaR (a b:List (Nat×Nat)) (g:Nat ->Nat):b9 (a++b) g=b9 a g*b9 b g:=by
 induction a with
 |nil=>show b9 b g=1*b9 b g;rw[nR]
 |cons p a ih=>rw[gF,b9,b9,ih,oM]
theorem ais {l:List (Nat×Nat)} (h:∀p∈l,¬p.1∈vs):tU vs (b9 l):=fun _ v g _=>Uv (fun p a e=>h p a (e▸v)) g
theorem adv {l:List (Nat×Nat)} {x:Nat} (h:∀p∈l,p.1≠v) (g:Nat ->Nat):eB l (aO g v x)=aO (eB l g) v x:=RR h g
theorem tU.put {F:(Nat ->Nat) ->Rat} (b:tU vs F) {l:List (Nat×Nat)} (h:∀p∈l,¬p.1∈vs):tU vs (fun g=>F (eB l g)):=fun v a g x=>by
 show F (eB l (aO g v x))=F (eB l g);rw[adv (fun p c e=>h p c (e▸a)),b v a]
variable {Ba X Y B7:Nat ->Prop}
def eI (L:List Kx) (Ba:Nat ->Prop) (v:Nat):Prop:=∀Bb:Nat ->Prop,(∀v,Ba v ->Bb v) ->(∀v w,Bb w ->v∈af (L.getD w []) ->Bb v) ->Bb v
theorem eI.base (h:Ba v):eI L Ba v:=fun _ a _=>a _ h
theorem eI.step {w:Nat} (h:eI L Ba w) (p:v∈af (L.getD w [])):eI L Ba v:=fun Bb b a=>a _ _ (h Bb b a) p
theorem eI.ind {Bb:∀v,eI L Ba v ->Prop} (base:∀ {v:Nat} (h:Ba v),Bb v (.base h)) (step:∀ {v w:Nat} (h:eI L Ba w) (p:v∈af (L.getD w [])),Bb w h ->Bb v (h.step p)):∀ {v:Nat} (h:eI L Ba v),Bb v h:=fun {_} h=>by
 obtain⟨_,k⟩:=h (fun v=>∃h,Bb v h) (fun _ h=>⟨_,base h⟩) (fun _ _ ⟨_,i⟩ p=>⟨_,step _ p i⟩);exact k
structure Ha (L:List Kx) (n:Nat) (X Y B7:Nat ->Prop) (r:Nat ->Bool ->Prop):Prop where
 start:∀x,X x ->r x y6
 up:∀v,r v y6 ->¬B7 v ->∀p∈af (L.getD v []),r p y6
 down:∀v c,r v c ->¬B7 v ->∀w,w< n ->v∈af (L.getD w []) ->r w xd
 meet:∀v,r v xd ->eI L B7 v ->∀p∈af (L.getD v []),r p y6
 none:∀y c,Y y ->¬r y c
theorem eI.lt (b:∀v,Ba v ->v<n) (a:∀w,w< n ->∀v∈af (L.getD w []),v<n) (h:eI L Ba v):v<n:=by
 induction h using eI.ind with
 |base h1=>exact b _ h1
 |step _ h2 ih=>exact a _ ih _ h2
theorem Ha.above {r:Nat ->Bool ->Prop} (h:Ha L n X Y B7 r) (a:eI L X v) (z:¬eI L B7 v):r v true:=by
 induction a using eI.ind with
 |base h1=>exact h.start _ h1
 |step h1 h2 ih=>
  have w:¬eI L B7 _:=fun m=>z (.step m h2);exact h.up _ (ih w) (fun m=>w (.base m)) _ h2
theorem Ha.aa {r:Nat ->Bool ->Prop} (h:Ha L n X Y B7 r) (d:∀y,Y y ->y<n) (b:∀w,w< n ->∀v∈af (L.getD w []),v<n) (e:eI L Y v):∀c,r v c ->¬eI L B7 v ->False:=by
 induction e using eI.ind with
 |base h1=>exact fun c a _=>h.none _ c h1 a
 |step h1 h2 ih=>
  intro c a z;have f:¬eI L B7 _:=fun m=>z (.step m h2);exact ih xd (h.down _ c a (fun m=>z (.base m)) _ (h1.lt d b) h2) f
theorem Ha.parents {r:Nat ->Bool ->Prop} (h:Ha L n X Y B7 r) (e:∀y,Y y ->y<n) (d:∀w,w< n ->∀v∈af (L.getD w []),v<n) (f:eI L (fun u=>X u∨Y u∨B7 u) v) {c:Bool} (b:r v c) (z:¬B7 v):∀p∈af (L.getD v []),r p true:=by
 cases c with
 |true=>exact h.up v b z
 |false=>
  by_cases m:eI L B7 v
  ·exact h.meet v b m
  ·have l:eI L X v∨eI L Y v:=by
    have k:∀ {u:Nat},eI L (fun u=>X u∨Y u∨B7 u) u ->eI L X u∨eI L Y u∨eI L B7 u:=by
     intro u g;induction g using eI.ind with
     |base a=>
      rcases a with a |a |a
      ·exact yd (.base a)
      ·exact yk (yd (.base a))
      ·exact yk (yk (.base a))
     |step _ h2 i=>
      rcases i with i |i |i
      ·exact yd (.step i h2)
      ·exact yk (yd (.step i h2))
      ·exact yk (yk (.step i h2))
    rcases k f with a |a |a
    ·exact yd a
    ·exact yk a
    ·exact absurd a m
   rcases l with x |j
   ·exact h.up v (h.above x m) z
   ·exact(h.aa e d j xd b m).elim
def iI (L:List Kx) (n:Nat) (X B7:Nat ->Prop) (v:Nat) (c:Bool):Prop:=∀Bb:Nat ->Bool ->Prop,(∀x,X x ->Bb x y6) ->(∀v p,Bb v y6 ->¬B7 v ->p∈af (L.getD v []) ->Bb p y6) ->(∀v w c,Bb v c ->¬B7 v ->w< n ->v∈af (L.getD w []) ->Bb w xd) ->(∀v p,Bb v xd ->eI L B7 v ->p∈af (L.getD v []) ->Bb p y6) ->Bb v c
theorem iI.start {x:Nat} (h:X x):iI L n X B7 x true:=fun _ a _ _ _=>a _ h
theorem iI.up {p:Nat} (h:iI L n X B7 v y6) (z:¬B7 v) (e:p∈af (L.getD v [])):iI L n X B7 p true:=fun Bb b a c d=>a _ _ (h Bb b a c d) z e
theorem iI.down {w:Nat} {c:Bool} (h:iI L n X B7 v c) (z:¬B7 v) (f:w<n) (p:v∈af (L.getD w [])):iI L n X B7 w false:=fun Bb b d a e=>a _ _ _ (h Bb b d a e) z f p
theorem iI.meet {p:Nat} (h:iI L n X B7 v xd) (e:eI L B7 v) (f:p∈af (L.getD v [])):iI L n X B7 p true:=fun Bb b c d a=>a _ _ (h Bb b c d a) e f
theorem iI.ind {Bb:∀v c,iI L n X B7 v c ->Prop} (start:∀ {x:Nat} (h:X x),Bb x y6 (.start h)) (up:∀ {v p:Nat} (h:iI L n X B7 v y6) (z:¬B7 v) (a:p∈af (L.getD v [])),Bb v y6 h ->Bb p y6 (h.up z a)) (down:∀ {v w:Nat} {c:Bool} (h:iI L n X B7 v c) (z:¬B7 v) (d:w<n) (a:v∈af (L.getD w [])),Bb v c h ->Bb w xd (h.down z d a)) (meet:∀ {v p:Nat} (h:iI L n X B7 v xd) (b:eI L B7 v) (a:p∈af (L.getD v [])),Bb v xd h ->Bb p y6 (h.meet b a)):∀ {v:Nat} {c:Bool} (h:iI L n X B7 v c),Bb v c h:=fun {_ _} h=>by
 obtain⟨_,k⟩:=h (fun v c=>∃h,Bb v c h) (fun _ h=>⟨_,start h⟩) (fun _ _ ⟨_,i⟩ z a=>⟨_,up _ z a i⟩) (fun _ _ _ ⟨_,i⟩ z d a=>⟨_,down _ z d a i⟩) (fun _ _ ⟨_,i⟩ b a=>⟨_,meet _ b a i⟩);exact k
def xw (L:List Kx) (n:Nat) (X Y B7:Nat ->Prop):Prop:=∃y c,Y y/\iI L n X B7 y c
theorem iI.ball (h:¬xw L n X Y B7):Ha L n X Y B7 (iI L n X B7):=
 ⟨fun _ x=>.start x,fun _ r z _ p=>.up r z p,fun _ _ r z _ w p=>.down r z w p,fun _ r m _ p=>.meet r m p,fun y c a r=>h ⟨y,c,a,r⟩⟩
theorem iI.lt (b:∀v,X v ->v<n) (a:∀w,w< n ->∀v∈af (L.getD w []),v<n) {c:Bool} (h:iI L n X B7 v c):v<n:=by
 induction h using iI.ind with
 |start hx=>exact b _ hx
 |up _ _ hp ih=>exact a _ ih _ hp
 |down _ _ hw _ _=>exact hw
 |meet _ _ hp ih=>exact a _ ih _ hp
theorem iI.back (d:∀v,X v ->v<n) (b:∀w,w< n ->∀v∈af (L.getD w []),v<n) {c:Bool} (h:iI L n X B7 v c):
  ∀s,iI L n Y B7 v s ->(c=y6 ->¬B7 v) ->(c=xd ->(s=y6/\¬B7 v)∨(s=xd/\eI L B7 v)) ->xw L n Y X B7:=by
 induction h using iI.ind with
 |start hx=>exact fun s hs _ _=>⟨_,s,hx,hs⟩
 |up hr hz hp ih=>
  intro s hs a _;exact ih xd (.down hs (a rfl) (hr.lt d b) hp) (fun _=>hz) (fun e=>by cases e)
 | @down v w c hr hz hw hp ih=>
  intro s hs _ g
  have f:iI L n Y B7 v true:=by
   rcases g rfl with ⟨rfl,z⟩ |⟨rfl,m⟩
   ·exact .up hs z hp
   ·exact .meet hs m hp
  exact ih y6 f (fun _=>hz) (fun _=>yd ⟨rfl,hz⟩)
 |meet hr m hp ih=>
  intro s hs a _;exact ih xd (.down hs (a rfl) (hr.lt d b) hp) (fun e=>by cases e) (fun _=>yk ⟨rfl,m⟩)
theorem xw.sym (d:∀v,X v ->v<n) (b:∀w,w< n ->∀v∈af (L.getD w []),v<n) (D:∀v,Y v ->¬B7 v) (h:xw L n X Y B7):xw L n Y X B7:=by
 obtain⟨y,c,a,r⟩:=h;exact r.back d b y6 (.start a) (fun _=>D y a) (fun _=>yd ⟨rfl,D y a⟩)
theorem abY (f:Nat ->Nat) (v:Nat):aO f v (f v)=f:=by
 funext u;rw[aO];by_cases h:u=v
 ·rw[aw h,h]
 ·rw[aC h]
theorem MX (f:Nat ->Nat) (v x:Nat):aO f v x v=x:=by rw[aO,aw rfl]
theorem J8 (f:Nat ->Nat) {u:Nat} (x:Nat) (h:u≠v):aO f v x u=f u:=by rw[aO,aC h]
theorem RY (p:Pos S):∀ {vs:Ja} {k:Nat},vs.Nodup ->k<cnt S vs ->pos S (aX S vs k) vs=k
 |[],k,_,h=>by
  have:k<1:=h;rw[show k=0 from by omega];rfl
 |u::vs,k,hn,h=>by
  rw[nS] at hn;have c:0<cnt S vs:=VL (aV _) (qQ (S:=S) (fun _=>0) (fun u=>lp p u) vs)
  have e:pos S (aX S (u::vs) k) vs=pos S (aX S vs (k % cnt S vs)) vs:=A8 S fun v a=>by
   rw[aX,aC];exact fun e=>hn.1 (e▸a)
  rw[adJ,e,RY p hn.2 (jc _ c),aX,aw rfl,eQ];exact QT _ _
theorem X4 (h0:aS V L R=0) (c:v<C V) (e:Fit (ag V) f):0<=a8 (fP V L R f v):=by
 have D:=gY h0;have g:v<C L:=by rw[D.len];exact c
 have d:v<C R:=by rw[D.lenR];exact c
 have j:=D.rows v g d;have p:=qQ f e (af L[v])
 have o:jf (gg R[v] (sz (ag V) v) (pos (ag V) f (af L[v])))=true:=by
  have b:j9 (ju (ag V) L R) (C V)=0:=by
   rw[aS] at h0;by_cases b:C L=C V/\R.length=C V
   ·rw[aw b] at h0;by_cases h:bq L=0
    ·rw[aw h] at h0;by_cases a:lT V=0
     ·rwa [aw a] at h0
     ·rw[aC a] at h0;exact absurd h0 a
    ·rw[aC h] at h0;exact absurd h0 h
   ·rw[aC b] at h0;exact absurd h0 a6
  have h:=DY b v c;rw[ju,cF,a7 d,cF,a7 g] at h;simp only[CH] at h;rw[aw j] at h;by_cases a:((List.range (cnt (ag V) (af L[v]))).all fun i=>jf (gg R[v] (sz (ag V) v) i))=y6
  ·rw[fM] at a;exact a _ (bS.2 p)
  ·rw[aC a] at h;exact absurd h a6
 rw[jf,iu,fM] at o;have u:(pos (ag V) f (af L[v])+1)*sz (ag V) v<=R[v].length:=by rw[j];exact lR _ p
 have k:(pos (ag V) f (af L[v])+1)*sz (ag V) v=pos (ag V) f (af L[v])*sz (ag V) v+sz (ag V) v:=by rw[iC,k8]
 have q:C (gg R[v] (sz (ag V) v) (pos (ag V) f (af L[v])))=sz (ag V) v:=by
  rw[gg,fh,p8];omega
 have Bb:=e v;have m:=o.1 _ (bU (l:=gg R[v] (sz (ag V) v) (pos (ag V) f (af L[v]))) (n:=f v) al);rw[SG g d,sY,mr al];have:=Rat.not_lt.1 (mJ m);simpa only[gg,xO,List.getElem_drop] using this
def Lj (l:List (Nat×Nat)) (g:Nat ->Nat):Bool:=l.all fun p=>g p.1==p.2
theorem Zs:∀(l:List (Nat×Nat)) (g:Nat ->Nat),b9 l g=if Lj l g then 1 else 0
 |[],_=>rfl
 |p::l,g=>by
  rw[b9,Zs l g,mV,Lj,Lj,List.all_cons];by_cases h:g p.1=p.2
  ·rw[aw h,nR,xL.2 h,Hs]
  ·rw[aC h,CG,Hd.2 h,Bool.false_and];rfl
theorem Xe {u:Nat}:∀ {l:List (Nat×Nat)},¬u∈l.map (·.1) ->∀g,eB l g u=g u
 |[],_,_=>rfl
 |p::l,h,g=>by
  rw[gw,bY,not_or] at h;rw[eB,Xe h.2,J8 g _ h.1]
theorem adw {p:Nat×Nat}:∀ {l:List (Nat×Nat)},(l.map (·.1)).Nodup ->p∈l ->∀g,eB l g p.1=p.2
 |q::l,hn,h,g=>by
  rw[gw,nS] at hn;rcases bY.1 h with rfl |h
  ·rw[eB,Xe hn.1,MX]
  ·exact adw hn.2 h _
abbrev Tb:=Kx×List Fr
def tN (t:Tb):Ja×List Fr:=(af t.1,t.2)
structure dG (S:Ja) (n:Nat) (t:Tb):Prop where
 up:Up t.1 n
 len:t.2.length=cnt S (af t.1)
def uX (S:Ja) (a t:Tb):Tb:=(aU a.1 t.1,xU S (af a.1) (af t.1) (af (aU a.1 t.1)) a.2 t.2)
def Fe:Tb:=([],[qF 1])
def allT (S:Ja) (P:List Tb):Tb:=P.foldl (uX S) Fe
def outT (S:Ja) (v:Nat) (most:Bool) (t:Tb):Tb:=(cH t.1 v,wH S (af t.1) (af (cH t.1 (v:Int))) v most t.2)
def eZ (S:Ja) (v x:Nat) (t:Tb):Tb:=(cH t.1 v,xe S (af t.1) (af (cH t.1 (v:Int))) v x t.2)
theorem E3 {a b:Kx}:∀u,u∈af (aU a b)↔u∈af a∨u∈af b:=fun u=>by
 obtain⟨_,h⟩:=C1 a b;simp only[af,aN];constructor
 ·rintro⟨x,c,e⟩;rcases (h x).1 c with h |h
  ·exact yd ⟨x,h,e⟩
  ·exact yk ⟨x,h,e⟩
 ·rintro(⟨x,c,e⟩ |⟨x,c,e⟩)
  ·exact⟨x,(h x).2 (yd c),e⟩
  ·exact⟨x,(h x).2 (yk c),e⟩
theorem x4 {a:Kx} (h:Up a n):∀u,u∈af (cH a (v:Int))↔u∈af a/\u≠v:=fun u=>by
 constructor
 ·intro b;refine⟨?_,fun e=>X6 h (e▸b)⟩;obtain⟨x,c,e⟩:=aN.1 b;exact aN.2 ⟨x,(dC.1 c).1,e⟩
 ·rintro⟨b,d⟩;rcases NT h v u b with rfl |h
  ·exact absurd rfl d
  ·exact h
theorem dG.mul {a t:Tb} (h:dG S n a) (b:dG S n t):dG S n (uX S a t):=⟨Hy h.up b.up,adE ..⟩
theorem dG.one (S:Ja) (n:Nat):dG S n Fe:=⟨eH.2 ⟨fun _ h=>absurd h gK,List.Pairwise.nil⟩,rfl⟩
theorem dG.o {t:Tb} (h:dG S n t) (v:Nat) (m:Bool):dG S n (outT S v m t):=⟨sZ h.up _,aeb ..⟩
theorem dG.fix {t:Tb} (h:dG S n t) (v x:Nat):dG S n (eZ S v x t):=⟨sZ h.up _,ahf ..⟩
theorem aeP {a t:Tb} (p:Pos S) (b:dG S n a) (d:dG S n t) (c:Fit S f):tQ S (tN (uX S a t)) f=tQ S (tN a) f*tQ S (tN t) f:=
 akl p (Hy b.up d.up).nodup (fun u h=>(E3 u).2 (yd h)) (fun u h=>(E3 u).2 (yk h)) _ _ c
theorem ahb (p:Pos S):∀ {P:List Tb} {a:Tb},dG S n a ->(∀t∈P,dG S n t) ->dG S n (P.foldl (uX S) a)/\(∀u,u∈af (P.foldl (uX S) a).1↔u∈af a.1∨∃t∈P,u∈af t.1)/\∀f,Fit S f ->tQ S (tN (P.foldl (uX S) a)) f=tQ S (tN a) f*pQ S f (P.map tN)
 |[],a,ha,_=>⟨ha,fun u=>⟨yd,fun h=>h.elim id fun ⟨_,b,_⟩=>absurd b gK⟩,fun f _=>by rw[oQ,pQ,lN];rfl⟩
 |t::P,a,ha,h=>by
  have b:=h t dJ;obtain⟨e,g,i⟩:=ahb p (ha.mul b) (fun s hs=>h s (dZ _ hs)) (P:=P);refine⟨e,fun u=>?_,fun f c=>?_⟩
  ·rw[tY,g u];show u∈af (aU a.1 t.1)∨_↔_;rw[E3,or_assoc];refine or_congr Iff.rfl ⟨?_,?_⟩
   ·rintro(h |⟨s,hs,h⟩)
    ·exact⟨t,dJ,h⟩
    ·exact⟨s,dZ _ hs,h⟩
   ·rintro⟨s,hs,d⟩;rcases bY.1 hs with rfl |hs
    ·exact yd d
    ·exact yk ⟨s,hs,d⟩
  ·rw[tY,i f c,aeP p ha b c,gw,pQ,oM]
theorem Gk (p:Pos S) {P:List Tb} (h:∀t∈P,dG S n t):dG S n (allT S P)/\(∀u,u∈af (allT S P).1↔∃t∈P,u∈af t.1)/\∀f,Fit S f ->tQ S (tN (allT S P)) f=pQ S f (P.map tN):=by
 obtain⟨a,b,c⟩:=ahb p (dG.one S n) h;refine⟨a,fun u=>(b u).trans ⟨fun h=>h.elim (fun h=>absurd h gK) id,yk⟩,fun f d=>?_⟩;rw[allT,c f d];have:tQ S (tN Fe) f=1:=jC 1;rw[this,nR]
def rP (S:Ja) (v:Nat) (most:Bool) (P:List Tb):List Tb:=(P.filter fun t=>!decide (v∈af t.1))++[outT S v most (allT S (P.filter fun t=>decide (v∈af t.1)))]
structure PI (S:Ja) (n:Nat) (free:Ja) (P:List Tb) (F:(Nat ->Nat) ->Rat):Prop where
 ok:∀t∈P,dG S n t
 sub:∀t∈P,∀u∈af t.1,u∈free
 sup:∀u∈free,∃t∈P,u∈af t.1
 val:∀g,Fit S g ->pQ S g (P.map tN)=F g
theorem PI.parts {f:Ja} {P:List Tb} {F:(Nat ->Nat) ->Rat} (p:Pos S) (h:PI S n f P F) (v:Nat) (m:Bool):
  (∀t∈rP S v m P,dG S n t)/\(∀t∈rP S v m P,∀u∈af t.1,u∈f.filter fun u=>!(u==v))/\∀u∈f.filter (fun u=>!(u==v)),∃t∈rP S v m P,u∈af t.1:=by
 obtain⟨g,i,_⟩:=Gk p (P:=P.filter fun t=>decide (v∈af t.1)) (n:=n) fun t a=>h.ok t (dC.1 a).1;have j:∀u,u∈f.filter (fun u=>!(u==v))↔u∈f/\u≠v:=fun u=>by simp[dC]
 have r:=x4 (v:=v) g.up;refine⟨fun t a=>?_,fun t a u b=>?_,fun u b=>?_⟩
 ·rcases bE.1 a with a |a
  ·exact h.ok t (dC.1 a).1
  ·rw[bA.1 a];exact g.o v m
 ·rw[j];rcases bE.1 a with a |a
  ·obtain⟨a,c⟩:=dC.1 a;exact⟨h.sub t a u b,fun e=>by simp[<- e,b] at c⟩
  ·rw[bA.1 a] at b;obtain⟨b,d⟩:=(r u).1 b;obtain⟨s,hs,b⟩:=(i u).1 b;exact⟨h.sub s (dC.1 hs).1 u b,d⟩
 ·obtain⟨b,d⟩:=(j u).1 b;obtain⟨t,a,q⟩:=h.sup u b;by_cases c:v∈af t.1
  ·exact⟨_,bE.2 (yk (bA.2 rfl)),(r u).2 ⟨(i u).2 ⟨t,dC.2 ⟨a,cJ c⟩,q⟩,d⟩⟩
  ·exact⟨t,bE.2 (yd (dC.2 ⟨a,by simp[c]⟩)),q⟩
theorem PI.o {j:Ja} {P:List Tb} {F:(Nat ->Nat) ->Rat} (p:Pos S) (h:PI S n j P F) (v:Nat):
  PI S n (j.filter fun u=>!(u==v)) (rP S v xd P) (fun g=>bG (fun x=>F (aO g v x)) (sz S v)):=by
 obtain⟨a,b,c⟩:=h.parts p v xd;obtain⟨e,z,o⟩:=Gk p (P:=P.filter fun t=>decide (v∈af t.1)) (n:=n) fun t s=>h.ok t (dC.1 s).1;refine⟨a,b,c,fun g i=>?_⟩;have l:(P.map tN).filter (fun t=>!decide (v∈t.1))=(P.filter fun t=>!decide (v∈af t.1)).map tN:=by rw[List.filter_map];rfl
 have m:(P.map tN).filter (fun t=>decide (v∈t.1))=(P.filter fun t=>decide (v∈af t.1)).map tN:=by rw[List.filter_map];rfl
 have y:=am1 (S:=S) (f:=g) (v:=v) (P:=P.map tN) (q:=tN (allT S (P.filter fun t=>decide (v∈af t.1)))) (r:=tN (outT S v xd (allT S (P.filter fun t=>decide (v∈af t.1))))) (fun k d=>by rw[m];exact o k d) (fun k d=>WA p (sZ e.up _).nodup (NT e.up v) _ d) i;rw[l] at y;rw[rP,gV,List.map_singleton,y];exact gM fun x w=>h.val _ (i.with w)
theorem PI.fix {e:Ja} {P:List Tb} {F:(Nat ->Nat) ->Rat} (p:Pos S) (h:PI S n e P F) {x:Nat} (j:x<sz S v):
  PI S n (e.filter fun u=>!(u==v)) (P.map (eZ S v x)) (fun g=>F (aO g v x)):=by
 have f:∀u,u∈e.filter (fun u=>!(u==v))↔u∈e/\u≠v:=fun u=>by simp[dC]
 refine⟨fun t b=>?_,fun t b u a=>?_,fun u a=>?_,fun g i=>?_⟩
 ·obtain⟨s,hs,rfl⟩:=aN.1 b;exact(h.ok s hs).fix v x
 ·obtain⟨s,hs,rfl⟩:=aN.1 b;obtain⟨a,d⟩:=(x4 (h.ok s hs).up u).1 a;exact(f u).2 ⟨h.sub s hs u a,d⟩
 ·obtain⟨a,d⟩:=(f u).1 a;obtain⟨t,b,o⟩:=h.sup u a;exact⟨_,aN.2 ⟨t,b,rfl⟩,(x4 (h.ok t b).up u).2 ⟨o,d⟩⟩
 ·rw[<- h.val _ (i.with j)]
  have:∀ {Q:List Tb},(∀t∈Q,dG S n t) ->pQ S g ((Q.map (eZ S v x)).map tN)=pQ S (aO g v x) (Q.map tN):=fun {Q}=>by
   induction Q with
   |nil=>intro _;rfl
   |cons t Q ih=>
    intro c;rw[gw,gw,gw,pQ,pQ,ih fun s hs=>c s (dZ _ hs)];congr 1
    exact Rw p (sZ (c t dJ).up _).nodup (NT (c t dJ).up v) _ i
  exact this h.ok
def sj (S:Ja):List (Nat×Nat) ->List Tb ->List Tb
 |[],P=>P
 |p::l,P=>sj S l (P.map (eZ S p.1 p.2))
def l5 (free:Ja):List (Nat×Nat) ->Ja
 |[]=>free
 |p::l=>l5 (free.filter fun u=>!(u==p.1)) l
theorem SI {u:Nat}:∀ {l:List (Nat×Nat)} {e:Ja},u∈l5 e l↔u∈e/\¬u∈l.map (·.1)
 |[],e=>⟨fun h=>⟨h,gK⟩,fun h=>h.1⟩
 |p::l,e=>by
  rw[l5,SI,gw,bY,not_or,dC,and_assoc];refine and_congr Iff.rfl (and_congr ?_ Iff.rfl);simp
theorem X8:∀ {l:List (Nat×Nat)} {e:Ja},e.Nodup ->(l5 e l).Nodup
 |[],_,h=>h
 |p::l,e,h=>by rw[l5];exact X8 (h.filter _)
theorem PI.fixes (b:Pos S):∀ {l:List (Nat×Nat)} {f:Ja} {P:List Tb} {F:(Nat ->Nat) ->Rat},(l.map (·.1)).Nodup ->(∀p∈l,p.2<sz S p.1) ->PI S n f P F ->PI S n (l5 f l) (sj S l P) (fun g=>F (eB l g))
 |[],_,_,_,_,_,h=>h
 |p::l,f,P,F,hn,hx,h=>by
  rw[gw,nS] at hn;have d:∀q∈l,q.1≠p.1:=fun q a e=>hn.1 (by rw[<- e];exact aN.2 ⟨q,a,rfl⟩);have:=PI.fixes b hn.2 (fun q a=>hx q (dZ _ a)) (h.fix b (hx p dJ));refine⟨this.ok,this.sub,this.sup,fun g c=>?_⟩;rw[sj,this.val g c];show F (aO (eB l g) p.1 p.2)=F (eB l (aO g p.1 p.2));rw[RR d]
def nY (S:Ja) (most:Bool) (keep:Nat ->Bool):Ja ->List Tb ->List Tb
 |[],P=>P
 |v::vs,P=>nY S most keep vs (if keep v then P else rP S v most P)
theorem am7 {e:Ja} {u:Nat}:u∈e.filter (fun u=>!(u==v))↔u∈e/\u≠v:=by simp[dC]
theorem PI.outs (p:Pos S) (k:Nat ->Bool):∀(vs:Ja) {r:Ja} {P:List Tb} {F:(Nat ->Nat) ->Rat},PI S n r P F ->∃f,(∀u,u∈f↔u∈r/\(u∈vs ->k u=y6))/\PI S n f (nY S xd k vs P) (LD S (vs.filter fun v=>!k v) F)
 |[],r,P,F,h=>⟨r,fun u=>⟨fun h=>⟨h,fun e=>absurd e gK⟩,fun h=>h.1⟩,h⟩
 |v::vs,r,P,F,h=>by
  cases hk:k v with
  |true=>
   obtain⟨f,b,c⟩:=PI.outs p k vs h;refine⟨f,fun u=>(b u).trans (and_congr Iff.rfl ⟨fun h a=>?_,fun h a=>h (dZ _ a)⟩),?_⟩
   ·rcases bY.1 a with rfl |a
    ·exact hk
    ·exact h a
   ·rw[nY,aw hk,CQ (by simp[hk])];exact c
  |false=>
   obtain⟨f,b,c⟩:=PI.outs p k vs (h.o p v);refine⟨f,fun u=>(b u).trans ?_,?_⟩
   ·rw[am7,and_assoc];refine and_congr Iff.rfl ⟨fun h a=>?_,fun h=>⟨fun e=>?_,fun a=>h (dZ _ a)⟩⟩
    ·rcases bY.1 a with e |a
     ·exact absurd e h.1
     ·exact h.2 a
    ·have:=h (by rw[e];exact dJ);rw[e,hk] at this;exact absurd this a6
   ·rw[nY,aC (by simp[hk]),CP (by simp[hk])];exact c
def Low (l:List Fr):Prop:=∀f∈l,f=qF (a8 f)
theorem aiA (S:Ja) (P:List Tb):Low (allT S P).2:=by
 have:∀(P:List Tb) (a:Tb),Low a.2 ->Low (P.foldl (uX S) a).2:=fun P=>by
  induction P with
  |nil=>exact fun _ h=>h
  |cons t P ih=>
   intro a _;refine ih _ fun f b=>?_;obtain⟨K,_,rfl⟩:=aN.1 b;rw[jC]
 exact this P Fe fun f b=>by rw[bA.1 b,jC]
theorem Wy (p:Pos S) {t:Tb} (a:dG S n t) (l:Low t.2):t.2=(List.range (cnt S (af t.1))).map fun K=>qF (tQ S (tN t) (aX S (af t.1) K)):=by
 refine ld (by rw[a.len];simp) fun K h c=>?_;have b:K<cnt S (af t.1):=by rw[<- a.len];exact h
 have e:tQ S (tN t) (aX S (af t.1) K)=a8 (aQ t.2 (pos S (aX S (af t.1) K) (af t.1))):=rfl;rw[mN,Hq,e,RY p a.up.nodup b,mr h];exact l _ (bU h)
theorem PI.net (h0:aS V L R=0) (l:∀v∈ws,v<C V) (f:p6 L (·∈ws)):PI (ag V) (C V) ws (ws.map fun v=>(gU L v,gL V L R v)) (fun g=>fE V L R g ws):=by
 have D:=gY h0
 have e:∀v,v<C V ->Up (gU L v) (C V):=fun v a=>by
  have d:v<C L:=by rw[D.len];exact a
  have P:L.getD v []=L[v]:=by rw[cF,a7 d];rfl
  rw[gU,P];exact Hy (D.up v d) (Wi a)
 have i:∀v u,u∈af (gU L v)↔u∈af (L.getD v [])∨u=v:=fun v u=>by
  rw[gU,E3];refine or_congr Iff.rfl ?_;simp[af]
 refine⟨fun t c=>?_,fun t c u b=>?_,fun u b=>?_,fun g j=>?_⟩
 ·obtain⟨v,a,rfl⟩:=aN.1 c;exact⟨e v (l v a),by simp[gL]⟩
 ·obtain⟨v,a,rfl⟩:=aN.1 c;rcases (i v u).1 b with h |rfl
  ·exact f v a u h
  ·exact a
 ·exact⟨_,aN.2 ⟨u,b,rfl⟩,(i u u).2 (yk rfl)⟩
 ·have:∀ {vs:Ja},(∀v∈vs,v<C V) ->pQ (ag V) g ((vs.map fun v=>((gU L v,gL V L R v):Tb)).map tN)=fE V L R g vs:=fun {vs}=>by
   induction vs with
   |nil=>intro _;rfl
   |cons v vs ih=>
    intro h;rw[gw,gw,pQ,fE,ih fun u b=>h u (dZ _ b)];congr 1
    exact acg h0 (h v dJ) j
  exact this l
theorem aey:∀(l:List (Nat×Nat)) (F:(Nat ->Nat) ->Rat) (f:Nat ->Nat),(∀p∈l,¬p.1∈ws) ->dh S ws F (eB l f)=dh S ws (fun g=>F (eB l g)) f
 |[],_,_,_=>rfl
 |p::l,F,f,h=>by
  rw[eB,aey l F _ fun q a=>h q (dZ _ a),XH _ ws f (h p dJ)];rfl
theorem ait:∀(a b:List (Nat×Nat)) (g:Nat ->Nat),b9 (a++b) g=b9 a g*b9 b g
 |[],b,g=>by rw[gS,b9,nR]
 |p::a,b,g=>by rw[gF,b9,b9,ait a b g,oM]
theorem adx:∀(a b:List (Nat×Nat)) (g:Nat ->Nat),eB (a++b) g=eB b (eB a g)
 |[],_,_=>rfl
 |p::a,b,g=>by rw[gF,eB,adx a b];rfl
def qV (S q:Ja) (K:Nat):List (Nat×Nat):=q.map fun v=>(v,aX S q K v)
theorem C5 (S q:Ja) (K:Nat):(qV S q K).map (·.1)=q:=by
 rw[qV,zr];exact List.map_id' q
theorem amj {q:Ja} (n:q.Nodup) (K:Nat):eB (qV S q K) (fun _=>0)=aX S q K:=funext fun u=>by
 by_cases h:u∈q
 ·exact adw (p:=(u,aX S q K u)) ((C5 S q K).symm▸n) (aN.2 ⟨u,h,rfl⟩) _
 ·rw[Xe (by rw[C5];exact h),LX h]
theorem amk {q:Ja} (b:Pos S) (n:q.Nodup) {K:Nat} (c:K<cnt S q) {g:Nat ->Nat} (d:Fit S g):Lj (qV S q K) g=decide (pos S g q=K):=by
 rw[wm,eP,Lj,fM];constructor
 ·intro h;rw[<- RY b n c];refine A8 S fun u a=>?_;exact eq_of_beq (h (u,aX S q K u) (aN.2 ⟨u,a,rfl⟩))
 ·rintro rfl p m;obtain⟨u,a,rfl⟩:=aN.1 m;exact xL.2 (B4 b d n u a).symm
theorem ape (h0:aS V L R=0) {q:Ja} {l:List (Nat×Nat)} (n:ws.Nodup) (w:∀v∈ws,v<C V) (r:p6 L (·∈ws)) (s:(l.map (·.1)).Nodup) (F:∀p∈l,p.1∈ws) (x:∀p∈l,p.2<sz (ag V) p.1) (m:q.Nodup) (D:∀v∈q,v∈ws/\¬v∈l.map (·.1)) {K:Nat} (o:K<cnt (ag V) q):
  LD (ag V) ((l5 ws l).filter fun v=>!q.contains v) (fun g=>fE V L R (eB l g) ws) (aX (ag V) q K)=bG (fun k=>b9 (qV (ag V) q K++l) (aX (ag V) (List.range (C V)) k)*wD V L R (aX (ag V) (List.range (C V)) k) (C V)) (cnt (ag V) (List.range (C V))):=by
 have H:Pos (ag V):=by have:=(gY h0).fine.pos;rwa [jP] at this
 have Y:∀u,u∈(l5 ws l).filter (fun v=>!q.contains v)↔(u∈ws/\¬u∈l.map (·.1))/\¬u∈q:=fun u=>by
  rw[dC,SI,Bool.not_eq_true', <- Bool.not_eq_true,CR]
 have S:((l5 ws l).filter fun v=>!q.contains v).Nodup:=(X8 n).filter _
 have y:ws.Perm ((qV (ag V) q K++l).map (·.1)++(l5 ws l).filter fun v=>!q.contains v):=by
  rw[gV,C5];refine(EP n ?_).2 fun u=>?_
  ·refine nT.2 ⟨nT.2 ⟨m,s,fun a d b j e=>(D a d).2 (e▸j)⟩,S,fun a d b j e=>?_⟩;obtain⟨⟨_,f⟩,i⟩:=(Y b).1 j;rcases bE.1 d with d |d
   ·exact i (e▸d)
   ·exact f (e▸d)
  ·rw[bE,bE,Y];constructor
   ·intro h;by_cases f:u∈q
    ·exact yd (yd f)
    ·by_cases i:u∈l.map (·.1)
     ·exact yd (yk i)
     ·exact yk ⟨⟨h,i⟩,f⟩
   ·rintro((h |h) |h)
    ·exact(D u h).1
    ·obtain⟨p,c,rfl⟩:=aN.1 h;exact F p c
    ·exact h.1.1
 rw[amp h0 n w r y (fun p c=>by
  rcases bE.1 c with c |c
  ·obtain⟨u,_,rfl⟩:=aN.1 c;exact sD H q K u o
  ·exact x p c),ar0 (Q7 _) S, <- amj m K,aey _ _ _ fun p c=>?_]
 ·simp only[adx]
 ·obtain⟨u,t,rfl⟩:=aN.1 c;exact fun h=>((Y u).1 h).2 t
theorem WE {g:Nat ->Rat}:∀ {n:Nat},(∀x,x< n ->g x<=h x) ->bG g n<=bG h n
 |0,_=>MF
 |n+1,e=>by
  rw[bG,bG];exact ME (Rat.add_le_add_right.2 (WE fun x a=>e x al)) (Rat.add_le_add_left.2 (e n (Nat.lt_succ_self n)))
theorem akD {g:Nat ->Rat} (h:∀x,x< n ->0<=g x):0<=bG g n:=by
 have:=WE (g:=fun _=>0) (h:=g) h;rwa [RA] at this
def bK (V:List Vr) (L:List Kx) (R:List (List Fr)) (l:List (Nat×Nat)):Rat:=bG (fun k=>b9 l (aX (ag V) (List.range (C V)) k)*wD V L R (aX (ag V) (List.range (C V)) k) (C V)) (cnt (ag V) (List.range (C V)))
theorem afj (h0:aS V L R=0) {q:Ja} (d:q.Nodup) (l:List (Nat×Nat)):bG (fun K=>bK V L R (qV (ag V) q K++l)) (cnt (ag V) q)=bK V L R l:=by
 have f:Pos (ag V):=by have:=(gY h0).fine.pos;rwa [jP] at this
 simp only[bK];rw[RB];refine gM fun k c=>?_;have a:Fit (ag V) (aX (ag V) (List.range (C V)) k):=fun u=>sD f _ _ u c;generalize aX (ag V) (List.range (C V)) k=g at *;have S:=qQ g a q;rw[<- Kh (g:=fun _=>b9 l g*wD V L R g (C V)) S];refine gM fun K b=>?_;rw[ait,oM,Zs,amk f d b a];congr 1
 by_cases h:pos (ag V) g q=K
 ·simp[h]
 ·simp[h];exact fun e=>h e.symm
variable {fy:List (Nat×Nat)} {bs:Ja} {φ:Nat ->(Nat ->Nat) ->Rat}
structure eN (S:Ja) (n:Nat) (L:List Kx) (φ:Nat ->(Nat ->Nat) ->Rat):Prop where
 pos:Pos S
 only:∀v,v< n ->∀u,u≠v ->¬u∈af (L.getD v []) ->∀g x,φ v (aO g u x)=φ v g
 one:∀v,v< n ->∀g,Fit S g ->bG (fun x=>φ v (aO g v x)) (sz S v)=1
 nn:∀v,v< n ->∀g,Fit S g ->0<=φ v g
 lt:∀v,v< n ->∀u∈af (L.getD v []),u<n
 rank:∃rk:Nat ->Nat,∀v,v< n ->∀u∈af (L.getD v []),rk u<rk v
def cZ (φ:Nat ->(Nat ->Nat) ->Rat) (g:Nat ->Nat):Ja ->Rat
 |[]=>1
 |v::o=>φ v g*cZ φ g o
def cT (S:Ja) (n:Nat) (φ:Nat ->(Nat ->Nat) ->Rat) (l:List (Nat×Nat)):Rat:=dh S (List.range n) (fun g=>b9 l g*cZ φ g (List.range n)) fun _=>0
theorem RU (φ:Nat ->(Nat ->Nat) ->Rat) (g:Nat ->Nat) (b:Ja):∀a,cZ φ g (a++b)=cZ φ g a*cZ φ g b
 |[]=>by rw[gS,cZ,nR]
 |v::a=>by rw[gF,cZ,cZ,RU φ g b a,oM]
theorem Nu {g:Nat ->Nat} {a b:Ja} (h:a.Perm b):cZ φ g a=cZ φ g b:=by
 induction h with
 |nil=>rfl
 |cons x _ ih=>rw[cZ,cZ,ih]
 |swap x y l=>rw[cZ,cZ,cZ,cZ, <- oM, <- oM,Hg (φ y g)]
 |trans _ _ h1 h2=>rw[h1,h2]
theorem Nv {ψ:Nat ->(Nat ->Nat) ->Rat} {g:Nat ->Nat}:∀ {o:Ja},(∀v∈o,φ v g=ψ v g) ->cZ φ g o=cZ ψ g o
 |[],_=>rfl
 |v::o,h=>by rw[cZ,cZ,h v dJ,Nv fun u a=>h u (dZ _ a)]
theorem adG (g:Nat ->Nat) (p:Nat ->Bool):∀o:Ja,cZ φ g o=cZ φ g (o.filter p)*cZ φ g (o.filter fun v=>!p v)
 |[]=>by simp[cZ]
 |v::o=>by
  rw[cZ,adG g p o];cases h:p v
  ·rw[CQ (by simp[h]),CP (by simp[h]),cZ];grind
  ·rw[CP h,CQ (by simp[h]),cZ];grind
section
variable {S : Ja} {n : Nat} {L : List Kx} {φ : Nat -> (Nat -> Nat) -> Rat}
theorem eN.with (h:eN S n L φ) {x:Nat} {g:Nat ->Nat}:∀ {o:Ja},(∀u∈o,u<n/\u≠v/\¬v∈af (L.getD u [])) ->cZ φ (aO g v x) o=cZ φ g o
 |[],_=>rfl
 |u::o,hu=>by
  obtain⟨a,b,c⟩:=hu u dJ;rw[cZ,cZ,h.only u a v (fun e=>b e.symm) c,h.with fun w d=>hu w (dZ _ d)]
theorem eN.nonneg (h:eN S n L φ) {g:Nat ->Nat} (a:Fit S g):∀ {o:Ja},(∀u∈o,u<n) ->0<=cZ φ g o
 |[],_=>by show (0:Rat)<=1;decide
 |u::o,hu=>QR (h.nn u (hu u dJ) g a) (h.nonneg a fun w b=>hu w (dZ _ b))
theorem eN.zero (h:eN S n L φ):Fit S fun _=>0:=fun u=>lp h.pos u
theorem ajX {l:Ja} (k:Nat ->Nat) (d:l≠[]):∃v∈l,∀u∈l,k u<=k v:=by
 induction l with
 |nil=>exact absurd rfl d
 |cons a l ih=>
  by_cases h:l=[]
  ·subst h;exact⟨a,dJ,fun u b=>by rw[bA.1 b];exact ah _⟩
  ·obtain⟨v,f,m⟩:=ih h;rcases Nat.le_total (k a) (k v) with c |c
   ·exact⟨v,dZ _ f,fun u b=>(bY.1 b).elim (fun e=>e▸c) (m u)⟩
   ·exact⟨a,dJ,fun u b=>(bY.1 b).elim (fun e=>e▸ah _) fun b=>aM (m u b) c⟩
theorem eN.peel (h:eN S n L φ) {G:(Nat ->Nat) ->Rat} (e:v<n) (a:∀g x,G (aO g v x)=G g) (b:∀u∈bs,u<n/\u≠v/\¬v∈af (L.getD u [])) (c:Fit S f):
  dh S (bs++[v]) (fun g=>G g*cZ φ g (bs++[v])) f=dh S bs (fun g=>G g*cZ φ g bs) f:=by
 rw[Ik];refine wI (fun g d=>?_) _ _ c;rw[gM (h:=fun x=>(G g*cZ φ g bs)*φ v (aO g v x)) fun x _=>?_,xS,h.one v e g d,lN];rw[a,RU,h.with b,cZ,cZ,lN,oM]
theorem eN.anc (h:eN S n L φ) {A:Nat ->Bool} (o:∀v,v< n ->A v=y6 ->∀u∈af (L.getD v []),A u=y6) {G:(Nat ->Nat) ->Rat} (q:xB (fun v=>A v=y6) G):∀(m:Nat) (b:Ja),C (b.filter fun v=>!A v)=m ->b.Nodup ->(∀u∈b,u<n) ->∀f,Fit S f ->
  dh S b (fun g=>G g*cZ φ g b) f=dh S (b.filter A) (fun g=>G g*cZ φ g (b.filter A)) f
 |0,b,a,_,_,f,_=>by
  rw[Ho,List.filter_eq_nil_iff] at a;rw[List.filter_eq_self.2 fun u c=>by have:=a u c;simpa using this]
 |m+1,b,a,hn,hlt,f,hf=>by
  obtain⟨z,D⟩:=h.rank;obtain⟨v,w,Ba⟩:=ajX (l:=b.filter fun v=>!A v) z (fun e=>by rw[e] at a;cases a);obtain⟨s,Bj⟩:=dC.1 w;have d:A v=false:=by simpa using Bj
  have p:b.Perm (b.erase v++[v]):=(List.perm_cons_erase s).trans (List.perm_append_comm (l₁:=[v]));have H:(b.erase v).Nodup:=hn.erase v;have y:¬v∈b.erase v:=fun a=>((List.Nodup.mem_erase_iff hn).1 a).1 rfl
  have r:∀u∈b.erase v,u<n/\u≠v/\¬v∈af (L.getD u []):=fun u c=>by
   have k:=List.mem_of_mem_erase c;refine⟨hlt u k,fun e=>y (e▸c),fun F=>?_⟩;cases hAu:A u with
   |true=>
    have:=o u (hlt u k) hAu v F;rw[d] at this;cases this
   |false=>
    have K:=Ba u (dC.2 ⟨k,by rw[hAu];rfl⟩);have Bb:=D u (hlt u k) v F;omega
  have Bm:(b.erase v).filter A=b.filter A:=by
   have i:=p.filter A;rw[xP,show [v].filter A=[] by simp[d],kq] at i;rw[<- List.erase_filter,List.erase_of_not_mem];intro a;rw[dC,d] at a;cases a.2
  have Bh:C ((b.erase v).filter fun v=>!A v)=m:=by
   have i:=(p.filter fun v=>!A v).length_eq;rw[xP,show ([v].filter fun v=>!A v)=[v] by simp[d],cE,Hn] at i;omega
  rw[Fg _ p hn f,wI (G:=fun g=>G g*cZ φ g (b.erase v++[v])) (fun g _=>by rw[Nu p]) _ f hf,h.peel (hlt v s) (fun g x=>q v (fun t=>by have j:A v=true:=t;rw[d] at j;cases j) g x) r hf,h.anc o q m _ Bh H (fun u c=>(r u c).1) f hf,Bm]
theorem eN.like (h:eN S n L φ) (d:As.Nodup) (t:∀v∈As,v<n) (j:p6 L (·∈As)) {l:List (Nat×Nat)} (c:∀p∈l,p.1∈As):cT S n φ l=dh S As (fun g=>b9 l g*cZ φ g As) fun _=>0:=by
 have b:xB (fun v=>(decide (v∈As))=y6) (b9 l):=aaQ fun p e=>cJ (c p e);rw[cT,h.anc (A:=fun v=>decide (v∈As)) (fun v _ i u a=>cJ (j v (mJ i) u a)) b _ _ rfl qN (fun u a=>bS.1 a) _ h.zero]
 have f:((List.range n).filter fun v=>decide (v∈As)).Perm As:=by
  refine(EP (qN.filter _) d).2 fun v=>?_;rw[dC,eP];exact⟨fun h=>h.2,fun h=>⟨bS.2 (t v h),h⟩⟩
 rw[Fg _ f (qN.filter _)];exact wI (fun g _=>by rw[Nu f]) _ _ h.zero
end
section
variable {S : Ja} {n : Nat} {L : List Kx} {φ : Nat -> (Nat -> Nat) -> Rat}
theorem eN.free (h:eN S n L φ) {o:Ja} (a:∀u∈o,∀v∈vs,u<n/\u≠v/\¬v∈af (L.getD u [])):tU vs (fun g=>cZ φ g o):=fun v c _ _=>h.with fun u b=>a u b v c
theorem eN.part_sum (h:eN S n L φ) {c:Ja} {fb fc fz:List (Nat×Nat)} (b:As.Nodup) (l:∀v∈As,v<n) (w:p6 L (·∈As)) (d:As.Perm (fz.map (·.1)++(bs++c))) (x:∀p∈fz,p.2<sz S p.1)
  (k:∀p∈fb,p.1∈bs) (z:∀p∈fc,p.1∈c) (q:Nat ->Bool) (h1:∀u∈As,q u=y6 ->∀v∈c,u≠v/\¬v∈af (L.getD u [])) (t:∀u∈As,q u=xd ->∀v∈bs,u≠v/\¬v∈af (L.getD u [])):
  cT S n φ (fz++(fb++fc))=dh S bs (fun g=>b9 fb (eB fz g)*cZ φ (eB fz g) (As.filter q)) (fun _=>0)*dh S c (fun g=>b9 fc (eB fz g)*cZ φ (eB fz g) (As.filter fun v=>!q v)) (fun _=>0):=by
 have o:=d.nodup_iff.1 b;rw[nT] at o;obtain⟨_,i,y⟩:=o;rw[nT] at i;obtain⟨_,_,j⟩:=i;have D:∀p∈fz,¬p.1∈bs:=fun p f m=>y p.1 (aN.2 ⟨p,f,rfl⟩) p.1 (bE.2 (yd m)) rfl;have Bm:∀p∈fz,¬p.1∈c:=fun p f m=>y p.1 (aN.2 ⟨p,f,rfl⟩) p.1 (bE.2 (yk m)) rfl
 have H:∀p∈fz++(fb++fc),p.1∈As:=fun p r=>by
  refine d.mem_iff.2 ?_;rcases bE.1 r with h |h
  ·exact bE.2 (yd (aN.2 ⟨p,h,rfl⟩))
  ·refine bE.2 (yk ?_);rcases bE.1 h with h |h
   ·exact bE.2 (yd (k p h))
   ·exact bE.2 (yk (z p h))
 rw[h.like b l w H]
 have s:(fun g=>b9 (fz++(fb++fc)) g*cZ φ g As)=fun g=>b9 fz g*((b9 fb g*cZ φ g (As.filter q))*(b9 fc g*cZ φ g (As.filter fun v=>!q v))):=by
  funext g
  rw[aaR,aaR,adG g q As];grind
 rw[s,Sm fz (fun g=>(b9 fb g*cZ φ g (As.filter q))*(b9 fc g*cZ φ g (As.filter fun v=>!q v))) d b x];refine aex c bs _ ?_ ?_
 ·refine tU.put (F:=fun g=>b9 fb g*cZ φ g (As.filter q)) (tU.mul (ais fun p X m=>?_) (h.free fun u a v e=>⟨l u (dC.1 a).1,h1 u (dC.1 a).1 (dC.1 a).2 v e⟩)) Bm;exact j p.1 (k p X) p.1 m rfl
 ·refine tU.put (F:=fun g=>b9 fc g*cZ φ g (As.filter fun v=>!q v)) (tU.mul (ais fun p A m=>?_) (h.free fun u a v e=>⟨l u (dC.1 a).1,t u (dC.1 a).1 (by simpa using (dC.1 a).2) v e⟩)) D;exact j p.1 m p.1 (z p A) rfl
theorem eN.part (h:eN S n L φ) {s:Ja} {fb fc fz:List (Nat×Nat)} (b:As.Nodup) (t:∀v∈As,v<n) (l:p6 L (·∈As)) (c:As.Perm (fz.map (·.1)++(bs++s))) (x:∀p∈fz,p.2<sz S p.1)
  (f:∀p∈fb,p.1∈bs) (z:∀p∈fc,p.1∈s) (q:Nat ->Bool) (h1:∀u∈As,q u=y6 ->∀v∈s,u≠v/\¬v∈af (L.getD u [])) (a:∀u∈As,q u=xd ->∀v∈bs,u≠v/\¬v∈af (L.getD u [])):
  cT S n φ (fz++(fb++fc))*cT S n φ (fz++([]++[]))=cT S n φ (fz++(fb++[]))*cT S n φ (fz++([]++fc)):=by
 rw[h.part_sum b t l c x f z q h1 a,h.part_sum b t l c x (fb:=[]) (fc:=[]) (fun p h=>by cases h) (fun p h=>by cases h) q h1 a,h.part_sum b t l c x (fc:=[]) f (fun p h=>by cases h) q h1 a,h.part_sum b t l c x (fb:=[]) (fun p h=>by cases h) z q h1 a];grind
open Classical in
theorem eN.apart (h:eN S n L φ) {fx fz:List (Nat×Nat)} {r:Nat ->Bool ->Prop} (j:Ha L n (fun v=>v∈fx.map (·.1)) (fun v=>v∈fy.map (·.1)) (fun v=>v∈fz.map (·.1)) r)
  (hx:∀p∈fx,p.1<n) (hy:∀p∈fy,p.1<n) (hz:∀p∈fz,p.1<n/\p.2<sz S p.1) (zH:(fz.map (·.1)).Nodup) (x7:∀p∈fx,¬p.1∈fz.map (·.1)) (Dh:∀p∈fy,¬p.1∈fz.map (·.1)):
  cT S n φ (fz++(fx++fy))*cT S n φ (fz++([]++[]))=cT S n φ (fz++(fx++[]))*cT S n φ (fz++([]++fy)):=by
 have F:∀w,w< n ->∀v∈af (L.getD w []),v<n:=h.lt
 have K:∀ {f:List (Nat×Nat)},(∀p∈f,p.1<n) ->∀v∈f.map (·.1),v<n:=fun hf v b=>by
  obtain⟨p,o,rfl⟩:=aN.1 b;exact hf p o
 have hY:∀y,y∈fy.map (·.1) ->y<n:=fun y h=>K hy y h;obtain⟨Ba,k⟩:∃Ba:Nat ->Prop,Ba=fun u=>u∈fx.map (·.1)∨u∈fy.map (·.1)∨u∈fz.map (·.1):=⟨_,rfl⟩
 have V:∀v,Ba v ->v<n:=fun v h=>by
  rw[k] at h;rcases h with h |h |h
  ·exact K hx v h
  ·exact K hy v h
  ·exact K (fun p o=>(hz p o).1) v h
 obtain⟨B7,d⟩:∃B7:Nat ->Prop,B7=fun u=>u∈fz.map (·.1):=⟨_,rfl⟩;obtain⟨B,Bm⟩:∃B:Nat ->Prop,B=fun u=>∃c,r u c:=⟨_,rfl⟩;obtain⟨As,aa⟩:∃As:Ja,As=(List.range n).filter fun v=>decide (eI L Ba v):=⟨_,rfl⟩
 have Bj:∀v,v∈As↔eI L Ba v:=fun v=>by
  rw[aa,dC,eP,bS];exact⟨fun h=>h.2,fun h=>⟨h.lt V F,h⟩⟩
 have Bh:As.Nodup:=by rw[aa];exact qN.filter _
 have Q:∀v∈As,v<n:=fun v h=>((Bj v).1 h).lt V F;have al:p6 L (·∈As):=fun v b u g=>(Bj u).2 (.step ((Bj v).1 b) g);obtain⟨x,ic⟩:∃x:Ja,x=As.filter fun v=>decide (¬B7 v/\B v):=⟨_,rfl⟩;obtain⟨A,ab⟩:∃A:Ja,A=As.filter fun v=>decide (¬B7 v/\¬B v):=⟨_,rfl⟩;have H:∀v,v∈x↔v∈As/\¬B7 v/\B v:=fun v=>by rw[ic,dC,eP]
 have s:∀v,v∈A↔v∈As/\¬B7 v/\¬B v:=fun v=>by rw[ab,dC,eP]
 have o:As.Perm (fz.map (·.1)++(x++A)):=by
  refine(EP Bh ?_).2 fun v=>?_
  ·rw[nT];refine⟨zH,?_,fun a Bb aj P e=>?_⟩
   ·rw[nT];refine⟨by rw[ic];exact Bh.filter _,by rw[ab];exact Bh.filter _,fun a Bb aj P e=>?_⟩;subst e;exact((s a).1 P).2.2 ((H a).1 Bb).2.2
   ·subst e;(have ae:B7 a:=by rw[d];exact Bb);rcases bE.1 P with h |h
    ·exact((H a).1 h).2.1 ae
    ·exact((s a).1 h).2.1 ae
  ·rw[bE,bE,H,s];constructor
   ·intro h;by_cases D:B7 v
    ·left;rw[d] at D;exact D
    ·by_cases X:B v
     ·exact yk (yd ⟨h,D,X⟩)
     ·exact yk (yk ⟨h,D,X⟩)
   ·rintro(h |h |h)
    ·exact(Bj v).2 (.base (by rw[k];exact yk (yk h)))
    ·exact h.1
    ·exact h.1
 have U:∀v,v∈As ->eI L (fun u=>u∈fx.map (·.1)∨u∈fy.map (·.1)∨u∈fz.map (·.1)) v:=fun v h=>by have:=(Bj v).1 h;rwa [k] at this
 have ak:∀v∈As,(∃u,(u=v∨u∈af (L.getD v []))/\¬B7 u/\B u) ->∀u,(u=v∨u∈af (L.getD v [])) ->¬B7 u ->B u:=by
  rintro v b ⟨u,g,R,uk⟩ t i an;rw[Bm] at uk;obtain⟨c,l⟩:=uk;have uj:v<n:=Q v b;rw[Bm];rcases g with rfl |g
  ·rcases i with rfl |i
   ·exact⟨c,l⟩
   ·exact⟨y6,j.parents hY F (U _ b) l (by rw[d] at R;exact R) t i⟩
  ·have Y:r v false:=j.down u c l (by rw[d] at R;exact R) v uj g;rcases i with rfl |i
   ·exact⟨xd,Y⟩
   ·by_cases z:B7 v
    ·exact⟨y6,j.meet v Y (.base (by rw[d] at z;exact z)) t i⟩
    ·exact⟨y6,j.parents hY F (U _ b) Y (by rw[d] at z;exact z) t i⟩
 refine h.part Bh Q al o (fun p h=>(hz p h).2) (fun p h=>?_) (fun p h=>?_) (fun v=>decide (∃u,(u=v∨u∈af (L.getD v []))/\¬B7 u/\B u)) (fun u g B9 v b=>?_) (fun u g B9 v b=>?_)
 ·have m:p.1∈fx.map (·.1):=aN.2 ⟨p,h,rfl⟩;exact(H p.1).2 ⟨(Bj p.1).2 (.base (by rw[k];exact yd m)),by rw[d];exact x7 p h,by rw[Bm];exact⟨y6,j.start p.1 m⟩⟩
 ·have m:p.1∈fy.map (·.1):=aN.2 ⟨p,h,rfl⟩;refine(s p.1).2 ⟨(Bj p.1).2 (.base (by rw[k];exact yk (yd m))),by rw[d];exact Dh p h,?_⟩;rw[Bm];rintro⟨c,l⟩;exact j.none p.1 c m l
 ·obtain⟨_,z,q⟩:=(s v).1 b;have ai:=ak u g (mJ B9);exact⟨fun e=>q (ai v (yd e.symm) z),fun m=>q (ai v (yk m) z)⟩
 ·obtain⟨_,z,q⟩:=(H v).1 b;have ad:=of_decide_eq_false B9;exact⟨fun e=>ad ⟨v,yd e.symm,z,q⟩,fun m=>ad ⟨v,yk m,z,q⟩⟩
end
theorem adH {ψ:Nat ->(Nat ->Nat) ->Rat} {g:Nat ->Nat}:∀ {o:Ja},(∀v∈o,φ v g=ψ v f) ->cZ φ g o=cZ ψ f o
 |[],_=>rfl
 |v::o,h=>by rw[cZ,cZ,h v dJ,adH fun u a=>h u (dZ _ a)]
theorem Ig:∀ {l:List (Nat×Nat)},(¬v∈l.map (·.1)) ->∀g,eB l g v=g v
 |[],_,_=>rfl
 |p::l,h,g=>by
  rw[gw,bY,not_or] at h;rw[eB,Ig h.2,J8 _ _ h.1]
theorem Ih {x:Nat}:∀ {l:List (Nat×Nat)},(l.map (·.1)).Nodup ->(v,x)∈l ->∀g,eB l g v=x
 |[],_,h,_=>by cases h
 |p::l,hn,h,g=>by
  rw[gw,nS] at hn;rw[eB];rcases bY.1 h with rfl |h
  ·rw[Ig hn.1,MX]
  ·exact Ih hn.2 h _
theorem ady {l:List (Nat×Nat)} (n:(l.map (·.1)).Nodup) (h:v∈l.map (·.1)) (g f:Nat ->Nat):eB l g v=eB l f v:=by
 obtain⟨p,a,rfl⟩:=aN.1 h;rw[Ih n (x:=p.2) a,Ih n (x:=p.2) a]
theorem Xf:∀ {l:List (Nat×Nat)},(∀p∈l,p.2<sz S p.1) ->∀ {g},Fit S g ->Fit S (eB l g)
 |[],_,_,hg=>hg
 |p::_,h,_,hg=>Xf (fun q a=>h q (dZ _ a)) fun u=>EY hg (h p dJ) u
theorem adt {x:Nat} {l:List (Nat×Nat)} (h:¬v∈l.map (·.1)) (g:Nat ->Nat):eB l (aO g v x)=aO (eB l g) v x:=adv (fun p a e=>h (aN.2 ⟨p,a,e⟩)) g
theorem adu {x:Nat} {l:List (Nat×Nat)} (n:(l.map (·.1)).Nodup) (h:v∈l.map (·.1)) (g:Nat ->Nat):eB l (aO g v x)=eB l g:=by
 funext u
 by_cases e:u∈l.map (·.1)
 ·exact ady n e _ _
 ·rw[Ig e,Ig e,J8 _ _ (fun a=>e (by rw[a];exact h))]
theorem LY (l:List (Nat×Nat)) (g:Nat ->Nat):b9 l g=0∨(b9 l g=1/\∀p∈l,g p.1=p.2):=by
 induction l with
 |nil=>exact yk ⟨rfl,fun p c=>by cases c⟩
 |cons p l ih=>
  rw[b9,mV];by_cases e:g p.1=p.2
  ·rw[aw e,nR];rcases ih with h |⟨h,b⟩
   ·exact yd h
   ·exact yk ⟨h,fun q d=>(bY.1 d).elim (fun a=>a▸e) (b q)⟩
  ·rw[aC e,CG];exact yd rfl
theorem air {l:List (Nat×Nat)} {g:Nat ->Nat} (h:∀p∈l,g p.1=p.2):b9 l g=1:=by
 induction l with
 |nil=>rfl
 |cons p l ih=>rw[b9,mV,aw (h p dJ),ih fun q a=>h q (dZ _ a),nR]
theorem atM {d:List (Nat×Nat)} {g:Nat ->Nat} (h:∀p∈d,g p.1=p.2) (n:(d.map (·.1)).Nodup):eB d g=g:=by
 funext u
 by_cases e:u∈d.map (·.1)
 ·obtain⟨p,a,rfl⟩:=aN.1 e;rw[Ih n (x:=p.2) a,h p a]
 ·exact Ig e _
def dE (d:List (Nat×Nat)) (φ:Nat ->(Nat ->Nat) ->Rat) (v:Nat) (g:Nat ->Nat):Rat:=if v∈d.map (·.1) then mV v (eB d g v) g else φ v g
def A9 (d:List (Nat×Nat)) (φ:Nat ->(Nat ->Nat) ->Rat) (v:Nat) (g:Nat ->Nat):Rat:=φ v (aO (eB d g) v (g v))
theorem apv {x:Nat} (a:x<sz S v) (g:Nat ->Nat):bG (fun y=>mV v x (aO g v y)) (sz S v)=1:=by
 rw[gM (h:=fun y=>(if y=x then 1 else 0)*1) fun y _=>?_]
 ·exact Kh (g:=fun _=>1) a
 ·rw[mV,MX,lN]
section
variable {S : Ja} {n : Nat} {L L' : List Kx} {φ : Nat -> (Nat -> Nat) -> Rat} {d : List (Nat × Nat)}
theorem eN.isDo (h:eN S n L φ) (j:(d.map (·.1)).Nodup) (l:∀p∈d,p.2<sz S p.1) (h1:∀v,v< n ->¬v∈d.map (·.1) ->∀u∈af (L.getD v []),u∈af (L'.getD v [])) (i:∀v,v< n ->∀u∈af (L'.getD v []),u∈af (L.getD v [])):eN S n L' (dE d φ):=by
 obtain⟨r,q⟩:=h.rank;refine⟨h.pos,fun v a u f b g x=>?_,fun v a g c=>?_,fun v a g c=>?_,fun v a u b=>h.lt v a u (i v a u b),r,fun v a u b=>q v a u (i v a u b)⟩
 ·by_cases e:v∈d.map (·.1)
  ·rw[dE,dE,aw e,aw e,mV,mV,J8 _ _ (fun m=>f m.symm),ady j e _ g]
  ·rw[dE,dE,aC e,aC e];exact h.only v a u f (fun o=>b (h1 v a e u o)) g x
 ·by_cases e:v∈d.map (·.1)
  ·obtain⟨p,k,rfl⟩:=aN.1 e;rw[gM (h:=fun y=>mV p.1 p.2 (aO g p.1 y)) fun y _=>?_]
   ·exact apv (l p k) g
   ·rw[dE,aw e,Ih j (x:=p.2) k]
  ·rw[gM (h:=fun y=>φ v (aO g v y)) fun y _=>by rw[dE,aC e]];exact h.one v a g c
 ·by_cases e:v∈d.map (·.1)
  ·rw[dE,aw e,mV];split
   ·decide
   ·decide
  ·rw[dE,aC e];exact h.nn v a g c
theorem eN.isPin (h:eN S n L φ) (l:(d.map (·.1)).Nodup) (k:∀p∈d,p.2<sz S p.1) (h1:∀v,v< n ->∀u∈af (L.getD v []),¬u∈d.map (·.1) ->u∈af (L'.getD v [])) (j:∀v,v< n ->∀u∈af (L'.getD v []),u∈af (L.getD v [])):eN S n L' (A9 d φ):=by
 obtain⟨r,o⟩:=h.rank;have z:∀ {g},Fit S g ->∀v,Fit S (aO (eB d g) v (g v)):=fun b v u=>EY (Xf k b) (b v) u;refine⟨h.pos,fun v a u f c g x=>?_,fun v a g b=>?_,fun v a g b=>h.nn v a _ (z b v),fun v a u c=>h.lt v a u (j v a u c),r,fun v a u c=>o v a u (j v a u c)⟩
 ·rw[A9,A9,J8 _ _ (fun i=>f i.symm)];by_cases e:u∈d.map (·.1)
  ·rw[adu l e]
  ·rw[adt e,J9 _ _ _ (fun i=>f i.symm)];exact h.only v a u f (fun m=>c (h1 v a u m e)) _ x
 ·rw[gM (h:=fun y=>φ v (aO (eB d g) v y)) fun y _=>?_]
  ·exact h.one v a _ (Xf k b)
  ·rw[A9,MX];by_cases e:v∈d.map (·.1)
   ·rw[adu l e]
   ·rw[adt e,Wd]
theorem afg (b:(d.map (·.1)).Nodup) {l:List (Nat×Nat)} (a:∀p∈d,p∈l):cT S n (A9 d φ) l=cT S n φ l:=by
 rw[cT,cT];congr 1
 funext g
 rcases LY l g with h |⟨_,h⟩
 ·rw[h,CG,CG]
 ·congr 1
  refine Nv fun v _=>?_;rw[A9,atM (fun p c=>h p (a p c)) b,abY]
theorem adC (n:(d.map (·.1)).Nodup) {g:Nat ->Nat} {o:Ja} (b:o.Perm (d.map (·.1))):cZ (dE d φ) g o=b9 d g:=by
 rw[Nu b]
 have k:∀e:List (Nat×Nat),(∀p∈e,p∈d) ->cZ (dE d φ) g (e.map (·.1))=b9 e g:=fun e=>by
  induction e with
  |nil=>exact fun _=>rfl
  |cons p e ih=>
   intro a;rw[gw,cZ,b9,ih fun q c=>a q (dZ _ c),dE,aw (aN.2 ⟨p,a p dJ,rfl⟩),Ih n (x:=p.2) (a p dJ)]
 exact k d fun _ h=>h
theorem adb (g:(d.map (·.1)).Nodup) (l:∀p∈d,p.1<n):(List.range n).Perm (d.map (·.1)++(List.range n).filter fun v=>!decide (v∈d.map (·.1))):=by
 refine(EP qN ?_).2 fun v=>?_
 ·rw[nT];refine⟨g,qN.filter _,fun a c b f e=>?_⟩;subst e;have:=(dC.1 f).2;rw[cJ c] at this;cases this
 ·rw[bE,dC];constructor
  ·intro j;by_cases e:v∈d.map (·.1)
   ·exact yd e
   ·exact yk ⟨j,by rw[cX e];rfl⟩
  ·rintro(h |h)
   ·obtain⟨p,i,rfl⟩:=aN.1 h;exact bS.2 (l p i)
   ·exact h.1
theorem apc (c:(d.map (·.1)).Nodup) (j:∀p∈d,p.2<sz S p.1) (t:∀p∈d,p.1<n) {l:List (Nat×Nat)} (k:∀p∈l,¬p.1∈d.map (·.1)):cT S n (dE d φ) l=dh S ((List.range n).filter fun v=>!decide (v∈d.map (·.1))) (fun g=>b9 l g*cZ φ (eB d g) ((List.range n).filter fun v=>!decide (v∈d.map (·.1)))) fun _=>0:=by
 have a:=adb (n:=n) c t;rw[cT];generalize hr:((List.range n).filter fun v=>!decide (v∈d.map (·.1)))=rs at a⊢
 have f:∀v∈rs,¬v∈d.map (·.1):=fun v h e=>by
  rw[<- hr] at h;have:=(dC.1 h).2;rw[cJ e] at this;cases this
 have i:(fun g=>b9 l g*cZ (dE d φ) g (List.range n))=fun g=>b9 d g*(b9 l g*cZ φ g rs):=by
  funext g
  rw[Nu a,RU,adC c (Q7 _),Nv (ψ:=φ) (o:=rs) fun v h=>by rw[dE,aC (f v h)]];rw[<- oM,Hg (b9 l g),oM]
 rw[i,Sm d (fun g=>b9 l g*cZ φ g rs) a qN j];congr 1
 funext g
 congr 1
 have y:∀m:List (Nat×Nat),(∀p∈m,¬p.1∈d.map (·.1)) ->b9 m (eB d g)=b9 m g:=fun m=>by
  induction m with
  |nil=>exact fun _=>rfl
  |cons p m ih=>
   intro b;rw[b9,b9,ih fun q r=>b q (dZ _ r),mV,mV,Ig (b p dJ)]
 exact y l k
theorem eN.pin_do (h:eN S n L φ) (j:(d.map (·.1)).Nodup) (i:∀p∈d,p.2<sz S p.1) (t:∀p∈d,p.1<n) (a:eN S n L' (A9 d φ)) (o:∀v,v< n ->∀u∈af (L'.getD v []),¬u∈d.map (·.1)) {l:List (Nat×Nat)} (f:∀p∈l,¬p.1∈d.map (·.1)):cT S n (A9 d φ) l=cT S n (dE d φ) l:=by
 rw[apc j i t f,cT,a.anc (A:=fun v=>!decide (v∈d.map (·.1))) (fun v c _ u b=>by rw[cX (o v c u b)];rfl) (aaQ fun p a=>by rw[cX (f p a)];rfl) _ _ rfl qN (fun u b=>bS.1 b) _ h.zero];congr 1
 funext g
 congr 1
 refine adH fun v c=>?_
 have F:¬v∈d.map (·.1):=fun e=>by
  have:=(dC.1 c).2;rw[cJ e] at this;cases this
 rw[A9];congr 1
 funext u
 by_cases e:u=v
 ·rw[e,MX,Ig F]
 ·rw[J8 _ _ e]
theorem eN.do_above (h:eN S n L φ) (B9:eN S n L' (dE d φ)) (H:As.Nodup) (Bj:∀v∈As,v<n) (c:p6 L (·∈As)) (q:p6 L' (·∈As)) (o:∀v∈As,¬v∈d.map (·.1)) {l:List (Nat×Nat)} (a:∀p∈l,p.1∈As):cT S n (dE d φ) l=cT S n φ l:=by
 rw[h.like H Bj c a,B9.like H Bj q a];congr 1
 funext g
 congr 1
 exact Nv fun v b=>by rw[dE,aC (o v b)]
theorem X1 (h:eN S n L φ) (l:List (Nat×Nat)):0<=cT S n φ l:=by
 have k:∀(vs:Ja) (f:Nat ->Nat),Fit S f ->0<=dh S vs (fun g=>b9 l g*cZ φ g (List.range n)) f:=fun vs=>by
  induction vs with
  |nil=>
   intro f a;refine QR ?_ (h.nonneg a fun u b=>bS.1 b);rcases LY l f with e |⟨e,_⟩<;>rw[e]<;>decide
  |cons v vs ih=>exact fun f a=>akD fun x c=>ih _ fun u=>EY a c u
 exact k _ _ h.zero
theorem aew {Ba:Nat} (F:Nat ->(Nat ->Nat) ->Rat):∀(vs:Ja) (f:Nat ->Nat),dh S vs (fun g=>bG (fun x=>F x g) Ba) f=bG (fun x=>dh S vs (F x) f) Ba
 |[],_=>rfl
 |v::vs,f=>by
  rw[dh,gM fun x _=>aew F vs (aO f v x),RB];rfl
theorem afe (p:Pos S) (v:Nat) (l:List (Nat×Nat)):bG (fun x=>cT S n φ ((v,x)::l)) (sz S v)=cT S n φ l:=by
 have e:=aew (S:=S) (Ba:=sz S v) (fun x g=>b9 ((v,x)::l) g*cZ φ g (List.range n)) (List.range n) fun _=>0;rw[show bG (fun x=>cT S n φ ((v,x)::l)) (sz S v)=_ from e.symm,cT];refine wI (fun g a=>?_) _ _ fun u=>lp p u;rw[gM (h:=fun x=>(b9 l g*cZ φ g (List.range n))*((if x=g v then 1 else 0)*1)) fun x _=>?_,xS,Kh (g:=fun _=>1) (a v),lN];rw[b9,mV,lN];by_cases e:g v=x
 ·rw[aw e,aw e.symm];grind
 ·rw[aC e,aC fun b=>e b.symm];grind
theorem afh (h:eN S n L φ) (v x:Nat) (l:List (Nat×Nat)):cT S n φ ((v,x)::l)<=cT S n φ l:=by
 have k:∀(vs:Ja) (f:Nat ->Nat),Fit S f ->dh S vs (fun g=>b9 ((v,x)::l) g*cZ φ g (List.range n)) f<=dh S vs (fun g=>b9 l g*cZ φ g (List.range n)) f:=fun vs=>by
  induction vs with
  |nil=>
   intro f a;have b:=h.nonneg a (o:=List.range n) fun u c=>bS.1 c;show b9 ((v,x)::l) f*_<=b9 l f*_;refine abu ?_ b;rw[b9,mV];split
   ·rw[nR];exact MF
   ·rw[CG];rcases LY l f with e |⟨e,_⟩<;>rw[e]<;>decide
  |cons w vs ih=>exact fun f a=>WE fun y d=>ih _ fun u=>EY a d u
 exact k _ _ h.zero
theorem apd {l m:List (Nat×Nat)} (h:∀g,b9 l g=b9 m g):cT S n φ l=cT S n φ m:=by
 rw[cT,cT];congr 1
 funext g
 rw[h g]
theorem atN {l m:List (Nat×Nat)} (h:∀p,p∈l↔p∈m) (g:Nat ->Nat):b9 l g=b9 m g:=by
 rcases LY l g with e |⟨e,b⟩
 ·rcases LY m g with f |⟨f,f1⟩
  ·rw[e,f]
  ·rw[air (l:=l) fun p a=>f1 p ((h p).1 a),f]
 ·rw[e,air fun p a=>b p ((h p).2 a)]
theorem NQ {l m:List (Nat×Nat)} (h:∀p,p∈l↔p∈m):cT S n φ l=cT S n φ m:=apd (atN h)
theorem ahF (h:(d.map (·.1)).Nodup) (t:∀p∈d,p.1<n) (l:List (Nat×Nat)):cT S n (dE d φ) (l++d)=cT S n (dE d φ) l:=by
 rw[cT,cT];congr 1
 funext g
 rw[aaR,Nu (adb h t),RU,adC h (Q7 _)];rcases LY d g with e |⟨e,_⟩<;>rw[e]<;>grind
theorem KP (h:eN S n L φ):cT S n φ []=1:=by
 rw[h.like (As:=[]) Hl (fun v a=>by cases a) (fun v a=>by cases a) (fun p b=>by cases b)];exact lN 1
end
variable {L':List Kx}
section
variable {S : Ja} {n : Nat} {L L2 : List Kx} {φ : Nat -> (Nat -> Nat) -> Rat} {d : List (Nat × Nat)}
theorem WU (h:eN S n L φ) (b:(d.map (·.1)).Nodup) (c:∀p∈d,p.2<sz S p.1/\p.1<n) (h1:∀v,v< n ->∀u∈af (L.getD v []),¬u∈d.map (·.1) ->u∈af (L2.getD v [])) (j:∀v,v< n ->∀u∈af (L2.getD v []),u∈af (L.getD v [])/\¬u∈d.map (·.1))
  {fw:List (Nat×Nat)} (z:∀p∈fw,p.1<n/\p.2<sz S p.1) (A:∀p∈fy,p.1<n) (t:(fw.map (·.1)).Nodup) (K:∀p∈fy,¬p.1∈fw.map (·.1)) (k:∀p∈d,¬p.1∈fw.map (·.1)) (D:∀p∈fy,¬p.1∈d.map (·.1))
  (x:¬xw L2 n (fun v=>v∈fy.map (·.1)) (fun v=>v∈d.map (·.1)) (fun v=>v∈fw.map (·.1))):
  cT S n φ (fw++(fy++d))*cT S n (dE d φ) fw=cT S n (dE d φ) (fw++fy)*cT S n φ (fw++d):=by
 have a:eN S n L2 (A9 d φ):=h.isPin b (fun p a=>(c p a).1) h1 fun v g u f=>(j v g u f).1;have o:∀v,v< n ->∀u∈af (L2.getD v []),¬u∈d.map (·.1):=fun v g u f=>(j v g u f).2;have w:=fun p a=>(c p a).2;have i:=fun p a=>(c p a).1
 have s:∀p∈fw,¬p.1∈d.map (·.1):=fun p a m=>by
  obtain⟨q,y,e⟩:=aN.1 m;exact k q y (aN.2 ⟨p,a,e.symm⟩)
 have e:=a.apart (fx:=fy) (fy:=d) (fz:=fw) (iI.ball x) A w z t K k;rw[afg b (fun p a=>bE.2 (yk (bE.2 (yk a)))),afg (l:=fw++([]++d)) b (fun p a=>bE.2 (yk (bE.2 (yk a))))] at e
 rw[h.pin_do b i w a o (l:=fw++([]++[])) (fun p r=>s p (by simpa using r)),h.pin_do b i w a o (l:=fw++(fy++[])) (fun p r=>by
  rcases bE.1 r with m |m
  ·exact s p m
  ·exact D p (by simpa using m))] at e
 simpa using e
end
section
variable {S : Ja} {n : Nat} {L L2 : List Kx} {φ : Nat -> (Nat -> Nat) -> Rat} {d : List (Nat × Nat)}
theorem atQ (hs:∀v,∀u∈af (L'.getD v []),u∈af (L.getD v [])) (h:eI L' Ba v):eI L Ba v:=by
 induction h using eI.ind with
 |base h=>exact .base h
 |step _ hp ih=>exact .step ih (hs _ _ hp)
theorem alR (hs:∀v,∀u∈af (L'.getD v []),u∈af (L.getD v [])) {c:Bool} (h:iI L' n X B7 v c):iI L n X B7 v c:=by
 induction h using iI.ind with
 |start h=>exact .start h
 |up _ hz hp ih=>exact .up ih hz (hs _ _ hp)
 |down _ hz hw hp ih=>exact .down ih hz hw (hs _ _ hp)
 |meet _ ha hp ih=>exact .meet ih (atQ hs ha) (hs _ _ hp)
theorem anv (hs:∀v,∀u∈af (L'.getD v []),u∈af (L.getD v [])) (h:xw L' n X Y B7):xw L n X Y B7:=by
 obtain⟨y,c,a,r⟩:=h;exact⟨y,c,a,alR hs r⟩
open Classical in
theorem aap (h:eN S n L φ) (B9:eN S n L2 (dE d φ)) (hs:∀v,v< n ->∀u∈af (L2.getD v []),u∈af (L.getD v [])) {l:List (Nat×Nat)} (g:∀p∈l,p.1<n) (o:∀v,v∈d.map (·.1) ->¬eI L (fun u=>u∈l.map (·.1)) v):cT S n (dE d φ) l=cT S n φ l:=by
 have Ba:∀v,v∈l.map (·.1) ->v<n:=fun v a=>by
  obtain⟨p,b,rfl⟩:=aN.1 a;exact g p b
 have m:∀v,v∈(List.range n).filter (fun v=>decide (eI L (fun u=>u∈l.map (·.1)) v))↔eI L (fun u=>u∈l.map (·.1)) v:=fun v=>by
  rw[dC,eP,bS];exact⟨fun h=>h.2,fun e=>⟨e.lt Ba h.lt,e⟩⟩
 refine h.do_above B9 (As:=(List.range n).filter fun v=>decide (eI L (fun u=>u∈l.map (·.1)) v)) (qN.filter _) (fun v a=>bS.1 (dC.1 a).1) (fun v a u c=>?_) (fun v a u c=>?_) (fun v a f=>?_) (fun p b=>(m _).2 (.base (aN.2 ⟨p,b,rfl⟩)))
 ·exact(m u).2 (.step ((m v).1 a) c)
 ·exact(m u).2 (.step ((m v).1 a) (hs v (bS.1 (dC.1 a).1) u c))
 ·exact o v f ((m v).1 a)
theorem asa {a b:List (Nat×Nat)} (h:∀v,v∈a.map (·.1) ->¬v∈b.map (·.1)):dE a (dE b φ)=dE b (dE a φ):=by
 funext v g
 rw[dE,dE,dE,dE];by_cases c:v∈a.map (·.1)
 ·rw[aw c,aw c,aC (h v c)]
 ·rw[aC c,aC c]
theorem aiw {L2:List Kx} {x:Nat} (h1:∀v,∀u∈af (L.getD v []),u≠x ->u∈af (L2.getD v [])) (h:eI L (fun u=>u=x) v):iI L2 n (fun u=>u=x) (fun _=>False) v true:=by
 induction h using eI.ind with
 |base h=>exact .start h
 | @step v w _ hp ih=>
  by_cases e:v=x
  ·exact .start e
  ·exact .up ih id (h1 _ _ hp e)
theorem arp (h:eN S n L φ) {x d:Nat} {Lx Mb Jg Lz Lxz UD:List Kx} {fz:List (Nat×Nat)}
  (A:d<sz S x/\x<n) (z:∀p∈fz,p.2<sz S p.1/\p.1<n) (zH:(fz.map (·.1)).Nodup) (s:∀p∈fy,p.1<n) (x7:¬x∈fz.map (·.1)) (V:∀p∈fy,p.1≠x) (H:∀p∈fy,¬p.1∈fz.map (·.1))
  (Y:eN S n Lx (dE [(x,d)] φ)) (sx:∀v,∀u∈af (Lx.getD v []),u∈af (L.getD v []))
  (R:eN S n Lz (dE fz φ)) (sz:∀v,∀u∈af (Lz.getD v []),u∈af (L.getD v []))
  (ab:eN S n Lxz (dE [(x,d)] (dE fz φ))) (al:∀v,∀u∈af (Lxz.getD v []),u∈af (Lz.getD v []))
  (Ba:∀v,∀u∈af (L.getD v []),u≠x ->u∈af (Mb.getD v [])) (Bm:∀v,∀u∈af (Mb.getD v []),u∈af (L.getD v [])/\u≠x)
  (z1:∀v,∀u∈af (L.getD v []),¬u∈fz.map (·.1) ->u∈af (Jg.getD v [])) (z2:∀v,∀u∈af (Jg.getD v []),u∈af (L.getD v [])/\¬u∈fz.map (·.1))
  (w1:∀v,∀u∈af (Lx.getD v []),¬u∈fz.map (·.1) ->u∈af (UD.getD v [])) (D:∀v,∀u∈af (UD.getD v []),u∈af (Lx.getD v [])/\¬u∈fz.map (·.1))
  (Bb:¬xw Mb n (fun v=>v=x) (fun v=>v∈fz.map (·.1)) (fun _=>False)) (B9:¬xw Jg n (fun v=>v∈fz.map (·.1)) (fun v=>v∈fy.map (·.1)) (fun v=>v=x)) (ha:¬eI Lz (fun u=>u∈fy.map (·.1)) x):
  cT S n (dE [(x,d)] φ) (fz++fy)*cT S n φ [(x,d)]=cT S n φ (fz++[(x,d)])*cT S n (dE fz φ) fy/\∀y,y<Go.Proofs.YtkflnpjapgiajaaGreatDoor.sz S x ->cT S n (dE fz φ) ((x,y)::fy)*cT S n φ ((x,y)::fz)=cT S n φ ((x,y)::(fy++fz))*cT S n φ [(x,y)]:=by
 have U:(([(x,d)]:List (Nat×Nat)).map (·.1)).Nodup:=aE
 have g:∀v,v∈([(x,d)]:List (Nat×Nat)).map (·.1)↔v=x:=fun v=>aE
 have K:∀p∈([(x,d)]:List (Nat×Nat)),p.2<Go.Proofs.YtkflnpjapgiajaaGreatDoor.sz S p.1/\p.1<n:=fun p a=>by rw[bA.1 a];exact A
 have aj:∀v,v∈fz.map (·.1) ->v<n:=fun v b=>by
  obtain⟨p,a,rfl⟩:=aN.1 b;exact(z p a).2
 have F:∀v,v∈fy.map (·.1) ->v<n:=fun v b=>by
  obtain⟨p,a,rfl⟩:=aN.1 b;exact s p a
 have q:∀p∈fz,¬p.1=x:=fun p a e=>x7 (aN.2 ⟨p,a,e⟩);have ak:∀w,w< n ->∀v∈af (Mb.getD w []),v<n:=fun w t v b=>h.lt w t v (Bm w v b).1;have ad:∀w,w< n ->∀v∈af (Jg.getD w []),v<n:=fun w t v b=>h.lt w t v (z2 w v b).1
 have Bj:=WU h U K (L2:=Mb) (fun v b u f o=>Ba v u f (fun e=>o ((g u).2 e))) (fun v b u f=>⟨(Bm v u f).1,fun e=>(Bm v u f).2 ((g u).1 e)⟩) (fy:=fz) (fw:=[]) (fun p a=>by cases a) (fun p a=>(z p a).2) Hl (fun p a e=>by cases e) (fun p a e=>by cases e) (fun p a e=>q p a ((g _).1 e)) (fun i=>Bb (by
  have:=i.sym (fun v b=>aj v b) ak (fun v b e=>by cases e);obtain⟨y,c,ai,hr⟩:=this;refine⟨y,c,ai,?_⟩;have X:(fun v=>v∈([(x,d)]:List (Nat×Nat)).map (·.1))=fun v=>v=x:=by funext v;exact propext (g v)
  have B7:(fun v=>v∈([]:List (Nat×Nat)).map (·.1))=fun _=>False:=by funext v;exact propext ⟨(fun e=>by cases e),False.elim⟩
  rwa [X,B7] at hr))
 rw[KP Y,lN,gS,gS,gS] at Bj;have aa:∀p∈([(x,d)]:List (Nat×Nat)),p.1<n:=fun p a=>(K p a).2
 have r:=WU Y zH z (L2:=UD) (fun v b u f o=>w1 v u f o) (fun v b u f=>D v u f) (fy:=fy) (fw:=[(x,d)]) (fun p a=>⟨(K p a).2,(K p a).1⟩) s U (fun p a e=>V p a ((g _).1 e)) (fun p a e=>q p a ((g _).1 e)) H (fun i=>B9 (by
  have h5:=anv (L:=Jg) (fun v u f=>z1 v u (sx v u (D v u f).1) (D v u f).2) i
  have:=h5.sym F ad (fun v b e=>by
   obtain⟨p,a,rfl⟩:=aN.1 b;exact q p a ((g _).1 e))
  have B7:(fun v=>v∈([(x,d)]:List (Nat×Nat)).map (·.1))=fun v=>v=x:=by funext v;exact propext (g v)
  rwa [B7] at this))
 have ae:dE fz (dE [(x,d)] φ)=dE [(x,d)] (dE fz φ):=asa fun v b e=>x7 (by rw[(g v).1 e] at b;exact b);rw[ae] at r
 have P:∀l,cT S n (dE [(x,d)] φ) ([(x,d)]++l)=cT S n (dE [(x,d)] φ) l:=fun l=>by
  rw[NQ (m:=l++[(x,d)]) fun p=>by simp only[bE];exact or_comm];exact ahF U aa l
 have Q:∀l,cT S n (dE [(x,d)] (dE fz φ)) ([(x,d)]++l)=cT S n (dE [(x,d)] (dE fz φ)) l:=fun l=>by
  rw[NQ (m:=l++[(x,d)]) fun p=>by simp only[bE];exact or_comm];exact ahF U aa l
 have s3:cT S n (dE [(x,d)] (dE fz φ)) [(x,d)]=1:=by
  have:=Q [];rw[kq] at this;rw[this,KP ab]
 rw[P,Q,P,s3,lN] at r;have a3:cT S n (dE [(x,d)] (dE fz φ)) fy=cT S n (dE fz φ) fy:=aap R ab (fun v _ u f=>al v u f) s fun v b j=>ha (by rw[(g v).1 b] at j;exact j);rw[a3] at r;refine⟨?_,fun y zI=>?_⟩
 ·rw[NQ (l:=fz++fy) (m:=fy++fz) fun p=>by simp only[bE];exact or_comm,r,Bj];grind
 ·have k:∀v,v∈([(x,y)]:List (Nat×Nat)).map (·.1)↔v=x:=fun v=>aE
  have Bh:=WU h zH z (L2:=Jg) (fun v b u f o=>z1 v u f o) (fun v b u f=>z2 v u f) (fy:=fy) (fw:=[(x,y)]) (fun p a=>by rw[bA.1 a];exact⟨A.2,zI⟩) s aE (fun p a e=>V p a ((k _).1 e)) (fun p a e=>q p a ((k _).1 e)) H (fun i=>B9 (by
   have:=i.sym F ad (fun v b e=>by
    obtain⟨p,a,rfl⟩:=aN.1 b;exact q p a ((k _).1 e))
   (have B7:(fun v=>v∈([(x,y)]:List (Nat×Nat)).map (·.1))=fun v=>v=x:=by funext v;exact propext (k v));rwa [B7] at this))
  have a5:cT S n (dE fz φ) [(x,y)]=cT S n φ [(x,y)]:=aap h R (fun v _ u f=>sz v u f) (fun p a=>by rw[bA.1 a];exact A.2) fun v b j=>by
   (have X:(fun u=>u∈([(x,y)]:List (Nat×Nat)).map (·.1))=fun v=>v=x:=by funext v;exact propext (k v));rw[X] at j;exact Bb ⟨v,y6,b,aiw Ba j⟩
  rw[a5] at Bh;exact Bh.symm
end
open Go
theorem Py {u:Nat} (h:u<10):Lib.decDigits u=[UInt8.ofNat (48+u)]:=by rw[Lib.decDigits,dif_pos h]
theorem ahQ {u:Nat} (h:¬u<10):Lib.decDigits u=Lib.decDigits (u/10)++[UInt8.ofNat (48+u % 10)]:=by rw[Lib.decDigits,dif_neg h]
open Go.Lib
theorem asu (k:Nat):∀n,n<10^(k+1) ->C (decDigits n)<=k+1:=by
 induction k with
 |zero=>intro n h;rw[Py (by simpa using h)];simp
 |succ k ih=>
  intro n h;by_cases a:n<10
  ·rw[Py a];simp
  ·rw[ahQ a,cE];have:=ih (n/10) (by rw[jI] at h;omega);simp;omega
theorem asv (h:n<256^k):C (decDigits n)<=3*k+1:=by
 apply asu;have a:(256:Nat)^k<=(10^3)^k:=Nat.pow_le_pow_left a6 k;rw[<- Nat.pow_mul] at a;have b:10^(3*k)<=10^(3*k+1):=k7 a6 al;omega
def Ao (n:Nat):List UInt8:=if n=0 then[] else decDigits n
theorem asr (h:n≠0):Ao n=Ao (n/10)++[UInt8.ofNat (48+n % 10)]:=by
 rw[Ao,aC h];by_cases a:n<10
 ·rw[Py a,Ao,aw al,gS,kp a]
 ·rw[ahQ a,Ao,aC al]
theorem alW (a:ByteArray) (w:E) (k:a.size<=500000):
  c6 67 #[zK a] w (dj w (zK ⟨(decDigits (B2 a)).toArray⟩)):=by
 have H:=aD (o6 a w al);have y:=aM (jV a) k;have z:=asv (Hb (B2 a));generalize hA':B2 a=A at *;clear hA' k;by_cases j:A=0
 ·subst j;rw[CB] at H;have v:wT (decDigits 0=[48]):=Py a6;rw[v.o];clear z;go_enter func67,ntmps67;go_wp2_with fail
  refine(H.o).ae ?_;rintro e l ⟨rfl,f⟩;subst f;go_wp2;go_ret;exact⟨rfl,au _ _⟩
 ·have q:=EJ j;have D:wT (Ao A=decDigits A):=aC j;have m:B2 ⟨#[10]⟩=10:=rfl;go_enter func67,ntmps67;go_wp2_with fail
  refine(H.o).ae ?_;rintro e l ⟨rfl,f⟩;subst f;clear H;go_wp2;go_loopg [0,3] A (fun n va vs wr=>∃s:ByteArray,va=zK (B n)/\vs=zK s/\(B n).size<=500000/\wT (Ao n++s.data.toList=Ao A)/\da l wr)
  case atStart=>exact⟨⟨#[]⟩,rfl,rfl,y,(show _=_ by simp),au _ _⟩
  case round=>
   obtain⟨s,rfl,rfl,b,S,c⟩:=hrel;clear q;by_cases h:gk=0
   ·subst h;rw[CB]
    have Bm:wT (s=⟨(decDigits A).toArray⟩):=by
     show _=_;have:=S.o;rw[Ao,aw rfl,gS,D.o] at this;apply Rb;apply Rc.1;rw[this]
    go_wp2;go_ret;exact⟨by rw[<- Bm.o];rfl,c⟩
   ·have q:=EJ h;have g:=fun V=>adn (B gk) ⟨#[10]⟩ V b (by show 1<=_;omega) (by rw[m];decide);rw[cQ,m] at g;have r:=aD g;have Ba:gk % 10<10:=jc _ a6;have K:(B (gk % 10)).size<=500000:=aM (ku (Nat.mod_le _ _)) b;have B7:=fun V=>I9 (B (gk % 10)) 0 V al al;rw[cQ,MH,Hi,kp (show gk % 10<256 by omega)] at B7;have u:=aD B7;have x:=aM (ku (AV gk 10)) b
    have X:s.size<=1500001:=by
     have e:=eG List.length S.o;rw[cE,B0,D.o] at e;omega
    have Bj:gk/10<gk:=Nat.div_lt_self (lO h) a6;have t:=asr h
    have Bh:wT (Ao (gk/10)++(strOfNums [48+((gk % 10:Nat):Int)]++s).data.toList=Ao A):=by
     show _=_;rw[<- S.o,t,ByteArray.data_append,Array.toList_append,JN,p9];(have this:(48+((gk % 10:Nat):Int)).toNat=48+gk % 10:=al);rw[gw,oQ,this]
    clear t g B7 b K;generalize hd':gk % 10=d at *;clear hd'
    have Q:=fun V:E=>JO (P:=prog) (V.alloc (yM #[J .u8 (48+(d:Int))] 5)) 148 5 underlying148 underlying5 (O (T V)) 0 1 1 [48+(d:Int)] rfl (fun i Bb=>by
     (obtain rfl:i=0:=al);rw[ba _ (O (T V)) (0+0) _ _ (0,0) (dU _ _)];rfl) 9 underlying9
    have U:(strOfNums [48+(d:Int)]).size=1:=strOfNums_size _;go_wp2_with fail
    refine(r.o _).ae ?_;rintro e B9 ⟨rfl,p⟩;go_wp2_with fail
    refine(u.o _).ae ?_;rintro e F ⟨rfl,L⟩;subst L;have R:=Q F;clear Q;go_wp2;go_roundg (gk/10)
    case measure=>exact Bj
    case rel=>exact⟨strOfNums [48+(d:Int)]++s,rfl,rfl,x,Bh.o,(c.trans (p.ae c.size)).alloc (c.trans (p.ae c.size)).size _⟩
def bl (s:ByteArray):List UInt8:=s.data.toList
variable {x':wF}
theorem dH.farT {V:E} {c:Kd} {l:List Fr} {x:wF} (h:dH V c l) (n:aZ V g x y) (q:bV x) (r:bV y) (j:Nat) (u:wF):dH (V.setCell ⟨g,j,N⟩ u) c l:=fun k p=>by
 obtain⟨g',o,rfl,t,a,b,d⟩:=h k p;obtain⟨v,D,z,rfl⟩:=q;obtain⟨w,Bm,A,rfl⟩:=r
 have s:¬g'=g:=fun e=>by
  subst e;rw[ba V g' _ _ _ (0,0) n] at a;match hm:o+k*3 with
  |0=>rw[hm] at a;simp at a
  |1=>rw[hm] at a;simp at a
  |m+2=>rw[hm] at a;simp at a
 have f:∀i,(V.setCell ⟨g,j,N⟩ u).cell? ⟨g',i,N⟩=V.cell? ⟨g',i,N⟩:=fun i=>fT _ _ _ _ (fun e=>s (eG Addr.block e).symm);exact⟨g',o,rfl,aT t (jJ V _ _).size,(f _).trans a,(f _).trans b,(f _).trans d⟩
theorem dH.putT {V:E} {c:Kd} {l:List Fr} {x:wF} (h:dH V c l) (b:aZ V g x y) (e:bV x) (a:bV y) (i:bV x') (f:wF):dH ((V.setCell ⟨g,0,N⟩ x').setCell ⟨g,1,N⟩ f) c l:=by
 have d:aZ (V.setCell ⟨g,0,N⟩ x') g x' y:=jW V g 0 _ _ x' b;exact(h.farT b e a 0 _).farT d i a 1 _
variable {K:Act ->E ->Prop} {Q:Exit ->Act ->E ->Prop}
theorem ajq {o:Oper} {a:Act} (s x:Operand)
  (m:o.op=.call {callee:=.builtin .append,args:= #[s,x],argTypes:= #[36,36]}) (base:Nat) (v:wF) (l:List Fr) (f:Fr) (hs:a.eval s=v) (t:c5 w base v l) (g:Nat) (n:a.eval x=Z (M ⟨g,0,N⟩) 1 1) (c:aL w g f.1 f.2.1 f.2.2) (A:C l+1<=100000) (y:base<=O (T w))
  (h:∀v' w',c5 w' base v' (l++[f]) ->w.grownBy w' v.ownBlock ->K (a.put o.dst v') w'):o.wp prog a w K Q:=by
 obtain⟨p,e,z,q,r⟩:=eC Tryz.infoFrac;refine wp_append_own _ s x 36 m base 63 p (zd #[zZ xd,zK ⟨#[]⟩,zK ⟨#[]⟩]) 3 40 underlying36 e z q r rfl a6 v (C l) _ hs t ⟨g,0,N⟩ 1 1 [zZ f.1,zK f.2.1,zK f.2.2] n rfl ?_ ?_ (by unfold maxLen;omega) al y ?_
 ·intro j u b;match j,b with
  |0,b=>cases b;exact c.c0
  |1,b=>cases b;exact c.c1
  |2,b=>cases b;exact c.c2
  |j+3,b=>simp at b
 ·intro u d;simp only[bY,gK,jq] at d;rcases d with rfl |rfl |rfl<;>rfl
 ·intro v' w' i k _;refine h v' w' ?_ k;rw[c5,cE,ag8];exact i
theorem aoP (k:Int):mkRat k 1=(k:Rat):=by
 rw[Rat.mkRat_one]
def LJ (i:Nat):ByteArray:=⟨(decDigits i).toArray⟩
theorem aaw (h:i<10):(LJ i).size=1:=by
 rw[LJ,Py h];rfl
abbrev j7 (c:UInt8) (i:Nat):ByteArray:=⟨#[c]⟩++LJ i
def uQ (k:Nat):List ByteArray:=(List.range k).map (j7 118)
theorem ajN (k:Nat):uQ (k+1)=uQ k++[j7 118 k]:=by simp[uQ,xN]
theorem Rm (k:Nat):C (uQ k)=k:=by simp[uQ]
theorem adm (i:Nat) (w:E) (h:i<=1000):c6 68 #[J I (i:Nat)] w (dj w (zK (B i))):=by
 have:=Kq (i:Int) w al al;rwa [oU] at this
theorem adi (i:Nat) (w:E) (a:i<=1000):c6 67 #[zK (B i)] w (dj w (zK (LJ i))):=by
 have:=alW (B i) w (by
  have h:(B i).size<=1000:=by rw[nP];exact aM (sA 2 i al) al
  omega)
 rwa [cQ] at this
theorem kY.empty (w:E) (B:Nat):kY w B (Z N 0 0) []:=⟨rfl,yd ⟨rfl,rfl⟩⟩
theorem kY.step {B:Nat} {v:wF} {l:List ByteArray} (h:kY w B v l) (e:da w w'):kY w' B v l:=by
 refine⟨h.1,?_⟩;rcases h.2 with a |⟨g,cap,r,a,c,b,d⟩
 ·exact yd a
 ·exact yk ⟨g,cap,r,a,c,(e.block g (cS.1 b).1).trans b,d⟩
theorem ath (k:Nat) (w:E) (s:k<=3):
  c6 69 #[J I (k:Nat)] w fun e w'=>∃x,e=yW x/\kY w' (O (T w)) x (uQ k)/\da w w':=by
 have j:=Fa (fun (i:Nat) (h:i<=1000) (U:E)=>adm i U h);have g:=Fa (fun (i:Nat) (h:i<=1000) (U:E)=>adi i U h);go_enter func69,ntmps69;go_wp2_with fail
 go_loopw [3,4] (fun x iv wr=>∃i:Nat,i<=k/\iv=J I i/\wT (kY wr (O (T w)) x (uQ i))/\wT (da w wr)) (fun _ iv _=>k - (intOf iv).toNat)
 case atStart=>exact⟨0,aV _,rfl,kY.empty _ _,au _ _⟩
 case round=>
  obtain⟨i,h,rfl,R,H⟩:=hrel;by_cases y:i<k
  ·go_wp2_with fail
   refine(j.o i al _).ae ?_;rintro e t ⟨rfl,b⟩;go_wp2_with fail
   refine(g.o i al _).ae ?_;rintro e a ⟨rfl,f⟩;have Bj:=b.trans (f.ae b.size);have Q:=Fa (R.o.step Bj);have Y:=Fa (H.o.trans (Bj.ae H.o.size));clear b f Bj R H;have r:=Fa (Q.o.step ((au _ a).alloc (ah _) (yM #[zK (j7 118 i)] 9)));have d:=Fa (Y.o.alloc Y.o.size (yM #[zK (j7 118 i)] 9));have m:=Fa (anE a (j7 118 i));have c:O (T w)<=O (T (a.alloc (yM #[zK (j7 118 i)] 9))):=d.o.size;have q:=Rm i;have Ba:=Fa (ajN i);have u:=aaw (i:=i) al;go_wp2_with (at_builtin;refine ajs rfl _ _ rfl (O (T w)) _ (uQ i) (j7 118 i) rfl r.o (O (T a)) rfl m.o al c ?_;intro v' v p n;have l:=Fa (d.o.grown n c (fun k e=>r.o.own k e)))
   go_roundw
   case rel=>exact⟨i+1,al,bd,by rw[Ba.o];exact p,l⟩
   case measure=>simp[intOf];omega
  ·obtain rfl:i=k:=al
   go_wp2;go_ret;exact⟨_,rfl,R.o,H.o⟩
def rO (Ls:Ja):List Fr:=Ls.map fun a:Nat=>qF ((a:Rat)/(Ls.sum:Rat))
theorem WY (Ls:Ja):C (rO Ls)=C Ls:=by simp[rO]
theorem adr (h:n<256):qw (n:Rat)<=2:=by
 have a:(n:Rat).num.natAbs=n:=aE
 have b:(n:Rat).den=1:=rfl;rw[qw,a,b,nP,nP];have c:=sA 1 n al;have d:=sA 1 1 al;omega
theorem Rz:∀ {Ls:Ja},(∀a∈Ls,a<=6) ->Ls.sum<=6*C Ls
 |[],_=>ah _
 |a::l,h=>by
  have d:=h a dJ;have e:=Rz fun b c=>h b (dZ _ c);simp only[List.sum_cons,eA];omega
theorem alS {Ls:Ja} (h:∀a∈Ls,a<=6) (l:C Ls<=3) (hs:1<=Ls.sum):∀f∈rO Ls,f.2.1.size+f.2.2.size<=2:=by
 intro f c;obtain⟨a,b,rfl⟩:=aN.1 c;have e:=Rz h;have d:=h a b;show (nu ((a:Rat)/(Ls.sum:Rat))).size+(de ((a:Rat)/(Ls.sum:Rat))).size<=2;rw[wG];have j:Fits 1 ((a:Rat)/(Ls.sum:Rat)):=⟨(a:Int),Ls.sum,al,by rw[Rat.mkRat_eq_div];rfl,al,by simp;omega⟩;exact T6 j
theorem alT {Ls:Ja} (hs:1<=Ls.sum):jf (rO Ls)=true:=by
 have h:(Ls.sum:Rat)≠0:=fun e=>by
  have g:Ls.sum=0:=by exact_mod_cast e
  omega
 have k:(0:Rat)<(Ls.sum:Rat):=Rat.lt_of_le_of_ne Rat.natCast_nonneg (Ne.symm h);rw[jf,iu];constructor
 ·rw[fM];intro f b;obtain⟨a,i,rfl⟩:=aN.1 b;refine cJ ?_;rw[jC,Rat.not_lt];have d:(0:Rat)<=(a:Rat):=Rat.natCast_nonneg;rw[jH];exact QR d (Rat.le_of_lt (Rat.inv_pos.2 k))
 ·refine cJ ?_
  have y:∀(l:Ja) (s c:Rat),(l.map fun a:Nat=>qF ((a:Rat)/c)).foldl (fun s f=>s+dr f) s=s+(l.sum:Rat)/c:=by
   intro l;induction l with
   |nil=>intro s c;show s=s+((0:Nat):Rat)/c;rw[jH];grind
   |cons a l ih=>
    intro s c;rw[gw,tY,ih,show dr (qF ((a:Rat)/c))=(a:Rat)/c from jC _,List.sum_cons,jH,jH,jH,Rat.natCast_add,Rat.add_mul,MG]
  rw[bH,rO,y,Rat.zero_add,jH,Hf _ h]
variable {B' cap:Nat}
theorem afx (Ls:Ja) (a:Nat):iL (Ls++[a])=iL Ls++[(a:Int)]:=by simp[iL]
theorem bW.put {B:Nat} (h:bW w B (Z (M ⟨g,0,N⟩) n cap) l) (j:Nat) (y:Int):bW (w.setCell ⟨g,j,N⟩ (J I y)) B (Z (M ⟨g,0,N⟩) n cap) (l.set j y):=by
 rcases h.2 with ⟨a,_⟩ |⟨g',p,r,a,b,c,d,e,f,i⟩
 ·cases a
 ·cases a;refine⟨aE,yk ⟨g,cap,_,aE,b,jW w g j _ _ _ c,by simpa using d,e,by simpa using f,?_⟩⟩;rw[Array.toList_setIfInBounds,gA,Hm, <- i,List.take_set]
theorem c5.lower {B:Nat} {v:wF} {l:List Fr} (h:c5 w B v l) (e:B'<=B):c5 w B' v l:=by
 refine⟨h.1,?_⟩;rcases h.2 with a |⟨g,cap,r,a,b,c,d⟩
 ·exact yd a
 ·exact yk ⟨g,cap,r,a,aM e b,c,d⟩
theorem bW.emptyB (w:E) (B:Nat):bW w B (Z N 0 0) []:=⟨rfl,yd ⟨rfl,rfl⟩⟩
structure PO (Ls:Ja) (i:Nat):Prop where
 len:C Ls=i
 six:∀a∈Ls,a<=6
theorem alD (d:Kd) (cd k n:Nat) (W:Kx) (w:E) (hW:aB w d W) (K:∀x∈W, -9223372036854775808<=x/\x<=9223372036854775807) (hk:k<=100000) (fX:1<=n) (vo:n<=5) (Tt:C W<=140737488355328):
  c6 70 #[Z d (C W) cd,J I (k:Nat),J I (n:Nat)] w fun e w'=>∃(x:wF) (Ls:Ja),e=yW x/\c5 w' (O (T w)) x (rO Ls)/\PO Ls n/\1<=Ls.sum/\da w w':=by
 have HW:=Fa hW;have HR:=Fa K;have AG:=Fa (fun (c:Int) (h: -9223372036854775808<=c/\c<=9223372036854775807) (U:E)=>Kp c 7 U h.1 h.2 al al);have kg:=Fa (fun (c:Int)=>Kw c (n:=7) al);have P:=Fa (fun (a:Nat) (h:a<=100) (U:E)=>Xa (a:Int) U al al)
 have a6:wT (∀(a:Nat),a<=100 ->∀U:E,c6 29 #[J I (a:Nat)] U fun e w'=>e=yW (nC (qF (a:Rat)))/\da U w'):=fun a b U=>by
  have h:=P.o a b U;rw[aoP] at h;exact h
 have JI:wT (∀(a s:Nat),a<=100 ->1<=s ->s<=100 ->∀U:E,c6 65 #[nC (qF (a:Rat)),nC (qF (s:Rat))] U fun e w'=>e=yW (zp #[nC (qF ((a:Rat)/(s:Rat))),J I 0])/\da U w'):=fun a s b b0 Bm U=>by
  have bs:(s:Rat)≠0:=fun e=>by
   (have e':s=0:=by exact_mod_cast e);omega
  have h:=amd (aW (a:Rat)) (aW (s:Rat)) (nu (a:Rat)) (de (a:Rat)) (nu (s:Rat)) (de (s:Rat)) U (by rw[kr];exact bs) (by rw[wG];have:=adr (n:=a) al;omega) (by rw[wG];have:=adr (n:=s) al;omega);rw[kr,kr] at h;exact h
 clear P;have P:=a6;clear a6 hW K;go_enter func70,ntmps70;go_wp2_with fail
 go_loopw [7,8,9] (fun x sv iv wr=>∃(i:Nat) (Ls:Ja),i<=n/\iv=J I i/\sv=J I (Ls.sum:Nat)/\wT (PO Ls i)/\wT (bW wr (O (T w)) x (iL Ls))/\wT (da w wr)) (fun _ _ iv _=>n - (Go.RowKit.intOf iv).toNat)
 case atStart=>exact⟨0,[],aV _,rfl,rfl,⟨rfl,fun a b=>by cases b⟩,bW.emptyB _ _,au _ _⟩
 case round=>
  obtain⟨i,Ls,hi,rfl,rfl,H,X,f⟩:=hrel;by_cases ak:i<n
  ·have YJ:Ls.sum<=100:=by have:=Rz H.o.six;have:=H.o.len;omega
   have B9:=H.o.len;by_cases aq:0<C W
   ·obtain⟨D,Te⟩:∃D,D=k+i:=⟨_,rfl⟩;(have b1:IntKind.i64.wrap ((k:Int)+(i:Int))=(D:Int):=by rw[js];omega);obtain⟨t,ht⟩:∃t,t=D % C W:=⟨_,rfl⟩;(have mY:t<C W:=by rw[ht];exact jc _ aq);(have Og:(D:Int) % (C W:Int)=(t:Int):=by rw[ht,wk]);obtain⟨g',o',rfl,iz,cW⟩:=(HW.o.aa f.o) t mY;have Yo:=HR.o W[t] (bU mY);have bP:=kg.o W[t];have Ql:=Fa (fun U=>AG.o W[t] Yo U);(have bz:(0:Int)<(C W:Int):=al);(have bC:¬(C W:Int)=0:=al);(have Ys:IntKind.i64.wrap ((D:Int) % (C W:Int))=(t:Int):=by rw[Og,js];omega);clear ht Te aq;generalize W[t]=wt at *;generalize sV wt 7=p at *;go_wp2_with fail
    refine(Ql.o _).ae ?_;rintro e w1 ⟨rfl,z⟩;have Gp:=Fa (X.o.aa z);have cM:=Fa (f.o.trans (z.ae f.o.size));have Bb:=Fa (Gp.o.aa ((au _ w1).alloc (ah _) (yM #[J I (p:Int)] 3)));have Bj:=Fa (cM.o.alloc cM.o.size (yM #[J I (p:Int)] 3));have mG:=Fa (rR w1 (p:Int));have u:O (T w)<=O (T (w1.alloc (yM #[J I (p:Int)] 3))):=Bj.o.size;(have py:C (iL Ls)=i:=by rw[bR];exact B9);have jT:=Fa (afx Ls p);(have bu:IntKind.i64.wrap ((Ls.sum:Int)+(p:Int))=(((Ls++[p]).sum:Nat):Int):=by rw[js];simp;omega);have Jj:wT (PO (Ls++[p]) (i+1)):=⟨by simp[B9],fun a b=>by rcases bE.1 b with b |b;exact H.o.six a b;rw[bA.1 b];omega⟩;generalize Bm:(Ls++[p]).sum=s2 at *;have tJ:=Fa Bm;clear Bm cW z X f Gp cM;go_wp2_with (at_builtin;refine CU rfl _ _ rfl (O (T w)) _ (iL Ls) [(p:Int)] rfl Bb.o (M ⟨O (T w1),0,N⟩) 1 rfl mG.o (fun e=>by cases e) (by simp;omega) u ?_;intro v' w3 ao aj;have eo:=Fa (Bj.o.grown aj u (fun k e=>Bb.o.own k e)))
    go_roundw
    case rel=>exact⟨i+1,Ls++[p],al,bd,by rw[tJ.o],Jj,by rw[jT.o];exact ao,eo⟩
    case measure=>simp[Go.RowKit.intOf];omega
   ·have dY:¬(0:Int)<(C W:Int):=al
    have bx:decide (0<C W)=false:=cX al;have Bb:=Fa (X.o.aa ((au _ wr).alloc (ah _) (yM #[J I 1] 3)));have Bj:=Fa (f.o.alloc f.o.size (yM #[J I 1] 3));have mG:=Fa (rR wr 1);have u:O (T w)<=O (T (wr.alloc (yM #[J I 1] 3))):=Bj.o.size;(have py:C (iL Ls)=i:=by rw[bR];exact B9);have jT:=Fa (afx Ls 1);(have bu:IntKind.i64.wrap ((Ls.sum:Int)+1)=(((Ls++[1]).sum:Nat):Int):=by rw[js];simp;omega);have Jj:wT (PO (Ls++[1]) (i+1)):=⟨by simp[B9],fun a b=>by rcases bE.1 b with b |b;exact H.o.six a b;rw[bA.1 b];omega⟩;have tJ:=Fa (Eq.refl (Ls++[1]).sum);generalize Bm:(Ls++[1]).sum=s2 at *;have Cj:=Fa Bm;clear Bm tJ X f aq;go_wp2_with (at_builtin;refine CU rfl _ _ rfl (O (T w)) _ (iL Ls) [(1:Int)] rfl Bb.o (M ⟨O (T wr),0,N⟩) 1 rfl mG.o (fun e=>by cases e) (by simp;omega) u ?_;intro v' w3 ao aj;have eo:=Fa (Bj.o.grown aj u (fun k e=>Bb.o.own k e)))
    go_roundw
    case rel=>exact⟨i+1,Ls++[1],al,bd,by rw[Cj.o],Jj,by rw[jT.o];exact ao,eo⟩
    case measure=>simp[Go.RowKit.intOf];omega
  ·obtain rfl:n=i:=al
   (have YJ:Ls.sum<=100:=by have:=Rz H.o.six;have:=H.o.len;omega);have B9:=H.o.len;by_cases Ba:Ls.sum=0
   focus
    (have IJ:0<C (iL Ls):=by rw[bR];omega);rcases X.o.cases with ⟨_,bw⟩ |⟨g,cap,rfl,bp,hg,bN,bO,hh⟩
    ·rw[bw] at IJ;exact absurd IJ aE
    focus
     have az:=X.o.put 0 1;obtain⟨bf,bg⟩:=hh 0 (by simpa using IJ);rw[bQ] at bf bg;have vT:=Fa (f.o.setCell (p:=⟨g,0,N⟩) bp (J I 1));(have Y6:C (iL Ls)=n:=by rw[bR];exact B9);rw[Y6]
     obtain⟨F,r,rfl⟩:∃F r,Ls=F::r:=by
      cases Ls with
      |nil=>rw[<- B9] at fX;exact absurd fX aE
      |cons F r=>exact⟨F,r,rfl⟩
     (have bb:F=0/\r.sum=0:=by simp at Ba;exact Ba)
     have UG:wT (bW (wr.setCell ⟨g,0,N⟩ (J I 1)) (O (T w)) (Z (M ⟨g,0,N⟩) n cap) (iL (1::r))):=by
      rw[Y6] at az;exact az
     have A:wT (PO (1::r) n):=⟨by simpa using B9,fun a b=>by rcases bY.1 b with rfl |b;omega;exact H.o.six a (dZ _ b)⟩;have m:wT ((1::r).sum=1/\1<=1/\1<=100):=⟨by simp[bb.2],al,al⟩;(have cC:(0:Int)<(n:Int):=al);rw[Ba,show ((0:Nat):Int)=0 from rfl];clear Ba az hh X f Y6 YJ B9 H;go_upto_region 14 with fail
     clear bf bg bb;generalize (wr.setCell ⟨g,0,N⟩ (J I 1))=Q at *;have rp:=UG;have Y:=vT;obtain⟨S,v⟩:∃S:Nat,S=1:=⟨1,rfl⟩;obtain⟨l,R⟩:∃l,l=1::r:=⟨_,rfl⟩;rw[<- R] at A m rp;(have a1:wT (l.sum=S/\1<=S/\S<=100):=by rw[v];exact m);(have Bh:(1:Int)=((S:Nat):Int):=by rw[v];rfl);rw[Bh];clear m UG vT R v Bh;have m:=a1;clear a1
   rotate_left
   focus
    (have YK:¬(Ls.sum:Int)=0:=al);obtain⟨S,v⟩:∃S,Ls.sum=S:=⟨_,rfl⟩;have m:wT (Ls.sum=S/\1<=S/\S<=100):=⟨v,al,al⟩;rw[v] at YK⊢;obtain⟨l,R⟩:∃l,l=Ls:=⟨_,rfl⟩;rw[<- R] at H X m;have A:=H;have rp:=X;have Y:=f;(have YG:((S:Int)==0)=false:=by simpa using YK);clear Ba v R H X f YJ B9;go_upto_region 14 with fail
    clear YK YG;generalize wr=Q at *
   all_goals
    obtain⟨d7,D6,e7,FQ⟩:=rp.o.ints;have bh:=Fa FQ;(have aJ:C (iL l)=n:=by rw[bR];exact A.o.len);rw[aJ] at e7;cases e7;have bo:=m.o.2.1;have kF:=m.o.2.2;have Jo:=Fa m.o.1;(have k5:wT (C (rO l)=n):=by show _=_;rw[WY];exact A.o.len);(have EC:wT (∀j (h:j<C l),(rO l)[j]'(by rw[WY];exact h)=qF ((l[j]:Rat)/(S:Rat))):=fun j h=>by simp[rO,Jo.o]);clear FQ m;go_wp2_with fail
    go_loopw [11,12] (fun x iv wr2=>∃i:Nat,i<=n/\iv=J I i/\wT (c5 wr2 (O (T Q)) x ((rO l).take i))/\wT (da Q wr2)) (fun _ iv _=>n - (Go.RowKit.intOf iv).toNat)
    case atStart=>exact⟨0,aV _,rfl,c5.empty _ _,au _ _⟩
    case round=>
     obtain⟨i,hi,rfl,HY,V⟩:=hrel;by_cases ak:i<n
     ·have OI:i<C (iL l):=by rw[aJ];exact ak
      (have L:i<C l:=by rw[<- bR];exact OI);obtain⟨g',o',e8,iz,cL⟩:=(bh.o.aa V.o) i OI;cases e8;(try rw[bQ] at cL)
      (have Bh:(iL l)[i]'OI=((l[i]'L:Nat):Int):=by simp[iL]);rw[Bh] at cL;have bD:=A.o.six (l[i]'L) (bU L);have OO:=EC.o i L;(have bk:wT ((rO l).take i++[qF (((l[i]'L:Nat):Rat)/(S:Rat))]=(rO l).take (i+1)):=by show _=_;rw[gR (by rw[k5.o];exact ak),OO]);clear Bh OO;generalize (l[i]'L)=B7 at *;have pR:=Fa (fun U=>P.o B7 al U);have Qo:=Fa (fun U=>P.o S al U);have bm:=Fa (fun U=>JI.o B7 S al al al U);generalize qF ((B7:Nat):Rat)=fa at *;generalize qF ((S:Nat):Rat)=fs at *;generalize qF (((B7:Nat):Rat)/((S:Nat):Rat))=fq at *;obtain⟨an,ax,ay⟩:=fa;obtain⟨sn,sx,sy⟩:=fs;obtain⟨qn,q,y⟩:=fq;go_wp2_with fail
      refine(pR.o _).ae ?_;rintro e v1 ⟨rfl,z⟩;go_wp2_with fail
      refine(Qo.o _).ae ?_;rintro e v2 ⟨rfl,ab⟩;go_wp2_with fail
      refine(bm.o _).ae ?_;rintro e v3 ⟨rfl,bc⟩;have aI:=ab.trans (bc.ae ab.size);have Zp:=z.trans (aI.ae z.size);clear z ab bc aI;have bB:=aL.new v3 qn q y;have ad:=Zp.alloc Zp.size (FC qn q y);obtain⟨k0,k1,k2, -⟩:=bB.facts
      have aR:aL ((v3.alloc (FC qn q y)).alloc (FC qn q y)) (O (T v3)+1) qn q y:=by
       have h:=aL.new (v3.alloc (FC qn q y)) qn q y;rwa [eV] at h
      have ai:=ad.alloc ad.size (FC qn q y);have Md:=Fa (HY.o.aa ai);have fp:=Fa (V.o.trans (ai.ae V.o.size));have bX:=Fa aR;have u:O (T Q)<=O (T ((v3.alloc (FC qn q y)).alloc (FC qn q y))):=fp.o.size;(have mY:C ((rO l).take i)<=5:=by rw[fh,k5.o];omega);clear Zp ad ai bB aR HY V cL;go_wp2_with (at_builtin;refine ajx rfl _ _ rfl (O (T Q)) _ ((rO l).take i) (qn,q,y) rfl Md.o (O (T v3)+1) rfl bX.o al u ?_;intro v' v6 bt br;have vV:=Fa (fp.o.grown br u (fun k e=>Md.o.own k e)))
      go_roundw
      case rel=>exact⟨i+1,al,bd,by rw[<- bk.o];exact bt,vV⟩
      case measure=>simp[Go.RowKit.intOf];omega
     ·obtain rfl:i=n:=al
      go_wp2;go_ret;have K:=HY.o;rw[kO (by rw[k5.o];exact ah _)] at K;exact⟨_,l,rfl,K.lower Y.o.size,A.o,by rw[Jo.o];exact bo,Y.o.trans (V.o.ae Y.o.size)⟩
variable {ops:Array Oper} {rest:List Oper} {xs:List wF} {c:Nat}
def iq (t:TypeId) (w w':E):Prop:=∀(k:Nat) (c:Array wF) (fr:Nat×Nat),w.heap[k]? =M (Obj.cells c t fr) ->w'.heap[k]? =M (Obj.cells c t fr)
theorem iq.aa {t:TypeId} (b:da w w'):iq t w w':=fun k _ _ h=>(b.block k (cS.1 h).1).trans h
theorem iq.grown {t b:TypeId} {row:Option Nat} (d:w.grownBy w' row) (r:∀g,row=M g ->∃c f,w.heap[g]? =M (yM c b f)) (n:t≠b):iq t w w':=fun k c f h=>by
 refine(d.block k (cS.1 h).1 fun e=>?_).trans h;obtain⟨i,j,a⟩:=r k e.symm;rw[h] at a;cases a;exact n rfl
theorem iq.set {t d:TypeId} {b:Nat} {f:Array wF} {r:Nat×Nat} (a:w.heap[b]? =M (yM f d r)) (n:t≠d) (j:Nat) (y:wF):iq t w (w.setCell ⟨b,j,N⟩ y):=fun k c i h=>by
 refine(eW w ⟨b,j,N⟩ y k fun e=>?_).trans h;have g:k=b:=e;subst g;rw[h] at a;cases a;exact n rfl
theorem iq.trans {t:TypeId} {a b c:E} (h:iq t a b) (k:iq t b c):iq t a c:=fun i s f d=>k i s f (h i s f d)
theorem qT {B:Nat} {e:TypeId} {s:Nat} {v:wF} (h:w.ownsRow B e s v n xs) (k:iq e w w'):w'.ownsRow B e s v n xs:=by
 refine⟨h.1,?_⟩;rcases h.2 with a |⟨g,cap,r,a,b,c,d⟩
 ·exact yd a
 ·exact yk ⟨g,cap,r,a,b,k _ _ _ c,d⟩
theorem Sa {B:Nat} {e:TypeId} {s:Nat} {v:wF} (h:w.ownsRow B e s v n xs):∀g,v.ownBlock=M g ->∃c f,w.heap[g]? =M (yM c e f):=fun g a=>by
 rcases h.2 with ⟨rfl,_⟩ |⟨g',cap,r,rfl,d,b,i⟩
 ·cases a
 ·cases a;exact⟨_,_,b⟩
theorem Sb {B:Nat} {e:TypeId} {s:Nat} {v:wF} (h:w.ownsRow B e s v n xs):∀g,v.ownBlock=M g ->B<=g:=fun g a=>by
 rcases h.2 with ⟨rfl,_⟩ |⟨g',cap,r,rfl,b,c,d⟩
 ·cases a
 ·cases a;exact b
theorem qR {B:Nat} {e:TypeId} {s:Nat} {v:wF} (h:w.ownsRow B e s v n xs):∃a c,v=Z a n c/\(a=N ->c=0):=by
 rcases h.2 with ⟨rfl,rfl⟩ |⟨g',cap,r,rfl,b,d,f⟩
 ·exact⟨N,0,rfl,fun _=>rfl⟩
 ·exact⟨_,_,rfl,fun e=>by cases e⟩
theorem Nx {B:Nat} {e:TypeId} {s:Nat} {v:wF} (h:w.ownsRow B e s v n xs) (f:B'<=B):w.ownsRow B' e s v n xs:=by
 refine⟨h.1,?_⟩;rcases h.2 with a |⟨g,cap,r,a,b,c,d⟩
 ·exact yd a
 ·exact yk ⟨g,cap,r,a,aM f b,c,d⟩
theorem KA {B:Nat} {e:TypeId} {s:Nat} (h:w.ownsRow B e s (Z a n c) n xs) (l:j<C xs):∃g,a=M ⟨g,0,N⟩/\g<O (T w)/\w.cell? ⟨g,j,N⟩=M xs[j]:=by
 rcases h.2 with ⟨b,d⟩ |⟨g',cap,r,b,d,f,o,p,q,k⟩
 ·have:=h.1;subst d;rw[oN] at this;omega
 ·cases b;refine⟨g',rfl,(cS.1 f).1,?_⟩;have m:j<n*s:=by have:=h.1;omega
  rw[ba w g' j _ _ (0,0) f]
  have i:r[j]? =(r.toList.take (n*s))[j]?:=by
   rw[sQ,aw m,wu]
  rw[i,k,a7 l]
abbrev PV:Type:=ByteArray×wF×List ByteArray
def vC:List PV ->List wF
 |[]=>[]
 |p::l=>zK p.1::p.2.1::vC l
theorem M6:∀l,C (vC l)=C l*2
 |[]=>rfl
 |p::l=>by
  show C (vC l)+1+1=(C l+1)*2;rw[M6 l];omega
theorem ab4 (p:PV):∀l,vC (l++[p])=vC l++[zK p.1,p.2.1]
 |[]=>rfl
 |q::l=>by
  show Value.string q.1::q.2.1::vC (l++[p])=_;rw[ab4 p l];rfl
theorem ab3:∀(l:List PV) (k:Nat) (h:k<C l),(vC l)[k*2]'(by rw[M6];omega)=zK l[k].1/\(vC l)[k*2+1]'(by rw[M6];omega)=l[k].2.1
 |p::l,0,_=>⟨rfl,rfl⟩
 |p::l,k+1,h=>by
  obtain⟨a,b⟩:=ab3 l k (by simpa using h);refine⟨?_,?_⟩
  ·simp only[show (k+1)*2=k*2+1+1 by omega];exact a
  ·simp only[show (k+1)*2+1=k*2+1+1+1 by omega];exact b
def Ax (w:E) (B:Nat) (x:wF) (P:List PV):Prop:=w.ownsRow B 60 2 x (C P) (vC P)/\∀p∈P,kY w B p.2.1 p.2.2
abbrev PL:Type:=wF×Kx
def Az (w:E) (B:Nat) (y:wF) (P:List PL):Prop:=w.ownsRow B 27 1 y (C P) (P.map (·.1))/\∀p∈P,bW w B p.1 p.2
abbrev PR:Type:=wF×List Fr
def Ay (w:E) (B:Nat) (z:wF) (P:List PR):Prop:=w.ownsRow B 36 1 z (C P) (P.map (·.1))/\∀p∈P,c5 w B p.1 p.2
theorem Ax.keep {B:Nat} {x:wF} {P:List PV} (h:Ax w B x P) (h1:iq 60 w w') (a:iq 9 w w'):Ax w' B x P:=⟨qT h.1 h1,fun p b=>qT (h.2 p b) a⟩
theorem Az.keep {B:Nat} {x:wF} {P:List PL} (h:Az w B x P) (h1:iq 27 w w') (a:iq 3 w w'):Az w' B x P:=⟨qT h.1 h1,fun p b=>qT (h.2 p b) a⟩
theorem Ay.keep {B:Nat} {x:wF} {P:List PR} (h:Ay w B x P) (h1:iq 36 w w') (a:iq 63 w w'):Ay w' B x P:=⟨qT h.1 h1,fun p b=>qT (h.2 p b) a⟩
theorem Ax.nil (w:E) (B:Nat):Ax w B (Z N 0 0) []:=⟨⟨rfl,yd ⟨rfl,rfl⟩⟩,fun p h=>by cases h⟩
theorem Az.nil (w:E) (B:Nat):Az w B (Z N 0 0) []:=⟨⟨rfl,yd ⟨rfl,rfl⟩⟩,fun p h=>by cases h⟩
theorem Ay.nil (w:E) (B:Nat):Ay w B (Z N 0 0) []:=⟨⟨rfl,yd ⟨rfl,rfl⟩⟩,fun p h=>by cases h⟩
theorem Tryz.infoInts:(prog.info? 27).map (fun i=>(i.zero,i.size,i.bytes))=M (M (Z N 0 0),1,24):=ao
theorem Tryz.infoFracs:(prog.info? 36).map (fun i=>(i.zero,i.size,i.bytes))=M (M (Z N 0 0),1,24):=ao
theorem Tryz.infoVar:(prog.info? 60).map (fun i=>(i.zero,i.size,i.bytes))=M (M (zd #[zK ⟨#[]⟩,Z N 0 0]),2,40):=ao
theorem aju {o:Oper} {a:Act} (p:o.guard=N) (s x:Operand)
  (k:o.op=.call {callee:=.builtin .append,args:= #[s,x],argTypes:= #[23,23]}) (base:Nat) (v:wF) (P:List PL) (q:wF) (l:bV q) (hs:a.eval s=v) (y:w.ownsRow base 27 1 v (C P) (P.map (·.1))) (g:Nat) (m:a.eval x=Z (M ⟨g,0,N⟩) 1 1) (i:w.cell? ⟨g,0,N⟩=M q) (D:C P+1<=100000) (A:base<=O (T w))
  (h:∀v' w',w'.ownsRow base 27 1 v' (C P+1) (P.map (·.1)++[q]) ->w.grownBy w' v.ownBlock ->wpList prog ops Q rest (a.put o.dst v') w'):wpList prog ops Q (o::rest) a w:=by
 obtain⟨n,d,z,r,t⟩:=eC Tryz.infoInts;refine zg _ p s x 23 k base 27 n (Z N 0 0) 1 24 underlying23 d z r t rfl a6 v (C P) _ hs y ⟨g,0,N⟩ 1 1 [q] m rfl ?_ ?_ (by unfold maxLen;omega) al A ?_
 ·intro j u b;match j,b with
  |0,b=>cases b;exact i
  |j+1,b=>simp at b
 ·intro u c;simp only[bY,gK,jq] at c;subst c;obtain⟨_,_,_,rfl⟩:=l;rfl
 ·intro v' w' e f _;exact h v' w' e f
theorem ajt {o:Oper} {a:Act} (p:o.guard=N) (s x:Operand)
  (k:o.op=.call {callee:=.builtin .append,args:= #[s,x],argTypes:= #[24,24]}) (base:Nat) (v:wF) (P:List PR) (q:wF) (l:bV q) (hs:a.eval s=v) (y:w.ownsRow base 36 1 v (C P) (P.map (·.1))) (g:Nat) (m:a.eval x=Z (M ⟨g,0,N⟩) 1 1) (i:w.cell? ⟨g,0,N⟩=M q) (D:C P+1<=100000) (A:base<=O (T w))
  (h:∀v' w',w'.ownsRow base 36 1 v' (C P+1) (P.map (·.1)++[q]) ->w.grownBy w' v.ownBlock ->wpList prog ops Q rest (a.put o.dst v') w'):wpList prog ops Q (o::rest) a w:=by
 obtain⟨n,d,z,r,t⟩:=eC Tryz.infoFracs;refine zg _ p s x 24 k base 36 n (Z N 0 0) 1 24 underlying24 d z r t rfl a6 v (C P) _ hs y ⟨g,0,N⟩ 1 1 [q] m rfl ?_ ?_ (by unfold maxLen;omega) al A ?_
 ·intro j u b;match j,b with
  |0,b=>cases b;exact i
  |j+1,b=>simp at b
 ·intro u c;simp only[bY,gK,jq] at c;subst c;obtain⟨_,_,_,rfl⟩:=l;rfl
 ·intro v' w' e f _;exact h v' w' e f
theorem ajm {o:Oper} {a:Act} (s x:Operand)
  (i:o.op=.call {callee:=.builtin .append,args:= #[s,x],argTypes:= #[22,22]}) (base:Nat) (v:wF) (P:List PV) (m:ByteArray) (q:wF) (k:bV q) (hs:a.eval s=v) (A:w.ownsRow base 60 2 v (C P) (vC P)) (g:Nat) (l:a.eval x=Z (M ⟨g,0,N⟩) 1 1) (p:w.cell? ⟨g,0,N⟩=M (zK m)) (r:w.cell? ⟨g,1,N⟩=M q) (Bm:C P+1<=100000) (D:base<=O (T w))
  (h:∀v' w',w'.ownsRow base 60 2 v' (C P+1) (vC P++[zK m,q]) ->w.grownBy w' v.ownBlock ->K (a.put o.dst v') w'):o.wp prog a w K Q:=by
 obtain⟨n,d,z,t,y⟩:=eC Tryz.infoVar;refine wp_append_own _ s x 22 i base 60 n (zd #[zK ⟨#[]⟩,Z N 0 0]) 2 40 underlying22 d z t y rfl a6 v (C P) _ hs A ⟨g,0,N⟩ 1 1 [zK m,q] l rfl ?_ ?_ (by unfold maxLen;omega) al D ?_
 ·intro j u b;match j,b with
  |0,b=>cases b;exact p
  |1,b=>cases b;exact r
  |j+2,b=>simp at b
 ·intro u c;simp only[bY,gK,jq] at c;rcases c with rfl |rfl
  ·rfl
  ·obtain⟨_,_,_,rfl⟩:=k;rfl
 ·intro v' w' e f _;exact h v' w' e f
theorem Pn (a:List Fr):∀l,dM (l++a)=dM l++dM a
 |[]=>rfl
 |f::l=>by
  show Value.bool f.1::Value.string f.2.1::Value.string f.2.2::dM (l++a)=_;rw[Pn a l];rfl
theorem aha {o:Nat}:∀ {l:List Fr},dH w (M ⟨g,o,N⟩) l ->∀j u,(dM l)[j]? =M u ->w.cell? ((⟨g,o,N⟩:Addr).add j)=M u/\u.oneCell'=true:=by
 intro l h j u a;have r:j<C (dM l):=(mO.1 a).1;rw[yH] at r;have k:j/3<C l:=al
 obtain⟨g',o',e,_,b,c,d⟩:=h (j/3) k;cases e
 have f:(⟨g,o,N⟩:Addr).add j=⟨g,o+j,N⟩:=by
  rw[Addr.add];by_cases b:j=0
  ·subst b;simp
  ·simp[b]
 have Y:=LA l (j/3) k;rw[f];have m:j % 3=0∨j % 3=1∨j % 3=2:=al
 rcases m with m |m |m
 ·have e:j=j/3*3:=al
  rw[e] at a⊢;rw[Y.1] at a;cases a;exact⟨b,rfl⟩
 ·have e:j=j/3*3+1:=al
  rw[e] at a⊢;rw[Y.2.1] at a;cases a;exact⟨by rw[<- zl];exact c,rfl⟩
 ·have e:j=j/3*3+2:=al
  rw[e] at a⊢;rw[Y.2.2] at a;cases a;exact⟨by rw[<- zl];exact d,rfl⟩
theorem ajw {o:Oper} {a:Act} (q:o.guard=N) (s x:Operand)
  (k:o.op=.call {callee:=.builtin .append,args:= #[s,x],argTypes:= #[36,36]}) (base:Nat) (v:wF) (l la:List Fr) (hs:a.eval s=v) (y:c5 w base v l) (g c ca:Nat) (n:a.eval x=Z (M ⟨g,c,N⟩) (C la) ca) (f:dH w (M ⟨g,c,N⟩) la) (D:C l+C la<=100000) (A:base<=O (T w))
  (h:∀v' w',c5 w' base v' (l++la) ->w.grownBy w' v.ownBlock ->wpList prog ops Q rest (a.put o.dst v') w'):wpList prog ops Q (o::rest) a w:=by
 obtain⟨p,d,z,r,t⟩:=eC Tryz.infoFrac;refine zg _ q s x 36 k base 63 p (zd #[zZ xd,zK ⟨#[]⟩,zK ⟨#[]⟩]) 3 40 underlying36 d z r t rfl a6 v (C l) _ hs y ⟨g,c,N⟩ (C la) ca (dM la) n (by rw[yH];omega) (fun j u b=>(aha f j u b).1) (fun u m=>?_) (by unfold maxLen;omega) al A ?_
 ·obtain⟨j,b,rfl⟩:=iE m;exact(aha f j _ (a7 b)).2
 ·intro v' w' e i _;refine h v' w' ?_ i;rw[c5,cE,Pn];exact e
variable {bk:Bool} {Rs:List PR} {Vs:List PV} {e s v':wF} {W':E}
structure MS (w W:E) (s e t:wF) (bk:Bool) (x y z:wF) (Vs:List PV) (Ls:List PL) (Rs:List PR):Prop where
 rb:W.heap[O (T w)]? =M (yM #[s,e,t,zZ bk] 47 (0,0))
 res:cj W (O (T w)+1) (Z N 0 0) (Z N 0 0) (Z N 0 0)
 box:cj W (O (T w)+2) x y z
 vs:Ax W (O (T w)) x Vs
 ls:Az W (O (T w)) y Ls
 rs:Ay W (O (T w)) z Rs
 bel:da w W
theorem MS.step {W:E} {t:wF} {x:wF} {Ls:List PL} (h:MS w W s e t bk x y z Vs Ls Rs) (b:da W W'):MS w W' s e t bk x y z Vs Ls Rs:=
 ⟨(b.block _ (cS.1 h.rb).1).trans h.rb,h.res.aa b h.res.lt,h.box.aa b h.box.lt,h.vs.keep (.aa b) (.aa b),h.ls.keep (.aa b) (.aa b),h.rs.keep (.aa b) (.aa b),h.bel.trans (b.ae h.bel.size)⟩
theorem MS.cells {W:E} {t:wF} {x:wF} {Ls:List PL} (h:MS w W s e t bk x y z Vs Ls Rs):W.cell? ⟨O (T w),0,N⟩=M s/\W.cell? ⟨O (T w),1,N⟩=M e/\W.cell? ⟨O (T w),2,N⟩=M t/\W.cell? ⟨O (T w),3,N⟩=M (zZ bk):=by
 refine⟨?_,?_,?_,?_⟩<;>(rw[ba W (O (T w)) _ _ _ (0,0) h.rb];rfl)
theorem MS.lt {W:E} {t:wF} {x:wF} {Ls:List PL} (h:MS w W s e t bk x y z Vs Ls Rs):O (T w)+2<O (T W):=h.box.lt
theorem Z5 {W:E} {v:wF} {t:TypeId} {a:Nat} (b:da w W) (h:W.ownsRow (O (T w)) t a v n xs) (g:W.grownBy W' v.ownBlock):da w W':=b.grown g b.size (fun k e=>Sb h k e)
theorem cj.set0 {W:E} {x:wF} (h:cj W g x y z) (v:wF):cj (W.setCell ⟨g,0,N⟩ v) g v y z:=jW W g 0 _ _ v h
theorem cj.set1 {W:E} {x:wF} (h:cj W g x y z) (v:wF):cj (W.setCell ⟨g,1,N⟩ v) g x v z:=jW W g 1 _ _ v h
theorem cj.set2 {W:E} {x:wF} (h:cj W g x y z) (v:wF):cj (W.setCell ⟨g,2,N⟩ v) g x y v:=jW W g 2 _ _ v h
theorem MS.pushV {W:E} {t:wF} {x:wF} {Ls:List PL} (h:MS w W s e t bk x y z Vs Ls Rs) {m:ByteArray} {q:wF} {l:List ByteArray} (r:W'.ownsRow (O (T w)) 60 2 v' (C Vs+1) (vC Vs++[zK m,q])) (g:W.grownBy W' x.ownBlock) (f:kY W (O (T w)) q l):
  cj W' (O (T w)+2) x y z/\MS w (W'.setCell ⟨O (T w)+2,0,N⟩ v') s e t bk v' y z (Vs++[(m,q,l)]) Ls Rs:=by
 have k:∀b:TypeId,b≠60 ->iq b W W':=fun b n=>iq.grown g (Sa h.vs.1) n;have B7:cj W' (O (T w)+2) x y z:=k 26 a6 _ _ _ h.box;have a:∀b:TypeId,b≠26 ->iq b W' (W'.setCell ⟨O (T w)+2,0,N⟩ v'):=fun b n=>iq.set B7 n 0 v';refine⟨B7,?_,?_,B7.set0 v',⟨?_,?_⟩,?_,?_,?_⟩
 ·exact a 47 a6 _ _ _ (k 47 a6 _ _ _ h.rb)
 ·exact(eW W' ⟨O (T w)+2,0,N⟩ v' (O (T w)+1) (by show O (T w)+1≠w.heap.size+2;omega)).trans (k 26 a6 _ _ _ h.res)
 ·rw[ab4,cE];exact qT r (a 60 a6)
 ·intro p c;have d:=(k 9 a6).trans (a 9 a6);rcases bE.1 c with c |c
  ·exact qT (h.vs.2 p c) d
  ·rw[bA.1 c];exact qT f d
 ·exact h.ls.keep ((k _ a6).trans (a _ a6)) ((k _ a6).trans (a _ a6))
 ·exact h.rs.keep ((k _ a6).trans (a _ a6)) ((k _ a6).trans (a _ a6))
 ·exact(Z5 h.bel h.vs.1 g).setCell (p:=⟨O (T w)+2,0,N⟩) (by show O (T w)<=O (T w)+2;omega) _
theorem MS.pushL {W:E} {t:wF} {x:wF} {Ls:List PL} (h:MS w W s e t bk x y z Vs Ls Rs) {q:wF} (r:W'.ownsRow (O (T w)) 27 1 v' (C Ls+1) (Ls.map (·.1)++[q])) (g:W.grownBy W' y.ownBlock) (f:bW W (O (T w)) q l):
  cj W' (O (T w)+2) x y z/\MS w (W'.setCell ⟨O (T w)+2,1,N⟩ v') s e t bk x v' z Vs (Ls++[(q,l)]) Rs:=by
 have k:∀b:TypeId,b≠27 ->iq b W W':=fun b n=>iq.grown g (Sa h.ls.1) n;have B7:cj W' (O (T w)+2) x y z:=k 26 a6 _ _ _ h.box;have a:∀b:TypeId,b≠26 ->iq b W' (W'.setCell ⟨O (T w)+2,1,N⟩ v'):=fun b n=>iq.set B7 n 1 v';refine⟨B7,?_,?_,B7.set1 v',?_,⟨?_,?_⟩,?_,?_⟩
 ·exact a 47 a6 _ _ _ (k 47 a6 _ _ _ h.rb)
 ·exact(eW W' ⟨O (T w)+2,1,N⟩ v' (O (T w)+1) (by show O (T w)+1≠w.heap.size+2;omega)).trans (k 26 a6 _ _ _ h.res)
 ·exact h.vs.keep ((k _ a6).trans (a _ a6)) ((k _ a6).trans (a _ a6))
 ·rw[gV,cE];exact qT r (a 27 a6)
 ·intro p c;have d:=(k 3 a6).trans (a 3 a6);rcases bE.1 c with c |c
  ·exact qT (h.ls.2 p c) d
  ·rw[bA.1 c];exact qT f d
 ·exact h.rs.keep ((k _ a6).trans (a _ a6)) ((k _ a6).trans (a _ a6))
 ·exact(Z5 h.bel h.ls.1 g).setCell (p:=⟨O (T w)+2,1,N⟩) (by show O (T w)<=O (T w)+2;omega) _
theorem MS.pushR {W:E} {t:wF} {x:wF} {Ls:List PL} (h:MS w W s e t bk x y z Vs Ls Rs) {q:wF} {l:List Fr} (r:W'.ownsRow (O (T w)) 36 1 v' (C Rs+1) (Rs.map (·.1)++[q])) (g:W.grownBy W' z.ownBlock) (f:c5 W (O (T w)) q l):
  cj W' (O (T w)+2) x y z/\MS w (W'.setCell ⟨O (T w)+2,2,N⟩ v') s e t bk x y v' Vs Ls (Rs++[(q,l)]):=by
 have k:∀b:TypeId,b≠36 ->iq b W W':=fun b n=>iq.grown g (Sa h.rs.1) n;have B7:cj W' (O (T w)+2) x y z:=k 26 a6 _ _ _ h.box;have a:∀b:TypeId,b≠26 ->iq b W' (W'.setCell ⟨O (T w)+2,2,N⟩ v'):=fun b n=>iq.set B7 n 2 v';refine⟨B7,?_,?_,B7.set2 v',?_,?_,⟨?_,?_⟩,?_⟩
 ·exact a 47 a6 _ _ _ (k 47 a6 _ _ _ h.rb)
 ·exact(eW W' ⟨O (T w)+2,2,N⟩ v' (O (T w)+1) (by show O (T w)+1≠w.heap.size+2;omega)).trans (k 26 a6 _ _ _ h.res)
 ·exact h.vs.keep ((k _ a6).trans (a _ a6)) ((k _ a6).trans (a _ a6))
 ·exact h.ls.keep ((k _ a6).trans (a _ a6)) ((k _ a6).trans (a _ a6))
 ·rw[gV,cE];exact qT r (a 36 a6)
 ·intro p c;have d:=(k 63 a6).trans (a 63 a6);rcases bE.1 c with c |c
  ·exact qT (h.rs.2 p c) d
  ·rw[bA.1 c];exact qT f d
 ·exact(Z5 h.bel h.rs.1 g).setCell (p:=⟨O (T w)+2,2,N⟩) (by show O (T w)<=O (T w)+2;omega) _
structure VK (v:Nat) (Vs:List PV):Prop where
 len:C Vs=v
 each:∀j (h:j<C Vs),Vs[j].1=j7 110 j/\∃k,1<=k/\k<=3/\Vs[j].2.2=uQ k
theorem VK.snoc (h:VK v Vs) (q:wF) (h1:1<=k) (a:k<=3):VK (v+1) (Vs++[(j7 110 v,q,uQ k)]):=by
 refine⟨by simp[h.len],fun j b=>?_⟩;rcases dX j (C Vs) with l |g
 ·rw[nU l];exact h.each j l
 ·rw[tX g];have e:j=v:=by simp at b;have:=h.len;omega
  subst e;simp[h.len];exact⟨k,h1,a,rfl⟩
def iO (Vs:List PV):List Vr:=Vs.map fun p=>(p.1,p.2.2)
def jg (Ls:List PL):List Kx:=Ls.map (·.2)
def qg (Rs:List PR):List (List Fr):=Rs.map (·.2)
structure UA (bk:Bool) (n j:Nat) (l:Kx):Prop where
 up:Up l n
 few:C l<=3
 rank:∀x∈l,if bk=y6 then(j:Int)<x else x<(j:Int)
structure aa4 (S:Ja) (j:Nat) (l:Kx) (r:List Fr):Prop where
 len:C r=cnt S (af l)*sz S j
 rows:∀i,i<cnt S (af l) ->jf (gg r (sz S j) i)=y6
 small:∀f∈r,f.2.1.size+f.2.2.size<=2
structure Ed (bk:Bool) (n v:Nat) (S:Ja) (Ls:List PL) (Rs:List PR):Prop where
 len:C Ls=v
 lenR:C Rs=v
 pars:∀j (h:j<C Ls),UA bk n j Ls[j].2
 rows:∀j (h:j<C Ls) (h':j<C Rs),aa4 S j Ls[j].2 Rs[j].2
theorem Ed.snoc {Ls:List PL} (h:Ed bk n v S Ls Rs) {q c:wF} {r:List Fr} (h1:UA bk n v l) (b:aa4 S v l r):Ed bk n (v+1) S (Ls++[(q,l)]) (Rs++[(c,r)]):=by
 refine⟨by simp[h.len],by simp[h.lenR],fun j a=>?_,fun j a d=>?_⟩
 ·rcases dX j (C Ls) with t |g
  ·rw[nU t];exact h.pars j t
  ·rw[tX g];(have e:j=v:=by simp at a;have:=h.len;omega);subst e;simpa [h.len] using h1
 ·rcases dX j (C Ls) with t |g
  ·have z:j<C Rs:=by have:=h.len;have:=h.lenR;omega
   rw[nU t,nU z];exact h.rows j t z
  ·have m:C Rs<=j:=by have:=h.len;have:=h.lenR;omega
   rw[tX g,tX m];(have e:j=v:=by simp at a;have:=h.len;omega);subst e;simpa [h.len,h.lenR] using b
structure PP (bk:Bool) (n v u:Nat) (l:Kx):Prop where
 ok:UA bk n v l
 lt:∀x∈l,x<(u:Int)
theorem PP.nil (bk:Bool) (n v:Nat):PP bk n v 0 []:=⟨⟨eH.2 ⟨fun x h=>(gK h).elim,List.Pairwise.nil⟩,aE,fun x h=>(gK h).elim⟩,fun x h=>(gK h).elim⟩
theorem PP.skip {u:Nat} (h:PP bk n v u l):PP bk n v (u+1) l:=⟨h.ok,fun x a=>by have:=h.lt x a;omega⟩
theorem PP.snoc {u:Nat} (h:PP bk n v u l) (d:u<n) (c:C l≠3) (r:if bk=y6 then v<u else u<v):PP bk n v (u+1) (l++[(u:Int)]):=by
 refine⟨⟨eH.2 ⟨fun x a=>?_,?_⟩,?_,fun x a=>?_⟩,fun x a=>?_⟩
 ·rcases bE.1 a with a |a
  ·exact(eH.1 h.ok.up).1 x a
  ·rw[bA.1 a];omega
 ·rw[List.pairwise_append];refine⟨(eH.1 h.ok.up).2,Hk _ _,fun x a y b=>?_⟩;rw[bA.1 b];exact h.lt x a
 ·have:=h.ok.few;simp;omega
 ·rcases bE.1 a with a |a
  ·exact h.ok.rank x a
  ·rw[bA.1 a];cases bk
   ·simp at r⊢;exact r
   ·simp at r⊢;exact r
 ·rcases bE.1 a with a |a
  ·have:=h.lt x a;omega
  ·rw[bA.1 a];omega
structure RP (s k:Nat) (r:List Fr):Prop where
 len:C r=k*s
 rows:∀i,i< k ->jf (gg r s i)=y6
 small:∀f∈r,f.2.1.size+f.2.2.size<=2
theorem RP.nil (s:Nat):RP s 0 []:=⟨aE,fun i a=>al,fun f h=>by cases h⟩
theorem RP.snoc {s:Nat} {r l:List Fr} (h:RP s k r) (c:C l=s) (o:jf l=y6) (j:∀f∈l,f.2.1.size+f.2.2.size<=2):RP s (k+1) (r++l):=by
 refine⟨by rw[cE,h.len,c,iC,k8],fun i p=>?_,fun f b=>?_⟩
 ·have m:i*s+s<=k*s∨i=k:=by
   rcases dX i k with a |a
   ·left
    have:=lR s a;rw[Nat.succ_mul] at this;exact this
   ·right;omega
  rcases m with m |rfl
  ·have d:i<k:=by
    rcases dX i k with a |a
    ·exact a
    ·have n:=lR s a;by_cases g:s=0
     ·subst g;have:l=[]:=Ho.1 c;subst this;exact absurd o a6
     ·omega
   have e:gg (r++l) s i=gg r s i:=by
    rw[gg,gg,List.drop_append_of_le_length (by rw[h.len];omega),VP (by rw[p8,h.len];omega)]
   rw[e];exact h.rows i d
  ·have e:gg (r++l) s i=l:=by
    rw[gg, <- h.len,List.drop_left, <- c,iD]
   rw[e];exact o
 ·rcases bE.1 b with b |b
  ·exact h.small f b
  ·exact j f b
theorem Ax.Fd {W:E} {B:Nat} {x:wF} (h:Ax W B x Vs):∃a c,x=Z a (C (iO Vs)) c/\tB W a (iO Vs):=by
 have n:C (iO Vs)=C Vs:=by simp[iO]
 obtain⟨a,c,rfl,_⟩:=qR h.1;refine⟨a,c,by rw[n],fun k f=>?_⟩;rw[n] at f;obtain⟨p,q⟩:=ab3 Vs k f;obtain⟨g,rfl,r,i⟩:=KA h.1 (j:=k*2) (by rw[M6];omega);obtain⟨g',e,_,l⟩:=KA h.1 (j:=k*2+1) (by rw[M6];omega);cases e;rw[p] at i;rw[q] at l;have o:=h.2 Vs[k] (bU f);obtain⟨b,cb,m,s⟩:=o.st
 have u:Vs[k].2.2.length<=cb:=by
  rcases o.2 with ⟨d,v⟩ |⟨t,cap,y,d,_,_,w,_⟩
  ·omega
  ·rw[m] at d;injection d with _ _ h6;omega
 refine⟨g,0,b,cb,rfl,r,?_,?_,?_,?_⟩
 ·rw[bQ,i];simp[iO]
 ·rw[bQ,l,m];simp[iO]
 ·simpa [iO] using s
 ·simpa [iO] using u
theorem Az.pars {W:E} {B:Nat} {Ls:List PL} (h:Az W B y Ls):∃a c,y=Z a (C (jg Ls)) c/\dP W a (jg Ls)/\pP W a (jg Ls):=by
 have l:C (jg Ls)=C Ls:=by simp[jg]
 obtain⟨a,c,rfl,_⟩:=qR h.1
 have t:∀k (d:k<C Ls),∃g,a=M ⟨g,0,N⟩/\g<O (T W)/\∃b cb,W.cell? ⟨g,k,N⟩=M (Z b Ls[k].2.length cb)/\aB W b Ls[k].2/\(b=N ->cb=0):=fun k d=>by
  obtain⟨g,rfl,f,e⟩:=KA h.1 (j:=k) (by simpa using d);have r:=h.2 Ls[k] (bU d);obtain⟨b,cb,m,n⟩:=qR r;obtain⟨u,Bb,q,s⟩:=r.ints;rw[m] at q;cases q;refine⟨g,rfl,f,b,cb,?_,s,n⟩;rw[e];simp[m]
 refine⟨a,c,by rw[l],fun k d=>?_,fun k d g o b z x v p n=>?_⟩
 ·rw[l] at d;obtain⟨g,rfl,f,b,cb,e,s,_⟩:=t k d;exact⟨g,0,b,cb,rfl,f,by rw[bQ,e];simp[jg],by simpa [jg] using s⟩
 ·rw[l] at d;obtain⟨g',i,_,u,Bb,e,_,w⟩:=t k d;rw[v] at i;cases i;rw[bQ,e] at p;cases p;exact w n
theorem Ay.rows {W:E} {B:Nat} (h:Ay W B z Rs):∃a c,z=Z a (C (qg Rs)) c/\My W a (qg Rs):=by
 have l:C (qg Rs)=C Rs:=by simp[qg]
 obtain⟨a,c,rfl,_⟩:=qR h.1;refine⟨a,c,by rw[l],fun k e=>?_⟩;rw[l] at e;obtain⟨g,rfl,n,m⟩:=KA h.1 (j:=k) (by simpa using e);have i:=h.2 Rs[k] (bU e);obtain⟨b,cb,f,s⟩:=i.fr
 have u:Rs[k].2.length<=cb:=by
  rcases i.2 with ⟨d,p⟩ |⟨o,cap,r,d,_,_,q,_⟩
  ·omega
  ·rw[f] at d;injection d with _ _ h6;omega
 exact⟨g,0,b,cb,rfl,n,by rw[bQ,m];simp[qg,f],by simpa [qg] using s,by simpa [qg] using u⟩
theorem adA {W:E} {x:wF} {u:wF} {a:TypeId} {b n:Nat} (o:W.ownsRow (O (T w)) a b u n xs) (g:W.grownBy W' u.ownBlock) (c:cj W' (O (T w)+2) x y z) (t:TypeId) (h1:t≠a) (h:t≠26):iq t W (W'.setCell ⟨O (T w)+2,j,N⟩ v'):=
 (iq.grown g (Sa o) h1).trans (iq.set c h j v')
structure SK (n:Nat) (S:Ja):Prop where
 len:C S=n
 each:∀x∈S,1<=x/\x<=3
theorem VK.Fb (h:VK n Vs):SK n (ag (iO Vs)):=by
 refine⟨by simp[ag,iO,h.len],fun x g=>?_⟩;obtain⟨p,d,rfl⟩:=aN.1 g;obtain⟨q,f,rfl⟩:=aN.1 d;obtain⟨j,c,rfl⟩:=iE f;obtain⟨_,k,a,b,e⟩:=h.each j c;show 1<=Vs[j].2.2.length/\Vs[j].2.2.length<=3;rw[e,Rm];exact⟨a,b⟩
theorem SK.fine (h:SK n S) (h1:1<=n) (c:n<=8):fK (iL S):=by
 have l:=h.len;refine⟨by rw[bR];omega,by rw[bR];omega,fun v a=>?_⟩;have b:v<C S:=by rw[bR] at a;exact a
 have e:(iL S)[v]=((S[v]'b:Nat):Int):=by simp[iL]
 have:=h.each _ (bU b);rw[e];omega
theorem SK.sz (h:SK n S) (u:Nat):1<=sz S u/\sz S u<=3:=by
 rw[Go.Proofs.YtkflnpjapgiajaaGreatDoor.sz];cases e:S[u]? with
 |none=>exact⟨a6,a6⟩
 |some x=>exact h.each x (VS e)
theorem ah2 (h:SK n S) {l:Ja} (b:C l<=3):1<=cnt S l/\cnt S l<=27:=by
 have c:=aaB (S:=S) (fun v=>(h.sz v).2) l;have d:3^C l<=3^3:=k7 al b
 have a:∀l:Ja,1<=cnt S l:=fun l=>by
  induction l with
  |nil=>exact ah _
  |cons v l ih=>exact MI (h.sz v).1 ih
 exact⟨a l,al⟩
theorem MS.out3 {W:E} {t:wF} {x:wF} {Ls:List PL} (h:MS w W s e t bk x y z Vs Ls Rs):
  cj (((W.setCell ⟨O (T w)+1,0,N⟩ x).setCell ⟨O (T w)+1,1,N⟩ y).setCell ⟨O (T w)+1,2,N⟩ z) (O (T w)+1) x y z/\Ax (((W.setCell ⟨O (T w)+1,0,N⟩ x).setCell ⟨O (T w)+1,1,N⟩ y).setCell ⟨O (T w)+1,2,N⟩ z) (O (T w)) x Vs/\Az (((W.setCell ⟨O (T w)+1,0,N⟩ x).setCell ⟨O (T w)+1,1,N⟩ y).setCell ⟨O (T w)+1,2,N⟩ z) (O (T w)) y Ls/\Ay (((W.setCell ⟨O (T w)+1,0,N⟩ x).setCell ⟨O (T w)+1,1,N⟩ y).setCell ⟨O (T w)+1,2,N⟩ z) (O (T w)) z Rs/\da w (((W.setCell ⟨O (T w)+1,0,N⟩ x).setCell ⟨O (T w)+1,1,N⟩ y).setCell ⟨O (T w)+1,2,N⟩ z):=by
 have b:=h.res.set0 x;have c:=b.set1 y;have d:=c.set2 z;have k:∀a:TypeId,a≠26 ->iq a W (((W.setCell ⟨O (T w)+1,0,N⟩ x).setCell ⟨O (T w)+1,1,N⟩ y).setCell ⟨O (T w)+1,2,N⟩ z):=fun a n=>((iq.set h.res n 0 x).trans (iq.set b n 1 y)).trans (iq.set c n 2 z);refine⟨d,h.vs.keep (k _ a6) (k _ a6),h.ls.keep (k _ a6) (k _ a6),h.rs.keep (k _ a6) (k _ a6),?_⟩;exact((h.bel.setCell (p:=⟨O (T w)+1,0,N⟩) (by show O (T w)<=O (T w)+1;omega) _).setCell (p:=⟨O (T w)+1,1,N⟩) (by show O (T w)<=O (T w)+1;omega) _).setCell (p:=⟨O (T w)+1,2,N⟩) (by show O (T w)<=O (T w)+1;omega) _
def SJ (p:Nat):Nat:=[2,2,3,2,1].getD p 2
theorem aps (p:Nat):1<=SJ p/\SJ p<=3:=by
 match p with
 |0=>decide
 |1=>decide
 |2=>decide
 |3=>decide
 |4=>decide
 |p+5=>exact⟨by show 1<=2;omega,by show 2<=3;omega⟩
theorem arA (W:E) {p:Nat} (h:p<5):(W.alloc (yM #[J I 2,J I 2,J I 3,J I 2,J I 1] 3)).cell? ⟨O (T W),p,N⟩=M (J I (SJ p:Nat)):=by
 rw[ba _ _ _ _ _ (0,0) (dU W _)];match p,h with
 |0,_=>rfl
 |1,_=>rfl
 |2,_=>rfl
 |3,_=>rfl
 |4,_=>rfl
def aun (w:E) (e:Ending) (w':E):Prop:=∃(bk:Bool) (n:Nat) (x y z:wF) (Vs:List PV) (Ls:List PL) (Rs:List PR),e=yW (zd #[x,y,z])/\(1<=n/\n<=6)/\VK n Vs/\Ed bk n n (ag (iO Vs)) Ls Rs/\Ax w' (O (T w)) x Vs/\Az w' (O (T w)) y Ls/\Ay w' (O (T w)) z Rs/\da w w'
def B6 (l:Kx):Prop:=C l<=140737488355328/\∀x∈l, -9223372036854775808<=x/\x<=9223372036854775807
theorem ao4 (a1 P Q:Kd) (c1 Bm B7:Nat) (L L2 Bh:Kx) (bk:Bool) (w:E) (h1:aB w a1 L) (h2:aB w P L2) (h3:aB w Q Bh) (r1:B6 L) (r2:B6 L2) (r3:B6 Bh):
  c6 20 #[zd #[Z a1 (C L) c1,Z P (C L2) Bm,Z Q (C Bh) B7,zZ bk]] w fun e w'=>aun w e w':=by
 have GW:=Fa h1;have AO:=Fa h2;have cd:=Fa h3;have oH:=Fa r1.2;have gQ:=Fa r2.2;have jF:=Fa r3.2;have kE:=r1.1;have dY:=r2.1;have ad:=r3.1;have Cg:=Fa (fun (i:Nat) (hi:i<=1000) (U:E)=>adm i U hi);have Cf:=Fa (fun (i:Nat) (hi:i<=1000) (U:E)=>adi i U hi);have mH:=Fa (fun (k:Nat) (hk:k<=3) (U:E)=>ath k U hk);have Mk:=Fa (fun (c:Int) (h: -9223372036854775808<=c/\c<=9223372036854775807) (U:E)=>Kp c 5 U h.1 h.2 al al);have GD:=Fa (fun (k:Nat) (hk:k<=100000) (n:Nat) (h1:1<=n) (dF:n<=3) (U:E) (hU:aB U Q Bh)=>alD Q B7 k n Bh U hU r3.2 hk h1 al r3.1);have bD:=Fa (fun (c:Int) (h: -9223372036854775808<=c/\c<=9223372036854775807) (U:E)=>Kp c 2 U h.1 h.2 al al);clear h1 h2 h3 r1 r2 r3;have YO:((w.alloc (yM #[Z a1 (C L) c1,Z P (C L2) Bm,Z Q (C Bh) B7,zZ bk] 47)).alloc (NC (Z N 0 0) (Z N 0 0) (Z N 0 0))).heap[O (T w)]? =M (yM #[Z a1 (C L) c1,Z P (C L2) Bm,Z Q (C Bh) B7,zZ bk] 47 (0,0)):=(uP _ _ _ aE).trans (dU w _);have c4:((w.alloc (yM #[Z a1 (C L) c1,Z P (C L2) Bm,Z Q (C Bh) B7,zZ bk] 47)).alloc (NC (Z N 0 0) (Z N 0 0) (Z N 0 0))).cell? ⟨O (T w),0,N⟩=M (Z a1 (C L) c1):=by rw[ba _ _ _ _ _ (0,0) YO];rfl
 have U4:wT (MS w (((w.alloc (yM #[Z a1 (C L) c1,Z P (C L2) Bm,Z Q (C Bh) B7,zZ bk] 47)).alloc (NC (Z N 0 0) (Z N 0 0) (Z N 0 0))).alloc (NC (Z N 0 0) (Z N 0 0) (Z N 0 0))) (Z a1 (C L) c1) (Z P (C L2) Bm) (Z Q (C Bh) B7) bk (Z N 0 0) (Z N 0 0) (Z N 0 0) [] [] []):=⟨(uP _ _ _ (by simp;omega)).trans YO,(cj.at aE _ _ _).aa ((au _ _).alloc (ah _) _) aE,cj.at aE _ _ _,Ax.nil _ _,Az.nil _ _,Ay.nil _ _,(((au _ w).alloc (ah _) _).alloc aE _).alloc (by simp;omega) _⟩;clear YO;go_enter func20,ntmps20;go_upto_if 23 with fail
 clear c4;generalize hW0:((w.alloc (yM #[Z a1 (C L) c1,Z P (C L2) Bm,Z Q (C Bh) B7,zZ bk] 47)).alloc (NC (Z N 0 0) (Z N 0 0) (Z N 0 0)))=W0 at *;go_cut [3] from 19 to 25 (fun s wx=>∃n:Nat,s=J I (n:Nat)/\1<=n/\n<=140737488355328/\wx=W0)
 case first=>
  by_cases hl:C L<1
  ·have bz:(C L:Int)<1:=al
   go_wp2_with fail
   go_meet
   exact⟨1,rfl,al,al,rfl⟩
  ·have bz:(1:Int)<=(C L:Int):=al
   go_wp2_with fail
   go_meet
   exact⟨C L,rfl,al,al,rfl⟩
 case rest=>
 obtain⟨n0,rfl,cl,ck,bf⟩:=hcut;rw[bf];clear bf;go_upto_if 25 with fail
 go_cut [3] from 19 to 25 (fun s wx=>∃n:Nat,s=J I (n:Nat)/\1<=n/\n<=6/\wx=W0)
 case first=>
  by_cases hl:6<n0
  ·have bz:(6:Int)<(n0:Int):=al
   go_wp2_with fail
   go_meet
   exact⟨6,rfl,al,al,rfl⟩
  ·have bz:(n0:Int)<=6:=al
   go_wp2_with fail
   go_meet
   exact⟨n0,rfl,al,al,rfl⟩
 case rest=>
 obtain⟨n,rfl,fX,BL,bf⟩:=hcut;rw[bf];clear bf cl ck;have cu:O (T W0)=O (T w)+2:=by rw[<- hW0];simp
 clear hW0;go_upto_region 7 with fail
 generalize (W0.alloc (NC (Z N 0 0) (Z N 0 0) (Z N 0 0)))=W1 at *;clear cu;go_wp2_with fail
 go_loopw [5] (fun iv wr=>∃(v:Nat) (x:wF) (Vs:List PV),v<=n/\iv=J I v/\wT (VK v Vs)/\wT (MS w wr (Z a1 (C L) c1) (Z P (C L2) Bm) (Z Q (C Bh) B7) bk x (Z N 0 0) (Z N 0 0) Vs [] [])) (fun iv _=>n - (intOf iv).toNat)
 case atStart=>exact⟨0,_,[],aV _,rfl,⟨rfl,fun j hj=>absurd hj aE⟩,U4⟩
 case round=>
  obtain⟨v,x,Vs,hv,rfl,PZ,m⟩:=hrel;clear U4;by_cases bh:v<n
  ·obtain⟨d0, -, -, -⟩:=m.o.cells;go_upto_if 36 with fail
   clear d0;go_cut [6] from 27 to 58 (fun s wx=>∃k:Nat,s=J I (k:Nat)/\1<=k/\k<=3/\wT (MS w wx (Z a1 (C L) c1) (Z P (C L2) Bm) (Z Q (C Bh) B7) bk x (Z N 0 0) (Z N 0 0) Vs [] []))
   case first=>
    by_cases fQ:v<C L
    ·have cn:(v:Int)<(C L:Int):=al
     have Bj:da wr (wr.alloc (yM #[J I 2,J I 2,J I 3,J I 2,J I 1] 3)):=(au _ wr).alloc (ah _) _;have DK:=m.o.step Bj;obtain⟨d0, -, -, -⟩:=DK.cells;obtain⟨g',o',rfl,iz,cs⟩:=(GW.o.aa DK.bel) v fQ;have AG:=Fa (fun U=>Mk.o L[v] (oH.o _ (bU fQ)) U);have c9:=Kw L[v] (n:=5) al;have h5:=arA wr c9;have zT:=aps (sV L[v] 5);generalize L[v]=lv at *;generalize sV lv 5=pk at *;generalize SJ pk=kk at *;have mF:=Fa DK;clear DK Bj;go_wp2_with (go_at_call 21;refine(AG.o _).ae ?_;rintro e w2 ⟨rfl,A⟩;have dO:=(A.cell (p:=⟨O (T wr),pk,N⟩) aE).trans h5;have kh:=Fa (mF.o.step A))
     go_meet
     exact⟨kk,rfl,zT.1,zT.2,kh⟩
    ·have cn:(C L:Int)<=(v:Int):=al
     go_wp2_with fail
     go_meet
     exact⟨2,rfl,al,al,m⟩
   case rest=>
   obtain⟨k,rfl,Dv,bx,bC⟩:=hcut;clear m;go_wp2_with fail
   refine(Cg.o v al _).ae ?_;rintro e w1 ⟨rfl,an⟩;go_wp2_with fail
   refine(Cf.o v al _).ae ?_;rintro e Je ⟨rfl,cb⟩;have Bb:=(bC.o.step an).step cb;have uy:=aaw (i:=v) al;clear an cb bC;go_upto_region 14 with fail
   replace Bb:=Bb.step (au _ _).drew;refine iK (S:=fun _=>True) ao trivial (fun D=>?_);generalize Je.drew=u0 at *;have ab:=Bb.box.cells.1;refine ar 0 (zR (M ⟨O (T w)+2,0,N⟩)) ?_;(try simp only[gE,aP]);refine ar 2 (zK (LJ v)) ?_;(try simp only[gE,aP]);refine ar 3 (zK (j7 110 v)) ?_;(try simp only[gE,aP]);refine ar 4 (J I (k:Nat)) ?_;(try simp only[gE,aP]);refine aF [1,5] (cA ?_ (cA ?_ aG))
   focus
    intro g K;go_simp;refine K.o _ _ trivial (fun _=>?_);clear K g;(try simp only[gE,aP]);refine aF [5] (cA ?_ aG);intro g K;go_simp;refine(mH.o k bx _).ae ?_;rintro e u1 ⟨aR,rfl,yo,A⟩;have hq:kY u1 (O (T w)) aR (uQ k):=Nx yo Bb.bel.size;replace Bb:=Bb.step A;(obtain⟨V,X,Ba,rfl⟩:∃a n c,aR=Z a n c:=by obtain⟨a,c,e,_⟩:=qR hq;exact⟨_,_,_,e⟩);refine K.o _ _ trivial (fun _=>?_);clear A yo ab;have ab:=Bb.box.cells.1;clear K g;(try simp only[gE,aP]);refine ar 6 (zd #[zK (j7 110 v),Z V X Ba]) ?_;(try simp only[gE,aP]);refine aF [7] (cA ?_ aG);intro g K;go_simp;obtain⟨bm,an⟩:=Ka u1 (zK (j7 110 v)) (Z V X Ba);have Bj:=(au _ u1).alloc (ah _) (VC (zK (j7 110 v)) (Z V X Ba));replace Bb:=Bb.step Bj;replace hq:=kY.step hq Bj;refine K.o _ _ trivial (fun _=>?_);generalize (u1.alloc (VC (zK (j7 110 v)) (Z V X Ba)))=u2 at *;generalize (O (T u1))=gq at *;clear Bj ab;have ab:=Bb.box.cells.1
   rotate_left
   focus
    intro g K;go_simp;refine(mH.o k bx _).ae ?_;rintro e u1 ⟨aR,rfl,yo,A⟩;have hq:kY u1 (O (T w)) aR (uQ k):=Nx yo Bb.bel.size;replace Bb:=Bb.step A;(obtain⟨V,X,Ba,rfl⟩:∃a n c,aR=Z a n c:=by obtain⟨a,c,e,_⟩:=qR hq;exact⟨_,_,_,e⟩);refine K.o _ _ trivial (fun _=>?_);clear A yo ab;have ab:=Bb.box.cells.1;clear K g;(try simp only[gE,aP]);refine ar 6 (zd #[zK (j7 110 v),Z V X Ba]) ?_;(try simp only[gE,aP]);refine aF [1,7] (cA ?_ (cA ?_ aG))
    focus
     intro g K;go_simp;refine K.o _ _ trivial (fun _=>?_);clear K g;(try simp only[gE,aP]);refine aF [7] (cA ?_ aG);intro g K;go_simp;obtain⟨bm,an⟩:=Ka u1 (zK (j7 110 v)) (Z V X Ba);have Bj:=(au _ u1).alloc (ah _) (VC (zK (j7 110 v)) (Z V X Ba));replace Bb:=Bb.step Bj;replace hq:=kY.step hq Bj;refine K.o _ _ trivial (fun _=>?_);generalize (u1.alloc (VC (zK (j7 110 v)) (Z V X Ba)))=u2 at *;generalize (O (T u1))=gq at *;clear Bj ab;have ab:=Bb.box.cells.1
    rotate_left
    focus
     intro g K;go_simp;obtain⟨bm,an⟩:=Ka u1 (zK (j7 110 v)) (Z V X Ba);have Bj:=(au _ u1).alloc (ah _) (VC (zK (j7 110 v)) (Z V X Ba));replace Bb:=Bb.step Bj;replace hq:=kY.step hq Bj;refine K.o _ _ trivial (fun _=>?_);generalize (u1.alloc (VC (zK (j7 110 v)) (Z V X Ba)))=u2 at *;generalize (O (T u1))=gq at *;clear Bj ab;have ab:=Bb.box.cells.1;clear K g;(try simp only[gE,aP]);refine aF [1] (cA ?_ aG);intro g K;go_simp;refine K.o _ _ trivial (fun _=>?_)
   all_goals
    clear K g;(try simp only[gE,aP]);refine aF [8] (cA ?_ aG);intro g K;rw[aw (by rfl)];refine ajm _ _ rfl (O (T w)) x Vs (j7 110 v) (Z V X Ba) ⟨_,_,_,rfl⟩ rfl Bb.vs.1 gq rfl bm an (by have:=PZ.o.len;omega) (by have:=Bb.lt;omega) ?_;intro v' u4 ay az;obtain⟨d4,Ap,rfl, -⟩:=qR ay;have B9:=Bb.pushV ay az hq;refine K.o _ _ trivial (fun _=>?_);clear Bb ay az hq bm an ab K g;(try simp only[gE,aP]);have c7:=B9.1.cells.1;have Y1:u4.frozen? ⟨O (T w)+2,0,N⟩=false:=gj _ _ 0 _ _ B9.1;refine ar 9 (zR (M ⟨O (T w)+2,0,N⟩)) ?_;(try simp only[gE,aP]);refine aF [10] (cA ?_ aG);intro g K;go_simp;refine K.o _ _ trivial (fun _=>eO ao ?_ _);clear K g c7 Y1;have UQ:=Fa B9.2;clear B9;go_wp2;go_roundw
    case rel=>exact⟨v+1,_,_,al,bd,PZ.o.snoc (Z V X Ba) Dv bx,UQ⟩
    case measure=>simp[intOf];omega
  ·obtain rfl:n=v:=al
   obtain⟨ax,cx,rfl,eD⟩:=m.o.vs.Fd;(have ca:C (iO Vs)=n:=by simp[iO,PZ.o.len]);have ik:=Fa (fun U hU=>alZ ax N N cx 0 0 0 0 (iO Vs) U hU al);have b8:=PZ.o.Fb;have xD:=Fa eD;have uH:wT (ag (iO Vs)=ag (iO Vs)):=rfl;rw[ca] at ik m;generalize ak:ag (iO Vs)=S at *;have Jo:=Fa ak;have vN:=Fa b8;clear ak b8 eD uH;obtain⟨e0,e1,e2⟩:=m.o.box.cells;go_wp2_with fail
   refine(ik.o _ xD.o).ae ?_;rintro e W2 ⟨xv,rfl,K0,A⟩;(have c0:C (iL S)=n:=by rw[bR];exact vN.o.len);obtain⟨bb,LU,DZ, -⟩:=qR K0;rw[c0] at DZ;subst DZ;have kZ:wT (bW W2 (O (T w)) (Z bb n LU) (iL S)):=Nx K0 m.o.bel.size;have kh:=Fa (m.o.step A);clear K0 A e0 e1 e2 m ik xD ca bh hv;generalize hxg:Value.slice ax n cx=x at *;clear hxg;go_wp2_with fail
   go_loopw [8,9,11] (fun ev av iv wr=>∃(v e aY:Nat) (y z:wF) (Ls:List PL) (Rs:List PR),v<=n/\iv=J I v/\ev=J I (e:Nat)/\av=J I (aY:Nat)/\e<=6*v/\aY<=81*v/\wT (Ed bk n v S Ls Rs)/\wT (MS w wr (Z a1 (C L) c1) (Z P (C L2) Bm) (Z Q (C Bh) B7) bk x y z Vs Ls Rs)/\wT (bW wr (O (T w)) (Z bb n LU) (iL S))) (fun _ _ iv _=>n - (intOf iv).toNat)
   case atStart=>exact⟨0,0,0,_,_,[],[],aV _,rfl,rfl,rfl,ah _,ah _,⟨rfl,rfl,fun j hj=>absurd hj aE,fun j hj=>absurd hj aE⟩,kh,kZ⟩
   case round=>
    obtain⟨v,e,aY,y,z,Ls,Rs,hv,rfl,rfl,rfl,dT,du,Mr,m,HS⟩:=hrel;clear kh kZ;by_cases bh:v<n
    ·go_wp2_with fail
     generalize wr=wb at *;go_loopw [8,12,13] (fun ev pv uv rG=>∃(u q:Nat) (d:Kx),u<=n/\uv=J I u/\ev=J I (q:Nat)/\q<=e+u/\wT (PP bk n v u d)/\wT (bW rG (O (T wb)) pv d)/\wT (da wb rG)) (fun _ _ uv _=>n - (intOf uv).toNat)
     case atStart=>exact⟨0,e,[],aV _,rfl,rfl,ah _,PP.nil bk n v,bW.emptyB _ _,au _ _⟩
     case round=>
      obtain⟨u,q,d,hu,rfl,rfl,dV,yP,kg,Y⟩:=hrel;by_cases BC:u<n
      ·generalize wr=rG at *;obtain⟨dp,cp,zO, -⟩:=qR kg.o;subst zO;have f:=m.o.step Y.o;obtain⟨-, -, -,d3⟩:=f.cells;have Lf:=yP.o.ok.few;have dR:q<=1000:=al
       cases bk
       case true=>
        by_cases hs:(u:Int)<=(v:Int)
        ·go_wp2;go_roundw
         case rel=>exact⟨u+1,q,d,al,bd,rfl,al,yP.o.skip,kg,Y⟩
         case measure=>simp[intOf];omega
        ·have hk:(v:Int)<(u:Int):=al
         clear hs;by_cases ad:C d=3
         ·have kD:((C d:Int)==3)=true:=by rw[ad];rfl
          clear ad;go_wp2;go_roundw
          case rel=>exact⟨u+1,q,d,al,bd,rfl,al,yP.o.skip,kg,Y⟩
          case measure=>simp[intOf];omega
         ·have kD:((C d:Int)==3)=false:=by
           (have:¬(C d:Int)=3:=al);simpa using this
          (have vh:if y6=y6 then v<u else u<v:=by simp;omega);go_upto_region 26 with fail
          clear d3 kD;have cD:da rG rG.drew:=(au _ _).drew;go_cut [109] from 66 to 115 (fun s wx=>∃b:Bool,s=zZ b/\wT (da rG wx))
          case first=>
           by_cases R:0<C L2
           ·obtain⟨t,ht⟩:∃t,t=q % C L2:=⟨_,rfl⟩;(have mY:t<C L2:=by rw[ht];exact jc _ R);(have Og:(q:Int) % (C L2:Int)=(t:Int):=by rw[ht,wk]);(have ai:IntKind.i64.wrap (t:Int)=(t:Int):=by rw[js];omega);(have Ys:IntKind.i64.wrap ((q:Int) % (C L2:Int))=(t:Int):=by rw[Og];exact ai);(have Oz:(0:Int)<(C L2:Int):=al);(have cC:¬(C L2:Int)=0:=al);have Ql:=Fa (fun U=>bD.o L2[t] (gQ.o _ (bU mY)) U);obtain⟨H,F,rfl,bg,cs⟩:=AO.o t mY;have AQ:=Fa cs;generalize L2[t]=lt at *;generalize sV lt 2=pk at *;obtain⟨b,rX⟩:∃b:Bool,((pk:Int)==0)=b:=⟨_,rfl⟩;(have ch:(pk==0)=b:=by rw[<- rX];cases pk<;>rfl);have bs:=Fa R;(have GL:wT (¬L2=[]):=fun h=>by rw[h] at R;exact absurd R aE);(have P9:wT ((q:Int).tmod (C L2:Int)=(t:Int)):=by rw[ht];rfl);clear cs ht R;replace f:=f.step (au _ _).drew;refine iK (S:=fun u=>u.cell? ⟨O (T w),1,N⟩=M (Z (M ⟨H,F,N⟩) (C L2) Bm)/\u.cell? ⟨H,F+t,N⟩=M (J I lt)) ao ⟨f.cells.2.1,(f.bel.cell (p:=⟨H,F+t,N⟩) bg).trans AQ.o⟩ (fun D=>?_);generalize rG.drew=u0 at *;refine ar 0 (zR (M ⟨O (T w),1,N⟩)) ?_;(try simp only[gE,aP]);refine ar 1 (Z (M ⟨H,F,N⟩) (C L2) Bm) ?_;(try simp only[gE,aP]);refine ar 2 (J I (C L2:Nat)) ?_;(try simp only[gE,aP]);refine cU 3 (zZ y6) ?_ ?_
            ·intro u' aJ;go_simp;exact bs.o
            (try simp only[gE,aP]);refine ar 4 (zZ y6) ?_;(try simp only[gE,aP]);refine ar 5 (zR (M ⟨O (T w),1,N⟩)) ?_;(try simp only[gE,aP]);refine ar 6 (Z (M ⟨H,F,N⟩) (C L2) Bm) ?_;(try simp only[gE,aP]);refine ar 7 (J I (q:Nat)) ?_;(try simp only[gE,aP]);refine ar 8 (zR (M ⟨O (T w),1,N⟩)) ?_;(try simp only[gE,aP]);refine ar 9 (Z (M ⟨H,F,N⟩) (C L2) Bm) ?_;(try simp only[gE,aP]);refine ar 10 (J I (C L2:Nat)) ?_;(try simp only[gE,aP]);refine cU 11 (J I (t:Nat)) ?_ ?_
            ·intro u' aJ;go_simp;rw[aC GL.o,P9.o]
            (try simp only[gE,aP]);refine ar 12 (zR (M ⟨H,F+t,N⟩)) ?_;(try simp only[gE,aP]);refine ar 13 (J I lt) ?_;(try simp only[gE,aP]);refine aF [14] (cA ?_ aG);intro g K;go_simp;refine(Ql.o _).ae ?_;rintro _ u1 ⟨rfl,A⟩;replace f:=f.step A;replace cD:=cD.trans (A.ae cD.size);clear D;refine K.o _ _ ⟨f.cells.2.1,(f.bel.cell (p:=⟨H,F+t,N⟩) bg).trans AQ.o⟩ (fun D=>?_);clear K g A;(try simp only[gE,aP]);refine ar 15 (zZ b) ?_;(try simp only[gE,aP]);refine ar 16 (zZ b) ?_;(try simp only[gE,aP]);refine eO ao ?_ _;clear D;go_wp2_with fail
            go_meet
            exact⟨b,rfl,cD⟩
           ·have Oz:¬(0:Int)<(C L2:Int):=al
            have cB:decide ((0:Int)<(C L2:Int))=false:=cX Oz;have cw:¬0<C L2:=R;clear R;replace f:=f.step (au _ _).drew;refine iK (S:=fun u=>u.cell? ⟨O (T w),1,N⟩=M (Z P (C L2) Bm)) ao f.cells.2.1 (fun D=>?_);generalize rG.drew=u0 at *;refine ar 0 (zR (M ⟨O (T w),1,N⟩)) ?_;(try simp only[gE,aP]);refine ar 1 (Z P (C L2) Bm) ?_;(try simp only[gE,aP]);refine ar 2 (J I (C L2:Nat)) ?_;(try simp only[gE,aP]);refine ar 3 (zZ xd) ?_;(try simp only[gE,aP]);refine ar 4 (zZ xd) ?_;(try simp only[gE,aP]);refine nQ (i:=5) (oi:=_) (v:=wQ) rfl ao ao ao (fun _ _ _ h=>h) (Or.inr ⟨by rfl,rfl⟩) b5 ?_;(try simp only[gE,aP]);refine nQ (i:=6) (oi:=_) (v:=wQ) rfl ao ao ao (fun _ _ _ h=>h) (Or.inr ⟨by rfl,rfl⟩) b5 ?_;(try simp only[gE,aP]);refine nQ (i:=7) (oi:=_) (v:=wQ) rfl ao ao ao (fun _ _ _ h=>h) (Or.inr ⟨by rfl,rfl⟩) b5 ?_;(try simp only[gE,aP]);refine nQ (i:=8) (oi:=_) (v:=wQ) rfl ao ao ao (fun _ _ _ h=>h) (Or.inr ⟨by rfl,rfl⟩) b5 ?_;(try simp only[gE,aP]);refine nQ (i:=9) (oi:=_) (v:=wQ) rfl ao ao ao (fun _ _ _ h=>h) (Or.inr ⟨by rfl,rfl⟩) b5 ?_;(try simp only[gE,aP])
            refine nQ (i:=10) (oi:=_) (v:=wQ) rfl ao ao ao (fun _ _ _ h=>h) (Or.inr ⟨by rfl,rfl⟩) b5 ?_;(try simp only[gE,aP]);refine nQ (i:=11) (oi:=_) (v:=wQ) rfl ao ao ao (fun _ _ _ h=>h) (Or.inr ⟨by rfl,rfl⟩) b5 ?_;(try simp only[gE,aP]);refine nQ (i:=12) (oi:=_) (v:=wQ) rfl ao ao ao (fun _ _ _ h=>h) (Or.inr ⟨by rfl,rfl⟩) b5 ?_;(try simp only[gE,aP]);refine nQ (i:=13) (oi:=_) (v:=wQ) rfl ao ao ao (fun _ _ _ h=>h) (Or.inr ⟨by rfl,rfl⟩) b5 ?_;(try simp only[gE,aP]);refine aF [14] (cA ?_ aG);intro g K;go_simp;refine K.o _ _ D (fun ak=>?_);clear K g D;have D:=ak;clear ak;(try simp only[gE,aP]);refine nQ (i:=15) (oi:=_) (v:=wQ) rfl ao ao ao (fun _ _ _ h=>h) (Or.inr ⟨by rfl,rfl⟩) b5 ?_;(try simp only[gE,aP]);refine ar 16 (zZ xd) ?_;(try simp only[gE,aP]);refine eO ao ?_ _;clear D;go_wp2_with fail
            go_meet
            exact⟨xd,rfl,cD⟩
          case rest=>
          obtain⟨b,rfl,sM⟩:=hcut;have Jp:=Fa (kg.o.aa sM.o);have EI:=Fa (Y.o.trans (sM.o.ae Y.o.size));clear kg Y f cD;cases b
          case false=>
           clear sM;go_wp2;go_roundw
           case rel=>exact⟨u+1,q+1,d,al,bd,bd,al,yP.o.skip,Jp,EI⟩
           case measure=>simp[intOf];omega
          case true=>
           clear sM;have lI:=Fa (Jp.o.aa ((au _ wc).alloc (ah _) (yM #[J I (u:Int)] 3)));have dS:=Fa (EI.o.alloc EI.o.size (yM #[J I (u:Int)] 3));have mG:=Fa (rR wc (u:Int));have ic:O (T wb)<=O (T (wc.alloc (yM #[J I (u:Int)] 3))):=dS.o.size;have uK:=Fa (yP.o.snoc BC ad vh);clear Jp EI;go_wp2_with (at_builtin;refine CU rfl _ _ rfl (O (T wb)) _ d [(u:Int)] rfl lI.o (M ⟨O (T wc),0,N⟩) 1 rfl mG.o (fun e=>by cases e) (by simp;omega) ic ?_;intro v' w3 bB bw;have eo:=Fa (dS.o.grown bw ic (fun k e=>Sb lI.o k e)))
           go_roundw
           case rel=>exact⟨u+1,q+1,d++[(u:Int)],al,bd,bd,al,uK,bB,eo⟩
           case measure=>simp[intOf];omega
       case false=>
        by_cases hs:(v:Int)<=(u:Int)
        ·go_wp2;go_roundw
         case rel=>exact⟨u+1,q,d,al,bd,rfl,al,yP.o.skip,kg,Y⟩
         case measure=>simp[intOf];omega
        ·have hk:(u:Int)<(v:Int):=al
         clear hs;by_cases ad:C d=3
         ·have kD:((C d:Int)==3)=true:=by rw[ad];rfl
          clear ad;go_wp2;go_roundw
          case rel=>exact⟨u+1,q,d,al,bd,rfl,al,yP.o.skip,kg,Y⟩
          case measure=>simp[intOf];omega
         ·have kD:((C d:Int)==3)=false:=by
           (have:¬(C d:Int)=3:=al);simpa using this
          (have vh:if xd=y6 then v<u else u<v:=by simp;omega);go_upto_region 26 with fail
          clear d3 kD;have cD:da rG rG.drew:=(au _ _).drew;go_cut [109] from 66 to 115 (fun s wx=>∃b:Bool,s=zZ b/\wT (da rG wx))
          case first=>
           by_cases R:0<C L2
           ·obtain⟨t,ht⟩:∃t,t=q % C L2:=⟨_,rfl⟩;(have mY:t<C L2:=by rw[ht];exact jc _ R);(have Og:(q:Int) % (C L2:Int)=(t:Int):=by rw[ht,wk]);(have ai:IntKind.i64.wrap (t:Int)=(t:Int):=by rw[js];omega);(have Ys:IntKind.i64.wrap ((q:Int) % (C L2:Int))=(t:Int):=by rw[Og];exact ai);(have Oz:(0:Int)<(C L2:Int):=al);(have cC:¬(C L2:Int)=0:=al);have Ql:=Fa (fun U=>bD.o L2[t] (gQ.o _ (bU mY)) U);obtain⟨H,F,rfl,bg,cs⟩:=AO.o t mY;have AQ:=Fa cs;generalize L2[t]=lt at *;generalize sV lt 2=pk at *;obtain⟨b,rX⟩:∃b:Bool,((pk:Int)==0)=b:=⟨_,rfl⟩;(have ch:(pk==0)=b:=by rw[<- rX];cases pk<;>rfl);have bs:=Fa R;(have GL:wT (¬L2=[]):=fun h=>by rw[h] at R;exact absurd R aE);(have P9:wT ((q:Int).tmod (C L2:Int)=(t:Int)):=by rw[ht];rfl);clear cs ht R;replace f:=f.step (au _ _).drew;refine iK (S:=fun u=>u.cell? ⟨O (T w),1,N⟩=M (Z (M ⟨H,F,N⟩) (C L2) Bm)/\u.cell? ⟨H,F+t,N⟩=M (J I lt)) ao ⟨f.cells.2.1,(f.bel.cell (p:=⟨H,F+t,N⟩) bg).trans AQ.o⟩ (fun D=>?_);generalize rG.drew=u0 at *;refine ar 0 (zR (M ⟨O (T w),1,N⟩)) ?_;(try simp only[gE,aP]);refine ar 1 (Z (M ⟨H,F,N⟩) (C L2) Bm) ?_;(try simp only[gE,aP]);refine ar 2 (J I (C L2:Nat)) ?_;(try simp only[gE,aP]);refine cU 3 (zZ y6) ?_ ?_
            ·intro u' aJ;go_simp;exact bs.o
            (try simp only[gE,aP]);refine ar 4 (zZ y6) ?_;(try simp only[gE,aP]);refine ar 5 (zR (M ⟨O (T w),1,N⟩)) ?_;(try simp only[gE,aP]);refine ar 6 (Z (M ⟨H,F,N⟩) (C L2) Bm) ?_;(try simp only[gE,aP]);refine ar 7 (J I (q:Nat)) ?_;(try simp only[gE,aP]);refine ar 8 (zR (M ⟨O (T w),1,N⟩)) ?_;(try simp only[gE,aP]);refine ar 9 (Z (M ⟨H,F,N⟩) (C L2) Bm) ?_;(try simp only[gE,aP]);refine ar 10 (J I (C L2:Nat)) ?_;(try simp only[gE,aP]);refine cU 11 (J I (t:Nat)) ?_ ?_
            ·intro u' aJ;go_simp;rw[aC GL.o,P9.o]
            (try simp only[gE,aP]);refine ar 12 (zR (M ⟨H,F+t,N⟩)) ?_;(try simp only[gE,aP]);refine ar 13 (J I lt) ?_;(try simp only[gE,aP]);refine aF [14] (cA ?_ aG);intro g K;go_simp;refine(Ql.o _).ae ?_;rintro _ u1 ⟨rfl,A⟩;replace f:=f.step A;replace cD:=cD.trans (A.ae cD.size);clear D;refine K.o _ _ ⟨f.cells.2.1,(f.bel.cell (p:=⟨H,F+t,N⟩) bg).trans AQ.o⟩ (fun D=>?_);clear K g A;(try simp only[gE,aP]);refine ar 15 (zZ b) ?_;(try simp only[gE,aP]);refine ar 16 (zZ b) ?_;(try simp only[gE,aP]);refine eO ao ?_ _;clear D;go_wp2_with fail
            go_meet
            exact⟨b,rfl,cD⟩
           ·have Oz:¬(0:Int)<(C L2:Int):=al
            have cB:decide ((0:Int)<(C L2:Int))=false:=cX Oz;have cw:¬0<C L2:=R;clear R;replace f:=f.step (au _ _).drew;refine iK (S:=fun u=>u.cell? ⟨O (T w),1,N⟩=M (Z P (C L2) Bm)) ao f.cells.2.1 (fun D=>?_);generalize rG.drew=u0 at *;refine ar 0 (zR (M ⟨O (T w),1,N⟩)) ?_;(try simp only[gE,aP]);refine ar 1 (Z P (C L2) Bm) ?_;(try simp only[gE,aP]);refine ar 2 (J I (C L2:Nat)) ?_;(try simp only[gE,aP]);refine ar 3 (zZ xd) ?_;(try simp only[gE,aP]);refine ar 4 (zZ xd) ?_;(try simp only[gE,aP]);refine nQ (i:=5) (oi:=_) (v:=wQ) rfl ao ao ao (fun _ _ _ h=>h) (Or.inr ⟨by rfl,rfl⟩) b5 ?_;(try simp only[gE,aP]);refine nQ (i:=6) (oi:=_) (v:=wQ) rfl ao ao ao (fun _ _ _ h=>h) (Or.inr ⟨by rfl,rfl⟩) b5 ?_;(try simp only[gE,aP]);refine nQ (i:=7) (oi:=_) (v:=wQ) rfl ao ao ao (fun _ _ _ h=>h) (Or.inr ⟨by rfl,rfl⟩) b5 ?_;(try simp only[gE,aP]);refine nQ (i:=8) (oi:=_) (v:=wQ) rfl ao ao ao (fun _ _ _ h=>h) (Or.inr ⟨by rfl,rfl⟩) b5 ?_;(try simp only[gE,aP]);refine nQ (i:=9) (oi:=_) (v:=wQ) rfl ao ao ao (fun _ _ _ h=>h) (Or.inr ⟨by rfl,rfl⟩) b5 ?_;(try simp only[gE,aP])
            refine nQ (i:=10) (oi:=_) (v:=wQ) rfl ao ao ao (fun _ _ _ h=>h) (Or.inr ⟨by rfl,rfl⟩) b5 ?_;(try simp only[gE,aP]);refine nQ (i:=11) (oi:=_) (v:=wQ) rfl ao ao ao (fun _ _ _ h=>h) (Or.inr ⟨by rfl,rfl⟩) b5 ?_;(try simp only[gE,aP]);refine nQ (i:=12) (oi:=_) (v:=wQ) rfl ao ao ao (fun _ _ _ h=>h) (Or.inr ⟨by rfl,rfl⟩) b5 ?_;(try simp only[gE,aP]);refine nQ (i:=13) (oi:=_) (v:=wQ) rfl ao ao ao (fun _ _ _ h=>h) (Or.inr ⟨by rfl,rfl⟩) b5 ?_;(try simp only[gE,aP]);refine aF [14] (cA ?_ aG);intro g K;go_simp;refine K.o _ _ D (fun ak=>?_);clear K g D;have D:=ak;clear ak;(try simp only[gE,aP]);refine nQ (i:=15) (oi:=_) (v:=wQ) rfl ao ao ao (fun _ _ _ h=>h) (Or.inr ⟨by rfl,rfl⟩) b5 ?_;(try simp only[gE,aP]);refine ar 16 (zZ xd) ?_;(try simp only[gE,aP]);refine eO ao ?_ _;clear D;go_wp2_with fail
            go_meet
            exact⟨xd,rfl,cD⟩
          case rest=>
          obtain⟨b,rfl,sM⟩:=hcut;have Jp:=Fa (kg.o.aa sM.o);have EI:=Fa (Y.o.trans (sM.o.ae Y.o.size));clear kg Y f cD;cases b
          case false=>
           clear sM;go_wp2;go_roundw
           case rel=>exact⟨u+1,q+1,d,al,bd,bd,al,yP.o.skip,Jp,EI⟩
           case measure=>simp[intOf];omega
          case true=>
           clear sM;have lI:=Fa (Jp.o.aa ((au _ wc).alloc (ah _) (yM #[J I (u:Int)] 3)));have dS:=Fa (EI.o.alloc EI.o.size (yM #[J I (u:Int)] 3));have mG:=Fa (rR wc (u:Int));have ic:O (T wb)<=O (T (wc.alloc (yM #[J I (u:Int)] 3))):=dS.o.size;have uK:=Fa (yP.o.snoc BC ad vh);clear Jp EI;go_wp2_with (at_builtin;refine CU rfl _ _ rfl (O (T wb)) _ d [(u:Int)] rfl lI.o (M ⟨O (T wc),0,N⟩) 1 rfl mG.o (fun e=>by cases e) (by simp;omega) ic ?_;intro v' w3 bB bw;have eo:=Fa (dS.o.grown bw ic (fun k e=>Sb lI.o k e)))
           go_roundw
           case rel=>exact⟨u+1,q+1,d++[(u:Int)],al,bd,bd,al,uK,bB,eo⟩
           case measure=>simp[intOf];omega
      ·obtain rfl:n=u:=al
       obtain⟨dp,cp,zO, -⟩:=qR kg.o;subst zO;have f:=m.o.step Y.o;have nk:=HS.o.aa Y.o;have b6:bW wr (O (T w)) (Z dp (C d) cp) d:=Nx kg.o m.o.bel.size;obtain⟨dy,cy,Ym, -⟩:=qR f.ls.1;subst Ym;have Bj:da wr (wr.alloc (yM #[Z dp (C d) cp] 27)):=(au _ wr).alloc (ah _) _;have DK:=f.step Bj;have b7:=nk.aa Bj;have O6:=b6.aa Bj;have dd:=DK.box.cells.2.1;have cm:=f.box.cells.2.1;have mI:=Fa ((bF wr 27 (Z dp (C d) cp)).cell);have ic:O (T w)<=O (T (wr.alloc (yM #[Z dp (C d) cp] 27))):=DK.bel.size;have mF:=Fa DK;have lK:=Fa b7;have Eu:=Fa O6;clear f nk b6 DK b7 O6 m HS kg Y dd Bj;go_wp2_with (at_builtin;refine aju rfl _ _ rfl (O (T w)) _ Ls (Z dp (C d) cp) ⟨_,_,_,rfl⟩ rfl mF.o.ls.1 (O (T wr)) rfl mI.o (by have:=Mr.o.len;omega) ic ?_;intro v4 W4 ay az;obtain⟨d4,Ap,rfl, -⟩:=qR ay;have B9:=mF.o.pushL ay az Eu.o;have c8:=B9.1.cells.2.1;have Y1:W4.frozen? ⟨O (T w)+2,1,N⟩=false:=gj _ _ 1 _ _ B9.1;have UQ:=Fa B9.2;have bo:=Fa (adA (j:=1) (v':=Z d4 (C Ls+1) Ap) mF.o.ls.1 az B9.1 3 a6 a6);clear B9 ay az)
       clear c8 Y1 cm;have En:wT (bW (W4.setCell ⟨O (T w)+2,1,N⟩ (Z d4 (C Ls+1) Ap)) (O (T w)) (Z bb n LU) (iL S)):=qT lK.o bo.o;have b1:wT (bW (W4.setCell ⟨O (T w)+2,1,N⟩ (Z d4 (C Ls+1) Ap)) (O (T w)) (Z dp (C d) cp) d):=qT Eu.o bo.o;generalize (W4.setCell ⟨O (T w)+2,1,N⟩ (Z d4 (C Ls+1) Ap))=W5 at *;clear mF lK Eu bo mI ic;(have I0:C (iL S)=n:=by rw[bR];exact vN.o.len)
       have uM:wT (c6 55 #[Z bb n LU,Z dp (C d) cp] W5 fun e w'=>e=yW (zp #[J I (cnt S (af d):Nat),J I 0])/\da W5 w'):=by
        have h5:=En.o;rw[<- I0] at h5;have h:=ame bb dp LU cp (iL S) d W5 (bW.intS h5) (bW.intS b1.o) (vN.o.fine fX al) (by rw[I0];exact yP.o.ok.up);rwa [I0,jP] at h
       obtain⟨dm,dk⟩:=ah2 vN.o (l:=af d) (by rw[gG];exact yP.o.ok.few);obtain⟨cr,YA⟩:=vN.o.sz v;(have Yz:v<C S:=by rw[vN.o.len];exact bh);(have bO:S[v]'Yz=sz S v:=by rw[Go.Proofs.YtkflnpjapgiajaaGreatDoor.sz,a7 Yz];rfl);have yQ:=Fa yP.o.ok;generalize hcq:cnt S (af d)=Uj at *;have Mw:=Fa hcq;clear hcq;refine uM.o.ae ?_;rintro e8 M3 ⟨rfl,iW⟩;have Jv:=Fa (UQ.o.step iW);have O5:=En.o.aa iW;rw[<- I0] at O5;obtain⟨aj,KE,DZ,ia,br⟩:=(bW.intS O5) v (by rw[I0];exact bh);subst DZ;(have ee:(iL S)[v]'(by rw[I0];exact bh)=((S[v]'Yz:Nat):Int):=by simp[iL]);rw[ee,bO] at br;rw[I0] at O5;have QD:=Fa br;have rq:=Fa O5;clear iW UQ En b1 uM br O5 ee bO;generalize afD:sz S v=sv at *;have b0:=Fa afD;clear afD;go_wp2_with fail
       go_loopw [9,16,17] (fun av rv kv sR=>∃(k Gi:Nat) (r:List Fr),k<=Uj/\kv=J I k/\av=J I (Gi:Nat)/\Gi<=aY+3*k/\wT (RP sv k r)/\wT (c5 sR (O (T M3)) rv r)/\wT (da M3 sR)) (fun _ _ kv _=>Uj - (intOf kv).toNat)
       case atStart=>exact⟨0,aY,[],aV _,rfl,rfl,ah _,RP.nil sv,c5.empty _ _,au _ _⟩
       case round=>
        obtain⟨k,Gi,r,hk,rfl,rfl,ds,Gz,jU,fA⟩:=hrel;obtain⟨bc,PC,cv, -⟩:=qR jU.o;subst cv;generalize wr=sR at *;by_cases BM:k<Uj
        ·have cG:k<27:=al
         have rh:=Jv.o.step fA.o;have bX:=(fA.o.cell (p:=⟨aj,KE+v,N⟩) ia).trans QD.o;have ct:=bX;have cK:aj<O (T sR):=aT ia fA.o.size;(have dn:Gi<=100000:=al);go_upto_region 35 with fail
         replace rh:=rh.step (au _ _).drew;have b4:da sR sR.drew:=(au _ _).drew;refine iK (S:=fun u=>u.cell? ⟨O (T w),2,N⟩=M (Z Q (C Bh) B7)/\u.cell? ⟨aj,KE+v,N⟩=M (J I (sv:Nat))) ao ⟨rh.cells.2.2.1,bX⟩ (fun D=>?_);generalize sR.drew=u0 at *;refine ar 0 (zR (M ⟨O (T w),2,N⟩)) ?_;(try simp only[gE,aP]);refine ar 1 (Z Q (C Bh) B7) ?_;(try simp only[gE,aP]);refine ar 2 (J I (Gi:Nat)) ?_;(try simp only[gE,aP]);refine ar 3 (Z (M ⟨aj,KE,N⟩) n LU) ?_;(try simp only[gE,aP]);refine ar 4 (J I (v:Nat)) ?_;(try simp only[gE,aP]);refine ar 5 (zR (M ⟨aj,KE+v,N⟩)) ?_;(try simp only[gE,aP]);refine ar 6 (J I (sv:Nat)) ?_;(try simp only[gE,aP]);refine aF [7] (cA ?_ aG);intro g K;go_simp;refine(GD.o Gi al sv cr YA _ (cd.o.aa rh.bel)).ae ?_;rintro e9 u1 ⟨ea,bp,rfl,K0,ai,yj,A⟩;have Zq:=b4.trans (A.ae b4.size);obtain⟨dB,b2,rfl,Zb⟩:=K0.fr;(have bP:C (rO bp)=sv:=by rw[WY];exact ai.len);rw[bP];obtain⟨b3,cc,cW, -, -⟩:=Zb 0 al;subst cW;have cO:=Fa Zb;have Qh:=Fa (alT yj);have cR:=Fa (alS ai.six (by rw[ai.len];exact YA) yj);have bu:=Fa bP;replace rh:=rh.step A;clear D;refine K.o _ _ ⟨rh.cells.2.2.1,(Zq.cell (p:=⟨aj,KE+v,N⟩) cK).trans ct⟩ (fun D=>?_);clear K g A K0 ai yj Zb;(try simp only[gE,aP]);refine ar 8 (Z (M ⟨b3,cc,N⟩) sv b2) ?_;(try simp only[gE,aP])
         refine eO ao ?_ _;clear D;have bN:=Fa (jU.o.aa Zq);have cM:=Fa (fA.o.trans (Zq.ae fA.o.size));have ic:O (T M3)<=O (T u1):=cM.o.size;have db:=Gz.o.len;have K9:k*sv<=81:=aM (kN (AU cG) YA) al;(have dv:C r<=81:=al);clear db;go_wp2_with (at_builtin;refine ajw rfl _ _ rfl (O (T M3)) _ r (rO bp) rfl bN.o b3 cc b2 (by rw[bu.o];rfl) cO.o (by rw[bu.o];omega) ic ?_;intro v9 u2 vk fJ;have ZW:=cM.o.grown fJ ic (fun k e=>Sb bN.o k e);have dj:=(ZW.cell (p:=⟨aj,KE+v,N⟩) ia).trans QD.o;have vU:=Fa ZW;clear ZW)
         go_roundw
         case rel=>exact⟨k+1,Gi+sv,r++rO bp,al,bd,bd,al,Gz.o.snoc bu.o Qh.o cR.o,vk,vU⟩
         case measure=>simp[intOf];omega
        ·obtain rfl:Uj=k:=al
         have rh:=Jv.o.step fA.o;have q9:=rq.o.aa fA.o;have yC:c5 sR (O (T w)) (Z bc (C r) PC) r:=Nx jU.o Jv.o.bel.size;obtain⟨dz,cz,Yk, -⟩:=qR rh.rs.1;subst Yk;have Bj:da sR (sR.alloc (yM #[Z bc (C r) PC] 36)):=(au _ sR).alloc (ah _) _;have mF:=Fa (rh.step Bj);have lK:=Fa (q9.aa Bj);have ru:=Fa (yC.aa Bj);have df:=rh.box.cells.2.2;have mI:=Fa ((bF sR 36 (Z bc (C r) PC)).cell);have ic:O (T w)<=O (T (sR.alloc (yM #[Z bc (C r) PC] 36))):=mF.o.bel.size;have cg:wT (aa4 S v d r):=⟨by rw[Mw.o,b0.o];exact Gz.o.len,fun i hi=>by rw[b0.o];exact Gz.o.rows i (by rw[<- Mw.o];exact hi),Gz.o.small⟩;clear rh q9 yC Bj jU fA;go_wp2_with (at_builtin;refine ajt rfl _ _ rfl (O (T w)) _ Rs (Z bc (C r) PC) ⟨_,_,_,rfl⟩ rfl mF.o.rs.1 (O (T sR)) rfl mI.o (by have:=Mr.o.lenR;omega) ic ?_;intro v5 W7 YP qZ;obtain⟨d7,D6,rfl, -⟩:=qR YP;have B9:=mF.o.pushR YP qZ ru.o;have bt:=B9.1.cells.2.2;have dw:W7.frozen? ⟨O (T w)+2,2,N⟩=false:=gj _ _ 2 _ _ B9.1;have cL:=Fa B9.2;have cN:=Fa (adA (j:=2) (v':=Z d7 (C Rs+1) D6) mF.o.rs.1 qZ B9.1 3 a6 a6);clear B9 YP qZ)
         go_roundw
         case rel=>exact⟨v+1,q,Gi,_,_,_,_,al,bd,rfl,rfl,al,al,Mr.o.snoc yQ.o cg.o,cL,qT lK.o cN.o⟩
         case measure=>simp[intOf];omega
    ·obtain rfl:n=v:=al
     obtain⟨dx,dA,dc, -⟩:=qR m.o.vs.1;subst dc;obtain⟨dy,cy,Ym, -⟩:=qR m.o.ls.1;subst Ym;obtain⟨dz,cz,Yk, -⟩:=qR m.o.rs.1;subst Yk;obtain⟨e0,e1,e2⟩:=m.o.box.cells;obtain⟨q0,q1,q2⟩:=m.o.res.cells;have f0:wr.frozen? ⟨O (T w)+1,0,N⟩=false:=gj _ _ 0 _ _ m.o.res;have f1:wr.frozen? ⟨O (T w)+1,1,N⟩=false:=gj _ _ 1 _ _ m.o.res;have f2:wr.frozen? ⟨O (T w)+1,2,N⟩=false:=gj _ _ 2 _ _ m.o.res;obtain⟨o1,F,o3,o4,o5⟩:=m.o.out3;have pR:=Fa o1;have Qo:=Fa F;have cf:=Fa o3;have UW:=Fa o4;have Ex:=Fa o5;clear o1 F o3 o4 o5;go_wp2;refine dI (Hc rfl _ _ (O (T w)+1) _ _ _ _ rfl pR.o underlying26 rfl ao) rfl ?_;exact⟨bk,n,_,_,_,Vs,Ls,Rs,rfl,⟨fX,BL⟩,PZ.o,by rw[Jo.o];exact Mr.o,Qo.o,cf.o,UW.o,Ex.o⟩
variable {P:List Ja}
theorem ab7 (a:Up l n):ei l n=true:=by
 rw[ei,fM];intro i b;have h:=bS.1 b;rw[lX,eP,getD_eq h];refine⟨(a.each i h).1,(a.each i h).2,fun c=>?_⟩;rw[getD_eq (show i - 1<C l by omega)];exact a.lt (i - 1) i h al
theorem Xk {Ls:List PL} (h:Ed bk n n S Ls Rs) (a:v<C (jg Ls)):UA bk n v (jg Ls)[v]:=by
 have b:v<C Ls:=by simpa [jg] using a
 simpa [jg] using h.pars v b
theorem adh:∀(n:Nat) (l:Ja),(∀v,v< n ->v∈l) ->n<=C l
 |0,_,_=>aV _
 |n+1,l,h=>by
  have m:=h n al;have a:=adh n (l.erase n) fun v d=>(List.mem_erase_of_ne al).2 (h v al);have b:=VU m;have c:=VT m;omega
theorem aed (r:Nat ->Nat) (h:∀v,v<C P ->∀u∈P.getD v [],u<C P/\r u<r v):∀k,k<=C P ->C (bj P k)=k
 |0,_=>rfl
 |k+1,hk=>by
  have j:=aed r h k al;cases e:rS P (bj P k) with
  |some v=>rw[Sh e,cE,j];rfl
  |none=>
   exfalso
   have n:∀v,v<C P ->iX P (bj P k) v=false:=fun v a=>by
    have:=VY.1 e v (bS.2 a);simpa using this
   have l:∀m v,v<C P ->r v<=m ->v∈bj P k:=by
    intro m;induction m with
    |zero=>
     intro v a i;refine zt fun b=>?_;have f:=n v a;rw[iX,Bool.and_eq_false_iff] at f;rcases f with f |f
     ·exact absurd b (by simpa using f)
     ·have d:=of_decide_eq_false f;refine d fun u c=>?_;have:=(h v a u c).2;omega
    |succ m NZ=>
     intro v a i;refine zt fun b=>?_;have f:=n v a;rw[iX,Bool.and_eq_false_iff] at f;rcases f with f |f
     ·exact absurd b (by simpa using f)
     ·have d:=of_decide_eq_false f;refine d fun u c=>?_;obtain⟨g,o⟩:=h v a u c;exact NZ u g al
   have p:=adh (C P) (bj P k) fun v a=>l (r v) v a (ah _);omega
theorem ao3 {Ls:List PL} (h:Ed bk n n S Ls Rs) (h1:1<=n) (q:n<=6):bq (jg Ls)=0:=by
 have d:C (jg Ls)=n:=by simp[jg,h.len]
 have g:∀v (a:v<C (jg Ls)),∀x∈(jg Ls)[v],(0<=x/\x<n)/\(if bk=y6 then(v:Int)<x else x<(v:Int)):=fun v a x b=>
  ⟨(eH.1 (Xk h a).up).1 x b,(Xk h a).rank x b⟩
 have o:gB (jg Ls)=true:=by
  rw[gB,iu,iu];refine⟨⟨cJ ⟨al,al⟩,?_⟩,?_⟩
  ·rw[kK,fM];intro l j;obtain⟨v,a,rfl⟩:=iE j;rw[d];exact ab7 (Xk h a).up
  ·rw[Bd,fM];intro v a;have c:v<C (jg Ls):=bS.1 a;rw[cF,a7 c];simp only[CH,Bool.not_eq_true',QO];intro m;obtain⟨x,b,e⟩:=aN.1 m;obtain⟨⟨i,_⟩,r⟩:=g v c x b;cases bk<;>simp at r<;>omega
 rw[bq,aw o,aC];have p:C (aH (jg Ls))=n:=by rw[j5,d]
 have k:=aed (P:=aH (jg Ls)) (fun v=>if bk=y6 then n - v else v) (fun v a u f=>by
  have c:v<C (jg Ls):=by rw[j5] at a;exact a
  rw[Ii c] at f;obtain⟨x,b,rfl⟩:=aN.1 f;obtain⟨⟨i,s⟩,r⟩:=g v c x b;refine⟨by rw[p];omega,?_⟩;rw[d] at c;cases bk
  ·simp at r⊢;omega
  ·simp at r⊢;omega) n al
 rw[d,k];omega
theorem aoc (h:VK n Vs):lx (iO Vs)=(List.range n).map (j7 110):=by
 apply ld
 ·simp[lx,iO,h.len]
 ·intro i a c;have b:i<C Vs:=by simpa [lx,iO] using a
  simp[lx,iO,(h.each i b).1]
theorem aob:∀n,n<=6 ->nZ ((List.range n).map (j7 110))=0:=by
 intro n a;have h:n=0∨n=1∨n=2∨n=3∨n=4∨n=5∨n=6:=al
 rcases h with rfl |rfl |rfl |rfl |rfl |rfl |rfl<;>decide+kernel
theorem ajM:∀k,k<=3 ->nZ (uQ k)=0:=by
 intro n a;have h:n=0∨n=1∨n=2∨n=3:=al
 rcases h with rfl |rfl |rfl |rfl<;>decide+kernel
theorem aoY (h:VK n Vs) (f:n<=6):lT (iO Vs)=0:=by
 rw[lT,aoc h,aob n f,aw rfl];refine BX fun j a=>?_;have g:j<C Vs:=by simpa [iO] using a
 obtain⟨_,k,c,d,e⟩:=h.each j g
 have b:((iO Vs).getD j (⟨#[]⟩,[])).2=uQ k:=by
  rw[cF,a7 a];simp[iO,e]
 rw[sS,b,Rm,aw ⟨c,al⟩,ajM k d]
theorem ao1 {Ls:List PL} (V:VK n Vs) (h:Ed bk n n (ag (iO Vs)) Ls Rs) (h1:1<=n) (a:n<=6):aS (iO Vs) (jg Ls) (qg Rs)=0:=by
 have v:C (iO Vs)=n:=by simp[iO,V.len]
 have l:C (jg Ls)=n:=by simp[jg,h.len]
 have r:C (qg Rs)=n:=by simp[qg,h.lenR]
 rw[aS,aw ⟨al,al⟩,aw (ao3 h h1 a),aw (aoY V a)];refine BX fun j d=>?_;have D:j<C Ls:=by have:=h.len;omega
 have R:j<C Rs:=by have:=h.lenR;omega
 have o:=h.rows j D R;have e:(jg Ls).getD j []=Ls[j].2:=by rw[cF,a7 (by simpa [jg] using D)];simp[jg]
 have b:(qg Rs).getD j []=Rs[j].2:=by rw[cF,a7 (by simpa [qg] using R)];simp[qg]
 rw[ju,e,b,aw o.len,aw];rw[fM];intro i c;exact o.rows i (bS.1 c)
section
attribute [local go_sem] Oper.semAt_some
theorem atF (a b:Kd) (ca cb:Nat) (Fb Fd:Kx) (K:Nat) (w:E) (hs:aB w a Fb) (hv:aB w b Fd) (R:fK Fb) (bh:Up Fd (C Fb)) (A:K<cnt (af Fb) (af Fd)):
  c6 285 #[Z a (C Fb) ca,Z b (C Fd) cb,J I (K:Nat)] w fun e w'=>∃(g:Nat) (cc:Nat),e=yW (Z (M ⟨g,0,N⟩) (C (oC (af Fb) (af Fd) K)) cc)/\w.heap.size<=g/\cP w' g (oC (af Fb) (af Fd) K)/\da w w':=by
 refine(jb (n:=6)).1 ?_;have uu:=R.eight;have fQ:=bh.length;have av:cnt (af Fb) (af Fd)<=65536:=xm R.sz_le (by rw[gG];omega);have an:=fun V=>QL (P:=prog) 27 3 (J I 0) 8 underlying27 Tryz.infoInt rfl I I (C Fd) al al V;have HS:=Fa hs;have HV:=Fa hv;have X:=Fa R;have nL:=Fa bh;have wS:C (oC (af Fb) (af Fd) K)=C Fd:=by rw[ahP,gG]
 have xJ:=Fa (atK A);rw[gG] at xJ;rw[wS];clear hs hv R bh;refine vY func285 rfl trivial ?_ rfl;simp only[ntmps285,mL,eA,lS,Nat.reduceAdd,Nat.reduceSub,oX,oW,oP,nV,gS,gF];gi_wp2_with ((refine⟨trivial,?_⟩;gi_at_call 216;refine(aaP _ _ _ _ _).ae ?_;rintro e w2 ⟨rfl,rfl⟩))
 obtain⟨m,q⟩:∃m,m=(((((w.alloc (yM #[Z a (C Fb) ca] 27)).alloc (yM #[J I (K:Nat)] 3)).alloc (yM (madeCells #[J I 0] (C Fd)) 3)).alloc (yM #[Z (M ⟨O (T w)+1+1,0,N⟩) (C Fd) (C Fd)] 27)).alloc (yM #[Z b (C Fd) cb] 27)):=⟨_,rfl⟩;have BF:O (T m)=O (T w)+1+1+1+1+1:=by rw[q];simp
 have b0:Boxed m (O (T w)) 27 (Z a (C Fb) ca):=by rw[q];exact((((bF w _ _).alloc _).alloc _).alloc _).alloc _
 have b1:Boxed m (O (T w)+1) 3 (J I (K:Nat)):=by
  have h:=((((bF (w.alloc (yM #[Z a (C Fb) ca] 27)) 3 (J I (K:Nat))).alloc (yM (madeCells #[J I 0] (C Fd)) 3)).alloc (yM #[Z (M ⟨O (T w)+1+1,0,N⟩) (C Fd) (C Fd)] 27)).alloc (yM #[Z b (C Fd) cb] 27));rw[eV] at h;rw[q];exact h
 have r2:cP m (O (T w)+1+1) (List.replicate (C Fd) 0):=by
  have h:=((ae3 ((w.alloc (yM #[Z a (C Fb) ca] 27)).alloc (yM #[J I (K:Nat)] 3)) (C Fd)).alloc (yM #[Z (M ⟨O (T w)+1+1,0,N⟩) (C Fd) (C Fd)] 27)).alloc (yM #[Z b (C Fd) cb] 27);rw[eV,eV] at h;rw[q];exact h
 have b3:Boxed m (O (T w)+1+1+1) 27 (Z (M ⟨O (T w)+1+1,0,N⟩) (C Fd) (C Fd)):=by
  have h:=(bF (((w.alloc (yM #[Z a (C Fb) ca] 27)).alloc (yM #[J I (K:Nat)] 3)).alloc (yM (madeCells #[J I 0] (C Fd)) 3)) 27 (Z (M ⟨O (T w)+1+1,0,N⟩) (C Fd) (C Fd))).alloc (yM #[Z b (C Fd) cb] 27);rw[eV,eV,eV] at h;rw[q];exact h
 have b4:Boxed m (O (T w)+1+1+1+1) 27 (Z b (C Fd) cb):=by
  have h:=bF ((((w.alloc (yM #[Z a (C Fb) ca] 27)).alloc (yM #[J I (K:Nat)] 3)).alloc (yM (madeCells #[J I 0] (C Fd)) 3)).alloc (yM #[Z (M ⟨O (T w)+1+1,0,N⟩) (C Fd) (C Fd)] 27)) 27 (Z b (C Fd) cb);rw[eV,eV,eV,eV] at h;rw[q];exact h
 have ad:da w m:=by
  rw[q];exact(((((au _ w).alloc (ah _) _).alloc aE _).alloc (by simp;omega) _).alloc (by simp;omega) _).alloc (by simp;omega) _
 rw[<- q];clear q
 refine QK (α:=At Fd) rfl al (gf:=263) (lb:= #[zR (M ⟨O (T w)+1+1+1+1,0,N⟩)]) rfl trivial (enters_of func263 ao rfl)
  (aaO 5 al (O (T w)+1+1+1+1) (O (T w)) b cb Fd al m al al b4.cell (HV.o.toB.aa ad)) vM.t (vM.b al al) (au _ _) (fun _=>rfl)
  (fun (d:List (At Fd)) V=>Boxed V (O (T w)) 27 (Z a (C Fb) ca)/\Boxed V (O (T w)+1) 3 (J I ((sF (af Fb) (af Fd) K (C Fd) (d.map (·.1))).1:Nat))/\cP V (O (T w)+1+1) (sF (af Fb) (af Fd) K (C Fd) (d.map (·.1))).2/\Boxed V (O (T w)+1+1+1) 27 (Z (M ⟨O (T w)+1+1,0,N⟩) (C Fd) (C Fd))/\Boxed V (O (T w)+1+1+1+1) 27 (Z b (C Fd) cb)/\da w V)
  (fun _ _ _=>False)
  (gJ (iB (ko _ _ (fun _=>_)) _) (gJ (iB (ko _ _ (fun d:List (At Fd)=>J I ((sF (af Fb) (af Fd) K (C Fd) (d.map (·.1))).1:Nat))) _) (gJ (iB (RH _ (fun d:List (At Fd)=>(sF (af Fb) (af Fd) K (C Fd) (d.map (·.1))).2)) _) (gJ (iB (ko _ _ (fun _=>_)) _) (gJ (iB (ko _ _ (fun _=>_)) _) (CE (ah _) al))))))
  (fun _ _ _ _ _ hs _ _=>hs)
  ⟨b0,b1,r2,b3,b4,ad⟩
  (fun x=> {tmps:= #[Z a (C Fb) ca,Z b (C Fd) cb,J I (K:Nat),zR (M ⟨O (T w),0,N⟩),wQ,zR (M ⟨O (T w)+1,0,N⟩),Z N 0 0,zR (M ⟨O (T w)+1+1+1,0,N⟩),J I (x.1:Nat),J I (Fd[x.1]'x.2),Z b (C Fd) cb,J I (C Fd:Nat),Z (M ⟨O (T w)+1+1,0,N⟩) (C Fd) (C Fd),Z b (C Fd) cb,.func (.func 263) #[] #[zR (M ⟨O (T w)+1+1+1+1,0,N⟩)],J I (x.1:Nat),J I (Fd[x.1]'x.2),wQ,wQ,wQ,wQ,wQ,wQ,wQ,wQ,wQ,wQ,wQ,wQ,wQ,wQ,wQ,wQ],defers:=[]}) ?assign ?body ?done ?stop
 case assign=>
  intro l x V K A;gi_wp2
  exact A
 case body=>
  rintro l d ⟨i,B7⟩ V ⟨h0,Q,L,Bb,h4,Y⟩ az;obtain⟨kR,iF⟩:=nL.o.nat B7
  have ab:wT (sF (af Fb) (af Fd) K (C Fd) ((d++[(⟨i,B7⟩:At Fd)]).map (·.1))=((sF (af Fb) (af Fd) K (C Fd) (d.map (·.1))).1/sz (af Fb) Fd[i].toNat,(sF (af Fb) (af Fd) K (C Fd) (d.map (·.1))).2.set i ((sF (af Fb) (af Fd) K (C Fd) (d.map (·.1))).1 % sz (af Fb) Fd[i].toNat))):=by
   show _=_;rw[gV,gw,oQ,aio,Jc,F8 (show i<C (af Fd) by rw[gG];exact B7),wC B7]
  obtain⟨kT,ai⟩:=atJ (af Fb) (af Fd) K (C Fd) (d.map (·.1));have hz:=lp X.o.pos Fd[i].toNat;have KS:=X.o.sz_le Fd[i].toNat;generalize hV:Fd[i].toNat=v at *;rw[<- kR];obtain⟨g',o',rfl,iz,Ba⟩:=(HS.o.aa Y) v iF;rw[<- X.o.sz_eq iF] at Ba
  have ay:g'<O (T w):=by
   obtain⟨g3,o3,e3,Bb,_⟩:=HS.o v iF;cases e3;exact Bb
  clear kR hV;generalize sF (af Fb) (af Fd) K (C Fd) (d.map (·.1))=st at *;obtain⟨p,Jd⟩:=st;simp only at Q L kT ai ab;generalize sz (af Fb) v=s at *;have bb:=L.cell i al;have ax:=L.fz i;have k0:=h0.cell;have k1:=Q.cell;have k3:=Bb.cell;have f1:=Q.frozen;have uq:(p:Int) % (s:Int)=((p % s:Nat):Int):=(wk _ _).symm;have pq:(p:Int)/(s:Int)=((p/s:Nat):Int):=(AX _ _).symm;have aI:p % s<=65536:=aM (Nat.mod_le _ _) al;have bt:p/s<=65536:=aM (AV _ _) al;generalize p % s=mm at *;generalize p/s=dd at *;have a6:¬(s:Int)=0:=al
  have S8:¬O (T w)+1+1=O (T w)+1:=al
  have YZ:¬O (T w)+1=O (T w)+1+1:=al
  have lD:i<C Jd:=al
  generalize Jd[i]=z at *;have aY:IntKind.i64.wrap ((p:Int) % (s:Int))=(p:Int) % (s:Int):=by rw[uq,js];omega
  have a1:IntKind.i64.wrap ((p:Int)/(s:Int))=(p:Int)/(s:Int):=by rw[pq,js];omega
  have Mi:=Fa uq;have Cl:=Fa pq;clear uq pq an b0 b1 r2 b3 b4 ad BF wS xJ nL X HV av A ai;gi_wp2_with fail
  refine A7 (fun u=>u.cell? ⟨O (T w)+1+1+1,0,N⟩=M (Z (M ⟨O (T w)+1+1,0,N⟩) (C Fd) (C Fd))/\u.cell? ⟨O (T w)+1,0,N⟩=M (J I (p:Nat))/\u.cell? ⟨O (T w),0,N⟩=M (Z (M ⟨g',o',N⟩) (C Fb) ca)/\u.cell? ⟨g',o'+v,N⟩=M (J I (s:Nat))) ao ao (fun ⟨_,_,h⟩=>h) ⟨k3,k1,k0,Ba⟩ ?_;intro S;refine cU 0 (Z (M ⟨O (T w)+1+1,0,N⟩) (C Fd) (C Fd)) ?_ ?_
  ·intro u Bh;obtain⟨Bm,F,f,k⟩:=Bh;simp only[gE];go_simp
  simp only[gE,aP];refine cU 1 (J I (i:Nat)) ?_ ?_
  ·intro u Bh;obtain⟨Bm,F,f,k⟩:=Bh;simp only[gE];go_simp
  simp only[gE,aP];refine cU 2 (J I (p:Nat)) ?_ ?_
  ·intro u Bh;obtain⟨Bm,F,f,k⟩:=Bh;simp only[gE];go_simp
  simp only[gE,aP];refine cU 3 (Z (M ⟨g',o',N⟩) (C Fb) ca) ?_ ?_
  ·intro u Bh;obtain⟨Bm,F,f,k⟩:=Bh;simp only[gE];go_simp
  simp only[gE,aP];refine cU 4 (J I (v:Nat)) ?_ ?_
  ·intro u Bh;obtain⟨Bm,F,f,k⟩:=Bh;simp only[gE];go_simp
  simp only[gE,aP];refine cU 5 (zR (M ⟨g',o'+v,N⟩)) ?_ ?_
  ·intro u Bh;obtain⟨Bm,F,f,k⟩:=Bh;simp only[gE];go_simp
  simp only[gE,aP];refine cU 6 (J I (s:Nat)) ?_ ?_
  ·intro u Bh;obtain⟨Bm,F,f,k⟩:=Bh;simp only[gE];go_simp
  simp only[gE,aP];refine cU 7 (J I ((p:Int) % (s:Int))) ?_ ?_
  ·intro u Bh;obtain⟨Bm,F,f,k⟩:=Bh;simp only[gE];go_simp;rw[aC (show ¬s=0 by omega),Int.tmod_eq_emod_of_nonneg (Q9 _)]
  simp only[gE,aP];refine cU 8 (zR (M ⟨O (T w)+1+1,i,N⟩)) ?_ ?_
  ·intro u Bh;obtain⟨Bm,F,f,k⟩:=Bh;simp only[gE];go_simp
  simp only[gE,aP];refine aF [9] (cA ?_ aG);intro B9 Bj;simp only[gE];go_simp;have H:∀(b j:Nat) (y:wF),¬O (T w)+1+1=b ->(V.setCell ⟨O (T w)+1+1,i,N⟩ y).drew.cell? ⟨b,j,N⟩=V.cell? ⟨b,j,N⟩:=fun b j y hb=>fT _ _ _ _ (fun e=>hb (by cases e;rfl));refine Bj.o _ _ ⟨(H _ _ _ al).trans k3,(H _ _ _ al).trans k1,(H _ _ _ al).trans k0,(H _ _ _ al).trans Ba⟩ (fun _=>eO ao ?_ _);clear Bj B9 S;have m0:=(H (O (T w)) 0 (J I ((p:Int) % (s:Int))) al).trans k0;have m1:=(H (O (T w)+1) 0 (J I ((p:Int) % (s:Int))) al).trans k1;have m2:=(H g' (o'+v) (J I ((p:Int) % (s:Int))) al).trans Ba;have aj:=L.set i mm;rw[<- Mi.o] at aj;have q0:Boxed (V.setCell ⟨O (T w)+1+1,i,N⟩ (J I ((p:Int) % (s:Int)))).drew (O (T w)) 27 (Z (M ⟨g',o',N⟩) (C Fb) ca):=jD h0 _ i _ al;have q1:Boxed (V.setCell ⟨O (T w)+1+1,i,N⟩ (J I ((p:Int) % (s:Int)))).drew (O (T w)+1) 3 (J I (p:Nat)):=jD Q _ i _ al;have q3:Boxed (V.setCell ⟨O (T w)+1+1,i,N⟩ (J I ((p:Int) % (s:Int)))).drew (O (T w)+1+1+1) 27 (Z (M ⟨O (T w)+1+1,0,N⟩) (C Fd) (C Fd)):=jD Bb _ i _ al;have q4:Boxed (V.setCell ⟨O (T w)+1+1,i,N⟩ (J I ((p:Int) % (s:Int)))).drew (O (T w)+1+1+1+1) 27 (Z b (C Fd) cb):=jD h4 _ i _ al
  have q2:cP (V.setCell ⟨O (T w)+1+1,i,N⟩ (J I ((p:Int) % (s:Int)))).drew (O (T w)+1+1) (Jd.set i mm):=aj;have qB:da w (V.setCell ⟨O (T w)+1+1,i,N⟩ (J I ((p:Int) % (s:Int)))).drew:=(Y.setCell (p:=⟨O (T w)+1+1,i,N⟩) (by simp;omega) _).drew;have qK:Below (O (T w)) V (V.setCell ⟨O (T w)+1+1,i,N⟩ (J I ((p:Int) % (s:Int)))).drew:=((au (O (T w)) V).setCell (p:=⟨O (T w)+1+1,i,N⟩) (by simp;omega) _).drew;have qO:KeepsOthers V (V.setCell ⟨O (T w)+1+1,i,N⟩ (J I ((p:Int) % (s:Int)))).drew:=(jJ V _ _).trans (CS _);have fU:=q1.frozen;have j4:qH (O (T w)+1+1+1+1) V (V.setCell ⟨O (T w)+1+1,i,N⟩ (J I ((p:Int) % (s:Int)))).drew:=q4.cell.trans h4.cell.symm;clear H;generalize (V.setCell ⟨O (T w)+1+1,i,N⟩ (J I ((p:Int) % (s:Int)))).drew=U at *;gi_wp2_with fail
  refine A7 (fun u=>u.cell? ⟨O (T w),0,N⟩=M (Z (M ⟨g',o',N⟩) (C Fb) ca)/\u.cell? ⟨g',o'+v,N⟩=M (J I (s:Nat))) ao ao (fun ⟨_,_,h⟩=>h) ⟨m0,m2⟩ ?_;intro S;refine cU 1 (Z (M ⟨g',o',N⟩) (C Fb) ca) ?_ ?_
  ·intro u Bh;obtain⟨f,k⟩:=Bh;simp only[gE];go_simp
  simp only[gE,aP];refine cU 2 (J I (v:Nat)) ?_ ?_
  ·intro u Bh;obtain⟨f,k⟩:=Bh;simp only[gE];go_simp
  simp only[gE,aP];refine cU 3 (zR (M ⟨g',o'+v,N⟩)) ?_ ?_
  ·intro u Bh;obtain⟨f,k⟩:=Bh;simp only[gE];go_simp
  simp only[gE,aP];refine cU 4 (J I (s:Nat)) ?_ ?_
  ·intro u Bh;obtain⟨f,k⟩:=Bh;simp only[gE];go_simp
  simp only[gE,aP];refine aF [0] (cA ?_ aG);intro B9 Bj;simp only[gE];go_simp;refine Bj.o _ _ S (fun _=>?_);clear Bj B9;refine cU 5 (J I ((p:Int)/(s:Int))) ?_ ?_
  ·intro u Bh;obtain⟨f,k⟩:=Bh;simp only[gE];go_simp;omega
  simp only[gE,aP];refine aF [6] (cA ?_ aG);intro B9 Bj;simp only[gE];go_simp;refine Bj.o _ _ ⟨(jD q0 (O (T w)+1) 0 _ al).cell,(fT _ _ _ _ (fun e=>(show ¬O (T w)+1=g' by omega) (eG Addr.block e))).trans m2⟩ (fun _=>eO ao ?_ _);clear Bj B9 S;gi_wp2
  rw[Cl.o];refine⟨(qO.trans ((jJ U _ _).trans (CS _))).from _,⟨j4.t ((jD q4 (O (T w)+1) 0 (J I (dd:Nat)) al).cell.trans q4.cell.symm),(qK.setCell (p:=⟨O (T w)+1,0,N⟩) aE _).drew⟩,?_⟩;refine⟨jD q0 _ 0 _ al,?_,?_,jD q3 _ 0 _ al,jD q4 _ 0 _ al,(qB.setCell (p:=⟨O (T w)+1,0,N⟩) aE _).drew⟩
  ·rw[ab.o];exact q1.set _
  ·rw[ab.o];exact q2.off _ 0 _ al
 case done=>
  rintro D ys V hD Fl ⟨h0,Q,L,Bb,h4,Y⟩ A;rw[Fl,xJ.o] at L;have hc:=Bb.cell;gi_wp2
  refine⟨aE,yd ⟨_,_,rfl,CC A,?_⟩⟩;refine⟨_,CD rfl _ _ _,?_⟩;refine⟨O (T w)+1+1,⟨C Fd,rfl⟩,al,?_,Y.trans (xM (w:=w) (ah _) V D _ _ al A rfl rfl)⟩;have ak:cP (V.putObj D (.deferred N)) (O (T w)+1+1) (oC (af Fb) (af Fd) K):=RH (O (T w)+1+1) (fun (_:Unit)=>oC (af Fb) (af Fd) K) () V _ (M D) L (grownBy_putObj' V D _) (fun r e=>by cases e;exact⟨_,A,rfl⟩);exact ak
 case stop=>
  rintro D c d V _ _ h _;exact h.elim
theorem aki (a b:Kd) (ca cb K:Nat) (Fb Fd:Kx) (w:E) (hs:aB w a Fb) (v:aB w b Fd) (R:fK Fb) (d:Up Fd (C Fb)) (n:K<cnt (af Fb) (af Fd)):
  c6 257 #[Z a (C Fb) ca,Z b (C Fd) cb,J I (K:Nat)] w fun e w'=>∃(g:Nat) (cc:Nat),e=yW (zp #[Z (M ⟨g,0,N⟩) (C Fd) cc,J I 0])/\w.heap.size<=g/\cP w' g (oC (af Fb) (af Fd) K)/\da w w':=by
 have u:=R.eight;have Q:=d.length;have S:=Fa hs;have j:=Fa v;have l:countB Fb Fd=true:=LP R d;have H:=Fa (fun V f i=>Rx a b ca cb Fb Fd V f i al al);rw[LQ l] at H;simp only at H;have A:=Fa (fun V f i=>atF a b ca cb Fb Fd K V f i R d n);have k:C (oC (af Fb) (af Fd) K)=C Fd:=by rw[ahP,gG]
 rw[k] at A;clear hs v l R d k;generalize oC (af Fb) (af Fd) K=ds at *;generalize cnt (af Fb) (af Fd)=m at *;have x:(0:Int)<=(K:Int):=al
 have D:(K:Int)<(m:Int):=al
 go_enter func257,ntmps257;go_wp2_with fail
 refine(H.o _ S.o j.o).ae ?_;rintro e r ⟨rfl,h⟩;go_wp2_with fail
 refine(A.o _ (S.o.aa h) (j.o.aa h)).ae ?_;rintro e s ⟨c,cc,rfl,t,q,p⟩;have y:=h.size;go_wp2;go_ret2;exact⟨c,cc,rfl,al,q,h.trans (p.ae h.size)⟩
end
open Go.Sort
variable {la:Kx} {Ab D:Nat} {wr wr':E}
theorem akR {a:Addr} (i:aB w (M a) la):∀j u,(la.map (Value.int I))[j]? =M u ->w.cell? (a.add j)=M u:=by
 intro j u h;rw[k9] at h;cases hq:la[j]? with
 |none=>rw[hq] at h;cases h
 |some z=>
  rw[hq] at h;cases h;obtain⟨Bj,Bm⟩:=mO.1 hq;obtain⟨g,o',e,_,c⟩:=i j Bj;cases e;rw[<- Bm];rw[Addr.add];by_cases b:j=0
  ·subst b;simpa using c
  ·simpa [b] using c
theorem afY {c:Array wF} (h:w.heap[g]? =M (yM c 3 (0,0))) (b:∀j (a:j<C l),c[j]? =M (J I l[j])):Holds (Value.int I) w g 0 l.toArray:=fun j a=>by
 have d:j<C l:=by simpa using a
 refine⟨?_,gj w g (0+j) _ _ h⟩;rw[bQ,ba w g j _ _ (0,0) h,b j d,MC l.toArray j a];simp
theorem ajo {o:Oper} {a:Act} (s x:Operand)
  (m:o.op=.call {callee:=.builtin .append,args:= #[s,x],argTypes:= #[27,27]}) (gb:Nat) (z:Int) (la:Kx) (hs:a.eval s=Z (M ⟨gb,0,N⟩) 1 1) (d:w.heap[gb]? =M (yM #[J I z] 3 (0,0))) (p:Kd) (ca:Nat) (q:a.eval x=Z p (C la) ca) (t:aB w p la) (Bm:p=N ->ca=0) (R:C la<=100000)
  (h:∀D cap w',(D=gb∨O (T w)<=D) ->D<O (T w') ->Holds (Value.int I) w' D 0 ([z]++la).toArray ->w.grownBy w' (M gb) ->K (a.put o.dst (Z (M ⟨D,0,N⟩) (C ([z]++la)) cap)) w'):o.wp prog a w K Q:=by
 obtain⟨i,f,Bh,v,L⟩:=eC Tryz.infoInt;have Bj:gb<O (T w):=(cS.1 d).1
 have H:Holds (Value.int I) w gb 0 ([z]++[]).toArray:=afY d fun j b=>by
  have:j=0:=by simp at b;omega
  subst this;rfl
 have y:∀(F:la=[]),K (a.put o.dst (Z (M ⟨gb,0,N⟩) 1 1)) w:=fun F=>by
  subst F;exact h gb 1 w (yd rfl) Bj H ⟨rfl,rfl,rfl,ah _,fun _ _ _=>rfl⟩
 cases p with
 |none=>
  have c:la=[]:=by
   cases la with
   |nil=>rfl
   |cons x l=>obtain⟨g,o,e,_⟩:=t 0 aE;cases e
  have A:=Bm rfl;have k:=y c;subst c A;have Bb:w.ownsRow gb 3 1 (Z (M ⟨gb,0,N⟩) 1 1) 1 [J I z]:=⟨rfl,yk ⟨gb,1,_,rfl,ah _,d,ah _,by unfold maxLen;omega,rfl,rfl⟩⟩;have n:=run_append_owned_none (P:=prog) (w:=w) gb 27 o.type 3 i 1 underlying27 f (Z (M ⟨gb,0,N⟩) 1 1) 1 _ Bb;unfold Oper.wp;simp[execOp,m,resolve,invoke,builtin,hs,q,n,Result.andThen];exact k
 |some ad=>
  have B9:=akR t;have c:C (la.map (Value.int I))=C la*i.size:=by rw[v];simp
  by_cases F:la=[]
  ·have k:=y F;subst F;have n:=run_append_room_cells (P:=prog) (w:=w) 27 o.type 3 i underlying27 f gb 0 1 1 ad 0 ca [] aE aE aE (ah _) aE aE;unfold Oper.wp execOp;simp only[m,resolve,invoke,builtin,JQ,zi,vZ,JS,gw,oQ,hs,q,lS,n];exact k
  ·have S:0<C la:=List.length_pos_iff.2 F
   have n:=run_append_grow (P:=prog) w 27 o.type 3 i (J I 0) underlying27 f Bh ⟨gb,0,N⟩ 1 1 [J I z] (by rw[v];rfl) (fun j u b=>by
    match j,b with
    |0,b=>cases b;rw[show (⟨gb,0,N⟩:Addr).add 0=⟨gb,0,N⟩ from rfl,ba w gb 0 _ _ (0,0) d];rfl
    |j+1,b=>simp at b) ad (C la) ca (la.map (Value.int I)) c B9 al al (QN al (by rw[L];omega))
   unfold Oper.wp execOp;simp only[m,resolve,invoke,builtin,JQ,zi,vZ,JS,gw,oQ,hs,q,n];have r:=h (O (T w)) (grownCap w (1+C la) 1 3) (w.drew.alloc (yM ([Value.int I z].toArray++(la.map (Value.int I)).toArray++Builtin.zeroCells (Value.int I 0).cells (grownCap w (1+C la) 1 3 - (1+C la))) 3)) (yk (ah _)) aE ?_ ⟨rfl,rfl,rfl,aE,fun _ k _=>uP w.drew _ _ k⟩
   ·have e:C ([z]++la)=1+C la:=by simp;omega
    rw[e] at r;exact r
   ·refine afY (dU w.drew _) fun j b=>?_;rw[Array.getElem?_append_left (by simp at b⊢;omega)];simp only[nV,Q1];rw[show [Value.int I z]++la.map (Value.int I)=([z]++la).map (Value.int I) by simp,k9,a7 b];rfl
theorem alJ (g cap:Nat) (l:Kx) (w:E) (b:Holds (Value.int I) w g 0 l.toArray) (h:g<O (T w)) (u:C l<=100000):
  c6 256 #[Z (M ⟨g,0,N⟩) (C l) cap] w fun e w'=>e=yW (Z (M ⟨g,0,N⟩) (C l) cap)/\aB w' (M ⟨g,0,N⟩) (l.mergeSort fun x y=>decide (x<=y))/\w.grownBy w' (M g):=by
 have d:=Fa (Tryz.slices_Sort_int g 0 cap l w b h al);have t:C (l.mergeSort fun x y=>decide (x<=y))=C l:=MQ _;generalize (l.mergeSort fun x y=>decide (x<=y))=s at *;have H:=Fa b;clear b;go_enter func256,ntmps256;go_wp2_with fail
 refine d.o.ae ?_;rintro e m ⟨rfl,q,a,rfl⟩;have z:s.toArray.size=l.toArray.size:=by simp;exact t
 have A:Holds (Value.int I) (grow (putRow (Value.int I) (Sort.ahead w q) g 0 s.toArray) a) g 0 s.toArray:=fun j c=>by
  obtain⟨f,k⟩:=holds_putRow (Value.int I) (Sort.ahead w q) g 0 _ s.toArray H.o z j c;have i:g<O (T (putRow (Value.int I) (Sort.ahead w q) g 0 s.toArray)):=by rw[size_putRow];exact h
  refine⟨(cell?_grow _ _ _ i).trans f,?_⟩;rw[frozen?_grow _ _ _ i];exact k
 have r:=MB (w:=w) (g:=g) (n:=q) (os:=a) s.toArray;have Bj:g<O (T (grow (putRow (Value.int I) (Sort.ahead w q) g 0 s.toArray) a)):=aT h r.size;generalize grow (putRow (Value.int I) (Sort.ahead w q) g 0 s.toArray) a=m at *;have p:=Fa A;clear A;go_wp2;go_ret;exact⟨rfl,Dt p.o Bj (fun j c=>⟨by simpa using c,aE⟩),r⟩
structure GV (w:E) (x y z:wF) (G D B1 Ab:Nat) (S:Ja) (U:Kx) (wr:E) (F:List Fr) (A:Ja):Prop where
 gk:GK w wr x y z
 szs:cP wr G S
 us:aB wr (M ⟨D,0,N⟩) U
 cs:ij wr B1 F
 vs:cP wr Ab A
 oG:O (T w)+2<=G
 oD:O (T w)+2<=D
 oGC:G<B1
 oDC:D<B1
 oCA:B1<Ab
theorem GV.step {x:wF} {G B1:Nat} {U:Kx} {F:List Fr} {A:Ja} (h:GV w x y z G D B1 Ab S U wr F A) (b:da wr wr'):GV w x y z G D B1 Ab S U wr' F A:=
 ⟨h.gk.step b,h.szs.aa b h.szs.lt,h.us.aa b,h.cs.aa b h.cs.lt,h.vs.aa b h.vs.lt,h.oG,h.oD,h.oGC,h.oDC,h.oCA⟩
theorem aB.far {o:Nat} (h:aB w (M ⟨g,o,N⟩) l) (b j:Nat) (y:wF) (n:g≠b):aB (w.setCell ⟨b,j,N⟩ y) (M ⟨g,o,N⟩) l:=fun k d=>by
 obtain⟨g',o',e,a,c⟩:=h k d;cases e;exact⟨g,o,rfl,by simpa using a,(fT _ _ _ _ (fun e=>n (by cases e;rfl))).trans c⟩
theorem GK.far {V:E} {x:wF} (h:GK w V x y z) (b j:Nat) (u:wF) (a:O (T w)+2<=b):GK w (V.setCell ⟨b,j,N⟩ u) x y z:=
 ⟨⟨(eW V ⟨b,j,N⟩ u (O (T w)) (by show O (T w)≠b;omega)).trans h.1.1,h.1.2.setCell (p:=⟨b,j,N⟩) (by show O (T w)<=b;omega) u⟩,h.2.off b j u al⟩
theorem GV.setA {x:wF} {G B1:Nat} {U:Kx} {F:List Fr} {A:Ja} (h:GV w x y z G D B1 Ab S U wr F A) (j k:Nat):GV w x y z G D B1 Ab S U (wr.setCell ⟨Ab,j,N⟩ (J I (k:Nat))) F (A.set j k):=by
 have:=h.oG;have:=h.oD;have:=h.oGC;have:=h.oDC;have:=h.oCA;exact⟨h.gk.far _ _ _ al,h.szs.off _ _ _ al,h.us.far _ _ _ al,h.cs.off _ _ _ al,h.vs.set _ _,h.oG,h.oD,h.oGC,h.oDC,h.oCA⟩
theorem GV.setC {x:wF} {G B1:Nat} {U:Kx} {F:List Fr} {A:Ja} (h:GV w x y z G D B1 Ab S U wr F A) (k:Nat) (f:Fr):GV w x y z G D B1 Ab S U (((wr.setCell ⟨B1,k*3,N⟩ (zZ f.1)).setCell ⟨B1,k*3+1,N⟩ (zK f.2.1)).setCell ⟨B1,k*3+2,N⟩ (zK f.2.2)) (F.set k f) A:=by
 have:=h.oG;have:=h.oD;have:=h.oGC;have:=h.oDC;have:=h.oCA;exact⟨((h.gk.far _ _ _ al).far _ _ _ al).far _ _ _ al,((h.szs.off _ _ _ al).off _ _ _ al).off _ _ _ al,((h.us.far _ _ _ al).far _ _ _ al).far _ _ _ al,h.cs.put k f,((h.vs.off _ _ _ al).off _ _ _ al).off _ _ _ al,h.oG,h.oD,h.oGC,h.oDC,h.oCA⟩
theorem GK.grown {V:E} {x:wF} (h:GK w V x y z) (c:V.grownBy V' (M g)) (b:O (T w)+2<=g):GK w V' x y z:=
 have a:Below (O (T w)+2) V V':=(au _ V).grown c (by have:=h.2.lt;omega) (fun k e=>by cases e;exact b);⟨h.1.grow (a.ae al),h.2.aa a al⟩
theorem aok (a b c:Kd) (ca cb cc v:Nat) (V:List Vr) (L:List Kx) (R:List (List Fr)) (w:E) (h:jo w a b c V L R) (hN:pP w b L) (hs:tD V L R) (hw:∀l∈R,fw l<=4200) (h0:aS V L R=0) (hv:v<C V) (yD:∀U:E,jo U a b c V L R ->c6 81 #[zd #[Z a (C V) ca,Z b (C L) cb,Z c (C R) cc]] U fun e w'=>e=yW (J I (aS V L R))/\da U w'):
  c6 205 #[zd #[Z a (C V) ca,Z b (C L) cb,Z c (C R) cc],J I (v:Nat)] w fun e w'=>Av (O (T w)) (gU L v) (gL V L R v) 0 e w'/\da w w':=by
 have Bj:=gY h0;have O2:=hs.Fd.1;have b4:=Bj.n8;have q:v<C L:=by rw[Bj.len];exact hv
 have td:v<C R:=by rw[Bj.lenR];exact hv
 have od:=Bj.up v q;have ax:=aeD h0 q;have an:=Fa yD;rw[h0] at an;have av:wT ((([(v:Int)]++L[v]).mergeSort fun x y=>decide (x<=y))=gU L v):=acJ q od ax;have bP:wT (C ([(v:Int)]++L[v])=C (gU L v)):=by show _=_;rw[<- av.o,MQ]
 have bh:gU L v=aU L[v] [(v:Int)]:=by rw[gU,cF,a7 q];rfl
 have uG:wT (Up (gU L v) (C V)):=by rw[bh];exact Hy od (Wi hv)
 have bX:wT (0<C (gU L v)):=by show _<_;rw[<- bP.o];simp
 have aR:=Bj.fine;have l8:∀u,sz (ag V) u<=4:=fun u=>by have:=aR.sz_le u;rwa [jP] at this
 have fH:Pos (ag V):=by have:=aR.pos;rwa [jP] at this
 have b6:cnt (ag V) (af (gU L v))<=65536:=xm l8 (by rw[gG];have:=uG.o.length;omega);have k5:wT (C (gL V L R v)=cnt (ag V) (af (gU L v))):=by show _=_;simp[gL]
 have bg:R[v].length=C (gL V L R v):=by rw[k5.o,asO _ q od ax];exact Bj.rows v q td
 have EC:wT (∀k (h:k<C (gL V L R v)),(gL V L R v)[k]=qF (a8 (fP V L R (aX (ag V) (af (gU L v)) k) v))):=fun k h=>by simp[gL]
 have sL:wT (∀K,K<cnt (ag V) (af (gU L v)) ->(fP V L R (aX (ag V) (af (gU L v)) K) v).2.1.size+(fP V L R (aX (ag V) (af (gU L v)) K) v).2.2.size<=4200):=fun K hK=>aph Bj (fun u=>sD fH _ K u hK) hw hv
 have ru:wT (∀(K:Nat) (U:E) (G:Nat),K<cnt (ag V) (af (gU L v)) ->jo U a b c V L R ->cP U G (rM (C V) (aX (ag V) (af (gU L v)) K)) ->c6 258 #[zd #[Z a (C V) ca,Z b (C L) cb,Z c (C R) cc],J I (v:Nat),Z (M ⟨G,0,N⟩) (C V) (C V)] U fun e w'=>e=yW (nC (fP V L R (aX (ag V) (af (gU L v)) K) v))/\da U w'):=fun K U G hK h1 h2=>by
  rw[SG q td];have:=apa a b c (M ⟨G,0,N⟩) ca cb cc (C V) v V L R (rM (C V) (aX (ag V) (af (gU L v)) K)) U h1 h2.ints (H6 _ _) b4 hv q td aR od (Bj.rows v q td) (aX (ag V) (af (gU L v)) K) (fun u=>sD fH _ K u hK) (fun u hu=>WM hu);rwa [H6] at this
 have eY:C (iL (ag V))=C V:=by rw[bR,lq]
 have bw:wT (∀(U:E) (G D cd K:Nat),K<cnt (ag V) (af (gU L v)) ->cP U G (ag V) ->aB U (M ⟨D,0,N⟩) (gU L v) ->c6 257 #[Z (M ⟨G,0,N⟩) (C V) (C V),Z (M ⟨D,0,N⟩) (C (gU L v)) cd,J I (K:Nat)] U fun e w'=>∃(g:Nat) (cc:Nat),e=yW (zp #[Z (M ⟨g,0,N⟩) (C (gU L v)) cc,J I 0])/\U.heap.size<=g/\cP w' g (oC (ag V) (af (gU L v)) K)/\da U w'):=fun U G D cd K hK h1 h2=>by
  have:=aki (M ⟨G,0,N⟩) (M ⟨D,0,N⟩) (C V) cd K (iL (ag V)) (gU L v) U h1.ints h2 aR (by rw[eY];exact uG.o) (by rw[jP];exact hK);rwa [eY,jP] at this
 have bu:wT (∀K i (hi:i<C (af (gU L v))),(oC (ag V) (af (gU L v)) K)[i]? =M (aX (ag V) (af (gU L v)) K (af (gU L v))[i])):=fun K i hi=>ain uG.o.nodup hi;have aI:wT (∀K u,¬u∈af (gU L v) ->aX (ag V) (af (gU L v)) K u=0):=fun K u hu=>LX hu;have ik:=Fa (fun (U:E) (hU:tB U a V)=>NF a b c ca cb cc (C L) (C R) V U hU O2);have U8:=Fa (h.pars v q);have b5:=hs.pars.2 L[v] (bU q);replace b5:L[v].length<=50000:=al
 have Ez:=Fa (hN v q);obtain⟨gr,Q,br,cr,rfl,B7,r1, -, -⟩:=h.rows v td;rw[bg] at r1;have oH:=Fa r1;have HI:=Fa h;generalize gL V L R v=F at *;generalize gU L v=U at *;obtain⟨gp,f,bl,cl,rfl,iP,p1,lD⟩:=U8.o;have UX:=Fa (Ez.o gp f bl _ cl rfl p1);have vQ:=Fa p1;have Cm:=Fa lD;generalize ap3:L[v]=pl at *;clear h hs hw h0 Bj od bh aR l8 fH eY U8 p1 lD ap3 ax hN Ez bg r1 yD;have lM:=Fa (GK.new w (Z a (C V) ca) (Z (M ⟨gp,f,N⟩) (C L) cb) (Z (M ⟨gr,Q,N⟩) (C R) cc));obtain⟨Bh,Bb,B9⟩:=lM.o.1.1.cells;go_enter func205,ntmps205;go_wp2_with fail
 generalize ((w.alloc (NC (Z a (C V) ca) (Z (M ⟨gp,f,N⟩) (C L) cb) (Z (M ⟨gr,Q,N⟩) (C R) cc))).alloc (TC (Z N 0 0) (Z N 0 0)))=w1 at *;refine(an.o _ (HI.o.aa lM.o.1.2)).ae ?_;rintro e W ⟨rfl,P⟩;have d:=lM.o.step P;clear P lM Bh Bb B9 an;obtain⟨Bh,Bb,B9⟩:=d.1.1.cells;have cx:(0:Int)<=(v:Int):=al
 have po:(v:Int)<(C V:Int):=al
 have aj:=Fa d;clear d;go_upto_region 6 with fail
 clear Bh Bb B9;have yw:decide (C V<=v)=false:=by simp;exact hv
 have tq:decide ((v:Int)<0)=false:=aE
 simp only[yw,tq,Bool.or_false];go_cut [7,8] from 32 to 42 (fun s t wx=>∃G D cd,s=Z (M ⟨G,0,N⟩) (C V) (C V)/\t=Z (M ⟨D,0,N⟩) (C U) cd/\w.heap.size+2<=G/\w.heap.size+2<=D/\cP wx G (ag V)/\aB wx (M ⟨D,0,N⟩) U/\GK w wx (Z a (C V) ca) (Z (M ⟨gp,f,N⟩) (C L) cb) (Z (M ⟨gr,Q,N⟩) (C R) cc))
 case first=>
  have d:=aj.o;clear aj;replace d:GK w W.drew (Z a (C V) ca) (Z (M ⟨gp,f,N⟩) (C L) cb) (Z (M ⟨gr,Q,N⟩) (C R) cc):=⟨⟨d.1.1,d.1.2.drew⟩,d.2⟩;refine iK (S:=fun u=>u.cell? ⟨O (T w),0,N⟩=M (Z a (C V) ca)/\u.cell? ⟨O (T w),1,N⟩=M (Z (M ⟨gp,f,N⟩) (C L) cb)/\u.cell? ⟨O (T w),2,N⟩=M (Z (M ⟨gr,Q,N⟩) (C R) cc)/\u.cell? ⟨gp,f+v,N⟩=M (Z bl (C pl) cl)) ao ⟨d.1.1.cells.1,d.1.1.cells.2.1,d.1.1.cells.2.2,(d.1.2.cell (p:=⟨gp,f+v,N⟩) iP).trans vQ.o⟩ (fun r=>?_);generalize W.drew=Ba at *;refine ar 0 (zd #[Z a (C V) ca,Z (M ⟨gp,f,N⟩) (C L) cb,Z (M ⟨gr,Q,N⟩) (C R) cc]) ?_;refine ar 2 (J I (v:Nat)) ?_;refine ar 4 (zR (M ⟨O (T w),1,N⟩)) ?_;refine ar 5 (Z (M ⟨gp,f,N⟩) (C L) cb) ?_;refine ar 6 (J I (v:Nat)) ?_;refine ar 7 (zR (M ⟨gp,f+v,N⟩)) ?_;refine ar 8 (Z bl (C pl) cl) ?_;refine aF [1,3] (cA ?_ (cA ?_ aG))
  focus
   intro Bm m;go_simp;refine(ik.o _ (HI.o.aa d.1.2).Fd).ae ?_;rintro e Y ⟨G,rfl,DU,ab,P⟩;(have Ln:O (T w)+2<=G:=by have:=d.2.lt;omega);replace d:=d.step P;clear r;refine m.o _ _ ⟨d.1.1.cells.1,d.1.1.cells.2.1,d.1.1.cells.2.2,(d.1.2.cell (p:=⟨gp,f+v,N⟩) iP).trans vQ.o⟩ (fun r=>?_);clear m Bm P DU;refine aF [3] (cA ?_ aG);intro Bm m;go_simp;have ai:(Y.alloc (yM #[J I (v:Int)] 3)).heap[O (T Y)]? =M (yM #[J I (v:Int)] 3 (0,0)):=dU Y _;have bz:G<O (T Y):=ab.lt;replace ab:=ab.alloc (yM #[J I (v:Int)] 3);(have bN:O (T w)+2<=O (T Y):=by have:=d.2.lt;omega);replace d:=d.step ((au _ Y).alloc (ah _) (yM #[J I (v:Int)] 3));refine m.o _ _ ⟨d.1.1.cells.1,d.1.1.cells.2.1,d.1.1.cells.2.2,(d.1.2.cell (p:=⟨gp,f+v,N⟩) iP).trans vQ.o⟩ (fun ak=>?_);generalize (Y.alloc (yM #[J I (v:Int)] 3))=u2 at *;generalize (O (T Y))=gb at *
  rotate_left
  focus
   intro Bm m;go_simp;have ai:(Ba.alloc (yM #[J I (v:Int)] 3)).heap[O (T Ba)]? =M (yM #[J I (v:Int)] 3 (0,0)):=dU Ba _;(have bN:O (T w)+2<=O (T Ba):=by have:=d.2.lt;omega);(have bC:O (T Ba)<O (T (Ba.alloc (yM #[J I (v:Int)] 3))):=aE);replace d:=d.step ((au _ Ba).alloc (ah _) (yM #[J I (v:Int)] 3));refine m.o _ _ ⟨d.1.1.cells.1,d.1.1.cells.2.1,d.1.1.cells.2.2,(d.1.2.cell (p:=⟨gp,f+v,N⟩) iP).trans vQ.o⟩ (fun ak=>?_);generalize (Ba.alloc (yM #[J I (v:Int)] 3))=u2 at *;generalize (O (T Ba))=gb at *;clear m Bm r;have r:=ak;clear ak;refine aF [1] (cA ?_ aG);intro Bm m;go_simp;refine(ik.o _ (HI.o.aa d.1.2).Fd).ae ?_;rintro e Y ⟨G,rfl,DU,ab,P⟩;(have Ln:O (T w)+2<=G:=by have:=d.2.lt;omega);(have bz:gb<G:=al);replace d:=d.step P;replace ai:=(P.block gb bC).trans ai;refine m.o _ _ ⟨d.1.1.cells.1,d.1.1.cells.2.1,d.1.1.cells.2.2,(d.1.2.cell (p:=⟨gp,f+v,N⟩) iP).trans vQ.o⟩ (fun ak=>?_);clear P DU
  all_goals
   clear m Bm r;have r:=ak;clear ak;refine aF [9] (cA ?_ aG);intro Bm m;rw[aw (by rfl)];refine ajo _ _ rfl gb (v:Int) pl rfl ai bl cl rfl (Cm.o.aa d.1.2) UX.o al ?_;intro D cap u3 hD b3 bf B7;have Pg:GK w u3 (Z a (C V) ca) (Z (M ⟨gp,f,N⟩) (C L) cb) (Z (M ⟨gr,Q,N⟩) (C R) cc):=d.grown B7 al;have YL:cP u3 G (ag V):=(B7.block G ab.lt (fun e=>by cases e;omega)).trans ab;(have b1:O (T w)+2<=D:=by have:=d.2.lt;omega);(have b2:D≠G:=by have:=ab.lt;omega);clear d ab ai B7 hD;have d:=Pg;clear Pg r;refine m.o _ _ ⟨d.1.1.cells.1,d.1.1.cells.2.1,d.1.1.cells.2.2,(d.1.2.cell (p:=⟨gp,f+v,N⟩) iP).trans vQ.o⟩ (fun r=>?_);clear m Bm;refine aF [10] (cA ?_ aG);intro Bm m;go_simp;refine(alJ D cap ([(v:Int)]++pl) u3 bf b3 (by simp;omega)).ae ?_;rintro e u4 ⟨rfl,bs,B7⟩;rw[av.o] at bs;have Pg:GK w u4 (Z a (C V) ca) (Z (M ⟨gp,f,N⟩) (C L) cb) (Z (M ⟨gr,Q,N⟩) (C R) cc):=d.grown B7 al;have bx:cP u4 G (ag V):=(B7.block G YL.lt (fun e=>b2 (jO e).symm)).trans YL;clear d YL B7 bf;have d:=Pg;clear Pg r;refine m.o _ _ ⟨d.1.1.cells.1,d.1.1.cells.2.1,d.1.1.cells.2.2,(d.1.2.cell (p:=⟨gp,f+v,N⟩) iP).trans vQ.o⟩ (fun r=>?_);clear m Bm;refine ar 11 (Z (M ⟨G,0,N⟩) (C V) (C V)) ?_;refine ar 12 (Z (M ⟨D,0,N⟩) (C ([(v:Int)]++pl)) cap) ?_;(try simp only[gE,aP])
   refine eO ao ?_ _;clear r;go_wp2_with fail
   go_meet
   rw[bP.o];exact⟨G,D,cap,rfl,rfl,Ln,b1,bx,bs,d⟩
 case rest=>
 obtain⟨G,D,cd,rfl,rfl,oG,oD,S2,IA,d⟩:=hcut;clear yw tq av bP Cm vQ UX ik aj;have b7:=d.2.lt;obtain⟨Bh,Bb,B9⟩:=d.1.1.cells;have r2:=(d.1.2.cell (p:=⟨gr,Q+v,N⟩) B7).trans oH.o;have cm:(v:Int)<(C R:Int):=al
 obtain⟨i1,Dw,kQ,b8,cf⟩:=eC Tryz.infoFrac;obtain⟨i0,cC,cg,ch,ck⟩:=eC Tryz.infoInt;have ct:C F<=65536:=by rw[k5.o];exact b6
 have HG:=Fa d;clear d
 go_wp2_with (first
  |(at_make;refine oK _ rfl _ _ 36 rfl (O (T wc)) 63 i1 (zd #[zZ xd,zK ⟨#[]⟩,zK ⟨#[]⟩]) 3 underlying36 Dw kQ b8 I I _ _ (C F) rfl rfl bd bd (by rw[cf];omega) (by unfold maxLen;omega) (ah _) ?_;intro w3 a6 bc;have dm:da wc w3:=(au _ wc).grown bc (ah _) (fun k e=>by cases e);have TA:=HG.o.step dm;clear Bh Bb B9 r2;obtain⟨Bh,Bb,B9⟩:=TA.1.1.cells)
  |(at_make;refine oK _ rfl _ _ 27 rfl (O (T w3)) 3 i0 (J I 0) 1 underlying27 cC cg ch I I _ _ (C V) rfl rfl bd bd (by rw[ck];omega) (by unfold maxLen;omega) (ah _) ?_;intro w4 rY IQ))
 have ay:=aaM a6;rw[NP] at ay;have az:=sB rY;rw[KO] at az;have fR:da w3 w4:=(au _ w3).grown IQ (ah _) (fun k e=>by cases e);have np:ij w3 (O (T wc)) (List.replicate (C F) tx):=ay;have yC:cP w4 (O (T w3)) (List.replicate (C V) 0):=az;have bt:=np.lt;have ZY:=dm.trans (fR.ae dm.size)
 have e0:List.replicate (C V) 0=rM (C V) (fun _=>0):=by
  apply ld<;>simp[rM]
 rw[e0] at yC;have bb:=S2.lt
 have bp:D<O (T wc):=by
  obtain⟨g',o',e,h2,_⟩:=IA 0 (by have:=bX.o;omega);cases e;exact h2
 have aY:wT (GV w (Z a (C V) ca) (Z (M ⟨gp,f,N⟩) (C L) cb) (Z (M ⟨gr,Q,N⟩) (C R) cc) G D (O (T wc)) (O (T w3)) (ag V) U w4 (List.replicate (C F) tx) (rM (C V) (fun _=>0))):=⟨TA.step fR,S2.aa ZY S2.lt,IA.aa ZY,np.aa fR np.lt,yC,oG,oD,bb,bp,bt⟩;clear a6 bc rY IQ ay az dm fR np yC bt ZY e0 bb bp S2 IA TA HG Bh Bb B9 oG oD b7;generalize (O (T wc))=B1 at *;generalize (O (T w3))=Ab at *;go_wp2_with fail
 go_loopw [56] (fun iv wr=>∃(i:Nat) (A:Nat ->Nat),i<=C F/\iv=J I i/\wT (∀u,¬u∈af U ->A u=0)/\wT (GV w (Z a (C V) ca) (Z (M ⟨gp,f,N⟩) (C L) cb) (Z (M ⟨gr,Q,N⟩) (C R) cc) G D B1 Ab (ag V) U wr (ud F i) (rM (C V) A))) (fun iv _=>C F - (intOf iv).toNat)
 case atStart=>exact⟨0,fun _=>0,aV _,rfl,fun _ _=>rfl,by rw[adQ];exact aY⟩
 case round=>
  obtain⟨i,A,hi,rfl,Vw,H⟩:=hrel;clear aY;by_cases ad:i<C F
  ·have Y7:i<cnt (ag V) (af U):=by rw[<- k5.o];exact ad
   go_wp2_with fail
   refine(bw.o _ G D cd i Y7 H.o.szs H.o.us).ae ?_;rintro e u1 ⟨g5,cp,rfl,bB,Th,bk⟩;have I7:=H.o.vs.lt;(have b0:g5≠Ab:=al);have Gp:=Fa (H.o.step bk);have Jz:=Fa Th;clear Th bk H bB I7;go_wp2_with fail
   go_loopw [68] (fun jv wr=>∃j:Nat,j<=C U/\jv=J I j/\wT (GV w (Z a (C V) ca) (Z (M ⟨gp,f,N⟩) (C L) cb) (Z (M ⟨gr,Q,N⟩) (C R) cc) G D B1 Ab (ag V) U wr (ud F i) (rM (C V) (Bp A (aX (ag V) (af U) i) (af U) j)))/\wT (cP wr g5 (oC (ag V) (af U) i))) (fun jv _=>C U - (intOf jv).toNat)
   case atStart=>exact⟨0,aV _,rfl,by rw[aoQ];exact Gp,Jz⟩
   case round=>
    obtain⟨j,hj,rfl,H,Vm⟩:=hrel;clear Gp Jz;have cw:=uG.o.length;by_cases rZ:j<C U
    ·obtain⟨kR,iF⟩:=uG.o.nat rZ;(have bo:j<C (af U):=by rw[gG];exact rZ);have ja:=Fa (aoR A (aX (ag V) (af U) i) (C V) bo);have DC:=bu.o i j bo;rw[wC rZ] at ja DC;obtain⟨g',o',e, -,cu⟩:=H.o.us j rZ;cases e;rw[bQ] at cu;generalize U[j].toNat=u at *;rw[<- kR] at cu;clear kR;obtain⟨wS,OV⟩:=mO.1 DC;have cv:=Vm.o.cell j wS;rw[OV] at cv;have cn:=H.o.vs.cell u (by rw[H6];exact iF);have cq:=H.o.vs.fz u;generalize aX (ag V) (af U) i u=z at *;have a1:=Fa (H.o.setA u z);rw[ja.o] at a1;have bO:=Fa (Vm.o.off Ab u (J I (z:Nat)) b0);clear DC OV H Vm;go_wp2;go_roundw
     case rel=>exact⟨j+1,al,bd,a1,bO⟩
     case measure=>simp[intOf];omega
    ·obtain rfl:j=C U:=al
     have X:=H.o;rw[show Bp A (aX (ag V) (af U) i) (af U) (C U)=aX (ag V) (af U) i by rw[<- gG U];exact aoS Vw.o (aI.o i)] at X;obtain⟨Bh,Bb,B9⟩:=X.gk.1.1.cells;have UF:=Fa X;clear X H Vm;go_wp2_with fail
     refine(ru.o i _ Ab Y7 (HI.o.aa UF.o.gk.1.2) UF.o.vs).ae ?_;rintro e u3 ⟨rfl,eR⟩;have tE:=Fa (UF.o.step eR);clear Bh Bb B9 eR UF;have OO:=EC.o i ad;have bm:=sL.o i Y7;generalize fP V L R (aX (ag V) (af U) i) v=fr at *;obtain⟨fn,fx,fy⟩:=fr;replace bm:fx.size+fy.size<=4200:=bm;have hq:F[i]=qF (val fn fx fy):=OO;have HQ:=Fa hq;clear OO hq;go_wp2_with fail
     refine(Vy (n:=fn) (x:=fx) (y:=fy) (w:=u3) (val fn fx fy) rfl al).ae ?_;rintro e u5 ⟨rfl,iW⟩;have yL:=Fa (tE.o.step iW);clear iW tE;have aJ:=Fa (adR F ad);rw[HQ.o] at aJ;obtain⟨k0,k1,k2⟩:=yL.o.cs.cells i (by rw[Xj _ hi];exact ad);have f0:=yL.o.cs.fz (i*3);have f1:=yL.o.cs.fz (i*3+1);have f2:=yL.o.cs.fz (i*3+2);generalize (ud F i)[i]'(by rw[Xj _ hi];exact ad)=zf at *;obtain⟨zn,zx,zy⟩:=zf;simp only at k0 k1 k2;have HP:=Fa (yL.o.setC i (qF (val fn fx fy)));rw[aJ.o] at HP;generalize val fn fx fy=qq at *;go_wp2;go_roundw
     case rel=>exact⟨i+1,_,al,bd,aI.o i,HP⟩
     case measure=>simp[intOf];omega
  ·obtain rfl:i=C F:=al
   have X:=H.o;rw[adS] at X;obtain⟨k0,k1,f0,f1⟩:=X.gk.2.facts;have h1:=X.oD;have h2:=X.oDC;clear H;go_wp2;refine dI ((X.gk.2.put _ _).result2 rfl _ rfl) rfl ?_;exact⟨⟨M ⟨D,0,N⟩,M ⟨B1,0,N⟩,cd,C F,rfl,(X.us.far _ _ _ al).far _ _ _ al,((X.cs.off _ _ _ al).off _ _ _ al).fr,i7.at al,i7.at al⟩,uF X.gk.1.2 al _ _⟩
theorem aom (a b c:Kd) (ca cb cc:Nat) (V:List Vr) (L:List Kx) (R:List (List Fr)) (w:E) (h:jo w a b c V L R) (hs:tD V L R)
  (B7:C L=C V ->C R=C V ->bq L=0 ->lT V=0 ->∀U:E,jo U a b c V L R ->c6 136 #[zd #[Z a (C V) ca,Z b (C L) cb,Z c (C R) cc]] U fun e w'=>e=yW (J I (j9 (ju (ag V) L R) (C V)))/\da U w'):
  c6 81 #[zd #[Z a (C V) ca,Z b (C L) cb,Z c (C R) cc]] w (dj w (J I (aS V L R))):=by
 have Bj:=Fa h;have O2:=hs.Fd.1;have O8:=hs.pars.1;have ai:=hs.rows.1;have m:wT (¬(C L=C V/\R.length=C V) ->aS V L R=8):=fun h=>aC h;have P:wT (C L=C V ->C R=C V ->bq L≠0 ->aS V L R=bq L):=fun n p q=>by rw[aS,aw ⟨n,p⟩,aC q]
 have Q:wT (C L=C V ->C R=C V ->bq L=0 ->lT V≠0 ->aS V L R=lT V):=fun n p q u=>by rw[aS,aw ⟨n,p⟩,aw q,aC u]
 have S:wT (C L=C V ->C R=C V ->bq L=0 ->lT V=0 ->aS V L R=j9 (ju (ag V) L R) (C V)):=fun n p q u=>by rw[aS,aw ⟨n,p⟩,aw q,aw u]
 have X:=Fa (fun (U:E) (x:dP U b L)=>aq6 b cb L U x (fun l hl=>by have:=hs.pars.2 l hl;omega));have Y:=Fa (fun (U:E) (x:tB U a V)=>asZ a ca V U x hs.Fd);have r:=Fa B7;generalize aS V L R=ne at *;clear h hs B7;have Bb:=Fa (NK.new w (Z a (C V) ca) (Z b (C L) cb) (Z c (C R) cc));obtain⟨g,i,j⟩:=Bb.o.1.cells;by_cases v:C L=C V
 ·by_cases d:C R=C V
  ·have B9:((C L:Int) !=(C V:Int))=false:=by rw[v];simp
   (have ab:((C R:Int) !=(C V:Int))=false:=by rw[d];simp);have Bm:=Fa (P.o v d);have z:=Fa (Q.o v d);have D:=Fa (S.o v d);have Bh:=Fa (r.o v d);clear v d m P Q S r;generalize j9 (ju (ag V) L R) (C V)=fe at *;generalize bq L=ge at *;generalize lT V=Ba at *;go_enter func81,ntmps81;go_wp2_with fail
   generalize (w.alloc (NC (Z a (C V) ca) (Z b (C L) cb) (Z c (C R) cc)))=w1 at *;refine(X.o _ (Bj.o.aa Bb.o.2).pars).ae ?_;rintro e w2 ⟨rfl,f⟩;have K:=Bb.o.step f;clear f Bb g i j B9 ab X;obtain⟨g,i,j⟩:=K.1.cells;by_cases s:ge=0
   ·subst s;have y:=Fa (z.o rfl);have A:=Fa (D.o rfl);have F:=Fa (Bh.o rfl);have k:=Fa K;clear Bm z D Bh K;go_wp2_with fail
    refine(Y.o _ (Bj.o.aa k.o.2).Fd).ae ?_;rintro e w3 ⟨rfl,f⟩;have K:=k.o.step f;clear f k g i j Y;obtain⟨g,i,j⟩:=K.1.cells;by_cases t:Ba=0
    ·subst t;have H:=Fa (A.o rfl);have ad:=Fa (F.o rfl);have k:=Fa K;clear y A F K;go_wp2_with fail
     refine(ad.o _ (Bj.o.aa k.o.2)).ae ?_;rintro e w4 ⟨rfl,f⟩;have K:=k.o.step f;clear g i j f;go_wp2;go_ret;exact⟨by rw[H.o];rfl,K.2⟩
    ·have H:=Fa (y.o t);(have mW:(Ba==0)=false:=by simpa using t);clear t y A F g i j;go_wp2;go_ret;exact⟨by rw[H.o];rfl,K.2⟩
   ·have H:=Fa (Bm.o s);(have aj:(ge==0)=false:=by simpa using s);clear s Bm z D Bh g i j;go_wp2;go_ret;exact⟨by rw[H.o];rfl,K.2⟩
  ·have H:=Fa (m.o fun h=>d h.2);(have B9:((C L:Int) !=(C V:Int))=false:=by rw[v];simp)
   have ab:((C R:Int) !=(C V:Int))=true:=by
    (have:¬(C R:Int)=(C V:Int):=al);simpa using this
   clear v d m r;go_enter func81,ntmps81;go_wp2;go_ret;exact⟨by rw[H.o];rfl,Bb.o.2⟩
 ·have H:=Fa (m.o fun h=>v h.1)
  have B9:((C L:Int) !=(C V:Int))=true:=by
   (have:¬(C L:Int)=(C V:Int):=al);simpa using this
  clear v m r;go_enter func81,ntmps81;go_wp2;go_ret;exact⟨by rw[H.o];rfl,Bb.o.2⟩
section
attribute [local go_sem] Oper.semAt_some
def Cb (Bs Bk B:Nat) (V V':E):Prop:=qH Bs V V'/\qH Bk V V'/\Below B V V'
theorem Cb.t {s a B:Nat} {X Y B7:E} (h:Cb s a B X Y) (k:Cb s a B Y B7):Cb s a B X B7:=⟨h.1.t k.1,h.2.1.t k.2.1,h.2.2.trans k.2.2⟩
theorem Cb.b {s k B:Nat} (hs:s<O (T w)) (e:k<O (T w)) (d:B<=O (T w)) (V:E) (l:Nat) (o o':Obj) (c:O (T w)<=l) (h1:V.heap[l]? =M o) (h:o.isCells=xd) (a:o.isWalk=xd):Cb s k B V (V.putObj l o'):=
 ⟨qH.b hs V l o o' c h1 h a,qH.b e V l o o' c h1 h a,xM d V l o o' c h1 h a⟩
theorem grown_drew (w:E):w.grownBy w.drew none:=⟨rfl,rfl,rfl,ah _,fun _ _ _=>rfl⟩
abbrev Cz (B2:Nat):Type:= {i:Nat//i<B2}
abbrev chV (gf gX k B2:Nat) (x:Cz B2):Array Value:= #[Z (M ⟨gf,gX+x.1*k*3,N⟩) k k]
theorem asY (n:Nat) (hn:1<=n) (l s a B gf X cap k B2 Ba:Nat) (h:Ba=B2*k) (hk:1<=k) (ak:k<=4) (B9:B2<=65536) (uz:Ba<=cap) (Bh d:List (Cz B2) ->E ->Prop) (Bb:∀p V,Bh p V ->Bh p V.drew)
  (Y:∀p x V,Bh p V ->C p< B2 ->YieldAt Fence.wide (n - 1) prog l (chV gf X k B2 x) V fun e V'=>
   (e=yW (zZ y6)/\Bh (p++[x]) V'/\Cb s a B V V')∨(e=yW (zZ xd)/\d (p++[x]) V'))
  (V:E) (A:V.cell? ⟨s,0,N⟩=M (Z (M ⟨gf,X,N⟩) Ba cap)) (K:V.cell? ⟨a,0,N⟩=M (J I (k:Nat))) (h0:Bh [] V):
  CallsIn Fence.wide n prog 239 #[.func (.yield l) #[] #[],zR (M ⟨s,0,N⟩),zR (M ⟨a,0,N⟩)] V fun e V'=>(∃v,e=yW v)/\
   ((∃y:List (Cz B2),y.map (·.1)=List.range B2/\Bh y V')∨(∃p:List (Cz B2),(∃j,j<=B2/\p.map (·.1)=List.range j)/\d p V')):=by
 refine JP func239 rfl trivial ?_ rfl;simp only[ntmps239,mL,eA,lS,Nat.reduceAdd,Nat.reduceSub,oX,oW,oP,nV,gS,gF];have Bm:=Fa h;have ZE:Ba<=262144:=by rw[h];exact aM (kN B9 ak) a6
 clear h;gi_wp2
 gi_loopw [4] (fun i wr=>∃(j:Nat) (p:List (Cz B2)),j<=B2/\i=J I (j*k:Nat)/\wT (p.map (·.1)=List.range j)/\Bh p wr/\wr.cell? ⟨s,0,N⟩=M (Z (M ⟨gf,X,N⟩) Ba cap)/\wr.cell? ⟨a,0,N⟩=M (J I (k:Nat)))
  (fun i _=>Ba - (intOf i).toNat)
 case atStart=>exact⟨0,[],aV _,by rw[oN];rfl,rfl,h0,A,K⟩
 case round=>
  obtain⟨j,p,hj,rfl,H,b,q,f⟩:=hrel;by_cases t:j<B2
  ·have ay:C p=j:=by have:=eG List.length H.o;rwa [cY,AW] at this
   (have S:wT ((p++[(⟨j,t⟩:Cz B2)]).map (·.1)=List.range (j+1)):=by show _=_;rw[gV,H.o,xN];rfl);(have L:(j+1)*k<=Ba:=by rw[Bm.o];exact lR k t);(have m:(j+1)*k=j*k+k:=by rw[iC,k8]);have F:wT ((j+1)*k=j*k+k):=m;(have ax:j*k+k<=Ba:=al);have Q:wT (j*k=j*k):=rfl;clear m L;have w:=fun W P=>Y p ⟨j,t⟩ W P al;simp only[chV] at w;generalize ZT:j*k=lo at *;have B7:=Fa w;clear w Q;have ao:=Fa ZT;clear ZT;(have av:¬cap=lo:=al);(have kE:lo<=Ba:=al);(have ad:min (k:Int) ((Ba - lo:Nat):Int)=(k:Int):=al);gi_wp2
   gi_region
   have aj:=Bb p wr b;have r:wr.drew.cell? ⟨s,0,N⟩=M (Z (M ⟨gf,X,N⟩) Ba cap):=q;have z:wr.drew.cell? ⟨a,0,N⟩=M (J I (k:Nat)):=f;clear q f b ad;generalize wr.drew=U at *;obtain⟨fn,aY,a1,aJ,hy,R⟩:=B7.o U aj;have D:=Fa R;clear R;(have az:IntKind.i64.wrap ((lo:Int)+(k:Int))=((lo+k:Nat):Int):=by rw[js];omega);(have yw:(lo+k:Nat) - lo=k:=al);(have aE:((lo+k:Nat):Int)<=(cap:Int):=al);generalize hhi:lo+k=g at *;(have aI:lo<=g:=al);have Bj:=Fa hhi;clear hhi;gi_wp2
   refine D.o.ae ?_;rintro e W3 (⟨rfl,ai,c⟩ |⟨rfl,an⟩)
   ·have aa:=Eq.trans c.1 r;have ab:=Eq.trans c.2.1 z;have u:wT ((j+1)*k=g):=F.o;(have aR:lo<g:=by have:=Bj.o;omega);(have aq:g<=Ba:=by have:=Bj.o;omega);clear r z c;gi_wp2
    go_roundw
    case rel=>exact⟨j+1,_,al,by rw[u.o],S,ai,aa,ab⟩
    case measure=>simp[intOf];omega
   ·gi_wp2
    refine dI (results_none rfl _ _ _) rfl ?_;exact⟨⟨_,rfl⟩,yk ⟨_,⟨j+1,al,S.o⟩,an⟩⟩
  ·obtain rfl:j=B2:=al
   rw[<- Bm.o];gi_wp2
   go_end0
   exact⟨⟨_,rfl⟩,yd ⟨_,H.o,b⟩⟩
theorem asX (n:Nat) (a:Kd) (Ba cap k:Nat) (h:1<=k) (w:E):
  CallsIn Fence.wide n prog 189 #[Z a Ba cap,J I (k:Nat)] w fun e w'=>e=yW (.func (.func 239) #[] #[zR (M ⟨O (T w),0,N⟩),zR (M ⟨O (T w)+1,0,N⟩)])/\w'=(w.alloc (yM #[Z a Ba cap] 36)).alloc (yM #[J I (k:Nat)] 3):=by
 refine JP func189 rfl trivial ?_ rfl;simp only[ntmps189,mL,eA,lS,Nat.reduceAdd,Nat.reduceSub,oX,oW,oP,nV,gS,gF];have b:(1:Int)<=(k:Int):=al
 gi_wp2
 go_ret;exact⟨rfl,rfl⟩
theorem asV (n:Nat) (v:1<=n) (s a B gf g cap k B2 Ba:Nat) (o:Ba=B2*k) (u:1<=k) (A:k<=4) (m:B2<=65536) (z:Ba<=cap) (w:E) (i:s<O (T w)) (q:a<O (T w)) (h1:w.cell? ⟨s,0,N⟩=M (Z (M ⟨gf,g,N⟩) Ba cap)) (d:w.cell? ⟨a,0,N⟩=M (J I (k:Nat))):
  SeqStopsK Fence.wide n prog 239 #[zR (M ⟨s,0,N⟩),zR (M ⟨a,0,N⟩)] (chV gf g k B2) (Cb s a B) (fun y=>y.map (·.1)=List.range B2) (fun b=>∃j,j<=B2/\b.map (·.1)=List.range j) B2 w:=fun l Bh x V h f _ Y c=>
 asY n v l s a B gf g cap k B2 Ba o u A m z Bh x (fun b U t=>f b U U.drew N t (grown_drew U) (fun r e=>by cases e)) Y V ((h.cell (p:=⟨s,0,N⟩) i).trans h1) ((h.cell (p:=⟨a,0,N⟩) q).trans d) c
end
end Go.Proofs.YtkflnpjapgiajaaGreatDoor
