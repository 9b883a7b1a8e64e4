/- Part2: part 2. -/
import Derived.Test.YtkflnpjapgiajaaGreatDoorLegB1
set_option maxRecDepth 100000
set_option maxHeartbeats 400000000
set_option linter.unusedSimpArgs false
set_option linter.unusedVariables false
namespace Go.Proofs.YtkflnpjapgiajaaGreatDoor
open Value renaming slice→J,int→E,string→zX,pointer→zZ,bool→zd,agg→zp,tuple→zz,nilFunc→yJ
open IntKind renaming i64→yR,u32→yW
open Obj renaming cells→yd
open Ending renaming returned→yk
open Or renaming inl→yp,inr→xS
open Option renaming none→O,some→I
open Bool renaming true→xq,false→x3
open Go renaming World→wA,Value→wQ,undef→wd
open RowKit renaming Hid→we
open Go.Proofs.Tryz
open List renaming length→Z
open World renaming alloc→AC
open World renaming setCell→AF
open World renaming cell?→AJ
open Go.RowKit
variable {k m n:Nat} {a:Kd} {p:Rat} {w w':wA}
def Fits (m:Nat) (q:Rat):Prop:=∃(A:Int) (D:Nat),D≠0/\q=mkRat A D/\D<256^m/\A.natAbs<256^m
theorem T7 {q:Rat} (h:Fits m q):qw q<=2*m:=by
 obtain⟨A,D,a,rfl,b,c⟩:=h;rw[Sv a];have:=Xa (n:=A) a;have d:(B A.natAbs).size<=m:=by rw[nZ];exact sQ m _ c
 have e:(B D).size<=m:=by rw[nZ];exact sQ m _ b
 omega
theorem KC (h:m<=n):256^m<=256^n:=lJ a6 h
theorem aai (n:Bool) (x y:ByteArray):Fits (x.size+y.size+1) (val n x y):=by
 by_cases h:N y=0
 ·refine⟨0,1,a6,by rw[M4 h,MB],?_,?_⟩
  ·exact aT (by decide:1<256^1) (KC al)
  ·exact wH a6
 ·refine⟨sg n (N x),N y,h,rfl,aT (Gr y) (KC al),?_⟩;rw[RA];exact aT (Gr x) (KC al)
theorem ahq {q:Rat} (l:Fits m p) (n:Fits k q):Fits (m+k+1) (p+q):=by
 obtain⟨A,D,f,rfl,h,i⟩:=l;obtain⟨b,a,c,rfl,d,j⟩:=n;refine⟨A*a+b*D,D*a,Hh f c,Rat.mkRat_add_mkRat _ _ f c,?_,?_⟩
 ·have:D*a<256^m*256^k:=MI h d;rw[<- EP] at this;exact aT this (KC al)
 ·have g:A.natAbs*a<256^m*256^k:=MI i d;have e:b.natAbs*D<256^k*256^m:=MI j h;rw[eN (256^k)] at e;rw[<- EP] at g e
  have o:(A*a+b*D).natAbs<=A.natAbs*a+b.natAbs*D:=by
   refine aO (Int.natAbs_add_le _ _) ?_;rw[Int.natAbs_mul,Int.natAbs_mul];exact ak _
  rw[jK];omega
abbrev Fr:Type:=Bool×ByteArray×ByteArray
def cV (f:Fr):Rat:=val f.1 f.2.1 f.2.2
def fw:List Fr ->Nat
 |[]=>0
 |f::l=>f.2.1.size+f.2.2.size+2+fw l
def b9 (l:List Fr):Rat:=l.foldl (fun s f=>s+cV f) 0
theorem T1 (l:List Fr) (f:Fr):b9 (l++[f])=b9 l+cV f:=by simp[b9]
theorem aae (a b:List Fr):fw (a++b)=fw a+fw b:=by
 induction a with
 |nil=>simp[fw]
 |cons f a ih=>simp only[gC,fw,ih];omega
theorem aha (l:List Fr) (k:Nat):fw (l.take k)<=fw l:=by
 have:=aae (l.take k) (l.drop k);rw[AX] at this;omega
theorem TY {l:List Fr} {f:Fr} (h:f∈l):f.2.1.size+f.2.2.size+2<=fw l:=by
 induction l with
 |nil=>cases h
 |cons g l ih=>
  rcases bU.1 h with rfl |h
  ·simp only[fw];omega
  ·have:=ih h;simp only[fw];omega
theorem ahp (l:List Fr):Fits (fw l+1) (b9 l):=by
 induction l using Kn with
 |h0=>exact⟨0,1,a6,(MB _).symm,a6,a6⟩
 |h1 l f ih=>
  rw[T1,aae];have:=ahq ih (aai f.1 f.2.1 f.2.2);have e:fw l+1+(f.2.1.size+f.2.2.size+1)+1=fw l+fw [f]+1:=by simp only[fw];omega
  rwa [e] at this
theorem take_one {l:List Fr} (h:k<Z l):b9 (l.take (k+1))=b9 (l.take k)+cV l[k]:=by
 rw[ig h,T1]
def dE (w:wA) (a:Kd) (l:List Fr):Prop:=∀k (h:k<Z l),∃g o,a=I ⟨g,o,O⟩/\g<w.heap.size/\w.cell? ⟨g,o+k*3,O⟩=I (zd l[k].1)/\w.cell? ⟨g,o+k*3+1,O⟩=I (zX l[k].2.1)/\w.cell? ⟨g,o+k*3+2,O⟩=I (zX l[k].2.2)
theorem dE.aa {l:List Fr} (h:dE w a l) (c:da w w'):dE w' a l:=fun k j=>by
 obtain⟨g,o,d,b,e,f,i⟩:=h k j;exact⟨g,o,d,aT b c.size,(c.cell (p:=⟨g,_,O⟩) b).trans e,(c.cell (p:=⟨g,_,O⟩) b).trans f,(c.cell (p:=⟨g,_,O⟩) b).trans i⟩
theorem Ub (a:Kd) (cap:Nat) (l:List Fr) (w:wA) (h:dE w a l) (v:∀k (h:k<Z l),l[k].2.1.size+l[k].2.2.size<=40000) (x:∀k,k<=Z l ->qw (b9 (l.take k))<=40000) (hn:Z l<=10000):
  c6 105 #[J a (Z l) cap] w (dj w (C (b9 l))):=by
 have B7:=aF h;have L:=aF v;have Q:=aF x;clear h v x;have B6:we (b9 (l.take (Z l))=b9 l):=by show _=_;rw[iP]
 go_enter func105,ntmps105;have s:=aL.at (w:=w) rfl x3 ⟨#[]⟩ ⟨#[]⟩;have n:da w (w.alloc (FC x3 ⟨#[]⟩ ⟨#[]⟩)):=(aw _ w).alloc (ak _) _;go_wp2_with fail
 refine(XG _).af ?_;rintro e y ⟨rfl,q⟩;have D:=s.aa q s.lt;have p:da w y:=n.trans (q.af n.size);clear s n q;rw[qf];go_wp2_with fail
 have ab:=D.lt;go_loopw [9] (fun iv wr=>∃k:Nat,k<=Z l/\iv=E yR k/\we (aL wr y.heap.size (aV (b9 (l.take k))) (nu (b9 (l.take k))) (de (b9 (l.take k))))/\we (aL wr w.heap.size x3 ⟨#[]⟩ ⟨#[]⟩)/\da w wr) (fun iv _=>Z l - (intOf iv).toNat)
 case atStart=>exact⟨0,aX _,rfl,aL.at rfl _ _ _,D.alloc _,p.alloc p.size _⟩
 case round=>
  obtain⟨k,P,rfl,S,H,c⟩:=hrel;by_cases t:k<Z l
  ·obtain⟨g,o,rfl,hg,K,M,B2⟩:=(B7.o.aa c) k t;have F:=take_one t;have B1:=L.o k t;have U:=Q.o k P;have R:=wS (b9 (l.take k));have z:=aF (fun V=>ahB (aV (b9 (l.take k))) l[k].1 (nu (b9 (l.take k))) (de (b9 (l.take k))) l[k].2.1 l[k].2.2 V al al al al);rw[kN,show val l[k].1 l[k].2.1 l[k].2.2=cV l[k] from rfl, <- F] at z;have u:=S.o;clear S F B1 U R;generalize l[k].1=fn at *;generalize l[k].2.1=fx at *;generalize l[k].2.2=fy at *;obtain⟨i,j,m,f,b,d⟩:=u.facts;have cR:=u.lt;go_wp2_with fail
   refine(z.o _).af ?_;rintro e T ⟨rfl,r⟩;have B9:=(u.alloc (FC fn fx fy)).aa r (u.alloc (FC fn fx fy)).lt;have Y:=(H.o.alloc (FC fn fx fy)).aa r (H.o.alloc (FC fn fx fy)).lt;have A:=c.alloc c.size (FC fn fx fy);have X:da w T:=A.trans (r.af A.size);clear i j m f b d K M B2;obtain⟨i,j,m,f,b,d⟩:=B9.facts;rw[qf];go_wp2;go_roundw
   case rel=>exact⟨k+1,al,bd,B9.put _ _ _,Y.far3 al _ _ _,eJ X p.size _ _ _⟩
   case measure=>simp[intOf];omega
  ·obtain rfl:k=Z l:=al
   have u:=S.o;rw[B6.o] at u;obtain⟨i,j,m,f,b,d⟩:=u.facts;obtain⟨j0,j1,j2,i0,i1,i2⟩:=H.o.facts;go_wp2;refine cN ((H.o.put _ _ _).result rfl _ rfl) rfl ?_;exact⟨rfl,eJ c (ak _) _ _ _⟩
theorem arT (a:Kd) (cap:Nat) (l:List Fr) (w:wA) (h:dE w a l) (c:fw l<=10000) (n:Z l<=10000):
  c6 105 #[J a (Z l) cap] w fun e w'=>e=yk (C (b9 l))/\da w w':=
 Ub a cap l w h (fun k b=>by have:=TY (bQ b);omega) (fun k _=>by have:=T7 (ahp (l.take k));have:=aha l k;omega) n
variable {g:Nat}
def kZ (Fb Fd:Kx) (m:Nat):Int:=if countB Fb Fd=xq then(if m=cnt (ag Fb) (ag Fd) then 0 else 8) else 11
theorem asW {Fb Fd:Kx} (h:countB Fb Fd=x3):kZ Fb Fd m=11:=aD (by rw[h];decide)
theorem asX {Fb Fd:Kx} (h:countB Fb Fd=xq) (h1:¬m=cnt (ag Fb) (ag Fd)):kZ Fb Fd m=8:=by rw[kZ,aA h,aD h1]
theorem aaA {Fb Fd:Kx} (h:countB Fb Fd=xq) (h1:m=cnt (ag Fb) (ag Fd)):kZ Fb Fd m=0:=by rw[kZ,aA h,aA h1]
abbrev TC (u v:wQ):Obj:=yd #[u,v] 38
def bh (w:wA) (g:Nat) (u v:wQ):Prop:=w.heap[g]? =I (yd #[u,v] 38 (0,0))
theorem bh.c0 {u v:wQ} (h:bh w g u v):AJ w ⟨g,0,O⟩=I u:=by rw[a8 w g 0 _ _ (0,0) h];rfl
theorem bh.c1 {u v:wQ} (h:bh w g u v):AJ w ⟨g,1,O⟩=I v:=by rw[a8 w g 1 _ _ (0,0) h];rfl
theorem bh.lt {u v:wQ} (h:bh w g u v):g<w.heap.size:=(c5.1 h).1
theorem bh.aa {B:Nat} {u v:wQ} (h:bh w g u v) (b:Below B w w') (a:g<B):bh w' g u v:=(b.block g a).trans h
theorem bh.at (h:w.heap.size=g) (u v:wQ):bh (w.alloc (TC u v)) g u v:=by
 subst h;exact dU _ _
theorem bh.alloc {u v:wQ} (h:bh w g u v) (o:Obj):bh (w.alloc o) g u v:=(uY w o g h.lt).trans h
theorem Hw (a b c:Kd) (ca cb cc m:Nat) (Fb Fd:Kx) (w:wA) (hs:aC w a Fb) (v:aC w b Fd) (s:Z Fb<=140737488355328) (q:Z Fd<=140737488355328):
  c6 114 #[J a (Z Fb) ca,zp #[J b (Z Fd) cb,J c m cc]] w (dj w (E yR (kZ Fb Fd m))):=by
 have S:=Fa hs;have j:=Fa v;have H:=Fa (fun V n p=>Rq a b ca cb Fb Fd V n p s q);clear hs v;have d:da w (w.alloc (TC (J b (Z Fd) cb) (J c m cc))):=(aw _ w).alloc (ak _) _;have t:=bh.at (w:=w) rfl (J b (Z Fd) cb) (J c m cc);cases hcb:countB Fb Fd with
 |false=>
  have A:=Fa (asW (m:=m) hcb);rw[LO hcb] at H;simp only at H;generalize kZ Fb Fd m=r at *;go_enter func114,ntmps114;go_wp2_with fail
  refine(H.o _ (S.o.aa d) (j.o.aa d)).af ?_;rintro e u ⟨rfl,g⟩;have f:=d.trans (g.af d.size);go_wp2;go_ret;exact⟨by rw[A.o];rfl,f⟩
 |true=>
  have l:=Fa (fun h=>asX (m:=m) hcb h);have Y:=Fa (fun h=>aaA (m:=m) hcb h);rw[LN hcb] at H;simp only at H;obtain⟨R,k⟩:=aat hcb;have B7:cnt (ag Fb) (ag Fd)<=65536:=xC R.sz_le (by rw[gG];have:=R.eight;have:=k.length;omega);clear hcb R k;generalize kZ Fb Fd m=r at *;generalize cnt (ag Fb) (ag Fd)=i at *;go_enter func114,ntmps114;go_wp2_with fail
  refine(H.o _ (S.o.aa d) (j.o.aa d)).af ?_;rintro e u ⟨rfl,g⟩;have f:=d.trans (g.af d.size);have x:=t.aa g t.lt;have D:=x.c0;have F:=x.c1;by_cases h:m=i
  ·have B9:=Fa (Y.o h);subst h;go_wp2;go_ret;exact⟨by rw[B9.o];rfl,f⟩
  ·have B9:=Fa (l.o h);(have y:((m:Int)==(i:Int))=false:=by simp;omega);(have z:¬(m:Int)=(i:Int):=al);go_wp2;go_ret;exact⟨by rw[B9.o];rfl,f⟩
variable {i:Nat}
def tD (l:Jp) (i:Nat):Jp:=l.take i++List.replicate (Z l - i) 0
theorem adX (l:Jp):tD l 0=List.replicate (Z l) 0:=by simp[tD]
theorem RY (l:Jp) (h:i<=Z l):Z (tD l i)=Z l:=by simp[tD];omega
theorem adZ (l:Jp):tD l (Z l)=l:=by simp[tD]
theorem adY (l:Jp) (h:i<Z l):(tD l i).set i l[i]=tD l (i+1):=by
 rw[tD,tD,Hj _ _ (by simp;omega),ig h];have e:Z l - i=(Z l - (i+1))+1:=al
 rw[e,MM,eZ,wI al,rT,CR,qj];rfl
def iL (l:Jp):Kx:=l.map fun x:Nat=>(x:Int)
theorem bM (l:Jp):Z (iL l)=Z l:=by simp[iL]
theorem jL (l:Jp):ag (iL l)=l:=by simp[ag,iL,Function.comp_def]
theorem cZ.ints {l:Jp} (h:cZ w g l):aC w (I ⟨g,0,O⟩) (iL l):=fun k a=>by
 rw[bM] at a;refine⟨g,0,rfl,h.lt,?_⟩;rw[bK,h.cell k a];simp[iL]
variable {L:List Kx} {l:Kx}
def ei (w:wA) (a:Kd) (L:List Kx):Prop:=∀k (h:k<Z L),∃g o b c,a=I ⟨g,o,O⟩/\g<w.heap.size/\w.cell? ⟨g,o+k,O⟩=I (J b L[k].length c)/\aC w b L[k]
theorem ei.aa (h:ei w a L) (d:da w w'):ei w' a L:=fun k l=>by
 obtain⟨g,o,b,c,f,e,i,j⟩:=h k l;exact⟨g,o,b,c,f,aT e d.size,(d.cell (p:=⟨g,o+k,O⟩) e).trans i,j.aa d⟩
def pU (w:wA) (a:Kd) (L:List Kx):Prop:=∀k,k<Z L ->∀g o b n c,a=I ⟨g,o,O⟩ ->AJ w ⟨g,o+k,O⟩=I (J b n c) ->b=O ->c=0
theorem pU.aa (h:pU w a L) (m:ei w a L) (i:da w w'):pU w' a L:=fun k f g o b n c d j q=>by
 obtain⟨g',o',_,_,e,l,_⟩:=m k f;rw[d] at e;cases e;exact h k f g o b n c d ((i.cell (p:=⟨g,o+k,O⟩) l).symm.trans j) q
abbrev uv (x:Nat):Value:=E yW (x:Int)
def dw (w:wA) (g:Nat) (l:Jp):Prop:=w.heap[g]? =I (yd (l.map uv).toArray 158 (0,0))
theorem dw.cell {l:Jp} (h:dw w g l) (j:Nat) (a:j<Z l):AJ w ⟨g,j,O⟩=I (E yW (l[j]:Nat)):=by
 rw[a8 w g j _ _ (0,0) h];simp[uv,a]
theorem dw.fz {l:Jp} (h:dw w g l) (j:Nat):w.frozen? ⟨g,j,O⟩=false:=eA w g j _ _ h
theorem dw.lt {l:Jp} (h:dw w g l):g<w.heap.size:=(c5.1 h).1
theorem dw.aa {b:Nat} {l:Jp} (h:dw w g l) (a:Below b w w') (c:g<b):dw w' g l:=(a.block g c).trans h
theorem dw.set {l:Jp} (h:dw w g l) (j y:Nat):dw (AF w ⟨g,j,O⟩ (E yW (y:Int))) g (l.set j y):=by
 have a:=ke w g j _ _ (E yW (y:Int)) h;rw[dw,a];simp[Hk,uv]
theorem XW (n:Nat):(madeCells (Value.int yW 0).cells (n*1)).toList=(List.replicate n (0:Nat)).map uv:=by
 rw[show (Value.int yW 0).cells= #[Value.int yW 0] from rfl,My,rU,QW];rfl
theorem Tryz.infoSet:(prog.info? 158).map (fun i=>(i.zero,i.size,i.bytes))=I (I (E yW 0),1,4):=ao
def k5 (L:List Kx) (n:Nat):Bool:=L.all fun l=>dZ l n
def jB (L:List Kx):Jp:=L.map fun l=>aB (ag l)
theorem afc (L:List Kx):Z (jB L)=Z L:=by simp[jB]
theorem atI (h:i<Z L) (e:dZ L[i] n=x3):k5 L n=false:=by
 rw[k5,MU];exact⟨L[i],bQ h,by rw[e];decide⟩
theorem acX (h:dZ l n=xq):setA l n=aB (ag l):=aA h
theorem acV (a:Kd) (ca n:Nat) (L:List Kx) (w:wA) (h:ei w a L) (hL:Z L<=8) (X:n<=8) (o:∀l∈L,Z l<=140737488355328):
  c6 177 #[J a (Z L) ca,E yR (n:Nat)] w fun e w'=>da w w'/\
   ((k5 L n=xq/\∃G,e=yk (zz #[J (I ⟨G,0,O⟩) (Z L) (Z L),zd xq])/\w.heap.size<=G/\dw w' G (jB L))∨(k5 L n=x3/\e=yk (zz #[J O 0 0,zd x3]))):=by
 obtain⟨Y,Q,aj,an,ao⟩:=eo Tryz.infoSet;have M:=Fa h;have K:=Fa (fun i h e=>atI (L:=L) (n:=n) (i:=i) h e)
 have T:we ((∀i (h:i<Z L),dZ L[i] n=xq) ->k5 L n=xq):=fun h=>fG.2 fun l o=>by
  obtain⟨i,u,rfl⟩:=iQ o;exact h i u
 have B2:we (∀i (h:i<Z L),(jB L)[i]? =I (aB (ag L[i]))):=fun i h=>by simp[jB,h]
 have ie:=Fa o;have v:=afc L;generalize k5 L n=rb at *;generalize jB L=m at *;clear h o;go_enter func177,ntmps177
 go_wp2_with (first
  |(at_make;refine oX _ rfl _ _ 154 rfl w.heap.size 158 Y (E yW 0) 1 underlying154 Q aj an yR yR _ _ (Z L) rfl rfl bd bd (by rw[ao];omega) (by unfold maxLen;omega) (ak _) ?_;intro x y A))
 have q:=sR y;rw[XW] at q;have B1:we (da w x):=(aw _ w).grown A (ak _) (fun k e=>by cases e);have B7:we (dw x w.heap.size (List.replicate (Z L) 0)):=q;clear y A q;go_wp2_with fail
 go_loopw [15] (fun iv wr=>∃i:Nat,i<=Z L/\iv=E yR i/\we (∀j (h:j<Z L),j< i ->dZ L[j] n=xq)/\we (dw wr w.heap.size (tD m i))/\we (da w wr)) (fun iv _=>Z L - (intOf iv).toNat)
 case atStart=>exact⟨0,aX _,rfl,fun j _ h=>absurd h al,by rw[adX,v];exact B7,B1⟩
 case round=>
  obtain⟨i,u,rfl,R,H,D⟩:=hrel;clear B7 B1;by_cases t:i<Z L
  ·obtain⟨g,aq,b,c,rfl,hg,c0,r⟩:=(M.o.aa D.o) i t;have S:=ie.o L[i] (bQ t);have ad:=Fa r;clear r;have ab:=Fa (K.o i t);have ae:=Fa (B2.o i t)
   have ai:we (dZ L[i] n=xq ->∀j (h:j<Z L),j<i+1 ->dZ L[j] n=xq):=fun h j f uF=>by
    rcases dR j i with d |d
    ·exact R.o j f d
    ·obtain rfl:j=i:=al
     exact h
   have k6:we (dZ L[i] n=xq ->setA L[i] n=aB (ag L[i])):=acX;generalize L[i]=l at *;go_wp2_with fail
   refine(acW b c l n _ ad.o S X).af ?_;rintro e w3 ⟨rfl,rfl⟩;cases hr:dZ l n with
   |false=>
    have B9:=Fa (ab.o hr);generalize setA l n=s at *;go_wp2;go_ret2;exact⟨D.o,xS ⟨B9.o,rfl⟩⟩
   |true=>
    rw[k6.o hr];have F:=Fa (ai.o hr);have k0:=H.o.cell i (by rw[RY _ al];omega);have f0:=H.o.fz i;have P:=Fa (H.o.set i (aB (ag l)))
    have uU:we ((tD m i).set i (aB (ag l))=tD m (i+1)):=by
     show _=_;obtain⟨V,d⟩:=oA.1 ae.o;rw[<- d];exact adY m V
    rw[uU.o] at P;have B6:=Fa (D.o.setCell (p:=⟨w.heap.size,i,O⟩) (ak _) (E yW (aB (ag l):Nat)));clear hr;generalize aB (ag l)=s at *;generalize (tD m i)[i]'(by rw[RY _ al];omega)=z at *;go_wp2;go_roundw
    case rel=>exact⟨i+1,al,bd,F,P,B6⟩
    case measure=>simp[intOf];omega
  ·obtain rfl:i=Z L:=al
   have B9:=Fa (T.o fun j f=>R.o j f f);have U:=H.o;rw[<- v,adZ] at U;have uO:=Fa U;clear U;go_wp2;go_ret2;exact⟨D.o,yp ⟨B9.o,_,rfl,ak _,uO.o⟩⟩
def Bp (L:List Kx):Bool:=(List.range (Z L)).all fun v=>!decide (v∈ag (L.getD v []))
def gB (L:List Kx):Bool:=decide (1<=Z L/\L.length<=8)&&k5 L (Z L)&&Bp L
theorem afb (n:Nat) (w:wA):
  c6 223 #[E yR (n:Nat)] w fun e w'=>e=yk (zd (decide (1<=n/\n<=8)))/\w'=w:=by
 by_cases a:1<=n
 ·by_cases b:n<=8
  ·rw[cJ (p:=1<=n/\n<=8) ⟨a,b⟩];(have c:(1:Int)<=(n:Int):=al);(have d:(n:Int)<=8:=al);go_enter func223,ntmps223;go_wp2;go_ret;exact⟨rfl,rfl⟩
  ·rw[cT (p:=1<=n/\n<=8) (fun h=>b h.2)];(have c:(1:Int)<=(n:Int):=al);have B9:we (decide ((n:Int)<=8)=x3):=cT al;clear b;go_enter func223,ntmps223;go_wp2;go_ret;exact⟨by rw[B9.o];rfl,rfl⟩
 ·rw[cT (p:=1<=n/\n<=8) (fun h=>a h.1)];obtain rfl:n=0:=al
  clear a;go_enter func223,ntmps223;go_wp2;go_ret;exact⟨rfl,rfl⟩
theorem ac8 (a:n<=8) (h:dZ l n=xq):∀u∈ag l,u<8:=by
 have:=ac7 (l:=l) (n:=n) (i:=l.length) a h (ak _);rwa [iP] at this
theorem Ux (h:k5 L n=xq) (a:i<Z L):dZ L[i] n=true:=fG.1 h _ (bQ a)
theorem aeP (h:i<Z L) (e:i∈ag L[i]):Bp L=false:=by
 rw[Bp,MU];refine⟨i,bR.2 h,?_⟩;rw[cK,ba h];simpa using e
theorem aeO (h:∀i (a:i<Z L),¬i∈ag L[i]):Bp L=true:=by
 rw[Bp,fG];intro i a;have b:=bR.1 a;rw[cK,ba b];simpa using h i b
theorem adb (a:Kd) (ca:Nat) (L:List Kx) (w:wA) (h:ei w a L) (q:∀l∈L,Z l<=140737488355328):
  c6 179 #[J a (Z L) ca] w fun e w'=>da w w'/\
   ((gB L=xq/\∃G,e=yk (zz #[J (I ⟨G,0,O⟩) (Z L) (Z L),zd xq])/\w.heap.size<=G/\dw w' G (jB L))∨(gB L=x3/\∃v,e=yk (zz #[v,zd x3]))):=by
 have F:=Fa h;have D:=Fa q;have H:we (gB L=(decide (1<=Z L/\L.length<=8)&&k5 L (Z L)&&Bp L)):=rfl;generalize gB L=gb at *;clear h q;cases hm:decide (1<=Z L/\L.length<=8) with
 |false=>
  have b:=Fa (fun V:wA=>afb (Z L) V);rw[hm] at H b;have B7:we (gb=x3):=by show _=_;rw[H.o];rfl
  clear hm H;go_enter func179,ntmps179;go_wp2_with fail
  refine(b.o _).af ?_;rintro e B1 ⟨rfl,rfl⟩;go_wp2;go_ret2;exact⟨aw _ _,xS ⟨B7.o,_,rfl⟩⟩
 |true=>
  have b:=Fa (fun V:wA=>afb (Z L) V);rw[hm] at H b;obtain⟨h1,g⟩:=mS hm;have S:=Fa (fun (V:wA) (Q:ei V a L)=>acV a ca (Z L) L V Q g g D.o);have X:we (k5 L (Z L)=xq ->∀i (k:i<Z L),∀u∈ag L[i],u<8):=fun h i k=>ac8 g (Ux h k);have T:=Fa (fun i h e=>aeP (L:=L) (i:=i) h e);have y:=Fa (fun h=>aeO (L:=L) h);have M:we (∀i (h:i<Z L),(jB L)[i]? =I (aB (ag L[i]))):=fun i h=>by simp[jB,h]
  clear hm;generalize k5 L (Z L)=ra at *;generalize Bp L=Y at *;generalize jB L=ms at *;go_enter func179,ntmps179;go_wp2_with fail
  refine(b.o _).af ?_;rintro e B1 ⟨rfl,rfl⟩;go_wp2_with fail
  refine(S.o _ F.o).af ?_;rintro e r ⟨d,⟨B2,G,rfl,P,p⟩ |⟨B2,rfl⟩⟩
  ·have U:=Fa p;have c:=Fa d;have aa:=Fa (X.o B2);(have B6:we (gb=Y):=by show _=_;rw[H.o,B2];rfl);clear p d B2 H;go_wp2_with fail
   go_loopw [21] (fun iv wr=>∃i:Nat,i<=Z L/\iv=E yR i/\we (∀j (h:j<Z L),j< i ->¬j∈ag L[j])/\wr=r) (fun iv _=>Z L - (intOf iv).toNat)
   case atStart=>exact⟨0,aX _,rfl,fun j _ h=>absurd h al,rfl⟩
   case round=>
    obtain⟨i,k,rfl,R,rfl⟩:=hrel;by_cases t:i<Z L
    ·have x:=M.o i t;obtain⟨s,A⟩:=oA.1 x;have K:=U.o.cell i s;rw[A] at K;have xQ:=Fa (T.o i t)
     have ab:we (¬i∈ag L[i] ->∀j (h:j<Z L),j<i+1 ->¬j∈ag L[j]):=fun h j f uF=>by
      rcases dR j i with m |m
      ·exact R.o j f m
      ·obtain rfl:j=i:=al
       exact h
     have z:=Fa (fun V:wA=>Kt (ag L[i]) i V (aa.o i t) al);clear x s A;generalize ag L[i]=l at *;go_wp2_with fail
     refine(z.o _).af ?_;rintro e w3 ⟨rfl,rfl⟩;by_cases n:i∈l
     ·rw[cJ n];have B9:=Fa (xQ.o n);clear n;go_wp2;go_ret2;exact⟨c.o,xS ⟨by rw[B6.o];exact B9.o,_,rfl⟩⟩
     ·rw[cT n];have B9:=Fa (ab.o n);clear n;go_wp2;go_roundw
      case rel=>exact⟨i+1,al,bd,B9,trivial⟩
      case measure=>simp[intOf];omega
    ·obtain rfl:i=Z L:=al
     have B9:=Fa (y.o fun j f=>R.o j f f);go_wp2;go_ret2;exact⟨c.o,yp ⟨by rw[B6.o];exact B9.o,G,rfl,P,U.o⟩⟩
  ·have B6:we (gb=x3):=by show _=_;rw[H.o,B2];rfl
   have c:=Fa d;clear B2 d H;go_wp2_with fail
   go_loopw [21] (fun iv wr=>iv=E yR 0/\wr=r) (fun _ _=>0)
   case atStart=>exact⟨rfl,rfl⟩
   case round=>
    obtain⟨rfl,rfl⟩:=hrel;go_wp2;go_ret2;exact⟨c.o,xS ⟨B6.o,_,rfl⟩⟩
variable {P:List Jp} {v:Nat}
def iZ (P:List Jp) (out:Jp) (v:Nat):Bool:=!decide (v∈out)&&decide (∀u∈P.getD v [],u∈out)
def sk (P:List Jp) (out:Jp):Option Nat:=(List.range (Z P)).find? (iZ P out)
def bc (P:List Jp):Nat ->Jp
 |0=>[]
 |k+1=>match sk P (bc P k) with
  |some v=>bc P k++[v]
  |none=>bc P k
theorem find_range {p:Nat ->Bool}:∀ {n v:Nat},v< n ->p v=xq ->(∀u,u< v ->p u=x3) ->(List.range n).find? p=I v:=by
 intro n;induction n with
 |zero=>intro v h;omega
 |succ n ih=>
  intro v c a b;rw[xZ,List.find?_append];rcases dR v n with h |h
  ·rw[ih h a b];rfl
  ·obtain rfl:v=n:=al
   (have:(List.range v).find? p=none:=VY.2 fun u w=>by rw[b u (bR.1 w)];decide);rw[this];simp[a]
theorem an3 {o:Jp} (b:v<Z P) (h:iZ P o v=xq) (a:∀u,u< v ->iZ P o u=x3):sk P o=I v:=find_range b h a
theorem an4 {o:Jp} (h:∀u,u<Z P ->iZ P o u=x3):sk P o=none:=VY.2 fun u v=>by rw[h u (bR.1 v)];decide
theorem Sg (h:sk P (bc P k)=I v):bc P (k+1)=bc P k++[v]:=by rw[bc,h]
theorem aek (h:sk P (bc P k)=O):∀j,bc P (k+j)=bc P k
 |0=>rfl
 |j+1=>by
  have i:=aek h j;show bc P (k+j+1)=_;rw[bc,i,h]
theorem anB (h:sk P (bc P k)=O) (a:k<=n):bc P n=bc P k:=by
 have:=aek h (n - k);rwa [show k+(n - k)=n by omega] at this
theorem KI (P:List Jp):∀k,Z (bc P k)<=k
 |0=>ak _
 |k+1=>by
  have:=KI P k;rw[bc];cases sk P (bc P k) with
  |none=>show Z (bc P k)<=_;omega
  |some v=>show Z (bc P k++[v])<=_;rw[cD];simp;omega
theorem H6 (P:List Jp):∀k,∀v∈bc P k,v<Z P
 |0,v,hv=>by cases hv
 |k+1,v,hv=>by
  rw[bc] at hv;cases e:sk P (bc P k) with
  |none=>rw[e] at hv;exact H6 P k v hv
  |some u=>
   rw[e] at hv;rcases bH.1 hv with h |h
   ·exact H6 P k v h
   ·obtain rfl:=bD.1 h;exact bR.1 (abx e)
def aI (L:List Kx):List Jp:=L.map ag
theorem kp (L:List Kx):Z (aI L)=Z L:=by simp[aI]
theorem H5 (h:i<Z L):(aI L).getD i []=ag L[i]:=by simp[aI,cK,h]
theorem Ih (L:List Kx):jB L=(aI L).map aB:=by simp[jB,aI]
theorem Ye (a b:Jp):iL (a++b)=iL a++iL b:=by simp[iL]
def bq (L:List Kx):Int:=if gB L=xq then(if Z (bc (aI L) (Z L))<Z L then 10 else 0) else 11
def Ij (c:Nat):Bool:=decide (97<=c/\c<=122)
def Pr (c:Nat):Bool:=decide (48<=c/\c<=57)
def x7 (c:Nat):Bool:=Ij c ||Pr c ||decide (c=95)
def CY (s:ByteArray):Bool:=(s.data.toList.all fun c=>x7 c.toNat)&&Ij (s.data.toList.headD 0).toNat
def isVar (s:ByteArray):Bool:=s.toList==[118,97,114]
def NX (s:ByteArray):Bool:=s.toList==[101,108,115,101]
def Bx (s:ByteArray):Bool:=decide (s.size<=12)&&!isVar s&&!NX s&&CY s
theorem aeW (c:Nat) (w:wA):c6 271 #[E .u8 (c:Nat)] w fun e w'=>e=yk (zd (Ij c))/\w'=w:=by
 rw[Ij];by_cases a:97<=c
 ·have B9:we (decide ((c:Int)<=122)=decide (97<=c/\c<=122)):=EO.2 ⟨fun h=>⟨a,al⟩,fun h=>al⟩;have b:(97:Int)<=(c:Int):=al
  go_enter func271,ntmps271;go_wp2;go_ret;exact⟨by rw[<- B9.o];rfl,rfl⟩
 ·have B9:we (decide (97<=c/\c<=122)=x3):=cT fun h=>a h.1;rw[B9.o];have b:(c:Int)<97:=al
  clear a;go_enter func271,ntmps271;go_wp2;go_ret;exact⟨rfl,rfl⟩
theorem aor (c:Nat) (w:wA):c6 288 #[E .u8 (c:Nat)] w fun e w'=>e=yk (zd (Pr c))/\w'=w:=by
 rw[Pr];by_cases a:48<=c
 ·have B9:we (decide ((c:Int)<=57)=decide (48<=c/\c<=57)):=EO.2 ⟨fun h=>⟨a,al⟩,fun h=>al⟩;have b:(48:Int)<=(c:Int):=al
  go_enter func288,ntmps288;go_wp2;go_ret;exact⟨by rw[<- B9.o];rfl,rfl⟩
 ·have B9:we (decide (48<=c/\c<=57)=x3):=cT fun h=>a h.1;rw[B9.o];have b:(c:Int)<48:=al
  clear a;go_enter func288,ntmps288;go_wp2;go_ret;exact⟨rfl,rfl⟩
theorem aop (c:Nat) (w:wA):c6 270 #[E .u8 (c:Nat)] w fun e w'=>e=yk (zd (x7 c))/\w'=w:=by
 have H:we (x7 c=(Ij c ||Pr c ||decide (c=95))):=rfl;have L:=Fa (aeW c);have F:=Fa (aor c);generalize x7 c=r at *;go_enter func270,ntmps270;go_wp2_with fail
 refine(L.o _).af ?_;rintro e a ⟨rfl,rfl⟩;cases hl:Ij c with
 |true=>
  rw[hl] at H;have B9:we (r=xq):=H.o;clear hl;go_wp2;go_ret;exact⟨by rw[B9.o];rfl,rfl⟩
 |false=>
  rw[hl] at H;go_wp2_with fail
  refine(F.o _).af ?_;rintro e b ⟨rfl,rfl⟩;cases hf:Pr c with
  |true=>
   rw[hf] at H;have B9:we (r=xq):=H.o;clear hl hf;go_wp2;go_ret;exact⟨by rw[B9.o];rfl,rfl⟩
  |false=>
   rw[hf] at H
   have B9:we (r=((c:Int)==95)):=by
    show _=_;rw[H.o,Bool.false_or,Bool.false_or,wL,eM,xX];omega
   clear hl hf;go_wp2;go_ret;exact⟨by rw[B9.o];rfl,rfl⟩
theorem akp {s:ByteArray} (h:k<s.size):s.data.toList.take (k+1)=s.data.toList.take k++[s[k]]:=by
 have a:k<Z s.data.toList:=by simpa using h
 rw[ig a];rfl
theorem ajS {s:ByteArray} (h:k<s.size) (e:x7 s[k].toNat=x3):CY s=false:=by
 have m:s[k]∈s.data.toList:=by
  have:s.data.toList[k]'(by simpa using h)=s[k]:=rfl;rw[<- this];exact bQ _
 have:(s.data.toList.all fun c=>x7 c.toNat)=false:=by
  rw[MU];exact⟨_,m,by rw[e];decide⟩
 rw[CY,this];rfl
theorem aqE {s:ByteArray} (h:0<s.size):s.data.toList.headD 0=s[0]:=by
 obtain⟨⟨l⟩⟩:=s;cases l with
 |nil=>exact absurd h a6
 |cons c l=>rfl
theorem ajQ {s:ByteArray} (h:0<s.size) (e:(s.data.toList.take s.size).all (fun c=>x7 c.toNat)=xq):CY s=Ij s[0].toNat:=by
 have a:s.data.toList.all (fun c=>x7 c.toNat)=true:=by
  rwa [lg aE] at e
 rw[CY,a,Hp,aqE h]
theorem aoo (s:ByteArray) (w:wA) (hs:s.size<=140737488355328):
  c6 237 #[zX s] w fun e w'=>e=yk (zd (Bx s))/\w'=w:=by
 have H:we (Bx s=(decide (s.size<=12)&&!isVar s&&!NX s&&CY s)):=rfl;have m:=Fa (fun k h e=>ajS (s:=s) (k:=k) h e);have n:=Fa (fun h e=>ajQ (s:=s) h e)
 have x:we (s.size=0 ->CY s=x3):=fun h=>by
  have:s.data.toList=[]:=Hm.1 (by rw[Hq];exact h);rw[CY,this];rfl
 generalize Bx s=nb at *;generalize CY s=j at *;by_cases a:s.size=0
 ·have B9:we (nb=x3):=by show _=_;rw[H.o,x.o a];simp
  have b:(s.size:Int)<1:=al
  clear a H;go_enter func237,ntmps237;go_wp2;go_ret;exact⟨by rw[B9.o];rfl,rfl⟩
 by_cases v:12<s.size
 ·have B9:we (nb=x3):=by show _=_;rw[H.o,cT (show ¬s.size<=12 by omega)];rfl
  have b:(1:Int)<=(s.size:Int):=al
  have f:(12:Int)<(s.size:Int):=al
  clear a H;go_enter func237,ntmps237;go_wp2;go_ret;exact⟨by rw[B9.o];rfl,rfl⟩
 have b:(1:Int)<=(s.size:Int):=al
 have f:(s.size:Int)<=12:=al
 cases hv:isVar s with
 |true=>
  have B9:we (nb=x3):=by show _=_;rw[H.o,hv];simp
  rw[isVar] at hv;clear H a v;go_enter func237,ntmps237;go_wp2;go_ret;exact⟨by rw[B9.o];rfl,rfl⟩
 |false=>
  cases he:NX s with
  |true=>
   (have B9:we (nb=x3):=by show _=_;rw[H.o,he];simp);rw[isVar] at hv;rw[NX] at he;clear H a v;go_enter func237,ntmps237;go_wp2;go_ret;exact⟨by rw[B9.o];rfl,rfl⟩
  |false=>
   (have B9:we (nb=j):=by show _=_;rw[H.o,hv,he,cJ (show s.size<=12 by omega)];simp);rw[isVar] at hv;rw[NX] at he;(have g:0<s.size:=al);clear H a v;go_enter func237,ntmps237;go_wp2_with fail
   go_loopw [22] (fun iv wr=>∃k:Nat,k<=s.size/\iv=E yR k/\we ((s.data.toList.take k).all (fun c=>x7 c.toNat)=xq)/\wr=w) (fun iv _=>s.size - (intOf iv).toNat)
   case atStart=>exact⟨0,aX _,rfl,rfl,rfl⟩
   case round=>
    obtain⟨k,p,rfl,A,rfl⟩:=hrel;by_cases l:k<s.size
    ·have d:=Fa (m.o k l)
     have T:we (x7 s[k].toNat=xq ->(s.data.toList.take (k+1)).all (fun c=>x7 c.toNat)=xq):=fun h=>by
      rw[akp l,List.all_append,A.o];simp[h]
     go_wp2_with fail
     refine(aop s[k].toNat _).af ?_;rintro e i ⟨rfl,rfl⟩;cases hw:x7 s[k].toNat with
     |false=>
      have F:=Fa (d.o hw);clear hw;go_wp2;go_ret;exact⟨by rw[B9.o,F.o];rfl,rfl⟩
     |true=>
      have S:=Fa (T.o hw);clear hw;go_wp2;go_roundw
      case rel=>exact⟨k+1,al,bd,S,trivial⟩
      case measure=>simp[intOf];omega
    ·obtain rfl:k=s.size:=al
     have F:=Fa (n.o g A.o);go_wp2_with fail
     refine(aeW s[0].toNat _).af ?_;rintro e i ⟨rfl,rfl⟩;go_wp2;go_ret;exact⟨by rw[B9.o,F.o];rfl,rfl⟩
def jU (w:wA) (a:Kd) (l:List ByteArray):Prop:=∀k (h:k<Z l),∃g o,a=I ⟨g,o,O⟩/\g<w.heap.size/\w.cell? ⟨g,o+k,O⟩=I (zX l[k])
theorem jU.aa {l:List ByteArray} (h:jU w a l) (c:da w w'):jU w' a l:=fun k f=>by
 obtain⟨g,o,d,b,e⟩:=h k f;exact⟨g,o,d,aT b c.size,(c.cell (p:=⟨g,o+k,O⟩) b).trans e⟩
theorem jU.take {l:List ByteArray} (h:jU w a l) (i:Nat):jU w a (l.take i):=fun k f=>by
 have c:k<Z l:=by rw[eZ] at f;omega
 obtain⟨g,o,b,d,e⟩:=h k c;refine⟨g,o,b,d,?_⟩;rw[x4];exact e
def kD (f:Nat ->Int):Nat ->Int
 |0=>0
 |n+1=>if kD f n=0 then f n else kD f n
theorem B5 {f:Nat ->Int}:∀ {n:Nat},(∀j,j< n ->f j=0) ->kD f n=0
 |0,_=>rfl
 |n+1,h=>by rw[kD,aA (B5 fun j a=>h j al),h n al]
theorem Pn {f:Nat ->Int} (h:∀j,j< i ->f j=0) (b:f i≠0):∀ {n:Nat},i< n ->kD f n=f i
 |0,hn=>al
 |n+1,hn=>by
  rcases dR i n with a |a
  ·rw[kD,Pn h b a,aD b]
  ·obtain rfl:i=n:=al
   rw[kD,aA (B5 h)]
theorem V3 {f:Nat ->Int} (h:∀j,j< i ->f j=0) (b:f i=0):∀j,j<i+1 ->f j=0:=fun j c=>by
 rcases dR j i with a |a
 ·exact h j a
 ·obtain rfl:j=i:=al
  exact b
def zD (l:List ByteArray) (v:ByteArray):Bool:=l.any fun x=>decide (x=v)
def ym (l:List ByteArray) (i:Nat):Int:=if Bx (l.getD i ⟨#[]⟩)=xq then(if zD (l.take i) (l.getD i ⟨#[]⟩)=xq then 7 else 0) else 4
def oI (l:List ByteArray):Int:=kD (ym l) (Z l)
theorem TP {l:List ByteArray} (h:i<Z l):l.getD i ⟨#[]⟩=l[i]:=by rw[cK,ba h];rfl
def C7 (l:List ByteArray) (v:ByteArray):Int:=match l.findIdx? (fun x=>decide (x=v)) with
 |some i=>(i:Int)
 |none=> -1
theorem ati {a b:ByteArray}:(a.toList==b.toList)=decide (a=b):=by
 rw[wL,xX,eM];constructor
 ·intro h;rw[toList_data,toList_data] at h;obtain⟨⟨x⟩⟩:=a;obtain⟨⟨y⟩⟩:=b;simp only at h;rw[h]
 ·intro h;rw[h]
theorem amV {l:List ByteArray} {v:ByteArray} (h:i<Z l) (e:l[i]=v) (n:∀j (a:j<Z l),j< i ->¬l[j]=v):C7 l v=i:=by
 have:l.findIdx? (fun x=>decide (x=v))=I i:=List.findIdx?_eq_some_iff_getElem.2 ⟨h,cJ e,fun j a=>by
  rw[eM];exact n j al a⟩
 rw[C7,this]
theorem amT {l:List ByteArray} {v:ByteArray} (n:∀j (h:j<Z l),¬l[j]=v):C7 l v= -1:=by
 have:l.findIdx? (fun x=>decide (x=v))=none:=List.findIdx?_eq_none_iff.2 fun x a=>by
  obtain⟨j,h,rfl⟩:=iQ a;exact cT (n j h)
 rw[C7,this]
theorem amU (l:List ByteArray) (v:ByteArray):decide (0<=C7 l v)=zD l v:=by
 rw[wL,eM,zD,rV,C7];cases e:l.findIdx? (fun x=>decide (x=v)) with
 |some i=>
  obtain⟨h,p,_⟩:=List.findIdx?_eq_some_iff_getElem.1 e;exact⟨fun _=>⟨l[i],bQ h,p⟩,fun _=>by show (0:Int)<=(i:Int);omega⟩
 |none=>
  have:=List.findIdx?_eq_none_iff.1 e;exact⟨fun h=>by exact absurd (show (0:Int)<= -1 from h) a6,fun ⟨x,a,p⟩=>by rw[this x a] at p;cases p⟩
theorem alb (a:Kd) (ca:Nat) (l:List ByteArray) (v:ByteArray) (w:wA) (h:jU w a l) (n:Z l<=140737488355328):
  c6 272 #[J a (Z l) ca,zX v] w fun e w'=>e=yk (E yR (C7 l v))/\w'=w:=by
 have F:=Fa h;have P:=Fa (fun i h e n=>amV (l:=l) (v:=v) (i:=i) h e n);have Q:=Fa (fun n=>amT (l:=l) (v:=v) n);generalize C7 l v=r at *;clear h;go_enter func272,ntmps272;go_wp2_with fail
 go_loopw [8] (fun iv wr=>∃i:Nat,i<=Z l/\iv=E yR i/\we (∀j (b:j<Z l),j< i ->¬l[j]=v)/\wr=w) (fun iv _=>Z l - (intOf iv).toNat)
 case atStart=>exact⟨0,aX _,rfl,fun j _ h=>absurd h al,rfl⟩
 case round=>
  obtain⟨i,q,rfl,H,rfl⟩:=hrel;by_cases t:i<Z l
  ·obtain⟨g,o,rfl,p,k⟩:=F.o i t;have d:=Fa (fun e=>P.o i t e H.o)
   have f:we (¬l[i]=v ->∀j (b:j<Z l),j<i+1 ->¬l[j]=v):=fun h j b u=>by
    rcases dR j i with c |c
    ·exact H.o j b c
    ·obtain rfl:j=i:=al
     exact h
   generalize l[i]=x at *;by_cases e:x=v
   ·have B9:=Fa (d.o e);subst e;go_wp2;go_ret;exact⟨by rw[B9.o];rfl,rfl⟩
   ·have B9:=Fa (f.o e);(have m:(v.toList==x.toList)=false:=by rw[ati];exact cT fun h=>e h.symm);clear e;go_wp2;go_roundw
    case rel=>exact⟨i+1,al,bd,B9,trivial⟩
    case measure=>simp[intOf];omega
  ·obtain rfl:i=Z l:=al
   have B9:=Fa (Q.o fun j b=>H.o j b b);go_wp2;go_ret;exact⟨by rw[B9.o];rfl,rfl⟩
theorem ald (a:Kd) (ca:Nat) (l:List ByteArray) (v:ByteArray) (w:wA) (h:jU w a l) (n:Z l<=140737488355328):
  c6 238 #[J a (Z l) ca,zX v] w fun e w'=>e=yk (zd (zD l v))/\w'=w:=by
 have F:=Fa h;have H:=Fa (fun (V:wA) (b:jU V a l)=>alb a ca l v V b n);have M:=Fa (amU l v);generalize zD l v=m at *;generalize C7 l v=r at *;clear h;go_enter func238,ntmps238;go_wp2_with fail
 refine(H.o _ F.o).af ?_;rintro e c ⟨rfl,rfl⟩;go_wp2;go_ret;exact⟨by rw[<- M.o];rfl,rfl⟩
theorem aol {l:List ByteArray} (h:i<Z l) (e:Bx l[i]=x3):ym l i=4:=by rw[ym,TP h,e,aD a6]
theorem aon {l:List ByteArray} (h:i<Z l) (e:Bx l[i]=xq) (a:zD (l.take i) l[i]=xq):ym l i=7:=by rw[ym,TP h,e,aA rfl,a,aA rfl]
theorem aom {l:List ByteArray} (h:i<Z l) (e:Bx l[i]=xq) (a:zD (l.take i) l[i]=x3):ym l i=0:=by rw[ym,TP h,e,aA rfl,a,aD a6]
theorem aif (a:Kd) (ca:Nat) (l:List ByteArray) (w:wA) (h:jU w a l) (Q:Z l<=140737488355328) (L:Z l<=ca) (hs:∀s∈l,s.size<=140737488355328):
  c6 187 #[J a (Z l) ca] w fun e w'=>e=yk (E yR (oI l))/\w'=w:=by
 have F:=Fa h;have p:=Fa hs;have A:we (∀i,i<Z l ->(∀j,j< i ->ym l j=0) ->∀k,ym l i=k ->k≠0 ->oI l=k):=fun i c z k d y=>by rw[oI,Pn z (by rw[d];exact y) c,d]
 have B1:we ((∀j,j<Z l ->ym l j=0) ->oI l=0):=fun h=>B5 h;have f:=Fa (fun i h e=>aol (l:=l) (i:=i) h e);have D:=Fa (fun i h e b=>aon (l:=l) (i:=i) h e b);have B2:=Fa (fun i h e b=>aom (l:=l) (i:=i) h e b);generalize oI l=r at *;clear h hs;go_enter func187,ntmps187;go_wp2_with fail
 go_loopw [7] (fun iv wr=>∃i:Nat,i<=Z l/\iv=E yR i/\we (∀j,j< i ->ym l j=0)/\wr=w) (fun iv _=>Z l - (intOf iv).toNat)
 case atStart=>exact⟨0,aX _,rfl,fun j h=>absurd h al,rfl⟩
 case round=>
  obtain⟨i,c,rfl,H,rfl⟩:=hrel;by_cases t:i<Z l
  ·obtain⟨g,o,rfl,M,K⟩:=F.o i t;have B7:=p.o l[i] (bQ t);have B6:=Fa (fun e=>A.o i t H.o 4 (f.o i t e) a6);have q:=Fa (fun e b=>A.o i t H.o 7 (D.o i t e b) a6);have U:=Fa (fun e b=>V3 H.o (B2.o i t e b));have P:=Fa (F.o.take i);(have n:Z (l.take i)=i:=by rw[eZ];omega)
   have u:we (∀(v:ByteArray) (V:wA),jU V (I ⟨g,o,O⟩) (l.take i) ->c6 238 #[J (I ⟨g,o,O⟩) i ca,zX v] V fun e w'=>e=yk (zd (zD (l.take i) v))/\w'=V):=fun v V m=>by
    have:=ald (I ⟨g,o,O⟩) ca (l.take i) v V m al;rwa [n] at this
   clear n;generalize l[i]=x at *;go_wp2_with fail
   refine(aoo x _ B7).af ?_;rintro e R ⟨rfl,rfl⟩;cases yE:Bx x with
   |false=>
    have B9:=Fa (B6.o yE);clear yE;go_wp2;go_ret;exact⟨by rw[B9.o];rfl,rfl⟩
   |true=>
    go_wp2_with fail
    refine(u.o x _ P.o).af ?_;rintro e S ⟨rfl,rfl⟩;cases hm:zD (l.take i) x with
    |true=>
     have B9:=Fa (q.o yE hm);clear yE hm;go_wp2;go_ret;exact⟨by rw[B9.o];rfl,rfl⟩
    |false=>
     have B9:=Fa (U.o yE hm);clear yE hm;go_wp2;go_roundw
     case rel=>exact⟨i+1,al,bd,B9,trivial⟩
     case measure=>simp[intOf];omega
  ·obtain rfl:i=Z l:=al
   have B9:=Fa (B1.o H.o);go_wp2;go_ret;exact⟨by rw[B9.o];rfl,rfl⟩
section
open Go.Shelf
attribute [local go_sem] Oper.semAt_some
variable {Bn:Nat}
def Jf (B:Nat) (w:wA) (a:Kd) (l:Kx):Prop:=∀k (h:k<Z l),∃g o,a=I ⟨g,o,O⟩/\g<B/\w.cell? ⟨g,o+k,O⟩=I (E yR l[k])
theorem Jf.aa {B:Nat} (h:Jf B w a l) (e:Below B w w'):Jf B w' a l:=fun k f=>by
 obtain⟨g,o,c,b,d⟩:=h k f;exact⟨g,o,c,b,(e.cell (p:=⟨g,_,O⟩) b).trans d⟩
theorem aC.toB (h:aC w a l):Jf w.heap.size w a l:=h
def vY (Bn B:Nat) (V V':wA):Prop:=qX Bn V V'/\Below B V V'
theorem vY.t {B:Nat} {X Y B1:wA} (h:vY Bn B X Y) (k:vY Bn B Y B1):vY Bn B X B1:=⟨h.1.t k.1,h.2.trans k.2⟩
theorem vY.b {B:Nat} (n:Bn<w.heap.size) (d:B<=w.heap.size) (V:wA) (l:Nat) (o o':Obj) (c:w.heap.size<=l) (h1:V.heap[l]? =I o) (h:o.isCells=x3) (a:o.isWalk=x3):vY Bn B V (V.putObj l o'):=
 ⟨qX.b n V l o o' c h1 h a,xY d V l o o' c h1 h a⟩
def pO (n k:Nat):Jp:=(List.range k).map fun j=>n - 1 - j
theorem Uu (n k:Nat):pO n (k+1)=pO n k++[n - 1 - k]:=by simp[pO,xZ]
theorem atu (n k:Nat):Z (pO n k)=k:=by simp[pO]
abbrev At (l:Kx):Type:= {i:Nat//i<Z l}
abbrev atV (l:Kx) (x:At l):Array Value:= #[E yR (x.1:Nat),E yR (l[x.1]'x.2)]
theorem att (n:Nat) (P:1<=n) (l Bn B:Nat) (a:Kd) (cap:Nat) (xs:Kx) (B2:Z xs<=140737488355328) (B6 c:List (At xs) ->wA ->Prop)
  (Y:∀p x V,B6 p V ->Z p<Z xs ->YieldAt Fence.wide (n - 1) prog l (atV xs x) V fun e V'=>
   (e=yk (zd xq)/\B6 (p++[x]) V'/\vY Bn B V V')∨(e=yk (zd x3)/\c (p++[x]) V'))
  (V:wA) (B7:AJ V ⟨Bn,0,O⟩=I (J a (Z xs) cap)) (d:Jf B V a xs) (h0:B6 [] V):
  CallsIn Fence.wide n prog 263 #[.func (.yield l) #[] #[],zZ (I ⟨Bn,0,O⟩)] V fun e V'=>(∃v,e=yk v)/\
   ((∃s:List (At xs),s.map (·.1)=pO (Z xs) (Z xs)/\B6 s V')∨(∃p:List (At xs),(∃k,k<=Z xs/\p.map (·.1)=pO (Z xs) k)/\c p V')):=by
 have q:=Fa d;clear d;refine JP func263 rfl trivial ?_ rfl;simp only[ntmps263,mX,dX,mo,Nat.reduceAdd,Nat.reduceSub,o8,o7,o6,oB,iH,gC];gi_wp2
 gi_loopw [3] (fun i wr=>∃(k:Nat) (p:List (At xs)),k<=Z xs/\i=E yR ((Z xs:Int) - 1 - (k:Int))/\we (p.map (·.1)=pO (Z xs) k)/\B6 p wr/\wr.cell? ⟨Bn,0,O⟩=I (J a (Z xs) cap)/\we (Jf B wr a xs))
  (fun i _=>(intOf i+1).toNat)
 case atStart=>exact⟨0,[],aX _,aE,rfl,h0,B7,q⟩
 case round=>
  obtain⟨k,p,M,rfl,H,f,t,b⟩:=hrel;by_cases T:k<Z xs
  ·have U:Z p=k:=by have:=eG List.length H.o;rwa [dm,atu] at this
   (have h:Z xs - 1 - k<Z xs:=al);obtain⟨fn,ad,ae,ab,y,R⟩:=Y p ⟨Z xs - 1 - k,h⟩ wr f al;obtain⟨g,o,rfl,L,K⟩:=b.o (Z xs - 1 - k) h;(have S:we ((p++[(⟨Z xs - 1 - k,h⟩:At xs)]).map (·.1)=pO (Z xs) (k+1)):=by show _=_;rw[gK,H.o,Uu];rfl);have m:=Fa R;clear R;rw[atV] at y;simp only at y;(have r:we ((Z xs:Int) - 1 - ((k+1:Nat):Int)=(Z xs:Int) - 1 - (k:Int) - 1):=by show _=_;omega);(have X:(Z xs:Int) - 1 - (k:Int)=((Z xs - 1 - k:Nat):Int):=al);rw[X];have z:=Fa X;clear X;have F:Z xs - 1 - k<Z xs:=h;generalize hEn:xs[Z xs - 1 - k]=Q at *;generalize ZW:Z xs - 1 - k=B9 at *;gi_wp2
   refine m.o.af ?_;rintro e W3 (⟨rfl,A,j⟩ |⟨rfl,D⟩)
   ·have B1:=Eq.trans j.1 t;have u:=b.o.aa j.2;gi_wp2
    go_roundw
    case rel=>exact⟨k+1,_,al,by rw[r.o,z.o],S,A,B1,u⟩
    case measure=>simp[intOf]
   ·gi_wp2
    refine cN (results_none rfl _ _ _) rfl ?_;exact⟨⟨_,rfl⟩,xS ⟨_,⟨k+1,al,S.o⟩,D⟩⟩
  ·obtain rfl:k=Z xs:=al
   (have w:(Z xs:Int) - 1 - (Z xs:Int)= -1:=al);rw[w];gi_wp2
   go_end0
   exact⟨⟨_,rfl⟩,yp ⟨_,H.o,f⟩⟩
end
open Go.Shelf
variable {K:Act ->wA ->Prop} {ops:Array Oper} {Q:Exit ->Act ->wA ->Prop} {md:Region.Mode}
def Ny (ops:Array Oper):Bool:=ops.all fun o=>match o.op with |.defer _=>x3 |_=>xq
theorem amS (h:Ny ops=xq) {o:Oper} (d:ops[i]? =I o):∀c,o.op≠.defer c:=by
 intro c e;rw[Ny,Array.all_eq_true] at h;obtain⟨b,a⟩:=c5.1 d;have:=h i b;rw[a,e] at this;cases this
theorem anH {l:Nat} {P:Program} (B7:Ny ops=xq) (t:¬LetsOut Q) {k:Act ->wA ->Prop} {a:Act} (b:∀a w,K a w ->k a w)
  (h:wpOp P ops Q i K a w):wpOpIn (Fence.wide.inRound l) n P ops Q i k a w:=by
 unfold wpOp at h;unfold wpOpIn;cases ho:ops[i]? with
 |none=>rw[ho] at h;exact b _ _ h
 |some o=>
  rw[ho] at h;simp only at h⊢;by_cases m:Region.wanted o (yielded ops a.tmps)=xq
  ·rw[aA m] at h⊢;rcases h with h |h
   ·refine⟨fun _ _=>trivial,?_⟩;rw[Oper.semAt_eq _ _ _ (amS B7 ho)];unfold Oper.wp at h;generalize (execOp a.eval o).run P w=r at *;cases r with
    |ok nx w'=>
     cases nx with
     |value v=>exact b _ _ h
     |skip=>exact b _ _ h
     |defer d=>exact b _ _ h
     |enter f args=>
      refine⟨fun g=>absurd g (show ¬Fence.wide.depth.isSome=xq by decide),(jg (n:=n - 1)).2 (Calls.af h ?_)⟩;intro e u j;cases e with
      |returned v=>exact b _ _ j
      |panicked c=>exact j
      |outgrown=>exact j
     |row r args=>exact⟨fun g=>absurd g (show ¬Fence.wide.depth.isSome=xq by decide),fun c p _=>let ⟨v,q,r,s⟩:=h c p;⟨v,q,b _ _ r,stepsIn_wide.2 s⟩⟩
     |_=>exact h.elim
    |halt hl w'=>
     cases hl with
     |panic v=>exact h
     |_=>exact h.elim
   ·exact absurd h.2 t
  ·rw[aD m] at h⊢;exact⟨fun _ _=>trivial,b _ _ h⟩
theorem aiG {l:Nat} {P:Program} (e:Ny ops=xq) (o:¬LetsOut Q):∀(fuel:Nat) (d:Array Bool) (a:Act) (w:wA),wpAny P md ops Q fuel d a w ->wpAnyIn (Fence.wide.inRound l) n P md ops Q fuel d a w
 |0,_,_,_,h=>h
 |fuel+1,_,_,_,h=>⟨h.1,fun i b=>anH e o (fun a w=>aiG e o fuel _ a w) (h.2 i b)⟩
theorem Bi {l id:Nat} {P:Program} {a:Act} (S:wA ->Prop) (m:P.follows .mixedOrders=xq) (e:Ny ops=xq) (o:¬LetsOut Q) (b:S w.drew)
  (h:S w.drew ->wpAnyH P .any ops Q S ops.size (Array.replicate ops.size x3) a w.drew):(Code.region id ops xq).wpIn (Fence.wide.inRound l) n P Q a w:=
 wpIn_region_any m (aiG e o _ _ _ _ (wpAny_of_held _ _ _ _ (h b)))
section
attribute [local go_sem] Oper.semAt_some
variable {S vs:Jp}
def I8 (S vs:Jp) (st:Nat×Jp) (i:Nat):Nat×Jp:=(st.1/sz S (vs.getD i 0),st.2.set i (st.1 % sz S (vs.getD i 0)))
def sS (S vs:Jp) (K n:Nat) (pre:Jp):Nat×Jp:=pre.foldl (I8 S vs) (K,List.replicate n 0)
theorem aiz (S vs:Jp) (K n:Nat) (e:Jp) (i:Nat):sS S vs K n (e++[i])=I8 S vs (sS S vs K n e) i:=by simp[sS]
theorem atz (S vs:Jp) (K n:Nat) (e:Jp):(sS S vs K n e).1<=K/\(sS S vs K n e).2.length=n:=by
 have k:∀(l:Jp) (s:Nat×Jp),s.1<=K ->s.2.length=n ->(l.foldl (I8 S vs) s).1<=K/\(l.foldl (I8 S vs) s).2.length=n:=by
  intro l;induction l with
  |nil=>intro s h a;exact⟨h,a⟩
  |cons i l ih=>
   intro s h a;exact ih _ (aO (AW _ _) h) (by simp[I8,a])
 exact k e _ (ak _) aE
theorem aiA (S vs:Jp) (K:Nat):∀m,m<=Z vs ->sS S vs K (Z vs) (pO (Z vs) m)=(K/cnt S (vs.drop (Z vs - m)),List.replicate (Z vs - m) 0++oQ S (vs.drop (Z vs - m)) (K % cnt S (vs.drop (Z vs - m))))
 |0,_=>by simp[sS,pO,cnt,oQ]
 |m+1,h=>by
  rw[Uu,aiz,aiA S vs K m al];have a:Z vs - 1 - m<Z vs:=al
  have e:Z vs - (m+1)=Z vs - 1 - m:=al
  have b:Z vs - m=(Z vs - 1 - m)+1:=al
  have d:vs.drop (Z vs - 1 - m)=vs[Z vs - 1 - m]::vs.drop ((Z vs - 1 - m)+1):=ri a;rw[e,b,d,I8,Gd a];generalize vs.drop ((Z vs - 1 - m)+1)=rest;generalize vs[Z vs - 1 - m]=v;generalize (Z vs) - 1 - m=j;simp only[cnt,oQ];rw[ae3,ae2,VM,eN (cnt S rest),List.replicate_succ',qj,Hj _ _ aE];simp
theorem atA {K:Nat} (h:K<cnt S vs):sS S vs K (Z vs) (pO (Z vs) (Z vs))=(0,oQ S vs K):=by
 rw[aiA S vs K _ (ak _),rT];simp[kM h,zk h]
theorem aaH (n:Nat) (a:Kd) (l cap:Nat) (w:wA):
  CallsIn Fence.wide n prog 216 #[J a l cap] w fun e w'=>e=yk (.func (.func 263) #[] #[zZ (I ⟨w.heap.size,0,O⟩)])/\w'=AC w (yd #[J a l cap] 27):=by
 refine JP func216 rfl trivial ?_ rfl;simp only[ntmps216,mX,dX,mo,Nat.reduceAdd,Nat.reduceSub,o8,o7,o6,oB,iH,gC];gi_wp2
 go_ret;exact⟨rfl,rfl⟩
theorem aaG (n:Nat) (f:1<=n) (Bn B:Nat) (a:Kd) (cap:Nat) (xs:Kx) (e:Z xs<=140737488355328) (w:wA) (B7:Bn<w.heap.size) (c:B<=w.heap.size) (d:AJ w ⟨Bn,0,O⟩=I (J a (Z xs) cap)) (g:Jf B w a xs):
  SeqStopsK Fence.wide n prog 263 #[zZ (I ⟨Bn,0,O⟩)] (atV xs) (vY Bn B) (fun s=>s.map (·.1)=pO (Z xs) (Z xs)) (fun r=>∃k,k<=Z xs/\r.map (·.1)=pO (Z xs) k) (Z xs) w:=fun l B6 x V h _ _ Y b=>
 att n f l Bn B a cap xs e B6 x Y V ((h.cell (p:=⟨Bn,0,O⟩) B7).trans d) (g.aa (h.af c)) b
theorem RB {β:Type} (g:Nat) (f:β ->Jp):Own (fun s W=>cZ W g (f s)):=fun s X Y w hs a r=>by
 refine(a.block g hs.lt fun e=>?_).trans hs;obtain⟨o,h,c⟩:=r g e.symm;rw[show X.heap[g]? =_ from hs] at h;cases h;cases c
theorem afd (w:wA) (n:Nat):cZ (AC w (yd (madeCells #[Value.int yR 0] n) 3)) w.heap.size (List.replicate n 0):=by
 have h:(madeCells #[Value.int yR 0] n).toList=(List.replicate n (0:Nat)).map iv:=by
  have:=KV n;rwa [rU,show (Value.int yR 0).cells= #[Value.int yR 0] from rfl] at this
 have e:madeCells #[Value.int yR 0] n=((List.replicate n (0:Nat)).map iv).toArray:=by rw[<- h]
 rw[cZ, <- e];exact dU _ _
theorem cZ.alloc {l:Jp} (h:cZ w g l) (o:Obj):cZ (w.alloc o) g l:=(uY w o g h.lt).trans h
theorem i6 {V:wA} {t:TypeId} {v:wQ} (h:Boxed V k t v) (b j:Nat) (y:wQ) (e:k≠b):Boxed (AF V ⟨b,j,O⟩ y) k t v:=(eO V ⟨b,j,O⟩ y k e).trans h
theorem cZ.off {V:wA} {l:Jp} (h:cZ V g l) (b j:Nat) (y:wQ) (e:g≠b):cZ (AF V ⟨b,j,O⟩ y) g l:=(eO V ⟨b,j,O⟩ y g e).trans h
end
section
attribute [local go_sem] Oper.semAt_some
variable {S:Jp}
def oH (S:Jp) (n:Nat) (vs:Jp):Jp:=(List.range n).map (dJ S vs)
theorem rX (S:Jp) (n:Nat) (vs:Jp):Z (oH S n vs)=n:=by simp[oH]
theorem akT (S:Jp) (n:Nat):oH S n []=List.replicate n 0:=by
 apply mZ<;>simp[oH,dJ]
theorem akV (S:Jp) (n u:Nat) (vs:Jp):(oH S n vs).set u (cnt S vs)=oH S n (u::vs):=by
 apply mZ
 ·simp[oH]
 ·intro i a b;simp only[oH,EX,mq,EY,dJ];by_cases e:u=i
  ·rw[aA e,aA e.symm]
  ·rw[aD e,aD (fun h=>e h.symm)]
theorem akU (S:Jp) (n:Nat) (vs:Jp) (h:v<n):(oH S n vs)[v]'(by rw[rX];exact h)=dJ S vs v:=by simp[oH]
def Fe (S vs:Jp) (st:Nat×Jp) (i:Nat):Nat×Jp:=(st.1*sz S (vs.getD i 0),st.2.set (vs.getD i 0) st.1)
def rY (S vs:Jp) (n:Nat) (pre:Jp):Nat×Jp:=pre.foldl (Fe S vs) (1,List.replicate n 0)
theorem acx (S vs:Jp) (n:Nat) (e:Jp) (i:Nat):rY S vs n (e++[i])=Fe S vs (rY S vs n e) i:=by simp[rY]
theorem acy (S vs:Jp) (n:Nat):∀m,m<=Z vs ->rY S vs n (pO (Z vs) m)=(cnt S (vs.drop (Z vs - m)),oH S n (vs.drop (Z vs - m)))
 |0,_=>by simp[rY,pO,cnt,akT]
 |m+1,h=>by
  rw[Uu,acx,acy S vs n m al];have j:Z vs - 1 - m<Z vs:=al
  have e:Z vs - (m+1)=Z vs - 1 - m:=al
  have a:Z vs - m=(Z vs - 1 - m)+1:=al
  have d:vs.drop (Z vs - 1 - m)=vs[Z vs - 1 - m]::vs.drop ((Z vs - 1 - m)+1):=ri j;rw[e,a,d,Fe,Gd j];simp only[cnt,akV];rw[eN]
theorem akW (hs:∀v,sz S v<=4) (vs:Jp) (n:Nat) (e:Jp):(rY S vs n e).1<=4^Z e/\(rY S vs n e).2.length=n:=by
 have k:∀(l:Jp) (s:Nat×Jp),s.2.length=n ->(l.foldl (Fe S vs) s).1<=s.1*4^Z l/\(l.foldl (Fe S vs) s).2.length=n:=by
  intro l;induction l with
  |nil=>intro s a;exact⟨aE,a⟩
  |cons i l ih=>
   intro s a;obtain⟨b,c⟩:=ih (Fe S vs s i) (by simp[Fe,a]);refine⟨aO b ?_,c⟩;show s.1*sz S (vs.getD i 0)*4^Z l<=s.1*4^(Z l+1);rw[jK,eN (4^Z l), <- ju];exact mn _ (mW _ (hs _))
 have h:=k e (1,List.replicate n 0) aE;rwa [lK] at h
theorem akX (S vs:Jp) (n:Nat):rY S vs n (pO (Z vs) (Z vs))=(cnt S vs,oH S n vs):=by
 rw[acy S vs n _ (ak _),rT,EZ]
theorem acz (a b:Kd) (ca cb:Nat) (Fb Fd:Kx) (w:wA) (hs:aC w a Fb) (hv:aC w b Fd) (R:fJ Fb) (T:Up Fd (Z Fb)):
  c6 214 #[J a (Z Fb) ca,J b (Z Fd) cb] w fun e w'=>∃(c cc:Nat),e=yk (J (I ⟨c,0,O⟩) (Z Fb) cc)/\w.heap.size<=c/\aC w' (I ⟨c,0,O⟩) (iL (oH (ag Fb) (Z Fb) (ag Fd)))/\da w w':=by
 refine(jg (n:=6)).1 ?_;have tJ:=R.eight;have gM:=T.length;have ay:cnt (ag Fb) (ag Fd)<=65536:=xC R.sz_le (by rw[gG];omega);have ax:=fun V=>QJ (P:=prog) 27 3 (E yR 0) 8 underlying27 Tryz.infoInt rfl yR yR (Z Fb) al al V;have HS:=Fa hs;have HV:=Fa hv;have q:=Fa R;have mg:=Fa T;have xV:=Fa (akX (ag Fb) (ag Fd) (Z Fb));rw[gG] at xV;clear hs hv R T;refine wF func214 rfl trivial ?_ rfl;simp only[ntmps214,mX,dX,mo,Nat.reduceAdd,Nat.reduceSub,o8,o7,o6,oB,iH,gC];gi_wp2_with ((refine⟨trivial,?_⟩;gi_at_call 216;refine(aaH _ _ _ _ _).af ?_;rintro e w2 ⟨rfl,rfl⟩))
 obtain⟨f,g⟩:∃f,f=(AC (AC (AC (AC (AC w (yd #[J a (Z Fb) ca] 27)) (yd #[E yR 1] 3)) (yd (madeCells #[E yR 0] (Z Fb)) 3)) (yd #[J (I ⟨w.heap.size+1+1,0,O⟩) (Z Fb) (Z Fb)] 27)) (yd #[J b (Z Fd) cb] 27)):=⟨_,rfl⟩;have BL:f.heap.size=w.heap.size+1+1+1+1+1:=by rw[g];simp
 have b0:Boxed f w.heap.size 27 (J a (Z Fb) ca):=by rw[g];exact((((bE w _ _).alloc _).alloc _).alloc _).alloc _
 have b1:Boxed f (w.heap.size+1) 3 (E yR 1):=by
  have h:=((((bE (AC w (yd #[J a (Z Fb) ca] 27)) 3 (E yR 1)).alloc (yd (madeCells #[E yR 0] (Z Fb)) 3)).alloc (yd #[J (I ⟨w.heap.size+1+1,0,O⟩) (Z Fb) (Z Fb)] 27)).alloc (yd #[J b (Z Fd) cb] 27));rw[eW] at h;rw[g];exact h
 have r2:cZ f (w.heap.size+1+1) (List.replicate (Z Fb) 0):=by
  have h:=((afd (AC (AC w (yd #[J a (Z Fb) ca] 27)) (yd #[E yR 1] 3)) (Z Fb)).alloc (yd #[J (I ⟨w.heap.size+1+1,0,O⟩) (Z Fb) (Z Fb)] 27)).alloc (yd #[J b (Z Fd) cb] 27);rw[eW,eW] at h;rw[g];exact h
 have b3:Boxed f (w.heap.size+1+1+1) 27 (J (I ⟨w.heap.size+1+1,0,O⟩) (Z Fb) (Z Fb)):=by
  have h:=(bE (AC (AC (AC w (yd #[J a (Z Fb) ca] 27)) (yd #[E yR 1] 3)) (yd (madeCells #[E yR 0] (Z Fb)) 3)) 27 (J (I ⟨w.heap.size+1+1,0,O⟩) (Z Fb) (Z Fb))).alloc (yd #[J b (Z Fd) cb] 27);rw[eW,eW,eW] at h;rw[g];exact h
 have X:Boxed f (w.heap.size+1+1+1+1) 27 (J b (Z Fd) cb):=by
  have h:=bE (AC (AC (AC (AC w (yd #[J a (Z Fb) ca] 27)) (yd #[E yR 1] 3)) (yd (madeCells #[E yR 0] (Z Fb)) 3)) (yd #[J (I ⟨w.heap.size+1+1,0,O⟩) (Z Fb) (Z Fb)] 27)) 27 (J b (Z Fd) cb);rw[eW,eW,eW,eW] at h;rw[g];exact h
 have ad:da w f:=by
  rw[g];exact(((((aw _ w).alloc (ak _) _).alloc aE _).alloc (by simp;omega) _).alloc (by simp;omega) _).alloc (by simp;omega) _
 rw[<- g];clear g
 refine QI (α:=At Fd) rfl al (gf:=263) (lb:= #[zZ (I ⟨w.heap.size+1+1+1+1,0,O⟩)]) rfl trivial (enters_of func263 ao rfl)
  (aaG 5 al (w.heap.size+1+1+1+1) w.heap.size b cb Fd al f al al X.cell (HV.o.toB.aa ad)) vY.t (vY.b al al) (aw _ _) (fun _=>rfl)
  (fun (d:List (At Fd)) V=>Boxed V w.heap.size 27 (J a (Z Fb) ca)/\Boxed V (w.heap.size+1) 3 (E yR ((rY (ag Fb) (ag Fd) (Z Fb) (d.map (·.1))).1:Nat))/\cZ V (w.heap.size+1+1) (rY (ag Fb) (ag Fd) (Z Fb) (d.map (·.1))).2/\Boxed V (w.heap.size+1+1+1) 27 (J (I ⟨w.heap.size+1+1,0,O⟩) (Z Fb) (Z Fb))/\Boxed V (w.heap.size+1+1+1+1) 27 (J b (Z Fd) cb)/\da w V)
  (fun _ _ _=>False)
  (gJ (iF (kL _ _ (fun _=>_)) _) (gJ (iF (kL _ _ (fun d:List (At Fd)=>E yR ((rY (ag Fb) (ag Fd) (Z Fb) (d.map (·.1))).1:Nat))) _) (gJ (iF (RB _ (fun d:List (At Fd)=>(rY (ag Fb) (ag Fd) (Z Fb) (d.map (·.1))).2)) _) (gJ (iF (kL _ _ (fun _=>_)) _) (gJ (iF (kL _ _ (fun _=>_)) _) (CO (ak _) al))))))
  (fun _ _ _ _ _ hs _ _=>hs)
  ⟨b0,b1,r2,b3,X,ad⟩
  (fun x=> {tmps:= #[J a (Z Fb) ca,J b (Z Fd) cb,zZ (I ⟨w.heap.size,0,O⟩),wd,J O 0 0,zZ (I ⟨w.heap.size+1,0,O⟩),zZ (I ⟨w.heap.size+1+1+1,0,O⟩),wd,E yR (Fd[x.1]'x.2),J a (Z Fb) ca,E yR (Z Fb:Nat),J (I ⟨w.heap.size+1+1,0,O⟩) (Z Fb) (Z Fb),J b (Z Fd) cb,.func (.func 263) #[] #[zZ (I ⟨w.heap.size+1+1+1+1,0,O⟩)],E yR (x.1:Nat),E yR (Fd[x.1]'x.2),wd,wd,wd,wd,wd,wd,wd,wd,wd,wd,wd],defers:=[]}) ?assign ?body ?done ?stop
 case assign=>
  intro l x V K y;gi_wp2
  exact y
 case body=>
  rintro l d ⟨i,H⟩ V ⟨Y,B9,k,m,B1,F⟩ aZ;obtain⟨kQ,iJ⟩:=mg.o.nat H
  have ab:we (rY (ag Fb) (ag Fd) (Z Fb) ((d++[(⟨i,H⟩:At Fd)]).map (·.1))=((rY (ag Fb) (ag Fd) (Z Fb) (d.map (·.1))).1*sz (ag Fb) Fd[i].toNat,(rY (ag Fb) (ag Fd) (Z Fb) (d.map (·.1))).2.set Fd[i].toNat (rY (ag Fb) (ag Fd) (Z Fb) (d.map (·.1))).1)):=by
   show _=_;rw[gK,fR,om,acx,Fe,Gd (show i<Z (ag Fd) by rw[gG];exact H),wO H]
  obtain⟨lu,an⟩:=akW q.o.sz_le (ag Fd) (Z Fb) (d.map (·.1));have aj:(4:Nat)^Z (d.map (·.1))<=16384:=aO (lJ al (show Z (d.map (·.1))<=7 by rw[dm];omega)) a6;have ae:=aO lu aj;have hz:=jM q.o.pos Fd[i].toNat;have KY:=q.o.sz_le Fd[i].toNat;clear lu aj;generalize hV:Fd[i].toNat=v at *;rw[<- kQ];obtain⟨g',o',rfl,iA,c1⟩:=(HS.o.aa F) v iJ;rw[<- q.o.sz_eq iJ] at c1
  have aJ:g'<w.heap.size:=by
   obtain⟨g3,o3,e3,m,_⟩:=HS.o v iJ;cases e3;exact m
  clear kQ hV;generalize rY (ag Fb) (ag Fd) (Z Fb) (d.map (·.1))=st at *;obtain⟨p,Q⟩:=st;simp only at B9 k ae an ab;generalize sz (ag Fb) v=s at *;have bb:=k.cell v al;have az:=k.fz v;have k0:=Y.cell;have k1:=B9.cell;have k3:=m.cell;have fC:p*s<=65536:=aO (ld ae KY) a6;have B2:(p:Int)*(s:Int)=((p*s:Nat):Int):=(ng _ _).symm;have lU:v<Z Q:=al
  generalize Q[v]=z at *;have a1:IntKind.i64.wrap ((p:Int)*(s:Int))=(p:Int)*(s:Int):=by rw[B2,jx];omega
  have aq:=Fa B2;clear B2 ax b0 b1 r2 b3 X ad BL xV mg q HV ay an;gi_wp2_with fail
  have ai:∀(b j:Nat),¬w.heap.size+1+1=b ->AJ (AF V ⟨w.heap.size+1+1,v,O⟩ (E yR (p:Int))) ⟨b,j,O⟩=AJ V ⟨b,j,O⟩:=fun b j hb=>gg _ _ _ _ (fun e=>hb (by cases e;rfl));have m2:=(ai g' (o'+v) al).trans c1;have q0:Boxed (AF V ⟨w.heap.size+1+1,v,O⟩ (E yR (p:Int))) w.heap.size 27 (J (I ⟨g',o',O⟩) (Z Fb) ca):=i6 Y _ v _ al;have q1:Boxed (AF V ⟨w.heap.size+1+1,v,O⟩ (E yR (p:Int))) (w.heap.size+1) 3 (E yR (p:Nat)):=i6 B9 _ v _ al;have q3:Boxed (AF V ⟨w.heap.size+1+1,v,O⟩ (E yR (p:Int))) (w.heap.size+1+1+1) 27 (J (I ⟨w.heap.size+1+1,0,O⟩) (Z Fb) (Z Fb)):=i6 m _ v _ al;have B7:Boxed (AF V ⟨w.heap.size+1+1,v,O⟩ (E yR (p:Int))) (w.heap.size+1+1+1+1) 27 (J b (Z Fd) cb):=i6 B1 _ v _ al;have q2:cZ (AF V ⟨w.heap.size+1+1,v,O⟩ (E yR (p:Int))) (w.heap.size+1+1) (Q.set v p):=k.set v p;have qB:da w (AF V ⟨w.heap.size+1+1,v,O⟩ (E yR (p:Int))):=F.setCell (p:=⟨w.heap.size+1+1,v,O⟩) (by simp;omega) _;have qK:Below w.heap.size V (AF V ⟨w.heap.size+1+1,v,O⟩ (E yR (p:Int))):=(aw w.heap.size V).setCell (p:=⟨w.heap.size+1+1,v,O⟩) (by simp;omega) _;have qO:KeepsOthers V (AF V ⟨w.heap.size+1+1,v,O⟩ (E yR (p:Int))):=kh V _ _;have j4:qX (w.heap.size+1+1+1+1) V (AF V ⟨w.heap.size+1+1,v,O⟩ (E yR (p:Int))):=B7.cell.trans B1.cell.symm;have m0:=q0.cell
  have m1:=q1.cell;have fU:=q1.frozen;clear ai;generalize (AF V ⟨w.heap.size+1+1,v,O⟩ (E yR (p:Int)))=U at *;refine Bi (fun u=>AJ u ⟨w.heap.size,0,O⟩=I (J (I ⟨g',o',O⟩) (Z Fb) ca)/\u.cell? ⟨g',o'+v,O⟩=I (E yR (s:Nat))) ao ao (fun ⟨_,_,h⟩=>h) ⟨m0,m2⟩ ?_;intro ar;refine dt 1 (J (I ⟨g',o',O⟩) (Z Fb) ca) ?_ ?_
  ·intro u M;obtain⟨B6,L⟩:=M;simp only[gE];go_simp
  simp only[gE,aP];refine dt 2 (E yR (v:Nat)) ?_ ?_
  ·intro u M;obtain⟨B6,L⟩:=M;simp only[gE];go_simp
  simp only[gE,aP];refine dt 3 (zZ (I ⟨g',o'+v,O⟩)) ?_ ?_
  ·intro u M;obtain⟨B6,L⟩:=M;simp only[gE];go_simp
  simp only[gE,aP];refine dt 4 (E yR (s:Nat)) ?_ ?_
  ·intro u M;obtain⟨B6,L⟩:=M;simp only[gE];go_simp
  simp only[gE,aP];refine aG [0] (cA ?_ aH);intro S A;simp only[gE];go_simp;refine A.o _ _ ar (fun _=>?_);clear A S;refine dt 5 (E yR ((p:Int)*(s:Int))) ?_ ?_
  ·intro u M;obtain⟨B6,L⟩:=M;simp only[gE];go_simp
  simp only[gE,aP];refine aG [6] (cA ?_ aH);intro S A;simp only[gE];go_simp;refine A.o _ _ ⟨(i6 q0 (w.heap.size+1) 0 _ al).cell,(gg _ _ _ _ (fun e=>(show ¬w.heap.size+1=g' by omega) (eG Addr.block e))).trans m2⟩ (fun _=>eV ao ?_ _);clear A S ar;gi_wp2
  rw[aq.o];refine⟨(qO.trans ((kh U _ _).trans (CU _))).from _,⟨j4.t ((i6 B7 (w.heap.size+1) 0 (E yR ((p*s:Nat):Int)) al).cell.trans B7.cell.symm),(qK.setCell (p:=⟨w.heap.size+1,0,O⟩) aE _).drew⟩,?_⟩;refine⟨i6 q0 _ 0 _ al,?_,?_,i6 q3 _ 0 _ al,i6 B7 _ 0 _ al,(qB.setCell (p:=⟨w.heap.size+1,0,O⟩) aE _).drew⟩
  ·rw[ab.o];exact q1.set _
  ·rw[ab.o];exact q2.off _ 0 _ al
 case done=>
  rintro D ys V hD Fv ⟨Y,B9,k,m,B1,F⟩ y;rw[Fv,xV.o] at k;have hc:=m.cell;gi_wp2
  refine⟨aE,yp ⟨_,_,rfl,CM y,?_⟩⟩;refine⟨_,CN rfl _ _ _,?_⟩;refine⟨w.heap.size+1+1,⟨Z Fb,rfl⟩,al,?_,F.trans (xY (w:=w) (ak _) V D _ _ al y rfl rfl)⟩;have av:cZ (V.putObj D (.deferred O)) (w.heap.size+1+1) (oH (ag Fb) (Z Fb) (ag Fd)):=RB (w.heap.size+1+1) (fun (_:Unit)=>oH (ag Fb) (Z Fb) (ag Fd)) () V _ (I D) k (grownBy_putObj' V D _) (fun r e=>by cases e;exact⟨_,y,rfl⟩);exact av.ints
 case stop=>
  rintro D c d V _ _ h _;exact h.elim
end
section
attribute [local go_sem] Oper.semAt_some
variable {S vs:Jp}
def Hu (S vs ts:Jp) (st:Nat×Nat) (i:Nat):Nat×Nat:=(st.1/sz S (vs.getD i 0),st.2+st.1 % sz S (vs.getD i 0)*ts.getD (vs.getD i 0) 0)
def rZ (S vs ts:Jp) (K:Nat) (pre:Jp):Nat×Nat:=pre.foldl (Hu S vs ts) (K,0)
theorem acA (S vs s:Jp) (K:Nat) (e:Jp) (i:Nat):rZ S vs s K (e++[i])=Hu S vs s (rZ S vs s K e) i:=by simp[rZ]
theorem akY (p:Pos S) (hs:∀v,sz S v<=4) (vs t:Jp) (c:∀v,t.getD v 0<=65536) (K:Nat) (e:Jp):(rZ S vs t K e).1<=K/\(rZ S vs t K e).2<=262144*Z e:=by
 have k:∀(l:Jp) (s:Nat×Nat),(l.foldl (Hu S vs t) s).1<=s.1/\(l.foldl (Hu S vs t) s).2<=s.2+262144*Z l:=by
  intro l;induction l with
  |nil=>intro s;exact⟨ak _,aE⟩
  |cons i l ih=>
   intro s;obtain⟨a,b⟩:=ih (Hu S vs t s i);refine⟨aO a (AW _ _),aO b ?_⟩;have d:=jh s.1 (show 0<sz S (vs.getD i 0) from jM p _);have f:s.1 % sz S (vs.getD i 0)*t.getD (vs.getD i 0) 0<=4*65536:=ld (by have:=hs (vs.getD i 0);omega) (c _);show s.2+s.1 % sz S (vs.getD i 0)*t.getD (vs.getD i 0) 0+_<=_;rw[dX];omega
 have h:=k e (K,0);rwa [bK] at h
theorem acB (n:vs.Nodup) (s:Jp) (K:Nat):∀m,m<=Z vs ->rZ S vs s K (pO (Z vs) m)=(K/cnt S (vs.drop (Z vs - m)),gS (fun v=>aY S (vs.drop (Z vs - m)) (K % cnt S (vs.drop (Z vs - m))) v*s.getD v 0) (vs.drop (Z vs - m)))
 |0,_=>by simp[rZ,pO,cnt,gS]
 |m+1,h=>by
  rw[Uu,acA,acB n s K m al];have j:Z vs - 1 - m<Z vs:=al
  have a:Z vs - (m+1)=Z vs - 1 - m:=al
  have b:Z vs - m=(Z vs - 1 - m)+1:=al
  have d:vs.drop (Z vs - 1 - m)=vs[Z vs - 1 - m]::vs.drop ((Z vs - 1 - m)+1):=ri j;have B7:(vs.drop (Z vs - 1 - m)).Nodup:=n.sublist (List.drop_sublist _ _);rw[d,mY] at B7;rw[a,b,d,Hu,Gd j];generalize vs.drop ((Z vs - 1 - m)+1)=rest at B7⊢;generalize vs[Z vs - 1 - m]=u at B7⊢;simp only[aty];rw[cnt,VM,eN (cnt S rest),gS,aA rfl,ET];congr 2
  refine Km fun v c=>?_;rw[aD (fun e=>B7.1 (by rw[<- e];exact c))]
theorem akZ (n:vs.Nodup) (s:Jp) {K:Nat} (h:K<cnt S vs):rZ S vs s K (pO (Z vs) (Z vs))=(0,gS (fun v=>aY S vs K v*s.getD v 0) vs):=by
 rw[acB n s K _ (ak _),rT,EZ,kM h,zk h]
theorem ak1 (Y F B7:Nat) (a b t:Kd) (ca cb ct:Nat) (Fb Fd:Kx) (s:Jp) (K:Nat) (w:wA) (Lu:Y<w.heap.size) (Ah:F<w.heap.size) (xw:B7<w.heap.size) (xv:AJ w ⟨Y,0,O⟩=I (J b (Z Fd) cb)) (xs:AJ w ⟨F,0,O⟩=I (J a (Z Fb) ca)) (xt:AJ w ⟨B7,0,O⟩=I (J t (Z Fb) ct))
  (hs:aC w a Fb) (hv:aC w b Fd) (ht:aC w t (iL s)) (nG:Z s=Z Fb) (B1:∀v,s.getD v 0<=65536) (aR:fJ Fb) (aW:Up Fd (Z Fb)) (P:K<cnt (ag Fb) (ag Fd)) (eI:(ag Fd).Nodup):
  c6 215 #[E yR (K:Nat),zZ (I ⟨Y,0,O⟩),zZ (I ⟨F,0,O⟩),zZ (I ⟨B7,0,O⟩)] w (dj w (E yR (gS (fun v=>aY (ag Fb) (ag Fd) K v*s.getD v 0) (ag Fd):Nat))):=by
 refine(jg (n:=6)).1 ?_;have tJ:=aR.eight;have gM:=aW.length;have an:cnt (ag Fb) (ag Fd)<=65536:=xC aR.sz_le (by rw[gG];omega);have HS:=Fa hs;have HV:=Fa hv;have HT:=Fa ht;have R:=Fa aR;have mg:=Fa aW;have eL:=Fa B1;have xV:=Fa (akZ eI s P);rw[gG] at xV;clear hs hv aR aW ht B1;refine wF func215 rfl trivial ?_ rfl;simp only[ntmps215,mX,dX,mo,Nat.reduceAdd,Nat.reduceSub,o8,o7,o6,oB,iH,gC];gi_wp2_with ((refine⟨trivial,?_⟩;gi_at_call 216;refine(aaH _ _ _ _ _).af ?_;rintro e w2 ⟨rfl,rfl⟩))
 obtain⟨H,Q⟩:∃H,H=(AC (AC (AC w (yd #[E yR (K:Nat)] 3)) (yd #[E yR 0] 3)) (yd #[J b (Z Fd) cb] 27)):=⟨_,rfl⟩;have BL:H.heap.size=w.heap.size+1+1+1:=by rw[Q];simp
 have b0:Boxed H w.heap.size 3 (E yR (K:Nat)):=by rw[Q];exact((bE w _ _).alloc _).alloc _
 have b1:Boxed H (w.heap.size+1) 3 (E yR 0):=by
  have h:=(bE (AC w (yd #[E yR (K:Nat)] 3)) 3 (E yR 0)).alloc (yd #[J b (Z Fd) cb] 27);rw[eW] at h;rw[Q];exact h
 have b4:Boxed H (w.heap.size+1+1) 27 (J b (Z Fd) cb):=by
  have h:=bE (AC (AC w (yd #[E yR (K:Nat)] 3)) (yd #[E yR 0] 3)) 27 (J b (Z Fd) cb);rw[eW,eW] at h;rw[Q];exact h
 have ae:da w H:=by
  rw[Q];exact(((aw _ w).alloc (ak _) _).alloc aE _).alloc (by simp;omega) _
 rw[<- Q];clear Q
 refine QI (α:=At Fd) rfl al (gf:=263) (lb:= #[zZ (I ⟨w.heap.size+1+1,0,O⟩)]) rfl trivial (enters_of func263 ao rfl)
  (aaG 5 al (w.heap.size+1+1) w.heap.size b cb Fd al H al al b4.cell (HV.o.toB.aa ae)) vY.t (vY.b al al) (aw _ _) (fun _=>rfl)
  (fun (q:List (At Fd)) V=>Boxed V w.heap.size 3 (E yR ((rZ (ag Fb) (ag Fd) s K (q.map (·.1))).1:Nat))/\Boxed V (w.heap.size+1) 3 (E yR ((rZ (ag Fb) (ag Fd) s K (q.map (·.1))).2:Nat))/\Boxed V (w.heap.size+1+1) 27 (J b (Z Fd) cb)/\da w V)
  (fun _ _ _=>False)
  (gJ (iF (kL _ _ (fun q:List (At Fd)=>E yR ((rZ (ag Fb) (ag Fd) s K (q.map (·.1))).1:Nat))) _) (gJ (iF (kL _ _ (fun q:List (At Fd)=>E yR ((rZ (ag Fb) (ag Fd) s K (q.map (·.1))).2:Nat))) _) (gJ (iF (kL _ _ (fun _=>_)) _) (CO (ak _) al))))
  (fun _ _ _ _ _ hs _ _=>hs)
  ⟨b0,b1,b4,ae⟩
  (fun x=> {tmps:= #[E yR (K:Nat),zZ (I ⟨Y,0,O⟩),zZ (I ⟨F,0,O⟩),zZ (I ⟨B7,0,O⟩),zZ (I ⟨w.heap.size,0,O⟩),E yR 0,zZ (I ⟨w.heap.size+1,0,O⟩),wd,E yR (Fd[x.1]'x.2),J b (Z Fd) cb,.func (.func 263) #[] #[zZ (I ⟨w.heap.size+1+1,0,O⟩)],E yR (x.1:Nat),E yR (Fd[x.1]'x.2),wd,wd,wd,wd,wd,wd,wd,wd,wd,wd,wd,wd,wd,wd,wd,wd,wd,wd,wd,wd],defers:=[]}) ?assign ?body ?done ?stop
 case assign=>
  intro l x V K P;gi_wp2
  exact P
 case body=>
  rintro l q ⟨i,hi⟩ V ⟨h0,L,h4,B2⟩ ay;obtain⟨kQ,iJ⟩:=mg.o.nat hi
  have ad:we (rZ (ag Fb) (ag Fd) s K ((q++[(⟨i,hi⟩:At Fd)]).map (·.1))=((rZ (ag Fb) (ag Fd) s K (q.map (·.1))).1/sz (ag Fb) Fd[i].toNat,(rZ (ag Fb) (ag Fd) s K (q.map (·.1))).2+(rZ (ag Fb) (ag Fd) s K (q.map (·.1))).1 % sz (ag Fb) Fd[i].toNat*s.getD Fd[i].toNat 0)):=by
   show _=_;rw[gK,fR,om,acA,Hu,Gd (show i<Z (ag Fd) by rw[gG];exact hi),wO hi]
  obtain⟨lu,ai⟩:=akY R.o.pos R.o.sz_le (ag Fd) s eL.o K (q.map (·.1));rw[dm] at ai;have hz:=jM R.o.pos Fd[i].toNat;have KY:=R.o.sz_le Fd[i].toNat;have B1:=eL.o Fd[i].toNat;generalize hV:Fd[i].toNat=v at *;rw[<- kQ];obtain⟨g',o',rfl,iA,c1⟩:=(HS.o.aa B2) v iJ;rw[<- R.o.sz_eq iJ] at c1
  have ax:g'<w.heap.size:=by
   obtain⟨g3,o3,e3,h3,_⟩:=HS.o v iJ;cases e3;exact h3
  have Iu:v<Z (iL s):=by rw[bM];omega
  obtain⟨gt,X,rfl,av,c2⟩:=(HT.o.aa B2) v Iu
  have aq:gt<w.heap.size:=by
   obtain⟨g3,o3,e3,h3,_⟩:=HT.o v Iu;cases e3;exact h3
  have N5:(iL s)[v]=((s.getD v 0:Nat):Int):=by rw[Gd al];simp[iL]
  rw[N5] at c2;clear N5 kQ hV;generalize rZ (ag Fb) (ag Fd) s K (q.map (·.1))=st at *;obtain⟨p,r⟩:=st;simp only at h0 L lu ai ad;generalize sz (ag Fb) v=f at *;generalize s.getD v 0=d at *;have k0:=h0.cell;have k1:=L.cell;have ks:=(B2.cell (p:=⟨F,0,O⟩) Ah).trans xs;have kt:=(B2.cell (p:=⟨B7,0,O⟩) xw).trans xt;have f1:=L.frozen;have ry:(p:Int) % (f:Int)=((p % f:Nat):Int):=(wK _ _).symm;have nI:(p:Int)/(f:Int)=((p/f:Nat):Int):=(A3 _ _).symm;have aj:p % f<=3:=by have:=jh p (show 0<f by omega);omega
  have bA:p/f<=65536:=aO (AW _ _) al;generalize p % f=m at *;generalize p/f=dd at *;have YZ:m*d<=196608:=aO (ld aj B1) a6;have ab:(m:Int)*(d:Int)=((m*d:Nat):Int):=(ng _ _).symm;have az:IntKind.i64.wrap ((p:Int)/(f:Int))=(p:Int)/(f:Int):=by rw[nI,jx];omega
  have aJ:IntKind.i64.wrap ((m:Int)*(d:Int))=(m:Int)*(d:Int):=by rw[ab,jx];omega
  have aZ:IntKind.i64.wrap ((r:Int)+(m:Int)*(d:Int))=(r:Int)+(m:Int)*(d:Int):=by rw[ab,jx];omega
  have yU:=Fa ry;have tX:=Fa nI;have iV:we ((r:Int)+(m:Int)*(d:Int)=((r+m*d:Nat):Int)):=by show _=_;rw[ab];exact(E0 _ _).symm
  clear ry nI ab b0 b1 b4 ae BL xV mg R HV eL an P;gi_wp2_with fail
  refine Bi (fun u=>AJ u ⟨w.heap.size,0,O⟩=I (E yR (p:Nat))/\u.cell? ⟨F,0,O⟩=I (J (I ⟨g',o',O⟩) (Z Fb) ca)/\u.cell? ⟨g',o'+v,O⟩=I (E yR (f:Nat))/\u.cell? ⟨B7,0,O⟩=I (J (I ⟨gt,X,O⟩) (Z Fb) ct)/\u.cell? ⟨gt,X+v,O⟩=I (E yR (d:Nat))) ao ao (fun ⟨_,_,h⟩=>h) ⟨k0,ks,c1,kt,c2⟩ ?_;intro T;refine dt 1 (E yR (p:Nat)) ?_ ?_
  ·intro u M;obtain⟨y,z,g,k,A⟩:=M;simp only[gE];go_simp
  simp only[gE,aP];refine dt 2 (J (I ⟨g',o',O⟩) (Z Fb) ca) ?_ ?_
  ·intro u M;obtain⟨y,z,g,k,A⟩:=M;simp only[gE];go_simp
  simp only[gE,aP];refine dt 3 (E yR (v:Nat)) ?_ ?_
  ·intro u M;obtain⟨y,z,g,k,A⟩:=M;simp only[gE];go_simp
  simp only[gE,aP];refine dt 4 (zZ (I ⟨g',o'+v,O⟩)) ?_ ?_
  ·intro u M;obtain⟨y,z,g,k,A⟩:=M;simp only[gE];go_simp
  simp only[gE,aP];refine dt 5 (E yR (f:Nat)) ?_ ?_
  ·intro u M;obtain⟨y,z,g,k,A⟩:=M;simp only[gE];go_simp
  simp only[gE,aP];refine dt 6 (E yR (m:Nat)) ?_ ?_
  ·intro u M;obtain⟨y,z,g,k,A⟩:=M;simp only[gE];go_simp;rw[aD (show ¬f=0 by omega),Int.tmod_eq_emod_of_nonneg (Q7 _),yU.o]
  simp only[gE,aP];refine dt 7 (J (I ⟨gt,X,O⟩) (Z Fb) ct) ?_ ?_
  ·intro u M;obtain⟨y,z,g,k,A⟩:=M;simp only[gE];go_simp
  simp only[gE,aP];refine dt 8 (E yR (v:Nat)) ?_ ?_
  ·intro u M;obtain⟨y,z,g,k,A⟩:=M;simp only[gE];go_simp
  simp only[gE,aP];refine dt 9 (zZ (I ⟨gt,X+v,O⟩)) ?_ ?_
  ·intro u M;obtain⟨y,z,g,k,A⟩:=M;simp only[gE];go_simp
  simp only[gE,aP];refine dt 10 (E yR (d:Nat)) ?_ ?_
  ·intro u M;obtain⟨y,z,g,k,A⟩:=M;simp only[gE];go_simp
  simp only[gE,aP];refine dt 11 (E yR ((m:Int)*(d:Int))) ?_ ?_
  ·intro u M;obtain⟨y,z,g,k,A⟩:=M;simp only[gE];go_simp
  simp only[gE,aP];refine aG [0] (cA ?_ aH);intro B6 B9;simp only[gE];go_simp;refine B9.o _ _ T (fun _=>?_);clear B9 B6;refine dt 12 (E yR ((r:Int)+(m:Int)*(d:Int))) ?_ ?_
  ·intro u M;obtain⟨y,z,g,k,A⟩:=M;simp only[gE];go_simp
  simp only[gE,aP];refine aG [13] (cA ?_ aH);intro B6 B9;simp only[gE];go_simp;have S:∀(b j:Nat),¬w.heap.size+1=b ->(AF V ⟨w.heap.size+1,0,O⟩ (E yR ((r:Int)+(m:Int)*(d:Int)))).drew.cell? ⟨b,j,O⟩=AJ V ⟨b,j,O⟩:=fun b j hb=>gg _ _ _ _ (fun e=>hb (by cases e;rfl));have m0:=(S w.heap.size 0 al).trans k0;have ms:=(S F 0 al).trans ks;have mc:=(S g' (o'+v) al).trans c1;refine B9.o _ _ ⟨m0,ms,mc,(S B7 0 al).trans kt,(S gt (X+v) al).trans c2⟩ (fun _=>eV ao ?_ _);clear B9 B6 T S;have q0:Boxed (AF V ⟨w.heap.size+1,0,O⟩ (E yR ((r:Int)+(m:Int)*(d:Int)))).drew w.heap.size 3 (E yR (p:Nat)):=i6 h0 _ 0 _ al;have q1:Boxed (AF V ⟨w.heap.size+1,0,O⟩ (E yR ((r:Int)+(m:Int)*(d:Int)))).drew (w.heap.size+1) 3 (E yR ((r:Int)+(m:Int)*(d:Int))):=L.set _;have q4:Boxed (AF V ⟨w.heap.size+1,0,O⟩ (E yR ((r:Int)+(m:Int)*(d:Int)))).drew (w.heap.size+1+1) 27 (J b (Z Fd) cb):=i6 h4 _ 0 _ al;have qB:da w (AF V ⟨w.heap.size+1,0,O⟩ (E yR ((r:Int)+(m:Int)*(d:Int)))).drew:=(B2.setCell (p:=⟨w.heap.size+1,0,O⟩) aE _).drew;have qK:Below w.heap.size V (AF V ⟨w.heap.size+1,0,O⟩ (E yR ((r:Int)+(m:Int)*(d:Int)))).drew:=((aw w.heap.size V).setCell (p:=⟨w.heap.size+1,0,O⟩) aE _).drew
  have qO:KeepsOthers V (AF V ⟨w.heap.size+1,0,O⟩ (E yR ((r:Int)+(m:Int)*(d:Int)))).drew:=(kh V _ _).trans (CU _);have j4:qX (w.heap.size+1+1) V (AF V ⟨w.heap.size+1,0,O⟩ (E yR ((r:Int)+(m:Int)*(d:Int)))).drew:=q4.cell.trans h4.cell.symm;have fU:=q0.frozen;generalize (AF V ⟨w.heap.size+1,0,O⟩ (E yR ((r:Int)+(m:Int)*(d:Int)))).drew=U at *;gi_wp2_with fail
  refine Bi (fun u=>AJ u ⟨F,0,O⟩=I (J (I ⟨g',o',O⟩) (Z Fb) ca)/\u.cell? ⟨g',o'+v,O⟩=I (E yR (f:Nat))) ao ao (fun ⟨_,_,h⟩=>h) ⟨ms,mc⟩ ?_;intro T;refine dt 1 (J (I ⟨g',o',O⟩) (Z Fb) ca) ?_ ?_
  ·intro u M;obtain⟨g,k⟩:=M;simp only[gE];go_simp
  simp only[gE,aP];refine dt 2 (E yR (v:Nat)) ?_ ?_
  ·intro u M;obtain⟨g,k⟩:=M;simp only[gE];go_simp
  simp only[gE,aP];refine dt 3 (zZ (I ⟨g',o'+v,O⟩)) ?_ ?_
  ·intro u M;obtain⟨g,k⟩:=M;simp only[gE];go_simp
  simp only[gE,aP];refine dt 4 (E yR (f:Nat)) ?_ ?_
  ·intro u M;obtain⟨g,k⟩:=M;simp only[gE];go_simp
  simp only[gE,aP];refine aG [0] (cA ?_ aH);intro B6 B9;simp only[gE];go_simp;refine B9.o _ _ T (fun _=>?_);clear B9 B6;refine dt 5 (E yR ((p:Int)/(f:Int))) ?_ ?_
  ·intro u M;obtain⟨g,k⟩:=M;simp only[gE];go_simp;omega
  simp only[gE,aP];refine aG [6] (cA ?_ aH);intro B6 B9;simp only[gE];go_simp;refine B9.o _ _ ⟨(gg _ _ _ _ (fun e=>(show ¬w.heap.size=F by omega) (eG Addr.block e))).trans ms,(gg _ _ _ _ (fun e=>(show ¬w.heap.size=g' by omega) (eG Addr.block e))).trans mc⟩ (fun _=>eV ao ?_ _);clear B9 B6 T;gi_wp2
  rw[tX.o];rw[iV.o] at q1;refine⟨(qO.trans ((kh U _ _).trans (CU _))).from _,⟨j4.t ((i6 q4 w.heap.size 0 (E yR (dd:Nat)) al).cell.trans q4.cell.symm),(qK.setCell (p:=⟨w.heap.size,0,O⟩) aE _).drew⟩,?_⟩;refine⟨?_,?_,i6 q4 _ 0 _ al,(qB.setCell (p:=⟨w.heap.size,0,O⟩) aE _).drew⟩
  ·rw[ad.o];exact q0.set _
  ·rw[ad.o];exact i6 q1 _ 0 _ al
 case done=>
  rintro D ys V hD Fv ⟨h0,L,h4,B2⟩ P;rw[Fv,xV.o] at L;have hc:=L.cell;gi_wp2
  refine⟨aE,yp ⟨_,_,rfl,CM P,?_⟩⟩;refine⟨_,CN rfl _ _ _,?_⟩;exact⟨rfl,B2.trans (xY (w:=w) (ak _) V D _ _ al P rfl rfl)⟩
 case stop=>
  rintro D c q V _ _ h _;exact h.elim
end
variable {other:Kx} {S:Jp} {ca cb:Nat}
theorem WH (hs:∀v,sz S v<=4):∀(vs:Jp) (v:Nat),Z vs<=8 ->dJ S vs v<=65536
 |[],_,_=>by simp[dJ]
 |u::vs,v,h=>by
  rw[dJ];have a:Z vs<=8:=by simp at h;omega
  by_cases e:v=u
  ·rw[aA e];exact xC hs a
  ·rw[aD e];exact WH hs vs v a
theorem acw (S:Jp) (n:Nat) (vs:Jp) (v:Nat):(oH S n vs).getD v 0=if v<n then dJ S vs v else 0:=by
 by_cases h:v<n
 ·rw[aA h,Gd (by rw[rX];exact h),akU S n vs h]
 ·rw[aD h,cK,jw (by rw[rX];omega)];rfl
def pP (W:wA) (n m:Nat) (f:wQ) (a b:Kd) (ca cb:Nat) (Fb Fd other:Kx):Prop:=
 ∃(Bv Bs Bt g ct:Nat),f=.func (.func 215) #[] #[zZ (I ⟨Bv,0,O⟩),zZ (I ⟨Bs,0,O⟩),zZ (I ⟨Bt,0,O⟩)]/\(n<=Bv/\n<=Bs/\n<=Bt/\n<=g)/\(Bv<m/\Bs<m/\Bt<m/\g<m)/\m<=W.heap.size/\
  W.cell? ⟨Bv,0,O⟩=I (J b (Z Fd) cb)/\W.cell? ⟨Bs,0,O⟩=I (J a (Z Fb) ca)/\W.cell? ⟨Bt,0,O⟩=I (J (I ⟨g,0,O⟩) (Z Fb) ct)/\aC W (I ⟨g,0,O⟩) (iL (oH (ag Fb) (Z Fb) (ag other)))
def Cg (n m:Nat) (W V:wA):Prop:=m<=V.heap.size/\∀k,n<=k ->k< m ->V.heap[k]? =W.heap[k]?
theorem Cg.of_below {W V:wA} (h:da W V) (a:m<=W.heap.size):Cg n m W V:=⟨aO a h.size,fun k _ b=>h.block k (aT b a)⟩
theorem Cg.set (W:wA) {B:Nat} (j:Nat) (y:wQ) (h:m<=W.heap.size) (c:B<n∨m<=B):Cg n m W (AF W ⟨B,j,O⟩ y):=⟨aO h (kh W _ _).size,fun k a b=>eO W ⟨B,j,O⟩ y k (by show k≠B;omega)⟩
theorem pP.kept {W V:wA} {f:wQ} {b:Kd} {Fb Fd:Kx} (h:pP W n m f a b ca cb Fb Fd other) (c:Cg n m W V):pP V n m f a b ca cb Fb Fd other:=by
 obtain⟨v,s,t,g,u,w,⟨o,p,q,r⟩,⟨i,j,l,d⟩,H,y,z,A,D⟩:=h;refine⟨v,s,t,g,u,w,⟨o,p,q,r⟩,⟨i,j,l,d⟩,c.1,(iE (c.2 v o i)).trans y,(iE (c.2 s p j)).trans z,(iE (c.2 t q l)).trans A,fun k F=>?_⟩;obtain⟨g',o',e,B9,x⟩:=D k F;cases e;exact⟨g,0,rfl,aT d c.1,(iE (c.2 g r d)).trans x⟩
theorem pP.top {W:wA} {f:wQ} {b:Kd} {Fb Fd:Kx} (h:pP W n m f a b ca cb Fb Fd other):m<=W.heap.size:=by
 obtain⟨_,_,_,_,_,_,_,_,c,_⟩:=h;exact c
theorem pP.wider {W:wA} {n' c:Nat} {f:wQ} {b:Kd} {Fb Fd:Kx} (h:pP W n m f a b ca cb Fb Fd other) (q:n'<=n) (B9:m<=c) (o:c<=W.heap.size):pP W n' c f a b ca cb Fb Fd other:=by
 obtain⟨v,s,t,g,d,e,⟨y,z,A,D⟩,⟨r,u,w,x⟩,p,i,j,k,l⟩:=h;exact⟨v,s,t,g,d,e,⟨al,al,al,al⟩,⟨al,al,al,al⟩,o,i,j,k,l⟩
theorem pP.aa {W V:wA} {f:wQ} {b:Kd} {Fb Fd:Kx} (h:pP W n m f a b ca cb Fb Fd other) (c:da W V):pP V n m f a b ca cb Fb Fd other:=h.kept (Cg.of_below c h.top)
theorem pP.shape {W:wA} {f:wQ} {b:Kd} {Fb Fd:Kx} (h:pP W n m f a b ca cb Fb Fd other):∃lb,f=.func (.func 215) #[] lb:=by
 obtain⟨v,s,t,g,c,e,_⟩:=h;exact⟨_,e⟩
theorem pP.calls {V:wA} {lb:Array wQ} {b:Kd} {Fb Fd:Kx} (h:pP V n m (.func (.func 215) #[] lb) a b ca cb Fb Fd other) (hs:aC V a Fb) (c:aC V b Fd) (R:fJ Fb) (d:Up Fd (Z Fb)) (y:Up other (Z Fb)) {K:Nat} (r:K<cnt (ag Fb) (ag Fd)):
  c6 215 (#[E yR (K:Nat)]++lb) V (dj V (E yR (pos (ag Fb) (aY (ag Fb) (ag Fd) K) (ag other):Nat))):=by
 obtain⟨i,s,t,g,j,f,_,⟨u,w,x,_⟩,z,l,o,p,q⟩:=h;simp only[Value.func.injEq,true_and] at f;rw[f];have F:=y.length;have B6:=R.eight
 have e:=ak1 i s t a b _ ca cb j Fb Fd (oH (ag Fb) (Z Fb) (ag other)) K V al al al l o p hs c q (rX _ _ _) (fun v=>by
  rw[acw];by_cases c:v<Z Fb
  ·rw[aA c];exact WH R.sz_le _ _ (by rw[gG];omega)
  ·rw[aD c];omega) R d r d.nodup
 have k:gS (fun v=>aY (ag Fb) (ag Fd) K v*(oH (ag Fb) (Z Fb) (ag other)).getD v 0) (ag Fd)=pos (ag Fb) (aY (ag Fb) (ag Fd) K) (ag other):=by
  rw[<- stand (Z Fb) K d.nodup y.nodup d.aa y.aa];exact Km fun v c=>by rw[acw,aA (d.aa v c)]
 rw[k] at e;exact e
theorem WI (a b c:Kd) (ca cb cc:Nat) (Fb Fd other:Kx) (w:wA) (hs:aC w a Fb) (j:aC w c other) (R:fJ Fb) (y:Up other (Z Fb)):
  c6 162 #[J a (Z Fb) ca,J b (Z Fd) cb,J c (Z other) cc] w fun e w'=>∃f,e=yk f/\pP w' w.heap.size w'.heap.size f a b ca cb Fb Fd other/\da w w':=by
 have S:=Fa hs;have H:=Fa j;have A:=Fa (fun V r u=>acz a c ca cc Fb other V r u R y);clear hs j;go_enter func162,ntmps162;go_wp2_with fail
 have i:da w (AC (AC w (yd #[J a (Z Fb) ca] 27)) (yd #[J b (Z Fd) cb] 27)):=((aw _ w).alloc (ak _) _).alloc aE _;have m:Boxed (AC (AC w (yd #[J a (Z Fb) ca] 27)) (yd #[J b (Z Fd) cb] 27)) w.heap.size 27 (J a (Z Fb) ca):=(bE w _ _).alloc _
 have n:Boxed (AC (AC w (yd #[J a (Z Fb) ca] 27)) (yd #[J b (Z Fd) cb] 27)) (w.heap.size+1) 27 (J b (Z Fd) cb):=by
  have h:=bE (AC w (yd #[J a (Z Fb) ca] 27)) 27 (J b (Z Fd) cb);rwa [eW] at h
 have F:(AC (AC w (yd #[J a (Z Fb) ca] 27)) (yd #[J b (Z Fd) cb] 27)).heap.size=w.heap.size+1+1:=aE
 generalize (AC (AC w (yd #[J a (Z Fb) ca] 27)) (yd #[J b (Z Fd) cb] 27))=W at *;refine(A.o _ (S.o.aa i) (H.o.aa i)).af ?_;rintro e d ⟨t,g,rfl,X,s,k⟩;have x:=k.size
 have D:t<d.heap.size:=by
  obtain⟨z,B9,q,v,_⟩:=s 0 (by rw[bM,rX];exact R.one);cases q;exact v
 go_wp2;go_ret;have l:da d (AC d (yd #[J (I ⟨t,0,O⟩) (Z Fb) g] 27)):=(aw _ d).alloc (ak _) _;have B1:da W (AC d (yd #[J (I ⟨t,0,O⟩) (Z Fb) g] 27)):=k.trans (l.af x);refine⟨_,rfl,⟨w.heap.size+1,w.heap.size,d.heap.size,t,g,rfl,⟨al,al,al,al⟩,⟨by simp;omega,by simp;omega,aE,by simp;omega⟩,ak _,(B1.cell (p:=⟨w.heap.size+1,0,O⟩) (by simp;omega)).trans n.cell,(B1.cell (p:=⟨w.heap.size,0,O⟩) (by simp;omega)).trans m.cell,(bE d 27 _).cell,s.aa l⟩,i.trans (B1.af al)⟩
variable {f:Nat ->Nat} {y:wQ}
theorem r8 (f:Nat ->Nat) (d:∀u,f u<sz S u):∀vs:Jp,pos S f vs<cnt S vs:=by
 intro vs
 have e:∀(vs:Jp) (k c:Nat),k< c ->vs.foldl (fun k v=>k*sz S v+f v) k<c*cnt S vs:=by
  intro vs;induction vs with
  |nil=>intro k c h;simpa [cnt] using h
  |cons u vs ih=>
   intro k c h
   have a:k*sz S u+f u<c*sz S u:=by
    have b:(k+1)*sz S u<=c*sz S u:=mn _ h;have g:=d u;rw[iG,lK] at b;omega
   have:=ih _ _ a;rwa [ju] at this
 have:=e vs 0 1 al;rwa [lK] at this
theorem rI (p:Pos S):∀(vs:Jp) (k v:Nat),k<cnt S vs ->aY S vs k v<sz S v
 |[],_,v,_=>jM p v
 |u::vs,k,v,h=>by
  rw[aY];by_cases e:v=u
  ·rw[aA e,e];exact(Nat.div_lt_iff_lt_mul (LP p vs)).2 h
  ·rw[aD e];exact rI p vs _ v (jh _ (LP p vs))
def aN (f:Nat ->Nat) (v x:Nat):Nat ->Nat:=fun u=>if u=v then x else f u
theorem acr {g h:Nat ->Nat} (b:g v=0) (a:∀u,¬u=v ->h u=g u):∀ {l:Jp},l.Nodup ->gS h l=gS g l+if v∈l then h v else 0
 |[],_=>by simp[gS]
 |u::l,hn=>by
  rw[mY] at hn;rw[gS,gS,acr b a hn.2];by_cases e:u=v
  ·subst e;rw[aD hn.1,aA dA,b];omega
  ·rw[a u e];(have:v∈u::l↔v∈l:=by rw[bU];exact⟨fun h=>h.elim (fun h=>absurd h.symm e) id,xS⟩);simp only[this];omega
theorem amB (x:Nat) (a:f v=0) {other:Jp} (n:other.Nodup):pos S f other+x*dJ S other v=pos S (aN f v x) other:=by
 rw[RS S f n,RS S (aN f v x) n,acr (g:=fun u=>f u*dJ S other u) (h:=fun u=>aN f v x u*dJ S other u) (v:=v) (by show f v*_=0;rw[a,oY]) (fun u b=>by show aN f v x u*_=f u*_;rw[aN,aD b]) n];congr 1
 by_cases h:v∈other
 ·rw[aA h];show _=aN f v x v*_;rw[aN,aA rfl]
 ·rw[aD h,WG h,mV]
def xH (W:wA) (n m:Nat) (f:wQ) (a b:Kd) (ca cb:Nat) (Fb Fd other:Kx) (v:Nat):Prop:=
 ∃(Bf Bt:Nat) (g:wQ),f=.func (.func 219) #[] #[zZ (I ⟨Bf,0,O⟩),zZ (I ⟨Bt,0,O⟩)]/\n<=Bf/\n<=Bt/\Bf<m/\Bt<m/\m<=W.heap.size/\
  W.cell? ⟨Bf,0,O⟩=I g/\W.cell? ⟨Bt,0,O⟩=I (E yR (dJ (ag Fb) (ag other) v:Nat))/\pP W n m g a b ca cb Fb Fd other
theorem xH.kept {W V:wA} {f:wQ} {b:Kd} {Fb Fd:Kx} (h:xH W n m f a b ca cb Fb Fd other v) (k:Cg n m W V):xH V n m f a b ca cb Fb Fd other v:=by
 obtain⟨c,t,g,l,i,j,d,e,_,o,p,q⟩:=h;exact⟨c,t,g,l,i,j,d,e,k.1,(iE (k.2 c i d)).trans o,(iE (k.2 t j e)).trans p,q.kept k⟩
theorem agz {u:wA} {p q:Addr} {x:wQ} (b:da w u) (a:p.block<w.heap.size) (c:q.block<w.heap.size) (h1:AJ w p=I x) (h:AJ w q=I y):(AJ u p=I x/\u.cell? q=I y)/\we (da w u):=⟨⟨(b.cell a).trans h1,(b.cell c).trans h⟩,b⟩
theorem ak0 (f t:Nat) (lb:Array wQ) (K val P s:Nat) (w:wA) (D:f<w.heap.size) (h1:AJ w ⟨f,0,O⟩=I (.func (.func 215) #[] lb)) (x:t<w.heap.size) (a:AJ w ⟨t,0,O⟩=I (E yR (s:Nat))) (b:∀V,da w V ->c6 215 (#[E yR (K:Nat)]++lb) V fun e w'=>e=yk (E yR (P:Nat))/\da V w') (m:P<=65536) (l:val<=4) (j:s<=65536):
  c6 219 #[E yR (K:Nat),E yR (val:Nat),zZ (I ⟨f,0,O⟩),zZ (I ⟨t,0,O⟩)] w (dj w (E yR (P+val*s:Nat))):=by
 have H:=Fa b;have k:val*s<=262144:=aO (ld l j) a6;have c:(val:Int)*(s:Int)=((val*s:Nat):Int):=(ng _ _).symm;have p:IntKind.i64.wrap ((val:Int)*(s:Int))=(val:Int)*(s:Int):=by rw[c,jx];omega
 have q:IntKind.i64.wrap ((P:Int)+(val:Int)*(s:Int))=(P:Int)+(val:Int)*(s:Int):=by rw[c,jx];omega
 have i:we ((P:Int)+(val:Int)*(s:Int)=((P+val*s:Nat):Int)):=by show _=_;rw[c];exact(E0 _ _).symm
 have h:da w w.drew:=(aw w.heap.size w).drew;clear b c;go_enter func219,ntmps219;go_upto_region 1 with fail
 go_region_held3 (fun u=>(AJ u ⟨f,0,O⟩=I (.func (.func 215) #[] lb)/\u.cell? ⟨t,0,O⟩=I (E yR (s:Nat)))/\we (da w u))
  (first |exact agz d D x h1 a |exact agz h D x h1 a)
  (first
   |(go_at_call 215;refine(H.o _ h).af ?_;rintro e n ⟨rfl,g⟩;have d:=h.trans (g.af h.size)))
 go_wp2;go_ret;exact⟨by rw[i.o];rfl,d⟩
theorem xH.calls {V:wA} {lb:Array wQ} {b:Kd} {Fb Fd:Kx} (h:xH V n m (.func (.func 219) #[] lb) a b ca cb Fb Fd other v) (hs:aC V a Fb) (o:aC V b Fd) (R:fJ Fb) (j:Up Fd (Z Fb)) (y:Up other (Z Fb)) (p:¬v∈ag Fd) {K val:Nat} (e:K<cnt (ag Fb) (ag Fd)) (r:val<=4):
  c6 219 (#[E yR (K:Nat),E yR (val:Nat)]++lb) V (dj V (E yR (pos (ag Fb) (aN (aY (ag Fb) (ag Fd) K) v val) (ag other):Nat))):=by
 obtain⟨i,t,g,f,_,_,s,w,z,k,l,d⟩:=h;simp only[Value.func.injEq,true_and] at f;rw[f];obtain⟨q,rfl⟩:=d.shape;have F:=y.length;have B6:=R.eight;have P:=r8 (S:=ag Fb) (aY (ag Fb) (ag Fd) K) (fun u=>rI R.pos (ag Fd) K u e) (ag other);have x:=xC R.sz_le (vs:=ag other) (by rw[gG];omega);rw[<- amB val (LW p) y.nodup];exact ak0 i t q K val _ _ V al k al l (fun V' c=>(d.aa c).calls (hs.aa c) (o.aa c) R j y e) al r (WH R.sz_le _ _ (by rw[gG];omega))
theorem x6 {P:Program} {S S':wA ->Prop} (c:∀w,S' w ->S w):∀(fuel:Nat) (d:Array Bool) (a:Act) (w:wA),wpAnyH P md ops Q S' fuel d a w ->wpAnyH P md ops Q S fuel d a w
 |0,_,_,_,h=>h
 |fuel+1,_,_,_,h=>⟨h.1,fun i f=>wpOp_mono (fun e w' b=>⟨c _ b.1,x6 c fuel _ e w' b.2⟩) (h.2 i f)⟩
theorem air {u:wA} (h:da w u) (B j:Nat) (y:wQ) (a:w.heap.size<=B):da w (AF u ⟨B,j,O⟩ y):=h.setCell (p:=⟨B,j,O⟩) a y
theorem bB {W V:wA} {B:Nat} {t:TypeId} {x:wQ} (h:Boxed W B t x) (b:da W V):Boxed V B t x:=(b.block B h.lt).trans h
theorem zG {other:Jp} (h:v<n):(iL (oH S n other))[v]'(by rw[bM,rX];exact h)=((dJ S other v:Nat):Int):=by simp[iL,oH]
theorem WJ (a b c:Kd) (ca cb cc:Nat) (Fb Fd other:Kx) (v:Nat) (w:wA) (hs:aC w a Fb) (ho:aC w c other) (aR:fJ Fb) (yv:Up other (Z Fb)) (H:v<Z Fb):
  c6 167 #[J a (Z Fb) ca,J b (Z Fd) cb,J c (Z other) cc,E yR (v:Nat)] w fun e w'=>∃f,e=yk f/\xH w' w.heap.size w'.heap.size f a b ca cb Fb Fd other v/\da w w':=by
 have M:=Fa hs;have B2:=Fa ho;have B1:=Fa (fun V h1 h2=>acz a c ca cc Fb other V h1 h2 aR yv);have HB:=Fa (fun V h1 h2=>WI a b c ca cb cc Fb Fd other V h1 h2 aR yv);have tJ:=aR.eight;have ai:(0:Int)<=(v:Int):=al
 have pA:(v:Int)<(Z Fb:Int):=al
 clear hs ho;go_enter func167,ntmps167;go_upto_region 1 with fail
 have i:da w w.drew:=(aw w.heap.size w).drew;refine iD (S:=fun u=>we (da w u)) ao i (fun r=>?_);generalize w.drew=B9 at *;refine au 0 (J a (Z Fb) ca) ?_;refine au 1 (J b (Z Fd) cb) ?_;refine au 2 (J c (Z other) cc) ?_;refine au 4 (J a (Z Fb) ca) ?_;refine au 5 (J c (Z other) cc) ?_;refine au 7 (E yR (v:Nat)) ?_;refine aG [3,10,11] (cA ?_ (cA ?_ (cA ?_ aH)))
 focus
  intro k K;go_simp;refine(HB.o _ (M.o.aa i) (B2.o.aa i)).af ?_;rintro e u1 ⟨f,rfl,F,d⟩;obtain⟨lb,rfl⟩:=F.shape;have T:=i.size;replace i:=i.trans (d.af i.size);refine K.o _ _ i (fun q=>?_);clear K k r;have r:=q;clear q;have oM:w.heap.size<=B9.heap.size:=T;have U:=F.top;generalize B9.heap.size=L at F T oM⊢;generalize hm1:u1.heap.size=D at F U;rw[<- hm1] at U;have A:D<=u1.heap.size:=al
  clear d hm1;refine aG [6,10,11] (cA ?_ (cA ?_ (cA ?_ aH)))
  focus
   intro k K;go_simp;refine(B1.o _ (M.o.aa i) (B2.o.aa i)).af ?_;rintro e u2 ⟨g,ct,rfl,B6,y,d⟩;replace i:=i.trans (d.af i.size);replace F:=F.aa d;replace A:=aO A d.size;refine K.o _ _ i (fun q=>?_);clear K k r;have r:=q;clear q;obtain⟨g3,o3,B7,R,cv⟩:=y v (by rw[bM,rX];exact H);cases B7;rw[zG H,bK] at cv;clear d y B6 r;(try simp only[gE,aP]);refine x6 (S':=fun u=>we (da w u)/\u.cell? ⟨g,v,O⟩=I (E yR (dJ (ag Fb) (ag other) v:Nat))) (fun _ h=>h.1) _ _ _ _ ?_;have r:we (da w u2)/\u2.cell? ⟨g,v,O⟩=I (E yR (dJ (ag Fb) (ag other) v:Nat)):=⟨i,cv⟩;refine au 8 (zZ (I ⟨g,v,O⟩)) ?_;refine au 9 (E yR (dJ (ag Fb) (ag other) v:Nat)) ?_;refine aG [10,11] (cA ?_ (cA ?_ aH))
   focus
    intro k K;go_simp;have d:da u2 (AC u2 (yd #[yJ] 187)):=(aw _ u2).alloc (ak _) _;have n:Boxed (AC u2 (yd #[yJ] 187)) u2.heap.size 187 (yJ):=bE u2 _ _;(have l:u2.heap.size<(AC u2 (yd #[yJ] 187)).heap.size:=aE);have w9:=i.size;replace i:=i.trans (d.af i.size);replace F:=F.aa d;have P:u2.heap.size<L∨D<=u2.heap.size:=xS A;replace A:=aO A d.size;(have X:¬u2.heap.size=g:=al);replace cv:=(d.cell (p:=⟨g,v,O⟩) R).trans cv;replace R:=aT R d.size;refine K.o _ _ ⟨i,cv⟩ (fun r=>?_);clear K k d;generalize (AC u2 (yd #[yJ] 187))=j at *;generalize u2.heap.size=t at *;refine aG [11] (cA ?_ aH);intro k K;go_simp;have d:da j (AC j (yd #[E yR 0] 3)):=(aw _ j).alloc (ak _) _;have s:Boxed (AC j (yd #[E yR 0] 3)) j.heap.size 3 (E yR 0):=bE j _ _;(have m:j.heap.size<(AC j (yd #[E yR 0] 3)).heap.size:=aE);have dF:=i.size;replace i:=i.trans (d.af i.size);replace n:=bB n d;(have ne:¬t=j.heap.size:=al);replace l:=aT l d.size;replace F:=F.aa d;have Q:j.heap.size<L∨D<=j.heap.size:=xS A;replace A:=aO A d.size;(have Y:¬j.heap.size=g:=al);replace cv:=(d.cell (p:=⟨g,v,O⟩) R).trans cv;replace R:=aT R d.size;refine K.o _ _ ⟨i,cv⟩ (fun r=>?_);clear K k d;generalize (AC j (yd #[E yR 0] 3))=z at *;generalize j.heap.size=x at *
   rotate_left
   focus
    intro k K;go_simp;have d:da u2 (AC u2 (yd #[E yR 0] 3)):=(aw _ u2).alloc (ak _) _;have s:Boxed (AC u2 (yd #[E yR 0] 3)) u2.heap.size 3 (E yR 0):=bE u2 _ _;(have m:u2.heap.size<(AC u2 (yd #[E yR 0] 3)).heap.size:=aE);have dF:=i.size;replace i:=i.trans (d.af i.size);replace F:=F.aa d;have Q:u2.heap.size<L∨D<=u2.heap.size:=xS A;replace A:=aO A d.size;(have Y:¬u2.heap.size=g:=al);replace cv:=(d.cell (p:=⟨g,v,O⟩) R).trans cv;replace R:=aT R d.size;refine K.o _ _ ⟨i,cv⟩ (fun r=>?_);clear K k d;generalize (AC u2 (yd #[E yR 0] 3))=j at *;generalize u2.heap.size=x at *;refine aG [10] (cA ?_ aH);intro k K;go_simp;have d:da j (AC j (yd #[yJ] 187)):=(aw _ j).alloc (ak _) _;have n:Boxed (AC j (yd #[yJ] 187)) j.heap.size 187 (yJ):=bE j _ _;(have l:j.heap.size<(AC j (yd #[yJ] 187)).heap.size:=aE);have w9:=i.size;replace i:=i.trans (d.af i.size);replace s:=bB s d;(have ne:¬x=j.heap.size:=al);replace m:=aT m d.size;replace F:=F.aa d;have P:j.heap.size<L∨D<=j.heap.size:=xS A;replace A:=aO A d.size;(have X:¬j.heap.size=g:=al);replace cv:=(d.cell (p:=⟨g,v,O⟩) R).trans cv;replace R:=aT R d.size;refine K.o _ _ ⟨i,cv⟩ (fun r=>?_);clear K k d;generalize (AC j (yd #[yJ] 187))=z at *;generalize j.heap.size=t at *
  rotate_left 2
  focus
   intro k K;go_simp;have d:da u1 (AC u1 (yd #[yJ] 187)):=(aw _ u1).alloc (ak _) _;have n:Boxed (AC u1 (yd #[yJ] 187)) u1.heap.size 187 (yJ):=bE u1 _ _;(have l:u1.heap.size<(AC u1 (yd #[yJ] 187)).heap.size:=aE);have w9:=i.size;replace i:=i.trans (d.af i.size);replace F:=F.aa d;have P:u1.heap.size<L∨D<=u1.heap.size:=xS A;replace A:=aO A d.size;refine K.o _ _ i (fun r=>?_);clear K k d;generalize (AC u1 (yd #[yJ] 187))=u2 at *;generalize u1.heap.size=t at *;refine aG [6,11] (cA ?_ (cA ?_ aH))
   focus
    intro k K;go_simp;refine(B1.o _ (M.o.aa i) (B2.o.aa i)).af ?_;rintro e j ⟨g,ct,rfl,B6,y,d⟩;replace i:=i.trans (d.af i.size);replace F:=F.aa d;replace A:=aO A d.size;refine K.o _ _ i (fun q=>?_);clear K k r;have r:=q;clear q;obtain⟨g3,o3,B7,R,cv⟩:=y v (by rw[bM,rX];exact H);cases B7;rw[zG H,bK] at cv;replace n:=bB n d;(have X:¬t=g:=al);replace l:=aT l d.size;clear d y B6 r;(try simp only[gE,aP]);refine x6 (S':=fun u=>we (da w u)/\u.cell? ⟨g,v,O⟩=I (E yR (dJ (ag Fb) (ag other) v:Nat))) (fun _ h=>h.1) _ _ _ _ ?_;have r:we (da w j)/\j.cell? ⟨g,v,O⟩=I (E yR (dJ (ag Fb) (ag other) v:Nat)):=⟨i,cv⟩;refine au 8 (zZ (I ⟨g,v,O⟩)) ?_;refine au 9 (E yR (dJ (ag Fb) (ag other) v:Nat)) ?_;refine aG [11] (cA ?_ aH);intro k K;go_simp;have d:da j (AC j (yd #[E yR 0] 3)):=(aw _ j).alloc (ak _) _;have s:Boxed (AC j (yd #[E yR 0] 3)) j.heap.size 3 (E yR 0):=bE j _ _;(have m:j.heap.size<(AC j (yd #[E yR 0] 3)).heap.size:=aE);have dF:=i.size;replace i:=i.trans (d.af i.size);replace n:=bB n d;(have ne:¬t=j.heap.size:=al);replace l:=aT l d.size;replace F:=F.aa d;have Q:j.heap.size<L∨D<=j.heap.size:=xS A;replace A:=aO A d.size;(have Y:¬j.heap.size=g:=al);replace cv:=(d.cell (p:=⟨g,v,O⟩) R).trans cv;replace R:=aT R d.size
    refine K.o _ _ ⟨i,cv⟩ (fun r=>?_);clear K k d;generalize (AC j (yd #[E yR 0] 3))=z at *;generalize j.heap.size=x at *
   rotate_left
   focus
    intro k K;go_simp;have d:da u2 (AC u2 (yd #[E yR 0] 3)):=(aw _ u2).alloc (ak _) _;have s:Boxed (AC u2 (yd #[E yR 0] 3)) u2.heap.size 3 (E yR 0):=bE u2 _ _;(have m:u2.heap.size<(AC u2 (yd #[E yR 0] 3)).heap.size:=aE);have dF:=i.size;replace i:=i.trans (d.af i.size);replace n:=bB n d;(have ne:¬t=u2.heap.size:=al);replace l:=aT l d.size;replace F:=F.aa d;have Q:u2.heap.size<L∨D<=u2.heap.size:=xS A;replace A:=aO A d.size;refine K.o _ _ i (fun r=>?_);clear K k d;generalize (AC u2 (yd #[E yR 0] 3))=j at *;generalize u2.heap.size=x at *;refine aG [6] (cA ?_ aH);intro k K;go_simp;refine(B1.o _ (M.o.aa i) (B2.o.aa i)).af ?_;rintro e z ⟨g,ct,rfl,B6,y,d⟩;replace i:=i.trans (d.af i.size);replace F:=F.aa d;replace A:=aO A d.size;refine K.o _ _ i (fun q=>?_);clear K k r;have r:=q;clear q;obtain⟨g3,o3,B7,R,cv⟩:=y v (by rw[bM,rX];exact H);cases B7;rw[zG H,bK] at cv;replace n:=bB n d;(have X:¬t=g:=al);replace l:=aT l d.size;replace s:=bB s d;(have Y:¬x=g:=al);replace m:=aT m d.size;clear d y B6 r;(try simp only[gE,aP]);refine x6 (S':=fun u=>we (da w u)/\u.cell? ⟨g,v,O⟩=I (E yR (dJ (ag Fb) (ag other) v:Nat))) (fun _ h=>h.1) _ _ _ _ ?_;have r:we (da w z)/\z.cell? ⟨g,v,O⟩=I (E yR (dJ (ag Fb) (ag other) v:Nat)):=⟨i,cv⟩
    refine au 8 (zZ (I ⟨g,v,O⟩)) ?_;refine au 9 (E yR (dJ (ag Fb) (ag other) v:Nat)) ?_
  rotate_left 2
  focus
   intro k K;go_simp;have d:da u1 (AC u1 (yd #[E yR 0] 3)):=(aw _ u1).alloc (ak _) _;have s:Boxed (AC u1 (yd #[E yR 0] 3)) u1.heap.size 3 (E yR 0):=bE u1 _ _;(have m:u1.heap.size<(AC u1 (yd #[E yR 0] 3)).heap.size:=aE);have dF:=i.size;replace i:=i.trans (d.af i.size);replace F:=F.aa d;have Q:u1.heap.size<L∨D<=u1.heap.size:=xS A;replace A:=aO A d.size;refine K.o _ _ i (fun r=>?_);clear K k d;generalize (AC u1 (yd #[E yR 0] 3))=u2 at *;generalize u1.heap.size=x at *;refine aG [6,10] (cA ?_ (cA ?_ aH))
   focus
    intro k K;go_simp;refine(B1.o _ (M.o.aa i) (B2.o.aa i)).af ?_;rintro e j ⟨g,ct,rfl,B6,y,d⟩;replace i:=i.trans (d.af i.size);replace F:=F.aa d;replace A:=aO A d.size;refine K.o _ _ i (fun q=>?_);clear K k r;have r:=q;clear q;obtain⟨g3,o3,B7,R,cv⟩:=y v (by rw[bM,rX];exact H);cases B7;rw[zG H,bK] at cv;replace s:=bB s d;(have Y:¬x=g:=al);replace m:=aT m d.size;clear d y B6 r;(try simp only[gE,aP]);refine x6 (S':=fun u=>we (da w u)/\u.cell? ⟨g,v,O⟩=I (E yR (dJ (ag Fb) (ag other) v:Nat))) (fun _ h=>h.1) _ _ _ _ ?_;have r:we (da w j)/\j.cell? ⟨g,v,O⟩=I (E yR (dJ (ag Fb) (ag other) v:Nat)):=⟨i,cv⟩;refine au 8 (zZ (I ⟨g,v,O⟩)) ?_;refine au 9 (E yR (dJ (ag Fb) (ag other) v:Nat)) ?_;refine aG [10] (cA ?_ aH);intro k K;go_simp;have d:da j (AC j (yd #[yJ] 187)):=(aw _ j).alloc (ak _) _;have n:Boxed (AC j (yd #[yJ] 187)) j.heap.size 187 (yJ):=bE j _ _;(have l:j.heap.size<(AC j (yd #[yJ] 187)).heap.size:=aE);have w9:=i.size;replace i:=i.trans (d.af i.size);replace s:=bB s d;(have ne:¬x=j.heap.size:=al);replace m:=aT m d.size;replace F:=F.aa d;have P:j.heap.size<L∨D<=j.heap.size:=xS A;replace A:=aO A d.size;(have X:¬j.heap.size=g:=al);replace cv:=(d.cell (p:=⟨g,v,O⟩) R).trans cv;replace R:=aT R d.size
    refine K.o _ _ ⟨i,cv⟩ (fun r=>?_);clear K k d;generalize (AC j (yd #[yJ] 187))=z at *;generalize j.heap.size=t at *
   rotate_left
   focus
    intro k K;go_simp;have d:da u2 (AC u2 (yd #[yJ] 187)):=(aw _ u2).alloc (ak _) _;have n:Boxed (AC u2 (yd #[yJ] 187)) u2.heap.size 187 (yJ):=bE u2 _ _;(have l:u2.heap.size<(AC u2 (yd #[yJ] 187)).heap.size:=aE);have w9:=i.size;replace i:=i.trans (d.af i.size);replace s:=bB s d;(have ne:¬x=u2.heap.size:=al);replace m:=aT m d.size;replace F:=F.aa d;have P:u2.heap.size<L∨D<=u2.heap.size:=xS A;replace A:=aO A d.size;refine K.o _ _ i (fun r=>?_);clear K k d;generalize (AC u2 (yd #[yJ] 187))=j at *;generalize u2.heap.size=t at *;refine aG [6] (cA ?_ aH);intro k K;go_simp;refine(B1.o _ (M.o.aa i) (B2.o.aa i)).af ?_;rintro e z ⟨g,ct,rfl,B6,y,d⟩;replace i:=i.trans (d.af i.size);replace F:=F.aa d;replace A:=aO A d.size;refine K.o _ _ i (fun q=>?_);clear K k r;have r:=q;clear q;obtain⟨g3,o3,B7,R,cv⟩:=y v (by rw[bM,rX];exact H);cases B7;rw[zG H,bK] at cv;replace n:=bB n d;(have X:¬t=g:=al);replace l:=aT l d.size;replace s:=bB s d;(have Y:¬x=g:=al);replace m:=aT m d.size;clear d y B6 r;(try simp only[gE,aP]);refine x6 (S':=fun u=>we (da w u)/\u.cell? ⟨g,v,O⟩=I (E yR (dJ (ag Fb) (ag other) v:Nat))) (fun _ h=>h.1) _ _ _ _ ?_;have r:we (da w z)/\z.cell? ⟨g,v,O⟩=I (E yR (dJ (ag Fb) (ag other) v:Nat)):=⟨i,cv⟩
    refine au 8 (zZ (I ⟨g,v,O⟩)) ?_;refine au 9 (E yR (dJ (ag Fb) (ag other) v:Nat)) ?_
 rotate_left 6
 focus
  intro k K;go_simp;have d:da B9 (AC B9 (yd #[yJ] 187)):=(aw _ B9).alloc (ak _) _;have n:Boxed (AC B9 (yd #[yJ] 187)) B9.heap.size 187 (yJ):=bE B9 _ _;have l:B9.heap.size<(AC B9 (yd #[yJ] 187)).heap.size:=aE
  have w9:=i.size;replace i:=i.trans (d.af i.size);refine K.o _ _ i (fun r=>?_);clear K k d;generalize (AC B9 (yd #[yJ] 187))=u1 at *;generalize B9.heap.size=t at *;refine aG [3,11] (cA ?_ (cA ?_ aH))
  focus
   intro k K;go_simp;refine(HB.o _ (M.o.aa i) (B2.o.aa i)).af ?_;rintro e u2 ⟨f,rfl,F,d⟩;obtain⟨lb,rfl⟩:=F.shape;have T:=i.size;replace i:=i.trans (d.af i.size);refine K.o _ _ i (fun q=>?_);clear K k r;have r:=q;clear q;replace n:=bB n d;have P:t<u1.heap.size∨u2.heap.size<=t:=yp l;replace l:=aT l d.size;have oM:w.heap.size<=u1.heap.size:=T;have U:=F.top;generalize u1.heap.size=L at F T oM P⊢;generalize hm1:u2.heap.size=D at F U P;rw[<- hm1] at U;(have A:D<=u2.heap.size:=al);clear d hm1;refine aG [6,11] (cA ?_ (cA ?_ aH))
   focus
    intro k K;go_simp;refine(B1.o _ (M.o.aa i) (B2.o.aa i)).af ?_;rintro e j ⟨g,ct,rfl,B6,y,d⟩;replace i:=i.trans (d.af i.size);replace F:=F.aa d;replace A:=aO A d.size;refine K.o _ _ i (fun q=>?_);clear K k r;have r:=q;clear q;obtain⟨g3,o3,B7,R,cv⟩:=y v (by rw[bM,rX];exact H);cases B7;rw[zG H,bK] at cv;replace n:=bB n d;(have X:¬t=g:=al);replace l:=aT l d.size;clear d y B6 r;(try simp only[gE,aP]);refine x6 (S':=fun u=>we (da w u)/\u.cell? ⟨g,v,O⟩=I (E yR (dJ (ag Fb) (ag other) v:Nat))) (fun _ h=>h.1) _ _ _ _ ?_;have r:we (da w j)/\j.cell? ⟨g,v,O⟩=I (E yR (dJ (ag Fb) (ag other) v:Nat)):=⟨i,cv⟩;refine au 8 (zZ (I ⟨g,v,O⟩)) ?_;refine au 9 (E yR (dJ (ag Fb) (ag other) v:Nat)) ?_;refine aG [11] (cA ?_ aH);intro k K;go_simp;have d:da j (AC j (yd #[E yR 0] 3)):=(aw _ j).alloc (ak _) _;have s:Boxed (AC j (yd #[E yR 0] 3)) j.heap.size 3 (E yR 0):=bE j _ _;(have m:j.heap.size<(AC j (yd #[E yR 0] 3)).heap.size:=aE);have dF:=i.size;replace i:=i.trans (d.af i.size);replace n:=bB n d;(have ne:¬t=j.heap.size:=al);replace l:=aT l d.size;replace F:=F.aa d;have Q:j.heap.size<L∨D<=j.heap.size:=xS A;replace A:=aO A d.size;(have Y:¬j.heap.size=g:=al);replace cv:=(d.cell (p:=⟨g,v,O⟩) R).trans cv;replace R:=aT R d.size
    refine K.o _ _ ⟨i,cv⟩ (fun r=>?_);clear K k d;generalize (AC j (yd #[E yR 0] 3))=z at *;generalize j.heap.size=x at *
   rotate_left
   focus
    intro k K;go_simp;have d:da u2 (AC u2 (yd #[E yR 0] 3)):=(aw _ u2).alloc (ak _) _;have s:Boxed (AC u2 (yd #[E yR 0] 3)) u2.heap.size 3 (E yR 0):=bE u2 _ _;(have m:u2.heap.size<(AC u2 (yd #[E yR 0] 3)).heap.size:=aE);have dF:=i.size;replace i:=i.trans (d.af i.size);replace n:=bB n d;(have ne:¬t=u2.heap.size:=al);replace l:=aT l d.size;replace F:=F.aa d;have Q:u2.heap.size<L∨D<=u2.heap.size:=xS A;replace A:=aO A d.size;refine K.o _ _ i (fun r=>?_);clear K k d;generalize (AC u2 (yd #[E yR 0] 3))=j at *;generalize u2.heap.size=x at *;refine aG [6] (cA ?_ aH);intro k K;go_simp;refine(B1.o _ (M.o.aa i) (B2.o.aa i)).af ?_;rintro e z ⟨g,ct,rfl,B6,y,d⟩;replace i:=i.trans (d.af i.size);replace F:=F.aa d;replace A:=aO A d.size;refine K.o _ _ i (fun q=>?_);clear K k r;have r:=q;clear q;obtain⟨g3,o3,B7,R,cv⟩:=y v (by rw[bM,rX];exact H);cases B7;rw[zG H,bK] at cv;replace n:=bB n d;(have X:¬t=g:=al);replace l:=aT l d.size;replace s:=bB s d;(have Y:¬x=g:=al);replace m:=aT m d.size;clear d y B6 r;(try simp only[gE,aP]);refine x6 (S':=fun u=>we (da w u)/\u.cell? ⟨g,v,O⟩=I (E yR (dJ (ag Fb) (ag other) v:Nat))) (fun _ h=>h.1) _ _ _ _ ?_;have r:we (da w z)/\z.cell? ⟨g,v,O⟩=I (E yR (dJ (ag Fb) (ag other) v:Nat)):=⟨i,cv⟩
    refine au 8 (zZ (I ⟨g,v,O⟩)) ?_;refine au 9 (E yR (dJ (ag Fb) (ag other) v:Nat)) ?_
  rotate_left 2
  focus
   intro k K;go_simp;have d:da u1 (AC u1 (yd #[E yR 0] 3)):=(aw _ u1).alloc (ak _) _;have s:Boxed (AC u1 (yd #[E yR 0] 3)) u1.heap.size 3 (E yR 0):=bE u1 _ _;(have m:u1.heap.size<(AC u1 (yd #[E yR 0] 3)).heap.size:=aE);have dF:=i.size;replace i:=i.trans (d.af i.size);replace n:=bB n d;(have ne:¬t=u1.heap.size:=al);replace l:=aT l d.size;refine K.o _ _ i (fun r=>?_);clear K k d;generalize (AC u1 (yd #[E yR 0] 3))=u2 at *;generalize u1.heap.size=x at *;refine aG [3] (cA ?_ aH);intro k K;go_simp;refine(HB.o _ (M.o.aa i) (B2.o.aa i)).af ?_;rintro e j ⟨f,rfl,F,d⟩;obtain⟨lb,rfl⟩:=F.shape;have T:=i.size;replace i:=i.trans (d.af i.size);refine K.o _ _ i (fun q=>?_);clear K k r;have r:=q;clear q;replace n:=bB n d;have P:t<u2.heap.size∨j.heap.size<=t:=yp l;replace l:=aT l d.size;replace s:=bB s d;have Q:x<u2.heap.size∨j.heap.size<=x:=yp m;replace m:=aT m d.size;have oM:w.heap.size<=u2.heap.size:=T;have U:=F.top;generalize u2.heap.size=L at F T oM P Q⊢;generalize hm1:j.heap.size=D at F U P Q;rw[<- hm1] at U;(have A:D<=j.heap.size:=al);clear d hm1;refine aG [6] (cA ?_ aH);intro k K;go_simp;refine(B1.o _ (M.o.aa i) (B2.o.aa i)).af ?_;rintro e z ⟨g,ct,rfl,B6,y,d⟩;replace i:=i.trans (d.af i.size);replace F:=F.aa d;replace A:=aO A d.size;refine K.o _ _ i (fun q=>?_)
   clear K k r;have r:=q;clear q;obtain⟨g3,o3,B7,R,cv⟩:=y v (by rw[bM,rX];exact H);cases B7;rw[zG H,bK] at cv;replace n:=bB n d;(have X:¬t=g:=al);replace l:=aT l d.size;replace s:=bB s d;(have Y:¬x=g:=al);replace m:=aT m d.size;clear d y B6 r;(try simp only[gE,aP]);refine x6 (S':=fun u=>we (da w u)/\u.cell? ⟨g,v,O⟩=I (E yR (dJ (ag Fb) (ag other) v:Nat))) (fun _ h=>h.1) _ _ _ _ ?_;have r:we (da w z)/\z.cell? ⟨g,v,O⟩=I (E yR (dJ (ag Fb) (ag other) v:Nat)):=⟨i,cv⟩;refine au 8 (zZ (I ⟨g,v,O⟩)) ?_;refine au 9 (E yR (dJ (ag Fb) (ag other) v:Nat)) ?_
 rotate_left 3
 focus
  intro k K;go_simp;have d:da B9 (AC B9 (yd #[E yR 0] 3)):=(aw _ B9).alloc (ak _) _;have s:Boxed (AC B9 (yd #[E yR 0] 3)) B9.heap.size 3 (E yR 0):=bE B9 _ _;have m:B9.heap.size<(AC B9 (yd #[E yR 0] 3)).heap.size:=aE
  have dF:=i.size;replace i:=i.trans (d.af i.size);refine K.o _ _ i (fun r=>?_);clear K k d;generalize (AC B9 (yd #[E yR 0] 3))=u1 at *;generalize B9.heap.size=x at *;refine aG [3,10] (cA ?_ (cA ?_ aH))
  focus
   intro k K;go_simp;refine(HB.o _ (M.o.aa i) (B2.o.aa i)).af ?_;rintro e u2 ⟨f,rfl,F,d⟩;obtain⟨lb,rfl⟩:=F.shape;have T:=i.size;replace i:=i.trans (d.af i.size);refine K.o _ _ i (fun q=>?_);clear K k r;have r:=q;clear q;replace s:=bB s d;have Q:x<u1.heap.size∨u2.heap.size<=x:=yp m;replace m:=aT m d.size;have oM:w.heap.size<=u1.heap.size:=T;have U:=F.top;generalize u1.heap.size=L at F T oM Q⊢;generalize hm1:u2.heap.size=D at F U Q;rw[<- hm1] at U;(have A:D<=u2.heap.size:=al);clear d hm1;refine aG [6,10] (cA ?_ (cA ?_ aH))
   focus
    intro k K;go_simp;refine(B1.o _ (M.o.aa i) (B2.o.aa i)).af ?_;rintro e j ⟨g,ct,rfl,B6,y,d⟩;replace i:=i.trans (d.af i.size);replace F:=F.aa d;replace A:=aO A d.size;refine K.o _ _ i (fun q=>?_);clear K k r;have r:=q;clear q;obtain⟨g3,o3,B7,R,cv⟩:=y v (by rw[bM,rX];exact H);cases B7;rw[zG H,bK] at cv;replace s:=bB s d;(have Y:¬x=g:=al);replace m:=aT m d.size;clear d y B6 r;(try simp only[gE,aP]);refine x6 (S':=fun u=>we (da w u)/\u.cell? ⟨g,v,O⟩=I (E yR (dJ (ag Fb) (ag other) v:Nat))) (fun _ h=>h.1) _ _ _ _ ?_;have r:we (da w j)/\j.cell? ⟨g,v,O⟩=I (E yR (dJ (ag Fb) (ag other) v:Nat)):=⟨i,cv⟩;refine au 8 (zZ (I ⟨g,v,O⟩)) ?_;refine au 9 (E yR (dJ (ag Fb) (ag other) v:Nat)) ?_;refine aG [10] (cA ?_ aH);intro k K;go_simp;have d:da j (AC j (yd #[yJ] 187)):=(aw _ j).alloc (ak _) _;have n:Boxed (AC j (yd #[yJ] 187)) j.heap.size 187 (yJ):=bE j _ _;(have l:j.heap.size<(AC j (yd #[yJ] 187)).heap.size:=aE);have w9:=i.size;replace i:=i.trans (d.af i.size);replace s:=bB s d;(have ne:¬x=j.heap.size:=al);replace m:=aT m d.size;replace F:=F.aa d;have P:j.heap.size<L∨D<=j.heap.size:=xS A;replace A:=aO A d.size;(have X:¬j.heap.size=g:=al);replace cv:=(d.cell (p:=⟨g,v,O⟩) R).trans cv;replace R:=aT R d.size
    refine K.o _ _ ⟨i,cv⟩ (fun r=>?_);clear K k d;generalize (AC j (yd #[yJ] 187))=z at *;generalize j.heap.size=t at *
   rotate_left
   focus
    intro k K;go_simp;have d:da u2 (AC u2 (yd #[yJ] 187)):=(aw _ u2).alloc (ak _) _;have n:Boxed (AC u2 (yd #[yJ] 187)) u2.heap.size 187 (yJ):=bE u2 _ _;(have l:u2.heap.size<(AC u2 (yd #[yJ] 187)).heap.size:=aE);have w9:=i.size;replace i:=i.trans (d.af i.size);replace s:=bB s d;(have ne:¬x=u2.heap.size:=al);replace m:=aT m d.size;replace F:=F.aa d;have P:u2.heap.size<L∨D<=u2.heap.size:=xS A;replace A:=aO A d.size;refine K.o _ _ i (fun r=>?_);clear K k d;generalize (AC u2 (yd #[yJ] 187))=j at *;generalize u2.heap.size=t at *;refine aG [6] (cA ?_ aH);intro k K;go_simp;refine(B1.o _ (M.o.aa i) (B2.o.aa i)).af ?_;rintro e z ⟨g,ct,rfl,B6,y,d⟩;replace i:=i.trans (d.af i.size);replace F:=F.aa d;replace A:=aO A d.size;refine K.o _ _ i (fun q=>?_);clear K k r;have r:=q;clear q;obtain⟨g3,o3,B7,R,cv⟩:=y v (by rw[bM,rX];exact H);cases B7;rw[zG H,bK] at cv;replace n:=bB n d;(have X:¬t=g:=al);replace l:=aT l d.size;replace s:=bB s d;(have Y:¬x=g:=al);replace m:=aT m d.size;clear d y B6 r;(try simp only[gE,aP]);refine x6 (S':=fun u=>we (da w u)/\u.cell? ⟨g,v,O⟩=I (E yR (dJ (ag Fb) (ag other) v:Nat))) (fun _ h=>h.1) _ _ _ _ ?_;have r:we (da w z)/\z.cell? ⟨g,v,O⟩=I (E yR (dJ (ag Fb) (ag other) v:Nat)):=⟨i,cv⟩
    refine au 8 (zZ (I ⟨g,v,O⟩)) ?_;refine au 9 (E yR (dJ (ag Fb) (ag other) v:Nat)) ?_
  rotate_left 2
  focus
   intro k K;go_simp;have d:da u1 (AC u1 (yd #[yJ] 187)):=(aw _ u1).alloc (ak _) _;have n:Boxed (AC u1 (yd #[yJ] 187)) u1.heap.size 187 (yJ):=bE u1 _ _;(have l:u1.heap.size<(AC u1 (yd #[yJ] 187)).heap.size:=aE);have w9:=i.size;replace i:=i.trans (d.af i.size);replace s:=bB s d;(have ne:¬x=u1.heap.size:=al);replace m:=aT m d.size;refine K.o _ _ i (fun r=>?_);clear K k d;generalize (AC u1 (yd #[yJ] 187))=u2 at *;generalize u1.heap.size=t at *;refine aG [3] (cA ?_ aH);intro k K;go_simp;refine(HB.o _ (M.o.aa i) (B2.o.aa i)).af ?_;rintro e j ⟨f,rfl,F,d⟩;obtain⟨lb,rfl⟩:=F.shape;have T:=i.size;replace i:=i.trans (d.af i.size);refine K.o _ _ i (fun q=>?_);clear K k r;have r:=q;clear q;replace n:=bB n d;have P:t<u2.heap.size∨j.heap.size<=t:=yp l;replace l:=aT l d.size;replace s:=bB s d;have Q:x<u2.heap.size∨j.heap.size<=x:=yp m;replace m:=aT m d.size;have oM:w.heap.size<=u2.heap.size:=T;have U:=F.top;generalize u2.heap.size=L at F T oM P Q⊢;generalize hm1:j.heap.size=D at F U P Q;rw[<- hm1] at U;(have A:D<=j.heap.size:=al);clear d hm1;refine aG [6] (cA ?_ aH);intro k K;go_simp;refine(B1.o _ (M.o.aa i) (B2.o.aa i)).af ?_;rintro e z ⟨g,ct,rfl,B6,y,d⟩;replace i:=i.trans (d.af i.size);replace F:=F.aa d;replace A:=aO A d.size;refine K.o _ _ i (fun q=>?_);clear K k r
   have r:=q;clear q;obtain⟨g3,o3,B7,R,cv⟩:=y v (by rw[bM,rX];exact H);cases B7;rw[zG H,bK] at cv;replace n:=bB n d;(have X:¬t=g:=al);replace l:=aT l d.size;replace s:=bB s d;(have Y:¬x=g:=al);replace m:=aT m d.size;clear d y B6 r;(try simp only[gE,aP]);refine x6 (S':=fun u=>we (da w u)/\u.cell? ⟨g,v,O⟩=I (E yR (dJ (ag Fb) (ag other) v:Nat))) (fun _ h=>h.1) _ _ _ _ ?_;have r:we (da w z)/\z.cell? ⟨g,v,O⟩=I (E yR (dJ (ag Fb) (ag other) v:Nat)):=⟨i,cv⟩;refine au 8 (zZ (I ⟨g,v,O⟩)) ?_;refine au 9 (E yR (dJ (ag Fb) (ag other) v:Nat)) ?_
 all_goals
  refine aG [12] (cA ?_ aH);have c9:=n.cell;have f9:=n.frozen;intro k K;go_simp;have e9:Boxed (AF z ⟨t,0,O⟩ (.func (.func 215) #[] lb)) t 187 (.func (.func 215) #[] lb):=n.set _;have DW:Boxed (AF z ⟨t,0,O⟩ (.func (.func 215) #[] lb)) x 3 (E yR 0):=i6 s t 0 _ al;replace F:=F.kept (Cg.set z 0 (.func (.func 215) #[] lb) A P);replace i:=air i t 0 (.func (.func 215) #[] lb) w9;replace cv:AJ (AF z ⟨t,0,O⟩ (.func (.func 215) #[] lb)) ⟨g,v,O⟩=_:=(gg _ _ _ _ (fun e=>X (eG Addr.block e))).trans cv;have lz:z.heap.size<=(AF z ⟨t,0,O⟩ (.func (.func 215) #[] lb)).heap.size:=(kh z _ _).size;replace l:=aT l lz;replace m:=aT m lz;replace A:=aO A lz;refine K.o _ _ ⟨i,cv⟩ (fun q=>?_);clear K k r n s c9 f9 lz;have r:=q;clear q;generalize (AF z ⟨t,0,O⟩ (.func (.func 215) #[] lb))=v1 at *;have ab:=DW.cell;have ad:=DW.frozen;refine aG [13] (cA ?_ aH);intro k K;go_simp;have x9:Boxed (AF v1 ⟨x,0,O⟩ (E yR (dJ (ag Fb) (ag other) v:Nat))) t 187 (.func (.func 215) #[] lb):=i6 e9 x 0 _ al;have ae:=DW.set (E yR (dJ (ag Fb) (ag other) v:Nat));replace F:=F.kept (Cg.set v1 0 (E yR (dJ (ag Fb) (ag other) v:Nat)) A Q);replace i:=air i x 0 (E yR (dJ (ag Fb) (ag other) v:Nat)) dF;replace cv:AJ (AF v1 ⟨x,0,O⟩ (E yR (dJ (ag Fb) (ag other) v:Nat))) ⟨g,v,O⟩=_:=(gg _ _ _ _ (fun e=>Y (eG Addr.block e))).trans cv
  have lz:v1.heap.size<=(AF v1 ⟨x,0,O⟩ (E yR (dJ (ag Fb) (ag other) v:Nat))).heap.size:=(kh v1 _ _).size;replace l:=aT l lz;replace m:=aT m lz;replace A:=aO A lz;refine K.o _ _ ⟨i,cv⟩ (fun _=>eV ao ?_ _);clear K k r e9 DW ab ad lz;generalize (AF v1 ⟨x,0,O⟩ (E yR (dJ (ag Fb) (ag other) v:Nat)))=v2 at *;go_wp2;go_ret;exact⟨_,rfl,⟨t,x,_,rfl,w9,dF,l,m,ak _,x9.cell,ae.cell,F.wider oM A (ak _)⟩,i⟩
variable {pv:wQ} {V':wA}
abbrev lB (f:Fr):Value:=zp #[zd f.1,zX f.2.1,zX f.2.2]
structure JF (w V:wA) (pv:wQ) (B:Nat) (n:Bool) (x y:ByteArray):Prop where
 how:Boxed V w.heap.size 190 pv
 res:aL V (w.heap.size+1) x3 ⟨#[]⟩ ⟨#[]⟩
 left:aL V B n x y
 aa:da w V
 lt:w.heap.size+1<B
theorem JF.step {V:wA} {B:Nat} {n:Bool} {x y:ByteArray} (h:JF w V pv B n x y) (b:da V V'):JF w V' pv B n x y:=
 ⟨(b.block _ h.how.lt).trans h.how,h.res.aa b h.res.lt,h.left.aa b h.left.lt,h.aa.trans (b.af h.aa.size),h.lt⟩
theorem JF.drew {V:wA} {B:Nat} {n:Bool} {x y:ByteArray} (h:JF w V pv B n x y):JF w V.drew pv B n x y:=⟨h.how,h.res,h.left,h.aa.drew,h.lt⟩
theorem JF.put {V:wA} {B:Nat} {n:Bool} {x y:ByteArray} (h:JF w V pv B n x y) (n':Bool) (x' a:ByteArray):JF w (AF (AF (AF V ⟨B,0,O⟩ (zd n')) ⟨B,1,O⟩ (zX x')) ⟨B,2,O⟩ (zX a)) pv B n' x' a:=by
 have b:=h.lt;exact⟨i6 (i6 (i6 h.how B 0 _ al) B 1 _ al) B 2 _ al,((h.res.far al _).far al _).far al _,h.left.put n' x' a,eJ h.aa al _ _ _,h.lt⟩
theorem apC (f t:Nat) (Q p:Array wQ) (ep:∀s w,(callFunc f s).run prog w=.ok (.enter f s) w) (et:∀s w,(callFunc t s).run prog w=.ok (.enter t s) w) (n:Nat) (T L:Nat ->Fr) (w:wA) (h1:1<=n) (hn:n<=65536)
  (X:∀k,k< n ->∀V,da w V ->c6 t (#[E yR (k:Nat)]++p) V fun e w'=>e=yk (lB (T k))/\da V w')
  (R:∀k,k+1< n ->∀V,da w V ->c6 f (#[lB (L k),lB (T (k+1))]++Q) V fun e w'=>e=yk (lB (L (k+1)))/\da V w')
  (h0:L 0=T 0):
  c6 169 #[zp #[.func (.func f) #[] Q],E yR (n:Nat),.func (.func t) #[] p] w (dj w (lB (L (n - 1)))):=by
 have A:=Fa X;have HP:=Fa R;clear X R;go_enter func169,ntmps169;go_wp2_with fail
 have l:da w (AC (AC w (yd #[.func (.func f) #[] Q] 190)) (yd #[zd x3,zX ⟨#[]⟩,zX ⟨#[]⟩] 63)):=((aw _ w).alloc (ak _) _).alloc aE _;have B7:Boxed (AC (AC w (yd #[.func (.func f) #[] Q] 190)) (yd #[zd x3,zX ⟨#[]⟩,zX ⟨#[]⟩] 63)) w.heap.size 190 (.func (.func f) #[] Q):=(bE w _ _).alloc _
 have q:aL (AC (AC w (yd #[.func (.func f) #[] Q] 190)) (yd #[zd x3,zX ⟨#[]⟩,zX ⟨#[]⟩] 63)) (w.heap.size+1) x3 ⟨#[]⟩ ⟨#[]⟩:=by
  have h:=aL.new (AC w (yd #[.func (.func f) #[] Q] 190)) x3 ⟨#[]⟩ ⟨#[]⟩;rwa [eW] at h
 have ai:(AC (AC w (yd #[.func (.func f) #[] Q] 190)) (yd #[zd x3,zX ⟨#[]⟩,zX ⟨#[]⟩] 63)).heap.size=w.heap.size+1+1:=aE
 generalize (AC (AC w (yd #[.func (.func f) #[] Q] 190)) (yd #[zd x3,zX ⟨#[]⟩,zX ⟨#[]⟩] 63))=W at *;have ab:=Fa h0;refine(A.o 0 al _ l).af ?_;rcases Ln:T 0 with ⟨v,x,y⟩;rintro e j ⟨rfl,g⟩;rw[Ln] at h0;have F:=Fa h0;clear h0 Ln ab;have ae:=g.size;have M:=(bB B7 g);have B2:=q.aa g q.lt;have u:=l.trans (g.af l.size);go_wp2_with fail
 have Y:we (JF w (AC j (yd #[zd v,zX x,zX y] 63)) (.func (.func f) #[] Q) j.heap.size v x y):=⟨M.alloc _,B2.alloc _,aL.new j v x y,u.alloc u.size _,al⟩;generalize j.heap.size=B at *;clear B7 q l ai g ae M B2 u;go_loopw [13] (fun iv wr=>∃i:Nat,i+1<=n/\iv=E yR i/\we (JF w wr (.func (.func f) #[] Q) B (L i).1 (L i).2.1 (L i).2.2)) (fun iv _=>n - (intOf iv).toNat)
 case atStart=>exact⟨0,h1,rfl,by rw[F.o];exact Y⟩
 case round=>
  obtain⟨i,hi,rfl,H⟩:=hrel;clear Y F;by_cases B1:i+1<n
  ·have U:=A.o (i+1) B1;have B9:=HP.o i B1;rw[Int.natCast_succ] at U;rcases hL:L i with ⟨ni,xi,yi⟩;rcases hT:T (i+1) with ⟨nt,xt,yt⟩;rcases ZQ:L (i+1) with ⟨nl,xl,yl⟩;rw[hL] at H B9;rw[hT] at U B9;rw[ZQ] at B9;have P:=Fa U;have Cr:=Fa B9;have wu:=Fa ZQ;clear U B9 hL hT ZQ;have B6:=H.o;simp only at B6;obtain⟨k0,k1,k2,f0,f1,f2⟩:=B6.left.facts;have d:=B6.drew;(have Yp:IntKind.i64.wrap ((i:Int)+1)=(i:Int)+1:=by rw[jx];omega);go_upto_region 5 with fail
   refine iD (S:=fun V=>AJ V ⟨w.heap.size,0,O⟩=I (.func (.func f) #[] Q)) ao d.how.cell (fun r=>?_);have d0:=d.left.c0;have d1:=d.left.c1;have d2:=d.left.c2;refine au 0 (zZ (I ⟨w.heap.size,0,O⟩)) ?_;refine au 1 (.func (.func f) #[] Q) ?_;refine au 3 (.func (.func t) #[] p) ?_;refine au 4 (E yR (i:Nat)) ?_;refine au 5 (E yR ((i:Int)+1)) ?_;refine aG [2,6] (cA ?_ (cA ?_ aH))
   focus
    intro b K;go_simp;refine K.o _ _ d.how.cell (fun a=>?_);clear K b r;have r:=a;clear a;refine aG [6] (cA ?_ aH);intro b K;go_simp;refine(P.o _ d.aa).af ?_;rintro e w2 ⟨rfl,z⟩;have c:=d.step z;obtain⟨e0,e1,e2,_,_,_⟩:=c.left.facts
   rotate_left
   focus
    intro b K;go_simp;refine(P.o _ d.aa).af ?_;rintro e w2 ⟨rfl,z⟩;have c:=d.step z;obtain⟨e0,e1,e2,_,_,_⟩:=c.left.facts;refine K.o _ _ c.how.cell (fun a=>?_);clear K b r;have r:=a;clear a;refine aG [2] (cA ?_ aH);intro b K;go_simp
   all_goals
    refine K.o _ _ c.how.cell (fun a=>?_);clear K b r;have r:=a;clear a;refine aG [7] (cA ?_ aH);intro b K;go_simp;refine(Cr.o _ c.aa).af ?_;rintro e w3 ⟨rfl,ad⟩;have m:=c.step ad;refine K.o _ _ m.how.cell (fun a=>?_);clear K b r;have r:=a;clear a;obtain⟨q0,q1,q2,p0,p1,p2⟩:=m.left.facts;refine aG [8] (cA ?_ aH);intro b K;go_simp;have D:=m.put nl xl yl;refine K.o _ _ D.how.cell (fun _=>eV ao ?_ _);clear K b r;go_wp2;go_roundw
    case rel=>exact⟨i+1,al,by rw[Int.natCast_succ],by rw[wu.o];exact D⟩
    case measure=>simp[intOf];omega
  ·have aj:i+1=n:=al
   (have HE:we (L (n - 1)=L i):=by show _=_;rw[show n - 1=i by omega]);have B6:=H.o;obtain⟨k0,k1,k2,f0,f1,f2⟩:=B6.left.facts;obtain⟨r0,r1,r2,t0,t1,t2⟩:=B6.res.facts;go_wp2;refine cN ((B6.res.put _ _ _).result rfl _ rfl) rfl ?_;exact⟨by rw[HE.o],eJ B6.aa al _ _ _⟩
abbrev bj (f:Fr):Rat:=val f.1 f.2.1 f.2.2
def great (f g:Fr):Fr:=if jS (bj f) (bj g)<0 then g else f
theorem aq5 (f g:Fr) (w:wA) (s:f.2.1.size+f.2.2.size<=100000) (t:g.2.1.size+g.2.2.size<=100000):
  c6 217 #[lB f,lB g] w (dj w (lB (great f g))):=by
 obtain⟨n,x,y⟩:=f;obtain⟨m,u,v⟩:=g;have l:=Fa (fun V:wA=>Uc (w:=V) (jS (val n x y) (val m u v)) rfl rfl rfl s t);have H:we (great (n,x,y) (m,u,v)=if jS (val n x y) (val m u v)<0 then(m,u,v) else(n,x,y)):=rfl;generalize great (n,x,y) (m,u,v)=r at *;generalize jS (val n x y) (val m u v)=k at *;have a:aL (((w.alloc (FC n x y)).alloc (FC m u v)).alloc (FC x3 ⟨#[]⟩ ⟨#[]⟩)) w.heap.size n x y:=((aL.new w n x y).alloc _).alloc _;have c:aL (((w.alloc (FC n x y)).alloc (FC m u v)).alloc (FC x3 ⟨#[]⟩ ⟨#[]⟩)) (w.heap.size+1) m u v:=(aL.at (w:=w.alloc (FC n x y)) aE m u v).alloc _;have b2:aL (((w.alloc (FC n x y)).alloc (FC m u v)).alloc (FC x3 ⟨#[]⟩ ⟨#[]⟩)) (w.heap.size+1+1) x3 ⟨#[]⟩ ⟨#[]⟩:=aL.at (w:=(w.alloc (FC n x y)).alloc (FC m u v)) aE x3 ⟨#[]⟩ ⟨#[]⟩;have h:da w (((w.alloc (FC n x y)).alloc (FC m u v)).alloc (FC x3 ⟨#[]⟩ ⟨#[]⟩)):=(((aw _ w).alloc (ak _) _).alloc aE _).alloc (by simp;omega) _;go_enter func217,ntmps217;go_wp2_with fail
 generalize (((w.alloc (FC n x y)).alloc (FC m u v)).alloc (FC x3 ⟨#[]⟩ ⟨#[]⟩))=W at a c b2 h⊢;refine(l.o _).af ?_;rintro e w1 ⟨rfl,b⟩;have p:=a.aa b a.lt;have q:=c.aa b c.lt;have d:=b2.aa b b2.lt;have i:=h.trans (b.af h.size);obtain⟨S,T,U,z,A,D⟩:=p.facts;obtain⟨B2,P,Q,K,L,M⟩:=q.facts;obtain⟨X,Y,B1,B9,B7,B6⟩:=d.facts;by_cases j:k<0
 ·have R:we (r=(m,u,v)):=by show _=_;rw[H.o,aA j]
  clear H;go_wp2;refine cN ((d.put _ _ _).result rfl _ rfl) rfl ?_;exact⟨by rw[R.o],eJ i al _ _ _⟩
 ·have R:we (r=(n,x,y)):=by show _=_;rw[H.o,aD j]
  have F:0<=k:=al
  clear H;go_wp2;refine cN ((d.put _ _ _).result rfl _ rfl) rfl ?_;exact⟨by rw[R.o],eJ i al _ _ _⟩
theorem acm (w:wA):c6 164 #[] w (dj w (zp #[.func (.func 160) #[] #[]])):=by
 go_enter func164,ntmps164;go_wp2;refine cN (EN rfl _ _ w.heap.size _ _ _ _ rfl (bE w _ _) underlying190 rfl ao) rfl ?_;exact⟨rfl,(aw _ w).alloc (ak _) _⟩
theorem aq4 (w:wA):c6 165 #[] w (dj w (zp #[.func (.func 217) #[] #[]])):=by
 go_enter func165,ntmps165;go_wp2;refine cN (EN rfl _ _ w.heap.size _ _ _ _ rfl (bE w _ _) underlying190 rfl ao) rfl ?_;exact⟨rfl,(aw _ w).alloc (ak _) _⟩
def dI:List Fr ->List wQ
 |[]=>[]
 |f::l=>zd f.1::zX f.2.1::zX f.2.2::dI l
theorem yM:∀l:List Fr,Z (dI l)=3*Z l
 |[]=>rfl
 |f::l=>by simp only[dI,dX,yM l];omega
theorem LB:∀(l:List Fr) (k:Nat) (h:k<Z l),(dI l)[k*3]? =I (zd l[k].1)/\(dI l)[k*3+1]? =I (zX l[k].2.1)/\(dI l)[k*3+2]? =I (zX l[k].2.2)
 |[],_,h=>absurd h aE
 |f::l,0,_=>⟨rfl,rfl,rfl⟩
 |f::l,k+1,h=>by
  have a:k<Z l:=by simpa using h
  obtain⟨b,c,d⟩:=LB l k a;have e:(k+1)*3=k*3+1+1+1:=al
  refine⟨?_,?_,?_⟩
  ·rw[e];exact b
  ·rw[show (k+1)*3+1=(k*3+1)+1+1+1 by omega];exact c
  ·rw[show (k+1)*3+2=(k*3+2)+1+1+1 by omega];exact d
theorem aaf:∀(l:List Fr) (k:Nat) (f:Fr),(((dI l).set (k*3) (zd f.1)).set (k*3+1) (zX f.2.1)).set (k*3+2) (zX f.2.2)=dI (l.set k f)
 |[],k,f=>by simp[dI]
 |x::l,0,f=>by simp[dI]
 |x::l,k+1,f=>by
  rw[show (k+1)*3=k*3+1+1+1 by omega,show k*3+1+1+1+1=(k*3+1)+1+1+1 by omega,show k*3+1+1+1+2=(k*3+2)+1+1+1 by omega];simp only[dI,VQ,aaf l k f]
def gR (w:wA) (g:Nat) (l:List Fr):Prop:=w.heap[g]? =I (yd (dI l).toArray 63 (0,0))
theorem gR.lt {l:List Fr} (h:gR w g l):g<w.heap.size:=(c5.1 h).1
theorem gR.fz {l:List Fr} (h:gR w g l) (j:Nat):w.frozen? ⟨g,j,O⟩=false:=eA w g j _ _ h
theorem gR.aa {b:Nat} {l:List Fr} (h:gR w g l) (a:Below b w w') (c:g<b):gR w' g l:=(a.block g c).trans h
theorem gR.cells {l:List Fr} (h:gR w g l) (k:Nat) (a:k<Z l):AJ w ⟨g,k*3,O⟩=I (zd l[k].1)/\w.cell? ⟨g,k*3+1,O⟩=I (zX l[k].2.1)/\w.cell? ⟨g,k*3+2,O⟩=I (zX l[k].2.2):=by
 obtain⟨b,c,d⟩:=LB l k a;refine⟨?_,?_,?_⟩<;>rw[a8 w g _ _ _ (0,0) h]<;>simpa using b5
theorem gR.fr {l:List Fr} (h:gR w g l):dE w (I ⟨g,0,O⟩) l:=fun k d=>by
 obtain⟨a,b,c⟩:=h.cells k d;refine⟨g,0,rfl,h.lt,?_,?_,?_⟩
 ·rw[bK];exact a
 ·rw[bK];exact b
 ·rw[bK];exact c
theorem gR.put {l:List Fr} (h:gR w g l) (k:Nat) (f:Fr):gR (AF (AF (AF w ⟨g,k*3,O⟩ (zd f.1)) ⟨g,k*3+1,O⟩ (zX f.2.1)) ⟨g,k*3+2,O⟩ (zX f.2.2)) g (l.set k f):=by
 have a:=ke w g (k*3) _ _ (zd f.1) h;have b:=ke _ g (k*3+1) _ _ (zX f.2.1) a;have c:=ke _ g (k*3+2) _ _ (zX f.2.2) b;rw[gR,c, <- aaf];simp
variable {xs:List wQ}
def tK:Fr:=(x3,⟨#[]⟩,⟨#[]⟩)
def uq (l:List Fr) (i:Nat):List Fr:=l.take i++List.replicate (Z l - i) tK
theorem adS (l:List Fr):uq l 0=List.replicate (Z l) tK:=by simp[uq]
theorem Xg (l:List Fr) (h:i<=Z l):Z (uq l i)=Z l:=by simp[uq];omega
theorem adV (l:List Fr):uq l (Z l)=l:=by simp[uq]
theorem adU (l:List Fr) (h:i<Z l):(uq l i).set i l[i]=uq l (i+1):=by
 rw[uq,uq,Hj _ _ (by simp;omega),ig h];have e:Z l - i=(Z l - (i+1))+1:=al
 rw[e,MM,eZ,wI al,rT,CR,qj];rfl
theorem Tryz.infoFrac:(prog.info? 63).map (fun i=>(i.zero,i.size,i.bytes))=I (I (zp #[zd x3,zX ⟨#[]⟩,zX ⟨#[]⟩]),3,40):=ao
theorem bh.put {u v:wQ} (h:bh w g u v) (x y:wQ):bh (AF (AF w ⟨g,0,O⟩ x) ⟨g,1,O⟩ y) g x y:=by
 have a:=ke w g 0 _ _ x h;have b:=ke _ g 1 _ _ y a;exact b
theorem gR.off {l:List Fr} (h:gR w g l) (b j:Nat) (y:wQ) (e:g≠b):gR (AF w ⟨b,j,O⟩ y) g l:=(eO w ⟨b,j,O⟩ y g e).trans h
theorem aaE {base:Nat} {t:TypeId} (h:w.ownsRow base t 3 (J (I ⟨g,0,O⟩) n n) n xs):w.heap[g]? =I (yd xs.toArray t (0,0)):=by
 rcases h.2 with ⟨a,_⟩ |⟨g',p,c,a,_,b,F,_,s,H⟩
 ·cases a
 ·cases a;rw[b, <- H,lg (by simp;omega)]
theorem ahe:∀(n j:Nat),j<3*n ->(dI (List.replicate n tK))[j]? =I (#[Value.bool x3,Value.string ⟨#[]⟩,Value.string ⟨#[]⟩][j % 3]!)
 |0,j,h=>al
 |n+1,0,_=>rfl
 |n+1,1,_=>rfl
 |n+1,2,_=>rfl
 |n+1,j+3,h=>by
  rw[show (j+3) % 3=j % 3 by omega,MM];exact ahe n j al
theorem NT (n:Nat):(madeCells (Value.agg #[Value.bool x3,Value.string ⟨#[]⟩,Value.string ⟨#[]⟩]).cells (n*3)).toList=dI (List.replicate n tK):=by
 apply MT;intro j;by_cases h:j<3*n
 ·rw[ahe n j h,madeCells];have a:j<n*3:=al
  simp[a,Value.cells]
 ·rw[jw (by rw[Hq,size_madeCells];omega),jw (by rw[yM,ui];omega)]
theorem Po (a b:Kd) (ca cb:Nat) (Fb Fd:Kx) (F:Nat) (lb:Array wQ) (eF:∀Y w,(callFunc F Y).run prog w=.ok (.enter F Y) w) (l:List Fr) (w:wA) (hs:aC w a Fb) (M:aC w b Fd) (R:fJ Fb) (t:Up Fd (Z Fb)) (K:Z l=cnt (ag Fb) (ag Fd))
  (L:∀k (h:k<Z l),∀V,da w V ->c6 F (#[E yR (k:Nat)]++lb) V fun e w'=>e=yk (lB l[k])/\da V w'):
  c6 115 #[J a (Z Fb) ca,J b (Z Fd) cb,.func (.func F) #[] lb] w fun e w'=>∃g:Nat,e=yk (zp #[J b (Z Fd) cb,J (I ⟨g,0,O⟩) (Z l) (Z l)])/\w.heap.size<=g/\gR w' g l/\da w w':=by
 obtain⟨i0,cH,an,aq,ar⟩:=eo Tryz.infoFrac;have HS:=Fa hs;have HV:=Fa M;have HT:=Fa L;have A:=Fa (fun V h1 h2=>ah1 a b ca cb Fb Fd V h1 h2 R t);have tJ:=R.eight;have gM:=t.length;have aj:cnt (ag Fb) (ag Fd)<=65536:=xC R.sz_le (by rw[gG];omega);rw[<- K] at aj A;clear hs M L K R t;go_enter func115,ntmps115;go_wp2_with fail
 have u:(AC w (yd #[J O 0 0,J O 0 0] 38)).heap[w.heap.size]? =I (yd #[J O 0 0,J O 0 0] 38 (0,0)):=dU _ _;have j:da w (AC w (yd #[J O 0 0,J O 0 0] 38)):=(aw _ w).alloc (ak _) _;have X:(AC w (yd #[J O 0 0,J O 0 0] 38)).heap.size=w.heap.size+1:=aE
 generalize (AC w (yd #[J O 0 0,J O 0 0] 38))=W at u j X⊢;refine(A.o _ (HS.o.aa j) (HV.o.aa j)).af ?_;rintro e c ⟨rfl,q⟩;have ai:=q.size;have B9:c.heap[w.heap.size]? =I (yd #[J O 0 0,J O 0 0] 38 (0,0)):=(q.block _ al).trans u;have v:=j.trans (q.af j.size)
 go_wp2_with (first
  |(at_make;refine oX _ rfl _ _ 36 rfl c.heap.size 63 i0 (zp #[zd x3,zX ⟨#[]⟩,zX ⟨#[]⟩]) 3 underlying36 cH an aq yR yR _ _ (Z l) rfl rfl bd bd (by rw[ar];omega) (by unfold maxLen;omega) (ak _) ?_;intro n ab ad))
 have y:=aaE ab;rw[NT] at y;have B7:we (gR n c.heap.size (List.replicate (Z l) tK)):=y;have x:da c n:=(aw _ c).grown ad (ak _) (fun k e=>by cases e);have b2:n.heap[w.heap.size]? =I (yd #[J O 0 0,J O 0 0] 38 (0,0)):=(x.block _ al).trans B9;have B1:=Fa (v.trans (x.af v.size));have av:w.heap.size+1<=c.heap.size:=al
 generalize c.heap.size=G at *;clear ab ad y x B9 u j q v ai X;have S:we (bh n w.heap.size (J O 0 0) (J O 0 0)):=b2;clear b2;go_wp2_with fail
 go_loopw [15] (fun iv wr=>∃i:Nat,i<=Z l/\iv=E yR i/\we (gR wr G (uq l i))/\we (bh wr w.heap.size (J O 0 0) (J O 0 0))/\we (da w wr)) (fun iv _=>Z l - (intOf iv).toNat)
 case atStart=>exact⟨0,aX _,rfl,by rw[adS];exact B7,S,B1⟩
 case round=>
  obtain⟨i,hi,rfl,s,H,m⟩:=hrel;clear B7 S B1;by_cases U:i<Z l
  ·have ae:=Fa (adU l U);have D:=Fa (HT.o i U);have ax:=Xg l hi;generalize l[i]=f at *;obtain⟨fn,fx,fy⟩:=f;go_wp2_with fail
   refine(D.o _ m.o).af ?_;rintro e T ⟨rfl,r⟩;have d:=s.o.aa r s.o.lt;have Q:bh T w.heap.size (J O 0 0) (J O 0 0):=(r.block _ (c5.1 H.o).1).trans H.o;have B6:=m.o.trans (r.af m.o.size);obtain⟨k0,k1,k2⟩:=d.cells i al;have f0:=d.fz (i*3);have f1:=d.fz (i*3+1);have f2:=d.fz (i*3+2);generalize (uq l i)[i]=z at *;obtain⟨zn,zx,zy⟩:=z;simp only at k0 k1 k2;have P:=Fa (d.put i (fn,fx,fy));rw[ae.o] at P;have UI:we (bh (AF (AF (AF T ⟨G,i*3,O⟩ (zd fn)) ⟨G,i*3+1,O⟩ (zX fx)) ⟨G,i*3+2,O⟩ (zX fy)) w.heap.size (J O 0 0) (J O 0 0)):=(eO _ ⟨G,i*3+2,O⟩ _ w.heap.size (by show w.heap.size≠G;omega)).trans ((eO _ ⟨G,i*3+1,O⟩ _ w.heap.size (by show w.heap.size≠G;omega)).trans ((eO _ ⟨G,i*3,O⟩ _ w.heap.size (by show w.heap.size≠G;omega)).trans Q));have wC:=Fa (((B6.setCell (p:=⟨G,i*3,O⟩) (by show w.heap.size<=G;omega) (zd fn)).setCell (p:=⟨G,i*3+1,O⟩) (by show w.heap.size<=G;omega) (zX fx)).setCell (p:=⟨G,i*3+2,O⟩) (by show w.heap.size<=G;omega) (zX fy));clear d Q B6 r D;go_wp2;go_roundw
   case rel=>exact⟨i+1,al,bd,P,UI,wC⟩
   case measure=>simp[intOf];omega
  ·obtain rfl:i=Z l:=al
   have B2:=s.o;rw[adV] at B2;obtain⟨t0,t1⟩:AJ wr ⟨w.heap.size,0,O⟩=I (J O 0 0)/\wr.cell? ⟨w.heap.size,1,O⟩=I (J O 0 0):=⟨H.o.c0,H.o.c1⟩;have g0:wr.frozen? ⟨w.heap.size,0,O⟩=false:=eA wr w.heap.size 0 _ _ H.o;have g1:wr.frozen? ⟨w.heap.size,1,O⟩=false:=eA wr w.heap.size 1 _ _ H.o;go_wp2;refine cN (EN rfl _ _ w.heap.size _ _ _ _ rfl (H.o.put _ _) underlying38 rfl ao) rfl ?_;exact⟨G,rfl,al,(B2.off _ 0 _ al).off _ 1 _ al,(m.o.setCell (p:=⟨w.heap.size,0,O⟩) (ak _) _).setCell (p:=⟨w.heap.size,1,O⟩) (ak _) _⟩
variable {vs:Jp}
theorem aiy:∀ {vs:Jp} {k i:Nat},vs.Nodup ->(h:i<Z vs) ->(oQ S vs k)[i]? =I (aY S vs k vs[i])
 |[],_,_,_,h=>absurd h aE
 |u::vs,k,0,_,_=>by simp[oQ,aY]
 |u::vs,k,i+1,hn,h=>by
  rw[mY] at hn;have a:i<Z vs:=by simpa using h
  have e:¬vs[i]=u:=fun e=>hn.1 (by rw[<- e];exact bQ a);rw[oQ,List.getElem?_cons_succ,aiy hn.2 a,VX,aY,aD e]
def r5 (n:Nat) (f:Nat ->Nat):Jp:=(List.range n).map f
theorem Hy (n:Nat) (f:Nat ->Nat):Z (r5 n f)=n:=by simp[r5]
theorem WL (h:v<n):(r5 n f)[v]? =I (f v):=by simp[r5,h]
theorem ak5 {g:Nat ->Nat} (h:∀v,v< n ->f v=g v):r5 n f=r5 n g:=qh fun v a=>h v (bR.1 a)
theorem ak4 (v x:Nat):(r5 n f).set v x=r5 n (aN f v x):=by
 apply MT;intro u;rw[List.getElem?_set];by_cases a:u<n
 ·rw[WL a,WL a,aN,Hy];by_cases e:v=u
  ·subst e;rw[aA rfl,aA a,aA rfl]
  ·rw[aD e,aD (fun h=>e h.symm)]
 ·rw[jw (by rw[Hy];omega),jw (by rw[Hy];omega),Hy];by_cases e:v=u
  ·rw[aA e,aD al]
  ·rw[aD e]
theorem amD (S:Jp) (f:Nat ->Nat) (h:i<Z vs):pos S f (vs.take (i+1))=pos S f (vs.take i)*sz S vs[i]+f vs[i]:=by
 rw[ig h,amE]
theorem E6 {x:Nat} (h:∀u,f u<sz S u) (a:x<sz S v) (u:Nat):aN f v x u<sz S u:=by
 rw[aN];by_cases e:u=v
 ·rw[aA e,e];exact a
 ·rw[aD e];exact h u
def qF (q:Rat):Fr:=(aV q,nu q,de q)
theorem T2 (q:Rat):lB (qF q)=zp #[zd (aV q),zX (nu q),zX (de q)]:=rfl
theorem j5 (q:Rat):bj (qF q)=q:=kN q
def aS (l:List Fr) (k:Nat):Fr:=l[k]?.getD tK
theorem qP {l:List Fr} (h:k<Z l):aS l k=l[k]:=by rw[aS,ba h];rfl
theorem as9 {l:List Fr} (h:k<Z l):(aS l k).2.1.size+(aS l k).2.2.size+2<=fw l:=by rw[qP h];exact TY (bQ h)
def vo (l:List Fr):List Fr:=l.map fun f=>qF (bj f*(1/b9 l))
def yN (S Fd rest:Jp) (v x:Nat) (l:List Fr):List Fr:=(List.range (cnt S rest)).map fun K=>qF (bj (aS l (pos S (aN (aY S rest K) v x) Fd)))
def nk (most:Bool) (T:Nat ->Fr):Nat ->Fr
 |0=>T 0
 |k+1=>if most then great (nk most T k) (T (k+1)) else qF (bj (nk most T k)+bj (T (k+1)))
def sf (S Fd rest:Jp) (v:Nat) (most:Bool) (l:List Fr):List Fr:=(List.range (cnt S rest)).map fun K=>qF (bj (nk most (fun x=>aS l (pos S (aN (aY S rest K) v x) Fd)) (sz S v - 1)))
def yf (S va vb U:Jp) (la lb:List Fr):List Fr:=(List.range (cnt S U)).map fun K=>qF (bj (aS la (pos S (aY S U K) va))*bj (aS lb (pos S (aY S U K) vb)))
def bY (l:Kx) (v:Int):Kx:=l.filter fun u=>!(u==v)
def Cw (m:Nat) (l:List Fr):Prop:=∀k,k<Z l ->(aS l k).2.1.size+(aS l k).2.2.size+2<=m
theorem Cw.up {l:List Fr} (h:Cw m l) (b:m<=n):Cw n l:=fun k a=>aO (h k a) b
def sw:List Fr ->Nat
 |[]=>0
 |f::l=>f.2.1.size+f.2.2.size+sw l
theorem bh.off {u v:wQ} (h:bh w g u v) (b j:Nat) (y:wQ) (e:g≠b):bh (AF w ⟨b,j,O⟩ y) g u v:=(eO w ⟨b,j,O⟩ y g e).trans h
theorem DX {Fb Fd:Kx} (h:kZ Fb Fd m=0):fJ Fb/\Up Fd (Z Fb)/\m=cnt (ag Fb) (ag Fd):=by
 rw[kZ] at h;by_cases a:countB Fb Fd=xq
 ·rw[aA a] at h;by_cases b:m=cnt (ag Fb) (ag Fd)
  ·exact⟨(aat a).1,(aat a).2,b⟩
  ·rw[aD b] at h;omega
 ·rw[aD a] at h;omega
open Go.Sort Go.Lib
def jb (B:Nat) (b:Kd) (cb:Nat):Prop:=(b=O ->cb=0)/\∀g o,b=I ⟨g,o,O⟩ ->B<=g
theorem jb.up {B C:Nat} {b:Kd} (h:jb B b cb) (a:C<=B):jb C b cb:=⟨h.1,fun g o e=>aO a (h.2 g o e)⟩
theorem jb.nil (B:Nat):jb B Option.none 0:=⟨fun _=>rfl,fun g o e=>by cases e⟩
theorem jb.at {B G:Nat} (h:B<=G):jb B (Option.some ⟨G,0,Option.none⟩) cb:=⟨(fun e=>by cases e),fun g o e=>by cases e;exact h⟩
def bS (w:wA) (B:Nat) (v:wQ) (l:Kx):Prop:=w.ownsRow B 3 1 v (Z l) (l.map (Value.int yR))
theorem bS.cases {B:Nat} {v:wQ} (h:bS w B v l):(v=J O 0 0/\l=[])∨∃g cap,v=J (I ⟨g,0,O⟩) (Z l) cap/\B<=g/\g<w.heap.size/\l.length<=cap/\cap<=maxLen/\Holds (Value.int yR) w g 0 l.toArray:=by
 rcases h.2 with ⟨a,b⟩ |⟨g,cap,r,a,b,c,f,i,n,k⟩
 ·exact yp ⟨a,Hm.1 b⟩
 ·refine xS ⟨g,cap,a,b,(c5.1 c).1,f,i,fun j m=>?_⟩;have d:j<Z l:=by simpa using m
  refine⟨?_,eA w g _ _ _ c⟩;rw[bK,a8 w g j _ _ (0,0) c]
  have e:r[j]? =(r.toList.take (Z l*1))[j]?:=by
   rw[tu,aA al,wM]
  rw[e,k,mr,ba d];simp[d]
theorem Dp {d:Array Int} (h:Holds (Value.int yR) w g 0 d) (b:g<w.heap.size) (f:∀j (i:j<Z l),∃a:j<d.size,d[j]=l[j]):aC w (I ⟨g,0,O⟩) l:=fun k c=>by
 obtain⟨a,e⟩:=f k c;refine⟨g,0,rfl,b,?_⟩;have:=(h k a).1;rw[MA d k a,e] at this;exact this
theorem bS.ints {B:Nat} {v:wQ} (h:bS w B v l):∃d c,v=J d (Z l) c/\aC w d l:=by
 rcases h.cases with ⟨rfl,rfl⟩ |⟨g,cap,rfl,_,a,_,_,b⟩
 ·exact⟨O,0,rfl,fun k f=>absurd f aE⟩
 ·exact⟨_,_,rfl,Dp b a fun j e=>⟨by simpa using e,aE⟩⟩
theorem Yc {b o:Nat} (h:aC w (I ⟨b,o,O⟩) l):∀j,j<Z l ->AJ w ⟨b,o+j,O⟩=I (E yR (l.getD j 0)):=fun j a=>by
 obtain⟨g,o',e,_,c⟩:=h j a;cases e;rw[c,cK,ba a];rfl
theorem Kq (b:Kd) (cb:Nat) (l:Kx) (w:wA) (h:aC w b l) (n:Z l<=1000000):
  c6 85 #[J b (Z l) cb] w fun e w'=>∃v,e=yk v/\bS w' w.heap.size v l/\da w w':=by
 cases b with
 |none=>
  have d:l=[]:=by
   cases l with
   |nil=>rfl
   |cons x l=>obtain⟨g,o,e,_⟩:=h 0 aE;cases e
  subst d;refine(Tryz.slices_Clone_int_nil 0 cb w).af ?_;rintro e w' ⟨rfl,rfl⟩;exact⟨_,rfl,⟨rfl,yp ⟨rfl,rfl⟩⟩,aw _ _⟩
 |some a=>
  cases l with
  |nil=>
   refine(Tryz.slices_Clone_int_zero a cb w).af ?_;rintro e w' ⟨v,rfl,r,_,c⟩;exact⟨v,rfl,r,c⟩
  |cons x l=>
   obtain⟨g,o,e,_⟩:=h 0 aE;cases e;refine(Tryz.slices_Clone_int g o (Z (x::l)) cb (x::l) w (ak _) al (Yc h)).af ?_;rintro e w' ⟨v,rfl,r,_,c⟩;rw[iP] at r;exact⟨v,rfl,r,c⟩
theorem Kp (b:Kd) (cb:Nat) (l:Kx) (x:Int) (w:wA) (h:aC w b l) (n:Z l<=140737488355328):
  c6 98 #[J b (Z l) cb,E yR x] w (dj w (zd (l.contains x))):=by
 cases l with
 |nil=>
  refine(Tryz.slices_Contains_int_empty b cb x w).af ?_;rintro e w' ⟨rfl,rfl⟩;exact⟨rfl,aw _ _⟩
 |cons y l=>
  obtain⟨g,o,rfl,_⟩:=h 0 aE;refine(Tryz.slices_Contains_int g o (Z (y::l)) cb (y::l) x w (ak _) al (Yc h)).af ?_;rintro e w' ⟨rfl,rfl⟩;rw[iP];exact⟨rfl,aw _ _⟩
theorem abR (u v:Int) (B:Nat) (W:wA) (c:AJ W ⟨B,0,O⟩=I (E yR v)):
  FnGives prog 218 #[zZ (I ⟨B,0,O⟩)] #[E yR u] (zd (u==v)) W:=by
 show c6 218 #[E yR u,zZ (I ⟨B,0,O⟩)] W _;go_enter func218,ntmps218;go_wp2
 all_goals (go_ret;exact⟨by simp_all,0,rfl⟩)
theorem ajV (v:Int) (B:Nat) (w:wA) (h:B<w.heap.size) (c:AJ w ⟨B,0,O⟩=I (E yR v)):
  PredAt prog 218 #[zZ (I ⟨B,0,O⟩)] (Value.int yR) (fun u=>u==v) w:=
 fun W x b=>abR x v B W ((b.cell (p:=⟨B,0,O⟩) h).trans c)
theorem ajU (v:Int) (B b f i:Nat) (w:wA) (h:B<w.heap.size) (e:B≠b) (c:AJ w ⟨B,0,O⟩=I (E yR v)):
  PredOver prog 218 #[zZ (I ⟨B,0,O⟩)] (Value.int yR) (fun u=>u==v) b f i w:=
 fun n o d x _=>abR x v B _ (by
  unfold sortWorld;rw[cell?_grow _ _ _ (by show B<(putRow _ _ _ _ _).heap.size;rw[size_putRow];exact h),cell?_putRow_other _ _ b f _ _ (Or.inl e)];exact c)
theorem WM (fv:wQ) (w:wA):c6 130 #[J O 0 0,fv] w (dj w (J O 0 0)):=by
 go_enter func130,ntmps130;go_wp2_with fail
 refine(Tryz.slices_IndexFunc_empty (α:=Int) O 0 fv w).af ?_;rintro e a ⟨rfl,rfl⟩;go_wp2;go_ret;exact⟨rfl,aw _ _⟩
theorem Ur {B:Nat} {a:wA} {os:Array Obj} (d:Array Int) (h:Below B a w) (c:B<=w.heap.size) (b:B<=g):Below B a (grow (putRow (Value.int yR) (Sort.ahead w n) g 0 d) os):=
 h.grown (Mz d) c fun k e=>by cases e;exact b
theorem Us {B:Nat} {a:wA} (d:Array Int) (h:Below B a w) (c:B<=w.heap.size) (b:B<=g):Below B a (putRow (Value.int yR) (Sort.ahead w n) g 0 d):=by
 have:=Ur (n:=n) (os:= #[]) d h c b;rwa [grow_empty] at this
theorem Wb (b:Kd) (cb:Nat) (Fd:Kx) (v:Int) (w:wA) (p:aC w b Fd) (B2:Z Fd<=1000000):
  c6 166 #[J b (Z Fd) cb,E yR v] w fun e w'=>∃(d:Kd) (m:Nat),e=yk (J d (Z (bY Fd v)) m)/\aC w' d (bY Fd v)/\jb w.heap.size d m/\da w w':=by
 have F:=Fa p;obtain⟨L,f⟩:∃L,L=bY Fd v:=⟨_,rfl⟩;rw[<- f];have H:=Fa f;clear p f;go_enter func166,ntmps166;go_wp2_with fail
 have h:da w (AC w (yd #[E yR v] 3)):=(aw _ w).alloc (ak _) _;have l:=bE w 3 (E yR v);generalize (AC w (yd #[E yR v] 3))=W at h l⊢;refine(Kq b cb Fd _ (F.o.aa h) B2).af ?_;rintro e s ⟨x,rfl,r,t⟩;have c:=bB l t;have a:=h.trans (t.af h.size);have X:=l.lt;have Y:=h.size;rcases r.cases with ⟨rfl,rfl⟩ |⟨g,cap,rfl,U,B7,y,T,i⟩
 ·go_wp2_with fail
  refine(WM _ _).af ?_;rintro e Q ⟨rfl,S⟩;go_wp2;go_ret;have D:L=[]:=H.o;subst D;exact⟨O,0,rfl,fun k M=>absurd M aE,jb.nil _,a.trans (S.af a.size)⟩
 ·have n:=Tryz.slices_DeleteFunc (Value.int yR) (fun _=>rfl) (fun u=>u==v) 218 #[zZ (I ⟨w.heap.size,0,O⟩)] (enters_of func218 ao rfl) 0 Tryz.zeroValue3 g 0 cap Fd.toArray s (ajV v _ _ c.lt c.cell) (ajU v _ g 0 _ _ c.lt al c.cell) i (by simp;omega) (by simpa using y);have z:Fd.toArray.size=Z Fd:=aE
  rw[z] at n;have V:Fd.toArray.toList.filter (fun x=>!(x==v))=bY Fd v:=by simp[bY]
  rw[V, <- H.o] at n;have K:Z L<=Z Fd:=by rw[H.o];exact oq _ _
  have B9:=Fa n;have A:=Fa i;have P:=Fa K;clear n i r z V y T K;go_wp2_with fail
  refine B9.o.af ?_;rintro e Q ⟨rfl,q,rfl⟩;go_wp2;go_ret
  have R:(L++List.replicate (Z Fd - Z L) 0).toArray.size=Fd.toArray.size:=by
   have:=P.o;simp;omega
  refine⟨I ⟨g,0,O⟩,cap,rfl,Dp (holds_putRow (Value.int yR) (Sort.ahead s q) g 0 Fd.toArray _ A.o R) (by rw[size_putRow];exact B7) (fun j B6=>⟨by simp;omega,by simp[ou,B6]⟩),jb.at al,Us _ a a.size al⟩
variable {fn:Func} {x':wQ}
def sU (Fd:Kx) (l:List Fr) (k:Int) (e:Ending) (w':wA):Prop:=∃(b c:Kd) (cb cc:Nat),e=yk (zz #[zp #[J b (Z Fd) cb,J c (Z l) cc],E yR k])/\aC w' b Fd/\dE w' c l
def xG (B:Nat) (Fd:Kx) (l:List Fr) (k:Int) (e:Ending) (w':wA):Prop:=∃(b c:Kd) (cb cc:Nat),e=yk (zz #[zp #[J b (Z Fd) cb,J c (Z l) cc],E yR k])/\aC w' b Fd/\dE w' c l/\jb B b cb/\jb B c cc
theorem sU.empty (k:Int) (w:wA):sU [] [] k (yk (zz #[zp #[J O 0 0,J O 0 0],E yR k])) w:=⟨O,O,0,0,rfl,fun k h=>absurd h aE,fun k h=>absurd h aE⟩
theorem bh.result2 {x:wQ} (h:bh w g x y) {p u:Tmp} (r:fn.results= #[.cell p 38,.tmp u]) (m:Array wQ) (a:m.getD p wd=zZ (I ⟨g,0,O⟩)):
  (results fn m).run prog w=.ok (zz #[zp #[x,y],m.getD u wd]) w:=by
 rw[results_cell_tmp r,a];simp only[asAddr,zi,wG];rw[run_loadVar_row w g _ 38 _ _ _ h underlying38 rfl ao];simp only[wG]
def bW (v:wQ):Prop:=∃a n c,v=Value.slice a n c
theorem aC.farT {V:wA} {c:Kd} {x:wQ} (h:aC V c l) (b:bh V g x y) (f:bW x) (i:bW y) (j:Nat) (u:wQ):aC (AF V ⟨g,j,O⟩ u) c l:=fun k d=>by
 obtain⟨g',o,rfl,t,a⟩:=h k d;obtain⟨p,v,r,rfl⟩:=f;obtain⟨q,w,s,rfl⟩:=i
 have n:¬g'=g:=fun e=>by
  subst e;rw[a8 V g' (o+k) _ _ (0,0) b] at a;match hm:o+k with
  |0=>rw[hm] at a;simp at a
  |1=>rw[hm] at a;simp at a
  |m+2=>rw[hm] at a;simp at a
 exact⟨g',o,rfl,aT t (kh V _ _).size,(gg _ _ _ _ (fun e=>n (eG Addr.block e).symm)).trans a⟩
theorem aC.putT {V:wA} {c:Kd} {x:wQ} (h:aC V c l) (b:bh V g x y) (e:bW x) (a:bW y) (i:bW x') (f:wQ):aC (AF (AF V ⟨g,0,O⟩ x') ⟨g,1,O⟩ f) c l:=by
 have d:bh (AF V ⟨g,0,O⟩ x') g x' y:=ke V g 0 _ _ x' b;exact(h.farT b e a 0 _).farT d i a 1 _
theorem slv (a:Kd) (n c:Nat):bW (J a n c):=⟨a,n,c,rfl⟩
theorem bh.facts {x:wQ} (h:bh w g x y):AJ w ⟨g,0,O⟩=I x/\w.cell? ⟨g,1,O⟩=I y/\w.frozen? ⟨g,0,O⟩=x3/\w.frozen? ⟨g,1,O⟩=false:=⟨h.c0,h.c1,eA w g 0 _ _ h,eA w g 1 _ _ h⟩
theorem rG {B:Nat} {a:wA} (h:Below B a w) (b:B<=g) (u v:wQ):Below B a (AF (AF w ⟨g,0,O⟩ u) ⟨g,1,O⟩ v):=(h.setCell b u).setCell b v
def NH (w V:wA) (u v:wQ):Prop:=bh V w.heap.size u v/\bh V (w.heap.size+1) (J O 0 0) (J O 0 0)/\da w V
theorem NH.step {V:wA} {u v:wQ} (h:NH w V u v) (b:da V V'):NH w V' u v:=⟨h.1.aa b h.1.lt,h.2.1.aa b h.2.1.lt,h.2.2.trans (b.af h.2.2.size)⟩
theorem NH.drew {V:wA} {u v:wQ} (h:NH w V u v):NH w V.drew u v:=⟨h.1,h.2.1,h.2.2.drew⟩
theorem NH.new (w:wA) (u v:wQ):NH w ((w.alloc (TC u v)).alloc (TC (J O 0 0) (J O 0 0))) u v:=⟨(bh.at (w:=w) rfl _ _).alloc _,bh.at (w:=w.alloc (TC u v)) aE _ _,((aw _ w).alloc (ak _) _).alloc aE _⟩
theorem NH.off {V:wA} {u v:wQ} (h:NH w V u v) (B j:Nat) (y:wQ) (a:w.heap.size+1<B):NH w (AF V ⟨B,j,O⟩ y) u v:=⟨h.1.off B j y al,h.2.1.off B j y al,h.2.2.setCell (p:=⟨B,j,O⟩) (by show w.heap.size<=B;omega) y⟩
theorem NH.lt {V:wA} {u v:wQ} (h:NH w V u v):w.heap.size+1<V.heap.size:=h.2.1.lt
variable {la lb:Kx} {rest:List Oper}
theorem alc (n:Nat) (g:n<=100000) (w:wA):
  c6 184 #[J O 0 0,E yR (n:Nat)] w fun e w'=>∃v,e=yk v/\bS w' w.heap.size v []/\da w w':=by
 obtain⟨i,c,f,k,z⟩:=eo Tryz.infoInt;by_cases h:n=0
 ·subst h;go_enter func184,ntmps184;go_wp2;go_ret;exact⟨_,rfl,⟨rfl,yp ⟨rfl,rfl⟩⟩,aw _ _⟩
 ·have d:(Builtin.firstCells i.size 0 (J O 0 0)).run prog w.drew=.ok ([]:List wQ).toArray w.drew:=run_firstCells_none w.drew i.size 0 0 0
  have F:∀t,(Builtin.append_ #[27,3] t #[J O 0 0,E yR (n:Int)]).run prog w=.ok (J (I ⟨w.heap.size,0,O⟩) (0+n) (grownCap w (0+n) 0 3)) (AC w.drew (yd (([]:List wQ).toArray++Builtin.zeroCells (Value.int yR 0).cells n++Builtin.zeroCells (Value.int yR 0).cells (grownCap w (0+n) 0 3 - (0+n))) 3)):=fun t=>
   Lib.run_append_grow_zeros w 27 3 t 3 i (E yR 0) yR yR underlying27 underlying3 c f O 0 0 [] d n al al al al (by rw[z];omega) (QL al (by rw[z];omega))
  have b:0+n<=grownCap w (0+n) 0 3:=grownCap_ge w _ _ _;have B2:=grownCap_le_maxLen w (0+n) 0 3 (by unfold maxLen;omega);rw[bK] at F b B2;obtain⟨G,a⟩:∃G,G=grownCap w n 0 3:=⟨_,rfl⟩;rw[<- a] at F b B2;have V:=Fa B2;have j:G<=9223372036854775807:=by unfold maxLen at B2;omega
  have M:(0:Int)<(n:Int):=al
  clear d a B2;go_enter func184,ntmps184;go_wp2_with (at_builtin;refine Lib.wpList_append_run _ rfl _ _ _ _ rfl _ _ rfl rfl _ _ (F _) ?_)
  go_ret;refine⟨_,rfl,⟨rfl,xS ⟨w.heap.size,G,_,rfl,ak _,dU w.drew _,aX _,V.o,?_,aE⟩⟩,((aw _ w).drew).alloc (ak _) _⟩;simp[size_zeroCells];omega
theorem CW {o:Oper} {a:Act} (r:o.guard=O) (s x:Operand)
  (k:o.op=.call {callee:=.builtin .append,args:= #[s,x],argTypes:= #[27,27]}) (base:Nat) (v:wQ) (xs la:Kx) (hs:a.eval s=v) (n:bS w base v xs) (p:Kd) (ca:Nat) (m:a.eval x=J p (Z la) ca) (i:aC w p la) (A:p=O ->ca=0) (L:Z xs+Z la<=100000) (K:base<=w.heap.size)
  (h:∀v' w',bS w' base v' (xs++la) ->w.grownBy w' v.ownBlock ->wpList prog ops Q rest (a.put o.dst v') w'):wpList prog ops Q (o::rest) a w:=by
 obtain⟨q,H,B9,F,B6⟩:=eo Tryz.infoInt;cases p with
 |none=>
  have y:la=[]:=by
   cases la with
   |nil=>rfl
   |cons x l=>obtain⟨g,o,e,_⟩:=i 0 aE;cases e
  subst y;have c:=A rfl;subst c;have d:=h v w (by rw[lh];exact n) ⟨rfl,rfl,rfl,ak _,fun _ _ _=>rfl⟩;exact wpList_append_own_none r s x 27 k base 3 q 1 underlying27 H v (Z xs) _ hs n m d
 |some ad=>
  refine AU _ r s x 27 k base 3 q (E yR 0) 1 8 underlying27 H B9 F B6 rfl a6 v (Z xs) _ hs n ad (Z la) ca (la.map (Value.int yR)) m aE ?_ ?_ (by unfold maxLen;omega) al K ?_
  ·intro j u b;rw[mr] at b;cases hq:la[j]? with
   |none=>rw[hq] at b;cases b
   |some z=>
    rw[hq] at b;cases b;obtain⟨B7,B2⟩:=oA.1 hq;obtain⟨g,o',e,_,f⟩:=i j B7;cases e;rw[<- B2];rw[Addr.add];by_cases c:j=0
    ·subst c;simpa using f
    ·simpa [c] using f
  ·intro u D;obtain⟨z,_,rfl⟩:=aQ.1 D;rfl
  ·intro v' w' d t _;refine h v' w' ?_ t;rw[bS,cD,gK];exact d
def B4 (la lb:Kx) (i:Nat):Kx:=if i=0 then[] else if i=1 then la else la++lb
theorem bS.own {B:Nat} {v:wQ} (h:bS w B v l):∀k,v.ownBlock=I k ->B<=k:=by
 intro k a;rcases h.2 with ⟨rfl,_⟩ |⟨g,cap,c,rfl,b,_⟩
 ·cases a
 ·cases a;exact b
theorem arK (l:Z la<=1000) (k:Z lb<=1000) (i:Nat):Z (B4 la lb i)<=2000:=by
 rw[B4];by_cases h:i=0
 ·rw[aA h];simp
 ·rw[aD h];by_cases a:i=1
  ·rw[aA a];omega
  ·rw[aD a,cD];omega
theorem acL (R:Nat) (a b:Kd) (ca cb:Nat) (la lb:Kx) (w:wA) (x:R<w.heap.size) (K:AJ w ⟨R,0,O⟩=I (J a (Z la) ca)) (L:AJ w ⟨R,1,O⟩=I (J b (Z lb) cb)) (y:aC w a la) (m:aC w b lb) (M:a=O ->ca=0) (B2:b=O ->cb=0) (V:Z la<=1000) (T:Z lb<=1000):
  c6 132 #[J (I ⟨R,0,O⟩) 2 2] w fun e w'=>∃v,e=yk v/\bS w' w.heap.size v (la++lb)/\da w w':=by
 have U:∀i,i< 2 ->∃(p:Kd) (c:Nat) (l:Kx),AJ w ⟨R,i,O⟩=I (J p (Z l) c)/\aC w p l/\(p=O ->c=0)/\l.length<=1000/\B4 la lb (i+1)=B4 la lb i++l:=by
  intro i z;by_cases h:i=0
  ·subst h;exact⟨a,ca,la,K,y,M,V,by simp[B4]⟩
  ·obtain rfl:i=1:=al
   exact⟨b,cb,lb,L,m,B2,T,by simp[B4]⟩
 have u:=Fa U;have q:=Fa (fun i=>arK V T i);have k:B4 la lb 2=la++lb:=by simp[B4]
 rw[<- k];have A:B4 la lb 0=[]:=rfl;clear U K L y m M B2 k V T;generalize B4 la lb=F at *;go_enter func132,ntmps132;go_wp2_with fail
 go_loopw [3,11] (fun sv iv wr=>∃i:Nat,i<=2/\iv=E yR i/\sv=E yR (Z (F i):Nat)/\we (da w wr)) (fun _ iv _=>2 - (intOf iv).toNat)
 case atStart=>exact⟨0,al,rfl,by rw[A];rfl,aw _ _⟩
 case round=>
  obtain⟨i,z,rfl,rfl,H⟩:=hrel;by_cases t:i<2
  ·obtain⟨p,c,l,f,B7,n,hl,j⟩:=u.o i t;have ad:=(H.o.cell (p:=⟨R,i,O⟩) x).trans f;have B6:=q.o i;(have ae:IntKind.i64.wrap ((Z (F i):Int)+(Z l:Int))=(Z (F i):Int)+(Z l:Int):=by rw[jx];omega);(have B9:we ((Z (F (i+1)):Int)=(Z (F i):Int)+(Z l:Int)):=by show _=_;rw[j,cD];exact E0 _ _);(have zN:(0:Int)<=(Z (F i):Int)+(Z l:Int):=al);clear j f n B7;go_wp2;go_roundw
   case rel=>exact⟨i+1,al,bd,by rw[B9.o],H⟩
   case measure=>simp[intOf];omega
  ·obtain rfl:i=2:=al
   have B6:=q.o 2;go_wp2_with fail
   refine(alc (Z (F 2)) al _).af ?_;rintro e w1 ⟨v1,rfl,r,P⟩;have cO:=Fa (H.o.trans (P.af H.o.size));have D:we (∀b,b<=wr.heap.size ->bS w1 b v1 []):=fun b m=>⟨r.1,r.2.imp id (fun ⟨g,cap,ab,h1,k,h3⟩=>⟨g,cap,ab,h1,aO m k,h3⟩)⟩;have B1:=Fa (D.o w.heap.size H.o.size);clear r P D;go_wp2_with fail
   go_loopw [6,27] (fun sv iv wr=>∃i:Nat,i<=2/\iv=E yR i/\we (bS wr w.heap.size sv (F i))/\we (da w wr)) (fun _ iv _=>2 - (intOf iv).toNat)
   case atStart=>exact⟨0,al,rfl,by rw[A];exact B1,cO⟩
   case round=>
    obtain⟨i,z,rfl,s,d⟩:=hrel;by_cases t:i<2
    ·obtain⟨p,c,l,f,B7,n,hl,j⟩:=u.o i t;have ad:=(d.o.cell (p:=⟨R,i,O⟩) x).trans f;have B6:=q.o i;have X:=Fa (B7.aa d.o);have Y:=Fa n;have B9:=Fa j;have uV:=Fa s.o.own;clear j f n B7;go_wp2_with (at_builtin;refine CW rfl _ _ rfl w.heap.size _ (F i) l rfl s.o p c rfl X.o Y.o al d.o.size ?_;intro v' w2 S Q)
     have eD:=Fa S;have aZ:=Fa (d.o.grown Q d.o.size uV.o);clear S Q;go_roundw
     case rel=>exact⟨i+1,al,bd,by rw[B9.o];exact eD,aZ⟩
     case measure=>simp[intOf];omega
    ·obtain rfl:i=2:=al
     go_wp2;go_ret;exact⟨_,rfl,s.o,d.o⟩
theorem tE (w:wA) (u:Int):aC (AC w (yd #[E yR u] 3)) (I ⟨w.heap.size,0,O⟩) [u]:=fun k h=>by
 obtain rfl:k=0:=by simp at h;omega
 exact⟨w.heap.size,0,rfl,aE,(bE w _ _).cell⟩
theorem bS.under {B:Nat} {v:wQ} (h:bS w B v l) (e:da w w'):bS w' B v l:=by
 refine⟨h.1,h.2.imp id ?_⟩;rintro⟨g,cap,r,b,c,a,d⟩;exact⟨g,cap,r,b,c,(e.block g (c5.1 a).1).trans a,d⟩
theorem arF {o:Jp} (h:v∈o):iZ P o v=false:=by simp[iZ,h]
theorem arE {o p:Jp} (a:P.getD v []=p) (h:¬∀u∈p,u∈o):iZ P o v=false:=by rw[iZ,a,cT h,Bool.and_false]
theorem arD {o p:Jp} (b:P.getD v []=p) (h:¬v∈o) (a:∀u∈p,u∈o):iZ P o v=true:=by rw[iZ,b,cJ a,cT h];rfl
theorem anA (G c:Nat) (P:List Jp) (w:wA) (r:dw w G (P.map aB)) (hn:Z P<=8) (q:∀p∈P,∀u∈p,u<8):
  c6 180 #[J (I ⟨G,0,O⟩) (Z P) c] w fun e w'=>∃x,e=yk x/\bS w' w.heap.size x (iL (bc P (Z P)))/\da w w':=by
 obtain⟨i0,cH,aq,ar,av⟩:=eo Tryz.infoInt;have U:=Fa r
 have X:we (∀i,i<Z P ->(∀u∈P.getD i [],u<8)/\∃h:i<Z (P.map aB),(P.map aB)[i]=aB (P.getD i [])):=fun i j=>by
  have e:P.getD i []=P[i]:=by rw[cK,ba j];rfl
  rw[e];exact⟨q _ (bQ j),by simpa using j,aE⟩
 have d:we (∀k,∀u∈bc P k,u<8):=fun k u s=>aT (H6 P k u s) hn;have Qq:=Fa (KI P);have yT:we (∀k v,v<Z P ->iZ P (bc P k) v=xq ->(∀u,u< v ->iZ P (bc P k) u=x3) ->bc P (k+1)=bc P k++[v]):=fun k v g a h3=>Sg (an3 g a h3);have an:we (∀k,k<=Z P ->(∀u,u<Z P ->iZ P (bc P k) u=x3) ->bc P (Z P)=bc P k):=fun k g a=>anB (an4 a) g;have m:we (bc P 0=[]):=rfl;generalize hF:bc P=F at *;clear r q hF;go_enter func180,ntmps180;go_wp2_with fail
 go_step3
 go_wp2_with (first
  |(at_make;refine wpList_make_own _ rfl _ _ 27 rfl w.heap.size 3 i0 (E yR 0) 1 underlying27 cH aq ar yR yR _ (Z P) rfl rfl bd (by rw[av];omega) (by unfold maxLen;omega) (ak _) ?_;intro D L B2))
 have B7:we (bS D w.heap.size (J (I ⟨w.heap.size,0,O⟩) 0 (Z P)) []):=L;have B1:we (da w D):=(aw _ w).grown B2 (ak _) (fun k e=>by cases e);clear L B2;go_wp2_with fail
 go_step3
 go_wp2_with fail
 go_loopw [3,4,12] (fun sv lv iv wr=>∃k:Nat,k<=Z P/\iv=E yR k/\sv=E yW (aB (F k):Nat)/\we (bS wr w.heap.size lv (iL (F k)))/\we (da w wr)) (fun _ _ iv _=>Z P - (intOf iv).toNat)
 case atStart=>exact⟨0,aX _,rfl,by rw[m.o];rfl,by rw[m.o];exact B7,B1⟩
 case round=>
  obtain⟨k,hk,rfl,rfl,R,H⟩:=hrel;clear B7 B1;by_cases ax:k<Z P
  ·have ao:=Fa (U.o.aa H.o U.o.lt);go_wp2_with fail
   go_loopw [3,4,16] (fun sv lv jv wq=>∃v:Nat,v<=Z P/\jv=E yR v/\sv=E yW (aB (F k):Nat)/\lv=u4/\we (∀u,u< v ->iZ P (F k) u=x3)/\wq=wr) (fun _ _ jv _=>Z P - (intOf jv).toNat)
   case atStart=>exact⟨0,aX _,rfl,rfl,rfl,fun u h=>absurd h al,rfl⟩
   case round=>
    obtain⟨v,hv,rfl,rfl,rfl,f,rfl⟩:=hrel;by_cases M:v<Z P
    ·obtain⟨Y,K,A⟩:=X.o v M;have c0:=ao.o.cell v K;rw[A] at c0;have aj:=Fa Y;have ab:we (v∈F k ->iZ P (F k) v=x3):=arF;have ad:we (¬(∀u∈P.getD v [],u∈F k) ->iZ P (F k) v=x3):=arE rfl;have ae:we (¬v∈F k ->(∀u∈P.getD v [],u∈F k) ->iZ P (F k) v=xq):=arD rfl
     have B6:we (iZ P (F k) v=x3 ->∀u,u<v+1 ->iZ P (F k) u=x3):=fun h u s=>by
      rcases dR u v with a |a
      ·exact f.o u a
      ·obtain rfl:u=v:=al
       exact h
     clear Y K A;generalize P.getD v []=p at *;go_wp2_with fail
     refine(Kt (F k) v _ (d.o k) al).af ?_;rintro e w3 ⟨rfl,rfl⟩;by_cases n:v∈F k
     ·rw[cJ n];have B9:=Fa (B6.o (ab.o n));clear n;go_wp2;go_roundw
      case rel=>exact⟨v+1,al,bd,rfl,rfl,B9,trivial⟩
      case measure=>simp[intOf];omega
     ·rw[cT n];have T:=Fa n;clear n;go_wp2_with fail
      refine(alI (F k) p _ (d.o k) aj.o).af ?_;rintro e l ⟨rfl,rfl⟩;by_cases b:∀u∈p,u∈F k
      ·rw[cJ b];have S:=yT.o k v M (ae.o T.o b) f.o;(have V:we (aB (v::F k)=aB (F (k+1))):=Sr fun z=>by rw[S,bU,bH,bD];exact or_comm);(have ai:we (iL (F (k+1))=iL (F k)++[(v:Int)]):=by show _=_;rw[S,Ye];rfl)
       have Mq:we (Z (iL (F k))<=8):=by
        have:=Qq.o k;show Z (iL (F k))<=8;rw[bM];omega
       clear b S;have uV:=Fa R.o.own;have rL:we (bS (AC l (yd #[E yR (v:Nat)] 3)) w.heap.size _ (iL (F k))):=He R.o _;have Q:=Fa (H.o.alloc H.o.size (yd #[E yR (v:Nat)] 3));have nX:=Fa (tE l (v:Nat));go_wp2_with (at_builtin;refine CW rfl _ _ rfl w.heap.size _ (iL (F k)) [((v:Nat):Int)] rfl rL.o (I ⟨l.heap.size,0,O⟩) 1 rfl nX.o (fun e=>by cases e) (by have:=Mq.o;simp;omega) Q.o.size ?_;intro v' w5 y t)
       have uR:=Fa y;have fh:=Fa (Q.o.grown t Q.o.size uV.o);clear y t;refine(Ks (F k) v _ (d.o k) al).af ?_;rintro e w6 ⟨rfl,rfl⟩;rw[V.o];go_wp2;go_roundw
       case rel=>exact⟨k+1,al,bd,rfl,by rw[ai.o];exact uR,fh⟩
       case measure=>simp[intOf];omega
      ·rw[cT b];have B9:=Fa (B6.o (ad.o b));clear b;go_wp2;go_roundw
       case rel=>exact⟨v+1,al,bd,rfl,rfl,B9,trivial⟩
       case measure=>simp[intOf];omega
    ·obtain rfl:v=Z P:=al
     have B9:=Fa (an.o k hk f.o);go_wp2;(try rw[Exit.noGoto_ret]);go_ret;exact⟨_,rfl,by rw[B9.o];exact R.o,H.o⟩
  ·obtain rfl:k=Z P:=al
   go_wp2;(try rw[Exit.noGoto_ret]);go_ret;exact⟨_,rfl,R.o,H.o⟩
variable {z:wQ}
abbrev Vr:Type:=ByteArray×List ByteArray
def tM (w:wA) (a:Kd) (V:List Vr):Prop:=∀k (h:k<Z V),∃g o b c,a=I ⟨g,o,O⟩/\g<w.heap.size/\w.cell? ⟨g,o+k*2,O⟩=I (zX V[k].1)/\w.cell? ⟨g,o+k*2+1,O⟩=I (J b V[k].2.length c)/\jU w b V[k].2/\V[k].2.length<=c
theorem tM.aa {V:List Vr} (h:tM w a V) (d:da w w'):tM w' a V:=fun k n=>by
 obtain⟨g,o,b,c,f,e,i,j,l,m⟩:=h k n;exact⟨g,o,b,c,f,aT e d.size,(d.cell (p:=⟨g,o+k*2,O⟩) e).trans i,(d.cell (p:=⟨g,o+k*2+1,O⟩) e).trans j,l.aa d,m⟩
abbrev NC (x y z:wQ):Obj:=yd #[x,y,z] 26
abbrev VC (x y:wQ):Obj:=yd #[x,y] 60
def bZ (w:wA) (g:Nat) (x y z:wQ):Prop:=w.heap[g]? =I (yd #[x,y,z] 26 (0,0))
theorem bZ.at (h:w.heap.size=g) (x y z:wQ):bZ (w.alloc (NC x y z)) g x y z:=by subst h;exact dU w _
theorem bZ.lt {x:wQ} (h:bZ w g x y z):g<w.heap.size:=(c5.1 h).1
theorem bZ.aa {b:Nat} {x:wQ} (h:bZ w g x y z) (a:Below b w w') (c:g<b):bZ w' g x y z:=(a.block g c).trans h
theorem bZ.cells {x:wQ} (h:bZ w g x y z):AJ w ⟨g,0,O⟩=I x/\w.cell? ⟨g,1,O⟩=I y/\w.cell? ⟨g,2,O⟩=I z:=by
 refine⟨?_,?_,?_⟩<;>(rw[a8 w g _ _ _ (0,0) h];rfl)
theorem Ke (w:wA) (x y:wQ):AJ (w.alloc (VC x y)) ⟨w.heap.size,0,O⟩=I x/\(w.alloc (VC x y)).cell? ⟨w.heap.size,1,O⟩=I y:=by
 have h:(w.alloc (VC x y)).heap[w.heap.size]? =I (yd #[x,y] 60 (0,0)):=dU w _;exact⟨by rw[a8 _ _ _ _ _ (0,0) h];rfl,by rw[a8 _ _ _ _ _ (0,0) h];rfl⟩
def ah (V:List Vr):Jp:=V.map fun x=>x.2.length
theorem lQ (V:List Vr):Z (ah V)=Z V:=by simp[ah]
theorem Ni {V:List Vr} (h:i<Z V):(ah V)[i]? =I V[i].2.length:=by simp[ah,h]
theorem NI (a b c:Kd) (ca cb cc n m:Nat) (V:List Vr) (w:wA) (h:tM w a V) (hV:Z V<=5000):
  c6 91 #[zp #[J a (Z V) ca,J b n cb,J c m cc]] w fun e w'=>∃G,e=yk (J (I ⟨G,0,O⟩) (Z V) (Z V))/\w.heap.size<=G/\cZ w' G (ah V)/\da w w':=by
 obtain⟨i0,cH,ab,ad,ae⟩:=eo Tryz.infoInt;have Q:=Fa h;have T:we (∀i (h:i<Z V),(ah V)[i]? =I V[i].2.length):=fun i h=>Ni h;have P:=lQ V;generalize ah V=ds at *;clear h;have j:=bZ.at (w:=w) rfl (J a (Z V) ca) (J b n cb) (J c m cc);have q:=(aw _ w).alloc (ak _) (NC (J a (Z V) ca) (J b n cb) (J c m cc));obtain⟨f, -, -⟩:=j.cells;have ku:=j.lt;go_enter func91,ntmps91;go_upto_region 1 with fail
 generalize (w.alloc (NC (J a (Z V) ca) (J b n cb) (J c m cc)))=d at *
 go_wp2_with (first
  |(at_make;refine oX _ rfl _ _ 27 rfl d.heap.size 3 i0 (E yR 0) 1 underlying27 cH ab ad yR yR _ _ (Z V) rfl rfl bd bd (by rw[ae];omega) (by unfold maxLen;omega) (ak _) ?_;intro o K M;have r:da d o:=(aw _ d).grown M (ak _) (fun k e=>by cases e);have X:=(j.aa r ku).cells.1;clear f))
 have s:=sR K;rw[KV] at s;have B7:we (cZ o d.heap.size (List.replicate (Z V) 0)):=s;have B1:we (da w o):=q.trans (r.af q.size);have y:=q.size;clear K M s r X;go_loopw [13] (fun iv wr=>∃i:Nat,i<=Z V/\iv=E yR i/\we (cZ wr d.heap.size (tD ds i))/\we (da w wr)) (fun iv _=>Z V - (intOf iv).toNat)
 case atStart=>exact⟨0,aX _,rfl,by rw[adX,P];exact B7,B1⟩
 case round=>
  obtain⟨i,hi,rfl,R,H⟩:=hrel;clear B7 B1;by_cases F:i<Z V
  ·obtain⟨g,ai,t,x,rfl,hg,f,Y, -, -⟩:=(Q.o.aa H.o) i F;obtain⟨B9,L⟩:=oA.1 (T.o i F);have u:=Fa (adY ds B9);rw[L] at u;generalize V[i]=v at *;obtain⟨A,vs⟩:=v;simp only at f Y u;obtain⟨d0,d1⟩:=Ke wr (zX A) (J t (Z vs) x);have B6:=(aw _ wr).alloc (ak _) (VC (zX A) (J t (Z vs) x));have D:=R.o.aa B6 R.o.lt;have k0:=D.cell i (by rw[RY _ al];omega);have f0:=D.fz i;have S:=D.set i (Z vs);rw[u.o] at S;have U:=Fa S;have B2:=Fa ((H.o.trans (B6.af H.o.size)).setCell (p:=⟨d.heap.size,i,O⟩) y (E yR (Z vs:Nat)));generalize (tD ds i)[i]'(by rw[RY _ al];omega)=z at *;clear B9 L B6 D S;go_wp2;go_roundw
   case rel=>exact⟨i+1,al,bd,U,B2⟩
   case measure=>simp[intOf];omega
  ·obtain rfl:i=Z V:=al
   have l:=R.o;rw[<- P,adZ] at l;have dP:=Fa l;clear l;go_wp2;go_ret;exact⟨d.heap.size,rfl,y,dP.o,H.o⟩
variable {V:List Vr}
theorem apP {l:Jp} {x:Nat} (h:l[i]? =I x):iL (l.take (i+1))=iL (l.take i)++[(x:Int)]:=by
 obtain⟨a,b⟩:=oA.1 h;rw[ig a,b,Ye];rfl
theorem ama (a b c:Kd) (ca cb cc n m:Nat) (V:List Vr) (w:wA) (h:tM w a V) (hV:Z V<=5000):
  c6 56 #[zp #[J a (Z V) ca,J b n cb,J c m cc]] w fun e w'=>∃x,e=yk x/\bS w' w.heap.size x (iL (ah V))/\da w w':=by
 obtain⟨i0,Y,ad,ae,ai⟩:=eo Tryz.infoInt;have F:=Fa h;have q:we (∀i (h:i<Z V),(ah V)[i]? =I V[i].2.length):=fun i h=>Ni h;have eP:=lQ V;generalize ah V=ds at *;clear h;have j:=bZ.at (w:=w) rfl (J a (Z V) ca) (J b n cb) (J c m cc);have A:=Fa ((aw _ w).alloc (ak _) (NC (J a (Z V) ca) (J b n cb) (J c m cc)));go_enter func56,ntmps56;go_wp2_with fail
 generalize (w.alloc (NC (J a (Z V) ca) (J b n cb) (J c m cc)))=B6 at *;have f:=Fa j;clear j;go_loopw [3,4] (fun xv iv wr=>∃i:Nat,i<=Z V/\iv=E yR i/\we (bS wr (w.heap.size+1) xv (iL (ds.take i)))/\we (Below (w.heap.size+1) B6 wr)) (fun _ iv _=>Z V - (intOf iv).toNat)
 case atStart=>exact⟨0,aX _,rfl,⟨rfl,yp ⟨rfl,rfl⟩⟩,aw _ _⟩
 case round=>
  obtain⟨i,hi,rfl,R,H⟩:=hrel;have d:=f.o.aa H.o al;obtain⟨U, -, -⟩:=d.cells;have ab:=f.o.lt;have D:we (da w wr):=A.o.trans (H.o.af al);by_cases t:i<Z V
  ·obtain⟨g,o,B2,T,rfl,hg, -,s, -, -⟩:=(F.o.aa D.o) i t;have k:=Fa (apP (q.o i t))
   have B1:we (Z (iL (ds.take i))<=5000):=by
    show Z (iL (ds.take i))<=5000;rw[bM,eZ];omega
   generalize V[i]=v at *;obtain⟨nm,vs⟩:=v;simp only at s k;have B7:=Fa R.o.own;have L:we (bS (AC wr (yd #[E yR (Z vs:Nat)] 3)) (w.heap.size+1) _ (iL (ds.take i))):=He R.o _;have M:w.heap.size+1<=wr.heap.size:=d.lt;have Q:=Fa (H.o.alloc M (yd #[E yR (Z vs:Nat)] 3));have X:=Fa (tE wr (Z vs:Nat));(have S:w.heap.size+1<=(AC wr (yd #[E yR (Z vs:Nat)] 3)).heap.size:=by simp;omega);clear d;go_wp2_with (at_builtin;refine CW rfl _ _ rfl (w.heap.size+1) _ (iL (ds.take i)) [((Z vs:Nat):Int)] rfl L.o (I ⟨wr.heap.size,0,O⟩) 1 rfl X.o (fun e=>by cases e) (by have:=B1.o;simp;omega) S ?_;intro v' w3 r l)
   have z:=Fa r;have B9:=Fa (Q.o.grown l S B7.o);clear r l;go_roundw
   case rel=>exact⟨i+1,al,bd,by rw[k.o];exact z,B9⟩
   case measure=>simp[intOf];omega
  ·obtain rfl:i=Z V:=al
   have p:=R.o;rw[lg al] at p;have P:=Fa (show bS wr w.heap.size _ (iL ds) from ⟨p.1,p.2.imp id fun ⟨g,cap,K,u,h2,y⟩=>⟨g,cap,K,u,al,y⟩⟩);clear p d;go_wp2;go_ret;exact⟨_,rfl,P.o,D.o⟩
def qU (w:wA) (g:Nat) (l:List ByteArray):Prop:=w.heap[g]? =I (yd (l.map Value.string).toArray 9 (0,0))
theorem qU.cell {l:List ByteArray} (h:qU w g l) (j:Nat) (a:j<Z l):AJ w ⟨g,j,O⟩=I (zX l[j]):=by
 rw[a8 w g j _ _ (0,0) h];simp[a]
theorem qU.fz {l:List ByteArray} (h:qU w g l) (j:Nat):w.frozen? ⟨g,j,O⟩=false:=eA w g j _ _ h
theorem qU.lt {l:List ByteArray} (h:qU w g l):g<w.heap.size:=(c5.1 h).1
theorem qU.aa {b:Nat} {l:List ByteArray} (h:qU w g l) (a:Below b w w') (c:g<b):qU w' g l:=(a.block g c).trans h
theorem qU.set {l:List ByteArray} (h:qU w g l) (j:Nat) (y:ByteArray):qU (AF w ⟨g,j,O⟩ (zX y)) g (l.set j y):=by
 have a:=ke w g j _ _ (zX y) h;rw[qU,a];simp[Hk]
theorem qU.st {l:List ByteArray} (h:qU w g l):jU w (I ⟨g,0,O⟩) l:=fun k a=>⟨g,0,rfl,h.lt,by rw[bK];exact h.cell k a⟩
theorem ao7 (n:Nat):(madeCells (Value.string ⟨#[]⟩).cells (n*1)).toList=(List.replicate n (⟨#[]⟩:ByteArray)).map Value.string:=by
 rw[show (Value.string ⟨#[]⟩).cells= #[Value.string ⟨#[]⟩] from rfl,My,rU,QW]
theorem Tryz.infoStr:(prog.info? 9).map (fun i=>(i.zero,i.size,i.bytes))=I (I (zX ⟨#[]⟩),1,16):=ao
def yg (l:List ByteArray) (i:Nat):List ByteArray:=l.take i++List.replicate (Z l - i) ⟨#[]⟩
theorem am5 (l:List ByteArray):yg l 0=List.replicate (Z l) ⟨#[]⟩:=by simp[yg]
theorem adR (l:List ByteArray) (h:i<=Z l):Z (yg l i)=Z l:=by simp[yg];omega
theorem am7 (l:List ByteArray):yg l (Z l)=l:=by simp[yg]
theorem am6 (l:List ByteArray) (h:i<Z l):(yg l i).set i l[i]=yg l (i+1):=by
 have a:Z l - i=(Z l - (i+1))+1:=al
 have b:Z (l.take i)=i:=by rw[eZ];omega
 rw[yg,yg,a,MM,Hj _ _ al,b,rT,CR,ig h,qj];rfl
def lR (V:List Vr):List ByteArray:=V.map fun x=>x.1
theorem aeV (V:List Vr):Z (lR V)=Z V:=by simp[lR]
theorem aoj (h:i<Z V):(lR V)[i]? =I V[i].1:=by simp[lR,h]
theorem aok (a:Kd) (ca:Nat) (V:List Vr) (w:wA) (h:tM w a V) (hV:Z V<=5000):
  c6 188 #[J a (Z V) ca] w fun e w'=>∃G,e=yk (J (I ⟨G,0,O⟩) (Z V) (Z V))/\qU w' G (lR V)/\da w w':=by
 obtain⟨M,K,B2,Q,T⟩:=eo Tryz.infoStr;have F:=Fa h;have q:we (∀i (h:i<Z V),(lR V)[i]? =I V[i].1):=fun i h=>aoj h;have P:=aeV V;generalize lR V=ds at *;clear h;go_enter func188,ntmps188
 go_wp2_with (first
  |(at_make;refine oX _ rfl _ _ 58 rfl w.heap.size 9 M (zX ⟨#[]⟩) 1 underlying58 K B2 Q yR yR _ _ (Z V) rfl rfl bd bd (by rw[T];omega) (by unfold maxLen;omega) (ak _) ?_;intro j n r))
 have c:=sR n;rw[ao7] at c;have B1:we (da w j):=(aw _ w).grown r (ak _) (fun k e=>by cases e);have B7:we (qU j w.heap.size (List.replicate (Z V) ⟨#[]⟩)):=c;clear n r c;go_wp2_with fail
 go_loopw [11] (fun iv wr=>∃i:Nat,i<=Z V/\iv=E yR i/\we (qU wr w.heap.size (yg ds i))/\we (da w wr)) (fun iv _=>Z V - (intOf iv).toNat)
 case atStart=>exact⟨0,aX _,rfl,by rw[am5,P];exact B7,B1⟩
 case round=>
  obtain⟨i,hi,rfl,R,H⟩:=hrel;clear B7 B1;by_cases l:i<Z V
  ·obtain⟨g,o,d,f,rfl,hg,y,A, -, -⟩:=(F.o.aa H.o) i l;obtain⟨x,s⟩:=oA.1 (q.o i l);have u:=Fa (am6 ds x);rw[s] at u;generalize V[i]=v at *;obtain⟨m,vs⟩:=v;simp only at y A u;obtain⟨U,X⟩:=Ke wr (zX m) (J d (Z vs) f);have B6:=(aw _ wr).alloc (ak _) (VC (zX m) (J d (Z vs) f));have D:=R.o.aa B6 R.o.lt;have k0:=D.cell i (by rw[adR _ al];omega);have Y:=D.fz i;have S:=D.set i m;rw[u.o] at S;have t:=Fa S;have B9:=Fa ((H.o.trans (B6.af H.o.size)).setCell (p:=⟨w.heap.size,i,O⟩) (ak _) (zX m));generalize (yg ds i)[i]'(by rw[adR _ al];omega)=z at *;clear x s B6 D S;go_wp2;go_roundw
   case rel=>exact⟨i+1,al,bd,t,B9⟩
   case measure=>simp[intOf];omega
  ·obtain rfl:i=Z V:=al
   have b:=R.o;rw[<- P,am7] at b;have L:=Fa b;clear b;go_wp2;go_ret;exact⟨w.heap.size,rfl,L.o,H.o⟩
def tz (V:List Vr) (i:Nat):Int:=if 1<=(V.getD i (⟨#[]⟩,[])).2.length/\(V.getD i (⟨#[]⟩,[])).2.length<=4 then oI (V.getD i (⟨#[]⟩,[])).2 else 2
def mA (V:List Vr):Int:=if oI (lR V)=0 then kD (tz V) (Z V) else oI (lR V)
theorem Z8 (h:i<Z V):V.getD i (⟨#[]⟩,[])=V[i]:=by rw[cK,ba h];rfl
def VSm (V:List Vr):Prop:=Z V<=5000/\∀x∈V,x.1.size<=5000/\x.2.length<=5000/\∀s∈x.2,s.size<=5000
theorem abX (h:i<Z V) (e:¬(1<=V[i].2.length/\V[i].2.length<=4)):tz V i=2:=by rw[tz,Z8 h,aD e]
theorem abW (h:i<Z V) (e:1<=V[i].2.length/\V[i].2.length<=4):tz V i=oI V[i].2:=by rw[tz,Z8 h,aA e]
theorem asU (a:Kd) (ca:Nat) (V:List Vr) (w:wA) (h:tM w a V) (hs:VSm V):
  c6 135 #[J a (Z V) ca] w (dj w (E yR (mA V))):=by
 have K:=Fa h;have tS:=Fa hs;have hV:=hs.1;have t:we (oI (lR V)≠0 ->mA V=oI (lR V)):=fun h=>aD h;have A:we (oI (lR V)=0 ->mA V=kD (tz V) (Z V)):=fun h=>aA h;have ae:=aeV V
 have ab:we (∀s∈lR V,s.size<=140737488355328):=fun s F=>by
  obtain⟨x,hx,rfl⟩:=aQ.1 F;have:=(hs.2 x hx).1;omega
 have X:=Fa (fun (V':wA) (aq:tM V' a V)=>aok a ca V V' aq hV)
 have xU:we (∀(G:Nat) (V':wA),qU V' G (lR V) ->c6 187 #[J (I ⟨G,0,O⟩) (Z V) (Z V)] V' fun e w'=>e=yk (E yR (oI (lR V)))/\w'=V'):=fun G V' R=>by
  have:=aif (I ⟨G,0,O⟩) (Z V) (lR V) V' R.st al al ab.o;rwa [ae] at this
 generalize mA V=ve at *;generalize oI (lR V)=ne at *;clear h hs ae ab;go_enter func135,ntmps135;go_wp2_with fail
 refine(X.o _ K.o).af ?_;rintro e w1 ⟨G,rfl,R,ad⟩;have M:=Fa R;have B2:=Fa ad;clear R ad X;go_wp2_with fail
 refine(xU.o G _ M.o).af ?_;rintro e w2 ⟨rfl,rfl⟩;by_cases f:ne=0
 ·subst f;have B9:=Fa (A.o rfl);clear t A xU M;have B7:we (∀i,i<Z V ->(∀j,j< i ->tz V j=0) ->∀k,tz V i=k ->k≠0 ->ve=k):=fun i T hz k b D=>by rw[B9.o,Pn hz (by rw[b];exact D) T,b]
  have HZ:we ((∀j,j<Z V ->tz V j=0) ->ve=0):=fun h=>by rw[B9.o];exact B5 h
  have HL:=Fa (fun i h e=>abX (V:=V) (i:=i) h e);have L:=Fa (fun i h e=>abW (V:=V) (i:=i) h e);go_wp2_with fail
  go_loopw [15] (fun iv wr=>∃i:Nat,i<=Z V/\iv=E yR i/\we (∀j,j< i ->tz V j=0)/\we (da w wr)) (fun iv _=>Z V - (intOf iv).toNat)
  case atStart=>exact⟨0,aX _,rfl,fun j h=>absurd h al,B2⟩
  case round=>
   obtain⟨i,T,rfl,U,c⟩:=hrel;clear B2;by_cases l:i<Z V
   ·obtain⟨g,ar,y,z,rfl,hg,c0,c1,B6,B1⟩:=(K.o.aa c.o) i l;have r:=tS.o.2 V[i] (bQ l);have o:=Fa (fun e=>B7.o i l U.o 2 (HL.o i l e) a6);have Q:=Fa (fun e k b D=>B7.o i l U.o k ((L.o i l e).trans b) D);have P:=Fa (fun e (b:oI V[i].2=0)=>V3 U.o ((L.o i l e).trans b));generalize V[i]=v at *;obtain⟨Y,vs⟩:=v;simp only at c0 c1 B6 B1 r o Q P;obtain⟨d0,d1⟩:=Ke wr (zX Y) (J y (Z vs) z);have u:=(aw _ wr).alloc (ak _) (VC (zX Y) (J y (Z vs) z));have d:=Fa (c.o.trans (u.af c.o.size));have aj:=Fa (B6.aa u);have uN:=Fa r.2.2;have gM:=r.2.1;clear u r B6;by_cases m:1<=Z vs
    ·by_cases n:Z vs<=4
     ·have S:(1:Int)<=(Z vs:Int):=al
      (have e2:(Z vs:Int)<=4:=al);have ai:=Fa (Q.o ⟨m,n⟩);have ao:=Fa (P.o ⟨m,n⟩);clear o Q P;go_wp2_with fail
      refine(aif y z vs _ aj.o al B1 (fun s F=>by have:=uN.o s F;omega)).af ?_;rintro e w3 ⟨rfl,rfl⟩;generalize oI vs=q at *;by_cases p:q=0
      ·subst p;have an:=Fa (ao.o rfl);go_wp2;go_roundw
       case rel=>exact⟨i+1,al,bd,an,d⟩
       case measure=>simp[intOf];omega
      ·have H:=Fa (ai.o q rfl p);(have av:(q==0)=false:=by simpa using p);clear p;go_wp2;go_ret;exact⟨by rw[H.o];rfl,d.o⟩
     ·have H:=Fa (o.o fun h=>n h.2);(have S:(1:Int)<=(Z vs:Int):=al);(have e2:(4:Int)<(Z vs:Int):=al);clear n o Q P;go_wp2;go_ret;exact⟨by rw[H.o];rfl,d.o⟩
    ·have H:=Fa (o.o fun h=>m h.1);(have S:(Z vs:Int)<1:=al);clear m o Q P;go_wp2;go_ret;exact⟨by rw[H.o];rfl,d.o⟩
   ·obtain rfl:i=Z V:=al
    have H:=Fa (HZ.o U.o);go_wp2;go_ret;exact⟨by rw[H.o];rfl,c.o⟩
 ·have B9:=Fa (t.o f);have yE:(ne==0)=false:=by simpa using f
  clear f t A;go_wp2;go_ret;exact⟨by rw[B9.o];rfl,B2.o⟩
def jl (l:List Fr):Bool:=(l.all fun f=>decide (¬bj f<0))&&decide (b9 l=1)
theorem aia:jS p 0<0↔p<0:=by
 rw[jS];by_cases h:p<0
 ·rw[aA h];exact⟨fun _=>h,fun _=>a6⟩
 ·rw[aD h];by_cases e:p=0
  ·rw[aA e];exact⟨fun h=>absurd h a6,fun a=>absurd a h⟩
  ·rw[aD e];exact⟨fun h=>absurd h a6,fun a=>absurd a h⟩
theorem asL:(jS p 1==0)=decide (p=1):=by
 rw[wL,xX,eM,jS];by_cases h:p<1
 ·rw[aA h];exact⟨fun h=>absurd h a6,fun e=>by rw[e] at h;exact absurd h a6⟩
 ·rw[aD h];by_cases e:p=1
  ·rw[aA e];exact⟨fun _=>e,fun _=>rfl⟩
  ·rw[aD e];exact⟨fun h=>absurd h a6,fun a=>absurd a e⟩
theorem alR {l:List Fr} (h:i<Z l) (e:bj l[i]<0):jl l=false:=by
 have:(l.all fun f=>decide (¬bj f<0))=false:=by
  rw[MU];exact⟨l[i],bQ h,by simpa using e⟩
 rw[jl,this];rfl
theorem alT {l:List Fr} (h:∀i (a:i<Z l),¬bj l[i]<0):jl l=decide (b9 l=1):=by
 have:(l.all fun f=>decide (¬bj f<0))=true:=by
  rw[fG];intro f b;obtain⟨i,a,rfl⟩:=iQ b;exact cJ (h i a)
 rw[jl,this,Hp]
theorem WZ:qw 1<=2:=by
 show (B 1).size+(B 1).size<=2;have:=VE;omega
theorem arq {l:List Fr} (h:i<Z l) (w:fw l<=10000):l[i].2.1.size+l[i].2.2.size<=10000:=by have:=TY (bQ h);omega
theorem apF (a:Kd) (ca:Nat) (l:List Fr) (w:wA) (h:dE w a l) (m:fw l<=10000) (hn:Z l<=10000):
  c6 190 #[J a (Z l) ca] w (dj w (zd (jl l))):=by
 have F:=Fa h;have HW:=Fa m;have B2:=Fa (fun V:wA=>Gh (k:=0) (w:=V) 0 0 rfl a6 (by rfl));have M:=Fa (fun V:wA=>Gh (k:=1) (w:=V) 1 1 rfl a6 (by rfl));have S:=Fa (fun (V:wA) (hV:dE V a l)=>arT a ca l V hV m hn);have HN:=Fa (fun i h e=>alR (l:=l) (i:=i) h e);have HA:=Fa (fun h=>alT (l:=l) h)
 have Q:we (val (aV (b9 l)) (nu (b9 l)) (de (b9 l))=b9 l/\(nu (b9 l)).size+(de (b9 l)).size<=100000):=⟨kN _,by
  have h1:=T7 (ahp l);rw[wS];omega⟩
 have v:we (val (aV 0) (nu 0) (de 0)=0/\(nu 0).size+(de 0).size<=100000):=⟨kN _,by have:=Ky;rw[wS];omega⟩
 have u:we (val (aV 1) (nu 1) (de 1)=1/\(nu 1).size+(de 1).size<=100000):=⟨kN _,by
  have h1:qw 1<=2:=WZ;rw[wS];omega⟩
 generalize jl l=rb at *;clear h m;simp only[C] at B2 M S;generalize aV 0=n at *;generalize nu 0=x at *;generalize de 0=y at *;generalize aV 1=on at *;generalize nu 1=ox at *;generalize de 1=oy at *;go_enter func190,ntmps190;go_wp2_with fail
 refine(B2.o _).af ?_;rintro e o ⟨rfl,d⟩;have T:=Fa (d.alloc d.size (FC n x y));have U:=Fa (aL.new o n x y);have ai:=d.size;clear d;go_wp2_with fail
 generalize (o.alloc (FC n x y))=w2 at *;generalize o.heap.size=B at *;go_loopw [9] (fun iv wr=>∃i:Nat,i<=Z l/\iv=E yR i/\we (∀j (b:j<Z l),j< i ->¬bj l[j]<0)/\we (aL wr B n x y)/\we (da w wr)) (fun iv _=>Z l - (intOf iv).toNat)
 case atStart=>exact⟨0,aX _,rfl,fun j _ h=>absurd h al,U,T⟩
 case round=>
  obtain⟨i,hi,rfl,P,X,H⟩:=hrel;clear U T;by_cases t:i<Z l
  ·obtain⟨g,ae,rfl,hg,c0,c1,c2⟩:=(F.o.aa H.o) i t;have kW:=arq t HW.o;have xQ:=Fa (HN.o i t)
   have Eo:we (¬bj l[i]< 0 ->∀j (b:j<Z l),j<i+1 ->¬bj l[j]<0):=fun h j b uF=>by
    rcases dR j i with K |K
    ·exact P.o j b K
    ·obtain rfl:j=i:=al
     exact h
   generalize l[i]=f at *;obtain⟨fn,fx,fy⟩:=f;simp only at c0 c1 c2 kW;have B6:=(aw _ wr).alloc (ak _) (FC fn fx fy);obtain⟨k0,k1,k2, -⟩:=(aL.new wr fn fx fy).facts;have B1:=X.o.aa B6 X.o.lt;obtain⟨z0,z1,z2, -⟩:=B1.facts;have L:=Fa B1;have z:=Fa (H.o.trans (B6.af H.o.size));clear B6 B1;go_wp2_with fail
   generalize (wr.alloc (FC fn fx fy))=w3 at *;refine(Uc (w:=w3) (jS (val fn fx fy) 0) rfl v.o.1 rfl al v.o.2).af ?_;rintro e w4 ⟨rfl,q⟩;have Ee:=Fa (L.o.aa q L.o.lt);have B7:=Fa (z.o.trans (q.af z.o.size));clear k0 k1 k2 z0 z1 z2 q;by_cases c:val fn fx fy<0
   ·have B9:=Fa (xQ.o c);have hc:jS (val fn fx fy) 0<0:=aia.2 c;clear c;generalize jS (val fn fx fy) 0=ab at *;go_wp2;go_ret;exact⟨by rw[B9.o];rfl,B7.o⟩
   ·have B9:=Fa (Eo.o c)
    have hc:0<=jS (val fn fx fy) 0:=by
     have:¬jS (val fn fx fy) 0<0:=fun h=>c (aia.1 h);omega
    clear c;generalize jS (val fn fx fy) 0=ab at *;go_wp2;go_roundw
    case rel=>exact⟨i+1,al,bd,B9,Ee,B7⟩
    case measure=>simp[intOf];omega
  ·obtain rfl:i=Z l:=al
   have B9:=Fa (HA.o fun j b=>P.o j b b);have QA:=Fa (asL (p:=b9 l));generalize b9 l=s at *;go_wp2_with fail
   refine(S.o _ (F.o.aa H.o)).af ?_;rintro e w5 ⟨rfl,Y⟩;have A:=Fa (H.o.trans (Y.af H.o.size));clear Y;go_wp2_with fail
   refine(M.o _).af ?_;rintro e w6 ⟨rfl,D⟩;have r:=Fa (A.o.trans (D.af A.o.size));clear D;go_wp2_with fail
   refine(Uc (w:=w6) (jS s 1) Q.o.1 u.o.1 rfl Q.o.2 u.o.2).af ?_;rintro e w7 ⟨rfl,R⟩;have ad:=Fa (r.o.trans (R.af r.o.size));clear R;go_wp2;go_ret;exact⟨by rw[B9.o, <- QA.o];rfl,ad.o⟩
theorem amc (w:wA):c6 29 #[E yR 1] w (dj w (zp #[zd (aV 1),zX (nu 1),zX (de 1)])):=by
 have:=WX 1 w al al;exact this
theorem mK (h:gB L=xq):1<=Z L/\L.length<=8/\k5 L (Z L)=xq/\Bp L=true:=by
 rw[gB,iI,iI,eM] at h;exact⟨h.1.1.1,h.1.1.2,h.1.2,h.2⟩
theorem arj (h:gB L=xq):∀p∈aI L,∀u∈p,u<8:=by
 obtain⟨e,a,b,f⟩:=mK h;intro p d;obtain⟨l,c,rfl⟩:=aQ.1 d;exact ac8 a (fG.1 b l c)
theorem TX (a:Kd) (ca:Nat) (L:List Kx) (w:wA) (h:ei w a L) (n:∀l∈L,Z l<=140737488355328):
  c6 126 #[J a (Z L) ca] w fun e w'=>da w w'/\
   ((bq L=0/\∃G,e=yk (zz #[J (I ⟨G,0,O⟩) (Z L) (Z L),E yR 0])/\w.heap.size<=G/\dw w' G (jB L))∨(bq L≠0/\e=yk (zz #[J O 0 0,E yR (bq L)]))):=by
 have F:=Fa h;have R:=Fa (fun (V:wA) (j:ei V a L)=>adb a ca L V j n);have r:we (gB L=x3 ->bq L=11):=fun h=>aD (by rw[h];decide);have S:we (gB L=xq ->Z (bc (aI L) (Z L))<Z L ->bq L=10):=fun f i=>by rw[bq,aA f,aA i]
 have A:we (gB L=xq ->¬Z (bc (aI L) (Z L))<Z L ->bq L=0):=fun f i=>by rw[bq,aA f,aD i]
 have B2:we (gB L=xq ->∀(G c:Nat) (V:wA),dw V G (jB L) ->c6 180 #[J (I ⟨G,0,O⟩) (Z L) c] V fun e w'=>∃x,e=yk x/\bS w' V.heap.size x (iL (bc (aI L) (Z L)))/\da V w'):=fun g G c V j=>by
  have s:=(mK g).2.1;have:=anA G c (aI L) V (by rw[<- Ih];exact j) (by rw[kp];exact s) (arj g);rwa [kp] at this
 generalize bq L=ge at *;generalize jB L=K at *;clear h n;go_enter func126,ntmps126;go_wp2_with fail
 refine(R.o _ F.o).af ?_;rintro e M ⟨b,⟨g,G,rfl,z,U⟩ |⟨g,v,rfl⟩⟩
 ·have u:=Fa U;have D:=Fa (B2.o g G (Z L));have H:=Fa b;have y:=Fa g;clear U b g B2 R;go_wp2_with fail
  refine(D.o _ u.o).af ?_;rintro e Q ⟨x,rfl,p,k⟩;obtain⟨d,B7,rfl,_⟩:=p.ints;have B1:=Fa (H.o.trans (k.af H.o.size));have B6:=Fa (u.o.aa k u.o.lt);have q:we (Z (iL (bc (aI L) (Z L)))=Z (bc (aI L) (Z L))):=bM _;clear p k;by_cases t:Z (bc (aI L) (Z L))<Z L
  ·have B9:=Fa (S.o y.o t);(have P:Z (iL (bc (aI L) (Z L)))<Z L:=by rw[q.o];exact t);clear t;generalize (Z (iL (bc (aI L) (Z L))))=m at *;go_wp2;go_ret2;exact⟨B1.o,xS ⟨by rw[B9.o];decide,by rw[B9.o];rfl⟩⟩
  ·have B9:=Fa (A.o y.o t);(have P:¬Z (iL (bc (aI L) (Z L)))<Z L:=by rw[q.o];exact t);clear t;generalize (Z (iL (bc (aI L) (Z L))))=m at *;go_wp2;go_ret2;exact⟨B1.o,yp ⟨B9.o,G,rfl,z,B6.o⟩⟩
 ·have B9:=Fa (r.o g);have H:=Fa b;clear g b;go_wp2;go_ret2;exact⟨H.o,xS ⟨by rw[B9.o];decide,by rw[B9.o];rfl⟩⟩
theorem ari (a:Kd) (ca:Nat) (L:List Kx) (w:wA) (h:ei w a L) (c:∀l∈L,Z l<=140737488355328):
  c6 134 #[J a (Z L) ca] w (dj w (E yR (bq L))):=by
 have F:=Fa h;have H:=Fa (fun (V:wA) (d:ei V a L)=>TX a ca L V d c);generalize bq L=ge at *;clear h c;go_enter func134,ntmps134;go_wp2_with fail
 refine(H.o _ F.o).af ?_;rintro e i ⟨b,⟨rfl,G,rfl,f,U⟩ |⟨g,rfl⟩⟩
 ·clear U;go_wp2;go_ret;exact⟨rfl,b⟩
 ·clear g;go_wp2;go_ret;exact⟨rfl,b⟩
theorem ag6 (h1:1<=Z L) (b:Z L<=8) (h:∀i (a:i<Z L),dZ L[i] (Z L)=xq/\¬i∈ag L[i]):gB L=true:=by
 rw[gB,cJ (p:=1<=Z L/\L.length<=8) ⟨h1,b⟩,aeO fun i a=>(h i a).2]
 have:k5 L (Z L)=true:=fG.2 fun l c=>by
  obtain⟨i,a,rfl⟩:=iQ c;exact(h i a).1
 rw[this];rfl
theorem arI (t i v:Nat) (c:Kd) (cc:Nat) (lb:Array wQ) (l:List Fr) (k val P:Nat) (y:P<Z l) (w:wA) (Q:t<w.heap.size) (F:AJ w ⟨t,1,O⟩=I (J c (Z l) cc)) (T:i<w.heap.size) (B7:AJ w ⟨i,0,O⟩=I (.func (.func 219) #[] lb)) (B2:v<w.heap.size) (B6:AJ w ⟨v,0,O⟩=I (E yR (val:Nat))) (D:dE w c l) (h1:Cw 100000 l)
  (A:∀V,da w V ->c6 219 (#[E yR (k:Nat),E yR (val:Nat)]++lb) V fun e w'=>e=yk (E yR (P:Nat))/\da V w'):
  c6 174 #[E yR (k:Nat),zZ (I ⟨t,0,O⟩),zZ (I ⟨i,0,O⟩),zZ (I ⟨v,0,O⟩)] w (dj w (lB (qF (bj (aS l P))))):=by
 obtain⟨g,o,rfl,z,n,s,x⟩:=D P y;have R:=h1 P y;rw[<- qP y] at n s x;have M:=Fa A;have H:=Fa (fun V:wA=>VB (w:=V) (bj (aS l P)) rfl (show (aS l P).2.1.size+(aS l P).2.2.size<=100000 by omega));rw[T2];generalize bj (aS l P)=r at *;clear D A h1 R;generalize aS l P=f at *;obtain⟨fn,fx,fy⟩:=f;simp only at n s x H;have b:aL (w.alloc (FC x3 ⟨#[]⟩ ⟨#[]⟩)) w.heap.size x3 ⟨#[]⟩ ⟨#[]⟩:=aL.new w _ _ _;have a:da w (w.alloc (FC x3 ⟨#[]⟩ ⟨#[]⟩)):=(aw _ w).alloc (ak _) _;go_enter func174,ntmps174;go_upto_region 1 with fail
 generalize (w.alloc (FC x3 ⟨#[]⟩ ⟨#[]⟩))=W at *;replace b:=b.drew;replace a:=a.drew;have L:∀u,da w u ->AJ u ⟨t,1,O⟩=I (J (I ⟨g,o,O⟩) (Z l) cc)/\u.cell? ⟨i,0,O⟩=I (.func (.func 219) #[] lb)/\u.cell? ⟨v,0,O⟩=I (E yR (val:Nat))/\u.cell? ⟨g,o+P*3,O⟩=I (zd fn)/\u.cell? ⟨g,o+P*3+1,O⟩=I (zX fx)/\u.cell? ⟨g,o+P*3+2,O⟩=I (zX fy):=fun u h=>⟨(h.cell (p:=⟨t,1,O⟩) Q).trans F,(h.cell (p:=⟨i,0,O⟩) T).trans B7,(h.cell (p:=⟨v,0,O⟩) B2).trans B6,(h.cell (p:=⟨g,_,O⟩) z).trans n,(h.cell (p:=⟨g,_,O⟩) z).trans s,(h.cell (p:=⟨g,_,O⟩) z).trans x⟩;have HELD:=Fa L;clear L n s x F B7 B6;refine iD (S:=fun u=>AJ u ⟨t,1,O⟩=I (J (I ⟨g,o,O⟩) (Z l) cc)/\u.cell? ⟨i,0,O⟩=I (.func (.func 219) #[] lb)/\u.cell? ⟨v,0,O⟩=I (E yR (val:Nat))/\u.cell? ⟨g,o+P*3,O⟩=I (zd fn)/\u.cell? ⟨g,o+P*3+1,O⟩=I (zX fx)/\u.cell? ⟨g,o+P*3+2,O⟩=I (zX fy)) ao (HELD.o _ a) (fun m=>?_);generalize W.drew=u0 at *;refine au 0 (zZ (I ⟨t,1,O⟩)) ?_;refine au 1 (J (I ⟨g,o,O⟩) (Z l) cc) ?_;refine au 2 (.func (.func 219) #[] lb) ?_;refine au 3 (E yR (k:Nat)) ?_;refine au 4 (E yR (val:Nat)) ?_;refine aG [5] (cA ?_ aH);intro j K;go_simp;refine(M.o _ a).af ?_;rintro e u1 ⟨rfl,d⟩;replace b:=b.aa d b.lt;replace a:=a.trans (d.af a.size)
 refine K.o _ _ (HELD.o _ a) (fun q=>?_);clear K j m;have m:=q;clear q d;refine au 6 (zZ (I ⟨g,o+P*3,O⟩)) ?_;refine au 7 (zp #[zd fn,zX fx,zX fy]) ?_;refine aG [8] (cA ?_ aH);intro j K;go_simp;refine(H.o _).af ?_;rintro e u2 ⟨rfl,d⟩;replace b:=b.aa d b.lt;replace a:=a.trans (d.af a.size);refine K.o _ _ (HELD.o _ a) (fun q=>?_);clear K j m;have m:=q;clear q d;try simp only[gE,aP]
 obtain⟨k0,k1,k2,X,Y,B1⟩:=b.facts;refine aG [9] (cA ?_ aH);intro j K;go_simp;have U:=b.put (aV r) (nu r) (de r);have B9:=eJ a (g:=w.heap.size) (ak _) (zd (aV r)) (zX (nu r)) (zX (de r));generalize (AF (AF (AF u2 ⟨w.heap.size,0,O⟩ (zd (aV r))) ⟨w.heap.size,1,O⟩ (zX (nu r))) ⟨w.heap.size,2,O⟩ (zX (de r)))=v9 at *;refine K.o _ _ (HELD.o _ B9) (fun _=>eV ao ?_ _);clear K j m;go_wp2;refine cN (U.result rfl _ rfl) rfl ?_;exact⟨rfl,B9⟩
theorem anv (t d v:Nat) (c:Kd) (cc:Nat) (lb:Array wQ) (l:List Fr) (k val P:Nat) (y:P<Z l) (w:wA) (M:t<w.heap.size) (B9:AJ w ⟨t,1,O⟩=I (J c (Z l) cc)) (T:d<w.heap.size) (F:AJ w ⟨d,0,O⟩=I (.func (.func 219) #[] lb)) (L:v<w.heap.size) (H:AJ w ⟨v,0,O⟩=I (E yR (k:Nat))) (A:dE w c l)
  (z:∀V,da w V ->c6 219 (#[E yR (k:Nat),E yR (val:Nat)]++lb) V fun e w'=>e=yk (E yR (P:Nat))/\da V w'):
  c6 170 #[E yR (val:Nat),zZ (I ⟨t,0,O⟩),zZ (I ⟨d,0,O⟩),zZ (I ⟨v,0,O⟩)] w (dj w (lB (aS l P))):=by
 obtain⟨g,o,rfl,s,i,j,m⟩:=A P y;rw[<- qP y] at i j m;have B6:=Fa z;clear A z;generalize aS l P=f at *;obtain⟨fn,fx,fy⟩:=f;simp only at i j m;have b:aL (w.alloc (FC x3 ⟨#[]⟩ ⟨#[]⟩)) w.heap.size x3 ⟨#[]⟩ ⟨#[]⟩:=aL.new w _ _ _;have a:da w (w.alloc (FC x3 ⟨#[]⟩ ⟨#[]⟩)):=(aw _ w).alloc (ak _) _;go_enter func170,ntmps170;go_upto_region 1 with fail
 generalize (w.alloc (FC x3 ⟨#[]⟩ ⟨#[]⟩))=W at *;replace b:=b.drew;replace a:=a.drew;have B7:∀u,da w u ->AJ u ⟨t,1,O⟩=I (J (I ⟨g,o,O⟩) (Z l) cc)/\u.cell? ⟨d,0,O⟩=I (.func (.func 219) #[] lb)/\u.cell? ⟨v,0,O⟩=I (E yR (k:Nat))/\u.cell? ⟨g,o+P*3,O⟩=I (zd fn)/\u.cell? ⟨g,o+P*3+1,O⟩=I (zX fx)/\u.cell? ⟨g,o+P*3+2,O⟩=I (zX fy):=fun u h=>⟨(h.cell (p:=⟨t,1,O⟩) M).trans B9,(h.cell (p:=⟨d,0,O⟩) T).trans F,(h.cell (p:=⟨v,0,O⟩) L).trans H,(h.cell (p:=⟨g,_,O⟩) s).trans i,(h.cell (p:=⟨g,_,O⟩) s).trans j,(h.cell (p:=⟨g,_,O⟩) s).trans m⟩;have HELD:=Fa B7;clear B7 i j m B9 F H;refine iD (S:=fun u=>AJ u ⟨t,1,O⟩=I (J (I ⟨g,o,O⟩) (Z l) cc)/\u.cell? ⟨d,0,O⟩=I (.func (.func 219) #[] lb)/\u.cell? ⟨v,0,O⟩=I (E yR (k:Nat))/\u.cell? ⟨g,o+P*3,O⟩=I (zd fn)/\u.cell? ⟨g,o+P*3+1,O⟩=I (zX fx)/\u.cell? ⟨g,o+P*3+2,O⟩=I (zX fy)) ao (HELD.o _ a) (fun r=>?_);generalize W.drew=u0 at *;refine au 0 (zZ (I ⟨t,1,O⟩)) ?_;refine au 1 (J (I ⟨g,o,O⟩) (Z l) cc) ?_;refine au 2 (.func (.func 219) #[] lb) ?_;refine au 3 (E yR (k:Nat)) ?_;refine au 4 (E yR (val:Nat)) ?_;refine aG [5] (cA ?_ aH);intro n K;go_simp;refine(B6.o _ a).af ?_;rintro e u1 ⟨rfl,q⟩;replace b:=b.aa q b.lt;replace a:=a.trans (q.af a.size)
 refine K.o _ _ (HELD.o _ a) (fun x=>?_);clear K n r;have r:=x;clear x q;refine au 6 (zZ (I ⟨g,o+P*3,O⟩)) ?_;refine au 7 (zp #[zd fn,zX fx,zX fy]) ?_;try simp only[gE,aP]
 obtain⟨X,Y,B1,Q,R,U⟩:=b.facts;refine aG [8] (cA ?_ aH);intro n K;go_simp;have B2:=b.put (fn) (fx) (fy);have D:=eJ a (g:=w.heap.size) (ak _) (zd (fn)) (zX (fx)) (zX (fy));generalize (AF (AF (AF u1 ⟨w.heap.size,0,O⟩ (zd (fn))) ⟨w.heap.size,1,O⟩ (zX (fx))) ⟨w.heap.size,2,O⟩ (zX (fy)))=v9 at *;refine K.o _ _ (HELD.o _ D) (fun _=>eV ao ?_ _);clear K n r;go_wp2;refine cN (B2.result rfl _ rfl) rfl ?_;exact⟨rfl,D⟩
variable {cc:Nat}
def NR (w V:wA) (T R:Nat) (u v:wQ):Prop:=bh V T u v/\bh V R (J O 0 0) (J O 0 0)/\da w V
theorem NR.step {V:wA} {T R:Nat} {u v:wQ} (h:NR w V T R u v) (b:da V V'):NR w V' T R u v:=⟨h.1.aa b h.1.lt,h.2.1.aa b h.2.1.lt,h.2.2.trans (b.af h.2.2.size)⟩
theorem NR.off {V:wA} {T R:Nat} {u v:wQ} (h:NR w V T R u v) (B j:Nat) (y:wQ) (c:T≠B) (b:R≠B) (a:w.heap.size<=B):NR w (AF V ⟨B,j,O⟩ y) T R u v:=⟨h.1.off B j y c,h.2.1.off B j y b,h.2.2.setCell (p:=⟨B,j,O⟩) a y⟩
theorem NR.fin {V:wA} {T R:Nat} {u v:wQ} (h:NR w V T R u v) (c:w.heap.size<=R) {Fd:Kx} {b:Kd} {l:List Fr} {G:Nat} (f:jb w.heap.size b cb) (g:w.heap.size<=G) (i:aC V b Fd) (r:gR V G l) (a:G≠R) (x y:wQ) (d:x=J b (Z Fd) cb) (e:y=J (I ⟨G,0,O⟩) (Z l) cc):
  bh (AF (AF V ⟨R,0,O⟩ x) ⟨R,1,O⟩ y) R x y/\xG w.heap.size Fd l 0 (yk (zz #[zp #[x,y],E yR 0])) (AF (AF V ⟨R,0,O⟩ x) ⟨R,1,O⟩ y)/\da w (AF (AF V ⟨R,0,O⟩ x) ⟨R,1,O⟩ y):=by
 subst d e;exact⟨h.2.1.put _ _,⟨b,I ⟨G,0,O⟩,cb,cc,rfl,i.putT h.2.1 (slv _ _ _) (slv _ _ _) (slv _ _ _) _,((r.off _ 0 _ a).off _ 1 _ a).fr,f,jb.at g⟩,rG h.2.2 c _ _⟩
theorem dY:Up l n↔(∀x∈l,0<=x/\x<n)/\l.Pairwise (·<·):=by
 constructor
 ·intro h;refine⟨fun x e=>?_,zo.2 fun i j a b r=>h.lt i j b r⟩;obtain⟨i,a,rfl⟩:=iQ e;exact h.each i a
 ·rintro⟨c,d⟩;exact⟨fun i a=>c _ (bQ a),fun i j b a=>zo.1 d i j al b a⟩
theorem ru {Fd:Kx} (h:Up Fd n) (v:Int):Up (bY Fd v) n:=by
 rw[dY] at h⊢;exact⟨fun x a=>h.1 x (cU.1 a).1,h.2.filter _⟩
theorem SG {Fd:Kx} (h:Up Fd n):¬v∈ag (bY Fd (v:Int)):=fun m=>by
 obtain⟨x,a,e⟩:=aQ.1 m;have c:=(dY.1 (ru h v)).1 x a;have b:=(cU.1 a).2;simp at b;omega
theorem aho (S Fd rest:Jp) (v x:Nat) (l:List Fr):Z (yN S Fd rest v x l)=cnt S rest:=by simp[yN]
theorem arH (S Fd rest:Jp) (v x:Nat) (l:List Fr) (h:k<Z (yN S Fd rest v x l)):(yN S Fd rest v x l)[k]=qF (bj (aS l (pos S (aN (aY S rest k) v x) Fd))):=by simp[yN]
theorem xH.shape {W:wA} {f:wQ} {b:Kd} {Fb Fd:Kx} (h:xH W n m f a b ca cb Fb Fd other v):∃lb,f=.func (.func 219) #[] lb:=by
 obtain⟨_,_,_,e,_⟩:=h;exact⟨_,e⟩
theorem xH.top {W:wA} {f:wQ} {b:Kd} {Fb Fd:Kx} (h:xH W n m f a b ca cb Fb Fd other v):m<=W.heap.size:=by
 obtain⟨_,_,_,_,_,_,_,_,c,_⟩:=h;exact c
theorem xH.aa {W V:wA} {f:wQ} {b:Kd} {Fb Fd:Kx} (h:xH W n m f a b ca cb Fb Fd other v) (c:da W V):xH V n m f a b ca cb Fb Fd other v:=h.kept (Cg.of_below c h.top)
theorem Wc {Fb Fd rest:Kx} {x K:Nat} (k:kZ Fb Fd m=0) (b:K<cnt (ag Fb) (ag rest)) (c:x<sz (ag Fb) v):pos (ag Fb) (aN (aY (ag Fb) (ag rest) K) v x) (ag Fd)<m:=by
 obtain⟨h,d,a⟩:=DX k;rw[a];exact r8 _ (E6 (fun u=>rI h.pos _ _ u b) c) _
theorem akE (a b c:Kd) (ca cb cc:Nat) (Fb Fd:Kx) (l:List Fr) (v x:Nat) (w:wA) (hs:aC w a Fb) (hv:aC w b Fd) (U:dE w c l) (hn:Z Fb<=140737488355328) (hm:Z Fd<=140737488355328) (m:kZ Fb Fd (Z l)=0) (hw:Cw 100000 l) (ai:v<Z Fb) (aj:x<sz (ag Fb) v):
  c6 117 #[J a (Z Fb) ca,zp #[J b (Z Fd) cb,J c (Z l) cc],E yR (v:Nat),E yR (x:Nat)] w fun e w'=>xG w.heap.size (bY Fd (v:Int)) (yN (ag Fb) (ag Fd) (ag (bY Fd (v:Int))) v x l) 0 e w'/\da w w':=by
 obtain⟨R,n,an⟩:=DX m;have B7:=Fa (fun V h=>apD a ca Fb v x V h R ai);rw[cJ (show 0<=(x:Int)/\(x:Int)<(sz (ag Fb) v:Int) by omega)] at B7;have Dj:x<=4:=by have:=R.sz_le v;omega
 have B2:=fun V u z=>Hw a b c ca cb cc (Z l) Fb Fd V u z hn hm;rw[m] at B2;have M:=Fa B2;clear B2;have h0:(0:Int)<=(v:Int):=al
 have u:(v:Int)<(Z Fb:Int):=al
 have ax:Z (bY Fd (v:Int))<=Z Fd:=oq _ _;have Yt:=n.length;have tJ:=R.eight;have Q:=Fa R;have mg:=Fa n;have B6:=Fa (ru n (v:Int));have Ev:=Fa (SG (v:=v) n);have jW:=Fa (fun K (hK:K<cnt (ag Fb) (ag (bY Fd (v:Int))))=>Wc m hK aj);have kV:=aho (ag Fb) (ag Fd) (ag (bY Fd (v:Int))) v x l;have AO:=Fa (fun (k:Nat) (h:k<Z (yN (ag Fb) (ag Fd) (ag (bY Fd (v:Int))) v x l))=>arH (ag Fb) (ag Fd) (ag (bY Fd (v:Int))) v x l h);have l8:=Fa (fun V h=>Wb b cb Fd (v:Int) V h al);generalize yN (ag Fb) (ag Fd) (ag (bY Fd (v:Int))) v x l=F at *;generalize bY Fd (v:Int)=rest at *;have ad:=Fa (fun V d q u z=>WJ a d b ca q cb Fb rest Fd v V u z R n ai);have HF:=Fa U;have HW:=Fa hw;have T:=Fa kV;clear aj m R n an U hw kV;have S:=Fa hs;have y:=Fa hv;have H:NR w (((w.alloc (TC (J b (Z Fd) cb) (J c (Z l) cc))).alloc (yd #[E yR (x:Nat)] 3)).alloc (TC (J O 0 0) (J O 0 0))) w.heap.size (w.heap.size+1+1) (J b (Z Fd) cb) (J c (Z l) cc):=⟨((bh.at (w:=w) rfl _ _).alloc _).alloc _,bh.at aE _ _,(((aw _ w).alloc (ak _) _).alloc aE _).alloc (by simp;omega) _⟩
 have X:Boxed (((w.alloc (TC (J b (Z Fd) cb) (J c (Z l) cc))).alloc (yd #[E yR (x:Nat)] 3)).alloc (TC (J O 0 0) (J O 0 0))) (w.heap.size+1) 3 (E yR (x:Nat)):=by
  have h:=(bE (w.alloc (TC (J b (Z Fd) cb) (J c (Z l) cc))) 3 (E yR (x:Nat))).alloc (TC (J O 0 0) (J O 0 0));rwa [eW] at h
 have s:=H.1.c0;have c1:=H.1.c1;go_enter func117,ntmps117;go_wp2_with fail
 generalize (((w.alloc (TC (J b (Z Fd) cb) (J c (Z l) cc))).alloc (yd #[E yR (x:Nat)] 3)).alloc (TC (J O 0 0) (J O 0 0)))=W at *;refine(M.o _ (S.o.aa H.2.2) (y.o.aa H.2.2)).af ?_;rintro e w1 ⟨rfl,D⟩;replace H:=H.step D;replace X:=bB X D;clear s c1 D;have cx:=X.cell;go_wp2_with fail
 refine(B7.o _ (S.o.aa H.2.2)).af ?_;rintro e w2 ⟨rfl,r⟩;replace H:=H.step r;replace X:=bB X r;clear cx r B7 M;have s:=H.1.c0;go_wp2_with fail
 refine(l8.o _ (y.o.aa H.2.2)).af ?_;rintro e w3 ⟨d,q,rfl,i,lW,B9⟩;have EE:=Fa (lW.up H.2.2.size);clear lW;replace H:=H.step B9;replace X:=bB X B9;clear s B9 l8;have s:=H.1.c0;go_wp2_with fail
 refine(ad.o _ d q (S.o.aa H.2.2) (y.o.aa H.2.2)).af ?_;rintro e j ⟨f,rfl,L,t⟩;have ar:=H.2.1.lt;replace H:=H.step t;replace X:=bB X t;replace i:=i.aa t;obtain⟨lb,rfl⟩:=L.shape;have kR:=t.size;clear s t ad;generalize w3.heap.size=n3 at *;have B1:da j (AC j (yd #[.func (.func 219) #[] lb] 49)):=(aw _ j).alloc (ak _) _;have Y:Boxed (AC j (yd #[.func (.func 219) #[] lb] 49)) j.heap.size 49 (.func (.func 219) #[] lb):=bE j _ _;replace H:=H.step B1;replace X:=bB X B1;replace L:=L.aa B1;replace i:=i.aa B1;go_wp2_with fail
 clear B1;generalize (AC j (yd #[.func (.func 219) #[] lb] 49))=w5 at *;generalize j.heap.size=ab at *
 have vG:=Po a d ca q Fb rest 174 #[zZ (I ⟨w.heap.size,0,O⟩),zZ (I ⟨ab,0,O⟩),zZ (I ⟨w.heap.size+1,0,O⟩)] (enters_of func174 ao rfl) F w5 (S.o.aa H.2.2) i Q.o B6.o T.o (fun k m V g=>by
  rw[AO.o k m];have P:k<cnt (ag Fb) (ag rest):=by rw[<- T.o];exact m
  have A:=H.2.2.trans (g.af H.2.2.size);refine arI w.heap.size ab (w.heap.size+1) c cc lb l k x _ (jW.o k P) V (aT H.1.lt g.size) ((g.cell (p:=⟨w.heap.size,1,O⟩) H.1.lt).trans H.1.c1) (aT Y.lt g.size) (bB Y g).cell (aT X.lt g.size) (bB X g).cell (HF.o.aa A) HW.o ?_;intro V' ae;have r:=g.trans (ae.af g.size);exact((L.aa r).calls (S.o.aa (A.trans (ae.af A.size))) (i.aa r) Q.o B6.o mg.o Ev.o P Dj))
 have EC:=Fa vG;clear vG;refine EC.o.af ?_;rintro e w6 ⟨G,rfl,hG,aq,B1⟩;have av:=H.2.1.lt;replace H:=H.step B1;replace i:=i.aa B1;obtain⟨k0,k1,f0,f1⟩:=H.2.1.facts;obtain⟨e1,e2,e3⟩:=H.fin al (cb:=q) (cc:=F.length) EE.o al i aq al (J d (Z rest) q) (J (I ⟨G,0,O⟩) (Z F) (Z F)) rfl rfl;go_wp2;refine cN (e1.result2 rfl _ rfl) rfl ?_;exact⟨e2,e3⟩
def dr (w:wA) (B:Nat) (v:wQ) (l:List Fr):Prop:=w.ownsRow B 63 3 v (Z l) (dI l)
theorem dr.empty (w:wA) (B:Nat):dr w B (J O 0 0) []:=⟨rfl,yp ⟨rfl,rfl⟩⟩
theorem dr.aa {B:Nat} {v:wQ} {l:List Fr} (h:dr w B v l) (e:da w w'):dr w' B v l:=by
 refine⟨h.1,h.2.imp id ?_⟩;rintro⟨g,cap,r,b,c,a,d⟩;exact⟨g,cap,r,b,c,(e.block g (c5.1 a).1).trans a,d⟩
theorem dr.off {B:Nat} {v:wQ} {l:List Fr} (h:dr w B v l) (b j:Nat) (y:wQ) (f:b<B):dr (AF w ⟨b,j,O⟩ y) B v l:=by
 refine⟨h.1,h.2.imp id ?_⟩;rintro⟨g,cap,r,a,c,d,e⟩;exact⟨g,cap,r,a,c,(eO w ⟨b,j,O⟩ y g (by show g≠b;omega)).trans d,e⟩
theorem dr.own {B:Nat} {v:wQ} {l:List Fr} (h:dr w B v l):∀k,v.ownBlock=I k ->B<=k:=by
 intro k a;rcases h.2 with ⟨rfl,_⟩ |⟨g,cap,c,rfl,b,_⟩
 ·cases a
 ·cases a;exact b
theorem dr.fr {B:Nat} {v:wQ} {l:List Fr} (h:dr w B v l):∃d f,v=J d (Z l) f/\dE w d l:=by
 rcases h.2 with ⟨b,e⟩ |⟨g,cap,r,b,e,a,q,s,u,o⟩
 ·have:l=[]:=Hm.1 e;subst this;exact⟨O,0,b,fun k c=>absurd c aE⟩
 ·refine⟨_,_,b,fun k c=>?_⟩;obtain⟨i,m,n⟩:=LB l k c
  have t:∀j,j<Z l*3 ->r[j]? =(dI l)[j]?:=fun j p=>by
   rw[<- o,tu,aA p,wM]
  refine⟨g,0,rfl,(c5.1 a).1,?_,?_,?_⟩
  ·rw[a8 w g _ _ _ (0,0) a,bK,t _ al];exact i
  ·rw[a8 w g _ _ _ (0,0) a,bK,t _ al];exact m
  ·rw[a8 w g _ _ _ (0,0) a,bK,t _ al];exact n
theorem dr.slv {B:Nat} {v:wQ} {l:List Fr} (h:dr w B v l):bW v:=by
 obtain⟨d,c,e,_⟩:=h.fr;exact⟨d,_,c,e⟩
theorem ahg (l:List Fr) (f:Fr):dI (l++[f])=dI l++[zd f.1,zX f.2.1,zX f.2.2]:=by
 induction l with
 |nil=>rfl
 |cons x l ih=>simp only[gC,dI,ih]
theorem ajJ {o:Oper} {a:Act} (p:o.guard=O) (s x:Operand)
  (k:o.op=.call {callee:=.builtin .append,args:= #[s,x],argTypes:= #[36,36]}) (base:Nat) (v:wQ) (l:List Fr) (f:Fr) (hs:a.eval s=v) (t:dr w base v l) (g:Nat) (m:a.eval x=J (I ⟨g,0,O⟩) 1 1) (c:aL w g f.1 f.2.1 f.2.2) (A:Z l+1<=100000) (y:base<=w.heap.size)
  (h:∀v' w',dr w' base v' (l++[f]) ->w.grownBy w' v.ownBlock ->wpList prog ops Q rest (a.put o.dst v') w'):wpList prog ops Q (o::rest) a w:=by
 obtain⟨n,H,z,q,r⟩:=eo Tryz.infoFrac;refine AU _ p s x 36 k base 63 n (zp #[zd x3,zX ⟨#[]⟩,zX ⟨#[]⟩]) 3 40 underlying36 H z q r rfl a6 v (Z l) _ hs t ⟨g,0,O⟩ 1 1 [zd f.1,zX f.2.1,zX f.2.2] m rfl ?_ ?_ (by unfold maxLen;omega) al y ?_
 ·intro j u b;match j,b with
  |0,b=>cases b;exact c.c0
  |1,b=>cases b;exact c.c1
  |2,b=>cases b;exact c.c2
  |j+3,b=>simp at b
 ·intro u d;simp only[bU,gw,jf] at d;rcases d with rfl |rfl |rfl<;>rfl
 ·intro v' w' e i _;refine h v' w' ?_ i;rw[dr,cD,ahg];exact e
theorem LM {Fb Fd:Kx} (h1:fJ Fb) (a:Up Fd (Z Fb)):countB Fb Fd=true:=by
 rw[countB,iI];constructor
 ·rw[pM,iI,eM];refine⟨⟨h1.one,h1.eight⟩,fG.2 fun x c=>?_⟩;obtain⟨i,b,rfl⟩:=iQ c;rw[C9,eM];exact h1.each i b
 ·rw[dZ,fG];intro i b;have h:=bR.1 b;rw[mE,eM,getD_eq h];refine⟨(a.each i h).1,(a.each i h).2,fun d=>?_⟩;rw[getD_eq (show i - 1<Z Fd by omega)];exact a.lt (i - 1) i h al
theorem amo (a b:Kd) (ca cb:Nat) (Fb Fd:Kx) (w:wA) (hs:aC w a Fb) (v:aC w b Fd) (R:fJ Fb) (c:Up Fd (Z Fb)):
  c6 55 #[J a (Z Fb) ca,J b (Z Fd) cb] w (dj w (zz #[E yR (cnt (ag Fb) (ag Fd):Nat),E yR 0])):=by
 have d:=R.eight;have e:=c.length;have h:=amp a b ca cb Fb Fd w hs v al al;rw[LN (LM R c)] at h;exact h
variable {R:List (List Fr)}
def Mw (w:wA) (a:Kd) (R:List (List Fr)):Prop:=∀k (h:k<Z R),∃g o b c,a=I ⟨g,o,O⟩/\g<w.heap.size/\w.cell? ⟨g,o+k,O⟩=I (J b R[k].length c)/\dE w b R[k]/\R[k].length<=c
theorem Mw.aa (h:Mw w a R) (d:da w w'):Mw w' a R:=fun k m=>by
 obtain⟨g,o,b,c,f,e,i,j,l⟩:=h k m;exact⟨g,o,b,c,f,aT e d.size,(d.cell (p:=⟨g,o+k,O⟩) e).trans i,j.aa d,l⟩
def fX (l:List Fr) (k i:Nat):List Fr:=(l.drop (i*k)).take k
def jA (S:Jp) (L:List Kx) (R:List (List Fr)) (v:Nat):Int:=
 if Z (R.getD v [])=cnt S (ag (L.getD v []))*sz S v then(if ((List.range (cnt S (ag (L.getD v [])))).all fun i=>jl (fX (R.getD v []) (sz S v) i))=xq then 0 else 9) else 8
def aU (V:List Vr) (L:List Kx) (R:List (List Fr)):Int:=
 if Z L=Z V/\R.length=Z V then(if bq L=0 then(if mA V=0 then kD (jA (ah V) L R) (Z V) else mA V) else bq L) else 8
theorem dE.chunk {o:Nat} {l:List Fr} (h:dE w (I ⟨g,o,O⟩) l) (s:(i+1)*k<=Z l) (r:m=k):dE w (I ⟨g,o+i*k*3,O⟩) (fX l k i)/\(fX l k i).length=m:=by
 have n:Z (fX l k i)=k:=by
  rw[fX,eZ,qi];have:(i+1)*k=i*k+k:=by rw[iG,lK]
  omega
 refine⟨fun j b=>?_,by rw[n,r]⟩;have e:(i+1)*k=i*k+k:=by rw[iG,lK]
 rw[n] at b;obtain⟨g',o',c,d,f,p,q⟩:=h (i*k+j) al;cases c
 have a:(fX l k i)[j]'(by rw[n];exact b)=l[i*k+j]'al:=by
  simp only[fX,x4,List.getElem_drop]
 refine⟨g,o+i*k*3,rfl,d,?_,?_,?_⟩
 ·rw[a,show o+i*k*3+j*3=o+(i*k+j)*3 by rw[iG];omega];exact f
 ·rw[a,show o+i*k*3+j*3=o+(i*k+j)*3 by rw[iG];omega];exact p
 ·rw[a,show o+i*k*3+j*3=o+(i*k+j)*3 by rw[iG];omega];exact q
theorem ars (l:List Fr) (k i:Nat):fw (fX l k i)<=fw l:=by
 have a:=aha (l.drop (i*k)) k;have h:=aae (l.take (i*k)) (l.drop (i*k));rw[AX] at h;rw[fX];omega
def lD (w:wA) (B:Nat) (v:wQ) (l:List ByteArray):Prop:=w.ownsRow B 9 1 v (Z l) (l.map Value.string)
theorem lD.own {B:Nat} {v:wQ} {l:List ByteArray} (h:lD w B v l):∀k,v.ownBlock=I k ->B<=k:=by
 intro k a;rcases h.2 with ⟨rfl,_⟩ |⟨g,cap,c,rfl,b,_⟩
 ·cases a
 ·cases a;exact b
theorem lD.st {B:Nat} {v:wQ} {l:List ByteArray} (h:lD w B v l):∃d f,v=J d (Z l) f/\jU w d l:=by
 rcases h.2 with ⟨a,b⟩ |⟨g,cap,r,a,b,c,o,p,q,i⟩
 ·have:l=[]:=Hm.1 b;subst this;exact⟨O,0,a,fun k n=>absurd n aE⟩
 ·refine⟨_,_,a,fun j m=>⟨g,0,rfl,(c5.1 c).1,?_⟩⟩;rw[bK,a8 w g j _ _ (0,0) c]
  have e:r[j]? =(r.toList.take (Z l*1))[j]?:=by
   rw[tu,aA al,wM]
  rw[e,i,mr,ba m];rfl
theorem ajE {o:Oper} {a:Act} (p:o.guard=O) (s x:Operand)
  (k:o.op=.call {callee:=.builtin .append,args:= #[s,x],argTypes:= #[58,58]}) (base:Nat) (v:wQ) (l:List ByteArray) (f:ByteArray) (hs:a.eval s=v) (t:lD w base v l) (g:Nat) (m:a.eval x=J (I ⟨g,0,O⟩) 1 1) (i:AJ w ⟨g,0,O⟩=I (zX f)) (A:Z l+1<=100000) (y:base<=w.heap.size)
  (h:∀v' w',lD w' base v' (l++[f]) ->w.grownBy w' v.ownBlock ->wpList prog ops Q rest (a.put o.dst v') w'):wpList prog ops Q (o::rest) a w:=by
 obtain⟨n,H,z,q,r⟩:=eo Tryz.infoStr;refine AU _ p s x 58 k base 9 n (zX ⟨#[]⟩) 1 16 underlying58 H z q r rfl a6 v (Z l) _ hs t ⟨g,0,O⟩ 1 1 [zX f] m rfl ?_ ?_ (by unfold maxLen;omega) al y ?_
 ·intro j u b;match j,b with
  |0,b=>cases b;exact i
  |j+1,b=>simp at b
 ·intro u c;simp only[bU,gw,jf] at c;subst c;rfl
 ·intro v' w' d e _;refine h v' w' ?_ e;rw[lD,cD,gK];exact d
theorem anN (w:wA) (u:ByteArray):AJ (AC w (yd #[zX u] 9)) ⟨w.heap.size,0,O⟩=I (zX u):=(bE w _ _).cell
variable {wr wr':wA}
structure jc (w:wA) (a b c:Kd) (V:List Vr) (L:List Kx) (R:List (List Fr)):Prop where
 Fd:tM w a V
 pars:ei w b L
 rows:Mw w c R
theorem jc.aa {b c:Kd} (h:jc w a b c V L R) (d:da w w'):jc w' a b c V L R:=⟨h.Fd.aa d,h.pars.aa d,h.rows.aa d⟩
structure sX (V:List Vr) (L:List Kx) (R:List (List Fr)):Prop where
 Fd:VSm V
 pars:Z L<=5000/\∀l∈L,Z l<=5000
 rows:Z R<=5000/\∀l∈R,Z l<=5000/\fw l<=10000
def NK (w wr:wA) (x y z:wQ):Prop:=bZ wr w.heap.size x y z/\da w wr
theorem NK.step {x:wQ} (h:NK w wr x y z) (b:da wr wr'):NK w wr' x y z:=⟨h.1.aa b h.1.lt,h.2.trans (b.af h.2.size)⟩
theorem NK.grow {x:wQ} (h:NK w wr x y z) (b:Below (w.heap.size+1) wr wr'):NK w wr' x y z:=⟨h.1.aa b al,h.2.trans (b.af al)⟩
theorem NK.new (w:wA) (x y z:wQ):NK w (w.alloc (NC x y z)) x y z:=⟨bZ.at rfl x y z,(aw _ w).alloc (ak _) _⟩
theorem ahr (r:Z L=Z V) (g:bq L=0) (a:mA V=0):fJ (iL (ah V))/\L.length<=8/\∀v (h:v<Z L),Up L[v] (Z L):=by
 have o:gB L=true:=by
  rw[bq] at g;by_cases h:gB L=xq
  ·exact h
  ·rw[aD h] at g;exact absurd g a6
 obtain⟨p,k,f,_⟩:=mK o
 have l:∀i,i<Z V ->tz V i=0:=by
  rw[mA] at a;by_cases h:oI (lR V)=0
  ·rw[aA h] at a;intro i b
   have y:∀ {n:Nat},kD (tz V) n=0 ->∀j,j< n ->tz V j=0:=by
    intro n;induction n with
    |zero=>intro _ j m;omega
    |succ n ih=>
     intro z j m;rw[kD] at z;by_cases e:kD (tz V) n=0
     ·rw[aA e] at z;rcases dR j n with d |d
      ·exact ih e j d
      ·obtain rfl:j=n:=al
       exact z
     ·rw[aD e] at z;exact absurd z e
   exact y a i b
  ·rw[aD h] at a;exact absurd a h
 refine⟨⟨by rw[bM,lQ];omega,by rw[bM,lQ];omega,fun i b=>?_⟩,k,fun v a=>mC (Ux f a)⟩;rw[bM,lQ] at b;have c:=l i b;rw[tz,Z8 b] at c
 have q:1<=V[i].2.length/\V[i].2.length<=4:=by
  by_cases e:1<=V[i].2.length/\V[i].2.length<=4
  ·exact e
  ·rw[aD e] at c;exact absurd c a6
 have e:(iL (ah V))[i]'(by rw[bM,lQ];exact b)=(V[i].2.length:Int):=by simp[iL,ah]
 rw[e];omega
def LK (w wr:wA) (x y z:wQ):Prop:=NK w wr x y z/\aL wr (w.heap.size+1) x3 ⟨#[]⟩ ⟨#[]⟩
theorem LK.new (w:wA) (x y z:wQ):LK w ((w.alloc (NC x y z)).alloc (FC x3 ⟨#[]⟩ ⟨#[]⟩)) x y z:=⟨(NK.new w x y z).step ((aw _ _).alloc (ak _) _),aL.at aE _ _ _⟩
theorem LK.drewN {x:wQ} (h:LK w wr x y z) (k:Nat):LK w (wr.drewN k) x y z:=⟨⟨h.1.1,below_drewN h.1.2 k⟩,h.2⟩
theorem amC (p:∀v,sz S v<=4) (f:Nat ->Nat) (h:∀u,f u<sz S u) {P:Jp} (l:Z P<=8) (i:Nat):pos S f (P.take i)<=65536:=by
 have a:=r8 f h (P.take i);have b:=xC p (vs:=P.take i) (by rw[eZ];omega);omega
def tF (S:Jp) (P:Jp) (f:Nat ->Nat) (v:Nat):Nat:=pos S f P*sz S v+f v
theorem afu {P:Jp} (h:∀u,f u<sz S u) (v:Nat):tF S P f v<cnt S P*sz S v:=by
 have a:=r8 f h P;have b:=h v;rw[tF]
 calc pos S f P*sz S v+f v<pos S f P*sz S v+sz S v:=al
  _=(pos S f P+1)*sz S v:=by rw[iG,lK]
  _<=cnt S P*sz S v:=mn _ a
theorem apg (a b c d:Kd) (ca cb cc cd v:Nat) (V:List Vr) (L:List Kx) (R:List (List Fr)) (A:Jp) (w:wA) (h:jc w a b c V L R) (hA:aC w d (iL A)) (TM:Z A=Z V) (bg:Z V<=8) (hv:v<Z V) (gh:v<Z L) (tG:v<Z R) (hS:fJ (iL (ah V))) (hU:Up L[v] (Z V)) (ad:R[v].length=cnt (ah V) (ag L[v])*sz (ah V) v) (f:Nat ->Nat) (hf:∀u,f u<sz (ah V) u) (Zc:∀u,u<Z V ->A[u]? =I (f u)):
  c6 258 #[zp #[J a (Z V) ca,J b (Z L) cb,J c (Z R) cc],E yR (v:Nat),J d (Z A) cd] w (dj w (lB (aS R[v] (tF (ah V) (ag L[v]) f v)))):=by
 have hT:=afu (S:=ah V) (P:=ag L[v]) hf v;rw[<- ad] at hT;rw[qP hT];have F:∀u,sz (ah V) u<=4:=fun u=>by have:=hS.sz_le u;rwa [jL] at this
 have ai:Z (ag L[v])<=8:=by rw[gG];have:=hU.length;omega
 have aR:L[v].length<=8:=by have:=hU.length;omega
 have jW:=Fa (fun i=>amC F f hf ai i);have uU:=Fa (fun i (hi:i<Z (ag L[v]))=>amD (ah V) f hi)
 have Es:we (pos (ah V) f ((ag L[v]).take L[v].length)=pos (ah V) f (ag L[v])):=by
  show _=_;rw[lg (by rw[gG];omega)]
 have CB:we (∀u,f u<4):=fun u=>aT (hf u) (F u);have ae:=Fa F;have mg:=Fa hU;have aM:=Fa (fun u (hu:u<Z V)=>Ni hu);have ie:we (∀u (hu:u<Z V),sz (ah V) u=V[u].2.length):=fun u hu=>by rw[sz,Ni hu];rfl
 have aj:=Fa Zc;have HI:=Fa h;have HA:=Fa hA;have ax:tF (ah V) (ag L[v]) f v=pos (ah V) f (ag L[v])*sz (ah V) v+f v:=rfl;obtain⟨gp,y,bp,cp,rfl,im,z,lU⟩:=h.pars v gh;obtain⟨gr,Y,br,cr,rfl,az,B2,Oc,S6⟩:=h.rows v tG;obtain⟨gf,j,rfl,yF,B7,B6,K⟩:=Oc _ hT;obtain⟨gv,g,bv,cv,rfl,F2, -,t, -, -⟩:=h.Fd v hv;obtain⟨B9,oa,rfl,BU,s⟩:=hA v (by rw[bM];omega)
 have ea:(iL A)[v]'(by rw[bM];omega)=((f v:Nat):Int):=by
  obtain⟨m,h2⟩:=oA.1 (Zc v hv);simp only[iL,mq,h2]
 rw[ea] at s;rw[<- ie.o v hv] at t;have Cr:=Fa lU;have M:=Fa (show _/\_/\_/\_/\_/\_/\_ from ⟨z,B2,t,s,B7,B6,K⟩);have Tm:=CB.o v;have KY:=ae.o v;have FO:=jW.o (Z (ag L[v]));rw[iP] at FO
 have bm:R[v].length<=262144:=by
  rw[ad];have m:=xC F ai;exact aO (ld m KY) a6
 have aJ:=Fa S6;generalize hTT:tF (ah V) (ag L[v]) f v=T at *;generalize hfr:R[v][T]=fr at *;obtain⟨fn,fx,fy⟩:=fr;simp only at M;clear h hA Zc lU Oc z B2 t s B7 B6 K ad hf F hS hU ea hTT hfr S6;generalize R[v]=rl at *;generalize L[v]=l at *;have mi:=Fa (LK.new w (J (I ⟨gv,g,O⟩) (Z V) ca) (J (I ⟨gp,y,O⟩) (Z L) cb) (J (I ⟨gr,Y,O⟩) (Z R) cc));obtain⟨X,c1,B1⟩:=mi.o.1.1.cells;have z:=(mi.o.1.2.cell (p:=⟨gp,y+v,O⟩) im).trans M.o.1;go_enter func258,ntmps258;go_wp2_with fail
 generalize ((w.alloc (NC (J (I ⟨gv,g,O⟩) (Z V) ca) (J (I ⟨gp,y,O⟩) (Z L) cb) (J (I ⟨gr,Y,O⟩) (Z R) cc))).alloc (FC x3 ⟨#[]⟩ ⟨#[]⟩))=w1 at *;clear X c1 B1 z;go_loopw [7,16] (fun kv iv wr=>∃i:Nat,i<=Z l/\iv=E yR i/\kv=E yR (pos (ah V) f ((ag l).take i):Nat)/\we (LK w wr (J (I ⟨gv,g,O⟩) (Z V) ca) (J (I ⟨gp,y,O⟩) (Z L) cb) (J (I ⟨gr,Y,O⟩) (Z R) cc))) (fun _ iv _=>Z l - (intOf iv).toNat)
 case atStart=>exact⟨0,aX _,rfl,rfl,mi⟩
 case round=>
  obtain⟨i,hi,rfl,rfl,H⟩:=hrel;clear mi;obtain⟨X,c1,B1⟩:=H.o.1.1.cells;have z:=(H.o.1.2.cell (p:=⟨gp,y+v,O⟩) im).trans M.o.1;by_cases ab:i<Z l
  ·obtain⟨gl,ol,rfl,cR,l1⟩:=(Cr.o.aa H.o.1.2) i ab;obtain⟨kQ,iJ⟩:=mg.o.nat ab;(have pG:i<Z (ag l):=by rw[gG];exact ab);have fC:=uU.o i pG;rw[wO ab] at fC;have uC:=jW.o i;rw[<- kQ] at l1;generalize l[i].toNat=u at *;obtain⟨bf,bs,bu,cu,ev,aW, -,n2, -, -⟩:=(HI.o.aa H.o.1.2).Fd u iJ;cases ev;rw[<- ie.o u iJ] at n2;obtain⟨bb,bo,av,aZ,a2⟩:=(HA.o.aa H.o.1.2) u (by rw[bM];omega);cases av
   have eu:(iL A)[u]'(by rw[bM];omega)=((f u:Nat):Int):=by
    obtain⟨m,h2⟩:=oA.1 (aj.o u iJ);simp only[iL,mq,h2]
   rw[eu] at a2;have bk:=CB.o u;have BD:=ae.o u;have Qg:we (pos (ah V) f ((ag l).take (i+1))=pos (ah V) f ((ag l).take i)*sz (ah V) u+f u):=fC;clear fC eu pG kQ;generalize I0:pos (ah V) f ((ag l).take (i+1))=P1 at *;generalize pos (ah V) f ((ag l).take i)=D at *;generalize sz (ah V) u=Q at *;generalize f u=fu at *;have m:D*Q<=65536*4:=ld uC BD
   have aE:IntKind.i64.wrap ((D:Int)*(Q:Int))=((D*Q:Nat):Int):=by
    rw[jx, <- ng];omega
   have bA:IntKind.i64.wrap (((D*Q:Nat):Int)+(fu:Int))=(P1:Int):=by
    rw[jx];have:=Qg.o;omega
   generalize D*Q=Q0 at *;have wm:=Fa I0;clear I0 m Qg;go_upto_region 5 with fail
   go_quiet (fail)
   have an:=Fa (H.o.drewN nq);generalize wr.drewN nq=w2 at *;go_wp2;go_roundw
   case rel=>exact⟨i+1,al,bd,by rw[wm.o],an⟩
   case measure=>simp[intOf];omega
  ·obtain rfl:i=Z l:=al
   rw[Es.o];have B2:=(H.o.1.2.cell (p:=⟨gr,Y+v,O⟩) az).trans M.o.2.1;have t:=(H.o.1.2.cell (p:=⟨gv,g+v*2+1,O⟩) F2).trans M.o.2.2.1;have s:=(H.o.1.2.cell (p:=⟨B9,oa+v,O⟩) BU).trans M.o.2.2.2.1;have B7:=(H.o.1.2.cell (p:=⟨gf,j+T*3,O⟩) yF).trans M.o.2.2.2.2.1;have B6:=(H.o.1.2.cell (p:=⟨gf,j+T*3+1,O⟩) yF).trans M.o.2.2.2.2.2.1;have K:=(H.o.1.2.cell (p:=⟨gf,j+T*3+2,O⟩) yF).trans M.o.2.2.2.2.2.2;have m:pos (ah V) f (ag l)*sz (ah V) v<=65536*4:=ld FO KY;generalize pos (ah V) f (ag l)=p at *;generalize sz (ah V) v=k at *;generalize f v=x at *
   have aE:IntKind.i64.wrap ((p:Int)*(k:Int))=((p*k:Nat):Int):=by
    rw[jx, <- ng];omega
   have bA:IntKind.i64.wrap (((p*k:Nat):Int)+(x:Int))=(T:Int):=by
    rw[jx];omega
   generalize p*k=pk at *;clear ax m;go_upto_region 7 with fail
   have U:=H.o;refine iD (S:=fun u=>AJ u ⟨w.heap.size,2,O⟩=I (J (I ⟨gr,Y,O⟩) (Z R) cc)/\u.cell? ⟨gr,Y+v,O⟩=I (J (I ⟨gf,j,O⟩) (Z rl) cr)/\u.cell? ⟨w.heap.size,0,O⟩=I (J (I ⟨gv,g,O⟩) (Z V) ca)/\u.cell? ⟨gv,g+v*2+1,O⟩=I (J bv k cv)/\u.cell? ⟨B9,oa+v,O⟩=I (E yR (x:Nat))/\u.cell? ⟨gf,j+T*3,O⟩=I (zd fn)/\u.cell? ⟨gf,j+T*3+1,O⟩=I (zX fx)/\u.cell? ⟨gf,j+T*3+2,O⟩=I (zX fy)) ao ⟨B1,B2,X,t,s,B7,B6,K⟩ (fun r=>?_);have U:LK w wr.drew (J (I ⟨gv,g,O⟩) (Z V) ca) (J (I ⟨gp,y,O⟩) (Z L) cb) (J (I ⟨gr,Y,O⟩) (Z R) cc):=⟨⟨H.o.1.1,H.o.1.2.drew⟩,H.o.2⟩;clear X c1 B1 z B2 t s B7 B6 K;generalize wr.drew=u0 at *;refine au 0 (zZ (I ⟨w.heap.size,2,O⟩)) ?_;refine au 1 (J (I ⟨gr,Y,O⟩) (Z R) cc) ?_;refine au 2 (E yR (v:Nat)) ?_;refine au 3 (zZ (I ⟨gr,Y+v,O⟩)) ?_;refine au 4 (J (I ⟨gf,j,O⟩) (Z rl) cr) ?_;refine au 5 (E yR (p:Nat)) ?_;refine au 6 (zZ (I ⟨w.heap.size,0,O⟩)) ?_;refine au 7 (J (I ⟨gv,g,O⟩) (Z V) ca) ?_;refine au 8 (E yR (v:Nat)) ?_;refine au 9 (zZ (I ⟨gv,g+v*2,O⟩)) ?_;refine au 10 (zZ (I ⟨gv,g+v*2+1,O⟩)) ?_;refine au 11 (J bv k cv) ?_;refine au 12 (E yR (k:Nat)) ?_;refine au 13 (E yR (pk:Nat)) ?_;refine au 14 (J (I ⟨B9,oa,O⟩) (Z A) cd) ?_
   refine au 15 (E yR (v:Nat)) ?_;refine au 16 (zZ (I ⟨B9,oa+v,O⟩)) ?_;refine au 17 (E yR (x:Nat)) ?_;refine au 18 (E yR (T:Nat)) ?_;refine au 19 (zZ (I ⟨gf,j+T*3,O⟩)) ?_;refine au 20 (zp #[zd fn,zX fx,zX fy]) ?_;(try simp only[gE,aP]);obtain⟨k0,k1,k2,f0,f1,f2⟩:=U.2.facts;(have n:w.heap.size≠w.heap.size+1:=al);(have YW:gr≠w.heap.size+1:=al);(have YV:gv≠w.heap.size+1:=al);(have YX:B9≠w.heap.size+1:=al);(have q:gf≠w.heap.size+1:=al);refine aG [21] (cA ?_ aH);intro K' af;go_simp;have pH:=U.2.put fn fx fy;have ay:=eJ U.1.2 (show w.heap.size<=w.heap.size+1 by omega) (zd fn) (zX fx) (zX fy)
   refine af.o _ _ ⟨((gg _ _ _ _ (fun e=>n (eG Addr.block e).symm)).trans ((gg _ _ _ _ (fun e=>n (eG Addr.block e).symm)).trans ((gg _ _ _ _ (fun e=>n (eG Addr.block e).symm)).trans r.1))),((gg _ _ _ _ (fun e=>YW (eG Addr.block e).symm)).trans ((gg _ _ _ _ (fun e=>YW (eG Addr.block e).symm)).trans ((gg _ _ _ _ (fun e=>YW (eG Addr.block e).symm)).trans r.2.1))),((gg _ _ _ _ (fun e=>n (eG Addr.block e).symm)).trans ((gg _ _ _ _ (fun e=>n (eG Addr.block e).symm)).trans ((gg _ _ _ _ (fun e=>n (eG Addr.block e).symm)).trans r.2.2.1))),((gg _ _ _ _ (fun e=>YV (eG Addr.block e).symm)).trans ((gg _ _ _ _ (fun e=>YV (eG Addr.block e).symm)).trans ((gg _ _ _ _ (fun e=>YV (eG Addr.block e).symm)).trans r.2.2.2.1))),((gg _ _ _ _ (fun e=>YX (eG Addr.block e).symm)).trans ((gg _ _ _ _ (fun e=>YX (eG Addr.block e).symm)).trans ((gg _ _ _ _ (fun e=>YX (eG Addr.block e).symm)).trans r.2.2.2.2.1))),((gg _ _ _ _ (fun e=>q (eG Addr.block e).symm)).trans ((gg _ _ _ _ (fun e=>q (eG Addr.block e).symm)).trans ((gg _ _ _ _ (fun e=>q (eG Addr.block e).symm)).trans r.2.2.2.2.2.1))),((gg _ _ _ _ (fun e=>q (eG Addr.block e).symm)).trans ((gg _ _ _ _ (fun e=>q (eG Addr.block e).symm)).trans ((gg _ _ _ _ (fun e=>q (eG Addr.block e).symm)).trans r.2.2.2.2.2.2.1))),((gg _ _ _ _ (fun e=>q (eG Addr.block e).symm)).trans ((gg _ _ _ _ (fun e=>q (eG Addr.block e).symm)).trans ((gg _ _ _ _ (fun e=>q (eG Addr.block e).symm)).trans r.2.2.2.2.2.2.2)))⟩ (fun aq=>?_)
   clear af K' r aq k0 k1 k2 f0 f1 f2;generalize (AF (AF (AF u0 ⟨w.heap.size+1,0,O⟩ (zd fn)) ⟨w.heap.size+1,1,O⟩ (zX fx)) ⟨w.heap.size+1,2,O⟩ (zX fy))=u9 at *;(try simp only[gE,aP]);refine eV ao ?_ _;go_wp2;refine cN (pH.result rfl _ rfl) rfl ?_;exact⟨rfl,ay⟩
structure NOK (V:List Vr) (L:List Kx) (R:List (List Fr)):Prop where
 len:Z L=Z V
 lenR:Z R=Z V
 n8:Z V<=8
 fine:fJ (iL (ah V))
 up:∀v (h:v<Z L),Up L[v] (Z V)
 rows:∀v (h:v<Z L) (h':v<Z R),R[v].length=cnt (ah V) (ag L[v])*sz (ah V) v
theorem DU {f:Nat ->Int}:∀ {n:Nat},kD f n=0 ->∀j,j< n ->f j=0
 |0,_,j,hj=>al
 |n+1,hz,j,hj=>by
  rw[kD] at hz;by_cases e:kD f n=0
  ·rw[aA e] at hz;rcases dR j n with h |h
   ·exact DU e j h
   ·obtain rfl:j=n:=al
    exact hz
  ·rw[aD e] at hz;exact absurd hz e
theorem fK (h:aU V L R=0):NOK V L R:=by
 rw[aU] at h;by_cases a:Z L=Z V/\R.length=Z V
 ·rw[aA a] at h;by_cases b:bq L=0
  ·rw[aA b] at h;by_cases c:mA V=0
   ·rw[aA c] at h;obtain⟨g,i,u⟩:=ahr a.1 b c;refine⟨a.1,a.2,al,g,fun v e=>by rw[<- a.1];exact u v e,fun v e r=>?_⟩;have d:=DU h v al;rw[jA,cK,ba r,cK,ba e] at d;by_cases f:R[v].length=cnt (ah V) (ag L[v])*sz (ah V) v
    ·exact f
    ·simp only[CP] at d;rw[aD f] at d;exact absurd d a6
   ·rw[aD c] at h;exact absurd h c
  ·rw[aD b] at h;exact absurd h b
 ·rw[aD a] at h;exact absurd h a6
def fL (V:List Vr) (L:List Kx) (R:List (List Fr)) (f:Nat ->Nat) (v:Nat):Fr:=aS (R.getD v []) (tF (ah V) (ag (L.getD v [])) f v)
def wP (V:List Vr) (L:List Kx) (R:List (List Fr)) (f:Nat ->Nat):Nat ->Rat
 |0=>1
 |k+1=>wP V L R f k*bj (fL V L R f k)
theorem SD (h:v<Z L) (a:v<Z R):fL V L R f v=aS R[v] (tF (ah V) (ag L[v]) f v):=by
 rw[fL,cK,ba a,cK,ba h];rfl
theorem apq (b:NOK V L R) (e:∀u,f u<sz (ah V) u) (w:∀l∈R,fw l<=4200) (d:v<Z V):(fL V L R f v).2.1.size+(fL V L R f v).2.2.size<=4200:=by
 have c:v<Z L:=by rw[b.len];exact d
 have h:v<Z R:=by rw[b.lenR];exact d
 rw[SD c h];have a:=afu (S:=ah V) (P:=ag L[v]) e v;rw[<- b.rows v c h] at a;have g:=as9 a;have i:=w R[v] (bQ h);omega
variable {A:Nat}
theorem Pm {q:Rat} (h:Fits m q) (a:m<=n):Fits n q:=by
 obtain⟨A,D,b,c,d,e⟩:=h;exact⟨A,D,b,c,aT d (KC a),aT e (KC a)⟩
theorem ag3 (f g:Fr):great f g=f∨great f g=g:=by
 rw[great];by_cases h:jS (bj f) (bj g)<0
 ·rw[aA h];exact xS rfl
 ·rw[aD h];exact yp rfl
theorem RJ (q:Rat):(qF q).2.1.size+(qF q).2.2.size=qw q:=rfl
theorem aee (m:Bool) (T:Nat ->Fr):∀k,(∀x,x<=k ->(T x).2.1.size+(T x).2.2.size+2<=8192) ->Fits ((k+1)*8192) (bj (nk m T k))
 |0,h=>Pm (aai _ _ _) (by have:=h 0 (ak _);show (T 0).2.1.size+(T 0).2.2.size+1<=_;omega)
 |k+1,h=>by
  have a:=aee m T k fun x c=>h x al;have b:Fits 8191 (bj (T (k+1))):=Pm (aai _ _ _) (by have:=h (k+1) (ak _);omega);rw[nk];cases m with
  |true=>
   rw[aA rfl];rcases ag3 (nk xq T k) (T (k+1)) with e |e
   ·rw[e];exact Pm a al
   ·rw[e];exact Pm b al
  |false=>
   rw[aD a6,j5];exact Pm (ahq a b) al
theorem ano (k:Nat):2*((k+1)*8192)<=2*((k+1+1)*8192):=al
theorem ann (k:Nat):8192<=2*((k+1+1)*8192):=al
theorem aq6 {f g:Fr} (h1:f.2.1.size+f.2.2.size<=A) (h:g.2.1.size+g.2.2.size<=A):(great f g).2.1.size+(great f g).2.2.size<=A:=by
 rcases ag3 f g with e |e
 ·rw[e];exact h1
 ·rw[e];exact h
theorem Xq (m:Bool) (T:Nat ->Fr):∀k,(∀x,x<=k ->(T x).2.1.size+(T x).2.2.size+2<=8192) ->(nk m T k).2.1.size+(nk m T k).2.2.size<=2*((k+1)*8192)
 |0,h=>by have:=h 0 (ak _);rw[nk];omega
 |k+1,h=>by
  have b:=Xq m T k fun x e=>h x al;have c:=h (k+1) (ak _);have a:=aee m T (k+1) h;rw[nk] at a⊢;cases m with
  |true=>
   rw[aA rfl];exact aq6 (aO b (ano k)) (aO (aO (MJ _ 2) c) (ann k))
  |false=>
   rw[aD a6] at a⊢;rw[j5] at a;have d:=T7 a;rw[RJ];exact d
def aa0 (most:Bool) (pf:Nat):Prop:=(∀args w,(callFunc pf args).run prog w=.ok (.enter pf args) w)/\∀(f g:Fr) (V:wA),f.2.1.size+f.2.2.size<=100000 ->g.2.1.size+g.2.2.size<=100000 ->c6 pf #[lB f,lB g] V fun e w'=>e=yk (lB (if most then great f g else qF (bj f+bj g)))/\da V w'
theorem am8:aa0 x3 160:=⟨enters_of func160 ao rfl,fun f g V h a=>arY (n:=f.1) (m:=g.1) (x:=f.2.1) (y:=f.2.2) (u:=g.2.1) (v:=g.2.2) (w:=V) (bj f+bj g) rfl rfl rfl h a⟩
theorem am9:aa0 xq 217:=⟨enters_of func217 ao rfl,fun f g V h a=>aq5 f g V h a⟩
theorem aeg (m:Bool) (s:Nat) (Y:aa0 m s) (z D B9 t j:Nat) (a c:Kd) (ca cc:Nat) (Fb:Kx) (lb:Array wQ) (l:List Fr) (k v n:Nat) (P:Nat ->Nat) (B2:∀x,x< n ->P x<Z l) (fW:1<=n) (FV:n<=4) (eH:v<Z Fb) (BQ:Fb[v]=(n:Int)) (w:wA)
  (ad:z<w.heap.size) (xh:AJ w ⟨z,0,O⟩=I (.func (.func s) #[] #[])) (Ah:D<w.heap.size) (xs:AJ w ⟨D,0,O⟩=I (J a (Z Fb) ca)) (Lu:B9<w.heap.size) (xv:AJ w ⟨B9,0,O⟩=I (E yR (v:Nat))) (xw:t<w.heap.size) (xc:AJ w ⟨t,1,O⟩=I (J c (Z l) cc)) (T:j<w.heap.size) (xf:AJ w ⟨j,0,O⟩=I (.func (.func 219) #[] lb)) (hs:aC w a Fb) (hf:dE w c l) (h1:Cw 8192 l)
  (hc:∀x,x< n ->∀V,da w V ->c6 219 (#[E yR (k:Nat),E yR (x:Nat)]++lb) V fun e w'=>e=yk (E yR (P x:Nat))/\da V w'):
  c6 168 #[E yR (k:Nat),zZ (I ⟨z,0,O⟩),zZ (I ⟨D,0,O⟩),zZ (I ⟨B9,0,O⟩),zZ (I ⟨t,0,O⟩),zZ (I ⟨j,0,O⟩)] w (dj w (lB (qF (bj (nk m (fun x=>aS l (P x)) (n - 1)))))):=by
 obtain⟨g,o,rfl,hg,M⟩:=hs v eH;rw[BQ] at M;have L:∀x,x< n ->(aS l (P x)).2.1.size+(aS l (P x)).2.2.size+2<=8192:=fun x q=>h1 _ (B2 x q);have FH:=Xq m (fun x=>aS l (P x)) (n - 1) fun x q=>L x al
 have X:∀W,da w W ->∀A,A<W.heap.size ->AJ W ⟨A,0,O⟩=I (E yR (k:Nat)) ->c6 169 #[zp #[.func (.func s) #[] #[]],E yR (n:Nat),.func (.func 170) #[] #[zZ (I ⟨t,0,O⟩),zZ (I ⟨j,0,O⟩),zZ (I ⟨A,0,O⟩)]] W (dj W (lB (nk m (fun x=>aS l (P x)) (n - 1)))):=by
  intro W B1 A U xk;refine apC s 170 #[] _ Y.1 (enters_of func170 ao rfl) n (fun x=>aS l (P x)) (nk m (fun x=>aS l (P x))) W fW al ?_ ?_ rfl
  ·intro x q V d;have b:=B1.trans (d.af B1.size);exact anv t j A c cc lb l k x (P x) (B2 x q) V (aT xw b.size) ((b.cell (p:=⟨t,1,O⟩) xw).trans xc) (aT T b.size) ((b.cell (p:=⟨j,0,O⟩) T).trans xf) (aT U d.size) ((d.cell (p:=⟨A,0,O⟩) U).trans xk) (hf.aa b) fun V' ae=>hc x q V' (b.trans (ae.af b.size))
  ·intro x q V d;have e1:=Xq m (fun x=>aS l (P x)) x fun y hy=>L y al;have e2:=L (x+1) q;exact Y.2 _ _ V al (by show (aS l (P (x+1))).2.1.size+(aS l (P (x+1))).2.2.size<=_;omega)
 have R:=Fa X;have Q:=Fa (fun V:wA=>VB (w:=V) (bj (nk m (fun x=>aS l (P x)) (n - 1))) rfl (show (nk m (fun x=>aS l (P x)) (n - 1)).2.1.size+(nk m (fun x=>aS l (P x)) (n - 1)).2.2.size<=100000 by omega));rw[T2];generalize bj (nk m (fun x=>aS l (P x)) (n - 1))=r at *;generalize nk m (fun x=>aS l (P x)) (n - 1)=f at *;clear X FH L hc hf hs B2 Y xc xf;obtain⟨fn,fx,fy⟩:=f;simp only at Q R;have aj:(0:Int)<=(v:Int):=al
 have pA:(v:Int)<(Z Fb:Int):=al
 have i:aL ((AC w (yd #[E yR (k:Nat)] 3)).alloc (FC x3 ⟨#[]⟩ ⟨#[]⟩)) (w.heap.size+1) x3 ⟨#[]⟩ ⟨#[]⟩:=aL.at aE _ _ _;have B6:Boxed ((AC w (yd #[E yR (k:Nat)] 3)).alloc (FC x3 ⟨#[]⟩ ⟨#[]⟩)) w.heap.size 3 (E yR (k:Nat)):=(bE w _ _).alloc _;have b:da w ((AC w (yd #[E yR (k:Nat)] 3)).alloc (FC x3 ⟨#[]⟩ ⟨#[]⟩)):=((aw _ w).alloc (ak _) _).alloc aE _;go_enter func168,ntmps168;go_upto_region 1 with fail
 generalize ((AC w (yd #[E yR (k:Nat)] 3)).alloc (FC x3 ⟨#[]⟩ ⟨#[]⟩))=W at *;replace i:=i.drew;replace b:=b.drew;replace B6:Boxed W.drew w.heap.size 3 (E yR (k:Nat)):=B6;have ab:∀u,da w u ->AJ u ⟨z,0,O⟩=I (.func (.func s) #[] #[])/\u.cell? ⟨D,0,O⟩=I (J (I ⟨g,o,O⟩) (Z Fb) ca)/\u.cell? ⟨B9,0,O⟩=I (E yR (v:Nat))/\u.cell? ⟨g,o+v,O⟩=I (E yR (n:Nat)):=fun u h=>⟨(h.cell (p:=⟨z,0,O⟩) ad).trans xh,(h.cell (p:=⟨D,0,O⟩) Ah).trans xs,(h.cell (p:=⟨B9,0,O⟩) Lu).trans xv,(h.cell (p:=⟨g,_,O⟩) hg).trans M⟩;have HELD:=Fa ab;clear ab xh xs xv M;refine iD (S:=fun u=>AJ u ⟨z,0,O⟩=I (.func (.func s) #[] #[])/\u.cell? ⟨D,0,O⟩=I (J (I ⟨g,o,O⟩) (Z Fb) ca)/\u.cell? ⟨B9,0,O⟩=I (E yR (v:Nat))/\u.cell? ⟨g,o+v,O⟩=I (E yR (n:Nat))) ao (HELD.o _ b) (fun B7=>?_);generalize W.drew=u0 at *;refine au 0 (zp #[.func (.func s) #[] #[]]) ?_;refine au 1 (J (I ⟨g,o,O⟩) (Z Fb) ca) ?_;refine au 2 (E yR (v:Nat)) ?_;refine au 3 (zZ (I ⟨g,o+v,O⟩)) ?_;refine au 4 (E yR (n:Nat)) ?_;refine au 5 (.func (.func 170) #[] #[zZ (I ⟨t,0,O⟩),zZ (I ⟨j,0,O⟩),zZ (I ⟨w.heap.size,0,O⟩)]) ?_;refine aG [6] (cA ?_ aH);intro F K;go_simp;refine(R.o _ b _ B6.lt B6.cell).af ?_;rintro e u1 ⟨rfl,d⟩;replace i:=i.aa d i.lt;clear B6
 replace b:=b.trans (d.af b.size);refine K.o _ _ (HELD.o _ b) (fun H=>?_);clear K F B7;have B7:=H;clear H d;refine aG [7] (cA ?_ aH);intro F K;go_simp;refine(Q.o _).af ?_;rintro e u2 ⟨rfl,d⟩;replace i:=i.aa d i.lt;replace b:=b.trans (d.af b.size);refine K.o _ _ (HELD.o _ b) (fun H=>?_);clear K F B7;have B7:=H;clear H d;try simp only[gE,aP]
 obtain⟨k0,k1,k2,f0,f1,f2⟩:=i.facts;refine aG [8] (cA ?_ aH);intro F K;go_simp;have ai:=i.put (aV r) (nu r) (de r);have vP:=eJ b (g:=w.heap.size+1) al (zd (aV r)) (zX (nu r)) (zX (de r));generalize (AF (AF (AF u2 ⟨w.heap.size+1,0,O⟩ (zd (aV r))) ⟨w.heap.size+1,1,O⟩ (zX (nu r))) ⟨w.heap.size+1,2,O⟩ (zX (de r)))=v9 at *;refine K.o _ _ (HELD.o _ vP) (fun _=>eV ao ?_ _);clear K F B7;go_wp2;refine cN (ai.result rfl _ rfl) rfl ?_;exact⟨rfl,vP⟩
variable {s:wQ}
def OH (w V:wA) (s u v x:wQ):Prop:=Boxed V w.heap.size 27 s/\NR w V (w.heap.size+1) (w.heap.size+1+1+1) u v/\Boxed V (w.heap.size+1+1) 3 x
theorem OH.step {V:wA} {u v x:wQ} (h:OH w V s u v x) (b:da V V'):OH w V' s u v x:=⟨bB h.1 b,h.2.1.step b,bB h.2.2 b⟩
theorem OH.new (w:wA) (s u v x:wQ):OH w ((((AC w (yd #[s] 27)).alloc (TC u v)).alloc (yd #[x] 3)).alloc (TC (J O 0 0) (J O 0 0))) s u v x:=by
 have a:Boxed (((AC w (yd #[s] 27)).alloc (TC u v)).alloc (yd #[x] 3)) (w.heap.size+1+1) 3 x:=by
  have h:=bE ((AC w (yd #[s] 27)).alloc (TC u v)) 3 x;rwa [eW,eW] at h
 exact⟨(((bE w _ _).alloc _).alloc _).alloc _,⟨((bh.at aE _ _).alloc _).alloc _,bh.at aE _ _,((((aw _ w).alloc (ak _) _).alloc aE _).alloc (by simp;omega) _).alloc (by simp;omega) _⟩,a.alloc _⟩
theorem OH.off {V:wA} {u v x:wQ} (h:OH w V s u v x) (B j:Nat) (y:wQ) (a:w.heap.size+1+1+1<B):OH w (AF V ⟨B,j,O⟩ y) s u v x:=⟨i6 h.1 B j y al,h.2.1.off B j y al al al,i6 h.2.2 B j y al⟩
theorem OH.top {V:wA} {u v x:wQ} (h:OH w V s u v x):w.heap.size+1+1+1<V.heap.size:=h.2.1.2.1.lt
theorem Xs (S Fd rest:Jp) (v:Nat) (m:Bool) (l:List Fr):Z (sf S Fd rest v m l)=cnt S rest:=by simp[sf]
theorem aef (S Fd rest:Jp) (v:Nat) (m:Bool) (l:List Fr) (h:k<Z (sf S Fd rest v m l)):(sf S Fd rest v m l)[k]=qF (bj (nk m (fun x=>aS l (pos S (aN (aY S rest k) v x) Fd)) (sz S v - 1))):=by simp[sf]
theorem aky (a b c:Kd) (ca cb cc:Nat) (Fb Fd:Kx) (l:List Fr) (v:Nat) (w:wA) (hs:aC w a Fb) (hv:aC w b Fd) (hf:dE w c l) (hn:Z Fb<=140737488355328) (hm:Z Fd<=140737488355328) (q:kZ Fb Fd (Z l)=0) (hw:Cw 8192 l) (an:Fd.contains (v:Int)=xq) (B7:v<Z Fb):
  c6 107 #[J a (Z Fb) ca,zp #[J b (Z Fd) cb,J c (Z l) cc],E yR (v:Nat),zd x3] w fun e w'=>xG w.heap.size (bY Fd (v:Int)) (sf (ag Fb) (ag Fd) (ag (bY Fd (v:Int))) v x3 l) 0 e w'/\da w w':=by
 obtain⟨R,r,aq⟩:=DX q;have Q:=Fa (fun V h=>Kp b cb Fd (v:Int) V h hm);rw[an] at Q;have P:=fun V M B2=>Hw a b c ca cb cc (Z l) Fb Fd V M B2 hn hm;rw[q] at P;have HC:=Fa P;clear P;have av:Z (bY Fd (v:Int))<=Z Fd:=oq _ _;have Yt:=r.length;have tJ:=R.eight;have dP:=Fa R;have mg:=Fa r;have U:=Fa (ru r (v:Int));have Ev:=Fa (SG (v:=v) r);have jW:=Fa (fun K (hK:K<cnt (ag Fb) (ag (bY Fd (v:Int)))) x (B9:x<sz (ag Fb) v)=>Wc q hK B9);have kV:=Xs (ag Fb) (ag Fd) (ag (bY Fd (v:Int))) v x3 l;have AO:=Fa (fun (k:Nat) (h:k<Z (sf (ag Fb) (ag Fd) (ag (bY Fd (v:Int))) v x3 l))=>aef (ag Fb) (ag Fd) (ag (bY Fd (v:Int))) v x3 l h);have l8:=Fa (fun V h=>Wb b cb Fd (v:Int) V h al);generalize sf (ag Fb) (ag Fd) (ag (bY Fd (v:Int))) v x3 l=F at *;generalize bY Fd (v:Int)=rest at *;have ab:=Fa (fun V d s M B2=>WJ a d b ca s cb Fb rest Fd v V M B2 R r B7);have HF:=Fa hf;have HW:=Fa hw;have gF:=Fa kV;have HN:=Fa (R.sz_eq B7);have xR:=Fa (R.sz_le v);have GR:=Fa (jM R.pos v);have uN:=Fa B7;clear an q R r aq hf hw kV;have S:=Fa hs;have z:=Fa hv;have H:=OH.new w (J a (Z Fb) ca) (J b (Z Fd) cb) (J c (Z l) cc) (E yR (v:Nat));have n:=H.2.1.1.c0;have c1:=H.2.1.1.c1;have t:=H.1.cell;go_enter func107,ntmps107;go_wp2_with fail
 generalize ((((AC w (yd #[J a (Z Fb) ca] 27)).alloc (TC (J b (Z Fd) cb) (J c (Z l) cc))).alloc (yd #[E yR (v:Nat)] 3)).alloc (TC (J O 0 0) (J O 0 0)))=W at *;refine(HC.o _ (S.o.aa H.2.1.2.2) (z.o.aa H.2.1.2.2)).af ?_;rintro e w1 ⟨rfl,ae⟩;replace H:=H.step ae;clear n c1 t ae;have n:=H.2.1.1.c0;have cx:=H.2.2.cell;go_wp2_with fail
 refine(Q.o _ (z.o.aa H.2.1.2.2)).af ?_;rintro e w2 ⟨rfl,y⟩;replace H:=H.step y;clear n cx y Q;go_wp2_with fail
 refine(acm _).af ?_;rintro e j ⟨rfl,ai⟩;replace H:=H.step ai;clear ai;have aj:da j (AC j (yd #[.func (.func 160) #[] #[]] 190)):=(aw _ j).alloc (ak _) _;have B6:Boxed (AC j (yd #[.func (.func 160) #[] #[]] 190)) j.heap.size 190 (.func (.func 160) #[] #[]):=bE j _ _;have di:=H.top;replace H:=H.step aj;clear aj;have n:=H.2.1.1.c0;have cx:=H.2.2.cell;go_wp2_with fail
 clear n cx;generalize (AC j (yd #[.func (.func 160) #[] #[]] 190))=w5 at *;generalize j.heap.size=T at *;refine(l8.o _ (z.o.aa H.2.1.2.2)).af ?_;rintro e w6 ⟨d,s,rfl,i,lW,B1⟩;have EE:=Fa (lW.up H.2.1.2.2.size);clear lW;replace H:=H.step B1;replace B6:=bB B6 B1;clear B1 l8;have n:=H.2.1.1.c0;have cx:=H.2.2.cell;have t:=H.1.cell;go_wp2_with fail
 refine(ab.o _ d s (S.o.aa H.2.1.2.2) (z.o.aa H.2.1.2.2)).af ?_;rintro e m ⟨f,rfl,L,A⟩;replace H:=H.step A;replace B6:=bB B6 A;replace i:=i.aa A;obtain⟨lb,rfl⟩:=L.shape;clear n cx t A ab;generalize w6.heap.size=n3 at *;have u:da m (AC m (yd #[.func (.func 219) #[] lb] 49)):=(aw _ m).alloc (ak _) _;have hY:Boxed (AC m (yd #[.func (.func 219) #[] lb] 49)) m.heap.size 49 (.func (.func 219) #[] lb):=bE m _ _;replace H:=H.step u;replace B6:=bB B6 u;replace L:=L.aa u;replace i:=i.aa u;have t:=H.1.cell;go_wp2_with fail
 clear u t;generalize (AC m (yd #[.func (.func 219) #[] lb] 49))=w8 at *;generalize m.heap.size=X at *
 have vG:=Po a d ca s Fb rest 168 #[zZ (I ⟨T,0,O⟩),zZ (I ⟨w.heap.size,0,O⟩),zZ (I ⟨w.heap.size+1+1,0,O⟩),zZ (I ⟨w.heap.size+1,0,O⟩),zZ (I ⟨X,0,O⟩)] (enters_of func168 ao rfl) F w8 (S.o.aa H.2.1.2.2) i dP.o U.o gF.o (fun k q V g=>by
  rw[AO.o k q];have Y:k<cnt (ag Fb) (ag rest):=by rw[<- gF.o];exact q
  have D:=H.2.1.2.2.trans (g.af H.2.1.2.2.size);refine aeg x3 160 am8 T w.heap.size (w.heap.size+1+1) (w.heap.size+1) X a c ca cc Fb lb l k v (sz (ag Fb) v) (fun x=>pos (ag Fb) (aN (aY (ag Fb) (ag rest) k) v x) (ag Fd)) (fun x B9=>jW.o k Y x B9) GR.o xR.o uN.o HN.o.symm V (aT B6.lt g.size) (bB B6 g).cell (aT H.1.lt g.size) (bB H.1 g).cell (aT H.2.2.lt g.size) (bB H.2.2 g).cell (aT H.2.1.1.lt g.size) ((g.cell (p:=⟨w.heap.size+1,1,O⟩) H.2.1.1.lt).trans H.2.1.1.c1) (aT hY.lt g.size) (bB hY g).cell (S.o.aa D) (HF.o.aa D) HW.o ?_;intro x B9 V' ad;have y:=g.trans (ad.af g.size);have h4:=xR.o;exact((L.aa y).calls (S.o.aa (D.trans (ad.af D.size))) (i.aa y) dP.o U.o mg.o Ev.o Y al))
 have EC:=Fa vG;clear vG;refine EC.o.af ?_;rintro e w9 ⟨G,rfl,hG,ar,z7⟩;have IH:=H.top;replace H:=H.step z7;replace i:=i.aa z7;obtain⟨k0,k1,f0,f1⟩:=H.2.1.2.1.facts;obtain⟨e1,e2,e3⟩:=H.2.1.fin al (cb:=s) (cc:=F.length) EE.o al i ar al (J d (Z rest) s) (J (I ⟨G,0,O⟩) (Z F) (Z F)) rfl rfl;go_wp2;refine cN (e1.result2 rfl _ rfl) rfl ?_;exact⟨e2,e3⟩
theorem akz (a b c:Kd) (ca cb cc:Nat) (Fb Fd:Kx) (l:List Fr) (v:Nat) (w:wA) (hs:aC w a Fb) (hv:aC w b Fd) (hf:dE w c l) (hn:Z Fb<=140737488355328) (hm:Z Fd<=140737488355328) (q:kZ Fb Fd (Z l)=0) (hw:Cw 8192 l) (aj:Fd.contains (v:Int)=xq) (B2:v<Z Fb):
  c6 107 #[J a (Z Fb) ca,zp #[J b (Z Fd) cb,J c (Z l) cc],E yR (v:Nat),zd xq] w fun e w'=>xG w.heap.size (bY Fd (v:Int)) (sf (ag Fb) (ag Fd) (ag (bY Fd (v:Int))) v xq l) 0 e w'/\da w w':=by
 obtain⟨R,r,an⟩:=DX q;have U:=Fa (fun V h=>Kp b cb Fd (v:Int) V h hm);rw[aj] at U;have T:=fun V P Q=>Hw a b c ca cb cc (Z l) Fb Fd V P Q hn hm;rw[q] at T;have HC:=Fa T;clear T;have ar:Z (bY Fd (v:Int))<=Z Fd:=oq _ _;have Yt:=r.length;have tJ:=R.eight;have dP:=Fa R;have mg:=Fa r;have X:=Fa (ru r (v:Int));have Ev:=Fa (SG (v:=v) r);have jW:=Fa (fun K (hK:K<cnt (ag Fb) (ag (bY Fd (v:Int)))) x (L:x<sz (ag Fb) v)=>Wc q hK L);have kV:=Xs (ag Fb) (ag Fd) (ag (bY Fd (v:Int))) v xq l;have AO:=Fa (fun (k:Nat) (h:k<Z (sf (ag Fb) (ag Fd) (ag (bY Fd (v:Int))) v xq l))=>aef (ag Fb) (ag Fd) (ag (bY Fd (v:Int))) v xq l h);have l8:=Fa (fun V h=>Wb b cb Fd (v:Int) V h al);generalize sf (ag Fb) (ag Fd) (ag (bY Fd (v:Int))) v xq l=F at *;generalize bY Fd (v:Int)=rest at *;have ab:=Fa (fun V d s P Q=>WJ a d b ca s cb Fb rest Fd v V P Q R r B2);have HF:=Fa hf;have HW:=Fa hw;have gF:=Fa kV;have HN:=Fa (R.sz_eq B2);have xR:=Fa (R.sz_le v);have GR:=Fa (jM R.pos v);have uN:=Fa B2;clear aj q R r an hf hw kV;have S:=Fa hs;have D:=Fa hv;have H:=OH.new w (J a (Z Fb) ca) (J b (Z Fd) cb) (J c (Z l) cc) (E yR (v:Nat));have n:=H.2.1.1.c0;have c1:=H.2.1.1.c1;have u:=H.1.cell;go_enter func107,ntmps107;go_wp2_with fail
 generalize ((((AC w (yd #[J a (Z Fb) ca] 27)).alloc (TC (J b (Z Fd) cb) (J c (Z l) cc))).alloc (yd #[E yR (v:Nat)] 3)).alloc (TC (J O 0 0) (J O 0 0)))=W at *;refine(HC.o _ (S.o.aa H.2.1.2.2) (D.o.aa H.2.1.2.2)).af ?_;rintro e w1 ⟨rfl,ae⟩;replace H:=H.step ae;clear n c1 u ae;have n:=H.2.1.1.c0;have cx:=H.2.2.cell;go_wp2_with fail
 refine(U.o _ (D.o.aa H.2.1.2.2)).af ?_;rintro e w2 ⟨rfl,z⟩;replace H:=H.step z;clear n cx z U;go_wp2_with fail
 refine(acm _).af ?_;rintro e j ⟨rfl,ai⟩;replace H:=H.step ai;clear ai;have t:da j (AC j (yd #[.func (.func 160) #[] #[]] 190)):=(aw _ j).alloc (ak _) _;have B6:Boxed (AC j (yd #[.func (.func 160) #[] #[]] 190)) j.heap.size 190 (.func (.func 160) #[] #[]):=bE j _ _;have di:=H.top;replace H:=H.step t;clear t;go_wp2_with fail
 generalize (AC j (yd #[.func (.func 160) #[] #[]] 190))=av at *;generalize j.heap.size=A at *;refine(aq4 _).af ?_;rintro e w4 ⟨rfl,t⟩;replace H:=H.step t;replace B6:=bB B6 t;clear t;have j0:=B6.cell;have j1:=B6.frozen;replace H:=H.off A 0 (.func (.func 217) #[] #[]) di;have n:=H.2.1.1.c0;have cx:=H.2.2.cell;replace B6:=B6.set (.func (.func 217) #[] #[]);go_wp2_with fail
 clear j0 j1 n cx;generalize (AF w4 ⟨A,0,O⟩ (.func (.func 217) #[] #[]))=w5 at *;refine(l8.o _ (D.o.aa H.2.1.2.2)).af ?_;rintro e w6 ⟨d,s,rfl,i,lW,B1⟩;have EE:=Fa (lW.up H.2.1.2.2.size);clear lW;replace H:=H.step B1;replace B6:=bB B6 B1;clear B1 l8;have n:=H.2.1.1.c0;have cx:=H.2.2.cell;have u:=H.1.cell;go_wp2_with fail
 refine(ab.o _ d s (S.o.aa H.2.1.2.2) (D.o.aa H.2.1.2.2)).af ?_;rintro e m ⟨f,rfl,M,B9⟩;replace H:=H.step B9;replace B6:=bB B6 B9;replace i:=i.aa B9;obtain⟨lb,rfl⟩:=M.shape;clear n cx u B9 ab;generalize w6.heap.size=n3 at *;have y:da m (AC m (yd #[.func (.func 219) #[] lb] 49)):=(aw _ m).alloc (ak _) _;have hY:Boxed (AC m (yd #[.func (.func 219) #[] lb] 49)) m.heap.size 49 (.func (.func 219) #[] lb):=bE m _ _;replace H:=H.step y;replace B6:=bB B6 y;replace M:=M.aa y;replace i:=i.aa y;have u:=H.1.cell;go_wp2_with fail
 clear y u;generalize (AC m (yd #[.func (.func 219) #[] lb] 49))=w8 at *;generalize m.heap.size=Y at *
 have vG:=Po a d ca s Fb rest 168 #[zZ (I ⟨A,0,O⟩),zZ (I ⟨w.heap.size,0,O⟩),zZ (I ⟨w.heap.size+1+1,0,O⟩),zZ (I ⟨w.heap.size+1,0,O⟩),zZ (I ⟨Y,0,O⟩)] (enters_of func168 ao rfl) F w8 (S.o.aa H.2.1.2.2) i dP.o X.o gF.o (fun k q V g=>by
  rw[AO.o k q];have cF:k<cnt (ag Fb) (ag rest):=by rw[<- gF.o];exact q
  have B7:=H.2.1.2.2.trans (g.af H.2.1.2.2.size);refine aeg xq 217 am9 A w.heap.size (w.heap.size+1+1) (w.heap.size+1) Y a c ca cc Fb lb l k v (sz (ag Fb) v) (fun x=>pos (ag Fb) (aN (aY (ag Fb) (ag rest) k) v x) (ag Fd)) (fun x L=>jW.o k cF x L) GR.o xR.o uN.o HN.o.symm V (aT B6.lt g.size) (bB B6 g).cell (aT H.1.lt g.size) (bB H.1 g).cell (aT H.2.2.lt g.size) (bB H.2.2 g).cell (aT H.2.1.1.lt g.size) ((g.cell (p:=⟨w.heap.size+1,1,O⟩) H.2.1.1.lt).trans H.2.1.1.c1) (aT hY.lt g.size) (bB hY g).cell (S.o.aa B7) (HF.o.aa B7) HW.o ?_;intro x L V' ad;have z:=g.trans (ad.af g.size);have h4:=xR.o;exact((M.aa z).calls (S.o.aa (B7.trans (ad.af B7.size))) (i.aa z) dP.o X.o mg.o Ev.o cF al))
 have EC:=Fa vG;clear vG;refine EC.o.af ?_;rintro e w9 ⟨G,rfl,hG,aq,z7⟩;have IH:=H.top;replace H:=H.step z7;replace i:=i.aa z7;obtain⟨k0,k1,f0,f1⟩:=H.2.1.2.1.facts;obtain⟨e1,e2,e3⟩:=H.2.1.fin al (cb:=s) (cc:=F.length) EE.o al i aq al (J d (Z rest) s) (J (I ⟨G,0,O⟩) (Z F) (Z F)) rfl rfl;go_wp2;refine cN (e1.result2 rfl _ rfl) rfl ?_;exact⟨e2,e3⟩
theorem WS:∀ {a b:Kx},a.Pairwise (·<·) ->b.Pairwise (·<·) ->(∀x,x∈a↔x∈b) ->a=b
 |[],[],_,_,_=>rfl
 |[],y::b,_,_,h=>absurd ((h y).2 dA) aE
 |x::a,[],_,_,h=>absurd ((h x).1 dA) aE
 |x::a,y::b,ha,hb,h=>by
  rw[List.pairwise_cons] at ha hb
  have e:x=y:=by
   have c:=(h x).1 dA;have d:=(h y).2 dA;rw[bU] at c d;rcases c with c |c
   ·exact c
   ·rcases d with d |d
    ·exact d.symm
    ·have:=hb.1 x c;have:=ha.1 y d;omega
  subst e;rw[WS ha.2 hb.2 fun z=>?_];constructor
  ·intro f;have c:=(h z).1 (dL _ f);have:=ha.1 z f;rw[bU] at c;rcases c with c |c
   ·omega
   ·exact c
  ·intro f;have c:=(h z).2 (dL _ f);have:=hb.1 z f;rw[bU] at c;rcases c with c |c
   ·omega
   ·exact c
theorem ah4 {d:Array Int} (hs:∀i j,i<=j ->j<d.size ->d[i]!<=d[j]!):∀m,m<=d.size ->(compactUpTo d m).Pairwise (·<·)/\∀x,x∈compactUpTo d m↔∃j,j<m/\d[j]! =x
 |0,_=>⟨by simp[compactUpTo],fun x=>by simp[compactUpTo]⟩
 |m+1,hm=>by
  obtain⟨f,b⟩:=ah4 hs m al;rw[compactUpTo_succ];by_cases k:keeps d m=xq
  ·rw[aA k];constructor
   ·rw[List.pairwise_append];refine⟨f,aE,fun x l y g=>?_⟩;obtain⟨j,a,rfl⟩:=(b x).1 l;rw[bD] at g;subst g;rw[keeps,eM] at k;rcases k with k |k
    ·omega
    ·have o:=hs j (m - 1) al al;have p:=hs (m - 1) m al al;omega
   ·intro x;rw[bH,b,bD];constructor
    ·rintro(⟨j,a,rfl⟩ |rfl)
     ·exact⟨j,al,rfl⟩
     ·exact⟨m,al,rfl⟩
    ·rintro⟨j,a,rfl⟩;by_cases e:j=m
     ·exact xS (by rw[e])
     ·exact yp ⟨j,al,rfl⟩
  ·rw[aD k,lh];refine⟨f,fun x=>?_⟩;rw[b];have c:¬(m=0∨d[m]!≠d[m - 1]!):=fun h=>k (by rw[keeps,eM];exact h);have q:m≠0:=fun h=>c (yp h);have n:d[m]! =d[m - 1]!:=zq fun h=>c (xS h);constructor
   ·rintro⟨j,a,rfl⟩;exact⟨j,al,rfl⟩
   ·rintro⟨j,a,rfl⟩;by_cases e:j=m
    ·exact⟨m - 1,al,by rw[e,n]⟩
    ·exact⟨j,al,rfl⟩
def a7 (la lb:Kx):Kx:=Lib.compact ((la++lb).mergeSort fun x y=>decide (x<=y))
theorem C2 (la lb:Kx):(a7 la lb).Pairwise (·<·)/\∀x,x∈a7 la lb↔x∈la∨x∈lb:=by
 have p:((la++lb).mergeSort fun x y=>decide (x<=y)).Pairwise (fun x y=>decide (x<=y)=xq):=VR (fun a b c d f=>by simp at d f⊢;omega) (fun a b=>by simp;omega) _;have m:∀x,x∈((la++lb).mergeSort fun x y=>decide (x<=y))↔x∈la∨x∈lb:=fun x=>by rw[List.mem_mergeSort,bH]
 rw[a7];generalize ((la++lb).mergeSort fun x y=>decide (x<=y))=s at p m
 have hs:∀i j,i<=j ->j<s.toArray.size ->s.toArray[i]!<=s.toArray[j]!:=fun i j r h=>by
  have k:j<Z s:=by simpa using h
  rw[MA s.toArray i al,MA s.toArray j h];by_cases e:i=j
  ·subst e;exact Int.le_refl _
  ·have:=zo.1 p i j al k al;simpa using this
 obtain⟨d,f⟩:=ah4 hs s.toArray.size (ak _);have e:Lib.compact s=compactUpTo s.toArray s.toArray.size:=by rw[Lib.compact];simp
 rw[e];refine⟨d,fun x=>?_⟩;rw[f, <- m];constructor
 ·rintro⟨j,h,rfl⟩;rw[MA s.toArray j h];simp
 ·intro g;obtain⟨j,h,rfl⟩:=iQ g;exact⟨j,by simpa using h,by rw[MA s.toArray j (by simpa using h)];simp⟩
theorem aca:a7 [] []=[]:=List.eq_nil_iff_forall_not_mem.2 fun x h=>by have:=((C2 [] []).2 x).1 h;simp at this
theorem apK {k:Int}:jQ k l=xq↔k∈l:=by simp[jQ]
theorem Hv (b:Up la n) (c:Up lb n):Up (a7 la lb) n:=by
 obtain⟨h,a⟩:=C2 la lb;exact dY.2 ⟨fun x d=>((a x).1 d).elim ((dY.1 b).1 x) ((dY.1 c).1 x),h⟩
theorem aku (a b:Kd) (ca cb:Nat) (la lb:Kx) (w:wA) (B7:aC w a la) (B6:aC w b lb) (Q:a=O ->ca=0) (R:b=O ->cb=0) (lV:Z la<=1000) (kT:Z lb<=1000):
  c6 161 #[J a (Z la) ca,J b (Z lb) cb] w fun e w'=>∃(d:Kd) (F:Nat),e=yk (J d (Z (a7 la lb)) F)/\aC w' d (a7 la lb)/\jb w.heap.size d F/\da w w':=by
 obtain⟨L,p⟩:∃L,L=a7 la lb:=⟨_,rfl⟩;rw[<- p];have H:=Fa p;have K:da w (AC w (yd #[J a (Z la) ca,J b (Z lb) cb] 27)):=(aw _ w).alloc (ak _) _;have D:(AC w (yd #[J a (Z la) ca,J b (Z lb) cb] 27)).heap[w.heap.size]? =I (yd #[J a (Z la) ca,J b (Z lb) cb] 27 (0,0)):=dU _ _;have Y:=Fa (acL w.heap.size a b ca cb la lb (AC w (yd #[J a (Z la) ca,J b (Z lb) cb] 27)) aE (by rw[a8 _ _ _ _ _ (0,0) D];rfl) (by rw[a8 _ _ _ _ _ (0,0) D];rfl) (B7.aa K) (B6.aa K) Q R lV kT);clear p B7 B6 Q R D;go_enter func161,ntmps161;go_wp2_with fail
 generalize (AC w (yd #[J a (Z la) ca,J b (Z lb) cb] 27))=W at *;refine Y.o.af ?_;rintro e f ⟨v,rfl,M,S⟩;have z:=K.trans (S.af K.size);have aq:=K.size;rcases M.cases with ⟨rfl,V⟩ |⟨g,cap,rfl,ao,r,an,ai,t⟩
 ·have X:L=[]:=by
   have l:la=[]:=(V0.1 V).1;have m:lb=[]:=(V0.1 V).2;rw[H.o,l,m,aca]
  subst X;go_wp2_with fail
  refine(Tryz.slices_Sort_int_none O 0 _).af ?_;rintro e h ⟨rfl,rfl⟩;go_wp2_with fail
  refine(Tryz.slices_Compact_int_empty O 0 _).af ?_;rintro e w3 ⟨rfl,rfl⟩;go_wp2;go_ret;exact⟨O,0,rfl,fun k hk=>absurd hk aE,jb.nil _,z⟩
 ·have dK:Z (la++lb)<=2000:=by rw[cD];omega
  have B9:=Tryz.slices_Sort_int g 0 cap (la++lb) f t r al;have U:Z ((la++lb).mergeSort fun x y=>decide (x<=y))=Z (la++lb):=MN _;have aj:=Lib.compact_length_le ((la++lb).mergeSort fun x y=>decide (x<=y));rw[<- show a7 la lb=Lib.compact ((la++lb).mergeSort fun x y=>decide (x<=y)) from rfl, <- H.o] at aj;have Qa:=Fa B9;have ae:we (Lib.compact ((la++lb).mergeSort fun x y=>decide (x<=y))=L):=H.o.symm;generalize ((la++lb).mergeSort fun x y=>decide (x<=y))=s at *;have B1:=Fa t;clear B9 t M ai S;generalize Lp:Z (la++lb)=n at *;go_wp2_with fail
  refine Qa.o.af ?_;rintro e h ⟨rfl,q,c,rfl⟩;have T:s.toArray.size=(la++lb).toArray.size:=by simp;rw[U, <- Lp];simp
  have A:Holds (Value.int yR) (grow (putRow (Value.int yR) (Sort.ahead f q) g 0 s.toArray) c) g 0 s.toArray:=fun j u=>by
   obtain⟨l,m⟩:=holds_putRow (Value.int yR) (Sort.ahead f q) g 0 _ s.toArray B1.o T j u;(have B2:g<(putRow (Value.int yR) (Sort.ahead f q) g 0 s.toArray).heap.size:=by rw[size_putRow];exact r);refine⟨(cell?_grow _ _ _ B2).trans l,?_⟩;rw[frozen?_grow _ _ _ B2];exact m
  have IL:g<(grow (putRow (Value.int yR) (Sort.ahead f q) g 0 s.toArray) c).heap.size:=aT r (Mz (w:=f) (g:=g) (n:=q) (os:=c) s.toArray).size;have P:=Ur (n:=q) (os:=c) s.toArray z z.size (show w.heap.size<=g by omega);generalize grow (putRow (Value.int yR) (Sort.ahead f q) g 0 s.toArray) c=h at *;have i:=Tryz.slices_Compact_int g 0 cap s h A al al;rw[U,ae.o] at i;have ad:=Fa i;have ab:=Fa A;clear i A T;go_wp2_with fail
  refine ad.o.af ?_;rintro e w3 ⟨rfl,q2,rfl⟩;go_wp2;go_ret
  have yB:(L++List.replicate (n - Z L) 0).toArray.size=s.toArray.size:=by
   simp;omega
  exact⟨I ⟨g,0,O⟩,cap,rfl,Dp (holds_putRow (Value.int yR) (Sort.ahead h q2) g 0 s.toArray _ ab.o yB) (by rw[size_putRow];exact IL) (fun j u=>⟨by simp;omega,by simp[ou,u]⟩),jb.at al,Us _ P P.size al⟩
theorem amz (j F l s:Nat) (c d:Kd) (ca cb:Nat) (t fb:Array wQ) (la lb:List Fr) (k P Q:Nat) (X:P<Z la) (Y:Q<Z lb) (w:wA)
  (ad:j<w.heap.size) (xa:AJ w ⟨j,1,O⟩=I (J c (Z la) ca)) (cM:F<w.heap.size) (ya:AJ w ⟨F,0,O⟩=I (.func (.func 215) #[] t)) (ae:l<w.heap.size) (xb:AJ w ⟨l,1,O⟩=I (J d (Z lb) cb)) (dB:s<w.heap.size) (yb:AJ w ⟨s,0,O⟩=I (.func (.func 215) #[] fb)) (ha:dE w c la) (b:dE w d lb) (wa:Cw 100000 la) (wb:Cw 100000 lb)
  (h1:∀V,da w V ->c6 215 (#[E yR (k:Nat)]++t) V fun e w'=>e=yk (E yR (P:Nat))/\da V w')
  (h2:∀V,da w V ->c6 215 (#[E yR (k:Nat)]++fb) V fun e w'=>e=yk (E yR (Q:Nat))/\da V w'):
  c6 163 #[E yR (k:Nat),zZ (I ⟨j,0,O⟩),zZ (I ⟨F,0,O⟩),zZ (I ⟨l,0,O⟩),zZ (I ⟨s,0,O⟩)] w (dj w (lB (qF (bj (aS la P)*bj (aS lb Q))))):=by
 obtain⟨g,o,rfl,B1,L,B2,R⟩:=ha P X;obtain⟨h,p,rfl,hh,T,U,b2⟩:=b Q Y;have ai:=wa P X;have YE:=wb Q Y;rw[<- qP X] at L B2 R;rw[<- qP Y] at T U b2;have HC:=Fa (fun V:wA=>aak (w:=V) (bj (aS la P)*bj (aS lb Q)) rfl rfl rfl (show (aS la P).2.1.size+(aS la P).2.2.size<=100000 by omega) (show (aS lb Q).2.1.size+(aS lb Q).2.2.size<=100000 by omega));rw[T2];have H1:=Fa h1;have H2:=Fa h2;generalize bj (aS la P)*bj (aS lb Q)=r at *;clear ha b h1 h2 ai YE wa wb;generalize aS la P=f at *;generalize aS lb Q=f' at *;obtain⟨xn,xx,xy⟩:=f;obtain⟨yn,yx,yy⟩:=f';simp only at L B2 R T U b2 HC;have i:aL (w.alloc (FC x3 ⟨#[]⟩ ⟨#[]⟩)) w.heap.size x3 ⟨#[]⟩ ⟨#[]⟩:=aL.new w _ _ _;have a:da w (w.alloc (FC x3 ⟨#[]⟩ ⟨#[]⟩)):=(aw _ w).alloc (ak _) _;go_enter func163,ntmps163;go_upto_region 1 with fail
 generalize (w.alloc (FC x3 ⟨#[]⟩ ⟨#[]⟩))=W at *;replace i:=i.drew;replace a:=a.drew;have ab:∀u,da w u ->AJ u ⟨j,1,O⟩=I (J (I ⟨g,o,O⟩) (Z la) ca)/\u.cell? ⟨F,0,O⟩=I (.func (.func 215) #[] t)/\u.cell? ⟨l,1,O⟩=I (J (I ⟨h,p,O⟩) (Z lb) cb)/\u.cell? ⟨s,0,O⟩=I (.func (.func 215) #[] fb)/\u.cell? ⟨g,o+P*3,O⟩=I (zd xn)/\u.cell? ⟨g,o+P*3+1,O⟩=I (zX xx)/\u.cell? ⟨g,o+P*3+2,O⟩=I (zX xy)/\u.cell? ⟨h,p+Q*3,O⟩=I (zd yn)/\u.cell? ⟨h,p+Q*3+1,O⟩=I (zX yx)/\u.cell? ⟨h,p+Q*3+2,O⟩=I (zX yy):=fun u e=>⟨(e.cell (p:=⟨j,1,O⟩) ad).trans xa,(e.cell (p:=⟨F,0,O⟩) cM).trans ya,(e.cell (p:=⟨l,1,O⟩) ae).trans xb,(e.cell (p:=⟨s,0,O⟩) dB).trans yb,(e.cell (p:=⟨g,_,O⟩) B1).trans L,(e.cell (p:=⟨g,_,O⟩) B1).trans B2,(e.cell (p:=⟨g,_,O⟩) B1).trans R,(e.cell (p:=⟨h,_,O⟩) hh).trans T,(e.cell (p:=⟨h,_,O⟩) hh).trans U,(e.cell (p:=⟨h,_,O⟩) hh).trans b2⟩;have HELD:=Fa ab;clear ab L B2 R T U b2 xa ya xb yb
 refine iD (S:=fun u=>AJ u ⟨j,1,O⟩=I (J (I ⟨g,o,O⟩) (Z la) ca)/\u.cell? ⟨F,0,O⟩=I (.func (.func 215) #[] t)/\u.cell? ⟨l,1,O⟩=I (J (I ⟨h,p,O⟩) (Z lb) cb)/\u.cell? ⟨s,0,O⟩=I (.func (.func 215) #[] fb)/\u.cell? ⟨g,o+P*3,O⟩=I (zd xn)/\u.cell? ⟨g,o+P*3+1,O⟩=I (zX xx)/\u.cell? ⟨g,o+P*3+2,O⟩=I (zX xy)/\u.cell? ⟨h,p+Q*3,O⟩=I (zd yn)/\u.cell? ⟨h,p+Q*3+1,O⟩=I (zX yx)/\u.cell? ⟨h,p+Q*3+2,O⟩=I (zX yy)) ao (HELD.o _ a) (fun n=>?_);generalize W.drew=u0 at *;refine au 0 (zZ (I ⟨j,1,O⟩)) ?_;try simp only[gE,aP]
 refine dt 1 (J (I ⟨g,o,O⟩) (Z la) ca) ?_ ?_
 ·intro u' M;obtain⟨v,x,y,z,A,D,B9,H,B7,B6⟩:=M;go_simp
 try simp only[gE,aP]
 refine dt 2 (.func (.func 215) #[] t) ?_ ?_
 ·intro u' M;obtain⟨v,x,y,z,A,D,B9,H,B7,B6⟩:=M;go_simp
 refine au 3 (E yR (k:Nat)) ?_;refine au 7 (zZ (I ⟨l,1,O⟩)) ?_;try simp only[gE,aP]
 refine dt 8 (J (I ⟨h,p,O⟩) (Z lb) cb) ?_ ?_
 ·intro u' M;obtain⟨v,x,y,z,A,D,B9,H,B7,B6⟩:=M;go_simp
 try simp only[gE,aP]
 refine dt 9 (.func (.func 215) #[] fb) ?_ ?_
 ·intro u' M;obtain⟨v,x,y,z,A,D,B9,H,B7,B6⟩:=M;go_simp
 refine au 10 (E yR (k:Nat)) ?_;refine aG [4] (cA ?_ aH);intro m K;go_simp;refine(H1.o _ a).af ?_;rintro e u1 ⟨rfl,b⟩;replace i:=i.aa b i.lt;replace a:=a.trans (b.af a.size);refine K.o _ _ (HELD.o _ a) (fun q=>?_);clear K m n;have n:=q;clear q b;refine au 5 (zZ (I ⟨g,o+P*3,O⟩)) ?_;try simp only[gE,aP]
 refine dt 6 (zp #[zd xn,zX xx,zX xy]) ?_ ?_
 ·intro u' M;obtain⟨v,x,y,z,A,D,B9,H,B7,B6⟩:=M;go_simp
 refine aG [11] (cA ?_ aH);intro m K;go_simp;refine(H2.o _ a).af ?_;rintro e u2 ⟨rfl,b⟩;replace i:=i.aa b i.lt;replace a:=a.trans (b.af a.size);refine K.o _ _ (HELD.o _ a) (fun q=>?_);clear K m n;have n:=q;clear q b;refine au 12 (zZ (I ⟨h,p+Q*3,O⟩)) ?_;try simp only[gE,aP]
 refine dt 13 (zp #[zd yn,zX yx,zX yy]) ?_ ?_
 ·intro u' M;obtain⟨v,x,y,z,A,D,B9,H,B7,B6⟩:=M;go_simp
 refine aG [14] (cA ?_ aH);intro m K;go_simp;refine(HC.o _).af ?_;rintro e u3 ⟨rfl,b⟩;replace i:=i.aa b i.lt;replace a:=a.trans (b.af a.size);refine K.o _ _ (HELD.o _ a) (fun q=>?_);clear K m n;have n:=q;clear q b;try simp only[gE,aP]
 obtain⟨k0,k1,k2,f0,f1,f2⟩:=i.facts;refine aG [15] (cA ?_ aH);intro m K;go_simp;have aj:=i.put (aV r) (nu r) (de r);have vP:=eJ a (g:=w.heap.size) (ak _) (zd (aV r)) (zX (nu r)) (zX (de r));generalize (AF (AF (AF u3 ⟨w.heap.size,0,O⟩ (zd (aV r))) ⟨w.heap.size,1,O⟩ (zX (nu r))) ⟨w.heap.size,2,O⟩ (zX (de r)))=v9 at *;refine K.o _ _ (HELD.o _ vP) (fun _=>eV ao ?_ _);clear K m n;go_wp2;refine cN (aj.result rfl _ rfl) rfl ?_;exact⟨rfl,vP⟩
end Go.Proofs.YtkflnpjapgiajaaGreatDoor
