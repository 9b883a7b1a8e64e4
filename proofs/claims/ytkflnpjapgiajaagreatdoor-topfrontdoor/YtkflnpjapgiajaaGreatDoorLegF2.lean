/- Part2: part 2. -/
import Derived.Test.YtkflnpjapgiajaaGreatDoorLegF1
set_option maxRecDepth 100000
set_option maxHeartbeats 400000000
set_option linter.unusedSimpArgs false
set_option linter.unusedVariables false
namespace Go.Proofs.YtkflnpjapgiajaaGreatDoor
open Value renaming slice→Z,int→J,string→zK,pointer→zR,bool→zZ,agg→zd,tuple→zp,nilFunc→z7
open IntKind renaming i64→I,u32→yE
open Obj renaming cells→yM
open Ending renaming returned→yW
open Or renaming inl→yd,inr→yk
open Option renaming none→N,some→M
open Bool renaming true→y6,false→xd
open Go renaming World→E,Value→wF,undef→wQ
open RowKit renaming Hid→wT
open Go.Proofs.Tryz
open _root_.Array renaming size→O
open World renaming heap→T
open List renaming length→C
open Go.RowKit
variable {k m n:Nat} {a:Kd} {p:Rat} {w w':E}
def Fits (m:Nat) (q:Rat):Prop:=∃(A:Int) (D:Nat),D≠0/\q=mkRat A D/\D<256^m/\A.natAbs<256^m
theorem T6 {q:Rat} (h:Fits m q):qw q<=2*m:=by
 obtain⟨A,D,a,rfl,b,c⟩:=h;rw[Sx a];have:=Xc (n:=A) a;have d:(B A.natAbs).size<=m:=by rw[nP];exact sA m _ c
 have e:(B D).size<=m:=by rw[nP];exact sA m _ b
 omega
theorem Kv (h:m<=n):256^m<=256^n:=k7 a6 h
theorem aai (n:Bool) (x y:ByteArray):Fits (x.size+y.size+1) (val n x y):=by
 by_cases h:B2 y=0
 ·refine⟨0,1,a6,by rw[M5 h,MD],?_,?_⟩
  ·exact aT (by decide:1<256^1) (Kv al)
  ·exact wh a6
 ·refine⟨sg n (B2 x),B2 y,h,rfl,aT (Gm y) (Kv al),?_⟩;rw[RG];exact aT (Gm x) (Kv al)
theorem ahh {q:Rat} (j:Fits m p) (l:Fits k q):Fits (m+k+1) (p+q):=by
 obtain⟨A,D,d,rfl,h,g⟩:=j;obtain⟨b,a,F,rfl,c,i⟩:=l;refine⟨A*a+b*D,D*a,CJ d F,Rat.mkRat_add_mkRat _ _ d F,?_,?_⟩
 ·have:D*a<256^m*256^k:=MJ h c;rw[<- EL] at this;exact aT this (Kv al)
 ·have f:A.natAbs*a<256^m*256^k:=MJ g c;have e:b.natAbs*D<256^k*256^m:=MJ i h;rw[eQ (256^k)] at e;rw[<- EL] at f e
  have n:(A*a+b*D).natAbs<=A.natAbs*a+b.natAbs*D:=by
   refine aM (Int.natAbs_add_le _ _) ?_;rw[Int.natAbs_mul,Int.natAbs_mul];exact ah _
  rw[jI];omega
abbrev Fr:Type:=Bool×ByteArray×ByteArray
def dr (f:Fr):Rat:=val f.1 f.2.1 f.2.2
def fw:List Fr ->Nat
 |[]=>0
 |f::l=>f.2.1.size+f.2.2.size+2+fw l
def bH (l:List Fr):Rat:=l.foldl (fun s f=>s+dr f) 0
theorem TZ (l:List Fr) (f:Fr):bH (l++[f])=bH l+dr f:=by simp[bH]
theorem aad (a b:List Fr):fw (a++b)=fw a+fw b:=by
 induction a with
 |nil=>simp[fw]
 |cons f a ih=>simp only[gF,fw,ih];omega
theorem ag2 (l:List Fr) (k:Nat):fw (l.take k)<=fw l:=by
 have:=aad (l.take k) (l.drop k);rw[zo] at this;omega
theorem TV {l:List Fr} {f:Fr} (h:f∈l):f.2.1.size+f.2.2.size+2<=fw l:=by
 induction l with
 |nil=>cases h
 |cons g l ih=>
  rcases bY.1 h with rfl |h
  ·simp only[fw];omega
  ·have:=ih h;simp only[fw];omega
theorem ahg (l:List Fr):Fits (fw l+1) (bH l):=by
 induction l using Kj with
 |h0=>exact⟨0,1,a6,(MD _).symm,a6,a6⟩
 |h1 l f ih=>
  rw[TZ,aad];have:=ahh ih (aai f.1 f.2.1 f.2.2);have e:fw l+1+(f.2.1.size+f.2.2.size+1)+1=fw l+fw [f]+1:=by simp only[fw];omega
  rwa [e] at this
theorem take_one {l:List Fr} (h:k<C l):bH (l.take (k+1))=bH (l.take k)+dr l[k]:=by
 rw[gR h,TZ]
def dH (w:E) (a:Kd) (l:List Fr):Prop:=∀k (h:k<C l),∃g o,a=M ⟨g,o,N⟩/\g<O (T w)/\w.cell? ⟨g,o+k*3,N⟩=M (zZ l[k].1)/\w.cell? ⟨g,o+k*3+1,N⟩=M (zK l[k].2.1)/\w.cell? ⟨g,o+k*3+2,N⟩=M (zK l[k].2.2)
theorem dH.aa {l:List Fr} (h:dH w a l) (c:da w w'):dH w' a l:=fun k j=>by
 obtain⟨g,o,d,b,e,f,i⟩:=h k j;exact⟨g,o,d,aT b c.size,(c.cell (p:=⟨g,_,N⟩) b).trans e,(c.cell (p:=⟨g,_,N⟩) b).trans f,(c.cell (p:=⟨g,_,N⟩) b).trans i⟩
theorem Uc (a:Kd) (cap:Nat) (l:List Fr) (w:E) (h:dH w a l) (q:∀k (h:k<C l),l[k].2.1.size+l[k].2.2.size<=40000) (s:∀k,k<=C l ->qw (bH (l.take k))<=40000) (hn:C l<=10000):
  c6 105 #[Z a (C l) cap] w (dj w (B1 (bH l))):=by
 have F:=aD h;have L:=aD q;have Q:=aD s;clear h q s;have Bh:wT (bH (l.take (C l))=bH l):=by show _=_;rw[iD]
 go_enter func105,ntmps105;have r:=aL.at (w:=w) rfl xd ⟨#[]⟩ ⟨#[]⟩;have j:da w (w.alloc (FC xd ⟨#[]⟩ ⟨#[]⟩)):=(au _ w).alloc (ah _) _;go_wp2_with fail
 refine(XI _).ae ?_;rintro e v ⟨rfl,n⟩;have z:=r.aa n r.lt;have m:da w v:=j.trans (n.ae j.size);clear r j n;rw[p7];go_wp2_with fail
 have ab:=z.lt;go_loopw [9] (fun iv wr=>∃k:Nat,k<=C l/\iv=J I k/\wT (aL wr (O (T v)) (aW (bH (l.take k))) (nu (bH (l.take k))) (de (bH (l.take k))))/\wT (aL wr (O (T w)) xd ⟨#[]⟩ ⟨#[]⟩)/\da w wr) (fun iv _=>C l - (intOf iv).toNat)
 case atStart=>exact⟨0,aV _,rfl,aL.at rfl _ _ _,z.alloc _,m.alloc m.size _⟩
 case round=>
  obtain⟨k,Bb,rfl,S,H,c⟩:=hrel;by_cases t:k<C l
  ·obtain⟨g,o,rfl,B7,Bm,Bj,K⟩:=(F.o.aa c) k t;have D:=take_one t;have X:=L.o k t;have P:=Q.o k Bb;have B9:=wG (bH (l.take k));have y:=aD (fun V=>ahy (aW (bH (l.take k))) l[k].1 (nu (bH (l.take k))) (de (bH (l.take k))) l[k].2.1 l[k].2.2 V al al al al);rw[kr,show val l[k].1 l[k].2.1 l[k].2.2=dr l[k] from rfl, <- D] at y;have u:=S.o;clear S D X P B9;generalize l[k].1=fn at *;generalize l[k].2.1=fx at *;generalize l[k].2.2=fy at *;obtain⟨b,d,i,f0,f1,f⟩:=u.facts;have Y:=u.lt;go_wp2_with fail
   refine(y.o _).ae ?_;rintro e R ⟨rfl,p⟩;have A:=(u.alloc (FC fn fx fy)).aa p (u.alloc (FC fn fx fy)).lt;have U:=(H.o.alloc (FC fn fx fy)).aa p (H.o.alloc (FC fn fx fy)).lt;have x:=c.alloc c.size (FC fn fx fy);have Ba:da w R:=x.trans (p.ae x.size);clear b d i f0 f1 f Bm Bj K;obtain⟨b,d,i,f0,f1,f⟩:=A.facts;rw[p7];go_wp2;go_roundw
   case rel=>exact⟨k+1,al,bd,A.put _ _ _,U.far3 al _ _ _,eT Ba m.size _ _ _⟩
   case measure=>simp[intOf];omega
  ·obtain rfl:k=C l:=al
   have u:=S.o;rw[Bh.o] at u;obtain⟨b,d,i,f0,f1,f⟩:=u.facts;obtain⟨j0,j1,j2,i0,i1,i2⟩:=H.o.facts;go_wp2;refine dI ((H.o.put _ _ _).result rfl _ rfl) rfl ?_;exact⟨rfl,eT c (ah _) _ _ _⟩
theorem arT (a:Kd) (cap:Nat) (l:List Fr) (w:E) (h:dH w a l) (c:fw l<=10000) (n:C l<=10000):
  c6 105 #[Z a (C l) cap] w fun e w'=>e=yW (B1 (bH l))/\da w w':=
 Uc a cap l w h (fun k b=>by have:=TV (bU b);omega) (fun k _=>by have:=T6 (ahg (l.take k));have:=ag2 l k;omega) n
variable {g:Nat}
def kX (Fb Fd:Kx) (m:Nat):Int:=if countB Fb Fd=y6 then(if m=cnt (af Fb) (af Fd) then 0 else 8) else 11
theorem as1 {Fb Fd:Kx} (h:countB Fb Fd=xd):kX Fb Fd m=11:=aC (by rw[h];decide)
theorem as2 {Fb Fd:Kx} (h:countB Fb Fd=y6) (h1:¬m=cnt (af Fb) (af Fd)):kX Fb Fd m=8:=by rw[kX,aw h,aC h1]
theorem aaH {Fb Fd:Kx} (h:countB Fb Fd=y6) (h1:m=cnt (af Fb) (af Fd)):kX Fb Fd m=0:=by rw[kX,aw h,aw h1]
abbrev TC (u v:wF):Obj:=yM #[u,v] 38
def aZ (w:E) (g:Nat) (u v:wF):Prop:=w.heap[g]? =M (yM #[u,v] 38 (0,0))
theorem aZ.c0 {u v:wF} (h:aZ w g u v):w.cell? ⟨g,0,N⟩=M u:=by rw[ba w g 0 _ _ (0,0) h];rfl
theorem aZ.c1 {u v:wF} (h:aZ w g u v):w.cell? ⟨g,1,N⟩=M v:=by rw[ba w g 1 _ _ (0,0) h];rfl
theorem aZ.lt {u v:wF} (h:aZ w g u v):g<O (T w):=(cS.1 h).1
theorem aZ.aa {B:Nat} {u v:wF} (h:aZ w g u v) (b:Below B w w') (a:g<B):aZ w' g u v:=(b.block g a).trans h
theorem aZ.at (h:O (T w)=g) (u v:wF):aZ (w.alloc (TC u v)) g u v:=by
 subst h;exact dU _ _
theorem aZ.alloc {u v:wF} (h:aZ w g u v) (o:Obj):aZ (w.alloc o) g u v:=(uP w o g h.lt).trans h
theorem Kg (a b c:Kd) (ca cb cc m:Nat) (Fb Fd:Kx) (w:E) (hs:aB w a Fb) (v:aB w b Fd) (t:C Fb<=140737488355328) (s:C Fd<=140737488355328):
  c6 114 #[Z a (C Fb) ca,zd #[Z b (C Fd) cb,Z c m cc]] w (dj w (J I (kX Fb Fd m))):=by
 have S:=Fa hs;have j:=Fa v;have H:=Fa (fun V p q=>Rx a b ca cb Fb Fd V p q t s);clear hs v;have d:da w (w.alloc (TC (Z b (C Fd) cb) (Z c m cc))):=(au _ w).alloc (ah _) _;have k:=aZ.at (w:=w) rfl (Z b (C Fd) cb) (Z c m cc);cases hcb:countB Fb Fd with
 |false=>
  have A:=Fa (as1 (m:=m) hcb);rw[LR hcb] at H;simp only at H;generalize kX Fb Fd m=r at *;go_enter func114,ntmps114;go_wp2_with fail
  refine(H.o _ (S.o.aa d) (j.o.aa d)).ae ?_;rintro e u ⟨rfl,g⟩;have f:=d.trans (g.ae d.size);go_wp2;go_ret;exact⟨by rw[A.o];rfl,f⟩
 |true=>
  have n:=Fa (fun h=>as2 (m:=m) hcb h);have Y:=Fa (fun h=>aaH (m:=m) hcb h);rw[LQ hcb] at H;simp only at H;obtain⟨R,l⟩:=aaz hcb;have Bj:cnt (af Fb) (af Fd)<=65536:=xm R.sz_le (by rw[gG];have:=R.eight;have:=l.length;omega);clear hcb R l;generalize kX Fb Fd m=r at *;generalize cnt (af Fb) (af Fd)=i at *;go_enter func114,ntmps114;go_wp2_with fail
  refine(H.o _ (S.o.aa d) (j.o.aa d)).ae ?_;rintro e u ⟨rfl,g⟩;have f:=d.trans (g.ae d.size);have x:=k.aa g k.lt;have D:=x.c0;have F:=x.c1;by_cases h:m=i
  ·have Bm:=Fa (Y.o h);subst h;go_wp2;go_ret;exact⟨by rw[Bm.o];rfl,f⟩
  ·have Bm:=Fa (n.o h);(have y:((m:Int)==(i:Int))=false:=by simp;omega);(have z:¬(m:Int)=(i:Int):=al);go_wp2;go_ret;exact⟨by rw[Bm.o];rfl,f⟩
variable {i:Nat}
def sW (l:Ja) (i:Nat):Ja:=l.take i++List.replicate (C l - i) 0
theorem adU (l:Ja):sW l 0=List.replicate (C l) 0:=by simp[sW]
theorem R9 (l:Ja) (h:i<=C l):C (sW l i)=C l:=by simp[sW];omega
theorem adW (l:Ja):sW l (C l)=l:=by simp[sW]
theorem adV (l:Ja) (h:i<C l):(sW l i).set i l[i]=sW l (i+1):=by
 rw[sW,sW,Hj _ _ (by simp;omega),gR h];have e:C l - i=(C l - (i+1))+1:=al
 rw[e,MO,fh,uO al,rE,CM,p9];rfl
def iL (l:Ja):Kx:=l.map fun x:Nat=>(x:Int)
theorem bR (l:Ja):C (iL l)=C l:=by simp[iL]
theorem jP (l:Ja):af (iL l)=l:=by simp[af,iL,Function.comp_def]
theorem cP.ints {l:Ja} (h:cP w g l):aB w (M ⟨g,0,N⟩) (iL l):=fun k a=>by
 rw[bR] at a;refine⟨g,0,rfl,h.lt,?_⟩;rw[bQ,h.cell k a];simp[iL]
variable {L:List Kx} {l:Kx}
def dP (w:E) (a:Kd) (L:List Kx):Prop:=∀k (h:k<C L),∃g o b c,a=M ⟨g,o,N⟩/\g<O (T w)/\w.cell? ⟨g,o+k,N⟩=M (Z b L[k].length c)/\aB w b L[k]
theorem dP.aa (h:dP w a L) (d:da w w'):dP w' a L:=fun k l=>by
 obtain⟨g,o,b,c,f,e,i,j⟩:=h k l;exact⟨g,o,b,c,f,aT e d.size,(d.cell (p:=⟨g,o+k,N⟩) e).trans i,j.aa d⟩
def pP (w:E) (a:Kd) (L:List Kx):Prop:=∀k,k<C L ->∀g o b n c,a=M ⟨g,o,N⟩ ->w.cell? ⟨g,o+k,N⟩=M (Z b n c) ->b=N ->c=0
theorem pP.aa (h:pP w a L) (m:dP w a L) (i:da w w'):pP w' a L:=fun k f g o b n c d j q=>by
 obtain⟨g',o',_,_,e,l,_⟩:=m k f;rw[d] at e;cases e;exact h k f g o b n c d ((i.cell (p:=⟨g,o+k,N⟩) l).symm.trans j) q
abbrev uv (x:Nat):Value:=J yE (x:Int)
def dt (w:E) (g:Nat) (l:Ja):Prop:=w.heap[g]? =M (yM (l.map uv).toArray 158 (0,0))
theorem dt.cell {l:Ja} (h:dt w g l) (j:Nat) (a:j<C l):w.cell? ⟨g,j,N⟩=M (J yE (l[j]:Nat)):=by
 rw[ba w g j _ _ (0,0) h];simp[uv,a]
theorem dt.fz {l:Ja} (h:dt w g l) (j:Nat):w.frozen? ⟨g,j,N⟩=false:=gj w g j _ _ h
theorem dt.lt {l:Ja} (h:dt w g l):g<O (T w):=(cS.1 h).1
theorem dt.aa {b:Nat} {l:Ja} (h:dt w g l) (a:Below b w w') (c:g<b):dt w' g l:=(a.block g c).trans h
theorem dt.set {l:Ja} (h:dt w g l) (j y:Nat):dt (w.setCell ⟨g,j,N⟩ (J yE (y:Int))) g (l.set j y):=by
 have a:=jW w g j _ _ (J yE (y:Int)) h;rw[dt,a];simp[Hm,uv]
theorem XZ (n:Nat):(madeCells (Value.int yE 0).cells (n*1)).toList=(List.replicate n (0:Nat)).map uv:=by
 rw[show (Value.int yE 0).cells= #[Value.int yE 0] from rfl,MA,qM,QY];rfl
theorem Tryz.infoSet:(prog.info? 158).map (fun i=>(i.zero,i.size,i.bytes))=M (M (J yE 0),1,4):=ao
def kK (L:List Kx) (n:Nat):Bool:=L.all fun l=>ei l n
def jw (L:List Kx):Ja:=L.map fun l=>aA (af l)
theorem ae2 (L:List Kx):C (jw L)=C L:=by simp[jw]
theorem atT (h:i<C L) (e:ei L[i] n=xd):kK L n=false:=by
 rw[kK,MW];exact⟨L[i],bU h,by rw[e];decide⟩
theorem acZ (h:ei l n=y6):setA l n=aA (af l):=aw h
theorem acX (a:Kd) (ca n:Nat) (L:List Kx) (w:E) (h:dP w a L) (hL:C L<=8) (X:n<=8) (o:∀l∈L,C l<=140737488355328):
  c6 177 #[Z a (C L) ca,J I (n:Nat)] w fun e w'=>da w w'/\
   ((kK L n=y6/\∃G,e=yW (zp #[Z (M ⟨G,0,N⟩) (C L) (C L),zZ y6])/\w.heap.size<=G/\dt w' G (jw L))∨(kK L n=xd/\e=yW (zp #[Z N 0 0,zZ xd]))):=by
 obtain⟨B7,Q,ak,an,ao⟩:=eC Tryz.infoSet;have B9:=Fa h;have Bb:=Fa (fun i h e=>atT (L:=L) (n:=n) (i:=i) h e)
 have Ba:wT ((∀i (h:i<C L),ei L[i] n=y6) ->kK L n=y6):=fun h=>fM.2 fun l o=>by
  obtain⟨i,u,rfl⟩:=iE o;exact h i u
 have P:wT (∀i (h:i<C L),(jw L)[i]? =M (aA (af L[i]))):=fun i h=>by simp[jw,h]
 have ik:=Fa o;have x:=ae2 L;generalize kK L n=rb at *;generalize jw L=m at *;clear h o;go_enter func177,ntmps177
 go_wp2_with (first
  |(at_make;refine oK _ rfl _ _ 154 rfl (O (T w)) 158 B7 (J yE 0) 1 underlying154 Q ak an I I _ _ (C L) rfl rfl bd bd (by rw[ao];omega) (by unfold maxLen;omega) (ah _) ?_;intro A D F))
 have q:=sB D;rw[XZ] at q;have Y:wT (da w A):=(au _ w).grown F (ah _) (fun k e=>by cases e);have Bj:wT (dt A (O (T w)) (List.replicate (C L) 0)):=q;clear D F q;go_wp2_with fail
 go_loopw [15] (fun iv wr=>∃i:Nat,i<=C L/\iv=J I i/\wT (∀j (h:j<C L),j< i ->ei L[j] n=y6)/\wT (dt wr (O (T w)) (sW m i))/\wT (da w wr)) (fun iv _=>C L - (intOf iv).toNat)
 case atStart=>exact⟨0,aV _,rfl,fun j _ h=>absurd h al,by rw[adU,x];exact Bj,Y⟩
 case round=>
  obtain⟨i,u,rfl,R,H,y⟩:=hrel;clear Bj Y;by_cases t:i<C L
  ·obtain⟨g,aq,b,c,rfl,hg,c0,r⟩:=(B9.o.aa y.o) i t;have S:=ik.o L[i] (bU t);have ad:=Fa r;clear r;have ab:=Fa (Bb.o i t);have ai:=Fa (P.o i t)
   have aj:wT (ei L[i] n=y6 ->∀j (h:j<C L),j<i+1 ->ei L[j] n=y6):=fun h j f ux=>by
    rcases dX j i with d |d
    ·exact R.o j f d
    ·obtain rfl:j=i:=al
     exact h
   have lK:wT (ei L[i] n=y6 ->setA L[i] n=aA (af L[i])):=acZ;generalize L[i]=l at *;go_wp2_with fail
   refine(acY b c l n _ ad.o S X).ae ?_;rintro e w3 ⟨rfl,rfl⟩;cases hr:ei l n with
   |false=>
    have Bm:=Fa (ab.o hr);generalize setA l n=s at *;go_wp2;go_ret2;exact⟨y.o,yk ⟨Bm.o,rfl⟩⟩
   |true=>
    rw[lK.o hr];have K:=Fa (aj.o hr);have k0:=H.o.cell i (by rw[R9 _ al];omega);have f0:=H.o.fz i;have v:=Fa (H.o.set i (aA (af l)))
    have uK:wT ((sW m i).set i (aA (af l))=sW m (i+1)):=by
     show _=_;obtain⟨V,d⟩:=mO.1 ai.o;rw[<- d];exact adV m V
    rw[uK.o] at v;have Bh:=Fa (y.o.setCell (p:=⟨O (T w),i,N⟩) (ah _) (J yE (aA (af l):Nat)));clear hr;generalize aA (af l)=s at *;generalize (sW m i)[i]'(by rw[R9 _ al];omega)=z at *;go_wp2;go_roundw
    case rel=>exact⟨i+1,al,bd,K,v,Bh⟩
    case measure=>simp[intOf];omega
  ·obtain rfl:i=C L:=al
   have Bm:=Fa (Ba.o fun j f=>R.o j f f);have U:=H.o;rw[<- x,adW] at U;have uG:=Fa U;clear U;go_wp2;go_ret2;exact⟨y.o,yd ⟨Bm.o,_,rfl,ah _,uG.o⟩⟩
def Bd (L:List Kx):Bool:=(List.range (C L)).all fun v=>!decide (v∈af (L.getD v []))
def gB (L:List Kx):Bool:=decide (1<=C L/\L.length<=8)&&kK L (C L)&&Bd L
theorem ae1 (n:Nat) (w:E):
  c6 223 #[J I (n:Nat)] w fun e w'=>e=yW (zZ (decide (1<=n/\n<=8)))/\w'=w:=by
 by_cases a:1<=n
 ·by_cases b:n<=8
  ·rw[cJ (p:=1<=n/\n<=8) ⟨a,b⟩];(have c:(1:Int)<=(n:Int):=al);(have d:(n:Int)<=8:=al);go_enter func223,ntmps223;go_wp2;go_ret;exact⟨rfl,rfl⟩
  ·rw[cX (p:=1<=n/\n<=8) (fun h=>b h.2)];(have c:(1:Int)<=(n:Int):=al);have Bm:wT (decide ((n:Int)<=8)=xd):=cX al;clear b;go_enter func223,ntmps223;go_wp2;go_ret;exact⟨by rw[Bm.o];rfl,rfl⟩
 ·rw[cX (p:=1<=n/\n<=8) (fun h=>a h.1)];obtain rfl:n=0:=al
  clear a;go_enter func223,ntmps223;go_wp2;go_ret;exact⟨rfl,rfl⟩
theorem ada (a:n<=8) (h:ei l n=y6):∀u∈af l,u<8:=by
 have:=ac9 (l:=l) (n:=n) (i:=l.length) a h (ah _);rwa [iD] at this
theorem Uw (h:kK L n=y6) (a:i<C L):ei L[i] n=true:=fM.1 h _ (bU a)
theorem aeF (h:i<C L) (e:i∈af L[i]):Bd L=false:=by
 rw[Bd,MW];refine⟨i,bS.2 h,?_⟩;rw[cF,a7 h];simpa using e
theorem aeE (h:∀i (a:i<C L),¬i∈af L[i]):Bd L=true:=by
 rw[Bd,fM];intro i a;have b:=bS.1 a;rw[cF,a7 b];simpa using h i b
theorem adf (a:Kd) (ca:Nat) (L:List Kx) (w:E) (h:dP w a L) (s:∀l∈L,C l<=140737488355328):
  c6 179 #[Z a (C L) ca] w fun e w'=>da w w'/\
   ((gB L=y6/\∃G,e=yW (zp #[Z (M ⟨G,0,N⟩) (C L) (C L),zZ y6])/\w.heap.size<=G/\dt w' G (jw L))∨(gB L=xd/\∃v,e=yW (zp #[v,zZ xd]))):=by
 have F:=Fa h;have Bj:=Fa s;have H:wT (gB L=(decide (1<=C L/\L.length<=8)&&kK L (C L)&&Bd L)):=rfl;generalize gB L=gb at *;clear h s;cases hm:decide (1<=C L/\L.length<=8) with
 |false=>
  have c:=Fa (fun V:E=>ae1 (C L) V);rw[hm] at H c;have B9:wT (gb=xd):=by show _=_;rw[H.o];rfl
  clear hm H;go_enter func179,ntmps179;go_wp2_with fail
  refine(c.o _).ae ?_;rintro e w1 ⟨rfl,rfl⟩;go_wp2;go_ret2;exact⟨au _ _,yk ⟨B9.o,_,rfl⟩⟩
 |true=>
  have c:=Fa (fun V:E=>ae1 (C L) V);rw[hm] at H c;obtain⟨h1,k⟩:=mJ hm;have S:=Fa (fun (V:E) (Ba:dP V a L)=>acX a ca (C L) L V Ba k k Bj.o);have B7:wT (kK L (C L)=y6 ->∀i (m:i<C L),∀u∈af L[i],u<8):=fun h i m=>ada k (Uw h m);have X:=Fa (fun i h e=>aeF (L:=L) (i:=i) h e);have A:=Fa (fun h=>aeE (L:=L) h);have Bb:wT (∀i (h:i<C L),(jw L)[i]? =M (aA (af L[i]))):=fun i h=>by simp[jw,h]
  clear hm;generalize kK L (C L)=ra at *;generalize Bd L=Y at *;generalize jw L=ms at *;go_enter func179,ntmps179;go_wp2_with fail
  refine(c.o _).ae ?_;rintro e w1 ⟨rfl,rfl⟩;go_wp2_with fail
  refine(S.o _ F.o).ae ?_;rintro e x ⟨f,⟨b,G,rfl,Q,r⟩ |⟨b,rfl⟩⟩
  ·have U:=Fa r;have d:=Fa f;have K:=Fa (B7.o b);(have Bh:wT (gb=Y):=by show _=_;rw[H.o,b];rfl);clear r f b H;go_wp2_with fail
   go_loopw [21] (fun iv wr=>∃i:Nat,i<=C L/\iv=J I i/\wT (∀j (h:j<C L),j< i ->¬j∈af L[j])/\wr=x) (fun iv _=>C L - (intOf iv).toNat)
   case atStart=>exact⟨0,aV _,rfl,fun j _ h=>absurd h al,rfl⟩
   case round=>
    obtain⟨i,m,rfl,R,rfl⟩:=hrel;by_cases t:i<C L
    ·have z:=Bb.o i t;obtain⟨y,p⟩:=mO.1 z;have P:=U.o.cell i y;rw[p] at P;have xH:=Fa (X.o i t)
     have aa:wT (¬i∈af L[i] ->∀j (h:j<C L),j<i+1 ->¬j∈af L[j]):=fun h j g ux=>by
      rcases dX j i with q |q
      ·exact R.o j g q
      ·obtain rfl:j=i:=al
       exact h
     have D:=Fa (fun V:E=>Ko (af L[i]) i V (K.o i t) al);clear z y p;generalize af L[i]=l at *;go_wp2_with fail
     refine(D.o _).ae ?_;rintro e w3 ⟨rfl,rfl⟩;by_cases n:i∈l
     ·rw[cJ n];have Bm:=Fa (xH.o n);clear n;go_wp2;go_ret2;exact⟨d.o,yk ⟨by rw[Bh.o];exact Bm.o,_,rfl⟩⟩
     ·rw[cX n];have Bm:=Fa (aa.o n);clear n;go_wp2;go_roundw
      case rel=>exact⟨i+1,al,bd,Bm,trivial⟩
      case measure=>simp[intOf];omega
    ·obtain rfl:i=C L:=al
     have Bm:=Fa (A.o fun j g=>R.o j g g);go_wp2;go_ret2;exact⟨d.o,yd ⟨by rw[Bh.o];exact Bm.o,G,rfl,Q,U.o⟩⟩
  ·have Bh:wT (gb=xd):=by show _=_;rw[H.o,b];rfl
   have d:=Fa f;clear b f H;go_wp2_with fail
   go_loopw [21] (fun iv wr=>iv=J I 0/\wr=x) (fun _ _=>0)
   case atStart=>exact⟨rfl,rfl⟩
   case round=>
    obtain⟨rfl,rfl⟩:=hrel;go_wp2;go_ret2;exact⟨d.o,yk ⟨Bh.o,_,rfl⟩⟩
variable {P:List Ja} {v:Nat}
def iX (P:List Ja) (out:Ja) (v:Nat):Bool:=!decide (v∈out)&&decide (∀u∈P.getD v [],u∈out)
def rS (P:List Ja) (out:Ja):Option Nat:=(List.range (C P)).find? (iX P out)
def bj (P:List Ja):Nat ->Ja
 |0=>[]
 |k+1=>match rS P (bj P k) with
  |some v=>bj P k++[v]
  |none=>bj P k
theorem find_range {p:Nat ->Bool}:∀ {n v:Nat},v< n ->p v=y6 ->(∀u,u< v ->p u=xd) ->(List.range n).find? p=M v:=by
 intro n;induction n with
 |zero=>intro v h;omega
 |succ n ih=>
  intro v c a b;rw[xN,List.find?_append];rcases dX v n with h |h
  ·rw[ih h a b];rfl
  ·obtain rfl:v=n:=al
   (have:(List.range v).find? p=none:=VY.2 fun u g=>by rw[b u (bS.1 g)];decide);rw[this];simp[a]
theorem anX {o:Ja} (b:v<C P) (h:iX P o v=y6) (a:∀u,u< v ->iX P o u=xd):rS P o=M v:=find_range b h a
theorem anY {o:Ja} (h:∀u,u<C P ->iX P o u=xd):rS P o=none:=VY.2 fun u g=>by rw[h u (bS.1 g)];decide
theorem Sh (h:rS P (bj P k)=M v):bj P (k+1)=bj P k++[v]:=by rw[bj,h]
theorem aef (h:rS P (bj P k)=N):∀j,bj P (k+j)=bj P k
 |0=>rfl
 |j+1=>by
  have i:=aef h j;show bj P (k+j+1)=_;rw[bj,i,h]
theorem anq (h:rS P (bj P k)=N) (a:k<=n):bj P n=bj P k:=by
 have:=aef h (n - k);rwa [show k+(n - k)=n by omega] at this
theorem KD (P:List Ja):∀k,C (bj P k)<=k
 |0=>ah _
 |k+1=>by
  have:=KD P k;rw[bj];cases rS P (bj P k) with
  |none=>show C (bj P k)<=_;omega
  |some v=>show C (bj P k++[v])<=_;rw[cE];simp;omega
theorem Ij (P:List Ja):∀k,∀v∈bj P k,v<C P
 |0,v,hv=>by cases hv
 |k+1,v,hv=>by
  rw[bj] at hv;cases e:rS P (bj P k) with
  |none=>rw[e] at hv;exact Ij P k v hv
  |some u=>
   rw[e] at hv;rcases bE.1 hv with h |h
   ·exact Ij P k v h
   ·obtain rfl:=bA.1 h;exact bS.1 (aby e)
def aH (L:List Kx):List Ja:=L.map af
theorem j5 (L:List Kx):C (aH L)=C L:=by simp[aH]
theorem Ii (h:i<C L):(aH L).getD i []=af L[i]:=by simp[aH,cF,h]
theorem Iu (L:List Kx):jw L=(aH L).map aA:=by simp[jw,aH]
theorem Yj (a b:Ja):iL (a++b)=iL a++iL b:=by simp[iL]
def bq (L:List Kx):Int:=if gB L=y6 then(if C (bj (aH L) (C L))<C L then 10 else 0) else 11
def Iw (c:Nat):Bool:=decide (97<=c/\c<=122)
def Ps (c:Nat):Bool:=decide (48<=c/\c<=57)
def xR (c:Nat):Bool:=Iw c ||Ps c ||decide (c=95)
def CW (s:ByteArray):Bool:=(s.data.toList.all fun c=>xR c.toNat)&&Iw (s.data.toList.headD 0).toNat
def isVar (s:ByteArray):Bool:=s.toList==[118,97,114]
def NX (s:ByteArray):Bool:=s.toList==[101,108,115,101]
def Bi (s:ByteArray):Bool:=decide (s.size<=12)&&!isVar s&&!NX s&&CW s
theorem aeM (c:Nat) (w:E):c6 271 #[J .u8 (c:Nat)] w fun e w'=>e=yW (zZ (Iw c))/\w'=w:=by
 rw[Iw];by_cases a:97<=c
 ·have Bm:wT (decide ((c:Int)<=122)=decide (97<=c/\c<=122)):=EK.2 ⟨fun h=>⟨a,al⟩,fun h=>al⟩;have b:(97:Int)<=(c:Int):=al
  go_enter func271,ntmps271;go_wp2;go_ret;exact⟨by rw[<- Bm.o];rfl,rfl⟩
 ·have Bm:wT (decide (97<=c/\c<=122)=xd):=cX fun h=>a h.1;rw[Bm.o];have b:(c:Int)<97:=al
  clear a;go_enter func271,ntmps271;go_wp2;go_ret;exact⟨rfl,rfl⟩
theorem aol (c:Nat) (w:E):c6 288 #[J .u8 (c:Nat)] w fun e w'=>e=yW (zZ (Ps c))/\w'=w:=by
 rw[Ps];by_cases a:48<=c
 ·have Bm:wT (decide ((c:Int)<=57)=decide (48<=c/\c<=57)):=EK.2 ⟨fun h=>⟨a,al⟩,fun h=>al⟩;have b:(48:Int)<=(c:Int):=al
  go_enter func288,ntmps288;go_wp2;go_ret;exact⟨by rw[<- Bm.o];rfl,rfl⟩
 ·have Bm:wT (decide (48<=c/\c<=57)=xd):=cX fun h=>a h.1;rw[Bm.o];have b:(c:Int)<48:=al
  clear a;go_enter func288,ntmps288;go_wp2;go_ret;exact⟨rfl,rfl⟩
theorem aoj (c:Nat) (w:E):c6 270 #[J .u8 (c:Nat)] w fun e w'=>e=yW (zZ (xR c))/\w'=w:=by
 have H:wT (xR c=(Iw c ||Ps c ||decide (c=95))):=rfl;have L:=Fa (aeM c);have F:=Fa (aol c);generalize xR c=r at *;go_enter func270,ntmps270;go_wp2_with fail
 refine(L.o _).ae ?_;rintro e a ⟨rfl,rfl⟩;cases hl:Iw c with
 |true=>
  rw[hl] at H;have Bm:wT (r=y6):=H.o;clear hl;go_wp2;go_ret;exact⟨by rw[Bm.o];rfl,rfl⟩
 |false=>
  rw[hl] at H;go_wp2_with fail
  refine(F.o _).ae ?_;rintro e b ⟨rfl,rfl⟩;cases hf:Ps c with
  |true=>
   rw[hf] at H;have Bm:wT (r=y6):=H.o;clear hl hf;go_wp2;go_ret;exact⟨by rw[Bm.o];rfl,rfl⟩
  |false=>
   rw[hf] at H
   have Bm:wT (r=((c:Int)==95)):=by
    show _=_;rw[H.o,Bool.false_or,Bool.false_or,wm,eP,xL];omega
   clear hl hf;go_wp2;go_ret;exact⟨by rw[Bm.o];rfl,rfl⟩
theorem ake {s:ByteArray} (h:k<s.size):s.data.toList.take (k+1)=s.data.toList.take k++[s[k]]:=by
 have a:k<C s.data.toList:=by simpa using h
 rw[gR a];rfl
theorem ajG {s:ByteArray} (h:k<s.size) (e:xR s[k].toNat=xd):CW s=false:=by
 have m:s[k]∈s.data.toList:=by
  have:s.data.toList[k]'(by simpa using h)=s[k]:=rfl;rw[<- this];exact bU _
 have:(s.data.toList.all fun c=>xR c.toNat)=false:=by
  rw[MW];exact⟨_,m,by rw[e];decide⟩
 rw[CW,this];rfl
theorem aqw {s:ByteArray} (h:0<s.size):s.data.toList.headD 0=s[0]:=by
 obtain⟨⟨l⟩⟩:=s;cases l with
 |nil=>exact absurd h a6
 |cons c l=>rfl
theorem ajE {s:ByteArray} (h:0<s.size) (e:(s.data.toList.take s.size).all (fun c=>xR c.toNat)=y6):CW s=Iw s[0].toNat:=by
 have a:s.data.toList.all (fun c=>xR c.toNat)=true:=by
  rwa [kO aE] at e
 rw[CW,a,Hs,aqw h]
theorem aoi (s:ByteArray) (w:E) (hs:s.size<=140737488355328):
  c6 237 #[zK s] w fun e w'=>e=yW (zZ (Bi s))/\w'=w:=by
 have H:wT (Bi s=(decide (s.size<=12)&&!isVar s&&!NX s&&CW s)):=rfl;have n:=Fa (fun k h e=>ajG (s:=s) (k:=k) h e);have p:=Fa (fun h e=>ajE (s:=s) h e)
 have g:wT (s.size=0 ->CW s=xd):=fun h=>by
  have:s.data.toList=[]:=Ho.1 (by rw[Ht];exact h);rw[CW,this];rfl
 generalize Bi s=nb at *;generalize CW s=m at *;by_cases a:s.size=0
 ·have Bm:wT (nb=xd):=by show _=_;rw[H.o,g.o a];simp
  have b:(s.size:Int)<1:=al
  clear a H;go_enter func237,ntmps237;go_wp2;go_ret;exact⟨by rw[Bm.o];rfl,rfl⟩
 by_cases v:12<s.size
 ·have Bm:wT (nb=xd):=by show _=_;rw[H.o,cX (show ¬s.size<=12 by omega)];rfl
  have b:(1:Int)<=(s.size:Int):=al
  have f:(12:Int)<(s.size:Int):=al
  clear a H;go_enter func237,ntmps237;go_wp2;go_ret;exact⟨by rw[Bm.o];rfl,rfl⟩
 have b:(1:Int)<=(s.size:Int):=al
 have f:(s.size:Int)<=12:=al
 cases hv:isVar s with
 |true=>
  have Bm:wT (nb=xd):=by show _=_;rw[H.o,hv];simp
  rw[isVar] at hv;clear H a v;go_enter func237,ntmps237;go_wp2;go_ret;exact⟨by rw[Bm.o];rfl,rfl⟩
 |false=>
  cases he:NX s with
  |true=>
   (have Bm:wT (nb=xd):=by show _=_;rw[H.o,he];simp);rw[isVar] at hv;rw[NX] at he;clear H a v;go_enter func237,ntmps237;go_wp2;go_ret;exact⟨by rw[Bm.o];rfl,rfl⟩
  |false=>
   (have Bm:wT (nb=m):=by show _=_;rw[H.o,hv,he,cJ (show s.size<=12 by omega)];simp);rw[isVar] at hv;rw[NX] at he;(have i:0<s.size:=al);clear H a v;go_enter func237,ntmps237;go_wp2_with fail
   go_loopw [22] (fun iv wr=>∃k:Nat,k<=s.size/\iv=J I k/\wT ((s.data.toList.take k).all (fun c=>xR c.toNat)=y6)/\wr=w) (fun iv _=>s.size - (intOf iv).toNat)
   case atStart=>exact⟨0,aV _,rfl,rfl,rfl⟩
   case round=>
    obtain⟨k,q,rfl,A,rfl⟩:=hrel;by_cases l:k<s.size
    ·have d:=Fa (n.o k l)
     have Ba:wT (xR s[k].toNat=y6 ->(s.data.toList.take (k+1)).all (fun c=>xR c.toNat)=y6):=fun h=>by
      rw[ake l,List.all_append,A.o];simp[h]
     go_wp2_with fail
     refine(aoj s[k].toNat _).ae ?_;rintro e j ⟨rfl,rfl⟩;cases hw:xR s[k].toNat with
     |false=>
      have F:=Fa (d.o hw);clear hw;go_wp2;go_ret;exact⟨by rw[Bm.o,F.o];rfl,rfl⟩
     |true=>
      have S:=Fa (Ba.o hw);clear hw;go_wp2;go_roundw
      case rel=>exact⟨k+1,al,bd,S,trivial⟩
      case measure=>simp[intOf];omega
    ·obtain rfl:k=s.size:=al
     have F:=Fa (p.o i A.o);go_wp2_with fail
     refine(aeM s[0].toNat _).ae ?_;rintro e j ⟨rfl,rfl⟩;go_wp2;go_ret;exact⟨by rw[Bm.o,F.o];rfl,rfl⟩
def jM (w:E) (a:Kd) (l:List ByteArray):Prop:=∀k (h:k<C l),∃g o,a=M ⟨g,o,N⟩/\g<O (T w)/\w.cell? ⟨g,o+k,N⟩=M (zK l[k])
theorem jM.aa {l:List ByteArray} (h:jM w a l) (c:da w w'):jM w' a l:=fun k f=>by
 obtain⟨g,o,d,b,e⟩:=h k f;exact⟨g,o,d,aT b c.size,(c.cell (p:=⟨g,o+k,N⟩) b).trans e⟩
theorem jM.take {l:List ByteArray} (h:jM w a l) (i:Nat):jM w a (l.take i):=fun k f=>by
 have c:k<C l:=by rw[fh] at f;omega
 obtain⟨g,o,b,d,e⟩:=h k c;refine⟨g,o,b,d,?_⟩;rw[xO];exact e
def j9 (f:Nat ->Int):Nat ->Int
 |0=>0
 |n+1=>if j9 f n=0 then f n else j9 f n
theorem BX {f:Nat ->Int}:∀ {n:Nat},(∀j,j< n ->f j=0) ->j9 f n=0
 |0,_=>rfl
 |n+1,h=>by rw[j9,aw (BX fun j a=>h j al),h n al]
theorem Pq {f:Nat ->Int} (h:∀j,j< i ->f j=0) (b:f i≠0):∀ {n:Nat},i< n ->j9 f n=f i
 |0,hn=>al
 |n+1,hn=>by
  rcases dX i n with a |a
  ·rw[j9,Pq h b a,aC b]
  ·obtain rfl:i=n:=al
   rw[j9,aw (BX h)]
theorem V5 {f:Nat ->Int} (h:∀j,j< i ->f j=0) (b:f i=0):∀j,j<i+1 ->f j=0:=fun j c=>by
 rcases dX j i with a |a
 ·exact h j a
 ·obtain rfl:j=i:=al
  exact b
def zD (l:List ByteArray) (v:ByteArray):Bool:=l.any fun x=>decide (x=v)
def xZ (l:List ByteArray) (i:Nat):Int:=if Bi (l.getD i ⟨#[]⟩)=y6 then(if zD (l.take i) (l.getD i ⟨#[]⟩)=y6 then 7 else 0) else 4
def nZ (l:List ByteArray):Int:=j9 (xZ l) (C l)
theorem TM {l:List ByteArray} (h:i<C l):l.getD i ⟨#[]⟩=l[i]:=by rw[cF,a7 h];rfl
def C8 (l:List ByteArray) (v:ByteArray):Int:=match l.findIdx? (fun x=>decide (x=v)) with
 |some i=>(i:Int)
 |none=> -1
theorem atq {a b:ByteArray}:(a.toList==b.toList)=decide (a=b):=by
 rw[wm,xL,eP];constructor
 ·intro h;rw[toList_data,toList_data] at h;obtain⟨⟨x⟩⟩:=a;obtain⟨⟨y⟩⟩:=b;simp only at h;rw[h]
 ·intro h;rw[h]
theorem amJ {l:List ByteArray} {v:ByteArray} (h:i<C l) (e:l[i]=v) (n:∀j (a:j<C l),j< i ->¬l[j]=v):C8 l v=i:=by
 have:l.findIdx? (fun x=>decide (x=v))=M i:=List.findIdx?_eq_some_iff_getElem.2 ⟨h,cJ e,fun j a=>by
  rw[eP];exact n j al a⟩
 rw[C8,this]
theorem amH {l:List ByteArray} {v:ByteArray} (n:∀j (h:j<C l),¬l[j]=v):C8 l v= -1:=by
 have:l.findIdx? (fun x=>decide (x=v))=none:=List.findIdx?_eq_none_iff.2 fun x a=>by
  obtain⟨j,h,rfl⟩:=iE a;exact cX (n j h)
 rw[C8,this]
theorem amI (l:List ByteArray) (v:ByteArray):decide (0<=C8 l v)=zD l v:=by
 rw[wm,eP,zD,rF,C8];cases e:l.findIdx? (fun x=>decide (x=v)) with
 |some i=>
  obtain⟨h,p,_⟩:=List.findIdx?_eq_some_iff_getElem.1 e;exact⟨fun _=>⟨l[i],bU h,p⟩,fun _=>by show (0:Int)<=(i:Int);omega⟩
 |none=>
  have:=List.findIdx?_eq_none_iff.1 e;exact⟨fun h=>by exact absurd (show (0:Int)<= -1 from h) a6,fun ⟨x,a,p⟩=>by rw[this x a] at p;cases p⟩
theorem ak0 (a:Kd) (ca:Nat) (l:List ByteArray) (v:ByteArray) (w:E) (h:jM w a l) (n:C l<=140737488355328):
  c6 272 #[Z a (C l) ca,zK v] w fun e w'=>e=yW (J I (C8 l v))/\w'=w:=by
 have F:=Fa h;have P:=Fa (fun i h e n=>amJ (l:=l) (v:=v) (i:=i) h e n);have Q:=Fa (fun n=>amH (l:=l) (v:=v) n);generalize C8 l v=r at *;clear h;go_enter func272,ntmps272;go_wp2_with fail
 go_loopw [8] (fun iv wr=>∃i:Nat,i<=C l/\iv=J I i/\wT (∀j (b:j<C l),j< i ->¬l[j]=v)/\wr=w) (fun iv _=>C l - (intOf iv).toNat)
 case atStart=>exact⟨0,aV _,rfl,fun j _ h=>absurd h al,rfl⟩
 case round=>
  obtain⟨i,q,rfl,H,rfl⟩:=hrel;by_cases t:i<C l
  ·obtain⟨g,o,rfl,p,k⟩:=F.o i t;have d:=Fa (fun e=>P.o i t e H.o)
   have f:wT (¬l[i]=v ->∀j (b:j<C l),j<i+1 ->¬l[j]=v):=fun h j b u=>by
    rcases dX j i with c |c
    ·exact H.o j b c
    ·obtain rfl:j=i:=al
     exact h
   generalize l[i]=x at *;by_cases e:x=v
   ·have Bm:=Fa (d.o e);subst e;go_wp2;go_ret;exact⟨by rw[Bm.o];rfl,rfl⟩
   ·have Bm:=Fa (f.o e);(have m:(v.toList==x.toList)=false:=by rw[atq];exact cX fun h=>e h.symm);clear e;go_wp2;go_roundw
    case rel=>exact⟨i+1,al,bd,Bm,trivial⟩
    case measure=>simp[intOf];omega
  ·obtain rfl:i=C l:=al
   have Bm:=Fa (Q.o fun j b=>H.o j b b);go_wp2;go_ret;exact⟨by rw[Bm.o];rfl,rfl⟩
theorem ak2 (a:Kd) (ca:Nat) (l:List ByteArray) (v:ByteArray) (w:E) (h:jM w a l) (n:C l<=140737488355328):
  c6 238 #[Z a (C l) ca,zK v] w fun e w'=>e=yW (zZ (zD l v))/\w'=w:=by
 have F:=Fa h;have H:=Fa (fun (V:E) (b:jM V a l)=>ak0 a ca l v V b n);have Bb:=Fa (amI l v);generalize zD l v=m at *;generalize C8 l v=r at *;clear h;go_enter func238,ntmps238;go_wp2_with fail
 refine(H.o _ F.o).ae ?_;rintro e c ⟨rfl,rfl⟩;go_wp2;go_ret;exact⟨by rw[<- Bb.o];rfl,rfl⟩
theorem aof {l:List ByteArray} (h:i<C l) (e:Bi l[i]=xd):xZ l i=4:=by rw[xZ,TM h,e,aC a6]
theorem aoh {l:List ByteArray} (h:i<C l) (e:Bi l[i]=y6) (a:zD (l.take i) l[i]=y6):xZ l i=7:=by rw[xZ,TM h,e,aw rfl,a,aw rfl]
theorem aog {l:List ByteArray} (h:i<C l) (e:Bi l[i]=y6) (a:zD (l.take i) l[i]=xd):xZ l i=0:=by rw[xZ,TM h,e,aw rfl,a,aC a6]
theorem ah8 (a:Kd) (ca:Nat) (l:List ByteArray) (w:E) (h:jM w a l) (Bb:C l<=140737488355328) (K:C l<=ca) (hs:∀s∈l,s.size<=140737488355328):
  c6 187 #[Z a (C l) ca] w fun e w'=>e=yW (J I (nZ l))/\w'=w:=by
 have F:=Fa h;have p:=Fa hs;have A:wT (∀i,i<C l ->(∀j,j< i ->xZ l j=0) ->∀k,xZ l i=k ->k≠0 ->nZ l=k):=fun i c z k d u=>by rw[nZ,Pq z (by rw[d];exact u) c,d]
 have B7:wT ((∀j,j<C l ->xZ l j=0) ->nZ l=0):=fun h=>BX h;have f:=Fa (fun i h e=>aof (l:=l) (i:=i) h e);have D:=Fa (fun i h e b=>aoh (l:=l) (i:=i) h e b);have B9:=Fa (fun i h e b=>aog (l:=l) (i:=i) h e b);generalize nZ l=r at *;clear h hs;go_enter func187,ntmps187;go_wp2_with fail
 go_loopw [7] (fun iv wr=>∃i:Nat,i<=C l/\iv=J I i/\wT (∀j,j< i ->xZ l j=0)/\wr=w) (fun iv _=>C l - (intOf iv).toNat)
 case atStart=>exact⟨0,aV _,rfl,fun j h=>absurd h al,rfl⟩
 case round=>
  obtain⟨i,c,rfl,H,rfl⟩:=hrel;by_cases t:i<C l
  ·obtain⟨g,o,rfl,L,Bh⟩:=F.o i t;have Bj:=p.o l[i] (bU t);have U:=Fa (fun e=>A.o i t H.o 4 (f.o i t e) a6);have q:=Fa (fun e b=>A.o i t H.o 7 (D.o i t e b) a6);have Ba:=Fa (fun e b=>V5 H.o (B9.o i t e b));have Q:=Fa (F.o.take i);(have m:C (l.take i)=i:=by rw[fh];omega)
   have y:wT (∀(v:ByteArray) (V:E),jM V (M ⟨g,o,N⟩) (l.take i) ->c6 238 #[Z (M ⟨g,o,N⟩) i ca,zK v] V fun e w'=>e=yW (zZ (zD (l.take i) v))/\w'=V):=fun v V n=>by
    have:=ak2 (M ⟨g,o,N⟩) ca (l.take i) v V n al;rwa [m] at this
   clear m;generalize l[i]=x at *;go_wp2_with fail
   refine(aoi x _ Bj).ae ?_;rintro e P ⟨rfl,rfl⟩;cases BK:Bi x with
   |false=>
    have Bm:=Fa (U.o BK);clear BK;go_wp2;go_ret;exact⟨by rw[Bm.o];rfl,rfl⟩
   |true=>
    go_wp2_with fail
    refine(y.o x _ Q.o).ae ?_;rintro e R ⟨rfl,rfl⟩;cases hm:zD (l.take i) x with
    |true=>
     have Bm:=Fa (q.o BK hm);clear BK hm;go_wp2;go_ret;exact⟨by rw[Bm.o];rfl,rfl⟩
    |false=>
     have Bm:=Fa (Ba.o BK hm);clear BK hm;go_wp2;go_roundw
     case rel=>exact⟨i+1,al,bd,Bm,trivial⟩
     case measure=>simp[intOf];omega
  ·obtain rfl:i=C l:=al
   have Bm:=Fa (B7.o H.o);go_wp2;go_ret;exact⟨by rw[Bm.o];rfl,rfl⟩
section
open Go.Shelf
attribute [local go_sem] Oper.semAt_some
variable {Bn:Nat}
def Jh (B:Nat) (w:E) (a:Kd) (l:Kx):Prop:=∀k (h:k<C l),∃g o,a=M ⟨g,o,N⟩/\g<B/\w.cell? ⟨g,o+k,N⟩=M (J I l[k])
theorem Jh.aa {B:Nat} (h:Jh B w a l) (e:Below B w w'):Jh B w' a l:=fun k f=>by
 obtain⟨g,o,c,b,d⟩:=h k f;exact⟨g,o,c,b,(e.cell (p:=⟨g,_,N⟩) b).trans d⟩
theorem aB.toB (h:aB w a l):Jh (O (T w)) w a l:=h
def vM (Bn B:Nat) (V V':E):Prop:=qH Bn V V'/\Below B V V'
theorem vM.t {B:Nat} {X Y B7:E} (h:vM Bn B X Y) (k:vM Bn B Y B7):vM Bn B X B7:=⟨h.1.t k.1,h.2.trans k.2⟩
theorem vM.b {B:Nat} (n:Bn<O (T w)) (d:B<=O (T w)) (V:E) (l:Nat) (o o':Obj) (c:O (T w)<=l) (h1:V.heap[l]? =M o) (h:o.isCells=xd) (a:o.isWalk=xd):vM Bn B V (V.putObj l o'):=
 ⟨qH.b n V l o o' c h1 h a,xM d V l o o' c h1 h a⟩
def pJ (n k:Nat):Ja:=(List.range k).map fun j=>n - 1 - j
theorem Uu (n k:Nat):pJ n (k+1)=pJ n k++[n - 1 - k]:=by simp[pJ,xN]
theorem atB (n k:Nat):C (pJ n k)=k:=by simp[pJ]
abbrev At (l:Kx):Type:= {i:Nat//i<C l}
abbrev atV (l:Kx) (x:At l):Array Value:= #[J I (x.1:Nat),J I (l[x.1]'x.2)]
theorem atA (n:Nat) (B9:1<=n) (l Bn B:Nat) (a:Kd) (cap:Nat) (xs:Kx) (Bb:C xs<=140737488355328) (Bh c:List (At xs) ->E ->Prop)
  (Y:∀p x V,Bh p V ->C p<C xs ->YieldAt Fence.wide (n - 1) prog l (atV xs x) V fun e V'=>
   (e=yW (zZ y6)/\Bh (p++[x]) V'/\vM Bn B V V')∨(e=yW (zZ xd)/\c (p++[x]) V'))
  (V:E) (Bj:V.cell? ⟨Bn,0,N⟩=M (Z a (C xs) cap)) (d:Jh B V a xs) (h0:Bh [] V):
  CallsIn Fence.wide n prog 263 #[.func (.yield l) #[] #[],zR (M ⟨Bn,0,N⟩)] V fun e V'=>(∃v,e=yW v)/\
   ((∃s:List (At xs),s.map (·.1)=pJ (C xs) (C xs)/\Bh s V')∨(∃p:List (At xs),(∃k,k<=C xs/\p.map (·.1)=pJ (C xs) k)/\c p V')):=by
 have X:=Fa d;clear d;refine JP func263 rfl trivial ?_ rfl;simp only[ntmps263,mL,eA,lS,Nat.reduceAdd,Nat.reduceSub,oX,oW,oP,nV,gS,gF];gi_wp2
 gi_loopw [3] (fun i wr=>∃(k:Nat) (p:List (At xs)),k<=C xs/\i=J I ((C xs:Int) - 1 - (k:Int))/\wT (p.map (·.1)=pJ (C xs) k)/\Bh p wr/\wr.cell? ⟨Bn,0,N⟩=M (Z a (C xs) cap)/\wT (Jh B wr a xs))
  (fun i _=>(intOf i+1).toNat)
 case atStart=>exact⟨0,[],aV _,aE,rfl,h0,Bj,X⟩
 case round=>
  obtain⟨k,p,L,rfl,H,f,r,b⟩:=hrel;by_cases Q:k<C xs
  ·have Ba:C p=k:=by have:=eG List.length H.o;rwa [cY,atB] at this
   (have h:C xs - 1 - k<C xs:=al);obtain⟨fn,ad,ai,ab,y,R⟩:=Y p ⟨C xs - 1 - k,h⟩ wr f al;obtain⟨g,o,rfl,K,F⟩:=b.o (C xs - 1 - k) h;(have S:wT ((p++[(⟨C xs - 1 - k,h⟩:At xs)]).map (·.1)=pJ (C xs) (k+1)):=by show _=_;rw[gV,H.o,Uu];rfl);have m:=Fa R;clear R;rw[atV] at y;simp only at y;(have q:wT ((C xs:Int) - 1 - ((k+1:Nat):Int)=(C xs:Int) - 1 - (k:Int) - 1):=by show _=_;omega);(have U:(C xs:Int) - 1 - (k:Int)=((C xs - 1 - k:Nat):Int):=al);rw[U];have w:=Fa U;clear U;have D:C xs - 1 - k<C xs:=h;generalize hEn:xs[C xs - 1 - k]=P at *;generalize ZT:C xs - 1 - k=Bm at *;gi_wp2
   refine m.o.ae ?_;rintro e W3 (⟨rfl,z,j⟩ |⟨rfl,A⟩)
   ·have B7:=Eq.trans j.1 r;have t:=b.o.aa j.2;gi_wp2
    go_roundw
    case rel=>exact⟨k+1,_,al,by rw[q.o,w.o],S,z,B7,t⟩
    case measure=>simp[intOf]
   ·gi_wp2
    refine dI (results_none rfl _ _ _) rfl ?_;exact⟨⟨_,rfl⟩,yk ⟨_,⟨k+1,al,S.o⟩,A⟩⟩
  ·obtain rfl:k=C xs:=al
   (have u:(C xs:Int) - 1 - (C xs:Int)= -1:=al);rw[u];gi_wp2
   go_end0
   exact⟨⟨_,rfl⟩,yd ⟨_,H.o,f⟩⟩
end
open Go.Shelf
variable {K:Act ->E ->Prop} {ops:Array Oper} {Q:Exit ->Act ->E ->Prop} {md:Region.Mode}
def Nw (ops:Array Oper):Bool:=ops.all fun o=>match o.op with |.defer _=>xd |_=>y6
theorem amG (h:Nw ops=y6) {o:Oper} (d:ops[i]? =M o):∀c,o.op≠.defer c:=by
 intro c e;rw[Nw,Array.all_eq_true] at h;obtain⟨b,a⟩:=cS.1 d;have:=h i b;rw[a,e] at this;cases this
theorem anx {l:Nat} {P:Program} (Bh:Nw ops=y6) (t:¬LetsOut Q) {k:Act ->E ->Prop} {a:Act} (b:∀a w,K a w ->k a w)
  (h:wpOp P ops Q i K a w):wpOpIn (Fence.wide.inRound l) n P ops Q i k a w:=by
 unfold wpOp at h;unfold wpOpIn;cases ho:ops[i]? with
 |none=>rw[ho] at h;exact b _ _ h
 |some o=>
  rw[ho] at h;simp only at h⊢;by_cases m:Region.wanted o (yielded ops a.tmps)=y6
  ·rw[aw m] at h⊢;rcases h with h |h
   ·refine⟨fun _ _=>trivial,?_⟩;rw[Oper.semAt_eq _ _ _ (amG Bh ho)];unfold Oper.wp at h;generalize (execOp a.eval o).run P w=r at *;cases r with
    |ok nx w'=>
     cases nx with
     |value v=>exact b _ _ h
     |skip=>exact b _ _ h
     |defer d=>exact b _ _ h
     |enter f args=>
      refine⟨fun g=>absurd g (show ¬Fence.wide.depth.isSome=y6 by decide),(jb (n:=n - 1)).2 (Calls.ae h ?_)⟩;intro e u j;cases e with
      |returned v=>exact b _ _ j
      |panicked c=>exact j
      |outgrown=>exact j
     |row r args=>exact⟨fun g=>absurd g (show ¬Fence.wide.depth.isSome=y6 by decide),fun c p _=>let ⟨v,q,r,s⟩:=h c p;⟨v,q,b _ _ r,stepsIn_wide.2 s⟩⟩
     |_=>exact h.elim
    |halt hl w'=>
     cases hl with
     |panic v=>exact h
     |_=>exact h.elim
   ·exact absurd h.2 t
  ·rw[aC m] at h⊢;exact⟨fun _ _=>trivial,b _ _ h⟩
theorem aiv {l:Nat} {P:Program} (e:Nw ops=y6) (o:¬LetsOut Q):∀(fuel:Nat) (d:Array Bool) (a:Act) (w:E),wpAny P md ops Q fuel d a w ->wpAnyIn (Fence.wide.inRound l) n P md ops Q fuel d a w
 |0,_,_,_,h=>h
 |fuel+1,_,_,_,h=>⟨h.1,fun i b=>anx e o (fun a w=>aiv e o fuel _ a w) (h.2 i b)⟩
theorem A7 {l id:Nat} {P:Program} {a:Act} (S:E ->Prop) (m:P.follows .mixedOrders=y6) (e:Nw ops=y6) (o:¬LetsOut Q) (b:S w.drew)
  (h:S w.drew ->wpAnyH P .any ops Q S ops.size (Array.replicate ops.size xd) a w.drew):(Code.region id ops y6).wpIn (Fence.wide.inRound l) n P Q a w:=
 wpIn_region_any m (aiv e o _ _ _ _ (wpAny_of_held _ _ _ _ (h b)))
section
attribute [local go_sem] Oper.semAt_some
variable {S vs:Ja}
def Jc (S vs:Ja) (st:Nat×Ja) (i:Nat):Nat×Ja:=(st.1/sz S (vs.getD i 0),st.2.set i (st.1 % sz S (vs.getD i 0)))
def sF (S vs:Ja) (K n:Nat) (pre:Ja):Nat×Ja:=pre.foldl (Jc S vs) (K,List.replicate n 0)
theorem aio (S vs:Ja) (K n:Nat) (e:Ja) (i:Nat):sF S vs K n (e++[i])=Jc S vs (sF S vs K n e) i:=by simp[sF]
theorem atJ (S vs:Ja) (K n:Nat) (e:Ja):(sF S vs K n e).1<=K/\(sF S vs K n e).2.length=n:=by
 have k:∀(l:Ja) (s:Nat×Ja),s.1<=K ->s.2.length=n ->(l.foldl (Jc S vs) s).1<=K/\(l.foldl (Jc S vs) s).2.length=n:=by
  intro l;induction l with
  |nil=>intro s h a;exact⟨h,a⟩
  |cons i l ih=>
   intro s h a;exact ih _ (aM (AV _ _) h) (by simp[Jc,a])
 exact k e _ (ah _) aE
theorem aip (S vs:Ja) (K:Nat):∀m,m<=C vs ->sF S vs K (C vs) (pJ (C vs) m)=(K/cnt S (vs.drop (C vs - m)),List.replicate (C vs - m) 0++oC S (vs.drop (C vs - m)) (K % cnt S (vs.drop (C vs - m))))
 |0,_=>by simp[sF,pJ,cnt,oC]
 |m+1,h=>by
  rw[Uu,aio,aip S vs K m al];have a:C vs - 1 - m<C vs:=al
  have e:C vs - (m+1)=C vs - 1 - m:=al
  have b:C vs - m=(C vs - 1 - m)+1:=al
  have d:vs.drop (C vs - 1 - m)=vs[C vs - 1 - m]::vs.drop ((C vs - 1 - m)+1):=qP a;rw[e,b,d,Jc,F8 a];generalize vs.drop ((C vs - 1 - m)+1)=rest;generalize vs[C vs - 1 - m]=v;generalize (C vs) - 1 - m=j;simp only[cnt,oC];rw[aeT,aeS,VM,eQ (cnt S rest),List.replicate_succ',p9,Hj _ _ aE];simp
theorem atK {K:Nat} (h:K<cnt S vs):sF S vs K (C vs) (pJ (C vs) (C vs))=(0,oC S vs K):=by
 rw[aip S vs K _ (ah _),rE];simp[kp h,zk h]
theorem aaP (n:Nat) (a:Kd) (l cap:Nat) (w:E):
  CallsIn Fence.wide n prog 216 #[Z a l cap] w fun e w'=>e=yW (.func (.func 263) #[] #[zR (M ⟨O (T w),0,N⟩)])/\w'=w.alloc (yM #[Z a l cap] 27):=by
 refine JP func216 rfl trivial ?_ rfl;simp only[ntmps216,mL,eA,lS,Nat.reduceAdd,Nat.reduceSub,oX,oW,oP,nV,gS,gF];gi_wp2
 go_ret;exact⟨rfl,rfl⟩
theorem aaO (n:Nat) (f:1<=n) (Bn B:Nat) (a:Kd) (cap:Nat) (xs:Kx) (e:C xs<=140737488355328) (w:E) (Bj:Bn<O (T w)) (c:B<=O (T w)) (d:w.cell? ⟨Bn,0,N⟩=M (Z a (C xs) cap)) (g:Jh B w a xs):
  SeqStopsK Fence.wide n prog 263 #[zR (M ⟨Bn,0,N⟩)] (atV xs) (vM Bn B) (fun s=>s.map (·.1)=pJ (C xs) (C xs)) (fun r=>∃k,k<=C xs/\r.map (·.1)=pJ (C xs) k) (C xs) w:=fun l Bh x V h _ _ Y b=>
 atA n f l Bn B a cap xs e Bh x Y V ((h.cell (p:=⟨Bn,0,N⟩) Bj).trans d) (g.aa (h.ae c)) b
theorem RH {β:Type} (g:Nat) (f:β ->Ja):Own (fun s W=>cP W g (f s)):=fun s X Y w hs a r=>by
 refine(a.block g hs.lt fun e=>?_).trans hs;obtain⟨o,h,c⟩:=r g e.symm;rw[show X.heap[g]? =_ from hs] at h;cases h;cases c
theorem ae3 (w:E) (n:Nat):cP (w.alloc (yM (madeCells #[Value.int I 0] n) 3)) (O (T w)) (List.replicate n 0):=by
 have h:(madeCells #[Value.int I 0] n).toList=(List.replicate n (0:Nat)).map iv:=by
  have:=KO n;rwa [qM,show (Value.int I 0).cells= #[Value.int I 0] from rfl] at this
 have e:madeCells #[Value.int I 0] n=((List.replicate n (0:Nat)).map iv).toArray:=by rw[<- h]
 rw[cP, <- e];exact dU _ _
theorem cP.alloc {l:Ja} (h:cP w g l) (o:Obj):cP (w.alloc o) g l:=(uP w o g h.lt).trans h
theorem jD {V:E} {t:TypeId} {v:wF} (h:Boxed V k t v) (b j:Nat) (y:wF) (e:k≠b):Boxed (V.setCell ⟨b,j,N⟩ y) k t v:=(eW V ⟨b,j,N⟩ y k e).trans h
theorem cP.off {V:E} {l:Ja} (h:cP V g l) (b j:Nat) (y:wF) (e:g≠b):cP (V.setCell ⟨b,j,N⟩ y) g l:=(eW V ⟨b,j,N⟩ y g e).trans h
end
section
attribute [local go_sem] Oper.semAt_some
variable {S:Ja}
def nX (S:Ja) (n:Nat) (vs:Ja):Ja:=(List.range n).map (dN S vs)
theorem rJ (S:Ja) (n:Nat) (vs:Ja):C (nX S n vs)=n:=by simp[nX]
theorem akH (S:Ja) (n:Nat):nX S n []=List.replicate n 0:=by
 apply ld<;>simp[nX,dN]
theorem akJ (S:Ja) (n u:Nat) (vs:Ja):(nX S n vs).set u (cnt S vs)=nX S n (u::vs):=by
 apply ld
 ·simp[nX]
 ·intro i a b;simp only[nX,CO,mN,Hq,dN];by_cases e:u=i
  ·rw[aw e,aw e.symm]
  ·rw[aC e,aC (fun h=>e h.symm)]
theorem akI (S:Ja) (n:Nat) (vs:Ja) (h:v<n):(nX S n vs)[v]'(by rw[rJ];exact h)=dN S vs v:=by simp[nX]
def E5 (S vs:Ja) (st:Nat×Ja) (i:Nat):Nat×Ja:=(st.1*sz S (vs.getD i 0),st.2.set (vs.getD i 0) st.1)
def rK (S vs:Ja) (n:Nat) (pre:Ja):Nat×Ja:=pre.foldl (E5 S vs) (1,List.replicate n 0)
theorem acy (S vs:Ja) (n:Nat) (e:Ja) (i:Nat):rK S vs n (e++[i])=E5 S vs (rK S vs n e) i:=by simp[rK]
theorem acz (S vs:Ja) (n:Nat):∀m,m<=C vs ->rK S vs n (pJ (C vs) m)=(cnt S (vs.drop (C vs - m)),nX S n (vs.drop (C vs - m)))
 |0,_=>by simp[rK,pJ,cnt,akH]
 |m+1,h=>by
  rw[Uu,acy,acz S vs n m al];have j:C vs - 1 - m<C vs:=al
  have e:C vs - (m+1)=C vs - 1 - m:=al
  have a:C vs - m=(C vs - 1 - m)+1:=al
  have d:vs.drop (C vs - 1 - m)=vs[C vs - 1 - m]::vs.drop ((C vs - 1 - m)+1):=qP j;rw[e,a,d,E5,F8 j];simp only[cnt,akJ];rw[eQ]
theorem akK (hs:∀v,sz S v<=4) (vs:Ja) (n:Nat) (e:Ja):(rK S vs n e).1<=4^C e/\(rK S vs n e).2.length=n:=by
 have k:∀(l:Ja) (s:Nat×Ja),s.2.length=n ->(l.foldl (E5 S vs) s).1<=s.1*4^C l/\(l.foldl (E5 S vs) s).2.length=n:=by
  intro l;induction l with
  |nil=>intro s a;exact⟨aE,a⟩
  |cons i l ih=>
   intro s a;obtain⟨b,c⟩:=ih (E5 S vs s i) (by simp[E5,a]);refine⟨aM b ?_,c⟩;show s.1*sz S (vs.getD i 0)*4^C l<=s.1*4^(C l+1);rw[jI,eQ (4^C l), <- jr];exact lR _ (mK _ (hs _))
 have h:=k e (1,List.replicate n 0) aE;rwa [k8] at h
theorem akL (S vs:Ja) (n:Nat):rK S vs n (pJ (C vs) (C vs))=(cnt S vs,nX S n vs):=by
 rw[acz S vs n _ (ah _),rE,ES]
theorem acA (a b:Kd) (ca cb:Nat) (Fb Fd:Kx) (w:E) (hs:aB w a Fb) (hv:aB w b Fd) (R:fK Fb) (X:Up Fd (C Fb)):
  c6 214 #[Z a (C Fb) ca,Z b (C Fd) cb] w fun e w'=>∃(c cc:Nat),e=yW (Z (M ⟨c,0,N⟩) (C Fb) cc)/\w.heap.size<=c/\aB w' (M ⟨c,0,N⟩) (iL (nX (af Fb) (C Fb) (af Fd)))/\da w w':=by
 refine(jb (n:=6)).1 ?_;have uu:=R.eight;have fQ:=X.length;have az:cnt (af Fb) (af Fd)<=65536:=xm R.sz_le (by rw[gG];omega);have ay:=fun V=>QL (P:=prog) 27 3 (J I 0) 8 underlying27 Tryz.infoInt rfl I I (C Fb) al al V;have HS:=Fa hs;have HV:=Fa hv;have q:=Fa R;have nL:=Fa X;have xJ:=Fa (akL (af Fb) (af Fd) (C Fb));rw[gG] at xJ;clear hs hv R X;refine vY func214 rfl trivial ?_ rfl;simp only[ntmps214,mL,eA,lS,Nat.reduceAdd,Nat.reduceSub,oX,oW,oP,nV,gS,gF];gi_wp2_with ((refine⟨trivial,?_⟩;gi_at_call 216;refine(aaP _ _ _ _ _).ae ?_;rintro e w2 ⟨rfl,rfl⟩))
 obtain⟨f,g⟩:∃f,f=(((((w.alloc (yM #[Z a (C Fb) ca] 27)).alloc (yM #[J I 1] 3)).alloc (yM (madeCells #[J I 0] (C Fb)) 3)).alloc (yM #[Z (M ⟨O (T w)+1+1,0,N⟩) (C Fb) (C Fb)] 27)).alloc (yM #[Z b (C Fd) cb] 27)):=⟨_,rfl⟩;have BF:O (T f)=O (T w)+1+1+1+1+1:=by rw[g];simp
 have b0:Boxed f (O (T w)) 27 (Z a (C Fb) ca):=by rw[g];exact((((bF w _ _).alloc _).alloc _).alloc _).alloc _
 have b1:Boxed f (O (T w)+1) 3 (J I 1):=by
  have h:=((((bF (w.alloc (yM #[Z a (C Fb) ca] 27)) 3 (J I 1)).alloc (yM (madeCells #[J I 0] (C Fb)) 3)).alloc (yM #[Z (M ⟨O (T w)+1+1,0,N⟩) (C Fb) (C Fb)] 27)).alloc (yM #[Z b (C Fd) cb] 27));rw[eV] at h;rw[g];exact h
 have r2:cP f (O (T w)+1+1) (List.replicate (C Fb) 0):=by
  have h:=((ae3 ((w.alloc (yM #[Z a (C Fb) ca] 27)).alloc (yM #[J I 1] 3)) (C Fb)).alloc (yM #[Z (M ⟨O (T w)+1+1,0,N⟩) (C Fb) (C Fb)] 27)).alloc (yM #[Z b (C Fd) cb] 27);rw[eV,eV] at h;rw[g];exact h
 have b3:Boxed f (O (T w)+1+1+1) 27 (Z (M ⟨O (T w)+1+1,0,N⟩) (C Fb) (C Fb)):=by
  have h:=(bF (((w.alloc (yM #[Z a (C Fb) ca] 27)).alloc (yM #[J I 1] 3)).alloc (yM (madeCells #[J I 0] (C Fb)) 3)) 27 (Z (M ⟨O (T w)+1+1,0,N⟩) (C Fb) (C Fb))).alloc (yM #[Z b (C Fd) cb] 27);rw[eV,eV,eV] at h;rw[g];exact h
 have Ba:Boxed f (O (T w)+1+1+1+1) 27 (Z b (C Fd) cb):=by
  have h:=bF ((((w.alloc (yM #[Z a (C Fb) ca] 27)).alloc (yM #[J I 1] 3)).alloc (yM (madeCells #[J I 0] (C Fb)) 3)).alloc (yM #[Z (M ⟨O (T w)+1+1,0,N⟩) (C Fb) (C Fb)] 27)) 27 (Z b (C Fd) cb);rw[eV,eV,eV,eV] at h;rw[g];exact h
 have ad:da w f:=by
  rw[g];exact(((((au _ w).alloc (ah _) _).alloc aE _).alloc (by simp;omega) _).alloc (by simp;omega) _).alloc (by simp;omega) _
 rw[<- g];clear g
 refine QK (α:=At Fd) rfl al (gf:=263) (lb:= #[zR (M ⟨O (T w)+1+1+1+1,0,N⟩)]) rfl trivial (enters_of func263 ao rfl)
  (aaO 5 al (O (T w)+1+1+1+1) (O (T w)) b cb Fd al f al al Ba.cell (HV.o.toB.aa ad)) vM.t (vM.b al al) (au _ _) (fun _=>rfl)
  (fun (d:List (At Fd)) V=>Boxed V (O (T w)) 27 (Z a (C Fb) ca)/\Boxed V (O (T w)+1) 3 (J I ((rK (af Fb) (af Fd) (C Fb) (d.map (·.1))).1:Nat))/\cP V (O (T w)+1+1) (rK (af Fb) (af Fd) (C Fb) (d.map (·.1))).2/\Boxed V (O (T w)+1+1+1) 27 (Z (M ⟨O (T w)+1+1,0,N⟩) (C Fb) (C Fb))/\Boxed V (O (T w)+1+1+1+1) 27 (Z b (C Fd) cb)/\da w V)
  (fun _ _ _=>False)
  (gJ (iB (ko _ _ (fun _=>_)) _) (gJ (iB (ko _ _ (fun d:List (At Fd)=>J I ((rK (af Fb) (af Fd) (C Fb) (d.map (·.1))).1:Nat))) _) (gJ (iB (RH _ (fun d:List (At Fd)=>(rK (af Fb) (af Fd) (C Fb) (d.map (·.1))).2)) _) (gJ (iB (ko _ _ (fun _=>_)) _) (gJ (iB (ko _ _ (fun _=>_)) _) (CE (ah _) al))))))
  (fun _ _ _ _ _ hs _ _=>hs)
  ⟨b0,b1,r2,b3,Ba,ad⟩
  (fun x=> {tmps:= #[Z a (C Fb) ca,Z b (C Fd) cb,zR (M ⟨O (T w),0,N⟩),wQ,Z N 0 0,zR (M ⟨O (T w)+1,0,N⟩),zR (M ⟨O (T w)+1+1+1,0,N⟩),wQ,J I (Fd[x.1]'x.2),Z a (C Fb) ca,J I (C Fb:Nat),Z (M ⟨O (T w)+1+1,0,N⟩) (C Fb) (C Fb),Z b (C Fd) cb,.func (.func 263) #[] #[zR (M ⟨O (T w)+1+1+1+1,0,N⟩)],J I (x.1:Nat),J I (Fd[x.1]'x.2),wQ,wQ,wQ,wQ,wQ,wQ,wQ,wQ,wQ,wQ,wQ],defers:=[]}) ?assign ?body ?done ?stop
 case assign=>
  intro l x V K y;gi_wp2
  exact y
 case body=>
  rintro l d ⟨i,H⟩ V ⟨Y,Bm,k,m,B7,F⟩ a1;obtain⟨kR,iF⟩:=nL.o.nat H
  have ab:wT (rK (af Fb) (af Fd) (C Fb) ((d++[(⟨i,H⟩:At Fd)]).map (·.1))=((rK (af Fb) (af Fd) (C Fb) (d.map (·.1))).1*sz (af Fb) Fd[i].toNat,(rK (af Fb) (af Fd) (C Fb) (d.map (·.1))).2.set Fd[i].toNat (rK (af Fb) (af Fd) (C Fb) (d.map (·.1))).1)):=by
   show _=_;rw[gV,gw,oQ,acy,E5,F8 (show i<C (af Fd) by rw[gG];exact H),wC H]
  obtain⟨kT,an⟩:=akK q.o.sz_le (af Fd) (C Fb) (d.map (·.1));have ak:(4:Nat)^C (d.map (·.1))<=16384:=aM (k7 al (show C (d.map (·.1))<=7 by rw[cY];omega)) a6;have ai:=aM kT ak;have hz:=lp q.o.pos Fd[i].toNat;have KS:=q.o.sz_le Fd[i].toNat;clear kT ak;generalize hV:Fd[i].toNat=v at *;rw[<- kR];obtain⟨g',o',rfl,iz,c1⟩:=(HS.o.aa F) v iF;rw[<- q.o.sz_eq iF] at c1
  have aY:g'<O (T w):=by
   obtain⟨g3,o3,e3,m,_⟩:=HS.o v iF;cases e3;exact m
  clear kR hV;generalize rK (af Fb) (af Fd) (C Fb) (d.map (·.1))=st at *;obtain⟨p,Q⟩:=st;simp only at Bm k ai an ab;generalize sz (af Fb) v=s at *;have bc:=k.cell v al;have aI:=k.fz v;have k0:=Y.cell;have k1:=Bm.cell;have k3:=m.cell;have fH:p*s<=65536:=aM (kN ai KS) a6;have B9:(p:Int)*(s:Int)=((p*s:Nat):Int):=(mP _ _).symm;have lD:v<C Q:=al
  generalize Q[v]=z at *;have bb:IntKind.i64.wrap ((p:Int)*(s:Int))=(p:Int)*(s:Int):=by rw[B9,js];omega
  have av:=Fa B9;clear B9 ay b0 b1 r2 b3 Ba ad BF xJ nL q HV az an;gi_wp2_with fail
  have aj:∀(b j:Nat),¬O (T w)+1+1=b ->(V.setCell ⟨O (T w)+1+1,v,N⟩ (J I (p:Int))).cell? ⟨b,j,N⟩=V.cell? ⟨b,j,N⟩:=fun b j hb=>fT _ _ _ _ (fun e=>hb (by cases e;rfl));have m2:=(aj g' (o'+v) al).trans c1;have q0:Boxed (V.setCell ⟨O (T w)+1+1,v,N⟩ (J I (p:Int))) (O (T w)) 27 (Z (M ⟨g',o',N⟩) (C Fb) ca):=jD Y _ v _ al;have q1:Boxed (V.setCell ⟨O (T w)+1+1,v,N⟩ (J I (p:Int))) (O (T w)+1) 3 (J I (p:Nat)):=jD Bm _ v _ al;have q3:Boxed (V.setCell ⟨O (T w)+1+1,v,N⟩ (J I (p:Int))) (O (T w)+1+1+1) 27 (Z (M ⟨O (T w)+1+1,0,N⟩) (C Fb) (C Fb)):=jD m _ v _ al;have Bj:Boxed (V.setCell ⟨O (T w)+1+1,v,N⟩ (J I (p:Int))) (O (T w)+1+1+1+1) 27 (Z b (C Fd) cb):=jD B7 _ v _ al;have q2:cP (V.setCell ⟨O (T w)+1+1,v,N⟩ (J I (p:Int))) (O (T w)+1+1) (Q.set v p):=k.set v p;have qB:da w (V.setCell ⟨O (T w)+1+1,v,N⟩ (J I (p:Int))):=F.setCell (p:=⟨O (T w)+1+1,v,N⟩) (by simp;omega) _;have qK:Below (O (T w)) V (V.setCell ⟨O (T w)+1+1,v,N⟩ (J I (p:Int))):=(au (O (T w)) V).setCell (p:=⟨O (T w)+1+1,v,N⟩) (by simp;omega) _;have qO:KeepsOthers V (V.setCell ⟨O (T w)+1+1,v,N⟩ (J I (p:Int))):=jJ V _ _;have j4:qH (O (T w)+1+1+1+1) V (V.setCell ⟨O (T w)+1+1,v,N⟩ (J I (p:Int))):=Bj.cell.trans B7.cell.symm;have m0:=q0.cell
  have m1:=q1.cell;have fU:=q1.frozen;clear aj;generalize (V.setCell ⟨O (T w)+1+1,v,N⟩ (J I (p:Int)))=U at *;refine A7 (fun u=>u.cell? ⟨O (T w),0,N⟩=M (Z (M ⟨g',o',N⟩) (C Fb) ca)/\u.cell? ⟨g',o'+v,N⟩=M (J I (s:Nat))) ao ao (fun ⟨_,_,h⟩=>h) ⟨m0,m2⟩ ?_;intro aq;refine cU 1 (Z (M ⟨g',o',N⟩) (C Fb) ca) ?_ ?_
  ·intro u Bh;obtain⟨L,Bb⟩:=Bh;simp only[gE];go_simp
  simp only[gE,aP];refine cU 2 (J I (v:Nat)) ?_ ?_
  ·intro u Bh;obtain⟨L,Bb⟩:=Bh;simp only[gE];go_simp
  simp only[gE,aP];refine cU 3 (zR (M ⟨g',o'+v,N⟩)) ?_ ?_
  ·intro u Bh;obtain⟨L,Bb⟩:=Bh;simp only[gE];go_simp
  simp only[gE,aP];refine cU 4 (J I (s:Nat)) ?_ ?_
  ·intro u Bh;obtain⟨L,Bb⟩:=Bh;simp only[gE];go_simp
  simp only[gE,aP];refine aF [0] (cA ?_ aG);intro S A;simp only[gE];go_simp;refine A.o _ _ aq (fun _=>?_);clear A S;refine cU 5 (J I ((p:Int)*(s:Int))) ?_ ?_
  ·intro u Bh;obtain⟨L,Bb⟩:=Bh;simp only[gE];go_simp
  simp only[gE,aP];refine aF [6] (cA ?_ aG);intro S A;simp only[gE];go_simp;refine A.o _ _ ⟨(jD q0 (O (T w)+1) 0 _ al).cell,(fT _ _ _ _ (fun e=>(show ¬O (T w)+1=g' by omega) (eG Addr.block e))).trans m2⟩ (fun _=>eO ao ?_ _);clear A S aq;gi_wp2
  rw[av.o];refine⟨(qO.trans ((jJ U _ _).trans (CS _))).from _,⟨j4.t ((jD Bj (O (T w)+1) 0 (J I ((p*s:Nat):Int)) al).cell.trans Bj.cell.symm),(qK.setCell (p:=⟨O (T w)+1,0,N⟩) aE _).drew⟩,?_⟩;refine⟨jD q0 _ 0 _ al,?_,?_,jD q3 _ 0 _ al,jD Bj _ 0 _ al,(qB.setCell (p:=⟨O (T w)+1,0,N⟩) aE _).drew⟩
  ·rw[ab.o];exact q1.set _
  ·rw[ab.o];exact q2.off _ 0 _ al
 case done=>
  rintro D ys V hD Fl ⟨Y,Bm,k,m,B7,F⟩ y;rw[Fl,xJ.o] at k;have hc:=m.cell;gi_wp2
  refine⟨aE,yd ⟨_,_,rfl,CC y,?_⟩⟩;refine⟨_,CD rfl _ _ _,?_⟩;refine⟨O (T w)+1+1,⟨C Fb,rfl⟩,al,?_,F.trans (xM (w:=w) (ah _) V D _ _ al y rfl rfl)⟩;have ax:cP (V.putObj D (.deferred N)) (O (T w)+1+1) (nX (af Fb) (C Fb) (af Fd)):=RH (O (T w)+1+1) (fun (_:Unit)=>nX (af Fb) (C Fb) (af Fd)) () V _ (M D) k (grownBy_putObj' V D _) (fun r e=>by cases e;exact⟨_,y,rfl⟩);exact ax.ints
 case stop=>
  rintro D c d V _ _ h _;exact h.elim
end
section
attribute [local go_sem] Oper.semAt_some
variable {S vs:Ja}
def Hx (S vs ts:Ja) (st:Nat×Nat) (i:Nat):Nat×Nat:=(st.1/sz S (vs.getD i 0),st.2+st.1 % sz S (vs.getD i 0)*ts.getD (vs.getD i 0) 0)
def rL (S vs ts:Ja) (K:Nat) (pre:Ja):Nat×Nat:=pre.foldl (Hx S vs ts) (K,0)
theorem acB (S vs s:Ja) (K:Nat) (e:Ja) (i:Nat):rL S vs s K (e++[i])=Hx S vs s (rL S vs s K e) i:=by simp[rL]
theorem akM (p:Pos S) (hs:∀v,sz S v<=4) (vs t:Ja) (c:∀v,t.getD v 0<=65536) (K:Nat) (e:Ja):(rL S vs t K e).1<=K/\(rL S vs t K e).2<=262144*C e:=by
 have k:∀(l:Ja) (s:Nat×Nat),(l.foldl (Hx S vs t) s).1<=s.1/\(l.foldl (Hx S vs t) s).2<=s.2+262144*C l:=by
  intro l;induction l with
  |nil=>intro s;exact⟨ah _,aE⟩
  |cons i l ih=>
   intro s;obtain⟨a,b⟩:=ih (Hx S vs t s i);refine⟨aM a (AV _ _),aM b ?_⟩;have d:=jc s.1 (show 0<sz S (vs.getD i 0) from lp p _);have f:s.1 % sz S (vs.getD i 0)*t.getD (vs.getD i 0) 0<=4*65536:=kN (by have:=hs (vs.getD i 0);omega) (c _);show s.2+s.1 % sz S (vs.getD i 0)*t.getD (vs.getD i 0) 0+_<=_;rw[eA];omega
 have h:=k e (K,0);rwa [bQ] at h
theorem acC (n:vs.Nodup) (s:Ja) (K:Nat):∀m,m<=C vs ->rL S vs s K (pJ (C vs) m)=(K/cnt S (vs.drop (C vs - m)),gW (fun v=>aX S (vs.drop (C vs - m)) (K % cnt S (vs.drop (C vs - m))) v*s.getD v 0) (vs.drop (C vs - m)))
 |0,_=>by simp[rL,pJ,cnt,gW]
 |m+1,h=>by
  rw[Uu,acB,acC n s K m al];have j:C vs - 1 - m<C vs:=al
  have a:C vs - (m+1)=C vs - 1 - m:=al
  have b:C vs - m=(C vs - 1 - m)+1:=al
  have d:vs.drop (C vs - 1 - m)=vs[C vs - 1 - m]::vs.drop ((C vs - 1 - m)+1):=qP j;have Bh:(vs.drop (C vs - 1 - m)).Nodup:=n.sublist (List.drop_sublist _ _);rw[d,nS] at Bh;rw[a,b,d,Hx,F8 j];generalize vs.drop ((C vs - 1 - m)+1)=rest at Bh⊢;generalize vs[C vs - 1 - m]=u at Bh⊢;simp only[atI];rw[cnt,VM,eQ (cnt S rest),gW,aw rfl,EO];congr 2
  refine Ki fun v c=>?_;rw[aC (fun e=>Bh.1 (by rw[<- e];exact c))]
theorem akN (n:vs.Nodup) (s:Ja) {K:Nat} (h:K<cnt S vs):rL S vs s K (pJ (C vs) (C vs))=(0,gW (fun v=>aX S vs K v*s.getD v 0) vs):=by
 rw[acC n s K _ (ah _),rE,ES,kp h,zk h]
theorem akP (Y F Bj:Nat) (a b t:Kd) (ca cb ct:Nat) (Fb Fd:Kx) (s:Ja) (K:Nat) (w:E) (Lp:Y<O (T w)) (Ai:F<O (T w)) (wX:Bj<O (T w)) (xv:w.cell? ⟨Y,0,N⟩=M (Z b (C Fd) cb)) (xs:w.cell? ⟨F,0,N⟩=M (Z a (C Fb) ca)) (xt:w.cell? ⟨Bj,0,N⟩=M (Z t (C Fb) ct))
  (hs:aB w a Fb) (hv:aB w b Fd) (ht:aB w t (iL s)) (mY:C s=C Fb) (B7:∀v,s.getD v 0<=65536) (aR:fK Fb) (bh:Up Fd (C Fb)) (P:K<cnt (af Fb) (af Fd)) (eJ:(af Fd).Nodup):
  c6 215 #[J I (K:Nat),zR (M ⟨Y,0,N⟩),zR (M ⟨F,0,N⟩),zR (M ⟨Bj,0,N⟩)] w (dj w (J I (gW (fun v=>aX (af Fb) (af Fd) K v*s.getD v 0) (af Fd):Nat))):=by
 refine(jb (n:=6)).1 ?_;have uu:=aR.eight;have fQ:=bh.length;have av:cnt (af Fb) (af Fd)<=65536:=xm aR.sz_le (by rw[gG];omega);have HS:=Fa hs;have HV:=Fa hv;have HT:=Fa ht;have R:=Fa aR;have nL:=Fa bh;have fk:=Fa B7;have xJ:=Fa (akN eJ s P);rw[gG] at xJ;clear hs hv aR bh ht B7;refine vY func215 rfl trivial ?_ rfl;simp only[ntmps215,mL,eA,lS,Nat.reduceAdd,Nat.reduceSub,oX,oW,oP,nV,gS,gF];gi_wp2_with ((refine⟨trivial,?_⟩;gi_at_call 216;refine(aaP _ _ _ _ _).ae ?_;rintro e w2 ⟨rfl,rfl⟩))
 obtain⟨H,Q⟩:∃H,H=(((w.alloc (yM #[J I (K:Nat)] 3)).alloc (yM #[J I 0] 3)).alloc (yM #[Z b (C Fd) cb] 27)):=⟨_,rfl⟩;have BF:O (T H)=O (T w)+1+1+1:=by rw[Q];simp
 have b0:Boxed H (O (T w)) 3 (J I (K:Nat)):=by rw[Q];exact((bF w _ _).alloc _).alloc _
 have b1:Boxed H (O (T w)+1) 3 (J I 0):=by
  have h:=(bF (w.alloc (yM #[J I (K:Nat)] 3)) 3 (J I 0)).alloc (yM #[Z b (C Fd) cb] 27);rw[eV] at h;rw[Q];exact h
 have b4:Boxed H (O (T w)+1+1) 27 (Z b (C Fd) cb):=by
  have h:=bF ((w.alloc (yM #[J I (K:Nat)] 3)).alloc (yM #[J I 0] 3)) 27 (Z b (C Fd) cb);rw[eV,eV] at h;rw[Q];exact h
 have ai:da w H:=by
  rw[Q];exact(((au _ w).alloc (ah _) _).alloc aE _).alloc (by simp;omega) _
 rw[<- Q];clear Q
 refine QK (α:=At Fd) rfl al (gf:=263) (lb:= #[zR (M ⟨O (T w)+1+1,0,N⟩)]) rfl trivial (enters_of func263 ao rfl)
  (aaO 5 al (O (T w)+1+1) (O (T w)) b cb Fd al H al al b4.cell (HV.o.toB.aa ai)) vM.t (vM.b al al) (au _ _) (fun _=>rfl)
  (fun (q:List (At Fd)) V=>Boxed V (O (T w)) 3 (J I ((rL (af Fb) (af Fd) s K (q.map (·.1))).1:Nat))/\Boxed V (O (T w)+1) 3 (J I ((rL (af Fb) (af Fd) s K (q.map (·.1))).2:Nat))/\Boxed V (O (T w)+1+1) 27 (Z b (C Fd) cb)/\da w V)
  (fun _ _ _=>False)
  (gJ (iB (ko _ _ (fun q:List (At Fd)=>J I ((rL (af Fb) (af Fd) s K (q.map (·.1))).1:Nat))) _) (gJ (iB (ko _ _ (fun q:List (At Fd)=>J I ((rL (af Fb) (af Fd) s K (q.map (·.1))).2:Nat))) _) (gJ (iB (ko _ _ (fun _=>_)) _) (CE (ah _) al))))
  (fun _ _ _ _ _ hs _ _=>hs)
  ⟨b0,b1,b4,ai⟩
  (fun x=> {tmps:= #[J I (K:Nat),zR (M ⟨Y,0,N⟩),zR (M ⟨F,0,N⟩),zR (M ⟨Bj,0,N⟩),zR (M ⟨O (T w),0,N⟩),J I 0,zR (M ⟨O (T w)+1,0,N⟩),wQ,J I (Fd[x.1]'x.2),Z b (C Fd) cb,.func (.func 263) #[] #[zR (M ⟨O (T w)+1+1,0,N⟩)],J I (x.1:Nat),J I (Fd[x.1]'x.2),wQ,wQ,wQ,wQ,wQ,wQ,wQ,wQ,wQ,wQ,wQ,wQ,wQ,wQ,wQ,wQ,wQ,wQ,wQ,wQ],defers:=[]}) ?assign ?body ?done ?stop
 case assign=>
  intro l x V K P;gi_wp2
  exact P
 case body=>
  rintro l q ⟨i,hi⟩ V ⟨h0,Bb,h4,B9⟩ aI;obtain⟨kR,iF⟩:=nL.o.nat hi
  have ad:wT (rL (af Fb) (af Fd) s K ((q++[(⟨i,hi⟩:At Fd)]).map (·.1))=((rL (af Fb) (af Fd) s K (q.map (·.1))).1/sz (af Fb) Fd[i].toNat,(rL (af Fb) (af Fd) s K (q.map (·.1))).2+(rL (af Fb) (af Fd) s K (q.map (·.1))).1 % sz (af Fb) Fd[i].toNat*s.getD Fd[i].toNat 0)):=by
   show _=_;rw[gV,gw,oQ,acB,Hx,F8 (show i<C (af Fd) by rw[gG];exact hi),wC hi]
  obtain⟨kT,aj⟩:=akM R.o.pos R.o.sz_le (af Fd) s fk.o K (q.map (·.1));rw[cY] at aj;have hz:=lp R.o.pos Fd[i].toNat;have KS:=R.o.sz_le Fd[i].toNat;have B7:=fk.o Fd[i].toNat;generalize hV:Fd[i].toNat=v at *;rw[<- kR];obtain⟨g',o',rfl,iz,c1⟩:=(HS.o.aa B9) v iF;rw[<- R.o.sz_eq iF] at c1
  have az:g'<O (T w):=by
   obtain⟨g3,o3,e3,h3,_⟩:=HS.o v iF;cases e3;exact h3
  have Dm:v<C (iL s):=by rw[bR];omega
  obtain⟨gt,X,rfl,ay,c2⟩:=(HT.o.aa B9) v Dm
  have ax:gt<O (T w):=by
   obtain⟨g3,o3,e3,h3,_⟩:=HT.o v Dm;cases e3;exact h3
  have ak:(iL s)[v]=((s.getD v 0:Nat):Int):=by rw[F8 al];simp[iL]
  rw[ak] at c2;clear ak kR hV;generalize rL (af Fb) (af Fd) s K (q.map (·.1))=st at *;obtain⟨p,r⟩:=st;simp only at h0 Bb kT aj ad;generalize sz (af Fb) v=f at *;generalize s.getD v 0=d at *;have k0:=h0.cell;have k1:=Bb.cell;have ks:=(B9.cell (p:=⟨F,0,N⟩) Ai).trans xs;have kt:=(B9.cell (p:=⟨Bj,0,N⟩) wX).trans xt;have f1:=Bb.frozen;have uq:(p:Int) % (f:Int)=((p % f:Nat):Int):=(wk _ _).symm;have pq:(p:Int)/(f:Int)=((p/f:Nat):Int):=(AX _ _).symm;have an:p % f<=3:=by have:=jc p (show 0<f by omega);omega
  have bt:p/f<=65536:=aM (AV _ _) al;generalize p % f=m at *;generalize p/f=dd at *;have Y0:m*d<=196608:=aM (kN an B7) a6;have ab:(m:Int)*(d:Int)=((m*d:Nat):Int):=(mP _ _).symm;have aY:IntKind.i64.wrap ((p:Int)/(f:Int))=(p:Int)/(f:Int):=by rw[pq,js];omega
  have a1:IntKind.i64.wrap ((m:Int)*(d:Int))=(m:Int)*(d:Int):=by rw[ab,js];omega
  have bb:IntKind.i64.wrap ((r:Int)+(m:Int)*(d:Int))=(r:Int)+(m:Int)*(d:Int):=by rw[ab,js];omega
  have Mi:=Fa uq;have Cl:=Fa pq;have jT:wT ((r:Int)+(m:Int)*(d:Int)=((r+m*d:Nat):Int)):=by show _=_;rw[ab];exact(ET _ _).symm
  clear uq pq ab b0 b1 b4 ai BF xJ nL R HV fk av P;gi_wp2_with fail
  refine A7 (fun u=>u.cell? ⟨O (T w),0,N⟩=M (J I (p:Nat))/\u.cell? ⟨F,0,N⟩=M (Z (M ⟨g',o',N⟩) (C Fb) ca)/\u.cell? ⟨g',o'+v,N⟩=M (J I (f:Nat))/\u.cell? ⟨Bj,0,N⟩=M (Z (M ⟨gt,X,N⟩) (C Fb) ct)/\u.cell? ⟨gt,X+v,N⟩=M (J I (d:Nat))) ao ao (fun ⟨_,_,h⟩=>h) ⟨k0,ks,c1,kt,c2⟩ ?_;intro Ba;refine cU 1 (J I (p:Nat)) ?_ ?_
  ·intro u Bh;obtain⟨y,z,g,k,A⟩:=Bh;simp only[gE];go_simp
  simp only[gE,aP];refine cU 2 (Z (M ⟨g',o',N⟩) (C Fb) ca) ?_ ?_
  ·intro u Bh;obtain⟨y,z,g,k,A⟩:=Bh;simp only[gE];go_simp
  simp only[gE,aP];refine cU 3 (J I (v:Nat)) ?_ ?_
  ·intro u Bh;obtain⟨y,z,g,k,A⟩:=Bh;simp only[gE];go_simp
  simp only[gE,aP];refine cU 4 (zR (M ⟨g',o'+v,N⟩)) ?_ ?_
  ·intro u Bh;obtain⟨y,z,g,k,A⟩:=Bh;simp only[gE];go_simp
  simp only[gE,aP];refine cU 5 (J I (f:Nat)) ?_ ?_
  ·intro u Bh;obtain⟨y,z,g,k,A⟩:=Bh;simp only[gE];go_simp
  simp only[gE,aP];refine cU 6 (J I (m:Nat)) ?_ ?_
  ·intro u Bh;obtain⟨y,z,g,k,A⟩:=Bh;simp only[gE];go_simp;rw[aC (show ¬f=0 by omega),Int.tmod_eq_emod_of_nonneg (Q9 _),Mi.o]
  simp only[gE,aP];refine cU 7 (Z (M ⟨gt,X,N⟩) (C Fb) ct) ?_ ?_
  ·intro u Bh;obtain⟨y,z,g,k,A⟩:=Bh;simp only[gE];go_simp
  simp only[gE,aP];refine cU 8 (J I (v:Nat)) ?_ ?_
  ·intro u Bh;obtain⟨y,z,g,k,A⟩:=Bh;simp only[gE];go_simp
  simp only[gE,aP];refine cU 9 (zR (M ⟨gt,X+v,N⟩)) ?_ ?_
  ·intro u Bh;obtain⟨y,z,g,k,A⟩:=Bh;simp only[gE];go_simp
  simp only[gE,aP];refine cU 10 (J I (d:Nat)) ?_ ?_
  ·intro u Bh;obtain⟨y,z,g,k,A⟩:=Bh;simp only[gE];go_simp
  simp only[gE,aP];refine cU 11 (J I ((m:Int)*(d:Int))) ?_ ?_
  ·intro u Bh;obtain⟨y,z,g,k,A⟩:=Bh;simp only[gE];go_simp
  simp only[gE,aP];refine aF [0] (cA ?_ aG);intro L Bm;simp only[gE];go_simp;refine Bm.o _ _ Ba (fun _=>?_);clear Bm L;refine cU 12 (J I ((r:Int)+(m:Int)*(d:Int))) ?_ ?_
  ·intro u Bh;obtain⟨y,z,g,k,A⟩:=Bh;simp only[gE];go_simp
  simp only[gE,aP];refine aF [13] (cA ?_ aG);intro L Bm;simp only[gE];go_simp;have S:∀(b j:Nat),¬O (T w)+1=b ->(V.setCell ⟨O (T w)+1,0,N⟩ (J I ((r:Int)+(m:Int)*(d:Int)))).drew.cell? ⟨b,j,N⟩=V.cell? ⟨b,j,N⟩:=fun b j hb=>fT _ _ _ _ (fun e=>hb (by cases e;rfl));have m0:=(S (O (T w)) 0 al).trans k0;have ms:=(S F 0 al).trans ks;have mc:=(S g' (o'+v) al).trans c1;refine Bm.o _ _ ⟨m0,ms,mc,(S Bj 0 al).trans kt,(S gt (X+v) al).trans c2⟩ (fun _=>eO ao ?_ _);clear Bm L Ba S;have q0:Boxed (V.setCell ⟨O (T w)+1,0,N⟩ (J I ((r:Int)+(m:Int)*(d:Int)))).drew (O (T w)) 3 (J I (p:Nat)):=jD h0 _ 0 _ al;have q1:Boxed (V.setCell ⟨O (T w)+1,0,N⟩ (J I ((r:Int)+(m:Int)*(d:Int)))).drew (O (T w)+1) 3 (J I ((r:Int)+(m:Int)*(d:Int))):=Bb.set _;have q4:Boxed (V.setCell ⟨O (T w)+1,0,N⟩ (J I ((r:Int)+(m:Int)*(d:Int)))).drew (O (T w)+1+1) 27 (Z b (C Fd) cb):=jD h4 _ 0 _ al;have qB:da w (V.setCell ⟨O (T w)+1,0,N⟩ (J I ((r:Int)+(m:Int)*(d:Int)))).drew:=(B9.setCell (p:=⟨O (T w)+1,0,N⟩) aE _).drew;have qK:Below (O (T w)) V (V.setCell ⟨O (T w)+1,0,N⟩ (J I ((r:Int)+(m:Int)*(d:Int)))).drew:=((au (O (T w)) V).setCell (p:=⟨O (T w)+1,0,N⟩) aE _).drew
  have qO:KeepsOthers V (V.setCell ⟨O (T w)+1,0,N⟩ (J I ((r:Int)+(m:Int)*(d:Int)))).drew:=(jJ V _ _).trans (CS _);have j4:qH (O (T w)+1+1) V (V.setCell ⟨O (T w)+1,0,N⟩ (J I ((r:Int)+(m:Int)*(d:Int)))).drew:=q4.cell.trans h4.cell.symm;have fU:=q0.frozen;generalize (V.setCell ⟨O (T w)+1,0,N⟩ (J I ((r:Int)+(m:Int)*(d:Int)))).drew=U at *;gi_wp2_with fail
  refine A7 (fun u=>u.cell? ⟨F,0,N⟩=M (Z (M ⟨g',o',N⟩) (C Fb) ca)/\u.cell? ⟨g',o'+v,N⟩=M (J I (f:Nat))) ao ao (fun ⟨_,_,h⟩=>h) ⟨ms,mc⟩ ?_;intro Ba;refine cU 1 (Z (M ⟨g',o',N⟩) (C Fb) ca) ?_ ?_
  ·intro u Bh;obtain⟨g,k⟩:=Bh;simp only[gE];go_simp
  simp only[gE,aP];refine cU 2 (J I (v:Nat)) ?_ ?_
  ·intro u Bh;obtain⟨g,k⟩:=Bh;simp only[gE];go_simp
  simp only[gE,aP];refine cU 3 (zR (M ⟨g',o'+v,N⟩)) ?_ ?_
  ·intro u Bh;obtain⟨g,k⟩:=Bh;simp only[gE];go_simp
  simp only[gE,aP];refine cU 4 (J I (f:Nat)) ?_ ?_
  ·intro u Bh;obtain⟨g,k⟩:=Bh;simp only[gE];go_simp
  simp only[gE,aP];refine aF [0] (cA ?_ aG);intro L Bm;simp only[gE];go_simp;refine Bm.o _ _ Ba (fun _=>?_);clear Bm L;refine cU 5 (J I ((p:Int)/(f:Int))) ?_ ?_
  ·intro u Bh;obtain⟨g,k⟩:=Bh;simp only[gE];go_simp;omega
  simp only[gE,aP];refine aF [6] (cA ?_ aG);intro L Bm;simp only[gE];go_simp;refine Bm.o _ _ ⟨(fT _ _ _ _ (fun e=>(show ¬O (T w)=F by omega) (eG Addr.block e))).trans ms,(fT _ _ _ _ (fun e=>(show ¬O (T w)=g' by omega) (eG Addr.block e))).trans mc⟩ (fun _=>eO ao ?_ _);clear Bm L Ba;gi_wp2
  rw[Cl.o];rw[jT.o] at q1;refine⟨(qO.trans ((jJ U _ _).trans (CS _))).from _,⟨j4.t ((jD q4 (O (T w)) 0 (J I (dd:Nat)) al).cell.trans q4.cell.symm),(qK.setCell (p:=⟨O (T w),0,N⟩) aE _).drew⟩,?_⟩;refine⟨?_,?_,jD q4 _ 0 _ al,(qB.setCell (p:=⟨O (T w),0,N⟩) aE _).drew⟩
  ·rw[ad.o];exact q0.set _
  ·rw[ad.o];exact jD q1 _ 0 _ al
 case done=>
  rintro D ys V hD Fl ⟨h0,Bb,h4,B9⟩ P;rw[Fl,xJ.o] at Bb;have hc:=Bb.cell;gi_wp2
  refine⟨aE,yd ⟨_,_,rfl,CC P,?_⟩⟩;refine⟨_,CD rfl _ _ _,?_⟩;exact⟨rfl,B9.trans (xM (w:=w) (ah _) V D _ _ al P rfl rfl)⟩
 case stop=>
  rintro D c q V _ _ h _;exact h.elim
end
variable {other:Kx} {S:Ja} {ca cb:Nat}
theorem WJ (hs:∀v,sz S v<=4):∀(vs:Ja) (v:Nat),C vs<=8 ->dN S vs v<=65536
 |[],_,_=>by simp[dN]
 |u::vs,v,h=>by
  rw[dN];have a:C vs<=8:=by simp at h;omega
  by_cases e:v=u
  ·rw[aw e];exact xm hs a
  ·rw[aC e];exact WJ hs vs v a
theorem acx (S:Ja) (n:Nat) (vs:Ja) (v:Nat):(nX S n vs).getD v 0=if v<n then dN S vs v else 0:=by
 by_cases h:v<n
 ·rw[aw h,F8 (by rw[rJ];exact h),akI S n vs h]
 ·rw[aC h,cF,iT (by rw[rJ];omega)];rfl
def pL (W:E) (n m:Nat) (f:wF) (a b:Kd) (ca cb:Nat) (Fb Fd other:Kx):Prop:=
 ∃(Bv Bs Bt g ct:Nat),f=.func (.func 215) #[] #[zR (M ⟨Bv,0,N⟩),zR (M ⟨Bs,0,N⟩),zR (M ⟨Bt,0,N⟩)]/\(n<=Bv/\n<=Bs/\n<=Bt/\n<=g)/\(Bv<m/\Bs<m/\Bt<m/\g<m)/\m<=O (T W)/\
  W.cell? ⟨Bv,0,N⟩=M (Z b (C Fd) cb)/\W.cell? ⟨Bs,0,N⟩=M (Z a (C Fb) ca)/\W.cell? ⟨Bt,0,N⟩=M (Z (M ⟨g,0,N⟩) (C Fb) ct)/\aB W (M ⟨g,0,N⟩) (iL (nX (af Fb) (C Fb) (af other)))
def Ca (n m:Nat) (W V:E):Prop:=m<=O (T V)/\∀k,n<=k ->k< m ->V.heap[k]? =W.heap[k]?
theorem Ca.of_below {W V:E} (h:da W V) (a:m<=O (T W)):Ca n m W V:=⟨aM a h.size,fun k _ b=>h.block k (aT b a)⟩
theorem Ca.set (W:E) {B:Nat} (j:Nat) (y:wF) (h:m<=O (T W)) (c:B<n∨m<=B):Ca n m W (W.setCell ⟨B,j,N⟩ y):=⟨aM h (jJ W _ _).size,fun k a b=>eW W ⟨B,j,N⟩ y k (by show k≠B;omega)⟩
theorem pL.kept {W V:E} {f:wF} {b:Kd} {Fb Fd:Kx} (h:pL W n m f a b ca cb Fb Fd other) (c:Ca n m W V):pL V n m f a b ca cb Fb Fd other:=by
 obtain⟨v,s,t,g,u,w,⟨o,p,q,r⟩,⟨i,j,l,d⟩,F,y,z,A,D⟩:=h;refine⟨v,s,t,g,u,w,⟨o,p,q,r⟩,⟨i,j,l,d⟩,c.1,(iM (c.2 v o i)).trans y,(iM (c.2 s p j)).trans z,(iM (c.2 t q l)).trans A,fun k B9=>?_⟩;obtain⟨g',o',e,Bm,x⟩:=D k B9;cases e;exact⟨g,0,rfl,aT d c.1,(iM (c.2 g r d)).trans x⟩
theorem pL.top {W:E} {f:wF} {b:Kd} {Fb Fd:Kx} (h:pL W n m f a b ca cb Fb Fd other):m<=O (T W):=by
 obtain⟨_,_,_,_,_,_,_,_,c,_⟩:=h;exact c
theorem pL.wider {W:E} {n' c:Nat} {f:wF} {b:Kd} {Fb Fd:Kx} (h:pL W n m f a b ca cb Fb Fd other) (q:n'<=n) (Bm:m<=c) (o:c<=O (T W)):pL W n' c f a b ca cb Fb Fd other:=by
 obtain⟨v,s,t,g,d,e,⟨y,z,A,D⟩,⟨r,u,w,x⟩,p,i,j,k,l⟩:=h;exact⟨v,s,t,g,d,e,⟨al,al,al,al⟩,⟨al,al,al,al⟩,o,i,j,k,l⟩
theorem pL.aa {W V:E} {f:wF} {b:Kd} {Fb Fd:Kx} (h:pL W n m f a b ca cb Fb Fd other) (c:da W V):pL V n m f a b ca cb Fb Fd other:=h.kept (Ca.of_below c h.top)
theorem pL.shape {W:E} {f:wF} {b:Kd} {Fb Fd:Kx} (h:pL W n m f a b ca cb Fb Fd other):∃lb,f=.func (.func 215) #[] lb:=by
 obtain⟨v,s,t,g,c,e,_⟩:=h;exact⟨_,e⟩
theorem pL.calls {V:E} {lb:Array wF} {b:Kd} {Fb Fd:Kx} (h:pL V n m (.func (.func 215) #[] lb) a b ca cb Fb Fd other) (hs:aB V a Fb) (c:aB V b Fd) (R:fK Fb) (d:Up Fd (C Fb)) (f:Up other (C Fb)) {K:Nat} (u:K<cnt (af Fb) (af Fd)):
  c6 215 (#[J I (K:Nat)]++lb) V (dj V (J I (pos (af Fb) (aX (af Fb) (af Fd) K) (af other):Nat))):=by
 obtain⟨j,s,t,g,k,i,_,⟨w,x,y,_⟩,z,o,p,q,r⟩:=h;simp only[Value.func.injEq,true_and] at i;rw[i];have Bm:=f.length;have A:=R.eight
 have e:=akP j s t a b _ ca cb k Fb Fd (nX (af Fb) (C Fb) (af other)) K V al al al o p q hs c r (rJ _ _ _) (fun v=>by
  rw[acx];by_cases c:v<C Fb
  ·rw[aw c];exact WJ R.sz_le _ _ (by rw[gG];omega)
  ·rw[aC c];omega) R d u d.nodup
 have l:gW (fun v=>aX (af Fb) (af Fd) K v*(nX (af Fb) (C Fb) (af other)).getD v 0) (af Fd)=pos (af Fb) (aX (af Fb) (af Fd) K) (af other):=by
  rw[<- stand (C Fb) K d.nodup f.nodup d.aa f.aa];exact Ki fun v c=>by rw[acx,aw (d.aa v c)]
 rw[l] at e;exact e
theorem WL (a b c:Kd) (ca cb cc:Nat) (Fb Fd other:Kx) (w:E) (hs:aB w a Fb) (j:aB w c other) (R:fK Fb) (y:Up other (C Fb)):
  c6 162 #[Z a (C Fb) ca,Z b (C Fd) cb,Z c (C other) cc] w fun e w'=>∃f,e=yW f/\pL w' (O (T w)) (O (T w')) f a b ca cb Fb Fd other/\da w w':=by
 have S:=Fa hs;have H:=Fa j;have A:=Fa (fun V s u=>acA a c ca cc Fb other V s u R y);clear hs j;go_enter func162,ntmps162;go_wp2_with fail
 have i:da w ((w.alloc (yM #[Z a (C Fb) ca] 27)).alloc (yM #[Z b (C Fd) cb] 27)):=((au _ w).alloc (ah _) _).alloc aE _;have m:Boxed ((w.alloc (yM #[Z a (C Fb) ca] 27)).alloc (yM #[Z b (C Fd) cb] 27)) (O (T w)) 27 (Z a (C Fb) ca):=(bF w _ _).alloc _
 have q:Boxed ((w.alloc (yM #[Z a (C Fb) ca] 27)).alloc (yM #[Z b (C Fd) cb] 27)) (O (T w)+1) 27 (Z b (C Fd) cb):=by
  have h:=bF (w.alloc (yM #[Z a (C Fb) ca] 27)) 27 (Z b (C Fd) cb);rwa [eV] at h
 have F:O (T ((w.alloc (yM #[Z a (C Fb) ca] 27)).alloc (yM #[Z b (C Fd) cb] 27)))=O (T w)+1+1:=aE
 generalize ((w.alloc (yM #[Z a (C Fb) ca] 27)).alloc (yM #[Z b (C Fd) cb] 27))=W at *;refine(A.o _ (S.o.aa i) (H.o.aa i)).ae ?_;rintro e d ⟨t,g,rfl,X,D,k⟩;have x:=k.size
 have Y:t<O (T d):=by
  obtain⟨z,Bm,r,v,_⟩:=D 0 (by rw[bR,rJ];exact R.one);cases r;exact v
 go_wp2;go_ret;have l:da d (d.alloc (yM #[Z (M ⟨t,0,N⟩) (C Fb) g] 27)):=(au _ d).alloc (ah _) _;have n:da W (d.alloc (yM #[Z (M ⟨t,0,N⟩) (C Fb) g] 27)):=k.trans (l.ae x);refine⟨_,rfl,⟨O (T w)+1,O (T w),O (T d),t,g,rfl,⟨al,al,al,al⟩,⟨by simp;omega,by simp;omega,aE,by simp;omega⟩,ah _,(n.cell (p:=⟨O (T w)+1,0,N⟩) (by simp;omega)).trans q.cell,(n.cell (p:=⟨O (T w),0,N⟩) (by simp;omega)).trans m.cell,(bF d 27 _).cell,D.aa l⟩,i.trans (n.ae al)⟩
variable {f:Nat ->Nat} {y:wF}
theorem qQ (f:Nat ->Nat) (d:∀u,f u<sz S u):∀vs:Ja,pos S f vs<cnt S vs:=by
 intro vs
 have e:∀(vs:Ja) (k c:Nat),k< c ->vs.foldl (fun k v=>k*sz S v+f v) k<c*cnt S vs:=by
  intro vs;induction vs with
  |nil=>intro k c h;simpa [cnt] using h
  |cons u vs ih=>
   intro k c h
   have a:k*sz S u+f u<c*sz S u:=by
    have b:(k+1)*sz S u<=c*sz S u:=lR _ h;have g:=d u;rw[iC,k8] at b;omega
   have:=ih _ _ a;rwa [jr] at this
 have:=e vs 0 1 al;rwa [k8] at this
theorem sD (p:Pos S):∀(vs:Ja) (k v:Nat),k<cnt S vs ->aX S vs k v<sz S v
 |[],_,v,_=>lp p v
 |u::vs,k,v,h=>by
  rw[aX];by_cases e:v=u
  ·rw[aw e,e];exact(Nat.div_lt_iff_lt_mul (LS p vs)).2 h
  ·rw[aC e];exact sD p vs _ v (jc _ (LS p vs))
def aO (f:Nat ->Nat) (v x:Nat):Nat ->Nat:=fun u=>if u=v then x else f u
theorem acs {g h:Nat ->Nat} (b:g v=0) (a:∀u,¬u=v ->h u=g u):∀ {l:Ja},l.Nodup ->gW h l=gW g l+if v∈l then h v else 0
 |[],_=>by simp[gW]
 |u::l,hn=>by
  rw[nS] at hn;rw[gW,gW,acs b a hn.2];by_cases e:u=v
  ·subst e;rw[aC hn.1,aw dJ,b];omega
  ·rw[a u e];(have:v∈u::l↔v∈l:=by rw[bY];exact⟨fun h=>h.elim (fun h=>absurd h.symm e) id,yk⟩);simp only[this];omega
theorem amq (x:Nat) (a:f v=0) {other:Ja} (n:other.Nodup):pos S f other+x*dN S other v=pos S (aO f v x) other:=by
 rw[RX S f n,RX S (aO f v x) n,acs (g:=fun u=>f u*dN S other u) (h:=fun u=>aO f v x u*dN S other u) (v:=v) (by show f v*_=0;rw[a,oN]) (fun u b=>by show aO f v x u*_=f u*_;rw[aO,aC b]) n];congr 1
 by_cases h:v∈other
 ·rw[aw h];show _=aO f v x v*_;rw[aO,aw rfl]
 ·rw[aC h,WI h,lQ]
def xq (W:E) (n m:Nat) (f:wF) (a b:Kd) (ca cb:Nat) (Fb Fd other:Kx) (v:Nat):Prop:=
 ∃(Bf Bt:Nat) (g:wF),f=.func (.func 219) #[] #[zR (M ⟨Bf,0,N⟩),zR (M ⟨Bt,0,N⟩)]/\n<=Bf/\n<=Bt/\Bf<m/\Bt<m/\m<=O (T W)/\
  W.cell? ⟨Bf,0,N⟩=M g/\W.cell? ⟨Bt,0,N⟩=M (J I (dN (af Fb) (af other) v:Nat))/\pL W n m g a b ca cb Fb Fd other
theorem xq.kept {W V:E} {f:wF} {b:Kd} {Fb Fd:Kx} (h:xq W n m f a b ca cb Fb Fd other v) (k:Ca n m W V):xq V n m f a b ca cb Fb Fd other v:=by
 obtain⟨c,t,g,l,i,j,d,e,_,o,p,q⟩:=h;exact⟨c,t,g,l,i,j,d,e,k.1,(iM (k.2 c i d)).trans o,(iM (k.2 t j e)).trans p,q.kept k⟩
theorem ago {u:E} {p q:Addr} {x:wF} (b:da w u) (a:p.block<O (T w)) (c:q.block<O (T w)) (h1:w.cell? p=M x) (h:w.cell? q=M y):(u.cell? p=M x/\u.cell? q=M y)/\wT (da w u):=⟨⟨(b.cell a).trans h1,(b.cell c).trans h⟩,b⟩
theorem akO (f t:Nat) (lb:Array wF) (K val P s:Nat) (w:E) (D:f<O (T w)) (h1:w.cell? ⟨f,0,N⟩=M (.func (.func 215) #[] lb)) (X:t<O (T w)) (a:w.cell? ⟨t,0,N⟩=M (J I (s:Nat))) (b:∀V,da w V ->c6 215 (#[J I (K:Nat)]++lb) V fun e w'=>e=yW (J I (P:Nat))/\da V w') (m:P<=65536) (l:val<=4) (i:s<=65536):
  c6 219 #[J I (K:Nat),J I (val:Nat),zR (M ⟨f,0,N⟩),zR (M ⟨t,0,N⟩)] w (dj w (J I (P+val*s:Nat))):=by
 have H:=Fa b;have k:val*s<=262144:=aM (kN l i) a6;have c:(val:Int)*(s:Int)=((val*s:Nat):Int):=(mP _ _).symm;have p:IntKind.i64.wrap ((val:Int)*(s:Int))=(val:Int)*(s:Int):=by rw[c,js];omega
 have q:IntKind.i64.wrap ((P:Int)+(val:Int)*(s:Int))=(P:Int)+(val:Int)*(s:Int):=by rw[c,js];omega
 have j:wT ((P:Int)+(val:Int)*(s:Int)=((P+val*s:Nat):Int)):=by show _=_;rw[c];exact(ET _ _).symm
 have h:da w w.drew:=(au (O (T w)) w).drew;clear b c;go_enter func219,ntmps219;go_upto_region 1 with fail
 go_region_held3 (fun u=>(u.cell? ⟨f,0,N⟩=M (.func (.func 215) #[] lb)/\u.cell? ⟨t,0,N⟩=M (J I (s:Nat)))/\wT (da w u))
  (first |exact ago d D X h1 a |exact ago h D X h1 a)
  (first
   |(go_at_call 215;refine(H.o _ h).ae ?_;rintro e n ⟨rfl,g⟩;have d:=h.trans (g.ae h.size)))
 go_wp2;go_ret;exact⟨by rw[j.o];rfl,d⟩
theorem xq.calls {V:E} {lb:Array wF} {b:Kd} {Fb Fd:Kx} (h:xq V n m (.func (.func 219) #[] lb) a b ca cb Fb Fd other v) (hs:aB V a Fb) (p:aB V b Fd) (R:fK Fb) (k:Up Fd (C Fb)) (f:Up other (C Fb)) (q:¬v∈af Fd) {K val:Nat} (e:K<cnt (af Fb) (af Fd)) (s:val<=4):
  c6 219 (#[J I (K:Nat),J I (val:Nat)]++lb) V (dj V (J I (pos (af Fb) (aO (aX (af Fb) (af Fd) K) v val) (af other):Nat))):=by
 obtain⟨j,t,g,i,_,_,w,x,z,l,o,d⟩:=h;simp only[Value.func.injEq,true_and] at i;rw[i];obtain⟨r,rfl⟩:=d.shape;have Bm:=f.length;have A:=R.eight;have P:=qQ (S:=af Fb) (aX (af Fb) (af Fd) K) (fun u=>sD R.pos (af Fd) K u e) (af other);have y:=xm R.sz_le (vs:=af other) (by rw[gG];omega);rw[<- amq val (LX q) f.nodup];exact akO j t r K val _ _ V al l al o (fun V' c=>(d.aa c).calls (hs.aa c) (p.aa c) R k f e) al s (WJ R.sz_le _ _ (by rw[gG];omega))
theorem xQ {P:Program} {S S':E ->Prop} (c:∀w,S' w ->S w):∀(fuel:Nat) (d:Array Bool) (a:Act) (w:E),wpAnyH P md ops Q S' fuel d a w ->wpAnyH P md ops Q S fuel d a w
 |0,_,_,_,h=>h
 |fuel+1,_,_,_,h=>⟨h.1,fun i f=>wpOp_mono (fun e w' b=>⟨c _ b.1,xQ c fuel _ e w' b.2⟩) (h.2 i f)⟩
theorem aii {u:E} (h:da w u) (B j:Nat) (y:wF) (a:O (T w)<=B):da w (u.setCell ⟨B,j,N⟩ y):=h.setCell (p:=⟨B,j,N⟩) a y
theorem bI {W V:E} {B:Nat} {t:TypeId} {x:wF} (h:Boxed W B t x) (b:da W V):Boxed V B t x:=(b.block B h.lt).trans h
theorem zG {other:Ja} (h:v<n):(iL (nX S n other))[v]'(by rw[bR,rJ];exact h)=((dN S other v:Nat):Int):=by simp[iL,nX]
theorem acD (a b c:Kd) (ca cb cc:Nat) (Fb Fd other:Kx) (v:Nat) (w:E) (hs:aB w a Fb) (ho:aB w c other) (aR:fK Fb) (yf:Up other (C Fb)) (Bm:v<C Fb):
  c6 167 #[Z a (C Fb) ca,Z b (C Fd) cb,Z c (C other) cc,J I (v:Nat)] w fun e w'=>∃f,e=yW f/\xq w' (O (T w)) (O (T w')) f a b ca cb Fb Fd other v/\da w w':=by
 have Bb:=Fa hs;have B9:=Fa ho;have Y:=Fa (fun V h1 h2=>acA a c ca cc Fb other V h1 h2 aR yf);have HB:=Fa (fun V h1 h2=>WL a b c ca cb cc Fb Fd other V h1 h2 aR yf);have uu:=aR.eight;have aj:(0:Int)<=(v:Int):=al
 have po:(v:Int)<(C Fb:Int):=al
 clear hs ho;go_enter func167,ntmps167;go_upto_region 1 with fail
 have i:da w w.drew:=(au (O (T w)) w).drew;refine iK (S:=fun u=>wT (da w u)) ao i (fun q=>?_);generalize w.drew=H at *;refine ar 0 (Z a (C Fb) ca) ?_;refine ar 1 (Z b (C Fd) cb) ?_;refine ar 2 (Z c (C other) cc) ?_;refine ar 4 (Z a (C Fb) ca) ?_;refine ar 5 (Z c (C other) cc) ?_;refine ar 7 (J I (v:Nat)) ?_;refine aF [3,10,11] (cA ?_ (cA ?_ (cA ?_ aG)))
 focus
  intro k K;go_simp;refine(HB.o _ (Bb.o.aa i) (B9.o.aa i)).ae ?_;rintro e u1 ⟨f,rfl,F,d⟩;obtain⟨lb,rfl⟩:=F.shape;have X:=i.size;replace i:=i.trans (d.ae i.size);clear q;refine K.o _ _ i (fun q=>?_);clear K k;have om:O (T w)<=O (T H):=X;have Q:=F.top;generalize (O (T H))=L at F X om⊢;generalize hm1:O (T u1)=D at F Q;rw[<- hm1] at Q;have t:D<=O (T u1):=al
  clear d hm1;refine aF [6,10,11] (cA ?_ (cA ?_ (cA ?_ aG)))
  focus
   intro k K;go_simp;refine(Y.o _ (Bb.o.aa i) (B9.o.aa i)).ae ?_;rintro e u2 ⟨g,B7,rfl,Bh,z,d⟩;replace i:=i.trans (d.ae i.size);replace F:=F.aa d;replace t:=aM t d.size;clear q;refine K.o _ _ i (fun q=>?_);clear K k;obtain⟨g3,o3,Bj,y,cv⟩:=z v (by rw[bR,rJ];exact Bm);cases Bj;rw[zG Bm,bQ] at cv;clear d z Bh q;(try simp only[gE,aP]);refine xQ (S':=fun u=>wT (da w u)/\u.cell? ⟨g,v,N⟩=M (J I (dN (af Fb) (af other) v:Nat))) (fun _ h=>h.1) _ _ _ _ ?_;have q:wT (da w u2)/\u2.cell? ⟨g,v,N⟩=M (J I (dN (af Fb) (af other) v:Nat)):=⟨i,cv⟩;refine ar 8 (zR (M ⟨g,v,N⟩)) ?_;refine ar 9 (J I (dN (af Fb) (af other) v:Nat)) ?_;refine aF [10,11] (cA ?_ (cA ?_ aG))
   focus
    intro k K;go_simp;have d:da u2 (u2.alloc (yM #[z7] 187)):=(au _ u2).alloc (ah _) _;have n:Boxed (u2.alloc (yM #[z7] 187)) (O (T u2)) 187 (z7):=bF u2 _ _;(have l:O (T u2)<O (T (u2.alloc (yM #[z7] 187))):=aE);have w9:=i.size;replace i:=i.trans (d.ae i.size);replace F:=F.aa d;have P:O (T u2)<L∨D<=O (T u2):=yk t;replace t:=aM t d.size;(have R:¬O (T u2)=g:=al);replace cv:=(d.cell (p:=⟨g,v,N⟩) y).trans cv;replace y:=aT y d.size;refine K.o _ _ ⟨i,cv⟩ (fun q=>?_);clear K k d;generalize (u2.alloc (yM #[z7] 187))=j at *;generalize (O (T u2))=s at *;refine aF [11] (cA ?_ aG);intro k K;go_simp;have d:da j (j.alloc (yM #[J I 0] 3)):=(au _ j).alloc (ah _) _;have r:Boxed (j.alloc (yM #[J I 0] 3)) (O (T j)) 3 (J I 0):=bF j _ _;(have m:O (T j)<O (T (j.alloc (yM #[J I 0] 3))):=aE);have dF:=i.size;replace i:=i.trans (d.ae i.size);replace n:=bI n d;(have ne:¬s=O (T j):=al);replace l:=aT l d.size;replace F:=F.aa d;have U:O (T j)<L∨D<=O (T j):=yk t;replace t:=aM t d.size;(have Ba:¬O (T j)=g:=al);replace cv:=(d.cell (p:=⟨g,v,N⟩) y).trans cv;replace y:=aT y d.size;refine K.o _ _ ⟨i,cv⟩ (fun q=>?_);clear K k d;generalize (j.alloc (yM #[J I 0] 3))=A at *;generalize (O (T j))=x at *
   rotate_left
   focus
    intro k K;go_simp;have d:da u2 (u2.alloc (yM #[J I 0] 3)):=(au _ u2).alloc (ah _) _;have r:Boxed (u2.alloc (yM #[J I 0] 3)) (O (T u2)) 3 (J I 0):=bF u2 _ _;(have m:O (T u2)<O (T (u2.alloc (yM #[J I 0] 3))):=aE);have dF:=i.size;replace i:=i.trans (d.ae i.size);replace F:=F.aa d;have U:O (T u2)<L∨D<=O (T u2):=yk t;replace t:=aM t d.size;(have Ba:¬O (T u2)=g:=al);replace cv:=(d.cell (p:=⟨g,v,N⟩) y).trans cv;replace y:=aT y d.size;refine K.o _ _ ⟨i,cv⟩ (fun q=>?_);clear K k d;generalize (u2.alloc (yM #[J I 0] 3))=j at *;generalize (O (T u2))=x at *;refine aF [10] (cA ?_ aG);intro k K;go_simp;have d:da j (j.alloc (yM #[z7] 187)):=(au _ j).alloc (ah _) _;have n:Boxed (j.alloc (yM #[z7] 187)) (O (T j)) 187 (z7):=bF j _ _;(have l:O (T j)<O (T (j.alloc (yM #[z7] 187))):=aE);have w9:=i.size;replace i:=i.trans (d.ae i.size);replace r:=bI r d;(have ne:¬x=O (T j):=al);replace m:=aT m d.size;replace F:=F.aa d;have P:O (T j)<L∨D<=O (T j):=yk t;replace t:=aM t d.size;(have R:¬O (T j)=g:=al);replace cv:=(d.cell (p:=⟨g,v,N⟩) y).trans cv;replace y:=aT y d.size;refine K.o _ _ ⟨i,cv⟩ (fun q=>?_);clear K k d;generalize (j.alloc (yM #[z7] 187))=A at *;generalize (O (T j))=s at *
  rotate_left 2
  focus
   intro k K;go_simp;have d:da u1 (u1.alloc (yM #[z7] 187)):=(au _ u1).alloc (ah _) _;have n:Boxed (u1.alloc (yM #[z7] 187)) (O (T u1)) 187 (z7):=bF u1 _ _;(have l:O (T u1)<O (T (u1.alloc (yM #[z7] 187))):=aE);have w9:=i.size;replace i:=i.trans (d.ae i.size);replace F:=F.aa d;have P:O (T u1)<L∨D<=O (T u1):=yk t;replace t:=aM t d.size;refine K.o _ _ i (fun q=>?_);clear K k d;generalize (u1.alloc (yM #[z7] 187))=u2 at *;generalize (O (T u1))=s at *;refine aF [6,11] (cA ?_ (cA ?_ aG))
   focus
    intro k K;go_simp;refine(Y.o _ (Bb.o.aa i) (B9.o.aa i)).ae ?_;rintro e j ⟨g,B7,rfl,Bh,z,d⟩;replace i:=i.trans (d.ae i.size);replace F:=F.aa d;replace t:=aM t d.size;clear q;refine K.o _ _ i (fun q=>?_);clear K k;obtain⟨g3,o3,Bj,y,cv⟩:=z v (by rw[bR,rJ];exact Bm);cases Bj;rw[zG Bm,bQ] at cv;replace n:=bI n d;(have R:¬s=g:=al);replace l:=aT l d.size;clear d z Bh q;(try simp only[gE,aP]);refine xQ (S':=fun u=>wT (da w u)/\u.cell? ⟨g,v,N⟩=M (J I (dN (af Fb) (af other) v:Nat))) (fun _ h=>h.1) _ _ _ _ ?_;have q:wT (da w j)/\j.cell? ⟨g,v,N⟩=M (J I (dN (af Fb) (af other) v:Nat)):=⟨i,cv⟩;refine ar 8 (zR (M ⟨g,v,N⟩)) ?_;refine ar 9 (J I (dN (af Fb) (af other) v:Nat)) ?_;refine aF [11] (cA ?_ aG);intro k K;go_simp;have d:da j (j.alloc (yM #[J I 0] 3)):=(au _ j).alloc (ah _) _;have r:Boxed (j.alloc (yM #[J I 0] 3)) (O (T j)) 3 (J I 0):=bF j _ _;(have m:O (T j)<O (T (j.alloc (yM #[J I 0] 3))):=aE);have dF:=i.size;replace i:=i.trans (d.ae i.size);replace n:=bI n d;(have ne:¬s=O (T j):=al);replace l:=aT l d.size;replace F:=F.aa d;have U:O (T j)<L∨D<=O (T j):=yk t;replace t:=aM t d.size;(have Ba:¬O (T j)=g:=al);replace cv:=(d.cell (p:=⟨g,v,N⟩) y).trans cv;replace y:=aT y d.size
    refine K.o _ _ ⟨i,cv⟩ (fun q=>?_);clear K k d;generalize (j.alloc (yM #[J I 0] 3))=A at *;generalize (O (T j))=x at *
   rotate_left
   focus
    intro k K;go_simp;have d:da u2 (u2.alloc (yM #[J I 0] 3)):=(au _ u2).alloc (ah _) _;have r:Boxed (u2.alloc (yM #[J I 0] 3)) (O (T u2)) 3 (J I 0):=bF u2 _ _;(have m:O (T u2)<O (T (u2.alloc (yM #[J I 0] 3))):=aE);have dF:=i.size;replace i:=i.trans (d.ae i.size);replace n:=bI n d;(have ne:¬s=O (T u2):=al);replace l:=aT l d.size;replace F:=F.aa d;have U:O (T u2)<L∨D<=O (T u2):=yk t;replace t:=aM t d.size;refine K.o _ _ i (fun q=>?_);clear K k d;generalize (u2.alloc (yM #[J I 0] 3))=j at *;generalize (O (T u2))=x at *;refine aF [6] (cA ?_ aG);intro k K;go_simp;refine(Y.o _ (Bb.o.aa i) (B9.o.aa i)).ae ?_;rintro e A ⟨g,B7,rfl,Bh,z,d⟩;replace i:=i.trans (d.ae i.size);replace F:=F.aa d;replace t:=aM t d.size;clear q;refine K.o _ _ i (fun q=>?_);clear K k;obtain⟨g3,o3,Bj,y,cv⟩:=z v (by rw[bR,rJ];exact Bm);cases Bj;rw[zG Bm,bQ] at cv;replace n:=bI n d;(have R:¬s=g:=al);replace l:=aT l d.size;replace r:=bI r d;(have Ba:¬x=g:=al);replace m:=aT m d.size;clear d z Bh q;(try simp only[gE,aP]);refine xQ (S':=fun u=>wT (da w u)/\u.cell? ⟨g,v,N⟩=M (J I (dN (af Fb) (af other) v:Nat))) (fun _ h=>h.1) _ _ _ _ ?_;have q:wT (da w A)/\A.cell? ⟨g,v,N⟩=M (J I (dN (af Fb) (af other) v:Nat)):=⟨i,cv⟩
    refine ar 8 (zR (M ⟨g,v,N⟩)) ?_;refine ar 9 (J I (dN (af Fb) (af other) v:Nat)) ?_
  rotate_left 2
  focus
   intro k K;go_simp;have d:da u1 (u1.alloc (yM #[J I 0] 3)):=(au _ u1).alloc (ah _) _;have r:Boxed (u1.alloc (yM #[J I 0] 3)) (O (T u1)) 3 (J I 0):=bF u1 _ _;(have m:O (T u1)<O (T (u1.alloc (yM #[J I 0] 3))):=aE);have dF:=i.size;replace i:=i.trans (d.ae i.size);replace F:=F.aa d;have U:O (T u1)<L∨D<=O (T u1):=yk t;replace t:=aM t d.size;refine K.o _ _ i (fun q=>?_);clear K k d;generalize (u1.alloc (yM #[J I 0] 3))=u2 at *;generalize (O (T u1))=x at *;refine aF [6,10] (cA ?_ (cA ?_ aG))
   focus
    intro k K;go_simp;refine(Y.o _ (Bb.o.aa i) (B9.o.aa i)).ae ?_;rintro e j ⟨g,B7,rfl,Bh,z,d⟩;replace i:=i.trans (d.ae i.size);replace F:=F.aa d;replace t:=aM t d.size;clear q;refine K.o _ _ i (fun q=>?_);clear K k;obtain⟨g3,o3,Bj,y,cv⟩:=z v (by rw[bR,rJ];exact Bm);cases Bj;rw[zG Bm,bQ] at cv;replace r:=bI r d;(have Ba:¬x=g:=al);replace m:=aT m d.size;clear d z Bh q;(try simp only[gE,aP]);refine xQ (S':=fun u=>wT (da w u)/\u.cell? ⟨g,v,N⟩=M (J I (dN (af Fb) (af other) v:Nat))) (fun _ h=>h.1) _ _ _ _ ?_;have q:wT (da w j)/\j.cell? ⟨g,v,N⟩=M (J I (dN (af Fb) (af other) v:Nat)):=⟨i,cv⟩;refine ar 8 (zR (M ⟨g,v,N⟩)) ?_;refine ar 9 (J I (dN (af Fb) (af other) v:Nat)) ?_;refine aF [10] (cA ?_ aG);intro k K;go_simp;have d:da j (j.alloc (yM #[z7] 187)):=(au _ j).alloc (ah _) _;have n:Boxed (j.alloc (yM #[z7] 187)) (O (T j)) 187 (z7):=bF j _ _;(have l:O (T j)<O (T (j.alloc (yM #[z7] 187))):=aE);have w9:=i.size;replace i:=i.trans (d.ae i.size);replace r:=bI r d;(have ne:¬x=O (T j):=al);replace m:=aT m d.size;replace F:=F.aa d;have P:O (T j)<L∨D<=O (T j):=yk t;replace t:=aM t d.size;(have R:¬O (T j)=g:=al);replace cv:=(d.cell (p:=⟨g,v,N⟩) y).trans cv;replace y:=aT y d.size
    refine K.o _ _ ⟨i,cv⟩ (fun q=>?_);clear K k d;generalize (j.alloc (yM #[z7] 187))=A at *;generalize (O (T j))=s at *
   rotate_left
   focus
    intro k K;go_simp;have d:da u2 (u2.alloc (yM #[z7] 187)):=(au _ u2).alloc (ah _) _;have n:Boxed (u2.alloc (yM #[z7] 187)) (O (T u2)) 187 (z7):=bF u2 _ _;(have l:O (T u2)<O (T (u2.alloc (yM #[z7] 187))):=aE);have w9:=i.size;replace i:=i.trans (d.ae i.size);replace r:=bI r d;(have ne:¬x=O (T u2):=al);replace m:=aT m d.size;replace F:=F.aa d;have P:O (T u2)<L∨D<=O (T u2):=yk t;replace t:=aM t d.size;refine K.o _ _ i (fun q=>?_);clear K k d;generalize (u2.alloc (yM #[z7] 187))=j at *;generalize (O (T u2))=s at *;refine aF [6] (cA ?_ aG);intro k K;go_simp;refine(Y.o _ (Bb.o.aa i) (B9.o.aa i)).ae ?_;rintro e A ⟨g,B7,rfl,Bh,z,d⟩;replace i:=i.trans (d.ae i.size);replace F:=F.aa d;replace t:=aM t d.size;clear q;refine K.o _ _ i (fun q=>?_);clear K k;obtain⟨g3,o3,Bj,y,cv⟩:=z v (by rw[bR,rJ];exact Bm);cases Bj;rw[zG Bm,bQ] at cv;replace n:=bI n d;(have R:¬s=g:=al);replace l:=aT l d.size;replace r:=bI r d;(have Ba:¬x=g:=al);replace m:=aT m d.size;clear d z Bh q;(try simp only[gE,aP]);refine xQ (S':=fun u=>wT (da w u)/\u.cell? ⟨g,v,N⟩=M (J I (dN (af Fb) (af other) v:Nat))) (fun _ h=>h.1) _ _ _ _ ?_;have q:wT (da w A)/\A.cell? ⟨g,v,N⟩=M (J I (dN (af Fb) (af other) v:Nat)):=⟨i,cv⟩
    refine ar 8 (zR (M ⟨g,v,N⟩)) ?_;refine ar 9 (J I (dN (af Fb) (af other) v:Nat)) ?_
 rotate_left 6
 focus
  intro k K;go_simp;have d:da H (H.alloc (yM #[z7] 187)):=(au _ H).alloc (ah _) _;have n:Boxed (H.alloc (yM #[z7] 187)) (O (T H)) 187 (z7):=bF H _ _;have l:O (T H)<O (T (H.alloc (yM #[z7] 187))):=aE
  have w9:=i.size;replace i:=i.trans (d.ae i.size);refine K.o _ _ i (fun q=>?_);clear K k d;generalize (H.alloc (yM #[z7] 187))=u1 at *;generalize (O (T H))=s at *;refine aF [3,11] (cA ?_ (cA ?_ aG))
  focus
   intro k K;go_simp;refine(HB.o _ (Bb.o.aa i) (B9.o.aa i)).ae ?_;rintro e u2 ⟨f,rfl,F,d⟩;obtain⟨lb,rfl⟩:=F.shape;have X:=i.size;replace i:=i.trans (d.ae i.size);clear q;refine K.o _ _ i (fun q=>?_);clear K k;replace n:=bI n d;have P:s<O (T u1)∨O (T u2)<=s:=yd l;replace l:=aT l d.size;have om:O (T w)<=O (T u1):=X;have Q:=F.top;generalize (O (T u1))=L at F X om P⊢;generalize hm1:O (T u2)=D at F Q P;rw[<- hm1] at Q;(have t:D<=O (T u2):=al);clear d hm1;refine aF [6,11] (cA ?_ (cA ?_ aG))
   focus
    intro k K;go_simp;refine(Y.o _ (Bb.o.aa i) (B9.o.aa i)).ae ?_;rintro e j ⟨g,B7,rfl,Bh,z,d⟩;replace i:=i.trans (d.ae i.size);replace F:=F.aa d;replace t:=aM t d.size;clear q;refine K.o _ _ i (fun q=>?_);clear K k;obtain⟨g3,o3,Bj,y,cv⟩:=z v (by rw[bR,rJ];exact Bm);cases Bj;rw[zG Bm,bQ] at cv;replace n:=bI n d;(have R:¬s=g:=al);replace l:=aT l d.size;clear d z Bh q;(try simp only[gE,aP]);refine xQ (S':=fun u=>wT (da w u)/\u.cell? ⟨g,v,N⟩=M (J I (dN (af Fb) (af other) v:Nat))) (fun _ h=>h.1) _ _ _ _ ?_;have q:wT (da w j)/\j.cell? ⟨g,v,N⟩=M (J I (dN (af Fb) (af other) v:Nat)):=⟨i,cv⟩;refine ar 8 (zR (M ⟨g,v,N⟩)) ?_;refine ar 9 (J I (dN (af Fb) (af other) v:Nat)) ?_;refine aF [11] (cA ?_ aG);intro k K;go_simp;have d:da j (j.alloc (yM #[J I 0] 3)):=(au _ j).alloc (ah _) _;have r:Boxed (j.alloc (yM #[J I 0] 3)) (O (T j)) 3 (J I 0):=bF j _ _;(have m:O (T j)<O (T (j.alloc (yM #[J I 0] 3))):=aE);have dF:=i.size;replace i:=i.trans (d.ae i.size);replace n:=bI n d;(have ne:¬s=O (T j):=al);replace l:=aT l d.size;replace F:=F.aa d;have U:O (T j)<L∨D<=O (T j):=yk t;replace t:=aM t d.size;(have Ba:¬O (T j)=g:=al);replace cv:=(d.cell (p:=⟨g,v,N⟩) y).trans cv;replace y:=aT y d.size
    refine K.o _ _ ⟨i,cv⟩ (fun q=>?_);clear K k d;generalize (j.alloc (yM #[J I 0] 3))=A at *;generalize (O (T j))=x at *
   rotate_left
   focus
    intro k K;go_simp;have d:da u2 (u2.alloc (yM #[J I 0] 3)):=(au _ u2).alloc (ah _) _;have r:Boxed (u2.alloc (yM #[J I 0] 3)) (O (T u2)) 3 (J I 0):=bF u2 _ _;(have m:O (T u2)<O (T (u2.alloc (yM #[J I 0] 3))):=aE);have dF:=i.size;replace i:=i.trans (d.ae i.size);replace n:=bI n d;(have ne:¬s=O (T u2):=al);replace l:=aT l d.size;replace F:=F.aa d;have U:O (T u2)<L∨D<=O (T u2):=yk t;replace t:=aM t d.size;refine K.o _ _ i (fun q=>?_);clear K k d;generalize (u2.alloc (yM #[J I 0] 3))=j at *;generalize (O (T u2))=x at *;refine aF [6] (cA ?_ aG);intro k K;go_simp;refine(Y.o _ (Bb.o.aa i) (B9.o.aa i)).ae ?_;rintro e A ⟨g,B7,rfl,Bh,z,d⟩;replace i:=i.trans (d.ae i.size);replace F:=F.aa d;replace t:=aM t d.size;clear q;refine K.o _ _ i (fun q=>?_);clear K k;obtain⟨g3,o3,Bj,y,cv⟩:=z v (by rw[bR,rJ];exact Bm);cases Bj;rw[zG Bm,bQ] at cv;replace n:=bI n d;(have R:¬s=g:=al);replace l:=aT l d.size;replace r:=bI r d;(have Ba:¬x=g:=al);replace m:=aT m d.size;clear d z Bh q;(try simp only[gE,aP]);refine xQ (S':=fun u=>wT (da w u)/\u.cell? ⟨g,v,N⟩=M (J I (dN (af Fb) (af other) v:Nat))) (fun _ h=>h.1) _ _ _ _ ?_;have q:wT (da w A)/\A.cell? ⟨g,v,N⟩=M (J I (dN (af Fb) (af other) v:Nat)):=⟨i,cv⟩
    refine ar 8 (zR (M ⟨g,v,N⟩)) ?_;refine ar 9 (J I (dN (af Fb) (af other) v:Nat)) ?_
  rotate_left 2
  focus
   intro k K;go_simp;have d:da u1 (u1.alloc (yM #[J I 0] 3)):=(au _ u1).alloc (ah _) _;have r:Boxed (u1.alloc (yM #[J I 0] 3)) (O (T u1)) 3 (J I 0):=bF u1 _ _;(have m:O (T u1)<O (T (u1.alloc (yM #[J I 0] 3))):=aE);have dF:=i.size;replace i:=i.trans (d.ae i.size);replace n:=bI n d;(have ne:¬s=O (T u1):=al);replace l:=aT l d.size;refine K.o _ _ i (fun q=>?_);clear K k d;generalize (u1.alloc (yM #[J I 0] 3))=u2 at *;generalize (O (T u1))=x at *;refine aF [3] (cA ?_ aG);intro k K;go_simp;refine(HB.o _ (Bb.o.aa i) (B9.o.aa i)).ae ?_;rintro e j ⟨f,rfl,F,d⟩;obtain⟨lb,rfl⟩:=F.shape;have X:=i.size;replace i:=i.trans (d.ae i.size);clear q;refine K.o _ _ i (fun q=>?_);clear K k;replace n:=bI n d;have P:s<O (T u2)∨O (T j)<=s:=yd l;replace l:=aT l d.size;replace r:=bI r d;have U:x<O (T u2)∨O (T j)<=x:=yd m;replace m:=aT m d.size;have om:O (T w)<=O (T u2):=X;have Q:=F.top;generalize (O (T u2))=L at F X om P U⊢;generalize hm1:O (T j)=D at F Q P U;rw[<- hm1] at Q;(have t:D<=O (T j):=al);clear d hm1;refine aF [6] (cA ?_ aG);intro k K;go_simp;refine(Y.o _ (Bb.o.aa i) (B9.o.aa i)).ae ?_;rintro e A ⟨g,B7,rfl,Bh,z,d⟩;replace i:=i.trans (d.ae i.size);replace F:=F.aa d;replace t:=aM t d.size;refine K.o _ _ i (fun ak=>?_)
   clear K k q;have q:=ak;clear ak;obtain⟨g3,o3,Bj,y,cv⟩:=z v (by rw[bR,rJ];exact Bm);cases Bj;rw[zG Bm,bQ] at cv;replace n:=bI n d;(have R:¬s=g:=al);replace l:=aT l d.size;replace r:=bI r d;(have Ba:¬x=g:=al);replace m:=aT m d.size;clear d z Bh q;(try simp only[gE,aP]);refine xQ (S':=fun u=>wT (da w u)/\u.cell? ⟨g,v,N⟩=M (J I (dN (af Fb) (af other) v:Nat))) (fun _ h=>h.1) _ _ _ _ ?_;have q:wT (da w A)/\A.cell? ⟨g,v,N⟩=M (J I (dN (af Fb) (af other) v:Nat)):=⟨i,cv⟩;refine ar 8 (zR (M ⟨g,v,N⟩)) ?_;refine ar 9 (J I (dN (af Fb) (af other) v:Nat)) ?_
 rotate_left 3
 focus
  intro k K;go_simp;have d:da H (H.alloc (yM #[J I 0] 3)):=(au _ H).alloc (ah _) _;have r:Boxed (H.alloc (yM #[J I 0] 3)) (O (T H)) 3 (J I 0):=bF H _ _;have m:O (T H)<O (T (H.alloc (yM #[J I 0] 3))):=aE
  have dF:=i.size;replace i:=i.trans (d.ae i.size);refine K.o _ _ i (fun q=>?_);clear K k d;generalize (H.alloc (yM #[J I 0] 3))=u1 at *;generalize (O (T H))=x at *;refine aF [3,10] (cA ?_ (cA ?_ aG))
  focus
   intro k K;go_simp;refine(HB.o _ (Bb.o.aa i) (B9.o.aa i)).ae ?_;rintro e u2 ⟨f,rfl,F,d⟩;obtain⟨lb,rfl⟩:=F.shape;have X:=i.size;replace i:=i.trans (d.ae i.size);clear q;refine K.o _ _ i (fun q=>?_);clear K k;replace r:=bI r d;have U:x<O (T u1)∨O (T u2)<=x:=yd m;replace m:=aT m d.size;have om:O (T w)<=O (T u1):=X;have Q:=F.top;generalize (O (T u1))=L at F X om U⊢;generalize hm1:O (T u2)=D at F Q U;rw[<- hm1] at Q;(have t:D<=O (T u2):=al);clear d hm1;refine aF [6,10] (cA ?_ (cA ?_ aG))
   focus
    intro k K;go_simp;refine(Y.o _ (Bb.o.aa i) (B9.o.aa i)).ae ?_;rintro e j ⟨g,B7,rfl,Bh,z,d⟩;replace i:=i.trans (d.ae i.size);replace F:=F.aa d;replace t:=aM t d.size;clear q;refine K.o _ _ i (fun q=>?_);clear K k;obtain⟨g3,o3,Bj,y,cv⟩:=z v (by rw[bR,rJ];exact Bm);cases Bj;rw[zG Bm,bQ] at cv;replace r:=bI r d;(have Ba:¬x=g:=al);replace m:=aT m d.size;clear d z Bh q;(try simp only[gE,aP]);refine xQ (S':=fun u=>wT (da w u)/\u.cell? ⟨g,v,N⟩=M (J I (dN (af Fb) (af other) v:Nat))) (fun _ h=>h.1) _ _ _ _ ?_;have q:wT (da w j)/\j.cell? ⟨g,v,N⟩=M (J I (dN (af Fb) (af other) v:Nat)):=⟨i,cv⟩;refine ar 8 (zR (M ⟨g,v,N⟩)) ?_;refine ar 9 (J I (dN (af Fb) (af other) v:Nat)) ?_;refine aF [10] (cA ?_ aG);intro k K;go_simp;have d:da j (j.alloc (yM #[z7] 187)):=(au _ j).alloc (ah _) _;have n:Boxed (j.alloc (yM #[z7] 187)) (O (T j)) 187 (z7):=bF j _ _;(have l:O (T j)<O (T (j.alloc (yM #[z7] 187))):=aE);have w9:=i.size;replace i:=i.trans (d.ae i.size);replace r:=bI r d;(have ne:¬x=O (T j):=al);replace m:=aT m d.size;replace F:=F.aa d;have P:O (T j)<L∨D<=O (T j):=yk t;replace t:=aM t d.size;(have R:¬O (T j)=g:=al);replace cv:=(d.cell (p:=⟨g,v,N⟩) y).trans cv;replace y:=aT y d.size
    refine K.o _ _ ⟨i,cv⟩ (fun q=>?_);clear K k d;generalize (j.alloc (yM #[z7] 187))=A at *;generalize (O (T j))=s at *
   rotate_left
   focus
    intro k K;go_simp;have d:da u2 (u2.alloc (yM #[z7] 187)):=(au _ u2).alloc (ah _) _;have n:Boxed (u2.alloc (yM #[z7] 187)) (O (T u2)) 187 (z7):=bF u2 _ _;(have l:O (T u2)<O (T (u2.alloc (yM #[z7] 187))):=aE);have w9:=i.size;replace i:=i.trans (d.ae i.size);replace r:=bI r d;(have ne:¬x=O (T u2):=al);replace m:=aT m d.size;replace F:=F.aa d;have P:O (T u2)<L∨D<=O (T u2):=yk t;replace t:=aM t d.size;refine K.o _ _ i (fun q=>?_);clear K k d;generalize (u2.alloc (yM #[z7] 187))=j at *;generalize (O (T u2))=s at *;refine aF [6] (cA ?_ aG);intro k K;go_simp;refine(Y.o _ (Bb.o.aa i) (B9.o.aa i)).ae ?_;rintro e A ⟨g,B7,rfl,Bh,z,d⟩;replace i:=i.trans (d.ae i.size);replace F:=F.aa d;replace t:=aM t d.size;clear q;refine K.o _ _ i (fun q=>?_);clear K k;obtain⟨g3,o3,Bj,y,cv⟩:=z v (by rw[bR,rJ];exact Bm);cases Bj;rw[zG Bm,bQ] at cv;replace n:=bI n d;(have R:¬s=g:=al);replace l:=aT l d.size;replace r:=bI r d;(have Ba:¬x=g:=al);replace m:=aT m d.size;clear d z Bh q;(try simp only[gE,aP]);refine xQ (S':=fun u=>wT (da w u)/\u.cell? ⟨g,v,N⟩=M (J I (dN (af Fb) (af other) v:Nat))) (fun _ h=>h.1) _ _ _ _ ?_;have q:wT (da w A)/\A.cell? ⟨g,v,N⟩=M (J I (dN (af Fb) (af other) v:Nat)):=⟨i,cv⟩
    refine ar 8 (zR (M ⟨g,v,N⟩)) ?_;refine ar 9 (J I (dN (af Fb) (af other) v:Nat)) ?_
  rotate_left 2
  focus
   intro k K;go_simp;have d:da u1 (u1.alloc (yM #[z7] 187)):=(au _ u1).alloc (ah _) _;have n:Boxed (u1.alloc (yM #[z7] 187)) (O (T u1)) 187 (z7):=bF u1 _ _;(have l:O (T u1)<O (T (u1.alloc (yM #[z7] 187))):=aE);have w9:=i.size;replace i:=i.trans (d.ae i.size);replace r:=bI r d;(have ne:¬x=O (T u1):=al);replace m:=aT m d.size;refine K.o _ _ i (fun q=>?_);clear K k d;generalize (u1.alloc (yM #[z7] 187))=u2 at *;generalize (O (T u1))=s at *;refine aF [3] (cA ?_ aG);intro k K;go_simp;refine(HB.o _ (Bb.o.aa i) (B9.o.aa i)).ae ?_;rintro e j ⟨f,rfl,F,d⟩;obtain⟨lb,rfl⟩:=F.shape;have X:=i.size;replace i:=i.trans (d.ae i.size);clear q;refine K.o _ _ i (fun q=>?_);clear K k;replace n:=bI n d;have P:s<O (T u2)∨O (T j)<=s:=yd l;replace l:=aT l d.size;replace r:=bI r d;have U:x<O (T u2)∨O (T j)<=x:=yd m;replace m:=aT m d.size;have om:O (T w)<=O (T u2):=X;have Q:=F.top;generalize (O (T u2))=L at F X om P U⊢;generalize hm1:O (T j)=D at F Q P U;rw[<- hm1] at Q;(have t:D<=O (T j):=al);clear d hm1;refine aF [6] (cA ?_ aG);intro k K;go_simp;refine(Y.o _ (Bb.o.aa i) (B9.o.aa i)).ae ?_;rintro e A ⟨g,B7,rfl,Bh,z,d⟩;replace i:=i.trans (d.ae i.size);replace F:=F.aa d;replace t:=aM t d.size;refine K.o _ _ i (fun ak=>?_);clear K k q
   have q:=ak;clear ak;obtain⟨g3,o3,Bj,y,cv⟩:=z v (by rw[bR,rJ];exact Bm);cases Bj;rw[zG Bm,bQ] at cv;replace n:=bI n d;(have R:¬s=g:=al);replace l:=aT l d.size;replace r:=bI r d;(have Ba:¬x=g:=al);replace m:=aT m d.size;clear d z Bh q;(try simp only[gE,aP]);refine xQ (S':=fun u=>wT (da w u)/\u.cell? ⟨g,v,N⟩=M (J I (dN (af Fb) (af other) v:Nat))) (fun _ h=>h.1) _ _ _ _ ?_;have q:wT (da w A)/\A.cell? ⟨g,v,N⟩=M (J I (dN (af Fb) (af other) v:Nat)):=⟨i,cv⟩;refine ar 8 (zR (M ⟨g,v,N⟩)) ?_;refine ar 9 (J I (dN (af Fb) (af other) v:Nat)) ?_
 all_goals
  refine aF [12] (cA ?_ aG);have c9:=n.cell;have f9:=n.frozen;intro k K;go_simp;have e9:Boxed (A.setCell ⟨s,0,N⟩ (.func (.func 215) #[] lb)) s 187 (.func (.func 215) #[] lb):=n.set _;have DZ:Boxed (A.setCell ⟨s,0,N⟩ (.func (.func 215) #[] lb)) x 3 (J I 0):=jD r s 0 _ al;replace F:=F.kept (Ca.set A 0 (.func (.func 215) #[] lb) t P);replace i:=aii i s 0 (.func (.func 215) #[] lb) w9;replace cv:(A.setCell ⟨s,0,N⟩ (.func (.func 215) #[] lb)).cell? ⟨g,v,N⟩=_:=(fT _ _ _ _ (fun e=>R (eG Addr.block e))).trans cv;have lz:O (T A)<=O (T (A.setCell ⟨s,0,N⟩ (.func (.func 215) #[] lb))):=(jJ A _ _).size;replace l:=aT l lz;replace m:=aT m lz;replace t:=aM t lz;refine K.o _ _ ⟨i,cv⟩ (fun ak=>?_);clear K k q n r c9 f9 lz;have q:=ak;clear ak;generalize (A.setCell ⟨s,0,N⟩ (.func (.func 215) #[] lb))=v1 at *;have ab:=DZ.cell;have ad:=DZ.frozen;refine aF [13] (cA ?_ aG);intro k K;go_simp;have x9:Boxed (v1.setCell ⟨x,0,N⟩ (J I (dN (af Fb) (af other) v:Nat))) s 187 (.func (.func 215) #[] lb):=jD e9 x 0 _ al;have ai:=DZ.set (J I (dN (af Fb) (af other) v:Nat));replace F:=F.kept (Ca.set v1 0 (J I (dN (af Fb) (af other) v:Nat)) t U);replace i:=aii i x 0 (J I (dN (af Fb) (af other) v:Nat)) dF;replace cv:(v1.setCell ⟨x,0,N⟩ (J I (dN (af Fb) (af other) v:Nat))).cell? ⟨g,v,N⟩=_:=(fT _ _ _ _ (fun e=>Ba (eG Addr.block e))).trans cv
  have lz:O (T v1)<=O (T (v1.setCell ⟨x,0,N⟩ (J I (dN (af Fb) (af other) v:Nat)))):=(jJ v1 _ _).size;replace l:=aT l lz;replace m:=aT m lz;replace t:=aM t lz;refine K.o _ _ ⟨i,cv⟩ (fun _=>eO ao ?_ _);clear K k q e9 DZ ab ad lz;generalize (v1.setCell ⟨x,0,N⟩ (J I (dN (af Fb) (af other) v:Nat)))=v2 at *;go_wp2;go_ret;exact⟨_,rfl,⟨s,x,_,rfl,w9,dF,l,m,ah _,x9.cell,ai.cell,F.wider om t (ah _)⟩,i⟩
variable {pv:wF} {V':E}
abbrev nC (f:Fr):Value:=zd #[zZ f.1,zK f.2.1,zK f.2.2]
structure JF (w V:E) (pv:wF) (B:Nat) (n:Bool) (x y:ByteArray):Prop where
 how:Boxed V (O (T w)) 190 pv
 res:aL V (O (T w)+1) xd ⟨#[]⟩ ⟨#[]⟩
 left:aL V B n x y
 aa:da w V
 lt:O (T w)+1<B
theorem JF.step {V:E} {B:Nat} {n:Bool} {x y:ByteArray} (h:JF w V pv B n x y) (b:da V V'):JF w V' pv B n x y:=
 ⟨(b.block _ h.how.lt).trans h.how,h.res.aa b h.res.lt,h.left.aa b h.left.lt,h.aa.trans (b.ae h.aa.size),h.lt⟩
theorem JF.drew {V:E} {B:Nat} {n:Bool} {x y:ByteArray} (h:JF w V pv B n x y):JF w V.drew pv B n x y:=⟨h.how,h.res,h.left,h.aa.drew,h.lt⟩
theorem JF.put {V:E} {B:Nat} {n:Bool} {x y:ByteArray} (h:JF w V pv B n x y) (n':Bool) (x' a:ByteArray):JF w (((V.setCell ⟨B,0,N⟩ (zZ n')).setCell ⟨B,1,N⟩ (zK x')).setCell ⟨B,2,N⟩ (zK a)) pv B n' x' a:=by
 have b:=h.lt;exact⟨jD (jD (jD h.how B 0 _ al) B 1 _ al) B 2 _ al,((h.res.far al _).far al _).far al _,h.left.put n' x' a,eT h.aa al _ _ _,h.lt⟩
theorem apt (f t:Nat) (F u:Array wF) (ep:∀g w,(callFunc f g).run prog w=.ok (.enter f g) w) (et:∀g w,(callFunc t g).run prog w=.ok (.enter t g) w) (n:Nat) (Ba L:Nat ->Fr) (w:E) (h1:1<=n) (hn:n<=65536)
  (R:∀k,k< n ->∀V,da w V ->c6 t (#[J I (k:Nat)]++u) V fun e w'=>e=yW (nC (Ba k))/\da V w')
  (P:∀k,k+1< n ->∀V,da w V ->c6 f (#[nC (L k),nC (Ba (k+1))]++F) V fun e w'=>e=yW (nC (L (k+1)))/\da V w')
  (h0:L 0=Ba 0):
  c6 169 #[zd #[.func (.func f) #[] F],J I (n:Nat),.func (.func t) #[] u] w (dj w (nC (L (n - 1)))):=by
 have z:=Fa R;have HP:=Fa P;clear R P;go_enter func169,ntmps169;go_wp2_with fail
 have j:da w ((w.alloc (yM #[.func (.func f) #[] F] 190)).alloc (yM #[zZ xd,zK ⟨#[]⟩,zK ⟨#[]⟩] 63)):=((au _ w).alloc (ah _) _).alloc aE _;have Bj:Boxed ((w.alloc (yM #[.func (.func f) #[] F] 190)).alloc (yM #[zZ xd,zK ⟨#[]⟩,zK ⟨#[]⟩] 63)) (O (T w)) 190 (.func (.func f) #[] F):=(bF w _ _).alloc _
 have m:aL ((w.alloc (yM #[.func (.func f) #[] F] 190)).alloc (yM #[zZ xd,zK ⟨#[]⟩,zK ⟨#[]⟩] 63)) (O (T w)+1) xd ⟨#[]⟩ ⟨#[]⟩:=by
  have h:=aL.new (w.alloc (yM #[.func (.func f) #[] F] 190)) xd ⟨#[]⟩ ⟨#[]⟩;rwa [eV] at h
 have aj:O (T ((w.alloc (yM #[.func (.func f) #[] F] 190)).alloc (yM #[zZ xd,zK ⟨#[]⟩,zK ⟨#[]⟩] 63)))=O (T w)+1+1:=aE
 generalize ((w.alloc (yM #[.func (.func f) #[] F] 190)).alloc (yM #[zZ xd,zK ⟨#[]⟩,zK ⟨#[]⟩] 63))=W at *;have ab:=Fa h0;refine(z.o 0 al _ j).ae ?_;rcases Lk:Ba 0 with ⟨s,x,y⟩;rintro e d ⟨rfl,c⟩;rw[Lk] at h0;have D:=Fa h0;clear h0 Lk ab;have ai:=c.size;have Bb:=(bI Bj c);have B9:=m.aa c m.lt;have p:=j.trans (c.ae j.size);go_wp2_with fail
 have X:wT (JF w (d.alloc (yM #[zZ s,zK x,zK y] 63)) (.func (.func f) #[] F) (O (T d)) s x y):=⟨Bb.alloc _,B9.alloc _,aL.new d s x y,p.alloc p.size _,al⟩;generalize (O (T d))=B at *;clear Bj m j aj c ai Bb B9 p;go_loopw [13] (fun iv wr=>∃i:Nat,i+1<=n/\iv=J I i/\wT (JF w wr (.func (.func f) #[] F) B (L i).1 (L i).2.1 (L i).2.2)) (fun iv _=>n - (intOf iv).toNat)
 case atStart=>exact⟨0,h1,rfl,by rw[D.o];exact X⟩
 case round=>
  obtain⟨i,hi,rfl,H⟩:=hrel;clear X D;by_cases Y:i+1<n
  ·have U:=z.o (i+1) Y;have r:=HP.o i Y;rw[Int.natCast_succ] at U;rcases hL:L i with ⟨ni,xi,yi⟩;rcases hT:Ba (i+1) with ⟨nt,xt,yt⟩;rcases ZN:L (i+1) with ⟨nl,xl,yl⟩;rw[hL] at H r;rw[hT] at U r;rw[ZN] at r;have Q:=Fa U;have B7:=Fa r;have vR:=Fa ZN;clear U r hL hT ZN;have Bh:=H.o;simp only at Bh;obtain⟨k0,k1,k2,f0,f1,f2⟩:=Bh.left.facts;have Bm:=Bh.drew;(have Yt:IntKind.i64.wrap ((i:Int)+1)=(i:Int)+1:=by rw[js];omega);go_upto_region 5 with fail
   refine iK (S:=fun V=>V.cell? ⟨O (T w),0,N⟩=M (.func (.func f) #[] F)) ao Bm.how.cell (fun q=>?_);have d0:=Bm.left.c0;have d1:=Bm.left.c1;have d2:=Bm.left.c2;refine ar 0 (zR (M ⟨O (T w),0,N⟩)) ?_;refine ar 1 (.func (.func f) #[] F) ?_;refine ar 3 (.func (.func t) #[] u) ?_;refine ar 4 (J I (i:Nat)) ?_;refine ar 5 (J I ((i:Int)+1)) ?_;refine aF [2,6] (cA ?_ (cA ?_ aG))
   focus
    intro a K;go_simp;clear q;refine K.o _ _ Bm.how.cell (fun q=>?_);clear K a;refine aF [6] (cA ?_ aG);intro a K;go_simp;refine(Q.o _ Bm.aa).ae ?_;rintro e w2 ⟨rfl,v⟩;have b:=Bm.step v;obtain⟨e0,e1,e2,_,_,_⟩:=b.left.facts
   rotate_left
   focus
    intro a K;go_simp;refine(Q.o _ Bm.aa).ae ?_;rintro e w2 ⟨rfl,v⟩;have b:=Bm.step v;obtain⟨e0,e1,e2,_,_,_⟩:=b.left.facts;clear q;refine K.o _ _ b.how.cell (fun q=>?_);clear K a;refine aF [2] (cA ?_ aG);intro a K;go_simp
   all_goals
    clear q;refine K.o _ _ b.how.cell (fun q=>?_);clear K a;refine aF [7] (cA ?_ aG);intro a K;go_simp;refine(B7.o _ b.aa).ae ?_;rintro e w3 ⟨rfl,ad⟩;have l:=b.step ad;clear q;refine K.o _ _ l.how.cell (fun q=>?_);clear K a;obtain⟨q0,q1,q2,p0,p1,p2⟩:=l.left.facts;refine aF [8] (cA ?_ aG);intro a K;go_simp;have A:=l.put nl xl yl;refine K.o _ _ A.how.cell (fun _=>eO ao ?_ _);clear K a q;go_wp2;go_roundw
    case rel=>exact⟨i+1,al,by rw[Int.natCast_succ],by rw[vR.o];exact A⟩
    case measure=>simp[intOf];omega
  ·have ak:i+1=n:=al
   (have HE:wT (L (n - 1)=L i):=by show _=_;rw[show n - 1=i by omega]);have Bh:=H.o;obtain⟨k0,k1,k2,f0,f1,f2⟩:=Bh.left.facts;obtain⟨r0,r1,r2,t0,t1,t2⟩:=Bh.res.facts;go_wp2;refine dI ((Bh.res.put _ _ _).result rfl _ rfl) rfl ?_;exact⟨by rw[HE.o],eT Bh.aa al _ _ _⟩
abbrev a8 (f:Fr):Rat:=val f.1 f.2.1 f.2.2
def great (f g:Fr):Fr:=if kJ (a8 f) (a8 g)<0 then g else f
theorem aky (w:E):c6 164 #[] w (dj w (zd #[.func (.func 160) #[] #[]])):=by
 go_enter func164,ntmps164;go_wp2;refine dI (Hc rfl _ _ (O (T w)) _ _ _ _ rfl (bF w _ _) underlying190 rfl ao) rfl ?_;exact⟨rfl,(au _ w).alloc (ah _) _⟩
def dM:List Fr ->List wF
 |[]=>[]
 |f::l=>zZ f.1::zK f.2.1::zK f.2.2::dM l
theorem yH:∀l:List Fr,C (dM l)=3*C l
 |[]=>rfl
 |f::l=>by simp only[dM,eA,yH l];omega
theorem LA:∀(l:List Fr) (k:Nat) (h:k<C l),(dM l)[k*3]? =M (zZ l[k].1)/\(dM l)[k*3+1]? =M (zK l[k].2.1)/\(dM l)[k*3+2]? =M (zK l[k].2.2)
 |[],_,h=>absurd h aE
 |f::l,0,_=>⟨rfl,rfl,rfl⟩
 |f::l,k+1,h=>by
  have a:k<C l:=by simpa using h
  obtain⟨b,c,d⟩:=LA l k a;have e:(k+1)*3=k*3+1+1+1:=al
  refine⟨?_,?_,?_⟩
  ·rw[e];exact b
  ·rw[show (k+1)*3+1=(k*3+1)+1+1+1 by omega];exact c
  ·rw[show (k+1)*3+2=(k*3+2)+1+1+1 by omega];exact d
theorem aae:∀(l:List Fr) (k:Nat) (f:Fr),(((dM l).set (k*3) (zZ f.1)).set (k*3+1) (zK f.2.1)).set (k*3+2) (zK f.2.2)=dM (l.set k f)
 |[],k,f=>by simp[dM]
 |x::l,0,f=>by simp[dM]
 |x::l,k+1,f=>by
  rw[show (k+1)*3=k*3+1+1+1 by omega,show k*3+1+1+1+1=(k*3+1)+1+1+1 by omega,show k*3+1+1+1+2=(k*3+2)+1+1+1 by omega];simp only[dM,VQ,aae l k f]
def ij (w:E) (g:Nat) (l:List Fr):Prop:=w.heap[g]? =M (yM (dM l).toArray 63 (0,0))
theorem ij.lt {l:List Fr} (h:ij w g l):g<O (T w):=(cS.1 h).1
theorem ij.fz {l:List Fr} (h:ij w g l) (j:Nat):w.frozen? ⟨g,j,N⟩=false:=gj w g j _ _ h
theorem ij.aa {b:Nat} {l:List Fr} (h:ij w g l) (a:Below b w w') (c:g<b):ij w' g l:=(a.block g c).trans h
theorem ij.cells {l:List Fr} (h:ij w g l) (k:Nat) (a:k<C l):w.cell? ⟨g,k*3,N⟩=M (zZ l[k].1)/\w.cell? ⟨g,k*3+1,N⟩=M (zK l[k].2.1)/\w.cell? ⟨g,k*3+2,N⟩=M (zK l[k].2.2):=by
 obtain⟨b,c,d⟩:=LA l k a;refine⟨?_,?_,?_⟩<;>rw[ba w g _ _ _ (0,0) h]<;>simpa using b5
theorem ij.fr {l:List Fr} (h:ij w g l):dH w (M ⟨g,0,N⟩) l:=fun k d=>by
 obtain⟨a,b,c⟩:=h.cells k d;refine⟨g,0,rfl,h.lt,?_,?_,?_⟩
 ·rw[bQ];exact a
 ·rw[bQ];exact b
 ·rw[bQ];exact c
theorem ij.put {l:List Fr} (h:ij w g l) (k:Nat) (f:Fr):ij (((w.setCell ⟨g,k*3,N⟩ (zZ f.1)).setCell ⟨g,k*3+1,N⟩ (zK f.2.1)).setCell ⟨g,k*3+2,N⟩ (zK f.2.2)) g (l.set k f):=by
 have a:=jW w g (k*3) _ _ (zZ f.1) h;have b:=jW _ g (k*3+1) _ _ (zK f.2.1) a;have c:=jW _ g (k*3+2) _ _ (zK f.2.2) b;rw[ij,c, <- aae];simp
variable {xs:List wF}
def tx:Fr:=(xd,⟨#[]⟩,⟨#[]⟩)
def ud (l:List Fr) (i:Nat):List Fr:=l.take i++List.replicate (C l - i) tx
theorem adQ (l:List Fr):ud l 0=List.replicate (C l) tx:=by simp[ud]
theorem Xj (l:List Fr) (h:i<=C l):C (ud l i)=C l:=by simp[ud];omega
theorem adS (l:List Fr):ud l (C l)=l:=by simp[ud]
theorem adR (l:List Fr) (h:i<C l):(ud l i).set i l[i]=ud l (i+1):=by
 rw[ud,ud,Hj _ _ (by simp;omega),gR h];have e:C l - i=(C l - (i+1))+1:=al
 rw[e,MO,fh,uO al,rE,CM,p9];rfl
theorem Tryz.infoFrac:(prog.info? 63).map (fun i=>(i.zero,i.size,i.bytes))=M (M (zd #[zZ xd,zK ⟨#[]⟩,zK ⟨#[]⟩]),3,40):=ao
theorem aZ.put {u v:wF} (h:aZ w g u v) (x y:wF):aZ ((w.setCell ⟨g,0,N⟩ x).setCell ⟨g,1,N⟩ y) g x y:=by
 have a:=jW w g 0 _ _ x h;have b:=jW _ g 1 _ _ y a;exact b
theorem ij.off {l:List Fr} (h:ij w g l) (b j:Nat) (y:wF) (e:g≠b):ij (w.setCell ⟨b,j,N⟩ y) g l:=(eW w ⟨b,j,N⟩ y g e).trans h
theorem aaM {base:Nat} {t:TypeId} (h:w.ownsRow base t 3 (Z (M ⟨g,0,N⟩) n n) n xs):w.heap[g]? =M (yM xs.toArray t (0,0)):=by
 rcases h.2 with ⟨a,_⟩ |⟨g',p,c,a,_,b,F,_,s,m⟩
 ·cases a
 ·cases a;rw[b, <- m,kO (by simp;omega)]
theorem ag6:∀(n j:Nat),j<3*n ->(dM (List.replicate n tx))[j]? =M (#[Value.bool xd,Value.string ⟨#[]⟩,Value.string ⟨#[]⟩][j % 3]!)
 |0,j,h=>al
 |n+1,0,_=>rfl
 |n+1,1,_=>rfl
 |n+1,2,_=>rfl
 |n+1,j+3,h=>by
  rw[show (j+3) % 3=j % 3 by omega,MO];exact ag6 n j al
theorem NP (n:Nat):(madeCells (Value.agg #[Value.bool xd,Value.string ⟨#[]⟩,Value.string ⟨#[]⟩]).cells (n*3)).toList=dM (List.replicate n tx):=by
 apply MV;intro j;by_cases h:j<3*n
 ·rw[ag6 n j h,madeCells];have a:j<n*3:=al
  simp[a,Value.cells]
 ·rw[iT (by rw[Ht,size_madeCells];omega),iT (by rw[yH,tW];omega)]
theorem T7 (a b:Kd) (ca cb:Nat) (Fb Fd:Kx) (F:Nat) (lb:Array wF) (eF:∀B7 w,(callFunc F B7).run prog w=.ok (.enter F B7) w) (l:List Fr) (w:E) (hs:aB w a Fb) (Bb:aB w b Fd) (R:fK Fb) (u:Up Fd (C Fb)) (K:C l=cnt (af Fb) (af Fd))
  (L:∀k (h:k<C l),∀V,da w V ->c6 F (#[J I (k:Nat)]++lb) V fun e w'=>e=yW (nC l[k])/\da V w'):
  c6 115 #[Z a (C Fb) ca,Z b (C Fd) cb,.func (.func F) #[] lb] w fun e w'=>∃g:Nat,e=yW (zd #[Z b (C Fd) cb,Z (M ⟨g,0,N⟩) (C l) (C l)])/\w.heap.size<=g/\ij w' g l/\da w w':=by
 obtain⟨i0,cC,an,aq,av⟩:=eC Tryz.infoFrac;have HS:=Fa hs;have HV:=Fa Bb;have HT:=Fa L;have D:=Fa (fun V h1 h2=>ahV a b ca cb Fb Fd V h1 h2 R u);have uu:=R.eight;have fQ:=u.length;have ak:cnt (af Fb) (af Fd)<=65536:=xm R.sz_le (by rw[gG];omega);rw[<- K] at ak D;clear hs Bb L K R u;go_enter func115,ntmps115;go_wp2_with fail
 have t:(w.alloc (yM #[Z N 0 0,Z N 0 0] 38)).heap[O (T w)]? =M (yM #[Z N 0 0,Z N 0 0] 38 (0,0)):=dU _ _;have d:da w (w.alloc (yM #[Z N 0 0,Z N 0 0] 38)):=(au _ w).alloc (ah _) _;have X:O (T (w.alloc (yM #[Z N 0 0,Z N 0 0] 38)))=O (T w)+1:=aE
 generalize (w.alloc (yM #[Z N 0 0,Z N 0 0] 38))=W at t d X⊢;refine(D.o _ (HS.o.aa d) (HV.o.aa d)).ae ?_;rintro e c ⟨rfl,q⟩;have aj:=q.size;have Bm:c.heap[O (T w)]? =M (yM #[Z N 0 0,Z N 0 0] 38 (0,0)):=(q.block _ al).trans t;have v:=d.trans (q.ae d.size)
 go_wp2_with (first
  |(at_make;refine oK _ rfl _ _ 36 rfl (O (T c)) 63 i0 (zd #[zZ xd,zK ⟨#[]⟩,zK ⟨#[]⟩]) 3 underlying36 cC an aq I I _ _ (C l) rfl rfl bd bd (by rw[av];omega) (by unfold maxLen;omega) (ah _) ?_;intro n ab ad))
 have y:=aaM ab;rw[NP] at y;have Bh:wT (ij n (O (T c)) (List.replicate (C l) tx)):=y;have x:da c n:=(au _ c).grown ad (ah _) (fun k e=>by cases e);have b2:n.heap[O (T w)]? =M (yM #[Z N 0 0,Z N 0 0] 38 (0,0)):=(x.block _ al).trans Bm;have Y:=Fa (v.trans (x.ae v.size));have ax:O (T w)+1<=O (T c):=al
 generalize (O (T c))=G at *;clear ab ad y x Bm t d q v aj X;have A:wT (aZ n (O (T w)) (Z N 0 0) (Z N 0 0)):=b2;clear b2;go_wp2_with fail
 go_loopw [15] (fun iv wr=>∃i:Nat,i<=C l/\iv=J I i/\wT (ij wr G (ud l i))/\wT (aZ wr (O (T w)) (Z N 0 0) (Z N 0 0))/\wT (da w wr)) (fun iv _=>C l - (intOf iv).toNat)
 case atStart=>exact⟨0,aV _,rfl,by rw[adQ];exact Bh,A,Y⟩
 case round=>
  obtain⟨i,hi,rfl,s,H,m⟩:=hrel;clear Bh A Y;by_cases U:i<C l
  ·have ai:=Fa (adR l U);have Q:=Fa (HT.o i U);have ay:=Xj l hi;generalize l[i]=f at *;obtain⟨fn,fx,fy⟩:=f;go_wp2_with fail
   refine(Q.o _ m.o).ae ?_;rintro e Ba ⟨rfl,r⟩;have j:=s.o.aa r s.o.lt;have S:aZ Ba (O (T w)) (Z N 0 0) (Z N 0 0):=(r.block _ (cS.1 H.o).1).trans H.o;have Bj:=m.o.trans (r.ae m.o.size);obtain⟨k0,k1,k2⟩:=j.cells i al;have f0:=j.fz (i*3);have f1:=j.fz (i*3+1);have f2:=j.fz (i*3+2);generalize (ud l i)[i]=z at *;obtain⟨zn,zx,zy⟩:=z;simp only at k0 k1 k2;have P:=Fa (j.put i (fn,fx,fy));rw[ai.o] at P;have UG:wT (aZ (((Ba.setCell ⟨G,i*3,N⟩ (zZ fn)).setCell ⟨G,i*3+1,N⟩ (zK fx)).setCell ⟨G,i*3+2,N⟩ (zK fy)) (O (T w)) (Z N 0 0) (Z N 0 0)):=(eW _ ⟨G,i*3+2,N⟩ _ (O (T w)) (by show O (T w)≠G;omega)).trans ((eW _ ⟨G,i*3+1,N⟩ _ (O (T w)) (by show O (T w)≠G;omega)).trans ((eW _ ⟨G,i*3,N⟩ _ (O (T w)) (by show O (T w)≠G;omega)).trans S));have vT:=Fa (((Bj.setCell (p:=⟨G,i*3,N⟩) (by show O (T w)<=G;omega) (zZ fn)).setCell (p:=⟨G,i*3+1,N⟩) (by show O (T w)<=G;omega) (zK fx)).setCell (p:=⟨G,i*3+2,N⟩) (by show O (T w)<=G;omega) (zK fy));clear j S Bj r Q;go_wp2;go_roundw
   case rel=>exact⟨i+1,al,bd,P,UG,vT⟩
   case measure=>simp[intOf];omega
  ·obtain rfl:i=C l:=al
   have B9:=s.o;rw[adS] at B9;obtain⟨t0,t1⟩:wr.cell? ⟨O (T w),0,N⟩=M (Z N 0 0)/\wr.cell? ⟨O (T w),1,N⟩=M (Z N 0 0):=⟨H.o.c0,H.o.c1⟩;have g0:wr.frozen? ⟨O (T w),0,N⟩=false:=gj wr (O (T w)) 0 _ _ H.o;have g1:wr.frozen? ⟨O (T w),1,N⟩=false:=gj wr (O (T w)) 1 _ _ H.o;go_wp2;refine dI (Hc rfl _ _ (O (T w)) _ _ _ _ rfl (H.o.put _ _) underlying38 rfl ao) rfl ?_;exact⟨G,rfl,al,(B9.off _ 0 _ al).off _ 1 _ al,(m.o.setCell (p:=⟨O (T w),0,N⟩) (ah _) _).setCell (p:=⟨O (T w),1,N⟩) (ah _) _⟩
variable {vs:Ja}
theorem ain:∀ {vs:Ja} {k i:Nat},vs.Nodup ->(h:i<C vs) ->(oC S vs k)[i]? =M (aX S vs k vs[i])
 |[],_,_,_,h=>absurd h aE
 |u::vs,k,0,_,_=>by simp[oC,aX]
 |u::vs,k,i+1,hn,h=>by
  rw[nS] at hn;have a:i<C vs:=by simpa using h
  have e:¬vs[i]=u:=fun e=>hn.1 (by rw[<- e];exact bU a);rw[oC,List.getElem?_cons_succ,ain hn.2 a,VX,aX,aC e]
def rM (n:Nat) (f:Nat ->Nat):Ja:=(List.range n).map f
theorem H6 (n:Nat) (f:Nat ->Nat):C (rM n f)=n:=by simp[rM]
theorem WM (h:v<n):(rM n f)[v]? =M (f v):=by simp[rM,h]
theorem akT {g:Nat ->Nat} (h:∀v,v< n ->f v=g v):rM n f=rM n g:=mM fun v a=>h v (bS.1 a)
theorem akS (v x:Nat):(rM n f).set v x=rM n (aO f v x):=by
 apply MV;intro u;rw[List.getElem?_set];by_cases a:u<n
 ·rw[WM a,WM a,aO,H6];by_cases e:v=u
  ·subst e;rw[aw rfl,aw a,aw rfl]
  ·rw[aC e,aC (fun h=>e h.symm)]
 ·rw[iT (by rw[H6];omega),iT (by rw[H6];omega),H6];by_cases e:v=u
  ·rw[aw e,aC al]
  ·rw[aC e]
theorem ams (S:Ja) (f:Nat ->Nat) (h:i<C vs):pos S f (vs.take (i+1))=pos S f (vs.take i)*sz S vs[i]+f vs[i]:=by
 rw[gR h,amt]
theorem EY {x:Nat} (h:∀u,f u<sz S u) (a:x<sz S v) (u:Nat):aO f v x u<sz S u:=by
 rw[aO];by_cases e:u=v
 ·rw[aw e,e];exact a
 ·rw[aC e];exact h u
def qF (q:Rat):Fr:=(aW q,nu q,de q)
theorem T1 (q:Rat):nC (qF q)=zd #[zZ (aW q),zK (nu q),zK (de q)]:=rfl
theorem jC (q:Rat):a8 (qF q)=q:=kr q
def aQ (l:List Fr) (k:Nat):Fr:=l[k]?.getD tx
theorem mr {l:List Fr} (h:k<C l):aQ l k=l[k]:=by rw[aQ,a7 h];rfl
theorem ate {l:List Fr} (h:k<C l):(aQ l k).2.1.size+(aQ l k).2.2.size+2<=fw l:=by rw[mr h];exact TV (bU h)
def lu (l:List Fr):List Fr:=l.map fun f=>qF (a8 f*(1/bH l))
def xe (S Fd rest:Ja) (v x:Nat) (l:List Fr):List Fr:=(List.range (cnt S rest)).map fun K=>qF (a8 (aQ l (pos S (aO (aX S rest K) v x) Fd)))
def mR (most:Bool) (Ba:Nat ->Fr):Nat ->Fr
 |0=>Ba 0
 |k+1=>if most then great (mR most Ba k) (Ba (k+1)) else qF (a8 (mR most Ba k)+a8 (Ba (k+1)))
def wH (S Fd rest:Ja) (v:Nat) (most:Bool) (l:List Fr):List Fr:=(List.range (cnt S rest)).map fun K=>qF (a8 (mR most (fun x=>aQ l (pos S (aO (aX S rest K) v x) Fd)) (sz S v - 1)))
def xU (S va vb U:Ja) (la lb:List Fr):List Fr:=(List.range (cnt S U)).map fun K=>qF (a8 (aQ la (pos S (aX S U K) va))*a8 (aQ lb (pos S (aX S U K) vb)))
def cH (l:Kx) (v:Int):Kx:=l.filter fun u=>!(u==v)
def Cw (m:Nat) (l:List Fr):Prop:=∀k,k<C l ->(aQ l k).2.1.size+(aQ l k).2.2.size+2<=m
theorem Cw.up {l:List Fr} (h:Cw m l) (b:m<=n):Cw n l:=fun k a=>aM (h k a) b
def sw:List Fr ->Nat
 |[]=>0
 |f::l=>f.2.1.size+f.2.2.size+sw l
theorem aZ.off {u v:wF} (h:aZ w g u v) (b j:Nat) (y:wF) (e:g≠b):aZ (w.setCell ⟨b,j,N⟩ y) g u v:=(eW w ⟨b,j,N⟩ y g e).trans h
theorem Gf {Fb Fd:Kx} (h:kX Fb Fd m=0):fK Fb/\Up Fd (C Fb)/\m=cnt (af Fb) (af Fd):=by
 rw[kX] at h;by_cases a:countB Fb Fd=y6
 ·rw[aw a] at h;by_cases b:m=cnt (af Fb) (af Fd)
  ·exact⟨(aaz a).1,(aaz a).2,b⟩
  ·rw[aC b] at h;omega
 ·rw[aC a] at h;omega
open Go.Sort Go.Lib
def i7 (B:Nat) (b:Kd) (cb:Nat):Prop:=(b=N ->cb=0)/\∀g o,b=M ⟨g,o,N⟩ ->B<=g
theorem i7.up {B B1:Nat} {b:Kd} (h:i7 B b cb) (a:B1<=B):i7 B1 b cb:=⟨h.1,fun g o e=>aM a (h.2 g o e)⟩
theorem i7.nil (B:Nat):i7 B Option.none 0:=⟨fun _=>rfl,fun g o e=>by cases e⟩
theorem i7.at {B G:Nat} (h:B<=G):i7 B (Option.some ⟨G,0,Option.none⟩) cb:=⟨(fun e=>by cases e),fun g o e=>by cases e;exact h⟩
def bW (w:E) (B:Nat) (v:wF) (l:Kx):Prop:=w.ownsRow B 3 1 v (C l) (l.map (Value.int I))
theorem bW.cases {B:Nat} {v:wF} (h:bW w B v l):(v=Z N 0 0/\l=[])∨∃g cap,v=Z (M ⟨g,0,N⟩) (C l) cap/\B<=g/\g<O (T w)/\l.length<=cap/\cap<=maxLen/\Holds (Value.int I) w g 0 l.toArray:=by
 rcases h.2 with ⟨a,b⟩ |⟨g,cap,r,a,b,c,f,i,n,k⟩
 ·exact yd ⟨a,Ho.1 b⟩
 ·refine yk ⟨g,cap,a,b,(cS.1 c).1,f,i,fun j m=>?_⟩;have d:j<C l:=by simpa using m
  refine⟨?_,gj w g _ _ _ c⟩;rw[bQ,ba w g j _ _ (0,0) c]
  have e:r[j]? =(r.toList.take (C l*1))[j]?:=by
   rw[sQ,aw al,wu]
  rw[e,k,k9,a7 d];simp[d]
theorem Dt {d:Array Int} (h:Holds (Value.int I) w g 0 d) (b:g<O (T w)) (f:∀j (i:j<C l),∃a:j<d.size,d[j]=l[j]):aB w (M ⟨g,0,N⟩) l:=fun k c=>by
 obtain⟨a,e⟩:=f k c;refine⟨g,0,rfl,b,?_⟩;have:=(h k a).1;rw[MC d k a,e] at this;exact this
theorem bW.ints {B:Nat} {v:wF} (h:bW w B v l):∃d c,v=Z d (C l) c/\aB w d l:=by
 rcases h.cases with ⟨rfl,rfl⟩ |⟨g,cap,rfl,_,a,_,_,b⟩
 ·exact⟨N,0,rfl,fun k f=>absurd f aE⟩
 ·exact⟨_,_,rfl,Dt b a fun j e=>⟨by simpa using e,aE⟩⟩
theorem Yh {b o:Nat} (h:aB w (M ⟨b,o,N⟩) l):∀j,j<C l ->w.cell? ⟨b,o+j,N⟩=M (J I (l.getD j 0)):=fun j a=>by
 obtain⟨g,o',e,_,c⟩:=h j a;cases e;rw[c,cF,a7 a];rfl
theorem Kl (b:Kd) (cb:Nat) (l:Kx) (w:E) (h:aB w b l) (n:C l<=1000000):
  c6 85 #[Z b (C l) cb] w fun e w'=>∃v,e=yW v/\bW w' (O (T w)) v l/\da w w':=by
 cases b with
 |none=>
  have d:l=[]:=by
   cases l with
   |nil=>rfl
   |cons x l=>obtain⟨g,o,e,_⟩:=h 0 aE;cases e
  subst d;refine(Tryz.slices_Clone_int_nil 0 cb w).ae ?_;rintro e w' ⟨rfl,rfl⟩;exact⟨_,rfl,⟨rfl,yd ⟨rfl,rfl⟩⟩,au _ _⟩
 |some a=>
  cases l with
  |nil=>
   refine(Tryz.slices_Clone_int_zero a cb w).ae ?_;rintro e w' ⟨v,rfl,r,_,c⟩;exact⟨v,rfl,r,c⟩
  |cons x l=>
   obtain⟨g,o,e,_⟩:=h 0 aE;cases e;refine(Tryz.slices_Clone_int g o (C (x::l)) cb (x::l) w (ah _) al (Yh h)).ae ?_;rintro e w' ⟨v,rfl,r,_,c⟩;rw[iD] at r;exact⟨v,rfl,r,c⟩
theorem Nj (b:Kd) (cb:Nat) (l:Kx) (x:Int) (w:E) (h:aB w b l) (n:C l<=140737488355328):
  c6 98 #[Z b (C l) cb,J I x] w (dj w (zZ (l.contains x))):=by
 cases l with
 |nil=>
  refine(Tryz.slices_Contains_int_empty b cb x w).ae ?_;rintro e w' ⟨rfl,rfl⟩;exact⟨rfl,au _ _⟩
 |cons y l=>
  obtain⟨g,o,rfl,_⟩:=h 0 aE;refine(Tryz.slices_Contains_int g o (C (y::l)) cb (y::l) x w (ah _) al (Yh h)).ae ?_;rintro e w' ⟨rfl,rfl⟩;rw[iD];exact⟨rfl,au _ _⟩
theorem abV (u v:Int) (B:Nat) (W:E) (c:W.cell? ⟨B,0,N⟩=M (J I v)):
  FnGives prog 218 #[zR (M ⟨B,0,N⟩)] #[J I u] (zZ (u==v)) W:=by
 show c6 218 #[J I u,zR (M ⟨B,0,N⟩)] W _;go_enter func218,ntmps218;go_wp2
 all_goals (go_ret;exact⟨by simp_all,0,rfl⟩)
theorem ajJ (v:Int) (B:Nat) (w:E) (h:B<O (T w)) (c:w.cell? ⟨B,0,N⟩=M (J I v)):
  PredAt prog 218 #[zR (M ⟨B,0,N⟩)] (Value.int I) (fun u=>u==v) w:=
 fun W x b=>abV x v B W ((b.cell (p:=⟨B,0,N⟩) h).trans c)
theorem ajI (v:Int) (B b f i:Nat) (w:E) (h:B<O (T w)) (e:B≠b) (c:w.cell? ⟨B,0,N⟩=M (J I v)):
  PredOver prog 218 #[zR (M ⟨B,0,N⟩)] (Value.int I) (fun u=>u==v) b f i w:=
 fun n o d x _=>abV x v B _ (by
  unfold sortWorld;rw[cell?_grow _ _ _ (by show B<O (T (putRow _ _ _ _ _));rw[size_putRow];exact h),cell?_putRow_other _ _ b f _ _ (Or.inl e)];exact c)
theorem WN (fv:wF) (w:E):c6 130 #[Z N 0 0,fv] w (dj w (Z N 0 0)):=by
 go_enter func130,ntmps130;go_wp2_with fail
 refine(Tryz.slices_IndexFunc_empty (α:=Int) N 0 fv w).ae ?_;rintro e a ⟨rfl,rfl⟩;go_wp2;go_ret;exact⟨rfl,au _ _⟩
theorem Ur {B:Nat} {a:E} {os:Array Obj} (d:Array Int) (h:Below B a w) (c:B<=O (T w)) (b:B<=g):Below B a (grow (putRow (Value.int I) (Sort.ahead w n) g 0 d) os):=
 h.grown (MB d) c fun k e=>by cases e;exact b
theorem Us {B:Nat} {a:E} (d:Array Int) (h:Below B a w) (c:B<=O (T w)) (b:B<=g):Below B a (putRow (Value.int I) (Sort.ahead w n) g 0 d):=by
 have:=Ur (n:=n) (os:= #[]) d h c b;rwa [grow_empty] at this
theorem abT (b:Kd) (cb:Nat) (Fd:Kx) (v:Int) (w:E) (p:aB w b Fd) (Bb:C Fd<=1000000):
  c6 166 #[Z b (C Fd) cb,J I v] w fun e w'=>∃(d:Kd) (m:Nat),e=yW (Z d (C (cH Fd v)) m)/\aB w' d (cH Fd v)/\i7 (O (T w)) d m/\da w w':=by
 have V:=Fa p;obtain⟨L,f⟩:∃L,L=cH Fd v:=⟨_,rfl⟩;rw[<- f];have H:=Fa f;clear p f;go_enter func166,ntmps166;go_wp2_with fail
 have h:da w (w.alloc (yM #[J I v] 3)):=(au _ w).alloc (ah _) _;have l:=bF w 3 (J I v);generalize (w.alloc (yM #[J I v] 3))=W at h l⊢;refine(Kl b cb Fd _ (V.o.aa h) Bb).ae ?_;rintro e t ⟨x,rfl,r,y⟩;have c:=bI l y;have a:=h.trans (y.ae h.size);have X:=l.lt;have Y:=h.size;rcases r.cases with ⟨rfl,rfl⟩ |⟨g,cap,rfl,U,Bj,z,Ba,i⟩
 ·go_wp2_with fail
  refine(WN _ _).ae ?_;rintro e Q ⟨rfl,S⟩;go_wp2;go_ret;have D:L=[]:=H.o;subst D;exact⟨N,0,rfl,fun k K=>absurd K aE,i7.nil _,a.trans (S.ae a.size)⟩
 ·have n:=Tryz.slices_DeleteFunc (Value.int I) (fun _=>rfl) (fun u=>u==v) 218 #[zR (M ⟨O (T w),0,N⟩)] (enters_of func218 ao rfl) 0 Tryz.zeroValue3 g 0 cap Fd.toArray t (ajJ v _ _ c.lt c.cell) (ajI v _ g 0 _ _ c.lt al c.cell) i (by simp;omega) (by simpa using z);have A:Fd.toArray.size=C Fd:=aE
  rw[A] at n;have s:Fd.toArray.toList.filter (fun x=>!(x==v))=cH Fd v:=by simp[cH]
  rw[s, <- H.o] at n;have B9:C L<=C Fd:=by rw[H.o];exact oT _ _
  have Bm:=Fa n;have F:=Fa i;have P:=Fa B9;clear n i r A s z Ba B9;go_wp2_with fail
  refine Bm.o.ae ?_;rintro e Q ⟨rfl,q,rfl⟩;go_wp2;go_ret
  have R:(L++List.replicate (C Fd - C L) 0).toArray.size=Fd.toArray.size:=by
   have:=P.o;simp;omega
  refine⟨M ⟨g,0,N⟩,cap,rfl,Dt (holds_putRow (Value.int I) (Sort.ahead t q) g 0 Fd.toArray _ F.o R) (by rw[size_putRow];exact Bj) (fun j Bh=>⟨by simp;omega,by simp[nU,Bh]⟩),i7.at al,Us _ a a.size al⟩
variable {fn:Func} {x':wF}
def yK (Fd:Kx) (l:List Fr) (k:Int) (e:Ending) (w':E):Prop:=∃(b c:Kd) (cb cc:Nat),e=yW (zp #[zd #[Z b (C Fd) cb,Z c (C l) cc],J I k])/\aB w' b Fd/\dH w' c l
def Av (B:Nat) (Fd:Kx) (l:List Fr) (k:Int) (e:Ending) (w':E):Prop:=∃(b c:Kd) (cb cc:Nat),e=yW (zp #[zd #[Z b (C Fd) cb,Z c (C l) cc],J I k])/\aB w' b Fd/\dH w' c l/\i7 B b cb/\i7 B c cc
theorem yK.empty (k:Int) (w:E):yK [] [] k (yW (zp #[zd #[Z N 0 0,Z N 0 0],J I k])) w:=⟨N,N,0,0,rfl,fun k h=>absurd h aE,fun k h=>absurd h aE⟩
theorem aZ.result2 {x:wF} (h:aZ w g x y) {p u:Tmp} (r:fn.results= #[.cell p 38,.tmp u]) (m:Array wF) (a:m.getD p wQ=zR (M ⟨g,0,N⟩)):
  (results fn m).run prog w=.ok (zp #[zd #[x,y],m.getD u wQ]) w:=by
 rw[results_cell_tmp r,a];simp only[asAddr,zi,vZ];rw[run_loadVar_row w g _ 38 _ _ _ h underlying38 rfl ao];simp only[vZ]
def bV (v:wF):Prop:=∃a n c,v=Value.slice a n c
theorem aB.farT {V:E} {c:Kd} {x:wF} (h:aB V c l) (b:aZ V g x y) (f:bV x) (i:bV y) (j:Nat) (u:wF):aB (V.setCell ⟨g,j,N⟩ u) c l:=fun k d=>by
 obtain⟨g',o,rfl,t,a⟩:=h k d;obtain⟨p,v,r,rfl⟩:=f;obtain⟨q,w,s,rfl⟩:=i
 have n:¬g'=g:=fun e=>by
  subst e;rw[ba V g' (o+k) _ _ (0,0) b] at a;match hm:o+k with
  |0=>rw[hm] at a;simp at a
  |1=>rw[hm] at a;simp at a
  |m+2=>rw[hm] at a;simp at a
 exact⟨g',o,rfl,aT t (jJ V _ _).size,(fT _ _ _ _ (fun e=>n (eG Addr.block e).symm)).trans a⟩
theorem aB.putT {V:E} {c:Kd} {x:wF} (h:aB V c l) (b:aZ V g x y) (e:bV x) (a:bV y) (i:bV x') (f:wF):aB ((V.setCell ⟨g,0,N⟩ x').setCell ⟨g,1,N⟩ f) c l:=by
 have d:aZ (V.setCell ⟨g,0,N⟩ x') g x' y:=jW V g 0 _ _ x' b;exact(h.farT b e a 0 _).farT d i a 1 _
theorem slv (a:Kd) (n c:Nat):bV (Z a n c):=⟨a,n,c,rfl⟩
theorem aZ.facts {x:wF} (h:aZ w g x y):w.cell? ⟨g,0,N⟩=M x/\w.cell? ⟨g,1,N⟩=M y/\w.frozen? ⟨g,0,N⟩=xd/\w.frozen? ⟨g,1,N⟩=false:=⟨h.c0,h.c1,gj w g 0 _ _ h,gj w g 1 _ _ h⟩
theorem uF {B:Nat} {a:E} (h:Below B a w) (b:B<=g) (u v:wF):Below B a ((w.setCell ⟨g,0,N⟩ u).setCell ⟨g,1,N⟩ v):=(h.setCell b u).setCell b v
def NH (w V:E) (u v:wF):Prop:=aZ V (O (T w)) u v/\aZ V (O (T w)+1) (Z N 0 0) (Z N 0 0)/\da w V
theorem NH.step {V:E} {u v:wF} (h:NH w V u v) (b:da V V'):NH w V' u v:=⟨h.1.aa b h.1.lt,h.2.1.aa b h.2.1.lt,h.2.2.trans (b.ae h.2.2.size)⟩
theorem NH.drew {V:E} {u v:wF} (h:NH w V u v):NH w V.drew u v:=⟨h.1,h.2.1,h.2.2.drew⟩
theorem NH.new (w:E) (u v:wF):NH w ((w.alloc (TC u v)).alloc (TC (Z N 0 0) (Z N 0 0))) u v:=⟨(aZ.at (w:=w) rfl _ _).alloc _,aZ.at (w:=w.alloc (TC u v)) aE _ _,((au _ w).alloc (ah _) _).alloc aE _⟩
theorem NH.off {V:E} {u v:wF} (h:NH w V u v) (B j:Nat) (y:wF) (a:O (T w)+1<B):NH w (V.setCell ⟨B,j,N⟩ y) u v:=⟨h.1.off B j y al,h.2.1.off B j y al,h.2.2.setCell (p:=⟨B,j,N⟩) (by show O (T w)<=B;omega) y⟩
theorem NH.lt {V:E} {u v:wF} (h:NH w V u v):O (T w)+1<O (T V):=h.2.1.lt
variable {la lb:Kx} {rest:List Oper}
theorem ak1 (n:Nat) (j:n<=100000) (w:E):
  c6 184 #[Z N 0 0,J I (n:Nat)] w fun e w'=>∃v,e=yW v/\bW w' (O (T w)) v []/\da w w':=by
 obtain⟨i,c,g,k,z⟩:=eC Tryz.infoInt;by_cases h:n=0
 ·subst h;go_enter func184,ntmps184;go_wp2;go_ret;exact⟨_,rfl,⟨rfl,yd ⟨rfl,rfl⟩⟩,au _ _⟩
 ·have d:(Builtin.firstCells i.size 0 (Z N 0 0)).run prog w.drew=.ok ([]:List wF).toArray w.drew:=run_firstCells_none w.drew i.size 0 0 0
  have y:∀t,(Builtin.append_ #[27,3] t #[Z N 0 0,J I (n:Int)]).run prog w=.ok (Z (M ⟨O (T w),0,N⟩) (0+n) (grownCap w (0+n) 0 3)) (w.drew.alloc (yM (([]:List wF).toArray++Builtin.zeroCells (Value.int I 0).cells n++Builtin.zeroCells (Value.int I 0).cells (grownCap w (0+n) 0 3 - (0+n))) 3)):=fun t=>
   Lib.run_append_grow_zeros w 27 3 t 3 i (J I 0) I I underlying27 underlying3 c g N 0 0 [] d n al al al al (by rw[z];omega) (QN al (by rw[z];omega))
  have b:0+n<=grownCap w (0+n) 0 3:=grownCap_ge w _ _ _;have P:=grownCap_le_maxLen w (0+n) 0 3 (by unfold maxLen;omega);rw[bQ] at y b P;obtain⟨G,a⟩:∃G,G=grownCap w n 0 3:=⟨_,rfl⟩;rw[<- a] at y b P;have f:=Fa P;have B9:G<=9223372036854775807:=by unfold maxLen at P;omega
  have m:(0:Int)<(n:Int):=al
  clear d a P;go_enter func184,ntmps184;go_wp2_with (at_builtin;refine Lib.wpList_append_run _ rfl _ _ _ _ rfl _ _ rfl rfl _ _ (y _) ?_)
  go_ret;refine⟨_,rfl,⟨rfl,yk ⟨O (T w),G,_,rfl,ah _,dU w.drew _,aV _,f.o,?_,aE⟩⟩,((au _ w).drew).alloc (ah _) _⟩;simp[size_zeroCells];omega
theorem CU {o:Oper} {a:Act} (t:o.guard=N) (s x:Operand)
  (m:o.op=.call {callee:=.builtin .append,args:= #[s,x],argTypes:= #[27,27]}) (base:Nat) (v:wF) (xs la:Kx) (hs:a.eval s=v) (n:bW w base v xs) (p:Kd) (ca:Nat) (q:a.eval x=Z p (C la) ca) (k:aB w p la) (D:p=N ->ca=0) (Bb:C xs+C la<=100000) (L:base<=O (T w))
  (h:∀v' w',bW w' base v' (xs++la) ->w.grownBy w' v.ownBlock ->wpList prog ops Q rest (a.put o.dst v') w'):wpList prog ops Q (o::rest) a w:=by
 obtain⟨r,f,H,Bh,K⟩:=eC Tryz.infoInt;cases p with
 |none=>
  have A:la=[]:=by
   cases la with
   |nil=>rfl
   |cons x l=>obtain⟨g,o,e,_⟩:=k 0 aE;cases e
  subst A;have c:=D rfl;subst c;have d:=h v w (by rw[kq];exact n) ⟨rfl,rfl,rfl,ah _,fun _ _ _=>rfl⟩;exact wpList_append_own_none t s x 27 m base 3 r 1 underlying27 f v (C xs) _ hs n q d
 |some ad=>
  refine zg _ t s x 27 m base 3 r (J I 0) 1 8 underlying27 f H Bh K rfl a6 v (C xs) _ hs n ad (C la) ca (la.map (Value.int I)) q aE ?_ ?_ (by unfold maxLen;omega) al L ?_
  ·intro j u b;rw[k9] at b;cases hq:la[j]? with
   |none=>rw[hq] at b;cases b
   |some z=>
    rw[hq] at b;cases b;obtain⟨Bj,Bm⟩:=mO.1 hq;obtain⟨g,o',e,_,i⟩:=k j Bj;cases e;rw[<- Bm];rw[Addr.add];by_cases c:j=0
    ·subst c;simpa using i
    ·simpa [c] using i
  ·intro u F;obtain⟨z,_,rfl⟩:=aN.1 F;rfl
  ·intro v' w' d y _;refine h v' w' ?_ y;rw[bW,cE,gV];exact d
def BW (la lb:Kx) (i:Nat):Kx:=if i=0 then[] else if i=1 then la else la++lb
theorem bW.own {B:Nat} {v:wF} (h:bW w B v l):∀k,v.ownBlock=M k ->B<=k:=by
 intro k a;rcases h.2 with ⟨rfl,_⟩ |⟨g,cap,c,rfl,b,_⟩
 ·cases a
 ·cases a;exact b
theorem arB (l:C la<=1000) (k:C lb<=1000) (i:Nat):C (BW la lb i)<=2000:=by
 rw[BW];by_cases h:i=0
 ·rw[aw h];simp
 ·rw[aC h];by_cases a:i=1
  ·rw[aw a];omega
  ·rw[aC a,cE];omega
theorem acN (R:Nat) (a b:Kd) (ca cb:Nat) (la lb:Kx) (w:E) (x:R<O (T w)) (L:w.cell? ⟨R,0,N⟩=M (Z a (C la) ca)) (Bb:w.cell? ⟨R,1,N⟩=M (Z b (C lb) cb)) (y:aB w a la) (m:aB w b lb) (B9:a=N ->ca=0) (P:b=N ->cb=0) (r:C la<=1000) (D:C lb<=1000):
  c6 132 #[Z (M ⟨R,0,N⟩) 2 2] w fun e w'=>∃v,e=yW v/\bW w' (O (T w)) v (la++lb)/\da w w':=by
 have V:∀i,i< 2 ->∃(p:Kd) (c:Nat) (l:Kx),w.cell? ⟨R,i,N⟩=M (Z p (C l) c)/\aB w p l/\(p=N ->c=0)/\l.length<=1000/\BW la lb (i+1)=BW la lb i++l:=by
  intro i z;by_cases h:i=0
  ·subst h;exact⟨a,ca,la,L,y,B9,r,by simp[BW]⟩
  ·obtain rfl:i=1:=al
   exact⟨b,cb,lb,Bb,m,P,D,by simp[BW]⟩
 have Q:=Fa V;have q:=Fa (fun i=>arB r D i);have k:BW la lb 2=la++lb:=by simp[BW]
 rw[<- k];have A:BW la lb 0=[]:=rfl;clear V L Bb y m B9 P k r D;generalize BW la lb=F at *;go_enter func132,ntmps132;go_wp2_with fail
 go_loopw [3,11] (fun sv iv wr=>∃i:Nat,i<=2/\iv=J I i/\sv=J I (C (F i):Nat)/\wT (da w wr)) (fun _ iv _=>2 - (intOf iv).toNat)
 case atStart=>exact⟨0,al,rfl,by rw[A];rfl,au _ _⟩
 case round=>
  obtain⟨i,z,rfl,rfl,H⟩:=hrel;by_cases t:i<2
  ·obtain⟨p,c,l,d,Bj,n,hl,j⟩:=Q.o i t;have ad:=(H.o.cell (p:=⟨R,i,N⟩) x).trans d;have Bh:=q.o i;(have ai:IntKind.i64.wrap ((C (F i):Int)+(C l:Int))=(C (F i):Int)+(C l:Int):=by rw[js];omega);(have Bm:wT ((C (F (i+1)):Int)=(C (F i):Int)+(C l:Int)):=by show _=_;rw[j,cE];exact ET _ _);(have IE:(0:Int)<=(C (F i):Int)+(C l:Int):=al);clear j d n Bj;go_wp2;go_roundw
   case rel=>exact⟨i+1,al,bd,by rw[Bm.o],H⟩
   case measure=>simp[intOf];omega
  ·obtain rfl:i=2:=al
   have Bh:=q.o 2;go_wp2_with fail
   refine(ak1 (C (F 2)) al _).ae ?_;rintro e w1 ⟨v1,rfl,u,S⟩;have cM:=Fa (H.o.trans (S.ae H.o.size));have K:wT (∀b,b<=O (T wr) ->bW w1 b v1 []):=fun b m=>⟨u.1,u.2.imp id (fun ⟨g,cap,ab,h1,k,h3⟩=>⟨g,cap,ab,h1,aM m k,h3⟩)⟩;have B7:=Fa (K.o (O (T w)) H.o.size);clear u S K;go_wp2_with fail
   go_loopw [6,27] (fun sv iv wr=>∃i:Nat,i<=2/\iv=J I i/\wT (bW wr (O (T w)) sv (F i))/\wT (da w wr)) (fun _ iv _=>2 - (intOf iv).toNat)
   case atStart=>exact⟨0,al,rfl,by rw[A];exact B7,cM⟩
   case round=>
    obtain⟨i,z,rfl,s,f⟩:=hrel;by_cases t:i<2
    ·obtain⟨p,c,l,d,Bj,n,hl,j⟩:=Q.o i t;have ad:=(f.o.cell (p:=⟨R,i,N⟩) x).trans d;have Bh:=q.o i;have X:=Fa (Bj.aa f.o);have Y:=Fa n;have Bm:=Fa j;have uL:=Fa s.o.own;clear j d n Bj;go_wp2_with (at_builtin;refine CU rfl _ _ rfl (O (T w)) _ (F i) l rfl s.o p c rfl X.o Y.o al f.o.size ?_;intro v' w2 U Ba)
     have gQ:=Fa U;have aY:=Fa (f.o.grown Ba f.o.size uL.o);clear U Ba;go_roundw
     case rel=>exact⟨i+1,al,bd,by rw[Bm.o];exact gQ,aY⟩
     case measure=>simp[intOf];omega
    ·obtain rfl:i=2:=al
     go_wp2;go_ret;exact⟨_,rfl,s.o,f.o⟩
theorem rR (w:E) (u:Int):aB (w.alloc (yM #[J I u] 3)) (M ⟨O (T w),0,N⟩) [u]:=fun k h=>by
 obtain rfl:k=0:=by simp at h;omega
 exact⟨O (T w),0,rfl,aE,(bF w _ _).cell⟩
theorem bW.under {B:Nat} {v:wF} (h:bW w B v l) (e:da w w'):bW w' B v l:=by
 refine⟨h.1,h.2.imp id ?_⟩;rintro⟨g,cap,r,b,c,a,d⟩;exact⟨g,cap,r,b,c,(e.block g (cS.1 a).1).trans a,d⟩
theorem arw {o:Ja} (h:v∈o):iX P o v=false:=by simp[iX,h]
theorem arv {o p:Ja} (a:P.getD v []=p) (h:¬∀u∈p,u∈o):iX P o v=false:=by rw[iX,a,cX h,Bool.and_false]
theorem aru {o p:Ja} (b:P.getD v []=p) (h:¬v∈o) (a:∀u∈p,u∈o):iX P o v=true:=by rw[iX,b,cJ a,cX h];rfl
theorem anp (G c:Nat) (P:List Ja) (w:E) (s:dt w G (P.map aA)) (hn:C P<=8) (r:∀p∈P,∀u∈p,u<8):
  c6 180 #[Z (M ⟨G,0,N⟩) (C P) c] w fun e w'=>∃x,e=yW x/\bW w' (O (T w)) x (iL (bj P (C P)))/\da w w':=by
 obtain⟨i0,cC,aq,av,ax⟩:=eC Tryz.infoInt;have U:=Fa s
 have HP:wT (∀i,i<C P ->(∀u∈P.getD i [],u<8)/\∃h:i<C (P.map aA),(P.map aA)[i]=aA (P.getD i [])):=fun i l=>by
  have e:P.getD i []=P[i]:=by rw[cF,a7 l];rfl
  rw[e];exact⟨r _ (bU l),by simpa using l,aE⟩
 have d:wT (∀k,∀u∈bj P k,u<8):=fun k u A=>aT (Ij P k u A) hn;have X:=Fa (KD P);have yO:wT (∀k v,v<C P ->iX P (bj P k) v=y6 ->(∀u,u< v ->iX P (bj P k) u=xd) ->bj P (k+1)=bj P k++[v]):=fun k v g a h3=>Sh (anX g a h3);have an:wT (∀k,k<=C P ->(∀u,u<C P ->iX P (bj P k) u=xd) ->bj P (C P)=bj P k):=fun k g a=>anq (anY a) g;have y:wT (bj P 0=[]):=rfl;generalize hF:bj P=F at *;clear s r hF;go_enter func180,ntmps180;go_wp2_with fail
 go_step3
 go_wp2_with (first
  |(at_make;refine wpList_make_own _ rfl _ _ 27 rfl (O (T w)) 3 i0 (J I 0) 1 underlying27 cC aq av I I _ (C P) rfl rfl bd (by rw[ax];omega) (by unfold maxLen;omega) (ah _) ?_;intro L B9 Ba))
 have Bj:wT (bW L (O (T w)) (Z (M ⟨O (T w),0,N⟩) 0 (C P)) []):=B9;have q:wT (da w L):=(au _ w).grown Ba (ah _) (fun k e=>by cases e);clear B9 Ba;go_wp2_with fail
 go_step3
 go_wp2_with fail
 go_loopw [3,4,12] (fun sv lv iv wr=>∃k:Nat,k<=C P/\iv=J I k/\sv=J yE (aA (F k):Nat)/\wT (bW wr (O (T w)) lv (iL (F k)))/\wT (da w wr)) (fun _ _ iv _=>C P - (intOf iv).toNat)
 case atStart=>exact⟨0,aV _,rfl,by rw[y.o];rfl,by rw[y.o];exact Bj,q⟩
 case round=>
  obtain⟨k,hk,rfl,rfl,R,H⟩:=hrel;clear Bj q;by_cases ay:k<C P
  ·have ao:=Fa (U.o.aa H.o U.o.lt);go_wp2_with fail
   go_loopw [3,4,16] (fun sv lv jv wq=>∃v:Nat,v<=C P/\jv=J I v/\sv=J yE (aA (F k):Nat)/\lv=u4/\wT (∀u,u< v ->iX P (F k) u=xd)/\wq=wr) (fun _ _ jv _=>C P - (intOf jv).toNat)
   case atStart=>exact⟨0,aV _,rfl,rfl,rfl,fun u h=>absurd h al,rfl⟩
   case round=>
    obtain⟨v,hv,rfl,rfl,rfl,f,rfl⟩:=hrel;by_cases Q:v<C P
    ·obtain⟨Y,Bb,t⟩:=HP.o v Q;have c0:=ao.o.cell v Bb;rw[t] at c0;have ak:=Fa Y;have ab:wT (v∈F k ->iX P (F k) v=xd):=arw;have ad:wT (¬(∀u∈P.getD v [],u∈F k) ->iX P (F k) v=xd):=arv rfl;have ai:wT (¬v∈F k ->(∀u∈P.getD v [],u∈F k) ->iX P (F k) v=y6):=aru rfl
     have K:wT (iX P (F k) v=xd ->∀u,u<v+1 ->iX P (F k) u=xd):=fun h u A=>by
      rcases dX u v with a |a
      ·exact f.o u a
      ·obtain rfl:u=v:=al
       exact h
     clear Y Bb t;generalize P.getD v []=p at *;go_wp2_with fail
     refine(Ko (F k) v _ (d.o k) al).ae ?_;rintro e w3 ⟨rfl,rfl⟩;by_cases n:v∈F k
     ·rw[cJ n];have Bm:=Fa (K.o (ab.o n));clear n;go_wp2;go_roundw
      case rel=>exact⟨v+1,al,bd,rfl,rfl,Bm,trivial⟩
      case measure=>simp[intOf];omega
     ·rw[cX n];have V:=Fa n;clear n;go_wp2_with fail
      refine(aly (F k) p _ (d.o k) ak.o).ae ?_;rintro e m ⟨rfl,rfl⟩;by_cases b:∀u∈p,u∈F k
      ·rw[cJ b];have j:=yO.o k v Q (ai.o V.o b) f.o;(have B7:wT (aA (v::F k)=aA (F (k+1))):=Su fun z=>by rw[j,bY,bE,bA];exact or_comm);(have aj:wT (iL (F (k+1))=iL (F k)++[(v:Int)]):=by show _=_;rw[j,Yj];rfl)
       have Mr:wT (C (iL (F k))<=8):=by
        have:=X.o k;show C (iL (F k))<=8;rw[bR];omega
       clear b j;have uL:=Fa R.o.own;have ru:wT (bW (m.alloc (yM #[J I (v:Nat)] 3)) (O (T w)) _ (iL (F k))):=He R.o _;have S:=Fa (H.o.alloc H.o.size (yM #[J I (v:Nat)] 3));have mG:=Fa (rR m (v:Nat));go_wp2_with (at_builtin;refine CU rfl _ _ rfl (O (T w)) _ (iL (F k)) [((v:Nat):Int)] rfl ru.o (M ⟨O (T m),0,N⟩) 1 rfl mG.o (fun e=>by cases e) (by have:=Mr.o;simp;omega) S.o.size ?_;intro v' w5 Bh D)
       have xF:=Fa Bh;have fp:=Fa (S.o.grown D S.o.size uL.o);clear Bh D;refine(Kn (F k) v _ (d.o k) al).ae ?_;rintro e w6 ⟨rfl,rfl⟩;rw[B7.o];go_wp2;go_roundw
       case rel=>exact⟨k+1,al,bd,rfl,by rw[aj.o];exact xF,fp⟩
       case measure=>simp[intOf];omega
      ·rw[cX b];have Bm:=Fa (K.o (ad.o b));clear b;go_wp2;go_roundw
       case rel=>exact⟨v+1,al,bd,rfl,rfl,Bm,trivial⟩
       case measure=>simp[intOf];omega
    ·obtain rfl:v=C P:=al
     have Bm:=Fa (an.o k hk f.o);go_wp2;(try rw[Exit.noGoto_ret]);go_ret;exact⟨_,rfl,by rw[Bm.o];exact R.o,H.o⟩
  ·obtain rfl:k=C P:=al
   go_wp2;(try rw[Exit.noGoto_ret]);go_ret;exact⟨_,rfl,R.o,H.o⟩
variable {z:wF}
abbrev Vr:Type:=ByteArray×List ByteArray
def tB (w:E) (a:Kd) (V:List Vr):Prop:=∀k (h:k<C V),∃g o b c,a=M ⟨g,o,N⟩/\g<O (T w)/\w.cell? ⟨g,o+k*2,N⟩=M (zK V[k].1)/\w.cell? ⟨g,o+k*2+1,N⟩=M (Z b V[k].2.length c)/\jM w b V[k].2/\V[k].2.length<=c
theorem tB.aa {V:List Vr} (h:tB w a V) (d:da w w'):tB w' a V:=fun k n=>by
 obtain⟨g,o,b,c,f,e,i,j,l,m⟩:=h k n;exact⟨g,o,b,c,f,aT e d.size,(d.cell (p:=⟨g,o+k*2,N⟩) e).trans i,(d.cell (p:=⟨g,o+k*2+1,N⟩) e).trans j,l.aa d,m⟩
abbrev NC (x y z:wF):Obj:=yM #[x,y,z] 26
abbrev VC (x y:wF):Obj:=yM #[x,y] 60
def cj (w:E) (g:Nat) (x y z:wF):Prop:=w.heap[g]? =M (yM #[x,y,z] 26 (0,0))
theorem cj.at (h:O (T w)=g) (x y z:wF):cj (w.alloc (NC x y z)) g x y z:=by subst h;exact dU w _
theorem cj.lt {x:wF} (h:cj w g x y z):g<O (T w):=(cS.1 h).1
theorem cj.aa {b:Nat} {x:wF} (h:cj w g x y z) (a:Below b w w') (c:g<b):cj w' g x y z:=(a.block g c).trans h
theorem cj.cells {x:wF} (h:cj w g x y z):w.cell? ⟨g,0,N⟩=M x/\w.cell? ⟨g,1,N⟩=M y/\w.cell? ⟨g,2,N⟩=M z:=by
 refine⟨?_,?_,?_⟩<;>(rw[ba w g _ _ _ (0,0) h];rfl)
theorem Ka (w:E) (x y:wF):(w.alloc (VC x y)).cell? ⟨O (T w),0,N⟩=M x/\(w.alloc (VC x y)).cell? ⟨O (T w),1,N⟩=M y:=by
 have h:(w.alloc (VC x y)).heap[O (T w)]? =M (yM #[x,y] 60 (0,0)):=dU w _;exact⟨by rw[ba _ _ _ _ _ (0,0) h];rfl,by rw[ba _ _ _ _ _ (0,0) h];rfl⟩
def ag (V:List Vr):Ja:=V.map fun x=>x.2.length
theorem lq (V:List Vr):C (ag V)=C V:=by simp[ag]
theorem Nk {V:List Vr} (h:i<C V):(ag V)[i]? =M V[i].2.length:=by simp[ag,h]
theorem NF (a b c:Kd) (ca cb cc n m:Nat) (V:List Vr) (w:E) (h:tB w a V) (hV:C V<=5000):
  c6 91 #[zd #[Z a (C V) ca,Z b n cb,Z c m cc]] w fun e w'=>∃G,e=yW (Z (M ⟨G,0,N⟩) (C V) (C V))/\w.heap.size<=G/\cP w' G (ag V)/\da w w':=by
 obtain⟨i0,cC,ab,ad,ai⟩:=eC Tryz.infoInt;have Q:=Fa h;have Ba:wT (∀i (h:i<C V),(ag V)[i]? =M V[i].2.length):=fun i h=>Nk h;have A:=lq V;generalize ag V=ds at *;clear h;have j:=cj.at (w:=w) rfl (Z a (C V) ca) (Z b n cb) (Z c m cc);have q:=(au _ w).alloc (ah _) (NC (Z a (C V) ca) (Z b n cb) (Z c m cc));obtain⟨f, -, -⟩:=j.cells;have zQ:=j.lt;go_enter func91,ntmps91;go_upto_region 1 with fail
 generalize (w.alloc (NC (Z a (C V) ca) (Z b n cb) (Z c m cc)))=d at *
 go_wp2_with (first
  |(at_make;refine oK _ rfl _ _ 27 rfl (O (T d)) 3 i0 (J I 0) 1 underlying27 cC ab ad I I _ _ (C V) rfl rfl bd bd (by rw[ai];omega) (by unfold maxLen;omega) (ah _) ?_;intro o Bb B9;have r:da d o:=(au _ d).grown B9 (ah _) (fun k e=>by cases e);have X:=(j.aa r zQ).cells.1;clear f))
 have s:=sB Bb;rw[KO] at s;have t:wT (cP o (O (T d)) (List.replicate (C V) 0)):=s;have Y:wT (da w o):=q.trans (r.ae q.size);have Bm:=q.size;clear Bb B9 s r X;go_loopw [13] (fun iv wr=>∃i:Nat,i<=C V/\iv=J I i/\wT (cP wr (O (T d)) (sW ds i))/\wT (da w wr)) (fun iv _=>C V - (intOf iv).toNat)
 case atStart=>exact⟨0,aV _,rfl,by rw[adU,A];exact t,Y⟩
 case round=>
  obtain⟨i,hi,rfl,R,H⟩:=hrel;clear t Y;by_cases L:i<C V
  ·obtain⟨g,aj,x,y,rfl,hg,f,B7, -, -⟩:=(Q.o.aa H.o) i L;obtain⟨K,Bh⟩:=mO.1 (Ba.o i L);have u:=Fa (adV ds K);rw[Bh] at u;generalize V[i]=v at *;obtain⟨F,vs⟩:=v;simp only at f B7 u;obtain⟨d0,d1⟩:=Ka wr (zK F) (Z x (C vs) y);have Bj:=(au _ wr).alloc (ah _) (VC (zK F) (Z x (C vs) y));have D:=R.o.aa Bj R.o.lt;have k0:=D.cell i (by rw[R9 _ al];omega);have f0:=D.fz i;have S:=D.set i (C vs);rw[u.o] at S;have U:=Fa S;have P:=Fa ((H.o.trans (Bj.ae H.o.size)).setCell (p:=⟨O (T d),i,N⟩) Bm (J I (C vs:Nat)));generalize (sW ds i)[i]'(by rw[R9 _ al];omega)=z at *;clear K Bh Bj D S;go_wp2;go_roundw
   case rel=>exact⟨i+1,al,bd,U,P⟩
   case measure=>simp[intOf];omega
  ·obtain rfl:i=C V:=al
   have l:=R.o;rw[<- A,adW] at l;have eh:=Fa l;clear l;go_wp2;go_ret;exact⟨O (T d),rfl,Bm,eh.o,H.o⟩
variable {V:List Vr}
theorem apI {l:Ja} {x:Nat} (h:l[i]? =M x):iL (l.take (i+1))=iL (l.take i)++[(x:Int)]:=by
 obtain⟨a,b⟩:=mO.1 h;rw[gR a,b,Yj];rfl
theorem alZ (a b c:Kd) (ca cb cc n m:Nat) (V:List Vr) (w:E) (h:tB w a V) (hV:C V<=5000):
  c6 56 #[zd #[Z a (C V) ca,Z b n cb,Z c m cc]] w fun e w'=>∃x,e=yW x/\bW w' (O (T w)) x (iL (ag V))/\da w w':=by
 obtain⟨i0,B7,ad,ai,aj⟩:=eC Tryz.infoInt;have F:=Fa h;have q:wT (∀i (h:i<C V),(ag V)[i]? =M V[i].2.length):=fun i h=>Nk h;have eY:=lq V;generalize ag V=ds at *;clear h;have j:=cj.at (w:=w) rfl (Z a (C V) ca) (Z b n cb) (Z c m cc);have L:=Fa ((au _ w).alloc (ah _) (NC (Z a (C V) ca) (Z b n cb) (Z c m cc)));go_enter func56,ntmps56;go_wp2_with fail
 generalize (w.alloc (NC (Z a (C V) ca) (Z b n cb) (Z c m cc)))=B9 at *;have f:=Fa j;clear j;go_loopw [3,4] (fun xv iv wr=>∃i:Nat,i<=C V/\iv=J I i/\wT (bW wr (O (T w)+1) xv (iL (ds.take i)))/\wT (Below (O (T w)+1) B9 wr)) (fun _ iv _=>C V - (intOf iv).toNat)
 case atStart=>exact⟨0,aV _,rfl,⟨rfl,yd ⟨rfl,rfl⟩⟩,au _ _⟩
 case round=>
  obtain⟨i,hi,rfl,R,H⟩:=hrel;have U:=f.o.aa H.o al;obtain⟨Y, -, -⟩:=U.cells;have ab:=f.o.lt;have y:wT (da w wr):=L.o.trans (H.o.ae al);by_cases l:i<C V
  ·obtain⟨g,o,Ba,X,rfl,hg, -,s, -, -⟩:=(F.o.aa y.o) i l;have d:=Fa (apI (q.o i l))
   have Bh:wT (C (iL (ds.take i))<=5000):=by
    show C (iL (ds.take i))<=5000;rw[bR,fh];omega
   generalize V[i]=v at *;obtain⟨nm,vs⟩:=v;simp only at s d;have Bb:=Fa R.o.own;have K:wT (bW (wr.alloc (yM #[J I (C vs:Nat)] 3)) (O (T w)+1) _ (iL (ds.take i))):=He R.o _;have Q:O (T w)+1<=O (T wr):=U.lt;have t:=Fa (H.o.alloc Q (yM #[J I (C vs:Nat)] 3));have Bj:=Fa (rR wr (C vs:Nat));(have S:O (T w)+1<=O (T (wr.alloc (yM #[J I (C vs:Nat)] 3))):=by simp;omega);clear U;go_wp2_with (at_builtin;refine CU rfl _ _ rfl (O (T w)+1) _ (iL (ds.take i)) [((C vs:Nat):Int)] rfl K.o (M ⟨O (T wr),0,N⟩) 1 rfl Bj.o (fun e=>by cases e) (by have:=Bh.o;simp;omega) S ?_;intro v' w3 r k)
   have Bm:=Fa r;have z:=Fa (t.o.grown k S Bb.o);clear r k;go_roundw
   case rel=>exact⟨i+1,al,bd,by rw[d.o];exact Bm,z⟩
   case measure=>simp[intOf];omega
  ·obtain rfl:i=C V:=al
   have p:=R.o;rw[kO al] at p;have u:=Fa (show bW wr (O (T w)) _ (iL ds) from ⟨p.1,p.2.imp id fun ⟨g,cap,P,A,h2,D⟩=>⟨g,cap,P,A,al,D⟩⟩);clear p U;go_wp2;go_ret;exact⟨_,rfl,u.o,y.o⟩
def qE (w:E) (g:Nat) (l:List ByteArray):Prop:=w.heap[g]? =M (yM (l.map Value.string).toArray 9 (0,0))
theorem qE.cell {l:List ByteArray} (h:qE w g l) (j:Nat) (a:j<C l):w.cell? ⟨g,j,N⟩=M (zK l[j]):=by
 rw[ba w g j _ _ (0,0) h];simp[a]
theorem qE.fz {l:List ByteArray} (h:qE w g l) (j:Nat):w.frozen? ⟨g,j,N⟩=false:=gj w g j _ _ h
theorem qE.lt {l:List ByteArray} (h:qE w g l):g<O (T w):=(cS.1 h).1
theorem qE.aa {b:Nat} {l:List ByteArray} (h:qE w g l) (a:Below b w w') (c:g<b):qE w' g l:=(a.block g c).trans h
theorem qE.set {l:List ByteArray} (h:qE w g l) (j:Nat) (y:ByteArray):qE (w.setCell ⟨g,j,N⟩ (zK y)) g (l.set j y):=by
 have a:=jW w g j _ _ (zK y) h;rw[qE,a];simp[Hm]
theorem qE.st {l:List ByteArray} (h:qE w g l):jM w (M ⟨g,0,N⟩) l:=fun k a=>⟨g,0,rfl,h.lt,by rw[bQ];exact h.cell k a⟩
theorem aoZ (n:Nat):(madeCells (Value.string ⟨#[]⟩).cells (n*1)).toList=(List.replicate n (⟨#[]⟩:ByteArray)).map Value.string:=by
 rw[show (Value.string ⟨#[]⟩).cells= #[Value.string ⟨#[]⟩] from rfl,MA,qM,QY]
theorem Tryz.infoStr:(prog.info? 9).map (fun i=>(i.zero,i.size,i.bytes))=M (M (zK ⟨#[]⟩),1,16):=ao
def xV (l:List ByteArray) (i:Nat):List ByteArray:=l.take i++List.replicate (C l - i) ⟨#[]⟩
theorem amT (l:List ByteArray):xV l 0=List.replicate (C l) ⟨#[]⟩:=by simp[xV]
theorem adP (l:List ByteArray) (h:i<=C l):C (xV l i)=C l:=by simp[xV];omega
theorem amV (l:List ByteArray):xV l (C l)=l:=by simp[xV]
theorem amU (l:List ByteArray) (h:i<C l):(xV l i).set i l[i]=xV l (i+1):=by
 have a:C l - i=(C l - (i+1))+1:=al
 have b:C (l.take i)=i:=by rw[fh];omega
 rw[xV,xV,a,MO,Hj _ _ al,b,rE,CM,gR h,p9];rfl
def lx (V:List Vr):List ByteArray:=V.map fun x=>x.1
theorem aeL (V:List Vr):C (lx V)=C V:=by simp[lx]
theorem aod (h:i<C V):(lx V)[i]? =M V[i].1:=by simp[lx,h]
theorem aoe (a:Kd) (ca:Nat) (V:List Vr) (w:E) (h:tB w a V) (B7:C V<=5000):
  c6 188 #[Z a (C V) ca] w fun e w'=>∃G,e=yW (Z (M ⟨G,0,N⟩) (C V) (C V))/\qE w' G (lx V)/\da w w':=by
 obtain⟨B9,L,P,Q,Ba⟩:=eC Tryz.infoStr;have F:=Fa h;have x:wT (∀i (h:i<C V),(lx V)[i]? =M V[i].1):=fun i h=>aod h;have l:=aeL V;generalize lx V=ds at *;clear h;go_enter func188,ntmps188
 go_wp2_with (first
  |(at_make;refine oK _ rfl _ _ 58 rfl (O (T w)) 9 B9 (zK ⟨#[]⟩) 1 underlying58 L P Q I I _ _ (C V) rfl rfl bd bd (by rw[Ba];omega) (by unfold maxLen;omega) (ah _) ?_;intro n r s))
 have c:=sB r;rw[aoZ] at c;have Y:wT (da w n):=(au _ w).grown s (ah _) (fun k e=>by cases e);have d:wT (qE n (O (T w)) (List.replicate (C V) ⟨#[]⟩)):=c;clear r s c;go_wp2_with fail
 go_loopw [11] (fun iv wr=>∃i:Nat,i<=C V/\iv=J I i/\wT (qE wr (O (T w)) (xV ds i))/\wT (da w wr)) (fun iv _=>C V - (intOf iv).toNat)
 case atStart=>exact⟨0,aV _,rfl,by rw[amT,l];exact d,Y⟩
 case round=>
  obtain⟨i,hi,rfl,R,H⟩:=hrel;clear d Y;by_cases t:i<C V
  ·obtain⟨g,o,f,j,rfl,hg,Bh,K, -, -⟩:=(F.o.aa H.o) i t;obtain⟨y,q⟩:=mO.1 (x.o i t);have u:=Fa (amU ds y);rw[q] at u;generalize V[i]=v at *;obtain⟨m,vs⟩:=v;simp only at Bh K u;obtain⟨U,X⟩:=Ka wr (zK m) (Z f (C vs) j);have Bj:=(au _ wr).alloc (ah _) (VC (zK m) (Z f (C vs) j));have D:=R.o.aa Bj R.o.lt;have k0:=D.cell i (by rw[adP _ al];omega);have f0:=D.fz i;have S:=D.set i m;rw[u.o] at S;have Bm:=Fa S;have A:=Fa ((H.o.trans (Bj.ae H.o.size)).setCell (p:=⟨O (T w),i,N⟩) (ah _) (zK m));generalize (xV ds i)[i]'(by rw[adP _ al];omega)=z at *;clear y q Bj D S;go_wp2;go_roundw
   case rel=>exact⟨i+1,al,bd,Bm,A⟩
   case measure=>simp[intOf];omega
  ·obtain rfl:i=C V:=al
   have b:=R.o;rw[<- l,amV] at b;have Bb:=Fa b;clear b;go_wp2;go_ret;exact⟨O (T w),rfl,Bb.o,H.o⟩
def sS (V:List Vr) (i:Nat):Int:=if 1<=(V.getD i (⟨#[]⟩,[])).2.length/\(V.getD i (⟨#[]⟩,[])).2.length<=4 then nZ (V.getD i (⟨#[]⟩,[])).2 else 2
def lT (V:List Vr):Int:=if nZ (lx V)=0 then j9 (sS V) (C V) else nZ (lx V)
theorem Z7 (h:i<C V):V.getD i (⟨#[]⟩,[])=V[i]:=by rw[cF,a7 h];rfl
def VSm (V:List Vr):Prop:=C V<=5000/\∀x∈V,x.1.size<=5000/\x.2.length<=5000/\∀s∈x.2,s.size<=5000
theorem ab1 (h:i<C V) (e:¬(1<=V[i].2.length/\V[i].2.length<=4)):sS V i=2:=by rw[sS,Z7 h,aC e]
theorem ab0 (h:i<C V) (e:1<=V[i].2.length/\V[i].2.length<=4):sS V i=nZ V[i].2:=by rw[sS,Z7 h,aw e]
theorem asZ (a:Kd) (ca:Nat) (V:List Vr) (w:E) (h:tB w a V) (hs:VSm V):
  c6 135 #[Z a (C V) ca] w (dj w (J I (lT V))):=by
 have Bh:=Fa h;have tH:=Fa hs;have hV:=hs.1;have u:wT (nZ (lx V)≠0 ->lT V=nZ (lx V)):=fun h=>aC h;have t:wT (nZ (lx V)=0 ->lT V=j9 (sS V) (C V)):=fun h=>aw h;have ai:=aeL V
 have ab:wT (∀s∈lx V,s.size<=140737488355328):=fun s D=>by
  obtain⟨x,hx,rfl⟩:=aN.1 D;have:=(hs.2 x hx).1;omega
 have Ba:=Fa (fun (V':E) (aq:tB V' a V)=>aoe a ca V V' aq hV)
 have Y:wT (∀(G:Nat) (V':E),qE V' G (lx V) ->c6 187 #[Z (M ⟨G,0,N⟩) (C V) (C V)] V' fun e w'=>e=yW (J I (nZ (lx V)))/\w'=V'):=fun G V' R=>by
  have:=ah8 (M ⟨G,0,N⟩) (C V) (lx V) V' R.st al al ab.o;rwa [ai] at this
 generalize lT V=ve at *;generalize nZ (lx V)=ne at *;clear h hs ai ab;go_enter func135,ntmps135;go_wp2_with fail
 refine(Ba.o _ Bh.o).ae ?_;rintro e w1 ⟨G,rfl,R,ad⟩;have L:=Fa R;have Bb:=Fa ad;clear R ad Ba;go_wp2_with fail
 refine(Y.o G _ L.o).ae ?_;rintro e w2 ⟨rfl,rfl⟩;by_cases f:ne=0
 ·subst f;have Bm:=Fa (t.o rfl);clear u t Y L;have F:wT (∀i,i<C V ->(∀j,j< i ->sS V j=0) ->∀k,sS V i=k ->k≠0 ->ve=k):=fun i Q hz k b A=>by rw[Bm.o,Pq hz (by rw[b];exact A) Q,b]
  have HZ:wT ((∀j,j<C V ->sS V j=0) ->ve=0):=fun h=>by rw[Bm.o];exact BX h
  have HL:=Fa (fun i h e=>ab1 (V:=V) (i:=i) h e);have K:=Fa (fun i h e=>ab0 (V:=V) (i:=i) h e);go_wp2_with fail
  go_loopw [15] (fun iv wr=>∃i:Nat,i<=C V/\iv=J I i/\wT (∀j,j< i ->sS V j=0)/\wT (da w wr)) (fun iv _=>C V - (intOf iv).toNat)
  case atStart=>exact⟨0,aV _,rfl,fun j h=>absurd h al,Bb⟩
  case round=>
   obtain⟨i,Q,rfl,U,d⟩:=hrel;clear Bb;by_cases l:i<C V
   ·obtain⟨g,av,y,z,rfl,hg,c0,c1,B7,uz⟩:=(Bh.o.aa d.o) i l;have r:=tH.o.2 V[i] (bU l);have p:=Fa (fun e=>F.o i l U.o 2 (HL.o i l e) a6);have c:=Fa (fun e k b A=>F.o i l U.o k ((K.o i l e).trans b) A);have P:=Fa (fun e (b:nZ V[i].2=0)=>V5 U.o ((K.o i l e).trans b));generalize V[i]=v at *;obtain⟨X,vs⟩:=v;simp only at c0 c1 B7 uz r p c P;obtain⟨d0,d1⟩:=Ka wr (zK X) (Z y (C vs) z);have Bj:=(au _ wr).alloc (ah _) (VC (zK X) (Z y (C vs) z));have S:=Fa (d.o.trans (Bj.ae d.o.size));have ak:=Fa (B7.aa Bj);have xD:=Fa r.2.2;have fQ:=r.2.1;clear Bj r B7;by_cases m:1<=C vs
    ·by_cases n:C vs<=4
     ·have B9:(1:Int)<=(C vs:Int):=al
      (have e2:(C vs:Int)<=4:=al);have aj:=Fa (c.o ⟨m,n⟩);have ao:=Fa (P.o ⟨m,n⟩);clear p c P;go_wp2_with fail
      refine(ah8 y z vs _ ak.o al uz (fun s D=>by have:=xD.o s D;omega)).ae ?_;rintro e w3 ⟨rfl,rfl⟩;generalize nZ vs=q at *;by_cases o:q=0
      ·subst o;have an:=Fa (ao.o rfl);go_wp2;go_roundw
       case rel=>exact⟨i+1,al,bd,an,S⟩
       case measure=>simp[intOf];omega
      ·have H:=Fa (aj.o q rfl o);(have ax:(q==0)=false:=by simpa using o);clear o;go_wp2;go_ret;exact⟨by rw[H.o];rfl,S.o⟩
     ·have H:=Fa (p.o fun h=>n h.2);(have B9:(1:Int)<=(C vs:Int):=al);(have e2:(4:Int)<(C vs:Int):=al);clear n p c P;go_wp2;go_ret;exact⟨by rw[H.o];rfl,S.o⟩
    ·have H:=Fa (p.o fun h=>m h.1);(have B9:(C vs:Int)<1:=al);clear m p c P;go_wp2;go_ret;exact⟨by rw[H.o];rfl,S.o⟩
   ·obtain rfl:i=C V:=al
    have H:=Fa (HZ.o U.o);go_wp2;go_ret;exact⟨by rw[H.o];rfl,d.o⟩
 ·have Bm:=Fa (u.o f);have BK:(ne==0)=false:=by simpa using f
  clear f u t;go_wp2;go_ret;exact⟨by rw[Bm.o];rfl,Bb.o⟩
def jf (l:List Fr):Bool:=(l.all fun f=>decide (¬a8 f<0))&&decide (bH l=1)
theorem ah3:kJ p 0<0↔p<0:=by
 rw[kJ];by_cases h:p<0
 ·rw[aw h];exact⟨fun _=>h,fun _=>a6⟩
 ·rw[aC h];by_cases e:p=0
  ·rw[aw e];exact⟨fun h=>absurd h a6,fun a=>absurd a h⟩
  ·rw[aC e];exact⟨fun h=>absurd h a6,fun a=>absurd a h⟩
theorem asQ:(kJ p 1==0)=decide (p=1):=by
 rw[wm,xL,eP,kJ];by_cases h:p<1
 ·rw[aw h];exact⟨fun h=>absurd h a6,fun e=>by rw[e] at h;exact absurd h a6⟩
 ·rw[aC h];by_cases e:p=1
  ·rw[aw e];exact⟨fun _=>e,fun _=>rfl⟩
  ·rw[aC e];exact⟨fun h=>absurd h a6,fun a=>absurd a e⟩
theorem alF {l:List Fr} (h:i<C l) (e:a8 l[i]<0):jf l=false:=by
 have:(l.all fun f=>decide (¬a8 f<0))=false:=by
  rw[MW];exact⟨l[i],bU h,by simpa using e⟩
 rw[jf,this];rfl
theorem alH {l:List Fr} (h:∀i (a:i<C l),¬a8 l[i]<0):jf l=decide (bH l=1):=by
 have:(l.all fun f=>decide (¬a8 f<0))=true:=by
  rw[fM];intro f b;obtain⟨i,a,rfl⟩:=iE b;exact cJ (h i a)
 rw[jf,this,Hs]
theorem adq:qw 1<=2:=by
 show (B 1).size+(B 1).size<=2;have:=VB;omega
theorem ard {l:List Fr} (h:i<C l) (w:fw l<=10000):l[i].2.1.size+l[i].2.2.size<=10000:=by have:=TV (bU h);omega
theorem apw (a:Kd) (ca:Nat) (l:List Fr) (w:E) (h:dH w a l) (d:fw l<=10000) (hn:C l<=10000):
  c6 190 #[Z a (C l) ca] w (dj w (zZ (jf l))):=by
 have F:=Fa h;have HW:=Fa d;have B9:=Fa (fun V:E=>Gd (k:=0) (w:=V) 0 0 rfl a6 (by rfl));have L:=Fa (fun V:E=>Gd (k:=1) (w:=V) 1 1 rfl a6 (by rfl));have S:=Fa (fun (V:E) (hV:dH V a l)=>arT a ca l V hV d hn);have HN:=Fa (fun i h e=>alF (l:=l) (i:=i) h e);have HA:=Fa (fun h=>alH (l:=l) h)
 have Q:wT (val (aW (bH l)) (nu (bH l)) (de (bH l))=bH l/\(nu (bH l)).size+(de (bH l)).size<=100000):=⟨kr _,by
  have h1:=T6 (ahg l);rw[wG];omega⟩
 have B7:wT (val (aW 0) (nu 0) (de 0)=0/\(nu 0).size+(de 0).size<=100000):=⟨kr _,by have:=Nr;rw[wG];omega⟩
 have q:wT (val (aW 1) (nu 1) (de 1)=1/\(nu 1).size+(de 1).size<=100000):=⟨kr _,by
  have h1:qw 1<=2:=adq;rw[wG];omega⟩
 generalize jf l=rb at *;clear h d;simp only[B1] at B9 L S;generalize aW 0=n at *;generalize nu 0=x at *;generalize de 0=y at *;generalize aW 1=on at *;generalize nu 1=ox at *;generalize de 1=oy at *;go_enter func190,ntmps190;go_wp2_with fail
 refine(B9.o _).ae ?_;rintro e m ⟨rfl,c⟩;have Bb:=Fa (c.alloc c.size (FC n x y));have U:=Fa (aL.new m n x y);have ai:=c.size;clear c;go_wp2_with fail
 generalize (m.alloc (FC n x y))=w2 at *;generalize (O (T m))=B at *;go_loopw [9] (fun iv wr=>∃i:Nat,i<=C l/\iv=J I i/\wT (∀j (b:j<C l),j< i ->¬a8 l[j]<0)/\wT (aL wr B n x y)/\wT (da w wr)) (fun iv _=>C l - (intOf iv).toNat)
 case atStart=>exact⟨0,aV _,rfl,fun j _ h=>absurd h al,U,Bb⟩
 case round=>
  obtain⟨i,hi,rfl,P,X,H⟩:=hrel;clear U Bb;by_cases t:i<C l
  ·obtain⟨g,ad,rfl,hg,c0,c1,c2⟩:=(F.o.aa H.o) i t;have pA:=ard t HW.o;have xH:=Fa (HN.o i t)
   have Er:wT (¬a8 l[i]< 0 ->∀j (b:j<C l),j<i+1 ->¬a8 l[j]<0):=fun h j b ux=>by
    rcases dX j i with v |v
    ·exact P.o j b v
    ·obtain rfl:j=i:=al
     exact h
   generalize l[i]=f at *;obtain⟨fn,fx,fy⟩:=f;simp only at c0 c1 c2 pA;have Bj:=(au _ wr).alloc (ah _) (FC fn fx fy);obtain⟨k0,k1,k2, -⟩:=(aL.new wr fn fx fy).facts;have z:=X.o.aa Bj X.o.lt;obtain⟨z0,z1,z2, -⟩:=z.facts;have Bh:=Fa z;have r:=Fa (H.o.trans (Bj.ae H.o.size));clear Bj z;go_wp2_with fail
   generalize (wr.alloc (FC fn fx fy))=w3 at *;refine(aan (w:=w3) (kJ (val fn fx fy) 0) rfl B7.o.1 rfl al B7.o.2).ae ?_;rintro e w4 ⟨rfl,o⟩;have Eg:=Fa (Bh.o.aa o Bh.o.lt);have A:=Fa (r.o.trans (o.ae r.o.size));clear k0 k1 k2 z0 z1 z2 o;by_cases K:val fn fx fy<0
   ·have Bm:=Fa (xH.o K);have hc:kJ (val fn fx fy) 0<0:=ah3.2 K;clear K;generalize kJ (val fn fx fy) 0=ab at *;go_wp2;go_ret;exact⟨by rw[Bm.o];rfl,A.o⟩
   ·have Bm:=Fa (Er.o K)
    have hc:0<=kJ (val fn fx fy) 0:=by
     have:¬kJ (val fn fx fy) 0<0:=fun h=>K (ah3.1 h);omega
    clear K;generalize kJ (val fn fx fy) 0=ab at *;go_wp2;go_roundw
    case rel=>exact⟨i+1,al,bd,Bm,Eg,A⟩
    case measure=>simp[intOf];omega
  ·obtain rfl:i=C l:=al
   have Bm:=Fa (HA.o fun j b=>P.o j b b);have QC:=Fa (asQ (p:=bH l));generalize bH l=s at *;go_wp2_with fail
   refine(S.o _ (F.o.aa H.o)).ae ?_;rintro e w5 ⟨rfl,Y⟩;have u:=Fa (H.o.trans (Y.ae H.o.size));clear Y;go_wp2_with fail
   refine(L.o _).ae ?_;rintro e w6 ⟨rfl,D⟩;have Ba:=Fa (u.o.trans (D.ae u.o.size));clear D;go_wp2_with fail
   refine(aan (w:=w6) (kJ s 1) Q.o.1 q.o.1 rfl Q.o.2 q.o.2).ae ?_;rintro e w7 ⟨rfl,R⟩;have G4:=Fa (Ba.o.trans (R.ae Ba.o.size));clear R;go_wp2;go_ret;exact⟨by rw[Bm.o, <- QC.o];rfl,G4.o⟩
theorem al1 (w:E):c6 29 #[J I 1] w (dj w (zd #[zZ (aW 1),zK (nu 1),zK (de 1)])):=by
 have:=Xa 1 w al al;exact this
theorem mj (h:gB L=y6):1<=C L/\L.length<=8/\kK L (C L)=y6/\Bd L=true:=by
 rw[gB,iu,iu,eP] at h;exact⟨h.1.1.1,h.1.1.2,h.1.2,h.2⟩
theorem aq7 (h:gB L=y6):∀p∈aH L,∀u∈p,u<8:=by
 obtain⟨e,a,b,f⟩:=mj h;intro p d;obtain⟨l,c,rfl⟩:=aN.1 d;exact ada a (fM.1 b l c)
theorem TU (a:Kd) (ca:Nat) (L:List Kx) (w:E) (h:dP w a L) (n:∀l∈L,C l<=140737488355328):
  c6 126 #[Z a (C L) ca] w fun e w'=>da w w'/\
   ((bq L=0/\∃G,e=yW (zp #[Z (M ⟨G,0,N⟩) (C L) (C L),J I 0])/\w.heap.size<=G/\dt w' G (jw L))∨(bq L≠0/\e=yW (zp #[Z N 0 0,J I (bq L)]))):=by
 have F:=Fa h;have R:=Fa (fun (V:E) (j:dP V a L)=>adf a ca L V j n);have r:wT (gB L=xd ->bq L=11):=fun h=>aC (by rw[h];decide);have Bj:wT (gB L=y6 ->C (bj (aH L) (C L))<C L ->bq L=10):=fun f i=>by rw[bq,aw f,aw i]
 have A:wT (gB L=y6 ->¬C (bj (aH L) (C L))<C L ->bq L=0):=fun f i=>by rw[bq,aw f,aC i]
 have B9:wT (gB L=y6 ->∀(G c:Nat) (V:E),dt V G (jw L) ->c6 180 #[Z (M ⟨G,0,N⟩) (C L) c] V fun e w'=>∃x,e=yW x/\bW w' (O (T V)) x (iL (bj (aH L) (C L)))/\da V w'):=fun g G c V j=>by
  have s:=(mj g).2.1;have:=anp G c (aH L) V (by rw[<- Iu];exact j) (by rw[j5];exact s) (aq7 g);rwa [j5] at this
 generalize bq L=ge at *;generalize jw L=P at *;clear h n;go_enter func126,ntmps126;go_wp2_with fail
 refine(R.o _ F.o).ae ?_;rintro e Q ⟨b,⟨g,G,rfl,z,U⟩ |⟨g,v,rfl⟩⟩
 ·have u:=Fa U;have K:=Fa (B9.o g G (C L));have H:=Fa b;have y:=Fa g;clear U b g B9 R;go_wp2_with fail
  refine(K.o _ u.o).ae ?_;rintro e S ⟨x,rfl,p,k⟩;obtain⟨d,Bb,rfl,_⟩:=p.ints;have Y:=Fa (H.o.trans (k.ae H.o.size));have Bh:=Fa (u.o.aa k u.o.lt);have q:wT (C (iL (bj (aH L) (C L)))=C (bj (aH L) (C L))):=bR _;clear p k;by_cases t:C (bj (aH L) (C L))<C L
  ·have Bm:=Fa (Bj.o y.o t);(have D:C (iL (bj (aH L) (C L)))<C L:=by rw[q.o];exact t);clear t;generalize (C (iL (bj (aH L) (C L))))=m at *;go_wp2;go_ret2;exact⟨Y.o,yk ⟨by rw[Bm.o];decide,by rw[Bm.o];rfl⟩⟩
  ·have Bm:=Fa (A.o y.o t);(have D:¬C (iL (bj (aH L) (C L)))<C L:=by rw[q.o];exact t);clear t;generalize (C (iL (bj (aH L) (C L))))=m at *;go_wp2;go_ret2;exact⟨Y.o,yd ⟨Bm.o,G,rfl,z,Bh.o⟩⟩
 ·have Bm:=Fa (r.o g);have H:=Fa b;clear g b;go_wp2;go_ret2;exact⟨H.o,yk ⟨by rw[Bm.o];decide,by rw[Bm.o];rfl⟩⟩
theorem aq6 (a:Kd) (ca:Nat) (L:List Kx) (w:E) (h:dP w a L) (c:∀l∈L,C l<=140737488355328):
  c6 134 #[Z a (C L) ca] w (dj w (J I (bq L))):=by
 have F:=Fa h;have H:=Fa (fun (V:E) (d:dP V a L)=>TU a ca L V d c);generalize bq L=ge at *;clear h c;go_enter func134,ntmps134;go_wp2_with fail
 refine(H.o _ F.o).ae ?_;rintro e i ⟨b,⟨rfl,G,rfl,f,U⟩ |⟨g,rfl⟩⟩
 ·clear U;go_wp2;go_ret;exact⟨rfl,b⟩
 ·clear g;go_wp2;go_ret;exact⟨rfl,b⟩
theorem agY (h1:1<=C L) (b:C L<=8) (h:∀i (a:i<C L),ei L[i] (C L)=y6/\¬i∈af L[i]):gB L=true:=by
 rw[gB,cJ (p:=1<=C L/\L.length<=8) ⟨h1,b⟩,aeE fun i a=>(h i a).2]
 have:kK L (C L)=true:=fM.2 fun l c=>by
  obtain⟨i,a,rfl⟩:=iE c;exact(h i a).1
 rw[this];rfl
theorem arz (t i v:Nat) (c:Kd) (cc:Nat) (lb:Array wF) (l:List Fr) (k val P:Nat) (x:P<C l) (w:E) (B9:t<O (T w)) (Bm:w.cell? ⟨t,1,N⟩=M (Z c (C l) cc)) (X:i<O (T w)) (F:w.cell? ⟨i,0,N⟩=M (.func (.func 219) #[] lb)) (Bb:v<O (T w)) (Bj:w.cell? ⟨v,0,N⟩=M (J I (val:Nat))) (A:dH w c l) (h1:Cw 100000 l)
  (z:∀V,da w V ->c6 219 (#[J I (k:Nat),J I (val:Nat)]++lb) V fun e w'=>e=yW (J I (P:Nat))/\da V w'):
  c6 174 #[J I (k:Nat),zR (M ⟨t,0,N⟩),zR (M ⟨i,0,N⟩),zR (M ⟨v,0,N⟩)] w (dj w (nC (qF (a8 (aQ l P))))):=by
 obtain⟨g,o,rfl,y,m,n,s⟩:=A P x;have Q:=h1 P x;rw[<- mr x] at m n s;have L:=Fa z;have H:=Fa (fun V:E=>Vy (w:=V) (a8 (aQ l P)) rfl (show (aQ l P).2.1.size+(aQ l P).2.2.size<=100000 by omega));rw[T1];generalize a8 (aQ l P)=r at *;clear A z h1 Q;generalize aQ l P=f at *;obtain⟨fn,fx,fy⟩:=f;simp only at m n s H;have b:aL (w.alloc (FC xd ⟨#[]⟩ ⟨#[]⟩)) (O (T w)) xd ⟨#[]⟩ ⟨#[]⟩:=aL.new w _ _ _;have a:da w (w.alloc (FC xd ⟨#[]⟩ ⟨#[]⟩)):=(au _ w).alloc (ah _) _;go_enter func174,ntmps174;go_upto_region 1 with fail
 generalize (w.alloc (FC xd ⟨#[]⟩ ⟨#[]⟩))=W at *;replace b:=b.drew;replace a:=a.drew;have Bh:∀u,da w u ->u.cell? ⟨t,1,N⟩=M (Z (M ⟨g,o,N⟩) (C l) cc)/\u.cell? ⟨i,0,N⟩=M (.func (.func 219) #[] lb)/\u.cell? ⟨v,0,N⟩=M (J I (val:Nat))/\u.cell? ⟨g,o+P*3,N⟩=M (zZ fn)/\u.cell? ⟨g,o+P*3+1,N⟩=M (zK fx)/\u.cell? ⟨g,o+P*3+2,N⟩=M (zK fy):=fun u h=>⟨(h.cell (p:=⟨t,1,N⟩) B9).trans Bm,(h.cell (p:=⟨i,0,N⟩) X).trans F,(h.cell (p:=⟨v,0,N⟩) Bb).trans Bj,(h.cell (p:=⟨g,_,N⟩) y).trans m,(h.cell (p:=⟨g,_,N⟩) y).trans n,(h.cell (p:=⟨g,_,N⟩) y).trans s⟩;have HELD:=Fa Bh;clear Bh m n s Bm F Bj;refine iK (S:=fun u=>u.cell? ⟨t,1,N⟩=M (Z (M ⟨g,o,N⟩) (C l) cc)/\u.cell? ⟨i,0,N⟩=M (.func (.func 219) #[] lb)/\u.cell? ⟨v,0,N⟩=M (J I (val:Nat))/\u.cell? ⟨g,o+P*3,N⟩=M (zZ fn)/\u.cell? ⟨g,o+P*3+1,N⟩=M (zK fx)/\u.cell? ⟨g,o+P*3+2,N⟩=M (zK fy)) ao (HELD.o _ a) (fun q=>?_);generalize W.drew=u0 at *;refine ar 0 (zR (M ⟨t,1,N⟩)) ?_;refine ar 1 (Z (M ⟨g,o,N⟩) (C l) cc) ?_;refine ar 2 (.func (.func 219) #[] lb) ?_;refine ar 3 (J I (k:Nat)) ?_;refine ar 4 (J I (val:Nat)) ?_;refine aF [5] (cA ?_ aG);intro j K;go_simp;refine(L.o _ a).ae ?_;rintro e u1 ⟨rfl,d⟩;replace b:=b.aa d b.lt;replace a:=a.trans (d.ae a.size)
 clear q;refine K.o _ _ (HELD.o _ a) (fun q=>?_);clear K j d;refine ar 6 (zR (M ⟨g,o+P*3,N⟩)) ?_;refine ar 7 (zd #[zZ fn,zK fx,zK fy]) ?_;refine aF [8] (cA ?_ aG);intro j K;go_simp;refine(H.o _).ae ?_;rintro e u2 ⟨rfl,d⟩;replace b:=b.aa d b.lt;replace a:=a.trans (d.ae a.size);clear q;refine K.o _ _ (HELD.o _ a) (fun q=>?_);clear K j d;try simp only[gE,aP]
 obtain⟨U,Y,B7,f0,f1,Ba⟩:=b.facts;refine aF [9] (cA ?_ aG);intro j K;go_simp;have R:=b.put (aW r) (nu r) (de r);have D:=eT a (g:=O (T w)) (ah _) (zZ (aW r)) (zK (nu r)) (zK (de r));generalize (((u2.setCell ⟨O (T w),0,N⟩ (zZ (aW r))).setCell ⟨O (T w),1,N⟩ (zK (nu r))).setCell ⟨O (T w),2,N⟩ (zK (de r)))=v9 at *;refine K.o _ _ (HELD.o _ D) (fun _=>eO ao ?_ _);clear K j q;go_wp2;refine dI (R.result rfl _ rfl) rfl ?_;exact⟨rfl,D⟩
theorem anl (t d v:Nat) (c:Kd) (cc:Nat) (lb:Array wF) (l:List Fr) (k val P:Nat) (x:P<C l) (w:E) (Bh:t<O (T w)) (D:w.cell? ⟨t,1,N⟩=M (Z c (C l) cc)) (X:d<O (T w)) (Bm:w.cell? ⟨d,0,N⟩=M (.func (.func 219) #[] lb)) (L:v<O (T w)) (F:w.cell? ⟨v,0,N⟩=M (J I (k:Nat))) (z:dH w c l)
  (y:∀V,da w V ->c6 219 (#[J I (k:Nat),J I (val:Nat)]++lb) V fun e w'=>e=yW (J I (P:Nat))/\da V w'):
  c6 170 #[J I (val:Nat),zR (M ⟨t,0,N⟩),zR (M ⟨d,0,N⟩),zR (M ⟨v,0,N⟩)] w (dj w (nC (aQ l P))):=by
 obtain⟨g,o,rfl,s,i,j,m⟩:=z P x;rw[<- mr x] at i j m;have Bj:=Fa y;clear z y;generalize aQ l P=f at *;obtain⟨fn,fx,fy⟩:=f;simp only at i j m;have b:aL (w.alloc (FC xd ⟨#[]⟩ ⟨#[]⟩)) (O (T w)) xd ⟨#[]⟩ ⟨#[]⟩:=aL.new w _ _ _;have a:da w (w.alloc (FC xd ⟨#[]⟩ ⟨#[]⟩)):=(au _ w).alloc (ah _) _;go_enter func170,ntmps170;go_upto_region 1 with fail
 generalize (w.alloc (FC xd ⟨#[]⟩ ⟨#[]⟩))=W at *;replace b:=b.drew;replace a:=a.drew;have H:∀u,da w u ->u.cell? ⟨t,1,N⟩=M (Z (M ⟨g,o,N⟩) (C l) cc)/\u.cell? ⟨d,0,N⟩=M (.func (.func 219) #[] lb)/\u.cell? ⟨v,0,N⟩=M (J I (k:Nat))/\u.cell? ⟨g,o+P*3,N⟩=M (zZ fn)/\u.cell? ⟨g,o+P*3+1,N⟩=M (zK fx)/\u.cell? ⟨g,o+P*3+2,N⟩=M (zK fy):=fun u h=>⟨(h.cell (p:=⟨t,1,N⟩) Bh).trans D,(h.cell (p:=⟨d,0,N⟩) X).trans Bm,(h.cell (p:=⟨v,0,N⟩) L).trans F,(h.cell (p:=⟨g,_,N⟩) s).trans i,(h.cell (p:=⟨g,_,N⟩) s).trans j,(h.cell (p:=⟨g,_,N⟩) s).trans m⟩;have HELD:=Fa H;clear H i j m D Bm F;refine iK (S:=fun u=>u.cell? ⟨t,1,N⟩=M (Z (M ⟨g,o,N⟩) (C l) cc)/\u.cell? ⟨d,0,N⟩=M (.func (.func 219) #[] lb)/\u.cell? ⟨v,0,N⟩=M (J I (k:Nat))/\u.cell? ⟨g,o+P*3,N⟩=M (zZ fn)/\u.cell? ⟨g,o+P*3+1,N⟩=M (zK fx)/\u.cell? ⟨g,o+P*3+2,N⟩=M (zK fy)) ao (HELD.o _ a) (fun q=>?_);generalize W.drew=U at *;refine ar 0 (zR (M ⟨t,1,N⟩)) ?_;refine ar 1 (Z (M ⟨g,o,N⟩) (C l) cc) ?_;refine ar 2 (.func (.func 219) #[] lb) ?_;refine ar 3 (J I (k:Nat)) ?_;refine ar 4 (J I (val:Nat)) ?_;refine aF [5] (cA ?_ aG);intro n K;go_simp;refine(Bj.o _ a).ae ?_;rintro e u1 ⟨rfl,r⟩;replace b:=b.aa r b.lt;replace a:=a.trans (r.ae a.size)
 clear q;refine K.o _ _ (HELD.o _ a) (fun q=>?_);clear K n r;refine ar 6 (zR (M ⟨g,o+P*3,N⟩)) ?_;refine ar 7 (zd #[zZ fn,zK fx,zK fy]) ?_;try simp only[gE,aP]
 obtain⟨Q,R,Ba,f0,f1,B9⟩:=b.facts;refine aF [8] (cA ?_ aG);intro n K;go_simp;have Bb:=b.put (fn) (fx) (fy);have A:=eT a (g:=O (T w)) (ah _) (zZ (fn)) (zK (fx)) (zK (fy));generalize (((u1.setCell ⟨O (T w),0,N⟩ (zZ (fn))).setCell ⟨O (T w),1,N⟩ (zK (fx))).setCell ⟨O (T w),2,N⟩ (zK (fy)))=Y at *;refine K.o _ _ (HELD.o _ A) (fun _=>eO ao ?_ _);clear K n q;go_wp2;refine dI (Bb.result rfl _ rfl) rfl ?_;exact⟨rfl,A⟩
variable {cc:Nat}
def NR (w V:E) (Ba R:Nat) (u v:wF):Prop:=aZ V Ba u v/\aZ V R (Z N 0 0) (Z N 0 0)/\da w V
theorem NR.step {V:E} {Ba R:Nat} {u v:wF} (h:NR w V Ba R u v) (b:da V V'):NR w V' Ba R u v:=⟨h.1.aa b h.1.lt,h.2.1.aa b h.2.1.lt,h.2.2.trans (b.ae h.2.2.size)⟩
theorem NR.fin {V:E} {Ba R:Nat} {u v:wF} (h:NR w V Ba R u v) (c:O (T w)<=R) {Fd:Kx} {b:Kd} {l:List Fr} {G:Nat} (o:i7 (O (T w)) b cb) (g:O (T w)<=G) (i:aB V b Fd) (r:ij V G l) (a:G≠R) (x y:wF) (d:x=Z b (C Fd) cb) (e:y=Z (M ⟨G,0,N⟩) (C l) cc):
  aZ ((V.setCell ⟨R,0,N⟩ x).setCell ⟨R,1,N⟩ y) R x y/\Av (O (T w)) Fd l 0 (yW (zp #[zd #[x,y],J I 0])) ((V.setCell ⟨R,0,N⟩ x).setCell ⟨R,1,N⟩ y)/\da w ((V.setCell ⟨R,0,N⟩ x).setCell ⟨R,1,N⟩ y):=by
 subst d e;exact⟨h.2.1.put _ _,⟨b,M ⟨G,0,N⟩,cb,cc,rfl,i.putT h.2.1 (slv _ _ _) (slv _ _ _) (slv _ _ _) _,((r.off _ 0 _ a).off _ 1 _ a).fr,o,i7.at g⟩,uF h.2.2 c _ _⟩
theorem eH:Up l n↔(∀x∈l,0<=x/\x<n)/\l.Pairwise (·<·):=by
 constructor
 ·intro h;refine⟨fun x e=>?_,zq.2 fun i j a b q=>h.lt i j b q⟩;obtain⟨i,a,rfl⟩:=iE e;exact h.each i a
 ·rintro⟨c,d⟩;exact⟨fun i a=>c _ (bU a),fun i j b a=>zq.1 d i j al b a⟩
theorem sZ {Fd:Kx} (h:Up Fd n) (v:Int):Up (cH Fd v) n:=by
 rw[eH] at h⊢;exact⟨fun x a=>h.1 x (dC.1 a).1,h.2.filter _⟩
theorem X6 {Fd:Kx} (h:Up Fd n):¬v∈af (cH Fd (v:Int)):=fun m=>by
 obtain⟨x,a,e⟩:=aN.1 m;have c:=(eH.1 (sZ h v)).1 x a;have b:=(dC.1 a).2;simp at b;omega
theorem ahf (S Fd rest:Ja) (v x:Nat) (l:List Fr):C (xe S Fd rest v x l)=cnt S rest:=by simp[xe]
theorem ary (S Fd rest:Ja) (v x:Nat) (l:List Fr) (h:k<C (xe S Fd rest v x l)):(xe S Fd rest v x l)[k]=qF (a8 (aQ l (pos S (aO (aX S rest k) v x) Fd))):=by simp[xe]
theorem xq.shape {W:E} {f:wF} {b:Kd} {Fb Fd:Kx} (h:xq W n m f a b ca cb Fb Fd other v):∃lb,f=.func (.func 219) #[] lb:=by
 obtain⟨_,_,_,e,_⟩:=h;exact⟨_,e⟩
theorem xq.top {W:E} {f:wF} {b:Kd} {Fb Fd:Kx} (h:xq W n m f a b ca cb Fb Fd other v):m<=O (T W):=by
 obtain⟨_,_,_,_,_,_,_,_,c,_⟩:=h;exact c
theorem xq.aa {W V:E} {f:wF} {b:Kd} {Fb Fd:Kx} (h:xq W n m f a b ca cb Fb Fd other v) (c:da W V):xq V n m f a b ca cb Fb Fd other v:=h.kept (Ca.of_below c h.top)
theorem abW {Fb Fd rest:Kx} {x K:Nat} (k:kX Fb Fd m=0) (b:K<cnt (af Fb) (af rest)) (c:x<sz (af Fb) v):pos (af Fb) (aO (aX (af Fb) (af rest) K) v x) (af Fd)<m:=by
 obtain⟨h,d,a⟩:=Gf k;rw[a];exact qQ _ (EY (fun u=>sD h.pos _ _ u b) c) _
theorem aks (a b c:Kd) (ca cb cc:Nat) (Fb Fd:Kx) (l:List Fr) (v x:Nat) (w:E) (hs:aB w a Fb) (hv:aB w b Fd) (U:dH w c l) (hn:C Fb<=140737488355328) (hm:C Fd<=140737488355328) (m:kX Fb Fd (C l)=0) (B7:Cw 100000 l) (aj:v<C Fb) (ak:x<sz (af Fb) v):
  c6 117 #[Z a (C Fb) ca,zd #[Z b (C Fd) cb,Z c (C l) cc],J I (v:Nat),J I (x:Nat)] w fun e w'=>Av (O (T w)) (cH Fd (v:Int)) (xe (af Fb) (af Fd) (af (cH Fd (v:Int))) v x l) 0 e w'/\da w w':=by
 obtain⟨R,n,an⟩:=Gf m;have Bj:=Fa (fun V h=>apu a ca Fb v x V h R aj);rw[cJ (show 0<=(x:Int)/\(x:Int)<(sz (af Fb) v:Int) by omega)] at Bj;have Dk:x<=4:=by have:=R.sz_le v;omega
 have Bm:=fun V u z=>Kg a b c ca cb cc (C l) Fb Fd V u z hn hm;rw[m] at Bm;have Bb:=Fa Bm;clear Bm;have h0:(0:Int)<=(v:Int):=al
 have u:(v:Int)<(C Fb:Int):=al
 have ay:C (cH Fd (v:Int))<=C Fd:=oT _ _;have az:=n.length;have uu:=R.eight;have Ba:=Fa R;have nL:=Fa n;have P:=Fa (sZ n (v:Int));have Jr:=Fa (X6 (v:=v) n);have kg:=Fa (fun K (hK:K<cnt (af Fb) (af (cH Fd (v:Int))))=>abW m hK ak);have mh:=ahf (af Fb) (af Fd) (af (cH Fd (v:Int))) v x l;have EC:=Fa (fun (k:Nat) (h:k<C (xe (af Fb) (af Fd) (af (cH Fd (v:Int))) v x l))=>ary (af Fb) (af Fd) (af (cH Fd (v:Int))) v x l h);have lJ:=Fa (fun V h=>abT b cb Fd (v:Int) V h al);generalize xe (af Fb) (af Fd) (af (cH Fd (v:Int))) v x l=F at *;generalize cH Fd (v:Int)=rest at *;have ad:=Fa (fun V d q u z=>acD a d b ca q cb Fb rest Fd v V u z R n aj);have HF:=Fa U;have HW:=Fa B7;have k5:=Fa mh;clear ak m R n an U B7 mh;have S:=Fa hs;have y:=Fa hv;have H:NR w (((w.alloc (TC (Z b (C Fd) cb) (Z c (C l) cc))).alloc (yM #[J I (x:Nat)] 3)).alloc (TC (Z N 0 0) (Z N 0 0))) (O (T w)) (O (T w)+1+1) (Z b (C Fd) cb) (Z c (C l) cc):=⟨((aZ.at (w:=w) rfl _ _).alloc _).alloc _,aZ.at aE _ _,(((au _ w).alloc (ah _) _).alloc aE _).alloc (by simp;omega) _⟩
 have X:Boxed (((w.alloc (TC (Z b (C Fd) cb) (Z c (C l) cc))).alloc (yM #[J I (x:Nat)] 3)).alloc (TC (Z N 0 0) (Z N 0 0))) (O (T w)+1) 3 (J I (x:Nat)):=by
  have h:=(bF (w.alloc (TC (Z b (C Fd) cb) (Z c (C l) cc))) 3 (J I (x:Nat))).alloc (TC (Z N 0 0) (Z N 0 0));rwa [eV] at h
 have s:=H.1.c0;have c1:=H.1.c1;go_enter func117,ntmps117;go_wp2_with fail
 generalize (((w.alloc (TC (Z b (C Fd) cb) (Z c (C l) cc))).alloc (yM #[J I (x:Nat)] 3)).alloc (TC (Z N 0 0) (Z N 0 0)))=W at *;refine(Bb.o _ (S.o.aa H.2.2) (y.o.aa H.2.2)).ae ?_;rintro e w1 ⟨rfl,Bh⟩;replace H:=H.step Bh;replace X:=bI X Bh;clear s c1 Bh;have cx:=X.cell;go_wp2_with fail
 refine(Bj.o _ (S.o.aa H.2.2)).ae ?_;rintro e w2 ⟨rfl,r⟩;replace H:=H.step r;replace X:=bI X r;clear cx r Bj Bb;have s:=H.1.c0;go_wp2_with fail
 refine(lJ.o _ (y.o.aa H.2.2)).ae ?_;rintro e w3 ⟨d,q,rfl,i,oq,L⟩;have JJ:=Fa (oq.up H.2.2.size);clear oq;replace H:=H.step L;replace X:=bI X L;clear s L lJ;have s:=H.1.c0;go_wp2_with fail
 refine(ad.o _ d q (S.o.aa H.2.2) (y.o.aa H.2.2)).ae ?_;rintro e j ⟨f,rfl,D,t⟩;have av:=H.2.1.lt;replace H:=H.step t;replace X:=bI X t;replace i:=i.aa t;obtain⟨lb,rfl⟩:=D.shape;have l8:=t.size;clear s t ad;generalize (O (T w3))=n3 at *;have Q:da j (j.alloc (yM #[.func (.func 219) #[] lb] 49)):=(au _ j).alloc (ah _) _;have Y:Boxed (j.alloc (yM #[.func (.func 219) #[] lb] 49)) (O (T j)) 49 (.func (.func 219) #[] lb):=bF j _ _;replace H:=H.step Q;replace X:=bI X Q;replace D:=D.aa Q;replace i:=i.aa Q;go_wp2_with fail
 clear Q;generalize (j.alloc (yM #[.func (.func 219) #[] lb] 49))=w5 at *;generalize (O (T j))=ab at *
 have zV:=T7 a d ca q Fb rest 174 #[zR (M ⟨O (T w),0,N⟩),zR (M ⟨ab,0,N⟩),zR (M ⟨O (T w)+1,0,N⟩)] (enters_of func174 ao rfl) F w5 (S.o.aa H.2.2) i Ba.o P.o k5.o (fun k m V g=>by
  rw[EC.o k m];have B9:k<cnt (af Fb) (af rest):=by rw[<- k5.o];exact m
  have A:=H.2.2.trans (g.ae H.2.2.size);refine arz (O (T w)) ab (O (T w)+1) c cc lb l k x _ (kg.o k B9) V (aT H.1.lt g.size) ((g.cell (p:=⟨O (T w),1,N⟩) H.1.lt).trans H.1.c1) (aT Y.lt g.size) (bI Y g).cell (aT X.lt g.size) (bI X g).cell (HF.o.aa A) HW.o ?_;intro V' ai;have r:=g.trans (ai.ae g.size);exact((D.aa r).calls (S.o.aa (A.trans (ai.ae A.size))) (i.aa r) Ba.o P.o nL.o Jr.o B9 Dk))
 have JE:=Fa zV;clear zV;refine JE.o.ae ?_;rintro e w6 ⟨G,rfl,hG,aq,Q⟩;have ax:=H.2.1.lt;replace H:=H.step Q;replace i:=i.aa Q;obtain⟨k0,k1,f0,f1⟩:=H.2.1.facts;obtain⟨e1,e2,e3⟩:=H.fin al (cb:=q) (cc:=F.length) JJ.o al i aq al (Z d (C rest) q) (Z (M ⟨G,0,N⟩) (C F) (C F)) rfl rfl;go_wp2;refine dI (e1.result2 rfl _ rfl) rfl ?_;exact⟨e2,e3⟩
def c5 (w:E) (B:Nat) (v:wF) (l:List Fr):Prop:=w.ownsRow B 63 3 v (C l) (dM l)
theorem c5.empty (w:E) (B:Nat):c5 w B (Z N 0 0) []:=⟨rfl,yd ⟨rfl,rfl⟩⟩
theorem c5.aa {B:Nat} {v:wF} {l:List Fr} (h:c5 w B v l) (e:da w w'):c5 w' B v l:=by
 refine⟨h.1,h.2.imp id ?_⟩;rintro⟨g,cap,r,b,c,a,d⟩;exact⟨g,cap,r,b,c,(e.block g (cS.1 a).1).trans a,d⟩
theorem c5.off {B:Nat} {v:wF} {l:List Fr} (h:c5 w B v l) (b j:Nat) (y:wF) (f:b<B):c5 (w.setCell ⟨b,j,N⟩ y) B v l:=by
 refine⟨h.1,h.2.imp id ?_⟩;rintro⟨g,cap,r,a,c,d,e⟩;exact⟨g,cap,r,a,c,(eW w ⟨b,j,N⟩ y g (by show g≠b;omega)).trans d,e⟩
theorem c5.own {B:Nat} {v:wF} {l:List Fr} (h:c5 w B v l):∀k,v.ownBlock=M k ->B<=k:=by
 intro k a;rcases h.2 with ⟨rfl,_⟩ |⟨g,cap,c,rfl,b,_⟩
 ·cases a
 ·cases a;exact b
theorem c5.fr {B:Nat} {v:wF} {l:List Fr} (h:c5 w B v l):∃d f,v=Z d (C l) f/\dH w d l:=by
 rcases h.2 with ⟨b,e⟩ |⟨g,cap,r,b,e,a,q,s,u,o⟩
 ·have:l=[]:=Ho.1 e;subst this;exact⟨N,0,b,fun k c=>absurd c aE⟩
 ·refine⟨_,_,b,fun k c=>?_⟩;obtain⟨i,m,n⟩:=LA l k c
  have t:∀j,j<C l*3 ->r[j]? =(dM l)[j]?:=fun j p=>by
   rw[<- o,sQ,aw p,wu]
  refine⟨g,0,rfl,(cS.1 a).1,?_,?_,?_⟩
  ·rw[ba w g _ _ _ (0,0) a,bQ,t _ al];exact i
  ·rw[ba w g _ _ _ (0,0) a,bQ,t _ al];exact m
  ·rw[ba w g _ _ _ (0,0) a,bQ,t _ al];exact n
theorem c5.slv {B:Nat} {v:wF} {l:List Fr} (h:c5 w B v l):bV v:=by
 obtain⟨d,c,e,_⟩:=h.fr;exact⟨d,_,c,e⟩
theorem ag8 (l:List Fr) (f:Fr):dM (l++[f])=dM l++[zZ f.1,zK f.2.1,zK f.2.2]:=by
 induction l with
 |nil=>rfl
 |cons x l ih=>simp only[gF,dM,ih]
theorem ajx {o:Oper} {a:Act} (q:o.guard=N) (s x:Operand)
  (m:o.op=.call {callee:=.builtin .append,args:= #[s,x],argTypes:= #[36,36]}) (base:Nat) (v:wF) (l:List Fr) (f:Fr) (hs:a.eval s=v) (y:c5 w base v l) (g:Nat) (n:a.eval x=Z (M ⟨g,0,N⟩) 1 1) (c:aL w g f.1 f.2.1 f.2.2) (D:C l+1<=100000) (A:base<=O (T w))
  (h:∀v' w',c5 w' base v' (l++[f]) ->w.grownBy w' v.ownBlock ->wpList prog ops Q rest (a.put o.dst v') w'):wpList prog ops Q (o::rest) a w:=by
 obtain⟨p,e,z,r,t⟩:=eC Tryz.infoFrac;refine zg _ q s x 36 m base 63 p (zd #[zZ xd,zK ⟨#[]⟩,zK ⟨#[]⟩]) 3 40 underlying36 e z r t rfl a6 v (C l) _ hs y ⟨g,0,N⟩ 1 1 [zZ f.1,zK f.2.1,zK f.2.2] n rfl ?_ ?_ (by unfold maxLen;omega) al A ?_
 ·intro j u b;match j,b with
  |0,b=>cases b;exact c.c0
  |1,b=>cases b;exact c.c1
  |2,b=>cases b;exact c.c2
  |j+3,b=>simp at b
 ·intro u d;simp only[bY,gK,jq] at d;rcases d with rfl |rfl |rfl<;>rfl
 ·intro v' w' i k _;refine h v' w' ?_ k;rw[c5,cE,ag8];exact i
theorem LP {Fb Fd:Kx} (h1:fK Fb) (a:Up Fd (C Fb)):countB Fb Fd=true:=by
 rw[countB,iu];constructor
 ·rw[pH,iu,eP];refine⟨⟨h1.one,h1.eight⟩,fM.2 fun x c=>?_⟩;obtain⟨i,b,rfl⟩:=iE c;rw[Da,eP];exact h1.each i b
 ·rw[ei,fM];intro i b;have h:=bS.1 b;rw[lX,eP,getD_eq h];refine⟨(a.each i h).1,(a.each i h).2,fun d=>?_⟩;rw[getD_eq (show i - 1<C Fd by omega)];exact a.lt (i - 1) i h al
theorem ame (a b:Kd) (ca cb:Nat) (Fb Fd:Kx) (w:E) (hs:aB w a Fb) (v:aB w b Fd) (R:fK Fb) (c:Up Fd (C Fb)):
  c6 55 #[Z a (C Fb) ca,Z b (C Fd) cb] w (dj w (zp #[J I (cnt (af Fb) (af Fd):Nat),J I 0])):=by
 have d:=R.eight;have e:=c.length;have h:=amf a b ca cb Fb Fd w hs v al al;rw[LQ (LP R c)] at h;exact h
variable {R:List (List Fr)}
def My (w:E) (a:Kd) (R:List (List Fr)):Prop:=∀k (h:k<C R),∃g o b c,a=M ⟨g,o,N⟩/\g<O (T w)/\w.cell? ⟨g,o+k,N⟩=M (Z b R[k].length c)/\dH w b R[k]/\R[k].length<=c
theorem My.aa (h:My w a R) (d:da w w'):My w' a R:=fun k m=>by
 obtain⟨g,o,b,c,f,e,i,j,l⟩:=h k m;exact⟨g,o,b,c,f,aT e d.size,(d.cell (p:=⟨g,o+k,N⟩) e).trans i,j.aa d,l⟩
def gg (l:List Fr) (k i:Nat):List Fr:=(l.drop (i*k)).take k
def ju (S:Ja) (L:List Kx) (R:List (List Fr)) (v:Nat):Int:=
 if C (R.getD v [])=cnt S (af (L.getD v []))*sz S v then(if ((List.range (cnt S (af (L.getD v [])))).all fun i=>jf (gg (R.getD v []) (sz S v) i))=y6 then 0 else 9) else 8
def aS (V:List Vr) (L:List Kx) (R:List (List Fr)):Int:=
 if C L=C V/\R.length=C V then(if bq L=0 then(if lT V=0 then j9 (ju (ag V) L R) (C V) else lT V) else bq L) else 8
theorem dH.chunk {o:Nat} {l:List Fr} (h:dH w (M ⟨g,o,N⟩) l) (s:(i+1)*k<=C l) (r:m=k):dH w (M ⟨g,o+i*k*3,N⟩) (gg l k i)/\(gg l k i).length=m:=by
 have n:C (gg l k i)=k:=by
  rw[gg,fh,p8];have:(i+1)*k=i*k+k:=by rw[iC,k8]
  omega
 refine⟨fun j b=>?_,by rw[n,r]⟩;have e:(i+1)*k=i*k+k:=by rw[iC,k8]
 rw[n] at b;obtain⟨g',o',c,d,f,p,q⟩:=h (i*k+j) al;cases c
 have a:(gg l k i)[j]'(by rw[n];exact b)=l[i*k+j]'al:=by
  simp only[gg,xO,List.getElem_drop]
 refine⟨g,o+i*k*3,rfl,d,?_,?_,?_⟩
 ·rw[a,show o+i*k*3+j*3=o+(i*k+j)*3 by rw[iC];omega];exact f
 ·rw[a,show o+i*k*3+j*3=o+(i*k+j)*3 by rw[iC];omega];exact p
 ·rw[a,show o+i*k*3+j*3=o+(i*k+j)*3 by rw[iC];omega];exact q
theorem arf (l:List Fr) (k i:Nat):fw (gg l k i)<=fw l:=by
 have a:=ag2 (l.drop (i*k)) k;have h:=aad (l.take (i*k)) (l.drop (i*k));rw[zo] at h;rw[gg];omega
def kY (w:E) (B:Nat) (v:wF) (l:List ByteArray):Prop:=w.ownsRow B 9 1 v (C l) (l.map Value.string)
theorem kY.own {B:Nat} {v:wF} {l:List ByteArray} (h:kY w B v l):∀k,v.ownBlock=M k ->B<=k:=by
 intro k a;rcases h.2 with ⟨rfl,_⟩ |⟨g,cap,c,rfl,b,_⟩
 ·cases a
 ·cases a;exact b
theorem kY.st {B:Nat} {v:wF} {l:List ByteArray} (h:kY w B v l):∃d f,v=Z d (C l) f/\jM w d l:=by
 rcases h.2 with ⟨a,b⟩ |⟨g,cap,r,a,b,c,o,p,q,i⟩
 ·have:l=[]:=Ho.1 b;subst this;exact⟨N,0,a,fun k n=>absurd n aE⟩
 ·refine⟨_,_,a,fun j m=>⟨g,0,rfl,(cS.1 c).1,?_⟩⟩;rw[bQ,ba w g j _ _ (0,0) c]
  have e:r[j]? =(r.toList.take (C l*1))[j]?:=by
   rw[sQ,aw al,wu]
  rw[e,i,k9,a7 m];rfl
theorem ajs {o:Oper} {a:Act} (q:o.guard=N) (s x:Operand)
  (m:o.op=.call {callee:=.builtin .append,args:= #[s,x],argTypes:= #[58,58]}) (base:Nat) (v:wF) (l:List ByteArray) (f:ByteArray) (hs:a.eval s=v) (y:kY w base v l) (g:Nat) (n:a.eval x=Z (M ⟨g,0,N⟩) 1 1) (k:w.cell? ⟨g,0,N⟩=M (zK f)) (D:C l+1<=100000) (A:base<=O (T w))
  (h:∀v' w',kY w' base v' (l++[f]) ->w.grownBy w' v.ownBlock ->wpList prog ops Q rest (a.put o.dst v') w'):wpList prog ops Q (o::rest) a w:=by
 obtain⟨p,d,z,r,t⟩:=eC Tryz.infoStr;refine zg _ q s x 58 m base 9 p (zK ⟨#[]⟩) 1 16 underlying58 d z r t rfl a6 v (C l) _ hs y ⟨g,0,N⟩ 1 1 [zK f] n rfl ?_ ?_ (by unfold maxLen;omega) al A ?_
 ·intro j u b;match j,b with
  |0,b=>cases b;exact k
  |j+1,b=>simp at b
 ·intro u c;simp only[bY,gK,jq] at c;subst c;rfl
 ·intro v' w' e i _;refine h v' w' ?_ i;rw[kY,cE,gV];exact e
theorem anE (w:E) (u:ByteArray):(w.alloc (yM #[zK u] 9)).cell? ⟨O (T w),0,N⟩=M (zK u):=(bF w _ _).cell
variable {wr wr':E}
structure jo (w:E) (a b c:Kd) (V:List Vr) (L:List Kx) (R:List (List Fr)):Prop where
 Fd:tB w a V
 pars:dP w b L
 rows:My w c R
theorem jo.aa {b c:Kd} (h:jo w a b c V L R) (d:da w w'):jo w' a b c V L R:=⟨h.Fd.aa d,h.pars.aa d,h.rows.aa d⟩
structure tD (V:List Vr) (L:List Kx) (R:List (List Fr)):Prop where
 Fd:VSm V
 pars:C L<=5000/\∀l∈L,C l<=5000
 rows:C R<=5000/\∀l∈R,C l<=5000/\fw l<=10000
def NK (w wr:E) (x y z:wF):Prop:=cj wr (O (T w)) x y z/\da w wr
theorem NK.step {x:wF} (h:NK w wr x y z) (b:da wr wr'):NK w wr' x y z:=⟨h.1.aa b h.1.lt,h.2.trans (b.ae h.2.size)⟩
theorem NK.grow {x:wF} (h:NK w wr x y z) (b:Below (O (T w)+1) wr wr'):NK w wr' x y z:=⟨h.1.aa b al,h.2.trans (b.ae al)⟩
theorem NK.new (w:E) (x y z:wF):NK w (w.alloc (NC x y z)) x y z:=⟨cj.at rfl x y z,(au _ w).alloc (ah _) _⟩
theorem ahi (r:C L=C V) (g:bq L=0) (a:lT V=0):fK (iL (ag V))/\L.length<=8/\∀v (h:v<C L),Up L[v] (C L):=by
 have o:gB L=true:=by
  rw[bq] at g;by_cases h:gB L=y6
  ·exact h
  ·rw[aC h] at g;exact absurd g a6
 obtain⟨p,k,f,_⟩:=mj o
 have l:∀i,i<C V ->sS V i=0:=by
  rw[lT] at a;by_cases h:nZ (lx V)=0
  ·rw[aw h] at a;intro i b
   have y:∀ {n:Nat},j9 (sS V) n=0 ->∀j,j< n ->sS V j=0:=by
    intro n;induction n with
    |zero=>intro _ j m;omega
    |succ n ih=>
     intro z j m;rw[j9] at z;by_cases e:j9 (sS V) n=0
     ·rw[aw e] at z;rcases dX j n with d |d
      ·exact ih e j d
      ·obtain rfl:j=n:=al
       exact z
     ·rw[aC e] at z;exact absurd z e
   exact y a i b
  ·rw[aC h] at a;exact absurd a h
 refine⟨⟨by rw[bR,lq];omega,by rw[bR,lq];omega,fun i b=>?_⟩,k,fun v a=>lr (Uw f a)⟩;rw[bR,lq] at b;have c:=l i b;rw[sS,Z7 b] at c
 have q:1<=V[i].2.length/\V[i].2.length<=4:=by
  by_cases e:1<=V[i].2.length/\V[i].2.length<=4
  ·exact e
  ·rw[aC e] at c;exact absurd c a6
 have e:(iL (ag V))[i]'(by rw[bR,lq];exact b)=(V[i].2.length:Int):=by simp[iL,ag]
 rw[e];omega
def LK (w wr:E) (x y z:wF):Prop:=NK w wr x y z/\aL wr (O (T w)+1) xd ⟨#[]⟩ ⟨#[]⟩
theorem LK.new (w:E) (x y z:wF):LK w ((w.alloc (NC x y z)).alloc (FC xd ⟨#[]⟩ ⟨#[]⟩)) x y z:=⟨(NK.new w x y z).step ((au _ _).alloc (ah _) _),aL.at aE _ _ _⟩
theorem LK.drewN {x:wF} (h:LK w wr x y z) (k:Nat):LK w (wr.drewN k) x y z:=⟨⟨h.1.1,below_drewN h.1.2 k⟩,h.2⟩
theorem amr (p:∀v,sz S v<=4) (f:Nat ->Nat) (h:∀u,f u<sz S u) {P:Ja} (l:C P<=8) (i:Nat):pos S f (P.take i)<=65536:=by
 have a:=qQ f h (P.take i);have b:=xm p (vs:=P.take i) (by rw[fh];omega);omega
def sY (S:Ja) (P:Ja) (f:Nat ->Nat) (v:Nat):Nat:=pos S f P*sz S v+f v
theorem afk {P:Ja} (h:∀u,f u<sz S u) (v:Nat):sY S P f v<cnt S P*sz S v:=by
 have a:=qQ f h P;have b:=h v;rw[sY]
 calc pos S f P*sz S v+f v<pos S f P*sz S v+sz S v:=al
  _=(pos S f P+1)*sz S v:=by rw[iC,k8]
  _<=cnt S P*sz S v:=lR _ a
theorem apa (a b c d:Kd) (ca cb cc cd v:Nat) (V:List Vr) (L:List Kx) (R:List (List Fr)) (A:Ja) (w:E) (h:jo w a b c V L R) (hA:aB w d (iL A)) (TI:C A=C V) (bh:C V<=8) (hv:v<C V) (gD:v<C L) (td:v<C R) (hS:fK (iL (ag V))) (hU:Up L[v] (C V)) (ad:R[v].length=cnt (ag V) (af L[v])*sz (ag V) v) (f:Nat ->Nat) (hf:∀u,f u<sz (ag V) u) (Za:∀u,u<C V ->A[u]? =M (f u)):
  c6 258 #[zd #[Z a (C V) ca,Z b (C L) cb,Z c (C R) cc],J I (v:Nat),Z d (C A) cd] w (dj w (nC (aQ R[v] (sY (ag V) (af L[v]) f v)))):=by
 have hT:=afk (S:=ag V) (P:=af L[v]) hf v;rw[<- ad] at hT;rw[mr hT];have Bm:∀u,sz (ag V) u<=4:=fun u=>by have:=hS.sz_le u;rwa [jP] at this
 have aj:C (af L[v])<=8:=by rw[gG];have:=hU.length;omega
 have aY:L[v].length<=8:=by have:=hU.length;omega
 have kg:=Fa (fun i=>amr Bm f hf aj i);have uK:=Fa (fun i (hi:i<C (af L[v]))=>ams (ag V) f hi)
 have Eu:wT (pos (ag V) f ((af L[v]).take L[v].length)=pos (ag V) f (af L[v])):=by
  show _=_;rw[kO (by rw[gG];omega)]
 have Cv:wT (∀u,f u<4):=fun u=>aT (hf u) (Bm u);have ae:=Fa Bm;have nL:=Fa hU;have aR:=Fa (fun u (hu:u<C V)=>Nk hu);have ik:wT (∀u (hu:u<C V),sz (ag V) u=V[u].2.length):=fun u hu=>by rw[sz,Nk hu];rfl
 have an:=Fa Za;have HI:=Fa h;have HA:=Fa hA;have ay:sY (ag V) (af L[v]) f v=pos (ag V) f (af L[v])*sz (ag V) v+f v:=rfl;obtain⟨gp,r,bp,cp,rfl,iP,t,lD⟩:=h.pars v gD;obtain⟨gr,j,br,cr,rfl,aE,B9,Oe,S6⟩:=h.rows v td;obtain⟨gf,X,rfl,yv,F,Bj,Bh⟩:=Oe _ hT;obtain⟨gv,g,bv,cv,rfl,FT, -,s, -, -⟩:=h.Fd v hv;obtain⟨z,oa,rfl,BP,n⟩:=hA v (by rw[bR];omega)
 have ea:(iL A)[v]'(by rw[bR];omega)=((f v:Nat):Int):=by
  obtain⟨m,h2⟩:=mO.1 (Za v hv);simp only[iL,mN,h2]
 rw[ea] at n;rw[<- ik.o v hv] at s;have Cm:=Fa lD;have Bb:=Fa (show _/\_/\_/\_/\_/\_/\_ from ⟨t,B9,s,n,F,Bj,Bh⟩);have Tl:=Cv.o v;have KS:=ae.o v;have FB:=kg.o (C (af L[v]));rw[iD] at FB
 have bm:R[v].length<=262144:=by
  rw[ad];have m:=xm Bm aj;exact aM (kN m KS) a6
 have aJ:=Fa S6;generalize hTT:sY (ag V) (af L[v]) f v=Ba at *;generalize hfr:R[v][Ba]=fr at *;obtain⟨fn,fx,fy⟩:=fr;simp only at Bb;clear h hA Za lD Oe t B9 s n F Bj Bh ad hf Bm hS hU ea hTT hfr S6;generalize R[v]=rl at *;generalize L[v]=l at *;have lM:=Fa (LK.new w (Z (M ⟨gv,g,N⟩) (C V) ca) (Z (M ⟨gp,r,N⟩) (C L) cb) (Z (M ⟨gr,j,N⟩) (C R) cc));obtain⟨Y,c1,B7⟩:=lM.o.1.1.cells;have t:=(lM.o.1.2.cell (p:=⟨gp,r+v,N⟩) iP).trans Bb.o.1;go_enter func258,ntmps258;go_wp2_with fail
 generalize ((w.alloc (NC (Z (M ⟨gv,g,N⟩) (C V) ca) (Z (M ⟨gp,r,N⟩) (C L) cb) (Z (M ⟨gr,j,N⟩) (C R) cc))).alloc (FC xd ⟨#[]⟩ ⟨#[]⟩))=w1 at *;clear Y c1 B7 t;go_loopw [7,16] (fun kv iv wr=>∃i:Nat,i<=C l/\iv=J I i/\kv=J I (pos (ag V) f ((af l).take i):Nat)/\wT (LK w wr (Z (M ⟨gv,g,N⟩) (C V) ca) (Z (M ⟨gp,r,N⟩) (C L) cb) (Z (M ⟨gr,j,N⟩) (C R) cc))) (fun _ iv _=>C l - (intOf iv).toNat)
 case atStart=>exact⟨0,aV _,rfl,rfl,lM⟩
 case round=>
  obtain⟨i,hi,rfl,rfl,H⟩:=hrel;clear lM;obtain⟨Y,c1,B7⟩:=H.o.1.1.cells;have t:=(H.o.1.2.cell (p:=⟨gp,r+v,N⟩) iP).trans Bb.o.1;by_cases ab:i<C l
  ·obtain⟨gl,ol,rfl,cN,l1⟩:=(Cm.o.aa H.o.1.2) i ab;obtain⟨kR,iF⟩:=nL.o.nat ab;(have py:i<C (af l):=by rw[gG];exact ab);have fH:=uK.o i py;rw[wC ab] at fH;have zP:=kg.o i;rw[<- kR] at l1;generalize l[i].toNat=u at *;obtain⟨bg,bs,bu,cu,ev,bb, -,n2, -, -⟩:=(HI.o.aa H.o.1.2).Fd u iF;cases ev;rw[<- ik.o u iF] at n2;obtain⟨bf,bo,ax,bc,a2⟩:=(HA.o.aa H.o.1.2) u (by rw[bR];omega);cases ax
   have eu:(iL A)[u]'(by rw[bR];omega)=((f u:Nat):Int):=by
    obtain⟨m,h2⟩:=mO.1 (an.o u iF);simp only[iL,mN,h2]
   rw[eu] at a2;have bk:=Cv.o u;have Dg:=ae.o u;have Qk:wT (pos (ag V) f ((af l).take (i+1))=pos (ag V) f ((af l).take i)*sz (ag V) u+f u):=fH;clear fH eu py kR;generalize I4:pos (ag V) f ((af l).take (i+1))=P1 at *;generalize pos (ag V) f ((af l).take i)=y at *;generalize sz (ag V) u=Q at *;generalize f u=fu at *;have m:y*Q<=65536*4:=kN zP Dg
   have aI:IntKind.i64.wrap ((y:Int)*(Q:Int))=((y*Q:Nat):Int):=by
    rw[js, <- mP];omega
   have bt:IntKind.i64.wrap (((y*Q:Nat):Int)+(fu:Int))=(P1:Int):=by
    rw[js];have:=Qk.o;omega
   generalize y*Q=Q0 at *;have vQ:=Fa I4;clear I4 m Qk;go_upto_region 5 with fail
   go_quiet (fail)
   have av:=Fa (H.o.drewN nq);generalize wr.drewN nq=w2 at *;go_wp2;go_roundw
   case rel=>exact⟨i+1,al,bd,by rw[vQ.o],av⟩
   case measure=>simp[intOf];omega
  ·obtain rfl:i=C l:=al
   rw[Eu.o];have B9:=(H.o.1.2.cell (p:=⟨gr,j+v,N⟩) aE).trans Bb.o.2.1;have s:=(H.o.1.2.cell (p:=⟨gv,g+v*2+1,N⟩) FT).trans Bb.o.2.2.1;have n:=(H.o.1.2.cell (p:=⟨z,oa+v,N⟩) BP).trans Bb.o.2.2.2.1;have F:=(H.o.1.2.cell (p:=⟨gf,X+Ba*3,N⟩) yv).trans Bb.o.2.2.2.2.1;have Bj:=(H.o.1.2.cell (p:=⟨gf,X+Ba*3+1,N⟩) yv).trans Bb.o.2.2.2.2.2.1;have Bh:=(H.o.1.2.cell (p:=⟨gf,X+Ba*3+2,N⟩) yv).trans Bb.o.2.2.2.2.2.2;have m:pos (ag V) f (af l)*sz (ag V) v<=65536*4:=kN FB KS;generalize pos (ag V) f (af l)=p at *;generalize sz (ag V) v=k at *;generalize f v=x at *
   have aI:IntKind.i64.wrap ((p:Int)*(k:Int))=((p*k:Nat):Int):=by
    rw[js, <- mP];omega
   have bt:IntKind.i64.wrap (((p*k:Nat):Int)+(x:Int))=(Ba:Int):=by
    rw[js];omega
   generalize p*k=pk at *;clear ay m;go_upto_region 7 with fail
   have U:=H.o;refine iK (S:=fun u=>u.cell? ⟨O (T w),2,N⟩=M (Z (M ⟨gr,j,N⟩) (C R) cc)/\u.cell? ⟨gr,j+v,N⟩=M (Z (M ⟨gf,X,N⟩) (C rl) cr)/\u.cell? ⟨O (T w),0,N⟩=M (Z (M ⟨gv,g,N⟩) (C V) ca)/\u.cell? ⟨gv,g+v*2+1,N⟩=M (Z bv k cv)/\u.cell? ⟨z,oa+v,N⟩=M (J I (x:Nat))/\u.cell? ⟨gf,X+Ba*3,N⟩=M (zZ fn)/\u.cell? ⟨gf,X+Ba*3+1,N⟩=M (zK fx)/\u.cell? ⟨gf,X+Ba*3+2,N⟩=M (zK fy)) ao ⟨B7,B9,Y,s,n,F,Bj,Bh⟩ (fun q=>?_);have U:LK w wr.drew (Z (M ⟨gv,g,N⟩) (C V) ca) (Z (M ⟨gp,r,N⟩) (C L) cb) (Z (M ⟨gr,j,N⟩) (C R) cc):=⟨⟨H.o.1.1,H.o.1.2.drew⟩,H.o.2⟩;clear Y c1 B7 t B9 s n F Bj Bh;generalize wr.drew=u0 at *;refine ar 0 (zR (M ⟨O (T w),2,N⟩)) ?_;refine ar 1 (Z (M ⟨gr,j,N⟩) (C R) cc) ?_;refine ar 2 (J I (v:Nat)) ?_;refine ar 3 (zR (M ⟨gr,j+v,N⟩)) ?_;refine ar 4 (Z (M ⟨gf,X,N⟩) (C rl) cr) ?_;refine ar 5 (J I (p:Nat)) ?_;refine ar 6 (zR (M ⟨O (T w),0,N⟩)) ?_;refine ar 7 (Z (M ⟨gv,g,N⟩) (C V) ca) ?_;refine ar 8 (J I (v:Nat)) ?_;refine ar 9 (zR (M ⟨gv,g+v*2,N⟩)) ?_;refine ar 10 (zR (M ⟨gv,g+v*2+1,N⟩)) ?_;refine ar 11 (Z bv k cv) ?_;refine ar 12 (J I (k:Nat)) ?_;refine ar 13 (J I (pk:Nat)) ?_;refine ar 14 (Z (M ⟨z,oa,N⟩) (C A) cd) ?_
   refine ar 15 (J I (v:Nat)) ?_;refine ar 16 (zR (M ⟨z,oa+v,N⟩)) ?_;refine ar 17 (J I (x:Nat)) ?_;refine ar 18 (J I (Ba:Nat)) ?_;refine ar 19 (zR (M ⟨gf,X+Ba*3,N⟩)) ?_;refine ar 20 (zd #[zZ fn,zK fx,zK fy]) ?_;(try simp only[gE,aP]);obtain⟨k0,k1,k2,f0,f1,f2⟩:=U.2.facts;(have K:O (T w)≠w.heap.size+1:=al);(have YX:gr≠w.heap.size+1:=al);(have YW:gv≠w.heap.size+1:=al);(have YY:z≠w.heap.size+1:=al);(have D:gf≠w.heap.size+1:=al);refine aF [21] (cA ?_ aG);intro K' ai;go_simp;have pz:=U.2.put fn fx fy;have az:=eT U.1.2 (show O (T w)<=O (T w)+1 by omega) (zZ fn) (zK fx) (zK fy)
   refine ai.o _ _ ⟨((fT _ _ _ _ (fun e=>K (eG Addr.block e).symm)).trans ((fT _ _ _ _ (fun e=>K (eG Addr.block e).symm)).trans ((fT _ _ _ _ (fun e=>K (eG Addr.block e).symm)).trans q.1))),((fT _ _ _ _ (fun e=>YX (eG Addr.block e).symm)).trans ((fT _ _ _ _ (fun e=>YX (eG Addr.block e).symm)).trans ((fT _ _ _ _ (fun e=>YX (eG Addr.block e).symm)).trans q.2.1))),((fT _ _ _ _ (fun e=>K (eG Addr.block e).symm)).trans ((fT _ _ _ _ (fun e=>K (eG Addr.block e).symm)).trans ((fT _ _ _ _ (fun e=>K (eG Addr.block e).symm)).trans q.2.2.1))),((fT _ _ _ _ (fun e=>YW (eG Addr.block e).symm)).trans ((fT _ _ _ _ (fun e=>YW (eG Addr.block e).symm)).trans ((fT _ _ _ _ (fun e=>YW (eG Addr.block e).symm)).trans q.2.2.2.1))),((fT _ _ _ _ (fun e=>YY (eG Addr.block e).symm)).trans ((fT _ _ _ _ (fun e=>YY (eG Addr.block e).symm)).trans ((fT _ _ _ _ (fun e=>YY (eG Addr.block e).symm)).trans q.2.2.2.2.1))),((fT _ _ _ _ (fun e=>D (eG Addr.block e).symm)).trans ((fT _ _ _ _ (fun e=>D (eG Addr.block e).symm)).trans ((fT _ _ _ _ (fun e=>D (eG Addr.block e).symm)).trans q.2.2.2.2.2.1))),((fT _ _ _ _ (fun e=>D (eG Addr.block e).symm)).trans ((fT _ _ _ _ (fun e=>D (eG Addr.block e).symm)).trans ((fT _ _ _ _ (fun e=>D (eG Addr.block e).symm)).trans q.2.2.2.2.2.2.1))),((fT _ _ _ _ (fun e=>D (eG Addr.block e).symm)).trans ((fT _ _ _ _ (fun e=>D (eG Addr.block e).symm)).trans ((fT _ _ _ _ (fun e=>D (eG Addr.block e).symm)).trans q.2.2.2.2.2.2.2)))⟩ (fun ak=>?_)
   clear ai K' q ak k0 k1 k2 f0 f1 f2;generalize (((u0.setCell ⟨O (T w)+1,0,N⟩ (zZ fn)).setCell ⟨O (T w)+1,1,N⟩ (zK fx)).setCell ⟨O (T w)+1,2,N⟩ (zK fy))=u9 at *;(try simp only[gE,aP]);refine eO ao ?_ _;go_wp2;refine dI (pz.result rfl _ rfl) rfl ?_;exact⟨rfl,az⟩
structure NOK (V:List Vr) (L:List Kx) (R:List (List Fr)):Prop where
 len:C L=C V
 lenR:C R=C V
 n8:C V<=8
 fine:fK (iL (ag V))
 up:∀v (h:v<C L),Up L[v] (C V)
 rows:∀v (h:v<C L) (h':v<C R),R[v].length=cnt (ag V) (af L[v])*sz (ag V) v
theorem DY {f:Nat ->Int}:∀ {n:Nat},j9 f n=0 ->∀j,j< n ->f j=0
 |0,_,j,hj=>al
 |n+1,hz,j,hj=>by
  rw[j9] at hz;by_cases e:j9 f n=0
  ·rw[aw e] at hz;rcases dX j n with h |h
   ·exact DY e j h
   ·obtain rfl:j=n:=al
    exact hz
  ·rw[aC e] at hz;exact absurd hz e
theorem gY (h:aS V L R=0):NOK V L R:=by
 rw[aS] at h;by_cases a:C L=C V/\R.length=C V
 ·rw[aw a] at h;by_cases b:bq L=0
  ·rw[aw b] at h;by_cases c:lT V=0
   ·rw[aw c] at h;obtain⟨g,i,u⟩:=ahi a.1 b c;refine⟨a.1,a.2,al,g,fun v e=>by rw[<- a.1];exact u v e,fun v e r=>?_⟩;have d:=DY h v al;rw[ju,cF,a7 r,cF,a7 e] at d;by_cases f:R[v].length=cnt (ag V) (af L[v])*sz (ag V) v
    ·exact f
    ·simp only[CH] at d;rw[aC f] at d;exact absurd d a6
   ·rw[aC c] at h;exact absurd h c
  ·rw[aC b] at h;exact absurd h b
 ·rw[aC a] at h;exact absurd h a6
def fP (V:List Vr) (L:List Kx) (R:List (List Fr)) (f:Nat ->Nat) (v:Nat):Fr:=aQ (R.getD v []) (sY (ag V) (af (L.getD v [])) f v)
def wD (V:List Vr) (L:List Kx) (R:List (List Fr)) (f:Nat ->Nat):Nat ->Rat
 |0=>1
 |k+1=>wD V L R f k*a8 (fP V L R f k)
theorem SG (h:v<C L) (a:v<C R):fP V L R f v=aQ R[v] (sY (ag V) (af L[v]) f v):=by
 rw[fP,cF,a7 a,cF,a7 h];rfl
theorem aph (b:NOK V L R) (e:∀u,f u<sz (ag V) u) (w:∀l∈R,fw l<=4200) (d:v<C V):(fP V L R f v).2.1.size+(fP V L R f v).2.2.size<=4200:=by
 have c:v<C L:=by rw[b.len];exact d
 have h:v<C R:=by rw[b.lenR];exact d
 rw[SG c h];have a:=afk (S:=ag V) (P:=af L[v]) e v;rw[<- b.rows v c h] at a;have g:=ate a;have i:=w R[v] (bU h);omega
variable {A:Nat}
theorem Po {q:Rat} (h:Fits m q) (a:m<=n):Fits n q:=by
 obtain⟨A,D,b,c,d,e⟩:=h;exact⟨A,D,b,c,aT d (Kv a),aT e (Kv a)⟩
theorem agV (f g:Fr):great f g=f∨great f g=g:=by
 rw[great];by_cases h:kJ (a8 f) (a8 g)<0
 ·rw[aw h];exact yk rfl
 ·rw[aC h];exact yd rfl
theorem Ns (q:Rat):(qF q).2.1.size+(qF q).2.2.size=qw q:=rfl
theorem aea (m:Bool) (Ba:Nat ->Fr):∀k,(∀x,x<=k ->(Ba x).2.1.size+(Ba x).2.2.size+2<=8192) ->Fits ((k+1)*8192) (a8 (mR m Ba k))
 |0,h=>Po (aai _ _ _) (by have:=h 0 (ah _);show (Ba 0).2.1.size+(Ba 0).2.2.size+1<=_;omega)
 |k+1,h=>by
  have a:=aea m Ba k fun x c=>h x al;have b:Fits 8191 (a8 (Ba (k+1))):=Po (aai _ _ _) (by have:=h (k+1) (ah _);omega);rw[mR];cases m with
  |true=>
   rw[aw rfl];rcases agV (mR y6 Ba k) (Ba (k+1)) with e |e
   ·rw[e];exact Po a al
   ·rw[e];exact Po b al
  |false=>
   rw[aC a6,jC];exact Po (ahh a b) al
theorem ana (k:Nat):2*((k+1)*8192)<=2*((k+1+1)*8192):=al
theorem am9 (k:Nat):8192<=2*((k+1+1)*8192):=al
theorem aqX {f g:Fr} (h1:f.2.1.size+f.2.2.size<=A) (h:g.2.1.size+g.2.2.size<=A):(great f g).2.1.size+(great f g).2.2.size<=A:=by
 rcases agV f g with e |e
 ·rw[e];exact h1
 ·rw[e];exact h
theorem Xq (m:Bool) (Ba:Nat ->Fr):∀k,(∀x,x<=k ->(Ba x).2.1.size+(Ba x).2.2.size+2<=8192) ->(mR m Ba k).2.1.size+(mR m Ba k).2.2.size<=2*((k+1)*8192)
 |0,h=>by have:=h 0 (ah _);rw[mR];omega
 |k+1,h=>by
  have b:=Xq m Ba k fun x e=>h x al;have c:=h (k+1) (ah _);have a:=aea m Ba (k+1) h;rw[mR] at a⊢;cases m with
  |true=>
   rw[aw rfl];exact aqX (aM b (ana k)) (aM (aM (MK _ 2) c) (am9 k))
  |false=>
   rw[aC a6] at a⊢;rw[jC] at a;have d:=T6 a;rw[Ns];exact d
def aiG (most:Bool) (pf:Nat):Prop:=(∀args w,(callFunc pf args).run prog w=.ok (.enter pf args) w)/\∀(f g:Fr) (V:E),f.2.1.size+f.2.2.size<=100000 ->g.2.1.size+g.2.2.size<=100000 ->c6 pf #[nC f,nC g] V fun e w'=>e=yW (nC (if most then great f g else qF (a8 f+a8 g)))/\da V w'
theorem amW:aiG xd 160:=⟨enters_of func160 ao rfl,fun f g V h a=>arY (n:=f.1) (m:=g.1) (x:=f.2.1) (y:=f.2.2) (u:=g.2.1) (v:=g.2.2) (w:=V) (a8 f+a8 g) rfl rfl rfl h a⟩
theorem ank (m:Bool) (s:Nat) (Q:aiG m s) (z D Bm t j:Nat) (a c:Kd) (ca cc:Nat) (Fb:Kx) (lb:Array wF) (l:List Fr) (k v n:Nat) (P:Nat ->Nat) (Bb:∀x,x< n ->P x<C l) (fX:1<=n) (FN:n<=4) (eD:v<C Fb) (BI:Fb[v]=(n:Int)) (w:E)
  (ad:z<O (T w)) (xh:w.cell? ⟨z,0,N⟩=M (.func (.func s) #[] #[])) (Ai:D<O (T w)) (xs:w.cell? ⟨D,0,N⟩=M (Z a (C Fb) ca)) (Lp:Bm<O (T w)) (xv:w.cell? ⟨Bm,0,N⟩=M (J I (v:Nat))) (wX:t<O (T w)) (xc:w.cell? ⟨t,1,N⟩=M (Z c (C l) cc)) (X:j<O (T w)) (xf:w.cell? ⟨j,0,N⟩=M (.func (.func 219) #[] lb)) (hs:aB w a Fb) (hf:dH w c l) (h1:Cw 8192 l)
  (B7:∀x,x< n ->∀V,da w V ->c6 219 (#[J I (k:Nat),J I (x:Nat)]++lb) V fun e w'=>e=yW (J I (P x:Nat))/\da V w'):
  c6 168 #[J I (k:Nat),zR (M ⟨z,0,N⟩),zR (M ⟨D,0,N⟩),zR (M ⟨Bm,0,N⟩),zR (M ⟨t,0,N⟩),zR (M ⟨j,0,N⟩)] w (dj w (nC (qF (a8 (mR m (fun x=>aQ l (P x)) (n - 1)))))):=by
 obtain⟨g,o,rfl,hg,L⟩:=hs v eD;rw[BI] at L;have Bh:∀x,x< n ->(aQ l (P x)).2.1.size+(aQ l (P x)).2.2.size+2<=8192:=fun x q=>h1 _ (Bb x q);have Fx:=Xq m (fun x=>aQ l (P x)) (n - 1) fun x q=>Bh x al
 have U:∀W,da w W ->∀A,A<O (T W) ->W.cell? ⟨A,0,N⟩=M (J I (k:Nat)) ->c6 169 #[zd #[.func (.func s) #[] #[]],J I (n:Nat),.func (.func 170) #[] #[zR (M ⟨t,0,N⟩),zR (M ⟨j,0,N⟩),zR (M ⟨A,0,N⟩)]] W (dj W (nC (mR m (fun x=>aQ l (P x)) (n - 1)))):=by
  intro W Y A Ba xk;refine apt s 170 #[] _ Q.1 (enters_of func170 ao rfl) n (fun x=>aQ l (P x)) (mR m (fun x=>aQ l (P x))) W fX al ?_ ?_ rfl
  ·intro x q V d;have b:=Y.trans (d.ae Y.size);exact anl t j A c cc lb l k x (P x) (Bb x q) V (aT wX b.size) ((b.cell (p:=⟨t,1,N⟩) wX).trans xc) (aT X b.size) ((b.cell (p:=⟨j,0,N⟩) X).trans xf) (aT Ba d.size) ((d.cell (p:=⟨A,0,N⟩) Ba).trans xk) (hf.aa b) fun V' ai=>B7 x q V' (b.trans (ai.ae b.size))
  ·intro x q V d;have e1:=Xq m (fun x=>aQ l (P x)) x fun y hy=>Bh y al;have e2:=Bh (x+1) q;exact Q.2 _ _ V al (by show (aQ l (P (x+1))).2.1.size+(aQ l (P (x+1))).2.2.size<=_;omega)
 have R:=Fa U;have B9:=Fa (fun V:E=>Vy (w:=V) (a8 (mR m (fun x=>aQ l (P x)) (n - 1))) rfl (show (mR m (fun x=>aQ l (P x)) (n - 1)).2.1.size+(mR m (fun x=>aQ l (P x)) (n - 1)).2.2.size<=100000 by omega));rw[T1];generalize a8 (mR m (fun x=>aQ l (P x)) (n - 1))=r at *;generalize mR m (fun x=>aQ l (P x)) (n - 1)=f at *;clear U Fx Bh B7 hf hs Bb Q xc xf;obtain⟨fn,fx,fy⟩:=f;simp only at B9 R;have ak:(0:Int)<=(v:Int):=al
 have po:(v:Int)<(C Fb:Int):=al
 have i:aL ((w.alloc (yM #[J I (k:Nat)] 3)).alloc (FC xd ⟨#[]⟩ ⟨#[]⟩)) (O (T w)+1) xd ⟨#[]⟩ ⟨#[]⟩:=aL.at aE _ _ _;have Bj:Boxed ((w.alloc (yM #[J I (k:Nat)] 3)).alloc (FC xd ⟨#[]⟩ ⟨#[]⟩)) (O (T w)) 3 (J I (k:Nat)):=(bF w _ _).alloc _;have b:da w ((w.alloc (yM #[J I (k:Nat)] 3)).alloc (FC xd ⟨#[]⟩ ⟨#[]⟩)):=((au _ w).alloc (ah _) _).alloc aE _;go_enter func168,ntmps168;go_upto_region 1 with fail
 generalize ((w.alloc (yM #[J I (k:Nat)] 3)).alloc (FC xd ⟨#[]⟩ ⟨#[]⟩))=W at *;replace i:=i.drew;replace b:=b.drew;replace Bj:Boxed W.drew (O (T w)) 3 (J I (k:Nat)):=Bj;have ab:∀u,da w u ->u.cell? ⟨z,0,N⟩=M (.func (.func s) #[] #[])/\u.cell? ⟨D,0,N⟩=M (Z (M ⟨g,o,N⟩) (C Fb) ca)/\u.cell? ⟨Bm,0,N⟩=M (J I (v:Nat))/\u.cell? ⟨g,o+v,N⟩=M (J I (n:Nat)):=fun u h=>⟨(h.cell (p:=⟨z,0,N⟩) ad).trans xh,(h.cell (p:=⟨D,0,N⟩) Ai).trans xs,(h.cell (p:=⟨Bm,0,N⟩) Lp).trans xv,(h.cell (p:=⟨g,_,N⟩) hg).trans L⟩;have HELD:=Fa ab;clear ab xh xs xv L;refine iK (S:=fun u=>u.cell? ⟨z,0,N⟩=M (.func (.func s) #[] #[])/\u.cell? ⟨D,0,N⟩=M (Z (M ⟨g,o,N⟩) (C Fb) ca)/\u.cell? ⟨Bm,0,N⟩=M (J I (v:Nat))/\u.cell? ⟨g,o+v,N⟩=M (J I (n:Nat))) ao (HELD.o _ b) (fun H=>?_);generalize W.drew=u0 at *;refine ar 0 (zd #[.func (.func s) #[] #[]]) ?_;refine ar 1 (Z (M ⟨g,o,N⟩) (C Fb) ca) ?_;refine ar 2 (J I (v:Nat)) ?_;refine ar 3 (zR (M ⟨g,o+v,N⟩)) ?_;refine ar 4 (J I (n:Nat)) ?_;refine ar 5 (.func (.func 170) #[] #[zR (M ⟨t,0,N⟩),zR (M ⟨j,0,N⟩),zR (M ⟨O (T w),0,N⟩)]) ?_;refine aF [6] (cA ?_ aG);intro F K;go_simp;refine(R.o _ b _ Bj.lt Bj.cell).ae ?_;rintro e u1 ⟨rfl,d⟩;replace i:=i.aa d i.lt;clear Bj
 replace b:=b.trans (d.ae b.size);clear H;refine K.o _ _ (HELD.o _ b) (fun H=>?_);clear K F d;refine aF [7] (cA ?_ aG);intro F K;go_simp;refine(B9.o _).ae ?_;rintro e u2 ⟨rfl,d⟩;replace i:=i.aa d i.lt;replace b:=b.trans (d.ae b.size);clear H;refine K.o _ _ (HELD.o _ b) (fun H=>?_);clear K F d;try simp only[gE,aP]
 obtain⟨k0,k1,k2,f0,f1,f2⟩:=i.facts;refine aF [8] (cA ?_ aG);intro F K;go_simp;have aj:=i.put (aW r) (nu r) (de r);have vB:=eT b (g:=O (T w)+1) al (zZ (aW r)) (zK (nu r)) (zK (de r));generalize (((u2.setCell ⟨O (T w)+1,0,N⟩ (zZ (aW r))).setCell ⟨O (T w)+1,1,N⟩ (zK (nu r))).setCell ⟨O (T w)+1,2,N⟩ (zK (de r)))=v9 at *;refine K.o _ _ (HELD.o _ vB) (fun _=>eO ao ?_ _);clear K F H;go_wp2;refine dI (aj.result rfl _ rfl) rfl ?_;exact⟨rfl,vB⟩
variable {s:wF}
def OH (w V:E) (s u v x:wF):Prop:=Boxed V (O (T w)) 27 s/\NR w V (O (T w)+1) (O (T w)+1+1+1) u v/\Boxed V (O (T w)+1+1) 3 x
theorem OH.step {V:E} {u v x:wF} (h:OH w V s u v x) (b:da V V'):OH w V' s u v x:=⟨bI h.1 b,h.2.1.step b,bI h.2.2 b⟩
theorem OH.new (w:E) (s u v x:wF):OH w ((((w.alloc (yM #[s] 27)).alloc (TC u v)).alloc (yM #[x] 3)).alloc (TC (Z N 0 0) (Z N 0 0))) s u v x:=by
 have a:Boxed (((w.alloc (yM #[s] 27)).alloc (TC u v)).alloc (yM #[x] 3)) (O (T w)+1+1) 3 x:=by
  have h:=bF ((w.alloc (yM #[s] 27)).alloc (TC u v)) 3 x;rwa [eV,eV] at h
 exact⟨(((bF w _ _).alloc _).alloc _).alloc _,⟨((aZ.at aE _ _).alloc _).alloc _,aZ.at aE _ _,((((au _ w).alloc (ah _) _).alloc aE _).alloc (by simp;omega) _).alloc (by simp;omega) _⟩,a.alloc _⟩
theorem OH.top {V:E} {u v x:wF} (h:OH w V s u v x):O (T w)+1+1+1<O (T V):=h.2.1.2.1.lt
theorem aeb (S Fd rest:Ja) (v:Nat) (m:Bool) (l:List Fr):C (wH S Fd rest v m l)=cnt S rest:=by simp[wH]
theorem anf (S Fd rest:Ja) (v:Nat) (m:Bool) (l:List Fr) (h:k<C (wH S Fd rest v m l)):(wH S Fd rest v m l)[k]=qF (a8 (mR m (fun x=>aQ l (pos S (aO (aX S rest k) v x) Fd)) (sz S v - 1))):=by simp[wH]
theorem ako (a b c:Kd) (ca cb cc:Nat) (Fb Fd:Kx) (l:List Fr) (v:Nat) (w:E) (hs:aB w a Fb) (hv:aB w b Fd) (hf:dH w c l) (hn:C Fb<=140737488355328) (hm:C Fd<=140737488355328) (q:kX Fb Fd (C l)=0) (hw:Cw 8192 l) (an:Fd.contains (v:Int)=y6) (L:v<C Fb):
  c6 107 #[Z a (C Fb) ca,zd #[Z b (C Fd) cb,Z c (C l) cc],J I (v:Nat),zZ xd] w fun e w'=>Av (O (T w)) (cH Fd (v:Int)) (wH (af Fb) (af Fd) (af (cH Fd (v:Int))) v xd l) 0 e w'/\da w w':=by
 obtain⟨R,r,aq⟩:=Gf q;have Ba:=Fa (fun V h=>Nj b cb Fd (v:Int) V h hm);rw[an] at Ba;have P:=fun V Bb B9=>Kg a b c ca cb cc (C l) Fb Fd V Bb B9 hn hm;rw[q] at P;have HC:=Fa P;clear P;have ax:C (cH Fd (v:Int))<=C Fd:=oT _ _;have ay:=r.length;have uu:=R.eight;have eh:=Fa R;have nL:=Fa r;have B7:=Fa (sZ r (v:Int));have Jr:=Fa (X6 (v:=v) r);have kg:=Fa (fun K (hK:K<cnt (af Fb) (af (cH Fd (v:Int)))) x (Bj:x<sz (af Fb) v)=>abW q hK Bj);have mh:=aeb (af Fb) (af Fd) (af (cH Fd (v:Int))) v xd l;have EC:=Fa (fun (k:Nat) (h:k<C (wH (af Fb) (af Fd) (af (cH Fd (v:Int))) v xd l))=>anf (af Fb) (af Fd) (af (cH Fd (v:Int))) v xd l h);have lJ:=Fa (fun V h=>abT b cb Fd (v:Int) V h al);generalize wH (af Fb) (af Fd) (af (cH Fd (v:Int))) v xd l=F at *;generalize cH Fd (v:Int)=rest at *;have ab:=Fa (fun V d s Bb B9=>acD a d b ca s cb Fb rest Fd v V Bb B9 R r L);have HF:=Fa hf;have HW:=Fa hw;have k5:=Fa mh;have HN:=Fa (R.sz_eq L);have X:=Fa (R.sz_le v);have Mo:=Fa (lp R.pos v);have xD:=Fa L;clear an q R r aq hf hw mh;have S:=Fa hs;have z:=Fa hv;have H:=OH.new w (Z a (C Fb) ca) (Z b (C Fd) cb) (Z c (C l) cc) (J I (v:Nat));have n:=H.2.1.1.c0;have c1:=H.2.1.1.c1;have t:=H.1.cell;go_enter func107,ntmps107;go_wp2_with fail
 generalize ((((w.alloc (yM #[Z a (C Fb) ca] 27)).alloc (TC (Z b (C Fd) cb) (Z c (C l) cc))).alloc (yM #[J I (v:Nat)] 3)).alloc (TC (Z N 0 0) (Z N 0 0)))=W at *;refine(HC.o _ (S.o.aa H.2.1.2.2) (z.o.aa H.2.1.2.2)).ae ?_;rintro e w1 ⟨rfl,ai⟩;replace H:=H.step ai;clear n c1 t ai;have n:=H.2.1.1.c0;have cx:=H.2.2.cell;go_wp2_with fail
 refine(Ba.o _ (z.o.aa H.2.1.2.2)).ae ?_;rintro e w2 ⟨rfl,y⟩;replace H:=H.step y;clear n cx y Ba;go_wp2_with fail
 refine(aky _).ae ?_;rintro e j ⟨rfl,aj⟩;replace H:=H.step aj;clear aj;have ak:da j (j.alloc (yM #[.func (.func 160) #[] #[]] 190)):=(au _ j).alloc (ah _) _;have Bh:Boxed (j.alloc (yM #[.func (.func 160) #[] #[]] 190)) (O (T j)) 190 (.func (.func 160) #[] #[]):=bF j _ _;have dm:=H.top;replace H:=H.step ak;clear ak;have n:=H.2.1.1.c0;have cx:=H.2.2.cell;go_wp2_with fail
 clear n cx;generalize (j.alloc (yM #[.func (.func 160) #[] #[]] 190))=w5 at *;generalize (O (T j))=U at *;refine(lJ.o _ (z.o.aa H.2.1.2.2)).ae ?_;rintro e w6 ⟨d,s,rfl,i,oq,Q⟩;have JJ:=Fa (oq.up H.2.1.2.2.size);clear oq;replace H:=H.step Q;replace Bh:=bI Bh Q;clear Q lJ;have n:=H.2.1.1.c0;have cx:=H.2.2.cell;have t:=H.1.cell;go_wp2_with fail
 refine(ab.o _ d s (S.o.aa H.2.1.2.2) (z.o.aa H.2.1.2.2)).ae ?_;rintro e m ⟨f,rfl,D,A⟩;replace H:=H.step A;replace Bh:=bI Bh A;replace i:=i.aa A;obtain⟨lb,rfl⟩:=D.shape;clear n cx t A ab;generalize (O (T w6))=n3 at *;have u:da m (m.alloc (yM #[.func (.func 219) #[] lb] 49)):=(au _ m).alloc (ah _) _;have hY:Boxed (m.alloc (yM #[.func (.func 219) #[] lb] 49)) (O (T m)) 49 (.func (.func 219) #[] lb):=bF m _ _;replace H:=H.step u;replace Bh:=bI Bh u;replace D:=D.aa u;replace i:=i.aa u;have t:=H.1.cell;go_wp2_with fail
 clear u t;generalize (m.alloc (yM #[.func (.func 219) #[] lb] 49))=w8 at *;generalize (O (T m))=VD at *
 have zV:=T7 a d ca s Fb rest 168 #[zR (M ⟨U,0,N⟩),zR (M ⟨O (T w),0,N⟩),zR (M ⟨O (T w)+1+1,0,N⟩),zR (M ⟨O (T w)+1,0,N⟩),zR (M ⟨VD,0,N⟩)] (enters_of func168 ao rfl) F w8 (S.o.aa H.2.1.2.2) i eh.o B7.o k5.o (fun k q V g=>by
  rw[EC.o k q];have cO:k<cnt (af Fb) (af rest):=by rw[<- k5.o];exact q
  have Bm:=H.2.1.2.2.trans (g.ae H.2.1.2.2.size);refine ank xd 160 amW U (O (T w)) (O (T w)+1+1) (O (T w)+1) VD a c ca cc Fb lb l k v (sz (af Fb) v) (fun x=>pos (af Fb) (aO (aX (af Fb) (af rest) k) v x) (af Fd)) (fun x Bj=>kg.o k cO x Bj) Mo.o X.o xD.o HN.o.symm V (aT Bh.lt g.size) (bI Bh g).cell (aT H.1.lt g.size) (bI H.1 g).cell (aT H.2.2.lt g.size) (bI H.2.2 g).cell (aT H.2.1.1.lt g.size) ((g.cell (p:=⟨O (T w)+1,1,N⟩) H.2.1.1.lt).trans H.2.1.1.c1) (aT hY.lt g.size) (bI hY g).cell (S.o.aa Bm) (HF.o.aa Bm) HW.o ?_;intro x Bj V' ad;have y:=g.trans (ad.ae g.size);have h4:=X.o;exact((D.aa y).calls (S.o.aa (Bm.trans (ad.ae Bm.size))) (i.aa y) eh.o B7.o nL.o Jr.o cO al))
 have JE:=Fa zV;clear zV;refine JE.o.ae ?_;rintro e w9 ⟨G,rfl,hG,av,Y⟩;have Ox:=H.top;replace H:=H.step Y;replace i:=i.aa Y;obtain⟨k0,k1,f0,f1⟩:=H.2.1.2.1.facts;obtain⟨e1,e2,e3⟩:=H.2.1.fin al (cb:=s) (cc:=F.length) JJ.o al i av al (Z d (C rest) s) (Z (M ⟨G,0,N⟩) (C F) (C F)) rfl rfl;go_wp2;refine dI (e1.result2 rfl _ rfl) rfl ?_;exact⟨e2,e3⟩
theorem WV:∀ {a b:Kx},a.Pairwise (·<·) ->b.Pairwise (·<·) ->(∀x,x∈a↔x∈b) ->a=b
 |[],[],_,_,_=>rfl
 |[],y::b,_,_,h=>absurd ((h y).2 dJ) aE
 |x::a,[],_,_,h=>absurd ((h x).1 dJ) aE
 |x::a,y::b,ha,hb,h=>by
  rw[List.pairwise_cons] at ha hb
  have e:x=y:=by
   have c:=(h x).1 dJ;have d:=(h y).2 dJ;rw[bY] at c d;rcases c with c |c
   ·exact c
   ·rcases d with d |d
    ·exact d.symm
    ·have:=hb.1 x c;have:=ha.1 y d;omega
  subst e;rw[WV ha.2 hb.2 fun z=>?_];constructor
  ·intro f;have c:=(h z).1 (dZ _ f);have:=ha.1 z f;rw[bY] at c;rcases c with c |c
   ·omega
   ·exact c
  ·intro f;have c:=(h z).2 (dZ _ f);have:=hb.1 z f;rw[bY] at c;rcases c with c |c
   ·omega
   ·exact c
theorem ahY {d:Array Int} (hs:∀i j,i<=j ->j<d.size ->d[i]!<=d[j]!):∀m,m<=d.size ->(compactUpTo d m).Pairwise (·<·)/\∀x,x∈compactUpTo d m↔∃j,j<m/\d[j]! =x
 |0,_=>⟨by simp[compactUpTo],fun x=>by simp[compactUpTo]⟩
 |m+1,hm=>by
  obtain⟨f,b⟩:=ahY hs m al;rw[compactUpTo_succ];by_cases k:keeps d m=y6
  ·rw[aw k];constructor
   ·rw[List.pairwise_append];refine⟨f,aE,fun x l y g=>?_⟩;obtain⟨j,a,rfl⟩:=(b x).1 l;rw[bA] at g;subst g;rw[keeps,eP] at k;rcases k with k |k
    ·omega
    ·have o:=hs j (m - 1) al al;have p:=hs (m - 1) m al al;omega
   ·intro x;rw[bE,b,bA];constructor
    ·rintro(⟨j,a,rfl⟩ |rfl)
     ·exact⟨j,al,rfl⟩
     ·exact⟨m,al,rfl⟩
    ·rintro⟨j,a,rfl⟩;by_cases e:j=m
     ·exact yk (by rw[e])
     ·exact yd ⟨j,al,rfl⟩
  ·rw[aC k,kq];refine⟨f,fun x=>?_⟩;rw[b];have c:¬(m=0∨d[m]!≠d[m - 1]!):=fun h=>k (by rw[keeps,eP];exact h);have q:m≠0:=fun h=>c (yd h);have n:d[m]! =d[m - 1]!:=zt fun h=>c (yk h);constructor
   ·rintro⟨j,a,rfl⟩;exact⟨j,al,rfl⟩
   ·rintro⟨j,a,rfl⟩;by_cases e:j=m
    ·exact⟨m - 1,al,by rw[e,n]⟩
    ·exact⟨j,al,rfl⟩
def aU (la lb:Kx):Kx:=Lib.compact ((la++lb).mergeSort fun x y=>decide (x<=y))
theorem C1 (la lb:Kx):(aU la lb).Pairwise (·<·)/\∀x,x∈aU la lb↔x∈la∨x∈lb:=by
 have p:((la++lb).mergeSort fun x y=>decide (x<=y)).Pairwise (fun x y=>decide (x<=y)=y6):=VR (fun a b c d f=>by simp at d f⊢;omega) (fun a b=>by simp;omega) _;have m:∀x,x∈((la++lb).mergeSort fun x y=>decide (x<=y))↔x∈la∨x∈lb:=fun x=>by rw[List.mem_mergeSort,bE]
 rw[aU];generalize ((la++lb).mergeSort fun x y=>decide (x<=y))=s at p m
 have hs:∀i j,i<=j ->j<s.toArray.size ->s.toArray[i]!<=s.toArray[j]!:=fun i j q h=>by
  have k:j<C s:=by simpa using h
  rw[MC s.toArray i al,MC s.toArray j h];by_cases e:i=j
  ·subst e;exact Int.le_refl _
  ·have:=zq.1 p i j al k al;simpa using this
 obtain⟨d,f⟩:=ahY hs s.toArray.size (ah _);have e:Lib.compact s=compactUpTo s.toArray s.toArray.size:=by rw[Lib.compact];simp
 rw[e];refine⟨d,fun x=>?_⟩;rw[f, <- m];constructor
 ·rintro⟨j,h,rfl⟩;rw[MC s.toArray j h];simp
 ·intro g;obtain⟨j,h,rfl⟩:=iE g;exact⟨j,by simpa using h,by rw[MC s.toArray j (by simpa using h)];simp⟩
theorem acd:aU [] []=[]:=List.eq_nil_iff_forall_not_mem.2 fun x h=>by have:=((C1 [] []).2 x).1 h;simp at this
theorem apD {k:Int}:lB k l=y6↔k∈l:=by simp[lB]
theorem Hy (b:Up la n) (c:Up lb n):Up (aU la lb) n:=by
 obtain⟨h,a⟩:=C1 la lb;exact eH.2 ⟨fun x d=>((a x).1 d).elim ((eH.1 b).1 x) ((eH.1 c).1 x),h⟩
theorem akj (a b:Kd) (ca cb:Nat) (la lb:Kx) (w:E) (F:aB w a la) (Bj:aB w b lb) (B9:a=N ->ca=0) (Q:b=N ->cb=0) (lF:C la<=1000) (kD:C lb<=1000):
  c6 161 #[Z a (C la) ca,Z b (C lb) cb] w fun e w'=>∃(d:Kd) (Bm:Nat),e=yW (Z d (C (aU la lb)) Bm)/\aB w' d (aU la lb)/\i7 (O (T w)) d Bm/\da w w':=by
 obtain⟨L,p⟩:∃L,L=aU la lb:=⟨_,rfl⟩;rw[<- p];have H:=Fa p;have h:da w (w.alloc (yM #[Z a (C la) ca,Z b (C lb) cb] 27)):=(au _ w).alloc (ah _) _;have D:(w.alloc (yM #[Z a (C la) ca,Z b (C lb) cb] 27)).heap[O (T w)]? =M (yM #[Z a (C la) ca,Z b (C lb) cb] 27 (0,0)):=dU _ _;have X:=Fa (acN (O (T w)) a b ca cb la lb (w.alloc (yM #[Z a (C la) ca,Z b (C lb) cb] 27)) aE (by rw[ba _ _ _ _ _ (0,0) D];rfl) (by rw[ba _ _ _ _ _ (0,0) D];rfl) (F.aa h) (Bj.aa h) B9 Q lF kD);clear p F Bj B9 Q D;go_enter func161,ntmps161;go_wp2_with fail
 generalize (w.alloc (yM #[Z a (C la) ca,Z b (C lb) cb] 27))=W at *;refine X.o.ae ?_;rintro e f ⟨v,rfl,Bh,R⟩;have z:=h.trans (R.ae h.size);have aq:=h.size;rcases Bh.cases with ⟨rfl,U⟩ |⟨g,cap,rfl,ao,r,an,aj,t⟩
 ·have V:L=[]:=by
   have l:la=[]:=(V0.1 U).1;have m:lb=[]:=(V0.1 U).2;rw[H.o,l,m,acd]
  subst V;go_wp2_with fail
  refine(Tryz.slices_Sort_int_none N 0 _).ae ?_;rintro e i ⟨rfl,rfl⟩;go_wp2_with fail
  refine(Tryz.slices_Compact_int_empty N 0 _).ae ?_;rintro e w3 ⟨rfl,rfl⟩;go_wp2;go_ret;exact⟨N,0,rfl,fun k hk=>absurd hk aE,i7.nil _,z⟩
 ·have dO:C (la++lb)<=2000:=by rw[cE];omega
  have K:=Tryz.slices_Sort_int g 0 cap (la++lb) f t r al;have Ba:C ((la++lb).mergeSort fun x y=>decide (x<=y))=C (la++lb):=MQ _;have ak:=Lib.compact_length_le ((la++lb).mergeSort fun x y=>decide (x<=y));rw[<- show aU la lb=Lib.compact ((la++lb).mergeSort fun x y=>decide (x<=y)) from rfl, <- H.o] at ak;have Qd:=Fa K;have ai:wT (Lib.compact ((la++lb).mergeSort fun x y=>decide (x<=y))=L):=H.o.symm;generalize ((la++lb).mergeSort fun x y=>decide (x<=y))=s at *;have Y:=Fa t;clear K t Bh aj R;generalize Ll:C (la++lb)=n at *;go_wp2_with fail
  refine Qd.o.ae ?_;rintro e i ⟨rfl,q,c,rfl⟩;have S:s.toArray.size=(la++lb).toArray.size:=by simp;rw[Ba, <- Ll];simp
  have A:Holds (Value.int I) (grow (putRow (Value.int I) (Sort.ahead f q) g 0 s.toArray) c) g 0 s.toArray:=fun j u=>by
   obtain⟨l,m⟩:=holds_putRow (Value.int I) (Sort.ahead f q) g 0 _ s.toArray Y.o S j u;(have P:g<O (T (putRow (Value.int I) (Sort.ahead f q) g 0 s.toArray)):=by rw[size_putRow];exact r);refine⟨(cell?_grow _ _ _ P).trans l,?_⟩;rw[frozen?_grow _ _ _ P];exact m
  have IP:g<O (T (grow (putRow (Value.int I) (Sort.ahead f q) g 0 s.toArray) c)):=aT r (MB (w:=f) (g:=g) (n:=q) (os:=c) s.toArray).size;have Bb:=Ur (n:=q) (os:=c) s.toArray z z.size (show O (T w)<=g by omega);generalize grow (putRow (Value.int I) (Sort.ahead f q) g 0 s.toArray) c=i at *;have B7:=Tryz.slices_Compact_int g 0 cap s i A al al;rw[Ba,ai.o] at B7;have ad:=Fa B7;have ab:=Fa A;clear B7 A S;go_wp2_with fail
  refine ad.o.ae ?_;rintro e w3 ⟨rfl,q2,rfl⟩;go_wp2;go_ret
  have yj:(L++List.replicate (n - C L) 0).toArray.size=s.toArray.size:=by
   simp;omega
  exact⟨M ⟨g,0,N⟩,cap,rfl,Dt (holds_putRow (Value.int I) (Sort.ahead i q2) g 0 s.toArray _ ab.o yj) (by rw[size_putRow];exact IP) (fun j u=>⟨by simp;omega,by simp[nU,u]⟩),i7.at al,Us _ Bb Bb.size al⟩
theorem amo (j F l n:Nat) (c d:Kd) (ca cb:Nat) (s fb:Array wF) (la lb:List Fr) (k P Q:Nat) (Ba:P<C la) (X:Q<C lb) (w:E)
  (ad:j<O (T w)) (xa:w.cell? ⟨j,1,N⟩=M (Z c (C la) ca)) (cK:F<O (T w)) (ya:w.cell? ⟨F,0,N⟩=M (.func (.func 215) #[] s)) (ai:l<O (T w)) (xb:w.cell? ⟨l,1,N⟩=M (Z d (C lb) cb)) (dB:n<O (T w)) (yb:w.cell? ⟨n,0,N⟩=M (.func (.func 215) #[] fb)) (ha:dH w c la) (b:dH w d lb) (wa:Cw 100000 la) (wb:Cw 100000 lb)
  (h1:∀V,da w V ->c6 215 (#[J I (k:Nat)]++s) V fun e w'=>e=yW (J I (P:Nat))/\da V w')
  (h2:∀V,da w V ->c6 215 (#[J I (k:Nat)]++fb) V fun e w'=>e=yW (J I (Q:Nat))/\da V w'):
  c6 163 #[J I (k:Nat),zR (M ⟨j,0,N⟩),zR (M ⟨F,0,N⟩),zR (M ⟨l,0,N⟩),zR (M ⟨n,0,N⟩)] w (dj w (nC (qF (a8 (aQ la P)*a8 (aQ lb Q))))):=by
 obtain⟨g,o,rfl,Y,Bj,L,Bb⟩:=ha P Ba;obtain⟨h,p,rfl,B7,B9,R,b2⟩:=b Q X;have aj:=wa P Ba;have YG:=wb Q X;rw[<- mr Ba] at Bj L Bb;rw[<- mr X] at B9 R b2;have HC:=Fa (fun V:E=>aam (w:=V) (a8 (aQ la P)*a8 (aQ lb Q)) rfl rfl rfl (show (aQ la P).2.1.size+(aQ la P).2.2.size<=100000 by omega) (show (aQ lb Q).2.1.size+(aQ lb Q).2.2.size<=100000 by omega));rw[T1];have H1:=Fa h1;have H2:=Fa h2;generalize a8 (aQ la P)*a8 (aQ lb Q)=r at *;clear ha b h1 h2 aj YG wa wb;generalize aQ la P=f at *;generalize aQ lb Q=f' at *;obtain⟨xn,xx,xy⟩:=f;obtain⟨yn,yx,yy⟩:=f';simp only at Bj L Bb B9 R b2 HC;have i:aL (w.alloc (FC xd ⟨#[]⟩ ⟨#[]⟩)) (O (T w)) xd ⟨#[]⟩ ⟨#[]⟩:=aL.new w _ _ _;have a:da w (w.alloc (FC xd ⟨#[]⟩ ⟨#[]⟩)):=(au _ w).alloc (ah _) _;go_enter func163,ntmps163;go_upto_region 1 with fail
 generalize (w.alloc (FC xd ⟨#[]⟩ ⟨#[]⟩))=W at *;replace i:=i.drew;replace a:=a.drew;have ab:∀u,da w u ->u.cell? ⟨j,1,N⟩=M (Z (M ⟨g,o,N⟩) (C la) ca)/\u.cell? ⟨F,0,N⟩=M (.func (.func 215) #[] s)/\u.cell? ⟨l,1,N⟩=M (Z (M ⟨h,p,N⟩) (C lb) cb)/\u.cell? ⟨n,0,N⟩=M (.func (.func 215) #[] fb)/\u.cell? ⟨g,o+P*3,N⟩=M (zZ xn)/\u.cell? ⟨g,o+P*3+1,N⟩=M (zK xx)/\u.cell? ⟨g,o+P*3+2,N⟩=M (zK xy)/\u.cell? ⟨h,p+Q*3,N⟩=M (zZ yn)/\u.cell? ⟨h,p+Q*3+1,N⟩=M (zK yx)/\u.cell? ⟨h,p+Q*3+2,N⟩=M (zK yy):=fun u e=>⟨(e.cell (p:=⟨j,1,N⟩) ad).trans xa,(e.cell (p:=⟨F,0,N⟩) cK).trans ya,(e.cell (p:=⟨l,1,N⟩) ai).trans xb,(e.cell (p:=⟨n,0,N⟩) dB).trans yb,(e.cell (p:=⟨g,_,N⟩) Y).trans Bj,(e.cell (p:=⟨g,_,N⟩) Y).trans L,(e.cell (p:=⟨g,_,N⟩) Y).trans Bb,(e.cell (p:=⟨h,_,N⟩) B7).trans B9,(e.cell (p:=⟨h,_,N⟩) B7).trans R,(e.cell (p:=⟨h,_,N⟩) B7).trans b2⟩;have HELD:=Fa ab;clear ab Bj L Bb B9 R b2 xa ya xb yb
 refine iK (S:=fun u=>u.cell? ⟨j,1,N⟩=M (Z (M ⟨g,o,N⟩) (C la) ca)/\u.cell? ⟨F,0,N⟩=M (.func (.func 215) #[] s)/\u.cell? ⟨l,1,N⟩=M (Z (M ⟨h,p,N⟩) (C lb) cb)/\u.cell? ⟨n,0,N⟩=M (.func (.func 215) #[] fb)/\u.cell? ⟨g,o+P*3,N⟩=M (zZ xn)/\u.cell? ⟨g,o+P*3+1,N⟩=M (zK xx)/\u.cell? ⟨g,o+P*3+2,N⟩=M (zK xy)/\u.cell? ⟨h,p+Q*3,N⟩=M (zZ yn)/\u.cell? ⟨h,p+Q*3+1,N⟩=M (zK yx)/\u.cell? ⟨h,p+Q*3+2,N⟩=M (zK yy)) ao (HELD.o _ a) (fun q=>?_);generalize W.drew=u0 at *;refine ar 0 (zR (M ⟨j,1,N⟩)) ?_;try simp only[gE,aP]
 refine cU 1 (Z (M ⟨g,o,N⟩) (C la) ca) ?_ ?_
 ·intro u' Bh;obtain⟨t,v,x,y,z,A,D,Bm,H,U⟩:=Bh;go_simp
 try simp only[gE,aP]
 refine cU 2 (.func (.func 215) #[] s) ?_ ?_
 ·intro u' Bh;obtain⟨t,v,x,y,z,A,D,Bm,H,U⟩:=Bh;go_simp
 refine ar 3 (J I (k:Nat)) ?_;refine ar 7 (zR (M ⟨l,1,N⟩)) ?_;try simp only[gE,aP]
 refine cU 8 (Z (M ⟨h,p,N⟩) (C lb) cb) ?_ ?_
 ·intro u' Bh;obtain⟨t,v,x,y,z,A,D,Bm,H,U⟩:=Bh;go_simp
 try simp only[gE,aP]
 refine cU 9 (.func (.func 215) #[] fb) ?_ ?_
 ·intro u' Bh;obtain⟨t,v,x,y,z,A,D,Bm,H,U⟩:=Bh;go_simp
 refine ar 10 (J I (k:Nat)) ?_;refine aF [4] (cA ?_ aG);intro m K;go_simp;refine(H1.o _ a).ae ?_;rintro e u1 ⟨rfl,b⟩;replace i:=i.aa b i.lt;replace a:=a.trans (b.ae a.size);clear q;refine K.o _ _ (HELD.o _ a) (fun q=>?_);clear K m b;refine ar 5 (zR (M ⟨g,o+P*3,N⟩)) ?_;try simp only[gE,aP]
 refine cU 6 (zd #[zZ xn,zK xx,zK xy]) ?_ ?_
 ·intro u' Bh;obtain⟨t,v,x,y,z,A,D,Bm,H,U⟩:=Bh;go_simp
 refine aF [11] (cA ?_ aG);intro m K;go_simp;refine(H2.o _ a).ae ?_;rintro e u2 ⟨rfl,b⟩;replace i:=i.aa b i.lt;replace a:=a.trans (b.ae a.size);clear q;refine K.o _ _ (HELD.o _ a) (fun q=>?_);clear K m b;refine ar 12 (zR (M ⟨h,p+Q*3,N⟩)) ?_;try simp only[gE,aP]
 refine cU 13 (zd #[zZ yn,zK yx,zK yy]) ?_ ?_
 ·intro u' Bh;obtain⟨t,v,x,y,z,A,D,Bm,H,U⟩:=Bh;go_simp
 refine aF [14] (cA ?_ aG);intro m K;go_simp;refine(HC.o _).ae ?_;rintro e u3 ⟨rfl,b⟩;replace i:=i.aa b i.lt;replace a:=a.trans (b.ae a.size);clear q;refine K.o _ _ (HELD.o _ a) (fun q=>?_);clear K m b;try simp only[gE,aP]
 obtain⟨k0,k1,k2,f0,f1,f2⟩:=i.facts;refine aF [15] (cA ?_ aG);intro m K;go_simp;have ak:=i.put (aW r) (nu r) (de r);have vB:=eT a (g:=O (T w)) (ah _) (zZ (aW r)) (zK (nu r)) (zK (de r));generalize (((u3.setCell ⟨O (T w),0,N⟩ (zZ (aW r))).setCell ⟨O (T w),1,N⟩ (zK (nu r))).setCell ⟨O (T w),2,N⟩ (zK (de r)))=v9 at *;refine K.o _ _ (HELD.o _ vB) (fun _=>eO ao ?_ _);clear K m q;go_wp2;refine dI (ak.result rfl _ rfl) rfl ?_;exact⟨rfl,vB⟩
end Go.Proofs.YtkflnpjapgiajaaGreatDoor
