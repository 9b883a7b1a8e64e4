/- Part7: part 7. -/
import Derived.Test.YtkflnpjapgiajaaGreatDoorLegF6
set_option maxRecDepth 100000
set_option maxHeartbeats 400000000
set_option linter.unusedSimpArgs false
set_option linter.unusedVariables false
namespace Go.Proofs.YtkflnpjapgiajaaGreatDoor
open Value renaming slice→Z,int→J,string→zK,bool→zZ,agg→zd,tuple→zp
open IntKind renaming i64→I
open Obj renaming cells→yM
open Ending renaming returned→yW
open Or renaming inl→yd,inr→yk
open Option renaming none→N,some→M
open Bool renaming true→y6,false→xd
open Go renaming World→E,Value→wF
open RowKit renaming Hid→wT
open Go.Proofs.Tryz
open _root_.Array renaming size→O
open World renaming heap→T
open List renaming length→C
open Go.RowKit Go.Shelf
variable {V : List Vr} {L : List Kx} {R : List (List Fr)} {x y : Nat} {z : Kx}
variable {vx:Nat}
theorem aak (h0:aS V L R=0) (p:Pos (ag V)) (h:er V x y z) (d:vx<sz (ag V) x):bH (kI V L R x vx y z).2=bK V L R [(x,vx)]:=by
 rw[LB h0 p h d,Rt h0 h.hz]
theorem anU {l:List Fr} {a b:Nat} (d:∀k,k<C l ->qw (dr (aQ l k))<=a) (z:qw (1/bH l)<=b):∀k,k<C (lu l) ->qw (dr (aQ (lu l) k))<=a+b:=fun k h=>by
 have c:k<C l:=by rwa [KG] at h
 have e:dr (aQ (lu l) k)=dr (aQ l k)*(1/bH l):=by
  rw[mr h,XK,mr c];exact jC _
 rw[e];have f:=RO (dr (aQ l k)) (1/bH l);have g:=d k c;omega
theorem anT (l:List Fr):Low (lu l):=fun f h=>by
 obtain⟨g,_,rfl⟩:=aN.1 h;rw[jC]
theorem arO (Bb:NM V L R) (h:er V x y z) (d:vx<sz (ag V) x):Cw 100000 (yI V L R x vx y z).2:=fun k c=>by
 have a:=Bb.ok;have p:=Bb.pos;have D:=Bb.lite;have l:=LB (R:=R) (L:=L) a p h d
 have q:∀j,j<(kI V L R x vx y z).2.length ->qw (dr (aQ (kI V L R x vx y z).2 j))<=8003:=fun j b=>by
  rw[l] at b⊢;have n:j<cnt (ag V) (af z):=by simpa [bL] using b
  rw[bL,Jb _ n];show qw (a8 _)<=8003;rw[jC];exact De a D _
 have m:qw (1/bH (kI V L R x vx y z).2)<=8004:=by
  by_cases e:bH (kI V L R x vx y z).2=0
  ·rw[e,jH,Rat.inv_zero,Rat.mul_zero];have:=Nr;omega
  ·have o:=RQ e;have g:=aak (R:=R) (L:=L) a p h d;have i:=De (L:=L) a D [(x,vx)];rw[<- g] at i;omega
 have:=anU q m k c;have f:=SB (anT _) c;show (aQ (lu _) k).2.1.size+(aQ (lu _) k).2.2.size+2<=100000;rw[f];omega
theorem arM (Bb:NM V L R) (h:er V x y z) (d:vx<sz (ag V) x) (f:tz L x y z=(y6,0)):FdS V L R x vx y z:=by
 have a:=Bb.ok;have p:=Bb.pos;have D:=Bb.lite;have c:=Bb.six;have j:=Hu h.q c;have k:=Hu h.u c;have m:=Hu h.hz c;have l:=Hu h.yu c;have n:=lq V;have s:=Bb.szs y;have Ba:=Ea (R:=R) a h;have X:=ahm (R:=R) (L:=L) a p h d;have b:=LB (R:=R) (L:=L) a p h d;have B9:=Pt (L:=L) (R:=R) a p h;have e:=T8 (L:=L) (R:=R) a p h d;have i:=Wo (R:=R) (L:=L) a h.hz [(x,vx)] (by have:=aaD Bb;omega);refine⟨Bb.fine,Bb.one,h.hx,h.hy,d,lp p y,al,al,al,?_,?_,?_,?_,?_,?_,?_,?_,?_,?_,?_,?_,?_,?_,?_,?_,?_,fun g=>arI Bb h d f (by rwa [aak a p h d] at g)⟩
 ·rw[Ba];show C (aU _ _)<=1000;omega
 ·rw[Ba,n];exact zz h.q
 ·rw[Ba];exact(Wp a D _ _).up a6
 ·rw[X];show C (aU _ _)<=1000;omega
 ·rw[X];exact XC a p D h.yu (KC h.yu).1 (KC h.yu).2
 ·rw[b,n];exact zz h.hz
 ·rw[b];show C z<=1000;omega
 ·rw[b];exact Wq a D z [(x,vx)]
 ·rw[b];exact Wn a D h.hz [(x,vx)]
 ·rw[b];omega
 ·rw[Ba];exact XC a p D h.q (KC h.q).1 (KC h.q).2
 ·rw[B9,n];exact zz h.ox
 ·rw[B9];exact(Wp a D _ _).up a6
 ·rw[n];exact aal a p h d
 ·exact arO Bb h d
 ·rw[e];omega
 ·rw[Ba,e];exact XC a p D h.q (KC h.q).1 (KC h.q).2
theorem ar5 (Bb:NM V L R) (h:er V x y z) (d:vx<sz (ag V) x) (g:tz L x y z=(y6,0)) (m:bH (kI V L R x vx y z).2≠0)
  (j:∀k,k<(gN V L R x vx y z).2.length ->dr (aQ (gN V L R x vx y z).2 k)≠0 ->dr (aQ (xg V L R x vx y z).2 k)≠0):
  ((List.range (sz (ag V) y)).map fun v=>qF (sX (gN V L R x vx y z).2 (xg V L R x vx y z).2 (eZ (ag V) y v (gI V L R x y z)).2))=nD V L R [(x,vx)] [(y:Int)] []:=by
 have b:=Bb.ok;have a:=Bb.pos;have f:C L<=8:=by have:=(gY b).len;have:=Bb.six;omega
 have i:fL (ag V) (C V) [(x,vx)]:=⟨aE,fun p a=>by rw[bA.1 a];exact h.hx,fun p a=>by rw[bA.1 a];exact d⟩;have e:gC V L R [(x,vx)] []=1:=KP (LG b i);have c:cnt (ag V) (af [(y:Int)])=sz (ag V) y:=by simp[af,cnt]
 rw[nD,e,c];refine mM fun v l=>?_;have n:=bS.1 l;rw[arK b f a h d n g (by rwa [aak b a h d] at m) j];have q:qV (ag V) (af [(y:Int)]) v=[(y,v)]:=by simp[qV,af,aX,cnt]
 rw[q,kq,jH,show (1:Rat)⁻¹=1 from by have:=Hf 1 a6;rwa [nR] at this,lN]
variable {V : List Vr} {L : List Kx} {R : List (List Fr)}
theorem ar9 (h0:aS V L R=0) {x y:Nat} {z:Kx} (h:er V x y z):kA L [[(x:Int)],[(y:Int)],z]=0/\([(x:Int),(y:Int)]++z).Nodup:=by
 have n:C L=C V:=(gY h0).len;have w:∀u:Nat,u<C V ->Up [(u:Int)] (C V):=fun u i=>eH.2 ⟨fun v g=>by rw[bA.1 g];omega,Hk _ _⟩
 have Bh:([(x:Int)]++([(y:Int)]++z)).Nodup:=by
  simp only[nT,bE,bA];refine⟨aE,⟨aE,CX h.hz,fun a d b c e=>?_⟩,fun a d b c e=>?_⟩
  ·subst d;subst e;exact h.yz ((h.zm y).2 c)
  ·subst d;rcases c with c |c
   ·subst c;exact h.xy al
   ·subst e;exact h.xz ((h.zm x).2 c)
 have p:jE (C L) [[(x:Int)],[(y:Int)],z]=true:=by
  rw[n];refine D9.2 ⟨fun l f=>?_,by simpa using Bh⟩;simp only[bY,gK,jq] at f;rcases f with rfl |rfl |rfl
  ·exact Ro (w x h.hx)
  ·exact Ro (w y h.hy)
  ·exact Ro h.hz
 exact⟨by rw[kA,aw (ND h0),aw p],by simpa using Bh⟩
open Go.Lib
variable {R:List (List Fr)} {L:List Kx} {V:List Vr}
theorem SC (h0:aS V L R=0) {d:List (Nat×Nat)} (h:fL (ag V) (C V) d):gC V L R d []=1:=KP (LG h0 h)
theorem ar3 (h0:aS V L R=0) {d:List (Nat×Nat)} (h:fL (ag V) (C V) d) {Y:Kx} (a:Up Y (C V)):bH (nD V L R d Y [])=1:=by
 have e:=afb h0 h (A2 a) [];rw[SC h0 h] at e;rw[nD,SC h0 h,Lu];refine Eq.trans (gM fun K _=>?_) e;rw[jH,show (1:Rat)⁻¹=1 from by have:=Hf 1 a6;rwa [nR] at this,lN]
theorem aao (d:List (Nat×Nat)) (y:Nat):C (nD V L R d [(y:Int)] [])=sz (ag V) y:=by
 simp[nD,af,cnt]
theorem ar1 (h0:aS V L R=0) {d:List (Nat×Nat)} (h:fL (ag V) (C V) d) (Y:Kx):nD V L R d Y []=(bL V (fZ d L) (fO V d (di R)) Y []).2:=by
 rw[nD,bL];refine mM fun K _=>?_;rw[SC h0 h,SE h0 h,jH,show (1:Rat)⁻¹=1 from by have:=Hf 1 a6;rwa [nR] at this,lN]
theorem ar4 (Bb:NM V L R) {d:List (Nat×Nat)} (a:fL (ag V) (C V) d) {Y:Kx} (b:Up Y (C V)):(∀k (h:k<C (nD V L R d Y [])),(nD V L R d Y [])[k].2.1.size+(nD V L R d Y [])[k].2.2.size<=40000)/\∀k,k<=C (nD V L R d Y []) ->qw (bH ((nD V L R d Y []).take k))<=40000:=by
 have n:aS V (fZ d L) (fO V d (di R))=0:=Pv (by rw[Sr];exact Bb.ok) a;have D:=(Bb.dos a).lt;rw[ar1 Bb.ok a Y];exact⟨Wq n D Y [],Wn n D b []⟩
theorem akt (a b c y d:Kd) (ca cb cc cy i:Nat) (V:List Vr) (L:List Kx) (R:List (List Fr)) (Y:Kx) (D:List (Nat×Nat)) (w:E) (Bb:NM V L R) (h:AA w a b c V L R) (H:aB w y Y) (o:Up Y (C V)) (x:kn w d (zF D)) (q:C (zF D)<=i) (f:fL (ag V) (C V) D) (h1:∀v∈af Y,¬v∈D.map (·.1)):
  c6 12 #[zd #[Z a (C V) ca,Z b (C L) cb,Z c (C R) cc],Z y (C Y) cy,Z d (C (zF D)) i,Z N 0 0] w fun e w'=>yK Y (nD V L R D Y []) 0 e w'/\da w w':=by
 have u:=Bb.six;have Ba:=(Xi Bb.ok f).1;have K:C Y<=6:=Hu o u;have F:fL (ag V) (C V) []:=⟨Hl,(fun _ g=>by cases g),(fun _ g=>by cases g)⟩;have m:∀ {l:List (Nat×Nat)},fL (ag V) (C V) l ->C (zF l)<=1000:=fun {l} m=>by rw[AY];have:=m.len;omega
 have Bh:=any_none (Y:=Y) (d:=D) (l:=[]) h1 (fun p g=>by cases g);obtain⟨n,r⟩:=ar2 (d:=D) Bb.ok f o F (fun v _ Bm=>by cases Bm);have Bj:=SC Bb.ok f;have z:gC V L R D []≠0:=by rw[Bj];decide
 rw[aC z] at n;have j:=atm a b c y d N ca cb cc cy i 0 V L R Y (zF D) [] w h H al x (m f) q (fun k A=>absurd A aE) aE aE (by rw[Dc];exact Bb.dos f) Ba (by rw[Dc];exact n) Bh;have s:=r z;rw[Dc] at j;have t:lU V (fZ D L) (fO V D (di R)) Y []=(Y,nD V L R D Y []):=s;rw[t] at j;exact j
theorem ajZ (a b c:Kd) (ca cb cc:Nat) (V:List Vr) (L:List Kx) (R:List (List Fr)) (x vx y:Nat) (w:E) (S:NM V L R) (h:AA w a b c V L R) (hx:x<C V) (Bb:vx<sz (ag V) x) (hy:y<C V) (lC:x≠y):
  c6 27 #[zd #[Z a (C V) ca,Z b (C L) cb,Z c (C R) cc],zd #[J I (x:Nat),J I (vx:Nat)],J I (y:Nat)] w fun e w'=>∃d cd,e=yW (zp #[Z d (sz (ag V) y) cd,zZ y6])/\dH w' d (nD V L R [(x,vx)] [(y:Int)] [])/\da w w':=by
 have Q:fL (ag V) (C V) [(x,vx)]:=⟨aE,fun p z=>by rw[bA.1 z];exact hx,fun p z=>by rw[bA.1 z];exact Bb⟩;have Y:Up [(y:Int)] (C V):=eH.2 ⟨fun v D=>by rw[bA.1 D];omega,Hk _ _⟩
 have ab:wT (∀(l k:Nat) (U:E),da w U ->aB U (M ⟨l,0,N⟩) [(y:Int)] ->kn U (M ⟨k,0,N⟩) [((x:Int),(vx:Int))] ->c6 12 #[zd #[Z a (C V) ca,Z b (C L) cb,Z c (C R) cc],Z (M ⟨l,0,N⟩) 1 1,Z (M ⟨k,0,N⟩) 1 1,Z N 0 0] U fun e w'=>yK [(y:Int)] (nD V L R [(x,vx)] [(y:Int)] []) 0 e w'/\da U w'):=fun l k U hU hi hf=>
  akt a b c (M ⟨l,0,N⟩) (M ⟨k,0,N⟩) ca cb cc 1 1 V L R [(y:Int)] [(x,vx)] U S (h.aa hU) hi Y hf (by simp[zF]) Q (fun v D hm=>by
   simp[af] at D hm;omega)
 have ai:=aao (V:=V) (L:=L) (R:=R) [(x,vx)] y;have qJ:=Fa ai;clear ai Q Y h S hx Bb hy;generalize nD V L R [(x,vx)] [(y:Int)] []=Bm at *;have r:da w (w.alloc (yM #[Z a (C V) ca,Z b (C L) cb,Z c (C R) cc] 26)):=(au _ w).alloc (ah _) _;have b2:=r.alloc r.size (yM #[J I (x:Nat),J I (vx:Nat)] 30);have s:O (T ((w.alloc (yM #[Z a (C V) ca,Z b (C L) cb,Z c (C R) cc] 26)).alloc (yM #[J I (x:Nat),J I (vx:Nat)] 30)))=O (T w)+1+1:=aE
 generalize hW2:((w.alloc (yM #[Z a (C V) ca,Z b (C L) cb,Z c (C R) cc] 26)).alloc (yM #[J I (x:Nat),J I (vx:Nat)] 30))=i at b2 s;have zU:=rR i (y:Nat);have ad:O (T (i.alloc (yM #[J I (y:Nat)] 3)))=O (T w)+1+1+1:=by simp[s]
 have u:Below (O (T (i.alloc (yM #[J I (y:Nat)] 3)))) _ ((i.alloc (yM #[J I (y:Nat)] 3)).alloc (yM #[J I (x:Nat),J I (vx:Nat)] 30)):=(au _ _).alloc (ah _) _;have B9:=zU.aa u;have Ba:=Sp (i.alloc (yM #[J I (y:Nat)] 3)) (x:Nat) (vx:Nat);have H:=(b2.alloc b2.size (yM #[J I (y:Nat)] 3)).trans (u.ae (b2.alloc b2.size _).size);rw[s] at B9;rw[ad] at Ba;have P:=Fa (ab.o _ _ _ H B9 Ba);have A:=Fa H;rw[<- hW2] at P A;clear r b2 s hW2 zU ad u B9 Ba H ab i;go_enter func27,ntmps27;go_wp2_with fail
 refine P.o.ae ?_;rintro e f ⟨⟨n,t,q,j,rfl, -,B7⟩,X⟩;have Bj:da f (f.alloc (yM #[Z n 1 q,Z t (C Bm) j] 38)):=(au _ f).alloc (ah _) _;have m:aZ (f.alloc (yM #[Z n 1 q,Z t (C Bm) j] 38)) (O (T f)) (Z n 1 q) (Z t (C Bm) j):=dU f _;have F:=A.o.trans (X.ae A.o.size);have K:=F.trans (Bj.ae F.size);have Bh:=B7.aa Bj;obtain⟨gt,dY⟩:∃g,O (T f)=g:=⟨_,rfl⟩;obtain⟨w2,SL⟩:∃U,f.alloc (yM #[Z n 1 q,Z t (C Bm) j] 38)=U:=⟨_,rfl⟩;rw[SL] at m K Bh;rw[dY] at m;obtain⟨t0,t1, -, -⟩:=m.facts;have HW:=Fa K;have HC:=Fa Bh;clear X Bj m F K Bh B7 P A;go_wp2_with fail
 go_ret2;exact⟨t,j,by rw[<- qJ.o];rfl,HC.o,HW.o⟩
variable {U:E}
theorem anG {b:Kd} {c:Nat} {x:Kx} (h0:aB U b x):dP (U.alloc (yM #[Z b (C x) c] 27)) (M ⟨O (T U),0,N⟩) [x]:=fun k a=>by
 have h:da U (U.alloc (yM #[Z b (C x) c] 27)):=(au _ U).alloc (ah _) _;have n:(U.alloc (yM #[Z b (C x) c] 27)).heap[O (T U)]? =M (yM #[Z b (C x) c] 27 (0,0)):=dU U _;have z:O (T U)<O (T (U.alloc (yM #[Z b (C x) c] 27))):=aE
 match k,a with
 |0,_=>exact⟨_,0,b,c,rfl,z,by rw[ba _ _ _ _ _ (0,0) n];rfl,h0.aa h⟩
theorem ajY (n s t az:Kd) (A D Bm cz:Nat) (j L2 k z:Kx) (bk:Bool) (Y ky kv:Int) (w:E) (h1:aB w n j) (h2:aB w s L2) (h3:aB w t k) (hz:aB w az z) (r1:B6 j) (r2:B6 L2) (r3:B6 k) (rz:B6 z) (cl: -9223372036854775808<=Y/\Y<=9223372036854775807) (K8: -9223372036854775808<=ky/\ky<=9223372036854775807) (zS: -9223372036854775808<=kv/\kv<=9223372036854775807):
  c6 6 #[zd #[Z n (C j) A,Z s (C L2) D,Z t (C k) Bm,zZ bk],J I Y,J I ky,Z az (C z) cz,J I kv] w (dj w (zZ y6)):=by
 have br:=Fa (fun (U:E) (hB:da w U)=>ao2 n s t A D Bm j L2 k bk U (h1.aa hB) (h2.aa hB) (h3.aa hB) r1 r2 r3);have bp:=Fa (fun (U:E) (hB:da w U)=>akr n s t A D Bm j L2 k bk U (h1.aa hB) (h2.aa hB) (h3.aa hB) r1.1 r2.1 r3.1);have sL:wT (∀U:E,da w U ->dP (U.alloc (yM #[Z az (C z) cz] 27)) (M ⟨O (T U),0,N⟩) [z]):=fun U Ba=>anG (hz.aa Ba)
 have Vc:wT (∀(G:Nat) (U:E),dP U (M ⟨G,0,N⟩) [z] ->c6 26 #[Z (M ⟨G,0,N⟩) 1 1] U fun e w'=>∃q,e=yW (zZ q)/\(q=xd ->C z<=512)/\w'=U):=fun G U Ba=>(aci (M ⟨G,0,N⟩) 1 [z] U Ba (fun l hl=>by
  rw[bA.1 hl];exact rz.1) aE).ae fun e w' ⟨q,h,h',cG⟩=>⟨q,h,fun e=>h' e z aE,cG⟩
 have ax:=Fa cl;have ay:=Fa K8;have Jy:=Fa zS;have rW:(w.alloc (yM #[Z n (C j) A,Z s (C L2) D,Z t (C k) Bm,zZ bk] 47)).heap[O (T w)]? =M (yM #[Z n (C j) A,Z s (C L2) D,Z t (C k) Bm,zZ bk] 47 (0,0)):=dU w _;have q0:(w.alloc (yM #[Z n (C j) A,Z s (C L2) D,Z t (C k) Bm,zZ bk] 47)).cell? ⟨O (T w),0,N⟩=M (Z n (C j) A):=by rw[ba _ _ _ _ _ (0,0) rW];rfl
 have q1:(w.alloc (yM #[Z n (C j) A,Z s (C L2) D,Z t (C k) Bm,zZ bk] 47)).cell? ⟨O (T w),1,N⟩=M (Z s (C L2) D):=by rw[ba _ _ _ _ _ (0,0) rW];rfl
 have q2:(w.alloc (yM #[Z n (C j) A,Z s (C L2) D,Z t (C k) Bm,zZ bk] 47)).cell? ⟨O (T w),2,N⟩=M (Z t (C k) Bm):=by rw[ba _ _ _ _ _ (0,0) rW];rfl
 have q3:(w.alloc (yM #[Z n (C j) A,Z s (C L2) D,Z t (C k) Bm,zZ bk] 47)).cell? ⟨O (T w),3,N⟩=M (zZ bk):=by rw[ba _ _ _ _ _ (0,0) rW];rfl
 have ak:da w (w.alloc (yM #[Z n (C j) A,Z s (C L2) D,Z t (C k) Bm,zZ bk] 47)):=(au _ w).alloc (ah _) _;have zQ:O (T w)<O (T (w.alloc (yM #[Z n (C j) A,Z s (C L2) D,Z t (C k) Bm,zZ bk] 47))):=aE
 have UM:=Fa rz.2;have HZ:=Fa hz;clear h1 h2 h3 hz r1 r2 r3 rz rW cl K8 zS;go_enter func6,ntmps6;go_wp2_with fail
 generalize (w.alloc (yM #[Z n (C j) A,Z s (C L2) D,Z t (C k) Bm,zZ bk] 47))=W0 at *;refine(bp.o _ ak).ae ?_;rintro e W1 ⟨q,rfl,ad⟩;have cM:=Fa (ak.trans (ad.ae ak.size))
 have bt:wT (∀U:E,da W1 U ->U.cell? ⟨O (T w),0,N⟩=M (Z n (C j) A)/\U.cell? ⟨O (T w),1,N⟩=M (Z s (C L2) D)/\U.cell? ⟨O (T w),2,N⟩=M (Z t (C k) Bm)/\U.cell? ⟨O (T w),3,N⟩=M (zZ bk)):=fun U Ba=>by
  have kE:=aT zQ ad.size;exact⟨(Ba.cell (p:=⟨O (T w),0,N⟩) kE).trans ((ad.cell (p:=⟨O (T w),0,N⟩) zQ).trans q0),(Ba.cell (p:=⟨O (T w),1,N⟩) kE).trans ((ad.cell (p:=⟨O (T w),1,N⟩) zQ).trans q1),(Ba.cell (p:=⟨O (T w),2,N⟩) kE).trans ((ad.cell (p:=⟨O (T w),2,N⟩) zQ).trans q2),(Ba.cell (p:=⟨O (T w),3,N⟩) kE).trans ((ad.cell (p:=⟨O (T w),3,N⟩) zQ).trans q3)⟩
 clear q0 q1 q2 q3 ak ad zQ bp;cases q with
 |true=>
  go_wp2;go_ret;exact⟨rfl,cM.o⟩
 |false=>
  have nB:da W1 (W1.alloc (yM #[Z az (C z) cz] 27)):=(au _ W1).alloc (ah _) _;have aY:=Fa (cM.o.trans (nB.ae cM.o.size));have nN:=Fa (sL.o W1 cM.o);have Cl:=Fa (bt.o _ nB);clear sL cM bt nB;go_wp2_with fail
  generalize (W1.alloc (yM #[Z az (C z) cz] 27))=W2 at *;refine(Vc.o _ _ nN.o).ae ?_;rintro e W3 ⟨q,rfl,Bj,rfl⟩;clear nN Vc;cases q with
  |true=>
   clear Bj;go_wp2;go_ret;exact⟨rfl,aY.o⟩
  |false=>
   have lz:=Bj rfl;obtain⟨q0,q1,q2,q3⟩:=Cl.o;clear Bj Cl;go_wp2_with fail
   refine(br.o _ aY.o).ae ?_;rintro e W4 ⟨a,b,c,ca,cb,cc,V,L,R,rfl,hN,ch,i,ai⟩;clear q0 q1 q2 q3 br;have fX:=i.one;have BL:=i.six;have bD:=gY i.ok;have fR:=aY.o.trans (ai.ae aY.o.size);have K:da W4 (W4.alloc (NC (Z a (C V) ca) (Z b (C L) cb) (Z c (C R) cc))):=(au _ W4).alloc (ah _) _;have bB:=cj.at (w:=W4) rfl (Z a (C V) ca) (Z b (C L) cb) (Z c (C R) cc);have HS:=Fa (show TS w _ _ a b c ca cb cc V L R from ⟨bB,(i.ni4 hN ch).aa K,fR.trans (K.ae fR.size)⟩);obtain⟨F,H,b2⟩:=bB.cells;clear hN ch ai fR K bB aY
   have yO:wT (∀(d:Kd) (cd:Nat) (l:Kx) (B7:E),aB B7 d l ->C l<=512 ->(∀x∈l, -9223372036854775808<=x/\x<=9223372036854775807) ->c6 23 #[Z d (C l) cd,J I (C V:Nat)] B7 fun e w'=>∃d' LV U,e=yW (Z d' (C U) LV)/\aB w' d' U/\Up U (C V)/\U.length<=6/\da B7 w'):=fun d cd l B7 hd hl hr=>(alY d cd (C V) l B7 hd hr al fX al).ae fun e w' ⟨x,U,h,hr,hu,hb⟩=>by
    obtain⟨d',LV,rfl,hi⟩:=hr.ints;exact⟨d',LV,U,h,hi,hu,Hu hu BL,hb⟩
   have Qk:wT (∀U:E,c6 21 #[J I Y,J I (C V:Nat)] U fun e w'=>e=yW (J I (sV Y (C V):Nat))/\da U w'):=fun U=>Kp Y (C V) U ax.o.1 ax.o.2 fX al;have bs:wT (∀U:E,c6 21 #[J I ky,J I (C V:Nat)] U fun e w'=>e=yW (J I (sV ky (C V):Nat))/\da U w'):=fun U=>Kp ky (C V) U ay.o.1 ay.o.2 fX al;have tk:=Kw Y fX;have S7:=Kw ky fX;generalize sV Y (C V)=x at *;generalize sV ky (C V)=y at *;go_wp2_with fail
   clear F H b2;generalize I6:O (T W4)=B at *;clear I6;generalize (W4.alloc (NC (Z a (C V) ca) (Z b (C L) cb) (Z c (C R) cc)))=W5 at *;refine(Qk.o _).ae ?_;rintro e W6 ⟨rfl,iQ⟩;have rq:=Fa (HS.o.step iQ);clear iQ HS Qk;go_wp2_with fail
   refine(bs.o _).ae ?_;rintro e W7 ⟨rfl,eR⟩;have vO:=Fa (rq.o.step eR);clear eR rq bs;by_cases lC:x=y
   ·have hc:((x:Int)==(y:Int))=true:=by rw[lC];simp
    go_wp2_with fail
    go_ret;exact⟨rfl,vO.o.fr⟩
   ·have hc:((x:Int)==(y:Int))=false:=by simp;omega
    have bw:=Fa (HZ.o.aa vO.o.fr);have cR:C V<=6:=BL;go_wp2_with fail
    clear hc;refine(yO.o az cz z _ bw.o lz UM.o).ae ?_;rintro e W8 ⟨d1,k1,S,rfl,i1,u1,m1,iW⟩;have Gx:=Fa (vO.o.step iW);have K:da W8 (W8.alloc (yM #[J I (x:Nat),J I (y:Nat)] 3)):=(au _ W8).alloc (ah _) _;have qJ:=Fa (al6 d1 (M ⟨O (T W8),0,N⟩) k1 2 S [(x:Int),(y:Int)] _ (i1.aa K) (Wm W8 (x:Nat) (y:Nat)) al aE);have b5:=Fa (Gx.o.step K);have bu:=Fa u1;clear i1 u1 iW K vO bw HZ yO UM;go_wp2_with fail
    refine qJ.o.ae ?_;rintro e Bh ⟨v9,rfl,vk,F0⟩;have Gw:=Fa (b5.o.step F0);obtain⟨d2,k2,rfl,i2,bO, -⟩:=bW.ints3 vk;have b4:=Fa bO;clear bO;have AO:=Fa i2;clear F0 vk i2 qJ Gx b5;have eY:C (qi S [(x:Int),(y:Int)])<=6:=aM (oT _ _) m1;obtain⟨F,H,b2⟩:=Gw.o.box.cells;have bb:da Bh (Bh.alloc (yM #[J I (x:Nat)] 3)):=(au _ Bh).alloc (ah _) _;(have bx:O (T (Bh.alloc (yM #[J I (x:Nat)] 3)))=O (T Bh)+1:=aE);have Um:Below (O (T (Bh.alloc (yM #[J I (x:Nat)] 3)))) _ ((Bh.alloc (yM #[J I (x:Nat)] 3)).alloc (yM #[J I kv] 3)):=(au _ _).alloc (ah _) _;have ZI:=(Gw.o.step bb).step Um;have bN:=(rR Bh (x:Nat)).aa Um;have Y8:=rR (Bh.alloc (yM #[J I (x:Nat)] 3)) kv;rw[bx] at Y8;have bo:=Fa (ama a b c (M ⟨O (T Bh),0,N⟩) (M ⟨O (T Bh)+1,0,N⟩) ca cb cc 1 1 V L R [(x:Int)] [kv] _ ZI.net.net bN Y8 (eH.2 ⟨fun v X=>by rw[bA.1 X];omega,Hk _ _⟩) aE (fun v X=>by rw[bA.1 X];exact Jy.o) aE (fun v X=>by have:=((XO i.ok).1.len v X);have h2:=i.small.Fd.2 V[v] (bU X);exact⟨al,al⟩));have b8:=Fa ZI;have b3:=Fa ((AO.o.aa bb).aa Um);clear bb bx Um ZI bN Y8 Gw AO ax ay Jy;go_wp2_with fail
    refine bo.o.ae ?_;rintro e B9 ⟨cW,l,rfl,cq,ab,an,IY⟩
    obtain⟨vx,rfl,dw⟩:∃vx,l=[(x,vx)]/\vx<sz (ag V) x:=by
     match l,ab,an with
     |[],ab,_=>simp[af] at ab
     |[q],ab,an=>
      (have h1:q.1=x:=by simpa [af] using ab);exact⟨q.2,by rw[<- h1],by rw[<- h1];exact an q aE⟩
     |q::r::m,ab,_=>simp[af] at ab
    obtain⟨df,cf,rfl,zW, -, -⟩:=cq.facts;obtain⟨gf,of,e0,yv,f0,f1⟩:=zW 0 (by simp[zF]);(have cC:B9.cell? ⟨gf,of,N⟩=M (J I (x:Nat)):=by simpa [zF] using f0);have cD:B9.cell? ⟨gf,of+1,N⟩=M (J I (vx:Nat)):=by simpa [zF] using f1
    cases e0;have cr:C (zF [(x,vx)])=1:=rfl;have b7:=Fa (b8.o.step IY);have bX:=Fa (b3.o.aa IY);simp only[cr];have K:da B9 (B9.alloc (yM #[J I (x:Nat),J I (vx:Nat)] 30)):=(au _ B9).alloc (ah _) _;have Bj:=dU B9 (yM #[J I (x:Nat),J I (vx:Nat)] 30);have ZH:=b7.o.step K;have ZP:=bX.o.aa K;obtain⟨f,Lb⟩:∃g,O (T B9)=g:=⟨_,rfl⟩;obtain⟨Bb,bC⟩:∃U,B9.alloc (yM #[J I (x:Nat),J I (vx:Nat)] 30)=U:=⟨_,rfl⟩;rw[bC] at Bj ZH ZP;rw[Lb] at Bj;have Q:=Fa ZH;have Qw:=Fa ZP;have P:wT (Bb.heap[f]? =M (yM #[J I (x:Nat),J I (vx:Nat)] 30 (0,0))):=Bj;clear cq ab an IY zW f0 f1 b8 b3 bo F H b2 cr K ZH ZP b7 bX;obtain⟨F,H,b2⟩:=Q.o.box.cells;have p0:Bb.cell? ⟨f,0,N⟩=M (J I (x:Nat)):=(ba Bb f 0 _ _ (0,0) Bj).trans rfl;have p1:Bb.cell? ⟨f,1,N⟩=M (J I (vx:Nat)):=(ba Bb f 1 _ _ (0,0) Bj).trans rfl;clear Bj
    have TE:er V x y (qi S [(x:Int),(y:Int)]):=by
     have cm:∀u:Nat,u=x∨u=y ->¬u∈af (qi S [(x:Int),(y:Int)]):=fun u hu hm=>by
      obtain⟨q,Bj,e⟩:=aN.1 hm;obtain⟨uq,pq⟩:=dC.1 Bj;have yo:=((eH.1 bu.o).1 q uq).1;(have cN:q=(u:Int):=al);subst cN;rcases hu with rfl |rfl<;>simp[lB] at pq
     exact⟨tk,S7,ajU bu.o,lC,cm x (yd rfl),cm y (yk rfl)⟩
    have av:=Fa TE;obtain⟨bm,eJ⟩:=ar9 i.ok TE;obtain⟨r3,bf⟩:∃r3,tz L x y (qi S [(x:Int),(y:Int)])=(r3,0):=⟨_,by rw[tz,aw bm]⟩;have cO:=Hu TE.hz BL;(have Ox:∀l∈L,C l<=1000:=fun l hl=>by have:=i.few l hl;omega)
    have Vk:wT (c6 33 #[Z b (C L) cb,J I (x:Nat),J I (y:Nat),Z d2 (C (qi S [(x:Int),(y:Int)])) k2] Bb fun e w'=>e=yW (zp #[zZ r3,J I 0])/\da Bb w'):=by
     have:=atl b d2 cb k2 L x y (qi S [(x:Int),(y:Int)]) Bb Q.o.net.net.pars Ox Qw.o b4.o al;rw[bf] at this;exact this
    have jF:=Fa bf;have cw:=Fa bm;have sK:=Fa eJ;have cu:=Fa Ox;clear TE bm eJ bf Ox;go_wp2_with fail
    clear Lb bC;refine Vk.o.ae ?_;rintro e L8 ⟨rfl,hb⟩;replace Q:=Fa (Q.o.step hb);replace Qw:=Fa (Qw.o.aa hb);replace P:wT (L8.heap[f]? =M (yM #[J I (x:Nat),J I (vx:Nat)] 30 (0,0))):=(hb.block f (cS.1 P.o).1).trans P.o;clear hb Vk F H b2 p0 p1;obtain⟨F,H,b2⟩:=Q.o.box.cells;have p0:L8.cell? ⟨f,0,N⟩=M (J I (x:Nat)):=(ba L8 f 0 _ _ (0,0) P.o).trans rfl;have p1:L8.cell? ⟨f,1,N⟩=M (J I (vx:Nat)):=(ba L8 f 1 _ _ (0,0) P.o).trans rfl;have sI:=Fa (ajZ a b c ca cb cc V L R x vx y L8 i Q.o.net tk dw S7 lC);go_wp2_with fail
    refine sI.o.ae ?_;rintro e Je ⟨dp,cp,rfl,bz,Tq⟩;have UL:=Fa (Q.o.step Tq);have bP:=Fa (Qw.o.aa Tq);have a6:=Fa bz;have aR:wT (Je.heap[f]? =M (yM #[J I (x:Nat),J I (vx:Nat)] 30 (0,0))):=(Tq.block f (cS.1 P.o).1).trans P.o;clear bz Tq sI Q Qw P F H b2 p0 p1 cC cD yv;obtain⟨F,H,b2⟩:=UL.o.box.cells;obtain⟨gv,ov,bv,cv,rfl,FT,v0,v1, -⟩:=UL.o.net.net.Fd y S7;have jx:V[y].2.length=sz (ag V) y:=(H4 S7).symm;rw[jx] at v1;(have N3:(y:Int)<(C V:Int):=al);have fD:fL (ag V) (C V) [(x,vx)]:=⟨aE,fun p hp=>by rw[bA.1 hp];exact tk,fun p hp=>by rw[bA.1 hp];exact dw⟩;have Zv:Up [(y:Int)] (C V):=eH.2 ⟨fun v X=>by rw[bA.1 X];omega,Hk _ _⟩;have bc:=ar4 (L:=L) (R:=R) i fD Zv;have aj:=aao (V:=V) (L:=L) (R:=R) [(x,vx)] y;have cK:=i.szs y;have bh:=alX dp cp (nD V L R [(x,vx)] [(y:Int)] []) Je a6.o bc.1 bc.2 al;rw[ar3 i.ok fD Zv,aj] at bh;have tH:wT (c6 28 #[Z dp (sz (ag V) y) cp] Je fun e w'=>e=yW (zd #[zZ (aW 1),zK (nu 1),zK (de 1)])/\da Je w'):=bh;have pR:wT (∀U:E,c6 29 #[J I 1] U fun e w'=>e=yW (zd #[zZ (aW 1),zK (nu 1),zK (de 1)])/\da U w'):=fun U=>al1 U;clear bc aj bh jx fD Zv;go_wp2_with fail
    refine tH.o.ae ?_;rintro e cx ⟨rfl,O0⟩;have b6:=Fa (UL.o.step O0);go_wp2_with fail
    refine(pR.o _).ae ?_;rintro e L6 ⟨rfl,OZ⟩;have Qe:=Fa (b6.o.step OZ);have cB:=Fa ((bP.o.aa O0).aa OZ);have cy:=Fa ((a6.o.aa O0).aa OZ);have aJ:wT (cx.heap[f]? =M (yM #[J I (x:Nat),J I (vx:Nat)] 30 (0,0))):=(O0.block f (cS.1 aR.o).1).trans aR.o;have cg:wT (L6.heap[f]? =M (yM #[J I (x:Nat),J I (vx:Nat)] 30 (0,0))):=(OZ.block f (cS.1 aJ.o).1).trans aJ.o;clear O0 OZ tH pR UL b6 bP a6 aR aJ F H b2 v0 v1 FT;obtain⟨F,H,b2⟩:=Qe.o.box.cells;cases r3 with
    |false=>
     go_wp2_with fail
     go_ret;exact⟨rfl,Qe.o.fr⟩
    |true=>
     have p0:L6.cell? ⟨f,0,N⟩=M (J I (x:Nat)):=(ba L6 f 0 _ _ (0,0) cg.o).trans rfl;have p1:L6.cell? ⟨f,1,N⟩=M (J I (vx:Nat)):=(ba L6 f 1 _ _ (0,0) cg.o).trans rfl;have fD:fL (ag V) (C V) [(x,vx)]:=⟨aE,fun p hp=>by rw[bA.1 hp];exact tk,fun p hp=>by rw[bA.1 hp];exact dw⟩;have aq:=Fa (atk _ b c d2 ca cb cc k2 V L R x vx y (qi S [(x:Int),(y:Int)]) L6 Qe.o.net cu.o cB.o b4.o (Xi i.ok fD).1 cw.o sK.o (adI i.ok av.o.q).1 (arM i av.o dw jF.o));clear fD;go_wp2_with fail
     refine aq.o.ae ?_;rintro e y4 ⟨⟨d4,n4,c4,k4,rfl,cL,bg⟩,ai⟩;have ao:=Qe.o.fr.trans (ai.ae Qe.o.fr.size);rcases cL with rfl |rfl
     ·obtain⟨cn,Le,rfl,bd⟩:=bg rfl;rw[ar5 i av.o dw jF.o cn Le] at bd;have cK:=i.szs y;have aj:=aao (V:=V) (L:=L) (R:=R) [(x,vx)] y;have YH:=akk dp d4 cp c4 (nD V L R [(x,vx)] [(y:Int)] []) y4 (cy.o.aa ai) bd al;rw[aj] at YH;have lK:=Fa YH;have Mt:=Fa ao;clear bg cn Le bd YH aj ai ao F H b2 p0 p1 aq;go_wp2_with fail
      refine lK.o.ae ?_;rintro e y5 ⟨rfl,ck⟩;have ct:=Fa (Mt.o.trans (ck.ae Mt.o.size));clear ck;go_wp2_with fail
      go_ret;exact⟨rfl,ct.o⟩
     ·have Mt:=Fa ao;clear bg ai ao F H b2 p0 p1 aq;go_wp2_with fail
      go_ret;exact⟨rfl,Mt.o⟩
open Go.ChangeShapes Go.WideShapes Go.ChangeAt
variable {fn:Func}
theorem apj {H:Type} {enc:TypeId×wF ->H} {a:Assume} {B1:Checked} {os:Os} {f:FuncId} {s:ChangeSpec} {c:List PathCond} {r d B9 n:Bool} {X:E ->Array wF ->Prop}
  (k:∀(w w':E) (g:Array wF),w.heap=w'.heap ->X w g ->X w' g)
  (own:ownKnob B1.prog.godebug=N) (K:os.Started) (q:B1.prog.inits.idxOf? f=N) (A:B1.prog.funcs[f]? =M fn)
  (L:∃(w:E) (p:Tape) (i:Input),w.os=os/\(w.forCall p i).Shaped B1.prog/\i.vars=[]/\Input.okWide B1.prog (w.forCall p i) .any (O (T w)) f i/\
   ((s.pre enc B1.prog fn c r (w.forCall p i).memory i.args/\X (w.forCall p i).memory i.args)/\sizedMet enc B1.prog fn (OpenSpec.ofChange s) r (w.forCall p i).memory i.args)/\a.holds B1.prog (lone (Frame.enter B1.prog f i.args .normal) [] (w.forCall p i)))
  (Bh:∀(W:E) (Bm:Nat) (g:Array wF) (ds gs:List (DataW H)) (b:List MemPlace),
   (∀(j:Nat) t v,fn.params[j]? =M t ->g[j]? =M v ->Value.okWide B1.prog W .any Bm t v) ->
   DataW.Whole enc B1.prog fn.params.toList s.vars r W g.toList ds gs b ->
   (DataW.weightsEach B1.prog (fn.params.toList++s.plain.varTypes B1.prog) (ds++gs)).all (·<=reachBytes)=y6 ->X W g ->W.ShapedOpen B1.prog ->
   Calls B1.prog f g W fun e W'=>∃v,e=yW v/\s.post enc B1.prog fn r d B9 n W g v W'):
  ReturnsInHanded a B1 os f .any (fun w g=>(s.pre enc B1.prog fn c r w g/\X w g)/\sizedMet enc B1.prog fn (OpenSpec.ofChange s) r w g) (s.post enc B1.prog fn r d B9 n):=by
 refine returnsInHanded_of_calls own K q L ?_;intro w p i _ o _ D F _;obtain⟨_,_,_,y,u,_,_,_,_,Bj⟩:=D;obtain rfl:y=fn:=jO (u.symm.trans A);obtain⟨⟨⟨ds,gs,b,h,_⟩,x⟩,z⟩:=F;refine(Bh (w.forCall p i) (O (T w)) i.args ds gs b Bj (DataW.Whole.of_heap (w':=w.forCall p i) (by rfl) h) (z.weights h) (k _ _ _ (by rfl) x) o).ae fun e W' ⟨v,l,m⟩=>?_;subst l;exact ChangeSpec.post_blind m
variable {w:E}
theorem atd {a:Addr} {v:wF} (h:w.cell? a=M v):a.block<O (T w):=by
 rcases dX a.block (O (T w)) with b |b
 ·exact b
 ·simp[World.cell?,Array.getElem?_eq_none b] at h
variable {l:Kx} {j:Nat}
def x5 {H:Type} (x:Int):DataW H:=.lit (.int .i64 x)
theorem atb:prog.cellsOf 3=1:=ao
theorem Rp {H:Type} {enc:TypeId×wF ->H} {W:E} {fuel:Nat} {t:List wF} {x:DataW H×List MemPlace} (Bh:DataW.trod enc prog W 0 (fun _=>y6) y6 fuel 27 t=M x):
  ∃(a:Kd) (cap:Nat) (l:Kx),t=[Z a (C l) cap]/\aB W a l/\(a=N ->cap=0)/\((x.1=.nil/\l=[])∨∃rest,x.1=.slice (l.map x5) rest)/\∀y∈l, -9223372036854775808<=y/\y<=9223372036854775807:=by
 rcases Deep.open_slice underlying27 Bh with ⟨s,q⟩ |⟨o,b,cap,m,n,D,S,s,Ba,U,V,P,q,u⟩
 ·exact⟨N,0,[],s,fun k p=>absurd p aE,fun _=>rfl,yd ⟨by rw[q],rfl⟩,fun _ h=>by cases h⟩
 ·have X:b<=m:=by rw[P];split<;>omega
  rw[atb] at u
  have Q:∀i,i<b ->∃z:Int,(W.cell? (o.add (i*1))=M (J I z)/\ -9223372036854775808<=z/\z<=9223372036854775807)/\D i=x5 z:=by
   intro i c;obtain⟨B7,F,Bj⟩:=u i al;obtain⟨_,aa,R⟩:=World.cells?_some F;obtain⟨z,Bm,v,w⟩:=DataW.trod_int underlying3 Bj;subst Bm;simp only[Prod.mk.injEq] at v;have g:=R 0 al;rw[Deep.add_add] at g;exact⟨z,⟨by simpa using g,bounds_i64 w⟩,v.1⟩
  obtain⟨f,d⟩:=Deep.choose_lt (α:=Int) Q;refine⟨M o,cap,(List.range b).map f,by rw[s];simp,?_,fun e=>by(cases e),yk ⟨(List.range (m - b)).map fun j=>D (b+j),?_⟩,?_⟩
  ·intro k p;(have B9:k<b:=by simpa using p);obtain⟨⟨g,_⟩,_⟩:=d k B9;obtain⟨⟨Bb,_⟩,_⟩:=d 0 al;have r:=World.cell?_spot Bb;obtain⟨A,L,Y⟩:=o;rw[oN] at r;simp[Addr.add] at r;subst r;rw[WideShapes.add_plain] at g;refine⟨A,L,rfl,atd g,?_⟩;simpa using g
  ·rw[q];show DataW.slice _ _=DataW.slice _ _;congr 1
   rw[zr];exact mM fun i c=>(d i (bS.1 c)).2
  ·intro y K;obtain⟨i,c,rfl⟩:=aN.1 K;exact(d i (bS.1 c)).1.2
theorem open_ints {H:Type} {enc:TypeId×wF ->H} {W:E} {r:Reach} {b:Nat} {v:wF} {d:DataW H} {p:List MemPlace} (k:Value.okWide prog W r b 27 v) (h:DataW.Trod enc prog W 0 (fun _=>y6) y6 27 v d p):
  ∃(a:Kd) (cap:Nat) (l:Kx),v=Z a (C l) cap/\aB W a l/\(a=N ->cap=0)/\((d=.nil/\l=[])∨∃rest,d=.slice (l.map x5) rest)/\∀x∈l, -9223372036854775808<=x/\x<=9223372036854775807:=by
 obtain⟨a,n,cap,rfl⟩:=okWide_slice underlying27 k;obtain⟨u,g⟩:=h;obtain⟨m,o,l,c,i,e,f,j⟩:=Rp g;simp[Value.cells] at c;obtain⟨rfl,rfl,rfl⟩:=c;exact⟨a,cap,l,rfl,i,e,f,j⟩
theorem atr:prog.bytesOf 3=8:=ao
theorem RD {H:Type} {s:List TypeId} {ds:List (DataW H)} (h:(DataW.weightsEach prog s ds).all (·<=reachBytes)=y6) {d:DataW H} (t:s[j]? =M 27) (c:ds[j]? =M d) (e:(d=.nil/\l=[])∨∃rest,d=.slice (l.map x5) rest):
  l.length<=140737488355328:=by
 rcases e with ⟨_,rfl⟩ |⟨rest,rfl⟩
 ·simp
 have b:=fM.1 h _ (DataW.weights_mem_each t c ((C (l.map (x5 (H:=H)))+C rest)*prog.bytesOf 3) (by simp[DataW.weights,underlying27]));have a:(C (l.map (x5 (H:=H)))+C rest)*prog.bytesOf 3<=reachBytes:=by simpa using b
 rw[atr,cY] at a;simp only[reachBytes] at a;omega
theorem as9:prog.cellsOf 47=4:=ao
theorem ata:prog.cellsOf 27=1:=ao
theorem atc:prog.cellsOf 4=1:=ao
theorem anw {H:Type} {enc:TypeId×wF ->H} {W:E} {r:Reach} {t:Nat} {v:wF} {d:DataW H} {p:List MemPlace} (B7:Value.okWide prog W r t 47 v) (h:DataW.Trod enc prog W 0 (fun _=>y6) y6 47 v d p):
  ∃(b c e:Kd) (f g i:Nat) (L L2 a:Kx) (bk:Bool) (j k n w:DataW H),v=zd #[Z b (C L) f,Z c (C L2) g,Z e (C a) i,zZ bk]/\d=.agg [j,k,n,w]/\aB W b L/\aB W c L2/\aB W e a/\
   ((j=.nil/\L=[])∨∃rest,j=.slice (L.map x5) rest)/\((k=.nil/\L2=[])∨∃rest,k=.slice (L2.map x5) rest)/\((n=.nil/\a=[])∨∃rest,n=.slice (a.map x5) rest)/\
   (∀x∈L, -9223372036854775808<=x/\x<=9223372036854775807)/\(∀x∈L2, -9223372036854775808<=x/\x<=9223372036854775807)/\(∀x∈a, -9223372036854775808<=x/\x<=9223372036854775807):=by
 obtain⟨u,rfl,s⟩:=okWide_struct underlying47 B7;rw[as9] at s;obtain⟨l⟩:=u;match l,s with
 |[c0,f,g,i],_=>
  obtain⟨aa,R⟩:=h;obtain⟨y0,y1,y2,y3,m,o,_,Q,y,q,K⟩:=Go.Joins.trod_struct4 underlying47 R;simp[Value.cells,ata,atc] at Q y q K;obtain⟨b,S,L,z,Bb,_,F,V⟩:=Rp Q;obtain⟨c,Ba,L2,A,B9,_,Bj,X⟩:=Rp y;obtain⟨e,U,a,D,P,_,Bh,Y⟩:=Rp q;obtain⟨nn,Bm,rfl⟩:=DataW.trod_bool underlying4 K;obtain rfl:c0=_:=by simpa using z
  obtain rfl:f=_:=by simpa using A
  obtain rfl:g=_:=by simpa using D
  obtain rfl:i=_:=by simpa using Bm
  simp only[Prod.mk.injEq] at o;exact⟨b,c,e,S,Ba,U,L,L2,a,_,_,_,_,_,rfl,o.1,Bb,B9,P,F,Bj,Bh,V,X,Y⟩
theorem ak7 {H:Type} {s:List TypeId} {ds:List (DataW H)} (h:(DataW.weightsEach prog s ds).all (·<=reachBytes)=y6) {L L2 c:Kx} {d a b f:DataW H} (t:s[j]? =M 47) (k:ds[j]? =M (.agg [d,a,b,f])) (h1:(d=.nil/\L=[])∨∃rest,d=.slice (L.map x5) rest) (g:(a=.nil/\L2=[])∨∃rest,a=.slice (L2.map x5) rest) (i:(b=.nil/\c=[])∨∃rest,b=.slice (c.map x5) rest):
  L.length<=140737488355328/\L2.length<=140737488355328/\c.length<=140737488355328:=by
 have e:(DataW.weightsEach prog [27,27,27,4] [d,a,b,f]).all (·<=reachBytes)=true:=by
  rw[fM];intro n l;refine fM.1 h _ (DataW.weights_mem_each t k n ?_);simp only[DataW.weights,underlying47];exact l
 exact⟨RD e (j:=0) rfl rfl h1,RD e (j:=1) rfl rfl g,RD e (j:=2) rfl rfl i⟩
variable {W':E}
theorem aik {H:Type} {enc:TypeId×wF ->H} {P:Program} (l:laidOutB P=y6) {W:E} (a:da W W'):∀ {s:List TypeId} {vs:List wF} {ds:List (DataW H)} {c:List MemPlace},
  (s.all fun t=>P.readableRec t&&decide (t<P.types.size))=y6 ->DataW.TrodAll enc P W 0 (fun _=>y6) y6 s vs ds c ->DataW.TrodAll enc P W' 0 (fun b=>decide (b<O (T W))) y6 s vs ds c
 |[],[],[],_,_,h=>h
 |t::s,v::vs,d::ds,_,ht,⟨p,q,h,hr,e⟩=>by
  rw[List.all_cons,iu,iu] at ht;refine⟨p,q,Below.trod l ht.1.1 (mJ ht.1.2) h a ?_,aik l a ht.2 hr,e⟩;obtain⟨m,f⟩:=h;exact DataW.trod_lt m _ _ _ f
 |[],_::_,_,_,_,h=>by simp[DataW.TrodAll] at h
 |[],[],_::_,_,_,h=>by simp[DataW.TrodAll] at h
 |_::_,[],_,_,_,h=>by simp[DataW.TrodAll] at h
 |_::_,_::_,[],_,_,h=>by simp[DataW.TrodAll] at h
end Go.Proofs.YtkflnpjapgiajaaGreatDoor
