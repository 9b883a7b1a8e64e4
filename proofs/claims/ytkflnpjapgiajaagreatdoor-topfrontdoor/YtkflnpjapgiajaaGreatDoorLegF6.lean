/- Part6: part 6. -/
import Derived.Test.YtkflnpjapgiajaaGreatDoorLegF5
set_option maxRecDepth 100000
set_option maxHeartbeats 400000000
set_option linter.unusedSimpArgs false
set_option linter.unusedVariables false
namespace Go.Proofs.YtkflnpjapgiajaaGreatDoor
open Value renaming slice→Z,int→J,string→zK,pointer→zR,bool→zZ,agg→zd,tuple→zp
open IntKind renaming i64→I
open Obj renaming cells→yM
open Ending renaming returned→yW
open Or renaming inl→yd,inr→yk
open Option renaming none→N,some→M
open Bool renaming true→y6,false→xd
open Go renaming World→E,Value→wF,undef→wQ
open RowKit renaming Hid→wT
open Go.Proofs.Tryz
open _root_.Array renaming size→O
open World renaming heap→T
open List renaming length→C
open Go.RowKit Go.Shelf Go.Lib
variable {ops:Array Oper} {Q:Exit ->Act ->E ->Prop} {fn:Func} {R:List (List Fr)} {L:List Kx} {l:Kx} {hs rs:Ja} {Xp Xr Xv xs:List wF} {V:List Vr} {c cv g gm gp gr gv i j k n nl nr v:Nat} {md:Region.Mode} {x' y z:wF} {U U' w:E}
theorem alN {P:Program} {c:Code} {a:Act} (Ba:Act ->Exit ->Act ->E ->Prop) (h:c.wp P (Ba a) a w) (m:∀e b w',Ba a e b w' ->Q e b w'):c.wp P Q a w:=Code.wp_mono m h
theorem am2 {B:Nat} {e:TypeId} {s:Nat} {v:wF} (h:w.ownsRow B e s v n xs):∀a k c,v=Z a k c ->k<=c:=fun a k c d=>by
 rcases h.2 with ⟨b,f⟩ |⟨g,cap,r,b,f,j,i,l⟩
 ·rw[d] at b;cases b;exact aV _
 ·rw[d] at b;cases b;exact i
def mU {α:Type} (v:Nat) (l:List (List α)):List (List α):=l.take v++List.replicate (C l - v) []
theorem zB {α:Type} (v:Nat) (l:List (List α)) (h:v<=C l):C (mU v l)=C l:=by simp[mU];omega
theorem aeW {α:Type} (l:List (List α)):mU (C l) l=l:=by simp[mU]
theorem aeV {α:Type} {l:List (List α)} (h:v<C l):(mU v l).set v l[v]=mU (v+1) l:=by
 apply ld (by rw[gA,zB v l al,zB _ l al]);intro k b a;rw[zB _ l al] at a;rw[CO];by_cases e:v=k
 ·subst e;rw[aw rfl];simp only[mU];rw[nU (by rw[fh];omega),xO]
 ·rw[aC e];simp only[mU];by_cases c:k<v
  ·rw[nU (by rw[fh];omega),nU (by rw[fh];omega),xO,xO]
  ·rw[tX (by rw[fh];omega),tX (by rw[fh];omega),VW,VW]
theorem pZ.less {gs:Ja} {X:List wF} {W:E} (h:pZ gs g V X W) (l:∀g∈hs,g∈gs):pZ hs g V X W:=⟨h.row,h.len,fun k m=>by
 obtain⟨b,c,a,d,f,i,j⟩:=h.at' k m;exact⟨b,c,a,d,f,i,fun g o e p n=>j g o e p (l g n)⟩⟩
theorem nO.less {gs:Ja} {X:List wF} {W:E} (h:nO gs g L X W) (j:∀g∈hs,g∈gs):nO hs g L X W:=⟨h.row,h.len,fun k l=>by
 obtain⟨b,c,a,d,f,i⟩:=h.at' k l;exact⟨b,c,a,d,f,fun g o e n m=>i g o e n (j g m)⟩⟩
theorem p5.less {gs:Ja} {X:List wF} {W:E} (h:p5 gs g R X W) (j:∀g∈hs,g∈gs):p5 hs g R X W:=⟨h.row,h.len,fun k l=>by
 obtain⟨b,c,a,d,f,i⟩:=h.at' k l;exact⟨b,c,a,d,f,fun g o e n m=>i g o e n (j g m)⟩⟩
structure rC (w U:E) (x y z:wF):Prop where
 bx:cj U (O (T w)) x y z
 res:cj U (O (T w)+1) (Z N 0 0) (Z N 0 0) (Z N 0 0)
 bel:da w U
theorem rC.begin (w:E) (x y z:wF):rC w ((w.alloc (yM #[x,y,z] 26)).alloc (yM #[Z N 0 0,Z N 0 0,Z N 0 0] 26)) x y z:=
 have a:Below (O (T (w.alloc (yM #[x,y,z] 26)))) (w.alloc (yM #[x,y,z] 26)) ((w.alloc (yM #[x,y,z] 26)).alloc (yM #[Z N 0 0,Z N 0 0,Z N 0 0] 26)):=(au _ _).alloc (ah _) _;have e:cj (w.alloc (yM #[x,y,z] 26)) (O (T w)) x y z:=cj.at (w:=w) rfl _ _ _;⟨e.aa a e.lt,by have:=cj.at (w:=w.alloc (yM #[x,y,z] 26)) rfl (Z N 0 0) (Z N 0 0) (Z N 0 0);simpa using this,((au _ w).alloc (ah _) _).alloc aE _⟩
theorem cj.result2' {x:wF} (h:cj w g x y z) {p u:Tmp} (r:fn.results= #[.cell p 26,.tmp u]) (m:Array wF) (a:m.getD p wQ=zR (M ⟨g,0,N⟩)):
  (results fn m).run prog w=.ok (zp #[zd #[x,y,z],m.getD u wQ]) w:=by
 rw[results_cell_tmp r,a];simp only[asAddr,zi,vZ];rw[run_loadVar_row w g _ 26 _ _ _ h underlying26 rfl ao];simp only[vZ]
theorem rC.step {x:wF} (h:rC w U x y z) (b:da U U'):rC w U' x y z:=⟨h.bx.aa b h.bx.lt,h.res.aa b h.res.lt,h.bel.trans (b.ae h.bel.size)⟩
theorem rC.cells {x:wF} (h:rC w U x y z):U.cell? ⟨O (T w),0,N⟩=M x/\U.cell? ⟨O (T w),1,N⟩=M y/\U.cell? ⟨O (T w),2,N⟩=M z:=h.bx.cells
structure fB (w:E) (gm gv gp gr cv:Nat) (x y z:wF) (V:List Vr) (L:List Kx) (R:List (List Fr)) (nl nr:Nat) (Xv Xp Xr:List wF) (U:E):Prop where
 a:rC w U x y z
 box:cj U gm (Z (M ⟨gv,0,N⟩) (C V) cv) (Z (M ⟨gp,0,N⟩) nl nl) (Z (M ⟨gr,0,N⟩) nr nr)
 v:pZ [gv,gp,gr,O (T w)+1] gv V Xv U
 p:nO [gv,gp,gr,O (T w)+1] gp L Xp U
 r:p5 [gv,gp,gr,O (T w)+1] gr R Xr U
 nl:C L=nl
 nr:C R=nr
 cap:C V<=cv
 low:O (T w)+2<=gm/\w.heap.size+2<=gv/\w.heap.size+2<=gp/\w.heap.size+2<=gr
theorem C0 {c d:Array wF} {s t:TypeId} {f a:Nat×Nat} (h1:U.heap[i]? =M (yM c s f)) (h:U.heap[j]? =M (yM d t a)) (n:s≠t):i≠j:=fun e=>by
 subst e;rw[h1] at h;cases h;exact n rfl
section
variable {w U U' : E} {gm gv gp gr cv nl nr : Nat} {x y z : wF} {V : List Vr} {L : List Kx} {R : List (List Fr)} {Xv Xp Xr : List wF}
theorem fB.ne (h:fB w gm gv gp gr cv x y z V L R nl nr Xv Xp Xr U):(gv≠gp/\gv≠gr/\gp≠gr)/\gm≠gv/\gm≠gp/\gm≠gr:=⟨⟨C0 h.v.row h.p.row a6,C0 h.v.row h.r.row a6,C0 h.p.row h.r.row a6⟩,C0 h.box h.v.row a6,C0 h.box h.p.row a6,C0 h.box h.r.row a6⟩
theorem rC.keep {gs:Ja} (h:rC w U x y z) (k:eK gs U U') (a:∀g∈gs,O (T w)+2<=g):rC w U' x y z:=
 ⟨(k.block _ h.bx.lt fun e=>by have:=a _ e;omega).trans h.bx,(k.block _ h.res.lt fun e=>by have:=a _ e;omega).trans h.res,k.low h.bel fun g m=>by have:=a g m;omega⟩
theorem fB.step (h:fB w gm gv gp gr cv x y z V L R nl nr Xv Xp Xr U) (b:da U U'):fB w gm gv gp gr cv x y z V L R nl nr Xv Xp Xr U':=⟨h.a.step b,h.box.aa b h.box.lt,h.v.aa b,h.p.aa b,h.r.aa b,h.nl,h.nr,h.cap,h.low⟩
theorem fB.gs (h:fB w gm gv gp gr cv x y z V L R nl nr Xv Xp Xr U):∀g∈[gv,gp,gr],O (T w)+2<=g/\g<O (T U)/\g≠gm:=fun g a=>by
 have l:=h.low;have n:=h.ne;simp only[bY,gK,jq] at a;rcases a with rfl |rfl |rfl
 ·exact⟨l.2.1,h.v.row.lt,n.2.1.symm⟩
 ·exact⟨l.2.2.1,h.p.row.lt,n.2.2.1.symm⟩
 ·exact⟨l.2.2.2,h.r.row.lt,n.2.2.2.symm⟩
theorem fB.boxK (h:fB w gm gv gp gr cv x y z V L R nl nr Xv Xp Xr U) (k:eK [gv,gp,gr] U U'):rC w U' x y z/\cj U' gm (Z (M ⟨gv,0,N⟩) (C V) cv) (Z (M ⟨gp,0,N⟩) nl nl) (Z (M ⟨gr,0,N⟩) nr nr):=
 ⟨h.a.keep k fun g b=>(h.gs g b).1,(k.block _ h.box.lt fun m=>(h.gs _ m).2.2 rfl).trans h.box⟩
theorem fB.setV (h:fB w gm gv gp gr cv x y z V L R nl nr Xv Xp Xr U) (j:k<C V) {b:Kd} (hs:jM U b V[k].2) (f:V[k].2.length<=c) (o:pO [gv,gp,gr,O (T w)+1] b V[k].2.length):
  fB w gm gv gp gr cv x y z V L R nl nr (Xv.set (k*2+1) (Z b V[k].2.length c)) Xp Xr (U.setCell ⟨gv,k*2+1,N⟩ (Z b V[k].2.length c)):=by
 have a:eK [gv,gp,gr] U (U.setCell ⟨gv,k*2+1,N⟩ (Z b V[k].2.length c)):=.set aE _ _;obtain⟨⟨n,l,m⟩,_⟩:=h.ne;obtain⟨d,e⟩:=h.boxK a;replace a:=a.more (hs:=[gv,gp,gr,O (T w)+1]) fun g i=>by simp only[bY,gK,jq] at i⊢;omega
 exact⟨d,e,h.v.set aE j hs f o,h.p.keep a (eW U ⟨gv,_,N⟩ _ gp n.symm),h.r.keep a (eW U ⟨gv,_,N⟩ _ gr l.symm),h.nl,h.nr,h.cap,h.low⟩
theorem fB.setP (h:fB w gm gv gp gr cv x y z V L R nl nr Xv Xp Xr U) {b:Kd} (hs:aB U b l) (f:b=N ->c=0) (o:pO [gv,gp,gr,O (T w)+1] b (C l)):
  fB w gm gv gp gr cv x y z V (L.set k l) R nl nr Xv (Xp.set k (Z b (C l) c)) Xr (U.setCell ⟨gp,k,N⟩ (Z b (C l) c)):=by
 have a:eK [gv,gp,gr] U (U.setCell ⟨gp,k,N⟩ (Z b (C l) c)):=.set aE _ _;obtain⟨⟨n,m,j⟩,_⟩:=h.ne;obtain⟨d,e⟩:=h.boxK a;replace a:=a.more (hs:=[gv,gp,gr,O (T w)+1]) fun g i=>by simp only[bY,gK,jq] at i⊢;omega
 exact⟨d,e,h.v.keep a (eW U ⟨gp,_,N⟩ _ gv n),h.p.set aE hs f o,h.r.keep a (eW U ⟨gp,_,N⟩ _ gr j.symm),by rw[gA];exact h.nl,h.nr,h.cap,h.low⟩
theorem fB.setR (h:fB w gm gv gp gr cv x y z V L R nl nr Xv Xp Xr U) {l:List Fr} {b:Kd} (hs:dH U b l) (f:C l<=c) (o:pO [gv,gp,gr,O (T w)+1] b (C l)):
  fB w gm gv gp gr cv x y z V L (R.set k l) nl nr Xv Xp (Xr.set k (Z b (C l) c)) (U.setCell ⟨gr,k,N⟩ (Z b (C l) c)):=by
 have a:eK [gv,gp,gr] U (U.setCell ⟨gr,k,N⟩ (Z b (C l) c)):=.set aE _ _;obtain⟨⟨m,n,j⟩,_⟩:=h.ne;obtain⟨d,e⟩:=h.boxK a;replace a:=a.more (hs:=[gv,gp,gr,O (T w)+1]) fun g i=>by simp only[bY,gK,jq] at i⊢;omega
 exact⟨d,e,h.v.keep a (eW U ⟨gr,_,N⟩ _ gv n),h.p.keep a (eW U ⟨gr,_,N⟩ _ gp j),h.r.set aE hs f o,h.nl,by rw[gA];exact h.nr,h.cap,h.low⟩
theorem fB.cellV (h:fB w gm gv gp gr cv x y z V L R nl nr Xv Xp Xr U) (a:k<C V):(∃q,U.cell? ⟨gv,k*2+1,N⟩=M q)/\U.frozen? ⟨gv,k*2+1,N⟩=false:=⟨⟨_,h.v.row.cell _ (by have:=h.v.len;omega)⟩,h.v.row.fz _⟩
theorem fB.cellP (h:fB w gm gv gp gr cv x y z V L R nl nr Xv Xp Xr U) (a:k<nl):(∃q,U.cell? ⟨gp,k,N⟩=M q)/\U.frozen? ⟨gp,k,N⟩=false:=⟨⟨_,h.p.row.cell _ (by have:=h.p.len;have:=h.nl;omega)⟩,h.p.row.fz _⟩
theorem fB.setVn (h:fB w gm gv gp gr cv x y z V L R nl nr Xv Xp Xr U) (f:k<C V) {vs:List ByteArray} (e:V[k].2=vs) {b:Kd} {B:Nat} (hs:jM U b vs) (a:C vs<=c) (l:∀g o,b=M ⟨g,o,N⟩ ->B<=g) (i:gv<B/\gp<B/\gr<B) (j:O (T w)+1<B):
  fB w gm gv gp gr cv x y z V L R nl nr (Xv.set (k*2+1) (Z b (C vs) c)) Xp Xr (U.setCell ⟨gv,k*2+1,N⟩ (Z b (C vs) c)):=by
 subst e;exact h.setV f hs a (Sl l fun g d=>by simp only[bY,gK,jq] at d;omega)
theorem fB.lts (h:fB w gm gv gp gr cv x y z V L R nl nr Xv Xp Xr U):gv<O (T U)/\gp<O (T U)/\gr<O (T U):=⟨h.v.row.lt,h.p.row.lt,h.r.row.lt⟩
theorem fB.boxR (h:fB w gm gv gp gr cv x y z V L R nl nr Xv Xp Xr U):U.cell? ⟨gm,2,N⟩=M (Z (M ⟨gr,0,N⟩) nr nr)/\gm<O (T U)/\gm≠gr/\gr<O (T U):=⟨h.box.cells.2.2,h.box.lt,h.ne.2.2.2,h.r.row.lt⟩
theorem fB.rlen (h:fB w gm gv gp gr cv x y z V L R nl nr Xv Xp Xr U):nr<=C Xr:=by rw[<- h.nr];exact h.r.len
end
structure xK (gr v:Nat) (Xr:List wF) (x:wF) (l:List Fr) (W U:E):Prop where
 keep:eK [gr] W U
 row:qD U gr (Xr.set v x)
 own:c5 U (O (T W)) x l
theorem xK.step {x:wF} {l:List Fr} {W:E} (h:xK gr v Xr x l W U) (b:da U U'):xK gr v Xr x l W U':=⟨h.keep.trans (.aa b),(b.block _ h.row.lt).trans h.row,h.own.aa b⟩
theorem xK.push {x:wF} {l:List Fr} {f:Fr} {W:E} (h:xK gr v Xr x l W U) (c:gr<O (T W)) (b:U.grownBy U' x.ownBlock) (r:c5 U' (O (T W)) x' (l++[f])):qD U' gr (Xr.set v x)/\xK gr v Xr x' (l++[f]) W (U'.setCell ⟨gr,v,N⟩ x'):=by
 have a:qD U' gr (Xr.set v x):=(b.block gr h.row.lt fun e=>by have:=h.own.own gr e.symm;omega).trans h.row;refine⟨a,(h.keep.grow b fun g e=>yk (h.own.own g e)).put (yd aE) v x',?_,r.off gr v x' c⟩;have:=a.set v x';rwa [List.set_set] at this
theorem fB.into {W:E} {x:wF} (h:fB w gm gv gp gr cv x y z V L R nl nr Xv Xp Xr W) (a:Xr[v]? =M (Z N 0 0)):xK gr v Xr (Z N 0 0) [] W W:=by
 have b:v<C Xr:=(mO.1 a).1;refine⟨.refl _ _,?_,c5.empty _ _⟩
 have e:Xr.set v (Z N 0 0)=Xr:=by
  rw[a7 b] at a;rw[<- jO a];exact List.set_getElem_self b
 rw[e];exact h.r.row
theorem c5.fr3 {B:Nat} {v:wF} {l:List Fr} (h:c5 w B v l):∃d c,v=Z d (C l) c/\dH w d l/\l.length<=c/\∀g o,d=M ⟨g,o,N⟩ ->B<=g:=by
 have a:=h;obtain⟨d,c,rfl,f⟩:=c5.fr h;refine⟨d,c,rfl,f,am2 a _ _ _ rfl,fun g o e=>?_⟩;subst e;exact a.own g rfl
theorem xK.done {W:E} {x:wF} {m:wF} {l:List Fr} (h:fB w gm gv gp gr cv x y z V L R nl nr Xv Xp Xr W) (i:xK gr v Xr m l W U):fB w gm gv gp gr cv x y z V L (R.set v l) nl nr Xv Xp (Xr.set v m) U:=by
 have b:eK [gv,gp,gr] W U:=i.keep.more fun g c=>by rw[bA.1 c];simp
 obtain⟨⟨Bb,Bj,Bh⟩,_⟩:=h.ne;obtain⟨A,D⟩:=h.boxK b;obtain⟨d,u,rfl,F,Bm,K⟩:=i.own.fr3;have P:=h.a.res.lt;have B9:=h.lts;replace b:=b.more (hs:=[gv,gp,gr,O (T w)+1]) fun g c=>by simp only[bY,gK,jq] at c⊢;omega
 have H:=h.r.len;refine⟨A,D,h.v.keep b (i.keep.block gv h.v.row.lt (by simpa using Bj)),h.p.keep b (i.keep.block gp h.p.row.lt (by simpa using Bh)),⟨i.row,by rw[gA,gA];exact H,fun j k=>?_⟩,h.nl,by rw[gA];exact h.nr,h.cap,h.low⟩;rw[gA] at k;obtain⟨s,t,n,o,q,f⟩:=h.r.at' j k;by_cases e:v=j
 ·subst e;rw[Hp];exact⟨d,u,by rw[Hr al],F,Bm,Sl K fun g c=>by simp only[bY,gK,jq] at c;omega⟩
 ·rw[MR e];exact⟨s,t,by rw[wj e];exact n,Lv o f b,q,f⟩
def gH:Bool ->Nat
 |true=>0
 |false=>1
structure k6 (w u:E) (x y z:wF) (V:List Vr) (nl nr:Nat) (b2 b6 iY gP:Bool) (v10 v14 v18 v3:wF):Prop where
 a:rC w u x y z
 m:O (T w)+2<=O (T u)
 f2:b2=y6 ->∃gv cv Xv,v10=Z (M ⟨gv,0,N⟩) (C V) cv/\sG u gv Xv/\V.length*2<=C Xv/\Uy w V Xv/\V.length<=cv/\w.heap.size+2<=gv
 f6:b6=y6 ->∃gp,v14=Z (M ⟨gp,0,N⟩) nl nl/\iH u gp (List.replicate nl (Z N 0 0))/\w.heap.size+2<=gp
 f10:iY=y6 ->∃gr,v18=Z (M ⟨gr,0,N⟩) nr nr/\qD u gr (List.replicate nr (Z N 0 0))/\w.heap.size+2<=gr
 f12:gP=y6 ->∃gm,v3=zR (M ⟨gm,0,N⟩)/\cj u gm (Z N 0 0) (Z N 0 0) (Z N 0 0)/\w.heap.size+2<=gm
section
variable {w u u' : E} {x y z : wF} {V : List Vr} {nl nr : Nat} {b2 b6 iY gP : Bool} {v10 v14 v18 v3 : wF}
theorem k6.step (h:k6 w u x y z V nl nr b2 b6 iY gP v10 v14 v18 v3) (i:da u u'):k6 w u' x y z V nl nr b2 b6 iY gP v10 v14 v18 v3:=by
 refine⟨h.a.step i,aM h.m i.size,fun e=>?_,fun e=>?_,fun e=>?_,fun e=>?_⟩
 ·obtain⟨g,c,X,d,b,f⟩:=h.f2 e;exact⟨g,c,X,d,(i.block _ b.lt).trans b,f⟩
 ·obtain⟨g,d,b,f⟩:=h.f6 e;exact⟨g,d,(i.block _ b.lt).trans b,f⟩
 ·obtain⟨g,d,b,f⟩:=h.f10 e;exact⟨g,d,(i.block _ b.lt).trans b,f⟩
 ·obtain⟨g,d,b,f⟩:=h.f12 e;exact⟨g,d,b.aa i b.lt,f⟩
theorem k6.done2 (h:k6 w u x y z V nl nr b2 b6 iY gP v10 v14 v18 v3) (h1:sG u gv Xv) (b:C V*2<=C Xv) (c:Uy w V Xv) (d:C V<=cv) (e:O (T w)+2<=gv):k6 w u x y z V nl nr y6 b6 iY gP (Z (M ⟨gv,0,N⟩) (C V) cv) v14 v18 v3:=⟨h.a,h.m,fun _=>⟨gv,cv,Xv,rfl,h1,b,c,d,e⟩,h.f6,h.f10,h.f12⟩
theorem k6.done6 (h:k6 w u x y z V nl nr b2 b6 iY gP v10 v14 v18 v3) (h1:iH u g (List.replicate nl (Z N 0 0))) (b:O (T w)+2<=g):k6 w u x y z V nl nr b2 y6 iY gP v10 (Z (M ⟨g,0,N⟩) nl nl) v18 v3:=⟨h.a,h.m,h.f2,fun _=>⟨g,rfl,h1,b⟩,h.f10,h.f12⟩
theorem k6.done10 (h:k6 w u x y z V nl nr b2 b6 iY gP v10 v14 v18 v3) (h1:qD u g (List.replicate nr (Z N 0 0))) (b:O (T w)+2<=g):k6 w u x y z V nl nr b2 b6 y6 gP v10 v14 (Z (M ⟨g,0,N⟩) nr nr) v3:=⟨h.a,h.m,h.f2,h.f6,fun _=>⟨g,rfl,h1,b⟩,h.f12⟩
theorem k6.done12 (h:k6 w u x y z V nl nr b2 b6 iY gP v10 v14 v18 v3) (h1:cj u g (Z N 0 0) (Z N 0 0) (Z N 0 0)) (b:O (T w)+2<=g):k6 w u x y z V nl nr b2 b6 iY y6 v10 v14 v18 (zR (M ⟨g,0,N⟩)):=⟨h.a,h.m,h.f2,h.f6,h.f10,fun _=>⟨g,rfl,h1,b⟩⟩
end
theorem abX {P:Program} {S:E ->Prop} {l:Array Bool} {a:Act} (Ba:(Nat ->Array Bool ->Act ->E ->Prop) ->Act ->Prop) (h1:Ba (wpAnyH P md ops Q S) a) (h:Ba (wpAnyH P md ops Q S) a ->wpAnyH P md ops Q S n l a w):wpAnyH P md ops Q S n l a w:=h h1
theorem Rk {P:Program} {S:E ->Prop} {l:Array Bool} {a:Act} (Ba:(Nat ->Array Bool ->Act ->E ->Prop) ->(Nat ->Array Bool ->Act ->E ->Ja ->Prop) ->Act ->Prop) (h1:Ba (wpAnyH P md ops Q S) (AllReadyH P md ops Q S) a) (h:Ba (wpAnyH P md ops Q S) (AllReadyH P md ops Q S) a ->wpAnyH P md ops Q S n l a w):wpAnyH P md ops Q S n l a w:=h h1
theorem rN {P:Program} {S:E ->Prop} {l:Array Bool} {a:Act} (h1:AllReadyH P md ops Q S n l a w [i]) (b:AllReadyH P md ops Q S n l a w rs):AllReadyH P md ops Q S n l a w (i::rs):=fun j h=>by
 rcases bY.1 h with rfl |h
 ·exact h1 j (bA.2 rfl)
 ·exact b j h
theorem il {P:Program} {S:E ->Prop} {l l':Array Bool} {a b:Act} (d:l=l') (c:a=b) (h:wpAnyH P md ops Q S n l' b w):wpAnyH P md ops Q S n l a w:=by subst d c;exact h
theorem ahT {u:E} {x:wF} (D:rC w u x y z) (v:cj u gm (Z N 0 0) (Z N 0 0) (Z N 0 0)) (l:sG u gv Xv) (m:iH u gp (List.replicate (C L) (Z N 0 0))) (n:qD u gr (List.replicate (C R) (Z N 0 0))) (X:C V*2<=C Xv) (Bm:Uy w V Xv) (H:C V<=cv) (q:O (T w)+2<=gm) (l2:O (T w)+2<=gv) (Bb:O (T w)+2<=gp) (S:O (T w)+2<=gr):
  fB w gm gv gp gr cv x y z V (mU 0 L) (mU 0 (di R)) (C L) (C R) Xv (List.replicate (C L) (Z N 0 0)) (List.replicate (C R) (Z N 0 0)) (((u.setCell ⟨gm,0,N⟩ (Z (M ⟨gv,0,N⟩) (C V) cv)).setCell ⟨gm,1,N⟩ (Z (M ⟨gp,0,N⟩) (C L) (C L))).setCell ⟨gm,2,N⟩ (Z (M ⟨gr,0,N⟩) (C R) (C R))):=by
 have B9:=C0 v l a6;have P:=C0 v m a6;have Q:=C0 v n a6;have p:∀k,k≠gm ->(((u.setCell ⟨gm,0,N⟩ (Z (M ⟨gv,0,N⟩) (C V) cv)).setCell ⟨gm,1,N⟩ (Z (M ⟨gp,0,N⟩) (C L) (C L))).setCell ⟨gm,2,N⟩ (Z (M ⟨gr,0,N⟩) (C R) (C R))).heap[k]? =u.heap[k]?:=fun k h=>(eW _ ⟨gm,2,N⟩ _ k h).trans ((eW _ ⟨gm,1,N⟩ _ k h).trans (eW u ⟨gm,0,N⟩ _ k h));have K:eK [gm] u (((u.setCell ⟨gm,0,N⟩ (Z (M ⟨gv,0,N⟩) (C V) cv)).setCell ⟨gm,1,N⟩ (Z (M ⟨gp,0,N⟩) (C L) (C L))).setCell ⟨gm,2,N⟩ (Z (M ⟨gr,0,N⟩) (C R) (C R))):=(((eK.refl [gm] u).put (yd aE) 0 _).put (yd aE) 1 _).put (yd aE) 2 _;have A:=D.keep K fun g Bj=>by rw[bA.1 Bj];exact q
 have F:da w _:=A.bel;have d:C (di R)=C R:=cY _;refine⟨A,((v.set0 _).set1 _).set2 _,⟨(p gv B9.symm).trans l,X,fun k h=>?_⟩,⟨(p gp P.symm).trans m,by rw[zB 0 L (aV _),tW];exact ah _,fun k h=>?_⟩,⟨(p gr Q.symm).trans n,by rw[zB 0 _ (aV _),tW,d];exact ah _,fun k h=>?_⟩,zB 0 L (aV _),(zB 0 _ (aV _)).trans d,H,q,l2,Bb,S⟩
 ·obtain⟨b,c,r,s,i,t⟩:=Bm k h;refine⟨b,c,r,s,i.aa F,t,fun g o e Ba Bh=>?_⟩;obtain⟨g',o',a,U,_⟩:=i 0 al;rw[e] at a;cases a;simp only[bY,gK,jq] at Bh;omega
 ·rw[zB 0 L (aV _)] at h;have e:(mU 0 L)[k]'(by rw[zB 0 L (aV _)];exact h)=[]:=by simp[mU]
  rw[e];exact⟨N,0,by rw[JT,aw h];rfl,fun j f=>absurd f aE,fun _=>rfl,fun g o a=>by cases a⟩
 ·rw[zB 0 _ (aV _),d] at h;have e:(mU 0 (di R))[k]'(by rw[zB 0 _ (aV _),d];exact h)=[]:=by simp[mU]
  rw[e];exact⟨N,0,by rw[JT,aw h];rfl,fun j f=>absurd f aE,ah _,fun g o a=>by cases a⟩
structure sO (gm gr v nr gf:Nat) (Xr:List wF) (dx:Kd) (i cx:Nat) (l:List Fr) (fn:Bool) (fx fy:ByteArray) (W U:E):Prop where
 ci:xK gr v Xr (Z dx i cx) l W U
 f:aL U gf fn fx fy
 m:U.cell? ⟨gm,2,N⟩=M (Z (M ⟨gr,0,N⟩) nr nr)
 lt:gm<O (T W)/\gm≠gr/\gr<O (T W)/\W.heap.size<=gf
 len:nr<=C Xr
 ow:∀k,(Value.slice dx i cx).ownBlock=M k ->k<gf
section
variable {gm gr v nr gf i cx : Nat} {Xr : List wF} {dx : Kd} {l : List Fr} {fn : Bool} {fx fy : ByteArray} {W U U' : E}
theorem sO.mk' (h:xK gr v Xr (Z dx i cx) l W U) (f:aL U gf fn fx fy) (m:W.cell? ⟨gm,2,N⟩=M (Z (M ⟨gr,0,N⟩) nr nr)/\gm<O (T W)/\gm≠gr/\gr<O (T W)) (a:nr<=C Xr) (g:O (T W)<=gf) (o:∀k,(Value.slice dx i cx).ownBlock=M k ->k<gf):sO gm gr v nr gf Xr dx i cx l fn fx fy W U:=
 ⟨h,f,(iM (h.keep.block gm m.2.1 (by simpa using m.2.2.1))).trans m.1,⟨m.2.1,m.2.2.1,m.2.2.2,g⟩,a,o⟩
theorem sO.step (h:sO gm gr v nr gf Xr dx i cx l fn fx fy W U) (b:da U U'):sO gm gr v nr gf Xr dx i cx l fn fx fy W U':=⟨h.ci.step b,h.f.aa b h.f.lt,(b.cell (p:=⟨gm,2,N⟩) (aT h.lt.1 h.ci.keep.size)).trans h.m,h.lt,h.len,h.ow⟩
theorem sO.cells (h:sO gm gr v nr gf Xr dx i cx l fn fx fy W U):(U.cell? ⟨gm,2,N⟩=M (Z (M ⟨gr,0,N⟩) nr nr))/\U.cell? ⟨gf,0,N⟩=M (zZ fn)/\U.cell? ⟨gf,1,N⟩=M (zK fx)/\U.cell? ⟨gf,2,N⟩=M (zK fy):=⟨h.m,h.f.c0,h.f.c1,h.f.c2⟩
theorem sO.rowat (h:sO gm gr v nr gf Xr dx i cx l fn fx fy W U) (a:v<nr) (r:qD U' gr (Xr.set v (Z dx i cx))):U'.cell? ⟨gr,v,N⟩=M (Z dx i cx):=by
 have:=h.len;rw[r.cell v (by rw[gA];omega),Hp]
theorem sO.at' (h:sO gm gr v nr gf Xr dx i cx l fn fx fy W U) (a:v<nr):U.cell? ⟨gr,v,N⟩=M (Z dx i cx):=h.rowat a h.ci.row
theorem sO.after (h:sO gm gr v nr gf Xr dx i cx l fn fx fy W U) (g:U.grownBy U' (Value.slice dx i cx).ownBlock):(U'.cell? ⟨gm,2,N⟩=M (Z (M ⟨gr,0,N⟩) nr nr))/\U'.cell? ⟨gf,0,N⟩=M (zZ fn)/\U'.cell? ⟨gf,1,N⟩=M (zK fx)/\U'.cell? ⟨gf,2,N⟩=M (zK fy):=by
 have b:U'.heap[gm]? =U.heap[gm]?:=g.block gm (aT h.lt.1 h.ci.keep.size) fun e=>by have:=h.ci.own.own gm e.symm;have:=h.lt;omega
 have a:aL U' gf fn fx fy:=(g.block gf h.f.lt fun e=>absurd (h.ow gf e.symm) (Nat.lt_irrefl _)).trans h.f;exact⟨(iM b).trans h.m,a.c0,a.c1,a.c2⟩
theorem sO.after2 (h:sO gm gr v nr gf Xr dx i cx l fn fx fy W U) (g:U.grownBy U' (Value.slice dx i cx).ownBlock) (y:wF):((U'.setCell ⟨gr,v,N⟩ y).cell? ⟨gm,2,N⟩=M (Z (M ⟨gr,0,N⟩) nr nr))/\(U'.setCell ⟨gr,v,N⟩ y).cell? ⟨gf,0,N⟩=M (zZ fn)/\(U'.setCell ⟨gr,v,N⟩ y).cell? ⟨gf,1,N⟩=M (zK fx)/\(U'.setCell ⟨gr,v,N⟩ y).cell? ⟨gf,2,N⟩=M (zK fy):=by
 obtain⟨b,c,d,f⟩:=h.after g;have j:=h.lt;have a:=eW U' ⟨gr,v,N⟩ y gm (by show gm≠gr;omega);have e:=eW U' ⟨gr,v,N⟩ y gf (by show gf≠gr;omega);exact⟨(iM a).trans b,(iM e).trans c,(iM e).trans d,(iM e).trans f⟩
end
theorem c5.len_of {B:Nat} {d:Kd} {l:List Fr} (h:c5 w B (Z d n c) l):n=C l:=by
 obtain⟨b,a,e,_⟩:=h.fr;cases e;rfl
theorem c5.old {B:Nat} {v:wF} {l:List Fr} (h:c5 w B v l) (a:v.ownBlock=M k):k<O (T w):=by
 rcases h.2 with ⟨rfl,_⟩ |⟨g,cap,c,rfl,_,b,_⟩
 ·cases a
 ·cases a;exact(cS.1 b).1
theorem asI (t z gb s A D ca cb cc:Nat) (V:List Vr) (L:List Kx) (R:List (List Fr)) (w:E) (h:jo w (M ⟨t,z,N⟩) (M ⟨gb,s,N⟩) (M ⟨A,D,N⟩) V L R) (hL:C L=C V) (hR:C R=C V) (hp:0<C V) (h8:C V<=8) (X:∀x∈V,0<x.2.length/\x.2.length<=5000) (hl:∀l∈L,C l<=5000) (hr:∀l∈R,0<C l/\l.length<=5000/\∀f∈l,f.2.1.size+f.2.2.size<=50000):
  c6 37 #[zd #[Z (M ⟨t,z,N⟩) (C V) ca,Z (M ⟨gb,s,N⟩) (C L) cb,Z (M ⟨A,D,N⟩) (C R) cc]] w fun e w'=>∃(gv gp gr cv:Nat) (Xv Xp Xr:List wF),e=yW (zd #[Z (M ⟨gv,0,N⟩) (C V) cv,Z (M ⟨gp,0,N⟩) (C L) (C L),Z (M ⟨gr,0,N⟩) (C R) (C R)])/\pZ [gv,gp,gr] gv V Xv w'/\nO [gv,gp,gr] gp L Xp w'/\p5 [gv,gp,gr] gr (di R) Xr w'/\V.length<=cv/\(O (T w)<=gv/\w.heap.size<=gp/\w.heap.size<=gr)/\da w w':=by
 have mH:=Fa (fun (U:E) (hU:da w U)=>ak3 (M ⟨t,z,N⟩) ca V w U h.Fd hU hp al)
 have Cc:wT (∀v (X:v<C V) (U:E),da w U ->∃B9 Ba,U.cell? ⟨t,z+v*2,N⟩=M (zK V[v].1)/\U.cell? ⟨t,z+v*2+1,N⟩=M (Z B9 V[v].2.length Ba)/\jM U B9 V[v].2):=fun v X U hU=>by
  obtain⟨g,av,b,c,e,_,h1,h2,h3,_⟩:=(h.Fd.aa hU) v X;cases e;exact⟨b,c,h1,h2,h3⟩
 have Eu:wT (∀v (X:v<C L) (U:E),da w U ->∃bl cl,U.cell? ⟨gb,s+v,N⟩=M (Z bl L[v].length cl)/\aB U bl L[v]):=fun v X U hU=>by
  obtain⟨g,av,b,c,e,_,h1,h2⟩:=(h.pars.aa hU) v X;cases e;exact⟨b,c,h1,h2⟩
 have ru:wT (∀v (X:v<C R),∃g9 o9 cr,∀U:E,da w U ->U.cell? ⟨A,D+v,N⟩=M (Z (M ⟨g9,o9,N⟩) R[v].length cr)/\dH U (M ⟨g9,o9,N⟩) R[v]):=fun v X=>by
  obtain⟨g,av,b,c,e,Bj,h1,h2,_⟩:=h.rows v X;cases e;obtain⟨g9,o9,rfl,_⟩:=h2 0 (hr _ (bU X)).1;exact⟨g9,o9,c,fun U hU=>⟨(hU.cell (p:=⟨A,D+v,N⟩) Bj).trans h1,h2.aa hU⟩⟩
 have JC:wT (gb<O (T w)):=by
  obtain⟨g,av,b,c,e,Bj,_⟩:=h.pars 0 al;cases e;exact Bj
 have PY:wT (∀v (X:v<C V) (U:E) (B9:Kd) (Ba:Nat),jM U B9 V[v].2 ->c6 84 #[Z B9 V[v].2.length Ba] U fun e w'=>∃d cd,e=yW (Z d V[v].2.length cd)/\jM w' d V[v].2/\V[v].2.length<=cd/\(∀g av,d=M ⟨g,av,N⟩ ->O (T U)<=g)/\da U w'):=fun v br U B9 Ba hs=>ak4 B9 Ba _ U hs (X _ (bU br)).1 (X _ (bU br)).2;have kj:=Fa hl;have sJ:=Fa hr;have qJ:=Fa hL;have uJ:=Fa hR;obtain⟨j0,bN,bO,IL,OE⟩:=eC Tryz.infoInts;obtain⟨k0,bP,IK,Dv,b0⟩:=eC Tryz.infoFracs;have b7:C L<=8:=al
 have I2:C R<=8:=al
 have hA:rC w ((w.alloc (yM #[Z (M ⟨t,z,N⟩) (C V) ca,Z (M ⟨gb,s,N⟩) (C L) cb,Z (M ⟨A,D,N⟩) (C R) cc] 26)).alloc (yM #[Z N 0 0,Z N 0 0,Z N 0 0] 26)) (Z (M ⟨t,z,N⟩) (C V) ca) (Z (M ⟨gb,s,N⟩) (C L) cb) (Z (M ⟨A,D,N⟩) (C R) cc):=rC.begin w _ _ _;have bc:O (T w)+2<=O (T ((w.alloc (yM #[Z (M ⟨t,z,N⟩) (C V) ca,Z (M ⟨gb,s,N⟩) (C L) cb,Z (M ⟨A,D,N⟩) (C R) cc] 26)).alloc (yM #[Z N 0 0,Z N 0 0,Z N 0 0] 26))):=aE
 clear h hL hR X hl hr;go_enter func37,ntmps37;go_upto_region 1 with fail
 generalize ((w.alloc (yM #[Z (M ⟨t,z,N⟩) (C V) ca,Z (M ⟨gb,s,N⟩) (C L) cb,Z (M ⟨A,D,N⟩) (C R) cc] 26)).alloc (yM #[Z N 0 0,Z N 0 0,Z N 0 0] 26))=W0 at *;refine alN (fun a0 e a' w'=>e=.normal/\∃(gm gv gp gr cv:Nat) (Xv:List wF),a'=((((((((((((a0.put (M 8) (zR (M ⟨O (T w),0,N⟩))).put (M 9) (Z (M ⟨t,z,N⟩) (C V) ca)).put (M 10) (Z (M ⟨gv,0,N⟩) (C V) cv)).put (M 11) (zR (M ⟨O (T w),1,N⟩))).put (M 12) (Z (M ⟨gb,s,N⟩) (C L) cb)).put (M 13) (J I (C L:Nat))).put (M 14) (Z (M ⟨gp,0,N⟩) (C L) (C L))).put (M 15) (zR (M ⟨O (T w),2,N⟩))).put (M 16) (Z (M ⟨A,D,N⟩) (C R) cc)).put (M 17) (J I (C R:Nat))).put (M 18) (Z (M ⟨gr,0,N⟩) (C R) (C R))).put (M 19) (zd #[Z (M ⟨gv,0,N⟩) (C V) cv,Z (M ⟨gp,0,N⟩) (C L) (C L),Z (M ⟨gr,0,N⟩) (C R) (C R)])).put (M 3) (zR (M ⟨gm,0,N⟩))/\fB w gm gv gp gr cv (Z (M ⟨t,z,N⟩) (C V) ca) (Z (M ⟨gb,s,N⟩) (C L) cb) (Z (M ⟨A,D,N⟩) (C R) cc) V (mU 0 L) (mU 0 (di R)) (C L) (C R) Xv (List.replicate (C L) (Z N 0 0)) (List.replicate (C R) (Z N 0 0)) w') ?_ ?_
 ·have HA:=Fa (hA.step (au _ W0).drew);have U4:wT (O (T w)+2<=O (T W0.drew)):=bc;refine iK (S:=fun u=>u.cell? ⟨O (T w),0,N⟩=M (Z (M ⟨t,z,N⟩) (C V) ca)/\u.cell? ⟨O (T w),1,N⟩=M (Z (M ⟨gb,s,N⟩) (C L) cb)/\u.cell? ⟨O (T w),2,N⟩=M (Z (M ⟨A,D,N⟩) (C R) cc)) ao HA.o.cells (fun Y=>?_);clear hA bc;generalize W0.drew=u0 at *;refine ar 0 (zR (M ⟨O (T w),0,N⟩)) ?_;refine ar 1 (Z (M ⟨t,z,N⟩) (C V) ca) ?_;refine ar 3 (zR (M ⟨O (T w),1,N⟩)) ?_;refine ar 4 (Z (M ⟨gb,s,N⟩) (C L) cb) ?_;refine ar 5 (J I (C L:Nat)) ?_;refine ar 7 (zR (M ⟨O (T w),2,N⟩)) ?_;refine ar 8 (Z (M ⟨A,D,N⟩) (C R) cc) ?_;refine ar 9 (J I (C R:Nat)) ?_;try simp only[gE,aP]
  refine Rk (fun F G Q=>∀(n:Nat) (l:Array Bool) (b6 iY gP:Bool) (v10 v14 v18 v3:wF) (u:E),k6 w u (Z (M ⟨t,z,N⟩) (C V) ca) (Z (M ⟨gb,s,N⟩) (C L) cb) (Z (M ⟨A,D,N⟩) (C R) cc) V (C L) (C R) xd b6 iY gP v10 v14 v18 v3 ->(∀(g cg:Nat) (u2:E),k6 w u2 (Z (M ⟨t,z,N⟩) (C V) ca) (Z (M ⟨gb,s,N⟩) (C L) cb) (Z (M ⟨A,D,N⟩) (C R) cc) V (C L) (C R) y6 b6 iY gP (Z (M ⟨g,0,N⟩) (C V) cg) v14 v18 v3 ->F n (l.setIfInBounds 2 y6) ((((Q.put (M 10) (Z (M ⟨g,0,N⟩) (C V) cg)).put (M 14) v14).put (M 18) v18).put (M 3) v3) u2) ->G n l ((((Q.put (M 10) v10).put (M 14) v14).put (M 18) v18).put (M 3) v3) u [2]) ?_ (fun s2=>?_)
  ·intro n l b6 iY gP v10 v14 v18 v3 u o hn;have Bh:=o.a.cells;refine cA ?_ aG;intro Bm K;(try simp only[gE,aP]);go_simp;refine(mH.o _ o.a.bel).ae ?_;rintro e u2 ⟨gv,cv,Xv,rfl,ax,bD,aj,vd,dw,P⟩;have j:=(o.step P).done2 aj vd dw bD (aM o.m ax);refine K.o _ _ j.a.cells (fun _=>?_);exact il rfl (by rfl) (hn _ _ _ j)
  refine Rk (fun F G Q=>∀(n:Nat) (l:Array Bool) (b2 iY gP:Bool) (v10 v14 v18 v3:wF) (u:E),k6 w u (Z (M ⟨t,z,N⟩) (C V) ca) (Z (M ⟨gb,s,N⟩) (C L) cb) (Z (M ⟨A,D,N⟩) (C R) cc) V (C L) (C R) b2 xd iY gP v10 v14 v18 v3 ->(∀(g:Nat) (u2:E),k6 w u2 (Z (M ⟨t,z,N⟩) (C V) ca) (Z (M ⟨gb,s,N⟩) (C L) cb) (Z (M ⟨A,D,N⟩) (C R) cc) V (C L) (C R) b2 y6 iY gP v10 (Z (M ⟨g,0,N⟩) (C L) (C L)) v18 v3 ->F n (l.setIfInBounds 6 y6) ((((Q.put (M 10) v10).put (M 14) (Z (M ⟨g,0,N⟩) (C L) (C L))).put (M 18) v18).put (M 3) v3) u2) ->G n l ((((Q.put (M 10) v10).put (M 14) v14).put (M 18) v18).put (M 3) v3) u [6]) ?_ (fun s6=>?_)
  ·intro n l b2 iY gP v10 v14 v18 v3 u o hn;have Bh:=o.a.cells;refine cA ?_ aG;intro Bm K;(try simp only[gE,aP]);rw[aw (by rfl)];refine abH u _ _ 23 rfl (O (T u)) 27 j0 (Z N 0 0) 1 underlying23 bN bO IL I I _ _ (C L) rfl rfl rfl rfl (by rw[OE];omega) (by unfold maxLen;omega) (ah _) ?_;intro u2 bf bg;have aj:=sB bf;rw[SA] at aj;have j:=(o.step ((au _ _).grown bg (ah _) (fun k e=>by cases e))).done6 aj o.m;refine K.o _ _ j.a.cells (fun _=>?_);exact il rfl (by rfl) (hn _ _ j)
  refine Rk (fun F G Q=>∀(n:Nat) (l:Array Bool) (b2 b6 gP:Bool) (v10 v14 v18 v3:wF) (u:E),k6 w u (Z (M ⟨t,z,N⟩) (C V) ca) (Z (M ⟨gb,s,N⟩) (C L) cb) (Z (M ⟨A,D,N⟩) (C R) cc) V (C L) (C R) b2 b6 xd gP v10 v14 v18 v3 ->(∀(g:Nat) (u2:E),k6 w u2 (Z (M ⟨t,z,N⟩) (C V) ca) (Z (M ⟨gb,s,N⟩) (C L) cb) (Z (M ⟨A,D,N⟩) (C R) cc) V (C L) (C R) b2 b6 y6 gP v10 v14 (Z (M ⟨g,0,N⟩) (C R) (C R)) v3 ->F n (l.setIfInBounds 10 y6) ((((Q.put (M 10) v10).put (M 14) v14).put (M 18) (Z (M ⟨g,0,N⟩) (C R) (C R))).put (M 3) v3) u2) ->G n l ((((Q.put (M 10) v10).put (M 14) v14).put (M 18) v18).put (M 3) v3) u [10]) ?_ (fun uU=>?_)
  ·intro n l b2 b6 gP v10 v14 v18 v3 u o hn;have Bh:=o.a.cells;refine cA ?_ aG;intro Bm K;(try simp only[gE,aP]);rw[aw (by rfl)];refine abH u _ _ 24 rfl (O (T u)) 36 k0 (Z N 0 0) 1 underlying24 bP IK Dv I I _ _ (C R) rfl rfl rfl rfl (by rw[b0];omega) (by unfold maxLen;omega) (ah _) ?_;intro u2 bf bg;have aj:=sB bf;rw[SA] at aj;have j:=(o.step ((au _ _).grown bg (ah _) (fun k e=>by cases e))).done10 aj o.m;refine K.o _ _ j.a.cells (fun _=>?_);exact il rfl (by rfl) (hn _ _ j)
  refine Rk (fun F G Q=>∀(n:Nat) (l:Array Bool) (b2 b6 iY:Bool) (v10 v14 v18 v3:wF) (u:E),k6 w u (Z (M ⟨t,z,N⟩) (C V) ca) (Z (M ⟨gb,s,N⟩) (C L) cb) (Z (M ⟨A,D,N⟩) (C R) cc) V (C L) (C R) b2 b6 iY xd v10 v14 v18 v3 ->(∀(g:Nat) (u2:E),k6 w u2 (Z (M ⟨t,z,N⟩) (C V) ca) (Z (M ⟨gb,s,N⟩) (C L) cb) (Z (M ⟨A,D,N⟩) (C R) cc) V (C L) (C R) b2 b6 iY y6 v10 v14 v18 (zR (M ⟨g,0,N⟩)) ->F n (l.setIfInBounds 12 y6) ((((Q.put (M 10) v10).put (M 14) v14).put (M 18) v18).put (M 3) (zR (M ⟨g,0,N⟩))) u2) ->G n l ((((Q.put (M 10) v10).put (M 14) v14).put (M 18) v18).put (M 3) v3) u [12]) ?_ (fun ai=>?_)
  ·intro n l b2 b6 iY v10 v14 v18 v3 u o hn;have Bh:=o.a.cells;refine cA ?_ aG;intro Bm K;(try simp only[gE,aP]);go_simp;have j:=(o.step ((au _ u).alloc (ah _) (yM #[Z N 0 0,Z N 0 0,Z N 0 0] 26))).done12 (cj.at (w:=u) rfl (Z N 0 0) (Z N 0 0) (Z N 0 0)) o.m;refine K.o _ _ j.a.cells (fun _=>?_);exact il rfl (by rfl) (hn _ _ j)
  refine abX (fun F Q=>∀(gP:Bool) (v10 v14 v18 v3:wF) (u:E),k6 w u (Z (M ⟨t,z,N⟩) (C V) ca) (Z (M ⟨gb,s,N⟩) (C L) cb) (Z (M ⟨A,D,N⟩) (C R) cc) V (C L) (C R) y6 y6 y6 gP v10 v14 v18 v3 ->∀n,gH gP+2=n ->F n (#[y6,y6,y6,y6,y6,y6,y6,y6,y6,y6,y6,xd,gP,xd]) ((((Q.put (M 10) v10).put (M 14) v14).put (M 18) v18).put (M 3) v3) u) ?_ (fun ht=>?_)
  ·intro gP v10 v14 v18 v3 u o n hn;subst hn;have Bh:=o.a.cells;obtain⟨gv,cv,Xv,rfl,g1,g2,g3,g4,g5⟩:=o.f2 rfl;obtain⟨gp,rfl,p1,p2⟩:=o.f6 rfl;obtain⟨gr,rfl,r1,r2⟩:=o.f10 rfl;try simp only[gE,aP]
   cases gP
   focus
    show wpAnyH _ _ _ _ _ 3 _ _ _;refine ar 11 ((zd #[Z (M ⟨gv,0,N⟩) (C V) cv,Z (M ⟨gp,0,N⟩) (C L) (C L),Z (M ⟨gr,0,N⟩) (C R) (C R)])) ?_;refine aF [12] (cA ?_ aG);intro Bm K;go_simp;have P:da u (u.alloc (yM #[Z N 0 0,Z N 0 0,Z N 0 0] 26)):=(au _ u).alloc (ah _) _;have aR:=o.step P;have m1:=cj.at (w:=u) rfl (Z N 0 0) (Z N 0 0) (Z N 0 0);replace g1:sG _ gv Xv:=(P.block _ g1.lt).trans g1;replace p1:iH _ gp _:=(P.block _ p1.lt).trans p1;replace r1:qD _ gr _:=(P.block _ r1.lt).trans r1;have m2:=o.m;obtain⟨gm,aY⟩:∃g,O (T u)=g:=⟨_,rfl⟩;obtain⟨u2,ek⟩:∃x,u.alloc (yM #[Z N 0 0,Z N 0 0,Z N 0 0] 26)=x:=⟨_,rfl⟩;simp only[NC] at m1;rw[aY] at m1 m2;rw[ek] at m1 aR g1 p1 r1;simp only[ek,aY];refine K.o _ _ aR.a.cells (fun ak=>?_);clear K Bm P aY ek Bh;(try simp only[gE]);(try simp only[List.setIfInBounds_toArray,CM,VQ])
    have HF:=Fa (ahT aR.a m1 g1 p1 r1 g2 g3 g4 m2 g5 p2 r2)
   rotate_left
   focus
    show wpAnyH _ _ _ _ _ 2 _ _ _;obtain⟨gm,rfl,m1,m2⟩:=o.f12 rfl;refine ar 11 ((zd #[Z (M ⟨gv,0,N⟩) (C V) cv,Z (M ⟨gp,0,N⟩) (C L) (C L),Z (M ⟨gr,0,N⟩) (C R) (C R)])) ?_;have HF:=Fa (ahT o.a m1 g1 p1 r1 g2 g3 g4 m2 g5 p2 r2)
   all_goals
    obtain⟨q4,q5,q6⟩:=cj.cells m1;have q1:=gj _ gm 0 _ _ m1;have q2:=gj _ gm 1 _ _ m1;have q3:=gj _ gm 2 _ _ m1;refine aF [13] (cA ?_ aG);intro Bm K;go_simp;refine K.o _ _ HF.o.a.cells (fun _=>eO ao ?_ _);exact⟨rfl,gm,gv,gp,gr,cv,Xv,by rfl,HF.o⟩
  refine abX (fun F Q=>∀(k:Nat) (b2 b6 iY gP:Bool) (v10 v14 v18 v3:wF) (u:E),k6 w u (Z (M ⟨t,z,N⟩) (C V) ca) (Z (M ⟨gb,s,N⟩) (C L) cb) (Z (M ⟨A,D,N⟩) (C R) cc) V (C L) (C R) b2 b6 iY gP v10 v14 v18 v3 ->gH b2+gH b6+gH iY+gH gP=k ->F (k+2) (#[y6,y6,b2,y6,y6,y6,b6,y6,y6,y6,iY,xd,gP,xd]) ((((Q.put (M 10) v10).put (M 14) v14).put (M 18) v18).put (M 3) v3) u) ?_ (fun b1=>?_)
  ·intro k;induction k with
   |zero=>
    intro b2 b6 iY gP v10 v14 v18 v3 u o q
    obtain⟨rfl,rfl,rfl,rfl⟩:b2=y6/\b6=y6/\iY=y6/\gP=true:=by
     cases b2<;>cases b6<;>cases iY<;>cases gP<;>simp[gH] at q⊢
    exact ht _ _ _ _ _ _ o _ rfl
   |succ k ih=>
    intro b2 b6 iY gP v10 v14 v18 v3 u o q;cases b2<;>cases b6<;>cases iY<;>cases gP
    ·exact aF [2,6,10,12] (rN (s2 _ _ _ _ _ _ _ _ _ _ o fun _ _ _ j=>il (by rfl) rfl (ih _ _ _ _ _ _ _ _ _ j (by simp only[gH] at q⊢;omega))) (rN (s6 _ _ _ _ _ _ _ _ _ _ o fun _ _ j=>il (by rfl) rfl (ih _ _ _ _ _ _ _ _ _ j (by simp only[gH] at q⊢;omega))) (rN (uU _ _ _ _ _ _ _ _ _ _ o fun _ _ j=>il (by rfl) rfl (ih _ _ _ _ _ _ _ _ _ j (by simp only[gH] at q⊢;omega))) (ai _ _ _ _ _ _ _ _ _ _ o fun _ _ j=>il (by rfl) rfl (ih _ _ _ _ _ _ _ _ _ j (by simp only[gH] at q⊢;omega))))))
    ·exact aF [2,6,10] (rN (s2 _ _ _ _ _ _ _ _ _ _ o fun _ _ _ j=>il (by rfl) rfl (ih _ _ _ _ _ _ _ _ _ j (by simp only[gH] at q⊢;omega))) (rN (s6 _ _ _ _ _ _ _ _ _ _ o fun _ _ j=>il (by rfl) rfl (ih _ _ _ _ _ _ _ _ _ j (by simp only[gH] at q⊢;omega))) (uU _ _ _ _ _ _ _ _ _ _ o fun _ _ j=>il (by rfl) rfl (ih _ _ _ _ _ _ _ _ _ j (by simp only[gH] at q⊢;omega)))))
    ·exact aF [2,6,12] (rN (s2 _ _ _ _ _ _ _ _ _ _ o fun _ _ _ j=>il (by rfl) rfl (ih _ _ _ _ _ _ _ _ _ j (by simp only[gH] at q⊢;omega))) (rN (s6 _ _ _ _ _ _ _ _ _ _ o fun _ _ j=>il (by rfl) rfl (ih _ _ _ _ _ _ _ _ _ j (by simp only[gH] at q⊢;omega))) (ai _ _ _ _ _ _ _ _ _ _ o fun _ _ j=>il (by rfl) rfl (ih _ _ _ _ _ _ _ _ _ j (by simp only[gH] at q⊢;omega)))))
    ·exact aF [2,6] (rN (s2 _ _ _ _ _ _ _ _ _ _ o fun _ _ _ j=>il (by rfl) rfl (ih _ _ _ _ _ _ _ _ _ j (by simp only[gH] at q⊢;omega))) (s6 _ _ _ _ _ _ _ _ _ _ o fun _ _ j=>il (by rfl) rfl (ih _ _ _ _ _ _ _ _ _ j (by simp only[gH] at q⊢;omega))))
    ·exact aF [2,10,12] (rN (s2 _ _ _ _ _ _ _ _ _ _ o fun _ _ _ j=>il (by rfl) rfl (ih _ _ _ _ _ _ _ _ _ j (by simp only[gH] at q⊢;omega))) (rN (uU _ _ _ _ _ _ _ _ _ _ o fun _ _ j=>il (by rfl) rfl (ih _ _ _ _ _ _ _ _ _ j (by simp only[gH] at q⊢;omega))) (ai _ _ _ _ _ _ _ _ _ _ o fun _ _ j=>il (by rfl) rfl (ih _ _ _ _ _ _ _ _ _ j (by simp only[gH] at q⊢;omega)))))
    ·exact aF [2,10] (rN (s2 _ _ _ _ _ _ _ _ _ _ o fun _ _ _ j=>il (by rfl) rfl (ih _ _ _ _ _ _ _ _ _ j (by simp only[gH] at q⊢;omega))) (uU _ _ _ _ _ _ _ _ _ _ o fun _ _ j=>il (by rfl) rfl (ih _ _ _ _ _ _ _ _ _ j (by simp only[gH] at q⊢;omega))))
    ·exact aF [2,12] (rN (s2 _ _ _ _ _ _ _ _ _ _ o fun _ _ _ j=>il (by rfl) rfl (ih _ _ _ _ _ _ _ _ _ j (by simp only[gH] at q⊢;omega))) (ai _ _ _ _ _ _ _ _ _ _ o fun _ _ j=>il (by rfl) rfl (ih _ _ _ _ _ _ _ _ _ j (by simp only[gH] at q⊢;omega))))
    ·exact aF [2] (s2 _ _ _ _ _ _ _ _ _ _ o fun _ _ _ j=>il (by rfl) rfl (ih _ _ _ _ _ _ _ _ _ j (by simp only[gH] at q⊢;omega)))
    ·exact aF [6,10,12] (rN (s6 _ _ _ _ _ _ _ _ _ _ o fun _ _ j=>il (by rfl) rfl (ih _ _ _ _ _ _ _ _ _ j (by simp only[gH] at q⊢;omega))) (rN (uU _ _ _ _ _ _ _ _ _ _ o fun _ _ j=>il (by rfl) rfl (ih _ _ _ _ _ _ _ _ _ j (by simp only[gH] at q⊢;omega))) (ai _ _ _ _ _ _ _ _ _ _ o fun _ _ j=>il (by rfl) rfl (ih _ _ _ _ _ _ _ _ _ j (by simp only[gH] at q⊢;omega)))))
    ·exact aF [6,10] (rN (s6 _ _ _ _ _ _ _ _ _ _ o fun _ _ j=>il (by rfl) rfl (ih _ _ _ _ _ _ _ _ _ j (by simp only[gH] at q⊢;omega))) (uU _ _ _ _ _ _ _ _ _ _ o fun _ _ j=>il (by rfl) rfl (ih _ _ _ _ _ _ _ _ _ j (by simp only[gH] at q⊢;omega))))
    ·exact aF [6,12] (rN (s6 _ _ _ _ _ _ _ _ _ _ o fun _ _ j=>il (by rfl) rfl (ih _ _ _ _ _ _ _ _ _ j (by simp only[gH] at q⊢;omega))) (ai _ _ _ _ _ _ _ _ _ _ o fun _ _ j=>il (by rfl) rfl (ih _ _ _ _ _ _ _ _ _ j (by simp only[gH] at q⊢;omega))))
    ·exact aF [6] (s6 _ _ _ _ _ _ _ _ _ _ o fun _ _ j=>il (by rfl) rfl (ih _ _ _ _ _ _ _ _ _ j (by simp only[gH] at q⊢;omega)))
    ·exact aF [10,12] (rN (uU _ _ _ _ _ _ _ _ _ _ o fun _ _ j=>il (by rfl) rfl (ih _ _ _ _ _ _ _ _ _ j (by simp only[gH] at q⊢;omega))) (ai _ _ _ _ _ _ _ _ _ _ o fun _ _ j=>il (by rfl) rfl (ih _ _ _ _ _ _ _ _ _ j (by simp only[gH] at q⊢;omega))))
    ·exact aF [10] (uU _ _ _ _ _ _ _ _ _ _ o fun _ _ j=>il (by rfl) rfl (ih _ _ _ _ _ _ _ _ _ j (by simp only[gH] at q⊢;omega)))
    ·exact ht _ _ _ _ _ _ o _ (by simp only[gH] at q⊢;omega)
    ·exact absurd q (by simp[gH])
  exact il (by rfl) (by rfl) (b1 4 xd xd xd xd wQ wQ wQ wQ _ ⟨HA.o,U4.o,(fun e=>by cases e),(fun e=>by cases e),(fun e=>by cases e),(fun e=>by cases e)⟩ rfl)
 ·rintro e a' w1 ⟨rfl,gm,gv,gp,gr,cv,b3,rfl,hs⟩;clear hA bc mH;have kZ:=Fa hs;clear hs;try simp only[List.setIfInBounds_toArray,CM,VQ]
  obtain⟨i0,i1,i2⟩:=kZ.o.a.cells;have Eh:wT (∀k,0<=k ->k<C R ->(List.replicate (C R) (Value.slice N 0 0))[k]? =M (Z N 0 0)):=fun k _ q=>by rw[JT,aw q]
  go_wp2_with fail
  go_loopw [23] (fun kv wr=>∃(v:Nat) (Xv Xp Xr:List wF),v<=C V/\kv=J I v/\wT (fB w gm gv gp gr cv (Z (M ⟨t,z,N⟩) (C V) ca) (Z (M ⟨gb,s,N⟩) (C L) cb) (Z (M ⟨A,D,N⟩) (C R) cc) V (mU v L) (mU v (di R)) (C L) (C R) Xv Xp Xr wr)/\wT (∀k,v<=k ->k<C R ->Xr[k]? =M (Z N 0 0))) (fun kv _=>C V - (intOf kv).toNat)
  case atStart=>exact⟨0,_,_,_,aV _,rfl,kZ,Eh⟩
  case round=>
   obtain⟨v,Xv,Xp,Xr,iF,rfl,H,HX⟩:=hrel;clear kZ Eh i0 i1 i2;by_cases ad:v<C V
   ·replace iF:=ad;(have fQ:v<C L:=by have:=qJ.o;omega);(have Fm:v<C R:=by have:=uJ.o;omega);obtain⟨B9,Ba,c0,c1,an⟩:=Cc.o v iF wr H.o.a.bel;have QC:=Fa (fun (U:E) (hU:jM U B9 V[v].2)=>PY.o v iF U B9 Ba hU);obtain⟨vs,eD⟩:∃x,V[v].2=x:=⟨_,rfl⟩;obtain⟨nm,Oq⟩:∃x,V[v].1=x:=⟨_,rfl⟩;rw[eD] at QC c1 an;rw[Oq] at c0;have xD:=Fa eD;have aI:da wr (wr.alloc (yM #[zK nm,Z B9 (C vs) Ba] 60)).drew:=((au _ wr).alloc (ah _) _).drew;have Dx:(wr.alloc (yM #[zK nm,Z B9 (C vs) Ba] 60)).drew.heap[O (T wr)]? =M (yM #[zK nm,Z B9 (C vs) Ba] 60 (0,0)):=dU wr _;(have bb:O (T wr)≠gv:=by have:=H.o.lts;omega);obtain⟨g5,Bj⟩:∃g,O (T wr)=g:=⟨_,rfl⟩;rw[Bj] at Dx bb;have bz:=Fa (an.aa aI);have ir:=Fa (H.o.step aI);have qL:=Fa Dx;have GL:=Fa bb;have yT:=Fa Bj;clear an aI Dx bb Bj eD Oq H ad;go_upto_region 5 with fail
    simp only[yT.o];refine iK (S:=fun u=>u.cell? ⟨gm,0,N⟩=M (Z (M ⟨gv,0,N⟩) (C V) cv)/\u.cell? ⟨g5,1,N⟩=M (Z B9 (C vs) Ba)) ao ⟨ir.o.box.cells.1,by rw[ba _ g5 1 _ _ (0,0) qL.o];rfl⟩ (fun Y=>?_);clear c0 c1 yT;have H:=Fa ir.o;clear ir;generalize (wr.alloc (yM #[zK nm,Z B9 (C vs) Ba] 60)).drew=z1 at *;refine ar 0 (zR (M ⟨gm,0,N⟩)) ?_;refine ar 1 (Z (M ⟨gv,0,N⟩) (C V) cv) ?_;refine ar 2 (J I (v:Nat)) ?_;refine ar 3 (zR (M ⟨g5,1,N⟩)) ?_;refine ar 4 (Z B9 (C vs) Ba) ?_;refine aF [5] (cA ?_ aG);intro Bm K;go_simp;refine(QC.o _ bz.o).ae ?_;rintro e z2 ⟨d,cd,rfl,an,DD,ax,P⟩;have hB:=H.o.lts;have cD:=H.o.a.res.lt;replace H:=Fa (H.o.step P);replace qL:=Fa ((P.block _ (cS.1 qL.o).1).trans qL.o);have mE:=Fa (H.o.setVn iF xD.o an DD ax hB cD);have En:wT (z2.cell? ⟨gm,0,N⟩=M (Z (M ⟨gv,0,N⟩) (C V) cv)/\z2.cell? ⟨g5,1,N⟩=M (Z B9 (C vs) Ba)):=⟨H.o.box.cells.1,by rw[ba z2 g5 1 _ _ (0,0) qL.o];rfl⟩;refine K.o _ _ En.o (fun ak=>?_);clear K Bm Y an DD ax P hB cD;obtain⟨⟨qy,q0⟩,q1⟩:=H.o.cellV iF;refine ar 6 (zR (M ⟨gv,v*2,N⟩)) ?_;refine ar 7 (zR (M ⟨gv,v*2+1,N⟩)) ?_;refine aF [8] (cA ?_ aG);intro Bm K;go_simp;have Vi:wT ((z2.setCell ⟨gv,v*2+1,N⟩ (Z d (C vs) cd)).heap[g5]? =M (yM #[zK nm,Z B9 (C vs) Ba] 60 (0,0))):=(eW z2 ⟨gv,_,N⟩ _ g5 GL.o).trans qL.o
    refine K.o _ _ ⟨mE.o.box.cells.1,by rw[ba _ g5 1 _ _ (0,0) Vi.o];rfl⟩ (fun I1=>?_);clear K Bm ak I1 q0 q1 En qL Vi H;generalize (z2.setCell ⟨gv,v*2+1,N⟩ (Z d (C vs) cd))=z3 at *;(try simp only[gE,aP]);refine eO ao ?_ _;obtain⟨bl,cl,bo,py⟩:=Eu.o v fQ z3 mE.o.a.bel;have B7:=Fa (mE.o.step (au _ z3).drew);have bu:=Fa (py.aa (au _ z3).drew);have QG:wT (z3.drew.cell? ⟨gb,s+v,N⟩=M (Z bl L[v].length cl)):=bo;clear bo py mE;go_upto_region 6 with fail
    refine iK (S:=fun u=>u.cell? ⟨gm,1,N⟩=M (Z (M ⟨gp,0,N⟩) (C L) (C L))/\u.cell? ⟨O (T w),1,N⟩=M (Z (M ⟨gb,s,N⟩) (C L) cb)/\u.cell? ⟨gb,s+v,N⟩=M (Z bl L[v].length cl)) ao ⟨B7.o.box.cells.2.1,B7.o.a.cells.2.1,QG.o⟩ (fun Y=>?_);generalize z3.drew=z4 at *;refine ar 0 (zR (M ⟨gm,1,N⟩)) ?_;refine ar 1 (Z (M ⟨gp,0,N⟩) (C L) (C L)) ?_;refine ar 2 (J I (v:Nat)) ?_;refine ar 3 (zR (M ⟨O (T w),1,N⟩)) ?_;refine ar 4 (Z (M ⟨gb,s,N⟩) (C L) cb) ?_;refine ar 5 (J I (v:Nat)) ?_;refine ar 6 (zR (M ⟨gb,s+v,N⟩)) ?_;refine ar 7 (Z bl L[v].length cl) ?_;refine aF [8] (cA ?_ aG);intro Bm K;go_simp;refine(Kl bl cl L[v] _ bu.o (by have:=kj.o L[v] (bU fQ);omega)).ae ?_;rintro e z5 ⟨vv,rfl,S5,P⟩;obtain⟨d2,Ul,rfl,qY,iU,bm⟩:=bW.ints3 S5;have bp:=aT JC.o B7.o.a.bel.size;have hB:=B7.o.lts;have cD:=B7.o.a.res.lt;replace B7:=Fa (B7.o.step P);have mE:=Fa (B7.o.setP (k:=v) qY iU (Sl bm fun g Bj=>by simp only[bY,gK,jq] at Bj;omega));have vO:wT (z5.cell? ⟨gm,1,N⟩=M (Z (M ⟨gp,0,N⟩) (C L) (C L))/\z5.cell? ⟨O (T w),1,N⟩=M (Z (M ⟨gb,s,N⟩) (C L) cb)/\z5.cell? ⟨gb,s+v,N⟩=M (Z bl L[v].length cl)):=⟨B7.o.box.cells.2.1,B7.o.a.cells.2.1,(P.cell (p:=⟨gb,s+v,N⟩) bp).trans QG.o⟩;refine K.o _ _ vO.o (fun ak=>?_);clear K Bm Y S5 qY iU bm P hB bp cD
    obtain⟨⟨qy,q0⟩,q1⟩:=B7.o.cellP fQ;refine ar 9 (zR (M ⟨gp,v,N⟩)) ?_;refine aF [10] (cA ?_ aG);intro Bm K;go_simp;refine K.o _ _ ⟨mE.o.box.cells.2.1,mE.o.a.cells.2.1,(iM (eW z5 ⟨gp,v,N⟩ _ gb (by have:=B7.o.low;have:=JC.o;show gb≠gp;omega))).trans vO.o.2.2⟩ (fun I1=>?_);clear K Bm ak I1 q0 q1 vO B7 QG;generalize (z5.setCell ⟨gp,v,N⟩ (Z d2 L[v].length Ul))=z6 at *;(try simp only[gE,aP]);refine eO ao ?_ _;obtain⟨g9,o9,cr,BG⟩:=ru.o v Fm;have K2:=sJ.o R[v] (bU Fm);have px:∃h:v<C (di R),(di R)[v]=R[v].map lA:=⟨by rw[di,cY];exact Fm,by simp[di]⟩;obtain⟨rs,Fz⟩:∃x,R[v]=x:=⟨_,rfl⟩;rw[Fz] at K2 px;simp only[Fz] at BG;have Eo:=Fa BG;have Qt:=Fa px;have Qf:=Fa K2;have JB:=Fa (mE.o.into (HX.o v (ah _) Fm));have dR:=Fa mE.o;obtain⟨m0,m1,m2⟩:=dR.o.a.cells;have m3:=(Eo.o _ dR.o.a.bel).1;(have b4:(v:Int)<(C R:Int):=al);clear BG Fz K2 px mE QC;go_wp2_with fail
    go_loopw [52] (fun iv wr=>∃(i:Nat) (dx:Kd) (cx:Nat),i<=C rs/\iv=J I i/\wT (xK gr v Xr (Z dx i cx) ((rs.take i).map lA) z6 wr)) (fun iv _=>C rs - (intOf iv).toNat)
    case atStart=>exact⟨0,N,0,aV _,rfl,by rw[MN];exact JB⟩
    case round=>
     obtain⟨i,dx,cx,hi,rfl,HI⟩:=hrel;clear JB m0 m1 m2 m3;(have BR:da w wr:=HI.o.keep.low dR.o.a.bel fun g Bj=>by rw[bA.1 Bj];have:=dR.o.low;omega);by_cases ad:i<C rs
     ·obtain⟨g',o',e',fJ,c0,c1,c2⟩:=(Eo.o wr BR).2 i ad;cases e'
      have Qa:wT ((rs.take (i+1)).map lA=(rs.take i).map lA++[lA rs[i]]):=by
       show _=_;rw[gR ad,gV];rfl
      (have El:wT (C ((rs.take i).map lA)=i):=by show _=_;rw[cY,fh];omega);have Dy:=Qf.o.2.2 rs[i] (bU ad);(have Th:i<5000:=by have:=Qf.o;omega);obtain⟨f,hf⟩:∃f,rs[i]=f:=⟨_,rfl⟩;rw[hf] at Qa Dy c0 c1 c2;obtain⟨fn,fx,fy⟩:=f;have mI:=Fa (fun (U:E)=>Vy (n:=fn) (x:=fx) (y:=fy) (w:=U) (a8 (fn,fx,fy)) rfl (by have:fx.size+fy.size<=50000:=Dy;omega));have Qu:wT (lA (fn,fx,fy)=(aW (a8 (fn,fx,fy)),nu (a8 (fn,fx,fy)),de (a8 (fn,fx,fy)))):=rfl;generalize a8 (fn,fx,fy)=ab at *;have aI:da wr (wr.alloc (yM #[zZ fn,zK fx,zK fy] 63)).drew:=((au _ wr).alloc (ah _) _).drew;have bB:aL (wr.alloc (yM #[zZ fn,zK fx,zK fy] 63)).drew (O (T wr)) fn fx fy:=aL.new wr fn fx fy;obtain⟨gf,yv⟩:∃g,O (T wr)=g:=⟨_,rfl⟩;rw[yv] at bB;have Vg:=Fa yv;(have bh:wT (O (T z6)<=gf):=by rw[<- yv];exact HI.o.keep.size);(have bk:wT (∀k,(Value.slice dx i cx).ownBlock=M k ->k<gf):=fun k q=>by rw[<- yv];exact HI.o.own.old q);have GW:=Fa (HI.o.step aI);have bX:=Fa bB;clear aI bB yv Dy BR HI;go_upto_region 10 with fail
      simp only[Vg.o];have Bb:wT (sO gm gr v (C R) gf Xr dx i cx ((rs.take i).map lA) fn fx fy z6 (wr.alloc (yM #[zZ fn,zK fx,zK fy] 63)).drew):=sO.mk' GW.o bX.o dR.o.boxR dR.o.rlen bh.o bk.o;clear GW bX c0 c1 c2 fJ hf Vg bh bk;refine abG 13 (fun (b':Bool) (u:E)=>((u.cell? ⟨gm,2,N⟩=M (Z (M ⟨gr,0,N⟩) (C R) (C R)))/\u.cell? ⟨gf,0,N⟩=M (zZ fn)/\u.cell? ⟨gf,1,N⟩=M (zK fx)/\u.cell? ⟨gf,2,N⟩=M (zK fy))/\(b'=xd ->u.cell? ⟨gr,v,N⟩=M (Z dx i cx))) ao ⟨Bb.o.cells,fun _=>Bb.o.at' Fm⟩ (fun Y=>?_);generalize (wr.alloc (yM #[zZ fn,zK fx,zK fy] 63)).drew=y0 at *;refine qa (i:=0) (oi:=_) (v:=zR (M ⟨gm,2,N⟩)) (b:=xd) rfl ao ao ao a6 (fun _ _ _ h=>h) (Or.inl ⟨by rfl,?_⟩) ao b5 ?_
      ·intro u' Bh;go_simp
      (try simp only[gE,aP]);refine qa (i:=1) (oi:=_) (v:=Z (M ⟨gr,0,N⟩) (C R) (C R)) (b:=xd) rfl ao ao ao a6 (fun _ _ _ h=>h) (Or.inl ⟨by rfl,?_⟩) ao b5 ?_
      ·intro u' Bh;(try simp only[gE]);obtain⟨_,⟨s1,s2,s3,s4⟩,_⟩:=Bh;go_simp
      (try simp only[gE,aP]);refine qa (i:=2) (oi:=_) (v:=J I (v:Nat)) (b:=xd) rfl ao ao ao a6 (fun _ _ _ h=>h) (Or.inl ⟨by rfl,?_⟩) ao b5 ?_
      ·intro u' Bh;go_simp
      (try simp only[gE,aP]);refine qa (i:=3) (oi:=_) (v:=zR (M ⟨gm,2,N⟩)) (b:=xd) rfl ao ao ao a6 (fun _ _ _ h=>h) (Or.inl ⟨by rfl,?_⟩) ao b5 ?_
      ·intro u' Bh;go_simp
      (try simp only[gE,aP]);refine qa (i:=4) (oi:=_) (v:=Z (M ⟨gr,0,N⟩) (C R) (C R)) (b:=xd) rfl ao ao ao a6 (fun _ _ _ h=>h) (Or.inl ⟨by rfl,?_⟩) ao b5 ?_
      ·intro u' Bh;(try simp only[gE]);obtain⟨_,⟨s1,s2,s3,s4⟩,_⟩:=Bh;go_simp
      (try simp only[gE,aP]);refine qa (i:=5) (oi:=_) (v:=J I (v:Nat)) (b:=xd) rfl ao ao ao a6 (fun _ _ _ h=>h) (Or.inl ⟨by rfl,?_⟩) ao b5 ?_
      ·intro u' Bh;go_simp
      (try simp only[gE,aP]);refine qa (i:=6) (oi:=_) (v:=zR (M ⟨gr,v,N⟩)) (b:=xd) rfl ao ao ao a6 (fun _ _ _ h=>h) (Or.inl ⟨by rfl,?_⟩) ao b5 ?_
      ·intro u' Bh;go_simp
      (try simp only[gE,aP]);refine V8 (i:=7) (oi:=_) (v:=Z dx i cx) rfl ao ao ao a6 rfl ao (fun _ _ _ h=>h) (Or.inl ⟨by rfl,?_⟩) ao b5 ?_
      ·intro u' Bh;(try simp only[gE]);obtain⟨s1,s5⟩:=Bh;have s6:=s5 rfl;go_simp
      (try simp only[gE,aP]);refine qa (i:=8) (oi:=_) (v:=zd #[zZ fn,zK fx,zK fy]) (b:=xd) rfl ao ao ao a6 (fun _ _ _ h=>h) (Or.inl ⟨by rfl,?_⟩) ao b5 ?_
      ·intro u' Bh;(try simp only[gE]);obtain⟨_,⟨s1,s2,s3,s4⟩,_⟩:=Bh;go_simp
      (try simp only[gE,aP]);refine qd (rs:=[9]) ao aE (fC.cons (b:=xd) rfl ao ?_ (fC.nil));intro Bm K;go_simp;refine(mI.o _).ae ?_;rintro e y1 ⟨rfl,P⟩;replace Bb:=Fa (Bb.o.step P);clear P Y;refine K.o _ _ ⟨Bb.o.cells,fun _=>Bb.o.at' Fm⟩ (fun Y=>?_);clear K Bm;(try simp only[gE,aP]);refine qd (rs:=[10]) ao aE (fC.cons (b:=xd) rfl ao ?_ (fC.nil));intro Bm K;go_simp;have aI:=(au (O (T y1)) y1).alloc (ah _) (FC (aW ab) (nu ab) (de ab));have HY:=Fa (aL.new y1 (aW ab) (nu ab) (de ab));replace Bb:=Fa (Bb.o.step aI);clear aI Y;refine K.o _ _ ⟨Bb.o.cells,fun _=>Bb.o.at' Fm⟩ (fun Y=>?_);clear K Bm;obtain⟨gy,r5⟩:∃x,O (T y1)=x:=⟨_,rfl⟩;obtain⟨y2,hV⟩:∃x,y1.alloc (FC (aW ab) (nu ab) (de ab))=x:=⟨_,rfl⟩;rw[r5] at HY;rw[hV] at HY Bb Y;simp only[hV];simp only[r5];clear r5 hV;(try simp only[gE,aP]);refine qd (rs:=[11]) ao aE (fC.cons (b:=xd) rfl ao ?_ (fC.nil));intro Bm K;rw[aw (by rfl)];refine ajq _ _ rfl (O (T z6)) (Z dx i cx) ((rs.take i).map lA) (aW ab,nu ab,de ab) rfl Bb.o.ci.own gy rfl HY.o (by rw[El.o];have:=Qf.o;omega) Bb.o.ci.keep.size ?_;intro v2 y3 FA wP;obtain⟨d8,n8,c8,rfl⟩:=FA.slv
      have en:n8=i+1:=by
       have:=FA.len_of;rw[cE,El.o] at this;exact this
      subst en;obtain⟨YM,YV⟩:=Bb.o.ci.push dR.o.lts.2.2 wP (by rw[<- Qu.o] at FA;exact FA);rw[<- Qa.o] at YV;have GD:=Fa YM;have bt:=Fa YV;have Vt:=Fa (Bb.o.after wP);have az:wT (y3.cell? ⟨gr,v,N⟩=M (Z dx i cx)):=Bb.o.rowat Fm YM;refine K.o _ _ ⟨Vt.o,fun _=>az.o⟩ (fun ak=>?_);have QD:=Fa (Bb.o.after2 wP (Z d8 (i+1) c8));clear K Bm Y FA wP Bb HY YM YV;have Y:=ak;clear ak;(try simp only[gE,aP]);refine qa (i:=12) (oi:=_) (v:=zR (M ⟨gr,v,N⟩)) (b:=xd) rfl ao ao ao a6 (fun _ _ _ h=>h) (Or.inl ⟨by rfl,?_⟩) ao b5 ?_
      ·intro u' Bh;go_simp
      have q0:=az.o;have q1:y3.frozen? ⟨gr,v,N⟩=false:=GD.o.fz v;refine qd (rs:=[13]) ao aE (fC.cons (b:=y6) rfl ao ?_ (fC.nil));intro Bm K;go_simp;refine K.o _ _ ⟨QD.o,fun e=>by cases e⟩ (fun _=>Rf ao ?_ _);clear K Bm Y q0 q1 az GD Vt QD mI Qu Qa El;go_wp2_with fail
      go_roundw
      case rel=>exact⟨i+1,d8,c8,al,bd,bt⟩
      case measure=>simp[intOf];omega
     ·obtain rfl:i=C rs:=al
      obtain⟨XV,XP,XR,HD,bC⟩:∃XV XP XR,wT (fB w gm gv gp gr cv (Z (M ⟨t,z,N⟩) (C V) ca) (Z (M ⟨gb,s,N⟩) (C L) cb) (Z (M ⟨A,D,N⟩) (C R) cc) V (mU (v+1) L) (mU (v+1) (di R)) (C L) (C R) XV XP XR wr)/\wT (∀k,v+1<=k ->k<C R ->XR[k]? =M (Z N 0 0)):=by
       have h9:=xK.done dR.o HI.o;obtain⟨Yw,e9⟩:=Qt.o;rw[iD, <- e9,aeV Yw,aeV fQ] at h9;refine⟨_,_,_,h9,fun k q Td=>?_⟩;rw[wj al];exact HX.o k al Td
      clear BR HI dR HX ad;go_wp2_with fail
      go_roundw
      case rel=>exact⟨v+1,XV,XP,XR,al,bd,HD,bC⟩
      case measure=>simp[intOf];omega
   ·have uj:v=C V:=al
    have bw:wT (mU v L=L):=by
     show _=_;rw[uj, <- qJ.o];exact aeW L
    have bx:wT (mU v (di R)=di R):=by
     show _=_;have dO:C (di R)=C R:=cY _;rw[uj, <- uJ.o, <- dO];exact aeW (di R)
    rw[bw.o,bx.o] at H;have ay:=H.o.a.res;have f0:=gj _ (O (T w)+1) 0 _ _ ay;have f1:=gj _ (O (T w)+1) 1 _ _ ay;have f2:=gj _ (O (T w)+1) 2 _ _ ay;obtain⟨n0,n1,n2⟩:=H.o.box.cells;obtain⟨r0,r1,r2⟩:=H.o.a.res.cells;clear HX uj;have b8:=H.o.low;go_wp2_with fail
    refine dI (Hc rfl _ _ (O (T w)+1) _ _ _ _ rfl (((ay.set0 _).set1 _).set2 _) underlying26 rfl ao) rfl ?_;have hx:=(((eK.refl [O (T w)+1] wr).put (b:=O (T w)+1) (yd aE) 0 (Z (M ⟨gv,0,N⟩) (C V) cv)).put (b:=O (T w)+1) (yd aE) 1 (Z (M ⟨gp,0,N⟩) (C L) (C L))).put (b:=O (T w)+1) (yd aE) 2 (Z (M ⟨gr,0,N⟩) (C R) (C R));(have Dk:=hx.more (hs:=[gv,gp,gr,O (T w)+1]) fun g Bj=>by rw[bA.1 Bj];simp);refine⟨gv,gp,gr,cv,Xv,Xp,Xr,rfl,(H.o.v.keep Dk (hx.block gv H.o.lts.1 (by simp;omega))).less fun g Bj=>?_,(H.o.p.keep Dk (hx.block gp H.o.lts.2.1 (by simp;omega))).less fun g Bj=>?_,(H.o.r.keep Dk (hx.block gr H.o.lts.2.2 (by simp;omega))).less fun g Bj=>?_,H.o.cap,⟨al,al,al⟩,hx.low H.o.a.bel fun g Bj=>by rw[bA.1 Bj];omega⟩
    all_goals simp only[bY,gK,jq] at Bj⊢;omega
theorem asJ (a b c:Kd) (ca cb cc:Nat) (V:List Vr) (L:List Kx) (R:List (List Fr)) (w:E) (h:jo w a b c V L R) (j:C L=C V) (k:C R=C V) (p:0<C V) (i:C V<=8) (n:∀x∈V,0<x.2.length/\x.2.length<=5000) (m:∀l∈L,C l<=5000) (r:∀l∈R,0<C l/\l.length<=5000/\∀f∈l,f.2.1.size+f.2.2.size<=50000):
  c6 37 #[zd #[Z a (C V) ca,Z b (C L) cb,Z c (C R) cc]] w fun e w'=>∃(gv gp gr cv:Nat) (v X Xr:List wF),e=yW (zd #[Z (M ⟨gv,0,N⟩) (C V) cv,Z (M ⟨gp,0,N⟩) (C L) (C L),Z (M ⟨gr,0,N⟩) (C R) (C R)])/\pZ [gv,gp,gr] gv V v w'/\nO [gv,gp,gr] gp L X w'/\p5 [gv,gp,gr] gr (di R) Xr w'/\V.length<=cv/\(O (T w)<=gv/\w.heap.size<=gp/\w.heap.size<=gr)/\da w w':=by
 obtain⟨g,o,_,_,rfl,_⟩:=h.Fd 0 p;obtain⟨gb,q,_,_,rfl,_⟩:=h.pars 0 al;obtain⟨d,s,_,_,rfl,_⟩:=h.rows 0 al;exact asI g o gb q d s ca cb cc V L R w h j k p i n m r
variable {K:Act ->E ->Prop} {rest:List Oper}
theorem alz {P:Program} (w:E) (d s y e:TypeId) (g o B7 Bh:Nat) (a:Addr) (z Bm k sz:Nat) (r:Array wF) (t:TypeId) (c:List wF)
  (u:P.underlying d=M (.slice e)) (hs:(P.info? e).map (·.size)=M sz)
  (h:w.heap[g]? =M (yM r t (0,0))) (l:Nat.min z B7=k) (n:C c=k*sz)
  (b:∀j v,c[j]? =M v ->w.cell? (a.add j)=M v) (p:o+C c<=r.size) (h1:∀v∈c,v.oneCell'=y6):
  (Builtin.copy_ #[d,s] y #[Z (M ⟨g,o,N⟩) B7 Bh,Z (M a) z Bm]).run P w=
   .ok (goInt k) (w.setRow g (r.toList.take o++c++r.toList.drop (o+C c)).toArray):=by
 have q:=run_storeCells_at P g o t c 0 r w h (by simpa using p) h1;cases hq:P.info? e with
 |none=>simp[hq] at hs
 |some i=>
  have f:i.size=sz:=by simpa [hq] using hs
  have m:=run_firstCells_some (P:=P) w sz k a z Bm c n b;simp[Builtin.copy_,run_underlying u,Builtin.lenOf,sizeOf,typeInfo,hq,f,l,m,q]
theorem abI {P:Program} {o:Oper} {a:Act} (d s:Operand) (Ba i:TypeId)
  (q:o.op=.call {callee:=.builtin .copy,args:= #[d,s],argTypes:= #[Ba,i]}) (e:TypeId) (sz:Nat) (u:P.underlying Ba=M (.slice e)) (y:(P.info? e).map (·.size)=M sz)
  (g f B7 Bh:Nat) (b:Addr) (z Bm k:Nat) (l:a.eval d=Z (M ⟨g,f,N⟩) B7 Bh) (hs:a.eval s=Z (M b) z Bm)
  (r:Array wF) (t:TypeId) (m:w.heap[g]? =M (yM r t (0,0))) (c:List wF) (n:Nat.min z B7=k) (p:C c=k*sz)
  (B9:∀j v,c[j]? =M v ->w.cell? (b.add j)=M v) (x:f+C c<=r.size) (h1:∀v∈c,v.oneCell'=y6)
  (h:∀w',w'=w.setRow g (r.toList.take f++c++r.toList.drop (f+C c)).toArray ->K (a.put o.dst (goInt k)) w'):o.wp P a w K Q:=by
 have A:=alz (P:=P) w Ba i o.type e g f B7 Bh b z Bm k sz r t c u y m n p B9 x h1;unfold Oper.wp execOp;simp only[q,resolve,invoke,builtin,JQ,zi,vZ,JS,gw,oQ,l,hs,A];exact h _ rfl
theorem ajr {P:Program} {o:Oper} {a:Act} (A:o.guard=N) (d s:Operand) (Ba i:TypeId)
  (u:o.op=.call {callee:=.builtin .copy,args:= #[d,s],argTypes:= #[Ba,i]}) (l:TypeId) (sz:Nat) (x:P.underlying Ba=M (.slice l)) (D:(P.info? l).map (·.size)=M sz)
  (g f B7 Bh:Nat) (b:Addr) (z Bm k:Nat) (m:a.eval d=Z (M ⟨g,f,N⟩) B7 Bh) (hs:a.eval s=Z (M b) z Bm)
  (r:Array wF) (t:TypeId) (n:w.heap[g]? =M (yM r t (0,0))) (c:List wF) (p:Nat.min z B7=k) (q:C c=k*sz)
  (B9:∀j v,c[j]? =M v ->w.cell? (b.add j)=M v) (y:f+C c<=r.size) (h1:∀v∈c,v.oneCell'=y6)
  (h:∀w',w'=w.setRow g (r.toList.take f++c++r.toList.drop (f+C c)).toArray ->wpList P ops Q rest (a.put o.dst (goInt k)) w'):wpList P ops Q (o::rest) a w:=
 wpList_plain A fun _ K=>abI d s Ba i u l sz x D g f B7 Bh b z Bm k m hs r t n c p q B9 y h1 fun w' e=>K _ _ (h w' e)
def kP (n k:Nat) (f:Fr):List Fr:=List.replicate k f++List.replicate (n - k) tx
theorem ac6 (f:Fr) (h:k<=n):C (kP n k f)=n:=by simp[kP];omega
theorem alC (n:Nat) (f:Fr):kP n n f=List.replicate n f:=by simp[kP]
theorem ag7:∀(l:List Fr) (k:Nat),(dM l).take (k*3)=dM (l.take k)
 |[],k=>by simp[dM]
 |f::l,0=>by simp[dM]
 |f::l,k+1=>by
  rw[show (k+1)*3=k*3+1+1+1 by omega];simp only[dM,List.take_succ_cons,ag7 l k]
theorem ag9:∀(l:List Fr) (k:Nat),(dM l).drop (k*3)=dM (l.drop k)
 |[],k=>by simp[dM]
 |f::l,0=>by simp[dM]
 |f::l,k+1=>by
  rw[show (k+1)*3=k*3+1+1+1 by omega];simp only[dM,List.drop_succ_cons,ag9 l k]
theorem aaf:∀(l:List Fr),∀v∈dM l,v.oneCell'=y6
 |[],v,h=>by cases h
 |f::l,v,h=>by
  simp only[dM,bY] at h;rcases h with rfl |rfl |rfl |h
  ·rfl
  ·rfl
  ·rfl
  ·exact aaf l v h
theorem alB (f:Fr) (h:k+c<=n):(dM (kP n k f)).take (k*3)++dM (List.replicate c f)++(dM (kP n k f)).drop (k*3+C (dM (List.replicate c f)))=dM (kP n (k+c) f):=by
 rw[yH,tW,show k*3+3*c=(k+c)*3 by omega,ag7,ag9, <- Pn, <- Pn];congr 1
 rw[kP,kP,VP aE,kO aE,List.drop_append,List.drop_eq_nil_of_le aE,gS,List.drop_replicate,tW,abw];congr 2
 omega
theorem alA {G:Nat} {f:Fr} (h:ij w G (kP n k f)) (b:c<=k):∀j v,(dM (List.replicate c f))[j]? =M v ->w.cell? ((⟨G,0,N⟩:Addr).add j)=M v:=fun j v a=>by
 have d:(⟨G,0,N⟩:Addr).add j=⟨G,j,N⟩:=by unfold Addr.add;split<;>simp_all
 rw[d,ba w G j _ _ (0,0) h]
 have e:kP n k f=List.replicate c f++(List.replicate (k - c) f++List.replicate (n - k) tx):=by
  rw[kP, <- p9,abw];congr 2
  omega
 rw[e,Pn,Q1,Q3 (by
  rcases dX j (C (dM (List.replicate c f))) with h |h
  ·exact h
  ·rw[iT h] at a;cases a)]
 exact a
theorem ac5 {G:Nat} {f:Fr} (h:ij w G (kP n k f)) (a:k+c<=n):ij (w.setRow G ((dM (kP n k f)).toArray.toList.take (k*3)++dM (List.replicate c f)++(dM (kP n k f)).toArray.toList.drop (k*3+C (dM (List.replicate c f)))).toArray) G (kP n (k+c) f):=by
 rw[List.toList_toArray,alB f a];exact setRow_heap w G _ _ _ _ h
theorem akZ (g n:Nat) (f:Fr) (w:E) (Bm:aL w g f.1 f.2.1 f.2.2) (h1:1<=n) (hn:n<=1000):
  c6 87 #[Z (M ⟨g,0,N⟩) 1 1,J I (n:Nat)] w fun e w'=>∃G,e=yW (Z (M ⟨G,0,N⟩) n n)/\w.heap.size<=G/\ij w' G (List.replicate n f)/\da w w':=by
 obtain⟨i0,y,an,Q,av⟩:=eC Tryz.infoFrac;have F:wT ((prog.info? 63).map (·.size)=M 3):=by show _=_;rw[y,Option.map_some,Q]
 have X:=Fa Bm;clear Bm;have B9:1*n/18446744073709551616=0:=zk al;have x:1*n % 18446744073709551616=n:=by rw[k8];exact kp al
 have UY:wT (∀V:E,c6 139 #[J .u64 1,J .u64 (n:Nat)] V fun e w'=>e=yW (zp #[J .u64 0,J .u64 (n:Nat)])/\w'=V):=fun V=>by
  have h:=Tryz.bits_Mul 1 n al al V;rw[B9,x] at h;exact h
 clear B9 x;go_enter func87,ntmps87;go_wp2_with fail
 refine(UY.o _).ae ?_;rintro e b ⟨rfl,rfl⟩;have dY:¬((9223372036854775807:Int)<(n:Int)):=al
 go_upto_region 7 with (first |(at_make;refine oK _ rfl _ _ 36 rfl (O (T b)) 63 i0 (zd #[zZ xd,zK ⟨#[]⟩,zK ⟨#[]⟩]) 3 underlying36 y an Q I I _ _ n rfl rfl bd bd (by rw[av];omega) (by unfold maxLen;omega) (ah _) ?_;intro m R Ba))
 have r:=aaM R;rw[NP] at r;have q:da b m:=(au _ _).grown Ba (ah _) (fun k e=>by cases e)
 have Bb:wT (ij m (O (T b)) (kP n 0 f)):=by
  show ij _ _ _;rw[kP,List.replicate_zero,gS,Nat.sub_zero];exact r
 have p:=Fa (X.o.aa q X.o.lt);have U:wT (Nat.min 1 n=1):=uO h1
 have K:wT (∀j v,(dM (List.replicate 1 f))[j]? =M v ->m.cell? ((⟨g,0,N⟩:Addr).add j)=M v):=fun j v a=>by
  have ax:(⟨g,0,N⟩:Addr).add j=⟨g,j,N⟩:=by unfold Addr.add;split<;>simp_all
  rw[ax];match j,a with
  |0,a=>cases a;exact p.o.c0
  |1,a=>cases a;exact p.o.c1
  |2,a=>cases a;exact p.o.c2
  |j+3,a=>simp[dM] at a
 clear R Ba r;obtain⟨G,D⟩:∃G,G=O (T b):=⟨_,rfl⟩;have P:wT (O (T b)<=G):=by rw[D];exact ah _
 have Y:=Fa q;simp only[<- D] at Bb⊢;clear D q
 have Bj:wT (0*3+C (dM (List.replicate 1 f))<=(dM (kP n 0 f)).toArray.size):=by
  show _<=_;rw[mL,yH,yH,ac6 f (aV _)];simp;omega
 go_upto_region 8 with (first |(refine ajr rfl (.tmp 31) (.tmp 32) 36 36 rfl 63 3 underlying36 F.o G (0*3) n n ⟨g,0,N⟩ 1 1 1 rfl rfl (dM (kP n 0 f)).toArray 63 Bb.o (dM (List.replicate 1 f)) U.o rfl K.o Bj.o (aaf _) ?_;intro Bh A;have l:wT (ij Bh G (kP n (0+1) f)/\da b Bh):=(by rw[A];exact⟨ac5 Bb.o al,below_setRow Y.o P.o _⟩);clear A))
 rw[bQ] at l;clear Bb p U K Y Bj;go_loopw [8] (fun kv wr=>∃k:Nat,1<=k/\k<=n/\kv=J I k/\wT (ij wr G (kP n k f)/\da b wr)) (fun kv _=>n - (intOf kv).toNat)
 case atStart=>exact⟨1,ah _,h1,rfl,l⟩
 case round=>
  obtain⟨k,B7,ay,rfl,H⟩:=hrel;clear l;by_cases az:k<n
  ·obtain⟨c,d⟩:∃c,Nat.min k (n - k)=c:=⟨_,rfl⟩;have U:=Fa d;(have jG:wT (c<=k):=by rw[<- d];exact Nat.min_le_left _ _);(have t:wT (k+c<=n):=by have i:Nat.min k (n - k)<=n - k:=Nat.min_le_right _ _;show _<=_;omega)
   have ab:wT (1<=c):=by
    show 1<=c;rw[<- d];exact Nat.le_min.2 ⟨B7,al⟩
   (have aj:wT (1<=k+c):=by show _<=_;omega);have ai:wT (k+c<=1000):=aM t.o hn;clear d;(have aE:¬n=k:=al);(have aI:IntKind.i64.wrap ((k:Int)+(c:Int))=(k:Int)+(c:Int):=by rw[js];have:=ai.o;omega);go_upto_region 9 with fail
   replace H:wT (ij wr.drew G (kP n k f)/\da b wr.drew):=⟨H.o.1,H.o.2.drew⟩;refine iK (S:=fun _=>True) ao trivial (fun u=>?_);generalize wr.drew=u0 at *;refine ar 0 (J I (k:Nat)) ?_;refine ar 1 (Z (M ⟨G,0,N⟩) n n) ?_;refine ar 2 (J I (k:Nat)) ?_;refine ar 3 (Z (M ⟨G,k*3,N⟩) (n - k) (n - k)) ?_;refine ar 4 (Z (M ⟨G,0,N⟩) n n) ?_;refine ar 5 (J I (k:Nat)) ?_;refine ar 6 (Z (M ⟨G,0,N⟩) k n) ?_;refine aF [7] (cA ?_ aG);intro K' L;rw[aw (by rfl)];refine abI (.tmp 41) (.tmp 44) 36 36 rfl 63 3 underlying36 F.o G (k*3) (n - k) (n - k) ⟨G,0,N⟩ k n c rfl rfl (dM (kP n k f)).toArray 63 H.o.1 (dM (List.replicate c f)) U.o (by rw[yH,tW];omega) (alA H.o.1 jG.o) (by rw[yH,tW];simp[yH,ac6 f (by omega:k<=n)];have:=t.o;omega) (aaf _) ?_;intro u1 z
   have ad:wT (ij u1 G (kP n (k+c) f)/\da b u1):=by
    rw[z];exact⟨ac5 H.o.1 t.o,below_setRow H.o.2 P.o _⟩
   clear z;refine L.o _ _ trivial (fun s=>?_);clear L K' u H;have u:=s;clear s;refine ar 8 (J I ((k+c:Nat):Int)) ?_;refine ar 9 (J I ((k+c:Nat):Int)) ?_;(try simp only[gE,aP]);refine eO ao ?_ _;go_wp2;go_roundw
   case rel=>exact⟨k+c,aj.o,t.o,rfl,ad⟩
   case measure=>simp[intOf];have:=ab.o;omega
  ·obtain rfl:n=k:=al
   go_wp2;go_ret;refine⟨G,rfl,P.o,?_,H.o.2⟩;have i:=H.o.1;rw[alC] at i;exact i
theorem akw {x:Nat}:(List.replicate n (qF 0)).set x (qF 1)=rI n x:=by
 apply ld (by simp[rI]);intro k h b;rw[CO];simp only[rI,mN,Hq,VW];by_cases e:x=k
 ·rw[aw e,aw e.symm]
 ·rw[aC e,aC fun a=>e a.symm]
theorem ati (n x:Nat) (w:E) (h1:1<=n) (l:n<=1000) (m:x<n):
  c6 38 #[J I (n:Nat),J I (x:Nat)] w fun e w'=>∃G,e=yW (Z (M ⟨G,0,N⟩) n n)/\w.heap.size<=G/\ij w' G (rI n x)/\da w w':=by
 have Bm:wT (∀U:E,c6 88 #[J I 0] U fun e w'=>e=yW (zd #[zZ (aW 0),zK (nu 0),zK (de 0)])/\da U w'):=fun U=>Gd (k:=0) (w:=U) 0 0 rfl a6 rfl;have R:wT (∀U:E,c6 88 #[J I 1] U fun e w'=>e=yW (zd #[zZ (aW 1),zK (nu 1),zK (de 1)])/\da U w'):=fun U=>Gd (k:=1) (w:=U) 1 1 rfl a6 rfl;have z:wT (∀(g:Nat) (U:E),aL U g (aW 0) (nu 0) (de 0) ->c6 87 #[Z (M ⟨g,0,N⟩) 1 1,J I (n:Nat)] U fun e w'=>∃G,e=yW (Z (M ⟨G,0,N⟩) n n)/\U.heap.size<=G/\ij w' G (List.replicate n (qF 0))/\da U w'):=fun g U b=>akZ g n (qF 0) U b h1 l;have Y:(x:Int)<(n:Int):=al
 go_enter func38,ntmps38;go_wp2_with fail
 refine(Bm.o _).ae ?_;rintro e c ⟨rfl,h⟩;have Bj:da c (c.alloc (yM #[zZ (aW 0),zK (nu 0),zK (de 0)] 63)):=(au _ c).alloc (ah _) _;have i:=h.trans (Bj.ae h.size);have X:=Fa (aL.new c (aW 0) (nu 0) (de 0));have a:=Fa i;clear h Bj i;go_wp2_with fail
 refine(z.o _ _ X.o).ae ?_;rintro e v ⟨G,rfl,f,r,b⟩;have y:O (T w)<=G:=aM a.o.size f;have d:=Fa (a.o.trans (b.ae a.o.size));have H:=Fa r;clear b a X f r z Bm;go_wp2_with fail
 refine(R.o _).ae ?_;rintro e D ⟨rfl,b⟩;have A:=Fa (d.o.trans (b.ae d.o.size));have j:=Fa (H.o.aa b H.o.lt);clear b d H R;obtain⟨q,s,t⟩:=j.o.cells x (by rw[tW];exact m);have f0:=j.o.fz (x*3);have f1:=j.o.fz (x*3+1);have u:=j.o.fz (x*3+2);have P:=Fa (j.o.put x (qF 1));go_wp2_with fail
 go_ret;refine⟨G,rfl,y,?_,((A.o.setCell (p:=⟨G,x*3,N⟩) y _).setCell (p:=⟨G,x*3+1,N⟩) y _).setCell (p:=⟨G,x*3+2,N⟩) y _⟩;have:=P.o;rw[akw] at this;exact this
theorem adz {α:Type} (f:Nat×Nat ->α) (d:List (Nat×Nat)) (L:List α) (h:i<C d):xT f (d.take (i+1)) L=(xT f (d.take i) L).set d[i].1 (f d[i]):=by
 rw[gR h,xT,List.foldl_append];rfl
theorem XD {x:wF} (f:cj U g x y z) (i:bV x) (j:bV y) (k:bV z) {b:Kd} (h:n≠0 ->∃g' o v,b=M ⟨g',o,N⟩/\U.cell? ⟨g',o,N⟩=M v/\¬bV v):pO [g] b n:=fun g' o e l m=>by
 obtain⟨p,q,v,d,c,a⟩:=h l;rw[e] at d;cases d;rw[bA.1 m] at c;rw[ba U g o _ _ (0,0) f] at c;match o,c with
 |0,c=>cases c;exact a i
 |1,c=>cases c;exact a j
 |2,c=>cases c;exact a k
 |o+3,c=>simp at c
theorem XE {gs:Ja} {b:Kd} (h1:pO gs b n) (a:pO [g] b n):pO (gs++[g]) b n:=fun g' o e h m=>(bE.1 m).elim (h1 g' o e h) (a g' o e h)
theorem anR {s:ByteArray}:¬bV (zK s):=fun ⟨_,_,_,e⟩=>by cases e
theorem Sn {i:Int}:¬bV (J I i):=fun ⟨_,_,_,e⟩=>by cases e
theorem XJ {s:Bool}:¬bV (zZ s):=fun ⟨_,_,_,e⟩=>by cases e
section
variable {gs : Ja} {g gb : Nat} {V : List Vr} {L : List Kx} {R : List (List Fr)} {X : List wF} {W : E} {x y z : wF}
theorem pZ.with_net (h:pZ gs g V X W) (n:cj W gb x y z) (p:bV x) (q:bV y) (r:bV z):pZ (gs++[gb]) g V X W:=⟨h.row,h.len,fun k m=>by
 obtain⟨b,c,d,f,a,i,j⟩:=h.at' k m;refine⟨b,c,d,f,a,i,XE j (XD n p q r fun s=>?_)⟩;obtain⟨g',o,e,_,l⟩:=a 0 al;exact⟨g',o,_,e,l,anR⟩⟩
theorem nO.with_net (h:nO gs g L X W) (n:cj W gb x y z) (m:bV x) (p:bV y) (q:bV z):nO (gs++[gb]) g L X W:=⟨h.row,h.len,fun k l=>by
 obtain⟨b,c,d,a,f,i⟩:=h.at' k l;refine⟨b,c,d,a,f,XE i (XD n m p q fun r=>?_)⟩;obtain⟨g',o,e,_,j⟩:=a 0 al;exact⟨g',o,_,e,j,Sn⟩⟩
theorem p5.with_net (h:p5 gs g R X W) (n:cj W gb x y z) (m:bV x) (p:bV y) (q:bV z):p5 (gs++[gb]) g R X W:=⟨h.row,h.len,fun k l=>by
 obtain⟨b,c,f,a,i,j⟩:=h.at' k l;refine⟨b,c,f,a,i,XE j (XD n m p q fun r=>?_)⟩;obtain⟨g',o,e,_,d,_⟩:=a 0 al;rw[oN,jd] at d;exact⟨g',o,_,e,d,XJ⟩⟩
end
theorem fB.cellR {x:wF} (h:fB w gm gv gp gr cv x y z V L R nl nr Xv Xp Xr U) (a:k<nr):(∃q,U.cell? ⟨gr,k,N⟩=M q)/\U.frozen? ⟨gr,k,N⟩=false:=⟨⟨_,h.r.row.cell _ (by have:=h.rlen;omega)⟩,h.r.row.fz _⟩
theorem ahW (h0:aS V L R=0) (hs:tD V L R):0<C V/\(∀x∈V,0<x.2.length/\x.2.length<=5000)/\(∀l∈L,C l<=5000)/\∀l∈R,0<C l/\l.length<=5000/\∀f∈l,f.2.1.size+f.2.2.size<=50000:=by
 have k:=gY h0;have p:=xY h0
 have d:∀v (h:v<C V),1<=V[v].2.length:=fun v h=>by
  have:=lp p v;rwa [H4 h] at this
 refine⟨by have:=(mj (vE (ND h0)).1).1;rw[<- k.len];exact this,fun x c=>?_,hs.pars.2,fun l b=>?_⟩
 ·obtain⟨v,h,rfl⟩:=iE c;exact⟨d v h,(hs.Fd.2 _ c).2.1⟩
 ·have a:=hs.rows.2 l b;obtain⟨v,h,rfl⟩:=iE b;refine⟨?_,a.1,fun f e=>?_⟩
  ·rw[k.rows v (by rw[k.len, <- k.lenR];exact h) h];exact MI (LS p _) (lp p v)
  ·have:=TV e;have:=a.2;omega
theorem ato (j n:Nat) (b c f:Kd) (ca cb cc cf:Nat) (V:List Vr) (L:List Kx) (R:List (List Fr)) (D:List (Int×Int)) (d:List (Nat×Nat)) (w:E) (h:jo w (M ⟨j,n,N⟩) b c V L R) (hs:tD V L R) (hF:kn w f D) (hn:C D<=1000) (tr:C D<=cf) (he:mo V L R D=0) (hD:D=zF d) (hd:fL (ag V) (C V) d):
  c6 9 #[zd #[Z (M ⟨j,n,N⟩) (C V) ca,Z b (C L) cb,Z c (C R) cc],Z f (C D) cf] w fun e w'=>∃(a' b' c':Kd) (yJ eM jm:Nat),e=yW (zp #[zd #[Z a' (C V) yJ,Z b' (C (fZ d L)) eM,Z c' (C (fO V d (di R))) jm],J I 0])/\jo w' a' b' c' V (fZ d L) (fO V d (di R))/\pP w' b' (fZ d L)/\da w w':=by
 have GX:=Fa (fun (U:E) (B9:da w U)=>Yd (M ⟨j,n,N⟩) b c f ca cb cc cf V L R D U (h.aa B9) hs (hF.aa B9) hn tr);rw[he] at GX;have h0:aS V L R=0:=(Ua he).1;have Bm:=gY h0;obtain⟨hp,P,hl,hr⟩:=ahW h0 hs;have yV:=Fa (fun (U:E) (B9:da w U)=>asJ (M ⟨j,n,N⟩) b c ca cb cc V L R U (h.aa B9) Bm.len Bm.lenR hp Bm.n8 P hl hr);have wS:C D=C d:=by rw[hD,AY]
 have bb:wT (∀i (hi:i<C d) (U:E),da w U ->∃g o,f=M ⟨g,o,N⟩/\U.cell? ⟨g,o+i*2,N⟩=M (J I (d[i].1:Nat))/\U.cell? ⟨g,o+i*2+1,N⟩=M (J I (d[i].2:Nat))):=fun i hi U B9=>by
  obtain⟨g,o,e,_,h1,h2⟩:=(hF.aa B9) i al;have e1:D[i]'al=((d[i].1:Int),(d[i].2:Int)):=by simp[hD,zF]
  rw[e1] at h1 h2;exact⟨g,o,e,h1,h2⟩
 have Cc:wT (∀v,v<C V ->∀U:E,da w U ->∃B7 cs,U.cell? ⟨j,n+v*2+1,N⟩=M (Z B7 (sz (ag V) v) cs)):=fun v P U B9=>by
  obtain⟨g,o,b,c,e,_,h1,h2,_⟩:=(h.Fd.aa B9) v P;cases e;rw[H4 P];exact⟨b,c,h2⟩
 have ax:wT (j<O (T w)):=by
  obtain⟨g,o,_,_,e,s,_⟩:=h.Fd 0 hp;cases e;exact s
 have ik:wT (∀v,1<=sz (ag V) v/\(v<C V ->sz (ag V) v<=1000)):=fun v=>⟨lp (xY h0) v,fun P=>by
  have h8:=((XO h0).1.len v P).2;rw[H4 P];exact aM h8 a6⟩
 have HD:=Fa hd;have kj:=Fa Bm.len;have Qf:=Fa Bm.lenR;have DM:=Bm.n8;have hA:rC w ((w.alloc (yM #[Z (M ⟨j,n,N⟩) (C V) ca,Z b (C L) cb,Z c (C R) cc] 26)).alloc (yM #[Z N 0 0,Z N 0 0,Z N 0 0] 26)) (Z (M ⟨j,n,N⟩) (C V) ca) (Z b (C L) cb) (Z c (C R) cc):=rC.begin w _ _ _;rw[wS] at GX⊢;clear h hs hF tr he hD Bm P hl hr h0 hd;go_enter func9,ntmps9;go_upto_region 1 with fail
 generalize ((w.alloc (yM #[Z (M ⟨j,n,N⟩) (C V) ca,Z b (C L) cb,Z c (C R) cc] 26)).alloc (yM #[Z N 0 0,Z N 0 0,Z N 0 0] 26))=W0 at *;have A:=Fa hA;obtain⟨i0,i1,i2⟩:=hA.cells;clear hA;go_wp2_with fail
 refine(GX.o _ A.o.bel).ae ?_;rintro e w1 ⟨rfl,q⟩;replace A:=Fa (A.o.step q);obtain⟨k0,k1,k2⟩:=A.o.cells;clear q i0 i1 i2 GX;go_wp2_with fail
 refine(yV.o _ A.o.bel).ae ?_;rintro e Ba ⟨gv,gp,gr,cv,Xv,Xp,Xr,rfl,hV,hP,hR,aR,bh,q⟩;have FO:O (T w)+2<=O (T w1):=A.o.res.lt;replace A:=Fa (A.o.step q);have K:da Ba (Ba.alloc (yM #[Z (M ⟨gv,0,N⟩) (C V) cv,Z (M ⟨gp,0,N⟩) (C L) (C L),Z (M ⟨gr,0,N⟩) (C R) (C R)] 26)):=(au _ Ba).alloc (ah _) _;have bk:O (T w)+2<=O (T Ba):=aM FO q.size;have bB:=cj.at (w:=Ba) rfl (Z (M ⟨gv,0,N⟩) (C V) cv) (Z (M ⟨gp,0,N⟩) (C L) (C L)) (Z (M ⟨gr,0,N⟩) (C R) (C R));obtain⟨gm,qp⟩:∃g,O (T Ba)=g:=⟨_,rfl⟩;obtain⟨w3,X⟩:∃U,Ba.alloc (yM #[Z (M ⟨gv,0,N⟩) (C V) cv,Z (M ⟨gp,0,N⟩) (C L) (C L),Z (M ⟨gr,0,N⟩) (C R) (C R)] 26)=U:=⟨_,rfl⟩
 have kZ:wT (fB w gm gv gp gr cv (Z (M ⟨j,n,N⟩) (C V) ca) (Z b (C L) cb) (Z c (C R) cc) V (fZ (d.take 0) L) (fO V (d.take 0) (di R)) (C L) (C R) Xv Xp Xr w3):=by
  have Bj:=slv N 0 0;refine⟨by rw[<- X];exact A.o.step K,by rw[<- X, <- qp];exact bB,?_,?_,?_,rfl,cY _,aR,⟨al,al,al,al⟩⟩
  ·rw[<- X];exact(hV.with_net A.o.res Bj Bj Bj).aa K
  ·rw[<- X];exact(hP.with_net A.o.res Bj Bj Bj).aa K
  ·rw[<- X];exact(hR.with_net A.o.res Bj Bj Bj).aa K
 have ay:=Fa X;have Vf:=Fa qp;clear hV hP hR aR bh q FO K bk bB qp X A k0 k1 k2 yV;go_wp2_with fail
 simp only[ay.o,Vf.o];go_loopw [21] (fun kv wr=>∃(i:Nat) (Xp Xr:List wF),i<=C d/\kv=J I i/\wT (fB w gm gv gp gr cv (Z (M ⟨j,n,N⟩) (C V) ca) (Z b (C L) cb) (Z c (C R) cc) V (fZ (d.take i) L) (fO V (d.take i) (di R)) (C L) (C R) Xv Xp Xr wr)) (fun kv _=>C d - (intOf kv).toNat)
 case atStart=>exact⟨0,_,_,aV _,rfl,kZ⟩
 case round=>
  obtain⟨i,bc,bf,hi,rfl,H⟩:=hrel;clear kZ ay Vf;by_cases ai:i<C d
  ·obtain⟨gf,of,rfl,c0,c1⟩:=bb.o i ai wr H.o.a.bel;have Yn:=HD.o.lt d[i] (bU ai);have Yl:=HD.o.val d[i] (bU ai);have Y:wT (fZ (d.take (i+1)) L=(fZ (d.take i) L).set d[i].1 []/\fO V (d.take (i+1)) (di R)=(fO V (d.take i) (di R)).set d[i].1 (rI (sz (ag V) d[i].1) d[i].2)):=⟨adz _ d L ai,adz _ d (di R) ai⟩;obtain⟨x,Q⟩:∃x,d[i].1=x:=⟨_,rfl⟩;obtain⟨y,hy⟩:∃y,d[i].2=y:=⟨_,rfl⟩;rw[Q] at c0 Yn Yl Y;rw[hy] at c1 Yl Y;(have vd:x<C L:=by have:=kj.o;omega);(have Yo:x<C R:=by have:=Qf.o;omega);have jT:=Fa (fun (U:E)=>ati (sz (ag V) x) y U (ik.o x).1 ((ik.o x).2 Yn) Yl);have K:da wr (wr.alloc (yM #[J I (x:Nat),J I (y:Nat)] 30)):=(au _ wr).alloc (ah _) _;have fJ:(wr.alloc (yM #[J I (x:Nat),J I (y:Nat)] 30)).heap[O (T wr)]? =M (yM #[J I (x:Nat),J I (y:Nat)] 30 (0,0)):=dU wr _;have bg:=H.o.lts;obtain⟨m,s⟩:∃g,O (T wr)=g:=⟨_,rfl⟩;obtain⟨t,ZB⟩:∃U,wr.alloc (yM #[J I (x:Nat),J I (y:Nat)] 30)=U:=⟨_,rfl⟩;(have S8:m≠gr:=al);(have YZ:m≠gp:=al)
   have ir:wT (fB w gm gv gp gr cv (Z (M ⟨j,n,N⟩) (C V) ca) (Z b (C L) cb) (Z c (C R) cc) V (fZ (d.take i) L) (fO V (d.take i) (di R)) (C L) (C R) Xv bc bf t):=by
    show fB _ _ _ _ _ _ _ _ _ _ _ _ _ _ _ _ _ _;rw[<- ZB];exact H.o.step K
   rw[s,ZB] at fJ;have Bb:=Fa fJ;have GL:=Fa S8;obtain⟨n0,n1,n2⟩:=ir.o.box.cells;obtain⟨⟨qy,q0⟩,q1⟩:=ir.o.cellP vd;(have v0:t.cell? ⟨m,0,N⟩=M (J I (x:Nat)):=by rw[ba t m 0 _ _ (0,0) fJ];rfl);have F:=Fa (ir.o.setP (k:=x) (l:=[]) (b:=N) (c:=0) (fun k Bm=>absurd Bm aE) (fun _=>rfl) (fun g o e=>by cases e));have az:wT ((t.setCell ⟨gp,x,N⟩ (Z N 0 0)).heap[m]? =M (yM #[J I (x:Nat),J I (y:Nat)] 30 (0,0))):=(eW t ⟨gp,x,N⟩ _ m YZ).trans fJ;(have Yp:(x:Int)<(C L:Int):=al);(have bo:(x:Int)<(C R:Int):=al);(have bm:(x:Int)<(C V:Int):=al);(have Dw:i<1000:=al);clear K fJ bg S8 YZ H Q hy;go_upto_region 9 with fail
   clear s ZB;have O1:=((au (O (T (t.setCell ⟨gp,x,N⟩ (Z N 0 0)))) (t.setCell ⟨gp,x,N⟩ (Z N 0 0))).drew);obtain⟨B7,cs,ad⟩:=Cc.o x Yn _ (F.o.step O1).a.bel;have H:=Fa (F.o.step O1);have Vh:wT ((t.setCell ⟨gp,x,N⟩ (Z N 0 0)).drew.heap[m]? =M (yM #[J I (x:Nat),J I (y:Nat)] 30 (0,0))):=az.o;have mH:=Fa ad;refine iK (S:=fun u=>(u.cell? ⟨gm,2,N⟩=M (Z (M ⟨gr,0,N⟩) (C R) (C R))/\u.cell? ⟨O (T w),0,N⟩=M (Z (M ⟨j,n,N⟩) (C V) ca))/\u.cell? ⟨m,0,N⟩=M (J I (x:Nat))/\u.cell? ⟨m,1,N⟩=M (J I (y:Nat))/\u.cell? ⟨j,n+x*2+1,N⟩=M (Z B7 (sz (ag V) x) cs)) ao ⟨⟨H.o.box.cells.2.2,H.o.a.cells.1⟩,by rw[ba _ m 0 _ _ (0,0) Vh.o];rfl,by rw[ba _ m 1 _ _ (0,0) Vh.o];rfl,mH.o⟩ (fun aq=>?_);clear O1 ad F Bb az ir q0 q1 v0 n0 n1 n2 c0 c1;generalize (t.setCell ⟨gp,x,N⟩ (Z N 0 0)).drew=z1 at *;have Bb:=Vh;clear Vh;have av:wT (O (T w)<=O (T z1)):=H.o.a.bel.size;(have Qp:wT (j≠gr):=by have:=H.o.low;have:=ax.o;show j≠gr;omega);refine ar 0 (zR (M ⟨gm,2,N⟩)) ?_;(try simp only[gE,aP]);refine cU 1 (Z (M ⟨gr,0,N⟩) (C R) (C R)) ?_ ?_
   ·intro u' Bh;try simp only[gE];obtain⟨⟨s1,s2⟩,s3,s4,s5⟩:=Bh;go_simp
   refine ar 2 (zR (M ⟨m,0,N⟩)) ?_;(try simp only[gE,aP]);refine cU 3 (J I (x:Nat)) ?_ ?_
   ·intro u' Bh;try simp only[gE];obtain⟨⟨s1,s2⟩,s3,s4,s5⟩:=Bh;go_simp
   refine ar 4 (zR (M ⟨O (T w),0,N⟩)) ?_;(try simp only[gE,aP]);refine cU 5 (Z (M ⟨j,n,N⟩) (C V) ca) ?_ ?_
   ·intro u' Bh;try simp only[gE];obtain⟨⟨s1,s2⟩,s3,s4,s5⟩:=Bh;go_simp
   refine ar 6 (zR (M ⟨m,0,N⟩)) ?_;(try simp only[gE,aP]);refine cU 7 (J I (x:Nat)) ?_ ?_
   ·intro u' Bh;try simp only[gE];obtain⟨⟨s1,s2⟩,s3,s4,s5⟩:=Bh;go_simp
   refine ar 8 (zR (M ⟨j,n+x*2,N⟩)) ?_;refine ar 9 (zR (M ⟨j,n+x*2+1,N⟩)) ?_;(try simp only[gE,aP]);refine cU 10 (Z B7 (sz (ag V) x) cs) ?_ ?_
   ·intro u' Bh;try simp only[gE];obtain⟨⟨s1,s2⟩,s3,s4,s5⟩:=Bh;go_simp
   refine ar 11 (J I (sz (ag V) x:Nat)) ?_;refine ar 12 (zR (M ⟨m,1,N⟩)) ?_;(try simp only[gE,aP]);refine cU 13 (J I (y:Nat)) ?_ ?_
   ·intro u' Bh;try simp only[gE];obtain⟨⟨s1,s2⟩,s3,s4,s5⟩:=Bh;go_simp
   refine aF [14] (cA ?_ aG);intro K' ab;go_simp;refine(jT.o _).ae ?_;rintro e z ⟨G,rfl,hG,a1,q⟩;have hB:=H.o.lts;have cD:=H.o.a.res.lt;replace H:=Fa (H.o.step q);replace Bb:=Fa ((q.block _ (cS.1 Bb.o).1).trans Bb.o);have ad:=(q.cell (p:=⟨j,n+x*2+1,N⟩) (aT ax.o av.o)).trans mH.o;have an:=Fa ad;have F:=Fa (H.o.setR (k:=x) a1.fr (Nat.le_of_eq (H5 _ _)) (Sl (B:=O (T z1)) (fun g o e=>by cases e;exact hG) fun g s=>by simp only[bY,gK,jq] at s;omega));rw[H5] at F;have Gw:wT ((z.cell? ⟨gm,2,N⟩=M (Z (M ⟨gr,0,N⟩) (C R) (C R))/\z.cell? ⟨O (T w),0,N⟩=M (Z (M ⟨j,n,N⟩) (C V) ca))/\z.cell? ⟨m,0,N⟩=M (J I (x:Nat))/\z.cell? ⟨m,1,N⟩=M (J I (y:Nat))/\z.cell? ⟨j,n+x*2+1,N⟩=M (Z B7 (sz (ag V) x) cs)):=⟨⟨H.o.box.cells.2.2,H.o.a.cells.1⟩,by rw[ba z m 0 _ _ (0,0) Bb.o];rfl,by rw[ba z m 1 _ _ (0,0) Bb.o];rfl,an.o⟩;refine ab.o _ _ Gw.o (fun ak=>?_);clear ab K' aq a1 q hB cD hG ad;obtain⟨⟨qy,q0⟩,q1⟩:=H.o.cellR Yo;refine ar 15 (zR (M ⟨gr,x,N⟩)) ?_;refine aF [16] (cA ?_ aG);intro K' ab;go_simp;refine ab.o _ _ ⟨⟨F.o.box.cells.2.2,F.o.a.cells.1⟩,by rw[ba _ m 0 _ _ (0,0) ((eW z ⟨gr,x,N⟩ _ m GL.o).trans Bb.o)];rfl,by rw[ba _ m 1 _ _ (0,0) ((eW z ⟨gr,x,N⟩ _ m GL.o).trans Bb.o)];rfl,(iM (eW z ⟨gr,x,N⟩ _ j Qp.o)).trans an.o⟩ (fun I1=>?_);clear ab K' ak I1 q0 q1 Gw Bb an H jT
   generalize (z.setCell ⟨gr,x,N⟩ (Z (M ⟨G,0,N⟩) (sz (ag V) x) (sz (ag V) x)))=z3 at *;(try simp only[gE,aP]);refine eO ao ?_ _
   obtain⟨XP,XR,HD⟩:∃XP XR,wT (fB w gm gv gp gr cv (Z (M ⟨j,n,N⟩) (C V) ca) (Z b (C L) cb) (Z c (C R) cc) V (fZ (d.take (i+1)) L) (fO V (d.take (i+1)) (di R)) (C L) (C R) Xv XP XR z3):=by
    have h9:=F.o;rw[<- Y.o.1, <- Y.o.2] at h9;exact⟨_,_,h9⟩
   clear F Y mH av;go_wp2_with fail
   go_roundw
   case rel=>exact⟨i+1,XP,XR,al,bd,HD⟩
   case measure=>simp[intOf];omega
  ·have OG:i=C d:=al
   rw[OG,iD] at H;have aj:=H.o.a.res;have f0:=gj _ (O (T w)+1) 0 _ _ aj;have f1:=gj _ (O (T w)+1) 1 _ _ aj;have f2:=gj _ (O (T w)+1) 2 _ _ aj;obtain⟨n0,n1,n2⟩:=H.o.box.cells;obtain⟨r0,r1,r2⟩:=H.o.a.res.cells;have bp:=H.o.low;clear OG;go_wp2_with fail
   refine dI (cj.result2' (((aj.set0 _).set1 _).set2 _) rfl _ rfl) rfl ?_;have Q:=(((eK.refl [O (T w)+1] wr).put (b:=O (T w)+1) (yd aE) 0 (Z (M ⟨gv,0,N⟩) (C V) cv)).put (b:=O (T w)+1) (yd aE) 1 (Z (M ⟨gp,0,N⟩) (C L) (C L))).put (b:=O (T w)+1) (yd aE) 2 (Z (M ⟨gr,0,N⟩) (C R) (C R));(have Dk:=Q.more (hs:=[gv,gp,gr,O (T w)+1]) fun g s=>by rw[bA.1 s];simp);have Yw:=H.o.v.keep Dk (Q.block gv H.o.lts.1 (by simp;omega));have aY:=H.o.p.keep Dk (Q.block gp H.o.lts.2.1 (by simp;omega));have vk:=H.o.r.keep Dk (Q.block gr H.o.lts.2.2 (by simp;omega));refine⟨M ⟨gv,0,N⟩,M ⟨gp,0,N⟩,M ⟨gr,0,N⟩,cv,C L,C R,?_,⟨Yw.Fd,aY.pars,vk.rows⟩,aY.lsn,Q.low H.o.a.bel fun g s=>by rw[bA.1 s];omega⟩;rw[H.o.nl,H.o.nr];rfl
theorem atn (a b c f:Kd) (ca cb cc g:Nat) (V:List Vr) (L:List Kx) (R:List (List Fr)) (D:List (Int×Int)) (w:E) (h:jo w a b c V L R) (hs:tD V L R) (F:kn w f D) (o:C D<=1000) (r:C D<=g) (k:mo V L R D=0):
  c6 9 #[zd #[Z a (C V) ca,Z b (C L) cb,Z c (C R) cc],Z f (C D) g] w fun e w'=>∃(i d j:Kd) (y Bb p:Nat),e=yW (zp #[zd #[Z i (C V) y,Z d (C (fZ (nF D) L)) Bb,Z j (C (fO V (nF D) (di R))) p],J I 0])/\jo w' i d j V (fZ (nF D) L) (fO V (nF D) (di R))/\pP w' d (fZ (nF D) L)/\da w w':=by
 obtain⟨m,z,n⟩:=Ua k;obtain⟨l,q,_,_,rfl,_⟩:=h.Fd 0 (ahW m hs).1;exact ato l q b c f ca cb cc g V L R D (nF D) w h hs F o r k z n
theorem alX (a:Kd) (cap:Nat) (l:List Fr) (w:E) (h:dH w a l) (A:∀k (h:k<C l),l[k].2.1.size+l[k].2.2.size<=40000) (Bm:∀k,k<=C l ->qw (bH (l.take k))<=40000) (X:C l<=10000):
  c6 28 #[Z a (C l) cap] w (dj w (B1 (bH l))):=by
 have F:=aD h;clear h;have D:wT (bH (l.take (C l))=bH l):=by show _=_;rw[iD]
 have B9:=aD (fun V=>Xa 0 V al al);rw[MD] at B9;go_enter func28,ntmps28;have r:=aL.at (w:=w) rfl xd ⟨#[]⟩ ⟨#[]⟩;have b:da w (w.alloc (FC xd ⟨#[]⟩ ⟨#[]⟩)):=(au _ w).alloc (ah _) _;go_wp2_with fail
 refine(B9.o _).ae ?_;rintro e q ⟨rfl,f⟩;have s:=r.aa f r.lt;have d:da w q:=b.trans (f.ae b.size);clear r b f;rw[p7];go_wp2_with fail
 have ab:=s.lt;go_loopw [4] (fun iv wr=>∃k:Nat,k<=C l/\iv=J I k/\wT (aL wr (O (T q)) (aW (bH (l.take k))) (nu (bH (l.take k))) (de (bH (l.take k))))/\wT (aL wr (O (T w)) xd ⟨#[]⟩ ⟨#[]⟩)/\da w wr) (fun iv _=>C l - (intOf iv).toNat)
 case atStart=>exact⟨0,aV _,rfl,aL.at rfl _ _ _,s.alloc _,d.alloc d.size _⟩
 case round=>
  obtain⟨k,z,rfl,S,H,c⟩:=hrel;by_cases t:k<C l
  ·obtain⟨g,o,rfl,U,P,Q,R⟩:=(F.o.aa c) k t;have x:=take_one t;have Bb:=A k t;have Bh:=Bm k z;have Bj:=wG (bH (l.take k));have y:=aD (fun V=>amg (aW (bH (l.take k))) l[k].1 (nu (bH (l.take k))) (de (bH (l.take k))) l[k].2.1 l[k].2.2 V al al);rw[kr,show val l[k].1 l[k].2.1 l[k].2.2=dr l[k] from rfl, <- x] at y;have u:=S.o;clear S x Bb Bh Bj;generalize l[k].1=fn at *;generalize l[k].2.1=fx at *;generalize l[k].2.2=fy at *;obtain⟨m,n,p,f0,f1,j⟩:=u.facts;have Ba:=u.lt;go_upto_region 5 with fail
   go_region_with (
     (go_at_call 71;refine(y.o _).ae ?_;rintro e w2 ⟨rfl,i⟩;have v:=u.drew.aa i u.lt;have L:=(aL.drew H.o).aa i H.o.lt;have K:=c.drew.trans (i.ae c.size);obtain⟨m,n,p,f0,f1,j⟩:=v.facts;rw[p7]))
   all_goals
    go_wp2;go_roundw
    case rel=>exact⟨k+1,al,bd,v.put _ _ _,L.far3 al _ _ _,eT K d.size _ _ _⟩
    case measure=>simp[intOf];omega
  ·obtain rfl:k=C l:=al
   have u:=S.o;rw[D.o] at u;obtain⟨m,n,p,f0,f1,j⟩:=u.facts;obtain⟨j0,j1,j2,Y,B7,i2⟩:=H.o.facts;go_wp2;refine dI ((H.o.put _ _ _).result rfl _ rfl) rfl ?_;exact⟨rfl,eT c (ah _) _ _ _⟩
theorem apF (a:Kd) (ca f:Nat) (lb:Array wF) (F:Kx) (p:Int ->Bool) (w:E) (h:aB w a F) (K:C F<=1000) (Bh:∀u w,(callFunc f u).run prog w=.ok (.enter f u) w)
  (s:∀q∈F,∀U:E,da w U ->c6 f (#[J I q]++lb) U fun e w'=>e=yW (zZ (p q))/\da U w'):
  c6 149 #[Z a (C F) ca,.func (.func f) #[] lb] w fun e w'=>∃j:Int,e=yW (J I j)/\decide (0<=j)=F.any p/\da w w':=by
 have v:=Fa h;have P:=Fa s
 have z:wT ((∀i (c:i<C F),p F[i]=xd) ->F.any p=xd):=fun d=>JX.2 fun q y=>by
  obtain⟨i,c,rfl⟩:=iE y;rw[d i c];decide
 have D:wT (∀i (c:i<C F),p F[i]=y6 ->F.any p=y6):=fun i c d=>rF.2 ⟨_,bU c,d⟩;clear h s;generalize F.any p=R at *;go_enter func149,ntmps149;go_wp2_with fail
 go_loopw [8] (fun iv wr=>∃i:Nat,i<=C F/\iv=J I i/\wT (∀j (b:j<C F),j< i ->p F[j]=xd)/\wT (da w wr)) (fun iv _=>C F - (intOf iv).toNat)
 case atStart=>exact⟨0,aV _,rfl,(fun j _ b=>absurd b al),au _ _⟩
 case round=>
  obtain⟨i,c,rfl,m,H⟩:=hrel;by_cases l:i<C F
  ·obtain⟨g,o,rfl,x,n⟩:=v.o i l;have L:=(H.o.cell (p:=⟨g,_,N⟩) x).trans n;have k:=Fa (P.o F[i] (bU l) wr H.o);have Bj:=Fa (D.o i l)
   have A:wT (p F[i]=xd ->∀j (b:j<C F),j<i+1 ->p F[j]=xd):=fun e j b B9=>by
    rcases dX j i with r |r
    ·exact m.o j b r
    ·obtain rfl:j=i:=al
     exact e
   clear n;generalize p F[i]=q at *;generalize F[i]=f1 at *;go_wp2_with fail
   refine k.o.ae ?_;rintro e Bb ⟨rfl,t⟩;have Y:=Fa (H.o.trans (t.ae H.o.size));clear t k;cases q with
   |true=>
    have Bm:=Fa (Bj.o rfl);go_wp2;go_ret;exact⟨(i:Nat),rfl,by rw[Bm.o];simp,Y.o⟩
   |false=>
    have Bm:=Fa (A.o rfl);go_wp2;go_roundw
    case rel=>exact⟨i+1,al,bd,Bm,Y⟩
    case measure=>simp[intOf];omega
  ·obtain rfl:i=C F:=al
   have Bm:=Fa (z.o fun j b=>m.o j b b);go_wp2;go_ret;exact⟨-1,rfl,by rw[Bm.o];rfl,H.o⟩
theorem asK (a:Kd) (ca f:Nat) (lb:Array wF) (F:Kx) (p:Int ->Bool) (w:E) (h:aB w a F) (n:C F<=1000) (i:∀g w,(callFunc f g).run prog w=.ok (.enter f g) w)
  (c:∀q∈F,∀U:E,da w U ->c6 f (#[J I q]++lb) U fun e w'=>e=yW (zZ (p q))/\da U w'):
  c6 93 #[Z a (C F) ca,.func (.func f) #[] lb] w (dj w (zZ (F.any p))):=by
 have Bj:=Fa (apF a ca f lb F p w h n i c);clear h c;generalize F.any p=R at *;go_enter func93,ntmps93;go_wp2_with fail
 refine Bj.o.ae ?_;rintro e k ⟨j,rfl,b,d⟩;have H:=Fa d;have Bh:=Fa b;clear d b;go_wp2;go_ret;exact⟨by rw[<- Bh.o];rfl,H.o⟩
theorem amu (a:Kd) (ca:Nat) (F:List (Int×Int)) (v:Int) (B:Nat) (w:E) (h:kn w a F) (n:C F<=1000) (c:w.cell? ⟨B,0,N⟩=M (Z a (C F) ca)):
  c6 94 #[J I v,zR (M ⟨B,0,N⟩)] w (dj w (zZ (F.any fun p=>p.1==v))):=by
 have Bj:=Fa (Ye a ca F v w h n);clear h;generalize (F.any fun p=>p.1==v)=R at *;go_enter func94,ntmps94;go_wp2_with fail
 refine Bj.o.ae ?_;rintro e d ⟨rfl,b⟩;have H:=Fa b;clear b;go_wp2;go_ret;exact⟨rfl,H.o⟩
theorem afw (a b c q f:Kd) (ca cb cc k d:Nat) (V:List Vr) (L:List Kx) (R:List (List Fr)) (Q:Kx) (F:List (Int×Int)) (w:E) (h:AA w a b c V L R) (hq:aB w q Q) (hQ:C Q<=1000) (hF:kn w f F) (hn:C F<=1000) (tr:C F<=d) (m:wE V L R Q F=0):
  c6 44 #[zd #[Z a (C V) ca,Z b (C L) cb,Z c (C R) cc],Z q (C Q) k,Z f (C F) d] w fun e w'=>yK (lU V L R Q F).1 (lU V L R Q F).2 0 e w'/\da w w':=by
 have S:Gj V L R Q F=0:=by
  by_cases e:Gj V L R Q F=0
  ·exact e
  ·rw[wE,aC e] at m;exact absurd m e
 have av:bH (bL V L R Q (nF F)).2≠0:=fun e=>by rw[wE,aw S,aw e] at m;cases m
 have A:mo V L R F=0:=by
  by_cases e:mo V L R F=0
  ·exact e
  ·rw[Gj,aC e] at S;exact absurd S e
 rw[Gj,aw A] at S
 have l:(mq (iL (ag V)) Q).2=0:=by
  by_cases e:(mq (iL (ag V)) Q).2=0
  ·exact e
  ·rw[aC e] at S;exact absurd S e
 rw[aw l] at S
 have Ld:(F.any fun p=>lB p.1 Q)=false:=by
  cases e:F.any fun p=>lB p.1 Q with
  |false=>rfl
  |true=>rw[e,aw rfl] at S;cases S
 have GX:=Fa (fun (U:E) (i:da w U)=>Yd a b c f ca cb cc d V L R F U (h.net.aa i) h.sm (hF.aa i) hn tr);rw[A] at GX;have ik:=Fa (fun (U:E) (i:da w U)=>NF a b c ca cb cc (C L) (C R) V U (h.net.aa i).Fd h.sm.Fd.1)
 have Mw:wT (∀(G:Nat) (U:E),da w U ->cP U G (ag V) ->c6 92 #[Z (M ⟨G,0,N⟩) (C V) (C V),Z q (C Q) k] U fun e w'=>e=yW (zp #[J I (mq (iL (ag V)) Q).1,J I (mq (iL (ag V)) Q).2])/\da U w'):=fun G U i hi=>by
  have Y:C (iL (ag V))=C V:=by rw[bR,lq]
  have a1:=h.sm.Fd.1;have:=Rx (M ⟨G,0,N⟩) q (C V) k (iL (ag V)) Q U hi.ints (hq.aa i) (by rw[Y];omega) al;rwa [Y] at this
 have GZ:wT (∀(B:Nat) (U:E),da w U ->B<O (T U) ->U.cell? ⟨B,0,N⟩=M (Z f (C F) d) ->c6 93 #[Z q (C Q) k,.func (.func 94) #[] #[zR (M ⟨B,0,N⟩)]] U fun e w'=>e=yW (zZ (F.any fun p=>lB p.1 Q))/\da U w'):=fun B U i hB l=>by
  rw[atP];exact asK q k 94 #[zR (M ⟨B,0,N⟩)] Q (fun v=>F.any fun p=>p.1==v) U (hq.aa i) hQ (enters_of func94 ao rfl) (fun v _ U' Tu=>amu f d F v B U' ((hF.aa i).aa Tu) hn ((Tu.cell (p:=⟨B,0,N⟩) hB).trans l))
 have Z0:mo V L R F=0 ->(mq (iL (ag V)) Q).2=0 ->aS V L R=0/\F=zF (nF F)/\fL (ag V) (C V) (nF F)/\Up Q (C V):=fun e e2=>by
  obtain⟨e1,e3,e4⟩:=Ua e;exact⟨e1,e3,e4,asH e2⟩
 have P8:wT (∀U:E,da w U ->c6 95 #[zd #[Z a (C V) ca,Z b (C L) cb,Z c (C R) cc],Z q (C Q) k,Z f (C F) d] U fun e w'=>∃x y,e=yW (zd #[x,y])/\bJ w' x y (bL V L R Q (nF F))/\da U w'):=fun U i=>by
  obtain⟨j,hz,hl,u⟩:=Z0 A l;have h1:=hF.aa i;have e3:=Ld;rw[hz] at h1 e3;have an:=h.aa i;have:=apH a b c q f ca cb cc k d V L R Q (nF F) U an.net an.ls h.sm h.wt j h.lt (hq.aa i) u h1 hl (atL u e3) (fun U' Tu=>ah7 a b c ca cb cc V L R U' Tu h.sm);rw[<- AY, <- hz] at this;exact this
 have iR:wT (∀(G:Nat) (x y:wF) (U:E),cP U G (ag V) ->bJ U x y (bL V L R Q (nF F)) ->c6 63 #[Z (M ⟨G,0,N⟩) (C V) (C V),zd #[x,y]] U fun e w'=>yK (lU V L R Q F).1 (lU V L R Q F).2 0 e w'/\da U w'):=fun G x y U hi Dm=>by
  obtain⟨j,hz,hl,u⟩:=Z0 A l;have Y:C (iL (ag V))=C V:=by rw[bR,lq]
  have h8:=(gY j).n8;have h5:=Wo j u (nF F) (h.few j);have aR:=aj7 j u (nF F);obtain⟨b',c',eM,jm,rfl,rfl,h1,h2,_⟩:=Dm;rw[lU,aw m];have:=akq (M ⟨G,0,N⟩) b' c' (C V) eM jm (iL (ag V)) Q (bL V L R Q (nF F)).2 U hi.ints h1 h2 (by rw[Y];omega) al aR (Wq j h.lt Q (nF F)) (Wn j h.lt u (nF F)) al av;rwa [Y] at this
 rw[l] at Mw;rw[Ld] at GZ;generalize lU V L R Q F=t at *;generalize bL V L R Q (nF F)=TT at *;clear h hq hF Z0 tr S av A l Ld m;have nB:=(au (O (T w)) w).alloc (ah _) (NC (Z a (C V) ca) (Z b (C L) cb) (Z c (C R) cc));have fY:=nB.alloc nB.size (yM #[Z f (C F) d] 28);have B7:=Fa (fY.alloc fY.size (TC (Z N 0 0) (Z N 0 0)));have ax:O (T (w.alloc (NC (Z a (C V) ca) (Z b (C L) cb) (Z c (C R) cc))))=O (T w)+1:=aE
 have ay:O (T ((w.alloc (NC (Z a (C V) ca) (Z b (C L) cb) (Z c (C R) cc))).alloc (yM #[Z f (C F) d] 28)))=O (T w)+1+1:=aE
 have Bb:wT (cj (((w.alloc (NC (Z a (C V) ca) (Z b (C L) cb) (Z c (C R) cc))).alloc (yM #[Z f (C F) d] 28)).alloc (TC (Z N 0 0) (Z N 0 0))) (O (T w)) (Z a (C V) ca) (Z b (C L) cb) (Z c (C R) cc)):=by
  have hN:=cj.at (w:=w) rfl (Z a (C V) ca) (Z b (C L) cb) (Z c (C R) cc);have Af:=hN.aa ((au _ _).alloc (ah _) (yM #[Z f (C F) d] 28)) hN.lt;exact Af.aa ((au _ _).alloc (ah _) (TC (Z N 0 0) (Z N 0 0))) Af.lt
 have Eh:wT (Boxed (((w.alloc (NC (Z a (C V) ca) (Z b (C L) cb) (Z c (C R) cc))).alloc (yM #[Z f (C F) d] 28)).alloc (TC (Z N 0 0) (Z N 0 0))) (O (T w)+1) 28 (Z f (C F) d)):=by
  have:=(bF (w.alloc (NC (Z a (C V) ca) (Z b (C L) cb) (Z c (C R) cc))) 28 (Z f (C F) d)).alloc (TC (Z N 0 0) (Z N 0 0));rwa [ax] at this
 have nM:wT (aZ (((w.alloc (NC (Z a (C V) ca) (Z b (C L) cb) (Z c (C R) cc))).alloc (yM #[Z f (C F) d] 28)).alloc (TC (Z N 0 0) (Z N 0 0))) (O (T w)+1+1) (Z N 0 0) (Z N 0 0)):=aZ.at (w:=(w.alloc (NC (Z a (C V) ca) (Z b (C L) cb) (Z c (C R) cc))).alloc (yM #[Z f (C F) d] 28)) ay _ _;obtain⟨D,H,Bj⟩:=Bb.o.cells;have x0:=Eh.o.cell;clear nB fY ax ay;go_enter func44,ntmps44;go_wp2_with fail
 generalize (((w.alloc (NC (Z a (C V) ca) (Z b (C L) cb) (Z c (C R) cc))).alloc (yM #[Z f (C F) d] 28)).alloc (TC (Z N 0 0) (Z N 0 0)))=W0 at *;refine(GX.o W0 B7.o).ae ?_;rintro e w2 ⟨rfl,Bh⟩;have aY:=Fa (B7.o.trans (Bh.ae B7.o.size));have pS:=Fa (Bb.o.aa Bh Bb.o.lt);have rp:=Fa (bI Eh.o Bh);have gQ:=Fa (nM.o.aa Bh nM.o.lt);clear D H Bj x0 Bh B7 Bb Eh nM GX;obtain⟨D,H,Bj⟩:=pS.o.cells;go_wp2_with fail
 refine(ik.o w2 aY.o).ae ?_;rintro e w3 ⟨G,rfl,hG,ai,K⟩;have eo:=Fa (aY.o.trans (K.ae aY.o.size));have Mn:=Fa (pS.o.aa K pS.o.lt);have tE:=Fa (bI rp.o K);have jF:=Fa (gQ.o.aa K gQ.o.lt);have aj:=Fa (Mw.o G w3 eo.o ai);have yU:=Fa ai;clear D H Bj K ai hG aY pS rp gQ ik Mw;generalize (mq (iL (ag V)) Q).1=c1 at *;go_wp2_with fail
 refine aj.o.ae ?_;rintro e w4 ⟨rfl,n⟩;have fA:=Fa (eo.o.trans (n.ae eo.o.size));have Cp:=Fa (Mn.o.aa n Mn.o.lt);have X:=Fa (bI tE.o n);have jU:=Fa (jF.o.aa n jF.o.lt);have ab:=Fa (yU.o.aa n yU.o.lt);clear n eo Mn tE jF yU aj;have Cv:=Fa (GZ.o (O (T w)+1) w4 fA.o X.o.lt X.o.cell);clear GZ;go_wp2_with fail
 refine Cv.o.ae ?_;rintro e w5 ⟨rfl,r⟩;have fp:=Fa (fA.o.trans (r.ae fA.o.size));have Ju:=Fa (Cp.o.aa r Cp.o.lt);have yL:=Fa (bI X.o r);have xF:=Fa (jU.o.aa r jU.o.lt);have qL:=Fa (ab.o.aa r ab.o.lt);clear r fA Cp X jU ab Cv;have yN:=Fa (P8.o w5 fp.o);obtain⟨D,H,Bj⟩:=Ju.o.cells;have x0:=yL.o.cell;go_wp2_with fail
 refine yN.o.ae ?_;rintro e w6 ⟨x,y,rfl,B9,iQ⟩;have vV:=Fa (fp.o.trans (iQ.ae fp.o.size));have ad:=Fa (xF.o.aa iQ xF.o.lt);have ak:=Fa (iR.o G x y w6 (qL.o.aa iQ qL.o.lt) B9);obtain⟨xs,xn,xc,rfl⟩:=B9.slices.1;obtain⟨ys,yn,yc,rfl⟩:=B9.slices.2;clear D H Bj x0 B9 iQ fp Ju yL xF qL yN;go_wp2_with fail
 refine ak.o.ae ?_;rintro e w7 ⟨⟨s,z,P,Bm,rfl,FQ,aq⟩,eR⟩;have Ba:=ad.o.aa eR ad.o.lt;have Ak:=vV.o.trans (eR.ae vV.o.size);obtain⟨t0,t1,f0,f1⟩:=Ba.facts;have aJ:=Fa (Ba.put (Z s t.1.length P) (Z z t.2.length Bm));have aI:=Fa (FQ.putT Ba (slv _ _ _) (slv _ _ _) (slv s t.1.length P) (Z z t.2.length Bm));have az:=Fa (aq.putT Ba (slv _ _ _) (slv _ _ _) (slv s t.1.length P) (Z z t.2.length Bm));have vU:=Fa (uF (g:=O (T w)+1+1) Ak al (Z s t.1.length P) (Z z t.2.length Bm));clear FQ aq eR Ba Ak ak ad vV;go_wp2;refine dI (aJ.o.result2 rfl _ rfl) rfl ?_;exact⟨⟨s,z,P,Bm,rfl,aI.o,az.o⟩,vU.o⟩
def Sz (D:List (Int×Int)) (Y:Kx) (F:List (Int×Int)):Bool:=D.any fun p=>Y.contains p.1 ||F.any fun q=>q.1==p.1
theorem aoW (q:Int×Int) (y f:Kd) (cy l:Nat) (Y:Kx) (F:List (Int×Int)) (B B1:Nat) (w:E) (u:B<O (T w)) (v:B1<O (T w)) (r:w.cell? ⟨B,0,N⟩=M (Z y (C Y) cy)) (i:w.cell? ⟨B1,0,N⟩=M (Z f (C F) l)) (n:aB w y Y) (Bh:C Y<=1000) (m:kn w f F) (x:C F<=1000):
  c6 97 #[zd #[J I q.1,J I q.2],zR (M ⟨B,0,N⟩),zR (M ⟨B1,0,N⟩)] w (dj w (zZ (Y.contains q.1 ||F.any fun p=>p.1==q.1))):=by
 obtain⟨a,b⟩:=q;show c6 97 #[zd #[J I a,J I b],zR (M ⟨B,0,N⟩),zR (M ⟨B1,0,N⟩)] w fun e w'=>e=yW (zZ (Y.contains a ||F.any fun p=>p.1==a))/\da w w';have h:=(au (O (T w)) w).alloc (ah _) (yM #[J I a,J I b] 30);have D:=(h.cell (p:=⟨B,0,N⟩) u).trans r;have kC:=(h.cell (p:=⟨B1,0,N⟩) v).trans i;have H:=Fa (fun (U:E) (g:da w U)=>acM y cy Y a U (n.aa g) al);have k:=Fa (fun (U:E) (g:da w U)=>Ye f l F a U (m.aa g) x);have j:(w.alloc (yM #[J I a,J I b] 30)).heap[O (T w)]? =M (yM #[J I a,J I b] 30 (0,0)):=dU w _;have z:(w.alloc (yM #[J I a,J I b] 30)).cell? ⟨O (T w),0,N⟩=M (J I a):=by rw[ba _ _ _ _ _ (0,0) j];rfl
 have A:=Fa h;have Bm:=Fa j;have Bj:=Fa i;clear r i n m h j;generalize Y.contains a=t at *;generalize (F.any fun p=>p.1==a)=b2 at *;go_enter func97,ntmps97;go_wp2_with fail
 refine(H.o _ A.o).ae ?_;rintro e K ⟨rfl,d⟩;subst d;have c:=A;clear H D Bm A Bj;cases t with
 |true=>
  go_wp2;go_ret;exact⟨rfl,c.o⟩
 |false=>
  go_wp2_with fail
  refine(k.o _ c.o).ae ?_;rintro e L ⟨rfl,d⟩;have s:=Fa (c.o.trans (d.ae c.o.size));clear d k c z kC;go_wp2;go_ret;exact⟨rfl,s.o⟩
theorem aoV (d y f:Kd) (a cy c:Nat) (D:List (Int×Int)) (Y:Kx) (F:List (Int×Int)) (w:E) (g:kn w d D) (u:C D<=1000) (j:aB w y Y) (t:C Y<=1000) (i:kn w f F) (v:C F<=1000):
  c6 45 #[Z d (C D) a,Z y (C Y) cy,Z f (C F) c] w (dj w (zZ (Sz D Y F))):=by
 have n:=(au (O (T w)) w).alloc (ah _) (yM #[Z y (C Y) cy] 27);have A:da w ((w.alloc (yM #[Z y (C Y) cy] 27)).alloc (yM #[Z f (C F) c] 28)):=n.alloc n.size _
 have x:((w.alloc (yM #[Z y (C Y) cy] 27)).alloc (yM #[Z f (C F) c] 28)).cell? ⟨O (T w),0,N⟩=M (Z y (C Y) cy):=by
  have b:=bF w 27 (Z y (C Y) cy);exact(((au _ (w.alloc (yM #[Z y (C Y) cy] 27))).alloc (ah _) (yM #[Z f (C F) c] 28)).cell (p:=⟨O (T w),0,N⟩) b.lt).trans b.cell
 have l:((w.alloc (yM #[Z y (C Y) cy] 27)).alloc (yM #[Z f (C F) c] 28)).cell? ⟨O (T w)+1,0,N⟩=M (Z f (C F) c):=by
  simp
 have s:O (T w)+1<O (T ((w.alloc (yM #[Z y (C Y) cy] 27)).alloc (yM #[Z f (C F) c] 28))):=aE
 have r:=Fa (ahX d a 97 #[zR (M ⟨O (T w),0,N⟩),zR (M ⟨O (T w)+1,0,N⟩)] D (fun p=>Y.contains p.1 ||F.any fun q=>q.1==p.1) _ (g.aa A) u (enters_of func97 ao rfl) (fun q _ U h=>aoW q y f cy c Y F (O (T w)) (O (T w)+1) U (by have:=h.size;omega) (by have:=h.size;omega) ((h.cell (p:=⟨O (T w),0,N⟩) (by show O (T w)<_;omega)).trans x) ((h.cell (p:=⟨O (T w)+1,0,N⟩) s).trans l) ((j.aa A).aa h) t ((i.aa A).aa h) v));have H:=Fa A;clear g A x l j i n s;show Calls _ _ _ _ fun e w'=>e=yW (zZ (D.any fun p=>Y.contains p.1 ||F.any fun q=>q.1==p.1))/\da w w';generalize (D.any fun p=>Y.contains p.1 ||F.any fun q=>q.1==p.1)=R at *;go_enter func45,ntmps45;go_wp2_with fail
 refine r.o.ae ?_;rintro e z ⟨rfl,k⟩;have m:=Fa (H.o.trans (k.ae H.o.size));clear k;go_wp2;go_ret;exact⟨rfl,m.o⟩
structure Vx (V:List Vr) (L:List Kx) (R:List (List Fr)) (d:List (Nat×Nat)):Prop where
 sm:tD V (fZ d L) (fO V d (di R))
 wt:∀l∈fO V d (di R),fw l<=4200
 lt:pX V (fO V d (di R))
theorem Sk {x:wF} (f:aZ U g x y) (i:bV x) (j:bV y) {b:Kd} (h:n≠0 ->∃g' o v,b=M ⟨g',o,N⟩/\U.cell? ⟨g',o,N⟩=M v/\¬bV v):pO [g] b n:=fun g' o e k m=>by
 obtain⟨l,p,v,a,c,d⟩:=h k;rw[e] at a;cases a;rw[bA.1 m] at c;rw[ba U g o _ _ (0,0) f] at c;match o,c with
 |0,c=>cases c;exact d i
 |1,c=>cases c;exact d j
 |o+2,c=>simp at c
structure y8 (w U:E) (x y z:wF):Prop where
 bx:cj U (O (T w)) x y z
 res:aZ U (O (T w)+1) (Z N 0 0) (Z N 0 0)
 bel:da w U
theorem y8.begin (w:E) (x y z:wF):y8 w ((w.alloc (yM #[x,y,z] 26)).alloc (yM #[Z N 0 0,Z N 0 0] 38)) x y z:=
 have a:Below (O (T (w.alloc (yM #[x,y,z] 26)))) (w.alloc (yM #[x,y,z] 26)) ((w.alloc (yM #[x,y,z] 26)).alloc (yM #[Z N 0 0,Z N 0 0] 38)):=(au _ _).alloc (ah _) _;have e:cj (w.alloc (yM #[x,y,z] 26)) (O (T w)) x y z:=cj.at (w:=w) rfl _ _ _;⟨e.aa a e.lt,by have:=dU (w.alloc (yM #[x,y,z] 26)) (yM #[Z N 0 0,Z N 0 0] 38);simpa [aZ] using this,((au _ w).alloc (ah _) _).alloc aE _⟩
theorem y8.step {x:wF} (h:y8 w U x y z) (b:da U U'):y8 w U' x y z:=⟨h.bx.aa b h.bx.lt,h.res.aa b h.res.lt,h.bel.trans (b.ae h.bel.size)⟩
theorem y8.cells {x:wF} (h:y8 w U x y z):U.cell? ⟨O (T w),0,N⟩=M x/\U.cell? ⟨O (T w),1,N⟩=M y/\U.cell? ⟨O (T w),2,N⟩=M z:=h.bx.cells
theorem y8.o {x:wF} (h:y8 w U x y z) (p q:wF):da w ((U.setCell ⟨O (T w)+1,0,N⟩ p).setCell ⟨O (T w)+1,1,N⟩ q)/\(∀(b:Kd) (l:Kx),aB U b l ->aB ((U.setCell ⟨O (T w)+1,0,N⟩ p).setCell ⟨O (T w)+1,1,N⟩ q) b l)/\(∀(b:Kd) (l:List Fr),dH U b l ->dH ((U.setCell ⟨O (T w)+1,0,N⟩ p).setCell ⟨O (T w)+1,1,N⟩ q) b l):=by
 have d:=((eK.refl [O (T w)+1] U).put (b:=O (T w)+1) (yd aE) 0 p).put (b:=O (T w)+1) (yd aE) 1 q;have hs:=slv N 0 0;refine⟨d.low h.bel fun g i=>by rw[bA.1 i];omega,fun b l a=>KR a (Sk h.res hs hs fun f=>?_) d,fun b l a=>Lv a (Sk h.res hs hs fun f=>?_) d⟩
 ·obtain⟨g',o,e,_,c⟩:=a 0 al;exact⟨g',o,_,e,c,Sn⟩
 ·obtain⟨g',o,e,_,c,_⟩:=a 0 al;rw[oN,jd] at c;exact⟨g',o,_,e,c,XJ⟩
theorem atm (a b c y d f:Kd) (ca cb cc cy z q:Nat) (V:List Vr) (L:List Kx) (R:List (List Fr)) (Y:Kx) (D F:List (Int×Int)) (w:E) (h:AA w a b c V L R) (hy:aB w y Y) (hY:C Y<=1000) (hD:kn w d D) (hd:C D<=1000) (DD:C D<=z) (hF:kn w f F) (hn:C F<=1000) (tr:C F<=q) (OU:Vx V L R (nF D)) (hf:mo V L R D=0) (zP:wE V (fZ (nF D) L) (fO V (nF D) (di R)) Y F=0) (av:Sz D Y F=xd):
  c6 12 #[zd #[Z a (C V) ca,Z b (C L) cb,Z c (C R) cc],Z y (C Y) cy,Z d (C D) z,Z f (C F) q] w fun e w'=>yK (lU V (fZ (nF D) L) (fO V (nF D) (di R)) Y F).1 (lU V (fZ (nF D) L) (fO V (nF D) (di R)) Y F).2 0 e w'/\da w w':=by
 have hA:y8 w ((w.alloc (yM #[Z a (C V) ca,Z b (C L) cb,Z c (C R) cc] 26)).alloc (yM #[Z N 0 0,Z N 0 0] 38)) (Z a (C V) ca) (Z b (C L) cb) (Z c (C R) cc):=y8.begin w _ _ _;obtain⟨o1,o2,o3⟩:=OU;have an:=Fa (fun (U:E) (m:da w U)=>atn a b c d ca cb cc z V L R D U (h.aa m).net h.sm (hD.aa m) hd DD hf);have ai:=Fa (fun (U:E) (m:da w U)=>aoV d y f z cy q D Y F U (hD.aa m) hd (hy.aa m) hY (hF.aa m) hn);rw[av] at ai
 have yQ:wT (∀(k j l:Kd) (Bh Bb p:Nat) (U:E),da w U ->jo U k j l V (fZ (nF D) L) (fO V (nF D) (di R)) ->pP U j (fZ (nF D) L) ->c6 44 #[zd #[Z k (C V) Bh,Z j (C (fZ (nF D) L)) Bb,Z l (C (fO V (nF D) (di R))) p],Z y (C Y) cy,Z f (C F) q] U fun e w'=>yK (lU V (fZ (nF D) L) (fO V (nF D) (di R)) Y F).1 (lU V (fZ (nF D) L) (fO V (nF D) (di R)) Y F).2 0 e w'/\da U w'):=fun k j l Bh Bb p U m h1 h2=>
  afw k j l y f Bh Bb p cy q V _ _ Y F U ⟨h1,h2,o1,o2,o3,fun _=>h.few (Ua hf).1⟩ (hy.aa m) hY (hF.aa m) hn tr zP
 generalize fZ (nF D) L=K at *;generalize fO V (nF D) (di R)=B9 at *;generalize lU V K B9 Y F=Ba at *;clear h hy hD hF hf o1 o2 o3 DD tr zP av;go_enter func12,ntmps12;go_upto_region 1 with fail
 generalize ((w.alloc (yM #[Z a (C V) ca,Z b (C L) cb,Z c (C R) cc] 26)).alloc (yM #[Z N 0 0,Z N 0 0] 38))=W0 at *;have A:=Fa hA;obtain⟨i0,i1,i2⟩:=hA.cells;clear hA;go_wp2_with fail
 refine(an.o _ A.o.bel).ae ?_;rintro e s ⟨k,j,l,Bh,Bb,p,rfl,hN,hL,i⟩;replace A:=Fa (A.o.step i);have Bj:da s (s.alloc (yM #[Z k (C V) Bh,Z j (C K) Bb,Z l (C B9) p] 26)):=(au _ s).alloc (ah _) _;have u:=cj.at (w:=s) rfl (Z k (C V) Bh) (Z j (C K) Bb) (Z l (C B9) p);have S:=hN.aa Bj;have aj:=hL.aa hN.pars Bj;have B7:=A.o.step Bj;obtain⟨gm,qp⟩:∃g,O (T s)=g:=⟨_,rfl⟩;obtain⟨w2,ax⟩:∃U,s.alloc (yM #[Z k (C V) Bh,Z j (C K) Bb,Z l (C B9) p] 26)=U:=⟨_,rfl⟩;simp only[NC] at u;rw[ax] at S aj B7 u;rw[qp] at u;have pS:=Fa S;have nN:=Fa aj;have tT:=Fa B7;obtain⟨n0,n1,n2⟩:=u.cells;clear i hN hL Bj S aj B7 u A an i0 i1 i2;go_wp2_with fail
 clear qp ax;refine(yQ.o k j l Bh Bb p _ tT.o.bel pS.o nN.o).ae ?_;rintro e n ⟨⟨t,r,x,v,rfl,hq,aq⟩,i⟩;have Bj:da n (n.alloc (yM #[Z t Ba.1.length x,Z r Ba.2.length v] 38)):=(au _ n).alloc (ah _) _;have P:aZ (n.alloc (yM #[Z t Ba.1.length x,Z r Ba.2.length v] 38)) (O (T n)) (Z t Ba.1.length x) (Z r Ba.2.length v):=dU n _;have wY:=(tT.o.step i).step Bj;have X:=hq.aa Bj;have ak:=aq.aa Bj;obtain⟨gt,Bm⟩:∃g,O (T n)=g:=⟨_,rfl⟩;obtain⟨Q,H⟩:∃U,n.alloc (yM #[Z t Ba.1.length x,Z r Ba.2.length v] 38)=U:=⟨_,rfl⟩;rw[H] at P wY X ak;rw[Bm] at P;have fk:=Fa P;have ab:=Fa wY;have HQ:=Fa X;have HC:=Fa ak;have ao:=Fa H;have Vd:=Fa Bm;clear i hq aq Bj P wY X ak H Bm n0 n1 n2 yQ tT pS nN;have tO:wT (c6 45 #[Z d (C D) z,Z y (C Y) cy,Z f (C F) q] Q fun e w'=>e=yW (zZ xd)/\da Q w'):=ai.o Q ab.o.bel;have Bm:=Vd.o;have H:n.alloc (yM #[Z t Ba.1.length x,Z r Ba.2.length v] 38)=Q:=ao.o;clear ai;go_wp2_with fail
 clear Bm H;refine tO.o.ae ?_;rintro e w5 ⟨rfl,i⟩;have ad:=Fa (ab.o.step i);have Gu:=Fa (fk.o.aa i fk.o.lt);have xG:=Fa (HQ.o.aa i);have ay:=Fa (HC.o.aa i);have al:=ad.o.res;have f0:=gj _ (O (T w)+1) 0 _ _ al;have f1:=gj _ (O (T w)+1) 1 _ _ al;obtain⟨t0,t1, -, -⟩:=Gu.o.facts;obtain⟨r0,r1, -, -⟩:=ad.o.res.facts;clear i ab fk HQ HC tO ao Vd;go_wp2_with fail
 refine dI ((al.put _ _).result2 rfl _ rfl) rfl ?_;have hx:=y8.o ad.o;exact⟨⟨t,r,x,v,rfl,(hx _ _).2.1 _ _ xG.o,(hx _ _).2.2 _ _ ay.o⟩,(hx _ _).1⟩
variable {r:Nat} {s:wF} {w':E}
def ig (w:E) (g:Nat) (s x y:wF):Prop:=w.heap[g]? =M (yM #[s,x,y] 86 (0,0))
theorem ig.lt {x:wF} (h:ig w g s x y):g<O (T w):=(cS.1 h).1
theorem ig.at (h:O (T w)=g) (s x y:wF):ig (w.alloc (yM #[s,x,y] 86)) g s x y:=by subst h;exact dU w _
theorem ig.aa {b:Nat} {x:wF} (h:ig w g s x y) (a:Below b w w') (c:g<b):ig w' g s x y:=(a.block g c).trans h
theorem ig.cells {x:wF} (h:ig w g s x y):w.cell? ⟨g,0,N⟩=M s/\w.cell? ⟨g,1,N⟩=M x/\w.cell? ⟨g,2,N⟩=M y:=
 ⟨(ba w g 0 _ _ (0,0) h).trans rfl,(ba w g 1 _ _ (0,0) h).trans rfl,(ba w g 2 _ _ (0,0) h).trans rfl⟩
theorem ig.fz {x:wF} (h:ig w g s x y) (j:Nat):w.frozen? ⟨g,j,N⟩=false:=gj w g j _ _ h
theorem ig.put {x:wF} (h:ig w g s x y) (a x' b:wF):ig (((w.setCell ⟨g,0,N⟩ a).setCell ⟨g,1,N⟩ x').setCell ⟨g,2,N⟩ b) g a x' b:=by
 have c:=jW w g 0 _ _ a h;have d:=jW _ g 1 _ _ x' c;have e:=jW _ g 2 _ _ b d;simpa [ig] using e
theorem ig.result1 {x:wF} (h:ig w g s x y) {p:Tmp} (r:fn.results= #[.cell p 86]) (m:Array wF) (a:m.getD p wQ=zR (M ⟨g,0,N⟩)):
  (results fn m).run prog w=.ok (zd #[s,x,y]) w:=Hc r m w g _ _ _ _ a h underlying86 rfl ao
theorem anH {x:wF} (f:ig U g s x y) (hs:bV s) (i:bV x) (j:bV y) {b:Kd} (h:n≠0 ->∃g' o v,b=M ⟨g',o,N⟩/\U.cell? ⟨g',o,N⟩=M v/\¬bV v):pO [g] b n:=fun g' o e k m=>by
 obtain⟨l,p,v,d,c,a⟩:=h k;rw[e] at d;cases d;rw[bA.1 m] at c;rw[ba U g o _ _ (0,0) f] at c;match o,c with
 |0,c=>cases c;exact a hs
 |1,c=>cases c;exact a i
 |2,c=>cases c;exact a j
 |o+3,c=>simp at c
theorem bJ.x {gs:Ja} {p q:wF} {t:Tb} (h:bJ U p q t) (k:eK gs U U') (i:∀(b:Kd) (n:Nat),(n≠0 ->∃g' o v,b=M ⟨g',o,N⟩/\U.cell? ⟨g',o,N⟩=M v/\¬bV v) ->pO gs b n):bJ U' p q t:=by
 obtain⟨b,c,cb,cc,j,l,d,f,m⟩:=h;refine⟨b,c,cb,cc,j,l,KR d (i b _ fun g=>?_) k,Lv f (i c _ fun g=>?_) k,m⟩
 ·obtain⟨g',o,e,_,a⟩:=d 0 al;exact⟨g',o,_,e,a,Sn⟩
 ·obtain⟨g',o,e,_,a,_⟩:=f 0 al;rw[oN,jd] at a;exact⟨g',o,_,e,a,XJ⟩
theorem ig.put_tb {x p q:wF} {t:Tb} (h:ig U g s x y) (hs:bV s) (f:bV x) (i:bV y) (e:bJ U p q t) (a x' c:wF):bJ (((U.setCell ⟨g,0,N⟩ a).setCell ⟨g,1,N⟩ x').setCell ⟨g,2,N⟩ c) p q t:=
 e.x ((((eK.refl [g] U).put (b:=g) (yd aE) 0 a).put (b:=g) (yd aE) 1 x').put (b:=g) (yd aE) 2 c) fun _ _ d=>anH h hs f i d
theorem ig.put_below (h:da w U) (a:O (T w)<=g) (s x' y:wF):da w (((U.setCell ⟨g,0,N⟩ s).setCell ⟨g,1,N⟩ x').setCell ⟨g,2,N⟩ y):=
 ((((eK.refl [g] U).put (b:=g) (yd aE) 0 s).put (b:=g) (yd aE) 1 x').put (b:=g) (yd aE) 2 y).low h fun k c=>by rw[bA.1 c];exact a
structure Jf (w U:E) (r:Nat) (s x y:wF):Prop where
 bx:ig U (O (T w)) s x y
 res:ig U r (Z N 0 0) (Z N 0 0) (Z N 0 0)
 hr:O (T w)<=r
 bel:da w U
theorem Jf.step {x:wF} (h:Jf w U r s x y) (b:da U U'):Jf w U' r s x y:=⟨h.bx.aa b h.bx.lt,h.res.aa b h.res.lt,h.hr,h.bel.trans (b.ae h.bel.size)⟩
theorem Jf.begin2 (w:E) (s x y:wF) (o:Obj):Jf w (((w.alloc (yM #[s,x,y] 86)).alloc o).alloc (yM #[Z N 0 0,Z N 0 0,Z N 0 0] 86)) (O (T w)+1+1) s x y:=by
 have e:=ig.at (w:=w) rfl s x y;have b:da w (w.alloc (yM #[s,x,y] 86)):=(au _ w).alloc (ah _) _;have b2:=b.alloc b.size o;have a:=b2.alloc b2.size (yM #[Z N 0 0,Z N 0 0,Z N 0 0] 86);have c:Below (O (T (w.alloc (yM #[s,x,y] 86)))) (w.alloc (yM #[s,x,y] 86)) ((w.alloc (yM #[s,x,y] 86)).alloc o):=(au _ _).alloc (ah _) _;have d:=c.alloc c.size (yM #[Z N 0 0,Z N 0 0,Z N 0 0] 86);exact⟨e.aa d e.lt,ig.at aE _ _ _,al,a⟩
theorem ac3 (a:Kd) (ca:Nat) (S:Ja) (x y:wF) (t:Tb) (v z:Nat) (w:E) (m:fK (iL S)) (hs:aB w a (iL S)) (h:bJ w x y t) (D:dG S (C S) t) (Bm:Cw 100000 t.2) (Q:v<C S) (F:z<sz S v):
  c6 64 #[zd #[Z a (C S) ca,x,y],zd #[J I (v:Nat),J I (z:Nat)]] w fun e w'=>∃x' L,e=yW (zd #[Z a (C S) ca,x',L])/\bJ w' x' L (eZ S v z t)/\da w w':=by
 have P:=Fa (fun (U:E) (s:da w U)=>ahd a ca S x y t v z U m (hs.aa s) (h.aa s) D Bm Q F);obtain⟨⟨H,K,Bh,rfl⟩,⟨yb,B9,Bb,rfl⟩⟩:=h.slices;clear hs h D Bm F m;have r:Jf w (((w.alloc (yM #[Z a (C S) ca,Z H K Bh,Z yb B9 Bb] 86)).alloc (yM #[J I (v:Nat),J I (z:Nat)] 30)).alloc (yM #[Z N 0 0,Z N 0 0,Z N 0 0] 86)) (O (T w)+1+1) (Z a (C S) ca) (Z H K Bh) (Z yb B9 Bb):=Jf.begin2 w _ _ _ _;have A:=Fa r;clear r;generalize eZ S v z t=R at *;go_enter func64,ntmps64;go_wp2_with fail
 refine(P.o _ A.o.bel).ae ?_;rintro e b ⟨⟨p,q,rfl,B7, -⟩,u⟩;obtain⟨⟨c,n,d,rfl⟩,⟨i,qn,k,rfl⟩⟩:=B7.slices;have Bj:da b (b.alloc (yM #[Z c n d,Z i qn k] 38)):=(au _ b).alloc (ah _) _;have j:aZ (b.alloc (yM #[Z c n d,Z i qn k] 38)) (O (T b)) (Z c n d) (Z i qn k):=dU b _;have f:=(A.o.step u).step Bj;have l:=B7.aa Bj;obtain⟨gt,Y⟩:∃g,O (T b)=g:=⟨_,rfl⟩;obtain⟨w2,X⟩:∃U,b.alloc (yM #[Z c n d,Z i qn k] 38)=U:=⟨_,rfl⟩;rw[X] at j f l;rw[Y] at j;have V:=Fa l;have Ba:=Fa f;obtain⟨t0,t1, -, -⟩:=j.facts;obtain⟨i0,i1,i2⟩:=f.bx.cells;obtain⟨r0,r1,r2⟩:=f.res.cells;have f0:=f.res.fz 0;have f1:=f.res.fz 1;have f2:=f.res.fz 2;clear u B7 Bj j f l A P;go_wp2_with fail
 refine dI ((Ba.o.res.put _ _ _).result1 rfl _ rfl) rfl ?_;exact⟨_,_,rfl,Ba.o.res.put_tb (slv _ _ _) (slv _ _ _) (slv _ _ _) V.o _ _ _,ig.put_below Ba.o.bel Ba.o.hr _ _ _⟩
theorem ae9:∀l:List Fr,fw (l.map lA)<=fw l+C l
 |[]=>ah _
 |f::l=>by
  have h:=ae9 l;have a:(lA f).2.1.size+(lA f).2.2.size<=f.2.1.size+f.2.2.size+1:=E8 f.1 f.2.1 f.2.2;rw[gw,fw,fw,eA];omega
theorem aau:∀l:List Fr,qA (l.map lA)=qA l
 |[]=>rfl
 |f::l=>by rw[gw,qA,qA,aau l,T2]
theorem WD (n x:Nat):fw (rI n x)<=5*n/\qA (rI n x)=1:=by
 have y:∀l:Ja,fw (l.map fun k=>qF (if k=x then 1 else 0))<=5*C l/\qA (l.map fun k=>qF (if k=x then 1 else 0))=1:=fun l=>by
  induction l with
  |nil=>exact⟨ah _,rfl⟩
  |cons k l ih=>
   obtain⟨a,h⟩:=ih;rw[gw,fw,qA,h,eA,jC];by_cases e:k=x
   ·rw[aw e];(have:(qF 1).2.1.size+(qF 1).2.2.size<=3:=by show qw 1<=3;have:=adq;omega);exact⟨al,rfl⟩
   ·rw[aC e];(have:(qF 0).2.1.size+(qF 0).2.2.size<=3:=by show qw 0<=3;have:=Nr;omega);exact⟨al,rfl⟩
 have:=y (List.range n);rw[AW] at this;exact this
section
variable {V : List Vr} {L : List Kx} {R : List (List Fr)} {d : List (Nat × Nat)}
theorem aar (h0:aS V L R=0) (h:fL (ag V) (C V) d) (v:Nat):(fO V d (di R)).getD v []=(R.getD v []).map lA∨∃x,v<C V/\(fO V d (di R)).getD v []=rI (sz (ag V) v) x:=by
 by_cases e:v∈d.map (·.1)
 ·obtain⟨p,a,rfl⟩:=aN.1 e;refine yk ⟨p.2,h.lt p a,RS h.nd a ?_⟩;have:=(gY h0).lenR;rw[di,cY,this];exact h.lt p a
 ·refine yd ?_;rw[<- Z8];exact Ks e
theorem asb (h0:aS V L R=0) (f:fL (ag V) (C V) d) {l:List Fr} (g:l∈fO V d (di R)):(∃i∈R,l=i.map lA)∨∃v x,v<C V/\l=rI (sz (ag V) v) x:=by
 obtain⟨v,a,rfl⟩:=iE g;have b:v<C R:=by rw[aaq,di,cY] at a;exact a
 have e:(fO V d (di R)).getD v []=(fO V d (di R))[v]:=by rw[cF,a7 a];rfl
 rcases aar h0 f v with h |⟨x,c,h⟩
 ·refine yd ⟨R[v],bU b,?_⟩;rw[<- e,h,cF,a7 b];rfl
 ·exact yk ⟨v,x,c,by rw[<- e,h]⟩
theorem ahI (h0:aS V L R=0) (a:fL (ag V) (C V) d):∀us:Ja,dW (fO V d (di R)) us<=dW R us
 |[]=>ah _
 |v::us=>by
  rw[dW,dW];refine kN ?_ (ahI h0 a us);rcases aar h0 a v with h |⟨x,_,h⟩
  ·rw[h,aau];exact ah _
  ·rw[h,(WD _ _).2];exact lO (LI _)
theorem Vx.of (h0:aS V L R=0) (hs:tD V L R) (h:pX V R) (w:∀l∈R,fw (l.map lA)<=4200) (c:fL (ag V) (C V) d):Vx V L R d:=by
 have i:∀v,v<C V ->sz (ag V) v<=4:=fun v a=>by rw[H4 a];exact((XO h0).1.len v a).2
 have f:∀l∈fO V d (di R),C l<=5000/\fw l<=4200:=fun l h=>by
  rcases asb h0 c h with ⟨e,b,rfl⟩ |⟨v,x,b,rfl⟩
  ·exact⟨by rw[cY];exact(hs.rows.2 e b).1,w e b⟩
  ·have:=i v b;have:=(WD (sz (ag V) v) x).1;exact⟨by rw[H5];omega,al⟩
 refine⟨⟨hs.Fd,⟨by rw[Uh];exact hs.pars.1,fun l h=>?_⟩,⟨by rw[aaq,di,cY];exact hs.rows.1,fun l h=>⟨(f l h).1,aM (f l h).2 a6⟩⟩⟩,fun l h=>(f l h).2,?_⟩
 ·obtain⟨v,a,rfl⟩:=iE h;have g:v<C L:=by rw[Uh] at a;exact a
  have:=(aas d L v).length_le;rw[cF,a7 a,cF,a7 g] at this;exact aM this (hs.pars.2 _ (bU g))
 ·exact aM (ku (ahI h0 c _)) h
end
theorem ag0:∀l:List Fr,2*C l<=fw l
 |[]=>ah _
 |f::l=>by
  have:=ag0 l;rw[eA,fw];omega
theorem NM.dos {d:List (Nat×Nat)} (h:NM V L R) (a:fL (ag V) (C V) d):Vx V L R d:=
 .of h.ok h.small h.lite (fun l b=>by have:=h.light l b;have:=ae9 l;have:=ag0 l;omega) a
def qi (l Bb:Kx):Kx:=l.filter fun x=>!lB x Bb
theorem aoT {Bb:Kx} (h:i<C l):qi (l.take (i+1)) Bb=qi (l.take i) Bb++if lB l[i] Bb=y6 then[] else[l[i]]:=by
 rw[gR h,qi,qi,xP];congr 1
 cases e:lB l[i] Bb
 ·simp[e]
 ·simp[e]
theorem al6 (a b:Kd) (ca cb:Nat) (l Bb:Kx) (w:E) (v:aB w a l) (n:aB w b Bb) (S:C l<=1000) (ab:C Bb<=1000):
  c6 22 #[Z a (C l) ca,Z b (C Bb) cb] w fun e w'=>∃x,e=yW x/\bW w' (O (T w)) x (qi l Bb)/\da w w':=by
 obtain⟨U,B9,ad,ai,aj⟩:=eC Tryz.infoInt;have D:=Fa v;have z:=Fa (fun (k:Int) (V:E) (h:aB V b Bb)=>al7 k b cb Bb V h al);have A:=Fa n;have j:=Fa (fun (i:Nat) (h:i<C l)=>aoT (Bb:=Bb) h);have q:=Fa (fun i=>show C (qi (l.take i) Bb)<=C l from aM (oT _ _) (by rw[fh];omega));have s:qi (l.take (C l)) Bb=qi l Bb:=by rw[iD]
 have y:qi (l.take 0) Bb=[]:=by rw[MN];rfl
 rw[<- s];clear v n s;generalize c:(fun i=>qi (l.take i) Bb)=F at *;have m:∀i,qi (l.take i) Bb=F i:=fun i=>by rw[<- c]
 simp only[m] at j q y⊢;clear c m;go_enter func22,ntmps22;go_wp2_with fail
 go_loopw [5,6] (fun xv iv wr=>∃i:Nat,i<=C l/\iv=J I i/\wT (bW wr (O (T w)) xv (F i))/\wT (da w wr)) (fun _ iv _=>C l - (intOf iv).toNat)
 case atStart=>exact⟨0,aV _,rfl,by rw[y];exact⟨rfl,yd ⟨rfl,rfl⟩⟩,au _ _⟩
 case round=>
  obtain⟨i,P,rfl,R,H⟩:=hrel;by_cases t:i<C l
  ·obtain⟨g,o,rfl,c,K⟩:=(D.o.aa H.o) i t;have Ba:=j.o i t;have B7:=q.o i;generalize l[i]=u at *;go_wp2_with fail
   refine(z.o u _ (A.o.aa H.o)).ae ?_;rintro e f ⟨rfl,rfl⟩;cases hin:lB u Bb with
   |true=>
    rw[hin,aw rfl,kq] at Ba;have Bm:=Fa Ba;clear Ba hin;go_wp2;go_roundw
    case rel=>exact⟨i+1,al,bd,by rw[Bm.o];exact R,H⟩
    case measure=>simp[intOf];omega
   |false=>
    rw[hin,aC a6] at Ba;have Bm:=Fa Ba;have L:=Fa R.o.own;have Bh:wT (bW (f.alloc (yM #[J I u] 3)) (O (T w)) _ (F i)):=He R.o _;have d:=Fa (H.o.alloc H.o.size (yM #[J I u] 3));have Bj:=Fa (aeH f u);clear Ba hin;go_wp2_with (at_builtin;refine CU rfl _ _ rfl (O (T w)) _ (F i) [u] rfl Bh.o (M ⟨O (T f),0,N⟩) 1 rfl Bj.o (fun e=>by cases e) (by simp;omega) d.o.size ?_;intro v' X r p)
    have Q:=Fa r;have Y:=Fa (d.o.grown p d.o.size L.o);clear r p;go_roundw
    case rel=>exact⟨i+1,al,bd,by rw[Bm.o];exact Q,Y⟩
    case measure=>simp[intOf];omega
  ·obtain rfl:i=C l:=al
   go_wp2;go_ret;exact⟨_,rfl,R.o,H.o⟩
theorem ajT (n:Nat):Up [] n:=eH.2 ⟨fun x h=>(by cases h),List.Pairwise.nil⟩
theorem Up.wider {L:Kx} (h:Up L i) (q:i<=j):Up L j:=eH.2 ⟨fun x a=>by have:=(eH.1 h).1 x a;omega,(eH.1 h).2⟩
theorem Up.snoc {L:Kx} (h:Up L i):Up (L++[(i:Int)]) (i+1):=by
 refine eH.2 ⟨fun x a=>?_,?_⟩
 ·rcases bE.1 a with a |a
  ·have:=(eH.1 h).1 x a;omega
  ·have:=bA.1 a;omega
 ·rw[List.pairwise_append];refine⟨(eH.1 h).2,Hk _ _,fun x a y b=>?_⟩;have:=(eH.1 h).1 x a;have:=bA.1 b;omega
theorem alY (a:Kd) (ca n:Nat) (l:Kx) (w:E) (v:aB w a l) (r:∀x∈l, -9223372036854775808<=x/\x<=9223372036854775807) (Q:C l<=140737488355328) (Ba:1<=n) (ai:n<=1000):
  c6 23 #[Z a (C l) ca,J I (n:Nat)] w fun e w'=>∃x L,e=yW x/\bW w' (O (T w)) x L/\Up L n/\da w w':=by
 obtain⟨S,D,aj,ak,an⟩:=eC Tryz.infoInt;have V:=Fa v;have R:=Fa r;clear v r;go_enter func23,ntmps23;go_wp2_with fail
 go_loopw [5,6] (fun xv iv wr=>∃(i:Nat) (L:Kx),i<=n/\iv=J I i/\wT (Up L i)/\wT (bW wr (O (T w)) xv L)/\wT (da w wr)) (fun _ iv _=>n - (intOf iv).toNat)
 case atStart=>exact⟨0,[],aV _,rfl,ajT 0,⟨rfl,yd ⟨rfl,rfl⟩⟩,au _ _⟩
 case round=>
  obtain⟨i,L,Bj,rfl,U,H,c⟩:=hrel;by_cases ad:i<n
  ·go_wp2_with fail
   have Bh:wT (bW wr (O (T w)) u5 L):=H;go_loopw [7,8] (fun bv jv wq=>∃(j:Nat) (b:Bool),j<=C l/\jv=J I j/\bv=zZ b/\wT (bW wq (O (T w)) u5 L)/\wT (da w wq)) (fun _ jv _=>C l - (intOf jv).toNat)
   case atStart=>exact⟨0,xd,aV _,rfl,rfl,H,c⟩
   case round=>
    obtain⟨j,b,B9,rfl,rfl,t,k⟩:=hrel;clear H c Bh;by_cases B7:j<C l
    ·cases b with
     |true=>
      go_wp2;go_roundw
      case rel=>exact⟨j+1,y6,al,bd,rfl,t,k⟩
      case measure=>simp[intOf];omega
     |false=>
      obtain⟨g,o,rfl,Bm,p⟩:=(V.o.aa k.o) j B7;have K:=R.o l[j] (bU B7);generalize l[j]=z at *;go_wp2_with fail
      refine(Kp z n _ K.1 K.2 al al).ae ?_;rintro e X ⟨rfl,h⟩;generalize sV z n=P at *;have u:=Fa (t.o.aa h);have Bb:=Fa (k.o.trans (h.ae k.o.size));clear t k h p;go_wp2;go_roundw
      case rel=>exact⟨j+1,_,al,bd,rfl,u,Bb⟩
      case measure=>simp[intOf];omega
    ·obtain rfl:j=C l:=al
     cases b with
     |false=>
      go_wp2;go_roundw
      case rel=>exact⟨i+1,L,al,bd,U.o.wider al,t,k⟩
      case measure=>simp[intOf];omega
     |true=>
      have ab:=U.o.length;have A:=Fa t.o.own;have y:wT (bW (wr.alloc (yM #[J I (i:Nat)] 3)) (O (T w)) _ L):=He t.o _;have d:=Fa (k.o.alloc k.o.size (yM #[J I (i:Nat)] 3));have s:=Fa (aeH wr (i:Nat));go_wp2_with (at_builtin;refine CU rfl _ _ rfl (O (T w)) _ L [((i:Nat):Int)] rfl y.o (M ⟨O (T wr),0,N⟩) 1 rfl s.o (fun e=>by cases e) (by simp;omega) d.o.size ?_;intro v' Y m f)
      have F:=Fa m;have q:=Fa (d.o.grown f d.o.size A.o);clear m f;go_roundw
      case rel=>exact⟨i+1,_,al,bd,U.o.snoc,F,q⟩
      case measure=>simp[intOf];omega
  ·obtain rfl:i=n:=al
   go_wp2;go_ret;exact⟨_,L,rfl,H.o,U.o,c.o⟩
variable {F:List (Int×Int)} {B':Nat}
def uD (F:List (Int×Int)):List (wF×wF):=F.map fun p=>(J I p.1,J I p.2)
theorem LC (F:List (Int×Int)):C (uD F)=C F:=cY _
theorem ahq (h:k<C F):(uD F)[k]'(by rw[LC];exact h)=(J I F[k].1,J I F[k].2):=mN _
def nJ (w:E) (B:Nat) (v:wF) (F:List (Int×Int)):Prop:=w.ownsRow B 30 2 v (C F) (fV (uD F))
theorem nJ.nil (w:E) (B:Nat):nJ w B (Z N 0 0) []:=⟨rfl,yd ⟨rfl,rfl⟩⟩
theorem nJ.aa {B:Nat} {v:wF} (h:nJ w B v F) (b:da w w'):nJ w' B v F:=KB h (Ee.aa b)
theorem nJ.facts {B:Nat} {v:wF} (h:nJ w B v F):∃d c,v=Z d (C F) c/\kn w d F/\F.length<=c/\(d=N ->c=0):=by
 rcases h.2 with ⟨b,i⟩ |⟨g,cap,y,b,i,l,o,t,x,p⟩
 ·exact⟨N,0,by rw[b,i],(fun k a=>absurd a al),al,fun _=>rfl⟩
 ·refine⟨_,cap,b,fun k a=>?_,o,fun e=>by cases e⟩;have r:k<C (uD F):=by rw[LC];exact a
  obtain⟨q,n⟩:=Rv (uD F) k r;have s:=Nd (uD F)
  have m:∀j u,(fV (uD F))[j]? =M u ->w.cell? ⟨g,j,N⟩=M u:=fun j u f=>by
   rw[ba w g j _ _ (0,0) l];have B7:=(mO.1 f).1;rw[<- p,sQ,aw (by rw[LC] at s;omega),wu] at f;exact f
  rw[ahq a] at q n;exact⟨g,0,rfl,(cS.1 l).1,by rw[bQ];exact m _ _ q,by rw[bQ];exact m _ _ n⟩
theorem nJ.own {B:Nat} {v:wF} (h:nJ w B v F):∀k,v.ownBlock=M k ->B<=k:=fun k a=>by
 rcases h.2 with ⟨b,c⟩ |⟨g,cap,r,b,c,_⟩
 ·rw[b] at a;cases a
 ·rw[b] at a;cases a;exact c
theorem nJ.alloc {B:Nat} {v:wF} (h:nJ w B v F) (o:Obj):nJ (w.alloc o) B v F:=h.aa ((au (O (T w)) w).alloc (ah _) o)
theorem Tryz.infoFact:(prog.info? 30).map (fun i=>(i.zero,i.size,i.bytes))=M (M (zd #[J I 0,J I 0]),2,16):=ao
theorem arR {o:Nat} (h:kn w (M ⟨g,o,N⟩) F):∀j u,(fV (uD F))[j]? =M u ->w.cell? ((⟨g,o,N⟩:Addr).add j)=M u:=fun j u a=>by
 have r:=(mO.1 a).1;rw[Nd,LC] at r;have k:j/2<C F:=al
 obtain⟨g',o',e,_,c,d⟩:=h (j/2) k;cases e;obtain⟨q,b⟩:=Rv (uD F) (j/2) (by rw[LC];exact k);rw[ahq k] at q b
 have i:((⟨g,o,N⟩:Addr).add j)=⟨g,o+j,N⟩:=by
  rw[Addr.add];by_cases f:j=0
  ·subst f;simp
  ·simp[f]
 rw[i];rcases Nat.mod_two_eq_zero_or_one j with m |m
 ·have e:j/2*2=j:=al
  rw[e] at q c;rw[q] at a;rw[c,a]
 ·have e:j/2*2+1=j:=al
  rw[e] at b;rw[b] at a;rw[show o+j/2*2+1=o+j by omega] at d;rw[d,a]
theorem arQ (F:List (Int×Int)):∀u∈fV (uD F),u.oneCell'=true:=by
 induction F with
 |nil=>intro u a;cases a
 |cons p F ih=>
  intro u a;have g:u=J I p.1∨u=J I p.2∨u∈fV (uD F):=by simpa [uD,fV] using a
  rcases g with rfl |rfl |h
  ·rfl
  ·rfl
  ·exact ih u h
theorem abM {o:Oper} {a:Act} (m:o.guard=N) (s x:Operand)
  (d:o.op=.call {callee:=.builtin .append,args:= #[s,x],argTypes:= #[28,28]}) (base:Nat) (v:wF) (xs la:List (Int×Int)) (hs:a.eval s=v) (n:nJ w base v xs) (p:Kd) (ca:Nat) (f:a.eval x=Z p (C la) ca) (i:kn w p la) (D:p=N ->ca=0) (Bh:C xs+C la<=100000) (Bj:base<=O (T w))
  (h:∀v' w',nJ w' base v' (xs++la) ->w.grownBy w' v.ownBlock ->wpList prog ops Q rest (a.put o.dst v') w'):wpList prog ops Q (o::rest) a w:=by
 obtain⟨k,c,Bm,F,H⟩:=eC Tryz.infoFact;cases p with
 |none=>
  have A:la=[]:=by
   cases la with
   |nil=>rfl
   |cons x l=>obtain⟨g,o,e,_⟩:=i 0 aE;cases e
  subst A;have r:=D rfl;subst r;have b:=h v w (by rw[kq];exact n) ⟨rfl,rfl,rfl,ah _,fun _ _ _=>rfl⟩;exact wpList_append_own_none m s x 28 d base 30 k 2 underlying28 c v (C xs) _ hs n f b
 |some ad=>
  have y:∀j u,(fV (uD la))[j]? =M u ->w.cell? (ad.add j)=M u:=by
   cases la with
   |nil=>intro j u z;cases z
   |cons q l=>
    obtain⟨g,o',e,_⟩:=i 0 aE;cases e;exact arR i
  refine zg _ m s x 28 d base 30 k (zd #[J I 0,J I 0]) 2 16 underlying28 c Bm F H rfl a6 v (C xs) _ hs n ad (C la) ca (fV (uD la)) f (by rw[Nd,LC]) y (arQ la) (by unfold maxLen;omega) al Bj ?_;intro v' w' b t _;refine h v' w' ?_ t;rw[nJ,cE,uD,gV,Nf];exact b
theorem nJ.lower {B:Nat} {v:wF} (h:nJ w B v F) (d:B'<=B):nJ w B' v F:=by
 refine⟨h.1,?_⟩;rcases h.2 with a |⟨g,cap,r,a,b,c⟩
 ·exact yd a
 ·exact yk ⟨g,cap,r,a,aM d b,c⟩
variable {S:Ja}
structure FF (S:Ja) (U:Kx) (i:Nat) (l:List (Nat×Nat)):Prop where
 Fd:l.map (·.1)=af (U.take i)
 val:∀p∈l,p.2<sz S p.1
theorem FF.start (S:Ja) (U:Kx):FF S U 0 []:=⟨rfl,fun p h=>by cases h⟩
theorem FF.len {U:Kx} {l:List (Nat×Nat)} (h:FF S U i l) (a:i<=C U):C l=i:=by
 have:=eG List.length h.Fd;rw[cY,gG,fh] at this;omega
theorem FF.snoc {U:Kx} {l:List (Nat×Nat)} (h:FF S U i l) (b:i<C U) {x:Nat} (c:x<sz S U[i].toNat):FF S U (i+1) (l++[(U[i].toNat,x)]):=by
 refine⟨?_,fun p a=>?_⟩
 ·rw[gV,h.Fd,gR b,af,af,gV];rfl
 ·rcases bE.1 a with a |a
  ·exact h.val p a
  ·rw[bA.1 a];exact c
theorem abA (l:List (Nat×Nat)) (p:Nat×Nat):zF (l++[p])=zF l++[((p.1:Int),(p.2:Int))]:=by rw[zF,zF,gV];rfl
theorem Sp (w:E) (u v:Int):kn (w.alloc (yM #[J I u,J I v] 30)) (M ⟨O (T w),0,N⟩) [(u,v)]:=fun k a=>by
 obtain rfl:k=0:=by simp at a;omega
 have h:=dU w (yM #[J I u,J I v] 30);exact⟨O (T w),0,rfl,aE,(ba _ (O (T w)) _ _ _ (0,0) h).trans rfl,(ba _ (O (T w)) _ _ _ (0,0) h).trans rfl⟩
theorem ama (a b c d r:Kd) (ca cb cc cd cr:Nat) (V:List Vr) (L:List Kx) (R:List (List Fr)) (U K:Kx) (w:E) (h:jo w a b c V L R) (hd:aB w d U) (hr:aB w r K) (hU:Up U (C V)) (ay:C U<=1000) (hK:∀x∈K, -9223372036854775808<=x/\x<=9223372036854775807) (av:C K<=140737488355328) (hV:∀v (h:v<C V),1<=V[v].2.length/\V[v].2.length<=1000):
  c6 24 #[zd #[Z a (C V) ca,Z b (C L) cb,Z c (C R) cc],Z d (C U) cd,Z r (C K) cr] w fun e w'=>∃x l,e=yW x/\nJ w' (O (T w)) x (zF l)/\l.map (·.1)=af U/\(∀p∈l,p.2<sz (ag V) p.1)/\da w w':=by
 have bB:=cj.at (w:=w) rfl (Z a (C V) ca) (Z b (C L) cb) (Z c (C R) cc);have an:da w (w.alloc (NC (Z a (C V) ca) (Z b (C L) cb) (Z c (C R) cc))):=(au _ w).alloc (ah _) _;have HN:=Fa h;have HD:=Fa hd;have HR:=Fa hr;have HU:=Fa hU;have HK:=Fa hK;have HV:=Fa hV;have HE:wT (∀l,FF (ag V) U (C U) l ->l.map (·.1)=af U):=fun l hl=>by have:=hl.Fd;rwa [iD] at this
 obtain⟨f,t⟩:∃n,C K=n:=⟨_,rfl⟩;rw[t];have aq:=Fa t;rw[t] at av;clear h hd hr hU hK hV t;go_enter func24,ntmps24;go_wp2_with fail
 have bX:=Fa bB;have sN:=Fa an;clear bB an;generalize w.alloc (NC (Z a (C V) ca) (Z b (C L) cb) (Z c (C R) cc))=W0 at *;go_loopw [7,8] (fun xv iv wr=>∃(i:Nat) (l:List (Nat×Nat)),i<=C U/\iv=J I i/\wT (FF (ag V) U i l)/\wT (nJ wr (O (T w)+1) xv (zF l))/\wT (cj wr (O (T w)) (Z a (C V) ca) (Z b (C L) cb) (Z c (C R) cc))/\wT (da w wr)) (fun _ iv _=>C U - (intOf iv).toNat)
 case atStart=>exact⟨0,[],aV _,rfl,FF.start _ _,nJ.nil _ _,bX,sN⟩
 case round=>
  obtain⟨i,l,hi,rfl,F,B9,X,H⟩:=hrel;clear bX sN;by_cases ad:i<C U
  ·obtain⟨g,ao,rfl,hg,y⟩:=(HD.o.aa H.o) i ad;have bh:=HU.o.each i ad;obtain⟨v,Bh⟩:∃v:Nat,U[i]=(v:Int):=⟨U[i].toNat,al⟩;(have Q:v<C V:=al);obtain⟨D,Ba,bb,ax,rfl,BP,n0,n1,n2,n3⟩:=(HN.o.Fd.aa H.o) v Q;have ae:=HV.o v Q;have ak:=H4 Q
   have Em:wT (∀x,x<V[v].2.length ->FF (ag V) U (i+1) (l++[(v,x)])):=fun x hx=>by
    have:=F.o.snoc ad (x:=x) (by rw[Bh,oU,ak];exact hx);rwa [Bh,oU] at this
   rw[Bh] at y;have dO:=F.o.len hi;clear ak bh n2 n3 n0;generalize V[v].2.length=m at *;by_cases O9:f=0
   ·subst O9;have u:=Fa B9.o.own;have ab:=Fa (B9.o.alloc (yM #[J I (v:Nat),J I (0:Nat)] 30));have S:=Fa (H.o.alloc H.o.size (yM #[J I (v:Nat),J I (0:Nat)] 30));have Bb:=Fa (Sp wr (v:Nat) (0:Nat));have Bj:=Fa (X.o.aa ((au (O (T wr)) wr).alloc (ah _) (yM #[J I (v:Nat),J I (0:Nat)] 30)) X.o.lt);have q:wT (O (T w)+1<=O (T (wr.alloc (yM #[J I (v:Nat),J I (0:Nat)] 30)))):=Fa (Bj.o.lt);go_wp2_with (at_builtin;refine abM rfl _ _ rfl (O (T w)+1) _ (zF l) [((v:Int),(0:Nat))] rfl ab.o (M ⟨O (T wr),0,N⟩) 1 rfl Bb.o (fun e=>by cases e) (by simp[AY];omega) q.o ?_;intro v' w2 s o)
    have Y:=Fa (S.o.grown o S.o.size fun k Bm=>Nat.le_of_succ_le (u.o k Bm));have B7:wT (cj w2 (O (T w)) (Z (M ⟨D,Ba,N⟩) (C V) ca) (Z b (C L) cb) (Z c (C R) cc)):=(o.block (O (T w)) q.o (fun e=>by have:=u.o _ e.symm;omega)).trans Bj.o;have A:=Fa s;clear s o;go_roundw
    case rel=>exact⟨i+1,_,al,bd,Em.o 0 al,by rw[abA];exact A,B7,Y⟩
    case measure=>simp[intOf];omega
   ·have hj:i % f<C K:=by rw[aq.o];exact jc _ al
    obtain⟨gk,ok,rfl,Lc,k0⟩:=(HR.o.aa H.o) (i % f) hj;have Td:=HK.o _ (bU hj);have aE:((i:Nat):Int) % (f:Int)=((i % f:Nat):Int):=(wk _ _).symm;have az:i % f<f:=jc _ al;obtain⟨x0,x1,x2⟩:=X.o.cells;have AG:=Fa (fun W=>adl K[i % f] m W Td.1 Td.2 ae.1 ae.2);have hP:=Kw K[i % f] ae.1;generalize sV K[i % f] m=P at *;generalize K[i % f]=kk at *;generalize i % f=j at *;go_wp2_with fail
    go_quiet ((go_at_call 21;refine Calls.quiet_of_same (AG.o _)))
    have ai:wT (nJ (wr.drewN nq) (O (T w)+1) u7 (zF l)):=B9;have aj:wT (cj (wr.drewN nq) (O (T w)) (Z (M ⟨D,Ba,N⟩) (C V) ca) (Z b (C L) cb) (Z c (C R) cc)):=X;have km:=Fa (below_drewN H.o nq);have Un:(wr.drewN nq).cell? ⟨g,ao+i,N⟩=M (J I (v:Nat)):=y;clear B9 X H y k0 x0 x1 x2 n1;generalize wr.drewN nq=z at *;have B9:=ai;have X:=aj;have H:=km;have y:=Un;clear ai aj km Un;have u:=Fa B9.o.own;have ab:=Fa (B9.o.alloc (yM #[J I (v:Nat),J I (P:Nat)] 30));have S:=Fa (H.o.alloc H.o.size (yM #[J I (v:Nat),J I (P:Nat)] 30));have Bb:=Fa (Sp z (v:Nat) (P:Nat));have Bj:=Fa (X.o.aa ((au (O (T z)) z).alloc (ah _) (yM #[J I (v:Nat),J I (P:Nat)] 30)) X.o.lt);have q:wT (O (T w)+1<=O (T (z.alloc (yM #[J I (v:Nat),J I (P:Nat)] 30)))):=Fa (Bj.o.lt);go_wp2_with (at_builtin;refine abM rfl _ _ rfl (O (T w)+1) _ (zF l) [((v:Int),(P:Nat))] rfl ab.o (M ⟨O (T z),0,N⟩) 1 rfl Bb.o (fun e=>by cases e) (by simp[AY];omega) q.o ?_;intro v' w2 s o)
    have Y:=Fa (S.o.grown o S.o.size fun k Bm=>Nat.le_of_succ_le (u.o k Bm));have B7:wT (cj w2 (O (T w)) (Z (M ⟨D,Ba,N⟩) (C V) ca) (Z b (C L) cb) (Z c (C R) cc)):=(o.block (O (T w)) q.o (fun e=>by have:=u.o _ e.symm;omega)).trans Bj.o;have A:=Fa s;clear s o;go_roundw
    case rel=>exact⟨i+1,_,al,bd,Em.o P hP,by rw[abA];exact A,B7,Y⟩
    case measure=>simp[intOf];omega
  ·obtain rfl:i=C U:=al
   go_wp2;go_ret;exact⟨_,l,rfl,B9.o.lower (Nat.le_succ _),HE.o l F.o,F.o.val,H.o⟩
def uh (L:List Kx) (i:Nat):Nat:=((L.take i).map List.length).sum
theorem afn (h:i<C L):uh L (i+1)=uh L i+L[i].length:=by
 rw[uh,uh,gR h,gV,List.sum_append];simp
theorem ae0:∀ {l:Ja} {x:Nat},x∈l ->x<=l.sum
 |y::l,x,h=>by
  rw[List.sum_cons];rcases bY.1 h with rfl |h
  ·omega
  ·have:=ae0 h;omega
theorem apl (h:uh L (C L)<=512):∀l∈L,C l<=512:=fun l a=>by
 rw[uh,iD] at h;have:C l<=(L.map List.length).sum:=ae0 (aN.2 ⟨l,a,rfl⟩);omega
theorem afm (h:∀l∈L,C l<=140737488355328):∀i,i<=C L ->uh L i<=i*140737488355328
 |0,_=>by simp[uh]
 |i+1,hi=>by
  have:=afm h i al;have:=h _ (bU (show i<C L by omega));rw[afn al];omega
theorem aci (a:Kd) (ca:Nat) (L:List Kx) (w:E) (h:dP w a L) (d:∀l∈L,C l<=140737488355328) (r:C L<=8):
  c6 26 #[Z a (C L) ca] w fun e w'=>∃q,e=yW (zZ q)/\(q=xd ->∀l∈L,C l<=512)/\w'=w:=by
 have F:=Fa h;have H:=Fa d;have x:wT (uh L 0=0):=by show _=_;simp[uh]
 have j:wT (∀i (h:i<C L),uh L (i+1)=uh L i+L[i].length):=fun i h=>afn h;have s:wT (uh L (C L)<=512 ->∀l∈L,C l<=512):=fun h=>apl h;have U:wT (∀i,i<=C L ->uh L i<=i*140737488355328):=afm d;clear h d;generalize uh L=Ba at *;go_enter func26,ntmps26;go_wp2_with fail
 go_loopw [3,4] (fun nv iv wr=>∃i:Nat,i<=C L/\iv=J I i/\nv=J I (Ba i:Nat)/\wr=w) (fun _ iv _=>C L - (intOf iv).toNat)
 case atStart=>exact⟨0,aV _,rfl,by rw[x.o];rfl,rfl⟩
 case round=>
  obtain⟨i,k,rfl,rfl,rfl⟩:=hrel;have n:=U.o i k;by_cases p:i<C L
  ·obtain⟨g,o,b,c,rfl,t,m, -⟩:=F.o i p;have v:=H.o _ (bU p);have S:=Fa (j.o i p);generalize L[i].length=u at *;generalize hT:Ba i=f at *;clear hT;go_wp2_with fail
   go_roundw
   case rel=>exact⟨i+1,al,bd,by rw[S.o];go_num,by first |rfl |trivial⟩
   case measure=>simp[intOf];omega
  ·obtain rfl:i=C L:=al
   by_cases z:Ba (C L)<=512
   ·have Bm:=Fa (s.o z);generalize hT:Ba (C L)=f at *;clear hT;go_wp2;go_ret;exact⟨xd,by simp<;>omega,fun _=>Bm.o,rfl⟩
   ·generalize hT:Ba (C L)=f at *;clear hT;go_wp2;go_ret;exact⟨y6,by simp<;>omega,(fun h=>by cases h),rfl⟩
theorem akr (b c d:Kd) (f g i:Nat) (L L2 a:Kx) (bk:Bool) (w:E) (h1:aB w b L) (k:aB w c L2) (m:aB w d a) (l1:C L<=140737488355328) (l2:C L2<=140737488355328) (u:C a<=140737488355328):
  c6 25 #[zd #[Z b (C L) f,Z c (C L2) g,Z d (C a) i,zZ bk]] w fun e w'=>∃q,e=yW (zZ q)/\da w w':=by
 have r:(w.alloc (yM #[Z b (C L) f,Z c (C L2) g,Z d (C a) i,zZ bk] 47)).heap[O (T w)]? =M (yM #[Z b (C L) f,Z c (C L2) g,Z d (C a) i,zZ bk] 47 (0,0)):=dU w _;have v:(w.alloc (yM #[Z b (C L) f,Z c (C L2) g,Z d (C a) i,zZ bk] 47)).cell? ⟨O (T w),0,N⟩=M (Z b (C L) f):=by rw[ba _ _ _ _ _ (0,0) r];rfl
 have x:(w.alloc (yM #[Z b (C L) f,Z c (C L2) g,Z d (C a) i,zZ bk] 47)).cell? ⟨O (T w),1,N⟩=M (Z c (C L2) g):=by rw[ba _ _ _ _ _ (0,0) r];rfl
 have y:(w.alloc (yM #[Z b (C L) f,Z c (C L2) g,Z d (C a) i,zZ bk] 47)).cell? ⟨O (T w),2,N⟩=M (Z d (C a) i):=by rw[ba _ _ _ _ _ (0,0) r];rfl
 have j:da w (w.alloc (yM #[Z b (C L) f,Z c (C L2) g,Z d (C a) i,zZ bk] 47)):=(au _ w).alloc (ah _) _;have s:=Fa (Wv (cx:=f) (cy:=g) (cz:=i) (h1.aa j) (k.aa j) (m.aa j));have Bb:=Fa (j.trans (((au _ _).alloc (ah _) (yM #[Z b (C L) f,Z c (C L2) g,Z d (C a) i] 27)).ae j.size))
 have V:wT (∀(G:Nat) (U:E),dP U (M ⟨G,0,N⟩) [L,L2,a] ->c6 26 #[Z (M ⟨G,0,N⟩) 3 3] U fun e w'=>∃q,e=yW (zZ q)/\w'=U):=fun G U t=>(aci (M ⟨G,0,N⟩) 3 [L,L2,a] U t (fun l n=>by
  simp only[bY,gK,jq] at n;rcases n with rfl |rfl |rfl<;>assumption) aE).ae fun e w' ⟨q,h,_,p⟩=>⟨q,h,p⟩
 rw[show O (T (w.alloc (yM #[Z b (C L) f,Z c (C L2) g,Z d (C a) i,zZ bk] 47)))=O (T w)+1 by simp] at s;clear h1 k m l1 l2 u r j;go_enter func25,ntmps25;go_wp2_with fail
 refine(V.o _ _ s.o).ae ?_;rintro e z ⟨q,rfl,rfl⟩;clear v x y;go_wp2;go_ret;exact⟨q,rfl,Bb.o⟩
variable {ca cb cc:Nat} {a:Kd} {W':E}
structure TS (w W:E) (B:Nat) (a b c:Kd) (ca cb cc:Nat) (V:List Vr) (L:List Kx) (R:List (List Fr)):Prop where
 box:cj W B (Z a (C V) ca) (Z b (C L) cb) (Z c (C R) cc)
 net:AA W a b c V L R
 fr:da w W
theorem TS.step {W:E} {B:Nat} {b c:Kd} (h:TS w W B a b c ca cb cc V L R) (d:da W W'):TS w W' B a b c ca cb cc V L R:=
 ⟨h.box.aa d h.box.lt,h.net.aa d,h.fr.trans (d.ae h.fr.size)⟩
theorem ajU {Bb:Kx} (h:Up l n):Up (qi l Bb) n:=
 eH.2 ⟨fun x a=>(eH.1 h).1 x (dC.1 a).1,(eH.1 h).2.filter _⟩
theorem Hu (h:Up l n) (a:n<=6):C l<=6:=by have:=h.length;omega
theorem A2 (h:Up l n):(af l).Nodup:=by
 rw[af];refine CN.2 ((eH.1 h).2.imp_of_mem fun {a b} c d e=>?_);have:=(eH.1 h).1 a c;omega
theorem any_none {Y:Kx} {d l:List (Nat×Nat)} (h1:∀v∈af Y,¬v∈d.map (·.1)) (a:∀p∈l,¬p.1∈d.map (·.1)):Sz (zF d) Y (zF l)=false:=by
 rw[Sz,JX];intro q b;obtain⟨p,h,rfl⟩:=aN.1 b;rw[Bool.not_eq_true,Bool.or_eq_false_iff];refine⟨?_,?_⟩
 ·rw[<- Bool.not_eq_true,CR];intro m;exact h1 p.1 (aN.2 ⟨_,m,aE⟩) (aN.2 ⟨p,h,rfl⟩)
 ·rw[JX];intro r c e;obtain⟨s,hs,rfl⟩:=aN.1 c
  have:s.1=p.1:=by
   have:=eq_of_beq e;omega
  exact a s hs (aN.2 ⟨p,h,this.symm⟩)
theorem akk (a b:Kd) (ca cb:Nat) (l:List Fr) (w:E) (h:dH w a l) (c:dH w b l) (s:C l<=100000):
  c6 32 #[Z a (C l) ca,Z b (C l) cb] w (dj w (zZ y6)):=by
 have A:=Fa h;have d:=Fa c;clear h c;go_enter func32,ntmps32;go_wp2_with fail
 go_loopw [5] (fun iv wr=>∃i:Nat,i<=C l/\iv=J I i/\wT (da w wr)) (fun iv _=>C l - (intOf iv).toNat)
 case atStart=>exact⟨0,aV _,rfl,au _ _⟩
 case round=>
  obtain⟨i,r,rfl,H⟩:=hrel;by_cases t:i<C l
  ·obtain⟨g,o,rfl,q,e,j,k⟩:=(A.o.aa H.o) i t;obtain⟨p,u,rfl,v,m,n,b2⟩:=(d.o.aa H.o) i t;generalize l[i]=f at *;obtain⟨fn,fx,fy⟩:=f;simp only at e j k m n b2;go_wp2_with fail
   go_quiet (fail)
   go_wp2;go_roundw
   case rel=>exact⟨i+1,al,bd,LW H.o _⟩
   case measure=>simp[intOf];omega
  ·obtain rfl:i=C l:=al
   go_wp2;go_ret;exact⟨rfl,H.o⟩
structure B5 (w U:E) (r:Nat):Prop where
 res:aZ U r (Z N 0 0) (Z N 0 0)
 hr:O (T w)<=r
 bel:da w U
theorem B5.step (h:B5 w U r) (b:da U U'):B5 w U' r:=⟨h.res.aa b h.res.lt,h.hr,h.bel.trans (b.ae h.bel.size)⟩
theorem B5.at (h:da w U) (a:O (T U)=r):B5 w (U.alloc (yM #[Z N 0 0,Z N 0 0] 38)) r:=by
 subst a;exact⟨dU U _,h.size,h.alloc h.size _⟩
theorem aZ.put_tb {x p q:wF} {t:Tb} (h:aZ U g x y) (e:bV x) (f:bV y) (d:bJ U p q t) (x' a:wF):bJ ((U.setCell ⟨g,0,N⟩ x').setCell ⟨g,1,N⟩ a) p q t:=
 d.x (((eK.refl [g] U).put (b:=g) (yd aE) 0 x').put (b:=g) (yd aE) 1 a) fun _ _ c=>Sk h e f c
theorem B5.o (h:B5 w U r) (p q:wF):da w ((U.setCell ⟨r,0,N⟩ p).setCell ⟨r,1,N⟩ q)/\∀(x y:wF) (t:Tb),bJ U x y t ->bJ ((U.setCell ⟨r,0,N⟩ p).setCell ⟨r,1,N⟩ q) x y t:=
 ⟨(((eK.refl [r] U).put (b:=r) (yd aE) 0 p).put (b:=r) (yd aE) 1 q).low h.bel fun k a=>by rw[bA.1 a];exact h.hr,fun _ _ _ c=>h.res.put_tb (slv _ _ _) (slv _ _ _) c _ _⟩
theorem alw (a:Kd) (ca:Nat) (S:Ja) (u v x y x' D:wF) (s t:Tb) (w:E) (hu:bV u) (hv:bV v) (F:fK (iL S)) (hs:aB w a (iL S)) (h:bJ w x y s) (m:bJ w x' D t) (K:dG S (C S) s) (B9:dG S (C S) t) (L:Cw 100000 s.2) (P:Cw 100000 t.2):
  c6 51 #[zd #[Z a (C S) ca,u,v],zd #[x,y],zd #[x',D]] w fun e w'=>∃p q,e=yW (zd #[p,q])/\bJ w' p q (uX S s t)/\da w w':=by
 have Q:=Fa (fun (U:E) (z:da w U)=>aeO a ca S x y x' D s t U F (hs.aa z) (h.aa z) (m.aa z) K B9 L P);obtain⟨⟨ub,un,uc,rfl⟩,⟨vb,vn,vc,rfl⟩⟩:=And.intro hu hv;obtain⟨⟨xb,xn,xc,rfl⟩,⟨yb,yn,yc,rfl⟩⟩:=h.slices;obtain⟨⟨jY,X,Y,rfl⟩,⟨iN,JZ,V,rfl⟩⟩:=m.slices;clear hs h m K B9 L P F;have l:da w (w.alloc (yM #[Z a (C S) ca,Z ub un uc,Z vb vn vc] 86)):=(au _ w).alloc (ah _) _;have b2:=l.alloc l.size (yM #[Z xb xn xc,Z yb yn yc] 38);have H:=b2.alloc b2.size (yM #[Z jY X Y,Z iN JZ V] 38);have A:=Fa (B5.at (r:=O (T w)+1+1+1) H aE);clear l b2 H;generalize uX S s t=R at *;go_enter func51,ntmps51;go_wp2_with fail
 refine(Q.o _ A.o.bel).ae ?_;rintro e b ⟨⟨p,q,rfl,B7, -⟩,Bh⟩;obtain⟨⟨c,n,d,rfl⟩,⟨i,qn,j,rfl⟩⟩:=B7.slices;have Bj:da b (b.alloc (yM #[Z c n d,Z i qn j] 38)):=(au _ b).alloc (ah _) _;have k:aZ (b.alloc (yM #[Z c n d,Z i qn j] 38)) (O (T b)) (Z c n d) (Z i qn j):=dU b _;have f:=(A.o.step Bh).step Bj;have Bm:=B7.aa Bj;obtain⟨gt,dY⟩:∃g,O (T b)=g:=⟨_,rfl⟩;obtain⟨w2,ab⟩:∃U,b.alloc (yM #[Z c n d,Z i qn j] 38)=U:=⟨_,rfl⟩;rw[ab] at k f Bm;rw[dY] at k;have qI:=Fa Bm;have Ba:=Fa f;obtain⟨t0,t1, -, -⟩:=k.facts;obtain⟨r0,r1, -, -⟩:=f.res.facts;have f0:=gj _ (O (T w)+1+1+1) 0 _ _ f.res;have f1:=gj _ (O (T w)+1+1+1) 1 _ _ f.res;clear Bh B7 Bj k f Bm A Q;go_wp2_with fail
 refine dI ((Ba.o.res.put _ _).result1 rfl _ rfl) rfl ?_;have Bb:=Ba.o.o (Z c n d) (Z i qn j);exact⟨_,_,rfl,Bb.2 _ _ _ qI.o,Bb.1⟩
def lW (S:Ja) (t:Tb) (l:Kx):Tb:=l.foldl (fun u v=>outT S v.toNat xd u) t
def L9 (S:Ja) (t:Tb) (l:Kx):Prop:=∀i (h:i<C l),∃v:Nat,l[i]=(v:Int)/\v<C S/\v∈af (lW S t (l.take i)).1/\dG S (C S) (lW S t (l.take i))/\Cw 8192 (lW S t (l.take i)).2
theorem anB (S:Ja) (t:Tb) (l:Kx) (h:i<C l) (a:l[i]=(v:Int)):lW S t (l.take (i+1))=outT S v xd (lW S t (l.take i)):=by
 rw[gR h,lW,List.foldl_append,tY,List.foldl_nil,a];rfl
theorem WS (a b:Kd) (ca cb:Nat) (S:Ja) (x y:wF) (t:Tb) (l:Kx) (w:E) (aR:fK (iL S)) (hs:aB w a (iL S)) (h:bJ w x y t) (m:aB w b l) (mY:t.1.length<=1000) (hl:C l<=1000) (Q:L9 S t (fN t.1 l)):
  c6 53 #[zd #[Z a (C S) ca,x,y],Z b (C l) cb] w fun e w'=>∃p q,e=yW (zd #[p,q])/\bJ w' p q (lW S t (fN t.1 l))/\da w w':=by
 have Jr:=Fa (fun (i:Nat) (B9:i<C (fN t.1 l)) (p q:wF) (U:E) (z:da w U) (hp:bJ U p q (lW S t ((fN t.1 l).take i)))=>by
  obtain⟨v,h1,h2,h3,h4,h5⟩:=Q i B9;have:=ad6 a ca S p q (lW S t ((fN t.1 l).take i)) v U aR (hs.aa z) hp h4 h5 h2 h3;rw[<- anB S t _ B9 h1, <- h1] at this;exact this)
 obtain⟨c,yb,f,j,rfl,rfl,n,hy,aj⟩:=h;have yR:=Fa (fun (U:E) (z:da w U)=>Xs c b f cb t.1 l U (n.aa z) (m.aa z) al al);have ad:=Fa (show bJ w (Z c t.1.length f) (Z yb t.2.length j) t from ⟨_,_,_,_,rfl,rfl,n,hy,aj⟩);have FE:C (fN t.1 l)<=1000:=aM (oT _ _) mY;have H0:wT (lW S t ((fN t.1 l).take 0)=t):=rfl;have HE:wT (lW S t ((fN t.1 l).take (C (fN t.1 l)))=lW S t (fN t.1 l)):=by show _=_;rw[iD]
 clear hs n hy aj m Q aR;generalize fN t.1 l=L at *;have b1:da w (w.alloc (yM #[Z a (C S) ca,Z c t.1.length f,Z yb t.2.length j] 86)):=(au _ w).alloc (ah _) _;have s:=ig.at (w:=w) rfl (Z a (C S) ca) (Z c t.1.length f) (Z yb t.2.length j);have b2:=B5.at (r:=O (T w)+1) b1 aE;have c2:Below (O (T (w.alloc (yM #[Z a (C S) ca,Z c t.1.length f,Z yb t.2.length j] 86)))) _ ((w.alloc (yM #[Z a (C S) ca,Z c t.1.length f,Z yb t.2.length j] 86)).alloc (yM #[Z N 0 0,Z N 0 0] 38)):=(au _ _).alloc (ah _) _;have o:=s.aa c2 s.lt;have Bh:Below _ ((w.alloc (yM #[Z a (C S) ca,Z c t.1.length f,Z yb t.2.length j] 86)).alloc (yM #[Z N 0 0,Z N 0 0] 38)) (((w.alloc (yM #[Z a (C S) ca,Z c t.1.length f,Z yb t.2.length j] 86)).alloc (yM #[Z N 0 0,Z N 0 0] 38)).alloc (yM #[Z c t.1.length f,Z yb t.2.length j] 38)):=(au _ _).alloc (ah _) _;have b3:=b2.step Bh;have s3:=o.aa Bh o.lt;have hX:aZ (((w.alloc (yM #[Z a (C S) ca,Z c t.1.length f,Z yb t.2.length j] 86)).alloc (yM #[Z N 0 0,Z N 0 0] 38)).alloc (yM #[Z c t.1.length f,Z yb t.2.length j] 38)) (O (T w)+1+1) (Z c t.1.length f) (Z yb t.2.length j):=aZ.at aE _ _;have A:=Fa b3;have H:=Fa s3;have X:=Fa hX
 clear b1 s b2 c2 o Bh b3 s3 hX;go_enter func53,ntmps53;go_wp2_with fail
 refine(yR.o _ A.o.bel).ae ?_;rintro e w1 ⟨d,cd,rfl,hd, -,F⟩;have Bj:=Fa (A.o.step F);have ir:=Fa (H.o.aa F H.o.lt);have Y:=Fa (X.o.aa F X.o.lt);have HD:=Fa hd;have R:=Fa (ad.o.aa Bj.o.bel);clear A H X F hd ad;go_wp2_with fail
 go_loopw [15] (fun iv wr=>∃(i:Nat) (p q:wF),i<=C L/\iv=J I i/\wT (aZ wr (O (T w)+1+1) p q)/\wT (bJ wr p q (lW S t (L.take i)))/\wT (B5 w wr (O (T w)+1))/\wT (ig wr (O (T w)) (Z a (C S) ca) (Z c t.1.length f) (Z yb t.2.length j))/\wT (aB wr d L)) (fun iv _=>C L - (intOf iv).toNat)
 case atStart=>exact⟨0,_,_,aV _,rfl,Y,by rw[H0.o];exact R,Bj,ir,HD⟩
 case round=>
  obtain⟨i,p,q,B9,rfl,X,V,A,H,P⟩:=hrel;clear Y R Bj ir HD;obtain⟨⟨pb,pn,pc,rfl⟩,⟨qb,qn,qc,rfl⟩⟩:=V.o.slices;obtain⟨x0,x1,J6,J5⟩:=X.o.facts;obtain⟨s0,s,o⟩:=H.o.cells;by_cases ai:i<C L
  ·obtain⟨g,az,rfl,hg,Bb⟩:=P.o i ai;have HM:=Fa (Jr.o i ai (Z pb pn pc) (Z qb qn qc) wr A.o.bel V.o);go_wp2_with fail
   refine HM.o.ae ?_;rintro e w3 ⟨⟨p',q',rfl,B7, -⟩,m⟩;obtain⟨⟨an,aq,ao,rfl⟩,⟨av,ay,ax,rfl⟩⟩:=B7.slices;have Bm:=Fa (X.o.aa m X.o.lt);have u:=Fa (A.o.step m);have Ba:=Fa (H.o.aa m H.o.lt);have ab:=Fa (P.o.aa m);have ak:=Fa B7;clear m B7 X V A H P HM x0 x1 J6 J5 s0 s o Bb hg;obtain⟨x0,x1,J6,J5⟩:=Bm.o.facts;have D:=((eK.refl [O (T w)+1+1] w3).put (b:=O (T w)+1+1) (yd aE) 0 (Z an aq ao)).put (b:=O (T w)+1+1) (yd aE) 1 (Z av ay ax);have K:=Fa D;clear D;go_wp2_with fail
   go_roundw
   case rel=>
    refine⟨i+1,_,_,al,bd,Fa (Bm.o.put _ _),Fa (Bm.o.put_tb (slv _ _ _) (slv _ _ _) ak.o _ _),Fa ⟨?_,u.o.hr,K.o.low u.o.bel fun k D=>by rw[bA.1 D];omega⟩,Fa ?_,Fa (KR ab.o (Sk Bm.o (slv _ _ _) (slv _ _ _) fun h0=>?_) K.o)⟩
    ·exact(K.o.block _ u.o.res.lt aE).trans u.o.res
    ·exact(K.o.block _ Ba.o.lt (by simp;omega)).trans Ba.o
    ·obtain⟨g',o',e,_,Bb⟩:=ab.o 0 al;exact⟨g',o',_,e,Bb,Sn⟩
   case measure=>simp[intOf];omega
  ·obtain rfl:i=C L:=al
   obtain⟨r0,r1, -, -⟩:=A.o.res.facts;have f0:=gj _ (O (T w)+1) 0 _ _ A.o.res;have f1:=gj _ (O (T w)+1) 1 _ _ A.o.res;have P5:=Fa (HE.o▸V.o);go_wp2_with fail
   refine dI ((A.o.res.put _ _).result1 rfl _ rfl) rfl ?_;have n:=A.o.o (Z pb pn pc) (Z qb qn qc);exact⟨_,_,rfl,n.2 _ _ _ P5.o,n.1⟩
theorem ig.result2 {x:wF} (h:ig w g s x y) {p u:Tmp} (r:fn.results= #[.cell p 86,.tmp u]) (m:Array wF) (a:m.getD p wQ=zR (M ⟨g,0,N⟩)):
  (results fn m).run prog w=.ok (zp #[zd #[s,x,y],m.getD u wQ]) w:=by
 rw[results_cell_tmp r,a];simp only[asAddr,zi,vZ];rw[run_loadVar_row w g _ 86 _ _ _ h underlying86 rfl ao];rfl
theorem Wm (w:E) (x y:Int):aB (w.alloc (yM #[J I x,J I y] 3)) (M ⟨O (T w),0,N⟩) [x,y]:=fun k a=>by
 have h:=dU w (yM #[J I x,J I y] 3);refine⟨O (T w),0,rfl,aE,?_⟩;match k,a with
 |0,_=>exact(ba _ (O (T w)) _ _ _ (0,0) h).trans rfl
 |1,_=>exact(ba _ (O (T w)) _ _ _ (0,0) h).trans rfl
structure xr (w U:E) (p q r:wF) (v z:wF):Prop where
 nb:cj U (O (T w)) p q r
 ft:U.heap[O (T w)+1]? =M (yM #[v,z] 30 (0,0))
 res:ig U (O (T w)+1+1) (Z N 0 0) (Z N 0 0) (Z N 0 0)
 bel:da w U
theorem xr.step {p q r v:wF} (h:xr w U p q r v z) (b:da U U'):xr w U' p q r v z:=⟨h.nb.aa b h.nb.lt,(b.block _ (cS.1 h.ft).1).trans h.ft,h.res.aa b h.res.lt,h.bel.trans (b.ae h.bel.size)⟩
theorem xr.fact {p q r v:wF} (h:xr w U p q r v z):U.cell? ⟨O (T w)+1,0,N⟩=M v:=(ba U _ 0 _ _ (0,0) h.ft).trans rfl
theorem xr.fact2 {p q r v:wF} (h:xr w U p q r v z):U.cell? ⟨O (T w)+1,1,N⟩=M z:=(ba U _ 1 _ _ (0,0) h.ft).trans rfl
theorem xr.begin (w:E) (p q r v z:wF):xr w (((w.alloc (yM #[p,q,r] 26)).alloc (yM #[v,z] 30)).alloc (yM #[Z N 0 0,Z N 0 0,Z N 0 0] 86)) p q r v z:=by
 have e:=cj.at (w:=w) rfl p q r;have b:da w (w.alloc (yM #[p,q,r] 26)):=(au _ w).alloc (ah _) _;have b2:=b.alloc b.size (yM #[v,z] 30);have d:=b2.alloc b2.size (yM #[Z N 0 0,Z N 0 0,Z N 0 0] 86);have c:Below (O (T (w.alloc (yM #[p,q,r] 26)))) (w.alloc (yM #[p,q,r] 26)) ((w.alloc (yM #[p,q,r] 26)).alloc (yM #[v,z] 30)):=(au _ _).alloc (ah _) _;have f:=c.alloc c.size (yM #[Z N 0 0,Z N 0 0,Z N 0 0] 86);have a:=dU (w.alloc (yM #[p,q,r] 26)) (yM #[v,z] 30);have g:Below (O (T ((w.alloc (yM #[p,q,r] 26)).alloc (yM #[v,z] 30)))) _ (((w.alloc (yM #[p,q,r] 26)).alloc (yM #[v,z] 30)).alloc (yM #[Z N 0 0,Z N 0 0,Z N 0 0] 86)):=(au _ _).alloc (ah _) _;have h:=(g.block _ (cS.1 a).1).trans a;exact⟨e.aa f e.lt,by simpa using h,ig.at aE _ _ _,d⟩
theorem alo {p q r v x:wF} {t:Tb} (h:xr w U p q r v z) (X:aZ U g (Z N 0 0) (Z N 0 0)) (P:bJ U x y t) (c:O (T w)+1+1<g):xr w ((U.setCell ⟨g,0,N⟩ x).setCell ⟨g,1,N⟩ y) p q r v z/\bJ ((U.setCell ⟨g,0,N⟩ x).setCell ⟨g,1,N⟩ y) x y t/\True:=by
 have a:=((eK.refl [g] U).put (b:=g) (yd aE) 0 x).put (b:=g) (yd aE) 1 y;exact⟨⟨(a.block _ h.nb.lt (by simp;omega)).trans h.nb,(a.block _ (cS.1 h.ft).1 (by simp;omega)).trans h.ft,(a.block _ h.res.lt (by simp;omega)).trans h.res,a.low h.bel fun k m=>by rw[bA.1 m];omega⟩,X.put_tb (slv _ _ _) (slv _ _ _) P _ _,trivial⟩
theorem alp {p q r v x e:wF} {t:Tb} {G:Nat} {l:Ja} (h:xr w U p q r v z) (P:bJ U x y t) (R:cP U G l) (i:0<C l) (X:aZ U g x' e) (j:O (T w)+1+1<g) (s a c:wF):
  cP (((U.setCell ⟨O (T w)+1+1,0,N⟩ s).setCell ⟨O (T w)+1+1,1,N⟩ a).setCell ⟨O (T w)+1+1,2,N⟩ c) G l/\bJ (((U.setCell ⟨O (T w)+1+1,0,N⟩ s).setCell ⟨O (T w)+1+1,1,N⟩ a).setCell ⟨O (T w)+1+1,2,N⟩ c) x y t/\da w (((U.setCell ⟨O (T w)+1+1,0,N⟩ s).setCell ⟨O (T w)+1+1,1,N⟩ a).setCell ⟨O (T w)+1+1,2,N⟩ c)/\cj (((U.setCell ⟨O (T w)+1+1,0,N⟩ s).setCell ⟨O (T w)+1+1,1,N⟩ a).setCell ⟨O (T w)+1+1,2,N⟩ c) (O (T w)) p q r/\aZ (((U.setCell ⟨O (T w)+1+1,0,N⟩ s).setCell ⟨O (T w)+1+1,1,N⟩ a).setCell ⟨O (T w)+1+1,2,N⟩ c) g x' e:=by
 have k:=(((eK.refl [O (T w)+1+1] U).put (b:=O (T w)+1+1) (yd aE) 0 s).put (b:=O (T w)+1+1) (yd aE) 1 a).put (b:=O (T w)+1+1) (yd aE) 2 c;refine⟨(k.block G (cS.1 R).1 fun m=>?_).trans R,h.res.put_tb (slv _ _ _) (slv _ _ _) (slv _ _ _) P _ _ _,ig.put_below h.bel al _ _ _,(k.block _ h.nb.lt (by simp;omega)).trans h.nb,(k.block _ X.lt (by simp;omega)).trans X⟩;rw[bA.1 m] at R;have f:=h.res.cells.1;have d:=R.cell 0 i;rw[f] at d;cases d
theorem alq (a b c bz:Kd) (ca cb cc cz:Nat) (V:List Vr) (L:List Kx) (R:List (List Fr)) (x vx y:Int) (z:Kx) (w:E) (h:AA w a b c V L R) (hl:∀l∈L,C l<=1000) (hz:aB w bz z) (ak:bz=N ->cz=0) (a1:C z<=500) (hf:mo V L R [(x,vx)]=0) (av:kA L [[x],[y],z]=0) (eJ:([x,y]++z).Nodup) (mg:wE V L R (aU [x,y] z) []=0) (ng:C (aU [x,y] z)<=1000) (aq:0<C V):
  c6 49 #[zd #[Z a (C V) ca,Z b (C L) cb,Z c (C R) cc],zd #[J I x,J I vx],J I y,Z bz (C z) cz] w fun e w'=>∃G p q,e=yW (zp #[zd #[Z (M ⟨G,0,N⟩) (C V) (C V),p,q],J I 0])/\cP w' G (ag V)/\bJ w' p q (lU V L R (aU [x,y] z) [])/\da w w':=by
 have kS:0<(lU V L R (aU [x,y] z) []).1.length:=by
  rw[lU,aw mg];exact VT (((C1 [x,y] z).2 x).2 (yd aE))
 have ay:wT (0<C (ag V)):=by show _<_;rw[lq];exact aq
 have an:wT (∀(g:Nat) (U:E),da w U ->kn U (M ⟨g,0,N⟩) [(x,vx)] ->c6 36 #[zd #[Z a (C V) ca,Z b (C L) cb,Z c (C R) cc],Z (M ⟨g,0,N⟩) 1 1] U fun e w'=>e=yW (J I 0)/\da U w'):=fun g U B9 hc=>by
  have:=Yd a b c (M ⟨g,0,N⟩) ca cb cc 1 V L R [(x,vx)] U (h.net.aa B9) h.sm hc aE aE;rw[hf] at this;exact this
 have ai:=Fa (fun (U:E) (B9:da w U)=>ahD b bz cb cz L x y z U (h.net.pars.aa B9) hl (hz.aa B9) ak al);rw[av] at ai;have aj:wT (∀(gb:Nat) (U:E),da w U ->aB U (M ⟨gb,0,N⟩) [x,y] ->c6 80 #[Z (M ⟨gb,0,N⟩) 2 2,Z bz (C z) cz] U fun e w'=>∃(d:Kd) (Bm:Nat),e=yW (Z d (C (aU [x,y] z)) Bm)/\aB w' d (aU [x,y] z)/\(d=N ->Bm=0)/\da U w'):=fun gb U B9 hi=>ab8 (M ⟨gb,0,N⟩) bz 2 cz [x,y] z U hi (hz.aa B9) (fun e=>by cases e) ak aE al eJ
 have yQ:wT (∀(d:Kd) (Bm:Nat) (U:E),da w U ->aB U d (aU [x,y] z) ->c6 44 #[zd #[Z a (C V) ca,Z b (C L) cb,Z c (C R) cc],Z d (C (aU [x,y] z)) Bm,Z N 0 0] U fun e w'=>(∃p q,e=yW (zp #[zd #[p,q],J I 0])/\bJ w' p q (lU V L R (aU [x,y] z) []))/\da U w'):=fun d Bm U B9 hi=>by
  refine(afw a b c d N ca cb cc Bm 0 V L R (aU [x,y] z) [] U (h.aa B9) hi ng (fun k hk=>absurd hk aE) aE aE mg).ae fun e w' ⟨ht,f⟩=>⟨?_,f⟩;obtain⟨tb,tc,xj,vG,rfl,hq,hc⟩:=ht;exact⟨_,_,rfl,tb,tc,xj,vG,rfl,rfl,hq,hc,fun e=>by subst e;obtain⟨_,_,e,_⟩:=hq 0 kS;cases e⟩
 have ik:=Fa (fun (U:E) (B9:da w U)=>NF a b c ca cb cc (C L) (C R) V U (h.net.aa B9).Fd h.sm.Fd.1);have hT:=xr.begin w (Z a (C V) ca) (Z b (C L) cb) (Z c (C R) cc) (J I x) (J I vx);have H:=Fa hT;clear hT h hl hz ak hf av eJ mg kS ng aq;generalize aU [x,y] z=Q at *;generalize lU V L R Q []=Ba at *;generalize ag V=SZ at *;go_enter func49,ntmps49;go_upto_region 1 with fail
 generalize (((w.alloc (yM #[Z a (C V) ca,Z b (C L) cb,Z c (C R) cc] 26)).alloc (yM #[J I x,J I vx] 30)).alloc (yM #[Z N 0 0,Z N 0 0,Z N 0 0] 86))=W0 at *;obtain⟨n0,n1,n2⟩:=H.o.nb.cells;have t0:=H.o.fact;have t1:=H.o.fact2;go_wp2_with fail
 have Bj:da W0 (W0.alloc (yM #[J I x,J I vx] 30)):=(au _ W0).alloc (ah _) _;have Cg:=Fa (H.o.step Bj);refine(an.o (O (T W0)) _ Cg.o.bel (Sp W0 x vx)).ae ?_;rintro e w1 ⟨rfl,f⟩;replace H:=Fa (Cg.o.step f);clear Bj Cg f n0 n1 n2 t0 t1 an;obtain⟨n0,n1,n2⟩:=H.o.nb.cells;have t0:=H.o.fact;go_wp2_with fail
 have Lh:=ai.o w1 H.o.bel;refine Lh.1.ae ?_;rintro e w2 ⟨rfl,f⟩;replace H:=Fa ((H.o.step Lh.2).step f);clear Lh f n0 n1 n2 t0 ai;go_wp2_with fail
 replace H:=Fa (H.o.step ((au _ _).drew));refine iK (S:=fun u=>(u.cell? ⟨O (T w),0,N⟩=M (Z a (C V) ca)/\u.cell? ⟨O (T w),1,N⟩=M (Z b (C L) cb)/\u.cell? ⟨O (T w),2,N⟩=M (Z c (C R) cc))/\u.cell? ⟨O (T w)+1,0,N⟩=M (J I x)) ao ⟨H.o.nb.cells,H.o.fact⟩ (fun tu=>?_);generalize w2.drew=t at *;refine cU 0 ((zd #[Z a (C V) ca,Z b (C L) cb,Z c (C R) cc])) ?_ ?_
 ·intro u' aJ;try simp only[gE];obtain⟨⟨s1,s2,s3⟩,s4⟩:=aJ;go_simp
 refine ar 1 (zR (M ⟨O (T w)+1,0,N⟩)) ?_;try simp only[gE,aP]
 refine cU 2 (J I x) ?_ ?_
 ·intro u' aJ;try simp only[gE];obtain⟨⟨s1,s2,s3⟩,s4⟩:=aJ;go_simp
 refine ar 3 (J I y) ?_;refine ar 5 (Z bz (C z) cz) ?_;refine aF [4,11] (cA ?_ (cA ?_ aG))
 focus
  intro j K;go_simp;have Bj:da t (t.alloc (yM #[J I x,J I y] 3)):=(au _ t).alloc (ah _) _;have n:=Wm t x y;replace H:=Fa (H.o.step Bj);obtain⟨gb,r⟩:∃g,O (T t)=g:=⟨_,rfl⟩;obtain⟨s,m⟩:∃F,t.alloc (yM #[J I x,J I y] 3)=F:=⟨_,rfl⟩;rw[m] at H n;rw[r] at n;have Bb:=Fa n;simp only[m,r];refine K.o _ _ ⟨H.o.nb.cells,H.o.fact⟩ (fun ab=>?_);clear K j tu Bj n r m;refine aF [6,11] (cA ?_ (cA ?_ aG))
  focus
   intro j K;go_simp;refine(aj.o gb s (H.o.bel) Bb.o).ae ?_;rintro e A ⟨d,Bm,rfl,hd,oq,f⟩;replace H:=Fa (H.o.step f);have D:=Fa (And.intro hd oq);refine K.o _ _ ⟨H.o.nb.cells,H.o.fact⟩ (fun kF=>?_);clear K j ab f hd oq Bb;refine aF [7,11] (cA ?_ (cA ?_ aG))
   focus
    intro j K;go_simp;refine(yQ.o d Bm A H.o.bel D.o.1).ae ?_;rintro e v ⟨⟨p,q,rfl,B7⟩,f⟩;replace H:=Fa (H.o.step f);have P:=Fa B7;refine K.o _ _ ⟨H.o.nb.cells,H.o.fact⟩ (fun nk=>?_);clear K j kF f B7 D;refine ar 8 ((zp #[zd #[p,q],J I 0])) ?_;refine ar 9 ((zd #[p,q])) ?_;refine ar 10 (J I 0) ?_;refine aF [11] (cA ?_ aG);intro j K;go_simp;have Bj:da v (v.alloc (yM #[Z N 0 0,Z N 0 0] 38)):=(au _ v).alloc (ah _) _;have n:aZ (v.alloc (yM #[Z N 0 0,Z N 0 0] 38)) (O (T v)) (Z N 0 0) (Z N 0 0):=dU v _;have Y:O (T w)+1+1<O (T v):=H.o.res.lt;replace H:=Fa (H.o.step Bj);replace P:=Fa (P.o.aa Bj);obtain⟨gt,r⟩:∃g,O (T v)=g:=⟨_,rfl⟩;obtain⟨z4,m⟩:∃F,v.alloc (yM #[Z N 0 0,Z N 0 0] 38)=F:=⟨_,rfl⟩;rw[m] at H n P;rw[r] at n Y;have i:=Fa n;have HG:=Fa Y;simp only[m,r];refine K.o _ _ ⟨H.o.nb.cells,H.o.fact⟩ (fun q9=>?_);clear K j nk Bj n r m Y
   rotate_left
   focus
    intro j K;go_simp;have Bj:da A (A.alloc (yM #[Z N 0 0,Z N 0 0] 38)):=(au _ A).alloc (ah _) _;have n:aZ (A.alloc (yM #[Z N 0 0,Z N 0 0] 38)) (O (T A)) (Z N 0 0) (Z N 0 0):=dU A _;have Y:O (T w)+1+1<O (T A):=H.o.res.lt;replace H:=Fa (H.o.step Bj);replace D:=Fa (And.intro (D.o.1.aa Bj) D.o.2);obtain⟨gt,r⟩:∃g,O (T A)=g:=⟨_,rfl⟩;obtain⟨v,m⟩:∃F,A.alloc (yM #[Z N 0 0,Z N 0 0] 38)=F:=⟨_,rfl⟩;rw[m] at H n D;rw[r] at n Y;have i:=Fa n;have HG:=Fa Y;simp only[m,r];refine K.o _ _ ⟨H.o.nb.cells,H.o.fact⟩ (fun nk=>?_);clear K j kF Bj n r m Y;refine aF [7] (cA ?_ aG);intro j K;go_simp;refine(yQ.o d Bm v H.o.bel D.o.1).ae ?_;rintro e z4 ⟨⟨p,q,rfl,B7⟩,f⟩;replace H:=Fa (H.o.step f);replace i:=Fa (i.o.aa f i.o.lt);have P:=Fa B7;refine K.o _ _ ⟨H.o.nb.cells,H.o.fact⟩ (fun q9=>?_);clear K j nk f B7 D;refine ar 8 ((zp #[zd #[p,q],J I 0])) ?_;refine ar 9 ((zd #[p,q])) ?_;refine ar 10 (J I 0) ?_
  rotate_left 2
  focus
   intro j K;go_simp;have Bj:da s (s.alloc (yM #[Z N 0 0,Z N 0 0] 38)):=(au _ s).alloc (ah _) _;have n:aZ (s.alloc (yM #[Z N 0 0,Z N 0 0] 38)) (O (T s)) (Z N 0 0) (Z N 0 0):=dU s _;have Y:O (T w)+1+1<O (T s):=H.o.res.lt;replace H:=Fa (H.o.step Bj);replace Bb:=Fa (Bb.o.aa Bj);obtain⟨gt,r⟩:∃g,O (T s)=g:=⟨_,rfl⟩;obtain⟨A,m⟩:∃F,s.alloc (yM #[Z N 0 0,Z N 0 0] 38)=F:=⟨_,rfl⟩;rw[m] at H n Bb;rw[r] at n Y;have i:=Fa n;have HG:=Fa Y;simp only[m,r];refine K.o _ _ ⟨H.o.nb.cells,H.o.fact⟩ (fun kF=>?_);clear K j ab Bj n r m Y;refine aF [6] (cA ?_ aG);intro j K;go_simp;refine(aj.o gb A (H.o.bel) Bb.o).ae ?_;rintro e v ⟨d,Bm,rfl,hd,oq,f⟩;replace H:=Fa (H.o.step f);replace i:=Fa (i.o.aa f i.o.lt);have D:=Fa (And.intro hd oq);refine K.o _ _ ⟨H.o.nb.cells,H.o.fact⟩ (fun nk=>?_);clear K j kF f hd oq Bb;refine aF [7] (cA ?_ aG);intro j K;go_simp;refine(yQ.o d Bm v H.o.bel D.o.1).ae ?_;rintro e z4 ⟨⟨p,q,rfl,B7⟩,f⟩;replace H:=Fa (H.o.step f);replace i:=Fa (i.o.aa f i.o.lt);have P:=Fa B7;refine K.o _ _ ⟨H.o.nb.cells,H.o.fact⟩ (fun q9=>?_);clear K j nk f B7 D;refine ar 8 ((zp #[zd #[p,q],J I 0])) ?_;refine ar 9 ((zd #[p,q])) ?_;refine ar 10 (J I 0) ?_
 rotate_left 3
 focus
  intro j K;go_simp;have Bj:da t (t.alloc (yM #[Z N 0 0,Z N 0 0] 38)):=(au _ t).alloc (ah _) _;have n:aZ (t.alloc (yM #[Z N 0 0,Z N 0 0] 38)) (O (T t)) (Z N 0 0) (Z N 0 0):=dU t _;have Y:O (T w)+1+1<O (T t):=H.o.res.lt;replace H:=Fa (H.o.step Bj);obtain⟨gt,r⟩:∃g,O (T t)=g:=⟨_,rfl⟩;obtain⟨s,m⟩:∃F,t.alloc (yM #[Z N 0 0,Z N 0 0] 38)=F:=⟨_,rfl⟩;rw[m] at H n;rw[r] at n Y;have i:=Fa n;have HG:=Fa Y;simp only[m,r];refine K.o _ _ ⟨H.o.nb.cells,H.o.fact⟩ (fun ab=>?_);clear K j tu Bj n r m Y;refine aF [4] (cA ?_ aG);intro j K;go_simp;have Bj:da s (s.alloc (yM #[J I x,J I y] 3)):=(au _ s).alloc (ah _) _;have n:=Wm s x y;replace H:=Fa (H.o.step Bj);replace i:=Fa (i.o.aa Bj i.o.lt);obtain⟨gb,r⟩:∃g,O (T s)=g:=⟨_,rfl⟩;obtain⟨A,m⟩:∃F,s.alloc (yM #[J I x,J I y] 3)=F:=⟨_,rfl⟩;rw[m] at H n i;rw[r] at n;have Bb:=Fa n;simp only[m,r];refine K.o _ _ ⟨H.o.nb.cells,H.o.fact⟩ (fun kF=>?_);clear K j ab Bj n r m;refine aF [6] (cA ?_ aG);intro j K;go_simp;refine(aj.o gb A (H.o.bel) Bb.o).ae ?_;rintro e v ⟨d,Bm,rfl,hd,oq,f⟩;replace H:=Fa (H.o.step f);replace i:=Fa (i.o.aa f i.o.lt);have D:=Fa (And.intro hd oq);refine K.o _ _ ⟨H.o.nb.cells,H.o.fact⟩ (fun nk=>?_);clear K j kF f hd oq Bb
  refine aF [7] (cA ?_ aG);intro j K;go_simp;refine(yQ.o d Bm v H.o.bel D.o.1).ae ?_;rintro e z4 ⟨⟨p,q,rfl,B7⟩,f⟩;replace H:=Fa (H.o.step f);replace i:=Fa (i.o.aa f i.o.lt);have P:=Fa B7;refine K.o _ _ ⟨H.o.nb.cells,H.o.fact⟩ (fun q9=>?_);clear K j nk f B7 D;refine ar 8 ((zp #[zd #[p,q],J I 0])) ?_;refine ar 9 ((zd #[p,q])) ?_;refine ar 10 (J I 0) ?_
 all_goals
  try simp only[gE,aP]
  obtain⟨⟨pb,pn,pc,rfl⟩,⟨qb,qn,qc,rfl⟩⟩:=P.o.slices;obtain⟨x0,x1,J6,J5⟩:=i.o.facts;refine aF [12] (cA ?_ aG);intro j K;go_simp;have hN:=alo H.o i.o P.o HG.o;replace H:=Fa hN.1;replace P:=Fa hN.2.1;replace i:=Fa (i.o.put (Z pb pn pc) (Z qb qn qc));have fz:=0;refine K.o _ _ ⟨H.o.nb.cells,H.o.fact⟩ (fun yB=>?_);clear K j q9 hN fz x0 x1 J6 J5;refine ar 13 (J I 0) ?_;try simp only[gE,aP]
  refine eO ao ?_ _;obtain⟨y0,kQ⟩:∃X,((z4.setCell ⟨gt,0,N⟩ (Z pb pn pc)).setCell ⟨gt,1,N⟩ (Z qb qn qc))=X:=⟨_,rfl⟩;rw[kQ] at H P i;simp only[kQ];clear kQ;go_wp2_with fail
  have ad:=(au (O (T y0)) y0).drew;replace H:=Fa (H.o.step ad);replace P:=Fa (P.o.aa ad);replace i:=Fa (i.o.aa ad i.o.lt);have Bh:=i.o.facts;refine iK (S:=fun u=>(u.cell? ⟨O (T w),0,N⟩=M (Z a (C V) ca)/\u.cell? ⟨O (T w),1,N⟩=M (Z b (C L) cb)/\u.cell? ⟨O (T w),2,N⟩=M (Z c (C R) cc))/\u.cell? ⟨gt,0,N⟩=M (Z pb pn pc)/\u.cell? ⟨gt,1,N⟩=M (Z qb qn qc)) ao ⟨H.o.nb.cells,Bh.1,Bh.2.1⟩ (fun az=>?_);clear ad Bh;generalize y0.drew=y1 at *;refine cU 0 ((zd #[Z a (C V) ca,Z b (C L) cb,Z c (C R) cc])) ?_ ?_
  ·intro u' aJ;try simp only[gE];obtain⟨⟨s1,s2,s3⟩,s4,s5⟩:=aJ;go_simp
  try simp only[gE,aP]
  refine cU 2 ((zd #[Z pb pn pc,Z qb qn qc])) ?_ ?_
  ·intro u' aJ;try simp only[gE];obtain⟨⟨s1,s2,s3⟩,s4,s5⟩:=aJ;go_simp
  refine ar 4 (J I 0) ?_;refine aF [1] (cA ?_ aG);intro j K;go_simp;refine(ik.o _ H.o.bel).ae ?_;rintro e y2 ⟨G,rfl, -,ax,f⟩;replace H:=Fa (H.o.step f);replace P:=Fa (P.o.aa f);replace i:=Fa (i.o.aa f i.o.lt);have HR:=Fa ax;have Bh:=i.o.facts;refine K.o _ _ ⟨H.o.nb.cells,Bh.1,Bh.2.1⟩ (fun aR=>?_);clear K j az f ax Bh;refine ar 3 ((zd #[Z (M ⟨G,0,N⟩) (C V) (C V),Z pb pn pc,Z qb qn qc])) ?_;try simp only[gE,aP]
  obtain⟨r0,r1,r2⟩:=H.o.res.cells;have f0:=H.o.res.fz 0;have f1:=H.o.res.fz 1;have f2:=H.o.res.fz 2;refine aF [5] (cA ?_ aG);intro j K;go_simp;have hE:=alp H.o P.o HR.o ay.o i.o HG.o (Z (M ⟨G,0,N⟩) (C V) (C V)) (Z pb pn pc) (Z qb qn qc);have HE:=Fa hE;have Bh:=HE.o.2.2.2.2.facts;refine K.o _ _ ⟨HE.o.2.2.2.1.cells,Bh.1,Bh.2.1⟩ (fun aY=>?_);clear K j aR hE Bh r0 r1 r2 f0 f1 f2;refine ar 6 (J I 0) ?_;try simp only[gE,aP]
  refine eO ao ?_ _;go_wp2_with fail
  refine dI ((H.o.res.put _ _ _).result2 rfl _ rfl) rfl ?_;exact⟨_,_,_,rfl,HE.o.1,HE.o.2.1,HE.o.2.2.1⟩
theorem ak6 (a:Kd) (ca:Nat) (l:List Fr) (w:E) (h:dH w a l) (K:0<C l) (h8:C l<=100000):
  c6 101 #[Z a (C l) ca] w fun e w'=>∃R cap,e=yW (Z (M ⟨R,0,N⟩) (C l) cap)/\c5 w' (O (T w)) (Z (M ⟨R,0,N⟩) (C l) cap) l/\da w w':=by
 obtain⟨Bb,Bh,Q,Ba,U⟩:=eC Tryz.infoFrac;obtain⟨g,o,rfl,hg, -, -, -⟩:=h 0 K;have Bm:=yH l
 have F:∀j (d:j<C (dM l)),w.cell? ⟨g,o+j,N⟩=M (dM l)[j]/\(dM l)[j].oneCell'=true:=fun j d=>by
  have f:j/3<C l:=al
  obtain⟨g',o',e,_,m,r,s⟩:=h (j/3) f;cases e;obtain⟨v,x,y⟩:=LA l (j/3) f;have hm:=jc j (show 0<3 by decide);have hd:=QT j 3;rcases (show j % 3=0∨j % 3=1∨j % 3=2 by omega) with e |e |e
  ·have b:j/3*3=j:=al
   rw[b] at m v;rw[a7 d] at v;rw[m,jO v];exact⟨rfl,rfl⟩
  ·have b:j/3*3+1=j:=al
   rw[zl,b] at r;rw[b,a7 d] at x;rw[r,jO x];exact⟨rfl,rfl⟩
  ·have b:j/3*3+2=j:=al
   rw[zl,b] at s;rw[b,a7 d] at y;rw[s,jO y];exact⟨rfl,rfl⟩
 have A:=Fa F;have S:=Fa Bm;clear h F Bm;generalize hF:dM l=vs at *;have X:∀(w:E) (a:Kd) (n c t p:Nat),(binOp .eql 36 (Z a n c) (Z N t p)).run prog w=.ok (zZ a.isNone) w:=fun w a n c t p=>V1 w _ _ a n c t p underlying36;go_enter func101,ntmps101;go_wp2_with (at_builtin;refine zg _ rfl _ _ 36 rfl (O (T w)) 63 Bb (zd #[zZ xd,zK ⟨#[]⟩,zK ⟨#[]⟩]) 3 40 underlying36 Bh Q Ba U rfl a6 _ _ _ rfl (VF w #[] 0 (ah _) (aV _) rfl) ⟨g,o,N⟩ (C l) ca vs rfl ?Ie ?Ic ?Ib ?Ia ?H9 ?H8 ?_)
 case Ie=>rw[S.o];omega
 case Ic=>
  intro j u d;have D:=(mO.1 d).1;rw[Addr.add_lit];refine V3 _ ?_;rw[(A.o j D).1, <- d,a7 D]
 case Ib=>
  intro u L;obtain⟨k,f,rfl⟩:=iE L;exact(A.o k f).2
 case Ia=>unfold maxLen;omega
 case H9=>omega
 case H8=>simp
 intro v' P i H V;have z:da w P:=((au _ w).alloc (ah _) _).grown H aE (by intro k f;simp[Value.ownBlock] at f;omega);have Bj:=Fa z;have B9:=Fa i;clear i H V z;go_wp2;go_ret;have i:=B9.o;rcases i.2 with ⟨q,m⟩ |⟨R,cap,aa,q,m,r,s,Y,B7,h7⟩
 ·omega
 ·refine⟨R,cap,by rw[q];rfl,?_,Bj.o⟩;rw[c5,hF];have e:v'=Z (M ⟨R,0,N⟩) (C l) cap:=by rw[q]
  rw[<- e];simpa using i
variable {m:Nat} {p:Rat}
def o8 (W K:List Fr) (k:Nat):Fr:=if dr (aQ W k)=0 then aQ W k else qF (dr (aQ W k)/dr (aQ K k))
def qU (W K:List Fr) (i:Nat):List Fr:=(List.range (C W)).map fun k=>if k<i then o8 W K k else aQ W k
theorem Iq (W K:List Fr) (i:Nat):C (qU W K i)=C W:=by simp[qU]
theorem KL {W K:List Fr} (h:k<C (qU W K i)):(qU W K i)[k]=if k<i then o8 W K k else aQ W k:=by simp[qU]
theorem aow (W K:List Fr):qU W K 0=W:=by
 refine ld (Iq _ _ _) fun k h a=>?_;rw[KL h,aC al,mr a]
theorem aoy {W K:List Fr}:(qU W K i).set i (o8 W K i)=qU W K (i+1):=by
 refine ld (by rw[gA,Iq,Iq]) fun k a b=>?_;rw[CO,KL b];by_cases e:i=k
 ·subst e;rw[aw rfl,aw al]
 ·rw[aC e,KL (by rw[gA] at a;exact a)];by_cases h:k<i
  ·rw[aw h,aw al]
  ·rw[aC h,aC al]
theorem aox {W K:List Fr} (h:dr (aQ W i)=0):qU W K (i+1)=qU W K i:=by
 refine ld (by rw[Iq,Iq]) fun k b c=>?_;rw[KL b,KL c];by_cases e:k<i
 ·rw[aw e,aw al]
 ·rw[aC e];by_cases a:k=i
  ·subst a;rw[aw al,o8,aw h]
  ·rw[aC al]
def zC (n i:Nat) (f:Nat ->Fr):List Fr:=(List.range n).map fun k=>if k<i then f k else tx
theorem Ir (n i:Nat) (f:Nat ->Fr):C (zC n i f)=n:=by simp[zC]
theorem NI {f:Nat ->Fr} (h:k<C (zC n i f)):(zC n i f)[k]=if k<i then f k else tx:=by simp[zC]
theorem aeX (n:Nat) (f:Nat ->Fr):zC n 0 f=List.replicate n tx:=by
 refine ld (by rw[Ir,tW]) fun k h a=>?_;rw[NI h,aC al,VW]
theorem aeZ (n:Nat) (f:Nat ->Fr):zC n n f=(List.range n).map f:=by
 refine ld (by rw[Ir];simp) fun k h a=>?_;rw[NI h,aw (by rw[Ir] at h;exact h)];simp
theorem aeY {f:Nat ->Fr}:(zC n i f).set i (f i)=zC n (i+1) f:=by
 refine ld (by rw[gA,Ir,Ir]) fun k a b=>?_;rw[CO,NI b];by_cases e:i=k
 ·subst e;rw[aw rfl,aw al]
 ·rw[aC e,NI (by rw[gA] at a;exact a)];by_cases h:k<i
  ·rw[aw h,aw al]
  ·rw[aC h,aC al]
def mQ (W K X:List Fr) (k:Nat):Fr:=qF (dr (o8 W K k)*dr (aQ X k))
def sX (W K X:List Fr):Rat:=bH ((List.range (C W)).map (mQ W K X))
def Fj (W K:List Fr) (X:Nat ->List Fr) (m v:Nat):List Fr:=zC m v fun v=>qF (sX W K (X v))
def Bo (W K X:List Fr) (k:Nat):List Fr:=zC (C W) k (mQ W K X)
theorem aoK (W K:List Fr) (X:Nat ->List Fr) (m:Nat):Fj W K X m 0=List.replicate m tx:=aeX _ _
theorem aoL (W K:List Fr) (X:Nat ->List Fr) (m:Nat):Fj W K X m m=(List.range m).map fun v=>qF (sX W K (X v)):=aeZ _ _
theorem KJ (W K X:List Fr) (k:Nat):C (Bo W K X k)=C W:=Ir _ _ _
theorem aor {W K X:List Fr}:(Bo W K X k).set k (mQ W K X k)=Bo W K X (k+1):=aeY
structure Ma (W K:List Fr) (m:Nat) (X:Nat ->List Fr):Prop where
 n1:0<C W
 n2:C W<=10000
 kl:C K=C W
 xl:∀v,v< m ->C (X v)=C W
 hw:∀k,k<C W ->(aQ W k).2.1.size+(aQ W k).2.2.size<=40000
 hk:∀k,k<C W ->(aQ K k).2.1.size+(aQ K k).2.2.size<=40000
 hx:∀v,v< m ->∀k,k<C W ->(aQ (X v) k).2.1.size+(aQ (X v) k).2.2.size<=40000
 hs:∀k,k<C W ->dr (aQ K k)≠0 ->(o8 W K k).2.1.size+(o8 W K k).2.2.size<=40000
 ht:(∀k,k<C W ->dr (aQ W k)≠0 ->dr (aQ K k)≠0) ->∀v,v< m ->(∀k,k<C W ->(mQ W K (X v) k).2.1.size+(mQ W K (X v) k).2.2.size<=40000)/\∀k,k<=C W ->qw (bH (((List.range (C W)).map (mQ W K (X v))).take k))<=40000
theorem asS {q:Rat} (h:kJ p q=0):p=q:=by
 by_cases a:p<q
 ·rw[kJ,aw a] at h;exact absurd h a6
 ·by_cases b:p=q
  ·exact b
  ·rw[kJ,aC a,aC b] at h;exact absurd h a6
theorem c5.aside {B:Nat} {l:List Fr} (h:c5 w B (Z (M ⟨g,0,N⟩) n c) l) {b:Nat} (i:g≠b) (j:Nat) (y:wF):c5 (w.setCell ⟨b,j,N⟩ y) B (Z (M ⟨g,0,N⟩) n c) l:=by
 refine⟨h.1,h.2.imp id ?_⟩;rintro⟨g',cap,r,a,d,e,f⟩;cases a;exact⟨_,_,r,rfl,d,(eW w ⟨b,j,N⟩ y _ i).trans e,f⟩
theorem aL.aside3 {b:Nat} {n:Bool} {x y:ByteArray} (h:aL w g n x y) (e:g≠b) (j:Nat) (f:Fr):aL (((w.setCell ⟨b,j,N⟩ (zZ f.1)).setCell ⟨b,j+1,N⟩ (zK f.2.1)).setCell ⟨b,j+2,N⟩ (zK f.2.2)) g n x y:=((h.far e _).far e _).far e _
theorem Ma.share {W K:List Fr} {X:Nat ->List Fr} (h:Ma W K m X) (f:∀k,k<C W ->dr (aQ W k)≠0 ->dr (aQ K k)≠0) (a:k<C W):(o8 W K k).2.1.size+(o8 W K k).2.2.size<=40000:=by
 by_cases e:dr (aQ W k)=0
 ·rw[o8,aw e];exact h.hw k a
 ·exact h.hs k a (f k a e)
theorem arE (w:E) (s x y:wF):(Instr.field 86 (zd #[s,x,y]) 1).run prog w=.ok (zd #[x,y]) w:=by
 simp[Instr.field,go_sem,asAgg]
structure UB (w U:E) (gk:Nat) (s x y p q kx ky:wF):Prop where
 bx:ig U (O (T w)) s x y
 bw:aZ U (O (T w)+1) p q
 bk:aZ U gk kx ky
 bel:da w U
theorem UB.step {g:Nat} {x p q k a:wF} (h:UB w U g s x y p q k a) (b:da U U'):UB w U' g s x y p q k a:=⟨h.bx.aa b h.bx.lt,h.bw.aa b h.bw.lt,h.bk.aa b h.bk.lt,h.bel.trans (b.ae h.bel.size)⟩
theorem alx (a:Kd) (ca:Nat) (S:Ja) (x0 y0 wx wy:wF) (t B9:Tb) (y:Nat) (w:E) (aR:fK (iL S)) (hs:aB w a (iL S)) (h:bJ w x0 y0 t) (hW:bJ w wx wy B9) (ho:dG S (C S) t) (hw:Cw 100000 t.2) (mY:t.1.length<=1000) (b7:B9.1.length<=1000) (BH:L9 S t (fN t.1 B9.1)) (hy:y<C S) (cw:1<=sz S y) (hm:sz S y<=1000) (av:Ma B9.2 (lW S t (fN t.1 B9.1)).2 (sz S y) fun v=>(eZ S y v t).2):
  c6 50 #[zd #[Z a (C S) ca,x0,y0],J I (y:Nat),zd #[wx,wy]] w fun e w'=>(∃(d:Kd) (n c:Nat) (k:Int),e=yW (zp #[Z d n c,J I k])/\(k=0∨k=3)/\(k=0 ->(∀k,k<B9.2.length ->dr (aQ B9.2 k)≠0 ->dr (aQ (lW S t (fN t.1 B9.1)).2 k)≠0)/\n=sz S y/\dH w' d ((List.range (sz S y)).map fun v=>qF (sX B9.2 (lW S t (fN t.1 B9.1)).2 (eZ S y v t).2))))/\da w w':=by
 obtain⟨i0,cC,cb,cc,cf⟩:=eC Tryz.infoFrac;obtain⟨wb,wc,M0,MZ,rfl,rfl,Yt,N6,ct⟩:=hW;have UU:=Fa (fun (U:E) (hU:da w U)=>WS a wb ca M0 S x0 y0 t B9.1 U aR (hs.aa hU) (h.aa hU) (Yt.aa hU) mY b7 BH);have eh:=Fa (fun (v:Nat) (hv:v<sz S y) (U:E) (hU:da w U)=>ac3 a ca S x0 y0 t y v U aR (hs.aa hU) (h.aa hU) ho hw hy hv);have mH:=Fa (fun (U:E) (hU:da w U)=>ak6 wc MZ B9.2 U (N6.aa hU) av.n1 (by have:=av.n2;omega));have cn:=Fa N6;have bu:=Fa av;obtain⟨⟨xb,xn,xc,rfl⟩,⟨yb,yn,yc,rfl⟩⟩:=h.slices;obtain⟨gz,oz,rfl,b3,q7⟩:=hs y (by rw[bR];exact hy);have bN:w.cell? ⟨gz,oz+y,N⟩=M (J I (sz S y:Nat)):=by rw[q7];simp[iL,sz,hy]
 have JM:=Fa bN;have ch:=Fa b3;have N3:(y:Int)<(C S:Int):=al
 have cq:=av.n2;clear hs h ho hw mY b7 BH Yt N6 ct av q7 bN b3 aR;generalize lW S t (fN t.1 B9.1)=K at *;generalize hX:(fun v=>eZ S y v t)=X at *;have bc:wT (∀v,eZ S y v t=X v):=fun v=>by rw[<- hX]
 have GN:wT (Ma B9.2 K.2 (sz S y) fun v=>(X v).2):=by have:=bu.o;simp only[bc.o] at this;exact this
 simp only[bc.o] at eh⊢;clear bu bc hX;obtain⟨wv,W⟩:=B9;simp only at *;have b1:da w (w.alloc (yM #[Z (M ⟨gz,oz,N⟩) (C S) ca,Z xb xn xc,Z yb yn yc] 86)):=(au _ w).alloc (ah _) _;have B7:=ig.at (w:=w) rfl (Z (M ⟨gz,oz,N⟩) (C S) ca) (Z xb xn xc) (Z yb yn yc);have c2:Below (O (T (w.alloc (yM #[Z (M ⟨gz,oz,N⟩) (C S) ca,Z xb xn xc,Z yb yn yc] 86)))) _ ((w.alloc (yM #[Z (M ⟨gz,oz,N⟩) (C S) ca,Z xb xn xc,Z yb yn yc] 86)).alloc (yM #[Z wb (C wv) M0,Z wc (C W) MZ] 38)):=(au _ _).alloc (ah _) _;have s2:=B7.aa c2 B7.lt;have hT:aZ ((w.alloc (yM #[Z (M ⟨gz,oz,N⟩) (C S) ca,Z xb xn xc,Z yb yn yc] 86)).alloc (yM #[Z wb (C wv) M0,Z wc (C W) MZ] 38)) (O (T w)+1) (Z wb (C wv) M0) (Z wc (C W) MZ):=aZ.at aE _ _;have sN:=Fa (b1.trans (c2.ae b1.size));have kZ:=Fa s2;have xE:=Fa hT;clear b1 B7 c2 s2 hT;have cx:∀(w:E) (s x y:wF),(Instr.field 86 (zd #[s,x,y]) 1).run prog w=.ok (zd #[x,y]) w:=arE;go_enter func50,ntmps50;go_wp2_with fail
 refine(UU.o _ sN.o).ae ?_;rintro e w1 ⟨p,cg,rfl,gZ,q⟩;obtain⟨⟨pb,pn,pc,rfl⟩,⟨qb,qn,qc,rfl⟩⟩:=gZ.slices;have Bj:da w1 (w1.alloc (yM #[Z pb pn pc,Z qb qn qc] 38)):=(au _ w1).alloc (ah _) _;have j8:aZ (w1.alloc (yM #[Z pb pn pc,Z qb qn qc] 38)) (O (T w1)) (Z pb pn pc) (Z qb qn qc):=dU w1 _;have bm:=kZ.o.aa q kZ.o.lt;have SX:=xE.o.aa q xE.o.lt;have bg:=sN.o.trans (q.ae sN.o.size);have bt:UB w (w1.alloc (yM #[Z pb pn pc,Z qb qn qc] 38)) (O (T w1)) (Z (M ⟨gz,oz,N⟩) (C S) ca) (Z xb xn xc) (Z yb yn yc) (Z wb (C wv) M0) (Z wc (C W) MZ) (Z pb pn pc) (Z qb qn qc):=⟨bm.aa Bj bm.lt,SX.aa Bj SX.lt,j8,bg.trans (Bj.ae bg.size)⟩;have bp:=gZ.aa Bj;obtain⟨gk,Lc⟩:∃g,O (T w1)=g:=⟨_,rfl⟩;obtain⟨Y,b6⟩:∃U,w1.alloc (yM #[Z pb pn pc,Z qb qn qc] 38)=U:=⟨_,rfl⟩;rw[b6] at bt bp;rw[Lc] at bt;have L:=Fa bt;have qI:=Fa bp;obtain⟨t0,t1, -, -⟩:=bt.bw.facts;clear q gZ Bj j8 bm SX bg bt bp kZ xE sN UU;go_wp2_with fail
 clear Lc b6;refine(mH.o _ L.o.bel).ae ?_;rintro e w3 ⟨gs,cs,rfl,hr,q⟩;have eo:=Fa q;have BR:=L.o.bw.aa q L.o.bw.lt;have jF:=Fa hr;clear q hr mH t0 t1;obtain⟨t0,t1, -, -⟩:=BR.facts;clear BR;go_wp2_with fail
 obtain⟨b',c',eM,jm, -,e2, -,zT, -⟩:=qI.o;cases e2;have cm:=Fa zT;have nM:wT (c5 w3 (O (T Y)) (Z (M ⟨gs,0,N⟩) (C W) cs) (qU W K.2 0)):=by show c5 _ _ _ _;rw[aow];exact jF.o
 clear zT qI jF t0 t1;go_loopw [30] (fun iv wr=>∃i:Nat,i<=C W/\iv=J I i/\wT (da Y wr)/\wT (c5 wr (O (T Y)) (Z (M ⟨gs,0,N⟩) (C W) cs) (qU W K.2 i))/\wT (∀k,k< i ->dr (aQ W k)≠0 ->dr (aQ K.2 k)≠0)) (fun iv _=>C W - (intOf iv).toNat)
 case atStart=>exact⟨0,aV _,rfl,eo,nM,Fa fun k hk=>absurd hk al⟩
 case round=>
  obtain⟨i,hi,rfl,H,R,HF⟩:=hrel;clear eo nM;by_cases ai:i<C W
  ·obtain⟨wg,wo,rfl,cu,c0,c1,c2⟩:=(cn.o.aa (L.o.bel.trans (H.o.ae L.o.bel.size))) i ai;obtain⟨f,pA⟩:∃f,W[i]=f:=⟨_,rfl⟩;rw[pA] at c0 c1 c2;obtain⟨z,fx,fy⟩:=f;simp only at c0 c1 c2;have tr:aQ W i=(z,fx,fy):=(mr ai).trans pA;have GZ:=Fa tr;have ab:=GN.o.hw i ai;rw[tr] at ab;replace ab:fx.size+fy.size<=40000:=ab;obtain⟨ck,az⟩:∃ck,kJ (val z fx fy) 0=ck:=⟨_,rfl⟩;have jG:wT (∀U:E,c6 102 #[zd #[zZ z,zK fx,zK fy],zd #[zZ (aW 0),zK (nu 0),zK (de 0)]] U fun e w'=>e=yW (J I ck)/\da U w'):=fun U=>aan ck rfl (kr 0) az al (by have:=Nr;show qw 0<=_;omega);have tM:wT (∀U:E,c6 88 #[J I 0] U fun e w'=>e=yW (zd #[zZ (aW 0),zK (nu 0),zK (de 0)])/\da U w'):=fun U=>Gd (k:=0) (w:=U) 0 0 rfl a6 rfl
   have Vp:wT ((dr (aQ W i)=0 ->ck=0)/\(dr (aQ W i)≠0 ->(ck==0)=xd)):=by
    refine⟨fun h=>?_,fun h=>?_⟩
    ·rw[tr] at h;rw[<- az,show val z fx fy=0 from h];decide
    ·rw[tr] at h;exact Hd.2 fun e=>h (asS (az.trans e))
   clear pA tr ab az;go_wp2_with fail
   have Bj:da wr (wr.alloc (FC z fx fy)).drew:=((au _ wr).alloc (ah _) _).drew;have bB:aL (wr.alloc (FC z fx fy)).drew (O (T wr)) z fx fy:=aL.new wr z fx fy;replace H:=Fa (H.o.trans (Bj.ae H.o.size));replace R:=Fa (R.o.aa Bj);obtain⟨Ba,P⟩:∃g,O (T wr)=g:=⟨_,rfl⟩;rw[P] at bB;have l:=Fa bB;simp only[P];refine iK (S:=fun u=>u.cell? ⟨Ba,0,N⟩=M (zZ z)/\u.cell? ⟨Ba,1,N⟩=M (zK fx)/\u.cell? ⟨Ba,2,N⟩=M (zK fy)) ao ⟨l.o.c0,l.o.c1,l.o.c2⟩ (fun aq=>?_);clear Bj bB P c0 c1 c2 cu;generalize (wr.alloc (FC z fx fy)).drew=z0 at *;refine ar 0 ((zd #[zZ z,zK fx,zK fy])) ?_;refine aF [1] (cA ?_ aG);intro Bh r;go_simp;refine(tM.o _).ae ?_;rintro e z1 ⟨rfl,q⟩;replace l:=Fa (l.o.aa q l.o.lt);replace H:=Fa (H.o.trans (q.ae H.o.size));replace R:=Fa (R.o.aa q);refine r.o _ _ ⟨l.o.c0,l.o.c1,l.o.c2⟩ (fun ak=>?_);clear r Bh aq q;refine aF [2] (cA ?_ aG);intro Bh r;go_simp;refine(jG.o _).ae ?_;rintro e z2 ⟨rfl,q⟩;replace l:=Fa (l.o.aa q l.o.lt);replace H:=Fa (H.o.trans (q.ae H.o.size));replace R:=Fa (R.o.aa q);refine r.o _ _ ⟨l.o.c0,l.o.c1,l.o.c2⟩ (fun I1=>?_);clear r Bh ak q;refine ar 3 (zZ (ck==0)) ?_;(try simp only[gE,aP]);refine eO ao ?_ _;clear I1;by_cases hz:dr (aQ W i)=0
   ·have hc:(ck==0)=true:=by rw[Vp.o.1 hz];rfl
    simp only[hc];(have HN:wT (c5 z2 (O (T Y)) (Z (M ⟨gs,0,N⟩) (C W) cs) (qU W K.2 (i+1))):=by show c5 _ _ _ _;rw[aox hz];exact R.o);clear hc jG Vp GZ R;go_wp2_with fail
    go_roundw
    case rel=>
     refine⟨i+1,al,bd,H,HN,Fa fun k hk=>?_⟩;by_cases e:k=i
     ·subst e;exact fun h=>absurd hz h
     ·exact HF.o k al
    case measure=>simp[intOf];omega
   ·have hc:(ck==0)=false:=Vp.o.2 hz;simp only[hc];(have Te:i<K.2.length:=by rw[GN.o.kl];exact ai);obtain⟨m,A,rfl,r5,k0,k1,k2⟩:=cm.o i Te;have BM:aQ K.2 i=K.2[i]:=mr Te;obtain⟨kf,zT⟩:∃f,K.2[i]=f:=⟨_,rfl⟩;rw[zT] at k0 k1 k2 BM;obtain⟨kb,kx,kz⟩:=kf;simp only at k0 k1 k2;have b:wT (gk<O (T Y)/\Y.cell? ⟨gk,1,N⟩=M (Z (M ⟨m,A,N⟩) K.2.length qc)/\m<O (T Y)/\Y.cell? ⟨m,A+i*3,N⟩=M (zZ kb)/\Y.cell? ⟨m,A+i*3+1,N⟩=M (zK kx)/\Y.cell? ⟨m,A+i*3+2,N⟩=M (zK kz)):=⟨L.o.bk.lt,L.o.bk.facts.2.1,r5,k0,k1,k2⟩;have ab:=GN.o.hw i ai;have a1:=GN.o.hk i ai;rw[GZ.o] at ab;rw[BM] at a1;replace ab:fx.size+fy.size<=40000:=ab;replace a1:kx.size+kz.size<=40000:=a1;(have OM:val z fx fy=dr (aQ W i):=by rw[GZ.o];rfl);(have zS:val kb kx kz=dr (aQ K.2 i):=by rw[BM];rfl)
    obtain⟨Bm,dx,F,de,Lg,OV⟩:∃(Bm:Bool) (dx F:ByteArray) (de:Int),(∀U:E,c6 103 #[zd #[zZ z,zK fx,zK fy],zd #[zZ kb,zK kx,zK kz]] U fun e w'=>e=yW (zp #[zd #[zZ Bm,zK dx,zK F],J I de])/\da U w')/\((de=0/\dr (aQ K.2 i)≠0/\(Bm,dx,F)=o8 W K.2 i)∨(de=3/\True)):=by
     by_cases bh:dr (aQ K.2 i)=0
     ·exact⟨_,_,_,3,fun U=>ahw (zS.trans bh),yk ⟨rfl,trivial⟩⟩
     ·exact⟨_,_,_,0,fun U=>ahx _ OM zS bh rfl al al,yd ⟨rfl,bh,by rw[o8,aC hz];rfl⟩⟩
    have JI:=Fa Lg;have QA:=Fa OV;(have OG:(i:Int)<(K.2.length:Int):=al);clear hc jG Vp GZ hz r5 k0 k1 k2 BM zT ab a1 OM zS Lg OV;go_wp2_with fail
    have aY:=(au (O (T z2)) z2).drew;replace l:=Fa (l.o.aa aY l.o.lt);replace H:=Fa (H.o.trans (aY.ae H.o.size));replace R:=Fa (R.o.aa aY);refine iK (S:=fun u=>(u.cell? ⟨Ba,0,N⟩=M (zZ z)/\u.cell? ⟨Ba,1,N⟩=M (zK fx)/\u.cell? ⟨Ba,2,N⟩=M (zK fy))/\u.cell? ⟨gk,1,N⟩=M (Z (M ⟨m,A,N⟩) K.2.length qc)/\u.cell? ⟨m,A+i*3,N⟩=M (zZ kb)/\u.cell? ⟨m,A+i*3+1,N⟩=M (zK kx)/\u.cell? ⟨m,A+i*3+2,N⟩=M (zK kz)) ao ⟨⟨l.o.c0,l.o.c1,l.o.c2⟩,(H.o.cell (p:=⟨gk,1,N⟩) b.o.1).trans b.o.2.1,(H.o.cell (p:=⟨m,_,N⟩) b.o.2.2.1).trans b.o.2.2.2.1,(H.o.cell (p:=⟨m,_,N⟩) b.o.2.2.1).trans b.o.2.2.2.2.1,(H.o.cell (p:=⟨m,_,N⟩) b.o.2.2.1).trans b.o.2.2.2.2.2⟩ (fun tu=>?_);clear aY;generalize z2.drew=y1 at *;refine cU 0 ((zd #[zZ z,zK fx,zK fy])) ?_ ?_
    ·intro u' aJ;try simp only[gE];obtain⟨⟨B7,s2,s3⟩,s4,s5,s6,s7⟩:=aJ;go_simp
    refine ar 1 (zR (M ⟨gk,1,N⟩)) ?_;(try simp only[gE,aP]);refine cU 2 (Z (M ⟨m,A,N⟩) K.2.length qc) ?_ ?_
    ·intro u' aJ;try simp only[gE];obtain⟨⟨B7,s2,s3⟩,s4,s5,s6,s7⟩:=aJ;go_simp
    refine ar 3 (J I (i:Nat)) ?_;refine ar 4 (zR (M ⟨m,A+i*3,N⟩)) ?_;(try simp only[gE,aP]);refine cU 5 ((zd #[zZ kb,zK kx,zK kz])) ?_ ?_
    ·intro u' aJ;try simp only[gE];obtain⟨⟨B7,s2,s3⟩,s4,s5,s6,s7⟩:=aJ;go_simp
    refine aF [6,10] (cA ?_ (cA ?_ aG))
    focus
     intro Bh r;go_simp;refine(JI.o y1).ae ?_;rintro e z1 ⟨rfl,q⟩;replace l:=Fa (l.o.aa q l.o.lt);replace H:=Fa (H.o.trans (q.ae H.o.size));replace R:=Fa (R.o.aa q);refine r.o _ _ ⟨⟨l.o.c0,l.o.c1,l.o.c2⟩,(H.o.cell (p:=⟨gk,1,N⟩) b.o.1).trans b.o.2.1,(H.o.cell (p:=⟨m,_,N⟩) b.o.2.2.1).trans b.o.2.2.2.1,(H.o.cell (p:=⟨m,_,N⟩) b.o.2.2.1).trans b.o.2.2.2.2.1,(H.o.cell (p:=⟨m,_,N⟩) b.o.2.2.1).trans b.o.2.2.2.2.2⟩ (fun aj=>?_);clear r Bh tu q;refine ar 7 ((zp #[zd #[zZ Bm,zK dx,zK F],J I de])) ?_;refine ar 8 ((zd #[zZ Bm,zK dx,zK F])) ?_;refine ar 9 (J I de) ?_;refine aF [10] (cA ?_ aG);intro Bh r;go_simp;have Bj:da z1 (z1.alloc (yM #[zZ xd,zK ⟨#[]⟩,zK ⟨#[]⟩] 63)):=(au _ z1).alloc (ah _) _;have ad:=aL.new z1 xd ⟨#[]⟩ ⟨#[]⟩;have fJ:O (T Y)<=O (T z1)/\gs≠z1.heap.size/\Ba≠z1.heap.size:=⟨H.o.size,by have:=c5.old R.o (k:=gs) rfl;omega,by have:=l.o.lt;omega⟩;replace l:=Fa (l.o.aa Bj l.o.lt);replace H:=Fa (H.o.trans (Bj.ae H.o.size));replace R:=Fa (R.o.aa Bj);obtain⟨g9,P⟩:∃g,O (T z1)=g:=⟨_,rfl⟩;obtain⟨z2,ek⟩:∃XX,z1.alloc (yM #[zZ xd,zK ⟨#[]⟩,zK ⟨#[]⟩] 63)=XX:=⟨_,rfl⟩;rw[ek] at l H ad R;rw[P] at ad fJ;have kL:=Fa ad;have Bb:=Fa fJ;simp only[ek,P]
     refine r.o _ _ ⟨⟨l.o.c0,l.o.c1,l.o.c2⟩,(H.o.cell (p:=⟨gk,1,N⟩) b.o.1).trans b.o.2.1,(H.o.cell (p:=⟨m,_,N⟩) b.o.2.2.1).trans b.o.2.2.2.1,(H.o.cell (p:=⟨m,_,N⟩) b.o.2.2.1).trans b.o.2.2.2.2.1,(H.o.cell (p:=⟨m,_,N⟩) b.o.2.2.1).trans b.o.2.2.2.2.2⟩ (fun kF=>?_);clear r Bh aj Bj ad P ek fJ;(try simp only[gE,aP]);obtain⟨b0,b1,b2,D8,D7,bf⟩:=kL.o.facts;refine aF [11] (cA ?_ aG);intro Bh r;go_simp;have GM:=Fa (kL.o.put Bm dx F);have V:=Fa (eT H.o Bb.o.1 (zZ Bm) (zK dx) (zK F));have tL:=Fa (((R.o.aside Bb.o.2.1 0 (zZ Bm)).aside Bb.o.2.1 1 (zK dx)).aside Bb.o.2.1 2 (zK F));have EH:=Fa (((l.o.far Bb.o.2.2 (zZ Bm) (j:=0)).far Bb.o.2.2 (zK dx) (j:=1)).far Bb.o.2.2 (zK F) (j:=2));refine r.o _ _ ⟨⟨EH.o.c0,EH.o.c1,EH.o.c2⟩,(V.o.cell (p:=⟨gk,1,N⟩) b.o.1).trans b.o.2.1,(V.o.cell (p:=⟨m,_,N⟩) b.o.2.2.1).trans b.o.2.2.2.1,(V.o.cell (p:=⟨m,_,N⟩) b.o.2.2.1).trans b.o.2.2.2.2.1,(V.o.cell (p:=⟨m,_,N⟩) b.o.2.2.1).trans b.o.2.2.2.2.2⟩ (fun yB=>?_);clear r Bh kF b0 b1 b2 D8 D7 bf kL H R l EH;refine ar 12 (J I de) ?_;(try simp only[gE,aP]);refine eO ao ?_ _;clear yB;obtain⟨y0,kQ⟩:∃XX,(((z2.setCell ⟨g9,0,N⟩ (zZ Bm)).setCell ⟨g9,1,N⟩ (zK dx)).setCell ⟨g9,2,N⟩ (zK F))=XX:=⟨_,rfl⟩;rw[kQ] at GM V tL;simp only[kQ];clear kQ;rcases QA.o with ⟨rfl,hk,uo⟩ |⟨rfl, -⟩
     focus
      obtain⟨b0,b1,b2, -⟩:=GM.o.facts
     rotate_left
     ·clear JI QA GM tL;go_wp2_with fail
      go_ret2;exact⟨⟨N,0,0,3,rfl,yk rfl,fun e=>absurd e a6⟩,L.o.bel.trans (V.o.ae L.o.bel.size)⟩
    rotate_left
    focus
     intro Bh r;go_simp;have Bj:da y1 (y1.alloc (yM #[zZ xd,zK ⟨#[]⟩,zK ⟨#[]⟩] 63)):=(au _ y1).alloc (ah _) _;have ad:=aL.new y1 xd ⟨#[]⟩ ⟨#[]⟩;have fJ:O (T Y)<=O (T y1)/\gs≠y1.heap.size/\Ba≠y1.heap.size:=⟨H.o.size,by have:=c5.old R.o (k:=gs) rfl;omega,by have:=l.o.lt;omega⟩;replace l:=Fa (l.o.aa Bj l.o.lt);replace H:=Fa (H.o.trans (Bj.ae H.o.size));replace R:=Fa (R.o.aa Bj);obtain⟨g9,P⟩:∃g,O (T y1)=g:=⟨_,rfl⟩;obtain⟨z1,ek⟩:∃XX,y1.alloc (yM #[zZ xd,zK ⟨#[]⟩,zK ⟨#[]⟩] 63)=XX:=⟨_,rfl⟩;rw[ek] at l H ad R;rw[P] at ad fJ;have kL:=Fa ad;have Bb:=Fa fJ;simp only[ek,P];refine r.o _ _ ⟨⟨l.o.c0,l.o.c1,l.o.c2⟩,(H.o.cell (p:=⟨gk,1,N⟩) b.o.1).trans b.o.2.1,(H.o.cell (p:=⟨m,_,N⟩) b.o.2.2.1).trans b.o.2.2.2.1,(H.o.cell (p:=⟨m,_,N⟩) b.o.2.2.1).trans b.o.2.2.2.2.1,(H.o.cell (p:=⟨m,_,N⟩) b.o.2.2.1).trans b.o.2.2.2.2.2⟩ (fun aj=>?_);clear r Bh tu Bj ad P ek fJ;refine aF [6] (cA ?_ aG);intro Bh r;go_simp;refine(JI.o z1).ae ?_;rintro e z2 ⟨rfl,q⟩;replace l:=Fa (l.o.aa q l.o.lt);replace H:=Fa (H.o.trans (q.ae H.o.size));replace R:=Fa (R.o.aa q);replace kL:=Fa (kL.o.aa q kL.o.lt)
     refine r.o _ _ ⟨⟨l.o.c0,l.o.c1,l.o.c2⟩,(H.o.cell (p:=⟨gk,1,N⟩) b.o.1).trans b.o.2.1,(H.o.cell (p:=⟨m,_,N⟩) b.o.2.2.1).trans b.o.2.2.2.1,(H.o.cell (p:=⟨m,_,N⟩) b.o.2.2.1).trans b.o.2.2.2.2.1,(H.o.cell (p:=⟨m,_,N⟩) b.o.2.2.1).trans b.o.2.2.2.2.2⟩ (fun kF=>?_);clear r Bh aj q;refine ar 7 ((zp #[zd #[zZ Bm,zK dx,zK F],J I de])) ?_;refine ar 8 ((zd #[zZ Bm,zK dx,zK F])) ?_;refine ar 9 (J I de) ?_;(try simp only[gE,aP]);obtain⟨b0,b1,b2,D8,D7,bf⟩:=kL.o.facts;refine aF [11] (cA ?_ aG);intro Bh r;go_simp;have GM:=Fa (kL.o.put Bm dx F);have V:=Fa (eT H.o Bb.o.1 (zZ Bm) (zK dx) (zK F));have tL:=Fa (((R.o.aside Bb.o.2.1 0 (zZ Bm)).aside Bb.o.2.1 1 (zK dx)).aside Bb.o.2.1 2 (zK F));have EH:=Fa (((l.o.far Bb.o.2.2 (zZ Bm) (j:=0)).far Bb.o.2.2 (zK dx) (j:=1)).far Bb.o.2.2 (zK F) (j:=2));refine r.o _ _ ⟨⟨EH.o.c0,EH.o.c1,EH.o.c2⟩,(V.o.cell (p:=⟨gk,1,N⟩) b.o.1).trans b.o.2.1,(V.o.cell (p:=⟨m,_,N⟩) b.o.2.2.1).trans b.o.2.2.2.1,(V.o.cell (p:=⟨m,_,N⟩) b.o.2.2.1).trans b.o.2.2.2.2.1,(V.o.cell (p:=⟨m,_,N⟩) b.o.2.2.1).trans b.o.2.2.2.2.2⟩ (fun yB=>?_);clear r Bh kF b0 b1 b2 D8 D7 bf kL H R l EH;refine ar 12 (J I de) ?_;(try simp only[gE,aP]);refine eO ao ?_ _;clear yB
     obtain⟨y0,kQ⟩:∃XX,(((z2.setCell ⟨g9,0,N⟩ (zZ Bm)).setCell ⟨g9,1,N⟩ (zK dx)).setCell ⟨g9,2,N⟩ (zK F))=XX:=⟨_,rfl⟩;rw[kQ] at GM V tL;simp only[kQ];clear kQ;rcases QA.o with ⟨rfl,hk,uo⟩ |⟨rfl, -⟩
     focus
      obtain⟨b0,b1,b2, -⟩:=GM.o.facts
     rotate_left
     ·clear JI QA GM tL;go_wp2_with fail
      go_ret2;exact⟨⟨N,0,0,3,rfl,yk rfl,fun e=>absurd e a6⟩,L.o.bel.trans (V.o.ae L.o.bel.size)⟩
    all_goals
     (have py:i<C (qU W K.2 i):=by rw[Iq];exact ai);obtain⟨-, -, -,q3,q4,q5⟩:=Nn tL.o py;obtain⟨q0,q1,q2, -⟩:=Nn tL.o py;(have OG:(i:Int)<(C W:Int):=al);have HN:=Fa (tL.o.put i (Bm,dx,F));have Ve:wT (O (T Y)<=gs):=c5.own tL.o gs rfl;have vU:=Fa (aaN V.o Ve.o (i*3) (zZ Bm) (zK dx) (zK F));have uH:=Fa uo;have cl:=Fa hk;clear uo hk JI QA GM;go_wp2_with fail
     go_roundw
     case rel=>
      refine⟨i+1,al,bd,vU,?_,?_⟩
      ·have:=HN.o;(have e9:(qU W K.2 i).set i (Bm,dx,F)=qU W K.2 (i+1):=by rw[uH.o,aoy]);rw[e9] at this;exact Fa this
      ·exact Fa fun k hk=>by
        by_cases e:k=i
        ·subst e;exact fun _=>cl.o
        ·exact HF.o k al
     case measure=>simp[intOf];omega
  ·obtain rfl:i=C W:=al
   generalize wr=w4 at *;obtain⟨s0,B7,s2⟩:=(L.o.step H.o).bx.cells;have cr:=((L.o.bel.trans (H.o.ae L.o.bel.size)).cell (p:=⟨gz,oz+y,N⟩) ch.o).trans JM.o;go_wp2_with (at_make;refine oK _ rfl _ _ 36 rfl (O (T w4)) 63 i0 (zd #[zZ xd,zK ⟨#[]⟩,zK ⟨#[]⟩]) 3 underlying36 cC cb cc I I _ _ (sz S y) rfl rfl bd bd (by rw[cf];omega) (by unfold maxLen;omega) (ah _) ?_;intro w5 FD FV)
   have b4:da w4 w5:=(au _ _).grown FV (ah _) (fun k e=>by cases e);rw[NP] at FD
   have tj:c5 w5 (O (T w4)) (Z (M ⟨O (T w4),0,N⟩) (sz S y) (sz S y)) (Fj W K.2 (fun v=>(X v).2) (sz S y) 0):=by
    rw[aoK,c5,tW];exact FD
   obtain⟨gl,cN⟩:∃g,O (T w4)=g:=⟨_,rfl⟩;rw[cN] at tj;simp only[cN];have yT:wT (O (T w4)<=gl):=Nat.le_of_eq cN;rw[<- cN] at tj;(have bD:c5 w5 (O (T w4)) (Z (M ⟨gl,0,N⟩) (sz S y) (sz S y)) (Fj W K.2 (fun v=>(X v).2) (sz S y) 0):=by rw[<- cN];exact tj);have xF:=Fa bD;have fp:=Fa b4;clear b4 tj bD FD FV cN s0 B7 s2 cr;go_loopw [65] (fun iv wr=>∃v:Nat,v<=sz S y/\iv=J I v/\wT (da w4 wr)/\wT (c5 wr (O (T w4)) (Z (M ⟨gl,0,N⟩) (sz S y) (sz S y)) (Fj W K.2 (fun v=>(X v).2) (sz S y) v))) (fun iv _=>sz S y - (intOf iv).toNat)
   case atStart=>exact⟨0,aV _,rfl,fp,xF⟩
   case round=>
    obtain⟨v,hv,rfl,Q,HL⟩:=hrel;generalize wr=ws at *;clear fp xF;by_cases ax:v<sz S y
    ·have BR:da Y ws:=H.o.trans (Q.o.ae H.o.size);obtain⟨s0,B7,s2⟩:=(L.o.step BR).bx.cells;have bs:=Fa (eh.o v ax ws (L.o.bel.trans (BR.ae L.o.bel.size)));clear BR;go_wp2_with fail
     refine bs.o.ae ?_;rintro e w6 ⟨x',y',rfl,lC,q⟩;obtain⟨⟨jY,J4,J7,rfl⟩,⟨iN,JZ,CT,rfl⟩⟩:=lC.slices;have Bj:da w6 (w6.alloc (yM #[Z jY J4 J7,Z iN JZ CT] 38)):=(au _ w6).alloc (ah _) _;have j8:aZ (w6.alloc (yM #[Z jY J4 J7,Z iN JZ CT] 38)) (O (T w6)) (Z jY J4 J7) (Z iN JZ CT):=dU w6 _;replace Q:=Fa ((Q.o.trans (q.ae Q.o.size)).trans (Bj.ae (Q.o.trans (q.ae Q.o.size)).size));replace HL:=Fa ((HL.o.aa q).aa Bj);have Fp:=lC.aa Bj;obtain⟨gx,b5⟩:∃g,O (T w6)=g:=⟨_,rfl⟩;obtain⟨w7,SM⟩:∃U,w6.alloc (yM #[Z jY J4 J7,Z iN JZ CT] 38)=U:=⟨_,rfl⟩;rw[SM] at j8 Q HL Fp;rw[b5] at j8;have bC:=Fa j8;have bz:=Fa Fp;clear q lC Bj j8 Fp bs s0 B7 s2;go_wp2_with (at_make;refine oK _ rfl _ _ 36 rfl (O (T w7)) 63 i0 (zd #[zZ xd,zK ⟨#[]⟩,zK ⟨#[]⟩]) 3 underlying36 cC cb cc I I _ _ (C W) rfl rfl bd bd (by rw[cf];omega) (by unfold maxLen;omega) (ah _) ?_;intro w8 YS bO)
     have iW:da w7 w8:=(au _ _).grown bO (ah _) (fun k e=>by cases e);rw[NP] at YS;obtain⟨gT,IU⟩:∃g,O (T w7)=g:=⟨_,rfl⟩
     have FA:c5 w8 (O (T w7)) (Z (M ⟨gT,0,N⟩) (C W) (C W)) (Bo W K.2 (X v).2 0):=by
      rw[<- IU,Bo,aeX,c5,tW];exact YS
     have Vd:wT (O (T w7)<=gT):=Nat.le_of_eq IU;have UO:=Fa FA;have yY:=Fa iW;simp only[IU];clear iW FA YS bO IU b5 SM;obtain⟨b',c',eM,jm, -,e2, -,b8, -⟩:=bz.o;cases e2;have cp:=Fa b8;clear b8 bz;go_wp2_with fail
     go_loopw [79] (fun iv wr=>∃k:Nat,k<=C W/\iv=J I k/\wT (da w7 wr)/\wT (c5 wr (O (T w7)) (Z (M ⟨gT,0,N⟩) (C W) (C W)) (Bo W K.2 (X v).2 k))) (fun iv _=>C W - (intOf iv).toNat)
     case atStart=>exact⟨0,aV _,rfl,yY,UO⟩
     case round=>
      obtain⟨k,hk,rfl,D,tF⟩:=hrel;clear yY UO;by_cases ay:k<C W
      ·have YB:=(R.o.aa Q.o).aa D.o;(have dA:k<C (qU W K.2 (C W)):=by rw[Iq];exact ay);obtain⟨c0,c1,c2, -⟩:=Nn YB dA;(have Od:(qU W K.2 (C W))[k]=o8 W K.2 k:=by rw[KL dA,aw ay]);rw[Od] at c0 c1 c2;have bb:=GN.o.share HF.o ay;obtain⟨f,pA⟩:∃f,o8 W K.2 k=f:=⟨_,rfl⟩;(have Ld:dr (o8 W K.2 k)=dr f:=by rw[pA]);rw[pA] at c0 c1 c2 bb;obtain⟨z,fx,fy⟩:=f;simp only at c0 c1 c2;replace bb:fx.size+fy.size<=40000:=bb;(have vd:k<(X v).2.length:=by have:=GN.o.xl v ax;omega);obtain⟨m,A,rfl,r5,k0,k1,k2⟩:=cp.o k vd;have BM:aQ (X v).2 k=(X v).2[k]:=mr vd;have IK:=GN.o.hx v ax k ay;obtain⟨kf,zT⟩:∃f,(X v).2[k]=f:=⟨_,rfl⟩;rw[zT] at k0 k1 k2 BM;obtain⟨kb,kx,kz⟩:=kf;simp only at k0 k1 k2 IK;rw[BM] at IK;replace IK:kx.size+kz.size<=40000:=IK;have b:wT (gx<O (T w7)/\w7.cell? ⟨gx,1,N⟩=M (Z (M ⟨m,A,N⟩) (X v).2.length CT)/\m<O (T w7)/\w7.cell? ⟨m,A+k*3,N⟩=M (zZ kb)/\w7.cell? ⟨m,A+k*3+1,N⟩=M (zK kx)/\w7.cell? ⟨m,A+k*3+2,N⟩=M (zK kz)):=⟨bC.o.lt,bC.o.facts.2.1,r5,k0,k1,k2⟩;have UY:wT (∀U:E,c6 104 #[zd #[zZ z,zK fx,zK fy],zd #[zZ kb,zK kx,zK kz]] U fun e w'=>e=yW (zd #[zZ (mQ W K.2 (X v).2 k).1,zK (mQ W K.2 (X v).2 k).2.1,zK (mQ W K.2 (X v).2 k).2.2])/\da U w'):=fun U=>aam (dr (o8 W K.2 k)*dr (aQ (X v).2 k)) (p:=dr (o8 W K.2 k)) (q:=dr (aQ (X v).2 k)) (by rw[Ld];rfl) (by rw[BM];rfl) rfl al al
       (have OG:(k:Int)<((X v).2.length:Int):=al);(have cv:(k:Int)<(C W:Int):=al);have IU:=c5.old tF.o (k:=gT) rfl;clear YB dA Od bb pA Ld vd r5 k0 k1 k2 BM IK zT;go_wp2_with fail
       have Bj:da wr (wr.alloc (FC z fx fy)).drew:=((au _ wr).alloc (ah _) _).drew;have bB:aL (wr.alloc (FC z fx fy)).drew (O (T wr)) z fx fy:=aL.new wr z fx fy;replace D:=Fa (D.o.trans (Bj.ae D.o.size));replace tF:=Fa (tF.o.aa Bj);obtain⟨Ba,P⟩:∃g,O (T wr)=g:=⟨_,rfl⟩;rw[P] at bB IU;have l:=Fa bB;(have Vi:wT (Ba≠gT):=by show Ba≠gT;omega);simp only[P];refine iK (S:=fun u=>(u.cell? ⟨Ba,0,N⟩=M (zZ z)/\u.cell? ⟨Ba,1,N⟩=M (zK fx)/\u.cell? ⟨Ba,2,N⟩=M (zK fy))/\u.cell? ⟨gx,1,N⟩=M (Z (M ⟨m,A,N⟩) (X v).2.length CT)/\u.cell? ⟨m,A+k*3,N⟩=M (zZ kb)/\u.cell? ⟨m,A+k*3+1,N⟩=M (zK kx)/\u.cell? ⟨m,A+k*3+2,N⟩=M (zK kz)) ao ⟨⟨l.o.c0,l.o.c1,l.o.c2⟩,(D.o.cell (p:=⟨gx,1,N⟩) b.o.1).trans b.o.2.1,(D.o.cell (p:=⟨m,_,N⟩) b.o.2.2.1).trans b.o.2.2.2.1,(D.o.cell (p:=⟨m,_,N⟩) b.o.2.2.1).trans b.o.2.2.2.2.1,(D.o.cell (p:=⟨m,_,N⟩) b.o.2.2.1).trans b.o.2.2.2.2.2⟩ (fun tu=>?_);clear Bj bB P c0 c1 c2 IU;generalize (wr.alloc (FC z fx fy)).drew=y1 at *;refine ar 0 (Z (M ⟨gT,0,N⟩) (C W) (C W)) ?_;refine ar 1 (J I (k:Nat)) ?_;(try simp only[gE,aP]);refine cU 2 ((zd #[zZ z,zK fx,zK fy])) ?_ ?_
       ·intro u' aJ;try simp only[gE];obtain⟨⟨B7,s2,s3⟩,s4,s5,s6,s7⟩:=aJ;go_simp
       refine ar 3 (zR (M ⟨gx,1,N⟩)) ?_;(try simp only[gE,aP]);refine cU 4 (Z (M ⟨m,A,N⟩) (X v).2.length CT) ?_ ?_
       ·intro u' aJ;try simp only[gE];obtain⟨⟨B7,s2,s3⟩,s4,s5,s6,s7⟩:=aJ;go_simp
       refine ar 5 (J I (k:Nat)) ?_;refine ar 6 (zR (M ⟨m,A+k*3,N⟩)) ?_;(try simp only[gE,aP]);refine cU 7 ((zd #[zZ kb,zK kx,zK kz])) ?_ ?_
       ·intro u' aJ;try simp only[gE];obtain⟨⟨B7,s2,s3⟩,s4,s5,s6,s7⟩:=aJ;go_simp
       refine aF [8] (cA ?_ aG);intro Bh r;go_simp;refine(UY.o _).ae ?_;rintro e y2 ⟨rfl,q⟩;replace l:=Fa (l.o.aa q l.o.lt);replace D:=Fa (D.o.trans (q.ae D.o.size));replace tF:=Fa (tF.o.aa q);refine r.o _ _ ⟨⟨l.o.c0,l.o.c1,l.o.c2⟩,(D.o.cell (p:=⟨gx,1,N⟩) b.o.1).trans b.o.2.1,(D.o.cell (p:=⟨m,_,N⟩) b.o.2.2.1).trans b.o.2.2.2.1,(D.o.cell (p:=⟨m,_,N⟩) b.o.2.2.1).trans b.o.2.2.2.2.1,(D.o.cell (p:=⟨m,_,N⟩) b.o.2.2.1).trans b.o.2.2.2.2.2⟩ (fun aj=>?_);clear r Bh tu q;refine ar 9 (zR (M ⟨gT,k*3,N⟩)) ?_;(have dA:k<C (Bo W K.2 (X v).2 k):=by rw[KJ];exact ay);obtain⟨q0,q1,q2,q3,q4,q5⟩:=Nn tF.o dA;refine aF [10] (cA ?_ aG);intro Bh r;go_simp;have HN:=Fa (tF.o.put k (mQ W K.2 (X v).2 k));have QB:=Fa (aaN D.o Vd.o (k*3) (zZ (mQ W K.2 (X v).2 k).1) (zK (mQ W K.2 (X v).2 k).2.1) (zK (mQ W K.2 (X v).2 k).2.2));have vU:=Fa (l.o.aside3 Vi.o (k*3) (mQ W K.2 (X v).2 k));refine r.o _ _ ⟨⟨vU.o.c0,vU.o.c1,vU.o.c2⟩,(QB.o.cell (p:=⟨gx,1,N⟩) b.o.1).trans b.o.2.1,(QB.o.cell (p:=⟨m,_,N⟩) b.o.2.2.1).trans b.o.2.2.2.1,(QB.o.cell (p:=⟨m,_,N⟩) b.o.2.2.1).trans b.o.2.2.2.2.1,(QB.o.cell (p:=⟨m,_,N⟩) b.o.2.2.1).trans b.o.2.2.2.2.2⟩ (fun kF=>?_);clear r Bh aj kF dA q0 q1 q2 q3 q4 q5;(try simp only[gE,aP]);refine eO ao ?_ _;clear UY b l vU tF D;go_wp2_with fail
       go_roundw
       case rel=>
        refine⟨k+1,al,bd,QB,?_⟩;have:=HN.o;rw[aor] at this;exact Fa this
       case measure=>simp[intOf];omega
      ·obtain rfl:k=C W:=al
       obtain⟨d,cd,e,an⟩:=tF.o.fr;injection e with e1 e2 e3;subst e1;have Yy:=GN.o.ht HF.o v ax;have br:Bo W K.2 (X v).2 (C W)=(List.range (C W)).map (mQ W K.2 (X v).2):=aeZ _ _
       have bo:=Uc (M ⟨gT,0,N⟩) (C W) (Bo W K.2 (X v).2 (C W)) wr an (fun j hj=>by
        have h1:=Yy.1 j (by rw[KJ] at hj;exact hj);have h2:(Bo W K.2 (X v).2 (C W))[j]=mQ W K.2 (X v).2 j:=(NI (n:=W.length) (i:=W.length) (f:=mQ W K.2 (X v).2) hj).trans (aw (by rw[KJ] at hj;exact hj));rw[h2];exact h1) (fun j hj=>by rw[br];exact Yy.2 j (by rw[KJ] at hj;exact hj)) (by rw[KJ];exact cq)
       rw[KJ,br] at bo;have tH:wT (c6 105 #[Z (M ⟨gT,0,N⟩) (C W) (C W)] wr fun e w'=>e=yW (zd #[zZ (qF (sX W K.2 (X v).2)).1,zK (qF (sX W K.2 (X v).2)).2.1,zK (qF (sX W K.2 (X v).2)).2.2])/\da wr w'):=bo;clear bo br Yy an e2 e3;go_wp2_with fail
       refine tH.o.ae ?_;rintro e w9 ⟨rfl,q⟩;replace HL:=Fa ((HL.o.aa D.o).aa q);(have fQ:v<C (Fj W K.2 (fun v=>(X v).2) (sz S y) v):=by rw[Fj,Ir];exact ax);obtain⟨q0,q1,q2,q3,q4,q5⟩:=Nn HL.o fQ;(have kR:(v:Int)<(sz S y:Int):=al);have Tm:da w4 w9:=(Q.o.trans (D.o.ae Q.o.size)).trans (q.ae (Q.o.trans (D.o.ae Q.o.size)).size);have Vt:=Fa (aaN Tm yT.o (v*3) (zZ (qF (sX W K.2 (X v).2)).1) (zK (qF (sX W K.2 (X v).2)).2.1) (zK (qF (sX W K.2 (X v).2)).2.2));have HN:=Fa (HL.o.put v (qF (sX W K.2 (X v).2)));clear q Tm tH D tF Q;go_wp2_with fail
       go_roundw
       case rel=>
        refine⟨v+1,al,bd,Vt,?_⟩;have:=HN.o;rw[Fj,aeY (f:=fun v=>qF (sX W K.2 (X v).2))] at this;exact Fa this
       case measure=>simp[intOf];omega
    ·obtain rfl:v=sz S y:=al
     go_wp2_with fail
     go_ret2;refine⟨⟨_,_,_,0,rfl,yd rfl,fun _=>⟨fun k hk=>HF.o k hk,rfl,?_⟩⟩,L.o.bel.trans ((H.o.trans (Q.o.ae H.o.size)).ae L.o.bel.size)⟩;obtain⟨d,cd,e,an⟩:=HL.o.fr;injection e with e1 e2 e3;subst e1;rw[aoL] at an;exact an
def gI (V:List Vr) (L:List Kx) (R:List (List Fr)) (x y:Int) (z:Kx):Tb:=lU V L R (aU [x,y] z) []
theorem aaX {v:wF} (h:U.cell? ⟨g,0,N⟩=M v/\U.cell? ⟨g,1,N⟩=M z) (b:da U U') (a:g<O (T U)):U'.cell? ⟨g,0,N⟩=M v/\U'.cell? ⟨g,1,N⟩=M z:=⟨(b.cell (p:=⟨g,0,N⟩) a).trans h.1,(b.cell (p:=⟨g,1,N⟩) a).trans h.2⟩
theorem cP.below' {G:Nat} {l:Ja} (h:cP w G l) (b:da w w'):cP w' G l:=(b.block G (cS.1 h).1).trans h
theorem cP.ints' {G:Nat} {l:Ja} (h:cP w G l):aB w (M ⟨G,0,N⟩) (iL l):=fun k a=>by
 have c:k<C l:=by rw[bR] at a;exact a
 refine⟨G,0,rfl,(cS.1 h).1,?_⟩;rw[bQ,h.cell k c];simp[iL]
variable {V : List Vr} {L : List Kx} {R : List (List Fr)} {F : List (Nat × Nat)}
variable {f:Nat ->Nat}
def dD (q:Ja) (f:Nat ->Nat):List (Nat×Nat):=q.map fun u=>(u,f u)
theorem aml (S q:Ja) (K:Nat):qV S q K=dD q (aX S q K):=rfl
theorem B3 {q:Ja} {p:Nat×Nat}:p∈dD q f↔p.1∈q/\p.2=f p.1:=by
 rw[dD,aN];constructor
 ·rintro⟨u,b,rfl⟩;exact⟨b,rfl⟩
 ·rintro⟨h,a⟩;exact⟨p.1,h,by rw[<- a]⟩
theorem SD (h0:aS V L R=0) {a b:List (Nat×Nat)} (h:∀p,p∈a↔p∈b):bK V L R a=bK V L R b:=by rw[Bq h0,Bq h0];exact NQ h
theorem zz {Q:Kx} (h:Up Q (C V)):dG (ag V) (C V) (bL V L R Q F):=⟨h,by simp[bL]⟩
theorem aj2 (Q:Kx):Low (bL V L R Q F).2:=fun f h=>by
 obtain⟨K,_,rfl⟩:=aN.1 h;rw[jC]
theorem Ru (p:Pos (ag V)) {Q:Kx} (a:Up Q (C V)) (h:Fit (ag V) f):tQ (ag V) (tN (bL V L R Q F)) f=bK V L R (dD (af Q) f++F):=by
 have l:=qQ f h (af Q);show a8 (aQ (bL V L R Q F).2 (pos (ag V) f (af Q)))=_;rw[bL,Jb _ l,jC,qV];congr 2
 exact mM fun u b=>by rw[B4 p h (A2 a) u b]
theorem Ws (p:Pos (ag V)) {Q:Kx} (h:Up Q (C V)) (a:Fit (ag V) f):tQ (ag V) (tN (bL V L R Q [])) f=bK V L R (dD (af Q) f):=by
 have:=Ru (L:=L) (R:=R) (F:=[]) p h a;rwa [kq] at this
theorem acb (p:Pos (ag V)) {t:Tb} (b:dG (ag V) (C V) t) (l:Low t.2) (h:∀f,Fit (ag V) f ->tQ (ag V) (tN t) f=bK V L R (dD (af t.1) f++F)):t=bL V L R t.1 F:=by
 refine Prod.ext rfl ?_;rw[Wy p b l];refine mM fun K a=>?_;have c:=bS.1 a;rw[h _ fun u=>sD p _ _ u c,aml]
theorem aj1 (h0:aS V L R=0) (b:Pos (ag V)) {Q:Kx} (a:Up Q (C V)) (i:v∈af Q):outT (ag V) v xd (bL V L R Q F)=bL V L R (cH Q (v:Int)) F:=by
 refine acb b ((zz a).o v xd) (ad7 _ _ _ _) fun f d=>?_;have r:=A2 (sZ a (v:Int));show tQ (ag V) (af (cH Q (v:Int)),wH (ag V) (af Q) (af (cH Q (v:Int))) v xd (bL V L R Q F).2) f=_
 rw[WA b r (fun u g=>by
  by_cases e:u=v
  ·exact yd e
  ·exact yk ((x4 a u).2 ⟨g,e⟩)) _ d]
 show bG (fun x=>tQ (ag V) (tN (bL V L R Q F)) (aO f v x)) (sz (ag V) v)=bK V L R (dD (af (cH Q (v:Int))) f++F);rw[Bq h0, <- afe b v];refine gM fun x j=>?_;rw[Ru b a (fun u=>EY d j u), <- Bq h0];refine SD h0 fun p=>?_;rw[bE,B3,bY,bE,B3,x4 a, <- or_assoc];refine or_congr_left ?_;constructor
 ·rintro⟨c,h⟩;by_cases e:p.1=v
  ·rw[aO,aw e] at h;exact yd (Prod.ext e h)
  ·rw[aO,aC e] at h;exact yk ⟨⟨c,e⟩,h⟩
 ·rintro(rfl |⟨⟨c,e⟩,h⟩)
  ·exact⟨i,by simp[aO]⟩
  ·exact⟨c,by rw[aO,aC e];exact h⟩
def KQ (Q:Kx) (l:Kx):Kx:=l.foldl (fun Q v=>cH Q v) Q
theorem XA (h0:aS V L R=0) (h:Pos (ag V)):∀(l:Kx) {Q:Kx},Up Q (C V) ->(∀v∈l,0<=v/\v.toNat∈af Q) ->l.Nodup ->lW (ag V) (bL V L R Q F) l=bL V L R (KQ Q l) F/\Up (KQ Q l) (C V)
 |[],Q,hQ,_,_=>⟨rfl,hQ⟩
 |v::l,Q,hQ,hl,hn=>by
  obtain⟨j,b⟩:=hl v dJ;obtain⟨n,f⟩:=nS.1 hn;have a:((v.toNat:Nat):Int)=v:=al
  have e:=aj1 (R:=R) (L:=L) (F:=F) h0 h hQ b;rw[a] at e;have c:=sZ hQ v
  have i:∀u∈l,0<=u/\u.toNat∈af (cH Q v):=fun u g=>by
   obtain⟨k,d⟩:=hl u (dZ _ g);refine⟨k,?_⟩;rw[<- a,x4 hQ];exact⟨d,fun e=>n (by rw[show v=u by omega];exact g)⟩
  have:=XA h0 h l c i f;refine⟨?_,this.2⟩;show lW (ag V) (outT (ag V) v.toNat xd (bL V L R Q F)) l=_;rw[e];exact this.1
theorem X7:∀(l:Kx) {Q:Kx} {n:Nat},Up Q n ->(∀v∈l,0<=v) ->∀u:Nat,u∈af (KQ Q l)↔u∈af Q/\¬(u:Int)∈l
 |[],Q,n,_,_,u=>by simp[KQ]
 |v::l,Q,n,hQ,hl,u=>by
  have c:((v.toNat:Nat):Int)=v:=by have:=hl v dJ;omega
  show u∈af (KQ (cH Q v) l)↔_;rw[X7 l (sZ hQ v) (fun w f=>hl w (dZ _ f)) u, <- c,x4 hQ,c,bY];constructor
  ·rintro⟨⟨b,a⟩,d⟩;exact⟨b,fun h=>h.elim (fun e=>a al) d⟩
  ·rintro⟨b,a⟩;exact⟨⟨b,fun e=>a (yd al)⟩,fun h=>a (yk h)⟩
variable {V : List Vr} {L : List Kx} {R : List (List Fr)}
theorem adI (h0:aS V L R=0) {Q:Kx} (b:Up Q (C V)):wE V L R Q []=0/\lU V L R Q []=bL V L R Q []:=by
 have l:fL (ag V) (C V) []:=⟨Hl,(fun _ h=>by cases h),(fun _ h=>by cases h)⟩;have s:=aiq h0 b l (fun v _ m=>by cases m);have a:bH (bL V L R Q []).2=1:=by rw[Rt h0 b,Bq h0,KP (Sq h0)]
 have z:wE V L R Q (zF [])=0:=by rw[wE,aw s,Dc,a];decide
 refine⟨z,?_⟩;show lU V L R Q (zF [])=_;rw[lU,z,aw rfl,Dc,lu,a,bL];congr 1
 rw[zr];refine mM fun K _=>?_;show qF (a8 (qF _)*(1/1))=_;rw[jC,jH,Hf 1 a6,lN]
structure er (V:List Vr) (x y:Nat) (z:Kx):Prop where
 hx:x<C V
 hy:y<C V
 hz:Up z (C V)
 xy:x≠y
 xz:¬x∈af z
 yz:¬y∈af z
variable {x y : Nat} {z : Kx}
theorem er.zm (h:er V x y z) (u:Nat):u∈af z↔(u:Int)∈z:=by
 rw[af,aN];constructor
 ·rintro⟨q,a,e⟩;have:=((eH.1 h.hz).1 q a).1;rw[show (u:Int)=q by omega];exact a
 ·exact fun h=>⟨_,h,aE⟩
theorem Rq {a b:Kx} (d:∀v∈a,0<=v/\v<n) (e:∀v∈b,0<=v/\v<n):Up (aU a b) n:=by
 obtain⟨h,c⟩:=C1 a b;exact eH.2 ⟨fun v f=>(c v).1 f |>.elim (d v) (e v),h⟩
theorem er.q (h:er V x y z):Up (aU [(x:Int),(y:Int)] z) (C V):=Rq (fun v a=>by
 have:=h.hx;have:=h.hy;simp only[bY,gK,jq] at a;rcases a with rfl |rfl<;>omega) (eH.1 h.hz).1
theorem er.u (h:er V x y z):Up (aU [(x:Int)] z) (C V):=Rq (fun v a=>by
 have:=h.hx;rw[bA.1 a];omega) (eH.1 h.hz).1
theorem er.qm (u:Nat):u∈af (aU [(x:Int),(y:Int)] z)↔u=x∨u=y∨u∈af z:=by
 rw[E3];simp[af,or_assoc]
theorem er.um (u:Nat):u∈af (aU [(x:Int)] z)↔u=x∨u∈af z:=by
 rw[E3];simp[af]
theorem XB {F:List (Nat×Nat)} (h0:aS V L R=0) (p:Pos (ag V)) {Q z:Kx} (b:Up Q (C V)) (f:Up z (C V)) (hs:∀u,u∈af z ->u∈af Q):lW (ag V) (bL V L R Q F) (fN Q z)=bL V L R z F:=by
 have m:∀v,v∈fN Q z↔v∈Q/\¬v∈z:=fun v=>by rw[fN,dC,eP]
 have o:=(eH.1 b).1;obtain⟨i,j⟩:=XA h0 p (fN Q z) b (fun v c=>⟨(o v ((m v).1 c).1).1,aN.2 ⟨v,((m v).1 c).1,rfl⟩⟩) ((CX b).filter _);rw[i];congr 1
 refine Rn j f fun u=>?_;rw[X7 _ b (fun v c=>(o v ((m v).1 c).1).1),m]
 have g:u∈af z↔(u:Int)∈z:=by
  rw[af,aN];constructor
  ·rintro⟨q,a,e⟩;have:=((eH.1 f).1 q a).1;rw[show (u:Int)=q by omega];exact a
  ·exact fun h=>⟨_,h,aE⟩
 have K:u∈af Q ->(u:Int)∈Q:=fun h=>by
  obtain⟨q,a,e⟩:=aN.1 h;have:=(o q a).1;rw[show (u:Int)=q by omega];exact a
 constructor
 ·rintro⟨k,d⟩;refine g.2 (zt fun h=>d ⟨K k,h⟩)
 ·exact fun h=>⟨hs u h,fun d=>d.2 (g.1 h)⟩
theorem Ea (h0:aS V L R=0) (h:er V x y z):gI V L R x y z=bL V L R (aU [(x:Int),(y:Int)] z) []:=(adI h0 h.q).2
variable {V : List Vr} {L : List Kx} {R : List (List Fr)} {x y : Nat} {z : Kx}
theorem aaJ (p:Pos S) {t:Tb} (a:dG S n t) (h:k<cnt S (af t.1)):dr (aQ t.2 k)=tQ S (tN t) (aX S (af t.1) k):=by
 show a8 _=a8 (aQ t.2 (pos S (aX S (af t.1) k) (af t.1)));rw[RY p (A2 a.up) h]
theorem aiB (h:er V x y z):cH (aU [(x:Int),(y:Int)] z) (y:Int)=aU [(x:Int)] z:=by
 refine Rn (sZ h.q _) h.u fun u=>?_;rw[x4 h.q,er.qm,er.um];constructor
 ·rintro⟨a |a |a,b⟩
  ·exact yd a
  ·exact absurd a b
  ·exact yk a
 ·rintro(rfl |a)
  ·exact⟨yd rfl,h.xy⟩
  ·exact⟨yk (yk a),fun e=>h.yz (e▸a)⟩
theorem atX (h0:aS V L R=0) (p:Pos (ag V)) (h:er V x y z) (c:v<sz (ag V) y) (a:Fit (ag V) f):tQ (ag V) (tN (eZ (ag V) y v (gI V L R x y z))) f=bK V L R (dD (af (aU [(x:Int),(y:Int)] z)) (aO f y v)):=by
 rw[Ea h0 h];have r:=A2 (sZ h.q (y:Int));show tQ (ag V) (af (cH (aU [(x:Int),(y:Int)] z) (y:Int)),xe (ag V) (af (aU [(x:Int),(y:Int)] z)) (af (cH (aU [(x:Int),(y:Int)] z) (y:Int))) y v (bL V L R (aU [(x:Int),(y:Int)] z) []).2) f=_
 rw[Rw p r (fun u b=>by
  by_cases e:u=y
  ·exact yd e
  ·exact yk ((x4 h.q u).2 ⟨b,e⟩)) _ a]
 exact Ws p h.q fun u=>EY a c u
variable {V : List Vr} {L : List Kx} {R : List (List Fr)} {x y : Nat} {z : Kx}
variable {vx:Nat}
theorem EZ {g:Nat ->Nat} {w:Nat}:aO g v w v=w:=by simp[aO]
theorem A1 {g:Nat ->Nat} {w u:Nat} (h:u≠v):aO g v w u=g u:=by simp[aO,h]
theorem er.nx (h:er V x y z) {u:Nat} (a:u∈af z):u≠x:=fun e=>h.xz (by rw[<- e];exact a)
theorem er.ny (h:er V x y z) {u:Nat} (a:u∈af z):u≠y:=fun e=>h.yz (by rw[<- e];exact a)
theorem atD (h:er V x y z) {g:Nat ->Nat}:∀p,p∈dD (af (aU [(x:Int)] z)) (aO g x vx)↔p∈dD (af z) g++[(x,vx)]:=fun p=>by
 rw[B3,er.um,bE,B3,bA];constructor
 ·rintro⟨e |b,a⟩
  ·rw[e,EZ] at a;exact yk (Prod.ext e a)
  ·rw[A1 (h.nx b)] at a;exact yd ⟨b,a⟩
 ·rintro(⟨b,a⟩ |rfl)
  ·exact⟨yk b,by rw[A1 (h.nx b)];exact a⟩
  ·exact⟨yd rfl,EZ.symm⟩
theorem atE (h:er V x y z) {g:Nat ->Nat}:∀p,p∈dD (af (aU [(x:Int),(y:Int)] z)) (aO (aO g x vx) y v)↔p∈dD (af z) g++([(y,v)]++[(x,vx)]):=fun p=>by
 rw[B3,er.qm,bE,B3,bE,bA,bA];constructor
 ·rintro⟨e |e |b,a⟩
  ·rw[e,A1 h.xy,EZ] at a;exact yk (yk (Prod.ext e a))
  ·rw[e,EZ] at a;exact yk (yd (Prod.ext e a))
  ·rw[A1 (h.ny b),A1 (h.nx b)] at a;exact yd ⟨b,a⟩
 ·rintro(⟨b,a⟩ |rfl |rfl)
  ·exact⟨yk (yk b),by rw[A1 (h.ny b),A1 (h.nx b)];exact a⟩
  ·exact⟨yk (yd rfl),EZ.symm⟩
  ·exact⟨yd rfl,by rw[A1 h.xy,EZ]⟩
variable {V : List Vr} {L : List Kx} {R : List (List Fr)}
variable {Bj:Kx}
theorem asy (c:∀w,w<C L ->Up (L.getD w []) (C L)) {F:Kx} {u:Nat}:u∈af ((ed L Bj F).getD v [])↔u∈af (L.getD v [])/\¬(v:Int)∈Bj/\¬(u:Int)∈F:=by
 by_cases b:v<C L
 ·rw[asz b,ri];by_cases e:(v:Int)∈Bj
  ·rw[aw e];exact⟨(fun h=>by cases h),fun h=>absurd e h.2.1⟩
  ·rw[aC e,af,af,aN,aN];constructor
   ·rintro⟨q,g,rfl⟩;obtain⟨a,p⟩:=dC.1 g;have o:=((eH.1 (c v b)).1 q a).1;refine⟨⟨q,a,rfl⟩,e,fun h=>?_⟩;(have i:¬q∈F:=by simpa using p);exact i (by rwa [show ((q.toNat:Nat):Int)=q by omega] at h)
   ·rintro⟨⟨q,a,rfl⟩,_,n⟩;have o:=((eH.1 (c v b)).1 q a).1;refine⟨q,dC.2 ⟨a,?_⟩,rfl⟩;rw[eP];rwa [show ((q.toNat:Nat):Int)=q by omega] at n
 ·have d:(ed L Bj F).getD v []=[]:=by rw[cF,iT (by rw[vF];omega)];rfl
  have f:L.getD v []=[]:=by rw[cF,iT al];rfl
  rw[d,f];exact⟨(fun h=>by cases h),fun h=>by cases h.1⟩
theorem ahl (h0:aS V L R=0) (l:C L<=8) {x y:Nat} {z:Kx} (B9:vx<sz (ag V) x) (m:tz L x y z=(y6,0)) (v:Nat) {K:Nat} (hK:K<cnt (ag V) (af z)):
  gC V L R [(x,vx)] (qV (ag V) (af z) K++[(y,v)])*bK V L R [(x,vx)]=bK V L R (qV (ag V) (af z) K++[(x,vx)])*gC V L R (qV (ag V) (af z) K) [(y,v)]/\
  ∀a,a<sz (ag V) x ->gC V L R (qV (ag V) (af z) K) [(x,a),(y,v)]*bK V L R ((x,a)::qV (ag V) (af z) K)=bK V L R ((x,a)::([(y,v)]++qV (ag V) (af z) K))*bK V L R [(x,a)]/\gC V L R (qV (ag V) (af z) K) [(x,a)]=bK V L R [(x,a)]:=by
 have ai:kA L [[(x:Int)],[(y:Int)],z]=0:=by
  by_cases e:kA L [[(x:Int)],[(y:Int)],z]=0
  ·exact e
  ·rw[tz,aC e] at m;cases m
 rw[tz,aw ai] at m;have ab:=(Prod.mk.inj m).1;rw[iu,iu,oU] at ab;obtain⟨⟨Ba,ad⟩,ae⟩:=ab;obtain⟨s,aa⟩:=acF ai;obtain⟨⟨_,hx⟩,⟨_,hy⟩,Fy,ak,Tr⟩:=ahE aa;have t:C L=C V:=(gY h0).len;have H:x<C V:=al
 have ao:y<C V:=al
 have D:=lr Fy;rw[t] at D;have fH:Pos (ag V):=by have:=(gY h0).fine.pos;rwa [jP] at this
 obtain⟨_,Bh⟩:=D9.1 aa;simp only[Q5,Q4,kq,nT,bE] at Bh
 have Bm:∀u:Nat,u∈af z↔(u:Int)∈z:=fun u=>by
  rw[af,aN];constructor
  ·rintro⟨q,Y,e⟩;have:=((eH.1 D).1 q Y).1;rw[show (u:Int)=q by omega];exact Y
  ·exact fun h=>⟨_,h,aE⟩
 have lC:x≠y:=fun e=>Bh.2.2 (x:Int) aE (y:Int) (yd aE) (by rw[e]);have x7:¬x∈af z:=fun h=>Bh.2.2 (x:Int) aE (x:Int) (yk ((Bm x).1 h)) rfl;have Dh:¬y∈af z:=fun h=>Bh.2.1.2.2 (y:Int) aE (y:Int) ((Bm y).1 h) rfl
 have bh:∀w,w<C L ->Up (L.getD w []) (C L):=fun w g=>by
  have:=(gY h0).up w g;rw[<- getD_at g, <- t] at this;exact this
 have aq:∀p∈qV (ag V) (af z) K,p.1∈af z:=fun p d=>by
  rw[<- C5 (ag V) (af z) K];exact aN.2 ⟨p,d,rfl⟩
 have aj:∀p∈qV (ag V) (af z) K,p.2<sz (ag V) p.1:=fun p d=>by
  rw[qV] at d;obtain⟨u,_,rfl⟩:=aN.1 d;exact sD fH _ _ u hK
 have j:∀u:Nat,u∈(qV (ag V) (af z) K).map (·.1)↔(u:Int)∈z:=fun u=>by rw[C5,Bm]
 have r:=Sq h0;have o:fL (ag V) (C V) [(x,vx)]:=⟨aE,fun p d=>by rw[bA.1 d];exact H,fun p d=>by rw[bA.1 d];exact B9⟩;have A:fL (ag V) (C V) (qV (ag V) (af z) K):=⟨by rw[C5];exact D.nodup,fun p d=>uR D _ (aq p d),aj⟩;have c:=fun {a b:Kx} {i j:Nat}=>asy (L:=L) (Bj:=a) (F:=b) (v:=i) (u:=j) bh;have k:eN (ag V) (C V) (ed L z []) (dE (qV (ag V) (af z) K) (qW V L R)):=r.isDo A.nd A.val (fun v _ i u b=>c.2 ⟨b,fun h=>i ((j v).2 h),aE⟩) (fun v _ u b=>(c.1 b).1);have fx:eN (ag V) (C V) (ed L [(x:Int)] []) (dE [(x,vx)] (qW V L R)):=r.isDo o.nd o.val (fun v _ i u b=>c.2 ⟨b,fun h=>i (by simp at h⊢;omega),aE⟩) (fun v _ u b=>(c.1 b).1)
 have an:eN (ag V) (C V) (ed L ((x:Int)::z) []) (dE [(x,vx)] (dE (qV (ag V) (af z) K) (qW V L R))):=k.isDo o.nd o.val (fun v _ i u b=>c.2 ⟨(c.1 b).1,fun h=>by
  rcases bY.1 h with h |h
  ·exact i (by simp;omega)
  ·exact(c.1 b).2.1 h,aE⟩) (fun v _ u b=>c.2 ⟨(c.1 b).1,fun h=>(c.1 b).2.1 (dZ _ h),aE⟩)
 have f:∀Bj F,C (ed L Bj F)=C L:=fun Bj F=>vF _ _ _;have P:(fun u=>u∈af [(x:Int)])=fun u=>u=x:=by funext u;simp[af]
 have Q:(fun u=>u∈af [(y:Int)])=fun u=>u∈[(y,v)].map (·.1):=by funext u;simp[af]
 have S:(fun u=>u∈af z)=fun u=>u∈(qV (ag V) (af z) K).map (·.1):=by funext u;rw[C5]
 have e4:(fun u=>u∈af [])=fun _=>False:=by funext u;simp[af]
 have B7:¬xw (ed L [] [(x:Int)]) (C V) (fun v=>v=x) (fun v=>v∈(qV (ag V) (af z) K).map (·.1)) (fun _=>False):=fun g=>by
  have Bb:=(aej (LM s [] [(x:Int)]) (by rw[f];exact l) (x:=[(x:Int)]) (y:=z) (z:=[]) (by rw[f];exact ak)).2 (by
   rw[f,t,P,S,e4];exact g)
  rw[Bb] at ad;cases ad
 have o2:¬xw (ed L [] z) (C V) (fun v=>v∈(qV (ag V) (af z) K).map (·.1)) (fun u=>u∈[(y,v)].map (·.1)) (fun v=>v=x):=fun g=>by
  have Bb:=(aej (LM s [] z) (by rw[f];exact l) (x:=z) (y:=[(y:Int)]) (z:=[(x:Int)]) (by rw[f];exact Tr)).2 (by
   rw[f,t,P,Q,S];exact g)
  rw[Bb] at ae;cases ae
 have Ts:¬eI (ed L z []) (fun u=>u∈[(y,v)].map (·.1)) x:=fun U=>by
  rw[<- Q] at U
  have zI:∀w∈af [(y:Int)],w<C (ed L z []):=fun w g=>by
   rw[f];simp[af] at g;omega
  have:=(PN (LM s z []) (by rw[f];exact l) zI x).2 ((aaW (LM s z []) (by rw[f];exact l) zI x).1 U);rw[this] at Ba;cases Ba
 have:=arp r (fz:=qV (ag V) (af z) K) (fy:=[(y,v)]) (Lx:=ed L [(x:Int)] []) (Mb:=ed L [] [(x:Int)]) (Jg:=ed L [] z) (Lz:=ed L z []) (Lxz:=ed L ((x:Int)::z) []) (UD:=ed L [(x:Int)] z) ⟨B9,H⟩ (fun p d=>⟨aj p d,A.lt p d⟩) A.nd (fun p d=>by rw[bA.1 d];exact ao) (by rw[C5];exact x7) (fun p d=>by rw[bA.1 d];exact lC.symm) (fun p d=>by rw[bA.1 d,C5];exact Dh)
  fx (fun v u b=>(c.1 b).1) k (fun v u b=>(c.1 b).1) an (fun v u b=>c.2 ⟨(c.1 b).1,fun h=>(c.1 b).2.1 (dZ _ h),aE⟩)
  (fun v u b n=>c.2 ⟨b,aE,by simp;omega⟩) (fun v u b=>⟨(c.1 b).1,fun e=>(c.1 b).2.2 (by simp;omega)⟩)
  (fun v u b n=>c.2 ⟨b,aE,fun h=>n ((j u).2 h)⟩) (fun v u b=>⟨(c.1 b).1,fun h=>(c.1 b).2.2 ((j u).1 h)⟩)
  (fun v u b n=>c.2 ⟨(c.1 b).1,(c.1 b).2.1,fun h=>n ((j u).2 h)⟩) (fun v u b=>⟨c.2 ⟨(c.1 b).1,(c.1 b).2.1,aE⟩,fun h=>(c.1 b).2.2 ((j u).1 h)⟩)
  B7 o2 Ts
 simp only[Bq h0];refine⟨this.1,fun a O1=>⟨this.2 a O1,?_⟩⟩
 exact aap r k (fun v _ u b=>(c.1 b).1) (fun p d=>by rw[bA.1 d];exact H) fun v i X=>by
  have hX:(fun u=>u∈([(x,a)]:List (Nat×Nat)).map (·.1))=fun v=>v=x:=by funext v;simp
  rw[hX] at X;exact B7 ⟨v,y6,i,aiw (fun v u b n=>c.2 ⟨b,aE,by simp;omega⟩) X⟩
variable {V : List Vr} {L : List Kx} {R : List (List Fr)} {F : List (Nat × Nat)}
theorem aj6 (h0:aS V L R=0) (c:Pos (ag V)) {Q:Kx} (a:Up Q (C V)) {x:Nat} (i:v∈af Q) (j:x<sz (ag V) v):eZ (ag V) v x (bL V L R Q [])=bL V L R (cH Q (v:Int)) [(v,x)]:=by
 refine acb c ((zz a).fix v x) (aag _ _ _ _) fun f d=>?_;have r:=A2 (sZ a (v:Int));show tQ (ag V) (af (cH Q (v:Int)),xe (ag V) (af Q) (af (cH Q (v:Int))) v x (bL V L R Q []).2) f=_
 rw[Rw c r (fun u g=>by
  by_cases e:u=v
  ·exact yd e
  ·exact yk ((x4 a u).2 ⟨g,e⟩)) _ d]
 show tQ (ag V) (tN (bL V L R Q [])) (aO f v x)=bK V L R (dD (af (cH Q (v:Int))) f++[(v,x)]);rw[Ru c a fun u=>EY d j u];refine SD h0 fun p=>?_;rw[kq,B3,bE,B3,x4 a,bA];constructor
 ·rintro⟨b,h⟩;by_cases e:p.1=v
  ·rw[aO,aw e] at h;exact yk (Prod.ext e h)
  ·rw[aO,aC e] at h;exact yd ⟨⟨b,e⟩,h⟩
 ·rintro(⟨⟨b,e⟩,h⟩ |rfl)
  ·exact⟨b,by rw[aO,aC e];exact h⟩
  ·exact⟨i,by simp[aO]⟩
def Am (V:List Vr) (L:List Kx) (R:List (List Fr)) (x vx:Nat) (y:Int) (z:Kx):Tb:=eZ (ag V) x vx (gI V L R x y z)
def kI (V:List Vr) (L:List Kx) (R:List (List Fr)) (x vx:Nat) (y:Int) (z:Kx):Tb:=lW (ag V) (Am V L R x vx y z) (fN (Am V L R x vx y z).1 z)
def yI (V:List Vr) (L:List Kx) (R:List (List Fr)) (x vx:Nat) (y:Int) (z:Kx):Tb:=((kI V L R x vx y z).1,lu (kI V L R x vx y z).2)
def Gc (V:List Vr) (L:List Kx) (R:List (List Fr)) (x:Nat) (y:Int) (z:Kx):Tb:=lW (ag V) (gI V L R x y z) (fN (gI V L R x y z).1 [(x:Int)])
def gN (V:List Vr) (L:List Kx) (R:List (List Fr)) (x vx:Nat) (y:Int) (z:Kx):Tb:=uX (ag V) (Gc V L R x y z) (yI V L R x vx y z)
def xg (V:List Vr) (L:List Kx) (R:List (List Fr)) (x vx:Nat) (y:Int) (z:Kx):Tb:=lW (ag V) (gI V L R x y z) (fN (gI V L R x y z).1 (gN V L R x vx y z).1)
variable {x y : Nat} {z : Kx}
theorem arN (h:er V x y z):cH (aU [(x:Int),(y:Int)] z) (x:Int)=aU [(y:Int)] z:=by
 have d:Up (aU [(y:Int)] z) (C V):=Rq (fun v c=>by have:=h.hy;rw[bA.1 c];omega) (eH.1 h.hz).1;refine Rn (sZ h.q _) d fun u=>?_;have m:u∈af (aU [(y:Int)] z)↔u=y∨u∈af z:=by rw[E3];simp[af]
 rw[x4 h.q,er.qm,m];constructor
 ·rintro⟨a |a |a,b⟩
  ·exact absurd a b
  ·exact yd a
  ·exact yk a
 ·rintro(rfl |a)
  ·exact⟨yk (yd rfl),h.xy.symm⟩
  ·exact⟨yk (yk a),fun e=>h.xz (e▸a)⟩
theorem er.yu (h:er V x y z):Up (aU [(y:Int)] z) (C V):=Rq (fun v a=>by have:=h.hy;rw[bA.1 a];omega) (eH.1 h.hz).1
theorem er.ox (h:er V x y z):Up [(x:Int)] (C V):=eH.2 ⟨fun v a=>by have:=h.hx;rw[bA.1 a];omega,Hk _ _⟩
theorem ahm (h0:aS V L R=0) (p:Pos (ag V)) (h:er V x y z) (d:vx<sz (ag V) x):Am V L R x vx y z=bL V L R (aU [(y:Int)] z) [(x,vx)]:=by
 rw[Am,Ea h0 h,aj6 h0 p h.q ((er.qm x).2 (yd rfl)) d,arN h]
theorem LB (h0:aS V L R=0) (p:Pos (ag V)) (h:er V x y z) (d:vx<sz (ag V) x):kI V L R x vx y z=bL V L R z [(x,vx)]:=by
 rw[kI,ahm h0 p h d];exact XB h0 p h.yu h.hz fun u a=>by rw[E3];exact yk a
theorem Pt (h0:aS V L R=0) (p:Pos (ag V)) (h:er V x y z):Gc V L R x y z=bL V L R [(x:Int)] []:=by
 rw[Gc,Ea h0 h];exact XB h0 p h.q h.ox fun u a=>(er.qm u).2 (yd (by simpa [af] using a))
theorem T8 (h0:aS V L R=0) (p:Pos (ag V)) (h:er V x y z) (d:vx<sz (ag V) x):(gN V L R x vx y z).1=aU [(x:Int)] z:=by
 rw[gN,yI,Pt h0 p h,LB h0 p h d];rfl
theorem ahp (h0:aS V L R=0) (p:Pos (ag V)) (h:er V x y z) (d:vx<sz (ag V) x):xg V L R x vx y z=bL V L R (aU [(x:Int)] z) []:=by
 rw[xg,T8 h0 p h d,Ea h0 h];exact XB h0 p h.q h.u fun u a=>(er.qm u).2 (((er.um u).1 a).imp id yk)
theorem aal (h0:aS V L R=0) (p:Pos (ag V)) (h:er V x y z) (d:vx<sz (ag V) x):dG (ag V) (C V) (yI V L R x vx y z):=by
 rw[yI,LB h0 p h d];exact⟨h.hz,by show C (lu _)=_;rw[KG];simp[bL]⟩
theorem ahn (h0:aS V L R=0) (p:Pos (ag V)) (h:er V x y z) (d:vx<sz (ag V) x):dG (ag V) (C V) (gN V L R x vx y z):=by
 refine dG.mul ?_ (aal h0 p h d);rw[Pt h0 p h];exact zz h.ox
def sf (V:List Vr) (L:List Kx) (R:List (List Fr)) (x vx:Nat) (z:Kx) (g:Nat ->Nat):Rat:=bK V L R [(x,g x)]*(bK V L R (dD (af z) g++[(x,vx)])*(1/bK V L R [(x,vx)]))
theorem arP (h0:aS V L R=0) (p:Pos (ag V)) (h:er V x y z) (d:vx<sz (ag V) x) (a:Fit (ag V) f):tQ (ag V) (tN (yI V L R x vx y z)) f=bK V L R (dD (af z) f++[(x,vx)])*(1/bK V L R [(x,vx)]):=by
 rw[yI,LB h0 p h d];have c:=qQ f a (af z);have l:pos (ag V) f (af z)<C (lu (bL V L R z [(x,vx)]).2):=by rw[KG];simpa [bL] using c
 have g:pos (ag V) f (af z)<(bL V L R z [(x,vx)]).2.length:=by rwa [KG] at l
 have e:=Ru (L:=L) (R:=R) (F:=[(x,vx)]) p h.hz a
 have b:tQ (ag V) (tN (bL V L R z [(x,vx)])) f=a8 ((bL V L R z [(x,vx)]).2[pos (ag V) f (af z)]):=by
  show a8 (aQ (bL V L R z [(x,vx)]).2 (pos (ag V) f (af z)))=_;rw[mr g]
 show a8 (aQ (lu (bL V L R z [(x,vx)]).2) (pos (ag V) f (af z)))=_;rw[mr l,XK,jC, <- b,e,Rt h0 h.hz]
theorem aho (h0:aS V L R=0) (p:Pos (ag V)) (h:er V x y z) (d:vx<sz (ag V) x) (a:Fit (ag V) f):tQ (ag V) (tN (gN V L R x vx y z)) f=sf V L R x vx z f:=by
 rw[gN,aeP p (n:=V.length) (by rw[Pt h0 p h];exact zz h.ox) (aal h0 p h d) a,Pt h0 p h,Ws p h.ox a,arP h0 p h d a,sf];rfl
def C2 (V:List Vr) (L:List Kx) (R:List (List Fr)) (x y v:Nat) (z:Kx) (w:(Nat ->Nat) ->Rat) (g:Nat ->Nat):Rat:=
 (if w g=0 then 0 else w g/bK V L R (dD (af (aU [(x:Int)] z)) g))*bK V L R (dD (af (aU [(x:Int),(y:Int)] z)) (aO g y v))
theorem Ke (h0:aS V L R=0) (p:Pos (ag V)) (h:er V x y z) {W:Tb} (o:dG (ag V) (C V) W) (g:W.1=aU [(x:Int)] z) {w:(Nat ->Nat) ->Rat} (l:∀f,Fit (ag V) f ->tQ (ag V) (tN W) f=w f) (n:v<sz (ag V) y) (c:k<cnt (ag V) (af (aU [(x:Int)] z))):
  dr (aQ W.2 k)=w (aX (ag V) (af (aU [(x:Int)] z)) k)/\
  dr (aQ (bL V L R (aU [(x:Int)] z) []).2 k)=bK V L R (dD (af (aU [(x:Int)] z)) (aX (ag V) (af (aU [(x:Int)] z)) k))/\
  dr (aQ (eZ (ag V) y v (gI V L R x y z)).2 k)=bK V L R (dD (af (aU [(x:Int),(y:Int)] z)) (aO (aX (ag V) (af (aU [(x:Int)] z)) k) y v))/\
  mQ W.2 (bL V L R (aU [(x:Int)] z) []).2 (eZ (ag V) y v (gI V L R x y z)).2 k=qF (C2 V L R x y v z w (aX (ag V) (af (aU [(x:Int)] z)) k)):=by
 have r:dG (ag V) (C V) (eZ (ag V) y v (gI V L R x y z)):=by rw[Ea h0 h];exact(zz h.q).fix y v
 have i:(eZ (ag V) y v (gI V L R x y z)).1=aU [(x:Int)] z:=by rw[Ea h0 h];exact aiB h
 have j:Fit (ag V) (aX (ag V) (af (aU [(x:Int)] z)) k):=fun u=>sD p _ _ u c
 have a:dr (aQ W.2 k)=w (aX (ag V) (af (aU [(x:Int)] z)) k):=by
  rw[aaJ p o (by rw[g];exact c),g,l _ j]
 have b:dr (aQ (bL V L R (aU [(x:Int)] z) []).2 k)=bK V L R (dD (af (aU [(x:Int)] z)) (aX (ag V) (af (aU [(x:Int)] z)) k)):=by
  rw[aaJ p (zz h.u) c];exact Ws p h.u j
 have d:dr (aQ (eZ (ag V) y v (gI V L R x y z)).2 k)=bK V L R (dD (af (aU [(x:Int),(y:Int)] z)) (aO (aX (ag V) (af (aU [(x:Int)] z)) k) y v)):=by
  rw[aaJ p r (by rw[i];exact c),i,atX h0 p h n j]
 have m:dr (o8 W.2 (bL V L R (aU [(x:Int)] z) []).2 k)=if dr (aQ W.2 k)=0 then 0 else dr (aQ W.2 k)/dr (aQ (bL V L R (aU [(x:Int)] z) []).2 k):=by
  rw[o8];by_cases e:dr (aQ W.2 k)=0
  ·rw[aw e,aw e,e]
  ·rw[aC e,aC e];exact jC _
 refine⟨a,b,d,?_⟩;rw[mQ,m,a,b,d];rfl
variable {V : List Vr} {L : List Kx} {R : List (List Fr)} {x y : Nat} {z : Kx}
theorem ail (h:er V x y z) {g:Nat ->Nat} (b:Fit (ag V) g):fL (ag V) (C V) (dD (af z) g):=by
 have k:(dD (af z) g).map (·.1)=af z:=by rw[dD,zr];exact List.map_id _
 exact⟨by rw[k];exact A2 h.hz,fun p a=>uR h.hz _ (B3.1 a).1,fun p a=>by rw[(B3.1 a).2];exact b _⟩
theorem ajK {g:Nat ->Nat} {x:Nat}:aO g x (g x)=g:=funext fun u=>by
 by_cases e:u=x
 ·subst e;rw[EZ]
 ·rw[A1 e]
theorem ahk (h0:aS V L R=0) (m:C L<=8) (o:Pos (ag V)) (h:er V x y z) (w:vx<sz (ag V) x) (n:tz L x y z=(y6,0))
  {g:Nat ->Nat} (c:Fit (ag V) g) (i:sf V L R x vx z g≠0 ->bK V L R (dD (af (aU [(x:Int)] z)) g)≠0):
  C2 V L R x y v z (sf V L R x vx z) g=bK V L R (dD (af z) g++[(x,vx)])*(1/bK V L R [(x,vx)])*gC V L R (dD (af z) g) [(x,g x),(y,v)]:=by
 have H:=A2 h.hz;have K:=qQ g c (af z)
 have k:qV (ag V) (af z) (pos (ag V) g (af z))=dD (af z) g:=by
  rw[qV,dD];exact mM fun u r=>by rw[B4 o c H u r]
 obtain⟨_,b⟩:=ahl h0 m w n v K;obtain⟨f,b2⟩:=b (g x) (c x);rw[k] at f b2;have u1:=atD h (g:=g) (vx:=g x);have q:=atE h (g:=g) (vx:=g x) (v:=v);rw[ajK] at u1 q
 have u2:bK V L R (dD (af (aU [(x:Int)] z)) g)=bK V L R ((x,g x)::dD (af z) g):=SD h0 fun p=>by
  rw[u1 p,bE,bA,bY,or_comm]
 have s:bK V L R (dD (af (aU [(x:Int),(y:Int)] z)) (aO g y v))=bK V L R ((x,g x)::([(y,v)]++dD (af z) g)):=SD h0 fun p=>by
  rw[q p,bE,bE,bA,bA,bY,bE,bA];constructor
  ·rintro(a |a |a)
   ·exact yk (yk a)
   ·exact yk (yd a)
   ·exact yd a
  ·rintro(a |a |a)
   ·exact yk (yk a)
   ·exact yk (yd a)
   ·exact yd a
 rw[u2] at i;rw[C2,u2,s];have t:=ail h c;by_cases e:sf V L R x vx z g=0
 ·rw[aw e,CG];rw[sf] at e;rcases Rat.mul_eq_zero.1 e with d |d
  ·have:=ao7 h0 t [(x,g x)] y v (b2.trans d);rw[show [(x,g x),(y,v)]=[(x,g x)]++[(y,v)] from rfl,this,Rat.mul_zero]
  ·rw[d,CG]
 ·rw[aC e];have j:=i e;rw[sf];generalize bK V L R ((x,g x)::dD (af z) g)=A at *;generalize bK V L R ((x,g x)::([(y,v)]++dD (af z) g))=B2 at *;generalize bK V L R [(x,g x)]=P at *;generalize bK V L R (dD (af z) g++[(x,vx)])*(1/bK V L R [(x,vx)])=Q at *;generalize gC V L R (dD (af z) g) [(x,g x),(y,v)]=B7 at *;have l:P*Q/A*B2=Q*(B2*P)/A:=by rw[jH,jH];grind
  rw[l, <- f,jH, <- oM,oM,Hf _ j,lN]
theorem atC (h:er V x y z) {g:Nat ->Nat} {a:Nat}:dD (af z) (aO g x a)=dD (af z) g:=mM fun u b=>by rw[A1 (h.nx b)]
theorem arH (h0:aS V L R=0) (j:C L<=8) (c:Pos (ag V)) (h:er V x y z) (w:vx<sz (ag V) x) (d:tz L x y z=(y6,0)) (Bj:bK V L R [(x,vx)]≠0)
  (Bm:∀k,k<cnt (ag V) (af (aU [(x:Int)] z)) ->sf V L R x vx z (aX (ag V) (af (aU [(x:Int)] z)) k)≠0 ->bK V L R (dD (af (aU [(x:Int)] z)) (aX (ag V) (af (aU [(x:Int)] z)) k))≠0):
  bG (fun k=>C2 V L R x y v z (sf V L R x vx z) (aX (ag V) (af (aU [(x:Int)] z)) k)) (cnt (ag V) (af (aU [(x:Int)] z)))=gC V L R [(x,vx)] [(y,v)]:=by
 have H:=A2 h.hz;have s:=A2 h.u;have A:fL (ag V) (C V) [(x,vx)]:=⟨aE,fun p c=>by rw[bA.1 c];exact h.hx,fun p c=>by rw[bA.1 c];exact w⟩;have Bh:∀u,(fun _:Nat=>0) u<sz (ag V) u:=fun u=>lp c u;rw[gM fun k m=>ahk h0 j c h w d (fun u=>sD c _ _ u m) (Bm k m)];have f:=NA (S:=ag V) (fun g=>bK V L R (dD (af z) g++[(x,vx)])*(1/bK V L R [(x,vx)])*gC V L R (dD (af z) g) [(x,g x),(y,v)]) (af (aU [(x:Int)] z)) (fun _=>0) s;simp only[Sg] at f;rw[f]
 have Bb:(af (aU [(x:Int)] z)).Perm (af z++[x]):=(EP s (nT.2 ⟨H,aE,fun a t b d e=>by
  rw[bA.1 d] at e;exact h.xz (e▸t)⟩)).2 fun u=>by rw[er.um,bE,bA,or_comm]
 rw[Fg _ Bb s,Ik,wI (G:=fun g=>gC V L R [(x,vx)] (dD (af z) g++[(y,v)])) (fun g l=>?_) _ _ Bh]
 ·have i:=NA (S:=ag V) (fun g=>gC V L R [(x,vx)] (dD (af z) g++[(y,v)])) (af z) (fun _=>0) H;simp only[Sg] at i;rw[<- i];exact afb h0 A H [(y,v)]
 ·have n:(fun a=>bK V L R (dD (af z) (aO g x a)++[(x,vx)])*(1/bK V L R [(x,vx)])*gC V L R (dD (af z) (aO g x a)) [(x,aO g x a x),(y,v)])=fun a=>bK V L R (dD (af z) g++[(x,vx)])*(1/bK V L R [(x,vx)])*gC V L R (dD (af z) g) ((x,a)::[(y,v)]):=by
   funext a
   rw[atC h,EZ]
  rw[n,xS];have o:bG (fun a=>gC V L R (dD (af z) g) ((x,a)::[(y,v)])) (sz (ag V) x)=gC V L R (dD (af z) g) [(y,v)]:=afe c x [(y,v)];rw[o];have K:=qQ g l (af z)
  have q:qV (ag V) (af z) (pos (ag V) g (af z))=dD (af z) g:=by
   rw[qV,dD];exact mM fun u F=>by rw[B4 c l H u F]
  obtain⟨b,_⟩:=ahl h0 j w d v K;rw[q] at b;generalize bK V L R [(x,vx)]=P at *;generalize bK V L R (dD (af z) g++[(x,vx)])=B2 at *;generalize gC V L R (dD (af z) g) [(y,v)]=B7 at *;generalize gC V L R [(x,vx)] (dD (af z) g++[(y,v)])=D at *;have r:B2*(1/P)*B7=B2*B7/P:=by rw[jH,jH];grind
  rw[r, <- b,jH,oM,Hf _ Bj,lN]
variable {V : List Vr} {L : List Kx} {R : List (List Fr)} {x y : Nat} {z : Kx}
theorem De (h0:aS V L R=0) (h:pX V R) (l:List (Nat×Nat)):qw (bK V L R l)<=8003:=by
 rw[NS];exact aff h0 (xY h0) h l (ah _)
theorem Wp (h0:aS V L R=0) (h:pX V R) (Q:Kx) (F:List (Nat×Nat)):Cw 8192 (bL V L R Q F).2:=fun k a=>by
 have c:k<cnt (ag V) (af Q):=by simpa [bL] using a
 have:=De h0 h (qV (ag V) (af Q) k++F);rw[bL,Jb _ c];show qw _+2<=8192;omega
theorem XC (h0:aS V L R=0) (p:Pos (ag V)) (D:pX V R) {F:List (Nat×Nat)} {Q:Kx} (h:Up Q (C V)) (b:∀v∈l,0<=v/\v.toNat∈af Q) (n:l.Nodup):L9 (ag V) (bL V L R Q F) l:=fun i g=>by
 obtain⟨a,f⟩:=XA (R:=R) (L:=L) (F:=F) h0 p (l.take i) h (fun v c=>b v (QW c)) (n.sublist (List.take_sublist _ _));obtain⟨q,k⟩:=b l[i] (bU g);have d:l[i]=((l[i].toNat:Nat):Int):=al
 refine⟨l[i].toNat,d,by rw[lq];exact uR h _ k,?_,?_,?_⟩
 ·rw[a];show l[i].toNat∈af (KQ Q (l.take i));rw[X7 _ h (fun v c=>(b v (QW c)).1), <- d];refine⟨k,fun o=>?_⟩;obtain⟨j,m,e⟩:=iE o;rw[xO] at e;rw[fh] at m;have:=(List.getElem_inj n).1 e;omega
 ·rw[a,lq];exact zz f
 ·rw[a];exact Wp h0 D _ _
theorem KC {Q z:Kx} (a:Up Q (C V)):(∀v∈fN Q z,0<=v/\v.toNat∈af Q)/\(fN Q z).Nodup:=by
 refine⟨fun v h=>?_,(CX a).filter _⟩;rw[fN,dC] at h;exact⟨((eH.1 a).1 v h.1).1,aN.2 ⟨v,h.1,rfl⟩⟩
theorem aop (S:Ja) (a t:Tb):Low (uX S a t).2:=fun f h=>by
 obtain⟨K,_,rfl⟩:=aN.1 h;rw[jC]
theorem SB {l:List Fr} (a:Low l) (h:k<C l):(aQ l k).2.1.size+(aQ l k).2.2.size=qw (dr (aQ l k)):=by
 have:=a (aQ l k) (by rw[mr h];exact bU h);rw[<- Ns];show _=(qF (a8 (aQ l k))).2.1.size+(qF (a8 (aQ l k))).2.2.size;rw[<- this]
variable {V : List Vr} {L : List Kx} {R : List (List Fr)} {x y : Nat} {z : Kx}
theorem amh {q:Rat} (h:q≠0):qw (p/q)<=qw p+qw q+1:=by
 have a:=RO p (1/q);have b:=RQ h;have e:p*(1/q)=p/q:=by rw[jH,jH,nR]
 rw[e] at a;omega
variable {V : List Vr} {L : List Kx} {R : List (List Fr)} {x y : Nat} {z : Kx}
variable {φ:Nat ->(Nat ->Nat) ->Rat}
theorem ahH (h0:aS V L R=0) {d:List (Nat×Nat)} (a:fL (ag V) (C V) d):∀us:Ja,dW (fO V d (di R)) us∣dW R us
 |[]=>Nat.dvd_refl _
 |v::us=>by
  rw[dW,dW];refine Nat.mul_dvd_mul ?_ (ahH h0 a us);rcases aar h0 a v with h |⟨x,_,h⟩
  ·rw[h,aau];exact Nat.dvd_refl _
  ·rw[h,(WD _ _).2];exact Nat.one_dvd _
theorem aat (h0:aS V L R=0):dW R (List.range (C V))≠0:=(PD.net (V:=V) (L:=L) h0 (fun _ h=>bS.1 h)).nz.1
theorem afa (h0:aS V L R=0) (l:List (Nat×Nat)):eL (dW R (List.range (C V))) (bK V L R l):=by
 rw[NS];exact eL.sum fun k h=>(Ux h0 (xY h0) l h).1
theorem ao8 (h0:aS V L R=0) {d:List (Nat×Nat)} (h:fL (ag V) (C V) d) (l:List (Nat×Nat)):eL (dW R (List.range (C V))) (gC V L R d l):=by
 have n:=Pv (R:=di R) (by rw[Sr];exact h0) h;rw[<- SE h0 h];exact(afa n l).more (aat n) (aat h0) (ahH h0 h _)
theorem X3 (h:eN S n L φ) (m:List (Nat×Nat)):∀l,cT S n φ (l++m)<=cT S n φ m
 |[]=>MF
 |p::l=>ME (afh h p.1 p.2 (l++m)) (X3 h m l)
theorem apb (h:eN S n L φ) (l:List (Nat×Nat)):cT S n φ l<=1:=by
 have:=X3 h [] l;rwa [kq,KP h] at this
theorem ale {q:Rat} (b:0<=p) (c:0<=q) (h:p<=q) (z:q≠0):jN 1 (p*(1/q)):=by
 have a:0<=1/q:=by rw[jH,nR];exact Rat.le_of_lt (Rat.inv_pos.2 (Rat.not_le.1 fun h=>z (Rat.le_antisymm h c)))
 refine⟨QR b a,?_⟩;have:=abu h a;rwa [show q*(1/q)=1 by rw[jH,nR,Hf _ z]] at this
theorem apz {q:Rat} (a:0<=q):eL q.num.natAbs (1/q):=by
 have h:=Rat.num_nonneg.2 a;refine⟨q.den,?_⟩;have e:((q.num.natAbs:Nat):Int)=q.num:=Int.natAbs_of_nonneg h;rw[jH,nR,Rat.inv_def, <- Rat.divInt_ofNat,e]
theorem arJ (h0:aS V L R=0) (h:er V x y z) (k:bK V L R [(x,vx)]≠0) {g:Nat ->Nat} (c:Fit (ag V) g):
  eL (dW R (List.range (C V))*(bK V L R [(x,vx)]).num.natAbs*dW R (List.range (C V))) (bK V L R (dD (af z) g++[(x,vx)])*(1/bK V L R [(x,vx)])*gC V L R (dD (af z) g) [(x,g x),(y,v)])/\jN 1 (bK V L R (dD (af z) g++[(x,vx)])*(1/bK V L R [(x,vx)])*gC V L R (dD (af z) g) [(x,g x),(y,v)]):=by
 have f:=Sq h0;have u:=ail h c;have n:∀l,0<=bK V L R l:=fun l=>by rw[Bq h0];exact X1 f l
 refine⟨((afa h0 _).mul (apz (n _))).mul (ao8 h0 u _),?_⟩;have a:jN 1 (bK V L R (dD (af z) g++[(x,vx)])*(1/bK V L R [(x,vx)])):=ale (n _) (n _) (by rw[Bq h0,Bq h0];exact X3 f _ _) k;have b:jN 1 (gC V L R (dD (af z) g) [(x,g x),(y,v)]):=⟨X1 (LG h0 u) _,apb (LG h0 u) _⟩;exact a.mul b
theorem arL (h0:aS V L R=0) (D:pX V R) (k:bK V L R [(x,vx)]≠0):dW R (List.range (C V))*(bK V L R [(x,vx)]).num.natAbs*dW R (List.range (C V))≠0/\(B (dW R (List.range (C V))*(bK V L R [(x,vx)]).num.natAbs*dW R (List.range (C V)))).size<=16003:=by
 have h:=aat h0;have a:(bK V L R [(x,vx)]).num.natAbs≠0:=fun e=>k (Rat.num_eq_zero.1 (Int.natAbs_eq_zero.1 e));have b:=De h0 D [(x,vx)];have c:(B (dW R (List.range (C V)))).size<=4000:=D;have d:=rH (dW R (List.range (C V))*(bK V L R [(x,vx)]).num.natAbs) (dW R (List.range (C V)));have f:=rH (dW R (List.range (C V))) (bK V L R [(x,vx)]).num.natAbs;rw[qw] at b;exact⟨CJ (CJ h a) h,al⟩
theorem arI (Bb:NM V L R) (h:er V x y z) (w:vx<sz (ag V) x) (hb:tz L x y z=(y6,0)) (S:bK V L R [(x,vx)]≠0):Ma (gN V L R x vx y z).2 (xg V L R x vx y z).2 (sz (ag V) y) fun v=>(eZ (ag V) y v (gI V L R x y z)).2:=by
 have a:=Bb.ok;have b:=Bb.pos;have j:=Bb.lite;have h8:C L<=8:=by have:=(gY a).len;have:=Bb.six;omega
 have r:=T8 (R:=R) (L:=L) a b h w;have m:=ahn (R:=R) (L:=L) a b h w;have l:(gN V L R x vx y z).2.length=cnt (ag V) (af (aU [(x:Int)] z)):=by rw[m.len,r]
 have s:∀f,Fit (ag V) f ->tQ (ag V) (tN (gN V L R x vx y z)) f=sf V L R x vx z f:=fun f Bh=>aho a b h w Bh;rw[ahp a b h w];have P:(bL V L R (aU [(x:Int)] z) []).2.length=cnt (ag V) (af (aU [(x:Int)] z)):=by simp[bL]
 have t:∀v,(eZ (ag V) y v (gI V L R x y z)).2.length=cnt (ag V) (af (aU [(x:Int)] z)):=fun v=>by
  have t:dG (ag V) (C V) (eZ (ag V) y v (gI V L R x y z)):=by rw[Ea a h];exact(zz h.q).fix y v
  have e3:(eZ (ag V) y v (gI V L R x y z)).1=aU [(x:Int)] z:=by rw[Ea a h];exact aiB h
  rw[t.len,e3]
 have Lf:=Wo (R:=R) (L:=L) a h.u [] (by have:=aaD Bb;omega);rw[P] at Lf;have ab:=lp b y
 have U:∀k,k<cnt (ag V) (af (aU [(x:Int)] z)) ->qw (dr (aQ (gN V L R x vx y z).2 k))<=24010:=fun k B9=>by
  obtain⟨Bm,_⟩:=Ke (L:=L) (R:=R) a b h m r s ab B9;rw[Bm,sf];have q1:=RO (bK V L R [(x,aX (ag V) (af (aU [(x:Int)] z)) k x)]) (bK V L R (dD (af z) (aX (ag V) (af (aU [(x:Int)] z)) k)++[(x,vx)])*(1/bK V L R [(x,vx)]));have q2:=RO (bK V L R (dD (af z) (aX (ag V) (af (aU [(x:Int)] z)) k)++[(x,vx)])) (1/bK V L R [(x,vx)]);have q3:=RQ S;have q4:=De a j [(x,vx)];have q5:=De a j [(x,aX (ag V) (af (aU [(x:Int)] z)) k x)];have q6:=De a j (dD (af z) (aX (ag V) (af (aU [(x:Int)] z)) k)++[(x,vx)]);omega
 have Y:∀k,k<cnt (ag V) (af (aU [(x:Int)] z)) ->qw (dr (aQ (bL V L R (aU [(x:Int)] z) []).2 k))<=8003:=fun k B9=>by
  obtain⟨_,F,_⟩:=Ke (L:=L) (R:=R) a b h m r s ab B9;rw[F];exact De a j _
 have X:∀k,k<(gN V L R x vx y z).2.length ->(aQ (gN V L R x vx y z).2 k).2.1.size+(aQ (gN V L R x vx y z).2 k).2.2.size<=40000:=fun k B9=>by
  have px:Low (gN V L R x vx y z).2:=aop _ _ _;rw[SB px B9];have:=U k (by rw[l] at B9;exact B9);omega
 refine⟨by rw[l];omega,by rw[l];omega,by rw[P,l],fun v _=>by rw[l];exact t v,X,fun k B9=>?_,fun v Q k B9=>?_,fun k B9 ad=>?_,fun Bh v Q=>?_⟩
 ·rw[l] at B9;rw[SB (aj2 _) (by rw[P];exact B9)];have:=Y k B9;omega
 ·rw[l] at B9;rw[SB (aag _ _ _ _) (by rw[t];exact B9)];obtain⟨_,_,c3,_⟩:=Ke (L:=L) (R:=R) a b h m r s Q B9;rw[c3];have:=De a j (dD (af (aU [(x:Int),(y:Int)] z)) (aO (aX (ag V) (af (aU [(x:Int)] z)) k) y v));omega
 ·rw[o8];split
  ·exact X k B9
  ·rw[l] at B9;rw[Ns];have h1:=amh (p:=dr (aQ (gN V L R x vx y z).2 k)) ad;have h2:=U k B9;have h3:=Y k B9;omega
 ·obtain⟨Ba,d2⟩:=arL (x:=x) a j S
  have A:∀k,k<cnt (ag V) (af (aU [(x:Int)] z)) ->∃q,mQ (gN V L R x vx y z).2 (bL V L R (aU [(x:Int)] z) []).2 (eZ (ag V) y v (gI V L R x y z)).2 k=qF q/\q=C2 V L R x y v z (sf V L R x vx z) (aX (ag V) (af (aU [(x:Int)] z)) k)/\eL (dW R (List.range (C V))*(bK V L R [(x,vx)]).num.natAbs*dW R (List.range (C V))) q/\jN 1 q:=fun k B9=>by
   have B7:Fit (ag V) (aX (ag V) (af (aU [(x:Int)] z)) k):=fun u=>sD b _ _ u B9;obtain⟨Bm,F,_,c4⟩:=Ke (L:=L) (R:=R) a b h m r s Q B9;have aa:=Bh k (by rw[l];exact B9);rw[Bm,F] at aa;have e:=ahk a h8 b h w hb B7 (v:=v) aa;obtain⟨i,d⟩:=arJ a h S (v:=v) B7;rw[<- e] at i d;exact⟨_,c4,rfl,i,d⟩
  refine⟨fun k B9=>?_,fun k B9=>?_⟩
  ·rw[l] at B9;obtain⟨q,H,_,i,d⟩:=A k B9;rw[H,Ns];have:=i.size Ba d;have:=VA (n:=1) al;omega
  ·rw[l] at B9⊢
   have e:((List.range (cnt (ag V) (af (aU [(x:Int)] z)))).map (mQ (gN V L R x vx y z).2 (bL V L R (aU [(x:Int)] z) []).2 (eZ (ag V) y v (gI V L R x y z)).2)).take k=(List.range k).map fun K=>qF (C2 V L R x y v z (sf V L R x vx z) (aX (ag V) (af (aU [(x:Int)] z)) K)):=by
    rw[<- QX,List.take_range,uO B9];refine mM fun K Bj=>?_;obtain⟨q,H,o,_⟩:=A K (by have:=bS.1 Bj;omega);rw[H,o]
   rw[e,Lu]
   have i:=eL.sum (k:=k) (g:=fun K=>C2 V L R x y v z (sf V L R x vx z) (aX (ag V) (af (aU [(x:Int)] z)) K)) (D:=dW R (List.range (C V))*(bK V L R [(x,vx)]).num.natAbs*dW R (List.range (C V))) fun K Bj=>by
    obtain⟨q,_,o,i,_⟩:=A K al;rw[<- o];exact i
   have d:=jN.sum (k:=k) (c:=1) (g:=fun K=>C2 V L R x y v z (sf V L R x vx z) (aX (ag V) (af (aU [(x:Int)] z)) K)) fun K Bj=>by
    obtain⟨q,_,o,_,d⟩:=A K al;rw[<- o];exact d
   have:=i.size Ba d;have:=VA (n:=k*1) al;omega
theorem arK (h0:aS V L R=0) (n:C L<=8) (p:Pos (ag V)) (h:er V x y z) (d:vx<sz (ag V) x) (i:v<sz (ag V) y) (o:tz L x y z=(y6,0)) (t:bK V L R [(x,vx)]≠0)
  (a:∀k,k<(gN V L R x vx y z).2.length ->dr (aQ (gN V L R x vx y z).2 k)≠0 ->dr (aQ (xg V L R x vx y z).2 k)≠0):
  sX (gN V L R x vx y z).2 (xg V L R x vx y z).2 (eZ (ag V) y v (gI V L R x y z)).2=gC V L R [(x,vx)] [(y,v)]:=by
 have w:=T8 (R:=R) (L:=L) h0 p h d;have c:=ahn (R:=R) (L:=L) h0 p h d;have g:(gN V L R x vx y z).2.length=cnt (ag V) (af (aU [(x:Int)] z)):=by rw[c.len,w]
 have l:∀f,Fit (ag V) f ->tQ (ag V) (tN (gN V L R x vx y z)) f=sf V L R x vx z f:=fun f a=>aho h0 p h d a;rw[ahp h0 p h d] at a⊢;rw[sX,g]
 have e:(List.range (cnt (ag V) (af (aU [(x:Int)] z)))).map (mQ (gN V L R x vx y z).2 (bL V L R (aU [(x:Int)] z) []).2 (eZ (ag V) y v (gI V L R x y z)).2)=(List.range (cnt (ag V) (af (aU [(x:Int)] z)))).map fun k=>qF (C2 V L R x y v z (sf V L R x vx z) (aX (ag V) (af (aU [(x:Int)] z)) k)):=
  mM fun k b=>(Ke (L:=L) (R:=R) h0 p h c w l i (bS.1 b)).2.2.2
 rw[e,Lu,arH h0 n p h d o t fun k b=>?_];obtain⟨j,m,_⟩:=Ke (L:=L) (R:=R) h0 p h c w l i b;have:=a k (by rw[g];exact b);rwa [j,m] at this
variable {gb:Nat} {f0 f1:wF}
structure FdS (V:List Vr) (L:List Kx) (R:List (List Fr)) (x vx y:Nat) (z:Kx):Prop where
 fi:fK (iL (ag V))
 vp:0<C V
 hx:x<C V
 hy:y<C V
 xv:vx<sz (ag V) x
 y1:1<=sz (ag V) y
 y2:sz (ag V) y<=1000
 q:C (aU [(x:Int),(y:Int)] z)<=1000
 z1:C z<=500
 t1:(gI V L R x y z).1.length<=1000
 tok:dG (ag V) (C (ag V)) (gI V L R x y z)
 tw:Cw 100000 (gI V L R x y z).2
 f1:(Am V L R x vx y z).1.length<=1000
 on0:L9 (ag V) (Am V L R x vx y z) (fN (Am V L R x vx y z).1 z)
 bok:dG (ag V) (C (ag V)) (kI V L R x vx y z)
 b1:(kI V L R x vx y z).1.length<=1000
 bc:∀k (h:k<(kI V L R x vx y z).2.length),(kI V L R x vx y z).2[k].2.1.size+(kI V L R x vx y z).2[k].2.2.size<=40000
 bp:∀k,k<=(kI V L R x vx y z).2.length ->qw (bH ((kI V L R x vx y z).2.take k))<=40000
 bl:(kI V L R x vx y z).2.length<=10000
 on1:L9 (ag V) (gI V L R x y z) (fN (gI V L R x y z).1 [(x:Int)])
 ook:dG (ag V) (C (ag V)) (Gc V L R x y z)
 ow:Cw 100000 (Gc V L R x y z).2
 nok:dG (ag V) (C (ag V)) (yI V L R x vx y z)
 nw:Cw 100000 (yI V L R x vx y z).2
 w1:(gN V L R x vx y z).1.length<=1000
 on2:L9 (ag V) (gI V L R x y z) (fN (gI V L R x y z).1 (gN V L R x vx y z).1)
 mx:bH (kI V L R x vx y z).2≠0 ->Ma (gN V L R x vx y z).2 (xg V L R x vx y z).2 (sz (ag V) y) fun v=>(eZ (ag V) y v (gI V L R x y z)).2
theorem anS (a:Kd) (ca:Nat) (S:Ja) (x y:wF) (t:Tb) (w:E) (R:fK (iL S)) (hs:aB w a (iL S)) (h:bJ w x y t) (o:dG S (C S) t) (m:∀k (h:k<t.2.length),t.2[k].2.1.size+t.2[k].2.2.size<=40000) (r:∀k,k<=t.2.length ->qw (bH (t.2.take k))<=40000) (n:t.2.length<=10000):
  c6 63 #[Z a (C S) ca,zd #[x,y]] w fun e w'=>(∃p q k,e=yW (zp #[zd #[p,q],J I k])/\bV p/\bV q/\(k=0∨k=3)/\(k=0 ->bH t.2≠0/\bJ w' p q (t.1,lu t.2)))/\da w w':=by
 obtain⟨b,c,cb,cc,rfl,rfl,j,l,_⟩:=h;have u:=R.eight;rw[bR] at u;have Bm:=o.small R;by_cases z:bH t.2=0
 ·have:=akp a b c ca cb cc (iL S) t.1 t.2 w hs j l (by rw[bR];omega) al (o.check R) m r n z;rw[bR] at this;exact this.ae fun e w' ⟨⟨g,i,Bb,s,f,_⟩,d⟩=>⟨⟨_,_,3,f,slv _ _ _,slv _ _ _,yk rfl,fun e=>by cases e⟩,d⟩
 ·have:=ach a b c ca cb cc (iL S) t.1 t.2 w hs j l (by rw[bR];omega) al (o.check R) m r n z;rw[bR] at this;exact this.ae fun e w' ⟨⟨g,i,Bb,s,f,v,A,D⟩,d⟩=>⟨⟨_,_,0,f,slv _ _ _,slv _ _ _,yd rfl,fun _=>⟨z,g,i,Bb,s,rfl,rfl,v,A,D⟩⟩,d⟩
structure y7 (w U:E) (gb G n:Nat) (p q f0 f1:wF) (Ba:Tb) (S:Ja):Prop where
 bx:ig U gb (Z (M ⟨G,0,N⟩) n n) p q
 f:U.cell? ⟨O (T w)+1,0,N⟩=M f0/\U.cell? ⟨O (T w)+1,1,N⟩=M f1
 lt:O (T w)+1<O (T U)
 t:bJ U p q Ba
 i:cP U G S
 b:da w U
theorem y7.step {G:Nat} {p q:wF} {Ba:Tb} (h:y7 w U gb G n p q f0 f1 Ba S) (a:da U U'):y7 w U' gb G n p q f0 f1 Ba S:=⟨h.bx.aa a h.bx.lt,aaX h.f a h.lt,aT h.lt a.size,h.t.aa a,h.i.below' a,h.b.trans (a.ae h.b.size)⟩
theorem y7.drew {G:Nat} {p q:wF} {Ba:Tb} (h:y7 w U gb G n p q f0 f1 Ba S):y7 w U.drew gb G n p q f0 f1 Ba S:=h.step (au _ _).drew
theorem y7.held {G:Nat} {p q:wF} {Ba:Tb} (h:y7 w U gb G n p q f0 f1 Ba S):(U.cell? ⟨gb,0,N⟩=M (Z (M ⟨G,0,N⟩) n n)/\U.cell? ⟨gb,1,N⟩=M p/\U.cell? ⟨gb,2,N⟩=M q)/\U.cell? ⟨O (T w)+1,0,N⟩=M f0/\U.cell? ⟨O (T w)+1,1,N⟩=M f1:=⟨h.bx.cells,h.f.1,h.f.2⟩
theorem y7.put {G gt:Nat} {p q l m:wF} {d Ba:Tb} {S:Ja} {A:Prop} {k:Int} (h:y7 w U gb G n p q f0 f1 d S) (X:aZ U gt (Z N 0 0) (Z N 0 0)) (o:k=0 ->A/\bJ U l m Ba) (g:gb≠gt/\G≠gt/\w.heap.size+1<gt) (u v:wF):
  y7 w ((U.setCell ⟨gt,0,N⟩ u).setCell ⟨gt,1,N⟩ v) gb G n p q f0 f1 d S/\aZ ((U.setCell ⟨gt,0,N⟩ u).setCell ⟨gt,1,N⟩ v) gt u v/\(k=0 ->A/\bJ ((U.setCell ⟨gt,0,N⟩ u).setCell ⟨gt,1,N⟩ v) l m Ba):=by
 have a:=((eK.refl [gt] U).put (b:=gt) (yd aE) 0 u).put (b:=gt) (yd aE) 1 v
 have c:∀(j i:Nat) (W:E) (y:wF),(W.setCell ⟨gt,j,N⟩ y).cell? ⟨O (T w)+1,i,N⟩=W.cell? ⟨O (T w)+1,i,N⟩:=fun j i W y=>fT _ _ _ _ fun e=>by
  have:=eG Addr.block e;simp at this;have:=g.2.2;omega
 refine⟨⟨(a.block _ h.bx.lt (by simp;exact g.1)).trans h.bx,⟨((c _ _ _ _).trans (c _ _ _ _)).trans h.f.1,((c _ _ _ _).trans (c _ _ _ _)).trans h.f.2⟩,aT h.lt (aM (jJ _ _ _).size (jJ _ _ _).size),X.put_tb (slv _ _ _) (slv _ _ _) h.t _ _,(a.block _ (cS.1 h.i).1 (by simp;exact g.2.1)).trans h.i,a.low h.b fun k r=>by rw[bA.1 r];have:=g.2.2;omega⟩,X.put _ _,fun e=>(o e).imp id fun h=>X.put_tb (slv _ _ _) (slv _ _ _) h _ _⟩
theorem atk (a b c bz:Kd) (ca cb cc cz:Nat) (V:List Vr) (L:List Kx) (R:List (List Fr)) (x vx y:Nat) (z:Kx) (w:E) (h:AA w a b c V L R) (hl:∀l∈L,C l<=1000) (hz:aB w bz z) (av:bz=N ->cz=0) (hf:mo V L R [((x:Int),(vx:Int))]=0) (an:kA L [[(x:Int)],[(y:Int)],z]=0) (eJ:([(x:Int),(y:Int)]++z).Nodup) (mg:wE V L R (aU [(x:Int),(y:Int)] z) []=0) (m:FdS V L R x vx y z):
  c6 18 #[zd #[Z a (C V) ca,Z b (C L) cb,Z c (C R) cc],(zd #[J I (x:Nat),J I (vx:Nat)]),J I (y:Nat),Z bz (C z) cz] w fun e w'=>(∃(d:Kd) (n c:Nat) (k:Int),e=yW (zp #[Z d n c,J I k])/\(k=0∨k=3)/\(k=0 ->bH (kI V L R x vx y z).2≠0/\(∀k,k<(gN V L R x vx y z).2.length ->dr (aQ (gN V L R x vx y z).2 k)≠0 ->dr (aQ (xg V L R x vx y z).2 k)≠0)/\n=sz (ag V) y/\dH w' d ((List.range (sz (ag V) y)).map fun v=>qF (sX (gN V L R x vx y z).2 (xg V L R x vx y z).2 (eZ (ag V) y v (gI V L R x y z)).2))))/\da w w':=by
 have ng:=lq V;have uH:=Fa (fun (U:E) (hU:da w U)=>alq a b c bz ca cb cc cz V L R x vx y z U (h.aa hU) hl (hz.aa hU) av m.z1 hf an eJ mg m.q m.vp)
 have tP:wT (∀ {G:Nat} {p q:wF} (U:E),bJ U p q (gI V L R x y z) ->cP U G (ag V) ->c6 64 #[zd #[Z (M ⟨G,0,N⟩) (C V) (C V),p,q],(zd #[J I (x:Nat),J I (vx:Nat)])] U fun e w'=>∃p q,e=yW (zd #[Z (M ⟨G,0,N⟩) (C V) (C V),p,q])/\bJ w' p q (Am V L R x vx y z)/\da U w'):=fun {G p q} U B7 hi=>by
  have:=ac3 (M ⟨G,0,N⟩) (C V) (ag V) p q (gI V L R x y z) x vx U m.fi hi.ints' B7 m.tok m.tw (by rw[ng];exact m.hx) m.xv;rw[ng] at this;exact this
 have Ey:wT (∀ {G:Nat} (p q:wF) (U:E),da w U ->bJ U p q (Am V L R x vx y z) ->cP U G (ag V) ->c6 53 #[zd #[Z (M ⟨G,0,N⟩) (C V) (C V),p,q],Z bz (C z) cz] U fun e w'=>∃p q,e=yW (zd #[p,q])/\bJ w' p q (kI V L R x vx y z)/\da U w'):=fun {G} p q U hU B7 hi=>by
  have:=WS (M ⟨G,0,N⟩) bz (C V) cz (ag V) p q (Am V L R x vx y z) z U m.fi hi.ints' B7 (hz.aa hU) m.f1 (by have:=m.z1;omega) m.on0;rw[ng] at this;exact this
 have iR:wT (∀ {G:Nat} (p q:wF) (U:E),bJ U p q (kI V L R x vx y z) ->cP U G (ag V) ->c6 63 #[Z (M ⟨G,0,N⟩) (C V) (C V),zd #[p,q]] U fun e w'=>(∃p q k,e=yW (zp #[zd #[p,q],J I k])/\bV p/\bV q/\(k=0∨k=3)/\(k=0 ->bH (kI V L R x vx y z).2≠0/\bJ w' p q (yI V L R x vx y z)))/\da U w'):=fun {G} p q U B7 hi=>by
  have:=anS (M ⟨G,0,N⟩) (C V) (ag V) p q (kI V L R x vx y z) U m.fi hi.ints' B7 m.bok m.bc m.bp m.bl;rw[ng] at this;exact this
 have pR:wT (∀ {G:Nat} {p q:wF} (gi:Nat) (U:E),bJ U p q (gI V L R x y z) ->cP U G (ag V) ->aB U (M ⟨gi,0,N⟩) [(x:Int)] ->c6 53 #[zd #[Z (M ⟨G,0,N⟩) (C V) (C V),p,q],Z (M ⟨gi,0,N⟩) 1 1] U fun e w'=>∃p q,e=yW (zd #[p,q])/\bJ w' p q (Gc V L R x y z)/\da U w'):=fun {G p q} gi U B7 hi hv=>by
  have:=WS (M ⟨G,0,N⟩) (M ⟨gi,0,N⟩) (C V) 1 (ag V) p q (gI V L R x y z) [(x:Int)] U m.fi hi.ints' B7 hv m.t1 aE m.on1;rw[ng] at this;exact this
 have Et:wT (∀ {G:Nat} {p q:wF} (u0 u1 o0 o1:wF) (U:E),bJ U p q (gI V L R x y z) ->cP U G (ag V) ->bJ U u0 u1 (Gc V L R x y z) ->bJ U o0 o1 (yI V L R x vx y z) ->c6 51 #[zd #[Z (M ⟨G,0,N⟩) (C V) (C V),p,q],zd #[u0,u1],zd #[o0,o1]] U fun e w'=>∃p q,e=yW (zd #[p,q])/\bJ w' p q (gN V L R x vx y z)/\da U w'):=fun {G p q} u0 u1 o0 o1 U B7 hi hu ho=>by
  have:=alw (M ⟨G,0,N⟩) (C V) (ag V) p q u0 u1 o0 o1 _ _ U B7.slices.1 B7.slices.2 m.fi hi.ints' hu ho m.ook m.nok m.ow m.nw;rw[ng] at this;exact this
 have ax:wT (∀ {G:Nat} {p q:wF} (p0 p1:wF) (U:E),bH (kI V L R x vx y z).2≠0 ->bJ U p q (gI V L R x y z) ->cP U G (ag V) ->bJ U p0 p1 (gN V L R x vx y z) ->c6 50 #[zd #[Z (M ⟨G,0,N⟩) (C V) (C V),p,q],J I (y:Nat),zd #[p0,p1]] U fun e w'=>(∃(d:Kd) (n c:Nat) (k:Int),e=yW (zp #[Z d n c,J I k])/\(k=0∨k=3)/\(k=0 ->(∀k,k<(gN V L R x vx y z).2.length ->dr (aQ (gN V L R x vx y z).2 k)≠0 ->dr (aQ (xg V L R x vx y z).2 k)≠0)/\n=sz (ag V) y/\dH w' d ((List.range (sz (ag V) y)).map fun v=>qF (sX (gN V L R x vx y z).2 (xg V L R x vx y z).2 (eZ (ag V) y v (gI V L R x y z)).2))))/\da U w'):=fun {G p q} p0 p1 U ay B7 hi hw=>by
  have:=alx (M ⟨G,0,N⟩) (C V) (ag V) p q p0 p1 _ _ y U m.fi hi.ints' B7 hw m.tok m.tw m.t1 m.w1 m.on2 (by rw[ng];exact m.hy) m.y1 m.y2 (m.mx ay);rw[ng] at this;exact this
 have Mg:wT (da w ((w.alloc (yM #[Z a (C V) ca,Z b (C L) cb,Z c (C R) cc] 26)).alloc (yM #[J I (x:Nat),J I (vx:Nat)] 30))):=((au _ w).alloc (ah _) _).alloc aE _;have Tj:=dU (w.alloc (yM #[Z a (C V) ca,Z b (C L) cb,Z c (C R) cc] 26)) (yM #[J I (x:Nat),J I (vx:Nat)] 30);have aq:O (T (w.alloc (yM #[Z a (C V) ca,Z b (C L) cb,Z c (C R) cc] 26)))=O (T w)+1:=aE
 rw[aq] at Tj;have GY:wT ((((w.alloc (yM #[Z a (C V) ca,Z b (C L) cb,Z c (C R) cc] 26)).alloc (yM #[J I (x:Nat),J I (vx:Nat)] 30)).cell? ⟨O (T w)+1,0,N⟩=M (J I (x:Nat))/\((w.alloc (yM #[Z a (C V) ca,Z b (C L) cb,Z c (C R) cc] 26)).alloc (yM #[J I (x:Nat),J I (vx:Nat)] 30)).cell? ⟨O (T w)+1,1,N⟩=M (J I (vx:Nat)))/\w.heap.size+1<O (T ((w.alloc (yM #[Z a (C V) ca,Z b (C L) cb,Z c (C R) cc] 26)).alloc (yM #[J I (x:Nat),J I (vx:Nat)] 30)))):=⟨⟨(ba _ _ 0 _ _ (0,0) Tj).trans rfl,(ba _ _ 1 _ _ (0,0) Tj).trans rfl⟩,aE⟩;clear h hl hz av hf an eJ mg m ng Tj aq;change wT (∀(U:E),da w U ->c6 49 #[zd #[Z a (C V) ca,Z b (C L) cb,Z c (C R) cc],(zd #[J I (x:Nat),J I (vx:Nat)]),J I (y:Nat),Z bz (C z) cz] U fun e w'=>∃G p q,e=yW (zp #[zd #[Z (M ⟨G,0,N⟩) (C V) (C V),p,q],J I 0])/\cP w' G (ag V)/\bJ w' p q (gI V L R x y z)/\da U w') at uH
 generalize gI V L R x y z=TT at *;generalize Am V L R x vx y z=TX at *;generalize kI V L R x vx y z=TB at *;generalize yI V L R x vx y z=TN at *;generalize Gc V L R x y z=TO at *;generalize gN V L R x vx y z=TW at *;generalize xg V L R x vx y z=TK at *;generalize ag V=SS at *;go_enter func18,ntmps18;go_wp2_with fail
 refine(uH.o _ Mg.o).ae ?_;rintro e w1 ⟨G,p,q,rfl,hi,B7,f⟩;obtain⟨⟨pb,pn,pc,rfl⟩,⟨qb,qn,qc,rfl⟩⟩:=B7.slices;have aI:da w1 (w1.alloc (yM #[Z (M ⟨G,0,N⟩) (C V) (C V),Z pb pn pc,Z qb qn qc] 86)):=(au _ w1).alloc (ah _) _;have bB:=ig.at (w:=w1) rfl (Z (M ⟨G,0,N⟩) (C V) (C V)) (Z pb pn pc) (Z qb qn qc);have aj:=Mg.o.trans (f.ae Mg.o.size);have fY:y7 w (w1.alloc (yM #[Z (M ⟨G,0,N⟩) (C V) (C V),Z pb pn pc,Z qb qn qc] 86)) (O (T w1)) G (C V) (Z pb pn pc) (Z qb qn qc) (J I (x:Nat)) (J I (vx:Nat)) TT SS:=⟨bB,aaX (aaX GY.o.1 f GY.o.2) aI (aT GY.o.2 f.size),aT (aT GY.o.2 f.size) aI.size,B7.aa aI,hi.below' aI,aj.trans (aI.ae aj.size)⟩;obtain⟨gb,al⟩:∃g,O (T w1)=g:=⟨_,rfl⟩;obtain⟨w2,SL⟩:∃U,w1.alloc (yM #[Z (M ⟨G,0,N⟩) (C V) (C V),Z pb pn pc,Z qb qn qc] 86)=U:=⟨_,rfl⟩;rw[SL,al] at fY;have A:=Fa fY;clear f aI bB aj fY hi B7 uH Mg GY;go_wp2_with fail
 clear al SL;replace A:=Fa A.o.drew;refine iK (S:=fun u=>(u.cell? ⟨gb,0,N⟩=M (Z (M ⟨G,0,N⟩) (C V) (C V))/\u.cell? ⟨gb,1,N⟩=M (Z pb pn pc)/\u.cell? ⟨gb,2,N⟩=M (Z qb qn qc))/\u.cell? ⟨O (T w)+1,0,N⟩=M (J I (x:Nat))/\u.cell? ⟨O (T w)+1,1,N⟩=M (J I (vx:Nat))) ao A.o.held (fun tu=>?_);generalize w2.drew=z0 at *;refine ar 0 (zR (M ⟨gb,0,N⟩)) ?_;try simp only[gE,aP]
 refine cU 1 (Z (M ⟨G,0,N⟩) (C V) (C V)) ?_ ?_
 ·intro u' aJ;try simp only[gE];obtain⟨⟨s1,s2,s3⟩,s4,s5⟩:=aJ;go_simp
 try simp only[gE,aP]
 refine cU 2 ((zd #[Z (M ⟨G,0,N⟩) (C V) (C V),Z pb pn pc,Z qb qn qc])) ?_ ?_
 ·intro u' aJ;try simp only[gE];obtain⟨⟨s1,s2,s3⟩,s4,s5⟩:=aJ;go_simp
 try simp only[gE,aP]
 refine cU 3 ((zd #[J I (x:Nat),J I (vx:Nat)])) ?_ ?_
 ·intro u' aJ;try simp only[gE];obtain⟨⟨s1,s2,s3⟩,s4,s5⟩:=aJ;go_simp
 refine ar 5 (Z bz (C z) cz) ?_;refine aF [4,11] (cA ?_ (cA ?_ aG))
 focus
  intro j K;go_simp;refine(tP.o z0 A.o.t A.o.i).ae ?_;rintro e z1 ⟨x0,x1,rfl,hx,f⟩;replace A:=Fa (A.o.step f);have D:=Fa hx;clear hx;refine K.o _ _ A.o.held (fun ab=>?_);clear K j tu f;refine aF [6,11] (cA ?_ (cA ?_ aG))
  focus
   intro j K;go_simp;refine(Ey.o x0 x1 z1 A.o.b D.o A.o.i).ae ?_;rintro e z2 ⟨b0,b1,rfl,hx,f⟩;replace A:=Fa (A.o.step f);replace D:=Fa hx;clear hx;refine K.o _ _ A.o.held (fun kF=>?_);clear K j ab f;refine aF [7,11] (cA ?_ (cA ?_ aG))
   focus
    intro j K;go_simp;refine(iR.o b0 b1 z2 D.o A.o.i).ae ?_;rintro e Y ⟨⟨n0,n1,k,rfl,⟨nb,Bb,Bh,rfl⟩,⟨Bm,Bj,F,rfl⟩,hk,Ba⟩,f⟩;replace A:=Fa (A.o.step f);have r:=Fa Ba;have HK:=Fa hk;clear Ba hk D;refine K.o _ _ A.o.held (fun nk=>?_);clear K j kF f;refine ar 8 ((zp #[zd #[Z nb Bb Bh,Z Bm Bj F],J I k])) ?_;refine ar 9 ((zd #[Z nb Bb Bh,Z Bm Bj F])) ?_;refine ar 10 (J I k) ?_;refine aF [11] (cA ?_ aG);intro j K;go_simp;have f:da Y (Y.alloc (yM #[Z N 0 0,Z N 0 0] 38)):=(au _ Y).alloc (ah _) _;have s:aZ (Y.alloc (yM #[Z N 0 0,Z N 0 0] 38)) (O (T Y)) (Z N 0 0) (Z N 0 0):=dU Y _;have dY:gb≠Y.heap.size/\G≠Y.heap.size/\w.heap.size+1<O (T Y):=⟨Hh A.o.bx.lt,Hh (cS.1 A.o.i).1,A.o.lt⟩;replace A:=Fa (A.o.step f);replace r:=Fa (fun e=>(r.o e).imp id fun h=>h.aa f);obtain⟨gt,P⟩:∃g,O (T Y)=g:=⟨_,rfl⟩;obtain⟨z4,B9⟩:∃XX,Y.alloc (yM #[Z N 0 0,Z N 0 0] 38)=XX:=⟨_,rfl⟩;rw[B9] at A s r;rw[P] at s dY;have H:=Fa s;have HG:=Fa dY;simp only[B9,P];refine K.o _ _ A.o.held (fun q9=>?_);clear K j nk f s P B9 dY;(try simp only[gE,aP]);obtain⟨t0,t1,H3,Hz⟩:=H.o.facts;refine aF [12] (cA ?_ aG);intro j K;go_simp;have Q:=A.o.put H.o r.o HG.o (Z nb Bb Bh) (Z Bm Bj F);replace A:=Fa Q.1;replace H:=Fa Q.2.1;replace r:=Fa Q.2.2
    refine K.o _ _ A.o.held (fun yB=>?_);clear K j q9 Q t0 t1 H3 Hz;refine ar 13 (J I k) ?_;(try simp only[gE,aP]);refine eO ao ?_ _;clear yB;obtain⟨y9,ui⟩:∃X,((z4.setCell ⟨gt,0,N⟩ (Z nb Bb Bh)).setCell ⟨gt,1,N⟩ (Z Bm Bj F))=X:=⟨_,rfl⟩;rw[ui] at A H r;simp only[ui];clear ui;rcases HK.o with rfl |rfl
    focus
     obtain⟨ad,Ba⟩:=r.o rfl
    rotate_left
    ·go_wp2_with fail
     go_ret2;exact⟨⟨N,0,0,3,rfl,yk rfl,fun e=>by cases e⟩,A.o.b⟩
   rotate_left
   focus
    intro j K;go_simp;have f:da z2 (z2.alloc (yM #[Z N 0 0,Z N 0 0] 38)):=(au _ z2).alloc (ah _) _;have s:aZ (z2.alloc (yM #[Z N 0 0,Z N 0 0] 38)) (O (T z2)) (Z N 0 0) (Z N 0 0):=dU z2 _;have dY:gb≠z2.heap.size/\G≠z2.heap.size/\w.heap.size+1<O (T z2):=⟨Hh A.o.bx.lt,Hh (cS.1 A.o.i).1,A.o.lt⟩;replace A:=Fa (A.o.step f);replace D:=Fa (D.o.aa f);obtain⟨gt,P⟩:∃g,O (T z2)=g:=⟨_,rfl⟩;obtain⟨Y,B9⟩:∃XX,z2.alloc (yM #[Z N 0 0,Z N 0 0] 38)=XX:=⟨_,rfl⟩;rw[B9] at A s D;rw[P] at s dY;have H:=Fa s;have HG:=Fa dY;simp only[B9,P];refine K.o _ _ A.o.held (fun nk=>?_);clear K j kF f s P B9 dY;refine aF [7] (cA ?_ aG);intro j K;go_simp;refine(iR.o b0 b1 Y D.o A.o.i).ae ?_;rintro e z4 ⟨⟨n0,n1,k,rfl,⟨nb,Bb,Bh,rfl⟩,⟨Bm,Bj,F,rfl⟩,hk,Ba⟩,f⟩;replace A:=Fa (A.o.step f);replace H:=Fa (H.o.aa f H.o.lt);have r:=Fa Ba;have HK:=Fa hk;clear Ba hk D;refine K.o _ _ A.o.held (fun q9=>?_);clear K j nk f;refine ar 8 ((zp #[zd #[Z nb Bb Bh,Z Bm Bj F],J I k])) ?_;refine ar 9 ((zd #[Z nb Bb Bh,Z Bm Bj F])) ?_;refine ar 10 (J I k) ?_;(try simp only[gE,aP]);obtain⟨t0,t1,H3,Hz⟩:=H.o.facts;refine aF [12] (cA ?_ aG);intro j K;go_simp;have Q:=A.o.put H.o r.o HG.o (Z nb Bb Bh) (Z Bm Bj F);replace A:=Fa Q.1;replace H:=Fa Q.2.1;replace r:=Fa Q.2.2
    refine K.o _ _ A.o.held (fun yB=>?_);clear K j q9 Q t0 t1 H3 Hz;refine ar 13 (J I k) ?_;(try simp only[gE,aP]);refine eO ao ?_ _;clear yB;obtain⟨y9,ui⟩:∃X,((z4.setCell ⟨gt,0,N⟩ (Z nb Bb Bh)).setCell ⟨gt,1,N⟩ (Z Bm Bj F))=X:=⟨_,rfl⟩;rw[ui] at A H r;simp only[ui];clear ui;rcases HK.o with rfl |rfl
    focus
     obtain⟨ad,Ba⟩:=r.o rfl
    rotate_left
    ·go_wp2_with fail
     go_ret2;exact⟨⟨N,0,0,3,rfl,yk rfl,fun e=>by cases e⟩,A.o.b⟩
  rotate_left 2
  focus
   intro j K;go_simp;have f:da z1 (z1.alloc (yM #[Z N 0 0,Z N 0 0] 38)):=(au _ z1).alloc (ah _) _;have s:aZ (z1.alloc (yM #[Z N 0 0,Z N 0 0] 38)) (O (T z1)) (Z N 0 0) (Z N 0 0):=dU z1 _;have dY:gb≠z1.heap.size/\G≠z1.heap.size/\w.heap.size+1<O (T z1):=⟨Hh A.o.bx.lt,Hh (cS.1 A.o.i).1,A.o.lt⟩;replace A:=Fa (A.o.step f);replace D:=Fa (D.o.aa f);obtain⟨gt,P⟩:∃g,O (T z1)=g:=⟨_,rfl⟩;obtain⟨z2,B9⟩:∃XX,z1.alloc (yM #[Z N 0 0,Z N 0 0] 38)=XX:=⟨_,rfl⟩;rw[B9] at A s D;rw[P] at s dY;have H:=Fa s;have HG:=Fa dY;simp only[B9,P];refine K.o _ _ A.o.held (fun kF=>?_);clear K j ab f s P B9 dY;refine aF [6] (cA ?_ aG);intro j K;go_simp;refine(Ey.o x0 x1 z2 A.o.b D.o A.o.i).ae ?_;rintro e Y ⟨b0,b1,rfl,hx,f⟩;replace A:=Fa (A.o.step f);replace H:=Fa (H.o.aa f H.o.lt);replace D:=Fa hx;clear hx;refine K.o _ _ A.o.held (fun nk=>?_);clear K j kF f;refine aF [7] (cA ?_ aG);intro j K;go_simp;refine(iR.o b0 b1 Y D.o A.o.i).ae ?_;rintro e z4 ⟨⟨n0,n1,k,rfl,⟨nb,Bb,Bh,rfl⟩,⟨Bm,Bj,F,rfl⟩,hk,Ba⟩,f⟩;replace A:=Fa (A.o.step f);replace H:=Fa (H.o.aa f H.o.lt);have r:=Fa Ba;have HK:=Fa hk;clear Ba hk D;refine K.o _ _ A.o.held (fun q9=>?_);clear K j nk f;refine ar 8 ((zp #[zd #[Z nb Bb Bh,Z Bm Bj F],J I k])) ?_;refine ar 9 ((zd #[Z nb Bb Bh,Z Bm Bj F])) ?_
   refine ar 10 (J I k) ?_;(try simp only[gE,aP]);obtain⟨t0,t1,H3,Hz⟩:=H.o.facts;refine aF [12] (cA ?_ aG);intro j K;go_simp;have Q:=A.o.put H.o r.o HG.o (Z nb Bb Bh) (Z Bm Bj F);replace A:=Fa Q.1;replace H:=Fa Q.2.1;replace r:=Fa Q.2.2;refine K.o _ _ A.o.held (fun yB=>?_);clear K j q9 Q t0 t1 H3 Hz;refine ar 13 (J I k) ?_;(try simp only[gE,aP]);refine eO ao ?_ _;clear yB;obtain⟨y9,ui⟩:∃X,((z4.setCell ⟨gt,0,N⟩ (Z nb Bb Bh)).setCell ⟨gt,1,N⟩ (Z Bm Bj F))=X:=⟨_,rfl⟩;rw[ui] at A H r;simp only[ui];clear ui;rcases HK.o with rfl |rfl
   focus
    obtain⟨ad,Ba⟩:=r.o rfl
   rotate_left
   ·go_wp2_with fail
    go_ret2;exact⟨⟨N,0,0,3,rfl,yk rfl,fun e=>by cases e⟩,A.o.b⟩
 rotate_left 3
 focus
  intro j K;go_simp;have f:da z0 (z0.alloc (yM #[Z N 0 0,Z N 0 0] 38)):=(au _ z0).alloc (ah _) _;have s:aZ (z0.alloc (yM #[Z N 0 0,Z N 0 0] 38)) (O (T z0)) (Z N 0 0) (Z N 0 0):=dU z0 _;have dY:gb≠z0.heap.size/\G≠z0.heap.size/\w.heap.size+1<O (T z0):=⟨Hh A.o.bx.lt,Hh (cS.1 A.o.i).1,A.o.lt⟩;replace A:=Fa (A.o.step f);obtain⟨gt,P⟩:∃g,O (T z0)=g:=⟨_,rfl⟩;obtain⟨z1,B9⟩:∃XX,z0.alloc (yM #[Z N 0 0,Z N 0 0] 38)=XX:=⟨_,rfl⟩;rw[B9] at A s;rw[P] at s dY;have H:=Fa s;have HG:=Fa dY;simp only[B9,P];refine K.o _ _ A.o.held (fun ab=>?_);clear K j tu f s P B9 dY;refine aF [4] (cA ?_ aG);intro j K;go_simp;refine(tP.o z1 A.o.t A.o.i).ae ?_;rintro e z2 ⟨x0,x1,rfl,hx,f⟩;replace A:=Fa (A.o.step f);replace H:=Fa (H.o.aa f H.o.lt);have D:=Fa hx;clear hx;refine K.o _ _ A.o.held (fun kF=>?_);clear K j ab f;refine aF [6] (cA ?_ aG);intro j K;go_simp;refine(Ey.o x0 x1 z2 A.o.b D.o A.o.i).ae ?_;rintro e Y ⟨b0,b1,rfl,hx,f⟩;replace A:=Fa (A.o.step f);replace H:=Fa (H.o.aa f H.o.lt);replace D:=Fa hx;clear hx;refine K.o _ _ A.o.held (fun nk=>?_);clear K j kF f;refine aF [7] (cA ?_ aG);intro j K;go_simp;refine(iR.o b0 b1 Y D.o A.o.i).ae ?_;rintro e z4 ⟨⟨n0,n1,k,rfl,⟨nb,Bb,Bh,rfl⟩,⟨Bm,Bj,F,rfl⟩,hk,Ba⟩,f⟩;replace A:=Fa (A.o.step f);replace H:=Fa (H.o.aa f H.o.lt);have r:=Fa Ba
  have HK:=Fa hk;clear Ba hk D;refine K.o _ _ A.o.held (fun q9=>?_);clear K j nk f;refine ar 8 ((zp #[zd #[Z nb Bb Bh,Z Bm Bj F],J I k])) ?_;refine ar 9 ((zd #[Z nb Bb Bh,Z Bm Bj F])) ?_;refine ar 10 (J I k) ?_;try simp only[gE,aP]
  obtain⟨t0,t1,H3,Hz⟩:=H.o.facts;refine aF [12] (cA ?_ aG);intro j K;go_simp;have Q:=A.o.put H.o r.o HG.o (Z nb Bb Bh) (Z Bm Bj F);replace A:=Fa Q.1;replace H:=Fa Q.2.1;replace r:=Fa Q.2.2;refine K.o _ _ A.o.held (fun yB=>?_);clear K j q9 Q t0 t1 H3 Hz;refine ar 13 (J I k) ?_;try simp only[gE,aP]
  refine eO ao ?_ _;clear yB;obtain⟨y9,ui⟩:∃X,((z4.setCell ⟨gt,0,N⟩ (Z nb Bb Bh)).setCell ⟨gt,1,N⟩ (Z Bm Bj F))=X:=⟨_,rfl⟩;rw[ui] at A H r;simp only[ui];clear ui;rcases HK.o with rfl |rfl
  focus
   obtain⟨ad,Ba⟩:=r.o rfl
  rotate_left
  ·go_wp2_with fail
   go_ret2;exact⟨⟨N,0,0,3,rfl,yk rfl,fun e=>by cases e⟩,A.o.b⟩
 all_goals
  have ak:=Fa ad;replace r:=Fa Ba;clear ad Ba HK;go_wp2_with fail
  have ai:=(au (O (T y9)) y9).drew;replace A:=Fa (A.o.step ai);replace H:=Fa (H.o.aa ai H.o.lt);replace r:=Fa (r.o.aa ai);refine iK (S:=fun u=>(u.cell? ⟨gb,0,N⟩=M (Z (M ⟨G,0,N⟩) (C V) (C V))/\u.cell? ⟨gb,1,N⟩=M (Z pb pn pc)/\u.cell? ⟨gb,2,N⟩=M (Z qb qn qc))/\(u.cell? ⟨O (T w)+1,0,N⟩=M (J I (x:Nat))/\u.cell? ⟨O (T w)+1,1,N⟩=M (J I (vx:Nat)))/\u.cell? ⟨gt,0,N⟩=M (Z nb Bb Bh)/\u.cell? ⟨gt,1,N⟩=M (Z Bm Bj F)) ao ⟨A.o.held.1,A.o.held.2,H.o.facts.1,H.o.facts.2.1⟩ (fun tu=>?_);clear ai;generalize y9.drew=y0 at *;refine cU 0 ((zd #[Z (M ⟨G,0,N⟩) (C V) (C V),Z pb pn pc,Z qb qn qc])) ?_ ?_
  ·intro u' aJ;try simp only[gE];obtain⟨⟨s1,s2,s3⟩,⟨s4,s5⟩,s6,s7⟩:=aJ;go_simp
  refine ar 1 (J I (y:Nat)) ?_;try simp only[gE,aP]
  refine cU 2 ((zd #[Z (M ⟨G,0,N⟩) (C V) (C V),Z pb pn pc,Z qb qn qc])) ?_ ?_
  ·intro u' aJ;try simp only[gE];obtain⟨⟨s1,s2,s3⟩,⟨s4,s5⟩,s6,s7⟩:=aJ;go_simp
  try simp only[gE,aP]
  refine cU 3 ((zd #[Z (M ⟨G,0,N⟩) (C V) (C V),Z pb pn pc,Z qb qn qc])) ?_ ?_
  ·intro u' aJ;try simp only[gE];obtain⟨⟨s1,s2,s3⟩,⟨s4,s5⟩,s6,s7⟩:=aJ;go_simp
  refine ar 4 (zR (M ⟨O (T w)+1,0,N⟩)) ?_;try simp only[gE,aP]
  refine cU 5 (J I (x:Nat)) ?_ ?_
  ·intro u' aJ;try simp only[gE];obtain⟨⟨s1,s2,s3⟩,⟨s4,s5⟩,s6,s7⟩:=aJ;go_simp
  try simp only[gE,aP]
  refine cU 8 ((zd #[Z nb Bb Bh,Z Bm Bj F])) ?_ ?_
  ·intro u' aJ;try simp only[gE];obtain⟨⟨s1,s2,s3⟩,⟨s4,s5⟩,s6,s7⟩:=aJ;go_simp
  refine aF [6] (cA ?_ aG);intro j K;go_simp;have f:da y0 (y0.alloc (yM #[J I (x:Nat)] 3)):=(au _ y0).alloc (ah _) _;have s:=rR y0 (x:Nat);replace A:=Fa (A.o.step f);replace r:=Fa (r.o.aa f);replace H:=Fa (H.o.aa f H.o.lt);obtain⟨gi,P⟩:∃g,O (T y0)=g:=⟨_,rfl⟩;obtain⟨y1,B9⟩:∃XX,y0.alloc (yM #[J I (x:Nat)] 3)=XX:=⟨_,rfl⟩;rw[B9] at A H r s;rw[P] at s;have HL:=Fa s;simp only[B9,P];refine K.o _ _ ⟨A.o.held.1,A.o.held.2,H.o.facts.1,H.o.facts.2.1⟩ (fun ab=>?_);clear K j tu f s P B9;refine aF [7] (cA ?_ aG);intro j K;go_simp;refine(pR.o gi y1 A.o.t A.o.i HL.o).ae ?_;rintro e y2 ⟨o0,o1,rfl,ho,f⟩;replace A:=Fa (A.o.step f);replace r:=Fa (r.o.aa f);replace H:=Fa (H.o.aa f H.o.lt);have HO:=Fa ho;clear ho HL;refine K.o _ _ ⟨A.o.held.1,A.o.held.2,H.o.facts.1,H.o.facts.2.1⟩ (fun kF=>?_);clear K j ab f;refine aF [9] (cA ?_ aG);intro j K;go_simp;refine(Et.o o0 o1 _ _ y2 A.o.t A.o.i HO.o r.o).ae ?_;rintro e y3 ⟨p0,p1,rfl,hp,f⟩;replace A:=Fa (A.o.step f);replace H:=Fa (H.o.aa f H.o.lt);have HP:=Fa hp;clear hp HO r;refine K.o _ _ ⟨A.o.held.1,A.o.held.2,H.o.facts.1,H.o.facts.2.1⟩ (fun nk=>?_);clear K j kF f;refine aF [10] (cA ?_ aG);intro j K;go_simp;refine(ax.o p0 p1 y3 ak.o A.o.t A.o.i HP.o).ae ?_;rintro e y4 ⟨⟨d,n,c',k,rfl,hk,hr⟩,f⟩;replace A:=Fa (A.o.step f);replace H:=Fa (H.o.aa f H.o.lt);have HR:=Fa hr;clear hr
  refine K.o _ _ ⟨A.o.held.1,A.o.held.2,H.o.facts.1,H.o.facts.2.1⟩ (fun q9=>?_);clear K j nk f;refine ar 11 (Z d n c') ?_;refine ar 12 (J I k) ?_;refine ar 13 (Z d n c') ?_;refine ar 14 (J I k) ?_;try simp only[gE,aP]
  refine eO ao ?_ _;go_wp2_with fail
  go_ret2;exact⟨⟨d,n,c',k,rfl,hk,fun e=>⟨ak.o,HR.o e⟩⟩,A.o.b⟩
end Go.Proofs.YtkflnpjapgiajaaGreatDoor
