/- Part6: part 6. -/
import Derived.Test.YtkflnpjapgiajaaGreatDoorLegB5
set_option maxRecDepth 100000
set_option maxHeartbeats 400000000
set_option linter.unusedSimpArgs false
set_option linter.unusedVariables false
namespace Go.Proofs.YtkflnpjapgiajaaGreatDoor
open Value renaming slice→J,int→E,string→zX,pointer→zZ,bool→zd,agg→zp,tuple→zz
open IntKind renaming i64→yR
open Obj renaming cells→yd
open Ending renaming returned→yk
open Or renaming inl→yp,inr→xS
open Option renaming none→O,some→I
open Bool renaming true→xq,false→x3
open Go renaming World→wA,Value→wQ,undef→wd
open RowKit renaming Hid→we
open Go.Proofs.Tryz
open List renaming length→Z
open World renaming alloc→AC
open World renaming setCell→AF
open World renaming cell?→AJ
open Go.RowKit Go.Shelf Go.Lib
variable {ops:Array Oper} {Q:Exit ->Act ->wA ->Prop} {fn:Func} {R:List (List Fr)} {L:List Kx} {l:Kx} {hs rs:Jp} {Xp Xr Xv xs:List wQ} {V:List Vr} {c cv g gm gp gr gv i j k n nl nr v:Nat} {md:Region.Mode} {x' y z:wQ} {U U' w:wA}
theorem alZ {P:Program} {c:Code} {a:Act} (T:Act ->Exit ->Act ->wA ->Prop) (h:c.wp P (T a) a w) (m:∀e b w',T a e b w' ->Q e b w'):c.wp P Q a w:=Code.wp_mono m h
theorem ani {B:Nat} {e:TypeId} {s:Nat} {v:wQ} (h:w.ownsRow B e s v n xs):∀a k c,v=J a k c ->k<=c:=fun a k c d=>by
 rcases h.2 with ⟨b,f⟩ |⟨g,cap,r,b,f,j,i,l⟩
 ·rw[d] at b;cases b;exact aX _
 ·rw[d] at b;cases b;exact i
def nC {α:Type} (v:Nat) (l:List (List α)):List (List α):=l.take v++List.replicate (Z l - v) []
theorem zB {α:Type} (v:Nat) (l:List (List α)) (h:v<=Z l):Z (nC v l)=Z l:=by simp[nC];omega
theorem ae6 {α:Type} (l:List (List α)):nC (Z l) l=l:=by simp[nC]
theorem ae5 {α:Type} {l:List (List α)} (h:v<Z l):(nC v l).set v l[v]=nC (v+1) l:=by
 apply mZ (by rw[gA,zB v l al,zB _ l al]);intro k b a;rw[zB _ l al] at a;rw[EX];by_cases e:v=k
 ·subst e;rw[aA rfl];simp only[nC];rw[ou (by rw[eZ];omega),x4]
 ·rw[aD e];simp only[nC];by_cases c:k<v
  ·rw[ou (by rw[eZ];omega),ou (by rw[eZ];omega),x4,x4]
  ·rw[uj (by rw[eZ];omega),uj (by rw[eZ];omega),VW,VW]
theorem p8.less {gs:Jp} {X:List wQ} {W:wA} (h:p8 gs g V X W) (l:∀g∈hs,g∈gs):p8 hs g V X W:=⟨h.row,h.len,fun k m=>by
 obtain⟨b,c,a,d,f,i,j⟩:=h.at' k m;exact⟨b,c,a,d,f,i,fun g o e p n=>j g o e p (l g n)⟩⟩
theorem nY.less {gs:Jp} {X:List wQ} {W:wA} (h:nY gs g L X W) (j:∀g∈hs,g∈gs):nY hs g L X W:=⟨h.row,h.len,fun k l=>by
 obtain⟨b,c,a,d,f,i⟩:=h.at' k l;exact⟨b,c,a,d,f,fun g o e n m=>i g o e n (j g m)⟩⟩
theorem p9.less {gs:Jp} {X:List wQ} {W:wA} (h:p9 gs g R X W) (j:∀g∈hs,g∈gs):p9 hs g R X W:=⟨h.row,h.len,fun k l=>by
 obtain⟨b,c,a,d,f,i⟩:=h.at' k l;exact⟨b,c,a,d,f,fun g o e n m=>i g o e n (j g m)⟩⟩
structure qa (w U:wA) (x y z:wQ):Prop where
 bx:bZ U w.heap.size x y z
 res:bZ U (w.heap.size+1) (J O 0 0) (J O 0 0) (J O 0 0)
 bel:da w U
theorem qa.begin (w:wA) (x y z:wQ):qa w (AC (AC w (yd #[x,y,z] 26)) (yd #[J O 0 0,J O 0 0,J O 0 0] 26)) x y z:=
 have a:Below (AC w (yd #[x,y,z] 26)).heap.size (AC w (yd #[x,y,z] 26)) (AC (AC w (yd #[x,y,z] 26)) (yd #[J O 0 0,J O 0 0,J O 0 0] 26)):=(aw _ _).alloc (ak _) _;have e:bZ (AC w (yd #[x,y,z] 26)) w.heap.size x y z:=bZ.at (w:=w) rfl _ _ _;⟨e.aa a e.lt,by have:=bZ.at (w:=w.alloc (yd #[x,y,z] 26)) rfl (J O 0 0) (J O 0 0) (J O 0 0);simpa using this,((aw _ w).alloc (ak _) _).alloc aE _⟩
theorem bZ.result2' {x:wQ} (h:bZ w g x y z) {p u:Tmp} (r:fn.results= #[.cell p 26,.tmp u]) (m:Array wQ) (a:m.getD p wd=zZ (I ⟨g,0,O⟩)):
  (results fn m).run prog w=.ok (zz #[zp #[x,y,z],m.getD u wd]) w:=by
 rw[results_cell_tmp r,a];simp only[asAddr,zi,wG];rw[run_loadVar_row w g _ 26 _ _ _ h underlying26 rfl ao];simp only[wG]
theorem qa.step {x:wQ} (h:qa w U x y z) (b:da U U'):qa w U' x y z:=⟨h.bx.aa b h.bx.lt,h.res.aa b h.res.lt,h.bel.trans (b.af h.bel.size)⟩
theorem qa.cells {x:wQ} (h:qa w U x y z):AJ U ⟨w.heap.size,0,O⟩=I x/\U.cell? ⟨w.heap.size,1,O⟩=I y/\U.cell? ⟨w.heap.size,2,O⟩=I z:=h.bx.cells
structure fk (w:wA) (gm gv gp gr cv:Nat) (x y z:wQ) (V:List Vr) (L:List Kx) (R:List (List Fr)) (nl nr:Nat) (Xv Xp Xr:List wQ) (U:wA):Prop where
 a:qa w U x y z
 box:bZ U gm (J (I ⟨gv,0,O⟩) (Z V) cv) (J (I ⟨gp,0,O⟩) nl nl) (J (I ⟨gr,0,O⟩) nr nr)
 v:p8 [gv,gp,gr,w.heap.size+1] gv V Xv U
 p:nY [gv,gp,gr,w.heap.size+1] gp L Xp U
 r:p9 [gv,gp,gr,w.heap.size+1] gr R Xr U
 nl:Z L=nl
 nr:Z R=nr
 cap:Z V<=cv
 low:w.heap.size+2<=gm/\w.heap.size+2<=gv/\w.heap.size+2<=gp/\w.heap.size+2<=gr
theorem C1 {c d:Array wQ} {s t:TypeId} {f a:Nat×Nat} (h1:U.heap[i]? =I (yd c s f)) (h:U.heap[j]? =I (yd d t a)) (n:s≠t):i≠j:=fun e=>by
 subst e;rw[h1] at h;cases h;exact n rfl
section
variable {w U U' : wA} {gm gv gp gr cv nl nr : Nat} {x y z : wQ} {V : List Vr} {L : List Kx} {R : List (List Fr)} {Xv Xp Xr : List wQ}
theorem fk.ne (h:fk w gm gv gp gr cv x y z V L R nl nr Xv Xp Xr U):(gv≠gp/\gv≠gr/\gp≠gr)/\gm≠gv/\gm≠gp/\gm≠gr:=⟨⟨C1 h.v.row h.p.row a6,C1 h.v.row h.r.row a6,C1 h.p.row h.r.row a6⟩,C1 h.box h.v.row a6,C1 h.box h.p.row a6,C1 h.box h.r.row a6⟩
theorem qa.keep {gs:Jp} (h:qa w U x y z) (k:eK gs U U') (a:∀g∈gs,w.heap.size+2<=g):qa w U' x y z:=
 ⟨(k.block _ h.bx.lt fun e=>by have:=a _ e;omega).trans h.bx,(k.block _ h.res.lt fun e=>by have:=a _ e;omega).trans h.res,k.low h.bel fun g m=>by have:=a g m;omega⟩
theorem fk.step (h:fk w gm gv gp gr cv x y z V L R nl nr Xv Xp Xr U) (b:da U U'):fk w gm gv gp gr cv x y z V L R nl nr Xv Xp Xr U':=⟨h.a.step b,h.box.aa b h.box.lt,h.v.aa b,h.p.aa b,h.r.aa b,h.nl,h.nr,h.cap,h.low⟩
theorem fk.gs (h:fk w gm gv gp gr cv x y z V L R nl nr Xv Xp Xr U):∀g∈[gv,gp,gr],w.heap.size+2<=g/\g<U.heap.size/\g≠gm:=fun g a=>by
 have l:=h.low;have n:=h.ne;simp only[bU,gw,jf] at a;rcases a with rfl |rfl |rfl
 ·exact⟨l.2.1,h.v.row.lt,n.2.1.symm⟩
 ·exact⟨l.2.2.1,h.p.row.lt,n.2.2.1.symm⟩
 ·exact⟨l.2.2.2,h.r.row.lt,n.2.2.2.symm⟩
theorem fk.boxK (h:fk w gm gv gp gr cv x y z V L R nl nr Xv Xp Xr U) (k:eK [gv,gp,gr] U U'):qa w U' x y z/\bZ U' gm (J (I ⟨gv,0,O⟩) (Z V) cv) (J (I ⟨gp,0,O⟩) nl nl) (J (I ⟨gr,0,O⟩) nr nr):=
 ⟨h.a.keep k fun g b=>(h.gs g b).1,(k.block _ h.box.lt fun m=>(h.gs _ m).2.2 rfl).trans h.box⟩
theorem fk.setV (h:fk w gm gv gp gr cv x y z V L R nl nr Xv Xp Xr U) (j:k<Z V) {b:Kd} (hs:jU U b V[k].2) (f:V[k].2.length<=c) (o:pT [gv,gp,gr,w.heap.size+1] b V[k].2.length):
  fk w gm gv gp gr cv x y z V L R nl nr (Xv.set (k*2+1) (J b V[k].2.length c)) Xp Xr (AF U ⟨gv,k*2+1,O⟩ (J b V[k].2.length c)):=by
 have a:eK [gv,gp,gr] U (AF U ⟨gv,k*2+1,O⟩ (J b V[k].2.length c)):=.set aE _ _;obtain⟨⟨n,l,m⟩,_⟩:=h.ne;obtain⟨d,e⟩:=h.boxK a;replace a:=a.more (hs:=[gv,gp,gr,w.heap.size+1]) fun g i=>by simp only[bU,gw,jf] at i⊢;omega
 exact⟨d,e,h.v.set aE j hs f o,h.p.keep a (eO U ⟨gv,_,O⟩ _ gp n.symm),h.r.keep a (eO U ⟨gv,_,O⟩ _ gr l.symm),h.nl,h.nr,h.cap,h.low⟩
theorem fk.setP (h:fk w gm gv gp gr cv x y z V L R nl nr Xv Xp Xr U) {b:Kd} (hs:aC U b l) (f:b=O ->c=0) (o:pT [gv,gp,gr,w.heap.size+1] b (Z l)):
  fk w gm gv gp gr cv x y z V (L.set k l) R nl nr Xv (Xp.set k (J b (Z l) c)) Xr (AF U ⟨gp,k,O⟩ (J b (Z l) c)):=by
 have a:eK [gv,gp,gr] U (AF U ⟨gp,k,O⟩ (J b (Z l) c)):=.set aE _ _;obtain⟨⟨n,m,j⟩,_⟩:=h.ne;obtain⟨d,e⟩:=h.boxK a;replace a:=a.more (hs:=[gv,gp,gr,w.heap.size+1]) fun g i=>by simp only[bU,gw,jf] at i⊢;omega
 exact⟨d,e,h.v.keep a (eO U ⟨gp,_,O⟩ _ gv n),h.p.set aE hs f o,h.r.keep a (eO U ⟨gp,_,O⟩ _ gr j.symm),by rw[gA];exact h.nl,h.nr,h.cap,h.low⟩
theorem fk.setR (h:fk w gm gv gp gr cv x y z V L R nl nr Xv Xp Xr U) {l:List Fr} {b:Kd} (hs:dE U b l) (f:Z l<=c) (o:pT [gv,gp,gr,w.heap.size+1] b (Z l)):
  fk w gm gv gp gr cv x y z V L (R.set k l) nl nr Xv Xp (Xr.set k (J b (Z l) c)) (AF U ⟨gr,k,O⟩ (J b (Z l) c)):=by
 have a:eK [gv,gp,gr] U (AF U ⟨gr,k,O⟩ (J b (Z l) c)):=.set aE _ _;obtain⟨⟨m,n,j⟩,_⟩:=h.ne;obtain⟨d,e⟩:=h.boxK a;replace a:=a.more (hs:=[gv,gp,gr,w.heap.size+1]) fun g i=>by simp only[bU,gw,jf] at i⊢;omega
 exact⟨d,e,h.v.keep a (eO U ⟨gr,_,O⟩ _ gv n),h.p.keep a (eO U ⟨gr,_,O⟩ _ gp j),h.r.set aE hs f o,h.nl,by rw[gA];exact h.nr,h.cap,h.low⟩
theorem fk.cellV (h:fk w gm gv gp gr cv x y z V L R nl nr Xv Xp Xr U) (a:k<Z V):(∃q,AJ U ⟨gv,k*2+1,O⟩=I q)/\U.frozen? ⟨gv,k*2+1,O⟩=false:=⟨⟨_,h.v.row.cell _ (by have:=h.v.len;omega)⟩,h.v.row.fz _⟩
theorem fk.cellP (h:fk w gm gv gp gr cv x y z V L R nl nr Xv Xp Xr U) (a:k<nl):(∃q,AJ U ⟨gp,k,O⟩=I q)/\U.frozen? ⟨gp,k,O⟩=false:=⟨⟨_,h.p.row.cell _ (by have:=h.p.len;have:=h.nl;omega)⟩,h.p.row.fz _⟩
theorem fk.setVn (h:fk w gm gv gp gr cv x y z V L R nl nr Xv Xp Xr U) (f:k<Z V) {vs:List ByteArray} (e:V[k].2=vs) {b:Kd} {B:Nat} (hs:jU U b vs) (a:Z vs<=c) (l:∀g o,b=I ⟨g,o,O⟩ ->B<=g) (i:gv<B/\gp<B/\gr<B) (j:w.heap.size+1<B):
  fk w gm gv gp gr cv x y z V L R nl nr (Xv.set (k*2+1) (J b (Z vs) c)) Xp Xr (AF U ⟨gv,k*2+1,O⟩ (J b (Z vs) c)):=by
 subst e;exact h.setV f hs a (Sk l fun g d=>by simp only[bU,gw,jf] at d;omega)
theorem fk.lts (h:fk w gm gv gp gr cv x y z V L R nl nr Xv Xp Xr U):gv<U.heap.size/\gp<U.heap.size/\gr<U.heap.size:=⟨h.v.row.lt,h.p.row.lt,h.r.row.lt⟩
theorem fk.boxR (h:fk w gm gv gp gr cv x y z V L R nl nr Xv Xp Xr U):AJ U ⟨gm,2,O⟩=I (J (I ⟨gr,0,O⟩) nr nr)/\gm<U.heap.size/\gm≠gr/\gr<U.heap.size:=⟨h.box.cells.2.2,h.box.lt,h.ne.2.2.2,h.r.row.lt⟩
theorem fk.rlen (h:fk w gm gv gp gr cv x y z V L R nl nr Xv Xp Xr U):nr<=Z Xr:=by rw[<- h.nr];exact h.r.len
end
structure xW (gr v:Nat) (Xr:List wQ) (x:wQ) (l:List Fr) (W U:wA):Prop where
 keep:eK [gr] W U
 row:qT U gr (Xr.set v x)
 own:dr U W.heap.size x l
theorem xW.step {x:wQ} {l:List Fr} {W:wA} (h:xW gr v Xr x l W U) (b:da U U'):xW gr v Xr x l W U':=⟨h.keep.trans (.aa b),(b.block _ h.row.lt).trans h.row,h.own.aa b⟩
theorem xW.push {x:wQ} {l:List Fr} {f:Fr} {W:wA} (h:xW gr v Xr x l W U) (c:gr<W.heap.size) (b:U.grownBy U' x.ownBlock) (r:dr U' W.heap.size x' (l++[f])):qT U' gr (Xr.set v x)/\xW gr v Xr x' (l++[f]) W (AF U' ⟨gr,v,O⟩ x'):=by
 have a:qT U' gr (Xr.set v x):=(b.block gr h.row.lt fun e=>by have:=h.own.own gr e.symm;omega).trans h.row;refine⟨a,(h.keep.grow b fun g e=>xS (h.own.own g e)).put (yp aE) v x',?_,r.off gr v x' c⟩;have:=a.set v x';rwa [List.set_set] at this
theorem fk.into {W:wA} {x:wQ} (h:fk w gm gv gp gr cv x y z V L R nl nr Xv Xp Xr W) (a:Xr[v]? =I (J O 0 0)):xW gr v Xr (J O 0 0) [] W W:=by
 have b:v<Z Xr:=(oA.1 a).1;refine⟨.refl _ _,?_,dr.empty _ _⟩
 have e:Xr.set v (J O 0 0)=Xr:=by
  rw[ba b] at a;rw[<- kg a];exact List.set_getElem_self b
 rw[e];exact h.r.row
theorem dr.fr3 {B:Nat} {v:wQ} {l:List Fr} (h:dr w B v l):∃d c,v=J d (Z l) c/\dE w d l/\l.length<=c/\∀g o,d=I ⟨g,o,O⟩ ->B<=g:=by
 have a:=h;obtain⟨d,c,rfl,f⟩:=dr.fr h;refine⟨d,c,rfl,f,ani a _ _ _ rfl,fun g o e=>?_⟩;subst e;exact a.own g rfl
theorem xW.done {W:wA} {x:wQ} {m:wQ} {l:List Fr} (h:fk w gm gv gp gr cv x y z V L R nl nr Xv Xp Xr W) (i:xW gr v Xr m l W U):fk w gm gv gp gr cv x y z V L (R.set v l) nl nr Xv Xp (Xr.set v m) U:=by
 have b:eK [gv,gp,gr] W U:=i.keep.more fun g c=>by rw[bD.1 c];simp
 obtain⟨⟨M,B7,B6⟩,_⟩:=h.ne;obtain⟨A,D⟩:=h.boxK b;obtain⟨d,u,rfl,F,B9,K⟩:=i.own.fr3;have P:=h.a.res.lt;have B2:=h.lts;replace b:=b.more (hs:=[gv,gp,gr,w.heap.size+1]) fun g c=>by simp only[bU,gw,jf] at c⊢;omega
 have H:=h.r.len;refine⟨A,D,h.v.keep b (i.keep.block gv h.v.row.lt (by simpa using B7)),h.p.keep b (i.keep.block gp h.p.row.lt (by simpa using B6)),⟨i.row,by rw[gA,gA];exact H,fun j k=>?_⟩,h.nl,by rw[gA];exact h.nr,h.cap,h.low⟩;rw[gA] at k;obtain⟨s,t,n,o,q,f⟩:=h.r.at' j k;by_cases e:v=j
 ·subst e;rw[Hn];exact⟨d,u,by rw[Ho al],F,B9,Sk K fun g c=>by simp only[bU,gw,jf] at c;omega⟩
 ·rw[MO e];exact⟨s,t,by rw[wJ e];exact n,LA o f b,q,f⟩
def gH:Bool ->Nat
 |true=>0
 |false=>1
structure lH (w u:wA) (x y z:wQ) (V:List Vr) (nl nr:Nat) (b2 b6 i7 gP:Bool) (v10 v14 v18 v3:wQ):Prop where
 a:qa w u x y z
 m:w.heap.size+2<=u.heap.size
 f2:b2=xq ->∃gv cv Xv,v10=J (I ⟨gv,0,O⟩) (Z V) cv/\sV u gv Xv/\V.length*2<=Z Xv/\UB w V Xv/\V.length<=cv/\w.heap.size+2<=gv
 f6:b6=xq ->∃gp,v14=J (I ⟨gp,0,O⟩) nl nl/\jV u gp (List.replicate nl (J O 0 0))/\w.heap.size+2<=gp
 f10:i7=xq ->∃gr,v18=J (I ⟨gr,0,O⟩) nr nr/\qT u gr (List.replicate nr (J O 0 0))/\w.heap.size+2<=gr
 f12:gP=xq ->∃gm,v3=zZ (I ⟨gm,0,O⟩)/\bZ u gm (J O 0 0) (J O 0 0) (J O 0 0)/\w.heap.size+2<=gm
section
variable {w u u' : wA} {x y z : wQ} {V : List Vr} {nl nr : Nat} {b2 b6 i7 gP : Bool} {v10 v14 v18 v3 : wQ}
theorem lH.step (h:lH w u x y z V nl nr b2 b6 i7 gP v10 v14 v18 v3) (i:da u u'):lH w u' x y z V nl nr b2 b6 i7 gP v10 v14 v18 v3:=by
 refine⟨h.a.step i,aO h.m i.size,fun e=>?_,fun e=>?_,fun e=>?_,fun e=>?_⟩
 ·obtain⟨g,c,X,d,b,f⟩:=h.f2 e;exact⟨g,c,X,d,(i.block _ b.lt).trans b,f⟩
 ·obtain⟨g,d,b,f⟩:=h.f6 e;exact⟨g,d,(i.block _ b.lt).trans b,f⟩
 ·obtain⟨g,d,b,f⟩:=h.f10 e;exact⟨g,d,(i.block _ b.lt).trans b,f⟩
 ·obtain⟨g,d,b,f⟩:=h.f12 e;exact⟨g,d,b.aa i b.lt,f⟩
theorem lH.done2 (h:lH w u x y z V nl nr b2 b6 i7 gP v10 v14 v18 v3) (h1:sV u gv Xv) (b:Z V*2<=Z Xv) (c:UB w V Xv) (d:Z V<=cv) (e:w.heap.size+2<=gv):lH w u x y z V nl nr xq b6 i7 gP (J (I ⟨gv,0,O⟩) (Z V) cv) v14 v18 v3:=⟨h.a,h.m,fun _=>⟨gv,cv,Xv,rfl,h1,b,c,d,e⟩,h.f6,h.f10,h.f12⟩
theorem lH.done6 (h:lH w u x y z V nl nr b2 b6 i7 gP v10 v14 v18 v3) (h1:jV u g (List.replicate nl (J O 0 0))) (b:w.heap.size+2<=g):lH w u x y z V nl nr b2 xq i7 gP v10 (J (I ⟨g,0,O⟩) nl nl) v18 v3:=⟨h.a,h.m,h.f2,fun _=>⟨g,rfl,h1,b⟩,h.f10,h.f12⟩
theorem lH.done10 (h:lH w u x y z V nl nr b2 b6 i7 gP v10 v14 v18 v3) (h1:qT u g (List.replicate nr (J O 0 0))) (b:w.heap.size+2<=g):lH w u x y z V nl nr b2 b6 xq gP v10 v14 (J (I ⟨g,0,O⟩) nr nr) v3:=⟨h.a,h.m,h.f2,h.f6,fun _=>⟨g,rfl,h1,b⟩,h.f12⟩
theorem lH.done12 (h:lH w u x y z V nl nr b2 b6 i7 gP v10 v14 v18 v3) (h1:bZ u g (J O 0 0) (J O 0 0) (J O 0 0)) (b:w.heap.size+2<=g):lH w u x y z V nl nr b2 b6 i7 xq v10 v14 v18 (zZ (I ⟨g,0,O⟩)):=⟨h.a,h.m,h.f2,h.f6,h.f10,fun _=>⟨g,rfl,h1,b⟩⟩
end
theorem abT {P:Program} {S:wA ->Prop} {l:Array Bool} {a:Act} (T:(Nat ->Array Bool ->Act ->wA ->Prop) ->Act ->Prop) (h1:T (wpAnyH P md ops Q S) a) (h:T (wpAnyH P md ops Q S) a ->wpAnyH P md ops Q S n l a w):wpAnyH P md ops Q S n l a w:=h h1
theorem Ri {P:Program} {S:wA ->Prop} {l:Array Bool} {a:Act} (T:(Nat ->Array Bool ->Act ->wA ->Prop) ->(Nat ->Array Bool ->Act ->wA ->Jp ->Prop) ->Act ->Prop) (h1:T (wpAnyH P md ops Q S) (AllReadyH P md ops Q S) a) (h:T (wpAnyH P md ops Q S) (AllReadyH P md ops Q S) a ->wpAnyH P md ops Q S n l a w):wpAnyH P md ops Q S n l a w:=h h1
theorem r6 {P:Program} {S:wA ->Prop} {l:Array Bool} {a:Act} (h1:AllReadyH P md ops Q S n l a w [i]) (b:AllReadyH P md ops Q S n l a w rs):AllReadyH P md ops Q S n l a w (i::rs):=fun j h=>by
 rcases bU.1 h with rfl |h
 ·exact h1 j (bD.2 rfl)
 ·exact b j h
theorem ij {P:Program} {S:wA ->Prop} {l l':Array Bool} {a b:Act} (d:l=l') (c:a=b) (h:wpAnyH P md ops Q S n l' b w):wpAnyH P md ops Q S n l a w:=by subst d c;exact h
theorem ahZ {u:wA} {x:wQ} (D:qa w u x y z) (v:bZ u gm (J O 0 0) (J O 0 0) (J O 0 0)) (l:sV u gv Xv) (m:jV u gp (List.replicate (Z L) (J O 0 0))) (p:qT u gr (List.replicate (Z R) (J O 0 0))) (X:Z V*2<=Z Xv) (B9:UB w V Xv) (H:Z V<=cv) (q:w.heap.size+2<=gm) (l2:w.heap.size+2<=gv) (M:w.heap.size+2<=gp) (S:w.heap.size+2<=gr):
  fk w gm gv gp gr cv x y z V (nC 0 L) (nC 0 (cC R)) (Z L) (Z R) Xv (List.replicate (Z L) (J O 0 0)) (List.replicate (Z R) (J O 0 0)) (AF (AF (AF u ⟨gm,0,O⟩ (J (I ⟨gv,0,O⟩) (Z V) cv)) ⟨gm,1,O⟩ (J (I ⟨gp,0,O⟩) (Z L) (Z L))) ⟨gm,2,O⟩ (J (I ⟨gr,0,O⟩) (Z R) (Z R))):=by
 have B2:=C1 v l a6;have P:=C1 v m a6;have Q:=C1 v p a6;have n:∀k,k≠gm ->(AF (AF (AF u ⟨gm,0,O⟩ (J (I ⟨gv,0,O⟩) (Z V) cv)) ⟨gm,1,O⟩ (J (I ⟨gp,0,O⟩) (Z L) (Z L))) ⟨gm,2,O⟩ (J (I ⟨gr,0,O⟩) (Z R) (Z R))).heap[k]? =u.heap[k]?:=fun k h=>(eO _ ⟨gm,2,O⟩ _ k h).trans ((eO _ ⟨gm,1,O⟩ _ k h).trans (eO u ⟨gm,0,O⟩ _ k h));have K:eK [gm] u (AF (AF (AF u ⟨gm,0,O⟩ (J (I ⟨gv,0,O⟩) (Z V) cv)) ⟨gm,1,O⟩ (J (I ⟨gp,0,O⟩) (Z L) (Z L))) ⟨gm,2,O⟩ (J (I ⟨gr,0,O⟩) (Z R) (Z R))):=(((eK.refl [gm] u).put (yp aE) 0 _).put (yp aE) 1 _).put (yp aE) 2 _;have A:=D.keep K fun g B7=>by rw[bD.1 B7];exact q
 have F:da w _:=A.bel;have d:Z (cC R)=Z R:=dm _;refine⟨A,((v.set0 _).set1 _).set2 _,⟨(n gv B2.symm).trans l,X,fun k h=>?_⟩,⟨(n gp P.symm).trans m,by rw[zB 0 L (aX _),ui];exact ak _,fun k h=>?_⟩,⟨(n gr Q.symm).trans p,by rw[zB 0 _ (aX _),ui,d];exact ak _,fun k h=>?_⟩,zB 0 L (aX _),(zB 0 _ (aX _)).trans d,H,q,l2,M,S⟩
 ·obtain⟨b,c,r,s,i,t⟩:=B9 k h;refine⟨b,c,r,s,i.aa F,t,fun g o e T B6=>?_⟩;obtain⟨g',o',a,U,_⟩:=i 0 al;rw[e] at a;cases a;simp only[bU,gw,jf] at B6;omega
 ·rw[zB 0 L (aX _)] at h;have e:(nC 0 L)[k]'(by rw[zB 0 L (aX _)];exact h)=[]:=by simp[nC]
  rw[e];exact⟨O,0,by rw[JW,aA h];rfl,fun j f=>absurd f aE,fun _=>rfl,fun g o a=>by cases a⟩
 ·rw[zB 0 _ (aX _),d] at h;have e:(nC 0 (cC R))[k]'(by rw[zB 0 _ (aX _),d];exact h)=[]:=by simp[nC]
  rw[e];exact⟨O,0,by rw[JW,aA h];rfl,fun j f=>absurd f aE,ak _,fun g o a=>by cases a⟩
structure tq (gm gr v nr gf:Nat) (Xr:List wQ) (dx:Kd) (i cx:Nat) (l:List Fr) (fn:Bool) (fx fy:ByteArray) (W U:wA):Prop where
 ci:xW gr v Xr (J dx i cx) l W U
 f:aL U gf fn fx fy
 m:AJ U ⟨gm,2,O⟩=I (J (I ⟨gr,0,O⟩) nr nr)
 lt:gm<W.heap.size/\gm≠gr/\gr<W.heap.size/\W.heap.size<=gf
 len:nr<=Z Xr
 ow:∀k,(Value.slice dx i cx).ownBlock=I k ->k<gf
section
variable {gm gr v nr gf i cx : Nat} {Xr : List wQ} {dx : Kd} {l : List Fr} {fn : Bool} {fx fy : ByteArray} {W U U' : wA}
theorem tq.mk' (h:xW gr v Xr (J dx i cx) l W U) (f:aL U gf fn fx fy) (m:AJ W ⟨gm,2,O⟩=I (J (I ⟨gr,0,O⟩) nr nr)/\gm<W.heap.size/\gm≠gr/\gr<W.heap.size) (a:nr<=Z Xr) (g:W.heap.size<=gf) (o:∀k,(Value.slice dx i cx).ownBlock=I k ->k<gf):tq gm gr v nr gf Xr dx i cx l fn fx fy W U:=
 ⟨h,f,(iE (h.keep.block gm m.2.1 (by simpa using m.2.2.1))).trans m.1,⟨m.2.1,m.2.2.1,m.2.2.2,g⟩,a,o⟩
theorem tq.step (h:tq gm gr v nr gf Xr dx i cx l fn fx fy W U) (b:da U U'):tq gm gr v nr gf Xr dx i cx l fn fx fy W U':=⟨h.ci.step b,h.f.aa b h.f.lt,(b.cell (p:=⟨gm,2,O⟩) (aT h.lt.1 h.ci.keep.size)).trans h.m,h.lt,h.len,h.ow⟩
theorem tq.cells (h:tq gm gr v nr gf Xr dx i cx l fn fx fy W U):(AJ U ⟨gm,2,O⟩=I (J (I ⟨gr,0,O⟩) nr nr))/\U.cell? ⟨gf,0,O⟩=I (zd fn)/\U.cell? ⟨gf,1,O⟩=I (zX fx)/\U.cell? ⟨gf,2,O⟩=I (zX fy):=⟨h.m,h.f.c0,h.f.c1,h.f.c2⟩
theorem tq.rowat (h:tq gm gr v nr gf Xr dx i cx l fn fx fy W U) (a:v<nr) (r:qT U' gr (Xr.set v (J dx i cx))):AJ U' ⟨gr,v,O⟩=I (J dx i cx):=by
 have:=h.len;rw[r.cell v (by rw[gA];omega),Hn]
theorem tq.at' (h:tq gm gr v nr gf Xr dx i cx l fn fx fy W U) (a:v<nr):AJ U ⟨gr,v,O⟩=I (J dx i cx):=h.rowat a h.ci.row
theorem tq.after (h:tq gm gr v nr gf Xr dx i cx l fn fx fy W U) (g:U.grownBy U' (Value.slice dx i cx).ownBlock):(AJ U' ⟨gm,2,O⟩=I (J (I ⟨gr,0,O⟩) nr nr))/\U'.cell? ⟨gf,0,O⟩=I (zd fn)/\U'.cell? ⟨gf,1,O⟩=I (zX fx)/\U'.cell? ⟨gf,2,O⟩=I (zX fy):=by
 have b:U'.heap[gm]? =U.heap[gm]?:=g.block gm (aT h.lt.1 h.ci.keep.size) fun e=>by have:=h.ci.own.own gm e.symm;have:=h.lt;omega
 have a:aL U' gf fn fx fy:=(g.block gf h.f.lt fun e=>absurd (h.ow gf e.symm) (QQ _)).trans h.f;exact⟨(iE b).trans h.m,a.c0,a.c1,a.c2⟩
theorem tq.after2 (h:tq gm gr v nr gf Xr dx i cx l fn fx fy W U) (g:U.grownBy U' (Value.slice dx i cx).ownBlock) (y:wQ):(AJ (AF U' ⟨gr,v,O⟩ y) ⟨gm,2,O⟩=I (J (I ⟨gr,0,O⟩) nr nr))/\(AF U' ⟨gr,v,O⟩ y).cell? ⟨gf,0,O⟩=I (zd fn)/\(AF U' ⟨gr,v,O⟩ y).cell? ⟨gf,1,O⟩=I (zX fx)/\(AF U' ⟨gr,v,O⟩ y).cell? ⟨gf,2,O⟩=I (zX fy):=by
 obtain⟨b,c,d,f⟩:=h.after g;have j:=h.lt;have a:=eO U' ⟨gr,v,O⟩ y gm (by show gm≠gr;omega);have e:=eO U' ⟨gr,v,O⟩ y gf (by show gf≠gr;omega);exact⟨(iE a).trans b,(iE e).trans c,(iE e).trans d,(iE e).trans f⟩
end
theorem dr.len_of {B:Nat} {d:Kd} {l:List Fr} (h:dr w B (J d n c) l):n=Z l:=by
 obtain⟨b,a,e,_⟩:=h.fr;cases e;rfl
theorem dr.old {B:Nat} {v:wQ} {l:List Fr} (h:dr w B v l) (a:v.ownBlock=I k):k<w.heap.size:=by
 rcases h.2 with ⟨rfl,_⟩ |⟨g,cap,c,rfl,_,b,_⟩
 ·cases a
 ·cases a;exact(c5.1 b).1
theorem asC (t z gb s A D ca cb cc:Nat) (V:List Vr) (L:List Kx) (R:List (List Fr)) (w:wA) (h:jc w (I ⟨t,z,O⟩) (I ⟨gb,s,O⟩) (I ⟨A,D,O⟩) V L R) (hL:Z L=Z V) (hR:Z R=Z V) (hp:0<Z V) (h8:Z V<=8) (X:∀x∈V,0<x.2.length/\x.2.length<=5000) (hl:∀l∈L,Z l<=5000) (hr:∀l∈R,0<Z l/\l.length<=5000/\∀f∈l,f.2.1.size+f.2.2.size<=50000):
  c6 37 #[zp #[J (I ⟨t,z,O⟩) (Z V) ca,J (I ⟨gb,s,O⟩) (Z L) cb,J (I ⟨A,D,O⟩) (Z R) cc]] w fun e w'=>∃(gv gp gr cv:Nat) (Xv Xp Xr:List wQ),e=yk (zp #[J (I ⟨gv,0,O⟩) (Z V) cv,J (I ⟨gp,0,O⟩) (Z L) (Z L),J (I ⟨gr,0,O⟩) (Z R) (Z R)])/\p8 [gv,gp,gr] gv V Xv w'/\nY [gv,gp,gr] gp L Xp w'/\p9 [gv,gp,gr] gr (cC R) Xr w'/\V.length<=cv/\(w.heap.size<=gv/\w.heap.size<=gp/\w.heap.size<=gr)/\da w w':=by
 have pY:=Fa (fun (U:wA) (hU:da w U)=>ale (I ⟨t,z,O⟩) ca V w U h.Fd hU hp al)
 have Cj:we (∀v (X:v<Z V) (U:wA),da w U ->∃B2 T,AJ U ⟨t,z+v*2,O⟩=I (zX V[v].1)/\U.cell? ⟨t,z+v*2+1,O⟩=I (J B2 V[v].2.length T)/\jU U B2 V[v].2):=fun v X U hU=>by
  obtain⟨g,an,b,c,e,_,h1,h2,h3,_⟩:=(h.Fd.aa hU) v X;cases e;exact⟨b,c,h1,h2,h3⟩
 have Es:we (∀v (X:v<Z L) (U:wA),da w U ->∃bl cl,AJ U ⟨gb,s+v,O⟩=I (J bl L[v].length cl)/\aC U bl L[v]):=fun v X U hU=>by
  obtain⟨g,an,b,c,e,_,h1,h2⟩:=(h.pars.aa hU) v X;cases e;exact⟨b,c,h1,h2⟩
 have rL:we (∀v (X:v<Z R),∃g9 o9 cr,∀U:wA,da w U ->AJ U ⟨A,D+v,O⟩=I (J (I ⟨g9,o9,O⟩) R[v].length cr)/\dE U (I ⟨g9,o9,O⟩) R[v]):=fun v X=>by
  obtain⟨g,an,b,c,e,B7,h1,h2,_⟩:=h.rows v X;cases e;obtain⟨g9,o9,rfl,_⟩:=h2 0 (hr _ (bQ X)).1;exact⟨g9,o9,c,fun U hU=>⟨(hU.cell (p:=⟨A,D+v,O⟩) B7).trans h1,h2.aa hU⟩⟩
 have JB:we (gb<w.heap.size):=by
  obtain⟨g,an,b,c,e,B7,_⟩:=h.pars 0 al;cases e;exact B7
 have PX:we (∀v (X:v<Z V) (U:wA) (B2:Kd) (T:Nat),jU U B2 V[v].2 ->c6 84 #[J B2 V[v].2.length T] U fun e w'=>∃d cd,e=yk (J d V[v].2.length cd)/\jU w' d V[v].2/\V[v].2.length<=cd/\(∀g an,d=I ⟨g,an,O⟩ ->U.heap.size<=g)/\da U w'):=fun v br U B2 T hs=>alf B2 T _ U hs (X _ (bQ br)).1 (X _ (bQ br)).2;have lG:=Fa hl;have sZ:=Fa hr;have qZ:=Fa hL;have xP:=Fa hR;obtain⟨j0,bF,bJ,IJ,OB⟩:=eo Tryz.infoInts;obtain⟨k0,bN,II,Dr,bO⟩:=eo Tryz.infoFracs;have b4:Z L<=8:=al
 have IY:Z R<=8:=al
 have hA:qa w (AC (AC w (yd #[J (I ⟨t,z,O⟩) (Z V) ca,J (I ⟨gb,s,O⟩) (Z L) cb,J (I ⟨A,D,O⟩) (Z R) cc] 26)) (yd #[J O 0 0,J O 0 0,J O 0 0] 26)) (J (I ⟨t,z,O⟩) (Z V) ca) (J (I ⟨gb,s,O⟩) (Z L) cb) (J (I ⟨A,D,O⟩) (Z R) cc):=qa.begin w _ _ _;have aZ:w.heap.size+2<=(AC (AC w (yd #[J (I ⟨t,z,O⟩) (Z V) ca,J (I ⟨gb,s,O⟩) (Z L) cb,J (I ⟨A,D,O⟩) (Z R) cc] 26)) (yd #[J O 0 0,J O 0 0,J O 0 0] 26)).heap.size:=aE
 clear h hL hR X hl hr;go_enter func37,ntmps37;go_upto_region 1 with fail
 generalize (AC (AC w (yd #[J (I ⟨t,z,O⟩) (Z V) ca,J (I ⟨gb,s,O⟩) (Z L) cb,J (I ⟨A,D,O⟩) (Z R) cc] 26)) (yd #[J O 0 0,J O 0 0,J O 0 0] 26))=W0 at *;refine alZ (fun a0 e a' w'=>e=.normal/\∃(gm gv gp gr cv:Nat) (Xv:List wQ),a'=((((((((((((a0.put (I 8) (zZ (I ⟨w.heap.size,0,O⟩))).put (I 9) (J (I ⟨t,z,O⟩) (Z V) ca)).put (I 10) (J (I ⟨gv,0,O⟩) (Z V) cv)).put (I 11) (zZ (I ⟨w.heap.size,1,O⟩))).put (I 12) (J (I ⟨gb,s,O⟩) (Z L) cb)).put (I 13) (E yR (Z L:Nat))).put (I 14) (J (I ⟨gp,0,O⟩) (Z L) (Z L))).put (I 15) (zZ (I ⟨w.heap.size,2,O⟩))).put (I 16) (J (I ⟨A,D,O⟩) (Z R) cc)).put (I 17) (E yR (Z R:Nat))).put (I 18) (J (I ⟨gr,0,O⟩) (Z R) (Z R))).put (I 19) (zp #[J (I ⟨gv,0,O⟩) (Z V) cv,J (I ⟨gp,0,O⟩) (Z L) (Z L),J (I ⟨gr,0,O⟩) (Z R) (Z R)])).put (I 3) (zZ (I ⟨gm,0,O⟩))/\fk w gm gv gp gr cv (J (I ⟨t,z,O⟩) (Z V) ca) (J (I ⟨gb,s,O⟩) (Z L) cb) (J (I ⟨A,D,O⟩) (Z R) cc) V (nC 0 L) (nC 0 (cC R)) (Z L) (Z R) Xv (List.replicate (Z L) (J O 0 0)) (List.replicate (Z R) (J O 0 0)) w') ?_ ?_
 ·have HA:=Fa (hA.step (aw _ W0).drew);have U9:we (w.heap.size+2<=W0.drew.heap.size):=aZ;refine iD (S:=fun u=>AJ u ⟨w.heap.size,0,O⟩=I (J (I ⟨t,z,O⟩) (Z V) ca)/\u.cell? ⟨w.heap.size,1,O⟩=I (J (I ⟨gb,s,O⟩) (Z L) cb)/\u.cell? ⟨w.heap.size,2,O⟩=I (J (I ⟨A,D,O⟩) (Z R) cc)) ao HA.o.cells (fun B1=>?_);clear hA aZ;generalize W0.drew=u0 at *;refine au 0 (zZ (I ⟨w.heap.size,0,O⟩)) ?_;refine au 1 (J (I ⟨t,z,O⟩) (Z V) ca) ?_;refine au 3 (zZ (I ⟨w.heap.size,1,O⟩)) ?_;refine au 4 (J (I ⟨gb,s,O⟩) (Z L) cb) ?_;refine au 5 (E yR (Z L:Nat)) ?_;refine au 7 (zZ (I ⟨w.heap.size,2,O⟩)) ?_;refine au 8 (J (I ⟨A,D,O⟩) (Z R) cc) ?_;refine au 9 (E yR (Z R:Nat)) ?_;try simp only[gE,aP]
  refine Ri (fun F G Q=>∀(n:Nat) (l:Array Bool) (b6 i7 gP:Bool) (v10 v14 v18 v3:wQ) (u:wA),lH w u (J (I ⟨t,z,O⟩) (Z V) ca) (J (I ⟨gb,s,O⟩) (Z L) cb) (J (I ⟨A,D,O⟩) (Z R) cc) V (Z L) (Z R) x3 b6 i7 gP v10 v14 v18 v3 ->(∀(g cg:Nat) (u2:wA),lH w u2 (J (I ⟨t,z,O⟩) (Z V) ca) (J (I ⟨gb,s,O⟩) (Z L) cb) (J (I ⟨A,D,O⟩) (Z R) cc) V (Z L) (Z R) xq b6 i7 gP (J (I ⟨g,0,O⟩) (Z V) cg) v14 v18 v3 ->F n (l.setIfInBounds 2 xq) ((((Q.put (I 10) (J (I ⟨g,0,O⟩) (Z V) cg)).put (I 14) v14).put (I 18) v18).put (I 3) v3) u2) ->G n l ((((Q.put (I 10) v10).put (I 14) v14).put (I 18) v18).put (I 3) v3) u [2]) ?_ (fun s2=>?_)
  ·intro n l b6 i7 gP v10 v14 v18 v3 u o hn;have M:=o.a.cells;refine cA ?_ aH;intro B9 K;(try simp only[gE,aP]);go_simp;refine(pY.o _ o.a.bel).af ?_;rintro e u2 ⟨gv,cv,Xv,rfl,av,bC,ai,pz,iW,P⟩;have j:=(o.step P).done2 ai pz iW bC (aO o.m av);refine K.o _ _ j.a.cells (fun _=>?_);exact ij rfl (by rfl) (hn _ _ _ j)
  refine Ri (fun F G Q=>∀(n:Nat) (l:Array Bool) (b2 i7 gP:Bool) (v10 v14 v18 v3:wQ) (u:wA),lH w u (J (I ⟨t,z,O⟩) (Z V) ca) (J (I ⟨gb,s,O⟩) (Z L) cb) (J (I ⟨A,D,O⟩) (Z R) cc) V (Z L) (Z R) b2 x3 i7 gP v10 v14 v18 v3 ->(∀(g:Nat) (u2:wA),lH w u2 (J (I ⟨t,z,O⟩) (Z V) ca) (J (I ⟨gb,s,O⟩) (Z L) cb) (J (I ⟨A,D,O⟩) (Z R) cc) V (Z L) (Z R) b2 xq i7 gP v10 (J (I ⟨g,0,O⟩) (Z L) (Z L)) v18 v3 ->F n (l.setIfInBounds 6 xq) ((((Q.put (I 10) v10).put (I 14) (J (I ⟨g,0,O⟩) (Z L) (Z L))).put (I 18) v18).put (I 3) v3) u2) ->G n l ((((Q.put (I 10) v10).put (I 14) v14).put (I 18) v18).put (I 3) v3) u [6]) ?_ (fun s6=>?_)
  ·intro n l b2 i7 gP v10 v14 v18 v3 u o hn;have M:=o.a.cells;refine cA ?_ aH;intro B9 K;(try simp only[gE,aP]);rw[aA (by rfl)];refine abG u _ _ 23 rfl u.heap.size 27 j0 (J O 0 0) 1 underlying23 bF bJ IJ yR yR _ _ (Z L) rfl rfl rfl rfl (by rw[OB];omega) (by unfold maxLen;omega) (ak _) ?_;intro u2 bb bf;have ai:=sR bb;rw[Sx] at ai;have j:=(o.step ((aw _ _).grown bf (ak _) (fun k e=>by cases e))).done6 ai o.m;refine K.o _ _ j.a.cells (fun _=>?_);exact ij rfl (by rfl) (hn _ _ j)
  refine Ri (fun F G Q=>∀(n:Nat) (l:Array Bool) (b2 b6 gP:Bool) (v10 v14 v18 v3:wQ) (u:wA),lH w u (J (I ⟨t,z,O⟩) (Z V) ca) (J (I ⟨gb,s,O⟩) (Z L) cb) (J (I ⟨A,D,O⟩) (Z R) cc) V (Z L) (Z R) b2 b6 x3 gP v10 v14 v18 v3 ->(∀(g:Nat) (u2:wA),lH w u2 (J (I ⟨t,z,O⟩) (Z V) ca) (J (I ⟨gb,s,O⟩) (Z L) cb) (J (I ⟨A,D,O⟩) (Z R) cc) V (Z L) (Z R) b2 b6 xq gP v10 v14 (J (I ⟨g,0,O⟩) (Z R) (Z R)) v3 ->F n (l.setIfInBounds 10 xq) ((((Q.put (I 10) v10).put (I 14) v14).put (I 18) (J (I ⟨g,0,O⟩) (Z R) (Z R))).put (I 3) v3) u2) ->G n l ((((Q.put (I 10) v10).put (I 14) v14).put (I 18) v18).put (I 3) v3) u [10]) ?_ (fun vg=>?_)
  ·intro n l b2 b6 gP v10 v14 v18 v3 u o hn;have M:=o.a.cells;refine cA ?_ aH;intro B9 K;(try simp only[gE,aP]);rw[aA (by rfl)];refine abG u _ _ 24 rfl u.heap.size 36 k0 (J O 0 0) 1 underlying24 bN II Dr yR yR _ _ (Z R) rfl rfl rfl rfl (by rw[bO];omega) (by unfold maxLen;omega) (ak _) ?_;intro u2 bb bf;have ai:=sR bb;rw[Sx] at ai;have j:=(o.step ((aw _ _).grown bf (ak _) (fun k e=>by cases e))).done10 ai o.m;refine K.o _ _ j.a.cells (fun _=>?_);exact ij rfl (by rfl) (hn _ _ j)
  refine Ri (fun F G Q=>∀(n:Nat) (l:Array Bool) (b2 b6 i7:Bool) (v10 v14 v18 v3:wQ) (u:wA),lH w u (J (I ⟨t,z,O⟩) (Z V) ca) (J (I ⟨gb,s,O⟩) (Z L) cb) (J (I ⟨A,D,O⟩) (Z R) cc) V (Z L) (Z R) b2 b6 i7 x3 v10 v14 v18 v3 ->(∀(g:Nat) (u2:wA),lH w u2 (J (I ⟨t,z,O⟩) (Z V) ca) (J (I ⟨gb,s,O⟩) (Z L) cb) (J (I ⟨A,D,O⟩) (Z R) cc) V (Z L) (Z R) b2 b6 i7 xq v10 v14 v18 (zZ (I ⟨g,0,O⟩)) ->F n (l.setIfInBounds 12 xq) ((((Q.put (I 10) v10).put (I 14) v14).put (I 18) v18).put (I 3) (zZ (I ⟨g,0,O⟩))) u2) ->G n l ((((Q.put (I 10) v10).put (I 14) v14).put (I 18) v18).put (I 3) v3) u [12]) ?_ (fun ae=>?_)
  ·intro n l b2 b6 i7 v10 v14 v18 v3 u o hn;have M:=o.a.cells;refine cA ?_ aH;intro B9 K;(try simp only[gE,aP]);go_simp;have j:=(o.step ((aw _ u).alloc (ak _) (yd #[J O 0 0,J O 0 0,J O 0 0] 26))).done12 (bZ.at (w:=u) rfl (J O 0 0) (J O 0 0) (J O 0 0)) o.m;refine K.o _ _ j.a.cells (fun _=>?_);exact ij rfl (by rfl) (hn _ _ j)
  refine abT (fun F Q=>∀(gP:Bool) (v10 v14 v18 v3:wQ) (u:wA),lH w u (J (I ⟨t,z,O⟩) (Z V) ca) (J (I ⟨gb,s,O⟩) (Z L) cb) (J (I ⟨A,D,O⟩) (Z R) cc) V (Z L) (Z R) xq xq xq gP v10 v14 v18 v3 ->∀n,gH gP+2=n ->F n (#[xq,xq,xq,xq,xq,xq,xq,xq,xq,xq,xq,x3,gP,x3]) ((((Q.put (I 10) v10).put (I 14) v14).put (I 18) v18).put (I 3) v3) u) ?_ (fun ht=>?_)
  ·intro gP v10 v14 v18 v3 u o n hn;subst hn;have M:=o.a.cells;obtain⟨gv,cv,Xv,rfl,g1,g2,g3,g4,g5⟩:=o.f2 rfl;obtain⟨gp,rfl,p1,p2⟩:=o.f6 rfl;obtain⟨gr,rfl,r1,r2⟩:=o.f10 rfl;try simp only[gE,aP]
   cases gP
   focus
    show wpAnyH _ _ _ _ _ 3 _ _ _;refine au 11 ((zp #[J (I ⟨gv,0,O⟩) (Z V) cv,J (I ⟨gp,0,O⟩) (Z L) (Z L),J (I ⟨gr,0,O⟩) (Z R) (Z R)])) ?_;refine aG [12] (cA ?_ aH);intro B9 K;go_simp;have P:da u (AC u (yd #[J O 0 0,J O 0 0,J O 0 0] 26)):=(aw _ u).alloc (ak _) _;have az:=o.step P;have m1:=bZ.at (w:=u) rfl (J O 0 0) (J O 0 0) (J O 0 0);replace g1:sV _ gv Xv:=(P.block _ g1.lt).trans g1;replace p1:jV _ gp _:=(P.block _ p1.lt).trans p1;replace r1:qT _ gr _:=(P.block _ r1.lt).trans r1;have m2:=o.m;obtain⟨gm,aR⟩:∃g,u.heap.size=g:=⟨_,rfl⟩;obtain⟨u2,fM⟩:∃x,AC u (yd #[J O 0 0,J O 0 0,J O 0 0] 26)=x:=⟨_,rfl⟩;simp only[NC] at m1;rw[aR] at m1 m2;rw[fM] at m1 az g1 p1 r1;simp only[fM,aR];refine K.o _ _ az.a.cells (fun Y=>?_);clear K B9 P aR fM M;(try simp only[gE]);(try simp only[List.setIfInBounds_toArray,CR,VQ])
    have HF:=Fa (ahZ az.a m1 g1 p1 r1 g2 g3 g4 m2 g5 p2 r2)
   rotate_left
   focus
    show wpAnyH _ _ _ _ _ 2 _ _ _;obtain⟨gm,rfl,m1,m2⟩:=o.f12 rfl;refine au 11 ((zp #[J (I ⟨gv,0,O⟩) (Z V) cv,J (I ⟨gp,0,O⟩) (Z L) (Z L),J (I ⟨gr,0,O⟩) (Z R) (Z R)])) ?_;have HF:=Fa (ahZ o.a m1 g1 p1 r1 g2 g3 g4 m2 g5 p2 r2)
   all_goals
    obtain⟨q4,q5,q6⟩:=bZ.cells m1;have q1:=eA _ gm 0 _ _ m1;have q2:=eA _ gm 1 _ _ m1;have q3:=eA _ gm 2 _ _ m1;refine aG [13] (cA ?_ aH);intro B9 K;go_simp;refine K.o _ _ HF.o.a.cells (fun _=>eV ao ?_ _);exact⟨rfl,gm,gv,gp,gr,cv,Xv,by rfl,HF.o⟩
  refine abT (fun F Q=>∀(k:Nat) (b2 b6 i7 gP:Bool) (v10 v14 v18 v3:wQ) (u:wA),lH w u (J (I ⟨t,z,O⟩) (Z V) ca) (J (I ⟨gb,s,O⟩) (Z L) cb) (J (I ⟨A,D,O⟩) (Z R) cc) V (Z L) (Z R) b2 b6 i7 gP v10 v14 v18 v3 ->gH b2+gH b6+gH i7+gH gP=k ->F (k+2) (#[xq,xq,b2,xq,xq,xq,b6,xq,xq,xq,i7,x3,gP,x3]) ((((Q.put (I 10) v10).put (I 14) v14).put (I 18) v18).put (I 3) v3) u) ?_ (fun b0=>?_)
  ·intro k;induction k with
   |zero=>
    intro b2 b6 i7 gP v10 v14 v18 v3 u o q
    obtain⟨rfl,rfl,rfl,rfl⟩:b2=xq/\b6=xq/\i7=xq/\gP=true:=by
     cases b2<;>cases b6<;>cases i7<;>cases gP<;>simp[gH] at q⊢
    exact ht _ _ _ _ _ _ o _ rfl
   |succ k ih=>
    intro b2 b6 i7 gP v10 v14 v18 v3 u o q;cases b2<;>cases b6<;>cases i7<;>cases gP
    ·exact aG [2,6,10,12] (r6 (s2 _ _ _ _ _ _ _ _ _ _ o fun _ _ _ j=>ij (by rfl) rfl (ih _ _ _ _ _ _ _ _ _ j (by simp only[gH] at q⊢;omega))) (r6 (s6 _ _ _ _ _ _ _ _ _ _ o fun _ _ j=>ij (by rfl) rfl (ih _ _ _ _ _ _ _ _ _ j (by simp only[gH] at q⊢;omega))) (r6 (vg _ _ _ _ _ _ _ _ _ _ o fun _ _ j=>ij (by rfl) rfl (ih _ _ _ _ _ _ _ _ _ j (by simp only[gH] at q⊢;omega))) (ae _ _ _ _ _ _ _ _ _ _ o fun _ _ j=>ij (by rfl) rfl (ih _ _ _ _ _ _ _ _ _ j (by simp only[gH] at q⊢;omega))))))
    ·exact aG [2,6,10] (r6 (s2 _ _ _ _ _ _ _ _ _ _ o fun _ _ _ j=>ij (by rfl) rfl (ih _ _ _ _ _ _ _ _ _ j (by simp only[gH] at q⊢;omega))) (r6 (s6 _ _ _ _ _ _ _ _ _ _ o fun _ _ j=>ij (by rfl) rfl (ih _ _ _ _ _ _ _ _ _ j (by simp only[gH] at q⊢;omega))) (vg _ _ _ _ _ _ _ _ _ _ o fun _ _ j=>ij (by rfl) rfl (ih _ _ _ _ _ _ _ _ _ j (by simp only[gH] at q⊢;omega)))))
    ·exact aG [2,6,12] (r6 (s2 _ _ _ _ _ _ _ _ _ _ o fun _ _ _ j=>ij (by rfl) rfl (ih _ _ _ _ _ _ _ _ _ j (by simp only[gH] at q⊢;omega))) (r6 (s6 _ _ _ _ _ _ _ _ _ _ o fun _ _ j=>ij (by rfl) rfl (ih _ _ _ _ _ _ _ _ _ j (by simp only[gH] at q⊢;omega))) (ae _ _ _ _ _ _ _ _ _ _ o fun _ _ j=>ij (by rfl) rfl (ih _ _ _ _ _ _ _ _ _ j (by simp only[gH] at q⊢;omega)))))
    ·exact aG [2,6] (r6 (s2 _ _ _ _ _ _ _ _ _ _ o fun _ _ _ j=>ij (by rfl) rfl (ih _ _ _ _ _ _ _ _ _ j (by simp only[gH] at q⊢;omega))) (s6 _ _ _ _ _ _ _ _ _ _ o fun _ _ j=>ij (by rfl) rfl (ih _ _ _ _ _ _ _ _ _ j (by simp only[gH] at q⊢;omega))))
    ·exact aG [2,10,12] (r6 (s2 _ _ _ _ _ _ _ _ _ _ o fun _ _ _ j=>ij (by rfl) rfl (ih _ _ _ _ _ _ _ _ _ j (by simp only[gH] at q⊢;omega))) (r6 (vg _ _ _ _ _ _ _ _ _ _ o fun _ _ j=>ij (by rfl) rfl (ih _ _ _ _ _ _ _ _ _ j (by simp only[gH] at q⊢;omega))) (ae _ _ _ _ _ _ _ _ _ _ o fun _ _ j=>ij (by rfl) rfl (ih _ _ _ _ _ _ _ _ _ j (by simp only[gH] at q⊢;omega)))))
    ·exact aG [2,10] (r6 (s2 _ _ _ _ _ _ _ _ _ _ o fun _ _ _ j=>ij (by rfl) rfl (ih _ _ _ _ _ _ _ _ _ j (by simp only[gH] at q⊢;omega))) (vg _ _ _ _ _ _ _ _ _ _ o fun _ _ j=>ij (by rfl) rfl (ih _ _ _ _ _ _ _ _ _ j (by simp only[gH] at q⊢;omega))))
    ·exact aG [2,12] (r6 (s2 _ _ _ _ _ _ _ _ _ _ o fun _ _ _ j=>ij (by rfl) rfl (ih _ _ _ _ _ _ _ _ _ j (by simp only[gH] at q⊢;omega))) (ae _ _ _ _ _ _ _ _ _ _ o fun _ _ j=>ij (by rfl) rfl (ih _ _ _ _ _ _ _ _ _ j (by simp only[gH] at q⊢;omega))))
    ·exact aG [2] (s2 _ _ _ _ _ _ _ _ _ _ o fun _ _ _ j=>ij (by rfl) rfl (ih _ _ _ _ _ _ _ _ _ j (by simp only[gH] at q⊢;omega)))
    ·exact aG [6,10,12] (r6 (s6 _ _ _ _ _ _ _ _ _ _ o fun _ _ j=>ij (by rfl) rfl (ih _ _ _ _ _ _ _ _ _ j (by simp only[gH] at q⊢;omega))) (r6 (vg _ _ _ _ _ _ _ _ _ _ o fun _ _ j=>ij (by rfl) rfl (ih _ _ _ _ _ _ _ _ _ j (by simp only[gH] at q⊢;omega))) (ae _ _ _ _ _ _ _ _ _ _ o fun _ _ j=>ij (by rfl) rfl (ih _ _ _ _ _ _ _ _ _ j (by simp only[gH] at q⊢;omega)))))
    ·exact aG [6,10] (r6 (s6 _ _ _ _ _ _ _ _ _ _ o fun _ _ j=>ij (by rfl) rfl (ih _ _ _ _ _ _ _ _ _ j (by simp only[gH] at q⊢;omega))) (vg _ _ _ _ _ _ _ _ _ _ o fun _ _ j=>ij (by rfl) rfl (ih _ _ _ _ _ _ _ _ _ j (by simp only[gH] at q⊢;omega))))
    ·exact aG [6,12] (r6 (s6 _ _ _ _ _ _ _ _ _ _ o fun _ _ j=>ij (by rfl) rfl (ih _ _ _ _ _ _ _ _ _ j (by simp only[gH] at q⊢;omega))) (ae _ _ _ _ _ _ _ _ _ _ o fun _ _ j=>ij (by rfl) rfl (ih _ _ _ _ _ _ _ _ _ j (by simp only[gH] at q⊢;omega))))
    ·exact aG [6] (s6 _ _ _ _ _ _ _ _ _ _ o fun _ _ j=>ij (by rfl) rfl (ih _ _ _ _ _ _ _ _ _ j (by simp only[gH] at q⊢;omega)))
    ·exact aG [10,12] (r6 (vg _ _ _ _ _ _ _ _ _ _ o fun _ _ j=>ij (by rfl) rfl (ih _ _ _ _ _ _ _ _ _ j (by simp only[gH] at q⊢;omega))) (ae _ _ _ _ _ _ _ _ _ _ o fun _ _ j=>ij (by rfl) rfl (ih _ _ _ _ _ _ _ _ _ j (by simp only[gH] at q⊢;omega))))
    ·exact aG [10] (vg _ _ _ _ _ _ _ _ _ _ o fun _ _ j=>ij (by rfl) rfl (ih _ _ _ _ _ _ _ _ _ j (by simp only[gH] at q⊢;omega)))
    ·exact ht _ _ _ _ _ _ o _ (by simp only[gH] at q⊢;omega)
    ·exact absurd q (by simp[gH])
  exact ij (by rfl) (by rfl) (b0 4 x3 x3 x3 x3 wd wd wd wd _ ⟨HA.o,U9.o,(fun e=>by cases e),(fun e=>by cases e),(fun e=>by cases e),(fun e=>by cases e)⟩ rfl)
 ·rintro e a' w1 ⟨rfl,gm,gv,gp,gr,cv,b1,rfl,hs⟩;clear hA aZ pY;have lF:=Fa hs;clear hs;try simp only[List.setIfInBounds_toArray,CR,VQ]
  obtain⟨i0,i1,i2⟩:=lF.o.a.cells;have Ef:we (∀k,0<=k ->k<Z R ->(List.replicate (Z R) (Value.slice O 0 0))[k]? =I (J O 0 0)):=fun k _ q=>by rw[JW,aA q]
  go_wp2_with fail
  go_loopw [23] (fun kv wr=>∃(v:Nat) (Xv Xp Xr:List wQ),v<=Z V/\kv=E yR v/\we (fk w gm gv gp gr cv (J (I ⟨t,z,O⟩) (Z V) ca) (J (I ⟨gb,s,O⟩) (Z L) cb) (J (I ⟨A,D,O⟩) (Z R) cc) V (nC v L) (nC v (cC R)) (Z L) (Z R) Xv Xp Xr wr)/\we (∀k,v<=k ->k<Z R ->Xr[k]? =I (J O 0 0))) (fun kv _=>Z V - (intOf kv).toNat)
  case atStart=>exact⟨0,_,_,_,aX _,rfl,lF,Ef⟩
  case round=>
   obtain⟨v,Xv,Xp,Xr,iJ,rfl,H,HX⟩:=hrel;clear lF Ef i0 i1 i2;by_cases ad:v<Z V
   ·replace iJ:=ad;(have gM:v<Z L:=by have:=qZ.o;omega);(have Fw:v<Z R:=by have:=xP.o;omega);obtain⟨B2,T,c0,c1,aj⟩:=Cj.o v iJ wr H.o.a.bel;have QA:=Fa (fun (U:wA) (hU:jU U B2 V[v].2)=>PX.o v iJ U B2 T hU);obtain⟨vs,eH⟩:∃x,V[v].2=x:=⟨_,rfl⟩;obtain⟨nm,Om⟩:∃x,V[v].1=x:=⟨_,rfl⟩;rw[eH] at QA c1 aj;rw[Om] at c0;have uN:=Fa eH;have aJ:da wr (AC wr (yd #[zX nm,J B2 (Z vs) T] 60)).drew:=((aw _ wr).alloc (ak _) _).drew;have Dt:(AC wr (yd #[zX nm,J B2 (Z vs) T] 60)).drew.heap[wr.heap.size]? =I (yd #[zX nm,J B2 (Z vs) T] 60 (0,0)):=dU wr _;(have aW:wr.heap.size≠gv:=by have:=H.o.lts;omega);obtain⟨g5,B7⟩:∃g,wr.heap.size=g:=⟨_,rfl⟩;rw[B7] at Dt aW;have bz:=Fa (aj.aa aJ);have iw:=Fa (H.o.step aJ);have q7:=Fa Dt;have GP:=Fa aW;have y7:=Fa B7;clear aj aJ Dt aW B7 eH Om H ad;go_upto_region 5 with fail
    simp only[y7.o];refine iD (S:=fun u=>AJ u ⟨gm,0,O⟩=I (J (I ⟨gv,0,O⟩) (Z V) cv)/\u.cell? ⟨g5,1,O⟩=I (J B2 (Z vs) T)) ao ⟨iw.o.box.cells.1,by rw[a8 _ g5 1 _ _ (0,0) q7.o];rfl⟩ (fun B1=>?_);clear c0 c1 y7;have H:=Fa iw.o;clear iw;generalize (AC wr (yd #[zX nm,J B2 (Z vs) T] 60)).drew=z1 at *;refine au 0 (zZ (I ⟨gm,0,O⟩)) ?_;refine au 1 (J (I ⟨gv,0,O⟩) (Z V) cv) ?_;refine au 2 (E yR (v:Nat)) ?_;refine au 3 (zZ (I ⟨g5,1,O⟩)) ?_;refine au 4 (J B2 (Z vs) T) ?_;refine aG [5] (cA ?_ aH);intro B9 K;go_simp;refine(QA.o _ bz.o).af ?_;rintro e z2 ⟨d,cd,rfl,aj,zV,av,P⟩;have hB:=H.o.lts;have cj:=H.o.a.res.lt;replace H:=Fa (H.o.step P);replace q7:=Fa ((P.block _ (c5.1 q7.o).1).trans q7.o);have mO:=Fa (H.o.setVn iJ uN.o aj zV av hB cj);have El:we (AJ z2 ⟨gm,0,O⟩=I (J (I ⟨gv,0,O⟩) (Z V) cv)/\z2.cell? ⟨g5,1,O⟩=I (J B2 (Z vs) T)):=⟨H.o.box.cells.1,by rw[a8 z2 g5 1 _ _ (0,0) q7.o];rfl⟩;refine K.o _ _ El.o (fun Y=>?_);clear K B9 B1 aj zV av P hB cj;obtain⟨⟨qy,q0⟩,q1⟩:=H.o.cellV iJ;refine au 6 (zZ (I ⟨gv,v*2,O⟩)) ?_;refine au 7 (zZ (I ⟨gv,v*2+1,O⟩)) ?_;refine aG [8] (cA ?_ aH);intro B9 K;go_simp;have Vk:we ((AF z2 ⟨gv,v*2+1,O⟩ (J d (Z vs) cd)).heap[g5]? =I (yd #[zX nm,J B2 (Z vs) T] 60 (0,0))):=(eO z2 ⟨gv,_,O⟩ _ g5 GP.o).trans q7.o
    refine K.o _ _ ⟨mO.o.box.cells.1,by rw[a8 _ g5 1 _ _ (0,0) Vk.o];rfl⟩ (fun DC=>?_);clear K B9 Y DC q0 q1 El q7 Vk H;generalize (AF z2 ⟨gv,v*2+1,O⟩ (J d (Z vs) cd))=z3 at *;(try simp only[gE,aP]);refine eV ao ?_ _;obtain⟨bl,cl,bo,pG⟩:=Es.o v gM z3 mO.o.a.bel;have rK:=Fa (mO.o.step (aw _ z3).drew);have bw:=Fa (pG.aa (aw _ z3).drew);have QF:we (AJ z3.drew ⟨gb,s+v,O⟩=I (J bl L[v].length cl)):=bo;clear bo pG mO;go_upto_region 6 with fail
    refine iD (S:=fun u=>AJ u ⟨gm,1,O⟩=I (J (I ⟨gp,0,O⟩) (Z L) (Z L))/\u.cell? ⟨w.heap.size,1,O⟩=I (J (I ⟨gb,s,O⟩) (Z L) cb)/\u.cell? ⟨gb,s+v,O⟩=I (J bl L[v].length cl)) ao ⟨rK.o.box.cells.2.1,rK.o.a.cells.2.1,QF.o⟩ (fun B1=>?_);generalize z3.drew=z4 at *;refine au 0 (zZ (I ⟨gm,1,O⟩)) ?_;refine au 1 (J (I ⟨gp,0,O⟩) (Z L) (Z L)) ?_;refine au 2 (E yR (v:Nat)) ?_;refine au 3 (zZ (I ⟨w.heap.size,1,O⟩)) ?_;refine au 4 (J (I ⟨gb,s,O⟩) (Z L) cb) ?_;refine au 5 (E yR (v:Nat)) ?_;refine au 6 (zZ (I ⟨gb,s+v,O⟩)) ?_;refine au 7 (J bl L[v].length cl) ?_;refine aG [8] (cA ?_ aH);intro B9 K;go_simp;refine(Kq bl cl L[v] _ bw.o (by have:=lG.o L[v] (bQ gM);omega)).af ?_;rintro e z5 ⟨vv,rfl,S5,P⟩;obtain⟨d2,Ul,rfl,nL,iX,bm⟩:=bS.ints3 S5;have bp:=aT JB.o rK.o.a.bel.size;have hB:=rK.o.lts;have cj:=rK.o.a.res.lt;replace rK:=Fa (rK.o.step P);have mO:=Fa (rK.o.setP (k:=v) nL iX (Sk bm fun g B7=>by simp only[bU,gw,jf] at B7;omega));have wj:we (AJ z5 ⟨gm,1,O⟩=I (J (I ⟨gp,0,O⟩) (Z L) (Z L))/\z5.cell? ⟨w.heap.size,1,O⟩=I (J (I ⟨gb,s,O⟩) (Z L) cb)/\z5.cell? ⟨gb,s+v,O⟩=I (J bl L[v].length cl)):=⟨rK.o.box.cells.2.1,rK.o.a.cells.2.1,(P.cell (p:=⟨gb,s+v,O⟩) bp).trans QF.o⟩;refine K.o _ _ wj.o (fun Y=>?_);clear K B9 B1 S5 nL iX bm P hB bp cj
    obtain⟨⟨qy,q0⟩,q1⟩:=rK.o.cellP gM;refine au 9 (zZ (I ⟨gp,v,O⟩)) ?_;refine aG [10] (cA ?_ aH);intro B9 K;go_simp;refine K.o _ _ ⟨mO.o.box.cells.2.1,mO.o.a.cells.2.1,(iE (eO z5 ⟨gp,v,O⟩ _ gb (by have:=rK.o.low;have:=JB.o;show gb≠gp;omega))).trans wj.o.2.2⟩ (fun DC=>?_);clear K B9 Y DC q0 q1 wj rK QF;generalize (AF z5 ⟨gp,v,O⟩ (J d2 L[v].length Ul))=z6 at *;(try simp only[gE,aP]);refine eV ao ?_ _;obtain⟨g9,o9,cr,BO⟩:=rL.o v Fw;have K7:=sZ.o R[v] (bQ Fw);have pE:∃h:v<Z (cC R),(cC R)[v]=R[v].map lT:=⟨by rw[cC,dm];exact Fw,by simp[cC]⟩;obtain⟨rs,FM⟩:∃x,R[v]=x:=⟨_,rfl⟩;rw[FM] at K7 pE;simp only[FM] at BO;have Em:=Fa BO;have Qp:=Fa pE;have Qb:=Fa K7;have JA:=Fa (mO.o.into (HX.o v (ak _) Fw));have dO:=Fa mO.o;obtain⟨m0,m1,m2⟩:=dO.o.a.cells;have m3:=(Em.o _ dO.o.a.bel).1;(have b3:(v:Int)<(Z R:Int):=al);clear BO FM K7 pE mO QA;go_wp2_with fail
    go_loopw [52] (fun iv wr=>∃(i:Nat) (dx:Kd) (cx:Nat),i<=Z rs/\iv=E yR i/\we (xW gr v Xr (J dx i cx) ((rs.take i).map lT) z6 wr)) (fun iv _=>Z rs - (intOf iv).toNat)
    case atStart=>exact⟨0,O,0,aX _,rfl,by rw[QT];exact JA⟩
    case round=>
     obtain⟨i,dx,cx,hi,rfl,HI⟩:=hrel;clear JA m0 m1 m2 m3;(have BX:da w wr:=HI.o.keep.low dO.o.a.bel fun g B7=>by rw[bD.1 B7];have:=dO.o.low;omega);by_cases ad:i<Z rs
     ·obtain⟨g',o',e',fE,c0,c1,c2⟩:=(Em.o wr BX).2 i ad;cases e'
      have P7:we ((rs.take (i+1)).map lT=(rs.take i).map lT++[lT rs[i]]):=by
       show _=_;rw[ig ad,gK];rfl
      (have Ej:we (Z ((rs.take i).map lT)=i):=by show _=_;rw[dm,eZ];omega);have Du:=Qb.o.2.2 rs[i] (bQ ad);(have Th:i<5000:=by have:=Qb.o;omega);obtain⟨f,hf⟩:∃f,rs[i]=f:=⟨_,rfl⟩;rw[hf] at P7 Du c0 c1 c2;obtain⟨fn,fx,fy⟩:=f;have mQ:=Fa (fun (U:wA)=>VB (n:=fn) (x:=fx) (y:=fy) (w:=U) (bj (fn,fx,fy)) rfl (by have:fx.size+fy.size<=50000:=Du;omega));have Qr:we (lT (fn,fx,fy)=(aV (bj (fn,fx,fy)),nu (bj (fn,fx,fy)),de (bj (fn,fx,fy)))):=rfl;generalize bj (fn,fx,fy)=ab at *;have aJ:da wr (AC wr (yd #[zd fn,zX fx,zX fy] 63)).drew:=((aw _ wr).alloc (ak _) _).drew;have bt:aL (AC wr (yd #[zd fn,zX fx,zX fy] 63)).drew wr.heap.size fn fx fy:=aL.new wr fn fx fy;obtain⟨gf,yF⟩:∃g,wr.heap.size=g:=⟨_,rfl⟩;rw[yF] at bt;have Vi:=Fa yF;(have bg:we (z6.heap.size<=gf):=by rw[<- yF];exact HI.o.keep.size);(have bk:we (∀k,(Value.slice dx i cx).ownBlock=I k ->k<gf):=fun k q=>by rw[<- yF];exact HI.o.own.old q);have GZ:=Fa (HI.o.step aJ);have bT:=Fa bt;clear aJ bt yF Du BX HI;go_upto_region 10 with fail
      simp only[Vi.o];have B6:we (tq gm gr v (Z R) gf Xr dx i cx ((rs.take i).map lT) fn fx fy z6 (AC wr (yd #[zd fn,zX fx,zX fy] 63)).drew):=tq.mk' GZ.o bT.o dO.o.boxR dO.o.rlen bg.o bk.o;clear GZ bT c0 c1 c2 fE hf Vi bg bk;refine abE 13 (fun (b':Bool) (u:wA)=>((AJ u ⟨gm,2,O⟩=I (J (I ⟨gr,0,O⟩) (Z R) (Z R)))/\u.cell? ⟨gf,0,O⟩=I (zd fn)/\u.cell? ⟨gf,1,O⟩=I (zX fx)/\u.cell? ⟨gf,2,O⟩=I (zX fy))/\(b'=x3 ->AJ u ⟨gr,v,O⟩=I (J dx i cx))) ao ⟨B6.o.cells,fun _=>B6.o.at' Fw⟩ (fun B1=>?_);generalize (AC wr (yd #[zd fn,zX fx,zX fy] 63)).drew=y0 at *;refine qo (i:=0) (oi:=_) (v:=zZ (I ⟨gm,2,O⟩)) (b:=x3) rfl ao ao ao a6 (fun _ _ _ h=>h) (Or.inl ⟨by rfl,?_⟩) ao b5 ?_
      ·intro u' M;go_simp
      (try simp only[gE,aP]);refine qo (i:=1) (oi:=_) (v:=J (I ⟨gr,0,O⟩) (Z R) (Z R)) (b:=x3) rfl ao ao ao a6 (fun _ _ _ h=>h) (Or.inl ⟨by rfl,?_⟩) ao b5 ?_
      ·intro u' M;(try simp only[gE]);obtain⟨_,⟨s1,s2,s3,s4⟩,_⟩:=M;go_simp
      (try simp only[gE,aP]);refine qo (i:=2) (oi:=_) (v:=E yR (v:Nat)) (b:=x3) rfl ao ao ao a6 (fun _ _ _ h=>h) (Or.inl ⟨by rfl,?_⟩) ao b5 ?_
      ·intro u' M;go_simp
      (try simp only[gE,aP]);refine qo (i:=3) (oi:=_) (v:=zZ (I ⟨gm,2,O⟩)) (b:=x3) rfl ao ao ao a6 (fun _ _ _ h=>h) (Or.inl ⟨by rfl,?_⟩) ao b5 ?_
      ·intro u' M;go_simp
      (try simp only[gE,aP]);refine qo (i:=4) (oi:=_) (v:=J (I ⟨gr,0,O⟩) (Z R) (Z R)) (b:=x3) rfl ao ao ao a6 (fun _ _ _ h=>h) (Or.inl ⟨by rfl,?_⟩) ao b5 ?_
      ·intro u' M;(try simp only[gE]);obtain⟨_,⟨s1,s2,s3,s4⟩,_⟩:=M;go_simp
      (try simp only[gE,aP]);refine qo (i:=5) (oi:=_) (v:=E yR (v:Nat)) (b:=x3) rfl ao ao ao a6 (fun _ _ _ h=>h) (Or.inl ⟨by rfl,?_⟩) ao b5 ?_
      ·intro u' M;go_simp
      (try simp only[gE,aP]);refine qo (i:=6) (oi:=_) (v:=zZ (I ⟨gr,v,O⟩)) (b:=x3) rfl ao ao ao a6 (fun _ _ _ h=>h) (Or.inl ⟨by rfl,?_⟩) ao b5 ?_
      ·intro u' M;go_simp
      (try simp only[gE,aP]);refine V6 (i:=7) (oi:=_) (v:=J dx i cx) rfl ao ao ao a6 rfl ao (fun _ _ _ h=>h) (Or.inl ⟨by rfl,?_⟩) ao b5 ?_
      ·intro u' M;(try simp only[gE]);obtain⟨s1,s5⟩:=M;have s6:=s5 rfl;go_simp
      (try simp only[gE,aP]);refine qo (i:=8) (oi:=_) (v:=zp #[zd fn,zX fx,zX fy]) (b:=x3) rfl ao ao ao a6 (fun _ _ _ h=>h) (Or.inl ⟨by rfl,?_⟩) ao b5 ?_
      ·intro u' M;(try simp only[gE]);obtain⟨_,⟨s1,s2,s3,s4⟩,_⟩:=M;go_simp
      (try simp only[gE,aP]);refine qp (rs:=[9]) ao aE (fp.cons (b:=x3) rfl ao ?_ (fp.nil));intro B9 K;go_simp;refine(mQ.o _).af ?_;rintro e y1 ⟨rfl,P⟩;replace B6:=Fa (B6.o.step P);clear P;refine K.o _ _ ⟨B6.o.cells,fun _=>B6.o.at' Fw⟩ (fun Y=>?_);clear K B9 B1;have B1:=Y;clear Y;(try simp only[gE,aP]);refine qp (rs:=[10]) ao aE (fp.cons (b:=x3) rfl ao ?_ (fp.nil));intro B9 K;go_simp;have aJ:=(aw y1.heap.size y1).alloc (ak _) (FC (aV ab) (nu ab) (de ab));have HY:=Fa (aL.new y1 (aV ab) (nu ab) (de ab));replace B6:=Fa (B6.o.step aJ);clear aJ;refine K.o _ _ ⟨B6.o.cells,fun _=>B6.o.at' Fw⟩ (fun Y=>?_);clear K B9 B1;have B1:=Y;clear Y;obtain⟨gy,sK⟩:∃x,y1.heap.size=x:=⟨_,rfl⟩;obtain⟨y2,hV⟩:∃x,y1.alloc (FC (aV ab) (nu ab) (de ab))=x:=⟨_,rfl⟩;rw[sK] at HY;rw[hV] at HY B6 B1;simp only[hV];simp only[sK];clear sK hV;(try simp only[gE,aP]);refine qp (rs:=[11]) ao aE (fp.cons (b:=x3) rfl ao ?_ (fp.nil));intro B9 K;rw[aA (by rfl)];refine ajC _ _ rfl z6.heap.size (J dx i cx) ((rs.take i).map lT) (aV ab,nu ab,de ab) rfl B6.o.ci.own gy rfl HY.o (by rw[Ej.o];have:=Qb.o;omega) B6.o.ci.keep.size ?_;intro v2 y3 FN xg;obtain⟨d8,n8,c8,rfl⟩:=FN.slv
      have en:n8=i+1:=by
       have:=FN.len_of;rw[cD,Ej.o] at this;exact this
      subst en;obtain⟨YJ,YU⟩:=B6.o.ci.push dO.o.lts.2.2 xg (by rw[<- Qr.o] at FN;exact FN);rw[<- P7.o] at YU;have xO:=Fa YJ;have bu:=Fa YU;have Vu:=Fa (B6.o.after xg);have ay:we (AJ y3 ⟨gr,v,O⟩=I (J dx i cx)):=B6.o.rowat Fw YJ;refine K.o _ _ ⟨Vu.o,fun _=>ay.o⟩ (fun Y=>?_);have QC:=Fa (B6.o.after2 xg (J d8 (i+1) c8));clear K B9 B1 FN xg B6 HY YJ YU;have B1:=Y;clear Y;(try simp only[gE,aP]);refine qo (i:=12) (oi:=_) (v:=zZ (I ⟨gr,v,O⟩)) (b:=x3) rfl ao ao ao a6 (fun _ _ _ h=>h) (Or.inl ⟨by rfl,?_⟩) ao b5 ?_
      ·intro u' M;go_simp
      have q0:=ay.o;have q1:y3.frozen? ⟨gr,v,O⟩=false:=xO.o.fz v;refine qp (rs:=[13]) ao aE (fp.cons (b:=xq) rfl ao ?_ (fp.nil));intro B9 K;go_simp;refine K.o _ _ ⟨QC.o,fun e=>by cases e⟩ (fun _=>Rc ao ?_ _);clear K B9 B1 q0 q1 ay xO Vu QC mQ Qr P7 Ej;go_wp2_with fail
      go_roundw
      case rel=>exact⟨i+1,d8,c8,al,bd,bu⟩
      case measure=>simp[intOf];omega
     ·obtain rfl:i=Z rs:=al
      obtain⟨XV,XP,XR,HD,bA⟩:∃XV XP XR,we (fk w gm gv gp gr cv (J (I ⟨t,z,O⟩) (Z V) ca) (J (I ⟨gb,s,O⟩) (Z L) cb) (J (I ⟨A,D,O⟩) (Z R) cc) V (nC (v+1) L) (nC (v+1) (cC R)) (Z L) (Z R) XV XP XR wr)/\we (∀k,v+1<=k ->k<Z R ->XR[k]? =I (J O 0 0)):=by
       have h9:=xW.done dO.o HI.o;obtain⟨Ys,e9⟩:=Qp.o;rw[iP, <- e9,ae5 Ys,ae5 gM] at h9;refine⟨_,_,_,h9,fun k q Td=>?_⟩;rw[wJ al];exact HX.o k al Td
      clear BX HI dO HX ad;go_wp2_with fail
      go_roundw
      case rel=>exact⟨v+1,XV,XP,XR,al,bd,HD,bA⟩
      case measure=>simp[intOf];omega
   ·have uy:v=Z V:=al
    have Qs:we (nC v L=L):=by
     show _=_;rw[uy, <- qZ.o];exact ae6 L
    have bx:we (nC v (cC R)=cC R):=by
     show _=_;have dK:Z (cC R)=Z R:=dm _;rw[uy, <- xP.o, <- dK];exact ae6 (cC R)
    rw[Qs.o,bx.o] at H;have ax:=H.o.a.res;have f0:=eA _ (w.heap.size+1) 0 _ _ ax;have f1:=eA _ (w.heap.size+1) 1 _ _ ax;have f2:=eA _ (w.heap.size+1) 2 _ _ ax;obtain⟨n0,n1,n2⟩:=H.o.box.cells;obtain⟨r0,r1,r2⟩:=H.o.a.res.cells;clear HX uy;have b7:=H.o.low;go_wp2_with fail
    refine cN (EN rfl _ _ (w.heap.size+1) _ _ _ _ rfl (((ax.set0 _).set1 _).set2 _) underlying26 rfl ao) rfl ?_;have hx:=(((eK.refl [w.heap.size+1] wr).put (b:=w.heap.size+1) (yp aE) 0 (J (I ⟨gv,0,O⟩) (Z V) cv)).put (b:=w.heap.size+1) (yp aE) 1 (J (I ⟨gp,0,O⟩) (Z L) (Z L))).put (b:=w.heap.size+1) (yp aE) 2 (J (I ⟨gr,0,O⟩) (Z R) (Z R));(have Dj:=hx.more (hs:=[gv,gp,gr,w.heap.size+1]) fun g B7=>by rw[bD.1 B7];simp);refine⟨gv,gp,gr,cv,Xv,Xp,Xr,rfl,(H.o.v.keep Dj (hx.block gv H.o.lts.1 (by simp;omega))).less fun g B7=>?_,(H.o.p.keep Dj (hx.block gp H.o.lts.2.1 (by simp;omega))).less fun g B7=>?_,(H.o.r.keep Dj (hx.block gr H.o.lts.2.2 (by simp;omega))).less fun g B7=>?_,H.o.cap,⟨al,al,al⟩,hx.low H.o.a.bel fun g B7=>by rw[bD.1 B7];omega⟩
    all_goals simp only[bU,gw,jf] at B7⊢;omega
theorem asD (a b c:Kd) (ca cb cc:Nat) (V:List Vr) (L:List Kx) (R:List (List Fr)) (w:wA) (h:jc w a b c V L R) (j:Z L=Z V) (k:Z R=Z V) (p:0<Z V) (i:Z V<=8) (n:∀x∈V,0<x.2.length/\x.2.length<=5000) (m:∀l∈L,Z l<=5000) (r:∀l∈R,0<Z l/\l.length<=5000/\∀f∈l,f.2.1.size+f.2.2.size<=50000):
  c6 37 #[zp #[J a (Z V) ca,J b (Z L) cb,J c (Z R) cc]] w fun e w'=>∃(gv gp gr cv:Nat) (v X Xr:List wQ),e=yk (zp #[J (I ⟨gv,0,O⟩) (Z V) cv,J (I ⟨gp,0,O⟩) (Z L) (Z L),J (I ⟨gr,0,O⟩) (Z R) (Z R)])/\p8 [gv,gp,gr] gv V v w'/\nY [gv,gp,gr] gp L X w'/\p9 [gv,gp,gr] gr (cC R) Xr w'/\V.length<=cv/\(w.heap.size<=gv/\w.heap.size<=gp/\w.heap.size<=gr)/\da w w':=by
 obtain⟨g,o,_,_,rfl,_⟩:=h.Fd 0 p;obtain⟨gb,q,_,_,rfl,_⟩:=h.pars 0 al;obtain⟨d,s,_,_,rfl,_⟩:=h.rows 0 al;exact asC g o gb q d s ca cb cc V L R w h j k p i n m r
variable {K:Act ->wA ->Prop} {rest:List Oper}
theorem alK {P:Program} (w:wA) (d s y e:TypeId) (g o b B7:Nat) (a:Addr) (z F k sz:Nat) (r:Array wQ) (t:TypeId) (c:List wQ)
  (u:P.underlying d=I (.slice e)) (hs:(P.info? e).map (·.size)=I sz)
  (h:w.heap[g]? =I (yd r t (0,0))) (m:Nat.min z b=k) (p:Z c=k*sz)
  (f:∀j v,c[j]? =I v ->AJ w (a.add j)=I v) (U:o+Z c<=r.size) (h1:∀v∈c,v.oneCell'=xq):
  (Builtin.copy_ #[d,s] y #[J (I ⟨g,o,O⟩) b B7,J (I a) z F]).run P w=
   .ok (goInt k) (w.setRow g (r.toList.take o++c++r.toList.drop (o+Z c)).toArray):=by
 have q:=run_storeCells_at P g o t c 0 r w h (by simpa using U) h1;cases hq:P.info? e with
 |none=>simp[hq] at hs
 |some i=>
  have l:i.size=sz:=by simpa [hq] using hs
  have n:=run_firstCells_some (P:=P) w sz k a z F c p f;simp[Builtin.copy_,run_underlying u,Builtin.lenOf,sizeOf,typeInfo,hq,l,m,n,q]
theorem abH {P:Program} {o:Oper} {a:Act} (d s:Operand) (T i:TypeId)
  (x:o.op=.call {callee:=.builtin .copy,args:= #[d,s],argTypes:= #[T,i]}) (l:TypeId) (sz:Nat) (y:P.underlying T=I (.slice l)) (A:(P.info? l).map (·.size)=I sz)
  (g f b B7:Nat) (e:Addr) (z F k:Nat) (n:a.eval d=J (I ⟨g,f,O⟩) b B7) (hs:a.eval s=J (I e) z F)
  (r:Array wQ) (t:TypeId) (p:w.heap[g]? =I (yd r t (0,0))) (c:List wQ) (q:Nat.min z b=k) (u:Z c=k*sz)
  (m:∀j v,c[j]? =I v ->AJ w (e.add j)=I v) (U:f+Z c<=r.size) (h1:∀v∈c,v.oneCell'=xq)
  (h:∀w',w'=w.setRow g (r.toList.take f++c++r.toList.drop (f+Z c)).toArray ->K (a.put o.dst (goInt k)) w'):o.wp P a w K Q:=by
 have D:=alK (P:=P) w T i o.type l g f b B7 e z F k sz r t c y A p q u m U h1;unfold Oper.wp execOp;simp only[x,resolve,invoke,builtin,JQ,zi,wG,JV,fR,om,n,hs,D];exact h _ rfl
theorem ajD {P:Program} {o:Oper} {a:Act} (D:o.guard=O) (d s:Operand) (T m:TypeId)
  (y:o.op=.call {callee:=.builtin .copy,args:= #[d,s],argTypes:= #[T,m]}) (l:TypeId) (sz:Nat) (A:P.underlying T=I (.slice l)) (B9:(P.info? l).map (·.size)=I sz)
  (g f b B7:Nat) (i:Addr) (z F k:Nat) (p:a.eval d=J (I ⟨g,f,O⟩) b B7) (hs:a.eval s=J (I i) z F)
  (r:Array wQ) (t:TypeId) (q:w.heap[g]? =I (yd r t (0,0))) (c:List wQ) (u:Nat.min z b=k) (x:Z c=k*sz)
  (n:∀j v,c[j]? =I v ->AJ w (i.add j)=I v) (U:f+Z c<=r.size) (h1:∀v∈c,v.oneCell'=xq)
  (h:∀w',w'=w.setRow g (r.toList.take f++c++r.toList.drop (f+Z c)).toArray ->wpList P ops Q rest (a.put o.dst (goInt k)) w'):wpList P ops Q (o::rest) a w:=
 wpList_plain D fun _ K=>abH d s T m y l sz A B9 g f b B7 i z F k p hs r t q c u x n U h1 fun w' e=>K _ _ (h w' e)
def lj (n k:Nat) (f:Fr):List Fr:=List.replicate k f++List.replicate (n - k) tK
theorem ac4 (f:Fr) (h:k<=n):Z (lj n k f)=n:=by simp[lj];omega
theorem alO (n:Nat) (f:Fr):lj n n f=List.replicate n f:=by simp[lj]
theorem ahf:∀(l:List Fr) (k:Nat),(dI l).take (k*3)=dI (l.take k)
 |[],k=>by simp[dI]
 |f::l,0=>by simp[dI]
 |f::l,k+1=>by
  rw[show (k+1)*3=k*3+1+1+1 by omega];simp only[dI,List.take_succ_cons,ahf l k]
theorem ahh:∀(l:List Fr) (k:Nat),(dI l).drop (k*3)=dI (l.drop k)
 |[],k=>by simp[dI]
 |f::l,0=>by simp[dI]
 |f::l,k+1=>by
  rw[show (k+1)*3=k*3+1+1+1 by omega];simp only[dI,List.drop_succ_cons,ahh l k]
theorem aag:∀(l:List Fr),∀v∈dI l,v.oneCell'=xq
 |[],v,h=>by cases h
 |f::l,v,h=>by
  simp only[dI,bU] at h;rcases h with rfl |rfl |rfl |h
  ·rfl
  ·rfl
  ·rfl
  ·exact aag l v h
theorem alN (f:Fr) (h:k+c<=n):(dI (lj n k f)).take (k*3)++dI (List.replicate c f)++(dI (lj n k f)).drop (k*3+Z (dI (List.replicate c f)))=dI (lj n (k+c) f):=by
 rw[yM,ui,show k*3+3*c=(k+c)*3 by omega,ahf,ahh, <- Pk, <- Pk];congr 1
 rw[lj,lj,VP aE,lg aE,List.drop_append,List.drop_eq_nil_of_le aE,iH,List.drop_replicate,ui,abv];congr 2
 omega
theorem alM {G:Nat} {f:Fr} (h:gR w G (lj n k f)) (b:c<=k):∀j v,(dI (List.replicate c f))[j]? =I v ->AJ w ((⟨G,0,O⟩:Addr).add j)=I v:=fun j v a=>by
 have d:(⟨G,0,O⟩:Addr).add j=⟨G,j,O⟩:=by unfold Addr.add;split<;>simp_all
 rw[d,a8 w G j _ _ (0,0) h]
 have e:lj n k f=List.replicate c f++(List.replicate (k - c) f++List.replicate (n - k) tK):=by
  rw[lj, <- qj,abv];congr 2
  omega
 rw[e,Pk,QY,Q1 (by
  rcases dR j (Z (dI (List.replicate c f))) with h |h
  ·exact h
  ·rw[jw h] at a;cases a)]
 exact a
theorem ac3 {G:Nat} {f:Fr} (h:gR w G (lj n k f)) (a:k+c<=n):gR (w.setRow G ((dI (lj n k f)).toArray.toList.take (k*3)++dI (List.replicate c f)++(dI (lj n k f)).toArray.toList.drop (k*3+Z (dI (List.replicate c f)))).toArray) G (lj n (k+c) f):=by
 rw[List.toList_toArray,alN f a];exact setRow_heap w G _ _ _ _ h
theorem ala (g n:Nat) (f:Fr) (w:wA) (F:aL w g f.1 f.2.1 f.2.2) (h1:1<=n) (hn:n<=1000):
  c6 87 #[J (I ⟨g,0,O⟩) 1 1,E yR (n:Nat)] w fun e w'=>∃G,e=yk (J (I ⟨G,0,O⟩) n n)/\w.heap.size<=G/\gR w' G (List.replicate n f)/\da w w':=by
 obtain⟨i0,y,aj,Q,an⟩:=eo Tryz.infoFrac;have B7:we ((prog.info? 63).map (·.size)=I 3):=by show _=_;rw[y,Option.map_some,Q]
 have X:=Fa F;clear F;have P:1*n/18446744073709551616=0:=zk al;have A:1*n % 18446744073709551616=n:=by rw[lK];exact kM al
 have U6:we (∀V:wA,c6 139 #[E .u64 1,E .u64 (n:Nat)] V fun e w'=>e=yk (zz #[E .u64 0,E .u64 (n:Nat)])/\w'=V):=fun V=>by
  have h:=Tryz.bits_Mul 1 n al al V;rw[P,A] at h;exact h
 clear P A;go_enter func87,ntmps87;go_wp2_with fail
 refine(U6.o _).af ?_;rintro e b ⟨rfl,rfl⟩;have fH:¬((9223372036854775807:Int)<(n:Int)):=al
 go_upto_region 7 with (first |(at_make;refine oX _ rfl _ _ 36 rfl b.heap.size 63 i0 (zp #[zd x3,zX ⟨#[]⟩,zX ⟨#[]⟩]) 3 underlying36 y aj Q yR yR _ _ n rfl rfl bd bd (by rw[an];omega) (by unfold maxLen;omega) (ak _) ?_;intro p R T))
 have s:=aaE R;rw[NT] at s;have q:da b p:=(aw _ _).grown T (ak _) (fun k e=>by cases e)
 have i:we (gR p b.heap.size (lj n 0 f)):=by
  show gR _ _ _;rw[lj,List.replicate_zero,iH,Nat.sub_zero];exact s
 have r:=Fa (X.o.aa q X.o.lt);have U:we (Nat.min 1 n=1):=wI h1
 have M:we (∀j v,(dI (List.replicate 1 f))[j]? =I v ->AJ p ((⟨g,0,O⟩:Addr).add j)=I v):=fun j v a=>by
  have av:(⟨g,0,O⟩:Addr).add j=⟨g,j,O⟩:=by unfold Addr.add;split<;>simp_all
  rw[av];match j,a with
  |0,a=>cases a;exact r.o.c0
  |1,a=>cases a;exact r.o.c1
  |2,a=>cases a;exact r.o.c2
  |j+3,a=>simp[dI] at a
 clear R T s;obtain⟨G,D⟩:∃G,G=b.heap.size:=⟨_,rfl⟩;have B6:we (b.heap.size<=G):=by rw[D];exact ak _
 have B1:=Fa q;simp only[<- D] at i⊢;clear D q
 have L:we (0*3+Z (dI (List.replicate 1 f))<=(dI (lj n 0 f)).toArray.size):=by
  show _<=_;rw[mX,yM,yM,ac4 f (aX _)];simp;omega
 go_upto_region 8 with (first |(refine ajD rfl (.tmp 31) (.tmp 32) 36 36 rfl 63 3 underlying36 B7.o G (0*3) n n ⟨g,0,O⟩ 1 1 1 rfl rfl (dI (lj n 0 f)).toArray 63 i.o (dI (List.replicate 1 f)) U.o rfl M.o L.o (aag _) ?_;intro K B9;have m:we (gR K G (lj n (0+1) f)/\da b K):=(by rw[B9];exact⟨ac3 i.o al,below_setRow B1.o B6.o _⟩);clear B9))
 rw[bK] at m;clear i r U M B1 L;go_loopw [8] (fun kv wr=>∃k:Nat,1<=k/\k<=n/\kv=E yR k/\we (gR wr G (lj n k f)/\da b wr)) (fun kv _=>n - (intOf kv).toNat)
 case atStart=>exact⟨1,ak _,h1,rfl,m⟩
 case round=>
  obtain⟨k,Y,ax,rfl,H⟩:=hrel;clear m;by_cases ay:k<n
  ·obtain⟨c,d⟩:∃c,Nat.min k (n - k)=c:=⟨_,rfl⟩;have U:=Fa d;(have iO:we (c<=k):=by rw[<- d];exact Nat.min_le_left _ _);(have x:we (k+c<=n):=by have l:Nat.min k (n - k)<=n - k:=Nat.min_le_right _ _;show _<=_;omega)
   have ab:we (1<=c):=by
    show 1<=c;rw[<- d];exact Nat.le_min.2 ⟨Y,al⟩
   (have ai:we (1<=k+c):=by show _<=_;omega);have ae:we (k+c<=1000):=aO x.o hn;clear d;(have az:¬n=k:=al);(have aE:IntKind.i64.wrap ((k:Int)+(c:Int))=(k:Int)+(c:Int):=by rw[jx];have:=ae.o;omega);go_upto_region 9 with fail
   replace H:we (gR wr.drew G (lj n k f)/\da b wr.drew):=⟨H.o.1,H.o.2.drew⟩;refine iD (S:=fun _=>True) ao trivial (fun u=>?_);generalize wr.drew=u0 at *;refine au 0 (E yR (k:Nat)) ?_;refine au 1 (J (I ⟨G,0,O⟩) n n) ?_;refine au 2 (E yR (k:Nat)) ?_;refine au 3 (J (I ⟨G,k*3,O⟩) (n - k) (n - k)) ?_;refine au 4 (J (I ⟨G,0,O⟩) n n) ?_;refine au 5 (E yR (k:Nat)) ?_;refine au 6 (J (I ⟨G,0,O⟩) k n) ?_;refine aG [7] (cA ?_ aH);intro K' B2;rw[aA (by rfl)];refine abH (.tmp 41) (.tmp 44) 36 36 rfl 63 3 underlying36 B7.o G (k*3) (n - k) (n - k) ⟨G,0,O⟩ k n c rfl rfl (dI (lj n k f)).toArray 63 H.o.1 (dI (List.replicate c f)) U.o (by rw[yM,ui];omega) (alM H.o.1 iO.o) (by rw[yM,ui];simp[yM,ac4 f (by omega:k<=n)];have:=x.o;omega) (aag _) ?_;intro u1 z
   have ad:we (gR u1 G (lj n (k+c) f)/\da b u1):=by
    rw[z];exact⟨ac3 H.o.1 x.o,below_setRow H.o.2 B6.o _⟩
   clear z;refine B2.o _ _ trivial (fun t=>?_);clear B2 K' u H;have u:=t;clear t;refine au 8 (E yR ((k+c:Nat):Int)) ?_;refine au 9 (E yR ((k+c:Nat):Int)) ?_;(try simp only[gE,aP]);refine eV ao ?_ _;go_wp2;go_roundw
   case rel=>exact⟨k+c,ai.o,x.o,rfl,ad⟩
   case measure=>simp[intOf];have:=ab.o;omega
  ·obtain rfl:n=k:=al
   go_wp2;go_ret;refine⟨G,rfl,B6.o,?_,H.o.2⟩;have l:=H.o.1;rw[alO] at l;exact l
theorem akJ {x:Nat}:(List.replicate n (qF 0)).set x (qF 1)=jy n x:=by
 apply mZ (by simp[jy]);intro k h b;rw[EX];simp only[jy,mq,EY,VW];by_cases e:x=k
 ·rw[aA e,aA e.symm]
 ·rw[aD e,aD fun a=>e a.symm]
theorem ail (n x:Nat) (w:wA) (h1:1<=n) (m:n<=1000) (q:x<n):
  c6 38 #[E yR (n:Nat),E yR (x:Nat)] w fun e w'=>∃G,e=yk (J (I ⟨G,0,O⟩) n n)/\w.heap.size<=G/\gR w' G (jy n x)/\da w w':=by
 have Q:we (∀U:wA,c6 88 #[E yR 0] U fun e w'=>e=yk (zp #[zd (aV 0),zX (nu 0),zX (de 0)])/\da U w'):=fun U=>Gh (k:=0) (w:=U) 0 0 rfl a6 rfl;have r:we (∀U:wA,c6 88 #[E yR 1] U fun e w'=>e=yk (zp #[zd (aV 1),zX (nu 1),zX (de 1)])/\da U w'):=fun U=>Gh (k:=1) (w:=U) 1 1 rfl a6 rfl;have B7:we (∀(g:Nat) (U:wA),aL U g (aV 0) (nu 0) (de 0) ->c6 87 #[J (I ⟨g,0,O⟩) 1 1,E yR (n:Nat)] U fun e w'=>∃G,e=yk (J (I ⟨G,0,O⟩) n n)/\U.heap.size<=G/\gR w' G (List.replicate n (qF 0))/\da U w'):=fun g U b=>ala g n (qF 0) U b h1 m;have L:(x:Int)<(n:Int):=al
 go_enter func38,ntmps38;go_wp2_with fail
 refine(Q.o _).af ?_;rintro e c ⟨rfl,h⟩;have B6:da c (AC c (yd #[zd (aV 0),zX (nu 0),zX (de 0)] 63)):=(aw _ c).alloc (ak _) _;have f:=h.trans (B6.af h.size);have X:=Fa (aL.new c (aV 0) (nu 0) (de 0));have a:=Fa f;clear h B6 f;go_wp2_with fail
 refine(B7.o _ _ X.o).af ?_;rintro e A ⟨G,rfl,d,i,b⟩;have T:w.heap.size<=G:=aO a.o.size d;have B9:=Fa (a.o.trans (b.af a.o.size));have H:=Fa i;clear b a X d i B7 Q;go_wp2_with fail
 refine(r.o _).af ?_;rintro e D ⟨rfl,b⟩;have l:=Fa (B9.o.trans (b.af B9.o.size));have j:=Fa (H.o.aa b H.o.lt);clear b B9 H r;obtain⟨s,t,u⟩:=j.o.cells x (by rw[ui];exact q);have v:=j.o.fz (x*3);have y:=j.o.fz (x*3+1);have z:=j.o.fz (x*3+2);have P:=Fa (j.o.put x (qF 1));go_wp2_with fail
 go_ret;refine⟨G,rfl,T,?_,((l.o.setCell (p:=⟨G,x*3,O⟩) T _).setCell (p:=⟨G,x*3+1,O⟩) T _).setCell (p:=⟨G,x*3+2,O⟩) T _⟩;have:=P.o;rw[akJ] at this;exact this
theorem ady {α:Type} (f:Nat×Nat ->α) (d:List (Nat×Nat)) (L:List α) (h:i<Z d):ye f (d.take (i+1)) L=(ye f (d.take i) L).set d[i].1 (f d[i]):=by
 rw[ig h,ye,List.foldl_append];rfl
theorem XB {x:wQ} (f:bZ U g x y z) (i:bW x) (j:bW y) (k:bW z) {b:Kd} (h:n≠0 ->∃g' o v,b=I ⟨g',o,O⟩/\U.cell? ⟨g',o,O⟩=I v/\¬bW v):pT [g] b n:=fun g' o e M m=>by
 obtain⟨l,p,v,d,c,a⟩:=h M;rw[e] at d;cases d;rw[bD.1 m] at c;rw[a8 U g o _ _ (0,0) f] at c;match o,c with
 |0,c=>cases c;exact a i
 |1,c=>cases c;exact a j
 |2,c=>cases c;exact a k
 |o+3,c=>simp at c
theorem XC {gs:Jp} {b:Kd} (h1:pT gs b n) (a:pT [g] b n):pT (gs++[g]) b n:=fun g' o e h m=>(bH.1 m).elim (h1 g' o e h) (a g' o e h)
theorem anZ {s:ByteArray}:¬bW (zX s):=fun ⟨_,_,_,e⟩=>by cases e
theorem Sm {i:Int}:¬bW (E yR i):=fun ⟨_,_,_,e⟩=>by cases e
theorem XH {s:Bool}:¬bW (zd s):=fun ⟨_,_,_,e⟩=>by cases e
section
variable {gs : Jp} {g gb : Nat} {V : List Vr} {L : List Kx} {R : List (List Fr)} {X : List wQ} {W : wA} {x y z : wQ}
theorem p8.with_net (h:p8 gs g V X W) (n:bZ W gb x y z) (p:bW x) (q:bW y) (r:bW z):p8 (gs++[gb]) g V X W:=⟨h.row,h.len,fun k m=>by
 obtain⟨b,c,d,f,a,i,j⟩:=h.at' k m;refine⟨b,c,d,f,a,i,XC j (XB n p q r fun s=>?_)⟩;obtain⟨g',o,e,_,l⟩:=a 0 al;exact⟨g',o,_,e,l,anZ⟩⟩
theorem nY.with_net (h:nY gs g L X W) (n:bZ W gb x y z) (m:bW x) (p:bW y) (q:bW z):nY (gs++[gb]) g L X W:=⟨h.row,h.len,fun k l=>by
 obtain⟨b,c,d,a,f,i⟩:=h.at' k l;refine⟨b,c,d,a,f,XC i (XB n m p q fun r=>?_)⟩;obtain⟨g',o,e,_,j⟩:=a 0 al;exact⟨g',o,_,e,j,Sm⟩⟩
theorem p9.with_net (h:p9 gs g R X W) (n:bZ W gb x y z) (m:bW x) (p:bW y) (q:bW z):p9 (gs++[gb]) g R X W:=⟨h.row,h.len,fun k l=>by
 obtain⟨b,c,f,a,i,j⟩:=h.at' k l;refine⟨b,c,f,a,i,XC j (XB n m p q fun r=>?_)⟩;obtain⟨g',o,e,_,d,_⟩:=a 0 al;rw[oY,ji] at d;exact⟨g',o,_,e,d,XH⟩⟩
end
theorem fk.cellR {x:wQ} (h:fk w gm gv gp gr cv x y z V L R nl nr Xv Xp Xr U) (a:k<nr):(∃q,AJ U ⟨gr,k,O⟩=I q)/\U.frozen? ⟨gr,k,O⟩=false:=⟨⟨_,h.r.row.cell _ (by have:=h.rlen;omega)⟩,h.r.row.fz _⟩
theorem ah2 (h0:aU V L R=0) (hs:sX V L R):0<Z V/\(∀x∈V,0<x.2.length/\x.2.length<=5000)/\(∀l∈L,Z l<=5000)/\∀l∈R,0<Z l/\l.length<=5000/\∀f∈l,f.2.1.size+f.2.2.size<=50000:=by
 have k:=fK h0;have p:=zA h0
 have d:∀v (h:v<Z V),1<=V[v].2.length:=fun v h=>by
  have:=jM p v;rwa [Hx h] at this
 refine⟨by have:=(mK (vR (KP h0)).1).1;rw[<- k.len];exact this,fun x c=>?_,hs.pars.2,fun l b=>?_⟩
 ·obtain⟨v,h,rfl⟩:=iQ c;exact⟨d v h,(hs.Fd.2 _ c).2.1⟩
 ·have a:=hs.rows.2 l b;obtain⟨v,h,rfl⟩:=iQ b;refine⟨?_,a.1,fun f e=>?_⟩
  ·rw[k.rows v (by rw[k.len, <- k.lenR];exact h) h];exact MH (LP p _) (jM p v)
  ·have:=TY e;have:=a.2;omega
theorem ate (a b c f:Kd) (ca cb cc g:Nat) (V:List Vr) (L:List Kx) (R:List (List Fr)) (D:List (Int×Int)) (w:wA) (h:jc w a b c V L R) (hs:sX V L R) (F:j9 w f D) (n:Z D<=1000) (B7:Z D<=g) (m:iq V L R D≠0):
  c6 9 #[zp #[J a (Z V) ca,J b (Z L) cb,J c (Z R) cc],J f (Z D) g] w (dj w (zz #[zp #[J O 0 0,J O 0 0,J O 0 0],E yR (iq V L R D)])):=by
 have d:=Fa (fun (U:wA) (j:da w U)=>SJ a b c f ca cb cc g V L R D U (h.aa j) hs (F.aa j) n B7);obtain⟨l,u⟩:∃l,iq V L R D=l:=⟨_,rfl⟩;rw[u] at d m⊢;have i:qa w (AC (AC w (yd #[J a (Z V) ca,J b (Z L) cb,J c (Z R) cc] 26)) (yd #[J O 0 0,J O 0 0,J O 0 0] 26)) (J a (Z V) ca) (J b (Z L) cb) (J c (Z R) cc):=qa.begin w _ _ _;clear h hs F u;go_enter func9,ntmps9;go_upto_region 1 with fail
 generalize (AC (AC w (yd #[J a (Z V) ca,J b (Z L) cb,J c (Z R) cc] 26)) (yd #[J O 0 0,J O 0 0,J O 0 0] 26))=v at *;have A:=Fa i;obtain⟨q,s,t⟩:=i.cells;clear i;go_wp2_with fail
 refine(d.o _ A.o.bel).af ?_;rintro e K ⟨rfl,k⟩;replace A:=Fa (A.o.step k);have r:=A.o.res;have x:=eA _ (w.heap.size+1) 0 _ _ r;have y:=eA _ (w.heap.size+1) 1 _ _ r;have z:=eA _ (w.heap.size+1) 2 _ _ r;obtain⟨B9,H,B6⟩:=A.o.res.cells;clear k q s t d;go_wp2_with fail
 refine cN (bZ.result2' (((r.set0 _).set1 _).set2 _) rfl _ rfl) rfl ?_;exact⟨rfl,((A.o.bel.setCell (p:=⟨w.heap.size+1,0,O⟩) (by show _<=w.heap.size+1;omega) _).setCell (p:=⟨w.heap.size+1,1,O⟩) (by show _<=w.heap.size+1;omega) _).setCell (p:=⟨w.heap.size+1,2,O⟩) (by show _<=w.heap.size+1;omega) _⟩
theorem atf (j n:Nat) (b c f:Kd) (ca cb cc cf:Nat) (V:List Vr) (L:List Kx) (R:List (List Fr)) (D:List (Int×Int)) (d:List (Nat×Nat)) (w:wA) (h:jc w (I ⟨j,n,O⟩) b c V L R) (hs:sX V L R) (hF:j9 w f D) (hn:Z D<=1000) (qI:Z D<=cf) (he:iq V L R D=0) (hD:D=zF d) (hd:fj (ah V) (Z V) d):
  c6 9 #[zp #[J (I ⟨j,n,O⟩) (Z V) ca,J b (Z L) cb,J c (Z R) cc],J f (Z D) cf] w fun e w'=>∃(a' b' c':Kd) (yO eT jT:Nat),e=yk (zz #[zp #[J a' (Z V) yO,J b' (Z (eh d L)) eT,J c' (Z (dV V d (cC R))) jT],E yR 0])/\jc w' a' b' c' V (eh d L) (dV V d (cC R))/\pU w' b' (eh d L)/\da w w':=by
 have AL:=Fa (fun (U:wA) (K:da w U)=>SJ (I ⟨j,n,O⟩) b c f ca cb cc cf V L R D U (h.aa K) hs (hF.aa K) hn qI);rw[he] at AL;have h0:aU V L R=0:=(T9 he).1;have F:=fK h0;obtain⟨hp,P,hl,hr⟩:=ah2 h0 hs;have ud:=Fa (fun (U:wA) (K:da w U)=>asD (I ⟨j,n,O⟩) b c ca cb cc V L R U (h.aa K) F.len F.lenR hp F.n8 P hl hr);have xm:Z D=Z d:=by rw[hD,A4]
 have aW:we (∀i (hi:i<Z d) (U:wA),da w U ->∃g o,f=I ⟨g,o,O⟩/\U.cell? ⟨g,o+i*2,O⟩=I (E yR (d[i].1:Nat))/\U.cell? ⟨g,o+i*2+1,O⟩=I (E yR (d[i].2:Nat))):=fun i hi U K=>by
  obtain⟨g,o,e,_,h1,h2⟩:=(hF.aa K) i al;have e1:D[i]'al=((d[i].1:Int),(d[i].2:Int)):=by simp[hD,zF]
  rw[e1] at h1 h2;exact⟨g,o,e,h1,h2⟩
 have Cj:we (∀v,v<Z V ->∀U:wA,da w U ->∃B1 cs,AJ U ⟨j,n+v*2+1,O⟩=I (J B1 (sz (ah V) v) cs)):=fun v P U K=>by
  obtain⟨g,o,b,c,e,_,h1,h2,_⟩:=(h.Fd.aa K) v P;cases e;rw[Hx P];exact⟨b,c,h2⟩
 have av:we (j<w.heap.size):=by
  obtain⟨g,o,_,_,e,s,_⟩:=h.Fd 0 hp;cases e;exact s
 have ie:we (∀v,1<=sz (ah V) v/\(v<Z V ->sz (ah V) v<=1000)):=fun v=>⟨jM (zA h0) v,fun P=>by
  have h8:=((XL h0).1.len v P).2;rw[Hx P];exact aO h8 a6⟩
 have HD:=Fa hd;have lG:=Fa F.len;have Qb:=Fa F.lenR;have Lr:=F.n8;have hA:qa w (AC (AC w (yd #[J (I ⟨j,n,O⟩) (Z V) ca,J b (Z L) cb,J c (Z R) cc] 26)) (yd #[J O 0 0,J O 0 0,J O 0 0] 26)) (J (I ⟨j,n,O⟩) (Z V) ca) (J b (Z L) cb) (J c (Z R) cc):=qa.begin w _ _ _;rw[xm] at AL⊢;clear h hs hF qI he hD F P hl hr h0 hd;go_enter func9,ntmps9;go_upto_region 1 with fail
 generalize (AC (AC w (yd #[J (I ⟨j,n,O⟩) (Z V) ca,J b (Z L) cb,J c (Z R) cc] 26)) (yd #[J O 0 0,J O 0 0,J O 0 0] 26))=W0 at *;have A:=Fa hA;obtain⟨i0,i1,i2⟩:=hA.cells;clear hA;go_wp2_with fail
 refine(AL.o _ A.o.bel).af ?_;rintro e w1 ⟨rfl,q⟩;replace A:=Fa (A.o.step q);obtain⟨k0,k1,k2⟩:=A.o.cells;clear q i0 i1 i2 AL;go_wp2_with fail
 refine(ud.o _ A.o.bel).af ?_;rintro e T ⟨gv,gp,gr,cv,Xv,Xp,Xr,rfl,hV,hP,hR,ay,bf,q⟩;have FX:w.heap.size+2<=w1.heap.size:=A.o.res.lt;replace A:=Fa (A.o.step q);have B6:da T (AC T (yd #[J (I ⟨gv,0,O⟩) (Z V) cv,J (I ⟨gp,0,O⟩) (Z L) (Z L),J (I ⟨gr,0,O⟩) (Z R) (Z R)] 26)):=(aw _ T).alloc (ak _) _;have bg:w.heap.size+2<=T.heap.size:=aO FX q.size;have bt:=bZ.at (w:=T) rfl (J (I ⟨gv,0,O⟩) (Z V) cv) (J (I ⟨gp,0,O⟩) (Z L) (Z L)) (J (I ⟨gr,0,O⟩) (Z R) (Z R));obtain⟨gm,qH⟩:∃g,T.heap.size=g:=⟨_,rfl⟩;obtain⟨w3,X⟩:∃U,AC T (yd #[J (I ⟨gv,0,O⟩) (Z V) cv,J (I ⟨gp,0,O⟩) (Z L) (Z L),J (I ⟨gr,0,O⟩) (Z R) (Z R)] 26)=U:=⟨_,rfl⟩
 have lF:we (fk w gm gv gp gr cv (J (I ⟨j,n,O⟩) (Z V) ca) (J b (Z L) cb) (J c (Z R) cc) V (eh (d.take 0) L) (dV V (d.take 0) (cC R)) (Z L) (Z R) Xv Xp Xr w3):=by
  have B7:=slv O 0 0;refine⟨by rw[<- X];exact A.o.step B6,by rw[<- X, <- qH];exact bt,?_,?_,?_,rfl,dm _,ay,⟨al,al,al,al⟩⟩
  ·rw[<- X];exact(hV.with_net A.o.res B7 B7 B7).aa B6
  ·rw[<- X];exact(hP.with_net A.o.res B7 B7 B7).aa B6
  ·rw[<- X];exact(hR.with_net A.o.res B7 B7 B7).aa B6
 have Ci:=Fa X;have Vh:=Fa qH;clear hV hP hR ay bf q FX B6 bg bt qH X A k0 k1 k2 ud;go_wp2_with fail
 simp only[Ci.o,Vh.o];go_loopw [21] (fun kv wr=>∃(i:Nat) (Xp Xr:List wQ),i<=Z d/\kv=E yR i/\we (fk w gm gv gp gr cv (J (I ⟨j,n,O⟩) (Z V) ca) (J b (Z L) cb) (J c (Z R) cc) V (eh (d.take i) L) (dV V (d.take i) (cC R)) (Z L) (Z R) Xv Xp Xr wr)) (fun kv _=>Z d - (intOf kv).toNat)
 case atStart=>exact⟨0,_,_,aX _,rfl,lF⟩
 case round=>
  obtain⟨i,aZ,a1,hi,rfl,H⟩:=hrel;clear lF Ci Vh;by_cases ae:i<Z d
  ·obtain⟨gf,of,rfl,c0,c1⟩:=aW.o i ae wr H.o.a.bel;have Yk:=HD.o.lt d[i] (bQ ae);have Yg:=HD.o.val d[i] (bQ ae);have Y:we (eh (d.take (i+1)) L=(eh (d.take i) L).set d[i].1 []/\dV V (d.take (i+1)) (cC R)=(dV V (d.take i) (cC R)).set d[i].1 (jy (sz (ah V) d[i].1) d[i].2)):=⟨ady _ d L ae,ady _ d (cC R) ae⟩;obtain⟨x,Q⟩:∃x,d[i].1=x:=⟨_,rfl⟩;obtain⟨y,hy⟩:∃y,d[i].2=y:=⟨_,rfl⟩;rw[Q] at c0 Yk Yg Y;rw[hy] at c1 Yg Y;(have pz:x<Z L:=by have:=lG.o;omega);(have Yl:x<Z R:=by have:=Qb.o;omega);have iV:=Fa (fun (U:wA)=>ail (sz (ah V) x) y U (ie.o x).1 ((ie.o x).2 Yk) Yg);have B6:da wr (AC wr (yd #[E yR (x:Nat),E yR (y:Nat)] 30)):=(aw _ wr).alloc (ak _) _;have fE:(AC wr (yd #[E yR (x:Nat),E yR (y:Nat)] 30)).heap[wr.heap.size]? =I (yd #[E yR (x:Nat),E yR (y:Nat)] 30 (0,0)):=dU wr _;have bb:=H.o.lts;obtain⟨m,s⟩:∃g,wr.heap.size=g:=⟨_,rfl⟩;obtain⟨B9,ZF⟩:∃U,AC wr (yd #[E yR (x:Nat),E yR (y:Nat)] 30)=U:=⟨_,rfl⟩;(have S7:m≠gr:=al);(have YY:m≠gp:=al)
   have iw:we (fk w gm gv gp gr cv (J (I ⟨j,n,O⟩) (Z V) ca) (J b (Z L) cb) (J c (Z R) cc) V (eh (d.take i) L) (dV V (d.take i) (cC R)) (Z L) (Z R) Xv aZ a1 B9):=by
    show fk _ _ _ _ _ _ _ _ _ _ _ _ _ _ _ _ _ _;rw[<- ZF];exact H.o.step B6
   rw[s,ZF] at fE;have t:=Fa fE;have GP:=Fa S7;obtain⟨n0,n1,n2⟩:=iw.o.box.cells;obtain⟨⟨qy,q0⟩,q1⟩:=iw.o.cellP pz;(have v0:AJ B9 ⟨m,0,O⟩=I (E yR (x:Nat)):=by rw[a8 B9 m 0 _ _ (0,0) fE];rfl);have B2:=Fa (iw.o.setP (k:=x) (l:=[]) (b:=O) (c:=0) (fun k F=>absurd F aE) (fun _=>rfl) (fun g o e=>by cases e));have ax:we ((AF B9 ⟨gp,x,O⟩ (J O 0 0)).heap[m]? =I (yd #[E yR (x:Nat),E yR (y:Nat)] 30 (0,0))):=(eO B9 ⟨gp,x,O⟩ _ m YY).trans fE;(have SL:(x:Int)<(Z L:Int):=al);(have bm:(x:Int)<(Z R:Int):=al);(have bk:(x:Int)<(Z V:Int):=al);(have Ds:i<1000:=al);clear B6 fE bb S7 YY H Q hy;go_upto_region 9 with fail
   clear s ZF;have Zv:=((aw (AF B9 ⟨gp,x,O⟩ (J O 0 0)).heap.size (AF B9 ⟨gp,x,O⟩ (J O 0 0))).drew);obtain⟨B1,cs,ad⟩:=Cj.o x Yk _ (B2.o.step Zv).a.bel;have H:=Fa (B2.o.step Zv);have Vj:we ((AF B9 ⟨gp,x,O⟩ (J O 0 0)).drew.heap[m]? =I (yd #[E yR (x:Nat),E yR (y:Nat)] 30 (0,0))):=ax.o;have pY:=Fa ad;refine iD (S:=fun u=>(AJ u ⟨gm,2,O⟩=I (J (I ⟨gr,0,O⟩) (Z R) (Z R))/\u.cell? ⟨w.heap.size,0,O⟩=I (J (I ⟨j,n,O⟩) (Z V) ca))/\u.cell? ⟨m,0,O⟩=I (E yR (x:Nat))/\u.cell? ⟨m,1,O⟩=I (E yR (y:Nat))/\u.cell? ⟨j,n+x*2+1,O⟩=I (J B1 (sz (ah V) x) cs)) ao ⟨⟨H.o.box.cells.2.2,H.o.a.cells.1⟩,by rw[a8 _ m 0 _ _ (0,0) Vj.o];rfl,by rw[a8 _ m 1 _ _ (0,0) Vj.o];rfl,pY.o⟩ (fun ar=>?_);clear Zv ad B2 t ax iw q0 q1 v0 n0 n1 n2 c0 c1;generalize (AF B9 ⟨gp,x,O⟩ (J O 0 0)).drew=z1 at *;have t:=Vj;clear Vj;have an:we (w.heap.size<=z1.heap.size):=H.o.a.bel.size;(have Ql:we (j≠gr):=by have:=H.o.low;have:=av.o;show j≠gr;omega);refine au 0 (zZ (I ⟨gm,2,O⟩)) ?_;(try simp only[gE,aP]);refine dt 1 (J (I ⟨gr,0,O⟩) (Z R) (Z R)) ?_ ?_
   ·intro u' M;try simp only[gE];obtain⟨⟨s1,s2⟩,s3,s4,s5⟩:=M;go_simp
   refine au 2 (zZ (I ⟨m,0,O⟩)) ?_;(try simp only[gE,aP]);refine dt 3 (E yR (x:Nat)) ?_ ?_
   ·intro u' M;try simp only[gE];obtain⟨⟨s1,s2⟩,s3,s4,s5⟩:=M;go_simp
   refine au 4 (zZ (I ⟨w.heap.size,0,O⟩)) ?_;(try simp only[gE,aP]);refine dt 5 (J (I ⟨j,n,O⟩) (Z V) ca) ?_ ?_
   ·intro u' M;try simp only[gE];obtain⟨⟨s1,s2⟩,s3,s4,s5⟩:=M;go_simp
   refine au 6 (zZ (I ⟨m,0,O⟩)) ?_;(try simp only[gE,aP]);refine dt 7 (E yR (x:Nat)) ?_ ?_
   ·intro u' M;try simp only[gE];obtain⟨⟨s1,s2⟩,s3,s4,s5⟩:=M;go_simp
   refine au 8 (zZ (I ⟨j,n+x*2,O⟩)) ?_;refine au 9 (zZ (I ⟨j,n+x*2+1,O⟩)) ?_;(try simp only[gE,aP]);refine dt 10 (J B1 (sz (ah V) x) cs) ?_ ?_
   ·intro u' M;try simp only[gE];obtain⟨⟨s1,s2⟩,s3,s4,s5⟩:=M;go_simp
   refine au 11 (E yR (sz (ah V) x:Nat)) ?_;refine au 12 (zZ (I ⟨m,1,O⟩)) ?_;(try simp only[gE,aP]);refine dt 13 (E yR (y:Nat)) ?_ ?_
   ·intro u' M;try simp only[gE];obtain⟨⟨s1,s2⟩,s3,s4,s5⟩:=M;go_simp
   refine aG [14] (cA ?_ aH);intro K' ab;go_simp;refine(iV.o _).af ?_;rintro e z ⟨G,rfl,hG,aR,q⟩;have hB:=H.o.lts;have cj:=H.o.a.res.lt;replace H:=Fa (H.o.step q);replace t:=Fa ((q.block _ (c5.1 t.o).1).trans t.o);have ad:=(q.cell (p:=⟨j,n+x*2+1,O⟩) (aT av.o an.o)).trans pY.o;have aj:=Fa ad;have B2:=Fa (H.o.setR (k:=x) aR.fr (Nat.le_of_eq (Bd _ _)) (Sk (B:=z1.heap.size) (fun g o e=>by cases e;exact hG) fun g s=>by simp only[bU,gw,jf] at s;omega));rw[Bd] at B2;have GG:we ((AJ z ⟨gm,2,O⟩=I (J (I ⟨gr,0,O⟩) (Z R) (Z R))/\z.cell? ⟨w.heap.size,0,O⟩=I (J (I ⟨j,n,O⟩) (Z V) ca))/\z.cell? ⟨m,0,O⟩=I (E yR (x:Nat))/\z.cell? ⟨m,1,O⟩=I (E yR (y:Nat))/\z.cell? ⟨j,n+x*2+1,O⟩=I (J B1 (sz (ah V) x) cs)):=⟨⟨H.o.box.cells.2.2,H.o.a.cells.1⟩,by rw[a8 z m 0 _ _ (0,0) t.o];rfl,by rw[a8 z m 1 _ _ (0,0) t.o];rfl,aj.o⟩;refine ab.o _ _ GG.o (fun aq=>?_);clear ab K' ar aR q hB cj hG ad;obtain⟨⟨qy,q0⟩,q1⟩:=H.o.cellR Yl;refine au 15 (zZ (I ⟨gr,x,O⟩)) ?_;refine aG [16] (cA ?_ aH);intro K' ab;go_simp;refine ab.o _ _ ⟨⟨B2.o.box.cells.2.2,B2.o.a.cells.1⟩,by rw[a8 _ m 0 _ _ (0,0) ((eO z ⟨gr,x,O⟩ _ m GP.o).trans t.o)];rfl,by rw[a8 _ m 1 _ _ (0,0) ((eO z ⟨gr,x,O⟩ _ m GP.o).trans t.o)];rfl,(iE (eO z ⟨gr,x,O⟩ _ j Ql.o)).trans aj.o⟩ (fun DC=>?_);clear ab K' aq DC q0 q1 GG t aj H iV
   generalize (AF z ⟨gr,x,O⟩ (J (I ⟨G,0,O⟩) (sz (ah V) x) (sz (ah V) x)))=z3 at *;(try simp only[gE,aP]);refine eV ao ?_ _
   obtain⟨XP,XR,HD⟩:∃XP XR,we (fk w gm gv gp gr cv (J (I ⟨j,n,O⟩) (Z V) ca) (J b (Z L) cb) (J c (Z R) cc) V (eh (d.take (i+1)) L) (dV V (d.take (i+1)) (cC R)) (Z L) (Z R) Xv XP XR z3):=by
    have h9:=B2.o;rw[<- Y.o.1, <- Y.o.2] at h9;exact⟨_,_,h9⟩
   clear B2 Y pY an;go_wp2_with fail
   go_roundw
   case rel=>exact⟨i+1,XP,XR,al,bd,HD⟩
   case measure=>simp[intOf];omega
  ·have OC:i=Z d:=al
   rw[OC,iP] at H;have ai:=H.o.a.res;have f0:=eA _ (w.heap.size+1) 0 _ _ ai;have f1:=eA _ (w.heap.size+1) 1 _ _ ai;have f2:=eA _ (w.heap.size+1) 2 _ _ ai;obtain⟨n0,n1,n2⟩:=H.o.box.cells;obtain⟨r0,r1,r2⟩:=H.o.a.res.cells;have bo:=H.o.low;clear OC;go_wp2_with fail
   refine cN (bZ.result2' (((ai.set0 _).set1 _).set2 _) rfl _ rfl) rfl ?_;have Q:=(((eK.refl [w.heap.size+1] wr).put (b:=w.heap.size+1) (yp aE) 0 (J (I ⟨gv,0,O⟩) (Z V) cv)).put (b:=w.heap.size+1) (yp aE) 1 (J (I ⟨gp,0,O⟩) (Z L) (Z L))).put (b:=w.heap.size+1) (yp aE) 2 (J (I ⟨gr,0,O⟩) (Z R) (Z R));(have Dj:=Q.more (hs:=[gv,gp,gr,w.heap.size+1]) fun g s=>by rw[bD.1 s];simp);have Ys:=H.o.v.keep Dj (Q.block gv H.o.lts.1 (by simp;omega));have az:=H.o.p.keep Dj (Q.block gp H.o.lts.2.1 (by simp;omega));have vA:=H.o.r.keep Dj (Q.block gr H.o.lts.2.2 (by simp;omega));refine⟨I ⟨gv,0,O⟩,I ⟨gp,0,O⟩,I ⟨gr,0,O⟩,cv,Z L,Z R,?_,⟨Ys.Fd,az.pars,vA.rows⟩,az.lsn,Q.low H.o.a.bel fun g s=>by rw[bD.1 s];omega⟩;rw[H.o.nl,H.o.nr];rfl
theorem atd (a b c f:Kd) (ca cb cc g:Nat) (V:List Vr) (L:List Kx) (R:List (List Fr)) (D:List (Int×Int)) (w:wA) (h:jc w a b c V L R) (hs:sX V L R) (F:j9 w f D) (o:Z D<=1000) (B7:Z D<=g) (k:iq V L R D=0):
  c6 9 #[zp #[J a (Z V) ca,J b (Z L) cb,J c (Z R) cc],J f (Z D) g] w fun e w'=>∃(i d j:Kd) (y T p:Nat),e=yk (zz #[zp #[J i (Z V) y,J d (Z (eh (nF D) L)) T,J j (Z (dV V (nF D) (cC R))) p],E yR 0])/\jc w' i d j V (eh (nF D) L) (dV V (nF D) (cC R))/\pU w' d (eh (nF D) L)/\da w w':=by
 obtain⟨m,z,n⟩:=T9 k;obtain⟨l,q,_,_,rfl,_⟩:=h.Fd 0 (ah2 m hs).1;exact atf l q b c f ca cb cc g V L R D (nF D) w h hs F o B7 k z n
theorem al8 (a:Kd) (cap:Nat) (l:List Fr) (w:wA) (h:dE w a l) (B9:∀k (h:k<Z l),l[k].2.1.size+l[k].2.2.size<=40000) (B7:∀k,k<=Z l ->qw (b9 (l.take k))<=40000) (B1:Z l<=10000):
  c6 28 #[J a (Z l) cap] w (dj w (C (b9 l))):=by
 have F:=aF h;clear h;have B6:we (b9 (l.take (Z l))=b9 l):=by show _=_;rw[iP]
 have B2:=aF (fun V=>WX 0 V al al);rw[MB] at B2;go_enter func28,ntmps28;have r:=aL.at (w:=w) rfl x3 ⟨#[]⟩ ⟨#[]⟩;have b:da w (w.alloc (FC x3 ⟨#[]⟩ ⟨#[]⟩)):=(aw _ w).alloc (ak _) _;go_wp2_with fail
 refine(B2.o _).af ?_;rintro e v ⟨rfl,f⟩;have x:=r.aa f r.lt;have d:da w v:=b.trans (f.af b.size);clear r b f;rw[qf];go_wp2_with fail
 have ab:=x.lt;go_loopw [4] (fun iv wr=>∃k:Nat,k<=Z l/\iv=E yR k/\we (aL wr v.heap.size (aV (b9 (l.take k))) (nu (b9 (l.take k))) (de (b9 (l.take k))))/\we (aL wr w.heap.size x3 ⟨#[]⟩ ⟨#[]⟩)/\da w wr) (fun iv _=>Z l - (intOf iv).toNat)
 case atStart=>exact⟨0,aX _,rfl,aL.at rfl _ _ _,x.alloc _,d.alloc d.size _⟩
 case round=>
  obtain⟨k,D,rfl,S,H,c⟩:=hrel;by_cases t:k<Z l
  ·obtain⟨g,o,rfl,Y,Q,R,T⟩:=(F.o.aa c) k t;have A:=take_one t;have P:=B9 k t;have U:=B7 k D;have K:=wS (b9 (l.take k));have z:=aF (fun V=>amq (aV (b9 (l.take k))) l[k].1 (nu (b9 (l.take k))) (de (b9 (l.take k))) l[k].2.1 l[k].2.2 V al al);rw[kN,show val l[k].1 l[k].2.1 l[k].2.2=cV l[k] from rfl, <- A] at z;have u:=S.o;clear S A P U K;generalize l[k].1=fn at *;generalize l[k].2.1=fx at *;generalize l[k].2.2=fy at *;obtain⟨p,q,s,j,m,n⟩:=u.facts;have X:=u.lt;go_upto_region 5 with fail
   go_region_with (
     (go_at_call 71;refine(z.o _).af ?_;rintro e w2 ⟨rfl,i⟩;have y:=u.drew.aa i u.lt;have M:=(aL.drew H.o).aa i H.o.lt;have L:=c.drew.trans (i.af c.size);obtain⟨p,q,s,j,m,n⟩:=y.facts;rw[qf]))
   all_goals
    go_wp2;go_roundw
    case rel=>exact⟨k+1,al,bd,y.put _ _ _,M.far3 al _ _ _,eJ L d.size _ _ _⟩
    case measure=>simp[intOf];omega
  ·obtain rfl:k=Z l:=al
   have u:=S.o;rw[B6.o] at u;obtain⟨p,q,s,j,m,n⟩:=u.facts;obtain⟨j0,j1,j2,i0,i1,i2⟩:=H.o.facts;go_wp2;refine cN ((H.o.put _ _ _).result rfl _ rfl) rfl ?_;exact⟨rfl,eJ c (ak _) _ _ _⟩
theorem apM (a:Kd) (ca f:Nat) (lb:Array wQ) (F:Kx) (p:Int ->Bool) (w:wA) (h:aC w a F) (K:Z F<=1000) (D:∀u w,(callFunc f u).run prog w=.ok (.enter f u) w)
  (s:∀q∈F,∀U:wA,da w U ->c6 f (#[E yR q]++lb) U fun e w'=>e=yk (zd (p q))/\da U w'):
  c6 149 #[J a (Z F) ca,.func (.func f) #[] lb] w fun e w'=>∃j:Int,e=yk (E yR j)/\decide (0<=j)=F.any p/\da w w':=by
 have v:=Fa h;have P:=Fa s
 have B6:we ((∀i (c:i<Z F),p F[i]=x3) ->F.any p=x3):=fun d=>J4.2 fun q y=>by
  obtain⟨i,c,rfl⟩:=iQ y;rw[d i c];decide
 have Y:we (∀i (c:i<Z F),p F[i]=xq ->F.any p=xq):=fun i c d=>rV.2 ⟨_,bQ c,d⟩;clear h s;generalize F.any p=R at *;go_enter func149,ntmps149;go_wp2_with fail
 go_loopw [8] (fun iv wr=>∃i:Nat,i<=Z F/\iv=E yR i/\we (∀j (b:j<Z F),j< i ->p F[j]=x3)/\we (da w wr)) (fun iv _=>Z F - (intOf iv).toNat)
 case atStart=>exact⟨0,aX _,rfl,(fun j _ b=>absurd b al),aw _ _⟩
 case round=>
  obtain⟨i,c,rfl,m,H⟩:=hrel;by_cases l:i<Z F
  ·obtain⟨g,o,rfl,x,n⟩:=v.o i l;have L:=(H.o.cell (p:=⟨g,_,O⟩) x).trans n;have k:=Fa (P.o F[i] (bQ l) wr H.o);have A:=Fa (Y.o i l)
   have z:we (p F[i]=x3 ->∀j (b:j<Z F),j<i+1 ->p F[j]=x3):=fun e j b B2=>by
    rcases dR j i with r |r
    ·exact m.o j b r
    ·obtain rfl:j=i:=al
     exact e
   clear n;generalize p F[i]=q at *;generalize F[i]=B7 at *;go_wp2_with fail
   refine k.o.af ?_;rintro e M ⟨rfl,t⟩;have B1:=Fa (H.o.trans (t.af H.o.size));clear t k;cases q with
   |true=>
    have B9:=Fa (A.o rfl);go_wp2;go_ret;exact⟨(i:Nat),rfl,by rw[B9.o];simp,B1.o⟩
   |false=>
    have B9:=Fa (z.o rfl);go_wp2;go_roundw
    case rel=>exact⟨i+1,al,bd,B9,B1⟩
    case measure=>simp[intOf];omega
  ·obtain rfl:i=Z F:=al
   have B9:=Fa (B6.o fun j b=>m.o j b b);go_wp2;go_ret;exact⟨-1,rfl,by rw[B9.o];rfl,H.o⟩
theorem asF (a:Kd) (ca f:Nat) (lb:Array wQ) (F:Kx) (p:Int ->Bool) (w:wA) (h:aC w a F) (n:Z F<=1000) (i:∀g w,(callFunc f g).run prog w=.ok (.enter f g) w)
  (c:∀q∈F,∀U:wA,da w U ->c6 f (#[E yR q]++lb) U fun e w'=>e=yk (zd (p q))/\da U w'):
  c6 93 #[J a (Z F) ca,.func (.func f) #[] lb] w (dj w (zd (F.any p))):=by
 have B7:=Fa (apM a ca f lb F p w h n i c);clear h c;generalize F.any p=R at *;go_enter func93,ntmps93;go_wp2_with fail
 refine B7.o.af ?_;rintro e k ⟨j,rfl,b,d⟩;have H:=Fa d;have B6:=Fa b;clear d b;go_wp2;go_ret;exact⟨by rw[<- B6.o];rfl,H.o⟩
theorem amF (a:Kd) (ca:Nat) (F:List (Int×Int)) (v:Int) (B:Nat) (w:wA) (h:j9 w a F) (n:Z F<=1000) (c:AJ w ⟨B,0,O⟩=I (J a (Z F) ca)):
  c6 94 #[E yR v,zZ (I ⟨B,0,O⟩)] w (dj w (zd (F.any fun p=>p.1==v))):=by
 have B7:=Fa (X9 a ca F v w h n);clear h;generalize (F.any fun p=>p.1==v)=R at *;go_enter func94,ntmps94;go_wp2_with fail
 refine B7.o.af ?_;rintro e d ⟨rfl,b⟩;have H:=Fa b;clear b;go_wp2;go_ret;exact⟨rfl,H.o⟩
theorem afG (a b c q f:Kd) (ca cb cc u d:Nat) (V:List Vr) (L:List Kx) (R:List (List Fr)) (Q:Kx) (F:List (Int×Int)) (w:wA) (h:Ay w a b c V L R) (hq:aC w q Q) (hQ:Z Q<=1000) (hF:j9 w f F) (hn:Z F<=1000) (qI:Z F<=d):
  c6 44 #[zp #[J a (Z V) ca,J b (Z L) cb,J c (Z R) cc],J q (Z Q) u,J f (Z F) d] w fun e w'=>sU (jN V L R Q F).1 (jN V L R Q F).2 (jO V L R Q F) e w'/\da w w':=by
 have AL:=Fa (fun (U:wA) (j:da w U)=>SJ a b c f ca cb cc d V L R F U (h.net.aa j) h.sm (hF.aa j) hn qI);have ie:=Fa (fun (U:wA) (j:da w U)=>NI a b c ca cb cc (Z L) (Z R) V U (h.net.aa j).Fd h.sm.Fd.1)
 have QB:we (∀(G:Nat) (U:wA),da w U ->cZ U G (ah V) ->c6 92 #[J (I ⟨G,0,O⟩) (Z V) (Z V),J q (Z Q) u] U fun e w'=>e=yk (zz #[E yR (kE (iL (ah V)) Q).1,E yR (kE (iL (ah V)) Q).2])/\da U w'):=fun G U j hi=>by
  have P:Z (iL (ah V))=Z V:=by rw[bM,lQ]
  have bk:=h.sm.Fd.1;have:=Rq (I ⟨G,0,O⟩) q (Z V) u (iL (ah V)) Q U hi.ints (hq.aa j) (by rw[P];omega) al;rwa [P] at this
 have JJ:we (∀(B:Nat) (U:wA),da w U ->B<U.heap.size ->AJ U ⟨B,0,O⟩=I (J f (Z F) d) ->c6 93 #[J q (Z Q) u,.func (.func 94) #[] #[zZ (I ⟨B,0,O⟩)]] U fun e w'=>e=yk (zd (F.any fun p=>jQ p.1 Q))/\da U w'):=fun B U j hB hc=>by
  rw[atF];exact asF q u 94 #[zZ (I ⟨B,0,O⟩)] Q (fun v=>F.any fun p=>p.1==v) U (hq.aa j) hQ (enters_of func94 ao rfl) (fun v _ U' Tw=>amF f d F v B U' ((hF.aa j).aa Tw) hn ((Tw.cell (p:=⟨B,0,O⟩) hB).trans hc))
 have Z2:iq V L R F=0 ->(kE (iL (ah V)) Q).2=0 ->aU V L R=0/\F=zF (nF F)/\fj (ah V) (Z V) (nF F)/\Up Q (Z V):=fun e i=>by
  obtain⟨l,n,e4⟩:=T9 e;exact⟨l,n,e4,asB i⟩
 have Jk:we (iq V L R F=0 ->(kE (iL (ah V)) Q).2=0 ->(F.any fun p=>jQ p.1 Q)=x3 ->∀U:wA,da w U ->c6 95 #[zp #[J a (Z V) ca,J b (Z L) cb,J c (Z R) cc],J q (Z Q) u,J f (Z F) d] U fun e w'=>∃x y,e=yk (zp #[x,y])/\bL w' x y (cP V L R Q (nF F))/\da U w'):=fun e i n U j=>by
  obtain⟨m,hz,hl,z⟩:=Z2 e i;have Y:=hF.aa j;rw[hz] at Y n;have aM:=h.aa j;have:=apO a b c q f ca cb cc u d V L R Q (nF F) U aM.net aM.ls h.sm h.wt m h.lt (hq.aa j) z Y hl (atB z n) (fun U' Tw=>aie a b c ca cb cc V L R U' Tw h.sm);rw[<- A4, <- hz] at this;exact this
 have jJ:we (iq V L R F=0 ->(kE (iL (ah V)) Q).2=0 ->(F.any fun p=>jQ p.1 Q)=x3 ->∀(G:Nat) (x y:wQ) (U:wA),cZ U G (ah V) ->bL U x y (cP V L R Q (nF F)) ->c6 63 #[J (I ⟨G,0,O⟩) (Z V) (Z V),zp #[x,y]] U fun e w'=>sU (jN V L R Q F).1 (jN V L R Q F).2 (jO V L R Q F) e w'/\da U w'):=fun e i n G x y U hi hv=>by
  obtain⟨m,hz,hl,z⟩:=Z2 e i;have P:Z (iL (ah V))=Z V:=by rw[bM,lQ]
  have h8:=(fK m).n8;have h5:=ab9 m z (nF F) (h.few m);have aW:=aki m z (nF F);obtain⟨b',c',eT,jT,rfl,rfl,Y,h2,_⟩:=hv;have aR:xE V L R Q F=0:=by rw[xE,aA e,aA i,aD (by rw[n];decide)]
  by_cases aj:b9 (cP V L R Q (nF F)).2=0
  ·have l:jO V L R Q F=3:=by rw[jO,aA aR,aA aj]
   (have e5:jN V L R Q F=([],[]):=by rw[jN,l,aD a6]);rw[l,e5];have:=akA (I ⟨G,0,O⟩) b' c' (Z V) eT jT (iL (ah V)) Q (cP V L R Q (nF F)).2 U hi.ints Y h2 (by rw[P];omega) al aW (Rm m h.lt Q (nF F)) (Rl m h.lt z (nF F)) al aj;rwa [P] at this
  ·have l:jO V L R Q F=0:=by rw[jO,aA aR,aD aj]
   (have e5:jN V L R Q F=(Q,vo (cP V L R Q (nF F)).2):=by rw[jN,aA l]);rw[l,e5];have:=akC (I ⟨G,0,O⟩) b' c' (Z V) eT jT (iL (ah V)) Q (cP V L R Q (nF F)).2 U hi.ints Y h2 (by rw[P];omega) al aW (Rm m h.lt Q (nF F)) (Rl m h.lt z (nF F)) al aj;rwa [P] at this
 have H:we (∀k,xE V L R Q F=k ->k≠0 ->jO V L R Q F=k/\jN V L R Q F=([],[])):=fun k e i=>by
  have l:jO V L R Q F=k:=by rw[jO,aD (by rw[e];exact i),e]
  exact⟨l,by rw[jN,l,aD i]⟩
 have CC:we (iq V L R F≠0 ->xE V L R Q F=iq V L R F):=fun e=>aD e;have wB:we (iq V L R F=0 ->(kE (iL (ah V)) Q).2≠0 ->xE V L R Q F=(kE (iL (ah V)) Q).2):=fun e i=>by rw[xE,aA e,aD i]
 have Ms:we (iq V L R F=0 ->(kE (iL (ah V)) Q).2=0 ->(F.any fun p=>jQ p.1 Q)=xq ->xE V L R Q F=7):=fun e i n=>by rw[xE,aA e,aA i,aA n]
 generalize jO V L R Q F=pe at *;generalize jN V L R Q F=t at *;generalize xE V L R Q F=ae at *;generalize cP V L R Q (nF F)=TT at *;generalize iq V L R F=fe at *;generalize (F.any fun p=>jQ p.1 Q)=fq at *;clear h hq hF Z2 qI;have nP:=(aw w.heap.size w).alloc (ak _) (NC (J a (Z V) ca) (J b (Z L) cb) (J c (Z R) cc));have gN:=nP.alloc nP.size (yd #[J f (Z F) d] 28);have HA:=Fa (gN.alloc gN.size (TC (J O 0 0) (J O 0 0)));have bb:(w.alloc (NC (J a (Z V) ca) (J b (Z L) cb) (J c (Z R) cc))).heap.size=w.heap.size+1:=aE
 have bd:((w.alloc (NC (J a (Z V) ca) (J b (Z L) cb) (J c (Z R) cc))).alloc (yd #[J f (Z F) d] 28)).heap.size=w.heap.size+1+1:=aE
 have AE:we (bZ (((w.alloc (NC (J a (Z V) ca) (J b (Z L) cb) (J c (Z R) cc))).alloc (yd #[J f (Z F) d] 28)).alloc (TC (J O 0 0) (J O 0 0))) w.heap.size (J a (Z V) ca) (J b (Z L) cb) (J c (Z R) cc)):=by
  have hN:=bZ.at (w:=w) rfl (J a (Z V) ca) (J b (Z L) cb) (J c (Z R) cc);have Ae:=hN.aa ((aw _ _).alloc (ak _) (yd #[J f (Z F) d] 28)) hN.lt;exact Ae.aa ((aw _ _).alloc (ak _) (TC (J O 0 0) (J O 0 0))) Ae.lt
 have Ef:we (Boxed (((w.alloc (NC (J a (Z V) ca) (J b (Z L) cb) (J c (Z R) cc))).alloc (yd #[J f (Z F) d] 28)).alloc (TC (J O 0 0) (J O 0 0))) (w.heap.size+1) 28 (J f (Z F) d)):=by
  have:=(bE (w.alloc (NC (J a (Z V) ca) (J b (Z L) cb) (J c (Z R) cc))) 28 (J f (Z F) d)).alloc (TC (J O 0 0) (J O 0 0));rwa [bb] at this
 have nV:we (bh (((w.alloc (NC (J a (Z V) ca) (J b (Z L) cb) (J c (Z R) cc))).alloc (yd #[J f (Z F) d] 28)).alloc (TC (J O 0 0) (J O 0 0))) (w.heap.size+1+1) (J O 0 0) (J O 0 0)):=bh.at (w:=(w.alloc (NC (J a (Z V) ca) (J b (Z L) cb) (J c (Z R) cc))).alloc (yd #[J f (Z F) d] 28)) bd _ _;obtain⟨n0,n1,n2⟩:=AE.o.cells;have x0:=Ef.o.cell;clear nP gN bb bd;go_enter func44,ntmps44;go_wp2_with fail
 generalize (((w.alloc (NC (J a (Z V) ca) (J b (Z L) cb) (J c (Z R) cc))).alloc (yd #[J f (Z F) d] 28)).alloc (TC (J O 0 0) (J O 0 0)))=W0 at *;refine(AL.o W0 HA.o).af ?_;rintro e w2 ⟨rfl,ab⟩;have B1:=Fa (HA.o.trans (ab.af HA.o.size));have pV:=Fa (AE.o.aa ab AE.o.lt);have rJ:=Fa (bB Ef.o ab);have S:=Fa (nV.o.aa ab nV.o.lt);clear n0 n1 n2 x0 ab HA AE Ef nV AL;by_cases kW:fe=0
 ·subst kW;have vZ:=Fa (Jk.o rfl);have Ey:=Fa (jJ.o rfl);have ax:=Fa (wB.o rfl);have av:=Fa (Ms.o rfl);obtain⟨n0,n1,n2⟩:=pV.o.cells;clear CC wB Ms Jk jJ;go_wp2_with fail
  refine(ie.o w2 B1.o).af ?_;rintro e w3 ⟨G,rfl,hG,ay,ad⟩;have eE:=Fa (B1.o.trans (ad.af B1.o.size));have Mn:=Fa (pV.o.aa ad pV.o.lt);have tO:=Fa (bB rJ.o ad);have jd:=Fa (S.o.aa ad S.o.lt);have az:=Fa (QB.o G w3 eE.o ay);have y8:=Fa ay;clear n0 n1 n2 ad ay hG B1 pV rJ S ie QB;generalize (kE (iL (ah V)) Q).1=c1 at *;generalize (kE (iL (ah V)) Q).2=c2 at *;go_wp2_with fail
  refine az.o.af ?_;rintro e w4 ⟨rfl,D⟩;have X:=Fa (eE.o.trans (D.af eE.o.size));have xR:=Fa (Mn.o.aa D Mn.o.lt);have Ee:=Fa (bB tO.o D);have jI:=Fa (jd.o.aa D jd.o.lt);have an:=Fa (y8.o.aa D y8.o.lt);clear D eE Mn tO jd y8 az;by_cases ai:c2=0
  ·subst ai;have ar:=Fa (vZ.o rfl);have Qj:=Fa (Ey.o rfl);have JH:=Fa (av.o rfl);have CB:=Fa (JJ.o (w.heap.size+1) w4 X.o Ee.o.lt Ee.o.cell);clear ax av vZ Ey JJ;go_wp2_with fail
   refine CB.o.af ?_;rintro e w5 ⟨rfl,B7⟩;have T:=Fa (X.o.trans (B7.af X.o.size));have Jt:=Fa (xR.o.aa B7 xR.o.lt);have yQ:=Fa (bB Ee.o B7);have uR:=Fa (jI.o.aa B7 jI.o.lt);have q7:=Fa (an.o.aa B7 an.o.lt);clear B7 X xR Ee jI an CB;cases fq with
   |true=>
    obtain⟨r,s⟩:=H.o 7 (JH.o rfl) a6;have yU:=Fa r;have tX:=Fa s;obtain⟨t0,t1,f0,f1⟩:=uR.o.facts;have B9:=Fa (uR.o.put (J O 0 0) (J O 0 0));have A:=Fa (rG (g:=w.heap.size+1+1) T.o al (J O 0 0) (J O 0 0));clear r s H JH ar Qj;go_wp2;refine cN (B9.o.result2 rfl _ rfl) rfl ?_;exact⟨by rw[yU.o,tX.o];exact sU.empty 7 _,A.o⟩
   |false=>
    have yS:=Fa (ar.o rfl w5 T.o);have Jr:=Fa (Qj.o rfl);obtain⟨n0,n1,n2⟩:=Jt.o.cells;have x0:=yQ.o.cell;clear H JH ar Qj;go_wp2_with fail
    refine yS.o.af ?_;rintro e w6 ⟨x,y,rfl,BG,gZ⟩;have CE:=Fa (T.o.trans (gZ.af T.o.size));have aq:=Fa (uR.o.aa gZ uR.o.lt);have aJ:=Fa (Jr.o G x y w6 (q7.o.aa gZ q7.o.lt) BG);obtain⟨xs,xn,xc,rfl⟩:=BG.slices.1;obtain⟨ys,yn,yc,rfl⟩:=BG.slices.2;clear n0 n1 n2 x0 BG gZ T Jt yQ uR q7 yS Jr;go_wp2_with fail
    refine aJ.o.af ?_;rintro e w7 ⟨⟨M,B2,K,B6,rfl,FZ,a1⟩,eR⟩;have xp:=aq.o.aa eR aq.o.lt;have Aj:=CE.o.trans (eR.af CE.o.size);obtain⟨t0,t1,f0,f1⟩:=xp.facts;have B9:=Fa (xp.put (J M t.1.length K) (J B2 t.2.length B6));have bg:=Fa (FZ.putT xp (slv _ _ _) (slv _ _ _) (slv M t.1.length K) (J B2 t.2.length B6));have bf:=Fa (a1.putT xp (slv _ _ _) (slv _ _ _) (slv M t.1.length K) (J B2 t.2.length B6));have A:=Fa (rG (g:=w.heap.size+1+1) Aj al (J M t.1.length K) (J B2 t.2.length B6));clear FZ a1 eR xp Aj aJ aq CE;go_wp2;refine cN (B9.o.result2 rfl _ rfl) rfl ?_;exact⟨⟨M,B2,K,B6,rfl,bg.o,bf.o⟩,A.o⟩
  ·obtain⟨r,s⟩:=H.o c2 (ax.o ai) ai;have yU:=Fa r;have tX:=Fa s;(have yE:(c2==0)=false:=by simpa using ai);obtain⟨t0,t1,f0,f1⟩:=jI.o.facts;have B9:=Fa (jI.o.put (J O 0 0) (J O 0 0));have A:=Fa (rG (g:=w.heap.size+1+1) X.o al (J O 0 0) (J O 0 0));clear r s ai H ax av vZ Ey;go_wp2;refine cN (B9.o.result2 rfl _ rfl) rfl ?_;exact⟨by rw[yU.o,tX.o];exact sU.empty c2 _,A.o⟩
 ·obtain⟨r,s⟩:=H.o fe (CC.o kW) kW;have yU:=Fa r;have tX:=Fa s;have yE:(fe==0)=false:=by simpa using kW
  obtain⟨t0,t1,f0,f1⟩:=S.o.facts;have B9:=Fa (S.o.put (J O 0 0) (J O 0 0));have A:=Fa (rG (g:=w.heap.size+1+1) B1.o al (J O 0 0) (J O 0 0));clear r s kW H CC wB Ms Jk jJ;go_wp2;refine cN (B9.o.result2 rfl _ rfl) rfl ?_;exact⟨by rw[yU.o,tX.o];exact sU.empty fe _,A.o⟩
def KU (D:List (Int×Int)) (Y:Kx) (F:List (Int×Int)):Bool:=D.any fun p=>Y.contains p.1 ||F.any fun q=>q.1==p.1
theorem ao4 (q:Int×Int) (y f:Kd) (cy j:Nat) (Y:Kx) (F:List (Int×Int)) (B C:Nat) (w:wA) (s:B<w.heap.size) (t:C<w.heap.size) (n:AJ w ⟨B,0,O⟩=I (J y (Z Y) cy)) (k:AJ w ⟨C,0,O⟩=I (J f (Z F) j)) (m:aC w y Y) (D:Z Y<=1000) (l:j9 w f F) (u:Z F<=1000):
  c6 97 #[zp #[E yR q.1,E yR q.2],zZ (I ⟨B,0,O⟩),zZ (I ⟨C,0,O⟩)] w (dj w (zd (Y.contains q.1 ||F.any fun p=>p.1==q.1))):=by
 obtain⟨a,b⟩:=q;show c6 97 #[zp #[E yR a,E yR b],zZ (I ⟨B,0,O⟩),zZ (I ⟨C,0,O⟩)] w fun e w'=>e=yk (zd (Y.contains a ||F.any fun p=>p.1==a))/\da w w';have h:=(aw w.heap.size w).alloc (ak _) (yd #[E yR a,E yR b] 30);have x:=(h.cell (p:=⟨B,0,O⟩) s).trans n;have kC:=(h.cell (p:=⟨C,0,O⟩) t).trans k;have H:=Fa (fun (U:wA) (g:da w U)=>acK y cy Y a U (m.aa g) al);have V:=Fa (fun (U:wA) (g:da w U)=>X9 f j F a U (l.aa g) u);have i:(AC w (yd #[E yR a,E yR b] 30)).heap[w.heap.size]? =I (yd #[E yR a,E yR b] 30 (0,0)):=dU w _;have v:AJ (AC w (yd #[E yR a,E yR b] 30)) ⟨w.heap.size,0,O⟩=I (E yR a):=by rw[a8 _ _ _ _ _ (0,0) i];rfl
 have A:=Fa h;have R:=Fa i;have z:=Fa k;clear n k m l h i;generalize Y.contains a=r at *;generalize (F.any fun p=>p.1==a)=b2 at *;go_enter func97,ntmps97;go_wp2_with fail
 refine(H.o _ A.o).af ?_;rintro e B9 ⟨rfl,d⟩;subst d;have c:=A;clear H x R A z;cases r with
 |true=>
  go_wp2;go_ret;exact⟨rfl,c.o⟩
 |false=>
  go_wp2_with fail
  refine(V.o _ c.o).af ?_;rintro e B7 ⟨rfl,d⟩;have B1:=Fa (c.o.trans (d.af c.o.size));clear d V c v kC;go_wp2;go_ret;exact⟨rfl,B1.o⟩
theorem ao3 (d y f:Kd) (a cy c:Nat) (D:List (Int×Int)) (Y:Kx) (F:List (Int×Int)) (w:wA) (g:j9 w d D) (u:Z D<=1000) (j:aC w y Y) (t:Z Y<=1000) (i:j9 w f F) (v:Z F<=1000):
  c6 45 #[J d (Z D) a,J y (Z Y) cy,J f (Z F) c] w (dj w (zd (KU D Y F))):=by
 have n:=(aw w.heap.size w).alloc (ak _) (yd #[J y (Z Y) cy] 27);have A:da w (AC (AC w (yd #[J y (Z Y) cy] 27)) (yd #[J f (Z F) c] 28)):=n.alloc n.size _
 have x:AJ (AC (AC w (yd #[J y (Z Y) cy] 27)) (yd #[J f (Z F) c] 28)) ⟨w.heap.size,0,O⟩=I (J y (Z Y) cy):=by
  have b:=bE w 27 (J y (Z Y) cy);exact(((aw _ (AC w (yd #[J y (Z Y) cy] 27))).alloc (ak _) (yd #[J f (Z F) c] 28)).cell (p:=⟨w.heap.size,0,O⟩) b.lt).trans b.cell
 have l:AJ (AC (AC w (yd #[J y (Z Y) cy] 27)) (yd #[J f (Z F) c] 28)) ⟨w.heap.size+1,0,O⟩=I (J f (Z F) c):=by
  simp
 have s:w.heap.size+1<(AC (AC w (yd #[J y (Z Y) cy] 27)) (yd #[J f (Z F) c] 28)).heap.size:=aE
 have r:=Fa (ah3 d a 97 #[zZ (I ⟨w.heap.size,0,O⟩),zZ (I ⟨w.heap.size+1,0,O⟩)] D (fun p=>Y.contains p.1 ||F.any fun q=>q.1==p.1) _ (g.aa A) u (enters_of func97 ao rfl) (fun q _ U h=>ao4 q y f cy c Y F w.heap.size (w.heap.size+1) U (by have:=h.size;omega) (by have:=h.size;omega) ((h.cell (p:=⟨w.heap.size,0,O⟩) (by show w.heap.size<_;omega)).trans x) ((h.cell (p:=⟨w.heap.size+1,0,O⟩) s).trans l) ((j.aa A).aa h) t ((i.aa A).aa h) v));have H:=Fa A;clear g A x l j i n s;show Calls _ _ _ _ fun e w'=>e=yk (zd (D.any fun p=>Y.contains p.1 ||F.any fun q=>q.1==p.1))/\da w w';generalize (D.any fun p=>Y.contains p.1 ||F.any fun q=>q.1==p.1)=R at *;go_enter func45,ntmps45;go_wp2_with fail
 refine r.o.af ?_;rintro e z ⟨rfl,k⟩;have m:=Fa (H.o.trans (k.af H.o.size));clear k;go_wp2;go_ret;exact⟨rfl,m.o⟩
variable {F:List (Int×Int)}
def DV (V:List Vr) (L:List Kx) (R:List (List Fr)) (Y:Kx) (D F:List (Int×Int)):Int:=
 if iq V L R D=0 then(if (jO V (eh (nF D) L) (dV V (nF D) (cC R)) Y F=0∨jO V (eh (nF D) L) (dV V (nF D) (cC R)) Y F=3)/\KU D Y F=xq then 7 else jO V (eh (nF D) L) (dV V (nF D) (cC R)) Y F) else iq V L R D
def I3 (V:List Vr) (L:List Kx) (R:List (List Fr)) (Y:Kx) (D F:List (Int×Int)):Tb:=
 if DV V L R Y D F=0 then jN V (eh (nF D) L) (dV V (nF D) (cC R)) Y F else([],[])
theorem amM {Y:Kx} (h:jO V L R Y F≠0):jN V L R Y F=([],[]):=by rw[jN,aD h]
structure VA (V:List Vr) (L:List Kx) (R:List (List Fr)) (d:List (Nat×Nat)):Prop where
 sm:sX V (eh d L) (dV V d (cC R))
 wt:∀l∈dV V d (cC R),fw l<=4200
 lt:q9 V (dV V d (cC R))
theorem Sj {x:wQ} (f:bh U g x y) (i:bW x) (j:bW y) {b:Kd} (h:n≠0 ->∃g' o v,b=I ⟨g',o,O⟩/\U.cell? ⟨g',o,O⟩=I v/\¬bW v):pT [g] b n:=fun g' o e M m=>by
 obtain⟨k,l,v,a,c,d⟩:=h M;rw[e] at a;cases a;rw[bD.1 m] at c;rw[a8 U g o _ _ (0,0) f] at c;match o,c with
 |0,c=>cases c;exact d i
 |1,c=>cases c;exact d j
 |o+2,c=>simp at c
structure ug (w U:wA) (x y z:wQ):Prop where
 bx:bZ U w.heap.size x y z
 res:bh U (w.heap.size+1) (J O 0 0) (J O 0 0)
 bel:da w U
theorem ug.begin (w:wA) (x y z:wQ):ug w (AC (AC w (yd #[x,y,z] 26)) (yd #[J O 0 0,J O 0 0] 38)) x y z:=
 have a:Below (AC w (yd #[x,y,z] 26)).heap.size (AC w (yd #[x,y,z] 26)) (AC (AC w (yd #[x,y,z] 26)) (yd #[J O 0 0,J O 0 0] 38)):=(aw _ _).alloc (ak _) _;have e:bZ (AC w (yd #[x,y,z] 26)) w.heap.size x y z:=bZ.at (w:=w) rfl _ _ _;⟨e.aa a e.lt,by have:=dU (AC w (yd #[x,y,z] 26)) (yd #[J O 0 0,J O 0 0] 38);simpa [bh] using this,((aw _ w).alloc (ak _) _).alloc aE _⟩
theorem ug.step {x:wQ} (h:ug w U x y z) (b:da U U'):ug w U' x y z:=⟨h.bx.aa b h.bx.lt,h.res.aa b h.res.lt,h.bel.trans (b.af h.bel.size)⟩
theorem ug.cells {x:wQ} (h:ug w U x y z):AJ U ⟨w.heap.size,0,O⟩=I x/\U.cell? ⟨w.heap.size,1,O⟩=I y/\U.cell? ⟨w.heap.size,2,O⟩=I z:=h.bx.cells
theorem ug.o {x:wQ} (h:ug w U x y z) (p q:wQ):da w (AF (AF U ⟨w.heap.size+1,0,O⟩ p) ⟨w.heap.size+1,1,O⟩ q)/\(∀(b:Kd) (l:Kx),aC U b l ->aC (AF (AF U ⟨w.heap.size+1,0,O⟩ p) ⟨w.heap.size+1,1,O⟩ q) b l)/\(∀(b:Kd) (l:List Fr),dE U b l ->dE (AF (AF U ⟨w.heap.size+1,0,O⟩ p) ⟨w.heap.size+1,1,O⟩ q) b l):=by
 have d:=((eK.refl [w.heap.size+1] U).put (b:=w.heap.size+1) (yp aE) 0 p).put (b:=w.heap.size+1) (yp aE) 1 q;have hs:=slv O 0 0;refine⟨d.low h.bel fun g i=>by rw[bD.1 i];omega,fun b l a=>KX a (Sj h.res hs hs fun f=>?_) d,fun b l a=>LA a (Sj h.res hs hs fun f=>?_) d⟩
 ·obtain⟨g',o,e,_,c⟩:=a 0 al;exact⟨g',o,_,e,c,Sm⟩
 ·obtain⟨g',o,e,_,c,_⟩:=a 0 al;rw[oY,ji] at c;exact⟨g',o,_,e,c,XH⟩
theorem atc (a b c y d f:Kd) (ca cb cc cy cd cf:Nat) (V:List Vr) (L:List Kx) (R:List (List Fr)) (Y:Kx) (D F:List (Int×Int)) (w:wA) (h:Ay w a b c V L R) (hy:aC w y Y) (hY:Z Y<=1000) (hD:j9 w d D) (hd:Z D<=1000) (zV:Z D<=cd) (hF:j9 w f F) (hn:Z F<=1000) (qI:Z F<=cf) (Dw:iq V L R D=0 ->VA V L R (nF D)):
  c6 12 #[zp #[J a (Z V) ca,J b (Z L) cb,J c (Z R) cc],J y (Z Y) cy,J d (Z D) cd,J f (Z F) cf] w fun e w'=>sU (I3 V L R Y D F).1 (I3 V L R Y D F).2 (DV V L R Y D F) e w'/\da w w':=by
 have hA:ug w (AC (AC w (yd #[J a (Z V) ca,J b (Z L) cb,J c (Z R) cc] 26)) (yd #[J O 0 0,J O 0 0] 38)) (J a (Z V) ca) (J b (Z L) cb) (J c (Z R) cc):=ug.begin w _ _ _;by_cases X:iq V L R D=0
 ·obtain⟨o1,o2,o3⟩:=Dw X;have Qw:=Fa (fun (U:wA) (k:da w U)=>atd a b c d ca cb cc cd V L R D U (h.aa k).net h.sm (hD.aa k) hd zV X);have aj:=Fa (fun (U:wA) (k:da w U)=>ao3 d y f cd cy cf D Y F U (hD.aa k) hd (hy.aa k) hY (hF.aa k) hn)
  have yX:we (∀(H q B7:Kd) (yO Q B1:Nat) (U:wA),da w U ->jc U H q B7 V (eh (nF D) L) (dV V (nF D) (cC R)) ->pU U q (eh (nF D) L) ->c6 44 #[zp #[J H (Z V) yO,J q (Z (eh (nF D) L)) Q,J B7 (Z (dV V (nF D) (cC R))) B1],J y (Z Y) cy,J f (Z F) cf] U fun e w'=>sU (jN V (eh (nF D) L) (dV V (nF D) (cC R)) Y F).1 (jN V (eh (nF D) L) (dV V (nF D) (cC R)) Y F).2 (jO V (eh (nF D) L) (dV V (nF D) (cC R)) Y F) e w'/\da U w'):=fun H q B7 yO Q B1 U k K s=>
   afG H q B7 y f yO Q B1 cy cf V _ _ Y F U ⟨K,s,o1,o2,o3,fun _=>h.few (T9 X).1⟩ (hy.aa k) hY (hF.aa k) hn qI
  have Li:DV V L R Y D F=(if (jO V (eh (nF D) L) (dV V (nF D) (cC R)) Y F=0∨jO V (eh (nF D) L) (dV V (nF D) (cC R)) Y F=3)/\KU D Y F=xq then 7 else jO V (eh (nF D) L) (dV V (nF D) (cC R)) Y F):=by rw[DV,aA X]
  have ht:jO V (eh (nF D) L) (dV V (nF D) (cC R)) Y F≠0 ->jN V (eh (nF D) L) (dV V (nF D) (cC R)) Y F=([],[]):=amM;rw[I3,Li];have HT:=Fa ht;generalize eh (nF D) L=DL at *;generalize dV V (nF D) (cC R)=DR at *;generalize jO V DL DR Y F=p at *;generalize jN V DL DR Y F=T at *;generalize KU D Y F=m at *;obtain⟨R1,ad⟩:∃x:Tb,(if (if (p=0∨p=3)/\m=xq then(7:Int) else p)=0 then T else([],[]))=x:=⟨_,rfl⟩;obtain⟨R2,ae⟩:∃x:Int,(if (p=0∨p=3)/\m=xq then(7:Int) else p)=x:=⟨_,rfl⟩;rw[ad,ae];rw[ae] at ad;have kI:=Fa ad;have l:=Fa ae;clear h hy hD hF Dw X o1 o2 o3 Li ht ad ae zV qI;go_enter func12,ntmps12;go_upto_region 1 with fail
  generalize (AC (AC w (yd #[J a (Z V) ca,J b (Z L) cb,J c (Z R) cc] 26)) (yd #[J O 0 0,J O 0 0] 38))=W0 at *;have A:=Fa hA;obtain⟨i0,i1,i2⟩:=hA.cells;clear hA;go_wp2_with fail
  refine(Qw.o _ A.o.bel).af ?_;rintro e w1 ⟨H,q,B7,yO,Q,B1,rfl,hN,hL,i⟩;replace A:=Fa (A.o.step i);have B6:da w1 (AC w1 (yd #[J H (Z V) yO,J q (Z DL) Q,J B7 (Z DR) B1] 26)):=(aw _ w1).alloc (ak _) _;have bt:=bZ.at (w:=w1) rfl (J H (Z V) yO) (J q (Z DL) Q) (J B7 (Z DR) B1);have Ae:=hN.aa B6;have al:=hL.aa hN.pars B6;have gN:=A.o.step B6;obtain⟨gm,qH⟩:∃g,w1.heap.size=g:=⟨_,rfl⟩;obtain⟨w2,ar⟩:∃U,AC w1 (yd #[J H (Z V) yO,J q (Z DL) Q,J B7 (Z DR) B1] 26)=U:=⟨_,rfl⟩;simp only[NC] at bt;rw[ar] at Ae al gN bt;rw[qH] at bt;have pV:=Fa Ae;have nW:=Fa al;have q8:=Fa gN;obtain⟨n0,n1,n2⟩:=bt.cells;clear i hN hL B6 Ae al gN bt A Qw i0 i1 i2;go_wp2_with fail
  clear qH ar;refine(yX.o H q B7 yO Q B1 _ q8.o.bel pV.o nW.o).af ?_;rintro e n ⟨⟨v,z,u,t,rfl,hq,ao⟩,i⟩;have B6:da n (AC n (yd #[J v T.1.length u,J z T.2.length t] 38)):=(aw _ n).alloc (ak _) _;have kA:bh (AC n (yd #[J v T.1.length u,J z T.2.length t] 38)) n.heap.size (J v T.1.length u) (J z T.2.length t):=dU n _;have xA:=(q8.o.step i).step B6;have wZ:=hq.aa B6;have an:=ao.aa B6;obtain⟨gt,S⟩:∃g,n.heap.size=g:=⟨_,rfl⟩;obtain⟨w4,ab⟩:∃U,AC n (yd #[J v T.1.length u,J z T.2.length t] 38)=U:=⟨_,rfl⟩;rw[ab] at kA xA wZ an;rw[S] at kA;have eL:=Fa kA;have P:=Fa xA;have HQ:=Fa wZ;have HC:=Fa an;have Me:=Fa ab;have G0:=Fa S;clear i hq ao B6 kA xA wZ an ab S n0 n1 n2 yX q8 pV nW;by_cases M:p=0∨p=3
  ·have aq:c6 45 #[J d (Z D) cd,J y (Z Y) cy,J f (Z F) cf] w4 fun e w'=>e=yk (zd m)/\da w4 w':=aj.o w4 P.o.bel;have rP:=Fa aq;clear aq aj;rcases M with M |M
   focus
    subst M;have S:=G0.o;have ab:AC n (yd #[J v T.1.length u,J z T.2.length t] 38)=w4:=Me.o;go_wp2_with fail
    clear S ab;refine rP.o.af ?_;rintro e w5 ⟨rfl,i⟩;have B2:=Fa (P.o.step i);have Cl:=Fa (eL.o.aa i eL.o.lt);have uT:=Fa (HQ.o.aa i);have ai:=Fa (HC.o.aa i);have r:=B2.o.res;have f0:=eA _ (w.heap.size+1) 0 _ _ r;have f1:=eA _ (w.heap.size+1) 1 _ _ r;obtain⟨t0,t1, -, -⟩:=Cl.o.facts;obtain⟨r0,r1, -, -⟩:=B2.o.res.facts;clear i P eL HQ HC rP Me G0;cases m with
    |false=>
     have B9:we (R2=0/\R1=T):=⟨by have:=l.o;simpa using this.symm,by have K:=kI.o;have s:=l.o;simp at s;rw[<- K, <- s];rfl⟩;clear kI l;go_wp2_with fail
     refine cN ((r.put _ _).result2 rfl _ rfl) rfl ?_;have j:=ug.o B2.o;rw[B9.o.1,B9.o.2];exact⟨⟨v,z,u,t,rfl,(j _ _).2.1 _ _ uT.o,(j _ _).2.2 _ _ ai.o⟩,(j _ _).1⟩
    |true=>
     have B9:we (R2=7/\R1=([],[])):=⟨by have:=l.o;simpa using this.symm,by have K:=kI.o;have s:=l.o;simp at s;rw[<- K, <- s];rfl⟩;clear kI l;go_wp2_with fail
     refine cN ((r.put _ _).result2 rfl _ rfl) rfl ?_;have j:=ug.o B2.o;rw[B9.o.1,B9.o.2];exact⟨sU.empty 7 _,(j _ _).1⟩
   focus
    subst M;obtain rfl:T=([],[]):=HT.o a6;have S:=G0.o;have ab:AC n (yd #[J v 0 u,J z 0 t] 38)=w4:=Me.o;go_wp2_with fail
    clear S ab;refine rP.o.af ?_;rintro e w5 ⟨rfl,i⟩;have B2:=Fa (P.o.step i);have Cl:=Fa (eL.o.aa i eL.o.lt);have uT:=Fa (HQ.o.aa i);have ai:=Fa (HC.o.aa i);have r:=B2.o.res;have f0:=eA _ (w.heap.size+1) 0 _ _ r;have f1:=eA _ (w.heap.size+1) 1 _ _ r;obtain⟨t0,t1, -, -⟩:=Cl.o.facts;obtain⟨r0,r1, -, -⟩:=B2.o.res.facts;clear i P eL HQ HC rP Me G0;cases m with
    |false=>
     have B9:we (R2=3/\R1=([],[])):=⟨by have:=l.o;simpa using this.symm,by have K:=kI.o;have s:=l.o;simp at s;rw[<- K, <- s];rfl⟩;clear kI l;go_wp2_with fail
     refine cN ((r.put _ _).result2 rfl _ rfl) rfl ?_;have j:=ug.o B2.o;rw[B9.o.1,B9.o.2];exact⟨⟨v,z,u,t,rfl,(j _ _).2.1 _ _ uT.o,(j _ _).2.2 _ _ ai.o⟩,(j _ _).1⟩
    |true=>
     have B9:we (R2=7/\R1=([],[])):=⟨by have:=l.o;simpa using this.symm,by have K:=kI.o;have s:=l.o;simp at s;rw[<- K, <- s];rfl⟩;clear kI l;go_wp2_with fail
     refine cN ((r.put _ _).result2 rfl _ rfl) rfl ?_;have j:=ug.o B2.o;rw[B9.o.1,B9.o.2];exact⟨sU.empty 7 _,(j _ _).1⟩
  ·obtain rfl:T=([],[]):=HT.o fun e=>M (yp e);have vD:¬p=0:=fun e=>M (yp e);have yC:¬p=3:=fun e=>M (xS e);have B9:we (R2=p/\R1=([],[])):=⟨by have:=l.o;simpa [vD,yC] using this.symm,by have K:=kI.o;rw[<- K];split<;>rfl⟩;have r:=P.o.res;have f0:=eA _ (w.heap.size+1) 0 _ _ r;have f1:=eA _ (w.heap.size+1) 1 _ _ r;obtain⟨t0,t1, -, -⟩:=eL.o.facts;obtain⟨r0,r1, -, -⟩:=P.o.res.facts;have ab:AC n (yd #[J v 0 u,J z 0 t] 38)=w4:=Me.o;have S:=G0.o;have xo:decide (p=0)=false:=cT vD;have sL:decide (p=3)=false:=cT yC;clear M HT aj kI l Me G0;go_wp2_with fail
   refine cN ((r.put _ _).result2 rfl _ rfl) rfl ?_;have j:=ug.o P.o;rw[B9.o.1,B9.o.2];exact⟨⟨v,z,u,t,rfl,(j _ _).2.1 _ _ HQ.o,(j _ _).2.2 _ _ HC.o⟩,(j _ _).1⟩
 ·have Qw:=Fa (fun (U:wA) (k:da w U)=>ate a b c d ca cb cc cd V L R D U (h.aa k).net h.sm (hD.aa k) hd zV X);have Li:DV V L R Y D F=iq V L R D:=by rw[DV,aD X]
  rw[I3,Li,aD X];generalize iq V L R D=fe at *;clear h hy hD hF Dw Li zV qI;go_enter func12,ntmps12;go_upto_region 1 with fail
  generalize (AC (AC w (yd #[J a (Z V) ca,J b (Z L) cb,J c (Z R) cc] 26)) (yd #[J O 0 0,J O 0 0] 38))=W0 at *;have A:=Fa hA;obtain⟨i0,i1,i2⟩:=hA.cells;clear hA;go_wp2_with fail
  refine(Qw.o _ A.o.bel).af ?_;rintro e w1 ⟨rfl,i⟩;have gN:=(A.o.step i).step ((aw _ w1).alloc (ak _) (yd #[J O 0 0,J O 0 0,J O 0 0] 26));have q8:=Fa gN;have r:=gN.res;have f0:=eA _ (w.heap.size+1) 0 _ _ r;have f1:=eA _ (w.heap.size+1) 1 _ _ r;obtain⟨r0,r1, -, -⟩:=q8.o.res.facts;clear i Qw A gN i0 i1 i2;go_wp2_with fail
  refine cN ((r.put _ _).result2 rfl _ rfl) rfl ?_;have j:=ug.o q8.o;exact⟨sU.empty fe _,(j _ _).1⟩
variable {r:Nat} {s:wQ} {w':wA}
def gQ (w:wA) (g:Nat) (s x y:wQ):Prop:=w.heap[g]? =I (yd #[s,x,y] 86 (0,0))
theorem gQ.lt {x:wQ} (h:gQ w g s x y):g<w.heap.size:=(c5.1 h).1
theorem gQ.at (h:w.heap.size=g) (s x y:wQ):gQ (AC w (yd #[s,x,y] 86)) g s x y:=by subst h;exact dU w _
theorem gQ.aa {b:Nat} {x:wQ} (h:gQ w g s x y) (a:Below b w w') (c:g<b):gQ w' g s x y:=(a.block g c).trans h
theorem gQ.cells {x:wQ} (h:gQ w g s x y):AJ w ⟨g,0,O⟩=I s/\w.cell? ⟨g,1,O⟩=I x/\w.cell? ⟨g,2,O⟩=I y:=
 ⟨(a8 w g 0 _ _ (0,0) h).trans rfl,(a8 w g 1 _ _ (0,0) h).trans rfl,(a8 w g 2 _ _ (0,0) h).trans rfl⟩
theorem gQ.fz {x:wQ} (h:gQ w g s x y) (j:Nat):w.frozen? ⟨g,j,O⟩=false:=eA w g j _ _ h
theorem gQ.put {x:wQ} (h:gQ w g s x y) (a x' b:wQ):gQ (AF (AF (AF w ⟨g,0,O⟩ a) ⟨g,1,O⟩ x') ⟨g,2,O⟩ b) g a x' b:=by
 have c:=ke w g 0 _ _ a h;have d:=ke _ g 1 _ _ x' c;have e:=ke _ g 2 _ _ b d;simpa [gQ] using e
theorem gQ.result1 {x:wQ} (h:gQ w g s x y) {p:Tmp} (r:fn.results= #[.cell p 86]) (m:Array wQ) (a:m.getD p wd=zZ (I ⟨g,0,O⟩)):
  (results fn m).run prog w=.ok (zp #[s,x,y]) w:=EN r m w g _ _ _ _ a h underlying86 rfl ao
theorem anQ {x:wQ} (f:gQ U g s x y) (hs:bW s) (i:bW x) (j:bW y) {b:Kd} (h:n≠0 ->∃g' o v,b=I ⟨g',o,O⟩/\U.cell? ⟨g',o,O⟩=I v/\¬bW v):pT [g] b n:=fun g' o e M m=>by
 obtain⟨k,l,v,d,c,a⟩:=h M;rw[e] at d;cases d;rw[bD.1 m] at c;rw[a8 U g o _ _ (0,0) f] at c;match o,c with
 |0,c=>cases c;exact a hs
 |1,c=>cases c;exact a i
 |2,c=>cases c;exact a j
 |o+3,c=>simp at c
theorem bL.x {gs:Jp} {p q:wQ} {t:Tb} (h:bL U p q t) (k:eK gs U U') (i:∀(b:Kd) (n:Nat),(n≠0 ->∃g' o v,b=I ⟨g',o,O⟩/\U.cell? ⟨g',o,O⟩=I v/\¬bW v) ->pT gs b n):bL U' p q t:=by
 obtain⟨b,c,cb,cc,j,l,d,f,m⟩:=h;refine⟨b,c,cb,cc,j,l,KX d (i b _ fun g=>?_) k,LA f (i c _ fun g=>?_) k,m⟩
 ·obtain⟨g',o,e,_,a⟩:=d 0 al;exact⟨g',o,_,e,a,Sm⟩
 ·obtain⟨g',o,e,_,a,_⟩:=f 0 al;rw[oY,ji] at a;exact⟨g',o,_,e,a,XH⟩
theorem gQ.put_tb {x p q:wQ} {t:Tb} (h:gQ U g s x y) (hs:bW s) (f:bW x) (i:bW y) (e:bL U p q t) (a x' c:wQ):bL (AF (AF (AF U ⟨g,0,O⟩ a) ⟨g,1,O⟩ x') ⟨g,2,O⟩ c) p q t:=
 e.x ((((eK.refl [g] U).put (b:=g) (yp aE) 0 a).put (b:=g) (yp aE) 1 x').put (b:=g) (yp aE) 2 c) fun _ _ d=>anQ h hs f i d
theorem gQ.put_below (h:da w U) (a:w.heap.size<=g) (s x' y:wQ):da w (AF (AF (AF U ⟨g,0,O⟩ s) ⟨g,1,O⟩ x') ⟨g,2,O⟩ y):=
 ((((eK.refl [g] U).put (b:=g) (yp aE) 0 s).put (b:=g) (yp aE) 1 x').put (b:=g) (yp aE) 2 y).low h fun k c=>by rw[bD.1 c];exact a
structure Je (w U:wA) (r:Nat) (s x y:wQ):Prop where
 bx:gQ U w.heap.size s x y
 res:gQ U r (J O 0 0) (J O 0 0) (J O 0 0)
 hr:w.heap.size<=r
 bel:da w U
theorem Je.step {x:wQ} (h:Je w U r s x y) (b:da U U'):Je w U' r s x y:=⟨h.bx.aa b h.bx.lt,h.res.aa b h.res.lt,h.hr,h.bel.trans (b.af h.bel.size)⟩
theorem Je.begin2 (w:wA) (s x y:wQ) (o:Obj):Je w (((AC w (yd #[s,x,y] 86)).alloc o).alloc (yd #[J O 0 0,J O 0 0,J O 0 0] 86)) (w.heap.size+1+1) s x y:=by
 have e:=gQ.at (w:=w) rfl s x y;have b:da w (AC w (yd #[s,x,y] 86)):=(aw _ w).alloc (ak _) _;have b2:=b.alloc b.size o;have a:=b2.alloc b2.size (yd #[J O 0 0,J O 0 0,J O 0 0] 86);have c:Below (AC w (yd #[s,x,y] 86)).heap.size (AC w (yd #[s,x,y] 86)) ((AC w (yd #[s,x,y] 86)).alloc o):=(aw _ _).alloc (ak _) _;have d:=c.alloc c.size (yd #[J O 0 0,J O 0 0,J O 0 0] 86);exact⟨e.aa d e.lt,gQ.at aE _ _ _,al,a⟩
theorem alJ (a:Kd) (ca:Nat) (S:Jp) (x y:wQ) (t:Tb) (v z:Nat) (w:wA) (s:fJ (iL S)) (hs:aC w a (iL S)) (h:bL w x y t) (F:dC S (Z S) t) (H:Cw 100000 t.2) (X:v<Z S) (B7:z<sz S v):
  c6 64 #[zp #[J a (Z S) ca,x,y],zp #[E yR (v:Nat),E yR (z:Nat)]] w fun e w'=>∃x' B2,e=yk (zp #[J a (Z S) ca,x',B2])/\bL w' x' B2 (eB S v z t)/\da w w':=by
 have T:=Fa (fun (U:wA) (D:da w U)=>ahl a ca S x y t v z U s (hs.aa D) (h.aa D) F H X B7);obtain⟨⟨K,M,L,rfl⟩,⟨yb,Q,P,rfl⟩⟩:=h.slices;clear hs h F H B7 s;have u:Je w (AC (AC (AC w (yd #[J a (Z S) ca,J K M L,J yb Q P] 86)) (yd #[E yR (v:Nat),E yR (z:Nat)] 30)) (yd #[J O 0 0,J O 0 0,J O 0 0] 86)) (w.heap.size+1+1) (J a (Z S) ca) (J K M L) (J yb Q P):=Je.begin2 w _ _ _ _;have A:=Fa u;clear u;generalize eB S v z t=R at *;go_enter func64,ntmps64;go_wp2_with fail
 refine(T.o _ A.o.bel).af ?_;rintro e c ⟨⟨p,q,rfl,m, -⟩,B9⟩;obtain⟨⟨d,n,f,rfl⟩,⟨j,qn,l,rfl⟩⟩:=m.slices;have B6:da c (AC c (yd #[J d n f,J j qn l] 38)):=(aw _ c).alloc (ak _) _;have k:bh (AC c (yd #[J d n f,J j qn l] 38)) c.heap.size (J d n f) (J j qn l):=dU c _;have b:=(A.o.step B9).step B6;have r:=m.aa B6;obtain⟨gt,V⟩:∃g,c.heap.size=g:=⟨_,rfl⟩;obtain⟨w2,B1⟩:∃U,AC c (yd #[J d n f,J j qn l] 38)=U:=⟨_,rfl⟩;rw[B1] at k b r;rw[V] at k;have Y:=Fa r;have i:=Fa b;obtain⟨t0,t1, -, -⟩:=k.facts;obtain⟨i0,i1,i2⟩:=b.bx.cells;obtain⟨r0,r1,r2⟩:=b.res.cells;have f0:=b.res.fz 0;have f1:=b.res.fz 1;have f2:=b.res.fz 2;clear B9 m B6 k b r A T;go_wp2_with fail
 refine cN ((i.o.res.put _ _ _).result1 rfl _ rfl) rfl ?_;exact⟨_,_,rfl,i.o.res.put_tb (slv _ _ _) (slv _ _ _) (slv _ _ _) Y.o _ _ _,gQ.put_below i.o.bel i.o.hr _ _ _⟩
theorem afj:∀l:List Fr,fw (l.map lT)<=fw l+Z l
 |[]=>ak _
 |f::l=>by
  have h:=afj l;have a:(lT f).2.1.size+(lT f).2.2.size<=f.2.1.size+f.2.2.size+1:=Fh f.1 f.2.1 f.2.2;rw[fR,fw,fw,dX];omega
theorem ahO:∀l:List Fr,qN (l.map lT)=qN l
 |[]=>rfl
 |f::l=>by rw[fR,qN,qN,ahO l,T3]
theorem ack (n x:Nat):fw (jy n x)<=5*n/\qN (jy n x)=1:=by
 have y:∀l:Jp,fw (l.map fun k=>qF (if k=x then 1 else 0))<=5*Z l/\qN (l.map fun k=>qF (if k=x then 1 else 0))=1:=fun l=>by
  induction l with
  |nil=>exact⟨ak _,rfl⟩
  |cons k l ih=>
   obtain⟨a,h⟩:=ih;rw[fR,fw,qN,h,dX,j5];by_cases e:k=x
   ·rw[aA e];(have:(qF 1).2.1.size+(qF 1).2.2.size<=3:=by show qw 1<=3;have:=WZ;omega);exact⟨al,rfl⟩
   ·rw[aD e];(have:(qF 0).2.1.size+(qF 0).2.2.size<=3:=by show qw 0<=3;have:=Ky;omega);exact⟨al,rfl⟩
 have:=y (List.range n);rw[A0] at this;exact this
section
variable {V : List Vr} {L : List Kx} {R : List (List Fr)} {d : List (Nat × Nat)}
theorem ahK (h0:aU V L R=0) (h:fj (ah V) (Z V) d) (v:Nat):(dV V d (cC R)).getD v []=(R.getD v []).map lT∨∃x,v<Z V/\(dV V d (cC R)).getD v []=jy (sz (ah V) v) x:=by
 by_cases e:v∈d.map (·.1)
 ·obtain⟨p,a,rfl⟩:=aQ.1 e;refine xS ⟨p.2,h.lt p a,RM h.nd a ?_⟩;have:=(fK h0).lenR;rw[cC,dm,this];exact h.lt p a
 ·refine yp ?_;rw[<- Z9];exact Kz e
theorem asa (h0:aU V L R=0) (f:fj (ah V) (Z V) d) {l:List Fr} (g:l∈dV V d (cC R)):(∃i∈R,l=i.map lT)∨∃v x,v<Z V/\l=jy (sz (ah V) v) x:=by
 obtain⟨v,a,rfl⟩:=iQ g;have b:v<Z R:=by rw[aam,cC,dm] at a;exact a
 have e:(dV V d (cC R)).getD v []=(dV V d (cC R))[v]:=by rw[cK,ba a];rfl
 rcases ahK h0 f v with h |⟨x,c,h⟩
 ·refine yp ⟨R[v],bQ b,?_⟩;rw[<- e,h,cK,ba b];rfl
 ·exact xS ⟨v,x,c,by rw[<- e,h]⟩
theorem ahM (h0:aU V L R=0) (a:fj (ah V) (Z V) d):∀us:Jp,ic (dV V d (cC R)) us<=ic R us
 |[]=>ak _
 |v::us=>by
  rw[ic,ic];refine ld ?_ (ahM h0 a us);rcases ahK h0 a v with h |⟨x,_,h⟩
  ·rw[h,ahO];exact ak _
  ·rw[h,(ack _ _).2];exact mj (LG _)
theorem VA.of (h0:aU V L R=0) (hs:sX V L R) (h:q9 V R) (w:∀l∈R,fw (l.map lT)<=4200) (c:fj (ah V) (Z V) d):VA V L R d:=by
 have i:∀v,v<Z V ->sz (ah V) v<=4:=fun v a=>by rw[Hx a];exact((XL h0).1.len v a).2
 have f:∀l∈dV V d (cC R),Z l<=5000/\fw l<=4200:=fun l h=>by
  rcases asa h0 c h with ⟨e,b,rfl⟩ |⟨v,x,b,rfl⟩
  ·exact⟨by rw[dm];exact(hs.rows.2 e b).1,w e b⟩
  ·have:=i v b;have:=(ack (sz (ah V) v) x).1;exact⟨by rw[Bd];omega,al⟩
 refine⟨⟨hs.Fd,⟨by rw[Uh];exact hs.pars.1,fun l h=>?_⟩,⟨by rw[aam,cC,dm];exact hs.rows.1,fun l h=>⟨(f l h).1,aO (f l h).2 a6⟩⟩⟩,fun l h=>(f l h).2,?_⟩
 ·obtain⟨v,a,rfl⟩:=iQ h;have g:v<Z L:=by rw[Uh] at a;exact a
  have:=(aan d L v).length_le;rw[cK,ba a,cK,ba g] at this;exact aO this (hs.pars.2 _ (bQ g))
 ·exact aO (kO (ahM h0 c _)) h
end
theorem ag8:∀l:List Fr,2*Z l<=fw l
 |[]=>ak _
 |f::l=>by
  have:=ag8 l;rw[dX,fw];omega
theorem NM.dos {d:List (Nat×Nat)} (h:NM V L R) (a:fj (ah V) (Z V) d):VA V L R d:=
 .of h.ok h.small h.lite (fun l b=>by have:=h.light l b;have:=afj l;have:=ag8 l;omega) a
def py (l M:Kx):Kx:=l.filter fun x=>!jQ x M
theorem ao1 {M:Kx} (h:i<Z l):py (l.take (i+1)) M=py (l.take i) M++if jQ l[i] M=xq then[] else[l[i]]:=by
 rw[ig h,py,py,x5];congr 1
 cases e:jQ l[i] M
 ·simp[e]
 ·simp[e]
theorem amh (a b:Kd) (ca cb:Nat) (l M:Kx) (w:wA) (v:aC w a l) (n:aC w b M) (Q:Z l<=1000) (ab:Z M<=1000):
  c6 22 #[J a (Z l) ca,J b (Z M) cb] w fun e w'=>∃x,e=yk x/\bS w' w.heap.size x (py l M)/\da w w':=by
 obtain⟨S,B2,ad,ae,ai⟩:=eo Tryz.infoInt;have D:=Fa v;have A:=Fa (fun (k:Int) (V:wA) (h:aC V b M)=>adl k b cb M V h al);have z:=Fa n;have j:=Fa (fun (i:Nat) (h:i<Z l)=>ao1 (M:=M) h);have q:=Fa (fun i=>show Z (py (l.take i) M)<=Z l from aO (oq _ _) (by rw[eZ];omega));have s:py (l.take (Z l)) M=py l M:=by rw[iP]
 have y:py (l.take 0) M=[]:=by rw[QT];rfl
 rw[<- s];clear v n s;generalize c:(fun i=>py (l.take i) M)=F at *;have m:∀i,py (l.take i) M=F i:=fun i=>by rw[<- c]
 simp only[m] at j q y⊢;clear c m;go_enter func22,ntmps22;go_wp2_with fail
 go_loopw [5,6] (fun xv iv wr=>∃i:Nat,i<=Z l/\iv=E yR i/\we (bS wr w.heap.size xv (F i))/\we (da w wr)) (fun _ iv _=>Z l - (intOf iv).toNat)
 case atStart=>exact⟨0,aX _,rfl,by rw[y];exact⟨rfl,yp ⟨rfl,rfl⟩⟩,aw _ _⟩
 case round=>
  obtain⟨i,P,rfl,R,H⟩:=hrel;by_cases t:i<Z l
  ·obtain⟨g,o,rfl,c,K⟩:=(D.o.aa H.o) i t;have T:=j.o i t;have Y:=q.o i;generalize l[i]=u at *;go_wp2_with fail
   refine(A.o u _ (z.o.aa H.o)).af ?_;rintro e f ⟨rfl,rfl⟩;cases hin:jQ u M with
   |true=>
    rw[hin,aA rfl,lh] at T;have B9:=Fa T;clear T hin;go_wp2;go_roundw
    case rel=>exact⟨i+1,al,bd,by rw[B9.o];exact R,H⟩
    case measure=>simp[intOf];omega
   |false=>
    rw[hin,aD a6] at T;have B9:=Fa T;have B6:=Fa R.o.own;have L:we (bS (AC f (yd #[E yR u] 3)) w.heap.size _ (F i)):=He R.o _;have d:=Fa (H.o.alloc H.o.size (yd #[E yR u] 3));have X:=Fa (aeR f u);clear T hin;go_wp2_with (at_builtin;refine CW rfl _ _ rfl w.heap.size _ (F i) [u] rfl L.o (I ⟨f.heap.size,0,O⟩) 1 rfl X.o (fun e=>by cases e) (by simp;omega) d.o.size ?_;intro v' U r p)
    have B7:=Fa r;have B1:=Fa (d.o.grown p d.o.size B6.o);clear r p;go_roundw
    case rel=>exact⟨i+1,al,bd,by rw[B9.o];exact B7,B1⟩
    case measure=>simp[intOf];omega
  ·obtain rfl:i=Z l:=al
   go_wp2;go_ret;exact⟨_,rfl,R.o,H.o⟩
theorem aj6 (n:Nat):Up [] n:=dY.2 ⟨fun x h=>(by cases h),List.Pairwise.nil⟩
theorem Up.wider {L:Kx} (h:Up L i) (r:i<=j):Up L j:=dY.2 ⟨fun x a=>by have:=(dY.1 h).1 x a;omega,(dY.1 h).2⟩
theorem Up.snoc {L:Kx} (h:Up L i):Up (L++[(i:Int)]) (i+1):=by
 refine dY.2 ⟨fun x a=>?_,?_⟩
 ·rcases bH.1 a with a |a
  ·have:=(dY.1 h).1 x a;omega
  ·have:=bD.1 a;omega
 ·rw[List.pairwise_append];refine⟨(dY.1 h).2,EW _ _,fun x a y b=>?_⟩;have:=(dY.1 h).1 x a;have:=bD.1 b;omega
theorem al9 (a:Kd) (ca n:Nat) (l:Kx) (w:wA) (v:aC w a l) (r:∀x∈l, -9223372036854775808<=x/\x<=9223372036854775807) (Q:Z l<=140737488355328) (T:1<=n) (ae:n<=1000):
  c6 23 #[J a (Z l) ca,E yR (n:Nat)] w fun e w'=>∃x L,e=yk x/\bS w' w.heap.size x L/\Up L n/\da w w':=by
 obtain⟨S,D,ai,aj,an⟩:=eo Tryz.infoInt;have V:=Fa v;have R:=Fa r;clear v r;go_enter func23,ntmps23;go_wp2_with fail
 go_loopw [5,6] (fun xv iv wr=>∃(i:Nat) (L:Kx),i<=n/\iv=E yR i/\we (Up L i)/\we (bS wr w.heap.size xv L)/\we (da w wr)) (fun _ iv _=>n - (intOf iv).toNat)
 case atStart=>exact⟨0,[],aX _,rfl,aj6 0,⟨rfl,yp ⟨rfl,rfl⟩⟩,aw _ _⟩
 case round=>
  obtain⟨i,L,B6,rfl,U,H,c⟩:=hrel;by_cases ad:i<n
  ·go_wp2_with fail
   have A:we (bS wr w.heap.size u5 L):=H;go_loopw [7,8] (fun bv jv wq=>∃(j:Nat) (b:Bool),j<=Z l/\jv=E yR j/\bv=zd b/\we (bS wq w.heap.size u5 L)/\we (da w wq)) (fun _ jv _=>Z l - (intOf jv).toNat)
   case atStart=>exact⟨0,x3,aX _,rfl,rfl,H,c⟩
   case round=>
    obtain⟨j,b,M,rfl,rfl,t,k⟩:=hrel;clear H c A;by_cases s:j<Z l
    ·cases b with
     |true=>
      go_wp2;go_roundw
      case rel=>exact⟨j+1,xq,al,bd,rfl,t,k⟩
      case measure=>simp[intOf];omega
     |false=>
      obtain⟨g,o,rfl,F,p⟩:=(V.o.aa k.o) j s;have K:=R.o l[j] (bQ s);generalize l[j]=z at *;go_wp2_with fail
      refine(Ku z n _ K.1 K.2 al al).af ?_;rintro e Y ⟨rfl,h⟩;generalize tC z n=P at *;have B7:=Fa (t.o.aa h);have B2:=Fa (k.o.trans (h.af k.o.size));clear t k h p;go_wp2;go_roundw
      case rel=>exact⟨j+1,_,al,bd,rfl,B7,B2⟩
      case measure=>simp[intOf];omega
    ·obtain rfl:j=Z l:=al
     cases b with
     |false=>
      go_wp2;go_roundw
      case rel=>exact⟨i+1,L,al,bd,U.o.wider al,t,k⟩
      case measure=>simp[intOf];omega
     |true=>
      have ab:=U.o.length;have y:=Fa t.o.own;have u:we (bS (AC wr (yd #[E yR (i:Nat)] 3)) w.heap.size _ L):=He t.o _;have d:=Fa (k.o.alloc k.o.size (yd #[E yR (i:Nat)] 3));have X:=Fa (aeR wr (i:Nat));go_wp2_with (at_builtin;refine CW rfl _ _ rfl w.heap.size _ L [((i:Nat):Int)] rfl u.o (I ⟨wr.heap.size,0,O⟩) 1 rfl X.o (fun e=>by cases e) (by simp;omega) d.o.size ?_;intro v' B1 m f)
      have q:=Fa m;have B9:=Fa (d.o.grown f d.o.size y.o);clear m f;go_roundw
      case rel=>exact⟨i+1,_,al,bd,U.o.snoc,q,B9⟩
      case measure=>simp[intOf];omega
  ·obtain rfl:i=n:=al
   go_wp2;go_ret;exact⟨_,L,rfl,H.o,U.o,c.o⟩
variable {B':Nat}
def uK (F:List (Int×Int)):List (wQ×wQ):=F.map fun p=>(E yR p.1,E yR p.2)
theorem LC (F:List (Int×Int)):Z (uK F)=Z F:=dm _
theorem aht (h:k<Z F):(uK F)[k]'(by rw[LC];exact h)=(E yR F[k].1,E yR F[k].2):=mq _
def nU (w:wA) (B:Nat) (v:wQ) (F:List (Int×Int)):Prop:=w.ownsRow B 30 2 v (Z F) (fS (uK F))
theorem nU.nil (w:wA) (B:Nat):nU w B (J O 0 0) []:=⟨rfl,yp ⟨rfl,rfl⟩⟩
theorem nU.aa {B:Nat} {v:wQ} (h:nU w B v F) (b:da w w'):nU w' B v F:=KH h (Ec.aa b)
theorem nU.facts {B:Nat} {v:wQ} (h:nU w B v F):∃d c,v=J d (Z F) c/\j9 w d F/\F.length<=c/\(d=O ->c=0):=by
 rcases h.2 with ⟨b,i⟩ |⟨g,cap,y,b,i,l,o,t,x,p⟩
 ·exact⟨O,0,by rw[b,i],(fun k a=>absurd a al),al,fun _=>rfl⟩
 ·refine⟨_,cap,b,fun k a=>?_,o,fun e=>by cases e⟩;have r:k<Z (uK F):=by rw[LC];exact a
  obtain⟨q,n⟩:=Ro (uK F) k r;have s:=Nc (uK F)
  have m:∀j u,(fS (uK F))[j]? =I u ->AJ w ⟨g,j,O⟩=I u:=fun j u f=>by
   rw[a8 w g j _ _ (0,0) l];have B6:=(oA.1 f).1;rw[<- p,tu,aA (by rw[LC] at s;omega),wM] at f;exact f
  rw[aht a] at q n;exact⟨g,0,rfl,(c5.1 l).1,by rw[bK];exact m _ _ q,by rw[bK];exact m _ _ n⟩
theorem nU.own {B:Nat} {v:wQ} (h:nU w B v F):∀k,v.ownBlock=I k ->B<=k:=fun k a=>by
 rcases h.2 with ⟨b,c⟩ |⟨g,cap,r,b,c,_⟩
 ·rw[b] at a;cases a
 ·rw[b] at a;cases a;exact c
theorem nU.alloc {B:Nat} {v:wQ} (h:nU w B v F) (o:Obj):nU (w.alloc o) B v F:=h.aa ((aw w.heap.size w).alloc (ak _) o)
theorem Tryz.infoFact:(prog.info? 30).map (fun i=>(i.zero,i.size,i.bytes))=I (I (zp #[E yR 0,E yR 0]),2,16):=ao
theorem arR {o:Nat} (h:j9 w (I ⟨g,o,O⟩) F):∀j u,(fS (uK F))[j]? =I u ->AJ w ((⟨g,o,O⟩:Addr).add j)=I u:=fun j u a=>by
 have s:=(oA.1 a).1;rw[Nc,LC] at s;have k:j/2<Z F:=al
 obtain⟨g',o',e,_,c,d⟩:=h (j/2) k;cases e;obtain⟨q,b⟩:=Ro (uK F) (j/2) (by rw[LC];exact k);rw[aht k] at q b
 have i:((⟨g,o,O⟩:Addr).add j)=⟨g,o+j,O⟩:=by
  rw[Addr.add];by_cases f:j=0
  ·subst f;simp
  ·simp[f]
 rw[i];rcases Nat.mod_two_eq_zero_or_one j with m |m
 ·have e:j/2*2=j:=al
  rw[e] at q c;rw[q] at a;rw[c,a]
 ·have e:j/2*2+1=j:=al
  rw[e] at b;rw[b] at a;rw[show o+j/2*2+1=o+j by omega] at d;rw[d,a]
theorem arQ (F:List (Int×Int)):∀u∈fS (uK F),u.oneCell'=true:=by
 induction F with
 |nil=>intro u a;cases a
 |cons p F ih=>
  intro u a;have v:u=E yR p.1∨u=E yR p.2∨u∈fS (uK F):=by simpa [uK,fS] using a
  rcases v with rfl |rfl |h
  ·rfl
  ·rfl
  ·exact ih u h
theorem abL {o:Oper} {a:Act} (m:o.guard=O) (s x:Operand)
  (d:o.op=.call {callee:=.builtin .append,args:= #[s,x],argTypes:= #[28,28]}) (base:Nat) (v:wQ) (xs la:List (Int×Int)) (hs:a.eval s=v) (n:nU w base v xs) (p:Kd) (ca:Nat) (f:a.eval x=J p (Z la) ca) (i:j9 w p la) (D:p=O ->ca=0) (B6:Z xs+Z la<=100000) (B7:base<=w.heap.size)
  (h:∀v' w',nU w' base v' (xs++la) ->w.grownBy w' v.ownBlock ->wpList prog ops Q rest (a.put o.dst v') w'):wpList prog ops Q (o::rest) a w:=by
 obtain⟨k,c,B9,F,H⟩:=eo Tryz.infoFact;cases p with
 |none=>
  have A:la=[]:=by
   cases la with
   |nil=>rfl
   |cons x l=>obtain⟨g,o,e,_⟩:=i 0 aE;cases e
  subst A;have r:=D rfl;subst r;have b:=h v w (by rw[lh];exact n) ⟨rfl,rfl,rfl,ak _,fun _ _ _=>rfl⟩;exact wpList_append_own_none m s x 28 d base 30 k 2 underlying28 c v (Z xs) _ hs n f b
 |some ad=>
  have y:∀j u,(fS (uK la))[j]? =I u ->AJ w (ad.add j)=I u:=by
   cases la with
   |nil=>intro j u z;cases z
   |cons q l=>
    obtain⟨g,o',e,_⟩:=i 0 aE;cases e;exact arR i
  refine AU _ m s x 28 d base 30 k (zp #[E yR 0,E yR 0]) 2 16 underlying28 c B9 F H rfl a6 v (Z xs) _ hs n ad (Z la) ca (fS (uK la)) f (by rw[Nc,LC]) y (arQ la) (by unfold maxLen;omega) al B7 ?_;intro v' w' b t _;refine h v' w' ?_ t;rw[nU,cD,uK,gK,Nd];exact b
theorem nU.lower {B:Nat} {v:wQ} (h:nU w B v F) (d:B'<=B):nU w B' v F:=by
 refine⟨h.1,?_⟩;rcases h.2 with a |⟨g,cap,r,a,b,c⟩
 ·exact yp a
 ·exact xS ⟨g,cap,r,a,aO d b,c⟩
variable {S:Jp}
structure FF (S:Jp) (U:Kx) (i:Nat) (l:List (Nat×Nat)):Prop where
 Fd:l.map (·.1)=ag (U.take i)
 val:∀p∈l,p.2<sz S p.1
theorem FF.start (S:Jp) (U:Kx):FF S U 0 []:=⟨rfl,fun p h=>by cases h⟩
theorem FF.len {U:Kx} {l:List (Nat×Nat)} (h:FF S U i l) (a:i<=Z U):Z l=i:=by
 have:=eG List.length h.Fd;rw[dm,gG,eZ] at this;omega
theorem FF.snoc {U:Kx} {l:List (Nat×Nat)} (h:FF S U i l) (b:i<Z U) {x:Nat} (c:x<sz S U[i].toNat):FF S U (i+1) (l++[(U[i].toNat,x)]):=by
 refine⟨?_,fun p a=>?_⟩
 ·rw[gK,h.Fd,ig b,ag,ag,gK];rfl
 ·rcases bH.1 a with a |a
  ·exact h.val p a
  ·rw[bD.1 a];exact c
theorem abz (l:List (Nat×Nat)) (p:Nat×Nat):zF (l++[p])=zF l++[((p.1:Int),(p.2:Int))]:=by rw[zF,zF,gK];rfl
theorem Sn (w:wA) (u v:Int):j9 (AC w (yd #[E yR u,E yR v] 30)) (I ⟨w.heap.size,0,O⟩) [(u,v)]:=fun k a=>by
 obtain rfl:k=0:=by simp at a;omega
 have h:=dU w (yd #[E yR u,E yR v] 30);exact⟨w.heap.size,0,rfl,aE,(a8 _ w.heap.size _ _ _ (0,0) h).trans rfl,(a8 _ w.heap.size _ _ _ (0,0) h).trans rfl⟩
theorem amk (a b c d r:Kd) (ca cb cc cd cr:Nat) (V:List Vr) (L:List Kx) (R:List (List Fr)) (U K:Kx) (w:wA) (h:jc w a b c V L R) (hd:aC w d U) (hr:aC w r K) (hU:Up U (Z V)) (ax:Z U<=1000) (hK:∀x∈K, -9223372036854775808<=x/\x<=9223372036854775807) (ar:Z K<=140737488355328) (hV:∀v (h:v<Z V),1<=V[v].2.length/\V[v].2.length<=1000):
  c6 24 #[zp #[J a (Z V) ca,J b (Z L) cb,J c (Z R) cc],J d (Z U) cd,J r (Z K) cr] w fun e w'=>∃x l,e=yk x/\nU w' w.heap.size x (zF l)/\l.map (·.1)=ag U/\(∀p∈l,p.2<sz (ah V) p.1)/\da w w':=by
 have bt:=bZ.at (w:=w) rfl (J a (Z V) ca) (J b (Z L) cb) (J c (Z R) cc);have an:da w (w.alloc (NC (J a (Z V) ca) (J b (Z L) cb) (J c (Z R) cc))):=(aw _ w).alloc (ak _) _;have HN:=Fa h;have HD:=Fa hd;have HR:=Fa hr;have HU:=Fa hU;have HK:=Fa hK;have HV:=Fa hV;have HE:we (∀l,FF (ah V) U (Z U) l ->l.map (·.1)=ag U):=fun l hl=>by have:=hl.Fd;rwa [iP] at this
 obtain⟨f,S⟩:∃n,Z K=n:=⟨_,rfl⟩;rw[S];have aq:=Fa S;rw[S] at ar;clear h hd hr hU hK hV S;go_enter func24,ntmps24;go_wp2_with fail
 have bT:=Fa bt;have tk:=Fa an;clear bt an;generalize w.alloc (NC (J a (Z V) ca) (J b (Z L) cb) (J c (Z R) cc))=W0 at *;go_loopw [7,8] (fun xv iv wr=>∃(i:Nat) (l:List (Nat×Nat)),i<=Z U/\iv=E yR i/\we (FF (ah V) U i l)/\we (nU wr (w.heap.size+1) xv (zF l))/\we (bZ wr w.heap.size (J a (Z V) ca) (J b (Z L) cb) (J c (Z R) cc))/\we (da w wr)) (fun _ iv _=>Z U - (intOf iv).toNat)
 case atStart=>exact⟨0,[],aX _,rfl,FF.start _ _,nU.nil _ _,bT,tk⟩
 case round=>
  obtain⟨i,l,hi,rfl,F,B2,X,H⟩:=hrel;clear bT tk;by_cases ad:i<Z U
  ·obtain⟨g,ao,rfl,hg,y⟩:=(HD.o.aa H.o) i ad;have aW:=HU.o.each i ad;obtain⟨v,B7⟩:∃v:Nat,U[i]=(v:Int):=⟨U[i].toNat,al⟩;(have M:v<Z V:=al);obtain⟨A,T,bb,av,rfl,BU,n0,n1,n2,n3⟩:=(HN.o.Fd.aa H.o) v M;have ae:=HV.o v M;have aj:=Hx M
   have Ek:we (∀x,x<V[v].2.length ->FF (ah V) U (i+1) (l++[(v,x)])):=fun x hx=>by
    have:=F.o.snoc ad (x:=x) (by rw[B7,oC,aj];exact hx);rwa [B7,oC] at this
   rw[B7] at y;have dK:=F.o.len hi;clear aj aW n2 n3 n0;generalize V[v].2.length=m at *;by_cases O5:f=0
   ·subst O5;have u:=Fa B2.o.own;have ab:=Fa (B2.o.alloc (yd #[E yR (v:Nat),E yR (0:Nat)] 30));have Q:=Fa (H.o.alloc H.o.size (yd #[E yR (v:Nat),E yR (0:Nat)] 30));have B6:=Fa (Sn wr (v:Nat) (0:Nat));have s:=Fa (X.o.aa ((aw wr.heap.size wr).alloc (ak _) (yd #[E yR (v:Nat),E yR (0:Nat)] 30)) X.o.lt);have q:we (w.heap.size+1<=(AC wr (yd #[E yR (v:Nat),E yR (0:Nat)] 30)).heap.size):=Fa (s.o.lt);go_wp2_with (at_builtin;refine abL rfl _ _ rfl (w.heap.size+1) _ (zF l) [((v:Int),(0:Nat))] rfl ab.o (I ⟨wr.heap.size,0,O⟩) 1 rfl B6.o (fun e=>by cases e) (by simp[A4];omega) q.o ?_;intro v' w2 t o)
    have B1:=Fa (Q.o.grown o Q.o.size fun k B9=>Nat.le_of_succ_le (u.o k B9));have Y:we (bZ w2 w.heap.size (J (I ⟨A,T,O⟩) (Z V) ca) (J b (Z L) cb) (J c (Z R) cc)):=(o.block w.heap.size q.o (fun e=>by have:=u.o _ e.symm;omega)).trans s.o;have D:=Fa t;clear t o;go_roundw
    case rel=>exact⟨i+1,_,al,bd,Ek.o 0 al,by rw[abz];exact D,Y,B1⟩
    case measure=>simp[intOf];omega
   ·have hj:i % f<Z K:=by rw[aq.o];exact jh _ al
    obtain⟨gk,ok,rfl,Lh,k0⟩:=(HR.o.aa H.o) (i % f) hj;have Td:=HK.o _ (bQ hj);have az:((i:Nat):Int) % (f:Int)=((i % f:Nat):Int):=(wK _ _).symm;have ay:i % f<f:=jh _ al;obtain⟨x0,x1,x2⟩:=X.o.cells;have AD:=Fa (fun W=>adi K[i % f] m W Td.1 Td.2 ae.1 ae.2);have hP:=KD K[i % f] ae.1;generalize tC K[i % f] m=P at *;generalize K[i % f]=kk at *;generalize i % f=j at *;go_wp2_with fail
    go_quiet ((go_at_call 21;refine Calls.quiet_of_same (AD.o _)))
    have af:we (nU (wr.drewN nq) (w.heap.size+1) u7 (zF l)):=B2;have ai:we (bZ (wr.drewN nq) w.heap.size (J (I ⟨A,T,O⟩) (Z V) ca) (J b (Z L) cb) (J c (Z R) cc)):=X;have kK:=Fa (below_drewN H.o nq);have Un:AJ (wr.drewN nq) ⟨g,ao+i,O⟩=I (E yR (v:Nat)):=y;clear B2 X H y k0 x0 x1 x2 n1;generalize wr.drewN nq=z at *;have B2:=af;have X:=ai;have H:=kK;have y:=Un;clear af ai kK Un;have u:=Fa B2.o.own;have ab:=Fa (B2.o.alloc (yd #[E yR (v:Nat),E yR (P:Nat)] 30));have Q:=Fa (H.o.alloc H.o.size (yd #[E yR (v:Nat),E yR (P:Nat)] 30));have B6:=Fa (Sn z (v:Nat) (P:Nat));have s:=Fa (X.o.aa ((aw z.heap.size z).alloc (ak _) (yd #[E yR (v:Nat),E yR (P:Nat)] 30)) X.o.lt);have q:we (w.heap.size+1<=(AC z (yd #[E yR (v:Nat),E yR (P:Nat)] 30)).heap.size):=Fa (s.o.lt);go_wp2_with (at_builtin;refine abL rfl _ _ rfl (w.heap.size+1) _ (zF l) [((v:Int),(P:Nat))] rfl ab.o (I ⟨z.heap.size,0,O⟩) 1 rfl B6.o (fun e=>by cases e) (by simp[A4];omega) q.o ?_;intro v' w2 t o)
    have B1:=Fa (Q.o.grown o Q.o.size fun k B9=>Nat.le_of_succ_le (u.o k B9));have Y:we (bZ w2 w.heap.size (J (I ⟨A,T,O⟩) (Z V) ca) (J b (Z L) cb) (J c (Z R) cc)):=(o.block w.heap.size q.o (fun e=>by have:=u.o _ e.symm;omega)).trans s.o;have D:=Fa t;clear t o;go_roundw
    case rel=>exact⟨i+1,_,al,bd,Ek.o P hP,by rw[abz];exact D,Y,B1⟩
    case measure=>simp[intOf];omega
  ·obtain rfl:i=Z U:=al
   go_wp2;go_ret;exact⟨_,l,rfl,B2.o.lower (Nat.le_succ _),HE.o l F.o,F.o.val,H.o⟩
def ux (L:List Kx) (i:Nat):Nat:=((L.take i).map List.length).sum
theorem afx (h:i<Z L):ux L (i+1)=ux L i+L[i].length:=by
 rw[ux,ux,ig h,gK,List.sum_append];simp
theorem afa:∀ {l:Jp} {x:Nat},x∈l ->x<=l.sum
 |y::l,x,h=>by
  rw[List.sum_cons];rcases bU.1 h with rfl |h
  ·omega
  ·have:=afa h;omega
theorem apu (h:ux L (Z L)<=512):∀l∈L,Z l<=512:=fun l a=>by
 rw[ux,iP] at h;have:Z l<=(L.map List.length).sum:=afa (aQ.2 ⟨l,a,rfl⟩);omega
theorem afw (h:∀l∈L,Z l<=140737488355328):∀i,i<=Z L ->ux L i<=i*140737488355328
 |0,_=>by simp[ux]
 |i+1,hi=>by
  have:=afw h i al;have:=h _ (bQ (show i<Z L by omega));rw[afx al];omega
theorem acg (a:Kd) (ca:Nat) (L:List Kx) (w:wA) (h:ei w a L) (d:∀l∈L,Z l<=140737488355328) (n:Z L<=8):
  c6 26 #[J a (Z L) ca] w fun e w'=>∃q,e=yk (zd q)/\(q=x3 ->∀l∈L,Z l<=512)/\w'=w:=by
 have F:=Fa h;have H:=Fa d;have x:we (ux L 0=0):=by show _=_;simp[ux]
 have k:we (∀i (h:i<Z L),ux L (i+1)=ux L i+L[i].length):=fun i h=>afx h;have s:we (ux L (Z L)<=512 ->∀l∈L,Z l<=512):=fun h=>apu h;have U:we (∀i,i<=Z L ->ux L i<=i*140737488355328):=afw d;clear h d;generalize ux L=T at *;go_enter func26,ntmps26;go_wp2_with fail
 go_loopw [3,4] (fun nv iv wr=>∃i:Nat,i<=Z L/\iv=E yR i/\nv=E yR (T i:Nat)/\wr=w) (fun _ iv _=>Z L - (intOf iv).toNat)
 case atStart=>exact⟨0,aX _,rfl,by rw[x.o];rfl,rfl⟩
 case round=>
  obtain⟨i,j,rfl,rfl,rfl⟩:=hrel;have D:=U.o i j;by_cases p:i<Z L
  ·obtain⟨g,o,b,c,rfl,r,m, -⟩:=F.o i p;have u:=H.o _ (bQ p);have S:=Fa (k.o i p);generalize L[i].length=t at *;generalize hT:T i=f at *;clear hT;go_wp2_with fail
   go_roundw
   case rel=>exact⟨i+1,al,bd,by rw[S.o];go_num,by first |rfl |trivial⟩
   case measure=>simp[intOf];omega
  ·obtain rfl:i=Z L:=al
   by_cases z:T (Z L)<=512
   ·have B9:=Fa (s.o z);generalize hT:T (Z L)=f at *;clear hT;go_wp2;go_ret;exact⟨x3,by simp<;>omega,fun _=>B9.o,rfl⟩
   ·generalize hT:T (Z L)=f at *;clear hT;go_wp2;go_ret;exact⟨xq,by simp<;>omega,(fun h=>by cases h),rfl⟩
theorem akD (b c d:Kd) (f g i:Nat) (L L2 a:Kx) (bk:Bool) (w:wA) (h1:aC w b L) (k:aC w c L2) (m:aC w d a) (l1:Z L<=140737488355328) (l2:Z L2<=140737488355328) (u:Z a<=140737488355328):
  c6 25 #[zp #[J b (Z L) f,J c (Z L2) g,J d (Z a) i,zd bk]] w fun e w'=>∃q,e=yk (zd q)/\da w w':=by
 have s:(AC w (yd #[J b (Z L) f,J c (Z L2) g,J d (Z a) i,zd bk] 47)).heap[w.heap.size]? =I (yd #[J b (Z L) f,J c (Z L2) g,J d (Z a) i,zd bk] 47 (0,0)):=dU w _;have v:AJ (AC w (yd #[J b (Z L) f,J c (Z L2) g,J d (Z a) i,zd bk] 47)) ⟨w.heap.size,0,O⟩=I (J b (Z L) f):=by rw[a8 _ _ _ _ _ (0,0) s];rfl
 have x:AJ (AC w (yd #[J b (Z L) f,J c (Z L2) g,J d (Z a) i,zd bk] 47)) ⟨w.heap.size,1,O⟩=I (J c (Z L2) g):=by rw[a8 _ _ _ _ _ (0,0) s];rfl
 have y:AJ (AC w (yd #[J b (Z L) f,J c (Z L2) g,J d (Z a) i,zd bk] 47)) ⟨w.heap.size,2,O⟩=I (J d (Z a) i):=by rw[a8 _ _ _ _ _ (0,0) s];rfl
 have j:da w (AC w (yd #[J b (Z L) f,J c (Z L2) g,J d (Z a) i,zd bk] 47)):=(aw _ w).alloc (ak _) _;have t:=Fa (Wq (cx:=f) (cy:=g) (cz:=i) (h1.aa j) (k.aa j) (m.aa j));have B2:=Fa (j.trans (((aw _ _).alloc (ak _) (yd #[J b (Z L) f,J c (Z L2) g,J d (Z a) i] 27)).af j.size))
 have V:we (∀(G:Nat) (U:wA),ei U (I ⟨G,0,O⟩) [L,L2,a] ->c6 26 #[J (I ⟨G,0,O⟩) 3 3] U fun e w'=>∃q,e=yk (zd q)/\w'=U):=fun G U r=>(acg (I ⟨G,0,O⟩) 3 [L,L2,a] U r (fun l n=>by
  simp only[bU,gw,jf] at n;rcases n with rfl |rfl |rfl<;>assumption) aE).af fun e w' ⟨q,h,_,p⟩=>⟨q,h,p⟩
 rw[show (AC w (yd #[J b (Z L) f,J c (Z L2) g,J d (Z a) i,zd bk] 47)).heap.size=w.heap.size+1 by simp] at t;clear h1 k m l1 l2 u s j;go_enter func25,ntmps25;go_wp2_with fail
 refine(V.o _ _ t.o).af ?_;rintro e z ⟨q,rfl,rfl⟩;clear v x y;go_wp2;go_ret;exact⟨q,rfl,B2.o⟩
variable {ca cb cc:Nat} {a:Kd} {W':wA}
structure TS (w W:wA) (B:Nat) (a b c:Kd) (ca cb cc:Nat) (V:List Vr) (L:List Kx) (R:List (List Fr)):Prop where
 box:bZ W B (J a (Z V) ca) (J b (Z L) cb) (J c (Z R) cc)
 net:Ay W a b c V L R
 fr:da w W
theorem TS.step {W:wA} {B:Nat} {b c:Kd} (h:TS w W B a b c ca cb cc V L R) (d:da W W'):TS w W' B a b c ca cb cc V L R:=
 ⟨h.box.aa d h.box.lt,h.net.aa d,h.fr.trans (d.af h.fr.size)⟩
theorem aj7 {M:Kx} (h:Up l n):Up (py l M) n:=
 dY.2 ⟨fun x a=>(dY.1 h).1 x (cU.1 a).1,(dY.1 h).2.filter _⟩
theorem Hr (h:Up l n) (a:n<=6):Z l<=6:=by have:=h.length;omega
theorem E8 (h:Up l n):(ag l).Nodup:=by
 rw[ag];refine CS.2 ((dY.1 h).2.imp_of_mem fun {a b} c d e=>?_);have:=(dY.1 h).1 a c;omega
theorem any_none {Y:Kx} {d l:List (Nat×Nat)} (h1:∀v∈ag Y,¬v∈d.map (·.1)) (a:∀p∈l,¬p.1∈d.map (·.1)):KU (zF d) Y (zF l)=false:=by
 rw[KU,J4];intro q b;obtain⟨p,h,rfl⟩:=aQ.1 b;rw[MV,Bool.or_eq_false_iff];refine⟨?_,?_⟩
 ·rw[<- MV,CT];intro m;exact h1 p.1 (aQ.2 ⟨_,m,aE⟩) (aQ.2 ⟨p,h,rfl⟩)
 ·rw[J4];intro r c e;obtain⟨s,hs,rfl⟩:=aQ.1 c
  have:s.1=p.1:=by
   have:=eq_of_beq e;omega
  exact a s hs (aQ.2 ⟨p,h,this.symm⟩)
theorem ace (a b:Kd) (ca cb:Nat) (l:List Fr) (w:wA) (h:dE w a l) (c:dE w b l) (s:Z l<=100000):
  c6 32 #[J a (Z l) ca,J b (Z l) cb] w (dj w (zd xq)):=by
 have A:=Fa h;have d:=Fa c;clear h c;go_enter func32,ntmps32;go_wp2_with fail
 go_loopw [5] (fun iv wr=>∃i:Nat,i<=Z l/\iv=E yR i/\we (da w wr)) (fun iv _=>Z l - (intOf iv).toNat)
 case atStart=>exact⟨0,aX _,rfl,aw _ _⟩
 case round=>
  obtain⟨i,r,rfl,H⟩:=hrel;by_cases t:i<Z l
  ·obtain⟨g,o,rfl,q,e,j,k⟩:=(A.o.aa H.o) i t;obtain⟨p,u,rfl,v,m,n,b2⟩:=(d.o.aa H.o) i t;generalize l[i]=f at *;obtain⟨fn,fx,fy⟩:=f;simp only at e j k m n b2;go_wp2_with fail
   go_quiet (fail)
   go_wp2;go_roundw
   case rel=>exact⟨i+1,al,bd,LV H.o _⟩
   case measure=>simp[intOf];omega
  ·obtain rfl:i=Z l:=al
   go_wp2;go_ret;exact⟨rfl,H.o⟩
structure yP (w U:wA) (r:Nat):Prop where
 res:bh U r (J O 0 0) (J O 0 0)
 hr:w.heap.size<=r
 bel:da w U
theorem yP.step (h:yP w U r) (b:da U U'):yP w U' r:=⟨h.res.aa b h.res.lt,h.hr,h.bel.trans (b.af h.bel.size)⟩
theorem yP.at (h:da w U) (a:U.heap.size=r):yP w (AC U (yd #[J O 0 0,J O 0 0] 38)) r:=by
 subst a;exact⟨dU U _,h.size,h.alloc h.size _⟩
theorem bh.put_tb {x p q:wQ} {t:Tb} (h:bh U g x y) (e:bW x) (f:bW y) (d:bL U p q t) (x' a:wQ):bL (AF (AF U ⟨g,0,O⟩ x') ⟨g,1,O⟩ a) p q t:=
 d.x (((eK.refl [g] U).put (b:=g) (yp aE) 0 x').put (b:=g) (yp aE) 1 a) fun _ _ c=>Sj h e f c
theorem yP.o (h:yP w U r) (p q:wQ):da w (AF (AF U ⟨r,0,O⟩ p) ⟨r,1,O⟩ q)/\∀(x y:wQ) (t:Tb),bL U x y t ->bL (AF (AF U ⟨r,0,O⟩ p) ⟨r,1,O⟩ q) x y t:=
 ⟨(((eK.refl [r] U).put (b:=r) (yp aE) 0 p).put (b:=r) (yp aE) 1 q).low h.bel fun k a=>by rw[bD.1 a];exact h.hr,fun _ _ _ c=>h.res.put_tb (slv _ _ _) (slv _ _ _) c _ _⟩
theorem alG (a:Kd) (ca:Nat) (S:Jp) (u v x y x' B9:wQ) (s t:Tb) (w:wA) (hu:bW u) (hv:bW v) (B7:fJ (iL S)) (hs:aC w a (iL S)) (h:bL w x y s) (z:bL w x' B9 t) (M:dC S (Z S) s) (B2:dC S (Z S) t) (P:Cw 100000 s.2) (V:Cw 100000 t.2):
  c6 51 #[zp #[J a (Z S) ca,u,v],zp #[x,y],zp #[x',B9]] w fun e w'=>∃p q,e=yk (zp #[p,q])/\bL w' p q (vr S s t)/\da w w':=by
 have H:=Fa (fun (U:wA) (D:da w U)=>aeY a ca S x y x' B9 s t U B7 (hs.aa D) (h.aa D) (z.aa D) M B2 P V);obtain⟨⟨ub,un,uc,rfl⟩,⟨vb,vn,vc,rfl⟩⟩:=And.intro hu hv;obtain⟨⟨xb,xn,xc,rfl⟩,⟨yb,yn,yc,rfl⟩⟩:=h.slices;obtain⟨⟨km,B1,Ka,rfl⟩,⟨iR,Y,X,rfl⟩⟩:=z.slices;clear hs h z M B2 P V B7;have l:da w (AC w (yd #[J a (Z S) ca,J ub un uc,J vb vn vc] 86)):=(aw _ w).alloc (ak _) _;have b2:=l.alloc l.size (yd #[J xb xn xc,J yb yn yc] 38);have K:=b2.alloc b2.size (yd #[J km B1 Ka,J iR Y X] 38);have A:=Fa (yP.at (r:=w.heap.size+1+1+1) K aE);clear l b2 K;generalize vr S s t=R at *;go_enter func51,ntmps51;go_wp2_with fail
 refine(H.o _ A.o.bel).af ?_;rintro e b ⟨⟨p,q,rfl,m, -⟩,L⟩;obtain⟨⟨d,n,f,rfl⟩,⟨i,qn,j,rfl⟩⟩:=m.slices;have B6:da b (AC b (yd #[J d n f,J i qn j] 38)):=(aw _ b).alloc (ak _) _;have k:bh (AC b (yd #[J d n f,J i qn j] 38)) b.heap.size (J d n f) (J i qn j):=dU b _;have c:=(A.o.step L).step B6;have F:=m.aa B6;obtain⟨gt,fH⟩:∃g,b.heap.size=g:=⟨_,rfl⟩;obtain⟨w2,ab⟩:∃U,AC b (yd #[J d n f,J i qn j] 38)=U:=⟨_,rfl⟩;rw[ab] at k c F;rw[fH] at k;have qY:=Fa F;have T:=Fa c;obtain⟨t0,t1, -, -⟩:=k.facts;obtain⟨r0,r1, -, -⟩:=c.res.facts;have f0:=eA _ (w.heap.size+1+1+1) 0 _ _ c.res;have f1:=eA _ (w.heap.size+1+1+1) 1 _ _ c.res;clear L m B6 k c F A H;go_wp2_with fail
 refine cN ((T.o.res.put _ _).result1 rfl _ rfl) rfl ?_;have Q:=T.o.o (J d n f) (J i qn j);exact⟨_,_,rfl,Q.2 _ _ _ qY.o,Q.1⟩
def np (S:Jp) (t:Tb) (l:Kx):Tb:=l.foldl (fun u v=>outT S v.toNat x3 u) t
def PQ (S:Jp) (t:Tb) (l:Kx):Prop:=∀i (h:i<Z l),∃v:Nat,l[i]=(v:Int)/\v<Z S/\v∈ag (np S t (l.take i)).1/\dC S (Z S) (np S t (l.take i))/\Cw 8192 (np S t (l.take i)).2
theorem anK (S:Jp) (t:Tb) (l:Kx) (h:i<Z l) (a:l[i]=(v:Int)):np S t (l.take (i+1))=outT S v x3 (np S t (l.take i)):=by
 rw[ig h,np,List.foldl_append,uk,List.foldl_nil,a];rfl
theorem ac1 (a b:Kd) (ca cb:Nat) (S:Jp) (x y:wQ) (t:Tb) (l:Kx) (w:wA) (aR:fJ (iL S)) (hs:aC w a (iL S)) (h:bL w x y t) (m:aC w b l) (nG:t.1.length<=1000) (hl:Z l<=1000) (R:PQ S t (fT t.1 l)):
  c6 53 #[zp #[J a (Z S) ca,x,y],J b (Z l) cb] w fun e w'=>∃p q,e=yk (zp #[p,q])/\bL w' p q (np S t (fT t.1 l))/\da w w':=by
 have Ev:=Fa (fun (i:Nat) (M:i<Z (fT t.1 l)) (p q:wQ) (U:wA) (z:da w U) (hp:bL U p q (np S t ((fT t.1 l).take i)))=>by
  obtain⟨v,h1,h2,h3,h4,h5⟩:=R i M;have:=ad7 a ca S p q (np S t ((fT t.1 l).take i)) v x3 U aR (hs.aa z) hp h4 h5 h2 h3;rw[<- anK S t _ M h1, <- h1] at this;exact this)
 obtain⟨c,yb,f,j,rfl,rfl,n,hy,ae⟩:=h;have yY:=Fa (fun (U:wA) (z:da w U)=>Xt c b f cb t.1 l U (n.aa z) (m.aa z) al al);have UO:=Fa (show bL w (J c t.1.length f) (J yb t.2.length j) t from ⟨_,_,_,_,rfl,rfl,n,hy,ae⟩);have FQ:Z (fT t.1 l)<=1000:=aO (oq _ _) nG;have H0:we (np S t ((fT t.1 l).take 0)=t):=rfl;have HE:we (np S t ((fT t.1 l).take (Z (fT t.1 l)))=np S t (fT t.1 l)):=by show _=_;rw[iP]
 clear hs n hy ae m R aR;generalize fT t.1 l=L at *;have b1:da w (AC w (yd #[J a (Z S) ca,J c t.1.length f,J yb t.2.length j] 86)):=(aw _ w).alloc (ak _) _;have s:=gQ.at (w:=w) rfl (J a (Z S) ca) (J c t.1.length f) (J yb t.2.length j);have b2:=yP.at (r:=w.heap.size+1) b1 aE;have c2:Below (AC w (yd #[J a (Z S) ca,J c t.1.length f,J yb t.2.length j] 86)).heap.size _ (AC (AC w (yd #[J a (Z S) ca,J c t.1.length f,J yb t.2.length j] 86)) (yd #[J O 0 0,J O 0 0] 38)):=(aw _ _).alloc (ak _) _;have o:=s.aa c2 s.lt;have F:Below _ (AC (AC w (yd #[J a (Z S) ca,J c t.1.length f,J yb t.2.length j] 86)) (yd #[J O 0 0,J O 0 0] 38)) (AC (AC (AC w (yd #[J a (Z S) ca,J c t.1.length f,J yb t.2.length j] 86)) (yd #[J O 0 0,J O 0 0] 38)) (yd #[J c t.1.length f,J yb t.2.length j] 38)):=(aw _ _).alloc (ak _) _;have b3:=b2.step F;have s3:=o.aa F o.lt;have hX:bh (AC (AC (AC w (yd #[J a (Z S) ca,J c t.1.length f,J yb t.2.length j] 86)) (yd #[J O 0 0,J O 0 0] 38)) (yd #[J c t.1.length f,J yb t.2.length j] 38)) (w.heap.size+1+1) (J c t.1.length f) (J yb t.2.length j):=bh.at aE _ _;have A:=Fa b3;have H:=Fa s3;have X:=Fa hX
 clear b1 s b2 c2 o F b3 s3 hX;go_enter func53,ntmps53;go_wp2_with fail
 refine(yY.o _ A.o.bel).af ?_;rintro e w1 ⟨d,cd,rfl,hd, -,B9⟩;have Q:=Fa (A.o.step B9);have iw:=Fa (H.o.aa B9 H.o.lt);have B1:=Fa (X.o.aa B9 X.o.lt);have HD:=Fa hd;have T:=Fa (UO.o.aa Q.o.bel);clear A H X B9 hd UO;go_wp2_with fail
 go_loopw [15] (fun iv wr=>∃(i:Nat) (p q:wQ),i<=Z L/\iv=E yR i/\we (bh wr (w.heap.size+1+1) p q)/\we (bL wr p q (np S t (L.take i)))/\we (yP w wr (w.heap.size+1))/\we (gQ wr w.heap.size (J a (Z S) ca) (J c t.1.length f) (J yb t.2.length j))/\we (aC wr d L)) (fun iv _=>Z L - (intOf iv).toNat)
 case atStart=>exact⟨0,_,_,aX _,rfl,B1,by rw[H0.o];exact T,Q,iw,HD⟩
 case round=>
  obtain⟨i,p,q,M,rfl,X,V,A,H,P⟩:=hrel;clear B1 T Q iw HD;obtain⟨⟨pb,pn,pc,rfl⟩,⟨qb,qn,qc,rfl⟩⟩:=V.o.slices;obtain⟨x0,x1,J9,J8⟩:=X.o.facts;obtain⟨s0,s,o⟩:=H.o.cells;by_cases ad:i<Z L
  ·obtain⟨g,ax,rfl,hg,B6⟩:=P.o i ad;have HM:=Fa (Ev.o i ad (J pb pn pc) (J qb qn qc) wr A.o.bel V.o);go_wp2_with fail
   refine HM.o.af ?_;rintro e w3 ⟨⟨p',q',rfl,B7, -⟩,m⟩;obtain⟨⟨aj,ao,an,rfl⟩,⟨aq,av,ar,rfl⟩⟩:=B7.slices;have B2:=Fa (X.o.aa m X.o.lt);have u:=Fa (A.o.step m);have Y:=Fa (H.o.aa m H.o.lt);have ab:=Fa (P.o.aa m);have ai:=Fa B7;clear m B7 X V A H P HM x0 x1 J9 J8 s0 s o B6 hg;obtain⟨x0,x1,J9,J8⟩:=B2.o.facts;have D:=((eK.refl [w.heap.size+1+1] w3).put (b:=w.heap.size+1+1) (yp aE) 0 (J aj ao an)).put (b:=w.heap.size+1+1) (yp aE) 1 (J aq av ar);have K:=Fa D;clear D;go_wp2_with fail
   go_roundw
   case rel=>
    refine⟨i+1,_,_,al,bd,Fa (B2.o.put _ _),Fa (B2.o.put_tb (slv _ _ _) (slv _ _ _) ai.o _ _),Fa ⟨?_,u.o.hr,K.o.low u.o.bel fun k D=>by rw[bD.1 D];omega⟩,Fa ?_,Fa (KX ab.o (Sj B2.o (slv _ _ _) (slv _ _ _) fun h0=>?_) K.o)⟩
    ·exact(K.o.block _ u.o.res.lt aE).trans u.o.res
    ·exact(K.o.block _ Y.o.lt (by simp;omega)).trans Y.o
    ·obtain⟨g',o',e,_,B6⟩:=ab.o 0 al;exact⟨g',o',_,e,B6,Sm⟩
   case measure=>simp[intOf];omega
  ·obtain rfl:i=Z L:=al
   obtain⟨r0,r1, -, -⟩:=A.o.res.facts;have f0:=eA _ (w.heap.size+1) 0 _ _ A.o.res;have f1:=eA _ (w.heap.size+1) 1 _ _ A.o.res;have PZ:=Fa (HE.o▸V.o);go_wp2_with fail
   refine cN ((A.o.res.put _ _).result1 rfl _ rfl) rfl ?_;have n:=A.o.o (J pb pn pc) (J qb qn qc);exact⟨_,_,rfl,n.2 _ _ _ PZ.o,n.1⟩
structure Gq (w U:wA) (s x y v z:wQ):Prop where
 bx:gQ U w.heap.size s x y
 ft:U.heap[w.heap.size+1]? =I (yd #[v,z] 30 (0,0))
 t:yP w U (w.heap.size+1+1)
theorem Gq.step {x v:wQ} (h:Gq w U s x y v z) (b:da U U'):Gq w U' s x y v z:=⟨h.bx.aa b h.bx.lt,(b.block _ (c5.1 h.ft).1).trans h.ft,h.t.step b⟩
theorem Gq.cells {x v:wQ} (h:Gq w U s x y v z):AJ U ⟨w.heap.size+1,0,O⟩=I v/\U.cell? ⟨w.heap.size+1,1,O⟩=I z:=⟨(a8 U _ 0 _ _ (0,0) h.ft).trans rfl,(a8 U _ 1 _ _ (0,0) h.ft).trans rfl⟩
theorem Gq.begin (w:wA) (s x y v z:wQ):Gq w (AC (AC (AC w (yd #[s,x,y] 86)) (yd #[v,z] 30)) (yd #[J O 0 0,J O 0 0] 38)) s x y v z:=by
 have e:=gQ.at (w:=w) rfl s x y;have b:da w (AC w (yd #[s,x,y] 86)):=(aw _ w).alloc (ak _) _;have b2:=b.alloc b.size (yd #[v,z] 30);have c:Below (AC w (yd #[s,x,y] 86)).heap.size (AC w (yd #[s,x,y] 86)) (AC (AC w (yd #[s,x,y] 86)) (yd #[v,z] 30)):=(aw _ _).alloc (ak _) _;have d:=c.alloc c.size (yd #[J O 0 0,J O 0 0] 38);have a:=dU (AC w (yd #[s,x,y] 86)) (yd #[v,z] 30);have f:Below (AC (AC w (yd #[s,x,y] 86)) (yd #[v,z] 30)).heap.size _ (AC (AC (AC w (yd #[s,x,y] 86)) (yd #[v,z] 30)) (yd #[J O 0 0,J O 0 0] 38)):=(aw _ _).alloc (ak _) _;have g:=(f.block _ (c5.1 a).1).trans a;exact⟨e.aa d e.lt,by simpa using g,yP.at b2 aE⟩
theorem alF (a:Kd) (ca:Nat) (S:Jp) (x y:wQ) (v z:Nat) (w:wA) (n:bW x) (hy:bW y) (hs:aC w a (iL S)) (X:v<Z S) (h1:1<=sz S v) (V:sz S v<=1000) (Y:z<sz S v):
  c6 52 #[zp #[J a (Z S) ca,x,y],zp #[E yR (v:Nat),E yR (z:Nat)]] w fun e w'=>∃p q,e=yk (zp #[p,q])/\bL w' p q ([(v:Int)],jy (sz S v) z)/\da w w':=by
 have B1:we (∀U:wA,c6 38 #[E yR (sz S v:Nat),E yR (z:Nat)] U fun e w'=>∃G,e=yk (J (I ⟨G,0,O⟩) (sz S v) (sz S v))/\U.heap.size<=G/\gR w' G (jy (sz S v) z)/\da U w'):=fun U=>ail (sz S v) z U h1 V Y;obtain⟨gs,s,rfl,F,L⟩:=hs v (by rw[bM];exact X);have ab:AJ w ⟨gs,s+v,O⟩=I (E yR (sz S v:Nat)):=by rw[L];simp[iL,sz,X]
 have c:=Fa F;have B9:=Fa ab;obtain⟨⟨xb,xn,xc,rfl⟩,⟨yb,yn,yc,rfl⟩⟩:=And.intro n hy;have T:=Gq.begin w (J (I ⟨gs,s,O⟩) (Z S) ca) (J xb xn xc) (J yb yn yc) (E yR (v:Nat)) (E yR (z:Nat))
 have HX:we (∀(U:wA) (p q:wQ),bh U (w.heap.size+1+1) (J O 0 0) (J O 0 0) ->(AJ U ⟨w.heap.size,0,O⟩=I (J (I ⟨gs,s,O⟩) (Z S) ca)/\U.cell? ⟨w.heap.size+1,0,O⟩=I (E yR (v:Nat))/\U.cell? ⟨w.heap.size+1,1,O⟩=I (E yR (z:Nat))/\U.cell? ⟨gs,s+v,O⟩=I (E yR (sz S v:Nat))) ->(AJ (AF (AF U ⟨w.heap.size+1+1,0,O⟩ p) ⟨w.heap.size+1+1,1,O⟩ q) ⟨w.heap.size,0,O⟩=I (J (I ⟨gs,s,O⟩) (Z S) ca)/\(AF (AF U ⟨w.heap.size+1+1,0,O⟩ p) ⟨w.heap.size+1+1,1,O⟩ q).cell? ⟨w.heap.size+1,0,O⟩=I (E yR (v:Nat))/\(AF (AF U ⟨w.heap.size+1+1,0,O⟩ p) ⟨w.heap.size+1+1,1,O⟩ q).cell? ⟨w.heap.size+1,1,O⟩=I (E yR (z:Nat))/\(AF (AF U ⟨w.heap.size+1+1,0,O⟩ p) ⟨w.heap.size+1+1,1,O⟩ q).cell? ⟨gs,s+v,O⟩=I (E yR (sz S v:Nat)))):=fun U p q _ ⟨h1,h2,h3,h4⟩=>by
  have b:∀g,g≠w.heap.size+1+1 ->∀o,AJ (AF (AF U ⟨w.heap.size+1+1,0,O⟩ p) ⟨w.heap.size+1+1,1,O⟩ q) ⟨g,o,O⟩=AJ U ⟨g,o,O⟩:=fun g R o=>iE (a:=⟨g,o,O⟩) ((eO _ ⟨w.heap.size+1+1,1,O⟩ q g R).trans (eO U ⟨w.heap.size+1+1,0,O⟩ p g R));have F:=c.o;exact⟨(b _ al _).trans h1,(b _ al _).trans h2,(b _ al _).trans h3,(b _ al _).trans h4⟩
 have H:=Fa T;have kQ:(v:Int)<(Z S:Int):=al
 clear T L ab F hs Y h1 V;go_enter func52,ntmps52;go_upto_region 1 with fail
 replace H:=Fa (H.o.step ((aw _ _).drew));refine iD (S:=fun u=>AJ u ⟨w.heap.size,0,O⟩=I (J (I ⟨gs,s,O⟩) (Z S) ca)/\u.cell? ⟨w.heap.size+1,0,O⟩=I (E yR (v:Nat))/\u.cell? ⟨w.heap.size+1,1,O⟩=I (E yR (z:Nat))/\u.cell? ⟨gs,s+v,O⟩=I (E yR (sz S v:Nat))) ao ⟨H.o.bx.cells.1,H.o.cells.1,H.o.cells.2,(H.o.t.bel.cell (p:=⟨gs,s+v,O⟩) c.o).trans B9.o⟩ (fun Q=>?_);generalize (AC (AC (AC w (yd #[J (I ⟨gs,s,O⟩) (Z S) ca,J xb xn xc,J yb yn yc] 86)) (yd #[E yR (v:Nat),E yR (z:Nat)] 30)) (yd #[J O 0 0,J O 0 0] 38)).drew=j at *;refine au 0 (zZ (I ⟨w.heap.size+1,0,O⟩)) ?_;refine au 1 (E yR (v:Nat)) ?_;refine au 3 (zZ (I ⟨w.heap.size,0,O⟩)) ?_;refine au 4 (J (I ⟨gs,s,O⟩) (Z S) ca) ?_;refine au 5 (zZ (I ⟨w.heap.size+1,0,O⟩)) ?_;refine au 6 (E yR (v:Nat)) ?_;refine au 7 (zZ (I ⟨gs,s+v,O⟩)) ?_;refine au 8 (E yR (sz S v:Nat)) ?_;refine au 9 (zZ (I ⟨w.heap.size+1,1,O⟩)) ?_;refine au 10 (E yR (z:Nat)) ?_;refine aG [2,11] (cA ?_ (cA ?_ aH))
 focus
  intro K h;go_simp;have B6:da j (AC j (yd #[E yR (v:Nat)] 3)):=(aw _ j).alloc (ak _) _;replace H:=Fa (H.o.step B6);have k:=tE j (v:Nat);obtain⟨gb,i⟩:∃g,j.heap.size=g:=⟨_,rfl⟩;obtain⟨d,f⟩:∃x,AC j (yd #[E yR (v:Nat)] 3)=x:=⟨_,rfl⟩;rw[f] at H k;rw[i] at k;have l:=Fa k;simp only[f,i];refine h.o _ _ ⟨H.o.bx.cells.1,H.o.cells.1,H.o.cells.2,(H.o.t.bel.cell (p:=⟨gs,s+v,O⟩) c.o).trans B9.o⟩ (fun m=>?_);clear h K Q B6 k i f;refine aG [11] (cA ?_ aH);intro K h;go_simp;refine(B1.o _).af ?_;rintro e B7 ⟨G,rfl,D,r,b⟩;replace H:=Fa (H.o.step b);replace l:=Fa (l.o.aa b);have r:=r.fr;have B2:=Fa r;refine h.o _ _ ⟨H.o.bx.cells.1,H.o.cells.1,H.o.cells.2,(H.o.t.bel.cell (p:=⟨gs,s+v,O⟩) c.o).trans B9.o⟩ (fun m=>?_);clear h K r b D
 rotate_left
 focus
  intro K h;go_simp;refine(B1.o _).af ?_;rintro e d ⟨G,rfl,D,r,b⟩;replace H:=Fa (H.o.step b);have r:=r.fr;have B2:=Fa r;refine h.o _ _ ⟨H.o.bx.cells.1,H.o.cells.1,H.o.cells.2,(H.o.t.bel.cell (p:=⟨gs,s+v,O⟩) c.o).trans B9.o⟩ (fun m=>?_);clear h K Q r b D;refine aG [2] (cA ?_ aH);intro K h;go_simp;have B6:da d (AC d (yd #[E yR (v:Nat)] 3)):=(aw _ d).alloc (ak _) _;replace H:=Fa (H.o.step B6);have k:=tE d (v:Nat);have M:=B2.o.aa B6;obtain⟨gb,i⟩:∃g,d.heap.size=g:=⟨_,rfl⟩;obtain⟨B7,f⟩:∃x,AC d (yd #[E yR (v:Nat)] 3)=x:=⟨_,rfl⟩;rw[f] at H k M;rw[i] at k;have l:=Fa k;replace B2:=Fa M;clear M;simp only[f,i];refine h.o _ _ ⟨H.o.bx.cells.1,H.o.cells.1,H.o.cells.2,(H.o.t.bel.cell (p:=⟨gs,s+v,O⟩) c.o).trans B9.o⟩ (fun m=>?_);clear h K B6 k i f
 all_goals
  have n:=H.o.t.o (J (I ⟨gb,0,O⟩) 1 1) (J (I ⟨G,0,O⟩) (sz S v) (sz S v));have A:=H.o.t.res;obtain⟨r0,r1, -, -⟩:=A.facts;have f0:=eA _ (w.heap.size+1+1) 0 _ _ A;have f1:=eA _ (w.heap.size+1+1) 1 _ _ A;have P:bL B7 (J (I ⟨gb,0,O⟩) 1 1) (J (I ⟨G,0,O⟩) (sz S v) (sz S v)) ([(v:Int)],jy (sz S v) z):=⟨_,_,_,_,rfl,by rw[Bd],l.o,B2.o,fun e=>by cases e⟩;have UO:=Fa P;clear P;refine au 12 ((zp #[J (I ⟨gb,0,O⟩) 1 1,J (I ⟨G,0,O⟩) (sz S v) (sz S v)])) ?_;refine aG [13] (cA ?_ aH);intro K h;go_simp;refine h.o _ _ (HX.o B7 _ _ H.o.t.res ⟨H.o.bx.cells.1,H.o.cells.1,H.o.cells.2,(H.o.t.bel.cell (p:=⟨gs,s+v,O⟩) c.o).trans B9.o⟩) (fun DC=>?_);clear h K DC m;try simp only[gE,aP]
  refine eV ao ?_ _;go_wp2_with fail
  refine cN ((A.put _ _).result1 rfl _ rfl) rfl ?_;exact⟨_,_,rfl,n.2 _ _ _ UO.o,n.1⟩
theorem gQ.result2 {x:wQ} (h:gQ w g s x y) {p u:Tmp} (r:fn.results= #[.cell p 86,.tmp u]) (m:Array wQ) (a:m.getD p wd=zZ (I ⟨g,0,O⟩)):
  (results fn m).run prog w=.ok (zz #[zp #[s,x,y],m.getD u wd]) w:=by
 rw[results_cell_tmp r,a];simp only[asAddr,zi,wG];rw[run_loadVar_row w g _ 86 _ _ _ h underlying86 rfl ao];rfl
theorem Wn (w:wA) (x y:Int):aC (AC w (yd #[E yR x,E yR y] 3)) (I ⟨w.heap.size,0,O⟩) [x,y]:=fun k a=>by
 have h:=dU w (yd #[E yR x,E yR y] 3);refine⟨w.heap.size,0,rfl,aE,?_⟩;match k,a with
 |0,_=>exact(a8 _ w.heap.size _ _ _ (0,0) h).trans rfl
 |1,_=>exact(a8 _ w.heap.size _ _ _ (0,0) h).trans rfl
structure xI (w U:wA) (p q r:wQ) (v z:wQ):Prop where
 nb:bZ U w.heap.size p q r
 ft:U.heap[w.heap.size+1]? =I (yd #[v,z] 30 (0,0))
 res:gQ U (w.heap.size+1+1) (J O 0 0) (J O 0 0) (J O 0 0)
 bel:da w U
theorem xI.step {p q r v:wQ} (h:xI w U p q r v z) (b:da U U'):xI w U' p q r v z:=⟨h.nb.aa b h.nb.lt,(b.block _ (c5.1 h.ft).1).trans h.ft,h.res.aa b h.res.lt,h.bel.trans (b.af h.bel.size)⟩
theorem xI.fact {p q r v:wQ} (h:xI w U p q r v z):AJ U ⟨w.heap.size+1,0,O⟩=I v:=(a8 U _ 0 _ _ (0,0) h.ft).trans rfl
theorem xI.fact2 {p q r v:wQ} (h:xI w U p q r v z):AJ U ⟨w.heap.size+1,1,O⟩=I z:=(a8 U _ 1 _ _ (0,0) h.ft).trans rfl
theorem xI.begin (w:wA) (p q r v z:wQ):xI w (AC (AC (AC w (yd #[p,q,r] 26)) (yd #[v,z] 30)) (yd #[J O 0 0,J O 0 0,J O 0 0] 86)) p q r v z:=by
 have e:=bZ.at (w:=w) rfl p q r;have b:da w (AC w (yd #[p,q,r] 26)):=(aw _ w).alloc (ak _) _;have b2:=b.alloc b.size (yd #[v,z] 30);have d:=b2.alloc b2.size (yd #[J O 0 0,J O 0 0,J O 0 0] 86);have c:Below (AC w (yd #[p,q,r] 26)).heap.size (AC w (yd #[p,q,r] 26)) (AC (AC w (yd #[p,q,r] 26)) (yd #[v,z] 30)):=(aw _ _).alloc (ak _) _;have f:=c.alloc c.size (yd #[J O 0 0,J O 0 0,J O 0 0] 86);have a:=dU (AC w (yd #[p,q,r] 26)) (yd #[v,z] 30);have g:Below (AC (AC w (yd #[p,q,r] 26)) (yd #[v,z] 30)).heap.size _ (AC (AC (AC w (yd #[p,q,r] 26)) (yd #[v,z] 30)) (yd #[J O 0 0,J O 0 0,J O 0 0] 86)):=(aw _ _).alloc (ak _) _;have h:=(g.block _ (c5.1 a).1).trans a;exact⟨e.aa f e.lt,by simpa using h,gQ.at aE _ _ _,d⟩
theorem aly {p q r v x:wQ} {t:Tb} (h:xI w U p q r v z) (X:bh U g (J O 0 0) (J O 0 0)) (P:bL U x y t) (c:w.heap.size+1+1<g):xI w (AF (AF U ⟨g,0,O⟩ x) ⟨g,1,O⟩ y) p q r v z/\bL (AF (AF U ⟨g,0,O⟩ x) ⟨g,1,O⟩ y) x y t/\True:=by
 have a:=((eK.refl [g] U).put (b:=g) (yp aE) 0 x).put (b:=g) (yp aE) 1 y;exact⟨⟨(a.block _ h.nb.lt (by simp;omega)).trans h.nb,(a.block _ (c5.1 h.ft).1 (by simp;omega)).trans h.ft,(a.block _ h.res.lt (by simp;omega)).trans h.res,a.low h.bel fun k m=>by rw[bD.1 m];omega⟩,X.put_tb (slv _ _ _) (slv _ _ _) P _ _,trivial⟩
theorem alz {p q r v x e:wQ} {t:Tb} {G:Nat} {l:Jp} (h:xI w U p q r v z) (P:bL U x y t) (R:cZ U G l) (i:0<Z l) (X:bh U g x' e) (j:w.heap.size+1+1<g) (s a c:wQ):
  cZ (AF (AF (AF U ⟨w.heap.size+1+1,0,O⟩ s) ⟨w.heap.size+1+1,1,O⟩ a) ⟨w.heap.size+1+1,2,O⟩ c) G l/\bL (AF (AF (AF U ⟨w.heap.size+1+1,0,O⟩ s) ⟨w.heap.size+1+1,1,O⟩ a) ⟨w.heap.size+1+1,2,O⟩ c) x y t/\da w (AF (AF (AF U ⟨w.heap.size+1+1,0,O⟩ s) ⟨w.heap.size+1+1,1,O⟩ a) ⟨w.heap.size+1+1,2,O⟩ c)/\bZ (AF (AF (AF U ⟨w.heap.size+1+1,0,O⟩ s) ⟨w.heap.size+1+1,1,O⟩ a) ⟨w.heap.size+1+1,2,O⟩ c) w.heap.size p q r/\bh (AF (AF (AF U ⟨w.heap.size+1+1,0,O⟩ s) ⟨w.heap.size+1+1,1,O⟩ a) ⟨w.heap.size+1+1,2,O⟩ c) g x' e:=by
 have k:=(((eK.refl [w.heap.size+1+1] U).put (b:=w.heap.size+1+1) (yp aE) 0 s).put (b:=w.heap.size+1+1) (yp aE) 1 a).put (b:=w.heap.size+1+1) (yp aE) 2 c;refine⟨(k.block G (c5.1 R).1 fun m=>?_).trans R,h.res.put_tb (slv _ _ _) (slv _ _ _) (slv _ _ _) P _ _ _,gQ.put_below h.bel al _ _ _,(k.block _ h.nb.lt (by simp;omega)).trans h.nb,(k.block _ X.lt (by simp;omega)).trans X⟩;rw[bD.1 m] at R;have f:=h.res.cells.1;have d:=R.cell 0 i;rw[f] at d;cases d
theorem alA (a b c bz:Kd) (ca cb cc cz:Nat) (V:List Vr) (L:List Kx) (R:List (List Fr)) (x vx y:Int) (z:Kx) (w:wA) (h:Ay w a b c V L R) (hl:∀l∈L,Z l<=1000) (hz:aC w bz z) (aj:bz=O ->cz=0) (aW:Z z<=500) (hf:iq V L R [(x,vx)]=0) (ar:jX L [[x],[y],z]=0) (eI:([x,y]++z).Nodup) (tI:jO V L R (a7 [x,y] z) []=0) (pF:Z (a7 [x,y] z)<=1000) (aq:0<Z V):
  c6 49 #[zp #[J a (Z V) ca,J b (Z L) cb,J c (Z R) cc],zp #[E yR x,E yR vx],E yR y,J bz (Z z) cz] w fun e w'=>∃G p q,e=yk (zz #[zp #[J (I ⟨G,0,O⟩) (Z V) (Z V),p,q],E yR 0])/\cZ w' G (ah V)/\bL w' p q (jN V L R (a7 [x,y] z) [])/\da w w':=by
 have lr:0<(jN V L R (a7 [x,y] z) []).1.length:=by
  rw[jN,aA tI];exact VT (((C2 [x,y] z).2 x).2 (yp aE))
 have ax:we (0<Z (ah V)):=by show _<_;rw[lQ];exact aq
 have an:we (∀(g:Nat) (U:wA),da w U ->j9 U (I ⟨g,0,O⟩) [(x,vx)] ->c6 36 #[zp #[J a (Z V) ca,J b (Z L) cb,J c (Z R) cc],J (I ⟨g,0,O⟩) 1 1] U fun e w'=>e=yk (E yR 0)/\da U w'):=fun g U B1 hc=>by
  have:=SJ a b c (I ⟨g,0,O⟩) ca cb cc 1 V L R [(x,vx)] U (h.net.aa B1) h.sm hc aE aE;rw[hf] at this;exact this
 have ae:=Fa (fun (U:wA) (B1:da w U)=>ahH b bz cb cz L x y z U (h.net.pars.aa B1) hl (hz.aa B1) aj al);rw[ar] at ae;have ai:we (∀(gb:Nat) (U:wA),da w U ->aC U (I ⟨gb,0,O⟩) [x,y] ->c6 80 #[J (I ⟨gb,0,O⟩) 2 2,J bz (Z z) cz] U fun e w'=>∃(d:Kd) (B9:Nat),e=yk (J d (Z (a7 [x,y] z)) B9)/\aC w' d (a7 [x,y] z)/\(d=O ->B9=0)/\da U w'):=fun gb U B1 hi=>ab4 (I ⟨gb,0,O⟩) bz 2 cz [x,y] z U hi (hz.aa B1) (fun e=>by cases e) aj aE al eI
 have yX:we (∀(d:Kd) (B9:Nat) (U:wA),da w U ->aC U d (a7 [x,y] z) ->c6 44 #[zp #[J a (Z V) ca,J b (Z L) cb,J c (Z R) cc],J d (Z (a7 [x,y] z)) B9,J O 0 0] U fun e w'=>(∃p q,e=yk (zz #[zp #[p,q],E yR 0])/\bL w' p q (jN V L R (a7 [x,y] z) []))/\da U w'):=fun d B9 U B1 hi=>by
  refine(afG a b c d O ca cb cc B9 0 V L R (a7 [x,y] z) [] U (h.aa B1) hi pF (fun k hk=>absurd hk aE) aE aE).af fun e w' ⟨ht,f⟩=>⟨?_,f⟩;rw[tI] at ht;obtain⟨tb,tc,sN,rF,rfl,hq,hc⟩:=ht;exact⟨_,_,rfl,tb,tc,sN,rF,rfl,rfl,hq,hc,fun e=>by subst e;obtain⟨_,_,e,_⟩:=hq 0 lr;cases e⟩
 have ie:=Fa (fun (U:wA) (B1:da w U)=>NI a b c ca cb cc (Z L) (Z R) V U (h.net.aa B1).Fd h.sm.Fd.1);have hT:=xI.begin w (J a (Z V) ca) (J b (Z L) cb) (J c (Z R) cc) (E yR x) (E yR vx);have H:=Fa hT;clear hT h hl hz aj hf ar eI tI lr pF aq;generalize a7 [x,y] z=Q at *;generalize jN V L R Q []=T at *;generalize ah V=SZ at *;go_enter func49,ntmps49;go_upto_region 1 with fail
 generalize (AC (AC (AC w (yd #[J a (Z V) ca,J b (Z L) cb,J c (Z R) cc] 26)) (yd #[E yR x,E yR vx] 30)) (yd #[J O 0 0,J O 0 0,J O 0 0] 86))=W0 at *;obtain⟨n0,n1,n2⟩:=H.o.nb.cells;have t0:=H.o.fact;have t1:=H.o.fact2;go_wp2_with fail
 have B6:da W0 (AC W0 (yd #[E yR x,E yR vx] 30)):=(aw _ W0).alloc (ak _) _;have Cm:=Fa (H.o.step B6);refine(an.o W0.heap.size _ Cm.o.bel (Sn W0 x vx)).af ?_;rintro e w1 ⟨rfl,f⟩;replace H:=Fa (Cm.o.step f);clear B6 Cm f n0 n1 n2 t0 t1 an;obtain⟨n0,n1,n2⟩:=H.o.nb.cells;have t0:=H.o.fact;go_wp2_with fail
 have Lk:=ae.o w1 H.o.bel;refine Lk.1.af ?_;rintro e w2 ⟨rfl,f⟩;replace H:=Fa ((H.o.step Lk.2).step f);clear Lk f n0 n1 n2 t0 ae;go_wp2_with fail
 replace H:=Fa (H.o.step ((aw _ _).drew));refine iD (S:=fun u=>(AJ u ⟨w.heap.size,0,O⟩=I (J a (Z V) ca)/\u.cell? ⟨w.heap.size,1,O⟩=I (J b (Z L) cb)/\u.cell? ⟨w.heap.size,2,O⟩=I (J c (Z R) cc))/\u.cell? ⟨w.heap.size+1,0,O⟩=I (E yR x)) ao ⟨H.o.nb.cells,H.o.fact⟩ (fun uJ=>?_);generalize w2.drew=t at *;refine dt 0 ((zp #[J a (Z V) ca,J b (Z L) cb,J c (Z R) cc])) ?_ ?_
 ·intro u' aM;try simp only[gE];obtain⟨⟨s1,s2,s3⟩,s4⟩:=aM;go_simp
 refine au 1 (zZ (I ⟨w.heap.size+1,0,O⟩)) ?_;try simp only[gE,aP]
 refine dt 2 (E yR x) ?_ ?_
 ·intro u' aM;try simp only[gE];obtain⟨⟨s1,s2,s3⟩,s4⟩:=aM;go_simp
 refine au 3 (E yR y) ?_;refine au 5 (J bz (Z z) cz) ?_;refine aG [4,11] (cA ?_ (cA ?_ aH))
 focus
  intro j K;go_simp;have B6:da t (AC t (yd #[E yR x,E yR y] 3)):=(aw _ t).alloc (ak _) _;have n:=Wn t x y;replace H:=Fa (H.o.step B6);obtain⟨gb,m⟩:∃g,t.heap.size=g:=⟨_,rfl⟩;obtain⟨r,M⟩:∃F,AC t (yd #[E yR x,E yR y] 3)=F:=⟨_,rfl⟩;rw[M] at H n;rw[m] at n;have Y:=Fa n;simp only[M,m];refine K.o _ _ ⟨H.o.nb.cells,H.o.fact⟩ (fun ab=>?_);clear K j uJ B6 n m M;refine aG [6,11] (cA ?_ (cA ?_ aH))
  focus
   intro j K;go_simp;refine(ai.o gb r (H.o.bel) Y.o).af ?_;rintro e A ⟨d,B9,rfl,hd,lW,f⟩;replace H:=Fa (H.o.step f);have D:=Fa (And.intro hd lW);refine K.o _ _ ⟨H.o.nb.cells,H.o.fact⟩ (fun qJ=>?_);clear K j ab f hd lW Y;refine aG [7,11] (cA ?_ (cA ?_ aH))
   focus
    intro j K;go_simp;refine(yX.o d B9 A H.o.bel D.o.1).af ?_;rintro e v ⟨⟨p,q,rfl,B7⟩,f⟩;replace H:=Fa (H.o.step f);have P:=Fa B7;refine K.o _ _ ⟨H.o.nb.cells,H.o.fact⟩ (fun vM=>?_);clear K j qJ f B7 D;refine au 8 ((zz #[zp #[p,q],E yR 0])) ?_;refine au 9 ((zp #[p,q])) ?_;refine au 10 (E yR 0) ?_;refine aG [11] (cA ?_ aH);intro j K;go_simp;have B6:da v (AC v (yd #[J O 0 0,J O 0 0] 38)):=(aw _ v).alloc (ak _) _;have n:bh (AC v (yd #[J O 0 0,J O 0 0] 38)) v.heap.size (J O 0 0) (J O 0 0):=dU v _;have s:w.heap.size+1+1<v.heap.size:=H.o.res.lt;replace H:=Fa (H.o.step B6);replace P:=Fa (P.o.aa B6);obtain⟨gt,m⟩:∃g,v.heap.size=g:=⟨_,rfl⟩;obtain⟨z4,M⟩:∃F,AC v (yd #[J O 0 0,J O 0 0] 38)=F:=⟨_,rfl⟩;rw[M] at H n P;rw[m] at n s;have i:=Fa n;have HG:=Fa s;simp only[M,m];refine K.o _ _ ⟨H.o.nb.cells,H.o.fact⟩ (fun BZ=>?_);clear K j vM B6 n m M s
   rotate_left
   focus
    intro j K;go_simp;have B6:da A (AC A (yd #[J O 0 0,J O 0 0] 38)):=(aw _ A).alloc (ak _) _;have n:bh (AC A (yd #[J O 0 0,J O 0 0] 38)) A.heap.size (J O 0 0) (J O 0 0):=dU A _;have s:w.heap.size+1+1<A.heap.size:=H.o.res.lt;replace H:=Fa (H.o.step B6);replace D:=Fa (And.intro (D.o.1.aa B6) D.o.2);obtain⟨gt,m⟩:∃g,A.heap.size=g:=⟨_,rfl⟩;obtain⟨v,M⟩:∃F,AC A (yd #[J O 0 0,J O 0 0] 38)=F:=⟨_,rfl⟩;rw[M] at H n D;rw[m] at n s;have i:=Fa n;have HG:=Fa s;simp only[M,m];refine K.o _ _ ⟨H.o.nb.cells,H.o.fact⟩ (fun vM=>?_);clear K j qJ B6 n m M s;refine aG [7] (cA ?_ aH);intro j K;go_simp;refine(yX.o d B9 v H.o.bel D.o.1).af ?_;rintro e z4 ⟨⟨p,q,rfl,B7⟩,f⟩;replace H:=Fa (H.o.step f);replace i:=Fa (i.o.aa f i.o.lt);have P:=Fa B7;refine K.o _ _ ⟨H.o.nb.cells,H.o.fact⟩ (fun BZ=>?_);clear K j vM f B7 D;refine au 8 ((zz #[zp #[p,q],E yR 0])) ?_;refine au 9 ((zp #[p,q])) ?_;refine au 10 (E yR 0) ?_
  rotate_left 2
  focus
   intro j K;go_simp;have B6:da r (AC r (yd #[J O 0 0,J O 0 0] 38)):=(aw _ r).alloc (ak _) _;have n:bh (AC r (yd #[J O 0 0,J O 0 0] 38)) r.heap.size (J O 0 0) (J O 0 0):=dU r _;have s:w.heap.size+1+1<r.heap.size:=H.o.res.lt;replace H:=Fa (H.o.step B6);replace Y:=Fa (Y.o.aa B6);obtain⟨gt,m⟩:∃g,r.heap.size=g:=⟨_,rfl⟩;obtain⟨A,M⟩:∃F,AC r (yd #[J O 0 0,J O 0 0] 38)=F:=⟨_,rfl⟩;rw[M] at H n Y;rw[m] at n s;have i:=Fa n;have HG:=Fa s;simp only[M,m];refine K.o _ _ ⟨H.o.nb.cells,H.o.fact⟩ (fun qJ=>?_);clear K j ab B6 n m M s;refine aG [6] (cA ?_ aH);intro j K;go_simp;refine(ai.o gb A (H.o.bel) Y.o).af ?_;rintro e v ⟨d,B9,rfl,hd,lW,f⟩;replace H:=Fa (H.o.step f);replace i:=Fa (i.o.aa f i.o.lt);have D:=Fa (And.intro hd lW);refine K.o _ _ ⟨H.o.nb.cells,H.o.fact⟩ (fun vM=>?_);clear K j qJ f hd lW Y;refine aG [7] (cA ?_ aH);intro j K;go_simp;refine(yX.o d B9 v H.o.bel D.o.1).af ?_;rintro e z4 ⟨⟨p,q,rfl,B7⟩,f⟩;replace H:=Fa (H.o.step f);replace i:=Fa (i.o.aa f i.o.lt);have P:=Fa B7;refine K.o _ _ ⟨H.o.nb.cells,H.o.fact⟩ (fun BZ=>?_);clear K j vM f B7 D;refine au 8 ((zz #[zp #[p,q],E yR 0])) ?_;refine au 9 ((zp #[p,q])) ?_;refine au 10 (E yR 0) ?_
 rotate_left 3
 focus
  intro j K;go_simp;have B6:da t (AC t (yd #[J O 0 0,J O 0 0] 38)):=(aw _ t).alloc (ak _) _;have n:bh (AC t (yd #[J O 0 0,J O 0 0] 38)) t.heap.size (J O 0 0) (J O 0 0):=dU t _;have s:w.heap.size+1+1<t.heap.size:=H.o.res.lt;replace H:=Fa (H.o.step B6);obtain⟨gt,m⟩:∃g,t.heap.size=g:=⟨_,rfl⟩;obtain⟨r,M⟩:∃F,AC t (yd #[J O 0 0,J O 0 0] 38)=F:=⟨_,rfl⟩;rw[M] at H n;rw[m] at n s;have i:=Fa n;have HG:=Fa s;simp only[M,m];refine K.o _ _ ⟨H.o.nb.cells,H.o.fact⟩ (fun ab=>?_);clear K j uJ B6 n m M s;refine aG [4] (cA ?_ aH);intro j K;go_simp;have B6:da r (AC r (yd #[E yR x,E yR y] 3)):=(aw _ r).alloc (ak _) _;have n:=Wn r x y;replace H:=Fa (H.o.step B6);replace i:=Fa (i.o.aa B6 i.o.lt);obtain⟨gb,m⟩:∃g,r.heap.size=g:=⟨_,rfl⟩;obtain⟨A,M⟩:∃F,AC r (yd #[E yR x,E yR y] 3)=F:=⟨_,rfl⟩;rw[M] at H n i;rw[m] at n;have Y:=Fa n;simp only[M,m];refine K.o _ _ ⟨H.o.nb.cells,H.o.fact⟩ (fun qJ=>?_);clear K j ab B6 n m M;refine aG [6] (cA ?_ aH);intro j K;go_simp;refine(ai.o gb A (H.o.bel) Y.o).af ?_;rintro e v ⟨d,B9,rfl,hd,lW,f⟩;replace H:=Fa (H.o.step f);replace i:=Fa (i.o.aa f i.o.lt);have D:=Fa (And.intro hd lW);refine K.o _ _ ⟨H.o.nb.cells,H.o.fact⟩ (fun vM=>?_);clear K j qJ f hd lW Y
  refine aG [7] (cA ?_ aH);intro j K;go_simp;refine(yX.o d B9 v H.o.bel D.o.1).af ?_;rintro e z4 ⟨⟨p,q,rfl,B7⟩,f⟩;replace H:=Fa (H.o.step f);replace i:=Fa (i.o.aa f i.o.lt);have P:=Fa B7;refine K.o _ _ ⟨H.o.nb.cells,H.o.fact⟩ (fun BZ=>?_);clear K j vM f B7 D;refine au 8 ((zz #[zp #[p,q],E yR 0])) ?_;refine au 9 ((zp #[p,q])) ?_;refine au 10 (E yR 0) ?_
 all_goals
  try simp only[gE,aP]
  obtain⟨⟨pb,pn,pc,rfl⟩,⟨qb,qn,qc,rfl⟩⟩:=P.o.slices;obtain⟨x0,x1,J9,J8⟩:=i.o.facts;refine aG [12] (cA ?_ aH);intro j K;go_simp;have hN:=aly H.o i.o P.o HG.o;replace H:=Fa hN.1;replace P:=Fa hN.2.1;replace i:=Fa (i.o.put (J pb pn pc) (J qb qn qc));have fz:=0;refine K.o _ _ ⟨H.o.nb.cells,H.o.fact⟩ (fun Tx=>?_);clear K j BZ hN fz x0 x1 J9 J8;refine au 13 (E yR 0) ?_;try simp only[gE,aP]
  refine eV ao ?_ _;obtain⟨y0,lq⟩:∃X,(AF (AF z4 ⟨gt,0,O⟩ (J pb pn pc)) ⟨gt,1,O⟩ (J qb qn qc))=X:=⟨_,rfl⟩;rw[lq] at H P i;simp only[lq];clear lq;go_wp2_with fail
  have ad:=(aw y0.heap.size y0).drew;replace H:=Fa (H.o.step ad);replace P:=Fa (P.o.aa ad);replace i:=Fa (i.o.aa ad i.o.lt);have B2:=i.o.facts;refine iD (S:=fun u=>(AJ u ⟨w.heap.size,0,O⟩=I (J a (Z V) ca)/\u.cell? ⟨w.heap.size,1,O⟩=I (J b (Z L) cb)/\u.cell? ⟨w.heap.size,2,O⟩=I (J c (Z R) cc))/\u.cell? ⟨gt,0,O⟩=I (J pb pn pc)/\u.cell? ⟨gt,1,O⟩=I (J qb qn qc)) ao ⟨H.o.nb.cells,B2.1,B2.2.1⟩ (fun ay=>?_);clear ad B2;generalize y0.drew=y1 at *;refine dt 0 ((zp #[J a (Z V) ca,J b (Z L) cb,J c (Z R) cc])) ?_ ?_
  ·intro u' aM;try simp only[gE];obtain⟨⟨s1,s2,s3⟩,s4,s5⟩:=aM;go_simp
  try simp only[gE,aP]
  refine dt 2 ((zp #[J pb pn pc,J qb qn qc])) ?_ ?_
  ·intro u' aM;try simp only[gE];obtain⟨⟨s1,s2,s3⟩,s4,s5⟩:=aM;go_simp
  refine au 4 (E yR 0) ?_;refine aG [1] (cA ?_ aH);intro j K;go_simp;refine(ie.o _ H.o.bel).af ?_;rintro e y2 ⟨G,rfl, -,av,f⟩;replace H:=Fa (H.o.step f);replace P:=Fa (P.o.aa f);replace i:=Fa (i.o.aa f i.o.lt);have HR:=Fa av;have B2:=i.o.facts;refine K.o _ _ ⟨H.o.nb.cells,B2.1,B2.2.1⟩ (fun az=>?_);clear K j ay f av B2;refine au 3 ((zp #[J (I ⟨G,0,O⟩) (Z V) (Z V),J pb pn pc,J qb qn qc])) ?_;try simp only[gE,aP]
  obtain⟨r0,r1,r2⟩:=H.o.res.cells;have f0:=H.o.res.fz 0;have f1:=H.o.res.fz 1;have f2:=H.o.res.fz 2;refine aG [5] (cA ?_ aH);intro j K;go_simp;have hE:=alz H.o P.o HR.o ax.o i.o HG.o (J (I ⟨G,0,O⟩) (Z V) (Z V)) (J pb pn pc) (J qb qn qc);have HE:=Fa hE;have B2:=HE.o.2.2.2.2.facts;refine K.o _ _ ⟨HE.o.2.2.2.1.cells,B2.1,B2.2.1⟩ (fun aR=>?_);clear K j az hE B2 r0 r1 r2 f0 f1 f2;refine au 6 (E yR 0) ?_;try simp only[gE,aP]
  refine eV ao ?_ _;go_wp2_with fail
  refine cN ((H.o.res.put _ _ _).result2 rfl _ rfl) rfl ?_;exact⟨_,_,_,rfl,HE.o.1,HE.o.2.1,HE.o.2.2.1⟩
theorem alg (a:Kd) (ca:Nat) (l:List Fr) (w:wA) (h:dE w a l) (K:0<Z l) (h8:Z l<=100000):
  c6 101 #[J a (Z l) ca] w fun e w'=>∃R cap,e=yk (J (I ⟨R,0,O⟩) (Z l) cap)/\dr w' w.heap.size (J (I ⟨R,0,O⟩) (Z l) cap) l/\da w w':=by
 obtain⟨M,B6,S,T,U⟩:=eo Tryz.infoFrac;obtain⟨g,o,rfl,hg, -, -, -⟩:=h 0 K;have B9:=yM l
 have F:∀j (d:j<Z (dI l)),AJ w ⟨g,o+j,O⟩=I (dI l)[j]/\(dI l)[j].oneCell'=true:=fun j d=>by
  have f:j/3<Z l:=al
  obtain⟨g',o',e,_,m,r,s⟩:=h (j/3) f;cases e;obtain⟨v,x,y⟩:=LB l (j/3) f;have hm:=jh j (show 0<3 by decide);have hd:=QR j 3;rcases (show j % 3=0∨j % 3=1∨j % 3=2 by omega) with e |e |e
  ·have b:j/3*3=j:=al
   rw[b] at m v;rw[ba d] at v;rw[m,kg v];exact⟨rfl,rfl⟩
  ·have b:j/3*3+1=j:=al
   rw[zl,b] at r;rw[b,ba d] at x;rw[r,kg x];exact⟨rfl,rfl⟩
  ·have b:j/3*3+2=j:=al
   rw[zl,b] at s;rw[b,ba d] at y;rw[s,kg y];exact⟨rfl,rfl⟩
 have A:=Fa F;have Q:=Fa B9;clear h F B9;generalize hF:dI l=vs at *;have ab:∀(w:wA) (a:Kd) (n c t p:Nat),(binOp .eql 36 (J a n c) (J O t p)).run prog w=.ok (zd a.isNone) w:=fun w a n c t p=>Lib.run_eql_slice_nil w _ _ a n c t p underlying36;go_enter func101,ntmps101;go_wp2_with (at_builtin;refine AU _ rfl _ _ 36 rfl w.heap.size 63 M (zp #[zd x3,zX ⟨#[]⟩,zX ⟨#[]⟩]) 3 40 underlying36 B6 S T U rfl a6 _ _ _ rfl (World.ownsRow_made w #[] 0 (ak _) (aX _) rfl) ⟨g,o,O⟩ (Z l) ca vs rfl ?Nu ?Nt ?Ns ?Nr ?Nq ?Np ?_)
 case Nu=>rw[Q.o];omega
 case Nt=>
  intro j u d;have D:=(oA.1 d).1;rw[Addr.add_lit];refine Lib.cell?_alloc_some _ ?_;rw[(A.o j D).1, <- d,ba D]
 case Ns=>
  intro u L;obtain⟨k,f,rfl⟩:=iQ L;exact(A.o k f).2
 case Nr=>unfold maxLen;omega
 case Nq=>omega
 case Np=>simp
 intro v' P i H V;have z:da w P:=((aw _ w).alloc (ak _) _).grown H aE (by intro k f;simp[Value.ownBlock] at f;omega);have B7:=Fa z;have B2:=Fa i;clear i H V z;go_wp2;go_ret;have i:=B2.o;rcases i.2 with ⟨q,m⟩ |⟨R,cap,aa,q,m,r,s,X,Y,B1⟩
 ·omega
 ·refine⟨R,cap,by rw[q];rfl,?_,B7.o⟩;rw[dr,hF];have e:v'=J (I ⟨R,0,O⟩) (Z l) cap:=by rw[q]
  rw[<- e];simpa using i
variable {m:Nat} {p:Rat}
def mH (W K:List Fr) (k:Nat):Fr:=if cV (aS W k)=0 then aS W k else qF (cV (aS W k)/cV (aS K k))
def rq (W K:List Fr) (i:Nat):List Fr:=(List.range (Z W)).map fun k=>if k<i then mH W K k else aS W k
theorem Ie (W K:List Fr) (i:Nat):Z (rq W K i)=Z W:=by simp[rq]
theorem KS {W K:List Fr} (h:k<Z (rq W K i)):(rq W K i)[k]=if k<i then mH W K k else aS W k:=by simp[rq]
theorem aoE (W K:List Fr):rq W K 0=W:=by
 refine mZ (Ie _ _ _) fun k h a=>?_;rw[KS h,aD al,qP a]
theorem aoG {W K:List Fr}:(rq W K i).set i (mH W K i)=rq W K (i+1):=by
 refine mZ (by rw[gA,Ie,Ie]) fun k a b=>?_;rw[EX,KS b];by_cases e:i=k
 ·subst e;rw[aA rfl,aA al]
 ·rw[aD e,KS (by rw[gA] at a;exact a)];by_cases h:k<i
  ·rw[aA h,aA al]
  ·rw[aD h,aD al]
theorem aoF {W K:List Fr} (h:cV (aS W i)=0):rq W K (i+1)=rq W K i:=by
 refine mZ (by rw[Ie,Ie]) fun k b c=>?_;rw[KS b,KS c];by_cases e:k<i
 ·rw[aA e,aA al]
 ·rw[aD e];by_cases a:k=i
  ·subst a;rw[aA al,mH,aA h]
  ·rw[aD al]
def zC (n i:Nat) (f:Nat ->Fr):List Fr:=(List.range n).map fun k=>if k<i then f k else tK
theorem Ig (n i:Nat) (f:Nat ->Fr):Z (zC n i f)=n:=by simp[zC]
theorem NP {f:Nat ->Fr} (h:k<Z (zC n i f)):(zC n i f)[k]=if k<i then f k else tK:=by simp[zC]
theorem ae7 (n:Nat) (f:Nat ->Fr):zC n 0 f=List.replicate n tK:=by
 refine mZ (by rw[Ig,ui]) fun k h a=>?_;rw[NP h,aD al,VW]
theorem ae9 (n:Nat) (f:Nat ->Fr):zC n n f=(List.range n).map f:=by
 refine mZ (by rw[Ig];simp) fun k h a=>?_;rw[NP h,aA (by rw[Ig] at h;exact h)];simp
theorem ae8 {f:Nat ->Fr}:(zC n i f).set i (f i)=zC n (i+1) f:=by
 refine mZ (by rw[gA,Ig,Ig]) fun k a b=>?_;rw[EX,NP b];by_cases e:i=k
 ·subst e;rw[aA rfl,aA al]
 ·rw[aD e,NP (by rw[gA] at a;exact a)];by_cases h:k<i
  ·rw[aA h,aA al]
  ·rw[aD h,aD al]
def nh (W K X:List Fr) (k:Nat):Fr:=qF (cV (mH W K k)*cV (aS X k))
def sq (W K X:List Fr):Rat:=b9 ((List.range (Z W)).map (nh W K X))
def Fp (W K:List Fr) (X:Nat ->List Fr) (m v:Nat):List Fr:=zC m v fun v=>qF (sq W K (X v))
def BB (W K X:List Fr) (k:Nat):List Fr:=zC (Z W) k (nh W K X)
theorem aoS (W K:List Fr) (X:Nat ->List Fr) (m:Nat):Fp W K X m 0=List.replicate m tK:=ae7 _ _
theorem aoT (W K:List Fr) (X:Nat ->List Fr) (m:Nat):Fp W K X m m=(List.range m).map fun v=>qF (sq W K (X v)):=ae9 _ _
theorem KR (W K X:List Fr) (k:Nat):Z (BB W K X k)=Z W:=Ig _ _ _
theorem aoz {W K X:List Fr}:(BB W K X k).set k (nh W K X k)=BB W K X (k+1):=ae8
structure L9 (W K:List Fr) (m:Nat) (X:Nat ->List Fr):Prop where
 n1:0<Z W
 n2:Z W<=10000
 kl:Z K=Z W
 xl:∀v,v< m ->Z (X v)=Z W
 hw:∀k,k<Z W ->(aS W k).2.1.size+(aS W k).2.2.size<=40000
 hk:∀k,k<Z W ->(aS K k).2.1.size+(aS K k).2.2.size<=40000
 hx:∀v,v< m ->∀k,k<Z W ->(aS (X v) k).2.1.size+(aS (X v) k).2.2.size<=40000
 hs:∀k,k<Z W ->cV (aS K k)≠0 ->(mH W K k).2.1.size+(mH W K k).2.2.size<=40000
 ht:(∀k,k<Z W ->cV (aS W k)≠0 ->cV (aS K k)≠0) ->∀v,v< m ->(∀k,k<Z W ->(nh W K (X v) k).2.1.size+(nh W K (X v) k).2.2.size<=40000)/\∀k,k<=Z W ->qw (b9 (((List.range (Z W)).map (nh W K (X v))).take k))<=40000
theorem asN {q:Rat} (h:jS p q=0):p=q:=by
 by_cases a:p<q
 ·rw[jS,aA a] at h;exact absurd h a6
 ·by_cases b:p=q
  ·exact b
  ·rw[jS,aD a,aD b] at h;exact absurd h a6
theorem dr.aside {B:Nat} {l:List Fr} (h:dr w B (J (I ⟨g,0,O⟩) n c) l) {b:Nat} (i:g≠b) (j:Nat) (y:wQ):dr (AF w ⟨b,j,O⟩ y) B (J (I ⟨g,0,O⟩) n c) l:=by
 refine⟨h.1,h.2.imp id ?_⟩;rintro⟨g',cap,r,a,d,e,f⟩;cases a;exact⟨_,_,r,rfl,d,(eO w ⟨b,j,O⟩ y _ i).trans e,f⟩
theorem aL.aside3 {b:Nat} {n:Bool} {x y:ByteArray} (h:aL w g n x y) (e:g≠b) (j:Nat) (f:Fr):aL (AF (AF (AF w ⟨b,j,O⟩ (zd f.1)) ⟨b,j+1,O⟩ (zX f.2.1)) ⟨b,j+2,O⟩ (zX f.2.2)) g n x y:=((h.far e _).far e _).far e _
theorem L9.share {W K:List Fr} {X:Nat ->List Fr} (h:L9 W K m X) (f:∀k,k<Z W ->cV (aS W k)≠0 ->cV (aS K k)≠0) (a:k<Z W):(mH W K k).2.1.size+(mH W K k).2.2.size<=40000:=by
 by_cases e:cV (aS W k)=0
 ·rw[mH,aA e];exact h.hw k a
 ·exact h.hs k a (f k a e)
theorem arN (w:wA) (s x y:wQ):(Instr.field 86 (zp #[s,x,y]) 1).run prog w=.ok (zp #[x,y]) w:=by
 simp[Instr.field,go_sem,asAgg]
structure UE (w U:wA) (gk:Nat) (s x y p q kx ky:wQ):Prop where
 bx:gQ U w.heap.size s x y
 bw:bh U (w.heap.size+1) p q
 bk:bh U gk kx ky
 bel:da w U
theorem UE.step {g:Nat} {x p q k a:wQ} (h:UE w U g s x y p q k a) (b:da U U'):UE w U' g s x y p q k a:=⟨h.bx.aa b h.bx.lt,h.bw.aa b h.bw.lt,h.bk.aa b h.bk.lt,h.bel.trans (b.af h.bel.size)⟩
theorem alH (a:Kd) (ca:Nat) (S:Jp) (x0 y0 wx wy:wQ) (t M:Tb) (y:Nat) (w:wA) (aR:fJ (iL S)) (hs:aC w a (iL S)) (h:bL w x0 y0 t) (hW:bL w wx wy M) (ho:dC S (Z S) t) (hw:Cw 100000 t.2) (nG:t.1.length<=1000) (b8:M.1.length<=1000) (BP:PQ S t (fT t.1 M.1)) (hy:y<Z S) (cx:1<=sz S y) (hm:sz S y<=1000) (an:L9 M.2 (np S t (fT t.1 M.1)).2 (sz S y) fun v=>(eB S y v t).2):
  c6 50 #[zp #[J a (Z S) ca,x0,y0],E yR (y:Nat),zp #[wx,wy]] w fun e w'=>(∃(d:Kd) (n c:Nat) (k:Int),e=yk (zz #[J d n c,E yR k])/\(k=0∨k=3)/\(k=0 ->(∀k,k<M.2.length ->cV (aS M.2 k)≠0 ->cV (aS (np S t (fT t.1 M.1)).2 k)≠0)/\n=sz S y/\dE w' d ((List.range (sz S y)).map fun v=>qF (sq M.2 (np S t (fT t.1 M.1)).2 (eB S y v t).2))))/\da w w':=by
 obtain⟨i0,cH,cc,cf,cg⟩:=eo Tryz.infoFrac;obtain⟨wb,wc,MZ,MX,rfl,rfl,Yp,N3,cu⟩:=hW;have Mk:=Fa (fun (U:wA) (hU:da w U)=>ac1 a wb ca MZ S x0 y0 t M.1 U aR (hs.aa hU) (h.aa hU) (Yp.aa hU) nG b8 BP);have dP:=Fa (fun (v:Nat) (hv:v<sz S y) (U:wA) (hU:da w U)=>alJ a ca S x0 y0 t y v U aR (hs.aa hU) (h.aa hU) ho hw hy hv);have pY:=Fa (fun (U:wA) (hU:da w U)=>alg wc MX M.2 U (N3.aa hU) an.n1 (by have:=an.n2;omega));have cp:=Fa N3;have bu:=Fa an;obtain⟨⟨xb,xn,xc,rfl⟩,⟨yb,yn,yc,rfl⟩⟩:=h.slices;obtain⟨gz,oz,rfl,b3,rC⟩:=hs y (by rw[bM];exact hy);have bN:AJ w ⟨gz,oz+y,O⟩=I (E yR (sz S y:Nat)):=by rw[rC];simp[iL,sz,hy]
 have cj:=Fa bN;have cl:=Fa b3;have N2:(y:Int)<(Z S:Int):=al
 have cr:=an.n2;clear hs h ho hw nG b8 BP Yp N3 cu an rC bN b3 aR;generalize np S t (fT t.1 M.1)=K at *;generalize hX:(fun v=>eB S y v t)=X at *;have a1:we (∀v,eB S y v t=X v):=fun v=>by rw[<- hX]
 have GS:we (L9 M.2 K.2 (sz S y) fun v=>(X v).2):=by have:=bu.o;simp only[a1.o] at this;exact this
 simp only[a1.o] at dP⊢;clear bu a1 hX;obtain⟨wv,W⟩:=M;simp only at *;have b1:da w (AC w (yd #[J (I ⟨gz,oz,O⟩) (Z S) ca,J xb xn xc,J yb yn yc] 86)):=(aw _ w).alloc (ak _) _;have B1:=gQ.at (w:=w) rfl (J (I ⟨gz,oz,O⟩) (Z S) ca) (J xb xn xc) (J yb yn yc);have c2:Below (AC w (yd #[J (I ⟨gz,oz,O⟩) (Z S) ca,J xb xn xc,J yb yn yc] 86)).heap.size _ (AC (AC w (yd #[J (I ⟨gz,oz,O⟩) (Z S) ca,J xb xn xc,J yb yn yc] 86)) (yd #[J wb (Z wv) MZ,J wc (Z W) MX] 38)):=(aw _ _).alloc (ak _) _;have s2:=B1.aa c2 B1.lt;have hT:bh (AC (AC w (yd #[J (I ⟨gz,oz,O⟩) (Z S) ca,J xb xn xc,J yb yn yc] 86)) (yd #[J wb (Z wv) MZ,J wc (Z W) MX] 38)) (w.heap.size+1) (J wb (Z wv) MZ) (J wc (Z W) MX):=bh.at aE _ _;have tk:=Fa (b1.trans (c2.af b1.size));have lF:=Fa s2;have xN:=Fa hT;clear b1 B1 c2 s2 hT;have cy:∀(w:wA) (s x y:wQ),(Instr.field 86 (zp #[s,x,y]) 1).run prog w=.ok (zp #[x,y]) w:=arN;go_enter func50,ntmps50;go_wp2_with fail
 refine(Mk.o _ tk.o).af ?_;rintro e w1 ⟨p,ch,rfl,gW,m⟩;obtain⟨⟨pb,pn,pc,rfl⟩,⟨qb,qn,qc,rfl⟩⟩:=gW.slices;have B6:da w1 (AC w1 (yd #[J pb pn pc,J qb qn qc] 38)):=(aw _ w1).alloc (ak _) _;have kA:bh (AC w1 (yd #[J pb pn pc,J qb qn qc] 38)) w1.heap.size (J pb pn pc) (J qb qn qc):=dU w1 _;have bm:=lF.o.aa m lF.o.lt;have SX:=xN.o.aa m xN.o.lt;have bf:=tk.o.trans (m.af tk.o.size);have bA:UE w (AC w1 (yd #[J pb pn pc,J qb qn qc] 38)) w1.heap.size (J (I ⟨gz,oz,O⟩) (Z S) ca) (J xb xn xc) (J yb yn yc) (J wb (Z wv) MZ) (J wc (Z W) MX) (J pb pn pc) (J qb qn qc):=⟨bm.aa B6 bm.lt,SX.aa B6 SX.lt,kA,bf.trans (B6.af bf.size)⟩;have bp:=gW.aa B6;obtain⟨gk,Lh⟩:∃g,w1.heap.size=g:=⟨_,rfl⟩;obtain⟨Y,b7⟩:∃U,AC w1 (yd #[J pb pn pc,J qb qn qc] 38)=U:=⟨_,rfl⟩;rw[b7] at bA bp;rw[Lh] at bA;have B7:=Fa bA;have qY:=Fa bp;obtain⟨t0,t1, -, -⟩:=bA.bw.facts;clear m gW B6 kA bm SX bf bA bp lF xN tk Mk;go_wp2_with fail
 clear Lh b7;refine(pY.o _ B7.o.bel).af ?_;rintro e w3 ⟨gs,cs,rfl,hr,m⟩;have eE:=Fa m;have BX:=B7.o.bw.aa m B7.o.bw.lt;have jd:=Fa hr;clear m hr pY t0 t1;obtain⟨t0,t1, -, -⟩:=BX.facts;clear BX;go_wp2_with fail
 obtain⟨b',c',eT,jT, -,e2, -,zR, -⟩:=qY.o;cases e2;have cn:=Fa zR;have nV:we (dr w3 Y.heap.size (J (I ⟨gs,0,O⟩) (Z W) cs) (rq W K.2 0)):=by show dr _ _ _ _;rw[aoE];exact jd.o
 clear zR qY jd t0 t1;go_loopw [30] (fun iv wr=>∃i:Nat,i<=Z W/\iv=E yR i/\we (da Y wr)/\we (dr wr Y.heap.size (J (I ⟨gs,0,O⟩) (Z W) cs) (rq W K.2 i))/\we (∀k,k< i ->cV (aS W k)≠0 ->cV (aS K.2 k)≠0)) (fun iv _=>Z W - (intOf iv).toNat)
 case atStart=>exact⟨0,aX _,rfl,eE,nV,Fa fun k hk=>absurd hk al⟩
 case round=>
  obtain⟨i,hi,rfl,H,R,HF⟩:=hrel;clear eE nV;by_cases ae:i<Z W
  ·obtain⟨wg,wo,rfl,cv,c0,c1,c2⟩:=(cp.o.aa (B7.o.bel.trans (H.o.af B7.o.bel.size))) i ae;obtain⟨f,kW⟩:∃f,W[i]=f:=⟨_,rfl⟩;rw[kW] at c0 c1 c2;obtain⟨r,fx,fy⟩:=f;simp only at c0 c1 c2;have qI:aS W i=(r,fx,fy):=(qP ae).trans kW;have JJ:=Fa qI;have ab:=GS.o.hw i ae;rw[qI] at ab;replace ab:fx.size+fy.size<=40000:=ab;obtain⟨ck,ay⟩:∃ck,jS (val r fx fy) 0=ck:=⟨_,rfl⟩;have iO:we (∀U:wA,c6 102 #[zp #[zd r,zX fx,zX fy],zp #[zd (aV 0),zX (nu 0),zX (de 0)]] U fun e w'=>e=yk (E yR ck)/\da U w'):=fun U=>Uc ck rfl (kN 0) ay al (by have:=Ky;show qw 0<=_;omega);have tY:we (∀U:wA,c6 88 #[E yR 0] U fun e w'=>e=yk (zp #[zd (aV 0),zX (nu 0),zX (de 0)])/\da U w'):=fun U=>Gh (k:=0) (w:=U) 0 0 rfl a6 rfl
   have Vq:we ((cV (aS W i)=0 ->ck=0)/\(cV (aS W i)≠0 ->(ck==0)=x3)):=by
    refine⟨fun h=>?_,fun h=>?_⟩
    ·rw[qI] at h;rw[<- ay,show val r fx fy=0 from h];decide
    ·rw[qI] at h;exact Hd.2 fun e=>h (asN (ay.trans e))
   clear kW qI ab ay;go_wp2_with fail
   have B6:da wr (wr.alloc (FC r fx fy)).drew:=((aw _ wr).alloc (ak _) _).drew;have bt:aL (wr.alloc (FC r fx fy)).drew wr.heap.size r fx fy:=aL.new wr r fx fy;replace H:=Fa (H.o.trans (B6.af H.o.size));replace R:=Fa (R.o.aa B6);obtain⟨Q,B2⟩:∃g,wr.heap.size=g:=⟨_,rfl⟩;rw[B2] at bt;have T:=Fa bt;simp only[B2];refine iD (S:=fun u=>AJ u ⟨Q,0,O⟩=I (zd r)/\u.cell? ⟨Q,1,O⟩=I (zX fx)/\u.cell? ⟨Q,2,O⟩=I (zX fy)) ao ⟨T.o.c0,T.o.c1,T.o.c2⟩ (fun ar=>?_);clear B6 bt B2 c0 c1 c2 cv;generalize (wr.alloc (FC r fx fy)).drew=z0 at *;refine au 0 ((zp #[zd r,zX fx,zX fy])) ?_;refine aG [1] (cA ?_ aH);intro F q;go_simp;refine(tY.o _).af ?_;rintro e z1 ⟨rfl,m⟩;replace T:=Fa (T.o.aa m T.o.lt);replace H:=Fa (H.o.trans (m.af H.o.size));replace R:=Fa (R.o.aa m);refine q.o _ _ ⟨T.o.c0,T.o.c1,T.o.c2⟩ (fun aq=>?_);clear q F ar m;refine aG [2] (cA ?_ aH);intro F q;go_simp;refine(iO.o _).af ?_;rintro e z2 ⟨rfl,m⟩;replace T:=Fa (T.o.aa m T.o.lt);replace H:=Fa (H.o.trans (m.af H.o.size));replace R:=Fa (R.o.aa m);refine q.o _ _ ⟨T.o.c0,T.o.c1,T.o.c2⟩ (fun DC=>?_);clear q F aq m;refine au 3 (zd (ck==0)) ?_;(try simp only[gE,aP]);refine eV ao ?_ _;clear DC;by_cases hz:cV (aS W i)=0
   ·have hc:(ck==0)=true:=by rw[Vq.o.1 hz];rfl
    simp only[hc];(have HN:we (dr z2 Y.heap.size (J (I ⟨gs,0,O⟩) (Z W) cs) (rq W K.2 (i+1))):=by show dr _ _ _ _;rw[aoF hz];exact R.o);clear hc iO Vq JJ R;go_wp2_with fail
    go_roundw
    case rel=>
     refine⟨i+1,al,bd,H,HN,Fa fun k hk=>?_⟩;by_cases e:k=i
     ·subst e;exact fun h=>absurd hz h
     ·exact HF.o k al
    case measure=>simp[intOf];omega
   ·have hc:(ck==0)=false:=Vq.o.2 hz;simp only[hc];(have Te:i<K.2.length:=by rw[GS.o.kl];exact ae);obtain⟨l,z,rfl,sK,k0,k1,k2⟩:=cn.o i Te;have BR:aS K.2 i=K.2[i]:=qP Te;obtain⟨kf,zR⟩:∃f,K.2[i]=f:=⟨_,rfl⟩;rw[zR] at k0 k1 k2 BR;obtain⟨kb,kx,kz⟩:=kf;simp only at k0 k1 k2;have b:we (gk<Y.heap.size/\Y.cell? ⟨gk,1,O⟩=I (J (I ⟨l,z,O⟩) K.2.length qc)/\l<Y.heap.size/\Y.cell? ⟨l,z+i*3,O⟩=I (zd kb)/\Y.cell? ⟨l,z+i*3+1,O⟩=I (zX kx)/\Y.cell? ⟨l,z+i*3+2,O⟩=I (zX kz)):=⟨B7.o.bk.lt,B7.o.bk.facts.2.1,sK,k0,k1,k2⟩;have ab:=GS.o.hw i ae;have aW:=GS.o.hk i ae;rw[JJ.o] at ab;rw[BR] at aW;replace ab:fx.size+fy.size<=40000:=ab;replace aW:kx.size+kz.size<=40000:=aW;(have OI:val r fx fy=cV (aS W i):=by rw[JJ.o];rfl);(have zQ:val kb kx kz=cV (aS K.2 i):=by rw[BR];rfl)
    obtain⟨A,dx,B9,de,Lj,OS⟩:∃(A:Bool) (dx B9:ByteArray) (de:Int),(∀U:wA,c6 103 #[zp #[zd r,zX fx,zX fy],zp #[zd kb,zX kx,zX kz]] U fun e w'=>e=yk (zz #[zp #[zd A,zX dx,zX B9],E yR de])/\da U w')/\((de=0/\cV (aS K.2 i)≠0/\(A,dx,B9)=mH W K.2 i)∨(de=3/\True)):=by
     by_cases bg:cV (aS K.2 i)=0
     ·exact⟨_,_,_,3,fun U=>ahz (zQ.trans bg),xS ⟨rfl,trivial⟩⟩
     ·exact⟨_,_,_,0,fun U=>ahA _ OI zQ bg rfl al al,yp ⟨rfl,bg,by rw[mH,aD hz];rfl⟩⟩
    have JI:=Fa Lj;have Qy:=Fa OS;(have OC:(i:Int)<(K.2.length:Int):=al);clear hc iO Vq JJ hz sK k0 k1 k2 BR zR ab aW OI zQ Lj OS;go_wp2_with fail
    have az:=(aw z2.heap.size z2).drew;replace T:=Fa (T.o.aa az T.o.lt);replace H:=Fa (H.o.trans (az.af H.o.size));replace R:=Fa (R.o.aa az);refine iD (S:=fun u=>(AJ u ⟨Q,0,O⟩=I (zd r)/\u.cell? ⟨Q,1,O⟩=I (zX fx)/\u.cell? ⟨Q,2,O⟩=I (zX fy))/\u.cell? ⟨gk,1,O⟩=I (J (I ⟨l,z,O⟩) K.2.length qc)/\u.cell? ⟨l,z+i*3,O⟩=I (zd kb)/\u.cell? ⟨l,z+i*3+1,O⟩=I (zX kx)/\u.cell? ⟨l,z+i*3+2,O⟩=I (zX kz)) ao ⟨⟨T.o.c0,T.o.c1,T.o.c2⟩,(H.o.cell (p:=⟨gk,1,O⟩) b.o.1).trans b.o.2.1,(H.o.cell (p:=⟨l,_,O⟩) b.o.2.2.1).trans b.o.2.2.2.1,(H.o.cell (p:=⟨l,_,O⟩) b.o.2.2.1).trans b.o.2.2.2.2.1,(H.o.cell (p:=⟨l,_,O⟩) b.o.2.2.1).trans b.o.2.2.2.2.2⟩ (fun uJ=>?_);clear az;generalize z2.drew=y1 at *;refine dt 0 ((zp #[zd r,zX fx,zX fy])) ?_ ?_
    ·intro u' aM;try simp only[gE];obtain⟨⟨B1,s2,s3⟩,s4,s5,s6,s7⟩:=aM;go_simp
    refine au 1 (zZ (I ⟨gk,1,O⟩)) ?_;(try simp only[gE,aP]);refine dt 2 (J (I ⟨l,z,O⟩) K.2.length qc) ?_ ?_
    ·intro u' aM;try simp only[gE];obtain⟨⟨B1,s2,s3⟩,s4,s5,s6,s7⟩:=aM;go_simp
    refine au 3 (E yR (i:Nat)) ?_;refine au 4 (zZ (I ⟨l,z+i*3,O⟩)) ?_;(try simp only[gE,aP]);refine dt 5 ((zp #[zd kb,zX kx,zX kz])) ?_ ?_
    ·intro u' aM;try simp only[gE];obtain⟨⟨B1,s2,s3⟩,s4,s5,s6,s7⟩:=aM;go_simp
    refine aG [6,10] (cA ?_ (cA ?_ aH))
    focus
     intro F q;go_simp;refine(JI.o y1).af ?_;rintro e z1 ⟨rfl,m⟩;replace T:=Fa (T.o.aa m T.o.lt);replace H:=Fa (H.o.trans (m.af H.o.size));replace R:=Fa (R.o.aa m);refine q.o _ _ ⟨⟨T.o.c0,T.o.c1,T.o.c2⟩,(H.o.cell (p:=⟨gk,1,O⟩) b.o.1).trans b.o.2.1,(H.o.cell (p:=⟨l,_,O⟩) b.o.2.2.1).trans b.o.2.2.2.1,(H.o.cell (p:=⟨l,_,O⟩) b.o.2.2.1).trans b.o.2.2.2.2.1,(H.o.cell (p:=⟨l,_,O⟩) b.o.2.2.1).trans b.o.2.2.2.2.2⟩ (fun ai=>?_);clear q F uJ m;refine au 7 ((zz #[zp #[zd A,zX dx,zX B9],E yR de])) ?_;refine au 8 ((zp #[zd A,zX dx,zX B9])) ?_;refine au 9 (E yR de) ?_;refine aG [10] (cA ?_ aH);intro F q;go_simp;have B6:da z1 (AC z1 (yd #[zd x3,zX ⟨#[]⟩,zX ⟨#[]⟩] 63)):=(aw _ z1).alloc (ak _) _;have ad:=aL.new z1 x3 ⟨#[]⟩ ⟨#[]⟩;have fE:Y.heap.size<=z1.heap.size/\gs≠z1.heap.size/\Q≠z1.heap.size:=⟨H.o.size,by have:=dr.old R.o (k:=gs) rfl;omega,by have:=T.o.lt;omega⟩;replace T:=Fa (T.o.aa B6 T.o.lt);replace H:=Fa (H.o.trans (B6.af H.o.size));replace R:=Fa (R.o.aa B6);obtain⟨g9,B2⟩:∃g,z1.heap.size=g:=⟨_,rfl⟩;obtain⟨z2,fM⟩:∃XX,AC z1 (yd #[zd x3,zX ⟨#[]⟩,zX ⟨#[]⟩] 63)=XX:=⟨_,rfl⟩;rw[fM] at T H ad R;rw[B2] at ad fE;have k7:=Fa ad;have L:=Fa fE;simp only[fM,B2]
     refine q.o _ _ ⟨⟨T.o.c0,T.o.c1,T.o.c2⟩,(H.o.cell (p:=⟨gk,1,O⟩) b.o.1).trans b.o.2.1,(H.o.cell (p:=⟨l,_,O⟩) b.o.2.2.1).trans b.o.2.2.2.1,(H.o.cell (p:=⟨l,_,O⟩) b.o.2.2.1).trans b.o.2.2.2.2.1,(H.o.cell (p:=⟨l,_,O⟩) b.o.2.2.1).trans b.o.2.2.2.2.2⟩ (fun qJ=>?_);clear q F ai B6 ad B2 fM fE;(try simp only[gE,aP]);obtain⟨b0,b1,b2,D6,DZ,bb⟩:=k7.o.facts;refine aG [11] (cA ?_ aH);intro F q;go_simp;have GQ:=Fa (k7.o.put A dx B9);have V:=Fa (eJ H.o L.o.1 (zd A) (zX dx) (zX B9));have tW:=Fa (((R.o.aside L.o.2.1 0 (zd A)).aside L.o.2.1 1 (zX dx)).aside L.o.2.1 2 (zX B9));have EI:=Fa (((T.o.far L.o.2.2 (zd A) (j:=0)).far L.o.2.2 (zX dx) (j:=1)).far L.o.2.2 (zX B9) (j:=2));refine q.o _ _ ⟨⟨EI.o.c0,EI.o.c1,EI.o.c2⟩,(V.o.cell (p:=⟨gk,1,O⟩) b.o.1).trans b.o.2.1,(V.o.cell (p:=⟨l,_,O⟩) b.o.2.2.1).trans b.o.2.2.2.1,(V.o.cell (p:=⟨l,_,O⟩) b.o.2.2.1).trans b.o.2.2.2.2.1,(V.o.cell (p:=⟨l,_,O⟩) b.o.2.2.1).trans b.o.2.2.2.2.2⟩ (fun Tx=>?_);clear q F qJ b0 b1 b2 D6 DZ bb k7 H R T EI;refine au 12 (E yR de) ?_;(try simp only[gE,aP]);refine eV ao ?_ _;clear Tx;obtain⟨y0,lq⟩:∃XX,(AF (AF (AF z2 ⟨g9,0,O⟩ (zd A)) ⟨g9,1,O⟩ (zX dx)) ⟨g9,2,O⟩ (zX B9))=XX:=⟨_,rfl⟩;rw[lq] at GQ V tW;simp only[lq];clear lq;rcases Qy.o with ⟨rfl,hk,uA⟩ |⟨rfl, -⟩
     focus
      obtain⟨b0,b1,b2, -⟩:=GQ.o.facts
     rotate_left
     ·clear JI Qy GQ tW;go_wp2_with fail
      go_ret2;exact⟨⟨O,0,0,3,rfl,xS rfl,fun e=>absurd e a6⟩,B7.o.bel.trans (V.o.af B7.o.bel.size)⟩
    rotate_left
    focus
     intro F q;go_simp;have B6:da y1 (AC y1 (yd #[zd x3,zX ⟨#[]⟩,zX ⟨#[]⟩] 63)):=(aw _ y1).alloc (ak _) _;have ad:=aL.new y1 x3 ⟨#[]⟩ ⟨#[]⟩;have fE:Y.heap.size<=y1.heap.size/\gs≠y1.heap.size/\Q≠y1.heap.size:=⟨H.o.size,by have:=dr.old R.o (k:=gs) rfl;omega,by have:=T.o.lt;omega⟩;replace T:=Fa (T.o.aa B6 T.o.lt);replace H:=Fa (H.o.trans (B6.af H.o.size));replace R:=Fa (R.o.aa B6);obtain⟨g9,B2⟩:∃g,y1.heap.size=g:=⟨_,rfl⟩;obtain⟨z1,fM⟩:∃XX,AC y1 (yd #[zd x3,zX ⟨#[]⟩,zX ⟨#[]⟩] 63)=XX:=⟨_,rfl⟩;rw[fM] at T H ad R;rw[B2] at ad fE;have k7:=Fa ad;have L:=Fa fE;simp only[fM,B2];refine q.o _ _ ⟨⟨T.o.c0,T.o.c1,T.o.c2⟩,(H.o.cell (p:=⟨gk,1,O⟩) b.o.1).trans b.o.2.1,(H.o.cell (p:=⟨l,_,O⟩) b.o.2.2.1).trans b.o.2.2.2.1,(H.o.cell (p:=⟨l,_,O⟩) b.o.2.2.1).trans b.o.2.2.2.2.1,(H.o.cell (p:=⟨l,_,O⟩) b.o.2.2.1).trans b.o.2.2.2.2.2⟩ (fun ai=>?_);clear q F uJ B6 ad B2 fM fE;refine aG [6] (cA ?_ aH);intro F q;go_simp;refine(JI.o z1).af ?_;rintro e z2 ⟨rfl,m⟩;replace T:=Fa (T.o.aa m T.o.lt);replace H:=Fa (H.o.trans (m.af H.o.size));replace R:=Fa (R.o.aa m);replace k7:=Fa (k7.o.aa m k7.o.lt)
     refine q.o _ _ ⟨⟨T.o.c0,T.o.c1,T.o.c2⟩,(H.o.cell (p:=⟨gk,1,O⟩) b.o.1).trans b.o.2.1,(H.o.cell (p:=⟨l,_,O⟩) b.o.2.2.1).trans b.o.2.2.2.1,(H.o.cell (p:=⟨l,_,O⟩) b.o.2.2.1).trans b.o.2.2.2.2.1,(H.o.cell (p:=⟨l,_,O⟩) b.o.2.2.1).trans b.o.2.2.2.2.2⟩ (fun qJ=>?_);clear q F ai m;refine au 7 ((zz #[zp #[zd A,zX dx,zX B9],E yR de])) ?_;refine au 8 ((zp #[zd A,zX dx,zX B9])) ?_;refine au 9 (E yR de) ?_;(try simp only[gE,aP]);obtain⟨b0,b1,b2,D6,DZ,bb⟩:=k7.o.facts;refine aG [11] (cA ?_ aH);intro F q;go_simp;have GQ:=Fa (k7.o.put A dx B9);have V:=Fa (eJ H.o L.o.1 (zd A) (zX dx) (zX B9));have tW:=Fa (((R.o.aside L.o.2.1 0 (zd A)).aside L.o.2.1 1 (zX dx)).aside L.o.2.1 2 (zX B9));have EI:=Fa (((T.o.far L.o.2.2 (zd A) (j:=0)).far L.o.2.2 (zX dx) (j:=1)).far L.o.2.2 (zX B9) (j:=2));refine q.o _ _ ⟨⟨EI.o.c0,EI.o.c1,EI.o.c2⟩,(V.o.cell (p:=⟨gk,1,O⟩) b.o.1).trans b.o.2.1,(V.o.cell (p:=⟨l,_,O⟩) b.o.2.2.1).trans b.o.2.2.2.1,(V.o.cell (p:=⟨l,_,O⟩) b.o.2.2.1).trans b.o.2.2.2.2.1,(V.o.cell (p:=⟨l,_,O⟩) b.o.2.2.1).trans b.o.2.2.2.2.2⟩ (fun Tx=>?_);clear q F qJ b0 b1 b2 D6 DZ bb k7 H R T EI;refine au 12 (E yR de) ?_;(try simp only[gE,aP]);refine eV ao ?_ _;clear Tx
     obtain⟨y0,lq⟩:∃XX,(AF (AF (AF z2 ⟨g9,0,O⟩ (zd A)) ⟨g9,1,O⟩ (zX dx)) ⟨g9,2,O⟩ (zX B9))=XX:=⟨_,rfl⟩;rw[lq] at GQ V tW;simp only[lq];clear lq;rcases Qy.o with ⟨rfl,hk,uA⟩ |⟨rfl, -⟩
     focus
      obtain⟨b0,b1,b2, -⟩:=GQ.o.facts
     rotate_left
     ·clear JI Qy GQ tW;go_wp2_with fail
      go_ret2;exact⟨⟨O,0,0,3,rfl,xS rfl,fun e=>absurd e a6⟩,B7.o.bel.trans (V.o.af B7.o.bel.size)⟩
    all_goals
     (have pG:i<Z (rq W K.2 i):=by rw[Ie];exact ae);obtain⟨-, -, -,q3,q4,q5⟩:=Nk tW.o pG;obtain⟨q0,q1,q2, -⟩:=Nk tW.o pG;(have OC:(i:Int)<(Z W:Int):=al);have HN:=Fa (tW.o.put i (A,dx,B9));have y6:we (Y.heap.size<=gs):=dr.own tW.o gs rfl;have p5:=Fa (aaF V.o y6.o (i*3) (zd A) (zX dx) (zX B9));have uP:=Fa uA;have cm:=Fa hk;clear uA hk JI Qy GQ;go_wp2_with fail
     go_roundw
     case rel=>
      refine⟨i+1,al,bd,p5,?_,?_⟩
      ·have:=HN.o;(have e9:(rq W K.2 i).set i (A,dx,B9)=rq W K.2 (i+1):=by rw[uP.o,aoG]);rw[e9] at this;exact Fa this
      ·exact Fa fun k hk=>by
        by_cases e:k=i
        ·subst e;exact fun _=>cm.o
        ·exact HF.o k al
     case measure=>simp[intOf];omega
  ·obtain rfl:i=Z W:=al
   generalize wr=w4 at *;obtain⟨s0,B1,s2⟩:=(B7.o.step H.o).bx.cells;have ct:=((B7.o.bel.trans (H.o.af B7.o.bel.size)).cell (p:=⟨gz,oz+y,O⟩) cl.o).trans cj.o;go_wp2_with (at_make;refine oX _ rfl _ _ 36 rfl w4.heap.size 63 i0 (zp #[zd x3,zX ⟨#[]⟩,zX ⟨#[]⟩]) 3 underlying36 cH cc cf yR yR _ _ (sz S y) rfl rfl bd bd (by rw[cg];omega) (by unfold maxLen;omega) (ak _) ?_;intro w5 FP F4)
   have b4:da w4 w5:=(aw _ _).grown F4 (ak _) (fun k e=>by cases e);rw[NT] at FP
   have tH:dr w5 w4.heap.size (J (I ⟨w4.heap.size,0,O⟩) (sz S y) (sz S y)) (Fp W K.2 (fun v=>(X v).2) (sz S y) 0):=by
    rw[aoS,dr,ui];exact FP
   obtain⟨gl,cR⟩:∃g,w4.heap.size=g:=⟨_,rfl⟩;rw[cR] at tH;simp only[cR];have y7:we (w4.heap.size<=gl):=Nat.le_of_eq cR;rw[<- cR] at tH;(have bF:dr w5 w4.heap.size (J (I ⟨gl,0,O⟩) (sz S y) (sz S y)) (Fp W K.2 (fun v=>(X v).2) (sz S y) 0):=by rw[<- cR];exact tH);have uR:=Fa bF;have fh:=Fa b4;clear b4 tH bF FP F4 cR s0 B1 s2 ct;go_loopw [65] (fun iv wr=>∃v:Nat,v<=sz S y/\iv=E yR v/\we (da w4 wr)/\we (dr wr w4.heap.size (J (I ⟨gl,0,O⟩) (sz S y) (sz S y)) (Fp W K.2 (fun v=>(X v).2) (sz S y) v))) (fun iv _=>sz S y - (intOf iv).toNat)
   case atStart=>exact⟨0,aX _,rfl,fh,uR⟩
   case round=>
    obtain⟨v,hv,rfl,P,HL⟩:=hrel;generalize wr=ws at *;clear fh uR;by_cases av:v<sz S y
    ·have BX:da Y ws:=H.o.trans (P.o.af H.o.size);obtain⟨s0,B1,s2⟩:=(B7.o.step BX).bx.cells;have bs:=Fa (dP.o v av ws (B7.o.bel.trans (BX.af B7.o.bel.size)));clear BX;go_wp2_with fail
     refine bs.o.af ?_;rintro e w6 ⟨x',y',rfl,j3,m⟩;obtain⟨⟨km,J7,Ka,rfl⟩,⟨iR,J6,CV,rfl⟩⟩:=j3.slices;have B6:da w6 (AC w6 (yd #[J km J7 Ka,J iR J6 CV] 38)):=(aw _ w6).alloc (ak _) _;have kA:bh (AC w6 (yd #[J km J7 Ka,J iR J6 CV] 38)) w6.heap.size (J km J7 Ka) (J iR J6 CV):=dU w6 _;replace P:=Fa ((P.o.trans (m.af P.o.size)).trans (B6.af (P.o.trans (m.af P.o.size)).size));replace HL:=Fa ((HL.o.aa m).aa B6);have Fy:=j3.aa B6;obtain⟨gx,b6⟩:∃g,w6.heap.size=g:=⟨_,rfl⟩;obtain⟨w7,SN⟩:∃U,AC w6 (yd #[J km J7 Ka,J iR J6 CV] 38)=U:=⟨_,rfl⟩;rw[SN] at kA P HL Fy;rw[b6] at kA;have bC:=Fa kA;have bz:=Fa Fy;clear m j3 B6 kA Fy bs s0 B1 s2;go_wp2_with (at_make;refine oX _ rfl _ _ 36 rfl w7.heap.size 63 i0 (zp #[zd x3,zX ⟨#[]⟩,zX ⟨#[]⟩]) 3 underlying36 cH cc cf yR yR _ _ (Z W) rfl rfl bd bd (by rw[cg];omega) (by unfold maxLen;omega) (ak _) ?_;intro w8 YR bO)
     have iB:da w7 w8:=(aw _ _).grown bO (ak _) (fun k e=>by cases e);rw[NT] at YR;obtain⟨gT,IP⟩:∃g,w7.heap.size=g:=⟨_,rfl⟩
     have FN:dr w8 w7.heap.size (J (I ⟨gT,0,O⟩) (Z W) (Z W)) (BB W K.2 (X v).2 0):=by
      rw[<- IP,BB,ae7,dr,ui];exact YR
     have G0:we (w7.heap.size<=gT):=Nat.le_of_eq IP;have UX:=Fa FN;have EL:=Fa iB;simp only[IP];clear iB FN YR bO IP b6 SN;obtain⟨b',c',eT,jT, -,e2, -,cb, -⟩:=bz.o;cases e2;have cq:=Fa cb;clear cb bz;go_wp2_with fail
     go_loopw [79] (fun iv wr=>∃k:Nat,k<=Z W/\iv=E yR k/\we (da w7 wr)/\we (dr wr w7.heap.size (J (I ⟨gT,0,O⟩) (Z W) (Z W)) (BB W K.2 (X v).2 k))) (fun iv _=>Z W - (intOf iv).toNat)
     case atStart=>exact⟨0,aX _,rfl,EL,UX⟩
     case round=>
      obtain⟨k,hk,rfl,D,tP⟩:=hrel;clear EL UX;by_cases ax:k<Z W
      ·have Yz:=(R.o.aa P.o).aa D.o;(have dD:k<Z (rq W K.2 (Z W)):=by rw[Ie];exact ax);obtain⟨c0,c1,c2, -⟩:=Nk Yz dD;(have Ob:(rq W K.2 (Z W))[k]=mH W K.2 k:=by rw[KS dD,aA ax]);rw[Ob] at c0 c1 c2;have aZ:=GS.o.share HF.o ax;obtain⟨f,kW⟩:∃f,mH W K.2 k=f:=⟨_,rfl⟩;(have b5:cV (mH W K.2 k)=cV f:=by rw[kW]);rw[kW] at c0 c1 c2 aZ;obtain⟨r,fx,fy⟩:=f;simp only at c0 c1 c2;replace aZ:fx.size+fy.size<=40000:=aZ;(have pz:k<(X v).2.length:=by have:=GS.o.xl v av;omega);obtain⟨l,z,rfl,sK,k0,k1,k2⟩:=cq.o k pz;have BR:aS (X v).2 k=(X v).2[k]:=qP pz;have II:=GS.o.hx v av k ax;obtain⟨kf,zR⟩:∃f,(X v).2[k]=f:=⟨_,rfl⟩;rw[zR] at k0 k1 k2 BR;obtain⟨kb,kx,kz⟩:=kf;simp only at k0 k1 k2 II;rw[BR] at II;replace II:kx.size+kz.size<=40000:=II;have b:we (gx<w7.heap.size/\w7.cell? ⟨gx,1,O⟩=I (J (I ⟨l,z,O⟩) (X v).2.length CV)/\l<w7.heap.size/\w7.cell? ⟨l,z+k*3,O⟩=I (zd kb)/\w7.cell? ⟨l,z+k*3+1,O⟩=I (zX kx)/\w7.cell? ⟨l,z+k*3+2,O⟩=I (zX kz)):=⟨bC.o.lt,bC.o.facts.2.1,sK,k0,k1,k2⟩;have U6:we (∀U:wA,c6 104 #[zp #[zd r,zX fx,zX fy],zp #[zd kb,zX kx,zX kz]] U fun e w'=>e=yk (zp #[zd (nh W K.2 (X v).2 k).1,zX (nh W K.2 (X v).2 k).2.1,zX (nh W K.2 (X v).2 k).2.2])/\da U w'):=fun U=>aak (cV (mH W K.2 k)*cV (aS (X v).2 k)) (p:=cV (mH W K.2 k)) (q:=cV (aS (X v).2 k)) (by rw[b5];rfl) (by rw[BR];rfl) rfl al al
       (have OC:(k:Int)<((X v).2.length:Int):=al);(have cw:(k:Int)<(Z W:Int):=al);have IP:=dr.old tP.o (k:=gT) rfl;clear Yz dD Ob aZ kW b5 pz sK k0 k1 k2 BR II zR;go_wp2_with fail
       have B6:da wr (wr.alloc (FC r fx fy)).drew:=((aw _ wr).alloc (ak _) _).drew;have bt:aL (wr.alloc (FC r fx fy)).drew wr.heap.size r fx fy:=aL.new wr r fx fy;replace D:=Fa (D.o.trans (B6.af D.o.size));replace tP:=Fa (tP.o.aa B6);obtain⟨Q,B2⟩:∃g,wr.heap.size=g:=⟨_,rfl⟩;rw[B2] at bt IP;have T:=Fa bt;(have Vk:we (Q≠gT):=by show Q≠gT;omega);simp only[B2];refine iD (S:=fun u=>(AJ u ⟨Q,0,O⟩=I (zd r)/\u.cell? ⟨Q,1,O⟩=I (zX fx)/\u.cell? ⟨Q,2,O⟩=I (zX fy))/\u.cell? ⟨gx,1,O⟩=I (J (I ⟨l,z,O⟩) (X v).2.length CV)/\u.cell? ⟨l,z+k*3,O⟩=I (zd kb)/\u.cell? ⟨l,z+k*3+1,O⟩=I (zX kx)/\u.cell? ⟨l,z+k*3+2,O⟩=I (zX kz)) ao ⟨⟨T.o.c0,T.o.c1,T.o.c2⟩,(D.o.cell (p:=⟨gx,1,O⟩) b.o.1).trans b.o.2.1,(D.o.cell (p:=⟨l,_,O⟩) b.o.2.2.1).trans b.o.2.2.2.1,(D.o.cell (p:=⟨l,_,O⟩) b.o.2.2.1).trans b.o.2.2.2.2.1,(D.o.cell (p:=⟨l,_,O⟩) b.o.2.2.1).trans b.o.2.2.2.2.2⟩ (fun uJ=>?_);clear B6 bt B2 c0 c1 c2 IP;generalize (wr.alloc (FC r fx fy)).drew=y1 at *;refine au 0 (J (I ⟨gT,0,O⟩) (Z W) (Z W)) ?_;refine au 1 (E yR (k:Nat)) ?_;(try simp only[gE,aP]);refine dt 2 ((zp #[zd r,zX fx,zX fy])) ?_ ?_
       ·intro u' aM;try simp only[gE];obtain⟨⟨B1,s2,s3⟩,s4,s5,s6,s7⟩:=aM;go_simp
       refine au 3 (zZ (I ⟨gx,1,O⟩)) ?_;(try simp only[gE,aP]);refine dt 4 (J (I ⟨l,z,O⟩) (X v).2.length CV) ?_ ?_
       ·intro u' aM;try simp only[gE];obtain⟨⟨B1,s2,s3⟩,s4,s5,s6,s7⟩:=aM;go_simp
       refine au 5 (E yR (k:Nat)) ?_;refine au 6 (zZ (I ⟨l,z+k*3,O⟩)) ?_;(try simp only[gE,aP]);refine dt 7 ((zp #[zd kb,zX kx,zX kz])) ?_ ?_
       ·intro u' aM;try simp only[gE];obtain⟨⟨B1,s2,s3⟩,s4,s5,s6,s7⟩:=aM;go_simp
       refine aG [8] (cA ?_ aH);intro F q;go_simp;refine(U6.o _).af ?_;rintro e y2 ⟨rfl,m⟩;replace T:=Fa (T.o.aa m T.o.lt);replace D:=Fa (D.o.trans (m.af D.o.size));replace tP:=Fa (tP.o.aa m);refine q.o _ _ ⟨⟨T.o.c0,T.o.c1,T.o.c2⟩,(D.o.cell (p:=⟨gx,1,O⟩) b.o.1).trans b.o.2.1,(D.o.cell (p:=⟨l,_,O⟩) b.o.2.2.1).trans b.o.2.2.2.1,(D.o.cell (p:=⟨l,_,O⟩) b.o.2.2.1).trans b.o.2.2.2.2.1,(D.o.cell (p:=⟨l,_,O⟩) b.o.2.2.1).trans b.o.2.2.2.2.2⟩ (fun ai=>?_);clear q F uJ m;refine au 9 (zZ (I ⟨gT,k*3,O⟩)) ?_;(have dD:k<Z (BB W K.2 (X v).2 k):=by rw[KR];exact ax);obtain⟨q0,q1,q2,q3,q4,q5⟩:=Nk tP.o dD;refine aG [10] (cA ?_ aH);intro F q;go_simp;have HN:=Fa (tP.o.put k (nh W K.2 (X v).2 k));have Qz:=Fa (aaF D.o G0.o (k*3) (zd (nh W K.2 (X v).2 k).1) (zX (nh W K.2 (X v).2 k).2.1) (zX (nh W K.2 (X v).2 k).2.2));have p5:=Fa (T.o.aside3 Vk.o (k*3) (nh W K.2 (X v).2 k));refine q.o _ _ ⟨⟨p5.o.c0,p5.o.c1,p5.o.c2⟩,(Qz.o.cell (p:=⟨gx,1,O⟩) b.o.1).trans b.o.2.1,(Qz.o.cell (p:=⟨l,_,O⟩) b.o.2.2.1).trans b.o.2.2.2.1,(Qz.o.cell (p:=⟨l,_,O⟩) b.o.2.2.1).trans b.o.2.2.2.2.1,(Qz.o.cell (p:=⟨l,_,O⟩) b.o.2.2.1).trans b.o.2.2.2.2.2⟩ (fun qJ=>?_);clear q F ai qJ dD q0 q1 q2 q3 q4 q5;(try simp only[gE,aP]);refine eV ao ?_ _;clear U6 b T p5 tP D;go_wp2_with fail
       go_roundw
       case rel=>
        refine⟨k+1,al,bd,Qz,?_⟩;have:=HN.o;rw[aoz] at this;exact Fa this
       case measure=>simp[intOf];omega
      ·obtain rfl:k=Z W:=al
       obtain⟨d,cd,e,aj⟩:=tP.o.fr;injection e with e1 e2 e3;subst e1;have Yv:=GS.o.ht HF.o v av;have br:BB W K.2 (X v).2 (Z W)=(List.range (Z W)).map (nh W K.2 (X v).2):=ae9 _ _
       have bo:=Ub (I ⟨gT,0,O⟩) (Z W) (BB W K.2 (X v).2 (Z W)) wr aj (fun j hj=>by
        have h1:=Yv.1 j (by rw[KR] at hj;exact hj);have h2:(BB W K.2 (X v).2 (Z W))[j]=nh W K.2 (X v).2 j:=(NP (n:=W.length) (i:=W.length) (f:=nh W K.2 (X v).2) hj).trans (aA (by rw[KR] at hj;exact hj));rw[h2];exact h1) (fun j hj=>by rw[br];exact Yv.2 j (by rw[KR] at hj;exact hj)) (by rw[KR];exact cr)
       rw[KR,br] at bo;have tS:we (c6 105 #[J (I ⟨gT,0,O⟩) (Z W) (Z W)] wr fun e w'=>e=yk (zp #[zd (qF (sq W K.2 (X v).2)).1,zX (qF (sq W K.2 (X v).2)).2.1,zX (qF (sq W K.2 (X v).2)).2.2])/\da wr w'):=bo;clear bo br Yv aj e2 e3;go_wp2_with fail
       refine tS.o.af ?_;rintro e w9 ⟨rfl,m⟩;replace HL:=Fa ((HL.o.aa D.o).aa m);(have gM:v<Z (Fp W K.2 (fun v=>(X v).2) (sz S y) v):=by rw[Fp,Ig];exact av);obtain⟨q0,q1,q2,q3,q4,q5⟩:=Nk HL.o gM;(have kQ:(v:Int)<(sz S y:Int):=al);have Tp:da w4 w9:=(P.o.trans (D.o.af P.o.size)).trans (m.af (P.o.trans (D.o.af P.o.size)).size);have Vu:=Fa (aaF Tp y7.o (v*3) (zd (qF (sq W K.2 (X v).2)).1) (zX (qF (sq W K.2 (X v).2)).2.1) (zX (qF (sq W K.2 (X v).2)).2.2));have HN:=Fa (HL.o.put v (qF (sq W K.2 (X v).2)));clear m Tp tS D tP P;go_wp2_with fail
       go_roundw
       case rel=>
        refine⟨v+1,al,bd,Vu,?_⟩;have:=HN.o;rw[Fp,ae8 (f:=fun v=>qF (sq W K.2 (X v).2))] at this;exact Fa this
       case measure=>simp[intOf];omega
    ·obtain rfl:v=sz S y:=al
     go_wp2_with fail
     go_ret2;refine⟨⟨_,_,_,0,rfl,yp rfl,fun _=>⟨fun k hk=>HF.o k hk,rfl,?_⟩⟩,B7.o.bel.trans ((H.o.trans (P.o.af H.o.size)).af B7.o.bel.size)⟩;obtain⟨d,cd,e,aj⟩:=HL.o.fr;injection e with e1 e2 e3;subst e1;rw[aoT] at aj;exact aj
def fY (V:List Vr) (L:List Kx) (R:List (List Fr)) (x y:Int) (z:Kx):Tb:=jN V L R (a7 [x,y] z) []
def Gm (V:List Vr) (L:List Kx) (R:List (List Fr)) (x y:Int) (z:Kx):Tb:=np (ah V) (fY V L R x y z) (fT (fY V L R x y z).1 z)
def eC (V:List Vr) (L:List Kx) (R:List (List Fr)) (x vx:Nat) (y:Int) (z:Kx):Tb:=vr (ah V) ([(x:Int)],jy (sz (ah V) x) vx) (Gm V L R x y z)
def j8 (V:List Vr) (L:List Kx) (R:List (List Fr)) (x vx:Nat) (y:Int) (z:Kx):Tb:=np (ah V) (fY V L R x y z) (fT (fY V L R x y z).1 (eC V L R x vx y z).1)
structure AdS (V:List Vr) (L:List Kx) (R:List (List Fr)) (x vx y:Nat) (z:Kx):Prop where
 fi:fJ (iL (ah V))
 vp:0<Z V
 hx:x<Z V
 hy:y<Z V
 x1:1<=sz (ah V) x
 x2:sz (ah V) x<=1000
 xv:vx<sz (ah V) x
 y1:1<=sz (ah V) y
 y2:sz (ah V) y<=1000
 q:Z (a7 [(x:Int),(y:Int)] z)<=1000
 z1:Z z<=500
 t1:(fY V L R x y z).1.length<=1000
 tok:dC (ah V) (Z (ah V)) (fY V L R x y z)
 tw:Cw 100000 (fY V L R x y z).2
 on1:PQ (ah V) (fY V L R x y z) (fT (fY V L R x y z).1 z)
 uok:dC (ah V) (Z (ah V)) ([(x:Int)],jy (sz (ah V) x) vx)
 uw:Cw 100000 (jy (sz (ah V) x) vx)
 ook:dC (ah V) (Z (ah V)) (Gm V L R x y z)
 ow:Cw 100000 (Gm V L R x y z).2
 w1:(eC V L R x vx y z).1.length<=1000
 on2:PQ (ah V) (fY V L R x y z) (fT (fY V L R x y z).1 (eC V L R x vx y z).1)
 mx:L9 (eC V L R x vx y z).2 (j8 V L R x vx y z).2 (sz (ah V) y) fun v=>(eB (ah V) y v (fY V L R x y z)).2
theorem Jb {v:wQ} (h:AJ U ⟨g,0,O⟩=I v/\U.cell? ⟨g,1,O⟩=I z) (b:da U U') (a:g<U.heap.size):AJ U' ⟨g,0,O⟩=I v/\U'.cell? ⟨g,1,O⟩=I z:=⟨(b.cell (p:=⟨g,0,O⟩) a).trans h.1,(b.cell (p:=⟨g,1,O⟩) a).trans h.2⟩
theorem cZ.below' {G:Nat} {l:Jp} (h:cZ w G l) (b:da w w'):cZ w' G l:=(b.block G (c5.1 h).1).trans h
theorem cZ.ints' {G:Nat} {l:Jp} (h:cZ w G l):aC w (I ⟨G,0,O⟩) (iL l):=fun k a=>by
 have c:k<Z l:=by rw[bM] at a;exact a
 refine⟨G,0,rfl,(c5.1 h).1,?_⟩;rw[bK,h.cell k c];simp[iL]
theorem ain (a b c bz:Kd) (ca cb cc cz:Nat) (V:List Vr) (L:List Kx) (R:List (List Fr)) (x vx y:Nat) (z:Kx) (w:wA) (h:Ay w a b c V L R) (hl:∀l∈L,Z l<=1000) (hz:aC w bz z) (aq:bz=O ->cz=0) (hf:iq V L R [((x:Int),(vx:Int))]=0) (al:jX L [[(x:Int)],[(y:Int)],z]=0) (eI:([(x:Int),(y:Int)]++z).Nodup) (tI:jO V L R (a7 [(x:Int),(y:Int)] z) []=0) (A:AdS V L R x vx y z):
  c6 15 #[zp #[J a (Z V) ca,J b (Z L) cb,J c (Z R) cc],zp #[E yR (x:Nat),E yR (vx:Nat)],E yR (y:Nat),J bz (Z z) cz] w fun e w'=>(∃(d:Kd) (n c:Nat) (k:Int),e=yk (zz #[J d n c,E yR k])/\(k=0∨k=3)/\(k=0 ->(∀k,k<(eC V L R x vx y z).2.length ->cV (aS (eC V L R x vx y z).2 k)≠0 ->cV (aS (j8 V L R x vx y z).2 k)≠0)/\n=sz (ah V) y/\dE w' d ((List.range (sz (ah V) y)).map fun v=>qF (sq (eC V L R x vx y z).2 (j8 V L R x vx y z).2 (eB (ah V) y v (fY V L R x y z)).2))))/\da w w':=by
 have Q:=lQ V;have uP:=Fa (fun (U:wA) (hU:da w U)=>alA a b c bz ca cb cc cz V L R x vx y z U (h.aa hU) hl (hz.aa hU) aq A.z1 hf al eI tI A.q A.vp)
 have iV:we (∀ {G:Nat} {p q:wQ} (U:wA),bL U p q (fY V L R x y z) ->cZ U G (ah V) ->c6 52 #[zp #[J (I ⟨G,0,O⟩) (Z V) (Z V),p,q],zp #[E yR (x:Nat),E yR (vx:Nat)]] U fun e w'=>∃p q,e=yk (zp #[p,q])/\bL w' p q ([(x:Int)],jy (sz (ah V) x) vx)/\da U w'):=fun {G p q} U t r=>by
  have:=alF (I ⟨G,0,O⟩) (Z V) (ah V) p q x vx U t.slices.1 t.slices.2 r.ints' (by rw[Q];exact A.hx) A.x1 A.x2 A.xv;rw[Q] at this;exact this
 have Mk:we (∀ {G:Nat} {p q:wQ} (U:wA),da w U ->bL U p q (fY V L R x y z) ->cZ U G (ah V) ->c6 53 #[zp #[J (I ⟨G,0,O⟩) (Z V) (Z V),p,q],J bz (Z z) cz] U fun e w'=>∃p q,e=yk (zp #[p,q])/\bL w' p q (Gm V L R x y z)/\da U w'):=fun {G p q} U hU t r=>by
  have:=ac1 (I ⟨G,0,O⟩) bz (Z V) cz (ah V) p q (fY V L R x y z) z U A.fi r.ints' t (hz.aa hU) A.t1 (by have:=A.z1;omega) A.on1;rw[Q] at this;exact this
 have Er:we (∀ {G:Nat} {p q:wQ} (u0 u1 B1 o1:wQ) (U:wA),bL U p q (fY V L R x y z) ->cZ U G (ah V) ->bL U u0 u1 ([(x:Int)],jy (sz (ah V) x) vx) ->bL U B1 o1 (Gm V L R x y z) ->c6 51 #[zp #[J (I ⟨G,0,O⟩) (Z V) (Z V),p,q],zp #[u0,u1],zp #[B1,o1]] U fun e w'=>∃p q,e=yk (zp #[p,q])/\bL w' p q (eC V L R x vx y z)/\da U w'):=fun {G p q} u0 u1 B1 o1 U t r hu ho=>by
  have:=alG (I ⟨G,0,O⟩) (Z V) (ah V) p q u0 u1 B1 o1 _ _ U t.slices.1 t.slices.2 A.fi r.ints' hu ho A.uok A.ook A.uw A.ow;rw[Q] at this;exact this
 have ar:we (∀ {G:Nat} {p q:wQ} (p0 p1:wQ) (U:wA),bL U p q (fY V L R x y z) ->cZ U G (ah V) ->bL U p0 p1 (eC V L R x vx y z) ->c6 50 #[zp #[J (I ⟨G,0,O⟩) (Z V) (Z V),p,q],E yR (y:Nat),zp #[p0,p1]] U fun e w'=>(∃(d:Kd) (n c:Nat) (k:Int),e=yk (zz #[J d n c,E yR k])/\(k=0∨k=3)/\(k=0 ->(∀k,k<(eC V L R x vx y z).2.length ->cV (aS (eC V L R x vx y z).2 k)≠0 ->cV (aS (j8 V L R x vx y z).2 k)≠0)/\n=sz (ah V) y/\dE w' d ((List.range (sz (ah V) y)).map fun v=>qF (sq (eC V L R x vx y z).2 (j8 V L R x vx y z).2 (eB (ah V) y v (fY V L R x y z)).2))))/\da U w'):=fun {G p q} p0 p1 U t r hw=>by
  have:=alH (I ⟨G,0,O⟩) (Z V) (ah V) p q p0 p1 _ _ y U A.fi r.ints' t hw A.tok A.tw A.t1 A.w1 A.on2 (by rw[Q];exact A.hy) A.y1 A.y2 A.mx;rw[Q] at this;exact this
 have X:we (da w (AC (AC w (yd #[J a (Z V) ca,J b (Z L) cb,J c (Z R) cc] 26)) (yd #[E yR (x:Nat),E yR (vx:Nat)] 30))):=((aw _ w).alloc (ak _) _).alloc aE _;have Tk:=dU (AC w (yd #[J a (Z V) ca,J b (Z L) cb,J c (Z R) cc] 26)) (yd #[E yR (x:Nat),E yR (vx:Nat)] 30);have an:(AC w (yd #[J a (Z V) ca,J b (Z L) cb,J c (Z R) cc] 26)).heap.size=w.heap.size+1:=aE
 rw[an] at Tk;have JE:we ((AJ (AC (AC w (yd #[J a (Z V) ca,J b (Z L) cb,J c (Z R) cc] 26)) (yd #[E yR (x:Nat),E yR (vx:Nat)] 30)) ⟨w.heap.size+1,0,O⟩=I (E yR (x:Nat))/\(AC (AC w (yd #[J a (Z V) ca,J b (Z L) cb,J c (Z R) cc] 26)) (yd #[E yR (x:Nat),E yR (vx:Nat)] 30)).cell? ⟨w.heap.size+1,1,O⟩=I (E yR (vx:Nat)))/\w.heap.size+1<(AC (AC w (yd #[J a (Z V) ca,J b (Z L) cb,J c (Z R) cc] 26)) (yd #[E yR (x:Nat),E yR (vx:Nat)] 30)).heap.size):=⟨⟨(a8 _ _ 0 _ _ (0,0) Tk).trans rfl,(a8 _ _ 1 _ _ (0,0) Tk).trans rfl⟩,aE⟩;clear h hl hz aq hf al eI tI A Q Tk an;change we (∀(U:wA),da w U ->c6 49 #[zp #[J a (Z V) ca,J b (Z L) cb,J c (Z R) cc],zp #[E yR (x:Nat),E yR (vx:Nat)],E yR (y:Nat),J bz (Z z) cz] U fun e w'=>∃G p q,e=yk (zz #[zp #[J (I ⟨G,0,O⟩) (Z V) (Z V),p,q],E yR 0])/\cZ w' G (ah V)/\bL w' p q (fY V L R x y z)/\da U w') at uP
 generalize fY V L R x y z=TT at *;generalize Gm V L R x y z=TO at *;generalize eC V L R x vx y z=TW at *;generalize j8 V L R x vx y z=TK at *;generalize (([(x:Int)],jy (sz (ah V) x) vx):Tb)=TU at *;generalize ah V=SS at *;go_enter func15,ntmps15;go_wp2_with fail
 refine(uP.o _ X.o).af ?_;rintro e w1 ⟨G,p,q,rfl,r,t,f⟩;obtain⟨⟨s,B9,D,rfl⟩,⟨B6,qn,B2,rfl⟩⟩:=t.slices;have Y:da w1 (AC w1 (yd #[J (I ⟨G,0,O⟩) (Z V) (Z V),J s B9 D,J B6 qn B2] 86)):=(aw _ w1).alloc (ak _) _;have bt:=gQ.at (w:=w1) rfl (J (I ⟨G,0,O⟩) (Z V) (Z V)) (J s B9 D) (J B6 qn B2);have BV:=Jb JE.o.1 f JE.o.2;have jE:=aT JE.o.2 f.size;have ad:=Jb BV Y jE;have ae:=aT jE Y.size;have ai:=(X.o.trans (f.af X.o.size)).trans (Y.af (X.o.trans (f.af X.o.size)).size);have Yw:=t.aa Y;have nL:=r.below' Y;obtain⟨gb,aj⟩:∃g,w1.heap.size=g:=⟨_,rfl⟩;obtain⟨w2,SM⟩:∃U,AC w1 (yd #[J (I ⟨G,0,O⟩) (Z V) (Z V),J s B9 D,J B6 qn B2] 86)=U:=⟨_,rfl⟩;rw[SM] at bt ad ae ai Yw nL;rw[aj] at bt;have H:=Fa bt;have F:=Fa ad;have m:we (w.heap.size+1<w2.heap.size/\True):=⟨ae,trivial⟩;have i:=Fa ai;have T:=Fa Yw;have B7:=Fa nL;clear f Y bt BV jE ad ae ai Yw nL r t uP X JE;go_wp2_with fail
 clear aj SM;have ab:=(aw w2.heap.size w2).drew;replace H:=Fa (H.o.aa ab H.o.lt);replace F:=Fa (Jb F.o ab m.o.1);replace m:=Fa (show w.heap.size+1<w2.drew.heap.size/\True from ⟨m.o.1,trivial⟩);replace T:=Fa (T.o.aa ab);replace B7:=Fa (B7.o.below' ab);replace i:=Fa (i.o.trans (ab.af i.o.size));refine iD (S:=fun u=>(AJ u ⟨gb,0,O⟩=I (J (I ⟨G,0,O⟩) (Z V) (Z V))/\u.cell? ⟨gb,1,O⟩=I (J s B9 D)/\u.cell? ⟨gb,2,O⟩=I (J B6 qn B2))/\u.cell? ⟨w.heap.size+1,0,O⟩=I (E yR (x:Nat))/\u.cell? ⟨w.heap.size+1,1,O⟩=I (E yR (vx:Nat))) ao ⟨H.o.cells,F.o.1,F.o.2⟩ (fun uJ=>?_);clear ab;generalize w2.drew=z0 at *;refine dt 0 ((zp #[J (I ⟨G,0,O⟩) (Z V) (Z V),J s B9 D,J B6 qn B2])) ?_ ?_
 ·intro u' M;try simp only[gE];obtain⟨⟨s1,s2,s3⟩,s4,s5⟩:=M;go_simp
 refine au 1 (E yR (y:Nat)) ?_;try simp only[gE,aP]
 refine dt 2 ((zp #[J (I ⟨G,0,O⟩) (Z V) (Z V),J s B9 D,J B6 qn B2])) ?_ ?_
 ·intro u' M;try simp only[gE];obtain⟨⟨s1,s2,s3⟩,s4,s5⟩:=M;go_simp
 try simp only[gE,aP]
 refine dt 3 ((zp #[J (I ⟨G,0,O⟩) (Z V) (Z V),J s B9 D,J B6 qn B2])) ?_ ?_
 ·intro u' M;try simp only[gE];obtain⟨⟨s1,s2,s3⟩,s4,s5⟩:=M;go_simp
 try simp only[gE,aP]
 refine dt 4 ((zp #[E yR (x:Nat),E yR (vx:Nat)])) ?_ ?_
 ·intro u' M;try simp only[gE];obtain⟨⟨s1,s2,s3⟩,s4,s5⟩:=M;go_simp
 try simp only[gE,aP]
 refine dt 6 ((zp #[J (I ⟨G,0,O⟩) (Z V) (Z V),J s B9 D,J B6 qn B2])) ?_ ?_
 ·intro u' M;try simp only[gE];obtain⟨⟨s1,s2,s3⟩,s4,s5⟩:=M;go_simp
 refine au 7 (J bz (Z z) cz) ?_;refine aG [5] (cA ?_ aH);intro P K;go_simp;refine(iV.o z0 T.o B7.o).af ?_;rintro e z1 ⟨u0,u1,rfl,hu,f⟩;have j:=m.o.1;replace H:=Fa (H.o.aa f H.o.lt);replace F:=Fa (Jb F.o f j);replace T:=Fa (T.o.aa f);replace B7:=Fa (B7.o.below' f);replace i:=Fa (i.o.trans (f.af i.o.size));have HU:=Fa hu;clear hu;replace m:=Fa (And.intro (aT j f.size) trivial);refine K.o _ _ ⟨H.o.cells,F.o.1,F.o.2⟩ (fun av=>?_);clear K P uJ f j;refine aG [8] (cA ?_ aH);intro P K;go_simp;refine(Mk.o z1 i.o T.o B7.o).af ?_;rintro e z2 ⟨B1,o1,rfl,ho,f⟩;have j:=m.o.1;replace H:=Fa (H.o.aa f H.o.lt);replace F:=Fa (Jb F.o f j);replace T:=Fa (T.o.aa f);replace B7:=Fa (B7.o.below' f);replace i:=Fa (i.o.trans (f.af i.o.size));replace HU:=Fa (HU.o.aa f);have HO:=Fa ho;clear ho;replace m:=Fa (And.intro (aT j f.size) trivial);refine K.o _ _ ⟨H.o.cells,F.o.1,F.o.2⟩ (fun qJ=>?_);clear K P av f j;refine aG [9] (cA ?_ aH);intro P K;go_simp;refine(Er.o u0 u1 B1 o1 z2 T.o B7.o HU.o HO.o).af ?_;rintro e z3 ⟨p0,p1,rfl,hp,f⟩;have j:=m.o.1;replace H:=Fa (H.o.aa f H.o.lt);replace F:=Fa (Jb F.o f j);replace T:=Fa (T.o.aa f);replace B7:=Fa (B7.o.below' f);replace i:=Fa (i.o.trans (f.af i.o.size));have HP:=Fa hp;clear hp HU HO;replace m:=Fa (And.intro (aT j f.size) trivial);refine K.o _ _ ⟨H.o.cells,F.o.1,F.o.2⟩ (fun vM=>?_);clear K P qJ f j
 refine aG [10] (cA ?_ aH);intro P K;go_simp;refine(ar.o p0 p1 z3 T.o B7.o HP.o).af ?_;rintro e z4 ⟨⟨d,n,c',k,rfl,hk,hr⟩,f⟩;have j:=m.o.1;replace H:=Fa (H.o.aa f H.o.lt);replace F:=Fa (Jb F.o f j);replace T:=Fa (T.o.aa f);replace B7:=Fa (B7.o.below' f);replace i:=Fa (i.o.trans (f.af i.o.size));have HR:=Fa hr;clear hr;replace m:=Fa (And.intro (aT j f.size) trivial);refine K.o _ _ ⟨H.o.cells,F.o.1,F.o.2⟩ (fun BZ=>?_);clear K P vM f j;refine au 11 (J d n c') ?_;refine au 12 (E yR k) ?_;refine au 13 (J d n c') ?_;refine au 14 (E yR k) ?_;try simp only[gE,aP]
 refine eV ao ?_ _;go_wp2_with fail
 go_ret2;exact⟨⟨d,n,c',k,rfl,hk,HR.o⟩,i.o⟩
variable {V : List Vr} {L : List Kx} {R : List (List Fr)}
variable {f:Nat ->Nat}
def gI (q:Jp) (f:Nat ->Nat):List (Nat×Nat):=q.map fun u=>(u,f u)
theorem amw (S q:Jp) (K:Nat):qV S q K=gI q (aY S q K):=rfl
theorem D7 {q:Jp} {p:Nat×Nat}:p∈gI q f↔p.1∈q/\p.2=f p.1:=by
 rw[gI,aQ];constructor
 ·rintro⟨u,b,rfl⟩;exact⟨b,rfl⟩
 ·rintro⟨h,a⟩;exact⟨p.1,h,by rw[<- a]⟩
theorem Dd (h0:aU V L R=0) {a b:List (Nat×Nat)} (h:∀p,p∈a↔p∈b):cE V L R a=cE V L R b:=by rw[Ii h0,Ii h0];exact afr h
theorem zu {Q:Kx} (h:Up Q (Z V)):dC (ah V) (Z V) (cP V L R Q []):=⟨h,by simp[cP]⟩
theorem akg (Q:Kx):Low (cP V L R Q []).2:=fun f h=>by
 obtain⟨K,_,rfl⟩:=aQ.1 h;rw[j5]
theorem Ki (p:Pos (ah V)) {Q:Kx} (a:Up Q (Z V)) (h:Fit (ah V) f):tQ (ah V) (tN (cP V L R Q [])) f=cE V L R (gI (ag Q) f):=by
 have l:=r8 f h (ag Q);show bj (aS (cP V L R Q []).2 (pos (ah V) f (ag Q)))=_;rw[cP,LR _ l,j5,lh,qV];congr 1
 exact qh fun u b=>by rw[D8 p h (E8 a) u b]
theorem akf (p:Pos (ah V)) {t:Tb} (b:dC (ah V) (Z V) t) (l:Low t.2) (h:∀f,Fit (ah V) f ->tQ (ah V) (tN t) f=cE V L R (gI (ag t.1) f)):t=cP V L R t.1 []:=by
 refine Prod.ext rfl ?_;rw[Wv p b l];refine qh fun K a=>?_;have c:=bR.1 a;rw[h _ fun u=>rI p _ _ u c,lh,amw]
theorem ake (h0:aU V L R=0) (b:Pos (ah V)) {Q:Kx} (a:Up Q (Z V)) (i:v∈ag Q):outT (ah V) v x3 (cP V L R Q [])=cP V L R (bY Q (v:Int)) []:=by
 refine akf b ((zu a).o v x3) (ad9 _ _ _ _) fun f d=>?_;have r:=E8 (ru a (v:Int));show tQ (ah V) (ag (bY Q (v:Int)),sf (ah V) (ag Q) (ag (bY Q (v:Int))) v x3 (cP V L R Q []).2) f=_
 rw[Ww b r (fun u g=>by
  by_cases e:u=v
  ·exact yp e
  ·exact xS ((De a u).2 ⟨g,e⟩)) _ d]
 show bG (fun x=>tQ (ah V) (tN (cP V L R Q [])) (aN f v x)) (sz (ah V) v)=cE V L R (gI (ag (bY Q (v:Int))) f);rw[Ii h0, <- aph b v];refine gD fun x j=>?_;rw[Ki b a (fun u=>E6 d j u), <- Ii h0];refine Dd h0 fun p=>?_;rw[D7,bU,D7,De a];constructor
 ·rintro⟨c,h⟩;by_cases e:p.1=v
  ·rw[aN,aA e] at h;exact yp (Prod.ext e h)
  ·rw[aN,aD e] at h;exact xS ⟨⟨c,e⟩,h⟩
 ·rintro(rfl |⟨⟨c,e⟩,h⟩)
  ·exact⟨i,by simp[aN]⟩
  ·exact⟨c,by rw[aN,aD e];exact h⟩
def KW (Q:Kx) (l:Kx):Kx:=l.foldl (fun Q v=>bY Q v) Q
theorem XA (h0:aU V L R=0) (h:Pos (ah V)):∀(l:Kx) {Q:Kx},Up Q (Z V) ->(∀v∈l,0<=v/\v.toNat∈ag Q) ->l.Nodup ->np (ah V) (cP V L R Q []) l=cP V L R (KW Q l) []/\Up (KW Q l) (Z V)
 |[],Q,hQ,_,_=>⟨rfl,hQ⟩
 |v::l,Q,hQ,hl,hn=>by
  obtain⟨i,b⟩:=hl v dA;obtain⟨n,f⟩:=mY.1 hn;have a:((v.toNat:Nat):Int)=v:=al
  have e:=ake h0 h hQ b;rw[a] at e;have c:=ru hQ v
  have g:∀u∈l,0<=u/\u.toNat∈ag (bY Q v):=fun u w=>by
   obtain⟨k,d⟩:=hl u (dL _ w);refine⟨k,?_⟩;rw[<- a,De hQ];exact⟨d,fun e=>n (by rw[show v=u by omega];exact w)⟩
  have:=XA h0 h l c g f;refine⟨?_,this.2⟩;show np (ah V) (outT (ah V) v.toNat x3 (cP V L R Q [])) l=_;rw[e];exact this.1
theorem X3:∀(l:Kx) {Q:Kx} {n:Nat},Up Q n ->(∀v∈l,0<=v) ->∀u:Nat,u∈ag (KW Q l)↔u∈ag Q/\¬(u:Int)∈l
 |[],Q,n,_,_,u=>by simp[KW]
 |v::l,Q,n,hQ,hl,u=>by
  have c:((v.toNat:Nat):Int)=v:=by have:=hl v dA;omega
  show u∈ag (KW (bY Q v) l)↔_;rw[X3 l (ru hQ v) (fun w f=>hl w (dL _ f)) u, <- c,De hQ,c,bU];constructor
  ·rintro⟨⟨b,a⟩,d⟩;exact⟨b,fun h=>h.elim (fun e=>a al) d⟩
  ·rintro⟨b,a⟩;exact⟨⟨b,fun e=>a (yp al)⟩,fun h=>a (xS h)⟩
variable {V : List Vr} {L : List Kx} {R : List (List Fr)}
theorem Xf (h0:aU V L R=0) {Q:Kx} (b:Up Q (Z V)):jO V L R Q []=0/\jN V L R Q []=cP V L R Q []:=by
 have l:fj (ah V) (Z V) []:=⟨JT,(fun _ h=>by cases h),(fun _ h=>by cases h)⟩;have s:=aiB h0 b l (fun v _ m=>by cases m);have a:b9 (cP V L R Q []).2=1:=by rw[ab8 h0 b,Ii h0,X0 (XM h0)]
 have z:jO V L R Q (zF [])=0:=by rw[jO,aA s,Db,a];decide
 refine⟨z,?_⟩;show jN V L R Q (zF [])=_;rw[jN,z,aA rfl,Db,vo,a,cP];congr 1
 rw[AZ];refine qh fun K _=>?_;show qF (bj (qF _)*(1/1))=_;rw[j5,k9,JR 1 a6,mU]
structure fZ (V:List Vr) (x y:Nat) (z:Kx):Prop where
 hx:x<Z V
 hy:y<Z V
 hz:Up z (Z V)
 xy:x≠y
 xz:¬x∈ag z
 yz:¬y∈ag z
variable {x y : Nat} {z : Kx}
theorem fZ.zm (h:fZ V x y z) (u:Nat):u∈ag z↔(u:Int)∈z:=by
 rw[ag,aQ];constructor
 ·rintro⟨q,a,e⟩;have:=((dY.1 h.hz).1 q a).1;rw[show (u:Int)=q by omega];exact a
 ·exact fun h=>⟨_,h,aE⟩
theorem ab7 {a b:Kx} (d:∀v∈a,0<=v/\v<n) (e:∀v∈b,0<=v/\v<n):Up (a7 a b) n:=by
 obtain⟨h,c⟩:=C2 a b;exact dY.2 ⟨fun v f=>(c v).1 f |>.elim (d v) (e v),h⟩
theorem fZ.q (h:fZ V x y z):Up (a7 [(x:Int),(y:Int)] z) (Z V):=ab7 (fun v a=>by
 have:=h.hx;have:=h.hy;simp only[bU,gw,jf] at a;rcases a with rfl |rfl<;>omega) (dY.1 h.hz).1
theorem fZ.u (h:fZ V x y z):Up (a7 [(x:Int)] z) (Z V):=ab7 (fun v a=>by
 have:=h.hx;rw[bD.1 a];omega) (dY.1 h.hz).1
theorem fZ.qm (u:Nat):u∈ag (a7 [(x:Int),(y:Int)] z)↔u=x∨u=y∨u∈ag z:=by
 rw[Kj];simp[ag,or_assoc]
theorem fZ.um (u:Nat):u∈ag (a7 [(x:Int)] z)↔u=x∨u∈ag z:=by
 rw[Kj];simp[ag]
theorem aet (h0:aU V L R=0) (p:Pos (ah V)) {Q z:Kx} (b:Up Q (Z V)) (g:Up z (Z V)) (hs:∀u,u∈ag z ->u∈ag Q):np (ah V) (cP V L R Q []) (fT Q z)=cP V L R z []:=by
 have m:∀v,v∈fT Q z↔v∈Q/\¬v∈z:=fun v=>by rw[fT,cU,eM]
 have f:=(dY.1 b).1;obtain⟨i,j⟩:=XA h0 p (fT Q z) b (fun v c=>⟨(f v ((m v).1 c).1).1,aQ.2 ⟨v,((m v).1 c).1,rfl⟩⟩) ((A8 b).filter _);rw[i];congr 1
 refine Wi j g fun u=>?_;rw[X3 _ b (fun v c=>(f v ((m v).1 c).1).1),m]
 have D:u∈ag z↔(u:Int)∈z:=by
  rw[ag,aQ];constructor
  ·rintro⟨q,a,e⟩;have:=((dY.1 g).1 q a).1;rw[show (u:Int)=q by omega];exact a
  ·exact fun h=>⟨_,h,aE⟩
 have K:u∈ag Q ->(u:Int)∈Q:=fun h=>by
  obtain⟨q,a,e⟩:=aQ.1 h;have:=(f q a).1;rw[show (u:Int)=q by omega];exact a
 constructor
 ·rintro⟨k,d⟩;refine D.2 (zq fun h=>d ⟨K k,h⟩)
 ·exact fun h=>⟨hs u h,fun d=>d.2 (D.1 h)⟩
theorem Cb (h0:aU V L R=0) (h:fZ V x y z):fY V L R x y z=cP V L R (a7 [(x:Int),(y:Int)] z) []:=(Xf h0 h.q).2
theorem Uz (h0:aU V L R=0) (p:Pos (ah V)) (h:fZ V x y z):Gm V L R x y z=cP V L R z []:=by
 rw[Gm,Cb h0 h];exact aet h0 p h.q h.hz fun u a=>(fZ.qm u).2 (xS (xS a))
theorem LX (h0:aU V L R=0) (p:Pos (ah V)) (h:fZ V x y z) (vx:Nat):(eC V L R x vx y z).1=a7 [(x:Int)] z:=by
 rw[eC,Uz h0 p h];rfl
theorem PE (h0:aU V L R=0) (p:Pos (ah V)) (h:fZ V x y z) (vx:Nat):j8 V L R x vx y z=cP V L R (a7 [(x:Int)] z) []:=by
 rw[j8,LX h0 p h,Cb h0 h];exact aet h0 p h.q h.u fun u a=>(fZ.qm u).2 (((fZ.um u).1 a).imp id xS)
variable {V : List Vr} {L : List Kx} {R : List (List Fr)} {x y : Nat} {z : Kx}
theorem LQ (p:Pos S) {t:Tb} (a:dC S n t) (h:k<cnt S (ag t.1)):cV (aS t.2 k)=tQ S (tN t) (aY S (ag t.1) k):=by
 show bj _=bj (aS t.2 (pos S (aY S (ag t.1) k) (ag t.1)));rw[RT p (E8 a.up) h]
theorem akI (vx:Nat) (h:Fit (ah V) f):tQ (ah V) (tN ([(x:Int)],jy (sz (ah V) x) vx)) f=if f x=vx then 1 else 0:=by
 show bj (aS (jy (sz (ah V) x) vx) (pos (ah V) f (ag [(x:Int)])))=_;have e:pos (ah V) f (ag [(x:Int)])=f x:=by simp[ag,pos]
 rw[e,Ru (h x),j5]
theorem WB (a:x<Z V) (vx:Nat):dC (ah V) (Z V) ([(x:Int)],jy (sz (ah V) x) vx):=by
 refine⟨dY.2 ⟨fun v h=>by rw[bD.1 h];omega,EW _ _⟩,?_⟩;show Z (jy (sz (ah V) x) vx)=cnt (ah V) (ag [(x:Int)]);rw[Bd];simp[ag,cnt]
theorem Uy (h0:aU V L R=0) (p:Pos (ah V)) (h:fZ V x y z) (vx:Nat):dC (ah V) (Z V) (eC V L R x vx y z):=by
 rw[eC,Uz h0 p h];exact(WB h.hx vx).mul (zu h.hz)
theorem aaR (h0:aU V L R=0) (p:Pos (ah V)) (h:fZ V x y z) (vx:Nat) (a:Fit (ah V) f):tQ (ah V) (tN (eC V L R x vx y z)) f=(if f x=vx then 1 else 0)*cE V L R (gI (ag z) f):=by
 rw[eC,Uz h0 p h,aeZ p (WB h.hx vx) (zu h.hz) a,akI vx a,Ki p h.hz a]
theorem aaP (h:fZ V x y z):bY (a7 [(x:Int),(y:Int)] z) (y:Int)=a7 [(x:Int)] z:=by
 refine Wi (ru h.q _) h.u fun u=>?_;rw[De h.q,fZ.qm,fZ.um];constructor
 ·rintro⟨a |a |a,b⟩
  ·exact yp a
  ·exact absurd a b
  ·exact xS a
 ·rintro(rfl |a)
  ·exact⟨yp rfl,h.xy⟩
  ·exact⟨xS (xS a),fun e=>h.yz (e▸a)⟩
theorem aiM (h0:aU V L R=0) (p:Pos (ah V)) (h:fZ V x y z) (c:v<sz (ah V) y) (a:Fit (ah V) f):tQ (ah V) (tN (eB (ah V) y v (fY V L R x y z))) f=cE V L R (gI (ag (a7 [(x:Int),(y:Int)] z)) (aN f y v)):=by
 rw[Cb h0 h];have r:=E8 (ru h.q (y:Int));show tQ (ah V) (ag (bY (a7 [(x:Int),(y:Int)] z) (y:Int)),yN (ah V) (ag (a7 [(x:Int),(y:Int)] z)) (ag (bY (a7 [(x:Int),(y:Int)] z) (y:Int))) y v (cP V L R (a7 [(x:Int),(y:Int)] z) []).2) f=_
 rw[Rp p r (fun u b=>by
  by_cases e:u=y
  ·exact yp e
  ·exact xS ((De h.q u).2 ⟨b,e⟩)) _ a]
 exact Ki p h.q fun u=>E6 a c u
def LY (V:List Vr) (L:List Kx) (R:List (List Fr)) (x vx y v:Nat) (z:Kx) (g:Nat ->Nat):Rat:=
 (if (if g x=vx then 1 else 0)*cE V L R (gI (ag z) g)=0 then 0 else((if g x=vx then 1 else 0)*cE V L R (gI (ag z) g))/cE V L R (gI (ag (a7 [(x:Int)] z)) g))*cE V L R (gI (ag (a7 [(x:Int),(y:Int)] z)) (aN g y v))
def Jc (V:List Vr) (L:List Kx) (R:List (List Fr)) (x y v:Nat) (z:Kx) (g:Nat ->Nat):Rat:=
 (if cE V L R (gI (ag z) g)=0 then 0 else cE V L R (gI (ag z) g)/cE V L R (gI (ag (a7 [(x:Int)] z)) g))*cE V L R (gI (ag (a7 [(x:Int),(y:Int)] z)) (aN g y v))
theorem aiN (vx v:Nat) (g:Nat ->Nat):LY V L R x vx y v z g=kP x vx g*Jc V L R x y v z g:=by
 rw[LY,Jc,kP];by_cases e:g x=vx
 ·rw[aA e,lI,lI]
 ·rw[aD e,uh,aA rfl,uh,uh]
theorem aaQ (h0:aU V L R=0) (p:Pos (ah V)) (h:fZ V x y z) (vx:Nat):(eC V L R x vx y z).2.length=cnt (ah V) (ag (a7 [(x:Int)] z)):=by
 rw[(Uy h0 p h vx).len,LX h0 p h]
theorem aot (h0:aU V L R=0) (p:Pos (ah V)) (h:fZ V x y z) (vx:Nat) (m:v<sz (ah V) y):sq (eC V L R x vx y z).2 (j8 V L R x vx y z).2 (eB (ah V) y v (fY V L R x y z)).2=bG (fun k=>LY V L R x vx y v z (aY (ah V) (ag (a7 [(x:Int)] z)) k)) (cnt (ah V) (ag (a7 [(x:Int)] z))):=by
 have w:=Uy h0 p h vx;have l:=zu (R:=R) (L:=L) h.u;have n:dC (ah V) (Z V) (eB (ah V) y v (fY V L R x y z)):=by rw[Cb h0 h];exact(zu h.q).fix y v
 have a:=LX (R:=R) (L:=L) h0 p h vx;have b:(eB (ah V) y v (fY V L R x y z)).1=a7 [(x:Int)] z:=by rw[Cb h0 h];exact aaP h
 rw[sq,aaQ h0 p h vx];rw[show (List.range (cnt (ah V) (ag (a7 [(x:Int)] z)))).map (nh (eC V L R x vx y z).2 (j8 V L R x vx y z).2 (eB (ah V) y v (fY V L R x y z)).2)=(List.range (cnt (ah V) (ag (a7 [(x:Int)] z)))).map (fun k=>qF (cV (mH (eC V L R x vx y z).2 (j8 V L R x vx y z).2 k)*cV (aS (eB (ah V) y v (fY V L R x y z)).2 k))) from rfl,Pj];refine gD fun k c=>?_;have i:Fit (ah V) (aY (ah V) (ag (a7 [(x:Int)] z)) k):=fun u=>rI p _ _ u c
 have f:cV (aS (eC V L R x vx y z).2 k)=(if aY (ah V) (ag (a7 [(x:Int)] z)) k x=vx then 1 else 0)*cE V L R (gI (ag z) (aY (ah V) (ag (a7 [(x:Int)] z)) k)):=by
  rw[LQ p w (by rw[a];exact c),a,aaR h0 p h vx i]
 have g:cV (aS (j8 V L R x vx y z).2 k)=cE V L R (gI (ag (a7 [(x:Int)] z)) (aY (ah V) (ag (a7 [(x:Int)] z)) k)):=by
  rw[PE h0 p h,LQ p l c];exact Ki p h.u i
 have j:cV (aS (eB (ah V) y v (fY V L R x y z)).2 k)=cE V L R (gI (ag (a7 [(x:Int),(y:Int)] z)) (aN (aY (ah V) (ag (a7 [(x:Int)] z)) k) y v)):=by
  rw[LQ p n (by rw[b];exact c),b,aiM h0 p h m i]
 have d:cV (mH (eC V L R x vx y z).2 (j8 V L R x vx y z).2 k)=if cV (aS (eC V L R x vx y z).2 k)=0 then 0 else cV (aS (eC V L R x vx y z).2 k)/cV (aS (j8 V L R x vx y z).2 k):=by
  rw[mH];by_cases e:cV (aS (eC V L R x vx y z).2 k)=0
  ·rw[aA e,aA e,e]
  ·rw[aD e,aD e];exact j5 _
 rw[d,f,g,j];rfl
variable {V : List Vr} {L : List Kx} {R : List (List Fr)} {x y : Nat} {z : Kx}
variable {vx:Nat}
theorem E7 {g:Nat ->Nat} {w:Nat}:aN g v w v=w:=by simp[aN]
theorem A7 {g:Nat ->Nat} {w u:Nat} (h:u≠v):aN g v w u=g u:=by simp[aN,h]
theorem fZ.nx (h:fZ V x y z) {u:Nat} (a:u∈ag z):u≠x:=fun e=>h.xz (by rw[<- e];exact a)
theorem fZ.ny (h:fZ V x y z) {u:Nat} (a:u∈ag z):u≠y:=fun e=>h.yz (by rw[<- e];exact a)
theorem aiv (h:fZ V x y z) {g:Nat ->Nat}:∀p,p∈gI (ag z) (aN g x vx)↔p∈gI (ag z) g:=fun p=>by
 rw[D7,D7];refine and_congr_right fun a=>?_;rw[A7 (h.nx a)]
theorem aaI (h:fZ V x y z) {g:Nat ->Nat}:∀p,p∈gI (ag (a7 [(x:Int)] z)) (aN g x vx)↔p∈gI (ag z) g++[(x,vx)]:=fun p=>by
 rw[D7,fZ.um,bH,D7,bD];constructor
 ·rintro⟨e |b,a⟩
  ·rw[e,E7] at a;exact xS (Prod.ext e a)
  ·rw[A7 (h.nx b)] at a;exact yp ⟨b,a⟩
 ·rintro(⟨b,a⟩ |rfl)
  ·exact⟨xS b,by rw[A7 (h.nx b)];exact a⟩
  ·exact⟨yp rfl,E7.symm⟩
theorem aiw (h:fZ V x y z) {g:Nat ->Nat}:∀p,p∈gI (ag (a7 [(x:Int),(y:Int)] z)) (aN (aN g x vx) y v)↔p∈gI (ag z) g++([(y,v)]++[(x,vx)]):=fun p=>by
 rw[D7,fZ.qm,bH,D7,bH,bD,bD];constructor
 ·rintro⟨e |e |b,a⟩
  ·rw[e,A7 h.xy,E7] at a;exact xS (xS (Prod.ext e a))
  ·rw[e,E7] at a;exact xS (yp (Prod.ext e a))
  ·rw[A7 (h.ny b),A7 (h.nx b)] at a;exact yp ⟨b,a⟩
 ·rintro(⟨b,a⟩ |rfl |rfl)
  ·exact⟨xS (xS b),by rw[A7 (h.ny b),A7 (h.nx b)];exact a⟩
  ·exact⟨xS (yp rfl),E7.symm⟩
  ·exact⟨yp rfl,by rw[A7 h.xy,E7]⟩
theorem aou (h0:aU V L R=0) (m:Z L<=8) (a:Pos (ah V)) (h:fZ V x y z) (i:vx<sz (ah V) x) (s:v<sz (ah V) y) (n:rH L x y z=(xq,0))
  (q:∀k,k<(eC V L R x vx y z).2.length ->cV (aS (eC V L R x vx y z).2 k)≠0 ->cV (aS (j8 V L R x vx y z).2 k)≠0):
  sq (eC V L R x vx y z).2 (j8 V L R x vx y z).2 (eB (ah V) y v (fY V L R x y z)).2=ik V L R [(x,vx)] [(y,v)]:=by
 have l:=E8 h.hz;have A:=E8 h.u;have o:fj (ah V) (Z V) [(x,vx)]:=⟨aE,fun p a=>by rw[bD.1 a];exact h.hx,fun p a=>by rw[bD.1 a];exact i⟩;have D:∀u,(fun _:Nat=>0) u<sz (ah V) u:=fun u=>jM a u;rw[aot h0 a h vx s];have f:=NF (S:=ah V) (fun g=>LY V L R x vx y v z g) (ag (a7 [(x:Int)] z)) (fun _=>0) A;simp only[Sb] at f;rw[f,wU (G:=fun g=>kP x vx g*Jc V L R x y v z g) (fun g _=>aiN vx v g) _ _ D];have B9:(ag (a7 [(x:Int)] z)).Perm (x::ag z):=(EU A (mY.2 ⟨h.xz,l⟩)).2 fun u=>by rw[fZ.um,bU]
 rw[aeL _ B9 A i];have j:=NF (S:=ah V) (fun g=>Jc V L R x y v z (aN g x vx)) (ag z) (fun _=>0) l;simp only[Sb] at j;rw[<- j, <- atK h0 o l (fun K c=>aiu h0 m i n v c) (fun K c t=>?_)]
 ·refine gD fun K _=>?_;show Jc V L R x y v z (aN (aY (ah V) (ag z) K) x vx)=_;rw[Jc,Dd h0 (aiv h),Dd h0 (aaI h),Dd h0 (aiw h)];rfl
 ·have d:Fit (ah V) (aN (aY (ah V) (ag z) K) x vx):=fun u=>E6 (fun u=>rI a _ _ u c) i u;have r:=r8 _ d (ag (a7 [(x:Int)] z));have F:=Uy h0 a h vx (R:=R) (L:=L);have w:=LX h0 a h vx (R:=R) (L:=L);have:=q (pos (ah V) (aN (aY (ah V) (ag z) K) x vx) (ag (a7 [(x:Int)] z))) (by rw[aaQ h0 a h vx];exact r) (fun e=>t ?_)
  ·rw[PE h0 a h] at this;intro e;refine this ?_;have:=Ki (L:=L) (R:=R) a h.u d;rw[Dd h0 (aaI h)] at this;exact this.trans e
  ·have b:=aaR (L:=L) (R:=R) h0 a h vx d;rw[E7,aA rfl,lI,Dd h0 (aiv h)] at b;rw[tQ,tN,w] at b;exact b.symm.trans e
variable {V : List Vr} {L : List Kx} {R : List (List Fr)} {x y : Nat} {z : Kx}
theorem atJ (h0:aU V L R=0) {d:List (Nat×Nat)} (g:fj (ah V) (Z V) d) {l:List (Nat×Nat)} {y:Nat}
  (a:cE V L R (l++([(y,v)]++d))*cE V L R l=ik V L R d (l++[(y,v)])*cE V L R (l++d)) (b:ik V L R d l=cE V L R l) (c:cE V L R l≠0 ->cE V L R (l++d)≠0):
  (if cE V L R l=0 then 0 else cE V L R l/cE V L R (l++d))*cE V L R (l++([(y,v)]++d))=ik V L R d (l++[(y,v)]):=by
 by_cases e:cE V L R l=0
 ·rw[aA e,uh,afm h0 g _ y v (b.trans e)]
 ·rw[aD e];have f:=c e;generalize cE V L R l=A at *;generalize cE V L R (l++d)=B at *;generalize cE V L R (l++([(y,v)]++d))=N at *;generalize ik V L R d (l++[(y,v)])=D at *;have h:A/B*N=N*A/B:=by rw[k9,k9];grind
  rw[h,a,k9,qg,JR _ f,mU]
theorem ape (d:x<Z V) {w:Nat} (i:w≠vx) {l:List (Nat×Nat)} (b:(x,w)∈l):ik V L R [(x,vx)] l=0:=by
 rw[ik, <- ahJ aE (fun p c=>by rw[bD.1 c];exact d) l,dN]
 have e:∀g,bV (l++[(x,vx)]) g*cX (iM [(x,vx)] (sA V L R)) g (List.range (Z V))=0:=fun g=>by
  rcases Ja (l++[(x,vx)]) g with h |⟨h,a⟩
  ·rw[h,uh]
  ·exact absurd ((a (x,w) (AY _ b)).symm.trans (a (x,vx) (JU _ aE))) (by simpa using i)
 have:∀(vs:Jp) (f:Nat ->Nat),dh (ah V) vs (fun g=>bV (l++[(x,vx)]) g*cX (iM [(x,vx)] (sA V L R)) g (List.range (Z V))) f=0:=fun vs=>by
  induction vs with
  |nil=>exact fun f=>e f
  |cons u vs ih=>
   intro f;rw[dh];simp only[ih]
   have:∀n,bG (fun _=>(0:Rat)) n=0:=fun n=>by
    induction n with
    |zero=>rfl
    |succ n ihn=>rw[bG,ihn,MC]
   exact this _
 exact this _ _
theorem atO (h0:aU V L R=0) (o:Z L<=8) (b:Pos (ah V)) (h:fZ V x y z) (j:vx<sz (ah V) x) (r:rH L x y z=(xq,0))
  {g:Nat ->Nat} (i:Fit (ah V) g) (s:g x=vx ->cE V L R (gI (ag z) g)≠0 ->cE V L R (gI (ag (a7 [(x:Int)] z)) g)≠0):
  LY V L R x vx y v z g=ik V L R [(x,vx)] (gI (ag (a7 [(x:Int)] z)) g++[(y,v)]):=by
 have d:fj (ah V) (Z V) [(x,vx)]:=⟨aE,fun p b=>by rw[bD.1 b];exact h.hx,fun p b=>by rw[bD.1 b];exact j⟩;rw[aiN,kP];by_cases e:g x=vx
 ·rw[aA e,lI]
  have m:aN g x vx=g:=funext fun u=>by
   by_cases f:u=x
   ·subst f;rw[E7,e]
   ·rw[A7 f]
  have l:=E8 h.hz;have K:=r8 g i (ag z)
  have n:qV (ah V) (ag z) (pos (ah V) g (ag z))=gI (ag z) g:=by
   rw[qV,gI];exact qh fun u t=>by rw[D8 b i l u t]
  obtain⟨c,b2⟩:=aiu h0 o j r v K;rw[n] at c b2;have u1:=aaI h (g:=g) (vx:=vx);have q:=aiw h (g:=g) (vx:=vx) (v:=v);rw[m] at u1 q;have k:=s e;rw[Dd h0 u1] at k;rw[Jc,Dd h0 u1,Dd h0 q,atJ h0 d c b2 k];have w:ik V L R [(x,vx)] (gI (ag z) g++[(y,v)])=ik V L R [(x,vx)] (gI (ag z) g++[(y,v)]++[(x,vx)]):=(ahJ d.nd d.lt _).symm;rw[w]
  exact afl fun p=>by
   rw[bH,bH,bH,u1 p,bH];constructor
   ·rintro((a |a) |a)
    ·exact yp (yp a)
    ·exact xS a
    ·exact yp (xS a)
   ·rintro((a |a) |a)
    ·exact yp (yp a)
    ·exact xS a
    ·exact yp (xS a)
 ·rw[aD e,uh];exact(ape h.hx e (AY _ (D7.2 ⟨(fZ.um x).2 (yp rfl),rfl⟩))).symm
variable {V : List Vr} {L : List Kx} {R : List (List Fr)} {x y : Nat} {z : Kx}
theorem Sy (h0:aU V L R=0) (h:q9 V R) (l:List (Nat×Nat)):qw (cE V L R l)<=8003:=by
 rw[SB];exact afp h0 (zA h0) h l (ak _)
theorem Wo (h0:aU V L R=0) (h:q9 V R) (Q:Kx):Cw 8192 (cP V L R Q []).2:=fun k a=>by
 have c:k<cnt (ah V) (ag Q):=by simpa [cP] using a
 have:=Sy h0 h (qV (ah V) (ag Q) k++[]);rw[cP,LR _ c];show qw _+2<=8192;omega
theorem aex (h0:aU V L R=0) (p:Pos (ah V)) (D:q9 V R) {Q:Kx} (h:Up Q (Z V)) (b:∀v∈l,0<=v/\v.toNat∈ag Q) (n:l.Nodup):PQ (ah V) (cP V L R Q []) l:=fun i g=>by
 obtain⟨a,f⟩:=XA h0 p (R:=R) (L:=L) (l.take i) h (fun v c=>b v (QV c)) (n.sublist (List.take_sublist _ _));obtain⟨q,k⟩:=b l[i] (bQ g);have d:l[i]=((l[i].toNat:Nat):Int):=al
 refine⟨l[i].toNat,d,by rw[lQ];exact tA h _ k,?_,?_,?_⟩
 ·rw[a];show l[i].toNat∈ag (KW Q (l.take i));rw[X3 _ h (fun v c=>(b v (QV c)).1), <- d];refine⟨k,fun o=>?_⟩;obtain⟨j,m,e⟩:=iQ o;rw[x4] at e;rw[eZ] at m;have:=(List.getElem_inj n).1 e;omega
 ·rw[a,lQ];exact zu f
 ·rw[a];exact Wo h0 D _
theorem Sd {Q z:Kx} (a:Up Q (Z V)):(∀v∈fT Q z,0<=v/\v.toNat∈ag Q)/\(fT Q z).Nodup:=by
 refine⟨fun v h=>?_,(A8 a).filter _⟩;rw[fT,cU] at h;exact⟨((dY.1 a).1 v h.1).1,aQ.2 ⟨v,h.1,rfl⟩⟩
theorem aox (S:Jp) (a t:Tb):Low (vr S a t).2:=fun f h=>by
 obtain⟨K,_,rfl⟩:=aQ.1 h;rw[j5]
theorem XY {l:List Fr} (a:Low l) (h:k<Z l):(aS l k).2.1.size+(aS l k).2.2.size=qw (cV (aS l k)):=by
 have:=a (aS l k) (by rw[qP h];exact bQ h);rw[<- RJ];show _=(qF (bj (aS l k))).2.1.size+(qF (bj (aS l k))).2.2.size;rw[<- this]
theorem Rn (h0:aU V L R=0) (p:Pos (ah V)) (h:fZ V x y z) (vx:Nat) (l:v<sz (ah V) y) (c:k<cnt (ah V) (ag (a7 [(x:Int)] z))):
  cV (aS (eC V L R x vx y z).2 k)=(if aY (ah V) (ag (a7 [(x:Int)] z)) k x=vx then 1 else 0)*cE V L R (gI (ag z) (aY (ah V) (ag (a7 [(x:Int)] z)) k))/\
  cV (aS (j8 V L R x vx y z).2 k)=cE V L R (gI (ag (a7 [(x:Int)] z)) (aY (ah V) (ag (a7 [(x:Int)] z)) k))/\
  cV (aS (eB (ah V) y v (fY V L R x y z)).2 k)=cE V L R (gI (ag (a7 [(x:Int),(y:Int)] z)) (aN (aY (ah V) (ag (a7 [(x:Int)] z)) k) y v))/\
  nh (eC V L R x vx y z).2 (j8 V L R x vx y z).2 (eB (ah V) y v (fY V L R x y z)).2 k=qF (LY V L R x vx y v z (aY (ah V) (ag (a7 [(x:Int)] z)) k)):=by
 have w:=Uy (L:=L) (R:=R) h0 p h vx;have m:dC (ah V) (Z V) (eB (ah V) y v (fY V L R x y z)):=by rw[Cb h0 h];exact(zu h.q).fix y v
 have f:=LX (R:=R) (L:=L) h0 p h vx;have g:(eB (ah V) y v (fY V L R x y z)).1=a7 [(x:Int)] z:=by rw[Cb h0 h];exact aaP h
 have i:Fit (ah V) (aY (ah V) (ag (a7 [(x:Int)] z)) k):=fun u=>rI p _ _ u c
 have a:cV (aS (eC V L R x vx y z).2 k)=(if aY (ah V) (ag (a7 [(x:Int)] z)) k x=vx then 1 else 0)*cE V L R (gI (ag z) (aY (ah V) (ag (a7 [(x:Int)] z)) k)):=by
  rw[LQ p w (by rw[f];exact c),f,aaR h0 p h vx i]
 have b:cV (aS (j8 V L R x vx y z).2 k)=cE V L R (gI (ag (a7 [(x:Int)] z)) (aY (ah V) (ag (a7 [(x:Int)] z)) k)):=by
  rw[PE h0 p h,LQ p (zu h.u) c];exact Ki p h.u i
 have d:cV (aS (eB (ah V) y v (fY V L R x y z)).2 k)=cE V L R (gI (ag (a7 [(x:Int),(y:Int)] z)) (aN (aY (ah V) (ag (a7 [(x:Int)] z)) k) y v)):=by
  rw[LQ p m (by rw[g];exact c),g,aiM h0 p h l i]
 have j:cV (mH (eC V L R x vx y z).2 (j8 V L R x vx y z).2 k)=if cV (aS (eC V L R x vx y z).2 k)=0 then 0 else cV (aS (eC V L R x vx y z).2 k)/cV (aS (j8 V L R x vx y z).2 k):=by
  rw[mH];by_cases e:cV (aS (eC V L R x vx y z).2 k)=0
  ·rw[aA e,aA e,e]
  ·rw[aD e,aD e];exact j5 _
 refine⟨a,b,d,?_⟩;rw[nh,j,a,b,d];rfl
variable {V : List Vr} {L : List Kx} {R : List (List Fr)} {x y : Nat} {z : Kx}
theorem ams {q:Rat} (h:q≠0):qw (p/q)<=qw p+qw q+1:=by
 have a:=amr p (1/q);have b:=adq h;have e:p*(1/q)=p/q:=by rw[k9,k9,lI]
 rw[e] at a;omega
theorem atN (M:NM V L R) (h:fZ V x y z) (t:vx<sz (ah V) x) (S:rH L x y z=(xq,0)):L9 (eC V L R x vx y z).2 (j8 V L R x vx y z).2 (sz (ah V) y) fun v=>(eB (ah V) y v (fY V L R x y z)).2:=by
 have a:=M.ok;have b:=M.pos;have D:=M.lite;have Q:Z L<=8:=by have:=(fK a).len;have:=M.six;omega
 have d:(eC V L R x vx y z).2.length=cnt (ah V) (ag (a7 [(x:Int)] z)):=aaQ a b h vx;have r:(j8 V L R x vx y z).2.length=cnt (ah V) (ag (a7 [(x:Int)] z)):=by rw[PE a b h];simp[cP]
 have f:∀v,(eB (ah V) y v (fY V L R x y z)).2.length=cnt (ah V) (ag (a7 [(x:Int)] z)):=fun v=>by
  have f:dC (ah V) (Z V) (eB (ah V) y v (fY V L R x y z)):=by rw[Cb a h];exact(zu h.q).fix y v
  have K:(eB (ah V) y v (fY V L R x y z)).1=a7 [(x:Int)] z:=by rw[Cb a h];exact aaP h
  rw[f.len,K]
 have B2:=ab9 (R:=R) (L:=L) a h.u [] (by have:=ah8 M;omega);have aa:(cP V L R (a7 [(x:Int)] z) []).2.length=cnt (ah V) (ag (a7 [(x:Int)] z)):=by simp[cP]
 rw[aa] at B2;have B9:=jM b y
 have o:∀k,k<cnt (ah V) (ag (a7 [(x:Int)] z)) ->qw (cV (aS (eC V L R x vx y z).2 k))<=8003:=fun k c=>by
  obtain⟨g,_⟩:=Rn (L:=L) (R:=R) a b h vx B9 c;rw[g];split
  ·rw[lI];exact Sy a D _
  ·rw[uh];have:=Ky;omega
 have A:∀k,k<cnt (ah V) (ag (a7 [(x:Int)] z)) ->qw (cV (aS (j8 V L R x vx y z).2 k))<=8003:=fun k c=>by
  obtain⟨_,i,_⟩:=Rn (L:=L) (R:=R) a b h vx B9 c;rw[i];exact Sy a D _
 have w:∀k,k<(eC V L R x vx y z).2.length ->(aS (eC V L R x vx y z).2 k).2.1.size+(aS (eC V L R x vx y z).2 k).2.2.size<=40000:=fun k c=>by
  have pE:Low (eC V L R x vx y z).2:=aox _ _ _;rw[XY pE c];have:=o k (by rw[d] at c;exact c);omega
 refine⟨by rw[d];omega,by rw[d];omega,by rw[r,d],fun v _=>by rw[d];exact f v,w,fun k c=>?_,fun v n k c=>?_,fun k c ab=>?_,fun U v n=>?_⟩
 ·rw[d] at c;rw[XY (by rw[PE a b h];exact akg _) (by rw[r];exact c)];have:=A k c;omega
 ·rw[d] at c;rw[XY (ahm _ _ _ _) (by rw[f];exact c)];obtain⟨_,_,H,_⟩:=Rn (L:=L) (R:=R) a b h vx n c;rw[H];have:=Sy a D (gI (ag (a7 [(x:Int),(y:Int)] z)) (aN (aY (ah V) (ag (a7 [(x:Int)] z)) k) y v));omega
 ·rw[mH];split
  ·exact w k c
  ·rw[d] at c;rw[RJ];have h1:=ams (p:=cV (aS (eC V L R x vx y z).2 k)) ab;have h2:=o k c;have h3:=A k c;omega
 ·have m:fj (ah V) (Z V) [(x,vx)]:=⟨aE,fun p b=>by rw[bD.1 b];exact h.hx,fun p b=>by rw[bD.1 b];exact t⟩;have s:aU V (eh [(x,vx)] L) (dV V [(x,vx)] (cC R))=0:=Pt (by rw[Sp];exact a) m;have P:=(M.dos m).lt
  have T:(List.range (eC V L R x vx y z).2.length).map (nh (eC V L R x vx y z).2 (j8 V L R x vx y z).2 (eB (ah V) y v (fY V L R x y z)).2)=(cP V (eh [(x,vx)] L) (dV V [(x,vx)] (cC R)) (a7 [(x:Int)] z) [(y,v)]).2:=by
   rw[d,cP];refine qh fun k c=>?_;have Y:=bR.1 c;obtain⟨g,i,_,B7⟩:=Rn (L:=L) (R:=R) a b h vx n Y;have B1:Fit (ah V) (aY (ah V) (ag (a7 [(x:Int)] z)) k):=fun u=>rI b _ _ u Y;rw[B7,atO a Q b h t S B1 (fun B6 j=>?_),SA a m]
   ·rfl
   ·have:=U k (by rw[d];exact Y);rw[g,i,aA B6,lI] at this;exact this j
  rw[T];refine⟨fun k c=>?_,fun k c=>?_⟩
  ·have F:k<(cP V (eh [(x,vx)] L) (dV V [(x,vx)] (cC R)) (a7 [(x:Int)] z) [(y,v)]).2.length:=by rw[<- T];simpa using c
   have e:=Rm s P (a7 [(x:Int)] z) [(y,v)] k F
   have j:(cP V (eh [(x,vx)] L) (dV V [(x,vx)] (cC R)) (a7 [(x:Int)] z) [(y,v)]).2[k]=nh (eC V L R x vx y z).2 (j8 V L R x vx y z).2 (eB (ah V) y v (fY V L R x y z)).2 k:=by
    (have:∀(l:List Fr) (X:k<Z l),l=(cP V (eh [(x,vx)] L) (dV V [(x,vx)] (cC R)) (a7 [(x:Int)] z) [(y,v)]).2 ->(cP V (eh [(x,vx)] L) (dV V [(x,vx)] (cC R)) (a7 [(x:Int)] z) [(y,v)]).2[k]=l[k]:=fun l X e=>by subst e;rfl);rw[this _ (by simpa using c) T,mq,EY]
   rw[j] at e;exact e
  ·exact Rl s P h.u [(y,v)] k (by rw[<- T];simpa using c)
theorem aiL (M:NM V L R) (h:fZ V x y z) (i:vx<sz (ah V) x) (e:rH L x y z=(xq,0)):AdS V L R x vx y z:=by
 have a:=M.ok;have p:=M.pos;have D:=M.lite;have b:=M.six;have f:=Hr h.q b;have g:=Hr h.u b;have j:=Hr h.hz b;have n:=lQ V;have s:=M.szs x;have l:=M.szs y;have T:=Cb (R:=R) a h;have B2:=Uz (L:=L) (R:=R) a p h;have d:=LX (L:=L) (R:=R) a p h vx;refine⟨M.fine,M.one,h.hx,h.hy,jM p x,al,i,jM p y,al,al,al,?_,?_,?_,?_,?_,?_,?_,?_,?_,?_,atN M h i e⟩
 ·rw[T];show Z (a7 _ _)<=1000;omega
 ·rw[T,n];exact zu h.q
 ·rw[T];exact(Wo a D _).up a6
 ·rw[T];exact aex a p D h.q (Sd h.q).1 (Sd h.q).2
 ·rw[n];exact WB h.hx vx
 ·intro k c;rw[Bd] at c;rw[Ru c];split
  ·show qw 1+2<=100000;have:=WZ;omega
  ·show qw 0+2<=100000;have:=Ky;omega
 ·rw[B2,n];exact zu h.hz
 ·rw[B2];exact(Wo a D _).up a6
 ·rw[d];omega
 ·rw[T,d];exact aex a p D h.q (Sd h.q).1 (Sd h.q).2
theorem ahF (M:NM V L R) (h:fZ V x y z) (i:vx<sz (ah V) x) (f:rH L x y z=(xq,0))
  (j:∀k,k<(eC V L R x vx y z).2.length ->cV (aS (eC V L R x vx y z).2 k)≠0 ->cV (aS (j8 V L R x vx y z).2 k)≠0):
  ((List.range (sz (ah V) y)).map fun v=>qF (sq (eC V L R x vx y z).2 (j8 V L R x vx y z).2 (eB (ah V) y v (fY V L R x y z)).2))=lX V L R [(x,vx)] [(y:Int)] []:=by
 have b:=M.ok;have a:=M.pos;have d:Z L<=8:=by have:=(fK b).len;have:=M.six;omega
 have g:fj (ah V) (Z V) [(x,vx)]:=⟨aE,fun p a=>by rw[bD.1 a];exact h.hx,fun p a=>by rw[bD.1 a];exact i⟩;have e:ik V L R [(x,vx)] []=1:=X0 (Pu b g);have c:cnt (ah V) (ag [(y:Int)])=sz (ah V) y:=by simp[ag,cnt]
 rw[lX,e,c];refine qh fun v l=>?_;have m:=bR.1 l;rw[aou b d a h i m f j];have q:qV (ah V) (ag [(y:Int)]) v=[(y,v)]:=by simp[qV,ag,aY,cnt]
 rw[q,lh,k9,show (1:Rat)⁻¹=1 from by have:=JR 1 a6;rwa [lI] at this,mU]
variable {V : List Vr} {L : List Kx} {R : List (List Fr)}
theorem aal (g:bq L=0) {u:Nat} (h:u∈ag (L.getD v [])):qA (aI L) u<qA (aI L) v:=UA g (fQ.one (by show u∈(aI L).getD v [];rw[RZ];exact h))
theorem atr (h0:aU V L R=0) (n:Z L<=8) {x y:Nat} (s:x<Z V) (U:y<Z V) (F:x≠y) (K:¬y∈ag (L.getD x [])):rH L x y (L.getD x [])=(xq,0):=by
 have i:=KP h0;have B9:Z L=Z V:=(fK h0).len
 have A:∀w,w<Z V ->Up (L.getD w []) (Z V):=fun w f=>by
  have:=(fK h0).up w al;rw[<- getD_at al] at this;exact this
 have z:=A x s;have Y:¬x∈ag (L.getD x []):=fun h=>QQ _ (aal i h)
 have B7:∀u:Nat,u∈ag (L.getD x [])↔(u:Int)∈L.getD x []:=fun u=>by
  rw[ag,aQ];constructor
  ·rintro⟨q,k,e⟩;have:=((dY.1 z).1 q k).1;rw[show (u:Int)=q by omega];exact k
  ·exact fun h=>⟨_,h,aE⟩
 have S:∀u:Nat,u<Z V ->Up [(u:Int)] (Z V):=fun u r=>dY.2 ⟨fun v d=>by rw[bD.1 d];omega,EW _ _⟩
 have B6:js (Z L) [[(x:Int)],[(y:Int)],L.getD x []]=true:=by
  rw[B9];refine D9.2 ⟨fun l D=>?_,?_⟩
  ·simp only[bU,gw,jf] at D;rcases D with rfl |rfl |rfl
   ·exact Hs (S x s)
   ·exact Hs (S y U)
   ·exact Hs z
  ·simp only[MR,MQ,lh,oh,bH,bD];refine⟨aE,⟨aE,A8 z,fun a j b g e=>?_⟩,fun a j b g e=>?_⟩
   ·subst j;subst e;exact K ((B7 y).2 g)
   ·subst j;rcases g with g |g
    ·subst g;exact F al
    ·subst e;exact Y ((B7 x).2 g)
 have B1:jX L [[(x:Int)],[(y:Int)],L.getD x []]=0:=by rw[jX,aA i,aA B6]
 have M:∀w∈ag (L.getD x []),w<Z L:=fun w f=>by have:=tA z w f;omega
 have j:xF L x (ag (L.getD x []))=false:=by
  rw[<- MV];intro h;have B2:=(Uw i n M x).2 ((L0 i n M x).1 h)
  have ab:∀v,eQ L (fun u=>u∈ag (L.getD x [])) v ->qA (aI L) v<qA (aI L) x:=fun v d=>by
   induction d using eQ.ind with
   |base h1=>exact aal i h1
   |step _ h2 ih=>exact Nat.lt_trans (aal i h2) ih
  exact QQ _ (ab x B2)
 have hcut:∀w u,w<Z V ->u∈ag ((j6 L [] [(x:Int)]).getD w []) ->u∈ag (L.getD w [])/\u≠x:=fun w u f r=>by
  rw[ahW al,aaq] at r;obtain⟨q,k,rfl⟩:=aQ.1 r;obtain⟨H,X⟩:=cU.1 k;have vB:=((dY.1 (A w f)).1 q H).1;refine⟨aQ.2 ⟨q,H,rfl⟩,fun e=>?_⟩;have wZ:¬q=(x:Int):=by simpa using X
  omega
 have m:Z (j6 L [] [(x:Int)])=Z L:=I7 _ _ _
 have Q:wT (j6 L [] [(x:Int)]) [(x:Int)] [(y:Int)] (L.getD x [])=false:=by
  rw[<- MV];intro h;obtain⟨w,c,f,T⟩:=(aeo (aar i _ _) (by rw[m];exact n) (by rw[m];exact B6)).1 h
  have P:=T (fun v c=>c=xq/\(v=x∨v∈ag (L.getD x []))) (fun v d=>⟨rfl,yp (by simpa [ag] using d)⟩)
   (fun v p d t o=>by
    rcases d.2 with e |e
    ·subst e;exact⟨rfl,xS (hcut v p s o).1⟩
    ·exact absurd e t)
   (fun v w c d t f o=>by
    rcases d.2 with e |e
    ·subst e;exact absurd rfl (hcut w v (by rw[m,B9] at f;exact f) o).2
    ·exact absurd e t)
   (fun v p d _ _=>by cases d.1)
  have aa:w=y:=by simpa [ag] using f
  subst aa;rcases P.2 with e |e
  ·exact F e.symm
  ·exact K e
 rw[rH,aA B1,oC,j,Q];rfl
theorem ar8 (h0:aU V L R=0) {x y:Nat} {z:Kx} (h:fZ V x y z):jX L [[(x:Int)],[(y:Int)],z]=0/\([(x:Int),(y:Int)]++z).Nodup:=by
 have n:Z L=Z V:=(fK h0).len;have k:∀u:Nat,u<Z V ->Up [(u:Int)] (Z V):=fun u i=>dY.2 ⟨fun v g=>by rw[bD.1 g];omega,EW _ _⟩
 have B7:([(x:Int)]++([(y:Int)]++z)).Nodup:=by
  simp only[oh,bH,bD];refine⟨aE,⟨aE,A8 h.hz,fun a d b c e=>?_⟩,fun a d b c e=>?_⟩
  ·subst d;subst e;exact h.yz ((h.zm y).2 c)
  ·subst d;rcases c with c |c
   ·subst c;exact h.xy al
   ·subst e;exact h.xz ((h.zm x).2 c)
 have p:js (Z L) [[(x:Int)],[(y:Int)],z]=true:=by
  rw[n];refine D9.2 ⟨fun l f=>?_,by simpa using B7⟩;simp only[bU,gw,jf] at f;rcases f with rfl |rfl |rfl
  ·exact Hs (k x h.hx)
  ·exact Hs (k y h.hy)
  ·exact Hs h.hz
 exact⟨by rw[jX,aA (KP h0),aA p],by simpa using B7⟩
end Go.Proofs.YtkflnpjapgiajaaGreatDoor
