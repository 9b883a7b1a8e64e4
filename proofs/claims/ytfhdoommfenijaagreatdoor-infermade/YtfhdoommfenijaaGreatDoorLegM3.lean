/- Part3: part 3. -/
import Derived.Test.YtfhdoommfenijaaGreatDoorLegM2
set_option maxRecDepth 100000
set_option maxHeartbeats 400000000
set_option linter.unusedSimpArgs false
set_option linter.unusedVariables false
namespace Go.Proofs.YtfhdoommfenijaaGreatDoor
open Go.RowKit Go.Shelf
variable {L:List (List Int)}
theorem rJ (h:gB L=true):1<=L.length/\L.length<=8/\uF L L.length=true/\Am L=true:=by
 rw[gB,gX,gX,eR] at h;exact⟨h.1.1.1,h.1.1.2,h.1.2,h.2⟩
theorem anS (h:gB L=true):∀p∈aL L,∀u∈p,u<8:=by
 obtain⟨e,a,b,f⟩:=rJ h;intro p d;obtain⟨l,c,rfl⟩:=bc.1 d;exact abw a (gW.1 b l c)
theorem XB (a:Option Addr) (ca:Nat) (L:List (List Int)) (w:World) (h:fN w a L) (r:∀l∈L,l.length<=140737488355328):
  c6 118 #[.slice a L.length ca] w fun e w'=>c8 w w'/\
   ((bH L=0/\∃G,e=.returned (.tuple #[.slice (some ⟨G,0,none⟩) L.length L.length,.int .i64 0])/\w.heap.size<=G/\cS w' G (ko L))∨(bH L≠0/\e=.returned (.tuple #[.slice none 0 0,.int .i64 (bH L)]))):=by
 have u:=hid h;have R:=hid (fun (V:World) (j:fN V a L)=>abz a ca L V j r);have F:Hid (gB L=false ->bH L=11):=fun h=>aB (by rw[h];decide);have I:Hid (gB L=true ->(aZ (aL L) L.length).length<L.length ->bH L=10):=fun f i=>by rw[bH,aA f,aA i]
 have Q:Hid (gB L=true ->¬(aZ (aL L) L.length).length<L.length ->bH L=0):=fun f i=>by rw[bH,aA f,aB i]
 have O:Hid (gB L=true ->∀(G c:Nat) (V:World),cS V G (ko L) ->c6 174 #[.slice (some ⟨G,0,none⟩) L.length c] V fun e w'=>∃x,e=.returned x/\bA w' V.heap.size x (iL (aZ (aL L) L.length))/\c8 V w'):=fun g G c V j=>by
  have z:=(rJ g).2.1;have:=akm G c (aL L) V (by rw[<- Js];exact j) (by rw[kW];exact z) (anS g);rwa [kW] at this
 generalize bH L=ge at *;generalize ko L=K at *;clear h r;go_enter Tryz.func118,Tryz.ntmps118;go_wp2_with fail
 refine(R.o _ u.o).af ?_;rintro e M ⟨b,⟨g,G,rfl,A,U⟩ |⟨g,v,rfl⟩⟩
 ·have p:=hid U;have J:=hid (O.o g G L.length);have H:=hid b;have q:=hid g;clear U b g O R;go_wp2_with fail
  refine(J.o _ p.o).af ?_;rintro e P ⟨x,rfl,s,k⟩;obtain⟨d,cd,rfl,_⟩:=s.ints;have n:=hid (H.o.trans (k.af H.o.size));have y:=hid (p.o.aa k p.o.lt);have X:Hid ((iL (aZ (aL L) L.length)).length=(aZ (aL L) L.length).length):=ba _;clear s k;by_cases t:(aZ (aL L) L.length).length<L.length
  ·have E:=hid (I.o q.o t);(have D:(iL (aZ (aL L) L.length)).length<L.length:=by rw[X.o];exact t);clear t;generalize (iL (aZ (aL L) L.length)).length=m at *;go_wp2;go_ret2;exact⟨n.o,.inr ⟨by rw[E.o];decide,by rw[E.o];rfl⟩⟩
  ·have E:=hid (Q.o q.o t);(have D:¬(iL (aZ (aL L) L.length)).length<L.length:=by rw[X.o];exact t);clear t;generalize (iL (aZ (aL L) L.length)).length=m at *;go_wp2;go_ret2;exact⟨n.o,.inl ⟨E.o,G,rfl,A,y.o⟩⟩
 ·have E:=hid (F.o g);have H:=hid b;clear g b;go_wp2;go_ret2;exact⟨H.o,.inr ⟨by rw[E.o];decide,by rw[E.o];rfl⟩⟩
theorem anP (a:Option Addr) (ca:Nat) (L:List (List Int)) (w:World) (h:fN w a L) (c:∀l∈L,l.length<=140737488355328):
  c6 113 #[.slice a L.length ca] w (da w (.int .i64 (bH L))):=by
 have F:=hid h;have H:=hid (fun (V:World) (d:fN V a L)=>XB a ca L V d c);generalize bH L=ge at *;clear h c;go_enter Tryz.func113,Tryz.ntmps113;go_wp2_with fail
 refine(H.o _ F.o).af ?_;rintro e i ⟨b,⟨rfl,G,rfl,f,U⟩ |⟨g,rfl⟩⟩
 ·clear U;go_wp2;go_ret;exact⟨rfl,b⟩
 ·clear g;go_wp2;go_ret;exact⟨rfl,b⟩
variable {i:Nat} {w:World}
theorem ao1 {l1 l2:List Nat} (h1:i<l1.length) (a:i<l2.length) (h:l1[i]≠l2[i]):decide (l1=l2)=false:=cK fun e=>h (by subst e;rfl)
theorem ao4 {l1 l2:List Nat} (l:l1.length=l2.length) (h:∀i (a:i<l1.length) (b:i<l2.length),l1[i]=l2[i]):decide (l1=l2)=true:=cY (qh l h)
theorem aim (c d n s t:Nat) (l1 l2:List Nat) (w:World) (z:l1.length=n) (A:l2.length=n) (K:n<=5000) (h1:cS w c l1) (g:cS w d l2):
  c6 181 #[.slice (some ⟨c,0,none⟩) n s,.slice (some ⟨d,0,none⟩) n t] w (da w (.bool (decide (l1=l2)))):=by
 have e:=hid h1;have f:=hid g;have m:=hid (fun i (a:i<l1.length) (b:i<l2.length) h=>ao1 a b h);have E:=hid (fun h=>ao4 (l1:=l1) (l2:=l2) al h);generalize decide (l1=l2)=r at *;clear h1 g;go_enter Tryz.func181,Tryz.ntmps181;go_wp2_with fail
 go_loopw [13] (fun iv wr=>∃i:Nat,i<=n/\iv=.int .i64 i/\Hid (∀j (a:j<l1.length) (b:j<l2.length),j< i ->l1[j]=l2[j])/\Hid (c8 w wr)) (fun iv _=>n - (intOf iv).toNat)
 case atStart=>exact⟨0,aS _,rfl,fun j _ _ h=>absurd h al,aw _ _⟩
 case round=>
  obtain⟨i,F,rfl,I,H⟩:=hrel;by_cases M:i<n
  ·have p:=(e.o.aa H.o e.o.lt).cell i al;have q:=(f.o.aa H.o f.o.lt).cell i al;have u:=hid (m.o i al al)
   have S:Hid (l1[i]'al=l2[i]'al ->∀j (a:j<l1.length) (b:j<l2.length),j<i+1 ->l1[j]=l2[j]):=fun h j a b J=>by
    rcases cF j i with k |k
    ·exact I.o j a b k
    ·obtain rfl:j=i:=al
     exact h
   generalize l1[i]'al=x at *;generalize l2[i]'al=y at *;go_upto_region 6 with fail
   go_quiet (fail)
   have l:=hid (below_drewN H.o nq);clear p q;generalize wr.drewN nq=L at *;by_cases v:x=y
   ·have Q:=hid (S.o v);subst v;go_wp2;go_roundw
    case rel=>exact⟨i+1,al,bd,Q,l⟩
    case measure=>simp[intOf];omega
   ·have R:=hid (u.o v)
    have D:((x:Int) !=(y:Int))=true:=by
     (have:¬(x:Int)=(y:Int):=al);simpa using this
    clear v;go_wp2;go_ret;exact⟨by rw[R.o];rfl,l.o⟩
  ·obtain rfl:i=n:=al
   have R:=hid (E.o fun j a b=>I.o j a b al);go_wp2;go_ret;exact⟨by rw[R.o];rfl,H.o⟩
def vz (L:List (List Int)):Bool:=gB L&&decide (ko L=(mI (aL L) L.length L.length).map aC)
theorem LC (h:gB L=true):∀p∈aL L,∀u∈p,u<L.length:=by
 obtain⟨_,_,r,_⟩:=rJ h;intro p e u f;obtain⟨l,d,rfl⟩:=bc.1 e;obtain⟨x,g,rfl⟩:=bc.1 f;obtain⟨i,b,rfl⟩:=ij d;have a:=Cm (R3 r b);obtain⟨j,c,rfl⟩:=ij g;have:=a.each j c;omega
theorem Jp (h:gB L=true):uH L.length (aL L):=by
 refine⟨kW L,LC h,fun u a=>?_⟩;obtain⟨_,_,_,s⟩:=rJ h;by_cases l:u<L.length
 ·rw[LD l] at a;rw[UO l a] at s;cases s
 ·rw[List.getD_eq_getElem?_getD,iV (by rw[kW];omega)] at a;simp at a
theorem aiI (a:Option Addr) (ca:Nat) (L:List (List Int)) (w:World) (h:fN w a L) (s:∀l∈L,l.length<=140737488355328):
  c6 133 #[.slice a L.length ca] w fun e w'=>c8 w w'/\
   ((vz L=true/\∃G,e=.returned (.tuple #[.slice (some ⟨G,0,none⟩) L.length L.length,.bool true])/\w.heap.size<=G/\cS w' G (ko L))∨(vz L=false/\e=.returned (.tuple #[.slice none 0 0,.bool false]))):=by
 have Q:=hid (abz a ca L w h s);have d:Hid (vz L=(gB L&&decide (ko L=(mI (aL L) L.length L.length).map aC))):=rfl
 have O:Hid (gB L=true ->∀(G:Nat) (U:World),cS U G (ko L) ->c6 182 #[.slice (some ⟨G,0,none⟩) L.length L.length] U fun e w'=>e=.returned (.slice (some ⟨U.heap.size,0,none⟩) L.length L.length)/\cS w' U.heap.size ((mI (aL L) L.length L.length).map aC)/\c8 U w'):=fun g G U b=>by
  rw[Js] at b;exact aps G L.length L.length (aL L) U (kW L) (rJ g).2.1 b (LC g)
 have I:Hid (gB L=true ->∀(c f:Nat) (U:World),cS U c (ko L) ->cS U f ((mI (aL L) L.length L.length).map aC) ->c6 181 #[.slice (some ⟨c,0,none⟩) L.length L.length,.slice (some ⟨f,0,none⟩) L.length L.length] U fun e w'=>e=.returned (.bool (decide (ko L=(mI (aL L) L.length L.length).map aC)))/\c8 U w'):=fun g c f U x y=>aim c f L.length L.length L.length _ _ U (adg L) (by rw[dD,afB]) (by have:=(rJ g).2.1;omega) x y;generalize vz L=nb at *;generalize decide (ko L=(mI (aL L) L.length L.length).map aC)=u at *;generalize (mI (aL L) L.length L.length).map aC=A at *;clear h s;go_enter Tryz.func133,Tryz.ntmps133;go_wp2_with fail
 refine Q.o.af ?_;rintro e D ⟨i,⟨g,G,rfl,z,b⟩ |⟨g,v,rfl⟩⟩
 ·have p:=hid (O.o g G);have E:=hid (I.o g G);rw[g] at d;have j:=hid b;have H:=hid i;clear b i O I;go_wp2_with fail
  refine(p.o _ j.o).af ?_;rintro e F ⟨rfl,t,m⟩;have k:=hid (j.o.aa m j.o.lt);have K:=hid t;have q:=hid (H.o.trans (m.af H.o.size));clear t m p;go_wp2_with fail
  refine(E.o _ _ k.o K.o).af ?_;rintro e J ⟨rfl,n⟩;have Y:=hid (k.o.aa n k.o.lt);have r:=hid (q.o.trans (n.af q.o.size));clear n E;cases u
  ·go_wp2;go_ret2;exact⟨r.o,.inr ⟨d.o,rfl⟩⟩
  ·go_wp2;go_ret2;exact⟨r.o,.inl ⟨d.o,G,rfl,z,Y.o⟩⟩
 ·rw[g] at d;have H:=hid i;clear i O I g;go_wp2;go_ret2;exact⟨H.o,.inr ⟨d.o,rfl⟩⟩
theorem zi.cells {B:Nat} {v:Value} {l:List Nat} (h:zi w B v l):∃d cd,v=.slice d l.length cd/\∀k (f:k<l.length),∃g o,d=some ⟨g,o,none⟩/\g<w.heap.size/\w.cell? ⟨g,o+k,none⟩=some (.int .u32 (l[k]:Nat)):=by
 rcases h.2 with ⟨a,b⟩ |⟨g,cap,r,a,b,c,n,p,q,i⟩
 ·have:l=[]:=D8.1 b;subst this;exact⟨none,0,a,fun k f=>absurd f aE⟩
 ·refine⟨_,_,a,fun j m=>⟨g,0,rfl,(dS.1 c).1,?_⟩⟩;rw[bM,bZ w g j _ _ (0,0) c]
  have e:r[j]? =(r.toList.take (l.length*1))[j]?:=by
   rw[r7,aA al,vr]
  rw[e,i,pL,List.getElem?_eq_getElem m];rfl
def FlR (L:List (List Int)) (e:Ending) (w':World):Prop:=
 (vz L=true/\∃d cd G,e=.returned (.tuple #[.slice d L.length cd,.slice (some ⟨G,0,none⟩) L.length L.length,.int .i64 0])/\az w' d (iL (bF (aL L) L.length L.length).ord)/\fN w' (some ⟨G,0,none⟩) ((bF (aL L) L.length L.length).bag.map im))∨
 (vz L=false/\e=.returned (.tuple #[.slice none 0 0,.slice none 0 0,.int .i64 11]))
theorem anO (a:Option Addr) (ca:Nat) (L:List (List Int)) (w:World) (h:fN w a L) (F:∀l∈L,l.length<=140737488355328):
  c6 89 #[.slice a L.length ca] w fun e w'=>FlR L e w'/\c8 w w':=by
 have Ss:=hid (aiI a ca L w h F)
 have I:Hid (vz L=true ->∀(G:Nat) (U:World),cS U G (ko L) ->c6 134 #[.slice (some ⟨G,0,none⟩) L.length L.length] U fun e w'=>∃nv bv,e=.returned (.tuple #[nv,bv])/\pE U w' G nv bv (iL (bF (aL L) L.length L.length).ord) ((bF (aL L) L.length L.length).bag.map aC) ((bF (aL L) L.length L.length).nei.map aC)):=fun n G U i=>by
  have f:gB L=true:=by
   rw[vz,gX] at n;exact n.1
  rw[Js] at i;exact anJ G L.length L.length (aL L) U (rJ f).1 (rJ f).2.1 i (Jp f)
 have t:Hid (vz L=true ->(bF (aL L) L.length L.length).ord.length=L.length/\(bF (aL L) L.length L.length).bag.length=L.length/\L.length<=8/\∀p∈(bF (aL L) L.length L.length).bag,∀u∈p,u<8):=fun n=>by
  have f:gB L=true:=by
   rw[vz,gX] at n;exact n.1
  have A:=(rJ f).2.1;have r:=(rJ f).1;have b:=fun k=>RA (Jp f) k;refine⟨(b L.length).2.2.1,(b L.length).2.2.2,A,?_⟩
  have ab:∀k,∀p∈(bF (aL L) L.length k).bag,∀u∈p,u<8:=fun k=>by
   induction k with
   |zero=>intro p c;simp[bF] at c
   |succ k ih=>
    intro p c u j;rw[bF] at c;rcases dh.1 c with c |c
    ·exact ih p c u j
    ·rw[dX.1 c] at j;rcases dR.1 j with rfl |j
     ·have:=ae6 (P:=(bF (aL L) L.length k).nei) r (b k).2.1;omega
     ·have:=(b k).1.at _ u j;omega
  exact ab _
 clear h F;go_enter Tryz.func89,Tryz.ntmps89;go_wp2_with fail
 refine Ss.o.af ?_;rintro e w1 ⟨m,⟨n,G,rfl,hG,i⟩ |⟨n,rfl⟩⟩
 ·have V:=hid (I.o n G _ i);obtain⟨ho,Q,A,J⟩:=t.o n;have q:=hid n;have H:=hid m;have Z:=hid J;clear i m I t n J;generalize hS:bF (aL L) L.length L.length=S at *;have v:=hid hS;clear hS;go_wp2_with fail
  refine V.o.af ?_;rintro e K ⟨nv,bv,rfl,X⟩;obtain⟨d,cd,rfl,E⟩:=X.nd.ints;obtain⟨d2,uD,rfl,D⟩:=X.bg.cells;have x:Hid (c8 w K):=⟨X.grow.os.trans H.o.os,X.grow.tape.trans H.o.tape,X.grow.output.trans H.o.output,aR H.o.size X.grow.size,fun k b=>(X.grow.block k (aU b H.o.size) (fun e=>by have:=mW e;omega)).trans (H.o.block k b)⟩;have y:(iL S.ord).length=L.length:=by rw[ba];exact ho
  have z:(S.bag.map aC).length=L.length:=by rw[dD];exact Q
  rw[y,z]
  have M:=hid (adn d2 uD S.bag K Z.o al (fun k b=>by
   obtain⟨g,o,r,h2,h3⟩:=D k (by rw[dD];exact b);exact⟨g,o,r,h2,by rw[h3,om]⟩))
  rw[Q] at M;have Y:=hid E;clear X E D y z;go_wp2_with fail
  refine M.o.af ?_;rintro e w3 ⟨T,rfl,Rk,O,s⟩;have R:=hid (Y.o.aa s);have Oi:=hid O;have df:=hid (x.o.trans (s.af x.o.size));clear s O;go_wp2;refine bD (results_tmp3 rfl _ _ _) rfl ?_;exact⟨.inl ⟨q.o,d,cd,T,rfl,by rw[v.o];exact R.o,by rw[v.o];exact Oi.o⟩,df.o⟩
 ·have q:=hid n;have H:=hid m;clear n m;go_wp2;refine bD (results_tmp3 rfl _ _ _) rfl ?_;exact⟨.inr ⟨q.o,rfl⟩,H.o⟩
variable {xs:List Value} {n:Nat} {w':World}
def Dg (t:TypeId) (w w':World):Prop:=∀(k:Nat) (c:Array Value) (fr:Nat×Nat),w.heap[k]? =some (Obj.cells c t fr) ->w'.heap[k]? =some (Obj.cells c t fr)
theorem Dg.aa {t:TypeId} (b:c8 w w'):Dg t w w':=fun k _ _ h=>(b.block k (dS.1 h).1).trans h
theorem Jk {B:Nat} {e:TypeId} {s:Nat} {v:Value} (h:w.ownsRow B e s v n xs) (k:Dg e w w'):w'.ownsRow B e s v n xs:=by
 refine⟨h.1,?_⟩;rcases h.2 with a |⟨g,cap,r,a,b,c,d⟩
 ·exact .inl a
 ·exact .inr ⟨g,cap,r,a,b,k _ _ _ c,d⟩
abbrev PK:Type:=Nat×Nat×Value×List Int
variable {l:List Int}
theorem al5 {k:Int}:gJ k l=true↔k∈l:=by simp[gJ]
theorem adA {x:Int} (c:0<=x) (b:∀y∈l,0<=y):gJ x l=decide (x.toNat∈ag l):=by
 rw[td,eR,al5];constructor
 ·intro h;exact bc.2 ⟨x,h,rfl⟩
 ·intro h;obtain⟨y,a,e⟩:=bc.1 h;have:=b y a;obtain rfl:y=x:=al
  exact a
theorem al6 (l:List Nat) {x:Int} (h:0<=x):gJ x (iL l)=decide (x.toNat∈l):=by
 rw[adA h fun y a=>by obtain⟨z,_,rfl⟩:=bc.1 a;omega,eM]
theorem abv (h:dY l n=true):∀y∈l,0<=y:=fun y b=>by
 obtain⟨i,a,rfl⟩:=ij b;exact((Cm h).each i a).1
theorem anR (h:i<L.length) (e:dY L[i] L.length=false):gB L=false:=by rw[gB,afY h e];simp
theorem anQ (h:i<L.length) (e:i∈ag L[i]):gB L=false:=by rw[gB,UO h e];simp
theorem aeO (h1:1<=L.length) (b:L.length<=8) (h:∀i (a:i<L.length),dY L[i] L.length=true/\¬i∈ag L[i]):gB L=true:=by
 rw[gB,cY (p:=1<=L.length/\L.length<=8) ⟨h1,b⟩,acY fun i a=>(h i a).2]
 have:uF L L.length=true:=gW.2 fun l c=>by
  obtain⟨i,a,rfl⟩:=ij c;exact(h i a).1
 rw[this];rfl
theorem ai6 (a:Option Addr) (ca:Nat) (L:List (List Int)) (w:World) (h:fN w a L) (A:∀l∈L,l.length<=140737488355328) (Z:L.length<=140737488355328):
  c6 222 #[.slice a L.length ca] w (da w (.bool (gB L))):=by
 have F:=hid h;have D:=hid A;have r:Hid (¬(1<=L.length/\L.length<=8) ->gB L=false):=fun h=>by rw[gB,cK h];rfl
 have R:=hid (fun i h e=>anR (L:=L) (i:=i) h e);have S:=hid (fun i h e=>anQ (L:=L) (i:=i) h e);have Y:=hid (fun d f h=>aeO (L:=L) d f h);generalize gB L=X at *;clear h A;by_cases d:1<=L.length
 ·by_cases u:L.length<=8
  ·clear r;(have y:(1:Int)<=(L.length:Int):=al);(have K:(L.length:Int)<=8:=al);go_enter Tryz.func222,Tryz.ntmps222;go_wp2_with fail
   go_loopw [3] (fun iv wr=>∃i:Nat,i<=L.length/\iv=.int .i64 i/\Hid (∀j (h:j<L.length),j< i ->dY L[j] L.length=true/\¬j∈ag L[j])/\Hid (c8 w wr)) (fun iv _=>L.length - (intOf iv).toNat)
   case atStart=>exact⟨0,aS _,rfl,fun j _ h=>absurd h al,aw _ _⟩
   case round=>
    obtain⟨i,hi,rfl,P,H⟩:=hrel;by_cases t:i<L.length
    ·obtain⟨g,o,b,c,rfl,O,v,z⟩:=(F.o.aa H.o) i t;have x:=D.o L[i] (bB t);have I:=hid z;have J:=hid (R.o i t);have U:=hid (S.o i t)
     have Q:Hid (dY L[i] L.length=true ->¬i∈ag L[i] ->∀j (h:j<L.length),j<i+1 ->dY L[j] L.length=true/\¬j∈ag L[j]):=fun h M j k nH=>by
      rcases cF j i with f |f
      ·exact P.o j k f
      ·obtain rfl:j=i:=al
       exact⟨h,M⟩
     clear z;generalize L[i]=l at *;go_wp2_with fail
     refine(abD b c l (L.length:Int) _ I.o x).af ?_;rintro e w1 ⟨rfl,m⟩;have V:=(m.cell (p:=⟨g,o+i,none⟩) O).trans v;have T:=hid (I.o.aa m);have s:=hid (H.o.trans (m.af H.o.size));clear m v I H;go_wp2_with fail
     refine(PQ (i:Nat) b c l _ T.o x).af ?_;rintro e w2 ⟨rfl,rfl⟩;cases hr:dY l L.length with
     |false=>
      have E:=hid (J.o hr);clear hr;generalize gJ (i:Nat) l=q at *;go_wp2;go_ret;exact⟨by rw[E.o];rfl,s.o⟩
     |true=>
      rw[adA al (abv hr),nh];by_cases n:i∈ag l
      ·rw[cY n];have E:=hid (U.o n);clear n hr;go_wp2;go_ret;exact⟨by rw[E.o];rfl,s.o⟩
      ·rw[cK n];have E:=hid (Q.o hr n);clear n hr;go_wp2;go_roundw
       case rel=>exact⟨i+1,al,bd,E,s⟩
       case measure=>simp[intOf];omega
    ·obtain rfl:i=L.length:=al
     have E:=hid (Y.o d u fun j k=>P.o j k k);go_wp2;go_ret;exact⟨by rw[E.o];rfl,H.o⟩
  ·have E:=hid (r.o fun h=>u h.2);(have y:(1:Int)<=(L.length:Int):=al);(have K:(8:Int)<(L.length:Int):=al);clear u;go_enter Tryz.func222,Tryz.ntmps222;go_wp2;go_ret;exact⟨by rw[E.o];rfl,aw _ _⟩
 ·have E:=hid (r.o fun h=>d h.1);have y:(L.length:Int)<1:=al
  clear d;go_enter Tryz.func222,Tryz.ntmps222;go_wp2;go_ret;exact⟨by rw[E.o];rfl,aw _ _⟩
variable {j v:Nat}
def xG (P:List (List Nat)) (out:List Nat) (j:Nat):Option Nat:=(List.range' j (P.length - j)).find? (gz P out)
def aoG:Option Nat ->Int
 |some v=>(v:Int)
 |none=> -1
theorem an5 (P:List (List Nat)) (o:List Nat):xG P o 0=nD P o:=by rw[xG,nD,List.range_eq_range'];rfl
theorem an7 (P:List (List Nat)) (o:List Nat):xG P o P.length=none:=by rw[xG,rZ];rfl
theorem an6 {P:List (List Nat)} {o:List Nat} (h:j<P.length):xG P o j=if gz P o j=true then some j else xG P o (j+1):=by
 rw[xG,xG,show P.length - j=(P.length - (j+1))+1 by omega,List.range'_succ,List.find?_cons];cases gz P o j<;>rfl
def tI (P:List (List Nat)) (out:List Nat) (v i:Nat):Bool:=!decide (v∈out)&&decide (∀u∈(P.getD v []).take i,u∈out)
theorem aoe (P:List (List Nat)) (o:List Nat) (v:Nat):tI P o v 0=!decide (v∈o):=by simp[tI]
theorem aof {P:List (List Nat)} {o p:List Nat} (d:P.getD v []=p) (h:i<p.length):tI P o v (i+1)=(tI P o v i&&decide (p[i]∈o)):=by
 rw[tI,tI,d,fL h,Bool.and_assoc];congr 1
 rw[td,gX,eR,eR,eR];constructor
 ·intro H;exact⟨fun u a=>H u (Te _ a),H _ (List.mem_append_right _ dQ)⟩
 ·rintro⟨b,c⟩ u a;rcases dh.1 a with a |a
  ·exact b u a
  ·rw[dX.1 a];exact c
theorem aog {P:List (List Nat)} {o p:List Nat} (h:P.getD v []=p):tI P o v p.length=gz P o v:=by
 rw[tI,gz,h,fD]
theorem ai0 (a:Option Addr) (ca:Nat) (L:List (List Int)) (w:World) (h:fN w a L) (Q:∀l∈L,l.length<=140737488355328) (hL:L.length<=140737488355328):
  c6 176 #[.slice a L.length ca] w fun e w'=>c8 w w'/\
   ((bH L=0/\∃x,e=.returned (.tuple #[x,.int .i64 0])/\bA w' w.heap.size x (iL (aZ (aL L) L.length)))∨(bH L≠0/\e=.returned (.tuple #[.slice none 0 0,.int .i64 (bH L)]))):=by
 obtain⟨i0,b6,bb,bf,bg⟩:=dW Tryz.infoInt;have D:=hid h;have K:=hid (fun (V:World) (J:fN V a L)=>ai6 a ca L V J Q hL);have HL:=hid Q;have A:Hid (gB L=false ->bH L=11):=fun h=>aB (by rw[h];decide);have Y:Hid (gB L=true ->(aZ (aL L) L.length).length<L.length ->bH L=10):=fun s o=>by rw[bH,aA s,aA o]
 have sQ:Hid (gB L=true ->¬(aZ (aL L) L.length).length<L.length ->bH L=0):=fun s o=>by rw[bH,aA s,aB o]
 have ak:=kW L;have ay:Hid (∀i (h:i<L.length),(aL L).getD i []=ag L[i]):=fun i h=>LD h;have O:Hid (gB L=true ->L.length<=8/\∀i (h:i<L.length),∀y∈L[i],0<=y):=fun h=>⟨(rJ h).2.1,fun i t=>abv (R3 (rJ h).2.2.1 t)⟩;generalize bH L=ge at *;generalize aL L=P at *;clear h Q;cases hgb:gB L with
 |false=>
  have E:=hid (A.o hgb);rw[hgb] at K;clear hgb A Y sQ O;go_enter Tryz.func176,Tryz.ntmps176;go_wp2_with fail
  refine(K.o _ D.o).af ?_;rintro e w1 ⟨rfl,u⟩;go_wp2;go_ret2;exact⟨u,.inr ⟨by rw[E.o];decide,by rw[E.o];rfl⟩⟩
 |true=>
  have eP:=hid (Y.o hgb);have gA:=hid (sQ.o hgb);obtain⟨h8,M⟩:=O.o hgb;have Ig:=hid M;rw[hgb] at K;clear hgb A Y sQ O M;have Oc:Hid (aZ P 0=[]):=rfl;have a1:=hid (Em P);have Bl:Hid (∀k v,nD P (aZ P k)=some v ->aZ P (k+1)=aZ P k++[v]):=fun k v h=>LI h
  have aE:Hid (∀k,k<L.length ->nD P (aZ P k)=none ->(aZ P L.length).length<L.length):=fun k s o=>by
   have:=akn P o al;rwa [ak] at this
  generalize hFF:aZ P=F at *;clear hFF;go_enter Tryz.func176,Tryz.ntmps176;go_wp2_with fail
  refine(K.o _ D.o).af ?_;rintro e w1 ⟨rfl,u⟩;have dN:=hid u;clear u K;go_wp2_with fail
  go_loopw [5] (fun ov wr=>∃k:Nat,k<=L.length/\Hid ((F k).length=k)/\Hid (bA wr w.heap.size ov (iL (F k)))/\Hid (c8 w wr)/\∃d cd,ov=.slice d k cd) (fun ov _=>L.length - (match ov with |.slice _ n _=>n |_=>0))
  case atStart=>exact⟨0,aS _,by rw[Oc.o];rfl,by rw[Oc.o];exact⟨rfl,.inl ⟨rfl,rfl⟩⟩,dN,none,0,rfl⟩
  case round=>
   obtain⟨k,hk,z,R,m,d,cd,rfl⟩:=hrel;clear dN;by_cases aN:k<L.length
   ·have aj:az wr d (iL (F k)):=by
     obtain⟨d',a7,e,t⟩:=R.o.ints;injection e with e1 e2 e3;subst e1;exact t
    have SH:=hid aj;(have b:(iL (F k)).length=k:=by rw[ba,z.o])
    have FH:Hid (∀(x:Int) (V:World),az V d (iL (F k)) ->c6 26 #[.int .i64 x,.slice d k cd] V fun e w'=>e=.returned (.bool (gJ x (iL (F k))))/\w'=V):=fun x V J=>by
     have:=PQ x d cd (iL (F k)) V J al;rwa [b] at this
    have ai:Hid (∀x:Int,0<=x ->gJ x (iL (F k))=decide (x.toNat∈F k)):=fun x hx=>al6 (F k) hx;have aG:=hid (Bl.o k);have Sq:=hid (aE.o k aN);have av:=hid (an5 P (F k));(have Oz:Hid (xG P (F k) L.length=none):=by rw[<- ak];exact an7 P (F k));have Iu:Hid (∀j,j<L.length ->xG P (F k) j=if gz P (F k) j=true then some j else xG P (F k) (j+1)):=fun j hj=>an6 al;clear aj b;go_wp2_with fail
    go_loopw [6,7] (fun nv vv wq=>∃j:Nat,j<=L.length/\vv=.int .i64 ((j:Int) - 1)/\nv=.int .i64 (aoG (xG P (F k) j))/\wq=wr) (fun _ vv _=>(intOf vv+1).toNat)
    case atStart=>exact⟨L.length,ar _,by first |rfl |go_num,by rw[Oz.o];rfl,rfl⟩
    case round=>
     obtain⟨j,hj,rfl,rfl,rfl⟩:=hrel;cases j with
     |zero=>
      rw[av.o];cases QR:nD P (F k) with
      |none=>
       have E:=hid (eP.o (Sq.o QR));clear QR;go_wp2;go_ret2;exact⟨m.o,.inr ⟨by rw[E.o];decide,by rw[E.o];rfl⟩⟩
      |some v=>
       have S:=aG.o v QR;(have Zh:Hid (iL (F (k+1))=iL (F k)++[(v:Int)]):=by show _=_;rw[S,QD];rfl);(have xX:Hid ((F (k+1)).length=k+1):=by show _=_;rw[S,dm,z.o];rfl)
       have aM:Hid ((iL (F k)).length<=8):=by
        show (iL (F k)).length<=8;rw[ba,z.o];omega
       (have a8:(0:Int)<=(v:Int):=al);clear S QR;have nS:=hid R.o.own;have ir:Hid (bA (wr.alloc (.cells #[.int .i64 (v:Nat)] 3)) w.heap.size _ (iL (F k))):=F0 R.o _;have T:=hid (m.o.alloc m.o.size (.cells #[.int .i64 (v:Nat)] 3));have lS:=hid (Cv wr (v:Nat));go_wp2_with (at_builtin;refine wI rfl _ _ rfl w.heap.size _ (iL (F k)) [((v:Nat):Int)] rfl ir.o (some ⟨wr.heap.size,0,none⟩) 1 rfl lS.o (fun e=>by cases e) (by have:=aM.o;simp;omega) T.o.size ?_;intro v' w5 pS yK)
       have f:=pS;rw[<- Zh.o] at f;obtain⟨d5,xJ,rfl,_⟩:=f.ints;(have I:(iL (F (k+1))).length=k+1:=by rw[ba,xX.o]);rw[I];rw[I] at f;have uL:=hid f;have eE:=hid (T.o.grown yK T.o.size nS.o);clear pS f yK I;go_roundw
       case rel=>exact⟨k+1,al,xX,uL,eE,d5,xJ,rfl⟩
       case measure=>show L.length - (k+1)<L.length - k;omega
     |succ j=>
      (have an:(((j+1:Nat):Int) - 1)=(j:Int):=al);rw[an];obtain⟨g,aQ,aO,c,rfl,hg,c0,hI⟩:=(D.o.aa m.o) j al;have cN:=HL.o L[j] (bB al);have ax:=hid (Ig.o j al);have ab:=hid (ay.o j al);have Dx:=hid (ai.o (j:Int) al);have ae:=hid (aoe P (F k) j);have Zi:=hid hI;have ao:=hid (Iu.o j al);have BG:Hid (∀p,P.getD j []=p ->tI P (F k) j p.length=gz P (F k) j):=fun p U=>aog U;have aq:Hid (∀p i (h:i<p.length),P.getD j []=p ->tI P (F k) j (i+1)=(tI P (F k) j i&&decide (p[i]∈F k))):=fun p i h U=>aof U h;generalize L[j]'al=l at *;clear hI an;go_wp2_with fail
      refine(FH.o (j:Int) _ SH.o).af ?_;rintro e w2 ⟨rfl,rfl⟩;rw[Dx.o,nh];have DF:Hid ((!decide (j∈F k))=tI P (F k) j 0):=ae.o.symm;clear Dx ae;generalize decide (j∈F k)=q at *;go_wp2_with fail
      go_loopw [8,9] (fun bv iv wz=>∃i:Nat,i<=l.length/\iv=.int .i64 i/\bv=.bool (tI P (F k) j i)/\wz=w2) (fun _ iv _=>l.length - (intOf iv).toNat)
      case atStart=>exact⟨0,aS _,rfl,by rw[DF.o],rfl⟩
      case round=>
       obtain⟨i,t,rfl,rfl,rfl⟩:=hrel;by_cases b:i<l.length
       ·obtain⟨g',o',rfl,iA,c1⟩:=Zi.o i b;have M:=ax.o l[i] (bB b);have p9:=aq.o (ag l) i (by rw[cV];exact b) ab.o;rw[qj b] at p9;have ad:=hid p9;have mR:=hid (ai.o l[i] M);clear p9;generalize l[i]=x at *;go_wp2_with fail
        refine(FH.o x _ SH.o).af ?_;rintro e w3 ⟨rfl,rfl⟩;rw[mR.o];generalize tA:tI P (F k) j (i+1)=q1 at *;generalize decide (x.toNat∈F k)=q2 at *;generalize tI P (F k) j i=q3 at *;have gR:=hid tA;clear tA;cases q3 with
        |false=>
         have X:q1=false:=ad.o;subst X;go_wp2;go_roundw
         case rel=>exact⟨i+1,al,bd,by rw[gR.o],trivial⟩
         case measure=>simp[intOf];omega
        |true=>
         have X:q1=q2:=ad.o;subst X;go_wp2;go_roundw
         case rel=>exact⟨i+1,al,bd,by rw[gR.o],trivial⟩
         case measure=>simp[intOf];omega
       ·obtain rfl:i=l.length:=al
        have r:=BG.o (ag l) ab.o;rw[cV] at r;rw[r];have H:=ao.o;cases hfb:gz P (F k) j with
        |false=>
         rw[hfb,aB a6] at H;have Z:=hid H;clear H r hfb;go_wp2;go_roundw
         case rel=>exact⟨j,al,by first |rfl |go_num,by rw[Z.o],trivial⟩
         case measure=>simp[intOf]
        |true=>
         rw[hfb,aA rfl] at H;have Z:=hid H;clear H r hfb;go_wp2;go_roundw
         case rel=>exact⟨j,al,by first |rfl |go_num,by rw[Z.o];rfl,trivial⟩
         case measure=>simp[intOf]
   ·obtain rfl:k=L.length:=al
    have E:=hid (gA.o (by rw[z.o];omega));have kF:=R;go_wp2;go_ret2;exact⟨m.o,.inl ⟨E.o,_,rfl,R.o⟩⟩
theorem ajb (a:Option Addr) (ca:Nat) (L:List (List Int)) (w:World) (h:fN w a L) (c:∀l∈L,l.length<=140737488355328) (d:L.length<=140737488355328):
  c6 122 #[.slice a L.length ca] w (da w (.int .i64 (bH L))):=by
 have F:=hid h;have H:=hid (fun (V:World) (f:fN V a L)=>ai0 a ca L V f c d);generalize bH L=ge at *;clear h c;go_enter Tryz.func122,Tryz.ntmps122;go_wp2_with fail
 refine(H.o _ F.o).af ?_;rintro e i ⟨b,⟨rfl,x,rfl,U⟩ |⟨g,rfl⟩⟩
 ·clear U;go_wp2;go_ret;exact⟨rfl,b⟩
 ·clear g;go_wp2;go_ret;exact⟨rfl,b⟩
variable {ops:Array Oper} {rest:List Oper}
theorem agP {o:Oper} {a:Act} {Q:Exit ->Act ->World ->Prop} (S:o.guard=none) (s x:Operand)
  (I:o.op=.call {callee:=.builtin .append,args:= #[s,x],argTypes:= #[22,22]}) (base:Nat) (v:Value) (l:List Int) (f:Int) (J:a.eval s=v) (t:bA w base v l) (g:Nat) (L:a.eval x=.slice (some ⟨g,0,none⟩) 1 1) (H:w.cell? ⟨g,0,none⟩=some (.int .i64 f)) (ae:l.length+1<=100000) (V:base<=w.heap.size)
  (h:∀v' w',bA w' base v' (l++[f]) ->w.grownBy w' v.ownBlock ->(v'.ownBlock=v.ownBlock∨∀k,v'.ownBlock=some k ->w.heap.size<=k) ->wpList Tryz.prog ops Q rest (a.put o.dst v') w'):wpList Tryz.prog ops Q (o::rest) a w:=by
 obtain⟨i,d,p,z,q⟩:=dW Tryz.infoInt
 have n:∀j u,[Value.int .i64 f][j]? =some u ->w.cell? ((⟨g,0,none⟩:Addr).add j)=some u:=fun j u c=>by
  match j,c with
  |0,c=>cases c;exact H
  |j+1,c=>simp at c
 have A:∀u∈[Value.int .i64 f],u.oneCell'=true:=fun u y=>by
  simp only[dR,l8,ye] at y;subst y;rfl
 have T:l.length+1<=maxLen:=by unfold maxLen;omega
 obtain⟨v',w',r,E,F, -⟩:=run_append_own (P:=Tryz.prog) w base 22 o.type 3 i (.int .i64 0) 1 8 Tryz.underlying22 d p z q rfl a6 v l.length _ t ⟨g,0,none⟩ 1 1 [.int .i64 f] rfl n A T al V
 have U:v'.ownBlock=v.ownBlock∨∀k,v'.ownBlock=some k ->w.heap.size<=k:=by
  rcases t.2 with ⟨b,Z⟩ |⟨g',cap,O,b,ab,M,Y,ad,R,aa⟩
  ·right
   have e:=run_append_nil (P:=Tryz.prog) w 22 o.type 3 i (.int .i64 0) Tryz.underlying22 d p ⟨g,0,none⟩ 1 1 [.int .i64 f] (by rw[z];rfl) n a6 a6 (by rw[q];decide);rw[b] at r;rw[r] at e;cases e;intro k m;cases m;exact ar _
  ·rw[b] at r;by_cases X:l.length+1<=cap
   ·left
    have e:=run_append_room (P:=Tryz.prog) w 22 o.type 3 i Tryz.underlying22 d g' l.length cap O M ⟨g,0,none⟩ 1 1 [.int .i64 f] (by rw[z];rfl) n A X (by rw[z,R];simp;omega);rw[r] at e;cases e;rw[b];rfl
   ·right
    have D:=t;rw[b] at D;have e:=run_append_grow (P:=Tryz.prog) w 22 o.type 3 i (.int .i64 0) Tryz.underlying22 d p ⟨g',0,none⟩ l.length cap (l.map (Value.int .i64)) (by rw[z];simp) (World.ownsRow.cells D rfl) ⟨g,0,none⟩ 1 1 [.int .i64 f] (by rw[z];rfl) n al al (OS al (by rw[q];omega));rw[r] at e;cases e;intro k m;cases m;exact ar _
 refine wpList_plain S fun _ K=>?_;unfold Oper.wp execOp;simp only[I,resolve,invoke,builtin,KN,F2,BV,KV,gV,lx,J,L,r];refine K _ _ (h v' w' ?_ F U);rw[bA,dm,fg];exact E
section
attribute [local go_sem] Oper.semAt_some
theorem abn {P:Program} (w:World) (base:Nat) (t y e:TypeId) (i:TypeInfo) (z:Value) (d A:Nat) (o:P.underlying t=some (.slice e)) (g:P.info? e=some i) (r:i.zero=some z) (K:i.size=d) (I:i.bytes=A) (X:z.cells.size=d) (V:0<d)
  (v:Value) (n:Nat) (xs:List Value) (x:w.ownsRow base e d v n xs) (a:Addr) (m c:Nat) (s:List Value) (l:s.length=m*d) (p:∀j u,s[j]? =some u ->w.cell? (a.add j)=some u) (h1:∀u∈s,u.oneCell'=true)
  (H:n+m<=maxLen) (E:(n+m)*A<=140737488355328) (Y:base<=w.heap.size) (R:0<m):
  ∃v' w',(Builtin.append_ #[t,t] y #[v,.slice (some a) m c]).run P w=.ok v' w'/\w'.ownsRow base e d v' (n+m) (xs++s)/\w.grownBy w' v.ownBlock/\(v'.ownBlock=v.ownBlock∨∀k,v'.ownBlock=some k ->w.heap.size<=k):=by
 obtain⟨v',w',h,L,M, -⟩:=run_append_own (P:=P) w base t y e i z d A o g r K I X V v n xs x a m c s l p h1 H E Y;refine⟨v',w',h,L,M,?_⟩;have ab:n+m<=9223372036854775807:=by simp only[maxLen] at H;omega
 subst K;subst I
 rcases x.2 with ⟨f,O⟩ |⟨g',cap,F,f,ad,S,Z,ae,U,aa⟩
 ·right
  have b:=run_append_nil (P:=P) w t y e i z o g r a m c s l p R al (by
   have Q:=E;rw[O,bM] at Q;omega)
  rw[f] at h;rw[h] at b;cases b;intro k q;cases q;exact ar _
 ·rw[f] at h;by_cases J:n+m<=cap
  ·left
   (have T:n*i.size+s.length<=F.size:=by rw[l,U, <- gC];exact j6 _ J);have b:=run_append_room (P:=P) w t y e i o g g' n cap F S a m c s l p h1 J T;rw[h] at b;cases b;rw[f];rfl
  ·right
   have D:=x;rw[f] at D;have b:=run_append_grow (P:=P) w t y e i z o g r ⟨g',0,none⟩ n cap xs D.1 (World.ownsRow.cells D rfl) a m c s l p al al (OS al E);rw[h] at b;cases b;intro k q;cases q;exact ar _
end
def sA (c:Nat):Bool:=decide (97<=c/\c<=122)
def y6 (c:Nat):Bool:=decide (48<=c/\c<=57)
def qi (c:Nat):Bool:=sA c ||y6 c ||decide (c=95)
def q9 (s:ByteArray):Bool:=(s.data.toList.all fun c=>qi c.toNat)&&sA (s.data.toList.headD 0).toNat
def isVar (s:ByteArray):Bool:=s.toList==[118,97,114]
def Gt (s:ByteArray):Bool:=s.toList==[101,108,115,101]
def wS (s:ByteArray):Bool:=decide (s.size<=12)&&!isVar s&&!Gt s&&q9 s
theorem ac7 (c:Nat) (w:World):c6 238 #[.int .u8 (c:Nat)] w fun e w'=>e=.returned (.bool (sA c))/\w'=w:=by
 rw[sA];by_cases a:97<=c
 ·have E:Hid (decide ((c:Int)<=122)=decide (97<=c/\c<=122)):=BS.2 ⟨fun h=>⟨a,al⟩,fun h=>al⟩;have b:(97:Int)<=(c:Int):=al
  go_enter Tryz.func238,Tryz.ntmps238;go_wp2;go_ret;exact⟨by rw[<- E.o];rfl,rfl⟩
 ·have E:Hid (decide (97<=c/\c<=122)=false):=cK fun h=>a h.1;rw[E.o];have b:(c:Int)<97:=al
  clear a;go_enter Tryz.func238,Tryz.ntmps238;go_wp2;go_ret;exact⟨rfl,rfl⟩
theorem ai7 (c:Nat) (w:World):c6 241 #[.int .u8 (c:Nat)] w fun e w'=>e=.returned (.bool (sA c))/\w'=w:=by
 rw[sA];by_cases a:97<=c
 ·have E:Hid (decide ((c:Int)<=122)=decide (97<=c/\c<=122)):=BS.2 ⟨fun h=>⟨a,al⟩,fun h=>al⟩;have b:(97:Int)<=(c:Int):=al
  go_enter Tryz.func241,Tryz.ntmps241;go_wp2;go_ret;exact⟨by rw[<- E.o];rfl,rfl⟩
 ·have E:Hid (decide (97<=c/\c<=122)=false):=cK fun h=>a h.1;rw[E.o];have b:(c:Int)<97:=al
  clear a;go_enter Tryz.func241,Tryz.ntmps241;go_wp2;go_ret;exact⟨rfl,rfl⟩
theorem ak5 (c:Nat) (w:World):c6 248 #[.int .u8 (c:Nat)] w fun e w'=>e=.returned (.bool (y6 c))/\w'=w:=by
 rw[y6];by_cases a:48<=c
 ·have E:Hid (decide ((c:Int)<=57)=decide (48<=c/\c<=57)):=BS.2 ⟨fun h=>⟨a,al⟩,fun h=>al⟩;have b:(48:Int)<=(c:Int):=al
  go_enter Tryz.func248,Tryz.ntmps248;go_wp2;go_ret;exact⟨by rw[<- E.o];rfl,rfl⟩
 ·have E:Hid (decide (48<=c/\c<=57)=false):=cK fun h=>a h.1;rw[E.o];have b:(c:Int)<48:=al
  clear a;go_enter Tryz.func248,Tryz.ntmps248;go_wp2;go_ret;exact⟨rfl,rfl⟩
theorem aje (c:Nat) (w:World):c6 242 #[.int .u8 (c:Nat)] w fun e w'=>e=.returned (.bool (y6 c))/\w'=w:=by
 rw[y6];by_cases a:48<=c
 ·have E:Hid (decide ((c:Int)<=57)=decide (48<=c/\c<=57)):=BS.2 ⟨fun h=>⟨a,al⟩,fun h=>al⟩;have b:(48:Int)<=(c:Int):=al
  go_enter Tryz.func242,Tryz.ntmps242;go_wp2;go_ret;exact⟨by rw[<- E.o];rfl,rfl⟩
 ·have E:Hid (decide (48<=c/\c<=57)=false):=cK fun h=>a h.1;rw[E.o];have b:(c:Int)<48:=al
  clear a;go_enter Tryz.func242,Tryz.ntmps242;go_wp2;go_ret;exact⟨rfl,rfl⟩
theorem ak2 (c:Nat) (w:World):c6 237 #[.int .u8 (c:Nat)] w fun e w'=>e=.returned (.bool (qi c))/\w'=w:=by
 have H:Hid (qi c=(sA c ||y6 c ||decide (c=95))):=rfl;have L:=hid (ac7 c);have F:=hid (ak5 c);generalize qi c=r at *;go_enter Tryz.func237,Tryz.ntmps237;go_wp2_with fail
 refine(L.o _).af ?_;rintro e a ⟨rfl,rfl⟩;cases hl:sA c with
 |true=>
  rw[hl] at H;have E:Hid (r=true):=H.o;clear hl;go_wp2;go_ret;exact⟨by rw[E.o];rfl,rfl⟩
 |false=>
  rw[hl] at H;go_wp2_with fail
  refine(F.o _).af ?_;rintro e b ⟨rfl,rfl⟩;cases hf:y6 c with
  |true=>
   rw[hf] at H;have E:Hid (r=true):=H.o;clear hl hf;go_wp2;go_ret;exact⟨by rw[E.o];rfl,rfl⟩
  |false=>
   rw[hf] at H
   have E:Hid (r=((c:Int)==95)):=by
    show _=_;rw[H.o,Bool.false_or,Bool.false_or,td,eR,sU];omega
   clear hl hf;go_wp2;go_ret;exact⟨by rw[E.o];rfl,rfl⟩
variable {c k:Nat}
theorem aav {s:ByteArray} (h:k<s.size):s.data.toList.take (k+1)=s.data.toList.take k++[s[k]]:=by
 have a:k<s.data.toList.length:=by simpa using h
 rw[fL a];rfl
theorem Z8 {s:ByteArray} (h:k<s.size) (e:qi s[k].toNat=false):q9 s=false:=by
 have m:s[k]∈s.data.toList:=by
  have:s.data.toList[k]'(by simpa using h)=s[k]:=rfl;rw[<- this];exact bB _
 have:(s.data.toList.all fun c=>qi c.toNat)=false:=by
  rw[IV];exact⟨_,m,by rw[e];decide⟩
 rw[q9,this];rfl
theorem aem {s:ByteArray} (h:0<s.size):s.data.toList.headD 0=s[0]:=by
 obtain⟨⟨l⟩⟩:=s;cases l with
 |nil=>exact absurd h a6
 |cons c l=>rfl
theorem Z7 {s:ByteArray} (h:0<s.size) (e:(s.data.toList.take s.size).all (fun c=>qi c.toNat)=true):q9 s=sA s[0].toNat:=by
 have a:s.data.toList.all (fun c=>qi c.toNat)=true:=by
  rwa [jA aE] at e
 rw[q9,a,K0,aem h]
theorem agY (h:sA c=true):qi c=true:=by rw[qi,h];rfl
theorem ak1 (s:ByteArray) (w:World) (q:s.size<=140737488355328):
  c6 209 #[.string s] w fun e w'=>e=.returned (.bool (wS s))/\w'=w:=by
 have H:Hid (wS s=(decide (s.size<=12)&&!isVar s&&!Gt s&&q9 s)):=rfl;have f:=hid (fun k h e=>Z8 (s:=s) (k:=k) h e);have Y:=hid (fun h e=>Z7 (s:=s) h e)
 have g:Hid (s.size=0 ->q9 s=false):=fun h=>by
  have:s.data.toList=[]:=D8.1 (by rw[Ae];exact h);rw[q9,this];rfl
 generalize wS s=nb at *;generalize q9 s=n at *;by_cases a:s.size=0
 ·have E:Hid (nb=false):=by show _=_;rw[H.o,g.o a];simp
  have b:(s.size:Int)<1:=al
  clear a H;go_enter Tryz.func209,Tryz.ntmps209;go_wp2;go_ret;exact⟨by rw[E.o];rfl,rfl⟩
 by_cases x:12<s.size
 ·have E:Hid (nb=false):=by show _=_;rw[H.o,cK (show ¬s.size<=12 by omega)];rfl
  have b:(1:Int)<=(s.size:Int):=al
  have i:(12:Int)<(s.size:Int):=al
  clear a H;go_enter Tryz.func209,Tryz.ntmps209;go_wp2;go_ret;exact⟨by rw[E.o];rfl,rfl⟩
 have b:(1:Int)<=(s.size:Int):=al
 have i:(s.size:Int)<=12:=al
 cases hv:isVar s with
 |true=>
  have E:Hid (nb=false):=by show _=_;rw[H.o,hv];simp
  rw[isVar] at hv;clear H a x;go_enter Tryz.func209,Tryz.ntmps209;go_wp2;go_ret;exact⟨by rw[E.o];rfl,rfl⟩
 |false=>
  cases he:Gt s with
  |true=>
   (have E:Hid (nb=false):=by show _=_;rw[H.o,he];simp);rw[isVar] at hv;rw[Gt] at he;clear H a x;go_enter Tryz.func209,Tryz.ntmps209;go_wp2;go_ret;exact⟨by rw[E.o];rfl,rfl⟩
  |false=>
   (have E:Hid (nb=n):=by show _=_;rw[H.o,hv,he,cY (show s.size<=12 by omega)];simp);rw[isVar] at hv;rw[Gt] at he;(have j:0<s.size:=al);clear H a x;go_enter Tryz.func209,Tryz.ntmps209;go_wp2_with fail
   go_loopw [22] (fun iv wr=>∃k:Nat,k<=s.size/\iv=.int .i64 k/\Hid ((s.data.toList.take k).all (fun c=>qi c.toNat)=true)/\wr=w) (fun iv _=>s.size - (intOf iv).toNat)
   case atStart=>exact⟨0,aS _,rfl,rfl,rfl⟩
   case round=>
    obtain⟨k,p,rfl,A,rfl⟩:=hrel;by_cases l:k<s.size
    ·have d:=hid (f.o k l)
     have T:Hid (qi s[k].toNat=true ->(s.data.toList.take (k+1)).all (fun c=>qi c.toNat)=true):=fun h=>by
      rw[aav l,Pb,A.o];simp[h]
     go_wp2_with fail
     refine(ak2 s[k].toNat _).af ?_;rintro e m ⟨rfl,rfl⟩;cases hw:qi s[k].toNat with
     |false=>
      have F:=hid (d.o hw);clear hw;go_wp2;go_ret;exact⟨by rw[E.o,F.o];rfl,rfl⟩
     |true=>
      have S:=hid (T.o hw);clear hw;go_wp2;go_roundw
      case rel=>exact⟨k+1,al,bd,S,trivial⟩
      case measure=>simp[intOf];omega
    ·obtain rfl:k=s.size:=al
     have F:=hid (Y.o j A.o);go_wp2_with fail
     refine(ac7 s[0].toNat _).af ?_;rintro e m ⟨rfl,rfl⟩;go_wp2;go_ret;exact⟨by rw[E.o,F.o];rfl,rfl⟩
theorem agW {s:ByteArray} (h:0<s.size) (e:sA s[0].toNat=false):q9 s=false:=by rw[q9,aem h,e,Pg]
theorem aiM (s:ByteArray) (w:World) (t:s.size<=140737488355328):
  c6 223 #[.string s] w fun e w'=>e=.returned (.bool (q9 s))/\w'=w:=by
 have g:=hid (fun k h e=>Z8 (s:=s) (k:=k) h e);have n:=hid (fun h e=>agW (s:=s) h e);have Y:=hid (fun h e=>Z7 (s:=s) h e)
 have i:Hid (s.size=0 ->q9 s=false):=fun h=>by
  have:s.data.toList=[]:=D8.1 (by rw[Ae];exact h);rw[q9,this];rfl
 generalize q9 s=z at *;go_enter Tryz.func223,Tryz.ntmps223;go_wp2_with fail
 go_loopw [3] (fun iv wr=>∃k:Nat,k<=s.size/\iv=.int .i64 k/\Hid ((s.data.toList.take k).all (fun c=>qi c.toNat)=true/\(0< k ->∀h:0<s.size,sA s[0].toNat=true))/\wr=w) (fun iv _=>s.size - (intOf iv).toNat)
 case atStart=>exact⟨0,aS _,rfl,⟨rfl,fun h=>absurd h al⟩,rfl⟩
 case round=>
  obtain⟨k,r,rfl,A,rfl⟩:=hrel;by_cases l:k<s.size
  ·have f:=hid (g.o k l)
   have T:Hid (qi s[k].toNat=true ->(0<k∨sA s[k].toNat=true) ->(s.data.toList.take (k+1)).all (fun c=>qi c.toNat)=true/\(0<k+1 ->∀h:0<s.size,sA s[0].toNat=true)):=fun h j=>⟨by
    rw[aav l,Pb,A.o.1]
    simp[h],fun _ a=>j.elim (fun d=>A.o.2 d a) fun d=>by
     by_cases e:k=0
     ·subst e;exact d
     ·exact A.o.2 al a⟩
   have u:Hid (qi s[k].toNat=(sA s[k].toNat ||y6 s[k].toNat ||decide (s[k].toNat=95))):=rfl;go_wp2_with fail
   refine(ai7 s[k].toNat _).af ?_;rintro e v ⟨rfl,rfl⟩;go_wp2_with fail
   refine(aje s[k].toNat _).af ?_;rintro e y ⟨rfl,rfl⟩;cases hl:sA s[k].toNat with
   |true=>
    have H:=hid (T.o (agY hl) (.inr hl));clear hl;generalize y6 s[k].toNat=q at *;go_wp2;go_roundw
    case rel=>exact⟨k+1,al,bd,H,trivial⟩
    case measure=>simp[intOf];omega
   |false=>
    rw[hl] at u;by_cases b:k=0
    ·subst b;have F:=hid (n.o l hl);clear hl;generalize y6 s[0].toNat=q at *;go_wp2;go_ret;exact⟨by rw[F.o];rfl,rfl⟩
    ·have D:((k:Int)==0)=false:=by
      (have:¬(k:Int)=0:=al);simpa using this
     have x:0<k:=al
     cases hf:y6 s[k].toNat with
     |true=>
      rw[hf] at u;have H:=hid (T.o u.o (.inl x));clear hl hf b;go_wp2;go_roundw
      case rel=>exact⟨k+1,al,bd,H,trivial⟩
      case measure=>simp[intOf];omega
     |false=>
      rw[hf] at u;by_cases p:s[k].toNat=95
      ·have H:=hid (T.o (by rw[u.o,p];rfl) (.inl x));(have m:(((s[k].toNat:Nat):Int) !=95)=false:=by rw[p];rfl);clear hl hf b;go_wp2;go_roundw
       case rel=>exact⟨k+1,al,bd,H,trivial⟩
       case measure=>simp[intOf];omega
      ·have F:=hid (f.o (by rw[u.o,cK p];rfl))
       have m:(((s[k].toNat:Nat):Int) !=95)=true:=by
        (have:¬((s[k].toNat:Nat):Int)=95:=al);simpa using this
       clear hl hf b p;go_wp2;go_ret;exact⟨by rw[F.o];rfl,rfl⟩
  ·obtain rfl:k=s.size:=al
   by_cases a:s.size=0
   ·have F:=hid (i.o a)
    have I:Hid (s.toList.isEmpty=true):=by
     have:s.data.toList=[]:=D8.1 (by rw[Ae];exact a);show _=_;rw[toList_data,this];rfl
    clear a l;go_wp2;go_ret;exact⟨by rw[F.o,I.o];rfl,rfl⟩
   ·have F:=hid (Y.o al A.o.1);have L:=hid (A.o.2 al al)
    have I:Hid (s.toList.isEmpty=false):=by
     have:¬s.data.toList=[]:=fun e=>a (by have:=bU List.length e;rwa [Ae] at this);show _=_;rw[toList_data];simpa using this
    clear l;go_wp2;go_ret;exact⟨by rw[F.o,L.o,I.o];rfl,rfl⟩
theorem ai2 (s:ByteArray) (w:World) (h:s.size<=140737488355328):
  c6 177 #[.string s] w fun e w'=>e=.returned (.bool (wS s))/\w'=w:=by
 have H:Hid (wS s=(decide (s.size<=12)&&!isVar s&&!Gt s&&q9 s)):=rfl;have a:=hid (fun V:World=>aiM s V h);generalize wS s=nb at *;generalize q9 s=d at *;cases d with
 |false=>
  have E:Hid (nb=false):=by show _=_;rw[H.o,Pg]
  clear H;go_enter Tryz.func177,Tryz.ntmps177;go_wp2_with fail
  refine(a.o _).af ?_;rintro e b ⟨rfl,rfl⟩;go_wp2;go_ret;exact⟨by rw[E.o];rfl,rfl⟩
 |true=>
  by_cases x:12<s.size
  ·have E:Hid (nb=false):=by show _=_;rw[H.o,cK (show ¬s.size<=12 by omega)];rfl
   (have c:(12:Int)<(s.size:Int):=al);clear H;go_enter Tryz.func177,Tryz.ntmps177;go_wp2_with fail
   refine(a.o _).af ?_;rintro e b ⟨rfl,rfl⟩;go_wp2;go_ret;exact⟨by rw[E.o];rfl,rfl⟩
  have c:(s.size:Int)<=12:=al
  cases hv:isVar s with
  |true=>
   (have E:Hid (nb=false):=by show _=_;rw[H.o,hv];simp);rw[isVar] at hv;(have v:(s.toList !=[118,97,114])=false:=by rw[bne,hv];rfl);clear H x;go_enter Tryz.func177,Tryz.ntmps177;go_wp2_with fail
   refine(a.o _).af ?_;rintro e b ⟨rfl,rfl⟩;go_wp2;go_ret;exact⟨by rw[E.o];rfl,rfl⟩
  |false=>
   (have r:Hid (nb=(s.toList !=[101,108,115,101])):=by show _=_;rw[H.o,hv,cY (show s.size<=12 by omega),Bool.and_true,bne,Gt];simp);rw[isVar] at hv;(have v:(s.toList !=[118,97,114])=true:=by rw[bne,hv];rfl);clear H x;go_enter Tryz.func177,Tryz.ntmps177;go_wp2_with fail
   refine(a.o _).af ?_;rintro e b ⟨rfl,rfl⟩;go_wp2;go_ret;exact⟨by rw[r.o];rfl,rfl⟩
variable {a:Option Addr}
def p6 (w:World) (a:Option Addr) (l:List ByteArray):Prop:=∀k (h:k<l.length),∃g o,a=some ⟨g,o,none⟩/\g<w.heap.size/\w.cell? ⟨g,o+k,none⟩=some (.string l[k])
theorem p6.aa {l:List ByteArray} (h:p6 w a l) (c:c8 w w'):p6 w' a l:=fun k f=>by
 obtain⟨g,o,d,b,e⟩:=h k f;exact⟨g,o,d,aU b c.size,(c.cell (p:=⟨g,o+k,none⟩) b).trans e⟩
theorem p6.take {l:List ByteArray} (h:p6 w a l) (i:Nat):p6 w a (l.take i):=fun k e=>by
 have z:k<l.length:=by rw[eX] at e;omega
 obtain⟨g,o,b,c,d⟩:=h k z;refine⟨g,o,b,c,?_⟩;rw[Ce];exact d
def js (f:Nat ->Int):Nat ->Int
 |0=>0
 |n+1=>if js f n=0 then f n else js f n
theorem xH {f:Nat ->Int}:∀ {n:Nat},(∀j,j< n ->f j=0) ->js f n=0
 |0,_=>rfl
 |n+1,h=>by rw[js,aA (xH fun j a=>h j al),h n al]
theorem Da {f:Nat ->Int} (h:∀j,j< i ->f j=0) (b:f i≠0):∀ {n:Nat},i< n ->js f n=f i
 |0,hn=>al
 |n+1,hn=>by
  rcases cF i n with a |a
  ·rw[js,Da h b a,aB b]
  ·obtain rfl:i=n:=al
   rw[js,aA (xH h)]
theorem Gb {f:Nat ->Int} (h:∀j,j< i ->f j=0) (b:f i=0):∀j,j<i+1 ->f j=0:=fun j c=>by
 rcases cF j i with a |a
 ·exact h j a
 ·obtain rfl:j=i:=al
  exact b
def wU (l:List ByteArray) (v:ByteArray):Bool:=l.any fun x=>decide (x=v)
def tr (l:List ByteArray) (i:Nat):Int:=if wS (l.getD i ⟨#[]⟩)=true then(if wU (l.take i) (l.getD i ⟨#[]⟩)=true then 7 else 0) else 4
def iy (l:List ByteArray):Int:=js (tr l) l.length
theorem Xx {l:List ByteArray} (h:i<l.length):l.getD i ⟨#[]⟩=l[i]:=by rw[List.getD_eq_getElem?_getD,List.getElem?_eq_getElem h];rfl
def qm (l:List ByteArray) (v:ByteArray):Int:=match l.findIdx? (fun x=>decide (x=v)) with
 |some i=>(i:Int)
 |none=> -1
theorem RV {a b:ByteArray}:(a.toList==b.toList)=decide (a=b):=by
 rw[td,sU,eR];constructor
 ·intro h;rw[toList_data,toList_data] at h;obtain⟨⟨x⟩⟩:=a;obtain⟨⟨y⟩⟩:=b;simp only at h;rw[h]
 ·intro h;rw[h]
theorem ab6 {l:List ByteArray} {v:ByteArray} (h:i<l.length) (e:l[i]=v) (n:∀j (a:j<l.length),j< i ->¬l[j]=v):qm l v=i:=by
 have:l.findIdx? (fun x=>decide (x=v))=some i:=ZR.2 ⟨h,cY e,fun j a=>by
  rw[eR];exact n j al a⟩
 rw[qm,this]
theorem ab5 {l:List ByteArray} {v:ByteArray} (n:∀j (h:j<l.length),¬l[j]=v):qm l v= -1:=by
 have:l.findIdx? (fun x=>decide (x=v))=none:=ZT.2 fun x a=>by
  obtain⟨j,h,rfl⟩:=ij a;exact cK (n j h)
 rw[qm,this]
theorem ajK (l:List ByteArray) (v:ByteArray):decide (0<=qm l v)=wU l v:=by
 rw[td,eR,wU,tX,qm];cases e:l.findIdx? (fun x=>decide (x=v)) with
 |some i=>
  obtain⟨h,p,_⟩:=ZR.1 e;exact⟨fun _=>⟨l[i],bB h,p⟩,fun _=>by show (0:Int)<=(i:Int);omega⟩
 |none=>
  have:=ZT.1 e;exact⟨fun h=>by exact absurd (show (0:Int)<= -1 from h) a6,fun ⟨x,a,p⟩=>by rw[this x a] at p;cases p⟩
theorem ajL {l:List ByteArray} (h:i<l.length):decide (qm l l[i]<(i:Int))=wU (l.take i) l[i]:=by
 rw[td,eR,wU,tX]
 have g:∃k,l.findIdx? (fun x=>decide (x=l[i]))=some k:=by
  cases e:l.findIdx? (fun x=>decide (x=l[i])) with
  |some k=>exact⟨k,rfl⟩
  |none=>have:=ZT.1 e l[i] (bB h);simp at this
 obtain⟨k,a⟩:=g;obtain⟨m,b,c⟩:=ZR.1 a;have e:qm l l[i]=k:=by rw[qm,a]
 rw[e];constructor
 ·intro t;have Q:k<i:=al
  refine⟨l[k],?_,b⟩;rw[List.mem_take_iff_getElem];exact⟨k,al,rfl⟩
 ·rintro⟨x,f,p⟩;obtain⟨j,n,rfl⟩:=List.mem_take_iff_getElem.1 f;rcases cF k i with d |d
  ·omega
  ·exact absurd p (c j al)
theorem ah4 (a:Option Addr) (ca:Nat) (l:List ByteArray) (v:ByteArray) (w:World) (h:p6 w a l) (n:l.length<=140737488355328):
  c6 239 #[.slice a l.length ca,.string v] w fun e w'=>e=.returned (.int .i64 (qm l v))/\w'=w:=by
 have F:=hid h;have P:=hid (fun i h e n=>ab6 (l:=l) (v:=v) (i:=i) h e n);have Q:=hid (fun n=>ab5 (l:=l) (v:=v) n);generalize qm l v=r at *;clear h;go_enter Tryz.func239,Tryz.ntmps239;go_wp2_with fail
 go_loopw [8] (fun iv wr=>∃i:Nat,i<=l.length/\iv=.int .i64 i/\Hid (∀j (b:j<l.length),j< i ->¬l[j]=v)/\wr=w) (fun iv _=>l.length - (intOf iv).toNat)
 case atStart=>exact⟨0,aS _,rfl,fun j _ h=>absurd h al,rfl⟩
 case round=>
  obtain⟨i,p,rfl,H,rfl⟩:=hrel;by_cases t:i<l.length
  ·obtain⟨g,o,rfl,m,d⟩:=F.o i t;have q:=hid (fun e=>P.o i t e H.o)
   have k:Hid (¬l[i]=v ->∀j (b:j<l.length),j<i+1 ->¬l[j]=v):=fun h j b s=>by
    rcases cF j i with c |c
    ·exact H.o j b c
    ·obtain rfl:j=i:=al
     exact h
   generalize l[i]=x at *;by_cases e:x=v
   ·have E:=hid (q.o e);subst e;go_wp2;go_ret;exact⟨by rw[E.o];rfl,rfl⟩
   ·have E:=hid (k.o e);(have f:(v.toList==x.toList)=false:=by rw[RV];exact cK fun h=>e h.symm);clear e;go_wp2;go_roundw
    case rel=>exact⟨i+1,al,bd,E,trivial⟩
    case measure=>simp[intOf];omega
  ·obtain rfl:i=l.length:=al
   have E:=hid (Q.o fun j b=>H.o j b b);go_wp2;go_ret;exact⟨by rw[E.o];rfl,rfl⟩
theorem ah6 (a:Option Addr) (ca:Nat) (l:List ByteArray) (v:ByteArray) (w:World) (h:p6 w a l) (n:l.length<=140737488355328):
  c6 210 #[.slice a l.length ca,.string v] w fun e w'=>e=.returned (.bool (wU l v))/\w'=w:=by
 have F:=hid h;have H:=hid (fun (V:World) (b:p6 V a l)=>ah4 a ca l v V b n);have M:=hid (ajK l v);generalize wU l v=m at *;generalize qm l v=r at *;clear h;go_enter Tryz.func210,Tryz.ntmps210;go_wp2_with fail
 refine(H.o _ F.o).af ?_;rintro e c ⟨rfl,rfl⟩;go_wp2;go_ret;exact⟨by rw[<- M.o];rfl,rfl⟩
theorem aja (a:Option Addr) (ca:Nat) (l:List ByteArray) (v:ByteArray) (w:World) (h:p6 w a l) (n:l.length<=140737488355328):
  c6 178 #[.slice a l.length ca,.string v] w fun e w'=>e=.returned (.int .i64 (qm l v))/\w'=w:=by
 have F:=hid h;have P:=hid (fun i h e n=>ab6 (l:=l) (v:=v) (i:=i) h e n);have Q:=hid (fun n=>ab5 (l:=l) (v:=v) n);generalize qm l v=r at *;clear h;go_enter Tryz.func178,Tryz.ntmps178;go_wp2_with fail
 go_loopw [5] (fun iv wr=>∃i:Nat,i<=l.length/\iv=.int .i64 i/\Hid (∀j (b:j<l.length),j< i ->¬l[j]=v)/\wr=w) (fun iv _=>l.length - (intOf iv).toNat)
 case atStart=>exact⟨0,aS _,rfl,fun j _ h=>absurd h al,rfl⟩
 case round=>
  obtain⟨i,p,rfl,H,rfl⟩:=hrel;by_cases t:i<l.length
  ·obtain⟨g,o,rfl,m,d⟩:=F.o i t;have q:=hid (fun e=>P.o i t e H.o)
   have k:Hid (¬l[i]=v ->∀j (b:j<l.length),j<i+1 ->¬l[j]=v):=fun h j b s=>by
    rcases cF j i with c |c
    ·exact H.o j b c
    ·obtain rfl:j=i:=al
     exact h
   generalize l[i]=x at *;by_cases e:x=v
   ·have E:=hid (q.o e);subst e;go_wp2;go_ret;exact⟨by rw[E.o];rfl,rfl⟩
   ·have E:=hid (k.o e);(have f:(x.toList==v.toList)=false:=by rw[RV];exact cK fun h=>e h);clear e;go_wp2;go_roundw
    case rel=>exact⟨i+1,al,bd,E,trivial⟩
    case measure=>simp[intOf];omega
  ·obtain rfl:i=l.length:=al
   have E:=hid (Q.o fun j b=>H.o j b b);go_wp2;go_ret;exact⟨by rw[E.o];rfl,rfl⟩
theorem ac4 {l:List ByteArray} (h:i<l.length) (e:wS l[i]=false):tr l i=4:=by rw[tr,Xx h,e,aB a6]
theorem ac6 {l:List ByteArray} (h:i<l.length) (e:wS l[i]=true) (a:wU (l.take i) l[i]=true):tr l i=7:=by rw[tr,Xx h,e,aA rfl,a,aA rfl]
theorem ac5 {l:List ByteArray} (h:i<l.length) (e:wS l[i]=true) (a:wU (l.take i) l[i]=false):tr l i=0:=by rw[tr,Xx h,e,aA rfl,a,aB a6]
theorem afA (a:Option Addr) (ca:Nat) (l:List ByteArray) (w:World) (h:p6 w a l) (R:l.length<=140737488355328) (P:l.length<=ca) (f:∀s∈l,s.size<=140737488355328):
  c6 158 #[.slice a l.length ca] w fun e w'=>e=.returned (.int .i64 (iy l))/\w'=w:=by
 have F:=hid h;have u:=hid f;have A:Hid (∀i,i<l.length ->(∀j,j< i ->tr l j=0) ->∀k,tr l i=k ->k≠0 ->iy l=k):=fun i c z k d J=>by rw[iy,Da z (by rw[d];exact J) c,d]
 have Z:Hid ((∀j,j<l.length ->tr l j=0) ->iy l=0):=fun h=>xH h;have n:=hid (fun i h e=>ac4 (l:=l) (i:=i) h e);have D:=hid (fun i h e b=>ac6 (l:=l) (i:=i) h e b);have O:=hid (fun i h e b=>ac5 (l:=l) (i:=i) h e b);generalize iy l=r at *;clear h f;go_enter Tryz.func158,Tryz.ntmps158;go_wp2_with fail
 go_loopw [7] (fun iv wr=>∃i:Nat,i<=l.length/\iv=.int .i64 i/\Hid (∀j,j< i ->tr l j=0)/\wr=w) (fun iv _=>l.length - (intOf iv).toNat)
 case atStart=>exact⟨0,aS _,rfl,fun j h=>absurd h al,rfl⟩
 case round=>
  obtain⟨i,c,rfl,H,rfl⟩:=hrel;by_cases t:i<l.length
  ·obtain⟨g,o,rfl,Q,M⟩:=F.o i t;have L:=u.o l[i] (bB t);have K:=hid (fun e=>A.o i t H.o 4 (n.o i t e) a6);have q:=hid (fun e b=>A.o i t H.o 7 (D.o i t e b) a6);have p:=hid (fun e b=>Gb H.o (O.o i t e b));have S:=hid (F.o.take i);(have m:(l.take i).length=i:=by rw[eX];omega)
   have I:Hid (∀(v:ByteArray) (V:World),p6 V (some ⟨g,o,none⟩) (l.take i) ->c6 210 #[.slice (some ⟨g,o,none⟩) i ca,.string v] V fun e w'=>e=.returned (.bool (wU (l.take i) v))/\w'=V):=fun v V y=>by
    have:=ah6 (some ⟨g,o,none⟩) ca (l.take i) v V y al;rwa [m] at this
   clear m;generalize l[i]=x at *;go_wp2_with fail
   refine(ak1 x _ L).af ?_;rintro e T ⟨rfl,rfl⟩;cases kd:wS x with
   |false=>
    have E:=hid (K.o kd);clear kd;go_wp2;go_ret;exact⟨by rw[E.o];rfl,rfl⟩
   |true=>
    go_wp2_with fail
    refine(I.o x _ S.o).af ?_;rintro e U ⟨rfl,rfl⟩;cases hm:wU (l.take i) x with
    |true=>
     have E:=hid (q.o kd hm);clear kd hm;go_wp2;go_ret;exact⟨by rw[E.o];rfl,rfl⟩
    |false=>
     have E:=hid (p.o kd hm);clear kd hm;go_wp2;go_roundw
     case rel=>exact⟨i+1,al,bd,E,trivial⟩
     case measure=>simp[intOf];omega
  ·obtain rfl:i=l.length:=al
   have E:=hid (Z.o H.o);go_wp2;go_ret;exact⟨by rw[E.o];rfl,rfl⟩
theorem abH (a:Option Addr) (ca:Nat) (l:List ByteArray) (w:World) (h:p6 w a l) (J:l.length<=140737488355328) (f:∀s∈l,s.size<=140737488355328):
  c6 123 #[.slice a l.length ca] w fun e w'=>e=.returned (.int .i64 (iy l))/\w'=w:=by
 have F:=hid h;have y:=hid f;have A:Hid (∀i,i<l.length ->(∀j,j< i ->tr l j=0) ->∀k,tr l i=k ->k≠0 ->iy l=k):=fun i c L k d M=>by rw[iy,Da L (by rw[d];exact M) c,d]
 have Z:Hid ((∀j,j<l.length ->tr l j=0) ->iy l=0):=fun h=>xH h;have n:=hid (fun i h e=>ac4 (l:=l) (i:=i) h e);have D:=hid (fun i h e b=>ac6 (l:=l) (i:=i) h e b);have O:=hid (fun i h e b=>ac5 (l:=l) (i:=i) h e b);have z:=hid (fun i h=>ajL (l:=l) (i:=i) h);have m:=hid (fun (v:ByteArray) (V:World) (I:p6 V a l)=>aja a ca l v V I J);generalize iy l=r at *;clear h f;go_enter Tryz.func123,Tryz.ntmps123;go_wp2_with fail
 go_loopw [3] (fun iv wr=>∃i:Nat,i<=l.length/\iv=.int .i64 i/\Hid (∀j,j< i ->tr l j=0)/\wr=w) (fun iv _=>l.length - (intOf iv).toNat)
 case atStart=>exact⟨0,aS _,rfl,fun j h=>absurd h al,rfl⟩
 case round=>
  obtain⟨i,c,rfl,H,rfl⟩:=hrel;by_cases t:i<l.length
  ·obtain⟨g,o,rfl,S,R⟩:=F.o i t;have P:=y.o l[i] (bB t);have K:=hid (fun e=>A.o i t H.o 4 (n.o i t e) a6);have u:=hid (fun e b=>A.o i t H.o 7 (D.o i t e b) a6);have p:=hid (fun e b=>Gb H.o (O.o i t e b));have T:=hid (z.o i t);generalize l[i]=x at *;go_wp2_with fail
   refine(ai2 x _ P).af ?_;rintro e U ⟨rfl,rfl⟩;cases kd:wS x with
   |false=>
    have E:=hid (K.o kd);clear kd;go_wp2;go_ret;exact⟨by rw[E.o];rfl,rfl⟩
   |true=>
    go_wp2_with fail
    refine(m.o x _ F.o).af ?_;rintro e X ⟨rfl,rfl⟩;cases hm:wU (l.take i) x with
    |true=>
     have E:=hid (u.o kd hm);have Q:qm l x<(i:Int):=tW (T.o.trans hm);clear kd hm;generalize qm l x=q at *;go_wp2;go_ret;exact⟨by rw[E.o];rfl,rfl⟩
    |false=>
     have E:=hid (p.o kd hm)
     have Q:(i:Int)<=qm l x:=by
      have:=of_decide_eq_false (T.o.trans hm);omega
     clear kd hm;generalize qm l x=q at *;go_wp2;go_roundw
     case rel=>exact⟨i+1,al,bd,E,trivial⟩
     case measure=>simp[intOf];omega
  ·obtain rfl:i=l.length:=al
   have E:=hid (Z.o H.o);go_wp2;go_ret;exact⟨by rw[E.o];rfl,rfl⟩
variable {g:Nat} {x y z:Value}
abbrev Vr:Type:=ByteArray×List ByteArray
def uG (w:World) (a:Option Addr) (V:List Vr):Prop:=∀k (h:k<V.length),∃g o b c,a=some ⟨g,o,none⟩/\g<w.heap.size/\w.cell? ⟨g,o+k*2,none⟩=some (.string V[k].1)/\w.cell? ⟨g,o+k*2+1,none⟩=some (.slice b V[k].2.length c)/\p6 w b V[k].2/\V[k].2.length<=c
theorem uG.aa {V:List Vr} (h:uG w a V) (d:c8 w w'):uG w' a V:=fun k n=>by
 obtain⟨g,o,b,c,f,e,i,j,l,m⟩:=h k n;exact⟨g,o,b,c,f,aU e d.size,(d.cell (p:=⟨g,o+k*2,none⟩) e).trans i,(d.cell (p:=⟨g,o+k*2+1,none⟩) e).trans j,l.aa d,m⟩
abbrev NC (x y z:Value):Obj:=.cells #[x,y,z] 29
abbrev VC (x y:Value):Obj:=.cells #[x,y] 44
def cT (w:World) (g:Nat) (x y z:Value):Prop:=w.heap[g]? =some (.cells #[x,y,z] 29 (0,0))
theorem cT.at (h:w.heap.size=g) (x y z:Value):cT (w.alloc (NC x y z)) g x y z:=by subst h;exact jg w _
theorem cT.lt (h:cT w g x y z):g<w.heap.size:=(dS.1 h).1
theorem cT.aa {b:Nat} (h:cT w g x y z) (a:Below b w w') (c:g<b):cT w' g x y z:=(a.block g c).trans h
theorem cT.cells (h:cT w g x y z):w.cell? ⟨g,0,none⟩=some x/\w.cell? ⟨g,1,none⟩=some y/\w.cell? ⟨g,2,none⟩=some z:=by
 refine⟨?_,?_,?_⟩<;>(rw[bZ w g _ _ _ (0,0) h];rfl)
theorem IX (w:World) (x y:Value):(w.alloc (VC x y)).cell? ⟨w.heap.size,0,none⟩=some x/\(w.alloc (VC x y)).cell? ⟨w.heap.size,1,none⟩=some y:=by
 have h:(w.alloc (VC x y)).heap[w.heap.size]? =some (.cells #[x,y] 44 (0,0)):=jg w _;exact⟨by rw[bZ _ _ _ _ _ (0,0) h];rfl,by rw[bZ _ _ _ _ _ (0,0) h];rfl⟩
def ah (V:List Vr):List Nat:=V.map fun x=>x.2.length
theorem ix (V:List Vr):(ah V).length=V.length:=by simp[ah]
theorem Eh {V:List Vr} (h:i<V.length):(ah V)[i]? =some V[i].2.length:=by simp[ah,h]
theorem Qr (a b c:Option Addr) (ca cb cc n m:Nat) (V:List Vr) (w:World) (h:uG w a V) (hV:V.length<=5000):
  c6 40 #[.agg #[.slice a V.length ca,.slice b n cb,.slice c m cc]] w fun e w'=>∃G,e=.returned (.slice (some ⟨G,0,none⟩) V.length V.length)/\w.heap.size<=G/\cC w' G (ah V)/\c8 w w':=by
 obtain⟨i0,b6,ab,ad,ae⟩:=dW Tryz.infoInt;have P:=hid h;have U:Hid (∀i (h:i<V.length),(ah V)[i]? =some V[i].2.length):=fun i h=>Eh h;have y:=ix V;generalize ah V=ds at *;clear h;have o:=cT.at (w:=w) rfl (.slice a V.length ca) (.slice b n cb) (.slice c m cc);have r:=(aw _ w).alloc (ar _) (NC (.slice a V.length ca) (.slice b n cb) (.slice c m cc));obtain⟨l, -, -⟩:=o.cells;have Y:=o.lt;go_enter Tryz.func40,Tryz.ntmps40;go_upto_region 1 with fail
 generalize (w.alloc (NC (.slice a V.length ca) (.slice b n cb) (.slice c m cc)))=d at *
 go_wp2_with (first
  |(at_make;refine nY _ rfl _ _ 22 rfl d.heap.size 3 i0 (.int .i64 0) 1 Tryz.underlying22 b6 ab ad .i64 .i64 _ _ V.length rfl rfl bd bd (by rw[ae];omega) (by unfold maxLen;omega) (ar _) ?_;intro q L M;have s:c8 d q:=(aw _ d).grown M (ar _) (fun k e=>by cases e);have Z:=(o.aa s Y).cells.1;clear l))
 have t:=qP L;rw[CA] at t;have I:Hid (cC q d.heap.size (List.replicate V.length 0)):=t;have u:Hid (c8 w q):=r.trans (s.af r.size);have D:=r.size;clear L M t s Z;go_loopw [13] (fun iv wr=>∃i:Nat,i<=V.length/\iv=.int .i64 i/\Hid (cC wr d.heap.size (lB ds i))/\Hid (c8 w wr)) (fun iv _=>V.length - (intOf iv).toNat)
 case atStart=>exact⟨0,aS _,rfl,by rw[P9,y];exact I,u⟩
 case round=>
  obtain⟨i,hi,rfl,R,H⟩:=hrel;clear I u;by_cases K:i<V.length
  ·obtain⟨g,ai,x,A,rfl,hg,l,c1, -, -⟩:=(P.o.aa H.o) i K;obtain⟨J,E⟩:=mZ.1 (U.o i K);have Q:=hid (Qa ds J);rw[E] at Q;generalize V[i]=v at *;obtain⟨F,vs⟩:=v;simp only at l c1 Q;obtain⟨d0,d1⟩:=IX wr (.string F) (.slice x vs.length A);have j:=(aw _ wr).alloc (ar _) (VC (.string F) (.slice x vs.length A));have f:=R.o.aa j R.o.lt;have k0:=f.cell i (by rw[Cu _ al];omega);have f0:=f.fz i;have S:=f.set i vs.length;rw[Q.o] at S;have X:=hid S;have O:=hid ((H.o.trans (j.af H.o.size)).setCell (p:=⟨d.heap.size,i,none⟩) D (.int .i64 (vs.length:Nat)));generalize (lB ds i)[i]'(by rw[Cu _ al];omega)=z at *;clear J E j f S;go_wp2;go_roundw
   case rel=>exact⟨i+1,al,bd,X,O⟩
   case measure=>simp[intOf];omega
  ·obtain rfl:i=V.length:=al
   have T:=R.o;rw[<- y,Qb] at T;have bI:=hid T;clear T;go_wp2;go_ret;exact⟨d.heap.size,rfl,D,bI.o,H.o⟩
variable {V:List Vr}
theorem amc {l:List Nat} {x:Nat} (h:l[i]? =some x):iL (l.take (i+1))=iL (l.take i)++[(x:Int)]:=by
 obtain⟨a,b⟩:=mZ.1 h;rw[fL a,b,QD];rfl
theorem Ub (a b c:Option Addr) (ca cb cc n m:Nat) (V:List Vr) (w:World) (h:uG w a V) (hV:V.length<=5000):
  c6 13 #[.agg #[.slice a V.length ca,.slice b n cb,.slice c m cc]] w fun e w'=>∃x,e=.returned x/\bA w' w.heap.size x (iL (ah V))/\c8 w w':=by
 obtain⟨i0,X,ad,ae,ai⟩:=dW Tryz.infoInt;have F:=hid h;have p:Hid (∀i (h:i<V.length),(ah V)[i]? =some V[i].2.length):=fun i h=>Eh h;have Y:=ix V;generalize ah V=ds at *;clear h;have j:=cT.at (w:=w) rfl (.slice a V.length ca) (.slice b n cb) (.slice c m cc);have A:=hid ((aw _ w).alloc (ar _) (NC (.slice a V.length ca) (.slice b n cb) (.slice c m cc)));go_enter Tryz.func13,Tryz.ntmps13;go_wp2_with fail
 generalize (w.alloc (NC (.slice a V.length ca) (.slice b n cb) (.slice c m cc)))=O at *;have f:=hid j;clear j;go_loopw [3,4] (fun xv iv wr=>∃i:Nat,i<=V.length/\iv=.int .i64 i/\Hid (bA wr (w.heap.size+1) xv (iL (ds.take i)))/\Hid (Below (w.heap.size+1) O wr)) (fun _ iv _=>V.length - (intOf iv).toNat)
 case atStart=>exact⟨0,aS _,rfl,⟨rfl,.inl ⟨rfl,rfl⟩⟩,aw _ _⟩
 case round=>
  obtain⟨i,hi,rfl,R,H⟩:=hrel;have d:=f.o.aa H.o al;obtain⟨c0, -, -⟩:=d.cells;have ab:=f.o.lt;have l:Hid (c8 w wr):=A.o.trans (H.o.af al);by_cases t:i<V.length
  ·obtain⟨g,o,U,Z,rfl,hg, -,s, -, -⟩:=(F.o.aa l.o) i t;have u:=hid (amc (p.o i t))
   have M:Hid ((iL (ds.take i)).length<=5000):=by
    show (iL (ds.take i)).length<=5000;rw[ba,eX];omega
   generalize V[i]=v at *;obtain⟨nm,vs⟩:=v;simp only at s u;have L:=hid R.o.own;have J:Hid (bA (wr.alloc (.cells #[.int .i64 (vs.length:Nat)] 3)) (w.heap.size+1) _ (iL (ds.take i))):=F0 R.o _;have Q:w.heap.size+1<=wr.heap.size:=d.lt;have q:=hid (H.o.alloc Q (.cells #[.int .i64 (vs.length:Nat)] 3));have S:=hid (Cv wr (vs.length:Nat));(have D:w.heap.size+1<=(wr.alloc (.cells #[.int .i64 (vs.length:Nat)] 3)).heap.size:=by simp;omega);clear d;go_wp2_with (at_builtin;refine wI rfl _ _ rfl (w.heap.size+1) _ (iL (ds.take i)) [((vs.length:Nat):Int)] rfl J.o (some ⟨wr.heap.size,0,none⟩) 1 rfl S.o (fun e=>by cases e) (by have:=M.o;simp;omega) D ?_;intro v' w3 r k)
   have K:=hid r;have y:=hid (q.o.grown k D L.o);clear r k;go_roundw
   case rel=>exact⟨i+1,al,bd,by rw[u.o];exact K,y⟩
   case measure=>simp[intOf];omega
  ·obtain rfl:i=V.length:=al
   have T:=R.o;rw[jA al] at T;have I:=hid (show bA wr w.heap.size _ (iL ds) from ⟨T.1,T.2.imp id fun ⟨g,cap,P,z,h2,E⟩=>⟨g,cap,P,z,al,E⟩⟩);clear T d;go_wp2;go_ret;exact⟨_,rfl,I.o,l.o⟩
def p7 (w:World) (g:Nat) (l:List ByteArray):Prop:=w.heap[g]? =some (.cells (l.map Value.string).toArray 9 (0,0))
theorem p7.cell {l:List ByteArray} (h:p7 w g l) (j:Nat) (a:j<l.length):w.cell? ⟨g,j,none⟩=some (.string l[j]):=by
 rw[bZ w g j _ _ (0,0) h];simp[a]
theorem p7.fz {l:List ByteArray} (h:p7 w g l) (j:Nat):w.frozen? ⟨g,j,none⟩=false:=lr w g j _ _ h
theorem p7.lt {l:List ByteArray} (h:p7 w g l):g<w.heap.size:=(dS.1 h).1
theorem p7.aa {b:Nat} {l:List ByteArray} (h:p7 w g l) (a:Below b w w') (c:g<b):p7 w' g l:=(a.block g c).trans h
theorem p7.set {l:List ByteArray} (h:p7 w g l) (j:Nat) (y:ByteArray):p7 (w.setCell ⟨g,j,none⟩ (.string y)) g (l.set j y):=by
 have a:=kM w g j _ _ (.string y) h;rw[p7,a];simp[F8]
theorem p7.st {l:List ByteArray} (h:p7 w g l):p6 w (some ⟨g,0,none⟩) l:=fun k a=>⟨g,0,rfl,h.lt,by rw[bM];exact h.cell k a⟩
theorem alE (n:Nat):(madeCells (Value.string ⟨#[]⟩).cells (n*1)).toList=(List.replicate n (⟨#[]⟩:ByteArray)).map Value.string:=by
 rw[show (Value.string ⟨#[]⟩).cells= #[Value.string ⟨#[]⟩] from rfl,KL,pI,O4]
theorem Tryz.infoStr:(Tryz.prog.info? 9).map (fun i=>(i.zero,i.size,i.bytes))=some (some (.string ⟨#[]⟩),1,16):=ao
def wN (l:List ByteArray) (i:Nat):List ByteArray:=l.take i++List.replicate (l.length - i) ⟨#[]⟩
theorem ajU (l:List ByteArray):wN l 0=List.replicate l.length ⟨#[]⟩:=by simp[wN]
theorem aca (l:List ByteArray) (h:i<=l.length):(wN l i).length=l.length:=by simp[wN];omega
theorem ajW (l:List ByteArray):wN l l.length=l:=by simp[wN]
theorem ajV (l:List ByteArray) (h:i<l.length):(wN l i).set i l[i]=wN l (i+1):=by
 have a:l.length - i=(l.length - (i+1))+1:=al
 have b:(l.take i).length=i:=by rw[eX];omega
 rw[wN,wN,a,KT,F7 _ _ al,b,rZ,F6,fL h,sX];rfl
def fS (V:List Vr):List ByteArray:=V.map fun x=>x.1
theorem UX (V:List Vr):(fS V).length=V.length:=by simp[fS]
theorem ac3 (h:i<V.length):(fS V)[i]? =some V[i].1:=by simp[fS,h]
theorem ak0 (a:Option Addr) (ca:Nat) (V:List Vr) (w:World) (h:uG w a V) (hV:V.length<=5000):
  c6 159 #[.slice a V.length ca] w fun e w'=>∃G,e=.returned (.slice (some ⟨G,0,none⟩) V.length V.length)/\p7 w' G (fS V)/\c8 w w':=by
 obtain⟨O,E,P,Q,U⟩:=dW Tryz.infoStr;have F:=hid h;have y:Hid (∀i (h:i<V.length),(fS V)[i]? =some V[i].1):=fun i h=>ac3 h;have l:=UX V;generalize fS V=ds at *;clear h;go_enter Tryz.func159,Tryz.ntmps159
 go_wp2_with (first
  |(at_make;refine nY _ rfl _ _ 41 rfl w.heap.size 9 O (.string ⟨#[]⟩) 1 Tryz.underlying41 E P Q .i64 .i64 _ _ V.length rfl rfl bd bd (by rw[U];omega) (by unfold maxLen;omega) (ar _) ?_;intro s u x))
 have d:=qP u;rw[alE] at d;have f:Hid (c8 w s):=(aw _ w).grown x (ar _) (fun k e=>by cases e);have I:Hid (p7 s w.heap.size (List.replicate V.length ⟨#[]⟩)):=d;clear u x d;go_wp2_with fail
 go_loopw [11] (fun iv wr=>∃i:Nat,i<=V.length/\iv=.int .i64 i/\Hid (p7 wr w.heap.size (wN ds i))/\Hid (c8 w wr)) (fun iv _=>V.length - (intOf iv).toNat)
 case atStart=>exact⟨0,aS _,rfl,by rw[ajU,l];exact I,f⟩
 case round=>
  obtain⟨i,hi,rfl,R,H⟩:=hrel;clear I f;by_cases t:i<V.length
  ·obtain⟨g,o,j,q,rfl,hg,L,M, -, -⟩:=(F.o.aa H.o) i t;obtain⟨D,r⟩:=mZ.1 (y.o i t);have n:=hid (ajV ds D);rw[r] at n;generalize V[i]=v at *;obtain⟨m,vs⟩:=v;simp only at L M n;obtain⟨X,Y⟩:=IX wr (.string m) (.slice j vs.length q);have c:=(aw _ wr).alloc (ar _) (VC (.string m) (.slice j vs.length q));have b:=R.o.aa c R.o.lt;have k0:=b.cell i (by rw[aca _ al];omega);have Z:=b.fz i;have S:=b.set i m;rw[n.o] at S;have A:=hid S;have J:=hid ((H.o.trans (c.af H.o.size)).setCell (p:=⟨w.heap.size,i,none⟩) (ar _) (.string m));generalize (wN ds i)[i]'(by rw[aca _ al];omega)=z at *;clear D r c b S;go_wp2;go_roundw
   case rel=>exact⟨i+1,al,bd,A,J⟩
   case measure=>simp[intOf];omega
  ·obtain rfl:i=V.length:=al
   have T:=R.o;rw[<- l,ajW] at T;have K:=hid T;clear T;go_wp2;go_ret;exact⟨w.heap.size,rfl,K.o,H.o⟩
def np (V:List Vr) (i:Nat):Int:=if 1<=(V.getD i (⟨#[]⟩,[])).2.length/\(V.getD i (⟨#[]⟩,[])).2.length<=4 then iy (V.getD i (⟨#[]⟩,[])).2 else 2
def jB (V:List Vr):Int:=if iy (fS V)=0 then js (np V) V.length else iy (fS V)
theorem Xw (h:i<V.length):V.getD i (⟨#[]⟩,[])=V[i]:=by rw[List.getD_eq_getElem?_getD,List.getElem?_eq_getElem h];rfl
def VSm (V:List Vr):Prop:=V.length<=5000/\∀x∈V,x.1.size<=5000/\x.2.length<=5000/\∀s∈x.2,s.size<=5000
theorem aah (h:i<V.length) (e:¬(1<=V[i].2.length/\V[i].2.length<=4)):np V i=2:=by rw[np,Xw h,aB e]
theorem aag (h:i<V.length) (e:1<=V[i].2.length/\V[i].2.length<=4):np V i=iy V[i].2:=by rw[np,Xw h,aA e]
theorem apt (a:Option Addr) (ca:Nat) (V:List Vr) (w:World) (h:uG w a V) (r:VSm V):
  c6 114 #[.slice a V.length ca] w (da w (.int .i64 (jB V))):=by
 have M:=hid h;have Kk:=hid r;have hV:=r.1;have I:Hid (iy (fS V)≠0 ->jB V=iy (fS V)):=fun h=>aB h;have P:Hid (iy (fS V)=0 ->jB V=js (np V) V.length):=fun h=>aA h;have ad:=UX V
 have S:Hid (∀s∈fS V,s.size<=140737488355328):=fun s K=>by
  obtain⟨x,hx,rfl⟩:=bc.1 K;have:=(r.2 x hx).1;omega
 have Y:=hid (fun (V':World) (ai:uG V' a V)=>ak0 a ca V V' ai hV)
 have U:Hid (∀(G:Nat) (V':World),p7 V' G (fS V) ->c6 158 #[.slice (some ⟨G,0,none⟩) V.length V.length] V' fun e w'=>e=.returned (.int .i64 (iy (fS V)))/\w'=V'):=fun G V' R=>by
  have:=afA (some ⟨G,0,none⟩) V.length (fS V) V' R.st al al S.o;rwa [ad] at this
 generalize jB V=ve at *;generalize iy (fS V)=ne at *;clear h r ad S;go_enter Tryz.func114,Tryz.ntmps114;go_wp2_with fail
 refine(Y.o _ M.o).af ?_;rintro e w1 ⟨G,rfl,R,ab⟩;have Q:=hid R;have F:=hid ab;clear R ab Y;go_wp2_with fail
 refine(U.o G _ Q.o).af ?_;rintro e w2 ⟨rfl,rfl⟩;by_cases m:ne=0
 ·subst m;have E:=hid (P.o rfl);clear I P U Q;have L:Hid (∀i,i<V.length ->(∀j,j< i ->np V j=0) ->∀k,np V i=k ->k≠0 ->ve=k):=fun i hi hz k b J=>by rw[E.o,Da hz (by rw[b];exact J) hi,b]
  have HZ:Hid ((∀j,j<V.length ->np V j=0) ->ve=0):=fun h=>by rw[E.o];exact xH h
  have HL:=hid (fun i h e=>aah (V:=V) (i:=i) h e);have O:=hid (fun i h e=>aag (V:=V) (i:=i) h e);go_wp2_with fail
  go_loopw [15] (fun iv wr=>∃i:Nat,i<=V.length/\iv=.int .i64 i/\Hid (∀j,j< i ->np V j=0)/\Hid (c8 w wr)) (fun iv _=>V.length - (intOf iv).toNat)
  case atStart=>exact⟨0,aS _,rfl,fun j h=>absurd h al,F⟩
  case round=>
   obtain⟨i,hi,rfl,z,f⟩:=hrel;clear F;by_cases l:i<V.length
   ·obtain⟨g,aj,A,D,rfl,hg,c0,c1,Z,sG⟩:=(M.o.aa f.o) i l;have u:=Kk.o.2 V[i] (bB l);have c:=hid (fun e=>L.o i l z.o 2 (HL.o i l e) a6);have d:=hid (fun e k b J=>L.o i l z.o k ((O.o i l e).trans b) J);have t:=hid (fun e (b:iy V[i].2=0)=>Gb z.o ((O.o i l e).trans b));generalize V[i]=v at *;obtain⟨nm,vs⟩:=v;simp only at c0 c1 Z sG u c d t;obtain⟨d0,d1⟩:=IX wr (.string nm) (.slice A vs.length D);have y:=(aw _ wr).alloc (ar _) (VC (.string nm) (.slice A vs.length D));have T:=hid (f.o.trans (y.af f.o.size));have ae:=hid (Z.aa y);have sL:=hid u.2.2;have i6:=u.2.1;clear y u Z;by_cases n:1<=vs.length
    ·by_cases o:vs.length<=4
     ·have X:(1:Int)<=(vs.length:Int):=al
      (have e2:(vs.length:Int)<=4:=al);have Ig:=hid (d.o ⟨n,o⟩);have Dh:=hid (t.o ⟨n,o⟩);clear c d t;go_wp2_with fail
      refine(afA A D vs _ ae.o al sG (fun s K=>by have:=sL.o s K;omega)).af ?_;rintro e w3 ⟨rfl,rfl⟩;generalize iy vs=q at *;by_cases p:q=0
      ·subst p;have Yx:=hid (Dh.o rfl);go_wp2;go_roundw
       case rel=>exact⟨i+1,al,bd,Yx,T⟩
       case measure=>simp[intOf];omega
      ·have H:=hid (Ig.o q rfl p);(have VW:(q==0)=false:=by simpa using p);clear p;go_wp2;go_ret;exact⟨by rw[H.o];rfl,T.o⟩
     ·have H:=hid (c.o fun h=>o h.2);(have X:(1:Int)<=(vs.length:Int):=al);(have e2:(4:Int)<(vs.length:Int):=al);clear o c d t;go_wp2;go_ret;exact⟨by rw[H.o];rfl,T.o⟩
    ·have H:=hid (c.o fun h=>n h.1);(have X:(vs.length:Int)<1:=al);clear n c d t;go_wp2;go_ret;exact⟨by rw[H.o];rfl,T.o⟩
   ·obtain rfl:i=V.length:=al
    have H:=hid (HZ.o z.o);go_wp2;go_ret;exact⟨by rw[H.o];rfl,f.o⟩
 ·have E:=hid (I.o m);have kd:(ne==0)=false:=by simpa using m
  clear m I P;go_wp2;go_ret;exact⟨by rw[E.o];rfl,F.o⟩
variable {p:Rat}
def gY (l:List Fr):Bool:=(l.all fun f=>decide (¬aW f<0))&&decide (aX l=1)
theorem RM:c5 p 0<0↔p<0:=by
 rw[c5];by_cases h:p<0
 ·rw[aA h];exact⟨fun _=>h,fun _=>a6⟩
 ·rw[aB h];by_cases e:p=0
  ·rw[aA e];exact⟨fun h=>absurd h a6,fun a=>absurd a h⟩
  ·rw[aB e];exact⟨fun h=>absurd h a6,fun a=>absurd a h⟩
theorem aph:(c5 p 1==0)=decide (p=1):=by
 rw[td,sU,eR,c5];by_cases h:p<1
 ·rw[aA h];exact⟨fun h=>absurd h a6,fun e=>by rw[e] at h;exact absurd h a6⟩
 ·rw[aB h];by_cases e:p=1
  ·rw[aA e];exact⟨fun _=>e,fun _=>rfl⟩
  ·rw[aB e];exact⟨fun h=>absurd h a6,fun a=>absurd a e⟩
theorem abq {l:List Fr} (h:i<l.length) (e:aW l[i]<0):gY l=false:=by
 have:(l.all fun f=>decide (¬aW f<0))=false:=by
  rw[IV];exact⟨l[i],bB h,by simpa using e⟩
 rw[gY,this];rfl
theorem abr {l:List Fr} (h:∀i (a:i<l.length),¬aW l[i]<0):gY l=decide (aX l=1):=by
 have:(l.all fun f=>decide (¬aW f<0))=true:=by
  rw[gW];intro f b;obtain⟨i,a,rfl⟩:=ij b;exact cY (h i a)
 rw[gY,this,K0]
theorem abQ:qw 1<=2:=by
 show (B 1).size+(B 1).size<=2;have:=OM;omega
theorem aeS {l:List Fr} (h:i<l.length) (w:fw l<=10000):l[i].2.1.size+l[i].2.2.size<=10000:=by have:=Rw (bB h);omega
theorem alZ (a:Option Addr) (ca:Nat) (l:List Fr) (w:World) (h:cG w a l) (o:fw l<=10000) (hn:l.length<=10000):
  c6 161 #[.slice a l.length ca] w (da w (.bool (gY l))):=by
 have D:=hid h;have HW:=hid o;have I:=hid (fun V:World=>Nc (k:=0) (w:=V) 0 0 rfl a6 (by rfl));have rT:=hid (fun V:World=>Nc (k:=1) (w:=V) 1 1 rfl a6 (by rfl));have S:=hid (fun (V:World) (hV:cG V a l)=>aoy a ca l V hV o hn);have HN:=hid (fun i h e=>abq (l:=l) (i:=i) h e);have HA:=hid (fun h=>abr (l:=l) h)
 have Q:Hid (val (aJ (aX l)) (nu (aX l)) (de (aX l))=aX l/\(nu (aX l)).size+(de (aX l)).size<=100000):=⟨gg _,by
  have h1:=M7 (XI l);rw[lC];omega⟩
 have Z:Hid (val (aJ 0) (nu 0) (de 0)=0/\(nu 0).size+(de 0).size<=100000):=⟨gg _,by have:=Jf;rw[lC];omega⟩
 have A:Hid (val (aJ 1) (nu 1) (de 1)=1/\(nu 1).size+(de 1).size<=100000):=⟨gg _,by
  have h1:qw 1<=2:=abQ;rw[lC];omega⟩
 generalize gY l=rb at *;clear h o;simp only[C] at I rT S;generalize aJ 0=n at *;generalize nu 0=z at *;generalize de 0=c at *;generalize aJ 1=on at *;generalize nu 1=ox at *;generalize de 1=oy at *;go_enter Tryz.func161,Tryz.ntmps161;go_wp2_with fail
 refine(I.o _).af ?_;rintro e r ⟨rfl,d⟩;have J:=hid (d.alloc d.size (FC n z c));have ab:=hid (aF.new r n z c);have aj:=d.size;clear d;go_wp2_with fail
 generalize (r.alloc (FC n z c))=w2 at *;generalize r.heap.size=B at *;go_loopw [9] (fun iv wr=>∃i:Nat,i<=l.length/\iv=.int .i64 i/\Hid (∀j (b:j<l.length),j< i ->¬aW l[j]<0)/\Hid (aF wr B n z c)/\Hid (c8 w wr)) (fun iv _=>l.length - (intOf iv).toNat)
 case atStart=>exact⟨0,aS _,rfl,fun j _ h=>absurd h al,ab,J⟩
 case round=>
  obtain⟨i,hi,rfl,P,X,H⟩:=hrel;clear ab J;by_cases u:i<l.length
  ·obtain⟨g,ai,rfl,hg,c0,c1,c2⟩:=(D.o.aa H.o) i u;have gm:=aeS u HW.o;have kH:=hid (HN.o i u)
   have qT:Hid (¬aW l[i]< 0 ->∀j (b:j<l.length),j<i+1 ->¬aW l[j]<0):=fun h j b nH=>by
    rcases cF j i with U |U
    ·exact P.o j b U
    ·obtain rfl:j=i:=al
     exact h
   generalize l[i]=f at *;obtain⟨fn,x,y⟩:=f;simp only at c0 c1 c2 gm;have m:=(aw _ wr).alloc (ar _) (FC fn x y);obtain⟨k0,k1,k2, -⟩:=(aF.new wr fn x y).facts;have O:=X.o.aa m X.o.lt;obtain⟨z0,z1,z2, -⟩:=O.facts;have Y:=hid O;have T:=hid (H.o.trans (m.af H.o.size));clear m O;go_wp2_with fail
   generalize (wr.alloc (FC fn x y))=w3 at *;refine(RD (w:=w3) (c5 (val fn x y) 0) rfl Z.o.1 rfl al Z.o.2).af ?_;rintro e w4 ⟨rfl,t⟩;have Dj:=hid (Y.o.aa t Y.o.lt);have R:=hid (T.o.trans (t.af T.o.size));clear k0 k1 k2 z0 z1 z2 t;by_cases v:val fn x y<0
   ·have E:=hid (kH.o v);have hc:c5 (val fn x y) 0<0:=RM.2 v;clear v;generalize c5 (val fn x y) 0=q at *;go_wp2;go_ret;exact⟨by rw[E.o];rfl,R.o⟩
   ·have E:=hid (qT.o v)
    have hc:0<=c5 (val fn x y) 0:=by
     have:¬c5 (val fn x y) 0<0:=fun h=>v (RM.1 h);omega
    clear v;generalize c5 (val fn x y) 0=q at *;go_wp2;go_roundw
    case rel=>exact⟨i+1,al,bd,E,Dj,R⟩
    case measure=>simp[intOf];omega
  ·obtain rfl:i=l.length:=al
   have E:=hid (HA.o fun j b=>P.o j b b);have Zy:=hid (aph (p:=aX l));generalize aX l=s at *;go_wp2_with fail
   refine(S.o _ (D.o.aa H.o)).af ?_;rintro e w5 ⟨rfl,ad⟩;have M:=hid (H.o.trans (ad.af H.o.size));clear ad;go_wp2_with fail
   refine(rT.o _).af ?_;rintro e w6 ⟨rfl,K⟩;have F:=hid (M.o.trans (K.af M.o.size));clear K;go_wp2_with fail
   refine(RD (w:=w6) (c5 s 1) Q.o.1 A.o.1 rfl Q.o.2 A.o.2).af ?_;rintro e w7 ⟨rfl,L⟩;have ae:=hid (F.o.trans (L.af F.o.size));clear L;go_wp2;go_ret;exact⟨by rw[E.o, <- Zy.o];rfl,ae.o⟩
theorem akx {α:Type} {s:Rat} {T F:α}:(if aJ s=aJ 1 then if (nu s).toList=(nu 1).toList then if (de s).toList=(de 1).toList then T else F else F else F)=if s=1 then T else F:=by
 by_cases h:s=1
 ·subst h;simp
 ·rw[aB h];by_cases a:aJ s=aJ 1
  ·by_cases b:(nu s).toList=(nu 1).toList
   ·by_cases c:(de s).toList=(de 1).toList
    ·exfalso
     apply h;have e:nu s=nu 1:=tW (RV.symm.trans (sU.2 b));have d:de s=de 1:=tW (RV.symm.trans (sU.2 c));rw[<- gg s,a,e,d,gg]
    ·rw[aA a,aA b,aB c]
   ·rw[aA a,aB b]
  ·rw[aB a]
theorem Lt (w:World):c6 33 #[.int .i64 0] w (da w (.agg #[.bool (aJ 0),.string (nu 0),.string (de 0)])):=by
 have:=Lu 0 w al al;exact this
theorem abF (w:World):c6 33 #[.int .i64 1] w (da w (.agg #[.bool (aJ 1),.string (nu 1),.string (de 1)])):=by
 have:=Lu 1 w al al;exact this
theorem apy (a:Option Addr) (ca:Nat) (l:List Fr) (w:World) (h:cG w a l) (J:fw l<=10000) (hn:l.length<=10000):
  c6 124 #[.slice a l.length ca] w (da w (.bool (gY l))):=by
 have M:=hid h;have HW:=hid J;have HO:=hid Lt;have rT:=hid abF;have HS:Hid (∀V:World,cG V a l ->c6 87 #[.slice a l.length ca] V fun e w'=>e=.returned (.agg #[.bool (aJ (aX l)),.string (nu (aX l)),.string (de (aX l))])/\c8 V w'):=fun V hV=>aiS a ca l V hV J hn;have Y:=hid (fun i h e=>abq (l:=l) (i:=i) h e);have X:=hid (fun h=>abr (l:=l) h);have Z:Hid (val (aJ 0) (nu 0) (de 0)=0/\(nu 0).size+(de 0).size<=50000):=⟨gg _,by have:=Jf;rw[lC];omega⟩;generalize gY l=rb at *;clear h J;go_enter Tryz.func124,Tryz.ntmps124;go_wp2_with fail
 go_loopw [3] (fun iv wr=>∃i:Nat,i<=l.length/\iv=.int .i64 i/\Hid (∀j (n:j<l.length),j< i ->¬aW l[j]<0)/\Hid (c8 w wr)) (fun iv _=>l.length - (intOf iv).toNat)
 case atStart=>exact⟨0,aS _,rfl,fun j _ h=>absurd h al,aw _ _⟩
 case round=>
  obtain⟨i,hi,rfl,P,t⟩:=hrel;by_cases L:i<l.length
  ·obtain⟨g,o,rfl,hg,D,F,I⟩:=(M.o.aa t.o) i L;have gm:=aeS L HW.o;have kH:=hid (Y.o i L)
   have qT:Hid (¬aW l[i]< 0 ->∀j (n:j<l.length),j<i+1 ->¬aW l[j]<0):=fun h j n nH=>by
    rcases cF j i with Q |Q
    ·exact P.o j n Q
    ·obtain rfl:j=i:=al
     exact h
   generalize l[i]=f at *;obtain⟨fn,x,y⟩:=f;simp only at D F I gm;go_upto_region 4 with fail
   refine iu (S:=fun u=>u.cell? ⟨g,o+i*3,none⟩=some (.bool fn)/\u.cell? ⟨g,o+i*3+1,none⟩=some (.string x)/\u.cell? ⟨g,o+i*3+2,none⟩=some (.string y)) ao ⟨D,F,I⟩ (fun c=>?_);have v:g<wr.drew.heap.size:=hg;have U:=hid t.o.drew;clear D F I;generalize wr.drew=u0 at *;refine au 0 (.slice (some ⟨g,o,none⟩) l.length ca) ?_;refine au 1 (.int .i64 (i:Nat)) ?_;refine au 2 (.pointer (some ⟨g,o+i*3,none⟩)) ?_;refine au 3 (.agg #[.bool fn,.string x,.string y]) ?_;refine aI [4] (cA ?_ aH);intro d K;go_simp;refine(HO.o _).af ?_;rintro e u1 ⟨rfl,b⟩;refine K.o _ _ ⟨(b.cell (p:=⟨g,o+i*3,none⟩) v).trans c.1,(b.cell (p:=⟨g,o+i*3+1,none⟩) v).trans c.2.1,(b.cell (p:=⟨g,o+i*3+2,none⟩) v).trans c.2.2⟩ (fun k=>?_);clear K d c;have c:=k;clear k;have v:=aU v b.size;replace U:=hid (U.o.trans (b.af U.o.size));clear b;refine aI [5] (cA ?_ aH);intro d K;go_simp;refine(abN fn (aJ 0) x y (nu 0) (de 0) _ al Z.o.2).af ?_;rintro e u2 ⟨rfl,b⟩;rw[Z.o.1];refine K.o _ _ ⟨(b.cell (p:=⟨g,o+i*3,none⟩) v).trans c.1,(b.cell (p:=⟨g,o+i*3+1,none⟩) v).trans c.2.1,(b.cell (p:=⟨g,o+i*3+2,none⟩) v).trans c.2.2⟩ (fun k=>?_);clear K d c;have c:=k;clear k;have v:=aU v b.size;replace U:=hid (U.o.trans (b.af U.o.size));clear b;refine au 6 (.int .i64 (c5 (val fn x y) 0)) ?_;(try simp only[gE,aP]);refine dC ao ?_ _;clear c v;by_cases r:val fn x y<0
   ·have E:=hid (kH.o r);have hc:c5 (val fn x y) 0<0:=RM.2 r;clear r;generalize c5 (val fn x y) 0=q at *;go_wp2;go_ret;exact⟨by rw[E.o];rfl,U.o⟩
   ·have E:=hid (qT.o r)
    have hc:0<=c5 (val fn x y) 0:=by
     have:¬c5 (val fn x y) 0<0:=fun h=>r (RM.1 h);omega
    clear r;generalize c5 (val fn x y) 0=q at *;go_wp2;go_roundw
    case rel=>exact⟨i+1,al,bd,E,U⟩
    case measure=>simp[intOf];omega
  ·obtain rfl:i=l.length:=al
   have E:=hid (X.o fun j n=>P.o j n n);generalize aX l=s at *;go_wp2_with fail
   refine(HS.o _ (M.o.aa t.o)).af ?_;rintro e z ⟨rfl,R⟩;have O:=hid (t.o.trans (R.af t.o.size));have qY:=hid (aF.new z (aJ s) (nu s) (de s));have bT:=hid (O.o.alloc O.o.size (FC (aJ s) (nu s) (de s)));clear R;go_upto_region 8 with fail
   have H:aF (z.alloc (FC (aJ s) (nu s) (de s))).drew z.heap.size (aJ s) (nu s) (de s):=qY.o;have U:=hid bT.o.drew;generalize z.heap.size=A at *;refine iu (S:=fun u=>u.cell? ⟨A,0,none⟩=some (.bool (aJ s))/\u.cell? ⟨A,1,none⟩=some (.string (nu s))/\u.cell? ⟨A,2,none⟩=some (.string (de s))) ao ⟨H.c0,H.c1,H.c2⟩ (fun c=>?_);generalize (z.alloc (FC (aJ s) (nu s) (de s))).drew=u0 at *;refine au 0 (.agg #[.bool (aJ s),.string (nu s),.string (de s)]) ?_;refine aI [1] (cA ?_ aH);intro d K;go_simp;refine(rT.o _).af ?_;rintro e u1 ⟨rfl,b⟩;replace H:=H.aa b H.lt;clear c;refine K.o _ _ ⟨H.c0,H.c1,H.c2⟩ (fun c=>?_);clear K d;replace U:=hid (U.o.trans (b.af U.o.size));clear b;refine aI [2] (cA ?_ aH);intro d K;go_simp;rw[akx];by_cases m:s=1
   ·rw[aA m];go_simp;refine K.o _ _ ⟨H.c0,H.c1,H.c2⟩ (fun k=>?_);clear K d k;have T:Hid (decide (s=1)=true):=cY m;clear m;refine au 3 (.bool true) ?_;(try simp only[gE,aP]);refine dC ao ?_ _;go_wp2;go_ret;exact⟨by rw[E.o,T.o];rfl,U.o⟩
   ·rw[aB m];go_simp;refine K.o _ _ ⟨H.c0,H.c1,H.c2⟩ (fun k=>?_);clear K d k;have T:Hid (decide (s=1)=false):=cK m;clear m;refine au 3 (.bool false) ?_;(try simp only[gE,aP]);refine dC ao ?_ _;go_wp2;go_ret;exact⟨by rw[E.o,T.o];rfl,U.o⟩
theorem aom (t i v:Nat) (c:Option Addr) (cc:Nat) (lb:Array Value) (l:List Fr) (k val P:Nat) (z:P<l.length) (w:World) (R:t<w.heap.size) (I:w.cell? ⟨t,1,none⟩=some (.slice c l.length cc)) (O:i<w.heap.size) (J:w.cell? ⟨i,0,none⟩=some (.func (.func 188) #[] lb)) (X:v<w.heap.size) (L:w.cell? ⟨v,0,none⟩=some (.int .i64 (val:Nat))) (E:cG w c l) (h1:Cw 100000 l)
  (D:∀V,c8 w V ->c6 188 (#[.int .i64 (k:Nat),.int .i64 (val:Nat)]++lb) V fun e w'=>e=.returned (.int .i64 (P:Nat))/\c8 V w'):
  c6 143 #[.int .i64 (k:Nat),.pointer (some ⟨t,0,none⟩),.pointer (some ⟨i,0,none⟩),.pointer (some ⟨v,0,none⟩)] w (da w (dM (qF (aW (bG l P))))):=by
 obtain⟨g,o,rfl,A,m,n,s⟩:=E P z;have T:=h1 P z;rw[<- qM z] at m n s;have Q:=hid D;have H:=hid (fun V:World=>SY (w:=V) (aW (bG l P)) rfl (show (bG l P).2.1.size+(bG l P).2.2.size<=100000 by omega));rw[M3];generalize aW (bG l P)=r at *;clear E D h1 T;generalize bG l P=f at *;obtain⟨fn,x,y⟩:=f;simp only at m n s H;have b:aF (w.alloc (FC false ⟨#[]⟩ ⟨#[]⟩)) w.heap.size false ⟨#[]⟩ ⟨#[]⟩:=aF.new w _ _ _;have a:c8 w (w.alloc (FC false ⟨#[]⟩ ⟨#[]⟩)):=(aw _ w).alloc (ar _) _;go_enter Tryz.func143,Tryz.ntmps143;go_upto_region 1 with fail
 generalize (w.alloc (FC false ⟨#[]⟩ ⟨#[]⟩))=W at *;replace b:=b.drew;replace a:=a.drew;have M:∀u,c8 w u ->u.cell? ⟨t,1,none⟩=some (.slice (some ⟨g,o,none⟩) l.length cc)/\u.cell? ⟨i,0,none⟩=some (.func (.func 188) #[] lb)/\u.cell? ⟨v,0,none⟩=some (.int .i64 (val:Nat))/\u.cell? ⟨g,o+P*3,none⟩=some (.bool fn)/\u.cell? ⟨g,o+P*3+1,none⟩=some (.string x)/\u.cell? ⟨g,o+P*3+2,none⟩=some (.string y):=fun u h=>⟨(h.cell (p:=⟨t,1,none⟩) R).trans I,(h.cell (p:=⟨i,0,none⟩) O).trans J,(h.cell (p:=⟨v,0,none⟩) X).trans L,(h.cell (p:=⟨g,_,none⟩) A).trans m,(h.cell (p:=⟨g,_,none⟩) A).trans n,(h.cell (p:=⟨g,_,none⟩) A).trans s⟩;have HELD:=hid M;clear M m n s I J L;refine iu (S:=fun u=>u.cell? ⟨t,1,none⟩=some (.slice (some ⟨g,o,none⟩) l.length cc)/\u.cell? ⟨i,0,none⟩=some (.func (.func 188) #[] lb)/\u.cell? ⟨v,0,none⟩=some (.int .i64 (val:Nat))/\u.cell? ⟨g,o+P*3,none⟩=some (.bool fn)/\u.cell? ⟨g,o+P*3+1,none⟩=some (.string x)/\u.cell? ⟨g,o+P*3+2,none⟩=some (.string y)) ao (HELD.o _ a) (fun q=>?_);generalize W.drew=u0 at *;refine au 0 (.pointer (some ⟨t,1,none⟩)) ?_;refine au 1 (.slice (some ⟨g,o,none⟩) l.length cc) ?_;refine au 2 (.func (.func 188) #[] lb) ?_;refine au 3 (.int .i64 (k:Nat)) ?_;refine au 4 (.int .i64 (val:Nat)) ?_;refine aI [5] (cA ?_ aH);intro j K;go_simp;refine(Q.o _ a).af ?_;rintro e u1 ⟨rfl,d⟩;replace b:=b.aa d b.lt;replace a:=a.trans (d.af a.size)
 clear q;refine K.o _ _ (HELD.o _ a) (fun q=>?_);clear K j d;refine au 6 (.pointer (some ⟨g,o+P*3,none⟩)) ?_;refine au 7 (.agg #[.bool fn,.string x,.string y]) ?_;refine aI [8] (cA ?_ aH);intro j K;go_simp;refine(H.o _).af ?_;rintro e u2 ⟨rfl,d⟩;replace b:=b.aa d b.lt;replace a:=a.trans (d.af a.size);clear q;refine K.o _ _ (HELD.o _ a) (fun q=>?_);clear K j d;try simp only[gE,aP]
 obtain⟨k0,k1,k2,Y,Z,f2⟩:=b.facts;refine aI [9] (cA ?_ aH);intro j K;go_simp;have U:=b.put (aJ r) (nu r) (de r);have F:=bL a (g:=w.heap.size) (ar _) (.bool (aJ r)) (.string (nu r)) (.string (de r));generalize (((u2.setCell ⟨w.heap.size,0,none⟩ (.bool (aJ r))).setCell ⟨w.heap.size,1,none⟩ (.string (nu r))).setCell ⟨w.heap.size,2,none⟩ (.string (de r)))=v9 at *;refine K.o _ _ (HELD.o _ F) (fun _=>dC ao ?_ _);clear K j q;go_wp2;refine bD (U.result rfl _ rfl) rfl ?_;exact⟨rfl,F⟩
theorem akl (t d v:Nat) (c:Option Addr) (cc:Nat) (lb:Array Value) (l:List Fr) (k val P:Nat) (z:P<l.length) (w:World) (Q:t<w.heap.size) (F:w.cell? ⟨t,1,none⟩=some (.slice c l.length cc)) (L:d<w.heap.size) (H:w.cell? ⟨d,0,none⟩=some (.func (.func 188) #[] lb)) (X:v<w.heap.size) (I:w.cell? ⟨v,0,none⟩=some (.int .i64 (k:Nat))) (D:cG w c l)
  (A:∀V,c8 w V ->c6 188 (#[.int .i64 (k:Nat),.int .i64 (val:Nat)]++lb) V fun e w'=>e=.returned (.int .i64 (P:Nat))/\c8 V w'):
  c6 194 #[.int .i64 (val:Nat),.pointer (some ⟨t,0,none⟩),.pointer (some ⟨d,0,none⟩),.pointer (some ⟨v,0,none⟩)] w (da w (dM (bG l P))):=by
 obtain⟨g,o,rfl,s,i,j,m⟩:=D P z;rw[<- qM z] at i j m;have M:=hid A;clear D A;generalize bG l P=f at *;obtain⟨fn,x,y⟩:=f;simp only at i j m;have b:aF (w.alloc (FC false ⟨#[]⟩ ⟨#[]⟩)) w.heap.size false ⟨#[]⟩ ⟨#[]⟩:=aF.new w _ _ _;have a:c8 w (w.alloc (FC false ⟨#[]⟩ ⟨#[]⟩)):=(aw _ w).alloc (ar _) _;go_enter Tryz.func194,Tryz.ntmps194;go_upto_region 1 with fail
 generalize (w.alloc (FC false ⟨#[]⟩ ⟨#[]⟩))=W at *;replace b:=b.drew;replace a:=a.drew;have J:∀u,c8 w u ->u.cell? ⟨t,1,none⟩=some (.slice (some ⟨g,o,none⟩) l.length cc)/\u.cell? ⟨d,0,none⟩=some (.func (.func 188) #[] lb)/\u.cell? ⟨v,0,none⟩=some (.int .i64 (k:Nat))/\u.cell? ⟨g,o+P*3,none⟩=some (.bool fn)/\u.cell? ⟨g,o+P*3+1,none⟩=some (.string x)/\u.cell? ⟨g,o+P*3+2,none⟩=some (.string y):=fun u h=>⟨(h.cell (p:=⟨t,1,none⟩) Q).trans F,(h.cell (p:=⟨d,0,none⟩) L).trans H,(h.cell (p:=⟨v,0,none⟩) X).trans I,(h.cell (p:=⟨g,_,none⟩) s).trans i,(h.cell (p:=⟨g,_,none⟩) s).trans j,(h.cell (p:=⟨g,_,none⟩) s).trans m⟩;have HELD:=hid J;clear J i j m F H I;refine iu (S:=fun u=>u.cell? ⟨t,1,none⟩=some (.slice (some ⟨g,o,none⟩) l.length cc)/\u.cell? ⟨d,0,none⟩=some (.func (.func 188) #[] lb)/\u.cell? ⟨v,0,none⟩=some (.int .i64 (k:Nat))/\u.cell? ⟨g,o+P*3,none⟩=some (.bool fn)/\u.cell? ⟨g,o+P*3+1,none⟩=some (.string x)/\u.cell? ⟨g,o+P*3+2,none⟩=some (.string y)) ao (HELD.o _ a) (fun q=>?_);generalize W.drew=u0 at *;refine au 0 (.pointer (some ⟨t,1,none⟩)) ?_;refine au 1 (.slice (some ⟨g,o,none⟩) l.length cc) ?_;refine au 2 (.func (.func 188) #[] lb) ?_;refine au 3 (.int .i64 (k:Nat)) ?_;refine au 4 (.int .i64 (val:Nat)) ?_;refine aI [5] (cA ?_ aH);intro n K;go_simp;refine(M.o _ a).af ?_;rintro e u1 ⟨rfl,r⟩;replace b:=b.aa r b.lt;replace a:=a.trans (r.af a.size)
 clear q;refine K.o _ _ (HELD.o _ a) (fun q=>?_);clear K n r;refine au 6 (.pointer (some ⟨g,o+P*3,none⟩)) ?_;refine au 7 (.agg #[.bool fn,.string x,.string y]) ?_;try simp only[gE,aP]
 obtain⟨Y,Z,k2,R,T,U⟩:=b.facts;refine aI [8] (cA ?_ aH);intro n K;go_simp;have O:=b.put (fn) (x) (y);have E:=bL a (g:=w.heap.size) (ar _) (.bool (fn)) (.string (x)) (.string (y));generalize (((u1.setCell ⟨w.heap.size,0,none⟩ (.bool (fn))).setCell ⟨w.heap.size,1,none⟩ (.string (x))).setCell ⟨w.heap.size,2,none⟩ (.string (y)))=v9 at *;refine K.o _ _ (HELD.o _ E) (fun _=>dC ao ?_ _);clear K n q;go_wp2;refine bD (O.result rfl _ rfl) rfl ?_;exact⟨rfl,E⟩
variable {other:List Int} {K T ca cb cc m:Nat} {V':World}
def NR (w V:World) (T R:Nat) (u v:Value):Prop:=bs V T u v/\bs V R (.slice none 0 0) (.slice none 0 0)/\c8 w V
theorem NR.step {V:World} {R:Nat} {u v:Value} (h:NR w V T R u v) (b:c8 V V'):NR w V' T R u v:=⟨h.1.aa b h.1.lt,h.2.1.aa b h.2.1.lt,h.2.2.trans (b.af h.2.2.size)⟩
theorem NR.off {V:World} {R:Nat} {u v:Value} (h:NR w V T R u v) (B j:Nat) (y:Value) (c:T≠B) (b:R≠B) (a:w.heap.size<=B):NR w (V.setCell ⟨B,j,none⟩ y) T R u v:=⟨h.1.off B j y c,h.2.1.off B j y b,h.2.2.setCell (p:=⟨B,j,none⟩) a y⟩
theorem NR.fin {V:World} {R:Nat} {u v:Value} (h:NR w V T R u v) (c:w.heap.size<=R) {vars:List Int} {b:Option Addr} {l:List Fr} {G:Nat} (J:eV w.heap.size b cb) (g:w.heap.size<=G) (i:az V b vars) (r:kD V G l) (a:G≠R) (x y:Value) (d:x=.slice b vars.length cb) (e:y=.slice (some ⟨G,0,none⟩) l.length cc):
  bs ((V.setCell ⟨R,0,none⟩ x).setCell ⟨R,1,none⟩ y) R x y/\vV w.heap.size vars l 0 (.returned (.tuple #[.agg #[x,y],.int .i64 0])) ((V.setCell ⟨R,0,none⟩ x).setCell ⟨R,1,none⟩ y)/\c8 w ((V.setCell ⟨R,0,none⟩ x).setCell ⟨R,1,none⟩ y):=by
 subst d e;exact⟨h.2.1.put _ _,⟨b,some ⟨G,0,none⟩,cb,cc,rfl,i.putT h.2.1 (slv _ _ _) (slv _ _ _) (slv _ _ _) _,((r.off _ 0 _ a).off _ 1 _ a).fr,J,eV.at g⟩,nN h.2.2 c _ _⟩
theorem il:Up l n↔(∀x∈l,0<=x/\x<n)/\l.Pairwise (·<·):=by
 constructor
 ·intro h;refine⟨fun x e=>?_,DZ.2 fun i j a b S=>h.lt i j b S⟩;obtain⟨i,a,rfl⟩:=ij e;exact h.each i a
 ·rintro⟨c,d⟩;exact⟨fun i a=>c _ (bB a),fun i j b a=>DZ.1 d i j al b a⟩
theorem vB {vars:List Int} (h:Up vars n) (v:Int):Up (bC vars v) n:=by
 rw[il] at h⊢;exact⟨fun x a=>h.1 x (dB.1 a).1,h.2.filter _⟩
theorem QA {vars:List Int} (h:Up vars n):¬v∈ag (bC vars (v:Int)):=fun m=>by
 obtain⟨x,a,e⟩:=bc.1 m;have c:=(il.1 (vB h v)).1 x a;have b:=(dB.1 a).2;simp at b;omega
theorem ae4 (S vars rest:List Nat) (v x:Nat) (l:List Fr):(y5 S vars rest v x l).length=cnt S rest:=by simp[y5]
theorem aol (S vars rest:List Nat) (v x:Nat) (l:List Fr) (h:k<(y5 S vars rest v x l).length):(y5 S vars rest v x l)[k]=qF (aW (bG l (pos S (aV (aT S rest k) v x) vars))):=by simp[y5]
theorem vW.shape {W:World} {f:Value} {b:Option Addr} {sizes vars:List Int} (h:vW W n m f a b ca cb sizes vars other v):∃l,f=.func (.func 188) #[] l:=by
 obtain⟨_,_,_,e,_⟩:=h;exact⟨_,e⟩
theorem vW.top {W:World} {f:Value} {b:Option Addr} {sizes vars:List Int} (h:vW W n m f a b ca cb sizes vars other v):m<=W.heap.size:=by
 obtain⟨_,_,_,_,_,_,_,_,c,_⟩:=h;exact c
theorem vW.aa {W V:World} {f:Value} {b:Option Addr} {sizes vars:List Int} (h:vW W n m f a b ca cb sizes vars other v) (c:c8 W V):vW V n m f a b ca cb sizes vars other v:=h.kept (A8.of_below c h.top)
theorem Tv {sizes vars rest:List Int} {x:Nat} (k:jZ sizes vars m=0) (b:K<cnt (ag sizes) (ag rest)) (c:x<sz (ag sizes) v):pos (ag sizes) (aV (aT (ag sizes) (ag rest) K) v x) (ag vars)<m:=by
 obtain⟨h,d,a⟩:=y9 k;rw[a];exact rq _ (ag1 (fun u=>o6 h.pos _ _ u b) c) _
theorem ahD (a b c:Option Addr) (ca cb cc:Nat) (sizes vars:List Int) (l:List Fr) (v x:Nat) (w:World) (hs:az w a sizes) (hv:az w b vars) (T:cG w c l) (hn:sizes.length<=140737488355328) (hm:vars.length<=140737488355328) (m:jZ sizes vars l.length=0) (U:Cw 100000 l) (ae:v<sizes.length) (ai:x<sz (ag sizes) v):
  c6 92 #[.slice a sizes.length ca,.agg #[.slice b vars.length cb,.slice c l.length cc],.int .i64 (v:Nat),.int .i64 (x:Nat)] w fun e w'=>vV w.heap.size (bC vars (v:Int)) (y5 (ag sizes) (ag vars) (ag (bC vars (v:Int))) v x l) 0 e w'/\c8 w w':=by
 obtain⟨M,n,aj⟩:=y9 m;have R:=hid (fun V h=>alY a ca sizes v x V h M ae);rw[cY (show 0<=(x:Int)/\(x:Int)<(sz (ag sizes) v:Int) by omega)] at R;have ak:x<=4:=by have:=M.sz_le v;omega
 have Q:=fun V u A=>Ef a b c ca cb cc l.length sizes vars V u A hn hm;rw[m] at Q;have O:=hid Q;clear Q;have h0:(0:Int)<=(v:Int):=al
 have u:(v:Int)<(sizes.length:Int):=al
 have ax:(bC vars (v:Int)).length<=vars.length:=pJ _ _;have Vy:=n.length;have oO:=M.eight;have P:=hid M;have gP:=hid n;have L:=hid (vB n (v:Int));have H9:=hid (QA (v:=v) n);have gH:=hid (fun K (hK:K<cnt (ag sizes) (ag (bC vars (v:Int))))=>Tv m hK ai);have ku:=ae4 (ag sizes) (ag vars) (ag (bC vars (v:Int))) v x l;have zN:=hid (fun (k:Nat) (h:k<(y5 (ag sizes) (ag vars) (ag (bC vars (v:Int))) v x l).length)=>aol (ag sizes) (ag vars) (ag (bC vars (v:Int))) v x l h);have ll:=hid (fun V h=>Tu b cb vars (v:Int) V h al);generalize y5 (ag sizes) (ag vars) (ag (bC vars (v:Int))) v x l=F at *;generalize bC vars (v:Int)=rest at *;have ab:=hid (fun V d cd u A=>TV a d b ca cd cb sizes rest vars v V u A M n ae);have HF:=hid T;have HW:=hid U;have jK:=hid ku;clear ai m M n aj T U ku;have S:=hid hs;have z:=hid hv;have H:NR w (((w.alloc (TC (.slice b vars.length cb) (.slice c l.length cc))).alloc (.cells #[.int .i64 (x:Nat)] 3)).alloc (TC (.slice none 0 0) (.slice none 0 0))) w.heap.size (w.heap.size+1+1) (.slice b vars.length cb) (.slice c l.length cc):=⟨((bs.at (w:=w) rfl _ _).alloc _).alloc _,bs.at aE _ _,(((aw _ w).alloc (ar _) _).alloc aE _).alloc (by simp;omega) _⟩
 have X:Boxed (((w.alloc (TC (.slice b vars.length cb) (.slice c l.length cc))).alloc (.cells #[.int .i64 (x:Nat)] 3)).alloc (TC (.slice none 0 0) (.slice none 0 0))) (w.heap.size+1) 3 (.int .i64 (x:Nat)):=by
  have h:=(bh (w.alloc (TC (.slice b vars.length cb) (.slice c l.length cc))) 3 (.int .i64 (x:Nat))).alloc (TC (.slice none 0 0) (.slice none 0 0));rwa [cU] at h
 have r:=H.1.c0;have c1:=H.1.c1;go_enter Tryz.func92,Tryz.ntmps92;go_wp2_with fail
 generalize (((w.alloc (TC (.slice b vars.length cb) (.slice c l.length cc))).alloc (.cells #[.int .i64 (x:Nat)] 3)).alloc (TC (.slice none 0 0) (.slice none 0 0)))=W at *;refine(O.o _ (S.o.aa H.2.2) (z.o.aa H.2.2)).af ?_;rintro e w1 ⟨rfl,I⟩;replace H:=H.step I;replace X:=bj X I;clear r c1 I;have cx:=X.cell;go_wp2_with fail
 refine(R.o _ (S.o.aa H.2.2)).af ?_;rintro e w2 ⟨rfl,q⟩;replace H:=H.step q;replace X:=bj X q;clear cx q R O;have r:=H.1.c0;go_wp2_with fail
 refine(ll.o _ (z.o.aa H.2.2)).af ?_;rintro e w3 ⟨d,cd,rfl,i,lJ,J⟩;have DF:=hid (lJ.up H.2.2.size);clear lJ;replace H:=H.step J;replace X:=bj X J;clear r J ll;have r:=H.1.c0;go_wp2_with fail
 refine(ab.o _ d cd (S.o.aa H.2.2) (z.o.aa H.2.2)).af ?_;rintro e j ⟨f,rfl,y,t⟩;have aq:=H.2.1.lt;replace H:=H.step t;replace X:=bj X t;replace i:=i.aa t;obtain⟨s,rfl⟩:=y.shape;have fh:=t.size;clear r t ab;generalize w3.heap.size=n3 at *;have E:c8 j (j.alloc (.cells #[.func (.func 188) #[] s] 37)):=(aw _ j).alloc (ar _) _;have Y:Boxed (j.alloc (.cells #[.func (.func 188) #[] s] 37)) j.heap.size 37 (.func (.func 188) #[] s):=bh j _ _;replace H:=H.step E;replace X:=bj X E;replace y:=y.aa E;replace i:=i.aa E;go_wp2_with fail
 clear E;generalize (j.alloc (.cells #[.func (.func 188) #[] s] 37))=w5 at *;generalize j.heap.size=Z at *
 have um:=Na a d ca cd sizes rest 143 #[.pointer (some ⟨w.heap.size,0,none⟩),.pointer (some ⟨Z,0,none⟩),.pointer (some ⟨w.heap.size+1,0,none⟩)] (enters_of Tryz.func143 ao rfl) F w5 (S.o.aa H.2.2) i P.o L.o jK.o (fun k m V g=>by
  rw[zN.o k m];have iz:k<cnt (ag sizes) (ag rest):=by rw[<- jK.o];exact m
  have D:=H.2.2.trans (g.af H.2.2.size);refine aom w.heap.size Z (w.heap.size+1) c cc s l k x _ (gH.o k iz) V (aU H.1.lt g.size) ((g.cell (p:=⟨w.heap.size,1,none⟩) H.1.lt).trans H.1.c1) (aU Y.lt g.size) (bj Y g).cell (aU X.lt g.size) (bj X g).cell (HF.o.aa D) HW.o ?_;intro V' ad;have q:=g.trans (ad.af g.size);exact((y.aa q).calls (S.o.aa (D.trans (ad.af D.size))) (i.aa q) P.o L.o gP.o H9.o iz ak))
 have DC:=hid um;clear um;refine DC.o.af ?_;rintro e w6 ⟨G,rfl,hG,an,E⟩;have av:=H.2.1.lt;replace H:=H.step E;replace i:=i.aa E;obtain⟨k0,k1,f0,f1⟩:=H.2.1.facts;obtain⟨e1,e2,e3⟩:=H.fin al (cb:=cd) (cc:=F.length) DF.o al i an al (.slice d rest.length cd) (.slice (some ⟨G,0,none⟩) F.length F.length) rfl rfl;go_wp2;refine bD (e1.result2 rfl _ rfl) rfl ?_;exact⟨e2,e3⟩
def fW (w:World) (B:Nat) (v:Value) (l:List Fr):Prop:=w.ownsRow B 53 3 v l.length (kg l)
theorem fW.empty (w:World) (B:Nat):fW w B (.slice none 0 0) []:=⟨rfl,.inl ⟨rfl,rfl⟩⟩
theorem fW.aa {B:Nat} {v:Value} {l:List Fr} (h:fW w B v l) (e:c8 w w'):fW w' B v l:=by
 refine⟨h.1,h.2.imp id ?_⟩;rintro⟨g,cap,r,b,c,a,d⟩;exact⟨g,cap,r,b,c,(e.block g (dS.1 a).1).trans a,d⟩
theorem fW.own {B:Nat} {v:Value} {l:List Fr} (h:fW w B v l):∀k,v.ownBlock=some k ->B<=k:=by
 intro k a;rcases h.2 with ⟨rfl,_⟩ |⟨g,cap,c,rfl,b,_⟩
 ·cases a
 ·cases a;exact b
theorem fW.fr {B:Nat} {v:Value} {l:List Fr} (h:fW w B v l):∃d cd,v=.slice d l.length cd/\cG w d l:=by
 rcases h.2 with ⟨b,e⟩ |⟨g,cap,r,b,e,a,p,q,s,n⟩
 ·have:l=[]:=D8.1 e;subst this;exact⟨none,0,b,fun k c=>absurd c aE⟩
 ·refine⟨_,_,b,fun k c=>?_⟩;obtain⟨f,i,m⟩:=M5 l k c
  have t:∀j,j<l.length*3 ->r[j]? =(kg l)[j]?:=fun j o=>by
   rw[<- n,r7,aA o,vr]
  refine⟨g,0,rfl,(dS.1 a).1,?_,?_,?_⟩
  ·rw[bZ w g _ _ _ (0,0) a,bM,t _ al];exact f
  ·rw[bZ w g _ _ _ (0,0) a,bM,t _ al];exact i
  ·rw[bZ w g _ _ _ (0,0) a,bM,t _ al];exact m
theorem fW.slv {B:Nat} {v:Value} {l:List Fr} (h:fW w B v l):cP v:=by
 obtain⟨d,cd,e,_⟩:=h.fr;exact⟨d,_,cd,e⟩
theorem aoi (l:List Fr) (f:Fr):kg (l++[f])=kg l++[.bool f.1,.string f.2.1,.string f.2.2]:=by
 induction l with
 |nil=>rfl
 |cons x l ih=>simp only[fM,kg,ih]
theorem Tp {o:Oper} {a:Act} {Q:Exit ->Act ->World ->Prop} (r:o.guard=none) (s x:Operand)
  (m:o.op=.call {callee:=.builtin .append,args:= #[s,x],argTypes:= #[49,49]}) (base:Nat) (v:Value) (l:List Fr) (f:Fr) (n:a.eval s=v) (A:fW w base v l) (g:Nat) (p:a.eval x=.slice (some ⟨g,0,none⟩) 1 1) (c:aF w g f.1 f.2.1 f.2.2) (E:l.length+1<=100000) (D:base<=w.heap.size)
  (h:∀v' w',fW w' base v' (l++[f]) ->w.grownBy w' v.ownBlock ->wpList Tryz.prog ops Q rest (a.put o.dst v') w'):wpList Tryz.prog ops Q (o::rest) a w:=by
 obtain⟨q,e,z,t,y⟩:=dW Tryz.infoFrac;refine FX _ r s x 49 m base 53 q (.agg #[.bool false,.string ⟨#[]⟩,.string ⟨#[]⟩]) 3 40 Tryz.underlying49 e z t y rfl a6 v l.length _ n A ⟨g,0,none⟩ 1 1 [.bool f.1,.string f.2.1,.string f.2.2] p rfl ?_ ?_ (by unfold maxLen;omega) al D ?_
 ·intro j u b;match j,b with
  |0,b=>cases b;exact c.c0
  |1,b=>cases b;exact c.c1
  |2,b=>cases b;exact c.c2
  |j+3,b=>simp at b
 ·intro u d;simp only[dR,l8,ye] at d;rcases d with rfl |rfl |rfl<;>rfl
 ·intro v' w' i k _;refine h v' w' ?_ k;rw[fW,dm,aoi];exact i
theorem Hi {sizes vars:List Int} (h1:eW sizes) (a:Up vars sizes.length):countB sizes vars=true:=by
 rw[countB,gX];constructor
 ·rw[oY,gX,eR];refine⟨⟨h1.one,h1.eight⟩,gW.2 fun x c=>?_⟩;obtain⟨i,b,rfl⟩:=ij c;rw[Cx,eR];exact h1.each i b
 ·rw[dY,gW];intro i b;have h:=bJ.1 b;rw[mo,eR,getD_eq h];refine⟨(a.each i h).1,(a.each i h).2,fun d=>?_⟩;rw[getD_eq (show i - 1<vars.length by omega)];exact a.lt (i - 1) i h al
theorem PT (a b:Option Addr) (ca cb:Nat) (sizes vars:List Int) (w:World) (s:az w a sizes) (v:az w b vars) (M:eW sizes) (c:Up vars sizes.length):
  c6 14 #[.slice a sizes.length ca,.slice b vars.length cb] w (da w (.tuple #[.int .i64 (cnt (ag sizes) (ag vars):Nat),.int .i64 0])):=by
 have d:=M.eight;have e:=c.length;have h:=Uf a b ca cb sizes vars w s v al al;rw[Hj (Hi M c)] at h;exact h
theorem aiN (a b:Option Addr) (ca cb K:Nat) (sizes vars:List Int) (w:World) (s:az w a sizes) (v:az w b vars) (M:eW sizes) (d:Up vars sizes.length) (l:K<cnt (ag sizes) (ag vars)):
  c6 59 #[.slice a sizes.length ca,.slice b vars.length cb,.int .i64 (K:Nat)] w fun e w'=>∃(c:Option Addr) (cc:Nat),e=.returned (.tuple #[.slice c vars.length cc,.int .i64 0])/\az w' c (iL (bX (ag sizes) (ag vars) K))/\c8 w w':=by
 have j:=M.eight;have k:=d.length;have f:=Hi M d;have h:=aiO a b ca cb sizes vars (K:Int) w s v al al;have g:Cj sizes vars (K:Int)=bX (ag sizes) (ag vars) K:=by rw[Cj,aA ⟨f,al,al⟩,nh]
 have i:Ah sizes vars (K:Int)=0:=by rw[Ah,aA f,aA ⟨al,al⟩]
 rw[g,i,vT,cV] at h;exact h
variable {R:List (List Fr)}
def OL (w:World) (a:Option Addr) (R:List (List Fr)):Prop:=∀k (h:k<R.length),∃g o b c,a=some ⟨g,o,none⟩/\g<w.heap.size/\w.cell? ⟨g,o+k,none⟩=some (.slice b R[k].length c)/\cG w b R[k]/\R[k].length<=c
theorem OL.aa (h:OL w a R) (d:c8 w w'):OL w' a R:=fun k m=>by
 obtain⟨g,o,b,c,f,e,i,j,l⟩:=h k m;exact⟨g,o,b,c,f,aU e d.size,(d.cell (p:=⟨g,o+k,none⟩) e).trans i,j.aa d,l⟩
def eJ (l:List Fr) (k i:Nat):List Fr:=(l.drop (i*k)).take k
def iX (S:List Nat) (L:List (List Int)) (R:List (List Fr)) (v:Nat):Int:=
 if (R.getD v []).length=cnt S (ag (L.getD v []))*sz S v then(if ((List.range (cnt S (ag (L.getD v [])))).all fun i=>gY (eJ (R.getD v []) (sz S v) i))=true then 0 else 9) else 8
def aY (V:List Vr) (L:List (List Int)) (R:List (List Fr)):Int:=
 if L.length=V.length/\R.length=V.length then(if bH L=0 then(if jB V=0 then js (iX (ah V) L R) V.length else jB V) else bH L) else 8
theorem cG.chunk {o:Nat} {l:List Fr} (h:cG w (some ⟨g,o,none⟩) l) (s:(i+1)*k<=l.length) (r:m=k):cG w (some ⟨g,o+i*k*3,none⟩) (eJ l k i)/\(eJ l k i).length=m:=by
 have n:(eJ l k i).length=k:=by
  rw[eJ,eX,mY];have:(i+1)*k=i*k+k:=by rw[gC,kO]
  omega
 refine⟨fun j b=>?_,by rw[n,r]⟩;have e:(i+1)*k=i*k+k:=by rw[gC,kO]
 rw[n] at b;obtain⟨g',o',c,d,f,p,q⟩:=h (i*k+j) al;cases c
 have a:(eJ l k i)[j]'(by rw[n];exact b)=l[i*k+j]'al:=by
  simp only[eJ,Ce,KX]
 refine⟨g,o+i*k*3,rfl,d,?_,?_,?_⟩
 ·rw[a,show o+i*k*3+j*3=o+(i*k+j)*3 by rw[gC];omega];exact f
 ·rw[a,show o+i*k*3+j*3=o+(i*k+j)*3 by rw[gC];omega];exact p
 ·rw[a,show o+i*k*3+j*3=o+(i*k+j)*3 by rw[gC];omega];exact q
theorem aeT (l:List Fr) (k i:Nat):fw (eJ l k i)<=fw l:=by
 have a:=XC (l.drop (i*k)) k;have h:=XD (l.take (i*k)) (l.drop (i*k));rw[Cc] at h;rw[eJ];omega
def ld (w:World) (B:Nat) (v:Value) (l:List ByteArray):Prop:=w.ownsRow B 9 1 v l.length (l.map Value.string)
theorem ld.own {B:Nat} {v:Value} {l:List ByteArray} (h:ld w B v l):∀k,v.ownBlock=some k ->B<=k:=by
 intro k a;rcases h.2 with ⟨rfl,_⟩ |⟨g,cap,c,rfl,b,_⟩
 ·cases a
 ·cases a;exact b
theorem ld.st {B:Nat} {v:Value} {l:List ByteArray} (h:ld w B v l):∃d cd,v=.slice d l.length cd/\p6 w d l:=by
 rcases h.2 with ⟨a,b⟩ |⟨g,cap,r,a,b,c,n,o,p,f⟩
 ·have:l=[]:=D8.1 b;subst this;exact⟨none,0,a,fun k m=>absurd m aE⟩
 ·refine⟨_,_,a,fun j i=>⟨g,0,rfl,(dS.1 c).1,?_⟩⟩;rw[bM,bZ w g j _ _ (0,0) c]
  have e:r[j]? =(r.toList.take (l.length*1))[j]?:=by
   rw[r7,aA al,vr]
  rw[e,f,pL,List.getElem?_eq_getElem i];rfl
theorem Z4 {o:Oper} {a:Act} {Q:Exit ->Act ->World ->Prop} (r:o.guard=none) (s x:Operand)
  (m:o.op=.call {callee:=.builtin .append,args:= #[s,x],argTypes:= #[41,41]}) (base:Nat) (v:Value) (l:List ByteArray) (f:ByteArray) (n:a.eval s=v) (A:ld w base v l) (g:Nat) (p:a.eval x=.slice (some ⟨g,0,none⟩) 1 1) (k:w.cell? ⟨g,0,none⟩=some (.string f)) (E:l.length+1<=100000) (D:base<=w.heap.size)
  (h:∀v' w',ld w' base v' (l++[f]) ->w.grownBy w' v.ownBlock ->wpList Tryz.prog ops Q rest (a.put o.dst v') w'):wpList Tryz.prog ops Q (o::rest) a w:=by
 obtain⟨q,d,z,t,y⟩:=dW Tryz.infoStr;refine FX _ r s x 41 m base 9 q (.string ⟨#[]⟩) 1 16 Tryz.underlying41 d z t y rfl a6 v l.length _ n A ⟨g,0,none⟩ 1 1 [.string f] p rfl ?_ ?_ (by unfold maxLen;omega) al D ?_
 ·intro j u b;match j,b with
  |0,b=>cases b;exact k
  |j+1,b=>simp at b
 ·intro u c;simp only[dR,l8,ye] at c;subst c;rfl
 ·intro v' w' e i _;refine h v' w' ?_ i;rw[ld,dm,fg];exact e
theorem acF (w:World) (u:ByteArray):(w.alloc (.cells #[.string u] 9)).cell? ⟨w.heap.size,0,none⟩=some (.string u):=(bh w _ _).cell
variable {wr wr':World}
structure gO (w:World) (a b c:Option Addr) (V:List Vr) (L:List (List Int)) (R:List (List Fr)):Prop where
 vars:uG w a V
 pars:fN w b L
 rows:OL w c R
theorem gO.aa {b c:Option Addr} (h:gO w a b c V L R) (d:c8 w w'):gO w' a b c V L R:=⟨h.vars.aa d,h.pars.aa d,h.rows.aa d⟩
structure tK (V:List Vr) (L:List (List Int)) (R:List (List Fr)):Prop where
 vars:VSm V
 pars:L.length<=5000/\∀l∈L,l.length<=5000
 rows:R.length<=5000/\∀l∈R,l.length<=5000/\fw l<=10000
def NK (w wr:World) (x y z:Value):Prop:=cT wr w.heap.size x y z/\c8 w wr
theorem NK.step (h:NK w wr x y z) (b:c8 wr wr'):NK w wr' x y z:=⟨h.1.aa b h.1.lt,h.2.trans (b.af h.2.size)⟩
theorem NK.grow (h:NK w wr x y z) (b:Below (w.heap.size+1) wr wr'):NK w wr' x y z:=⟨h.1.aa b al,h.2.trans (b.af al)⟩
theorem NK.new (w:World) (x y z:Value):NK w (w.alloc (NC x y z)) x y z:=⟨cT.at rfl x y z,(aw _ w).alloc (ar _) _⟩
theorem XK (r:L.length=V.length) (g:bH L=0) (a:jB V=0):eW (iL (ah V))/\L.length<=8/\∀v (h:v<L.length),Up L[v] L.length:=by
 have o:gB L=true:=by
  rw[bH] at g;by_cases h:gB L=true
  ·exact h
  ·rw[aB h] at g;exact absurd g a6
 obtain⟨p,k,f,_⟩:=rJ o
 have l:∀i,i<V.length ->np V i=0:=by
  rw[jB] at a;by_cases h:iy (fS V)=0
  ·rw[aA h] at a;intro i b
   have y:∀ {n:Nat},js (np V) n=0 ->∀j,j< n ->np V j=0:=by
    intro n;induction n with
    |zero=>intro _ j m;omega
    |succ n ih=>
     intro z j m;rw[js] at z;by_cases e:js (np V) n=0
     ·rw[aA e] at z;rcases cF j n with d |d
      ·exact ih e j d
      ·obtain rfl:j=n:=al
       exact z
     ·rw[aB e] at z;exact absurd z e
   exact y a i b
  ·rw[aB h] at a;exact absurd a h
 refine⟨⟨by rw[ba,ix];omega,by rw[ba,ix];omega,fun i b=>?_⟩,k,fun v a=>Cm (R3 f a)⟩;rw[ba,ix] at b;have c:=l i b;rw[np,Xw b] at c
 have q:1<=V[i].2.length/\V[i].2.length<=4:=by
  by_cases e:1<=V[i].2.length/\V[i].2.length<=4
  ·exact e
  ·rw[aB e] at c;exact absurd c a6
 have e:(iL (ah V))[i]'(by rw[ba,ix];exact b)=(V[i].2.length:Int):=by simp[iL,ah]
 rw[e];omega
theorem akX (h:i<V.length):(fS V).take (i+1)=(fS V).take i++[V[i].1]:=by
 obtain⟨a,b⟩:=mZ.1 (ac3 h);rw[fL a,b]
theorem ai1 (a b c:Option Addr) (ca cb cc:Nat) (V:List Vr) (L:List (List Int)) (R:List (List Fr)) (w:World) (h:gO w a b c V L R) (hs:tK V L R):
  c6 73 #[.agg #[.slice a V.length ca,.slice b L.length cb,.slice c R.length cc]] w (da w (.int .i64 (aY V L R))):=by
 have HI:=hid h;have EN:=hs.vars.1;have Xd:=hs.pars.1;have JM:=hs.rows.1;have HS:=hid hs;have uO:Hid (¬(L.length=V.length/\R.length=V.length) ->aY V L R=8):=fun h=>aB h;have wy:Hid (L.length=V.length ->R.length=V.length ->bH L≠0 ->aY V L R=bH L):=fun f m D=>by rw[aY,aA ⟨f,m⟩,aB D]
 have wu:Hid (L.length=V.length ->R.length=V.length ->bH L=0 ->jB V≠0 ->aY V L R=jB V):=fun f m D F=>by rw[aY,aA ⟨f,m⟩,aA D,aB F]
 have Ky:Hid (L.length=V.length ->R.length=V.length ->bH L=0 ->jB V=0 ->aY V L R=js (iX (ah V) L R) V.length):=fun f m D F=>by rw[aY,aA ⟨f,m⟩,aA D,aA F]
 have Iu:Hid (L.length=V.length ->bH L=0 ->jB V=0 ->eW (iL (ah V))/\L.length<=8/\∀v (h:v<L.length),Up L[v] L.length):=fun f m D=>XK f m D;have Ov:=hid (fun (U:World) (hU:fN U b L)=>ajb b cb L U hU (fun l hl=>by have:=hs.pars.2 l hl;omega) al);generalize aY V L R=ne at *;clear h hs;have cE:=hid (NK.new w (.slice a V.length ca) (.slice b L.length cb) (.slice c R.length cc));obtain⟨t,y,o⟩:=cE.o.1.cells;by_cases mG:L.length=V.length
 ·by_cases rI:R.length=V.length
  ·have av:((L.length:Int) !=(V.length:Int))=false:=by rw[mG];simp
   (have LZ:((R.length:Int) !=(V.length:Int))=false:=by rw[rI];simp);have wC:=hid mG;have rR:=hid rI;clear mG rI uO;go_enter Tryz.func73,Tryz.ntmps73;go_wp2_with fail
   generalize (w.alloc (NC (.slice a V.length ca) (.slice b L.length cb) (.slice c R.length cc)))=w1 at *;refine(Ov.o _ (HI.o.aa cE.o.2).pars).af ?_;rintro e w2 ⟨rfl,bm⟩;have qf:=hid (cE.o.step bm);clear bm cE t y o av LZ Ov;by_cases A:bH L=0
   ·have Fz:=hid (wu.o wC.o rR.o A);have Kw:=hid (Ky.o wC.o rR.o A);have bg:=hid (Iu.o wC.o A);rw[A];clear A wy wu Ky Iu;have sG:(fS V).length=V.length:=UX V;have bW:=hid (fun i h=>akX (V:=V) (i:=i) h);have YG:Hid (iy (fS V)≠0 ->jB V=iy (fS V)):=fun h=>aB h;have YF:Hid (iy (fS V)=0 ->jB V=js (np V) V.length):=fun h=>aA h
    have Kv:Hid (∀s∈fS V,s.size<=140737488355328):=fun s ax=>by
     obtain⟨x,hx,rfl⟩:=bc.1 ax;have:=(HS.o.vars.2 x hx).1;omega
    go_wp2_with fail
    go_loopw [4,5] (fun lv iv wr=>∃i:Nat,i<=V.length/\iv=.int .i64 i/\Hid (ld wr (w.heap.size+1) lv ((fS V).take i))/\Hid (NK w wr (.slice a V.length ca) (.slice b L.length cb) (.slice c R.length cc))) (fun _ iv _=>V.length - (intOf iv).toNat)
    case atStart=>exact⟨0,aS _,rfl,⟨rfl,.inl ⟨rfl,rfl⟩⟩,qf⟩
    case round=>
     obtain⟨i,hi,rfl,zw,K⟩:=hrel;clear qf;obtain⟨t,y,o⟩:=K.o.1.cells;by_cases bu:i<V.length
     ·obtain⟨g,bP,b',c',rfl,A,d0,d1, -, -⟩:=(HI.o.aa K.o.2).vars i bu;have Sm:=hid (bW.o i bu)
      have tR:Hid (((fS V).take i).length<=5000):=by
       show ((fS V).take i).length<=5000;rw[eX];omega
      generalize V[i]=v at *;obtain⟨nm,vs⟩:=v;simp only at d0 d1 Sm;have nS:=hid zw.o.own;have cu:w.heap.size+1<=wr.heap.size:=K.o.1.lt;have ir:Hid (ld (wr.alloc (.cells #[.string nm] 9)) (w.heap.size+1) _ ((fS V).take i)):=F0 zw.o _;have bT:=hid (K.o.step ((aw _ wr).alloc (ar _) (.cells #[.string nm] 9)));(have GD:w.heap.size+1<=(wr.alloc (.cells #[.string nm] 9)).heap.size:=by simp;omega);have ae:=hid (acF wr nm);go_wp2_with (at_builtin;refine Z4 rfl _ _ rfl (w.heap.size+1) _ ((fS V).take i) nm rfl ir.o wr.heap.size rfl ae.o (by have:=tR.o;omega) GD ?_;intro v' w3 bx bo)
      have jy:=hid bx;have pA:=hid (bT.o.grow ((aw _ _).grown bo GD nS.o));clear bx bo;go_roundw
      case rel=>exact⟨i+1,al,bd,by rw[Sm.o];exact jy,pA⟩
      case measure=>simp[intOf];omega
     ·obtain rfl:i=V.length:=al
      have yE:=zw.o;rw[jA al] at yE;obtain⟨d,cd,rfl,bK⟩:=yE.st;have ae:=hid bK
      have fC:Hid (∀U:World,p6 U d (fS V) ->c6 123 #[.slice d V.length cd] U fun e w'=>e=.returned (.int .i64 (iy (fS V)))/\w'=U):=fun U hU=>by
       have:=abH d cd (fS V) U hU al Kv.o;rwa [sG] at this
      clear yE bK zw;generalize QS:iy (fS V)=UQ at *;clear QS;go_wp2_with fail
      refine(fC.o _ ae.o).af ?_;rintro e w4 ⟨rfl,rfl⟩;clear ae fC;by_cases iP:UQ=0
      ·subst iP;have YE:=hid (YF.o rfl);clear YG YF t y o;(have HA:Hid (∀i,i<V.length ->(∀j,j< i ->np V j=0) ->∀k,np V i=k ->k≠0 ->jB V=k):=fun i hi hz k hk ai=>by rw[YE.o,Da hz (by rw[hk];exact ai) hi,hk]);(have HZ:Hid ((∀j,j<V.length ->np V j=0) ->jB V=0):=fun h=>by rw[YE.o];exact xH h);have HL:=hid (fun i h e=>aah (V:=V) (i:=i) h e);have Ig:=hid (fun i h e=>aag (V:=V) (i:=i) h e);clear YE;generalize jB V=cw at *;go_wp2_with fail
       go_loopw [6] (fun iv wq=>∃i:Nat,i<=V.length/\iv=.int .i64 i/\Hid (∀j,j< i ->np V j=0)/\wq=w4) (fun iv _=>V.length - (intOf iv).toNat)
       case atStart=>exact⟨0,aS _,rfl,fun j h=>absurd h al,rfl⟩
       case round=>
        obtain⟨i,ct,rfl,zo,rfl⟩:=hrel;obtain⟨t,y,o⟩:=K.o.1.cells;by_cases E:i<V.length
        ·obtain⟨g,bP,b',c',rfl,A,d0,d1,CZ,b8⟩:=(HI.o.aa K.o.2).vars i E;have aj:=HS.o.vars.2 V[i] (bB E);have wB:=hid (fun e=>Fz.o (by rw[HA.o i E zo.o 2 (HL.o i E e) a6];decide) |>.trans (HA.o i E zo.o 2 (HL.o i E e) a6))
         have kH:Hid (∀(e:1<=V[i].2.length/\V[i].2.length<=4) (k:Int),iy V[i].2=k ->k≠0 ->ne=k):=fun e k hk ai=>by
          have f:=HA.o i E zo.o k ((Ig.o i E e).trans hk) ai;rw[Fz.o (by rw[f];exact ai),f]
         have tL:=hid (fun e (hk:iy V[i].2=0)=>Gb zo.o ((Ig.o i E e).trans hk));have bf:=hid CZ;clear CZ;generalize V[i]=v at *;obtain⟨nm,vs⟩:=v;simp only at d0 d1 bf b8 aj wB kH tL;have i6:=aj.2.1;have sL:=hid aj.2.2;clear aj;by_cases f:1<=vs.length
         ·by_cases F:vs.length<=4
          ·have e1:(1:Int)<=(vs.length:Int):=al
           (have e2:(vs.length:Int)<=4:=al);have fQ:=hid (kH.o ⟨f,F⟩);have Yx:=hid (tL.o ⟨f,F⟩);clear wB kH tL;go_wp2_with fail
           refine(abH b' c' vs _ bf.o al (fun s ax=>by have:=sL.o s ax;omega)).af ?_;rintro e w5 ⟨rfl,rfl⟩;generalize iy vs=q at *;by_cases Z:q=0
           ·subst Z;have Yw:=hid (Yx.o rfl);go_wp2;go_roundw
            case rel=>exact⟨i+1,al,bd,Yw,trivial⟩
            case measure=>simp[intOf];omega
           ·have H:=hid (fQ.o q rfl Z);(have VW:(q==0)=false:=by simpa using Z);clear Z;go_wp2;go_ret;exact⟨by rw[H.o];rfl,K.o.2⟩
          ·have H:=hid (wB.o fun h=>F h.2);(have e1:(1:Int)<=(vs.length:Int):=al);(have e2:(4:Int)<(vs.length:Int):=al);clear F wB kH tL;go_wp2;go_ret;exact⟨by rw[H.o];rfl,K.o.2⟩
         ·have H:=hid (wB.o fun h=>f h.1);(have e1:(vs.length:Int)<1:=al);clear f wB kH tL;go_wp2;go_ret;exact⟨by rw[H.o];rfl,K.o.2⟩
        ·obtain rfl:i=V.length:=al
         have ay:=HZ.o zo.o;have Ie:=hid (Kw.o ay);obtain⟨aM,h8,a8⟩:=bg.o ay;have bI:=hid aM;have gP:=hid a8;(have bR:(iL (ah V)).length=V.length:=by rw[ba,ix])
         have je:Hid (∀(U:World) (d6 M:Option Addr) (I cl:Nat) (l:List Int),Up l L.length ->az U d6 (iL (ah V)) ->az U M l ->c6 14 #[.slice d6 V.length I,.slice M l.length cl] U fun e w'=>e=.returned (.tuple #[.int .i64 (cnt (ah V) (ag l):Nat),.int .i64 0])/\c8 U w'):=fun U d6 M I cl l hl f m=>by
          have:=PT d6 M I cl (iL (ah V)) l U f m bI.o (by rw[bR, <- wC.o];exact hl);rwa [bR,eM] at this
         have Zy:Hid (∀l:List Int,Up l L.length ->cnt (ah V) (ag l)<=65536):=fun l hl=>by
          have f:=bI.o.sz_le;rw[eM] at f;have m:=hl.length;exact qL f (by rw[cV];omega)
         have b3:Hid (∀v,v<V.length ->1<=sz (ah V) v/\sz (ah V) v<=4/\(iL (ah V))[v]? =some ((sz (ah V) v:Nat):Int)):=fun v hv=>by
          have f:=bI.o.sz_le v;have m:=iM bI.o.pos v;rw[eM] at f m;refine⟨m,f,?_⟩;rw[sz,Eh hv];simp[iL,ah,hv]
         (have OD:Hid ((∀j,j<V.length ->iX (ah V) L R j=0) ->ne=0):=fun h=>by rw[Ie.o];exact xH h);(have aE:Hid (∀v,v<V.length ->(∀j,j< v ->iX (ah V) L R j=0) ->∀q,iX (ah V) L R v=q ->q≠0 ->ne=q):=fun v hv hz q Z tB=>by rw[Ie.o,Da hz (by rw[Z];exact tB) hv,Z]);clear aM a8 HZ HA HL Ig Fz Kw bg ay zo Ie;go_wp2_with fail
         refine(Ub a b c ca cb cc L.length R.length V _ (HI.o.aa K.o.2).vars EN).af ?_;rintro e w6 ⟨xv,rfl,CN,bE⟩;obtain⟨d6,I,rfl,ui⟩:=CN.ints;rw[bR];have zK:=hid (K.o.step bE);have aO:=hid ui;clear CN bE ui t y o K;go_wp2_with fail
         go_loopw [9] (fun iv wr=>∃v:Nat,v<=V.length/\iv=.int .i64 v/\Hid (∀j,j< v ->iX (ah V) L R j=0)/\Hid (NK w wr (.slice a V.length ca) (.slice b L.length cb) (.slice c R.length cc))/\Hid (az wr d6 (iL (ah V)))) (fun iv _=>V.length - (intOf iv).toNat)
         case atStart=>exact⟨0,aS _,rfl,fun j h=>absurd h al,zK,aO⟩
         case round=>
          obtain⟨v,hv,rfl,Sc,Ol,Dw⟩:=hrel;clear zK aO;obtain⟨t,y,o⟩:=Ol.o.1.cells;by_cases ad:v<V.length
          ·have eo:v<L.length:=by rw[wC.o];exact ad
           (have kX:v<R.length:=by rw[rR.o];exact ad);obtain⟨gp,dZ,M,cl,rfl,gK,p1,fj⟩:=HI.o.pars v eo;obtain⟨z,O,br,Q,rfl,bp,r1,ug,Ey⟩:=HI.o.rows v kX;obtain⟨ch,fh,Ew⟩:=b3.o v ad;obtain⟨VI,VH⟩:=mZ.1 Ew;obtain⟨n,P,rfl,oQ,t1⟩:=Dw.o v VI;rw[VH] at t1;have Rb:=gP.o v eo;have cf:=Zy.o L[v] Rb;(have xB:1<=cnt (ah V) (ag L[v]):=by have:=A3 bI.o.pos (ag L[v]);rwa [eM] at this);have yE:=HS.o.rows.2 R[v] (bB kX);have sN:=hid fj;have Bz:=hid ug;have mQ:=hid p1;have rS:=hid r1
           have N3:Hid (¬R[v].length=cnt (ah V) (ag L[v])*sz (ah V) v ->ne=8):=fun h=>aE.o v ad Sc.o 8 (by
            rw[iX,List.getD_eq_getElem?_getD,List.getElem?_eq_getElem kX,List.getD_eq_getElem?_getD,List.getElem?_eq_getElem eo];exact aB h) a6
           have YS:Hid (R[v].length=cnt (ah V) (ag L[v])*sz (ah V) v ->∀i,i<cnt (ah V) (ag L[v]) ->gY (eJ R[v] (sz (ah V) v) i)=false ->ne=9):=fun h i hi hr=>aE.o v ad Sc.o 9 (by
            rw[iX,List.getD_eq_getElem?_getD,List.getElem?_eq_getElem kX,List.getD_eq_getElem?_getD,List.getElem?_eq_getElem eo];refine(aA h).trans (aB fun m=>?_);have:=gW.1 m i (bJ.2 hi);rw[zY,hr] at this;cases this) a6
           have YU:Hid (R[v].length=cnt (ah V) (ag L[v])*sz (ah V) v ->(∀i,i<cnt (ah V) (ag L[v]) ->gY (eJ R[v] (sz (ah V) v) i)=true) ->∀j,j<v+1 ->iX (ah V) L R j=0):=fun h hr=>Gb Sc.o (by
            rw[iX,List.getD_eq_getElem?_getD,List.getElem?_eq_getElem kX,List.getD_eq_getElem?_getD,List.getElem?_eq_getElem eo];exact(aA h).trans (aA (gW.2 fun i hi=>hr i (bJ.1 hi))))
           have b2:=hid (fun (U:World) (f:az U (some ⟨n,P,none⟩) (iL (ah V))) (m:az U M (L[v]'eo))=>je.o U (some ⟨n,P,none⟩) M I cl L[v] Rb f m);generalize R[v]=r at *;generalize L[v]=pl at *;generalize sz (ah V) v=k at *;generalize cnt (ah V) (ag pl)=N at *;have AX:=Ol.o.2;have cj:=(AX.cell (p:=⟨gp,dZ+v,none⟩) gK).trans p1;have Kl:Hid (∃h:v<(iL (ah V)).length,(iL (ah V))[v]=((k:Nat):Int)):=⟨VI,VH⟩;clear fj ug p1 r1 Ew VI VH Rb;go_wp2_with fail
           refine(b2.o _ Dw.o (sN.o.aa AX)).af ?_;rintro e w7 ⟨rfl,bV⟩;have Oj:=hid (Ol.o.step bV);have cm:=(bV.cell (p:=⟨n,P+v,none⟩) oQ).trans t1;have a1:=hid (Dw.o.aa bV);have AO:=aU oQ bV.size;clear bV cj t1 t y o AX oQ;obtain⟨t,y,o⟩:=Oj.o.1.cells;have ck:=(Oj.o.2.cell (p:=⟨z,O+v,none⟩) bp).trans rS.o
           have cn:IntKind.i64.wrap ((N:Int)*(k:Int))=((N*k:Nat):Int):=by
            have f:N*k<=65536*4:=iH cf fh;rw[dE, <- jl];omega
           generalize MI:N*k=T at *;go_upto_region 28 with fail
           go_quiet (fail)
           have Zd:Hid (NK w (w7.drewN nq) (.slice a V.length ca) (.slice (some ⟨gp,dZ,none⟩) L.length cb) (.slice (some ⟨z,O,none⟩) R.length cc)):=⟨Oj.o.1,below_drewN Oj.o.2 nq⟩;have a7:Hid (az (w7.drewN nq) (some ⟨n,P,none⟩) (iL (ah V))):=a1.o;clear Oj a1 t y o ck cm AO Ol Dw cn;generalize w7.drewN nq=w8 at *;by_cases ab:r.length=T
           ·have jF:((r.length:Int) !=(T:Int))=false:=by rw[ab];simp
            have b0:=hid (YS.o ab);have pq:=hid (YU.o ab);(have cq:1<=T:=by rw[<- MI];exact iH xB ch);obtain⟨Y,X,rfl,CU, -⟩:=Bz.o 0 al;have HLEN:=hid ab;have Y4:=hid MI;have zw:=hid yE;clear YS YU N3 ab MI yE;rw[jF];clear jF;go_wp2_with fail
            go_loopw [12] (fun iv wz=>∃i:Nat,i<=N/\iv=.int .i64 i/\Hid (∀j,j< i ->gY (eJ r k j)=true)/\Hid (NK w wz (.slice a V.length ca) (.slice (some ⟨gp,dZ,none⟩) L.length cb) (.slice (some ⟨z,O,none⟩) R.length cc))/\Hid (az wz (some ⟨n,P,none⟩) (iL (ah V)))) (fun iv _=>N - (intOf iv).toNat)
            case atStart=>exact⟨0,aS _,rfl,fun j h=>absurd h al,Zd,a7⟩
            case round=>
             obtain⟨i,Q1,rfl,Fu,J,SE⟩:=hrel;clear Zd a7;by_cases bb:i<N
             ·have hT:(i+1)*k<=r.length:=by rw[HLEN.o, <- Y4.o];exact j6 k bb
              have xu:k<=(i+1)*k:=B6 k al;have aN:=hid (Bz.o.aa J.o.2);obtain⟨t,y,o⟩:=J.o.1.cells;have r1:=(J.o.2.cell (p:=⟨z,O+v,none⟩) bp).trans rS.o;obtain⟨bN,bO⟩:=Kl.o;obtain⟨cp,cv,e',b1,t1⟩:=SE.o v bN;cases e';rw[bO] at t1;clear bN bO
              have OI:Hid (∀U:World,cG U (some ⟨Y,X,none⟩) r ->c6 124 #[.slice (some ⟨Y,X+i*k*3,none⟩) k (Q - i*k)] U fun e w'=>e=.returned (.bool (gY (eJ r k i)))/\c8 U w'):=fun U hU=>by
               obtain⟨f,m⟩:=hU.chunk hT rfl;have D:=apy (some ⟨Y,X+i*k*3,none⟩) (Q - i*k) (eJ r k i) U f (aR (aeT r k i) zw.o.2) al;rwa [m] at D
              have Sr:Hid (∀i,(∀j,j< i ->gY (eJ r k j)=true) ->gY (eJ r k i)=true ->∀j,j<i+1 ->gY (eJ r k j)=true):=fun i h h' j hj=>by
               rcases cF j i with m |m
               ·exact h j m
               ·obtain rfl:j=i:=al
                exact h'
              have pS:=zw.o.1;(have e2:(i+1)*k=i*k+k:=by rw[gC,kO])
              have cg:IntKind.i64.wrap ((i:Int)*(k:Int))=((i*k:Nat):Int):=by
               rw[dE, <- jl];omega
              have bw:IntKind.i64.wrap (((i:Int)+1)*(k:Int))=(((i+1)*k:Nat):Int):=by
               (have:((i:Int)+1)=((i+1:Nat):Int):=al);rw[dE,this, <- jl];omega
              generalize hlo:i*k=lo at *;generalize Q3:(i+1)*k=CT at *;(have kr:IntKind.i64.wrap ((i:Int)+1)=(i:Int)+1:=by rw[dE];omega);(have b4:(CT:Int)<=(Q:Int):=al);(have b5:lo<=CT:=al);(have b6:¬Q=lo:=al);(have b7:CT - lo=k:=al);clear hlo Q3 e2 hT xu;go_upto_region 33 with fail
              refine iu (S:=fun u=>u.cell? ⟨w.heap.size,2,none⟩=some (.slice (some ⟨z,O,none⟩) R.length cc)/\u.cell? ⟨z,O+v,none⟩=some (.slice (some ⟨Y,X,none⟩) r.length Q)/\u.cell? ⟨n,P+v,none⟩=some (.int .i64 (k:Nat))) ao ⟨o,r1,t1⟩ (fun aq=>?_);have Ze:Hid (NK w wr.drew (.slice a V.length ca) (.slice (some ⟨gp,dZ,none⟩) L.length cb) (.slice (some ⟨z,O,none⟩) R.length cc)):=⟨J.o.1,J.o.2.drew⟩;have aQ:Hid (az wr.drew (some ⟨n,P,none⟩) (iL (ah V))):=SE.o;have aG:Hid (cG wr.drew (some ⟨Y,X,none⟩) r):=aN.o;have vK:n<wr.drew.heap.size:=b1;clear t y o r1 t1 J SE aN;generalize wr.drew=u0 at *;refine au 0 (.pointer (some ⟨w.heap.size,2,none⟩)) ?_;refine au 1 (.slice (some ⟨z,O,none⟩) R.length cc) ?_;refine au 2 (.int .i64 (v:Nat)) ?_;refine au 3 (.pointer (some ⟨z,O+v,none⟩)) ?_;refine au 4 (.slice (some ⟨Y,X,none⟩) r.length Q) ?_;refine au 5 (.int .i64 (i:Nat)) ?_;refine au 6 (.slice (some ⟨n,P,none⟩) V.length I) ?_;refine au 7 (.int .i64 (v:Nat)) ?_;refine au 8 (.pointer (some ⟨n,P+v,none⟩)) ?_;refine au 9 (.int .i64 (k:Nat)) ?_;refine au 10 (.int .i64 (lo:Nat)) ?_;refine au 11 (.int .i64 (i:Nat)) ?_;refine au 12 (.int .i64 ((i:Int)+1)) ?_;refine au 13 (.slice (some ⟨n,P,none⟩) V.length I) ?_;refine au 14 (.int .i64 (v:Nat)) ?_;refine au 15 (.pointer (some ⟨n,P+v,none⟩)) ?_;refine au 16 (.int .i64 (k:Nat)) ?_;refine au 17 (.int .i64 (CT:Nat)) ?_;refine au 18 (.slice (some ⟨Y,X+lo*3,none⟩) k (Q - lo)) ?_
              refine aI [19] (cA ?_ aH);intro K' bk;go_simp;refine(OI.o _ aG.o).af ?_;rintro e u1 ⟨rfl,hb⟩;have an:=Ze.o.step hb;refine bk.o _ _ ⟨an.1.cells.2.2,(hb.cell (p:=⟨z,O+v,none⟩) (by have:=Ze.o.2.size;show z<_;omega)).trans aq.2.1,(hb.cell (p:=⟨n,P+v,none⟩) vK).trans aq.2.2⟩ (fun ak=>?_);clear bk K' aq;have aq:=ak;clear ak;have zI:=hid an;have bQ:=hid (aQ.o.aa hb);clear an hb Ze aQ aG;refine au 20 (.bool (gY (eJ r k i))) ?_;(try simp only[gE,aP]);refine dC ao ?_ _;cases nG:gY (eJ r k i) with
              |false=>
               have H:=hid (b0.o i bb nG);clear nG;go_wp2;go_ret;exact⟨by rw[H.o];rfl,zI.o.2⟩
              |true=>
               have HX:=hid (Sr.o i Fu.o nG);clear nG kr b4 b5 b6 b7 cg bw;go_wp2;go_roundw
               case rel=>exact⟨i+1,al,bd,HX,zI,bQ⟩
               case measure=>simp[intOf];omega
             ·obtain rfl:i=N:=al
              have HX:=hid (pq.o Fu.o);go_wp2;go_roundw
              case rel=>exact⟨v+1,al,bd,HX,J,SE⟩
              case measure=>simp[intOf];omega
           ·have H:=hid (N3.o ab)
            have jF:((r.length:Int) !=(T:Int))=true:=by
             (have:¬(r.length:Int)=(T:Int):=al);simpa using this
            clear ab YS YU N3;go_wp2;go_ret;exact⟨by rw[H.o];rfl,Zd.o.2⟩
          ·obtain rfl:v=V.length:=al
           have H:=hid (OD.o Sc.o);go_wp2;go_ret;exact⟨by rw[H.o];rfl,Ol.o.2⟩
      ·have H:Hid (ne=UQ):=by
        have f:=YG.o iP;show _=_;rw[Fz.o (by rw[f];exact iP),f]
       (have VW:(UQ==0)=false:=by simpa using iP);clear iP YG YF;go_wp2;go_ret;exact⟨by rw[H.o];rfl,K.o.2⟩
   ·have H:=hid (wy.o wC.o rR.o A);(have VW:(bH L==0)=false:=by simpa using A);clear A wy wu Ky Iu;generalize bH L=q at *;go_wp2;go_ret;exact⟨by rw[H.o];rfl,qf.o.2⟩
  ·have H:=hid (uO.o fun h=>rI h.2);(have av:((L.length:Int) !=(V.length:Int))=false:=by rw[mG];simp)
   have LZ:((R.length:Int) !=(V.length:Int))=true:=by
    (have:¬(R.length:Int)=(V.length:Int):=al);simpa using this
   clear mG rI uO;go_enter Tryz.func73,Tryz.ntmps73;go_wp2;go_ret;exact⟨by rw[H.o];rfl,cE.o.2⟩
 ·have H:=hid (uO.o fun h=>mG h.1)
  have av:((L.length:Int) !=(V.length:Int))=true:=by
   (have:¬(L.length:Int)=(V.length:Int):=al);simpa using this
  clear mG uO;go_enter Tryz.func73,Tryz.ntmps73;go_wp2;go_ret;exact⟨by rw[H.o];rfl,cE.o.2⟩
variable {S:List Nat} {f:Nat ->Nat}
def LK (w wr:World) (x y z:Value):Prop:=NK w wr x y z/\aF wr (w.heap.size+1) false ⟨#[]⟩ ⟨#[]⟩
theorem LK.new (w:World) (x y z:Value):LK w ((w.alloc (NC x y z)).alloc (FC false ⟨#[]⟩ ⟨#[]⟩)) x y z:=⟨(NK.new w x y z).step ((aw _ _).alloc (ar _) _),aF.at aE _ _ _⟩
theorem LK.drewN (h:LK w wr x y z) (k:Nat):LK w (wr.drewN k) x y z:=⟨⟨h.1.1,below_drewN h.1.2 k⟩,h.2⟩
theorem Uq (p:∀v,sz S v<=4) (f:Nat ->Nat) (h:∀u,f u<sz S u) {P:List Nat} (l:P.length<=8) (i:Nat):pos S f (P.take i)<=65536:=by
 have a:=rq f h (P.take i);have b:=qL p (vs:=P.take i) (by rw[eX];omega);omega
def rA (S:List Nat) (P:List Nat) (f:Nat ->Nat) (v:Nat):Nat:=pos S f P*sz S v+f v
theorem Vd {P:List Nat} (h:∀u,f u<sz S u) (v:Nat):rA S P f v<cnt S P*sz S v:=by
 have a:=rq f h P;have b:=h v;rw[rA]
 calc pos S f P*sz S v+f v<pos S f P*sz S v+sz S v:=al
  _=(pos S f P+1)*sz S v:=by rw[gC,kO]
  _<=cnt S P*sz S v:=j6 _ a
theorem alM (a b c d:Option Addr) (ca cb cc cd v:Nat) (V:List Vr) (L:List (List Int)) (R:List (List Fr)) (A:List Nat) (w:World) (h:gO w a b c V L R) (hA:az w d (iL A)) (AY:A.length=V.length) (G0:V.length<=8) (hv:v<V.length) (eo:v<L.length) (kX:v<R.length) (hS:eW (iL (ah V))) (hU:Up L[v] V.length) (ad:R[v].length=cnt (ah V) (ag L[v])*sz (ah V) v) (f:Nat ->Nat) (hf:∀u,f u<sz (ah V) u) (AP:∀u,u<V.length ->A[u]? =some (f u)):
  c6 137 #[.agg #[.slice a V.length ca,.slice b L.length cb,.slice c R.length cc],.int .i64 (v:Nat),.slice d A.length cd] w (da w (dM (bG R[v] (rA (ah V) (ag L[v]) f v)))):=by
 have hT:=Vd (S:=ah V) (P:=ag L[v]) hf v;rw[<- ad] at hT;rw[qM hT];have J:∀u,sz (ah V) u<=4:=fun u=>by have:=hS.sz_le u;rwa [eM] at this
 have af:(ag L[v]).length<=8:=by rw[cV];have:=hU.length;omega
 have ay:L[v].length<=8:=by have:=hU.length;omega
 have gH:=hid (fun i=>Uq J f hf af i);have nQ:=hid (fun i (hi:i<(ag L[v]).length)=>Ur (ah V) f hi)
 have Dn:Hid (pos (ah V) f ((ag L[v]).take L[v].length)=pos (ah V) f (ag L[v])):=by
  show _=_;rw[jA (by rw[cV];omega)]
 have pC:Hid (∀u,f u<4):=fun u=>aU (hf u) (J u);have NI:=hid J;have gP:=hid hU;have av:=hid (fun u (hu:u<V.length)=>Eh hu);have eD:Hid (∀u (hu:u<V.length),sz (ah V) u=V[u].2.length):=fun u hu=>by rw[sz,Eh hu];rfl
 have BG:=hid AP;have HI:=hid h;have HA:=hid hA;have WT:rA (ah V) (ag L[v]) f v=pos (ah V) f (ag L[v])*sz (ah V) v+f v:=rfl;obtain⟨z,Z,bp,cp,rfl,gK,E,fj⟩:=h.pars v eo;obtain⟨r,O,br,cr,rfl,ai,r1,ug,Ey⟩:=h.rows v kX;obtain⟨j,n,rfl,CU,X,Y,m2⟩:=ug _ hT;obtain⟨g,m,bv,cv,rfl,AL, -,D, -, -⟩:=h.vars v hv;obtain⟨U,oa,rfl,xw,y⟩:=hA v (by rw[ba];omega)
 have ea:(iL A)[v]'(by rw[ba];omega)=((f v:Nat):Int):=by
  obtain⟨t,h2⟩:=mZ.1 (AP v hv);simp only[iL,om,h2]
 rw[ea] at y;rw[<- eD.o v hv] at D;have sN:=hid fj;have M:=hid (show _/\_/\_/\_/\_/\_/\_ from ⟨E,r1,D,y,X,Y,m2⟩);have Q5:=pC.o v;have vD:=NI.o v;have Ez:=gH.o (ag L[v]).length;rw[fD] at Ez
 have aO:R[v].length<=262144:=by
  rw[ad];have t:=qL J af;exact aR (iH t vD) a6
 have an:=hid Ey;generalize WU:rA (ah V) (ag L[v]) f v=T at *;generalize hfr:R[v][T]=fr at *;obtain⟨fn,K,Q⟩:=fr;simp only at M;clear h hA AP fj ug E r1 D y X Y m2 ad hf J hS hU ea WU hfr Ey;generalize R[v]=rl at *;generalize L[v]=l at *;have cE:=hid (LK.new w (.slice (some ⟨g,m,none⟩) V.length ca) (.slice (some ⟨z,Z,none⟩) L.length cb) (.slice (some ⟨r,O,none⟩) R.length cc));obtain⟨c0,c1,c2⟩:=cE.o.1.1.cells;have E:=(cE.o.1.2.cell (p:=⟨z,Z+v,none⟩) gK).trans M.o.1;go_enter Tryz.func137,Tryz.ntmps137;go_wp2_with fail
 generalize ((w.alloc (NC (.slice (some ⟨g,m,none⟩) V.length ca) (.slice (some ⟨z,Z,none⟩) L.length cb) (.slice (some ⟨r,O,none⟩) R.length cc))).alloc (FC false ⟨#[]⟩ ⟨#[]⟩))=w1 at *;clear c0 c1 c2 E;go_loopw [7,16] (fun kv iv wr=>∃i:Nat,i<=l.length/\iv=.int .i64 i/\kv=.int .i64 (pos (ah V) f ((ag l).take i):Nat)/\Hid (LK w wr (.slice (some ⟨g,m,none⟩) V.length ca) (.slice (some ⟨z,Z,none⟩) L.length cb) (.slice (some ⟨r,O,none⟩) R.length cc))) (fun _ iv _=>l.length - (intOf iv).toNat)
 case atStart=>exact⟨0,aS _,rfl,rfl,cE⟩
 case round=>
  obtain⟨i,hi,rfl,rfl,H⟩:=hrel;clear cE;obtain⟨c0,c1,c2⟩:=H.o.1.1.cells;have E:=(H.o.1.2.cell (p:=⟨z,Z+v,none⟩) gK).trans M.o.1;by_cases ab:i<l.length
  ·obtain⟨gl,ol,rfl,cR,l1⟩:=(sN.o.aa H.o.1.2) i ab;obtain⟨iq,ia⟩:=gP.o.nat ab;(have jG:i<(ag l).length:=by rw[cV];exact ab);have dG:=nQ.o i jG;rw[qj ab] at dG;have xr:=gH.o i;rw[<- iq] at l1;generalize l[i].toNat=u at *;obtain⟨aM,a7,bu,cu,ev,aE, -,n2, -, -⟩:=(HI.o.aa H.o.1.2).vars u ia;cases ev;rw[<- eD.o u ia] at n2;obtain⟨aG,aQ,XP,ax,a2⟩:=(HA.o.aa H.o.1.2) u (by rw[ba];omega);cases XP
   have eu:(iL A)[u]'(by rw[ba];omega)=((f u:Nat):Int):=by
    obtain⟨t,h2⟩:=mZ.1 (BG.o u ia);simp only[iL,om,h2]
   rw[eu] at a2;have aN:=pC.o u;have Vn:=NI.o u;have BA:Hid (pos (ah V) f ((ag l).take (i+1))=pos (ah V) f ((ag l).take i)*sz (ah V) u+f u):=dG;clear dG eu jG iq;generalize vO:pos (ah V) f ((ag l).take (i+1))=P1 at *;generalize pos (ah V) f ((ag l).take i)=F at *;generalize sz (ah V) u=su at *;generalize f u=fu at *;have t:F*su<=65536*4:=iH xr Vn
   have aj:IntKind.i64.wrap ((F:Int)*(su:Int))=((F*su:Nat):Int):=by
    rw[dE, <- jl];omega
   have bw:IntKind.i64.wrap (((F*su:Nat):Int)+(fu:Int))=(P1:Int):=by
    rw[dE];have:=BA.o;omega
   generalize F*su=Q0 at *;have mQ:=hid vO;clear vO t BA;go_upto_region 5 with fail
   go_quiet (fail)
   have zI:=hid (H.o.drewN nq);generalize wr.drewN nq=w2 at *;go_wp2;go_roundw
   case rel=>exact⟨i+1,al,bd,by rw[mQ.o],zI⟩
   case measure=>simp[intOf];omega
  ·obtain rfl:i=l.length:=al
   rw[Dn.o];have r1:=(H.o.1.2.cell (p:=⟨r,O+v,none⟩) ai).trans M.o.2.1;have D:=(H.o.1.2.cell (p:=⟨g,m+v*2+1,none⟩) AL).trans M.o.2.2.1;have y:=(H.o.1.2.cell (p:=⟨U,oa+v,none⟩) xw).trans M.o.2.2.2.1;have X:=(H.o.1.2.cell (p:=⟨j,n+T*3,none⟩) CU).trans M.o.2.2.2.2.1;have Y:=(H.o.1.2.cell (p:=⟨j,n+T*3+1,none⟩) CU).trans M.o.2.2.2.2.2.1;have m2:=(H.o.1.2.cell (p:=⟨j,n+T*3+2,none⟩) CU).trans M.o.2.2.2.2.2.2;have t:pos (ah V) f (ag l)*sz (ah V) v<=65536*4:=iH Ez vD;generalize pos (ah V) f (ag l)=p at *;generalize sz (ah V) v=k at *;generalize f v=x at *
   have aj:IntKind.i64.wrap ((p:Int)*(k:Int))=((p*k:Nat):Int):=by
    rw[dE, <- jl];omega
   have bw:IntKind.i64.wrap (((p*k:Nat):Int)+(x:Int))=(T:Int):=by
    rw[dE];omega
   generalize p*k=pk at *;clear WT t;go_upto_region 7 with fail
   have C6:=H.o;refine iu (S:=fun u=>u.cell? ⟨w.heap.size,2,none⟩=some (.slice (some ⟨r,O,none⟩) R.length cc)/\u.cell? ⟨r,O+v,none⟩=some (.slice (some ⟨j,n,none⟩) rl.length cr)/\u.cell? ⟨w.heap.size,0,none⟩=some (.slice (some ⟨g,m,none⟩) V.length ca)/\u.cell? ⟨g,m+v*2+1,none⟩=some (.slice bv k cv)/\u.cell? ⟨U,oa+v,none⟩=some (.int .i64 (x:Nat))/\u.cell? ⟨j,n+T*3,none⟩=some (.bool fn)/\u.cell? ⟨j,n+T*3+1,none⟩=some (.string K)/\u.cell? ⟨j,n+T*3+2,none⟩=some (.string Q)) ao ⟨c2,r1,c0,D,y,X,Y,m2⟩ (fun q=>?_);have C6:LK w wr.drew (.slice (some ⟨g,m,none⟩) V.length ca) (.slice (some ⟨z,Z,none⟩) L.length cb) (.slice (some ⟨r,O,none⟩) R.length cc):=⟨⟨H.o.1.1,H.o.1.2.drew⟩,H.o.2⟩;clear c0 c1 c2 E r1 D y X Y m2;generalize wr.drew=u0 at *;refine au 0 (.pointer (some ⟨w.heap.size,2,none⟩)) ?_;refine au 1 (.slice (some ⟨r,O,none⟩) R.length cc) ?_;refine au 2 (.int .i64 (v:Nat)) ?_;refine au 3 (.pointer (some ⟨r,O+v,none⟩)) ?_;refine au 4 (.slice (some ⟨j,n,none⟩) rl.length cr) ?_;refine au 5 (.int .i64 (p:Nat)) ?_;refine au 6 (.pointer (some ⟨w.heap.size,0,none⟩)) ?_;refine au 7 (.slice (some ⟨g,m,none⟩) V.length ca) ?_;refine au 8 (.int .i64 (v:Nat)) ?_;refine au 9 (.pointer (some ⟨g,m+v*2,none⟩)) ?_;refine au 10 (.pointer (some ⟨g,m+v*2+1,none⟩)) ?_;refine au 11 (.slice bv k cv) ?_;refine au 12 (.int .i64 (k:Nat)) ?_;refine au 13 (.int .i64 (pk:Nat)) ?_;refine au 14 (.slice (some ⟨U,oa,none⟩) A.length cd) ?_
   refine au 15 (.int .i64 (v:Nat)) ?_;refine au 16 (.pointer (some ⟨U,oa+v,none⟩)) ?_;refine au 17 (.int .i64 (x:Nat)) ?_;refine au 18 (.int .i64 (T:Nat)) ?_;refine au 19 (.pointer (some ⟨j,n+T*3,none⟩)) ?_;refine au 20 (.agg #[.bool fn,.string K,.string Q]) ?_;(try simp only[gE,aP]);obtain⟨k0,k1,k2,f0,f1,f2⟩:=C6.2.facts;(have I:w.heap.size≠w.heap.size+1:=al);(have GP:r≠w.heap.size+1:=al);(have GN:g≠w.heap.size+1:=al);(have GQ:U≠w.heap.size+1:=al);(have s:j≠w.heap.size+1:=al);refine aI [21] (cA ?_ aH);intro K' ae;go_simp;have eT:=C6.2.put fn K Q;have rG:=bL C6.1.2 (show w.heap.size<=w.heap.size+1 by omega) (.bool fn) (.string K) (.string Q)
   refine ae.o _ _ ⟨((cD _ _ _ _ (fun e=>I (bU Addr.block e).symm)).trans ((cD _ _ _ _ (fun e=>I (bU Addr.block e).symm)).trans ((cD _ _ _ _ (fun e=>I (bU Addr.block e).symm)).trans q.1))),((cD _ _ _ _ (fun e=>GP (bU Addr.block e).symm)).trans ((cD _ _ _ _ (fun e=>GP (bU Addr.block e).symm)).trans ((cD _ _ _ _ (fun e=>GP (bU Addr.block e).symm)).trans q.2.1))),((cD _ _ _ _ (fun e=>I (bU Addr.block e).symm)).trans ((cD _ _ _ _ (fun e=>I (bU Addr.block e).symm)).trans ((cD _ _ _ _ (fun e=>I (bU Addr.block e).symm)).trans q.2.2.1))),((cD _ _ _ _ (fun e=>GN (bU Addr.block e).symm)).trans ((cD _ _ _ _ (fun e=>GN (bU Addr.block e).symm)).trans ((cD _ _ _ _ (fun e=>GN (bU Addr.block e).symm)).trans q.2.2.2.1))),((cD _ _ _ _ (fun e=>GQ (bU Addr.block e).symm)).trans ((cD _ _ _ _ (fun e=>GQ (bU Addr.block e).symm)).trans ((cD _ _ _ _ (fun e=>GQ (bU Addr.block e).symm)).trans q.2.2.2.2.1))),((cD _ _ _ _ (fun e=>s (bU Addr.block e).symm)).trans ((cD _ _ _ _ (fun e=>s (bU Addr.block e).symm)).trans ((cD _ _ _ _ (fun e=>s (bU Addr.block e).symm)).trans q.2.2.2.2.2.1))),((cD _ _ _ _ (fun e=>s (bU Addr.block e).symm)).trans ((cD _ _ _ _ (fun e=>s (bU Addr.block e).symm)).trans ((cD _ _ _ _ (fun e=>s (bU Addr.block e).symm)).trans q.2.2.2.2.2.2.1))),((cD _ _ _ _ (fun e=>s (bU Addr.block e).symm)).trans ((cD _ _ _ _ (fun e=>s (bU Addr.block e).symm)).trans ((cD _ _ _ _ (fun e=>s (bU Addr.block e).symm)).trans q.2.2.2.2.2.2.2)))⟩ (fun ak=>?_)
   clear ae K' q ak k0 k1 k2 f0 f1 f2;generalize (((u0.setCell ⟨w.heap.size+1,0,none⟩ (.bool fn)).setCell ⟨w.heap.size+1,1,none⟩ (.string K)).setCell ⟨w.heap.size+1,2,none⟩ (.string Q))=u9 at *;(try simp only[gE,aP]);refine dC ao ?_ _;go_wp2;refine bD (eT.result rfl _ rfl) rfl ?_;exact⟨rfl,rG⟩
theorem aiW (a b c d:Option Addr) (ca cb cc cd v:Nat) (V:List Vr) (L:List (List Int)) (R:List (List Fr)) (A:List Nat) (w:World) (h:gO w a b c V L R) (hA:az w d (iL A)) (AY:A.length=V.length) (G0:V.length<=8) (hv:v<V.length) (eo:v<L.length) (kX:v<R.length) (hS:eW (iL (ah V))) (hU:Up L[v] V.length) (ad:R[v].length=cnt (ah V) (ag L[v])*sz (ah V) v) (f:Nat ->Nat) (hf:∀u,f u<sz (ah V) u) (AP:∀u,u<V.length ->A[u]? =some (f u)):
  c6 107 #[.agg #[.slice a V.length ca,.slice b L.length cb,.slice c R.length cc],.int .i64 (v:Nat),.slice d A.length cd] w (da w (dM (bG R[v] (rA (ah V) (ag L[v]) f v)))):=by
 have hT:=Vd (S:=ah V) (P:=ag L[v]) hf v;rw[<- ad] at hT;rw[qM hT];have J:∀u,sz (ah V) u<=4:=fun u=>by have:=hS.sz_le u;rwa [eM] at this
 have af:(ag L[v]).length<=8:=by rw[cV];have:=hU.length;omega
 have ay:L[v].length<=8:=by have:=hU.length;omega
 have gH:=hid (fun i=>Uq J f hf af i);have nQ:=hid (fun i (hi:i<(ag L[v]).length)=>Ur (ah V) f hi)
 have Dn:Hid (pos (ah V) f ((ag L[v]).take L[v].length)=pos (ah V) f (ag L[v])):=by
  show _=_;rw[jA (by rw[cV];omega)]
 have pC:Hid (∀u,f u<4):=fun u=>aU (hf u) (J u);have NI:=hid J;have gP:=hid hU;have av:=hid (fun u (hu:u<V.length)=>Eh hu);have eD:Hid (∀u (hu:u<V.length),sz (ah V) u=V[u].2.length):=fun u hu=>by rw[sz,Eh hu];rfl
 have BG:=hid AP;have HI:=hid h;have HA:=hid hA;have WT:rA (ah V) (ag L[v]) f v=pos (ah V) f (ag L[v])*sz (ah V) v+f v:=rfl;obtain⟨z,Z,bp,cp,rfl,gK,E,fj⟩:=h.pars v eo;obtain⟨r,O,br,cr,rfl,ai,r1,ug,Ey⟩:=h.rows v kX;obtain⟨j,n,rfl,CU,X,Y,m2⟩:=ug _ hT;obtain⟨g,m,bv,cv,rfl,AL, -,D, -, -⟩:=h.vars v hv;obtain⟨U,oa,rfl,xw,y⟩:=hA v (by rw[ba];omega)
 have ea:(iL A)[v]'(by rw[ba];omega)=((f v:Nat):Int):=by
  obtain⟨t,h2⟩:=mZ.1 (AP v hv);simp only[iL,om,h2]
 rw[ea] at y;rw[<- eD.o v hv] at D;have sN:=hid fj;have M:=hid (show _/\_/\_/\_/\_/\_/\_ from ⟨E,r1,D,y,X,Y,m2⟩);have Q5:=pC.o v;have vD:=NI.o v;have Ez:=gH.o (ag L[v]).length;rw[fD] at Ez
 have aO:R[v].length<=262144:=by
  rw[ad];have t:=qL J af;exact aR (iH t vD) a6
 have an:=hid Ey;generalize WU:rA (ah V) (ag L[v]) f v=T at *;generalize hfr:R[v][T]=fr at *;obtain⟨fn,K,Q⟩:=fr;simp only at M;clear h hA AP fj ug E r1 D y X Y m2 ad hf J hS hU ea WU hfr Ey;generalize R[v]=rl at *;generalize L[v]=l at *;have cE:=hid (LK.new w (.slice (some ⟨g,m,none⟩) V.length ca) (.slice (some ⟨z,Z,none⟩) L.length cb) (.slice (some ⟨r,O,none⟩) R.length cc));obtain⟨c0,c1,c2⟩:=cE.o.1.1.cells;have E:=(cE.o.1.2.cell (p:=⟨z,Z+v,none⟩) gK).trans M.o.1;go_enter Tryz.func107,Tryz.ntmps107;go_wp2_with fail
 generalize ((w.alloc (NC (.slice (some ⟨g,m,none⟩) V.length ca) (.slice (some ⟨z,Z,none⟩) L.length cb) (.slice (some ⟨r,O,none⟩) R.length cc))).alloc (FC false ⟨#[]⟩ ⟨#[]⟩))=w1 at *;clear c0 c1 c2 E;go_loopw [7,8] (fun kv iv wr=>∃i:Nat,i<=l.length/\iv=.int .i64 i/\kv=.int .i64 (pos (ah V) f ((ag l).take i):Nat)/\Hid (LK w wr (.slice (some ⟨g,m,none⟩) V.length ca) (.slice (some ⟨z,Z,none⟩) L.length cb) (.slice (some ⟨r,O,none⟩) R.length cc))) (fun _ iv _=>l.length - (intOf iv).toNat)
 case atStart=>exact⟨0,aS _,rfl,rfl,cE⟩
 case round=>
  obtain⟨i,hi,rfl,rfl,H⟩:=hrel;clear cE;obtain⟨c0,c1,c2⟩:=H.o.1.1.cells;have E:=(H.o.1.2.cell (p:=⟨z,Z+v,none⟩) gK).trans M.o.1;by_cases ab:i<l.length
  ·obtain⟨gl,ol,rfl,cR,l1⟩:=(sN.o.aa H.o.1.2) i ab;obtain⟨iq,ia⟩:=gP.o.nat ab;(have jG:i<(ag l).length:=by rw[cV];exact ab);have dG:=nQ.o i jG;rw[qj ab] at dG;have xr:=gH.o i;rw[<- iq] at l1;generalize l[i].toNat=u at *;obtain⟨aM,a7,bu,cu,ev,aE, -,n2, -, -⟩:=(HI.o.aa H.o.1.2).vars u ia;cases ev;rw[<- eD.o u ia] at n2;obtain⟨aG,aQ,XP,ax,a2⟩:=(HA.o.aa H.o.1.2) u (by rw[ba];omega);cases XP
   have eu:(iL A)[u]'(by rw[ba];omega)=((f u:Nat):Int):=by
    obtain⟨t,h2⟩:=mZ.1 (BG.o u ia);simp only[iL,om,h2]
   rw[eu] at a2;have aN:=pC.o u;have Vn:=NI.o u;have BA:Hid (pos (ah V) f ((ag l).take (i+1))=pos (ah V) f ((ag l).take i)*sz (ah V) u+f u):=dG;clear dG eu jG iq;generalize vO:pos (ah V) f ((ag l).take (i+1))=P1 at *;generalize pos (ah V) f ((ag l).take i)=F at *;generalize sz (ah V) u=su at *;generalize f u=fu at *;have t:F*su<=65536*4:=iH xr Vn
   have aj:IntKind.i64.wrap ((F:Int)*(su:Int))=((F*su:Nat):Int):=by
    rw[dE, <- jl];omega
   have bw:IntKind.i64.wrap (((F*su:Nat):Int)+(fu:Int))=(P1:Int):=by
    rw[dE];have:=BA.o;omega
   generalize F*su=Q0 at *;have mQ:=hid vO;clear vO t BA;go_upto_region 6 with fail
   go_quiet (fail)
   have zI:=hid (H.o.drewN nq);generalize wr.drewN nq=w2 at *;go_wp2;go_roundw
   case rel=>exact⟨i+1,al,bd,by rw[mQ.o],zI⟩
   case measure=>simp[intOf];omega
  ·obtain rfl:i=l.length:=al
   rw[Dn.o];have r1:=(H.o.1.2.cell (p:=⟨r,O+v,none⟩) ai).trans M.o.2.1;have D:=(H.o.1.2.cell (p:=⟨g,m+v*2+1,none⟩) AL).trans M.o.2.2.1;have y:=(H.o.1.2.cell (p:=⟨U,oa+v,none⟩) xw).trans M.o.2.2.2.1;have X:=(H.o.1.2.cell (p:=⟨j,n+T*3,none⟩) CU).trans M.o.2.2.2.2.1;have Y:=(H.o.1.2.cell (p:=⟨j,n+T*3+1,none⟩) CU).trans M.o.2.2.2.2.2.1;have m2:=(H.o.1.2.cell (p:=⟨j,n+T*3+2,none⟩) CU).trans M.o.2.2.2.2.2.2;have t:pos (ah V) f (ag l)*sz (ah V) v<=65536*4:=iH Ez vD;generalize pos (ah V) f (ag l)=p at *;generalize sz (ah V) v=k at *;generalize f v=x at *
   have aj:IntKind.i64.wrap ((p:Int)*(k:Int))=((p*k:Nat):Int):=by
    rw[dE, <- jl];omega
   have bw:IntKind.i64.wrap (((p*k:Nat):Int)+(x:Int))=(T:Int):=by
    rw[dE];omega
   generalize p*k=pk at *;clear WT t;go_upto_region 7 with fail
   have C6:=H.o;refine iu (S:=fun u=>u.cell? ⟨w.heap.size,2,none⟩=some (.slice (some ⟨r,O,none⟩) R.length cc)/\u.cell? ⟨r,O+v,none⟩=some (.slice (some ⟨j,n,none⟩) rl.length cr)/\u.cell? ⟨w.heap.size,0,none⟩=some (.slice (some ⟨g,m,none⟩) V.length ca)/\u.cell? ⟨g,m+v*2+1,none⟩=some (.slice bv k cv)/\u.cell? ⟨U,oa+v,none⟩=some (.int .i64 (x:Nat))/\u.cell? ⟨j,n+T*3,none⟩=some (.bool fn)/\u.cell? ⟨j,n+T*3+1,none⟩=some (.string K)/\u.cell? ⟨j,n+T*3+2,none⟩=some (.string Q)) ao ⟨c2,r1,c0,D,y,X,Y,m2⟩ (fun q=>?_);have C6:LK w wr.drew (.slice (some ⟨g,m,none⟩) V.length ca) (.slice (some ⟨z,Z,none⟩) L.length cb) (.slice (some ⟨r,O,none⟩) R.length cc):=⟨⟨H.o.1.1,H.o.1.2.drew⟩,H.o.2⟩;clear c0 c1 c2 E r1 D y X Y m2;generalize wr.drew=u0 at *;refine au 0 (.pointer (some ⟨w.heap.size,2,none⟩)) ?_;refine au 1 (.slice (some ⟨r,O,none⟩) R.length cc) ?_;refine au 2 (.int .i64 (v:Nat)) ?_;refine au 3 (.pointer (some ⟨r,O+v,none⟩)) ?_;refine au 4 (.slice (some ⟨j,n,none⟩) rl.length cr) ?_;refine au 5 (.int .i64 (p:Nat)) ?_;refine au 6 (.pointer (some ⟨w.heap.size,0,none⟩)) ?_;refine au 7 (.slice (some ⟨g,m,none⟩) V.length ca) ?_;refine au 8 (.int .i64 (v:Nat)) ?_;refine au 9 (.pointer (some ⟨g,m+v*2,none⟩)) ?_;refine au 10 (.pointer (some ⟨g,m+v*2+1,none⟩)) ?_;refine au 11 (.slice bv k cv) ?_;refine au 12 (.int .i64 (k:Nat)) ?_;refine au 13 (.int .i64 (pk:Nat)) ?_;refine au 14 (.slice (some ⟨U,oa,none⟩) A.length cd) ?_
   refine au 15 (.int .i64 (v:Nat)) ?_;refine au 16 (.pointer (some ⟨U,oa+v,none⟩)) ?_;refine au 17 (.int .i64 (x:Nat)) ?_;refine au 18 (.int .i64 (T:Nat)) ?_;refine au 19 (.pointer (some ⟨j,n+T*3,none⟩)) ?_;refine au 20 (.agg #[.bool fn,.string K,.string Q]) ?_;(try simp only[gE,aP]);obtain⟨k0,k1,k2,f0,f1,f2⟩:=C6.2.facts;(have I:w.heap.size≠w.heap.size+1:=al);(have GP:r≠w.heap.size+1:=al);(have GN:g≠w.heap.size+1:=al);(have GQ:U≠w.heap.size+1:=al);(have s:j≠w.heap.size+1:=al);refine aI [21] (cA ?_ aH);intro K' ae;go_simp;have eT:=C6.2.put fn K Q;have rG:=bL C6.1.2 (show w.heap.size<=w.heap.size+1 by omega) (.bool fn) (.string K) (.string Q)
   refine ae.o _ _ ⟨((cD _ _ _ _ (fun e=>I (bU Addr.block e).symm)).trans ((cD _ _ _ _ (fun e=>I (bU Addr.block e).symm)).trans ((cD _ _ _ _ (fun e=>I (bU Addr.block e).symm)).trans q.1))),((cD _ _ _ _ (fun e=>GP (bU Addr.block e).symm)).trans ((cD _ _ _ _ (fun e=>GP (bU Addr.block e).symm)).trans ((cD _ _ _ _ (fun e=>GP (bU Addr.block e).symm)).trans q.2.1))),((cD _ _ _ _ (fun e=>I (bU Addr.block e).symm)).trans ((cD _ _ _ _ (fun e=>I (bU Addr.block e).symm)).trans ((cD _ _ _ _ (fun e=>I (bU Addr.block e).symm)).trans q.2.2.1))),((cD _ _ _ _ (fun e=>GN (bU Addr.block e).symm)).trans ((cD _ _ _ _ (fun e=>GN (bU Addr.block e).symm)).trans ((cD _ _ _ _ (fun e=>GN (bU Addr.block e).symm)).trans q.2.2.2.1))),((cD _ _ _ _ (fun e=>GQ (bU Addr.block e).symm)).trans ((cD _ _ _ _ (fun e=>GQ (bU Addr.block e).symm)).trans ((cD _ _ _ _ (fun e=>GQ (bU Addr.block e).symm)).trans q.2.2.2.2.1))),((cD _ _ _ _ (fun e=>s (bU Addr.block e).symm)).trans ((cD _ _ _ _ (fun e=>s (bU Addr.block e).symm)).trans ((cD _ _ _ _ (fun e=>s (bU Addr.block e).symm)).trans q.2.2.2.2.2.1))),((cD _ _ _ _ (fun e=>s (bU Addr.block e).symm)).trans ((cD _ _ _ _ (fun e=>s (bU Addr.block e).symm)).trans ((cD _ _ _ _ (fun e=>s (bU Addr.block e).symm)).trans q.2.2.2.2.2.2.1))),((cD _ _ _ _ (fun e=>s (bU Addr.block e).symm)).trans ((cD _ _ _ _ (fun e=>s (bU Addr.block e).symm)).trans ((cD _ _ _ _ (fun e=>s (bU Addr.block e).symm)).trans q.2.2.2.2.2.2.2)))⟩ (fun ak=>?_)
   clear ae K' q ak k0 k1 k2 f0 f1 f2;generalize (((u0.setCell ⟨w.heap.size+1,0,none⟩ (.bool fn)).setCell ⟨w.heap.size+1,1,none⟩ (.string K)).setCell ⟨w.heap.size+1,2,none⟩ (.string Q))=u9 at *;(try simp only[gE,aP]);refine dC ao ?_ _;go_wp2;refine bD (eT.result rfl _ rfl) rfl ?_;exact⟨rfl,rG⟩
structure R9 (V:List Vr) (L:List (List Int)) (R:List (List Fr)):Prop where
 len:L.length=V.length
 lenR:R.length=V.length
 n8:V.length<=8
 fine:eW (iL (ah V))
 up:∀v (h:v<L.length),Up L[v] V.length
 rows:∀v (h:v<L.length) (h':v<R.length),R[v].length=cnt (ah V) (ag L[v])*sz (ah V) v
theorem M9 {f:Nat ->Int}:∀ {n:Nat},js f n=0 ->∀j,j< n ->f j=0
 |0,_,j,hj=>al
 |n+1,hz,j,hj=>by
  rw[js] at hz;by_cases e:js f n=0
  ·rw[aA e] at hz;rcases cF j n with h |h
   ·exact M9 e j h
   ·obtain rfl:j=n:=al
    exact hz
  ·rw[aB e] at hz;exact absurd hz e
theorem gD (h:aY V L R=0):R9 V L R:=by
 rw[aY] at h;by_cases a:L.length=V.length/\R.length=V.length
 ·rw[aA a] at h;by_cases b:bH L=0
  ·rw[aA b] at h;by_cases c:jB V=0
   ·rw[aA c] at h;obtain⟨g,i,u⟩:=XK a.1 b c;refine⟨a.1,a.2,al,g,fun v e=>by rw[<- a.1];exact u v e,fun v e r=>?_⟩;have d:=M9 h v al;rw[iX,List.getD_eq_getElem?_getD,List.getElem?_eq_getElem r,List.getD_eq_getElem?_getD,List.getElem?_eq_getElem e] at d;by_cases f:R[v].length=cnt (ah V) (ag L[v])*sz (ah V) v
    ·exact f
    ·simp only[zY] at d;rw[aB f] at d;exact absurd d a6
   ·rw[aB c] at h;exact absurd h c
  ·rw[aB b] at h;exact absurd h b
 ·rw[aB a] at h;exact absurd h a6
def ei (V:List Vr) (L:List (List Int)) (R:List (List Fr)) (f:Nat ->Nat) (v:Nat):Fr:=bG (R.getD v []) (rA (ah V) (ag (L.getD v [])) f v)
def jQ (V:List Vr) (L:List (List Int)) (R:List (List Fr)) (f:Nat ->Nat):Nat ->Rat
 |0=>1
 |k+1=>jQ V L R f k*aW (ei V L R f k)
theorem LQ (h:v<L.length) (a:v<R.length):ei V L R f v=bG R[v] (rA (ah V) (ag L[v]) f v):=by
 rw[ei,List.getD_eq_getElem?_getD,List.getElem?_eq_getElem a,List.getD_eq_getElem?_getD,List.getElem?_eq_getElem h];rfl
theorem abX (h:aW (ei V L R f v)=0):∀n,v< n ->jQ V L R f n=0
 |0,hn=>al
 |n+1,hn=>by
  rw[jQ];rcases cF v n with a |a
  ·rw[abX h n a,IH]
  ·obtain rfl:v=n:=al
   rw[h,Rat.mul_zero]
theorem Ve (a:R9 V L R) (e:∀u,f u<sz (ah V) u) (w:∀l∈R,fw l<=4200) (d:v<V.length):(ei V L R f v).2.1.size+(ei V L R f v).2.2.size<=4200:=by
 have c:v<L.length:=by rw[a.len];exact d
 have h:v<R.length:=by rw[a.lenR];exact d
 rw[LQ c h];have b:=Vd (S:=ah V) (P:=ag L[v]) e v;rw[<- a.rows v c h] at b;have g:=apK b;have i:=w R[v] (bB h);omega
theorem abY (a:R9 V L R) (h:∀u,f u<sz (ah V) u) (w:∀l∈R,fw l<=4200):∀k,k<=V.length ->qw (jQ V L R f k)<=2+k*4201
 |0,_=>abQ
 |k+1,hk=>by
  have b:=abY a h w k al;have c:=Ve a h w (v:=k) al;have d:=Ej (ei V L R f k).1 (ei V L R f k).2.1 (ei V L R f k).2.2;have e:=ajn (jQ V L R f k) (aW (ei V L R f k));rw[jQ,gC,kO]
  have g:qw (aW (ei V L R f k))<=4201:=by
   show qw (val _ _ _)<=4201;omega
  omega
theorem ark (q:Rat):C q=.agg #[.bool (aJ q),.string (nu q),.string (de q)]:=rfl
theorem LK.step {V:World} (h:LK w V x y z) (b:c8 V V'):LK w V' x y z:=⟨h.1.step b,h.2.aa b h.2.lt⟩
theorem LK.put {V:World} (h:LK w V x y z) {B:Nat} (c:w.heap.size+1<B) (n:Bool) (p q:ByteArray):LK w (((V.setCell ⟨B,0,none⟩ (.bool n)).setCell ⟨B,1,none⟩ (.string p)).setCell ⟨B,2,none⟩ (.string q)) x y z:=by
 have b:∀k,k≠B ->(((V.setCell ⟨B,0,none⟩ (.bool n)).setCell ⟨B,1,none⟩ (.string p)).setCell ⟨B,2,none⟩ (.string q)).heap[k]? =V.heap[k]?:=fun k a=>
  (iJ _ ⟨B,2,none⟩ _ k a).trans ((iJ _ ⟨B,1,none⟩ _ k a).trans (iJ _ ⟨B,0,none⟩ _ k a))
 exact⟨⟨(b _ al).trans h.1.1,bL h.1.2 al _ _ _⟩,(b _ al).trans h.2⟩
theorem ai9 (a b c d:Option Addr) (ca cb cc cd:Nat) (V:List Vr) (L:List (List Int)) (R:List (List Fr)) (A:List Nat) (w:World) (h:gO w a b c V L R) (Q:R9 V L R) (K:∀l∈R,fw l<=4200) (hA:az w d (iL A)) (Y:A.length=V.length) (f:Nat ->Nat) (s:∀u,f u<sz (ah V) u) (AP:∀u,u<V.length ->A[u]? =some (f u)):
  c6 61 #[.agg #[.slice a V.length ca,.slice b L.length cb,.slice c R.length cc],.slice d A.length cd] w (da w (dM (qF (jQ V L R f V.length)))):=by
 rw[Y];have G0:=Q.n8
 have ir:Hid (∀(v:Nat) (U:World),v<V.length ->gO U a b c V L R ->az U d (iL A) ->c6 107 #[.agg #[.slice a V.length ca,.slice b L.length cb,.slice c R.length cc],.int .i64 (v:Nat),.slice d V.length cd] U fun e w'=>e=.returned (dM (ei V L R f v))/\c8 U w'):=fun v U g h1 h2=>by
  have r:v<L.length:=by rw[Q.len];exact g
  have J:v<R.length:=by rw[Q.lenR];exact g
  rw[LQ r J];have:=aiW a b c d ca cb cc cd v V L R A U h1 h2 Y G0 g r J Q.fine (Q.up v r) (Q.rows v r J) f s AP;rwa [Y] at this
 have xX:Hid (∀v,v<V.length ->(ei V L R f v).2.1.size+(ei V L R f v).2.2.size<=4200):=fun v g=>Ve Q s K g
 have nQ:Hid (∀k,k<=V.length ->(nu (jQ V L R f k)).size+(de (jQ V L R f k)).size<=50000):=fun k hk=>by
  have:=abY Q s K k hk;have h2:k*4201<=8*4201:=j6 _ al;rw[lC];omega
 have ai:Hid (∀v,v<V.length ->aW (ei V L R f v)=0 ->jQ V L R f V.length=0):=fun v g h=>abX h _ g;have BA:Hid (∀k,jQ V L R f (k+1)=jQ V L R f k*aW (ei V L R f k)):=fun k=>rfl;have BB:Hid (jQ V L R f 0=1):=rfl;have HI:=hid h;have HA:=hid hA;generalize hPV:jQ V L R f=PV at *;generalize yT:ei V L R f=LF at *;clear hPV yT h hA AP s K Q Y;have I:=hid (LK.new w (.slice a V.length ca) (.slice b L.length cb) (.slice c R.length cc));go_enter Tryz.func61,Tryz.ntmps61;go_wp2_with fail
 generalize ((w.alloc (NC (.slice a V.length ca) (.slice b L.length cb) (.slice c R.length cc))).alloc (FC false ⟨#[]⟩ ⟨#[]⟩))=w1 at *;refine(abF _).af ?_;rintro e p ⟨rfl,X⟩;have ak:w.heap.size+1<p.heap.size:=(I.o.step X).2.lt;have qf:=hid ((I.o.step X).step ((aw _ p).alloc (ar _) (FC (aJ 1) (nu 1) (de 1))));have qY:=hid (aF.new p (aJ 1) (nu 1) (de 1));clear X I;go_wp2_with fail
 generalize (p.alloc (FC (aJ 1) (nu 1) (de 1)))=w3 at *;generalize p.heap.size=Bp at *;go_loopw [6] (fun iv wr=>∃v:Nat,v<=V.length/\iv=.int .i64 v/\Hid (LK w wr (.slice a V.length ca) (.slice b L.length cb) (.slice c R.length cc))/\Hid (aF wr Bp (aJ (PV v)) (nu (PV v)) (de (PV v)))) (fun iv _=>V.length - (intOf iv).toNat)
 case atStart=>exact⟨0,aS _,rfl,qf,by rw[BB.o];exact qY⟩
 case round=>
  obtain⟨v,g,rfl,H,P⟩:=hrel;clear qf qY;obtain⟨c0,c1,c2⟩:=H.o.1.1.cells;by_cases ab:v<V.length
  ·go_wp2_with fail
   refine(ir.o v _ ab (HI.o.aa H.o.1.2) (HA.o.aa H.o.1.2)).af ?_;rintro e t ⟨rfl,D⟩;have tE:=xX.o v ab;have aj:=hid (BA.o v);have QO:=ai.o v ab;have dG:=nQ.o v g;generalize LF v=lf at *;obtain⟨fn,x,y⟩:=lf;simp only at tE;have N7:=hid QO;have F:=(aw _ t).alloc (ar _) (FC fn x y);have rU:=hid ((H.o.step D).step F);have S:=hid ((P.o.aa D P.o.lt).aa F (P.o.aa D P.o.lt).lt);have q:=aF.new t fn x y;obtain⟨i,j,m, -⟩:=q.facts;clear D F H P c0 c1 c2 QO;go_wp2_with fail
   generalize (t.alloc (FC fn x y))=w5 at *;generalize t.heap.size=Bf at *;refine(T8 fn x y w5 al).af ?_;rintro e w6 ⟨rfl,E⟩;have zK:=hid (rU.o.step E);have Z:=S.o.aa E S.o.lt;have an:=q.aa E q.lt;clear E rU S i j m q;by_cases z:val fn x y=0
   ·rw[cY z];have HZ:=hid (N7.o z);clear z;go_wp2_with fail
    refine(Lt _).af ?_;rintro e w7 ⟨rfl,n⟩;have M:=zK.o.step n;obtain⟨i,j,m,f0,f1,f2⟩:=M.2.facts;have T:=M.2.put (aJ 0) (nu 0) (de 0);have O:=bL M.1.2 (show w.heap.size<=w.heap.size+1 by omega) (.bool (aJ 0)) (.string (nu 0)) (.string (de 0));go_wp2;refine bD (T.result rfl _ rfl) rfl ?_;exact⟨by rw[HZ.o];rfl,O⟩
   ·rw[cK z];clear z;obtain⟨i,j,m, -⟩:=an.facts;obtain⟨q0,q1,q2, -⟩:=Z.facts;go_wp2_with fail
    refine(abI (aJ (PV v)) fn (nu (PV v)) (de (PV v)) x y w6 dG al).af ?_;rintro e w7 ⟨rfl,n⟩;rw[gg,show val fn x y=aW (fn,x,y) from rfl, <- aj.o];have M:=zK.o.step n;have ad:=Z.aa n Z.lt;clear i j m q0 q1 q2 n;obtain⟨i,j,m,f0,f1,f2⟩:=ad.facts;have ae:=hid (ad.put (aJ (PV (v+1))) (nu (PV (v+1))) (de (PV (v+1))));have wD:=hid (M.put ak (aJ (PV (v+1))) (nu (PV (v+1))) (de (PV (v+1))));simp only[ark];go_wp2;go_roundw
    case rel=>exact⟨v+1,al,bd,wD,ae⟩
    case measure=>simp[intOf];omega
  ·obtain rfl:v=V.length:=al
   obtain⟨i,j,m,f0,f1,f2⟩:=H.o.2.facts;obtain⟨q0,q1,q2, -⟩:=P.o.facts;have T:=H.o.2.put (aJ (PV V.length)) (nu (PV V.length)) (de (PV V.length));have O:=bL H.o.1.2 (show w.heap.size<=w.heap.size+1 by omega) (.bool (aJ (PV V.length))) (.string (nu (PV V.length))) (.string (de (PV V.length)));go_wp2;refine bD (T.result rfl _ rfl) rfl ?_;exact⟨rfl,O⟩
variable {q:Rat}
theorem M8 (h:Fits m q) (a:m<=n):Fits n q:=by
 obtain⟨A,D,b,c,d,e⟩:=h;exact⟨A,D,b,c,aU d (Ji a),aU e (Ji a)⟩
theorem aeL (f g:Fr):great f g=f∨great f g=g:=by
 rw[great];by_cases h:c5 (aW f) (aW g)<0
 ·rw[aA h];exact .inr rfl
 ·rw[aB h];exact .inl rfl
theorem Ul (q:Rat):(qF q).2.1.size+(qF q).2.2.size=qw q:=rfl
theorem acu (m:Bool) (T:Nat ->Fr):∀k,(∀x,x<=k ->(T x).2.1.size+(T x).2.2.size+2<=8192) ->Fits ((k+1)*8192) (aW (mn m T k))
 |0,h=>M8 (XH _ _ _) (by have:=h 0 (ar _);show (T 0).2.1.size+(T 0).2.2.size+1<=_;omega)
 |k+1,h=>by
  have a:=acu m T k fun x c=>h x al;have b:Fits 8191 (aW (T (k+1))):=M8 (XH _ _ _) (by have:=h (k+1) (ar _);omega);rw[mn];cases m with
  |true=>
   rw[aA rfl];rcases aeL (mn true T k) (T (k+1)) with e |e
   ·rw[e];exact M8 a al
   ·rw[e];exact M8 b al
  |false=>
   rw[aB a6,qJ];exact M8 (ae5 a b) al
theorem ake (k:Nat):2*((k+1)*8192)<=2*((k+1+1)*8192):=al
theorem akd (k:Nat):8192<=2*((k+1+1)*8192):=al
theorem anG {f g:Fr} {A:Nat} (h1:f.2.1.size+f.2.2.size<=A) (h:g.2.1.size+g.2.2.size<=A):(great f g).2.1.size+(great f g).2.2.size<=A:=by
 rcases aeL f g with e |e
 ·rw[e];exact h1
 ·rw[e];exact h
theorem UB (m:Bool) (T:Nat ->Fr):∀k,(∀x,x<=k ->(T x).2.1.size+(T x).2.2.size+2<=8192) ->(mn m T k).2.1.size+(mn m T k).2.2.size<=2*((k+1)*8192)
 |0,h=>by have:=h 0 (ar _);rw[mn];omega
 |k+1,h=>by
  have b:=UB m T k fun x e=>h x al;have c:=h (k+1) (ar _);have a:=acu m T (k+1) h;rw[mn] at a⊢;cases m with
  |true=>
   rw[aA rfl];exact anG (aR b (ake k)) (aR (aR (OZ _ 2) c) (akd k))
  |false=>
   rw[aB a6] at a⊢;rw[qJ] at a;have d:=M7 a;rw[Ul];exact d
def Ys (most:Bool) (pf:Nat):Prop:=(∀args w,(callFunc pf args).run Tryz.prog w=.ok (.enter pf args) w)/\∀(f g:Fr) (V:World),f.2.1.size+f.2.2.size<=100000 ->g.2.1.size+g.2.2.size<=100000 ->c6 pf #[dM f,dM g] V fun e w'=>e=.returned (dM (if most then great f g else qF (aW f+aW g)))/\c8 V w'
theorem ajX:Ys false 127:=⟨enters_of Tryz.func127 ao rfl,fun f g V h a=>aoE (n:=f.1) (m:=g.1) (x:=f.2.1) (y:=f.2.2) (u:=g.2.1) (v:=g.2.2) (w:=V) (aW f+aW g) rfl rfl rfl h a⟩
theorem ajY:Ys true 226:=⟨enters_of Tryz.func226 ao rfl,fun f g V h a=>anF f g V h a⟩
theorem acw (m:Bool) (s:Nat) (Y:Ys m s) (z D E t j:Nat) (a c:Option Addr) (ca cc:Nat) (sizes:List Int) (lb:Array Value) (l:List Fr) (k v n:Nat) (P:Nat ->Nat) (M:∀x,x< n ->P x<l.length) (eN:1<=n) (ED:n<=4) (fF:v<sizes.length) (AH:sizes[v]=(n:Int)) (w:World)
  (ad:z<w.heap.size) (xh:w.cell? ⟨z,0,none⟩=some (.func (.func s) #[] #[])) (yX:D<w.heap.size) (xs:w.cell? ⟨D,0,none⟩=some (.slice a sizes.length ca)) (AX:E<w.heap.size) (xv:w.cell? ⟨E,0,none⟩=some (.int .i64 (v:Nat))) (vQ:t<w.heap.size) (xc:w.cell? ⟨t,1,none⟩=some (.slice c l.length cc)) (O:j<w.heap.size) (xf:w.cell? ⟨j,0,none⟩=some (.func (.func 188) #[] lb)) (hs:az w a sizes) (hf:cG w c l) (h1:Cw 8192 l)
  (Z:∀x,x< n ->∀V,c8 w V ->c6 188 (#[.int .i64 (k:Nat),.int .i64 (x:Nat)]++lb) V fun e w'=>e=.returned (.int .i64 (P x:Nat))/\c8 V w'):
  c6 192 #[.int .i64 (k:Nat),.pointer (some ⟨z,0,none⟩),.pointer (some ⟨D,0,none⟩),.pointer (some ⟨E,0,none⟩),.pointer (some ⟨t,0,none⟩),.pointer (some ⟨j,0,none⟩)] w (da w (dM (qF (aW (mn m (fun x=>bG l (P x)) (n - 1)))))):=by
 obtain⟨g,o,rfl,hg,L⟩:=hs v fF;rw[AH] at L;have J:∀x,x< n ->(bG l (P x)).2.1.size+(bG l (P x)).2.2.size+2<=8192:=fun x q=>h1 _ (M x q);have Jz:=UB m (fun x=>bG l (P x)) (n - 1) fun x q=>J x al
 have U:∀W,c8 w W ->∀A,A<W.heap.size ->W.cell? ⟨A,0,none⟩=some (.int .i64 (k:Nat)) ->c6 193 #[.agg #[.func (.func s) #[] #[]],.int .i64 (n:Nat),.func (.func 194) #[] #[.pointer (some ⟨t,0,none⟩),.pointer (some ⟨j,0,none⟩),.pointer (some ⟨A,0,none⟩)]] W (da W (dM (mn m (fun x=>bG l (P x)) (n - 1)))):=by
  intro W X A T xk;refine alX s 194 #[] _ Y.1 (enters_of Tryz.func194 ao rfl) n (fun x=>bG l (P x)) (mn m (fun x=>bG l (P x))) W eN al ?_ ?_ rfl
  ·intro x q V d;have b:=X.trans (d.af X.size);exact akl t j A c cc lb l k x (P x) (M x q) V (aU vQ b.size) ((b.cell (p:=⟨t,1,none⟩) vQ).trans xc) (aU O b.size) ((b.cell (p:=⟨j,0,none⟩) O).trans xf) (aU T d.size) ((d.cell (p:=⟨A,0,none⟩) T).trans xk) (hf.aa b) fun V' ae=>Z x q V' (b.trans (ae.af b.size))
  ·intro x q V d;have e1:=UB m (fun x=>bG l (P x)) x fun y hy=>J y al;have e2:=J (x+1) q;exact Y.2 _ _ V al (by show (bG l (P (x+1))).2.1.size+(bG l (P (x+1))).2.2.size<=_;omega)
 have R:=hid U;have Q:=hid (fun V:World=>SY (w:=V) (aW (mn m (fun x=>bG l (P x)) (n - 1))) rfl (show (mn m (fun x=>bG l (P x)) (n - 1)).2.1.size+(mn m (fun x=>bG l (P x)) (n - 1)).2.2.size<=100000 by omega));rw[M3];generalize aW (mn m (fun x=>bG l (P x)) (n - 1))=r at *;generalize mn m (fun x=>bG l (P x)) (n - 1)=f at *;clear U Jz J Z hf hs M Y xc xf;obtain⟨fn,fx,fy⟩:=f;simp only at Q R;have aj:(0:Int)<=(v:Int):=al
 have oK:(v:Int)<(sizes.length:Int):=al
 have i:aF ((w.alloc (.cells #[.int .i64 (k:Nat)] 3)).alloc (FC false ⟨#[]⟩ ⟨#[]⟩)) (w.heap.size+1) false ⟨#[]⟩ ⟨#[]⟩:=aF.at aE _ _ _;have I:Boxed ((w.alloc (.cells #[.int .i64 (k:Nat)] 3)).alloc (FC false ⟨#[]⟩ ⟨#[]⟩)) w.heap.size 3 (.int .i64 (k:Nat)):=(bh w _ _).alloc _;have b:c8 w ((w.alloc (.cells #[.int .i64 (k:Nat)] 3)).alloc (FC false ⟨#[]⟩ ⟨#[]⟩)):=((aw _ w).alloc (ar _) _).alloc aE _;go_enter Tryz.func192,Tryz.ntmps192;go_upto_region 1 with fail
 generalize ((w.alloc (.cells #[.int .i64 (k:Nat)] 3)).alloc (FC false ⟨#[]⟩ ⟨#[]⟩))=W at *;replace i:=i.drew;replace b:=b.drew;replace I:Boxed W.drew w.heap.size 3 (.int .i64 (k:Nat)):=I;have ab:∀u,c8 w u ->u.cell? ⟨z,0,none⟩=some (.func (.func s) #[] #[])/\u.cell? ⟨D,0,none⟩=some (.slice (some ⟨g,o,none⟩) sizes.length ca)/\u.cell? ⟨E,0,none⟩=some (.int .i64 (v:Nat))/\u.cell? ⟨g,o+v,none⟩=some (.int .i64 (n:Nat)):=fun u h=>⟨(h.cell (p:=⟨z,0,none⟩) ad).trans xh,(h.cell (p:=⟨D,0,none⟩) yX).trans xs,(h.cell (p:=⟨E,0,none⟩) AX).trans xv,(h.cell (p:=⟨g,_,none⟩) hg).trans L⟩;have HELD:=hid ab;clear ab xh xs xv L;refine iu (S:=fun u=>u.cell? ⟨z,0,none⟩=some (.func (.func s) #[] #[])/\u.cell? ⟨D,0,none⟩=some (.slice (some ⟨g,o,none⟩) sizes.length ca)/\u.cell? ⟨E,0,none⟩=some (.int .i64 (v:Nat))/\u.cell? ⟨g,o+v,none⟩=some (.int .i64 (n:Nat))) ao (HELD.o _ b) (fun H=>?_);generalize W.drew=u0 at *;refine au 0 (.agg #[.func (.func s) #[] #[]]) ?_;refine au 1 (.slice (some ⟨g,o,none⟩) sizes.length ca) ?_;refine au 2 (.int .i64 (v:Nat)) ?_;refine au 3 (.pointer (some ⟨g,o+v,none⟩)) ?_;refine au 4 (.int .i64 (n:Nat)) ?_;refine au 5 (.func (.func 194) #[] #[.pointer (some ⟨t,0,none⟩),.pointer (some ⟨j,0,none⟩),.pointer (some ⟨w.heap.size,0,none⟩)]) ?_;refine aI [6] (cA ?_ aH);intro F K;go_simp;refine(R.o _ b _ I.lt I.cell).af ?_;rintro e u1 ⟨rfl,d⟩;replace i:=i.aa d i.lt;clear I
 replace b:=b.trans (d.af b.size);clear H;refine K.o _ _ (HELD.o _ b) (fun H=>?_);clear K F d;refine aI [7] (cA ?_ aH);intro F K;go_simp;refine(Q.o _).af ?_;rintro e u2 ⟨rfl,d⟩;replace i:=i.aa d i.lt;replace b:=b.trans (d.af b.size);clear H;refine K.o _ _ (HELD.o _ b) (fun H=>?_);clear K F d;try simp only[gE,aP]
 obtain⟨k0,k1,k2,f0,f1,f2⟩:=i.facts;refine aI [8] (cA ?_ aH);intro F K;go_simp;have ai:=i.put (aJ r) (nu r) (de r);have pV:=bL b (g:=w.heap.size+1) al (.bool (aJ r)) (.string (nu r)) (.string (de r));generalize (((u2.setCell ⟨w.heap.size+1,0,none⟩ (.bool (aJ r))).setCell ⟨w.heap.size+1,1,none⟩ (.string (nu r))).setCell ⟨w.heap.size+1,2,none⟩ (.string (de r)))=v9 at *;refine K.o _ _ (HELD.o _ pV) (fun _=>dC ao ?_ _);clear K F H;go_wp2;refine bD (ai.result rfl _ rfl) rfl ?_;exact⟨rfl,pV⟩
def OH (w V:World) (s u v x:Value):Prop:=Boxed V w.heap.size 22 s/\NR w V (w.heap.size+1) (w.heap.size+1+1+1) u v/\Boxed V (w.heap.size+1+1) 3 x
theorem OH.step {V:World} {s u v:Value} (h:OH w V s u v x) (b:c8 V V'):OH w V' s u v x:=⟨bj h.1 b,h.2.1.step b,bj h.2.2 b⟩
theorem OH.new (w:World) (s u v x:Value):OH w ((((w.alloc (.cells #[s] 22)).alloc (TC u v)).alloc (.cells #[x] 3)).alloc (TC (.slice none 0 0) (.slice none 0 0))) s u v x:=by
 have a:Boxed (((w.alloc (.cells #[s] 22)).alloc (TC u v)).alloc (.cells #[x] 3)) (w.heap.size+1+1) 3 x:=by
  have h:=bh ((w.alloc (.cells #[s] 22)).alloc (TC u v)) 3 x;rwa [cU,cU] at h
 exact⟨(((bh w _ _).alloc _).alloc _).alloc _,⟨((bs.at aE _ _).alloc _).alloc _,bs.at aE _ _,((((aw _ w).alloc (ar _) _).alloc aE _).alloc (by simp;omega) _).alloc (by simp;omega) _⟩,a.alloc _⟩
theorem OH.off {V:World} {s u v:Value} (h:OH w V s u v x) (B j:Nat) (y:Value) (a:w.heap.size+1+1+1<B):OH w (V.setCell ⟨B,j,none⟩ y) s u v x:=⟨fA h.1 B j y al,h.2.1.off B j y al al al,fA h.2.2 B j y al⟩
theorem OH.top {V:World} {s u v:Value} (h:OH w V s u v x):w.heap.size+1+1+1<V.heap.size:=h.2.1.2.1.lt
theorem UC (S vars rest:List Nat) (v:Nat) (m:Bool) (l:List Fr):(sk S vars rest v m l).length=cnt S rest:=by simp[sk]
theorem acv (S vars rest:List Nat) (v:Nat) (m:Bool) (l:List Fr) (h:k<(sk S vars rest v m l).length):(sk S vars rest v m l)[k]=qF (aW (mn m (fun x=>bG l (pos S (aV (aT S rest k) v x) vars)) (sz S v - 1))):=by simp[sk]
theorem ahz (a b c:Option Addr) (ca cb cc:Nat) (sizes vars:List Int) (l:List Fr) (v:Nat) (w:World) (hs:az w a sizes) (hv:az w b vars) (hf:cG w c l) (hn:sizes.length<=140737488355328) (hm:vars.length<=140737488355328) (q:jZ sizes vars l.length=0) (hw:Cw 8192 l) (ak:vars.contains (v:Int)=true) (P:v<sizes.length):
  c6 146 #[.slice a sizes.length ca,.agg #[.slice b vars.length cb,.slice c l.length cc],.int .i64 (v:Nat),.bool false] w fun e w'=>vV w.heap.size (bC vars (v:Int)) (sk (ag sizes) (ag vars) (ag (bC vars (v:Int))) v false l) 0 e w'/\c8 w w':=by
 obtain⟨M,r,an⟩:=y9 q;have U:=hid (fun V h=>I8 b cb vars (v:Int) V h hm);rw[ak] at U;have Q:=fun V R T=>Ef a b c ca cb cc l.length sizes vars V R T hn hm;rw[q] at Q;have HC:=hid Q;clear Q;have av:(bC vars (v:Int)).length<=vars.length:=pJ _ _;have Vy:=r.length;have oO:=M.eight;have bI:=hid M;have gP:=hid r;have Y:=hid (vB r (v:Int));have H9:=hid (QA (v:=v) r);have gH:=hid (fun K (hK:K<cnt (ag sizes) (ag (bC vars (v:Int)))) x (I:x<sz (ag sizes) v)=>Tv q hK I);have ku:=UC (ag sizes) (ag vars) (ag (bC vars (v:Int))) v false l;have zN:=hid (fun (k:Nat) (h:k<(sk (ag sizes) (ag vars) (ag (bC vars (v:Int))) v false l).length)=>acv (ag sizes) (ag vars) (ag (bC vars (v:Int))) v false l h);have ll:=hid (fun V h=>Tu b cb vars (v:Int) V h al);generalize sk (ag sizes) (ag vars) (ag (bC vars (v:Int))) v false l=F at *;generalize bC vars (v:Int)=rest at *;have ab:=hid (fun V d cd R T=>TV a d b ca cd cb sizes rest vars v V R T M r P);have HF:=hid hf;have HW:=hid hw;have jK:=hid ku;have HN:=hid (M.sz_eq P);have wA:=hid (M.sz_le v);have uP:=hid (iM M.pos v);have sL:=hid P;clear ak q M r an hf hw ku;have S:=hid hs;have A:=hid hv;have H:=OH.new w (.slice a sizes.length ca) (.slice b vars.length cb) (.slice c l.length cc) (.int .i64 (v:Nat));have n:=H.2.1.1.c0;have c1:=H.2.1.1.c1;have s:=H.1.cell;go_enter Tryz.func146,Tryz.ntmps146;go_wp2_with fail
 generalize ((((w.alloc (.cells #[.slice a sizes.length ca] 22)).alloc (TC (.slice b vars.length cb) (.slice c l.length cc))).alloc (.cells #[.int .i64 (v:Nat)] 3)).alloc (TC (.slice none 0 0) (.slice none 0 0)))=W at *;refine(HC.o _ (S.o.aa H.2.1.2.2) (A.o.aa H.2.1.2.2)).af ?_;rintro e w1 ⟨rfl,ae⟩;replace H:=H.step ae;clear n c1 s ae;have n:=H.2.1.1.c0;have t:=H.2.2.cell;go_wp2_with fail
 refine(U.o _ (A.o.aa H.2.1.2.2)).af ?_;rintro e w2 ⟨rfl,z⟩;replace H:=H.step z;clear n t z U;go_wp2_with fail
 refine(aaD _).af ?_;rintro e j ⟨rfl,ai⟩;replace H:=H.step ai;clear ai;have aj:c8 j (j.alloc (.cells #[.func (.func 127) #[] #[]] 207)):=(aw _ j).alloc (ar _) _;have J:Boxed (j.alloc (.cells #[.func (.func 127) #[] #[]] 207)) j.heap.size 207 (.func (.func 127) #[] #[]):=bh j _ _;have cj:=H.top;replace H:=H.step aj;clear aj;have n:=H.2.1.1.c0;have t:=H.2.2.cell;go_wp2_with fail
 clear n t;generalize (j.alloc (.cells #[.func (.func 127) #[] #[]] 207))=w5 at *;generalize j.heap.size=X at *;refine(ll.o _ (A.o.aa H.2.1.2.2)).af ?_;rintro e w6 ⟨d,cd,rfl,i,lJ,O⟩;have DF:=hid (lJ.up H.2.1.2.2.size);clear lJ;replace H:=H.step O;replace J:=bj J O;clear O ll;have n:=H.2.1.1.c0;have t:=H.2.2.cell;have s:=H.1.cell;go_wp2_with fail
 refine(ab.o _ d cd (S.o.aa H.2.1.2.2) (A.o.aa H.2.1.2.2)).af ?_;rintro e m ⟨f,rfl,L,D⟩;replace H:=H.step D;replace J:=bj J D;replace i:=i.aa D;obtain⟨y,rfl⟩:=L.shape;clear n t s D ab;generalize w6.heap.size=n3 at *;have u:c8 m (m.alloc (.cells #[.func (.func 188) #[] y] 37)):=(aw _ m).alloc (ar _) _;have hY:Boxed (m.alloc (.cells #[.func (.func 188) #[] y] 37)) m.heap.size 37 (.func (.func 188) #[] y):=bh m _ _;replace H:=H.step u;replace J:=bj J u;replace L:=L.aa u;replace i:=i.aa u;have s:=H.1.cell;go_wp2_with fail
 clear u s;generalize (m.alloc (.cells #[.func (.func 188) #[] y] 37))=w8 at *;generalize m.heap.size=Z at *
 have um:=Na a d ca cd sizes rest 192 #[.pointer (some ⟨X,0,none⟩),.pointer (some ⟨w.heap.size,0,none⟩),.pointer (some ⟨w.heap.size+1+1,0,none⟩),.pointer (some ⟨w.heap.size+1,0,none⟩),.pointer (some ⟨Z,0,none⟩)] (enters_of Tryz.func192 ao rfl) F w8 (S.o.aa H.2.1.2.2) i bI.o Y.o jK.o (fun k q V g=>by
  rw[zN.o k q];have iz:k<cnt (ag sizes) (ag rest):=by rw[<- jK.o];exact q
  have E:=H.2.1.2.2.trans (g.af H.2.1.2.2.size);refine acw false 127 ajX X w.heap.size (w.heap.size+1+1) (w.heap.size+1) Z a c ca cc sizes y l k v (sz (ag sizes) v) (fun x=>pos (ag sizes) (aV (aT (ag sizes) (ag rest) k) v x) (ag vars)) (fun x I=>gH.o k iz x I) uP.o wA.o sL.o HN.o.symm V (aU J.lt g.size) (bj J g).cell (aU H.1.lt g.size) (bj H.1 g).cell (aU H.2.2.lt g.size) (bj H.2.2 g).cell (aU H.2.1.1.lt g.size) ((g.cell (p:=⟨w.heap.size+1,1,none⟩) H.2.1.1.lt).trans H.2.1.1.c1) (aU hY.lt g.size) (bj hY g).cell (S.o.aa E) (HF.o.aa E) HW.o ?_;intro x I V' ad;have z:=g.trans (ad.af g.size);have h4:=wA.o;exact((L.aa z).calls (S.o.aa (E.trans (ad.af E.size))) (i.aa z) bI.o Y.o gP.o H9.o iz al))
 have DC:=hid um;clear um;refine DC.o.af ?_;rintro e w9 ⟨G,rfl,hG,aq,xz⟩;have JD:=H.top;replace H:=H.step xz;replace i:=i.aa xz;obtain⟨k0,k1,f0,f1⟩:=H.2.1.2.1.facts;obtain⟨e1,e2,e3⟩:=H.2.1.fin al (cb:=cd) (cc:=F.length) DF.o al i aq al (.slice d rest.length cd) (.slice (some ⟨G,0,none⟩) F.length F.length) rfl rfl;go_wp2;refine bD (e1.result2 rfl _ rfl) rfl ?_;exact⟨e2,e3⟩
theorem ahA (a b c:Option Addr) (ca cb cc:Nat) (sizes vars:List Int) (l:List Fr) (v:Nat) (w:World) (hs:az w a sizes) (hv:az w b vars) (hf:cG w c l) (hn:sizes.length<=140737488355328) (hm:vars.length<=140737488355328) (q:jZ sizes vars l.length=0) (hw:Cw 8192 l) (aj:vars.contains (v:Int)=true) (T:v<sizes.length):
  c6 146 #[.slice a sizes.length ca,.agg #[.slice b vars.length cb,.slice c l.length cc],.int .i64 (v:Nat),.bool true] w fun e w'=>vV w.heap.size (bC vars (v:Int)) (sk (ag sizes) (ag vars) (ag (bC vars (v:Int))) v true l) 0 e w'/\c8 w w':=by
 obtain⟨M,r,ak⟩:=y9 q;have Y:=hid (fun V h=>I8 b cb vars (v:Int) V h hm);rw[aj] at Y;have R:=fun V U X=>Ef a b c ca cb cc l.length sizes vars V U X hn hm;rw[q] at R;have HC:=hid R;clear R;have aq:(bC vars (v:Int)).length<=vars.length:=pJ _ _;have Vy:=r.length;have oO:=M.eight;have bI:=hid M;have gP:=hid r;have Z:=hid (vB r (v:Int));have H9:=hid (QA (v:=v) r);have gH:=hid (fun K (hK:K<cnt (ag sizes) (ag (bC vars (v:Int)))) x (O:x<sz (ag sizes) v)=>Tv q hK O);have ku:=UC (ag sizes) (ag vars) (ag (bC vars (v:Int))) v true l;have zN:=hid (fun (k:Nat) (h:k<(sk (ag sizes) (ag vars) (ag (bC vars (v:Int))) v true l).length)=>acv (ag sizes) (ag vars) (ag (bC vars (v:Int))) v true l h);have ll:=hid (fun V h=>Tu b cb vars (v:Int) V h al);generalize sk (ag sizes) (ag vars) (ag (bC vars (v:Int))) v true l=F at *;generalize bC vars (v:Int)=rest at *;have ab:=hid (fun V d cd U X=>TV a d b ca cd cb sizes rest vars v V U X M r T);have HF:=hid hf;have HW:=hid hw;have jK:=hid ku;have HN:=hid (M.sz_eq T);have wA:=hid (M.sz_le v);have uP:=hid (iM M.pos v);have sL:=hid T;clear aj q M r ak hf hw ku;have S:=hid hs;have E:=hid hv;have H:=OH.new w (.slice a sizes.length ca) (.slice b vars.length cb) (.slice c l.length cc) (.int .i64 (v:Nat));have n:=H.2.1.1.c0;have c1:=H.2.1.1.c1;have t:=H.1.cell;go_enter Tryz.func146,Tryz.ntmps146;go_wp2_with fail
 generalize ((((w.alloc (.cells #[.slice a sizes.length ca] 22)).alloc (TC (.slice b vars.length cb) (.slice c l.length cc))).alloc (.cells #[.int .i64 (v:Nat)] 3)).alloc (TC (.slice none 0 0) (.slice none 0 0)))=W at *;refine(HC.o _ (S.o.aa H.2.1.2.2) (E.o.aa H.2.1.2.2)).af ?_;rintro e w1 ⟨rfl,ae⟩;replace H:=H.step ae;clear n c1 t ae;have n:=H.2.1.1.c0;have u:=H.2.2.cell;go_wp2_with fail
 refine(Y.o _ (E.o.aa H.2.1.2.2)).af ?_;rintro e w2 ⟨rfl,A⟩;replace H:=H.step A;clear n u A Y;go_wp2_with fail
 refine(aaD _).af ?_;rintro e j ⟨rfl,ai⟩;replace H:=H.step ai;clear ai;have s:c8 j (j.alloc (.cells #[.func (.func 127) #[] #[]] 207)):=(aw _ j).alloc (ar _) _;have J:Boxed (j.alloc (.cells #[.func (.func 127) #[] #[]] 207)) j.heap.size 207 (.func (.func 127) #[] #[]):=bh j _ _;have cj:=H.top;replace H:=H.step s;clear s;go_wp2_with fail
 generalize (j.alloc (.cells #[.func (.func 127) #[] #[]] 207))=av at *;generalize j.heap.size=D at *;refine(anE _).af ?_;rintro e w4 ⟨rfl,s⟩;replace H:=H.step s;replace J:=bj J s;clear s;have j0:=J.cell;have j1:=J.frozen;replace H:=H.off D 0 (.func (.func 226) #[] #[]) cj;have n:=H.2.1.1.c0;have u:=H.2.2.cell;replace J:=J.set (.func (.func 226) #[] #[]);go_wp2_with fail
 clear j0 j1 n u;generalize (w4.setCell ⟨D,0,none⟩ (.func (.func 226) #[] #[]))=w5 at *;refine(ll.o _ (E.o.aa H.2.1.2.2)).af ?_;rintro e w6 ⟨d,cd,rfl,i,lJ,Q⟩;have DF:=hid (lJ.up H.2.1.2.2.size);clear lJ;replace H:=H.step Q;replace J:=bj J Q;clear Q ll;have n:=H.2.1.1.c0;have u:=H.2.2.cell;have t:=H.1.cell;go_wp2_with fail
 refine(ab.o _ d cd (S.o.aa H.2.1.2.2) (E.o.aa H.2.1.2.2)).af ?_;rintro e m ⟨f,rfl,P,I⟩;replace H:=H.step I;replace J:=bj J I;replace i:=i.aa I;obtain⟨z,rfl⟩:=P.shape;clear n u t I ab;generalize w6.heap.size=n3 at *;have y:c8 m (m.alloc (.cells #[.func (.func 188) #[] z] 37)):=(aw _ m).alloc (ar _) _;have hY:Boxed (m.alloc (.cells #[.func (.func 188) #[] z] 37)) m.heap.size 37 (.func (.func 188) #[] z):=bh m _ _;replace H:=H.step y;replace J:=bj J y;replace P:=P.aa y;replace i:=i.aa y;have t:=H.1.cell;go_wp2_with fail
 clear y t;generalize (m.alloc (.cells #[.func (.func 188) #[] z] 37))=w8 at *;generalize m.heap.size=IC at *
 have um:=Na a d ca cd sizes rest 192 #[.pointer (some ⟨D,0,none⟩),.pointer (some ⟨w.heap.size,0,none⟩),.pointer (some ⟨w.heap.size+1+1,0,none⟩),.pointer (some ⟨w.heap.size+1,0,none⟩),.pointer (some ⟨IC,0,none⟩)] (enters_of Tryz.func192 ao rfl) F w8 (S.o.aa H.2.1.2.2) i bI.o Z.o jK.o (fun k q V g=>by
  rw[zN.o k q];have iz:k<cnt (ag sizes) (ag rest):=by rw[<- jK.o];exact q
  have L:=H.2.1.2.2.trans (g.af H.2.1.2.2.size);refine acw true 226 ajY D w.heap.size (w.heap.size+1+1) (w.heap.size+1) IC a c ca cc sizes z l k v (sz (ag sizes) v) (fun x=>pos (ag sizes) (aV (aT (ag sizes) (ag rest) k) v x) (ag vars)) (fun x O=>gH.o k iz x O) uP.o wA.o sL.o HN.o.symm V (aU J.lt g.size) (bj J g).cell (aU H.1.lt g.size) (bj H.1 g).cell (aU H.2.2.lt g.size) (bj H.2.2 g).cell (aU H.2.1.1.lt g.size) ((g.cell (p:=⟨w.heap.size+1,1,none⟩) H.2.1.1.lt).trans H.2.1.1.c1) (aU hY.lt g.size) (bj hY g).cell (S.o.aa L) (HF.o.aa L) HW.o ?_;intro x O V' ad;have A:=g.trans (ad.af g.size);have h4:=wA.o;exact((P.aa A).calls (S.o.aa (L.trans (ad.af L.size))) (i.aa A) bI.o Z.o gP.o H9.o iz al))
 have DC:=hid um;clear um;refine DC.o.af ?_;rintro e w9 ⟨G,rfl,hG,an,xz⟩;have JD:=H.top;replace H:=H.step xz;replace i:=i.aa xz;obtain⟨k0,k1,f0,f1⟩:=H.2.1.2.1.facts;obtain⟨e1,e2,e3⟩:=H.2.1.fin al (cb:=cd) (cc:=F.length) DF.o al i an al (.slice d rest.length cd) (.slice (some ⟨G,0,none⟩) F.length F.length) rfl rfl;go_wp2;refine bD (e1.result2 rfl _ rfl) rfl ?_;exact⟨e2,e3⟩
open Go.Sort Go.Lib
variable {la:List Int}
theorem abt:∀ {a b:List Int},a.Pairwise (·<·) ->b.Pairwise (·<·) ->(∀x,x∈a↔x∈b) ->a=b
 |[],[],_,_,_=>rfl
 |[],y::b,_,_,h=>absurd ((h y).2 dQ) aE
 |x::a,[],_,_,h=>absurd ((h x).1 dQ) aE
 |x::a,y::b,ha,hb,h=>by
  rw[List.pairwise_cons] at ha hb
  have e:x=y:=by
   have c:=(h x).1 dQ;have d:=(h y).2 dQ;rw[dR] at c d;rcases c with c |c
   ·exact c
   ·rcases d with d |d
    ·exact d.symm
    ·have:=hb.1 x c;have:=ha.1 y d;omega
  subst e;rw[abt ha.2 hb.2 fun z=>?_];constructor
  ·intro f;have c:=(h z).1 (eH _ f);have:=ha.1 z f;rw[dR] at c;rcases c with c |c
   ·omega
   ·exact c
  ·intro f;have c:=(h z).2 (eH _ f);have:=hb.1 z f;rw[dR] at c;rcases c with c |c
   ·omega
   ·exact c
theorem aft {d:Array Int} (s:∀i j,i<=j ->j<d.size ->d[i]!<=d[j]!):∀m,m<=d.size ->(compactUpTo d m).Pairwise (·<·)/\∀x,x∈compactUpTo d m↔∃j,j<m/\d[j]! =x
 |0,_=>⟨by simp[compactUpTo],fun x=>by simp[compactUpTo]⟩
 |m+1,hm=>by
  obtain⟨c,b⟩:=aft s m al;rw[compactUpTo_succ];by_cases k:keeps d m=true
  ·rw[aA k];constructor
   ·rw[List.pairwise_append];refine⟨c,aE,fun x g y f=>?_⟩;obtain⟨j,a,rfl⟩:=(b x).1 g;rw[dX] at f;subst f;rw[keeps,eR] at k;rcases k with k |k
    ·omega
    ·have n:=s j (m - 1) al al;have o:=s (m - 1) m al al;omega
   ·intro x;rw[dh,b,dX];constructor
    ·rintro(⟨j,a,rfl⟩ |rfl)
     ·exact⟨j,al,rfl⟩
     ·exact⟨m,al,rfl⟩
    ·rintro⟨j,a,rfl⟩;by_cases e:j=m
     ·exact .inr (by rw[e])
     ·exact .inl ⟨j,al,rfl⟩
  ·rw[aB k,F9];refine⟨c,fun x=>?_⟩;rw[b];have z:¬(m=0∨d[m]!≠d[m - 1]!):=fun h=>k (by rw[keeps,eR];exact h);have p:m≠0:=fun h=>z (.inl h);have l:d[m]! =d[m - 1]!:=Eb fun h=>z (.inr h);constructor
   ·rintro⟨j,a,rfl⟩;exact⟨j,al,rfl⟩
   ·rintro⟨j,a,rfl⟩;by_cases e:j=m
    ·exact⟨m - 1,al,by rw[e,l]⟩
    ·exact⟨j,al,rfl⟩
def kT (la lb:List Int):List Int:=Lib.compact ((la++lb).mergeSort fun x y=>decide (x<=y))
theorem Lf (la lb:List Int):(kT la lb).Pairwise (·<·)/\∀x,x∈kT la lb↔x∈la∨x∈lb:=by
 have p:((la++lb).mergeSort fun x y=>decide (x<=y)).Pairwise (fun x y=>decide (x<=y)=true):=List.pairwise_mergeSort (fun a b c d f=>by simp at d f⊢;omega) (fun a b=>by simp;omega) _;have m:∀x,x∈((la++lb).mergeSort fun x y=>decide (x<=y))↔x∈la∨x∈lb:=fun x=>by rw[List.mem_mergeSort,dh]
 rw[kT];generalize ((la++lb).mergeSort fun x y=>decide (x<=y))=s at p m
 have g:∀i j,i<=j ->j<s.toArray.size ->s.toArray[i]!<=s.toArray[j]!:=fun i j S h=>by
  have l:j<s.length:=by simpa using h
  rw[KM s.toArray i al,KM s.toArray j h];by_cases e:i=j
  ·subst e;exact Int.le_refl _
  ·have:=DZ.1 p i j al l al;simpa using this
 obtain⟨d,f⟩:=aft g s.toArray.size (ar _);have e:Lib.compact s=compactUpTo s.toArray s.toArray.size:=by rw[Lib.compact];simp
 rw[e];refine⟨d,fun x=>?_⟩;rw[f, <- m];constructor
 ·rintro⟨j,h,rfl⟩;rw[KM s.toArray j h];simp
 ·intro k;obtain⟨j,h,rfl⟩:=ij k;exact⟨j,by simpa using h,by rw[KM s.toArray j (by simpa using h)];simp⟩
theorem ahe:kT [] []=[]:=List.eq_nil_iff_forall_not_mem.2 fun x h=>by have:=((Lf [] []).2 x).1 h;simp at this
theorem I0 {lb:List Int} (b:Up la n) (c:Up lb n):Up (kT la lb) n:=by
 obtain⟨h,a⟩:=Lf la lb;exact il.2 ⟨fun x d=>((a x).1 d).elim ((il.1 b).1 x) ((il.1 c).1 x),h⟩
theorem ahv (a b:Option Addr) (ca cb:Nat) (la lb:List Int) (w:World) (D:az w a la) (F:az w b lb) (O:a=none ->ca=0) (P:b=none ->cb=0) (mD:la.length<=1000) (jF:lb.length<=1000):
  c6 195 #[.slice a la.length ca,.slice b lb.length cb] w fun e w'=>∃(d:Option Addr) (cd:Nat),e=.returned (.slice d (kT la lb).length cd)/\az w' d (kT la lb)/\eV w.heap.size d cd/\c8 w w':=by
 obtain⟨L,m⟩:∃L,L=kT la lb:=⟨_,rfl⟩;rw[<- m];have H:=hid m;have E:c8 w (w.alloc (.cells #[.slice a la.length ca,.slice b lb.length cb] 22)):=(aw _ w).alloc (ar _) _;have A:(w.alloc (.cells #[.slice a la.length ca,.slice b lb.length cb] 22)).heap[w.heap.size]? =some (.cells #[.slice a la.length ca,.slice b lb.length cb] 22 (0,0)):=jg _ _;have OG:=hid (ah7 w.heap.size a b ca cb la lb (w.alloc (.cells #[.slice a la.length ca,.slice b lb.length cb] 22)) aE (by rw[bZ _ _ _ _ _ (0,0) A];rfl) (by rw[bZ _ _ _ _ _ (0,0) A];rfl) (D.aa E) (F.aa E) O P mD jF);clear m D F O P A;go_enter Tryz.func195,Tryz.ntmps195;go_wp2_with fail
 generalize (w.alloc (.cells #[.slice a la.length ca,.slice b lb.length cb] 22))=W at *;refine OG.o.af ?_;rintro e f ⟨v,rfl,I,Q⟩;have z:=E.trans (Q.af E.size);have an:=E.size;rcases I.cases with ⟨rfl,T⟩ |⟨g,cap,rfl,ak,p,aj,ae,r⟩
 ·have Y:L=[]:=by
   have i:la=[]:=(List.append_eq_nil_iff.1 T).1;have l:lb=[]:=(List.append_eq_nil_iff.1 T).2;rw[H.o,i,l,ahe]
  subst Y;go_wp2_with fail
  refine(Tryz.slices_Sort_int_none none 0 _).af ?_;rintro e h ⟨rfl,rfl⟩;go_wp2_with fail
  refine(Tryz.slices_Compact_int_empty none 0 _).af ?_;rintro e w3 ⟨rfl,rfl⟩;go_wp2;go_ret;exact⟨none,0,rfl,fun k hk=>absurd hk aE,eV.nil _,z⟩
 ·have cN:(la++lb).length<=2000:=by rw[dm];omega
  have M:=Tryz.slices_Sort_int g 0 cap (la++lb) f r p al;have S:((la++lb).mergeSort fun x y=>decide (x<=y)).length=(la++lb).length:=O6 _;have ai:=Lib.compact_length_le ((la++lb).mergeSort fun x y=>decide (x<=y));rw[<- show kT la lb=Lib.compact ((la++lb).mergeSort fun x y=>decide (x<=y)) from rfl, <- H.o] at ai;have YO:=hid M;have ad:Hid (Lib.compact ((la++lb).mergeSort fun x y=>decide (x<=y))=L):=H.o.symm;generalize ((la++lb).mergeSort fun x y=>decide (x<=y))=s at *;have V:=hid r;clear M r I ae Q;generalize hLL:(la++lb).length=n at *;go_wp2_with fail
  refine YO.o.af ?_;rintro e h ⟨rfl,q,c,rfl⟩;have R:s.toArray.size=(la++lb).toArray.size:=by simp;rw[S, <- hLL];simp
  have X:Holds (Value.int .i64) (grow (putRow (Value.int .i64) (Sort.ahead f q) g 0 s.toArray) c) g 0 s.toArray:=fun j t=>by
   obtain⟨i,l⟩:=holds_putRow (Value.int .i64) (Sort.ahead f q) g 0 _ s.toArray V.o R j t;(have K:g<(putRow (Value.int .i64) (Sort.ahead f q) g 0 s.toArray).heap.size:=by rw[size_putRow];exact p);refine⟨(cell?_grow _ _ _ K).trans i,?_⟩;rw[frozen?_grow _ _ _ K];exact l
  have Z:g<(grow (putRow (Value.int .i64) (Sort.ahead f q) g 0 s.toArray) c).heap.size:=aU p (OU (w:=f) (g:=g) (n:=q) (os:=c) s.toArray).size;have J:=Yb (n:=q) (os:=c) s.toArray z z.size (show w.heap.size<=g by omega);generalize grow (putRow (Value.int .i64) (Sort.ahead f q) g 0 s.toArray) c=h at *;have u:=Tryz.slices_Compact_int g 0 cap s h X al al;rw[S,ad.o] at u;have ab:=hid u;have Zk:=hid X;clear u X R;go_wp2_with fail
  refine ab.o.af ?_;rintro e w3 ⟨rfl,q2,rfl⟩;go_wp2;go_ret
  have U:(L++List.replicate (n - L.length) 0).toArray.size=s.toArray.size:=by
   simp;omega
  exact⟨some ⟨g,0,none⟩,cap,rfl,EB (holds_putRow (Value.int .i64) (Sort.ahead h q2) g 0 s.toArray _ Zk.o U) (by rw[size_putRow];exact Z) (fun j t=>⟨by simp;omega,by simp[r6,t]⟩),eV.at al,Yc _ J J.size al⟩
theorem ajt (j F l n:Nat) (c d:Option Addr) (ca cb:Nat) (s t:Array Value) (la lb:List Fr) (k P Q:Nat) (Z:P<la.length) (hQ:Q<lb.length) (w:World)
  (ad:j<w.heap.size) (xa:w.cell? ⟨j,1,none⟩=some (.slice c la.length ca)) (bW:F<w.heap.size) (ya:w.cell? ⟨F,0,none⟩=some (.func (.func 225) #[] s)) (ae:l<w.heap.size) (xb:w.cell? ⟨l,1,none⟩=some (.slice d lb.length cb)) (cH:n<w.heap.size) (yb:w.cell? ⟨n,0,none⟩=some (.func (.func 225) #[] t)) (ha:cG w c la) (b:cG w d lb) (wa:Cw 100000 la) (wb:Cw 100000 lb)
  (h1:∀V,c8 w V ->c6 225 (#[.int .i64 (k:Nat)]++s) V fun e w'=>e=.returned (.int .i64 (P:Nat))/\c8 V w')
  (h2:∀V,c8 w V ->c6 225 (#[.int .i64 (k:Nat)]++t) V fun e w'=>e=.returned (.int .i64 (Q:Nat))/\c8 V w'):
  c6 196 #[.int .i64 (k:Nat),.pointer (some ⟨j,0,none⟩),.pointer (some ⟨F,0,none⟩),.pointer (some ⟨l,0,none⟩),.pointer (some ⟨n,0,none⟩)] w (da w (dM (qF (aW (bG la P)*aW (bG lb Q))))):=by
 obtain⟨g,o,rfl,hg,M,R,T⟩:=ha P Z;obtain⟨h,p,rfl,hh,U,X,Y⟩:=b Q hQ;have GF:=wa P Z;have VL:=wb Q hQ;rw[<- qM Z] at M R T;rw[<- qM hQ] at U X Y;have HC:=hid (fun V:World=>afa (w:=V) (aW (bG la P)*aW (bG lb Q)) rfl rfl rfl (show (bG la P).2.1.size+(bG la P).2.2.size<=100000 by omega) (show (bG lb Q).2.1.size+(bG lb Q).2.2.size<=100000 by omega));rw[M3];have H1:=hid h1;have H2:=hid h2;generalize aW (bG la P)*aW (bG lb Q)=r at *;clear ha b h1 h2 GF VL wa wb;generalize bG la P=f at *;generalize bG lb Q=f' at *;obtain⟨xn,xx,xy⟩:=f;obtain⟨yn,yx,yy⟩:=f';simp only at M R T U X Y HC;have i:aF (w.alloc (FC false ⟨#[]⟩ ⟨#[]⟩)) w.heap.size false ⟨#[]⟩ ⟨#[]⟩:=aF.new w _ _ _;have a:c8 w (w.alloc (FC false ⟨#[]⟩ ⟨#[]⟩)):=(aw _ w).alloc (ar _) _;go_enter Tryz.func196,Tryz.ntmps196;go_upto_region 1 with fail
 generalize (w.alloc (FC false ⟨#[]⟩ ⟨#[]⟩))=W at *;replace i:=i.drew;replace a:=a.drew;have ab:∀u,c8 w u ->u.cell? ⟨j,1,none⟩=some (.slice (some ⟨g,o,none⟩) la.length ca)/\u.cell? ⟨F,0,none⟩=some (.func (.func 225) #[] s)/\u.cell? ⟨l,1,none⟩=some (.slice (some ⟨h,p,none⟩) lb.length cb)/\u.cell? ⟨n,0,none⟩=some (.func (.func 225) #[] t)/\u.cell? ⟨g,o+P*3,none⟩=some (.bool xn)/\u.cell? ⟨g,o+P*3+1,none⟩=some (.string xx)/\u.cell? ⟨g,o+P*3+2,none⟩=some (.string xy)/\u.cell? ⟨h,p+Q*3,none⟩=some (.bool yn)/\u.cell? ⟨h,p+Q*3+1,none⟩=some (.string yx)/\u.cell? ⟨h,p+Q*3+2,none⟩=some (.string yy):=fun u e=>⟨(e.cell (p:=⟨j,1,none⟩) ad).trans xa,(e.cell (p:=⟨F,0,none⟩) bW).trans ya,(e.cell (p:=⟨l,1,none⟩) ae).trans xb,(e.cell (p:=⟨n,0,none⟩) cH).trans yb,(e.cell (p:=⟨g,_,none⟩) hg).trans M,(e.cell (p:=⟨g,_,none⟩) hg).trans R,(e.cell (p:=⟨g,_,none⟩) hg).trans T,(e.cell (p:=⟨h,_,none⟩) hh).trans U,(e.cell (p:=⟨h,_,none⟩) hh).trans X,(e.cell (p:=⟨h,_,none⟩) hh).trans Y⟩;have HELD:=hid ab;clear ab M R T U X Y xa ya xb yb
 refine iu (S:=fun u=>u.cell? ⟨j,1,none⟩=some (.slice (some ⟨g,o,none⟩) la.length ca)/\u.cell? ⟨F,0,none⟩=some (.func (.func 225) #[] s)/\u.cell? ⟨l,1,none⟩=some (.slice (some ⟨h,p,none⟩) lb.length cb)/\u.cell? ⟨n,0,none⟩=some (.func (.func 225) #[] t)/\u.cell? ⟨g,o+P*3,none⟩=some (.bool xn)/\u.cell? ⟨g,o+P*3+1,none⟩=some (.string xx)/\u.cell? ⟨g,o+P*3+2,none⟩=some (.string xy)/\u.cell? ⟨h,p+Q*3,none⟩=some (.bool yn)/\u.cell? ⟨h,p+Q*3+1,none⟩=some (.string yx)/\u.cell? ⟨h,p+Q*3+2,none⟩=some (.string yy)) ao (HELD.o _ a) (fun q=>?_);generalize W.drew=u0 at *;refine au 0 (.pointer (some ⟨j,1,none⟩)) ?_;try simp only[gE,aP]
 refine cM 1 (.slice (some ⟨g,o,none⟩) la.length ca) ?_ ?_
 ·intro J O;obtain⟨v,x,y,z,A,D,E,H,I,L⟩:=O;go_simp
 try simp only[gE,aP]
 refine cM 2 (.func (.func 225) #[] s) ?_ ?_
 ·intro J O;obtain⟨v,x,y,z,A,D,E,H,I,L⟩:=O;go_simp
 refine au 3 (.int .i64 (k:Nat)) ?_;refine au 7 (.pointer (some ⟨l,1,none⟩)) ?_;try simp only[gE,aP]
 refine cM 8 (.slice (some ⟨h,p,none⟩) lb.length cb) ?_ ?_
 ·intro J O;obtain⟨v,x,y,z,A,D,E,H,I,L⟩:=O;go_simp
 try simp only[gE,aP]
 refine cM 9 (.func (.func 225) #[] t) ?_ ?_
 ·intro J O;obtain⟨v,x,y,z,A,D,E,H,I,L⟩:=O;go_simp
 refine au 10 (.int .i64 (k:Nat)) ?_;refine aI [4] (cA ?_ aH);intro m K;go_simp;refine(H1.o _ a).af ?_;rintro e u1 ⟨rfl,b⟩;replace i:=i.aa b i.lt;replace a:=a.trans (b.af a.size);clear q;refine K.o _ _ (HELD.o _ a) (fun q=>?_);clear K m b;refine au 5 (.pointer (some ⟨g,o+P*3,none⟩)) ?_;try simp only[gE,aP]
 refine cM 6 (.agg #[.bool xn,.string xx,.string xy]) ?_ ?_
 ·intro J O;obtain⟨v,x,y,z,A,D,E,H,I,L⟩:=O;go_simp
 refine aI [11] (cA ?_ aH);intro m K;go_simp;refine(H2.o _ a).af ?_;rintro e u2 ⟨rfl,b⟩;replace i:=i.aa b i.lt;replace a:=a.trans (b.af a.size);clear q;refine K.o _ _ (HELD.o _ a) (fun q=>?_);clear K m b;refine au 12 (.pointer (some ⟨h,p+Q*3,none⟩)) ?_;try simp only[gE,aP]
 refine cM 13 (.agg #[.bool yn,.string yx,.string yy]) ?_ ?_
 ·intro J O;obtain⟨v,x,y,z,A,D,E,H,I,L⟩:=O;go_simp
 refine aI [14] (cA ?_ aH);intro m K;go_simp;refine(HC.o _).af ?_;rintro e u3 ⟨rfl,b⟩;replace i:=i.aa b i.lt;replace a:=a.trans (b.af a.size);clear q;refine K.o _ _ (HELD.o _ a) (fun q=>?_);clear K m b;try simp only[gE,aP]
 obtain⟨k0,k1,k2,f0,f1,f2⟩:=i.facts;refine aI [15] (cA ?_ aH);intro m K;go_simp;have ai:=i.put (aJ r) (nu r) (de r);have pV:=bL a (g:=w.heap.size) (ar _) (.bool (aJ r)) (.string (nu r)) (.string (de r));generalize (((u3.setCell ⟨w.heap.size,0,none⟩ (.bool (aJ r))).setCell ⟨w.heap.size,1,none⟩ (.string (nu r))).setCell ⟨w.heap.size,2,none⟩ (.string (de r)))=v9 at *;refine K.o _ _ (HELD.o _ pV) (fun _=>dC ao ?_ _);clear K m q;go_wp2;refine bD (ai.result rfl _ rfl) rfl ?_;exact⟨rfl,pV⟩
def Yr (w:World) (g:Nat) (x y z t:Value):Prop:=w.heap[g]? =some (.cells #[x,y,z,t] 58 (0,0))
theorem Yr.lt {t:Value} (h:Yr w g x y z t):g<w.heap.size:=(dS.1 h).1
def PH (w V:World) (x y z t:Value):Prop:=bs V w.heap.size x y/\bs V (w.heap.size+1) z t/\bs V (w.heap.size+1+1) (.slice none 0 0) (.slice none 0 0)/\Yr V (w.heap.size+1+1+1) x y z t/\c8 w V
theorem PH.step {V:World} {t:Value} (h:PH w V x y z t) (b:c8 V V'):PH w V' x y z t:=⟨h.1.aa b h.1.lt,h.2.1.aa b h.2.1.lt,h.2.2.1.aa b h.2.2.1.lt,(b.block _ h.2.2.2.1.lt).trans h.2.2.2.1,h.2.2.2.2.trans (b.af h.2.2.2.2.size)⟩
theorem PH.drew {V:World} {t:Value} (h:PH w V x y z t):PH w V.drew x y z t:=⟨h.1,h.2.1,h.2.2.1,h.2.2.2.1,h.2.2.2.2.drew⟩
theorem PH.new (w:World) (x y z t:Value):PH w ((((w.alloc (TC x y)).alloc (TC z t)).alloc (TC (.slice none 0 0) (.slice none 0 0))).alloc (.cells #[x,y,z,t] 58)) x y z t:=by
 refine⟨((bs.at rfl _ _).alloc _ |>.alloc _).alloc _,((bs.at aE _ _).alloc _).alloc _,(bs.at aE _ _).alloc _,?_,((((aw _ w).alloc (ar _) _).alloc aE _).alloc (by simp;omega) _).alloc (by simp;omega) _⟩;have h:=jg (((w.alloc (TC x y)).alloc (TC z t)).alloc (TC (.slice none 0 0) (.slice none 0 0))) (.cells #[x,y,z,t] 58);rw[cU,cU,cU] at h;exact h
theorem PH.row {V:World} {t:Value} (h:PH w V x y z t):(V.cell? ⟨w.heap.size+1+1+1,0,none⟩=some x/\V.cell? ⟨w.heap.size+1+1+1,1,none⟩=some y)/\V.cell? ⟨w.heap.size+1+1+1,2,none⟩=some z/\V.cell? ⟨w.heap.size+1+1+1,3,none⟩=some t:=by
 refine⟨⟨?_,?_⟩,?_,?_⟩<;>(rw[bZ _ _ _ _ _ (0,0) h.2.2.2.1];rfl)
theorem Jo {V:World} {B b:Nat} {t:TypeId} (h:Boxed V B t .nilFunc) (a:V.cell? ⟨b,j,none⟩=some x) (n:x≠.nilFunc):b≠B:=fun e=>by
 subst e;rw[bZ V b j _ _ (0,0) h] at a;match j with
 |0=>simp at a;exact n a.symm
 |j+1=>simp at a
theorem Vk {V:World} {B:Nat} {t:TypeId} {c:Option Addr} (h:Boxed V B t .nilFunc) (i:az V c l) (y:Value):az (V.setCell ⟨B,0,none⟩ y) c l:=fun k b=>by
 obtain⟨g,o,rfl,d,a⟩:=i k b;have n:=Jo h a aE;exact⟨g,o,rfl,aU d (jk V _ _).size,(cD _ _ _ _ (fun e=>n (bU Addr.block e).symm)).trans a⟩
theorem o7.nil {V:World} {B:Nat} {t:TypeId} {f:Value} {b:Option Addr} {sizes vars:List Int} (h:o7 V n m f a b ca cb sizes vars other) (d:Boxed V B t .nilFunc) (y:Value):o7 (V.setCell ⟨B,0,none⟩ y) n m f a b ca cb sizes vars other:=by
 obtain⟨v,s,k,g,ct,l,c,w,M,o,p,q,u⟩:=h;have r:∀(b j:Nat) (x:Value),V.cell? ⟨b,j,none⟩=some x ->x≠.nilFunc ->(V.setCell ⟨B,0,none⟩ y).cell? ⟨b,j,none⟩=some x:=fun b j x i c=>(cD _ _ _ _ (fun e=>Jo d i c (bU Addr.block e).symm)).trans i;exact⟨v,s,k,g,ct,l,c,w,aR M (jk V _ _).size,r _ _ _ o aE,r _ _ _ p aE,r _ _ _ q aE,Vk d u y⟩
theorem PH.nil {V:World} {t:Value} {B:Nat} {f:TypeId} (h:PH w V x y z t) (d:cP x) (e:cP z) (b:Boxed V B f .nilFunc) (c:w.heap.size<=B) (u:Value):PH w (V.setCell ⟨B,0,none⟩ u) x y z t:=by
 obtain⟨g,n,j,rfl⟩:=d;obtain⟨i,l,k,rfl⟩:=e;have a:=h.row.1.1;exact⟨h.1.off B 0 u (Jo b h.1.c0 aE),h.2.1.off B 0 u (Jo b h.2.1.c0 aE),h.2.2.1.off B 0 u (Jo b h.2.2.1.c0 aE),(iJ V ⟨B,0,none⟩ u _ (Jo b a aE)).trans h.2.2.2.1,h.2.2.2.2.setCell (p:=⟨B,0,none⟩) c u⟩
theorem abZ (S a b U:List Nat) (la lb:List Fr):(wL S a b U la lb).length=cnt S U:=by simp[wL]
theorem ajs (S a b U:List Nat) (la lb:List Fr) (h:k<(wL S a b U la lb).length):(wL S a b U la lb)[k]=qF (aW (bG la (pos S (aT S U k) a))*aW (bG lb (pos S (aT S U k) b))):=by simp[wL]
theorem aaV {sizes vars U:List Int} (k:jZ sizes vars m=0) (b:K<cnt (ag sizes) (ag U)):pos (ag sizes) (aT (ag sizes) (ag U) K) (ag vars)<m:=by
 obtain⟨h,c,a⟩:=y9 k;rw[a];exact rq _ (fun u=>o6 h.pos _ _ u b) _
theorem ahy (a b c Q c':Option Addr) (ca cb cc T kZ:Nat) (sizes E F:List Int) (la lb:List Fr) (w:World) (hs:az w a sizes) (wY:az w b E) (vE:az w Q F) (CV:cG w c la) (aG:cG w c' lb) (hn:sizes.length<=140737488355328) (bo:E.length<=140737488355328) (bp:F.length<=140737488355328) (av:b=none ->cb=0) (EL:Q=none ->T=0) (ai:jZ sizes E la.length=0) (aj:jZ sizes F lb.length=0) (Vx:Cw 100000 la) (aO:Cw 100000 lb):
  c6 147 #[.slice a sizes.length ca,.agg #[.slice b E.length cb,.slice c la.length cc],.agg #[.slice Q F.length T,.slice c' lb.length kZ]] w fun e w'=>vV w.heap.size (kT E F) (wL (ag sizes) (ag E) (ag F) (ag (kT E F)) la lb) 0 e w'/\c8 w w':=by
 obtain⟨aM,nE, -⟩:=y9 ai;obtain⟨-,Gy, -⟩:=y9 aj;obtain⟨R,jb,ak⟩:∃R:Nat ->Int,R 0=jZ sizes E la.length/\R 1=jZ sizes F lb.length:=⟨fun i=>if i=0 then jZ sizes E la.length else jZ sizes F lb.length,rfl,rfl⟩
 have a6:Hid (∀i,i< 2 ->R i=0):=by
  intro i s;by_cases h:i=0
  ·subst h;rw[jb];exact ai
  ·obtain rfl:i=1:=al
   rw[ak];exact aj
 have oO:=aM.eight;have mD:=nE.length;have jF:=Gy.length;have zq:=hid (fun V h1 h2=>ahv b Q cb T E F V h1 h2 av EL al al);have Dn:=hid (fun K (hK:K<cnt (ag sizes) (ag (kT E F)))=>aaV ai hK);have uM:=hid (fun K (hK:K<cnt (ag sizes) (ag (kT E F)))=>aaV aj hK);have jK:=hid (abZ (ag sizes) (ag E) (ag F) (ag (kT E F)) la lb);have zN:=hid (fun (k:Nat) (h:k<(wL (ag sizes) (ag E) (ag F) (ag (kT E F)) la lb).length)=>ajs (ag sizes) (ag E) (ag F) (ag (kT E F)) la lb h);have p9:=hid (I0 nE Gy);generalize wL (ag sizes) (ag E) (ag F) (ag (kT E F)) la lb=FL at *;generalize kT E F=U at *;have NX:=hid (fun V d cd h1 h2=>TU a d b ca cd cb sizes U E V h1 h2 aM nE);have Z:=hid (fun V d cd h1 h2=>TU a d Q ca cd T sizes U F V h1 h2 aM Gy);have bI:=hid aM;have a7:=hid nE;have a8:=hid Gy;have BG:=hid CV;have a1:=hid aG;have bb:=hid Vx;have NT:=hid aO;clear ai aj aM nE Gy CV aG Vx aO av EL
 have aQ:∀i,i< 2 ->∃(p q:Option Addr) (n m cp cq:Nat) (r:Int),(∀V,PH w V (.slice b E.length cb) (.slice c la.length cc) (.slice Q F.length T) (.slice c' lb.length kZ) ->V.cell? ⟨w.heap.size+1+1+1,i*2,none⟩=some (.slice p n cp)/\V.cell? ⟨w.heap.size+1+1+1,i*2+1,none⟩=some (.slice q m cq))/\(∀V,c8 w V ->c6 81 #[.slice a sizes.length ca,.agg #[.slice p n cp,.slice q m cq]] V fun e w'=>e=.returned (.int .i64 r)/\c8 V w')/\R i=r:=by
  intro i s;by_cases h:i=0
  ·subst h;exact⟨b,c,E.length,la.length,cb,cc,_,fun V h=>h.row.1,fun V h=>Ef a b c ca cb cc la.length sizes E V (hs.aa h) (wY.aa h) hn bo,jb⟩
  ·obtain rfl:i=1:=al
   exact⟨Q,c',F.length,lb.length,T,kZ,_,fun V h=>h.row.2,fun V h=>Ef a Q c' ca T kZ lb.length sizes F V (hs.aa h) (vE.aa h) hn bp,ak⟩
 have Oa:=hid aQ;have I:=hid hs;have Kh:=hid wY;have Y:=hid vE;clear aQ jb ak hs wY vE;have H:=PH.new w (.slice b E.length cb) (.slice c la.length cc) (.slice Q F.length T) (.slice c' lb.length kZ);have c0:=H.1.c0;have c1:=H.1.c1;have c2:=H.2.1.c0;have c3:=H.2.1.c1;go_enter Tryz.func147,Tryz.ntmps147;go_wp2_with fail
 generalize ((((w.alloc (TC (.slice b E.length cb) (.slice c la.length cc))).alloc (TC (.slice Q F.length T) (.slice c' lb.length kZ))).alloc (TC (.slice none 0 0) (.slice none 0 0))).alloc (.cells #[.slice b E.length cb,.slice c la.length cc,.slice Q F.length T,.slice c' lb.length kZ] 58))=W at *;have an:=hid H;clear c0 c1 c2 c3 H;go_loopw [18] (fun iv wr=>∃i:Nat,i<=2/\iv=.int .i64 i/\Hid (∀j,j< i ->R j=0)/\Hid (PH w wr (.slice b E.length cb) (.slice c la.length cc) (.slice Q F.length T) (.slice c' lb.length kZ))) (fun iv _=>2 - (intOf iv).toNat)
 case atStart=>exact⟨0,al,rfl,fun j hj=>absurd hj al,an⟩
 case round=>
  obtain⟨i,s,rfl,HZ,HP⟩:=hrel;clear an;by_cases aN:i<2
  ·obtain⟨p,q,n,m,cp,cq,r,aE,ay,hr⟩:=Oa.o i aN;obtain⟨d0,d1⟩:=aE _ HP.o;have eQ:=hid ay;have HR:=hid hr;clear aE ay hr;have ad:c8 wr (wr.alloc (TC (.slice p n cp) (.slice q m cq))):=(aw _ wr).alloc (ar _) _;have hx:=bs.at (w:=wr) rfl (.slice p n cp) (.slice q m cq);have e0:=hx.c0;have e1:=hx.c1;go_wp2_with fail
   replace HP:=hid (HP.o.step ad);clear d0 d1 e0 e1 ad;generalize (wr.alloc (TC (.slice p n cp) (.slice q m cq)))=w2 at *;refine(eQ.o _ HP.o.2.2.2.2).af ?_;rintro e w3 ⟨rfl,ax⟩;replace HP:=hid (HP.o.step ax);clear ax hx;by_cases L6:r=0
   ·subst L6;go_wp2;go_roundw
    case rel=>exact⟨i+1,al,bd,fun j hj=>by
      by_cases e:j=i
      ·rw[e];exact HR.o
      ·exact HZ.o j al,HP⟩
    case measure=>simp[intOf];omega
   ·have vP:=a6.o i aN;rw[HR.o] at vP;exact absurd vP L6
  ·obtain rfl:i=2:=al
   have H:=HP.o;have c0:=H.1.c0;have c2:=H.2.1.c0;clear HP HZ Oa;go_wp2_with fail
   refine(zq.o _ (Kh.o.aa H.2.2.2.2) (Y.o.aa H.2.2.2.2)).af ?_;rintro e w1 ⟨d,cd,rfl,s,lJ,ad⟩;have DF:=hid (lJ.up H.2.2.2.2.size);clear lJ;replace H:=H.step ad;clear c0 c2 ad;go_upto_region 9 with fail
   replace H:=H.drew;replace s:az w1.drew d U:=s;refine iu (S:=fun u=>u.cell? ⟨w.heap.size,0,none⟩=some (.slice b E.length cb)/\u.cell? ⟨w.heap.size+1,0,none⟩=some (.slice Q F.length T)) ao ⟨H.1.c0,H.2.1.c0⟩ (fun y=>?_);generalize w1.drew=P at *;refine au 0 (.slice a sizes.length ca) ?_;refine au 1 (.slice d U.length cd) ?_;refine au 2 (.pointer (some ⟨w.heap.size,0,none⟩)) ?_;refine au 3 (.slice b E.length cb) ?_;refine au 5 (.slice a sizes.length ca) ?_;refine au 6 (.slice d U.length cd) ?_;refine au 7 (.pointer (some ⟨w.heap.size+1,0,none⟩)) ?_;refine au 8 (.slice Q F.length T) ?_;refine aI [4,10,11] (cA ?_ (cA ?_ (cA ?_ aH)))
   focus
    intro x l;go_simp;refine(NX.o _ d cd (I.o.aa H.2.2.2.2) (Kh.o.aa H.2.2.2.2)).af ?_;rintro e u1 ⟨f,rfl,v,g⟩;obtain⟨X,rfl⟩:=v.shape;replace H:=H.step g;replace s:=s.aa g;clear y;refine l.o _ _ ⟨H.1.c0,H.2.1.c0⟩ (fun y=>?_);clear l x g;generalize P.heap.size=na at v;generalize u1.heap.size=ma at v;refine aI [9,10,11] (cA ?_ (cA ?_ (cA ?_ aH)))
    focus
     intro x l;go_simp;refine(Z.o _ d cd (I.o.aa H.2.2.2.2) (Y.o.aa H.2.2.2.2)).af ?_;rintro e u2 ⟨f,rfl,z,g⟩;obtain⟨L,rfl⟩:=z.shape;replace H:=H.step g;replace s:=s.aa g;replace v:=v.aa g;clear y;refine l.o _ _ ⟨H.1.c0,H.2.1.c0⟩ (fun y=>?_);clear l x g;generalize u1.heap.size=nb at z;generalize u2.heap.size=mb at z;refine aI [10,11] (cA ?_ (cA ?_ aH))
     focus
      intro x l;go_simp;have g:c8 u2 (u2.alloc (.cells #[.nilFunc] 133)):=(aw _ u2).alloc (ar _) _;have A:Boxed (u2.alloc (.cells #[.nilFunc] 133)) u2.heap.size 133 .nilFunc:=bh u2 _ _;have bQ:=H.2.2.2.2.size;replace H:=H.step g;replace s:=s.aa g;replace v:=v.aa g;replace z:=z.aa g;clear y;refine l.o _ _ ⟨H.1.c0,H.2.1.c0⟩ (fun y=>?_);clear l x g;generalize (u2.alloc (.cells #[.nilFunc] 133))=t at *;generalize u2.heap.size=J at *;refine aI [11] (cA ?_ aH);intro x l;go_simp;have g:c8 t (t.alloc (.cells #[.nilFunc] 133)):=(aw _ t).alloc (ar _) _;have D:Boxed (t.alloc (.cells #[.nilFunc] 133)) t.heap.size 133 .nilFunc:=bh t _ _;have vu:=H.2.2.2.2.size;(have ne:J≠t.heap.size:=by have:=A.lt;omega);replace H:=H.step g;replace s:=s.aa g;replace v:=v.aa g;replace z:=z.aa g;replace A:=bj A g;clear y;refine l.o _ _ ⟨H.1.c0,H.2.1.c0⟩ (fun y=>?_);clear l x g;generalize (t.alloc (.cells #[.nilFunc] 133))=O at *;generalize t.heap.size=M at *
     rotate_left
     focus
      intro x l;go_simp;have g:c8 u2 (u2.alloc (.cells #[.nilFunc] 133)):=(aw _ u2).alloc (ar _) _;have D:Boxed (u2.alloc (.cells #[.nilFunc] 133)) u2.heap.size 133 .nilFunc:=bh u2 _ _;have vu:=H.2.2.2.2.size;replace H:=H.step g;replace s:=s.aa g;replace v:=v.aa g;replace z:=z.aa g;clear y;refine l.o _ _ ⟨H.1.c0,H.2.1.c0⟩ (fun y=>?_);clear l x g;generalize (u2.alloc (.cells #[.nilFunc] 133))=t at *;generalize u2.heap.size=M at *;refine aI [10] (cA ?_ aH);intro x l;go_simp;have g:c8 t (t.alloc (.cells #[.nilFunc] 133)):=(aw _ t).alloc (ar _) _;have A:Boxed (t.alloc (.cells #[.nilFunc] 133)) t.heap.size 133 .nilFunc:=bh t _ _;have bQ:=H.2.2.2.2.size;(have ne:M≠t.heap.size:=by have:=D.lt;omega);replace H:=H.step g;replace s:=s.aa g;replace v:=v.aa g;replace z:=z.aa g;replace D:=bj D g;clear y;refine l.o _ _ ⟨H.1.c0,H.2.1.c0⟩ (fun y=>?_);clear l x g;generalize (t.alloc (.cells #[.nilFunc] 133))=O at *;generalize t.heap.size=J at *
    rotate_left 2
    focus
     intro x l;go_simp;have g:c8 u1 (u1.alloc (.cells #[.nilFunc] 133)):=(aw _ u1).alloc (ar _) _;have A:Boxed (u1.alloc (.cells #[.nilFunc] 133)) u1.heap.size 133 .nilFunc:=bh u1 _ _;have bQ:=H.2.2.2.2.size;replace H:=H.step g;replace s:=s.aa g;replace v:=v.aa g;clear y;refine l.o _ _ ⟨H.1.c0,H.2.1.c0⟩ (fun y=>?_);clear l x g;generalize (u1.alloc (.cells #[.nilFunc] 133))=u2 at *;generalize u1.heap.size=J at *;refine aI [9,11] (cA ?_ (cA ?_ aH))
     focus
      intro x l;go_simp;refine(Z.o _ d cd (I.o.aa H.2.2.2.2) (Y.o.aa H.2.2.2.2)).af ?_;rintro e t ⟨f,rfl,z,g⟩;obtain⟨L,rfl⟩:=z.shape;replace H:=H.step g;replace s:=s.aa g;replace v:=v.aa g;replace A:=bj A g;clear y;refine l.o _ _ ⟨H.1.c0,H.2.1.c0⟩ (fun y=>?_);clear l x g;generalize u2.heap.size=nb at z;generalize t.heap.size=mb at z;refine aI [11] (cA ?_ aH);intro x l;go_simp;have g:c8 t (t.alloc (.cells #[.nilFunc] 133)):=(aw _ t).alloc (ar _) _;have D:Boxed (t.alloc (.cells #[.nilFunc] 133)) t.heap.size 133 .nilFunc:=bh t _ _;have vu:=H.2.2.2.2.size;(have ne:J≠t.heap.size:=by have:=A.lt;omega);replace H:=H.step g;replace s:=s.aa g;replace v:=v.aa g;replace z:=z.aa g;replace A:=bj A g;clear y;refine l.o _ _ ⟨H.1.c0,H.2.1.c0⟩ (fun y=>?_);clear l x g;generalize (t.alloc (.cells #[.nilFunc] 133))=O at *;generalize t.heap.size=M at *
     rotate_left
     focus
      intro x l;go_simp;have g:c8 u2 (u2.alloc (.cells #[.nilFunc] 133)):=(aw _ u2).alloc (ar _) _;have D:Boxed (u2.alloc (.cells #[.nilFunc] 133)) u2.heap.size 133 .nilFunc:=bh u2 _ _;have vu:=H.2.2.2.2.size;(have ne:J≠u2.heap.size:=by have:=A.lt;omega);replace H:=H.step g;replace s:=s.aa g;replace v:=v.aa g;replace A:=bj A g;clear y;refine l.o _ _ ⟨H.1.c0,H.2.1.c0⟩ (fun y=>?_);clear l x g;generalize (u2.alloc (.cells #[.nilFunc] 133))=t at *;generalize u2.heap.size=M at *;refine aI [9] (cA ?_ aH);intro x l;go_simp;refine(Z.o _ d cd (I.o.aa H.2.2.2.2) (Y.o.aa H.2.2.2.2)).af ?_;rintro e O ⟨f,rfl,z,g⟩;obtain⟨L,rfl⟩:=z.shape;replace H:=H.step g;replace s:=s.aa g;replace v:=v.aa g;replace A:=bj A g;replace D:=bj D g;clear y;refine l.o _ _ ⟨H.1.c0,H.2.1.c0⟩ (fun y=>?_);clear l x g;generalize t.heap.size=nb at z;generalize O.heap.size=mb at z
    rotate_left 2
    focus
     intro x l;go_simp;have g:c8 u1 (u1.alloc (.cells #[.nilFunc] 133)):=(aw _ u1).alloc (ar _) _;have D:Boxed (u1.alloc (.cells #[.nilFunc] 133)) u1.heap.size 133 .nilFunc:=bh u1 _ _;have vu:=H.2.2.2.2.size;replace H:=H.step g;replace s:=s.aa g;replace v:=v.aa g;clear y;refine l.o _ _ ⟨H.1.c0,H.2.1.c0⟩ (fun y=>?_);clear l x g;generalize (u1.alloc (.cells #[.nilFunc] 133))=u2 at *;generalize u1.heap.size=M at *;refine aI [9,10] (cA ?_ (cA ?_ aH))
     focus
      intro x l;go_simp;refine(Z.o _ d cd (I.o.aa H.2.2.2.2) (Y.o.aa H.2.2.2.2)).af ?_;rintro e t ⟨f,rfl,z,g⟩;obtain⟨L,rfl⟩:=z.shape;replace H:=H.step g;replace s:=s.aa g;replace v:=v.aa g;replace D:=bj D g;clear y;refine l.o _ _ ⟨H.1.c0,H.2.1.c0⟩ (fun y=>?_);clear l x g;generalize u2.heap.size=nb at z;generalize t.heap.size=mb at z;refine aI [10] (cA ?_ aH);intro x l;go_simp;have g:c8 t (t.alloc (.cells #[.nilFunc] 133)):=(aw _ t).alloc (ar _) _;have A:Boxed (t.alloc (.cells #[.nilFunc] 133)) t.heap.size 133 .nilFunc:=bh t _ _;have bQ:=H.2.2.2.2.size;(have ne:M≠t.heap.size:=by have:=D.lt;omega);replace H:=H.step g;replace s:=s.aa g;replace v:=v.aa g;replace z:=z.aa g;replace D:=bj D g;clear y;refine l.o _ _ ⟨H.1.c0,H.2.1.c0⟩ (fun y=>?_);clear l x g;generalize (t.alloc (.cells #[.nilFunc] 133))=O at *;generalize t.heap.size=J at *
     rotate_left
     focus
      intro x l;go_simp;have g:c8 u2 (u2.alloc (.cells #[.nilFunc] 133)):=(aw _ u2).alloc (ar _) _;have A:Boxed (u2.alloc (.cells #[.nilFunc] 133)) u2.heap.size 133 .nilFunc:=bh u2 _ _;have bQ:=H.2.2.2.2.size;(have ne:M≠u2.heap.size:=by have:=D.lt;omega);replace H:=H.step g;replace s:=s.aa g;replace v:=v.aa g;replace D:=bj D g;clear y;refine l.o _ _ ⟨H.1.c0,H.2.1.c0⟩ (fun y=>?_);clear l x g;generalize (u2.alloc (.cells #[.nilFunc] 133))=t at *;generalize u2.heap.size=J at *;refine aI [9] (cA ?_ aH);intro x l;go_simp;refine(Z.o _ d cd (I.o.aa H.2.2.2.2) (Y.o.aa H.2.2.2.2)).af ?_;rintro e O ⟨f,rfl,z,g⟩;obtain⟨L,rfl⟩:=z.shape;replace H:=H.step g;replace s:=s.aa g;replace v:=v.aa g;replace A:=bj A g;replace D:=bj D g;clear y;refine l.o _ _ ⟨H.1.c0,H.2.1.c0⟩ (fun y=>?_);clear l x g;generalize t.heap.size=nb at z;generalize O.heap.size=mb at z
   rotate_left 6
   focus
    intro x l;go_simp;have g:c8 P (P.alloc (.cells #[.nilFunc] 133)):=(aw _ P).alloc (ar _) _;have A:Boxed (P.alloc (.cells #[.nilFunc] 133)) P.heap.size 133 .nilFunc:=bh P _ _;have bQ:=H.2.2.2.2.size;replace H:=H.step g;replace s:=s.aa g;clear y;refine l.o _ _ ⟨H.1.c0,H.2.1.c0⟩ (fun y=>?_);clear l x g;generalize (P.alloc (.cells #[.nilFunc] 133))=u1 at *;generalize P.heap.size=J at *;refine aI [4,11] (cA ?_ (cA ?_ aH))
    focus
     intro x l;go_simp;refine(NX.o _ d cd (I.o.aa H.2.2.2.2) (Kh.o.aa H.2.2.2.2)).af ?_;rintro e u2 ⟨f,rfl,v,g⟩;obtain⟨X,rfl⟩:=v.shape;replace H:=H.step g;replace s:=s.aa g;replace A:=bj A g;clear y;refine l.o _ _ ⟨H.1.c0,H.2.1.c0⟩ (fun y=>?_);clear l x g;generalize u1.heap.size=na at v;generalize u2.heap.size=ma at v;refine aI [9,11] (cA ?_ (cA ?_ aH))
     focus
      intro x l;go_simp;refine(Z.o _ d cd (I.o.aa H.2.2.2.2) (Y.o.aa H.2.2.2.2)).af ?_;rintro e t ⟨f,rfl,z,g⟩;obtain⟨L,rfl⟩:=z.shape;replace H:=H.step g;replace s:=s.aa g;replace v:=v.aa g;replace A:=bj A g;clear y;refine l.o _ _ ⟨H.1.c0,H.2.1.c0⟩ (fun y=>?_);clear l x g;generalize u2.heap.size=nb at z;generalize t.heap.size=mb at z;refine aI [11] (cA ?_ aH);intro x l;go_simp;have g:c8 t (t.alloc (.cells #[.nilFunc] 133)):=(aw _ t).alloc (ar _) _;have D:Boxed (t.alloc (.cells #[.nilFunc] 133)) t.heap.size 133 .nilFunc:=bh t _ _;have vu:=H.2.2.2.2.size;(have ne:J≠t.heap.size:=by have:=A.lt;omega);replace H:=H.step g;replace s:=s.aa g;replace v:=v.aa g;replace z:=z.aa g;replace A:=bj A g;clear y;refine l.o _ _ ⟨H.1.c0,H.2.1.c0⟩ (fun y=>?_);clear l x g;generalize (t.alloc (.cells #[.nilFunc] 133))=O at *;generalize t.heap.size=M at *
     rotate_left
     focus
      intro x l;go_simp;have g:c8 u2 (u2.alloc (.cells #[.nilFunc] 133)):=(aw _ u2).alloc (ar _) _;have D:Boxed (u2.alloc (.cells #[.nilFunc] 133)) u2.heap.size 133 .nilFunc:=bh u2 _ _;have vu:=H.2.2.2.2.size;(have ne:J≠u2.heap.size:=by have:=A.lt;omega);replace H:=H.step g;replace s:=s.aa g;replace v:=v.aa g;replace A:=bj A g;clear y;refine l.o _ _ ⟨H.1.c0,H.2.1.c0⟩ (fun y=>?_);clear l x g;generalize (u2.alloc (.cells #[.nilFunc] 133))=t at *;generalize u2.heap.size=M at *;refine aI [9] (cA ?_ aH);intro x l;go_simp;refine(Z.o _ d cd (I.o.aa H.2.2.2.2) (Y.o.aa H.2.2.2.2)).af ?_;rintro e O ⟨f,rfl,z,g⟩;obtain⟨L,rfl⟩:=z.shape;replace H:=H.step g;replace s:=s.aa g;replace v:=v.aa g;replace A:=bj A g;replace D:=bj D g;clear y;refine l.o _ _ ⟨H.1.c0,H.2.1.c0⟩ (fun y=>?_);clear l x g;generalize t.heap.size=nb at z;generalize O.heap.size=mb at z
    rotate_left 2
    focus
     intro x l;go_simp;have g:c8 u1 (u1.alloc (.cells #[.nilFunc] 133)):=(aw _ u1).alloc (ar _) _;have D:Boxed (u1.alloc (.cells #[.nilFunc] 133)) u1.heap.size 133 .nilFunc:=bh u1 _ _;have vu:=H.2.2.2.2.size;(have ne:J≠u1.heap.size:=by have:=A.lt;omega);replace H:=H.step g;replace s:=s.aa g;replace A:=bj A g;clear y;refine l.o _ _ ⟨H.1.c0,H.2.1.c0⟩ (fun y=>?_);clear l x g;generalize (u1.alloc (.cells #[.nilFunc] 133))=u2 at *;generalize u1.heap.size=M at *;refine aI [4] (cA ?_ aH);intro x l;go_simp;refine(NX.o _ d cd (I.o.aa H.2.2.2.2) (Kh.o.aa H.2.2.2.2)).af ?_;rintro e t ⟨f,rfl,v,g⟩;obtain⟨X,rfl⟩:=v.shape;replace H:=H.step g;replace s:=s.aa g;replace A:=bj A g;replace D:=bj D g;clear y;refine l.o _ _ ⟨H.1.c0,H.2.1.c0⟩ (fun y=>?_);clear l x g;generalize u2.heap.size=na at v;generalize t.heap.size=ma at v;refine aI [9] (cA ?_ aH);intro x l;go_simp;refine(Z.o _ d cd (I.o.aa H.2.2.2.2) (Y.o.aa H.2.2.2.2)).af ?_;rintro e O ⟨f,rfl,z,g⟩;obtain⟨L,rfl⟩:=z.shape;replace H:=H.step g;replace s:=s.aa g;replace v:=v.aa g;replace A:=bj A g;replace D:=bj D g;clear y;refine l.o _ _ ⟨H.1.c0,H.2.1.c0⟩ (fun y=>?_);clear l x g;generalize t.heap.size=nb at z;generalize O.heap.size=mb at z
   rotate_left 3
   focus
    intro x l;go_simp;have g:c8 P (P.alloc (.cells #[.nilFunc] 133)):=(aw _ P).alloc (ar _) _;have D:Boxed (P.alloc (.cells #[.nilFunc] 133)) P.heap.size 133 .nilFunc:=bh P _ _;have vu:=H.2.2.2.2.size;replace H:=H.step g;replace s:=s.aa g;clear y;refine l.o _ _ ⟨H.1.c0,H.2.1.c0⟩ (fun y=>?_);clear l x g;generalize (P.alloc (.cells #[.nilFunc] 133))=u1 at *;generalize P.heap.size=M at *;refine aI [4,10] (cA ?_ (cA ?_ aH))
    focus
     intro x l;go_simp;refine(NX.o _ d cd (I.o.aa H.2.2.2.2) (Kh.o.aa H.2.2.2.2)).af ?_;rintro e u2 ⟨f,rfl,v,g⟩;obtain⟨X,rfl⟩:=v.shape;replace H:=H.step g;replace s:=s.aa g;replace D:=bj D g;clear y;refine l.o _ _ ⟨H.1.c0,H.2.1.c0⟩ (fun y=>?_);clear l x g;generalize u1.heap.size=na at v;generalize u2.heap.size=ma at v;refine aI [9,10] (cA ?_ (cA ?_ aH))
     focus
      intro x l;go_simp;refine(Z.o _ d cd (I.o.aa H.2.2.2.2) (Y.o.aa H.2.2.2.2)).af ?_;rintro e t ⟨f,rfl,z,g⟩;obtain⟨L,rfl⟩:=z.shape;replace H:=H.step g;replace s:=s.aa g;replace v:=v.aa g;replace D:=bj D g;clear y;refine l.o _ _ ⟨H.1.c0,H.2.1.c0⟩ (fun y=>?_);clear l x g;generalize u2.heap.size=nb at z;generalize t.heap.size=mb at z;refine aI [10] (cA ?_ aH);intro x l;go_simp;have g:c8 t (t.alloc (.cells #[.nilFunc] 133)):=(aw _ t).alloc (ar _) _;have A:Boxed (t.alloc (.cells #[.nilFunc] 133)) t.heap.size 133 .nilFunc:=bh t _ _;have bQ:=H.2.2.2.2.size;(have ne:M≠t.heap.size:=by have:=D.lt;omega);replace H:=H.step g;replace s:=s.aa g;replace v:=v.aa g;replace z:=z.aa g;replace D:=bj D g;clear y;refine l.o _ _ ⟨H.1.c0,H.2.1.c0⟩ (fun y=>?_);clear l x g;generalize (t.alloc (.cells #[.nilFunc] 133))=O at *;generalize t.heap.size=J at *
     rotate_left
     focus
      intro x l;go_simp;have g:c8 u2 (u2.alloc (.cells #[.nilFunc] 133)):=(aw _ u2).alloc (ar _) _;have A:Boxed (u2.alloc (.cells #[.nilFunc] 133)) u2.heap.size 133 .nilFunc:=bh u2 _ _;have bQ:=H.2.2.2.2.size;(have ne:M≠u2.heap.size:=by have:=D.lt;omega);replace H:=H.step g;replace s:=s.aa g;replace v:=v.aa g;replace D:=bj D g;clear y;refine l.o _ _ ⟨H.1.c0,H.2.1.c0⟩ (fun y=>?_);clear l x g;generalize (u2.alloc (.cells #[.nilFunc] 133))=t at *;generalize u2.heap.size=J at *;refine aI [9] (cA ?_ aH);intro x l;go_simp;refine(Z.o _ d cd (I.o.aa H.2.2.2.2) (Y.o.aa H.2.2.2.2)).af ?_;rintro e O ⟨f,rfl,z,g⟩;obtain⟨L,rfl⟩:=z.shape;replace H:=H.step g;replace s:=s.aa g;replace v:=v.aa g;replace A:=bj A g;replace D:=bj D g;clear y;refine l.o _ _ ⟨H.1.c0,H.2.1.c0⟩ (fun y=>?_);clear l x g;generalize t.heap.size=nb at z;generalize O.heap.size=mb at z
    rotate_left 2
    focus
     intro x l;go_simp;have g:c8 u1 (u1.alloc (.cells #[.nilFunc] 133)):=(aw _ u1).alloc (ar _) _;have A:Boxed (u1.alloc (.cells #[.nilFunc] 133)) u1.heap.size 133 .nilFunc:=bh u1 _ _;have bQ:=H.2.2.2.2.size;(have ne:M≠u1.heap.size:=by have:=D.lt;omega);replace H:=H.step g;replace s:=s.aa g;replace D:=bj D g;clear y;refine l.o _ _ ⟨H.1.c0,H.2.1.c0⟩ (fun y=>?_);clear l x g;generalize (u1.alloc (.cells #[.nilFunc] 133))=u2 at *;generalize u1.heap.size=J at *;refine aI [4] (cA ?_ aH);intro x l;go_simp;refine(NX.o _ d cd (I.o.aa H.2.2.2.2) (Kh.o.aa H.2.2.2.2)).af ?_;rintro e t ⟨f,rfl,v,g⟩;obtain⟨X,rfl⟩:=v.shape;replace H:=H.step g;replace s:=s.aa g;replace A:=bj A g;replace D:=bj D g;clear y;refine l.o _ _ ⟨H.1.c0,H.2.1.c0⟩ (fun y=>?_);clear l x g;generalize u2.heap.size=na at v;generalize t.heap.size=ma at v;refine aI [9] (cA ?_ aH);intro x l;go_simp;refine(Z.o _ d cd (I.o.aa H.2.2.2.2) (Y.o.aa H.2.2.2.2)).af ?_;rintro e O ⟨f,rfl,z,g⟩;obtain⟨L,rfl⟩:=z.shape;replace H:=H.step g;replace s:=s.aa g;replace v:=v.aa g;replace A:=bj A g;replace D:=bj D g;clear y;refine l.o _ _ ⟨H.1.c0,H.2.1.c0⟩ (fun y=>?_);clear l x g;generalize t.heap.size=nb at z;generalize O.heap.size=mb at z
   all_goals
    have bf:=A.cell;have bk:=A.frozen;refine aI [12] (cA ?_ aH);intro x l;go_simp;replace H:=H.nil (slv _ _ _) (slv _ _ _) A bQ (.func (.func 225) #[] X);replace s:=Vk A s (.func (.func 225) #[] X);replace v:=v.nil A (.func (.func 225) #[] X);replace z:=z.nil A (.func (.func 225) #[] X);replace D:=fA D J 0 (.func (.func 225) #[] X) al;replace A:=A.set (.func (.func 225) #[] X);clear bf bk;generalize (O.setCell ⟨J,0,none⟩ (.func (.func 225) #[] X))=v1 at *;clear y;refine l.o _ _ ⟨H.1.c0,H.2.1.c0⟩ (fun y=>?_);clear l x;have bg:=D.cell;have bl:=D.frozen;refine aI [13] (cA ?_ aH);intro x l;go_simp;replace H:=H.nil (slv _ _ _) (slv _ _ _) D vu (.func (.func 225) #[] L);replace s:=Vk D s (.func (.func 225) #[] L);replace v:=v.nil D (.func (.func 225) #[] L);replace z:=z.nil D (.func (.func 225) #[] L);replace A:=fA A M 0 (.func (.func 225) #[] L) al;replace D:=D.set (.func (.func 225) #[] L);clear bg bl;generalize (v1.setCell ⟨M,0,none⟩ (.func (.func 225) #[] L))=v2 at *;refine l.o _ _ ⟨H.1.c0,H.2.1.c0⟩ (fun _=>dC ao ?_ _);clear l x y;go_wp2_with fail
    have um:=Na a d ca cd sizes U 196 #[.pointer (some ⟨w.heap.size,0,none⟩),.pointer (some ⟨J,0,none⟩),.pointer (some ⟨w.heap.size+1,0,none⟩),.pointer (some ⟨M,0,none⟩)] (enters_of Tryz.func196 ao rfl) FL v2 (I.o.aa H.2.2.2.2) s bI.o p9.o jK.o (fun k hk V g=>by
     rw[zN.o k hk];(have iz:k<cnt (ag sizes) (ag U):=by rw[<- jK.o];exact hk);have hB:=H.2.2.2.2.trans (g.af H.2.2.2.2.size);refine ajt w.heap.size J (w.heap.size+1) M c c' cc kZ X L la lb k _ _ (Dn.o k iz) (uM.o k iz) V (aU H.1.lt g.size) ((g.cell (p:=⟨w.heap.size,1,none⟩) H.1.lt).trans H.1.c1) (aU A.lt g.size) (bj A g).cell (aU H.2.1.lt g.size) ((g.cell (p:=⟨w.heap.size+1,1,none⟩) H.2.1.lt).trans H.2.1.c1) (aU D.lt g.size) (bj D g).cell (BG.o.aa hB) (a1.o.aa hB) bb.o NT.o ?_ ?_
     ·intro V' ab;have ae:=g.trans (ab.af g.size);exact(v.aa ae).calls (I.o.aa (hB.trans (ab.af hB.size))) (s.aa ae) bI.o p9.o a7.o iz
     ·intro V' ab;have ae:=g.trans (ab.af g.size);exact(z.aa ae).calls (I.o.aa (hB.trans (ab.af hB.size))) (s.aa ae) bI.o p9.o a8.o iz)
    have DC:=hid um;clear um;refine DC.o.af ?_;rintro e w9 ⟨G,rfl,hG,br,xz⟩;have JD:=H.2.2.1.lt;replace H:=H.step xz;replace s:=s.aa xz;have bm:NR w w9 w.heap.size (w.heap.size+1+1) (.slice b E.length cb) (.slice c la.length cc):=⟨H.1,H.2.2.1,H.2.2.2.2⟩;obtain⟨k0,k1,f0,f1⟩:=H.2.2.1.facts;obtain⟨e1,e2,e3⟩:=bm.fin al (cb:=cd) (cc:=FL.length) DF.o al s br al (.slice d U.length cd) (.slice (some ⟨G,0,none⟩) FL.length FL.length) rfl rfl;go_wp2;refine bD (e1.result2 rfl _ rfl) rfl ?_;exact⟨e2,e3⟩
variable {u:Nat}
theorem Al (S:List Nat) {g:Nat ->Nat}:∀ {vs:List Nat},(∀u∈vs,f u=g u) ->pos S f vs=pos S g vs:=by
 intro vs h
 have e:∀(vs:List Nat) (k:Nat),(∀u∈vs,f u=g u) ->vs.foldl (fun k v=>k*sz S v+f v) k=vs.foldl (fun k v=>k*sz S v+g v) k:=by
  intro vs;induction vs with
  |nil=>intro k _;rfl
  |cons v vs ih=>
   intro k h;rw[Ea,Ea,h v dQ,ih _ fun u a=>h u (eH _ a)]
 exact e vs 0 h
theorem Jj (S:List Nat) (f:Nat ->Nat) (v:Nat) (vs:List Nat):pos S f (v::vs)=f v*cnt S vs+pos S f vs:=by
 show vs.foldl (fun k v=>k*sz S v+f v) (0*sz S v+f v)=_;rw[Rz S f vs,mX,bM]
theorem Fh (p:Pos S) (h:∀u,f u<sz S u):∀ {vs:List Nat},vs.Nodup ->∀u∈vs,aT S vs (pos S f vs) u=f u
 |[],_,u,hu=>by cases hu
 |v::vs,hn,u,hu=>by
  rw[q7] at hn;have l:=rq f h vs;have c:=A3 p vs;rw[Jj,aT];by_cases e:u=v
  ·rw[aA e,e,dJ,Nat.mul_add_div c,zZ l,fZ]
  ·rw[aB e,dJ,Nat.mul_add_mod,jM l];exact Fh p h hn.2 u ((dR.1 hu).resolve_left e)
theorem RS (g:Nat ->Fr) (h:k<n):bG ((List.range n).map g) k=g k:=by
 rw[qM (by simpa using h)];simp
def Gj (most:Bool) (p q:Rat):Rat:=if most then(if p<q then q else p) else p+q
def j9 (most:Bool) (g:Nat ->Rat):Nat ->Rat
 |0=>g 0
 |k+1=>Gj most (j9 most g k) (g (k+1))
theorem RN:c5 p q<0↔p<q:=by
 rw[c5];by_cases h:p<q
 ·rw[aA h];exact⟨fun _=>h,fun _=>a6⟩
 ·rw[aB h];by_cases e:p=q
  ·rw[aA e];exact⟨fun h=>absurd h a6,fun a=>absurd a h⟩
  ·rw[aB e];exact⟨fun h=>absurd h a6,fun a=>absurd a h⟩
theorem aeW (m:Bool) (T:Nat ->Fr):∀k,aW (mn m T k)=j9 m (fun x=>aW (T x)) k
 |0=>rfl
 |k+1=>by
  rw[mn,j9, <- aeW m T k];cases m with
  |false=>simp only[Gj,Bool.false_eq_true,if_false];exact qJ _
  |true=>
   simp only[Gj,if_true,great];by_cases h:c5 (aW (mn true T k)) (aW (T (k+1)))<0
   ·rw[aA h,aA (RN.1 h)]
   ·rw[aB h,aB fun e=>h (RN.2 e)]
theorem Qj (m:Bool) {g h:Nat ->Rat}:∀ {k:Nat},(∀x,x<=k ->g x=h x) ->j9 m g k=j9 m h k
 |0,e=>e 0 (ar _)
 |k+1,e=>by rw[j9,j9,Qj m fun x a=>e x al,e (k+1) (ar _)]
theorem Pq (f:Nat ->Nat) (x y:Nat) (h:u≠v):aV (aV f v x) u y=aV (aV f u y) v x:=by
 funext z
 simp only[aV];by_cases e:z=u
 ·rw[aA e,aB al,aA e]
 ·rw[aB e,aB e]
theorem acp {vars rest:List Nat} (p:Pos S) (r:rest.Nodup) (b:∀u∈vars,u=v∨u∈rest) (m:Bool) (l:List Fr) (h:∀u,f u<sz S u):
  aW (bG (sk S vars rest v m l) (pos S f rest))=j9 m (fun x=>aW (bG l (pos S (aV f v x) vars))) (sz S v - 1):=by
 rw[sk,RS _ (rq f h rest),qJ,aeW];refine Qj m fun x _=>?_;rw[Al S (f:=aV (aT S rest (pos S f rest)) v x) (g:=aV f v x)];intro u a;simp only[aV];by_cases e:u=v
 ·rw[aA e,aA e]
 ·rw[aB e,aB e];exact Fh p h r u ((b u a).resolve_left e)
theorem ajr {v b U:List Nat} (p:Pos S) (r:U.Nodup) (w:∀u∈v,u∈U) (E:∀u∈b,u∈U) (la lb:List Fr) (h:∀u,f u<sz S u):
  aW (bG (wL S v b U la lb) (pos S f U))=aW (bG la (pos S f v))*aW (bG lb (pos S f b)):=by
 rw[wL,RS _ (rq f h U),qJ,Al S (f:=aT S U (pos S f U)) (g:=f) fun u a=>Fh p h r u (w u a),Al S (f:=aT S U (pos S f U)) (g:=f) fun u a=>Fh p h r u (E u a)]
def Sml (s:Nat) (l:List Fr):Prop:=∀f∈l,∃q,f=qF q/\qw q<=s
theorem XV (h:∀v,sz S v<=3):∀vs:List Nat,cnt S vs<=3^vs.length
 |[]=>ar _
 |v::vs=>by rw[cnt,eA,ji,dJ];exact iH (XV h vs) (h v)
structure TL (sizes vars:List Int) (l:List Fr) (s:Nat):Prop where
 up:Up vars sizes.length
 len:l.length=cnt (ag sizes) (ag vars)
 sml:Sml s l
def PC (a:Option Addr) (ca:Nat) (sizes V:List Int) (L:List Fr) (U:List Int) (M:List Fr) (V':List Int) (L':List Fr):Prop:=
 ∀(W:World) (b c b' c':Option Addr) (cb cc fG kZ:Nat),az W a sizes ->az W b V ->cG W c L ->az W b' U ->cG W c' M ->(b=none ->cb=0) ->(b'=none ->fG=0) ->
  c6 147 #[.slice a sizes.length ca,.agg #[.slice b V.length cb,.slice c L.length cc],.agg #[.slice b' U.length fG,.slice c' M.length kZ]] W fun e w'=>sI V' L' 0 e w'/\c8 W w'
theorem alB {x v:Int}:x∈bC l v↔x∈l/\x≠v:=by simp[bC]
theorem Er {vars:List Int} (h:Up vars n) (u:Nat):∀x∈ag vars,x=u∨x∈ag (bC vars (u:Int)):=by
 intro x b;obtain⟨y,a,rfl⟩:=bc.1 b;have c:=(il.1 h).1 y a;by_cases e:y=(u:Int)
 ·left;omega
 ·exact .inr (bc.2 ⟨y,alB.2 ⟨a,e⟩,rfl⟩)
theorem akH (t a:Nat) (c:Option Addr) (cc:Nat) (l:List Fr) (s:Rat) (k:Nat) (P:k<l.length) (w:World) (Q:t<w.heap.size) (I:w.cell? ⟨t,1,none⟩=some (.slice c l.length cc)) (A:aF w a (aJ s) (nu s) (de s)) (E:cG w c l) (h1:l[k].2.1.size+l[k].2.2.size<=100000) (D:(nu s).size+(de s).size<=100000):
  c6 85 #[.int .i64 (k:Nat),.pointer (some ⟨t,0,none⟩),.pointer (some ⟨a,0,none⟩)] w (da w (dM (qF (aW l[k]*s)))):=by
 obtain⟨g,o,rfl,z,j,m,n⟩:=E k P;have H:=hid (fun V:World=>afa (w:=V) (aW l[k]*s) rfl (gg s) rfl h1 D);rw[M3];generalize aW l[k]*s=r at *;clear E h1 D;generalize l[k]=f at *;obtain⟨fn,x,y⟩:=f;simp only at j m n H;obtain⟨J,L,M, -⟩:=A.facts;have X:=A.lt;clear A;have d:aF (w.alloc (FC false ⟨#[]⟩ ⟨#[]⟩)) w.heap.size false ⟨#[]⟩ ⟨#[]⟩:=aF.new w _ _ _;have b:c8 w (w.alloc (FC false ⟨#[]⟩ ⟨#[]⟩)):=(aw _ w).alloc (ar _) _;go_enter Tryz.func85,Tryz.ntmps85;go_upto_region 1 with fail
 generalize (w.alloc (FC false ⟨#[]⟩ ⟨#[]⟩))=W at *;replace d:=d.drew;replace b:=b.drew;have O:∀u,c8 w u ->u.cell? ⟨t,1,none⟩=some (.slice (some ⟨g,o,none⟩) l.length cc)/\u.cell? ⟨g,o+k*3,none⟩=some (.bool fn)/\u.cell? ⟨g,o+k*3+1,none⟩=some (.string x)/\u.cell? ⟨g,o+k*3+2,none⟩=some (.string y)/\u.cell? ⟨a,0,none⟩=some (.bool (aJ s))/\u.cell? ⟨a,1,none⟩=some (.string (nu s))/\u.cell? ⟨a,2,none⟩=some (.string (de s)):=fun u h=>⟨(h.cell (p:=⟨t,1,none⟩) Q).trans I,(h.cell (p:=⟨g,_,none⟩) z).trans j,(h.cell (p:=⟨g,_,none⟩) z).trans m,(h.cell (p:=⟨g,_,none⟩) z).trans n,(h.cell (p:=⟨a,0,none⟩) X).trans J,(h.cell (p:=⟨a,1,none⟩) X).trans L,(h.cell (p:=⟨a,2,none⟩) X).trans M⟩;have HELD:=hid O;clear O j m n J L M I;refine iu (S:=fun u=>u.cell? ⟨t,1,none⟩=some (.slice (some ⟨g,o,none⟩) l.length cc)/\u.cell? ⟨g,o+k*3,none⟩=some (.bool fn)/\u.cell? ⟨g,o+k*3+1,none⟩=some (.string x)/\u.cell? ⟨g,o+k*3+2,none⟩=some (.string y)/\u.cell? ⟨a,0,none⟩=some (.bool (aJ s))/\u.cell? ⟨a,1,none⟩=some (.string (nu s))/\u.cell? ⟨a,2,none⟩=some (.string (de s))) ao (HELD.o _ b) (fun q=>?_);generalize W.drew=u0 at *;refine au 0 (.pointer (some ⟨t,1,none⟩)) ?_;refine au 1 (.slice (some ⟨g,o,none⟩) l.length cc) ?_;refine au 2 (.int .i64 (k:Nat)) ?_;refine au 3 (.pointer (some ⟨g,o+k*3,none⟩)) ?_;refine au 4 (.agg #[.bool fn,.string x,.string y]) ?_;refine au 5 (.agg #[.bool (aJ s),.string (nu s),.string (de s)]) ?_
 refine aI [6] (cA ?_ aH);intro i K;go_simp;refine(H.o _).af ?_;rintro e u1 ⟨rfl,v⟩;replace d:=d.aa v d.lt;replace b:=b.trans (v.af b.size);clear q;refine K.o _ _ (HELD.o _ b) (fun q=>?_);clear K i v;try simp only[gE,aP]
 obtain⟨Z,k1,k2,T,U,Y⟩:=d.facts;refine aI [7] (cA ?_ aH);intro i K;go_simp;have R:=d.put (aJ r) (nu r) (de r);have F:=bL b (g:=w.heap.size) (ar _) (.bool (aJ r)) (.string (nu r)) (.string (de r));generalize (((u1.setCell ⟨w.heap.size,0,none⟩ (.bool (aJ r))).setCell ⟨w.heap.size,1,none⟩ (.string (nu r))).setCell ⟨w.heap.size,2,none⟩ (.string (de r)))=v9 at *;refine K.o _ _ (HELD.o _ F) (fun _=>dC ao ?_ _);clear K i q;go_wp2;refine bD (R.result rfl _ rfl) rfl ?_;exact⟨rfl,F⟩
theorem acW (l:List Fr):(iZ l).length=l.length:=by simp[iZ]
theorem akG (l:List Fr) (h:k<(iZ l).length):(iZ l)[k]=qF (aW (l[k]'(by rw[acW] at h;exact h))*(1/aX l)):=by simp[iZ]
theorem ajo (h:q≠0):qw (1/q)<=qw q+1:=by
 have e:val (aJ q) (nu q) (de q)≠0:=by rw[gg];exact h
 have a:=fun h=>e (K6.2 h);have b:1/q=val (aJ q) (de q) (nu q):=by rw[Tw _ _ _ (fun h=>a (.inl h)) (fun h=>a (.inr h)),gg,vg,yf]
 rw[b];refine aR (Ej _ _ _) ?_;show (B q.den).size+(B q.num.natAbs).size+1<=qw q+1;rw[qw];omega
theorem ahB (a b c:Option Addr) (ca cb cc:Nat) (sizes vars:List Int) (l:List Fr) (w:World) (hs:az w a sizes) (hv:az w b vars) (U:cG w c l) (Z:sizes.length<=140737488355328) (Y:vars.length<=140737488355328) (E:jZ sizes vars l.length=0) (hw:∀k (h:k<l.length),l[k].2.1.size+l[k].2.2.size<=40000) (J:∀k,k<=l.length ->qw (aX (l.take k))<=40000) (cN:l.length<=10000) (hz:aX l=0):
  c6 45 #[.slice a sizes.length ca,.agg #[.slice b vars.length cb,.slice c l.length cc]] w fun e w'=>sI [] [] 3 e w'/\c8 w w':=by
 obtain⟨aM,a8,ad⟩:=y9 E;have hq:=J l.length (ar _);rw[fD] at hq;have Q:=fun V h1 h2=>Ef a b c ca cb cc l.length sizes vars V h1 h2 Z Y;rw[E] at Q;have Q:=hid Q;have I:=hid (fun V h=>XO c cc l V h hw J cN);have O:=hid (fun V:World=>Nc (k:=1) (w:=V) 1 1 rfl a6 (by rfl));have HS:=hid hs;have HV:=hid hv;have F:=hid U;have D:=hid (fun V:World=>aoA (n:=aJ 1) (x:=nu 1) (y:=de 1) (w:=V) ((gg (aX l)).trans hz));clear hs hv U Z Y E hw J ad a8 aM hz;obtain⟨j,L⟩:∃d,false=d:=⟨_,rfl⟩;obtain⟨m,P⟩:∃d:ByteArray,⟨#[]⟩=d:=⟨_,rfl⟩;obtain⟨p,M⟩:∃d:ByteArray,⟨#[]⟩=d:=⟨_,rfl⟩
 have x5:Hid (∀V:World,c6 82 #[.agg #[.bool (aJ 1),.string (nu 1),.string (de 1)],.agg #[.bool (aJ (aX l)),.string (nu (aX l)),.string (de (aX l))]] V fun e w'=>e=.returned (.tuple #[.agg #[.bool j,.string m,.string p],.int .i64 3])/\c8 V w'):=by
  rw[<- L, <- P, <- M];exact D
 clear D L P M;have D:=x5;clear x5;obtain⟨r,X⟩:∃d:Int,3=d:=⟨_,rfl⟩;rw[X] at D;have Mv:(r==0)=false:=by rw[<- X];rfl
 have lJ:¬r=0:=al
 have H:=NH.new w (.slice b vars.length cb) (.slice c l.length cc);have c0:=H.1.c0;have c1:=H.1.c1;go_enter Tryz.func45,Tryz.ntmps45;go_wp2_with fail
 generalize ((w.alloc (TC (.slice b vars.length cb) (.slice c l.length cc))).alloc (TC (.slice none 0 0) (.slice none 0 0)))=W at *;refine(Q.o _ (HS.o.aa H.2.2) (HV.o.aa H.2.2)).af ?_;rintro e w1 ⟨rfl,ab⟩;replace H:=H.step ab;clear c0 c1 ab Q;go_upto_region 4 with fail
 replace H:=H.drew;refine iu (S:=fun u=>u.cell? ⟨w.heap.size,1,none⟩=some (.slice c l.length cc)) ao H.1.c1 (fun q=>?_);generalize w1.drew=v at *;refine au 1 (.pointer (some ⟨w.heap.size,1,none⟩)) ?_;refine au 2 (.slice c l.length cc) ?_;refine aI [0,8] (cA ?_ (cA ?_ aH))
 focus
  intro g K;go_simp;refine(O.o _).af ?_;rintro e u1 ⟨rfl,f⟩;replace H:=H.step f;clear q;refine K.o _ _ H.1.c1 (fun q=>?_);clear K g f;refine aI [3,8] (cA ?_ (cA ?_ aH))
  focus
   intro g K;go_simp;refine(I.o _ (F.o.aa H.2.2)).af ?_;rintro e u2 ⟨rfl,f⟩;replace H:=H.step f;clear q;refine K.o _ _ H.1.c1 (fun q=>?_);clear K g f;refine aI [4,8] (cA ?_ (cA ?_ aH))
   focus
    intro g K;go_simp;refine(D.o _).af ?_;rintro e s ⟨rfl,f⟩;replace H:=H.step f;clear q;refine K.o _ _ H.1.c1 (fun q=>?_);clear K g f;refine au 5 (.tuple #[.agg #[.bool j,.string m,.string p],.int .i64 r]) ?_;refine au 6 (.agg #[.bool j,.string m,.string p]) ?_;refine au 7 (.int .i64 r) ?_;refine aI [8] (cA ?_ aH);intro g K;go_simp;have f:c8 s (s.alloc (FC false ⟨#[]⟩ ⟨#[]⟩)):=(aw _ s).alloc (ar _) _;have i:aF (s.alloc (FC false ⟨#[]⟩ ⟨#[]⟩)) s.heap.size false ⟨#[]⟩ ⟨#[]⟩:=aF.new s _ _ _;have z:=H.lt;replace H:=H.step f;clear q;refine K.o _ _ H.1.c1 (fun q=>?_);clear K g f;generalize (s.alloc (FC false ⟨#[]⟩ ⟨#[]⟩))=A at *;generalize s.heap.size=t at *
   rotate_left
   focus
    intro g K;go_simp;have f:c8 u2 (u2.alloc (FC false ⟨#[]⟩ ⟨#[]⟩)):=(aw _ u2).alloc (ar _) _;have i:aF (u2.alloc (FC false ⟨#[]⟩ ⟨#[]⟩)) u2.heap.size false ⟨#[]⟩ ⟨#[]⟩:=aF.new u2 _ _ _;have z:=H.lt;replace H:=H.step f;clear q;refine K.o _ _ H.1.c1 (fun q=>?_);clear K g f;generalize (u2.alloc (FC false ⟨#[]⟩ ⟨#[]⟩))=s at *;generalize u2.heap.size=t at *;refine aI [4] (cA ?_ aH);intro g K;go_simp;refine(D.o _).af ?_;rintro e A ⟨rfl,f⟩;replace H:=H.step f;replace i:=i.aa f i.lt;clear q;refine K.o _ _ H.1.c1 (fun q=>?_);clear K g f;refine au 5 (.tuple #[.agg #[.bool j,.string m,.string p],.int .i64 r]) ?_;refine au 6 (.agg #[.bool j,.string m,.string p]) ?_;refine au 7 (.int .i64 r) ?_
  rotate_left 2
  focus
   intro g K;go_simp;have f:c8 u1 (u1.alloc (FC false ⟨#[]⟩ ⟨#[]⟩)):=(aw _ u1).alloc (ar _) _;have i:aF (u1.alloc (FC false ⟨#[]⟩ ⟨#[]⟩)) u1.heap.size false ⟨#[]⟩ ⟨#[]⟩:=aF.new u1 _ _ _;have z:=H.lt;replace H:=H.step f;clear q;refine K.o _ _ H.1.c1 (fun q=>?_);clear K g f;generalize (u1.alloc (FC false ⟨#[]⟩ ⟨#[]⟩))=u2 at *;generalize u1.heap.size=t at *;refine aI [3] (cA ?_ aH);intro g K;go_simp;refine(I.o _ (F.o.aa H.2.2)).af ?_;rintro e s ⟨rfl,f⟩;replace H:=H.step f;replace i:=i.aa f i.lt;clear q;refine K.o _ _ H.1.c1 (fun q=>?_);clear K g f;refine aI [4] (cA ?_ aH);intro g K;go_simp;refine(D.o _).af ?_;rintro e A ⟨rfl,f⟩;replace H:=H.step f;replace i:=i.aa f i.lt;clear q;refine K.o _ _ H.1.c1 (fun q=>?_);clear K g f;refine au 5 (.tuple #[.agg #[.bool j,.string m,.string p],.int .i64 r]) ?_;refine au 6 (.agg #[.bool j,.string m,.string p]) ?_;refine au 7 (.int .i64 r) ?_
 rotate_left 3
 focus
  intro g K;go_simp;have f:c8 v (v.alloc (FC false ⟨#[]⟩ ⟨#[]⟩)):=(aw _ v).alloc (ar _) _;have i:aF (v.alloc (FC false ⟨#[]⟩ ⟨#[]⟩)) v.heap.size false ⟨#[]⟩ ⟨#[]⟩:=aF.new v _ _ _;have z:=H.lt;replace H:=H.step f;clear q;refine K.o _ _ H.1.c1 (fun q=>?_);clear K g f;generalize (v.alloc (FC false ⟨#[]⟩ ⟨#[]⟩))=u1 at *;generalize v.heap.size=t at *;refine aI [0] (cA ?_ aH);intro g K;go_simp;refine(O.o _).af ?_;rintro e u2 ⟨rfl,f⟩;replace H:=H.step f;replace i:=i.aa f i.lt;clear q;refine K.o _ _ H.1.c1 (fun q=>?_);clear K g f;refine aI [3] (cA ?_ aH);intro g K;go_simp;refine(I.o _ (F.o.aa H.2.2)).af ?_;rintro e s ⟨rfl,f⟩;replace H:=H.step f;replace i:=i.aa f i.lt;clear q;refine K.o _ _ H.1.c1 (fun q=>?_);clear K g f;refine aI [4] (cA ?_ aH);intro g K;go_simp;refine(D.o _).af ?_;rintro e A ⟨rfl,f⟩;replace H:=H.step f;replace i:=i.aa f i.lt;clear q;refine K.o _ _ H.1.c1 (fun q=>?_);clear K g f;refine au 5 (.tuple #[.agg #[.bool j,.string m,.string p],.int .i64 r]) ?_;refine au 6 (.agg #[.bool j,.string m,.string p]) ?_;refine au 7 (.int .i64 r) ?_
 all_goals
  try simp only[gE,aP]
  obtain⟨k0,k1,k2,R,T,f2⟩:=i.facts;refine aI [9] (cA ?_ aH);intro g K;go_simp;have h8:=i.put j m p;replace H:=((H.off t 0 (.bool j) z).off t 1 (.string m) z).off t 2 (.string p) z;clear k0 k1 k2 R T f2 i;generalize (((A.setCell ⟨t,0,none⟩ (.bool j)).setCell ⟨t,1,none⟩ (.string m)).setCell ⟨t,2,none⟩ (.string p))=v9 at *;clear q;refine K.o _ _ H.1.c1 (fun q=>?_);clear K g;refine au 10 (.int .i64 r) ?_;try simp only[gE,aP]
  refine dC ao ?_ _;obtain⟨k0,k1,R,T⟩:=H.2.1.facts;go_wp2;refine bD ((H.2.1.put _ _).result2 rfl _ rfl) rfl ?_;exact⟨by rw[<- X];exact sI.empty 3 _,nN H.2.2 al _ _⟩
theorem ahC (a b c:Option Addr) (ca cb cc:Nat) (sizes vars:List Int) (l:List Fr) (w:World) (hs:az w a sizes) (hv:az w b vars) (hf:cG w c l) (hn:sizes.length<=140737488355328) (hm:vars.length<=140737488355328) (A:jZ sizes vars l.length=0) (Y:∀k (h:k<l.length),l[k].2.1.size+l[k].2.2.size<=40000) (qu:∀k,k<=l.length ->qw (aX (l.take k))<=40000) (cN:l.length<=10000) (Z:aX l≠0):
  c6 45 #[.slice a sizes.length ca,.agg #[.slice b vars.length cb,.slice c l.length cc]] w fun e w'=>sI vars (iZ l) 0 e w'/\c8 w w':=by
 obtain⟨P,O,ai⟩:=y9 A;have hq:=qu l.length (ar _);rw[fD] at hq;have Q:=fun V T U=>Ef a b c ca cb cc l.length sizes vars V T U hn hm;rw[A] at Q;have Q:=hid Q;have jw:=hid (fun V h=>XO c cc l V h Y qu cN);have HO:=hid (fun V:World=>Nc (k:=1) (w:=V) 1 1 rfl a6 (by rfl));have HS:=hid hs;have HV:=hid hv;have J:=hid hf;have HN:=hid (fun V Bs (k:Nat) (A:k<l.length) (T:w.heap.size<V.heap.size) (U:V.cell? ⟨w.heap.size,1,none⟩=some (.slice c l.length cc)) (h3:aF V Bs (aJ (1/aX l)) (nu (1/aX l)) (de (1/aX l))) (h4:cG V c l)=>akH w.heap.size Bs c cc l (1/aX l) k A V T U h3 h4 (aR (Y k A) a6) (by have:=ajo Z;show qw (1/aX l)<=100000;omega));have E:=hid (fun V:World=>aoC (n:=aJ 1) (x:=nu 1) (y:=de 1) (w:=V) (1/aX l) (gg 1) (gg (aX l)) Z rfl (show qw 1<=100000 by have:=Ej false (B 1) (B 1);exact aR (by decide+kernel) (ar 100000)) (show qw (aX l)<=100000 by omega));have Kz:Hid (∀(k:Nat) (h:k<(iZ l).length) (h':k<l.length),(iZ l)[k]=qF (aW l[k]*(1/aX l))):=fun k h _=>akG l h;have ak:=acW l;clear hs hv hf hn hm A Y qu Z hq;have bI:=hid P;have gP:=hid O;have av:=hid ai;have Vy:=O.length;have oO:=P.eight;clear ai O P;generalize iZ l=NL at *;generalize 1/aX l=r at *;obtain⟨m,GW⟩:∃d,aJ r=d:=⟨_,rfl⟩;obtain⟨s,Mu⟩:∃d:ByteArray,nu r=d:=⟨_,rfl⟩;obtain⟨t,Mt⟩:∃d:ByteArray,de r=d:=⟨_,rfl⟩;rw[GW,Mu,Mt] at E HN;clear GW Mu Mt;obtain⟨z,X⟩:∃d:Int,0=d:=⟨_,rfl⟩;rw[X] at E;have Mv:(z==0)=true:=by rw[<- X];rfl
 clear X;have H:=NH.new w (.slice b vars.length cb) (.slice c l.length cc);have R:=H.1.c0;have c1:=H.1.c1;go_enter Tryz.func45,Tryz.ntmps45;go_wp2_with fail
 generalize ((w.alloc (TC (.slice b vars.length cb) (.slice c l.length cc))).alloc (TC (.slice none 0 0) (.slice none 0 0)))=W at *;refine(Q.o _ (HS.o.aa H.2.2) (HV.o.aa H.2.2)).af ?_;rintro e w1 ⟨rfl,ad⟩;replace H:=H.step ad;clear R c1 ad Q;go_upto_region 4 with fail
 replace H:=H.drew;refine iu (S:=fun u=>u.cell? ⟨w.heap.size,1,none⟩=some (.slice c l.length cc)) ao H.1.c1 (fun q=>?_);generalize w1.drew=D at *;refine au 1 (.pointer (some ⟨w.heap.size,1,none⟩)) ?_;refine au 2 (.slice c l.length cc) ?_;refine aI [0,8] (cA ?_ (cA ?_ aH))
 focus
  intro g K;go_simp;refine(HO.o _).af ?_;rintro e u1 ⟨rfl,f⟩;replace H:=H.step f;clear q;refine K.o _ _ H.1.c1 (fun q=>?_);clear K g f;refine aI [3,8] (cA ?_ (cA ?_ aH))
  focus
   intro g K;go_simp;refine(jw.o _ (J.o.aa H.2.2)).af ?_;rintro e u2 ⟨rfl,f⟩;replace H:=H.step f;clear q;refine K.o _ _ H.1.c1 (fun q=>?_);clear K g f;refine aI [4,8] (cA ?_ (cA ?_ aH))
   focus
    intro g K;go_simp;refine(E.o _).af ?_;rintro e v ⟨rfl,f⟩;replace H:=H.step f;clear q;refine K.o _ _ H.1.c1 (fun q=>?_);clear K g f;refine au 5 (.tuple #[.agg #[.bool m,.string s,.string t],.int .i64 z]) ?_;refine au 6 (.agg #[.bool m,.string s,.string t]) ?_;refine au 7 (.int .i64 z) ?_;refine aI [8] (cA ?_ aH);intro g K;go_simp;have f:c8 v (v.alloc (FC false ⟨#[]⟩ ⟨#[]⟩)):=(aw _ v).alloc (ar _) _;have i:aF (v.alloc (FC false ⟨#[]⟩ ⟨#[]⟩)) v.heap.size false ⟨#[]⟩ ⟨#[]⟩:=aF.new v _ _ _;have F:=H.lt;replace H:=H.step f;clear q;refine K.o _ _ H.1.c1 (fun q=>?_);clear K g f;generalize (v.alloc (FC false ⟨#[]⟩ ⟨#[]⟩))=M at *;generalize v.heap.size=j at *
   rotate_left
   focus
    intro g K;go_simp;have f:c8 u2 (u2.alloc (FC false ⟨#[]⟩ ⟨#[]⟩)):=(aw _ u2).alloc (ar _) _;have i:aF (u2.alloc (FC false ⟨#[]⟩ ⟨#[]⟩)) u2.heap.size false ⟨#[]⟩ ⟨#[]⟩:=aF.new u2 _ _ _;have F:=H.lt;replace H:=H.step f;clear q;refine K.o _ _ H.1.c1 (fun q=>?_);clear K g f;generalize (u2.alloc (FC false ⟨#[]⟩ ⟨#[]⟩))=v at *;generalize u2.heap.size=j at *;refine aI [4] (cA ?_ aH);intro g K;go_simp;refine(E.o _).af ?_;rintro e M ⟨rfl,f⟩;replace H:=H.step f;replace i:=i.aa f i.lt;clear q;refine K.o _ _ H.1.c1 (fun q=>?_);clear K g f;refine au 5 (.tuple #[.agg #[.bool m,.string s,.string t],.int .i64 z]) ?_;refine au 6 (.agg #[.bool m,.string s,.string t]) ?_;refine au 7 (.int .i64 z) ?_
  rotate_left 2
  focus
   intro g K;go_simp;have f:c8 u1 (u1.alloc (FC false ⟨#[]⟩ ⟨#[]⟩)):=(aw _ u1).alloc (ar _) _;have i:aF (u1.alloc (FC false ⟨#[]⟩ ⟨#[]⟩)) u1.heap.size false ⟨#[]⟩ ⟨#[]⟩:=aF.new u1 _ _ _;have F:=H.lt;replace H:=H.step f;clear q;refine K.o _ _ H.1.c1 (fun q=>?_);clear K g f;generalize (u1.alloc (FC false ⟨#[]⟩ ⟨#[]⟩))=u2 at *;generalize u1.heap.size=j at *;refine aI [3] (cA ?_ aH);intro g K;go_simp;refine(jw.o _ (J.o.aa H.2.2)).af ?_;rintro e v ⟨rfl,f⟩;replace H:=H.step f;replace i:=i.aa f i.lt;clear q;refine K.o _ _ H.1.c1 (fun q=>?_);clear K g f;refine aI [4] (cA ?_ aH);intro g K;go_simp;refine(E.o _).af ?_;rintro e M ⟨rfl,f⟩;replace H:=H.step f;replace i:=i.aa f i.lt;clear q;refine K.o _ _ H.1.c1 (fun q=>?_);clear K g f;refine au 5 (.tuple #[.agg #[.bool m,.string s,.string t],.int .i64 z]) ?_;refine au 6 (.agg #[.bool m,.string s,.string t]) ?_;refine au 7 (.int .i64 z) ?_
 rotate_left 3
 focus
  intro g K;go_simp;have f:c8 D (D.alloc (FC false ⟨#[]⟩ ⟨#[]⟩)):=(aw _ D).alloc (ar _) _;have i:aF (D.alloc (FC false ⟨#[]⟩ ⟨#[]⟩)) D.heap.size false ⟨#[]⟩ ⟨#[]⟩:=aF.new D _ _ _;have F:=H.lt;replace H:=H.step f;clear q;refine K.o _ _ H.1.c1 (fun q=>?_);clear K g f;generalize (D.alloc (FC false ⟨#[]⟩ ⟨#[]⟩))=u1 at *;generalize D.heap.size=j at *;refine aI [0] (cA ?_ aH);intro g K;go_simp;refine(HO.o _).af ?_;rintro e u2 ⟨rfl,f⟩;replace H:=H.step f;replace i:=i.aa f i.lt;clear q;refine K.o _ _ H.1.c1 (fun q=>?_);clear K g f;refine aI [3] (cA ?_ aH);intro g K;go_simp;refine(jw.o _ (J.o.aa H.2.2)).af ?_;rintro e v ⟨rfl,f⟩;replace H:=H.step f;replace i:=i.aa f i.lt;clear q;refine K.o _ _ H.1.c1 (fun q=>?_);clear K g f;refine aI [4] (cA ?_ aH);intro g K;go_simp;refine(E.o _).af ?_;rintro e M ⟨rfl,f⟩;replace H:=H.step f;replace i:=i.aa f i.lt;clear q;refine K.o _ _ H.1.c1 (fun q=>?_);clear K g f;refine au 5 (.tuple #[.agg #[.bool m,.string s,.string t],.int .i64 z]) ?_;refine au 6 (.agg #[.bool m,.string s,.string t]) ?_;refine au 7 (.int .i64 z) ?_
 all_goals
  try simp only[gE,aP]
  obtain⟨k0,k1,k2,f0,f1,f2⟩:=i.facts;refine aI [9] (cA ?_ aH);intro g K;go_simp;have I:=i.put m s t;replace H:=((H.off j 0 (.bool m) F).off j 1 (.string s) F).off j 2 (.string t) F;clear k0 k1 k2 f0 f1 f2 i;generalize (((M.setCell ⟨j,0,none⟩ (.bool m)).setCell ⟨j,1,none⟩ (.string s)).setCell ⟨j,2,none⟩ (.string t))=v9 at *;clear q;refine K.o _ _ H.1.c1 (fun q=>?_);clear K g;refine au 10 (.int .i64 z) ?_;try simp only[gE,aP]
  refine dC ao ?_ _;have R:=H.1.c0;go_wp2_with fail
  refine(PB b cb vars _ (HV.o.aa H.2.2) al).af ?_;rintro e w2 ⟨x,rfl,an,ab⟩;obtain⟨d,cd,rfl,L⟩:=an.ints;clear R an;replace H:=H.step ab;replace I:=I.aa ab I.lt;clear ab;have aj:=H.1.lt;have um:=Na a d ca cd sizes vars 85 #[.pointer (some ⟨w.heap.size,0,none⟩),.pointer (some ⟨j,0,none⟩)] (enters_of Tryz.func85 ao rfl) NL w2 (HS.o.aa H.2.2) L bI.o gP.o (by rw[ak];exact av.o) (fun k A V f=>by rw[Kz.o k A al];exact HN.o V j k al (aU aj f.size) ((f.cell (p:=⟨w.heap.size,1,none⟩) aj).trans H.1.c1) (I.aa f I.lt) (J.o.aa (H.2.2.trans (f.af H.2.2.size))));have DC:=hid um;clear um;go_wp2_with fail
  refine DC.o.af ?_;rintro e w3 ⟨G,rfl,hG,ax,ae⟩;have ay:=H.lt;replace H:=H.step ae;replace L:=L.aa ae;obtain⟨k0,k1,f0,f1⟩:=H.2.1.facts;obtain⟨e1,e2,e3⟩:=H.fin (cb:=cd) (cc:=l.length) L ax al (.slice d vars.length cd) (.slice (some ⟨G,0,none⟩) l.length l.length) rfl (by rw[ak]);go_wp2;refine bD (e1.result2 rfl _ rfl) rfl ?_;exact⟨e2,e3⟩
variable {cd:Nat}
theorem bA.aa {B:Nat} {v:Value} (h:bA w B v l) (e:c8 w w'):bA w' B v l:=by
 refine⟨h.1,h.2.imp id ?_⟩;rintro⟨g,cap,r,b,c,a,d⟩;exact⟨g,cap,r,b,c,(e.block g (dS.1 a).1).trans a,d⟩
theorem bA.intS {B:Nat} {d:Option Addr} {U:List Int} (h:bA w B (.slice d U.length cd) U):az w d U:=by
 obtain⟨a,c,e,i⟩:=h.ints;cases e;exact i
def wM (c:Int) (n:Nat):Nat:=(if c<0 then(-(c+1)).toNat else c.toNat) % n
theorem P8 (c:Int) (h:1<=n):wM c n<n:=iw _ h
theorem abE (c:Int) (n:Nat) (w:World) (h1: -9223372036854775808<=c) (f:c<=9223372036854775807) (b:1<=n) (i:n<=1000):
  c6 9 #[.int .i64 c,.int .i64 (n:Nat)] w fun e w'=>e=.returned (.int .i64 (wM c n:Nat))/\w'=w:=by
 have H:Hid (wM c n=(if c<0 then(-(c+1)).toNat else c.toNat) % n):=rfl;have l:=P8 c b;generalize wM c n=P at *;by_cases h:c<0
 ·rw[aA h] at H;obtain⟨d,a⟩:∃d:Nat,c= -((d:Int)+1):=⟨(-(c+1)).toNat,al⟩;subst a
  have E:Hid ((d:Int) % (n:Int)=(P:Int)):=by
   show _=_;rw[H.o,show (-(-((d:Int)+1)+1)).toNat=d by omega,sY]
  have g:IntKind.i64.wrap (-((d:Int)+1)+1)= -(d:Int):=by rw[dE];omega
  have j:IntKind.i64.wrap (- -(d:Int))=(d:Int):=by rw[dE];omega
  go_enter Tryz.func9,Tryz.ntmps9;go_wp2;go_ret;exact⟨by rw[E.o];rfl,rfl⟩
 ·rw[aB h] at H;obtain⟨d,rfl⟩:∃d:Nat,c=d:=⟨c.toNat,al⟩
  have E:Hid ((d:Int) % (n:Int)=(P:Int)):=by
   show _=_;rw[H.o,nh,sY]
  go_enter Tryz.func9,Tryz.ntmps9;go_wp2;go_ret;exact⟨by rw[E.o];rfl,rfl⟩
theorem PO (c:Int) (n:Nat) (w:World) (h1: -9223372036854775808<=c) (a:c<=9223372036854775807) (b:1<=n) (d:n<=1000):
  c6 9 #[.int .i64 c,.int .i64 (n:Nat)] w (da w (.int .i64 (wM c n:Nat))):=by
 refine(abE c n w h1 a b d).af ?_;rintro e w' ⟨h,rfl⟩;exact⟨h,aw _ _⟩
theorem UR (w:World) (u:Int):az (w.alloc (.cells #[.int .i64 u] 3)) (some ⟨w.heap.size,0,none⟩) [u]:=fun k h=>by
 obtain rfl:k=0:=by simp at h;omega
 exact⟨w.heap.size,0,rfl,aE,(bh w _ _).cell⟩
theorem ajl (a:Option Addr) (ca n:Nat) (w:World) (p:n<=1000):
  c6 58 #[.slice a n ca] w fun e w'=>∃x,e=.returned x/\bA w' w.heap.size x (iL (List.range n))/\c8 w w':=by
 obtain⟨q,k,v,y,A⟩:=dW Tryz.infoInt;have T:=hid (fun i:Nat=>show iL (List.range (i+1))=iL (List.range i)++[(i:Int)] by rw[sV,iL,iL,fg];rfl);have t:=hid (fun i:Nat=>show (iL (List.range i)).length=i by simp[iL]);have l:iL (List.range 0)=[]:=rfl;generalize hg:(fun i:Nat=>iL (List.range i))=F at *;have h:∀i:Nat,iL (List.range i)=F i:=fun i=>by rw[<- hg]
 simp only[h] at T t l⊢;clear hg h;go_enter Tryz.func58,Tryz.ntmps58;go_wp2_with fail
 go_loopw [3,4] (fun xv iv wr=>∃i:Nat,i<=n/\iv=.int .i64 i/\Hid (bA wr w.heap.size xv (F i))/\Hid (c8 w wr)) (fun _ iv _=>n - (intOf iv).toNat)
 case atStart=>exact⟨0,aS _,rfl,by rw[l];exact⟨rfl,.inl ⟨rfl,rfl⟩⟩,aw _ _⟩
 case round=>
  obtain⟨i,m,rfl,R,H⟩:=hrel;by_cases u:i<n
  ·have z:=hid (t.o i);have f:=hid R.o.own;have c:Hid (bA (wr.alloc (.cells #[.int .i64 (i:Nat)] 3)) w.heap.size _ (F i)):=F0 R.o _;have b:=hid (H.o.alloc H.o.size (.cells #[.int .i64 (i:Nat)] 3));have S:=hid (UR wr (i:Nat));go_wp2_with (at_builtin;refine wI rfl _ _ rfl w.heap.size _ (F i) [((i:Nat):Int)] rfl c.o (some ⟨wr.heap.size,0,none⟩) 1 rfl S.o (fun e=>by cases e) (by rw[z.o];simp;omega) b.o.size ?_;intro v' s r g)
   have j:=hid r;have d:=hid (b.o.grown g b.o.size f.o);clear r g;go_roundw
   case rel=>exact⟨i+1,al,bd,by rw[T.o];exact j,d⟩
   case measure=>simp[intOf];omega
  ·obtain rfl:i=n:=al
   go_wp2;go_ret;exact⟨_,rfl,R.o,H.o⟩
def gU (L:List (List Int)) (v:Nat):List Int:=kT (L.getD v []) [(v:Int)]
def gL (V:List Vr) (L:List (List Int)) (R:List (List Fr)) (v:Nat):List Fr:=(List.range (cnt (ah V) (ag (gU L v)))).map fun K=>qF (aW (ei V L R (aT (ah V) (ag (gU L v)) K) v))
theorem Tx (h:v<n):Up [(v:Int)] n:=il.2 ⟨fun x a=>by have:=dX.1 a;omega,O2 _ _⟩
def GK (w V:World) (x y z:Value):Prop:=NK w V x y z/\bs V (w.heap.size+1) (.slice none 0 0) (.slice none 0 0)
theorem GK.new (w:World) (x y z:Value):GK w ((w.alloc (NC x y z)).alloc (TC (.slice none 0 0) (.slice none 0 0))) x y z:=⟨(NK.new w x y z).step ((aw _ _).alloc (ar _) _),bs.at aE _ _⟩
theorem GK.step {V:World} (h:GK w V x y z) (b:c8 V V'):GK w V' x y z:=⟨h.1.step b,h.2.aa b h.2.lt⟩
variable {vs:List Nat}
theorem apa {a b:List Nat} (h:a.Perm b):cnt S a=cnt S b:=by
 induction h with
 |nil=>rfl
 |cons x _ ih=>simp only[cnt,ih]
 |swap x y l=>simp only[cnt];rw[B3]
 |trans _ _ h1 h2=>exact h1.trans h2
theorem acX (h:aY V L R=0) (d:v<L.length):¬v∈ag L[v]:=by
 rw[aY] at h;by_cases c:L.length=V.length/\R.length=V.length
 ·rw[aA c] at h;by_cases a:bH L=0
  ·rw[bH] at a;by_cases b:gB L=true
   ·rw[gB,gX,gX,Am,gW] at b;have:=b.2 v (bJ.2 d);rw[List.getD_eq_getElem?_getD,List.getElem?_eq_getElem d] at this;simpa using this
   ·rw[aB b] at a;cases a
  ·rw[aB a] at h;exact absurd h a
 ·rw[aB c] at h;cases h
theorem aaY (o:v<L.length) (l:Up L[v] n) (r:¬v∈ag L[v]):(([(v:Int)]++L[v]).mergeSort fun x y=>decide (x<=y))=gU L v:=by
 have k:L.getD v []=L[v]:=by rw[List.getD_eq_getElem?_getD,List.getElem?_eq_getElem o];rfl
 obtain⟨d,e⟩:=Lf L[v] [(v:Int)];rw[gU,k];have A:¬(v:Int)∈L[v]:=fun h=>r (by rw[ag];exact bc.2 ⟨_,h,nh v⟩);have p:(([(v:Int)]++L[v]).mergeSort fun x y=>decide (x<=y)).Pairwise (fun x y=>decide (x<=y)=true):=List.pairwise_mergeSort (fun a b c d e=>by simp at d e⊢;omega) (fun a b=>by simp;omega) _
 have P:([(v:Int)]++L[v]).Nodup:=by
  rw[List.singleton_append,q7];exact⟨A,(il.1 l).2.imp fun h=>al⟩
 have m:(([(v:Int)]++L[v]).mergeSort fun x y=>decide (x<=y)).Nodup:=(Tc _ _).nodup_iff.2 P;refine abt ?_ d fun x=>?_
 ·rw[DZ];intro i j f g S;have q:=DZ.1 p i j f g S;have s:=DZ.1 m i j f g S;have t:=tW q;omega
 ·rw[List.mem_mergeSort,e,dh];exact Or.comm
theorem apc (S:List Nat) (e:v<L.length) (a:Up L[v] n) (o:¬v∈ag L[v]):cnt S (ag (gU L v))=cnt S (ag L[v])*sz S v:=by
 rw[<- aaY e a o];have h:(([(v:Int)]++L[v]).mergeSort fun x y=>decide (x<=y)).Perm ([(v:Int)]++L[v]):=Tc _ _;have b:=apa (S:=S) (h.map Int.toNat);rw[ag,b,fg,gV,lx,List.singleton_append,cnt,nh,dJ];rfl
def Av (A f:Nat ->Nat) (vs:List Nat) (i:Nat):Nat ->Nat:=fun u=>if u∈vs.take i then f u else A u
theorem alx (A f:Nat ->Nat) (vs:List Nat):Av A f vs 0=A:=by funext u;simp[Av]
theorem aly (A f:Nat ->Nat) (n:Nat) (h:i<vs.length):(rk n (Av A f vs i)).set vs[i] (f vs[i])=rk n (Av A f vs (i+1)):=by
 rw[ah0];refine ah1 fun u _=>?_;rw[aV,Av,Av,fL h];by_cases e:u=vs[i]
 ·rw[aA e,aA (dh.2 (.inr (dX.2 e))),e]
 ·rw[aB e];by_cases b:u∈vs.take i
  ·rw[aA b,aA (dh.2 (.inl b))]
  ·rw[aB b,aB (fun a=>by rcases dh.1 a with a |a;exact b a;exact e (dX.1 a))]
theorem alz {A:Nat ->Nat} (h:∀u,¬u∈vs ->A u=0) (a:∀u,¬u∈vs ->f u=0):Av A f vs vs.length=f:=by
 funext u
 rw[Av,fD];by_cases e:u∈vs
 ·rw[aA e]
 ·rw[aB e,h u e,a u e]
def bq (g:Nat ->Rat):Nat ->Rat
 |0=>0
 |n+1=>bq g n+g n
theorem ny {g h:Nat ->Rat}:∀ {n:Nat},(∀x,x< n ->g x=h x) ->bq g n=bq h n
 |0,_=>rfl
 |n+1,e=>by rw[bq,bq,ny fun x a=>e x al,e n al]
theorem TN:∀n,bq (fun _=>0) n=0
 |0=>rfl
 |n+1=>by rw[bq,TN n,F4]
theorem aaK (g h:Nat ->Rat):∀n,bq (fun x=>g x+h x) n=bq g n+bq h n
 |0=>by simp[bq,F4]
 |n+1=>by
  rw[bq,bq,bq,aaK g h n];rw[KO,KO, <- KO (bq h n),Rat.add_comm (bq h n) (g n),KO]
theorem Gf (c:Rat) (g:Nat ->Rat):∀n,bq (fun x=>c*g x) n=c*bq g n
 |0=>by simp[bq,Rat.mul_zero]
 |n+1=>by rw[bq,bq,Gf c g n,Rat.mul_add]
theorem aaG (g:Nat ->Nat ->Rat) (m:Nat):∀n,bq (fun x=>bq (fun y=>g x y) m) n=bq (fun y=>bq (fun x=>g x y) n) m
 |0=>by simp only[bq];rw[TN]
 |n+1=>by
  rw[bq,aaG g m n, <- aaK];rfl
theorem aaH (g:Nat ->Rat) (m:Nat):∀n,bq g (m+n)=bq g m+bq (fun y=>g (m+y)) n
 |0=>by simp[bq,F4]
 |n+1=>by rw[<- DY,bq,aaH g m n,bq,KO]
theorem aaI (g:Nat ->Rat) (b:Nat):∀a,bq g (a*b)=bq (fun x=>bq (fun y=>g (x*b+y)) b) a
 |0=>by rw[mX];rfl
 |a+1=>by rw[gC,kO,aaH,aaI g b a,bq]
def fE (S:List Nat):List Nat ->((Nat ->Nat) ->Rat) ->(Nat ->Nat) ->Rat
 |[],F,f=>F f
 |v::vs,F,f=>bq (fun x=>fE S vs F (aV f v x)) (sz S v)
def over (vs:List Nat) (f g:Nat ->Nat):Nat ->Nat:=fun u=>if u∈vs then g u else f u
theorem aj9 (f g:Nat ->Nat):over [] f g=f:=by funext u;simp[over]
theorem acV (F:(Nat ->Nat) ->Rat):∀(vs:List Nat) (f:Nat ->Nat),vs.Nodup ->bq (fun k=>F (over vs f (aT S vs k))) (cnt S vs)=fE S vs F f
 |[],f,_=>by
  show 0+F (over [] f _)=F f;rw[aj9,Rat.zero_add]
 |v::vs,f,hn=>by
  rw[q7] at hn;rw[cnt,aaI,fE];refine ny fun x g=>?_;rw[<- acV F vs (aV f v x) hn.2];refine ny fun y b=>?_;congr 1
  funext u
  have c:(x*cnt S vs+y)/cnt S vs=x:=by rw[dJ,Nat.mul_add_div al,zZ b,fZ]
  have d:(x*cnt S vs+y) % cnt S vs=y:=by rw[dJ,Nat.mul_add_mod,jM b]
  simp only[over,aT,c,d,aV,dR];by_cases e:u=v
  ·subst e;rw[aA (.inl rfl),aA rfl,aB hn.1,aA rfl]
  ·rw[aB e];by_cases a:u∈vs
   ·rw[aA (.inr a),aA a]
   ·rw[aB (fun h=>h.elim e a),aB a,aB e]
theorem Gk {F G:(Nat ->Nat) ->Rat} (h:∀g,(∀u,g u<sz S u) ->F g=G g):∀(vs:List Nat) (f:Nat ->Nat),(∀u,f u<sz S u) ->fE S vs F f=fE S vs G f
 |[],f,hf=>h f hf
 |v::vs,f,hf=>by
  rw[fE,fE];refine ny fun x a=>Gk h vs _ fun u=>?_;rw[aV];by_cases e:u=v
  ·rw[aA e,e];exact a
  ·rw[aB e];exact hf u
theorem LL (F:(Nat ->Nat) ->Rat) (v:Nat):∀(vs:List Nat) (f:Nat ->Nat),fE S (vs++[v]) F f=fE S vs (fun g=>bq (fun x=>F (aV g v x)) (sz S v)) f
 |[],f=>rfl
 |u::vs,f=>by
  rw[fM,fE,fE];exact ny fun x _=>LL F v vs _
theorem LM (F:(Nat ->Nat) ->Rat) {a b:List Nat} (h:a.Perm b):a.Nodup ->∀f,fE S a F f=fE S b F f:=by
 induction h with
 |nil=>intro _ f;rfl
 |cons x _ ih=>
  intro n f;rw[q7] at n;rw[fE,fE];exact ny fun y _=>ih n.2 _
 |swap x y l=>
  intro n f
  have c:y≠x:=by
   rw[q7] at n;exact fun e=>n.1 (by rw[e];exact dQ)
  simp only[fE];rw[aaG];refine ny fun p _=>ny fun q _=>?_;rw[Pq f q p (Ne.symm c)]
 |trans h1 _ ih1 Vm=>
  intro n f;rw[ih1 n f,Vm (h1.nodup_iff.1 n) f]
def dT (V:List Vr) (L:List (List Int)) (R:List (List Fr)) (f:Nat ->Nat):List Nat ->Rat
 |[]=>1
 |v::vs=>aW (ei V L R f v)*dT V L R f vs
theorem Jh (V:List Vr) (L:List (List Int)) (R:List (List Fr)) (f:Nat ->Nat) (b:List Nat):∀a,dT V L R f (a++b)=dT V L R f a*dT V L R f b
 |[]=>by rw[iI,dT,yf]
 |v::a=>by rw[fM,dT,dT,Jh V L R f b a,zX]
theorem LA (V:List Vr) (L:List (List Int)) (R:List (List Fr)) (f:Nat ->Nat):∀n,jQ V L R f n=dT V L R f (List.range n)
 |0=>rfl
 |n+1=>by rw[jQ,LA V L R f n,sV,Jh,dT,dT,BX]
theorem Un {a b:List Nat} (h:a.Perm b):dT V L R f a=dT V L R f b:=by
 induction h with
 |nil=>rfl
 |cons x _ ih=>rw[dT,dT,ih]
 |swap x y l=>simp only[dT];rw[<- zX, <- zX,Rat.mul_comm (aW (ei V L R f y))]
 |trans _ _ h1 h2=>exact h1.trans h2
theorem adp {x:Nat} (h1:u≠v) (h:¬v∈ag (L.getD u [])):ei V L R (aV f v x) u=ei V L R f u:=by
 rw[ei,ei,rA,rA]
 have e:pos (ah V) (aV f v x) (ag (L.getD u []))=pos (ah V) f (ag (L.getD u [])):=Al _ fun z a=>by
  rw[aV,aB];intro e;exact h (e▸a)
 rw[e,aV,aB h1]
theorem Lz {x:Nat}:∀ {o:List Nat},(∀u∈o,u≠v/\¬v∈ag (L.getD u [])) ->dT V L R (aV f v x) o=dT V L R f o
 |[],_=>rfl
 |u::o,h=>by
  obtain⟨a,b⟩:=h u dQ;rw[dT,dT,adp a b,Lz fun z c=>h z (eH _ c)]
theorem an2:∀(l:List Fr),aX l=bq (fun x=>aW (bG l x)) l.length:=by
 intro l
 have e:∀n,n<=l.length ->aX (l.take n)=bq (fun x=>aW (bG l x)) n:=by
  intro n;induction n with
  |zero=>intro _;rfl
  |succ n ih=>
   intro h;rw[fL al,Ry,ih al,bq,qM al];rfl
 have:=e l.length (ar _);rwa [fD] at this
theorem row_one (h0:aY V L R=0) (c:v<V.length) (g:∀u,f u<sz (ah V) u):bq (fun x=>aW (ei V L R (aV f v x) v)) (sz (ah V) v)=1:=by
 have Q:=gD h0;have o:v<L.length:=by rw[Q.len];exact c
 have k:v<R.length:=by rw[Q.lenR];exact c
 have n:=acX h0 o;have l:=Q.rows v o k;have p:=rq f g (ag L[v])
 have r:gY (eJ R[v] (sz (ah V) v) (pos (ah V) f (ag L[v])))=true:=by
  have b:js (iX (ah V) L R) V.length=0:=by
   rw[aY] at h0;by_cases b:L.length=V.length/\R.length=V.length
   ·rw[aA b] at h0;by_cases h:bH L=0
    ·rw[aA h] at h0;by_cases a:jB V=0
     ·rwa [aA a] at h0
     ·rw[aB a] at h0;exact absurd h0 a
    ·rw[aB h] at h0;exact absurd h0 h
   ·rw[aB b] at h0;exact absurd h0 a6
  have h:=M9 b v c;rw[iX,List.getD_eq_getElem?_getD,List.getElem?_eq_getElem k,List.getD_eq_getElem?_getD,List.getElem?_eq_getElem o] at h;simp only[zY] at h;rw[aA l] at h;by_cases a:((List.range (cnt (ah V) (ag L[v]))).all fun i=>gY (eJ R[v] (sz (ah V) v) i))=true
  ·rw[gW] at a;exact a _ (bJ.2 p)
  ·rw[aB a] at h;exact absurd h a6
 rw[gY,gX] at r;have s:aX (eJ R[v] (sz (ah V) v) (pos (ah V) f (ag L[v])))=1:=tW r.2;have w:(pos (ah V) f (ag L[v])+1)*sz (ah V) v<=R[v].length:=by rw[l];exact j6 _ p
 have q:(pos (ah V) f (ag L[v])+1)*sz (ah V) v=pos (ah V) f (ag L[v])*sz (ah V) v+sz (ah V) v:=by rw[gC,kO]
 have m:(eJ R[v] (sz (ah V) v) (pos (ah V) f (ag L[v]))).length=sz (ah V) v:=by
  rw[eJ,eX,mY];omega
 rw[an2,m] at s;rw[<- s];refine ny fun x t=>?_;rw[LQ o k,rA]
 have d:pos (ah V) (aV f v x) (ag L[v])=pos (ah V) f (ag L[v]):=Al _ fun z j=>by
  rw[aV,aB];intro e;exact n (e▸j)
 rw[d,aV,aA rfl,qM al,qM al];simp only[eJ,Ce,KX]
theorem Qk (P:List (List Nat)):∀k,∀u∈aZ P k,∀z∈P.getD u [],z∈aZ P k
 |0,u,hu=>by cases hu
 |k+1,u,hu=>by
  rw[aZ] at hu⊢;cases e:nD P (aZ P k) with
  |none=>
   rw[e] at hu;exact Qk P k u hu
  |some v=>
   rw[e] at hu;intro z a;refine dh.2 (.inl ?_);rcases dh.1 hu with h |h
   ·exact Qk P k u h z a
   ·obtain rfl:=dX.1 h;have y:gz P (aZ P k) u=true:=List.find?_some e;rw[gz,gX] at y;exact tW y.2 z a
theorem acS (h0:aY V L R=0):∀k,(aZ (aL L) k).length=k ->k<=L.length ->(aZ (aL L) k).Nodup/\∀f,(∀u,f u<sz (ah V) u) ->fE (ah V) (aZ (aL L) k) (fun g=>dT V L R g (aZ (aL L) k)) f=1
 |0,_,_=>⟨List.nodup_nil,fun _ _=>rfl⟩
 |k+1,hl,hk=>by
  have Q:=gD h0;have q:=Em (aL L) k;cases e:nD (aL L) (aZ (aL L) k) with
  |none=>
   rw[aZ,e] at hl;exact absurd hl (by show (aZ (aL L) k).length≠_;omega)
  |some v=>
   have i:=LI e;rw[i] at hl⊢;rw[dm,O5] at hl;obtain⟨n,s⟩:=acS h0 k al al;have y:gz (aL L) (aZ (aL L) k) v=true:=List.find?_some e;rw[gz,gX] at y;(have A:¬v∈aZ (aL L) k:=by simpa using y.1);(have o:v<L.length:=by have:=bJ.1 (ZQ e);rwa [kW] at this);refine⟨?_,fun f d=>?_⟩
   ·rw[IL];refine⟨n,aE,fun a j b l=>?_⟩;rw[dX.1 l];exact fun e=>A (e▸j)
   ·rw[LL, <- s f d];refine Gk (fun g m=>?_) _ f d;rw[ny (h:=fun x=>dT V L R g (aZ (aL L) k)*aW (ei V L R (aV g v x) v))]
    ·rw[Gf,row_one h0 (by rw[<- Q.len];exact o) m,BX]
    ·intro x _;rw[Jh,dT,dT,BX,Lz];intro u c;refine⟨fun e=>A (e▸c),fun p=>?_⟩
     exact A (Qk (aL L) k u c v (by
      have z:=Gi (aL L) k u c;rw[kW] at z;rw[LD z];rw[List.getD_eq_getElem?_getD,List.getElem?_eq_getElem z] at p;exact p))
theorem UN:∀(n:Nat) (l:List Nat),l.Nodup ->(∀x∈l,x<n) ->l.length<=n
 |0,l,_,h=>by
  cases l with
  |nil=>exact ar _
  |cons a l=>exact absurd (h a dQ) al
 |n+1,l,hn,h=>by
  by_cases m:n∈l
  ·have g:=Tf m
   have c:=UN n (l.erase n) (hn.erase n) (fun x b=>by
    have d:=h x (List.mem_of_mem_erase b);(have f:x≠n:=fun e=>by subst e;exact hn.not_mem_erase b);omega)
   have i:=List.length_pos_of_mem m;omega
  ·have c:=UN n l hn (fun x b=>by
    have d:=h x b;have f:x≠n:=fun e=>m (e▸b);omega)
   omega
theorem ab9:∀(n:Nat) (l:List Nat),l.Nodup ->(∀x∈l,x<n) ->l.length=n ->l.Perm (List.range n)
 |0,l,_,_,h=>by
  have:=D8.1 h;subst this;exact List.Perm.refl _
 |n+1,l,hn,h,hl=>by
  have m:n∈l:=Eb fun m=>by
   have:=UN n l hn (fun x a=>by
    have c:=h x a;have d:x≠n:=fun e=>m (e▸a);omega)
   omega
  have f:=Tf m
  have b:=ab9 n (l.erase n) (hn.erase n) (fun x a=>by
   have c:=h x (List.mem_of_mem_erase a);(have d:x≠n:=fun e=>by subst e;exact hn.not_mem_erase a);omega) al
  rw[sV];exact(List.perm_cons_erase m).trans ((b.cons n).trans (List.perm_append_singleton n (List.range n)).symm)
theorem UG (h:aY V L R=0):(aZ (aL L) L.length).length=L.length:=by
 rw[aY] at h;by_cases b:L.length=V.length/\R.length=V.length
 ·rw[aA b] at h;by_cases a:bH L=0
  ·rw[bH] at a;by_cases c:gB L=true
   ·rw[aA c] at a;by_cases d:(aZ (aL L) L.length).length<L.length
    ·rw[aA d] at a;cases a
    ·have:=Em (aL L) L.length;omega
   ·rw[aB c] at a;cases a
  ·rw[aB a] at h;exact absurd h a
 ·rw[aB b] at h;cases h
theorem aka (k:Nat):over vs (fun _=>0) (aT S vs k)=aT S vs k:=by
 funext u
 rw[over];by_cases e:u∈vs
 ·rw[aA e]
 ·rw[aB e,Dd e]
theorem acq (g:Nat ->Rat):∀m,j9 false g m=bq g (m+1)
 |0=>by show g 0=0+g 0;rw[Rat.zero_add]
 |m+1=>by
  rw[j9,acq g m];rfl
theorem alQ {g:Nat ->Nat} (h:∀u,u=v∨u∈ag (L.getD v []) ->f u=g u):ei V L R f v=ei V L R g v:=by
 rw[ei,ei,rA,rA,Al (ah V) (f:=f) (g:=g) fun u a=>h u (.inr a),h v (.inl rfl)]
def zm (A:Nat ->Prop) (G:(Nat ->Nat) ->Rat):Prop:=∀v,¬A v ->∀g x,G (aV g v x)=G g
def mS (L:List (List Int)) (A:Nat ->Prop):Prop:=∀v,A v ->∀u∈ag (L.getD v []),A u
theorem alO {A:Nat ->Prop} (c:mS L A) (a:A v):zm A (fun g=>aW (ei V L R g v)):=fun u h g x=>by
 show aW (ei V L R (aV g u x) v)=aW (ei V L R g v);have b:v≠u:=fun e=>h (by rw[<- e];exact a);rw[adp b (fun m=>h (c v a u m))]
theorem aab (f:Nat ->Nat) (v x y:Nat):aV (aV f v x) v y=aV f v y:=by
 funext u
 simp only[aV];by_cases e:u=v
 ·rw[aA e,aA e]
 ·rw[aB e,aB e,aB e]
theorem zm.sum {A:Nat ->Prop} {G:(Nat ->Nat) ->Rat} (a:zm A G) (v n:Nat):zm A (fun g=>bq (fun x=>G (aV g v x)) n):=fun u b g y=>by
 refine ny fun x _=>?_;by_cases e:u=v
 ·subst e;rw[aab]
 ·rw[Pq g y x (fun h=>e h.symm)];exact a u b _ _
theorem zm.mul {A:Nat ->Prop} {G H:(Nat ->Nat) ->Rat} (a:zm A G) (b:zm A H):zm A (fun g=>G g*H g):=fun u h g x=>by
 show G (aV g u x)*H (aV g u x)=G g*H g;rw[a u h,b u h]
theorem Yi (h0:aY V L R=0) {b:Nat ->Bool} (A:mS L fun v=>b v=true):∀k,(aZ (aL L) k).length=k ->k<=L.length ->∀(G:(Nat ->Nat) ->Rat),zm (fun v=>b v=true) G ->∀f,(∀u,f u<sz (ah V) u) ->
  fE (ah V) (aZ (aL L) k) (fun g=>G g*dT V L R g (aZ (aL L) k)) f=fE (ah V) ((aZ (aL L) k).filter b) (fun g=>G g*dT V L R g ((aZ (aL L) k).filter b)) f
 |0,_,_,_,_,_,_=>rfl
 |k+1,hl,hk,G,hG,f,hf=>by
  have Q:=gD h0;have m:=Em (aL L) k;cases e:nD (aL L) (aZ (aL L) k) with
  |none=>
   rw[aZ,e] at hl;exact absurd hl (by show (aZ (aL L) k).length≠_;omega)
  |some v=>
   have d:=LI e;rw[d] at hl⊢;rw[dm,O5] at hl;have y:gz (aL L) (aZ (aL L) k) v=true:=List.find?_some e;rw[gz,gX] at y;(have H:¬v∈aZ (aL L) k:=by simpa using y.1);(have l:v<L.length:=by have:=bJ.1 (ZQ e);rwa [kW] at this)
   have o:∀u∈aZ (aL L) k,u≠v/\¬v∈ag (L.getD u []):=fun u a=>by
    refine⟨fun e=>H (e▸a),fun p=>?_⟩
    exact H (Qk (aL L) k u a v (by
     have z:=Gi (aL L) k u a;rw[kW] at z;rw[LD z];rw[List.getD_eq_getElem?_getD,List.getElem?_eq_getElem z] at p;exact p))
   rw[LL,Ch];by_cases c:b v=true
   ·have i:=Yi h0 A k al al (fun g=>bq (fun x=>G (aV g v x)*aW (ei V L R (aV g v x) v)) (sz (ah V) v)) ((hG.mul (alO A c)).sum v _) f hf;rw[show ([v].filter b)=[v] by simp[c],LL];rw[Gk (F:=fun g=>bq (fun x=>G (aV g v x)*dT V L R (aV g v x) (aZ (aL L) k++[v])) (sz (ah V) v)) (G:=fun g=>bq (fun x=>G (aV g v x)*aW (ei V L R (aV g v x) v)) (sz (ah V) v)*dT V L R g (aZ (aL L) k)) ?_ _ f hf,i]
    ·refine Gk ?_ _ f hf;intro g _;rw[Rat.mul_comm, <- Gf];refine ny fun x _=>?_;rw[Jh,dT,dT,BX,Lz fun u a=>o u (dB.1 a).1];grind
    ·intro g _;rw[Rat.mul_comm, <- Gf];refine ny fun x _=>?_;rw[Jh,dT,dT,BX,Lz o];grind
   ·have i:=Yi h0 A k al al G hG f hf;rw[show ([v].filter b)=[] by simp[c],F9, <- i];refine Gk ?_ _ f hf;intro g j;rw[ny (h:=fun x=>(G g*dT V L R g (aZ (aL L) k))*aW (ei V L R (aV g v x) v))]
    ·rw[Gf,row_one h0 (by rw[<- Q.len];exact l) j,BX]
    ·intro x _;rw[Jh,dT,dT,BX,Lz o,hG v c];grind
def Fit (S:List Nat) (f:Nat ->Nat):Prop:=∀u,f u<sz S u
theorem Fit.with (h:Fit S f) {x:Nat} (a:x<sz S v):Fit S (aV f v x):=fun u=>by
 rw[aV];by_cases e:u=v
 ·rw[aA e,e];exact a
 ·rw[aB e];exact h u
def tQ (S:List Nat) (t:List Nat×List Fr) (f:Nat ->Nat):Rat:=aW (bG t.2 (pos S f t.1))
theorem ahx {t:List Nat×List Fr} {x:Nat} (h:¬v∈t.1):tQ S t (aV f v x)=tQ S t f:=by
 rw[tQ,tQ,Al S (f:=aV f v x) (g:=f)];intro u a;rw[aV,aB];intro e;exact h (e▸a)
theorem ahw {a b U:List Nat} (p:Pos S) (r:U.Nodup) (w:∀u∈a,u∈U) (v:∀u∈b,u∈U) (la lb:List Fr) (h:Fit S f):tQ S (U,wL S a b U la lb) f=tQ S (a,la) f*tQ S (b,lb) f:=ajr p r w v la lb h
theorem aay {vars rest:List Nat} (p:Pos S) (r:rest.Nodup) (b:∀u∈vars,u=v∨u∈rest) (l:List Fr) (a:Fit S f):tQ S (rest,sk S vars rest v false l) f=bq (fun x=>tQ S (vars,l) (aV f v x)) (sz S v):=by
 have h:=acp p r b false l a;rw[acq,show sz S v - 1+1=sz S v by have:=iM p v;omega] at h;exact h
theorem aaz {vars rest:List Nat} (p:Pos S) (r:rest.Nodup) (a:∀u∈vars,u=v∨u∈rest) (l:List Fr) (h:Fit S f):tQ S (rest,sk S vars rest v true l) f=j9 true (fun x=>tQ S (vars,l) (aV f v x)) (sz S v - 1):=acp p r a true l h
theorem TJ {vars rest:List Nat} (p:Pos S) (r:rest.Nodup) {x:Nat} (b:∀u∈vars,u=v∨u∈rest) (l:List Fr) (h:Fit S f):tQ S (rest,y5 S vars rest v x l) f=tQ S (vars,l) (aV f v x):=by
 rw[tQ,tQ,y5,RS _ (rq f h rest),qJ];rw[Al S (f:=aV (aT S rest (pos S f rest)) v x) (g:=aV f v x)];intro u a;simp only[aV];by_cases e:u=v
 ·rw[aA e,aA e]
 ·rw[aB e,aB e];exact Fh p h r u ((b u a).resolve_left e)
theorem TI (h0:aY V L R=0) (d:v<V.length) (c:Fit (ah V) f):tQ (ah V) (ag (gU L v),gL V L R v) f=aW (ei V L R f v):=by
 have a:=gD h0;have e:v<L.length:=by rw[a.len];exact d
 have j:Pos (ah V):=by have:=a.fine.pos;rwa [eM] at this
 have g:L.getD v []=L[v]:=by rw[List.getD_eq_getElem?_getD,List.getElem?_eq_getElem e];rfl
 have i:Up (gU L v) V.length:=by rw[gU,g];exact I0 (a.up v e) (Tx d)
 have m:∀u,u=v∨u∈ag (L.getD v []) ->u∈ag (gU L v):=fun u h=>by
  obtain⟨_,b⟩:=Lf (L.getD v []) [(v:Int)];rcases h with rfl |h
  ·exact bc.2 ⟨(u:Int),(b _).2 (.inr (dX.2 rfl)),nh u⟩
  ·obtain⟨z,k,rfl⟩:=bc.1 h;exact bc.2 ⟨z,(b _).2 (.inl k),rfl⟩
 rw[tQ,gL,RS _ (rq f c _),qJ];congr 1
 exact alQ fun u h=>Fh j c i.nodup u (m u h)
def pQ (S:List Nat) (f:Nat ->Nat):List (List Nat×List Fr) ->Rat
 |[]=>1
 |t::P=>tQ S t f*pQ S f P
theorem Uz (S:List Nat) (f:Nat ->Nat) (Q:List (List Nat×List Fr)):∀P,pQ S f (P++Q)=pQ S f P*pQ S f Q
 |[]=>by rw[iI,pQ,yf]
 |t::P=>by rw[fM,pQ,pQ,Uz S f Q P,zX]
theorem Uy {x:Nat}:∀ {P:List (List Nat×List Fr)},(∀t∈P,¬v∈t.1) ->pQ S (aV f v x) P=pQ S f P
 |[],_=>rfl
 |t::P,h=>by rw[pQ,pQ,ahx (h t dQ),Uy fun s a=>h s (eH _ a)]
theorem Ux (S:List Nat) (f:Nat ->Nat) (p:List Nat×List Fr ->Bool):∀P:List (List Nat×List Fr),pQ S f P=pQ S f (P.filter fun t=>!p t)*pQ S f (P.filter p)
 |[]=>by simp[pQ]
 |t::P=>by
  rw[pQ,Ux S f p P];cases h:p t
  ·rw[Cf (by simp[h]),Cg (by simp[h]),pQ,zX]
  ·rw[Cg (by simp[h]),Cf h,pQ, <- zX, <- zX,Rat.mul_comm (tQ S t f)]
theorem aj3 {P:List (List Nat×List Fr)} {q r:List Nat×List Fr} (a:∀g,Fit S g ->tQ S q g=pQ S g (P.filter fun t=>decide (v∈t.1))) (b:∀g,Fit S g ->tQ S r g=bq (fun x=>tQ S q (aV g v x)) (sz S v)) (h:Fit S f):
  pQ S f ((P.filter fun t=>!decide (v∈t.1))++[r])=bq (fun x=>pQ S (aV f v x) P) (sz S v):=by
 rw[Uz,pQ,pQ,BX,b f h, <- Gf];refine ny fun x d=>?_;have o:=Uy (S:=S) (f:=f) (v:=v) (x:=x) (P:=P.filter fun t=>!decide (v∈t.1)) (fun t c=>by simpa using (dB.1 c).2);rw[Ux S (aV f v x) (fun t=>decide (v∈t.1)) P,a _ (h.with d),o]
variable {ws:List Nat}
def JV (S:List Nat):List Nat ->((Nat ->Nat) ->Rat) ->(Nat ->Nat) ->Rat
 |[],F=>F
 |v::vs,F=>JV S vs fun f=>bq (fun x=>F (aV f v x)) (sz S v)
theorem afh (S:List Nat):∀(vs:List Nat) (F:(Nat ->Nat) ->Rat) (f:Nat ->Nat),JV S vs F f=fE S vs.reverse F f
 |[],F,f=>rfl
 |v::vs,F,f=>by rw[JV,afh S vs,List.reverse_cons,LL]
theorem aoH (h:vs.Perm ws) (n:vs.Nodup) (F:(Nat ->Nat) ->Rat) (f:Nat ->Nat):JV S vs F f=fE S ws F f:=by
 rw[afh];exact LM F ((List.reverse_perm vs).trans h) ((List.reverse_perm vs).nodup_iff.2 n) f
def CC (v x:Nat) (g:Nat ->Nat):Rat:=if g v=x then 1 else 0
theorem acT {x y:Nat} (F:(Nat ->Nat) ->Rat):∀(vs:List Nat) (f:Nat ->Nat),¬v∈vs ->f v=y ->fE S vs (fun g=>CC v x g*F g) f=(if y=x then 1 else 0)*fE S vs F f
 |[],f,_,hf=>by
  show CC v x f*F f=_;rw[CC,hf];rfl
 |u::vs,f,hv,hf=>by
  rw[fE,fE, <- Gf];refine ny fun z _=>?_;refine acT F vs _ (fun h=>hv (eH _ h)) ?_;rw[aV,aB (fun e=>hv (by rw[e];exact dQ)),hf]
theorem UL {x:Nat} (F:(Nat ->Nat) ->Rat):∀(vs:List Nat) (f:Nat ->Nat),¬v∈vs ->fE S vs F (aV f v x)=fE S vs (fun g=>F (aV g v x)) f
 |[],f,_=>rfl
 |u::vs,f,hv=>by
  rw[fE,fE];refine ny fun z _=>?_;have n:v≠u:=fun e=>hv (by rw[e];exact dQ);rw[Pq f x z (fun e=>n e.symm),UL F vs _ fun h=>hv (eH _ h)]
theorem aaJ {g:Nat ->Rat} {x:Nat}:∀ {n:Nat},x< n ->bq (fun y=>(if y=x then 1 else 0)*g y) n=g x
 |0,h=>al
 |n+1,h=>by
  rw[bq];rcases cF x n with a |a
  ·rw[aaJ a,aB al,IH,F4]
  ·obtain rfl:x=n:=al
   rw[aA rfl,yf,ny (h:=fun _=>0) fun y b=>by rw[aB al,IH],TN,Rat.zero_add]
theorem akE {x:Nat} (F:(Nat ->Nat) ->Rat) (h:vs.Perm (v::ws)) (n:vs.Nodup) (a:x<sz S v) (f:Nat ->Nat):fE S vs (fun g=>CC v x g*F g) f=fE S ws (fun g=>F (aV g v x)) f:=by
 have d:=h.nodup_iff.1 n;rw[q7] at d;rw[LM _ h n f,fE, <- UL F ws f d.1];rw[ny (h:=fun y=>(if y=x then 1 else 0)*fE S ws F (aV f v y)) fun y _=>acT F ws _ d.1 (by rw[aV,aA rfl])];exact aaJ a
def kC:List (Nat×Nat) ->(Nat ->Nat) ->Rat
 |[],_=>1
 |p::l,g=>CC p.1 p.2 g*kC l g
def dw:List (Nat×Nat) ->(Nat ->Nat) ->Nat ->Nat
 |[],g=>g
 |p::l,g=>dw l (aV g p.1 p.2)
theorem Yg {x:Nat}:∀ {l:List (Nat×Nat)},(∀p∈l,p.1≠v) ->∀g,kC l (aV g v x)=kC l g
 |[],_,_=>rfl
 |p::l,h,g=>by
  rw[kC,kC,Yg (fun q a=>h q (eH _ a)),CC,CC,aV,aB (h p dQ)]
theorem PX {x:Nat}:∀ {l:List (Nat×Nat)},(∀p∈l,p.1≠v) ->∀g,dw l (aV g v x)=aV (dw l g) v x
 |[],_,_=>rfl
 |p::l,h,g=>by
  rw[dw,dw,Pq g x p.2 (h p dQ),PX fun q a=>h q (eH _ a)]
theorem acU:∀(l:List (Nat×Nat)) (F:(Nat ->Nat) ->Rat) {vs ws:List Nat},vs.Perm (l.map (·.1)++ws) ->vs.Nodup ->(∀p∈l,p.2<sz S p.1) ->∀f,fE S vs (fun g=>kC l g*F g) f=fE S ws (fun g=>F (dw l g)) f
 |[],F,vs,ws,h,hn,_,f=>by
  rw[LM _ h hn f];show fE S ws (fun g=>1*F g) f=_;simp only[yf,dw]
 |p::l,F,vs,ws,h,hn,hx,f=>by
  have d:=h.nodup_iff.1 hn;rw[gV,fM] at d h;rw[q7] at d;have o:∀q∈l,q.1≠p.1:=fun q a e=>d.1 (dh.2 (.inl (by rw[<- e];exact bc.2 ⟨q,a,rfl⟩)))
  have b:(fun g=>kC (p::l) g*F g)=fun g=>CC p.1 p.2 g*(kC l g*F g):=by
   funext g
   rw[kC,zX]
  rw[b,akE (fun g=>kC l g*F g) h hn (hx p dQ) f]
  have c:(fun g=>kC l (aV g p.1 p.2)*F (aV g p.1 p.2))=fun g=>kC l g*F (aV g p.1 p.2):=by
   funext g
   rw[Yg o]
  rw[c,acU l (fun g=>F (aV g p.1 p.2)) (List.Perm.refl _) d.2 (fun q a=>hx q (eH _ a)) f];congr 1
  funext g
  rw[show dw (p::l) g=dw l (aV g p.1 p.2) from rfl];congr 1
  exact(PX o g).symm
end Go.Proofs.YtfhdoommfenijaaGreatDoor
