/- Part3: part 3. -/
import Derived.Test.YtkflnpjapgiajaaGreatDoorLegT2
set_option maxRecDepth 100000
set_option maxHeartbeats 400000000
set_option linter.unusedSimpArgs false
set_option linter.unusedVariables false
namespace Go.Proofs.YtkflnpjapgiajaaGreatDoor
open Go.RowKit Go.Shelf
variable {L:List Kh} {i:Nat} {w:World}
theorem aqz {l1 l2:Ki} (h1:i<l1.length) (a:i<l2.length) (h:l1[i]≠l2[i]):decide (l1=l2)=false:=cF fun e=>h (by subst e;rfl)
theorem aqC {l1 l2:Ki} (l:l1.length=l2.length) (h:∀i (a:i<l1.length) (b:i<l2.length),l1[i]=l2[i]):decide (l1=l2)=true:=bX (pJ l h)
theorem ajF (c d n c1 c2:Nat) (l1 l2:Ki) (w:World) (s:l1.length=n) (v:l2.length=n) (F:n<=5000) (h1:cU w c l1) (g:cU w d l2):
  da 282 #[.slice (some ⟨c,0,none⟩) n c1,.slice (some ⟨d,0,none⟩) n c2] w (du w (.bool (decide (l1=l2)))):=by
 have e:=hid h1;have f:=hid g;have m:=hid (fun i (a:i<l1.length) (b:i<l2.length) h=>aqz a b h);have E:=hid (fun h=>aqC (l1:=l1) (l2:=l2) al h);generalize decide (l1=l2)=r at *;clear h1 g;go_enter Tryz.func282,Tryz.ntmps282;go_wp2_with fail
 go_loopw [13] (fun iv wr=>∃i:Nat,i<=n/\iv=.int .i64 i/\Hid (∀j (a:j<l1.length) (b:j<l2.length),j< i ->l1[j]=l2[j])/\Hid (db w wr)) (fun iv _=>n - (intOf iv).toNat)
 case atStart=>exact⟨0,aU _,rfl,fun j _ _ h=>absurd h al,au _ _⟩
 case round=>
  obtain⟨i,A,rfl,I,H⟩:=hrel;by_cases L:i<n
  ·have p:=(e.o.aa H.o e.o.lt).cell i al;have q:=(f.o.aa H.o f.o.lt).cell i al;have u:=hid (m.o i al al)
   have S:Hid (l1[i]'al=l2[i]'al ->∀j (a:j<l1.length) (b:j<l2.length),j<i+1 ->l1[j]=l2[j]):=fun h j a b D=>by
    rcases dG j i with k |k
    ·exact I.o j a b k
    ·obtain rfl:j=i:=al
     exact h
   generalize l1[i]'al=x at *;generalize l2[i]'al=y at *;go_upto_region 6 with fail
   go_quiet (fail)
   have l:=hid (below_drewN H.o nq);clear p q;generalize wr.drewN nq=J at *;by_cases K:x=y
   ·have t:=hid (S.o K);subst K;go_wp2;go_roundw
    case rel=>exact⟨i+1,al,b5,t,l⟩
    case measure=>simp[intOf];omega
   ·have R:=hid (u.o K)
    have z:((x:Int) !=(y:Int))=true:=by
     (have:¬(x:Int)=(y:Int):=al);simpa using this
    clear K;go_wp2;go_ret;exact⟨by rw[R.o];rfl,l.o⟩
  ·obtain rfl:i=n:=al
   have R:=hid (E.o fun j a b=>I.o j a b al);go_wp2;go_ret;exact⟨by rw[R.o];rfl,H.o⟩
def wH (L:List Kh):Bool:=gB L&&decide (jn L=(lg (aF L) L.length L.length).map aB)
theorem JV (h:gB L=true):∀p∈aF L,∀u∈p,u<L.length:=by
 obtain⟨_,_,r,_⟩:=lQ h;intro p e u f;obtain⟨l,d,rfl⟩:=aH.1 e;obtain⟨x,g,rfl⟩:=aH.1 f;obtain⟨i,b,rfl⟩:=iI d;have a:=j8 (Te r b);obtain⟨j,c,rfl⟩:=iI g;have:=a.each j c;omega
theorem J9 (h:gB L=true):vG L.length (aF L):=by
 refine⟨jQ L,JV h,fun u a=>?_⟩;obtain⟨_,_,_,hs⟩:=lQ h;by_cases l:u<L.length
 ·rw[G6 l] at a;rw[adI l a] at hs;cases hs
 ·rw[bF,iA (by rw[jQ];omega)] at a;simp at a
theorem akf (a:Kd) (ca:Nat) (L:List Kh) (w:World) (h:dC w a L) (p:∀l∈L,l.length<=140737488355328):
  da 254 #[.slice a L.length ca] w fun e w'=>db w w'/\
   ((wH L=true/\∃G,e=.returned (.tuple #[.slice (some ⟨G,0,none⟩) L.length L.length,.bool true])/\w.heap.size<=G/\cU w' G (jn L))∨(wH L=false/\e=.returned (.tuple #[.slice none 0 0,.bool false]))):=by
 have O:=hid (acb a ca L w h p);have u:Hid (wH L=(gB L&&decide (jn L=(lg (aF L) L.length L.length).map aB))):=rfl
 have x:Hid (gB L=true ->∀(G:Nat) (U:World),cU U G (jn L) ->da 220 #[.slice (some ⟨G,0,none⟩) L.length L.length] U fun e w'=>e=.returned (.slice (some ⟨U.heap.size,0,none⟩) L.length L.length)/\cU w' U.heap.size ((lg (aF L) L.length L.length).map aB)/\db U w'):=fun g G U b=>by
  rw[Hg] at b;exact agJ G L.length L.length (aF L) U (jQ L) (lQ g).2.1 b (JV g)
 have m:Hid (gB L=true ->∀(c d:Nat) (U:World),cU U c (jn L) ->cU U d ((lg (aF L) L.length L.length).map aB) ->da 282 #[.slice (some ⟨c,0,none⟩) L.length L.length,.slice (some ⟨d,0,none⟩) L.length L.length] U fun e w'=>e=.returned (.bool (decide (jn L=(lg (aF L) L.length L.length).map aB)))/\db U w'):=fun g c d U t y=>ajF c d L.length L.length L.length _ _ U (ad2 L) (by rw[cH,Zw]) (by have:=(lQ g).2.1;omega) t y;generalize wH L=nb at *;generalize decide (jn L=(lg (aF L) L.length L.length).map aB)=q at *;generalize (lg (aF L) L.length L.length).map aB=D at *;clear h p;go_enter Tryz.func254,Tryz.ntmps254;go_wp2_with fail
 refine O.o.af ?_;rintro e F ⟨f,⟨g,G,rfl,z,b⟩ |⟨g,v,rfl⟩⟩
 ·have n:=hid (x.o g G);have E:=hid (m.o g G);rw[g] at u;have i:=hid b;have H:=hid f;clear b f x m;go_wp2_with fail
  refine(n.o _ i.o).af ?_;rintro e J ⟨rfl,r,j⟩;have I:=hid (i.o.aa j i.o.lt);have s:=hid r;have S:=hid (H.o.trans (j.af H.o.size));clear r j n;go_wp2_with fail
  refine(E.o _ _ I.o s.o).af ?_;rintro e K ⟨rfl,k⟩;have A:=hid (I.o.aa k I.o.lt);have Z:=hid (S.o.trans (k.af S.o.size));clear k E;cases q
  ·go_wp2;go_ret2;exact⟨Z.o,.inr ⟨u.o,rfl⟩⟩
  ·go_wp2;go_ret2;exact⟨Z.o,.inl ⟨u.o,G,rfl,z,A.o⟩⟩
 ·rw[g] at u;have H:=hid f;clear f x m g;go_wp2;go_ret2;exact⟨H.o,.inr ⟨u.o,rfl⟩⟩
theorem Ae.cells {B:Nat} {v:Value} {l:Ki} (h:Ae w B v l):∃d i,v=.slice d l.length i/\∀k (f:k<l.length),∃g o,d=some ⟨g,o,none⟩/\g<w.heap.size/\w.cell? ⟨g,o+k,none⟩=some (.int .u32 (l[k]:Nat)):=by
 rcases h.2 with ⟨a,b⟩ |⟨g,cap,r,a,b,c,p,q,s,m⟩
 ·have:l=[]:=Gy.1 b;subst this;exact⟨none,0,a,fun k f=>absurd f aE⟩
 ·refine⟨_,_,a,fun j n=>⟨g,0,rfl,(dD.1 c).1,?_⟩⟩;rw[bH,bh w g j _ _ (0,0) c]
  have e:r[j]? =(r.toList.take (l.length*1))[j]?:=by
   rw[wy,aw al,AV]
  rw[e,m,kq,aV n];rfl
def FlR (L:List Kh) (e:Ending) (w':World):Prop:=
 (wH L=true/\∃d cd G,e=.returned (.tuple #[.slice d L.length cd,.slice (some ⟨G,0,none⟩) L.length L.length,.int .i64 0])/\aC w' d (iL (bI (aF L) L.length L.length).ord)/\dC w' (some ⟨G,0,none⟩) ((bI (aF L) L.length L.length).bag.map eY))∨
 (wH L=false/\e=.returned (.tuple #[.slice none 0 0,.slice none 0 0,.int .i64 11]))
theorem apm (a:Kd) (ca:Nat) (L:List Kh) (w:World) (h:dC w a L) (K:∀l∈L,l.length<=140737488355328):
  da 204 #[.slice a L.length ca] w fun e w'=>FlR L e w'/\db w w':=by
 have Tu:=hid (akf a ca L w h K)
 have x:Hid (wH L=true ->∀(G:Nat) (U:World),cU U G (jn L) ->da 255 #[.slice (some ⟨G,0,none⟩) L.length L.length] U fun e w'=>∃nv bv,e=.returned (.tuple #[nv,bv])/\pC U w' G nv bv (iL (bI (aF L) L.length L.length).ord) ((bI (aF L) L.length L.length).bag.map aB) ((bI (aF L) L.length L.length).nei.map aB)):=fun n G U i=>by
  have f:gB L=true:=by
   rw[wH,iB] at n;exact n.1
  rw[Hg] at i;exact apg G L.length L.length (aF L) U (lQ f).1 (lQ f).2.1 i (J9 f)
 have t:Hid (wH L=true ->(bI (aF L) L.length L.length).ord.length=L.length/\(bI (aF L) L.length L.length).bag.length=L.length/\L.length<=8/\∀p∈(bI (aF L) L.length L.length).bag,∀u∈p,u<8):=fun n=>by
  have f:gB L=true:=by
   rw[wH,iB] at n;exact n.1
  have E:=(lQ f).2.1;have r:=(lQ f).1;have b:=fun k=>SL (J9 f) k;refine⟨(b L.length).2.2.1,(b L.length).2.2.2,E,?_⟩
  have ab:∀k,∀p∈(bI (aF L) L.length k).bag,∀u∈p,u<8:=fun k=>by
   induction k with
   |zero=>intro p c;simp[bI] at c
   |succ k ih=>
    intro p c u j;rw[bI] at c;rcases aZ.1 c with c |c
    ·exact ih p c u j
    ·rw[dS.1 c] at j;rcases bT.1 j with rfl |j
     ·have:=af4 (P:=(bI (aF L) L.length k).nei) r (b k).2.1;omega
     ·have:=(b k).1.at _ u j;omega
  exact ab _
 clear h K;go_enter Tryz.func204,Tryz.ntmps204;go_wp2_with fail
 refine Tu.o.af ?_;rintro e w1 ⟨m,⟨n,G,rfl,hG,i⟩ |⟨n,rfl⟩⟩
 ·have V:=hid (x.o n G _ i);obtain⟨ho,Q,E,A⟩:=t.o n;have q:=hid n;have H:=hid m;have vU:=hid A;clear i m x t n A;generalize hS:bI (aF L) L.length L.length=S at *;have I:=hid hS;clear hS;go_wp2_with fail
  refine V.o.af ?_;rintro e M ⟨nv,bv,rfl,X⟩;obtain⟨d,cd,rfl,J⟩:=X.nd.ints;obtain⟨d2,Z,rfl,F⟩:=X.bg.cells;have v:Hid (db w M):=⟨X.grow.os.trans H.o.os,X.grow.tape.trans H.o.tape,X.grow.output.trans H.o.output,aL H.o.size X.grow.size,fun k b=>(X.grow.block k (aO b H.o.size) (fun e=>by have:=ko e;omega)).trans (H.o.block k b)⟩;have y:(iL S.ord).length=L.length:=by rw[bL];exact ho
  have z:(S.bag.map aB).length=L.length:=by rw[cH];exact Q
  rw[y,z]
  have D:=hid (aea d2 Z S.bag M vU.o al (fun k b=>by
   obtain⟨g,o,r,h2,h3⟩:=F k (by rw[cH];exact b);exact⟨g,o,r,h2,by rw[h3,mn]⟩))
  rw[Q] at D;have Y:=hid J;clear X J F y z;go_wp2_with fail
  refine D.o.af ?_;rintro e w3 ⟨T,rfl,Sn,O,s⟩;have xB:=hid (Y.o.aa s);have R:=hid O;have dZ:=hid (v.o.trans (s.af v.o.size));clear s O;go_wp2;refine cP (results_tmp3 rfl _ _ _) rfl ?_;exact⟨.inl ⟨q.o,d,cd,T,rfl,by rw[I.o];exact xB.o,by rw[I.o];exact R.o⟩,dZ.o⟩
 ·have q:=hid n;have H:=hid m;clear n m;go_wp2;refine cP (results_tmp3 rfl _ _ _) rfl ?_;exact⟨.inr ⟨q.o,rfl⟩,H.o⟩
def AbR (L:List Kh) (l:Kh) (e:Ending) (w':World):Prop:=
 (aX L≠0/\e=.returned (.tuple #[.slice none 0 0,.int .i64 (aX L)]))∨
 (aX L=0/\dN l L.length=false/\e=.returned (.tuple #[.slice none 0 0,.int .i64 11]))∨
 (aX L=0/\dN l L.length=true/\∃d cd,e=.returned (.tuple #[.slice d (eY (cX (aF L) (ag l) L.length)).length cd,.int .i64 0])/\aC w' d (eY (cX (aF L) (ag l) L.length)))
theorem yq (h:aX L=0):gB L=true:=by
 rw[aX] at h;by_cases e:gB L=true
 ·exact e
 ·rw[aA e] at h;exact absurd h bd
theorem YX (a b:Kd) (ca cb:Nat) (L:List Kh) (l:Kh) (w:World) (h:dC w a L) (M:∀l∈L,l.length<=140737488355328) (K:aC w b l) (dQ:l.length<=140737488355328):
  da 78 #[.slice a L.length ca,.slice b l.length cb] w fun e w'=>AbR L l e w'/\db w w':=by
 have HR:=hid (SB a ca L w h M);have X:=hid K;have F:=hid (fun (U:World) (f:aC U b l) (hn:L.length<=8)=>abW b cb l L.length U f dQ hn)
 have t:Hid (aX L=0 ->dN l L.length=true ->∀(G c:Nat) (U:World),cU U G (jn L) ->da 128 #[.slice (some ⟨G,0,none⟩) L.length c,.int .u32 (aB (ag l):Nat)] U fun e w'=>e=.returned (.int .u32 (aB (cX (aF L) (ag l) L.length):Nat))/\db U w'):=fun g r G c U f=>by
  rw[Hg] at f;have k:=yq g
  exact ag9 G L.length c (aF L) (ag l) U (jQ L) (lQ k).2.1 f (JV k) (fun u i=>by
   obtain⟨x,z,rfl⟩:=aH.1 i;obtain⟨j,y,rfl⟩:=iI z;have:=(j8 r).each j y;omega)
 have D:Hid (aX L=0 ->dN l L.length=true ->∀U:World,da 129 #[.int .u32 (aB (cX (aF L) (ag l) L.length):Nat)] U fun e w'=>∃v,e=.returned v/\bJ w' U.heap.size v (iL (bQ (cX (aF L) (ag l) L.length) 8))/\db U w'):=fun g r U=>aeb _ U (fun u i=>by
  have k:=yq g;have I:=(lQ k).2.1
  have:=K6 (n:=L.length) (P:=aF L) (s:=ag l) (fun v u i=>(J9 k).at v u i) (fun u i=>by
   obtain⟨x,z,rfl⟩:=aH.1 i;obtain⟨j,y,rfl⟩:=iI z;have:=(j8 r).each j y;omega) L.length u i
  omega)
 have p:Hid (dN l L.length=true ->setA l L.length=aB (ag l)):=abX;clear h M K;go_enter Tryz.func78,Tryz.ntmps78;go_wp2_with fail
 refine HR.o.af ?_;rintro e w1 ⟨m,⟨g,G,rfl,hG,f⟩ |⟨g,rfl⟩⟩
 ·have I:=(lQ (yq g)).2.1;have H:=hid (F.o w1 (X.o.aa m) I);have HU:=hid f;have S:=hid m;have q:=hid g;clear f m F g;cases r:dN l L.length with
  |false=>
   rw[r] at H;have OX:=hid r;clear r t D p;generalize setA l L.length=sa at *;go_wp2_with fail
   refine H.o.af ?_;rintro e w2 ⟨rfl,A⟩;subst A;go_wp2;go_ret2;exact⟨.inr (.inl ⟨q.o,OX.o,rfl⟩),S.o⟩
  |true=>
   rw[r,p.o r] at H;have ad:=hid r;have V:=hid (t.o q.o r G L.length);have HL:=hid (D.o q.o r);clear r t D p;generalize hab:cX (aF L) (ag l) L.length=ab at *;have Q:=hid hab;clear hab;generalize aB (ag l)=m0 at *;go_wp2_with fail
   refine H.o.af ?_;rintro e w2 ⟨rfl,A⟩;subst A;go_wp2_with fail
   refine(V.o _ HU.o).af ?_;rintro e w3 ⟨rfl,R⟩;have Z:=hid (S.o.trans (R.af S.o.size));clear R;go_wp2_with fail
   refine(HL.o _).af ?_;rintro e w4 ⟨v,rfl,O,T⟩;obtain⟨d,cd,rfl,J⟩:=O.ints;have Y:=hid J;have fV:=hid (Z.o.trans (T.af Z.o.size));clear O J T;go_wp2;go_ret2;exact⟨.inr (.inr ⟨q.o,ad.o,d,cd,by rw[Q.o];rfl,by rw[Q.o];exact Y.o⟩),fV.o⟩
 ·have Pe:=hid g;have S:=hid m;have k:(aX L==0)=false:=by simpa using g
  clear g m t D p F;generalize hge:aX L=ge at *;have E:=hid hge;clear hge;go_wp2;go_ret2;exact⟨.inl ⟨by rw[E.o];exact Pe.o,by rw[E.o];rfl⟩,S.o⟩
section
attribute [local go_sem] Oper.semAt_some
variable {P:List Ki} {l:Kh} {k n u v:Nat} {o':Obj} {a:Kd} {x:Value} {W':World}
def jA (P:List Ki) (v:Nat):Ki:=v::P.getD v []
def jG (P:List Ki) (u:Nat):Nat ->Ki
 |0=>[]
 |v+1=>if u∈jA P v then jG P u v++(jA P v).filter (fun x=>decide (x≠u)) else jG P u v
def mA (P:List Ki) (n v k:Nat):List Ki:=(List.range n).map fun u=>if u<k/\u∈jA P v then jG P u v++(jA P v).filter (fun x=>decide (x≠u)) else jG P u v
def oI (P:List Ki) (n v:Nat):List Ki:=(List.range n).map fun u=>jG P u v
theorem amP (P:List Ki) (n v:Nat):mA P n v 0=oI P n v:=by simp[mA,oI]
theorem amU (h:n<=8):mA P n v 8=oI P n (v+1):=by
 apply wu;intro u b;have:=bM.1 b;rw[jG];by_cases a:u∈jA P v
 ·rw[aw ⟨al,a⟩,aw a]
 ·rw[aA (fun e=>a e.2),aA a]
theorem amQ (m:k∈jA P v):mA P n v (k+1)=(mA P n v k).set k (jG P k v++(jA P v).filter (fun x=>decide (x≠k))):=by
 apply pJ (by simp[mA]);intro i c d;rw[GD];simp only[mA,mn,GF];by_cases h:k=i
 ·subst h;rw[aw ⟨al,m⟩,aw rfl]
 ·rw[aA h];have e:(i<k+1/\i∈jA P v)↔(i<k/\i∈jA P v):=⟨fun ⟨a,b⟩=>⟨al,b⟩,fun ⟨a,b⟩=>⟨al,b⟩⟩;simp only[e]
theorem amR (m:¬k∈jA P v):mA P n v (k+1)=mA P n v k:=by
 apply wu;intro i c;have e:(i<k+1/\i∈jA P v)↔(i<k/\i∈jA P v):=⟨fun ⟨a,b⟩=>⟨by rcases dG i k with h |h;exact h;exact absurd (show i=k by omega) (fun e=>m (e▸b)),b⟩,fun ⟨a,b⟩=>⟨al,b⟩⟩;simp only[e]
theorem amT (a:u<n) (h:¬u<k):(mA P n v k)[u]? =some (jG P u v):=by
 simp[mA,a,h]
theorem amS (P:List Ki) (n v k:Nat):(mA P n v k).length=n:=by simp[mA]
theorem adT (P:List Ki) (n v:Nat):(oI P n v).length=n:=by simp[oI]
theorem SN (a:∀v,∀u∈P.getD v [],u<n) (c:v<n):∀u∈jA P v,u<n:=fun u b=>by
 rcases bT.1 b with rfl |h
 ·exact c
 ·exact a v u h
theorem Ra (b:∀v,∀u∈P.getD v [],u<n) (u:Nat):∀v,v<=n ->∀x∈jG P u v,x<n
 |0,_,x,hx=>by simp[jG] at hx
 |v+1,hv,x,hx=>by
  rw[jG] at hx;by_cases h:u∈jA P v
  ·rw[aw h] at hx;rcases aZ.1 hx with a |a
   ·exact Ra b u v al x a
   ·exact SN b al x (cQ.1 a).1
  ·rw[aA h] at hx;exact Ra b u v al x hx
theorem agN {W:World} {r:Nat} {p:Addr} {o:Obj} (h:W.cell? p=some x) (a:W.heap[r]? =some o) (c:o.isCells=false):(W.putObj r o').cell? p=some x:=by
 have n:p.block≠r:=fun e=>by
  rw[World.cell?,e,a] at h;cases o<;>simp_all [Obj.isCells]
 rw[<- h];exact iz (yO n)
theorem aC.putObj {W:World} {r:Nat} {d:Kd} {o:Obj} (h:aC W d l) (i:W.heap[r]? =some o) (e:o.isCells=false):aC (W.putObj r o') d l:=fun k f=>by
 obtain⟨g,q,a,b,c⟩:=h k f;exact⟨g,q,a,by simpa using b,agN c i e⟩
theorem dC.putObj {W:World} {r:Nat} {o:Obj} (h:dC W a L) (e:W.heap[r]? =some o) (d:o.isCells=false):dC (W.putObj r o') a L:=fun k m=>by
 obtain⟨g,q,b,c,f,i,j,l⟩:=h k m;exact⟨g,q,b,c,f,by simpa using i,agN j e d,l.putObj e d⟩
def BR (w:World) (R n:Nat) (l:Ki) (W:World):Prop:=cU W R l/\Boxed W (R+1) 154 (.slice (some ⟨R,0,none⟩) n n)/\Below R w W
theorem BR.own {β:Type} {R B:Nat} (f:β ->Ki) (h:R<=B) (a:R<=w.heap.size):OwnFrom B (fun (s:β) W=>BR w R n (f s) W):=
 gA (ik (QB _ f) _) (gA (ik (j5 _ _ (fun _=>_)) _) (fun _ _ _ _ hs g r=>hs.grown g (aL a hs.size) (fun k e=>aL h (r k e).1)))
theorem BR.aa {W:World} {R:Nat} {l:Ki} (h:BR w R n l W) (b:db W W'):BR w R n l W':=⟨h.1.aa b h.1.lt,Aa h.2.1 b h.2.1.lt,h.2.2.trans (b.af (AH h.1.lt))⟩
def MoR (L:List Kh) (e:Ending) (w':World):Prop:=
 (aX L≠0/\e=.returned (.tuple #[.slice none 0 0,.int .i64 (aX L)]))∨
 (aX L=0/\∃G,e=.returned (.tuple #[.slice (some ⟨G,0,none⟩) L.length L.length,.int .i64 0])/\dC w' (some ⟨G,0,none⟩) ((oI (aF L) L.length L.length).map eY))
theorem apk (a:Kd) (ca:Nat) (L:List Kh) (w:World) (h:dC w a L) (hl:∀l∈L,l.length<=140737488355328):
  da 203 #[.slice a L.length ca] w fun e w'=>MoR L e w'/\db w w':=by
 refine(iW (n:=6)).1 ?_;obtain⟨i0,cD,bp,br,bs⟩:=eA Tryz.infoSet;have HR:=hid (SB a ca L w h hl);have hn:(aF L).length=L.length:=jQ L;have Li:Hid (aX L=0 ->∀v,∀u∈(aF L).getD v [],u<L.length):=fun d v u f=>(J9 (yq d)).at v u f;have Ce:Hid (aX L=0 ->L.length<=8):=fun d=>(lQ (yq d)).2.1;have Cf:Hid (jn L=(aF L).map aB):=Hg L;have aQ:Hid (∀e w',MoR L e w'=((aX L≠0/\e=.returned (.tuple #[.slice none 0 0,.int .i64 (aX L)]))∨(aX L=0/\∃G,e=.returned (.tuple #[.slice (some ⟨G,0,none⟩) L.length L.length,.int .i64 0])/\dC w' (some ⟨G,0,none⟩) ((oI (aF L) L.length L.length).map eY)))):=fun _ _=>rfl;generalize aF L=P at *;clear h hl;by_cases d:aX L=0
 case neg=>
  have Pe:=hid d;have bk:(aX L==0)=false:=by simpa using d
  refine wh Tryz.func203 rfl trivial ?_ rfl;simp only[Tryz.ntmps203,mj,dV,lD,Nat.reduceAdd,Nat.reduceSub,om,oh,nY,np,fX,fS];gi_wp2_with (refine⟨trivial,?_⟩;gi_at_call 126;refine(iW.2 HR.o).af ?_;rintro e b ⟨ad,ye⟩;obtain rfl:=(ye.resolve_left fun h=>d h.1).2)
  exact⟨_,results_tmp2 rfl _ _ _,.inl ⟨Pe.o,rfl⟩,ad⟩
 case pos=>
  have h8:=Ce.o d;have a7:=fun V=>PG (P:=Tryz.prog) 154 158 (.int .u32 0) 4 Tryz.underlying154 Tryz.infoSet rfl .i64 .i64 L.length al al V;refine wh Tryz.func203 rfl trivial ?_ rfl;simp only[Tryz.ntmps203,mj,dV,lD,Nat.reduceAdd,Nat.reduceSub,om,oh,nY,np,fX,fS];gi_wp2_with (refine⟨trivial,?_⟩;gi_at_call 126;refine(iW.2 HR.o).af ?_;rintro e b ⟨ad,ye⟩;obtain⟨-,G,rfl,hG,hU⟩:=ye.resolve_right fun h=>h.1 d)
  clear a7;have T:=Li.o d;rw[Cf.o] at hU;have Ip:=hU.lt;have rh:=hid d;have bS:=hid ad
  have Aw:Hid (∀(V:World) (v:Nat),db b V ->v<L.length ->V.cell? ⟨G,v,none⟩=some (.int .u32 (aB (P.getD v []):Nat))):=fun V v H s=>by
   have:=(hU.aa H Ip).cell v (by rw[cH];omega);rwa [EN al] at this
  have ay:Hid (∀v,v<L.length ->∀u∈jA P v,u<L.length):=fun v s=>SN T s;have IJ:=hid (fun (v:Nat) (s:v<L.length) (U:World)=>JL (P.getD v []) v U (fun u f=>by have:=T v u f;omega) al);have TY:Hid (∀v,v::P.getD v []=jA P v):=fun v=>rfl;have kK:=hid (fun (v:Nat) (s:v<L.length) (u:Nat) (f:u<8) (U:World)=>Mq (jA P v) u U (fun x J=>by have:=SN T s x J;omega) f);have O4:=hid (fun (v u:Nat) (s:v<L.length)=>S7 (jG P u v) ((jA P v).filter fun x=>decide (x≠u)) (fun x J=>by have:=Ra T u v al x J;omega) (Oa (fun x J=>by have:=SN T s x J;omega) _))
  have Je:Hid (∀(V:World) (g v k u:Nat),u<L.length ->¬u< k ->cU V g ((mA P L.length v k).map aB) ->V.cell? ⟨g,u,none⟩=some (.int .u32 (aB (jG P u v):Nat))/\V.frozen? ⟨g,u,none⟩=false):=fun V g v k u f a8 A=>by
   (have h1:u<(mA P L.length v k).length:=by rw[amS];exact f);have h2:=A.cell u (by rw[cH];exact h1);obtain⟨h3,z⟩:=nk.1 (amT (P:=P) (v:=v) f a8);rw[mn,z] at h2;exact⟨h2,A.fz u⟩
  have lX:Hid (∀(V:World) (g v k:Nat),k∈jA P v ->cU V g ((mA P L.length v k).map aB) ->cU (V.setCell ⟨g,k,none⟩ (.int .u32 (aB (jG P k v++(jA P v).filter (fun x=>decide (x≠k))):Nat))) g ((mA P L.length v (k+1)).map aB)):=fun V g v k E A=>by
   have:=A.set k (aB (jG P k v++(jA P v).filter (fun x=>decide (x≠k))));rwa [amQ E,Gx]
  have iy:Hid (∀v k,¬k∈jA P v ->mA P L.length v (k+1)=mA P L.length v k):=fun v k h=>amR h;have HZ:=hid (fun v=>amP P L.length v);have HA:=hid (fun v=>amU (P:=P) (v:=v) h8)
  have hz:(oI P L.length 0).map aB=List.replicate L.length 0:=by
   apply pJ (by simp[oI]);intro i h1 h2;simp[oI,jG,aB]
  have sF:Hid (∀(R:Nat) (U:World),cU U R ((oI P L.length L.length).map aB) ->da 253 #[.slice (some ⟨R,0,none⟩) L.length L.length] U fun e w'=>∃G,e=.returned (.slice (some ⟨G,0,none⟩) L.length L.length)/\U.heap.size<=G/\dC w' (some ⟨G,0,none⟩) ((oI P L.length L.length).map eY)/\db U w'):=fun R U A=>by
   have:=aea (some ⟨R,0,none⟩) L.length (oI P L.length L.length) U (fun p hp u f=>by
    obtain⟨x,_,rfl⟩:=aH.1 hp;have:=Ra T x L.length (ah _) u f
    omega) (by rw[adT];omega) (fun k hk=>⟨R,0,rfl,A.lt,by
     have:=A.cell k (by rw[cH];exact hk);rw[bH,this,mn]⟩)
   rwa [adT] at this
  clear hU d ad Li Ce Cf T HR;generalize L.length=n at *;obtain⟨X,ab⟩:∃X,X=(b.alloc (.cells (madeCells #[.int .u32 0] n) 158)).alloc (.cells #[.slice (some ⟨b.heap.size,0,none⟩) n n] 154):=⟨_,rfl⟩
  have an:BR b b.heap.size n ((oI P n 0).map aB) X:=by
   rw[ab,hz];refine⟨?_,?_,((au _ b).alloc (ah _) _).alloc aE _⟩
   ·have h:=eM b (.cells (madeCells #[.int .u32 0] n) 158)
    have e:(madeCells #[.int .u32 0] n).toList=(List.replicate n (0:Nat)).map uv:=by
     have:=We n;rwa [qA] at this
    (have e2:madeCells #[Value.int .u32 0] n=((List.replicate n (0:Nat)).map uv).toArray:=by rw[<- e]);rw[cU,uK _ _ _ aE,h,e2]
   ·have h:=bt (b.alloc (.cells (madeCells #[.int .u32 0] n) 158)) 154 (.slice (some ⟨b.heap.size,0,none⟩) n n);rwa [eH] at h
  rw[<- ab];have bm:X.heap.size=b.heap.size+2:=by rw[ab];simp
  have jJ:=hid an;clear ab an hz;refine wpIn_loop (fun Y w'=>∃(v:Nat) (ds:List Deferred) (u7 u8 u24 Me u26 Md u28 CG Mc Mb u32 JB:Value),Y= {tmps:= #[.slice a n ca,undef,.slice none 0 0,.int .i64 0,.slice (some ⟨G,0,none⟩) n n,.int .i64 0,.pointer (some ⟨b.heap.size+1,0,none⟩),u7,u8,undef,.tuple #[.slice (some ⟨G,0,none⟩) n n,.int .i64 0],.slice a n ca,.tuple #[.slice (some ⟨G,0,none⟩) n n,.int .i64 0],.slice (some ⟨G,0,none⟩) n n,.int .i64 0,.int .i64 0,.bool false,undef,.slice (some ⟨G,0,none⟩) n n,.int .i64 (n:Nat),.slice (some ⟨b.heap.size,0,none⟩) n n,.slice (some ⟨G,0,none⟩) n n,.int .i64 (n:Nat),.int .i64 (v:Nat),u24,Me,u26,Md,u28,CG,Mc,Mb,u32,undef,undef,undef,undef,undef,undef,undef,undef,undef,undef,JB,undef,undef],defers:=ds}/\v<=n/\Hid (BR b b.heap.size n ((oI P n v).map aB) w')/\Hid (Shut (b.heap.size+2) w'.heap.size ds w')) (fun Y _=>n - (intOf (Y.tmps.getD 23 undef)).toNat) ?_ ?_
  ·exact⟨0,[],_,_,_,_,_,_,_,_,_,_,_,_,rfl,aU _,jJ,trivial⟩
  intro Y wr bd;obtain⟨v,ds,u7,u8,u24,Me,u26,Md,u28,CG,Mc,Mb,u32,JB,rfl,s,t,tj⟩:=bd;clear jJ;by_cases Q:v<n
  ·have kv:=Aw.o wr v t.o.2.2 Q;have hs:=ay.o v Q;(have Kn:∀u∈jA P v,u<8:=fun u f=>by have:=hs u f;omega);have aj:=hid (IJ.o v Q);rw[TY.o v] at aj;have a1:=hid (kK.o v Q);have aT:=hid (fun u=>O4.o v u Q);have ax:=hid (fun V g k u=>Je.o V g v k u);have aS:=hid (fun V g k=>lX.o V g v k);have aR:=hid (fun k=>iy.o v k);have Yj:=HZ.o v;have YL:=HA.o v;have dJ:b.heap.size+1<wr.heap.size:=t.o.2.1.lt;generalize aB (P.getD v [])=mp at *;generalize jA P v=m at *;gi_wp2_with (refine⟨trivial,?_⟩;gi_at_call 181;refine(iW.2 (aj.o _)).af ?_;rintro e w4 ⟨rfl,bb⟩;subst bb)
   obtain⟨W3,O⟩:∃W3,W3=wr.alloc (.cells #[.int .u32 (aB m:Nat)] 158):=⟨_,rfl⟩;(have b8:Boxed W3 wr.heap.size 158 (.int .u32 (aB m:Nat)):=by rw[O];exact bt wr _ _);(have ai:db wr W3:=by rw[O];exact(au _ wr).alloc (ah _) _);(have bo:W3.heap.size=wr.heap.size+1:=by rw[O];simp);rw[<- O];have ae:=t.o.aa ai;have NQ:=(tj.o.aa ai).af (show wr.heap.size<=W3.heap.size by omega);rw[<- Yj] at ae;clear O kv t tj
   refine Eu al m Kn rfl rfl
    (fun k V=>BR b b.heap.size n ((mA P n v k).map aB) V/\Boxed V wr.heap.size 158 (.int .u32 (aB m:Nat))/\(W3.heap.size<=V.heap.size/\Shut (b.heap.size+2) W3.heap.size ds V))
    (gA (BR.own (fun k:Nat=>(mA P n v k).map aB) al (ah _)) (gA (ik (j5 _ _ (fun _=>_)) _) Ve))
    ⟨ae,b8,ah _,NQ⟩
    (fun k=> {tmps:= #[.slice a n ca,undef,.slice none 0 0,.int .i64 0,.slice (some ⟨G,0,none⟩) n n,.int .i64 0,.pointer (some ⟨b.heap.size+1,0,none⟩),.int .i64 (v:Nat),.pointer (some ⟨wr.heap.size,0,none⟩),.int .i64 (k:Nat),.tuple #[.slice (some ⟨G,0,none⟩) n n,.int .i64 0],.slice a n ca,.tuple #[.slice (some ⟨G,0,none⟩) n n,.int .i64 0],.slice (some ⟨G,0,none⟩) n n,.int .i64 0,.int .i64 0,.bool false,undef,.slice (some ⟨G,0,none⟩) n n,.int .i64 (n:Nat),.slice (some ⟨b.heap.size,0,none⟩) n n,.slice (some ⟨G,0,none⟩) n n,.int .i64 (n:Nat),.int .i64 (v:Nat),.bool true,.int .i64 (v:Nat),.pointer (some ⟨G,v,none⟩),.int .u32 (mp:Nat),.int .u32 (mp:Nat),.int .i64 (v:Nat),.int .u32 (aB m:Nat),.int .u32 (aB m:Nat),.func (.func 182) #[.int .u32 (aB m:Nat)] #[],.int .i64 (k:Nat),undef,undef,undef,undef,undef,undef,undef,undef,undef,JB,undef,undef],defers:=[]}) ?assign ?body ?skip ?done
   case assign=>
    intro l k W K I;gi_wp2
    exact I
   case body=>
    rintro l k V hk E ⟨j,z,zq,M⟩;have a6:=hs k E;have k1:=j.2.1.cell;have k4:=z.cell;obtain⟨kU,fU⟩:=ax.o V b.heap.size k k a6 al j.1;have II:=hid (a1.o k hk);have bj:=aT.o k;have vK:=hid (fun W hW=>aS.o W b.heap.size k E hW);generalize aB (jG P k v++m.filter (fun x=>decide (x≠k)))=m1 at *;generalize aB (m.filter fun x=>decide (x≠k))=m2 at *;generalize aB (jG P k v)=m0 at *;generalize aB m=mf at *;gi_wp2_with fail
    refine A3 (fun u=>u.cell? ⟨b.heap.size+1,0,none⟩=some (.slice (some ⟨b.heap.size,0,none⟩) n n)/\u.cell? ⟨wr.heap.size,0,none⟩=some (.int .u32 (mf:Nat))) ao ao (fun ⟨_,_,h⟩=>h) ⟨k1,k4⟩ ?_;intro F;have hD:KeepsOthers V V.drew:=CB V;have q0:BR b b.heap.size n ((mA P n v k).map aB) V.drew:=⟨j.1,j.2.1,j.2.2.drew⟩;have q4:Boxed V.drew wr.heap.size 158 (.int .u32 (mf:Nat)):=z;have qS:Shut (b.heap.size+2) W3.heap.size ds V.drew:=M.keep fun _ _=>rfl;have qz:W3.heap.size<=V.drew.heap.size:=zq;have bu:V.drew.cell? ⟨b.heap.size,k,none⟩=some (.int .u32 (m0:Nat)):=kU;have bf:V.drew.frozen? ⟨b.heap.size,k,none⟩=false:=fU;clear k1 k4 kU fU j z M zq b8 ai ae NQ;generalize V.drew=S at *;refine az 0 (.slice (some ⟨b.heap.size,0,none⟩) n n) ?_;refine az 1 (.int .i64 (k:Nat)) ?_;refine az 2 (.pointer (some ⟨b.heap.size,k,none⟩)) ?_;refine az 4 (.int .u32 (mf:Nat)) ?_;refine az 5 (.int .i64 (k:Nat)) ?_;refine aG [3,6] (cA ?_ (cA ?_ aI))
    focus
     intro q c;go_simp;refine c.o _ _ F (fun y=>?_);clear c q y;refine aG [6] (cA ?_ aI);intro q c;go_simp;refine(II.o _).af ?_;rintro e U1 ⟨rfl,gO⟩;subst gO;refine c.o _ _ F (fun y=>?_);clear c q y;generalize U1=S at *
    rotate_left
    focus
     intro q c;go_simp;refine(II.o _).af ?_;rintro e U1 ⟨rfl,gO⟩;subst gO;refine c.o _ _ F (fun y=>?_);clear c q y;generalize U1=S at *;refine aG [3] (cA ?_ aI);intro q c;go_simp;refine c.o _ _ F (fun y=>?_);clear c q y
    all_goals
     refine az 7 (.int .u32 (m1:Nat)) ?_;refine az 8 (.pointer (some ⟨b.heap.size,k,none⟩)) ?_;refine aG [9] (cA ?_ aI);intro q c;go_simp;refine c.o _ _ ⟨(jY q0.2.1 b.heap.size k _ al).cell,(jY q4 b.heap.size k _ al).cell⟩ (fun _=>gj ao ?_ _);clear c q F;gi_wp2
     exact⟨(hD.trans (jD S _ _)).from _,⟨vK.o S q0.1,jY q0.2.1 b.heap.size k _ al,q0.2.2.setCell (p:=⟨b.heap.size,k,none⟩) (ah _) _⟩,jY q4 b.heap.size k _ al,by simpa using qz,qS.putAt al _⟩
   case skip=>
    rintro k V hk E h;rw[aR.o k E];exact h
   case done=>
    rintro D V hD ⟨j,z,zq,M⟩ I;rw[YL] at j;have Dl:D<V.heap.size:=(dD.1 I).1;have IQ:Hid (Shut (b.heap.size+2) V.heap.size ({target:=.collected D,args:= #[]}::ds) V):=⟨D,al,Dl,rfl,I,M.af hD⟩;have Ge:=hid j;clear j z M I;gi_wp2
    refine⟨⟨v+1,_,_,_,_,_,_,_,_,_,_,_,_,_,rfl,al,Ge,IQ⟩,?_⟩;simp[intOf];omega
  ·obtain rfl:v=n:=al
   have kc:=t.o.2.1.cell;have aN:=hid (sF.o b.heap.size wr t.o.1);have dJ:b.heap.size+1<wr.heap.size:=t.o.2.1.lt;gi_wp2_with (refine⟨trivial,?_⟩;gi_at_call 253;refine(iW.2 aN.o).af ?_;rintro e w5 ⟨G5,rfl,bg,NV,av⟩)
   have Ir:db w w5:=(bS.o.trans (t.o.2.2.af bS.o.size)).trans (av.af (aL bS.o.size (AH (Nat.lt_trans (PW _) dJ))));refine Hj (lo:=b.heap.size+2) (K:=fun W=>dC W (some ⟨G5,0,none⟩) ((oI P v v).map eY)/\db w W) ?_ ?_ _ wr.heap.size w5 (tj.o.aa av) ⟨NV,Ir⟩
   ·rintro W r ⟨hL,H⟩ hr hd;exact⟨hL.putObj hd rfl,H.trans (xH (w:=w) (ah _) W r _ _ (by have:=bS.o.size;omega) hd rfl rfl)⟩
   ·rintro Z ⟨hL,H⟩;refine⟨_,results_tmp2 rfl _ _ _,?_,H⟩;rw[aQ.o];exact .inr ⟨rh.o,G5,rfl,hL⟩
end
variable {P:List Ki} {s:Ki} {k n u v:Nat}
theorem VQ (h:rJ P (aY P k)=some v):¬v∈aY P k/\∀u∈P.getD v [],u∈aY P k:=by
 have:=List.find?_some h;rw[iM,iB,Bool.not_eq_true',PN,eG] at this;exact this
theorem VP (P:List Ki):∀k,(aY P k).Nodup
 |0=>List.nodup_nil
 |k+1=>by
  rw[aY];cases e:rJ P (aY P k) with
  |none=>exact VP P k
  |some v=>
   refine lC.2 ⟨VP P k,aE,fun a h b d=>?_⟩;rw[dS.1 d];exact fun c=>(VQ e).1 (c▸h)
theorem VO:∀k,v∈aY P k ->∃A B,aY P k=A++v::B/\¬v∈A/\∀u∈P.getD v [],u∈A
 |0,h=>by cases h
 |k+1,h=>by
  rw[aY] at h⊢;cases e:rJ P (aY P k) with
  |none=>
   rw[e] at h;exact VO k h
  |some w=>
   rw[e] at h;show ∃A B,aY P k++[w]=A++v::B/\_;rcases aZ.1 h with h |h
   ·obtain⟨A,B,a,b,c⟩:=VO k h;exact⟨A,B++[w],by rw[a];simp,b,c⟩
   ·obtain rfl:=dS.1 h;exact⟨aY P k,[],rfl,(VQ e).1,(VQ e).2⟩
def tJ (P:List Ki) (v:Nat):Nat:=(aY P P.length).idxOf v
theorem aj7 (e:v∈aY P P.length) (d:u∈P.getD v []):tJ P u<tJ P v:=by
 obtain⟨A,B,a,b,c⟩:=VO P.length e;have h:=c u d;rw[tJ,tJ,a,List.idxOf_append,List.idxOf_append,aw h,aA b,List.idxOf_cons_self,bH];exact List.idxOf_lt_length_of_mem h
theorem vr (h:aX L=0):gB L=true/\∀v,v<L.length ->v∈aY (aF L) (aF L).length:=by
 have g:=yq h;refine⟨g,fun v b=>?_⟩;rw[aX,aw g] at h;have d:¬(aY (aF L) L.length).length<L.length:=fun c=>by rw[aw c] at h;cases h
 rw[jQ];refine AU fun n=>?_
 have:=EL (l:=v::aY (aF L) L.length) (m:=List.range L.length) (nZ.2 ⟨n,VP _ _⟩) fun x a=>by
  rcases bT.1 a with rfl |a
  ·exact bM.2 b
  ·have:=G7 (aF L) L.length x a;rw[jQ] at this;exact bM.2 this
 rw[dV,yU] at this;omega
theorem JW (g:gB L=true) (h:u∈(aF L).getD v []):u<L.length/\v<L.length:=by
 have b:v<L.length:=by
  rcases dG v L.length with a |a
  ·exact a
  ·rw[bF,iA (by rw[jQ];exact a)] at h;cases h
 refine⟨?_,b⟩;rw[bF,aV (by rw[jQ];exact b)] at h;exact JV g _ (bP _) u h
theorem GZ (h:aX L=0) (a:u∈(aF L).getD v []):tJ (aF L) u<tJ (aF L) v:=
 aj7 ((vr h).2 v (JW (vr h).1 a).2) a
theorem ab6 (h:aX L=0) (c:v<L.length):tJ (aF L) v<L.length:=by
 have a:=List.idxOf_lt_length_of_mem ((vr h).2 v c);have b:=JZ (aF L) (aF L).length;rw[jQ] at b;rw[tJ];rw[jQ] at a⊢;omega
theorem ZO (h:aX L=0) (a:fM (fun u v=>u∈(aF L).getD v []) u v):tJ (aF L) u<tJ (aF L) v:=by
 induction a using fM.ind with
 |one hp=>exact GZ h hp
 |more _ hp ih=>exact Nat.lt_trans ih (GZ h hp)
theorem arZ (h:aX L=0) (v:Nat):¬fM (fun u v=>u∈(aF L).getD v []) v v:=fun a=>PX _ (ZO h a)
def K8 (P:List Ki) (a:Nat):Nat ->Nat ->Bool
 |0,b=>decide (a=b)
 |f+1,b=>decide (a=b) ||(P.getD b []).any (K8 P a f)
theorem ZR (h:aX L=0) (a:Nat):∀f b,tJ (aF L) b<=f ->(K8 (aF L) a f b=true↔a=b∨fM (fun u v=>u∈(aF L).getD v []) a b)
 |0,b,hf=>by
  rw[K8,eG];refine⟨.inl,fun k=>k.elim id fun g=>?_⟩;have:=ZO h g;omega
 |f+1,b,hf=>by
  rw[K8,Jy,eG,sJ];constructor
  ·rintro(e |⟨c,i,d⟩)
   ·exact .inl e
   ·have:=GZ h i;rcases (ZR h a f c al).1 d with rfl |j
    ·exact .inr (.one i)
    ·exact .inr (.more j i)
  ·rintro(e |g)
   ·exact .inl e
   ·refine .inr ?_;rcases fM.last g with p |⟨v,d,p⟩
    ·exact⟨a,p,by cases f<;>simp[K8]⟩
    ·have:=GZ h p;exact⟨v,p,(ZR h a f v al).2 (.inr d)⟩
theorem ZP:∀ {r:Nat} (d:Nat),u∈cX P s r ->u∈cX P s (r+d)
 |_,0,h=>h
 |r,d+1,h=>by
  show u∈p8 P (cX P s (r+d)) 8;exact Eo _ (ZP d h)
theorem ar4 (h:aX L=0) (g:L.length<=8):∀m j v,tJ (aF L) v<=m ->v<L.length ->v∈cX (aF L) s j ->∀a,fM (fun u v=>u∈(aF L).getD v []) a v ->a∈cX (aF L) s (j+m):=fun m=>by
 induction m with
 |zero=>
  intro j v d _ _ a b;have:=ZO h b;omega
 |succ m ih=>
  intro j v d i hs a b;have e:∀w,w∈(aF L).getD v [] ->w∈cX (aF L) s (j+1):=fun w f=>LV _ (List.mem_flatMap.2 ⟨v,uU.2 ⟨al,hs⟩,f⟩);rcases fM.last b with p |⟨w,c,p⟩
  ·rw[show j+(m+1)=(j+1)+m by omega];exact ZP m (e a p)
  ·have:=GZ h p;rw[show j+(m+1)=(j+1)+m by omega];exact ih (j+1) w al (JW (vr h).1 p).1 (e w p) a c
theorem Ow (h:aX L=0) (f:L.length<=8) (hs:∀v∈s,v<L.length) (a:Nat):a∈cX (aF L) s L.length↔∃b∈s,a=b∨fM (fun u v=>u∈(aF L).getD v []) a b:=by
 constructor
 ·have:∀r a,a∈cX (aF L) s r ->∃b∈s,a=b∨fM (fun u v=>u∈(aF L).getD v []) a b:=fun r=>by
   induction r with
   |zero=>exact fun a c=>⟨a,c,.inl rfl⟩
   |succ r ih=>
    intro a c;rcases aZ.1 c with c |c
    ·exact ih a c
    ·obtain⟨v,g,p⟩:=List.mem_flatMap.1 c;obtain⟨b,d,e⟩:=ih v (uU.1 g).2;refine⟨b,d,.inr ?_⟩;rcases e with rfl |e
     ·exact .one p
     ·clear d;induction e using fM.ind with
      |one h2=>exact .more (.one p) h2
      |more _ h2 WB=>exact .more WB h2
  exact this _ a
 ·rintro⟨b,d,rfl |c⟩
  ·have:=ZP (P:=aF L) (s:=s) (r:=0) L.length d;rwa [bH] at this
  ·have e:=ab6 h (hs b d);have:=ar4 h f L.length 0 b al (hs b d) d a c;rwa [bH] at this
def Wb (P:List Ki) (n v u:Nat):Bool:=(decide (u∈P.getD v []) ||decide (v∈P.getD u [])) ||(List.range n).any fun w=>decide (u∈P.getD w [])&&decide (v∈P.getD w [])
theorem MH {P:List Ki} {u x:Nat}:∀ {n:Nat},x∈jG P u n↔x≠u/\∃v,v<n/\u∈jA P v/\x∈jA P v
 |0=>by simp[jG]
 |n+1=>by
  have i:=MH (P:=P) (u:=u) (x:=x) (n:=n);rw[jG];by_cases h:u∈jA P n
  ·rw[aw h,aZ,i,cQ,eG];constructor
   ·rintro(⟨a,v,b,c⟩ |⟨a,b⟩)
    ·exact⟨a,v,al,c⟩
    ·exact⟨b,n,al,h,a⟩
   ·rintro⟨a,v,b,c,d⟩;rcases dG v n with e |e
    ·exact .inl ⟨a,v,e,c,d⟩
    ·rw[show v=n by omega] at d;exact .inr ⟨d,a⟩
  ·rw[aA h,i];refine and_congr_right fun _=>⟨fun ⟨v,a,b⟩=>⟨v,al,b⟩,fun ⟨v,a,b,c⟩=>⟨v,?_,b,c⟩⟩;rcases dG v n with e |e
   ·exact e
   ·rw[show v=n by omega] at b;exact absurd b h
theorem amO (c:u<n) (d:v<n):u∈jG P v n↔(Wb P n v u&&decide (u≠v))=true:=by
 rw[MH,iB,eG,Wb,Jy,Jy,eG,eG,sJ];constructor
 ·rintro⟨e,w,b,h,a⟩;refine⟨?_,e⟩;rcases bT.1 h with rfl |h
  ·rcases bT.1 a with rfl |a
   ·exact absurd rfl e
   ·exact .inl (.inl a)
  ·rcases bT.1 a with rfl |a
   ·exact .inl (.inr h)
   ·exact .inr ⟨w,bM.2 b,by rw[bX a,bX h];rfl⟩
 ·rintro⟨(h |h) |⟨w,b,h⟩,e⟩
  ·exact⟨e,v,d,c5,dM _ h⟩
  ·exact⟨e,u,c,dM _ h,c5⟩
  ·rw[iB,eG,eG] at h;exact⟨e,w,bM.1 b,dM _ h.2,dM _ h.1⟩
def mrR (P:List Ki) (n v u:Nat):Ki:=(List.range u).filter fun u=>Wb P n v u&&decide (u≠v)
theorem amN (b:∀v,∀u∈P.getD v [],u<n/\v<n) (j:n<=8) (f:v<n):iL (mrR P n v n)=eY (jG P v n):=by
 have l:∀x,x∈jG P v n ->x<n:=fun x i=>by
  obtain⟨_,w,g,_,h⟩:=MH.1 i;rcases bT.1 h with rfl |h
  ·exact g
  ·exact(b _ _ h).1
 have e:∀d,bQ (jG P v n) (n+d)=bQ (jG P v n) n:=fun d=>by
  induction d with
  |zero=>rfl
  |succ d ih=>
   rw[show n+(d+1)=(n+d)+1 by omega,MI,ih];intro m;have:=l _ m;omega
 have a:=e (8 - n);rw[show n+(8 - n)=8 by omega] at a;rw[eY,a,mrR,bQ];congr 1
 refine P9 fun u c=>xL.2 ?_;rw[<- amO (bM.1 c) f,eG]
theorem afJ (h1:1<=L.length) (b:L.length<=8) (h:∀i (a:i<L.length),dN L[i] L.length=true/\¬i∈ag L[i]):gB L=true:=by
 rw[gB,bX (p:=1<=L.length/\L.length<=8) ⟨h1,b⟩,adH fun i a=>(h i a).2]
 have:kh L L.length=true:=eX.2 fun l c=>by
  obtain⟨i,a,rfl⟩:=iI c;exact(h i a).1
 rw[this];rfl
def abB (L:List Kh) (u v:Nat):Bool:=K8 (aF L) u L.length v
theorem ahb (h:aX L=0) (a:v<L.length):abB L u v=true↔u=v∨fM (fun u v=>u∈(aF L).getD v []) u v:=ZR h u L.length v (AH (ab6 h a))
variable {xs:List Value} {w':World}
def Du (t:TypeId) (w w':World):Prop:=∀(k:Nat) (c:Array Value) (fr:Nat×Nat),w.heap[k]? =some (Obj.cells c t fr) ->w'.heap[k]? =some (Obj.cells c t fr)
theorem Du.aa {t:TypeId} (b:db w w'):Du t w w':=fun k _ _ h=>(b.block k (dD.1 h).1).trans h
theorem JY {B:Nat} {e:TypeId} {s:Nat} {v:Value} (h:w.ownsRow B e s v n xs) (k:Du e w w'):w'.ownsRow B e s v n xs:=by
 refine⟨h.1,?_⟩;rcases h.2 with a |⟨g,cap,r,a,b,c,d⟩
 ·exact .inl a
 ·exact .inr ⟨g,cap,r,a,b,k _ _ _ c,d⟩
theorem acX {B:Nat} {e:TypeId} {s:Nat} {v:Value} (h:w.ownsRow B e s v n xs):∀g,v.ownBlock=some g ->B<=g:=fun g a=>by
 rcases h.2 with ⟨b, -⟩ |⟨g',cap,r,b,c,d,f⟩
 ·rw[b] at a;cases a
 ·rw[b] at a;cases a;exact c
abbrev PK:Type:=Nat×Nat×Value×Kh
def kC:List PK ->List Value
 |[]=>[]
 |p::l=>.int .i64 (p.1:Nat)::.int .i64 (p.2.1:Nat)::p.2.2.1::kC l
variable {ops:Array Oper} {Q:Exit ->Act ->World ->Prop} {rest:List Oper}
theorem UD {o:Oper} {a:Act} (O:o.guard=none) (s x:Operand)
  (H:o.op=.call {callee:=.builtin .append,args:= #[s,x],argTypes:= #[27,27]}) (base:Nat) (v:Value) (l:Kh) (f:Int) (hs:a.eval s=v) (q:bJ w base v l) (g:Nat) (I:a.eval x=.slice (some ⟨g,0,none⟩) 1 1) (F:w.cell? ⟨g,0,none⟩=some (.int .i64 f)) (ad:l.length+1<=100000) (U:base<=w.heap.size)
  (h:∀v' w',bJ w' base v' (l++[f]) ->w.grownBy w' v.ownBlock ->(v'.ownBlock=v.ownBlock∨∀k,v'.ownBlock=some k ->w.heap.size<=k) ->wpList Tryz.prog ops Q rest (a.put o.dst v') w'):wpList Tryz.prog ops Q (o::rest) a w:=by
 obtain⟨i,D,m,z,p⟩:=eA Tryz.infoInt
 have n:∀j u,[Value.int .i64 f][j]? =some u ->w.cell? ((⟨g,0,none⟩:Addr).add j)=some u:=fun j u c=>by
  match j,c with
  |0,c=>cases c;exact F
  |j+1,c=>simp at c
 have S:∀u∈[Value.int .i64 f],u.oneCell'=true:=fun u t=>by
  simp only[bT,fR,iV] at t;subst t;rfl
 have R:l.length+1<=maxLen:=by unfold maxLen;omega
 obtain⟨v',w',r,A,E, -⟩:=run_append_own (P:=Tryz.prog) w base 27 o.type 3 i (.int .i64 0) 1 8 Tryz.underlying27 D m z p rfl bd v l.length _ q ⟨g,0,none⟩ 1 1 [.int .i64 f] rfl n S R al U
 have T:v'.ownBlock=v.ownBlock∨∀k,v'.ownBlock=some k ->w.heap.size<=k:=by
  rcases q.2 with ⟨b,Y⟩ |⟨g',cap,L,b,aa,J,X,ab,M,Z⟩
  ·right
   have e:=run_append_nil (P:=Tryz.prog) w 27 o.type 3 i (.int .i64 0) Tryz.underlying27 D m ⟨g,0,none⟩ 1 1 [.int .i64 f] (by rw[z];rfl) n bd bd (by rw[p];decide);rw[b] at r;rw[r] at e;cases e;intro k d;cases d;exact ah _
  ·rw[b] at r;by_cases V:l.length+1<=cap
   ·left
    have e:=run_append_room (P:=Tryz.prog) w 27 o.type 3 i Tryz.underlying27 D g' l.length cap L J ⟨g,0,none⟩ 1 1 [.int .i64 f] (by rw[z];rfl) n S V (by rw[z,M];simp;omega);rw[r] at e;cases e;rw[b];rfl
   ·right
    have y:=q;rw[b] at y;have e:=run_append_grow (P:=Tryz.prog) w 27 o.type 3 i (.int .i64 0) Tryz.underlying27 D m ⟨g',0,none⟩ l.length cap (l.map (Value.int .i64)) (by rw[z];simp) (World.ownsRow.cells y rfl) ⟨g,0,none⟩ 1 1 [.int .i64 f] (by rw[z];rfl) n al al (PM al (by rw[p];omega));rw[r] at e;cases e;intro k d;cases d;exact ah _
 refine wpList_plain O fun _ K=>?_;unfold Oper.wp execOp;simp only[H,resolve,invoke,builtin,Jm,AG,xI,Jp,fG,ng,hs,I,r];refine K _ _ (h v' w' ?_ E T);rw[bJ,bU,eh];exact A
def K7 (L:List Kh) (u:Nat) (l:Ki):Bool:=l.any (abB L u)
def iP (n:Nat) (Ls:List Kh):Bool:=kh Ls n&&decide Ls.flatten.Nodup
def lH (L:List Kh) (x y z:Kh):Bool:=(ag x).any fun v=>EH (aF L) L.length (fun v=>decide (v∈ag y)) (fun v=>decide (v∈ag z)) (fun v=>K7 L v (ag z)) L.length [v]
section
attribute [local go_sem] Oper.semAt_some
variable {v':Value} {V':World}
theorem Vh {P:Program} (w:World) (base:Nat) (t y e:TypeId) (i:TypeInfo) (z:Value) (d A:Nat) (o:P.underlying t=some (.slice e)) (g:P.info? e=some i) (r:i.zero=some z) (K:i.size=d) (I:i.bytes=A) (X:z.cells.size=d) (V:0<d)
  (v:Value) (n:Nat) (xs:List Value) (x:w.ownsRow base e d v n xs) (a:Addr) (m c:Nat) (s:List Value) (l:s.length=m*d) (p:∀j u,s[j]? =some u ->w.cell? (a.add j)=some u) (h1:∀u∈s,u.oneCell'=true)
  (H:n+m<=maxLen) (E:(n+m)*A<=140737488355328) (Y:base<=w.heap.size) (R:0<m):
  ∃v' w',(Builtin.append_ #[t,t] y #[v,.slice (some a) m c]).run P w=.ok v' w'/\w'.ownsRow base e d v' (n+m) (xs++s)/\w.grownBy w' v.ownBlock/\(v'.ownBlock=v.ownBlock∨∀k,v'.ownBlock=some k ->w.heap.size<=k):=by
 obtain⟨v',w',h,L,M, -⟩:=run_append_own (P:=P) w base t y e i z d A o g r K I X V v n xs x a m c s l p h1 H E Y;refine⟨v',w',h,L,M,?_⟩;have ab:n+m<=9223372036854775807:=by simp only[maxLen] at H;omega
 subst K;subst I
 rcases x.2 with ⟨f,O⟩ |⟨g',cap,F,f,ad,S,Z,ae,U,aa⟩
 ·right
  have b:=run_append_nil (P:=P) w t y e i z o g r a m c s l p R al (by
   have Q:=E;rw[O,bH] at Q;omega)
  rw[f] at h;rw[h] at b;cases b;intro k q;cases q;exact ah _
 ·rw[f] at h;by_cases J:n+m<=cap
  ·left
   (have T:n*i.size+s.length<=F.size:=by rw[l,U, <- il];exact lB _ J);have b:=run_append_room (P:=P) w t y e i o g g' n cap F S a m c s l p h1 J T;rw[h] at b;cases b;rw[f];rfl
  ·right
   have D:=x;rw[f] at D;have b:=run_append_grow (P:=P) w t y e i z o g r ⟨g',0,none⟩ n cap xs D.1 (World.ownsRow.cells D rfl) a m c s l p al al (PM al E);rw[h] at b;cases b;intro k q;cases q;exact ah _
theorem ahW {F:Fence} {P:Program} (w:World) {o:Oper} {a:Act}
  (J:o.guard=none) (s x:Operand) (t:TypeId) (h:o.op=Op.call {callee:=Callee.builtin Builtin.append,args:= #[s,x],argTypes:= #[t,t]})
  (base:Nat) (e:TypeId) (i:TypeInfo) (z:Value) (b y:Nat) (h1:P.underlying t=some (.slice e)) (p:P.info? e=some i) (q:i.zero=some z) (r:i.size=b) (A:i.bytes=y) (D:z.cells.size=b) (E:0<b)
  (v:Value) (k:Nat) (xs:List Value) (hs:a.eval s=v) (Y:w.ownsRow base e b v k xs) (f:Addr) (m c:Nat) (d:List Value) (O:a.eval x=.slice (some f) m c) (M:d.length=m*b)
  (I:∀j u,d[j]? =some u ->w.cell? (f.add j)=some u) (U:∀u∈d,u.oneCell'=true) (g:k+m<=maxLen) (b2:(k+m)*y<=140737488355328) (l:base<=w.heap.size) (L:0<m)
  (H:∀v' w',w'.ownsRow base e b v' (k+m) (xs++d) ->w.grownBy w' v.ownBlock ->(v'.ownBlock=v.ownBlock∨∀k,v'.ownBlock=some k ->w.heap.size<=k) ->wpListIn F n P ops Q rest (a.put o.dst v') w'):
  wpListIn F n P ops Q (o::rest) a w:=by
 refine wpListIn_plain J fun K V=>?_;obtain⟨v',w',Z,R,S,T⟩:=Vh (P:=P) w base t o.type e i z b y h1 p q r A D E v k xs Y f m c d M I U g b2 l L;unfold Oper.wpIn;refine⟨?_,?_⟩
 ·simp[Oper.about,h,resolve,Target.leads,AG]
 ·rw[Oper.semAt_plain F _ _ (by rw[h];intro c X;cases X)];simp[execOp,h,resolve,invoke,builtin,hs,O,Z,Result.andThen];exact V _ _ (H v' w' R S T)
def uk:List (Nat×Bool) ->List Value
 |[]=>[]
 |p::l=>.int .i64 (p.1:Nat)::.bool p.2::uk l
theorem Zp:∀l,(uk l).length=l.length*2
 |[]=>rfl
 |p::l=>by
  show (uk l).length+1+1=(l.length+1)*2;rw[Zp l];omega
theorem Zq (m:List (Nat×Bool)):∀l,uk (l++m)=uk l++uk m
 |[]=>rfl
 |q::l=>by
  show _::_::uk (l++m)=_::_::(uk l++uk m);rw[Zq m l]
def xm (w:World) (B:Nat) (v:Value) (l:List (Nat×Bool)):Prop:=w.ownsRow B 243 2 v l.length (uk l)
theorem Tryz.infoComing:(Tryz.prog.info? 243).map (fun i=>(i.zero,i.size,i.bytes))=some (some (.agg #[.int .i64 0,.bool false]),2,16):=ao
def Gm (w V:World) (lv v:Value):Prop:=w.grownBy V lv.ownBlock/\(v.ownBlock=lv.ownBlock∨∀g,v.ownBlock=some g ->w.heap.size<=g)
theorem alv {β:Type} {row:Option Nat} {B:Nat} (b:w.heap.size<=B):OwnFrom B (fun (_:β) W=>w.grownBy W row):=fun _ W W' r hs g a=>⟨g.os.trans hs.os,g.tape.trans hs.tape,g.output.trans hs.output,aL hs.size g.size,fun k h n=>(g.block k (aO h hs.size) (fun e=>by
 have:=(a k e.symm).1;omega)).trans (hs.block k h n)⟩
theorem aii (w:World) (a b:Value) (t:TypeId):∀j u,[a,b][j]? =some u ->(w.alloc (.cells #[a,b] t)).cell? ((⟨w.heap.size,0,none⟩:Addr).add j)=some u:=fun j u c=>by
 have h:=eM w (.cells #[a,b] t);match j,c with
 |0,c=>cases c;exact(bh _ w.heap.size 0 _ _ (0,0) h).trans rfl
 |1,c=>cases c;exact(bh _ w.heap.size 1 _ _ (0,0) h).trans rfl
 |j+2,c=>simp at c
theorem Gm.more {V:World} {l v:Value} {m:Obj} (h:Gm w V l v) (c:(V.alloc m).grownBy V' v.ownBlock) (n:v'.ownBlock=v.ownBlock∨∀k,v'.ownBlock=some k ->(V.alloc m).heap.size<=k) (b j:Nat) (p:w.heap.size<=b) (y:Value):Gm w (V'.setCell ⟨b,j,none⟩ y) l v':=by
 have hs:=h.1.size;have f:V.heap.size<=(V.alloc m).heap.size:=((au V.heap.size V).alloc (ah _) m).size;refine⟨⟨c.os.trans h.1.os,c.tape.trans h.1.tape,c.output.trans h.1.output,aL (aL hs f) (aL c.size aE),fun k o d=>?_⟩,?_⟩
 ·refine(eN V' ⟨b,j,none⟩ y k (by show k≠b;omega)).trans ((c.block k al fun e=>?_).trans ((((au V.heap.size V).alloc (ah _) m).block k al).trans (h.1.block k o d)));rcases h.2 with a |a
  ·exact d (by rw[e,a])
  ·have:=a k e.symm;omega
 ·rcases n with n |n
  ·rcases h.2 with a |a
   ·exact .inl (n.trans a)
   ·exact .inr fun g i=>a g (by rw[<- n];exact i)
  ·exact .inr fun g i=>by
    have:=n g i;omega
theorem Zm (B:Nat) (t:Value) (l:List (Nat×Bool)) (s:Ki) (c:Bool) (w:World) (hs:∀u∈s,u<8) (y:xm w B t l) (dQ:l.length<=1000) (F:B<=w.heap.size):
  da 221 #[t,.int .u32 (aB s:Nat),.bool c] w fun e w'=>∃v,e=.returned v/\xm w' B v (l++(bQ s 8).map fun u=>(u,c))/\Gm w w' t v:=by
 refine(iW (n:=6)).1 ?_;obtain⟨Y,U,ao,aq,av⟩:=eA Tryz.infoComing
 obtain⟨b,nl,a,rfl⟩:∃d n c,t=.slice d n c:=by
  rcases y.2 with ⟨x, -⟩ |⟨g,cap,aQ,x, -⟩
  ·exact⟨_,_,_,x⟩
  ·exact⟨_,_,_,x⟩
 refine wh Tryz.func221 rfl trivial ?_ rfl;simp only[Tryz.ntmps221,mj,dV,lD,Nat.reduceAdd,Nat.reduceSub,om,oh,nY,np,fX,fS];have Q:=hid y;clear y;gi_wp2_with fail
 have R:=bt w 240 (.slice b nl a);have ab:=R.alloc (.cells #[.bool c] 4);have E:=bt (w.alloc (.cells #[.slice b nl a] 240)) 4 (.bool c);have I:=(au w.heap.size w).alloc (ah _) (.cells #[.slice b nl a] 240);have O:(w.alloc (.cells #[.slice b nl a] 240)).heap.size=w.heap.size+1:=aE
 have m:=I.alloc I.size (.cells #[.bool c] 4);rw[O] at E;have af:w.grownBy ((w.alloc (.cells #[.slice b nl a] 240)).alloc (.cells #[.bool c] 4)) (Value.slice b nl a).ownBlock:=⟨m.os,m.tape,m.output,m.size,fun k f _=>m.block k f⟩
 refine Eu al s hs rfl rfl
  (fun k V=>(∃v,Boxed V w.heap.size 240 v/\V.ownsRow B 243 2 v (l++(bQ s k).map fun u=>(u,c)).length (uk (l++(bQ s k).map fun u=>(u,c)))/\(v.ownBlock=(Value.slice b nl a).ownBlock∨∀g,v.ownBlock=some g ->w.heap.size<=g))/\Boxed V (w.heap.size+1) 4 (.bool c)/\w.grownBy V (Value.slice b nl a).ownBlock)
  (gA (ik (holdsRow_own B w.heap.size 240 243 2 (fun k:Nat=>(l++(bQ s k).map fun u=>(u,c)).length) (fun k=>uk (l++(bQ s k).map fun u=>(u,c))) (fun _ v=>v.ownBlock=(Value.slice b nl a).ownBlock∨∀g,v.ownBlock=some g ->w.heap.size<=g)) _) (gA (ik (j5 (w.heap.size+1) 4 (fun _:Nat=>.bool c)) _) (alv m.size)))
  ⟨⟨_,ab,by simpa [bQ] using (LI (LI Q.o _) _),.inl rfl⟩,E,af⟩
  (fun k=> {tmps:= #[.slice b nl a,.int .u32 (aB s:Nat),.bool c,.pointer (some ⟨w.heap.size,0,none⟩),undef,.pointer (some ⟨w.heap.size+1,0,none⟩),.slice none 0 0,.int .i64 (k:Nat),.int .u32 (aB s:Nat),.func (.func 182) #[.int .u32 (aB s:Nat)] #[],.int .i64 (k:Nat),undef,undef,undef,undef,undef,undef,undef],defers:=[]}) ?assign ?body ?skip ?done
 case assign=>
  intro l k W K j;gi_wp2
  exact j
 case body=>
  rintro r k V f z ⟨⟨v,q,i,X⟩,p,h⟩;have T:=q.cell;have aT:=p.cell;have a1:=kZ s k;have a6:(l++(bQ s k).map fun u=>(u,c)).length<=1008:=by rw[bU,cH];omega
  have ae:B<=V.heap.size:=aL F h.size;have P:Gm w V (Value.slice b nl a) v:=⟨h,X⟩;generalize KE:(l++(bQ s k).map fun u=>(u,c))=L at *;gi_wp2_with (gi_at_builtin;refine ahW _ rfl _ _ 240 rfl B 243 Y (.agg #[.int .i64 0,.bool false]) 2 16 Tryz.underlying240 U ao aq av rfl bd _ _ _ rfl (i.alloc _) ⟨V.heap.size,0,none⟩ 1 1 [.int .i64 (k:Nat),.bool c] rfl rfl (aii _ _ _ _) (by simp[Value.oneCell']) (by unfold maxLen;omega) al (by simp;omega) bd ?_;intro v' Z J A ay;obtain⟨g',ax,rfl⟩:=ownsRow_succ J;obtain⟨M,an,ak,ai,aR⟩:=q.appended bd i ae F J A;have aS:=M.cell;have Ib:=M.frozen)
  have aa:Boxed Z (w.heap.size+1) 4 (.bool c):=(p.alloc _).kept A (p.not_row bd i);have H:=P.more A ay w.heap.size 0 (ah _) (.slice (some ⟨g',0,none⟩) (L.length+1) ax);have ad:(l++(bQ s (k+1)).map fun u=>(u,c))=L++[(k,c)]:=by rw[Re z,eh, <- ny,KE];rfl
  refine⟨ai.from _,⟨⟨_,an,?_,H.2⟩,jY aa w.heap.size 0 _ al,H.1⟩⟩;rw[ad,bU,Zq];exact ak
 case skip=>
  rintro k V f z aN;rwa [MI z]
 case done=>
  rintro D V S ⟨⟨v,q,i,X⟩,p,h⟩ j;have T:=q.cell;gi_wp2
  refine⟨aE,.inl ⟨_,_,rfl,Ct j,?_⟩⟩;refine⟨_,Cu rfl _ _ _,v,rfl,ownsRow_putObj i _ j rfl,⟨h.os,h.tape,h.output,aL h.size aE,fun k f aj=>(yO (by simp at S;omega)).trans (h.block k f aj)⟩,X⟩
end
variable {kl:Nat×Bool ->Lit} {W':World}
def CT (p:Nat×Bool):Value:=.agg #[.int .i64 (p.1:Nat),.bool p.2]
theorem anC:laidOutB Tryz.prog=true:=ao
theorem ML:Maps.Keyed Tryz.prog 243:=Maps.Keyed.of_law (deep_law_laid anC (m:=3) bd (mg ao) ao ao)
theorem anF (v:Nat) (c:Bool) (a:v<8):(keyOf Tryz.prog 243 (CT (v,c))).isSome=true:=by
 have h:v=0∨v=1∨v=2∨v=3∨v=4∨v=5∨v=6∨v=7:=al
 rcases h with rfl |rfl |rfl |rfl |rfl |rfl |rfl |rfl
 all_goals
  cases c
  all_goals exact mg ao
theorem anG:∃kl:Nat×Bool ->Lit,∀p:Nat×Bool,p.1< 8 ->keyOf Tryz.prog 243 (CT p)=some (kl p):=by
 refine⟨fun p=>(keyOf Tryz.prog 243 (CT p)).getD (.bool false),fun p a=>?_⟩;obtain⟨l,h⟩:=Option.isSome_iff_exists.1 (anF p.1 p.2 a);have b:keyOf Tryz.prog 243 (CT p)=some l:=h;show _=some ((keyOf Tryz.prog 243 (CT p)).getD (.bool false));rw[b];rfl
theorem key_inj (k:∀p:Nat×Bool,p.1< 8 ->keyOf Tryz.prog 243 (CT p)=some (kl p)) {p q:Nat×Bool} (d:p.1<8) (f:q.1<8) (h:kl p=kl q):p=q:=by
 have a:=k p d;have c:=k q f;rw[h] at a;have e:=ML.inj a c;obtain⟨g,l⟩:=p;obtain⟨i,m⟩:=q;simp only[CT,Value.agg.injEq,Array.mk.injEq,List.cons.injEq,Value.int.injEq,Value.bool.injEq,true_and,and_true] at e;obtain⟨j,b⟩:=e;have:g=i:=al
 rw[this,b]
structure Cq (kl:Nat×Bool ->Lit) (W:World) (b:Nat) (S:List (Nat×Bool)) (D:DataW Unit):Prop where
 own:W.ownsMap Tryz.prog 243 (unitElem (H:=Unit)) b S.length D
 has:∀p:Nat×Bool,p.1< 8 ->Maps.has D (kl p)=decide (p∈S)
theorem Cq.new (kl:Nat×Bool ->Lit) (w:World):Cq kl (w.alloc (.map #[] 0)) w.heap.size [] (.map []):=⟨World.ownsMap_made w _ _ _,fun _ _=>rfl⟩
theorem Cq.put (k:∀p:Nat×Bool,p.1< 8 ->keyOf Tryz.prog 243 (CT p)=some (kl p)) {W:World} {b:Nat} {S:List (Nat×Bool)} {D:DataW Unit} (h:Cq kl W b S D) {p:Nat×Bool} (c:p.1<8) {d:DataW Unit} (g:W'.ownsMap Tryz.prog 243 (unitElem (H:=Unit)) b (S.length+1) (D.put (kl p) d)):Cq kl W' b (p::S) (D.put (kl p) d):=by
 refine⟨g,fun q f=>?_⟩;by_cases e:kl q=kl p
 ·have a:=key_inj k f c e;rw[a,Maps.has_put_same h.own.isMap (ML.key (k p c)),bX c5]
 ·rw[Maps.has_put_other e,h.has q f];refine Ej.2 ⟨dM _,fun m=>?_⟩;rcases bT.1 m with a |m
  ·exact absurd (by rw[a]) e
  ·exact m
theorem Cq.kept {W:World} {b:Nat} {S:List (Nat×Bool)} {D:DataW Unit} (h:Cq kl W b S D) {row:Option Nat} (g:W.grownBy W' row) (e:some b≠row):Cq kl W' b S D:=⟨h.own.kept g e,h.has⟩
variable {an:Ki}
def Ez (P:List Ki) (n:Nat) (z an:Ki) (p:Nat×Bool):List (Nat×Bool):=
 (if (p.2&&!decide (p.1∈z) ||!p.2&&decide (p.1∈an))=true then(bQ (P.getD p.1 []) 8).map fun u=>(u,true) else[])++(if p.1∈z then[] else(bQ (eK P p.1 n) 8).map fun u=>(u,false))
structure sj (P:List Ki) (n:Nat) (x y z an:Ki) (S W:List (Nat×Bool)):Prop where
 low:∀p,p∈S∨p∈W ->p.1<n/\ix (fun u v=>u∈P.getD v []) (·∈x) (·∈z) (·∈an) p.1 p.2
 nd:S.Nodup
 noy:∀p∈S,¬p.1∈y
 suc:∀p∈S,∀q∈Ez P n z an p,q∈S∨q∈W
 start:∀v∈x,(v,true)∈S∨(v,true)∈W
 len:W.length<=8+16*S.length
theorem sj.new {x y z:Ki} (b:∀v∈x,v<n) (c:n<=8):sj P n x y z an [] ((bQ x 8).map fun u=>(u,true)):=by
 refine⟨fun p h=>?_,List.nodup_nil,(fun p h=>by cases h),(fun p h=>by cases h),fun v a=>.inr (aH.2 ⟨v,uU.2 ⟨by have:=b v a;omega,a⟩,rfl⟩),?_⟩
 ·rcases h with h |h
  ·cases h
  ·obtain⟨v,a,rfl⟩:=aH.1 h;exact⟨b v (uU.1 a).2,.start (uU.1 a).2⟩
 ·have:=kZ x 8;rw[cH,lD];omega
theorem sj.skip {x y z:Ki} {S T:List (Nat×Bool)} {p:Nat×Bool} (h:sj P n x y z an S (T++[p])) (c:p∈S):sj P n x y z an S T:=by
 have b:∀q,q∈S∨q∈T++[p] ->q∈S∨q∈T:=fun q a=>by
  rcases a with a |a
  ·exact .inl a
  ·rcases aZ.1 a with a |a
   ·exact .inr a
   ·rw[dS.1 a];exact .inl c
 refine⟨fun q a=>h.low q (a.imp id fun a=>Eo _ a),h.nd,h.noy,fun q a r d=>b r (h.suc q a r d),fun v e=>b _ (h.start v e),?_⟩;have:=h.len;rw[bU,Ep] at this;omega
theorem sj.add {x y z:Ki} (j:∀v,∀u∈P.getD v [],u<n/\v<n) {S T:List (Nat×Bool)} {p:Nat×Bool} (h:sj P n x y z an S (T++[p])) (l:¬p∈S) (o:¬p.1∈y):sj P n x y z an (p::S) (T++Ez P n z an p):=by
 obtain⟨A,M⟩:=h.low p (.inr (LV _ c5))
 have s:∀q,q∈S∨q∈T++[p] ->q∈p::S∨q∈T++Ez P n z an p:=fun q a=>by
  rcases a with a |a
  ·exact .inl (dM _ a)
  ·rcases aZ.1 a with a |a
   ·exact .inr (Eo _ a)
   ·rw[dS.1 a];exact .inl c5
 have w:∀q∈Ez P n z an p,q.1<n/\ix (fun u v=>u∈P.getD v []) (·∈x) (·∈z) (·∈an) q.1 q.2:=fun q a=>by
  rcases aZ.1 a with a |a
  ·by_cases d:(p.2&&!decide (p.1∈z) ||!p.2&&decide (p.1∈an))=true
   ·rw[aw d] at a;obtain⟨u,f,rfl⟩:=aH.1 a;have t:=(uU.1 f).2;refine⟨(j _ _ t).1,?_⟩;obtain⟨v,c⟩:=p;cases c with
    |true=>
     (have b:¬v∈z:=fun b=>by simp[b] at d);exact .up M b t
    |false=>
     (have k:v∈an:=by simpa using d);exact .meet M k t
   ·rw[aA d] at a;cases a
  ·by_cases b:p.1∈z
   ·rw[aw b] at a;cases a
   ·rw[aA b] at a;obtain⟨u,f,rfl⟩:=aH.1 a;obtain⟨e,g⟩:=FP.1 (uU.1 f).2;exact⟨e,.down M b g⟩
 refine⟨fun q a=>?_,nZ.2 ⟨l,h.nd⟩,fun q a=>?_,fun q a r i=>?_,fun v m=>s _ (h.start v m),?_⟩
 ·rcases a with a |a
  ·rcases bT.1 a with rfl |a
   ·exact⟨A,M⟩
   ·exact h.low q (.inl a)
  ·rcases aZ.1 a with a |a
   ·exact h.low q (.inr (Eo _ a))
   ·exact w q a
 ·rcases bT.1 a with rfl |a
  ·exact o
  ·exact h.noy q a
 ·rcases bT.1 a with rfl |a
  ·exact .inr (LV _ i)
  ·exact s r (h.suc q a r i)
 ·have e:=h.len
  have g:(Ez P n z an p).length<=16:=by
   have D:=kZ (P.getD p.1 []) 8;have E:=kZ (eK P p.1 n) 8;rw[Ez,bU];split<;>split<;>simp only[cH,lD]<;>omega
  rw[bU,Ep] at e;rw[bU,dV];omega
theorem sj.fin {x y z:Ki} (b:∀v,∀u∈P.getD v [],u<n/\v<n) (f:n<=8) {S:List (Nat×Bool)} (h:sj P n x y z an S []):¬∃v c,v∈y/\ix (fun u v=>u∈P.getD v []) (·∈x) (·∈z) (·∈an) v c:=by
 have k:∀v c,ix (fun u v=>u∈P.getD v []) (·∈x) (·∈z) (·∈an) v c ->(v,c)∈S:=fun v c r=>by
  have s:∀p q,p∈S ->q∈Ez P n z an p ->q∈S:=fun p q a d=>(h.suc p a q d).elim id fun h=>by cases h
  induction r using ix.ind with
  |start hx=>exact(h.start _ hx).elim id fun h=>by cases h
  | @up v p _ hz a ih=>exact s _ _ ih (Eo _ (by
    rw[aw (by simp[hz])];exact aH.2 ⟨p,uU.2 ⟨by have:=(b _ _ a).1;omega,a⟩,rfl⟩))
  | @down v w c _ hz a ih=>exact s _ _ ih (LV _ (by
    rw[aA hz];exact aH.2 ⟨w,uU.2 ⟨by have:=(b _ _ a).2;omega,FP.2 ⟨(b _ _ a).2,a⟩⟩,rfl⟩))
  | @meet v p _ ha a ih=>exact s _ _ ih (Eo _ (by
    rw[aw (by simp[ha])];exact aH.2 ⟨p,uU.2 ⟨by have:=(b _ _ a).1;omega,a⟩,rfl⟩))
 rintro⟨v,c,e,r⟩;exact h.noy _ (k v c r) e
theorem sj.few {x y z:Ki} {S W:List (Nat×Bool)} (h:sj P n x y z an S W) (l:n<=8):S.length<=16:=by
 have f:(S.map fun p=>p.1*2+(if p.2=true then 1 else 0)).Nodup:=AO.2 (h.nd.imp fun {a b} i e=>i (by
  obtain⟨j,c⟩:=a;obtain⟨k,b2⟩:=b;cases c<;>cases b2<;>simp at e⊢<;>omega))
 have:=EL f (m:=List.range 16) fun v g=>by
  obtain⟨p,d,rfl⟩:=aH.1 g;have:=(h.low p (.inl d)).1;refine bM.2 ?_;split<;>omega
 simpa using this
variable {l:Kh} {Pa:Nat ->Nat ->Prop} {An X Z:Nat ->Prop}
theorem Wa {l:Ki}:aB l=0↔∀v,¬v∈l:=by
 constructor
 ·intro h v b;have:=pP l v;rw[h,Nat.zero_testBit,bX b] at this;cases this
 ·intro h;have:aB l=aB []:=Q9 fun x=>⟨fun a=>absurd a (h x),fun a=>by cases a⟩;rw[this];rfl
theorem y5 (h:Up l n):l.Nodup:=yS.2 fun i j b a p=>by
 have:=h.lt i j a p;omega
theorem GQ (h:Up l n) {x:Int} (b:x∈l):0<=x/\x<n:=by
 obtain⟨j,a,rfl⟩:=iI b;exact h.each j a
theorem UM (h:Up l n) {x:Int} (b:0<=x):x.toNat∈ag l↔x∈l:=by
 constructor
 ·intro m;obtain⟨y,a,e⟩:=aH.1 m;have:=GQ h a;rwa [show x=y by omega]
 ·exact fun m=>aH.2 ⟨x,m,rfl⟩
theorem uM (h:Up l n):∀u∈ag l,u<n:=fun u a=>by
 obtain⟨y,b,rfl⟩:=aH.1 a;have:=GQ h b;omega
theorem ZH {a b:Kh} (d:Up a n) (e:Up b n):(∀x∈a,∀y∈b,x≠y)↔aB ((ag a).filter fun x=>decide (x∈ag b))=0:=by
 rw[Wa];constructor
 ·intro h v j;obtain⟨f,g⟩:=cQ.1 j;obtain⟨x,c,rfl⟩:=aH.1 f;have i:=(UM e (GQ d c).1).1 (mg g);exact h x c x i rfl
 ·rintro h x c y k rfl;exact h x.toNat (cQ.2 ⟨(UM d (GQ d c).1).2 c,bX ((UM e (GQ d c).1).2 k)⟩)
theorem ag3 {x y z:Kh} (r:kh [x,y,z] n=true):iP n [x,y,z]=true↔aB ((ag x).filter fun v=>decide (v∈ag y))=0/\aB ((ag x++ag y).filter fun v=>decide (v∈ag z))=0:=by
 have i:Up x n:=j8 (eX.1 r x aE);have j:Up y n:=j8 (eX.1 r y aE);have k:Up z n:=j8 (eX.1 r z aE)
 have e:aB ((ag x++ag y).filter fun v=>decide (v∈ag z))=0↔aB ((ag x).filter fun v=>decide (v∈ag z))=0/\aB ((ag y).filter fun v=>decide (v∈ag z))=0:=by
  simp only[Wa,xK,aZ,not_or];exact⟨fun h=>⟨fun v=>(h v).1,fun v=>(h v).2⟩,fun h v=>⟨h.1 v,h.2 v⟩⟩
 rw[e, <- ZH i j, <- ZH i k, <- ZH j k,iP,r,GI,eG];simp only[Ut,List.flatten_nil,kQ,lC,aZ];constructor
 ·rintro⟨_,⟨_,_,g⟩,f⟩;exact⟨fun a c b d=>f a c b (.inl d),fun a c b d=>f a c b (.inr d),g⟩
 ·rintro⟨g,f,l⟩;exact⟨y5 i,⟨y5 j,y5 k,l⟩,fun a c b d=>d.elim (g a c b) (f a c b)⟩
theorem ZQ (h:aX L=0) (d:L.length<=8) (hs:∀v∈s,v<L.length) (u:Nat):K7 L u s=true↔u∈cX (aF L) s L.length:=by
 rw[Ow h d hs,K7,sJ];exact⟨fun ⟨b,a,c⟩=>⟨b,a,(ahb h (hs b a)).1 c⟩,fun ⟨b,a,c⟩=>⟨b,a,(ahb h (hs b a)).2 c⟩⟩
theorem acd {a n:Nat ->Prop} (z:∀v,Z v↔a v) (b:∀v,An v↔n v) {c:Bool} (h:ix Pa X Z An v c):ix Pa X a n v c:=by
 induction h using ix.ind with
 |start hx=>exact .start hx
 |up _ h1 h2 ih=>exact .up ih (fun e=>h1 ((z _).2 e)) h2
 |down _ h1 h2 ih=>exact .down ih (fun e=>h1 ((z _).2 e)) h2
 |meet _ h1 h2 ih=>exact .meet ih ((b _).1 h1) h2
theorem adk (h:aX L=0) (d:L.length<=8) {x y z:Kh} (p:iP L.length [x,y,z]=true):lH L x y z=true↔∃v c,v∈ag y/\ix (fun u v=>u∈(aF L).getD v []) (·∈ag x) (·∈ag z) (·∈cX (aF L) (ag z) L.length) v c:=by
 have r:kh [x,y,z] L.length=true:=by
  rw[iP,iB] at p;exact p.1
 have j:Up x L.length:=j8 (eX.1 r x aE);have k:Up z L.length:=j8 (eX.1 r z aE);have l:=uM k;have o:=(vr h).1;have m:=((ag3 r).1 p).2;rw[Wa] at m
 have T:∀u v,u∈(aF L).getD v [] ->K7 L v (ag z)=true ->K7 L u (ag z)=true:=fun u v e f=>by
  rw[ZQ h d l,Ow h d l] at f⊢;obtain⟨b,i,a⟩:=f;rcases a with rfl |a
  ·exact⟨v,i,.inr (.one e)⟩
  ·refine⟨b,i,.inr ?_⟩;clear i;induction a using fM.ind with
   |one hp=>exact .more (.one e) hp
   |more _ hp ih=>exact .more ih hp
 have s:=alV (P:=aF L) (n:=L.length) (yb:=fun v=>decide (v∈ag y)) (zb:=fun v=>decide (v∈ag z)) (an:=fun v=>K7 L v (ag z)) (X:=(·∈ag x))
  (fun v f=>cF fun q=>m v (cQ.2 ⟨Eo _ f,bX q⟩)) (arZ h) T (fun v u e=>JW o e) (uM j)
 rw[lH,sJ];refine Iff.trans s ⟨?_,?_⟩
 ·rintro⟨v,c,a,g⟩;exact⟨v,c,mg a,acd (fun v=>eG) (fun v=>ZQ h d l v) g⟩
 ·rintro⟨v,c,a,g⟩;exact⟨v,c,bX a,acd (fun v=>eG.symm) (fun v=>(ZQ h d l v).symm) g⟩
variable {Ls:List Kh} {I:Kh}
theorem alP {r:Nat ->Nat} (c:∀v,∀u∈P.getD v [],u<P.length/\r u<r v):(aY P P.length).length=P.length:=by
 have t:∀k,k<=P.length ->(aY P k).length=k:=fun k=>by
  induction k with
  |zero=>intro _;rfl
  |succ k ih=>
   intro w;have l:=ih al
   have x:∃v,v<P.length/\¬v∈aY P k:=by
    refine AU fun o=>?_;have s:∀v∈List.range P.length,v∈aY P k:=fun v a=>AU fun h=>o ⟨v,bM.1 a,h⟩;have:=EL qC s;rw[yU,l] at this;omega
   have p:∀m v,r v<=m ->v<P.length ->¬v∈aY P k ->∃v',v'<P.length/\iM P (aY P k) v'=true:=fun m=>by
    induction m with
    |zero=>
     intro v g a n;refine⟨v,a,?_⟩;rw[iM,cF n,bX (fun u b=>by have:=(c v u b).2;omega)];rfl
    |succ m MR=>
     intro v g a n;by_cases d:∀u∈P.getD v [],u∈aY P k
     ·exact⟨v,a,by rw[iM,cF n,bX d];rfl⟩
     ·obtain⟨u,b⟩:=Classical.not_forall.1 d;obtain⟨i,j⟩:=Classical.not_imp.1 b;have:=c v u i;exact MR u al this.1 j
   obtain⟨v,a,n⟩:=x;obtain⟨v',q,f⟩:=p (r v) v (ah _) a n;rw[aY];cases e:rJ P (aY P k) with
   |none=>
    rw[rJ,Uu] at e;exact absurd f (e v' (bM.2 q))
   |some u=>
    show (aY P k++[u]).length=_;rw[bU,l];rfl
 exact t _ (ah _)
theorem UN (a:Up l n):dN l n=true:=by
 rw[dN,eX];intro i b;have h:=bM.1 b;rw[lI,eG,getD_eq h];refine⟨(a.each i h).1,(a.each i h).2,fun c=>?_⟩;rw[getD_eq (show i - 1<l.length by omega)];exact a.lt (i - 1) i h al
theorem up_sub {m:Kh} (h:Up m n) (hs:l.Sublist m):Up l n:=by
 rw[jM] at h⊢;exact⟨fun x a=>h.1 x (hs.subset a),h.2.sublist hs⟩
theorem getD_at {α:Type} {L:List (List α)} (h:v<L.length):L.getD v []=L[v]:=by rw[bF,aV h];rfl
theorem afI {L':List Kh} (h:aX L=0) (o:L'.length=L.length) (hs:∀v,v<L.length ->(L'.getD v []).Sublist (L.getD v [])):aX L'=0:=by
 have k:=(vr h).1;obtain⟨t,w,r,p⟩:=lQ k;have T:∀v,v<L.length ->Up (L.getD v []) L.length:=fun v b=>by rw[getD_at b];exact j8 (Te r b)
 have f:gB L'=true:=afJ al al fun i n=>by
  have d:i<L.length:=al
  have z:=hs i d;have a:=up_sub (T i d) z;rw[getD_at n] at a z;refine⟨by rw[o];exact UN a,fun m=>?_⟩
  have g:¬i∈ag (L.getD i []):=fun j=>by
   have:=eX.1 p i (bM.2 d);rw[bX j] at this;cases this
  refine g ?_;obtain⟨x,c,e⟩:=aH.1 m;exact aH.2 ⟨x,z.subset c,e⟩
 have s:∀v,∀u∈(aF L').getD v [],u<(aF L').length/\tJ (aF L) u<tJ (aF L) v:=fun v u a=>by
  have l:=JW f a;have b:v<L.length:=al
  have m:u∈(aF L).getD v []:=by
   rw[G6 l.2, <- getD_at l.2] at a;rw[G6 b, <- getD_at b];obtain⟨x,c,e⟩:=aH.1 a;exact aH.2 ⟨x,(hs v b).subset c,e⟩
  exact⟨by rw[jQ];exact l.1,GZ h m⟩
 have q:=alP s;rw[jQ] at q;rw[aX,aw f,aA al]
def rU (L:List Kh) (I F:Kh) (v:Nat):Kh:=if (v:Int)∈I then[] else(L.getD v []).filter fun u=>decide (¬u∈F)
def bB (L:List Kh) (I F:Kh):List Kh:=(List.range L.length).map (rU L I F)
theorem nR (L:List Kh) (I F:Kh):(bB L I F).length=L.length:=by simp[bB]
theorem KU {F:Kh} (h:v<(bB L I F).length):(bB L I F)[v]=rU L I F v:=by simp[bB]
theorem Zj (L:List Kh) (I F:Kh) (v:Nat):(rU L I F v).Sublist (L.getD v []):=by
 rw[rU];split
 ·exact List.nil_sublist _
 ·exact Ju
theorem vt (h:aX L=0) (I F:Kh):aX (bB L I F)=0:=afI h (nR L I F) fun v b=>by
 have a:v<(bB L I F).length:=by rw[nR];exact b
 rw[getD_at a,KU a];exact Zj L I F v
theorem SZ {F:Kh} (h:∀l∈L,l.length<=n):∀l∈bB L I F,l.length<=n:=fun l c=>by
 obtain⟨v,d,rfl⟩:=aH.1 c;have a:=bM.1 d;have b:=(Zj L I F v).length_le;have e:=h _ (bP a);rw[getD_at a] at b;omega
theorem Oh (L:List Kh) (I:Kh) (v:Nat):rU L I [] v=if (v:Int)∈I then[] else L.getD v []:=by
 rw[rU,List.filter_eq_self.2 (fun _ _=>aE)]
theorem agv (L:List Kh) (F:Kh) (v:Nat):rU L [] F v=(L.getD v []).filter fun u=>decide (¬u∈F):=by
 rw[rU];simp
def kr (L Ls:List Kh):Int:=if aX L=0 then(if iP L.length Ls=true then 0 else 11) else aX L
theorem K5:iP n Ls=true↔(∀l∈Ls,dN l n=true)/\Ls.flatten.Nodup:=by
 rw[iP,iB,eG,kh,eX]
theorem Vb (h:kr L Ls=0):aX L=0/\iP L.length Ls=true:=by
 rw[kr] at h;by_cases g:aX L=0
 ·rw[aw g] at h;refine⟨g,?_⟩;by_cases a:iP L.length Ls=true
  ·exact a
  ·rw[aA a] at h;exact absurd h bd
 ·rw[aA g] at h;exact absurd h g
variable {c:Nat} {a:Kd}
def qW (W:World) (R:Nat) (vs:List Value) (Ls:List Kh):Prop:=
 vs.length=Ls.length/\∀k (h:k<Ls.length),∃b c,vs[k]? =some (.slice b Ls[k].length c)/\aC W b Ls[k]/\∀g o,b=some ⟨g,o,none⟩ ->Ls[k]≠[] ->g≠R
theorem Wx {W:World} {R:Nat} {b:Kd} (h:aC W b l) (n:∀g o,b=some ⟨g,o,none⟩ ->l≠[] ->g≠R) (f:∀g,g<W.heap.size ->g≠R ->W'.heap[g]? =W.heap[g]?) (hs:W.heap.size<=W'.heap.size):aC W' b l:=fun k d=>by
 obtain⟨g,o,e,a,c⟩:=h k d;have i:=n g o e (fun e=>by rw[e] at d;exact absurd d aE);exact⟨g,o,e,aO a hs,(iz (f g a i)).trans c⟩
theorem qW.keep {W:World} {R:Nat} {vs:List Value} (h:qW W R vs Ls) (i:∀g,g<W.heap.size ->g≠R ->W'.heap[g]? =W.heap[g]?) (hs:W.heap.size<=W'.heap.size):qW W' R vs Ls:=⟨h.1,fun k d=>by
 obtain⟨b,c,e,f,a⟩:=h.2 k d;exact⟨b,c,e,Wx f a i hs,a⟩⟩
theorem qW.aa {W:World} {R:Nat} {vs:List Value} (h:qW W R vs Ls) (b:db W W'):qW W' R vs Ls:=h.keep (fun g a _=>b.block g a) b.size
theorem qW.lists {W:World} {R:Nat} {vs rest:List Value} (h:qW W R vs Ls) (r:iu W R (vs++rest)):dC W (some ⟨R,0,none⟩) Ls:=fun k e=>by
 obtain⟨b,c,d,f,_⟩:=h.2 k e;have a:k<vs.length:=by rw[h.1];exact e
 refine⟨R,0,b,c,rfl,r.lt,?_,f⟩;rw[bH,r.cell k (by rw[bU];omega),nh a];rw[aV a] at d;exact d
theorem qW.put {W:World} {R:Nat} {vs rest:List Value} (h:qW W R vs Ls) (u:iu W R (vs++rest)) (w:v<Ls.length) {b:Kd} (r:aC W b l) (f:∀g o,b=some ⟨g,o,none⟩ ->l≠[] ->g≠R):
  qW (W.setCell ⟨R,v,none⟩ (.slice b l.length c)) R (vs.set v (.slice b l.length c)) (Ls.set v l)/\iu (W.setCell ⟨R,v,none⟩ (.slice b l.length c)) R (vs.set v (.slice b l.length c)++rest):=by
 have m:∀k,k≠R ->(W.setCell ⟨R,v,none⟩ (.slice b l.length c)).heap[k]? =W.heap[k]?:=fun k a=>eN W ⟨R,v,none⟩ _ k a;have s:=(jD W ⟨R,v,none⟩ (.slice b l.length c)).size;have t:v<vs.length:=by rw[h.1];exact w
 refine⟨⟨by rw[iq,iq];exact h.1,fun k a=>?_⟩,?_⟩
 ·rw[iq] at a;by_cases e:v=k
  ·subst e;refine⟨b,c,?_,?_,?_⟩
   ·rw[GG t,Gz]
   ·rw[Gz];exact Wx r f (fun g _ n=>m g n) s
   ·rw[Gz];exact f
  ·obtain⟨i,j,p,q,d⟩:=h.2 k a;refine⟨i,j,?_,?_,?_⟩
   ·rw[wA e,LX e];exact p
   ·rw[LX e];exact Wx q d (fun g _ n=>m g n) s
   ·rw[LX e];exact d
 ·have:=u.set v (.slice b l.length c);rwa [List.set_append_left _ _ t] at this
theorem ajg (h:dC w a L) (p:0<L.length):∃g o,a=some ⟨g,o,none⟩/\g<w.heap.size:=by
 obtain⟨g,o,_,_,b,c,_⟩:=h 0 p;exact⟨g,o,b,c⟩
theorem ajo (a:Kd) (ca:Nat) (L:List Kh) (w:World) (h:dC w a L) (Q:0<L.length) (h8:L.length<=1000):
  da 125 #[.slice a L.length ca] w fun e w'=>∃R cap vs rest,e=.returned (.slice (some ⟨R,0,none⟩) L.length cap)/\L.length<=cap/\w.heap.size<=R/\iu w' R (vs++rest)/\qW w' R vs L/\db w w':=by
 obtain⟨T,K,ab,ad,ae⟩:=eA Tryz.infoInts1;obtain⟨g,o,rfl,hg⟩:=ajg h Q;have HF:=hid h;obtain⟨vs,I⟩:∃vs:List Value,vs=(List.range L.length).map fun k=>(w.cell? ⟨g,o+k,none⟩).getD undef:=⟨_,rfl⟩;have Z:vs.length=L.length:=by rw[I];simp
 have J:Hid (∀k (d:k<L.length),∃b c,vs[k]? =some (.slice b L[k].length c)/\aC w b L[k]/\w.cell? ⟨g,o+k,none⟩=some (.slice b L[k].length c)):=fun k d=>by
  obtain⟨g',U,b,c,e,_,i,m⟩:=h k d;cases e;refine⟨b,c,?_,m,i⟩;rw[I,kq,Jt d,Option.map_some,i];rfl
 have y:=hid Z;clear I h Z;have aj:∀(w:World) (a:Kd) (n c r q:Nat),(binOp .eql 23 (.slice a n c) (.slice none r q)).run Tryz.prog w=.ok (.bool a.isNone) w:=fun w a n c r q=>Lib.run_eql_slice_nil w _ _ a n c r q Tryz.underlying23;go_enter Tryz.func125,Tryz.ntmps125;go_wp2_with (at_builtin;refine AE _ rfl _ _ 23 rfl w.heap.size 27 T (.slice none 0 0) 1 24 Tryz.underlying23 K ab ad ae rfl bd _ _ _ rfl (World.ownsRow_made w #[] 0 (ah _) (aU _) rfl) ⟨g,o,none⟩ L.length ca vs rfl ?Mz ?My ?Mx ?Mw ?Mv ?Mu ?_)
 case Mz=>have:=y.o;simp;omega
 case My=>
  intro j u A
  have X:j<L.length:=by
   have f:=(nk.1 A).1;have i:=y.o;omega
  obtain⟨b,c,f,_,m⟩:=J.o j X;rw[Addr.add_lit];refine Lib.cell?_alloc_some _ ?_;rw[m, <- f];exact A
 case Mx=>
  intro u S;obtain⟨k,d,rfl⟩:=iI S;have M:k<L.length:=by have:=y.o;omega
  obtain⟨b,c,f,_,_⟩:=J.o k M;rw[aV d] at f;rw[ko f];rfl
 case Mw=>unfold maxLen;omega
 case Mv=>omega
 case Mu=>simp
 intro v' V p E af;have D:db w V:=((au _ w).alloc (ah _) _).grown E aE (by intro k d;simp[Value.ownBlock] at d;omega);have H:=hid D;have O:=hid p;clear p E af D;go_wp2;go_ret;have p:=O.o;rcases p.2 with ⟨f,i⟩ |⟨R,cap,s,f,i,m,P,h5,h6,z⟩
 ·omega
 ·refine⟨R,cap,vs,s.toList.drop L.length,by rw[f];rfl,P,i,?_,?_,H.o⟩
  ·rw[iu,m]
   have e:vs++s.toList.drop L.length=s.toList:=by
    rw[qA] at z;rw[<- z,yR]
   rw[e]
  ·refine⟨y.o,fun k d=>?_⟩;obtain⟨b,c,F,t,_⟩:=J.o k d;refine⟨b,c,F,t.aa H.o,fun g' U e Y=>?_⟩;obtain⟨g2,o2,v,ai,_⟩:=t 0 (by cases hl:L[k] with |nil=>exact absurd hl Y |cons x l=>simp);rw[e] at v;cases v;omega
theorem aqF (L:List Kh):bB L [] []=L:=by
 apply pJ (nR L [] []);intro v a h;rw[KU,Oh,aA aE,getD_at h]
theorem aqG {d:Kh} (b:i<d.length) (c:d[i]=(v:Int)):(bB L (d.take i) []).set v []=bB L (d.take (i+1)) []:=by
 apply pJ (by rw[iq,nR,nR]);intro k f g
 have m:((k:Int)∈d.take (i+1))↔((k:Int)∈d.take i∨k=v):=by
  rw[im b,aZ,dS,c];exact or_congr Iff.rfl ⟨fun e=>al,fun e=>al⟩
 rw[KU,GD,Oh];by_cases e:v=k
 ·rw[aw e,aw (m.2 (.inr e.symm))]
 ·rw[aA e,KU,Oh];by_cases a:(k:Int)∈d.take i
  ·rw[aw a,aw (m.2 (.inl a))]
  ·rw[aA a,aA fun h=>(m.1 h).elim a fun h=>e h.symm]
theorem aaP (a b:Kd) (ca cb:Nat) (L:List Kh) (d:Kh) (w:World) (h:dC w a L) (s:aC w b d) (hp:0<L.length) (h8:L.length<=8) (z:∀x∈d,0<=x/\x<(L.length:Int)) (ai:d.length<=1000):
  da 77 #[.slice a L.length ca,.slice b d.length cb] w fun e w'=>∃R cap,e=.returned (.slice (some ⟨R,0,none⟩) L.length cap)/\dC w' (some ⟨R,0,none⟩) (bB L d [])/\db w w':=by
 have D:=hid (ajo a ca L w h hp al);have U:=hid z;have X:=hid s;have T:=hid (aqF L);have aa:Hid (∀(i v:Nat) (m:i<d.length),d[i]=(v:Int) ->(bB L (d.take i) []).set v []=bB L (d.take (i+1)) []):=fun i v m f=>aqG m f;have q:Hid (∀S,(bB L S []).length=L.length):=fun S=>nR L S [];clear h s z;go_enter Tryz.func77,Tryz.ntmps77;go_wp2_with fail
 refine D.o.af ?_;rintro e E ⟨R,cap,Q,rest,rfl,ud,Y,J,I,F⟩;have r:Hid (iu E R (Q++rest)):=J;have A:Hid (qW E R Q (bB L (d.take 0) [])):=by rw[PZ,T.o];exact I
 have n:=hid F;clear J I F D T;go_wp2_with fail
 go_loopw [12] (fun iv wr=>∃(i:Nat) (vs:List Value),i<=d.length/\iv=.int .i64 i/\Hid (iu wr R (vs++rest))/\Hid (qW wr R vs (bB L (d.take i) []))/\Hid (db w wr)) (fun iv _=>d.length - (intOf iv).toNat)
 case atStart=>exact⟨0,Q,aU _,rfl,r,A,n⟩
 case round=>
  obtain⟨i,vs,m,rfl,H,V,j⟩:=hrel;clear r A n;by_cases t:i<d.length
  ·obtain⟨g,o,rfl,hg,u⟩:=X.o i t;obtain⟨ab,ad⟩:=U.o _ (bP t);obtain⟨v,f⟩:∃v:Nat,d[i]=(v:Int):=⟨d[i].toNat,al⟩;(have Z:v<L.length:=al);(have kc:wr.cell? ⟨g,o+i,none⟩=some (.int .i64 (v:Nat)):=by rw[<- f];exact(j.o.cell (p:=⟨g,_,none⟩) hg).trans u);have M:=hid (aa.o i v t f);have ae:=H.o.fz v;have P:Hid (qW (wr.setCell ⟨R,v,none⟩ (.slice none 0 0)) R (vs.set v (.slice none 0 0)) ((bB L (d.take i) []).set v [])/\iu (wr.setCell ⟨R,v,none⟩ (.slice none 0 0)) R (vs.set v (.slice none 0 0)++rest)):=V.o.put H.o (by rw[q.o];exact Z) (b:=none) (c:=0) (l:=[]) (fun k hk=>absurd hk aE) (fun g o e=>by cases e);have K:Hid (db w (wr.setCell ⟨R,v,none⟩ (.slice none 0 0))):=j.o.setCell (p:=⟨R,v,none⟩) Y _
   obtain⟨y,ky⟩:∃y,wr.cell? ⟨R,v,none⟩=some y:=by
    have hl:=V.o.1;rw[q.o] at hl;exact⟨_,H.o.cell v (by rw[bU];omega)⟩
   clear u ab ad f;go_wp2;go_roundw
   case rel=>exact⟨i+1,_,al,b5,P.o.2,by rw[<- M.o];exact P.o.1,K⟩
   case measure=>simp[intOf];omega
  ·obtain rfl:i=d.length:=al
   have O:Hid (dC wr (some ⟨R,0,none⟩) (bB L d [])):=by
    have:=V.o.lists H.o;rwa [iY] at this
   go_wp2;go_ret;exact⟨R,cap,rfl,O.o,j.o⟩
theorem aqE {d:Kh} (h:v<L.length):((List.range L.length).map fun k=>if k<v then rU L [] d k else[]).set v (oF L[v] d)=(List.range L.length).map fun k=>if k<v+1 then rU L [] d k else[]:=by
 apply pJ aE;intro k b c;rw[GD];simp only[mn,GF];by_cases e:v=k
 ·subst e;rw[aw rfl,aw al,agv,getD_at h,oF]
 ·rw[aA e];by_cases a:k<v
  ·rw[aw a,aw al]
  ·rw[aA a,aA al]
theorem ah5 (a b:Kd) (ca cb:Nat) (L:List Kh) (n:Kh) (w:World) (h:dC w a L) (E:aC w b n) (hp:0<L.length) (h8:L.length<=8) (x:∀l∈L,l.length<=1000) (aj:n.length<=1000):
  da 76 #[.slice a L.length ca,.slice b n.length cb] w fun e w'=>∃R cap,e=.returned (.slice (some ⟨R,0,none⟩) L.length cap)/\dC w' (some ⟨R,0,none⟩) (bB L [] n)/\db w w':=by
 have ad:=fun V=>PG (P:=Tryz.prog) 23 27 (.slice none 0 0) 24 Tryz.underlying23 Tryz.infoInts1 rfl .i64 .i64 L.length al al V;have Z:=hid h;have Px:=hid E;have vQ:Hid (∀(v:Nat) (f:v<L.length) (d:Kd) (c:Nat) (U:World),db w U ->aC U d L[v] ->da 79 #[.slice d L[v].length c,.slice b n.length cb] U fun e w'=>∃(d:Kd) (K:Nat),e=.returned (.slice d (oF L[v] n).length K)/\aC w' d (oF L[v] n)/\((d=none ->K=0)/\∀g o,d=some ⟨g,o,none⟩ ->U.heap.size<=g)/\db U w'):=fun v f d c U hU u=>VN d b c cb L[v] n U u (E.aa hU) (by have:=x _ (bP f);omega) al;have tz:Hid (∀(v:Nat) (f:v<L.length),((List.range L.length).map fun k=>if k<v then rU L [] n k else[]).set v (oF L[v] n)=(List.range L.length).map fun k=>if k<v+1 then rU L [] n k else[]):=fun v f=>aqE f;clear h E x
 have J:Hid (iu (w.alloc (.cells (madeCells #[.slice none 0 0] L.length) 27)) w.heap.size (List.replicate L.length (.slice none 0 0))):=by
  have e2:madeCells #[Value.slice none 0 0] L.length=(List.replicate L.length (Value.slice none 0 0)).toArray:=by
   have:=Rf L.length;rw[qA] at this;rw[<- this];rfl
  show _=_;rw[eM,e2]
 have Q:Hid (qW (w.alloc (.cells (madeCells #[.slice none 0 0] L.length) 27)) w.heap.size (List.replicate L.length (.slice none 0 0)) ((List.range L.length).map fun k=>if k<0 then rU L [] n k else[])):=⟨aE,fun k F=>⟨none,0,by
  have ic:k<L.length:=by simpa using F
  simp[ic],(fun j hj=>absurd hj aE),fun g o e=>by cases e⟩⟩
 have O:=hid ((au w.heap.size w).alloc (ah _) (.cells (madeCells #[.slice none 0 0] L.length) 27));go_enter Tryz.func76,Tryz.ntmps76;go_wp2_with fail
 generalize w.alloc (.cells (madeCells #[.slice none 0 0] L.length) 27)=W0 at *;clear ad;go_loopw [13] (fun iv wr=>∃(v:Nat) (vs:List Value),v<=L.length/\iv=.int .i64 v/\Hid (iu wr w.heap.size vs)/\Hid (qW wr w.heap.size vs ((List.range L.length).map fun k=>if k<v then rU L [] n k else[]))/\Hid (db w wr)) (fun iv _=>L.length - (intOf iv).toNat)
 case atStart=>exact⟨0,_,aU _,rfl,J,Q,O⟩
 case round=>
  obtain⟨v,vs,f,rfl,m,D,H⟩:=hrel;clear J Q O;by_cases z:v<L.length
  ·obtain⟨g,o,d,c,rfl,hg,M,u⟩:=Z.o v z;have kc:wr.cell? ⟨g,o+v,none⟩=some (.slice d L[v].length c):=(H.o.cell (p:=⟨g,_,none⟩) hg).trans M;have ab:=hid (vQ.o v z d c wr H.o (u.aa H.o));have X:=hid (tz.o v z);have I:=m.o.lt;generalize oF L[v] n=t at *;generalize L[v].length=lv at *;clear M u;go_wp2_with fail
   refine ab.o.af ?_;rintro e s ⟨r,q,rfl,Y,⟨_,S⟩,i⟩;have ae:=(m.o.aa i I).fz v;(have dr:Hid (iu s w.heap.size (vs++[])):=by rw[kQ];exact m.o.aa i I);have A:Hid (qW (s.setCell ⟨w.heap.size,v,none⟩ (.slice r t.length q)) w.heap.size (vs.set v (.slice r t.length q)) (((List.range L.length).map fun k=>if k<v then rU L [] n k else[]).set v t)/\iu (s.setCell ⟨w.heap.size,v,none⟩ (.slice r t.length q)) w.heap.size (vs.set v (.slice r t.length q)++[])):=(D.o.aa i).put dr.o (by simpa using z) Y (fun g' o' e' ai=>by have:=S g' o' e';omega);have aS:=hid (H.o.trans (i.af H.o.size));have T:Hid (db w (s.setCell ⟨w.heap.size,v,none⟩ (.slice r t.length q))):=aS.o.setCell (p:=⟨w.heap.size,v,none⟩) (ah _) _
   obtain⟨y,ky⟩:∃y,s.cell? ⟨w.heap.size,v,none⟩=some y:=by
    have x:=D.o.1;rw[cH,yU] at x;exact⟨_,(m.o.aa i I).cell v al⟩
   rw[kQ] at A;generalize t.length=ak at *;clear Y i kc S;go_wp2;go_roundw
   case rel=>exact⟨v+1,_,al,b5,A.o.2,by rw[<- X.o];exact A.o.1,T⟩
   case measure=>simp[intOf];omega
  ·obtain rfl:v=L.length:=al
   have HL:Hid (dC wr (some ⟨w.heap.size,0,none⟩) (bB L [] n)):=by
    (have h1:iu wr w.heap.size (vs++[]):=by rw[kQ];exact m.o);have:=D.o.lists h1
    have e:((List.range L.length).map fun k=>if k<L.length then rU L [] n k else[])=bB L [] n:=by
     rw[bB];exact wu fun k F=>aw (bM.1 F)
    rwa [e] at this
   go_wp2;go_ret;exact⟨_,_,rfl,HL.o,H.o⟩
variable {A m:Nat} {q:Rat}
theorem N7 (h:Fits m q) (a:m<=n):Fits n q:=by
 obtain⟨A,D,b,c,d,e⟩:=h;exact⟨A,D,b,c,aO d (JT a),aO e (JT a)⟩
theorem afG (f g:Fr):great f g=f∨great f g=g:=by
 rw[great];by_cases h:kH (ba f) (ba g)<0
 ·rw[aw h];exact .inr rfl
 ·rw[aA h];exact .inl rfl
theorem acr (q:Rat):(qF q).2.1.size+(qF q).2.2.size=qw q:=rfl
theorem ac6 (m:Bool) (T:Nat ->Fr):∀k,(∀x,x<=k ->(T x).2.1.size+(T x).2.2.size+2<=8192) ->Fits ((k+1)*8192) (ba (mr m T k))
 |0,h=>N7 (Y7 _ _ _) (by have:=h 0 (ah _);show (T 0).2.1.size+(T 0).2.2.size+1<=_;omega)
 |k+1,h=>by
  have a:=ac6 m T k fun x c=>h x al;have b:Fits 8191 (ba (T (k+1))):=N7 (Y7 _ _ _) (by have:=h (k+1) (ah _);omega);rw[mr];cases m with
  |true=>
   rw[aw rfl];rcases afG (mr true T k) (T (k+1)) with e |e
   ·rw[e];exact N7 a al
   ·rw[e];exact N7 b al
  |false=>
   rw[aA bd,nP];exact N7 (af2 a b) al
theorem alA (k:Nat):2*((k+1)*8192)<=2*((k+1+1)*8192):=al
theorem alz (k:Nat):8192<=2*((k+1+1)*8192):=al
theorem apd {f g:Fr} (h1:f.2.1.size+f.2.2.size<=A) (h:g.2.1.size+g.2.2.size<=A):(great f g).2.1.size+(great f g).2.2.size<=A:=by
 rcases afG f g with e |e
 ·rw[e];exact h1
 ·rw[e];exact h
theorem VL (m:Bool) (T:Nat ->Fr):∀k,(∀x,x<=k ->(T x).2.1.size+(T x).2.2.size+2<=8192) ->(mr m T k).2.1.size+(mr m T k).2.2.size<=2*((k+1)*8192)
 |0,h=>by have:=h 0 (ah _);rw[mr];omega
 |k+1,h=>by
  have b:=VL m T k fun x e=>h x al;have c:=h (k+1) (ah _);have a:=ac6 m T (k+1) h;rw[mr] at a⊢;cases m with
  |true=>
   rw[aw rfl];exact apd (aL b (alA k)) (aL (aL (LQ _ 2) c) (alz k))
  |false=>
   rw[aA bd] at a⊢;rw[nP] at a;have d:=SM a;rw[acr];exact d
def ZW (most:Bool) (pf:Nat):Prop:=(∀args w,(callFunc pf args).run Tryz.prog w=.ok (.enter pf args) w)/\∀(f g:Fr) (V:World),f.2.1.size+f.2.2.size<=100000 ->g.2.1.size+g.2.2.size<=100000 ->da pf #[kE f,kE g] V fun e w'=>e=.returned (kE (if most then great f g else qF (ba f+ba g)))/\db V w'
theorem ali:ZW false 160:=⟨enters_of Tryz.func160 ao rfl,fun f g V h a=>ap8 (n:=f.1) (m:=g.1) (x:=f.2.1) (y:=f.2.2) (u:=g.2.1) (v:=g.2.2) (w:=V) (ba f+ba g) rfl rfl rfl h a⟩
theorem alj:ZW true 217:=⟨enters_of Tryz.func217 ao rfl,fun f g V h a=>apc f g V h a⟩
theorem ac8 (m:Bool) (s:Nat) (X:ZW m s) (z D E t j:Nat) (a c:Kd) (ca cc:Nat) (sizes:Kh) (lb:Array Value) (l:List Fr) (k v n:Nat) (P:Nat ->Nat) (L:∀x,x< n ->P x<l.length) (ia:1<=n) (Fc:n<=4) (dI:v<sizes.length) (BA:sizes[v]=(n:Int)) (w:World)
  (ad:z<w.heap.size) (xh:w.cell? ⟨z,0,none⟩=some (.func (.func s) #[] #[])) (zU:D<w.heap.size) (xs:w.cell? ⟨D,0,none⟩=some (.slice a sizes.length ca)) (KJ:E<w.heap.size) (xv:w.cell? ⟨E,0,none⟩=some (.int .i64 (v:Nat))) (wW:t<w.heap.size) (xc:w.cell? ⟨t,1,none⟩=some (.slice c l.length cc)) (M:j<w.heap.size) (xf:w.cell? ⟨j,0,none⟩=some (.func (.func 219) #[] lb)) (hs:aC w a sizes) (hf:cE w c l) (h1:Cw 8192 l)
  (Y:∀x,x< n ->∀V,db w V ->da 219 (#[.int .i64 (k:Nat),.int .i64 (x:Nat)]++lb) V fun e w'=>e=.returned (.int .i64 (P x:Nat))/\db V w'):
  da 168 #[.int .i64 (k:Nat),.pointer (some ⟨z,0,none⟩),.pointer (some ⟨D,0,none⟩),.pointer (some ⟨E,0,none⟩),.pointer (some ⟨t,0,none⟩),.pointer (some ⟨j,0,none⟩)] w (du w (kE (qF (ba (mr m (fun x=>cT l (P x)) (n - 1)))))):=by
 obtain⟨g,o,rfl,hg,J⟩:=hs v dI;rw[BA] at J;have Z:∀x,x< n ->(cT l (P x)).2.1.size+(cT l (P x)).2.2.size+2<=8192:=fun x q=>h1 _ (L x q);have E0:=VL m (fun x=>cT l (P x)) (n - 1) fun x q=>Z x al
 have T:∀W,db w W ->∀A,A<W.heap.size ->W.cell? ⟨A,0,none⟩=some (.int .i64 (k:Nat)) ->da 169 #[.agg #[.func (.func s) #[] #[]],.int .i64 (n:Nat),.func (.func 170) #[] #[.pointer (some ⟨t,0,none⟩),.pointer (some ⟨j,0,none⟩),.pointer (some ⟨A,0,none⟩)]] W (du W (kE (mr m (fun x=>cT l (P x)) (n - 1)))):=by
  intro W U A R xk;refine anI s 170 #[] _ X.1 (enters_of Tryz.func170 ao rfl) n (fun x=>cT l (P x)) (mr m (fun x=>cT l (P x))) W ia al ?_ ?_ rfl
  ·intro x q V d;have b:=U.trans (d.af U.size);exact alH t j A c cc lb l k x (P x) (L x q) V (aO wW b.size) ((b.cell (p:=⟨t,1,none⟩) wW).trans xc) (aO M b.size) ((b.cell (p:=⟨j,0,none⟩) M).trans xf) (aO R d.size) ((d.cell (p:=⟨A,0,none⟩) R).trans xk) (hf.aa b) fun V' ae=>Y x q V' (b.trans (ae.af b.size))
  ·intro x q V d;have e1:=VL m (fun x=>cT l (P x)) x fun y hy=>Z y al;have e2:=Z (x+1) q;exact X.2 _ _ V al (by show (cT l (P (x+1))).2.1.size+(cT l (P (x+1))).2.2.size<=_;omega)
 have Q:=hid T;have O:=hid (fun V:World=>Ub (w:=V) (ba (mr m (fun x=>cT l (P x)) (n - 1))) rfl (show (mr m (fun x=>cT l (P x)) (n - 1)).2.1.size+(mr m (fun x=>cT l (P x)) (n - 1)).2.2.size<=100000 by omega));rw[SG];generalize ba (mr m (fun x=>cT l (P x)) (n - 1))=r at *;generalize mr m (fun x=>cT l (P x)) (n - 1)=f at *;clear T E0 Z Y hf hs L X xc xf;obtain⟨fn,fx,fy⟩:=f;simp only at O Q;have aj:(0:Int)<=(v:Int):=al
 have oM:(v:Int)<(sizes.length:Int):=al
 have i:aJ ((w.alloc (.cells #[.int .i64 (k:Nat)] 3)).alloc (FC false ⟨#[]⟩ ⟨#[]⟩)) (w.heap.size+1) false ⟨#[]⟩ ⟨#[]⟩:=aJ.at aE _ _ _;have I:Boxed ((w.alloc (.cells #[.int .i64 (k:Nat)] 3)).alloc (FC false ⟨#[]⟩ ⟨#[]⟩)) w.heap.size 3 (.int .i64 (k:Nat)):=(bt w _ _).alloc _;have b:db w ((w.alloc (.cells #[.int .i64 (k:Nat)] 3)).alloc (FC false ⟨#[]⟩ ⟨#[]⟩)):=((au _ w).alloc (ah _) _).alloc aE _;go_enter Tryz.func168,Tryz.ntmps168;go_upto_region 1 with fail
 generalize ((w.alloc (.cells #[.int .i64 (k:Nat)] 3)).alloc (FC false ⟨#[]⟩ ⟨#[]⟩))=W at *;replace i:=i.drew;replace b:=b.drew;replace I:Boxed W.drew w.heap.size 3 (.int .i64 (k:Nat)):=I;have ab:∀u,db w u ->u.cell? ⟨z,0,none⟩=some (.func (.func s) #[] #[])/\u.cell? ⟨D,0,none⟩=some (.slice (some ⟨g,o,none⟩) sizes.length ca)/\u.cell? ⟨E,0,none⟩=some (.int .i64 (v:Nat))/\u.cell? ⟨g,o+v,none⟩=some (.int .i64 (n:Nat)):=fun u h=>⟨(h.cell (p:=⟨z,0,none⟩) ad).trans xh,(h.cell (p:=⟨D,0,none⟩) zU).trans xs,(h.cell (p:=⟨E,0,none⟩) KJ).trans xv,(h.cell (p:=⟨g,_,none⟩) hg).trans J⟩;have HELD:=hid ab;clear ab xh xs xv J;refine jZ (S:=fun u=>u.cell? ⟨z,0,none⟩=some (.func (.func s) #[] #[])/\u.cell? ⟨D,0,none⟩=some (.slice (some ⟨g,o,none⟩) sizes.length ca)/\u.cell? ⟨E,0,none⟩=some (.int .i64 (v:Nat))/\u.cell? ⟨g,o+v,none⟩=some (.int .i64 (n:Nat))) ao (HELD.o _ b) (fun H=>?_);generalize W.drew=u0 at *;refine az 0 (.agg #[.func (.func s) #[] #[]]) ?_;refine az 1 (.slice (some ⟨g,o,none⟩) sizes.length ca) ?_;refine az 2 (.int .i64 (v:Nat)) ?_;refine az 3 (.pointer (some ⟨g,o+v,none⟩)) ?_;refine az 4 (.int .i64 (n:Nat)) ?_;refine az 5 (.func (.func 170) #[] #[.pointer (some ⟨t,0,none⟩),.pointer (some ⟨j,0,none⟩),.pointer (some ⟨w.heap.size,0,none⟩)]) ?_;refine aG [6] (cA ?_ aI);intro F K;go_simp;refine(Q.o _ b _ I.lt I.cell).af ?_;rintro e u1 ⟨rfl,d⟩;replace i:=i.aa d i.lt;clear I
 replace b:=b.trans (d.af b.size);clear H;refine K.o _ _ (HELD.o _ b) (fun H=>?_);clear K F d;refine aG [7] (cA ?_ aI);intro F K;go_simp;refine(O.o _).af ?_;rintro e u2 ⟨rfl,d⟩;replace i:=i.aa d i.lt;replace b:=b.trans (d.af b.size);clear H;refine K.o _ _ (HELD.o _ b) (fun H=>?_);clear K F d;try simp only[gE,aP]
 obtain⟨k0,k1,k2,f0,f1,f2⟩:=i.facts;refine aG [8] (cA ?_ aI);intro F K;go_simp;have ai:=i.put (bK r) (nu r) (de r);have vo:=fL b (g:=w.heap.size+1) al (.bool (bK r)) (.string (nu r)) (.string (de r));generalize (((u2.setCell ⟨w.heap.size+1,0,none⟩ (.bool (bK r))).setCell ⟨w.heap.size+1,1,none⟩ (.string (nu r))).setCell ⟨w.heap.size+1,2,none⟩ (.string (de r)))=v9 at *;refine K.o _ _ (HELD.o _ vo) (fun _=>gj ao ?_ _);clear K F H;go_wp2;refine cP (ai.result rfl _ rfl) rfl ?_;exact⟨rfl,vo⟩
variable {x:Value} {V':World}
def OH (w V:World) (s u v x:Value):Prop:=Boxed V w.heap.size 27 s/\NR w V (w.heap.size+1) (w.heap.size+1+1+1) u v/\Boxed V (w.heap.size+1+1) 3 x
theorem OH.step {V:World} {s u v:Value} (h:OH w V s u v x) (b:db V V'):OH w V' s u v x:=⟨bc h.1 b,h.2.1.step b,bc h.2.2 b⟩
theorem OH.new (w:World) (s u v x:Value):OH w ((((w.alloc (.cells #[s] 27)).alloc (TC u v)).alloc (.cells #[x] 3)).alloc (TC (.slice none 0 0) (.slice none 0 0))) s u v x:=by
 have a:Boxed (((w.alloc (.cells #[s] 27)).alloc (TC u v)).alloc (.cells #[x] 3)) (w.heap.size+1+1) 3 x:=by
  have h:=bt ((w.alloc (.cells #[s] 27)).alloc (TC u v)) 3 x;rwa [eH,eH] at h
 exact⟨(((bt w _ _).alloc _).alloc _).alloc _,⟨((bw.at aE _ _).alloc _).alloc _,bw.at aE _ _,((((au _ w).alloc (ah _) _).alloc aE _).alloc (by simp;omega) _).alloc (by simp;omega) _⟩,a.alloc _⟩
theorem OH.off {V:World} {s u v:Value} (h:OH w V s u v x) (B j:Nat) (y:Value) (a:w.heap.size+1+1+1<B):OH w (V.setCell ⟨B,j,none⟩ y) s u v x:=⟨iN h.1 B j y al,h.2.1.off B j y al al al,iN h.2.2 B j y al⟩
theorem OH.top {V:World} {s u v:Value} (h:OH w V s u v x):w.heap.size+1+1+1<V.heap.size:=h.2.1.2.1.lt
theorem VM (S vars rest:Ki) (v:Nat) (m:Bool) (l:List Fr):(sN S vars rest v m l).length=cnt S rest:=by simp[sN]
theorem ac7 (S vars rest:Ki) (v:Nat) (m:Bool) (l:List Fr) (h:k<(sN S vars rest v m l).length):(sN S vars rest v m l)[k]=qF (ba (mr m (fun x=>cT l (pos S (aM (bA S rest k) v x) vars)) (sz S v - 1))):=by simp[sN]
theorem aiK (a b c:Kd) (ca cb cc:Nat) (sizes vars:Kh) (l:List Fr) (v:Nat) (w:World) (hs:aC w a sizes) (hv:aC w b vars) (hf:cE w c l) (hn:sizes.length<=140737488355328) (hm:vars.length<=140737488355328) (q:kI sizes vars l.length=0) (hw:Cw 8192 l) (ak:vars.contains (v:Int)=true) (I:v<sizes.length):
  da 107 #[.slice a sizes.length ca,.agg #[.slice b vars.length cb,.slice c l.length cc],.int .i64 (v:Nat),.bool false] w fun e w'=>xg w.heap.size (cI vars (v:Int)) (sN (ag sizes) (ag vars) (ag (cI vars (v:Int))) v false l) 0 e w'/\db w w':=by
 obtain⟨Q,T,an⟩:=Dr q;have R:=hid (fun V h=>Mn b cb vars (v:Int) V h hm);rw[ak] at R;have O:=fun V E L=>GU a b c ca cb cc l.length sizes vars V E L hn hm;rw[q] at O;have HC:=hid O;clear O;have ax:(cI vars (v:Int)).length<=vars.length:=od _ _;have WV:=T.length;have sU:=Q.eight;have Z:=hid Q;have ll:=hid T;have X:=hid (wJ T (v:Int));have I0:=hid (Rj (v:=v) T);have jC:=hid (fun K (hK:K<cnt (ag sizes) (ag (cI vars (v:Int)))) x (A:x<sz (ag sizes) v)=>UJ q hK A);have kf:=VM (ag sizes) (ag vars) (ag (cI vars (v:Int))) v false l;have AA:=hid (fun (k:Nat) (h:k<(sN (ag sizes) (ag vars) (ag (cI vars (v:Int))) v false l).length)=>ac7 (ag sizes) (ag vars) (ag (cI vars (v:Int))) v false l h);have kK:=hid (fun V h=>UI b cb vars (v:Int) V h al);generalize sN (ag sizes) (ag vars) (ag (cI vars (v:Int))) v false l=F at *;generalize cI vars (v:Int)=rest at *;have ab:=hid (fun V d r E L=>Va a d b ca r cb sizes rest vars v V E L Q T I);have HF:=hid hf;have HW:=hid hw;have jg:=hid kf;have HN:=hid (Q.sz_eq I);have xA:=hid (Q.sz_le v);have Gc:=hid (jE Q.pos v);have uo:=hid I;clear ak q Q T an hf hw kf;have S:=hid hs;have y:=hid hv;have H:=OH.new w (.slice a sizes.length ca) (.slice b vars.length cb) (.slice c l.length cc) (.int .i64 (v:Nat));have n:=H.2.1.1.c0;have c1:=H.2.1.1.c1;have s:=H.1.cell;go_enter Tryz.func107,Tryz.ntmps107;go_wp2_with fail
 generalize ((((w.alloc (.cells #[.slice a sizes.length ca] 27)).alloc (TC (.slice b vars.length cb) (.slice c l.length cc))).alloc (.cells #[.int .i64 (v:Nat)] 3)).alloc (TC (.slice none 0 0) (.slice none 0 0)))=W at *;refine(HC.o _ (S.o.aa H.2.1.2.2) (y.o.aa H.2.1.2.2)).af ?_;rintro e w1 ⟨rfl,ae⟩;replace H:=H.step ae;clear n c1 s ae;have n:=H.2.1.1.c0;have cx:=H.2.2.cell;go_wp2_with fail
 refine(R.o _ (y.o.aa H.2.1.2.2)).af ?_;rintro e w2 ⟨rfl,u⟩;replace H:=H.step u;clear n cx u R;go_wp2_with fail
 refine(abl _).af ?_;rintro e j ⟨rfl,ai⟩;replace H:=H.step ai;clear ai;have aj:db j (j.alloc (.cells #[.func (.func 160) #[] #[]] 190)):=(au _ j).alloc (ah _) _;have J:Boxed (j.alloc (.cells #[.func (.func 160) #[] #[]] 190)) j.heap.size 190 (.func (.func 160) #[] #[]):=bt j _ _;have cS:=H.top;replace H:=H.step aj;clear aj;have n:=H.2.1.1.c0;have cx:=H.2.2.cell;go_wp2_with fail
 clear n cx;generalize (j.alloc (.cells #[.func (.func 160) #[] #[]] 190))=w5 at *;generalize j.heap.size=U at *;refine(kK.o _ (y.o.aa H.2.1.2.2)).af ?_;rintro e w6 ⟨d,r,rfl,i,tZ,M⟩;have Ea:=hid (tZ.up H.2.1.2.2.size);clear tZ;replace H:=H.step M;replace J:=bc J M;clear M kK;have n:=H.2.1.1.c0;have cx:=H.2.2.cell;have s:=H.1.cell;go_wp2_with fail
 refine(ab.o _ d r (S.o.aa H.2.1.2.2) (y.o.aa H.2.1.2.2)).af ?_;rintro e m ⟨f,rfl,D,P⟩;replace H:=H.step P;replace J:=bc J P;replace i:=i.aa P;obtain⟨lb,rfl⟩:=D.shape;clear n cx s P ab;generalize w6.heap.size=n3 at *;have t:db m (m.alloc (.cells #[.func (.func 219) #[] lb] 49)):=(au _ m).alloc (ah _) _;have hY:Boxed (m.alloc (.cells #[.func (.func 219) #[] lb] 49)) m.heap.size 49 (.func (.func 219) #[] lb):=bt m _ _;replace H:=H.step t;replace J:=bc J t;replace D:=D.aa t;replace i:=i.aa t;have s:=H.1.cell;go_wp2_with fail
 clear t s;generalize (m.alloc (.cells #[.func (.func 219) #[] lb] 49))=w8 at *;generalize m.heap.size=Y at *
 have uY:=N9 a d ca r sizes rest 168 #[.pointer (some ⟨U,0,none⟩),.pointer (some ⟨w.heap.size,0,none⟩),.pointer (some ⟨w.heap.size+1+1,0,none⟩),.pointer (some ⟨w.heap.size+1,0,none⟩),.pointer (some ⟨Y,0,none⟩)] (enters_of Tryz.func168 ao rfl) F w8 (S.o.aa H.2.1.2.2) i Z.o X.o jg.o (fun k q V g=>by
  rw[AA.o k q];have ic:k<cnt (ag sizes) (ag rest):=by rw[<- jg.o];exact q
  have z:=H.2.1.2.2.trans (g.af H.2.1.2.2.size);refine ac8 false 160 ali U w.heap.size (w.heap.size+1+1) (w.heap.size+1) Y a c ca cc sizes lb l k v (sz (ag sizes) v) (fun x=>pos (ag sizes) (aM (bA (ag sizes) (ag rest) k) v x) (ag vars)) (fun x A=>jC.o k ic x A) Gc.o xA.o uo.o HN.o.symm V (aO J.lt g.size) (bc J g).cell (aO H.1.lt g.size) (bc H.1 g).cell (aO H.2.2.lt g.size) (bc H.2.2 g).cell (aO H.2.1.1.lt g.size) ((g.cell (p:=⟨w.heap.size+1,1,none⟩) H.2.1.1.lt).trans H.2.1.1.c1) (aO hY.lt g.size) (bc hY g).cell (S.o.aa z) (HF.o.aa z) HW.o ?_;intro x A V' ad;have u:=g.trans (ad.af g.size);have h4:=xA.o;exact((D.aa u).calls (S.o.aa (z.trans (ad.af z.size))) (i.aa u) Z.o X.o ll.o I0.o ic al))
 have D8:=hid uY;clear uY;refine D8.o.af ?_;rintro e w9 ⟨G,rfl,hG,aq,zN⟩;have av:=H.top;replace H:=H.step zN;replace i:=i.aa zN;obtain⟨k0,k1,f0,f1⟩:=H.2.1.2.1.facts;obtain⟨e1,e2,e3⟩:=H.2.1.fin al (cb:=r) (cc:=F.length) Ea.o al i aq al (.slice d rest.length r) (.slice (some ⟨G,0,none⟩) F.length F.length) rfl rfl;go_wp2;refine cP (e1.result2 rfl _ rfl) rfl ?_;exact⟨e2,e3⟩
theorem aiL (a b c:Kd) (ca cb cc:Nat) (sizes vars:Kh) (l:List Fr) (v:Nat) (w:World) (hs:aC w a sizes) (hv:aC w b vars) (hf:cE w c l) (hn:sizes.length<=140737488355328) (hm:vars.length<=140737488355328) (q:kI sizes vars l.length=0) (hw:Cw 8192 l) (aj:vars.contains (v:Int)=true) (L:v<sizes.length):
  da 107 #[.slice a sizes.length ca,.agg #[.slice b vars.length cb,.slice c l.length cc],.int .i64 (v:Nat),.bool true] w fun e w'=>xg w.heap.size (cI vars (v:Int)) (sN (ag sizes) (ag vars) (ag (cI vars (v:Int))) v true l) 0 e w'/\db w w':=by
 obtain⟨Q,T,ak⟩:=Dr q;have X:=hid (fun V h=>Mn b cb vars (v:Int) V h hm);rw[aj] at X;have U:=fun V M O=>GU a b c ca cb cc l.length sizes vars V M O hn hm;rw[q] at U;have HC:=hid U;clear U;have av:(cI vars (v:Int)).length<=vars.length:=od _ _;have WV:=T.length;have sU:=Q.eight;have dt:=hid Q;have ll:=hid T;have Y:=hid (wJ T (v:Int));have I0:=hid (Rj (v:=v) T);have jC:=hid (fun K (hK:K<cnt (ag sizes) (ag (cI vars (v:Int)))) x (E:x<sz (ag sizes) v)=>UJ q hK E);have kf:=VM (ag sizes) (ag vars) (ag (cI vars (v:Int))) v true l;have AA:=hid (fun (k:Nat) (h:k<(sN (ag sizes) (ag vars) (ag (cI vars (v:Int))) v true l).length)=>ac7 (ag sizes) (ag vars) (ag (cI vars (v:Int))) v true l h);have kK:=hid (fun V h=>UI b cb vars (v:Int) V h al);generalize sN (ag sizes) (ag vars) (ag (cI vars (v:Int))) v true l=F at *;generalize cI vars (v:Int)=rest at *;have ab:=hid (fun V d r M O=>Va a d b ca r cb sizes rest vars v V M O Q T L);have HF:=hid hf;have HW:=hid hw;have jg:=hid kf;have HN:=hid (Q.sz_eq L);have xA:=hid (Q.sz_le v);have Gc:=hid (jE Q.pos v);have uo:=hid L;clear aj q Q T ak hf hw kf;have S:=hid hs;have A:=hid hv;have H:=OH.new w (.slice a sizes.length ca) (.slice b vars.length cb) (.slice c l.length cc) (.int .i64 (v:Nat));have n:=H.2.1.1.c0;have c1:=H.2.1.1.c1;have t:=H.1.cell;go_enter Tryz.func107,Tryz.ntmps107;go_wp2_with fail
 generalize ((((w.alloc (.cells #[.slice a sizes.length ca] 27)).alloc (TC (.slice b vars.length cb) (.slice c l.length cc))).alloc (.cells #[.int .i64 (v:Nat)] 3)).alloc (TC (.slice none 0 0) (.slice none 0 0)))=W at *;refine(HC.o _ (S.o.aa H.2.1.2.2) (A.o.aa H.2.1.2.2)).af ?_;rintro e w1 ⟨rfl,ae⟩;replace H:=H.step ae;clear n c1 t ae;have n:=H.2.1.1.c0;have cx:=H.2.2.cell;go_wp2_with fail
 refine(X.o _ (A.o.aa H.2.1.2.2)).af ?_;rintro e w2 ⟨rfl,y⟩;replace H:=H.step y;clear n cx y X;go_wp2_with fail
 refine(abl _).af ?_;rintro e j ⟨rfl,ai⟩;replace H:=H.step ai;clear ai;have s:db j (j.alloc (.cells #[.func (.func 160) #[] #[]] 190)):=(au _ j).alloc (ah _) _;have J:Boxed (j.alloc (.cells #[.func (.func 160) #[] #[]] 190)) j.heap.size 190 (.func (.func 160) #[] #[]):=bt j _ _;have cS:=H.top;replace H:=H.step s;clear s;go_wp2_with fail
 generalize (j.alloc (.cells #[.func (.func 160) #[] #[]] 190))=ax at *;generalize j.heap.size=z at *;refine(apb _).af ?_;rintro e w4 ⟨rfl,s⟩;replace H:=H.step s;replace J:=bc J s;clear s;have j0:=J.cell;have j1:=J.frozen;replace H:=H.off z 0 (.func (.func 217) #[] #[]) cS;have n:=H.2.1.1.c0;have cx:=H.2.2.cell;replace J:=J.set (.func (.func 217) #[] #[]);go_wp2_with fail
 clear j0 j1 n cx;generalize (w4.setCell ⟨z,0,none⟩ (.func (.func 217) #[] #[]))=w5 at *;refine(kK.o _ (A.o.aa H.2.1.2.2)).af ?_;rintro e w6 ⟨d,r,rfl,i,tZ,R⟩;have Ea:=hid (tZ.up H.2.1.2.2.size);clear tZ;replace H:=H.step R;replace J:=bc J R;clear R kK;have n:=H.2.1.1.c0;have cx:=H.2.2.cell;have t:=H.1.cell;go_wp2_with fail
 refine(ab.o _ d r (S.o.aa H.2.1.2.2) (A.o.aa H.2.1.2.2)).af ?_;rintro e m ⟨f,rfl,I,P⟩;replace H:=H.step P;replace J:=bc J P;replace i:=i.aa P;obtain⟨lb,rfl⟩:=I.shape;clear n cx t P ab;generalize w6.heap.size=n3 at *;have u:db m (m.alloc (.cells #[.func (.func 219) #[] lb] 49)):=(au _ m).alloc (ah _) _;have hY:Boxed (m.alloc (.cells #[.func (.func 219) #[] lb] 49)) m.heap.size 49 (.func (.func 219) #[] lb):=bt m _ _;replace H:=H.step u;replace J:=bc J u;replace I:=I.aa u;replace i:=i.aa u;have t:=H.1.cell;go_wp2_with fail
 clear u t;generalize (m.alloc (.cells #[.func (.func 219) #[] lb] 49))=w8 at *;generalize m.heap.size=Z at *
 have uY:=N9 a d ca r sizes rest 168 #[.pointer (some ⟨z,0,none⟩),.pointer (some ⟨w.heap.size,0,none⟩),.pointer (some ⟨w.heap.size+1+1,0,none⟩),.pointer (some ⟨w.heap.size+1,0,none⟩),.pointer (some ⟨Z,0,none⟩)] (enters_of Tryz.func168 ao rfl) F w8 (S.o.aa H.2.1.2.2) i dt.o Y.o jg.o (fun k q V g=>by
  rw[AA.o k q];have ic:k<cnt (ag sizes) (ag rest):=by rw[<- jg.o];exact q
  have D:=H.2.1.2.2.trans (g.af H.2.1.2.2.size);refine ac8 true 217 alj z w.heap.size (w.heap.size+1+1) (w.heap.size+1) Z a c ca cc sizes lb l k v (sz (ag sizes) v) (fun x=>pos (ag sizes) (aM (bA (ag sizes) (ag rest) k) v x) (ag vars)) (fun x E=>jC.o k ic x E) Gc.o xA.o uo.o HN.o.symm V (aO J.lt g.size) (bc J g).cell (aO H.1.lt g.size) (bc H.1 g).cell (aO H.2.2.lt g.size) (bc H.2.2 g).cell (aO H.2.1.1.lt g.size) ((g.cell (p:=⟨w.heap.size+1,1,none⟩) H.2.1.1.lt).trans H.2.1.1.c1) (aO hY.lt g.size) (bc hY g).cell (S.o.aa D) (HF.o.aa D) HW.o ?_;intro x E V' ad;have y:=g.trans (ad.af g.size);have h4:=xA.o;exact((I.aa y).calls (S.o.aa (D.trans (ad.af D.size))) (i.aa y) dt.o Y.o ll.o I0.o ic al))
 have D8:=hid uY;clear uY;refine D8.o.af ?_;rintro e w9 ⟨G,rfl,hG,an,zN⟩;have aq:=H.top;replace H:=H.step zN;replace i:=i.aa zN;obtain⟨k0,k1,f0,f1⟩:=H.2.1.2.1.facts;obtain⟨e1,e2,e3⟩:=H.2.1.fin al (cb:=r) (cc:=F.length) Ea.o al i an al (.slice d rest.length r) (.slice (some ⟨G,0,none⟩) F.length F.length) rfl rfl;go_wp2;refine cP (e1.result2 rfl _ rfl) rfl ?_;exact⟨e2,e3⟩
open Go.Sort Go.Lib
theorem aiF (a b:Kd) (ca cb:Nat) (la lb:Kh) (w:World) (F:aC w a la) (I:aC w b lb) (P:a=none ->ca=0) (Q:b=none ->cb=0) (k8:la.length<=1000) (kd:lb.length<=1000):
  da 161 #[.slice a la.length ca,.slice b lb.length cb] w fun e w'=>∃(d:Kd) (E:Nat),e=.returned (.slice d (ei la lb).length E)/\aC w' d (ei la lb)/\iR w.heap.size d E/\db w w':=by
 obtain⟨L,p⟩:∃L,L=ei la lb:=⟨_,rfl⟩;rw[<- p];have H:=hid p;have h:db w (w.alloc (.cells #[.slice a la.length ca,.slice b lb.length cb] 27)):=(au _ w).alloc (ah _) _;have D:(w.alloc (.cells #[.slice a la.length ca,.slice b lb.length cb] 27)).heap[w.heap.size]? =some (.cells #[.slice a la.length ca,.slice b lb.length cb] 27 (0,0)):=eM _ _;have Y:=hid (abM w.heap.size a b ca cb la lb (w.alloc (.cells #[.slice a la.length ca,.slice b lb.length cb] 27)) aE (by rw[bh _ _ _ _ _ (0,0) D];rfl) (by rw[bh _ _ _ _ _ (0,0) D];rfl) (F.aa h) (I.aa h) P Q k8 kd);clear p F I P Q D;go_enter Tryz.func161,Tryz.ntmps161;go_wp2_with fail
 generalize (w.alloc (.cells #[.slice a la.length ca,.slice b lb.length cb] 27))=W at *;refine Y.o.af ?_;rintro e f ⟨v,rfl,J,R⟩;have A:=h.trans (R.af h.size);have ao:=h.size;rcases J.cases with ⟨rfl,U⟩ |⟨g,cap,rfl,an,r,ak,ai,t⟩
 ·have V:L=[]:=by
   have l:la=[]:=(Uv.1 U).1;have m:lb=[]:=(Uv.1 U).2;rw[H.o,l,m,aa9]
  subst V;go_wp2_with fail
  refine(Tryz.slices_Sort_int_none none 0 _).af ?_;rintro e i ⟨rfl,rfl⟩;go_wp2_with fail
  refine(Tryz.slices_Compact_int_empty none 0 _).af ?_;rintro e w3 ⟨rfl,rfl⟩;go_wp2;go_ret;exact⟨none,0,rfl,fun k hk=>absurd hk aE,iR.nil _,A⟩
 ·have dQ:(la++lb).length<=2000:=by rw[bU];omega
  have K:=Tryz.slices_Sort_int g 0 cap (la++lb) f t r al;have T:((la++lb).mergeSort fun x y=>decide (x<=y)).length=(la++lb).length:=LW _;have aj:=Lib.compact_length_le ((la++lb).mergeSort fun x y=>decide (x<=y));rw[<- show ei la lb=Lib.compact ((la++lb).mergeSort fun x y=>decide (x<=y)) from rfl, <- H.o] at aj;have OV:=hid K;have ae:Hid (Lib.compact ((la++lb).mergeSort fun x y=>decide (x<=y))=L):=H.o.symm;generalize ((la++lb).mergeSort fun x y=>decide (x<=y))=s at *;have HH:=hid t;clear K t J ai R;generalize KE:(la++lb).length=n at *;go_wp2_with fail
  refine OV.o.af ?_;rintro e i ⟨rfl,q,c,rfl⟩;have S:s.toArray.size=(la++lb).toArray.size:=by simp;rw[T, <- KE];simp
  have z:Holds (Value.int .i64) (grow (putRow (Value.int .i64) (Sort.ahead f q) g 0 s.toArray) c) g 0 s.toArray:=fun j u=>by
   obtain⟨l,m⟩:=holds_putRow (Value.int .i64) (Sort.ahead f q) g 0 _ s.toArray HH.o S j u;(have M:g<(putRow (Value.int .i64) (Sort.ahead f q) g 0 s.toArray).heap.size:=by rw[size_putRow];exact r);refine⟨(cell?_grow _ _ _ M).trans l,?_⟩;rw[frozen?_grow _ _ _ M];exact m
  have Z:g<(grow (putRow (Value.int .i64) (Sort.ahead f q) g 0 s.toArray) c).heap.size:=aO r (LD (w:=f) (g:=g) (n:=q) (os:=c) s.toArray).size;have O:=S8 (n:=q) (os:=c) s.toArray A A.size (show w.heap.size<=g by omega);generalize grow (putRow (Value.int .i64) (Sort.ahead f q) g 0 s.toArray) c=i at *;have X:=Tryz.slices_Compact_int g 0 cap s i z al al;rw[T,ae.o] at X;have ad:=hid X;have ab:=hid z;clear X z S;go_wp2_with fail
  refine ad.o.af ?_;rintro e w3 ⟨rfl,q2,rfl⟩;go_wp2;go_ret
  have x7:(L++List.replicate (n - L.length) 0).toArray.size=s.toArray.size:=by
   simp;omega
  exact⟨some ⟨g,0,none⟩,cap,rfl,E6 (holds_putRow (Value.int .i64) (Sort.ahead i q2) g 0 s.toArray _ ab.o x7) (by rw[size_putRow];exact Z) (fun j u=>⟨by simp;omega,by simp[nh,u]⟩),iR.at al,S9 _ O O.size al⟩
theorem akJ (l F m s:Nat) (c d:Kd) (ca cb:Nat) (t fb:Array Value) (la lb:List Fr) (k P Q:Nat) (U:P<la.length) (X:Q<lb.length) (w:World)
  (ad:l<w.heap.size) (xa:w.cell? ⟨l,1,none⟩=some (.slice c la.length ca)) (bZ:F<w.heap.size) (ya:w.cell? ⟨F,0,none⟩=some (.func (.func 215) #[] t)) (ae:m<w.heap.size) (xb:w.cell? ⟨m,1,none⟩=some (.slice d lb.length cb)) (cV:s<w.heap.size) (yb:w.cell? ⟨s,0,none⟩=some (.func (.func 215) #[] fb)) (ha:cE w c la) (b:cE w d lb) (wa:Cw 100000 la) (wb:Cw 100000 lb)
  (h1:∀V,db w V ->da 215 (#[.int .i64 (k:Nat)]++t) V fun e w'=>e=.returned (.int .i64 (P:Nat))/\db V w')
  (h2:∀V,db w V ->da 215 (#[.int .i64 (k:Nat)]++fb) V fun e w'=>e=.returned (.int .i64 (Q:Nat))/\db V w'):
  da 163 #[.int .i64 (k:Nat),.pointer (some ⟨l,0,none⟩),.pointer (some ⟨F,0,none⟩),.pointer (some ⟨m,0,none⟩),.pointer (some ⟨s,0,none⟩)] w (du w (kE (qF (ba (cT la P)*ba (cT lb Q))))):=by
 obtain⟨g,o,rfl,Y,J,L,M⟩:=ha P U;obtain⟨h,p,rfl,Z,R,T,b2⟩:=b Q X;have ai:=wa P U;have Xf:=wb Q X;rw[<- vA U] at J L M;rw[<- vA X] at R T b2;have HC:=hid (fun V:World=>aga (w:=V) (ba (cT la P)*ba (cT lb Q)) rfl rfl rfl (show (cT la P).2.1.size+(cT la P).2.2.size<=100000 by omega) (show (cT lb Q).2.1.size+(cT lb Q).2.2.size<=100000 by omega));rw[SG];have H1:=hid h1;have H2:=hid h2;generalize ba (cT la P)*ba (cT lb Q)=r at *;clear ha b h1 h2 ai Xf wa wb;generalize cT la P=f at *;generalize cT lb Q=f' at *;obtain⟨xn,xx,xy⟩:=f;obtain⟨yn,yx,yy⟩:=f';simp only at J L M R T b2 HC;have i:aJ (w.alloc (FC false ⟨#[]⟩ ⟨#[]⟩)) w.heap.size false ⟨#[]⟩ ⟨#[]⟩:=aJ.new w _ _ _;have a:db w (w.alloc (FC false ⟨#[]⟩ ⟨#[]⟩)):=(au _ w).alloc (ah _) _;go_enter Tryz.func163,Tryz.ntmps163;go_upto_region 1 with fail
 generalize (w.alloc (FC false ⟨#[]⟩ ⟨#[]⟩))=W at *;replace i:=i.drew;replace a:=a.drew;have ab:∀u,db w u ->u.cell? ⟨l,1,none⟩=some (.slice (some ⟨g,o,none⟩) la.length ca)/\u.cell? ⟨F,0,none⟩=some (.func (.func 215) #[] t)/\u.cell? ⟨m,1,none⟩=some (.slice (some ⟨h,p,none⟩) lb.length cb)/\u.cell? ⟨s,0,none⟩=some (.func (.func 215) #[] fb)/\u.cell? ⟨g,o+P*3,none⟩=some (.bool xn)/\u.cell? ⟨g,o+P*3+1,none⟩=some (.string xx)/\u.cell? ⟨g,o+P*3+2,none⟩=some (.string xy)/\u.cell? ⟨h,p+Q*3,none⟩=some (.bool yn)/\u.cell? ⟨h,p+Q*3+1,none⟩=some (.string yx)/\u.cell? ⟨h,p+Q*3+2,none⟩=some (.string yy):=fun u e=>⟨(e.cell (p:=⟨l,1,none⟩) ad).trans xa,(e.cell (p:=⟨F,0,none⟩) bZ).trans ya,(e.cell (p:=⟨m,1,none⟩) ae).trans xb,(e.cell (p:=⟨s,0,none⟩) cV).trans yb,(e.cell (p:=⟨g,_,none⟩) Y).trans J,(e.cell (p:=⟨g,_,none⟩) Y).trans L,(e.cell (p:=⟨g,_,none⟩) Y).trans M,(e.cell (p:=⟨h,_,none⟩) Z).trans R,(e.cell (p:=⟨h,_,none⟩) Z).trans T,(e.cell (p:=⟨h,_,none⟩) Z).trans b2⟩;have HELD:=hid ab;clear ab J L M R T b2 xa ya xb yb
 refine jZ (S:=fun u=>u.cell? ⟨l,1,none⟩=some (.slice (some ⟨g,o,none⟩) la.length ca)/\u.cell? ⟨F,0,none⟩=some (.func (.func 215) #[] t)/\u.cell? ⟨m,1,none⟩=some (.slice (some ⟨h,p,none⟩) lb.length cb)/\u.cell? ⟨s,0,none⟩=some (.func (.func 215) #[] fb)/\u.cell? ⟨g,o+P*3,none⟩=some (.bool xn)/\u.cell? ⟨g,o+P*3+1,none⟩=some (.string xx)/\u.cell? ⟨g,o+P*3+2,none⟩=some (.string xy)/\u.cell? ⟨h,p+Q*3,none⟩=some (.bool yn)/\u.cell? ⟨h,p+Q*3+1,none⟩=some (.string yx)/\u.cell? ⟨h,p+Q*3+2,none⟩=some (.string yy)) ao (HELD.o _ a) (fun q=>?_);generalize W.drew=u0 at *;refine az 0 (.pointer (some ⟨l,1,none⟩)) ?_;try simp only[gE,aP]
 refine dW 1 (.slice (some ⟨g,o,none⟩) la.length ca) ?_ ?_
 ·intro u' j;obtain⟨v,x,y,z,A,D,E,H,I,O⟩:=j;go_simp
 try simp only[gE,aP]
 refine dW 2 (.func (.func 215) #[] t) ?_ ?_
 ·intro u' j;obtain⟨v,x,y,z,A,D,E,H,I,O⟩:=j;go_simp
 refine az 3 (.int .i64 (k:Nat)) ?_;refine az 7 (.pointer (some ⟨m,1,none⟩)) ?_;try simp only[gE,aP]
 refine dW 8 (.slice (some ⟨h,p,none⟩) lb.length cb) ?_ ?_
 ·intro u' j;obtain⟨v,x,y,z,A,D,E,H,I,O⟩:=j;go_simp
 try simp only[gE,aP]
 refine dW 9 (.func (.func 215) #[] fb) ?_ ?_
 ·intro u' j;obtain⟨v,x,y,z,A,D,E,H,I,O⟩:=j;go_simp
 refine az 10 (.int .i64 (k:Nat)) ?_;refine aG [4] (cA ?_ aI);intro n K;go_simp;refine(H1.o _ a).af ?_;rintro e u1 ⟨rfl,b⟩;replace i:=i.aa b i.lt;replace a:=a.trans (b.af a.size);clear q;refine K.o _ _ (HELD.o _ a) (fun q=>?_);clear K n b;refine az 5 (.pointer (some ⟨g,o+P*3,none⟩)) ?_;try simp only[gE,aP]
 refine dW 6 (.agg #[.bool xn,.string xx,.string xy]) ?_ ?_
 ·intro u' j;obtain⟨v,x,y,z,A,D,E,H,I,O⟩:=j;go_simp
 refine aG [11] (cA ?_ aI);intro n K;go_simp;refine(H2.o _ a).af ?_;rintro e u2 ⟨rfl,b⟩;replace i:=i.aa b i.lt;replace a:=a.trans (b.af a.size);clear q;refine K.o _ _ (HELD.o _ a) (fun q=>?_);clear K n b;refine az 12 (.pointer (some ⟨h,p+Q*3,none⟩)) ?_;try simp only[gE,aP]
 refine dW 13 (.agg #[.bool yn,.string yx,.string yy]) ?_ ?_
 ·intro u' j;obtain⟨v,x,y,z,A,D,E,H,I,O⟩:=j;go_simp
 refine aG [14] (cA ?_ aI);intro n K;go_simp;refine(HC.o _).af ?_;rintro e u3 ⟨rfl,b⟩;replace i:=i.aa b i.lt;replace a:=a.trans (b.af a.size);clear q;refine K.o _ _ (HELD.o _ a) (fun q=>?_);clear K n b;try simp only[gE,aP]
 obtain⟨k0,k1,k2,f0,f1,f2⟩:=i.facts;refine aG [15] (cA ?_ aI);intro n K;go_simp;have aj:=i.put (bK r) (nu r) (de r);have vo:=fL a (g:=w.heap.size) (ah _) (.bool (bK r)) (.string (nu r)) (.string (de r));generalize (((u3.setCell ⟨w.heap.size,0,none⟩ (.bool (bK r))).setCell ⟨w.heap.size,1,none⟩ (.string (nu r))).setCell ⟨w.heap.size,2,none⟩ (.string (de r)))=v9 at *;refine K.o _ _ (HELD.o _ vo) (fun _=>gj ao ?_ _);clear K n q;go_wp2;refine cP (aj.result rfl _ rfl) rfl ?_;exact⟨rfl,vo⟩
variable {other:Kh} {ca cb g j:Nat} {y z:Value}
def ZV (w:World) (g:Nat) (x y z t:Value):Prop:=w.heap[g]? =some (.cells #[x,y,z,t] 38 (0,0))
theorem ZV.lt {t:Value} (h:ZV w g x y z t):g<w.heap.size:=(dD.1 h).1
def PH (w V:World) (x y z t:Value):Prop:=bw V w.heap.size x y/\bw V (w.heap.size+1) z t/\bw V (w.heap.size+1+1) (.slice none 0 0) (.slice none 0 0)/\ZV V (w.heap.size+1+1+1) x y z t/\db w V
theorem PH.step {V:World} {t:Value} (h:PH w V x y z t) (b:db V V'):PH w V' x y z t:=⟨h.1.aa b h.1.lt,h.2.1.aa b h.2.1.lt,h.2.2.1.aa b h.2.2.1.lt,(b.block _ h.2.2.2.1.lt).trans h.2.2.2.1,h.2.2.2.2.trans (b.af h.2.2.2.2.size)⟩
theorem PH.drew {V:World} {t:Value} (h:PH w V x y z t):PH w V.drew x y z t:=⟨h.1,h.2.1,h.2.2.1,h.2.2.2.1,h.2.2.2.2.drew⟩
theorem PH.new (w:World) (x y z t:Value):PH w ((((w.alloc (TC x y)).alloc (TC z t)).alloc (TC (.slice none 0 0) (.slice none 0 0))).alloc (.cells #[x,y,z,t] 38)) x y z t:=by
 refine⟨((bw.at rfl _ _).alloc _ |>.alloc _).alloc _,((bw.at aE _ _).alloc _).alloc _,(bw.at aE _ _).alloc _,?_,((((au _ w).alloc (ah _) _).alloc aE _).alloc (by simp;omega) _).alloc (by simp;omega) _⟩;have h:=eM (((w.alloc (TC x y)).alloc (TC z t)).alloc (TC (.slice none 0 0) (.slice none 0 0))) (.cells #[x,y,z,t] 38);rw[eH,eH,eH] at h;exact h
theorem PH.row {V:World} {t:Value} (h:PH w V x y z t):(V.cell? ⟨w.heap.size+1+1+1,0,none⟩=some x/\V.cell? ⟨w.heap.size+1+1+1,1,none⟩=some y)/\V.cell? ⟨w.heap.size+1+1+1,2,none⟩=some z/\V.cell? ⟨w.heap.size+1+1+1,3,none⟩=some t:=by
 refine⟨⟨?_,?_⟩,?_,?_⟩<;>(rw[bh _ _ _ _ _ (0,0) h.2.2.2.1];rfl)
theorem J7 {V:World} {B b:Nat} {t:TypeId} (h:Boxed V B t .nilFunc) (a:V.cell? ⟨b,j,none⟩=some x) (n:x≠.nilFunc):b≠B:=fun e=>by
 subst e;rw[bh V b j _ _ (0,0) h] at a;match j with
 |0=>simp at a;exact n a.symm
 |j+1=>simp at a
theorem Wy {V:World} {B:Nat} {t:TypeId} {c:Kd} (h:Boxed V B t .nilFunc) (i:aC V c l) (y:Value):aC (V.setCell ⟨B,0,none⟩ y) c l:=fun k b=>by
 obtain⟨g,o,rfl,d,a⟩:=i k b;have n:=J7 h a aE;exact⟨g,o,rfl,aO d (jD V _ _).size,(fN _ _ _ _ (fun e=>n (ed Addr.block e).symm)).trans a⟩
theorem oW.nil {V:World} {B:Nat} {t:TypeId} {f:Value} {b:Kd} {sizes vars:Kh} (h:oW V n m f a b ca cb sizes vars other) (d:Boxed V B t .nilFunc) (y:Value):oW (V.setCell ⟨B,0,none⟩ y) n m f a b ca cb sizes vars other:=by
 obtain⟨v,s,k,g,l,o,c,z,M,p,q,u,w⟩:=h;have r:∀(b j:Nat) (x:Value),V.cell? ⟨b,j,none⟩=some x ->x≠.nilFunc ->(V.setCell ⟨B,0,none⟩ y).cell? ⟨b,j,none⟩=some x:=fun b j x i c=>(fN _ _ _ _ (fun e=>J7 d i c (ed Addr.block e).symm)).trans i;exact⟨v,s,k,g,l,o,c,z,aL M (jD V _ _).size,r _ _ _ p aE,r _ _ _ q aE,r _ _ _ u aE,Wy d w y⟩
theorem PH.nil {V:World} {t:Value} {B:Nat} {f:TypeId} (h:PH w V x y z t) (d:cO x) (e:cO z) (b:Boxed V B f .nilFunc) (c:w.heap.size<=B) (u:Value):PH w (V.setCell ⟨B,0,none⟩ u) x y z t:=by
 obtain⟨g,n,j,rfl⟩:=d;obtain⟨i,l,k,rfl⟩:=e;have a:=h.row.1.1;exact⟨h.1.off B 0 u (J7 b h.1.c0 aE),h.2.1.off B 0 u (J7 b h.2.1.c0 aE),h.2.2.1.off B 0 u (J7 b h.2.2.1.c0 aE),(eN V ⟨B,0,none⟩ u _ (J7 b a aE)).trans h.2.2.2.1,h.2.2.2.2.setCell (p:=⟨B,0,none⟩) c u⟩
theorem acC (S a b U:Ki) (la lb:List Fr):(xQ S a b U la lb).length=cnt S U:=by simp[xQ]
theorem akI (S a b U:Ki) (la lb:List Fr) (h:k<(xQ S a b U la lb).length):(xQ S a b U la lb)[k]=qF (ba (cT la (pos S (bA S U k) a))*ba (cT lb (pos S (bA S U k) b))):=by simp[xQ]
theorem abC {sizes vars U:Kh} {K:Nat} (k:kI sizes vars m=0) (b:K<cnt (ag sizes) (ag U)):pos (ag sizes) (bA (ag sizes) (ag U) K) (ag vars)<m:=by
 obtain⟨h,c,a⟩:=Dr k;rw[a];exact uP _ (fun u=>yA h.pos _ _ u b) _
theorem aiJ (a b c Q c':Kd) (ca cb cc T jX:Nat) (sizes D E:Kh) (la lb:List Fr) (w:World) (hs:aC w a sizes) (x4:aC w b D) (mE:aC w Q E) (RX:cE w c la) (aN:cE w c' lb) (hn:sizes.length<=140737488355328) (bo:D.length<=140737488355328) (Hx:E.length<=140737488355328) (av:b=none ->cb=0) (vd:Q=none ->T=0) (ai:kI sizes D la.length=0) (aj:kI sizes E lb.length=0) (WS:Cw 100000 la) (aS:Cw 100000 lb):
  da 106 #[.slice a sizes.length ca,.agg #[.slice b D.length cb,.slice c la.length cc],.agg #[.slice Q E.length T,.slice c' lb.length jX]] w fun e w'=>xg w.heap.size (ei D E) (xQ (ag sizes) (ag D) (ag E) (ag (ei D E)) la lb) 0 e w'/\db w w':=by
 obtain⟨aQ,nI, -⟩:=Dr ai;obtain⟨-,tU, -⟩:=Dr aj;obtain⟨R,kD,ak⟩:∃R:Nat ->Int,R 0=kI sizes D la.length/\R 1=kI sizes E lb.length:=⟨fun i=>if i=0 then kI sizes D la.length else kI sizes E lb.length,rfl,rfl⟩
 have a7:Hid (∀i,i< 2 ->R i=0):=by
  intro i s;by_cases h:i=0
  ·subst h;rw[kD];exact ai
  ·obtain rfl:i=1:=al
   rw[ak];exact aj
 have sU:=aQ.eight;have k8:=nI.length;have kd:=tU.length;have IP:=hid (fun V h1 h2=>aiF b Q cb T D E V h1 h2 av vd al al);have DN:=hid (fun K (hK:K<cnt (ag sizes) (ag (ei D E)))=>abC ai hK);have vP:=hid (fun K (hK:K<cnt (ag sizes) (ag (ei D E)))=>abC aj hK);have jg:=hid (acC (ag sizes) (ag D) (ag E) (ag (ei D E)) la lb);have AA:=hid (fun (k:Nat) (h:k<(xQ (ag sizes) (ag D) (ag E) (ag (ei D E)) la lb).length)=>akI (ag sizes) (ag D) (ag E) (ag (ei D E)) la lb h);have uq:=hid (CJ nI tU);generalize xQ (ag sizes) (ag D) (ag E) (ag (ei D E)) la lb=FL at *;generalize ei D E=U at *;have OU:=hid (fun V d F h1 h2=>U9 a d b ca F cb sizes U D V h1 h2 aQ nI);have Ao:=hid (fun V d F h1 h2=>U9 a d Q ca F T sizes U E V h1 h2 aQ tU);have dt:=hid aQ;have a8:=hid nI;have bb:=hid tU;have a1:=hid RX;have a6:=hid aN;have bd:=hid WS;have Z8:=hid aS;clear ai aj aQ nI tU RX aN WS aS av vd
 have aT:∀i,i< 2 ->∃(p q:Kd) (n m cp cq:Nat) (r:Int),(∀V,PH w V (.slice b D.length cb) (.slice c la.length cc) (.slice Q E.length T) (.slice c' lb.length jX) ->V.cell? ⟨w.heap.size+1+1+1,i*2,none⟩=some (.slice p n cp)/\V.cell? ⟨w.heap.size+1+1+1,i*2+1,none⟩=some (.slice q m cq))/\(∀V,db w V ->da 114 #[.slice a sizes.length ca,.agg #[.slice p n cp,.slice q m cq]] V fun e w'=>e=.returned (.int .i64 r)/\db V w')/\R i=r:=by
  intro i s;by_cases h:i=0
  ·subst h;exact⟨b,c,D.length,la.length,cb,cc,_,fun V h=>h.row.1,fun V h=>GU a b c ca cb cc la.length sizes D V (hs.aa h) (x4.aa h) hn bo,kD⟩
  ·obtain rfl:i=1:=al
   exact⟨Q,c',E.length,lb.length,T,jX,_,fun V h=>h.row.2,fun V h=>GU a Q c' ca T jX lb.length sizes E V (hs.aa h) (mE.aa h) hn Hx,ak⟩
 have O5:=hid aT;have I:=hid hs;have BV:=hid x4;have Y:=hid mE;clear aT kD ak hs x4 mE;have H:=PH.new w (.slice b D.length cb) (.slice c la.length cc) (.slice Q E.length T) (.slice c' lb.length jX);have c0:=H.1.c0;have c1:=H.1.c1;have c2:=H.2.1.c0;have c3:=H.2.1.c1;go_enter Tryz.func106,Tryz.ntmps106;go_wp2_with fail
 generalize ((((w.alloc (TC (.slice b D.length cb) (.slice c la.length cc))).alloc (TC (.slice Q E.length T) (.slice c' lb.length jX))).alloc (TC (.slice none 0 0) (.slice none 0 0))).alloc (.cells #[.slice b D.length cb,.slice c la.length cc,.slice Q E.length T,.slice c' lb.length jX] 38))=W at *;have an:=hid H;clear c0 c1 c2 c3 H;go_loopw [18] (fun iv wr=>∃i:Nat,i<=2/\iv=.int .i64 i/\Hid (∀j,j< i ->R j=0)/\Hid (PH w wr (.slice b D.length cb) (.slice c la.length cc) (.slice Q E.length T) (.slice c' lb.length jX))) (fun iv _=>2 - (intOf iv).toNat)
 case atStart=>exact⟨0,al,rfl,fun j hj=>absurd hj al,an⟩
 case round=>
  obtain⟨i,s,rfl,HZ,HP⟩:=hrel;clear an;by_cases aR:i<2
  ·obtain⟨p,q,n,m,cp,cq,r,aE,ay,hr⟩:=O5.o i aR;obtain⟨d0,d1⟩:=aE _ HP.o;have jt:=hid ay;have HR:=hid hr;clear aE ay hr;have ad:db wr (wr.alloc (TC (.slice p n cp) (.slice q m cq))):=(au _ wr).alloc (ah _) _;have hx:=bw.at (w:=wr) rfl (.slice p n cp) (.slice q m cq);have e0:=hx.c0;have e1:=hx.c1;go_wp2_with fail
   replace HP:=hid (HP.o.step ad);clear d0 d1 e0 e1 ad;generalize (wr.alloc (TC (.slice p n cp) (.slice q m cq)))=w2 at *;refine(jt.o _ HP.o.2.2.2.2).af ?_;rintro e w3 ⟨rfl,ax⟩;replace HP:=hid (HP.o.step ax);clear ax hx;by_cases M3:r=0
   ·subst M3;go_wp2;go_roundw
    case rel=>exact⟨i+1,al,b5,fun j hj=>by
      by_cases e:j=i
      ·rw[e];exact HR.o
      ·exact HZ.o j al,HP⟩
    case measure=>simp[intOf];omega
   ·have wV:=a7.o i aR;rw[HR.o] at wV;exact absurd wV M3
  ·obtain rfl:i=2:=al
   have H:=HP.o;have c0:=H.1.c0;have c2:=H.2.1.c0;clear HP HZ O5;go_wp2_with fail
   refine(IP.o _ (BV.o.aa H.2.2.2.2) (Y.o.aa H.2.2.2.2)).af ?_;rintro e w1 ⟨d,F,rfl,s,tZ,ad⟩;have Ea:=hid (tZ.up H.2.2.2.2.size);clear tZ;replace H:=H.step ad;clear c0 c2 ad;go_upto_region 9 with fail
   replace H:=H.drew;replace s:aC w1.drew d U:=s;refine jZ (S:=fun u=>u.cell? ⟨w.heap.size,0,none⟩=some (.slice b D.length cb)/\u.cell? ⟨w.heap.size+1,0,none⟩=some (.slice Q E.length T)) ao ⟨H.1.c0,H.2.1.c0⟩ (fun x=>?_);generalize w1.drew=P at *;refine az 0 (.slice a sizes.length ca) ?_;refine az 1 (.slice d U.length F) ?_;refine az 2 (.pointer (some ⟨w.heap.size,0,none⟩)) ?_;refine az 3 (.slice b D.length cb) ?_;refine az 5 (.slice a sizes.length ca) ?_;refine az 6 (.slice d U.length F) ?_;refine az 7 (.pointer (some ⟨w.heap.size+1,0,none⟩)) ?_;refine az 8 (.slice Q E.length T) ?_;refine aG [4,10,11] (cA ?_ (cA ?_ (cA ?_ aI)))
   focus
    intro v l;go_simp;refine(OU.o _ d F (I.o.aa H.2.2.2.2) (BV.o.aa H.2.2.2.2)).af ?_;rintro e u1 ⟨f,rfl,Z,g⟩;obtain⟨X,rfl⟩:=Z.shape;replace H:=H.step g;replace s:=s.aa g;clear x;refine l.o _ _ ⟨H.1.c0,H.2.1.c0⟩ (fun x=>?_);clear l v g;generalize P.heap.size=na at Z;generalize u1.heap.size=ma at Z;refine aG [9,10,11] (cA ?_ (cA ?_ (cA ?_ aI)))
    focus
     intro v l;go_simp;refine(Ao.o _ d F (I.o.aa H.2.2.2.2) (Y.o.aa H.2.2.2.2)).af ?_;rintro e u2 ⟨f,rfl,y,g⟩;obtain⟨L,rfl⟩:=y.shape;replace H:=H.step g;replace s:=s.aa g;replace Z:=Z.aa g;clear x;refine l.o _ _ ⟨H.1.c0,H.2.1.c0⟩ (fun x=>?_);clear l v g;generalize u1.heap.size=nb at y;generalize u2.heap.size=mb at y;refine aG [10,11] (cA ?_ (cA ?_ aI))
     focus
      intro v l;go_simp;have g:db u2 (u2.alloc (.cells #[.nilFunc] 187)):=(au _ u2).alloc (ah _) _;have z:Boxed (u2.alloc (.cells #[.nilFunc] 187)) u2.heap.size 187 .nilFunc:=bt u2 _ _;have dh:=H.2.2.2.2.size;replace H:=H.step g;replace s:=s.aa g;replace Z:=Z.aa g;replace y:=y.aa g;clear x;refine l.o _ _ ⟨H.1.c0,H.2.1.c0⟩ (fun x=>?_);clear l v g;generalize (u2.alloc (.cells #[.nilFunc] 187))=t at *;generalize u2.heap.size=J at *;refine aG [11] (cA ?_ aI);intro v l;go_simp;have g:db t (t.alloc (.cells #[.nilFunc] 187)):=(au _ t).alloc (ah _) _;have A:Boxed (t.alloc (.cells #[.nilFunc] 187)) t.heap.size 187 .nilFunc:=bt t _ _;have xO:=H.2.2.2.2.size;(have ne:J≠t.heap.size:=by have:=z.lt;omega);replace H:=H.step g;replace s:=s.aa g;replace Z:=Z.aa g;replace y:=y.aa g;replace z:=bc z g;clear x;refine l.o _ _ ⟨H.1.c0,H.2.1.c0⟩ (fun x=>?_);clear l v g;generalize (t.alloc (.cells #[.nilFunc] 187))=O at *;generalize t.heap.size=M at *
     rotate_left
     focus
      intro v l;go_simp;have g:db u2 (u2.alloc (.cells #[.nilFunc] 187)):=(au _ u2).alloc (ah _) _;have A:Boxed (u2.alloc (.cells #[.nilFunc] 187)) u2.heap.size 187 .nilFunc:=bt u2 _ _;have xO:=H.2.2.2.2.size;replace H:=H.step g;replace s:=s.aa g;replace Z:=Z.aa g;replace y:=y.aa g;clear x;refine l.o _ _ ⟨H.1.c0,H.2.1.c0⟩ (fun x=>?_);clear l v g;generalize (u2.alloc (.cells #[.nilFunc] 187))=t at *;generalize u2.heap.size=M at *;refine aG [10] (cA ?_ aI);intro v l;go_simp;have g:db t (t.alloc (.cells #[.nilFunc] 187)):=(au _ t).alloc (ah _) _;have z:Boxed (t.alloc (.cells #[.nilFunc] 187)) t.heap.size 187 .nilFunc:=bt t _ _;have dh:=H.2.2.2.2.size;(have ne:M≠t.heap.size:=by have:=A.lt;omega);replace H:=H.step g;replace s:=s.aa g;replace Z:=Z.aa g;replace y:=y.aa g;replace A:=bc A g;clear x;refine l.o _ _ ⟨H.1.c0,H.2.1.c0⟩ (fun x=>?_);clear l v g;generalize (t.alloc (.cells #[.nilFunc] 187))=O at *;generalize t.heap.size=J at *
    rotate_left 2
    focus
     intro v l;go_simp;have g:db u1 (u1.alloc (.cells #[.nilFunc] 187)):=(au _ u1).alloc (ah _) _;have z:Boxed (u1.alloc (.cells #[.nilFunc] 187)) u1.heap.size 187 .nilFunc:=bt u1 _ _;have dh:=H.2.2.2.2.size;replace H:=H.step g;replace s:=s.aa g;replace Z:=Z.aa g;clear x;refine l.o _ _ ⟨H.1.c0,H.2.1.c0⟩ (fun x=>?_);clear l v g;generalize (u1.alloc (.cells #[.nilFunc] 187))=u2 at *;generalize u1.heap.size=J at *;refine aG [9,11] (cA ?_ (cA ?_ aI))
     focus
      intro v l;go_simp;refine(Ao.o _ d F (I.o.aa H.2.2.2.2) (Y.o.aa H.2.2.2.2)).af ?_;rintro e t ⟨f,rfl,y,g⟩;obtain⟨L,rfl⟩:=y.shape;replace H:=H.step g;replace s:=s.aa g;replace Z:=Z.aa g;replace z:=bc z g;clear x;refine l.o _ _ ⟨H.1.c0,H.2.1.c0⟩ (fun x=>?_);clear l v g;generalize u2.heap.size=nb at y;generalize t.heap.size=mb at y;refine aG [11] (cA ?_ aI);intro v l;go_simp;have g:db t (t.alloc (.cells #[.nilFunc] 187)):=(au _ t).alloc (ah _) _;have A:Boxed (t.alloc (.cells #[.nilFunc] 187)) t.heap.size 187 .nilFunc:=bt t _ _;have xO:=H.2.2.2.2.size;(have ne:J≠t.heap.size:=by have:=z.lt;omega);replace H:=H.step g;replace s:=s.aa g;replace Z:=Z.aa g;replace y:=y.aa g;replace z:=bc z g;clear x;refine l.o _ _ ⟨H.1.c0,H.2.1.c0⟩ (fun x=>?_);clear l v g;generalize (t.alloc (.cells #[.nilFunc] 187))=O at *;generalize t.heap.size=M at *
     rotate_left
     focus
      intro v l;go_simp;have g:db u2 (u2.alloc (.cells #[.nilFunc] 187)):=(au _ u2).alloc (ah _) _;have A:Boxed (u2.alloc (.cells #[.nilFunc] 187)) u2.heap.size 187 .nilFunc:=bt u2 _ _;have xO:=H.2.2.2.2.size;(have ne:J≠u2.heap.size:=by have:=z.lt;omega);replace H:=H.step g;replace s:=s.aa g;replace Z:=Z.aa g;replace z:=bc z g;clear x;refine l.o _ _ ⟨H.1.c0,H.2.1.c0⟩ (fun x=>?_);clear l v g;generalize (u2.alloc (.cells #[.nilFunc] 187))=t at *;generalize u2.heap.size=M at *;refine aG [9] (cA ?_ aI);intro v l;go_simp;refine(Ao.o _ d F (I.o.aa H.2.2.2.2) (Y.o.aa H.2.2.2.2)).af ?_;rintro e O ⟨f,rfl,y,g⟩;obtain⟨L,rfl⟩:=y.shape;replace H:=H.step g;replace s:=s.aa g;replace Z:=Z.aa g;replace z:=bc z g;replace A:=bc A g;clear x;refine l.o _ _ ⟨H.1.c0,H.2.1.c0⟩ (fun x=>?_);clear l v g;generalize t.heap.size=nb at y;generalize O.heap.size=mb at y
    rotate_left 2
    focus
     intro v l;go_simp;have g:db u1 (u1.alloc (.cells #[.nilFunc] 187)):=(au _ u1).alloc (ah _) _;have A:Boxed (u1.alloc (.cells #[.nilFunc] 187)) u1.heap.size 187 .nilFunc:=bt u1 _ _;have xO:=H.2.2.2.2.size;replace H:=H.step g;replace s:=s.aa g;replace Z:=Z.aa g;clear x;refine l.o _ _ ⟨H.1.c0,H.2.1.c0⟩ (fun x=>?_);clear l v g;generalize (u1.alloc (.cells #[.nilFunc] 187))=u2 at *;generalize u1.heap.size=M at *;refine aG [9,10] (cA ?_ (cA ?_ aI))
     focus
      intro v l;go_simp;refine(Ao.o _ d F (I.o.aa H.2.2.2.2) (Y.o.aa H.2.2.2.2)).af ?_;rintro e t ⟨f,rfl,y,g⟩;obtain⟨L,rfl⟩:=y.shape;replace H:=H.step g;replace s:=s.aa g;replace Z:=Z.aa g;replace A:=bc A g;clear x;refine l.o _ _ ⟨H.1.c0,H.2.1.c0⟩ (fun x=>?_);clear l v g;generalize u2.heap.size=nb at y;generalize t.heap.size=mb at y;refine aG [10] (cA ?_ aI);intro v l;go_simp;have g:db t (t.alloc (.cells #[.nilFunc] 187)):=(au _ t).alloc (ah _) _;have z:Boxed (t.alloc (.cells #[.nilFunc] 187)) t.heap.size 187 .nilFunc:=bt t _ _;have dh:=H.2.2.2.2.size;(have ne:M≠t.heap.size:=by have:=A.lt;omega);replace H:=H.step g;replace s:=s.aa g;replace Z:=Z.aa g;replace y:=y.aa g;replace A:=bc A g;clear x;refine l.o _ _ ⟨H.1.c0,H.2.1.c0⟩ (fun x=>?_);clear l v g;generalize (t.alloc (.cells #[.nilFunc] 187))=O at *;generalize t.heap.size=J at *
     rotate_left
     focus
      intro v l;go_simp;have g:db u2 (u2.alloc (.cells #[.nilFunc] 187)):=(au _ u2).alloc (ah _) _;have z:Boxed (u2.alloc (.cells #[.nilFunc] 187)) u2.heap.size 187 .nilFunc:=bt u2 _ _;have dh:=H.2.2.2.2.size;(have ne:M≠u2.heap.size:=by have:=A.lt;omega);replace H:=H.step g;replace s:=s.aa g;replace Z:=Z.aa g;replace A:=bc A g;clear x;refine l.o _ _ ⟨H.1.c0,H.2.1.c0⟩ (fun x=>?_);clear l v g;generalize (u2.alloc (.cells #[.nilFunc] 187))=t at *;generalize u2.heap.size=J at *;refine aG [9] (cA ?_ aI);intro v l;go_simp;refine(Ao.o _ d F (I.o.aa H.2.2.2.2) (Y.o.aa H.2.2.2.2)).af ?_;rintro e O ⟨f,rfl,y,g⟩;obtain⟨L,rfl⟩:=y.shape;replace H:=H.step g;replace s:=s.aa g;replace Z:=Z.aa g;replace z:=bc z g;replace A:=bc A g;clear x;refine l.o _ _ ⟨H.1.c0,H.2.1.c0⟩ (fun x=>?_);clear l v g;generalize t.heap.size=nb at y;generalize O.heap.size=mb at y
   rotate_left 6
   focus
    intro v l;go_simp;have g:db P (P.alloc (.cells #[.nilFunc] 187)):=(au _ P).alloc (ah _) _;have z:Boxed (P.alloc (.cells #[.nilFunc] 187)) P.heap.size 187 .nilFunc:=bt P _ _;have dh:=H.2.2.2.2.size;replace H:=H.step g;replace s:=s.aa g;clear x;refine l.o _ _ ⟨H.1.c0,H.2.1.c0⟩ (fun x=>?_);clear l v g;generalize (P.alloc (.cells #[.nilFunc] 187))=u1 at *;generalize P.heap.size=J at *;refine aG [4,11] (cA ?_ (cA ?_ aI))
    focus
     intro v l;go_simp;refine(OU.o _ d F (I.o.aa H.2.2.2.2) (BV.o.aa H.2.2.2.2)).af ?_;rintro e u2 ⟨f,rfl,Z,g⟩;obtain⟨X,rfl⟩:=Z.shape;replace H:=H.step g;replace s:=s.aa g;replace z:=bc z g;clear x;refine l.o _ _ ⟨H.1.c0,H.2.1.c0⟩ (fun x=>?_);clear l v g;generalize u1.heap.size=na at Z;generalize u2.heap.size=ma at Z;refine aG [9,11] (cA ?_ (cA ?_ aI))
     focus
      intro v l;go_simp;refine(Ao.o _ d F (I.o.aa H.2.2.2.2) (Y.o.aa H.2.2.2.2)).af ?_;rintro e t ⟨f,rfl,y,g⟩;obtain⟨L,rfl⟩:=y.shape;replace H:=H.step g;replace s:=s.aa g;replace Z:=Z.aa g;replace z:=bc z g;clear x;refine l.o _ _ ⟨H.1.c0,H.2.1.c0⟩ (fun x=>?_);clear l v g;generalize u2.heap.size=nb at y;generalize t.heap.size=mb at y;refine aG [11] (cA ?_ aI);intro v l;go_simp;have g:db t (t.alloc (.cells #[.nilFunc] 187)):=(au _ t).alloc (ah _) _;have A:Boxed (t.alloc (.cells #[.nilFunc] 187)) t.heap.size 187 .nilFunc:=bt t _ _;have xO:=H.2.2.2.2.size;(have ne:J≠t.heap.size:=by have:=z.lt;omega);replace H:=H.step g;replace s:=s.aa g;replace Z:=Z.aa g;replace y:=y.aa g;replace z:=bc z g;clear x;refine l.o _ _ ⟨H.1.c0,H.2.1.c0⟩ (fun x=>?_);clear l v g;generalize (t.alloc (.cells #[.nilFunc] 187))=O at *;generalize t.heap.size=M at *
     rotate_left
     focus
      intro v l;go_simp;have g:db u2 (u2.alloc (.cells #[.nilFunc] 187)):=(au _ u2).alloc (ah _) _;have A:Boxed (u2.alloc (.cells #[.nilFunc] 187)) u2.heap.size 187 .nilFunc:=bt u2 _ _;have xO:=H.2.2.2.2.size;(have ne:J≠u2.heap.size:=by have:=z.lt;omega);replace H:=H.step g;replace s:=s.aa g;replace Z:=Z.aa g;replace z:=bc z g;clear x;refine l.o _ _ ⟨H.1.c0,H.2.1.c0⟩ (fun x=>?_);clear l v g;generalize (u2.alloc (.cells #[.nilFunc] 187))=t at *;generalize u2.heap.size=M at *;refine aG [9] (cA ?_ aI);intro v l;go_simp;refine(Ao.o _ d F (I.o.aa H.2.2.2.2) (Y.o.aa H.2.2.2.2)).af ?_;rintro e O ⟨f,rfl,y,g⟩;obtain⟨L,rfl⟩:=y.shape;replace H:=H.step g;replace s:=s.aa g;replace Z:=Z.aa g;replace z:=bc z g;replace A:=bc A g;clear x;refine l.o _ _ ⟨H.1.c0,H.2.1.c0⟩ (fun x=>?_);clear l v g;generalize t.heap.size=nb at y;generalize O.heap.size=mb at y
    rotate_left 2
    focus
     intro v l;go_simp;have g:db u1 (u1.alloc (.cells #[.nilFunc] 187)):=(au _ u1).alloc (ah _) _;have A:Boxed (u1.alloc (.cells #[.nilFunc] 187)) u1.heap.size 187 .nilFunc:=bt u1 _ _;have xO:=H.2.2.2.2.size;(have ne:J≠u1.heap.size:=by have:=z.lt;omega);replace H:=H.step g;replace s:=s.aa g;replace z:=bc z g;clear x;refine l.o _ _ ⟨H.1.c0,H.2.1.c0⟩ (fun x=>?_);clear l v g;generalize (u1.alloc (.cells #[.nilFunc] 187))=u2 at *;generalize u1.heap.size=M at *;refine aG [4] (cA ?_ aI);intro v l;go_simp;refine(OU.o _ d F (I.o.aa H.2.2.2.2) (BV.o.aa H.2.2.2.2)).af ?_;rintro e t ⟨f,rfl,Z,g⟩;obtain⟨X,rfl⟩:=Z.shape;replace H:=H.step g;replace s:=s.aa g;replace z:=bc z g;replace A:=bc A g;clear x;refine l.o _ _ ⟨H.1.c0,H.2.1.c0⟩ (fun x=>?_);clear l v g;generalize u2.heap.size=na at Z;generalize t.heap.size=ma at Z;refine aG [9] (cA ?_ aI);intro v l;go_simp;refine(Ao.o _ d F (I.o.aa H.2.2.2.2) (Y.o.aa H.2.2.2.2)).af ?_;rintro e O ⟨f,rfl,y,g⟩;obtain⟨L,rfl⟩:=y.shape;replace H:=H.step g;replace s:=s.aa g;replace Z:=Z.aa g;replace z:=bc z g;replace A:=bc A g;clear x;refine l.o _ _ ⟨H.1.c0,H.2.1.c0⟩ (fun x=>?_);clear l v g;generalize t.heap.size=nb at y;generalize O.heap.size=mb at y
   rotate_left 3
   focus
    intro v l;go_simp;have g:db P (P.alloc (.cells #[.nilFunc] 187)):=(au _ P).alloc (ah _) _;have A:Boxed (P.alloc (.cells #[.nilFunc] 187)) P.heap.size 187 .nilFunc:=bt P _ _;have xO:=H.2.2.2.2.size;replace H:=H.step g;replace s:=s.aa g;clear x;refine l.o _ _ ⟨H.1.c0,H.2.1.c0⟩ (fun x=>?_);clear l v g;generalize (P.alloc (.cells #[.nilFunc] 187))=u1 at *;generalize P.heap.size=M at *;refine aG [4,10] (cA ?_ (cA ?_ aI))
    focus
     intro v l;go_simp;refine(OU.o _ d F (I.o.aa H.2.2.2.2) (BV.o.aa H.2.2.2.2)).af ?_;rintro e u2 ⟨f,rfl,Z,g⟩;obtain⟨X,rfl⟩:=Z.shape;replace H:=H.step g;replace s:=s.aa g;replace A:=bc A g;clear x;refine l.o _ _ ⟨H.1.c0,H.2.1.c0⟩ (fun x=>?_);clear l v g;generalize u1.heap.size=na at Z;generalize u2.heap.size=ma at Z;refine aG [9,10] (cA ?_ (cA ?_ aI))
     focus
      intro v l;go_simp;refine(Ao.o _ d F (I.o.aa H.2.2.2.2) (Y.o.aa H.2.2.2.2)).af ?_;rintro e t ⟨f,rfl,y,g⟩;obtain⟨L,rfl⟩:=y.shape;replace H:=H.step g;replace s:=s.aa g;replace Z:=Z.aa g;replace A:=bc A g;clear x;refine l.o _ _ ⟨H.1.c0,H.2.1.c0⟩ (fun x=>?_);clear l v g;generalize u2.heap.size=nb at y;generalize t.heap.size=mb at y;refine aG [10] (cA ?_ aI);intro v l;go_simp;have g:db t (t.alloc (.cells #[.nilFunc] 187)):=(au _ t).alloc (ah _) _;have z:Boxed (t.alloc (.cells #[.nilFunc] 187)) t.heap.size 187 .nilFunc:=bt t _ _;have dh:=H.2.2.2.2.size;(have ne:M≠t.heap.size:=by have:=A.lt;omega);replace H:=H.step g;replace s:=s.aa g;replace Z:=Z.aa g;replace y:=y.aa g;replace A:=bc A g;clear x;refine l.o _ _ ⟨H.1.c0,H.2.1.c0⟩ (fun x=>?_);clear l v g;generalize (t.alloc (.cells #[.nilFunc] 187))=O at *;generalize t.heap.size=J at *
     rotate_left
     focus
      intro v l;go_simp;have g:db u2 (u2.alloc (.cells #[.nilFunc] 187)):=(au _ u2).alloc (ah _) _;have z:Boxed (u2.alloc (.cells #[.nilFunc] 187)) u2.heap.size 187 .nilFunc:=bt u2 _ _;have dh:=H.2.2.2.2.size;(have ne:M≠u2.heap.size:=by have:=A.lt;omega);replace H:=H.step g;replace s:=s.aa g;replace Z:=Z.aa g;replace A:=bc A g;clear x;refine l.o _ _ ⟨H.1.c0,H.2.1.c0⟩ (fun x=>?_);clear l v g;generalize (u2.alloc (.cells #[.nilFunc] 187))=t at *;generalize u2.heap.size=J at *;refine aG [9] (cA ?_ aI);intro v l;go_simp;refine(Ao.o _ d F (I.o.aa H.2.2.2.2) (Y.o.aa H.2.2.2.2)).af ?_;rintro e O ⟨f,rfl,y,g⟩;obtain⟨L,rfl⟩:=y.shape;replace H:=H.step g;replace s:=s.aa g;replace Z:=Z.aa g;replace z:=bc z g;replace A:=bc A g;clear x;refine l.o _ _ ⟨H.1.c0,H.2.1.c0⟩ (fun x=>?_);clear l v g;generalize t.heap.size=nb at y;generalize O.heap.size=mb at y
    rotate_left 2
    focus
     intro v l;go_simp;have g:db u1 (u1.alloc (.cells #[.nilFunc] 187)):=(au _ u1).alloc (ah _) _;have z:Boxed (u1.alloc (.cells #[.nilFunc] 187)) u1.heap.size 187 .nilFunc:=bt u1 _ _;have dh:=H.2.2.2.2.size;(have ne:M≠u1.heap.size:=by have:=A.lt;omega);replace H:=H.step g;replace s:=s.aa g;replace A:=bc A g;clear x;refine l.o _ _ ⟨H.1.c0,H.2.1.c0⟩ (fun x=>?_);clear l v g;generalize (u1.alloc (.cells #[.nilFunc] 187))=u2 at *;generalize u1.heap.size=J at *;refine aG [4] (cA ?_ aI);intro v l;go_simp;refine(OU.o _ d F (I.o.aa H.2.2.2.2) (BV.o.aa H.2.2.2.2)).af ?_;rintro e t ⟨f,rfl,Z,g⟩;obtain⟨X,rfl⟩:=Z.shape;replace H:=H.step g;replace s:=s.aa g;replace z:=bc z g;replace A:=bc A g;clear x;refine l.o _ _ ⟨H.1.c0,H.2.1.c0⟩ (fun x=>?_);clear l v g;generalize u2.heap.size=na at Z;generalize t.heap.size=ma at Z;refine aG [9] (cA ?_ aI);intro v l;go_simp;refine(Ao.o _ d F (I.o.aa H.2.2.2.2) (Y.o.aa H.2.2.2.2)).af ?_;rintro e O ⟨f,rfl,y,g⟩;obtain⟨L,rfl⟩:=y.shape;replace H:=H.step g;replace s:=s.aa g;replace Z:=Z.aa g;replace z:=bc z g;replace A:=bc A g;clear x;refine l.o _ _ ⟨H.1.c0,H.2.1.c0⟩ (fun x=>?_);clear l v g;generalize t.heap.size=nb at y;generalize O.heap.size=mb at y
   all_goals
    have bf:=z.cell;have bj:=z.frozen;refine aG [12] (cA ?_ aI);intro v l;go_simp;replace H:=H.nil (slv _ _ _) (slv _ _ _) z dh (.func (.func 215) #[] X);replace s:=Wy z s (.func (.func 215) #[] X);replace Z:=Z.nil z (.func (.func 215) #[] X);replace y:=y.nil z (.func (.func 215) #[] X);replace A:=iN A J 0 (.func (.func 215) #[] X) al;replace z:=z.set (.func (.func 215) #[] X);clear bf bj;generalize (O.setCell ⟨J,0,none⟩ (.func (.func 215) #[] X))=v1 at *;clear x;refine l.o _ _ ⟨H.1.c0,H.2.1.c0⟩ (fun x=>?_);clear l v;have bg:=A.cell;have bk:=A.frozen;refine aG [13] (cA ?_ aI);intro v l;go_simp;replace H:=H.nil (slv _ _ _) (slv _ _ _) A xO (.func (.func 215) #[] L);replace s:=Wy A s (.func (.func 215) #[] L);replace Z:=Z.nil A (.func (.func 215) #[] L);replace y:=y.nil A (.func (.func 215) #[] L);replace z:=iN z M 0 (.func (.func 215) #[] L) al;replace A:=A.set (.func (.func 215) #[] L);clear bg bk;generalize (v1.setCell ⟨M,0,none⟩ (.func (.func 215) #[] L))=v2 at *;refine l.o _ _ ⟨H.1.c0,H.2.1.c0⟩ (fun _=>gj ao ?_ _);clear l v x;go_wp2_with fail
    have uY:=N9 a d ca F sizes U 163 #[.pointer (some ⟨w.heap.size,0,none⟩),.pointer (some ⟨J,0,none⟩),.pointer (some ⟨w.heap.size+1,0,none⟩),.pointer (some ⟨M,0,none⟩)] (enters_of Tryz.func163 ao rfl) FL v2 (I.o.aa H.2.2.2.2) s dt.o uq.o jg.o (fun k hk V g=>by
     rw[AA.o k hk];(have ic:k<cnt (ag sizes) (ag U):=by rw[<- jg.o];exact hk);have hB:=H.2.2.2.2.trans (g.af H.2.2.2.2.size);refine akJ w.heap.size J (w.heap.size+1) M c c' cc jX X L la lb k _ _ (DN.o k ic) (vP.o k ic) V (aO H.1.lt g.size) ((g.cell (p:=⟨w.heap.size,1,none⟩) H.1.lt).trans H.1.c1) (aO z.lt g.size) (bc z g).cell (aO H.2.1.lt g.size) ((g.cell (p:=⟨w.heap.size+1,1,none⟩) H.2.1.lt).trans H.2.1.c1) (aO A.lt g.size) (bc A g).cell (a1.o.aa hB) (a6.o.aa hB) bd.o Z8.o ?_ ?_
     ·intro V' ab;have ae:=g.trans (ab.af g.size);exact(Z.aa ae).calls (I.o.aa (hB.trans (ab.af hB.size))) (s.aa ae) dt.o uq.o a8.o ic
     ·intro V' ab;have ae:=g.trans (ab.af g.size);exact(y.aa ae).calls (I.o.aa (hB.trans (ab.af hB.size))) (s.aa ae) dt.o uq.o bb.o ic)
    have D8:=hid uY;clear uY;refine D8.o.af ?_;rintro e w9 ⟨G,rfl,hG,bp,zN⟩;have br:=H.2.2.1.lt;replace H:=H.step zN;replace s:=s.aa zN;have bm:NR w w9 w.heap.size (w.heap.size+1+1) (.slice b D.length cb) (.slice c la.length cc):=⟨H.1,H.2.2.1,H.2.2.2.2⟩;obtain⟨k0,k1,f0,f1⟩:=H.2.2.1.facts;obtain⟨e1,e2,e3⟩:=bm.fin al (cb:=F) (cc:=FL.length) Ea.o al s bp al (.slice d U.length F) (.slice (some ⟨G,0,none⟩) FL.length FL.length) rfl rfl;go_wp2;refine cP (e1.result2 rfl _ rfl) rfl ?_;exact⟨e2,e3⟩
variable {S:Ki} {f:Nat ->Nat} {p:Rat}
theorem A4 (S:Ki) {g:Nat ->Nat}:∀ {vs:Ki},(∀u∈vs,f u=g u) ->pos S f vs=pos S g vs:=by
 intro vs h
 have e:∀(vs:Ki) (k:Nat),(∀u∈vs,f u=g u) ->vs.foldl (fun k v=>k*sz S v+f v) k=vs.foldl (fun k v=>k*sz S v+g v) k:=by
  intro vs;induction vs with
  |nil=>intro k _;rfl
  |cons v vs ih=>
   intro k h;rw[uJ,uJ,h v c5,ih _ fun u a=>h u (dM _ a)]
 exact e vs 0 h
theorem acG (S:Ki) (f:Nat ->Nat) (v:Nat) (vs:Ki):pos S f (v::vs)=f v*cnt S vs+pos S f vs:=by
 show vs.foldl (fun k v=>k*sz S v+f v) (0*sz S v+f v)=_;rw[SJ S f vs,nW,bH]
theorem IE (p:Pos S) (h:∀u,f u<sz S u):∀ {vs:Ki},vs.Nodup ->∀u∈vs,bA S vs (pos S f vs) u=f u
 |[],_,u,hu=>by cases hu
 |v::vs,hn,u,hu=>by
  rw[nZ] at hn;have l:=uP f h vs;have c:=K0 p vs;rw[acG,bA];by_cases e:u=v
  ·rw[aw e,e,eB,Nat.mul_add_div c,yQ l,iX]
  ·rw[aA e,eB,Nat.mul_add_mod,j6 l];exact IE p h hn.2 u ((bT.1 hu).resolve_left e)
theorem S2 (g:Nat ->Fr) (h:k<n):cT ((List.range n).map g) k=g k:=by
 rw[vA (by simpa using h)];simp
def G8 (most:Bool) (p q:Rat):Rat:=if most then(if p<q then q else p) else p+q
def kz (most:Bool) (g:Nat ->Rat):Nat ->Rat
 |0=>g 0
 |k+1=>G8 most (kz most g k) (g (k+1))
theorem agH:kH p q<0↔p<q:=by
 rw[kH];by_cases h:p<q
 ·rw[aw h];exact⟨fun _=>h,fun _=>bd⟩
 ·rw[aA h];by_cases e:p=q
  ·rw[aw e];exact⟨fun h=>absurd h bd,fun a=>absurd a h⟩
  ·rw[aA e];exact⟨fun h=>absurd h bd,fun a=>absurd a h⟩
theorem afQ (m:Bool) (T:Nat ->Fr):∀k,ba (mr m T k)=kz m (fun x=>ba (T x)) k
 |0=>rfl
 |k+1=>by
  rw[mr,kz, <- afQ m T k];cases m with
  |false=>simp only[G8,Bool.false_eq_true,if_false];exact nP _
  |true=>
   simp only[G8,if_true,great];by_cases h:kH (ba (mr true T k)) (ba (T (k+1)))<0
   ·rw[aw h,aw (agH.1 h)]
   ·rw[aA h,aA fun e=>h (agH.2 e)]
theorem QZ (m:Bool) {g h:Nat ->Rat}:∀ {k:Nat},(∀x,x<=k ->g x=h x) ->kz m g k=kz m h k
 |0,e=>e 0 (ah _)
 |k+1,e=>by rw[kz,kz,QZ m fun x a=>e x al,e (k+1) (ah _)]
theorem GN (f:Nat ->Nat) (x y:Nat) (h:u≠v):aM (aM f v x) u y=aM (aM f u y) v x:=by
 funext z
 simp only[aM];by_cases e:z=u
 ·rw[aw e,aA al,aw e]
 ·rw[aA e,aA e]
theorem ac2 {vars rest:Ki} (p:Pos S) (r:rest.Nodup) (b:∀u∈vars,u=v∨u∈rest) (m:Bool) (l:List Fr) (h:∀u,f u<sz S u):
  ba (cT (sN S vars rest v m l) (pos S f rest))=kz m (fun x=>ba (cT l (pos S (aM f v x) vars))) (sz S v - 1):=by
 rw[sN,S2 _ (uP f h rest),nP,afQ];refine QZ m fun x _=>?_;rw[A4 S (f:=aM (bA S rest (pos S f rest)) v x) (g:=aM f v x)];intro u a;simp only[aM];by_cases e:u=v
 ·rw[aw e,aw e]
 ·rw[aA e,aA e];exact IE p h r u ((b u a).resolve_left e)
theorem akH {v b U:Ki} (p:Pos S) (r:U.Nodup) (x:∀u∈v,u∈U) (m:∀u∈b,u∈U) (la lb:List Fr) (h:∀u,f u<sz S u):
  ba (cT (xQ S v b U la lb) (pos S f U))=ba (cT la (pos S f v))*ba (cT lb (pos S f b)):=by
 rw[xQ,S2 _ (uP f h U),nP,A4 S (f:=bA S U (pos S f U)) (g:=f) fun u a=>IE p h r u (x u a),A4 S (f:=bA S U (pos S f U)) (g:=f) fun u a=>IE p h r u (m u a)]
def Sml (s:Nat) (l:List Fr):Prop:=∀f∈l,∃q,f=qF q/\qw q<=s
theorem Zn (h:∀v,sz S v<=3):∀vs:Ki,cnt S vs<=3^vs.length
 |[]=>ah _
 |v::vs=>by rw[cnt,dV,jw,eB];exact kp (Zn h vs) (h v)
def fg (w:World) (B:Nat) (v:Value) (l:List Fr):Prop:=w.ownsRow B 63 3 v l.length (dO l)
theorem fg.empty (w:World) (B:Nat):fg w B (.slice none 0 0) []:=⟨rfl,.inl ⟨rfl,rfl⟩⟩
theorem fg.aa {B:Nat} {v:Value} {l:List Fr} (h:fg w B v l) (e:db w w'):fg w' B v l:=by
 refine⟨h.1,h.2.imp id ?_⟩;rintro⟨g,cap,r,b,c,a,d⟩;exact⟨g,cap,r,b,c,(e.block g (dD.1 a).1).trans a,d⟩
theorem fg.off {B:Nat} {v:Value} {l:List Fr} (h:fg w B v l) (b j:Nat) (y:Value) (f:b<B):fg (w.setCell ⟨b,j,none⟩ y) B v l:=by
 refine⟨h.1,h.2.imp id ?_⟩;rintro⟨g,cap,r,a,c,d,e⟩;exact⟨g,cap,r,a,c,(eN w ⟨b,j,none⟩ y g (by show g≠b;omega)).trans d,e⟩
theorem fg.own {B:Nat} {v:Value} {l:List Fr} (h:fg w B v l):∀k,v.ownBlock=some k ->B<=k:=by
 intro k a;rcases h.2 with ⟨rfl,_⟩ |⟨g,cap,c,rfl,b,_⟩
 ·cases a
 ·cases a;exact b
theorem fg.fr {B:Nat} {v:Value} {l:List Fr} (h:fg w B v l):∃d f,v=.slice d l.length f/\cE w d l:=by
 rcases h.2 with ⟨b,e⟩ |⟨g,cap,r,b,e,a,q,s,u,o⟩
 ·have:l=[]:=Gy.1 e;subst this;exact⟨none,0,b,fun k c=>absurd c aE⟩
 ·refine⟨_,_,b,fun k c=>?_⟩;obtain⟨i,m,n⟩:=SI l k c
  have t:∀j,j<l.length*3 ->r[j]? =(dO l)[j]?:=fun j p=>by
   rw[<- o,wy,aw p,AV]
  refine⟨g,0,rfl,(dD.1 a).1,?_,?_,?_⟩
  ·rw[bh w g _ _ _ (0,0) a,bH,t _ al];exact i
  ·rw[bh w g _ _ _ (0,0) a,bH,t _ al];exact m
  ·rw[bh w g _ _ _ (0,0) a,bH,t _ al];exact n
theorem fg.slv {B:Nat} {v:Value} {l:List Fr} (h:fg w B v l):cO v:=by
 obtain⟨d,c,e,_⟩:=h.fr;exact⟨d,_,c,e⟩
theorem afT (l:List Fr) (f:Fr):dO (l++[f])=dO l++[.bool f.1,.string f.2.1,.string f.2.2]:=by
 induction l with
 |nil=>rfl
 |cons x l ih=>simp only[fS,dO,ih]
theorem ahV {o:Oper} {a:Act} (p:o.guard=none) (s x:Operand)
  (k:o.op=.call {callee:=.builtin .append,args:= #[s,x],argTypes:= #[36,36]}) (base:Nat) (v:Value) (l:List Fr) (f:Fr) (hs:a.eval s=v) (t:fg w base v l) (g:Nat) (m:a.eval x=.slice (some ⟨g,0,none⟩) 1 1) (c:aJ w g f.1 f.2.1 f.2.2) (A:l.length+1<=100000) (y:base<=w.heap.size)
  (h:∀v' w',fg w' base v' (l++[f]) ->w.grownBy w' v.ownBlock ->wpList Tryz.prog ops Q rest (a.put o.dst v') w'):wpList Tryz.prog ops Q (o::rest) a w:=by
 obtain⟨n,D,z,q,r⟩:=eA Tryz.infoFrac;refine AE _ p s x 36 k base 63 n (.agg #[.bool false,.string ⟨#[]⟩,.string ⟨#[]⟩]) 3 40 Tryz.underlying36 D z q r rfl bd v l.length _ hs t ⟨g,0,none⟩ 1 1 [.bool f.1,.string f.2.1,.string f.2.2] m rfl ?_ ?_ (by unfold maxLen;omega) al y ?_
 ·intro j u b;match j,b with
  |0,b=>cases b;exact c.c0
  |1,b=>cases b;exact c.c1
  |2,b=>cases b;exact c.c2
  |j+3,b=>simp at b
 ·intro u d;simp only[bT,fR,iV] at d;rcases d with rfl |rfl |rfl<;>rfl
 ·intro v' w' e i _;refine h v' w' ?_ i;rw[fg,bU,afT];exact e
theorem KX {sizes vars:Kh} (h1:gI sizes) (a:Up vars sizes.length):countB sizes vars=true:=by
 rw[countB,iB];constructor
 ·rw[oP,iB,eG];refine⟨⟨h1.one,h1.eight⟩,eX.2 fun x c=>?_⟩;obtain⟨i,b,rfl⟩:=iI c;rw[CQ,eG];exact h1.each i b
 ·rw[dN,eX];intro i b;have h:=bM.1 b;rw[lI,eG,getD_eq h];refine⟨(a.each i h).1,(a.each i h).2,fun d=>?_⟩;rw[getD_eq (show i - 1<vars.length by omega)];exact a.lt (i - 1) i h al
theorem akA (a b:Kd) (ca cb:Nat) (sizes vars:Kh) (w:World) (hs:aC w a sizes) (v:aC w b vars) (Q:gI sizes) (T:Up vars sizes.length):
  da 55 #[.slice a sizes.length ca,.slice b vars.length cb] w (du w (.tuple #[.int .i64 (cnt (ag sizes) (ag vars):Nat),.int .i64 0])):=by
 have c:=Q.eight;have d:=T.length;have h:=akB a b ca cb sizes vars w hs v al al;rw[KY (KX Q T)] at h;exact h
structure TL (sizes vars:Kh) (l:List Fr) (s:Nat):Prop where
 up:Up vars sizes.length
 len:l.length=cnt (ag sizes) (ag vars)
 sml:Sml s l
theorem am7 {x v:Int}:x∈cI l v↔x∈l/\x≠v:=by simp[cI]
theorem EO {vars:Kh} (h:Up vars n) (u:Nat):∀x∈ag vars,x=u∨x∈ag (cI vars (u:Int)):=by
 intro x b;obtain⟨y,a,rfl⟩:=aH.1 b;have c:=(jM.1 h).1 y a;by_cases e:y=(u:Int)
 ·left;omega
 ·exact .inr (aH.2 ⟨y,am7.2 ⟨a,e⟩,rfl⟩)
theorem amb (t a:Nat) (c:Kd) (cc:Nat) (l:List Fr) (s:Rat) (k:Nat) (M:k<l.length) (w:World) (O:t<w.heap.size) (E:w.cell? ⟨t,1,none⟩=some (.slice c l.length cc)) (hs:aJ w a (bK s) (nu s) (de s)) (A:cE w c l) (h1:l[k].2.1.size+l[k].2.2.size<=100000) (y:(nu s).size+(de s).size<=100000):
  da 116 #[.int .i64 (k:Nat),.pointer (some ⟨t,0,none⟩),.pointer (some ⟨a,0,none⟩)] w (du w (kE (qF (ba l[k]*s)))):=by
 obtain⟨g,o,rfl,x,j,m,n⟩:=A k M;have H:=hid (fun V:World=>aga (w:=V) (ba l[k]*s) rfl (qG s) rfl h1 y);rw[SG];generalize ba l[k]*s=r at *;clear A h1 y;generalize l[k]=f at *;obtain⟨fn,fx,fy⟩:=f;simp only at j m n H;obtain⟨F,I,J, -⟩:=hs.facts;have z:=hs.lt;clear hs;have d:aJ (w.alloc (FC false ⟨#[]⟩ ⟨#[]⟩)) w.heap.size false ⟨#[]⟩ ⟨#[]⟩:=aJ.new w _ _ _;have b:db w (w.alloc (FC false ⟨#[]⟩ ⟨#[]⟩)):=(au _ w).alloc (ah _) _;go_enter Tryz.func116,Tryz.ntmps116;go_upto_region 1 with fail
 generalize (w.alloc (FC false ⟨#[]⟩ ⟨#[]⟩))=W at *;replace d:=d.drew;replace b:=b.drew;have L:∀u,db w u ->u.cell? ⟨t,1,none⟩=some (.slice (some ⟨g,o,none⟩) l.length cc)/\u.cell? ⟨g,o+k*3,none⟩=some (.bool fn)/\u.cell? ⟨g,o+k*3+1,none⟩=some (.string fx)/\u.cell? ⟨g,o+k*3+2,none⟩=some (.string fy)/\u.cell? ⟨a,0,none⟩=some (.bool (bK s))/\u.cell? ⟨a,1,none⟩=some (.string (nu s))/\u.cell? ⟨a,2,none⟩=some (.string (de s)):=fun u h=>⟨(h.cell (p:=⟨t,1,none⟩) O).trans E,(h.cell (p:=⟨g,_,none⟩) x).trans j,(h.cell (p:=⟨g,_,none⟩) x).trans m,(h.cell (p:=⟨g,_,none⟩) x).trans n,(h.cell (p:=⟨a,0,none⟩) z).trans F,(h.cell (p:=⟨a,1,none⟩) z).trans I,(h.cell (p:=⟨a,2,none⟩) z).trans J⟩;have HELD:=hid L;clear L j m n F I J E;refine jZ (S:=fun u=>u.cell? ⟨t,1,none⟩=some (.slice (some ⟨g,o,none⟩) l.length cc)/\u.cell? ⟨g,o+k*3,none⟩=some (.bool fn)/\u.cell? ⟨g,o+k*3+1,none⟩=some (.string fx)/\u.cell? ⟨g,o+k*3+2,none⟩=some (.string fy)/\u.cell? ⟨a,0,none⟩=some (.bool (bK s))/\u.cell? ⟨a,1,none⟩=some (.string (nu s))/\u.cell? ⟨a,2,none⟩=some (.string (de s))) ao (HELD.o _ b) (fun q=>?_);generalize W.drew=Z at *;refine az 0 (.pointer (some ⟨t,1,none⟩)) ?_;refine az 1 (.slice (some ⟨g,o,none⟩) l.length cc) ?_;refine az 2 (.int .i64 (k:Nat)) ?_;refine az 3 (.pointer (some ⟨g,o+k*3,none⟩)) ?_;refine az 4 (.agg #[.bool fn,.string fx,.string fy]) ?_;refine az 5 (.agg #[.bool (bK s),.string (nu s),.string (de s)]) ?_
 refine aG [6] (cA ?_ aI);intro i K;go_simp;refine(H.o _).af ?_;rintro e u1 ⟨rfl,v⟩;replace d:=d.aa v d.lt;replace b:=b.trans (v.af b.size);clear q;refine K.o _ _ (HELD.o _ b) (fun q=>?_);clear K i v;try simp only[gE,aP]
 obtain⟨U,X,Y,Q,R,T⟩:=d.facts;refine aG [7] (cA ?_ aI);intro i K;go_simp;have P:=d.put (bK r) (nu r) (de r);have D:=fL b (g:=w.heap.size) (ah _) (.bool (bK r)) (.string (nu r)) (.string (de r));generalize (((u1.setCell ⟨w.heap.size,0,none⟩ (.bool (bK r))).setCell ⟨w.heap.size,1,none⟩ (.string (nu r))).setCell ⟨w.heap.size,2,none⟩ (.string (de r)))=v9 at *;refine K.o _ _ (HELD.o _ D) (fun _=>gj ao ?_ _);clear K i q;go_wp2;refine cP (P.result rfl _ rfl) rfl ?_;exact⟨rfl,D⟩
theorem adF (l:List Fr):(xW l).length=l.length:=by simp[xW]
theorem ama (l:List Fr) (h:k<(xW l).length):(xW l)[k]=qF (ba (l[k]'(by rw[adF] at h;exact h))*(1/di l)):=by simp[xW]
theorem akD (h:q≠0):qw (1/q)<=qw q+1:=by
 have e:val (bK q) (nu q) (de q)≠0:=by rw[qG];exact h
 have a:=fun h=>e (L8.2 h);have b:1/q=val (bK q) (de q) (nu q):=by rw[UL _ _ _ (fun h=>a (.inl h)) (fun h=>a (.inr h)),qG,tH,wj]
 rw[b];refine aL (JO _ _ _) ?_;show (B q.den).size+(B q.num.natAbs).size+1<=qw q+1;rw[qw];omega
theorem aiM (a b c:Kd) (ca cb cc:Nat) (sizes vars:Kh) (l:List Fr) (w:World) (hs:aC w a sizes) (hv:aC w b vars) (X:cE w c l) (Z:sizes.length<=140737488355328) (Y:vars.length<=140737488355328) (E:kI sizes vars l.length=0) (hw:∀k (h:k<l.length),l[k].2.1.size+l[k].2.2.size<=40000) (L:∀k,k<=l.length ->qw (di (l.take k))<=40000) (dQ:l.length<=10000) (hz:di l=0):
  da 63 #[.slice a sizes.length ca,.agg #[.slice b vars.length cb,.slice c l.length cc]] w fun e w'=>um [] [] 3 e w'/\db w w':=by
 obtain⟨aQ,aT,ad⟩:=Dr E;have hq:=L l.length (ah _);rw[iY] at hq;have z:=fun V h1 h2=>GU a b c ca cb cc l.length sizes vars V h1 h2 Z Y;rw[E] at z;have z:=hid z;have J:=hid (fun V h=>Za c cc l V h hw L dQ);have O:=hid (fun V:World=>Iw (k:=1) (w:=V) 1 1 rfl bd (by rfl));have HS:=hid hs;have HV:=hid hv;have F:=hid X;have D:=hid (fun V:World=>ap3 (n:=bK 1) (x:=nu 1) (y:=de 1) (w:=V) ((qG (di l)).trans hz));clear hs hv X Z Y E hw L ad aT aQ hz;obtain⟨j,P⟩:∃d,false=d:=⟨_,rfl⟩;obtain⟨dx,R⟩:∃d:ByteArray,⟨#[]⟩=d:=⟨_,rfl⟩;obtain⟨m,Q⟩:∃d:ByteArray,⟨#[]⟩=d:=⟨_,rfl⟩
 have M:Hid (∀V:World,da 103 #[.agg #[.bool (bK 1),.string (nu 1),.string (de 1)],.agg #[.bool (bK (di l)),.string (nu (di l)),.string (de (di l))]] V fun e w'=>e=.returned (.tuple #[.agg #[.bool j,.string dx,.string m],.int .i64 3])/\db V w'):=by
  rw[<- P, <- R, <- Q];exact D
 clear D P R Q;have D:=M;clear M;obtain⟨p,I⟩:∃d:Int,3=d:=⟨_,rfl⟩;rw[I] at D;have Nz:(p==0)=false:=by rw[<- I];rfl
 have tZ:¬p=0:=al
 have H:=NH.new w (.slice b vars.length cb) (.slice c l.length cc);have c0:=H.1.c0;have c1:=H.1.c1;go_enter Tryz.func63,Tryz.ntmps63;go_wp2_with fail
 generalize ((w.alloc (TC (.slice b vars.length cb) (.slice c l.length cc))).alloc (TC (.slice none 0 0) (.slice none 0 0)))=W at *;refine(z.o _ (HS.o.aa H.2.2) (HV.o.aa H.2.2)).af ?_;rintro e w1 ⟨rfl,ab⟩;replace H:=H.step ab;clear c0 c1 ab z;go_upto_region 4 with fail
 replace H:=H.drew;refine jZ (S:=fun u=>u.cell? ⟨w.heap.size,1,none⟩=some (.slice c l.length cc)) ao H.1.c1 (fun q=>?_);generalize w1.drew=t at *;refine az 1 (.pointer (some ⟨w.heap.size,1,none⟩)) ?_;refine az 2 (.slice c l.length cc) ?_;refine aG [0,8] (cA ?_ (cA ?_ aI))
 focus
  intro g K;go_simp;refine(O.o _).af ?_;rintro e u1 ⟨rfl,f⟩;replace H:=H.step f;clear q;refine K.o _ _ H.1.c1 (fun q=>?_);clear K g f;refine aG [3,8] (cA ?_ (cA ?_ aI))
  focus
   intro g K;go_simp;refine(J.o _ (F.o.aa H.2.2)).af ?_;rintro e u2 ⟨rfl,f⟩;replace H:=H.step f;clear q;refine K.o _ _ H.1.c1 (fun q=>?_);clear K g f;refine aG [4,8] (cA ?_ (cA ?_ aI))
   focus
    intro g K;go_simp;refine(D.o _).af ?_;rintro e r ⟨rfl,f⟩;replace H:=H.step f;clear q;refine K.o _ _ H.1.c1 (fun q=>?_);clear K g f;refine az 5 (.tuple #[.agg #[.bool j,.string dx,.string m],.int .i64 p]) ?_;refine az 6 (.agg #[.bool j,.string dx,.string m]) ?_;refine az 7 (.int .i64 p) ?_;refine aG [8] (cA ?_ aI);intro g K;go_simp;have f:db r (r.alloc (FC false ⟨#[]⟩ ⟨#[]⟩)):=(au _ r).alloc (ah _) _;have i:aJ (r.alloc (FC false ⟨#[]⟩ ⟨#[]⟩)) r.heap.size false ⟨#[]⟩ ⟨#[]⟩:=aJ.new r _ _ _;have v:=H.lt;replace H:=H.step f;clear q;refine K.o _ _ H.1.c1 (fun q=>?_);clear K g f;generalize (r.alloc (FC false ⟨#[]⟩ ⟨#[]⟩))=A at *;generalize r.heap.size=s at *
   rotate_left
   focus
    intro g K;go_simp;have f:db u2 (u2.alloc (FC false ⟨#[]⟩ ⟨#[]⟩)):=(au _ u2).alloc (ah _) _;have i:aJ (u2.alloc (FC false ⟨#[]⟩ ⟨#[]⟩)) u2.heap.size false ⟨#[]⟩ ⟨#[]⟩:=aJ.new u2 _ _ _;have v:=H.lt;replace H:=H.step f;clear q;refine K.o _ _ H.1.c1 (fun q=>?_);clear K g f;generalize (u2.alloc (FC false ⟨#[]⟩ ⟨#[]⟩))=r at *;generalize u2.heap.size=s at *;refine aG [4] (cA ?_ aI);intro g K;go_simp;refine(D.o _).af ?_;rintro e A ⟨rfl,f⟩;replace H:=H.step f;replace i:=i.aa f i.lt;clear q;refine K.o _ _ H.1.c1 (fun q=>?_);clear K g f;refine az 5 (.tuple #[.agg #[.bool j,.string dx,.string m],.int .i64 p]) ?_;refine az 6 (.agg #[.bool j,.string dx,.string m]) ?_;refine az 7 (.int .i64 p) ?_
  rotate_left 2
  focus
   intro g K;go_simp;have f:db u1 (u1.alloc (FC false ⟨#[]⟩ ⟨#[]⟩)):=(au _ u1).alloc (ah _) _;have i:aJ (u1.alloc (FC false ⟨#[]⟩ ⟨#[]⟩)) u1.heap.size false ⟨#[]⟩ ⟨#[]⟩:=aJ.new u1 _ _ _;have v:=H.lt;replace H:=H.step f;clear q;refine K.o _ _ H.1.c1 (fun q=>?_);clear K g f;generalize (u1.alloc (FC false ⟨#[]⟩ ⟨#[]⟩))=u2 at *;generalize u1.heap.size=s at *;refine aG [3] (cA ?_ aI);intro g K;go_simp;refine(J.o _ (F.o.aa H.2.2)).af ?_;rintro e r ⟨rfl,f⟩;replace H:=H.step f;replace i:=i.aa f i.lt;clear q;refine K.o _ _ H.1.c1 (fun q=>?_);clear K g f;refine aG [4] (cA ?_ aI);intro g K;go_simp;refine(D.o _).af ?_;rintro e A ⟨rfl,f⟩;replace H:=H.step f;replace i:=i.aa f i.lt;clear q;refine K.o _ _ H.1.c1 (fun q=>?_);clear K g f;refine az 5 (.tuple #[.agg #[.bool j,.string dx,.string m],.int .i64 p]) ?_;refine az 6 (.agg #[.bool j,.string dx,.string m]) ?_;refine az 7 (.int .i64 p) ?_
 rotate_left 3
 focus
  intro g K;go_simp;have f:db t (t.alloc (FC false ⟨#[]⟩ ⟨#[]⟩)):=(au _ t).alloc (ah _) _;have i:aJ (t.alloc (FC false ⟨#[]⟩ ⟨#[]⟩)) t.heap.size false ⟨#[]⟩ ⟨#[]⟩:=aJ.new t _ _ _;have v:=H.lt;replace H:=H.step f;clear q;refine K.o _ _ H.1.c1 (fun q=>?_);clear K g f;generalize (t.alloc (FC false ⟨#[]⟩ ⟨#[]⟩))=u1 at *;generalize t.heap.size=s at *;refine aG [0] (cA ?_ aI);intro g K;go_simp;refine(O.o _).af ?_;rintro e u2 ⟨rfl,f⟩;replace H:=H.step f;replace i:=i.aa f i.lt;clear q;refine K.o _ _ H.1.c1 (fun q=>?_);clear K g f;refine aG [3] (cA ?_ aI);intro g K;go_simp;refine(J.o _ (F.o.aa H.2.2)).af ?_;rintro e r ⟨rfl,f⟩;replace H:=H.step f;replace i:=i.aa f i.lt;clear q;refine K.o _ _ H.1.c1 (fun q=>?_);clear K g f;refine aG [4] (cA ?_ aI);intro g K;go_simp;refine(D.o _).af ?_;rintro e A ⟨rfl,f⟩;replace H:=H.step f;replace i:=i.aa f i.lt;clear q;refine K.o _ _ H.1.c1 (fun q=>?_);clear K g f;refine az 5 (.tuple #[.agg #[.bool j,.string dx,.string m],.int .i64 p]) ?_;refine az 6 (.agg #[.bool j,.string dx,.string m]) ?_;refine az 7 (.int .i64 p) ?_
 all_goals
  try simp only[gE,aP]
  obtain⟨k0,k1,k2,T,U,f2⟩:=i.facts;refine aG [9] (cA ?_ aI);intro g K;go_simp;have h8:=i.put j dx m;replace H:=((H.off s 0 (.bool j) v).off s 1 (.string dx) v).off s 2 (.string m) v;clear k0 k1 k2 T U f2 i;generalize (((A.setCell ⟨s,0,none⟩ (.bool j)).setCell ⟨s,1,none⟩ (.string dx)).setCell ⟨s,2,none⟩ (.string m))=v9 at *;clear q;refine K.o _ _ H.1.c1 (fun q=>?_);clear K g;refine az 10 (.int .i64 p) ?_;try simp only[gE,aP]
  refine gj ao ?_ _;obtain⟨k0,k1,T,U⟩:=H.2.1.facts;go_wp2;refine cP ((H.2.1.put _ _).result2 rfl _ rfl) rfl ?_;exact⟨by rw[<- I];exact um.empty 3 _,qU H.2.2 al _ _⟩
theorem aiN (a b c:Kd) (ca cb cc:Nat) (sizes vars:Kh) (l:List Fr) (w:World) (hs:aC w a sizes) (hv:aC w b vars) (hf:cE w c l) (hn:sizes.length<=140737488355328) (hm:vars.length<=140737488355328) (z:kI sizes vars l.length=0) (Y:∀k (h:k<l.length),l[k].2.1.size+l[k].2.2.size<=40000) (tS:∀k,k<=l.length ->qw (di (l.take k))<=40000) (dQ:l.length<=10000) (Z:di l≠0):
  da 63 #[.slice a sizes.length ca,.agg #[.slice b vars.length cb,.slice c l.length cc]] w fun e w'=>um vars (xW l) 0 e w'/\db w w':=by
 obtain⟨Q,T,ai⟩:=Dr z;have hq:=tS l.length (ah _);rw[iY] at hq;have I:=fun V U X=>GU a b c ca cb cc l.length sizes vars V U X hn hm;rw[z] at I;have I:=hid I;have mS:=hid (fun V h=>Za c cc l V h Y tS dQ);have HO:=hid (fun V:World=>Iw (k:=1) (w:=V) 1 1 rfl bd (by rfl));have HS:=hid hs;have HV:=hid hv;have J:=hid hf;have HN:=hid (fun V Bs (k:Nat) (z:k<l.length) (U:w.heap.size<V.heap.size) (X:V.cell? ⟨w.heap.size,1,none⟩=some (.slice c l.length cc)) (h3:aJ V Bs (bK (1/di l)) (nu (1/di l)) (de (1/di l))) (h4:cE V c l)=>amb w.heap.size Bs c cc l (1/di l) k z V U X h3 h4 (aL (Y k z) bd) (by have:=akD Z;show qw (1/di l)<=100000;omega));have D:=hid (fun V:World=>ap5 (n:=bK 1) (x:=nu 1) (y:=de 1) (w:=V) (1/di l) (qG 1) (qG (di l)) Z rfl (show qw 1<=100000 by have:=JO false (B 1) (B 1);exact aL (by decide+kernel) (ah 100000)) (show qw (di l)<=100000 by omega));have Tz:Hid (∀(k:Nat) (h:k<(xW l).length) (h':k<l.length),(xW l)[k]=qF (ba l[k]*(1/di l))):=fun k h _=>ama l h;have ak:=adF l;clear hs hv hf hn hm z Y tS Z hq;have dt:=hid Q;have ll:=hid T;have av:=hid ai;have WV:=T.length;have sU:=Q.eight;clear ai T Q;generalize xW l=NL at *;generalize 1/di l=r at *;obtain⟨m,Ic⟩:∃d,bK r=d:=⟨_,rfl⟩;obtain⟨dx,Ny⟩:∃d:ByteArray,nu r=d:=⟨_,rfl⟩;obtain⟨s,Nx⟩:∃d:ByteArray,de r=d:=⟨_,rfl⟩;rw[Ic,Ny,Nx] at D HN;clear Ic Ny Nx;obtain⟨v,O⟩:∃d:Int,0=d:=⟨_,rfl⟩;rw[O] at D;have Nz:(v==0)=true:=by rw[<- O];rfl
 clear O;have H:=NH.new w (.slice b vars.length cb) (.slice c l.length cc);have P:=H.1.c0;have c1:=H.1.c1;go_enter Tryz.func63,Tryz.ntmps63;go_wp2_with fail
 generalize ((w.alloc (TC (.slice b vars.length cb) (.slice c l.length cc))).alloc (TC (.slice none 0 0) (.slice none 0 0)))=W at *;refine(I.o _ (HS.o.aa H.2.2) (HV.o.aa H.2.2)).af ?_;rintro e w1 ⟨rfl,ad⟩;replace H:=H.step ad;clear P c1 ad I;go_upto_region 4 with fail
 replace H:=H.drew;refine jZ (S:=fun u=>u.cell? ⟨w.heap.size,1,none⟩=some (.slice c l.length cc)) ao H.1.c1 (fun q=>?_);generalize w1.drew=A at *;refine az 1 (.pointer (some ⟨w.heap.size,1,none⟩)) ?_;refine az 2 (.slice c l.length cc) ?_;refine aG [0,8] (cA ?_ (cA ?_ aI))
 focus
  intro g K;go_simp;refine(HO.o _).af ?_;rintro e u1 ⟨rfl,f⟩;replace H:=H.step f;clear q;refine K.o _ _ H.1.c1 (fun q=>?_);clear K g f;refine aG [3,8] (cA ?_ (cA ?_ aI))
  focus
   intro g K;go_simp;refine(mS.o _ (J.o.aa H.2.2)).af ?_;rintro e u2 ⟨rfl,f⟩;replace H:=H.step f;clear q;refine K.o _ _ H.1.c1 (fun q=>?_);clear K g f;refine aG [4,8] (cA ?_ (cA ?_ aI))
   focus
    intro g K;go_simp;refine(D.o _).af ?_;rintro e t ⟨rfl,f⟩;replace H:=H.step f;clear q;refine K.o _ _ H.1.c1 (fun q=>?_);clear K g f;refine az 5 (.tuple #[.agg #[.bool m,.string dx,.string s],.int .i64 v]) ?_;refine az 6 (.agg #[.bool m,.string dx,.string s]) ?_;refine az 7 (.int .i64 v) ?_;refine aG [8] (cA ?_ aI);intro g K;go_simp;have f:db t (t.alloc (FC false ⟨#[]⟩ ⟨#[]⟩)):=(au _ t).alloc (ah _) _;have i:aJ (t.alloc (FC false ⟨#[]⟩ ⟨#[]⟩)) t.heap.size false ⟨#[]⟩ ⟨#[]⟩:=aJ.new t _ _ _;have E:=H.lt;replace H:=H.step f;clear q;refine K.o _ _ H.1.c1 (fun q=>?_);clear K g f;generalize (t.alloc (FC false ⟨#[]⟩ ⟨#[]⟩))=L at *;generalize t.heap.size=j at *
   rotate_left
   focus
    intro g K;go_simp;have f:db u2 (u2.alloc (FC false ⟨#[]⟩ ⟨#[]⟩)):=(au _ u2).alloc (ah _) _;have i:aJ (u2.alloc (FC false ⟨#[]⟩ ⟨#[]⟩)) u2.heap.size false ⟨#[]⟩ ⟨#[]⟩:=aJ.new u2 _ _ _;have E:=H.lt;replace H:=H.step f;clear q;refine K.o _ _ H.1.c1 (fun q=>?_);clear K g f;generalize (u2.alloc (FC false ⟨#[]⟩ ⟨#[]⟩))=t at *;generalize u2.heap.size=j at *;refine aG [4] (cA ?_ aI);intro g K;go_simp;refine(D.o _).af ?_;rintro e L ⟨rfl,f⟩;replace H:=H.step f;replace i:=i.aa f i.lt;clear q;refine K.o _ _ H.1.c1 (fun q=>?_);clear K g f;refine az 5 (.tuple #[.agg #[.bool m,.string dx,.string s],.int .i64 v]) ?_;refine az 6 (.agg #[.bool m,.string dx,.string s]) ?_;refine az 7 (.int .i64 v) ?_
  rotate_left 2
  focus
   intro g K;go_simp;have f:db u1 (u1.alloc (FC false ⟨#[]⟩ ⟨#[]⟩)):=(au _ u1).alloc (ah _) _;have i:aJ (u1.alloc (FC false ⟨#[]⟩ ⟨#[]⟩)) u1.heap.size false ⟨#[]⟩ ⟨#[]⟩:=aJ.new u1 _ _ _;have E:=H.lt;replace H:=H.step f;clear q;refine K.o _ _ H.1.c1 (fun q=>?_);clear K g f;generalize (u1.alloc (FC false ⟨#[]⟩ ⟨#[]⟩))=u2 at *;generalize u1.heap.size=j at *;refine aG [3] (cA ?_ aI);intro g K;go_simp;refine(mS.o _ (J.o.aa H.2.2)).af ?_;rintro e t ⟨rfl,f⟩;replace H:=H.step f;replace i:=i.aa f i.lt;clear q;refine K.o _ _ H.1.c1 (fun q=>?_);clear K g f;refine aG [4] (cA ?_ aI);intro g K;go_simp;refine(D.o _).af ?_;rintro e L ⟨rfl,f⟩;replace H:=H.step f;replace i:=i.aa f i.lt;clear q;refine K.o _ _ H.1.c1 (fun q=>?_);clear K g f;refine az 5 (.tuple #[.agg #[.bool m,.string dx,.string s],.int .i64 v]) ?_;refine az 6 (.agg #[.bool m,.string dx,.string s]) ?_;refine az 7 (.int .i64 v) ?_
 rotate_left 3
 focus
  intro g K;go_simp;have f:db A (A.alloc (FC false ⟨#[]⟩ ⟨#[]⟩)):=(au _ A).alloc (ah _) _;have i:aJ (A.alloc (FC false ⟨#[]⟩ ⟨#[]⟩)) A.heap.size false ⟨#[]⟩ ⟨#[]⟩:=aJ.new A _ _ _;have E:=H.lt;replace H:=H.step f;clear q;refine K.o _ _ H.1.c1 (fun q=>?_);clear K g f;generalize (A.alloc (FC false ⟨#[]⟩ ⟨#[]⟩))=u1 at *;generalize A.heap.size=j at *;refine aG [0] (cA ?_ aI);intro g K;go_simp;refine(HO.o _).af ?_;rintro e u2 ⟨rfl,f⟩;replace H:=H.step f;replace i:=i.aa f i.lt;clear q;refine K.o _ _ H.1.c1 (fun q=>?_);clear K g f;refine aG [3] (cA ?_ aI);intro g K;go_simp;refine(mS.o _ (J.o.aa H.2.2)).af ?_;rintro e t ⟨rfl,f⟩;replace H:=H.step f;replace i:=i.aa f i.lt;clear q;refine K.o _ _ H.1.c1 (fun q=>?_);clear K g f;refine aG [4] (cA ?_ aI);intro g K;go_simp;refine(D.o _).af ?_;rintro e L ⟨rfl,f⟩;replace H:=H.step f;replace i:=i.aa f i.lt;clear q;refine K.o _ _ H.1.c1 (fun q=>?_);clear K g f;refine az 5 (.tuple #[.agg #[.bool m,.string dx,.string s],.int .i64 v]) ?_;refine az 6 (.agg #[.bool m,.string dx,.string s]) ?_;refine az 7 (.int .i64 v) ?_
 all_goals
  try simp only[gE,aP]
  obtain⟨k0,k1,k2,f0,f1,f2⟩:=i.facts;refine aG [9] (cA ?_ aI);intro g K;go_simp;have F:=i.put m dx s;replace H:=((H.off j 0 (.bool m) E).off j 1 (.string dx) E).off j 2 (.string s) E;clear k0 k1 k2 f0 f1 f2 i;generalize (((L.setCell ⟨j,0,none⟩ (.bool m)).setCell ⟨j,1,none⟩ (.string dx)).setCell ⟨j,2,none⟩ (.string s))=v9 at *;clear q;refine K.o _ _ H.1.c1 (fun q=>?_);clear K g;refine az 10 (.int .i64 v) ?_;try simp only[gE,aP]
  refine gj ao ?_ _;have P:=H.1.c0;go_wp2_with fail
  refine(JJ b cb vars _ (HV.o.aa H.2.2) al).af ?_;rintro e w2 ⟨x,rfl,an,ab⟩;obtain⟨d,R,rfl,M⟩:=an.ints;clear P an;replace H:=H.step ab;replace F:=F.aa ab F.lt;clear ab;have aj:=H.1.lt;have uY:=N9 a d ca R sizes vars 116 #[.pointer (some ⟨w.heap.size,0,none⟩),.pointer (some ⟨j,0,none⟩)] (enters_of Tryz.func116 ao rfl) NL w2 (HS.o.aa H.2.2) M dt.o ll.o (by rw[ak];exact av.o) (fun k z V f=>by rw[Tz.o k z al];exact HN.o V j k al (aO aj f.size) ((f.cell (p:=⟨w.heap.size,1,none⟩) aj).trans H.1.c1) (F.aa f F.lt) (J.o.aa (H.2.2.trans (f.af H.2.2.size))));have D8:=hid uY;clear uY;go_wp2_with fail
  refine D8.o.af ?_;rintro e w3 ⟨G,rfl,hG,ax,ae⟩;have ay:=H.lt;replace H:=H.step ae;replace M:=M.aa ae;obtain⟨k0,k1,f0,f1⟩:=H.2.1.facts;obtain⟨e1,e2,e3⟩:=H.fin (cb:=R) (cc:=l.length) M ax al (.slice d vars.length R) (.slice (some ⟨G,0,none⟩) l.length l.length) rfl (by rw[ak]);go_wp2;refine cP (e1.result2 rfl _ rfl) rfl ?_;exact⟨e2,e3⟩
theorem bJ.aa {B:Nat} {v:Value} (h:bJ w B v l) (e:db w w'):bJ w' B v l:=by
 refine⟨h.1,h.2.imp id ?_⟩;rintro⟨g,cap,r,b,c,a,d⟩;exact⟨g,cap,r,b,c,(e.block g (dD.1 a).1).trans a,d⟩
theorem bJ.intS {B:Nat} {d:Kd} {c:Nat} {U:Kh} (h:bJ w B (.slice d U.length c) U):aC w d U:=by
 obtain⟨a,b,e,i⟩:=h.ints;cases e;exact i
def xR (c:Int) (n:Nat):Nat:=(if c<0 then(-(c+1)).toNat else c.toNat) % n
theorem JU (c:Int) (h:1<=n):xR c n<n:=ji _ h
theorem acg (c:Int) (n:Nat) (w:World) (h1: -9223372036854775808<=c) (f:c<=9223372036854775807) (b:1<=n) (i:n<=1000):
  da 21 #[.int .i64 c,.int .i64 (n:Nat)] w fun e w'=>e=.returned (.int .i64 (xR c n:Nat))/\w'=w:=by
 have H:Hid (xR c n=(if c<0 then(-(c+1)).toNat else c.toNat) % n):=rfl;have l:=JU c b;generalize xR c n=P at *;by_cases h:c<0
 ·rw[aw h] at H;obtain⟨d,a⟩:∃d:Nat,c= -((d:Int)+1):=⟨(-(c+1)).toNat,al⟩;subst a
  have E:Hid ((d:Int) % (n:Int)=(P:Int)):=by
   show _=_;rw[H.o,show (-(-((d:Int)+1)+1)).toNat=d by omega,wB]
  have g:IntKind.i64.wrap (-((d:Int)+1)+1)= -(d:Int):=by rw[jk];omega
  have j:IntKind.i64.wrap (- -(d:Int))=(d:Int):=by rw[jk];omega
  go_enter Tryz.func21,Tryz.ntmps21;go_wp2;go_ret;exact⟨by rw[E.o];rfl,rfl⟩
 ·rw[aA h] at H;obtain⟨d,rfl⟩:∃d:Nat,c=d:=⟨c.toNat,al⟩
  have E:Hid ((d:Int) % (n:Int)=(P:Int)):=by
   show _=_;rw[H.o,qE,wB]
  go_enter Tryz.func21,Tryz.ntmps21;go_wp2;go_ret;exact⟨by rw[E.o];rfl,rfl⟩
theorem Ms (c:Int) (n:Nat) (w:World) (h1: -9223372036854775808<=c) (a:c<=9223372036854775807) (b:1<=n) (d:n<=1000):
  da 21 #[.int .i64 c,.int .i64 (n:Nat)] w (du w (.int .i64 (xR c n:Nat))):=by
 refine(acg c n w h1 a b d).af ?_;rintro e w' ⟨h,rfl⟩;exact⟨h,au _ _⟩
variable {x':Value}
theorem cE.farT {V:World} {c:Kd} {l:List Fr} (h:cE V c l) (n:bw V g x y) (q:cO x) (r:cO y) (j:Nat) (u:Value):cE (V.setCell ⟨g,j,none⟩ u) c l:=fun k p=>by
 obtain⟨g',o,rfl,t,a,b,d⟩:=h k p;obtain⟨v,D,z,rfl⟩:=q;obtain⟨w,E,A,rfl⟩:=r
 have s:¬g'=g:=fun e=>by
  subst e;rw[bh V g' _ _ _ (0,0) n] at a;match hm:o+k*3 with
  |0=>rw[hm] at a;simp at a
  |1=>rw[hm] at a;simp at a
  |m+2=>rw[hm] at a;simp at a
 have f:∀i,(V.setCell ⟨g,j,none⟩ u).cell? ⟨g',i,none⟩=V.cell? ⟨g',i,none⟩:=fun i=>fN _ _ _ _ (fun e=>s (ed Addr.block e).symm);exact⟨g',o,rfl,aO t (jD V _ _).size,(f _).trans a,(f _).trans b,(f _).trans d⟩
theorem cE.putT {V:World} {c:Kd} {l:List Fr} (h:cE V c l) (b:bw V g x y) (e:cO x) (a:cO y) (i:cO x') (f:Value):cE ((V.setCell ⟨g,0,none⟩ x').setCell ⟨g,1,none⟩ f) c l:=by
 have d:bw (V.setCell ⟨g,0,none⟩ x') g x' y:=kn V g 0 _ _ x' b;exact(h.farT b e a 0 _).farT d i a 1 _
variable {K:Act ->World ->Prop}
theorem ahP {o:Oper} {a:Act} (s x:Operand)
  (k:o.op=.call {callee:=.builtin .append,args:= #[s,x],argTypes:= #[36,36]}) (base:Nat) (v:Value) (l:List Fr) (f:Fr) (hs:a.eval s=v) (r:fg w base v l) (g:Nat) (m:a.eval x=.slice (some ⟨g,0,none⟩) 1 1) (c:aJ w g f.1 f.2.1 f.2.2) (y:l.length+1<=100000) (t:base<=w.heap.size)
  (h:∀v' w',fg w' base v' (l++[f]) ->w.grownBy w' v.ownBlock ->K (a.put o.dst v') w'):o.wp Tryz.prog a w K Q:=by
 obtain⟨n,D,z,p,q⟩:=eA Tryz.infoFrac;refine wp_append_own _ s x 36 k base 63 n (.agg #[.bool false,.string ⟨#[]⟩,.string ⟨#[]⟩]) 3 40 Tryz.underlying36 D z p q rfl bd v l.length _ hs r ⟨g,0,none⟩ 1 1 [.bool f.1,.string f.2.1,.string f.2.2] m rfl ?_ ?_ (by unfold maxLen;omega) al t ?_
 ·intro j u b;match j,b with
  |0,b=>cases b;exact c.c0
  |1,b=>cases b;exact c.c1
  |2,b=>cases b;exact c.c2
  |j+3,b=>simp at b
 ·intro u d;simp only[bT,fR,iV] at d;rcases d with rfl |rfl |rfl<;>rfl
 ·intro v' w' e i _;refine h v' w' ?_ i;rw[fg,bU,afT];exact e
theorem am3 (k:Int):mkRat k 1=(k:Rat):=by
 rw[Rat.mkRat_one]
def Hi (c:Nat):Bool:=decide (97<=c/\c<=122)
def Ob (c:Nat):Bool:=decide (48<=c/\c<=57)
def xN (c:Nat):Bool:=Hi c ||Ob c ||decide (c=95)
def CD (s:ByteArray):Bool:=(s.data.toList.all fun c=>xN c.toNat)&&Hi (s.data.toList.headD 0).toNat
def isVar (s:ByteArray):Bool:=s.toList==[118,97,114]
def MP (s:ByteArray):Bool:=s.toList==[101,108,115,101]
def Bc (s:ByteArray):Bool:=decide (s.size<=12)&&!isVar s&&!MP s&&CD s
theorem adR (c:Nat) (w:World):da 271 #[.int .u8 (c:Nat)] w fun e w'=>e=.returned (.bool (Hi c))/\w'=w:=by
 rw[Hi];by_cases a:97<=c
 ·have E:Hid (decide ((c:Int)<=122)=decide (97<=c/\c<=122)):=Ej.2 ⟨fun h=>⟨a,al⟩,fun h=>al⟩;have b:(97:Int)<=(c:Int):=al
  go_enter Tryz.func271,Tryz.ntmps271;go_wp2;go_ret;exact⟨by rw[<- E.o];rfl,rfl⟩
 ·have E:Hid (decide (97<=c/\c<=122)=false):=cF fun h=>a h.1;rw[E.o];have b:(c:Int)<97:=al
  clear a;go_enter Tryz.func271,Tryz.ntmps271;go_wp2;go_ret;exact⟨rfl,rfl⟩
theorem amC (c:Nat) (w:World):da 288 #[.int .u8 (c:Nat)] w fun e w'=>e=.returned (.bool (Ob c))/\w'=w:=by
 rw[Ob];by_cases a:48<=c
 ·have E:Hid (decide ((c:Int)<=57)=decide (48<=c/\c<=57)):=Ej.2 ⟨fun h=>⟨a,al⟩,fun h=>al⟩;have b:(48:Int)<=(c:Int):=al
  go_enter Tryz.func288,Tryz.ntmps288;go_wp2;go_ret;exact⟨by rw[<- E.o];rfl,rfl⟩
 ·have E:Hid (decide (48<=c/\c<=57)=false):=cF fun h=>a h.1;rw[E.o];have b:(c:Int)<48:=al
  clear a;go_enter Tryz.func288,Tryz.ntmps288;go_wp2;go_ret;exact⟨rfl,rfl⟩
theorem amA (c:Nat) (w:World):da 270 #[.int .u8 (c:Nat)] w fun e w'=>e=.returned (.bool (xN c))/\w'=w:=by
 have H:Hid (xN c=(Hi c ||Ob c ||decide (c=95))):=rfl;have L:=hid (adR c);have F:=hid (amC c);generalize xN c=r at *;go_enter Tryz.func270,Tryz.ntmps270;go_wp2_with fail
 refine(L.o _).af ?_;rintro e a ⟨rfl,rfl⟩;cases hl:Hi c with
 |true=>
  rw[hl] at H;have E:Hid (r=true):=H.o;clear hl;go_wp2;go_ret;exact⟨by rw[E.o];rfl,rfl⟩
 |false=>
  rw[hl] at H;go_wp2_with fail
  refine(F.o _).af ?_;rintro e b ⟨rfl,rfl⟩;cases hf:Ob c with
  |true=>
   rw[hf] at H;have E:Hid (r=true):=H.o;clear hl hf;go_wp2;go_ret;exact⟨by rw[E.o];rfl,rfl⟩
  |false=>
   rw[hf] at H
   have E:Hid (r=((c:Int)==95)):=by
    show _=_;rw[H.o,Bool.false_or,Bool.false_or,xL,eG,xG];omega
   clear hl hf;go_wp2;go_ret;exact⟨by rw[E.o];rfl,rfl⟩
theorem aiA {s:ByteArray} (h:k<s.size):s.data.toList.take (k+1)=s.data.toList.take k++[s[k]]:=by
 have a:k<s.data.toList.length:=by simpa using h
 rw[im a];rfl
theorem ah4 {s:ByteArray} (h:k<s.size) (e:xN s[k].toNat=false):CD s=false:=by
 have m:s[k]∈s.data.toList:=by
  have:s.data.toList[k]'(by simpa using h)=s[k]:=rfl;rw[<- this];exact bP _
 have:(s.data.toList.all fun c=>xN c.toNat)=false:=by
  rw[L0];exact⟨_,m,by rw[e];decide⟩
 rw[CD,this];rfl
theorem aoL {s:ByteArray} (h:0<s.size):s.data.toList.headD 0=s[0]:=by
 obtain⟨⟨l⟩⟩:=s;cases l with
 |nil=>exact absurd h bd
 |cons c l=>rfl
theorem ah2 {s:ByteArray} (h:0<s.size) (e:(s.data.toList.take s.size).all (fun c=>xN c.toNat)=true):CD s=Hi s[0].toNat:=by
 have a:s.data.toList.all (fun c=>xN c.toNat)=true:=by
  rwa [kP aE] at e
 rw[CD,a,GI,aoL h]
theorem amz (s:ByteArray) (w:World) (hs:s.size<=140737488355328):
  da 237 #[.string s] w fun e w'=>e=.returned (.bool (Bc s))/\w'=w:=by
 have H:Hid (Bc s=(decide (s.size<=12)&&!isVar s&&!MP s&&CD s)):=rfl;have Z:=hid (fun k h e=>ah4 (s:=s) (k:=k) h e);have n:=hid (fun h e=>ah2 (s:=s) h e)
 have m:Hid (s.size=0 ->CD s=false):=fun h=>by
  have:s.data.toList=[]:=Gy.1 (by rw[GL];exact h);rw[CD,this];rfl
 generalize Bc s=nb at *;generalize CD s=j at *;by_cases a:s.size=0
 ·have E:Hid (nb=false):=by show _=_;rw[H.o,m.o a];simp
  have b:(s.size:Int)<1:=al
  clear a H;go_enter Tryz.func237,Tryz.ntmps237;go_wp2;go_ret;exact⟨by rw[E.o];rfl,rfl⟩
 by_cases p:12<s.size
 ·have E:Hid (nb=false):=by show _=_;rw[H.o,cF (show ¬s.size<=12 by omega)];rfl
  have b:(1:Int)<=(s.size:Int):=al
  have f:(12:Int)<(s.size:Int):=al
  clear a H;go_enter Tryz.func237,Tryz.ntmps237;go_wp2;go_ret;exact⟨by rw[E.o];rfl,rfl⟩
 have b:(1:Int)<=(s.size:Int):=al
 have f:(s.size:Int)<=12:=al
 cases hv:isVar s with
 |true=>
  have E:Hid (nb=false):=by show _=_;rw[H.o,hv];simp
  rw[isVar] at hv;clear H a p;go_enter Tryz.func237,Tryz.ntmps237;go_wp2;go_ret;exact⟨by rw[E.o];rfl,rfl⟩
 |false=>
  cases he:MP s with
  |true=>
   (have E:Hid (nb=false):=by show _=_;rw[H.o,he];simp);rw[isVar] at hv;rw[MP] at he;clear H a p;go_enter Tryz.func237,Tryz.ntmps237;go_wp2;go_ret;exact⟨by rw[E.o];rfl,rfl⟩
  |false=>
   (have E:Hid (nb=j):=by show _=_;rw[H.o,hv,he,bX (show s.size<=12 by omega)];simp);rw[isVar] at hv;rw[MP] at he;(have g:0<s.size:=al);clear H a p;go_enter Tryz.func237,Tryz.ntmps237;go_wp2_with fail
   go_loopw [22] (fun iv wr=>∃k:Nat,k<=s.size/\iv=.int .i64 k/\Hid ((s.data.toList.take k).all (fun c=>xN c.toNat)=true)/\wr=w) (fun iv _=>s.size - (intOf iv).toNat)
   case atStart=>exact⟨0,aU _,rfl,rfl,rfl⟩
   case round=>
    obtain⟨k,q,rfl,A,rfl⟩:=hrel;by_cases l:k<s.size
    ·have d:=hid (Z.o k l)
     have T:Hid (xN s[k].toNat=true ->(s.data.toList.take (k+1)).all (fun c=>xN c.toNat)=true):=fun h=>by
      rw[aiA l,List.all_append,A.o];simp[h]
     go_wp2_with fail
     refine(amA s[k].toNat _).af ?_;rintro e i ⟨rfl,rfl⟩;cases hw:xN s[k].toNat with
     |false=>
      have F:=hid (d.o hw);clear hw;go_wp2;go_ret;exact⟨by rw[E.o,F.o];rfl,rfl⟩
     |true=>
      have S:=hid (T.o hw);clear hw;go_wp2;go_roundw
      case rel=>exact⟨k+1,al,b5,S,trivial⟩
      case measure=>simp[intOf];omega
    ·obtain rfl:k=s.size:=al
     have F:=hid (n.o g A.o);go_wp2_with fail
     refine(adR s[0].toNat _).af ?_;rintro e i ⟨rfl,rfl⟩;go_wp2;go_ret;exact⟨by rw[E.o,F.o];rfl,rfl⟩
def jB (w:World) (a:Kd) (l:List ByteArray):Prop:=∀k (h:k<l.length),∃g o,a=some ⟨g,o,none⟩/\g<w.heap.size/\w.cell? ⟨g,o+k,none⟩=some (.string l[k])
theorem jB.aa {l:List ByteArray} (h:jB w a l) (c:db w w'):jB w' a l:=fun k f=>by
 obtain⟨g,o,d,b,e⟩:=h k f;exact⟨g,o,d,aO b c.size,(c.cell (p:=⟨g,o+k,none⟩) b).trans e⟩
theorem jB.take {l:List ByteArray} (h:jB w a l) (i:Nat):jB w a (l.take i):=fun k e=>by
 have f:k<l.length:=by rw[eW] at e;omega
 obtain⟨g,o,b,c,d⟩:=h k f;refine⟨g,o,b,c,?_⟩;rw[yV];exact d
def jU (f:Nat ->Int):Nat ->Int
 |0=>0
 |n+1=>if jU f n=0 then f n else jU f n
theorem BL {f:Nat ->Int}:∀ {n:Nat},(∀j,j< n ->f j=0) ->jU f n=0
 |0,_=>rfl
 |n+1,h=>by rw[jU,aw (BL fun j a=>h j al),h n al]
theorem N8 {f:Nat ->Int} (h:∀j,j< i ->f j=0) (b:f i≠0):∀ {n:Nat},i< n ->jU f n=f i
 |0,hn=>al
 |n+1,hn=>by
  rcases dG i n with a |a
  ·rw[jU,N8 h b a,aA b]
  ·obtain rfl:i=n:=al
   rw[jU,aw (BL h)]
theorem Uz {f:Nat ->Int} (h:∀j,j< i ->f j=0) (b:f i=0):∀j,j<i+1 ->f j=0:=fun j c=>by
 rcases dG j i with a |a
 ·exact h j a
 ·obtain rfl:j=i:=al
  exact b
def zh (l:List ByteArray) (v:ByteArray):Bool:=l.any fun x=>decide (x=v)
def xX (l:List ByteArray) (i:Nat):Int:=if Bc (l.getD i ⟨#[]⟩)=true then(if zh (l.take i) (l.getD i ⟨#[]⟩)=true then 7 else 0) else 4
def nH (l:List ByteArray):Int:=jU (xX l) l.length
theorem Sx {l:List ByteArray} (h:i<l.length):l.getD i ⟨#[]⟩=l[i]:=by rw[bF,aV h];rfl
def CO (l:List ByteArray) (v:ByteArray):Int:=match l.findIdx? (fun x=>decide (x=v)) with
 |some i=>(i:Int)
 |none=> -1
theorem arx {a b:ByteArray}:(a.toList==b.toList)=decide (a=b):=by
 rw[xL,xG,eG];constructor
 ·intro h;rw[toList_data,toList_data] at h;obtain⟨⟨x⟩⟩:=a;obtain⟨⟨y⟩⟩:=b;simp only at h;rw[h]
 ·intro h;rw[h]
theorem ak5 {l:List ByteArray} {v:ByteArray} (h:i<l.length) (e:l[i]=v) (n:∀j (a:j<l.length),j< i ->¬l[j]=v):CO l v=i:=by
 have:l.findIdx? (fun x=>decide (x=v))=some i:=List.findIdx?_eq_some_iff_getElem.2 ⟨h,bX e,fun j a=>by
  rw[eG];exact n j al a⟩
 rw[CO,this]
theorem ak3 {l:List ByteArray} {v:ByteArray} (n:∀j (h:j<l.length),¬l[j]=v):CO l v= -1:=by
 have:l.findIdx? (fun x=>decide (x=v))=none:=List.findIdx?_eq_none_iff.2 fun x a=>by
  obtain⟨j,h,rfl⟩:=iI a;exact cF (n j h)
 rw[CO,this]
theorem ak4 (l:List ByteArray) (v:ByteArray):decide (0<=CO l v)=zh l v:=by
 rw[xL,eG,zh,sJ,CO];cases e:l.findIdx? (fun x=>decide (x=v)) with
 |some i=>
  obtain⟨h,p,_⟩:=List.findIdx?_eq_some_iff_getElem.1 e;exact⟨fun _=>⟨l[i],bP h,p⟩,fun _=>by show (0:Int)<=(i:Int);omega⟩
 |none=>
  have:=List.findIdx?_eq_none_iff.1 e;exact⟨fun h=>by exact absurd (show (0:Int)<= -1 from h) bd,fun ⟨x,a,p⟩=>by rw[this x a] at p;cases p⟩
theorem ajj (a:Kd) (ca:Nat) (l:List ByteArray) (v:ByteArray) (w:World) (h:jB w a l) (n:l.length<=140737488355328):
  da 272 #[.slice a l.length ca,.string v] w fun e w'=>e=.returned (.int .i64 (CO l v))/\w'=w:=by
 have F:=hid h;have P:=hid (fun i h e n=>ak5 (l:=l) (v:=v) (i:=i) h e n);have Q:=hid (fun n=>ak3 (l:=l) (v:=v) n);generalize CO l v=r at *;clear h;go_enter Tryz.func272,Tryz.ntmps272;go_wp2_with fail
 go_loopw [8] (fun iv wr=>∃i:Nat,i<=l.length/\iv=.int .i64 i/\Hid (∀j (b:j<l.length),j< i ->¬l[j]=v)/\wr=w) (fun iv _=>l.length - (intOf iv).toNat)
 case atStart=>exact⟨0,aU _,rfl,fun j _ h=>absurd h al,rfl⟩
 case round=>
  obtain⟨i,m,rfl,H,rfl⟩:=hrel;by_cases t:i<l.length
  ·obtain⟨g,o,rfl,k,d⟩:=F.o i t;have D:=hid (fun e=>P.o i t e H.o)
   have u:Hid (¬l[i]=v ->∀j (b:j<l.length),j<i+1 ->¬l[j]=v):=fun h j b Y=>by
    rcases dG j i with c |c
    ·exact H.o j b c
    ·obtain rfl:j=i:=al
     exact h
   generalize l[i]=x at *;by_cases e:x=v
   ·have E:=hid (D.o e);subst e;go_wp2;go_ret;exact⟨by rw[E.o];rfl,rfl⟩
   ·have E:=hid (u.o e);(have f:(v.toList==x.toList)=false:=by rw[arx];exact cF fun h=>e h.symm);clear e;go_wp2;go_roundw
    case rel=>exact⟨i+1,al,b5,E,trivial⟩
    case measure=>simp[intOf];omega
  ·obtain rfl:i=l.length:=al
   have E:=hid (Q.o fun j b=>H.o j b b);go_wp2;go_ret;exact⟨by rw[E.o];rfl,rfl⟩
theorem ajl (a:Kd) (ca:Nat) (l:List ByteArray) (v:ByteArray) (w:World) (h:jB w a l) (n:l.length<=140737488355328):
  da 238 #[.slice a l.length ca,.string v] w fun e w'=>e=.returned (.bool (zh l v))/\w'=w:=by
 have F:=hid h;have H:=hid (fun (V:World) (b:jB V a l)=>ajj a ca l v V b n);have M:=hid (ak4 l v);generalize zh l v=m at *;generalize CO l v=r at *;clear h;go_enter Tryz.func238,Tryz.ntmps238;go_wp2_with fail
 refine(H.o _ F.o).af ?_;rintro e c ⟨rfl,rfl⟩;go_wp2;go_ret;exact⟨by rw[<- M.o];rfl,rfl⟩
theorem amw {l:List ByteArray} (h:i<l.length) (e:Bc l[i]=false):xX l i=4:=by rw[xX,Sx h,e,aA bd]
theorem amy {l:List ByteArray} (h:i<l.length) (e:Bc l[i]=true) (a:zh (l.take i) l[i]=true):xX l i=7:=by rw[xX,Sx h,e,aw rfl,a,aw rfl]
theorem amx {l:List ByteArray} (h:i<l.length) (e:Bc l[i]=true) (a:zh (l.take i) l[i]=false):xX l i=0:=by rw[xX,Sx h,e,aw rfl,a,aA bd]
theorem agL (a:Kd) (ca:Nat) (l:List ByteArray) (w:World) (h:jB w a l) (R:l.length<=140737488355328) (M:l.length<=ca) (hs:∀s∈l,s.size<=140737488355328):
  da 187 #[.slice a l.length ca] w fun e w'=>e=.returned (.int .i64 (nH l))/\w'=w:=by
 have F:=hid h;have p:=hid hs;have A:Hid (∀i,i<l.length ->(∀j,j< i ->xX l j=0) ->∀k,xX l i=k ->k≠0 ->nH l=k):=fun i c z k d I=>by rw[nH,N8 z (by rw[d];exact I) c,d]
 have Z:Hid ((∀j,j<l.length ->xX l j=0) ->nH l=0):=fun h=>BL h;have f:=hid (fun i h e=>amw (l:=l) (i:=i) h e);have D:=hid (fun i h e b=>amy (l:=l) (i:=i) h e b);have O:=hid (fun i h e b=>amx (l:=l) (i:=i) h e b);generalize nH l=r at *;clear h hs;go_enter Tryz.func187,Tryz.ntmps187;go_wp2_with fail
 go_loopw [7] (fun iv wr=>∃i:Nat,i<=l.length/\iv=.int .i64 i/\Hid (∀j,j< i ->xX l j=0)/\wr=w) (fun iv _=>l.length - (intOf iv).toNat)
 case atStart=>exact⟨0,aU _,rfl,fun j h=>absurd h al,rfl⟩
 case round=>
  obtain⟨i,c,rfl,H,rfl⟩:=hrel;by_cases t:i<l.length
  ·obtain⟨g,o,rfl,P,K⟩:=F.o i t;have J:=p.o l[i] (bP t);have n:=hid (fun e=>A.o i t H.o 4 (f.o i t e) bd);have u:=hid (fun e b=>A.o i t H.o 7 (D.o i t e b) bd);have y:=hid (fun e b=>Uz H.o (O.o i t e b));have Q:=hid (F.o.take i);(have L:(l.take i).length=i:=by rw[eW];omega)
   have q:Hid (∀(v:ByteArray) (V:World),jB V (some ⟨g,o,none⟩) (l.take i) ->da 238 #[.slice (some ⟨g,o,none⟩) i ca,.string v] V fun e w'=>e=.returned (.bool (zh (l.take i) v))/\w'=V):=fun v V m=>by
    have:=ajl (some ⟨g,o,none⟩) ca (l.take i) v V m al;rwa [L] at this
   clear L;generalize l[i]=x at *;go_wp2_with fail
   refine(amz x _ J).af ?_;rintro e S ⟨rfl,rfl⟩;cases yf:Bc x with
   |false=>
    have E:=hid (n.o yf);clear yf;go_wp2;go_ret;exact⟨by rw[E.o];rfl,rfl⟩
   |true=>
    go_wp2_with fail
    refine(q.o x _ Q.o).af ?_;rintro e T ⟨rfl,rfl⟩;cases hm:zh (l.take i) x with
    |true=>
     have E:=hid (u.o yf hm);clear yf hm;go_wp2;go_ret;exact⟨by rw[E.o];rfl,rfl⟩
    |false=>
     have E:=hid (y.o yf hm);clear yf hm;go_wp2;go_roundw
     case rel=>exact⟨i+1,al,b5,E,trivial⟩
     case measure=>simp[intOf];omega
  ·obtain rfl:i=l.length:=al
   have E:=hid (Z.o H.o);go_wp2;go_ret;exact⟨by rw[E.o];rfl,rfl⟩
abbrev Vr:Type:=ByteArray×List ByteArray
def td (w:World) (a:Kd) (V:List Vr):Prop:=∀k (h:k<V.length),∃g o b c,a=some ⟨g,o,none⟩/\g<w.heap.size/\w.cell? ⟨g,o+k*2,none⟩=some (.string V[k].1)/\w.cell? ⟨g,o+k*2+1,none⟩=some (.slice b V[k].2.length c)/\jB w b V[k].2/\V[k].2.length<=c
theorem td.aa {V:List Vr} (h:td w a V) (d:db w w'):td w' a V:=fun k n=>by
 obtain⟨g,o,b,c,f,e,i,j,l,m⟩:=h k n;exact⟨g,o,b,c,f,aO e d.size,(d.cell (p:=⟨g,o+k*2,none⟩) e).trans i,(d.cell (p:=⟨g,o+k*2+1,none⟩) e).trans j,l.aa d,m⟩
abbrev NC (x y z:Value):Obj:=.cells #[x,y,z] 26
abbrev VC (x y:Value):Obj:=.cells #[x,y] 60
def bW (w:World) (g:Nat) (x y z:Value):Prop:=w.heap[g]? =some (.cells #[x,y,z] 26 (0,0))
theorem bW.at (h:w.heap.size=g) (x y z:Value):bW (w.alloc (NC x y z)) g x y z:=by subst h;exact eM w _
theorem bW.lt (h:bW w g x y z):g<w.heap.size:=(dD.1 h).1
theorem bW.aa {b:Nat} (h:bW w g x y z) (a:Below b w w') (c:g<b):bW w' g x y z:=(a.block g c).trans h
theorem bW.cells (h:bW w g x y z):w.cell? ⟨g,0,none⟩=some x/\w.cell? ⟨g,1,none⟩=some y/\w.cell? ⟨g,2,none⟩=some z:=by
 refine⟨?_,?_,?_⟩<;>(rw[bh w g _ _ _ (0,0) h];rfl)
theorem JA (w:World) (x y:Value):(w.alloc (VC x y)).cell? ⟨w.heap.size,0,none⟩=some x/\(w.alloc (VC x y)).cell? ⟨w.heap.size,1,none⟩=some y:=by
 have h:(w.alloc (VC x y)).heap[w.heap.size]? =some (.cells #[x,y] 60 (0,0)):=eM w _;exact⟨by rw[bh _ _ _ _ _ (0,0) h];rfl,by rw[bh _ _ _ _ _ (0,0) h];rfl⟩
def ar (V:List Vr):Ki:=V.map fun x=>x.2.length
theorem nE (V:List Vr):(ar V).length=V.length:=by simp[ar]
theorem Mo {V:List Vr} (h:i<V.length):(ar V)[i]? =some V[i].2.length:=by simp[ar,h]
theorem Q8 (a b c:Kd) (ca cb cc n m:Nat) (V:List Vr) (w:World) (h:td w a V) (hV:V.length<=5000):
  da 91 #[.agg #[.slice a V.length ca,.slice b n cb,.slice c m cc]] w fun e w'=>∃G,e=.returned (.slice (some ⟨G,0,none⟩) V.length V.length)/\w.heap.size<=G/\dK w' G (ar V)/\db w w':=by
 obtain⟨i0,cD,ab,ad,ae⟩:=eA Tryz.infoInt;have Q:=hid h;have T:Hid (∀i (h:i<V.length),(ar V)[i]? =some V[i].2.length):=fun i h=>Mo h;have D:=nE V;generalize ar V=ds at *;clear h;have o:=bW.at (w:=w) rfl (.slice a V.length ca) (.slice b n cb) (.slice c m cc);have r:=(au _ w).alloc (ah _) (NC (.slice a V.length ca) (.slice b n cb) (.slice c m cc));obtain⟨l, -, -⟩:=o.cells;have zz:=o.lt;go_enter Tryz.func91,Tryz.ntmps91;go_upto_region 1 with fail
 generalize (w.alloc (NC (.slice a V.length ca) (.slice b n cb) (.slice c m cc)))=d at *
 go_wp2_with (first
  |(at_make;refine qp _ rfl _ _ 27 rfl d.heap.size 3 i0 (.int .i64 0) 1 Tryz.underlying27 cD ab ad .i64 .i64 _ _ V.length rfl rfl b5 b5 (by rw[ae];omega) (by unfold maxLen;omega) (ah _) ?_;intro q K L;have s:db d q:=(au _ d).grown L (ah _) (fun k e=>by cases e);have X:=(o.aa s zz).cells.1;clear l))
 have t:=rY K;rw[Ke] at t;have I:Hid (dK q d.heap.size (List.replicate V.length 0)):=t;have x:Hid (db w q):=r.trans (s.af r.size);have E:=r.size;clear K L t s X;go_loopw [13] (fun iv wr=>∃i:Nat,i<=V.length/\iv=.int .i64 i/\Hid (dK wr d.heap.size (sM ds i))/\Hid (db w wr)) (fun iv _=>V.length - (intOf iv).toNat)
 case atStart=>exact⟨0,aU _,rfl,by rw[acQ,D];exact I,x⟩
 case round=>
  obtain⟨i,hi,rfl,R,H⟩:=hrel;clear I x;by_cases J:i<V.length
  ·obtain⟨g,ai,y,A,rfl,hg,l,Z, -, -⟩:=(Q.o.aa H.o) i J;obtain⟨P,Y⟩:=nk.1 (T.o i J);have u:=hid (acR ds P);rw[Y] at u;generalize V[i]=v at *;obtain⟨F,vs⟩:=v;simp only at l Z u;obtain⟨d0,d1⟩:=JA wr (.string F) (.slice y vs.length A);have j:=(au _ wr).alloc (ah _) (VC (.string F) (.slice y vs.length A));have f:=R.o.aa j R.o.lt;have k0:=f.cell i (by rw[QU _ al];omega);have f0:=f.fz i;have S:=f.set i vs.length;rw[u.o] at S;have U:=hid S;have M:=hid ((H.o.trans (j.af H.o.size)).setCell (p:=⟨d.heap.size,i,none⟩) E (.int .i64 (vs.length:Nat)));generalize (sM ds i)[i]'(by rw[QU _ al];omega)=z at *;clear P Y j f S;go_wp2;go_roundw
   case rel=>exact⟨i+1,al,b5,U,M⟩
   case measure=>simp[intOf];omega
  ·obtain rfl:i=V.length:=al
   have O:=R.o;rw[<- D,acS] at O;have dt:=hid O;clear O;go_wp2;go_ret;exact⟨d.heap.size,rfl,E,dt.o,H.o⟩
variable {V:List Vr}
theorem anT {l:Ki} {x:Nat} (h:l[i]? =some x):iL (l.take (i+1))=iL (l.take i)++[(x:Int)]:=by
 obtain⟨a,b⟩:=nk.1 h;rw[im a,b,WC];rfl
theorem akn (a b c:Kd) (ca cb cc n m:Nat) (V:List Vr) (w:World) (h:td w a V) (hV:V.length<=5000):
  da 56 #[.agg #[.slice a V.length ca,.slice b n cb,.slice c m cc]] w fun e w'=>∃x,e=.returned x/\bJ w' w.heap.size x (iL (ar V))/\db w w':=by
 obtain⟨i0,Y,ad,ae,ai⟩:=eA Tryz.infoInt;have F:=hid h;have y:Hid (∀i (h:i<V.length),(ar V)[i]? =some V[i].2.length):=fun i h=>Mo h;have eD:=nE V;generalize ar V=ds at *;clear h;have p:=bW.at (w:=w) rfl (.slice a V.length ca) (.slice b n cb) (.slice c m cc);have L:=hid ((au _ w).alloc (ah _) (NC (.slice a V.length ca) (.slice b n cb) (.slice c m cc)));go_enter Tryz.func56,Tryz.ntmps56;go_wp2_with fail
 generalize (w.alloc (NC (.slice a V.length ca) (.slice b n cb) (.slice c m cc)))=P at *;have j:=hid p;clear p;go_loopw [3,4] (fun xv iv wr=>∃i:Nat,i<=V.length/\iv=.int .i64 i/\Hid (bJ wr (w.heap.size+1) xv (iL (ds.take i)))/\Hid (Below (w.heap.size+1) P wr)) (fun _ iv _=>V.length - (intOf iv).toNat)
 case atStart=>exact⟨0,aU _,rfl,⟨rfl,.inl ⟨rfl,rfl⟩⟩,au _ _⟩
 case round=>
  obtain⟨i,hi,rfl,R,H⟩:=hrel;have d:=j.o.aa H.o al;obtain⟨X, -, -⟩:=d.cells;have ab:=j.o.lt;have q:Hid (db w wr):=L.o.trans (H.o.af al);by_cases t:i<V.length
  ·obtain⟨g,o,T,U,rfl,hg, -,z, -, -⟩:=(F.o.aa q.o) i t;have f:=hid (anT (y.o i t))
   have u:Hid ((iL (ds.take i)).length<=5000):=by
    show (iL (ds.take i)).length<=5000;rw[bL,eW];omega
   generalize V[i]=v at *;obtain⟨nm,vs⟩:=v;simp only at z f;have A:=hid R.o.own;have O:Hid (bJ (wr.alloc (.cells #[.int .i64 (vs.length:Nat)] 3)) (w.heap.size+1) _ (iL (ds.take i))):=LI R.o _;have S:w.heap.size+1<=wr.heap.size:=d.lt;have E:=hid (H.o.alloc S (.cells #[.int .i64 (vs.length:Nat)] 3));have M:=hid (EI wr (vs.length:Nat));(have k:w.heap.size+1<=(wr.alloc (.cells #[.int .i64 (vs.length:Nat)] 3)).heap.size:=by simp;omega);clear d;go_wp2_with (at_builtin;refine GM rfl _ _ rfl (w.heap.size+1) _ (iL (ds.take i)) [((vs.length:Nat):Int)] rfl O.o (some ⟨wr.heap.size,0,none⟩) 1 rfl M.o (fun e=>by cases e) (by have:=u.o;simp;omega) k ?_;intro v' w3 s r)
   have K:=hid s;have Z:=hid (E.o.grown r k A.o);clear s r;go_roundw
   case rel=>exact⟨i+1,al,b5,by rw[f.o];exact K,Z⟩
   case measure=>simp[intOf];omega
  ·obtain rfl:i=V.length:=al
   have l:=R.o;rw[kP al] at l;have D:=hid (show bJ wr w.heap.size _ (iL ds) from ⟨l.1,l.2.imp id fun ⟨g,cap,Q,I,h2,J⟩=>⟨g,cap,Q,I,al,J⟩⟩);clear l d;go_wp2;go_ret;exact⟨_,rfl,D.o,q.o⟩
def qd (w:World) (g:Nat) (l:List ByteArray):Prop:=w.heap[g]? =some (.cells (l.map Value.string).toArray 9 (0,0))
theorem qd.cell {l:List ByteArray} (h:qd w g l) (j:Nat) (a:j<l.length):w.cell? ⟨g,j,none⟩=some (.string l[j]):=by
 rw[bh w g j _ _ (0,0) h];simp[a]
theorem qd.fz {l:List ByteArray} (h:qd w g l) (j:Nat):w.frozen? ⟨g,j,none⟩=false:=fj w g j _ _ h
theorem qd.lt {l:List ByteArray} (h:qd w g l):g<w.heap.size:=(dD.1 h).1
theorem qd.aa {b:Nat} {l:List ByteArray} (h:qd w g l) (a:Below b w w') (c:g<b):qd w' g l:=(a.block g c).trans h
theorem qd.set {l:List ByteArray} (h:qd w g l) (j:Nat) (y:ByteArray):qd (w.setCell ⟨g,j,none⟩ (.string y)) g (l.set j y):=by
 have a:=kn w g j _ _ (.string y) h;rw[qd,a];simp[Gx]
theorem qd.st {l:List ByteArray} (h:qd w g l):jB w (some ⟨g,0,none⟩) l:=fun k a=>⟨g,0,rfl,h.lt,by rw[bH];exact h.cell k a⟩
theorem ane (n:Nat):(madeCells (Value.string ⟨#[]⟩).cells (n*1)).toList=(List.replicate n (⟨#[]⟩:ByteArray)).map Value.string:=by
 rw[show (Value.string ⟨#[]⟩).cells= #[Value.string ⟨#[]⟩] from rfl,LC,qA,P6]
theorem Tryz.infoStr:(Tryz.prog.info? 9).map (fun i=>(i.zero,i.size,i.bytes))=some (some (.string ⟨#[]⟩),1,16):=ao
def xS (l:List ByteArray) (i:Nat):List ByteArray:=l.take i++List.replicate (l.length - i) ⟨#[]⟩
theorem alf (l:List ByteArray):xS l 0=List.replicate l.length ⟨#[]⟩:=by simp[xS]
theorem acM (l:List ByteArray) (h:i<=l.length):(xS l i).length=l.length:=by simp[xS];omega
theorem alh (l:List ByteArray):xS l l.length=l:=by simp[xS]
theorem alg (l:List ByteArray) (h:i<l.length):(xS l i).set i l[i]=xS l (i+1):=by
 have a:l.length - i=(l.length - (i+1))+1:=al
 have b:(l.take i).length=i:=by rw[eW];omega
 rw[xS,xS,a,LU,Gv _ _ al,b,rz,CA,im h,ny];rfl
def kY (V:List Vr):List ByteArray:=V.map fun x=>x.1
theorem adQ (V:List Vr):(kY V).length=V.length:=by simp[kY]
theorem amu (h:i<V.length):(kY V)[i]? =some V[i].1:=by simp[kY,h]
theorem amv (a:Kd) (ca:Nat) (V:List Vr) (w:World) (h:td w a V) (hV:V.length<=5000):
  da 188 #[.slice a V.length ca] w fun e w'=>∃G,e=.returned (.slice (some ⟨G,0,none⟩) V.length V.length)/\qd w' G (kY V)/\db w w':=by
 obtain⟨M,K,O,Q,T⟩:=eA Tryz.infoStr;have F:=hid h;have x:Hid (∀i (h:i<V.length),(kY V)[i]? =some V[i].1):=fun i h=>amu h;have D:=adQ V;generalize kY V=ds at *;clear h;go_enter Tryz.func188,Tryz.ntmps188
 go_wp2_with (first
  |(at_make;refine qp _ rfl _ _ 58 rfl w.heap.size 9 M (.string ⟨#[]⟩) 1 Tryz.underlying58 K O Q .i64 .i64 _ _ V.length rfl rfl b5 b5 (by rw[T];omega) (by unfold maxLen;omega) (ah _) ?_;intro q r s))
 have c:=rY r;rw[ane] at c;have d:Hid (db w q):=(au _ w).grown s (ah _) (fun k e=>by cases e);have I:Hid (qd q w.heap.size (List.replicate V.length ⟨#[]⟩)):=c;clear r s c;go_wp2_with fail
 go_loopw [11] (fun iv wr=>∃i:Nat,i<=V.length/\iv=.int .i64 i/\Hid (qd wr w.heap.size (xS ds i))/\Hid (db w wr)) (fun iv _=>V.length - (intOf iv).toNat)
 case atStart=>exact⟨0,aU _,rfl,by rw[alf,D];exact I,d⟩
 case round=>
  obtain⟨i,hi,rfl,R,H⟩:=hrel;clear I d;by_cases t:i<V.length
  ·obtain⟨g,o,j,n,rfl,hg,E,J, -, -⟩:=(F.o.aa H.o) i t;obtain⟨P,Y⟩:=nk.1 (x.o i t);have u:=hid (alg ds P);rw[Y] at u;generalize V[i]=v at *;obtain⟨m,vs⟩:=v;simp only at E J u;obtain⟨U,X⟩:=JA wr (.string m) (.slice j vs.length n);have b:=(au _ wr).alloc (ah _) (VC (.string m) (.slice j vs.length n));have f:=R.o.aa b R.o.lt;have k0:=f.cell i (by rw[acM _ al];omega);have Z:=f.fz i;have S:=f.set i m;rw[u.o] at S;have y:=hid S;have A:=hid ((H.o.trans (b.af H.o.size)).setCell (p:=⟨w.heap.size,i,none⟩) (ah _) (.string m));generalize (xS ds i)[i]'(by rw[acM _ al];omega)=z at *;clear P Y b f S;go_wp2;go_roundw
   case rel=>exact⟨i+1,al,b5,y,A⟩
   case measure=>simp[intOf];omega
  ·obtain rfl:i=V.length:=al
   have l:=R.o;rw[<- D,alh] at l;have L:=hid l;clear l;go_wp2;go_ret;exact⟨w.heap.size,rfl,L.o,H.o⟩
def sL (V:List Vr) (i:Nat):Int:=if 1<=(V.getD i (⟨#[]⟩,[])).2.length/\(V.getD i (⟨#[]⟩,[])).2.length<=4 then nH (V.getD i (⟨#[]⟩,[])).2 else 2
def lF (V:List Vr):Int:=if nH (kY V)=0 then jU (sL V) V.length else nH (kY V)
theorem YS (h:i<V.length):V.getD i (⟨#[]⟩,[])=V[i]:=by rw[bF,aV h];rfl
def VSm (V:List Vr):Prop:=V.length<=5000/\∀x∈V,x.1.size<=5000/\x.2.length<=5000/\∀s∈x.2,s.size<=5000
theorem aaV (h:i<V.length) (e:¬(1<=V[i].2.length/\V[i].2.length<=4)):sL V i=2:=by rw[sL,YS h,aA e]
theorem aaU (h:i<V.length) (e:1<=V[i].2.length/\V[i].2.length<=4):sL V i=nH V[i].2:=by rw[sL,YS h,aw e]
theorem aq3 (a:Kd) (ca:Nat) (V:List Vr) (w:World) (h:td w a V) (hs:VSm V):
  da 135 #[.slice a V.length ca] w (du w (.int .i64 (lF V))):=by
 have K:=hid h;have B3:=hid hs;have hV:=hs.1;have D:Hid (nH (kY V)≠0 ->lF V=nH (kY V)):=fun h=>aA h;have A:Hid (nH (kY V)=0 ->lF V=jU (sL V) V.length):=fun h=>aw h;have ae:=adQ V
 have ab:Hid (∀s∈kY V,s.size<=140737488355328):=fun s I=>by
  obtain⟨x,hx,rfl⟩:=aH.1 I;have:=(hs.2 x hx).1;omega
 have U:=hid (fun (V':World) (ao:td V' a V)=>amv a ca V V' ao hV)
 have vT:Hid (∀(G:Nat) (V':World),qd V' G (kY V) ->da 187 #[.slice (some ⟨G,0,none⟩) V.length V.length] V' fun e w'=>e=.returned (.int .i64 (nH (kY V)))/\w'=V'):=fun G V' R=>by
  have:=agL (some ⟨G,0,none⟩) V.length (kY V) V' R.st al al ab.o;rwa [ae] at this
 generalize lF V=ve at *;generalize nH (kY V)=ne at *;clear h hs ae ab;go_enter Tryz.func135,Tryz.ntmps135;go_wp2_with fail
 refine(U.o _ K.o).af ?_;rintro e w1 ⟨G,rfl,R,ad⟩;have M:=hid R;have S:=hid ad;clear R ad U;go_wp2_with fail
 refine(vT.o G _ M.o).af ?_;rintro e w2 ⟨rfl,rfl⟩;by_cases f:ne=0
 ·subst f;have E:=hid (A.o rfl);clear D A vT M;have J:Hid (∀i,i<V.length ->(∀j,j< i ->sL V j=0) ->∀k,sL V i=k ->k≠0 ->ve=k):=fun i Q hz k b F=>by rw[E.o,N8 hz (by rw[b];exact F) Q,b]
  have HZ:Hid ((∀j,j<V.length ->sL V j=0) ->ve=0):=fun h=>by rw[E.o];exact BL h
  have HL:=hid (fun i h e=>aaV (V:=V) (i:=i) h e);have L:=hid (fun i h e=>aaU (V:=V) (i:=i) h e);go_wp2_with fail
  go_loopw [15] (fun iv wr=>∃i:Nat,i<=V.length/\iv=.int .i64 i/\Hid (∀j,j< i ->sL V j=0)/\Hid (db w wr)) (fun iv _=>V.length - (intOf iv).toNat)
  case atStart=>exact⟨0,aU _,rfl,fun j h=>absurd h al,S⟩
  case round=>
   obtain⟨i,Q,rfl,T,c⟩:=hrel;clear S;by_cases l:i<V.length
   ·obtain⟨g,aq,y,z,rfl,hg,c0,c1,Y,Z⟩:=(K.o.aa c.o) i l;have r:=B3.o.2 V[i] (bP l);have m:=hid (fun e=>J.o i l T.o 2 (HL.o i l e) bd);have u:=hid (fun e k b F=>J.o i l T.o k ((L.o i l e).trans b) F);have O:=hid (fun e (b:nH V[i].2=0)=>Uz T.o ((L.o i l e).trans b));generalize V[i]=v at *;obtain⟨X,vs⟩:=v;simp only at c0 c1 Y Z r m u O;obtain⟨d0,d1⟩:=JA wr (.string X) (.slice y vs.length z);have t:=(au _ wr).alloc (ah _) (VC (.string X) (.slice y vs.length z));have d:=hid (c.o.trans (t.af c.o.size));have aj:=hid (Y.aa t);have uo:=hid r.2.2;have eZ:=r.2.1;clear t r Y;by_cases n:1<=vs.length
    ·by_cases o:vs.length<=4
     ·have P:(1:Int)<=(vs.length:Int):=al
      (have e2:(vs.length:Int)<=4:=al);have ai:=hid (u.o ⟨n,o⟩);have an:=hid (O.o ⟨n,o⟩);clear m u O;go_wp2_with fail
      refine(agL y z vs _ aj.o al Z (fun s I=>by have:=uo.o s I;omega)).af ?_;rintro e w3 ⟨rfl,rfl⟩;generalize nH vs=q at *;by_cases p:q=0
      ·subst p;have ak:=hid (an.o rfl);go_wp2;go_roundw
       case rel=>exact⟨i+1,al,b5,ak,d⟩
       case measure=>simp[intOf];omega
      ·have H:=hid (ai.o q rfl p);(have av:(q==0)=false:=by simpa using p);clear p;go_wp2;go_ret;exact⟨by rw[H.o];rfl,d.o⟩
     ·have H:=hid (m.o fun h=>o h.2);(have P:(1:Int)<=(vs.length:Int):=al);(have e2:(4:Int)<(vs.length:Int):=al);clear o m u O;go_wp2;go_ret;exact⟨by rw[H.o];rfl,d.o⟩
    ·have H:=hid (m.o fun h=>n h.1);(have P:(vs.length:Int)<1:=al);clear n m u O;go_wp2;go_ret;exact⟨by rw[H.o];rfl,d.o⟩
   ·obtain rfl:i=V.length:=al
    have H:=hid (HZ.o T.o);go_wp2;go_ret;exact⟨by rw[H.o];rfl,c.o⟩
 ·have E:=hid (D.o f);have yf:(ne==0)=false:=by simpa using f
  clear f D A;go_wp2;go_ret;exact⟨by rw[E.o];rfl,S.o⟩
def i6 (l:List Fr):Bool:=(l.all fun f=>decide (¬ba f<0))&&decide (di l=1)
theorem agG:kH p 0<0↔p<0:=by
 rw[kH];by_cases h:p<0
 ·rw[aw h];exact⟨fun _=>h,fun _=>bd⟩
 ·rw[aA h];by_cases e:p=0
  ·rw[aw e];exact⟨fun h=>absurd h bd,fun a=>absurd a h⟩
  ·rw[aA e];exact⟨fun h=>absurd h bd,fun a=>absurd a h⟩
theorem aqT:(kH p 1==0)=decide (p=1):=by
 rw[xL,xG,eG,kH];by_cases h:p<1
 ·rw[aw h];exact⟨fun h=>absurd h bd,fun e=>by rw[e] at h;exact absurd h bd⟩
 ·rw[aA h];by_cases e:p=1
  ·rw[aw e];exact⟨fun _=>e,fun _=>rfl⟩
  ·rw[aA e];exact⟨fun h=>absurd h bd,fun a=>absurd a e⟩
theorem aj1 {l:List Fr} (h:i<l.length) (e:ba l[i]<0):i6 l=false:=by
 have:(l.all fun f=>decide (¬ba f<0))=false:=by
  rw[L0];exact⟨l[i],bP h,by simpa using e⟩
 rw[i6,this];rfl
theorem aj3 {l:List Fr} (h:∀i (a:i<l.length),¬ba l[i]<0):i6 l=decide (di l=1):=by
 have:(l.all fun f=>decide (¬ba f<0))=true:=by
  rw[eX];intro f b;obtain⟨i,a,rfl⟩:=iI b;exact bX (h i a)
 rw[i6,this,GI]
theorem acn:qw 1<=2:=by
 show (B 1).size+(B 1).size<=2;have:=Ud;omega
theorem apv {l:List Fr} (h:i<l.length) (w:fw l<=10000):l[i].2.1.size+l[i].2.2.size<=10000:=by have:=SC (bP h);omega
theorem anK (a:Kd) (ca:Nat) (l:List Fr) (w:World) (h:cE w a l) (d:fw l<=10000) (hn:l.length<=10000):
  da 190 #[.slice a l.length ca] w (du w (.bool (i6 l))):=by
 have F:=hid h;have HW:=hid d;have O:=hid (fun V:World=>Iw (k:=0) (w:=V) 0 0 rfl bd (by rfl));have M:=hid (fun V:World=>Iw (k:=1) (w:=V) 1 1 rfl bd (by rfl));have S:=hid (fun (V:World) (hV:cE V a l)=>ap1 a ca l V hV d hn);have HN:=hid (fun i h e=>aj1 (l:=l) (i:=i) h e);have HA:=hid (fun h=>aj3 (l:=l) h)
 have Q:Hid (val (bK (di l)) (nu (di l)) (de (di l))=di l/\(nu (di l)).size+(de (di l)).size<=100000):=⟨qG _,by
  have h1:=SM (af1 l);rw[A6];omega⟩
 have Z:Hid (val (bK 0) (nu 0) (de 0)=0/\(nu 0).size+(de 0).size<=100000):=⟨qG _,by have:=Vp;rw[A6];omega⟩
 have v:Hid (val (bK 1) (nu 1) (de 1)=1/\(nu 1).size+(de 1).size<=100000):=⟨qG _,by
  have h1:qw 1<=2:=acn;rw[A6];omega⟩
 generalize i6 l=rb at *;clear h d;simp only[C] at O M S;generalize bK 0=n at *;generalize nu 0=x at *;generalize de 0=y at *;generalize bK 1=on at *;generalize nu 1=ox at *;generalize de 1=oy at *;go_enter Tryz.func190,Tryz.ntmps190;go_wp2_with fail
 refine(O.o _).af ?_;rintro e m ⟨rfl,c⟩;have T:=hid (c.alloc c.size (FC n x y));have U:=hid (aJ.new m n x y);have ai:=c.size;clear c;go_wp2_with fail
 generalize (m.alloc (FC n x y))=w2 at *;generalize m.heap.size=B at *;go_loopw [9] (fun iv wr=>∃i:Nat,i<=l.length/\iv=.int .i64 i/\Hid (∀j (b:j<l.length),j< i ->¬ba l[j]<0)/\Hid (aJ wr B n x y)/\Hid (db w wr)) (fun iv _=>l.length - (intOf iv).toNat)
 case atStart=>exact⟨0,aU _,rfl,fun j _ h=>absurd h al,U,T⟩
 case round=>
  obtain⟨i,hi,rfl,P,X,H⟩:=hrel;clear U T;by_cases t:i<l.length
  ·obtain⟨g,ae,rfl,hg,c0,c1,c2⟩:=(F.o.aa H.o) i t;have qQ:=apv t HW.o;have xu:=hid (HN.o i t)
   have DK:Hid (¬ba l[i]< 0 ->∀j (b:j<l.length),j<i+1 ->¬ba l[j]<0):=fun h j b tY=>by
    rcases dG j i with J |J
    ·exact P.o j b J
    ·obtain rfl:j=i:=al
     exact h
   generalize l[i]=f at *;obtain⟨fn,fx,fy⟩:=f;simp only at c0 c1 c2 qQ;have R:=(au _ wr).alloc (ah _) (FC fn fx fy);obtain⟨k0,k1,k2, -⟩:=(aJ.new wr fn fx fy).facts;have Y:=X.o.aa R X.o.lt;obtain⟨z0,z1,z2, -⟩:=Y.facts;have L:=hid Y;have z:=hid (H.o.trans (R.af H.o.size));clear R Y;go_wp2_with fail
   generalize (wr.alloc (FC fn fx fy))=w3 at *;refine(Zb (w:=w3) (kH (val fn fx fy) 0) rfl Z.o.1 rfl al Z.o.2).af ?_;rintro e w4 ⟨rfl,o⟩;have Dw:=hid (L.o.aa o L.o.lt);have D:=hid (z.o.trans (o.af z.o.size));clear k0 k1 k2 z0 z1 z2 o;by_cases u:val fn fx fy<0
   ·have E:=hid (xu.o u);have hc:kH (val fn fx fy) 0<0:=agG.2 u;clear u;generalize kH (val fn fx fy) 0=q at *;go_wp2;go_ret;exact⟨by rw[E.o];rfl,D.o⟩
   ·have E:=hid (DK.o u)
    have hc:0<=kH (val fn fx fy) 0:=by
     have:¬kH (val fn fx fy) 0<0:=fun h=>u (agG.1 h);omega
    clear u;generalize kH (val fn fx fy) 0=q at *;go_wp2;go_roundw
    case rel=>exact⟨i+1,al,b5,E,Dw,D⟩
    case measure=>simp[intOf];omega
  ·obtain rfl:i=l.length:=al
   have E:=hid (HA.o fun j b=>P.o j b b);have Pr:=hid (aqT (p:=di l));generalize di l=s at *;go_wp2_with fail
   refine(S.o _ (F.o.aa H.o)).af ?_;rintro e w5 ⟨rfl,ab⟩;have I:=hid (H.o.trans (ab.af H.o.size));clear ab;go_wp2_with fail
   refine(M.o _).af ?_;rintro e w6 ⟨rfl,K⟩;have r:=hid (I.o.trans (K.af I.o.size));clear K;go_wp2_with fail
   refine(Zb (w:=w6) (kH s 1) Q.o.1 v.o.1 rfl Q.o.2 v.o.2).af ?_;rintro e w7 ⟨rfl,A⟩;have ad:=hid (r.o.trans (A.af r.o.size));clear A;go_wp2;go_ret;exact⟨by rw[E.o, <- Pr.o];rfl,ad.o⟩
variable {R:List (List Fr)}
def LA (w:World) (a:Kd) (R:List (List Fr)):Prop:=∀k (h:k<R.length),∃g o b c,a=some ⟨g,o,none⟩/\g<w.heap.size/\w.cell? ⟨g,o+k,none⟩=some (.slice b R[k].length c)/\cE w b R[k]/\R[k].length<=c
theorem LA.aa (h:LA w a R) (d:db w w'):LA w' a R:=fun k m=>by
 obtain⟨g,o,b,c,f,e,i,j,l⟩:=h k m;exact⟨g,o,b,c,f,aO e d.size,(d.cell (p:=⟨g,o+k,none⟩) e).trans i,j.aa d,l⟩
def fK (l:List Fr) (k i:Nat):List Fr:=(l.drop (i*k)).take k
def jm (S:Ki) (L:List Kh) (R:List (List Fr)) (v:Nat):Int:=
 if (R.getD v []).length=cnt S (ag (L.getD v []))*sz S v then(if ((List.range (cnt S (ag (L.getD v [])))).all fun i=>i6 (fK (R.getD v []) (sz S v) i))=true then 0 else 9) else 8
def aW (V:List Vr) (L:List Kh) (R:List (List Fr)):Int:=
 if L.length=V.length/\R.length=V.length then(if aX L=0 then(if lF V=0 then jU (jm (ar V) L R) V.length else lF V) else aX L) else 8
theorem cE.chunk {o:Nat} {l:List Fr} (h:cE w (some ⟨g,o,none⟩) l) (s:(i+1)*k<=l.length) (r:m=k):cE w (some ⟨g,o+i*k*3,none⟩) (fK l k i)/\(fK l k i).length=m:=by
 have n:(fK l k i).length=k:=by
  rw[fK,eW,pI];have:(i+1)*k=i*k+k:=by rw[il,kO]
  omega
 refine⟨fun j b=>?_,by rw[n,r]⟩;have e:(i+1)*k=i*k+k:=by rw[il,kO]
 rw[n] at b;obtain⟨g',t,c,d,f,p,q⟩:=h (i*k+j) al;cases c
 have a:(fK l k i)[j]'(by rw[n];exact b)=l[i*k+j]'al:=by
  simp only[fK,yV,List.getElem_drop]
 refine⟨g,o+i*k*3,rfl,d,?_,?_,?_⟩
 ·rw[a,show o+i*k*3+j*3=o+(i*k+j)*3 by rw[il];omega];exact f
 ·rw[a,show o+i*k*3+j*3=o+(i*k+j)*3 by rw[il];omega];exact p
 ·rw[a,show o+i*k*3+j*3=o+(i*k+j)*3 by rw[il];omega];exact q
theorem apw (l:List Fr) (k i:Nat):fw (fK l k i)<=fw l:=by
 have a:=afN (l.drop (i*k)) k;have h:=YY (l.take (i*k)) (l.drop (i*k));rw[yR] at h;rw[fK];omega
def kJ (w:World) (B:Nat) (v:Value) (l:List ByteArray):Prop:=w.ownsRow B 9 1 v l.length (l.map Value.string)
theorem kJ.own {B:Nat} {v:Value} {l:List ByteArray} (h:kJ w B v l):∀k,v.ownBlock=some k ->B<=k:=by
 intro k a;rcases h.2 with ⟨rfl,_⟩ |⟨g,cap,c,rfl,b,_⟩
 ·cases a
 ·cases a;exact b
theorem kJ.st {B:Nat} {v:Value} {l:List ByteArray} (h:kJ w B v l):∃d f,v=.slice d l.length f/\jB w d l:=by
 rcases h.2 with ⟨a,b⟩ |⟨g,cap,r,a,b,c,o,p,q,i⟩
 ·have:l=[]:=Gy.1 b;subst this;exact⟨none,0,a,fun k n=>absurd n aE⟩
 ·refine⟨_,_,a,fun j m=>⟨g,0,rfl,(dD.1 c).1,?_⟩⟩;rw[bH,bh w g j _ _ (0,0) c]
  have e:r[j]? =(r.toList.take (l.length*1))[j]?:=by
   rw[wy,aw al,AV]
  rw[e,i,kq,aV m];rfl
theorem ahR {o:Oper} {a:Act} (p:o.guard=none) (s x:Operand)
  (k:o.op=.call {callee:=.builtin .append,args:= #[s,x],argTypes:= #[58,58]}) (base:Nat) (v:Value) (l:List ByteArray) (f:ByteArray) (hs:a.eval s=v) (t:kJ w base v l) (g:Nat) (m:a.eval x=.slice (some ⟨g,0,none⟩) 1 1) (i:w.cell? ⟨g,0,none⟩=some (.string f)) (A:l.length+1<=100000) (y:base<=w.heap.size)
  (h:∀v' w',kJ w' base v' (l++[f]) ->w.grownBy w' v.ownBlock ->wpList Tryz.prog ops Q rest (a.put o.dst v') w'):wpList Tryz.prog ops Q (o::rest) a w:=by
 obtain⟨n,D,z,q,r⟩:=eA Tryz.infoStr;refine AE _ p s x 58 k base 9 n (.string ⟨#[]⟩) 1 16 Tryz.underlying58 D z q r rfl bd v l.length _ hs t ⟨g,0,none⟩ 1 1 [.string f] m rfl ?_ ?_ (by unfold maxLen;omega) al y ?_
 ·intro j u b;match j,b with
  |0,b=>cases b;exact i
  |j+1,b=>simp at b
 ·intro u c;simp only[bT,fR,iV] at c;subst c;rfl
 ·intro v' w' d e _;refine h v' w' ?_ e;rw[kJ,bU,eh];exact d
theorem alZ (w:World) (u:ByteArray):(w.alloc (.cells #[.string u] 9)).cell? ⟨w.heap.size,0,none⟩=some (.string u):=(bt w _ _).cell
open Go
theorem Og (h:u<10):Lib.decDigits u=[UInt8.ofNat (48+u)]:=by rw[Lib.decDigits,dif_pos h]
theorem agu (h:¬u<10):Lib.decDigits u=Lib.decDigits (u/10)++[UInt8.ofNat (48+u % 10)]:=by rw[Lib.decDigits,dif_neg h]
theorem aqA (k:Nat):∀n,n<10^(k+1) ->(decDigits n).length<=k+1:=by
 induction k with
 |zero=>intro n h;rw[Og (by simpa using h)];simp
 |succ k ih=>
  intro n h;by_cases a:n<10
  ·rw[Og a];simp
  ·rw[agu a,bU];have:=ih (n/10) (by rw[jw] at h;omega);simp;omega
theorem aqB (h:n<256^k):(decDigits n).length<=3*k+1:=by
 apply aqA;have a:(256:Nat)^k<=(10^3)^k:=Nat.pow_le_pow_left bd k;rw[<- Nat.pow_mul] at a;have b:10^(3*k)<=10^(3*k+1):=kN bd al;omega
def z7 (n:Nat):List UInt8:=if n=0 then[] else decDigits n
theorem aqx (h:n≠0):z7 n=z7 (n/10)++[UInt8.ofNat (48+n % 10)]:=by
 rw[z7,aA h];by_cases a:n<10
 ·rw[Og a,z7,aw al,fX,j6 a]
 ·rw[agu a,z7,aA al]
theorem akk (a:ByteArray) (w:World) (k:a.size<=500000):
  da 67 #[.string a] w (du w (.string ⟨(decDigits (N a)).toArray⟩)):=by
 have H:=aD (oA a w al);have y:=aL (jK a) k;have x:=aqB (Gp (N a));generalize hA':N a=A at *;clear hA' k;by_cases g:A=0
 ·subst g;rw[Cs] at H;have Z:Hid (decDigits 0=[48]):=Og bd;rw[Z.o];clear x;go_enter Tryz.func67,Tryz.ntmps67;go_wp2_with fail
  refine(H.o).af ?_;rintro e l ⟨rfl,f⟩;subst f;go_wp2;go_ret;exact⟨rfl,au _ _⟩
 ·have q:=Ei g;have j:Hid (z7 A=decDigits A):=aA g;have m:N ⟨#[10]⟩=10:=rfl;go_enter Tryz.func67,Tryz.ntmps67;go_wp2_with fail
  refine(H.o).af ?_;rintro e l ⟨rfl,f⟩;subst f;clear H;go_wp2;go_loopg [0,3] A (fun n va vs wr=>∃s:ByteArray,va=.string (B n)/\vs=.string s/\(B n).size<=500000/\Hid (z7 n++s.data.toList=z7 A)/\db l wr)
  case atStart=>exact⟨⟨#[]⟩,rfl,rfl,y,(show _=_ by simp),au _ _⟩
  case round=>
   obtain⟨s,rfl,rfl,c,S,b⟩:=hrel;clear q;by_cases h:gk=0
   ·subst h;rw[Cs]
    have E:Hid (s=⟨(decDigits A).toArray⟩):=by
     show _=_;have:=S.o;rw[z7,aw rfl,fX,j.o] at this;apply Qf;apply Qg.1;rw[this]
    go_wp2;go_ret;exact⟨by rw[<- E.o];rfl,b⟩
   ·have q:=Ei h;have T:=fun V=>ack (B gk) ⟨#[10]⟩ V c (by show 1<=_;omega) (by rw[m];decide);rw[dR,m] at T;have r:=aD T;have O:gk % 10<10:=ji _ bd;have J:(B (gk % 10)).size<=500000:=aL (kW (Nat.mod_le _ _)) c;have X:=fun V=>Iy (B (gk % 10)) 0 V al al;rw[dR,LN,Gu,j6 (show gk % 10<256 by omega)] at X;have u:=aD X;have v:=aL (kW (AL gk 10)) c
    have U:s.size<=1500001:=by
     have e:=ed List.length S.o;rw[bU,BO,j.o] at e;omega
    have I:gk/10<gk:=Nat.div_lt_self (lA h) bd;have t:=aqx h
    have z:Hid (z7 (gk/10)++(strOfNums [48+((gk % 10:Nat):Int)]++s).data.toList=z7 A):=by
     show _=_;rw[<- S.o,t,ByteArray.data_append,Array.toList_append,Jj,ny];(have this:(48+((gk % 10:Nat):Int)).toNat=48+gk % 10:=al);rw[fG,ng,this]
    clear t T X c J;generalize hd':gk % 10=d at *;clear hd'
    have D:=fun V:World=>Jk (P:=Tryz.prog) (V.alloc (.cells #[.int .u8 (48+(d:Int))] 5)) 148 5 Tryz.underlying148 Tryz.underlying5 V.heap.size 0 1 1 [48+(d:Int)] rfl (fun i L=>by
     (obtain rfl:i=0:=al);rw[bh _ V.heap.size (0+0) _ _ (0,0) (eM _ _)];rfl) 9 Tryz.underlying9
    have R:(strOfNums [48+(d:Int)]).size=1:=strOfNums_size _;go_wp2_with fail
    refine(r.o _).af ?_;rintro e M ⟨rfl,p⟩;go_wp2_with fail
    refine(u.o _).af ?_;rintro e F ⟨rfl,K⟩;subst K;have Q:=D F;clear D;go_wp2;go_roundg (gk/10)
    case measure=>exact I
    case rel=>exact⟨strOfNums [48+(d:Int)]++s,rfl,rfl,v,z.o,(b.trans (p.af b.size)).alloc (b.trans (p.af b.size)).size _⟩
def KT (i:Nat):ByteArray:=⟨(decDigits i).toArray⟩
theorem Zh (h:i<10):(KT i).size=1:=by
 rw[KT,Og h];rfl
abbrev jS (c:UInt8) (i:Nat):ByteArray:=⟨#[c]⟩++KT i
def uL (k:Nat):List ByteArray:=(List.range k).map (jS 118)
theorem aia (k:Nat):uL (k+1)=uL k++[jS 118 k]:=by simp[uL,uI]
theorem Qq (k:Nat):(uL k).length=k:=by simp[uL]
theorem ach (i:Nat) (w:World) (h:i<=1000):da 68 #[.int .i64 (i:Nat)] w (du w (.string (B i))):=by
 have:=JN (i:Int) w al al;rwa [qE] at this
theorem acf (i:Nat) (w:World) (a:i<=1000):da 67 #[.string (B i)] w (du w (.string (KT i))):=by
 have:=akk (B i) w (by
  have h:(B i).size<=1000:=by rw[mY];exact aL (rX 2 i al) al
  omega)
 rwa [dR] at this
theorem kJ.empty (w:World) (B:Nat):kJ w B (.slice none 0 0) []:=⟨rfl,.inl ⟨rfl,rfl⟩⟩
theorem kJ.step {B:Nat} {v:Value} {l:List ByteArray} (h:kJ w B v l) (e:db w w'):kJ w' B v l:=by
 refine⟨h.1,?_⟩;rcases h.2 with a |⟨g,cap,r,a,c,b,d⟩
 ·exact .inl a
 ·exact .inr ⟨g,cap,r,a,c,(e.block g (dD.1 b).1).trans b,d⟩
theorem aro (k:Nat) (w:World) (s:k<=3):
  da 69 #[.int .i64 (k:Nat)] w fun e w'=>∃x,e=.returned x/\kJ w' w.heap.size x (uL k)/\db w w':=by
 have T:=hid (fun (i:Nat) (h:i<=1000) (U:World)=>ach i U h);have J:=hid (fun (i:Nat) (h:i<=1000) (U:World)=>acf i U h);go_enter Tryz.func69,Tryz.ntmps69;go_wp2_with fail
 go_loopw [3,4] (fun x iv wr=>∃i:Nat,i<=k/\iv=.int .i64 i/\Hid (kJ wr w.heap.size x (uL i))/\Hid (db w wr)) (fun _ iv _=>k - (intOf iv).toNat)
 case atStart=>exact⟨0,aU _,rfl,kJ.empty _ _,au _ _⟩
 case round=>
  obtain⟨i,h,rfl,R,H⟩:=hrel;by_cases y:i<k
  ·go_wp2_with fail
   refine(T.o i al _).af ?_;rintro e t ⟨rfl,b⟩;go_wp2_with fail
   refine(J.o i al _).af ?_;rintro e a ⟨rfl,f⟩;have d:=b.trans (f.af b.size);have r:=hid (R.o.step d);have S:=hid (H.o.trans (d.af H.o.size));clear b f d R H;have v:=hid (r.o.step ((au _ a).alloc (ah _) (.cells #[.string (jS 118 i)] 9)));have c:=hid (S.o.alloc S.o.size (.cells #[.string (jS 118 i)] 9));have l:=hid (alZ a (jS 118 i));have g:w.heap.size<=(a.alloc (.cells #[.string (jS 118 i)] 9)).heap.size:=c.o.size;have q:=Qq i;have m:=hid (aia i);have p:=Zh (i:=i) al;go_wp2_with (at_builtin;refine ahR rfl _ _ rfl w.heap.size _ (uL i) (jS 118 i) rfl v.o a.heap.size rfl l.o al g ?_;intro v' u n j;have Z:=hid (c.o.grown j g (fun k e=>v.o.own k e)))
   go_roundw
   case rel=>exact⟨i+1,al,b5,by rw[m.o];exact n,Z⟩
   case measure=>simp[intOf];omega
  ·obtain rfl:i=k:=al
   go_wp2;go_ret;exact⟨_,rfl,R.o,H.o⟩
def rH (Ls:Ki):List Fr:=Ls.map fun a:Nat=>qF ((a:Rat)/(Ls.sum:Rat))
theorem Vm (Ls:Ki):(rH Ls).length=Ls.length:=by simp[rH]
theorem acp (h:n<256):qw (n:Rat)<=2:=by
 have a:(n:Rat).num.natAbs=n:=aE
 have b:(n:Rat).den=1:=rfl;rw[qw,a,b,mY,mY];have c:=rX 1 n al;have d:=rX 1 1 al;omega
theorem Qv:∀ {Ls:Ki},(∀a∈Ls,a<=6) ->Ls.sum<=6*Ls.length
 |[],_=>ah _
 |a::l,h=>by
  have d:=h a c5;have e:=Qv fun b c=>h b (dM _ c);simp only[List.sum_cons,dV];omega
theorem akg {Ls:Ki} (h:∀a∈Ls,a<=6) (l:Ls.length<=3) (hs:1<=Ls.sum):∀f∈rH Ls,f.2.1.size+f.2.2.size<=2:=by
 intro f c;obtain⟨a,b,rfl⟩:=aH.1 c;have e:=Qv h;have d:=h a b;show (nu ((a:Rat)/(Ls.sum:Rat))).size+(de ((a:Rat)/(Ls.sum:Rat))).size<=2;rw[A6];have k:Fits 1 ((a:Rat)/(Ls.sum:Rat)):=⟨(a:Int),Ls.sum,al,by rw[Rat.mkRat_eq_div];rfl,al,by simp;omega⟩;exact SM k
theorem akh {Ls:Ki} (hs:1<=Ls.sum):i6 (rH Ls)=true:=by
 have h:(Ls.sum:Rat)≠0:=fun e=>by
  have g:Ls.sum=0:=by exact_mod_cast e
  omega
 have j:(0:Rat)<(Ls.sum:Rat):=Rat.lt_of_le_of_ne Rat.natCast_nonneg (Ne.symm h);rw[i6,iB];constructor
 ·rw[eX];intro f b;obtain⟨a,i,rfl⟩:=aH.1 b;refine bX ?_;rw[nP,Rat.not_lt];have d:(0:Rat)<=(a:Rat):=Rat.natCast_nonneg;rw[tH];exact Rat.mul_nonneg d (Rat.le_of_lt (Rat.inv_pos.2 j))
 ·refine bX ?_
  have k:∀(l:Ki) (s c:Rat),(l.map fun a:Nat=>qF ((a:Rat)/c)).foldl (fun s f=>s+FH f) s=s+(l.sum:Rat)/c:=by
   intro l;induction l with
   |nil=>intro s c;show s=s+((0:Nat):Rat)/c;rw[tH];grind
   |cons a l ih=>
    intro s c;rw[fG,uJ,ih,show FH (qF ((a:Rat)/c))=(a:Rat)/c from nP _,List.sum_cons,tH,tH,tH,Rat.natCast_add,Rat.add_mul,LM]
  rw[di,rH,k,Rat.zero_add,tH,Rat.mul_inv_cancel _ h]
variable {B' cap:Nat}
theorem aes (Ls:Ki) (a:Nat):iL (Ls++[a])=iL Ls++[(a:Int)]:=by simp[iL]
theorem bJ.put {B:Nat} (h:bJ w B (.slice (some ⟨g,0,none⟩) n cap) l) (j:Nat) (y:Int):bJ (w.setCell ⟨g,j,none⟩ (.int .i64 y)) B (.slice (some ⟨g,0,none⟩) n cap) (l.set j y):=by
 rcases h.2 with ⟨a,_⟩ |⟨g',p,r,a,b,c,d,e,f,i⟩
 ·cases a
 ·cases a;refine⟨aE,.inr ⟨g,cap,_,aE,b,kn w g j _ _ _ c,by simpa using d,e,by simpa using f,?_⟩⟩;rw[Array.toList_setIfInBounds,iq,Gx, <- i,List.take_set]
theorem fg.lower {B:Nat} {v:Value} {l:List Fr} (h:fg w B v l) (e:B'<=B):fg w B' v l:=by
 refine⟨h.1,?_⟩;rcases h.2 with a |⟨g,cap,r,a,b,c,d⟩
 ·exact .inl a
 ·exact .inr ⟨g,cap,r,a,aL e b,c,d⟩
theorem bJ.emptyB (w:World) (B:Nat):bJ w B (.slice none 0 0) []:=⟨rfl,.inl ⟨rfl,rfl⟩⟩
structure Ox (Ls:Ki) (i:Nat):Prop where
 len:Ls.length=i
 six:∀a∈Ls,a<=6
theorem ajZ (d:Kd) (cd k n:Nat) (W:Kh) (w:World) (hW:aC w d W) (J:∀x∈W, -9223372036854775808<=x/\x<=9223372036854775807) (hk:k<=100000) (ia:1<=n) (zu:n<=5) (Sb:W.length<=140737488355328):
  da 70 #[.slice d W.length cd,.int .i64 (k:Nat),.int .i64 (n:Nat)] w fun e w'=>∃(x:Value) (Ls:Ki),e=.returned x/\fg w' w.heap.size x (rH Ls)/\Ox Ls n/\1<=Ls.sum/\db w w':=by
 have HW:=hid hW;have HR:=hid J;have vO:=hid (fun (c:Int) (h: -9223372036854775808<=c/\c<=9223372036854775807) (U:World)=>Ms c 7 U h.1 h.2 al al);have jC:=hid (fun (c:Int)=>JU c (n:=7) al);have R:=hid (fun (a:Nat) (h:a<=100) (U:World)=>akp (a:Int) U al al)
 have a1:Hid (∀(a:Nat),a<=100 ->∀U:World,da 29 #[.int .i64 (a:Nat)] U fun e w'=>e=.returned (kE (qF (a:Rat)))/\db U w'):=fun a b U=>by
  have h:=R.o a b U;rw[am3] at h;exact h
 have bd:Hid (∀(a s:Nat),a<=100 ->1<=s ->s<=100 ->∀U:World,da 65 #[kE (qF (a:Rat)),kE (qF (s:Rat))] U fun e w'=>e=.returned (.tuple #[kE (qF ((a:Rat)/(s:Rat))),.int .i64 0])/\db U w'):=fun a s b b2 A U=>by
  have br:(s:Rat)≠0:=fun e=>by
   (have e':s=0:=by exact_mod_cast e);omega
  have h:=akz (bK (a:Rat)) (bK (s:Rat)) (nu (a:Rat)) (de (a:Rat)) (nu (s:Rat)) (de (s:Rat)) U (by rw[qG];exact br) (by rw[A6];have:=acp (n:=a) al;omega) (by rw[A6];have:=acp (n:=s) al;omega);rw[qG,qG] at h;exact h
 clear R;have R:=a1;clear a1 hW J;go_enter Tryz.func70,Tryz.ntmps70;go_wp2_with fail
 go_loopw [7,8,9] (fun x sv iv wr=>∃(i:Nat) (Ls:Ki),i<=n/\iv=.int .i64 i/\sv=.int .i64 (Ls.sum:Nat)/\Hid (Ox Ls i)/\Hid (bJ wr w.heap.size x (iL Ls))/\Hid (db w wr)) (fun _ _ iv _=>n - (Go.RowKit.intOf iv).toNat)
 case atStart=>exact⟨0,[],aU _,rfl,rfl,⟨rfl,fun a b=>by cases b⟩,bJ.emptyB _ _,au _ _⟩
 case round=>
  obtain⟨i,Ls,hi,rfl,rfl,H,X,f⟩:=hrel;by_cases aj:i<n
  ·have Xh:Ls.sum<=100:=by have:=Qv H.o.six;have:=H.o.len;omega
   have Q:=H.o.len;by_cases ao:0<W.length
   ·obtain⟨z,bp⟩:∃z,z=k+i:=⟨_,rfl⟩;(have b3:IntKind.i64.wrap ((k:Int)+(i:Int))=(z:Int):=by rw[jk];omega);obtain⟨t,ht⟩:∃t,t=z % W.length:=⟨_,rfl⟩;(have rL:t<W.length:=by rw[ht];exact ji _ ao);(have MZ:(z:Int) % (W.length:Int)=(t:Int):=by rw[ht,wB]);obtain⟨g',o',rfl,ie,cW⟩:=(HW.o.aa f.o) t rL;have WM:=HR.o W[t] (bP rL);have b1:=jC.o W[t];have O3:=hid (fun U=>vO.o W[t] WM U);(have bC:(0:Int)<(W.length:Int):=al);(have bN:¬(W.length:Int)=0:=al);(have WQ:IntKind.i64.wrap ((z:Int) % (W.length:Int))=(t:Int):=by rw[MZ,jk];omega);clear ht bp ao;generalize W[t]=wt at *;generalize xR wt 7=p at *;go_wp2_with fail
    refine(O3.o _).af ?_;rintro e w1 ⟨rfl,v⟩;have lV:=hid (X.o.aa v);have bS:=hid (f.o.trans (v.af f.o.size));have L:=hid (lV.o.aa ((au _ w1).alloc (ah _) (.cells #[.int .i64 (p:Int)] 3)));have I:=hid (bS.o.alloc bS.o.size (.cells #[.int .i64 (p:Int)] 3));have uC:=hid (EI w1 (p:Int));have r:w.heap.size<=(w1.alloc (.cells #[.int .i64 (p:Int)] 3)).heap.size:=I.o.size;(have nL:(iL Ls).length=i:=by rw[bL];exact Q);have mS:=hid (aes Ls p);(have bu:IntKind.i64.wrap ((Ls.sum:Int)+(p:Int))=(((Ls++[p]).sum:Nat):Int):=by rw[jk];simp;omega);have IJ:Hid (Ox (Ls++[p]) (i+1)):=⟨by simp[Q],fun a b=>by rcases aZ.1 b with b |b;exact H.o.six a b;rw[dS.1 b];omega⟩;generalize A:(Ls++[p]).sum=s2 at *;have tk:=hid A;clear A cW v X f lV bS;go_wp2_with (at_builtin;refine GM rfl _ _ rfl w.heap.size _ (iL Ls) [(p:Int)] rfl L.o (some ⟨w1.heap.size,0,none⟩) 1 rfl uC.o (fun e=>by cases e) (by simp;omega) r ?_;intro v' w3 ak ai;have dZ:=hid (I.o.grown ai r (fun k e=>L.o.own k e)))
    go_roundw
    case rel=>exact⟨i+1,Ls++[p],al,b5,by rw[tk.o],IJ,by rw[mS.o];exact ak,dZ⟩
    case measure=>simp[Go.RowKit.intOf];omega
   ·have mI:¬(0:Int)<(W.length:Int):=al
    have bz:decide (0<W.length)=false:=cF al;have L:=hid (X.o.aa ((au _ wr).alloc (ah _) (.cells #[.int .i64 1] 3)));have I:=hid (f.o.alloc f.o.size (.cells #[.int .i64 1] 3));have uC:=hid (EI wr 1);have r:w.heap.size<=(wr.alloc (.cells #[.int .i64 1] 3)).heap.size:=I.o.size;(have nL:(iL Ls).length=i:=by rw[bL];exact Q);have mS:=hid (aes Ls 1);(have bu:IntKind.i64.wrap ((Ls.sum:Int)+1)=(((Ls++[1]).sum:Nat):Int):=by rw[jk];simp;omega);have IJ:Hid (Ox (Ls++[1]) (i+1)):=⟨by simp[Q],fun a b=>by rcases aZ.1 b with b |b;exact H.o.six a b;rw[dS.1 b];omega⟩;have tk:=hid (Eq.refl (Ls++[1]).sum);generalize A:(Ls++[1]).sum=s2 at *;have uw:=hid A;clear A tk X f ao;go_wp2_with (at_builtin;refine GM rfl _ _ rfl w.heap.size _ (iL Ls) [(1:Int)] rfl L.o (some ⟨wr.heap.size,0,none⟩) 1 rfl uC.o (fun e=>by cases e) (by simp;omega) r ?_;intro v' w3 ak ai;have dZ:=hid (I.o.grown ai r (fun k e=>L.o.own k e)))
    go_roundw
    case rel=>exact⟨i+1,Ls++[1],al,b5,by rw[uw.o],IJ,by rw[mS.o];exact ak,dZ⟩
    case measure=>simp[Go.RowKit.intOf];omega
  ·obtain rfl:n=i:=al
   (have Xh:Ls.sum<=100:=by have:=Qv H.o.six;have:=H.o.len;omega);have Q:=H.o.len;by_cases T:Ls.sum=0
   focus
    (have Hz:0<(iL Ls).length:=by rw[bL];omega);rcases X.o.cases with ⟨_,bx⟩ |⟨g,cap,rfl,bm,hg,bZ,b0,hh⟩
    ·rw[bx] at Hz;exact absurd Hz aE
    focus
     have aq:=X.o.put 0 1;obtain⟨a8,bb⟩:=hh 0 (by simpa using Hz);rw[bH] at a8 bb;have rp:=hid (f.o.setCell (p:=⟨g,0,none⟩) bm (.int .i64 1));(have XK:(iL Ls).length=n:=by rw[bL];exact Q);rw[XK]
     obtain⟨D,m,rfl⟩:∃D m,Ls=D::m:=by
      cases Ls with
      |nil=>rw[<- Q] at ia;exact absurd ia aE
      |cons D m=>exact⟨D,m,rfl⟩
     (have a6:D=0/\m.sum=0:=by simp at T;exact T)
     have Tm:Hid (bJ (wr.setCell ⟨g,0,none⟩ (.int .i64 1)) w.heap.size (.slice (some ⟨g,0,none⟩) n cap) (iL (1::m))):=by
      rw[XK] at aq;exact aq
     have F:Hid (Ox (1::m) n):=⟨by simpa using Q,fun a b=>by rcases bT.1 b with rfl |b;omega;exact H.o.six a (dM _ b)⟩;have Z:Hid ((1::m).sum=1/\1<=1/\1<=100):=⟨by simp[a6.2],al,al⟩;(have cD:(0:Int)<(n:Int):=al);rw[T,show ((0:Nat):Int)=0 from rfl];clear T aq hh X f XK Xh Q H;go_upto_region 14 with fail
     clear a8 bb a6;generalize (wr.setCell ⟨g,0,none⟩ (.int .i64 1))=O at *;have qZ:=Tm;have V:=rp;obtain⟨S,u⟩:∃S:Nat,S=1:=⟨1,rfl⟩;obtain⟨l,P⟩:∃l,l=1::m:=⟨_,rfl⟩;rw[<- P] at F Z qZ;(have aT:Hid (l.sum=S/\1<=S/\S<=100):=by rw[u];exact Z);(have E:(1:Int)=((S:Nat):Int):=by rw[u];rfl);rw[E];clear Z Tm rp P u E;have Z:=aT;clear aT
   rotate_left
   focus
    (have Xi:¬(Ls.sum:Int)=0:=al);obtain⟨S,u⟩:∃S,Ls.sum=S:=⟨_,rfl⟩;have Z:Hid (Ls.sum=S/\1<=S/\S<=100):=⟨u,al,al⟩;rw[u] at Xi⊢;obtain⟨l,P⟩:∃l,l=Ls:=⟨_,rfl⟩;rw[<- P] at H X Z;have F:=H;have qZ:=X;have V:=f;(have Xf:((S:Int)==0)=false:=by simpa using Xi);clear T u P H X f Xh Q;go_upto_region 14 with fail
    clear Xi Xf;generalize wr=O at *
   all_goals
    obtain⟨d7,Ds,e7,Fh⟩:=qZ.o.ints;have bf:=hid Fh;(have aN:(iL l).length=n:=by rw[bL];exact F.o.len);rw[aN] at e7;cases e7;have bk:=Z.o.2.1;have Sh:=Z.o.2.2;have IU:=hid Z.o.1;(have jg:Hid ((rH l).length=n):=by show _=_;rw[Vm];exact F.o.len);(have AA:Hid (∀j (h:j<l.length),(rH l)[j]'(by rw[Vm];exact h)=qF ((l[j]:Rat)/(S:Rat))):=fun j h=>by simp[rH,IU.o]);clear Fh Z;go_wp2_with fail
    go_loopw [11,12] (fun x iv wr2=>∃i:Nat,i<=n/\iv=.int .i64 i/\Hid (fg wr2 O.heap.size x ((rH l).take i))/\Hid (db O wr2)) (fun _ iv _=>n - (Go.RowKit.intOf iv).toNat)
    case atStart=>exact⟨0,aU _,rfl,fg.empty _ _,au _ _⟩
    case round=>
     obtain⟨i,hi,rfl,HY,M⟩:=hrel;by_cases aj:i<n
     ·have Nq:i<(iL l).length:=by rw[aN];exact aj
      (have K:i<l.length:=by rw[<- bL];exact Nq);obtain⟨g',o',e8,ie,cL⟩:=(bf.o.aa M.o) i Nq;cases e8;(try rw[bH] at cL)
      (have E:(iL l)[i]'Nq=((l[i]'K:Nat):Int):=by simp[iL]);rw[E] at cL;have bO:=F.o.six (l[i]'K) (bP K);have Nv:=AA.o i K;(have bg:Hid ((rH l).take i++[qF (((l[i]'K:Nat):Rat)/(S:Rat))]=(rH l).take (i+1)):=by show _=_;rw[im (by rw[jg.o];exact aj),Nv]);clear E Nv;generalize (l[i]'K)=Y at *;have qj:=hid (fun U=>R.o Y al U);have DX:=hid (fun U=>R.o S al U);have bj:=hid (fun U=>bd.o Y S al al al U);generalize qF ((Y:Nat):Rat)=fa at *;generalize qF ((S:Nat):Rat)=fs at *;generalize qF (((Y:Nat):Rat)/((S:Nat):Rat))=fq at *;obtain⟨an,ax,ay⟩:=fa;obtain⟨sn,sx,sy⟩:=fs;obtain⟨qn,q,y⟩:=fq;go_wp2_with fail
      refine(qj.o _).af ?_;rintro e v1 ⟨rfl,v⟩;go_wp2_with fail
      refine(DX.o _).af ?_;rintro e v2 ⟨rfl,ab⟩;go_wp2_with fail
      refine(bj.o _).af ?_;rintro e v3 ⟨rfl,a7⟩;have aR:=ab.trans (a7.af ab.size);have Yc:=v.trans (aR.af v.size);clear v ab a7 aR;have bD:=aJ.new v3 qn q y;have ad:=Yc.alloc Yc.size (FC qn q y);obtain⟨k0,k1,k2, -⟩:=bD.facts
      have aQ:aJ ((v3.alloc (FC qn q y)).alloc (FC qn q y)) (v3.heap.size+1) qn q y:=by
       have h:=aJ.new (v3.alloc (FC qn q y)) qn q y;rwa [eH] at h
      have ae:=ad.alloc ad.size (FC qn q y);have La:=hid (HY.o.aa ae);have fh:=hid (M.o.trans (ae.af M.o.size));have rj:=hid aQ;have r:O.heap.size<=((v3.alloc (FC qn q y)).alloc (FC qn q y)).heap.size:=fh.o.size;(have rL:((rH l).take i).length<=5:=by rw[eW,jg.o];omega);clear Yc ad ae bD aQ HY M cL;go_wp2_with (at_builtin;refine ahV rfl _ _ rfl O.heap.size _ ((rH l).take i) (qn,q,y) rfl La.o (v3.heap.size+1) rfl rj.o al r ?_;intro v' v6 bs bo;have Gl:=hid (fh.o.grown bo r (fun k e=>La.o.own k e)))
      go_roundw
      case rel=>exact⟨i+1,al,b5,by rw[<- bg.o];exact bs,Gl⟩
      case measure=>simp[Go.RowKit.intOf];omega
     ·obtain rfl:i=n:=al
      go_wp2;go_ret;have J:=HY.o;rw[kP (by rw[jg.o];exact ah _)] at J;exact⟨_,l,rfl,J.lower V.o.size,F.o,by rw[IU.o];exact bk,V.o.trans (M.o.af V.o.size)⟩
variable {wr wr':World}
structure iT (w:World) (a b c:Kd) (V:List Vr) (L:List Kh) (R:List (List Fr)):Prop where
 vars:td w a V
 pars:dC w b L
 rows:LA w c R
theorem iT.aa {b c:Kd} (h:iT w a b c V L R) (d:db w w'):iT w' a b c V L R:=⟨h.vars.aa d,h.pars.aa d,h.rows.aa d⟩
structure sk (V:List Vr) (L:List Kh) (R:List (List Fr)):Prop where
 vars:VSm V
 pars:L.length<=5000/\∀l∈L,l.length<=5000
 rows:R.length<=5000/\∀l∈R,l.length<=5000/\fw l<=10000
def NK (w wr:World) (x y z:Value):Prop:=bW wr w.heap.size x y z/\db w wr
theorem NK.step (h:NK w wr x y z) (b:db wr wr'):NK w wr' x y z:=⟨h.1.aa b h.1.lt,h.2.trans (b.af h.2.size)⟩
theorem NK.grow (h:NK w wr x y z) (b:Below (w.heap.size+1) wr wr'):NK w wr' x y z:=⟨h.1.aa b al,h.2.trans (b.af al)⟩
theorem NK.new (w:World) (x y z:Value):NK w (w.alloc (NC x y z)) x y z:=⟨bW.at rfl x y z,(au _ w).alloc (ah _) _⟩
theorem af3 (r:L.length=V.length) (g:aX L=0) (a:lF V=0):gI (iL (ar V))/\L.length<=8/\∀v (h:v<L.length),Up L[v] L.length:=by
 have o:gB L=true:=by
  rw[aX] at g;by_cases h:gB L=true
  ·exact h
  ·rw[aA h] at g;exact absurd g bd
 obtain⟨p,k,f,_⟩:=lQ o
 have l:∀i,i<V.length ->sL V i=0:=by
  rw[lF] at a;by_cases h:nH (kY V)=0
  ·rw[aw h] at a;intro i b
   have y:∀ {n:Nat},jU (sL V) n=0 ->∀j,j< n ->sL V j=0:=by
    intro n;induction n with
    |zero=>intro _ j m;omega
    |succ n ih=>
     intro z j m;rw[jU] at z;by_cases e:jU (sL V) n=0
     ·rw[aw e] at z;rcases dG j n with d |d
      ·exact ih e j d
      ·obtain rfl:j=n:=al
       exact z
     ·rw[aA e] at z;exact absurd z e
   exact y a i b
  ·rw[aA h] at a;exact absurd a h
 refine⟨⟨by rw[bL,nE];omega,by rw[bL,nE];omega,fun i b=>?_⟩,k,fun v a=>j8 (Te f a)⟩;rw[bL,nE] at b;have c:=l i b;rw[sL,YS b] at c
 have q:1<=V[i].2.length/\V[i].2.length<=4:=by
  by_cases e:1<=V[i].2.length/\V[i].2.length<=4
  ·exact e
  ·rw[aA e] at c;exact absurd c bd
 have e:(iL (ar V))[i]'(by rw[bL,nE];exact b)=(V[i].2.length:Int):=by simp[iL,ar]
 rw[e];omega
def gG (t:TypeId) (w w':World):Prop:=∀(k:Nat) (c:Array Value) (fr:Nat×Nat),w.heap[k]? =some (Obj.cells c t fr) ->w'.heap[k]? =some (Obj.cells c t fr)
theorem gG.aa {t:TypeId} (b:db w w'):gG t w w':=fun k _ _ h=>(b.block k (dD.1 h).1).trans h
theorem gG.grown {t b:TypeId} {row:Option Nat} (d:w.grownBy w' row) (r:∀g,row=some g ->∃c f,w.heap[g]? =some (.cells c b f)) (n:t≠b):gG t w w':=fun k c f h=>by
 refine(d.block k (dD.1 h).1 fun e=>?_).trans h;obtain⟨i,j,a⟩:=r k e.symm;rw[h] at a;cases a;exact n rfl
theorem gG.set {t d:TypeId} {b:Nat} {f:Array Value} {r:Nat×Nat} (a:w.heap[b]? =some (.cells f d r)) (n:t≠d) (j:Nat) (y:Value):gG t w (w.setCell ⟨b,j,none⟩ y):=fun k c i h=>by
 refine(eN w ⟨b,j,none⟩ y k fun e=>?_).trans h;have g:k=b:=e;subst g;rw[h] at a;cases a;exact n rfl
theorem gG.trans {t:TypeId} {a b c:World} (h:gG t a b) (k:gG t b c):gG t a c:=fun i s f d=>k i s f (h i s f d)
theorem oC {B:Nat} {e:TypeId} {s:Nat} {v:Value} (h:w.ownsRow B e s v n xs) (k:gG e w w'):w'.ownsRow B e s v n xs:=by
 refine⟨h.1,?_⟩;rcases h.2 with a |⟨g,cap,r,a,b,c,d⟩
 ·exact .inl a
 ·exact .inr ⟨g,cap,r,a,b,k _ _ _ c,d⟩
theorem QV {B:Nat} {e:TypeId} {s:Nat} {v:Value} (h:w.ownsRow B e s v n xs):∀g,v.ownBlock=some g ->∃c f,w.heap[g]? =some (.cells c e f):=fun g a=>by
 rcases h.2 with ⟨rfl,_⟩ |⟨g',cap,r,rfl,d,b,i⟩
 ·cases a
 ·cases a;exact⟨_,_,b⟩
theorem QW {B:Nat} {e:TypeId} {s:Nat} {v:Value} (h:w.ownsRow B e s v n xs):∀g,v.ownBlock=some g ->B<=g:=fun g a=>by
 rcases h.2 with ⟨rfl,_⟩ |⟨g',cap,r,rfl,b,c,d⟩
 ·cases a
 ·cases a;exact b
theorem qH {B:Nat} {e:TypeId} {s:Nat} {v:Value} (h:w.ownsRow B e s v n xs):∃a c,v=.slice a n c/\(a=none ->c=0):=by
 rcases h.2 with ⟨rfl,rfl⟩ |⟨g',cap,r,rfl,b,d,f⟩
 ·exact⟨none,0,rfl,fun _=>rfl⟩
 ·exact⟨_,_,rfl,fun e=>by cases e⟩
theorem MC {B:Nat} {e:TypeId} {s:Nat} {v:Value} (h:w.ownsRow B e s v n xs) (f:B'<=B):w.ownsRow B' e s v n xs:=by
 refine⟨h.1,?_⟩;rcases h.2 with a |⟨g,cap,r,a,b,c,d⟩
 ·exact .inl a
 ·exact .inr ⟨g,cap,r,a,aL f b,c,d⟩
theorem JX {B:Nat} {e:TypeId} {s:Nat} (h:w.ownsRow B e s (.slice a n c) n xs) (l:j<xs.length):∃g,a=some ⟨g,0,none⟩/\g<w.heap.size/\w.cell? ⟨g,j,none⟩=some xs[j]:=by
 rcases h.2 with ⟨b,d⟩ |⟨g',cap,r,b,d,f,o,p,q,k⟩
 ·have:=h.1;subst d;rw[nW] at this;omega
 ·cases b;refine⟨g',rfl,(dD.1 f).1,?_⟩;have m:j<n*s:=by have:=h.1;omega
  rw[bh w g' j _ _ (0,0) f]
  have i:r[j]? =(r.toList.take (n*s))[j]?:=by
   rw[wy,aw m,AV]
  rw[i,k,aV l]
abbrev PV:Type:=ByteArray×Value×List ByteArray
def vC:List PV ->List Value
 |[]=>[]
 |p::l=>.string p.1::p.2.1::vC l
theorem Ma:∀l,(vC l).length=l.length*2
 |[]=>rfl
 |p::l=>by
  show (vC l).length+1+1=(l.length+1)*2;rw[Ma l];omega
theorem aaY (p:PV):∀l,vC (l++[p])=vC l++[.string p.1,p.2.1]
 |[]=>rfl
 |q::l=>by
  show Value.string q.1::q.2.1::vC (l++[p])=_;rw[aaY p l];rfl
theorem aaX:∀(l:List PV) (k:Nat) (h:k<l.length),(vC l)[k*2]'(by rw[Ma];omega)=.string l[k].1/\(vC l)[k*2+1]'(by rw[Ma];omega)=l[k].2.1
 |p::l,0,_=>⟨rfl,rfl⟩
 |p::l,k+1,h=>by
  obtain⟨a,b⟩:=aaX l k (by simpa using h);refine⟨?_,?_⟩
  ·simp only[show (k+1)*2=k*2+1+1 by omega];exact a
  ·simp only[show (k+1)*2+1=k*2+1+1+1 by omega];exact b
def Ag (w:World) (B:Nat) (x:Value) (P:List PV):Prop:=w.ownsRow B 60 2 x P.length (vC P)/\∀p∈P,kJ w B p.2.1 p.2.2
abbrev PL:Type:=Value×Kh
def Ai (w:World) (B:Nat) (y:Value) (P:List PL):Prop:=w.ownsRow B 27 1 y P.length (P.map (·.1))/\∀p∈P,bJ w B p.1 p.2
abbrev PR:Type:=Value×List Fr
def Ah (w:World) (B:Nat) (z:Value) (P:List PR):Prop:=w.ownsRow B 36 1 z P.length (P.map (·.1))/\∀p∈P,fg w B p.1 p.2
theorem Ag.keep {B:Nat} {P:List PV} (h:Ag w B x P) (h1:gG 60 w w') (a:gG 9 w w'):Ag w' B x P:=⟨oC h.1 h1,fun p b=>oC (h.2 p b) a⟩
theorem Ai.keep {B:Nat} {P:List PL} (h:Ai w B x P) (h1:gG 27 w w') (a:gG 3 w w'):Ai w' B x P:=⟨oC h.1 h1,fun p b=>oC (h.2 p b) a⟩
theorem Ah.keep {B:Nat} {P:List PR} (h:Ah w B x P) (h1:gG 36 w w') (a:gG 63 w w'):Ah w' B x P:=⟨oC h.1 h1,fun p b=>oC (h.2 p b) a⟩
theorem Ag.nil (w:World) (B:Nat):Ag w B (.slice none 0 0) []:=⟨⟨rfl,.inl ⟨rfl,rfl⟩⟩,fun p h=>by cases h⟩
theorem Ai.nil (w:World) (B:Nat):Ai w B (.slice none 0 0) []:=⟨⟨rfl,.inl ⟨rfl,rfl⟩⟩,fun p h=>by cases h⟩
theorem Ah.nil (w:World) (B:Nat):Ah w B (.slice none 0 0) []:=⟨⟨rfl,.inl ⟨rfl,rfl⟩⟩,fun p h=>by cases h⟩
theorem Tryz.infoInts:(Tryz.prog.info? 27).map (fun i=>(i.zero,i.size,i.bytes))=some (some (.slice none 0 0),1,24):=ao
theorem Tryz.infoFracs:(Tryz.prog.info? 36).map (fun i=>(i.zero,i.size,i.bytes))=some (some (.slice none 0 0),1,24):=ao
theorem Tryz.infoVar:(Tryz.prog.info? 60).map (fun i=>(i.zero,i.size,i.bytes))=some (some (.agg #[.string ⟨#[]⟩,.slice none 0 0]),2,40):=ao
theorem ahT {o:Oper} {a:Act} (n:o.guard=none) (s x:Operand)
  (i:o.op=.call {callee:=.builtin .append,args:= #[s,x],argTypes:= #[23,23]}) (base:Nat) (v:Value) (P:List PL) (q:Value) (k:cO q) (hs:a.eval s=v) (t:w.ownsRow base 27 1 v P.length (P.map (·.1))) (g:Nat) (l:a.eval x=.slice (some ⟨g,0,none⟩) 1 1) (f:w.cell? ⟨g,0,none⟩=some q) (A:P.length+1<=100000) (y:base<=w.heap.size)
  (h:∀v' w',w'.ownsRow base 27 1 v' (P.length+1) (P.map (·.1)++[q]) ->w.grownBy w' v.ownBlock ->wpList Tryz.prog ops Q rest (a.put o.dst v') w'):wpList Tryz.prog ops Q (o::rest) a w:=by
 obtain⟨m,D,z,p,r⟩:=eA Tryz.infoInts;refine AE _ n s x 23 i base 27 m (.slice none 0 0) 1 24 Tryz.underlying23 D z p r rfl bd v P.length _ hs t ⟨g,0,none⟩ 1 1 [q] l rfl ?_ ?_ (by unfold maxLen;omega) al y ?_
 ·intro j u b;match j,b with
  |0,b=>cases b;exact f
  |j+1,b=>simp at b
 ·intro u c;simp only[bT,fR,iV] at c;subst c;obtain⟨_,_,_,rfl⟩:=k;rfl
 ·intro v' w' d e _;exact h v' w' d e
theorem ahS {o:Oper} {a:Act} (n:o.guard=none) (s x:Operand)
  (i:o.op=.call {callee:=.builtin .append,args:= #[s,x],argTypes:= #[24,24]}) (base:Nat) (v:Value) (P:List PR) (q:Value) (k:cO q) (hs:a.eval s=v) (t:w.ownsRow base 36 1 v P.length (P.map (·.1))) (g:Nat) (l:a.eval x=.slice (some ⟨g,0,none⟩) 1 1) (f:w.cell? ⟨g,0,none⟩=some q) (A:P.length+1<=100000) (y:base<=w.heap.size)
  (h:∀v' w',w'.ownsRow base 36 1 v' (P.length+1) (P.map (·.1)++[q]) ->w.grownBy w' v.ownBlock ->wpList Tryz.prog ops Q rest (a.put o.dst v') w'):wpList Tryz.prog ops Q (o::rest) a w:=by
 obtain⟨m,D,z,p,r⟩:=eA Tryz.infoFracs;refine AE _ n s x 24 i base 36 m (.slice none 0 0) 1 24 Tryz.underlying24 D z p r rfl bd v P.length _ hs t ⟨g,0,none⟩ 1 1 [q] l rfl ?_ ?_ (by unfold maxLen;omega) al y ?_
 ·intro j u b;match j,b with
  |0,b=>cases b;exact f
  |j+1,b=>simp at b
 ·intro u c;simp only[bT,fR,iV] at c;subst c;obtain⟨_,_,_,rfl⟩:=k;rfl
 ·intro v' w' d e _;exact h v' w' d e
theorem ahL {o:Oper} {a:Act} (s x:Operand)
  (f:o.op=.call {callee:=.builtin .append,args:= #[s,x],argTypes:= #[22,22]}) (base:Nat) (v:Value) (P:List PV) (m:ByteArray) (q:Value) (i:cO q) (hs:a.eval s=v) (y:w.ownsRow base 60 2 v P.length (vC P)) (g:Nat) (k:a.eval x=.slice (some ⟨g,0,none⟩) 1 1) (n:w.cell? ⟨g,0,none⟩=some (.string m)) (p:w.cell? ⟨g,1,none⟩=some q) (E:P.length+1<=100000) (A:base<=w.heap.size)
  (h:∀v' w',w'.ownsRow base 60 2 v' (P.length+1) (vC P++[.string m,q]) ->w.grownBy w' v.ownBlock ->K (a.put o.dst v') w'):o.wp Tryz.prog a w K Q:=by
 obtain⟨l,D,z,r,t⟩:=eA Tryz.infoVar;refine wp_append_own _ s x 22 f base 60 l (.agg #[.string ⟨#[]⟩,.slice none 0 0]) 2 40 Tryz.underlying22 D z r t rfl bd v P.length _ hs y ⟨g,0,none⟩ 1 1 [.string m,q] k rfl ?_ ?_ (by unfold maxLen;omega) al A ?_
 ·intro j u b;match j,b with
  |0,b=>cases b;exact n
  |1,b=>cases b;exact p
  |j+2,b=>simp at b
 ·intro u c;simp only[bT,fR,iV] at c;rcases c with rfl |rfl
  ·rfl
  ·obtain⟨_,_,_,rfl⟩:=i;rfl
 ·intro v' w' d e _;exact h v' w' d e
theorem N6 (a:List Fr):∀l,dO (l++a)=dO l++dO a
 |[]=>rfl
 |f::l=>by
  show Value.bool f.1::Value.string f.2.1::Value.string f.2.2::dO (l++a)=_;rw[N6 a l];rfl
theorem afW {o:Nat}:∀ {l:List Fr},cE w (some ⟨g,o,none⟩) l ->∀j u,(dO l)[j]? =some u ->w.cell? ((⟨g,o,none⟩:Addr).add j)=some u/\u.oneCell'=true:=by
 intro l h j u a;have q:j<(dO l).length:=(nk.1 a).1;rw[BI] at q;have k:j/3<l.length:=al
 obtain⟨g',i,e,_,b,c,d⟩:=h (j/3) k;cases e
 have f:(⟨g,o,none⟩:Addr).add j=⟨g,o+j,none⟩:=by
  rw[Addr.add];by_cases b:j=0
  ·subst b;simp
  ·simp[b]
 have H:=SI l (j/3) k;rw[f];have m:j % 3=0∨j % 3=1∨j % 3=2:=al
 rcases m with m |m |m
 ·have e:j=j/3*3:=al
  rw[e] at a⊢;rw[H.1] at a;cases a;exact⟨b,rfl⟩
 ·have e:j=j/3*3+1:=al
  rw[e] at a⊢;rw[H.2.1] at a;cases a;exact⟨by rw[<- Cz];exact c,rfl⟩
 ·have e:j=j/3*3+2:=al
  rw[e] at a⊢;rw[H.2.2] at a;cases a;exact⟨by rw[<- Cz];exact d,rfl⟩
theorem ahU {o:Oper} {a:Act} (p:o.guard=none) (s x:Operand)
  (i:o.op=.call {callee:=.builtin .append,args:= #[s,x],argTypes:= #[36,36]}) (base:Nat) (v:Value) (l la:List Fr) (hs:a.eval s=v) (t:fg w base v l) (g c ca:Nat) (m:a.eval x=.slice (some ⟨g,c,none⟩) la.length ca) (f:cE w (some ⟨g,c,none⟩) la) (A:l.length+la.length<=100000) (y:base<=w.heap.size)
  (h:∀v' w',fg w' base v' (l++la) ->w.grownBy w' v.ownBlock ->wpList Tryz.prog ops Q rest (a.put o.dst v') w'):wpList Tryz.prog ops Q (o::rest) a w:=by
 obtain⟨n,D,z,q,r⟩:=eA Tryz.infoFrac;refine AE _ p s x 36 i base 63 n (.agg #[.bool false,.string ⟨#[]⟩,.string ⟨#[]⟩]) 3 40 Tryz.underlying36 D z q r rfl bd v l.length _ hs t ⟨g,c,none⟩ la.length ca (dO la) m (by rw[BI];omega) (fun j u b=>(afW f j u b).1) (fun u k=>?_) (by unfold maxLen;omega) al y ?_
 ·obtain⟨j,b,rfl⟩:=iI k;exact(afW f j _ (aV b)).2
 ·intro v' w' d e _;refine h v' w' ?_ e;rw[fg,bU,N6];exact d
variable {hs:Ki} {U U':World}
theorem aaH {P:Program} (w:World) {o:Oper} {a:Act} (l c:Operand) (t:TypeId) (x:o.op=Op.makeSlice t l c)
  (base:Nat) (e:TypeId) (i:TypeInfo) (z:Value) (s:Nat) (h1:P.underlying t=some (.slice e)) (h:P.info? e=some i) (f:i.zero=some z) (g:i.size=s)
  (kl k:IntKind) (L C:Int) (n:Nat) (r:a.eval l=.int kl L) (q:a.eval c=.int k C) (p:L=(n:Int)) (j:C=(n:Int)) (b2:i.bytes*n<=281474976710656) (b:n<=maxLen) (d:base<=w.heap.size)
  (m:∀w',w'.ownsRow base e s (.slice (some ⟨w.heap.size,0,none⟩) n n) n (madeCells z.cells (n*s)).toList ->w.grownBy w' none ->K (a.put o.dst (.slice (some ⟨w.heap.size,0,none⟩) n n)) w'):o.wp P a w K Q:=by
 obtain⟨w',y,u,v⟩:=run_make_full (P:=P) w base t e i z s h1 h f g kl k n b2 b d;subst p;subst j;unfold Oper.wp;simp[execOp,x,r,q,y,Result.andThen];exact m w' u v
def qY (gs:Ki) (b:Kd) (n:Nat):Prop:=∀g o,b=some ⟨g,o,none⟩ ->n≠0 ->¬g∈gs
structure fE (gs:Ki) (W U:World):Prop where
 os:U.os=W.os
 tape:U.tape=W.tape
 output:U.output=W.output
 size:W.heap.size<=U.heap.size
 block:∀g,g<W.heap.size ->¬g∈gs ->U.heap[g]? =W.heap[g]?
theorem fE.refl (gs:Ki) (W:World):fE gs W W:=⟨rfl,rfl,rfl,ah _,fun _ _ _=>rfl⟩
theorem fE.aa {gs:Ki} {W:World} (h:db W U):fE gs W U:=⟨h.os,h.tape,h.output,h.size,fun g a _=>h.block g a⟩
theorem fE.trans {gs:Ki} {W:World} (h:fE gs W U) (a:fE gs U U'):fE gs W U':=⟨a.os.trans h.os,a.tape.trans h.tape,a.output.trans h.output,aL h.size a.size,fun g b n=>(a.block g (aO b h.size) n).trans (h.block g b n)⟩
theorem fE.set {gs:Ki} {W:World} {b:Nat} (h:b∈gs) (j:Nat) (y:Value):fE gs W (W.setCell ⟨b,j,none⟩ y):=⟨rfl,rfl,rfl,(jD W ⟨b,j,none⟩ y).size,fun g _ n=>eN W ⟨b,j,none⟩ y g fun e=>n (by rw[show g=b from e];exact h)⟩
theorem fE.put {gs:Ki} {W:World} (h:fE gs W U) {b:Nat} (a:b∈gs∨W.heap.size<=b) (j:Nat) (y:Value):fE gs W (U.setCell ⟨b,j,none⟩ y):=⟨h.os,h.tape,h.output,aL h.size (jD U ⟨b,j,none⟩ y).size,fun g d n=>(eN U ⟨b,j,none⟩ y g fun e=>by
 have c:g=b:=e;subst c;rcases a with a |a
 ·exact n a
 ·omega).trans (h.block g d n)⟩
theorem fE.grow {gs:Ki} {W:World} (h:fE gs W U) {row:Option Nat} (a:U.grownBy U' row) (r:∀g,row=some g ->g∈gs∨W.heap.size<=g):fE gs W U':=⟨a.os.trans h.os,a.tape.trans h.tape,a.output.trans h.output,aL h.size a.size,fun g l n=>(a.block g (aO l h.size) fun e=>by
 rcases r g e.symm with b |b
 ·exact n b
 ·omega).trans (h.block g l n)⟩
theorem fE.low {gs:Ki} {W:World} (h:fE gs W U) (a:db w W) (c:∀g∈gs,w.heap.size<=g):db w U:=⟨h.os.trans a.os,h.tape.trans a.tape,h.output.trans a.output,aL a.size h.size,fun k b=>(h.block k (aO b a.size) fun m=>by have:=c k m;omega).trans (a.block k b)⟩
theorem fE.more {gs:Ki} {W:World} (h:fE gs W U) (s:∀g∈gs,g∈hs):fE hs W U:=⟨h.os,h.tape,h.output,h.size,fun g a n=>h.block g a fun m=>n (s g m)⟩
section
variable {gs : Ki} {W U : World}
theorem Rn {b:Kd} (h:aC W b l) (i:qY gs b l.length) (c:fE gs W U):aC U b l:=fun k d=>by
 obtain⟨g,o,e,a,f⟩:=h k d;exact⟨g,o,e,aO a c.size,(iz (c.block g a (i g o e al))).trans f⟩
theorem U6 {b:Kd} {l:List ByteArray} (h:jB W b l) (i:qY gs b l.length) (c:fE gs W U):jB U b l:=fun k d=>by
 obtain⟨g,o,e,a,f⟩:=h k d;exact⟨g,o,e,aO a c.size,(iz (c.block g a (i g o e al))).trans f⟩
theorem KO {b:Kd} {l:List Fr} (h:cE W b l) (m:qY gs b l.length) (d:fE gs W U):cE U b l:=fun k F=>by
 obtain⟨g,o,e,c,f,i,j⟩:=h k F;have a:=d.block g c (m g o e al);exact⟨g,o,e,aO c d.size,(iz a).trans f,(iz a).trans i,(iz a).trans j⟩
theorem Q5 {b:Kd} {B:Nat} (h:∀g,∀o,b=some ⟨g,o,none⟩ ->B<=g) (a:∀g∈gs,g<B):qY gs b n:=fun g o e _ m=>by
 have:=h g o e;have:=a g m;omega
def sf (W:World) (G:Nat) (X:List Value):Prop:=W.heap[G]? =some (.cells X.toArray 60 (0,0))
theorem sf.cell {X:List Value} (h:sf w g X) (j:Nat) (a:j<X.length):w.cell? ⟨g,j,none⟩=some X[j]:=by
 rw[bh w g j _ _ (0,0) h,Jr,aV a]
theorem sf.fz {X:List Value} (h:sf w g X) (j:Nat):w.frozen? ⟨g,j,none⟩=false:=fj w g j _ _ h
theorem sf.lt {X:List Value} (h:sf w g X):g<w.heap.size:=(dD.1 h).1
theorem sf.set {X:List Value} (h:sf w g X) (j:Nat) (v:Value):sf (w.setCell ⟨g,j,none⟩ v) g (X.set j v):=by
 have a:=kn w g j _ _ v h;rw[sf,a];simp
structure pF (gs:Ki) (g:Nat) (V:List Vr) (X:List Value) (W:World):Prop where
 row:sf W g X
 len:V.length*2<=X.length
 at':∀k (h:k<V.length),∃b c,X[k*2]? =some (.string V[k].1)/\X[k*2+1]? =some (.slice b V[k].2.length c)/\jB W b V[k].2/\V[k].2.length<=c/\qY gs b V[k].2.length
structure mX (gs:Ki) (g:Nat) (L:List Kh) (X:List Value) (W:World):Prop where
 row:iu W g X
 len:L.length<=X.length
 at':∀k (h:k<L.length),∃b c,X[k]? =some (.slice b L[k].length c)/\aC W b L[k]/\(b=none ->c=0)/\qY gs b L[k].length
def qb (w:World) (G:Nat) (X:List Value):Prop:=w.heap[G]? =some (.cells X.toArray 36 (0,0))
theorem qb.cell {X:List Value} (h:qb w g X) (j:Nat) (a:j<X.length):w.cell? ⟨g,j,none⟩=some X[j]:=by
 rw[bh w g j _ _ (0,0) h,Jr,aV a]
theorem qb.fz {X:List Value} (h:qb w g X) (j:Nat):w.frozen? ⟨g,j,none⟩=false:=fj w g j _ _ h
theorem qb.lt {X:List Value} (h:qb w g X):g<w.heap.size:=(dD.1 h).1
theorem qb.set {X:List Value} (h:qb w g X) (j:Nat) (v:Value):qb (w.setCell ⟨g,j,none⟩ v) g (X.set j v):=by
 have a:=kn w g j _ _ v h;rw[qb,a];simp
structure pG (gs:Ki) (g:Nat) (R:List (List Fr)) (X:List Value) (W:World):Prop where
 row:qb W g X
 len:R.length<=X.length
 at':∀k (h:k<R.length),∃b c,X[k]? =some (.slice b R[k].length c)/\cE W b R[k]/\R[k].length<=c/\qY gs b R[k].length
variable {g : Nat} {V : List Vr} {L : List Kh} {R : List (List Fr)} {X : List Value}
theorem pF.keep (h:pF gs g V X W) (m:fE gs W U) (l:U.heap[g]? =W.heap[g]?):pF gs g V X U:=⟨l.trans h.row,h.len,fun k d=>by
 obtain⟨b,c,e,f,i,j,a⟩:=h.at' k d;exact⟨b,c,e,f,U6 i a m,j,a⟩⟩
theorem mX.keep (h:mX gs g L X W) (l:fE gs W U) (j:U.heap[g]? =W.heap[g]?):mX gs g L X U:=⟨j.trans h.row,h.len,fun k d=>by
 obtain⟨b,c,e,f,i,a⟩:=h.at' k d;exact⟨b,c,e,Rn f a l,i,a⟩⟩
theorem pG.keep (h:pG gs g R X W) (l:fE gs W U) (j:U.heap[g]? =W.heap[g]?):pG gs g R X U:=⟨j.trans h.row,h.len,fun k d=>by
 obtain⟨b,c,e,f,i,a⟩:=h.at' k d;exact⟨b,c,e,KO f a l,i,a⟩⟩
theorem pF.aa (h:pF gs g V X W) (b:db W U):pF gs g V X U:=h.keep (.aa b) (b.block g h.row.lt)
theorem mX.aa (h:mX gs g L X W) (b:db W U):mX gs g L X U:=h.keep (.aa b) (b.block g h.row.lt)
theorem pG.aa (h:pG gs g R X W) (b:db W U):pG gs g R X U:=h.keep (.aa b) (b.block g h.row.lt)
theorem pF.set (h:pF gs g V X W) (q:g∈gs) (s:k<V.length) {b:Kd} (hs:jB W b V[k].2) (p:V[k].2.length<=c) (o:qY gs b V[k].2.length):
  pF gs g V (X.set (k*2+1) (.slice b V[k].2.length c)) (W.setCell ⟨g,k*2+1,none⟩ (.slice b V[k].2.length c)):=by
 have x:fE gs W (W.setCell ⟨g,k*2+1,none⟩ (.slice b V[k].2.length c)):=.set q _ _;have t:=h.len;refine⟨h.row.set _ _,by rw[iq];exact h.len,fun j r=>?_⟩;obtain⟨f,i,a,l,m,n,d⟩:=h.at' j r;by_cases e:k=j
 ·subst e;refine⟨b,c,?_,?_,U6 hs o x,p,o⟩
  ·rw[wA al];exact a
  ·rw[GG al]
 ·refine⟨f,i,?_,?_,U6 m d x,n,d⟩
  ·rw[wA al];exact a
  ·rw[wA al];exact l
theorem mX.set (h:mX gs g L X W) (r:g∈gs) {b:Kd} (hs:aC W b l) (q:b=none ->c=0) (o:qY gs b l.length):
  mX gs g (L.set k l) (X.set k (.slice b l.length c)) (W.setCell ⟨g,k,none⟩ (.slice b l.length c)):=by
 have x:fE gs W (W.setCell ⟨g,k,none⟩ (.slice b l.length c)):=.set r _ _;have s:=h.len;refine⟨h.row.set _ _,by rw[iq,iq];exact h.len,fun j d=>?_⟩;rw[iq] at d;obtain⟨f,i,m,n,p,a⟩:=h.at' j d;by_cases e:k=j
 ·subst e;rw[Gz];refine⟨b,c,?_,Rn hs o x,q,o⟩;rw[GG al]
 ·rw[LX e];refine⟨f,i,?_,Rn n a x,p,a⟩;rw[wA e];exact m
theorem pG.set (h:pG gs g R X W) (r:g∈gs) {l:List Fr} {b:Kd} (hs:cE W b l) (q:l.length<=c) (o:qY gs b l.length):
  pG gs g (R.set k l) (X.set k (.slice b l.length c)) (W.setCell ⟨g,k,none⟩ (.slice b l.length c)):=by
 have x:fE gs W (W.setCell ⟨g,k,none⟩ (.slice b l.length c)):=.set r _ _;have s:=h.len;refine⟨h.row.set _ _,by rw[iq,iq];exact h.len,fun j d=>?_⟩;rw[iq] at d;obtain⟨f,i,m,n,p,a⟩:=h.at' j d;by_cases e:k=j
 ·subst e;rw[Gz];refine⟨b,c,?_,KO hs o x,q,o⟩;rw[GG al]
 ·rw[LX e];refine⟨f,i,?_,KO n a x,p,a⟩;rw[wA e];exact m
theorem pF.vars (h:pF gs g V X W):td W (some ⟨g,0,none⟩) V:=fun k i=>by
 obtain⟨b,c,a,d,e,f,_⟩:=h.at' k i;have l:=h.len;refine⟨g,0,b,c,rfl,h.row.lt,?_,?_,e,f⟩
 ·rw[bH,h.row.cell _ al];rw[aV al] at a;exact a
 ·rw[bH,h.row.cell _ al];rw[aV al] at d;exact d
theorem mX.pars (h:mX gs g L X W):dC W (some ⟨g,0,none⟩) L:=fun k e=>by
 obtain⟨b,c,a,d,_,_⟩:=h.at' k e;have l:=h.len;refine⟨g,0,b,c,rfl,h.row.lt,?_,d⟩;rw[bH,h.row.cell _ al];rw[aV al] at a;exact a
theorem mX.lsn (h:mX gs g L X W):oZ W (some ⟨g,0,none⟩) L:=fun k i g' p j o l e a n=>by
 cases e;obtain⟨b,c,d,_,f,_⟩:=h.at' k i;have m:=h.len;rw[bH,h.row.cell _ al] at a;rw[aV al] at d;rw[ko d] at a;cases a;exact f n
theorem pG.rows (h:pG gs g R X W):LA W (some ⟨g,0,none⟩) R:=fun k f=>by
 obtain⟨b,c,a,d,e,_⟩:=h.at' k f;have l:=h.len;refine⟨g,0,b,c,rfl,h.row.lt,?_,d,e⟩;rw[bH,h.row.cell _ al];rw[aV al] at a;exact a
end
theorem kJ.strs {B:Nat} {v:Value} {l:List ByteArray} (h:kJ w B v l):∃d f,v=.slice d l.length f/\jB w d l/\l.length<=f/\∀g o,d=some ⟨g,o,none⟩ ->B<=g:=by
 rcases h.2 with ⟨a,b⟩ |⟨g,cap,u,a,b,p,i,q,r,s⟩
 ·have:l=[]:=Qa b;subst this;exact⟨none,0,a,fun k c=>absurd c aE,ah _,fun g o e=>by cases e⟩
 ·refine⟨some ⟨g,0,none⟩,cap,a,fun k c=>?_,i,fun g' t e=>by cases e;exact b⟩;subst a;obtain⟨g',e,n,m⟩:=JX h (j:=k) (by rw[cH];exact c);cases e;refine⟨g,0,rfl,n,?_⟩;rw[bH,m,mn]
theorem bJ.ints3 {B:Nat} {v:Value} (h:bJ w B v l):∃d f,v=.slice d l.length f/\aC w d l/\(d=none ->f=0)/\∀g o,d=some ⟨g,o,none⟩ ->B<=g:=by
 rcases h.2 with ⟨a,b⟩ |⟨g,cap,u,a,b,n,p,q,r,s⟩
 ·have:l=[]:=Qa b;subst this;exact⟨none,0,a,fun k c=>absurd c aE,fun _=>rfl,fun g o e=>(by cases e)⟩
 ·refine⟨some ⟨g,0,none⟩,cap,a,fun k c=>?_,(fun e=>by cases e),(fun g' t e=>by cases e;exact b)⟩;subst a;obtain⟨g',e,m,i⟩:=JX h (j:=k) (by rw[cH];exact c);cases e;refine⟨g,0,rfl,m,?_⟩;rw[bH,i,mn]
def Tf (w:World) (V:List Vr) (X:List Value):Prop:=∀k (h:k<V.length),∃b c,X[k*2]? =some (.string V[k].1)/\X[k*2+1]? =some (.slice b V[k].2.length c)/\jB w b V[k].2/\V[k].2.length<=c
theorem ajf (h:td w a V) (p:0<V.length):∃g o,a=some ⟨g,o,none⟩/\g<w.heap.size:=by
 obtain⟨g,o,_,_,b,c,_⟩:=h 0 p;exact⟨g,o,b,c⟩
theorem ajm (a:Kd) (ca:Nat) (V:List Vr) (w0 w:World) (h:td w0 a V) (D:db w0 w) (hp:0<V.length) (h8:V.length<=1000):
  da 83 #[.slice a V.length ca] w fun e w'=>∃R cap X,e=.returned (.slice (some ⟨R,0,none⟩) V.length cap)/\w.heap.size<=R/\V.length<=cap/\sf w' R X/\V.length*2<=X.length/\Tf w0 V X/\db w w':=by
 obtain⟨i0,cD,ab,ad,ae⟩:=eA Tryz.infoVar;obtain⟨g,o,rfl,J⟩:=ajf h hp;obtain⟨vs,I⟩:∃vs:List Value,vs=(List.range (V.length*2)).map fun k=>(w.cell? ⟨g,o+k,none⟩).getD undef:=⟨_,rfl⟩;have Z:vs.length=V.length*2:=by rw[I];simp
 have A:∀k (d:k<V.length),∃b c,vs[k*2]? =some (.string V[k].1)/\vs[k*2+1]? =some (.slice b V[k].2.length c)/\jB w0 b V[k].2/\V[k].2.length<=c/\w.cell? ⟨g,o+k*2,none⟩=some (.string V[k].1)/\w.cell? ⟨g,o+(k*2+1),none⟩=some (.slice b V[k].2.length c):=fun k d=>by
  obtain⟨g',o',b,c,e,_,f,x,H,q⟩:=h k d;cases e;have F:=(D.cell (p:=⟨g,o+k*2,none⟩) J).trans f;have v:=(D.cell (p:=⟨g,o+k*2+1,none⟩) J).trans x;rw[Cz] at v;refine⟨b,c,?_,?_,H,q,F,v⟩
  ·rw[I,kq,Jt al,Option.map_some,F];rfl
  ·rw[I,kq,Jt al,Option.map_some,v];rfl
 have O:∀j (i:j<vs.length),w.cell? ⟨g,o+j,none⟩=some vs[j]/\vs[j].oneCell'=true:=fun j i=>by
  have d:j/2<V.length:=al
  obtain⟨b,c,m,f,_,_,q,y⟩:=A (j/2) d;rcases Nat.mod_two_eq_zero_or_one j with e |e
  ·have l:j/2*2=j:=al
   rw[l,aV i] at m;rw[l] at q;rw[q,ko m];exact⟨rfl,rfl⟩
  ·have l:j/2*2+1=j:=al
   rw[l,aV i] at f;rw[l] at y;rw[y,ko f];exact⟨rfl,rfl⟩
 have T:=hid A;have K:=hid O;have E:=hid Z;clear I h Z A O D;have ai:∀(w:World) (a:Kd) (n c z t:Nat),(binOp .eql 22 (.slice a n c) (.slice none z t)).run Tryz.prog w=.ok (.bool a.isNone) w:=fun w a n c z t=>Lib.run_eql_slice_nil w _ _ a n c z t Tryz.underlying22;go_enter Tryz.func83,Tryz.ntmps83;go_wp2_with (at_builtin;refine AE _ rfl _ _ 22 rfl w.heap.size 60 i0 (.agg #[.string ⟨#[]⟩,.slice none 0 0]) 2 40 Tryz.underlying22 cD ab ad ae rfl bd _ _ _ rfl (World.ownsRow_made w #[] 0 (ah _) (aU _) rfl) ⟨g,o,none⟩ V.length ca vs rfl ?Mz ?My ?Mx ?Mw ?Mv ?Mu ?_)
 case Mz=>exact E.o
 case My=>
  intro j u i;have M:=(nk.1 i).1;rw[Addr.add_lit];refine Lib.cell?_alloc_some _ ?_;rw[(K.o j M).1, <- i,aV M]
 case Mx=>
  intro u hu;obtain⟨k,d,rfl⟩:=iI hu;exact(K.o k d).2
 case Mw=>unfold maxLen;omega
 case Mv=>omega
 case Mu=>simp
 intro v' w1 s P af;have L:db w w1:=((au _ w).alloc (ah _) _).grown P aE (by intro k d;simp[Value.ownBlock] at d;omega);have Q:=hid L;have S:=hid s;clear s P af L;go_wp2;go_ret;have s:=S.o;have Z:=E.o;rcases s.2 with ⟨m,f⟩ |⟨R,cap,r,m,f,x,H,q,y,h7⟩
 ·omega
 ·have e:vs++r.toList.drop (V.length*2)=r.toList:=by
   have aa:vs=r.toList.take (V.length*2):=by
    exact h7.symm
   conv=>lhs;rw[aa]
   exact yR _ _
  refine⟨R,cap,vs++r.toList.drop (V.length*2),by rw[m];rfl,f,al,?_,by rw[bU];omega,fun k d=>?_,Q.o⟩
  ·rw[sf,x,e]
  ·obtain⟨b,c,U,Y,a3,a4,_⟩:=T.o k d;exact⟨b,c,by rw[GH al];exact U,by rw[GH al];exact Y,a3,a4⟩
theorem ajn (a:Kd) (ca:Nat) (l:List ByteArray) (w:World) (h:jB w a l) (E:0<l.length) (Q:l.length<=5000):
  da 84 #[.slice a l.length ca] w fun e w'=>∃d f,e=.returned (.slice d l.length f)/\jB w' d l/\l.length<=f/\(∀g o,d=some ⟨g,o,none⟩ ->w.heap.size<=g)/\db w w':=by
 obtain⟨I,D,K,L,M⟩:=eA Tryz.infoStr;obtain⟨g,o,rfl,R, -⟩:=h 0 E
 have x:∀j (b:j<l.length),w.cell? ⟨g,o+j,none⟩=some (.string l[j]):=fun j b=>by
  obtain⟨g',S,e,_,m⟩:=h j b;cases e;exact m
 have J:=hid x;clear h x;have T:∀(w:World) (a:Kd) (n c p i:Nat),(binOp .eql 58 (.slice a n c) (.slice none p i)).run Tryz.prog w=.ok (.bool a.isNone) w:=fun w a n c p i=>Lib.run_eql_slice_nil w _ _ a n c p i Tryz.underlying58;go_enter Tryz.func84,Tryz.ntmps84;go_wp2_with (at_builtin;refine AE _ rfl _ _ 58 rfl w.heap.size 9 I (.string ⟨#[]⟩) 1 16 Tryz.underlying58 D K L M rfl bd _ _ _ rfl (World.ownsRow_made w #[] 0 (ah _) (aU _) rfl) ⟨g,o,none⟩ l.length ca (l.map Value.string) rfl ?Mz ?My ?Mx ?Mw ?Mv ?Mu ?_)
 case Mz=>simp
 case My=>
  intro j u b;have t:j<l.length:=by have:=(nk.1 b).1;rwa [cH] at this
  rw[Addr.add_lit];refine Lib.cell?_alloc_some _ ?_;rw[J.o j t, <- b,kq,aV t];rfl
 case Mx=>
  intro u F;obtain⟨k,r,rfl⟩:=iI F;rw[mn];rfl
 case Mw=>unfold maxLen;omega
 case Mv=>omega
 case Mu=>simp
 intro v' q v y P;have s:db w q:=((au _ w).alloc (ah _) _).grown y aE (by intro k r;simp[Value.ownBlock] at r;omega);have H:=hid s
 have O:Hid (kJ q w.heap.size v' l):=by
  show q.ownsRow _ _ _ _ _ _;exact v
 clear v y P s;go_wp2;go_ret;obtain⟨d,f,rfl,z,m,A⟩:=O.o.strs;exact⟨d,f,rfl,z,m,A,H.o⟩
def LK (w wr:World) (x y z:Value):Prop:=NK w wr x y z/\aJ wr (w.heap.size+1) false ⟨#[]⟩ ⟨#[]⟩
theorem LK.new (w:World) (x y z:Value):LK w ((w.alloc (NC x y z)).alloc (FC false ⟨#[]⟩ ⟨#[]⟩)) x y z:=⟨(NK.new w x y z).step ((au _ _).alloc (ah _) _),aJ.at aE _ _ _⟩
theorem LK.drewN (h:LK w wr x y z) (k:Nat):LK w (wr.drewN k) x y z:=⟨⟨h.1.1,below_drewN h.1.2 k⟩,h.2⟩
theorem akM (p:∀v,sz S v<=4) (f:Nat ->Nat) (h:∀u,f u<sz S u) {P:Ki} (l:P.length<=8) (i:Nat):pos S f (P.take i)<=65536:=by
 have a:=uP f h (P.take i);have b:=wY p (vs:=P.take i) (by rw[eW];omega);omega
def sO (S:Ki) (P:Ki) (f:Nat ->Nat) (v:Nat):Nat:=pos S f P*sz S v+f v
theorem aef {P:Ki} (h:∀u,f u<sz S u) (v:Nat):sO S P f v<cnt S P*sz S v:=by
 have a:=uP f h P;have b:=h v;rw[sO]
 calc pos S f P*sz S v+f v<pos S f P*sz S v+sz S v:=al
  _=(pos S f P+1)*sz S v:=by rw[il,kO]
  _<=cnt S P*sz S v:=lB _ a
theorem anm (a b c d:Kd) (ca cb cc cd v:Nat) (V:List Vr) (L:List Kh) (R:List (List Fr)) (A:Ki) (w:World) (h:iT w a b c V L R) (hA:aC w d (iL A)) (Sv:A.length=V.length) (bb:V.length<=8) (hv:v<V.length) (fO:v<L.length) (sP:v<R.length) (hS:gI (iL (ar V))) (hU:Up L[v] V.length) (ad:R[v].length=cnt (ar V) (ag L[v])*sz (ar V) v) (f:Nat ->Nat) (hf:∀u,f u<sz (ar V) u) (XQ:∀u,u<V.length ->A[u]? =some (f u)):
  da 258 #[.agg #[.slice a V.length ca,.slice b L.length cb,.slice c R.length cc],.int .i64 (v:Nat),.slice d A.length cd] w (du w (kE (cT R[v] (sO (ar V) (ag L[v]) f v)))):=by
 have hT:=aef (S:=ar V) (P:=ag L[v]) hf v;rw[<- ad] at hT;rw[vA hT];have D:∀u,sz (ar V) u<=4:=fun u=>by have:=hS.sz_le u;rwa [iJ] at this
 have af:(ag L[v]).length<=8:=by rw[fT];have:=hU.length;omega
 have aS:L[v].length<=8:=by have:=hU.length;omega
 have jC:=hid (fun i=>akM D f hf af i);have uy:=hid (fun i (hi:i<(ag L[v]).length)=>akN (ar V) f hi)
 have DN:Hid (pos (ar V) f ((ag L[v]).take L[v].length)=pos (ar V) f (ag L[v])):=by
  show _=_;rw[kP (by rw[fT];omega)]
 have Cn:Hid (∀u,f u<4):=fun u=>aO (hf u) (D u);have Aj:=hid D;have ll:=hid hU;have aR:=hid (fun u (hu:u<V.length)=>Mo hu);have ij:Hid (∀u (hu:u<V.length),sz (ar V) u=V[u].2.length):=fun u hu=>by rw[sz,Mo hu];rfl
 have ai:=hid XQ;have HI:=hid h;have HA:=hid hA;have av:sO (ar V) (ag L[v]) f v=pos (ar V) f (ag L[v])*sz (ar V) v+f v:=rfl;obtain⟨gp,Y,bp,cp,rfl,iG,t,k7⟩:=h.pars v fO;obtain⟨gr,F,br,cr,rfl,ay,O,MX,RH⟩:=h.rows v sP;obtain⟨gf,K,rfl,BB,E,I,J⟩:=MX _ hT;obtain⟨gv,g,bv,cv,rfl,Ky, -,s, -, -⟩:=h.vars v hv;obtain⟨z,oa,rfl,BC,r⟩:=hA v (by rw[bL];omega)
 have ea:(iL A)[v]'(by rw[bL];omega)=((f v:Nat):Int):=by
  obtain⟨m,h2⟩:=nk.1 (XQ v hv);simp only[iL,mn,h2]
 rw[ea] at r;rw[<- ij.o v hv] at s;have Ca:=hid k7;have M:=hid (show _/\_/\_/\_/\_/\_/\_ from ⟨t,O,s,r,E,I,J⟩);have bf:=Cn.o v;have Kg:=Aj.o v;have E4:=jC.o (ag L[v]).length;rw[iY] at E4
 have bk:R[v].length<=262144:=by
  rw[ad];have m:=wY D af;exact aL (kp m Kg) bd
 have aQ:=hid RH;generalize hTT:sO (ar V) (ag L[v]) f v=T at *;generalize hfr:R[v][T]=fr at *;obtain⟨fn,fx,fy⟩:=fr;simp only at M;clear h hA XQ k7 MX t O s r E I J ad hf D hS hU ea hTT hfr RH;generalize R[v]=rl at *;generalize L[v]=l at *;have ly:=hid (LK.new w (.slice (some ⟨gv,g,none⟩) V.length ca) (.slice (some ⟨gp,Y,none⟩) L.length cb) (.slice (some ⟨gr,F,none⟩) R.length cc));obtain⟨X,c1,Z⟩:=ly.o.1.1.cells;have t:=(ly.o.1.2.cell (p:=⟨gp,Y+v,none⟩) iG).trans M.o.1;go_enter Tryz.func258,Tryz.ntmps258;go_wp2_with fail
 generalize ((w.alloc (NC (.slice (some ⟨gv,g,none⟩) V.length ca) (.slice (some ⟨gp,Y,none⟩) L.length cb) (.slice (some ⟨gr,F,none⟩) R.length cc))).alloc (FC false ⟨#[]⟩ ⟨#[]⟩))=w1 at *;clear X c1 Z t;go_loopw [7,16] (fun kv iv wr=>∃i:Nat,i<=l.length/\iv=.int .i64 i/\kv=.int .i64 (pos (ar V) f ((ag l).take i):Nat)/\Hid (LK w wr (.slice (some ⟨gv,g,none⟩) V.length ca) (.slice (some ⟨gp,Y,none⟩) L.length cb) (.slice (some ⟨gr,F,none⟩) R.length cc))) (fun _ iv _=>l.length - (intOf iv).toNat)
 case atStart=>exact⟨0,aU _,rfl,rfl,ly⟩
 case round=>
  obtain⟨i,hi,rfl,rfl,H⟩:=hrel;clear ly;obtain⟨X,c1,Z⟩:=H.o.1.1.cells;have t:=(H.o.1.2.cell (p:=⟨gp,Y+v,none⟩) iG).trans M.o.1;by_cases ab:i<l.length
  ·obtain⟨gl,ol,rfl,cR,l1⟩:=(Ca.o.aa H.o.1.2) i ab;obtain⟨k6,cY⟩:=ll.o.nat ab;(have nL:i<(ag l).length:=by rw[fT];exact ab);have fp:=uy.o i nL;rw[wE ab] at fp;have E5:=jC.o i;rw[<- k6] at l1;generalize l[i].toNat=u at *;obtain⟨a8,bo,bu,cu,ev,aT, -,n2, -, -⟩:=(HI.o.aa H.o.1.2).vars u cY;cases ev;rw[<- ij.o u cY] at n2;obtain⟨a7,bm,an,a6,a2⟩:=(HA.o.aa H.o.1.2) u (by rw[bL];omega);cases an
   have eu:(iL A)[u]'(by rw[bL];omega)=((f u:Nat):Int):=by
    obtain⟨m,h2⟩:=nk.1 (ai.o u cY);simp only[iL,mn,h2]
   rw[eu] at a2;have bg:=Cn.o u;have aN:=Aj.o u;have O2:Hid (pos (ar V) f ((ag l).take (i+1))=pos (ar V) f ((ag l).take i)*sz (ar V) u+f u):=fp;clear fp eu nL k6;generalize Im:pos (ar V) f ((ag l).take (i+1))=P1 at *;generalize pos (ar V) f ((ag l).take i)=y at *;generalize sz (ar V) u=Q at *;generalize f u=fu at *;have m:y*Q<=65536*4:=kp E5 aN
   have aE:IntKind.i64.wrap ((y:Int)*(Q:Int))=((y*Q:Nat):Int):=by
    rw[jk, <- mo];omega
   have bj:IntKind.i64.wrap (((y*Q:Nat):Int)+(fu:Int))=(P1:Int):=by
    rw[jk];have:=O2.o;omega
   generalize y*Q=Q0 at *;have sD:=hid Im;clear Im m O2;go_upto_region 5 with fail
   go_quiet (fail)
   have aj:=hid (H.o.drewN nq);generalize wr.drewN nq=w2 at *;go_wp2;go_roundw
   case rel=>exact⟨i+1,al,b5,by rw[sD.o],aj⟩
   case measure=>simp[intOf];omega
  ·obtain rfl:i=l.length:=al
   rw[DN.o];have O:=(H.o.1.2.cell (p:=⟨gr,F+v,none⟩) ay).trans M.o.2.1;have s:=(H.o.1.2.cell (p:=⟨gv,g+v*2+1,none⟩) Ky).trans M.o.2.2.1;have r:=(H.o.1.2.cell (p:=⟨z,oa+v,none⟩) BC).trans M.o.2.2.2.1;have E:=(H.o.1.2.cell (p:=⟨gf,K+T*3,none⟩) BB).trans M.o.2.2.2.2.1;have I:=(H.o.1.2.cell (p:=⟨gf,K+T*3+1,none⟩) BB).trans M.o.2.2.2.2.2.1;have J:=(H.o.1.2.cell (p:=⟨gf,K+T*3+2,none⟩) BB).trans M.o.2.2.2.2.2.2;have m:pos (ar V) f (ag l)*sz (ar V) v<=65536*4:=kp E4 Kg;generalize pos (ar V) f (ag l)=p at *;generalize sz (ar V) v=k at *;generalize f v=x at *
   have aE:IntKind.i64.wrap ((p:Int)*(k:Int))=((p*k:Nat):Int):=by
    rw[jk, <- mo];omega
   have bj:IntKind.i64.wrap (((p*k:Nat):Int)+(x:Int))=(T:Int):=by
    rw[jk];omega
   generalize p*k=pk at *;clear av m;go_upto_region 7 with fail
   have U:=H.o;refine jZ (S:=fun u=>u.cell? ⟨w.heap.size,2,none⟩=some (.slice (some ⟨gr,F,none⟩) R.length cc)/\u.cell? ⟨gr,F+v,none⟩=some (.slice (some ⟨gf,K,none⟩) rl.length cr)/\u.cell? ⟨w.heap.size,0,none⟩=some (.slice (some ⟨gv,g,none⟩) V.length ca)/\u.cell? ⟨gv,g+v*2+1,none⟩=some (.slice bv k cv)/\u.cell? ⟨z,oa+v,none⟩=some (.int .i64 (x:Nat))/\u.cell? ⟨gf,K+T*3,none⟩=some (.bool fn)/\u.cell? ⟨gf,K+T*3+1,none⟩=some (.string fx)/\u.cell? ⟨gf,K+T*3+2,none⟩=some (.string fy)) ao ⟨Z,O,X,s,r,E,I,J⟩ (fun q=>?_);have U:LK w wr.drew (.slice (some ⟨gv,g,none⟩) V.length ca) (.slice (some ⟨gp,Y,none⟩) L.length cb) (.slice (some ⟨gr,F,none⟩) R.length cc):=⟨⟨H.o.1.1,H.o.1.2.drew⟩,H.o.2⟩;clear X c1 Z t O s r E I J;generalize wr.drew=u0 at *;refine az 0 (.pointer (some ⟨w.heap.size,2,none⟩)) ?_;refine az 1 (.slice (some ⟨gr,F,none⟩) R.length cc) ?_;refine az 2 (.int .i64 (v:Nat)) ?_;refine az 3 (.pointer (some ⟨gr,F+v,none⟩)) ?_;refine az 4 (.slice (some ⟨gf,K,none⟩) rl.length cr) ?_;refine az 5 (.int .i64 (p:Nat)) ?_;refine az 6 (.pointer (some ⟨w.heap.size,0,none⟩)) ?_;refine az 7 (.slice (some ⟨gv,g,none⟩) V.length ca) ?_;refine az 8 (.int .i64 (v:Nat)) ?_;refine az 9 (.pointer (some ⟨gv,g+v*2,none⟩)) ?_;refine az 10 (.pointer (some ⟨gv,g+v*2+1,none⟩)) ?_;refine az 11 (.slice bv k cv) ?_;refine az 12 (.int .i64 (k:Nat)) ?_;refine az 13 (.int .i64 (pk:Nat)) ?_;refine az 14 (.slice (some ⟨z,oa,none⟩) A.length cd) ?_
   refine az 15 (.int .i64 (v:Nat)) ?_;refine az 16 (.pointer (some ⟨z,oa+v,none⟩)) ?_;refine az 17 (.int .i64 (x:Nat)) ?_;refine az 18 (.int .i64 (T:Nat)) ?_;refine az 19 (.pointer (some ⟨gf,K+T*3,none⟩)) ?_;refine az 20 (.agg #[.bool fn,.string fx,.string fy]) ?_;(try simp only[gE,aP]);obtain⟨k0,k1,k2,f0,f1,f2⟩:=U.2.facts;(have n:w.heap.size≠w.heap.size+1:=al);(have XA:gr≠w.heap.size+1:=al);(have Xz:gv≠w.heap.size+1:=al);(have XB:z≠w.heap.size+1:=al);(have j:gf≠w.heap.size+1:=al);refine aG [21] (cA ?_ aI);intro K' ae;go_simp;have lO:=U.2.put fn fx fy;have ax:=fL U.1.2 (show w.heap.size<=w.heap.size+1 by omega) (.bool fn) (.string fx) (.string fy)
   refine ae.o _ _ ⟨((fN _ _ _ _ (fun e=>n (ed Addr.block e).symm)).trans ((fN _ _ _ _ (fun e=>n (ed Addr.block e).symm)).trans ((fN _ _ _ _ (fun e=>n (ed Addr.block e).symm)).trans q.1))),((fN _ _ _ _ (fun e=>XA (ed Addr.block e).symm)).trans ((fN _ _ _ _ (fun e=>XA (ed Addr.block e).symm)).trans ((fN _ _ _ _ (fun e=>XA (ed Addr.block e).symm)).trans q.2.1))),((fN _ _ _ _ (fun e=>n (ed Addr.block e).symm)).trans ((fN _ _ _ _ (fun e=>n (ed Addr.block e).symm)).trans ((fN _ _ _ _ (fun e=>n (ed Addr.block e).symm)).trans q.2.2.1))),((fN _ _ _ _ (fun e=>Xz (ed Addr.block e).symm)).trans ((fN _ _ _ _ (fun e=>Xz (ed Addr.block e).symm)).trans ((fN _ _ _ _ (fun e=>Xz (ed Addr.block e).symm)).trans q.2.2.2.1))),((fN _ _ _ _ (fun e=>XB (ed Addr.block e).symm)).trans ((fN _ _ _ _ (fun e=>XB (ed Addr.block e).symm)).trans ((fN _ _ _ _ (fun e=>XB (ed Addr.block e).symm)).trans q.2.2.2.2.1))),((fN _ _ _ _ (fun e=>j (ed Addr.block e).symm)).trans ((fN _ _ _ _ (fun e=>j (ed Addr.block e).symm)).trans ((fN _ _ _ _ (fun e=>j (ed Addr.block e).symm)).trans q.2.2.2.2.2.1))),((fN _ _ _ _ (fun e=>j (ed Addr.block e).symm)).trans ((fN _ _ _ _ (fun e=>j (ed Addr.block e).symm)).trans ((fN _ _ _ _ (fun e=>j (ed Addr.block e).symm)).trans q.2.2.2.2.2.2.1))),((fN _ _ _ _ (fun e=>j (ed Addr.block e).symm)).trans ((fN _ _ _ _ (fun e=>j (ed Addr.block e).symm)).trans ((fN _ _ _ _ (fun e=>j (ed Addr.block e).symm)).trans q.2.2.2.2.2.2.2)))⟩ (fun ak=>?_)
   clear ae K' q ak k0 k1 k2 f0 f1 f2;generalize (((u0.setCell ⟨w.heap.size+1,0,none⟩ (.bool fn)).setCell ⟨w.heap.size+1,1,none⟩ (.string fx)).setCell ⟨w.heap.size+1,2,none⟩ (.string fy))=u9 at *;(try simp only[gE,aP]);refine gj ao ?_ _;go_wp2;refine cP (lO.result rfl _ rfl) rfl ?_;exact⟨rfl,ax⟩
structure NOK (V:List Vr) (L:List Kh) (R:List (List Fr)):Prop where
 len:L.length=V.length
 lenR:R.length=V.length
 n8:V.length<=8
 fine:gI (iL (ar V))
 up:∀v (h:v<L.length),Up L[v] V.length
 rows:∀v (h:v<L.length) (h':v<R.length),R[v].length=cnt (ar V) (ag L[v])*sz (ar V) v
theorem Dp {f:Nat ->Int}:∀ {n:Nat},jU f n=0 ->∀j,j< n ->f j=0
 |0,_,j,hj=>al
 |n+1,hz,j,hj=>by
  rw[jU] at hz;by_cases e:jU f n=0
  ·rw[aw e] at hz;rcases dG j n with h |h
   ·exact Dp e j h
   ·obtain rfl:j=n:=al
    exact hz
  ·rw[aA e] at hz;exact absurd hz e
theorem gC (h:aW V L R=0):NOK V L R:=by
 rw[aW] at h;by_cases a:L.length=V.length/\R.length=V.length
 ·rw[aw a] at h;by_cases b:aX L=0
  ·rw[aw b] at h;by_cases c:lF V=0
   ·rw[aw c] at h;obtain⟨g,i,u⟩:=af3 a.1 b c;refine⟨a.1,a.2,al,g,fun v e=>by rw[<- a.1];exact u v e,fun v e r=>?_⟩;have d:=Dp h v al;rw[jm,bF,aV r,bF,aV e] at d;by_cases f:R[v].length=cnt (ar V) (ag L[v])*sz (ar V) v
    ·exact f
    ·simp only[Cx] at d;rw[aA f] at d;exact absurd d bd
   ·rw[aA c] at h;exact absurd h c
  ·rw[aA b] at h;exact absurd h b
 ·rw[aA a] at h;exact absurd h bd
def fk (V:List Vr) (L:List Kh) (R:List (List Fr)) (f:Nat ->Nat) (v:Nat):Fr:=cT (R.getD v []) (sO (ar V) (ag (L.getD v [])) f v)
def wF (V:List Vr) (L:List Kh) (R:List (List Fr)) (f:Nat ->Nat):Nat ->Rat
 |0=>1
 |k+1=>wF V L R f k*ba (fk V L R f k)
theorem Rh (h:v<L.length) (a:v<R.length):fk V L R f v=cT R[v] (sO (ar V) (ag L[v]) f v):=by
 rw[fk,bF,aV a,bF,aV h];rfl
theorem anw (a:NOK V L R) (e:∀u,f u<sz (ar V) u) (w:∀l∈R,fw l<=4200) (d:v<V.length):(fk V L R f v).2.1.size+(fk V L R f v).2.2.size<=4200:=by
 have c:v<L.length:=by rw[a.len];exact d
 have h:v<R.length:=by rw[a.lenR];exact d
 rw[Rh c h];have b:=aef (S:=ar V) (P:=ag L[v]) e v;rw[<- a.rows v c h] at b;have g:=ark b;have i:=w R[v] (bP h);omega
def bl (s:ByteArray):List UInt8:=s.data.toList
def gU (L:List Kh) (v:Nat):Kh:=ei (L.getD v []) [(v:Int)]
def gL (V:List Vr) (L:List Kh) (R:List (List Fr)) (v:Nat):List Fr:=(List.range (cnt (ar V) (ag (gU L v)))).map fun K=>qF (ba (fk V L R (bA (ar V) (ag (gU L v)) K) v))
theorem UO (h:v<n):Up [(v:Int)] n:=jM.2 ⟨fun x a=>by have:=dS.1 a;omega,List.pairwise_singleton _ _⟩
def GK (w V:World) (x y z:Value):Prop:=NK w V x y z/\bw V (w.heap.size+1) (.slice none 0 0) (.slice none 0 0)
theorem GK.new (w:World) (x y z:Value):GK w ((w.alloc (NC x y z)).alloc (TC (.slice none 0 0) (.slice none 0 0))) x y z:=⟨(NK.new w x y z).step ((au _ _).alloc (ah _) _),bw.at aE _ _⟩
theorem GK.step {V:World} (h:GK w V x y z) (b:db V V'):GK w V' x y z:=⟨h.1.step b,h.2.aa b h.2.lt⟩
variable {vs:Ki}
theorem aqP {a b:Ki} (h:a.Perm b):cnt S a=cnt S b:=by
 induction h with
 |nil=>rfl
 |cons x _ ih=>simp only[cnt,ih]
 |swap x y l=>simp only[cnt];rw[Cy]
 |trans _ _ h1 h2=>exact h1.trans h2
theorem adG (h:aW V L R=0) (d:v<L.length):¬v∈ag L[v]:=by
 rw[aW] at h;by_cases c:L.length=V.length/\R.length=V.length
 ·rw[aw c] at h;by_cases a:aX L=0
  ·rw[aX] at a;by_cases b:gB L=true
   ·rw[gB,iB,iB,A7,eX] at b;have:=b.2 v (bM.2 d);rw[bF,aV d] at this;simpa using this
   ·rw[aA b] at a;cases a
  ·rw[aA a] at h;exact absurd h a
 ·rw[aA c] at h;cases h
theorem abH (k:v<L.length) (T:Up L[v] n) (o:¬v∈ag L[v]):(([(v:Int)]++L[v]).mergeSort fun x y=>decide (x<=y))=gU L v:=by
 have O:L.getD v []=L[v]:=by rw[bF,aV k];rfl
 obtain⟨d,e⟩:=Ex L[v] [(v:Int)];rw[gU,O];have A:¬(v:Int)∈L[v]:=fun h=>o (by rw[ag];exact aH.2 ⟨_,h,qE v⟩);have m:(([(v:Int)]++L[v]).mergeSort fun x y=>decide (x<=y)).Pairwise (fun x y=>decide (x<=y)=true):=Uo (fun a b c d e=>by simp at d e⊢;omega) (fun a b=>by simp;omega) _
 have J:([(v:Int)]++L[v]).Nodup:=by
  rw[List.singleton_append,nZ];exact⟨A,(jM.1 T).2.imp fun h=>al⟩
 have l:(([(v:Int)]++L[v]).mergeSort fun x y=>decide (x<=y)).Nodup:=(P5 _ _).nodup_iff.2 J;refine Vj ?_ d fun x=>?_
 ·rw[yS];intro i j f g p;have q:=yS.1 m i j f g p;have r:=yS.1 l i j f g p;have s:=mg q;omega
 ·rw[List.mem_mergeSort,e,aZ];exact Or.comm
theorem aqQ (S:Ki) (f:v<L.length) (a:Up L[v] n) (o:¬v∈ag L[v]):cnt S (ag (gU L v))=cnt S (ag L[v])*sz S v:=by
 rw[<- abH f a o];have h:(([(v:Int)]++L[v]).mergeSort fun x y=>decide (x<=y)).Perm ([(v:Int)]++L[v]):=P5 _ _;have b:=aqP (S:=S) (h.map Int.toNat);rw[ag,b,eh,fG,ng,List.singleton_append,cnt,qE,eB];rfl
def Bi (A f:Nat ->Nat) (vs:Ki) (i:Nat):Nat ->Nat:=fun u=>if u∈vs.take i then f u else A u
theorem am4 (A f:Nat ->Nat) (vs:Ki):Bi A f vs 0=A:=by funext u;simp[Bi]
theorem am5 (A f:Nat ->Nat) (n:Nat) (h:i<vs.length):(rF n (Bi A f vs i)).set vs[i] (f vs[i])=rF n (Bi A f vs (i+1)):=by
 rw[ajb];refine ajc fun u _=>?_;rw[aM,Bi,Bi,im h];by_cases e:u=vs[i]
 ·rw[aw e,aw (aZ.2 (.inr (dS.2 e))),e]
 ·rw[aA e];by_cases b:u∈vs.take i
  ·rw[aw b,aw (aZ.2 (.inl b))]
  ·rw[aA b,aA (fun a=>by rcases aZ.1 a with a |a;exact b a;exact e (dS.1 a))]
theorem am6 {A:Nat ->Nat} (h:∀u,¬u∈vs ->A u=0) (a:∀u,¬u∈vs ->f u=0):Bi A f vs vs.length=f:=by
 funext u
 rw[Bi,iY];by_cases e:u∈vs
 ·rw[aw e]
 ·rw[aA e,h u e,a u e]
end Go.Proofs.YtkflnpjapgiajaaGreatDoor
