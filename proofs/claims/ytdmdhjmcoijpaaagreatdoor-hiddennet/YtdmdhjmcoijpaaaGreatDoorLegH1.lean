/- Part1: part 1. -/
import Derived.Test.YtdmdhjmcoijpaaaGreatDoorTermH
set_option maxRecDepth 100000
set_option maxHeartbeats 400000000
set_option linter.unusedSimpArgs false
set_option linter.unusedVariables false
namespace Go.Proofs.YtdmdhjmcoijpaaaGreatDoor
variable {rs:List Nat} {i:Nat} {oi:Oper}
theorem gE:(∀(α:Type) (xs:List α) (i:Nat) (h:i<xs.toArray.size),xs.toArray[i]=xs[i]'(by simpa using h))/\(∀(α:Type) (a:α) (s:List α) (h:0<(a::s).length),(a::s)[0]=a)/\(∀(α:Type) (a:α) (s:List α) (i:Nat) (h:i+1<(a::s).length),(a::s)[i+1]=s[i]'(by simpa using h)):=⟨fun _ _ _ _=>rfl,fun _ _ _ _=>rfl,fun _ _ _ _ _=>rfl⟩
theorem aP:(∀(a:Act) (k:Nat) (v:Value),a.put k v= {a with tmps:=a.tmps.setIfInBounds k v})/\(∀(α:Type) (xs:List α) (i:Nat) (a:α),xs.toArray.setIfInBounds i a=(xs.set i a).toArray)/\(∀(α:Type) (x a:α) (s:List α),(x::s).set 0 a=a::s)/\(∀(α:Type) (x a:α) (s:List α) (i:Nat),(x::s).set (i+1) a=x::s.set i a):=⟨fun _ _ _=>rfl,fun _ _ _ _=>aE,fun _ _ _ _=>rfl,fun _ _ _ _ _=>rfl⟩
section
variable {P : Program} {ops : Array Oper} {Q : Exit -> Act -> World -> Prop} {md : Region.Mode} {S : World -> Prop} {n : Nat} {l : Array Bool} {a : Act} {w : World}
theorem ed (i:Nat) (v:Value) (h:∀u,S u ->(execOp a.eval oi).run P u=.ok (.value v) u) (k:wpAnyH P md ops Q S n (l.setIfInBounds i true) (a.put oi.dst v) w)
  (e:ops[i]? =some oi:=by rfl) (s:Region.noSelect ops=true:=by kernel_rfl) (f:Region.free md ops l i=true:=by kernel_rfl) (r:(Region.ready md ops l).contains i=true:=by kernel_rfl)
  (b:∀c a w,Q (.panic c) (a.put oi.dst v) w ->Q (.panic c) a w:=by first |exact fun _ _ _ h=>h |exact fun _ _ _ h=>by cases h.1) (g:Region.wanted oi (yielded ops a.tmps)=true:=by rfl) (d:S w:=by assumption):wpAnyH P md ops Q S (n+1) l a w:=
 fE e s f r b (Or.inl ⟨g,h⟩) d k
theorem ar (i:Nat) (v:Value) (k:wpAnyH P md ops Q S n (l.setIfInBounds i true) (a.put oi.dst v) w)
  (g:ops[i]? =some oi:=by rfl) (h:∀u,S u ->(execOp a.eval oi).run P u=.ok (.value v) u:=by intro q O;(try simp only[gE]);(first |obtain⟨s,b,o,p⟩:=O |obtain⟨s,b,o⟩:=O |obtain⟨s,b⟩:=O |skip);go_simp) (j:Region.noSelect ops=true:=by kernel_rfl) (f:Region.free md ops l i=true:=by kernel_rfl) (r:(Region.ready md ops l).contains i=true:=by kernel_rfl)
  (d:∀c a w,Q (.panic c) (a.put oi.dst v) w ->Q (.panic c) a w:=by first |exact fun _ _ _ h=>h |exact fun _ _ _ h=>by cases h.1) (m:Region.wanted oi (yielded ops a.tmps)=true:=by rfl) (e:S w:=by assumption):wpAnyH P md ops Q S (n+1) l a w:=
 fE g j f r d (Or.inl ⟨m,h⟩) e k
theorem cA {o:Oper} (h:∀K:Act ->World ->Prop,Shut (∀a w,S w ->(S w ->wpAnyH P md ops Q S n (l.setIfInBounds i true) a w) ->K a w) ->if Region.wanted o (yielded ops a.tmps)=true then Oper.wp P o a w K Q else K (a.put o.dst undef) w) (s:AllReadyH P md ops Q S n l a w rs) (b:ops[i]? =some o:=by rfl):AllReadyH P md ops Q S n l a w (i::rs):=AllReadyH.cons b h s
theorem nA:AllReadyH P md ops Q S n l a w []:=aF
theorem aG (rs:List Nat) (h:AllReadyH P md ops Q S n l a w rs) (r:Region.ready md ops l=rs:=by kernel_rfl) (e:rs≠[]:=by simp):wpAnyH P md ops Q S (n+1) l a w:=wpAnyH_ready r e h
end
open Go.RowKit
variable {a:Option Addr} {w w':World}
theorem hid {p:Prop} (h:p):Hid p:=h
def aJ (w:World) (a:Option Addr) (l:List Int):Prop:=∀k (h:k<l.length),∃g o,a=some ⟨g,o,none⟩/\g<w.heap.size/\w.cell? ⟨g,o+k,none⟩=some (.int .i64 l[k])
theorem aJ.aa {l:List Int} (h:aJ w a l) (c:ef w w'):aJ w' a l:=fun k f=>by
 obtain⟨g,o,d,b,e⟩:=h k f;exact⟨g,o,d,aU b c.size,(c.cell (p:=⟨g,_,none⟩) b).trans e⟩
theorem amE {B:Nat} {a b:World} (h:Below B a b) (k:Nat):Below B a (b.drewN k):=⟨h.os,h.tape,h.output,h.size,h.block⟩
def wP (k:Int) (l:List Int):Bool:=l.any (·==k)
def Gh (x:Int):Bool:=decide (1<=x/\x<=4)
def vH (l:List Int):Bool:=decide (1<=l.length/\l.length<=8)&&l.all Gh
theorem amT {l:List Int} {p:Int ->Bool} (h:i<l.length) (e:p l[i]=false):l.all p=false:=by
 rw[I5];exact⟨l[i],bF h,by rw[e];decide⟩
theorem amS {l:List Int} {p:Int ->Bool} (h:i<l.length) (h0:(l.take i).all p=true) (e:p l[i]=true):(l.take (i+1)).all p=true:=by
 rw[iF h,List.all_append,h0];simp[e]
def oU (l:List Int) (n:Int) (i:Nat):Bool:=decide (0<=l.getD i 0/\l.getD i 0<n/\(0< i ->l.getD (i - 1) 0<l.getD i 0))
def fT (l:List Int) (n:Int):Bool:=(List.range l.length).all (oU l n)
theorem YE {l:List Int} {n:Int} (h:i<l.length) (e:oU l n i=false):fT l n=false:=by
 rw[fT,I5];exact⟨i,cI.2 h,by rw[e];decide⟩
theorem YB {l:List Int} {n:Int} (h0:(List.range i).all (oU l n)=true) (e:oU l n i=true):(List.range (i+1)).all (oU l n)=true:=by
 rw[qC,List.all_append,h0];simp[e]
theorem getD_eq {l:List Int} (h:i<l.length):l.getD i 0=l[i]:=by simp[List.getD,h]
variable {S vs:List Nat}
def sz (S:List Nat) (v:Nat):Nat:=S[v]?.getD 1
def cnt (S:List Nat):List Nat ->Nat
 |[]=>1
 |v::vs=>sz S v*cnt S vs
theorem al1 (S a b:List Nat):cnt S (a++b)=cnt S a*cnt S b:=by
 induction a with
 |nil=>simp[cnt]
 |cons v a ih=>simp only[fG,cnt,ih,iP]
theorem alY (S a:List Nat) (v:Nat):cnt S (a++[v])=cnt S a*sz S v:=by rw[al1];simp[cnt]
def Pos (S:List Nat):Prop:=∀x∈S,1<=x
theorem nT (h:Pos S) (v:Nat):1<=sz S v:=by
 rw[sz];cases e:S[v]? with
 |none=>simp
 |some x=>exact h x (List.mem_of_getElem? e)
theorem K4 (h:Pos S) (vs:List Nat):1<=cnt S vs:=by
 induction vs with
 |nil=>exact aq _
 |cons v vs ih=>exact iO (nT h v) ih
def mn (S:List Nat):List Nat ->Nat ->List Nat
 |[],_=>[]
 |_::vs,k=>(k/cnt S vs)::mn S vs (k % cnt S vs)
theorem acw (S vs:List Nat):∀k,(mn S vs k).length=vs.length:=by
 induction vs with
 |nil=>intro _;rfl
 |cons v vs ih=>intro k;simp[mn,ih]
theorem ZX (k c s:Nat):k % (s*c)/c=k/c % s:=by
 rw[dK s c,Nat.mod_mul_right_div_self]
theorem ZW (k c s:Nat):k % (s*c) % c=k % c:=by
 rw[dK s c,Nat.mod_mul_right_mod]
def aY (S:List Nat):List Nat ->Nat ->Nat ->Nat
 |[],_,_=>0
 |u::vs,k,v=>if v=u then k/cnt S vs else aY S vs (k % cnt S vs) v
theorem EO:∀ {vs:List Nat} {k v:Nat},¬v∈vs ->aY S vs k v=0
 |[],_,_,_=>rfl
 |u::vs,k,v,h=>by
  rw[aY,aD (fun e=>h (by rw[e];exact dp))];exact EO fun e=>h (dF _ e)
def cE (S:List Nat):List Nat ->Nat ->Nat
 |[],_=>0
 |u::vs,v=>if v=u then cnt S vs else cE S vs v
theorem Ri:∀ {vs:List Nat} {v:Nat},¬v∈vs ->cE S vs v=0
 |[],_,_=>rfl
 |u::vs,v,h=>by
  rw[cE,aD (fun e=>h (by rw[e];exact dp))];exact Ri fun e=>h (dF _ e)
def pos (S:List Nat) (f:Nat ->Nat) (vs:List Nat):Nat:=vs.foldl (fun k v=>k*sz S v+f v) 0
theorem agA (S:List Nat) (f:Nat ->Nat) (vs:List Nat) (v:Nat):pos S f (vs++[v])=pos S f vs*sz S v+f v:=by simp[pos]
def fH (g:Nat ->Nat):List Nat ->Nat
 |[]=>0
 |v::vs=>g v+fH g vs
theorem XW (g:Nat ->Nat) (a b:List Nat):fH g (a++b)=fH g a+fH g b:=by
 induction a with
 |nil=>simp[fH]
 |cons v a ih=>simp only[fG,fH,ih];omega
theorem F2 {g h:Nat ->Nat}:∀ {l:List Nat},(∀v∈l,g v=h v) ->fH g l=fH h l
 |[],_=>rfl
 |v::l,e=>by rw[fH,fH,e v dp,F2 fun u a=>e u (dF _ a)]
theorem O0 (S:List Nat) (f:Nat ->Nat):∀(vs:List Nat) (k:Nat),vs.foldl (fun k v=>k*sz S v+f v) k=k*cnt S vs+pos S f vs
 |[],k=>by simp[pos,cnt]
 |v::vs,k=>by
  have e:pos S f (v::vs)=f v*cnt S vs+pos S f vs:=by
   show vs.foldl (fun k v=>k*sz S v+f v) (0*sz S v+f v)=_;rw[O0 S f vs,jO,bB]
  rw[BH,O0 S f vs,e,cnt,fF,iP];omega
theorem Nn (S:List Nat) (f:Nat ->Nat):∀ {vs:List Nat},vs.Nodup ->pos S f vs=fH (fun v=>f v*cE S vs v) vs
 |[],_=>rfl
 |u::vs,h=>by
  rw[pG] at h;rw[pos,BH,O0,fH,Nn S f h.2,jO,bB];congr 1
  ·rw[cE,aA rfl]
  ·exact F2 fun v a=>by rw[cE,aD (fun e=>h.1 (by rw[<- e];exact a))]
theorem XX (g:Nat ->Nat) (n:Nat):∀ {vs:List Nat},vs.Nodup ->(∀v∈vs,v<n) ->(∀v,¬v∈vs ->g v=0) ->fH g vs=fH g (List.range n):=by
 intro vs a t c
 have k:∀ {vs:List Nat},vs.Nodup ->(∀v∈vs,v<n) ->fH g vs=fH (fun v=>if v∈vs then g v else 0) (List.range n):=by
  intro vs;induction vs with
  |nil=>
   intro _ _
   have:∀l:List Nat,fH (fun v=>if v∈([]:List Nat) then g v else 0) l=0:=by
    intro l;induction l with
    |nil=>rfl
    |cons x l ih=>rw[fH,ih];simp
   rw[this];rfl
  |cons u vs ih=>
   intro a t;rw[pG] at a;rw[fH,ih a.2 fun v b=>t v (dF _ b)];have d:=t u dp
   have o:∀m,u< m ->fH (fun v=>if v∈u::vs then g v else 0) (List.range m)=g u+fH (fun v=>if v∈vs then g v else 0) (List.range m):=by
    intro m;induction m with
    |zero=>intro h;omega
    |succ m ihm=>
     intro h;rw[qC,XW,XW];by_cases e:u=m
     ·subst e
      have:fH (fun v=>if v∈u::vs then g v else 0) (List.range u)=fH (fun v=>if v∈vs then g v else 0) (List.range u):=F2 fun v b=>by
       (have:¬v=u:=by have:=cI.1 b;omega);simp[this]
      rw[this];simp[fH,a.1];omega
     ·rw[ihm al];have:¬m=u:=fun h=>e h.symm;simp[fH,this];omega
   rw[o n d]
 rw[k a t]
 exact F2 fun v _=>by
  by_cases h:v∈vs
  ·rw[aA h]
  ·rw[aD h,c v h]
theorem stand {e:List Nat} (n k:Nat) (a:vs.Nodup) (o:e.Nodup) (Y:∀v∈vs,v<n) (p:∀v∈e,v<n):fH (fun v=>aY S vs k v*cE S e v) vs=pos S (aY S vs k) e:=by
 rw[Nn S _ o,XX _ n a Y,XX _ n o p]
 ·intro v h;rw[Ri h,ll]
 ·intro v h;rw[EO h,jO]
theorem amK (u:Nat) (r:List Nat) (k v:Nat):aY S (u::r) (k % cnt S (u::r)) v=if v=u then k/cnt S r % sz S u else aY S r (k % cnt S r) v:=by
 rw[aY,cnt,ZX k _ _,ZW]
variable {n v:Nat}
def ag (l:List Int):List Nat:=l.map Int.toNat
theorem gM (l:List Int):(ag l).length=l.length:=by simp[ag]
theorem uY {l:List Int} (h:i<l.length):(ag l)[i]'(by rw[gM];exact h)=l[i].toNat:=by simp[ag]
structure fX (l:List Int):Prop where
 one:1<=l.length
 eight:l.length<=8
 each:∀i (h:i<l.length),1<=l[i]/\l[i]<=4
theorem ab3 {l:List Int} (h:vH l=true):fX l:=by
 rw[vH,kj,gY] at h
 exact⟨h.1.1,h.1.2,fun i a=>by
  have:=iQ.1 h.2 l[i] (bF a);simpa [Gh] using this⟩
theorem fX.pos {l:List Int} (h:fX l):Pos (ag l):=by
 intro x b;obtain⟨i,a,rfl⟩:=List.mem_iff_getElem.1 b;rw[gM] at a;rw[uY a];have:=h.each i a;omega
theorem fX.sz_le {l:List Int} (h:fX l) (v:Nat):sz (ag l) v<=4:=by
 rw[sz];by_cases a:v<l.length
 ·rw[bj (by rw[gM];exact a),mE,uY a];have:=h.each v a;omega
 ·rw[jA (by rw[gM];omega)];simp
theorem fX.sz_eq {l:List Int} (h:fX l) (a:v<l.length):(sz (ag l) v:Int)=l[v]:=by
 rw[sz,bj (by rw[gM];exact a),mE,uY a];have:=h.each v a;omega
structure Up (l:List Int) (n:Nat):Prop where
 each:∀i (h:i<l.length),0<=l[i]/\l[i]<n
 lt:∀i j (hj:j<l.length) (hi:i<j),l[i]<l[j]
theorem DU {l:List Int} (h:fT l n=true):Up l n:=by
 have T:∀i (a:i<l.length),0<=l[i]/\l[i]<(n:Int)/\(0< i ->l.getD (i - 1) 0<l[i]):=fun i a=>by
  have:=iQ.1 h i (cI.2 a);rw[oU,gY,getD_eq a] at this;exact this
 refine⟨fun i a=>⟨(T i a).1,(T i a).2.1⟩,?_⟩;intro i j;induction j with
 |zero=>intro _ h;omega
 |succ j ih=>
  intro d a;have b:=(T (j+1) d).2.2 al;rw[IV,getD_eq al] at b;rcases cT i j with c |c
  ·have:=ih al c;omega
  ·obtain rfl:i=j:=al
   exact b
theorem Up.nat {l:List Int} (h:Up l n) (a:i<l.length):((l[i].toNat:Nat):Int)=l[i]/\l[i].toNat<n:=by
 have:=h.each i a;constructor<;>omega
theorem Up.aa {l:List Int} (h:Up l n):∀v∈ag l,v<n:=by
 intro v b;obtain⟨i,a,rfl⟩:=List.mem_iff_getElem.1 b;rw[gM] at a;rw[uY a];exact(h.nat a).2
theorem Up.nodup {l:List Int} (h:Up l n):(ag l).Nodup:=by
 rw[List.Nodup,zU];intro i j a b c;rw[gM] at a b;rw[uY a,uY b];have d:=h.lt i j b c;have e:=h.each i a;omega
theorem Up.ge {l:List Int} (h:Up l n):∀i (a:i<l.length),(i:Int)<=l[i]:=by
 intro i;induction i with
 |zero=>intro a;exact(h.each 0 a).1
 |succ i ih=>
  intro a;have:=ih al;have:=h.lt i (i+1) a al;omega
theorem Up.length {l:List Int} (h:Up l n):l.length<=n:=by
 rcases yq l.length with a |a
 ·omega
 ·have b:=h.ge (l.length - 1) al;have c:=(h.each (l.length - 1) al).2;omega
theorem acC (h:∀v,sz S v<=4):∀vs:List Nat,cnt S vs<=4^vs.length
 |[]=>aq _
 |v::vs=>by
  rw[cnt,ew,gJ,dK (4^_)];exact iO (h v) (acC h vs)
theorem vJ (h:∀v,sz S v<=4) (a:vs.length<=8):cnt S vs<=65536:=by
 have b:=acC h vs;have c:4^vs.length<=4^8:=kE bd a;have d:(4:Nat)^8=65536:=bd
 omega
theorem alX (S vs:List Nat) (h:i<vs.length):cnt S (vs.take (i+1))=cnt S (vs.take i)*sz S vs[i]:=by
 rw[iF h,alY]
def countB (sizes vars:List Int):Bool:=vH sizes&&fT vars sizes.length
def lG (sizes vars:List Int):Int×Int:=if countB sizes vars=true then(((cnt (ag sizes) (ag vars):Nat):Int),0) else(0,11)
theorem Pb {sizes vars:List Int} (h:countB sizes vars=true):lG sizes vars=(((cnt (ag sizes) (ag vars):Nat):Int),0):=aA h
theorem Pc {sizes vars:List Int} (h:countB sizes vars=false):lG sizes vars=(0,11):=aD (by rw[h];decide)
theorem CQ {l:List Nat} (h:i<l.length):l.getD i 0=l[i]:=by simp[List.getD,h]
theorem UG {sizes vars:List Int} (h:countB sizes vars=true):fX sizes/\Up vars sizes.length:=by
 rw[countB,kj] at h;exact⟨ab3 h.1,DU h.2⟩
theorem aiG (a:Option Addr) (cap:Nat) (l:List Int) (w:World) (h:aJ w a l) (s:l.length<=140737488355328):
  du 59 #[.slice a l.length cap] w (eS w (.bool (vH l))):=by
 have F:=hid h;clear h;by_cases d:1<=l.length/\l.length<=8
 ·have H:Hid (vH l=l.all Gh):=by show _=_;rw[vH,eD d];rfl
  obtain⟨u,v⟩:=d;generalize vH l=f at *;go_enter Tryz.func59,Tryz.ntmps59;go_wp2_with fail
  go_loopw [15] (fun iv wr=>∃i:Nat,i<=l.length/\iv=.int .i64 i/\Hid ((l.take i).all Gh=true)/\ef w wr) (fun iv _=>l.length - (intOf iv).toNat)
  case atStart=>exact⟨0,aV _,rfl,rfl,au _ _⟩
  case round=>
   obtain⟨i,r,rfl,I,b⟩:=hrel;by_cases t:i<l.length
   ·obtain⟨g,o,rfl,q,k⟩:=(F.o.aa b) i t;by_cases e:1<=l[i]/\l[i]<=4
    ·have S:=hid (amS t I.o (p:=Gh) (eD e));obtain⟨m,n⟩:=e;generalize l[i]=x at *;go_wp2;go_roundw
     case rel=>exact⟨i+1,al,b5,S.o,b⟩
     case measure=>simp[intOf];omega
    ·have E:Hid (f=false):=by show _=_;rw[H.o];exact amT t (eK e)
     rcases (show l[i]<1∨(1<=l[i]/\4<l[i]) by omega) with c |⟨c,j⟩
     all_goals
      clear e;generalize l[i]=x at *;go_wp2;go_ret;exact⟨by rw[E.o];rfl,b⟩
   ·have E:Hid (f=true):=by
     show _=_;rw[H.o];have:=I.o;rwa [lT al] at this
    go_wp2;go_ret;exact⟨by rw[E.o];rfl,b⟩
 ·have E:Hid (vH l=false):=by show _=_;rw[vH,eK d];rfl
  generalize vH l=f at *;go_enter Tryz.func59,Tryz.ntmps59;rcases (show l.length<1∨(1<=l.length/\8<l.length) by omega) with c |⟨c,j⟩
  all_goals
   go_wp2;go_ret;exact⟨by rw[E.o];rfl,au _ _⟩
def least (l:List Int) (i:Nat):Int:=if i=0 then 0 else l.getD (i - 1) 0+1
theorem aaj {l:List Int} (h:i<l.length):least l (i+1)=l[i]+1:=by
 rw[least,aD al,IV,getD_eq h]
theorem Zv {l:List Int} {n:Int} (d:i<l.length) (h:(List.range i).all (oU l n)=true):oU l n i=decide (least l i<=l[i]/\l[i]<n)/\0<=least l i:=by
 rw[oU,getD_eq d,least];by_cases b:i=0
 ·subst b;refine⟨?_,aE⟩;simp
 ·have p:=iQ.1 h (i - 1) (cI.2 al);rw[oU,gY,getD_eq al] at p;rw[aD b,getD_eq al];refine⟨?_,al⟩;rw[zO];constructor
  ·intro ⟨_,a,c⟩;have:=c al;exact⟨al,a⟩
  ·intro ⟨e,a⟩;exact⟨al,a,fun _=>al⟩
theorem afZ (a:Option Addr) (cap:Nat) (l:List Int) (n:Int) (w:World) (h:aJ w a l) (u:l.length<=140737488355328) (Z:n<=140737488355328):
  du 60 #[.slice a l.length cap,.int .i64 n] w (eS w (.bool (fT l n))):=by
 have F:=hid h;clear h;have c:=hid (fun i h e=>YE (l:=l) (n:=n) (i:=i) h e);have d:Hid ((List.range l.length).all (oU l n)=true ->fT l n=true):=id;generalize fT l n=rb at *;go_enter Tryz.func60,Tryz.ntmps60;go_wp2_with fail
 go_loopw [5,10] (fun lv iv wr=>∃i:Nat,i<=l.length/\iv=.int .i64 i/\lv=.int .i64 (least l i)/\Hid ((List.range i).all (oU l n)=true)/\ef w wr) (fun _ iv _=>l.length - (intOf iv).toNat)
 case atStart=>exact⟨0,aV _,rfl,rfl,rfl,au _ _⟩
 case round=>
  obtain⟨i,s,rfl,rfl,H,b⟩:=hrel;by_cases t:i<l.length
  ·obtain⟨g,o,rfl,r,j⟩:=(F.o.aa b) i t;obtain⟨T,v⟩:=Zv t H.o;have K:=hid (aaj t);have M:=hid T;clear T;generalize least l i=m at *;generalize l[i]=x at *;by_cases e:m<=x/\x<n
   ·have S:=hid (YB H.o (by rw[M.o];exact eD e));obtain⟨k,p⟩:=e;go_wp2;go_roundw
    case rel=>exact⟨i+1,al,b5,by rw[K.o],S.o,b⟩
    case measure=>simp[intOf];omega
   ·have E:=hid (c.o i t (by rw[M.o];exact eK e));rcases (show x<m∨(m<=x/\n<=x) by omega) with f |⟨f,q⟩
    all_goals
     clear e;go_wp2;go_ret;exact⟨by rw[E.o];rfl,b⟩
  ·obtain rfl:i=l.length:=al
   have E:=hid (d.o H.o);go_wp2;go_ret;exact⟨by rw[E.o];rfl,b⟩
theorem acy (a b:Option Addr) (ca cb:Nat) (sizes vars:List Int) (w:World) (d:aJ w a sizes) (e:aJ w b vars) (S:fX sizes) (J:Up vars sizes.length):
  du 61 #[.slice a sizes.length ca,.slice b vars.length cb] w (eS w (.int .i64 (cnt (ag sizes) (ag vars):Nat))):=by
 have H:=hid d;have V:=hid e;have R:=S.eight;have x:=J.length;have c:=hid S;have Q:=hid J;clear d e S J;have I:Hid (cnt (ag sizes) ((ag vars).take vars.length)=cnt (ag sizes) (ag vars)):=by show _=_;rw[lT (by rw[gM];exact aq _)]
 go_enter Tryz.func61,Tryz.ntmps61;go_wp2_with fail
 go_loopw [5,10] (fun nv iv wr=>∃i:Nat,i<=vars.length/\iv=.int .i64 i/\nv=.int .i64 (cnt (ag sizes) ((ag vars).take i):Nat)/\ef w wr) (fun _ iv _=>vars.length - (intOf iv).toNat)
 case atStart=>exact⟨0,aV _,rfl,rfl,au _ _⟩
 case round=>
  obtain⟨i,r,rfl,rfl,h⟩:=hrel;by_cases l:i<vars.length
  ·obtain⟨g,o,rfl,q,j⟩:=(V.o.aa h) i l;obtain⟨f,m⟩:=Q.o.nat l
   have s:cnt (ag sizes) ((ag vars).take (i+1))=cnt (ag sizes) ((ag vars).take i)*sz (ag sizes) vars[i].toNat:=by
    rw[alX _ _ (by rw[gM];exact l),uY l]
   have p:cnt (ag sizes) ((ag vars).take (i+1))<=65536:=vJ c.o.sz_le (by rw[eE,gM];omega);generalize hV:vars[i].toNat=v at *;rw[<- f] at j;obtain⟨g',o',rfl,t,k⟩:=(H.o.aa h) v m;rw[<- c.o.sz_eq m] at k;rw[s] at p;have n:((cnt (ag sizes) ((ag vars).take i):Nat):Int)*((sz (ag sizes) v:Nat):Int)=((cnt (ag sizes) ((ag vars).take i)*sz (ag sizes) v:Nat):Int):=(lW _ _).symm;have T:=hid s;clear s f hV;generalize cnt (ag sizes) ((ag vars).take i)=X at *;generalize sz (ag sizes) v=Y at *;(have E:0<=(X:Int)*(Y:Int):=by rw[n];omega);(have u:(X:Int)*(Y:Int)<=65536:=by rw[n];omega);have D:=hid n;clear n;go_wp2;go_roundw
   case rel=>exact⟨i+1,al,b5,by rw[T.o, <- D.o],h⟩
   case measure=>simp[intOf];omega
  ·obtain rfl:i=vars.length:=al
   rw[I.o];go_wp2;go_ret;exact⟨rfl,h⟩
theorem MZ (a b:Option Addr) (ca cb:Nat) (sizes vars:List Int) (w:World) (s:aJ w a sizes) (v:aJ w b vars) (n:sizes.length<=140737488355328) (m:vars.length<=140737488355328):
  du 27 #[.slice a sizes.length ca,.slice b vars.length cb] w (eS w (.tuple #[.int .i64 (lG sizes vars).1,.int .i64 (lG sizes vars).2])):=by
 have H:=hid s;have f:=hid v;clear s v;have M:=hid (fun V h=>aiG a ca sizes V h n);have E:=hid (fun V h=>afZ b cb vars sizes.length V h m al);cases hf:vH sizes with
 |false=>
  have A:=hid (Pc (sizes:=sizes) (vars:=vars) (by rw[countB,hf];rfl));rw[hf] at M;generalize lG sizes vars=r at *;go_enter Tryz.func27,Tryz.ntmps27;go_wp2_with fail
  refine(M.o _ H.o).af ?_;rintro e i ⟨rfl,c⟩;go_wp2;go_ret2;exact⟨by rw[A.o];rfl,c⟩
 |true=>
  rw[hf] at M;cases hr:fT vars sizes.length with
  |false=>
   have A:=hid (Pc (sizes:=sizes) (vars:=vars) (by rw[countB,hr,Bool.and_false]));rw[hr] at E;generalize lG sizes vars=r at *;go_enter Tryz.func27,Tryz.ntmps27;go_wp2_with fail
   refine(M.o _ H.o).af ?_;rintro e i ⟨rfl,c⟩;go_wp2_with fail
   refine(E.o _ (f.o.aa c)).af ?_;rintro e l ⟨rfl,g⟩;have d:=c.trans (g.af c.size);go_wp2;go_ret2;exact⟨by rw[A.o];rfl,d⟩
  |true=>
   have A:=hid (Pb (sizes:=sizes) (vars:=vars) (by rw[countB,hf,hr];rfl));rw[hr] at E;have O:=hid (fun V j k=>acy a b ca cb sizes vars V j k (ab3 hf) (DU hr));generalize lG sizes vars=r at *;go_enter Tryz.func27,Tryz.ntmps27;go_wp2_with fail
   refine(M.o _ H.o).af ?_;rintro e i ⟨rfl,c⟩;go_wp2_with fail
   refine(E.o _ (f.o.aa c)).af ?_;rintro e l ⟨rfl,g⟩;have d:=c.trans (g.af c.size);go_wp2_with fail
   refine(O.o _ (H.o.aa d) (f.o.aa d)).af ?_;rintro e q ⟨rfl,p⟩;go_wp2;go_ret2;exact⟨by rw[A.o];rfl,d.trans (p.af d.size)⟩
theorem aiZ (a:Option Addr) (ca:Nat) (sizes:List Int) (v:Nat) (x:Int) (w:World) (s:aJ w a sizes) (S:fX sizes) (h:v<sizes.length):
  du 160 #[.slice a sizes.length ca,.int .i64 (v:Nat),.int .i64 x] w (eS w (.bool (decide (0<=x/\x<(sz (ag sizes) v:Int))))):=by
 obtain⟨g,o,rfl,k,c⟩:=s v h;rw[<- S.sz_eq h] at c;have r:=S.eight;generalize sz (ag sizes) v=Y at *;by_cases e:0<=x/\x<(Y:Int)
 ·rw[eD e];obtain⟨f,i⟩:=e;go_enter Tryz.func160,Tryz.ntmps160;go_wp2;go_ret;exact⟨rfl,au _ _⟩
 ·rw[eK e];rcases (show x<0∨(0<=x/\(Y:Int)<=x) by omega) with d |⟨d,j⟩
  all_goals
   clear e;go_enter Tryz.func160,Tryz.ntmps160;go_wp2;go_ret
   first
    |exact⟨rfl,au _ _⟩
    |exact⟨dh (fun b=>Ending.returned (Value.bool b)) (eK al),au _ _⟩
variable {s:Nat}
def aB:List Nat ->Nat
 |[]=>0
 |v::l=>aB l |||2^v
theorem rK (l:List Nat) (v:Nat):(aB l).testBit v=decide (v∈l):=by
 induction l with
 |nil=>simp[aB]
 |cons u l ih=>
  rw[aB,Nat.testBit_or,ih,Nat.testBit_two_pow];by_cases h:u=v
  ·subst h;simp
  ·have a:¬v=u:=fun e=>h e.symm;simp[h,a]
theorem Si {a b:List Nat} (h:∀x,x∈a↔x∈b):aB a=aB b:=by
 apply Mz;intro i;rw[rK,rK];exact zO.2 (h i)
theorem vn:∀ {l:List Nat},(∀v∈l,v<8) ->aB l<256
 |[],_=>bd
 |v::l,h=>by
  have a:=vn (l:=l) fun u c=>h u (dF _ c);have b:2^v<2^8:=QF bd (h v dp);exact Nat.or_lt_two_pow (n:=8) a b
theorem amB (s v:Nat):(s/2^v&&&1=1)↔s.testBit v=true:=by
 rw[Nat.testBit_eq_decide_div_mod_eq,gY,Nat.and_one_is_mod]
theorem ajy {p:Nat} (g:s<256) (f:p<256):(p&&&(4294967295 - s)=0)↔∀v,p.testBit v=true ->s.testBit v=true:=by
 have e:4294967295 - s=2^32 - (s+1):=al
 have d:s<2^32:=al
 rw[e];constructor
 ·intro h v b;have c:(p&&&(2^32 - (s+1))).testBit v=false:=by rw[h];simp
  rw[Nat.testBit_and,b,QD d,I7] at c
  have l:v<32:=by
   rcases cT v 32 with a |a
   ·exact a
   ·have:=Nat.testBit_lt_two_pow (x:=p) (i:=v) (aU (show p<2^32 by omega) (kE bd a));rw[this] at b;cases b
  simpa [l] using c
 ·intro h;apply Mz;intro i;rw[Nat.testBit_and,QD d,Nat.zero_testBit];cases hp':p.testBit i
  ·rfl
  ·rw[h i hp'];simp
theorem F5 (l:List Nat) (v:Nat) (w:World) (h:∀u∈l,u<8) (b:v<8):
  du 147 #[.int .u32 (aB l:Nat),.int .i64 (v:Nat)] w fun e w'=>e=.returned (.int .u32 (aB (v::l):Nat))/\w'=w:=by
 have d:=vn h;have c:2^v<256:=show 2^v<2^8 from QF bd b
 have E:Hid (bits BinOp.or IntKind.u32 (aB l:Nat) (2^v % 4294967296)=((aB (v::l):Nat):Int)):=by
  show _=_
  have e:((2:Int)^v % 4294967296)=((2^v:Nat):Int):=by
   (have a:((2:Int)^v)=((2^v:Nat):Int):=by rw[Int.natCast_pow];rfl);rw[a];generalize (2^v:Nat)=q at *;omega
  rw[e,u32_or_nat _ _ al al];rfl
 generalize aB (v::l)=r at *;generalize aB l=s at *;go_enter Tryz.func147,Tryz.ntmps147;go_wp2;go_ret;exact⟨by rw[E.o];rfl,rfl⟩
theorem Rq (l:List Nat) (v:Nat) (w:World) (h:∀u∈l,u<8) (b:v<8):
  du 197 #[.int .u32 (aB l:Nat),.int .i64 (v:Nat)] w fun e w'=>e=.returned (.bool (decide (v∈l)))/\w'=w:=by
 have a:=vn h
 have E:Hid ((bits BinOp.and IntKind.u32 ((aB l:Nat)/2^v) 1==1)=decide (v∈l)):=by
  show _=_;have e:(((aB l:Nat):Int)/2^v)=((aB l/2^v:Nat):Int):=by rw[yA,Int.natCast_pow];rfl
  have c:aB l/2^v<=aB l:=zS _ _;rw[e,show (1:Int)=((1:Nat):Int) from rfl,u32_and_nat _ _ al al, <- rK,wE, <- amB,uO];omega
 generalize decide (v∈l)=r at *;generalize aB l=s at *;go_enter Tryz.func197,Tryz.ntmps197;go_wp2;go_ret;exact⟨by rw[E.o];rfl,rfl⟩
theorem afN (l p:List Nat) (w:World) (a:∀u∈l,u<8) (b:∀u∈p,u<8):
  du 198 #[.int .u32 (aB l:Nat),.int .u32 (aB p:Nat)] w fun e w'=>e=.returned (.bool (decide (∀v∈p,v∈l)))/\w'=w:=by
 have c:=vn a;have q:=vn b
 have E:Hid ((bits BinOp.andNot IntKind.u32 (aB p:Nat) (aB l:Nat)==0)=decide (∀v∈p,v∈l)):=by
  show _=_;have h:=ajy c q;simp only[rK,IG] at h;rw[u32_andNot_nat _ _ al al,wE,uO,gY, <- h];omega
 generalize decide (∀v∈p,v∈l)=r at *;generalize aB l=s at *;generalize aB p=t at *;go_enter Tryz.func198,Tryz.ntmps198;go_wp2;go_ret;exact⟨by rw[E.o];rfl,rfl⟩
theorem YC {l:List Int} (f:n<=8) (h:(List.range i).all (oU l n)=true) (e:i<=l.length):∀u∈ag (l.take i),u<8:=by
 intro u c;obtain⟨x,d,rfl⟩:=ba.1 c;obtain⟨j,b,rfl⟩:=jz d;rw[eE] at b;have a:=iQ.1 h j (cI.2 al);rw[oU,gY,getD_eq al] at a;rw[zV];omega
def setA (l:List Int) (n:Nat):Nat:=if fT l n=true then aB (ag l) else 0
theorem Yq (a:Option Addr) (cap:Nat) (l:List Int) (n:Nat) (w:World) (h:aJ w a l) (O:l.length<=140737488355328) (Z:n<=8):
  du 96 #[.slice a l.length cap,.int .i64 (n:Nat)] w fun e w'=>e=.returned (.tuple #[.int .u32 (setA l n:Nat),.bool (fT l n)])/\w'=w:=by
 have F:=hid h;clear h;have b:=hid (fun i h e=>YE (l:=l) (n:=n) (i:=i) h e);have c:Hid ((List.range l.length).all (oU l n)=true ->fT l n=true):=id;have p:Hid (fT l n=true ->setA l n=aB (ag l)):=fun h=>aA h;have u:Hid (fT l n=false ->setA l n=0):=fun h=>aD (by rw[h];decide);generalize fT l n=rb at *;generalize setA l n=P at *;go_enter Tryz.func96,Tryz.ntmps96;go_wp2_with fail
 go_loopw [6,7,12] (fun sv lv iv wr=>∃i:Nat,i<=l.length/\iv=.int .i64 i/\lv=.int .i64 (least l i)/\sv=.int .u32 (aB (ag (l.take i)):Nat)/\Hid ((List.range i).all (oU l n)=true)/\wr=w) (fun _ _ iv _=>l.length - (intOf iv).toNat)
 case atStart=>exact⟨0,aV _,rfl,rfl,rfl,rfl,rfl⟩
 case round=>
  obtain⟨i,j,rfl,rfl,rfl,H,rfl⟩:=hrel;by_cases t:i<l.length
  ·obtain⟨g,o,rfl,L,y⟩:=F.o i t;obtain⟨T,U⟩:=Zv t H.o;have K:=hid (aaj t);have M:=hid T;have d:=hid (YC Z H.o j)
   have r:Hid (∀x:Nat,(x:Int)=l[i] ->aB (x::ag (l.take i))=aB (ag (l.take (i+1)))):=fun x k=>Si fun z=>by
    rw[iF t, <- k,ag,ag,eP];simp only[dU,ck,iy,nM,nL,tV,rD];exact or_comm
   clear T;generalize hs1:aB (ag (l.take (i+1)))=Q at *;have q:=hid hs1;clear hs1;generalize ag (l.take i)=v at *;generalize least l i=m at *;generalize l[i]=x at *;by_cases e:m<=x/\x<n
   ·have S:=hid (YB H.o (by rw[M.o];exact eD e));obtain⟨D,I⟩:=e;obtain⟨X,rfl⟩:∃X:Nat,x=X:=⟨x.toNat,al⟩;have s:=r.o X rfl;go_wp2_with fail
    refine(F5 v X _ d.o al).af ?_;rintro e R ⟨rfl,rfl⟩;rw[s];go_wp2;go_roundw
    case rel=>exact⟨i+1,al,b5,by rw[K.o],by rw[q.o],S.o,trivial⟩
    case measure=>simp[intOf];omega
   ·have E:=hid (b.o i t (by rw[M.o];exact eK e));rcases (show x<m∨(m<=x/\(n:Int)<=x) by omega) with f |⟨f,J⟩
    all_goals
     clear e;go_wp2;go_ret2;exact⟨by rw[u.o E.o,E.o];rfl,rfl⟩
  ·obtain rfl:i=l.length:=al
   have E:=hid (c.o H.o);have A:=hid (p.o E.o);rw[jR];go_wp2;go_ret2;exact⟨by rw[A.o,E.o];rfl,rfl⟩
theorem BV {α:Type} {P:List α ->Prop} (h0:P []) (h1:∀l a,P l ->P (l++[a])) (l:List α):P l:=by
 have h:∀m:List α,P m.reverse:=by
  intro m;induction m with
  |nil=>exact h0
  |cons a m ih=>rw[List.reverse_cons];exact h1 _ _ ih
 have:=h l.reverse;rwa [List.reverse_reverse] at this
def nb (l:List UInt8):Nat:=l.foldl (fun n c=>n*256+c.toNat) 0
theorem DZ:nb []=0:=rfl
theorem yQ (l:List UInt8) (c:UInt8):nb (l++[c])=nb l*256+c.toNat:=by simp[nb]
theorem B4 (a b:List UInt8):nb (a++b)=nb a*256^b.length+nb b:=by
 induction b using BV with
 |h0=>simp[DZ]
 |h1 l c ih=>
  rw[<- lV,yQ,ih,yQ,bK,IZ,gJ,fF,iP,zT]
theorem ahY (c:UInt8):nb [c]=c.toNat:=by simp[nb]
theorem D6 (c:UInt8) (l:List UInt8):nb (c::l)=c.toNat*256^l.length+nb l:=by
 have:=B4 [c] l;rwa [List.singleton_append,ahY] at this
theorem ug (l:List UInt8):nb l<256^l.length:=by
 induction l using BV with
 |h0=>simp[DZ]
 |h1 l c ih=>
  rw[yQ,bK,IZ,gJ];have:=c.toNat_lt;omega
def bn (n:Nat):List UInt8:=if _h:n=0 then[] else bn (n/256)++[UInt8.ofNat (n % 256)]
theorem qb:bn 0=[]:=by rw[bn];simp
theorem qd (n:Nat) (h:n≠0):bn n=bn (n/256)++[UInt8.ofNat (n % 256)]:=by rw[bn];simp[h]
theorem ofNat_toNat (n:Nat):(UInt8.ofNat (n % 256)).toNat=n % 256:=aE
theorem Sh (n:Nat):nb (bn n)=n:=by
 induction n using Nat.strongRecOn with
 |ind n ih=>
  by_cases h:n=0
  ·subst h;simp[qb,DZ]
  ·rw[qd n h,yQ,ih (n/256) al,ofNat_toNat];omega
theorem amz (n:Nat) (c:UInt8) (h:n≠0∨c.toNat≠0):bn (n*256+c.toNat)=bn n++[c]:=by
 have a:=c.toNat_lt;rw[qd _ al,show (n*256+c.toNat)/256=n by omega,show (n*256+c.toNat) % 256=c.toNat by omega];simp
theorem UQ (l:List UInt8):bn (nb l)=l.dropWhile (·==0):=by
 induction l using BV with
 |h0=>simp[DZ,qb]
 |h1 l c ih=>
  rw[yQ];by_cases h:nb l≠0∨c.toNat≠0
  ·rw[amz _ _ h,ih];by_cases a:l.dropWhile (·==0)=[]
   ·have z:nb l=0:=by rw[<- Sh (nb l),ih,a,DZ]
    (have b:c≠0:=by intro e;subst e;simp[z] at h);rw[a,List.dropWhile_append,a];simp[b]
   ·rw[List.dropWhile_append];simp[a]
  ·have h1:nb l=0:=al
   (have d:c.toNat=0:=al);(have b:c=0:=by simpa [<- Mu] using d);rw[h1,d];rw[h1,qb] at ih;rw[List.dropWhile_append, <- ih];simp[b,qb]
theorem UR {a b:Nat} (h:a<=b):(bn a).length<=(bn b).length:=by
 induction a using Nat.strongRecOn generalizing b with
 |ind a ih=>
  by_cases c:a=0
  ·subst c;simp[qb]
  ·rw[qd a c,qd b al];have:= @ih (a/256) al (b/256) al;simp;omega
def W:Nat:=4294967296
theorem ig:W=4294967296:=rfl
theorem lJ:0<W:=bd
def nw:List Nat ->Nat
 |[]=>0
 |x::r=>x+W*nw r
theorem mN:nw []=0:=rfl
theorem kL (x:Nat) (r:List Nat):nw (x::r)=x+W*nw r:=rfl
theorem Af (a b:List Nat):nw (a++b)=nw a+W^a.length*nw b:=by
 induction a with
 |nil=>simp[mN]
 |cons x a ih=>rw[fG,kL,kL,ih,ew,gJ,kH];rw[dK (W^a.length) W,iP];omega
theorem B0 (a:List Nat) (x:Nat):nw (a++[x])=nw a+W^a.length*x:=by rw[Af,kL,mN];simp
def Small (l:List Nat):Prop:=∀x∈l,x<W
theorem vh (l:List Nat) (h:Small l):nw l<W^l.length:=by
 induction l with
 |nil=>simp[mN]
 |cons x r ih=>
  have a:=ih (fun y b=>h y (dF _ b));have c:=h x (dp);rw[kL,ew,gJ];have:W*(nw r+1)<=W*W^r.length:=jg _ a;rw[dK (W^r.length) W];rw[kH] at this;omega
def words (n:Nat):List Nat:=if _h:n=0 then[] else(n % 4294967296)::words (n/4294967296)
theorem wG:words 0=[]:=by rw[words,dif_pos rfl]
theorem zX (n:Nat) (h:n≠0):words n=(n % W)::words (n/W):=by rw[words,dif_neg h,ig]
theorem O9 (h:n≠0):n/W<n:=Nat.div_lt_self (lR h) bd
theorem kK (n:Nat):nw (words n)=n:=by
 induction n using Nat.strongRecOn with
 |ind n ih=>
  by_cases h:n=0
  ·subst h;simp[wG,mN]
  ·rw[zX n h,kL,ih _ (O9 h)];exact Nat.mod_add_div n W
theorem mK (n:Nat):Small (words n):=by
 induction n using Nat.strongRecOn with
 |ind n ih=>
  by_cases h:n=0
  ·subst h;simp[wG,Small]
  ·rw[zX n h];intro x a;rcases dU.1 a with rfl |a
   ·exact jQ _ lJ
   ·exact ih _ (O9 h) x a
theorem MR (n:Nat):words n=[]↔n=0:=by
 constructor
 ·intro h;rw[<- kK n,h,mN]
 ·rintro rfl;exact wG
theorem Xa (n:Nat) (h:words n≠[]):(words n).getLast h≠0:=by
 induction n using Nat.strongRecOn with
 |ind n ih=>
  have b:n≠0:=fun e=>h ((MR n).2 e);by_cases a:words (n/W)=[]
  ·have z:=(MR _).1 a
   have:(words n).getLast h=n % W:=by
    have w:=zX n b;rw[a] at w;simp[w]
   rw[this];intro m;have:=Nat.mod_add_div n W;rw[m,z] at this;simp at this;exact b this.symm
  ·have:(words n).getLast h=(words (n/W)).getLast a:=by
    have w:=zX n b;simp only[w];rw[List.getLast_cons a]
   rw[this];exact ih _ (O9 b) a
theorem ad6 (l:List Nat) (s:Small l) (b:∀h:l≠[],l.getLast h≠0):words (nw l)=l:=by
 induction l with
 |nil=>simp[mN,wG]
 |cons x r ih=>
  have c:=s x (dp);have a:words (nw r)=r:=ih (fun y d=>s y (dF _ d)) (fun h=>by have:=b aE;rwa [List.getLast_cons h] at this)
  have e:nw (x::r)≠0:=by
   intro h;rw[kL] at h;(have f:x=0:=al)
   have E:nw r=0:=by
    (have:W*nw r=0:=al);rcases Nat.mul_eq_zero.1 this with h |h
    ·simp[W] at h
    ·exact h
   rw[E,wG] at a;subst a;exact b aE (by simpa using f)
  rw[zX _ e,kL,WL,kI c,Nat.add_mul_div_left _ _ lJ,yr c,bB,a]
theorem MS (n:Nat):(words n).length=((bn n).length+3)/4:=by
 induction n using Nat.strongRecOn with
 |ind n ih=>
  by_cases h:n=0
  ·subst h;simp[wG,qb]
  ·rw[zX n h,ew,ih _ (O9 h)];by_cases a:n/256=0
   ·rw[qd n h,a,qb,show n/W=0 by simp only[W];omega,qb];simp
   ·by_cases b:n/256/256=0
    ·rw[qd n h,qd _ a,b,qb,show n/W=0 by simp only[W];omega,qb];simp
    ·by_cases c:n/256/256/256=0
     ·rw[qd n h,qd _ a,qd _ b,c,qb,show n/W=0 by simp only[W];omega,qb];simp
     ·rw[qd n h,qd _ a,qd _ b,qd _ c,show n/256/256/256/256=n/W by simp only[W];omega];simp;omega
def part (n i:Nat):Nat:=n/W^i % W
theorem agX (n:Nat):part n 0=n % W:=by rw[part,Nat.pow_zero,DC]
theorem agY (n i:Nat):part n (Nat.succ i)=part (n/W) i:=by rw[part,part,Nat.succ_eq_add_one,gJ,dK,QG]
theorem ad8 (i:Nat):∀n,i<(words n).length ->(words n)[i]? =some (part n i):=by
 induction i with
 |zero=>
  intro n h;have a:n≠0:=by rintro rfl;rw[wG] at h;simp at h
  rw[zX n a,agX];rfl
 |succ i ih=>
  intro n h;have a:n≠0:=by rintro rfl;rw[wG] at h;simp at h
  rw[zX n a,ew] at h;rw[zX n a,List.getElem?_cons_succ,ih _ (Nat.lt_of_succ_lt_succ h), <- agY]
theorem ad9 (n:Nat):words n=(List.range (words n).length).map (part n):=by
 apply I3;intro i;rw[lU];by_cases h:i<(words n).length
 ·rw[ad8 i n h,List.getElem?_range h];rfl
 ·rw[jA al,jA (by simpa using h)];rfl
theorem am7 (i:Nat):W^i=256^(4*i):=by rw[Nat.pow_mul];rfl
theorem agZ (l:List UInt8) (i:Nat) (h:4*i<=l.length):nb ((l.take (l.length - 4*i)).drop (l.length - 4*i - 4))=part (nb l) i:=by
 have a:nb (l.take (l.length - 4*i))=nb l/W^i:=by
  have j:=BB (l.length - 4*i) l;have n:=B4 (l.take (l.length - 4*i)) (l.drop (l.length - 4*i));rw[j] at n;have e:(l.drop (l.length - 4*i)).length=4*i:=by simp;omega
  rw[e] at n;have t:=ug (l.drop (l.length - 4*i));rw[e] at t;have p:0<256^(4*i):=nI bd;rw[am7,n,yu,QI _ _ p,yr t,bB]
 rw[part, <- a];generalize hm:l.take (l.length - 4*i)=m;have s:m.length=l.length - 4*i:=by rw[<- hm];simp
 rw[<- s];have n:=B4 (m.take (m.length - 4)) (m.drop (m.length - 4));rw[BB] at n;by_cases b:4<=m.length
 ·have e:(m.drop (m.length - 4)).length=4:=by simp;omega
  have t:=ug (m.drop (m.length - 4));rw[e] at n t;rw[n,show (256:Nat)^4=W from rfl,yu,QH];exact(kI t).symm
 ·have z:m.length - 4=0:=al
  rw[z,BM];have t:=ug m;have:256^m.length<=256^4:=kE bd al;exact(kI (by show nb m<256^4;omega)).symm
theorem R3 (l:List Nat) (k:Nat) (h:k<l.length):nw (l.take (k+1))=nw (l.take k)+W^k*l[k]:=by
 rw[iF h,B0,eE,tX (yo h)]
theorem F3 {l:List Nat} (h:Small l) (k:Nat):Small (l.take k):=fun x a=>h x (QK a)
theorem QR (l:List Nat) (s:Small l) (k:Nat) (b:k<=l.length) (n:nw (l.take k)=nw l) (a:k=0∨l[k - 1]?.getD 0≠0):words (nw l)=l.take k:=by
 rw[<- n];refine ad6 _ (F3 s k) fun h=>?_;rcases a with rfl |a
 ·simp at h
 ·have c:k≠0:=by rintro rfl;simp at h
  rw[List.getLast_eq_getElem];simp only[eE,tX b,zV];rwa [bj al] at a
theorem MQ (l:List Nat) (s:Small l):∃k,k<=l.length/\words (nw l)=l.take k:=by
 induction l using BV with
 |h0=>exact⟨0,aq _,by rw[mN,wG];rfl⟩
 |h1 l a ih=>
  by_cases h:a=0
  ·subst h;obtain⟨k,b,e⟩:=ih (fun x c=>s x (List.mem_append_left _ c));refine⟨k,by simp;omega,?_⟩;rw[B0,ll,gK,e,WM b]
  ·refine⟨(l++[a]).length,aq _,?_⟩;exact QR _ s _ (aq _) (by rw[jR]) (Or.inr (by simpa using h))
theorem aeJ (l q:List Nat) (m y:Nat) (h:m<l.length):(l.take (m+1)++q).set m y=l.take m++y::q:=by
 rw[iF h,lV];have e:(l.take m).length=m:=by simp;omega
 rw[BC _ _ al,e,mF];rfl
section
open Go.Shelf
attribute [local go_sem] Oper.semAt_some
variable {Bn:Nat}
def N (s:ByteArray):Nat:=nb s.data.toList
def B (n:Nat):ByteArray:=⟨(bn n).toArray⟩
theorem dA (n:Nat):N (B n)=n:=Sh n
theorem lg (n:Nat):(B n).size=(bn n).length:=by simp[B,ByteArray.size]
theorem aex (s:ByteArray):(⟨(Lib.trimLeftB s.data.toList 0).toArray⟩:ByteArray)=B (N s):=by
 rw[B,N,UQ];rfl
theorem z8 {k:IntKind} {a b:Int} (h:a=b):Ending.returned (.int k a)=.returned (.int k b):=by rw[h]
theorem int_eq {k:IntKind} {a b:Int} (h:a=b):Value.int k a=.int k b:=by rw[h]
theorem CY (s:ByteArray) (w:World):
  du 122 #[.string s] w fun e w'=>e=.returned (.string (B (N s)))/\w'=w:=by
 rw[<- aex];go_enter Tryz.func122,Tryz.ntmps122;go_wp2_with (go_at_call 181;refine(Tryz.strings_TrimLeft_one _ 0 bd _).af ?_;rintro e w' ⟨rfl,rfl⟩)
 go_ret;exact⟨rfl,rfl⟩
theorem acx (s:ByteArray) (w:World) (h:s.size<=140737488355328):
  du 125 #[.string s] w fun e w'=>e=.returned (.int .i64 ((s.size+3)/4:Nat))/\w'=w:=by
 go_enter Tryz.func125,Tryz.ntmps125;go_wp2;go_ret;exact⟨z8 al,rfl⟩
theorem aht (p c:Nat) (a:p<16777216) (h:c<256):bits .or .u32 ((p:Int)*256) (c:Int)=((p*256+c:Nat):Int):=by
 have e:(p:Int)*256=((p*256:Nat):Int):=al
 rw[e,u32_or_nat _ _ al al,nat_join 8 _ _ al h]
theorem Jp (s:ByteArray) (k:Nat) (h:k<s.size):s.data.toList.take (k+1)=s.data.toList.take k++[s[k]]:=by
 rw[iF (by simpa using h)];rfl
theorem ahZ (l:List UInt8) (k:Nat) (h:l.length<=k):nb l<256^k:=
 aU (ug l) (kE bd h)
theorem af3 (s:ByteArray) (w:World) (d:s.size<=4):
  du 183 #[.string s] w fun e w'=>e=.returned (.int .u32 (N s))/\w'=w:=by
 go_enter Tryz.func183,Tryz.ntmps183;go_wp2;go_loop [3,7] (fun n i=>∃k:Nat,k<=s.size/\i=.int .i64 k/\n=.int .u32 (nb (s.data.toList.take k))) (fun _ i=>s.size - (intOf i).toNat)
 case atStart=>exact⟨0,aV _,rfl,rfl⟩
 case round=>
  obtain⟨k,a,rfl,rfl⟩:=hrel;by_cases h:k<s.size
  ·have b:nb (s.data.toList.take k)<16777216:=ahZ _ 3 (by simp;omega);have c:=s[k].toNat_lt;(have S:Hid (nb (s.data.toList.take (k+1))=nb (s.data.toList.take k)*256+s[k].toNat):=by rw[Jp s k h,yQ];rfl);have H:Hid (bits .or .u32 ((nb (s.data.toList.take k):Int)*256) (s[k].toNat:Int)=((nb (s.data.toList.take k)*256+s[k].toNat:Nat):Int)):=aht _ _ b c;generalize nb (s.data.toList.take k)=p at *;go_wp2;go_round
   case rel=>exact⟨k+1,al,b5,by rw[S.o];exact int_eq H.o⟩
   case measure=>simp[intOf];omega
  ·go_wp2;go_ret;exact⟨z8 (by rw[N,lT (by simp;omega)]),rfl⟩
def oF (Bn:Nat) (V V':World):Prop:=V'.cell? ⟨Bn,0,none⟩=V.cell? ⟨Bn,0,none⟩
theorem oF.t {A B C:World} (h:oF Bn A B) (k:oF Bn B C):oF Bn A C:=Eq.trans k h
theorem oF.b (n:Bn<w.heap.size) (V:World) (l:Nat) (o o':Obj) (h:w.heap.size<=l) (_:V.heap[l]? =some o) (_:o.isCells=false) (_:o.isWalk=false):oF Bn V (V.putObj l o'):=
 nH (yj (show Bn≠l by omega))
def upto (n k:Nat):List Nat:=(List.range k).map (part n)
theorem Xh (n k:Nat):upto n (k+1)=upto n k++[part n k]:=by simp[upto,qC]
theorem aes (n k:Nat):(upto n k).length=k:=by simp[upto]
theorem agW (s:ByteArray) (k:Nat) (h:4*k<=s.size):N (s.extract (s.size - 4*k - 4) (s.size - 4*k))=part (N s) k:=by
 rw[N,N, <- agZ _ _ (by simpa using h)];congr 1
 rw[ByteArray.data_extract];simp[List.drop_take]
theorem af2 (s:ByteArray) (k:Nat) (w:World) (h:4*k<=s.size):
  du 183 #[.string (s.extract (max 0 ((s.size:Int) - (k:Int)*4 - 4)).toNat (s.size - k*4))] w fun e w'=>e=.returned (.int .u32 (part (N s) k:Nat))/\w'=w:=by
 have a:(max 0 ((s.size:Int) - (k:Int)*4 - 4)).toNat=s.size - 4*k - 4:=al
 have b:s.size - k*4=s.size - 4*k:=al
 rw[a,b, <- agW s k h];exact af3 _ w (by rw[ByteArray.size_extract];omega)
theorem ak5 (n:Nat) (m:1<=n) (l Bn:Nat) (s:ByteArray) (c:s.size<=140737488355328) (J a:List Nat ->World ->Prop)
  (Y:∀p x V,J p V ->p.length<(s.size+3)/4 ->YieldAt Fence.wide (n - 1) Tryz.prog l #[.int .u32 (x:Nat)] V fun e V'=>
   (e=.returned (.bool true)/\J (p++[x]) V'/\oF Bn V V')∨(e=.returned (.bool false)/\a (p++[x]) V'))
  (V:World) (E:V.cell? ⟨Bn,0,none⟩=some (.string s)) (h0:J [] V):
  CallsIn Fence.wide n Tryz.prog 182 #[.func (.yield l) #[] #[],.pointer (some ⟨Bn,0,none⟩)] V fun e V'=>(∃v,e=.returned v)/\
   ((∃y,y=upto (N s) ((s.size+3)/4)/\J y V')∨(∃p,(∃k,k<=(s.size+3)/4/\p=upto (N s) k)/\a p V')):=by
 refine FO Tryz.func182 rfl trivial ?_ rfl;simp only[Tryz.ntmps182,nJ,ew,mG,Nat.reduceAdd,Nat.reduceSub,nR,nQ,nK,mI,jy,fG];gi_wp2_with (refine⟨trivial,?_⟩;gi_at_call 125;refine(ix.2 (acx _ _ c)).af ?_;rintro e w' ⟨rfl,rfl⟩)
 gi_loopw [7] (fun i wr=>∃k:Nat,k<=(s.size+3)/4/\i=.int .i64 k/\J (upto (N s) k) wr/\wr.cell? ⟨Bn,0,none⟩=some (.string s))
  (fun i _=>(s.size+3)/4 - (intOf i).toNat)
 case atStart=>exact⟨0,aV _,rfl,h0,E⟩
 case round=>
  obtain⟨k,j,rfl,h,L⟩:=hrel;by_cases t:k<(s.size+3)/4
  ·obtain⟨fn,r,u,q,o,R⟩:=Y _ (part (N s) k) wr h (by rw[aes];exact t);gi_wp2_with (refine⟨trivial,?_⟩;gi_at_call 183;refine(ix.2 (af2 s k _ al)).af ?_;rintro e w' ⟨rfl,rfl⟩)
   refine R.af ?_;rintro e b (⟨rfl,d,f⟩ |⟨rfl,g⟩)
   ·have z:b.cell? ⟨Bn,0,none⟩=some (.string s):=Eq.trans f L;gi_wp2
    go_roundw
    case rel=>exact⟨k+1,al,aE,by rw[Xh];exact d,z⟩
    case measure=>simp[intOf];omega
   ·gi_wp2
    refine cj (results_none rfl _ _ _) rfl ?_;exact⟨⟨_,rfl⟩,.inr ⟨_,⟨k+1,al,(Xh _ _).symm⟩,g⟩⟩
  ·obtain rfl:k=(s.size+3)/4:=al
   gi_wp2
   go_end0
   exact⟨⟨_,rfl⟩,.inl ⟨_,rfl,h⟩⟩
theorem ak4 (n:Nat) (s:ByteArray) (w:World):
  CallsIn Fence.wide n Tryz.prog 126 #[.string s] w fun e w'=>e=.returned (.func (.func 182) #[] #[.pointer (some ⟨w.heap.size,0,none⟩)])/\w'=w.alloc (.cells #[.string s] 40):=by
 refine FO Tryz.func126 rfl trivial ?_ rfl;simp only[Tryz.ntmps126,nJ,ew,mG,Nat.reduceAdd,Nat.reduceSub,nR,nQ,nK,mI,jy,fG];gi_wp2
 go_ret;exact⟨rfl,rfl⟩
theorem ak3 (n:Nat) (d:1<=n) (Bn:Nat) (s:ByteArray) (e:s.size<=140737488355328) (w:World) (E:Bn<w.heap.size) (c:w.cell? ⟨Bn,0,none⟩=some (.string s)):
  SeqStopsK Fence.wide n Tryz.prog 182 #[.pointer (some ⟨Bn,0,none⟩)] (fun x:Nat=> #[Value.int .u32 (x:Nat)]) (oF Bn) (fun y=>y=upto (N s) ((s.size+3)/4)) (fun r=>∃k,k<=(s.size+3)/4/\r=upto (N s) k) ((s.size+3)/4) w:=fun l J a V b _ _ Y h=>
 ak5 n d l Bn s e J a Y V ((b.cell (p:=⟨Bn,0,none⟩) E).trans c) h
theorem Tryz.infoU32:(Tryz.prog.info? 140).map (fun i=>(i.zero,i.size,i.bytes))=some (some (.int .u32 0),1,4):=ao
def u32 (x:Nat):Value:=.int .u32 (x:Nat)
theorem aer (n:Nat):upto n (((B n).size+3)/4)=words n:=by
 rw[lg, <- MS,upto, <- ad9]
end
section
open Go.Shelf
attribute [local go_sem] Oper.semAt_some
theorem ju (s:ByteArray):(B (N s)).size<=s.size:=by
 rw[lg,N,UQ];have:(s.data.toList.dropWhile (·==0)).length<=s.data.toList.length:=(List.dropWhile_sublist _).length_le;simpa using this
end
def lenOf:Value ->Nat |.slice _ n _=>n |_=>0
theorem M8 (b f cap:Nat) (l:List Nat) (w:World) (s:Small l) (m:l.length<=cap) (p:l.length<=140737488355328)
  (d:∀j,j<l.length ->w.cell? ⟨b,f+j,none⟩=some (.int .u32 (l[j]?.getD 0:Nat))):
  du 123 #[.slice (some ⟨b,f,none⟩) l.length cap] w fun e w'=>e=.returned (.slice (some ⟨b,f,none⟩) (words (nw l)).length cap)/\w'=w:=by
 go_enter Tryz.func123,Tryz.ntmps123;go_wp2;go_loop [0] (fun v=>∃k:Nat,k<=l.length/\v=.slice (some ⟨b,f,none⟩) k cap/\nw (l.take k)=nw l) (fun v=>lenOf v)
 case atStart=>exact⟨l.length,aq _,rfl,by rw[jR]⟩
 case round=>
  obtain⟨k,a,rfl,n⟩:=hrel;have H:Hid (nw (l.take k)=nw l):=n;clear n;by_cases c:k=0
  ·subst c;have e:=QR l s 0 (aV _) H.o (Or.inl rfl);(have E:Hid ((words (nw l)).length=0):=by rw[e];rfl);clear e;go_wp2;go_ret;exact⟨by rw[E.o];rfl,rfl⟩
  ·have i:=d (k - 1) al;by_cases h:l[k - 1]?.getD 0=0
   ·have g:Hid (nw (l.take (k - 1))=nw l):=by
     have e:=R3 l (k - 1) al;rw[show k - 1+1=k by omega,H.o] at e;rw[bj al] at h;simp only[mE] at h;rw[h,ll,gK] at e;exact e.symm
    rw[h] at i;go_wp2;go_round
    case rel=>exact⟨k - 1,al,rfl,g.o⟩
    case measure=>simp[lenOf];omega
   ·have e:=QR l s k a H.o (Or.inr h);(have E:Hid ((words (nw l)).length=k):=by rw[e,eE];exact tX a);clear e;go_wp2;go_ret;exact⟨by rw[E.o];rfl,rfl⟩
theorem afr (w:World):
  du 123 #[.slice none 0 0] w fun e w'=>e=.returned (.slice none 0 0)/\w'=w:=by
 go_enter Tryz.func123,Tryz.ntmps123;go_wp2;refine IB 1 ?_;rw[qA];go_wp2;go_ret;exact⟨rfl,rfl⟩
def bU (x k:Nat):Int:=((x/256^k % 256:Nat):Int)
theorem amy (x:Nat) (h:x<18446744073709551616):bU x 7=(x:Int)/72057594037927936/\bU x 6=(x:Int)/281474976710656 % 256/\bU x 5=(x:Int)/1099511627776 % 256/\bU x 4=(x:Int)/4294967296 % 256/\
  bU x 3=(x:Int)/16777216 % 256/\bU x 2=(x:Int)/65536 % 256/\bU x 1=(x:Int)/256 % 256/\bU x 0=(x:Int) % 256:=by
 unfold bU;simp only[Nat.reducePow];omega
theorem acM (x:Nat) (w:World) (i:x<18446744073709551616):
  du 121 #[.int .u64 (x:Nat)] w (eS w (.agg #[.int .u8 (bU x 7),.int .u8 (bU x 6),.int .u8 (bU x 5),.int .u8 (bU x 4),.int .u8 (bU x 3),.int .u8 (bU x 2),.int .u8 (bU x 1),.int .u8 (bU x 0)])):=by
 obtain⟨h,g,f,d,c,b,a,e⟩:=amy x i;rw[h,g,f,d,c,b,a,e];clear h g f d c b a e;go_enter Tryz.func121,Tryz.ntmps121;go_wp2;refine IB 9 ?_;rw[qA];go_wp2;rw[qA];go_wp2;rw[qA];go_wp2;rw[qA];go_wp2;rw[qA];go_wp2;rw[qA];go_wp2;rw[qA];go_wp2;rw[qA];go_wp2;rw[qA];go_wp2;refine cj (v:=.agg #[.int .u8 ((x:Int)/72057594037927936),.int .u8 ((x:Int)/281474976710656 % 256),.int .u8 ((x:Int)/1099511627776 % 256),.int .u8 ((x:Int)/4294967296 % 256),.int .u8 ((x:Int)/16777216 % 256),.int .u8 ((x:Int)/65536 % 256),.int .u8 ((x:Int)/256 % 256),.int .u8 ((x:Int) % 256)]) (by simp[results,Tryz.results121,go_sem]) rfl ⟨rfl,?_⟩;exact(((au _ _).alloc (aq _) _).alloc aE _)
theorem CW (x c:Nat):x/(c*256)*256+x/c % 256=x/c:=by rw[<- QG];exact Nat.div_add_mod' _ _
theorem alK (x:Nat) (h:x<18446744073709551616):0*256+x/72057594037927936 % 256=x/72057594037927936:=al
theorem acu (x:Nat):x/256*256+x/1 % 256=x:=al
theorem ah2 (x:Nat) (f:x<18446744073709551616):N (strOfNums [bU x 7,bU x 6,bU x 5,bU x 4,bU x 3,bU x 2,bU x 1,bU x 0])=x:=by
 have e:=CW x 281474976710656;have d:=CW x 1099511627776;have c:=CW x 4294967296;have b:=CW x 16777216;have a:=CW x 65536;have h:=CW x 256;simp only[Nat.reduceMul] at e d c b a h;simp only[N,IC,iy,nM,bU,rD,nb,BH,List.foldl_nil,UInt8.toNat_ofNat',Nat.reducePow,Nat.mod_mod];rw[alK x f,e,d,c,b,a,h,acu]
theorem aec (x:Nat) (t:TypeId) (w:World):∀i,i< 8 ->(w.alloc (.cells #[.int .u8 (bU x 7),.int .u8 (bU x 6),.int .u8 (bU x 5),.int .u8 (bU x 4),.int .u8 (bU x 3),.int .u8 (bU x 2),.int .u8 (bU x 1),.int .u8 (bU x 0)] t)).cell? ⟨w.heap.size,0+i,none⟩=
  some (.int .u8 (([bU x 7,bU x 6,bU x 5,bU x 4,bU x 3,bU x 2,bU x 1,bU x 0]:List Int).getD i 0)):=by
 intro i h;rcases (show i=0∨i=1∨i=2∨i=3∨i=4∨i=5∨i=6∨i=7 by omega) with rfl |rfl |rfl |rfl |rfl |rfl |rfl |rfl<;>simp
theorem Zw (x:Nat) (w:World) (h:x<18446744073709551616):
  du 83 #[.int .u64 (x:Nat)] w (eS w (.string (B x))):=by
 have A:=fun (a:World)=>ID (P:=Tryz.prog) (a.alloc (.cells #[.int .u8 (bU x 7),.int .u8 (bU x 6),.int .u8 (bU x 5),.int .u8 (bU x 4),.int .u8 (bU x 3),.int .u8 (bU x 2),.int .u8 (bU x 1),.int .u8 (bU x 0)] 167)) 157 5 Tryz.underlying157 Tryz.underlying5 a.heap.size 0 8 8 _ rfl (aec x _ a) 40 Tryz.underlying40;have H:Hid (N (strOfNums [bU x 7,bU x 6,bU x 5,bU x 4,bU x 3,bU x 2,bU x 1,bU x 0])=x):=ah2 x h;go_enter Tryz.func83,Tryz.ntmps83
 go_wp2_with (first
  |(go_at_call 121;refine(acM x _ h).af ?_;rintro e a ⟨rfl,b⟩)
  |(go_at_call 122;refine(CY _ _).af ?_;rintro e c ⟨rfl,rfl⟩;rw[H.o]))
 go_ret;exact⟨rfl,b.alloc b.size _⟩
variable {xs:List Value} {base g:Nat}
def tu (x:Nat):List Int:=[bU x 3,bU x 2,bU x 1,bU x 0]
def nW:List Nat ->List Int
 |[]=>[]
 |x::r=>nW r++tu x
theorem aiJ (a:List Nat) (y:Nat):nW (a++[y])=tu y++nW a:=by
 induction a with
 |nil=>simp[nW]
 |cons x a ih=>rw[fG,nW,ih,nW,lV]
theorem Sr (a:List Nat):(nW a).length=4*a.length:=by
 induction a with
 |nil=>rfl
 |cons x a ih=>rw[nW,bK,ih];simp[tu];omega
theorem alJ (x:Nat) (h:x<4294967296):0*256+x/16777216 % 256=x/16777216:=al
theorem ah3 (x:Nat) (b:x<W):nb ((tu x).map fun n=>UInt8.ofNat n.toNat)=x:=by
 rw[ig] at b;have c:=alJ x b;have a:=CW x 65536;have h:=CW x 256;simp only[Nat.reduceMul] at a h;simp only[tu,iy,nM,bU,rD,nb,BH,List.foldl_nil,UInt8.toNat_ofNat',Nat.reducePow,Nat.mod_mod];rw[c,a,h,acu]
theorem ang (l:List Nat) (h:Small l):N (strOfNums (nW l))=nw l:=by
 rw[N,IC];induction l with
 |nil=>rfl
 |cons x r ih=>
  rw[nW,eP,B4,ih (fun y a=>h y (dF _ a)),ah3 x (h x dp),kL,dM];show nw r*256^4+x=x+W*nw r;rw[dK,yu];rfl
def pP (l:List Nat) (k:Nat):List Int:=List.replicate (4*(l.length - k)) 0++nW (l.take k)
theorem ahm (l:List Nat):pP l 0=List.replicate (4*l.length) 0:=by simp[pP,nW]
theorem ahp (l:List Nat):pP l l.length=nW l:=by simp[pP]
theorem aho (l:List Nat) (k:Nat) (h:k<=l.length):(pP l k).length=4*l.length:=by
 rw[pP,bK,BF,Sr,eE,tX h];omega
theorem ahn (l:List Nat) (k:Nat) (h:k<l.length):splice (pP l k) (4*l.length - 4*k - 4) (tu (l[k]?.getD 0))=pP l (k+1):=by
 rw[bj h,mE];have e:4*(l.length - k)=(4*l.length - 4*k - 4)+4:=al
 have a:4*(l.length - (k+1))=4*l.length - 4*k - 4:=al
 rw[pP,pP,iF h,aiJ,e,a, <- List.replicate_append_replicate,splice];generalize 4*l.length - 4*k - 4=m;have d:(tu l[k]).length=4:=rfl;rw[d]
 have b:(List.replicate m (0:Int)++List.replicate 4 0++nW (l.take k)).take m=List.replicate m 0:=by
  rw[lV,WM aE];simp
 have c:(List.replicate m (0:Int)++List.replicate 4 0++nW (l.take k)).drop (m+4)=nW (l.take k):=by
  rw[List.drop_append_of_le_length aE];simp
 rw[b,c]
theorem Yb {α β:Type} (f:α ->β) (L:List α) (o:Nat) (c:List α):splice (L.map f) o (c.map f)=(splice L o c).map f:=by
 simp[splice,List.map_take,List.map_drop]
def u8 (x:Int):Value:=.int .u8 x
theorem Tryz.infoByte:(Tryz.prog.info? 5).map (fun i=>(i.zero,i.size,i.bytes))=some (some (.int .u8 0),1,1):=ao
theorem aea (l:List Nat) (s:Small l):(words (nw l)).length<=l.length/\∀j,j<(words (nw l)).length ->(words (nw l))[j]?.getD 0=l[j]?.getD 0:=by
 obtain⟨k,a,e⟩:=MQ l s;rw[e];refine⟨by simp;omega,fun j h=>?_⟩;rw[pI,aA (by simp at h;omega)]
theorem qg {t:TypeId} (h:w.ownsRow base t 1 (.slice (some ⟨g,0,none⟩) n n) n xs):w.heap[g]? =some (.cells xs.toArray t (0,0)):=by
 rcases h.2 with ⟨a,_⟩ |⟨g',p,c,a,_,b,j,_,s,m⟩
 ·cases a
 ·cases a;rw[b, <- m,lT (by simp;omega)]
theorem Z4 (n:Nat):(madeCells (Value.int .u8 0).cells (n*1)).toList=(List.replicate n (0:Int)).map u8:=by
 rw[show (Value.int .u8 0).cells= #[Value.int .u8 0] from rfl,FK,kF,MC];rfl
theorem amF (x:Nat) (t:TypeId) (w:World):∀j v,((tu x).map u8)[j]? =some v ->(w.alloc (.cells #[.int .u8 (bU x 7),.int .u8 (bU x 6),.int .u8 (bU x 5),.int .u8 (bU x 4),.int .u8 (bU x 3),.int .u8 (bU x 2),.int .u8 (bU x 1),.int .u8 (bU x 0)] t)).cell? ((⟨w.heap.size,4,none⟩:Addr).add j)=some v:=by
 intro j v a
 have b:j<4:=by
  rcases cT j 4 with h |h
  ·exact h
  ·rw[jA (by simpa [tu] using h)] at a;cases a
 have d:(⟨w.heap.size,4,none⟩:Addr).add j=⟨w.heap.size,4+j,none⟩:=by unfold Addr.add;split<;>simp_all
 rw[d];rcases (show j=0∨j=1∨j=2∨j=3 by omega) with rfl |rfl |rfl |rfl<;>simp[tu,u8] at a<;>subst a<;>simp
theorem Us (g cap:Nat) (l:List Nat) (w:World) (t:Small l) (od:l.length<=cap) (ak:l.length<=35184372088832) (hg:g<w.heap.size)
  (d:∀j,j<l.length ->w.cell? ⟨g,0+j,none⟩=some (.int .u32 (l[j]?.getD 0:Nat))):
  du 84 #[.slice (some ⟨g,0,none⟩) l.length cap] w (eS w (.string (B (nw l)))):=by
 obtain⟨i0,f,ad,ae,ah⟩:=dJ Tryz.infoByte;have V:=M8 g 0 cap l w t od al d;obtain⟨aj,D⟩:=aea l t;have A:=mK (nw l);have L:Hid (N (strOfNums (nW (words (nw l))))=nw l):=by show _=_;rw[ang _ A,kK]
 have y:∀j,j<(words (nw l)).length ->w.cell? ⟨g,j,none⟩=some (.int .u32 ((words (nw l))[j]?.getD 0:Nat)):=fun j hj=>by
  have:=d j al;rw[bB] at this;rw[this,D j hj]
 generalize words (nw l)=ws at *;have HC:Hid (∀j,j<ws.length ->w.cell? ⟨g,j,none⟩=some (.int .u32 (ws[j]?.getD 0:Nat))):=y;have S:Hid (du 123 #[.slice (some ⟨g,0,none⟩) l.length cap] w fun e w'=>e=.returned (.slice (some ⟨g,0,none⟩) ws.length cap)/\w'=w):=V;clear d D y V;go_enter Tryz.func84,Tryz.ntmps84
 go_wp2_with (first
  |(go_at_call 123;refine(S.o).af ?_;rintro e a ⟨rfl,q⟩;subst q)
  |(at_make;refine lj _ rfl _ _ 157 rfl a.heap.size 5 i0 (.int .u8 0) 1 Tryz.underlying157 f ad ae .i64 .i64 _ _ (4*ws.length) rfl rfl al al (by rw[ah];omega) (by unfold maxLen;omega) (aq _) ?_;intro u J K))
 have m:=qg J;rw[Z4, <- ahm] at m;have v:ef a u:=(au _ a).grown K (aq _) (fun k e=>by cases e);have I:Hid (u.heap[a.heap.size]? =some (.cells ((pP ws 0).map u8).toArray 5 (0,0))):=m;clear J K m S
 go_loopw [16] (fun i wr=>∃k:Nat,k<=ws.length/\i=.int .i64 k/\Hid (wr.heap[a.heap.size]? =some (.cells ((pP ws k).map u8).toArray 5 (0,0)))/\ef a wr)
  (fun i _=>ws.length - (intOf i).toNat)
 case atStart=>exact⟨0,aV _,rfl,I,v⟩
 case round=>
  obtain⟨k,hk,rfl,H,c⟩:=hrel;clear I v;by_cases h:k<ws.length
  ·have ab:wr.cell? ⟨g,k,none⟩=some (.int .u32 (ws[k]?.getD 0:Nat)):=(c.cell (p:=⟨g,k,none⟩) hg).trans (HC.o k h)
   have vr:ws[k]?.getD 0<4294967296:=by
    rw[bj h];exact A _ (bF h)
   have r:Hid (splice (pP ws k) (4*ws.length - 4*k - 4) (tu (ws[k]?.getD 0))=pP ws (k+1)):=ahn ws k h;have Ep:=aho ws k hk;generalize ws[k]?.getD 0=x at *;go_wp2_with (go_at_call 121;refine(acM x _ al).af ?_;rintro e b ⟨rfl,n⟩)
   have T:ef a b:=c.trans (n.af c.size)
   have F:∀o,(b.alloc o).heap[a.heap.size]? =some (.cells ((pP ws k).map u8).toArray 5 (0,0)):=fun o=>by
    have O:a.heap.size<wr.heap.size:=(cJ.1 H.o).1;rw[wF _ _ _ (aU O n.size),n.block _ O];exact H.o
   have X:Hid (∀o,(b.alloc o).heap[a.heap.size]? =some (.cells ((pP ws k).map u8).toArray 5 (0,0))):=F;clear F ab;obtain⟨E,s⟩:∃E,E=4*ws.length - 4*k - 4:=⟨_,rfl⟩;(have M:IntKind.i64.wrap (4*(ws.length:Int) - (k:Int)*4 - 4)=(E:Int):=by rw[fj];omega);(have Q:(k:Int)*4<=4*(ws.length:Int):=al);(have R:4*(ws.length:Int) - (k:Int)*4<=4*(ws.length:Int):=al);(have U:(E:Int)<=4*(ws.length:Int) - (k:Int)*4:=al);(have Y:¬4*ws.length=E:=al);(have Z:(4*(ws.length:Int) - (k:Int)*4).toNat - E=4:=al);(have ai:E+4<=4*ws.length:=al);rw[<- s] at r;clear s;go_region_law (refine step_copy_splice rfl (.tmp 33) (.tmp 34) 157 157 rfl 5 Tryz.underlying157 ao _ _ _ _ _ _ rfl rfl a.heap.size E ((pP ws k).map u8) 5 (by exact X.o _) ((tu x).map u8) rfl (fun _=>⟨rfl,_,rfl,by exact amF x _ b⟩) (by simp[tu];omega) (by simp[tu,u8,Value.oneCell']) a.heap.size a (by exact(T.alloc T.size _).drew) (aq _) ?_;intro w4 z aa)
   clear M Q R U Y Z X;go_wp2;go_roundw
   case rel=>exact⟨k+1,al,b5,by rw[Yb,r.o] at z;exact z,aa⟩
   case measure=>simp[intOf];omega
  ·obtain rfl:k=ws.length:=al
   have EA:=ID (P:=Tryz.prog) wr 157 5 Tryz.underlying157 Tryz.underlying5 a.heap.size 0 (4*ws.length) (4*ws.length) (nW ws) (Sr ws) (fun i f=>by
    have e:=bG wr a.heap.size (0+i) _ _ _ H.o;rw[e,ahp];(have wY:i<(nW ws).length:=by rw[Sr];exact f);simp[u8,bj wY,bY]) 40 Tryz.underlying40
   clear H;go_wp2_with (go_at_call 122;refine(CY _ _).af ?_;rintro e b ⟨rfl,q⟩;subst q)
   go_ret;exact⟨by rw[L.o];rfl,c⟩
variable {l':List Nat} {cap g' j m n' off':Nat}
def bs (w:World) (g off:Nat) (l:List Nat):Prop:=
 ∃cur,w.heap[g]? =some (.cells cur 140 (0,0))/\off+l.length<=cur.size/\∀j,j<l.length ->cur[off+j]? =some (u32 (l[j]?.getD 0))
theorem bs.cell {f:Nat} {l:List Nat} (h:bs w g f l) (j:Nat) (b:j<l.length):w.cell? ⟨g,f+j,none⟩=some (.int .u32 (l[j]?.getD 0:Nat)):=by
 obtain⟨r,a,_,c⟩:=h;rw[bG w g (f+j) r _ (0,0) a];exact c j b
theorem bs.frozen {f:Nat} {l:List Nat} (h:bs w g f l) (j:Nat):w.frozen? ⟨g,j,none⟩=false:=by
 obtain⟨c,a,_,_⟩:=h;exact jw w g j c _ a
theorem bs.lt {f:Nat} {l:List Nat} (h:bs w g f l):g<w.heap.size:=by
 obtain⟨c,a,_,_⟩:=h;exact(cJ.1 a).1
theorem bs.of_block {f:Nat} {l:List Nat} (h:bs w g f l) (e:w'.heap[g]? =w.heap[g]?):bs w' g f l:=by
 obtain⟨r,c,a,b⟩:=h;exact⟨r,e.trans c,a,b⟩
theorem bs.aa {f B:Nat} {l:List Nat} (h:bs w g f l) (b:Below B w w') (a:g<B):bs w' g f l:=h.of_block (b.block g a)
theorem bs.grown {f:Nat} {row:Option Nat} {l:List Nat} (h:bs w g f l) (b:w.grownBy w' row) (e:some g≠row):bs w' g f l:=h.of_block (b.block g h.lt e)
theorem bs.piece {f:Nat} {l:List Nat} (h:bs w g f l) (a n:Nat) (e:a+n<=l.length):bs w g (f+a) ((l.drop a).take n):=by
 obtain⟨r,c,d,b⟩:=h;have k:((l.drop a).take n).length=n:=by simp;omega
 refine⟨r,c,al,fun j i=>?_⟩;rw[zT,b (a+j) al,pI,aA al,I2]
structure cD (g off n:Nat) (w w':World):Prop where
 grown:w.grownBy w' (some g)
 inside:∀cur,w.heap[g]? =some (.cells cur 140 (0,0)) ->∃cur',w'.heap[g]? =some (.cells cur' 140 (0,0))/\cur'.size=cur.size/\∀i,(i<off∨off+n<=i) ->cur'[i]? =cur[i]?
theorem cD.refl (g f n:Nat) (w:World):cD g f n w w:=⟨World.grownBy.refl _ _,fun c h=>⟨c,h,rfl,fun _ _=>rfl⟩⟩
theorem cD.trans {f:Nat} {a b c:World} (h:cD g f n a b) (k:cD g f n b c):cD g f n a c:=
 ⟨h.grown.trans k.grown,fun u q=>by
  obtain⟨e,o,s,l⟩:=h.inside u q;obtain⟨j,p,r,m⟩:=k.inside e o;exact⟨j,p,r.trans s,fun i d=>(m i d).trans (l i d)⟩⟩
theorem cD.af {f:Nat} (h:cD g f n w w') (h1:off'<=f) (d:f+n<=off'+n'):cD g off' n' w w':=
 ⟨h.grown,fun r b=>by
  obtain⟨c,a,s,e⟩:=h.inside r b;exact⟨c,a,s,fun i j=>e i al⟩⟩
theorem cD.aa {f B:Nat} {a:World} (c:Below B a w) (h:cD g f n w w') (b:B<=g) (s:B<=w.heap.size):Below B a w':=
 c.grown h.grown s (fun k e=>by cases e;exact b)
theorem Cs (w:World) (g j:Nat) (c:Array Value) (t:TypeId) (u:Value) (h:w.heap[g]? =some (.cells c t (0,0))):(w.setCell ⟨g,j,none⟩ u).heap[g]? =some (.cells (c.setIfInBounds j u) t (0,0)):=
 jf w g j c t u h
theorem cD.setCell {f:Nat} (h1:f<=j) (a:j<f+n) (u:Value):cD g f n w (w.setCell ⟨g,j,none⟩ u):=by
 refine⟨⟨rfl,rfl,rfl,by simp[World.setCell],fun k _ h=>fQ _ _ _ _ (by rintro rfl;exact h rfl)⟩,fun r c=>?_⟩;refine⟨_,Cs w g j r _ u c,aE,fun i b=>?_⟩;rw[Array.getElem?_setIfInBounds_ne al]
theorem bs.set {f:Nat} {l:List Nat} (h:bs w g f l) (j:Nat) (k:j<l.length) (x:Nat):bs (w.setCell ⟨g,f+j,none⟩ (.int .u32 (x:Nat))) g f (l.set j x):=by
 obtain⟨r,d,b,c⟩:=h;refine⟨_,Cs w g (f+j) r _ _ d,by simpa using b,fun i a=>?_⟩;rw[kg] at a;by_cases e:i=j
 ·subst e;rw[Array.getElem?_setIfInBounds_self_of_lt al];simp[k,u32]
 ·rw[Array.getElem?_setIfInBounds_ne al,c i a,QL al]
theorem bs.beside {f:Nat} {l:List Nat} (h:bs w g f l) (u:cD g off' n w w') (m:f+l.length<=off'∨off'+n<=f):bs w' g f l:=by
 obtain⟨r,d,k,b⟩:=h;obtain⟨c,a,s,e⟩:=u.inside r d;exact⟨c,a,al,fun j i=>(e (f+j) al).trans (b j i)⟩
theorem bs.apart {f:Nat} {l:List Nat} (h:bs w g f l) (u:cD g' off' n w w') (d:g≠g'):bs w' g f l:=
 h.grown u.grown (by simp[d])
theorem bs.append {f:Nat} {a b:List Nat} (k:bs w g f a) (l:bs w g (f+a.length) b):bs w g f (a++b):=by
 obtain⟨r,h,n,c⟩:=k;obtain⟨u,i,o,d⟩:=l;rw[h] at i;cases i;refine⟨r,h,by simp;omega,fun j m=>?_⟩;rw[bK] at m;by_cases e:j<a.length
 ·rw[BG e,c j e]
 ·rw[uQ al];have:=d (j - a.length) al;rwa [show f+a.length+(j - a.length)=f+j by omega] at this
theorem BX {l:List Nat} (h:w.ownsRow base 140 1 (.slice (some ⟨g,0,none⟩) n cap) n (l.map u32)):n=l.length/\l.length<=cap/\base<=g/\bs w g 0 l:=by
 have i:n=l.length:=by have:=h.1;simp at this;exact this.symm
 rcases h.2 with ⟨a,_⟩ |⟨g',p,c,a,d,f,k,_,s,m⟩
 ·cases a
 ·cases a;refine⟨i,al,d,c,f,al,fun j b=>?_⟩;have e:(c.toList.take (n*1))[j]? =(l.map u32)[j]?:=by rw[m]
  rw[pI,aA al,lU,bj b] at e;rw[bB,bj b];simpa using e
theorem Za {l:List Nat} (h:w.ownsRow base 140 1 (.slice (some ⟨g,0,none⟩) n cap) n (l.map u32)) (u:cD g 0 m w w') (p:bs w' g 0 l') (s:l'.length=n):w'.ownsRow base 140 1 (.slice (some ⟨g,0,none⟩) n cap) n (l'.map u32):=by
 refine⟨by simp[s],?_⟩;rcases h.2 with ⟨a,_⟩ |⟨g',y,r,a,k,o,j,q,z,S⟩
 ·cases a
 ·cases a;obtain⟨e,c,x,_⟩:=u.inside r o;obtain⟨t,d,v,f⟩:=p;rw[c] at d;cases d;refine .inr ⟨g,cap,e,rfl,k,c,j,q,al,?_⟩;apply I3;intro i;rw[pI,lU];by_cases b:i<l'.length
  ·have:=f i b;rw[bB,bj b] at this;rw[aA al,bj b,uU,this];rfl
  ·rw[aD al,jA al];rfl
theorem ahc {v:Value} {l:List Nat} (h:w.ownsRow base 140 1 v n (l.map u32)):n=l.length:=by have:=h.1;simp at this;exact this.symm
theorem Nu {B:Nat} {e:TypeId} {i:Nat} {v:Value} (h:w.ownsRow base e i v n xs) (c:Below B w w') (b:w.heap.size<=B):w'.ownsRow base e i v n xs:=by
 refine⟨h.1,?_⟩;rcases h.2 with a |⟨g,cap,u,d,f,r,j⟩
 ·exact .inl a
 ·exact .inr ⟨g,cap,u,d,f,(c.block g (aU (cJ.1 r).1 b)).trans r,j⟩
theorem JD {l:List Nat} (c:Array Value) (b:w.heap[g]? =some (.cells c 140 (0,0))) (s:c.size=cap) (e:base<=g) (m:cap<=maxLen) (f:l.length<=cap) (j:bs w g 0 l):w.ownsRow base 140 1 (.slice (some ⟨g,0,none⟩) l.length cap) l.length (l.map u32):=by
 refine⟨aE,.inr ⟨g,cap,c,rfl,e,b,f,m,al,?_⟩⟩;obtain⟨k,a,n,d⟩:=j;rw[b] at a;cases a;apply I3;intro i;rw[pI,lU];by_cases h:i<l.length
 ·have:=d i h;rw[bB,bj h] at this;rw[aA al,bj h,uU,this];rfl
 ·rw[aD al,jA al];rfl
def Has (w:World) (base:Nat) (v:Value) (l:List Nat):Prop:=w.ownsRow base 140 1 v l.length (l.map u32)
theorem Has.cases {v:Value} {l:List Nat} (h:Has w base v l):(v=.slice none 0 0/\l=[])∨∃g cap,v=.slice (some ⟨g,0,none⟩) l.length cap/\l.length<=cap/\base<=g/\bs w g 0 l:=by
 rcases h.2 with ⟨a,n⟩ |⟨g,cap,u,a,r⟩
 ·exact .inl ⟨a,WR n⟩
 ·subst a;obtain⟨_,b,c,d⟩:=BX h;exact .inr ⟨g,cap,rfl,b,c,d⟩
theorem Has.aa {B:Nat} {v:Value} {l:List Nat} (h:Has w base v l) (b:Below B w w') (a:w.heap.size<=B):Has w' base v l:=Nu h b a
theorem alT {l:List Nat} (k:Nat) (d:k<=l.length) (h:w.ownsRow base 140 1 (.slice (some ⟨g,0,none⟩) n cap) n (l.map u32)):w.ownsRow base 140 1 (.slice (some ⟨g,0,none⟩) k cap) k ((l.take k).map u32):=by
 have e:=ahc h;refine⟨by simp;omega,?_⟩;rcases h.2 with ⟨a,_⟩ |⟨g',p,r,a,b,c,j,m,s,S⟩
 ·cases a
 ·cases a;refine .inr ⟨g,cap,r,rfl,b,c,al,m,s,?_⟩;rw[List.map_take, <- S,List.take_take,tX al,kF]
theorem akE (w:World):du 84 #[.slice none 0 0] w (eS w (.string (B 0))):=by
 obtain⟨d,h,z,f,l⟩:=dJ Tryz.infoByte;have A:=fun (c:World)=>ID (P:=Tryz.prog) c 157 5 Tryz.underlying157 Tryz.underlying5 w.heap.size 0 0 0 [] rfl (fun i h=>absurd h (BA _)) 40 Tryz.underlying40;have H:Hid (N (strOfNums [])=0):=rfl;go_enter Tryz.func84,Tryz.ntmps84
 go_wp2_with (first
  |(go_at_call 123;refine(afr _).af ?_;rintro e b ⟨rfl,a⟩;subst a)
  |(at_make;refine lj _ rfl _ _ 157 rfl b.heap.size 5 d (.int .u8 0) 1 Tryz.underlying157 h z f .i64 .i64 _ _ 0 rfl rfl rfl rfl al (by unfold maxLen;omega) (aq _) ?_;intro c n g))
 refine IB 1 ?_;rw[qA];go_wp2_with (go_at_call 122;refine(CY _ _).af ?_;rintro e j ⟨rfl,a⟩;subst a)
 go_ret;exact⟨by rw[H.o];rfl,(au _ b).grown g (aq _) (fun k e=>by cases e)⟩
theorem OX (base:Nat) (v:Value) (l:List Nat) (w:World) (s:Small l) (e:l.length<=35184372088832) (h:Has w base v l):
  du 84 #[v] w (eS w (.string (B (nw l)))):=by
 rcases h.cases with ⟨rfl,rfl⟩ |⟨g,cap,rfl,d,c,a⟩
 ·rw[mN];exact akE w
 ·exact Us g cap l w s d e a.lt (fun j b=>a.cell j b)
theorem Zr (r x:Nat) (h:r<4294967296) (a:x<4294967296):bits .or .u64 ((r:Int)*4294967296) (x:Int)=((r*4294967296+x:Nat):Int):=by
 have e:(r:Int)*4294967296=((r*4294967296:Nat):Int):=al
 rw[e,u64_or_nat _ _ al al,nat_join 32 _ _ al al]
def G:Nat:=1000000000
theorem aH {p:Prop} (h:p):Hid p:=h
theorem Has.upd {l:List Nat} (h:Has w base (.slice (some ⟨g,0,none⟩) n cap) l) (u:cD g 0 m w w') (b:bs w' g 0 l') (e:l'.length=l.length):Has w' base (.slice (some ⟨g,0,none⟩) n cap) l':=by
 have c:n=l.length:=by
  rcases h.2 with ⟨a,_⟩ |⟨g',p,r,a,_⟩
  ·cases a
  ·cases a;rfl
 subst c;have:=Za h u b e;rw[Has,e];exact this
theorem O8 (q l:List Nat) (k y:Nat) (a:q.length=k) (h:k<l.length):(q++l.drop k).set k y=q++[y]++l.drop (k+1):=by
 rw[BC _ _ al,a,mF,nP h,cN,lV];rfl
variable {k:Nat} {f:Nat ->Nat}
def jn (f:Nat ->Nat):Nat ->Nat
 |0=>0
 |k+1=>jn f k+W^k*f k
theorem ZA (f g:Nat ->Nat) (k:Nat):jn (fun j=>f j+g j) k=jn f k+jn g k:=by
 induction k with
 |zero=>rfl
 |succ k ih=>simp only[jn,ih,kH];omega
theorem Zy (c:Nat) (f:Nat ->Nat) (k:Nat):jn (fun j=>c*f j) k=c*jn f k:=by
 induction k with
 |zero=>rfl
 |succ k ih=>simp only[jn,ih,kH];congr 1;rw[<- iP,dK (W^k) c,iP]
theorem Gi (l:List Nat) (k:Nat):jn (fun j=>l[j]?.getD 0) k=nw (l.take k):=by
 induction k with
 |zero=>simp[jn,mN]
 |succ k ih=>
  rw[jn,ih];by_cases h:k<l.length
  ·rw[R3 l k h,bj h];rfl
  ·rw[jA al,lT (by omega:l.length<=k),lT (by omega:l.length<=k+1)];simp
theorem Zz (l:List Nat) (k:Nat) (h:l.length<=k):jn (fun j=>l[j]?.getD 0) k=nw l:=by rw[Gi,lT h]
theorem ahH {g:Nat ->Nat} (h:∀j,j< k ->f j=g j):jn f k=jn g k:=by
 induction k with
 |zero=>rfl
 |succ k ih=>rw[jn,jn,ih (fun j a=>h j al),h k al]
def acc (f:Nat ->Nat):Nat ->List Nat×Nat
 |0=>([],0)
 |k+1=>((acc f k).1++[((acc f k).2+f k) % W],((acc f k).2+f k)/W)
theorem Ld (f:Nat ->Nat) (k:Nat):(acc f k).1.length=k:=by
 induction k with
 |zero=>rfl
 |succ k ih=>simp[acc,ih]
theorem U7 (f:Nat ->Nat) (k:Nat):Small (acc f k).1:=by
 induction k with
 |zero=>intro x h;simp[acc] at h
 |succ k ih=>
  intro x h;rw[acc] at h;rcases ck.1 h with h |h
  ·exact ih x h
  ·simp at h;subst h;exact jQ _ lJ
theorem U8 (f:Nat ->Nat) (k:Nat):nw (acc f k).1+W^k*(acc f k).2=jn f k:=by
 induction k with
 |zero=>simp[acc,jn,mN]
 |succ k ih=>
  rw[acc,jn,B0,Ld, <- ih,gJ,iP];have e:=Nat.mod_add_div ((acc f k).2+f k) W
  have:W^k*(((acc f k).2+f k) % W)+W^k*(W*(((acc f k).2+f k)/W))=W^k*(acc f k).2+W^k*f k:=by
   rw[<- kH,e,kH]
  show nw (acc f k).1+W^k*(((acc f k).2+f k) % W)+W^k*(W*(((acc f k).2+f k)/W))=_;omega
theorem U9 (f:Nat ->Nat) (b:Nat) (k:Nat) (h:∀j,j< k ->f j+b<(b+1)*W):(acc f k).2<=b:=by
 induction k with
 |zero=>exact aV _
 |succ k ih=>
  have a:=ih (fun j d=>h j al);have c:=h k al;rw[acc];have:((acc f k).2+f k)/W<b+1:=FQ (by rw[dK];omega);omega
theorem Ys (a q l:List Nat) (i k y:Nat) (h:a.length=i) (c:q.length=k) (b:i+k<l.length):(a++q++l.drop (i+k)).set (i+k) y=a++(q++[y])++l.drop (i+(k+1)):=by
 rw[BC _ _ (by rw[bK];omega),bK,h,c,mF,nP b,cN];simp[lV,zT]
theorem afH (a q l:List Nat) (i k:Nat) (h:a.length=i) (b:q.length=k):(a++q++l.drop (i+k))[i+k]?.getD 0=l[i+k]?.getD 0:=by
 rw[uQ (by rw[bK];omega),bK,h,b,mF,I2,gK]
theorem getD_lt {l:List Nat} (h:Small l) (j:Nat):l[j]?.getD 0<W:=by
 by_cases a:j<l.length
 ·rw[bj a];exact h _ (bF a)
 ·rw[jA al];exact lJ
theorem yK {a b:List Nat} (h:Small a) (c:Small b):Small (a++b):=fun x d=>(ck.1 d).elim (h x) (c x)
theorem Js {l:List Nat} (h:Small l) (k:Nat):Small (l.drop k):=fun x a=>h x (List.mem_of_mem_drop a)
theorem ahG (l:List Nat) (k:Nat):nw l=nw (l.take k)+W^(min k l.length)*nw (l.drop k):=by
 have:=Af (l.take k) (l.drop k);rwa [BB,eE] at this
theorem sN (l:List Nat) (k:Nat) (h:k<=l.length):nw l=nw (l.take k)+W^k*nw (l.drop k):=by
 have:=ahG l k;rwa [tX h] at this
theorem RZ (n:Nat):nw (List.replicate n 0)=0:=by
 induction n with
 |zero=>rfl
 |succ n ih=>rw[IW,kL,ih];simp
theorem Ye (n:Nat):Small (List.replicate n 0):=fun x h=>by rw[(List.mem_replicate.1 h).2];exact lJ
def fY (xs ys:List Nat) (j:Nat):Nat:=xs[j]?.getD 0+ys[j]?.getD 0
theorem XY (xs s:List Nat) (k:Nat):jn (fY xs s) k=nw (xs.take k)+nw (s.take k):=by
 rw[show fY xs s=fun j=>(fun j=>xs[j]?.getD 0) j+(fun j=>s[j]?.getD 0) j from rfl,ZA,Gi,Gi]
theorem ae2 (xs s:List Nat) (h:Small xs) (y:Small s) (k:Nat):(acc (fY xs s) k).2<=1:=by
 refine U9 _ 1 k fun j _=>?_;have a:=getD_lt h j;have b:=getD_lt y j;unfold fY;omega
theorem RB (g f cap b J S:Nat) (xs a:List Nat) (w:World) (A:Small xs) (p:Small a) (ae:xs.length<=35184372088832) (z:a.length<=xs.length) (Q:bs w g f xs) (R:bs w b J a) (X:b≠g):
  du 124 #[.slice (some ⟨g,f,none⟩) xs.length cap,.slice (some ⟨b,J,none⟩) a.length S] w fun e w'=>∃(c:Bool) (l':List Nat),e=.returned (.bool c)/\l'.length=xs.length/\Small l'/\nw l'+(if c then W^xs.length else 0)=nw xs+nw a/\bs w' g f l'/\cD g f xs.length w w':=by
 go_enter Tryz.func124,Tryz.ntmps124;go_wp2
 go_loopw [5,9] (fun c i wr=>∃k:Nat,k<=xs.length/\i=.int .i64 k/\c=.int .u64 ((acc (fY xs a) k).2:Nat)/\bs wr g f ((acc (fY xs a) k).1++xs.drop k)/\cD g f xs.length w wr)
  (fun _ i _=>xs.length - (intOf i).toNat)
 case atStart=>exact⟨0,aV _,rfl,rfl,by simpa [acc] using Q,cD.refl _ _ _ _⟩
 case round=>
  obtain⟨k,L,rfl,rfl,P,l⟩:=hrel;have xj:=ae2 xs a A p k;have d:=Ld (fY xs a) k;have T:=U7 (fY xs a) k;have H:=aH (U8 (fY xs a) k);by_cases Z:k<xs.length
  ·have h:k<((acc (fY xs a) k).1++xs.drop k).length:=by rw[bK,d,nN];omega
   have u:=P.cell k h;have V:=P.frozen (f+k);have O:=fun y=>P.set k h y;simp only[O8 _ xs k _ d Z] at O
   have r:((acc (fY xs a) k).1++xs.drop k)[k]?.getD 0=xs[k]?.getD 0:=by
    rw[uQ al,d,mF,I2,gK]
   rw[r] at u;have j:Hid (acc (fY xs a) (k+1)=((acc (fY xs a) k).1++[((acc (fY xs a) k).2+fY xs a k) % W],((acc (fY xs a) k).2+fY xs a k)/W)):=rfl;have U:=getD_lt A k;have D:=getD_lt p k;rw[ig] at U D;by_cases I:k<a.length
   focus
    have ab:=(R.apart l X).cell k I;have F:Hid (fY xs a k=xs[k]?.getD 0+a[k]?.getD 0):=rfl;generalize (acc (fY xs a) k).2=c at *;generalize (acc (fY xs a) k).1=q at *;generalize fY xs a k=s at *;generalize xs[k]?.getD 0=x at *;generalize a[k]?.getD 0=y at *;have Y:=aH O;clear O r h P H;go_wp2;have v:Value.int .u32 (((c:Int)+(x:Int)+(y:Int)) % 4294967296)=.int .u32 (((c+s) % W:Nat):Int):=int_eq (by rw[ig,F.o];omega);have t:Value.int .u64 (((c:Int)+(x:Int)+(y:Int))/4294967296)=.int .u64 (((c+s)/W:Nat):Int):=int_eq (by rw[ig,F.o];omega)
   rotate_left
   focus
    (have n:a[k]?.getD 0=0:=by rw[jA al];rfl);by_cases m:(acc (fY xs a) k).2=0
    ·have E:Hid (nw ((acc (fY xs a) k).1++xs.drop k)=nw xs+nw a):=by
      show _=_;have e:=H.o;rw[m,ll,gK,XY,lT (show a.length<=k by omega)] at e;rw[Af,d,e,sN xs k L];omega
     have aa:=yK T (Js A k);(have K:((acc (fY xs a) k).1++xs.drop k).length=xs.length:=by rw[bK,d,nN];omega);rw[m];generalize (acc (fY xs a) k).1++xs.drop k=q at *;clear O u V j r h H;go_wp2;go_ret;exact⟨false,q,rfl,K,aa,by rw[E.o];rfl,P,l⟩
    focus
     (have F:Hid (fY xs a k=xs[k]?.getD 0):=by show _=_;rw[fY,n,gK]);(have ad:(((acc (fY xs a) k).2:Int)==0)=false:=by rw[FP];omega);generalize (acc (fY xs a) k).2=c at *;generalize (acc (fY xs a) k).1=q at *;generalize fY xs a k=s at *;generalize xs[k]?.getD 0=x at *;have Y:=aH O;clear O r h P H n m;go_wp2;have v:Value.int .u32 (((c:Int)+(x:Int)) % 4294967296)=.int .u32 (((c+s) % W:Nat):Int):=int_eq (by rw[ig,F.o];omega);have t:Value.int .u64 (((c:Int)+(x:Int))/4294967296)=.int .u64 (((c+s)/W:Nat):Int):=int_eq (by rw[ig,F.o];omega)
   all_goals
    rw[v,t];have M:=Y.o ((c+s) % W);go_roundw
    case rel=>exact⟨k+1,al,b5,by rw[j.o],by rw[j.o];exact M,l.trans (cD.setCell (My _ _) al _)⟩
    case measure=>simp[intOf];omega
  ·obtain rfl:k=xs.length:=al
   rw[List.drop_length,BP] at P
   have E:Hid (nw (acc (fY xs a) xs.length).1+W^xs.length*(acc (fY xs a) xs.length).2=nw xs+nw a):=by
    show _=_;rw[H.o,XY,jR,lT z]
   generalize (acc (fY xs a) xs.length).1=q at *;generalize (acc (fY xs a) xs.length).2=c at *;clear H;rcases (show c=0∨c=1 by omega) with rfl |rfl
   ·go_wp2;go_ret;exact⟨false,q,rfl,d,T,by have:=E.o;simpa using this,P,l⟩
   ·go_wp2;go_ret;exact⟨true,q,rfl,d,T,by have:=E.o;simpa using this,P,l⟩
section
open Go.Shelf
attribute [local go_sem] Oper.semAt_some
theorem yJ (s:ByteArray) (w:World) (u:s.size<=140737488355328):
  du 86 #[.string s] w fun e w'=>∃g cap,e=.returned (.slice (some ⟨g,0,none⟩) (words (N s)).length cap)/\Has w' w.heap.size (.slice (some ⟨g,0,none⟩) (words (N s)).length cap) (words (N s))/\ef w w':=by
 refine(ix (n:=6)).1 ?_;have X:(B (N s)).size<=140737488355328:=aR (ju s) u;have J:=aer (N s);have z:=dA (N s);generalize hm:N s=m at *;obtain⟨F,E,I,L,M⟩:=dJ Tryz.infoU32;refine uN Tryz.func86 rfl trivial ?_ rfl;simp only[Tryz.ntmps86,nJ,ew,mG,Nat.reduceAdd,Nat.reduceSub,nR,nQ,nK,mI,jy,fG];have Q:Hid (N s=m):=hm;have R:Hid (N (B m)=m):=z;have U:Hid (upto m (((B m).size+3)/4)=words m):=J;clear hm z J
 gi_wp2_with (first
  |(refine⟨trivial,?_⟩;gi_at_call 122;refine(ix.2 (CY _ _)).af ?_;rintro e w' ⟨rfl,rfl⟩;rw[Q.o])
  |(refine⟨trivial,?_⟩;gi_at_call 125;refine(ix.2 (acx _ _ X)).af ?_;rintro e w' ⟨rfl,rfl⟩)
  |(gi_at_make;refine wpListIn_make_own _ rfl _ _ 125 rfl w'.heap.size 140 F (.int .u32 0) 1 Tryz.underlying125 E I L .i64 .i64 _ (((B m).size+3)/4) rfl rfl al (by rw[M];omega) (by unfold maxLen;omega) (aq _) ?_;intro a an y)
  |(refine⟨trivial,?_⟩;gi_at_call 126;refine(ak4 _ _ _).af ?_;rintro e w2 ⟨rfl,rfl⟩))
 have A:=y.size;have ab:ef w' a:=(au _ w').grown y (aq _) (fun k e=>by cases e);have S:=a8 a 125 (.slice (some ⟨w'.heap.size,0,none⟩) 0 (((B m).size+3)/4));have q:=a8 (a.alloc (.cells #[.slice (some ⟨w'.heap.size,0,none⟩) 0 (((B m).size+3)/4)] 125)) 40 (.string (B m));rw[dE] at q;have aa:ef w' ((a.alloc (.cells #[.slice (some ⟨w'.heap.size,0,none⟩) 0 (((B m).size+3)/4)] 125)).alloc (.cells #[.string (B m)] 40)):=(ab.alloc A _).alloc (by simp;omega) _
 refine Mr (α:=Nat) rfl al (gf:=182) (lb:= #[.pointer (some ⟨a.heap.size+1,0,none⟩)]) rfl trivial (enters_of Tryz.func182 ao rfl)
  (ak3 5 al (a.heap.size+1) (B m) X _ aE q.cell) oF.t (oF.b aE) (au _ _) (fun _=>rfl)
  (fun (p:List Nat) V=>((∃v,Boxed V a.heap.size 125 v/\V.ownsRow w'.heap.size 140 1 v p.length (p.map u32)/\v≠.slice none 0 0)/\ef w' V)/\Boxed V (a.heap.size+1) 40 (.string (B m)))
  (fun _ _ _=>False)
  (fP (fP (gZ (holdsRow_own w'.heap.size a.heap.size 125 140 1 (fun p:List Nat=>p.length) (fun p=>p.map u32) (fun _ v=>v≠.slice none 0 0)) _) (zM (aq _) (by simp;omega))) (gZ (jN _ _ (fun _=>.string (B m))) _))
  (fun _ _ _ _ _ u _ _=>u)
  ⟨⟨⟨_,S.alloc _,(an.alloc _).alloc _,aE⟩,aa⟩,q⟩
  (fun x=> {tmps:= #[.string (B m),undef,.slice none 0 0,.pointer (some ⟨a.heap.size,0,none⟩),.int .u32 (x:Nat),.string s,.string (B m),.string (B m),.int .i64 (((B m).size+3)/4),.slice (some ⟨w'.heap.size,0,none⟩) 0 (((B m).size+3)/4),.string (B m),.func (.func 182) #[] #[.pointer (some ⟨a.heap.size+1,0,none⟩)],.int .u32 (x:Nat),undef,undef,undef,undef,undef],defers:=[]}) ?assign ?body ?done ?stop
 case assign=>
  intro l x V K f;gi_wp2
  exact f
 case body=>
  rintro l p x V ⟨⟨⟨v,j,r,_⟩,d⟩,i⟩ ax;have Z:=j.cell;gi_wp2_with (gi_at_builtin;refine wpListIn_append_own _ rfl _ _ 125 rfl w'.heap.size 140 F (.int .u32 0) 1 4 Tryz.underlying125 E I L M rfl bd _ _ _ rfl (r.alloc _) ⟨V.heap.size,0,none⟩ 1 1 [.int .u32 (x:Nat)] rfl rfl (cell_one_new _ _ _) (by simp[Value.oneCell']) (by unfold maxLen;omega) al (by have:=d.size;simp;omega) ?_;intro v' w3 P O _;obtain⟨g',ak,rfl⟩:=ownsRow_succ P;obtain⟨T,aj,ai,ah,ad⟩:=j.appended bd r d.size A P O;have ae:=(i.alloc _).kept O (i.not_row bd r);have av:=T.cell;have Ou:=T.frozen)
  have H:=ae.other (B':=a.heap.size) al (.slice (some ⟨g',0,none⟩) (p.length+1) ak);exact⟨ah.from _,H.cell.trans i.cell.symm,⟨⟨_,aj,by simpa [u32] using ai,aE⟩,d.trans ad⟩,H⟩
 case done=>
  rintro D ys V Y rfl ⟨⟨⟨v,j,r,nZ⟩,d⟩,i⟩ f;have Z:=j.cell;rw[R.o,U.o] at r;gi_wp2
  refine⟨aE,.inl ⟨_,_,rfl,Bu f,?_⟩⟩
  obtain⟨g,cap,rfl⟩:∃g cap,v=.slice (some ⟨g,0,none⟩) (words m).length cap:=by
   rcases r.2 with ⟨e,_⟩ |⟨g,cap,_,e,_⟩
   ·exact absurd e nZ
   ·exact⟨g,cap,e⟩
  refine⟨_,Bx rfl _ _ _,g,cap,rfl,?_,d.trans (uP (w:=w') (aq _) V D _ _ (by simp at Y;omega) f rfl rfl)⟩;exact ownsRow_putObj r _ f rfl
 case stop=>
  rintro D c p V _ _ h _;exact h.elim
end
theorem JJ (n:Nat):(madeCells (Value.int .u32 0).cells (n*1)).toList=(List.replicate n 0).map u32:=by
 rw[show (Value.int .u32 0).cells= #[Value.int .u32 0] from rfl,FK,kF,MC];rfl
theorem NQ {l:List Nat} (h:w.heap[g]? =some (.cells (l.map u32).toArray 140 (0,0))):bs w g 0 l:=
 ⟨_,h,aE,fun j a=>by simp[bj a]⟩
theorem Yc (l:List Nat):splice ((List.replicate (l.length+1) 0).map u32) 0 (l.map u32)=(l++[0]).map u32:=by
 rw[Yb,splice,List.take_zero,jy,bB,List.drop_replicate];simp
theorem acI {l:List Nat} (h:bs w g 0 l):∀j v,(l.map u32)[j]? =some v ->w.cell? ((⟨g,0,none⟩:Addr).add j)=some v:=by
 intro j v a
 have k:j<l.length:=by
  rcases cT j l.length with h |h
  ·exact h
  ·rw[jA (by simpa using h)] at a;cases a
 rw[Lib.add_plain,h.cell j k];rw[lU,bj k] at a;rw[bj k];exact a
theorem Zt (l:List Nat):∀v∈l.map u32,v.oneCell'=true:=by
 intro v h;obtain⟨x,_,rfl⟩:=ba.1 h;rfl
theorem XN {xs s:List Nat} (x:Small xs) (y:Small s) (h:s.length<=xs.length):nw xs+nw s<W^(xs.length+1):=by
 have a:=vh xs x;have b:=vh s y;have c:W^s.length<=W^xs.length:=kE lJ h;have d:W^(xs.length+1)=W^xs.length*W:=gJ ..;have e:W^xs.length*2<=W^xs.length*W:=jg _ bd;omega
theorem agL (f T y j:Nat) (xs s:List Nat) (w:World) (A:Small xs) (n:Small s) (av:xs.length<=17592186044416) (I:s.length<=xs.length) (h:bs w f 0 xs) (i:bs w y 0 s):
  du 85 #[.slice (some ⟨f,0,none⟩) xs.length T,.slice (some ⟨y,0,none⟩) s.length j] w fun e w'=>∃v l,e=.returned v/\Has w' w.heap.size v l/\Small l/\l.length=xs.length+1/\nw l=nw xs+nw s/\ef w w':=by
 obtain⟨R,Q,ai,aj,ak⟩:=dJ Tryz.infoU32;have an:¬xs.length<s.length:=al
 have ab:=h.lt;have V:=i.lt;go_enter Tryz.func85,Tryz.ntmps85
 go_wp2_with (first
  |(at_make;refine lj _ rfl _ _ 125 rfl w.heap.size 140 R (.int .u32 0) 1 Tryz.underlying125 Q ai aj .i64 .i64 _ _ (xs.length+1) rfl rfl al al (by rw[ak];omega) (by unfold maxLen;omega) (aq _) ?_;intro U E F;have a:=qg E;rw[JJ] at a;have M:=aH a;have t:ef w U:=(au _ w).grown F (aq _) (fun k e=>by cases e);have ah:=h.aa t ab;clear E F a)
  |(refine wpList_copy_splice rfl (.tmp 17) (.tmp 18) 125 125 rfl 140 Tryz.underlying125 ao _ _ _ _ _ _ rfl rfl w.heap.size 0 ((List.replicate (xs.length+1) 0).map u32) 140 (by exact M.o) (xs.map u32) (by rw[dM];exact(tX (Nat.le_succ _)).symm) (fun _=>⟨rfl,_,rfl,acI ah⟩) aE (Zt xs) w.heap.size w t (aq _) ?_;intro X g b))
 rw[Yc] at g;have ad:=NQ g.o;have K:=i.aa b V;have O:(xs++[0]).length=xs.length+1:=aE
 have ae:Small (xs++[0]):=yK A (fun x h=>by simp at h;subst h;exact lJ);have r:=RB w.heap.size 0 (xs.length+1) y 0 j (xs++[0]) s X ae n al al ad K al;rw[O,B0,ll,gK] at r;refine r.af ?_;rintro e Y ⟨c,p,rfl,d,S,m,J,u⟩;have P:ef w Y:=cD.aa b u (aq _) b.size;obtain⟨Z,z,D,_⟩:=u.inside _ g.o;have q:=JD (base:=w.heap.size) (cap:=xs.length+1) Z z (by rw[D];simp) (aq _) (by unfold maxLen;omega) al J
 have L:Hid (nw p=nw xs+nw s):=by
  show _=_;cases c with
  |false=>simpa using m
  |true=>
   have hf:=XN A n I;simp only[zN] at m;omega
 have H:=aH d;rw[d] at q;clear m d z D r g J u;go_wp2;go_ret;exact⟨_,p,rfl,by rw[Has,H.o];exact q,S,H.o,L.o,P⟩
theorem agK (f T y j:Nat) (xs s:List Nat) (w:World) (A:Small xs) (n:Small s) (av:xs.length<=17592186044416) (an:s.length<xs.length) (h:bs w f 0 xs) (i:bs w y 0 s):
  du 85 #[.slice (some ⟨y,0,none⟩) s.length j,.slice (some ⟨f,0,none⟩) xs.length T] w fun e w'=>∃v l,e=.returned v/\Has w' w.heap.size v l/\Small l/\l.length=xs.length+1/\nw l=nw xs+nw s/\ef w w':=by
 obtain⟨R,Q,ai,aj,ak⟩:=dJ Tryz.infoU32;have I:s.length<=xs.length:=al
 have ab:=h.lt;have V:=i.lt;go_enter Tryz.func85,Tryz.ntmps85
 go_wp2_with (first
  |(at_make;refine lj _ rfl _ _ 125 rfl w.heap.size 140 R (.int .u32 0) 1 Tryz.underlying125 Q ai aj .i64 .i64 _ _ (xs.length+1) rfl rfl al al (by rw[ak];omega) (by unfold maxLen;omega) (aq _) ?_;intro U E F;have a:=qg E;rw[JJ] at a;have M:=aH a;have t:ef w U:=(au _ w).grown F (aq _) (fun k e=>by cases e);have ah:=h.aa t ab;clear E F a)
  |(refine wpList_copy_splice rfl (.tmp 17) (.tmp 18) 125 125 rfl 140 Tryz.underlying125 ao _ _ _ _ _ _ rfl rfl w.heap.size 0 ((List.replicate (xs.length+1) 0).map u32) 140 (by exact M.o) (xs.map u32) (by rw[dM];exact(tX (Nat.le_succ _)).symm) (fun _=>⟨rfl,_,rfl,acI ah⟩) aE (Zt xs) w.heap.size w t (aq _) ?_;intro X g b))
 rw[Yc] at g;have ad:=NQ g.o;have K:=i.aa b V;have O:(xs++[0]).length=xs.length+1:=aE
 have ae:Small (xs++[0]):=yK A (fun x h=>by simp at h;subst h;exact lJ);have r:=RB w.heap.size 0 (xs.length+1) y 0 j (xs++[0]) s X ae n al al ad K al;rw[O,B0,ll,gK] at r;refine r.af ?_;rintro e Y ⟨c,p,rfl,d,S,m,J,u⟩;have P:ef w Y:=cD.aa b u (aq _) b.size;obtain⟨Z,z,D,_⟩:=u.inside _ g.o;have q:=JD (base:=w.heap.size) (cap:=xs.length+1) Z z (by rw[D];simp) (aq _) (by unfold maxLen;omega) al J
 have L:Hid (nw p=nw xs+nw s):=by
  show _=_;cases c with
  |false=>simpa using m
  |true=>
   have hf:=XN A n I;simp only[zN] at m;omega
 have H:=aH d;rw[d] at q;clear m d z D r g J u;go_wp2;go_ret;exact⟨_,p,rfl,by rw[Has,H.o];exact q,S,H.o,L.o,P⟩
theorem agM (g k y j:Nat) (xs s:List Nat) (w:World) (i:Small xs) (o:Small s) (n:xs.length<=17592186044416) (p:s.length<=17592186044416) (x:bs w g 0 xs) (f:bs w y 0 s):
  du 85 #[.slice (some ⟨g,0,none⟩) xs.length k,.slice (some ⟨y,0,none⟩) s.length j] w fun e w'=>∃v l,e=.returned v/\Has w' w.heap.size v l/\Small l/\l.length<=17592186044417/\nw l=nw xs+nw s/\ef w w':=by
 by_cases h:s.length<=xs.length
 ·refine(agL g k y j xs s w i o n h x f).af ?_;rintro e w' ⟨v,l,rfl,a,b,m,d,c⟩;exact⟨v,l,rfl,a,b,al,d,c⟩
 ·refine(agK y j g k s xs w o i p al f x).af ?_;rintro e w' ⟨v,l,rfl,a,b,m,d,c⟩;exact⟨v,l,rfl,a,b,al,al,c⟩
theorem xq {l:List Nat} (h:Has w base (.slice (some ⟨g,0,none⟩) n cap) l) (b:ef w w'):bs w' g 0 l:=by
 rcases h.cases with ⟨e,_⟩ |⟨g',c,e,_,_,a⟩
 ·cases e
 ·cases e;exact a.aa b a.lt
theorem yE (s:ByteArray) (k:Nat) (h:s.size<=4*k):(words (N s)).length<=k:=by
 rw[MS, <- lg];have:=ju s;omega
theorem an1 (a b:ByteArray) (w:World) (z:a.size<=1099511627776) (A:b.size<=1099511627776):
  du 45 #[.string a,.string b] w (eS w (.string (B (N a+N b)))):=by
 have D:=yE a 274877906944 al;have F:=yE b 274877906944 al;go_enter Tryz.func45,Tryz.ntmps45;go_wp2_with fail
 refine(yJ a _ al).af ?_;rintro e I ⟨j,g,rfl,m,c⟩;go_wp2_with fail
 refine(yJ b _ al).af ?_;rintro e r ⟨k,i,rfl,n,d⟩;have q:=xq m d;have x:=xq n (au _ _);have h:ef w r:=c.trans (d.af c.size);go_wp2_with fail
 refine(agM j g k i _ _ _ (mK _) (mK _) al al q x).af ?_;rintro e s ⟨v,l,rfl,p,y,E,f,t⟩;have T:ef w s:=h.trans (t.af h.size);have H:=aH f;clear f;go_wp2_with fail
 refine(OX _ _ _ _ y al p).af ?_;rintro e J ⟨rfl,u⟩;go_wp2;go_ret;exact⟨by rw[H.o,kK,kK];rfl,T.trans (u.af T.size)⟩
theorem toList_data (s:ByteArray):s.toList=s.data.toList:=by
 obtain⟨⟨l⟩⟩:=s;simp
theorem af1 {a b:Bool} (h:a=b):Ending.returned (.bool a)=.returned (.bool b):=by rw[h]
def js (m n:Nat):Int:=if m<n then -1 else if m=n then 0 else 1
theorem aag:∀(l m:List UInt8),l.length=m.length ->Op.bytesLess l m=decide (nb l<nb m)
 |[],[],_=>rfl
 |x::l,y::m,h=>by
  have b:l.length=m.length:=by simpa using h
  have i:=aag l m b;have f:=ug l;have c:=ug m;rw[D6,D6, <- b];rw[<- b] at c;rw[Op.bytesLess];rcases Nat.lt_trichotomy x.toNat y.toNat with e |e |e
  ·have w:(decide (x<y))=true:=by simpa [UInt8.lt_iff_toNat_lt] using e
   have:(x.toNat+1)*256^l.length<=y.toNat*256^l.length:=lS _ e;rw[fF] at this;rw[w,Bool.true_or];symm;rw[IG];omega
  ·have w:x=y:=Mu.1 e;subst w;(have a:(decide (x<x))=false:=aE);rw[a,Bool.false_or,beq_self_eq_true,I7,i];congr 1
   apply propext;omega
  ·have a:(decide (x<y))=false:=by simp[UInt8.lt_iff_toNat_lt];omega
   (have d:(x==y)=false:=by rw[FP];rintro rfl;omega);have:(y.toNat+1)*256^l.length<=x.toNat*256^l.length:=lS _ e;rw[fF] at this;rw[a,d,Bool.false_or,Bool.false_and];symm;rw[Qz];omega
theorem ZP:∀(l m:List UInt8),l.length=m.length ->nb l=nb m ->l=m
 |[],[],_,_=>rfl
 |x::l,y::m,h,e=>by
  have a:l.length=m.length:=by simpa using h
  have f:=ug l;have d:=ug m;rw[D6,D6, <- a] at e;rw[<- a] at d;have p:0<256^l.length:=nI bd
  have b:x.toNat=y.toNat:=by
   rcases Nat.lt_trichotomy x.toNat y.toNat with c |c |c
   ·have:(x.toNat+1)*256^l.length<=y.toNat*256^l.length:=lS _ c;rw[fF] at this;omega
   ·exact c
   ·have:(y.toNat+1)*256^l.length<=x.toNat*256^l.length:=lS _ c;rw[fF] at this;omega
  rw[b] at e;rw[Mu.1 b,ZP l m a al]
theorem anY (a b:ByteArray) (w:World) (h:a.size=b.size):
  du 168 #[.string a,.string b] w fun e w'=>e=.returned (.int .i64 (js (N a) (N b)))/\w'=w:=by
 have l:=aag a.data.toList b.data.toList (by rw[DI,DI];exact h);rcases Nat.lt_trichotomy (N a) (N b) with c |c |c
 ·have L:Op.bytesLess a.toList b.toList=true:=by rw[toList_data,toList_data,l];simpa [N] using c
  have H:Hid (js (N a) (N b)= -1):=by show _=_;rw[js,aA c]
  clear l c;go_enter Tryz.func168,Tryz.ntmps168;go_wp2;go_ret;exact⟨z8 H.o.symm,rfl⟩
 ·have L:Op.bytesLess a.toList b.toList=false:=by rw[toList_data,toList_data,l];simp only[N] at c;rw[Qz];omega
  have E:(a.toList==b.toList)=true:=by
   rw[toList_data,toList_data,ZP a.data.toList b.data.toList (by rw[DI,DI];exact h) c];simp
  have H:Hid (js (N a) (N b)=0):=by show _=_;rw[js,aD al,aA c]
  clear l c;go_enter Tryz.func168,Tryz.ntmps168;go_wp2;go_ret;exact⟨z8 H.o.symm,rfl⟩
 ·have L:Op.bytesLess a.toList b.toList=false:=by rw[toList_data,toList_data,l];simp only[N] at c;rw[Qz];omega
  have E:(a.toList==b.toList)=false:=by
   rw[toList_data,toList_data,FP];intro e;rw[N,N,e] at c;omega
  have H:Hid (js (N a) (N b)=1):=by show _=_;rw[js,aD al,aD al]
  clear l c;go_enter Tryz.func168,Tryz.ntmps168;go_wp2;go_ret;exact⟨z8 H.o.symm,rfl⟩
theorem WG (a b:ByteArray) (w:World):
  du 108 #[.string a,.string b] w fun e w'=>e=.returned (.int .i64 (js (N a) (N b)))/\w'=w:=by
 by_cases h:(B (N a)).size=(B (N b)).size
 ·have f:=fun V=>anY (B (N a)) (B (N b)) V h;simp only[dA] at f;have HC:=aH f;have n:(((B (N a)).size:Int) !=((B (N b)).size:Int))=false:=by rw[h];simp
  clear f h;go_enter Tryz.func108,Tryz.ntmps108;go_wp2_with fail
  refine(CY _ _).af ?_;rintro e g ⟨rfl,d⟩;subst d;go_wp2_with fail
  refine(CY _ _).af ?_;rintro e i ⟨rfl,d⟩;subst d;go_wp2_with fail
  refine(HC.o _).af ?_;rintro e j ⟨rfl,d⟩;subst d;go_wp2;go_ret;exact⟨rfl,rfl⟩
 ·have n:(((B (N a)).size:Int) !=((B (N b)).size:Int))=true:=by rw[bne_iff_ne];omega
  have H:Hid (Lib.compareInt (((B (N a)).size:Nat):Int) (((B (N b)).size:Nat):Int)=js (N a) (N b)):=by
   show _=_;rw[lg,lg] at h⊢;unfold Lib.compareInt js;rcases cT (N a) (N b) with c |c
   ·have:=UR (yo c);rw[aA al,aA c]
   ·have:=UR c;rw[aD al,aA al,aD al,aD (by intro e;rw[e] at h;exact h rfl)]
  clear h;go_enter Tryz.func108,Tryz.ntmps108;go_wp2_with fail
  refine(CY _ _).af ?_;rintro e g ⟨rfl,d⟩;subst d;go_wp2_with fail
  refine(CY _ _).af ?_;rintro e i ⟨rfl,d⟩;subst d;go_wp2_with fail
  refine(Tryz.cmp_Compare_int _ _ _).af ?_;rintro e j ⟨rfl,d⟩;subst d;go_wp2;go_ret;exact⟨z8 H.o,rfl⟩
def cG (xs ys:List Nat) (f:Nat):Nat ->List Nat×Nat×Nat
 |0=>([],0,0)
 |k+1=>((cG xs ys f k).1++[(xs[k]?.getD 0+2*W - ((cG xs ys f k).2.1+ys[k]?.getD 0*f) % W - (cG xs ys f k).2.2) % W],
   ((cG xs ys f k).2.1+ys[k]?.getD 0*f)/W,if xs[k]?.getD 0<((cG xs ys f k).2.1+ys[k]?.getD 0*f) % W+(cG xs ys f k).2.2 then 1 else 0)
theorem Yt (xs s:List Nat) (f k:Nat):(cG xs s f k).1.length=k:=by
 induction k with
 |zero=>rfl
 |succ k ih=>simp[cG,ih]
theorem afJ (xs s:List Nat) (f k:Nat):Small (cG xs s f k).1:=by
 induction k with
 |zero=>intro x h;simp[cG] at h
 |succ k ih=>
  intro x h;rw[cG] at h;rcases ck.1 h with h |h
  ·exact ih x h
  ·simp only[dT] at h;subst h;exact jQ _ lJ
theorem Yu (xs s:List Nat) (f k:Nat):(cG xs s f k).2.2<=1:=by
 cases k with
 |zero=>exact aV _
 |succ k=>
  rw[cG];show (if _ then 1 else 0)<=1;split<;>omega
theorem afL (xs s:List Nat) (f:Nat) (h:Small s) (d:f<W) (k:Nat):(cG xs s f k).2.1<W:=by
 induction k with
 |zero=>exact lJ
 |succ k ih=>
  rw[cG];refine FQ ?_;have a:=getD_lt h k;have b:s[k]?.getD 0*f<=(W - 1)*(W - 1):=iO al al;have c:(W - 1)*(W - 1)+W<=W*W:=bd
  omega
theorem afI (x c t b:Nat) (d:x<W) (a:b<=1):
  (x+2*W - (c+t) % W - b) % W+t+b+c=x+W*((c+t)/W+if x<(c+t) % W+b then 1 else 0):=by
 have e:=Nat.mod_add_div (c+t) W;have l:=jQ (c+t) lJ;generalize (c+t) % W=lo at *;generalize (c+t)/W=q at *;rw[kH];by_cases h:x<lo+b
 ·rw[aA h]
  have:(x+2*W - lo - b) % W=x+W - lo - b:=by
   rw[show x+2*W - lo - b=(x+W - lo - b)+W by omega,Nat.add_mod_right];exact kI al
  omega
 ·rw[aD h]
  have:(x+2*W - lo - b) % W=x - lo - b:=by
   rw[show x+2*W - lo - b=(x - lo - b)+W+W by omega,Nat.add_mod_right,Nat.add_mod_right];exact kI al
  omega
theorem afK (xs s:List Nat) (f:Nat) (x:Small xs) (k:Nat):
  nw (cG xs s f k).1+f*nw (s.take k)=nw (xs.take k)+W^k*((cG xs s f k).2.1+(cG xs s f k).2.2):=by
 rw[<- Gi xs k, <- Gi s k];induction k with
 |zero=>simp[cG,jn,mN]
 |succ k ih=>
  have h:=Yu xs s f k;have a:=afI (xs[k]?.getD 0) (cG xs s f k).2.1 (s[k]?.getD 0*f) (cG xs s f k).2.2 (getD_lt x k) h
  have e:f*(jn (fun j=>s[j]?.getD 0) k+W^k*s[k]?.getD 0)=f*jn (fun j=>s[j]?.getD 0) k+W^k*(s[k]?.getD 0*f):=by
   rw[kH,zR,dK f (s[k]?.getD 0)]
  rw[cG,jn,jn,B0,Yt,e];show _=_+W^(k+1)*(_+if _ then 1 else 0);rw[gJ,iP];generalize (xs[k]?.getD 0+2*W - ((cG xs s f k).2.1+s[k]?.getD 0*f) % W - (cG xs s f k).2.2) % W=d at *;generalize (((cG xs s f k).2.1+s[k]?.getD 0*f)/W+if xs[k]?.getD 0<((cG xs s f k).2.1+s[k]?.getD 0*f) % W+(cG xs s f k).2.2 then 1 else 0)=z at *;generalize (cG xs s f k).2.1=c at *;generalize (cG xs s f k).2.2=b at *;generalize s[k]?.getD 0*f=t at *;have:=dh (W^k*·) a;simp only[kH] at this ih⊢;omega
theorem U4 (t:Nat) (h:t<18446744073709551616):bits .and .u64 (t:Int) 4294967295=((t % 4294967296:Nat):Int):=by
 have e:(4294967295:Int)=((4294967295:Nat):Int):=rfl;rw[e,u64_and_nat t 4294967295 h al];congr 1
 exact Nat.and_two_pow_sub_one_eq_mod t 32
theorem Rh (x lo b:Nat) (c:x<4294967296) (l:lo<4294967296) (a:b<=1):
  IntKind.u64.wrap (IntKind.u64.wrap ((x:Int) - (lo:Int)) - (b:Int))/9223372036854775808=((if x<lo+b then 1 else 0:Nat):Int)/\
  IntKind.u64.wrap (IntKind.u64.wrap ((x:Int) - (lo:Int)) - (b:Int)) % 4294967296=(((x+2*W - lo - b) % W:Nat):Int):=by
 rw[MK,MK,ig];by_cases h:x<lo+b
 ·rw[aA h];have e:(((x:Int) - (lo:Int)) % 18446744073709551616 - (b:Int)) % 18446744073709551616=(x:Int) - (lo:Int) - (b:Int)+18446744073709551616:=al
  rw[e];omega
 ·rw[aD h];have e:(((x:Int) - (lo:Int)) % 18446744073709551616 - (b:Int)) % 18446744073709551616=(x:Int) - (lo:Int) - (b:Int):=al
  rw[e];omega
theorem XA (g h cap b R ja:Nat) (xs a:List Nat) (f:Nat) (w:World) (F:Small xs) (U:Small a) (D:f<W) (ax:xs.length<=35184372088832) (Aj:a.length<=xs.length) (hx:bs w g h xs) (hy:bs w b R a) (ai:b≠g):
  du 184 #[.slice (some ⟨g,h,none⟩) xs.length cap,.slice (some ⟨b,R,none⟩) a.length ja,.int .u32 (f:Nat)] w fun e w'=>∃(s:Nat) (l':List Nat),e=.returned (.bool (decide (s≠0)))/\l'.length=xs.length/\Small l'/\nw l'+f*nw a=nw xs+W^xs.length*s/\bs w' g h l'/\cD g h xs.length w w':=by
 have av:f<4294967296:=D;go_enter Tryz.func184,Tryz.ntmps184;go_wp2
 go_loopw [7,8,13] (fun c bo i wr=>∃k:Nat,k<=xs.length/\i=.int .i64 k/\c=.int .u64 ((cG xs a f k).2.1:Nat)/\bo=.int .u64 ((cG xs a f k).2.2:Nat)/\bs wr g h ((cG xs a f k).1++xs.drop k)/\cD g h xs.length w wr)
  (fun _ _ i _=>xs.length - (intOf i).toNat)
 case atStart=>exact⟨0,aV _,rfl,rfl,rfl,by simpa [cG] using hx,cD.refl _ _ _ _⟩
 case round=>
  obtain⟨k,hk,rfl,rfl,rfl,P,l⟩:=hrel;have A:=afL xs a f U D k;have V:=Yu xs a f k;have d:=Yt xs a f k;have t:=afJ xs a f k;have H:=aH (afK xs a f F k);rw[ig] at A;by_cases aj:k<xs.length
  ·have n:k<((cG xs a f k).1++xs.drop k).length:=by rw[bK,d,nN];omega
   have ab:=P.cell k n;have ah:=P.frozen (h+k);have O:=fun y=>P.set k n y;simp only[O8 _ xs k _ d aj] at O
   have T:((cG xs a f k).1++xs.drop k)[k]?.getD 0=xs[k]?.getD 0:=by
    rw[uQ al,d,mF,I2,gK]
   rw[T] at ab
   have r:Hid (cG xs a f (k+1)=((cG xs a f k).1++[(xs[k]?.getD 0+2*W - ((cG xs a f k).2.1+a[k]?.getD 0*f) % W - (cG xs a f k).2.2) % W],
    ((cG xs a f k).2.1+a[k]?.getD 0*f)/W,if xs[k]?.getD 0<((cG xs a f k).2.1+a[k]?.getD 0*f) % W+(cG xs a f k).2.2 then 1 else 0)):=rfl
   have z:=getD_lt F k;have Q:=getD_lt U k;have J:a[k]?.getD 0*f<=4294967295*4294967295:=iO (by rw[ig] at Q;omega) (by rw[ig] at D;omega);rw[ig] at z Q;by_cases Th:k<a.length
   ·have ao:=(hy.apart l ai).cell k Th;generalize (cG xs a f k).2.1=c at *;generalize (cG xs a f k).2.2=bo at *;generalize (cG xs a f k).1=q at *;generalize xs[k]?.getD 0=x at *;generalize a[k]?.getD 0=y at *;(have mg:(y:Int)*(f:Int)<=18446744065119617025:=by rw[<- lW];omega);(have Eo:0<=(y:Int)*(f:Int):=by rw[<- lW];omega);obtain⟨lo,L⟩:∃lo,lo=(c+y*f) % 4294967296:=⟨_,rfl⟩
    have an:bits .and .u64 ((c:Int)+(y:Int)*(f:Int)) 4294967295=(lo:Int):=by
     have:=U4 (c+y*f) al;rw[<- L] at this;rw[<- this,yB,lW]
    (have ad:lo<4294967296:=al);have VR:=aH L;have Y:=aH O;clear O T n P H L J;go_wp2;obtain⟨v,p⟩:=Rh x lo bo z ad V;rw[v,p];have M:Value.int .u64 (((c:Int)+(y:Int)*(f:Int))/4294967296)=.int .u64 (((c+y*f)/W:Nat):Int):=int_eq (by rw[ig,yA,yB,lW];rfl);rw[M];have m:=Y.o ((x+2*W - lo - bo) % W);have k6:Hid ((c+y*f) % W=lo):=VR.o.symm;have u:=r.o;rw[k6.o] at u;go_roundw
    case rel=>exact⟨k+1,al,b5,by rw[u],by rw[u],by rw[u];exact m,l.trans (cD.setCell (My _ _) al _)⟩
    case measure=>simp[intOf];omega
   ·have S:a[k]?.getD 0=0:=by rw[jA al];rfl
    by_cases I:(cG xs a f k).2.1=0/\(cG xs a f k).2.2=0
    ·obtain⟨X,Z⟩:=I
     have E:Hid (nw ((cG xs a f k).1++xs.drop k)+f*nw a=nw xs):=by
      show _=_;have e:=H.o;rw[X,Z,ll,gK,lT (show a.length<=k by omega)] at e;have e2:=sN xs k hk;rw[Af,d];omega
     have ak:=yK t (Js F k);(have dD:((cG xs a f k).1++xs.drop k).length=xs.length:=by rw[bK,d,nN];omega);rw[X,Z];generalize (cG xs a f k).1++xs.drop k=q at *;clear O ab ah r T n H J;go_wp2;go_ret;exact⟨0,q,rfl,dD,ak,by rw[E.o,ll,gK],P,l⟩
    ·have u:=r.o;simp only[S,jO,gK] at u;generalize (cG xs a f k).2.1=c at *;generalize (cG xs a f k).2.2=bo at *;generalize (cG xs a f k).1=q at *;generalize xs[k]?.getD 0=x at *;have aa:c % W=c:=kI A;simp only[aa] at u
     have an:bits .and .u64 (c:Int) 4294967295=(c:Int):=by
      have:=U4 c al;rwa [kI A] at this
     have j:=aH u;have Y:=aH O;clear O T n P H S J r u aa;by_cases K:c=0
     ·subst K;(have ae:bo=1:=al);subst ae;clear I;go_wp2;obtain⟨v,p⟩:=Rh x 0 1 z al al;have hz:bits .and .u64 0 4294967295=((0:Nat):Int):=U4 0 al;rw[hz,show IntKind.u64.wrap (IntKind.u64.wrap ((x:Int) - ((0:Nat):Int)) - 1)=IntKind.u64.wrap (IntKind.u64.wrap ((x:Int) - ((0:Nat):Int)) - ((1:Nat):Int)) from rfl,v,p];have m:=Y.o ((x+2*W - 0 - 1) % W);go_roundw
      case rel=>exact⟨k+1,al,b5,by rw[j.o];rfl,by rw[j.o],by rw[j.o];exact m,l.trans (cD.setCell (My _ _) al _)⟩
      case measure=>simp[intOf];omega
     ·have af:((c:Int)==0)=false:=by rw[FP];omega
      clear I;go_wp2;obtain⟨v,p⟩:=Rh x c bo z A V;rw[v,p];have M:Value.int .u64 ((c:Int)/4294967296)=.int .u64 ((c/W:Nat):Int):=int_eq (by rw[ig];omega);have m:=Y.o ((x+2*W - c - bo) % W);rw[M];go_roundw
      case rel=>exact⟨k+1,al,b5,by rw[j.o],by rw[j.o],by rw[j.o];exact m,l.trans (cD.setCell (My _ _) al _)⟩
      case measure=>simp[intOf];omega
  ·obtain rfl:k=xs.length:=al
   rw[List.drop_length,BP] at P
   have E:Hid (nw (cG xs a f xs.length).1+f*nw a=nw xs+W^xs.length*((cG xs a f xs.length).2.1+(cG xs a f xs.length).2.2)):=by
    show _=_;have e:=H.o;rwa [jR,lT Aj] at e
   generalize (cG xs a f xs.length).1=q at *;generalize (cG xs a f xs.length).2.1=c at *;generalize (cG xs a f xs.length).2.2=bo at *;clear H;by_cases K:c=0
   ·subst K;rcases (show bo=0∨bo=1 by omega) with rfl |rfl
    ·go_wp2;go_ret;exact⟨0,q,rfl,d,t,E.o,P,l⟩
    ·go_wp2;go_ret;exact⟨1,q,rfl,d,t,E.o,P,l⟩
   ·have af:((c:Int) !=0)=true:=by rw[bne_iff_ne];omega
    go_wp2;go_ret;exact⟨c+bo,q,af1 (by symm;rw[IG];omega),d,t,E.o,P,l⟩
theorem ad7 (h:m<=n):(words m).length<=(words n).length:=by
 rw[MS,MS];have:=UR h;omega
theorem anb (a b:ByteArray) (w:World) (h:N a<N b):
  du 128 #[.string a,.string b] w (eS w (.tuple #[.string ⟨#[]⟩,.bool false])):=by
 have d:js (N a) (N b)= -1:=by rw[js,aA h]
 have c:=fun V=>WG a b V;simp only[d] at c;have HC:=aH c;clear c d;go_enter Tryz.func128,Tryz.ntmps128;go_wp2_with fail
 refine(HC.o _).af ?_;rintro e g ⟨rfl,f⟩;subst f;go_wp2;go_ret2;exact⟨rfl,au _ _⟩
theorem am9 (a b:ByteArray) (w:World) (S:a.size<=1099511627776) (U:b.size<=1099511627776) (h:N b<=N a):
  du 128 #[.string a,.string b] w (eS w (.tuple #[.string (B (N a - N b)),.bool true])):=by
 have X:0<=js (N a) (N b):=by
  rw[js,aD al];split<;>omega
 have m:=fun V=>WG a b V;generalize js (N a) (N b)=R at *;have HC:=aH m;clear m;have Y:=yE a 274877906944 al;have Z:=yE b 274877906944 al;go_enter Tryz.func128,Tryz.ntmps128;go_wp2_with fail
 refine(HC.o _).af ?_;rintro e w0 ⟨rfl,F⟩;subst F;go_wp2_with fail
 refine(yJ a _ al).af ?_;rintro e q ⟨g,z,rfl,c,t⟩;go_wp2_with fail
 refine(yJ b _ al).af ?_;rintro e K ⟨k,D,rfl,f,i⟩;have p:=xq c i;have v:=xq f (au _ _);have A:=c.aa i (aq _);have ab:g<q.heap.size:=(xq c (au _ _)).lt
 have ad:q.heap.size<=k:=by
  rcases f.cases with ⟨e,_⟩ |⟨g',Q,e,_,j,_⟩
  ·cases e
  ·cases e;exact j
 have O:w0.heap.size<=g:=by
  rcases c.cases with ⟨e,_⟩ |⟨g',Q,e,_,j,_⟩
  ·cases e
  ·cases e;exact j
 have r:ef w0 K:=t.trans (i.af t.size);go_wp2_with fail
 refine(XA g 0 z k 0 D _ _ 1 _ (mK _) (mK _) bd al (ad7 h) p v al).af ?_;rintro e L ⟨s,l,rfl,d,y,n,J,u⟩
 have x:s=0:=by
  have P:=vh l y;rw[d] at P;rw[kK,kK] at n;rcases yq s with e |e
  ·exact e
  ·have:W^(words (N a)).length*1<=W^(words (N a)).length*s:=jg _ e;omega
 have H:Hid (nw l=N a - N b):=by
  show _=_;rw[kK,kK,x] at n;omega
 have E:=A.upd u J d;have T:ef w0 L:=cD.aa r u O r.size;have I:=aH d;clear n d p v A J u c f x;go_wp2_with fail
 refine(OX _ _ _ _ y (by rw[I.o];omega) E).af ?_;rintro e w4 ⟨rfl,M⟩;go_wp2;go_ret2;exact⟨by rw[H.o];rfl,T.trans (M.af T.size)⟩
def iz (x:Nat) (ys p:List Nat) (i j:Nat):Nat:=x*ys[j]?.getD 0+p[i+j]?.getD 0
theorem Yy (x:Nat) (s p:List Nat) (i:Nat) (f:x<W) (y:Small s) (a:Small p) (k:Nat):(acc (iz x s p i) k).2<W:=by
 have h:=U9 (iz x s p i) (W - 1) k fun j _=>by
  have b:=getD_lt y j;have c:=getD_lt a (i+j);have d:x*s[j]?.getD 0<=(W - 1)*(W - 1):=iO al al;have e:(W - 1)*(W - 1)+W+W<=W*W+1:=bd
  unfold iz;rw[QE lJ];omega
 have:=lJ;omega
theorem afS (x:Nat) (s p:List Nat) (i:Nat):jn (iz x s p i) s.length=x*nw s+nw ((p.drop i).take s.length):=by
 rw[show iz x s p i=fun j=>(fun j=>x*(fun j=>s[j]?.getD 0) j) j+(fun j=>p[i+j]?.getD 0) j from rfl,ZA,Zy,Zz s _ (aq _)];congr 1
 rw[<- Gi];exact ahH fun j _=>by rw[I2]
def yT (x:Nat) (ys p:List Nat) (i:Nat):List Nat:=p.take i++((acc (iz x ys p i) ys.length).1++[(acc (iz x ys p i) ys.length).2])++p.drop (i+(ys.length+1))
theorem Zx (p:List Nat) (k:Nat) (h:∀j,k<=j ->p[j]?.getD 0=0):nw (p.drop k)=0:=by
 have:p.drop k=List.replicate (p.drop k).length 0:=by
  apply sI
  ·simp
  ·intro j a b;have:=h (k+j) al;rw[nN] at a;rw[bj al] at this;simpa using this
 rw[this,RZ]
theorem aij (x:Nat) (s p:List Nat) (i:Nat) (k:x<W) (y:Small s) (h:Small p) (m:i+s.length<p.length) (a:∀j,i+s.length<=j ->p[j]?.getD 0=0):
  (yT x s p i).length=p.length/\Small (yT x s p i)/\nw (yT x s p i)=nw p+W^i*(x*nw s)/\∀j,i+1+s.length<=j ->(yT x s p i)[j]?.getD 0=0:=by
 have l:=Ld (iz x s p i) s.length;have v:(p.take i).length=i:=by rw[eE];omega
 have X:(p.take i++((acc (iz x s p i) s.length).1++[(acc (iz x s p i) s.length).2])).length=i+(s.length+1):=by
  rw[bK,bK,v,l];rfl
 refine⟨?_,?_,?_,?_⟩
 ·rw[yT,bK,X,nN];omega
 ·refine yK (yK (F3 h i) (yK (U7 _ _) ?_)) (Js h _);intro z c;simp only[dT] at c;subst c;exact Yy x s p i k y h _
 ·have e:=U8 (iz x s p i) s.length;rw[afS] at e;have d:=sN p i al;have b:=sN (p.drop i) s.length (by rw[nN];omega);rw[List.drop_drop,Zx p (i+s.length) a,ll,gK] at b;have f:=Zx p (i+(s.length+1)) (fun j g=>a j al);rw[yT,Af,f,ll,gK,Af,v,B0,l,e,d,b,kH];omega
 ·intro j g;rw[yT,uQ al,X,I2];exact a _ al
theorem cD.drewN {f:Nat} {a b:World} (h:cD g f n a b) (k:Nat):cD g f n a (b.drewN k):=⟨⟨h.grown.os,h.grown.tape,h.grown.output,h.grown.size,h.grown.block⟩,h.inside⟩
theorem bs.drewN {f:Nat} {l:List Nat} (h:bs w g f l) (k:Nat):bs (w.drewN k) g f l:=h
theorem aeI (R kT T ja:Nat) (xs a:List Nat) (w:World) (iA:Small xs) (F:Small a) (bh:xs.length<=8796093022208) (bk:a.length<=8796093022208) (Z:bs w R 0 xs) (hy:bs w T 0 a):
  du 166 #[.slice (some ⟨R,0,none⟩) xs.length kT,.slice (some ⟨T,0,none⟩) a.length ja] w fun e w'=>∃v l,e=.returned v/\Has w' w.heap.size v l/\Small l/\l.length=xs.length+a.length/\nw l=nw xs*nw a/\ef w w':=by
 obtain⟨i0,hi,a1,a6,a7⟩:=dJ Tryz.infoU32;have ay:=Z.lt;have bV:=hy.lt;go_enter Tryz.func166,Tryz.ntmps166
 go_wp2_with (first
  |(at_make;refine lj _ rfl _ _ 125 rfl w.heap.size 140 i0 (.int .u32 0) 1 Tryz.underlying125 hi a1 a6 .i64 .i64 _ _ (xs.length+a.length) rfl rfl al al (by rw[a7];omega) (by unfold maxLen;omega) (aq _) ?_;intro u ah ai;have H:=qg ah;rw[JJ] at H;have Q:=aH H;have D:ef w u:=(au _ w).grown ai (aq _) (fun k e=>by cases e);have aS:=Z.aa D ay;have aT:=hy.aa D bV;clear ah ai H))
 have az:=NQ Q.o
 go_loopw [17] (fun i wr=>∃(k:Nat) (p:List Nat),k<=xs.length/\i=.int .i64 k/\p.length=xs.length+a.length/\Small p/\Hid (nw p=nw (xs.take k)*nw a)/\Hid (∀j,k+a.length<=j ->p[j]?.getD 0=0)/\bs wr w.heap.size 0 p/\cD w.heap.size 0 (xs.length+a.length) u wr)
  (fun i _=>xs.length - (intOf i).toNat)
 case atStart=>exact⟨0,_,aV _,rfl,aE,Ye _,by show _=_;rw[RZ];simp[mN],fun j _=>by rw[QM];split<;>rfl,az,cD.refl _ _ _ _⟩
 case round=>
  obtain⟨k,p,hk,rfl,E,h,U,aC,P,r⟩:=hrel;obtain⟨A,rfl⟩:∃A:World,A=wr:=⟨_,rfl⟩;by_cases I:k<xs.length
  ·have o6:=fun V (hV:cD w.heap.size 0 (xs.length+a.length) u V)=>(aS.apart hV al).cell k I;have t:=getD_lt iA k;have ab:=aij (xs[k]?.getD 0) a p k t F h al aC.o
   have X:Hid (nw (xs.take (k+1))=nw (xs.take k)+W^k*xs[k]?.getD 0):=by
    show _=_;rw[R3 xs k I,bj I];rfl
   generalize xs[k]?.getD 0=x at *;have ak:=aH o6;have q8:=aH ab;(have af:bs A w.heap.size 0 (p.take k++(acc (iz x a p k) 0).1++p.drop (k+0)):=by simpa [acc] using P);clear o6 ab;go_wp2
   go_loopw [7,22] (fun c j wr=>∃m:Nat,m<=a.length/\j=.int .i64 m/\c=.int .u64 ((acc (iz x a p k) m).2:Nat)/\bs wr w.heap.size 0 (p.take k++(acc (iz x a p k) m).1++p.drop (k+m))/\cD w.heap.size 0 (xs.length+a.length) u wr)
    (fun _ j _=>a.length - (intOf j).toNat)
   case atStart=>exact⟨0,aV _,rfl,rfl,af,r⟩
   case round=>
    obtain⟨m,hm,rfl,rfl,b,g⟩:=hrel;have xj:=Yy x a p k t F h m;have f:=Ld (iz x a p k) m;(have S:(p.take k).length=k:=by rw[eE];omega);rw[ig] at xj;by_cases S9:m<a.length
    ·have d:k+m<(p.take k++(acc (iz x a p k) m).1++p.drop (k+m)).length:=by rw[bK,bK,S,f,nN];omega
     have J:=b.cell (k+m) d;have ax:=b.frozen (k+m);rw[afH _ _ _ k m S f,bB] at J;have O:=fun z n=>(b.drewN n).set (k+m) d z;simp only[Ys _ _ p k m _ S f al,bB] at O;have ao:=ak.o wr g;rw[bB] at ao;have an:=(aT.apart g al).cell m S9;rw[bB] at an;have K:=getD_lt F m;have jV:=getD_lt h (k+m);have M:Hid (acc (iz x a p k) (m+1)=((acc (iz x a p k) m).1++[((acc (iz x a p k) m).2+iz x a p k m) % W],((acc (iz x a p k) m).2+iz x a p k m)/W)):=rfl;have L:Hid (iz x a p k m=x*a[m]?.getD 0+p[k+m]?.getD 0):=rfl;have JR:x*a[m]?.getD 0<=4294967295*4294967295:=iO (by rw[ig] at t;omega) (by rw[ig] at K;omega);rw[ig] at K jV;have bb:x<4294967296:=t;generalize (acc (iz x a p k) m).2=c at *;generalize (acc (iz x a p k) m).1=q at *;generalize iz x a p k m=s at *;generalize a[m]?.getD 0=y at *;generalize p[k+m]?.getD 0=z at *;(have mg:(x:Int)*(y:Int)<=18446744065119617025:=by rw[<- lW];omega);(have Eo:0<=(x:Int)*(y:Int):=by rw[<- lW];omega);(have bf:(k:Int)<(xs.length:Int):=al);(have bl:(m:Int)<(a.length:Int):=al);(have bd:(k:Int)+(m:Int)<(xs.length:Int)+(a.length:Int):=al);(have bc:((k:Int)+(m:Int)).toNat=k+m:=al);have Y:=aH O;clear O d b JR;go_wp2_with fail
     go_quiet (fail)
     go_wp2;have hv:Value.int .u32 (((c:Int)+((x:Int)*(y:Int)+(z:Int))) % 4294967296)=.int .u32 (((c+s) % W:Nat):Int):=int_eq (by rw[ig,L.o,yz,yB,yB,lW];rfl);have aO:Value.int .u64 (((c:Int)+((x:Int)*(y:Int)+(z:Int)))/4294967296)=.int .u64 (((c+s)/W:Nat):Int):=int_eq (by rw[ig,L.o,yA,yB,yB,lW];rfl);rw[hv,aO];have hq:=Y.o ((c+s) % W) nq;go_roundw
     case rel=>exact⟨m+1,al,b5,by rw[M.o],by rw[M.o];exact hq,(g.drewN nq).trans (cD.setCell (aV _) al _)⟩
     case measure=>simp[intOf];omega
    ·obtain rfl:m=a.length:=al
     (have d:k+a.length<(p.take k++(acc (iz x a p k) a.length).1++p.drop (k+a.length)).length:=by rw[bK,bK,S,f,nN];omega);have J:=b.cell (k+a.length) d;have ax:=b.frozen (k+a.length);rw[bB] at J;have O:=b.set (k+a.length) d (acc (iz x a p k) a.length).2;rw[Ys _ _ p k a.length _ S f al,bB] at O;change bs _ _ _ (yT x a p k) at O
     have Y:=aH O;(have bg:((k:Int)+(a.length:Int)).toNat=k+a.length:=al);generalize (p.take k++(acc (iz x a p k) a.length).1++p.drop (k+a.length))[k+a.length]?.getD 0=bm at *;generalize (acc (iz x a p k) a.length).2=c at *;obtain⟨s1,s2,s3,s4⟩:=q8.o
     have E0:Hid (nw (yT x a p k)=nw (xs.take (k+1))*nw a):=by
      show _=_;rw[s3,U.o,X.o,fF,iP]
     have j8:=aH s1;have qi:=aH s2;have aj:=aH s4;generalize yT x a p k=p2 at *;clear O d b q8 s1 s2 s3 s4 X af P;go_wp2;go_roundw
     case rel=>exact⟨k+1,p2,al,b5,by rw[j8.o,E],qi.o,E0,fun j hj=>aj.o j al,Y.o,g.trans (cD.setCell (aV _) al _)⟩
     case measure=>simp[intOf];omega
  ·obtain rfl:k=xs.length:=al
   obtain⟨av,ad,ae,_⟩:=r.inside _ Q.o;have pW:=JD (base:=w.heap.size) (cap:=xs.length+a.length) av ad (by rw[ae];simp) (aq _) (by unfold maxLen;omega) al P;have fh:ef w A:=cD.aa D r (aq _) D.size;have po:=aH E;rw[E] at pW;clear E ad ae P r;go_wp2;go_ret;exact⟨_,p,rfl,by rw[Has,po.o];exact pW,h,po.o,by have:=U.o;rwa [jR] at this,fh⟩
theorem Li (a b:ByteArray) (w:World) (A:a.size<=1099511627776) (D:b.size<=1099511627776):
  du 107 #[.string a,.string b] w (eS w (.string (B (N a*N b)))):=by
 have E:=yE a 274877906944 al;have F:=yE b 274877906944 al;go_enter Tryz.func107,Tryz.ntmps107;go_wp2_with fail
 refine(yJ a _ al).af ?_;rintro e I ⟨k,g,rfl,n,c⟩;go_wp2_with fail
 refine(yJ b _ al).af ?_;rintro e s ⟨m,i,rfl,p,d⟩;have r:=xq n d;have y:=xq p (au _ _);have h:ef w s:=c.trans (d.af c.size);go_wp2_with fail
 refine(aeI k g m i _ _ _ (mK _) (mK _) al al r y).af ?_;rintro e t ⟨v,l,rfl,q,z,j,f,u⟩;have T:ef w t:=h.trans (u.af h.size);have V:=aH f;have H:=aH j;clear f j;go_wp2_with fail
 refine(OX _ _ _ _ z (by rw[H.o];omega) q).af ?_;rintro e J ⟨rfl,x⟩;go_wp2;go_ret;exact⟨by rw[V.o,kK,kK];rfl,T.trans (x.af T.size)⟩
theorem ac4 (n:Int) (w:World) (h0: -9223372036854775808<=n) (h1:n<=9223372036854775807):
  du 44 #[.int .i64 n] w (eS w (.string (B n.toNat))):=by
 have h:=fun V=>Zw n.toNat V al;by_cases c:0<=n
 ·obtain⟨m,rfl⟩:=Int.eq_ofNat_of_zero_le c;rw[rD] at h⊢;have H:=aH h;have x:max (m:Int) 0=(m:Int):=al
  clear h;go_enter Tryz.func44,Tryz.ntmps44;go_wp2_with fail
  refine(H.o _).af ?_;rintro e d ⟨rfl,b⟩;go_wp2;go_ret;exact⟨rfl,b⟩
 ·have a:n.toNat=0:=al
  rw[a] at h⊢;have H:=aH h;have x:max n 0=0:=al
  clear h a;go_enter Tryz.func44,Tryz.ntmps44;go_wp2_with fail
  refine(H.o _).af ?_;rintro e d ⟨rfl,b⟩;go_wp2;go_ret;exact⟨rfl,b⟩
theorem akD (a b:Nat) (w:World) (d:a<18446744073709551616) (e:b<18446744073709551616):
  du 119 #[.int .u64 (a:Nat),.int .u64 (b:Nat)] w (eS w (.int .u64 (Nat.gcd a b:Nat))):=by
 go_enter Tryz.func119,Tryz.ntmps119;go_wp2;go_loopw [0,1] (fun x y wr=>∃m n:Nat,x=.int .u64 m/\y=.int .u64 n/\m<18446744073709551616/\n<18446744073709551616/\Hid (Nat.gcd m n=Nat.gcd a b)/\ef w wr) (fun _ y _=>(intOf y).toNat)
 case atStart=>exact⟨a,b,rfl,rfl,d,e,rfl,au _ _⟩
 case round=>
  obtain⟨m,n,rfl,rfl,i,f,g,h⟩:=hrel;by_cases c:n=0
  ·subst c;go_wp2;go_ret;exact⟨z8 (by rw[<- g.o,Nat.gcd_zero_right]),h⟩
  ·have k:((n:Int) !=0)=true:=by rw[bne_iff_ne];omega
   (have p:((n:Int)==0)=false:=by rw[FP];omega);(have j:¬(n:Int)=0:=al);(have l:0<n:=al);have r:m % n<n:=jQ _ l;(have H:Hid (Nat.gcd n (m % n)=Nat.gcd a b):=by show _=_;rw[<- g.o, <- IU (m % n) n, <- Nat.gcd_rec,IU]);go_wp2_with fail
   go_region
   all_goals go_wp2
   rw[show ((m:Int) % (n:Int))=((m % n:Nat):Int) from (yz m n).symm];go_roundw
   case rel=>exact⟨n,m % n,rfl,rfl,f,al,H,h.drew⟩
   case measure=>simp[intOf];omega
theorem ahu (a b:Nat) (h:a<4294967296) (d:b<4294967296):bits .or .u64 (a:Int) ((b:Int)*4294967296)=((a+b*4294967296:Nat):Int):=by
 have e:(b:Int)*4294967296=((b*4294967296:Nat):Int):=al
 rw[e,u64_or_nat _ _ al al];congr 1
 have:=nat_join 32 (b*4294967296) a al al;have c:a |||b*4294967296=b*4294967296 |||a:=Nat.or_comm _ _;omega
theorem or_zero (a:Nat) (h:a<4294967296):bits .or .u64 0 (a:Int)=(a:Int):=by
 have:=u64_or_nat 0 a al al;rw[show ((0:Nat):Int)=0 from rfl] at this;rw[this,Nat.zero_or]
theorem Xb (g cap:Nat) (l:List Nat) (w:World) (s:Small l) (n:l.length<=2) (d:bs w g 0 l):
  du 120 #[.slice (some ⟨g,0,none⟩) l.length cap] w fun e w'=>e=.returned (.int .u64 (nw l:Nat))/\w'=w:=by
 match l,n with
 |[],_=>
  go_enter Tryz.func120,Tryz.ntmps120;go_wp2;refine IB 1 ?_;rw[qA];go_wp2;go_ret;exact⟨rfl,rfl⟩
 |[a],_=>
  have c:=d.cell 0 aE;have h:a<4294967296:=s a aE;have o:=or_zero a h;simp only[bB,List.getElem?_cons_zero,mE] at c;go_enter Tryz.func120,Tryz.ntmps120;go_wp2;refine IB 2 ?_;rw[qA];go_wp2;rw[qA];go_wp2;go_ret;exact⟨z8 (by simp[kL,mN]),rfl⟩
 |[a,b],_=>
  have c:=d.cell 0 aE;have f:=d.cell 1 aE;have h:a<4294967296:=s a aE;have i:b<4294967296:=s b aE;have o:=or_zero a h;have j:=ahu a b h i;simp only[bB,List.getElem?_cons_zero,List.getElem?_cons_succ,mE] at c f;go_enter Tryz.func120,Tryz.ntmps120;go_wp2;refine IB 3 ?_;rw[qA];go_wp2;rw[qA];go_wp2;rw[qA];go_wp2;go_ret;exact⟨z8 (by simp only[kL,mN,ig];omega),rfl⟩
def jk (xs:List Nat) (s j:Nat):Nat:=2^s*xs[j]?.getD 0
theorem afx (xs:List Nat) (s:Nat):jn (jk xs s) xs.length=2^s*nw xs:=by
 rw[show jk xs s=fun j=>2^s*(fun j=>xs[j]?.getD 0) j from rfl,Zy,Zz xs _ (aq _)]
theorem Yn (xs:List Nat) (x:Small xs) (s k:Nat):(acc (jk xs s) k).2<2^s:=by
 have p:0<2^s:=nI bd
 have h:=U9 (jk xs s) (2^s - 1) k fun j _=>by
  have a:=getD_lt x j;have b:2^s*(xs[j]?.getD 0+1)<=2^s*W:=jg _ a;rw[kH] at b;unfold jk;rw[QE p];omega
 omega
theorem Nl (h:s<32):2^s<=2147483648:=by
 have:2^s<=2^31:=kE bd al;simpa using this
theorem afs (c x s:Nat) (a:s<32) (h:c<2^s) (b:x<4294967296):bits .or .u64 (c:Int) (IntKind.u64.wrap ((x:Int)*2^s))=((c+2^s*x:Nat):Int):=by
 have p:=Nl a;have m:x*2^s<=4294967295*2147483648:=iO al p
 have e:IntKind.u64.wrap ((x:Int)*2^s)=((x*2^s:Nat):Int):=by
  rw[MK,show ((x:Int)*2^s)=((x*2^s:Nat):Int) by simp];omega
 rw[e,u64_or_nat _ _ al al,Nat.or_comm,nat_join s _ _ (Nat.mul_mod_left _ _) h];congr 1
 rw[dK];omega
theorem Yl (E kT:Nat) (xs:List Nat) (s:Nat) (w:World) (m:Small xs) (h:s<32) (aO:xs.length<=8796093022208) (K:bs w E 0 xs):
  du 178 #[.slice (some ⟨E,0,none⟩) xs.length kT,.int .i64 (s:Nat)] w fun e w'=>∃v l,e=.returned v/\Has w' w.heap.size v l/\Small l/\l.length=xs.length+1/\nw l=2^s*nw xs/\ef w w':=by
 obtain⟨i0,hi,av,ax,ay⟩:=dJ Tryz.infoU32;have ai:=K.lt;go_enter Tryz.func178,Tryz.ntmps178
 go_wp2_with (first
  |(at_make;refine lj _ rfl _ _ 125 rfl w.heap.size 140 i0 (.int .u32 0) 1 Tryz.underlying125 hi av ax .i64 .i64 _ _ (xs.length+1) rfl rfl al al (by rw[ay];omega) (by unfold maxLen;omega) (aq _) ?_;intro n Z ab;have u:=qg Z;rw[JJ] at u;have A:=aH u;have r:ef w n:=(au _ w).grown ab (aq _) (fun k e=>by cases e);have ao:=K.aa r ai;clear Z ab u))
 have aj:=NQ A.o
 go_loopw [6,15] (fun c i wr=>∃k:Nat,k<=xs.length/\i=.int .i64 k/\c=.int .u64 ((acc (jk xs s) k).2:Nat)/\bs wr w.heap.size 0 ((acc (jk xs s) k).1++(List.replicate (xs.length+1) 0).drop k)/\cD w.heap.size 0 (xs.length+1) n wr)
  (fun _ i _=>xs.length - (intOf i).toNat)
 case atStart=>exact⟨0,aV _,rfl,rfl,by simpa [acc] using aj,cD.refl _ _ _ _⟩
 case round=>
  obtain⟨k,hk,rfl,rfl,P,d⟩:=hrel;have a:=Ld (jk xs s) k;by_cases ak:k<xs.length
  ·have o6:=(ao.apart d al).cell k ak;rw[bB] at o6;(have b:k<((acc (jk xs s) k).1++(List.replicate (xs.length+1) 0).drop k).length:=by rw[bK,a,nN,BF];omega);have D:=P.cell k b;have ah:=P.frozen k;have O:=fun y=>P.set k b y;rw[bB] at D;simp only[O8 _ (List.replicate (xs.length+1) 0) k _ a (by simp;omega),bB] at O;have Y:=getD_lt m k;have g:=Yn xs m s k;have H:Hid (acc (jk xs s) (k+1)=((acc (jk xs s) k).1++[((acc (jk xs s) k).2+jk xs s k) % W],((acc (jk xs s) k).2+jk xs s k)/W)):=rfl;have F:Hid (jk xs s k=2^s*xs[k]?.getD 0):=rfl;rw[ig] at Y;have R:=afs (acc (jk xs s) k).2 (xs[k]?.getD 0) s h g Y;have I:2^s*xs[k]?.getD 0<=2147483648*4294967295:=iO (Nl h) al;have p:=Nl h;rw[<- F.o] at R I;generalize jk xs s k=f at *;generalize (acc (jk xs s) k).2=c at *;generalize (acc (jk xs s) k).1=q at *;generalize xs[k]?.getD 0=x at *;generalize (q++(List.replicate (xs.length+1) 0).drop k)[k]?.getD 0=az at *;obtain⟨t,j⟩:∃t,t=c+f:=⟨_,rfl⟩;rw[<- j] at R;(have vw:t<18446744073709551615:=al);have T:=aH j;have kY:=aH O;(have V:c<4294967296:=al);clear O b P j I p g F;go_wp2;have hv:Value.int .u32 ((t:Int) % 4294967296)=.int .u32 (((c+f) % W:Nat):Int):=int_eq (by rw[ig, <- T.o];omega);have an:Value.int .u64 ((t:Int)/4294967296)=.int .u64 (((c+f)/W:Nat):Int):=int_eq (by rw[ig, <- T.o];omega);rw[hv,an];have hq:=kY.o ((c+f) % W);go_roundw
   case rel=>exact⟨k+1,al,b5,by rw[H.o],by rw[H.o];exact hq,d.trans (cD.setCell (aV _) al _)⟩
   case measure=>simp[intOf];omega
  ·obtain rfl:k=xs.length:=al
   (have b:xs.length<((acc (jk xs s) xs.length).1++(List.replicate (xs.length+1) 0).drop xs.length).length:=by rw[bK,a,nN,BF];omega);have D:=P.cell xs.length b;have ah:=P.frozen xs.length;have O:=P.set xs.length b (acc (jk xs s) xs.length).2;rw[O8 _ (List.replicate (xs.length+1) 0) xs.length _ a aE,DG aE,BP,bB] at O;rw[bB] at D;have g:=Yn xs m s xs.length;have p:=Nl h;have HE:=aH (U8 (jk xs s) xs.length);have sT:=U7 (jk xs s) xs.length;have F:=aH (afx xs s);obtain⟨aC,af,Kk,_⟩:=d.inside _ A.o;generalize ((acc (jk xs s) xs.length).1++(List.replicate (xs.length+1) 0).drop xs.length)[xs.length]?.getD 0=az at *;generalize (acc (jk xs s) xs.length).2=c at *;generalize (acc (jk xs s) xs.length).1=q at *;(have V:c<4294967296:=al);have J:cD w.heap.size 0 (xs.length+1) n (wr.setCell ⟨w.heap.size,xs.length,none⟩ (.int .u32 (c:Nat))):=d.trans (cD.setCell (aV _) al _);obtain⟨ae,X,U,_⟩:=J.inside _ A.o;(have S:(q++[c]).length=xs.length+1:=by rw[bK,a];rfl);have Q:=JD (base:=w.heap.size) (cap:=xs.length+1) ae X (by rw[U];simp) (aq _) (by unfold maxLen;omega) al O;have fh:=cD.aa r J (aq _) r.size;have HO:=aH Q;have L:=aH S;have ad:=aH a;clear O b P af Kk X U Q J S a p g;go_wp2;go_ret;refine⟨_,q++[c],rfl,?_,?_,L.o,?_,fh⟩
   ·rw[Has,L.o];have:=HO.o;rwa [L.o] at this
   ·exact yK sT (fun z M=>by simp at M;subst M;exact V)
   ·rw[B0,ad.o,HE.o,F.o]
def nU (s:Nat):List Nat ->List Nat
 |[]=>[]
 |x::r=>(x+W*r[0]?.getD 0)/2^s % W::nU s r
theorem afw (s:Nat) (l:List Nat):(nU s l).length=l.length:=by
 induction l with
 |nil=>rfl
 |cons x r ih=>rw[nU,ew,ih,ew]
theorem Ym (s:Nat) (l:List Nat):Small (nU s l):=by
 induction l with
 |nil=>intro x a;simp[nU] at a
 |cons x r ih=>
  intro y h;rw[nU] at h;rcases dU.1 h with rfl |h
  ·exact jQ _ lJ
  ·exact ih y h
theorem ahF (l:List Nat) (h:Small l):nw l % W=l[0]?.getD 0:=by
 cases l with
 |nil=>rfl
 |cons x r=>rw[kL,WL];exact kI (h x dp)
theorem am6 (h:s<=32):W=2^s*2^(32 - s):=by rw[<- wC,show s+(32 - s)=32 by omega];rfl
theorem afv (s:Nat) (o:s<=32) (l:List Nat) (d:Small l):nw (nU s l)=nw l/2^s:=by
 induction l with
 |nil=>simp[nU,mN]
 |cons x r ih=>
  have f:Small r:=fun y p=>d y (dF _ p);have u:=d x dp;have h:0<2^s:=nI bd;rw[nU,kL,kL,ih f, <- ahF r f];generalize nw r=n;have g:=Nat.div_add_mod n (2^s);have m:=jQ n h;generalize hq:n/2^s=a at *;generalize gG:n % 2^s=b at *
  have q:(x+W*b)/2^s<W:=by
   refine FQ ?_;have:W*(b+1)<=W*2^s:=jg _ m;rw[kH,dK W (2^s)] at this;omega
  have i:(x+W*n)/2^s=(x+W*b)/2^s+W*a:=by
   rw[<- g,kH, <- zT,Nat.add_right_comm,show W*(2^s*a)=2^s*(W*a) by rw[zR],Nat.add_mul_div_left _ _ h]
  have j:(x+W*(n % W))/2^s % W=(x+W*b)/2^s:=by
   have k:=am6 o;(have t:n % W % 2^s=b:=by rw[<- gG,k,Nat.mod_mul_right_mod]);have e:=Nat.div_add_mod (n % W) (2^s);rw[t] at e;generalize n % W/2^s=c at *;rw[<- e,kH, <- zT,Nat.add_right_comm,show W*(2^s*c)=2^s*(W*c) by rw[zR],Nat.add_mul_div_left _ _ h,WL];exact kI q
  rw[i,j]
theorem aft (a x:Nat) (h:x<4294967296):bits .or .u64 (IntKind.u64.wrap ((a:Int)*4294967296)) (x:Int)=((a % 4294967296*4294967296+x:Nat):Int):=by
 have e:IntKind.u64.wrap ((a:Int)*4294967296)=((a % 4294967296:Nat):Int)*4294967296:=by rw[MK];omega
 rw[e];exact Zr (a % 4294967296) x al h
theorem afu (g cap:Nat) (l:List Nat) (s:Nat) (w:World) (A:Small l) (P:s<32) (Z:l.length<=35184372088832) (D:bs w g 0 l):
  du 180 #[.slice (some ⟨g,0,none⟩) l.length cap,.int .i64 (s:Nat)] w fun e w'=>e=.returned (.tuple #[])/\bs w' g 0 (nU s l)/\cD g 0 l.length w w':=by
 go_enter Tryz.func180,Tryz.ntmps180;go_wp2
 go_loopw [4,9] (fun a i wr=>∃k b:Nat,k<=l.length/\i=.int .i64 k/\a=.int .u64 (b:Nat)/\b<18446744073709551616/\Hid (b % 4294967296=(l.drop (l.length - k))[0]?.getD 0)/\bs wr g 0 (l.take (l.length - k)++nU s (l.drop (l.length - k)))/\cD g 0 l.length w wr)
  (fun _ i _=>l.length - (intOf i).toNat)
 case atStart=>exact⟨0,0,aV _,rfl,rfl,al,by show _=_;simp,by simpa [nU] using D,cD.refl _ _ _ _⟩
 case round=>
  obtain⟨k,b,M,rfl,rfl,R,I,c,r⟩:=hrel;by_cases S:k<l.length
  ·obtain⟨m,E⟩:∃m,m+1=l.length - k:=⟨l.length - k - 1,al⟩;(have X:m<l.length:=al);(have j:l.length - (k+1)=m:=al);have d:l.drop m=l[m]::l.drop (m+1):=nP X;have p:=A _ (bF X);rw[<- E] at c I;(have f:m<(l.take (m+1)++nU s (l.drop (m+1))).length:=by simp;omega);have u:=c.cell m f;have L:=c.frozen (0+m);have O:=fun y=>c.set m f y;simp only[aeJ l _ m _ X] at O
   have T:(l.take (m+1)++nU s (l.drop (m+1)))[m]?.getD 0=l[m]:=by
    rw[BG (by simp;omega),pI,aA al,bj X];rfl
   rw[T] at u;rw[bB] at u L;(have H:Hid (nU s (l.drop m)=(l[m]+W*(l.drop (m+1))[0]?.getD 0)/2^s % W::nU s (l.drop (m+1))):=by show _=_;rw[d];rfl);(have v:Hid ((l.drop m)[0]?.getD 0=l[m]):=by show _=_;rw[d];rfl);rw[ig] at p;rw[<- I.o] at H;generalize nU s (l.drop (m+1))=q at *;generalize l[m]=x at *;obtain⟨t,h⟩:∃t,t=b % 4294967296*4294967296+x:=⟨_,rfl⟩;(have Q:bits .or .u64 (IntKind.u64.wrap ((b:Int)*4294967296)) (x:Int)=(t:Int):=by rw[h];exact aft b x p);(have K:t<18446744073709551616:=al);(have F:t % 4294967296=x:=al);have V:=aH F;have z:=aH h;(have U:(l.length:Int) - 1 - (k:Int)=(m:Int):=al);have Y:=aH O;clear h T O d f c I F;go_wp2
   have J:Value.int .u32 ((t:Int)/2^s % 4294967296)=.int .u32 (((x+W*(b % 4294967296))/2^s % W:Nat):Int):=int_eq (by
    (have e:x+W*(b % 4294967296)=t:=by rw[z.o,ig,dK];omega);rw[e,ig,yz,yA,Int.natCast_pow];rfl)
   rw[J];have n:=Y.o ((x+W*(b % 4294967296))/2^s % W);rw[bB] at n;go_roundw
   case rel=>exact⟨k+1,t,al,b5,rfl,K,by show _=_;rw[j,v.o];exact V.o,by rw[j,H.o];exact n,r.trans (cD.setCell (aV _) al _)⟩
   case measure=>simp[intOf];omega
  ·obtain rfl:k=l.length:=al
   go_wp2;go_end0
   refine⟨rfl,?_,r⟩;simpa using c
theorem aku (xs s:List Nat) (n:xs.length=s.length+1) (g:Small xs) (p:0<s.length) (m:s[s.length - 1]?.getD 0≠0) (l:nw xs<W*nw s):
  nw xs/nw s<=min ((xs[s.length]?.getD 0*W+xs[s.length - 1]?.getD 0)/s[s.length - 1]?.getD 0) (W - 1):=by
 obtain⟨d,f⟩:∃d,s.length=d+1:=⟨s.length - 1,al⟩;rw[f,IV] at m⊢
 have S:0<nw s:=by
  have:=sN s d al
  have h:s.drop d=[s[d]?.getD 0]:=by
   rw[nP al,DG al,bj al];rfl
  rw[h,kL,mN,ll,gK] at this;have:0<W^d*s[d]?.getD 0:=Nat.mul_pos (nI lJ) (lR m);omega
 have o:nw xs/nw s<W:=FQ (by rw[dK];exact l);have r:=Nat.div_mul_le_self (nw xs) (nw s);generalize nw xs/nw s=q at *;refine Nat.le_min.2 ⟨?_,al⟩;rw[Nat.le_div_iff_mul_le (lR m)];have b:=sN s d al
 have k:s.drop d=[s[d]?.getD 0]:=by
  rw[nP al,DG al,bj al];rfl
 rw[k,kL,mN,ll,gK] at b;have e:=sN xs d al
 have i:xs.drop d=[xs[d]?.getD 0,xs[d+1]?.getD 0]:=by
  rw[nP al,nP al,DG al,bj al,bj al];rfl
 have j:=vh (xs.take d) (F3 g d);rw[eE,tX al] at j;rw[i,kL,kL,mN,ll,gK] at e;generalize s[d]?.getD 0=y at *;generalize xs[d]?.getD 0=a at *;generalize xs[d+1]?.getD 0=x at *;have c:q*(W^d*y)<=q*nw s:=jg _ al
 have h:W^d*(q*y)<W^d*(x*W+a+1):=by
  rw[zR] at c;rw[kH,kF,yu (x*W) a,dK x W];omega
 have:=Nat.lt_of_mul_lt_mul_left h;omega
theorem aeM (g f cap b K:Nat) (xs y:List Nat) (w:World) (x:xs.length=y.length+1) (A:Small xs) (p:Small y) (az:xs.length<=35184372088832) (lB:0<y.length) (um:y[y.length - 1]?.getD 0≠0) (Q:nw xs<W*nw y) (F:bs w g f xs) (H:bs w b 0 y) (O:b≠g):
  du 179 #[.slice (some ⟨g,f,none⟩) xs.length cap,.slice (some ⟨b,0,none⟩) y.length K] w fun e w'=>∃l',e=.returned (.int .u32 (nw xs/nw y:Nat))/\l'.length=xs.length/\Small l'/\nw l'=nw xs % nw y/\bs w' g f l'/\cD g f xs.length w w':=by
 have Ot:=aku xs y x A lB um Q;have v:=F.cell y.length al;have k:=F.cell (y.length - 1) al;have an:=H.cell (y.length - 1) al;rw[bB] at an;have aj:=getD_lt A y.length;have ak:=getD_lt A (y.length - 1);have aS:=getD_lt p (y.length - 1);have m:=aH Ot;have HL:=aH x;have X:=aH Q;rw[ig] at aj ak aS;have yV:y.length<xs.length:=al
 have y6:=Zr (xs[y.length]?.getD 0) (xs[y.length - 1]?.getD 0) aj ak;rw[ig] at m;generalize xs[y.length]?.getD 0=x1 at *;generalize xs[y.length - 1]?.getD 0=x0 at *;generalize y[y.length - 1]?.getD 0=u at *;obtain⟨t,ht⟩:∃t,t=x1*4294967296+x0:=⟨_,rfl⟩;rw[<- ht] at y6 m;have vw:t<18446744073709551616:=al
 have Co:(y.length:Int) - 1<(xs.length:Int):=al
 have uo:(y.length:Int)<(xs.length:Int):=al
 have Cn:0<=(y.length:Int) - 1:=al
 have Tp:((y.length:Int) - 1).toNat=y.length - 1:=al
 have Tn:IntKind.i64.wrap ((y.length:Int) - 1+1)=(y.length:Int):=by rw[fj];omega
 clear ht x Q Ot;go_enter Tryz.func179,Tryz.ntmps179;go_wp2_with fail
 go_quiet (fail)
 go_wp2_with fail
 obtain⟨a,Z⟩:∃a,a=min (t/u) 4294967295:=⟨_,rfl⟩;have rN:t/u<=t:=zS _ _
 have S:min (IntKind.u64.wrap ((t:Int)/(u:Int))) 4294967295 % 4294967296=(a:Int):=by
  rw[MK, <- yA,Z];generalize t/u=z at *;omega
 rw[S];have ai:a<4294967296:=al
 have U:Hid (nw xs/nw y<=a):=by show _<=_;rw[Z];exact m.o
 clear S Z m y6 v k an;refine(XA g f cap b 0 K xs y a _ A p ai az al (F.drewN nq) (H.drewN nq) O).af ?_;rintro e w2 ⟨s,l,rfl,dD,av,D,V,hu⟩;have ax:cD g f xs.length w w2:=((cD.refl g f xs.length w).drewN nq).trans hu;have ah:=vh l av;rw[dD] at ah
 have aO:a*nw y<W^xs.length:=by
  have d:=vh y p;have h2:a*nw y<=(W - 1)*nw y:=lS _ (by rw[ig];omega);have h3:W*nw y<=W*W^y.length:=jg _ (yo d);have h4:(W - 1)*nw y<=W*nw y:=lS _ al;have h5:W^xs.length=W*W^y.length:=by rw[HL.o,gJ,dK]
  have h6:0<W^y.length:=nI lJ;have h7:(W - 1)*nw y<=(W - 1)*W^y.length:=jg _ (yo d)
  have h8:(W - 1)*W^y.length+W^y.length=W*W^y.length:=by
   (have:(W - 1+1)*W^y.length=W*W^y.length:=by rw[QE lJ]);rwa [fF,jP] at this
  omega
 have ao:s=0∨s=1:=by
  rcases cT s 2 with h |h
  ·omega
  ·have:W^xs.length*2<=W^xs.length*s:=jg _ h;omega
 have ab:Hid ((decide (s≠0)=false/\nw l+a*nw y=nw xs)∨(decide (s≠0)=true/\nw l+a*nw y=nw xs+W^xs.length/\nw xs<a*nw y)):=by
  rcases ao with rfl |rfl
  ·exact .inl ⟨rfl,by rw[D];omega⟩
  ·refine .inr ⟨rfl,by rw[D];omega,?_⟩;omega
 generalize decide (s≠0)=be at *;clear D ah aO ao hu;go_wp2;go_loopg [7,8] a (fun r gu be wr=>∃(l:List Nat) (i:Bool),gu=.int .u32 (r:Nat)/\be=.bool i/\l.length=xs.length/\Small l/\bs wr g f l/\cD g f xs.length w wr/\Hid (nw xs/nw y<=r)/\r<4294967296/\Hid ((i=false/\nw l+r*nw y=nw xs)∨(i=true/\nw l+r*nw y=nw xs+W^xs.length/\nw xs<r*nw y)))
 case atStart=>exact⟨l,be,rfl,rfl,dD,av,V,ax,U,ai,ab⟩
 case round=>
  obtain⟨j,i,rfl,rfl,aa,N7,P,I,iV,a6,n⟩:=hrel;clear ab V ax U;have E:=aH aa;clear aa;cases i with
  |false=>
   have hc:nw j+gk*nw y=nw xs:=by
    rcases n.o with ⟨_,h⟩ |⟨h,_⟩
    ·exact h
    ·cases h
   have R:0<nw y:=by
    rcases yq (nw y) with e |e
    ·have:=X.o;rw[e,ll] at this;omega
    ·exact e
   have M:gk=nw xs/nw y:=by
    have d:gk<=nw xs/nw y:=(Nat.le_div_iff_mul_le R).2 al;have:=iV.o;omega
   have HR:Hid (nw j=nw xs % nw y):=by
    show _=_;have d:=Nat.div_add_mod' (nw xs) (nw y);rw[<- M] at d;omega
   have HG:=aH M;clear hc M n;go_wp2;go_ret;exact⟨j,by rw[<- HG.o];rfl,E.o,N7,HR.o,P,I⟩
  |true=>
   obtain⟨v,k⟩:nw j+gk*nw y=nw xs+W^xs.length/\nw xs<gk*nw y:=by
    rcases n.o with ⟨h,_⟩ |⟨_,h⟩
    ·cases h
    ·exact h
   have aT:1<=gk:=by
    rcases yq gk with e |e
    ·rw[e,jO] at k;omega
    ·exact e
   have wm:=aH v;have Y:=aH k;have ay:=(H.apart I O);clear v k n;go_wp2_with fail
   have L:=RB g f cap b 0 K j y wr N7 p (by rw[E.o];exact az) (by rw[E.o];omega) P ay O;rw[E.o] at L;refine L.af ?_;rintro e w3 ⟨c,q,rfl,T,ad,J,aE,lA⟩;have ae:=vh q ad;rw[T] at ae
   have a1:gk*nw y=(gk - 1)*nw y+nw y:=by
    (have:(gk - 1+1)*nw y=gk*nw y:=by rw[QE aT]);rw[<- this,fF,jP]
   have oN:Hid (((!c)=false/\nw q+(gk - 1)*nw y=nw xs)∨((!c)=true/\nw q+(gk - 1)*nw y=nw xs+W^xs.length/\nw xs<(gk - 1)*nw y)):=by
    have d:=wm.o;cases c with
    |true=>simp only[zN] at J;exact .inl ⟨rfl,al⟩
    |false=>simp only[Bool.false_eq_true,if_false,gK] at J;exact .inr ⟨rfl,al,al⟩
   have aC:Hid (nw xs/nw y<=gk - 1):=by
    show _<=_
    have R:0<nw y:=by
     rcases yq (nw y) with e |e
     ·have:=X.o;rw[e,ll] at this;omega
     ·exact e
    have:=(Nat.div_lt_iff_lt_mul R).2 Y.o;omega
   have L6:=aH T;clear J ae a1 L T P ay wm Y;go_wp2;go_roundg (gk - 1)
   case measure=>omega
   case rel=>exact⟨q,!c,int_eq al,rfl,L6.o,ad,aE,I.trans lA,aC,al,oN⟩
variable {lf ql:List Nat} {Y:Nat}
theorem ahE (l:List Nat) (i y:Nat) (h:i<l.length):nw (l.set i y)+W^i*l[i]?.getD 0=nw l+W^i*y:=by
 have e:=sN l i al;have a:=sN (l.set i y) i (by rw[kg];omega);have b:(l.set i y).take i=l.take i:=List.take_set_of_le (aq _)
 have c:(l.set i y).drop i=y::l.drop (i+1):=by
  rw[List.drop_set,aD al,mF,nP h,cN]
 have d:l.drop i=l[i]?.getD 0::l.drop (i+1):=by rw[nP h,bj h];rfl
 rw[b,c,kL,kH] at a;rw[d,kL,kH] at e;omega
structure tP (X Y L:Nat) (lf ql:List Nat) (j:Nat):Prop where
 qlen:ql.length=L
 qs:Small ql
 ls:Small lf
 zero:∀t,t< j ->ql[t]?.getD 0=0
 eq:nw ql*Y+nw lf=X
 lt:nw (lf.drop j)<Y
theorem tP.seg {X L:Nat} (h:tP X Y L lf ql (i+1)) (f:Y<=W^m) (n:i+m+1<=lf.length):
  nw ((lf.drop i).take (m+1))<W*Y/\nw (lf.drop i)=nw ((lf.drop i).take (m+1))/\nw (lf.drop (i+(m+1)))=0:=by
 have a:lf.drop i=lf[i]?.getD 0::lf.drop (i+1):=by rw[nP al,bj al];rfl
 have l:nw (lf.drop i)<W*Y:=by
  have b:=h.lt;have g:=getD_lt h.ls i;have d:W*(nw (lf.drop (i+1))+1)<=W*Y:=jg _ b;rw[kH] at d;rw[a,kL];omega
 have c:=sN (lf.drop i) (m+1) (by rw[nN];omega);rw[List.drop_drop] at c
 have z:nw (lf.drop (i+(m+1)))=0:=by
  rcases yq (nw (lf.drop (i+(m+1)))) with e |e
  ·exact e
  ·have j:W^(m+1)*1<=W^(m+1)*nw (lf.drop (i+(m+1))):=jg _ e;(have k:W*Y<=W^(m+1):=by rw[gJ,dK];exact lS _ f);omega
 rw[z,ll,gK] at c;exact⟨al,c,z⟩
theorem tP.step {X L:Nat} {e:List Nat} (h:tP X Y L lf ql (i+1)) (b:Y<=W^m) (l:i+m+1<=lf.length) (d:i<L) (j:0<Y)
  (p:e.length=m+1) (o:Small e) (H:nw e=nw ((lf.drop i).take (m+1)) % Y):
  tP X Y L (lf.take i++e++lf.drop (i+(m+1))) (ql.set i (nw ((lf.drop i).take (m+1))/Y)) i:=by
 obtain⟨f,g,s⟩:=h.seg b l;have v:(lf.take i).length=i:=by rw[eE];omega
 generalize hS:nw ((lf.drop i).take (m+1))=S at *;have q:S/Y<W:=FQ (by rw[dK];exact f);have c:=ahE ql i (S/Y) (by rw[h.qlen];exact d);rw[h.zero i al,ll,gK] at c;have k:=Nat.div_add_mod' S Y;have hcut:=sN lf i al
 have n:nw (lf.take i++e++lf.drop (i+(m+1)))=nw (lf.take i)+W^i*(S % Y):=by
  rw[Af,s,ll,gK,Af,v,H]
 refine⟨by rw[kg];exact h.qlen,?_,?_,?_,?_,?_⟩
 ·intro x a;rcases WN a with a |rfl
  ·exact h.qs x a
  ·exact q
 ·exact yK (yK (F3 h.ls i) o) (Js h.ls _)
 ·intro t r;rw[QL al];exact h.zero t al
 ·rw[c,n,fF, <- h.eq,hcut,g];have:W^i*S=W^i*(S/Y)*Y+W^i*(S % Y):=by rw[iP, <- kH,k]
  omega
 ·rw[lV,List.drop_append,v,mF,DG al,jy,BM,Af,s,ll,gK,H];exact jQ _ j
theorem tP.start {X:Nat} {xs:List Nat} (i:0<m) (j:m<=n) (c:Small lf) (x:xs.length=n) (d:Small xs) (f:X=2^s*nw xs) (u:nw lf=X) (D:lf.length=n+1) (b:2^s*W^(m - 1)<=Y):
  tP X Y (n - m+1) lf (List.replicate (n - m+1) 0) (n - m+1):=by
 refine⟨aE,Ye _,c,fun t _=>by rw[QM];split<;>rfl,by rw[RZ,jO,bB,u],?_⟩;have g:=sN lf (n - m+1) al;have l:nw xs<W^n:=by rw[<- x];exact vh xs d
 have p:0<2^s:=nI bd;have e:2^s*nw xs<2^s*W^n:=Nat.mul_lt_mul_of_pos_left l p;have h:W^n=W^(n - m+1)*W^(m - 1):=by rw[<- wC];congr 1;omega
 have a:W^(n - m+1)*nw (lf.drop (n - m+1))<W^(n - m+1)*(2^s*W^(m - 1)):=by
  rw[zR, <- h];omega
 exact aU (Nat.lt_of_mul_lt_mul_left a) b
theorem tP.stop {X L:Nat} (h:tP X Y L lf ql 0):nw ql=X/Y/\nw lf=X % Y:=by
 have a:=h.lt;rw[BM] at a;have b:=h.eq;have c:0<Y:=al
 constructor
 ·rw[<- b,yu,QI _ _ c,yr a,bB]
 ·rw[<- b,yu,QH,kI a]
theorem amD (k:Nat):∀x,x<2^k ->k<=32 ->Lib.bitLen x<=k/\x<2^Lib.bitLen x:=by
 induction k with
 |zero=>
  intro x h _;have:x=0:=by simpa using h
  subst this;exact⟨aq _,bd⟩
 |succ k ih=>
  intro x h b;by_cases a:x=0
  ·subst a;exact⟨aV _,bd⟩
  ·have E:x<2^64:=aU h (kE bd al);have e:=Lib.bitLen_half x a E;obtain⟨i,c⟩:=ih (x/2) (FQ (by rw[gJ] at h;omega)) al;rw[e];refine⟨al,?_⟩;rw[yu,gJ];omega
theorem amC (x:Nat) (h0:x≠0) (h:x<4294967296):1<=Lib.bitLen x:=by
 have:=Lib.bitLen_half x h0 al;omega
theorem acN (a:List Nat) (s:Nat) (n:Small a) (M:0<a.length) (m:a[a.length - 1]?.getD 0≠0) (g:2^s*(a[a.length - 1]?.getD 0+1)<=W):
  (words (2^s*nw a)).length=a.length/\2^s*W^(a.length - 1)<=2^s*nw a/\2^s*nw a<=W^a.length:=by
 obtain⟨d,j⟩:∃d,a.length=d+1:=⟨a.length - 1,al⟩;rw[j,IV] at m g⊢;have i:=sN a d al
 have u:a.drop d=[a[d]?.getD 0]:=by
  rw[nP al,DG al,bj al];rfl
 rw[u,kL,mN,ll,gK] at i;have t:=vh (a.take d) (F3 n d);rw[eE,tX al] at t;generalize a[d]?.getD 0=y at *;have p:0<2^s:=nI bd;have x:W^d*1<=W^d*y:=jg _ (lR m);have T:W^d<=nw a:=al
 have q:nw a<W^d*(y+1):=by rw[kH];omega
 have A:2^s*nw a<2^s*(W^d*(y+1)):=Nat.mul_lt_mul_of_pos_left q p;have D:2^s*(W^d*(y+1))<=W^d*W:=by rw[zR];exact jg _ g
 have F:2^s*nw a<W^(d+1):=by rw[gJ];omega
 have H:W^d<=2^s*nw a:=aR T (Dz _ p);refine⟨?_,jg _ T,al⟩;have w:=kK (2^s*nw a);have b:=mK (2^s*nw a);have E:=vh _ b;rw[w] at E
 have L:(words (2^s*nw a)).length<=d+1:=by
  obtain⟨k,K,e⟩:=MQ (words (2^s*nw a)++List.replicate 0 0) (by simpa using b);have r:words (2^s*nw a)≠[]:=fun e=>by rw[MR] at e;have:0<W^d:=nI lJ;omega
  have h:=Xa _ r;rcases cT (d+1) (words (2^s*nw a)).length with c |c
  ·exfalso
   generalize words (2^s*nw a)=l at *;obtain⟨z,o⟩:∃z,l.length=z+1:=⟨l.length - 1,al⟩;have f:=sN l z al;rw[List.getLast_eq_getElem] at h;(have v:l.drop z=[l[z]'al]:=by rw[nP al,DG al]);simp only[o,IV] at h;rw[v,kL,mN,ll,gK] at f;have I:W^z*1<=W^z*l[z]'al:=jg _ (lR h);have J:W^(d+1)<=W^z:=kE lJ al;omega
  ·exact c
 rcases cT (words (2^s*nw a)).length (d+1) with c |c
 ·have:W^(words (2^s*nw a)).length<=W^d:=kE lJ al;omega
 ·omega
theorem alH (v:Option Addr) (n k:Nat) (y:Option Addr) (m a:Nat) (w:World) (h:n<m):
  du 118 #[.slice v n k,.slice y m a] w fun e w'=>e=.returned (.tuple #[.slice none 0 0,.slice v n k])/\w'=w:=by
 go_enter Tryz.func118,Tryz.ntmps118;go_wp2;go_ret2;exact⟨rfl,rfl⟩
theorem Has.slice {v:Value} {l:List Nat} (h:Has w base v l) (a:0<l.length):∃g cap,v=.slice (some ⟨g,0,none⟩) l.length cap/\l.length<=cap/\base<=g/\bs w g 0 l:=by
 rcases h.cases with ⟨_,rfl⟩ |h
 ·simp at a
 ·exact h
theorem QU (n:Nat) (h:0<(words n).length):(words n)[(words n).length - 1]?.getD 0≠0:=by
 have e:words n≠[]:=List.length_pos_iff.1 h;have:=Xa n e;rw[List.getLast_eq_getElem] at this;rwa [bj al]
def oC (w:World) (base g n cap:Nat) (l:List Nat):Prop:=w.ownsRow base 140 1 (.slice (some ⟨g,0,none⟩) n cap) n (l.map u32)
theorem oC.lies {l:List Nat} (h:oC w base g n cap l):bs w g 0 l:=(BX h).2.2.2
theorem oC.len {l:List Nat} (h:oC w base g n cap l):n=l.length:=(BX h).1
theorem oC.upd {f:Nat} {l:List Nat} (h:oC w base g n cap l) (u:cD g f m w w') (a:bs w' g 0 l') (e:l'.length=n):oC w' base g n cap l':=
 Za h (u.af (off':=0) (n':=f+m) (aV _) al) a e
theorem oC.apart {o:Nat} {l:List Nat} (h:oC w base g n cap l) (u:cD g' o m w w') (d:g≠g'):oC w' base g n cap l:=by
 refine⟨h.1,?_⟩;rcases h.2 with ⟨a,_⟩ |⟨i,j,f,b,c,r,e⟩
 ·cases a
 ·cases b;exact .inr ⟨g,cap,f,rfl,c,(u.grown.block g (cJ.1 r).1 (by simp[d])).trans r,e⟩
theorem oC.lies_le {l:List Nat} (h:oC w base g n cap l):l.length<=cap:=(BX h).2.1
theorem oC.words {l:List Nat} (h:oC w base g n cap l) (s:Small l):Has w base (.slice (some ⟨g,0,none⟩) (words (nw l)).length cap) (words (nw l)):=by
 obtain⟨k,b,a⟩:=MQ l s;have f:(Proofs.YtdmdhjmcoijpaaaGreatDoor.words (nw l)).length=k:=by rw[a];simp;omega
 have:=alT k b h;rw[<- a] at this;rw[Has,f];exact this
theorem bs.patch {a:Nat} {e:List Nat} (h:bs w g 0 lf) (u:cD g a n w w') (s:bs w' g a e) (d:e.length=n) (l:a+n<=lf.length):bs w' g 0 (lf.take a++e++lf.drop (a+n)):=by
 have c:bs w g 0 (lf.take a):=by have:=h.piece 0 a al;rwa [BM] at this
 have b:=h.piece (a+n) (lf.length - (a+n)) al;rw[lT aE] at b;have v:(lf.take a).length=a:=by rw[eE];omega
 refine((c.beside u (by rw[v];omega)).append (by rw[v,bB];exact s)).append ?_;rw[bK,v,d];exact b.beside u al
theorem alI (gx kT gy ja:Nat) (xs y:List Nat) (w:World) (iA:Small xs) (jo:Small y) (b3:xs.length<=4398046511104) (Q:0<y.length) (R:y[y.length - 1]?.getD 0≠0) (Aj:y.length<=xs.length) (hx:bs w gx 0 xs) (hy:bs w gy 0 y):
  du 118 #[.slice (some ⟨gx,0,none⟩) xs.length kT,.slice (some ⟨gy,0,none⟩) y.length ja] w fun e w'=>
   ∃gq cq gr cr,e=.returned (.tuple #[.slice (some ⟨gq,0,none⟩) (words (nw xs/nw y)).length cq,.slice (some ⟨gr,0,none⟩) (words (nw xs % nw y)).length cr])/\
    Has w' w.heap.size (.slice (some ⟨gq,0,none⟩) (words (nw xs/nw y)).length cq) (words (nw xs/nw y))/\Has w' w.heap.size (.slice (some ⟨gr,0,none⟩) (words (nw xs % nw y)).length cr) (words (nw xs % nw y))/\ef w w':=by
 obtain⟨i0,hi,br,bu,bx⟩:=dJ Tryz.infoU32;have b1:=hx.lt;have bV:=hy.lt;have xj:=hy.cell (y.length - 1) al;rw[bB] at xj;have ah:=getD_lt jo (y.length - 1);rw[ig] at ah;obtain⟨bf,aC⟩:=amD 32 (y[y.length - 1]?.getD 0) (by simpa using ah) al;have bc:=amC _ R ah;obtain⟨s,hs⟩:∃s,s=32 - Lib.bitLen (y[y.length - 1]?.getD 0):=⟨_,rfl⟩;have SR:s<32:=al
 have xg:2^s*(y[y.length - 1]?.getD 0+1)<=W:=by
  have f:2^s*(y[y.length - 1]?.getD 0+1)<=2^s*2^Lib.bitLen (y[y.length - 1]?.getD 0):=jg _ aC;rw[<- wC,show s+Lib.bitLen (y[y.length - 1]?.getD 0)=32 by omega] at f;exact f
 have ay:=acN y s jo Q R xg;have D:=aH ay;have O:=fun V=>Tryz.bits_LeadingZeros32 ((y[y.length - 1]?.getD 0:Nat):Int) V al al;simp only[rD] at O;have sR:(32:Int) - (Lib.bitLen (y[y.length - 1]?.getD 0):Int)=(s:Int):=al
 simp only[sR] at O;have a6:=aH O;have bJ:=aH R;generalize y[y.length - 1]?.getD 0=y1 at *;have b4:¬xs.length<y.length:=al
 clear bf aC bc hs xg ay O sR R;go_enter Tryz.func118,Tryz.ntmps118;go_wp2_with fail
 refine(a6.o _).af ?_;rintro e w0 ⟨rfl,bl⟩;subst bl;go_wp2_with fail
 refine(Yl gx kT xs s _ iA SR al hx).af ?_;rintro e w1 ⟨v1,b,rfl,f,z,iW,cK,ad⟩;obtain⟨g,c,rfl,bX,az,an⟩:=f.slice al;have T:=aH iW;have tJ:=aH cK;have bN:b.length<=4398046511105:=al
 have bT:xs.length+1<=c:=al
 clear iW cK;have a1:=hy.aa ad bV;go_wp2_with fail
 refine(Yl gy ja y s _ jo SR al a1).af ?_;rintro e w2 ⟨v2,n,rfl,h2,v,bh,gj,ae⟩;obtain⟨d,c2,rfl,bg,bW,K⟩:=h2.slice al;have jd:=aH gj;have bM:n.length<=4398046511105:=al
 clear bh gj;go_wp2_with fail
 have pV:=M8 d 0 c2 n w2 v bg al (fun j h=>K.cell j h);rw[jd.o,D.o.1] at pV;refine pV.af ?_;rintro e a ⟨rfl,bm⟩;subst bm;have aT:∃k,k<=n.length/\words (nw n)=n.take k:=MQ n v
 have kx:bs a d 0 (words (2^s*nw y)):=by
  obtain⟨k,hk,e⟩:=aT;have:=K.piece 0 k al;rwa [BM, <- e,jd.o] at this
 have AL:=f.aa ae (aq _);have ab:ef w0 a:=ad.trans (ae.af ad.size);have bR:g<w1.heap.size:=an.lt;have bO:d<a.heap.size:=K.lt;have JO:=ab.size;have bL:=ae.size;have ai:=aH AL;have vW:=aH kx;clear pV aT kx AL an K f h2 a1;go_wp2_with (at_make;refine lj _ rfl _ _ 125 rfl w0.heap.size 140 i0 (.int .u32 0) 1 Tryz.underlying125 hi br bu .i64 .i64 _ _ (xs.length - y.length+1) rfl rfl al al (by rw[bx];omega) (by unfold maxLen;omega) al ?_;intro S pW E)
 have x:=qg pW;rw[JJ] at x;have eW:=aH x;have fh:ef w0 S:=ab.grown E al (fun k e=>by cases e);have nD:Hid (oC S w0.heap.size g b.length c b):=Has.aa ai.o (B:=a.heap.size) ((au _ a).grown E (aq _) (fun k e=>by cases e)) (aq _)
 have aj:Hid (oC S w0.heap.size a.heap.size (xs.length - y.length+1) (xs.length - y.length+1) (List.replicate (xs.length - y.length+1) 0)):=by
  have:=JD (base:=w0.heap.size) (cap:=xs.length - y.length+1) (l:=List.replicate (xs.length - y.length+1) 0) _ x aE al (by unfold maxLen;omega) aE ⟨_,x,aE,fun j h=>by simp at h;simp[h]⟩;rw[BF] at this;exact this
 have k6:Hid (bs S d 0 (words (2^s*nw y))):=(vW.o).grown E aE;have HI:Hid (tP (2^s*nw xs) (2^s*nw y) (xs.length - y.length+1) b (List.replicate (xs.length - y.length+1) 0) (xs.length - y.length+1)):=tP.start Q Aj z rfl iA rfl tJ.o T.o D.o.2.1;have zI:=aH fh;clear x pW E ai vW ab fh
 go_loopw [40] (fun i wr=>∃(k:Nat) (lf ql:List Nat),k<=xs.length - y.length+1/\i=.int .i64 k/\Hid (tP (2^s*nw xs) (2^s*nw y) (xs.length - y.length+1) lf ql (xs.length - y.length+1 - k))/\Hid (oC wr w0.heap.size g b.length c lf)/\Hid (oC wr w0.heap.size a.heap.size (xs.length - y.length+1) (xs.length - y.length+1) ql)/\Hid (bs wr d 0 (words (2^s*nw y)))/\Hid (ef w0 wr))
  (fun i _=>xs.length - y.length+1 - (intOf i).toNat)
 case atStart=>exact⟨0,b,_,aV _,rfl,HI,nD,aj,k6,zI⟩
 case round=>
  obtain⟨k,lf,ql,hk,rfl,P,r,I,Y,q⟩:=hrel;clear HI nD aj k6 zI;by_cases b2:k<xs.length - y.length+1
  ·go_wp2_with fail
   obtain⟨p,hp⟩:∃p,p=xs.length - y.length - k:=⟨_,rfl⟩;(have hn:xs.length - y.length - k+y.length+1 - (xs.length - y.length - k)=y.length+1:=al);rw[hn, <- hp];(have ao:lf.length=xs.length+1:=by have:=r.o.len;have:=T.o;omega);(have M:((lf.drop p).take (y.length+1)).length=y.length+1:=by rw[eE,nN];omega)
   have H:Hid (tP (2^s*nw xs) (2^s*nw y) (xs.length - y.length+1) lf ql (p+1)):=by
    have:=P.o;rwa [show xs.length - y.length+1 - k=p+1 by omega] at this
   have SN:=H.o.seg D.o.2.2 al;have U:=aeM g p (c - p) d c2 ((lf.drop p).take (y.length+1)) (words (2^s*nw y)) wr (by rw[M,D.o.1]) (F3 (Js H.o.ls _) _) (mK _) (by rw[M];omega) (by rw[D.o.1];exact Q) (QU _ (by rw[D.o.1];exact Q)) (by rw[kK];exact SN.1) (by have:=r.o.lies.piece p (y.length+1) al;rwa [bB] at this) Y.o al;rw[M,D.o.1,kK] at U;refine U.af ?_;clear U;rintro e u ⟨bz,rfl,Z,bb,av,J,X⟩;(have bk:p<xs.length - y.length+1:=al);have a7:=aH (H.o.step D.o.2.2 al bk (by have:=SN.1;rcases yq (2^s*nw y) with e |e;(rw[e,ll] at this;omega);exact e) Z bb av);have Et:=r.o.lies.patch X J Z al;have A:Hid (oC u w0.heap.size g b.length c (lf.take p++bz++lf.drop (p+(y.length+1)))):=r.o.upd X Et (by have:=T.o;simp;omega);have t:=aH (I.o.apart X al);have Hx:=aH (Y.o.apart X al);have L:=aH (cD.aa q.o X az q.o.size);(have ax:p<ql.length:=by have:=I.o.len;omega);have bA:=t.o.lies.cell p ax;have b0:=t.o.lies.frozen p;rw[bB] at bA;have cO:=t.o.lies.set p ax (nw ((lf.drop p).take (y.length+1))/(2^s*nw y));rw[bB] at cO;have kY:=aH cO;have Ij:=aH ao;generalize hqv:nw ((lf.drop p).take (y.length+1))/(2^s*nw y)=qv at *;generalize ql[p]?.getD 0=b7 at *;clear cO Et SN M Z av J ao P r I Y q H hn hqv;subst hp;go_wp2;go_roundw
   case rel=>
    have F:cD a.heap.size (xs.length - y.length - k) 1 u (u.setCell ⟨a.heap.size,xs.length - y.length - k,none⟩ (.int .u32 (qv:Nat))):=cD.setCell (aq _) al _;refine⟨k+1,_,_,al,b5,?_,aH (A.o.apart F al),aH (t.o.upd F kY.o (by have:=t.o.len;rw[kg];omega)),aH (Hx.o.apart F al),aH (cD.aa L.o F JO L.o.size)⟩;have e:=a7.o;show tP _ _ _ _ _ _;rwa [show xs.length - y.length+1 - (k+1)=xs.length - y.length - k by omega]
   case measure=>simp[intOf];omega
  ·obtain rfl:k=xs.length - y.length+1:=al
   have m:=P.o;rw[mF] at m;have y5:0<2^s:=nI bd;obtain⟨hq,hr⟩:=m.stop;rw[Nat.mul_div_mul_left _ _ y5] at hq;rw[Nat.mul_mod_mul_left] at hr;(have aS:nw (nU s lf)=nw xs % nw y:=by rw[afv s al lf m.ls,hr,Nat.mul_div_cancel_left _ y5]);have JX:=m.ls;have sT:=m.qs;have ak:=aH hq;have Dd:=aH aS;have SQ:=afu g c lf s wr JX SR (by have:=r.o.len;omega) r.o.lies;rw[<- r.o.len] at SQ;have sf:=aH SQ;clear hq hr aS m P SQ;go_wp2_with fail
   refine sf.o.af ?_;rintro e u ⟨rfl,J,X⟩;have A:=aH (r.o.upd X J (by rw[afw];exact r.o.len.symm));have t:=aH (I.o.apart X al);have L:=aH (cD.aa q.o X az q.o.size);have z:=M8 a.heap.size 0 (xs.length - y.length+1) ql u sT (by rw[<- t.o.len];omega) (by rw[<- t.o.len];omega) (fun j h=>t.o.lies.cell j h);rw[<- t.o.len,ak.o] at z;have v:=M8 g 0 c (nU s lf) u (Ym s lf) A.o.lies_le (by rw[<- A.o.len];omega) (fun j h=>A.o.lies.cell j h);rw[<- A.o.len,Dd.o] at v;have j8:=aH z;have qi:=aH v;clear z v J X sf r I q;go_wp2_with fail
   refine j8.o.af ?_;rintro e w6 ⟨rfl,bo⟩;subst bo;go_wp2_with fail
   refine qi.o.af ?_;rintro e w7 ⟨rfl,bp⟩;subst bp;go_wp2;go_ret2;have Ou:=t.o.words sT;have aO:=A.o.words (Ym s lf);rw[ak.o] at Ou;rw[Dd.o] at aO;exact⟨_,_,_,_,rfl,Ou,aO,L.o⟩
theorem QS (h:n≠0):0<(words n).length:=by
 rcases yq (words n).length with e |e
 ·exact absurd ((MR n).1 (WR e)) h
 ·exact e
theorem Z6 {x y:Nat} (h:(words x).length<(words y).length):x<y:=by
 have l:0<(words y).length:=al
 have c:=getD_lt (mK y) ((words y).length - 1);have a:=(acN (words y) 0 (mK y) l (QU y l) (by rw[Nat.pow_zero,jP];exact c)).2.1;rw[Nat.pow_zero,jP,jP,kK] at a;have b:=vh (words x) (mK x);rw[kK] at b;have d:W^(words x).length<=W^((words y).length - 1):=kE lJ al;omega
theorem QT {x y:Nat} (h:x<=y):(words x).length<=(words y).length:=by
 rcases cT (words y).length (words x).length with c |c
 ·have:=Z6 c;omega
 ·exact c
theorem Z7 {x:Nat} (h:(words x).length<=2):x<18446744073709551616:=by
 have a:=vh (words x) (mK x);rw[kK] at a;have b:W^(words x).length<=W^2:=kE lJ h;have c:W^2=18446744073709551616:=by rw[ig]
 omega
theorem acs (a k b j x y:Nat) (w:World) (v:y≠0) (t:(words x).length<=4398046511104) (s:(words x).length<=k) (d:bs w a 0 (words x)) (o:bs w b 0 (words y)):
  du 118 #[.slice (some ⟨a,0,none⟩) (words x).length k,.slice (some ⟨b,0,none⟩) (words y).length j] w fun e w'=>
   ∃q g r,e=.returned (.tuple #[q,.slice (some ⟨g,0,none⟩) (words (x % y)).length r])/\Has w' w.heap.size q (words (x/y))/\(words (x % y)).length<=r/\bs w' g 0 (words (x % y))/\ef w w':=by
 rcases cT (words x).length (words y).length with c |c
 ·have h:=Z6 c;refine(alH _ _ k _ _ j w c).af ?_;rintro e w' ⟨rfl,rfl⟩;refine⟨_,a,k,by rw[kI h],?_,by rw[kI h];exact s,by rw[kI h];exact d,au _ _⟩;rw[yr h,wG];exact⟨rfl,.inl ⟨rfl,rfl⟩⟩
 ·have p:=QS v;have:=alI a k b j (words x) (words y) w (mK _) (mK _) t p (QU y p) c d o;rw[kK,kK] at this;refine this.af ?_;rintro e w' ⟨z,u,g,r,rfl,f,i,l⟩;obtain⟨_,m,_,n⟩:=BX i;exact⟨_,g,r,rfl,f,m,n,l⟩
theorem anX (a b:ByteArray) (w:World) (I:a.size<=1099511627776) (J:b.size<=1099511627776) (h0:N b≠0):
  du 82 #[.string a,.string b] w (eS w (.tuple #[.string (B (N a/N b)),.string (B (N a % N b)),.bool true])):=by
 have i:=yE a 274877906944 al;have K:=yE b 274877906944 al;have L:=QS h0;have S:¬(((words (N b)).length:Int)=0):=al
 have R:(words (N a/N b)).length<=274877906944:=aR (QT (zS _ _)) i;have P:(words (N a % N b)).length<=274877906944:=aR (QT (Nat.mod_le _ _)) i;go_enter Tryz.func82,Tryz.ntmps82;go_wp2_with fail
 refine(yJ b _ al).af ?_;rintro e O ⟨p,m,rfl,t,d⟩;go_wp2_with fail
 refine(yJ a _ al).af ?_;rintro e y ⟨q,n,rfl,h,g⟩;have x:=xq t g;have H:=xq h (au _ _);have c:ef w y:=d.trans (g.af d.size);go_wp2_with fail
 refine(acs q n p m (N a) (N b) _ h0 al (BX h).2.1 H x).af ?_;rintro e z ⟨M,s,o,rfl,v,F,r,D⟩;have T:ef w z:=c.trans (D.af c.size);go_wp2_with fail
 refine(OX _ _ _ _ (mK _) al v).af ?_;rintro e A ⟨rfl,k⟩;have l:=r.aa k r.lt;have f:ef w A:=T.trans (k.af T.size);rw[kK];go_wp2_with fail
 refine(Us s o _ _ (mK _) F al l.lt (fun j u=>l.cell j u)).af ?_;rintro e Q ⟨rfl,E⟩;rw[kK];go_wp2;go_ret3
 exact⟨rfl,f.trans (E.af f.size)⟩
theorem anW (a b:ByteArray) (w:World) (ha:a.size<=1099511627776) (hb:b.size<=1099511627776):
  du 81 #[.string a,.string b] w (eS w (.string (B (Nat.gcd (N a) (N b))))):=by
 have V:=yE a 274877906944 al;have X:=yE b 274877906944 al;go_enter Tryz.func81,Tryz.ntmps81;go_wp2_with fail
 refine(yJ a _ al).af ?_;rintro e w1 ⟨g1,c1,rfl,l,q⟩;go_wp2_with fail
 refine(yJ b _ al).af ?_;rintro e w2 ⟨g2,c2,rfl,m,s⟩;have t:=xq l s;have I:=xq m (au _ _);have E:ef w w2:=q.trans (s.af q.size);have F:=(BX l).2.1;have H:=(BX m).2.1;go_wp2_with fail
 go_loopg [5,6] (N b) (fun r vx vy wr=>∃(x g c d y:Nat),vx=.slice (some ⟨g,0,none⟩) (words x).length c/\vy=.slice (some ⟨d,0,none⟩) (words r).length y/\(words x).length<=c/\(words r).length<=y/\(words x).length<=274877906944/\(words r).length<=274877906944/\Hid (bs wr g 0 (words x))/\Hid (bs wr d 0 (words r))/\Hid (Nat.gcd x r=Nat.gcd (N a) (N b))/\Hid (ef w wr))
 case atStart=>exact⟨_,_,_,_,_,rfl,rfl,F,H,V,X,t,I,rfl,E⟩
 case round=>
  obtain⟨x,g,c,d,y,rfl,rfl,u,xj,yV,ae,k,Y,f,h⟩:=hrel;clear t I E F H l m q s;by_cases p:gk=0
  ·subst p;rw[wG] at *;go_wp2_with fail
   refine(Us g c _ _ (mK _) u al k.o.lt (fun j T=>k.o.cell j T)).af ?_;rintro e z ⟨rfl,i⟩;rw[kK];go_wp2;go_ret;exact⟨by rw[<- f.o,Nat.gcd_zero_right];rfl,h.o.trans (i.af h.o.size)⟩
  ·have lB:=QS p;(have ah:¬(((words gk).length:Int)=0):=al);by_cases J:2<(words x).length
   focus
    go_wp2_with fail
   rotate_left
   focus
    by_cases D:2<(words gk).length
    focus
     go_wp2_with fail
    rotate_left
    ·have S:=Z7 (Nat.le_of_not_lt J);have A:=Z7 (Nat.le_of_not_lt D);go_wp2_with fail
     refine(Xb g c _ _ (mK _) (Nat.le_of_not_lt J) k.o).af ?_;rintro e z ⟨rfl,n⟩;subst n;rw[kK];go_wp2_with fail
     refine(Xb d y _ _ (mK _) (Nat.le_of_not_lt D) Y.o).af ?_;rintro e w6 ⟨rfl,n⟩;subst n;rw[kK];go_wp2_with fail
     refine(akD x gk _ S A).af ?_;rintro e w7 ⟨rfl,O⟩;have v:=h.o.trans (O.af h.o.size);rw[f.o];(have ab:Nat.gcd (N a) (N b)<18446744073709551616:=by rw[<- f.o];exact Mx (Nat.gcd_le_right _ (lR p)) A);go_wp2_with fail
     refine(Zw _ _ ab).af ?_;rintro e w8 ⟨rfl,Z⟩;go_wp2;go_ret;exact⟨rfl,v.trans (Z.af v.size)⟩
   all_goals
    refine(acs g c d y x gk _ p al u k.o Y.o).af ?_;rintro e z ⟨vq,Q,L,rfl,_,ad,U,i⟩;have P:(words (x % gk)).length<=274877906944:=aR (QT (Nat.mod_le _ _)) yV;have R:=aH U;have K:=aH (Y.o.aa i Y.o.lt);have M:=aH (h.o.trans (i.af h.o.size));(have ye:Hid (Nat.gcd gk (x % gk)=Nat.gcd (N a) (N b)):=by show _=_;rw[<- f.o,IU x gk,Nat.gcd_rec gk x,IU]);go_wp2;go_roundg (x % gk)
    case measure=>exact jQ _ (lR p)
    case rel=>exact⟨gk,d,y,Q,L,rfl,rfl,xj,ad,ae,P,K,R,ye,M⟩
variable {w0:World}
theorem o8 (k:Nat):∀n,n<256^k ->(bn n).length<=k:=by
 induction k with
 |zero=>
  intro n h;have:n=0:=by simpa using h
  subst this;simp[qb]
 |succ k ih=>
  intro n h;by_cases e:n=0
  ·subst e;simp[qb]
  ·rw[qd n e,bK,IZ];have:=ih (n/256) (FQ (by rw[gJ] at h;omega));omega
theorem Dw (n:Nat):n<256^(B n).size:=by
 have:=ug (bn n);rwa [Sh, <- lg] at this
theorem lY (h:m<=n):(B m).size<=(B n).size:=by
 rw[lg m];exact o8 _ _ (Mx h (Dw n))
theorem yH (m n:Nat):(B (m*n)).size<=(B m).size+(B n).size:=by
 rw[lg (m*n)];refine o8 _ _ ?_;rw[wC];exact IQ (Dw m) (Dw n)
theorem ae0 (m n:Nat):(B (m+n)).size<=(B m).size+(B n).size+1:=by
 rw[lg (m+n)];refine o8 _ _ ?_;have h:=Dw m;have a:=Dw n;have b:256^(B m).size<=256^((B m).size+(B n).size):=kE bd al;have c:256^(B n).size<=256^((B m).size+(B n).size):=kE bd al;rw[gJ];omega
theorem Dv:B 0=⟨#[]⟩:=by rw[B,qb]
theorem ac5:N ⟨#[]⟩=0:=rfl
theorem adR (h:B m=B n):m=n:=by rw[<- dA m,h,dA]
theorem FB (h:n≠0):(B n).toList.isEmpty=false:=by
 cases e:(B n).toList with
 |cons=>rfl
 |nil=>
  rw[Lib.toList_data] at e;have a:(B n).size=0:=by rw[ByteArray.size, <- DI,e];rfl
  have b:=Dw n;rw[a] at b;omega
theorem AQ (s:ByteArray):s.data.toList.length=s.size:=by rw[DI];rfl
theorem Qy:(B 1).size<=1:=by rw[lg];exact o8 1 1 bd
theorem under {P:Program} {f:FuncId} {args:Array Value} {X:Ending} (a:ef w0 w) (h:Calls P f args w fun e w'=>e=X/\ef w w'):Calls P f args w fun e w'=>e=X/\ef w0 w':=
 h.af fun _ _ ⟨b,c⟩=>⟨b,a.trans (c.af a.size)⟩
theorem anV {a b:ByteArray} (n:Nat) (c:ef w0 w) (h:Nat.gcd (N a) (N b)=n) (d:a.size<=1099511627776) (e:b.size<=1099511627776):
  du 81 #[.string a,.string b] w (eS w0 (.string (B n))):=by
 subst h;exact under c (anW a b w d e)
theorem ac3 {x:Int} (n:Nat) (a:ef w0 w) (h:x=(n:Int)) (b:x<=9223372036854775807):
  du 44 #[.int .i64 x] w (eS w0 (.string (B n))):=by
 have:=under a (ac4 x w al b);rwa [show x.toNat=n by omega] at this
theorem ac1 {a b:ByteArray} (n:Nat) (c:ef w0 w) (h:N a=N b+n) (d:a.size<=1099511627776) (e:b.size<=1099511627776):
  du 128 #[.string a,.string b] w (eS w0 (.tuple #[.string (B n),.bool true])):=by
 have:=under c (am9 a b w d e al);rwa [show N a - N b=n by omega] at this
theorem ana {a b:ByteArray} (c:ef w0 w) (h:N a<N b):
  du 128 #[.string a,.string b] w fun e w'=>e=.returned (.tuple #[.string ⟨#[]⟩,.bool false])/\ef w0 w':=under c (anb a b w h)
theorem adP {a b:ByteArray} (q r:Nat) (h:ef w0 w) (e:N a/N b=q) (f:N a % N b=r) (h0:N b≠0) (c:a.size<=1099511627776) (d:b.size<=1099511627776):
  du 82 #[.string a,.string b] w (eS w0 (.tuple #[.string (B q),.string (B r),.bool true])):=by
 subst e f;exact under h (anX a b w c d h0)
def nd:List Nat ->Nat
 |[]=>0
 |x::r=>x+256*nd r
theorem DY (x:Nat) (r:List Nat):nd (x::r)=x+256*nd r:=rfl
theorem Sg (n:Nat):nd (List.replicate n 0)=0:=by
 induction n with
 |zero=>rfl
 |succ n ih=>rw[IW,DY,ih]
theorem Nz (l:List Nat):∀(j y:Nat) (h:j<l.length),nd (l.set j y)+l[j]*256^j=nd l+y*256^j:=by
 induction l with
 |nil=>intro j y h;exact absurd h (BA _)
 |cons x r ih=>
  intro j y h;cases j with
  |zero=>simp only[cN,DY,List.getElem_cons_zero,Nat.pow_zero,kF];omega
  |succ j=>
   (have b:j<r.length:=by simpa using h);have:=ih j y b;simp only[dC,DY,List.getElem_cons_succ,gJ];(have e:r[j]*(256^j*256)=256*(r[j]*256^j):=by rw[<- iP,dK]);(have a:y*(256^j*256)=256*(y*256^j):=by rw[<- iP,dK]);rw[e,a];omega
def rA (l:List Nat):Prop:=∀x∈l,x<256
theorem UE (n:Nat):rA (List.replicate n 0):=fun x h=>by rw[(List.mem_replicate.1 h).2];decide
theorem KZ {l:List Nat} (h:rA l) (j y:Nat) (c:y<256):rA (l.set j y):=fun x b=>by
 rcases WN b with a |a
 ·exact h x a
 ·rw[a];exact c
theorem ahU (l:List Nat) (h:rA l):nd l<256^l.length:=by
 induction l with
 |nil=>decide
 |cons x r ih=>
  have b:=ih fun y a=>h y (dF _ a);have c:=h x dp;rw[DY,ew,gJ];omega
def rb (l:List Nat):List UInt8:=l.reverse.map UInt8.ofNat
theorem ahX (l:List Nat) (h:rA l):nb (rb l)=nd l:=by
 induction l with
 |nil=>rfl
 |cons x r ih=>
  have a:=ih fun y b=>h y (dF _ b);have c:=h x dp;have:rb (x::r)=rb r++[UInt8.ofNat x]:=by simp[rb]
  rw[this,yQ,a,DY];have:(UInt8.ofNat x).toNat=x:=by simp;omega
  omega
theorem ah1 (l:List UInt8) (i:Nat) (h:i<l.length):nb l/256^i % 256=(l[l.length - 1 - i]'al).toNat:=by
 have e:l=l.take (l.length - 1 - i)++(l[l.length - 1 - i]'al::l.drop (l.length - i)):=by
  have a:=BB (l.length - 1 - i) l;have d:l.drop (l.length - 1 - i)=l[l.length - 1 - i]'al::l.drop (l.length - 1 - i+1):=nP al;rw[d,show l.length - 1 - i+1=l.length - i by omega] at a;exact a.symm
 have b:(l.drop (l.length - i)).length=i:=by rw[nN];omega
 have t:=ug (l.drop (l.length - i));rw[b] at t
 have n:nb l=(nb (l.take (l.length - 1 - i))*256+(l[l.length - 1 - i]'al).toNat)*256^i+nb (l.drop (l.length - i)):=by
  conv=>lhs;rw[e]
  rw[B4,D6,ew,b,gJ,fF,iP,dK 256 (256^i),zT]
 generalize (l[l.length - 1 - i]'al)=c at *;generalize nb (l.take (l.length - 1 - i))=p at *;have f:=c.toNat_lt;rw[n,dK,Nat.mul_add_div (nI bd),yr t,gK];omega
theorem ah0 (l:List UInt8) (i:Nat) (h:l.length<=i):nb l/256^i % 256=0:=by
 rw[yr (aU (ug l) (kE bd h))]
theorem alz (l:List UInt8):∀k,k<=l.length ->(l.take k).all (·==0)=true ->(∀h:k<l.length,l[k]≠0) ->l.dropWhile (·==0)=l.drop k:=by
 induction l with
 |nil=>intro k _ _ _;simp
 |cons x r ih=>
  intro k c a b;cases k with
  |zero=>
   have:x≠0:=b aE;rw[List.dropWhile_cons,aD (by simpa using this),BM]
  |succ k=>
   simp only[List.take_succ_cons,List.all_cons,kj] at a;rw[List.dropWhile_cons,aA a.1,List.drop_succ_cons];exact ih k (by simpa using c) a.2 (fun h=>by have:=b (by simpa using h);simpa using this)
theorem Gm (n k:Nat):n % 256^(k+1)=n % 256^k+256^k*(n/256^k % 256):=by
 rw[gJ,Nat.mod_mul]
theorem Xv (s:ByteArray) (k:Nat) (a:k<=s.size) (h0:(s.data.toList.take k).all (·==0)=true) (h1:∀h:k<s.size,s[k].toNat≠0):s.extract k s.size=B (N s):=by
 have e:s.data.toList.dropWhile (·==0)=s.data.toList.drop k:=alz _ k (by simpa using a) h0 (fun h z=>h1 (by simpa using h) (by
  have:s[k]'(by simpa using h)=s.data.toList[k]:=rfl;rw[this,z];rfl))
 apply ByteArray.ext;apply Array.toList_inj.1;rw[B,N,UQ,e];show (s.extract k s.size).data.toList=_;rw[ByteArray.data_extract,Array.toList_extract];simp[lT]
theorem nV (s:ByteArray) (w:World) (d:s.size<=140737488355328):
  du 169 #[.string s] w fun e w'=>e=.returned (.string (B (N s)))/\w'=w:=by
 go_enter Tryz.func169,Tryz.ntmps169;go_wp2;go_loop [3] (fun i=>∃k:Nat,k<=s.size/\i=.int .i64 k/\(s.data.toList.take k).all (·==0)=true) (fun i=>s.size - (intOf i).toNat)
 case atStart=>exact⟨0,aV _,rfl,rfl⟩
 case round=>
  obtain⟨k,a,rfl,b⟩:=hrel;have A:Hid ((s.data.toList.take k).all (·==0)=true):=b;clear b;by_cases l:k<s.size
  ·by_cases c:s[k].toNat=0
   ·have H:Hid ((s.data.toList.take (k+1)).all (·==0)=true):=by
     show _=_;rw[Jp s k l,List.all_append,A.o];have:s[k]=0:=Mu.1 c;simp[this]
    go_wp2;go_round
    case rel=>exact⟨k+1,al,b5,H.o⟩
    case measure=>simp[intOf];omega
   ·have E:=aH (Xv s k a A.o fun _=>c);go_wp2;go_ret;exact⟨by rw[<- E.o];rfl,rfl⟩
  ·have E:=aH (Xv s k a A.o fun h=>absurd h l);go_wp2;go_ret;exact⟨by rw[<- E.o];rfl,rfl⟩
theorem WV (n:Nat) (h:n<256):wrap64 (n:Int)=(n:Int):=by
 rw[wrap64];omega
theorem Hq (s:ByteArray) (i:Nat) (w:World) (b:s.size<=140737488355328) (a:i<=9223372036854775807):
  du 112 #[.string s,.int .i64 (i:Int)] w fun e w'=>e=.returned (.int .i64 ((N s/256^i % 256:Nat):Int))/\w'=w:=by
 go_enter Tryz.func112,Tryz.ntmps112;by_cases l:i<s.size
 ·have D:Hid (N s/256^i % 256=(s[s.size - 1 - i]'al).toNat):=by
   show _=_;rw[N,ah1 _ i (by simpa using l)];simp;rfl
  have x:0<=(s.size:Int) - 1 - i:=al
  have h:=WV _ (s[s.size - 1 - i]'al).toNat_lt;have H:=aH h;clear h;go_wp2;go_ret;exact⟨by rw[D.o];exact dh (fun z=>Ending.returned (Value.int .i64 z)) H.o,rfl⟩
 ·have D:Hid (N s/256^i % 256=0):=ah0 _ i (by simp;omega);go_wp2;go_ret;exact⟨by rw[D.o];rfl,rfl⟩
def iv (x:Nat):Value:=.int .i64 (x:Int)
def cM (w:World) (g:Nat) (l:List Nat):Prop:=w.heap[g]? =some (.cells (l.map iv).toArray 3 (0,0))
theorem cM.cell {l:List Nat} (h:cM w g l) (j:Nat) (a:j<l.length):w.cell? ⟨g,j,none⟩=some (.int .i64 (l[j]:Nat)):=by
 rw[bG w g j _ _ (0,0) h];simp[iv,a]
theorem cM.fz {l:List Nat} (h:cM w g l) (j:Nat):w.frozen? ⟨g,j,none⟩=false:=jw w g j _ _ h
theorem cM.lt {l:List Nat} (h:cM w g l):g<w.heap.size:=(cJ.1 h).1
theorem cM.aa {b:Nat} {l:List Nat} (h:cM w g l) (a:Below b w w') (c:g<b):cM w' g l:=(a.block g c).trans h
theorem cM.set {l:List Nat} (h:cM w g l) (j y:Nat):cM (w.setCell ⟨g,j,none⟩ (.int .i64 (y:Int))) g (l.set j y):=by
 have:=jf w g j _ _ (.int .i64 (y:Int)) h;rw[cM,DD];simpa [iv] using this
def rI (l:List Nat) (k:Nat):List Int:=List.replicate (l.length - k) 0++((l.take k).reverse.map Int.ofNat)
theorem ag5 (l:List Nat):rI l 0=List.replicate l.length 0:=by simp[rI]
theorem ag7 (l:List Nat) (k:Nat) (h:k<=l.length):(rI l k).length=l.length:=by simp[rI];omega
theorem ag6 (l:List Nat) (k:Nat) (c:k<l.length):(rI l k).set (l.length - 1 - k) (l[k]:Int)=rI l (k+1):=by
 have h:l.length - k=(l.length - 1 - k)+1:=al
 have a:List.replicate (l.length - k) (0:Int)=List.replicate (l.length - 1 - k) 0++[0]:=by rw[h,List.replicate_succ']
 have b:l.length - (k+1)=l.length - 1 - k:=al
 rw[rI,rI,a,lV,BC _ _ aE,b];rw[BF,mF,fG,jy,cN,iF c,List.reverse_append,List.reverse_singleton,eP];rfl
theorem ag8 (l:List Nat):rI l l.length=l.reverse.map Int.ofNat:=by simp[rI]
theorem ane (l:List Nat) (h:rA l):N (strOfNums (l.reverse.map Int.ofNat))=nd l:=by
 rw[N,IC, <- ahX l h,rb];congr 1
 simp[Function.comp_def]
theorem Gq (n:Nat):(madeCells (Value.int .i64 0).cells (n*1)).toList=(List.replicate n (0:Nat)).map iv:=by
 rw[show (Value.int .i64 0).cells= #[Value.int .i64 0] from rfl,FK,kF,MC];rfl
theorem Tryz.infoInt:(Tryz.prog.info? 3).map (fun i=>(i.zero,i.size,i.bytes))=some (some (.int .i64 0),1,8):=ao
theorem RH (g:Nat) (l:List Nat) (w:World) (d:rA l) (ah:l.length<=140737488355328) (h:cM w g l):
  du 113 #[.slice (some ⟨g,0,none⟩) l.length l.length] w (eS w (.string (B (nd l)))):=by
 obtain⟨F,j,Q,R,S⟩:=dJ Tryz.infoByte;have K:=h.lt;have r:Hid (cM w g l):=h;have a:Hid (N (strOfNums (l.reverse.map Int.ofNat))=nd l):=ane l d;have D:Hid (rA l):=d;clear h d;go_enter Tryz.func113,Tryz.ntmps113
 go_wp2_with (first
  |(at_make;refine lj _ rfl _ _ 157 rfl w.heap.size 5 F (.int .u8 0) 1 Tryz.underlying157 j Q R .i64 .i64 _ _ l.length rfl rfl al al (by rw[S];omega) (by unfold maxLen;omega) (aq _) ?_;intro n s v))
 have c:=qg s;rw[Z4, <- ag5] at c;have p:ef w n:=(au _ w).grown v (aq _) (fun k e=>by cases e);have I:Hid (n.heap[w.heap.size]? =some (.cells ((rI l 0).map u8).toArray 5 (0,0))):=c;clear s v c
 go_loopw [4] (fun i wr=>∃k:Nat,k<=l.length/\i=.int .i64 k/\Hid (wr.heap[w.heap.size]? =some (.cells ((rI l k).map u8).toArray 5 (0,0)))/\ef w wr)
  (fun i _=>l.length - (intOf i).toNat)
 case atStart=>exact⟨0,aV _,rfl,I,p⟩
 case round=>
  obtain⟨k,A,rfl,H,b⟩:=hrel;clear I p;by_cases t:k<l.length
  ·have ad:wr.cell? ⟨g,k,none⟩=some (.int .i64 (l[k]:Nat)):=(r.o.aa b K).cell k t;have hx:=D.o l[k] (bF t);have O:=aH (ag6 l k t);obtain⟨E,f⟩:∃E,E=l.length - 1 - k:=⟨_,rfl⟩;rw[<- f] at O;(have Z:(l.length:Int) - 1 - (k:Int)=(E:Int):=al);(have y:E<l.length:=al)
   have ab:wr.cell? ⟨w.heap.size,E,none⟩=some (.int .u8 ((rI l k)[E]?.getD 0)):=by
    rw[bG wr _ E _ _ (0,0) H.o];(have:E<(rI l k).length:=by rw[ag7 l k A];exact y);simp[Go.Proofs.YtdmdhjmcoijpaaaGreatDoor.u8,bj this]
   have ae:=jw wr w.heap.size E _ _ H.o;have T:=aH (fun u=>jf wr w.heap.size E _ _ u H.o);generalize l[k]=x at *;generalize (rI l k)[E]?.getD 0=z at *;clear f;go_wp2;have U:=T.o (.int .u8 (x:Int));go_roundw
   case rel=>
    refine⟨k+1,al,b5,?_,b.setCell (aq _) _⟩;show _=_;rw[U, <- O.o,DD];simp[Go.Proofs.YtdmdhjmcoijpaaaGreatDoor.u8]
   case measure=>simp[intOf];omega
  ·obtain rfl:k=l.length:=al
   have J:=ag8 l;(have X:(l.reverse.map Int.ofNat).length=l.length:=aE);have q:=a.o;clear a r D;generalize l.reverse.map Int.ofNat=m at *;have a:=aH q;clear q
   have V:=ID (P:=Tryz.prog) wr 157 5 Tryz.underlying157 Tryz.underlying5 w.heap.size 0 l.length l.length m X (fun i j=>by
    have e:=bG wr w.heap.size (0+i) _ _ _ H.o;rw[e,J];(have Y:i<m.length:=al);simp[Go.Proofs.YtdmdhjmcoijpaaaGreatDoor.u8,bj Y,bY]) 40 Tryz.underlying40
   clear H J
   have L:(strOfNums m).size<=140737488355328:=by
    rw[<- AQ,IC,dM];omega
   go_wp2_with (go_at_call 169;refine(nV _ _ L).af ?_;rintro e w3 ⟨rfl,M⟩;subst M)
   go_ret;exact⟨by rw[a.o];rfl,b⟩
variable {D c:Nat}
theorem acL (v P:Nat):v % 256*P+v/256*(P*256)=v*P:=by
 have h:v=v/256*256+v % 256:=al
 conv=>rhs;rw[h,fF,iP,dK 256 P]
 omega
theorem amV {A:Nat} {p:List Nat} (a:k<p.length) (h0:p[k]?.getD 0=0) (h:nd p+c*256^k=A % 256^k+D % 256^k):
  nd (p.set k ((c+A/256^k % 256+D/256^k % 256) % 256))+(c+A/256^k % 256+D/256^k % 256)/256*256^(k+1)=A % 256^(k+1)+D % 256^(k+1):=by
 have s:=Nz p k ((c+A/256^k % 256+D/256^k % 256) % 256) a;have j:p[k]=0:=by rwa [bj a] at h0
 rw[j,jO,gK] at s;rw[s,Gm,Gm D,gJ];have:=acL (c+A/256^k % 256+D/256^k % 256) (256^k)
 have e:(c+A/256^k % 256+D/256^k % 256)*256^k=c*256^k+256^k*(A/256^k % 256)+256^k*(D/256^k % 256):=by
  rw[fF,fF,dK (A/256^k % 256),dK (D/256^k % 256)]
 omega
theorem Rp {p:List Nat} {y:Nat} (h:∀j,k<=j ->p[j]?.getD 0=0):∀j,k+1<=j ->(p.set k y)[j]?.getD 0=0:=fun j a=>by
 rw[QL al];exact h j al
theorem amW {A:Nat} {p:List Nat} (d:A<256^n) (e:D<256^n) (h:nd p+c*256^(n+1)=A % 256^(n+1)+D % 256^(n+1)):nd p=A+D:=by
 have f:256^(n+1)=256*256^n:=by rw[gJ,dK]
 rw[kI al,kI al] at h
 have b:c=0:=by
  rcases yq c with a |a
  ·exact a
  ·have:1*256^(n+1)<=c*256^(n+1):=lS _ a;omega
 rw[b] at h;omega
theorem AU (s:ByteArray):N s<256^s.size:=by
 have:=ug s.data.toList;rwa [AQ] at this
theorem agn (a b:ByteArray) (w:World) (ha:a.size<=1000000) (hb:b.size<=1000000):
  du 72 #[.string a,.string b] w (eS w (.string (B (N a+N b)))):=by
 obtain⟨U,R,ah,ai,aj⟩:=dJ Tryz.infoInt;obtain⟨n,S⟩:∃n,n=max a.size b.size:=⟨_,rfl⟩;have ab:a.size<=n:=al
 have uk:b.size<=n:=al
 have cK:n<=1000000:=al
 have M:(b.size<=a.size/\a.size=n)∨(a.size<b.size/\b.size=n):=al
 clear S;have mC:Hid (N a<256^n):=aU (AU a) (kE bd ab);have vW:Hid (N b<256^n):=aU (AU b) (kE bd uk);have P:=aH (fun (k:Nat) (V:World) (h:k<=9223372036854775807)=>Hq a k V al h);have O:=aH (fun (k:Nat) (V:World) (h:k<=9223372036854775807)=>Hq b k V al h);generalize hA:N a=A at *;generalize hD:N b=D at *;clear hA hD;go_enter Tryz.func72,Tryz.ntmps72;rcases M with ⟨t,u⟩ |⟨t,u⟩
 all_goals
  go_wp2_with (first
   |(at_make;refine lj _ rfl _ _ 22 rfl w.heap.size 3 U (.int .i64 0) 1 Tryz.underlying22 R ah ai .i64 .i64 _ _ (n+1) rfl rfl b5 b5 (by rw[aj];omega) (by unfold maxLen;omega) (aq _) ?_;intro m F K))
  have g:=qg F;rw[Gq] at g;have s:ef w m:=(au _ w).grown K (aq _) (fun k e=>by cases e);have I:Hid (cM m w.heap.size (List.replicate (n+1) 0)):=g;clear F K g t u
  go_loopw [7,8] (fun cv iv wr=>∃(k c:Nat) (p:List Nat),k<=n+1/\iv=.int .i64 k/\cv=.int .i64 c/\c<=1/\p.length=n+1/\Hid (rA p)/\Hid (∀j,k<=j ->p[j]?.getD 0=0)/\Hid (nd p+c*256^k=A % 256^k+D % 256^k)/\Hid (cM wr w.heap.size p)/\ef w wr)
   (fun _ i _=>n+1 - (intOf i).toNat)
  case atStart=>exact⟨0,0,List.replicate (n+1) 0,aV _,rfl,rfl,aV _,aE,UE _,(fun j _=>by rw[QM];split<;>rfl),(show _=_ by rw[Sg];simp[Nat.mod_one]),I,s⟩
  case round=>
   obtain⟨k,c,p,hk,rfl,rfl,hc,v,r,Z,E,H,d⟩:=hrel;clear I s;by_cases ao:k<n+1
   ·have J:k<p.length:=al
    have ak:=aH (amV J (Z.o k (aq _)) E.o);have X:=aH (fun V=>P.o k V al);have Y:=aH (fun V=>O.o k V al);have hx:A/256^k % 256<256:=jQ _ bd;have hy:D/256^k % 256<256:=jQ _ bd;generalize A/256^k % 256=x at *;generalize D/256^k % 256=y at *;have av:=H.o.cell k J;have an:=H.o.fz k;have Q:=aH (fun z=>H.o.set k z);generalize p[k]=pk at *;clear E
    go_wp2_with (first
     |(have ax:=ae;go_at_call 112;refine(Y.o _).af ?_;rintro e q ⟨rfl,l⟩;subst l)
     |(go_at_call 112;refine(X.o _).af ?_;rintro e q ⟨rfl,l⟩;subst l;have ae:True:=trivial))
    have T:Value.int .i64 (((c:Int)+(x:Int)+(y:Int)) % 256)=.int .i64 (((c+x+y) % 256:Nat):Int):=int_eq al;have ad:Value.int .i64 (((c:Int)+(x:Int)+(y:Int))/256)=.int .i64 (((c+x+y)/256:Nat):Int):=int_eq al;rw[T,ad];go_roundw
    case rel=>exact⟨k+1,(c+x+y)/256,p.set k ((c+x+y) % 256),al,b5,rfl,al,by rw[kg];exact v,KZ r.o _ _ (jQ _ bd),Rp Z.o,ak.o,Q.o _,d.setCell (aq _) _⟩
    case measure=>simp[intOf];omega
   ·obtain rfl:k=n+1:=al
    have f:=RH w.heap.size p wr r.o al H.o;rw[v,amW mC.o vW.o E.o] at f;have L:=aH f;clear f;go_wp2_with (go_at_call 113;refine(L.o).af ?_;rintro e q ⟨rfl,aa⟩)
    go_ret;exact⟨rfl,d.trans (aa.af d.size)⟩
theorem Pj {b:Nat} {v u:World} (h:Below b v u) (k:Nat):Below b v (u.drewN k):=⟨h.os,h.tape,h.output,h.size,h.block⟩
theorem Z9 (a b:ByteArray) (k:Nat) (j:k<a.size) (m:k<b.size) (n:a.size=b.size) (p:a.data.toList.take k=b.data.toList.take k) (h:a[k].toNat<b[k].toNat):N a<N b:=by
 have f:a.data.toList=a.data.toList.take k++(a[k]::a.data.toList.drop (k+1)):=by
  have d:a.data.toList.drop k=a[k]::a.data.toList.drop (k+1):=nP (l:=a.data.toList) (i:=k) (by simpa using j);rw[<- d,BB]
 have g:b.data.toList=b.data.toList.take k++(b[k]::b.data.toList.drop (k+1)):=by
  have d:b.data.toList.drop k=b[k]::b.data.toList.drop (k+1):=nP (l:=b.data.toList) (i:=k) (by simpa using m);rw[<- d,BB]
 rw[N,N,f,g,p,B4,B4,D6,D6];have c:(a.data.toList.drop (k+1)).length=a.size - (k+1):=by rw[nN,AQ]
 have q:(b.data.toList.drop (k+1)).length=a.size - (k+1):=by rw[nN,AQ,n]
 have e:=ug (a.data.toList.drop (k+1));rw[c] at e;rw[ew,ew,c,q];have o:(a[k].toNat+1)*256^(a.size - (k+1))<=b[k].toNat*256^(a.size - (k+1)):=lS _ h;rw[fF,jP] at o;omega
theorem Z8 (h:(B m).size<(B n).size):m<n:=by
 rcases cT m n with a |a
 ·exact a
 ·have:=lY a;omega
theorem UL (h:m<n):js m n= -1:=aA h
theorem acF (h:n<m):js m n=1:=by rw[js,aD al,aD al]
theorem al8 (h:m=n):js m n=0:=by rw[js,aD al,aA h]
theorem alv (l:(B m).size=(B n).size) (h:(B m).data.toList.take (B m).size=(B n).data.toList.take (B m).size):m=n:=by
 rw[lT (by rw[AQ];exact aq _),lT (by rw[AQ,l];exact aq _)] at h;exact adR (ByteArray.ext (Array.toList_inj.1 h))
theorem YL (a b:ByteArray) (w:World) (E:a.size<=1000000) (I:b.size<=1000000):
  du 236 #[.string a,.string b] w (eS w (.int .i64 (js (N a) (N b)))):=by
 have v:=aH (nV a w al);have q:=aH (nV b w al);have O:=aR (ju a) E;have P:=aR (ju b) I;have D:=aH (fun h=>UL (Z8 (m:=N a) (n:=N b) h));have u:=aH (fun h=>acF (Z8 (m:=N b) (n:=N a) h));have L:=aH (fun l p=>al8 (alv (m:=N a) (n:=N b) l p));have J:=aH (fun k f g l p h=>UL (m:=N a) (n:=N b) (by have:=Z9 (B (N a)) (B (N b)) k f g l p h;rwa [dA,dA] at this));have K:=aH (fun k f g l p h=>acF (m:=N a) (n:=N b) (by have:=Z9 (B (N b)) (B (N a)) k f g l p h;rwa [dA,dA] at this));generalize js (N a) (N b)=r at *;generalize B (N a)=x at *;generalize B (N b)=y at *;go_enter Tryz.func236,Tryz.ntmps236;go_wp2_with fail
 refine(v.o).af ?_;rintro e z ⟨rfl,j⟩;subst j;go_wp2_with fail
 refine(q.o).af ?_;rintro e z ⟨rfl,j⟩;subst j;clear v q;rcases (show x.size<y.size∨y.size<x.size∨x.size=y.size by omega) with s |s |s
 ·go_wp2;go_ret;exact⟨by rw[D.o s];rfl,au _ _⟩
 ·go_wp2;go_ret;exact⟨by rw[u.o s];rfl,au _ _⟩
 ·clear D u;go_wp2;go_loopw [5] (fun i wr=>∃k:Nat,k<=x.size/\i=.int .i64 k/\Hid (x.data.toList.take k=y.data.toList.take k)/\ef z wr) (fun i _=>x.size - (intOf i).toNat)
  case atStart=>exact⟨0,aV _,rfl,rfl,au _ _⟩
  case round=>
   obtain⟨k,M,rfl,H,d⟩:=hrel;by_cases t:k<x.size
   ·have A:k<y.size:=al
    rcases (show x[k].toNat<y[k].toNat∨y[k].toNat<x[k].toNat∨x[k].toNat=y[k].toNat by omega) with c |c |c
    ·have F:=aH (J.o k t A s H.o c);go_wp2_with fail
     go_quiet (fail)
     go_wp2;go_ret;exact⟨by rw[F.o];rfl,Pj d _⟩
    ·have F:=aH (K.o k A t s.symm H.o.symm c);go_wp2_with fail
     go_quiet (fail)
     go_wp2_with fail
     go_quiet (fail)
     go_wp2;go_ret;exact⟨by rw[F.o];rfl,Pj (Pj d _) _⟩
    ·have S:Hid (x.data.toList.take (k+1)=y.data.toList.take (k+1)):=by
      show _=_;rw[Jp x k t,Jp y k A,H.o,Mu.1 c]
     go_wp2_with fail
     go_quiet (fail)
     go_wp2_with fail
     go_quiet (fail)
     go_wp2;go_roundw
     case rel=>exact⟨k+1,al,b5,S.o,Pj d _⟩
     case measure=>simp[intOf];omega
   ·obtain rfl:k=x.size:=al
    have F:=aH (L.o s H.o);go_wp2;go_ret;exact⟨by rw[F.o];rfl,d⟩
theorem ae3 {A y:Nat} {p:List Nat} (b:k<p.length) (h0:p[k]?.getD 0=0) (h:nd p+D % 256^k=A % 256^k+c*256^k) (a:Nat) (f:A/256^k % 256+a*256=y+D/256^k % 256+c):
  nd (p.set k y)+D % 256^(k+1)=A % 256^(k+1)+a*256^(k+1):=by
 have s:=Nz p k y b;have j:p[k]=0:=by rwa [bj b] at h0
 rw[j,jO,gK] at s;rw[s,Gm,Gm A,gJ];have e:=dh (fun z=>z*256^k) f;simp only[fF] at e;have d:a*256*256^k=a*(256^k*256):=by rw[iP,dK 256]
 rw[d] at e;rw[dK (256^k) (D/256^k % 256),dK (256^k) (A/256^k % 256)];omega
theorem al7 (h:n<=m):0<=js m n:=by
 rw[js,aD al];split<;>decide
theorem ae4 {A:Nat} {p:List Nat} (b:A<256^n) (e:D<=A) (f:nd p<256^n) (h:nd p+D % 256^n=A % 256^n+c*256^n):nd p=A - D:=by
 rw[kI b,kI al] at h
 have d:c=0:=by
  rcases yq c with a |a
  ·exact a
  ·have:1*256^n<=c*256^n:=lS _ a;omega
 rw[d] at h;omega
theorem aga (a b:ByteArray) (w:World) (d:a.size<=1000000) (f:b.size<=1000000) (h:N a<N b):
  du 217 #[.string a,.string b] w (eS w (.tuple #[.string ⟨#[]⟩,.bool false])):=by
 have c:=YL a b w d f;rw[UL h] at c;have HC:=aH c;clear c h;go_enter Tryz.func217,Tryz.ntmps217;go_wp2_with fail
 refine(HC.o).af ?_;rintro e i ⟨rfl,g⟩;go_wp2;go_ret2;exact⟨rfl,g⟩
theorem af9 (a b:ByteArray) (w:World) (ha:a.size<=1000000) (M:b.size<=1000000) (h:N b<=N a):
  du 217 #[.string a,.string b] w (eS w (.tuple #[.string (B (N a - N b)),.bool true])):=by
 obtain⟨i0,hi,ae,ah,ai⟩:=dJ Tryz.infoInt;have g:=YL a b w ha M;have s:∃r:Int,js (N a) (N b)=r/\0<=r:=⟨_,rfl,al7 h⟩;obtain⟨r,s,hr⟩:=s;rw[s] at g;have HC:=aH g;have T:=aH (fun V=>nV b V al);have sb:=aR (ju b) M;have mC:=aH (AU a);have VS:=aH h;have Iz:=aH (fun (k:Nat) (V:World) (h:k<=9223372036854775807)=>Hq a k V al h);have K:=fun (k:Nat) (V:World) (h:k<=9223372036854775807)=>Hq (B (N b)) k V al h;rw[dA] at K;have Iy:=aH K;clear g s K h;generalize B (N b)=y' at *;generalize hA:N a=A at *;generalize hD:N b=D at *;clear hA hD;generalize hn:a.size=n at *;go_enter Tryz.func217,Tryz.ntmps217;go_wp2_with fail
 refine(HC.o).af ?_;rintro e w1 ⟨rfl,q⟩;clear HC;go_wp2_with fail
 refine(T.o _).af ?_;rintro e w9 ⟨rfl,ad⟩;subst ad;clear T
 go_wp2_with (first
  |(at_make;refine lj _ rfl _ _ 22 rfl w9.heap.size 3 i0 (.int .i64 0) 1 Tryz.underlying22 hi ae ah .i64 .i64 _ _ n rfl rfl b5 b5 (by rw[ai];omega) (by unfold maxLen;omega) (aq _) ?_;intro P R aa))
 have F:=qg R;rw[Gq] at F;have Q:ef w9 P:=(au _ w9).grown aa (aq _) (fun k e=>by cases e);have J:Hid (cM P w9.heap.size (List.replicate n 0)):=F;clear R aa F
 go_loopw [8,9] (fun cv iv wr=>∃(k c:Nat) (p:List Nat),k<=n/\iv=.int .i64 k/\cv=.int .i64 c/\c<=1/\p.length=n/\Hid (rA p)/\Hid (∀j,k<=j ->p[j]?.getD 0=0)/\Hid (nd p+D % 256^k=A % 256^k+c*256^k)/\Hid (cM wr w9.heap.size p)/\ef w9 wr)
  (fun _ i _=>n - (intOf i).toNat)
 case atStart=>exact⟨0,0,List.replicate n 0,aV _,rfl,rfl,aV _,aE,UE _,(fun j _=>by rw[QM];split<;>rfl),(show _=_ by rw[Sg];simp[Nat.mod_one]),J,Q⟩
 case round=>
  obtain⟨k,c,p,hk,rfl,rfl,g,t,l,Z,E,H,f⟩:=hrel;clear J Q;by_cases an:k<n
  ·have L:k<p.length:=al
   have S:=aH (fun y c'=>ae3 (y:=y) L (Z.o k (aq _)) E.o c');have X:=aH (fun V=>Iz.o k V al);have Y:=aH (fun V=>Iy.o k V al);have hx:A/256^k % 256<256:=jQ _ bd;have hy:D/256^k % 256<256:=jQ _ bd;generalize A/256^k % 256=x at *;generalize D/256^k % 256=y at *;have ao:=H.o.cell k L;have ak:=H.o.fz k;have O:=aH (fun z=>H.o.set k z);generalize p[k]=pk at *;clear E;by_cases Tc:(x:Int) - y - c<0
   ·go_wp2_with (first
     |(have aj:=I;go_at_call 112;refine(Y.o _).af ?_;rintro e m ⟨rfl,d⟩;subst d)
     |(go_at_call 112;refine(X.o _).af ?_;rintro e m ⟨rfl,d⟩;subst d;have I:True:=trivial))
    have v:Value.int .i64 ((x:Int) - (y:Int) - (c:Int)+256)=.int .i64 ((x+256 - y - c:Nat):Int):=int_eq al;rw[v];go_roundw
    case rel=>exact⟨k+1,1,p.set k (x+256 - y - c),al,b5,rfl,al,by rw[kg];exact t,KZ l.o _ _ al,Rp Z.o,S.o _ 1 al,O.o _,f.setCell (aq _) _⟩
    case measure=>simp[intOf];omega
   ·go_wp2_with (first
     |(have aj:=I;go_at_call 112;refine(Y.o _).af ?_;rintro e m ⟨rfl,d⟩;subst d)
     |(go_at_call 112;refine(X.o _).af ?_;rintro e m ⟨rfl,d⟩;subst d;have I:True:=trivial))
    have v:Value.int .i64 ((x:Int) - (y:Int) - (c:Int))=.int .i64 ((x - y - c:Nat):Int):=int_eq al;rw[v];go_roundw
    case rel=>exact⟨k+1,0,p.set k (x - y - c),al,b5,rfl,al,by rw[kg];exact t,KZ l.o _ _ al,Rp Z.o,S.o _ 0 al,O.o _,f.setCell (aq _) _⟩
    case measure=>simp[intOf];omega
  ·obtain rfl:k=n:=al
   have u:=RH w9.heap.size p wr l.o al H.o;have U:=ahU p l.o;rw[t] at U;rw[t,ae4 mC.o VS.o U E.o] at u;have A5:=aH u;clear u U;go_wp2_with (go_at_call 113;refine(A5.o).af ?_;rintro e m ⟨rfl,ab⟩)
   go_ret2;exact⟨rfl,(q.trans (f.af q.size)).trans (ab.af (q.trans (f.af q.size)).size)⟩
theorem Jy (n:Int) (w:World) (h0: -9223372036854775808<=n) (h1:n<=9223372036854775807):
  du 71 #[.int .i64 n] w (eS w (.string (B n.toNat))):=by
 go_enter Tryz.func71,Tryz.ntmps71;go_wp2;go_loopw [0,3] (fun v a wr=>∃(z:Int) (s:ByteArray),v=.int .i64 z/\a=.string s/\ -9223372036854775808<=z/\z<=9223372036854775807/\Hid (bn z.toNat++s.data.toList=bn n.toNat)/\ef w wr) (fun v _ _=>(intOf v).toNat)
 case atStart=>exact⟨n,⟨#[]⟩,rfl,rfl,h0,h1,(show _=_ by simp),au _ _⟩
 case round=>
  obtain⟨z,s,rfl,rfl,g,j,H,b⟩:=hrel;by_cases d:0<z
  ·have A:=ID (P:=Tryz.prog) (wr.alloc (.cells #[.int .u8 (z % 256)] 5)) 157 5 Tryz.underlying157 Tryz.underlying5 wr.heap.size 0 1 1 [z % 256] rfl (fun i h=>by
    (obtain rfl:i=0:=al);rw[bG _ wr.heap.size (0+0) _ _ (0,0) (dB _ _)];rfl) 40 Tryz.underlying40
   have q:Hid (bn (z/256).toNat++(strOfNums [z % 256]++s).data.toList=bn n.toNat):=by
    show _=_;rw[<- H.o,qd z.toNat al,ByteArray.data_append,Array.toList_append,IC,show (z/256).toNat=z.toNat/256 by omega,lV];(have:UInt8.ofNat (z % 256).toNat=UInt8.ofNat (z.toNat % 256):=by congr 1;omega);simp[this]
   have c:s.size<=8:=by
    have e:=dh List.length H.o;rw[bK,AQ] at e;have:=o8 8 n.toNat (by show n.toNat<18446744073709551616;omega);omega
   have f:(strOfNums [z % 256]).size=1:=strOfNums_size _;go_wp2;go_roundw
   case rel=>exact⟨z/256,strOfNums [z % 256]++s,rfl,rfl,al,al,q.o,b.alloc b.size _⟩
   case measure=>simp[intOf];omega
  ·have E:Hid (s=B n.toNat):=by
    show s=_;have:=H.o;rw[show z.toNat=0 by omega,qb,jy] at this;apply ByteArray.ext;apply Array.toList_inj.1;rw[this,B]
   go_wp2;go_ret;exact⟨by rw[<- E.o];rfl,b⟩
theorem ahW (l:List UInt8) (k:Nat):nb (l.take k)<=nb l:=by
 conv=>rhs;rw[<- BB k l,B4]
 have:nb (l.take k)*1<=nb (l.take k)*256^(l.drop k).length:=jg _ (nI bd);omega
theorem ZN (s:ByteArray) (k:Nat) (h:k<s.size):nb (s.data.toList.take (k+1))=nb (s.data.toList.take k)*256+s[k].toNat:=by
 rw[Jp s k h,yQ]
theorem ZO (s:ByteArray):nb (s.data.toList.take s.size)=N s:=by
 rw[lT (by rw[AQ];exact aq _),N]
theorem F4 (s:ByteArray) (w:World) (b:s.size<=7):
  du 172 #[.string s] w fun e w'=>e=.returned (.tuple #[.int .i64 (N s:Nat),.bool true])/\w'=w:=by
 have a:N s<72057594037927936:=aU (AU s) (kE bd b);have A:=aH (ZO s);go_enter Tryz.func172,Tryz.ntmps172;go_wp2;go_loop [4,5] (fun v i=>∃k:Nat,k<=s.size/\i=.int .i64 k/\v=.int .i64 (nb (s.data.toList.take k):Nat)) (fun _ i=>s.size - (intOf i).toNat)
 case atStart=>exact⟨0,aV _,rfl,rfl⟩
 case round=>
  obtain⟨k,c,rfl,rfl⟩:=hrel;by_cases l:k<s.size
  ·have r:=WV _ s[k].toNat_lt;have t:=ZN s k l;have h:=ahW s.data.toList (k+1);rw[t] at h;have d:nb (s.data.toList.take k)*256+s[k].toNat<72057594037927936:=Mx h a;have H:=aH t;clear t h a;generalize nb (s.data.toList.take k)=m at *;go_wp2;go_round
   case rel=>exact⟨k+1,al,b5,by rw[H.o];exact int_eq al⟩
   case measure=>simp[intOf];omega
  ·obtain rfl:k=s.size:=al
   rw[A.o];go_wp2;go_ret2;exact⟨rfl,rfl⟩
theorem Yk (s:ByteArray) (w:World) (h1:7<s.size) (h:s.size<=1000000):
  du 172 #[.string s] w fun e w'=>e=.returned (.tuple #[.int .i64 0,.bool false])/\w'=w:=by
 go_enter Tryz.func172,Tryz.ntmps172;go_wp2;go_ret2;exact⟨rfl,rfl⟩
theorem Yf (m:Nat) (h:(B m).size<=7):m<72057594037927936:=aU (Dw m) (kE bd h)
variable {M:Nat}
theorem aie {x y:Nat} {p:List Nat} (a:k+m<p.length) (h:nd p+c*256^(k+m)=M+x*256^k*(D % 256^m)) (b:D/256^m % 256=y):
  nd (p.set (k+m) ((c+p[k+m]+x*y) % 256))+(c+p[k+m]+x*y)/256*256^(k+(m+1))=M+x*256^k*(D % 256^(m+1)):=by
 have s:=Nz p (k+m) ((c+p[k+m]+x*y) % 256) a;have t:=acL (c+p[k+m]+x*y) (256^(k+m));have e:(c+p[k+m]+x*y)*256^(k+m)=c*256^(k+m)+p[k+m]*256^(k+m)+x*y*256^(k+m):=by rw[fF,fF]
 have f:x*256^k*(D % 256^(m+1))=x*256^k*(D % 256^m)+x*y*256^(k+m):=by
  rw[Gm,b,kH,wC];congr 1
  rw[iP,iP,dK y,iP]
 rw[f,show k+(m+1)=k+m+1 by omega,gJ];omega
theorem ahV (l:List Nat):∀(j:Nat) (h:j<l.length),l[j]*256^j<=nd l:=by
 induction l with
 |nil=>intro j h;exact absurd h (BA _)
 |cons x r ih=>
  intro j h;cases j with
  |zero=>simp only[List.getElem_cons_zero,Nat.pow_zero,kF,DY];omega
  |succ j=>
   (have a:j<r.length:=by simpa using h);have:=ih j a;rw[List.getElem_cons_succ,DY,gJ, <- iP];omega
theorem aif {A lb x:Nat} {p:List Nat} (d:k+lb<p.length) (b:D<256^lb) (i:A/256^k % 256=x) (h:nd p+c*256^(k+lb)=A % 256^k*D+x*256^k*(D % 256^lb)):
  nd (p.set (k+lb) (p[k+lb]+c))=A % 256^(k+1)*D/\p[k+lb]+c<256:=by
 have s:=Nz p (k+lb) (p[k+lb]+c) d;rw[kI b] at h;have f:A % 256^(k+1)*D=A % 256^k*D+x*256^k*D:=by rw[Gm,i,fF,dK (256^k) x]
 have e:(p[k+lb]+c)*256^(k+lb)=p[k+lb]*256^(k+lb)+c*256^(k+lb):=fF _ _ _;have n:nd (p.set (k+lb) (p[k+lb]+c))=A % 256^(k+1)*D:=by rw[f];omega
 refine⟨n,?_⟩;have g:=ahV (p.set (k+lb) (p[k+lb]+c)) (k+lb) (by rw[kg];exact d);rw[n,List.getElem_set_self] at g;have m:A % 256^(k+1)*D<256^(k+1)*256^lb:=IQ (jQ _ (nI bd)) b;rcases cT (p[k+lb]+c) 256 with a |a
 ·exact a
 ·have j:256*256^(k+lb)<=(p[k+lb]+c)*256^(k+lb):=lS _ a;have l:256^(k+1)*256^lb=256*256^(k+lb):=by rw[<- wC, <- Nat.pow_succ',show k+1+lb=k+lb+1 by omega]
  omega
theorem agd (a b:ByteArray) (w:World) (ha:a.size<=1000000) (hb:b.size<=1000000):
  du 111 #[.string a,.string b] w (eS w (.string (B (N a*N b)))):=by
 obtain⟨i0,hi,aS,aT,a1⟩:=dJ Tryz.infoInt;have q7:=aH (nV a w al);have ek:=aH (nV b w al);have sa:=aR (ju a) ha;have sb:=aR (ju b) hb;have Dh:N (B (N a))=N a:=dA _;have Dg:N (B (N b))=N b:=dA _;generalize B (N a)=x at *;generalize B (N b)=y at *;have T:=aH (AU x);have X:=aH (AU y);have Iz:=aH (fun (k:Nat) (V:World) (h:k<=9223372036854775807)=>Hq x k V al h);have Iy:=aH (fun (k:Nat) (V:World) (h:k<=9223372036854775807)=>Hq y k V al h);have I:=aH (fun (h:x.size<=7) (V:World)=>F4 x V h);have v:=aH (fun (h:y.size<=7) (V:World)=>F4 y V h);rw[Dh] at T Iz I;rw[Dg] at X Iy v;clear Dh Dg;generalize hA:N a=A at *;generalize hD:N b=D at *;clear hA hD ha hb;go_enter Tryz.func111,Tryz.ntmps111;go_wp2_with fail
 refine(q7.o).af ?_;rintro e f ⟨rfl,l⟩;subst l;go_wp2_with fail
 refine(ek.o).af ?_;rintro e f ⟨rfl,l⟩;subst l;clear q7 ek;by_cases ah:x.size+y.size<=7
 ·have hp:A*D<72057594037927936:=by
   have u:A*D<256^x.size*256^y.size:=IQ T.o X.o;rw[<- wC] at u;exact aU u (kE bd ah)
  have Eo:(0:Int)<=(A:Int)*(D:Int):=Int.mul_nonneg al al
  have mg:(A:Int)*(D:Int)<72057594037927936:=by
   (have r:((A*D:Nat):Int)<72057594037927936:=al);rwa [lW] at r
  have HO:=aH (fun V=>Jy ((A:Int)*(D:Int)) V al al);have ai:((A:Int)*(D:Int)).toNat=A*D:=by rw[<- lW,rD]
  rw[ai] at HO;have az:=aH (fun V=>I.o al V);have ay:=aH (fun V=>v.o al V);have K:=aH Eo;have M:=aH mg;have bh:(x.size:Int)+(y.size:Int)<=7:=al
  clear I v ai hp Eo mg ah;go_wp2_with fail
  refine(az.o _).af ?_;rintro e E ⟨rfl,l⟩;subst l;go_wp2_with fail
  refine(ay.o _).af ?_;rintro e E ⟨rfl,l⟩;subst l
  have bl:IntKind.i64.wrap ((A:Int)*(D:Int))=(A:Int)*(D:Int):=by
   have u:=K.o;have r:=M.o;rw[fj];omega
  have bb:wrap64 ((A:Int)*(D:Int))=(A:Int)*(D:Int):=by
   have u:=K.o;have r:=M.o;rw[wrap64];omega
  clear K M;go_wp2_with fail
  refine(HO.o _).af ?_;rintro e Y ⟨rfl,aa⟩;go_wp2;go_ret;exact⟨rfl,aa⟩
 ·clear I v
  go_wp2_with (first
   |(at_make;refine lj _ rfl _ _ 22 rfl f.heap.size 3 i0 (.int .i64 0) 1 Tryz.underlying22 hi aS aT .i64 .i64 _ _ (x.size+y.size+1) rfl rfl b5 b5 (by rw[a1];omega) (by unfold maxLen;omega) (aq _) ?_;intro E aj an))
  have Z:=qg aj;rw[Gq] at Z;have ad:ef f E:=(au _ f).grown an (aq _) (fun k e=>by cases e);have HI:Hid (cM E f.heap.size (List.replicate (x.size+y.size+1) 0)):=Z;clear aj an Z
  go_loopw [10] (fun iv wr=>∃(k:Nat) (p:List Nat),k<=x.size/\iv=.int .i64 k/\p.length=x.size+y.size+1/\Hid (rA p)/\Hid (nd p=A % 256^k*D)/\Hid (cM wr f.heap.size p)/\ef f wr)
   (fun i _=>x.size - (intOf i).toNat)
  case atStart=>exact⟨0,List.replicate (x.size+y.size+1) 0,aV _,rfl,aE,UE _,(show _=_ by rw[Sg];simp[Nat.mod_one]),HI,ad⟩
  case round=>
   obtain⟨k,p,hk,rfl,ae,U,J,R,s⟩:=hrel;clear HI ad;obtain⟨wo,bk⟩:∃wo:World,wo=wr:=⟨_,rfl⟩;by_cases bc:k<x.size
   ·have HX:=aH (fun V=>Iz.o k V al);have hx:A/256^k % 256<256:=jQ _ bd;have a6:=aH (fun (c:Nat) (q:List Nat) (hq:k+y.size<q.length)=>aif (A:=A) (D:=D) (k:=k) (lb:=y.size) (c:=c) (p:=q) hq X.o rfl);generalize A/256^k % 256=g at *;go_wp2_with (go_at_call 112;refine(HX.o _).af ?_;rintro e Y ⟨rfl,ab⟩;subst ab)
    go_loopw [12,13] (fun cv jv wr=>∃(m c:Nat) (q:List Nat),m<=y.size/\jv=.int .i64 m/\cv=.int .i64 c/\c<=255/\q.length=x.size+y.size+1/\Hid (rA q)/\Hid (nd q+c*256^(k+m)=A % 256^k*D+g*256^k*(D % 256^m))/\Hid (cM wr f.heap.size q)/\ef f wr)
     (fun _ j _=>y.size - (intOf j).toNat)
    case atStart=>
     refine⟨0,0,p,aV _,rfl,rfl,aV _,ae,U.o,?_,R,s⟩;show _=_;rw[J.o];simp[Nat.mod_one]
    case round=>
     obtain⟨m,c,q,hm,rfl,rfl,hc,eC,L,F,H,xE⟩:=hrel;clear R s U J;by_cases S9:m<y.size
     ·have Q:k+m<q.length:=al
      have HY:=aH (fun V=>Iy.o m V al);have bm:D/256^m % 256<256:=jQ _ bd;have ak:=aie (y:=D/256^m % 256) Q F.o rfl;have a7:=H.o.cell (k+m) Q;have bg:=L.o q[k+m] (bF Q);have aC:=H.o.fz (k+m);have O:=aH (fun z=>H.o.set (k+m) z);generalize D/256^m % 256=n at *;generalize q[k+m]=d at *;have ao:=aH ak;have bf:g*n<=255*255:=iO al al;have ax:(0:Int)<=(g:Int)*(n:Int):=Int.mul_nonneg al al
      have av:(g:Int)*(n:Int)<=65025:=by
       (have r:((g*n:Nat):Int)<=65025:=al);rwa [lW] at r
      clear ak F;go_wp2_with (go_at_call 112;refine(HY.o _).af ?_;rintro e Y ⟨rfl,ab⟩;subst ab)
      have wS:(g:Int)*(n:Int)=((g*n:Nat):Int):=(lW _ _).symm;rw[wS];clear ax av wS;generalize g*n=t at *;have P:Value.int .i64 (((c:Int)+(d:Int)+(t:Int)) % 256)=.int .i64 (((c+d+t) % 256:Nat):Int):=int_eq al;have aO:Value.int .i64 (((c:Int)+(d:Int)+(t:Int))/256)=.int .i64 (((c+d+t)/256:Nat):Int):=int_eq al;rw[P,aO];go_roundw
      case rel=>exact⟨m+1,(c+d+t)/256,q.set (k+m) ((c+d+t) % 256),al,b5,rfl,al,by rw[kg];exact eC,KZ L.o _ _ (jQ _ bd),ao.o,O.o _,xE.setCell (aq _) _⟩
      case measure=>simp[intOf];omega
     ·obtain rfl:m=y.size:=al
      (have Q:k+y.size<q.length:=al);obtain⟨gw,N7⟩:=a6.o c q Q F.o;have a7:=H.o.cell (k+y.size) Q;have aC:=H.o.fz (k+y.size);have O:=aH (fun z=>H.o.set (k+y.size) z);generalize q[k+y.size]=d at *;have Fo:=aH gw;clear gw F;go_wp2;have P:Value.int .i64 ((d:Int)+(c:Int))=.int .i64 ((d+c:Nat):Int):=int_eq al;rw[P];go_roundw
      case rel=>exact⟨k+1,q.set (k+y.size) (d+c),al,b5,by rw[kg];exact eC,KZ L.o _ _ N7,Fo.o,O.o _,xE.setCell (aq _) _⟩
      case measure=>simp[intOf];omega
   ·obtain rfl:k=x.size:=al
    have S:=RH f.heap.size p wr U.o al R.o;rw[ae,J.o,kI T.o] at S;have A5:=aH S;clear S;go_wp2_with (go_at_call 113;refine(A5.o).af ?_;rintro e Y ⟨rfl,aa⟩)
    go_ret;exact⟨rfl,s.trans (aa.af s.size)⟩
variable {d:Nat}
def bv (d:Nat):Value:=.int .u8 (d:Int)
def Hv (w:World) (base:Nat) (v:Value) (l:List Nat):Prop:=w.ownsRow base 5 1 v l.length (l.map bv)
def qn (l:List Nat):Nat:=l.foldl (fun n d=>n*256+d) 0
theorem YO (l:List Nat) (d:Nat):qn (l++[d])=qn l*256+d:=by simp[qn]
theorem alN {l:List Nat} (h:rA l) (c:d<256):rA (l++[d]):=fun x b=>by
 rcases ck.1 b with a |a
 ·exact h x a
 ·simp at a;omega
theorem anc (l:List Nat):rA l ->N (strOfNums (l.map Int.ofNat))=qn l:=by
 induction l using BV with
 |h0=>intro _;rfl
 |h1 l d ih=>
  intro h;have h1:=ih fun x a=>h x (List.mem_append_left _ a);have b:=h d (List.mem_append_right _ (dT.2 rfl));rw[N,IC] at h1⊢;rw[eP,eP,iy,nM,iy,nM,yQ,h1,YO];have:(UInt8.ofNat (Int.ofNat d).toNat).toNat=d:=by simp;omega
  rw[this]
theorem alL {P:Nat} (h:0<D):(P*256+c)/D=P/D*256+(P % D*256+c)/D/\(P*256+c) % D=(P % D*256+c) % D:=by
 have e:P*256+c=P % D*256+c+P/D*256*D:=by
  have:=Nat.div_add_mod P D;have f:P/D*256*D=D*(P/D)*256:=by rw[Nat.mul_right_comm,dK (P/D) D]
  omega
 rw[e,QI _ _ h,QH];exact⟨yu _ _,rfl⟩
theorem anf (s x:ByteArray) (k:Nat) (h:k<x.size):N (s++x.extract k (k+1))=N s*256+x[k].toNat:=by
 have e:(x.extract k (k+1)).data.toList=[x[k]]:=by
  rw[ByteArray.data_extract,Array.toList_extract,List.extract_eq_take_drop,show k+1 - k=1 by omega,nP (by rw[AQ];exact h)];rfl
 rw[N,ByteArray.data_append,Array.toList_append,e,yQ];rfl
theorem ahB (x:ByteArray) (k:Nat) (h:k<x.size):(x.extract k (k+1)).size=1:=by
 rw[ByteArray.size_extract];omega
theorem agj (a b:ByteArray) (w:World) (m:a.size<=1000000) (n:b.size<=1000000) (h:N b≠0) (h1:(B (N a)).size<=7) (f:(B (N b)).size<=7):
  du 171 #[.string a,.string b] w (eS w (.tuple #[.string (B (N a/N b)),.string (B (N a % N b)),.bool true])):=by
 have p:=aH (nV a w al);have l:=aH (nV b w al);have j:N (B (N a))=N a:=dA _;have i:N (B (N b))=N b:=dA _;have Q:=FB h;have F:=Yf _ h1;have J:=Yf _ f;generalize B (N a)=x at *;generalize B (N b)=y at *;have I:=aH (fun (V:World)=>F4 x V h1);have s:=aH (fun (V:World)=>F4 y V f);rw[j] at I;rw[i] at s;clear j i;generalize hA':N a=A at *;generalize CN:N b=D at *;clear hA' CN m n h1 f
 have L:(A:Int)/(D:Int)<=A:=by
  rw[<- yA];have:=zS A D;omega
 have X:0<=(A:Int)/(D:Int):=Int.ediv_nonneg al al
 have S:(A:Int) % (D:Int)<=A:=by
  rw[<- yz];have:=Nat.mod_le A D;omega
 have E:0<=(A:Int) % (D:Int):=Int.emod_nonneg _ al;have q:=fun V=>Jy ((A:Int)/(D:Int)) V al al;have r:=fun V=>Jy ((A:Int) % (D:Int)) V al al;rw[<- yA,rD,yA] at q;rw[<- yz,rD,yz] at r;have H:=aH q;have R:=aH r;clear q r;have O:0<D:=lR h;go_enter Tryz.func171,Tryz.ntmps171;go_wp2_with fail
 refine(p.o).af ?_;rintro e t ⟨rfl,c⟩;subst c;go_wp2_with fail
 refine(l.o).af ?_;rintro e t ⟨rfl,c⟩;subst c;go_wp2_with fail
 refine(I.o _).af ?_;rintro e d ⟨rfl,c⟩;subst c;go_wp2_with fail
 refine(s.o _).af ?_;rintro e d ⟨rfl,c⟩;subst c;go_upto_region 8 with fail
 have K:¬(D:Int)=0:=al
 have U:IntKind.i64.wrap ((A:Int)/(D:Int))=(A:Int)/(D:Int):=by rw[fj];omega
 have Y:IntKind.i64.wrap ((A:Int) % (D:Int))=(A:Int) % (D:Int):=by rw[fj];omega
 have g:=(au d.heap.size d).drew
 go_region_held3 (fun V=>Hid (ef d V))
  (first |exact k |exact T |exact g)
  (first
   |(have u:=T;go_at_call 71;refine(R.o _).af ?_;rintro e P ⟨rfl,z⟩;have k:=u.trans (z.af u.size))
   |(go_at_call 71;refine(H.o _).af ?_;rintro e M ⟨rfl,v⟩;have T:=g.trans (v.af g.size)))
 go_wp2;go_ret3
 exact⟨rfl,k⟩
theorem Hv.cases {v:Value} {l:List Nat} (h:Hv w base v l):(v=.slice none 0 0/\l=[])∨∃g cap,v=.slice (some ⟨g,0,none⟩) l.length cap/\∀j,j<l.length ->w.cell? ⟨g,j,none⟩=some (.int .u8 (l[j]?.getD 0:Nat)):=by
 rcases h.2 with ⟨a,n⟩ |⟨g,cap,c,a,r⟩
 ·exact .inl ⟨a,WR n⟩
 ·subst a;refine .inr ⟨g,cap,rfl,fun j b=>?_⟩;rw[World.ownsRow.cellAt h j al,lU,bj b];rfl
theorem acv {R:Nat} {y:ByteArray} (b:N y=D) (a:R<256*D) (s:y.size<=500000) (d:Nat):(B (R - d*D)).size<=1000000:=by
 have c:=lY (aR (Nat.sub_le R (d*D)) (yo a));have e:=yH 256 D;have h:=ju y;rw[b] at h;have f:(B 256).size<=2:=by rw[lg];exact o8 2 256 bd
 omega
theorem alM {R:Nat} (h:0<D) (h1:d*D<=R) (a:¬D<=R - d*D):R/D=d/\R % D=R - d*D:=by
 have e:R=(R - d*D)+d*D:=al
 constructor
 ·rw[e,QI _ _ h,yr al];omega
 ·conv=>lhs;rw[e]
  rw[QH,kI al]
theorem agk (a b:ByteArray) (w:World) (ha:a.size<=500000) (hb:b.size<=500000) (h:N b≠0) (ah:¬((B (N a)).size<=7/\(B (N b)).size<=7)):
  du 171 #[.string a,.string b] w (eS w (.tuple #[.string (B (N a/N b)),.string (B (N a % N b)),.bool true])):=by
 obtain⟨i0,v,a1,a6,a7⟩:=dJ Tryz.infoByte;have q7:=aH (nV a w al);have ek:=aH (nV b w al);have Dh:N (B (N a))=N a:=dA _;have Dg:N (B (N b))=N b:=dA _;have bb:=FB h;have sa:=aR (ju a) ha;have sb:=aR (ju b) hb;generalize B (N a)=x at *;generalize hy:B (N b)=y at *;have z:=aH Dg;have HX:=aH (ZO x);rw[Dh] at HX;have O:0<N b:=lR h;clear Dh Dg;have oI:=aH (fun (V:World)=>if f:x.size<=7 then Exists.intro (p:=fun r:Value×Value=>r.2=.bool (decide (x.size<=7))/\du 172 #[.string x] V fun e w'=>e=.returned (.tuple #[r.1,r.2])/\w'=V) (.int .i64 (N x:Nat),.bool true) ⟨by simp[f],F4 x V f⟩ else⟨(.int .i64 0,.bool false),by simp[f],Yk x V al al⟩);have si:=aH (fun (V:World)=>if f:y.size<=7 then Exists.intro (p:=fun r:Value×Value=>r.2=.bool (decide (y.size<=7))/\du 172 #[.string y] V fun e w'=>e=.returned (.tuple #[r.1,r.2])/\w'=V) (.int .i64 (N y:Nat),.bool true) ⟨by simp[f],F4 y V f⟩ else⟨(.int .i64 0,.bool false),by simp[f],Yk y V al al⟩);generalize hA':N a=A at *;generalize CN:N b=D at *;clear hA' CN ha hb hy;go_enter Tryz.func171,Tryz.ntmps171;go_wp2_with fail
 refine(q7.o).af ?_;rintro e U ⟨rfl,j⟩;subst j;go_wp2_with fail
 refine(ek.o).af ?_;rintro e U ⟨rfl,j⟩;subst j;clear q7 ek;obtain⟨⟨p1,p2⟩,y5,wm⟩:=oI.o U;obtain⟨⟨q1,q2⟩,iV,Mm⟩:=si.o U;simp only at y5 iV;subst y5 iV;have ak:=aH wm;have aj:=aH Mm;clear wm Mm oI si
 have aS:(decide (x.size<=7)=false)∨(decide (x.size<=7)=true/\decide (y.size<=7)=false):=by
  by_cases f:x.size<=7
  ·exact .inr ⟨eD f,eK fun h8=>ah ⟨f,h8⟩⟩
  ·exact .inl (eK f)
 clear ah;generalize decide (x.size<=7)=t1 at *;generalize decide (y.size<=7)=t2 at *;go_wp2_with fail
 refine(ak.o).af ?_;rintro e m ⟨rfl,j⟩;subst j;go_wp2_with fail
 refine(aj.o).af ?_;rintro e m ⟨rfl,j⟩;subst j;clear ak aj;rcases aS with rfl |⟨rfl,rfl⟩
 all_goals
  go_wp2
  go_loopw [11,12,13] (fun qv rv iv wr=>∃(k:Nat) (ql:List Nat),k<=x.size/\iv=.int .i64 k/\rv=.string (B (nb (x.data.toList.take k) % D))/\ql.length=k/\Hid (rA ql)/\Hid (qn ql=nb (x.data.toList.take k)/D)/\Hid (Hv wr m.heap.size qv ql)/\ef m wr)
   (fun _ _ i _=>x.size - (intOf i).toNat)
  case atStart=>exact⟨0,[],aV _,rfl,(by rw[List.take_zero,DZ,Nat.zero_mod,Dv]),rfl,(fun x hx=>by cases hx),(show _=_ by rw[List.take_zero,DZ,Nat.zero_div];rfl),World.ownsRow_nil _ _ _ _,au _ _⟩
  case round=>
   obtain⟨k,ql,hk,rfl,rfl,Q,F,E,s,l⟩:=hrel;by_cases Z:k<x.size
   ·have aa:=ahB x k Z;have M:=anf (B (nb (x.data.toList.take k) % D)) x k Z;rw[dA] at M;have ax:=ZN x k Z;obtain⟨L,T⟩:=alL (P:=nb (x.data.toList.take k)) (D:=D) (c:=x[k].toNat) O;rw[<- ax] at L T;have av:nb (x.data.toList.take k) % D<D:=jQ _ O;have aT:=x[k].toNat_lt;have bc:(B (nb (x.data.toList.take k) % D)).size<=500000:=aR (lY (yo av)) (by have:=ju y;rw[z.o] at this;omega);(have qj:Hid (nb (x.data.toList.take (k+1))/D=qn ql*256+(nb (x.data.toList.take k) % D*256+x[k].toNat)/D):=by show _=_;rw[L,E.o]);have ri:=aH T;(have hR:nb (x.data.toList.take k) % D*256+x[k].toNat<256*D:=al);clear ax L T E aT av;generalize nb (x.data.toList.take k) % D*256+x[k].toNat=R at *;generalize B (nb (x.data.toList.take k) % D)=rs at *;(have aO:(rs++x.extract k (k+1)).size<=1000001:=by rw[ByteArray.size_append,aa];omega);have H:=aH (fun V=>nV (rs++x.extract k (k+1)) V al);rw[M] at H;clear M aO
    have ae:=aH (fun (d:Nat) (V:World) (t:d*D<=R) (h2:D<=R - d*D)=>by
     have hs:=af9 (B (R - d*D)) y V (acv z.o hR sb d) al (by rw[dA,z.o];exact h2);rw[dA,z.o,show R - d*D - D=R - (d+1)*D by rw[fF,jP];omega] at hs;exact hs)
    have AZ:=aH (fun (d:Nat) (V:World) (h2:¬D<=R - d*D)=>aga (B (R - d*D)) y V (acv z.o hR sb d) al (by rw[dA,z.o];omega));go_wp2_with (go_at_call 169;refine(H.o _).af ?_;rintro e X ⟨rfl,q⟩;subst q)
    clear H;go_loopw [12,14] (fun rv dv wi=>∃d:Nat,d*D<=R/\rv=.string (B (R - d*D))/\dv=.int .i64 d/\ef X wi) (fun _ dv _=>256 - (intOf dv).toNat)
    case atStart=>exact⟨0,al,by rw[jO,Nat.sub_zero],rfl,au _ _⟩
    case round=>
     obtain⟨d,u,rfl,rfl,I⟩:=hrel
     have aC:d<256:=by
      rcases cT d 256 with t |t
      ·exact t
      ·have:=lS D t;omega
     by_cases n:D<=R - d*D
     ·have jX:(d+1)*D<=R:=by rw[fF,jP];omega
      have HC:=aH (fun V=>ae.o d V u n);clear u n;go_wp2_with fail
      refine(HC.o _).af ?_;rintro e Y ⟨rfl,K⟩;go_wp2;go_roundw
      case rel=>exact⟨d+1,jX,rfl,b5,I.trans (K.af I.size)⟩
      case measure=>simp[intOf];omega
     ·have HC:=aH (fun V=>AZ.o d V n);obtain⟨hq,hr⟩:=alM O u n;(have oK:Hid (qn (ql++[d])=nb (x.data.toList.take (k+1))/D):=by show _=_;rw[YO,qj.o,hq]);(have iC:Hid (R - d*D=nb (x.data.toList.take (k+1)) % D):=by show _=_;rw[ri.o,hr]);clear hq hr u n ae AZ ri qj;go_wp2_with fail
      refine(HC.o _).af ?_;rintro e Y ⟨rfl,K⟩;have ad:Hv Y m.heap.size _ ql:=Nu (Nu s.o I (aq _)) K (aq _);have S:=(l.trans (I.af l.size)).trans (K.af (l.trans (I.af l.size)).size);have ku:=S.size;rw[iC.o];clear iC HC;go_wp2_with (at_builtin;refine FH _ rfl _ _ 157 rfl m.heap.size 5 i0 (.int .u8 0) 1 1 Tryz.underlying157 v a1 a6 a7 rfl bd _ _ _ rfl (World.ownsRow.alloc ad _) ⟨Y.heap.size,0,none⟩ 1 1 [.int .u8 (d:Nat)] rfl rfl (cell_one_new _ _ _) (by simp[Value.oneCell']) (by unfold maxLen;omega) al (by simp;omega) ?_;intro v' w5 az ay _)
      have KJ:ef m w5:=(S.alloc S.size _).grown ay (by simp;omega) (fun k hk=>(World.ownsRow.lt ad k hk).1);go_wp2;go_roundw
      case rel=>
       refine⟨k+1,ql++[d],al,b5,rfl,by rw[bK,Q];rfl,alN F.o aC,oK.o,?_,KJ⟩;(have e:(ql++[d]).length=ql.length+1:=aE);show Hv _ _ _ _;rw[Hv,e];simpa [bv] using az
      case measure=>simp[intOf];omega
   ·obtain rfl:k=x.size:=al
    rw[HX.o] at E⊢;have J:=anc ql F.o;rw[E.o] at J;rcases s.o.cases with ⟨rfl,rfl⟩ |⟨g,cap,rfl,ao⟩
    ·have H:=aH (fun V=>nV ⟨#[]⟩ V (by show 0<=_;omega));have ai:N ⟨#[]⟩=A/D:=J;rw[ai] at H;have EA:=run_convert_bytes_nil (P:=Tryz.prog) wr 157 5 Tryz.underlying157 Tryz.underlying5 0 0 40 Tryz.underlying40;rw[show ByteArray.empty=⟨#[]⟩ from rfl] at EA;clear J ai s F E Q;go_wp2_with (go_at_call 169;refine(H.o _).af ?_;rintro e X ⟨rfl,q⟩;subst q)
     go_ret3
     exact⟨rfl,l⟩
    ·have ab:(ql.map Int.ofNat).length=ql.length:=aE
     have an:∀i,i<ql.length ->wr.cell? ⟨g,0+i,none⟩=some (.int .u8 ((ql.map Int.ofNat).getD i 0)):=fun i v=>by
      rw[bB,ao i v];simp[bY,bj v]
     have EA:=ID (P:=Tryz.prog) wr 157 5 Tryz.underlying157 Tryz.underlying5 g 0 ql.length cap (ql.map Int.ofNat) ab an 40 Tryz.underlying40
     have aa:(strOfNums (ql.map Int.ofNat)).size<=140737488355328:=by
      rw[strOfNums_size,ab];omega
     clear ab Q;have H:=aH (fun V=>nV (strOfNums (ql.map Int.ofNat)) V aa);rw[J] at H;clear J s F E ao an;go_wp2_with (go_at_call 169;refine(H.o _).af ?_;rintro e X ⟨rfl,q⟩;subst q)
     go_ret3
     exact⟨rfl,l⟩
theorem agl (a b:ByteArray) (w:World) (c:a.size<=500000) (d:b.size<=500000) (h:N b≠0):
  du 171 #[.string a,.string b] w (eS w (.tuple #[.string (B (N a/N b)),.string (B (N a % N b)),.bool true])):=by
 by_cases s:(B (N a)).size<=7/\(B (N b)).size<=7
 ·exact agj a b w al al h s.1 s.2
 ·exact agk a b w c d h s
theorem Rw (m n:Nat) (w:World) (a:(B m).size<=500000) (b:(B n).size<=500000) (h:n≠0):
  du 171 #[.string (B m),.string (B n)] w (eS w (.tuple #[.string (B (m/n)),.string (B (m % n)),.bool true])):=by
 have:=agl (B m) (B n) w a b (by rw[dA];exact h);rwa [dA,dA] at this
theorem agi (a b:ByteArray) (w:World) (g:a.size<=500000) (i:b.size<=500000):
  du 170 #[.string a,.string b] w (eS w (.string (B (Nat.gcd (N a) (N b))))):=by
 have q:=aH (nV a w al);have k:=aH (nV b w al);have s:=aR (ju a) g;have t:=aR (ju b) i;generalize hA':N a=A at *;generalize CN:N b=D at *;clear hA' CN g i;go_enter Tryz.func170,Tryz.ntmps170;go_wp2_with fail
 refine(q.o).af ?_;rintro e j ⟨rfl,f⟩;subst f;go_wp2_with fail
 refine(k.o).af ?_;rintro e j ⟨rfl,f⟩;subst f;clear q k;go_wp2;go_loopg [0,1] D (fun r vx vy wr=>∃m:Nat,vx=.string (B m)/\vy=.string (B r)/\(B m).size<=500000/\(B r).size<=500000/\Hid (Nat.gcd m r=Nat.gcd A D)/\ef j wr)
 case atStart=>exact⟨A,rfl,rfl,s,t,rfl,au _ _⟩
 case round=>
  obtain⟨m,rfl,rfl,p,d,H,c⟩:=hrel;by_cases h:gk=0
  ·subst h;rw[Dv];(have E:Hid (m=Nat.gcd A D):=by show _=_;rw[<- H.o,Nat.gcd_zero_right]);go_wp2;go_ret;exact⟨by rw[<- E.o];rfl,c⟩
  ·have y:=FB h;have n:=aH (fun V=>Rw m gk V p d h);have l:=jQ m (lR h);have z:=aR (lY (yo l)) d;(have u:Hid (Nat.gcd gk (m % gk)=Nat.gcd A D):=by show _=_;rw[<- H.o,IU m gk,Nat.gcd_rec gk m,IU]);go_wp2_with fail
   refine(n.o _).af ?_;rintro e x ⟨rfl,v⟩;go_wp2;go_roundg (m % gk)
   case measure=>exact l
   case rel=>exact⟨gk,rfl,rfl,d,z,u.o,c.trans (v.af c.size)⟩
variable {neg:Bool} {den num:ByteArray}
def sg (neg:Bool) (n:Nat):Int:=if neg then -(n:Int) else(n:Int)
theorem M9 (neg:Bool) (n:Nat):(sg neg n).natAbs=n:=by cases neg<;>simp[sg]
theorem Yo (neg:Bool):sg neg 0=0:=by cases neg<;>rfl
theorem afA (neg:Bool) (n:Nat):sg (!neg) n= -sg neg n:=by cases neg<;>simp[sg]
theorem afB (a b:Bool) (m n:Nat):sg (a !=b) (m*n)=sg a m*sg b n:=by cases a<;>cases b<;>simp[sg,Int.neg_mul,Int.mul_neg]
theorem Yp (a:Bool) (m n:Nat):sg a m*(n:Int)=sg a (m*n):=by cases a<;>simp[sg,Int.neg_mul]
theorem afC:sg neg n=0↔n=0:=by cases neg<;>simp[sg]
theorem afD (neg:Bool) (n g:Nat) (h:g∣n):sg neg n/(g:Int)=sg neg (n/g):=by
 cases neg
 ·simp[sg]
 ·simp only[sg,zN];rw[Int.neg_ediv_of_dvd (Int.natCast_dvd_natCast.2 h)];simp
theorem NI {n:Int} (h:d≠0):mkRat n d=Rat.normalize n d h:=by rw[mkRat,dif_neg h]
theorem ZY {n:Int} (h:d≠0):(mkRat n d).num=n/(Nat.gcd n.natAbs d:Int):=by rw[NI h,Rat.normalize_eq]
theorem aiA {n:Int} (h:d≠0):(mkRat n d).den=d/Nat.gcd n.natAbs d:=by rw[NI h,Rat.normalize_eq]
theorem aiz (neg:Bool) (a d:Nat) (h:a≠0) (b:d≠0):decide ((mkRat (sg neg a) d).num<0)=neg/\(mkRat (sg neg a) d).num.natAbs=a/Nat.gcd a d/\(mkRat (sg neg a) d).den=d/Nat.gcd a d:=by
 have g:Nat.gcd a d∣a:=Nat.gcd_dvd_left _ _;have f:0<Nat.gcd a d:=Nat.gcd_pos_of_pos_left _ (lR h);rw[ZY b,aiA b,M9,afD neg a _ g,M9];refine⟨?_,rfl,rfl⟩;have q:0<a/Nat.gcd a d:=Nat.div_pos (Nat.le_of_dvd (lR h) g) f;cases neg
 ·simp only[sg];simp;omega
 ·simp only[sg];simp;omega
def val (neg:Bool) (num den:ByteArray):Rat:=mkRat (sg neg (N num)) (N den)
theorem Xe (h:N num=0):val neg num den=0:=by rw[val,h,Yo,Mv]
theorem FV (h:N den=0):val neg num den=0:=by rw[val,h,Rat.mkRat_zero]
theorem Jb:val neg num den=0↔N num=0∨N den=0:=by
 constructor
 ·intro h;by_cases d:N den=0
  ·exact .inr d
  ·rw[val,Rat.mkRat_eq_zero d,afC] at h;exact .inl h
 ·rintro(h |h)
  ·exact Xe h
  ·exact FV h
theorem aep (neg:Bool) (num den:ByteArray):val (!neg) num den= -val neg num den:=by rw[val,val,afA,Rat.neg_mkRat]
theorem val_mul (a b:Bool) (x y u v:ByteArray):mkRat (sg (a !=b) (N x*N u)) (N y*N v)=val a x y*val b u v:=by rw[val,val,Rat.mkRat_mul_mkRat,afB]
theorem val_add (a b:Bool) (x y u v:ByteArray) (c:N y≠0) (h:N v≠0):mkRat (sg a (N x*N v)+sg b (N u*N y)) (N y*N v)=val a x y+val b u v:=by
 rw[val,val,Rat.mkRat_add_mkRat _ _ c h,Yp,Yp]
theorem QY (neg:Bool) (x y:ByteArray) (a:N x≠0) (b:N y≠0):val neg y x=(val neg x y)⁻¹:=by
 have h:val neg x y*val neg y x=1:=by
  rw[<- val_mul];have:sg (neg !=neg) (N x*N y)=((N x*N y:Nat):Int)*1:=by cases neg<;>simp[sg]
  rw[this,dK (N y) (N x), <- kF (N x*N y),lW (N x*N y) 1,Int.natCast_one,Int.mul_one,Rat.mkRat_mul_left (Dy a b)];rfl
 grind
def C (q:Rat):Value:=.agg #[.bool (decide (q.num<0)),.string (B q.num.natAbs),.string (B q.den)]
theorem Du:C 0=.agg #[.bool false,.string ⟨#[]⟩,.string (B 1)]:=by
 show Value.agg #[_,.string (B 0),.string (B 1)]=_;rw[Dv];rfl
theorem aeq (q:Rat):val (decide (q.num<0)) (B q.num.natAbs) (B q.den)=q:=by
 rw[val,dA,dA]
 have:sg (decide (q.num<0)) q.num.natAbs=q.num:=by
  by_cases h:q.num<0
  ·simp[sg,h];omega
  ·simp[sg,h];omega
 rw[this,Rat.mkRat_self]
theorem Qx (neg:Bool) (a d:Nat) (e:a≠0) (f:d≠0):C (mkRat (sg neg a) d)=.agg #[.bool neg,.string (B (a/Nat.gcd a d)),.string (B (d/Nat.gcd a d))]:=by
 obtain⟨h,b,c⟩:=aiz neg a d e f;rw[C,h,b,c]
def qw (q:Rat):Nat:=(B q.num.natAbs).size+(B q.den).size
theorem YM {n:Int} (b:d≠0):qw (Rat.normalize n d b)<=(B n.natAbs).size+(B d).size:=by
 rw[Rat.normalize_eq]
 have a:(n/(Nat.gcd n.natAbs d:Int)).natAbs<=n.natAbs:=by
  have g:((Nat.gcd n.natAbs d:Nat):Int)∣n:=by have h:=Int.natCast_dvd_natCast.2 (Nat.gcd_dvd_left n.natAbs d);rwa [Int.dvd_natAbs] at h
  rw[Int.natAbs_ediv_of_dvd g];exact zS _ _
 have s:=lY a;have c:=lY (zS d (Nat.gcd n.natAbs d));simp only[qw];omega
theorem Nk:qw 0<=1:=by
 show (B 0).size+(B 1).size<=1;rw[Dv];have:=Qy;have:(⟨#[]⟩:ByteArray).size=0:=rfl;omega
theorem F6 (neg:Bool) (num den:ByteArray):qw (val neg num den)<=num.size+den.size+1:=by
 by_cases d:N den=0
 ·rw[FV d];have:=Nk;omega
 ·rw[val,NI d];have:=YM (n:=sg neg (N num)) d;rw[M9] at this;have:=ju num;have:=ju den;omega
def gz (p q:Rat):Int:=if p<q then -1 else if p=q then 0 else 1
theorem aiy (neg:Bool) (n d:Nat) (a:d≠0) (b:n≠0):(neg=true ->mkRat (sg neg n) d<0)/\(neg=false ->0<mkRat (sg neg n) d):=by
 have p:∀m:Nat,m≠0 ->0<mkRat (m:Int) d:=fun m g=>by
  have c:0<=mkRat (m:Int) d:=by
   rw[<- Rat.num_nonneg,ZY a];exact Int.ediv_nonneg al al
  have f:mkRat (m:Int) d≠0:=by rw[Ne,Rat.mkRat_eq_zero a];omega
  grind
 constructor
 ·rintro rfl;have h:=p n b;have e:mkRat (sg true n) d= -mkRat (n:Int) d:=by rw[Rat.neg_mkRat];rfl
  rw[e];grind
 ·rintro rfl;exact p n b
variable {fn:Func}
theorem wO (a:ByteArray) (w:World):
  du 58 #[.string a] w fun e w'=>e=.returned (.bool (decide (N a=0)))/\w'=w:=by
 have c:(js (N a) (N ⟨#[]⟩)==0)=decide (N a=0):=by
  rw[ac5,js];by_cases h:N a=0
  ·simp[h]
  ·simp[h]
 have HC:=aH c;clear c;go_enter Tryz.func58,Tryz.ntmps58;go_wp2_with fail
 refine(WG a ⟨#[]⟩ _).af ?_;rintro e d ⟨rfl,b⟩;subst b;go_wp2;go_ret;exact⟨by rw[<- HC.o];rfl,rfl⟩
def aI (w:World) (g:Nat) (neg:Bool) (num den:ByteArray):Prop:=w.heap[g]? =some (.cells #[.bool neg,.string num,.string den] 42 (0,0))
theorem aI.c0 (h:aI w g neg num den):w.cell? ⟨g,0,none⟩=some (.bool neg):=by rw[bG w g 0 _ _ (0,0) h];rfl
theorem aI.c1 (h:aI w g neg num den):w.cell? ⟨g,1,none⟩=some (.string num):=by rw[bG w g 1 _ _ (0,0) h];rfl
theorem aI.c2 (h:aI w g neg num den):w.cell? ⟨g,2,none⟩=some (.string den):=by rw[bG w g 2 _ _ (0,0) h];rfl
theorem aI.fz (h:aI w g neg num den) (j:Nat):w.frozen? ⟨g,j,none⟩=false:=jw w g j _ _ h
theorem aI.lt (h:aI w g neg num den):g<w.heap.size:=(cJ.1 h).1
theorem aI.of_block (h:aI w g neg num den) (e:w'.heap[g]? =w.heap[g]?):aI w' g neg num den:=e.trans h
theorem aI.aa {B:Nat} (h:aI w g neg num den) (b:Below B w w') (a:g<B):aI w' g neg num den:=h.of_block (b.block g a)
theorem aI.new (w:World) (neg:Bool) (num den:ByteArray):aI (w.alloc (.cells #[.bool neg,.string num,.string den] 42)) w.heap.size neg num den:=by
 exact dB _ _
theorem aI.alloc (h:aI w g neg num den) (o:Obj):aI (w.alloc o) g neg num den:=h.of_block (wF w o g h.lt)
theorem aI.drew (h:aI w g neg num den):aI w.drew g neg num den:=h
theorem aI.facts (h:aI w g neg num den):w.cell? ⟨g,0,none⟩=some (.bool neg)/\w.cell? ⟨g,1,none⟩=some (.string num)/\w.cell? ⟨g,2,none⟩=some (.string den)/\w.frozen? ⟨g,0,none⟩=false/\w.frozen? ⟨g,1,none⟩=false/\w.frozen? ⟨g,2,none⟩=false:=
 ⟨h.c0,h.c1,h.c2,h.fz 0,h.fz 1,h.fz 2⟩
theorem aI.put (h:aI w g neg num den) (n:Bool) (x y:ByteArray):aI (((w.setCell ⟨g,0,none⟩ (.bool n)).setCell ⟨g,1,none⟩ (.string x)).setCell ⟨g,2,none⟩ (.string y)) g n x y:=by
 have a:=jf w g 0 _ _ (.bool n) h;have b:=jf _ g 1 _ _ (.string x) a;have c:=jf _ g 2 _ _ (.string y) b;exact c
theorem aI.far (h:aI w g neg num den) (a:g≠g') (u:Value):aI (w.setCell ⟨g',j,none⟩ u) g neg num den:=h.of_block (fQ w _ u g a)
theorem dV {B:Nat} {a:World} (h:Below B a w) (b:B<=g) (u v x:Value):Below B a (((w.setCell ⟨g,0,none⟩ u).setCell ⟨g,1,none⟩ v).setCell ⟨g,2,none⟩ x):=
 ((h.setCell b u).setCell b v).setCell b x
theorem aI.result (h:aI w g neg num den) {p:Tmp} (r:fn.results= #[.cell p 42]) (m:Array Value) (a:m.getD p undef=.pointer (some ⟨g,0,none⟩)):
  (results fn m).run Tryz.prog w=.ok (.agg #[.bool neg,.string num,.string den]) w:=
 FM r m w g _ _ _ _ a h Tryz.underlying42 rfl ao
theorem Sa (w:World):
  du 46 #[] w (eS w (C 0)):=by
 go_enter Tryz.func46,Tryz.ntmps46;have b:=aI.new w false ⟨#[]⟩ ⟨#[]⟩;have h:ef w (w.alloc (.cells #[.bool false,.string ⟨#[]⟩,.string ⟨#[]⟩] 42)):=(au _ w).alloc (aq _) _;go_wp2_with fail
 refine(ac4 1 _ al al).af ?_;rintro e c ⟨rfl,a⟩;have d:ef w c:=h.trans (a.af h.size);have x:=b.aa a b.lt;obtain⟨k,j,l,f,g,i⟩:=x.facts;clear b h;go_wp2;refine cj ((x.put _ _ _).result rfl _ rfl) rfl ?_;exact⟨by rw[Du],dV d (aq _) _ _ _⟩
abbrev FC (n:Bool) (x y:ByteArray):Obj:=.cells #[.bool n,.string x,.string y] 42
theorem aI.at (h:w.heap.size=g) (n:Bool) (x y:ByteArray):aI (w.alloc (FC n x y)) g n x y:=by
 subst h;exact aI.new w n x y
theorem ahv (n:Bool) (x y:ByteArray) (w:World):
  du 115 #[.agg #[.bool n,.string x,.string y]] w (eS w (.agg #[.bool (!n),.string x,.string y])):=by
 go_enter Tryz.func115,Tryz.ntmps115;go_wp2;refine cj ((aI.at (w:=w.alloc (FC n x y)) (g:=w.heap.size+1) aE (!n) x y).result rfl _ rfl) rfl ?_;exact⟨rfl,((au _ w).alloc (aq _) _).alloc aE _⟩
theorem alG (n:Bool) (x y:ByteArray) (w:World) (h:N y=0):
  du 127 #[.agg #[.bool n,.string x,.string y]] w (eS w (C 0)):=by
 have a:=fun V=>wO y V;simp only[h,decide_true] at a;have H:=aH a;clear a;go_enter Tryz.func127,Tryz.ntmps127;have b:=aI.at (w:=w.alloc (FC n x y)) (g:=w.heap.size+1) aE false ⟨#[]⟩ ⟨#[]⟩;have c:ef w ((w.alloc (FC n x y)).alloc (FC false ⟨#[]⟩ ⟨#[]⟩)):=((au _ w).alloc (aq _) _).alloc aE _;go_wp2_with fail
 refine(H.o _).af ?_;rintro e d ⟨rfl,j⟩;subst j;go_wp2_with fail
 refine(Sa _).af ?_;rintro e d ⟨rfl,f⟩;have i:=b.aa f b.lt;have k:ef w d:=c.trans (f.af c.size);obtain⟨q,r,s,l,m,p⟩:=i.facts;clear b c;rw[Du];go_wp2;refine cj ((i.put _ _ _).result rfl _ rfl) rfl ?_;exact⟨by rw[Du],dV k al _ _ _⟩
theorem alF (n:Bool) (x y:ByteArray) (w:World) (h:N y≠0):
  du 127 #[.agg #[.bool n,.string x,.string y]] w (eS w (.agg #[.bool n,.string x,.string y])):=by
 have a:=fun V=>wO y V;simp only[h,decide_false] at a;have H:=aH a;clear a;go_enter Tryz.func127,Tryz.ntmps127;go_wp2_with fail
 refine(H.o _).af ?_;rintro e c ⟨rfl,b⟩;subst b;go_wp2;refine cj ((aI.at (w:=w.alloc (FC n x y)) (g:=w.heap.size+1) aE n x y).result rfl _ rfl) rfl ?_;exact⟨rfl,((au _ w).alloc (aq _) _).alloc aE _⟩
theorem anj (n:Bool) (x y:ByteArray) (w:World) (h:N x=0∨N y=0):
  du 43 #[.bool n,.string x,.string y] w (eS w (C 0)):=by
 have X:=fun V=>wO x V;have Y:=fun V=>wO y V;have H:=aH X;have i:=aH Y;clear X Y;go_enter Tryz.func43,Tryz.ntmps43;have L:=aI.at (w:=w) rfl false ⟨#[]⟩ ⟨#[]⟩;have d:ef w (w.alloc (FC false ⟨#[]⟩ ⟨#[]⟩)):=(au _ w).alloc (aq _) _;by_cases c:N x=0
 focus
  go_wp2_with fail
  refine(H.o _).af ?_;rintro e b ⟨rfl,a⟩;subst a;rw[eD c]
 rotate_left
 focus
  have j:N y=0:=h.resolve_left c;go_wp2_with fail
  refine(H.o _).af ?_;rintro e b ⟨rfl,a⟩;subst a;rw[eK c];go_wp2_with fail
  refine(i.o _).af ?_;rintro e b ⟨rfl,a⟩;subst a;rw[eD j]
 all_goals
  go_wp2_with fail
  refine(Sa _).af ?_;rintro e b ⟨rfl,f⟩;have g:=L.aa f L.lt;have k:ef w b:=d.trans (f.af d.size);obtain⟨q,r,s,l,m,p⟩:=g.facts;clear L d;rw[Du];go_wp2;refine cj ((g.put _ _ _).result rfl _ rfl) rfl ?_;exact⟨by rw[Du],dV k al _ _ _⟩
theorem ank (n:Bool) (x y:ByteArray) (w:World) (h0:N x≠0) (h1:N y≠0) (g:x.size<=1099511627776) (i:y.size<=1099511627776):
  du 43 #[.bool n,.string x,.string y] w (eS w (C (val n x y))):=by
 have X:=fun V=>wO x V;have Y:=fun V=>wO y V;have H:=aH X;have l:=aH Y;have f:Nat.gcd (N x) (N y)≠0:=fun h=>h0 (Nat.gcd_eq_zero_iff.1 h).1;have R:=aR (lY (Nat.gcd_le_left (N y) (lR h0))) (ju x);clear X Y;go_enter Tryz.func43,Tryz.ntmps43;have L:=aI.at (w:=w) rfl false ⟨#[]⟩ ⟨#[]⟩;have d:ef w (w.alloc (FC false ⟨#[]⟩ ⟨#[]⟩)):=(au _ w).alloc (aq _) _;go_wp2_with fail
 refine(H.o _).af ?_;rintro e b ⟨rfl,c⟩;subst c;rw[eK h0];go_wp2_with fail
 refine(l.o _).af ?_;rintro e b ⟨rfl,c⟩;subst c;rw[eK h1];have a:=au (w.alloc (FC false ⟨#[]⟩ ⟨#[]⟩)).heap.size (w.alloc (FC false ⟨#[]⟩ ⟨#[]⟩));go_wp2_with fail
 refine(anV (Nat.gcd (N x) (N y)) a rfl g i).af ?_;rintro e b ⟨rfl,a⟩;go_wp2_with fail
 refine(adP (N x/Nat.gcd (N x) (N y)) 0 a (by rw[dA]) (by rw[dA];exact Nat.mod_eq_zero_of_dvd (Nat.gcd_dvd_left _ _)) (by rw[dA];exact f) g al).af ?_;rintro e b ⟨rfl,a⟩;go_wp2_with fail
 refine(adP (N y/Nat.gcd (N x) (N y)) 0 a (by rw[dA]) (by rw[dA];exact Nat.mod_eq_zero_of_dvd (Nat.gcd_dvd_right _ _)) (by rw[dA];exact f) i al).af ?_;rintro e b ⟨rfl,j⟩;have k:=L.aa j L.lt;have m:ef w b:=d.trans (j.af d.size);obtain⟨s,t,u,p,q,r⟩:=k.facts;clear L d;go_wp2;refine cj ((k.put _ _ _).result rfl _ rfl) rfl ?_;exact⟨by rw[val,Qx n _ _ h0 h1],dV m al _ _ _⟩
theorem Po (n:Bool) (x y:ByteArray) (w:World) (a:x.size<=1099511627776) (b:y.size<=1099511627776):
  du 43 #[.bool n,.string x,.string y] w (eS w (C (val n x y))):=by
 by_cases h:N x=0∨N y=0
 ·have:=anj n x y w h;rwa [<- Jb.2 h] at this
 ·exact ank n x y w (fun e=>h (.inl e)) (fun e=>h (.inr e)) a b
theorem acr (n:Bool) (x y:ByteArray) (b:x.size<=1099511627776) (c:y.size<=1099511627776):∃(n':Bool) (x' a:ByteArray),N a≠0/\val n' x' a=val n x y/\x'.size<=1099511627776/\a.size<=1099511627776/\x'.size+a.size<=x.size+y.size+1/\∀V:World,
  du 127 #[.agg #[.bool n,.string x,.string y]] V (eS V (.agg #[.bool n',.string x',.string a])):=by
 have d:=Qy;by_cases h:N y=0
 ·refine⟨false,⟨#[]⟩,B 1,by rw[dA];decide,?_,?_,?_,?_,fun V=>?_⟩
  ·rw[Xe ac5,FV h]
  ·show 0<=_;omega
  ·omega
  ·show 0+_<=_;omega
  ·have:=alG n x y V h;rwa [Du] at this
 ·exact⟨n,x,y,h,rfl,b,c,al,fun V=>alF n x y V h⟩
theorem afE (a:Bool) (m n:Nat):sg a (m+n)=sg a m+sg a n:=by cases a<;>simp[sg,Int.neg_add]
theorem afz {a b:Bool} (h:¬a=b) (e:m=n+k):sg a k=sg a m+sg b n:=by
 cases a<;>cases b<;>simp[sg] at h⊢<;>omega
theorem afy {a b:Bool} (h:¬a=b) (e:n=m+k):sg b k=sg a m+sg b n:=by
 cases a<;>cases b<;>simp[sg] at h⊢<;>omega
theorem Zu {n:Bool} {x y:ByteArray} (h1:aI w' g n x y) (h:ef w w'):w'.cell? ⟨g,0,none⟩=some (.bool n)/\Hid (aI w' g n x y/\ef w w'):=
 ⟨h1.c0,h1,h⟩
theorem Q5 {h:Nat} {n m:Bool} {x y u v:ByteArray} (h1:aI w' g n x y) (a:aI w' h m u v) (b:ef w w'):(w'.cell? ⟨g,1,none⟩=some (.string x)/\w'.cell? ⟨g,2,none⟩=some (.string y)/\w'.cell? ⟨h,1,none⟩=some (.string u)/\w'.cell? ⟨h,2,none⟩=some (.string v))/\Hid (aI w' g n x y/\aI w' h m u v/\ef w w'):=
 ⟨⟨h1.c1,h1.c2,a.c1,a.c2⟩,h1,a,b⟩
theorem Xw (R nb:Bool) (K M L O:ByteArray) (w:World) (ui:K.size<=137438953472) (Ak:M.size<=137438953472) (ao:L.size<=137438953472) (av:O.size<=137438953472):
  du 87 #[.agg #[.bool R,.string K,.string M],.agg #[.bool nb,.string L,.string O]] w fun e w'=>
   ∃(n:Bool) (x d:Nat),e=.returned (.tuple #[.bool n,.string (B x),.string (B d)])/\d≠0/\mkRat (sg n x) d=val R K M+val nb L O/\(B x).size<=1099511627776/\(B d).size<=1099511627776/\ef w w':=by
 obtain⟨y,l,h,E,qM,aS,XK,aC,HA⟩:=acr R K M al al;obtain⟨D,J,j,c,uj,aT,XJ,aO,HB⟩:=acr nb L O al al;have Qu:=aH HA;have bA:=aH HB;clear HA HB;go_enter Tryz.func87,Tryz.ntmps87;have i:=((aI.at (w:=w) rfl R K M).alloc (FC nb L O)).drew;have a:=(aI.at (w:=w.alloc (FC R K M)) (g:=w.heap.size+1) aE nb L O).drew;have ai:ef w ((w.alloc (FC R K M)).alloc (FC nb L O)).drew:=(((au _ w).alloc (aq _) _).alloc aE _).drew;go_upto_region 1 with fail
 go_cut [] from 11 to 14 (fun wx=>aI wx w.heap.size y l h/\aI wx (w.heap.size+1) D J j/\ef w wx)
 case first=>
  go_region_with (first
   |(have xo:=X;go_at_call 127;refine(bA.o _).af ?_;rintro e w2 ⟨rfl,Q⟩;have qT:=aI.aa xo Q xo.lt;have Z:=aI.aa Y Q Y.lt;have ab:=U.trans (Q.af U.size);obtain⟨F,H,I,f,k,p⟩:=qT.facts;obtain⟨v,z,A,s,t,u⟩:=Z.facts)
   |(go_at_call 127;refine(Qu.o _).af ?_;rintro e w1 ⟨rfl,P⟩;have X:=aI.aa i P i.lt;have Y:=aI.aa a P a.lt;have U:=ai.trans (P.af ai.size);obtain⟨F,H,I,f,k,p⟩:=X.facts;obtain⟨v,z,A,s,t,u⟩:=Y.facts))
  all_goals go_wp2_with fail
  all_goals go_meet
  all_goals exact⟨((((qT.put _ _ _).far al _).far al _).far al _),(((Z.far al _).far al _).far al _).put _ _ _,dV (dV ab (aq _) _ _ _) al _ _ _⟩
 case rest=>
  obtain⟨i,a,r⟩:=hcut;obtain⟨F,H,I,f,k,p⟩:=i.facts;obtain⟨v,z,A,s,t,u⟩:=a.facts;clear Qu bA;have ax:=yH (N l) (N j);have ay:=yH (N J) (N h);have az:=yH (N h) (N j);have b1:=ju l;have b2:=ju h;have b3:=ju J;have b4:=ju j;go_upto_region 2 with fail
  go_cut [7,8] from 15 to 24 (fun s7 s8 wx=>s7=.string (B (N l*N j))/\s8=.string (B (N J*N h))/\aI wx w.heap.size y l h/\aI wx (w.heap.size+1) D J j/\ef w wx)
  case first=>
   clear qM uj E c aC aO b1 b2 b3 b4 ax ay az F H I f k p v z A s t u ui Ak ao av
   go_region_held3 (fun w'=>(w'.cell? ⟨w.heap.size,1,none⟩=some (.string l)/\w'.cell? ⟨w.heap.size,2,none⟩=some (.string h)/\w'.cell? ⟨w.heap.size+1,1,none⟩=some (.string J)/\w'.cell? ⟨w.heap.size+1,2,none⟩=some (.string j))/\Hid (aI w' w.heap.size y l h/\aI w' (w.heap.size+1) D J j/\ef w w'))
    (first |exact Q5 qT Z ab |exact Q5 X Y U |exact Q5 i.drew a.drew r.drew)
    (first
     |(have xo:=X;go_at_call 107;refine(Li J h _ aT XK).af ?_;rintro e w2 ⟨rfl,Q⟩;have qT:=xo.aa Q xo.lt;have Z:=Y.aa Q Y.lt;have ab:=U.trans (Q.af U.size))
     |(go_at_call 107;refine(Li l j _ aS XJ).af ?_;rintro e w1 ⟨rfl,P⟩;have X:=i.drew.aa P i.lt;have Y:=a.drew.aa P a.lt;have U:=r.drew.trans (P.af r.size)))
   go_wp2_with fail
   go_meet
   exact⟨rfl,rfl,qT,Z,ab⟩
  case rest=>
   obtain⟨rfl,rfl,i,a,r⟩:=hcut;obtain⟨F,H,I,f,k,p⟩:=i.facts;obtain⟨v,z,A,s,t,u⟩:=a.facts;go_wp2_with fail
   refine(Li h j _ XK XJ).af ?_;rintro e w3 ⟨rfl,ad⟩;have S:=i.aa ad i.lt;have ze:=a.aa ad a.lt;have T:=r.trans (ad.af r.size);clear i a r F H I f k p v z A s t u ad;obtain⟨F,H,I,f,k,p⟩:=S.facts;obtain⟨v,z,A,s,t,u⟩:=ze.facts;(have sl:(B (N l*N j)).size<=1099511627776:=al);(have sr:(B (N J*N h)).size<=1099511627776:=al);(have sd:(B (N h*N j)).size<=1099511627776:=al);have sa:=ae0 (N l*N j) (N J*N h);have sm:=lY (Nat.sub_le (N l*N j) (N J*N h));have sn:=lY (Nat.sub_le (N J*N h) (N l*N j));by_cases V:y=D
   ·subst V;go_upto_region 5 with fail
    go_region_held3 (fun w'=>w'.cell? ⟨w.heap.size,0,none⟩=some (.bool y)/\Hid (aI w' w.heap.size y l h/\ef w w'))
     (first |exact Zu TB q |exact Zu S.drew T.drew)
     (first
      |(go_at_call 45;refine(an1 _ _ _ sl sr).af ?_;rintro e w4 ⟨rfl,b⟩;have TB:=S.drew.aa b S.lt;have q:=T.drew.trans (b.af T.size)))
    go_wp2;go_ret3
    refine⟨y,N l*N j+N J*N h,N h*N j,by rw[dA,dA];rfl,Dy E c,?_,al,al,q⟩;rw[<- qM, <- uj,afE,val_add _ _ _ _ _ _ E c]
   ·have ah:=au w3.heap.size w3;(have cK:(y==D)=false:=by simp[V]);have gj:decide (y=D)=false:=eK V;by_cases a1:N J*N h<=N l*N j
    ·go_wp2_with fail
     refine(ac1 (N l*N j - N J*N h) ah (by rw[dA,dA];omega) sl sr).af ?_;rintro e w4 ⟨rfl,b⟩;have TB:=S.aa b S.lt;have q:=T.trans (b.af T.size);obtain⟨F,H,I,f,k,p⟩:=TB.facts;go_wp2;go_ret3
     refine⟨y,N l*N j - N J*N h,N h*N j,rfl,Dy E c,?_,al,al,q⟩;rw[<- qM, <- uj,afz V (m:=N l*N j) (n:=N J*N h) al,val_add _ _ _ _ _ _ E c]
    ·go_wp2_with fail
     refine(ana ah (by rw[dA,dA];omega)).af ?_;rintro e w4 ⟨rfl,b⟩;have ae:=ze.aa b ze.lt;have q:=T.trans (b.af T.size);have an:=au w4.heap.size w4;go_wp2_with fail
     refine(ac1 (N J*N h - N l*N j) an (by rw[dA,dA];omega) sr sl).af ?_;rintro e w5 ⟨rfl,aj⟩;have ak:=ae.aa aj ae.lt;have KJ:=q.trans (aj.af q.size);obtain⟨v,z,A,s,t,u⟩:=ak.facts;go_wp2;go_ret3
     refine⟨D,N J*N h - N l*N j,N h*N j,rfl,Dy E c,?_,al,al,KJ⟩;rw[<- qM, <- uj,afy V (m:=N l*N j) (n:=N J*N h) al,val_add _ _ _ _ _ _ E c]
def bw (q:Rat):Bool:=decide (q.num<0)
def nu (q:Rat):ByteArray:=B q.num.natAbs
def de (q:Rat):ByteArray:=B q.den
theorem tT (q:Rat):C q=.agg #[.bool (bw q),.string (nu q),.string (de q)]:=rfl
theorem ji (q:Rat):val (bw q) (nu q) (de q)=q:=aeq q
theorem mM (q:Rat):(nu q).size+(de q).size=qw q:=rfl
theorem anZ (n:Bool) (x y:ByteArray) (w:World) (d:x.size<=1099511627776) (f:y.size<=1099511627776):
  du 40 #[.agg #[.bool n,.string x,.string y]] w (eS w (C (val n x y))):=by
 go_enter Tryz.func40,Tryz.ntmps40;have b:=aI.at (w:=w.alloc (FC n x y)) (g:=w.heap.size+1) aE false ⟨#[]⟩ ⟨#[]⟩;have h:ef w ((w.alloc (FC n x y)).alloc (FC false ⟨#[]⟩ ⟨#[]⟩)):=((au _ w).alloc (aq _) _).alloc aE _;go_wp2_with fail
 refine(Po n x y _ d f).af ?_;rintro e i ⟨rfl,a⟩;have c:=b.aa a b.lt;have j:ef w i:=h.trans (a.af h.size);obtain⟨o,p,q,k,l,m⟩:=c.facts;clear b h;rw[tT];go_wp2;refine cj ((c.put _ _ _).result rfl _ rfl) rfl ?_;exact⟨rfl,dV j al _ _ _⟩
theorem acg (f nb:Bool) (a y b c:ByteArray) (w:World) (u:a.size<=137438953472) (A:y.size<=137438953472) (z:b.size<=137438953472) (D:c.size<=137438953472):
  du 47 #[.agg #[.bool f,.string a,.string y],.agg #[.bool nb,.string b,.string c]] w (eS w (C (val f a y+val nb b c))):=by
 go_enter Tryz.func47,Tryz.ntmps47;have L:=aI.at (w:=(w.alloc (FC f a y)).alloc (FC nb b c)) (g:=w.heap.size+2) aE false ⟨#[]⟩ ⟨#[]⟩;have h:ef w (((w.alloc (FC f a y)).alloc (FC nb b c)).alloc (FC false ⟨#[]⟩ ⟨#[]⟩)):=(((au _ w).alloc (aq _) _).alloc aE _).alloc (by simp;omega) _;go_wp2_with fail
 refine(Xw f nb a y b c _ u A z D).af ?_;rintro e p ⟨n,x,d,rfl,I,v,o,s,k⟩;have j:=L.aa k L.lt;have i:ef w p:=h.trans (k.af h.size);clear L h;go_wp2_with fail
 refine(Po n (B x) (B d) _ o s).af ?_;rintro e r ⟨rfl,l⟩;have m:=j.aa l j.lt;have t:ef w r:=i.trans (l.af i.size);have q:val n (B x) (B d)=val f a y+val nb b c:=by rw[<- v,val,dA,dA]
 rw[q];clear j i q v;obtain⟨J,K,M,E,F,H⟩:=m.facts;rw[tT];go_wp2;refine cj ((m.put _ _ _).result rfl _ rfl) rfl ?_;exact⟨rfl,dV t al _ _ _⟩
theorem aI.far3 (h:aI w g neg num den) (a:g≠g') (u v x:Value):aI (((w.setCell ⟨g',0,none⟩ u).setCell ⟨g',1,none⟩ v).setCell ⟨g',2,none⟩ x) g neg num den:=
 ((h.far a u).far a v).far a x
theorem BW {h:Nat} {n m:Bool} {x y u v:ByteArray} (h1:aI w' g n x y) (a:aI w' h m u v) (b:ef w w'):(w'.cell? ⟨g,0,none⟩=some (.bool n)/\w'.cell? ⟨g,1,none⟩=some (.string x)/\w'.cell? ⟨g,2,none⟩=some (.string y)/\w'.cell? ⟨h,0,none⟩=some (.bool m)/\w'.cell? ⟨h,1,none⟩=some (.string u)/\w'.cell? ⟨h,2,none⟩=some (.string v))/\Hid (aI w' g n x y/\aI w' h m u v/\ef w w'):=
 ⟨⟨h1.c0,h1.c1,h1.c2,a.c0,a.c1,a.c2⟩,h1,a,b⟩
theorem acd (n nb:Bool) (a y b c:ByteArray) (w:World) (J:a.size<=137438953472) (E:y.size<=137438953472) (P:b.size<=137438953472) (Q:c.size<=137438953472):
  du 57 #[.agg #[.bool n,.string a,.string y],.agg #[.bool nb,.string b,.string c]] w (eS w (C (val n a y*val nb b c))):=by
 have F:(B (N a*N b)).size<=1099511627776:=by have:=yH (N a) (N b);have:=ju a;have:=ju b;omega
 have I:(B (N y*N c)).size<=1099511627776:=by have:=yH (N y) (N c);have:=ju y;have:=ju c;omega
 have q:val (n !=nb) (B (N a*N b)) (B (N y*N c))=val n a y*val nb b c:=by rw[<- val_mul,val,dA,dA]
 have H:=aH q;clear q;have O:a.size<=1099511627776:=al
 have L:y.size<=1099511627776:=al
 have M:b.size<=1099511627776:=al
 have K:c.size<=1099511627776:=al
 clear J E P Q;go_enter Tryz.func57,Tryz.ntmps57;have Y:=(((aI.at (w:=w) rfl n a y).alloc (FC nb b c)).alloc (FC false ⟨#[]⟩ ⟨#[]⟩)).drew;have i:=((aI.at (w:=w.alloc (FC n a y)) (g:=w.heap.size+1) aE nb b c).alloc (FC false ⟨#[]⟩ ⟨#[]⟩)).drew;have D:=(aI.at (w:=(w.alloc (FC n a y)).alloc (FC nb b c)) (g:=w.heap.size+2) aE false ⟨#[]⟩ ⟨#[]⟩).drew;have k:ef w (((w.alloc (FC n a y)).alloc (FC nb b c)).alloc (FC false ⟨#[]⟩ ⟨#[]⟩)).drew:=((((au _ w).alloc (aq _) _).alloc aE _).alloc (by simp;omega) _).drew;go_upto_region 1 with fail
 go_region_held3 (fun w'=>(w'.cell? ⟨w.heap.size,0,none⟩=some (.bool n)/\w'.cell? ⟨w.heap.size,1,none⟩=some (.string a)/\w'.cell? ⟨w.heap.size,2,none⟩=some (.string y)/\w'.cell? ⟨w.heap.size+1,0,none⟩=some (.bool nb)/\w'.cell? ⟨w.heap.size+1,1,none⟩=some (.string b)/\w'.cell? ⟨w.heap.size+1,2,none⟩=some (.string c))/\Hid (aI w' w.heap.size n a y/\aI w' (w.heap.size+1) nb b c/\ef w w'))
  (first
   |exact BW (u.far3 al _ _ _) (z.far3 al _ _ _) (dV T al _ _ _)
   |exact BW u z T |exact BW s p m |exact BW r j l |exact BW Y i k)
  (first
   |(have A:=s;go_at_call 43;refine(Po _ _ _ _ F I).af ?_;rintro e w3 ⟨rfl,f⟩;have u:=A.aa f A.lt;have z:=p.aa f p.lt;have v:=x.aa f x.lt;have T:=m.trans (f.af m.size);obtain⟨X,Z,k2,S,U,V⟩:=v.facts;rw[tT])
   |(have t:=r;go_at_call 107;refine(Li y c _ L K).af ?_;rintro e w2 ⟨rfl,d⟩;have s:=t.aa d t.lt;have p:=j.aa d j.lt;have x:=R.aa d R.lt;have m:=l.trans (d.af l.size))
   |(go_at_call 107;refine(Li a b _ O M).af ?_;rintro e w1 ⟨rfl,h⟩;have r:=Y.aa h Y.lt;have j:=i.aa h i.lt;have R:=D.aa h D.lt;have l:=k.trans (h.af k.size)))
 go_wp2;refine cj ((v.put _ _ _).result rfl _ rfl) rfl ?_;exact⟨by rw[<- H.o];rfl,dV T al _ _ _⟩
variable {p q:Rat}
theorem aI.result2 (h:aI w g neg num den) {p u:Tmp} (r:fn.results= #[.cell p 42,.tmp u]) (m:Array Value) (a:m.getD p undef=.pointer (some ⟨g,0,none⟩)):
  (results fn m).run Tryz.prog w=.ok (.tuple #[.agg #[.bool neg,.string num,.string den],m.getD u undef]) w:=by
 rw[results_cell_tmp r,a];simp only[asAddr,Bz,wB];rw[run_loadVar_row w g _ 42 _ _ _ h Tryz.underlying42 rfl ao];simp only[wB]
theorem al6 {n:Bool} {x:Nat} (e:d≠0) (h:mkRat (sg n x) d=p - q):gz p q=if x=0 then 0 else if n=true then -1 else 1:=by
 by_cases a:x=0
 ·rw[aA a];rw[a,Yo,Mv] at h;have:p=q:=by grind
  subst this;rw[gz,aD (by grind),aA rfl]
 ·rw[aD a];obtain⟨b,c⟩:=aiy n x d e a;cases n
  ·have:=c rfl;rw[h] at this;rw[aD bd,gz,aD (by grind),aD (by grind)]
  ·have:=b rfl;rw[h] at this;rw[aA rfl,gz,aA (by grind)]
theorem als (f nb:Bool) (a c b y:ByteArray) (w:World) (I:a.size<=137438953472) (A:c.size<=137438953472) (J:b.size<=137438953472) (K:y.size<=137438953472):
  du 77 #[.agg #[.bool f,.string a,.string c],.agg #[.bool nb,.string b,.string y]] w (eS w (.int .i64 (gz (val f a c) (val nb b y)))):=by
 have s:val f a c+val (!nb) b y=val f a c - val nb b y:=by rw[aep,Rat.sub_eq_add_neg]
 have Q:=aH s;clear s;go_enter Tryz.func77,Tryz.ntmps77;have Y:=((aI.at (w:=w) rfl f a c).alloc (FC nb b y)).drew;have j:=(aI.at (w:=w.alloc (FC f a c)) (g:=w.heap.size+1) aE nb b y).drew;have l:ef w ((w.alloc (FC f a c)).alloc (FC nb b y)).drew:=(((au _ w).alloc (aq _) _).alloc aE _).drew;go_upto_region 1 with fail
 go_region_held3 (fun w'=>(w'.cell? ⟨w.heap.size,0,none⟩=some (.bool f)/\w'.cell? ⟨w.heap.size,1,none⟩=some (.string a)/\w'.cell? ⟨w.heap.size,2,none⟩=some (.string c)/\w'.cell? ⟨w.heap.size+1,0,none⟩=some (.bool nb)/\w'.cell? ⟨w.heap.size+1,1,none⟩=some (.string b)/\w'.cell? ⟨w.heap.size+1,2,none⟩=some (.string y))/\Hid (aI w' w.heap.size f a c/\aI w' (w.heap.size+1) nb b y/\ef w w'))
  (first
   |exact BW F E i |exact BW t k m |exact BW Y j l)
  (first
   |(have u:=t;go_at_call 87;refine(Xw f (!nb) a c b y _ I A J K).af ?_;rintro e P ⟨n,x,d,rfl,z,v,M,L,q⟩;have F:=u.aa q u.lt;have E:=k.aa q k.lt;have i:=m.trans (q.af m.size);have T:=aH (al6 z (v.trans Q.o));clear v)
   |(go_at_call 115;refine(ahv nb b y _).af ?_;rintro e O ⟨rfl,p⟩;have t:=Y.aa p Y.lt;have k:=j.aa p j.lt;have m:=l.trans (p.af l.size)))
 have r:∀V:World,du 58 #[.string (B x)] V fun e w'=>e=.returned (.bool (decide (x=0)))/\w'=V:=fun V=>by
  have:=wO (B x) V;rwa [dA] at this
 have H:=aH r;clear r;go_wp2_with fail
 refine(H.o _).af ?_;rintro e R ⟨rfl,D⟩;subst D;by_cases h:x=0
 ·rw[eD h];go_wp2;go_ret;exact⟨by rw[T.o,aA h];rfl,i⟩
 ·rw[eK h];cases n
  ·go_wp2;go_ret;exact⟨by rw[T.o,aD h];rfl,i⟩
  ·go_wp2;go_ret;exact⟨by rw[T.o,aD h];rfl,i⟩
theorem alr (n nb:Bool) (x d b y:ByteArray) (w:World) (h:N b=0∨N y=0):
  du 25 #[.agg #[.bool n,.string x,.string d],.agg #[.bool nb,.string b,.string y]] w (eS w (.tuple #[.agg #[.bool false,.string ⟨#[]⟩,.string ⟨#[]⟩],.int .i64 3])):=by
 have X:=fun V=>wO b V;have Y:=fun V=>wO y V;have H:=aH X;have j:=aH Y;clear X Y;go_enter Tryz.func25,Tryz.ntmps25;have r:=aI.at (w:=(w.alloc (FC n x d)).alloc (FC nb b y)) (g:=w.heap.size+2) aE false ⟨#[]⟩ ⟨#[]⟩;have i:ef w (((w.alloc (FC n x d)).alloc (FC nb b y)).alloc (FC false ⟨#[]⟩ ⟨#[]⟩)):=(((au _ w).alloc (aq _) _).alloc aE _).alloc (by simp;omega) _;by_cases c:N b=0
 ·go_wp2_with fail
  refine(H.o _).af ?_;rintro e f ⟨rfl,a⟩;subst a;rw[eD c];go_wp2;refine cj (r.result2 rfl _ rfl) rfl ?_;exact⟨rfl,i⟩
 ·have k:N y=0:=h.resolve_left c;go_wp2_with fail
  refine(H.o _).af ?_;rintro e f ⟨rfl,a⟩;subst a;rw[eK c];go_wp2_with fail
  refine(j.o _).af ?_;rintro e f ⟨rfl,a⟩;subst a;rw[eD k];go_wp2;refine cj (r.result2 rfl _ rfl) rfl ?_;exact⟨rfl,i⟩
theorem alq (n nb:Bool) (a c b y:ByteArray) (w:World) (h0:N b≠0) (h1:N y≠0) (u:a.size<=137438953472) (k:c.size<=137438953472) (m:b.size<=137438953472) (p:y.size<=137438953472):
  du 25 #[.agg #[.bool n,.string a,.string c],.agg #[.bool nb,.string b,.string y]] w (eS w (.tuple #[C (val n a c/val nb b y),.int .i64 0])):=by
 have X:=fun V=>wO b V;have Y:=fun V=>wO y V;have H:=aH X;have j:=aH Y;clear X Y;have q:val n a c*val nb y b=val n a c/val nb b y:=by rw[QY nb b y h0 h1,rC]
 go_enter Tryz.func25,Tryz.ntmps25;have r:=aI.at (w:=(w.alloc (FC n a c)).alloc (FC nb b y)) (g:=w.heap.size+2) aE false ⟨#[]⟩ ⟨#[]⟩;have f:ef w (((w.alloc (FC n a c)).alloc (FC nb b y)).alloc (FC false ⟨#[]⟩ ⟨#[]⟩)):=(((au _ w).alloc (aq _) _).alloc aE _).alloc (by simp;omega) _;go_wp2_with fail
 refine(H.o _).af ?_;rintro e d ⟨rfl,h⟩;subst h;rw[eK h0];go_wp2_with fail
 refine(j.o _).af ?_;rintro e d ⟨rfl,h⟩;subst h;rw[eK h1];go_wp2_with fail
 refine(acd n nb a c y b _ u k p m).af ?_;rintro e d ⟨rfl,i⟩;rw[q];have x:=r.aa i r.lt;have l:ef w d:=f.trans (i.af f.size);obtain⟨z,A,D,s,t,v⟩:=x.facts;clear r f;rw[tT];go_wp2;refine cj ((x.put _ _ _).result2 rfl _ rfl) rfl ?_;exact⟨rfl,dV l al _ _ _⟩
theorem alo (n:Nat) (w:World) (h:n<=9223372036854775807):
  du 18 #[.int .i64 (n:Int)] w (eS w (C (n:Rat))):=by
 have q:val false (B n) (B 1)=(n:Rat):=by
  rw[val,dA,dA];show mkRat (n:Int) 1=_;rw[Rat.mkRat_one];rfl
 have p:=Qy
 have s:(B n).size<=1099511627776:=by
  have:=o8 8 n (by show n<18446744073709551616;omega);rw[<- lg n] at this;omega
 go_enter Tryz.func18,Tryz.ntmps18;have r:=aI.at (w:=w) rfl false ⟨#[]⟩ ⟨#[]⟩;have b:ef w (w.alloc (FC false ⟨#[]⟩ ⟨#[]⟩)):=(au _ w).alloc (aq _) _;have a:=au (w.alloc (FC false ⟨#[]⟩ ⟨#[]⟩)).heap.size (w.alloc (FC false ⟨#[]⟩ ⟨#[]⟩));go_wp2_with fail
 refine(ac3 n a rfl al).af ?_;rintro e d ⟨rfl,a⟩;go_wp2_with fail
 refine(ac3 1 a rfl al).af ?_;rintro e d ⟨rfl,a⟩;go_wp2_with fail
 refine(Po false (B n) (B 1) _ s al).af ?_;rintro e f ⟨rfl,c⟩;rw[q];have x:=(r.aa a r.lt).aa c (r.aa a r.lt).lt;have g:ef w f:=(b.trans (a.af b.size)).trans (c.af (b.trans (a.af b.size)).size);obtain⟨l,m,o,i,j,k⟩:=x.facts;clear r b a;rw[tT];go_wp2;refine cj ((x.put _ _ _).result rfl _ rfl) rfl ?_;exact⟨rfl,dV g al _ _ _⟩
theorem below_drewN {B:Nat} {a b:World} (h:Below B a b) (k:Nat):Below B a (b.drewN k):=⟨h.os,h.tape,h.output,h.size,h.block⟩
theorem alu {n m:Bool} {x y u v:ByteArray} (r:Rat) (a:val n x y=p) (b:val m u v=q) (h:p+q=r) (s:x.size+y.size<=100000) (c:u.size+v.size<=100000):
  du 47 #[.agg #[.bool n,.string x,.string y],.agg #[.bool m,.string u,.string v]] w (eS w (.agg #[.bool (bw r),.string (nu r),.string (de r)])):=by
 subst a b h;exact acg n m x y u v w al al al al
theorem KW {n m:Bool} {x y u v:ByteArray} (r:Rat) (a:val n x y=p) (b:val m u v=q) (h:p*q=r) (s:x.size+y.size<=100000) (c:u.size+v.size<=100000):
  du 57 #[.agg #[.bool n,.string x,.string y],.agg #[.bool m,.string u,.string v]] w (eS w (.agg #[.bool (bw r),.string (nu r),.string (de r)])):=by
 subst a b h;exact acd n m x y u v w al al al al
theorem EJ {n m:Bool} {x y u v:ByteArray} (k:Int) (a:val n x y=p) (b:val m u v=q) (h:gz p q=k) (s:x.size+y.size<=100000) (c:u.size+v.size<=100000):
  du 77 #[.agg #[.bool n,.string x,.string y],.agg #[.bool m,.string u,.string v]] w (eS w (.int .i64 k)):=by
 subst a b h;exact als n m x y u v w al al al al
theorem Qw {n:Bool} {x y:ByteArray} (r:Rat) (h:val n x y=r) (s:x.size+y.size<=100000):
  du 40 #[.agg #[.bool n,.string x,.string y]] w (eS w (.agg #[.bool (bw r),.string (nu r),.string (de r)])):=by
 subst h;exact anZ n x y w al al
theorem xI {k:Int} (r:Rat) (n:Nat) (a:k=(n:Int)) (b:n<=1) (h:(n:Rat)=r):
  du 18 #[.int .i64 k] w (eS w (.agg #[.bool (bw r),.string (nu r),.string (de r)])):=by
 subst h a;exact alo n w al
theorem ace {n m:Bool} {x y u v:ByteArray} (h:val m u v=0):
  du 25 #[.agg #[.bool n,.string x,.string y],.agg #[.bool m,.string u,.string v]] w fun e w'=>e=.returned (.tuple #[.agg #[.bool false,.string ⟨#[]⟩,.string ⟨#[]⟩],.int .i64 3])/\ef w w':=
 alr n m x y u v w (Jb.1 h)
theorem acf {n m:Bool} {x y u v:ByteArray} (r:Rat) (a:val n x y=p) (b:val m u v=q) (h0:q≠0) (h:p/q=r) (s:x.size+y.size<=100000) (c:u.size+v.size<=100000):
  du 25 #[.agg #[.bool n,.string x,.string y],.agg #[.bool m,.string u,.string v]] w (eS w (.tuple #[.agg #[.bool (bw r),.string (nu r),.string (de r)],.int .i64 0])):=by
 subst a b h;have j:=fun h=>h0 (Jb.2 h);exact alq n m x y u v w (fun h=>j (.inl h)) (fun h=>j (.inr h)) al al al al
theorem Mq:B 1=⟨#[1]⟩:=by
 rw[B,qd 1 bd,show 1/256=0 from rfl,qb];rfl
theorem ahT (h:¬n=1):((B n).toList==[1])=false:=FP.2 fun e=>h (adR (by
 rw[Mq];rw[Lib.toList_data] at e;exact ByteArray.ext (Array.toList_inj.1 e)))
theorem agf (n:Bool) (x y:ByteArray) (w:World) (h:N x=0∨N y=0) (f:x.size<=500000) (g:y.size<=500000):
  du 110 #[.bool n,.string x,.string y] w (eS w (C 0)):=by
 have H:=aH (fun V=>nV x V al);have Y:=aH (fun V=>nV y V al);go_enter Tryz.func110,Tryz.ntmps110;by_cases a:N x=0
 focus
  rw[a,Dv] at H
 rotate_left
 focus
  have c:N y=0:=h.resolve_left a;have i:=FB a;rw[c,Dv] at Y
 all_goals
  go_wp2_with fail
  refine(H.o _).af ?_;rintro e d ⟨rfl,b⟩;subst b;go_wp2_with fail
  refine(Y.o _).af ?_;rintro e d ⟨rfl,b⟩;subst b;go_wp2;refine cj ((aI.at (w:=w) rfl false ⟨#[]⟩ ⟨#[1]⟩).result rfl _ rfl) rfl ?_;exact⟨by rw[Du,Mq],(au _ w).alloc (aq _) _⟩
theorem agh (n:Bool) (x y:ByteArray) (w:World) (h0:N x≠0) (h1:N y≠0) (F:x.size<=500000) (I:y.size<=500000):
  du 110 #[.bool n,.string x,.string y] w (eS w (C (val n x y))):=by
 have H:=aH (fun V=>nV x V al);have m:=aH (fun V=>nV y V al);have HC:=aH (Qx n _ _ h0 h1);have s:=aR (ju x) F;have p:=aR (ju y) I;have c:=aH (fun V=>agi (B (N x)) (B (N y)) V s p);rw[dA,dA] at c;have R:=aR (lY (Nat.gcd_le_left (N y) (lR h0))) s;have f:Nat.gcd (N x) (N y)≠0:=fun h=>h0 (Nat.gcd_eq_zero_iff.1 h).1;have P:=aH (fun V=>Rw (N x) _ V s R f);have Q:=aH (fun V=>Rw (N y) _ V p R f);have Z:=FB h0;have U:=FB h1;rw[val];clear h0 h1 f;generalize mkRat (sg n (N x)) (N y)=q at *;generalize N x=X at *;generalize N y=Y at *;generalize Nat.gcd X Y=g at *;go_enter Tryz.func110,Tryz.ntmps110;have b:=aI.at (w:=w) rfl false ⟨#[]⟩ ⟨#[]⟩;have j:ef w (w.alloc (FC false ⟨#[]⟩ ⟨#[]⟩)):=(au _ w).alloc (aq _) _;go_wp2_with fail
 refine(H.o _).af ?_;rintro e i ⟨rfl,d⟩;subst d;go_wp2_with fail
 refine(m.o _).af ?_;rintro e i ⟨rfl,d⟩;subst d;go_wp2_with fail
 refine(c.o _).af ?_;rintro e i ⟨rfl,l⟩;have a:=b.aa l b.lt;have k:ef w i:=j.trans (l.af j.size);clear b j l H m c;by_cases h1:g=1
 ·subst h1;rw[DC,DC] at HC;rw[Mq];obtain⟨J,K,L,A,D,E⟩:=a.facts;go_wp2;refine cj ((a.put _ _ _).result rfl _ rfl) rfl ?_;exact⟨by rw[HC.o],dV k al _ _ _⟩
 ·have S:=ahT h1;go_wp2_with fail
  refine(P.o _).af ?_;rintro e M ⟨rfl,t⟩;have v:=a.aa t a.lt;have r:ef w M:=k.trans (t.af k.size);go_wp2_with fail
  refine(Q.o _).af ?_;rintro e O ⟨rfl,u⟩;have z:=v.aa u v.lt;have T:ef w O:=r.trans (u.af r.size);obtain⟨J,K,L,A,D,E⟩:=z.facts;go_wp2;refine cj ((z.put _ _ _).result rfl _ rfl) rfl ?_;exact⟨by rw[HC.o],dV T al _ _ _⟩
theorem YK (n:Bool) (x y:ByteArray) (w:World) (a:x.size<=500000) (b:y.size<=500000):
  du 110 #[.bool n,.string x,.string y] w (eS w (C (val n x y))):=by
 by_cases h:N x=0∨N y=0
 ·have:=agf n x y w h a b;rwa [<- Jb.2 h] at this
 ·exact agh n x y w (fun e=>h (.inl e)) (fun e=>h (.inr e)) a b
theorem Nj (n:Bool) (x y:ByteArray) (w:World) (d:x.size<=500000) (f:y.size<=500000):
  du 69 #[.agg #[.bool n,.string x,.string y]] w (eS w (C (val n x y))):=by
 go_enter Tryz.func69,Tryz.ntmps69;have b:=aI.at (w:=w.alloc (FC n x y)) (g:=w.heap.size+1) aE false ⟨#[]⟩ ⟨#[]⟩;have h:ef w ((w.alloc (FC n x y)).alloc (FC false ⟨#[]⟩ ⟨#[]⟩)):=((au _ w).alloc (aq _) _).alloc aE _;go_wp2_with fail
 refine(YK n x y _ d f).af ?_;rintro e i ⟨rfl,a⟩;have c:=b.aa a b.lt;have j:ef w i:=h.trans (a.af h.size);obtain⟨o,p,q,k,l,m⟩:=c.facts;clear b h;rw[tT];go_wp2;refine cj ((c.put _ _ _).result rfl _ rfl) rfl ?_;exact⟨rfl,dV j al _ _ _⟩
variable {U V:World}
theorem YJ {a b:ByteArray} (n:Nat) (c:ef w0 w) (h:N a*N b=n) (d:a.size<=1000000) (e:b.size<=1000000):
  du 111 #[.string a,.string b] w (eS w0 (.string (B n))):=by
 subst h;exact under c (agd a b w al al)
theorem Lg (q:Rat):N (nu q)=q.num.natAbs:=dA _
theorem Lh (q:Rat):N (de q)=q.den:=dA _
def Pn (w V:World) (p q:Rat) (n:Bool) (x y:ByteArray):Prop:=aI V w.heap.size (bw p) (nu p) (de p)/\aI V (w.heap.size+1) (bw q) (nu q) (de q)/\aI V (w.heap.size+2) n x y/\ef w V
theorem Pn.step {n:Bool} {x y:ByteArray} (h:Pn w V p q n x y) (b:ef V U):Pn w U p q n x y:=by
 obtain⟨a,c,d,e⟩:=h;exact⟨a.aa b a.lt,c.aa b c.lt,d.aa b d.lt,e.trans (b.af e.size)⟩
theorem age (n nb:Bool) (a y b c:ByteArray) (w:World) (ha:a.size+y.size<=50000) (hb:b.size+c.size<=50000):
  du 70 #[.agg #[.bool n,.string a,.string y],.agg #[.bool nb,.string b,.string c]] w (eS w (C (val n a y*val nb b c))):=by
 have Z:=aH (fun V=>Nj n a y V al al);have HB:=aH (fun V=>Nj nb b c V al al);have q1:=F6 n a y;have q2:=F6 nb b c;generalize val n a y=p at *;generalize val nb b c=q at *;have z1:=mM p;have z2:=mM q;have s1:=yH p.num.natAbs q.num.natAbs;have s3:=yH p.den q.den;have e1:(B p.num.natAbs).size=(nu p).size:=rfl;have e2:(B p.den).size=(de p).size:=rfl;have e3:(B q.num.natAbs).size=(nu q).size:=rfl;have e4:(B q.den).size=(de q).size:=rfl
 have HS:Hid (val (bw p !=bw q) (B (p.num.natAbs*q.num.natAbs)) (B (p.den*q.den))=p*q):=by
  show _=_;have e:=val_mul (bw p) (bw q) (nu p) (de p) (nu q) (de q);rw[ji,ji,Lg,Lg,Lh,Lh] at e;rw[val,dA,dA,e]
 have U:=aH (fun (V:World)=>YJ (w:=V) (p.num.natAbs*q.num.natAbs) (au _ V) (by rw[Lg,Lg]) (show (nu p).size<=_ by omega) (show (nu q).size<=_ by omega));have ab:=aH (fun (V:World)=>YJ (w:=V) (p.den*q.den) (au _ V) (by rw[Lh,Lh]) (show (de p).size<=_ by omega) (show (de q).size<=_ by omega));generalize p*q=r at *;generalize p.num.natAbs*q.num.natAbs=X at *;generalize p.den*q.den=D at *;have t1:(B X).size<=200000:=al
 have t3:(B D).size<=200000:=al
 clear s1 s3 e1 e2 e3 e4 z1 z2 q1 q2 ha hb;go_enter Tryz.func70,Tryz.ntmps70;have z:=((aI.at (w:=w) rfl n a y).alloc (FC nb b c)).alloc (FC false ⟨#[]⟩ ⟨#[]⟩);have x:=(aI.at (w:=w.alloc (FC n a y)) (g:=w.heap.size+1) aE nb b c).alloc (FC false ⟨#[]⟩ ⟨#[]⟩);have Q:=aI.at (w:=(w.alloc (FC n a y)).alloc (FC nb b c)) (g:=w.heap.size+2) aE false ⟨#[]⟩ ⟨#[]⟩;have O:ef w (((w.alloc (FC n a y)).alloc (FC nb b c)).alloc (FC false ⟨#[]⟩ ⟨#[]⟩)):=(((au _ w).alloc (aq _) _).alloc aE _).alloc (by simp;omega) _;go_wp2_with fail
 refine(Z.o _).af ?_;rintro e w1 ⟨rfl,i⟩;have J:=z.aa i z.lt;have Y:=(x.aa i x.lt).far3 (g':=w.heap.size) al (.bool (bw p)) (.string (nu p)) (.string (de p));have R:=(Q.aa i Q.lt).far3 (g':=w.heap.size) al (.bool (bw p)) (.string (nu p)) (.string (de p));have P:=dV (O.trans (i.af O.size)) (aq _) (.bool (bw p)) (.string (nu p)) (.string (de p));have T:=J.put (bw p) (nu p) (de p);obtain⟨A,F,I,t,u,v⟩:=J.facts;obtain⟨d,f,h,_,_,_⟩:=Y.facts;rw[tT];clear z x Q O J i;go_wp2_with fail
 clear A F I t u v d f h;refine(HB.o _).af ?_;rintro e w2 ⟨rfl,j⟩;have K:=Y.aa j Y.lt;have L:=(T.aa j T.lt).far3 (g':=w.heap.size+1) al (.bool (bw q)) (.string (nu q)) (.string (de q));have S:=(R.aa j R.lt).far3 (g':=w.heap.size+1) al (.bool (bw q)) (.string (nu q)) (.string (de q));have bT:=dV (P.trans (j.af P.size)) (g:=w.heap.size+1) al (.bool (bw q)) (.string (nu q)) (.string (de q));have M:=K.put (bw q) (nu q) (de q);obtain⟨A,F,I,t,u,v⟩:=K.facts;have ht:Pn w _ p q false ⟨#[]⟩ ⟨#[]⟩:=⟨L,M,S,bT⟩;obtain⟨d,f,h,_,_,_⟩:=L.facts;obtain⟨k,l,m,_,_,_⟩:=M.facts;rw[tT];clear T Y R P K L S bT M j Z HB;go_wp2_with fail
 refine(U.o _).af ?_;rintro e w3 ⟨rfl,ad⟩;clear d f h k l m A F I t u v;have E:=ht.step ad;clear ht ad U;obtain⟨d,f,h,_,_,_⟩:=E.1.facts;obtain⟨k,l,m,_,_,_⟩:=E.2.1.facts;go_wp2_with fail
 refine(ab.o _).af ?_;rintro e w4 ⟨rfl,ae⟩;clear d f h k l m;have H:=E.step ae;clear E ae ab;obtain⟨d,f,h,_,_,_⟩:=H.1.facts;obtain⟨k,l,m,_,_,_⟩:=H.2.1.facts;go_wp2_with fail
 refine(YK (bw p !=bw q) (B X) (B D) _ al al).af ?_;rintro e w7 ⟨rfl,dw⟩;have s:=H.step dw;obtain⟨g0,g1,g2,i0,i1,i2⟩:=s.2.2.1.facts;rw[HS.o,tT];go_wp2;refine cj ((s.2.2.1.put _ _ _).result rfl _ rfl) rfl ?_;exact⟨rfl,dV s.2.2.2 al _ _ _⟩
theorem ahI (h:q=0):nu q=⟨#[]⟩:=by subst h;exact Dv
theorem ahJ (h:¬q=0):(nu q).toList.isEmpty=false:=FB (by rw[Ne,Int.natAbs_eq_zero,Rat.num_eq_zero];exact h)
theorem af8 (n:Bool) (x y:ByteArray) (w:World) (l:x.size+y.size<=50000):
  du 68 #[.agg #[.bool n,.string x,.string y]] w (eS w (.bool (decide (val n x y=0)))):=by
 have HC:=aH (fun V=>Nj n x y V al al);generalize val n x y=q at *
 have z:(q=0/\decide (q=0)=true)∨(¬q=0/\decide (q=0)=false):=by
  by_cases h:q=0
  ·exact .inl ⟨h,eD h⟩
  ·exact .inr ⟨h,eK h⟩
 have H:=aH z;clear z;generalize decide (q=0)=t at *;go_enter Tryz.func68,Tryz.ntmps68;have b:=aI.at (w:=w) rfl n x y;have c:ef w (w.alloc (FC n x y)):=(au _ w).alloc (aq _) _;go_wp2_with fail
 refine(HC.o _).af ?_;rintro e u ⟨rfl,f⟩;have g:=b.aa f b.lt;have d:=dV (c.trans (f.af c.size)) (aq _) (.bool (bw q)) (.string (nu q)) (.string (de q));obtain⟨m,p,r,i,j,k⟩:=g.facts;rw[tT];rcases H.o with ⟨h,rfl⟩ |⟨h,rfl⟩
 ·have a:=ahI h;clear h H;generalize nu q=s at *;subst a;go_wp2;go_ret;exact⟨rfl,d⟩
 ·have a:=ahJ h;clear h H;go_wp2;go_ret;exact⟨rfl,d⟩
theorem agm (n nb:Bool) (a c b y:ByteArray) (w:World) (h:¬val nb b y=0) (Q:a.size+c.size<=40000) (S:b.size+y.size<=40000):
  du 32 #[.agg #[.bool n,.string a,.string c],.agg #[.bool nb,.string b,.string y]] w (eS w (.tuple #[C (val n a c/val nb b y),.int .i64 0])):=by
 have Z:=aH (fun V=>af8 nb b y V al);rw[eK h] at Z;have HC:=aH (fun V=>Nj nb b y V al al);have X:=F6 nb b y;generalize val nb b y=q at *;have z2:=mM q;have H:=aH (fun V=>age n (bw q) a c (de q) (nu q) V al al)
 have z:val (bw q) (de q) (nu q)=q⁻¹:=by
  rw[QY (bw q) (nu q) (de q) (by rw[Lg,Ne,Int.natAbs_eq_zero,Rat.num_eq_zero];exact h) (by rw[Lh];exact q.den_nz),ji]
 rw[z, <- rC] at H;generalize val n a c/q=r at *;clear z h z2 X Q S;go_enter Tryz.func32,Tryz.ntmps32;have Y:=((aI.at (w:=w) rfl n a c).alloc (FC nb b y)).alloc (FC false ⟨#[]⟩ ⟨#[]⟩);have i:=(aI.at (w:=w.alloc (FC n a c)) (g:=w.heap.size+1) aE nb b y).alloc (FC false ⟨#[]⟩ ⟨#[]⟩);have p:=aI.at (w:=(w.alloc (FC n a c)).alloc (FC nb b y)) (g:=w.heap.size+2) aE false ⟨#[]⟩ ⟨#[]⟩;have l:ef w (((w.alloc (FC n a c)).alloc (FC nb b y)).alloc (FC false ⟨#[]⟩ ⟨#[]⟩)):=(((au _ w).alloc (aq _) _).alloc aE _).alloc (by simp;omega) _;go_wp2_with fail
 refine(Z.o _).af ?_;rintro e w1 ⟨rfl,d⟩;have k:=Y.aa d Y.lt;have j:=i.aa d i.lt;have R:=p.aa d p.lt;have m:=l.trans (d.af l.size);obtain⟨J,K,L,_,_,_⟩:=j.facts;clear Y i p l d;go_wp2_with fail
 refine(HC.o _).af ?_;rintro e w2 ⟨rfl,f⟩;have qT:=(k.aa f k.lt).far3 (g':=w.heap.size+1) al (.bool (bw q)) (.string (nu q)) (.string (de q));have U:=j.aa f j.lt;have x:=(R.aa f R.lt).far3 (g':=w.heap.size+1) al (.bool (bw q)) (.string (nu q)) (.string (de q));have F:=dV (m.trans (f.af m.size)) (g:=w.heap.size+1) al (.bool (bw q)) (.string (nu q)) (.string (de q));clear J K L k j R m f;obtain⟨A,D,E,s,t,u⟩:=U.facts;obtain⟨M,O,P,_,_,_⟩:=qT.facts;rw[tT];go_wp2_with fail
 refine(H.o _).af ?_;rintro e w3 ⟨rfl,I⟩;have v:=x.aa I x.lt;have T:=F.trans (I.af F.size);clear A D E s t u M O P;obtain⟨A,D,E,s,t,u⟩:=v.facts;rw[tT];go_wp2;refine cj ((v.put _ _ _).result2 rfl _ rfl) rfl ?_;exact⟨rfl,dV T al _ _ _⟩
theorem ahD {k:Int} (h:k<0):C (mkRat k 1)=.agg #[.bool true,.string (B ((-(k+1)).toNat+1)),.string (B 1)]:=by
 have e:k=sg true ((-(k+1)).toNat+1):=by simp only[sg,zN];omega
 have a:=Qx true ((-(k+1)).toNat+1) 1 al bd;rw[<- e,Nat.gcd_one_right,DC,DC] at a;exact a
theorem ahC (n:Nat):C (mkRat (n:Int) 1)=.agg #[.bool false,.string (B n),.string (B 1)]:=by
 by_cases h:n=0
 ·subst h;rw[show ((0:Nat):Int)=0 from rfl,Mv,Du,Dv]
 ·have a:=Qx false n 1 h bd;rw[Nat.gcd_one_right,DC,DC] at a;exact a
theorem agc (k:Int) (w:World) (h0: -9223372036854775808<=k) (h1:k<=9223372036854775807):
  du 33 #[.int .i64 k] w (eS w (C (mkRat k 1))):=by
 by_cases i:k<0
 ·rw[ahD i];have H:=aH (fun V=>Jy (-(k+1)) V al al);have t:(B (-(k+1)).toNat).size<=8:=by rw[lg];exact o8 8 _ (by show _<18446744073709551616;omega)
  have A:=aH (fun V=>agn (B (-(k+1)).toNat) ⟨#[1]⟩ V al (by show 1<=_;omega));rw[dA,show N ⟨#[1]⟩=1 from rfl] at A;rw[Mq];generalize (-(k+1)).toNat=n at *;go_enter Tryz.func33,Tryz.ntmps33;have r:=aI.at (w:=w) rfl false ⟨#[]⟩ ⟨#[]⟩;have h:ef w (w.alloc (FC false ⟨#[]⟩ ⟨#[]⟩)):=(au _ w).alloc (aq _) _;go_wp2_with fail
  refine(H.o _).af ?_;rintro e p ⟨rfl,b⟩;have q:=r.aa b r.lt;have a:=h.trans (b.af h.size);go_wp2_with fail
  refine(A.o _).af ?_;rintro e u ⟨rfl,c⟩;have x:=q.aa c q.lt;have s:=a.trans (c.af a.size);obtain⟨j,l,m,f,d,g⟩:=x.facts;go_wp2;refine cj ((x.put _ _ _).result rfl _ rfl) rfl ?_;exact⟨rfl,dV s al _ _ _⟩
 ·obtain⟨n,rfl⟩:∃n:Nat,k=n:=⟨k.toNat,al⟩;rw[ahC n];have H:=aH (fun V=>Jy (n:Int) V al al);rw[rD] at H;rw[Mq];go_enter Tryz.func33,Tryz.ntmps33;have r:=aI.at (w:=w) rfl false ⟨#[]⟩ ⟨#[]⟩;have h:ef w (w.alloc (FC false ⟨#[]⟩ ⟨#[]⟩)):=(au _ w).alloc (aq _) _;go_wp2_with fail
  refine(H.o _).af ?_;rintro e p ⟨rfl,b⟩;have q:=r.aa b r.lt;have a:=h.trans (b.af h.size);obtain⟨j,l,m,f,d,g⟩:=q.facts;go_wp2;refine cj ((q.put _ _ _).result rfl _ rfl) rfl ?_;exact⟨rfl,dV a al _ _ _⟩
def Fits (m:Nat) (q:Rat):Prop:=∃(A:Int) (D:Nat),D≠0/\q=mkRat A D/\D<256^m/\A.natAbs<256^m
theorem EI (h:Fits m q):qw q<=2*m:=by
 obtain⟨A,D,a,rfl,b,c⟩:=h;rw[NI a];have:=YM (n:=A) a;have d:(B A.natAbs).size<=m:=by rw[lg];exact o8 m _ c
 have e:(B D).size<=m:=by rw[lg];exact o8 m _ b
 omega
theorem F8 (h:m<=n):256^m<=256^n:=kE bd h
theorem UB (n:Bool) (x y:ByteArray):Fits (x.size+y.size+1) (val n x y):=by
 by_cases h:N y=0
 ·refine⟨0,1,bd,by rw[FV h,Mv],?_,?_⟩
  ·exact aU (by decide:1<256^1) (F8 al)
  ·exact nI bd
 ·refine⟨sg n (N x),N y,h,rfl,aU (AU y) (F8 al),?_⟩;rw[M9];exact aU (AU x) (F8 al)
theorem ab2 (l:Fits m p) (n:Fits k q):Fits (m+k+1) (p+q):=by
 obtain⟨A,D,f,rfl,h,i⟩:=l;obtain⟨b,a,c,rfl,d,j⟩:=n;refine⟨A*a+b*D,D*a,Dy f c,Rat.mkRat_add_mkRat _ _ f c,?_,?_⟩
 ·have:D*a<256^m*256^k:=IQ h d;rw[<- wC] at this;exact aU this (F8 al)
 ·have g:A.natAbs*a<256^m*256^k:=IQ i d;have e:b.natAbs*D<256^k*256^m:=IQ j h;rw[dK (256^k)] at e;rw[<- wC] at g e
  have o:(A*a+b*D).natAbs<=A.natAbs*a+b.natAbs*D:=by
   refine aR (Int.natAbs_add_le _ _) ?_;rw[Int.natAbs_mul,Int.natAbs_mul];exact aq _
  rw[gJ];omega
abbrev Fr:Type:=Bool×ByteArray×ByteArray
def lD (f:Fr):Rat:=val f.1 f.2.1 f.2.2
def fw:List Fr ->Nat
 |[]=>0
 |f::l=>f.2.1.size+f.2.2.size+2+fw l
def fsum (l:List Fr):Rat:=l.foldl (fun s f=>s+lD f) 0
theorem Hl (l:List Fr) (f:Fr):fsum (l++[f])=fsum l+lD f:=by simp[fsum]
theorem Uv (a b:List Fr):fw (a++b)=fw a+fw b:=by
 induction a with
 |nil=>simp[fw]
 |cons f a ih=>simp only[fG,fw,ih];omega
theorem abM (l:List Fr) (k:Nat):fw (l.take k)<=fw l:=by
 have:=Uv (l.take k) (l.drop k);rw[BB] at this;omega
theorem Hk {l:List Fr} {f:Fr} (h:f∈l):f.2.1.size+f.2.2.size+2<=fw l:=by
 induction l with
 |nil=>cases h
 |cons g l ih=>
  rcases dU.1 h with rfl |h
  ·simp only[fw];omega
  ·have:=ih h;simp only[fw];omega
theorem O2 (l:List Fr):Fits (fw l+1) (fsum l):=by
 induction l using BV with
 |h0=>exact⟨0,1,bd,(Mv _).symm,bd,bd⟩
 |h1 l f ih=>
  rw[Hl,Uv];have:=ab2 ih (UB f.1 f.2.1 f.2.2);have e:fw l+1+(f.2.1.size+f.2.2.size+1)+1=fw l+fw [f]+1:=by simp only[fw];omega
  rwa [e] at this
theorem take_one {l:List Fr} (h:k<l.length):fsum (l.take (k+1))=fsum (l.take k)+lD l[k]:=by
 rw[iF h,Hl]
def aW (w:World) (a:Option Addr) (l:List Fr):Prop:=∀k (h:k<l.length),∃g o,a=some ⟨g,o,none⟩/\g<w.heap.size/\w.cell? ⟨g,o+k*3,none⟩=some (.bool l[k].1)/\w.cell? ⟨g,o+k*3+1,none⟩=some (.string l[k].2.1)/\w.cell? ⟨g,o+k*3+2,none⟩=some (.string l[k].2.2)
theorem aW.aa {l:List Fr} (h:aW w a l) (c:ef w w'):aW w' a l:=fun k j=>by
 obtain⟨g,o,d,b,e,f,i⟩:=h k j;exact⟨g,o,d,aU b c.size,(c.cell (p:=⟨g,_,none⟩) b).trans e,(c.cell (p:=⟨g,_,none⟩) b).trans f,(c.cell (p:=⟨g,_,none⟩) b).trans i⟩
theorem Ho (a:Option Addr) (cap:Nat) (l:List Fr) (w:World) (h:aW w a l) (u:∀k (h:k<l.length),l[k].2.1.size+l[k].2.2.size<=40000) (x:∀k,k<=l.length ->qw (fsum (l.take k))<=40000) (hn:l.length<=10000):
  du 19 #[.slice a l.length cap] w (eS w (C (fsum l))):=by
 have I:=aH h;have L:=aH u;have Q:=aH x;clear h u x;have J:Hid (fsum (l.take l.length)=fsum l):=by show _=_;rw[jR]
 go_enter Tryz.func19,Tryz.ntmps19;have s:=aI.at (w:=w) rfl false ⟨#[]⟩ ⟨#[]⟩;have o:ef w (w.alloc (FC false ⟨#[]⟩ ⟨#[]⟩)):=(au _ w).alloc (aq _) _;go_wp2_with fail
 refine(Sa _).af ?_;rintro e z ⟨rfl,q⟩;have A:=s.aa q s.lt;have p:ef w z:=o.trans (q.af o.size);clear s o q;rw[tT];go_wp2_with fail
 have JW:=A.lt;go_loopw [9] (fun iv wr=>∃k:Nat,k<=l.length/\iv=.int .i64 k/\Hid (aI wr z.heap.size (bw (fsum (l.take k))) (nu (fsum (l.take k))) (de (fsum (l.take k))))/\Hid (aI wr w.heap.size false ⟨#[]⟩ ⟨#[]⟩)/\ef w wr) (fun iv _=>l.length - (intOf iv).toNat)
 case atStart=>exact⟨0,aV _,rfl,aI.at rfl _ _ _,A.alloc _,p.alloc p.size _⟩
 case round=>
  obtain⟨k,R,rfl,S,H,b⟩:=hrel;by_cases t:k<l.length
  ·obtain⟨g,ad,rfl,hg,K,O,P⟩:=(I.o.aa b) k t;have F:=take_one t;have ab:=L.o k t;have X:=Q.o k R;have T:=mM (fsum (l.take k));have M:=aH (fun V=>acg (bw (fsum (l.take k))) l[k].1 (nu (fsum (l.take k))) (de (fsum (l.take k))) l[k].2.1 l[k].2.2 V al al al al);rw[ji,show val l[k].1 l[k].2.1 l[k].2.2=lD l[k] from rfl, <- F] at M;have v:=S.o;clear S F ab X T;generalize l[k].1=fn at *;generalize l[k].2.1=f at *;generalize l[k].2.2=y at *;obtain⟨j,m,n,c,d,i⟩:=v.facts;have cR:=v.lt;go_wp2_with fail
   refine(M.o _).af ?_;rintro e U ⟨rfl,r⟩;have D:=(v.alloc (FC fn f y)).aa r (v.alloc (FC fn f y)).lt;have Z:=(H.o.alloc (FC fn f y)).aa r (H.o.alloc (FC fn f y)).lt;have E:=b.alloc b.size (FC fn f y);have Y:ef w U:=E.trans (r.af E.size);clear j m n c d i K O P;obtain⟨j,m,n,c,d,i⟩:=D.facts;rw[tT];go_wp2;go_roundw
   case rel=>exact⟨k+1,al,b5,D.put _ _ _,Z.far3 al _ _ _,dV Y p.size _ _ _⟩
   case measure=>simp[intOf];omega
  ·obtain rfl:k=l.length:=al
   have v:=S.o;rw[J.o] at v;obtain⟨j,m,n,c,d,i⟩:=v.facts;obtain⟨j0,j1,j2,i0,i1,i2⟩:=H.o.facts;go_wp2;refine cj ((H.o.put _ _ _).result rfl _ rfl) rfl ?_;exact⟨rfl,dV b (aq _) _ _ _⟩
theorem UD (a:Option Addr) (cap:Nat) (l:List Fr) (w:World) (h:aW w a l) (c:fw l<=10000) (n:l.length<=10000):
  du 19 #[.slice a l.length cap] w fun e w'=>e=.returned (C (fsum l))/\ef w w':=
 Ho a cap l w h (fun k b=>by have:=Hk (bF b);omega) (fun k _=>by have:=EI (O2 (l.take k));have:=abM l k;omega) n
def j7 (sizes vars:List Int) (m:Nat):Int:=if countB sizes vars=true then(if m=cnt (ag sizes) (ag vars) then 0 else 8) else 11
theorem amf {sizes vars:List Int} (h:countB sizes vars=false):j7 sizes vars m=11:=aD (by rw[h];decide)
theorem amg {sizes vars:List Int} (h:countB sizes vars=true) (h1:¬m=cnt (ag sizes) (ag vars)):j7 sizes vars m=8:=by rw[j7,aA h,aD h1]
theorem UN {sizes vars:List Int} (h:countB sizes vars=true) (h1:m=cnt (ag sizes) (ag vars)):j7 sizes vars m=0:=by rw[j7,aA h,aA h1]
abbrev TC (u v:Value):Obj:=.cells #[u,v] 49
def bE (w:World) (g:Nat) (u v:Value):Prop:=w.heap[g]? =some (.cells #[u,v] 49 (0,0))
theorem bE.c0 {u v:Value} (h:bE w g u v):w.cell? ⟨g,0,none⟩=some u:=by rw[bG w g 0 _ _ (0,0) h];rfl
theorem bE.c1 {u v:Value} (h:bE w g u v):w.cell? ⟨g,1,none⟩=some v:=by rw[bG w g 1 _ _ (0,0) h];rfl
theorem bE.lt {u v:Value} (h:bE w g u v):g<w.heap.size:=(cJ.1 h).1
theorem bE.aa {B:Nat} {u v:Value} (h:bE w g u v) (b:Below B w w') (a:g<B):bE w' g u v:=(b.block g a).trans h
theorem bE.at (h:w.heap.size=g) (u v:Value):bE (w.alloc (TC u v)) g u v:=by
 subst h;exact dB _ _
theorem bE.alloc {u v:Value} (h:bE w g u v) (o:Obj):bE (w.alloc o) g u v:=(wF w o g h.lt).trans h
theorem DR (a b c:Option Addr) (ca cb cc m:Nat) (sizes vars:List Int) (w:World) (s:aJ w a sizes) (v:aJ w b vars) (q:sizes.length<=140737488355328) (p:vars.length<=140737488355328):
  du 65 #[.slice a sizes.length ca,.agg #[.slice b vars.length cb,.slice c m cc]] w (eS w (.int .i64 (j7 sizes vars m))):=by
 have H:=hid s;have j:=hid v;have HC:=hid (fun V l n=>MZ a b ca cb sizes vars V l n q p);clear s v;have d:ef w (w.alloc (TC (.slice b vars.length cb) (.slice c m cc))):=(au _ w).alloc (aq _) _;have L:=bE.at (w:=w) rfl (.slice b vars.length cb) (.slice c m cc);cases hcb:countB sizes vars with
 |false=>
  have A:=hid (amf (m:=m) hcb);rw[Pc hcb] at HC;simp only at HC;generalize j7 sizes vars m=r at *;go_enter Tryz.func65,Tryz.ntmps65;go_wp2_with fail
  refine(HC.o _ (H.o.aa d) (j.o.aa d)).af ?_;rintro e t ⟨rfl,g⟩;have f:=d.trans (g.af d.size);go_wp2;go_ret;exact⟨by rw[A.o];rfl,f⟩
 |true=>
  have k:=hid (fun h=>amg (m:=m) hcb h);have Y:=hid (fun h=>UN (m:=m) hcb h);rw[Pb hcb] at HC;simp only at HC;obtain⟨S,J⟩:=UG hcb;have F:cnt (ag sizes) (ag vars)<=65536:=vJ S.sz_le (by rw[gM];have:=S.eight;have:=J.length;omega);clear hcb S J;generalize j7 sizes vars m=r at *;generalize cnt (ag sizes) (ag vars)=i at *;go_enter Tryz.func65,Tryz.ntmps65;go_wp2_with fail
  refine(HC.o _ (H.o.aa d) (j.o.aa d)).af ?_;rintro e t ⟨rfl,g⟩;have f:=d.trans (g.af d.size);have x:=L.aa g L.lt;have z:=x.c0;have D:=x.c1;by_cases h:m=i
  ·have E:=hid (Y.o h);subst h;go_wp2;go_ret;exact⟨by rw[E.o];rfl,f⟩
  ·have E:=hid (k.o h);(have u:((m:Int)==(i:Int))=false:=by simp;omega);(have y:¬(m:Int)=(i:Int):=al);go_wp2;go_ret;exact⟨by rw[E.o];rfl,f⟩
def qH (l:List Nat) (i:Nat):List Nat:=l.take i++List.replicate (l.length - i) 0
theorem Y3 (l:List Nat):qH l 0=List.replicate l.length 0:=by simp[qH]
theorem Ns (l:List Nat) (h:i<=l.length):(qH l i).length=l.length:=by simp[qH];omega
theorem Y5 (l:List Nat):qH l l.length=l:=by simp[qH]
theorem Y4 (l:List Nat) (h:i<l.length):(qH l i).set i l[i]=qH l (i+1):=by
 rw[qH,qH,BC _ _ (by simp;omega),iF h];have e:l.length - i=(l.length - (i+1))+1:=al
 rw[e,IW,eE,tX al,mF,cN,lV];rfl
def iL (l:List Nat):List Int:=l.map fun x:Nat=>(x:Int)
theorem bI (l:List Nat):(iL l).length=l.length:=by simp[iL]
theorem jC (l:List Nat):ag (iL l)=l:=by simp[ag,iL,Function.comp_def]
theorem cM.ints {l:List Nat} (h:cM w g l):aJ w (some ⟨g,0,none⟩) (iL l):=fun k a=>by
 rw[bI] at a;refine⟨g,0,rfl,h.lt,?_⟩;rw[bB,h.cell k a];simp[iL]
variable {L:List (List Int)}
def gW (w:World) (a:Option Addr) (L:List (List Int)):Prop:=∀k (h:k<L.length),∃g o b c,a=some ⟨g,o,none⟩/\g<w.heap.size/\w.cell? ⟨g,o+k,none⟩=some (.slice b L[k].length c)/\aJ w b L[k]
theorem gW.aa (h:gW w a L) (d:ef w w'):gW w' a L:=fun k l=>by
 obtain⟨g,o,b,c,f,e,i,j⟩:=h k l;exact⟨g,o,b,c,f,aU e d.size,(d.cell (p:=⟨g,o+k,none⟩) e).trans i,j.aa d⟩
def xQ (w:World) (a:Option Addr) (L:List (List Int)):Prop:=∀k,k<L.length ->∀g o b n c,a=some ⟨g,o,none⟩ ->w.cell? ⟨g,o+k,none⟩=some (.slice b n c) ->b=none ->c=0
theorem xQ.aa (h:xQ w a L) (m:gW w a L) (i:ef w w'):xQ w' a L:=fun k f g o b n c d j q=>by
 obtain⟨g',o',_,_,e,l,_⟩:=m k f;rw[d] at e;cases e;exact h k f g o b n c d ((i.cell (p:=⟨g,o+k,none⟩) l).symm.trans j) q
abbrev uv (x:Nat):Value:=.int .u32 (x:Int)
def cF (w:World) (g:Nat) (l:List Nat):Prop:=w.heap[g]? =some (.cells (l.map uv).toArray 141 (0,0))
theorem cF.cell {l:List Nat} (h:cF w g l) (j:Nat) (a:j<l.length):w.cell? ⟨g,j,none⟩=some (.int .u32 (l[j]:Nat)):=by
 rw[bG w g j _ _ (0,0) h];simp[uv,a]
theorem cF.fz {l:List Nat} (h:cF w g l) (j:Nat):w.frozen? ⟨g,j,none⟩=false:=jw w g j _ _ h
theorem cF.lt {l:List Nat} (h:cF w g l):g<w.heap.size:=(cJ.1 h).1
theorem cF.aa {b:Nat} {l:List Nat} (h:cF w g l) (a:Below b w w') (c:g<b):cF w' g l:=(a.block g c).trans h
theorem cF.set {l:List Nat} (h:cF w g l) (j y:Nat):cF (w.setCell ⟨g,j,none⟩ (.int .u32 (y:Int))) g (l.set j y):=by
 have a:=jf w g j _ _ (.int .u32 (y:Int)) h;rw[cF,a];simp[DD,uv]
theorem Sp (n:Nat):(madeCells (Value.int .u32 0).cells (n*1)).toList=(List.replicate n (0:Nat)).map uv:=by
 rw[show (Value.int .u32 0).cells= #[Value.int .u32 0] from rfl,FK,kF,MC];rfl
theorem Tryz.infoSet:(Tryz.prog.info? 141).map (fun i=>(i.zero,i.size,i.bytes))=some (some (.int .u32 0),1,4):=ao
def uC (L:List (List Int)) (n:Nat):Bool:=L.all fun l=>fT l n
def jU (L:List (List Int)):List Nat:=L.map fun l=>aB (ag l)
theorem Z1 (L:List (List Int)):(jU L).length=L.length:=by simp[jU]
theorem amU (h:i<L.length) (e:fT L[i] n=false):uC L n=false:=by
 rw[uC,I5];exact⟨L[i],bF h,by rw[e];decide⟩
theorem Yr {l:List Int} (h:fT l n=true):setA l n=aB (ag l):=aA h
theorem afF (a:Option Addr) (ca n:Nat) (L:List (List Int)) (w:World) (h:gW w a L) (hL:L.length<=8) (S:n<=8) (o:∀l∈L,l.length<=140737488355328):
  du 196 #[.slice a L.length ca,.int .i64 (n:Nat)] w fun e w'=>ef w w'/\
   ((uC L n=true/\∃G,e=.returned (.tuple #[.slice (some ⟨G,0,none⟩) L.length L.length,.bool true])/\w.heap.size<=G/\cF w' G (jU L))∨(uC L n=false/\e=.returned (.tuple #[.slice none 0 0,.bool false]))):=by
 obtain⟨Y,O,ah,ai,aj⟩:=dJ Tryz.infoSet;have K:=hid h;have J:=hid (fun i h e=>amU (L:=L) (n:=n) (i:=i) h e)
 have T:Hid ((∀i (h:i<L.length),fT L[i] n=true) ->uC L n=true):=fun h=>iQ.2 fun l o=>by
  obtain⟨i,x,rfl⟩:=jz o;exact h i x
 have M:Hid (∀i (h:i<L.length),(jU L)[i]? =some (aB (ag L[i]))):=fun i h=>by simp[jU,h]
 have Z:=hid o;have X:=Z1 L;generalize uC L n=rb at *;generalize jU L=m at *;clear h o;go_enter Tryz.func196,Tryz.ntmps196
 go_wp2_with (first
  |(at_make;refine lj _ rfl _ _ 137 rfl w.heap.size 141 Y (.int .u32 0) 1 Tryz.underlying137 O ah ai .i64 .i64 _ _ L.length rfl rfl b5 b5 (by rw[aj];omega) (by unfold maxLen;omega) (aq _) ?_;intro y D F))
 have q:=qg D;rw[Sp] at q;have u:Hid (ef w y):=(au _ w).grown F (aq _) (fun k e=>by cases e);have r:Hid (cF y w.heap.size (List.replicate L.length 0)):=q;clear D F q;go_wp2_with fail
 go_loopw [15] (fun iv wr=>∃i:Nat,i<=L.length/\iv=.int .i64 i/\Hid (∀j (h:j<L.length),j< i ->fT L[j] n=true)/\Hid (cF wr w.heap.size (qH m i))/\Hid (ef w wr)) (fun iv _=>L.length - (intOf iv).toNat)
 case atStart=>exact⟨0,aV _,rfl,fun j _ h=>absurd h al,by rw[Y3,X];exact r,u⟩
 case round=>
  obtain⟨i,x,rfl,R,H,I⟩:=hrel;clear r u;by_cases t:i<L.length
  ·obtain⟨g,ak,b,c,rfl,hg,c0,v⟩:=(K.o.aa I.o) i t;have P:=Z.o L[i] (bF t);have ad:=hid v;clear v;have ab:=hid (J.o i t);have ae:=hid (M.o i t)
   have V:Hid (fT L[i] n=true ->∀j (h:j<L.length),j<i+1 ->fT L[j] n=true):=fun h j f rS=>by
    rcases cT j i with d |d
    ·exact R.o j f d
    ·obtain rfl:j=i:=al
     exact h
   have oI:Hid (fT L[i] n=true ->setA L[i] n=aB (ag L[i])):=Yr;generalize L[i]=l at *;go_wp2_with fail
   refine(Yq b c l n _ ad.o P S).af ?_;rintro e w3 ⟨rfl,rfl⟩;cases hr:fT l n with
   |false=>
    have E:=hid (ab.o hr);generalize setA l n=s at *;go_wp2;go_ret2;exact⟨I.o,.inr ⟨E.o,rfl⟩⟩
   |true=>
    rw[oI.o hr];have xX:=hid (V.o hr);have k0:=H.o.cell i (by rw[Ns _ al];omega);have f0:=H.o.fz i;have A:=hid (H.o.set i (aB (ag l)))
    have kZ:Hid ((qH m i).set i (aB (ag l))=qH m (i+1)):=by
     show _=_;obtain⟨Q,d⟩:=mH.1 ae.o;rw[<- d];exact Y4 m Q
    rw[kZ.o] at A;have wu:=hid (I.o.setCell (p:=⟨w.heap.size,i,none⟩) (aq _) (.int .u32 (aB (ag l):Nat)));clear hr;generalize aB (ag l)=s at *;generalize (qH m i)[i]'(by rw[Ns _ al];omega)=z at *;go_wp2;go_roundw
    case rel=>exact⟨i+1,al,b5,xX,A,wu⟩
    case measure=>simp[intOf];omega
  ·obtain rfl:i=L.length:=al
   have E:=hid (T.o fun j f=>R.o j f f);have U:=H.o;rw[<- X,Y5] at U;have r7:=hid U;clear U;go_wp2;go_ret2;exact⟨I.o,.inl ⟨E.o,_,rfl,aq _,r7.o⟩⟩
end Go.Proofs.YtdmdhjmcoijpaaaGreatDoor
