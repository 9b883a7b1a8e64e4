/- Part1: part 1. -/
import Derived.Test.YtkflnpjapgiajaaGreatDoorTermT
set_option maxRecDepth 100000
set_option maxHeartbeats 400000000
set_option linter.unusedSimpArgs false
set_option linter.unusedVariables false
namespace Go.Proofs.YtkflnpjapgiajaaGreatDoor
variable {rs:Ki} {i:Nat} {oi:Oper}
theorem gE:(∀(α:Type) (xs:List α) (i:Nat) (h:i<xs.toArray.size),xs.toArray[i]=xs[i]'(by simpa using h))/\(∀(α:Type) (a:α) (s:List α) (h:0<(a::s).length),(a::s)[0]=a)/\(∀(α:Type) (a:α) (s:List α) (i:Nat) (h:i+1<(a::s).length),(a::s)[i+1]=s[i]'(by simpa using h)):=⟨fun _ _ _ _=>rfl,fun _ _ _ _=>rfl,fun _ _ _ _ _=>rfl⟩
theorem aP:(∀(a:Act) (k:Nat) (v:Value),a.put k v= {a with tmps:=a.tmps.setIfInBounds k v})/\(∀(α:Type) (xs:List α) (i:Nat) (a:α),xs.toArray.setIfInBounds i a=(xs.set i a).toArray)/\(∀(α:Type) (x a:α) (s:List α),(x::s).set 0 a=a::s)/\(∀(α:Type) (x a:α) (s:List α) (i:Nat),(x::s).set (i+1) a=x::s.set i a):=⟨fun _ _ _=>rfl,fun _ _ _ _=>aE,fun _ _ _ _=>rfl,fun _ _ _ _ _=>rfl⟩
section
variable {P : Program} {ops : Array Oper} {Q : Exit -> Act -> World -> Prop} {md : Region.Mode} {S : World -> Prop} {n : Nat} {l : Array Bool} {a : Act} {w : World}
theorem dW (i:Nat) (v:Value) (h:∀u,S u ->(execOp a.eval oi).run P u=.ok (.value v) u) (k:wpAnyH P md ops Q S n (l.setIfInBounds i true) (a.put oi.dst v) w)
  (e:ops[i]? =some oi:=by rfl) (hs:Region.noSelect ops=true:=by kernel_rfl) (f:Region.free md ops l i=true:=by kernel_rfl) (r:(Region.ready md ops l).contains i=true:=by kernel_rfl)
  (b:∀c a w,Q (.panic c) (a.put oi.dst v) w ->Q (.panic c) a w:=by first |exact fun _ _ _ h=>h |exact fun _ _ _ h=>by cases h.1) (g:Region.wanted oi (yielded ops a.tmps)=true:=by rfl) (d:S w:=by assumption):wpAnyH P md ops Q S (n+1) l a w:=
 mZ e hs f r b (Or.inl ⟨g,h⟩) d k
theorem az (i:Nat) (v:Value) (k:wpAnyH P md ops Q S n (l.setIfInBounds i true) (a.put oi.dst v) w)
  (j:ops[i]? =some oi:=by rfl) (h:∀u,S u ->(execOp a.eval oi).run P u=.ok (.value v) u:=by intro u' b;(try simp only[gE]);(first |obtain⟨s,d,o,p⟩:=b |obtain⟨s,d,o⟩:=b |obtain⟨s,d⟩:=b |skip);go_simp) (hs:Region.noSelect ops=true:=by kernel_rfl) (g:Region.free md ops l i=true:=by kernel_rfl) (r:(Region.ready md ops l).contains i=true:=by kernel_rfl)
  (e:∀c a w,Q (.panic c) (a.put oi.dst v) w ->Q (.panic c) a w:=by first |exact fun _ _ _ h=>h |exact fun _ _ _ h=>by cases h.1) (m:Region.wanted oi (yielded ops a.tmps)=true:=by rfl) (f:S w:=by assumption):wpAnyH P md ops Q S (n+1) l a w:=
 mZ j hs g r e (Or.inl ⟨m,h⟩) f k
theorem cA {o:Oper} (h:∀K:Act ->World ->Prop,Shut (∀a w,S w ->(S w ->wpAnyH P md ops Q S n (l.setIfInBounds i true) a w) ->K a w) ->if Region.wanted o (yielded ops a.tmps)=true then Oper.wp P o a w K Q else K (a.put o.dst undef) w) (hs:AllReadyH P md ops Q S n l a w rs) (b:ops[i]? =some o:=by rfl):AllReadyH P md ops Q S n l a w (i::rs):=AllReadyH.cons b h hs
theorem nA:AllReadyH P md ops Q S n l a w []:=aI
theorem aG (rs:Ki) (h:AllReadyH P md ops Q S n l a w rs) (r:Region.ready md ops l=rs:=by kernel_rfl) (e:rs≠[]:=by simp):wpAnyH P md ops Q S (n+1) l a w:=wpAnyH_ready r e h
end
open Go.RowKit
variable {l:Kh} {a:Kd} {w w':World}
theorem hid {p:Prop} (h:p):Hid p:=h
def aC (w:World) (a:Kd) (l:Kh):Prop:=∀k (h:k<l.length),∃g o,a=some ⟨g,o,none⟩/\g<w.heap.size/\w.cell? ⟨g,o+k,none⟩=some (.int .i64 l[k])
theorem aC.aa (h:aC w a l) (c:db w w'):aC w' a l:=fun k f=>by
 obtain⟨g,o,d,b,e⟩:=h k f;exact⟨g,o,d,aO b c.size,(c.cell (p:=⟨g,_,none⟩) b).trans e⟩
theorem K3 {B:Nat} {a b:World} (h:Below B a b) (k:Nat):Below B a (b.drewN k):=⟨h.os,h.tape,h.output,h.size,h.block⟩
def zj (k:Int) (l:Kh):Bool:=l.any (·==k)
def CQ (x:Int):Bool:=decide (1<=x/\x<=4)
def oP (l:Kh):Bool:=decide (1<=l.length/\l.length<=8)&&l.all CQ
theorem ag7 {p:Int ->Bool} (h:i<l.length) (e:p l[i]=false):l.all p=false:=by
 rw[L0];exact⟨l[i],bP h,by rw[e];decide⟩
theorem ag5 {p:Int ->Bool} (h:i<l.length) (h0:(l.take i).all p=true) (e:p l[i]=true):(l.take (i+1)).all p=true:=by
 rw[im h,List.all_append,h0];simp[e]
theorem akv (a:Kd) (cap:Nat) (l:Kh) (w:World) (h:aC w a l) (s:l.length<=140737488355328):
  da 109 #[.slice a l.length cap] w (du w (.bool (oP l))):=by
 have F:=hid h;clear h;by_cases d:1<=l.length/\l.length<=8
 ·have H:Hid (oP l=l.all CQ):=by show _=_;rw[oP,bX d];rfl
  obtain⟨u,v⟩:=d;generalize oP l=f at *;go_enter Tryz.func109,Tryz.ntmps109;go_wp2_with fail
  go_loopw [3] (fun iv wr=>∃i:Nat,i<=l.length/\iv=.int .i64 i/\Hid ((l.take i).all CQ=true)/\db w wr) (fun iv _=>l.length - (intOf iv).toNat)
  case atStart=>exact⟨0,aU _,rfl,rfl,au _ _⟩
  case round=>
   obtain⟨i,r,rfl,I,b⟩:=hrel;by_cases t:i<l.length
   ·obtain⟨g,o,rfl,q,k⟩:=(F.o.aa b) i t;by_cases e:1<=l[i]/\l[i]<=4
    ·have S:=hid (ag5 t I.o (p:=CQ) (bX e));obtain⟨m,n⟩:=e;generalize l[i]=x at *;go_wp2;go_roundw
     case rel=>exact⟨i+1,al,b5,S.o,b⟩
     case measure=>simp[intOf];omega
    ·have E:Hid (f=false):=by show _=_;rw[H.o];exact ag7 t (cF e)
     rcases (show l[i]<1∨(1<=l[i]/\4<l[i]) by omega) with c |⟨c,j⟩
     all_goals
      clear e;generalize l[i]=x at *;go_wp2;go_ret;exact⟨by rw[E.o];rfl,b⟩
   ·have E:Hid (f=true):=by
     show _=_;rw[H.o];have:=I.o;rwa [kP al] at this
    go_wp2;go_ret;exact⟨by rw[E.o];rfl,b⟩
 ·have E:Hid (oP l=false):=by show _=_;rw[oP,cF d];rfl
  generalize oP l=f at *;go_enter Tryz.func109,Tryz.ntmps109;rcases (show l.length<1∨(1<=l.length/\8<l.length) by omega) with c |⟨c,j⟩
  all_goals
   go_wp2;go_ret;exact⟨by rw[E.o];rfl,au _ _⟩
def lI (l:Kh) (n:Int) (i:Nat):Bool:=decide (0<=l.getD i 0/\l.getD i 0<n/\(0< i ->l.getD (i - 1) 0<l.getD i 0))
def dN (l:Kh) (n:Int):Bool:=(List.range l.length).all (lI l n)
theorem Vk {n:Int} (h:i<l.length) (e:lI l n i=false):dN l n=false:=by
 rw[dN,L0];exact⟨i,bM.2 h,by rw[e];decide⟩
theorem QC {n:Int} (h0:(List.range i).all (lI l n)=true) (e:lI l n i=true):(List.range (i+1)).all (lI l n)=true:=by
 rw[uI,List.all_append,h0];simp[e]
theorem getD_eq (h:i<l.length):l.getD i 0=l[i]:=by simp[List.getD,h]
theorem ako (a:Kd) (cap:Nat) (l:Kh) (n:Int) (w:World) (h:aC w a l) (L:l.length<=140737488355328):
  da 110 #[.slice a l.length cap,.int .i64 n] w (du w (.bool (dN l n))):=by
 have F:=hid h;clear h;have j:=hid (fun i h e=>Vk (l:=l) (n:=n) (i:=i) h e);have T:Hid ((List.range l.length).all (lI l n)=true ->dN l n=true):=id;generalize dN l n=rb at *;go_enter Tryz.func110,Tryz.ntmps110;go_wp2_with fail
 go_loopw [5] (fun iv wr=>∃i:Nat,i<=l.length/\iv=.int .i64 i/\Hid ((List.range i).all (lI l n)=true)/\db w wr) (fun iv _=>l.length - (intOf iv).toNat)
 case atStart=>exact⟨0,aU _,rfl,rfl,au _ _⟩
 case round=>
  obtain⟨i,K,rfl,I,b⟩:=hrel;by_cases t:i<l.length
  ·obtain⟨g,o,rfl,J,A⟩:=(F.o.aa b) i t;(have H:Hid (lI l n i=decide (0<=l[i]/\l[i]<n/\(0< i ->l.getD (i - 1) 0<l[i]))):=by show _=_;rw[lI,getD_eq t]);by_cases c:l[i]<0
   ·have E:Hid (rb=false):=j.o i t (by rw[H.o];exact cF al);generalize l[i]=x at *;have d:decide (x<0)=true:=bX c;go_wp2_with fail
    go_quiet (fail)
    go_wp2;go_ret;exact⟨by rw[E.o];rfl,K3 b _⟩
   ·by_cases f:n<=l[i]
    ·have E:Hid (rb=false):=j.o i t (by rw[H.o];exact cF al);generalize l[i]=x at *;have d:decide (x<0)=false:=cF c;have k:decide (n<=x)=true:=bX f;go_wp2_with fail
     go_quiet (fail)
     go_wp2;go_ret;exact⟨by rw[E.o];rfl,K3 b _⟩
    ·by_cases q:i=0
     ·have S:=hid (QC I.o (i:=i) (by rw[H.o];exact bX ⟨al,al,fun h=>absurd h al⟩));clear H;generalize l[i]=x at *;have d:decide (x<0)=false:=cF c;have k:decide (n<=x)=false:=cF f;have p:decide (0<i)=false:=cF al;(have P:¬0<(i:Int):=al);have z:=hid q;clear q;go_wp2_with fail
      go_quiet (fail)
      go_wp2;go_roundw
      case rel=>exact⟨i+1,al,b5,S.o,K3 b _⟩
      case measure=>simp[intOf];omega
     ·have v:0<i:=al
      obtain⟨g',O,s,M,D⟩:=(F.o.aa b) (i - 1) al;simp only[Option.some.injEq,Addr.mk.injEq] at s;obtain⟨rfl,rfl, -⟩:=s;have m:l.getD (i - 1) 0=l[i - 1]:=getD_eq al;rw[m] at H;(have Q:((i:Int) - 1).toNat=i - 1:=al);by_cases r:l[i]<=l[i - 1]
      ·have E:Hid (rb=false):=j.o i t (by rw[H.o];exact cF (fun h=>absurd (h.2.2 v) al));clear m H;generalize l[i]=x at *;generalize l[i - 1]=y at *;have d:decide (x<0)=false:=cF c;have k:decide (n<=x)=false:=cF f;have p:decide (0<(i:Int))=true:=bX al;have u:decide (x<=y)=true:=bX r;go_wp2_with fail
       go_quiet (fail)
       go_wp2;go_ret;exact⟨by rw[E.o];rfl,K3 b _⟩
      ·have S:=hid (QC I.o (i:=i) (by rw[H.o];exact bX ⟨al,al,fun _=>al⟩));clear m H;generalize l[i]=x at *;generalize l[i - 1]=y at *;have d:decide (x<0)=false:=cF c;have k:decide (n<=x)=false:=cF f;have p:decide (0<(i:Int))=true:=bX al;have u:decide (x<=y)=false:=cF r;go_wp2_with fail
       go_quiet (fail)
       go_wp2;go_roundw
       case rel=>exact⟨i+1,al,b5,S.o,K3 b _⟩
       case measure=>simp[intOf];omega
  ·obtain rfl:i=l.length:=al
   have E:=hid (T.o I.o);go_wp2;go_ret;exact⟨by rw[E.o];rfl,b⟩
variable {S vs:Ki}
def sz (S:Ki) (v:Nat):Nat:=S[v]?.getD 1
def cnt (S:Ki):Ki ->Nat
 |[]=>1
 |v::vs=>sz S v*cnt S vs
theorem aqR (S a b:Ki):cnt S (a++b)=cnt S a*cnt S b:=by
 induction a with
 |nil=>simp[cnt]
 |cons v a ih=>simp only[fS,cnt,ih,jh]
theorem aqO (S a:Ki) (v:Nat):cnt S (a++[v])=cnt S a*sz S v:=by rw[aqR];simp[cnt]
def Pos (S:Ki):Prop:=∀x∈S,1<=x
theorem jE (h:Pos S) (v:Nat):1<=sz S v:=by
 rw[sz];cases e:S[v]? with
 |none=>simp
 |some x=>exact h x (Uq e)
theorem K0 (h:Pos S) (vs:Ki):1<=cnt S vs:=by
 induction vs with
 |nil=>exact ah _
 |cons v vs ih=>exact kp (jE h v) ih
def nQ (S:Ki):Ki ->Nat ->Ki
 |[],_=>[]
 |_::vs,k=>(k/cnt S vs)::nQ S vs (k % cnt S vs)
theorem agt (S vs:Ki):∀k,(nQ S vs k).length=vs.length:=by
 induction vs with
 |nil=>intro _;rfl
 |cons v vs ih=>intro k;simp[nQ,ih]
theorem adW (k c s:Nat):k % (s*c)/c=k/c % s:=by
 rw[eB s c,Nat.mod_mul_right_div_self]
theorem adV (k c s:Nat):k % (s*c) % c=k % c:=by
 rw[eB s c,Nat.mod_mul_right_mod]
def bA (S:Ki):Ki ->Nat ->Nat ->Nat
 |[],_,_=>0
 |u::vs,k,v=>if v=u then k/cnt S vs else bA S vs (k % cnt S vs) v
theorem K4:∀ {vs:Ki} {k v:Nat},¬v∈vs ->bA S vs k v=0
 |[],_,_,_=>rfl
 |u::vs,k,v,h=>by
  rw[bA,aA (fun e=>h (by rw[e];exact c5))];exact K4 fun e=>h (dM _ e)
def dB (S:Ki):Ki ->Nat ->Nat
 |[],_=>0
 |u::vs,v=>if v=u then cnt S vs else dB S vs v
theorem U7:∀ {vs:Ki} {v:Nat},¬v∈vs ->dB S vs v=0
 |[],_,_=>rfl
 |u::vs,v,h=>by
  rw[dB,aA (fun e=>h (by rw[e];exact c5))];exact U7 fun e=>h (dM _ e)
def pos (S:Ki) (f:Nat ->Nat) (vs:Ki):Nat:=vs.foldl (fun k v=>k*sz S v+f v) 0
theorem akO (S:Ki) (f:Nat ->Nat) (vs:Ki) (v:Nat):pos S f (vs++[v])=pos S f vs*sz S v+f v:=by simp[pos]
def gJ (g:Nat ->Nat):Ki ->Nat
 |[]=>0
 |v::vs=>g v+gJ g vs
theorem abr (g:Nat ->Nat) (a b:Ki):gJ g (a++b)=gJ g a+gJ g b:=by
 induction a with
 |nil=>simp[gJ]
 |cons v a ih=>simp only[fS,gJ,ih];omega
theorem JG {g h:Nat ->Nat}:∀ {l:Ki},(∀v∈l,g v=h v) ->gJ g l=gJ h l
 |[],_=>rfl
 |v::l,e=>by rw[gJ,gJ,e v c5,JG fun u a=>e u (dM _ a)]
theorem SJ (S:Ki) (f:Nat ->Nat):∀(vs:Ki) (k:Nat),vs.foldl (fun k v=>k*sz S v+f v) k=k*cnt S vs+pos S f vs
 |[],k=>by simp[pos,cnt]
 |v::vs,k=>by
  have e:pos S f (v::vs)=f v*cnt S vs+pos S f vs:=by
   show vs.foldl (fun k v=>k*sz S v+f v) (0*sz S v+f v)=_;rw[SJ S f vs,nW,bH]
  rw[uJ,SJ S f vs,e,cnt,il,jh];omega
theorem QQ (S:Ki) (f:Nat ->Nat):∀ {vs:Ki},vs.Nodup ->pos S f vs=gJ (fun v=>f v*dB S vs v) vs
 |[],_=>rfl
 |u::vs,h=>by
  rw[nZ] at h;rw[pos,uJ,SJ,gJ,QQ S f h.2,nW,bH];congr 1
  ·rw[dB,aw rfl]
  ·exact JG fun v a=>by rw[dB,aA (fun e=>h.1 (by rw[<- e];exact a))]
theorem abt (g:Nat ->Nat) (n:Nat):∀ {vs:Ki},vs.Nodup ->(∀v∈vs,v<n) ->(∀v,¬v∈vs ->g v=0) ->gJ g vs=gJ g (List.range n):=by
 intro vs a t c
 have k:∀ {vs:Ki},vs.Nodup ->(∀v∈vs,v<n) ->gJ g vs=gJ (fun v=>if v∈vs then g v else 0) (List.range n):=by
  intro vs;induction vs with
  |nil=>
   intro _ _
   have:∀l:Ki,gJ (fun v=>if v∈([]:Ki) then g v else 0) l=0:=by
    intro l;induction l with
    |nil=>rfl
    |cons x l ih=>rw[gJ,ih];simp
   rw[this];rfl
  |cons u vs ih=>
   intro a t;rw[nZ] at a;rw[gJ,ih a.2 fun v b=>t v (dM _ b)];have d:=t u c5
   have o:∀m,u< m ->gJ (fun v=>if v∈u::vs then g v else 0) (List.range m)=g u+gJ (fun v=>if v∈vs then g v else 0) (List.range m):=by
    intro m;induction m with
    |zero=>intro h;omega
    |succ m MR=>
     intro h;rw[uI,abr,abr];by_cases e:u=m
     ·subst e
      have:gJ (fun v=>if v∈u::vs then g v else 0) (List.range u)=gJ (fun v=>if v∈vs then g v else 0) (List.range u):=JG fun v b=>by
       (have:¬v=u:=by have:=bM.1 b;omega);simp[this]
      rw[this];simp[gJ,a.1];omega
     ·rw[MR al];have:¬m=u:=fun h=>e h.symm;simp[gJ,this];omega
   rw[o n d]
 rw[k a t]
 exact JG fun v _=>by
  by_cases h:v∈vs
  ·rw[aw h]
  ·rw[aA h,c v h]
theorem stand {other:Ki} (n k:Nat) (a:vs.Nodup) (o:other.Nodup) (e:∀v∈vs,v<n) (u:∀v∈other,v<n):gJ (fun v=>bA S vs k v*dB S other v) vs=pos S (bA S vs k) other:=by
 rw[QQ S _ o,abt _ n a e,abt _ n o u]
 ·intro v h;rw[U7 h,mh]
 ·intro v h;rw[K4 h,nW]
theorem arK (u:Nat) (l:Ki) (k v:Nat):bA S (u::l) (k % cnt S (u::l)) v=if v=u then k/cnt S l % sz S u else bA S l (k % cnt S l) v:=by
 rw[bA,cnt,adW k _ _,adV]
variable {n v:Nat}
def ag (l:Kh):Ki:=l.map Int.toNat
theorem fT (l:Kh):(ag l).length=l.length:=by simp[ag]
theorem wE (h:i<l.length):(ag l)[i]'(by rw[fT];exact h)=l[i].toNat:=by simp[ag]
structure gI (l:Kh):Prop where
 one:1<=l.length
 eight:l.length<=8
 each:∀i (h:i<l.length),1<=l[i]/\l[i]<=4
theorem Y8 (h:oP l=true):gI l:=by
 rw[oP,iB,eG] at h
 exact⟨h.1.1,h.1.2,fun i a=>by
  have:=eX.1 h.2 l[i] (bP a);simpa [CQ] using this⟩
theorem gI.pos (h:gI l):Pos (ag l):=by
 intro x b;obtain⟨i,a,rfl⟩:=List.mem_iff_getElem.1 b;rw[fT] at a;rw[wE a];have:=h.each i a;omega
theorem gI.sz_le (h:gI l) (v:Nat):sz (ag l) v<=4:=by
 rw[sz];by_cases a:v<l.length
 ·rw[aV (by rw[fT];exact a),Cx,wE a];have:=h.each v a;omega
 ·rw[iA (by rw[fT];omega)];simp
theorem gI.sz_eq (h:gI l) (a:v<l.length):(sz (ag l) v:Int)=l[v]:=by
 rw[sz,aV (by rw[fT];exact a),Cx,wE a];have:=h.each v a;omega
structure Up (l:Kh) (n:Nat):Prop where
 each:∀i (h:i<l.length),0<=l[i]/\l[i]<n
 lt:∀i j (hj:j<l.length) (hi:i<j),l[i]<l[j]
theorem j8 (h:dN l n=true):Up l n:=by
 have b:∀i (a:i<l.length),0<=l[i]/\l[i]<(n:Int)/\(0< i ->l.getD (i - 1) 0<l[i]):=fun i a=>by
  have:=eX.1 h i (bM.2 a);rw[lI,eG,getD_eq a] at this;exact this
 refine⟨fun i a=>⟨(b i a).1,(b i a).2.1⟩,?_⟩;intro i j;induction j with
 |zero=>intro _ h;omega
 |succ j ih=>
  intro e a;have c:=(b (j+1) e).2.2 al;rw[PY,getD_eq al] at c;rcases dG i j with d |d
  ·have:=ih al d;omega
  ·obtain rfl:i=j:=al
   exact c
theorem Up.nat (h:Up l n) (a:i<l.length):((l[i].toNat:Nat):Int)=l[i]/\l[i].toNat<n:=by
 have:=h.each i a;constructor<;>omega
theorem Up.aa (h:Up l n):∀v∈ag l,v<n:=by
 intro v b;obtain⟨i,a,rfl⟩:=List.mem_iff_getElem.1 b;rw[fT] at a;rw[wE a];exact(h.nat a).2
theorem Up.nodup (h:Up l n):(ag l).Nodup:=by
 rw[List.Nodup,yS];intro i j a b p;rw[fT] at a b;rw[wE a,wE b];have c:=h.lt i j b p;have d:=h.each i a;omega
theorem Up.ge (h:Up l n):∀i (a:i<l.length),(i:Int)<=l[i]:=by
 intro i;induction i with
 |zero=>intro a;exact(h.each 0 a).1
 |succ i ih=>
  intro a;have:=ih al;have:=h.lt i (i+1) a al;omega
theorem Up.length (h:Up l n):l.length<=n:=by
 rcases yP l.length with a |a
 ·omega
 ·have b:=h.ge (l.length - 1) al;have c:=(h.each (l.length - 1) al).2;omega
theorem agD (h:∀v,sz S v<=4):∀vs:Ki,cnt S vs<=4^vs.length
 |[]=>ah _
 |v::vs=>by
  rw[cnt,dV,jw,eB (4^_)];exact kp (h v) (agD h vs)
theorem wY (h:∀v,sz S v<=4) (a:vs.length<=8):cnt S vs<=65536:=by
 have b:=agD h vs;have c:4^vs.length<=4^8:=kN bd a;have d:(4:Nat)^8=65536:=bd
 omega
theorem agC (S vs:Ki) (h:i<vs.length):cnt S (vs.take (i+1))=cnt S (vs.take i)*sz S vs[i]:=by
 rw[im h,aqO]
def countB (sizes vars:Kh):Bool:=oP sizes&&dN vars sizes.length
def jV (sizes vars:Kh):Int×Int:=if countB sizes vars=true then(((cnt (ag sizes) (ag vars):Nat):Int),0) else(0,11)
theorem KY {sizes vars:Kh} (h:countB sizes vars=true):jV sizes vars=(((cnt (ag sizes) (ag vars):Nat):Int),0):=aw h
theorem KZ {sizes vars:Kh} (h:countB sizes vars=false):jV sizes vars=(0,11):=aA (by rw[h];decide)
theorem akB (a b:Kd) (ca cb:Nat) (sizes vars:Kh) (w:World) (hs:aC w a sizes) (q:aC w b vars) (I:sizes.length<=140737488355328) (F:vars.length<=140737488355328):
  da 55 #[.slice a sizes.length ca,.slice b vars.length cb] w (du w (.tuple #[.int .i64 (jV sizes vars).1,.int .i64 (jV sizes vars).2])):=by
 have H:=hid hs;have k:=hid q;clear hs q;have S:=hid (fun V h=>akv a ca sizes V h I);have f:=hid (fun V h=>ako b cb vars sizes.length V h F);cases hf:oP sizes with
 |false=>
  have A:=hid (KZ (sizes:=sizes) (vars:=vars) (by rw[countB,hf];rfl));rw[hf] at S;generalize jV sizes vars=r at *;generalize dN vars sizes.length=rb at *;go_enter Tryz.func55,Tryz.ntmps55;go_wp2_with fail
  refine(S.o _ H.o).af ?_;rintro e x ⟨rfl,c⟩;go_wp2_with fail
  refine(f.o _ (k.o.aa c)).af ?_;rintro e y ⟨rfl,d⟩;have j:=c.trans (d.af c.size);go_wp2;go_ret2;exact⟨by rw[A.o];rfl,j⟩
 |true=>
  rw[hf] at S;cases hr:dN vars sizes.length with
  |false=>
   have A:=hid (KZ (sizes:=sizes) (vars:=vars) (by rw[countB,hr,Bool.and_false]));rw[hr] at f;generalize jV sizes vars=r at *;go_enter Tryz.func55,Tryz.ntmps55;go_wp2_with fail
   refine(S.o _ H.o).af ?_;rintro e x ⟨rfl,c⟩;go_wp2_with fail
   refine(f.o _ (k.o.aa c)).af ?_;rintro e y ⟨rfl,d⟩;have j:=c.trans (d.af c.size);go_wp2;go_ret2;exact⟨by rw[A.o];rfl,j⟩
  |true=>
   have A:=hid (KY (sizes:=sizes) (vars:=vars) (by rw[countB,hf,hr];rfl));rw[hr] at f;have O:=Y8 hf;have T:=j8 hr;have sU:=O.eight;have Z:=T.length;have p:=hid O;have J:=hid T;clear hf hr O T;generalize jV sizes vars=r at *;go_enter Tryz.func55,Tryz.ntmps55;go_wp2_with fail
   refine(S.o _ H.o).af ?_;rintro e x ⟨rfl,c⟩;go_wp2_with fail
   refine(f.o _ (k.o.aa c)).af ?_;rintro e y ⟨rfl,d⟩;have j:=c.trans (d.af c.size);clear c d;go_wp2_with fail
   go_loopw [8,9] (fun nv iv wr=>∃i:Nat,i<=vars.length/\iv=.int .i64 i/\nv=.int .i64 (cnt (ag sizes) ((ag vars).take i):Nat)/\db w wr) (fun _ iv _=>vars.length - (intOf iv).toNat)
   case atStart=>exact⟨0,aU _,rfl,rfl,j⟩
   case round=>
    obtain⟨i,R,rfl,rfl,l⟩:=hrel;by_cases t:i<vars.length
    ·obtain⟨g,o,rfl,Q,D⟩:=(k.o.aa l) i t;obtain⟨u,n⟩:=J.o.nat t
     have s:cnt (ag sizes) ((ag vars).take (i+1))=cnt (ag sizes) ((ag vars).take i)*sz (ag sizes) vars[i].toNat:=by
      rw[agC _ _ (by rw[fT];exact t),wE t]
     have L:cnt (ag sizes) ((ag vars).take (i+1))<=65536:=wY p.o.sz_le (by rw[eW,fT];omega);generalize hV:vars[i].toNat=v at *;rw[<- u] at D;obtain⟨g',o',rfl,U,E⟩:=(H.o.aa l) v n;rw[<- p.o.sz_eq n] at E;rw[s] at L;have m:((cnt (ag sizes) ((ag vars).take i):Nat):Int)*((sz (ag sizes) v:Nat):Int)=((cnt (ag sizes) ((ag vars).take i)*sz (ag sizes) v:Nat):Int):=(mo _ _).symm;have K:=hid s;clear s u hV;generalize cnt (ag sizes) ((ag vars).take i)=X at *;generalize sz (ag sizes) v=Y at *;(have P:0<=(X:Int)*(Y:Int):=by rw[m];omega);(have M:(X:Int)*(Y:Int)<=65536:=by rw[m];omega);have z:=hid m;clear m;go_wp2;go_roundw
     case rel=>exact⟨i+1,al,b5,by rw[K.o, <- z.o],l⟩
     case measure=>simp[intOf];omega
    ·obtain rfl:i=vars.length:=al
     rw[kP (by rw[fT];exact ah _)];go_wp2;go_ret2;exact⟨by rw[A.o];rfl,l⟩
theorem FA {l:Ki} (h:i<l.length):l.getD i 0=l[i]:=by simp[List.getD,h]
theorem Zl {sizes vars:Kh} (h:countB sizes vars=true):gI sizes/\Up vars sizes.length:=by
 rw[countB,iB] at h;exact⟨Y8 h.1,j8 h.2⟩
theorem ana (a:Kd) (cap:Nat) (l:Kh) (w:World) (h:aC w a l) (s:l.length<=140737488355328):
  da 146 #[.slice a l.length cap] w (du w (.bool (oP l))):=by
 have F:=hid h;clear h;by_cases d:1<=l.length/\l.length<=8
 ·have H:Hid (oP l=l.all CQ):=by show _=_;rw[oP,bX d];rfl
  obtain⟨u,v⟩:=d;generalize oP l=f at *;go_enter Tryz.func146,Tryz.ntmps146;go_wp2_with fail
  go_loopw [15] (fun iv wr=>∃i:Nat,i<=l.length/\iv=.int .i64 i/\Hid ((l.take i).all CQ=true)/\db w wr) (fun iv _=>l.length - (intOf iv).toNat)
  case atStart=>exact⟨0,aU _,rfl,rfl,au _ _⟩
  case round=>
   obtain⟨i,r,rfl,I,b⟩:=hrel;by_cases t:i<l.length
   ·obtain⟨g,o,rfl,q,k⟩:=(F.o.aa b) i t;by_cases e:1<=l[i]/\l[i]<=4
    ·have S:=hid (ag5 t I.o (p:=CQ) (bX e));obtain⟨m,n⟩:=e;generalize l[i]=x at *;go_wp2;go_roundw
     case rel=>exact⟨i+1,al,b5,S.o,b⟩
     case measure=>simp[intOf];omega
    ·have E:Hid (f=false):=by show _=_;rw[H.o];exact ag7 t (cF e)
     rcases (show l[i]<1∨(1<=l[i]/\4<l[i]) by omega) with c |⟨c,j⟩
     all_goals
      clear e;generalize l[i]=x at *;go_wp2;go_ret;exact⟨by rw[E.o];rfl,b⟩
   ·have E:Hid (f=true):=by
     show _=_;rw[H.o];have:=I.o;rwa [kP al] at this
    go_wp2;go_ret;exact⟨by rw[E.o];rfl,b⟩
 ·have E:Hid (oP l=false):=by show _=_;rw[oP,cF d];rfl
  generalize oP l=f at *;go_enter Tryz.func146,Tryz.ntmps146;rcases (show l.length<1∨(1<=l.length/\8<l.length) by omega) with c |⟨c,j⟩
  all_goals
   go_wp2;go_ret;exact⟨by rw[E.o];rfl,au _ _⟩
def least (l:Kh) (i:Nat):Int:=if i=0 then 0 else l.getD (i - 1) 0+1
theorem ael (h:i<l.length):least l (i+1)=l[i]+1:=by
 rw[least,aA al,PY,getD_eq h]
theorem adq {n:Int} (d:i<l.length) (h:(List.range i).all (lI l n)=true):lI l n i=decide (least l i<=l[i]/\l[i]<n)/\0<=least l i:=by
 rw[lI,getD_eq d,least];by_cases b:i=0
 ·subst b;refine⟨?_,aE⟩;simp
 ·have p:=eX.1 h (i - 1) (bM.2 al);rw[lI,eG,getD_eq al] at p;rw[aA b,getD_eq al];refine⟨?_,al⟩;rw[Ej];constructor
  ·intro ⟨_,a,c⟩;have:=c al;exact⟨al,a⟩
  ·intro ⟨e,a⟩;exact⟨al,a,fun _=>al⟩
theorem aj9 (a:Kd) (cap:Nat) (l:Kh) (n:Int) (w:World) (h:aC w a l) (y:l.length<=140737488355328) (z:n<=140737488355328):
  da 147 #[.slice a l.length cap,.int .i64 n] w (du w (.bool (dN l n))):=by
 have F:=hid h;clear h;have f:=hid (fun i h e=>Vk (l:=l) (n:=n) (i:=i) h e);have T:Hid ((List.range l.length).all (lI l n)=true ->dN l n=true):=id;generalize dN l n=rb at *;go_enter Tryz.func147,Tryz.ntmps147;go_wp2_with fail
 go_loopw [5,10] (fun lv iv wr=>∃i:Nat,i<=l.length/\iv=.int .i64 i/\lv=.int .i64 (least l i)/\Hid ((List.range i).all (lI l n)=true)/\db w wr) (fun _ iv _=>l.length - (intOf iv).toNat)
 case atStart=>exact⟨0,aU _,rfl,rfl,rfl,au _ _⟩
 case round=>
  obtain⟨i,v,rfl,rfl,H,b⟩:=hrel;by_cases t:i<l.length
  ·obtain⟨g,o,rfl,u,k⟩:=(F.o.aa b) i t;obtain⟨d,A⟩:=adq t H.o;have s:=hid (ael t);have c:=hid d;clear d;generalize least l i=m at *;generalize l[i]=x at *;by_cases e:m<=x/\x<n
   ·have S:=hid (QC H.o (by rw[c.o];exact bX e));obtain⟨p,q⟩:=e;go_wp2;go_roundw
    case rel=>exact⟨i+1,al,b5,by rw[s.o],S.o,b⟩
    case measure=>simp[intOf];omega
   ·have E:=hid (f.o i t (by rw[c.o];exact cF e));rcases (show x<m∨(m<=x/\n<=x) by omega) with j |⟨j,r⟩
    all_goals
     clear e;go_wp2;go_ret;exact⟨by rw[E.o];rfl,b⟩
  ·obtain rfl:i=l.length:=al
   have E:=hid (T.o H.o);go_wp2;go_ret;exact⟨by rw[E.o];rfl,b⟩
theorem agy (a b:Kd) (ca cb:Nat) (sizes vars:Kh) (w:World) (hs:aC w a sizes) (e:aC w b vars) (Q:gI sizes) (T:Up vars sizes.length):
  da 148 #[.slice a sizes.length ca,.slice b vars.length cb] w (du w (.int .i64 (cnt (ag sizes) (ag vars):Nat))):=by
 have H:=hid hs;have V:=hid e;have U:=Q.eight;have Z:=T.length;have d:=hid Q;have p:=hid T;clear hs e Q T;have P:Hid (cnt (ag sizes) ((ag vars).take vars.length)=cnt (ag sizes) (ag vars)):=by show _=_;rw[kP (by rw[fT];exact ah _)]
 go_enter Tryz.func148,Tryz.ntmps148;go_wp2_with fail
 go_loopw [5,10] (fun nv iv wr=>∃i:Nat,i<=vars.length/\iv=.int .i64 i/\nv=.int .i64 (cnt (ag sizes) ((ag vars).take i):Nat)/\db w wr) (fun _ iv _=>vars.length - (intOf iv).toNat)
 case atStart=>exact⟨0,aU _,rfl,rfl,au _ _⟩
 case round=>
  obtain⟨i,u,rfl,rfl,h⟩:=hrel;by_cases l:i<vars.length
  ·obtain⟨g,o,rfl,t,m⟩:=(V.o.aa h) i l;obtain⟨f,c⟩:=p.o.nat l
   have s:cnt (ag sizes) ((ag vars).take (i+1))=cnt (ag sizes) ((ag vars).take i)*sz (ag sizes) vars[i].toNat:=by
    rw[agC _ _ (by rw[fT];exact l),wE l]
   have q:cnt (ag sizes) ((ag vars).take (i+1))<=65536:=wY d.o.sz_le (by rw[eW,fT];omega);generalize hV:vars[i].toNat=v at *;rw[<- f] at m;obtain⟨g',y,rfl,x,n⟩:=(H.o.aa h) v c;rw[<- d.o.sz_eq c] at n;rw[s] at q;have k:((cnt (ag sizes) ((ag vars).take i):Nat):Int)*((sz (ag sizes) v:Nat):Int)=((cnt (ag sizes) ((ag vars).take i)*sz (ag sizes) v:Nat):Int):=(mo _ _).symm;have S:=hid s;clear s f hV;generalize cnt (ag sizes) ((ag vars).take i)=X at *;generalize sz (ag sizes) v=Y at *;(have E:0<=(X:Int)*(Y:Int):=by rw[k];omega);(have r:(X:Int)*(Y:Int)<=65536:=by rw[k];omega);have j:=hid k;clear k;go_wp2;go_roundw
   case rel=>exact⟨i+1,al,b5,by rw[S.o, <- j.o],h⟩
   case measure=>simp[intOf];omega
  ·obtain rfl:i=vars.length:=al
   rw[P.o];go_wp2;go_ret;exact⟨rfl,h⟩
theorem Qt (a b:Kd) (ca cb:Nat) (sizes vars:Kh) (w:World) (hs:aC w a sizes) (j:aC w b vars) (p:sizes.length<=140737488355328) (n:vars.length<=140737488355328):
  da 92 #[.slice a sizes.length ca,.slice b vars.length cb] w (du w (.tuple #[.int .i64 (jV sizes vars).1,.int .i64 (jV sizes vars).2])):=by
 have H:=hid hs;have g:=hid j;clear hs j;have v:=hid (fun V h=>ana a ca sizes V h p);have f:=hid (fun V h=>aj9 b cb vars sizes.length V h n al);cases hf:oP sizes with
 |false=>
  have A:=hid (KZ (sizes:=sizes) (vars:=vars) (by rw[countB,hf];rfl));rw[hf] at v;generalize jV sizes vars=r at *;go_enter Tryz.func92,Tryz.ntmps92;go_wp2_with fail
  refine(v.o _ H.o).af ?_;rintro e k ⟨rfl,c⟩;go_wp2;go_ret2;exact⟨by rw[A.o];rfl,c⟩
 |true=>
  rw[hf] at v;cases hr:dN vars sizes.length with
  |false=>
   have A:=hid (KZ (sizes:=sizes) (vars:=vars) (by rw[countB,hr,Bool.and_false]));rw[hr] at f;generalize jV sizes vars=r at *;go_enter Tryz.func92,Tryz.ntmps92;go_wp2_with fail
   refine(v.o _ H.o).af ?_;rintro e k ⟨rfl,c⟩;go_wp2_with fail
   refine(f.o _ (g.o.aa c)).af ?_;rintro e q ⟨rfl,i⟩;have d:=c.trans (i.af c.size);go_wp2;go_ret2;exact⟨by rw[A.o];rfl,d⟩
  |true=>
   have A:=hid (KY (sizes:=sizes) (vars:=vars) (by rw[countB,hf,hr];rfl));rw[hr] at f;have t:=hid (fun V l m=>agy a b ca cb sizes vars V l m (Y8 hf) (j8 hr));generalize jV sizes vars=r at *;go_enter Tryz.func92,Tryz.ntmps92;go_wp2_with fail
   refine(v.o _ H.o).af ?_;rintro e k ⟨rfl,c⟩;go_wp2_with fail
   refine(f.o _ (g.o.aa c)).af ?_;rintro e q ⟨rfl,i⟩;have d:=c.trans (i.af c.size);go_wp2_with fail
   refine(t.o _ (H.o.aa d) (g.o.aa d)).af ?_;rintro e u ⟨rfl,s⟩;go_wp2;go_ret2;exact⟨by rw[A.o];rfl,d.trans (s.af d.size)⟩
theorem anJ (a:Kd) (ca:Nat) (sizes:Kh) (v:Nat) (x:Int) (w:World) (hs:aC w a sizes) (Q:gI sizes) (h:v<sizes.length):
  da 173 #[.slice a sizes.length ca,.int .i64 (v:Nat),.int .i64 x] w (du w (.bool (decide (0<=x/\x<(sz (ag sizes) v:Int))))):=by
 obtain⟨g,o,rfl,k,c⟩:=hs v h;rw[<- Q.sz_eq h] at c;have s:=Q.eight;generalize sz (ag sizes) v=Y at *;by_cases e:0<=x/\x<(Y:Int)
 ·rw[bX e];obtain⟨f,i⟩:=e;go_enter Tryz.func173,Tryz.ntmps173;go_wp2;go_ret;exact⟨rfl,au _ _⟩
 ·rw[cF e];rcases (show x<0∨(0<=x/\(Y:Int)<=x) by omega) with d |⟨d,j⟩
  all_goals
   clear e;go_enter Tryz.func173,Tryz.ntmps173;go_wp2;go_ret
   first
    |exact⟨rfl,au _ _⟩
    |exact⟨ed (fun b=>Ending.returned (Value.bool b)) (cF al),au _ _⟩
theorem JH {α:Type} {P:List α ->Prop} (h0:P []) (h1:∀l a,P l ->P (l++[a])) (l:List α):P l:=by
 have h:∀m:List α,P m.reverse:=by
  intro m;induction m with
  |nil=>exact h0
  |cons a m ih=>rw[List.reverse_cons];exact h1 _ _ ih
 have:=h l.reverse;rwa [List.reverse_reverse] at this
def nb (l:List UInt8):Nat:=l.foldl (fun n c=>n*256+c.toNat) 0
theorem Hb:nb []=0:=rfl
theorem A9 (l:List UInt8) (c:UInt8):nb (l++[c])=nb l*256+c.toNat:=by simp[nb]
theorem EM (a b:List UInt8):nb (a++b)=nb a*256^b.length+nb b:=by
 induction b using JH with
 |h0=>simp[Hb]
 |h1 l c ih=>
  rw[<- ny,A9,ih,A9,bU,Ep,jw,il,jh,Cz]
theorem amm (c:UInt8):nb [c]=c.toNat:=by simp[nb]
theorem Hc (c:UInt8) (l:List UInt8):nb (c::l)=c.toNat*256^l.length+nb l:=by
 have:=EM [c] l;rwa [List.singleton_append,amm] at this
theorem wI (l:List UInt8):nb l<256^l.length:=by
 induction l using JH with
 |h0=>simp[Hb]
 |h1 l c ih=>
  rw[A9,bU,Ep,jw];have:=c.toNat_lt;omega
def bn (n:Nat):List UInt8:=if _h:n=0 then[] else bn (n/256)++[UInt8.ofNat (n % 256)]
theorem rV:bn 0=[]:=by rw[bn];simp
theorem rW (n:Nat) (h:n≠0):bn n=bn (n/256)++[UInt8.ofNat (n % 256)]:=by rw[bn];simp[h]
theorem ofNat_toNat (n:Nat):(UInt8.ofNat (n % 256)).toNat=n % 256:=aE
theorem V9 (n:Nat):nb (bn n)=n:=by
 induction n using Nat.strongRecOn with
 |ind n ih=>
  by_cases h:n=0
  ·subst h;simp[rV,Hb]
  ·rw[rW n h,A9,ih (n/256) al,ofNat_toNat];omega
theorem arA (n:Nat) (c:UInt8) (h:n≠0∨c.toNat≠0):bn (n*256+c.toNat)=bn n++[c]:=by
 have a:=c.toNat_lt;rw[rW _ al,show (n*256+c.toNat)/256=n by omega,show (n*256+c.toNat) % 256=c.toNat by omega];simp
theorem Zx (l:List UInt8):bn (nb l)=l.dropWhile (·==0):=by
 induction l using JH with
 |h0=>simp[Hb,rV]
 |h1 l c ih=>
  rw[A9];by_cases h:nb l≠0∨c.toNat≠0
  ·rw[arA _ _ h,ih];by_cases a:l.dropWhile (·==0)=[]
   ·have z:nb l=0:=by rw[<- V9 (nb l),ih,a,Hb]
    (have b:c≠0:=by intro e;subst e;simp[z] at h);rw[a,List.dropWhile_append,a];simp[b]
   ·rw[List.dropWhile_append];simp[a]
  ·have h1:nb l=0:=al
   (have d:c.toNat=0:=al);(have b:c=0:=by simpa [<- PO] using d);rw[h1,d];rw[h1,rV] at ih;rw[List.dropWhile_append, <- ih];simp[b,rV]
theorem Zy {a b:Nat} (h:a<=b):(bn a).length<=(bn b).length:=by
 induction a using Nat.strongRecOn generalizing b with
 |ind a ih=>
  by_cases c:a=0
  ·subst c;simp[rV]
  ·rw[rW a c,rW b al];have:= @ih (a/256) al (b/256) al;simp;omega
def W:Nat:=4294967296
theorem iQ:W=4294967296:=rfl
theorem mO:0<W:=bd
def nw:Ki ->Nat
 |[]=>0
 |x::r=>x+W*nw r
theorem oH:nw []=0:=rfl
theorem lK (x:Nat) (r:Ki):nw (x::r)=x+W*nw r:=rfl
theorem CR (a b:Ki):nw (a++b)=nw a+W^a.length*nw b:=by
 induction a with
 |nil=>simp[oH]
 |cons x a ih=>rw[fS,lK,lK,ih,dV,jw,nX];rw[eB (W^a.length) W,jh];omega
theorem EK (a:Ki) (x:Nat):nw (a++[x])=nw a+W^a.length*x:=by rw[CR,lK,oH];simp
def Small (l:Ki):Prop:=∀x∈l,x<W
theorem xU (l:Ki) (h:Small l):nw l<W^l.length:=by
 induction l with
 |nil=>simp[oH]
 |cons x r ih=>
  have a:=ih (fun y b=>h y (dM _ b));have c:=h x (c5);rw[lK,dV,jw];have:W*(nw r+1)<=W*W^r.length:=mi _ a;rw[eB (W^r.length) W];rw[nX] at this;omega
def words (n:Nat):Ki:=if _h:n=0 then[] else(n % 4294967296)::words (n/4294967296)
theorem y4:words 0=[]:=by rw[words,dif_pos rfl]
theorem CC (n:Nat) (h:n≠0):words n=(n % W)::words (n/W):=by rw[words,dif_neg h,iQ]
theorem SY (h:n≠0):n/W<n:=Nat.div_lt_self (lA h) bd
theorem lJ (n:Nat):nw (words n)=n:=by
 induction n using Nat.strongRecOn with
 |ind n ih=>
  by_cases h:n=0
  ·subst h;simp[y4,oH]
  ·rw[CC n h,lK,ih _ (SY h)];exact Nat.mod_add_div n W
theorem ou (n:Nat):Small (words n):=by
 induction n using Nat.strongRecOn with
 |ind n ih=>
  by_cases h:n=0
  ·subst h;simp[y4,Small]
  ·rw[CC n h];intro x a;rcases bT.1 a with rfl |a
   ·exact ji _ mO
   ·exact ih _ (SY h) x a
theorem Ql (n:Nat):words n=[]↔n=0:=by
 constructor
 ·intro h;rw[<- lJ n,h,oH]
 ·rintro rfl;exact y4
theorem aaL (n:Nat) (h:words n≠[]):(words n).getLast h≠0:=by
 induction n using Nat.strongRecOn with
 |ind n ih=>
  have b:n≠0:=fun e=>h ((Ql n).2 e);by_cases a:words (n/W)=[]
  ·have z:=(Ql _).1 a
   have:(words n).getLast h=n % W:=by
    have w:=CC n b;rw[a] at w;simp[w]
   rw[this];intro m;have:=Nat.mod_add_div n W;rw[m,z] at this;simp at this;exact b this.symm
  ·have:(words n).getLast h=(words (n/W)).getLast a:=by
    have w:=CC n b;simp only[w];rw[List.getLast_cons a]
   rw[this];exact ih _ (SY b) a
theorem ahX (l:Ki) (hs:Small l) (b:∀h:l≠[],l.getLast h≠0):words (nw l)=l:=by
 induction l with
 |nil=>simp[oH,y4]
 |cons x r ih=>
  have c:=hs x (c5);have a:words (nw r)=r:=ih (fun y d=>hs y (dM _ d)) (fun h=>by have:=b aE;rwa [List.getLast_cons h] at this)
  have e:nw (x::r)≠0:=by
   intro h;rw[lK] at h;(have f:x=0:=al)
   have M:nw r=0:=by
    (have:W*nw r=0:=al);rcases Nat.mul_eq_zero.1 this with h |h
    ·simp[W] at h
    ·exact h
   rw[M,y4] at a;subst a;exact b aE (by simpa using f)
  rw[CC _ e,lK,aaw,j6 c,Nat.add_mul_div_left _ _ mO,yQ c,bH,a]
theorem Qm (n:Nat):(words n).length=((bn n).length+3)/4:=by
 induction n using Nat.strongRecOn with
 |ind n ih=>
  by_cases h:n=0
  ·subst h;simp[y4,rV]
  ·rw[CC n h,dV,ih _ (SY h)];by_cases a:n/256=0
   ·rw[rW n h,a,rV,show n/W=0 by simp only[W];omega,rV];simp
   ·by_cases b:n/256/256=0
    ·rw[rW n h,rW _ a,b,rV,show n/W=0 by simp only[W];omega,rV];simp
    ·by_cases c:n/256/256/256=0
     ·rw[rW n h,rW _ a,rW _ b,c,rV,show n/W=0 by simp only[W];omega,rV];simp
     ·rw[rW n h,rW _ a,rW _ b,rW _ c,show n/256/256/256/256=n/W by simp only[W];omega];simp;omega
def part (n i:Nat):Nat:=n/W^i % W
theorem alc (n:Nat):part n 0=n % W:=by rw[part,LN,Gu]
theorem ald (n i:Nat):part n (Nat.succ i)=part (n/W) i:=by rw[part,part,Nat.succ_eq_add_one,jw,eB,Uj]
theorem ahZ (i:Nat):∀n,i<(words n).length ->(words n)[i]? =some (part n i):=by
 induction i with
 |zero=>
  intro n h;have a:n≠0:=by rintro rfl;rw[y4] at h;simp at h
  rw[CC n a,alc];rfl
 |succ i ih=>
  intro n h;have a:n≠0:=by rintro rfl;rw[y4] at h;simp at h
  rw[CC n a,dV] at h;rw[CC n a,List.getElem?_cons_succ,ih _ (Nat.lt_of_succ_lt_succ h), <- ald]
theorem ah0 (n:Nat):words n=(List.range (words n).length).map (part n):=by
 apply LZ;intro i;rw[kq];by_cases h:i<(words n).length
 ·rw[ahZ i n h,Jt h];rfl
 ·rw[iA al,iA (by simpa using h)];rfl
theorem ar9 (i:Nat):W^i=256^(4*i):=by rw[Nat.pow_mul];rfl
theorem ale (l:List UInt8) (i:Nat) (h:4*i<=l.length):nb ((l.take (l.length - 4*i)).drop (l.length - 4*i - 4))=part (nb l) i:=by
 have a:nb (l.take (l.length - 4*i))=nb l/W^i:=by
  have b:=yR (l.length - 4*i) l;have n:=EM (l.take (l.length - 4*i)) (l.drop (l.length - 4*i));rw[b] at n;have e:(l.drop (l.length - 4*i)).length=4*i:=by simp;omega
  rw[e] at n;have t:=wI (l.drop (l.length - 4*i));rw[e] at t;have p:0<256^(4*i):=wk bd;rw[ar9,n,En,Ul _ _ p,yQ t,bH]
 rw[part, <- a];generalize hm:l.take (l.length - 4*i)=m;have u:m.length=l.length - 4*i:=by rw[<- hm];simp
 rw[<- u];have n:=EM (m.take (m.length - 4)) (m.drop (m.length - 4));rw[yR] at n;by_cases c:4<=m.length
 ·have e:(m.drop (m.length - 4)).length=4:=by simp;omega
  have t:=wI (m.drop (m.length - 4));rw[e] at n t;rw[n,show (256:Nat)^4=W from rfl,En,Uk];exact(j6 t).symm
 ·have z:m.length - 4=0:=al
  rw[z,Er];have t:=wI m;have:256^m.length<=256^4:=kN bd al;exact(j6 (by show nb m<256^4;omega)).symm
theorem VY (l:Ki) (k:Nat) (h:k<l.length):nw (l.take (k+1))=nw (l.take k)+W^k*l[k]:=by
 rw[im h,EK,eW,wm (AH h)]
theorem JI {l:Ki} (h:Small l) (k:Nat):Small (l.take k):=fun x a=>h x (List.mem_of_mem_take a)
theorem UE (l:Ki) (hs:Small l) (k:Nat) (b:k<=l.length) (n:nw (l.take k)=nw l) (a:k=0∨l[k - 1]?.getD 0≠0):words (nw l)=l.take k:=by
 rw[<- n];refine ahX _ (JI hs k) fun h=>?_;rcases a with rfl |a
 ·simp at h
 ·have c:k≠0:=by rintro rfl;simp at h
  rw[List.getLast_eq_getElem];simp only[eW,wm b,yV];rwa [aV al] at a
theorem Qk (l:Ki) (hs:Small l):∃k,k<=l.length/\words (nw l)=l.take k:=by
 induction l using JH with
 |h0=>exact⟨0,ah _,by rw[oH,y4];rfl⟩
 |h1 l a ih=>
  by_cases h:a=0
  ·subst h;obtain⟨k,b,e⟩:=ih (fun x c=>hs x (Eo _ c));refine⟨k,by simp;omega,?_⟩;rw[EK,mh,iX,e,Um b]
  ·refine⟨(l++[a]).length,ah _,?_⟩;exact UE _ hs _ (ah _) (by rw[iY]) (Or.inr (by simpa using h))
theorem aiz (l q:Ki) (m y:Nat) (h:m<l.length):(l.take (m+1)++q).set m y=l.take m++y::q:=by
 rw[im h,ny];have e:(l.take m).length=m:=by simp;omega
 rw[Gv _ _ al,e,rz];rfl
section
open Go.Shelf
attribute [local go_sem] Oper.semAt_some
variable {Bn:Nat}
def N (s:ByteArray):Nat:=nb s.data.toList
def B (n:Nat):ByteArray:=⟨(bn n).toArray⟩
theorem dR (n:Nat):N (B n)=n:=V9 n
theorem mY (n:Nat):(B n).size=(bn n).length:=by simp[B,ByteArray.size]
theorem aik (s:ByteArray):(⟨(Lib.trimLeftB s.data.toList 0).toArray⟩:ByteArray)=B (N s):=by
 rw[B,N,Zx];rfl
theorem CL {k:IntKind} {a b:Int} (h:a=b):Ending.returned (.int k a)=.returned (.int k b):=by rw[h]
theorem int_eq {k:IntKind} {a b:Int} (h:a=b):Value.int k a=.int k b:=by rw[h]
theorem FQ (s:ByteArray) (w:World):
  da 244 #[.string s] w fun e w'=>e=.returned (.string (B (N s)))/\w'=w:=by
 rw[<- aik];go_enter Tryz.func244,Tryz.ntmps244;go_wp2_with (go_at_call 277;refine(Tryz.strings_TrimLeft_one _ 0 bd _).af ?_;rintro e w' ⟨rfl,rfl⟩)
 go_ret;exact⟨rfl,rfl⟩
theorem agx (s:ByteArray) (w:World) (hs:s.size<=140737488355328):
  da 247 #[.string s] w fun e w'=>e=.returned (.int .i64 ((s.size+3)/4:Nat))/\w'=w:=by
 go_enter Tryz.func247,Tryz.ntmps247;go_wp2;go_ret;exact⟨CL al,rfl⟩
theorem alQ (p c:Nat) (a:p<16777216) (h:c<256):bits .or .u32 ((p:Int)*256) (c:Int)=((p*256+c:Nat):Int):=by
 have e:(p:Int)*256=((p*256:Nat):Int):=al
 rw[e,u32_or_nat _ _ al al,nat_join 8 _ _ al h]
theorem Mk (s:ByteArray) (k:Nat) (h:k<s.size):s.data.toList.take (k+1)=s.data.toList.take k++[s[k]]:=by
 rw[im (by simpa using h)];rfl
theorem amn (l:List UInt8) (k:Nat) (h:l.length<=k):nb l<256^k:=
 aO (wI l) (kN bd h)
theorem ake (s:ByteArray) (w:World) (hs:s.size<=4):
  da 279 #[.string s] w fun e w'=>e=.returned (.int .u32 (N s))/\w'=w:=by
 go_enter Tryz.func279,Tryz.ntmps279;go_wp2;go_loop [3,7] (fun n i=>∃k:Nat,k<=s.size/\i=.int .i64 k/\n=.int .u32 (nb (s.data.toList.take k))) (fun _ i=>s.size - (intOf i).toNat)
 case atStart=>exact⟨0,aU _,rfl,rfl⟩
 case round=>
  obtain⟨k,a,rfl,rfl⟩:=hrel;by_cases h:k<s.size
  ·have b:nb (s.data.toList.take k)<16777216:=amn _ 3 (by simp;omega);have c:=s[k].toNat_lt;(have S:Hid (nb (s.data.toList.take (k+1))=nb (s.data.toList.take k)*256+s[k].toNat):=by rw[Mk s k h,A9];rfl);have H:Hid (bits .or .u32 ((nb (s.data.toList.take k):Int)*256) (s[k].toNat:Int)=((nb (s.data.toList.take k)*256+s[k].toNat:Nat):Int)):=alQ _ _ b c;generalize nb (s.data.toList.take k)=p at *;go_wp2;go_round
   case rel=>exact⟨k+1,al,b5,by rw[S.o];exact int_eq H.o⟩
   case measure=>simp[intOf];omega
  ·go_wp2;go_ret;exact⟨CL (by rw[N,kP (by simp;omega)]),rfl⟩
def qg (Bn:Nat) (V V':World):Prop:=V'.cell? ⟨Bn,0,none⟩=V.cell? ⟨Bn,0,none⟩
theorem qg.t {A B C:World} (h:qg Bn A B) (k:qg Bn B C):qg Bn A C:=Eq.trans k h
theorem qg.b (n:Bn<w.heap.size) (V:World) (l:Nat) (o a:Obj) (h:w.heap.size<=l) (_:V.heap[l]? =some o) (_:o.isCells=false) (_:o.isWalk=false):qg Bn V (V.putObj l a):=
 iz (yO (show Bn≠l by omega))
def upto (n k:Nat):Ki:=(List.range k).map (part n)
theorem aaZ (n k:Nat):upto n (k+1)=upto n k++[part n k]:=by simp[upto,uI]
theorem aie (n k:Nat):(upto n k).length=k:=by simp[upto]
theorem alb (s:ByteArray) (k:Nat) (h:4*k<=s.size):N (s.extract (s.size - 4*k - 4) (s.size - 4*k))=part (N s) k:=by
 rw[N,N, <- ale _ _ (by simpa using h)];congr 1
 rw[ByteArray.data_extract];simp[List.drop_take]
theorem akd (s:ByteArray) (k:Nat) (w:World) (h:4*k<=s.size):
  da 279 #[.string (s.extract (max 0 ((s.size:Int) - (k:Int)*4 - 4)).toNat (s.size - k*4))] w fun e w'=>e=.returned (.int .u32 (part (N s) k:Nat))/\w'=w:=by
 have a:(max 0 ((s.size:Int) - (k:Int)*4 - 4)).toNat=s.size - 4*k - 4:=al
 have b:s.size - k*4=s.size - 4*k:=al
 rw[a,b, <- alb s k h];exact ake _ w (by rw[ByteArray.size_extract];omega)
theorem apH (n:Nat) (j:1<=n) (l Bn:Nat) (s:ByteArray) (hs:s.size<=140737488355328) (J a:Ki ->World ->Prop)
  (Y:∀p x V,J p V ->p.length<(s.size+3)/4 ->YieldAt Fence.wide (n - 1) Tryz.prog l #[.int .u32 (x:Nat)] V fun e V'=>
   (e=.returned (.bool true)/\J (p++[x]) V'/\qg Bn V V')∨(e=.returned (.bool false)/\a (p++[x]) V'))
  (V:World) (q:V.cell? ⟨Bn,0,none⟩=some (.string s)) (h0:J [] V):
  CallsIn Fence.wide n Tryz.prog 278 #[.func (.yield l) #[] #[],.pointer (some ⟨Bn,0,none⟩)] V fun e V'=>(∃v,e=.returned v)/\
   ((∃y,y=upto (N s) ((s.size+3)/4)/\J y V')∨(∃p,(∃k,k<=(s.size+3)/4/\p=upto (N s) k)/\a p V')):=by
 refine Jl Tryz.func278 rfl trivial ?_ rfl;simp only[Tryz.ntmps278,mj,dV,lD,Nat.reduceAdd,Nat.reduceSub,om,oh,nY,np,fX,fS];gi_wp2_with (refine⟨trivial,?_⟩;gi_at_call 247;refine(iW.2 (agx _ _ hs)).af ?_;rintro e w' ⟨rfl,rfl⟩)
 gi_loopw [7] (fun i wr=>∃k:Nat,k<=(s.size+3)/4/\i=.int .i64 k/\J (upto (N s) k) wr/\wr.cell? ⟨Bn,0,none⟩=some (.string s))
  (fun i _=>(s.size+3)/4 - (intOf i).toNat)
 case atStart=>exact⟨0,aU _,rfl,h0,q⟩
 case round=>
  obtain⟨k,g,rfl,h,b⟩:=hrel;by_cases t:k<(s.size+3)/4
  ·obtain⟨fn,r,u,o,m,R⟩:=Y _ (part (N s) k) wr h (by rw[aie];exact t);gi_wp2_with (refine⟨trivial,?_⟩;gi_at_call 279;refine(iW.2 (akd s k _ al)).af ?_;rintro e w' ⟨rfl,rfl⟩)
   refine R.af ?_;rintro e W3 (⟨rfl,c,d⟩ |⟨rfl,f⟩)
   ·have X:W3.cell? ⟨Bn,0,none⟩=some (.string s):=Eq.trans d b;gi_wp2
    go_roundw
    case rel=>exact⟨k+1,al,aE,by rw[aaZ];exact c,X⟩
    case measure=>simp[intOf];omega
   ·gi_wp2
    refine cP (results_none rfl _ _ _) rfl ?_;exact⟨⟨_,rfl⟩,.inr ⟨_,⟨k+1,al,(aaZ _ _).symm⟩,f⟩⟩
  ·obtain rfl:k=(s.size+3)/4:=al
   gi_wp2
   go_end0
   exact⟨⟨_,rfl⟩,.inl ⟨_,rfl,h⟩⟩
theorem apG (n:Nat) (s:ByteArray) (w:World):
  CallsIn Fence.wide n Tryz.prog 248 #[.string s] w fun e w'=>e=.returned (.func (.func 278) #[] #[.pointer (some ⟨w.heap.size,0,none⟩)])/\w'=w.alloc (.cells #[.string s] 61):=by
 refine Jl Tryz.func248 rfl trivial ?_ rfl;simp only[Tryz.ntmps248,mj,dV,lD,Nat.reduceAdd,Nat.reduceSub,om,oh,nY,np,fX,fS];gi_wp2
 go_ret;exact⟨rfl,rfl⟩
theorem apF (n:Nat) (d:1<=n) (Bn:Nat) (s:ByteArray) (hs:s.size<=140737488355328) (w:World) (q:Bn<w.heap.size) (c:w.cell? ⟨Bn,0,none⟩=some (.string s)):
  SeqStopsK Fence.wide n Tryz.prog 278 #[.pointer (some ⟨Bn,0,none⟩)] (fun x:Nat=> #[Value.int .u32 (x:Nat)]) (qg Bn) (fun y=>y=upto (N s) ((s.size+3)/4)) (fun e=>∃k,k<=(s.size+3)/4/\e=upto (N s) k) ((s.size+3)/4) w:=fun l J a V b _ _ Y h=>
 apH n d l Bn s hs J a Y V ((b.cell (p:=⟨Bn,0,none⟩) q).trans c) h
theorem Tryz.infoU32:(Tryz.prog.info? 157).map (fun i=>(i.zero,i.size,i.bytes))=some (some (.int .u32 0),1,4):=ao
def u32 (x:Nat):Value:=.int .u32 (x:Nat)
theorem aid (n:Nat):upto n (((B n).size+3)/4)=words n:=by
 rw[mY, <- Qm,upto, <- ah0]
end
section
open Go.Shelf
attribute [local go_sem] Oper.semAt_some
theorem jK (s:ByteArray):(B (N s)).size<=s.size:=by
 rw[mY,N,Zx];have:(s.data.toList.dropWhile (·==0)).length<=s.data.toList.length:=(List.dropWhile_sublist _).length_le;simpa using this
end
def lenOf:Value ->Nat |.slice _ n _=>n |_=>0
theorem Qx (b f cap:Nat) (l:Ki) (w:World) (hs:Small l) (u:l.length<=cap) (m:l.length<=140737488355328)
  (d:∀j,j<l.length ->w.cell? ⟨b,f+j,none⟩=some (.int .u32 (l[j]?.getD 0:Nat))):
  da 245 #[.slice (some ⟨b,f,none⟩) l.length cap] w fun e w'=>e=.returned (.slice (some ⟨b,f,none⟩) (words (nw l)).length cap)/\w'=w:=by
 go_enter Tryz.func245,Tryz.ntmps245;go_wp2;go_loop [0] (fun v=>∃k:Nat,k<=l.length/\v=.slice (some ⟨b,f,none⟩) k cap/\nw (l.take k)=nw l) (fun v=>lenOf v)
 case atStart=>exact⟨l.length,ah _,rfl,by rw[iY]⟩
 case round=>
  obtain⟨k,a,rfl,n⟩:=hrel;have H:Hid (nw (l.take k)=nw l):=n;clear n;by_cases c:k=0
  ·subst c;have e:=UE l hs 0 (aU _) H.o (Or.inl rfl);(have E:Hid ((words (nw l)).length=0):=by rw[e];rfl);clear e;go_wp2;go_ret;exact⟨by rw[E.o];rfl,rfl⟩
  ·have i:=d (k - 1) al;by_cases h:l[k - 1]?.getD 0=0
   ·have g:Hid (nw (l.take (k - 1))=nw l):=by
     have e:=VY l (k - 1) al;rw[show k - 1+1=k by omega,H.o] at e;rw[aV al] at h;simp only[Cx] at h;rw[h,mh,iX] at e;exact e.symm
    rw[h] at i;go_wp2;go_round
    case rel=>exact⟨k - 1,al,rfl,g.o⟩
    case measure=>simp[lenOf];omega
   ·have e:=UE l hs k a H.o (Or.inr h);(have E:Hid ((words (nw l)).length=k):=by rw[e,eW];exact wm a);clear e;go_wp2;go_ret;exact⟨by rw[E.o];rfl,rfl⟩
theorem ajq (w:World):
  da 245 #[.slice none 0 0] w fun e w'=>e=.returned (.slice none 0 0)/\w'=w:=by
 go_enter Tryz.func245,Tryz.ntmps245;go_wp2;refine LB 1 ?_;rw[sI];go_wp2;go_ret;exact⟨rfl,rfl⟩
def cJ (x k:Nat):Int:=((x/256^k % 256:Nat):Int)
theorem arz (x:Nat) (h:x<18446744073709551616):cJ x 7=(x:Int)/72057594037927936/\cJ x 6=(x:Int)/281474976710656 % 256/\cJ x 5=(x:Int)/1099511627776 % 256/\cJ x 4=(x:Int)/4294967296 % 256/\
  cJ x 3=(x:Int)/16777216 % 256/\cJ x 2=(x:Int)/65536 % 256/\cJ x 1=(x:Int)/256 % 256/\cJ x 0=(x:Int) % 256:=by
 unfold cJ;simp only[Nat.reducePow];omega
theorem agQ (x:Nat) (w:World) (i:x<18446744073709551616):
  da 243 #[.int .u64 (x:Nat)] w (du w (.agg #[.int .u8 (cJ x 7),.int .u8 (cJ x 6),.int .u8 (cJ x 5),.int .u8 (cJ x 4),.int .u8 (cJ x 3),.int .u8 (cJ x 2),.int .u8 (cJ x 1),.int .u8 (cJ x 0)])):=by
 obtain⟨h,g,f,d,c,b,a,e⟩:=arz x i;rw[h,g,f,d,c,b,a,e];clear h g f d c b a e;go_enter Tryz.func243,Tryz.ntmps243;go_wp2;refine LB 9 ?_;rw[sI];go_wp2;rw[sI];go_wp2;rw[sI];go_wp2;rw[sI];go_wp2;rw[sI];go_wp2;rw[sI];go_wp2;rw[sI];go_wp2;rw[sI];go_wp2;rw[sI];go_wp2;refine cP (v:=.agg #[.int .u8 ((x:Int)/72057594037927936),.int .u8 ((x:Int)/281474976710656 % 256),.int .u8 ((x:Int)/1099511627776 % 256),.int .u8 ((x:Int)/4294967296 % 256),.int .u8 ((x:Int)/16777216 % 256),.int .u8 ((x:Int)/65536 % 256),.int .u8 ((x:Int)/256 % 256),.int .u8 ((x:Int) % 256)]) (by simp[results,Tryz.results243,go_sem]) rfl ⟨rfl,?_⟩;exact(((au _ _).alloc (ah _) _).alloc aE _)
theorem FN (x c:Nat):x/(c*256)*256+x/c % 256=x/c:=by rw[<- Uj];exact Nat.div_add_mod' _ _
theorem aqt (x:Nat) (h:x<18446744073709551616):0*256+x/72057594037927936 % 256=x/72057594037927936:=al
theorem agr (x:Nat):x/256*256+x/1 % 256=x:=al
theorem amq (x:Nat) (f:x<18446744073709551616):N (strOfNums [cJ x 7,cJ x 6,cJ x 5,cJ x 4,cJ x 3,cJ x 2,cJ x 1,cJ x 0])=x:=by
 have e:=FN x 281474976710656;have d:=FN x 1099511627776;have c:=FN x 4294967296;have b:=FN x 16777216;have a:=FN x 65536;have h:=FN x 256;simp only[Nat.reduceMul] at e d c b a h;simp only[N,Jj,fG,ng,cJ,qE,nb,uJ,List.foldl_nil,UInt8.toNat_ofNat',Nat.reducePow,Nat.mod_mod];rw[aqt x f,e,d,c,b,a,h,agr]
theorem ah3 (x:Nat) (t:TypeId) (w:World):∀i,i< 8 ->(w.alloc (.cells #[.int .u8 (cJ x 7),.int .u8 (cJ x 6),.int .u8 (cJ x 5),.int .u8 (cJ x 4),.int .u8 (cJ x 3),.int .u8 (cJ x 2),.int .u8 (cJ x 1),.int .u8 (cJ x 0)] t)).cell? ⟨w.heap.size,0+i,none⟩=
  some (.int .u8 (([cJ x 7,cJ x 6,cJ x 5,cJ x 4,cJ x 3,cJ x 2,cJ x 1,cJ x 0]:Kh).getD i 0)):=by
 intro i h;rcases (show i=0∨i=1∨i=2∨i=3∨i=4∨i=5∨i=6∨i=7 by omega) with rfl |rfl |rfl |rfl |rfl |rfl |rfl |rfl<;>simp
theorem adr (x:Nat) (w:World) (h:x<18446744073709551616):
  da 195 #[.int .u64 (x:Nat)] w (du w (.string (B x))):=by
 have D:=fun (a:World)=>Jk (P:=Tryz.prog) (a.alloc (.cells #[.int .u8 (cJ x 7),.int .u8 (cJ x 6),.int .u8 (cJ x 5),.int .u8 (cJ x 4),.int .u8 (cJ x 3),.int .u8 (cJ x 2),.int .u8 (cJ x 1),.int .u8 (cJ x 0)] 261)) 148 5 Tryz.underlying148 Tryz.underlying5 a.heap.size 0 8 8 _ rfl (ah3 x _ a) 61 Tryz.underlying61;have H:Hid (N (strOfNums [cJ x 7,cJ x 6,cJ x 5,cJ x 4,cJ x 3,cJ x 2,cJ x 1,cJ x 0])=x):=amq x h;go_enter Tryz.func195,Tryz.ntmps195
 go_wp2_with (first
  |(go_at_call 243;refine(agQ x _ h).af ?_;rintro e a ⟨rfl,b⟩)
  |(go_at_call 244;refine(FQ _ _).af ?_;rintro e c ⟨rfl,rfl⟩;rw[H.o]))
 go_ret;exact⟨rfl,b.alloc b.size _⟩
variable {xs:List Value} {g:Nat}
def vB (x:Nat):Kh:=[cJ x 3,cJ x 2,cJ x 1,cJ x 0]
def pR:Ki ->Kh
 |[]=>[]
 |x::r=>pR r++vB x
theorem ank (a:Ki) (y:Nat):pR (a++[y])=vB y++pR a:=by
 induction a with
 |nil=>simp[pR]
 |cons x a ih=>rw[fS,pR,ih,pR,ny]
theorem Wi (a:Ki):(pR a).length=4*a.length:=by
 induction a with
 |nil=>rfl
 |cons x a ih=>rw[pR,bU,ih];simp[vB];omega
theorem aqs (x:Nat) (h:x<4294967296):0*256+x/16777216 % 256=x/16777216:=al
theorem amr (x:Nat) (b:x<W):nb ((vB x).map fun n=>UInt8.ofNat n.toNat)=x:=by
 rw[iQ] at b;have c:=aqs x b;have a:=FN x 65536;have h:=FN x 256;simp only[Nat.reduceMul] at a h;simp only[vB,fG,ng,cJ,qE,nb,uJ,List.foldl_nil,UInt8.toNat_ofNat',Nat.reducePow,Nat.mod_mod];rw[c,a,h,agr]
theorem asi (l:Ki) (hs:Small l):N (strOfNums (pR l))=nw l:=by
 rw[N,Jj];induction l with
 |nil=>rfl
 |cons x r ih=>
  rw[pR,eh,EM,ih (fun y h=>hs y (dM _ h)),amr x (hs x c5),lK,cH];show nw r*256^4+x=x+W*nw r;rw[eB,En];rfl
def rI (l:Ki) (k:Nat):Kh:=List.replicate (4*(l.length - k)) 0++pR (l.take k)
theorem alD (l:Ki):rI l 0=List.replicate (4*l.length) 0:=by simp[rI,pR]
theorem alG (l:Ki):rI l l.length=pR l:=by simp[rI]
theorem alF (l:Ki) (k:Nat) (h:k<=l.length):(rI l k).length=4*l.length:=by
 rw[rI,bU,xJ,Wi,eW,wm h];omega
theorem alE (l:Ki) (k:Nat) (h:k<l.length):splice (rI l k) (4*l.length - 4*k - 4) (vB (l[k]?.getD 0))=rI l (k+1):=by
 rw[aV h,Cx];have e:4*(l.length - k)=(4*l.length - 4*k - 4)+4:=al
 have a:4*(l.length - (k+1))=4*l.length - 4*k - 4:=al
 rw[rI,rI,im h,ank,e,a, <- aax,splice];generalize 4*l.length - 4*k - 4=m;have d:(vB l[k]).length=4:=rfl;rw[d]
 have b:(List.replicate m (0:Int)++List.replicate 4 0++pR (l.take k)).take m=List.replicate m 0:=by
  rw[ny,Um aE];simp
 have c:(List.replicate m (0:Int)++List.replicate 4 0++pR (l.take k)).drop (m+4)=pR (l.take k):=by
  rw[List.drop_append_of_le_length aE];simp
 rw[b,c]
theorem abE {α β:Type} (f:α ->β) (L:List α) (o:Nat) (c:List α):splice (L.map f) o (c.map f)=(splice L o c).map f:=by
 simp[splice,List.map_take,List.map_drop]
def u8 (x:Int):Value:=.int .u8 x
theorem Tryz.infoByte:(Tryz.prog.info? 5).map (fun i=>(i.zero,i.size,i.bytes))=some (some (.int .u8 0),1,1):=ao
theorem ah1 (l:Ki) (hs:Small l):(words (nw l)).length<=l.length/\∀j,j<(words (nw l)).length ->(words (nw l))[j]?.getD 0=l[j]?.getD 0:=by
 obtain⟨k,a,e⟩:=Qk l hs;rw[e];refine⟨by simp;omega,fun j h=>?_⟩;rw[wy,aw (by simp at h;omega)]
theorem rY {base:Nat} {t:TypeId} (h:w.ownsRow base t 1 (.slice (some ⟨g,0,none⟩) n n) n xs):w.heap[g]? =some (.cells xs.toArray t (0,0)):=by
 rcases h.2 with ⟨a,_⟩ |⟨g',p,c,a,_,b,E,_,s,m⟩
 ·cases a
 ·cases a;rw[b, <- m,kP (by simp;omega)]
theorem ad4 (n:Nat):(madeCells (Value.int .u8 0).cells (n*1)).toList=(List.replicate n (0:Int)).map u8:=by
 rw[show (Value.int .u8 0).cells= #[Value.int .u8 0] from rfl,LC,qA,P6];rfl
theorem arF (x:Nat) (t:TypeId) (w:World):∀j v,((vB x).map u8)[j]? =some v ->(w.alloc (.cells #[.int .u8 (cJ x 7),.int .u8 (cJ x 6),.int .u8 (cJ x 5),.int .u8 (cJ x 4),.int .u8 (cJ x 3),.int .u8 (cJ x 2),.int .u8 (cJ x 1),.int .u8 (cJ x 0)] t)).cell? ((⟨w.heap.size,4,none⟩:Addr).add j)=some v:=by
 intro j v a
 have b:j<4:=by
  rcases dG j 4 with h |h
  ·exact h
  ·rw[iA (by simpa [vB] using h)] at a;cases a
 have d:(⟨w.heap.size,4,none⟩:Addr).add j=⟨w.heap.size,4+j,none⟩:=by unfold Addr.add;split<;>simp_all
 rw[d];rcases (show j=0∨j=1∨j=2∨j=3 by omega) with rfl |rfl |rfl |rfl<;>simp[vB,u8] at a<;>subst a<;>simp
theorem YW (g cap:Nat) (l:Ki) (w:World) (hs:Small l) (ud:l.length<=cap) (an:l.length<=35184372088832) (hg:g<w.heap.size)
  (d:∀j,j<l.length ->w.cell? ⟨g,0+j,none⟩=some (.int .u32 (l[j]?.getD 0:Nat))):
  da 196 #[.slice (some ⟨g,0,none⟩) l.length cap] w (du w (.string (B (nw l)))):=by
 obtain⟨i0,f,ad,ae,ai⟩:=eA Tryz.infoByte;have z:=Qx g 0 cap l w hs ud al d;obtain⟨ak,J⟩:=ah1 l hs;have F:=ou (nw l);have O:Hid (N (strOfNums (pR (words (nw l))))=nw l):=by show _=_;rw[asi _ F,lJ]
 have A:∀j,j<(words (nw l)).length ->w.cell? ⟨g,j,none⟩=some (.int .u32 ((words (nw l))[j]?.getD 0:Nat)):=fun j hj=>by
  have:=d j al;rw[bH] at this;rw[this,J j hj]
 generalize words (nw l)=ws at *;have Q:Hid (∀j,j<ws.length ->w.cell? ⟨g,j,none⟩=some (.int .u32 (ws[j]?.getD 0:Nat))):=A;have S:Hid (da 245 #[.slice (some ⟨g,0,none⟩) l.length cap] w fun e w'=>e=.returned (.slice (some ⟨g,0,none⟩) ws.length cap)/\w'=w):=z;clear d J A z;go_enter Tryz.func196,Tryz.ntmps196
 go_wp2_with (first
  |(go_at_call 245;refine(S.o).af ?_;rintro e a ⟨rfl,q⟩;subst q)
  |(at_make;refine qp _ rfl _ _ 148 rfl a.heap.size 5 i0 (.int .u8 0) 1 Tryz.underlying148 f ad ae .i64 .i64 _ _ (4*ws.length) rfl rfl al al (by rw[ai];omega) (by unfold maxLen;omega) (ah _) ?_;intro u L M))
 have m:=rY L;rw[ad4, <- alD] at m;have y:db a u:=(au _ a).grown M (ah _) (fun k e=>by cases e);have I:Hid (u.heap[a.heap.size]? =some (.cells ((rI ws 0).map u8).toArray 5 (0,0))):=m;clear L M m S
 go_loopw [16] (fun i wr=>∃k:Nat,k<=ws.length/\i=.int .i64 k/\Hid (wr.heap[a.heap.size]? =some (.cells ((rI ws k).map u8).toArray 5 (0,0)))/\db a wr)
  (fun i _=>ws.length - (intOf i).toNat)
 case atStart=>exact⟨0,aU _,rfl,I,y⟩
 case round=>
  obtain⟨k,hk,rfl,H,c⟩:=hrel;clear I y;by_cases h:k<ws.length
  ·have ab:wr.cell? ⟨g,k,none⟩=some (.int .u32 (ws[k]?.getD 0:Nat)):=(c.cell (p:=⟨g,k,none⟩) hg).trans (Q.o k h)
   have xZ:ws[k]?.getD 0<4294967296:=by
    rw[aV h];exact F _ (bP h)
   have r:Hid (splice (rI ws k) (4*ws.length - 4*k - 4) (vB (ws[k]?.getD 0))=rI ws (k+1)):=alE ws k h;have Hu:=alF ws k hk;generalize ws[k]?.getD 0=x at *;go_wp2_with (go_at_call 243;refine(agQ x _ al).af ?_;rintro e b ⟨rfl,n⟩)
   have s:db a b:=c.trans (n.af c.size)
   have K:∀o,(b.alloc o).heap[a.heap.size]? =some (.cells ((rI ws k).map u8).toArray 5 (0,0)):=fun o=>by
    have v:a.heap.size<wr.heap.size:=(dD.1 H.o).1;rw[uK _ _ _ (aO v n.size),n.block _ v];exact H.o
   have X:Hid (∀o,(b.alloc o).heap[a.heap.size]? =some (.cells ((rI ws k).map u8).toArray 5 (0,0))):=K;clear K ab;obtain⟨E,t⟩:∃E,E=4*ws.length - 4*k - 4:=⟨_,rfl⟩;(have R:IntKind.i64.wrap (4*(ws.length:Int) - (k:Int)*4 - 4)=(E:Int):=by rw[jk];omega);(have T:(k:Int)*4<=4*(ws.length:Int):=al);(have U:4*(ws.length:Int) - (k:Int)*4<=4*(ws.length:Int):=al);(have V:(E:Int)<=4*(ws.length:Int) - (k:Int)*4:=al);(have Y:¬4*ws.length=E:=al);(have Z:(4*(ws.length:Int) - (k:Int)*4).toNat - E=4:=al);(have aj:E+4<=4*ws.length:=al);rw[<- t] at r;clear t;go_region_law (refine step_copy_splice rfl (.tmp 33) (.tmp 34) 148 148 rfl 5 Tryz.underlying148 ao _ _ _ _ _ _ rfl rfl a.heap.size E ((rI ws k).map u8) 5 (by exact X.o _) ((vB x).map u8) rfl (fun _=>⟨rfl,_,rfl,by exact arF x _ b⟩) (by simp[vB];omega) (by simp[vB,u8,Value.oneCell']) a.heap.size a (by exact(s.alloc s.size _).drew) (ah _) ?_;intro w4 D aa)
   clear R T U V Y Z X;go_wp2;go_roundw
   case rel=>exact⟨k+1,al,b5,by rw[abE,r.o] at D;exact D,aa⟩
   case measure=>simp[intOf];omega
  ·obtain rfl:k=ws.length:=al
   have BD:=Jk (P:=Tryz.prog) wr 148 5 Tryz.underlying148 Tryz.underlying5 a.heap.size 0 (4*ws.length) (4*ws.length) (pR ws) (Wi ws) (fun i f=>by
    have e:=bh wr a.heap.size (0+i) _ _ _ H.o;rw[e,alG];(have nL:i<(pR ws).length:=by rw[Wi];exact f);simp[u8,aV nL,bF]) 61 Tryz.underlying61
   clear H;go_wp2_with (go_at_call 244;refine(FQ _ _).af ?_;rintro e b ⟨rfl,q⟩;subst q)
   go_ret;exact⟨by rw[O.o];rfl,c⟩
variable {l':Ki} {cap g' j m off':Nat}
def bE (w:World) (g off:Nat) (l:Ki):Prop:=
 ∃cur,w.heap[g]? =some (.cells cur 157 (0,0))/\off+l.length<=cur.size/\∀j,j<l.length ->cur[off+j]? =some (u32 (l[j]?.getD 0))
theorem bE.cell {f:Nat} {l:Ki} (h:bE w g f l) (j:Nat) (b:j<l.length):w.cell? ⟨g,f+j,none⟩=some (.int .u32 (l[j]?.getD 0:Nat)):=by
 obtain⟨r,a,_,c⟩:=h;rw[bh w g (f+j) r _ (0,0) a];exact c j b
theorem bE.frozen {f:Nat} {l:Ki} (h:bE w g f l) (j:Nat):w.frozen? ⟨g,j,none⟩=false:=by
 obtain⟨c,a,_,_⟩:=h;exact fj w g j c _ a
theorem bE.lt {f:Nat} {l:Ki} (h:bE w g f l):g<w.heap.size:=by
 obtain⟨c,a,_,_⟩:=h;exact(dD.1 a).1
theorem bE.of_block {f:Nat} {l:Ki} (h:bE w g f l) (e:w'.heap[g]? =w.heap[g]?):bE w' g f l:=by
 obtain⟨r,c,a,b⟩:=h;exact⟨r,e.trans c,a,b⟩
theorem bE.aa {f B:Nat} {l:Ki} (h:bE w g f l) (b:Below B w w') (a:g<B):bE w' g f l:=h.of_block (b.block g a)
theorem bE.grown {f:Nat} {row:Option Nat} {l:Ki} (h:bE w g f l) (b:w.grownBy w' row) (e:some g≠row):bE w' g f l:=h.of_block (b.block g h.lt e)
theorem bE.piece {f:Nat} {l:Ki} (h:bE w g f l) (a n:Nat) (e:a+n<=l.length):bE w g (f+a) ((l.drop a).take n):=by
 obtain⟨r,c,d,b⟩:=h;have k:((l.drop a).take n).length=n:=by simp;omega
 refine⟨r,c,al,fun j i=>?_⟩;rw[Cz,b (a+j) al,wy,aw al,LY]
structure dm (g off n:Nat) (w w':World):Prop where
 grown:w.grownBy w' (some g)
 inside:∀cur,w.heap[g]? =some (.cells cur 157 (0,0)) ->∃cur',w'.heap[g]? =some (.cells cur' 157 (0,0))/\cur'.size=cur.size/\∀i,(i<off∨off+n<=i) ->cur'[i]? =cur[i]?
theorem dm.refl (g f n:Nat) (w:World):dm g f n w w:=⟨World.grownBy.refl _ _,fun c h=>⟨c,h,rfl,fun _ _=>rfl⟩⟩
theorem dm.trans {f:Nat} {a b c:World} (h:dm g f n a b) (k:dm g f n b c):dm g f n a c:=
 ⟨h.grown.trans k.grown,fun u q=>by
  obtain⟨e,o,s,l⟩:=h.inside u q;obtain⟨j,p,r,m⟩:=k.inside e o;exact⟨j,p,r.trans s,fun i d=>(m i d).trans (l i d)⟩⟩
theorem dm.af {f n':Nat} (h:dm g f n w w') (h1:off'<=f) (d:f+n<=off'+n'):dm g off' n' w w':=
 ⟨h.grown,fun r b=>by
  obtain⟨c,a,s,e⟩:=h.inside r b;exact⟨c,a,s,fun i j=>e i al⟩⟩
theorem dm.aa {f B:Nat} {a:World} (c:Below B a w) (h:dm g f n w w') (b:B<=g) (hs:B<=w.heap.size):Below B a w':=
 c.grown h.grown hs (fun k e=>by cases e;exact b)
theorem afc (w:World) (g j:Nat) (c:Array Value) (t:TypeId) (u:Value) (h:w.heap[g]? =some (.cells c t (0,0))):(w.setCell ⟨g,j,none⟩ u).heap[g]? =some (.cells (c.setIfInBounds j u) t (0,0)):=
 kn w g j c t u h
theorem dm.setCell {f:Nat} (h1:f<=j) (a:j<f+n) (u:Value):dm g f n w (w.setCell ⟨g,j,none⟩ u):=by
 refine⟨⟨rfl,rfl,rfl,by simp[World.setCell],fun k _ h=>eN _ _ _ _ (by rintro rfl;exact h rfl)⟩,fun r c=>?_⟩;refine⟨_,afc w g j r _ u c,aE,fun i b=>?_⟩;rw[Array.getElem?_setIfInBounds_ne al]
theorem bE.set {f:Nat} {l:Ki} (h:bE w g f l) (j:Nat) (k:j<l.length) (x:Nat):bE (w.setCell ⟨g,f+j,none⟩ (.int .u32 (x:Nat))) g f (l.set j x):=by
 obtain⟨r,d,b,c⟩:=h;refine⟨_,afc w g (f+j) r _ _ d,by simpa using b,fun i a=>?_⟩;rw[iq] at a;by_cases e:i=j
 ·subst e;rw[Array.getElem?_setIfInBounds_self_of_lt al];simp[k,u32]
 ·rw[Array.getElem?_setIfInBounds_ne al,c i a,wA al]
theorem bE.beside {f:Nat} {l:Ki} (h:bE w g f l) (u:dm g off' n w w') (m:f+l.length<=off'∨off'+n<=f):bE w' g f l:=by
 obtain⟨r,d,k,b⟩:=h;obtain⟨c,a,s,e⟩:=u.inside r d;exact⟨c,a,al,fun j i=>(e (f+j) al).trans (b j i)⟩
theorem bE.apart {f:Nat} {l:Ki} (h:bE w g f l) (u:dm g' off' n w w') (d:g≠g'):bE w' g f l:=
 h.grown u.grown (by simp[d])
theorem bE.append {f:Nat} {a b:Ki} (k:bE w g f a) (l:bE w g (f+a.length) b):bE w g f (a++b):=by
 obtain⟨r,h,n,c⟩:=k;obtain⟨u,i,o,d⟩:=l;rw[h] at i;cases i;refine⟨r,h,by simp;omega,fun j m=>?_⟩;rw[bU] at m;by_cases e:j<a.length
 ·rw[GH e,c j e]
 ·rw[AP al];have:=d (j - a.length) al;rwa [show f+a.length+(j - a.length)=f+j by omega] at this
theorem EG {base:Nat} {l:Ki} (h:w.ownsRow base 157 1 (.slice (some ⟨g,0,none⟩) n cap) n (l.map u32)):n=l.length/\l.length<=cap/\base<=g/\bE w g 0 l:=by
 have i:n=l.length:=by have:=h.1;simp at this;exact this.symm
 rcases h.2 with ⟨a,_⟩ |⟨g',p,c,a,d,f,E,_,s,m⟩
 ·cases a
 ·cases a;refine⟨i,al,d,c,f,al,fun j b=>?_⟩;have e:(c.toList.take (n*1))[j]? =(l.map u32)[j]?:=by rw[m]
  rw[wy,aw al,kq,aV b] at e;rw[bH,aV b];simpa using e
theorem acU {base:Nat} {l:Ki} (h:w.ownsRow base 157 1 (.slice (some ⟨g,0,none⟩) n cap) n (l.map u32)) (u:dm g 0 m w w') (o:bE w' g 0 l') (q:l'.length=n):w'.ownsRow base 157 1 (.slice (some ⟨g,0,none⟩) n cap) n (l'.map u32):=by
 refine⟨by simp[q],?_⟩;rcases h.2 with ⟨a,_⟩ |⟨g',y,r,a,j,k,E,p,z,v⟩
 ·cases a
 ·cases a;obtain⟨e,c,x,_⟩:=u.inside r k;obtain⟨s,d,t,f⟩:=o;rw[c] at d;cases d;refine .inr ⟨g,cap,e,rfl,j,c,E,p,al,?_⟩;apply LZ;intro i;rw[wy,kq];by_cases b:i<l'.length
  ·have:=f i b;rw[bH,aV b] at this;rw[aw al,aV b,AV,this];rfl
  ·rw[aA al,iA al];rfl
theorem als {base:Nat} {v:Value} {l:Ki} (h:w.ownsRow base 157 1 v n (l.map u32)):n=l.length:=by have:=h.1;simp at this;exact this.symm
theorem QY {base B:Nat} {e:TypeId} {i:Nat} {v:Value} (h:w.ownsRow base e i v n xs) (c:Below B w w') (b:w.heap.size<=B):w'.ownsRow base e i v n xs:=by
 refine⟨h.1,?_⟩;rcases h.2 with a |⟨g,cap,u,d,f,r,j⟩
 ·exact .inl a
 ·exact .inr ⟨g,cap,u,d,f,(c.block g (aO (dD.1 r).1 b)).trans r,j⟩
theorem MD {base:Nat} {l:Ki} (c:Array Value) (b:w.heap[g]? =some (.cells c 157 (0,0))) (hs:c.size=cap) (e:base<=g) (m:cap<=maxLen) (f:l.length<=cap) (j:bE w g 0 l):w.ownsRow base 157 1 (.slice (some ⟨g,0,none⟩) l.length cap) l.length (l.map u32):=by
 refine⟨aE,.inr ⟨g,cap,c,rfl,e,b,f,m,al,?_⟩⟩;obtain⟨k,a,n,d⟩:=j;rw[b] at a;cases a;apply LZ;intro i;rw[wy,kq];by_cases h:i<l.length
 ·have:=d i h;rw[bH,aV h] at this;rw[aw al,aV h,AV,this];rfl
 ·rw[aA al,iA al];rfl
def Has (w:World) (base:Nat) (v:Value) (l:Ki):Prop:=w.ownsRow base 157 1 v l.length (l.map u32)
theorem Has.cases {base:Nat} {v:Value} {l:Ki} (h:Has w base v l):(v=.slice none 0 0/\l=[])∨∃g cap,v=.slice (some ⟨g,0,none⟩) l.length cap/\l.length<=cap/\base<=g/\bE w g 0 l:=by
 rcases h.2 with ⟨a,n⟩ |⟨g,cap,u,a,r⟩
 ·exact .inl ⟨a,Qa n⟩
 ·subst a;obtain⟨_,b,c,d⟩:=EG h;exact .inr ⟨g,cap,rfl,b,c,d⟩
theorem Has.aa {base B:Nat} {v:Value} {l:Ki} (h:Has w base v l) (b:Below B w w') (a:w.heap.size<=B):Has w' base v l:=QY h b a
theorem aqD {base:Nat} {l:Ki} (k:Nat) (e:k<=l.length) (h:w.ownsRow base 157 1 (.slice (some ⟨g,0,none⟩) n cap) n (l.map u32)):w.ownsRow base 157 1 (.slice (some ⟨g,0,none⟩) k cap) k ((l.take k).map u32):=by
 have f:=als h;refine⟨by simp;omega,?_⟩;rcases h.2 with ⟨a,_⟩ |⟨g',p,r,a,b,c,E,m,s,d⟩
 ·cases a
 ·cases a;refine .inr ⟨g,cap,r,rfl,b,c,al,m,s,?_⟩;rw[List.map_take, <- d,List.take_take,wm al,qA]
theorem api (w:World):da 196 #[.slice none 0 0] w (du w (.string (B 0))):=by
 obtain⟨d,h,z,f,l⟩:=eA Tryz.infoByte;have D:=fun (c:World)=>Jk (P:=Tryz.prog) c 148 5 Tryz.underlying148 Tryz.underlying5 w.heap.size 0 0 0 [] rfl (fun i h=>absurd h (El _)) 61 Tryz.underlying61;have H:Hid (N (strOfNums [])=0):=rfl;go_enter Tryz.func196,Tryz.ntmps196
 go_wp2_with (first
  |(go_at_call 245;refine(ajq _).af ?_;rintro e b ⟨rfl,a⟩;subst a)
  |(at_make;refine qp _ rfl _ _ 148 rfl b.heap.size 5 d (.int .u8 0) 1 Tryz.underlying148 h z f .i64 .i64 _ _ 0 rfl rfl rfl rfl al (by unfold maxLen;omega) (ah _) ?_;intro c n g))
 refine LB 1 ?_;rw[sI];go_wp2_with (go_at_call 244;refine(FQ _ _).af ?_;rintro e j ⟨rfl,a⟩;subst a)
 go_ret;exact⟨by rw[H.o];rfl,(au _ b).grown g (ah _) (fun k e=>by cases e)⟩
theorem SA (base:Nat) (v:Value) (l:Ki) (w:World) (hs:Small l) (e:l.length<=35184372088832) (h:Has w base v l):
  da 196 #[v] w (du w (.string (B (nw l)))):=by
 rcases h.cases with ⟨rfl,rfl⟩ |⟨g,cap,rfl,d,c,a⟩
 ·rw[oH];exact api w
 ·exact YW g cap l w hs d e a.lt (fun j b=>a.cell j b)
theorem adh (r x:Nat) (h:r<4294967296) (a:x<4294967296):bits .or .u64 ((r:Int)*4294967296) (x:Int)=((r*4294967296+x:Nat):Int):=by
 have e:(r:Int)*4294967296=((r*4294967296:Nat):Int):=al
 rw[e,u64_or_nat _ _ al al,nat_join 32 _ _ al al]
def G:Nat:=1000000000
theorem aD {p:Prop} (h:p):Hid p:=h
theorem Has.upd {base:Nat} {l:Ki} (h:Has w base (.slice (some ⟨g,0,none⟩) n cap) l) (u:dm g 0 m w w') (b:bE w' g 0 l') (e:l'.length=l.length):Has w' base (.slice (some ⟨g,0,none⟩) n cap) l':=by
 have c:n=l.length:=by
  rcases h.2 with ⟨a,_⟩ |⟨g',p,r,a,_⟩
  ·cases a
  ·cases a;rfl
 subst c;have:=acU h u b e;rw[Has,e];exact this
theorem SV (q l:Ki) (k y:Nat) (a:q.length=k) (h:k<l.length):(q++l.drop k).set k y=q++[y]++l.drop (k+1):=by
 rw[Gv _ _ al,a,rz,qD h,CA,ny];rfl
variable {k:Nat} {f:Nat ->Nat}
def jR (f:Nat ->Nat):Nat ->Nat
 |0=>0
 |k+1=>jR f k+W^k*f k
theorem adv (f g:Nat ->Nat) (k:Nat):jR (fun j=>f j+g j) k=jR f k+jR g k:=by
 induction k with
 |zero=>rfl
 |succ k ih=>simp only[jR,ih,nX];omega
theorem adt (c:Nat) (f:Nat ->Nat) (k:Nat):jR (fun j=>c*f j) k=c*jR f k:=by
 induction k with
 |zero=>rfl
 |succ k ih=>simp only[jR,ih,nX];congr 1;rw[<- jh,eB (W^k) c,jh]
theorem J5 (l:Ki) (k:Nat):jR (fun j=>l[j]?.getD 0) k=nw (l.take k):=by
 induction k with
 |zero=>simp[jR,oH]
 |succ k ih=>
  rw[jR,ih];by_cases h:k<l.length
  ·rw[VY l k h,aV h];rfl
  ·rw[iA al,kP (by omega:l.length<=k),kP (by omega:l.length<=k+1)];simp
theorem adu (l:Ki) (k:Nat) (h:l.length<=k):jR (fun j=>l[j]?.getD 0) k=nw l:=by rw[J5,kP h]
theorem al6 {g:Nat ->Nat} (h:∀j,j< k ->f j=g j):jR f k=jR g k:=by
 induction k with
 |zero=>rfl
 |succ k ih=>rw[jR,jR,ih (fun j a=>h j al),h k al]
def acc (f:Nat ->Nat):Nat ->Ki×Nat
 |0=>([],0)
 |k+1=>((acc f k).1++[((acc f k).2+f k) % W],((acc f k).2+f k)/W)
theorem Ov (f:Nat ->Nat) (k:Nat):(acc f k).1.length=k:=by
 induction k with
 |zero=>rfl
 |succ k ih=>simp[acc,ih]
theorem ZL (f:Nat ->Nat) (k:Nat):Small (acc f k).1:=by
 induction k with
 |zero=>intro x h;simp[acc] at h
 |succ k ih=>
  intro x h;rw[acc] at h;rcases aZ.1 h with h |h
  ·exact ih x h
  ·simp at h;subst h;exact ji _ mO
theorem ZM (f:Nat ->Nat) (k:Nat):nw (acc f k).1+W^k*(acc f k).2=jR f k:=by
 induction k with
 |zero=>simp[acc,jR,oH]
 |succ k ih=>
  rw[acc,jR,EK,Ov, <- ih,jw,jh];have e:=Nat.mod_add_div ((acc f k).2+f k) W
  have:W^k*(((acc f k).2+f k) % W)+W^k*(W*(((acc f k).2+f k)/W))=W^k*(acc f k).2+W^k*f k:=by
   rw[<- nX,e,nX]
  show nw (acc f k).1+W^k*(((acc f k).2+f k) % W)+W^k*(W*(((acc f k).2+f k)/W))=_;omega
theorem ZN (f:Nat ->Nat) (b:Nat) (k:Nat) (h:∀j,j< k ->f j+b<(b+1)*W):(acc f k).2<=b:=by
 induction k with
 |zero=>exact aU _
 |succ k ih=>
  have a:=ih (fun j d=>h j al);have c:=h k al;rw[acc];have:((acc f k).2+f k)/W<b+1:=Jo (by rw[eB];omega);omega
theorem abY (a q l:Ki) (i k y:Nat) (h:a.length=i) (c:q.length=k) (b:i+k<l.length):(a++q++l.drop (i+k)).set (i+k) y=a++(q++[y])++l.drop (i+(k+1)):=by
 rw[Gv _ _ (by rw[bU];omega),bU,h,c,rz,qD b,CA];simp[ny,Cz]
theorem ajG (a q l:Ki) (i k:Nat) (h:a.length=i) (b:q.length=k):(a++q++l.drop (i+k))[i+k]?.getD 0=l[i+k]?.getD 0:=by
 rw[AP (by rw[bU];omega),bU,h,b,rz,LY,iX]
theorem getD_lt {l:Ki} (h:Small l) (j:Nat):l[j]?.getD 0<W:=by
 by_cases a:j<l.length
 ·rw[aV a];exact h _ (bP a)
 ·rw[iA al];exact mO
theorem A2 {a b:Ki} (h:Small a) (c:Small b):Small (a++b):=fun x d=>(aZ.1 d).elim (h x) (c x)
theorem Mm {l:Ki} (h:Small l) (k:Nat):Small (l.drop k):=fun x a=>h x (List.mem_of_mem_drop a)
theorem al5 (l:Ki) (k:Nat):nw l=nw (l.take k)+W^(min k l.length)*nw (l.drop k):=by
 have:=CR (l.take k) (l.drop k);rwa [yR,eW] at this
theorem uR (l:Ki) (k:Nat) (h:k<=l.length):nw l=nw (l.take k)+W^k*nw (l.drop k):=by
 have:=al5 l k;rwa [wm h] at this
theorem VX (n:Nat):nw (List.replicate n 0)=0:=by
 induction n with
 |zero=>rfl
 |succ n ih=>rw[LU,lK,ih];simp
theorem abI (n:Nat):Small (List.replicate n 0):=fun x h=>by rw[(List.mem_replicate.1 h).2];exact mO
def gX (xs ys:Ki) (j:Nat):Nat:=xs[j]?.getD 0+ys[j]?.getD 0
theorem abu (xs s:Ki) (k:Nat):jR (gX xs s) k=nw (xs.take k)+nw (s.take k):=by
 rw[show gX xs s=fun j=>(fun j=>xs[j]?.getD 0) j+(fun j=>s[j]?.getD 0) j from rfl,adv,J5,J5]
theorem aiX (xs s:Ki) (h:Small xs) (y:Small s) (k:Nat):(acc (gX xs s) k).2<=1:=by
 refine ZN _ 1 k fun j _=>?_;have a:=getD_lt h j;have b:=getD_lt y j;unfold gX;omega
theorem Vw (g f cap b r R:Nat) (xs a:Ki) (w:World) (m:Small xs) (t:Small a) (ae:xs.length<=35184372088832) (V:a.length<=xs.length) (L:bE w g f xs) (P:bE w b r a) (U:b≠g):
  da 246 #[.slice (some ⟨g,f,none⟩) xs.length cap,.slice (some ⟨b,r,none⟩) a.length R] w fun e w'=>∃(c:Bool) (l':Ki),e=.returned (.bool c)/\l'.length=xs.length/\Small l'/\nw l'+(if c then W^xs.length else 0)=nw xs+nw a/\bE w' g f l'/\dm g f xs.length w w':=by
 go_enter Tryz.func246,Tryz.ntmps246;go_wp2
 go_loopw [5,9] (fun c i wr=>∃k:Nat,k<=xs.length/\i=.int .i64 k/\c=.int .u64 ((acc (gX xs a) k).2:Nat)/\bE wr g f ((acc (gX xs a) k).1++xs.drop k)/\dm g f xs.length w wr)
  (fun _ i _=>xs.length - (intOf i).toNat)
 case atStart=>exact⟨0,aU _,rfl,rfl,by simpa [acc] using L,dm.refl _ _ _ _⟩
 case round=>
  obtain⟨k,J,rfl,rfl,d,j⟩:=hrel;have zH:=aiX xs a m t k;have O:=Ov (gX xs a) k;have M:=ZL (gX xs a) k;have H:=aD (ZM (gX xs a) k);by_cases Y:k<xs.length
  ·have h:k<((acc (gX xs a) k).1++xs.drop k).length:=by rw[bU,O,pI];omega
   have A:=d.cell k h;have S:=d.frozen (f+k);have X:=fun y=>d.set k h y;simp only[SV _ xs k _ O Y] at X
   have p:((acc (gX xs a) k).1++xs.drop k)[k]?.getD 0=xs[k]?.getD 0:=by
    rw[AP al,O,rz,LY,iX]
   rw[p] at A;have l:Hid (acc (gX xs a) (k+1)=((acc (gX xs a) k).1++[((acc (gX xs a) k).2+gX xs a k) % W],((acc (gX xs a) k).2+gX xs a k)/W)):=rfl;have Z:=getD_lt m k;have D:=getD_lt t k;rw[iQ] at Z D;by_cases I:k<a.length
   focus
    have ab:=(P.apart j U).cell k I;have F:Hid (gX xs a k=xs[k]?.getD 0+a[k]?.getD 0):=rfl;generalize (acc (gX xs a) k).2=c at *;generalize (acc (gX xs a) k).1=q at *;generalize gX xs a k=s at *;generalize xs[k]?.getD 0=x at *;generalize a[k]?.getD 0=y at *;have u:=aD X;clear X p h d H;go_wp2;have v:Value.int .u32 (((c:Int)+(x:Int)+(y:Int)) % 4294967296)=.int .u32 (((c+s) % W:Nat):Int):=int_eq (by rw[iQ,F.o];omega);have z:Value.int .u64 (((c:Int)+(x:Int)+(y:Int))/4294967296)=.int .u64 (((c+s)/W:Nat):Int):=int_eq (by rw[iQ,F.o];omega)
   rotate_left
   focus
    (have T:a[k]?.getD 0=0:=by rw[iA al];rfl);by_cases n:(acc (gX xs a) k).2=0
    ·have E:Hid (nw ((acc (gX xs a) k).1++xs.drop k)=nw xs+nw a):=by
      show _=_;have e:=H.o;rw[n,mh,iX,abu,kP (show a.length<=k by omega)] at e;rw[CR,O,e,uR xs k J];omega
     have aa:=A2 M (Mm m k);(have Q:((acc (gX xs a) k).1++xs.drop k).length=xs.length:=by rw[bU,O,pI];omega);rw[n];generalize (acc (gX xs a) k).1++xs.drop k=q at *;clear X A S l p h H;go_wp2;go_ret;exact⟨false,q,rfl,Q,aa,by rw[E.o];rfl,d,j⟩
    focus
     (have F:Hid (gX xs a k=xs[k]?.getD 0):=by show _=_;rw[gX,T,iX]);(have ad:(((acc (gX xs a) k).2:Int)==0)=false:=by rw[Gr];omega);generalize (acc (gX xs a) k).2=c at *;generalize (acc (gX xs a) k).1=q at *;generalize gX xs a k=s at *;generalize xs[k]?.getD 0=x at *;have u:=aD X;clear X p h d H T n;go_wp2;have v:Value.int .u32 (((c:Int)+(x:Int)) % 4294967296)=.int .u32 (((c+s) % W:Nat):Int):=int_eq (by rw[iQ,F.o];omega);have z:Value.int .u64 (((c:Int)+(x:Int))/4294967296)=.int .u64 (((c+s)/W:Nat):Int):=int_eq (by rw[iQ,F.o];omega)
   all_goals
    rw[v,z];have K:=u.o ((c+s) % W);go_roundw
    case rel=>exact⟨k+1,al,b5,by rw[l.o],by rw[l.o];exact K,j.trans (dm.setCell (LQ _ _) al _)⟩
    case measure=>simp[intOf];omega
  ·obtain rfl:k=xs.length:=al
   rw[List.drop_length,kQ] at d
   have E:Hid (nw (acc (gX xs a) xs.length).1+W^xs.length*(acc (gX xs a) xs.length).2=nw xs+nw a):=by
    show _=_;rw[H.o,abu,iY,kP V]
   generalize (acc (gX xs a) xs.length).1=q at *;generalize (acc (gX xs a) xs.length).2=c at *;clear H;rcases (show c=0∨c=1 by omega) with rfl |rfl
   ·go_wp2;go_ret;exact⟨false,q,rfl,O,M,by have:=E.o;simpa using this,d,j⟩
   ·go_wp2;go_ret;exact⟨true,q,rfl,O,M,by have:=E.o;simpa using this,d,j⟩
section
open Go.Shelf
attribute [local go_sem] Oper.semAt_some
theorem A1 (s:ByteArray) (w:World) (hs:s.size<=140737488355328):
  da 198 #[.string s] w fun e w'=>∃g cap,e=.returned (.slice (some ⟨g,0,none⟩) (words (N s)).length cap)/\Has w' w.heap.size (.slice (some ⟨g,0,none⟩) (words (N s)).length cap) (words (N s))/\db w w':=by
 refine(iW (n:=6)).1 ?_;have y:(B (N s)).size<=140737488355328:=aL (jK s) hs;have T:=aid (N s);have z:=dR (N s);generalize hm:N s=m at *;obtain⟨F,A,I,J,L⟩:=eA Tryz.infoU32;refine wh Tryz.func198 rfl trivial ?_ rfl;simp only[Tryz.ntmps198,mj,dV,lD,Nat.reduceAdd,Nat.reduceSub,om,oh,nY,np,fX,fS];have Q:Hid (N s=m):=hm;have R:Hid (N (B m)=m):=z;have U:Hid (upto m (((B m).size+3)/4)=words m):=T;clear hm z T
 gi_wp2_with (first
  |(refine⟨trivial,?_⟩;gi_at_call 244;refine(iW.2 (FQ _ _)).af ?_;rintro e w' ⟨rfl,rfl⟩;rw[Q.o])
  |(refine⟨trivial,?_⟩;gi_at_call 247;refine(iW.2 (agx _ _ y)).af ?_;rintro e w' ⟨rfl,rfl⟩)
  |(gi_at_make;refine wpListIn_make_own _ rfl _ _ 221 rfl w'.heap.size 157 F (.int .u32 0) 1 Tryz.underlying221 A I J .i64 .i64 _ (((B m).size+3)/4) rfl rfl al (by rw[L];omega) (by unfold maxLen;omega) (ah _) ?_;intro a aq u)
  |(refine⟨trivial,?_⟩;gi_at_call 248;refine(apG _ _ _).af ?_;rintro e w2 ⟨rfl,rfl⟩))
 have E:=u.size;have ab:db w' a:=(au _ w').grown u (ah _) (fun k e=>by cases e);have S:=bt a 221 (.slice (some ⟨w'.heap.size,0,none⟩) 0 (((B m).size+3)/4));have q:=bt (a.alloc (.cells #[.slice (some ⟨w'.heap.size,0,none⟩) 0 (((B m).size+3)/4)] 221)) 61 (.string (B m));rw[eH] at q;have aa:db w' ((a.alloc (.cells #[.slice (some ⟨w'.heap.size,0,none⟩) 0 (((B m).size+3)/4)] 221)).alloc (.cells #[.string (B m)] 61)):=(ab.alloc E _).alloc (by simp;omega) _
 refine PE (α:=Nat) rfl al (gf:=278) (lb:= #[.pointer (some ⟨a.heap.size+1,0,none⟩)]) rfl trivial (enters_of Tryz.func278 ao rfl)
  (apF 5 al (a.heap.size+1) (B m) y _ aE q.cell) qg.t (qg.b aE) (au _ _) (fun _=>rfl)
  (fun (p:Ki) V=>((∃v,Boxed V a.heap.size 221 v/\V.ownsRow w'.heap.size 157 1 v p.length (p.map u32)/\v≠.slice none 0 0)/\db w' V)/\Boxed V (a.heap.size+1) 61 (.string (B m)))
  (fun _ _ _=>False)
  (gA (gA (ik (holdsRow_own w'.heap.size a.heap.size 221 157 1 (fun p:Ki=>p.length) (fun p=>p.map u32) (fun _ v=>v≠.slice none 0 0)) _) (Cv (ah _) (by simp;omega))) (ik (j5 _ _ (fun _=>.string (B m))) _))
  (fun _ _ _ _ _ hs _ _=>hs)
  ⟨⟨⟨_,S.alloc _,(aq.alloc _).alloc _,aE⟩,aa⟩,q⟩
  (fun x=> {tmps:= #[.string (B m),undef,.slice none 0 0,.pointer (some ⟨a.heap.size,0,none⟩),.int .u32 (x:Nat),.string s,.string (B m),.string (B m),.int .i64 (((B m).size+3)/4),.slice (some ⟨w'.heap.size,0,none⟩) 0 (((B m).size+3)/4),.string (B m),.func (.func 278) #[] #[.pointer (some ⟨a.heap.size+1,0,none⟩)],.int .u32 (x:Nat),undef,undef,undef,undef,undef],defers:=[]}) ?assign ?body ?done ?stop
 case assign=>
  intro l x V K f;gi_wp2
  exact f
 case body=>
  rintro l p x V ⟨⟨⟨v,j,r,_⟩,d⟩,i⟩ ax;have Y:=j.cell;gi_wp2_with (gi_at_builtin;refine wpListIn_append_own _ rfl _ _ 221 rfl w'.heap.size 157 F (.int .u32 0) 1 4 Tryz.underlying221 A I J L rfl bd _ _ _ rfl (r.alloc _) ⟨V.heap.size,0,none⟩ 1 1 [.int .u32 (x:Nat)] rfl rfl (cell_one_new _ _ _) (by simp[Value.oneCell']) (by unfold maxLen;omega) al (by have:=d.size;simp;omega) ?_;intro v' w3 P O _;obtain⟨g',an,rfl⟩:=ownsRow_succ P;obtain⟨M,ak,aj,ai,ad⟩:=j.appended bd r d.size E P O;have ae:=(i.alloc _).kept O (i.not_row bd r);have av:=M.cell;have Ib:=M.frozen)
  have H:=ae.other (B':=a.heap.size) al (.slice (some ⟨g',0,none⟩) (p.length+1) an);exact⟨ai.from _,H.cell.trans i.cell.symm,⟨⟨_,ak,by simpa [u32] using aj,aE⟩,d.trans ad⟩,H⟩
 case done=>
  rintro D ys V X rfl ⟨⟨⟨v,j,r,Z⟩,d⟩,i⟩ f;have Y:=j.cell;rw[R.o,U.o] at r;gi_wp2
  refine⟨aE,.inl ⟨_,_,rfl,Ct f,?_⟩⟩
  obtain⟨g,cap,rfl⟩:∃g cap,v=.slice (some ⟨g,0,none⟩) (words m).length cap:=by
   rcases r.2 with ⟨e,_⟩ |⟨g,cap,_,e,_⟩
   ·exact absurd e Z
   ·exact⟨g,cap,e⟩
  refine⟨_,Cu rfl _ _ _,g,cap,rfl,?_,d.trans (xH (w:=w') (ah _) V D _ _ (by simp at X;omega) f rfl rfl)⟩;exact ownsRow_putObj r _ f rfl
 case stop=>
  rintro D c p V _ _ h _;exact h.elim
end
theorem MJ (n:Nat):(madeCells (Value.int .u32 0).cells (n*1)).toList=(List.replicate n 0).map u32:=by
 rw[show (Value.int .u32 0).cells= #[Value.int .u32 0] from rfl,LC,qA,P6];rfl
theorem Ri {l:Ki} (h:w.heap[g]? =some (.cells (l.map u32).toArray 157 (0,0))):bE w g 0 l:=
 ⟨_,h,aE,fun j a=>by simp[aV a]⟩
theorem abG (l:Ki):splice ((List.replicate (l.length+1) 0).map u32) 0 (l.map u32)=(l++[0]).map u32:=by
 rw[abE,splice,PZ,fX,bH,List.drop_replicate];simp
theorem agM {l:Ki} (h:bE w g 0 l):∀j v,(l.map u32)[j]? =some v ->w.cell? ((⟨g,0,none⟩:Addr).add j)=some v:=by
 intro j v a
 have q:j<l.length:=by
  rcases dG j l.length with h |h
  ·exact h
  ·rw[iA (by simpa using h)] at a;cases a
 rw[Lib.add_plain,h.cell j q];rw[kq,aV q] at a;rw[aV q];exact a
theorem ado (l:Ki):∀v∈l.map u32,v.oneCell'=true:=by
 intro v h;obtain⟨x,_,rfl⟩:=aH.1 h;rfl
theorem abm {xs s:Ki} (x:Small xs) (y:Small s) (h:s.length<=xs.length):nw xs+nw s<W^(xs.length+1):=by
 have a:=xU xs x;have b:=xU s y;have c:W^s.length<=W^xs.length:=kN mO h;have d:W^(xs.length+1)=W^xs.length*W:=jw ..;have e:W^xs.length*2<=W^xs.length*W:=mi _ bd;omega
theorem ak0 (i P y I:Nat) (xs s:Ki) (w:World) (m:Small xs) (T:Small s) (av:xs.length<=17592186044416) (V:s.length<=xs.length) (h:bE w i 0 xs) (j:bE w y 0 s):
  da 197 #[.slice (some ⟨i,0,none⟩) xs.length P,.slice (some ⟨y,0,none⟩) s.length I] w fun e w'=>∃v l,e=.returned v/\Has w' w.heap.size v l/\Small l/\l.length=xs.length+1/\nw l=nw xs+nw s/\db w w':=by
 obtain⟨M,L,aj,ak,an⟩:=eA Tryz.infoU32;have aq:¬xs.length<s.length:=al
 have ab:=h.lt;have Y:=j.lt;go_enter Tryz.func197,Tryz.ntmps197
 go_wp2_with (first
  |(at_make;refine qp _ rfl _ _ 221 rfl w.heap.size 157 M (.int .u32 0) 1 Tryz.underlying221 L aj ak .i64 .i64 _ _ (xs.length+1) rfl rfl al al (by rw[an];omega) (by unfold maxLen;omega) (ah _) ?_;intro R u z;have b:=rY u;rw[MJ] at b;have D:=aD b;have p:db w R:=(au _ w).grown z (ah _) (fun k e=>by cases e);have ai:=h.aa p ab;clear u z b)
  |(refine wpList_copy_splice rfl (.tmp 17) (.tmp 18) 221 221 rfl 157 Tryz.underlying221 ao _ _ _ _ _ _ rfl rfl w.heap.size 0 ((List.replicate (xs.length+1) 0).map u32) 157 (by exact D.o) (xs.map u32) (by rw[cH];exact(wm (Nat.le_succ _)).symm) (fun _=>⟨rfl,_,rfl,agM ai⟩) aE (ado xs) w.heap.size w p (ah _) ?_;intro U g S))
 rw[abG] at g;have ad:=Ri g.o;have K:=j.aa S Y;have E:(xs++[0]).length=xs.length+1:=aE
 have ae:Small (xs++[0]):=A2 m (fun x h=>by simp at h;subst h;exact mO);have r:=Vw w.heap.size 0 (xs.length+1) y 0 I (xs++[0]) s U ae T al al ad K al;rw[E,EK,mh,iX] at r;refine r.af ?_;rintro e X ⟨c,n,rfl,d,O,F,f,a⟩;have J:db w X:=dm.aa S a (ah _) S.size;obtain⟨Z,q,t,_⟩:=a.inside _ g.o;have Q:=MD (base:=w.heap.size) (cap:=xs.length+1) Z q (by rw[t];simp) (ah _) (by unfold maxLen;omega) al f
 have A:Hid (nw n=nw xs+nw s):=by
  show _=_;cases c with
  |false=>simpa using F
  |true=>
   have hf:=abm m T V;simp only[if_true] at F;omega
 have H:=aD d;rw[d] at Q;clear F d q t r g f a;go_wp2;go_ret;exact⟨_,n,rfl,by rw[Has,H.o];exact Q,O,H.o,A.o,J⟩
theorem akZ (i P y I:Nat) (xs s:Ki) (w:World) (m:Small xs) (T:Small s) (av:xs.length<=17592186044416) (aq:s.length<xs.length) (h:bE w i 0 xs) (j:bE w y 0 s):
  da 197 #[.slice (some ⟨y,0,none⟩) s.length I,.slice (some ⟨i,0,none⟩) xs.length P] w fun e w'=>∃v l,e=.returned v/\Has w' w.heap.size v l/\Small l/\l.length=xs.length+1/\nw l=nw xs+nw s/\db w w':=by
 obtain⟨M,L,aj,ak,an⟩:=eA Tryz.infoU32;have V:s.length<=xs.length:=al
 have ab:=h.lt;have Y:=j.lt;go_enter Tryz.func197,Tryz.ntmps197
 go_wp2_with (first
  |(at_make;refine qp _ rfl _ _ 221 rfl w.heap.size 157 M (.int .u32 0) 1 Tryz.underlying221 L aj ak .i64 .i64 _ _ (xs.length+1) rfl rfl al al (by rw[an];omega) (by unfold maxLen;omega) (ah _) ?_;intro R u z;have b:=rY u;rw[MJ] at b;have D:=aD b;have p:db w R:=(au _ w).grown z (ah _) (fun k e=>by cases e);have ai:=h.aa p ab;clear u z b)
  |(refine wpList_copy_splice rfl (.tmp 17) (.tmp 18) 221 221 rfl 157 Tryz.underlying221 ao _ _ _ _ _ _ rfl rfl w.heap.size 0 ((List.replicate (xs.length+1) 0).map u32) 157 (by exact D.o) (xs.map u32) (by rw[cH];exact(wm (Nat.le_succ _)).symm) (fun _=>⟨rfl,_,rfl,agM ai⟩) aE (ado xs) w.heap.size w p (ah _) ?_;intro U g S))
 rw[abG] at g;have ad:=Ri g.o;have K:=j.aa S Y;have E:(xs++[0]).length=xs.length+1:=aE
 have ae:Small (xs++[0]):=A2 m (fun x h=>by simp at h;subst h;exact mO);have r:=Vw w.heap.size 0 (xs.length+1) y 0 I (xs++[0]) s U ae T al al ad K al;rw[E,EK,mh,iX] at r;refine r.af ?_;rintro e X ⟨c,n,rfl,d,O,F,f,a⟩;have J:db w X:=dm.aa S a (ah _) S.size;obtain⟨Z,q,t,_⟩:=a.inside _ g.o;have Q:=MD (base:=w.heap.size) (cap:=xs.length+1) Z q (by rw[t];simp) (ah _) (by unfold maxLen;omega) al f
 have A:Hid (nw n=nw xs+nw s):=by
  show _=_;cases c with
  |false=>simpa using F
  |true=>
   have hf:=abm m T V;simp only[if_true] at F;omega
 have H:=aD d;rw[d] at Q;clear F d q t r g f a;go_wp2;go_ret;exact⟨_,n,rfl,by rw[Has,H.o];exact Q,O,H.o,A.o,J⟩
theorem ak1 (g S y j:Nat) (xs s:Ki) (w:World) (o:Small xs) (T:Small s) (k:xs.length<=17592186044416) (m:s.length<=17592186044416) (x:bE w g 0 xs) (f:bE w y 0 s):
  da 197 #[.slice (some ⟨g,0,none⟩) xs.length S,.slice (some ⟨y,0,none⟩) s.length j] w fun e w'=>∃v l,e=.returned v/\Has w' w.heap.size v l/\Small l/\l.length<=17592186044417/\nw l=nw xs+nw s/\db w w':=by
 by_cases h:s.length<=xs.length
 ·refine(ak0 g S y j xs s w o T k h x f).af ?_;rintro e w' ⟨v,l,rfl,a,b,i,d,c⟩;exact⟨v,l,rfl,a,b,al,d,c⟩
 ·refine(akZ y j g S s xs w T o m al f x).af ?_;rintro e w' ⟨v,l,rfl,a,b,i,d,c⟩;exact⟨v,l,rfl,a,b,al,al,c⟩
theorem zO {base:Nat} {l:Ki} (h:Has w base (.slice (some ⟨g,0,none⟩) n cap) l) (b:db w w'):bE w' g 0 l:=by
 rcases h.cases with ⟨e,_⟩ |⟨g',c,e,_,_,a⟩
 ·cases e
 ·cases e;exact a.aa b a.lt
theorem AX (s:ByteArray) (k:Nat) (h:s.size<=4*k):(words (N s)).length<=k:=by
 rw[Qm, <- mY];have:=jK s;omega
theorem asZ (a b:ByteArray) (w:World) (A:a.size<=1099511627776) (D:b.size<=1099511627776):
  da 141 #[.string a,.string b] w (du w (.string (B (N a+N b)))):=by
 have E:=AX a 274877906944 al;have F:=AX b 274877906944 al;go_enter Tryz.func141,Tryz.ntmps141;go_wp2_with fail
 refine(A1 a _ al).af ?_;rintro e I ⟨k,i,rfl,n,d⟩;go_wp2_with fail
 refine(A1 b _ al).af ?_;rintro e s ⟨m,j,rfl,p,f⟩;have r:=zO n f;have y:=zO p (au _ _);have h:db w s:=d.trans (f.af d.size);go_wp2_with fail
 refine(ak1 k i m j _ _ _ (ou _) (ou _) al al r y).af ?_;rintro e t ⟨v,l,rfl,q,z,K,g,u⟩;have c:db w t:=h.trans (u.af h.size);have H:=aD g;clear g;go_wp2_with fail
 refine(SA _ _ _ _ z al q).af ?_;rintro e J ⟨rfl,x⟩;go_wp2;go_ret;exact⟨by rw[H.o,lJ,lJ];rfl,c.trans (x.af c.size)⟩
theorem toList_data (s:ByteArray):s.toList=s.data.toList:=by
 obtain⟨⟨l⟩⟩:=s;simp
theorem akb {a b:Bool} (h:a=b):Ending.returned (.bool a)=.returned (.bool b):=by rw[h]
def jW (m n:Nat):Int:=if m<n then -1 else if m=n then 0 else 1
theorem aeg:∀(l m:List UInt8),l.length=m.length ->Op.bytesLess l m=decide (nb l<nb m)
 |[],[],_=>rfl
 |x::l,y::m,h=>by
  have b:l.length=m.length:=by simpa using h
  have i:=aeg l m b;have f:=wI l;have c:=wI m;rw[Hc,Hc, <- b];rw[<- b] at c;rw[Op.bytesLess];rcases PU x.toNat y.toNat with e |e |e
  ·have w:(decide (x<y))=true:=by simpa [UInt8.lt_iff_toNat_lt] using e
   have:(x.toNat+1)*256^l.length<=y.toNat*256^l.length:=lB _ e;rw[il] at this;rw[w,Bool.true_or];symm;rw[Ue];omega
  ·have w:x=y:=PO.1 e;subst w;(have a:(decide (x<x))=false:=aE);rw[a,Bool.false_or,beq_self_eq_true,GI,i];congr 1
   apply propext;omega
  ·have a:(decide (x<y))=false:=by simp[UInt8.lt_iff_toNat_lt];omega
   (have d:(x==y)=false:=by rw[Gr];rintro rfl;omega);have:(y.toNat+1)*256^l.length<=x.toNat*256^l.length:=lB _ e;rw[il] at this;rw[a,d,Bool.false_or,Bool.false_and];symm;rw[PN];omega
theorem adP:∀(l m:List UInt8),l.length=m.length ->nb l=nb m ->l=m
 |[],[],_,_=>rfl
 |x::l,y::m,h,e=>by
  have a:l.length=m.length:=by simpa using h
  have f:=wI l;have d:=wI m;rw[Hc,Hc, <- a] at e;rw[<- a] at d;have p:0<256^l.length:=wk bd
  have b:x.toNat=y.toNat:=by
   rcases PU x.toNat y.toNat with c |c |c
   ·have:(x.toNat+1)*256^l.length<=y.toNat*256^l.length:=lB _ c;rw[il] at this;omega
   ·exact c
   ·have:(y.toNat+1)*256^l.length<=x.toNat*256^l.length:=lB _ c;rw[il] at this;omega
  rw[b] at e;rw[PO.1 b,adP l m a al]
theorem asW (a b:ByteArray) (w:World) (h:a.size=b.size):
  da 262 #[.string a,.string b] w fun e w'=>e=.returned (.int .i64 (jW (N a) (N b)))/\w'=w:=by
 have l:=aeg a.data.toList b.data.toList (by rw[GL,GL];exact h);rcases PU (N a) (N b) with c |c |c
 ·have L:Op.bytesLess a.toList b.toList=true:=by rw[toList_data,toList_data,l];simpa [N] using c
  have H:Hid (jW (N a) (N b)= -1):=by show _=_;rw[jW,aw c]
  clear l c;go_enter Tryz.func262,Tryz.ntmps262;go_wp2;go_ret;exact⟨CL H.o.symm,rfl⟩
 ·have L:Op.bytesLess a.toList b.toList=false:=by rw[toList_data,toList_data,l];simp only[N] at c;rw[PN];omega
  have E:(a.toList==b.toList)=true:=by
   rw[toList_data,toList_data,adP a.data.toList b.data.toList (by rw[GL,GL];exact h) c];simp
  have H:Hid (jW (N a) (N b)=0):=by show _=_;rw[jW,aA al,aw c]
  clear l c;go_enter Tryz.func262,Tryz.ntmps262;go_wp2;go_ret;exact⟨CL H.o.symm,rfl⟩
 ·have L:Op.bytesLess a.toList b.toList=false:=by rw[toList_data,toList_data,l];simp only[N] at c;rw[PN];omega
  have E:(a.toList==b.toList)=false:=by
   rw[toList_data,toList_data,Gr];intro e;rw[N,N,e] at c;omega
  have H:Hid (jW (N a) (N b)=1):=by show _=_;rw[jW,aA al,aA al]
  clear l c;go_enter Tryz.func262,Tryz.ntmps262;go_wp2;go_ret;exact⟨CL H.o.symm,rfl⟩
theorem aau (a b:ByteArray) (w:World):
  da 211 #[.string a,.string b] w fun e w'=>e=.returned (.int .i64 (jW (N a) (N b)))/\w'=w:=by
 by_cases h:(B (N a)).size=(B (N b)).size
 ·have f:=fun V=>asW (B (N a)) (B (N b)) V h;simp only[dR] at f;have H:=aD f;have n:(((B (N a)).size:Int) !=((B (N b)).size:Int))=false:=by rw[h];simp
  clear f h;go_enter Tryz.func211,Tryz.ntmps211;go_wp2_with fail
  refine(FQ _ _).af ?_;rintro e g ⟨rfl,d⟩;subst d;go_wp2_with fail
  refine(FQ _ _).af ?_;rintro e i ⟨rfl,d⟩;subst d;go_wp2_with fail
  refine(H.o _).af ?_;rintro e j ⟨rfl,d⟩;subst d;go_wp2;go_ret;exact⟨rfl,rfl⟩
 ·have n:(((B (N a)).size:Int) !=((B (N b)).size:Int))=true:=by rw[bne_iff_ne];omega
  have R:Hid (Lib.compareInt (((B (N a)).size:Nat):Int) (((B (N b)).size:Nat):Int)=jW (N a) (N b)):=by
   show _=_;rw[mY,mY] at h⊢;unfold Lib.compareInt jW;rcases dG (N a) (N b) with c |c
   ·have:=Zy (AH c);rw[aw al,aw c]
   ·have:=Zy c;rw[aA al,aw al,aA al,aA (by intro e;rw[e] at h;exact h rfl)]
  clear h;go_enter Tryz.func211,Tryz.ntmps211;go_wp2_with fail
  refine(FQ _ _).af ?_;rintro e g ⟨rfl,d⟩;subst d;go_wp2_with fail
  refine(FQ _ _).af ?_;rintro e i ⟨rfl,d⟩;subst d;go_wp2_with fail
  refine(Tryz.cmp_Compare_int _ _ _).af ?_;rintro e j ⟨rfl,d⟩;subst d;go_wp2;go_ret;exact⟨CL R.o,rfl⟩
def dE (xs ys:Ki) (f:Nat):Nat ->Ki×Nat×Nat
 |0=>([],0,0)
 |k+1=>((dE xs ys f k).1++[(xs[k]?.getD 0+2*W - ((dE xs ys f k).2.1+ys[k]?.getD 0*f) % W - (dE xs ys f k).2.2) % W],
   ((dE xs ys f k).2.1+ys[k]?.getD 0*f)/W,if xs[k]?.getD 0<((dE xs ys f k).2.1+ys[k]?.getD 0*f) % W+(dE xs ys f k).2.2 then 1 else 0)
theorem abZ (xs s:Ki) (f k:Nat):(dE xs s f k).1.length=k:=by
 induction k with
 |zero=>rfl
 |succ k ih=>simp[dE,ih]
theorem ajI (xs s:Ki) (f k:Nat):Small (dE xs s f k).1:=by
 induction k with
 |zero=>intro x h;simp[dE] at h
 |succ k ih=>
  intro x h;rw[dE] at h;rcases aZ.1 h with h |h
  ·exact ih x h
  ·simp only[dS] at h;subst h;exact ji _ mO
theorem ab0 (xs s:Ki) (f k:Nat):(dE xs s f k).2.2<=1:=by
 cases k with
 |zero=>exact aU _
 |succ k=>
  rw[dE];show (if _ then 1 else 0)<=1;split<;>omega
theorem ajK (xs s:Ki) (f:Nat) (h:Small s) (d:f<W) (k:Nat):(dE xs s f k).2.1<W:=by
 induction k with
 |zero=>exact mO
 |succ k ih=>
  rw[dE];refine Jo ?_;have a:=getD_lt h k;have b:s[k]?.getD 0*f<=(W - 1)*(W - 1):=kp al al;have c:(W - 1)*(W - 1)+W<=W*W:=bd
  omega
theorem ajH (x c t b:Nat) (d:x<W) (a:b<=1):
  (x+2*W - (c+t) % W - b) % W+t+b+c=x+W*((c+t)/W+if x<(c+t) % W+b then 1 else 0):=by
 have e:=Nat.mod_add_div (c+t) W;have l:=ji (c+t) mO;generalize (c+t) % W=lo at *;generalize (c+t)/W=q at *;rw[nX];by_cases h:x<lo+b
 ·rw[aw h]
  have:(x+2*W - lo - b) % W=x+W - lo - b:=by
   rw[show x+2*W - lo - b=(x+W - lo - b)+W by omega,Nat.add_mod_right];exact j6 al
  omega
 ·rw[aA h]
  have:(x+2*W - lo - b) % W=x - lo - b:=by
   rw[show x+2*W - lo - b=(x - lo - b)+W+W by omega,Nat.add_mod_right,Nat.add_mod_right];exact j6 al
  omega
theorem ajJ (xs s:Ki) (f:Nat) (x:Small xs) (k:Nat):
  nw (dE xs s f k).1+f*nw (s.take k)=nw (xs.take k)+W^k*((dE xs s f k).2.1+(dE xs s f k).2.2):=by
 rw[<- J5 xs k, <- J5 s k];induction k with
 |zero=>simp[dE,jR,oH]
 |succ k ih=>
  have h:=ab0 xs s f k;have a:=ajH (xs[k]?.getD 0) (dE xs s f k).2.1 (s[k]?.getD 0*f) (dE xs s f k).2.2 (getD_lt x k) h
  have e:f*(jR (fun j=>s[j]?.getD 0) k+W^k*s[k]?.getD 0)=f*jR (fun j=>s[j]?.getD 0) k+W^k*(s[k]?.getD 0*f):=by
   rw[nX,Cy,eB f (s[k]?.getD 0)]
  rw[dE,jR,jR,EK,abZ,e];show _=_+W^(k+1)*(_+if _ then 1 else 0);rw[jw,jh];generalize (xs[k]?.getD 0+2*W - ((dE xs s f k).2.1+s[k]?.getD 0*f) % W - (dE xs s f k).2.2) % W=d at *;generalize (((dE xs s f k).2.1+s[k]?.getD 0*f)/W+if xs[k]?.getD 0<((dE xs s f k).2.1+s[k]?.getD 0*f) % W+(dE xs s f k).2.2 then 1 else 0)=z at *;generalize (dE xs s f k).2.1=c at *;generalize (dE xs s f k).2.2=b at *;generalize s[k]?.getD 0*f=t at *;have:=ed (W^k*·) a;simp only[nX] at this ih⊢;omega
theorem ZI (t:Nat) (h:t<18446744073709551616):bits .and .u64 (t:Int) 4294967295=((t % 4294967296:Nat):Int):=by
 have e:(4294967295:Int)=((4294967295:Nat):Int):=rfl;rw[e,u64_and_nat t 4294967295 h al];congr 1
 exact Nat.and_two_pow_sub_one_eq_mod t 32
theorem U5 (x lo b:Nat) (c:x<4294967296) (l:lo<4294967296) (a:b<=1):
  IntKind.u64.wrap (IntKind.u64.wrap ((x:Int) - (lo:Int)) - (b:Int))/9223372036854775808=((if x<lo+b then 1 else 0:Nat):Int)/\
  IntKind.u64.wrap (IntKind.u64.wrap ((x:Int) - (lo:Int)) - (b:Int)) % 4294967296=(((x+2*W - lo - b) % W:Nat):Int):=by
 rw[Qc,Qc,iQ];by_cases h:x<lo+b
 ·rw[aw h];have e:(((x:Int) - (lo:Int)) % 18446744073709551616 - (b:Int)) % 18446744073709551616=(x:Int) - (lo:Int) - (b:Int)+18446744073709551616:=al
  rw[e];omega
 ·rw[aA h];have e:(((x:Int) - (lo:Int)) % 18446744073709551616 - (b:Int)) % 18446744073709551616=(x:Int) - (lo:Int) - (b:Int):=al
  rw[e];omega
theorem abb (g l cap b R jI:Nat) (xs a:Ki) (f:Nat) (w:World) (I:Small xs) (S:Small a) (F:f<W) (ax:xs.length<=35184372088832) (CV:a.length<=xs.length) (hx:bE w g l xs) (hy:bE w b R a) (aj:b≠g):
  da 260 #[.slice (some ⟨g,l,none⟩) xs.length cap,.slice (some ⟨b,R,none⟩) a.length jI,.int .u32 (f:Nat)] w fun e w'=>∃(s:Nat) (l':Ki),e=.returned (.bool (decide (s≠0)))/\l'.length=xs.length/\Small l'/\nw l'+f*nw a=nw xs+W^xs.length*s/\bE w' g l l'/\dm g l xs.length w w':=by
 have av:f<4294967296:=F;go_enter Tryz.func260,Tryz.ntmps260;go_wp2
 go_loopw [7,8,13] (fun c bo i wr=>∃k:Nat,k<=xs.length/\i=.int .i64 k/\c=.int .u64 ((dE xs a f k).2.1:Nat)/\bo=.int .u64 ((dE xs a f k).2.2:Nat)/\bE wr g l ((dE xs a f k).1++xs.drop k)/\dm g l xs.length w wr)
  (fun _ _ i _=>xs.length - (intOf i).toNat)
 case atStart=>exact⟨0,aU _,rfl,rfl,rfl,by simpa [dE] using hx,dm.refl _ _ _ _⟩
 case round=>
  obtain⟨k,hk,rfl,rfl,rfl,d,j⟩:=hrel;have z:=ajK xs a f S F k;have U:=ab0 xs a f k;have O:=abZ xs a f k;have M:=ajI xs a f k;have H:=aD (ajJ xs a f I k);rw[iQ] at z;by_cases ak:k<xs.length
  ·have n:k<((dE xs a f k).1++xs.drop k).length:=by rw[bU,O,pI];omega
   have ab:=d.cell k n;have ai:=d.frozen (l+k);have X:=fun y=>d.set k n y;simp only[SV _ xs k _ O ak] at X
   have u:((dE xs a f k).1++xs.drop k)[k]?.getD 0=xs[k]?.getD 0:=by
    rw[AP al,O,rz,LY,iX]
   rw[u] at ab
   have r:Hid (dE xs a f (k+1)=((dE xs a f k).1++[(xs[k]?.getD 0+2*W - ((dE xs a f k).2.1+a[k]?.getD 0*f) % W - (dE xs a f k).2.2) % W],
    ((dE xs a f k).2.1+a[k]?.getD 0*f)/W,if xs[k]?.getD 0<((dE xs a f k).2.1+a[k]?.getD 0*f) % W+(dE xs a f k).2.2 then 1 else 0)):=rfl
   have Z:=getD_lt I k;have Q:=getD_lt S k;have A:a[k]?.getD 0*f<=4294967295*4294967295:=kp (by rw[iQ] at Q;omega) (by rw[iQ] at F;omega);rw[iQ] at Z Q;by_cases XI:k<a.length
   ·have aq:=(hy.apart j aj).cell k XI;generalize (dE xs a f k).2.1=c at *;generalize (dE xs a f k).2.2=bo at *;generalize (dE xs a f k).1=q at *;generalize xs[k]?.getD 0=x at *;generalize a[k]?.getD 0=y at *;(have C6:(y:Int)*(f:Int)<=18446744065119617025:=by rw[<- mo];omega);(have E5:0<=(y:Int)*(f:Int):=by rw[<- mo];omega);obtain⟨lo,L⟩:∃lo,lo=(c+y*f) % 4294967296:=⟨_,rfl⟩
    have ao:bits .and .u64 ((c:Int)+(y:Int)*(f:Int)) 4294967295=(lo:Int):=by
     have:=ZI (c+y*f) al;rw[<- L] at this;rw[<- this,Es,mo]
    (have ad:lo<4294967296:=al);have Lp:=aD L;have t:=aD X;clear X u n d H L A;go_wp2;obtain⟨v,p⟩:=U5 x lo bo Z ad U;rw[v,p];have P:Value.int .u64 (((c:Int)+(y:Int)*(f:Int))/4294967296)=.int .u64 (((c+y*f)/W:Nat):Int):=int_eq (by rw[iQ,AR,Es,mo];rfl);rw[P];have m:=t.o ((x+2*W - lo - bo) % W);have jJ:Hid ((c+y*f) % W=lo):=Lp.o.symm;have h:=r.o;rw[jJ.o] at h;go_roundw
    case rel=>exact⟨k+1,al,b5,by rw[h],by rw[h],by rw[h];exact m,j.trans (dm.setCell (LQ _ _) al _)⟩
    case measure=>simp[intOf];omega
   ·have T:a[k]?.getD 0=0:=by rw[iA al];rfl
    by_cases J:(dE xs a f k).2.1=0/\(dE xs a f k).2.2=0
    ·obtain⟨V,Y⟩:=J
     have E:Hid (nw ((dE xs a f k).1++xs.drop k)+f*nw a=nw xs):=by
      show _=_;have e:=H.o;rw[V,Y,mh,iX,kP (show a.length<=k by omega)] at e;have e2:=uR xs k hk;rw[CR,O];omega
     have an:=A2 M (Mm I k);(have dQ:((dE xs a f k).1++xs.drop k).length=xs.length:=by rw[bU,O,pI];omega);rw[V,Y];generalize (dE xs a f k).1++xs.drop k=q at *;clear X ab ai r u n H A;go_wp2;go_ret;exact⟨0,q,rfl,dQ,an,by rw[E.o,mh,iX],d,j⟩
    ·have h:=r.o;simp only[T,nW,iX] at h;generalize (dE xs a f k).2.1=c at *;generalize (dE xs a f k).2.2=bo at *;generalize (dE xs a f k).1=q at *;generalize xs[k]?.getD 0=x at *;have aa:c % W=c:=j6 z;simp only[aa] at h
     have ao:bits .and .u64 (c:Int) 4294967295=(c:Int):=by
      have:=ZI c al;rwa [j6 z] at this
     have K:=aD h;have t:=aD X;clear X u n d H T A r h aa;by_cases D:c=0
     ·subst D;(have ae:bo=1:=al);subst ae;clear J;go_wp2;obtain⟨v,p⟩:=U5 x 0 1 Z al al;have hz:bits .and .u64 0 4294967295=((0:Nat):Int):=ZI 0 al;rw[hz,show IntKind.u64.wrap (IntKind.u64.wrap ((x:Int) - ((0:Nat):Int)) - 1)=IntKind.u64.wrap (IntKind.u64.wrap ((x:Int) - ((0:Nat):Int)) - ((1:Nat):Int)) from rfl,v,p];have m:=t.o ((x+2*W - 0 - 1) % W);go_roundw
      case rel=>exact⟨k+1,al,b5,by rw[K.o];rfl,by rw[K.o],by rw[K.o];exact m,j.trans (dm.setCell (LQ _ _) al _)⟩
      case measure=>simp[intOf];omega
     ·have af:((c:Int)==0)=false:=by rw[Gr];omega
      clear J;go_wp2;obtain⟨v,p⟩:=U5 x c bo Z z U;rw[v,p];have P:Value.int .u64 ((c:Int)/4294967296)=.int .u64 ((c/W:Nat):Int):=int_eq (by rw[iQ];omega);have m:=t.o ((x+2*W - c - bo) % W);rw[P];go_roundw
      case rel=>exact⟨k+1,al,b5,by rw[K.o],by rw[K.o],by rw[K.o];exact m,j.trans (dm.setCell (LQ _ _) al _)⟩
      case measure=>simp[intOf];omega
  ·obtain rfl:k=xs.length:=al
   rw[List.drop_length,kQ] at d
   have E:Hid (nw (dE xs a f xs.length).1+f*nw a=nw xs+W^xs.length*((dE xs a f xs.length).2.1+(dE xs a f xs.length).2.2)):=by
    show _=_;have e:=H.o;rwa [iY,kP CV] at e
   generalize (dE xs a f xs.length).1=q at *;generalize (dE xs a f xs.length).2.1=c at *;generalize (dE xs a f xs.length).2.2=bo at *;clear H;by_cases D:c=0
   ·subst D;rcases (show bo=0∨bo=1 by omega) with rfl |rfl
    ·go_wp2;go_ret;exact⟨0,q,rfl,O,M,E.o,d,j⟩
    ·go_wp2;go_ret;exact⟨1,q,rfl,O,M,E.o,d,j⟩
   ·have af:((c:Int) !=0)=true:=by rw[bne_iff_ne];omega
    go_wp2;go_ret;exact⟨c+bo,q,akb (by symm;rw[Ue];omega),O,M,E.o,d,j⟩
theorem ahY (h:m<=n):(words m).length<=(words n).length:=by
 rw[Qm,Qm];have:=Zy h;omega
theorem asc (a b:ByteArray) (w:World) (h:N a<N b):
  da 210 #[.string a,.string b] w (du w (.tuple #[.string ⟨#[]⟩,.bool false])):=by
 have d:jW (N a) (N b)= -1:=by rw[jW,aw h]
 have c:=fun V=>aau a b V;simp only[d] at c;have H:=aD c;clear c d;go_enter Tryz.func210,Tryz.ntmps210;go_wp2_with fail
 refine(H.o _).af ?_;rintro e g ⟨rfl,f⟩;subst f;go_wp2;go_ret2;exact⟨rfl,au _ _⟩
theorem asa (a b:ByteArray) (w:World) (U:a.size<=1099511627776) (X:b.size<=1099511627776) (h:N b<=N a):
  da 210 #[.string a,.string b] w (du w (.tuple #[.string (B (N a - N b)),.bool true])):=by
 have Y:0<=jW (N a) (N b):=by
  rw[jW,aA al];split<;>omega
 have p:=fun V=>aau a b V;generalize jW (N a) (N b)=T at *;have H:=aD p;clear p;have Z:=AX a 274877906944 al;have kd:=AX b 274877906944 al;go_enter Tryz.func210,Tryz.ntmps210;go_wp2_with fail
 refine(H.o _).af ?_;rintro e w0 ⟨rfl,J⟩;subst J;go_wp2_with fail
 refine(A1 a _ al).af ?_;rintro e r ⟨g,E,rfl,c,x⟩;go_wp2_with fail
 refine(A1 b _ al).af ?_;rintro e L ⟨m,F,rfl,f,i⟩;have q:=zO c i;have y:=zO f (au _ _);have v:=c.aa i (ah _);have ab:g<r.heap.size:=(zO c (au _ _)).lt
 have ad:r.heap.size<=m:=by
  rcases f.cases with ⟨e,_⟩ |⟨g',R,e,_,j,_⟩
  ·cases e
  ·cases e;exact j
 have P:w0.heap.size<=g:=by
  rcases c.cases with ⟨e,_⟩ |⟨g',R,e,_,j,_⟩
  ·cases e
  ·cases e;exact j
 have t:db w0 L:=x.trans (i.af x.size);go_wp2_with fail
 refine(abb g 0 E m 0 F _ _ 1 _ (ou _) (ou _) bd al (ahY h) q y al).af ?_;rintro e M ⟨s,l,rfl,d,A,n,k,u⟩
 have z:s=0:=by
  have Q:=xU l A;rw[d] at Q;rw[lJ,lJ] at n;rcases yP s with e |e
  ·exact e
  ·have:W^(words (N a)).length*1<=W^(words (N a)).length*s:=mi _ e;omega
 have D:Hid (nw l=N a - N b):=by
  show _=_;rw[lJ,lJ,z] at n;omega
 have I:=v.upd u k d;have S:db w0 M:=dm.aa t u P t.size;have K:=aD d;clear n d q y v k u c f z;go_wp2_with fail
 refine(SA _ _ _ _ A (by rw[K.o];omega) I).af ?_;rintro e w4 ⟨rfl,O⟩;go_wp2;go_ret2;exact⟨by rw[D.o];rfl,S.trans (O.af S.size)⟩
def jl (x:Nat) (ys p:Ki) (i j:Nat):Nat:=x*ys[j]?.getD 0+p[i+j]?.getD 0
theorem ab5 (x:Nat) (s p:Ki) (i:Nat) (f:x<W) (y:Small s) (a:Small p) (k:Nat):(acc (jl x s p i) k).2<W:=by
 have h:=ZN (jl x s p i) (W - 1) k fun j _=>by
  have b:=getD_lt y j;have c:=getD_lt a (i+j);have d:x*s[j]?.getD 0<=(W - 1)*(W - 1):=kp al al;have e:(W - 1)*(W - 1)+W+W<=W*W+1:=bd
  unfold jl;rw[Ug mO];omega
 have:=mO;omega
theorem aj0 (x:Nat) (s p:Ki) (i:Nat):jR (jl x s p i) s.length=x*nw s+nw ((p.drop i).take s.length):=by
 rw[show jl x s p i=fun j=>(fun j=>x*(fun j=>s[j]?.getD 0) j) j+(fun j=>p[i+j]?.getD 0) j from rfl,adv,adt,adu s _ (ah _)];congr 1
 rw[<- J5];exact al6 fun j _=>by rw[LY]
def Bg (x:Nat) (ys p:Ki) (i:Nat):Ki:=p.take i++((acc (jl x ys p i) ys.length).1++[(acc (jl x ys p i) ys.length).2])++p.drop (i+(ys.length+1))
theorem ads (p:Ki) (k:Nat) (h:∀j,k<=j ->p[j]?.getD 0=0):nw (p.drop k)=0:=by
 have:p.drop k=List.replicate (p.drop k).length 0:=by
  apply pJ
  ·simp
  ·intro j a b;have:=h (k+j) al;rw[pI] at a;rw[aV al] at this;simpa using this
 rw[this,VX]
theorem amI (x:Nat) (s p:Ki) (i:Nat) (m:x<W) (y:Small s) (h:Small p) (n:i+s.length<p.length) (a:∀j,i+s.length<=j ->p[j]?.getD 0=0):
  (Bg x s p i).length=p.length/\Small (Bg x s p i)/\nw (Bg x s p i)=nw p+W^i*(x*nw s)/\∀j,i+1+s.length<=j ->(Bg x s p i)[j]?.getD 0=0:=by
 have l:=Ov (jl x s p i) s.length;have c:(p.take i).length=i:=by rw[eW];omega
 have S:(p.take i++((acc (jl x s p i) s.length).1++[(acc (jl x s p i) s.length).2])).length=i+(s.length+1):=by
  rw[bU,bU,c,l];rfl
 refine⟨?_,?_,?_,?_⟩
 ·rw[Bg,bU,S,pI];omega
 ·refine A2 (A2 (JI h i) (A2 (ZL _ _) ?_)) (Mm h _);intro z d;simp only[dS] at d;subst d;exact ab5 x s p i m y h _
 ·have e:=ZM (jl x s p i) s.length;rw[aj0] at e;have f:=uR p i al;have b:=uR (p.drop i) s.length (by rw[pI];omega);rw[List.drop_drop,ads p (i+s.length) a,mh,iX] at b;have g:=ads p (i+(s.length+1)) (fun j k=>a j al);rw[Bg,CR,g,mh,iX,CR,c,EK,l,e,f,b,nX];omega
 ·intro j k;rw[Bg,AP al,S,LY];exact a _ al
theorem dm.drewN {f:Nat} {a b:World} (h:dm g f n a b) (k:Nat):dm g f n a (b.drewN k):=⟨⟨h.grown.os,h.grown.tape,h.grown.output,h.grown.size,h.grown.block⟩,h.inside⟩
theorem bE.drewN {f:Nat} {l:Ki} (h:bE w g f l) (k:Nat):bE (w.drewN k) g f l:=h
theorem aiy (Q lS U jI:Nat) (xs a:Ki) (w:World) (jo:Small xs) (T:Small a) (bm:xs.length<=8796093022208) (bo:a.length<=8796093022208) (Y:bE w Q 0 xs) (hy:bE w U 0 a):
  da 212 #[.slice (some ⟨Q,0,none⟩) xs.length lS,.slice (some ⟨U,0,none⟩) a.length jI] w fun e w'=>∃v l,e=.returned v/\Has w' w.heap.size v l/\Small l/\l.length=xs.length+a.length/\nw l=nw xs*nw a/\db w w':=by
 obtain⟨i0,hi,a7,a8,bb⟩:=eA Tryz.infoU32;have aN:=Y.lt;have zE:=hy.lt;go_enter Tryz.func212,Tryz.ntmps212
 go_wp2_with (first
  |(at_make;refine qp _ rfl _ _ 221 rfl w.heap.size 157 i0 (.int .u32 0) 1 Tryz.underlying221 hi a7 a8 .i64 .i64 _ _ (xs.length+a.length) rfl rfl al al (by rw[bb];omega) (by unfold maxLen;omega) (ah _) ?_;intro t aj ak;have E:=rY aj;rw[MJ] at E;have S:=aD E;have A:db w t:=(au _ w).grown ak (ah _) (fun k e=>by cases e);have a1:=Y.aa A aN;have a6:=hy.aa A zE;clear aj ak E))
 have aQ:=Ri S.o
 go_loopw [17] (fun i wr=>∃(k:Nat) (p:Ki),k<=xs.length/\i=.int .i64 k/\p.length=xs.length+a.length/\Small p/\Hid (nw p=nw (xs.take k)*nw a)/\Hid (∀j,k+a.length<=j ->p[j]?.getD 0=0)/\bE wr w.heap.size 0 p/\dm w.heap.size 0 (xs.length+a.length) t wr)
  (fun i _=>xs.length - (intOf i).toNat)
 case atStart=>exact⟨0,_,aU _,rfl,aE,abI _,by show _=_;rw[VX];simp[oH],fun j _=>by rw[Js];split<;>rfl,aQ,dm.refl _ _ _ _⟩
 case round=>
  obtain⟨k,p,hk,rfl,D,h,P,aR,J,r⟩:=hrel;obtain⟨u,rfl⟩:∃u:World,u=wr:=⟨_,rfl⟩;by_cases F:k<xs.length
  ·have uZ:=fun V (hV:dm w.heap.size 0 (xs.length+a.length) t V)=>(a1.apart hV al).cell k F;have Z:=getD_lt jo k;have ad:=amI (xs[k]?.getD 0) a p k Z T h al aR.o
   have L:Hid (nw (xs.take (k+1))=nw (xs.take k)+W^k*xs[k]?.getD 0):=by
    show _=_;rw[VY xs k F,aV F];rfl
   generalize xs[k]?.getD 0=x at *;have ao:=aD uZ;have ab:=aD ad;(have ai:bE u w.heap.size 0 (p.take k++(acc (jl x a p k) 0).1++p.drop (k+0)):=by simpa [acc] using J);clear uZ ad;go_wp2
   go_loopw [7,22] (fun c j wr=>∃m:Nat,m<=a.length/\j=.int .i64 m/\c=.int .u64 ((acc (jl x a p k) m).2:Nat)/\bE wr w.heap.size 0 (p.take k++(acc (jl x a p k) m).1++p.drop (k+m))/\dm w.heap.size 0 (xs.length+a.length) t wr)
    (fun _ j _=>a.length - (intOf j).toNat)
   case atStart=>exact⟨0,aU _,rfl,rfl,ai,r⟩
   case round=>
    obtain⟨m,hm,rfl,rfl,f,R⟩:=hrel;have zH:=ab5 x a p k Z T h m;have O:=Ov (jl x a p k) m;(have g:(p.take k).length=k:=by rw[eW];omega);rw[iQ] at zH;by_cases XD:m<a.length
    ·have b:k+m<(p.take k++(acc (jl x a p k) m).1++p.drop (k+m)).length:=by rw[bU,bU,g,O,pI];omega
     have H:=f.cell (k+m) b;have ay:=f.frozen (k+m);rw[ajG _ _ _ k m g O,bH] at H;have d:=fun z n=>(f.drewN n).set (k+m) b z;simp only[abY _ _ p k m _ g O al,bH] at d;have av:=ao.o wr R;rw[bH] at av;have aq:=(a6.apart R al).cell m XD;rw[bH] at aq;have M:=getD_lt T m;have iE:=getD_lt h (k+m);have K:Hid (acc (jl x a p k) (m+1)=((acc (jl x a p k) m).1++[((acc (jl x a p k) m).2+jl x a p k m) % W],((acc (jl x a p k) m).2+jl x a p k m)/W)):=rfl;have I:Hid (jl x a p k m=x*a[m]?.getD 0+p[k+m]?.getD 0):=rfl;have M5:x*a[m]?.getD 0<=4294967295*4294967295:=kp (by rw[iQ] at Z;omega) (by rw[iQ] at M;omega);rw[iQ] at M iE;have bd:x<4294967296:=Z;generalize (acc (jl x a p k) m).2=c at *;generalize (acc (jl x a p k) m).1=q at *;generalize jl x a p k m=s at *;generalize a[m]?.getD 0=y at *;generalize p[k+m]?.getD 0=z at *;(have C6:(x:Int)*(y:Int)<=18446744065119617025:=by rw[<- mo];omega);(have E5:0<=(x:Int)*(y:Int):=by rw[<- mo];omega);(have bj:(k:Int)<(xs.length:Int):=al);(have bp:(m:Int)<(a.length:Int):=al);(have bg:(k:Int)+(m:Int)<(xs.length:Int)+(a.length:Int):=al);(have bf:((k:Int)+(m:Int)).toNat=k+m:=al);have X:=aD d;clear d b f M5;go_wp2_with fail
     go_quiet (fail)
     go_wp2;have hv:Value.int .u32 (((c:Int)+((x:Int)*(y:Int)+(z:Int))) % 4294967296)=.int .u32 (((c+s) % W:Nat):Int):=int_eq (by rw[iQ,I.o,wB,Es,Es,mo];rfl);have aT:Value.int .u64 (((c:Int)+((x:Int)*(y:Int)+(z:Int)))/4294967296)=.int .u64 (((c+s)/W:Nat):Int):=int_eq (by rw[iQ,I.o,AR,Es,Es,mo];rfl);rw[hv,aT];have hq:=X.o ((c+s) % W) nq;go_roundw
     case rel=>exact⟨m+1,al,b5,by rw[K.o],by rw[K.o];exact hq,(R.drewN nq).trans (dm.setCell (aU _) al _)⟩
     case measure=>simp[intOf];omega
    ·obtain rfl:m=a.length:=al
     (have b:k+a.length<(p.take k++(acc (jl x a p k) a.length).1++p.drop (k+a.length)).length:=by rw[bU,bU,g,O,pI];omega);have H:=f.cell (k+a.length) b;have ay:=f.frozen (k+a.length);rw[bH] at H;have d:=f.set (k+a.length) b (acc (jl x a p k) a.length).2;rw[abY _ _ p k a.length _ g O al,bH] at d;change bE _ _ _ (Bg x a p k) at d
     have X:=aD d;(have bk:((k:Int)+(a.length:Int)).toNat=k+a.length:=al);generalize (p.take k++(acc (jl x a p k) a.length).1++p.drop (k+a.length))[k+a.length]?.getD 0=br at *;generalize (acc (jl x a p k) a.length).2=c at *;obtain⟨s1,s2,s3,s4⟩:=ab.o
     have uw:Hid (nw (Bg x a p k)=nw (xs.take (k+1))*nw a):=by
      show _=_;rw[s3,P.o,L.o,il,jh]
     have gi:=aD s1;have tk:=aD s2;have an:=aD s4;generalize Bg x a p k=p2 at *;clear d b f ab s1 s2 s3 s4 L ai J;go_wp2;go_roundw
     case rel=>exact⟨k+1,p2,al,b5,by rw[gi.o,D],tk.o,uw,fun j hj=>an.o j al,X.o,R.trans (dm.setCell (aU _) al _)⟩
     case measure=>simp[intOf];omega
  ·obtain rfl:k=xs.length:=al
   obtain⟨ax,ae,af,_⟩:=r.inside _ S.o;have rQ:=MD (base:=w.heap.size) (cap:=xs.length+a.length) ax ae (by rw[af];simp) (ah _) (by unfold maxLen;omega) al J;have fC:db w u:=dm.aa A r (ah _) A.size;have jC:=aD D;rw[D] at rQ;clear D ae af J r;go_wp2;go_ret;exact⟨_,p,rfl,by rw[Has,jC.o];exact rQ,h,jC.o,by have:=P.o;rwa [iY] at this,fC⟩
theorem OB (a b:ByteArray) (w:World) (D:a.size<=1099511627776) (E:b.size<=1099511627776):
  da 158 #[.string a,.string b] w (du w (.string (B (N a*N b)))):=by
 have F:=AX a 274877906944 al;have I:=AX b 274877906944 al;go_enter Tryz.func158,Tryz.ntmps158;go_wp2_with fail
 refine(A1 a _ al).af ?_;rintro e J ⟨k,i,rfl,n,d⟩;go_wp2_with fail
 refine(A1 b _ al).af ?_;rintro e s ⟨m,j,rfl,p,f⟩;have r:=zO n f;have z:=zO p (au _ _);have h:db w s:=d.trans (f.af d.size);go_wp2_with fail
 refine(aiy k i m j _ _ _ (ou _) (ou _) al al r z).af ?_;rintro e t ⟨v,l,rfl,q,A,u,g,x⟩;have c:db w t:=h.trans (x.af h.size);have V:=aD g;have H:=aD u;clear g u;go_wp2_with fail
 refine(SA _ _ _ _ A (by rw[H.o];omega) q).af ?_;rintro e K ⟨rfl,y⟩;go_wp2;go_ret;exact⟨by rw[V.o,lJ,lJ];rfl,c.trans (y.af c.size)⟩
theorem ahf (n:Int) (w:World) (h0: -9223372036854775808<=n) (h1:n<=9223372036854775807):
  da 140 #[.int .i64 n] w (du w (.string (B n.toNat))):=by
 have h:=fun V=>adr n.toNat V al;by_cases c:0<=n
 ·obtain⟨m,rfl⟩:=Int.eq_ofNat_of_zero_le c;rw[qE] at h⊢;have H:=aD h;have x:max (m:Int) 0=(m:Int):=al
  clear h;go_enter Tryz.func140,Tryz.ntmps140;go_wp2_with fail
  refine(H.o _).af ?_;rintro e d ⟨rfl,b⟩;go_wp2;go_ret;exact⟨rfl,b⟩
 ·have a:n.toNat=0:=al
  rw[a] at h⊢;have H:=aD h;have x:max n 0=0:=al
  clear h a;go_enter Tryz.func140,Tryz.ntmps140;go_wp2_with fail
  refine(H.o _).af ?_;rintro e d ⟨rfl,b⟩;go_wp2;go_ret;exact⟨rfl,b⟩
theorem aph (a b:Nat) (w:World) (d:a<18446744073709551616) (e:b<18446744073709551616):
  da 241 #[.int .u64 (a:Nat),.int .u64 (b:Nat)] w (du w (.int .u64 (Nat.gcd a b:Nat))):=by
 go_enter Tryz.func241,Tryz.ntmps241;go_wp2;go_loopw [0,1] (fun x y wr=>∃m n:Nat,x=.int .u64 m/\y=.int .u64 n/\m<18446744073709551616/\n<18446744073709551616/\Hid (Nat.gcd m n=Nat.gcd a b)/\db w wr) (fun _ y _=>(intOf y).toNat)
 case atStart=>exact⟨a,b,rfl,rfl,d,e,rfl,au _ _⟩
 case round=>
  obtain⟨m,n,rfl,rfl,i,f,g,h⟩:=hrel;by_cases c:n=0
  ·subst c;go_wp2;go_ret;exact⟨CL (by rw[<- g.o,Nat.gcd_zero_right]),h⟩
  ·have k:((n:Int) !=0)=true:=by rw[bne_iff_ne];omega
   (have l:((n:Int)==0)=false:=by rw[Gr];omega);(have q:¬(n:Int)=0:=al);(have j:0<n:=al);have r:m % n<n:=ji _ j;(have H:Hid (Nat.gcd n (m % n)=Nat.gcd a b):=by show _=_;rw[<- g.o, <- LR (m % n) n, <- Nat.gcd_rec,LR]);go_wp2_with fail
   go_region
   all_goals go_wp2
   rw[show ((m:Int) % (n:Int))=((m % n:Nat):Int) from (wB m n).symm];go_roundw
   case rel=>exact⟨n,m % n,rfl,rfl,f,al,H,h.drew⟩
   case measure=>simp[intOf];omega
theorem alR (a b:Nat) (h:a<4294967296) (d:b<4294967296):bits .or .u64 (a:Int) ((b:Int)*4294967296)=((a+b*4294967296:Nat):Int):=by
 have e:(b:Int)*4294967296=((b*4294967296:Nat):Int):=al
 rw[e,u64_or_nat _ _ al al];congr 1
 have:=nat_join 32 (b*4294967296) a al al;have c:a |||b*4294967296=b*4294967296 |||a:=Nat.or_comm _ _;omega
theorem or_zero (a:Nat) (h:a<4294967296):bits .or .u64 0 (a:Int)=(a:Int):=by
 have:=u64_or_nat 0 a al al;rw[show ((0:Nat):Int)=0 from rfl] at this;rw[this,Nat.zero_or]
theorem aaM (g cap:Nat) (l:Ki) (w:World) (hs:Small l) (n:l.length<=2) (d:bE w g 0 l):
  da 242 #[.slice (some ⟨g,0,none⟩) l.length cap] w fun e w'=>e=.returned (.int .u64 (nw l:Nat))/\w'=w:=by
 match l,n with
 |[],_=>
  go_enter Tryz.func242,Tryz.ntmps242;go_wp2;refine LB 1 ?_;rw[sI];go_wp2;go_ret;exact⟨rfl,rfl⟩
 |[a],_=>
  have c:=d.cell 0 aE;have h:a<4294967296:=hs a aE;have o:=or_zero a h;simp only[bH,List.getElem?_cons_zero,Cx] at c;go_enter Tryz.func242,Tryz.ntmps242;go_wp2;refine LB 2 ?_;rw[sI];go_wp2;rw[sI];go_wp2;go_ret;exact⟨CL (by simp[lK,oH]),rfl⟩
 |[a,b],_=>
  have c:=d.cell 0 aE;have f:=d.cell 1 aE;have h:a<4294967296:=hs a aE;have i:b<4294967296:=hs b aE;have o:=or_zero a h;have j:=alR a b h i;simp only[bH,List.getElem?_cons_zero,List.getElem?_cons_succ,Cx] at c f;go_enter Tryz.func242,Tryz.ntmps242;go_wp2;refine LB 3 ?_;rw[sI];go_wp2;rw[sI];go_wp2;rw[sI];go_wp2;go_ret;exact⟨CL (by simp only[lK,oH,iQ];omega),rfl⟩
def jO (xs:Ki) (s j:Nat):Nat:=2^s*xs[j]?.getD 0
theorem ajw (xs:Ki) (s:Nat):jR (jO xs s) xs.length=2^s*nw xs:=by
 rw[show jO xs s=fun j=>2^s*(fun j=>xs[j]?.getD 0) j from rfl,adt,adu xs _ (ah _)]
theorem abR (xs:Ki) (x:Small xs) (s k:Nat):(acc (jO xs s) k).2<2^s:=by
 have p:0<2^s:=wk bd
 have h:=ZN (jO xs s) (2^s - 1) k fun j _=>by
  have a:=getD_lt x j;have b:2^s*(xs[j]?.getD 0+1)<=2^s*W:=mi _ a;rw[nX] at b;unfold jO;rw[Ug p];omega
 omega
theorem QP {s:Nat} (hs:s<32):2^s<=2147483648:=by
 have:2^s<=2^31:=kN bd al;simpa using this
theorem ajr (c x s:Nat) (hs:s<32) (h:c<2^s) (a:x<4294967296):bits .or .u64 (c:Int) (IntKind.u64.wrap ((x:Int)*2^s))=((c+2^s*x:Nat):Int):=by
 have p:=QP hs;have m:x*2^s<=4294967295*2147483648:=kp al p
 have e:IntKind.u64.wrap ((x:Int)*2^s)=((x*2^s:Nat):Int):=by
  rw[Qc,show ((x:Int)*2^s)=((x*2^s:Nat):Int) by simp];omega
 rw[e,u64_or_nat _ _ al al,Nat.or_comm,nat_join s _ _ (Nat.mul_mod_left _ _) h];congr 1
 rw[eB];omega
theorem abP (E lS:Nat) (xs:Ki) (s:Nat) (w:World) (m:Small xs) (hs:s<32) (aQ:xs.length<=8796093022208) (J:bE w E 0 xs):
  da 274 #[.slice (some ⟨E,0,none⟩) xs.length lS,.int .i64 (s:Nat)] w fun e w'=>∃v l,e=.returned v/\Has w' w.heap.size v l/\Small l/\l.length=xs.length+1/\nw l=2^s*nw xs/\db w w':=by
 obtain⟨i0,hi,aq,av,ax⟩:=eA Tryz.infoU32;have ai:=J.lt;go_enter Tryz.func274,Tryz.ntmps274
 go_wp2_with (first
  |(at_make;refine qp _ rfl _ _ 221 rfl w.heap.size 157 i0 (.int .u32 0) 1 Tryz.underlying221 hi aq av .i64 .i64 _ _ (xs.length+1) rfl rfl al al (by rw[ax];omega) (by unfold maxLen;omega) (ah _) ?_;intro n Y Z;have u:=rY Y;rw[MJ] at u;have S:=aD u;have r:db w n:=(au _ w).grown Z (ah _) (fun k e=>by cases e);have ao:=J.aa r ai;clear Y Z u))
 have aj:=Ri S.o
 go_loopw [6,15] (fun c i wr=>∃k:Nat,k<=xs.length/\i=.int .i64 k/\c=.int .u64 ((acc (jO xs s) k).2:Nat)/\bE wr w.heap.size 0 ((acc (jO xs s) k).1++(List.replicate (xs.length+1) 0).drop k)/\dm w.heap.size 0 (xs.length+1) n wr)
  (fun _ i _=>xs.length - (intOf i).toNat)
 case atStart=>exact⟨0,aU _,rfl,rfl,by simpa [acc] using aj,dm.refl _ _ _ _⟩
 case round=>
  obtain⟨k,hk,rfl,rfl,d,a⟩:=hrel;have O:=Ov (jO xs s) k;by_cases ak:k<xs.length
  ·have uZ:=(ao.apart a al).cell k ak;rw[bH] at uZ;(have j:k<((acc (jO xs s) k).1++(List.replicate (xs.length+1) 0).drop k).length:=by rw[bU,O,pI,xJ];omega);have A:=d.cell k j;have af:=d.frozen k;have X:=fun y=>d.set k j y;rw[bH] at A;simp only[SV _ (List.replicate (xs.length+1) 0) k _ O (by simp;omega),bH] at X;have V:=getD_lt m k;have h:=abR xs m s k;have D:Hid (acc (jO xs s) (k+1)=((acc (jO xs s) k).1++[((acc (jO xs s) k).2+jO xs s k) % W],((acc (jO xs s) k).2+jO xs s k)/W)):=rfl;have F:Hid (jO xs s k=2^s*xs[k]?.getD 0):=rfl;rw[iQ] at V;have L:=ajr (acc (jO xs s) k).2 (xs[k]?.getD 0) s hs h V;have I:2^s*xs[k]?.getD 0<=2147483648*4294967295:=kp (QP hs) al;have p:=QP hs;rw[<- F.o] at L I;generalize jO xs s k=f at *;generalize (acc (jO xs s) k).2=c at *;generalize (acc (jO xs s) k).1=q at *;generalize xs[k]?.getD 0=x at *;generalize (q++(List.replicate (xs.length+1) 0).drop k)[k]?.getD 0=ay at *;obtain⟨t,g⟩:∃t,t=c+f:=⟨_,rfl⟩;rw[<- g] at L;(have C0:t<18446744073709551615:=al);have T:=aD g;have lX:=aD X;(have R:c<4294967296:=al);clear X j d g I p h F;go_wp2;have hv:Value.int .u32 ((t:Int) % 4294967296)=.int .u32 (((c+f) % W:Nat):Int):=int_eq (by rw[iQ, <- T.o];omega);have an:Value.int .u64 ((t:Int)/4294967296)=.int .u64 (((c+f)/W:Nat):Int):=int_eq (by rw[iQ, <- T.o];omega);rw[hv,an];have hq:=lX.o ((c+f) % W);go_roundw
   case rel=>exact⟨k+1,al,b5,by rw[D.o],by rw[D.o];exact hq,a.trans (dm.setCell (aU _) al _)⟩
   case measure=>simp[intOf];omega
  ·obtain rfl:k=xs.length:=al
   (have j:xs.length<((acc (jO xs s) xs.length).1++(List.replicate (xs.length+1) 0).drop xs.length).length:=by rw[bU,O,pI,xJ];omega);have A:=d.cell xs.length j;have af:=d.frozen xs.length;have X:=d.set xs.length j (acc (jO xs s) xs.length).2;rw[SV _ (List.replicate (xs.length+1) 0) xs.length _ O aE,Jv aE,kQ,bH] at X;rw[bH] at A;have h:=abR xs m s xs.length;have p:=QP hs;have HE:=aD (ZM (jO xs s) xs.length);have wM:=ZL (jO xs s) xs.length;have F:=aD (ajw xs s);obtain⟨aN,ae,NA,_⟩:=a.inside _ S.o;generalize ((acc (jO xs s) xs.length).1++(List.replicate (xs.length+1) 0).drop xs.length)[xs.length]?.getD 0=ay at *;generalize (acc (jO xs s) xs.length).2=c at *;generalize (acc (jO xs s) xs.length).1=q at *;(have R:c<4294967296:=al);have b:dm w.heap.size 0 (xs.length+1) n (wr.setCell ⟨w.heap.size,xs.length,none⟩ (.int .u32 (c:Nat))):=a.trans (dm.setCell (aU _) al _);obtain⟨ad,U,P,_⟩:=b.inside _ S.o;(have M:(q++[c]).length=xs.length+1:=by rw[bU,O];rfl);have Q:=MD (base:=w.heap.size) (cap:=xs.length+1) ad U (by rw[P];simp) (ah _) (by unfold maxLen;omega) al X;have fC:=dm.aa r b (ah _) r.size;have HO:=aD Q;have H:=aD M;have ab:=aD O;clear X j d ae NA U P Q b M O p h;go_wp2;go_ret;refine⟨_,q++[c],rfl,?_,?_,H.o,?_,fC⟩
   ·rw[Has,H.o];have:=HO.o;rwa [H.o] at this
   ·exact A2 wM (fun z K=>by simp at K;subst K;exact R)
   ·rw[EK,ab.o,HE.o,F.o]
def pN (s:Nat):Ki ->Ki
 |[]=>[]
 |x::r=>(x+W*r[0]?.getD 0)/2^s % W::pN s r
theorem ajv (s:Nat) (l:Ki):(pN s l).length=l.length:=by
 induction l with
 |nil=>rfl
 |cons x r ih=>rw[pN,dV,ih,dV]
theorem abQ (s:Nat) (l:Ki):Small (pN s l):=by
 induction l with
 |nil=>intro x a;simp[pN] at a
 |cons x r ih=>
  intro y h;rw[pN] at h;rcases bT.1 h with rfl |h
  ·exact ji _ mO
  ·exact ih y h
theorem al4 (l:Ki) (h:Small l):nw l % W=l[0]?.getD 0:=by
 cases l with
 |nil=>rfl
 |cons x r=>rw[lK,aaw];exact j6 (h x c5)
theorem ar8 {s:Nat} (hs:s<=32):W=2^s*2^(32 - s):=by rw[<- Ek,show s+(32 - s)=32 by omega];rfl
theorem aju (s:Nat) (hs:s<=32) (l:Ki) (d:Small l):nw (pN s l)=nw l/2^s:=by
 induction l with
 |nil=>simp[pN,oH]
 |cons x r ih=>
  have f:Small r:=fun y o=>d y (dM _ o);have q:=d x c5;have h:0<2^s:=wk bd;rw[pN,lK,lK,ih f, <- al4 r f];generalize nw r=n;have g:=Nat.div_add_mod n (2^s);have m:=ji n h;generalize hq:n/2^s=a at *;generalize jr:n % 2^s=b at *
  have M:(x+W*b)/2^s<W:=by
   refine Jo ?_;have:W*(b+1)<=W*2^s:=mi _ m;rw[nX,eB W (2^s)] at this;omega
  have i:(x+W*n)/2^s=(x+W*b)/2^s+W*a:=by
   rw[<- g,nX, <- Cz,Nat.add_right_comm,show W*(2^s*a)=2^s*(W*a) by rw[Cy],Nat.add_mul_div_left _ _ h]
  have j:(x+W*(n % W))/2^s % W=(x+W*b)/2^s:=by
   have k:=ar8 hs;(have p:n % W % 2^s=b:=by rw[<- jr,k,Nat.mod_mul_right_mod]);have e:=Nat.div_add_mod (n % W) (2^s);rw[p] at e;generalize n % W/2^s=c at *;rw[<- e,nX, <- Cz,Nat.add_right_comm,show W*(2^s*c)=2^s*(W*c) by rw[Cy],Nat.add_mul_div_left _ _ h,aaw];exact j6 M
  rw[i,j]
theorem ajs (a x:Nat) (h:x<4294967296):bits .or .u64 (IntKind.u64.wrap ((a:Int)*4294967296)) (x:Int)=((a % 4294967296*4294967296+x:Nat):Int):=by
 have e:IntKind.u64.wrap ((a:Int)*4294967296)=((a % 4294967296:Nat):Int)*4294967296:=by rw[Qc];omega
 rw[e];exact adh (a % 4294967296) x al h
theorem ajt (g cap:Nat) (l:Ki) (s:Nat) (w:World) (E:Small l) (hs:s<32) (V:l.length<=35184372088832) (F:bE w g 0 l):
  da 276 #[.slice (some ⟨g,0,none⟩) l.length cap,.int .i64 (s:Nat)] w fun e w'=>e=.returned (.tuple #[])/\bE w' g 0 (pN s l)/\dm g 0 l.length w w':=by
 go_enter Tryz.func276,Tryz.ntmps276;go_wp2
 go_loopw [4,9] (fun a i wr=>∃k b:Nat,k<=l.length/\i=.int .i64 k/\a=.int .u64 (b:Nat)/\b<18446744073709551616/\Hid (b % 4294967296=(l.drop (l.length - k))[0]?.getD 0)/\bE wr g 0 (l.take (l.length - k)++pN s (l.drop (l.length - k)))/\dm g 0 l.length w wr)
  (fun _ i _=>l.length - (intOf i).toNat)
 case atStart=>exact⟨0,0,aU _,rfl,rfl,al,by show _=_;simp,by simpa [pN] using F,dm.refl _ _ _ _⟩
 case round=>
  obtain⟨k,b,P,rfl,rfl,R,Y,d,r⟩:=hrel;by_cases S:k<l.length
  ·obtain⟨m,I⟩:∃m,m+1=l.length - k:=⟨l.length - k - 1,al⟩;(have u:m<l.length:=al);(have f:l.length - (k+1)=m:=al);have h:l.drop m=l[m]::l.drop (m+1):=qD u;have p:=E _ (bP u);rw[<- I] at d Y;(have j:m<(l.take (m+1)++pN s (l.drop (m+1))).length:=by simp;omega);have z:=d.cell m j;have M:=d.frozen (0+m);have X:=fun y=>d.set m j y;simp only[aiz l _ m _ u] at X
   have v:(l.take (m+1)++pN s (l.drop (m+1)))[m]?.getD 0=l[m]:=by
    rw[GH (by simp;omega),wy,aw al,aV u];rfl
   rw[v] at z;rw[bH] at z M;(have H:Hid (pN s (l.drop m)=(l[m]+W*(l.drop (m+1))[0]?.getD 0)/2^s % W::pN s (l.drop (m+1))):=by show _=_;rw[h];rfl);(have D:Hid ((l.drop m)[0]?.getD 0=l[m]):=by show _=_;rw[h];rfl);rw[iQ] at p;rw[<- Y.o] at H;generalize pN s (l.drop (m+1))=q at *;generalize l[m]=x at *;obtain⟨t,c⟩:∃t,t=b % 4294967296*4294967296+x:=⟨_,rfl⟩;(have Q:bits .or .u64 (IntKind.u64.wrap ((b:Int)*4294967296)) (x:Int)=(t:Int):=by rw[c];exact ajs b x p);(have A:t<18446744073709551616:=al);(have K:t % 4294967296=x:=al);have O:=aD K;have T:=aD c;(have U:(l.length:Int) - 1 - (k:Int)=(m:Int):=al);have L:=aD X;clear c v X h j d Y K;go_wp2
   have J:Value.int .u32 ((t:Int)/2^s % 4294967296)=.int .u32 (((x+W*(b % 4294967296))/2^s % W:Nat):Int):=int_eq (by
    (have e:x+W*(b % 4294967296)=t:=by rw[T.o,iQ,eB];omega);rw[e,iQ,wB,AR,Int.natCast_pow];rfl)
   rw[J];have n:=L.o ((x+W*(b % 4294967296))/2^s % W);rw[bH] at n;go_roundw
   case rel=>exact⟨k+1,t,al,b5,rfl,A,by show _=_;rw[f,D.o];exact O.o,by rw[f,H.o];exact n,r.trans (dm.setCell (aU _) al _)⟩
   case measure=>simp[intOf];omega
  ·obtain rfl:k=l.length:=al
   go_wp2;go_end0
   refine⟨rfl,?_,r⟩;simpa using d
theorem ao8 (xs s:Ki) (k:xs.length=s.length+1) (g:Small xs) (z:0<s.length) (w:s[s.length - 1]?.getD 0≠0) (l:nw xs<W*nw s):
  nw xs/nw s<=min ((xs[s.length]?.getD 0*W+xs[s.length - 1]?.getD 0)/s[s.length - 1]?.getD 0) (W - 1):=by
 obtain⟨d,f⟩:∃d,s.length=d+1:=⟨s.length - 1,al⟩;rw[f,PY] at w⊢
 have p:0<nw s:=by
  have:=uR s d al
  have h:s.drop d=[s[d]?.getD 0]:=by
   rw[qD al,Jv al,aV al];rfl
  rw[h,lK,oH,mh,iX] at this;have:0<W^d*s[d]?.getD 0:=LO (wk mO) (lA w);omega
 have m:nw xs/nw s<W:=Jo (by rw[eB];exact l);have o:=Nat.div_mul_le_self (nw xs) (nw s);generalize nw xs/nw s=q at *;refine Nat.le_min.2 ⟨?_,al⟩;rw[Nat.le_div_iff_mul_le (lA w)];have b:=uR s d al
 have j:s.drop d=[s[d]?.getD 0]:=by
  rw[qD al,Jv al,aV al];rfl
 rw[j,lK,oH,mh,iX] at b;have e:=uR xs d al
 have i:xs.drop d=[xs[d]?.getD 0,xs[d+1]?.getD 0]:=by
  rw[qD al,qD al,Jv al,aV al,aV al];rfl
 have n:=xU (xs.take d) (JI g d);rw[eW,wm al] at n;rw[i,lK,lK,oH,mh,iX] at e;generalize s[d]?.getD 0=y at *;generalize xs[d]?.getD 0=a at *;generalize xs[d+1]?.getD 0=x at *;have c:q*(W^d*y)<=q*nw s:=mi _ al
 have h:W^d*(q*y)<W^d*(x*W+a+1):=by
  rw[Cy] at c;rw[nX,qA,En (x*W) a,eB x W];omega
 have:=Nat.lt_of_mul_lt_mul_left h;omega
theorem aiC (g f cap b I:Nat) (xs y:Ki) (w:World) (v:xs.length=y.length+1) (m:Small xs) (T:Small y) (aE:xs.length<=35184372088832) (jz:0<y.length) (wN:y[y.length - 1]?.getD 0≠0) (O:nw xs<W*nw y) (A:bE w g f xs) (D:bE w b 0 y) (L:b≠g):
  da 275 #[.slice (some ⟨g,f,none⟩) xs.length cap,.slice (some ⟨b,0,none⟩) y.length I] w fun e w'=>∃l',e=.returned (.int .u32 (nw xs/nw y:Nat))/\l'.length=xs.length/\Small l'/\nw l'=nw xs % nw y/\bE w' g f l'/\dm g f xs.length w w':=by
 have X:=ao8 xs y v m jz wN O;have q:=A.cell y.length al;have j:=A.cell (y.length - 1) al;have ao:=D.cell (y.length - 1) al;rw[bH] at ao;have ak:=getD_lt m y.length;have an:=getD_lt m (y.length - 1);have aS:=getD_lt T (y.length - 1);have k:=aD X;have HL:=aD v;have TF:=aD O;rw[iQ] at ak an aS;have tR:y.length<xs.length:=al
 have ye:=adh (xs[y.length]?.getD 0) (xs[y.length - 1]?.getD 0) ak an;rw[iQ] at k;generalize xs[y.length]?.getD 0=x1 at *;generalize xs[y.length - 1]?.getD 0=x0 at *;generalize y[y.length - 1]?.getD 0=p at *;obtain⟨t,ht⟩:∃t,t=x1*4294967296+x0:=⟨_,rfl⟩;rw[<- ht] at ye k;have C0:t<18446744073709551616:=al
 have Da:(y.length:Int) - 1<(xs.length:Int):=al
 have qM:(y.length:Int)<(xs.length:Int):=al
 have zD:0<=(y.length:Int) - 1:=al
 have C9:((y.length:Int) - 1).toNat=y.length - 1:=al
 have Fi:IntKind.i64.wrap ((y.length:Int) - 1+1)=(y.length:Int):=by rw[jk];omega
 clear ht v O X;go_enter Tryz.func275,Tryz.ntmps275;go_wp2_with fail
 go_quiet (fail)
 go_wp2_with fail
 obtain⟨gs,R⟩:∃gs,gs=min (t/p) 4294967295:=⟨_,rfl⟩;have a7:t/p<=t:=AL _ _
 have V:min (IntKind.u64.wrap ((t:Int)/(p:Int))) 4294967295 % 4294967296=(gs:Int):=by
  rw[Qc, <- AR,R];generalize t/p=z at *;omega
 rw[V];have aa:gs<4294967296:=al
 have U:Hid (nw xs/nw y<=gs):=by show _<=_;rw[R];exact k.o
 clear V R k ye q j ao;refine(abb g f cap b 0 I xs y gs _ m T aa aE al (A.drewN nq) (D.drewN nq) L).af ?_;rintro e w2 ⟨s,l,rfl,dQ,av,x,Y,hu⟩;have ax:dm g f xs.length w w2:=((dm.refl g f xs.length w).drewN nq).trans hu;have ai:=xU l av;rw[dQ] at ai
 have aQ:gs*nw y<W^xs.length:=by
  have a:=xU y T;have h2:gs*nw y<=(W - 1)*nw y:=lB _ (by rw[iQ];omega);have h3:W*nw y<=W*W^y.length:=mi _ (AH a);have h4:(W - 1)*nw y<=W*nw y:=lB _ al;have h5:W^xs.length=W*W^y.length:=by rw[HL.o,jw,eB]
  have h6:0<W^y.length:=wk mO;have h7:(W - 1)*nw y<=(W - 1)*W^y.length:=mi _ (AH a)
  have h8:(W - 1)*W^y.length+W^y.length=W*W^y.length:=by
   (have:(W - 1+1)*W^y.length=W*W^y.length:=by rw[Ug mO]);rwa [il,kO] at this
  omega
 have aq:s=0∨s=1:=by
  rcases dG s 2 with h |h
  ·omega
  ·have:W^xs.length*2<=W^xs.length*s:=mi _ h;omega
 have ab:Hid ((decide (s≠0)=false/\nw l+gs*nw y=nw xs)∨(decide (s≠0)=true/\nw l+gs*nw y=nw xs+W^xs.length/\nw xs<gs*nw y)):=by
  rcases aq with rfl |rfl
  ·exact .inl ⟨rfl,by rw[x];omega⟩
  ·refine .inr ⟨rfl,by rw[x];omega,?_⟩;omega
 generalize decide (s≠0)=be at *;clear x ai aQ aq hu;go_wp2;go_loopg [7,8] gs (fun r gu be wr=>∃(l:Ki) (d:Bool),gu=.int .u32 (r:Nat)/\be=.bool d/\l.length=xs.length/\Small l/\bE wr g f l/\dm g f xs.length w wr/\Hid (nw xs/nw y<=r)/\r<4294967296/\Hid ((d=false/\nw l+r*nw y=nw xs)∨(d=true/\nw l+r*nw y=nw xs+W^xs.length/\nw xs<r*nw y)))
 case atStart=>exact⟨l,be,rfl,rfl,dQ,av,Y,ax,U,aa,ab⟩
 case round=>
  obtain⟨i,d,rfl,rfl,aj,Z,J,E,sR,a6,K⟩:=hrel;clear ab Y ax U;have u:=aD aj;clear aj;cases d with
  |false=>
   have hc:nw i+gk*nw y=nw xs:=by
    rcases K.o with ⟨_,h⟩ |⟨h,_⟩
    ·exact h
    ·cases h
   have Q:0<nw y:=by
    rcases yP (nw y) with e |e
    ·have:=TF.o;rw[e,mh] at this;omega
    ·exact e
   have M:gk=nw xs/nw y:=by
    have a:gk<=nw xs/nw y:=(Nat.le_div_iff_mul_le Q).2 al;have:=sR.o;omega
   have HR:Hid (nw i=nw xs % nw y):=by
    show _=_;have a:=Nat.div_add_mod' (nw xs) (nw y);rw[<- M] at a;omega
   have HG:=aD M;clear hc M K;go_wp2;go_ret;exact⟨i,by rw[<- HG.o];rfl,u.o,Z,HR.o,J,E⟩
  |true=>
   obtain⟨q,j⟩:nw i+gk*nw y=nw xs+W^xs.length/\nw xs<gk*nw y:=by
    rcases K.o with ⟨h,_⟩ |⟨_,h⟩
    ·cases h
    ·exact h
   have aT:1<=gk:=by
    rcases yP gk with e |e
    ·rw[e,nW] at j;omega
    ·exact e
   have S:=aD q;have tA:=aD j;have ay:=(D.apart E L);clear q j K;go_wp2_with fail
   have P:=Vw g f cap b 0 I i y wr Z T (by rw[u.o];exact aE) (by rw[u.o];omega) J ay L;rw[u.o] at P;refine P.af ?_;rintro e w3 ⟨c,n,rfl,F,ad,H,aR,mF⟩;have ae:=xU n ad;rw[F] at ae
   have a1:gk*nw y=(gk - 1)*nw y+nw y:=by
    (have:(gk - 1+1)*nw y=gk*nw y:=by rw[Ug aT]);rw[<- this,il,kO]
   have qm:Hid (((!c)=false/\nw n+(gk - 1)*nw y=nw xs)∨((!c)=true/\nw n+(gk - 1)*nw y=nw xs+W^xs.length/\nw xs<(gk - 1)*nw y)):=by
    have a:=S.o;cases c with
    |true=>simp only[if_true] at H;exact .inl ⟨rfl,al⟩
    |false=>simp only[Bool.false_eq_true,if_false,iX] at H;exact .inr ⟨rfl,al,al⟩
   have aN:Hid (nw xs/nw y<=gk - 1):=by
    show _<=_
    have Q:0<nw y:=by
     rcases yP (nw y) with e |e
     ·have:=TF.o;rw[e,mh] at this;omega
     ·exact e
    have:=(Nat.div_lt_iff_lt_mul Q).2 tA.o;omega
   have Ch:=aD F;clear H ae a1 P F J ay S tA;go_wp2;go_roundg (gk - 1)
   case measure=>omega
   case rel=>exact⟨n,!c,int_eq al,rfl,Ch.o,ad,aR,E.trans mF,aN,al,qm⟩
variable {lf ql:Ki}
theorem al3 (l:Ki) (i y:Nat) (h:i<l.length):nw (l.set i y)+W^i*l[i]?.getD 0=nw l+W^i*y:=by
 have e:=uR l i al;have a:=uR (l.set i y) i (by rw[iq];omega);have b:(l.set i y).take i=l.take i:=List.take_set_of_le (ah _)
 have c:(l.set i y).drop i=y::l.drop (i+1):=by
  rw[List.drop_set,aA al,rz,qD h,CA]
 have d:l.drop i=l[i]?.getD 0::l.drop (i+1):=by rw[qD h,aV h];rfl
 rw[b,c,lK,nX] at a;rw[d,lK,nX] at e;omega
structure vY (X Y L:Nat) (lf ql:Ki) (j:Nat):Prop where
 qlen:ql.length=L
 qs:Small ql
 ls:Small lf
 zero:∀t,t< j ->ql[t]?.getD 0=0
 eq:nw ql*Y+nw lf=X
 lt:nw (lf.drop j)<Y
theorem vY.seg {X Y L:Nat} (h:vY X Y L lf ql (i+1)) (f:Y<=W^m) (n:i+m+1<=lf.length):
  nw ((lf.drop i).take (m+1))<W*Y/\nw (lf.drop i)=nw ((lf.drop i).take (m+1))/\nw (lf.drop (i+(m+1)))=0:=by
 have a:lf.drop i=lf[i]?.getD 0::lf.drop (i+1):=by rw[qD al,aV al];rfl
 have l:nw (lf.drop i)<W*Y:=by
  have b:=h.lt;have g:=getD_lt h.ls i;have d:W*(nw (lf.drop (i+1))+1)<=W*Y:=mi _ b;rw[nX] at d;rw[a,lK];omega
 have c:=uR (lf.drop i) (m+1) (by rw[pI];omega);rw[List.drop_drop] at c
 have z:nw (lf.drop (i+(m+1)))=0:=by
  rcases yP (nw (lf.drop (i+(m+1)))) with e |e
  ·exact e
  ·have j:W^(m+1)*1<=W^(m+1)*nw (lf.drop (i+(m+1))):=mi _ e;(have k:W*Y<=W^(m+1):=by rw[jw,eB];exact lB _ f);omega
 rw[z,mh,iX] at c;exact⟨al,c,z⟩
theorem vY.step {X Y L:Nat} {e:Ki} (h:vY X Y L lf ql (i+1)) (b:Y<=W^m) (f:i+m+1<=lf.length) (c:i<L) (k:0<Y)
  (D:e.length=m+1) (p:Small e) (M:nw e=nw ((lf.drop i).take (m+1)) % Y):
  vY X Y L (lf.take i++e++lf.drop (i+(m+1))) (ql.set i (nw ((lf.drop i).take (m+1))/Y)) i:=by
 obtain⟨g,j,s⟩:=h.seg b f;have l:(lf.take i).length=i:=by rw[eW];omega
 generalize hS:nw ((lf.drop i).take (m+1))=S at *;have q:S/Y<W:=Jo (by rw[eB];exact g);have d:=al3 ql i (S/Y) (by rw[h.qlen];exact c);rw[h.zero i al,mh,iX] at d;have n:=Nat.div_add_mod' S Y;have hcut:=uR lf i al
 have o:nw (lf.take i++e++lf.drop (i+(m+1)))=nw (lf.take i)+W^i*(S % Y):=by
  rw[CR,s,mh,iX,CR,l,M]
 refine⟨by rw[iq];exact h.qlen,?_,?_,?_,?_,?_⟩
 ·intro x a;rcases aay a with a |rfl
  ·exact h.qs x a
  ·exact q
 ·exact A2 (A2 (JI h.ls i) p) (Mm h.ls _)
 ·intro t r;rw[wA al];exact h.zero t al
 ·rw[d,o,il, <- h.eq,hcut,j];have:W^i*S=W^i*(S/Y)*Y+W^i*(S % Y):=by rw[jh, <- nX,n]
  omega
 ·rw[ny,List.drop_append,l,rz,Jv al,fX,Er,CR,s,mh,iX,M];exact ji _ k
theorem vY.start {X Y s:Nat} {xs:Ki} (j:0<m) (k:m<=n) (hs:Small lf) (x:xs.length=n) (c:Small xs) (g:X=2^s*nw xs) (f:nw lf=X) (d:lf.length=n+1) (b:2^s*W^(m - 1)<=Y):
  vY X Y (n - m+1) lf (List.replicate (n - m+1) 0) (n - m+1):=by
 refine⟨aE,abI _,hs,fun t _=>by rw[Js];split<;>rfl,by rw[VX,nW,bH,f],?_⟩;have i:=uR lf (n - m+1) al;have l:nw xs<W^n:=by rw[<- x];exact xU xs c
 have p:0<2^s:=wk bd;have e:2^s*nw xs<2^s*W^n:=Nat.mul_lt_mul_of_pos_left l p;have h:W^n=W^(n - m+1)*W^(m - 1):=by rw[<- Ek];congr 1;omega
 have a:W^(n - m+1)*nw (lf.drop (n - m+1))<W^(n - m+1)*(2^s*W^(m - 1)):=by
  rw[Cy, <- h];omega
 exact aO (Nat.lt_of_mul_lt_mul_left a) b
theorem vY.stop {X Y L:Nat} (h:vY X Y L lf ql 0):nw ql=X/Y/\nw lf=X % Y:=by
 have a:=h.lt;rw[Er] at a;have b:=h.eq;have c:0<Y:=al
 constructor
 ·rw[<- b,En,Ul _ _ c,yQ a,bH]
 ·rw[<- b,En,Uk,j6 a]
theorem arE (k:Nat):∀x,x<2^k ->k<=32 ->Lib.bitLen x<=k/\x<2^Lib.bitLen x:=by
 induction k with
 |zero=>
  intro x h _;have:x=0:=by simpa using h
  subst this;exact⟨ah _,bd⟩
 |succ k ih=>
  intro x h b;by_cases a:x=0
  ·subst a;exact⟨aU _,bd⟩
  ·have O:x<2^64:=aO h (kN bd al);have e:=Lib.bitLen_half x a O;obtain⟨i,c⟩:=ih (x/2) (Jo (by rw[jw] at h;omega)) al;rw[e];refine⟨al,?_⟩;rw[En,jw];omega
theorem arD (x:Nat) (h0:x≠0) (h:x<4294967296):1<=Lib.bitLen x:=by
 have:=Lib.bitLen_half x h0 al;omega
theorem agR (a:Ki) (s:Nat) (hs:Small a) (L:0<a.length) (w:a[a.length - 1]?.getD 0≠0) (b:2^s*(a[a.length - 1]?.getD 0+1)<=W):
  (words (2^s*nw a)).length=a.length/\2^s*W^(a.length - 1)<=2^s*nw a/\2^s*nw a<=W^a.length:=by
 obtain⟨d,i⟩:∃d,a.length=d+1:=⟨a.length - 1,al⟩;rw[i,PY] at w b⊢;have g:=uR a d al
 have v:a.drop d=[a[d]?.getD 0]:=by
  rw[qD al,Jv al,aV al];rfl
 rw[v,lK,oH,mh,iX] at g;have r:=xU (a.take d) (JI hs d);rw[eW,wm al] at r;generalize a[d]?.getD 0=y at *;have p:0<2^s:=wk bd;have A:W^d*1<=W^d*y:=mi _ (lA w);have o:W^d<=nw a:=al
 have j:nw a<W^d*(y+1):=by rw[nX];omega
 have D:2^s*nw a<2^s*(W^d*(y+1)):=Nat.mul_lt_mul_of_pos_left j p;have E:2^s*(W^d*(y+1))<=W^d*W:=by rw[Cy];exact mi _ b
 have F:2^s*nw a<W^(d+1):=by rw[jw];omega
 have H:W^d<=2^s*nw a:=aL o (Em _ p);refine⟨?_,mi _ o,al⟩;have n:=lJ (2^s*nw a);have m:=ou (2^s*nw a);have t:=xU _ m;rw[n] at t
 have M:(words (2^s*nw a)).length<=d+1:=by
  obtain⟨k,K,e⟩:=Qk (words (2^s*nw a)++List.replicate 0 0) (by simpa using m);have u:words (2^s*nw a)≠[]:=fun e=>by rw[Ql] at e;have:0<W^d:=wk mO;omega
  have h:=aaL _ u;rcases dG (d+1) (words (2^s*nw a)).length with c |c
  ·exfalso
   generalize words (2^s*nw a)=l at *;obtain⟨z,q⟩:∃z,l.length=z+1:=⟨l.length - 1,al⟩;have f:=uR l z al;rw[List.getLast_eq_getElem] at h;(have x:l.drop z=[l[z]'al]:=by rw[qD al,Jv al]);simp only[q,PY] at h;rw[x,lK,oH,mh,iX] at f;have I:W^z*1<=W^z*l[z]'al:=mi _ (lA h);have J:W^(d+1)<=W^z:=kN mO al;omega
  ·exact c
 rcases dG (words (2^s*nw a)).length (d+1) with c |c
 ·have:W^(words (2^s*nw a)).length<=W^d:=kN mO al;omega
 ·omega
theorem aqq (v:Kd) (n l:Nat) (y:Kd) (m j:Nat) (w:World) (h:n<m):
  da 240 #[.slice v n l,.slice y m j] w fun e w'=>e=.returned (.tuple #[.slice none 0 0,.slice v n l])/\w'=w:=by
 go_enter Tryz.func240,Tryz.ntmps240;go_wp2;go_ret2;exact⟨rfl,rfl⟩
theorem Has.slice {base:Nat} {v:Value} {l:Ki} (h:Has w base v l) (a:0<l.length):∃g cap,v=.slice (some ⟨g,0,none⟩) l.length cap/\l.length<=cap/\base<=g/\bE w g 0 l:=by
 rcases h.cases with ⟨_,rfl⟩ |h
 ·simp at a
 ·exact h
theorem UH (n:Nat) (h:0<(words n).length):(words n)[(words n).length - 1]?.getD 0≠0:=by
 have e:words n≠[]:=Jq.1 h;have:=aaL n e;rw[List.getLast_eq_getElem] at this;rwa [aV al]
def qf (w:World) (base g n cap:Nat) (l:Ki):Prop:=w.ownsRow base 157 1 (.slice (some ⟨g,0,none⟩) n cap) n (l.map u32)
theorem qf.lies {base:Nat} {l:Ki} (h:qf w base g n cap l):bE w g 0 l:=(EG h).2.2.2
theorem qf.len {base:Nat} {l:Ki} (h:qf w base g n cap l):n=l.length:=(EG h).1
theorem qf.upd {base f:Nat} {l:Ki} (h:qf w base g n cap l) (u:dm g f m w w') (a:bE w' g 0 l') (e:l'.length=n):qf w' base g n cap l':=
 acU h (u.af (off':=0) (n':=f+m) (aU _) al) a e
theorem qf.apart {base o:Nat} {l:Ki} (h:qf w base g n cap l) (u:dm g' o m w w') (d:g≠g'):qf w' base g n cap l:=by
 refine⟨h.1,?_⟩;rcases h.2 with ⟨a,_⟩ |⟨i,t,f,b,c,r,e⟩
 ·cases a
 ·cases b;exact .inr ⟨g,cap,f,rfl,c,(u.grown.block g (dD.1 r).1 (by simp[d])).trans r,e⟩
theorem qf.lies_le {base:Nat} {l:Ki} (h:qf w base g n cap l):l.length<=cap:=(EG h).2.1
theorem qf.words {base:Nat} {l:Ki} (h:qf w base g n cap l) (hs:Small l):Has w base (.slice (some ⟨g,0,none⟩) (words (nw l)).length cap) (words (nw l)):=by
 obtain⟨k,b,a⟩:=Qk l hs;have d:(Proofs.YtkflnpjapgiajaaGreatDoor.words (nw l)).length=k:=by rw[a];simp;omega
 have:=aqD k b h;rw[<- a] at this;rw[Has,d];exact this
theorem bE.patch {a:Nat} {e:Ki} (h:bE w g 0 lf) (u:dm g a n w w') (hs:bE w' g a e) (d:e.length=n) (f:a+n<=lf.length):bE w' g 0 (lf.take a++e++lf.drop (a+n)):=by
 have c:bE w g 0 (lf.take a):=by have:=h.piece 0 a al;rwa [Er] at this
 have b:=h.piece (a+n) (lf.length - (a+n)) al;rw[kP aE] at b;have l:(lf.take a).length=a:=by rw[eW];omega
 refine((c.beside u (by rw[l];omega)).append (by rw[l,bH];exact hs)).append ?_;rw[bU,l,d];exact b.beside u al
theorem aqr (gx lS gy jI:Nat) (xs y:Ki) (w:World) (jo:Small xs) (jT:Small y) (b7:xs.length<=4398046511104) (M:0<y.length) (S:y[y.length - 1]?.getD 0≠0) (CV:y.length<=xs.length) (hx:bE w gx 0 xs) (hy:bE w gy 0 y):
  da 240 #[.slice (some ⟨gx,0,none⟩) xs.length lS,.slice (some ⟨gy,0,none⟩) y.length jI] w fun e w'=>
   ∃gq cq gr cr,e=.returned (.tuple #[.slice (some ⟨gq,0,none⟩) (words (nw xs/nw y)).length cq,.slice (some ⟨gr,0,none⟩) (words (nw xs % nw y)).length cr])/\
    Has w' w.heap.size (.slice (some ⟨gq,0,none⟩) (words (nw xs/nw y)).length cq) (words (nw xs/nw y))/\Has w' w.heap.size (.slice (some ⟨gr,0,none⟩) (words (nw xs % nw y)).length cr) (words (nw xs % nw y))/\db w w':=by
 obtain⟨i0,hi,br,bs,bu⟩:=eA Tryz.infoU32;have b4:=hx.lt;have zE:=hy.lt;have zH:=hy.cell (y.length - 1) al;rw[bH] at zH;have ai:=getD_lt jT (y.length - 1);rw[iQ] at ai;obtain⟨bb,aQ⟩:=arE 32 (y[y.length - 1]?.getD 0) (by simpa using ai) al;have a8:=arD _ S ai;obtain⟨s,hs⟩:∃s,s=32 - Lib.bitLen (y[y.length - 1]?.getD 0):=⟨_,rfl⟩;have Xg:s<32:=al
 have k9:2^s*(y[y.length - 1]?.getD 0+1)<=W:=by
  have n:2^s*(y[y.length - 1]?.getD 0+1)<=2^s*2^Lib.bitLen (y[y.length - 1]?.getD 0):=mi _ aQ;rw[<- Ek,show s+Lib.bitLen (y[y.length - 1]?.getD 0)=32 by omega] at n;exact n
 have ay:=agR y s jT M S k9;have c:=aD ay;have R:=fun V=>Tryz.bits_LeadingZeros32 ((y[y.length - 1]?.getD 0:Nat):Int) V al al;simp only[qE] at R;have zm:(32:Int) - (Lib.bitLen (y[y.length - 1]?.getD 0):Int)=(s:Int):=al
 simp only[zm] at R;have Pc:=aD R;have bN:=aD S;generalize y[y.length - 1]?.getD 0=y1 at *;have b8:¬xs.length<y.length:=al
 clear bb aQ a8 hs k9 ay R zm S;go_enter Tryz.func240,Tryz.ntmps240;go_wp2_with fail
 refine(Pc.o _).af ?_;rintro e w0 ⟨rfl,bk⟩;subst bk;go_wp2_with fail
 refine(abP gx lS xs s _ jo Xg al hx).af ?_;rintro e w1 ⟨v1,f,rfl,n,F,ke,ia,ad⟩;obtain⟨g,d,rfl,b2,aN,ao⟩:=n.slice al;have X:=aD ke;have Gc:=aD ia;have bZ:f.length<=4398046511105:=al
 have bC:xs.length+1<=d:=al
 clear ke ia;have a1:=hy.aa ad zE;go_wp2_with fail
 refine(abP gy jI y s _ jT Xg al a1).af ?_;rintro e w2 ⟨v2,t,rfl,h2,x,bg,jq,ae⟩;obtain⟨m,c2,rfl,bf,bD,Q⟩:=h2.slice al;have o6:=aD jq;have bS:t.length<=4398046511105:=al
 clear bg jq;go_wp2_with fail
 have zo:=Qx m 0 c2 t w2 x bf al (fun j h=>Q.cell j h);rw[o6.o,c.o.1] at zo;refine zo.af ?_;rintro e b ⟨rfl,bm⟩;subst bm;have aT:∃k,k<=t.length/\words (nw t)=t.take k:=Qk t x
 have kd:bE b m 0 (words (2^s*nw y)):=by
  obtain⟨k,hk,e⟩:=aT;have:=Q.piece 0 k al;rwa [Er, <- e,o6.o] at this
 have vp:=n.aa ae (ah _);have ab:db w0 b:=ad.trans (ae.af ad.size);have b1:g<w1.heap.size:=ao.lt;have b0:m<b.heap.size:=Q.lt;have Rx:=ab.size;have bO:=ae.size;have aj:=aD vp;have Gf:=aD kd;clear zo aT kd vp ao Q n h2 a1;go_wp2_with (at_make;refine qp _ rfl _ _ 221 rfl w0.heap.size 157 i0 (.int .u32 0) 1 Tryz.underlying221 hi br bs .i64 .i64 _ _ (xs.length - y.length+1) rfl rfl al al (by rw[bu];omega) (by unfold maxLen;omega) al ?_;intro P rQ H)
 have A:=rY rQ;rw[MJ] at A;have fV:=aD A;have fC:db w0 P:=ab.grown H al (fun k e=>by cases e);have qj:Hid (qf P w0.heap.size g f.length d f):=Has.aa aj.o (B:=b.heap.size) ((au _ b).grown H (ah _) (fun k e=>by cases e)) (ah _)
 have ak:Hid (qf P w0.heap.size b.heap.size (xs.length - y.length+1) (xs.length - y.length+1) (List.replicate (xs.length - y.length+1) 0)):=by
  have:=MD (base:=w0.heap.size) (cap:=xs.length - y.length+1) (l:=List.replicate (xs.length - y.length+1) 0) _ A aE al (by unfold maxLen;omega) aE ⟨_,A,aE,fun j h=>by simp at h;simp[h]⟩;rw[xJ] at this;exact this
 have jJ:Hid (bE P m 0 (words (2^s*nw y))):=(Gf.o).grown H aE;have HI:Hid (vY (2^s*nw xs) (2^s*nw y) (xs.length - y.length+1) f (List.replicate (xs.length - y.length+1) 0) (xs.length - y.length+1)):=vY.start M CV F rfl jo rfl Gc.o X.o c.o.2.1;have po:=aD fC;clear A rQ H aj Gf ab fC
 go_loopw [40] (fun i wr=>∃(k:Nat) (lf ql:Ki),k<=xs.length - y.length+1/\i=.int .i64 k/\Hid (vY (2^s*nw xs) (2^s*nw y) (xs.length - y.length+1) lf ql (xs.length - y.length+1 - k))/\Hid (qf wr w0.heap.size g f.length d lf)/\Hid (qf wr w0.heap.size b.heap.size (xs.length - y.length+1) (xs.length - y.length+1) ql)/\Hid (bE wr m 0 (words (2^s*nw y)))/\Hid (db w0 wr))
  (fun i _=>xs.length - y.length+1 - (intOf i).toNat)
 case atStart=>exact⟨0,f,_,aU _,rfl,HI,qj,ak,jJ,po⟩
 case round=>
  obtain⟨k,lf,ql,hk,rfl,T,r,O,Y,E⟩:=hrel;clear HI qj ak jJ po;by_cases b6:k<xs.length - y.length+1
  ·go_wp2_with fail
   obtain⟨p,hp⟩:∃p,p=xs.length - y.length - k:=⟨_,rfl⟩;(have hn:xs.length - y.length - k+y.length+1 - (xs.length - y.length - k)=y.length+1:=al);rw[hn, <- hp];(have aq:lf.length=xs.length+1:=by have:=r.o.len;have:=X.o;omega);(have K:((lf.drop p).take (y.length+1)).length=y.length+1:=by rw[eW,pI];omega)
   have I:Hid (vY (2^s*nw xs) (2^s*nw y) (xs.length - y.length+1) lf ql (p+1)):=by
    have:=T.o;rwa [show xs.length - y.length+1 - k=p+1 by omega] at this
   have Xd:=I.o.seg c.o.2.2 al;have U:=aiC g p (d - p) m c2 ((lf.drop p).take (y.length+1)) (words (2^s*nw y)) wr (by rw[K,c.o.1]) (JI (Mm I.o.ls _) _) (ou _) (by rw[K];omega) (by rw[c.o.1];exact M) (UH _ (by rw[c.o.1];exact M)) (by rw[lJ];exact Xd.1) (by have:=r.o.lies.piece p (y.length+1) al;rwa [bH] at this) Y.o al;rw[K,c.o.1,lJ] at U;refine U.af ?_;clear U;rintro e v ⟨bx,rfl,Z,a7,av,z,a⟩;(have bj:p<xs.length - y.length+1:=al);have a6:=aD (I.o.step c.o.2.2 al bj (by have:=Xd.1;rcases yP (2^s*nw y) with e |e;(rw[e,mh] at this;omega);exact e) Z a7 av);have Hz:=r.o.lies.patch a z Z al;have D:Hid (qf v w0.heap.size g f.length d (lf.take p++bx++lf.drop (p+(y.length+1)))):=r.o.upd a Hz (by have:=X.o;simp;omega);have u:=aD (O.o.apart a al);have La:=aD (Y.o.apart a al);have L:=aD (dm.aa E.o a aN E.o.size);(have ax:p<ql.length:=by have:=O.o.len;omega);have bz:=u.o.lies.cell p ax;have b3:=u.o.lies.frozen p;rw[bH] at bz;have dX:=u.o.lies.set p ax (nw ((lf.drop p).take (y.length+1))/(2^s*nw y));rw[bH] at dX;have lX:=aD dX;have Pd:=aD aq;generalize hqv:nw ((lf.drop p).take (y.length+1))/(2^s*nw y)=qv at *;generalize ql[p]?.getD 0=b9 at *;clear dX Hz Xd K Z av z aq T r O Y E I hn hqv;subst hp;go_wp2;go_roundw
   case rel=>
    have J:dm b.heap.size (xs.length - y.length - k) 1 v (v.setCell ⟨b.heap.size,xs.length - y.length - k,none⟩ (.int .u32 (qv:Nat))):=dm.setCell (ah _) al _;refine⟨k+1,_,_,al,b5,?_,aD (D.o.apart J al),aD (u.o.upd J lX.o (by have:=u.o.len;rw[iq];omega)),aD (La.o.apart J al),aD (dm.aa L.o J Rx L.o.size)⟩;have e:=a6.o;show vY _ _ _ _ _ _;rwa [show xs.length - y.length+1 - (k+1)=xs.length - y.length - k by omega]
   case measure=>simp[intOf];omega
  ·obtain rfl:k=xs.length - y.length+1:=al
   have q:=T.o;rw[rz] at q;have x8:0<2^s:=wk bd;obtain⟨hq,hr⟩:=q.stop;rw[Nat.mul_div_mul_left _ _ x8] at hq;rw[Nat.mul_mod_mul_left] at hr;(have aS:nw (pN s lf)=nw xs % nw y:=by rw[aju s al lf q.ls,hr,Nat.mul_div_cancel_left _ x8]);have Hy:=q.ls;have wM:=q.qs;have an:=aD hq;have Tu:=aD aS;have Xe:=ajt g d lf s wr Hy Xg (by have:=r.o.len;omega) r.o.lies;rw[<- r.o.len] at Xe;have ur:=aD Xe;clear hq hr aS q T Xe;go_wp2_with fail
   refine ur.o.af ?_;rintro e v ⟨rfl,z,a⟩;have D:=aD (r.o.upd a z (by rw[ajv];exact r.o.len.symm));have u:=aD (O.o.apart a al);have L:=aD (dm.aa E.o a aN E.o.size);have F:=Qx b.heap.size 0 (xs.length - y.length+1) ql v wM (by rw[<- u.o.len];omega) (by rw[<- u.o.len];omega) (fun j h=>u.o.lies.cell j h);rw[<- u.o.len,an.o] at F;have x:=Qx g 0 d (pN s lf) v (abQ s lf) D.o.lies_le (by rw[<- D.o.len];omega) (fun j h=>D.o.lies.cell j h);rw[<- D.o.len,Tu.o] at x;have gi:=aD F;have tk:=aD x;clear F x z a ur r O E;go_wp2_with fail
   refine gi.o.af ?_;rintro e w6 ⟨rfl,bo⟩;subst bo;go_wp2_with fail
   refine tk.o.af ?_;rintro e w7 ⟨rfl,bp⟩;subst bp;go_wp2;go_ret2;have Ib:=u.o.words wM;have aR:=D.o.words (abQ s lf);rw[an.o] at Ib;rw[Tu.o] at aR;exact⟨_,_,_,_,rfl,Ib,aR,L.o⟩
theorem UF (h:n≠0):0<(words n).length:=by
 rcases yP (words n).length with e |e
 ·exact absurd ((Ql n).1 (Qa e)) h
 ·exact e
theorem ad5 {x y:Nat} (h:(words x).length<(words y).length):x<y:=by
 have j:0<(words y).length:=al
 have c:=getD_lt (ou y) ((words y).length - 1);have a:=(agR (words y) 0 (ou y) j (UH y j) (by rw[LN,kO];exact c)).2.1;rw[LN,kO,kO,lJ] at a;have b:=xU (words x) (ou x);rw[lJ] at b;have d:W^(words x).length<=W^((words y).length - 1):=kN mO al;omega
theorem UG {x y:Nat} (h:x<=y):(words x).length<=(words y).length:=by
 rcases dG (words y).length (words x).length with c |c
 ·have:=ad5 c;omega
 ·exact c
theorem ad6 {x:Nat} (h:(words x).length<=2):x<18446744073709551616:=by
 have a:=xU (words x) (ou x);rw[lJ] at a;have b:W^(words x).length<=W^2:=kN mO h;have c:W^2=18446744073709551616:=by rw[iQ]
 omega
theorem agq (g l a j x y:Nat) (w:World) (o:y≠0) (s:(words x).length<=4398046511104) (u:(words x).length<=l) (b:bE w g 0 (words x)) (n:bE w a 0 (words y)):
  da 240 #[.slice (some ⟨g,0,none⟩) (words x).length l,.slice (some ⟨a,0,none⟩) (words y).length j] w fun e w'=>
   ∃q gr r,e=.returned (.tuple #[q,.slice (some ⟨gr,0,none⟩) (words (x % y)).length r])/\Has w' w.heap.size q (words (x/y))/\(words (x % y)).length<=r/\bE w' gr 0 (words (x % y))/\db w w':=by
 rcases dG (words x).length (words y).length with c |c
 ·have h:=ad5 c;refine(aqq _ _ l _ _ j w c).af ?_;rintro e w' ⟨rfl,rfl⟩;refine⟨_,g,l,by rw[j6 h],?_,by rw[j6 h];exact u,by rw[j6 h];exact b,au _ _⟩;rw[yQ h,y4];exact⟨rfl,.inl ⟨rfl,rfl⟩⟩
 ·have p:=UF o;have:=aqr g l a j (words x) (words y) w (ou _) (ou _) s p (UH y p) c b n;rw[lJ,lJ] at this;refine this.af ?_;rintro e w' ⟨v,t,gr,r,rfl,d,f,i⟩;obtain⟨_,k,_,m⟩:=EG f;exact⟨_,gr,r,rfl,d,k,m,i⟩
theorem asV (a b:ByteArray) (w:World) (I:a.size<=1099511627776) (K:b.size<=1099511627776) (h0:N b≠0):
  da 192 #[.string a,.string b] w (du w (.tuple #[.string (B (N a/N b)),.string (B (N a % N b)),.bool true])):=by
 have k:=AX a 274877906944 al;have M:=AX b 274877906944 al;have L:=UF h0;have S:¬(((words (N b)).length:Int)=0):=al
 have R:(words (N a/N b)).length<=274877906944:=aL (UG (AL _ _)) k;have J:(words (N a % N b)).length<=274877906944:=aL (UG (Nat.mod_le _ _)) k;go_enter Tryz.func192,Tryz.ntmps192;go_wp2_with fail
 refine(A1 b _ al).af ?_;rintro e P ⟨q,n,rfl,t,g⟩;go_wp2_with fail
 refine(A1 a _ al).af ?_;rintro e y ⟨s,o,rfl,h,i⟩;have x:=zO t i;have H:=zO h (au _ _);have d:db w y:=g.trans (i.af g.size);go_wp2_with fail
 refine(agq s o q n (N a) (N b) _ h0 al (EG h).2.1 H x).af ?_;rintro e z ⟨O,gr,p,rfl,v,F,r,D⟩;have c:db w z:=d.trans (D.af d.size);go_wp2_with fail
 refine(SA _ _ _ _ (ou _) al v).af ?_;rintro e A ⟨rfl,l⟩;have m:=r.aa l r.lt;have f:db w A:=c.trans (l.af c.size);rw[lJ];go_wp2_with fail
 refine(YW gr p _ _ (ou _) F al m.lt (fun j u=>m.cell j u)).af ?_;rintro e Q ⟨rfl,E⟩;rw[lJ];go_wp2;go_ret3
 exact⟨rfl,f.trans (E.af f.size)⟩
theorem asU (a b:ByteArray) (w:World) (ha:a.size<=1099511627776) (hb:b.size<=1099511627776):
  da 191 #[.string a,.string b] w (du w (.string (B (Nat.gcd (N a) (N b))))):=by
 have V:=AX a 274877906944 al;have X:=AX b 274877906944 al;go_enter Tryz.func191,Tryz.ntmps191;go_wp2_with fail
 refine(A1 a _ al).af ?_;rintro e w1 ⟨g1,c1,rfl,k,n⟩;go_wp2_with fail
 refine(A1 b _ al).af ?_;rintro e w2 ⟨g2,c2,rfl,l,p⟩;have q:=zO k p;have F:=zO l (au _ _);have A:db w w2:=n.trans (p.af n.size);have D:=(EG k).2.1;have E:=(EG l).2.1;go_wp2_with fail
 go_loopg [5,6] (N b) (fun r vx vy wr=>∃(x g cx y c:Nat),vx=.slice (some ⟨g,0,none⟩) (words x).length cx/\vy=.slice (some ⟨y,0,none⟩) (words r).length c/\(words x).length<=cx/\(words r).length<=c/\(words x).length<=274877906944/\(words r).length<=274877906944/\Hid (bE wr g 0 (words x))/\Hid (bE wr y 0 (words r))/\Hid (Nat.gcd x r=Nat.gcd (N a) (N b))/\Hid (db w wr))
 case atStart=>exact⟨_,_,_,_,_,rfl,rfl,D,E,V,X,q,F,rfl,A⟩
 case round=>
  obtain⟨x,g,cx,y,c,rfl,rfl,Z,zH,tR,I,i,u,d,h⟩:=hrel;clear q F A D E k l n p;by_cases K:gk=0
  ·subst K;rw[y4] at *;go_wp2_with fail
   refine(YW g cx _ _ (ou _) Z al i.o.lt (fun j T=>i.o.cell j T)).af ?_;rintro e s ⟨rfl,f⟩;rw[lJ];go_wp2;go_ret;exact⟨by rw[<- d.o,Nat.gcd_zero_right];rfl,h.o.trans (f.af h.o.size)⟩
  ·have jz:=UF K;(have ae:¬(((words gk).length:Int)=0):=al);by_cases H:2<(words x).length
   focus
    go_wp2_with fail
   rotate_left
   focus
    by_cases v:2<(words gk).length
    focus
     go_wp2_with fail
    rotate_left
    ·have O:=ad6 (Nat.le_of_not_lt H);have t:=ad6 (Nat.le_of_not_lt v);go_wp2_with fail
     refine(aaM g cx _ _ (ou _) (Nat.le_of_not_lt H) i.o).af ?_;rintro e s ⟨rfl,m⟩;subst m;rw[lJ];go_wp2_with fail
     refine(aaM y c _ _ (ou _) (Nat.le_of_not_lt v) u.o).af ?_;rintro e w6 ⟨rfl,m⟩;subst m;rw[lJ];go_wp2_with fail
     refine(aph x gk _ O t).af ?_;rintro e w7 ⟨rfl,P⟩;have z:=h.o.trans (P.af h.o.size);rw[d.o];(have ab:Nat.gcd (N a) (N b)<18446744073709551616:=by rw[<- d.o];exact Ui (Nat.gcd_le_right _ (lA K)) t);go_wp2_with fail
     refine(adr _ _ ab).af ?_;rintro e w8 ⟨rfl,S⟩;go_wp2;go_ret;exact⟨rfl,z.trans (S.af z.size)⟩
   all_goals
    refine(agq g cx y c x gk _ K al Z i.o u.o).af ?_;rintro e s ⟨vq,gr,J,rfl,_,ad,U,f⟩;have M:(words (x % gk)).length<=274877906944:=aL (UG (Nat.mod_le _ _)) tR;have R:=aD U;have L:=aD (u.o.aa f u.o.lt);have Q:=aD (h.o.trans (f.af h.o.size));(have Y:Hid (Nat.gcd gk (x % gk)=Nat.gcd (N a) (N b)):=by show _=_;rw[<- d.o,LR x gk,Nat.gcd_rec gk x,LR]);go_wp2;go_roundg (x % gk)
    case measure=>exact ji _ (lA K)
    case rel=>exact⟨gk,y,c,gr,J,rfl,rfl,zH,ad,I,M,L,R,Y,Q⟩
variable {w0:World}
theorem rX (k:Nat):∀n,n<256^k ->(bn n).length<=k:=by
 induction k with
 |zero=>
  intro n h;have:n=0:=by simpa using h
  subst this;simp[rV]
 |succ k ih=>
  intro n h;by_cases e:n=0
  ·subst e;simp[rV]
  ·rw[rW n e,bU,Ep];have:=ih (n/256) (Jo (by rw[jw] at h;omega));omega
theorem Gp (n:Nat):n<256^(B n).size:=by
 have:=wI (bn n);rwa [V9, <- mY] at this
theorem kW (h:m<=n):(B m).size<=(B n).size:=by
 rw[mY m];exact rX _ _ (Ui h (Gp n))
theorem A0 (m n:Nat):(B (m*n)).size<=(B m).size+(B n).size:=by
 rw[mY (m*n)];refine rX _ _ ?_;rw[Ek];exact LP (Gp m) (Gp n)
theorem aiS (m n:Nat):(B (m+n)).size<=(B m).size+(B n).size+1:=by
 rw[mY (m+n)];refine rX _ _ ?_;have h:=Gp m;have a:=Gp n;have b:256^(B m).size<=256^((B m).size+(B n).size):=kN bd al;have c:256^(B n).size<=256^((B m).size+(B n).size):=kN bd al;rw[jw];omega
theorem Cs:B 0=⟨#[]⟩:=by rw[B,rV]
theorem ahg:N ⟨#[]⟩=0:=rfl
theorem ahH (h:B m=B n):m=n:=by rw[<- dR m,h,dR]
theorem Ei (h:n≠0):(B n).toList.isEmpty=false:=by
 cases e:(B n).toList with
 |cons=>rfl
 |nil=>
  rw[Lib.toList_data] at e;have a:(B n).size=0:=by rw[ByteArray.size, <- GL,e];rfl
  have b:=Gp n;rw[a] at b;omega
theorem BO (s:ByteArray):s.data.toList.length=s.size:=by rw[GL];rfl
theorem Ud:(B 1).size<=1:=by rw[mY];exact rX 1 1 bd
theorem under {P:Program} {f:FuncId} {args:Array Value} {X:Ending} (a:db w0 w) (h:Calls P f args w fun e w'=>e=X/\db w w'):Calls P f args w fun e w'=>e=X/\db w0 w':=
 h.af fun _ _ ⟨b,c⟩=>⟨b,a.trans (c.af a.size)⟩
theorem asT {a b:ByteArray} (n:Nat) (c:db w0 w) (h:Nat.gcd (N a) (N b)=n) (d:a.size<=1099511627776) (e:b.size<=1099511627776):
  da 191 #[.string a,.string b] w (du w0 (.string (B n))):=by
 subst h;exact under c (asU a b w d e)
theorem ahe {x:Int} (n:Nat) (a:db w0 w) (h:x=(n:Int)) (b:x<=9223372036854775807):
  da 140 #[.int .i64 x] w (du w0 (.string (B n))):=by
 have:=under a (ahf x w al b);rwa [show x.toNat=n by omega] at this
theorem ahc {a b:ByteArray} (n:Nat) (c:db w0 w) (h:N a=N b+n) (d:a.size<=1099511627776) (e:b.size<=1099511627776):
  da 210 #[.string a,.string b] w (du w0 (.tuple #[.string (B n),.bool true])):=by
 have:=under c (asa a b w d e al);rwa [show N a - N b=n by omega] at this
theorem asb {a b:ByteArray} (c:db w0 w) (h:N a<N b):
  da 210 #[.string a,.string b] w fun e w'=>e=.returned (.tuple #[.string ⟨#[]⟩,.bool false])/\db w0 w':=under c (asc a b w h)
theorem ahF {a b:ByteArray} (q r:Nat) (h:db w0 w) (e:N a/N b=q) (f:N a % N b=r) (h0:N b≠0) (c:a.size<=1099511627776) (d:b.size<=1099511627776):
  da 192 #[.string a,.string b] w (du w0 (.tuple #[.string (B q),.string (B r),.bool true])):=by
 subst e f;exact under h (asV a b w c d h0)
def nd:Ki ->Nat
 |[]=>0
 |x::r=>x+256*nd r
theorem Ha (x:Nat) (r:Ki):nd (x::r)=x+256*nd r:=rfl
theorem V8 (n:Nat):nd (List.replicate n 0)=0:=by
 induction n with
 |zero=>rfl
 |succ n ih=>rw[LU,Ha,ih]
theorem Q7 (l:Ki):∀(j y:Nat) (h:j<l.length),nd (l.set j y)+l[j]*256^j=nd l+y*256^j:=by
 induction l with
 |nil=>intro j y h;exact absurd h (El _)
 |cons x r ih=>
  intro j y h;cases j with
  |zero=>simp only[CA,Ha,List.getElem_cons_zero,LN,qA];omega
  |succ j=>
   (have b:j<r.length:=by simpa using h);have:=ih j y b;simp only[Un,Ha,Us,jw];(have e:r[j]*(256^j*256)=256*(r[j]*256^j):=by rw[<- jh,eB]);(have a:y*(256^j*256)=256*(y*256^j):=by rw[<- jh,eB]);rw[e,a];omega
def tD (l:Ki):Prop:=∀x∈l,x<256
theorem Zg (n:Nat):tD (List.replicate n 0):=fun x h=>by rw[(List.mem_replicate.1 h).2];decide
theorem Oe {l:Ki} (h:tD l) (j y:Nat) (c:y<256):tD (l.set j y):=fun x b=>by
 rcases aay b with a |a
 ·exact h x a
 ·rw[a];exact c
theorem ami (l:Ki) (h:tD l):nd l<256^l.length:=by
 induction l with
 |nil=>decide
 |cons x r ih=>
  have b:=ih fun y a=>h y (dM _ a);have c:=h x c5;rw[Ha,dV,jw];omega
def rb (l:Ki):List UInt8:=l.reverse.map UInt8.ofNat
theorem aml (l:Ki) (h:tD l):nb (rb l)=nd l:=by
 induction l with
 |nil=>rfl
 |cons x r ih=>
  have a:=ih fun y b=>h y (dM _ b);have c:=h x c5;have:rb (x::r)=rb r++[UInt8.ofNat x]:=by simp[rb]
  rw[this,A9,a,Ha];have:(UInt8.ofNat x).toNat=x:=by simp;omega
  omega
theorem amp (l:List UInt8) (i:Nat) (h:i<l.length):nb l/256^i % 256=(l[l.length - 1 - i]'al).toNat:=by
 have e:l=l.take (l.length - 1 - i)++(l[l.length - 1 - i]'al::l.drop (l.length - i)):=by
  have a:=yR (l.length - 1 - i) l;have d:l.drop (l.length - 1 - i)=l[l.length - 1 - i]'al::l.drop (l.length - 1 - i+1):=qD al;rw[d,show l.length - 1 - i+1=l.length - i by omega] at a;exact a.symm
 have b:(l.drop (l.length - i)).length=i:=by rw[pI];omega
 have t:=wI (l.drop (l.length - i));rw[b] at t
 have n:nb l=(nb (l.take (l.length - 1 - i))*256+(l[l.length - 1 - i]'al).toNat)*256^i+nb (l.drop (l.length - i)):=by
  conv=>lhs;rw[e]
  rw[EM,Hc,dV,b,jw,il,jh,eB 256 (256^i),Cz]
 generalize (l[l.length - 1 - i]'al)=c at *;generalize nb (l.take (l.length - 1 - i))=p at *;have f:=c.toNat_lt;rw[n,eB,Nat.mul_add_div (wk bd),yQ t,iX];omega
theorem amo (l:List UInt8) (i:Nat) (h:l.length<=i):nb l/256^i % 256=0:=by
 rw[yQ (aO (wI l) (kN bd h))]
theorem aqi (l:List UInt8):∀k,k<=l.length ->(l.take k).all (·==0)=true ->(∀h:k<l.length,l[k]≠0) ->l.dropWhile (·==0)=l.drop k:=by
 induction l with
 |nil=>intro k _ _ _;simp
 |cons x r ih=>
  intro k c a b;cases k with
  |zero=>
   have:x≠0:=b aE;rw[List.dropWhile_cons,aA (by simpa using this),Er]
  |succ k=>
   simp only[List.take_succ_cons,List.all_cons,iB] at a;rw[List.dropWhile_cons,aw a.1,List.drop_succ_cons];exact ih k (by simpa using c) a.2 (fun h=>by have:=b (by simpa using h);simpa using this)
theorem Kb (n k:Nat):n % 256^(k+1)=n % 256^k+256^k*(n/256^k % 256):=by
 rw[jw,Nat.mod_mul]
theorem aa5 (s:ByteArray) (k:Nat) (a:k<=s.size) (h0:(s.data.toList.take k).all (·==0)=true) (h1:∀h:k<s.size,s[k].toNat≠0):s.extract k s.size=B (N s):=by
 have e:s.data.toList.dropWhile (·==0)=s.data.toList.drop k:=aqi _ k (by simpa using a) h0 (fun h z=>h1 (by simpa using h) (by
  have:s[k]'(by simpa using h)=s.data.toList[k]:=rfl;rw[this,z];rfl))
 apply Qf;apply Qg.1;rw[B,N,Zx,e];show (s.extract k s.size).data.toList=_;rw[ByteArray.data_extract,Array.toList_extract];simp[kP]
theorem oA (s:ByteArray) (w:World) (hs:s.size<=140737488355328):
  da 119 #[.string s] w fun e w'=>e=.returned (.string (B (N s)))/\w'=w:=by
 go_enter Tryz.func119,Tryz.ntmps119;go_wp2;go_loop [3] (fun i=>∃k:Nat,k<=s.size/\i=.int .i64 k/\(s.data.toList.take k).all (·==0)=true) (fun i=>s.size - (intOf i).toNat)
 case atStart=>exact⟨0,aU _,rfl,rfl⟩
 case round=>
  obtain⟨k,a,rfl,b⟩:=hrel;have A:Hid ((s.data.toList.take k).all (·==0)=true):=b;clear b;by_cases l:k<s.size
  ·by_cases c:s[k].toNat=0
   ·have H:Hid ((s.data.toList.take (k+1)).all (·==0)=true):=by
     show _=_;rw[Mk s k l,List.all_append,A.o];have:s[k]=0:=PO.1 c;simp[this]
    go_wp2;go_round
    case rel=>exact⟨k+1,al,b5,H.o⟩
    case measure=>simp[intOf];omega
   ·have E:=aD (aa5 s k a A.o fun _=>c);go_wp2;go_ret;exact⟨by rw[<- E.o];rfl,rfl⟩
  ·have E:=aD (aa5 s k a A.o fun h=>absurd h l);go_wp2;go_ret;exact⟨by rw[<- E.o];rfl,rfl⟩
theorem aaF (n:Nat) (h:n<256):wrap64 (n:Int)=(n:Int):=by
 rw[wrap64];omega
theorem Iy (s:ByteArray) (i:Nat) (w:World) (hs:s.size<=140737488355328) (a:i<=9223372036854775807):
  da 121 #[.string s,.int .i64 (i:Int)] w fun e w'=>e=.returned (.int .i64 ((N s/256^i % 256:Nat):Int))/\w'=w:=by
 go_enter Tryz.func121,Tryz.ntmps121;by_cases l:i<s.size
 ·have D:Hid (N s/256^i % 256=(s[s.size - 1 - i]'al).toNat):=by
   show _=_;rw[N,amp _ i (by simpa using l)];simp;rfl
  have x:0<=(s.size:Int) - 1 - i:=al
  have h:=aaF _ (s[s.size - 1 - i]'al).toNat_lt;have H:=aD h;clear h;go_wp2;go_ret;exact⟨by rw[D.o];exact ed (fun z=>Ending.returned (Value.int .i64 z)) H.o,rfl⟩
 ·have D:Hid (N s/256^i % 256=0):=amo _ i (by simp;omega);go_wp2;go_ret;exact⟨by rw[D.o];rfl,rfl⟩
def iv (x:Nat):Value:=.int .i64 (x:Int)
def dK (w:World) (g:Nat) (l:Ki):Prop:=w.heap[g]? =some (.cells (l.map iv).toArray 3 (0,0))
theorem dK.cell {l:Ki} (h:dK w g l) (j:Nat) (a:j<l.length):w.cell? ⟨g,j,none⟩=some (.int .i64 (l[j]:Nat)):=by
 rw[bh w g j _ _ (0,0) h];simp[iv,a]
theorem dK.fz {l:Ki} (h:dK w g l) (j:Nat):w.frozen? ⟨g,j,none⟩=false:=fj w g j _ _ h
theorem dK.lt {l:Ki} (h:dK w g l):g<w.heap.size:=(dD.1 h).1
theorem dK.aa {b:Nat} {l:Ki} (h:dK w g l) (a:Below b w w') (c:g<b):dK w' g l:=(a.block g c).trans h
theorem dK.set {l:Ki} (h:dK w g l) (j y:Nat):dK (w.setCell ⟨g,j,none⟩ (.int .i64 (y:Int))) g (l.set j y):=by
 have:=kn w g j _ _ (.int .i64 (y:Int)) h;rw[dK,Gx];simpa [iv] using this
def tL (l:Ki) (k:Nat):Kh:=List.replicate (l.length - k) 0++((l.take k).reverse.map Int.ofNat)
theorem alk (l:Ki):tL l 0=List.replicate l.length 0:=by simp[tL]
theorem aln (l:Ki) (k:Nat) (h:k<=l.length):(tL l k).length=l.length:=by simp[tL];omega
theorem alm (l:Ki) (k:Nat) (c:k<l.length):(tL l k).set (l.length - 1 - k) (l[k]:Int)=tL l (k+1):=by
 have h:l.length - k=(l.length - 1 - k)+1:=al
 have a:List.replicate (l.length - k) (0:Int)=List.replicate (l.length - 1 - k) 0++[0]:=by rw[h,List.replicate_succ']
 have b:l.length - (k+1)=l.length - 1 - k:=al
 rw[tL,tL,a,ny,Gv _ _ aE,b];rw[xJ,rz,fS,fX,CA,im c,List.reverse_append,List.reverse_singleton,eh];rfl
theorem alo (l:Ki):tL l l.length=l.reverse.map Int.ofNat:=by simp[tL]
theorem asf (l:Ki) (h:tD l):N (strOfNums (l.reverse.map Int.ofNat))=nd l:=by
 rw[N,Jj, <- aml l h,rb];congr 1
 simp[Function.comp_def]
theorem Ke (n:Nat):(madeCells (Value.int .i64 0).cells (n*1)).toList=(List.replicate n (0:Nat)).map iv:=by
 rw[show (Value.int .i64 0).cells= #[Value.int .i64 0] from rfl,LC,qA,P6];rfl
theorem Tryz.infoInt:(Tryz.prog.info? 3).map (fun i=>(i.zero,i.size,i.bytes))=some (some (.int .i64 0),1,8):=ao
theorem VD (g:Nat) (l:Ki) (w:World) (d:tD l) (ae:l.length<=140737488355328) (h:dK w g l):
  da 123 #[.slice (some ⟨g,0,none⟩) l.length l.length] w (du w (.string (B (nd l)))):=by
 obtain⟨J,n,R,S,T⟩:=eA Tryz.infoByte;have M:=h.lt;have q:Hid (dK w g l):=h;have a:Hid (N (strOfNums (l.reverse.map Int.ofNat))=nd l):=asf l d;have D:Hid (tD l):=d;clear h d;go_enter Tryz.func123,Tryz.ntmps123
 go_wp2_with (first
  |(at_make;refine qp _ rfl _ _ 148 rfl w.heap.size 5 J (.int .u8 0) 1 Tryz.underlying148 n R S .i64 .i64 _ _ l.length rfl rfl al al (by rw[T];omega) (by unfold maxLen;omega) (ah _) ?_;intro p v y))
 have c:=rY v;rw[ad4, <- alk] at c;have r:db w p:=(au _ w).grown y (ah _) (fun k e=>by cases e);have I:Hid (p.heap[w.heap.size]? =some (.cells ((tL l 0).map u8).toArray 5 (0,0))):=c;clear v y c
 go_loopw [4] (fun i wr=>∃k:Nat,k<=l.length/\i=.int .i64 k/\Hid (wr.heap[w.heap.size]? =some (.cells ((tL l k).map u8).toArray 5 (0,0)))/\db w wr)
  (fun i _=>l.length - (intOf i).toNat)
 case atStart=>exact⟨0,aU _,rfl,I,r⟩
 case round=>
  obtain⟨k,F,rfl,H,b⟩:=hrel;clear I r;by_cases t:k<l.length
  ·have ab:wr.cell? ⟨g,k,none⟩=some (.int .i64 (l[k]:Nat)):=(q.o.aa b M).cell k t;have hx:=D.o l[k] (bP t);have X:=aD (alm l k t);obtain⟨E,j⟩:∃E,E=l.length - 1 - k:=⟨_,rfl⟩;rw[<- j] at X;(have Z:(l.length:Int) - 1 - (k:Int)=(E:Int):=al);(have A:E<l.length:=al)
   have zI:wr.cell? ⟨w.heap.size,E,none⟩=some (.int .u8 ((tL l k)[E]?.getD 0)):=by
    rw[bh wr _ E _ _ (0,0) H.o];(have:E<(tL l k).length:=by rw[aln l k F];exact A);simp[Go.Proofs.YtkflnpjapgiajaaGreatDoor.u8,aV this]
   have ad:=fj wr w.heap.size E _ _ H.o;have U:=aD (fun u=>kn wr w.heap.size E _ _ u H.o);generalize l[k]=x at *;generalize (tL l k)[E]?.getD 0=z at *;clear j;go_wp2;have V:=U.o (.int .u8 (x:Int));go_roundw
   case rel=>
    refine⟨k+1,al,b5,?_,b.setCell (ah _) _⟩;show _=_;rw[V, <- X.o,Gx];simp[Go.Proofs.YtkflnpjapgiajaaGreatDoor.u8]
   case measure=>simp[intOf];omega
  ·obtain rfl:k=l.length:=al
   have f:=alo l;(have K:(l.reverse.map Int.ofNat).length=l.length:=aE);have s:=a.o;clear a q D;generalize l.reverse.map Int.ofNat=m at *;have a:=aD s;clear s
   have Y:=Jk (P:=Tryz.prog) wr 148 5 Tryz.underlying148 Tryz.underlying5 w.heap.size 0 l.length l.length m K (fun i n=>by
    have e:=bh wr w.heap.size (0+i) _ _ _ H.o;rw[e,f];(have L:i<m.length:=al);simp[Go.Proofs.YtkflnpjapgiajaaGreatDoor.u8,aV L,bF]) 61 Tryz.underlying61
   clear H f
   have O:(strOfNums m).size<=140737488355328:=by
    rw[<- BO,Jj,cH];omega
   go_wp2_with (go_at_call 119;refine(oA _ _ O).af ?_;rintro e w3 ⟨rfl,Q⟩;subst Q)
   go_ret;exact⟨by rw[a.o];rfl,b⟩
variable {A D c:Nat}
theorem agP (v P:Nat):v % 256*P+v/256*(P*256)=v*P:=by
 have h:v=v/256*256+v % 256:=al
 conv=>rhs;rw[h,il,jh,eB 256 P]
 omega
theorem arW {p:Ki} (a:k<p.length) (h0:p[k]?.getD 0=0) (h:nd p+c*256^k=A % 256^k+D % 256^k):
  nd (p.set k ((c+A/256^k % 256+D/256^k % 256) % 256))+(c+A/256^k % 256+D/256^k % 256)/256*256^(k+1)=A % 256^(k+1)+D % 256^(k+1):=by
 have s:=Q7 p k ((c+A/256^k % 256+D/256^k % 256) % 256) a;have K:p[k]=0:=by rwa [aV a] at h0
 rw[K,nW,iX] at s;rw[s,Kb,Kb D,jw];have:=agP (c+A/256^k % 256+D/256^k % 256) (256^k)
 have e:(c+A/256^k % 256+D/256^k % 256)*256^k=c*256^k+256^k*(A/256^k % 256)+256^k*(D/256^k % 256):=by
  rw[il,il,eB (A/256^k % 256),eB (D/256^k % 256)]
 omega
theorem Vg {p:Ki} {y:Nat} (h:∀j,k<=j ->p[j]?.getD 0=0):∀j,k+1<=j ->(p.set k y)[j]?.getD 0=0:=fun j a=>by
 rw[wA al];exact h j al
theorem arX {p:Ki} (d:A<256^n) (e:D<256^n) (h:nd p+c*256^(n+1)=A % 256^(n+1)+D % 256^(n+1)):nd p=A+D:=by
 have f:256^(n+1)=256*256^n:=by rw[jw,eB]
 rw[j6 al,j6 al] at h
 have b:c=0:=by
  rcases yP c with a |a
  ·exact a
  ·have:1*256^(n+1)<=c*256^(n+1):=lB _ a;omega
 rw[b] at h;omega
theorem FU (s:ByteArray):N s<256^s.size:=by
 have:=wI s.data.toList;rwa [BO] at this
theorem akC (a b:ByteArray) (w:World) (ha:a.size<=1000000) (hb:b.size<=1000000):
  da 72 #[.string a,.string b] w (du w (.string (B (N a+N b)))):=by
 obtain⟨i0,S,ai,aj,ak⟩:=eA Tryz.infoInt;obtain⟨n,T⟩:∃n,n=max a.size b.size:=⟨_,rfl⟩;have ab:a.size<=n:=al
 have yf:b.size<=n:=al
 have ia:n<=1000000:=al
 have P:(b.size<=a.size/\a.size=n)∨(a.size<b.size/\b.size=n):=al
 clear T;have O:Hid (N a<256^n):=aO (FU a) (kN bd ab);have M:Hid (N b<256^n):=aO (FU b) (kN bd yf);have L:=aD (fun (k:Nat) (V:World) (h:k<=9223372036854775807)=>Iy a k V al h);have Q:=aD (fun (k:Nat) (V:World) (h:k<=9223372036854775807)=>Iy b k V al h);generalize hA:N a=A at *;generalize hD:N b=D at *;clear hA hD;go_enter Tryz.func72,Tryz.ntmps72;rcases P with ⟨u,v⟩ |⟨u,v⟩
 all_goals
  go_wp2_with (first
   |(at_make;refine qp _ rfl _ _ 27 rfl w.heap.size 3 i0 (.int .i64 0) 1 Tryz.underlying27 S ai aj .i64 .i64 _ _ (n+1) rfl rfl b5 b5 (by rw[ak];omega) (by unfold maxLen;omega) (ah _) ?_;intro q J K))
  have g:=rY J;rw[Ke] at g;have s:db w q:=(au _ w).grown K (ah _) (fun k e=>by cases e);have I:Hid (dK q w.heap.size (List.replicate (n+1) 0)):=g;clear J K g u v
  go_loopw [7,8] (fun cv iv wr=>∃(k c:Nat) (p:Ki),k<=n+1/\iv=.int .i64 k/\cv=.int .i64 c/\c<=1/\p.length=n+1/\Hid (tD p)/\Hid (∀j,k<=j ->p[j]?.getD 0=0)/\Hid (nd p+c*256^k=A % 256^k+D % 256^k)/\Hid (dK wr w.heap.size p)/\db w wr)
   (fun _ i _=>n+1 - (intOf i).toNat)
  case atStart=>exact⟨0,0,List.replicate (n+1) 0,aU _,rfl,rfl,aU _,aE,Zg _,(fun j _=>by rw[Js];split<;>rfl),(show _=_ by rw[V8];simp[Nat.mod_one]),I,s⟩
  case round=>
   obtain⟨k,c,p,hk,rfl,rfl,hc,F,t,Z,E,H,d⟩:=hrel;clear I s;by_cases aq:k<n+1
   ·have m:k<p.length:=al
    have an:=aD (arW m (Z.o k (ah _)) E.o);have X:=aD (fun V=>L.o k V al);have Y:=aD (fun V=>Q.o k V al);have hx:A/256^k % 256<256:=ji _ bd;have hy:D/256^k % 256<256:=ji _ bd;generalize A/256^k % 256=x at *;generalize D/256^k % 256=y at *;have av:=H.o.cell k m;have ao:=H.o.fz k;have R:=aD (fun z=>H.o.set k z);generalize p[k]=pk at *;clear E
    go_wp2_with (first
     |(have ax:=ae;go_at_call 121;refine(Y.o _).af ?_;rintro e r ⟨rfl,l⟩;subst l)
     |(go_at_call 121;refine(X.o _).af ?_;rintro e r ⟨rfl,l⟩;subst l;have ae:True:=trivial))
    have U:Value.int .i64 (((c:Int)+(x:Int)+(y:Int)) % 256)=.int .i64 (((c+x+y) % 256:Nat):Int):=int_eq al;have ad:Value.int .i64 (((c:Int)+(x:Int)+(y:Int))/256)=.int .i64 (((c+x+y)/256:Nat):Int):=int_eq al;rw[U,ad];go_roundw
    case rel=>exact⟨k+1,(c+x+y)/256,p.set k ((c+x+y) % 256),al,b5,rfl,al,by rw[iq];exact F,Oe t.o _ _ (ji _ bd),Vg Z.o,an.o,R.o _,d.setCell (ah _) _⟩
    case measure=>simp[intOf];omega
   ·obtain rfl:k=n+1:=al
    have f:=VD w.heap.size p wr t.o al H.o;rw[F,arX O.o M.o E.o] at f;have vO:=aD f;clear f;go_wp2_with (go_at_call 123;refine(vO.o).af ?_;rintro e r ⟨rfl,aa⟩)
    go_ret;exact⟨rfl,d.trans (aa.af d.size)⟩
theorem Ta {b:Nat} {v u:World} (h:Below b v u) (k:Nat):Below b v (u.drewN k):=⟨h.os,h.tape,h.output,h.size,h.block⟩
theorem ad8 (a b:ByteArray) (k:Nat) (j:k<a.size) (m:k<b.size) (n:a.size=b.size) (p:a.data.toList.take k=b.data.toList.take k) (h:a[k].toNat<b[k].toNat):N a<N b:=by
 have f:a.data.toList=a.data.toList.take k++(a[k]::a.data.toList.drop (k+1)):=by
  have d:a.data.toList.drop k=a[k]::a.data.toList.drop (k+1):=qD (l:=a.data.toList) (i:=k) (by simpa using j);rw[<- d,yR]
 have g:b.data.toList=b.data.toList.take k++(b[k]::b.data.toList.drop (k+1)):=by
  have d:b.data.toList.drop k=b[k]::b.data.toList.drop (k+1):=qD (l:=b.data.toList) (i:=k) (by simpa using m);rw[<- d,yR]
 rw[N,N,f,g,p,EM,EM,Hc,Hc];have c:(a.data.toList.drop (k+1)).length=a.size - (k+1):=by rw[pI,BO]
 have q:(b.data.toList.drop (k+1)).length=a.size - (k+1):=by rw[pI,BO,n]
 have e:=wI (a.data.toList.drop (k+1));rw[c] at e;rw[dV,dV,c,q];have o:(a[k].toNat+1)*256^(a.size - (k+1))<=b[k].toNat*256^(a.size - (k+1)):=lB _ h;rw[il,kO] at o;omega
theorem ad7 (h:(B m).size<(B n).size):m<n:=by
 rcases dG m n with a |a
 ·exact a
 ·have:=kW a;omega
theorem Zo (h:m<n):jW m n= -1:=aw h
theorem agI (h:n<m):jW m n=1:=by rw[jW,aA al,aA al]
theorem aqW (h:m=n):jW m n=0:=by rw[jW,aA al,aw h]
theorem aqa (l:(B m).size=(B n).size) (h:(B m).data.toList.take (B m).size=(B n).data.toList.take (B m).size):m=n:=by
 rw[kP (by rw[BO];exact ah _),kP (by rw[BO,l];exact ah _)] at h;exact ahH (Qf (Qg.1 h))
theorem acm (a b:ByteArray) (w:World) (A:a.size<=1000000) (D:b.size<=1000000):
  da 176 #[.string a,.string b] w (du w (.int .i64 (jW (N a) (N b)))):=by
 have s:=aD (oA a w al);have q:=aD (oA b w al);have M:=aL (jK a) A;have O:=aL (jK b) D;have L:=aD (fun h=>Zo (ad7 (m:=N a) (n:=N b) h));have J:=aD (fun h=>agI (ad7 (m:=N b) (n:=N a) h));have v:=aD (fun l p=>aqW (aqa (m:=N a) (n:=N b) l p));have E:=aD (fun k f g l p h=>Zo (m:=N a) (n:=N b) (by have:=ad8 (B (N a)) (B (N b)) k f g l p h;rwa [dR,dR] at this));have I:=aD (fun k f g l p h=>agI (m:=N a) (n:=N b) (by have:=ad8 (B (N b)) (B (N a)) k f g l p h;rwa [dR,dR] at this));generalize jW (N a) (N b)=r at *;generalize B (N a)=x at *;generalize B (N b)=y at *;go_enter Tryz.func176,Tryz.ntmps176;go_wp2_with fail
 refine(s.o).af ?_;rintro e u ⟨rfl,j⟩;subst j;go_wp2_with fail
 refine(q.o).af ?_;rintro e u ⟨rfl,j⟩;subst j;clear s q;rcases (show x.size<y.size∨y.size<x.size∨x.size=y.size by omega) with hs |hs |hs
 ·go_wp2;go_ret;exact⟨by rw[L.o hs];rfl,au _ _⟩
 ·go_wp2;go_ret;exact⟨by rw[J.o hs];rfl,au _ _⟩
 ·clear L J;go_wp2;go_loopw [5] (fun i wr=>∃k:Nat,k<=x.size/\i=.int .i64 k/\Hid (x.data.toList.take k=y.data.toList.take k)/\db u wr) (fun i _=>x.size - (intOf i).toNat)
  case atStart=>exact⟨0,aU _,rfl,rfl,au _ _⟩
  case round=>
   obtain⟨k,K,rfl,H,d⟩:=hrel;by_cases t:k<x.size
   ·have z:k<y.size:=al
    rcases (show x[k].toNat<y[k].toNat∨y[k].toNat<x[k].toNat∨x[k].toNat=y[k].toNat by omega) with c |c |c
    ·have F:=aD (E.o k t z hs H.o c);go_wp2_with fail
     go_quiet (fail)
     go_wp2;go_ret;exact⟨by rw[F.o];rfl,Ta d _⟩
    ·have F:=aD (I.o k z t hs.symm H.o.symm c);go_wp2_with fail
     go_quiet (fail)
     go_wp2_with fail
     go_quiet (fail)
     go_wp2;go_ret;exact⟨by rw[F.o];rfl,Ta (Ta d _) _⟩
    ·have S:Hid (x.data.toList.take (k+1)=y.data.toList.take (k+1)):=by
      show _=_;rw[Mk x k t,Mk y k z,H.o,PO.1 c]
     go_wp2_with fail
     go_quiet (fail)
     go_wp2_with fail
     go_quiet (fail)
     go_wp2;go_roundw
     case rel=>exact⟨k+1,al,b5,S.o,Ta d _⟩
     case measure=>simp[intOf];omega
   ·obtain rfl:k=x.size:=al
    have F:=aD (v.o hs H.o);go_wp2;go_ret;exact⟨by rw[F.o];rfl,d⟩
theorem aiY {y:Nat} {p:Ki} (b:k<p.length) (h0:p[k]?.getD 0=0) (h:nd p+D % 256^k=A % 256^k+c*256^k) (a:Nat) (f:A/256^k % 256+a*256=y+D/256^k % 256+c):
  nd (p.set k y)+D % 256^(k+1)=A % 256^(k+1)+a*256^(k+1):=by
 have s:=Q7 p k y b;have K:p[k]=0:=by rwa [aV b] at h0
 rw[K,nW,iX] at s;rw[s,Kb,Kb A,jw];have e:=ed (fun z=>z*256^k) f;simp only[il] at e;have d:a*256*256^k=a*(256^k*256):=by rw[jh,eB 256]
 rw[d] at e;rw[eB (256^k) (D/256^k % 256),eB (256^k) (A/256^k % 256)];omega
theorem aqV (h:n<=m):0<=jW m n:=by
 rw[jW,aA al];split<;>decide
theorem aiZ {p:Ki} (b:A<256^n) (e:D<=A) (f:nd p<256^n) (h:nd p+D % 256^n=A % 256^n+c*256^n):nd p=A - D:=by
 rw[j6 b,j6 al] at h
 have d:c=0:=by
  rcases yP c with a |a
  ·exact a
  ·have:1*256^n<=c*256^n:=lB _ a;omega
 rw[d] at h;omega
theorem akm (a b:ByteArray) (w:World) (d:a.size<=1000000) (f:b.size<=1000000) (h:N a<N b):
  da 122 #[.string a,.string b] w (du w (.tuple #[.string ⟨#[]⟩,.bool false])):=by
 have c:=acm a b w d f;rw[Zo h] at c;have H:=aD c;clear c h;go_enter Tryz.func122,Tryz.ntmps122;go_wp2_with fail
 refine(H.o).af ?_;rintro e i ⟨rfl,g⟩;go_wp2;go_ret2;exact⟨rfl,g⟩
theorem akl (a b:ByteArray) (w:World) (ha:a.size<=1000000) (Q:b.size<=1000000) (h:N b<=N a):
  da 122 #[.string a,.string b] w (du w (.tuple #[.string (B (N a - N b)),.bool true])):=by
 obtain⟨i0,hi,ai,aj,ak⟩:=eA Tryz.infoInt;have g:=acm a b w ha Q;have q:∃r:Int,jW (N a) (N b)=r/\0<=r:=⟨_,rfl,aqV h⟩;obtain⟨r,q,hr⟩:=q;rw[q] at g;have L:=aD g;have T:=aD (fun V=>oA b V al);have sb:=aL (jK b) Q;have I6:=aD (FU a);have Av:=aD h;have D9:=aD (fun (k:Nat) (V:World) (h:k<=9223372036854775807)=>Iy a k V al h);have u:=fun (k:Nat) (V:World) (h:k<=9223372036854775807)=>Iy (B (N b)) k V al h;rw[dR] at u;have Lv:=aD u;clear g q u h;generalize B (N b)=y' at *;generalize hA:N a=A at *;generalize hD:N b=D at *;clear hA hD;generalize hn:a.size=n at *;go_enter Tryz.func122,Tryz.ntmps122;go_wp2_with fail
 refine(L.o).af ?_;rintro e w1 ⟨rfl,m⟩;clear L;go_wp2_with fail
 refine(T.o _).af ?_;rintro e w9 ⟨rfl,ae⟩;subst ae;clear T
 go_wp2_with (first
  |(at_make;refine qp _ rfl _ _ 27 rfl w9.heap.size 3 i0 (.int .i64 0) 1 Tryz.underlying27 hi ai aj .i64 .i64 _ _ n rfl rfl b5 b5 (by rw[ak];omega) (by unfold maxLen;omega) (ah _) ?_;intro R U ab))
 have I:=rY U;rw[Ke] at I;have S:db w9 R:=(au _ w9).grown ab (ah _) (fun k e=>by cases e);have M:Hid (dK R w9.heap.size (List.replicate n 0)):=I;clear U ab I
 go_loopw [8,9] (fun cv iv wr=>∃(k c:Nat) (p:Ki),k<=n/\iv=.int .i64 k/\cv=.int .i64 c/\c<=1/\p.length=n/\Hid (tD p)/\Hid (∀j,k<=j ->p[j]?.getD 0=0)/\Hid (nd p+D % 256^k=A % 256^k+c*256^k)/\Hid (dK wr w9.heap.size p)/\db w9 wr)
  (fun _ i _=>n - (intOf i).toNat)
 case atStart=>exact⟨0,0,List.replicate n 0,aU _,rfl,rfl,aU _,aE,Zg _,(fun j _=>by rw[Js];split<;>rfl),(show _=_ by rw[V8];simp[Nat.mod_one]),M,S⟩
 case round=>
  obtain⟨k,c,p,hk,rfl,rfl,g,s,t,Z,E,H,f⟩:=hrel;clear M S;by_cases aq:k<n
  ·have O:k<p.length:=al
   have aa:=aD (fun y c'=>aiY (y:=y) O (Z.o k (ah _)) E.o c');have X:=aD (fun V=>D9.o k V al);have Y:=aD (fun V=>Lv.o k V al);have hx:A/256^k % 256<256:=ji _ bd;have hy:D/256^k % 256<256:=ji _ bd;generalize A/256^k % 256=x at *;generalize D/256^k % 256=y at *;have av:=H.o.cell k O;have ao:=H.o.fz k;have P:=aD (fun z=>H.o.set k z);generalize p[k]=pk at *;clear E;by_cases oN:(x:Int) - y - c<0
   ·go_wp2_with (first
     |(have an:=J;go_at_call 121;refine(Y.o _).af ?_;rintro e l ⟨rfl,d⟩;subst d)
     |(go_at_call 121;refine(X.o _).af ?_;rintro e l ⟨rfl,d⟩;subst d;have J:True:=trivial))
    have v:Value.int .i64 ((x:Int) - (y:Int) - (c:Int)+256)=.int .i64 ((x+256 - y - c:Nat):Int):=int_eq al;rw[v];go_roundw
    case rel=>exact⟨k+1,1,p.set k (x+256 - y - c),al,b5,rfl,al,by rw[iq];exact s,Oe t.o _ _ al,Vg Z.o,aa.o _ 1 al,P.o _,f.setCell (ah _) _⟩
    case measure=>simp[intOf];omega
   ·go_wp2_with (first
     |(have an:=J;go_at_call 121;refine(Y.o _).af ?_;rintro e l ⟨rfl,d⟩;subst d)
     |(go_at_call 121;refine(X.o _).af ?_;rintro e l ⟨rfl,d⟩;subst d;have J:True:=trivial))
    have v:Value.int .i64 ((x:Int) - (y:Int) - (c:Int))=.int .i64 ((x - y - c:Nat):Int):=int_eq al;rw[v];go_roundw
    case rel=>exact⟨k+1,0,p.set k (x - y - c),al,b5,rfl,al,by rw[iq];exact s,Oe t.o _ _ al,Vg Z.o,aa.o _ 0 al,P.o _,f.setCell (ah _) _⟩
    case measure=>simp[intOf];omega
  ·obtain rfl:k=n:=al
   have F:=VD w9.heap.size p wr t.o al H.o;have K:=ami p t.o;rw[s] at K;rw[s,aiZ I6.o Av.o K E.o] at F;have vO:=aD F;clear F K;go_wp2_with (go_at_call 123;refine(vO.o).af ?_;rintro e l ⟨rfl,ad⟩)
   go_ret2;exact⟨rfl,(m.trans (f.af m.size)).trans (ad.af (m.trans (f.af m.size)).size)⟩
theorem JN (n:Int) (w:World) (h0: -9223372036854775808<=n) (h1:n<=9223372036854775807):
  da 68 #[.int .i64 n] w (du w (.string (B n.toNat))):=by
 go_enter Tryz.func68,Tryz.ntmps68;go_wp2;go_loopw [0,3] (fun v a wr=>∃(z:Int) (s:ByteArray),v=.int .i64 z/\a=.string s/\ -9223372036854775808<=z/\z<=9223372036854775807/\Hid (bn z.toNat++s.data.toList=bn n.toNat)/\db w wr) (fun v _ _=>(intOf v).toNat)
 case atStart=>exact⟨n,⟨#[]⟩,rfl,rfl,h0,h1,(show _=_ by simp),au _ _⟩
 case round=>
  obtain⟨z,s,rfl,rfl,f,g,H,b⟩:=hrel;by_cases c:0<z
  ·have D:=Jk (P:=Tryz.prog) (wr.alloc (.cells #[.int .u8 (z % 256)] 5)) 148 5 Tryz.underlying148 Tryz.underlying5 wr.heap.size 0 1 1 [z % 256] rfl (fun i h=>by
    (obtain rfl:i=0:=al);rw[bh _ wr.heap.size (0+0) _ _ (0,0) (eM _ _)];rfl) 61 Tryz.underlying61
   have k:Hid (bn (z/256).toNat++(strOfNums [z % 256]++s).data.toList=bn n.toNat):=by
    show _=_;rw[<- H.o,rW z.toNat al,ByteArray.data_append,Array.toList_append,Jj,show (z/256).toNat=z.toNat/256 by omega,ny];(have:UInt8.ofNat (z % 256).toNat=UInt8.ofNat (z.toNat % 256):=by congr 1;omega);simp[this]
   have K:s.size<=8:=by
    have e:=ed List.length H.o;rw[bU,BO] at e;have:=rX 8 n.toNat (by show n.toNat<18446744073709551616;omega);omega
   have d:(strOfNums [z % 256]).size=1:=strOfNums_size _;go_wp2;go_roundw
   case rel=>exact⟨z/256,strOfNums [z % 256]++s,rfl,rfl,al,al,k.o,b.alloc b.size _⟩
   case measure=>simp[intOf];omega
  ·have E:Hid (s=B n.toNat):=by
    show s=_;have:=H.o;rw[show z.toNat=0 by omega,rV,fX] at this;apply Qf;apply Qg.1;rw[this,B]
   go_wp2;go_ret;exact⟨by rw[<- E.o];rfl,b⟩
theorem amk (l:List UInt8) (k:Nat):nb (l.take k)<=nb l:=by
 conv=>rhs;rw[<- yR k l,EM]
 have:nb (l.take k)*1<=nb (l.take k)*256^(l.drop k).length:=mi _ (wk bd);omega
theorem adN (s:ByteArray) (k:Nat) (h:k<s.size):nb (s.data.toList.take (k+1))=nb (s.data.toList.take k)*256+s[k].toNat:=by
 rw[Mk s k h,A9]
theorem adO (s:ByteArray):nb (s.data.toList.take s.size)=N s:=by
 rw[kP (by rw[BO];exact ah _),N]
theorem JK (s:ByteArray) (w:World) (hs:s.size<=7):
  da 175 #[.string s] w fun e w'=>e=.returned (.tuple #[.int .i64 (N s:Nat),.bool true])/\w'=w:=by
 have a:N s<72057594037927936:=aO (FU s) (kN bd hs);have A:=aD (adO s);go_enter Tryz.func175,Tryz.ntmps175;go_wp2;go_loop [4,5] (fun v i=>∃k:Nat,k<=s.size/\i=.int .i64 k/\v=.int .i64 (nb (s.data.toList.take k):Nat)) (fun _ i=>s.size - (intOf i).toNat)
 case atStart=>exact⟨0,aU _,rfl,rfl⟩
 case round=>
  obtain⟨k,b,rfl,rfl⟩:=hrel;by_cases l:k<s.size
  ·have r:=aaF _ s[k].toNat_lt;have t:=adN s k l;have h:=amk s.data.toList (k+1);rw[t] at h;have c:nb (s.data.toList.take k)*256+s[k].toNat<72057594037927936:=Ui h a;have H:=aD t;clear t h a;generalize nb (s.data.toList.take k)=m at *;go_wp2;go_round
   case rel=>exact⟨k+1,al,b5,by rw[H.o];exact int_eq al⟩
   case measure=>simp[intOf];omega
  ·obtain rfl:k=s.size:=al
   rw[A.o];go_wp2;go_ret2;exact⟨rfl,rfl⟩
theorem abN (s:ByteArray) (w:World) (h1:7<s.size) (hs:s.size<=1000000):
  da 175 #[.string s] w fun e w'=>e=.returned (.tuple #[.int .i64 0,.bool false])/\w'=w:=by
 go_enter Tryz.func175,Tryz.ntmps175;go_wp2;go_ret2;exact⟨rfl,rfl⟩
theorem abJ (m:Nat) (h:(B m).size<=7):m<72057594037927936:=aO (Gp m) (kN bd h)
theorem amE {M x y:Nat} {p:Ki} (a:k+m<p.length) (h:nd p+c*256^(k+m)=M+x*256^k*(D % 256^m)) (b:D/256^m % 256=y):
  nd (p.set (k+m) ((c+p[k+m]+x*y) % 256))+(c+p[k+m]+x*y)/256*256^(k+(m+1))=M+x*256^k*(D % 256^(m+1)):=by
 have s:=Q7 p (k+m) ((c+p[k+m]+x*y) % 256) a;have t:=agP (c+p[k+m]+x*y) (256^(k+m));have e:(c+p[k+m]+x*y)*256^(k+m)=c*256^(k+m)+p[k+m]*256^(k+m)+x*y*256^(k+m):=by rw[il,il]
 have f:x*256^k*(D % 256^(m+1))=x*256^k*(D % 256^m)+x*y*256^(k+m):=by
  rw[Kb,b,nX,Ek];congr 1
  rw[jh,jh,eB y,jh]
 rw[f,show k+(m+1)=k+m+1 by omega,jw];omega
theorem amj (l:Ki):∀(j:Nat) (h:j<l.length),l[j]*256^j<=nd l:=by
 induction l with
 |nil=>intro j h;exact absurd h (El _)
 |cons x r ih=>
  intro j h;cases j with
  |zero=>simp only[List.getElem_cons_zero,LN,qA,Ha];omega
  |succ j=>
   (have a:j<r.length:=by simpa using h);have:=ih j a;rw[Us,Ha,jw, <- jh];omega
theorem amF {lb x:Nat} {p:Ki} (d:k+lb<p.length) (b:D<256^lb) (i:A/256^k % 256=x) (h:nd p+c*256^(k+lb)=A % 256^k*D+x*256^k*(D % 256^lb)):
  nd (p.set (k+lb) (p[k+lb]+c))=A % 256^(k+1)*D/\p[k+lb]+c<256:=by
 have s:=Q7 p (k+lb) (p[k+lb]+c) d;rw[j6 b] at h;have f:A % 256^(k+1)*D=A % 256^k*D+x*256^k*D:=by rw[Kb,i,il,eB (256^k) x]
 have e:(p[k+lb]+c)*256^(k+lb)=p[k+lb]*256^(k+lb)+c*256^(k+lb):=il _ _ _;have n:nd (p.set (k+lb) (p[k+lb]+c))=A % 256^(k+1)*D:=by rw[f];omega
 refine⟨n,?_⟩;have g:=amj (p.set (k+lb) (p[k+lb]+c)) (k+lb) (by rw[iq];exact d);rw[n,Gz] at g;have m:A % 256^(k+1)*D<256^(k+1)*256^lb:=LP (ji _ (wk bd)) b;rcases dG (p[k+lb]+c) 256 with a |a
 ·exact a
 ·have j:256*256^(k+lb)<=(p[k+lb]+c)*256^(k+lb):=lB _ a;have l:256^(k+1)*256^lb=256*256^(k+lb):=by rw[<- Ek, <- Nat.pow_succ',show k+1+lb=k+lb+1 by omega]
  omega
theorem akq (a b:ByteArray) (w:World) (ha:a.size<=1000000) (hb:b.size<=1000000):
  da 118 #[.string a,.string b] w (du w (.string (B (N a*N b)))):=by
 obtain⟨i0,hi,aS,aT,a1⟩:=eA Tryz.infoInt;have lW:=aD (oA a w al);have eo:=aD (oA b w al);have sa:=aL (jK a) ha;have sb:=aL (jK b) hb;have Ga:N (B (N a))=N a:=dR _;have F9:N (B (N b))=N b:=dR _;generalize B (N a)=x at *;generalize B (N b)=y at *;have K:=aD (FU x);have I:=aD (FU y);have D9:=aD (fun (k:Nat) (V:World) (h:k<=9223372036854775807)=>Iy x k V al h);have Lv:=aD (fun (k:Nat) (V:World) (h:k<=9223372036854775807)=>Iy y k V al h);have U:=aD (fun (h:x.size<=7) (V:World)=>JK x V h);have s:=aD (fun (h:y.size<=7) (V:World)=>JK y V h);rw[Ga] at K D9 U;rw[F9] at I Lv s;clear Ga F9;generalize hA:N a=A at *;generalize hD:N b=D at *;clear hA hD ha hb;go_enter Tryz.func118,Tryz.ntmps118;go_wp2_with fail
 refine(lW.o).af ?_;rintro e f ⟨rfl,l⟩;subst l;go_wp2_with fail
 refine(eo.o).af ?_;rintro e f ⟨rfl,l⟩;subst l;clear lW eo;by_cases ai:x.size+y.size<=7
 ·have hp:A*D<72057594037927936:=by
   have v:A*D<256^x.size*256^y.size:=LP K.o I.o;rw[<- Ek] at v;exact aO v (kN bd ai)
  have E5:(0:Int)<=(A:Int)*(D:Int):=Int.mul_nonneg al al
  have C6:(A:Int)*(D:Int)<72057594037927936:=by
   (have r:((A*D:Nat):Int)<72057594037927936:=al);rwa [mo] at r
  have HO:=aD (fun V=>JN ((A:Int)*(D:Int)) V al al);have aj:((A:Int)*(D:Int)).toNat=A*D:=by rw[<- mo,qE]
  rw[aj] at HO;have aN:=aD (fun V=>U.o al V);have ay:=aD (fun V=>s.o al V);have Y:=aD E5;have P:=aD C6;have Rz:(x.size:Int)+(y.size:Int)<=7:=al
  clear U s aj hp E5 C6 ai;go_wp2_with fail
  refine(aN.o _).af ?_;rintro e E ⟨rfl,l⟩;subst l;go_wp2_with fail
  refine(ay.o _).af ?_;rintro e E ⟨rfl,l⟩;subst l
  have bg:IntKind.i64.wrap ((A:Int)*(D:Int))=(A:Int)*(D:Int):=by
   have v:=Y.o;have r:=P.o;rw[jk];omega
  have WQ:wrap64 ((A:Int)*(D:Int))=(A:Int)*(D:Int):=by
   have v:=Y.o;have r:=P.o;rw[wrap64];omega
  clear Y P;go_wp2_with fail
  refine(HO.o _).af ?_;rintro e S ⟨rfl,aa⟩;go_wp2;go_ret;exact⟨rfl,aa⟩
 ·clear U s
  go_wp2_with (first
   |(at_make;refine qp _ rfl _ _ 27 rfl f.heap.size 3 i0 (.int .i64 0) 1 Tryz.underlying27 hi aS aT .i64 .i64 _ _ (x.size+y.size+1) rfl rfl b5 b5 (by rw[a1];omega) (by unfold maxLen;omega) (ah _) ?_;intro E ak ao))
  have Z:=rY ak;rw[Ke] at Z;have ad:db f E:=(au _ f).grown ao (ah _) (fun k e=>by cases e);have HI:Hid (dK E f.heap.size (List.replicate (x.size+y.size+1) 0)):=Z;clear ak ao Z
  go_loopw [10] (fun iv wr=>∃(k:Nat) (p:Ki),k<=x.size/\iv=.int .i64 k/\p.length=x.size+y.size+1/\Hid (tD p)/\Hid (nd p=A % 256^k*D)/\Hid (dK wr f.heap.size p)/\db f wr)
   (fun i _=>x.size - (intOf i).toNat)
  case atStart=>exact⟨0,List.replicate (x.size+y.size+1) 0,aU _,rfl,aE,Zg _,(show _=_ by rw[V8];simp[Nat.mod_one]),HI,ad⟩
  case round=>
   obtain⟨k,p,hk,rfl,ae,Q,J,R,u⟩:=hrel;clear HI ad;obtain⟨wo,bf⟩:∃wo:World,wo=wr:=⟨_,rfl⟩;by_cases a8:k<x.size
   ·have HX:=aD (fun V=>D9.o k V al);have hx:A/256^k % 256<256:=ji _ bd;have a6:=aD (fun (c:Nat) (q:Ki) (hq:k+y.size<q.length)=>amF (A:=A) (D:=D) (k:=k) (lb:=y.size) (c:=c) (p:=q) hq I.o rfl);generalize A/256^k % 256=g at *;go_wp2_with (go_at_call 121;refine(HX.o _).af ?_;rintro e S ⟨rfl,ab⟩;subst ab)
    go_loopw [12,13] (fun cv jv wr=>∃(m c:Nat) (q:Ki),m<=y.size/\jv=.int .i64 m/\cv=.int .i64 c/\c<=255/\q.length=x.size+y.size+1/\Hid (tD q)/\Hid (nd q+c*256^(k+m)=A % 256^k*D+g*256^k*(D % 256^m))/\Hid (dK wr f.heap.size q)/\db f wr)
     (fun _ j _=>y.size - (intOf j).toNat)
    case atStart=>
     refine⟨0,0,p,aU _,rfl,rfl,aU _,ae,Q.o,?_,R,u⟩;show _=_;rw[J.o];simp[Nat.mod_one]
    case round=>
     obtain⟨m,c,q,hm,rfl,rfl,hc,eO,T,H,L,zV⟩:=hrel;clear R u Q J;by_cases XD:m<y.size
     ·have F:k+m<q.length:=al
      have HY:=aD (fun V=>Lv.o m V al);have CW:D/256^m % 256<256:=ji _ bd;have an:=amE (y:=D/256^m % 256) F H.o rfl;have a7:=L.o.cell (k+m) F;have bb:=T.o q[k+m] (bP F);have aQ:=L.o.fz (k+m);have X:=aD (fun z=>L.o.set (k+m) z);generalize D/256^m % 256=n at *;generalize q[k+m]=d at *;have aq:=aD an;have M6:g*n<=255*255:=kp al al;have ax:(0:Int)<=(g:Int)*(n:Int):=Int.mul_nonneg al al
      have av:(g:Int)*(n:Int)<=65025:=by
       (have r:((g*n:Nat):Int)<=65025:=al);rwa [mo] at r
      clear an H;go_wp2_with (go_at_call 121;refine(HY.o _).af ?_;rintro e S ⟨rfl,ab⟩;subst ab)
      have wK:(g:Int)*(n:Int)=((g*n:Nat):Int):=(mo _ _).symm;rw[wK];clear ax av wK;generalize g*n=t at *;have M:Value.int .i64 (((c:Int)+(d:Int)+(t:Int)) % 256)=.int .i64 (((c+d+t) % 256:Nat):Int):=int_eq al;have aR:Value.int .i64 (((c:Int)+(d:Int)+(t:Int))/256)=.int .i64 (((c+d+t)/256:Nat):Int):=int_eq al;rw[M,aR];go_roundw
      case rel=>exact⟨m+1,(c+d+t)/256,q.set (k+m) ((c+d+t) % 256),al,b5,rfl,al,by rw[iq];exact eO,Oe T.o _ _ (ji _ bd),aq.o,X.o _,zV.setCell (ah _) _⟩
      case measure=>simp[intOf];omega
     ·obtain rfl:m=y.size:=al
      (have F:k+y.size<q.length:=al);obtain⟨lO,Ry⟩:=a6.o c q F H.o;have a7:=L.o.cell (k+y.size) F;have aQ:=L.o.fz (k+y.size);have X:=aD (fun z=>L.o.set (k+y.size) z);generalize q[k+y.size]=d at *;have TX:=aD lO;clear lO H;go_wp2;have M:Value.int .i64 ((d:Int)+(c:Int))=.int .i64 ((d+c:Nat):Int):=int_eq al;rw[M];go_roundw
      case rel=>exact⟨k+1,q.set (k+y.size) (d+c),al,b5,by rw[iq];exact eO,Oe T.o _ _ Ry,TX.o,X.o _,zV.setCell (ah _) _⟩
      case measure=>simp[intOf];omega
   ·obtain rfl:k=x.size:=al
    have O:=VD f.heap.size p wr Q.o al R.o;rw[ae,J.o,j6 K.o] at O;have vO:=aD O;clear O;go_wp2_with (go_at_call 123;refine(vO.o).af ?_;rintro e S ⟨rfl,aa⟩)
    go_ret;exact⟨rfl,u.trans (aa.af u.size)⟩
variable {d:Nat}
def bv (d:Nat):Value:=.int .u8 (d:Int)
def K9 (w:World) (base:Nat) (v:Value) (l:Ki):Prop:=w.ownsRow base 5 1 v l.length (l.map bv)
def qn (l:Ki):Nat:=l.foldl (fun n d=>n*256+d) 0
theorem acq (l:Ki) (d:Nat):qn (l++[d])=qn l*256+d:=by simp[qn]
theorem aqw {l:Ki} (h:tD l) (c:d<256):tD (l++[d]):=fun x b=>by
 rcases aZ.1 b with a |a
 ·exact h x a
 ·simp at a;omega
theorem ase (l:Ki):tD l ->N (strOfNums (l.map Int.ofNat))=qn l:=by
 induction l using JH with
 |h0=>intro _;rfl
 |h1 l d ih=>
  intro h;have h1:=ih fun x a=>h x (Eo _ a);have b:=h d (LV _ (dS.2 rfl));rw[N,Jj] at h1⊢;rw[eh,eh,fG,ng,fG,ng,A9,h1,acq];have:(UInt8.ofNat (Int.ofNat d).toNat).toNat=d:=by simp;omega
  rw[this]
theorem aqu {P:Nat} (h:0<D):(P*256+c)/D=P/D*256+(P % D*256+c)/D/\(P*256+c) % D=(P % D*256+c) % D:=by
 have e:P*256+c=P % D*256+c+P/D*256*D:=by
  have:=Nat.div_add_mod P D;have f:P/D*256*D=D*(P/D)*256:=by rw[Nat.mul_right_comm,eB (P/D) D]
  omega
 rw[e,Ul _ _ h,Uk];exact⟨En _ _,rfl⟩
theorem ash (s x:ByteArray) (k:Nat) (h:k<x.size):N (s++x.extract k (k+1))=N s*256+x[k].toNat:=by
 have e:(x.extract k (k+1)).data.toList=[x[k]]:=by
  rw[ByteArray.data_extract,Array.toList_extract,List.extract_eq_take_drop,show k+1 - k=1 by omega,qD (by rw[BO];exact h)];rfl
 rw[N,ByteArray.data_append,Array.toList_append,e,A9];rfl
theorem al0 (x:ByteArray) (k:Nat) (h:k<x.size):(x.extract k (k+1)).size=1:=by
 rw[ByteArray.size_extract];omega
theorem akx (a b:ByteArray) (w:World) (n:a.size<=1000000) (p:b.size<=1000000) (h:N b≠0) (h1:(B (N a)).size<=7) (f:(B (N b)).size<=7):
  da 120 #[.string a,.string b] w (du w (.tuple #[.string (B (N a/N b)),.string (B (N a % N b)),.bool true])):=by
 have t:=aD (oA a w al);have l:=aD (oA b w al);have j:N (B (N a))=N a:=dR _;have F:N (B (N b))=N b:=dR _;have Q:=Ei h;have I:=abJ _ h1;have J:=abJ _ f;generalize B (N a)=x at *;generalize B (N b)=y at *;have m:=aD (fun (V:World)=>JK x V h1);have i:=aD (fun (V:World)=>JK y V f);rw[j] at m;rw[F] at i;clear j F;generalize hA':N a=A at *;generalize Fx:N b=D at *;clear hA' Fx n p h1 f
 have P:(A:Int)/(D:Int)<=A:=by
  rw[<- AR];have:=AL A D;omega
 have Z:0<=(A:Int)/(D:Int):=Int.ediv_nonneg al al
 have T:(A:Int) % (D:Int)<=A:=by
  rw[<- wB];have:=Nat.mod_le A D;omega
 have M:0<=(A:Int) % (D:Int):=Int.emod_nonneg _ al;have q:=fun V=>JN ((A:Int)/(D:Int)) V al al;have r:=fun V=>JN ((A:Int) % (D:Int)) V al al;rw[<- AR,qE,AR] at q;rw[<- wB,qE,wB] at r;have H:=aD q;have R:=aD r;clear q r;have E:0<D:=lA h;go_enter Tryz.func120,Tryz.ntmps120;go_wp2_with fail
 refine(t.o).af ?_;rintro e u ⟨rfl,c⟩;subst c;go_wp2_with fail
 refine(l.o).af ?_;rintro e u ⟨rfl,c⟩;subst c;go_wp2_with fail
 refine(m.o _).af ?_;rintro e d ⟨rfl,c⟩;subst c;go_wp2_with fail
 refine(i.o _).af ?_;rintro e d ⟨rfl,c⟩;subst c;go_upto_region 8 with fail
 have K:¬(D:Int)=0:=al
 have U:IntKind.i64.wrap ((A:Int)/(D:Int))=(A:Int)/(D:Int):=by rw[jk];omega
 have X:IntKind.i64.wrap ((A:Int) % (D:Int))=(A:Int) % (D:Int):=by rw[jk];omega
 have g:=(au d.heap.size d).drew
 go_region_held3 (fun V=>Hid (db d V))
  (first |exact k |exact S |exact g)
  (first
   |(have s:=S;go_at_call 68;refine(R.o _).af ?_;rintro e O ⟨rfl,z⟩;have k:=s.trans (z.af s.size))
   |(go_at_call 68;refine(H.o _).af ?_;rintro e L ⟨rfl,v⟩;have S:=g.trans (v.af g.size)))
 go_wp2;go_ret3
 exact⟨rfl,k⟩
theorem K9.cases {base:Nat} {v:Value} {l:Ki} (h:K9 w base v l):(v=.slice none 0 0/\l=[])∨∃g cap,v=.slice (some ⟨g,0,none⟩) l.length cap/\∀j,j<l.length ->w.cell? ⟨g,j,none⟩=some (.int .u8 (l[j]?.getD 0:Nat)):=by
 rcases h.2 with ⟨a,n⟩ |⟨g,cap,c,a,r⟩
 ·exact .inl ⟨a,Qa n⟩
 ·subst a;refine .inr ⟨g,cap,rfl,fun j b=>?_⟩;rw[World.ownsRow.cellAt h j al,kq,aV b];rfl
theorem ags {R:Nat} {y:ByteArray} (b:N y=D) (a:R<256*D) (hs:y.size<=500000) (d:Nat):(B (R - d*D)).size<=1000000:=by
 have c:=kW (aL (Nat.sub_le R (d*D)) (AH a));have e:=A0 256 D;have h:=jK y;rw[b] at h;have f:(B 256).size<=2:=by rw[mY];exact rX 2 256 bd
 omega
theorem aqv {R:Nat} (h:0<D) (h1:d*D<=R) (a:¬D<=R - d*D):R/D=d/\R % D=R - d*D:=by
 have e:R=(R - d*D)+d*D:=al
 constructor
 ·rw[e,Ul _ _ h,yQ al];omega
 ·conv=>lhs;rw[e]
  rw[Uk,j6 al]
theorem aky (a b:ByteArray) (w:World) (ha:a.size<=500000) (hb:b.size<=500000) (h:N b≠0) (ak:¬((B (N a)).size<=7/\(B (N b)).size<=7)):
  da 120 #[.string a,.string b] w (du w (.tuple #[.string (B (N a/N b)),.string (B (N a % N b)),.bool true])):=by
 obtain⟨i0,F,aT,a1,a6⟩:=eA Tryz.infoByte;have lW:=aD (oA a w al);have eo:=aD (oA b w al);have Ga:N (B (N a))=N a:=dR _;have F9:N (B (N b))=N b:=dR _;have a7:=Ei h;have sa:=aL (jK a) ha;have sb:=aL (jK b) hb;generalize B (N a)=x at *;generalize hy:B (N b)=y at *;have L:=aD F9;have HX:=aD (adO x);rw[Ga] at HX;have S:0<N b:=lA h;clear Ga F9;have mU:=aD (fun (V:World)=>if f:x.size<=7 then Exists.intro (p:=fun r:Value×Value=>r.2=.bool (decide (x.size<=7))/\da 175 #[.string x] V fun e w'=>e=.returned (.tuple #[r.1,r.2])/\w'=V) (.int .i64 (N x:Nat),.bool true) ⟨by simp[f],JK x V f⟩ else⟨(.int .i64 0,.bool false),by simp[f],abN x V al al⟩);have B5:=aD (fun (V:World)=>if f:y.size<=7 then Exists.intro (p:=fun r:Value×Value=>r.2=.bool (decide (y.size<=7))/\da 175 #[.string y] V fun e w'=>e=.returned (.tuple #[r.1,r.2])/\w'=V) (.int .i64 (N y:Nat),.bool true) ⟨by simp[f],JK y V f⟩ else⟨(.int .i64 0,.bool false),by simp[f],abN y V al al⟩);generalize hA':N a=A at *;generalize Fx:N b=D at *;clear hA' Fx ha hb hy;go_enter Tryz.func120,Tryz.ntmps120;go_wp2_with fail
 refine(lW.o).af ?_;rintro e U ⟨rfl,j⟩;subst j;go_wp2_with fail
 refine(eo.o).af ?_;rintro e U ⟨rfl,j⟩;subst j;clear lW eo;obtain⟨⟨p1,p2⟩,x8,Co⟩:=mU.o U;obtain⟨⟨q1,q2⟩,sR,tA⟩:=B5.o U;simp only at x8 sR;subst x8 sR;have an:=aD Co;have ao:=aD tA;clear Co tA mU B5
 have aR:(decide (x.size<=7)=false)∨(decide (x.size<=7)=true/\decide (y.size<=7)=false):=by
  by_cases f:x.size<=7
  ·exact .inr ⟨bX f,cF fun h8=>ak ⟨f,h8⟩⟩
  ·exact .inl (cF f)
 clear ak;generalize decide (x.size<=7)=t1 at *;generalize decide (y.size<=7)=t2 at *;go_wp2_with fail
 refine(an.o).af ?_;rintro e m ⟨rfl,j⟩;subst j;go_wp2_with fail
 refine(ao.o).af ?_;rintro e m ⟨rfl,j⟩;subst j;clear an ao;rcases aR with rfl |⟨rfl,rfl⟩
 all_goals
  go_wp2
  go_loopw [11,12,13] (fun qv rv iv wr=>∃(k:Nat) (ql:Ki),k<=x.size/\iv=.int .i64 k/\rv=.string (B (nb (x.data.toList.take k) % D))/\ql.length=k/\Hid (tD ql)/\Hid (qn ql=nb (x.data.toList.take k)/D)/\Hid (K9 wr m.heap.size qv ql)/\db m wr)
   (fun _ _ i _=>x.size - (intOf i).toNat)
  case atStart=>exact⟨0,[],aU _,rfl,(by rw[PZ,Hb,Nat.zero_mod,Cs]),rfl,(fun x hx=>by cases hx),(show _=_ by rw[PZ,Hb,Nat.zero_div];rfl),World.ownsRow_nil _ _ _ _,au _ _⟩
  case round=>
   obtain⟨k,ql,hk,rfl,rfl,O,I,E,u,l⟩:=hrel;by_cases aa:k<x.size
   ·have ab:=al0 x k aa;have T:=ash (B (nb (x.data.toList.take k) % D)) x k aa;rw[dR] at T;have ay:=adN x k aa;obtain⟨K,X⟩:=aqu (P:=nb (x.data.toList.take k)) (D:=D) (c:=x[k].toNat) S;rw[<- ay] at K X;have ax:nb (x.data.toList.take k) % D<D:=ji _ S;have aS:=x[k].toNat_lt;have a8:(B (nb (x.data.toList.take k) % D)).size<=500000:=aL (kW (AH ax)) (by have:=jK y;rw[L.o] at this;omega);(have yH:Hid (nb (x.data.toList.take (k+1))/D=qn ql*256+(nb (x.data.toList.take k) % D*256+x[k].toNat)/D):=by show _=_;rw[K,E.o]);have gR:=aD X;(have hR:nb (x.data.toList.take k) % D*256+x[k].toNat<256*D:=al);clear ay K X E aS ax;generalize nb (x.data.toList.take k) % D*256+x[k].toNat=R at *;generalize B (nb (x.data.toList.take k) % D)=rs at *;(have aQ:(rs++x.extract k (k+1)).size<=1000001:=by rw[ByteArray.size_append,ab];omega);have H:=aD (fun V=>oA (rs++x.extract k (k+1)) V al);rw[T] at H;clear T aQ
    have ai:=aD (fun (d:Nat) (V:World) (v:d*D<=R) (h2:D<=R - d*D)=>by
     have hs:=akl (B (R - d*D)) y V (ags L.o hR sb d) al (by rw[dR,L.o];exact h2);rw[dR,L.o,show R - d*D - D=R - (d+1)*D by rw[il,kO];omega] at hs;exact hs)
    have Ap:=aD (fun (d:Nat) (V:World) (h2:¬D<=R - d*D)=>akm (B (R - d*D)) y V (ags L.o hR sb d) al (by rw[dR,L.o];omega));go_wp2_with (go_at_call 119;refine(H.o _).af ?_;rintro e Y ⟨rfl,s⟩;subst s)
    clear H;go_loopw [12,14] (fun rv dv wi=>∃d:Nat,d*D<=R/\rv=.string (B (R - d*D))/\dv=.int .i64 d/\db Y wi) (fun _ dv _=>256 - (intOf dv).toNat)
    case atStart=>exact⟨0,al,by rw[nW,Nat.sub_zero],rfl,au _ _⟩
    case round=>
     obtain⟨d,z,rfl,rfl,n⟩:=hrel
     have aN:d<256:=by
      rcases dG d 256 with v |v
      ·exact v
      ·have:=lB D v;omega
     by_cases q:D<=R - d*D
     ·have pY:(d+1)*D<=R:=by rw[il,kO];omega
      have t:=aD (fun V=>ai.o d V z q);clear z q;go_wp2_with fail
      refine(t.o _).af ?_;rintro e Z ⟨rfl,J⟩;go_wp2;go_roundw
      case rel=>exact⟨d+1,pY,rfl,b5,n.trans (J.af n.size)⟩
      case measure=>simp[intOf];omega
     ·have t:=aD (fun V=>Ap.o d V q);obtain⟨hq,hr⟩:=aqv S z q;(have tr:Hid (qn (ql++[d])=nb (x.data.toList.take (k+1))/D):=by show _=_;rw[acq,yH.o,hq]);(have dr:Hid (R - d*D=nb (x.data.toList.take (k+1)) % D):=by show _=_;rw[gR.o,hr]);clear hq hr z q ai Ap gR yH;go_wp2_with fail
      refine(t.o _).af ?_;rintro e Z ⟨rfl,J⟩;have ae:K9 Z m.heap.size _ ql:=QY (QY u.o n (ah _)) J (ah _);have Q:=(l.trans (n.af l.size)).trans (J.af (l.trans (n.af l.size)).size);have lN:=Q.size;rw[dr.o];clear dr t;go_wp2_with (at_builtin;refine AE _ rfl _ _ 148 rfl m.heap.size 5 i0 (.int .u8 0) 1 1 Tryz.underlying148 F aT a1 a6 rfl bd _ _ _ rfl (LI ae _) ⟨Z.heap.size,0,none⟩ 1 1 [.int .u8 (d:Nat)] rfl rfl (cell_one_new _ _ _) (by simp[Value.oneCell']) (by unfold maxLen;omega) al (by simp;omega) ?_;intro v' w5 RJ Nr _)
      have Ir:db m w5:=(Q.alloc Q.size _).grown Nr (by simp;omega) (fun k hk=>(World.ownsRow.lt ae k hk).1);go_wp2;go_roundw
      case rel=>
       refine⟨k+1,ql++[d],al,b5,rfl,by rw[bU,O];rfl,aqw I.o aN,tr.o,?_,Ir⟩;(have e:(ql++[d]).length=ql.length+1:=aE);show K9 _ _ _ _;rw[K9,e];simpa [bv] using RJ
      case measure=>simp[intOf];omega
   ·obtain rfl:k=x.size:=al
    rw[HX.o] at E⊢;have M:=ase ql I.o;rw[E.o] at M;rcases u.o.cases with ⟨rfl,rfl⟩ |⟨g,cap,rfl,av⟩
    ·have H:=aD (fun V=>oA ⟨#[]⟩ V (by show 0<=_;omega));have aj:N ⟨#[]⟩=A/D:=M;rw[aj] at H;have BD:=run_convert_bytes_nil (P:=Tryz.prog) wr 148 5 Tryz.underlying148 Tryz.underlying5 0 0 61 Tryz.underlying61;rw[show ByteArray.empty=⟨#[]⟩ from rfl] at BD;clear M aj u I E O;go_wp2_with (go_at_call 119;refine(H.o _).af ?_;rintro e Y ⟨rfl,s⟩;subst s)
     go_ret3
     exact⟨rfl,l⟩
    ·have ad:(ql.map Int.ofNat).length=ql.length:=aE
     have aq:∀i,i<ql.length ->wr.cell? ⟨g,0+i,none⟩=some (.int .u8 ((ql.map Int.ofNat).getD i 0)):=fun i F=>by
      rw[bH,av i F];simp[bF,aV F]
     have BD:=Jk (P:=Tryz.prog) wr 148 5 Tryz.underlying148 Tryz.underlying5 g 0 ql.length cap (ql.map Int.ofNat) ad aq 61 Tryz.underlying61
     have ab:(strOfNums (ql.map Int.ofNat)).size<=140737488355328:=by
      rw[strOfNums_size,ad];omega
     clear ad O;have H:=aD (fun V=>oA (strOfNums (ql.map Int.ofNat)) V ab);rw[M] at H;clear M u I E av aq;go_wp2_with (go_at_call 119;refine(H.o _).af ?_;rintro e Y ⟨rfl,s⟩;subst s)
     go_ret3
     exact⟨rfl,l⟩
theorem ack (a b:ByteArray) (w:World) (c:a.size<=500000) (d:b.size<=500000) (h:N b≠0):
  da 120 #[.string a,.string b] w (du w (.tuple #[.string (B (N a/N b)),.string (B (N a % N b)),.bool true])):=by
 by_cases hs:(B (N a)).size<=7/\(B (N b)).size<=7
 ·exact akx a b w al al h hs.1 hs.2
 ·exact aky a b w c d h hs
theorem Vn (m n:Nat) (w:World) (a:(B m).size<=500000) (b:(B n).size<=500000) (h:n≠0):
  da 120 #[.string (B m),.string (B n)] w (du w (.tuple #[.string (B (m/n)),.string (B (m % n)),.bool true])):=by
 have:=ack (B m) (B n) w a b (by rw[dR];exact h);rwa [dR,dR] at this
theorem aku (a b:ByteArray) (w:World) (i:a.size<=500000) (j:b.size<=500000):
  da 145 #[.string a,.string b] w (du w (.string (B (Nat.gcd (N a) (N b))))):=by
 have l:=aD (oA a w al);have g:=aD (oA b w al);have s:=aL (jK a) i;have t:=aL (jK b) j;generalize hA':N a=A at *;generalize Fx:N b=D at *;clear hA' Fx i j;go_enter Tryz.func145,Tryz.ntmps145;go_wp2_with fail
 refine(l.o).af ?_;rintro e k ⟨rfl,f⟩;subst f;go_wp2_with fail
 refine(g.o).af ?_;rintro e k ⟨rfl,f⟩;subst f;clear l g;go_wp2;go_loopg [0,1] D (fun r vx vy wr=>∃m:Nat,vx=.string (B m)/\vy=.string (B r)/\(B m).size<=500000/\(B r).size<=500000/\Hid (Nat.gcd m r=Nat.gcd A D)/\db k wr)
 case atStart=>exact⟨A,rfl,rfl,s,t,rfl,au _ _⟩
 case round=>
  obtain⟨m,rfl,rfl,q,d,H,c⟩:=hrel;by_cases h:gk=0
  ·subst h;rw[Cs];(have E:Hid (m=Nat.gcd A D):=by show _=_;rw[<- H.o,Nat.gcd_zero_right]);go_wp2;go_ret;exact⟨by rw[<- E.o];rfl,c⟩
  ·have y:=Ei h;have p:=aD (fun V=>Vn m gk V q d h);have n:=ji m (lA h);have z:=aL (kW (AH n)) d;(have x:Hid (Nat.gcd gk (m % gk)=Nat.gcd A D):=by show _=_;rw[<- H.o,LR m gk,Nat.gcd_rec gk m,LR]);go_wp2_with fail
   refine(p.o _).af ?_;rintro e v ⟨rfl,u⟩;go_wp2;go_roundg (m % gk)
   case measure=>exact n
   case rel=>exact⟨gk,rfl,rfl,d,z,x.o,c.trans (u.af c.size)⟩
variable {neg:Bool} {den num:ByteArray}
def sg (neg:Bool) (n:Nat):Int:=if neg then -(n:Int) else(n:Int)
theorem Qy (neg:Bool) (n:Nat):(sg neg n).natAbs=n:=by cases neg<;>simp[sg]
theorem abT (neg:Bool):sg neg 0=0:=by cases neg<;>rfl
theorem ajz (neg:Bool) (n:Nat):sg (!neg) n= -sg neg n:=by cases neg<;>simp[sg]
theorem ajA (a b:Bool) (m n:Nat):sg (a !=b) (m*n)=sg a m*sg b n:=by cases a<;>cases b<;>simp[sg,Int.neg_mul,Int.mul_neg]
theorem abU (a:Bool) (m n:Nat):sg a m*(n:Int)=sg a (m*n):=by cases a<;>simp[sg,Int.neg_mul]
theorem ajB:sg neg n=0↔n=0:=by cases neg<;>simp[sg]
theorem ajC (neg:Bool) (n g:Nat) (h:g∣n):sg neg n/(g:Int)=sg neg (n/g):=by
 cases neg
 ·simp[sg]
 ·simp only[sg,if_true];rw[Int.neg_ediv_of_dvd (Int.natCast_dvd_natCast.2 h)];simp
theorem Rc {n:Int} (h:d≠0):mkRat n d=Rat.normalize n d h:=by rw[mkRat,dif_neg h]
theorem adX {n:Int} (h:d≠0):(mkRat n d).num=n/(Nat.gcd n.natAbs d:Int):=by rw[Rc h,Rat.normalize_eq]
theorem am2 {n:Int} (h:d≠0):(mkRat n d).den=d/Nat.gcd n.natAbs d:=by rw[Rc h,Rat.normalize_eq]
theorem am1 (neg:Bool) (a d:Nat) (h:a≠0) (b:d≠0):decide ((mkRat (sg neg a) d).num<0)=neg/\(mkRat (sg neg a) d).num.natAbs=a/Nat.gcd a d/\(mkRat (sg neg a) d).den=d/Nat.gcd a d:=by
 have g:Nat.gcd a d∣a:=Nat.gcd_dvd_left _ _;have i:0<Nat.gcd a d:=Nat.gcd_pos_of_pos_left _ (lA h);rw[adX b,am2 b,Qy,ajC neg a _ g,Qy];refine⟨?_,rfl,rfl⟩;have q:0<a/Nat.gcd a d:=Nat.div_pos (Nat.le_of_dvd (lA h) g) i;cases neg
 ·simp only[sg];simp;omega
 ·simp only[sg];simp;omega
def val (neg:Bool) (num den:ByteArray):Rat:=mkRat (sg neg (N num)) (N den)
theorem aaW (h:N num=0):val neg num den=0:=by rw[val,h,abT,PQ]
theorem L9 (h:N den=0):val neg num den=0:=by rw[val,h,Rat.mkRat_zero]
theorem L8:val neg num den=0↔N num=0∨N den=0:=by
 constructor
 ·intro h;by_cases d:N den=0
  ·exact .inr d
  ·rw[val,Rat.mkRat_eq_zero d,ajB] at h;exact .inl h
 ·rintro(h |h)
  ·exact aaW h
  ·exact L9 h
theorem aib (neg:Bool) (num den:ByteArray):val (!neg) num den= -val neg num den:=by rw[val,val,ajz,Rat.neg_mkRat]
theorem val_mul (a b:Bool) (x y u v:ByteArray):mkRat (sg (a !=b) (N x*N u)) (N y*N v)=val a x y*val b u v:=by rw[val,val,Rat.mkRat_mul_mkRat,ajA]
theorem val_add (a b:Bool) (x y u v:ByteArray) (c:N y≠0) (h:N v≠0):mkRat (sg a (N x*N v)+sg b (N u*N y)) (N y*N v)=val a x y+val b u v:=by
 rw[val,val,Rat.mkRat_add_mkRat _ _ c h,abU,abU]
theorem UL (neg:Bool) (x y:ByteArray) (a:N x≠0) (b:N y≠0):val neg y x=(val neg x y)⁻¹:=by
 have h:val neg x y*val neg y x=1:=by
  rw[<- val_mul];have:sg (neg !=neg) (N x*N y)=((N x*N y:Nat):Int)*1:=by cases neg<;>simp[sg]
  rw[this,eB (N y) (N x), <- qA (N x*N y),mo (N x*N y) 1,Int.natCast_one,Int.mul_one,Rat.mkRat_mul_left (Gt a b)];rfl
 grind
def C (q:Rat):Value:=.agg #[.bool (decide (q.num<0)),.string (B q.num.natAbs),.string (B q.den)]
theorem Gn:C 0=.agg #[.bool false,.string ⟨#[]⟩,.string (B 1)]:=by
 show Value.agg #[_,.string (B 0),.string (B 1)]=_;rw[Cs];rfl
theorem aic (q:Rat):val (decide (q.num<0)) (B q.num.natAbs) (B q.den)=q:=by
 rw[val,dR,dR]
 have:sg (decide (q.num<0)) q.num.natAbs=q.num:=by
  by_cases h:q.num<0
  ·simp[sg,h];omega
  ·simp[sg,h];omega
 rw[this,Rat.mkRat_self]
theorem Uc (neg:Bool) (a d:Nat) (e:a≠0) (f:d≠0):C (mkRat (sg neg a) d)=.agg #[.bool neg,.string (B (a/Nat.gcd a d)),.string (B (d/Nat.gcd a d))]:=by
 obtain⟨h,b,c⟩:=am1 neg a d e f;rw[C,h,b,c]
def qw (q:Rat):Nat:=(B q.num.natAbs).size+(B q.den).size
theorem aco {n:Int} (b:d≠0):qw (Rat.normalize n d b)<=(B n.natAbs).size+(B d).size:=by
 rw[Rat.normalize_eq]
 have a:(n/(Nat.gcd n.natAbs d:Int)).natAbs<=n.natAbs:=by
  have g:((Nat.gcd n.natAbs d:Nat):Int)∣n:=by have h:=Int.natCast_dvd_natCast.2 (Nat.gcd_dvd_left n.natAbs d);rwa [Int.dvd_natAbs] at h
  rw[Int.natAbs_ediv_of_dvd g];exact AL _ _
 have s:=kW a;have c:=kW (AL d (Nat.gcd n.natAbs d));simp only[qw];omega
theorem Vp:qw 0<=1:=by
 show (B 0).size+(B 1).size<=1;rw[Cs];have:=Ud;have:(⟨#[]⟩:ByteArray).size=0:=rfl;omega
theorem JO (neg:Bool) (num den:ByteArray):qw (val neg num den)<=num.size+den.size+1:=by
 by_cases d:N den=0
 ·rw[L9 d];have:=Vp;omega
 ·rw[val,Rc d];have:=aco (n:=sg neg (N num)) d;rw[Qy] at this;have:=jK num;have:=jK den;omega
def kH (p q:Rat):Int:=if p<q then -1 else if p=q then 0 else 1
theorem am0 (neg:Bool) (n d:Nat) (a:d≠0) (b:n≠0):(neg=true ->mkRat (sg neg n) d<0)/\(neg=false ->0<mkRat (sg neg n) d):=by
 have p:∀m:Nat,m≠0 ->0<mkRat (m:Int) d:=fun m g=>by
  have c:0<=mkRat (m:Int) d:=by
   rw[<- Rat.num_nonneg,adX a];exact Int.ediv_nonneg al al
  have f:mkRat (m:Int) d≠0:=by rw[Ne,Rat.mkRat_eq_zero a];omega
  grind
 constructor
 ·rintro rfl;have h:=p n b;have e:mkRat (sg true n) d= -mkRat (n:Int) d:=by rw[Rat.neg_mkRat];rfl
  rw[e];grind
 ·rintro rfl;exact p n b
variable {fn:Func}
theorem zi (a:ByteArray) (w:World):
  da 157 #[.string a] w fun e w'=>e=.returned (.bool (decide (N a=0)))/\w'=w:=by
 have c:(jW (N a) (N ⟨#[]⟩)==0)=decide (N a=0):=by
  rw[ahg,jW];by_cases h:N a=0
  ·simp[h]
  ·simp[h]
 have H:=aD c;clear c;go_enter Tryz.func157,Tryz.ntmps157;go_wp2_with fail
 refine(aau a ⟨#[]⟩ _).af ?_;rintro e d ⟨rfl,b⟩;subst b;go_wp2;go_ret;exact⟨by rw[<- H.o];rfl,rfl⟩
def aJ (w:World) (g:Nat) (neg:Bool) (num den:ByteArray):Prop:=w.heap[g]? =some (.cells #[.bool neg,.string num,.string den] 63 (0,0))
theorem aJ.c0 (h:aJ w g neg num den):w.cell? ⟨g,0,none⟩=some (.bool neg):=by rw[bh w g 0 _ _ (0,0) h];rfl
theorem aJ.c1 (h:aJ w g neg num den):w.cell? ⟨g,1,none⟩=some (.string num):=by rw[bh w g 1 _ _ (0,0) h];rfl
theorem aJ.c2 (h:aJ w g neg num den):w.cell? ⟨g,2,none⟩=some (.string den):=by rw[bh w g 2 _ _ (0,0) h];rfl
theorem aJ.fz (h:aJ w g neg num den) (j:Nat):w.frozen? ⟨g,j,none⟩=false:=fj w g j _ _ h
theorem aJ.lt (h:aJ w g neg num den):g<w.heap.size:=(dD.1 h).1
theorem aJ.of_block (h:aJ w g neg num den) (e:w'.heap[g]? =w.heap[g]?):aJ w' g neg num den:=e.trans h
theorem aJ.aa {B:Nat} (h:aJ w g neg num den) (b:Below B w w') (a:g<B):aJ w' g neg num den:=h.of_block (b.block g a)
theorem aJ.new (w:World) (neg:Bool) (num den:ByteArray):aJ (w.alloc (.cells #[.bool neg,.string num,.string den] 63)) w.heap.size neg num den:=by
 exact eM _ _
theorem aJ.alloc (h:aJ w g neg num den) (o:Obj):aJ (w.alloc o) g neg num den:=h.of_block (uK w o g h.lt)
theorem aJ.drew (h:aJ w g neg num den):aJ w.drew g neg num den:=h
theorem aJ.facts (h:aJ w g neg num den):w.cell? ⟨g,0,none⟩=some (.bool neg)/\w.cell? ⟨g,1,none⟩=some (.string num)/\w.cell? ⟨g,2,none⟩=some (.string den)/\w.frozen? ⟨g,0,none⟩=false/\w.frozen? ⟨g,1,none⟩=false/\w.frozen? ⟨g,2,none⟩=false:=
 ⟨h.c0,h.c1,h.c2,h.fz 0,h.fz 1,h.fz 2⟩
theorem aJ.put (h:aJ w g neg num den) (n:Bool) (x y:ByteArray):aJ (((w.setCell ⟨g,0,none⟩ (.bool n)).setCell ⟨g,1,none⟩ (.string x)).setCell ⟨g,2,none⟩ (.string y)) g n x y:=by
 have a:=kn w g 0 _ _ (.bool n) h;have b:=kn _ g 1 _ _ (.string x) a;have c:=kn _ g 2 _ _ (.string y) b;exact c
theorem aJ.far (h:aJ w g neg num den) (a:g≠g') (u:Value):aJ (w.setCell ⟨g',j,none⟩ u) g neg num den:=h.of_block (eN w _ u g a)
theorem fL {B:Nat} {a:World} (h:Below B a w) (b:B<=g) (u v x:Value):Below B a (((w.setCell ⟨g,0,none⟩ u).setCell ⟨g,1,none⟩ v).setCell ⟨g,2,none⟩ x):=
 ((h.setCell b u).setCell b v).setCell b x
theorem aJ.result (h:aJ w g neg num den) {p:Tmp} (r:fn.results= #[.cell p 63]) (m:Array Value) (a:m.getD p undef=.pointer (some ⟨g,0,none⟩)):
  (results fn m).run Tryz.prog w=.ok (.agg #[.bool neg,.string num,.string den]) w:=
 Gq r m w g _ _ _ _ a h Tryz.underlying63 rfl ao
theorem V3 (w:World):
  da 159 #[] w (du w (C 0)):=by
 go_enter Tryz.func159,Tryz.ntmps159;have b:=aJ.new w false ⟨#[]⟩ ⟨#[]⟩;have h:db w (w.alloc (.cells #[.bool false,.string ⟨#[]⟩,.string ⟨#[]⟩] 63)):=(au _ w).alloc (ah _) _;go_wp2_with fail
 refine(ahf 1 _ al al).af ?_;rintro e c ⟨rfl,a⟩;have d:db w c:=h.trans (a.af h.size);have x:=b.aa a b.lt;obtain⟨k,j,l,f,g,i⟩:=x.facts;clear b h;go_wp2;refine cP ((x.put _ _ _).result rfl _ rfl) rfl ?_;exact⟨by rw[Gn],fL d (ah _) _ _ _⟩
abbrev FC (n:Bool) (x y:ByteArray):Obj:=.cells #[.bool n,.string x,.string y] 63
theorem aJ.at (h:w.heap.size=g) (n:Bool) (x y:ByteArray):aJ (w.alloc (FC n x y)) g n x y:=by
 subst h;exact aJ.new w n x y
theorem alS (n:Bool) (x y:ByteArray) (w:World):
  da 156 #[.agg #[.bool n,.string x,.string y]] w (du w (.agg #[.bool (!n),.string x,.string y])):=by
 go_enter Tryz.func156,Tryz.ntmps156;go_wp2;refine cP ((aJ.at (w:=w.alloc (FC n x y)) (g:=w.heap.size+1) aE (!n) x y).result rfl _ rfl) rfl ?_;exact⟨rfl,((au _ w).alloc (ah _) _).alloc aE _⟩
theorem aqp (n:Bool) (x y:ByteArray) (w:World) (h:N y=0):
  da 209 #[.agg #[.bool n,.string x,.string y]] w (du w (C 0)):=by
 have a:=fun V=>zi y V;simp only[h,decide_true] at a;have H:=aD a;clear a;go_enter Tryz.func209,Tryz.ntmps209;have b:=aJ.at (w:=w.alloc (FC n x y)) (g:=w.heap.size+1) aE false ⟨#[]⟩ ⟨#[]⟩;have c:db w ((w.alloc (FC n x y)).alloc (FC false ⟨#[]⟩ ⟨#[]⟩)):=((au _ w).alloc (ah _) _).alloc aE _;go_wp2_with fail
 refine(H.o _).af ?_;rintro e d ⟨rfl,j⟩;subst j;go_wp2_with fail
 refine(V3 _).af ?_;rintro e d ⟨rfl,f⟩;have i:=b.aa f b.lt;have k:db w d:=c.trans (f.af c.size);obtain⟨q,r,s,l,m,p⟩:=i.facts;clear b c;rw[Gn];go_wp2;refine cP ((i.put _ _ _).result rfl _ rfl) rfl ?_;exact⟨by rw[Gn],fL k al _ _ _⟩
theorem aqo (n:Bool) (x y:ByteArray) (w:World) (h:N y≠0):
  da 209 #[.agg #[.bool n,.string x,.string y]] w (du w (.agg #[.bool n,.string x,.string y])):=by
 have a:=fun V=>zi y V;simp only[h,decide_false] at a;have H:=aD a;clear a;go_enter Tryz.func209,Tryz.ntmps209;go_wp2_with fail
 refine(H.o _).af ?_;rintro e c ⟨rfl,b⟩;subst b;go_wp2;refine cP ((aJ.at (w:=w.alloc (FC n x y)) (g:=w.heap.size+1) aE n x y).result rfl _ rfl) rfl ?_;exact⟨rfl,((au _ w).alloc (ah _) _).alloc aE _⟩
theorem asj (n:Bool) (x y:ByteArray) (w:World) (h:N x=0∨N y=0):
  da 138 #[.bool n,.string x,.string y] w (du w (C 0)):=by
 have X:=fun V=>zi x V;have Y:=fun V=>zi y V;have H:=aD X;have i:=aD Y;clear X Y;go_enter Tryz.func138,Tryz.ntmps138;have D:=aJ.at (w:=w) rfl false ⟨#[]⟩ ⟨#[]⟩;have d:db w (w.alloc (FC false ⟨#[]⟩ ⟨#[]⟩)):=(au _ w).alloc (ah _) _;by_cases c:N x=0
 focus
  go_wp2_with fail
  refine(H.o _).af ?_;rintro e b ⟨rfl,a⟩;subst a;rw[bX c]
 rotate_left
 focus
  have j:N y=0:=h.resolve_left c;go_wp2_with fail
  refine(H.o _).af ?_;rintro e b ⟨rfl,a⟩;subst a;rw[cF c];go_wp2_with fail
  refine(i.o _).af ?_;rintro e b ⟨rfl,a⟩;subst a;rw[bX j]
 all_goals
  go_wp2_with fail
  refine(V3 _).af ?_;rintro e b ⟨rfl,f⟩;have g:=D.aa f D.lt;have k:db w b:=d.trans (f.af d.size);obtain⟨q,r,s,l,m,p⟩:=g.facts;clear D d;rw[Gn];go_wp2;refine cP ((g.put _ _ _).result rfl _ rfl) rfl ?_;exact⟨by rw[Gn],fL k al _ _ _⟩
theorem asl (n:Bool) (x y:ByteArray) (w:World) (h0:N x≠0) (h1:N y≠0) (f:x.size<=1099511627776) (g:y.size<=1099511627776):
  da 138 #[.bool n,.string x,.string y] w (du w (C (val n x y))):=by
 have X:=fun V=>zi x V;have Y:=fun V=>zi y V;have H:=aD X;have l:=aD Y;have i:Nat.gcd (N x) (N y)≠0:=fun h=>h0 (Nat.gcd_eq_zero_iff.1 h).1;have p:=aL (kW (Nat.gcd_le_left (N y) (lA h0))) (jK x);clear X Y;go_enter Tryz.func138,Tryz.ntmps138;have D:=aJ.at (w:=w) rfl false ⟨#[]⟩ ⟨#[]⟩;have d:db w (w.alloc (FC false ⟨#[]⟩ ⟨#[]⟩)):=(au _ w).alloc (ah _) _;go_wp2_with fail
 refine(H.o _).af ?_;rintro e b ⟨rfl,c⟩;subst c;rw[cF h0];go_wp2_with fail
 refine(l.o _).af ?_;rintro e b ⟨rfl,c⟩;subst c;rw[cF h1];have a:=au (w.alloc (FC false ⟨#[]⟩ ⟨#[]⟩)).heap.size (w.alloc (FC false ⟨#[]⟩ ⟨#[]⟩));go_wp2_with fail
 refine(asT (Nat.gcd (N x) (N y)) a rfl f g).af ?_;rintro e b ⟨rfl,a⟩;go_wp2_with fail
 refine(ahF (N x/Nat.gcd (N x) (N y)) 0 a (by rw[dR]) (by rw[dR];exact Nat.mod_eq_zero_of_dvd (Nat.gcd_dvd_left _ _)) (by rw[dR];exact i) f al).af ?_;rintro e b ⟨rfl,a⟩;go_wp2_with fail
 refine(ahF (N y/Nat.gcd (N x) (N y)) 0 a (by rw[dR]) (by rw[dR];exact Nat.mod_eq_zero_of_dvd (Nat.gcd_dvd_right _ _)) (by rw[dR];exact i) g al).af ?_;rintro e b ⟨rfl,j⟩;have k:=D.aa j D.lt;have m:db w b:=d.trans (j.af d.size);obtain⟨t,u,v,q,r,s⟩:=k.facts;clear D d;go_wp2;refine cP ((k.put _ _ _).result rfl _ rfl) rfl ?_;exact⟨by rw[val,Uc n _ _ h0 h1],fL m al _ _ _⟩
theorem Tj (n:Bool) (x y:ByteArray) (w:World) (a:x.size<=1099511627776) (b:y.size<=1099511627776):
  da 138 #[.bool n,.string x,.string y] w (du w (C (val n x y))):=by
 by_cases h:N x=0∨N y=0
 ·have:=asj n x y w h;rwa [<- L8.2 h] at this
 ·exact asl n x y w (fun e=>h (.inl e)) (fun e=>h (.inr e)) a b
theorem agp (n:Bool) (x y:ByteArray) (c:x.size<=1099511627776) (d:y.size<=1099511627776):∃(b:Bool) (x' a:ByteArray),N a≠0/\val b x' a=val n x y/\x'.size<=1099511627776/\a.size<=1099511627776/\x'.size+a.size<=x.size+y.size+1/\∀V:World,
  da 209 #[.agg #[.bool n,.string x,.string y]] V (du V (.agg #[.bool b,.string x',.string a])):=by
 have e:=Ud;by_cases h:N y=0
 ·refine⟨false,⟨#[]⟩,B 1,by rw[dR];decide,?_,?_,?_,?_,fun V=>?_⟩
  ·rw[aaW ahg,L9 h]
  ·show 0<=_;omega
  ·omega
  ·show 0+_<=_;omega
  ·have:=aqp n x y V h;rwa [Gn] at this
 ·exact⟨n,x,y,h,rfl,c,d,al,fun V=>aqo n x y V h⟩
theorem ajD (a:Bool) (m n:Nat):sg a (m+n)=sg a m+sg a n:=by cases a<;>simp[sg,Int.neg_add]
theorem ajy {a b:Bool} (h:¬a=b) (e:m=n+k):sg a k=sg a m+sg b n:=by
 cases a<;>cases b<;>simp[sg] at h⊢<;>omega
theorem ajx {a b:Bool} (h:¬a=b) (e:n=m+k):sg b k=sg a m+sg b n:=by
 cases a<;>cases b<;>simp[sg] at h⊢<;>omega
theorem adp {n:Bool} {x y:ByteArray} (h1:aJ w' g n x y) (h:db w w'):w'.cell? ⟨g,0,none⟩=some (.bool n)/\Hid (aJ w' g n x y/\db w w'):=
 ⟨h1.c0,h1,h⟩
theorem UR {h:Nat} {n m:Bool} {x y u v:ByteArray} (h1:aJ w' g n x y) (a:aJ w' h m u v) (b:db w w'):(w'.cell? ⟨g,1,none⟩=some (.string x)/\w'.cell? ⟨g,2,none⟩=some (.string y)/\w'.cell? ⟨h,1,none⟩=some (.string u)/\w'.cell? ⟨h,2,none⟩=some (.string v))/\Hid (aJ w' g n x y/\aJ w' h m u v/\db w w'):=
 ⟨⟨h1.c1,h1.c2,a.c1,a.c2⟩,h1,a,b⟩
theorem aa6 (R nb:Bool) (L O M yb:ByteArray) (w:World) (CY:L.size<=137438953472) (CX:O.size<=137438953472) (ax:M.size<=137438953472) (ay:yb.size<=137438953472):
  da 155 #[.agg #[.bool R,.string L,.string O],.agg #[.bool nb,.string M,.string yb]] w fun e w'=>
   ∃(n:Bool) (x d:Nat),e=.returned (.tuple #[.bool n,.string (B x),.string (B d)])/\d≠0/\mkRat (sg n x) d=val R L O+val nb M yb/\(B x).size<=1099511627776/\(B d).size<=1099511627776/\db w w':=by
 obtain⟨c,b,j,i,x4,a6,an,aT,HA⟩:=agp R L O al al;obtain⟨f,q,a,l,mE,a7,ao,a1,HB⟩:=agp nb M yb al al;have iH:=aD HA;have aS:=aD HB;clear HA HB;go_enter Tryz.func155,Tryz.ntmps155;have H:=((aJ.at (w:=w) rfl R L O).alloc (FC nb M yb)).drew;have r:=(aJ.at (w:=w.alloc (FC R L O)) (g:=w.heap.size+1) aE nb M yb).drew;have aj:db w ((w.alloc (FC R L O)).alloc (FC nb M yb)).drew:=(((au _ w).alloc (ah _) _).alloc aE _).drew;go_upto_region 1 with fail
 go_cut [] from 11 to 14 (fun wx=>aJ wx w.heap.size c b j/\aJ wx (w.heap.size+1) f q a/\db w wx)
 case first=>
  go_region_with (first
   |(have zK:=Z;go_at_call 209;refine(aS.o _).af ?_;rintro e w2 ⟨rfl,Q⟩;have Y:=aJ.aa zK Q zK.lt;have X:=aJ.aa K Q K.lt;have ab:=U.trans (Q.af U.size);obtain⟨F,I,J,k,p,s⟩:=Y.facts;obtain⟨A,D,E,v,y,z⟩:=X.facts)
   |(go_at_call 209;refine(iH.o _).af ?_;rintro e w1 ⟨rfl,P⟩;have Z:=aJ.aa H P H.lt;have K:=aJ.aa r P r.lt;have U:=aj.trans (P.af aj.size);obtain⟨F,I,J,k,p,s⟩:=Z.facts;obtain⟨A,D,E,v,y,z⟩:=K.facts))
  all_goals go_wp2_with fail
  all_goals go_meet
  all_goals exact⟨((((Y.put _ _ _).far al _).far al _).far al _),(((X.far al _).far al _).far al _).put _ _ _,fL (fL ab (ah _) _ _ _) al _ _ _⟩
 case rest=>
  obtain⟨H,r,u⟩:=hcut;obtain⟨F,I,J,k,p,s⟩:=H.facts;obtain⟨A,D,E,v,y,z⟩:=r.facts;clear iH aS;have aN:=A0 (N b) (N a);have aQ:=A0 (N q) (N j);have aR:=A0 (N j) (N a);have b1:=jK b;have b2:=jK j;have b3:=jK q;have b4:=jK a;go_upto_region 2 with fail
  go_cut [7,8] from 15 to 24 (fun s7 s8 wx=>s7=.string (B (N b*N a))/\s8=.string (B (N q*N j))/\aJ wx w.heap.size c b j/\aJ wx (w.heap.size+1) f q a/\db w wx)
  case first=>
   clear x4 mE i l aT a1 b1 b2 b3 b4 aN aQ aR F I J k p s A D E v y z CY CX ax ay
   go_region_held3 (fun w'=>(w'.cell? ⟨w.heap.size,1,none⟩=some (.string b)/\w'.cell? ⟨w.heap.size,2,none⟩=some (.string j)/\w'.cell? ⟨w.heap.size+1,1,none⟩=some (.string q)/\w'.cell? ⟨w.heap.size+1,2,none⟩=some (.string a))/\Hid (aJ w' w.heap.size c b j/\aJ w' (w.heap.size+1) f q a/\db w w'))
    (first |exact UR Y X ab |exact UR Z K U |exact UR H.drew r.drew u.drew)
    (first
     |(have zK:=Z;go_at_call 158;refine(OB q j _ a7 an).af ?_;rintro e w2 ⟨rfl,Q⟩;have Y:=zK.aa Q zK.lt;have X:=K.aa Q K.lt;have ab:=U.trans (Q.af U.size))
     |(go_at_call 158;refine(OB b a _ a6 ao).af ?_;rintro e w1 ⟨rfl,P⟩;have Z:=H.drew.aa P H.lt;have K:=r.drew.aa P r.lt;have U:=u.drew.trans (P.af u.size)))
   go_wp2_with fail
   go_meet
   exact⟨rfl,rfl,Y,X,ab⟩
  case rest=>
   obtain⟨rfl,rfl,H,r,u⟩:=hcut;obtain⟨F,I,J,k,p,s⟩:=H.facts;obtain⟨A,D,E,v,y,z⟩:=r.facts;go_wp2_with fail
   refine(OB j a _ an ao).af ?_;rintro e w3 ⟨rfl,ad⟩;have T:=H.aa ad H.lt;have BF:=r.aa ad r.lt;have S:=u.trans (ad.af u.size);clear H r u F I J k p s A D E v y z ad;obtain⟨F,I,J,k,p,s⟩:=T.facts;obtain⟨A,D,E,v,y,z⟩:=BF.facts;(have sl:(B (N b*N a)).size<=1099511627776:=al);(have sr:(B (N q*N j)).size<=1099511627776:=al);(have sd:(B (N j*N a)).size<=1099511627776:=al);have sa:=aiS (N b*N a) (N q*N j);have sm:=kW (Nat.sub_le (N b*N a) (N q*N j));have sn:=kW (Nat.sub_le (N q*N j) (N b*N a));by_cases V:c=f
   ·subst V;go_upto_region 5 with fail
    go_region_held3 (fun w'=>w'.cell? ⟨w.heap.size,0,none⟩=some (.bool c)/\Hid (aJ w' w.heap.size c b j/\db w w'))
     (first |exact adp X9 t |exact adp T.drew S.drew)
     (first
      |(go_at_call 141;refine(asZ _ _ _ sl sr).af ?_;rintro e w4 ⟨rfl,h⟩;have X9:=T.drew.aa h T.lt;have t:=S.drew.trans (h.af S.size)))
    go_wp2;go_ret3
    refine⟨c,N b*N a+N q*N j,N j*N a,by rw[dR,dR];rfl,Gt i l,?_,al,al,t⟩;rw[<- x4, <- mE,ajD,val_add _ _ _ _ _ _ i l]
   ·have ai:=au w3.heap.size w3;(have ia:(c==f)=false:=by simp[V]);have jq:decide (c=f)=false:=cF V;by_cases a8:N q*N j<=N b*N a
    ·go_wp2_with fail
     refine(ahc (N b*N a - N q*N j) ai (by rw[dR,dR];omega) sl sr).af ?_;rintro e w4 ⟨rfl,h⟩;have X9:=T.aa h T.lt;have t:=S.trans (h.af S.size);obtain⟨F,I,J,k,p,s⟩:=X9.facts;go_wp2;go_ret3
     refine⟨c,N b*N a - N q*N j,N j*N a,rfl,Gt i l,?_,al,al,t⟩;rw[<- x4, <- mE,ajy V (m:=N b*N a) (n:=N q*N j) al,val_add _ _ _ _ _ _ i l]
    ·go_wp2_with fail
     refine(asb ai (by rw[dR,dR];omega)).af ?_;rintro e w4 ⟨rfl,h⟩;have ae:=BF.aa h BF.lt;have t:=S.trans (h.af S.size);have aq:=au w4.heap.size w4;go_wp2_with fail
     refine(ahc (N q*N j - N b*N a) aq (by rw[dR,dR];omega) sr sl).af ?_;rintro e w5 ⟨rfl,ak⟩;have av:=ae.aa ak ae.lt;have Ir:=t.trans (ak.af t.size);obtain⟨A,D,E,v,y,z⟩:=av.facts;go_wp2;go_ret3
     refine⟨f,N q*N j - N b*N a,N j*N a,rfl,Gt i l,?_,al,al,Ir⟩;rw[<- x4, <- mE,ajx V (m:=N b*N a) (n:=N q*N j) al,val_add _ _ _ _ _ _ i l]
def bK (q:Rat):Bool:=decide (q.num<0)
def nu (q:Rat):ByteArray:=B q.num.natAbs
def de (q:Rat):ByteArray:=B q.den
theorem vZ (q:Rat):C q=.agg #[.bool (bK q),.string (nu q),.string (de q)]:=rfl
theorem qG (q:Rat):val (bK q) (nu q) (de q)=q:=aic q
theorem A6 (q:Rat):(nu q).size+(de q).size=qw q:=rfl
theorem asX (n:Bool) (x y:ByteArray) (w:World) (d:x.size<=1099511627776) (f:y.size<=1099511627776):
  da 86 #[.agg #[.bool n,.string x,.string y]] w (du w (C (val n x y))):=by
 go_enter Tryz.func86,Tryz.ntmps86;have b:=aJ.at (w:=w.alloc (FC n x y)) (g:=w.heap.size+1) aE false ⟨#[]⟩ ⟨#[]⟩;have h:db w ((w.alloc (FC n x y)).alloc (FC false ⟨#[]⟩ ⟨#[]⟩)):=((au _ w).alloc (ah _) _).alloc aE _;go_wp2_with fail
 refine(Tj n x y _ d f).af ?_;rintro e i ⟨rfl,a⟩;have c:=b.aa a b.lt;have j:db w i:=h.trans (a.af h.size);obtain⟨o,p,q,k,l,m⟩:=c.facts;clear b h;rw[vZ];go_wp2;refine cP ((c.put _ _ _).result rfl _ rfl) rfl ?_;exact⟨rfl,fL j al _ _ _⟩
theorem agc (c nb:Bool) (a y b yb:ByteArray) (w:World) (Y:a.size<=137438953472) (X:y.size<=137438953472) (t:b.size<=137438953472) (u:yb.size<=137438953472):
  da 160 #[.agg #[.bool c,.string a,.string y],.agg #[.bool nb,.string b,.string yb]] w (du w (C (val c a y+val nb b yb))):=by
 go_enter Tryz.func160,Tryz.ntmps160;have D:=aJ.at (w:=(w.alloc (FC c a y)).alloc (FC nb b yb)) (g:=w.heap.size+2) aE false ⟨#[]⟩ ⟨#[]⟩;have h:db w (((w.alloc (FC c a y)).alloc (FC nb b yb)).alloc (FC false ⟨#[]⟩ ⟨#[]⟩)):=(((au _ w).alloc (ah _) _).alloc aE _).alloc (by simp;omega) _;go_wp2_with fail
 refine(aa6 c nb a y b yb _ Y X t u).af ?_;rintro e o ⟨n,x,d,rfl,F,v,m,s,j⟩;have i:=D.aa j D.lt;have f:db w o:=h.trans (j.af h.size);clear D h;go_wp2_with fail
 refine(Tj n (B x) (B d) _ m s).af ?_;rintro e p ⟨rfl,k⟩;have l:=i.aa k i.lt;have r:db w p:=f.trans (k.af f.size);have q:val n (B x) (B d)=val c a y+val nb b yb:=by rw[<- v,val,dR,dR]
 rw[q];clear i f q v;obtain⟨H,I,J,z,A,E⟩:=l.facts;rw[vZ];go_wp2;refine cP ((l.put _ _ _).result rfl _ rfl) rfl ?_;exact⟨rfl,fL r al _ _ _⟩
theorem aJ.far3 (h:aJ w g neg num den) (a:g≠g') (u v x:Value):aJ (((w.setCell ⟨g',0,none⟩ u).setCell ⟨g',1,none⟩ v).setCell ⟨g',2,none⟩ x) g neg num den:=
 ((h.far a u).far a v).far a x
theorem EB {h:Nat} {n m:Bool} {x y u v:ByteArray} (h1:aJ w' g n x y) (a:aJ w' h m u v) (b:db w w'):(w'.cell? ⟨g,0,none⟩=some (.bool n)/\w'.cell? ⟨g,1,none⟩=some (.string x)/\w'.cell? ⟨g,2,none⟩=some (.string y)/\w'.cell? ⟨h,0,none⟩=some (.bool m)/\w'.cell? ⟨h,1,none⟩=some (.string u)/\w'.cell? ⟨h,2,none⟩=some (.string v))/\Hid (aJ w' g n x y/\aJ w' h m u v/\db w w'):=
 ⟨⟨h1.c0,h1.c1,h1.c2,a.c0,a.c1,a.c2⟩,h1,a,b⟩
theorem agb (n nb:Bool) (a y b yb:ByteArray) (w:World) (Y:a.size<=137438953472) (X:y.size<=137438953472) (K:b.size<=137438953472) (L:yb.size<=137438953472):
  da 104 #[.agg #[.bool n,.string a,.string y],.agg #[.bool nb,.string b,.string yb]] w (du w (C (val n a y*val nb b yb))):=by
 have x:(B (N a*N b)).size<=1099511627776:=by have:=A0 (N a) (N b);have:=jK a;have:=jK b;omega
 have A:(B (N y*N yb)).size<=1099511627776:=by have:=A0 (N y) (N yb);have:=jK y;have:=jK yb;omega
 have s:val (n !=nb) (B (N a*N b)) (B (N y*N yb))=val n a y*val nb b yb:=by rw[<- val_mul,val,dR,dR]
 have H:=aD s;clear s;have D:a.size<=1099511627776:=al
 have I:y.size<=1099511627776:=al
 have J:b.size<=1099511627776:=al
 have E:yb.size<=1099511627776:=al
 clear Y X K L;go_enter Tryz.func104,Tryz.ntmps104;have j:=(((aJ.at (w:=w) rfl n a y).alloc (FC nb b yb)).alloc (FC false ⟨#[]⟩ ⟨#[]⟩)).drew;have r:=((aJ.at (w:=w.alloc (FC n a y)) (g:=w.heap.size+1) aE nb b yb).alloc (FC false ⟨#[]⟩ ⟨#[]⟩)).drew;have v:=(aJ.at (w:=(w.alloc (FC n a y)).alloc (FC nb b yb)) (g:=w.heap.size+2) aE false ⟨#[]⟩ ⟨#[]⟩).drew;have i:db w (((w.alloc (FC n a y)).alloc (FC nb b yb)).alloc (FC false ⟨#[]⟩ ⟨#[]⟩)).drew:=((((au _ w).alloc (ah _) _).alloc aE _).alloc (by simp;omega) _).drew;go_upto_region 1 with fail
 go_region_held3 (fun w'=>(w'.cell? ⟨w.heap.size,0,none⟩=some (.bool n)/\w'.cell? ⟨w.heap.size,1,none⟩=some (.string a)/\w'.cell? ⟨w.heap.size,2,none⟩=some (.string y)/\w'.cell? ⟨w.heap.size+1,0,none⟩=some (.bool nb)/\w'.cell? ⟨w.heap.size+1,1,none⟩=some (.string b)/\w'.cell? ⟨w.heap.size+1,2,none⟩=some (.string yb))/\Hid (aJ w' w.heap.size n a y/\aJ w' (w.heap.size+1) nb b yb/\db w w'))
  (first
   |exact EB (Q.far3 al _ _ _) (F.far3 al _ _ _) (fL S al _ _ _)
   |exact EB Q F S |exact EB t f m |exact EB Z k l |exact EB j r i)
  (first
   |(have u:=t;go_at_call 138;refine(Tj _ _ _ _ x A).af ?_;rintro e w3 ⟨rfl,d⟩;have Q:=u.aa d u.lt;have F:=f.aa d f.lt;have p:=q.aa d q.lt;have S:=m.trans (d.af m.size);obtain⟨R,T,U,M,O,P⟩:=p.facts;rw[vZ])
   |(have z:=Z;go_at_call 158;refine(OB y yb _ I E).af ?_;rintro e w2 ⟨rfl,c⟩;have t:=z.aa c z.lt;have f:=k.aa c k.lt;have q:=V.aa c V.lt;have m:=l.trans (c.af l.size))
   |(go_at_call 158;refine(OB a b _ D J).af ?_;rintro e w1 ⟨rfl,h⟩;have Z:=j.aa h j.lt;have k:=r.aa h r.lt;have V:=v.aa h v.lt;have l:=i.trans (h.af i.size)))
 go_wp2;refine cP ((p.put _ _ _).result rfl _ rfl) rfl ?_;exact⟨by rw[<- H.o];rfl,fL S al _ _ _⟩
variable {p q:Rat}
theorem aJ.result2 (h:aJ w g neg num den) {p u:Tmp} (r:fn.results= #[.cell p 63,.tmp u]) (m:Array Value) (a:m.getD p undef=.pointer (some ⟨g,0,none⟩)):
  (results fn m).run Tryz.prog w=.ok (.tuple #[.agg #[.bool neg,.string num,.string den],m.getD u undef]) w:=by
 rw[results_cell_tmp r,a];simp only[asAddr,AG,xI];rw[run_loadVar_row w g _ 63 _ _ _ h Tryz.underlying63 rfl ao];simp only[xI]
theorem aqU {n:Bool} {x:Nat} (e:d≠0) (h:mkRat (sg n x) d=p - q):kH p q=if x=0 then 0 else if n=true then -1 else 1:=by
 by_cases a:x=0
 ·rw[aw a];rw[a,abT,PQ] at h;have:p=q:=by grind
  subst this;rw[kH,aA (by grind),aw rfl]
 ·rw[aA a];obtain⟨b,c⟩:=am0 n x d e a;cases n
  ·have:=c rfl;rw[h] at this;rw[aA bd,kH,aA (by grind),aA (by grind)]
  ·have:=b rfl;rw[h] at this;rw[aw rfl,kH,aw (by grind)]
theorem ap7 (c nb:Bool) (a y b yb:ByteArray) (w:World) (Y:a.size<=137438953472) (t:y.size<=137438953472) (E:b.size<=137438953472) (F:yb.size<=137438953472):
  da 102 #[.agg #[.bool c,.string a,.string y],.agg #[.bool nb,.string b,.string yb]] w (du w (.int .i64 (kH (val c a y) (val nb b yb)))):=by
 have s:val c a y+val (!nb) b yb=val c a y - val nb b yb:=by rw[aib,Rat.sub_eq_add_neg]
 have Q:=aD s;clear s;go_enter Tryz.func102,Tryz.ntmps102;have j:=((aJ.at (w:=w) rfl c a y).alloc (FC nb b yb)).drew;have r:=(aJ.at (w:=w.alloc (FC c a y)) (g:=w.heap.size+1) aE nb b yb).drew;have i:db w ((w.alloc (FC c a y)).alloc (FC nb b yb)).drew:=(((au _ w).alloc (ah _) _).alloc aE _).drew;go_upto_region 1 with fail
 go_region_held3 (fun w'=>(w'.cell? ⟨w.heap.size,0,none⟩=some (.bool c)/\w'.cell? ⟨w.heap.size,1,none⟩=some (.string a)/\w'.cell? ⟨w.heap.size,2,none⟩=some (.string y)/\w'.cell? ⟨w.heap.size+1,0,none⟩=some (.bool nb)/\w'.cell? ⟨w.heap.size+1,1,none⟩=some (.string b)/\w'.cell? ⟨w.heap.size+1,2,none⟩=some (.string yb))/\Hid (aJ w' w.heap.size c a y/\aJ w' (w.heap.size+1) nb b yb/\db w w'))
  (first
   |exact EB D S f |exact EB Z k l |exact EB j r i)
  (first
   |(have z:=Z;go_at_call 155;refine(aa6 c (!nb) a y b yb _ Y t E F).af ?_;rintro e L ⟨n,x,d,rfl,u,v,J,I,p⟩;have D:=z.aa p z.lt;have S:=k.aa p k.lt;have f:=l.trans (p.af l.size);have X:=aD (aqU u (v.trans Q.o));clear v)
   |(go_at_call 156;refine(alS nb b yb _).af ?_;rintro e K ⟨rfl,m⟩;have Z:=j.aa m j.lt;have k:=r.aa m r.lt;have l:=i.trans (m.af i.size)))
 have q:∀V:World,da 157 #[.string (B x)] V fun e w'=>e=.returned (.bool (decide (x=0)))/\w'=V:=fun V=>by
  have:=zi (B x) V;rwa [dR] at this
 have H:=aD q;clear q;go_wp2_with fail
 refine(H.o _).af ?_;rintro e M ⟨rfl,A⟩;subst A;by_cases h:x=0
 ·rw[bX h];go_wp2;go_ret;exact⟨by rw[X.o,aw h];rfl,f⟩
 ·rw[cF h];cases n
  ·go_wp2;go_ret;exact⟨by rw[X.o,aA h];rfl,f⟩
  ·go_wp2;go_ret;exact⟨by rw[X.o,aA h];rfl,f⟩
theorem ap6 (n nb:Bool) (x y b yb:ByteArray) (w:World) (h:N b=0∨N yb=0):
  da 103 #[.agg #[.bool n,.string x,.string y],.agg #[.bool nb,.string b,.string yb]] w (du w (.tuple #[.agg #[.bool false,.string ⟨#[]⟩,.string ⟨#[]⟩],.int .i64 3])):=by
 have X:=fun V=>zi b V;have Y:=fun V=>zi yb V;have H:=aD X;have i:=aD Y;clear X Y;go_enter Tryz.func103,Tryz.ntmps103;have r:=aJ.at (w:=(w.alloc (FC n x y)).alloc (FC nb b yb)) (g:=w.heap.size+2) aE false ⟨#[]⟩ ⟨#[]⟩;have f:db w (((w.alloc (FC n x y)).alloc (FC nb b yb)).alloc (FC false ⟨#[]⟩ ⟨#[]⟩)):=(((au _ w).alloc (ah _) _).alloc aE _).alloc (by simp;omega) _;by_cases c:N b=0
 ·go_wp2_with fail
  refine(H.o _).af ?_;rintro e d ⟨rfl,a⟩;subst a;rw[bX c];go_wp2;refine cP (r.result2 rfl _ rfl) rfl ?_;exact⟨rfl,f⟩
 ·have j:N yb=0:=h.resolve_left c;go_wp2_with fail
  refine(H.o _).af ?_;rintro e d ⟨rfl,a⟩;subst a;rw[cF c];go_wp2_with fail
  refine(i.o _).af ?_;rintro e d ⟨rfl,a⟩;subst a;rw[bX j];go_wp2;refine cP (r.result2 rfl _ rfl) rfl ?_;exact⟨rfl,f⟩
theorem ap4 (n nb:Bool) (a y b yb:ByteArray) (w:World) (h0:N b≠0) (h1:N yb≠0) (j:a.size<=137438953472) (i:y.size<=137438953472) (m:b.size<=137438953472) (p:yb.size<=137438953472):
  da 103 #[.agg #[.bool n,.string a,.string y],.agg #[.bool nb,.string b,.string yb]] w (du w (.tuple #[C (val n a y/val nb b yb),.int .i64 0])):=by
 have X:=fun V=>zi b V;have Y:=fun V=>zi yb V;have H:=aD X;have k:=aD Y;clear X Y;have q:val n a y*val nb yb b=val n a y/val nb b yb:=by rw[UL nb b yb h0 h1,tH]
 go_enter Tryz.func103,Tryz.ntmps103;have r:=aJ.at (w:=(w.alloc (FC n a y)).alloc (FC nb b yb)) (g:=w.heap.size+2) aE false ⟨#[]⟩ ⟨#[]⟩;have d:db w (((w.alloc (FC n a y)).alloc (FC nb b yb)).alloc (FC false ⟨#[]⟩ ⟨#[]⟩)):=(((au _ w).alloc (ah _) _).alloc aE _).alloc (by simp;omega) _;go_wp2_with fail
 refine(H.o _).af ?_;rintro e c ⟨rfl,h⟩;subst h;rw[cF h0];go_wp2_with fail
 refine(k.o _).af ?_;rintro e c ⟨rfl,h⟩;subst h;rw[cF h1];go_wp2_with fail
 refine(agb n nb a y yb b _ j i p m).af ?_;rintro e c ⟨rfl,f⟩;rw[q];have x:=r.aa f r.lt;have l:db w c:=d.trans (f.af d.size);obtain⟨v,z,A,s,t,u⟩:=x.facts;clear r d;rw[vZ];go_wp2;refine cP ((x.put _ _ _).result2 rfl _ rfl) rfl ?_;exact⟨rfl,fL l al _ _ _⟩
theorem ap2 (n:Nat) (w:World) (h:n<=9223372036854775807):
  da 88 #[.int .i64 (n:Int)] w (du w (C (n:Rat))):=by
 have q:val false (B n) (B 1)=(n:Rat):=by
  rw[val,dR,dR];show mkRat (n:Int) 1=_;rw[Rat.mkRat_one];rfl
 have p:=Ud
 have s:(B n).size<=1099511627776:=by
  have:=rX 8 n (by show n<18446744073709551616;omega);rw[<- mY n] at this;omega
 go_enter Tryz.func88,Tryz.ntmps88;have r:=aJ.at (w:=w) rfl false ⟨#[]⟩ ⟨#[]⟩;have b:db w (w.alloc (FC false ⟨#[]⟩ ⟨#[]⟩)):=(au _ w).alloc (ah _) _;have a:=au (w.alloc (FC false ⟨#[]⟩ ⟨#[]⟩)).heap.size (w.alloc (FC false ⟨#[]⟩ ⟨#[]⟩));go_wp2_with fail
 refine(ahe n a rfl al).af ?_;rintro e d ⟨rfl,a⟩;go_wp2_with fail
 refine(ahe 1 a rfl al).af ?_;rintro e d ⟨rfl,a⟩;go_wp2_with fail
 refine(Tj false (B n) (B 1) _ s al).af ?_;rintro e f ⟨rfl,c⟩;rw[q];have x:=(r.aa a r.lt).aa c (r.aa a r.lt).lt;have g:db w f:=(b.trans (a.af b.size)).trans (c.af (b.trans (a.af b.size)).size);obtain⟨l,m,o,i,j,k⟩:=x.facts;clear r b a;rw[vZ];go_wp2;refine cP ((x.put _ _ _).result rfl _ rfl) rfl ?_;exact⟨rfl,fL g al _ _ _⟩
theorem below_drewN {B:Nat} {a b:World} (h:Below B a b) (k:Nat):Below B a (b.drewN k):=⟨h.os,h.tape,h.output,h.size,h.block⟩
theorem ap8 {n m:Bool} {x y u v:ByteArray} (r:Rat) (a:val n x y=p) (b:val m u v=q) (h:p+q=r) (s:x.size+y.size<=100000) (c:u.size+v.size<=100000):
  da 160 #[.agg #[.bool n,.string x,.string y],.agg #[.bool m,.string u,.string v]] w (du w (.agg #[.bool (bK r),.string (nu r),.string (de r)])):=by
 subst a b h;exact agc n m x y u v w al al al al
theorem aga {n m:Bool} {x y u v:ByteArray} (r:Rat) (a:val n x y=p) (b:val m u v=q) (h:p*q=r) (s:x.size+y.size<=100000) (c:u.size+v.size<=100000):
  da 104 #[.agg #[.bool n,.string x,.string y],.agg #[.bool m,.string u,.string v]] w (du w (.agg #[.bool (bK r),.string (nu r),.string (de r)])):=by
 subst a b h;exact agb n m x y u v w al al al al
theorem Zb {n m:Bool} {x y u v:ByteArray} (k:Int) (a:val n x y=p) (b:val m u v=q) (h:kH p q=k) (s:x.size+y.size<=100000) (c:u.size+v.size<=100000):
  da 102 #[.agg #[.bool n,.string x,.string y],.agg #[.bool m,.string u,.string v]] w (du w (.int .i64 k)):=by
 subst a b h;exact ap7 n m x y u v w al al al al
theorem Ub {n:Bool} {x y:ByteArray} (r:Rat) (h:val n x y=r) (s:x.size+y.size<=100000):
  da 86 #[.agg #[.bool n,.string x,.string y]] w (du w (.agg #[.bool (bK r),.string (nu r),.string (de r)])):=by
 subst h;exact asX n x y w al al
theorem Iw {k:Int} (r:Rat) (n:Nat) (a:k=(n:Int)) (b:n<=1) (h:(n:Rat)=r):
  da 88 #[.int .i64 k] w (du w (.agg #[.bool (bK r),.string (nu r),.string (de r)])):=by
 subst h a;exact ap2 n w al
theorem ap3 {n m:Bool} {x y u v:ByteArray} (h:val m u v=0):
  da 103 #[.agg #[.bool n,.string x,.string y],.agg #[.bool m,.string u,.string v]] w fun e w'=>e=.returned (.tuple #[.agg #[.bool false,.string ⟨#[]⟩,.string ⟨#[]⟩],.int .i64 3])/\db w w':=
 ap6 n m x y u v w (L8.1 h)
theorem ap5 {n m:Bool} {x y u v:ByteArray} (r:Rat) (a:val n x y=p) (b:val m u v=q) (h0:q≠0) (h:p/q=r) (s:x.size+y.size<=100000) (c:u.size+v.size<=100000):
  da 103 #[.agg #[.bool n,.string x,.string y],.agg #[.bool m,.string u,.string v]] w (du w (.tuple #[.agg #[.bool (bK r),.string (nu r),.string (de r)],.int .i64 0])):=by
 subst a b h;have K:=fun h=>h0 (L8.2 h);exact ap4 n m x y u v w (fun h=>K (.inl h)) (fun h=>K (.inr h)) al al al al
def atN (w V:World) (gs gp:Nat) (na nb nc:Bool) (xa ya xb yb xc yc:ByteArray) (s p:Rat):Prop:=
 aJ V w.heap.size na xa ya/\aJ V (w.heap.size+1) nb xb yb/\aJ V (w.heap.size+2) nc xc yc/\aJ V gs (bK s) (nu s) (de s)/\aJ V gp (bK p) (nu p) (de p)/\db w V
theorem PC:B 1=⟨#[1]⟩:=by
 rw[B,rW 1 bd,show 1/256=0 from rfl,rV];rfl
theorem amh (h:¬n=1):((B n).toList==[1])=false:=Gr.2 fun e=>h (ahH (by
 rw[PC];rw[Lib.toList_data] at e;exact Qf (Qg.1 e)))
theorem aks (n:Bool) (x y:ByteArray) (w:World) (h:N x=0∨N y=0) (f:x.size<=500000) (g:y.size<=500000):
  da 90 #[.bool n,.string x,.string y] w (du w (C 0)):=by
 have H:=aD (fun V=>oA x V al);have Y:=aD (fun V=>oA y V al);go_enter Tryz.func90,Tryz.ntmps90;by_cases a:N x=0
 focus
  rw[a,Cs] at H
 rotate_left
 focus
  have c:N y=0:=h.resolve_left a;have i:=Ei a;rw[c,Cs] at Y
 all_goals
  go_wp2_with fail
  refine(H.o _).af ?_;rintro e d ⟨rfl,b⟩;subst b;go_wp2_with fail
  refine(Y.o _).af ?_;rintro e d ⟨rfl,b⟩;subst b;go_wp2;refine cP ((aJ.at (w:=w) rfl false ⟨#[]⟩ ⟨#[1]⟩).result rfl _ rfl) rfl ?_;exact⟨by rw[Gn,PC],(au _ w).alloc (ah _) _⟩
theorem akt (n:Bool) (x y:ByteArray) (w:World) (h0:N x≠0) (h1:N y≠0) (K:x.size<=500000) (L:y.size<=500000):
  da 90 #[.bool n,.string x,.string y] w (du w (C (val n x y))):=by
 have m:=aD (fun V=>oA x V al);have p:=aD (fun V=>oA y V al);have H:=aD (Uc n _ _ h0 h1);have s:=aL (jK x) K;have t:=aL (jK y) L;have c:=aD (fun V=>aku (B (N x)) (B (N y)) V s t);rw[dR,dR] at c;have r:=aL (kW (Nat.gcd_le_left (N y) (lA h0))) s;have i:Nat.gcd (N x) (N y)≠0:=fun h=>h0 (Nat.gcd_eq_zero_iff.1 h).1;have P:=aD (fun V=>Vn (N x) _ V s r i);have E:=aD (fun V=>Vn (N y) _ V t r i);have ab:=Ei h0;have U:=Ei h1;rw[val];clear h0 h1 i;generalize mkRat (sg n (N x)) (N y)=q at *;generalize N x=X at *;generalize N y=Y at *;generalize Nat.gcd X Y=g at *;go_enter Tryz.func90,Tryz.ntmps90;have b:=aJ.at (w:=w) rfl false ⟨#[]⟩ ⟨#[]⟩;have j:db w (w.alloc (FC false ⟨#[]⟩ ⟨#[]⟩)):=(au _ w).alloc (ah _) _;go_wp2_with fail
 refine(m.o _).af ?_;rintro e f ⟨rfl,d⟩;subst d;go_wp2_with fail
 refine(p.o _).af ?_;rintro e f ⟨rfl,d⟩;subst d;go_wp2_with fail
 refine(c.o _).af ?_;rintro e f ⟨rfl,l⟩;have a:=b.aa l b.lt;have k:db w f:=j.trans (l.af j.size);clear b j l m p c;by_cases h1:g=1
 ·subst h1;rw[Gu,Gu] at H;rw[PC];obtain⟨M,O,Q,F,I,J⟩:=a.facts;go_wp2;refine cP ((a.put _ _ _).result rfl _ rfl) rfl ?_;exact⟨by rw[H.o],fL k al _ _ _⟩
 ·have Z:=amh h1;go_wp2_with fail
  refine(P.o _).af ?_;rintro e R ⟨rfl,v⟩;have A:=a.aa v a.lt;have u:db w R:=k.trans (v.af k.size);go_wp2_with fail
  refine(E.o _).af ?_;rintro e T ⟨rfl,z⟩;have D:=A.aa z A.lt;have S:db w T:=u.trans (z.af u.size);obtain⟨M,O,Q,F,I,J⟩:=D.facts;go_wp2;refine cP ((D.put _ _ _).result rfl _ rfl) rfl ?_;exact⟨by rw[H.o],fL S al _ _ _⟩
theorem acj (n:Bool) (x y:ByteArray) (w:World) (a:x.size<=500000) (b:y.size<=500000):
  da 90 #[.bool n,.string x,.string y] w (du w (C (val n x y))):=by
 by_cases h:N x=0∨N y=0
 ·have:=aks n x y w h a b;rwa [<- L8.2 h] at this
 ·exact akt n x y w (fun e=>h (.inl e)) (fun e=>h (.inr e)) a b
theorem QG (n:Bool) (x y:ByteArray) (w:World) (d:x.size<=500000) (f:y.size<=500000):
  da 40 #[.agg #[.bool n,.string x,.string y]] w (du w (C (val n x y))):=by
 go_enter Tryz.func40,Tryz.ntmps40;have b:=aJ.at (w:=w.alloc (FC n x y)) (g:=w.heap.size+1) aE false ⟨#[]⟩ ⟨#[]⟩;have h:db w ((w.alloc (FC n x y)).alloc (FC false ⟨#[]⟩ ⟨#[]⟩)):=((au _ w).alloc (ah _) _).alloc aE _;go_wp2_with fail
 refine(acj n x y _ d f).af ?_;rintro e i ⟨rfl,a⟩;have c:=b.aa a b.lt;have j:db w i:=h.trans (a.af h.size);obtain⟨o,p,q,k,l,m⟩:=c.facts;clear b h;rw[vZ];go_wp2;refine cP ((c.put _ _ _).result rfl _ rfl) rfl ?_;exact⟨rfl,fL j al _ _ _⟩
variable {U:World}
theorem aci {a b:ByteArray} (n:Nat) (c:db w0 w) (h:N a*N b=n) (d:a.size<=1000000) (e:b.size<=1000000):
  da 118 #[.string a,.string b] w (du w0 (.string (B n))):=by
 subst h;exact under c (akq a b w al al)
theorem Oz (q:Rat):N (nu q)=q.num.natAbs:=dR _
theorem OA (q:Rat):N (de q)=q.den:=dR _
def Tg (w V:World) (p q:Rat) (n:Bool) (x y:ByteArray):Prop:=aJ V w.heap.size (bK p) (nu p) (de p)/\aJ V (w.heap.size+1) (bK q) (nu q) (de q)/\aJ V (w.heap.size+2) n x y/\db w V
theorem Tg.step {V:World} {n:Bool} {x y:ByteArray} (h:Tg w V p q n x y) (b:db V U):Tg w U p q n x y:=by
 obtain⟨a,c,d,e⟩:=h;exact⟨a.aa b a.lt,c.aa b c.lt,d.aa b d.lt,e.trans (b.af e.size)⟩
theorem akr (n nb:Bool) (a y b yb:ByteArray) (w:World) (ha:a.size+y.size<=50000) (hb:b.size+yb.size<=50000):
  da 66 #[.agg #[.bool n,.string a,.string y],.agg #[.bool nb,.string b,.string yb]] w (du w (C (val n a y*val nb b yb))):=by
 have T:=aD (fun V=>QG n a y V al al);have U:=aD (fun V=>QG nb b yb V al al);have q1:=JO n a y;have q2:=JO nb b yb;generalize val n a y=p at *;generalize val nb b yb=q at *;have z1:=A6 p;have z2:=A6 q;have s1:=A0 p.num.natAbs q.num.natAbs;have s3:=A0 p.den q.den;have e1:(B p.num.natAbs).size=(nu p).size:=rfl;have e2:(B p.den).size=(de p).size:=rfl;have e3:(B q.num.natAbs).size=(nu q).size:=rfl;have e4:(B q.den).size=(de q).size:=rfl
 have HS:Hid (val (bK p !=bK q) (B (p.num.natAbs*q.num.natAbs)) (B (p.den*q.den))=p*q):=by
  show _=_;have e:=val_mul (bK p) (bK q) (nu p) (de p) (nu q) (de q);rw[qG,qG,Oz,Oz,OA,OA] at e;rw[val,dR,dR,e]
 have Y:=aD (fun (V:World)=>aci (w:=V) (p.num.natAbs*q.num.natAbs) (au _ V) (by rw[Oz,Oz]) (show (nu p).size<=_ by omega) (show (nu q).size<=_ by omega));have Pb:=aD (fun (V:World)=>aci (w:=V) (p.den*q.den) (au _ V) (by rw[OA,OA]) (show (de p).size<=_ by omega) (show (de q).size<=_ by omega));generalize p*q=r at *;generalize p.num.natAbs*q.num.natAbs=X at *;generalize p.den*q.den=D at *;have t1:(B X).size<=200000:=al
 have t3:(B D).size<=200000:=al
 clear s1 s3 e1 e2 e3 e4 z1 z2 q1 q2 ha hb;go_enter Tryz.func66,Tryz.ntmps66;have v:=((aJ.at (w:=w) rfl n a y).alloc (FC nb b yb)).alloc (FC false ⟨#[]⟩ ⟨#[]⟩);have x:=(aJ.at (w:=w.alloc (FC n a y)) (g:=w.heap.size+1) aE nb b yb).alloc (FC false ⟨#[]⟩ ⟨#[]⟩);have P:=aJ.at (w:=(w.alloc (FC n a y)).alloc (FC nb b yb)) (g:=w.heap.size+2) aE false ⟨#[]⟩ ⟨#[]⟩;have M:db w (((w.alloc (FC n a y)).alloc (FC nb b yb)).alloc (FC false ⟨#[]⟩ ⟨#[]⟩)):=(((au _ w).alloc (ah _) _).alloc aE _).alloc (by simp;omega) _;go_wp2_with fail
 refine(T.o _).af ?_;rintro e w1 ⟨rfl,h⟩;have Z:=v.aa h v.lt;have A:=(x.aa h x.lt).far3 (g':=w.heap.size) al (.bool (bK p)) (.string (nu p)) (.string (de p));have J:=(P.aa h P.lt).far3 (g':=w.heap.size) al (.bool (bK p)) (.string (nu p)) (.string (de p));have O:=fL (M.trans (h.af M.size)) (ah _) (.bool (bK p)) (.string (nu p)) (.string (de p));have L:=Z.put (bK p) (nu p) (de p);obtain⟨z,E,I,s,t,u⟩:=Z.facts;obtain⟨c,d,f,_,_,_⟩:=A.facts;rw[vZ];clear v x P M Z h;go_wp2_with fail
 clear z E I s t u c d f;refine(U.o _).af ?_;rintro e w2 ⟨rfl,i⟩;have S:=A.aa i A.lt;have Q:=(L.aa i L.lt).far3 (g':=w.heap.size+1) al (.bool (bK q)) (.string (nu q)) (.string (de q));have R:=(J.aa i J.lt).far3 (g':=w.heap.size+1) al (.bool (bK q)) (.string (nu q)) (.string (de q));have cS:=fL (O.trans (i.af O.size)) (g:=w.heap.size+1) al (.bool (bK q)) (.string (nu q)) (.string (de q));have F:=S.put (bK q) (nu q) (de q);obtain⟨z,E,I,s,t,u⟩:=S.facts;have ht:Tg w _ p q false ⟨#[]⟩ ⟨#[]⟩:=⟨Q,F,R,cS⟩;obtain⟨c,d,f,_,_,_⟩:=Q.facts;obtain⟨j,k,l,_,_,_⟩:=F.facts;rw[vZ];clear L A J O S Q R cS F i T U;go_wp2_with fail
 refine(Y.o _).af ?_;rintro e w3 ⟨rfl,ab⟩;clear c d f j k l z E I s t u;have H:=ht.step ab;clear ht ab Y;obtain⟨c,d,f,_,_,_⟩:=H.1.facts;obtain⟨j,k,l,_,_,_⟩:=H.2.1.facts;go_wp2_with fail
 refine(Pb.o _).af ?_;rintro e w4 ⟨rfl,ad⟩;clear c d f j k l;have m:=H.step ad;clear H ad Pb;obtain⟨c,d,f,_,_,_⟩:=m.1.facts;obtain⟨j,k,l,_,_,_⟩:=m.2.1.facts;go_wp2_with fail
 refine(acj (bK p !=bK q) (B X) (B D) _ al al).af ?_;rintro e w7 ⟨rfl,fP⟩;have K:=m.step fP;obtain⟨g0,g1,g2,i0,i1,i2⟩:=K.2.2.1.facts;rw[HS.o,vZ];go_wp2;refine cP ((K.2.2.1.put _ _ _).result rfl _ rfl) rfl ?_;exact⟨rfl,fL K.2.2.2 al _ _ _⟩
theorem al7 (h:q=0):nu q=⟨#[]⟩:=by subst h;exact Cs
theorem al8 (h:¬q=0):(nu q).toList.isEmpty=false:=Ei (by rw[Ne,Int.natAbs_eq_zero,Rat.num_eq_zero];exact h)
theorem akj (n:Bool) (x y:ByteArray) (w:World) (m:x.size+y.size<=50000):
  da 60 #[.agg #[.bool n,.string x,.string y]] w (du w (.bool (decide (val n x y=0)))):=by
 have g:=aD (fun V=>QG n x y V al al);generalize val n x y=q at *
 have z:(q=0/\decide (q=0)=true)∨(¬q=0/\decide (q=0)=false):=by
  by_cases h:q=0
  ·exact .inl ⟨h,bX h⟩
  ·exact .inr ⟨h,cF h⟩
 have H:=aD z;clear z;generalize decide (q=0)=t at *;go_enter Tryz.func60,Tryz.ntmps60;have b:=aJ.at (w:=w) rfl n x y;have c:db w (w.alloc (FC n x y)):=(au _ w).alloc (ah _) _;go_wp2_with fail
 refine(g.o _).af ?_;rintro e v ⟨rfl,f⟩;have i:=b.aa f b.lt;have d:=fL (c.trans (f.af c.size)) (ah _) (.bool (bK q)) (.string (nu q)) (.string (de q));obtain⟨p,r,s,j,k,l⟩:=i.facts;rw[vZ];rcases H.o with ⟨h,rfl⟩ |⟨h,rfl⟩
 ·have a:=al7 h;clear h H;generalize nu q=u at *;subst a;go_wp2;go_ret;exact⟨rfl,d⟩
 ·have a:=al8 h;clear h H;go_wp2;go_ret;exact⟨rfl,d⟩
theorem akz (n nb:Bool) (a y b yb:ByteArray) (w:World) (h:¬val nb b yb=0) (T:a.size+y.size<=40000) (U:b.size+yb.size<=40000):
  da 65 #[.agg #[.bool n,.string a,.string y],.agg #[.bool nb,.string b,.string yb]] w (du w (.tuple #[C (val n a y/val nb b yb),.int .i64 0])):=by
 have Z:=aD (fun V=>akj nb b yb V al);rw[cF h] at Z;have K:=aD (fun V=>QG nb b yb V al al);have X:=JO nb b yb;generalize val nb b yb=q at *;have z2:=A6 q;have H:=aD (fun V=>akr n (bK q) a y (de q) (nu q) V al al)
 have z:val (bK q) (de q) (nu q)=q⁻¹:=by
  rw[UL (bK q) (nu q) (de q) (by rw[Oz,Ne,Int.natAbs_eq_zero,Rat.num_eq_zero];exact h) (by rw[OA];exact q.den_nz),qG]
 rw[z, <- tH] at H;generalize val n a y/q=r at *;clear z h z2 X T U;go_enter Tryz.func65,Tryz.ntmps65;have j:=((aJ.at (w:=w) rfl n a y).alloc (FC nb b yb)).alloc (FC false ⟨#[]⟩ ⟨#[]⟩);have f:=(aJ.at (w:=w.alloc (FC n a y)) (g:=w.heap.size+1) aE nb b yb).alloc (FC false ⟨#[]⟩ ⟨#[]⟩);have m:=aJ.at (w:=(w.alloc (FC n a y)).alloc (FC nb b yb)) (g:=w.heap.size+2) aE false ⟨#[]⟩ ⟨#[]⟩;have i:db w (((w.alloc (FC n a y)).alloc (FC nb b yb)).alloc (FC false ⟨#[]⟩ ⟨#[]⟩)):=(((au _ w).alloc (ah _) _).alloc aE _).alloc (by simp;omega) _;go_wp2_with fail
 refine(Z.o _).af ?_;rintro e w1 ⟨rfl,c⟩;have p:=j.aa c j.lt;have k:=f.aa c f.lt;have s:=m.aa c m.lt;have l:=i.trans (c.af i.size);obtain⟨L,M,O,_,_,_⟩:=k.facts;clear j f m i c;go_wp2_with fail
 refine(K.o _).af ?_;rintro e w2 ⟨rfl,d⟩;have sW:=(p.aa d p.lt).far3 (g':=w.heap.size+1) al (.bool (bK q)) (.string (nu q)) (.string (de q));have Y:=k.aa d k.lt;have t:=(s.aa d s.lt).far3 (g':=w.heap.size+1) al (.bool (bK q)) (.string (nu q)) (.string (de q));have I:=fL (l.trans (d.af l.size)) (g:=w.heap.size+1) al (.bool (bK q)) (.string (nu q)) (.string (de q));clear L M O p k s l d;obtain⟨A,D,E,u,v,x⟩:=Y.facts;obtain⟨P,Q,R,_,_,_⟩:=sW.facts;rw[vZ];go_wp2_with fail
 refine(H.o _).af ?_;rintro e w3 ⟨rfl,J⟩;have F:=t.aa J t.lt;have S:=I.trans (J.af I.size);clear A D E u v x P Q R;obtain⟨A,D,E,u,v,x⟩:=F.facts;rw[vZ];go_wp2;refine cP ((F.put _ _ _).result2 rfl _ rfl) rfl ?_;exact⟨rfl,fL S al _ _ _⟩
theorem al2 {k:Int} (h:k<0):C (mkRat k 1)=.agg #[.bool true,.string (B ((-(k+1)).toNat+1)),.string (B 1)]:=by
 have e:k=sg true ((-(k+1)).toNat+1):=by simp only[sg,if_true];omega
 have a:=Uc true ((-(k+1)).toNat+1) 1 al bd;rw[<- e,Nat.gcd_one_right,Gu,Gu] at a;exact a
theorem al1 (n:Nat):C (mkRat (n:Int) 1)=.agg #[.bool false,.string (B n),.string (B 1)]:=by
 by_cases h:n=0
 ·subst h;rw[show ((0:Nat):Int)=0 from rfl,PQ,Gn,Cs]
 ·have a:=Uc false n 1 h bd;rw[Nat.gcd_one_right,Gu,Gu] at a;exact a
theorem akp (k:Int) (w:World) (h0: -9223372036854775808<=k) (h1:k<=9223372036854775807):
  da 29 #[.int .i64 k] w (du w (C (mkRat k 1))):=by
 by_cases i:k<0
 ·rw[al2 i];have H:=aD (fun V=>JN (-(k+1)) V al al);have u:(B (-(k+1)).toNat).size<=8:=by rw[mY];exact rX 8 _ (by show _<18446744073709551616;omega)
  have A:=aD (fun V=>akC (B (-(k+1)).toNat) ⟨#[1]⟩ V al (by show 1<=_;omega));rw[dR,show N ⟨#[1]⟩=1 from rfl] at A;rw[PC];generalize (-(k+1)).toNat=n at *;go_enter Tryz.func29,Tryz.ntmps29;have r:=aJ.at (w:=w) rfl false ⟨#[]⟩ ⟨#[]⟩;have h:db w (w.alloc (FC false ⟨#[]⟩ ⟨#[]⟩)):=(au _ w).alloc (ah _) _;go_wp2_with fail
  refine(H.o _).af ?_;rintro e q ⟨rfl,b⟩;have s:=r.aa b r.lt;have a:=h.trans (b.af h.size);go_wp2_with fail
  refine(A.o _).af ?_;rintro e v ⟨rfl,c⟩;have p:=s.aa c s.lt;have t:=a.trans (c.af a.size);obtain⟨j,l,m,f,d,g⟩:=p.facts;go_wp2;refine cP ((p.put _ _ _).result rfl _ rfl) rfl ?_;exact⟨rfl,fL t al _ _ _⟩
 ·obtain⟨n,rfl⟩:∃n:Nat,k=n:=⟨k.toNat,al⟩;rw[al1 n];have H:=aD (fun V=>JN (n:Int) V al al);rw[qE] at H;rw[PC];go_enter Tryz.func29,Tryz.ntmps29;have r:=aJ.at (w:=w) rfl false ⟨#[]⟩ ⟨#[]⟩;have h:db w (w.alloc (FC false ⟨#[]⟩ ⟨#[]⟩)):=(au _ w).alloc (ah _) _;go_wp2_with fail
  refine(H.o _).af ?_;rintro e q ⟨rfl,b⟩;have s:=r.aa b r.lt;have a:=h.trans (b.af h.size);obtain⟨j,l,m,f,d,g⟩:=s.facts;go_wp2;refine cP ((s.put _ _ _).result rfl _ rfl) rfl ?_;exact⟨rfl,fL a al _ _ _⟩
def Fits (m:Nat) (q:Rat):Prop:=∃(A:Int) (D:Nat),D≠0/\q=mkRat A D/\D<256^m/\A.natAbs<256^m
theorem SM (h:Fits m q):qw q<=2*m:=by
 obtain⟨A,D,a,rfl,b,c⟩:=h;rw[Rc a];have:=aco (n:=A) a;have d:(B A.natAbs).size<=m:=by rw[mY];exact rX m _ c
 have e:(B D).size<=m:=by rw[mY];exact rX m _ b
 omega
theorem JT (h:m<=n):256^m<=256^n:=kN bd h
theorem Y7 (n:Bool) (x y:ByteArray):Fits (x.size+y.size+1) (val n x y):=by
 by_cases h:N y=0
 ·refine⟨0,1,bd,by rw[L9 h,PQ],?_,?_⟩
  ·exact aO (by decide:1<256^1) (JT al)
  ·exact wk bd
 ·refine⟨sg n (N x),N y,h,rfl,aO (FU y) (JT al),?_⟩;rw[Qy];exact aO (FU x) (JT al)
theorem af2 (j:Fits m p) (l:Fits k q):Fits (m+k+1) (p+q):=by
 obtain⟨A,D,d,rfl,h,g⟩:=j;obtain⟨b,a,x,rfl,c,i⟩:=l;refine⟨A*a+b*D,D*a,Gt d x,Rat.mkRat_add_mkRat _ _ d x,?_,?_⟩
 ·have:D*a<256^m*256^k:=LP h c;rw[<- Ek] at this;exact aO this (JT al)
 ·have f:A.natAbs*a<256^m*256^k:=LP g c;have e:b.natAbs*D<256^k*256^m:=LP i h;rw[eB (256^k)] at e;rw[<- Ek] at f e
  have n:(A*a+b*D).natAbs<=A.natAbs*a+b.natAbs*D:=by
   refine aL (Int.natAbs_add_le _ _) ?_;rw[Int.natAbs_mul,Int.natAbs_mul];exact ah _
  rw[jw];omega
abbrev Fr:Type:=Bool×ByteArray×ByteArray
def FH (f:Fr):Rat:=val f.1 f.2.1 f.2.2
def fw:List Fr ->Nat
 |[]=>0
 |f::l=>f.2.1.size+f.2.2.size+2+fw l
def di (l:List Fr):Rat:=l.foldl (fun s f=>s+FH f) 0
theorem SE (l:List Fr) (f:Fr):di (l++[f])=di l+FH f:=by simp[di]
theorem YY (a b:List Fr):fw (a++b)=fw a+fw b:=by
 induction a with
 |nil=>simp[fw]
 |cons f a ih=>simp only[fS,fw,ih];omega
theorem afN (l:List Fr) (k:Nat):fw (l.take k)<=fw l:=by
 have:=YY (l.take k) (l.drop k);rw[yR] at this;omega
theorem SC {l:List Fr} {f:Fr} (h:f∈l):f.2.1.size+f.2.2.size+2<=fw l:=by
 induction l with
 |nil=>cases h
 |cons g l ih=>
  rcases bT.1 h with rfl |h
  ·simp only[fw];omega
  ·have:=ih h;simp only[fw];omega
theorem af1 (l:List Fr):Fits (fw l+1) (di l):=by
 induction l using JH with
 |h0=>exact⟨0,1,bd,(PQ _).symm,bd,bd⟩
 |h1 l f ih=>
  rw[SE,YY];have:=af2 ih (Y7 f.1 f.2.1 f.2.2);have e:fw l+1+(f.2.1.size+f.2.2.size+1)+1=fw l+fw [f]+1:=by simp only[fw];omega
  rwa [e] at this
theorem take_one {l:List Fr} (h:k<l.length):di (l.take (k+1))=di (l.take k)+FH l[k]:=by
 rw[im h,SE]
def cE (w:World) (a:Kd) (l:List Fr):Prop:=∀k (h:k<l.length),∃g o,a=some ⟨g,o,none⟩/\g<w.heap.size/\w.cell? ⟨g,o+k*3,none⟩=some (.bool l[k].1)/\w.cell? ⟨g,o+k*3+1,none⟩=some (.string l[k].2.1)/\w.cell? ⟨g,o+k*3+2,none⟩=some (.string l[k].2.2)
theorem cE.aa {l:List Fr} (h:cE w a l) (c:db w w'):cE w' a l:=fun k j=>by
 obtain⟨g,o,d,b,e,f,i⟩:=h k j;exact⟨g,o,d,aO b c.size,(c.cell (p:=⟨g,_,none⟩) b).trans e,(c.cell (p:=⟨g,_,none⟩) b).trans f,(c.cell (p:=⟨g,_,none⟩) b).trans i⟩
theorem Za (a:Kd) (cap:Nat) (l:List Fr) (w:World) (h:cE w a l) (u:∀k (h:k<l.length),l[k].2.1.size+l[k].2.2.size<=40000) (v:∀k,k<=l.length ->qw (di (l.take k))<=40000) (hn:l.length<=10000):
  da 105 #[.slice a l.length cap] w (du w (C (di l))):=by
 have F:=aD h;have L:=aD u;have Q:=aD v;clear h u v;have P:Hid (di (l.take l.length)=di l):=by show _=_;rw[iY]
 go_enter Tryz.func105,Tryz.ntmps105;have s:=aJ.at (w:=w) rfl false ⟨#[]⟩ ⟨#[]⟩;have n:db w (w.alloc (FC false ⟨#[]⟩ ⟨#[]⟩)):=(au _ w).alloc (ah _) _;go_wp2_with fail
 refine(V3 _).af ?_;rintro e x ⟨rfl,q⟩;have y:=s.aa q s.lt;have p:db w x:=n.trans (q.af n.size);clear s n q;rw[vZ];go_wp2_with fail
 have ab:=y.lt;go_loopw [9] (fun iv wr=>∃k:Nat,k<=l.length/\iv=.int .i64 k/\Hid (aJ wr x.heap.size (bK (di (l.take k))) (nu (di (l.take k))) (de (di (l.take k))))/\Hid (aJ wr w.heap.size false ⟨#[]⟩ ⟨#[]⟩)/\db w wr) (fun iv _=>l.length - (intOf iv).toNat)
 case atStart=>exact⟨0,aU _,rfl,aJ.at rfl _ _ _,y.alloc _,p.alloc p.size _⟩
 case round=>
  obtain⟨k,O,rfl,S,H,b⟩:=hrel;by_cases t:k<l.length
  ·obtain⟨g,o,rfl,hg,J,K,M⟩:=(F.o.aa b) k t;have A:=take_one t;have Z:=L.o k t;have T:=Q.o k O;have R:=A6 (di (l.take k));have E:=aD (fun V=>agc (bK (di (l.take k))) l[k].1 (nu (di (l.take k))) (de (di (l.take k))) l[k].2.1 l[k].2.2 V al al al al);rw[qG,show val l[k].1 l[k].2.1 l[k].2.2=FH l[k] from rfl, <- A] at E;have I:=S.o;clear S A Z T R;generalize l[k].1=fn at *;generalize l[k].2.1=fx at *;generalize l[k].2.2=fy at *;obtain⟨i,j,m,f,c,d⟩:=I.facts;have cR:=I.lt;go_wp2_with fail
   refine(E.o _).af ?_;rintro e U ⟨rfl,r⟩;have z:=(I.alloc (FC fn fx fy)).aa r (I.alloc (FC fn fx fy)).lt;have Y:=(H.o.alloc (FC fn fx fy)).aa r (H.o.alloc (FC fn fx fy)).lt;have D:=b.alloc b.size (FC fn fx fy);have X:db w U:=D.trans (r.af D.size);clear i j m f c d J K M;obtain⟨i,j,m,f,c,d⟩:=z.facts;rw[vZ];go_wp2;go_roundw
   case rel=>exact⟨k+1,al,b5,z.put _ _ _,Y.far3 al _ _ _,fL X p.size _ _ _⟩
   case measure=>simp[intOf];omega
  ·obtain rfl:k=l.length:=al
   have I:=S.o;rw[P.o] at I;obtain⟨i,j,m,f,c,d⟩:=I.facts;obtain⟨j0,j1,j2,i0,i1,i2⟩:=H.o.facts;go_wp2;refine cP ((H.o.put _ _ _).result rfl _ rfl) rfl ?_;exact⟨rfl,fL b (ah _) _ _ _⟩
theorem ap1 (a:Kd) (cap:Nat) (l:List Fr) (w:World) (h:cE w a l) (c:fw l<=10000) (n:l.length<=10000):
  da 105 #[.slice a l.length cap] w fun e w'=>e=.returned (C (di l))/\db w w':=
 Za a cap l w h (fun k b=>by have:=SC (bP b);omega) (fun k _=>by have:=SM (af1 (l.take k));have:=afN l k;omega) n
def kI (sizes vars:Kh) (m:Nat):Int:=if countB sizes vars=true then(if m=cnt (ag sizes) (ag vars) then 0 else 8) else 11
theorem aq5 {sizes vars:Kh} (h:countB sizes vars=false):kI sizes vars m=11:=aA (by rw[h];decide)
theorem aq6 {sizes vars:Kh} (h:countB sizes vars=true) (h1:¬m=cnt (ag sizes) (ag vars)):kI sizes vars m=8:=by rw[kI,aw h,aA h1]
theorem Zu {sizes vars:Kh} (h:countB sizes vars=true) (h1:m=cnt (ag sizes) (ag vars)):kI sizes vars m=0:=by rw[kI,aw h,aw h1]
abbrev TC (u v:Value):Obj:=.cells #[u,v] 38
def bw (w:World) (g:Nat) (u v:Value):Prop:=w.heap[g]? =some (.cells #[u,v] 38 (0,0))
theorem bw.c0 {u v:Value} (h:bw w g u v):w.cell? ⟨g,0,none⟩=some u:=by rw[bh w g 0 _ _ (0,0) h];rfl
theorem bw.c1 {u v:Value} (h:bw w g u v):w.cell? ⟨g,1,none⟩=some v:=by rw[bh w g 1 _ _ (0,0) h];rfl
theorem bw.lt {u v:Value} (h:bw w g u v):g<w.heap.size:=(dD.1 h).1
theorem bw.aa {B:Nat} {u v:Value} (h:bw w g u v) (b:Below B w w') (a:g<B):bw w' g u v:=(b.block g a).trans h
theorem bw.at (h:w.heap.size=g) (u v:Value):bw (w.alloc (TC u v)) g u v:=by
 subst h;exact eM _ _
theorem bw.alloc {u v:Value} (h:bw w g u v) (o:Obj):bw (w.alloc o) g u v:=(uK w o g h.lt).trans h
theorem GU (a b c:Kd) (ca cb cc m:Nat) (sizes vars:Kh) (w:World) (hs:aC w a sizes) (v:aC w b vars) (q:sizes.length<=140737488355328) (p:vars.length<=140737488355328):
  da 114 #[.slice a sizes.length ca,.agg #[.slice b vars.length cb,.slice c m cc]] w (du w (.int .i64 (kI sizes vars m))):=by
 have S:=hid hs;have j:=hid v;have H:=hid (fun V l n=>Qt a b ca cb sizes vars V l n q p);clear hs v;have d:db w (w.alloc (TC (.slice b vars.length cb) (.slice c m cc))):=(au _ w).alloc (ah _) _;have D:=bw.at (w:=w) rfl (.slice b vars.length cb) (.slice c m cc);cases hcb:countB sizes vars with
 |false=>
  have A:=hid (aq5 (m:=m) hcb);rw[KZ hcb] at H;simp only at H;generalize kI sizes vars m=r at *;go_enter Tryz.func114,Tryz.ntmps114;go_wp2_with fail
  refine(H.o _ (S.o.aa d) (j.o.aa d)).af ?_;rintro e s ⟨rfl,g⟩;have f:=d.trans (g.af d.size);go_wp2;go_ret;exact⟨by rw[A.o];rfl,f⟩
 |true=>
  have k:=hid (fun h=>aq6 (m:=m) hcb h);have Y:=hid (fun h=>Zu (m:=m) hcb h);rw[KY hcb] at H;simp only at H;obtain⟨Q,T⟩:=Zl hcb;have F:cnt (ag sizes) (ag vars)<=65536:=wY Q.sz_le (by rw[fT];have:=Q.eight;have:=T.length;omega);clear hcb Q T;generalize kI sizes vars m=r at *;generalize cnt (ag sizes) (ag vars)=i at *;go_enter Tryz.func114,Tryz.ntmps114;go_wp2_with fail
  refine(H.o _ (S.o.aa d) (j.o.aa d)).af ?_;rintro e s ⟨rfl,g⟩;have f:=d.trans (g.af d.size);have x:=D.aa g D.lt;have y:=x.c0;have z:=x.c1;by_cases h:m=i
  ·have E:=hid (Y.o h);subst h;go_wp2;go_ret;exact⟨by rw[E.o];rfl,f⟩
  ·have E:=hid (k.o h);(have t:((m:Int)==(i:Int))=false:=by simp;omega);(have u:¬(m:Int)=(i:Int):=al);go_wp2;go_ret;exact⟨by rw[E.o];rfl,f⟩
def sM (l:Ki) (i:Nat):Ki:=l.take i++List.replicate (l.length - i) 0
theorem acQ (l:Ki):sM l 0=List.replicate l.length 0:=by simp[sM]
theorem QU (l:Ki) (h:i<=l.length):(sM l i).length=l.length:=by simp[sM];omega
theorem acS (l:Ki):sM l l.length=l:=by simp[sM]
theorem acR (l:Ki) (h:i<l.length):(sM l i).set i l[i]=sM l (i+1):=by
 rw[sM,sM,Gv _ _ (by simp;omega),im h];have e:l.length - i=(l.length - (i+1))+1:=al
 rw[e,LU,eW,wm al,rz,CA,ny];rfl
def iL (l:Ki):Kh:=l.map fun x:Nat=>(x:Int)
theorem bL (l:Ki):(iL l).length=l.length:=by simp[iL]
theorem iJ (l:Ki):ag (iL l)=l:=by simp[ag,iL,Function.comp_def]
theorem dK.ints {l:Ki} (h:dK w g l):aC w (some ⟨g,0,none⟩) (iL l):=fun k a=>by
 rw[bL] at a;refine⟨g,0,rfl,h.lt,?_⟩;rw[bH,h.cell k a];simp[iL]
section
open Go.Shelf
attribute [local go_sem] Oper.semAt_some
variable {Bn:Nat}
def IG (B:Nat) (w:World) (a:Kd) (l:Kh):Prop:=∀k (h:k<l.length),∃g o,a=some ⟨g,o,none⟩/\g<B/\w.cell? ⟨g,o+k,none⟩=some (.int .i64 l[k])
theorem IG.aa {B:Nat} (h:IG B w a l) (e:Below B w w'):IG B w' a l:=fun k f=>by
 obtain⟨g,o,c,b,d⟩:=h k f;exact⟨g,o,c,b,(e.cell (p:=⟨g,_,none⟩) b).trans d⟩
theorem aC.toB (h:aC w a l):IG w.heap.size w a l:=h
def vH (Bn B:Nat) (V V':World):Prop:=qg Bn V V'/\Below B V V'
theorem vH.t {B:Nat} {X Y Z:World} (h:vH Bn B X Y) (k:vH Bn B Y Z):vH Bn B X Z:=⟨h.1.t k.1,h.2.trans k.2⟩
theorem vH.b {B:Nat} (n:Bn<w.heap.size) (e:B<=w.heap.size) (V:World) (l:Nat) (o a:Obj) (d:w.heap.size<=l) (h1:V.heap[l]? =some o) (h:o.isCells=false) (c:o.isWalk=false):vH Bn B V (V.putObj l a):=
 ⟨qg.b n V l o a d h1 h c,xH e V l o a d h1 h c⟩
def oU (n k:Nat):Ki:=(List.range k).map fun j=>n - 1 - j
theorem Tc (n k:Nat):oU n (k+1)=oU n k++[n - 1 - k]:=by simp[oU,uI]
theorem arH (n k:Nat):(oU n k).length=k:=by simp[oU]
abbrev At (l:Kh):Type:= {i:Nat//i<l.length}
abbrev ZC (l:Kh) (x:At l):Array Value:= #[.int .i64 (x.1:Nat),.int .i64 (l[x.1]'x.2)]
theorem arG (n:Nat) (Q:1<=n) (l Bn B:Nat) (a:Kd) (cap:Nat) (xs:Kh) (P:xs.length<=140737488355328) (J c:List (At xs) ->World ->Prop)
  (Y:∀p x V,J p V ->p.length<xs.length ->YieldAt Fence.wide (n - 1) Tryz.prog l (ZC xs x) V fun e V'=>
   (e=.returned (.bool true)/\J (p++[x]) V'/\vH Bn B V V')∨(e=.returned (.bool false)/\c (p++[x]) V'))
  (V:World) (q:V.cell? ⟨Bn,0,none⟩=some (.slice a xs.length cap)) (d:IG B V a xs) (h0:J [] V):
  CallsIn Fence.wide n Tryz.prog 263 #[.func (.yield l) #[] #[],.pointer (some ⟨Bn,0,none⟩)] V fun e V'=>(∃v,e=.returned v)/\
   ((∃s:List (At xs),s.map (·.1)=oU xs.length xs.length/\J s V')∨(∃p:List (At xs),(∃k,k<=xs.length/\p.map (·.1)=oU xs.length k)/\c p V')):=by
 have X:=hid d;clear d;refine Jl Tryz.func263 rfl trivial ?_ rfl;simp only[Tryz.ntmps263,mj,dV,lD,Nat.reduceAdd,Nat.reduceSub,om,oh,nY,np,fX,fS];gi_wp2
 gi_loopw [3] (fun i wr=>∃(k:Nat) (p:List (At xs)),k<=xs.length/\i=.int .i64 ((xs.length:Int) - 1 - (k:Int))/\Hid (p.map (·.1)=oU xs.length k)/\J p wr/\wr.cell? ⟨Bn,0,none⟩=some (.slice a xs.length cap)/\Hid (IG B wr a xs))
  (fun i _=>(intOf i+1).toNat)
 case atStart=>exact⟨0,[],aU _,aE,rfl,h0,q,X⟩
 case round=>
  obtain⟨k,p,O,rfl,H,f,D,b⟩:=hrel;by_cases U:k<xs.length
  ·have Z:p.length=k:=by have:=ed List.length H.o;rwa [cH,arH] at this
   (have h:xs.length - 1 - k<xs.length:=al);obtain⟨fn,ad,ae,ab,y,R⟩:=Y p ⟨xs.length - 1 - k,h⟩ wr f al;obtain⟨g,o,rfl,M,L⟩:=b.o (xs.length - 1 - k) h;(have S:Hid ((p++[(⟨xs.length - 1 - k,h⟩:At xs)]).map (·.1)=oU xs.length (k+1)):=by show _=_;rw[eh,H.o,Tc];rfl);have m:=hid R;clear R;rw[ZC] at y;simp only at y;(have w:Hid ((xs.length:Int) - 1 - ((k+1:Nat):Int)=(xs.length:Int) - 1 - (k:Int) - 1):=by show _=_;omega);(have F:(xs.length:Int) - 1 - (k:Int)=((xs.length - 1 - k:Nat):Int):=al);rw[F];have z:=hid F;clear F;have K:xs.length - 1 - k<xs.length:=h;generalize hEn:xs[xs.length - 1 - k]=T at *;generalize YE:xs.length - 1 - k=E at *;gi_wp2
   refine m.o.af ?_;rintro e W3 (⟨rfl,A,j⟩ |⟨rfl,I⟩)
   ·have r:=Eq.trans j.1 D;have t:=b.o.aa j.2;gi_wp2
    go_roundw
    case rel=>exact⟨k+1,_,al,by rw[w.o,z.o],S,A,r,t⟩
    case measure=>simp[intOf]
   ·gi_wp2
    refine cP (results_none rfl _ _ _) rfl ?_;exact⟨⟨_,rfl⟩,.inr ⟨_,⟨k+1,al,S.o⟩,I⟩⟩
  ·obtain rfl:k=xs.length:=al
   (have u:(xs.length:Int) - 1 - (xs.length:Int)= -1:=al);rw[u];gi_wp2
   go_end0
   exact⟨⟨_,rfl⟩,.inl ⟨_,H.o,f⟩⟩
end
end Go.Proofs.YtkflnpjapgiajaaGreatDoor
